import Derived.Test.YtkaiglhljpehpabGreatDoorRows
import Derived.Test.YtkaiglhljpehpabGreatDoorPart1
import Derived.Test.YtkaiglhljpehpabGreatDoorPart13
import Derived.Test.YtkaiglhljpehpabGreatDoorPart7
import Derived.WalkKit
import Derived.WalkSpells
import Derived.Deep.RegionLawGrows
import Derived.Deep.RegionHeld3
import Derived.Deep.AppendLies
import Derived.Deep.Quiet
import Derived.Test.YtkaiglhljpehpabGreatDoorPart2
import Derived.Test.YtkaiglhljpehpabGreatDoorPart3
import Derived.Test.YtkaiglhljpehpabGreatDoorPart4
import Derived.Test.YtkaiglhljpehpabGreatDoorPart5
import Derived.Test.YtkaiglhljpehpabGreatDoorPart6
import Derived.Test.YtkaiglhljpehpabGreatDoorPart8
import Derived.Test.YtkaiglhljpehpabGreatDoorPart12
import Derived.Test.YtkaiglhljpehpabGreatDoorPart9
import Derived.BigQuiet
import Derived.Deep.QuietTactic
import Derived.Deep.RegionWith

/- Contract of spec.l01Own: the disk as it was, in new memory. -/
namespace Go.Proofs.YtkaiglhljpehpabGreatDoor
open Go.RowKit
set_option linter.unusedVariables false
set_option maxRecDepth 100000

/-- The cells of a slice's texts, of its writes, for an append. -/
theorem Ss.src {w : World} {ao : Option Addr} {ss : List ByteArray} (h : Ss w ao ss) : 0 < ss.length → ∃ ad, ao = some ad ∧ ∀ j u, (strV ss)[j]? = some u → w.cell? (ad.add j) = some u := fun hp => by
  obtain ⟨b, off, rfl, hc⟩ := h.at hp
  exact ⟨_, rfl, hc⟩
theorem Ios.src {w : World} {ao : Option Addr} {xs : List Wr} (h : Ios w ao xs) : 0 < xs.length → ∃ ad, ao = some ad ∧ ∀ j u, (ioV xs)[j]? = some u → w.cell? (ad.add j) = some u := fun hp => by
  obtain ⟨b, off, rfl, hc⟩ := h.at hp
  exact ⟨_, rfl, hc⟩


theorem VarD.free {w : World} {x : Nat} {a b : Value} (h : VarD w x a b) (i : Nat) : w.frozen? ⟨x, i, none⟩ = false := Joins.unfrozen_of_block h i

end Go.Proofs.YtkaiglhljpehpabGreatDoor

/- Variables that hold a write; ends of calls that answer with a disk. -/
namespace Go.Proofs.YtkaiglhljpehpabGreatDoor
open Go.RowKit
set_option linter.unusedVariables false

def wrV (x : Wr) : List Value := [.int .i64 x.host, .int .i64 x.at_, .string x.data]
theorem wrV_one (x : Wr) : ∀ u ∈ wrV x, u.oneCell' = true := by
  intro u hu
  simp [wrV] at hu
  rcases hu with rfl | rfl | rfl <;> rfl
/-- A variable that holds a write. -/
def VarI (w : World) (y : Nat) (x : Wr) : Prop := w.heap[y]? = some (.cells #[.int .i64 x.host, .int .i64 x.at_, .string x.data] 74 (0, 0))
theorem VarI.lt {w : World} {y : Nat} {x : Wr} (h : VarI w y x) : y < w.heap.size := (Array.getElem?_eq_some_iff.1 h).1
theorem VarI.cells {w : World} {y : Nat} {x : Wr} (h : VarI w y x) : w.cell? ⟨y, 0, none⟩ = some (.int .i64 x.host) ∧ w.cell? ⟨y, 1, none⟩ = some (.int .i64 x.at_) ∧ w.cell? ⟨y, 2, none⟩ = some (.string x.data) := ⟨by rw [Joins.cell_of_block h]; rfl, by rw [Joins.cell_of_block h]; rfl, by rw [Joins.cell_of_block h]; rfl⟩
theorem VarI.below {w w' : World} {y : Nat} {x : Wr} (h : VarI w y x) (hb : Below w.heap.size w w') : VarI w' y x := by
  unfold VarI; rw [hb.block y h.lt]; exact h
theorem VarI.new (w : World) (x : Wr) : VarI (w.alloc (.cells #[.int .i64 x.host, .int .i64 x.at_, .string x.data] 74)) w.heap.size x := heap_alloc_new w _
theorem VarI.news {w : World} {y : Nat} {x : Wr} (h : VarI w y x) : ∀ j u, (wrV x)[j]? = some u → w.cell? ((⟨y, 0, none⟩ : Addr).add j) = some u := World.news_of_block (cs := #[.int .i64 x.host, .int .i64 x.at_, .string x.data]) h
theorem VarI.top {W : World} {y : Nat} {x : Wr} (h : W.heap.size = y) : VarI (W.alloc (.cells #[.int .i64 x.host, .int .i64 x.at_, .string x.data] 74)) y x := by rw [← h]; exact VarI.new W x
theorem VarI.under {W : World} {y : Nat} {x : Wr} (h : VarI W y x) (o : Obj) : VarI (W.alloc o) y x := h.below (Joins.below_alloc1 _ _)
theorem VarI.drew {W : World} {y : Nat} {x : Wr} (h : VarI W y x) : VarI W.drew y x := h
theorem VarI.grown {W W' : World} {y : Nat} {x : Wr} (h : VarI W y x) (hg : W.grownBy W' none) : VarI W' y x := by
  unfold VarI; rw [hg.block y h.lt (by simp)]; exact h
theorem ioV_snoc (xs : List Wr) (x : Wr) : ioV (xs ++ [x]) = ioV xs ++ wrV x := by simp [ioV, wrV]

theorem belowKp {W0 W W' : World} {S : Nat → Prop} (h : Below W0.heap.size W0 W) (hk : Keep S W W') (hs : ∀ j, S j → W0.heap.size ≤ j) : Below W0.heap.size W0 W' := h.trans (hk.below h.size hs)
theorem zeroD_own {w : World} {B : Nat} : OwnD w B none 0 0 none 0 0 [] [] := ⟨.inl ⟨rfl, rfl, none, rfl⟩, .inl ⟨rfl, rfl, none, rfl⟩⟩
theorem zero_end {w wL : World} (hb : Below w.heap.size w wL) (a b : Value) : Below w.heap.size w ((wL.setCell ⟨w.heap.size + 1, 0, none⟩ a).setCell ⟨w.heap.size + 1, 1, none⟩ b) :=
  (hb.setCell (p := ⟨w.heap.size + 1, 0, none⟩) (by simp) a).setCell (p := ⟨w.heap.size + 1, 1, none⟩) (by simp) b

theorem ask_zero (ss : List ByteArray) (xs : List Wr) (h : Int) : askC ss xs h 0 = hostC ss xs h := by
  unfold askC
  split
  · rename_i e; rw [e]; rfl
  · rfl
/-- A disk's answer through the cell of the result. -/
theorem land_end {w wL : World} {po qo : Option Addr} {n pa m qa : Nat} {ss : List ByteArray} {xs : List Wr} {B : Nat} (ho : OwnD wL B po n pa qo m qa ss xs) (hB : w.heap.size + 2 ≤ B) (hb : Below w.heap.size w wL) (a b : Value) :
    OwnD ((wL.setCell ⟨w.heap.size + 1, 0, none⟩ a).setCell ⟨w.heap.size + 1, 1, none⟩ b) w.heap.size po n pa qo m qa ss xs ∧ Below w.heap.size w ((wL.setCell ⟨w.heap.size + 1, 0, none⟩ a).setCell ⟨w.heap.size + 1, 1, none⟩ b) :=
  copyD_end (ho.base hB) hb a b

end Go.Proofs.YtkaiglhljpehpabGreatDoor

/- A region that draws its order, whose operations only read, and whose callees may lay memory of their own: one walk in the order of the text, at the class of worlds behind a given one. -/
namespace Go.Proofs.YtkaiglhljpehpabGreatDoor
open Go.RowKit
set_option linter.unusedVariables false

section
variable {P : Program} {ops : Array Oper}
abbrev CB (W : World) : World → Prop := fun w => Below W.heap.size W w
theorem quiet_val {W : World} {Q : Act → Prop} {a : Act} {o : Oper} {rest : List Oper} (v : Value) (hg : o.guard = none) (hv : ∀ w, Below W.heap.size W w → (execOp a.eval o).run P w = .ok (.value v) w) (h : wpQuiet P ops (CB W) Q rest (a.put o.dst v)) : wpQuiet P ops (CB W) Q (o :: rest) a := by
  refine wpQuiet_step fun K hK => ?_
  rw [if_pos (by simp [Region.wanted, hg])]
  refine ⟨v, fun w hw => ?_, hK _ h⟩
  unfold Oper.quietAt
  rw [hv w hw]
  exact ⟨rfl, rfl⟩
theorem quiet_call {W : World} {Q : Act → Prop} {a : Act} {o : Oper} {rest : List Oper} (v : Value) (f : FuncId) (args : Array Value) (hg : o.guard = none) (hv : ∀ w, (execOp a.eval o).run P w = .ok (.enter f args) w) (hc : ∀ w, Below W.heap.size W w → Calls P f args w fun e w' => e = .returned v ∧ Below w.heap.size w w') (h : wpQuiet P ops (CB W) Q rest (a.put o.dst v)) : wpQuiet P ops (CB W) Q (o :: rest) a := by
  refine wpQuiet_step fun K hK => ?_
  rw [if_pos (by simp [Region.wanted, hg])]
  refine ⟨v, fun w hw => ?_, hK _ h⟩
  unfold Oper.quietAt
  rw [hv w]
  exact ⟨rfl, (hc w hw).mono fun e w' ⟨he, hb⟩ => ⟨he, fr hw hb⟩⟩
theorem wp_region_cb {id : Nat} {Q : Exit → Act → World → Prop} {a : Act} {w : World} {l : List Oper} (hm : P.follows .mixedOrders = true) (hB : Region.lexB .any l.toArray = true)
    (h : wpQuiet P l.toArray (CB w) (fun a' => ∀ w', Below w.heap.size w w' → Q .normal a' w') l a) : (Code.region id l.toArray true).wp P Q a w :=
  wp_region_quiet (C := CB w) hm hB (Below.refl _ w).drew (by simpa using h)
end

end Go.Proofs.YtkaiglhljpehpabGreatDoor

/- Contracts of the model's ReadCluster, WriteCluster. (Made ahead of stage 10.) -/
namespace Go.Proofs.YtkaiglhljpehpabGreatDoor
open Go.RowKit
set_option linter.unusedVariables false
set_option maxRecDepth 100000

/-- What the calls answer. -/
def rcA (m : Img) (g : Int) : Int × Int := if imB m = true then (if betw g 0 ((m.table.length : Int) - 1) = true then (imVal m (m.table.getD g.toNat 0), 0) else (0, 4)) else (0, 1)
def wcA (m : Img) (g v : Int) : Img × Int := if imB m = true then (if betw g 0 ((m.table.length : Int) - 1) = true ∧ numB v = true then imWrite m g.toNat v else (m, 4)) else (im0, 1)
def zcA (m : Img) (g : Int) : Img × Int := if imB m = true then (if betw g 0 ((m.table.length : Int) - 1) = true then (imZero m g.toNat, 0) else (m, 4)) else (im0, 1)
def rsA' (m : Img) (n : Int) : Img × Int := if imB m = true then (if betw n 0 12 = true then (imResize m n.toNat, 0) else (m, 4)) else (im0, 1)
/-- The entry's variable, the result's beside it. -/
structure ImE (w W : World) (a : Im4) (m : Img) : Prop where
  v : VarM W w.heap.size 30 (.slice a.ro m.refs.length a.rc) (.slice a.tq m.table.length a.tc) (.slice a.so m.snaps.length a.sc) (.slice a.dq m.data.length a.dc)
  r : VarM W (w.heap.size + 1) 30 (.slice none 0 0) (.slice none 0 0) (.slice none 0 0) (.slice none 0 0)
  s : ImS W a m
  b : Below w.heap.size w W
theorem ImE.new (w : World) (a : Im4) (m : Img) (h : ImS w a m) : ImE w ((w.alloc (.cells #[.slice a.ro m.refs.length a.rc, .slice a.tq m.table.length a.tc, .slice a.so m.snaps.length a.sc, .slice a.dq m.data.length a.dc] 30)).alloc (.cells #[.slice none 0 0, .slice none 0 0, .slice none 0 0, .slice none 0 0] 30)) a m :=
  ⟨(VarM.new w _ _ _ _ _).below (Joins.below_alloc1 _ _), (VarM.new (w.alloc _) _ _ _ _ _).at (by simp), h.below (Joins.below_alloc2 _ _ _), Joins.below_alloc2 _ _ _⟩
theorem ImE.below {w W W' : World} {a : Im4} {m : Img} (h : ImE w W a m) (hb : Below W.heap.size W W') : ImE w W' a m := ⟨h.v.below hb, h.r.below hb, h.s.below hb, fr h.b hb⟩
/-- A result that is put. -/
theorem ImE.put {w W W' : World} {a : Im4} {m : Img} (h : ImE w W a m) (hb : Below W.heap.size W W') {a' : Im4} {m' : Img} {ts : List Value} (ho : OwnIm W' W.heap.size a' m' ts) :
    VarM (putI W' (w.heap.size + 1) a' m') (w.heap.size + 1) 30 (.slice a'.ro m'.refs.length a'.rc) (.slice a'.tq m'.table.length a'.tc) (.slice a'.so m'.snaps.length a'.sc) (.slice a'.dq m'.data.length a'.dc) ∧ OwnIm (putI W' (w.heap.size + 1) a' m') w.heap.size a' m' ts ∧ Below w.heap.size w (putI W' (w.heap.size + 1) a' m') := by
  obtain ⟨h1, h2, h3⟩ := ImSt.put (h.r.below hb) ho (fr h.b hb) (Nat.le_succ _) h.r.lt a' m'
  exact ⟨h1, h2.base h.b.size, h3⟩
/-- The empty image as a result. -/
theorem ImE.zero {w W : World} {a : Im4} {m : Img} (h : ImE w W a m) :
    VarM ((((W.setCell ⟨w.heap.size + 1, 0, none⟩ (.slice none 0 0)).setCell ⟨w.heap.size + 1, 1, none⟩ (.slice none 0 0)).setCell ⟨w.heap.size + 1, 2, none⟩ (.slice none 0 0)).setCell ⟨w.heap.size + 1, 3, none⟩ (.slice none 0 0)) (w.heap.size + 1) 30 (.slice none 0 0) (.slice none 0 0) (.slice none 0 0) (.slice none 0 0) ∧
    Below w.heap.size w ((((W.setCell ⟨w.heap.size + 1, 0, none⟩ (.slice none 0 0)).setCell ⟨w.heap.size + 1, 1, none⟩ (.slice none 0 0)).setCell ⟨w.heap.size + 1, 2, none⟩ (.slice none 0 0)).setCell ⟨w.heap.size + 1, 3, none⟩ (.slice none 0 0)) :=
  ⟨(((h.r.set0 _).set1 _).set2 _).set3 _, (((h.b.setCell (p := ⟨w.heap.size + 1, 0, none⟩) (Nat.le_succ _) _).setCell (p := ⟨w.heap.size + 1, 1, none⟩) (Nat.le_succ _) _).setCell (p := ⟨w.heap.size + 1, 2, none⟩) (Nat.le_succ _) _).setCell (p := ⟨w.heap.size + 1, 3, none⟩) (Nat.le_succ _) _⟩
/-- An answer: an image of its own and a code. -/
def AnsI (w w' : World) (e : Ending) (R : Img × Int) : Prop := ∃ a ts, e = .returned (.tuple #[imV a R.1, .int .i64 R.2]) ∧ OwnIm w' w.heap.size a R.1 ts ∧ Below w.heap.size w w'
theorem AnsI.of {w w' : World} {v : Value} {c : Int} {R : Img × Int} {a : Im4} {ts : List Value} (hv : v = imV a R.1) (hc : c = R.2) (ho : OwnIm w' w.heap.size a R.1 ts) (hb : Below w.heap.size w w') : AnsI w w' (.returned (.tuple #[v, .int .i64 c])) R := ⟨a, ts, by rw [hv, hc], ho, hb⟩
theorem AnsI.bad {w w' : World} (c : Int) (hb : Below w.heap.size w w') : AnsI w w' (.returned (.tuple #[.agg #[.slice none 0 0, .slice none 0 0, .slice none 0 0, .slice none 0 0], .int .i64 c])) (im0, c) := ⟨⟨none, 0, none, 0, none, 0, none, 0⟩, [], rfl, OwnIm.zero _ _, hb⟩

end Go.Proofs.YtkaiglhljpehpabGreatDoor

/- The walk of laws.FnExactReadImage, given what both functions answer. (Made ahead of stage 11.) -/
namespace Go.Proofs.YtkaiglhljpehpabGreatDoor
open Go.RowKit
set_option linter.unusedVariables false

theorem eqSameR (ao bo co do_ : Option Addr) (ca cb cc cd : Nat) (ss : List ByteArray) (xs : List Wr) (w : World) (hl : ss.length ≤ maxLen) (hm : xs.length ≤ maxLen) (h1 : Ss w ao ss) (h2 : Ios w bo xs) (h3 : Ss w co ss) (h4 : Ios w do_ xs) :
    Calls Tryz.prog 9 #[.agg #[.slice ao ss.length ca, .slice bo xs.length cb], .agg #[.slice co ss.length cc, .slice do_ xs.length cd]] w fun e w' => e = .returned (.bool true) ∧ Below w.heap.size w w' := by
  have h := eqDisk_any ao bo co do_ ca cb cc cd ss ss xs xs w hl hm h1 h2 h3 h4
  rw [eqB_self] at h
  exact h
/-- A disk's rows are turned: an image beside it stays. -/
theorem LwV.keepD {W W' : World} {p n B k ca m' cb : Nat} {a : Im4} {m : Img} {ts : List Value} {ao bo : Option Addr} {ss : List ByteArray} {xs : List Wr} (h : LwV W p n a m ts) (ho : OwnD W B ao k ca bo m' cb ss xs) (hk : Keep (OwnB ao k ca bo m' cb) W W') (hs : ∀ g, ImB a m ts g → ¬ OwnB ao k ca bo m' cb g) : LwV W' p n a m ts :=
  ⟨(hk.block p h.v.lt (ho.other h.v (by decide) (by decide))).trans h.v, h.o.keep hk hs, Nat.le_trans h.n hk.size⟩

set_option maxRecDepth 100000 in
set_option maxHeartbeats 3200000 in
theorem lawReadImage (ao bo : Option Addr) (ca cb : Nat) (ss : List ByteArray) (xs : List Wr) (h : Int) (R : Img) (C : Int) (w : World) (hl : ss.length ≤ maxLen) (hm : xs.length ≤ maxLen) (hc : Ss w ao ss) (hd : Ios w bo xs) (hRD : ImBd R)
    (hspec : ∀ (po qo : Option Addr) (pa qa : Nat) (W : World), Below w.heap.size w W → Ss W po ss → Ios W qo xs → Calls Tryz.prog 5 #[.agg #[.slice po ss.length pa, .slice qo xs.length qa], .int .i64 h] W fun e w' => AnsI W w' e (R, C))
    (himpl : ∀ (po qo : Option Addr) (pa qa : Nat) (W : World), Below w.heap.size w W → Ss W po ss → Ios W qo xs → Calls Tryz.prog 7 #[.agg #[.slice po ss.length pa, .slice qo xs.length qa], .int .i64 h] W fun e w' => AnsI W w' e (R, C)) :
    Calls Tryz.prog 3 #[.agg #[.slice ao ss.length ca, .slice bo xs.length cb], .int .i64 h] w fun e w' => e = .returned (.bool true) ∧ Below w.heap.size w w' := by
  have HA := hide (Joins.below_alloc1 w (.cells #[.slice ao ss.length ca, .slice bo xs.length cb] 25))
  have HC := hide (hc.below (unhide HA))
  have HD := hide (hd.below (unhide HA))
  have HL := hide hl
  have HM := hide hm
  have HRD := hide hRD
  have HRS := hide hRD.zs
  have HSP := hide hspec
  have HIM := hide himpl
  have bcc : (C != C) = false := by simp
  clear hc hd hl hm hRD hspec himpl
  have hcell : ∀ w', Below (w.alloc (.cells #[.slice ao ss.length ca, .slice bo xs.length cb] 25)).heap.size (w.alloc (.cells #[.slice ao ss.length ca, .slice bo xs.length cb] 25)) w' → w'.cell? ⟨w.heap.size, 0, none⟩ = some (.slice ao ss.length ca) ∧ w'.cell? ⟨w.heap.size, 1, none⟩ = some (.slice bo xs.length cb) :=
    fun w' h => ⟨(h.cell (by simp)).trans (by simp [go_sem]), (h.cell (by simp)).trans (by simp [go_sem])⟩
  have HCELL := hide hcell
  clear hcell
  go_enter Tryz.func3, Tryz.ntmps3
  go_upto_region 2 with fail
  revert HCELL
  revert HD
  revert HC
  revert HA
  generalize (w.alloc _) = W0
  intro HA HC HD HCELL
  obtain ⟨hc0, hc1⟩ := unhide HCELL _ (Below.refl _ W0)
  go_wp2_with fail
  refine (szDisk_any ao bo ca cb ss xs 1048576 _ (unhide HL) (unhide HM) (unhide HC) (unhide HD) (by omega) (by omega)).mono ?_
  rintro e w1 ⟨r, rfl, hr0, hr1, hr2, hb1⟩
  have HB1 := hide hb1
  clear hb1 hc0 hc1
  by_cases hr : r < 0
  · go_wp2
    go_ret
    exact ⟨rfl, fr (unhide HA) (unhide HB1)⟩
  have hq := hr2 (by omega)
  have hls : ss.length ≤ 1048576 := by omega
  have hlx : xs.length ≤ 1048576 := by omega
  clear hr2 hq
  have HZS := hide (unhide HC).sizes
  have HZX := hide (unhide HD).sizes
  obtain ⟨hc0, hc1⟩ := unhide HCELL _ (unhide HB1)
  -- the model's answer
  go_wp2_with fail
  refine (toDisk_any ao bo ca cb ss xs _ hls hlx ((unhide HC).below (unhide HB1)) ((unhide HD).below (unhide HB1))).mono ?_
  rintro e w2 ⟨g2, k2, rfl, ho, hp, hb2⟩
  have HS2 := hide (ownS ho (unhide HZS))
  have HX2 := hide (ownI hp (unhide HZX))
  have HB2 := hide (fr (unhide HB1) hb2)
  clear ho hp hb2 hc0 hc1
  go_wp2_with fail
  refine (unhide HSP _ _ _ _ _ (fr (unhide HA) (unhide HB2)) (unhide HS2) (unhide HX2)).mono ?_
  rintro e w3 ⟨aW, tsW, rfl, hoW, hb3⟩
  simp only at hoW ⊢
  have HNW := hide (LwV.new w3 aW R hoW hb3.size)
  have HB3 := hide (fr (fr (unhide HB2) hb3) (Joins.below_alloc1 w3 (.cells #[.slice aW.ro R.refs.length aW.rc, .slice aW.tq R.table.length aW.tc, .slice aW.so R.snaps.length aW.sc, .slice aW.dq R.data.length aW.dc] 30)))
  clear hoW hb3 HS2 HX2 HB2
  go_upto_region 6 with fail
  revert HB3
  revert HNW
  generalize (w3.alloc _) = W3
  generalize w3.heap.size = pW
  intro HNW HB3
  -- the program's copy and its answer
  obtain ⟨hc0, hc1⟩ := unhide HCELL _ (unhide HB3)
  go_wp2_with fail
  refine (toDisk_any ao bo ca cb ss xs _ hls hlx ((unhide HC).below (unhide HB3)) ((unhide HD).below (unhide HB3))).mono ?_
  rintro e w4 ⟨g4, k4, rfl, ho, hp, hb4⟩
  have HA4 := hide (Joins.below_alloc1 w4 (.cells #[.slice (some ⟨g4, 0, none⟩) ss.length ss.length, .slice (some ⟨k4, 0, none⟩) xs.length xs.length] 35))
  have HO4 : Hid (OwnD (w4.alloc (.cells #[.slice (some ⟨g4, 0, none⟩) ss.length ss.length, .slice (some ⟨k4, 0, none⟩) xs.length xs.length] 35)) W3.heap.size (some ⟨g4, 0, none⟩) ss.length ss.length (some ⟨k4, 0, none⟩) xs.length xs.length ss xs) := hide (OwnD.below ⟨OwnR.of ho (fun e => ⟨_, by rw [e]⟩), OwnR.of hp (fun e => ⟨_, by rw [e]⟩)⟩ (unhide HA4))
  have HX4 := hide (VarD.new w4 (.slice (some ⟨g4, 0, none⟩) ss.length ss.length) (.slice (some ⟨k4, 0, none⟩) xs.length xs.length))
  have HNW4 := hide ((unhide HNW).below (fr hb4 (unhide HA4)))
  have HB4 := hide (fr (unhide HB3) (fr hb4 (unhide HA4)))
  have HN34 := hide (fr hb4 (unhide HA4)).size
  have HWX : Hid (∀ g, ImB aW R tsW g → g < W3.heap.size) := hide (fun g hg => ((unhide HNW).o.ge g hg).2)
  have HSL : Hid (W0.heap.size ≤ W3.heap.size) := hide (unhide HB3).size
  clear ho hp hb4 hc0 hc1 HNW HB3
  go_upto_region 7 with fail
  clear HA4
  revert HN34
  revert HB4
  revert HNW4
  revert HX4
  revert HO4
  generalize (w4.alloc _) = W4
  generalize w4.heap.size = pX
  intro HO4 HX4 HNW4 HB4 HN34
  generalize W3.heap.size = n3 at *
  obtain ⟨hx0, hx1⟩ := (unhide HX4).cells
  go_wp2_with fail
  refine (unhide HIM _ _ _ _ _ (fr (unhide HA) (unhide HB4)) ((unhide HO4).ss (unhide HZS)) ((unhide HO4).ios (unhide HZX))).mono ?_
  rintro e w5 ⟨aG, tsG, rfl, hoG, hb5⟩
  simp only at hoG ⊢
  have HB5' := hide (fr hb5 (Joins.below_alloc1 w5 (.cells #[.slice aG.ro R.refs.length aG.rc, .slice aG.tq R.table.length aG.tc, .slice aG.so R.snaps.length aG.sc, .slice aG.dq R.data.length aG.dc] 30)))
  have HNG5 := hide (LwV.new w5 aG R hoG hb5.size)
  have HNW5 := hide ((unhide HNW4).below (unhide HB5'))
  have HO5 := hide ((unhide HO4).below (unhide HB5'))
  have HX5 := hide ((unhide HX4).below (unhide HB5'))
  have HB5 := hide (fr (unhide HB4) (unhide HB5'))
  have HOX : Hid (∀ g, OwnB (some ⟨g4, 0, none⟩) ss.length ss.length (some ⟨k4, 0, none⟩) xs.length xs.length g → n3 ≤ g ∧ g < W4.heap.size) := hide (unhide HO4).ge
  have HN4 : Hid (W0.heap.size ≤ W4.heap.size) := hide (unhide HB4).size
  clear hoG hb5 hx0 hx1 HNW4 HO4 HX4 HB4
  go_upto_region 8 with fail
  clear HB5'
  revert HB5
  revert HX5
  revert HO5
  revert HNW5
  revert HNG5
  generalize (w5.alloc _) = W5
  generalize w5.heap.size = pG
  intro HNG5 HNW5 HO5 HX5 HB5
  generalize W4.heap.size = n4 at *
  obtain ⟨c0, c1, c2, c3⟩ := (unhide HNG5).v.cells
  obtain ⟨d0, d1, d2, d3⟩ := (unhide HNW5).v.cells
  go_wp2_with fail
  refine (eqImage_B aG aW R _ (unhide HRD) ((unhide HNG5).o.shows (unhide HRS)) ((unhide HNW5).o.shows (unhide HRS))).mono ?_
  rintro e w6 ⟨rfl, hb6⟩
  have HNG6 := hide ((unhide HNG5).below hb6)
  have HNW6 := hide ((unhide HNW5).below hb6)
  have HO6 := hide ((unhide HO5).below hb6)
  have HX6 := hide ((unhide HX5).below hb6)
  have HB6 := hide (fr (unhide HB5) hb6)
  clear hb6 c0 c1 c2 c3 d0 d1 d2 d3 HNG5 HNW5 HO5 HX5 HB5
  obtain ⟨hc0, hc1⟩ := unhide HCELL _ (unhide HB6)
  obtain ⟨hx0, hx1⟩ := (unhide HX6).cells
  have hlt4 : pX < w6.heap.size := (unhide HX6).lt
  have HCT := hide ((unhide HC).below (unhide HB6).drew)
  have HDT := hide ((unhide HD).below (unhide HB6).drew)
  have HST := hide (((unhide HO6).ss (unhide HZS)).below (Below.refl _ _).drew)
  have HXT := hide (((unhide HO6).ios (unhide HZX)).below (Below.refl _ _).drew)
  go_wp2
  go_region_with (first | (go_at_call 6; refine (toDisk_any ao bo ca cb ss xs _ hls hlx (unhide HCT) (unhide HDT)).mono ?_; rintro e w7 ⟨g7, k7, rfl, ho7, hp7, hb7⟩; have hy0 := (hb7.cell (p := ⟨pX, 0, none⟩) hlt4).trans hx0; have hy1 := (hb7.cell (p := ⟨pX, 1, none⟩) hlt4).trans hx1) | (go_at_call 9; refine (eqSameR _ _ _ _ _ _ _ _ ss xs _ (unhide HL) (unhide HM) (by exact (unhide HST).below hb7) (by exact (unhide HXT).below hb7) (by exact ownS ho7 (unhide HZS)) (by exact ownI hp7 (unhide HZX))).mono ?_; rintro e w8 ⟨rfl, hb8⟩))
  all_goals
    have H68 : Hid (Below w6.heap.size w6 w8) := hide (fr (a := w6) (b := w7) (Below.trans (Below.refl _ _).drew hb7) hb8)
    have HNG8 := hide ((unhide HNG6).below (unhide H68))
    have HNW8 := hide ((unhide HNW6).below (unhide H68))
    have HO8 := hide ((unhide HO6).below (unhide H68))
    have HX8 := hide ((unhide HX6).below (unhide H68))
    have HB8 := hide (fr (unhide HB6) (unhide H68))
    clear hb7 hb8 ho7 hp7 hc0 hc1 hx0 hx1 hlt4
    obtain ⟨hx0, hx1⟩ := (unhide HX8).cells
    go_wp2_with fail
    refine (markDisk_one _ _ _ _ _ _ _ _ _ _ (by omega) (by omega) (unhide HO8)).mono ?_
    rintro e w9 ⟨rfl, ho9, hk9⟩
    have HNG9 := hide ((unhide HNG8).keepD (unhide HO8) hk9 (fun g h1 h2 => by have := ((unhide HNG8).o.ge g h1).1; have := (unhide HOX g h2).2; omega))
    have HNW9 := hide ((unhide HNW8).keepD (unhide HO8) hk9 (fun g h1 h2 => by have := unhide HWX g h1; have := (unhide HOX g h2).1; omega))
    have HB9 := hide ((unhide HB8).trans (hk9.below (unhide HB8).size (fun g hg => Nat.le_trans (unhide HSL) (unhide HOX g hg).1)))
    clear ho9 hk9 hx0 hx1 HNG8 HNW8 HO8 HX8 HB8
    obtain ⟨c0, c1, c2, c3⟩ := (unhide HNG9).v.cells
    obtain ⟨d0, d1, d2, d3⟩ := (unhide HNW9).v.cells
    go_wp2_with fail
    refine (eqImage_B aG aW R _ (unhide HRD) ((unhide HNG9).o.shows (unhide HRS)) ((unhide HNW9).o.shows (unhide HRS))).mono ?_
    rintro e w10 ⟨rfl, hb⟩
    have HNG10 := hide ((unhide HNG9).below hb)
    have HNW10 := hide ((unhide HNW9).below hb)
    have HB10 := hide (fr (unhide HB9) hb)
    clear hb c0 c1 c2 c3 d0 d1 d2 d3 HNG9 HNW9 HB9
    obtain ⟨c0, c1, c2, c3⟩ := (unhide HNG10).v.cells
    go_wp2_with fail
    refine (markImage_B aG R tsG _ _ (unhide HRD) (unhide HNG10).o).mono ?_
    rintro e w11 ⟨rfl, ho11, hk11⟩
    have HNW11 := hide ((unhide HNW10).keep (unhide HNG10) hk11 (fun g h1 h2 => by have := unhide HWX g h1; have := ((unhide HNG10).o.ge g h2).1; have := unhide HN34; omega))
    have HGV11 := hide ((unhide HNG10).v.keepIm (unhide HNG10).o hk11)
    have HGO11 := hide ho11
    have HB11 := hide ((unhide HB10).trans (hk11.below (unhide HB10).size (fun g hg => Nat.le_trans (unhide HN4) ((unhide HNG10).o.ge g hg).1)))
    clear ho11 hk11 c0 c1 c2 c3 HNW10 HNG10 HB10
    obtain ⟨c0, c1, c2, c3⟩ := (unhide HGV11).cells
    go_wp2_with fail
    refine (heldImage_B aG R tsG _ _ (unhide HRD) (unhide HGO11)).mono ?_
    rintro e w12 ⟨rfl, hb⟩
    have HNW12 := hide ((unhide HNW11).below hb)
    have HGV12 := hide ((unhide HGV11).below hb)
    have HGO12 := hide ((unhide HGO11).below hb)
    have HB12 := hide (fr (unhide HB11) hb)
    clear hb c0 c1 c2 c3 HNW11 HGV11 HGO11 HB11
    have hq1 : ¬ (((1 + imK R : Nat) : Int) < 0) := by omega
    obtain ⟨hc0, hc1⟩ := unhide HCELL _ (unhide HB12)
    go_wp2_with fail
    refine (toDisk_any ao bo ca cb ss xs _ hls hlx ((unhide HC).below (unhide HB12)) ((unhide HD).below (unhide HB12))).mono ?_
    rintro e w13 ⟨g13, k13, rfl, ho, hp, hb13⟩
    have HS13 := hide (ownS ho (unhide HZS))
    have HX13 := hide (ownI hp (unhide HZX))
    have HNW13 := hide ((unhide HNW12).below hb13)
    have HGV13 := hide ((unhide HGV12).below hb13)
    have HGO13 := hide ((unhide HGO12).below hb13)
    have HB13 := hide (fr (unhide HB12) hb13)
    clear ho hp hb13 hc0 hc1 HNW12 HGV12 HGO12 HB12
    go_wp2_with fail
    refine (unhide HIM _ _ _ _ _ (fr (unhide HA) (unhide HB13)) (unhide HS13) (unhide HX13)).mono ?_
    rintro e w14 ⟨aH, tsH, rfl, hoH, hb⟩
    simp only at hoH ⊢
    have HBa := hide (fr hb (Joins.below_alloc1 w14 (.cells #[.slice aH.ro R.refs.length aH.rc, .slice aH.tq R.table.length aH.tc, .slice aH.so R.snaps.length aH.sc, .slice aH.dq R.data.length aH.dc] 30)))
    have HNH := hide (LwV.new w14 aH R hoH hb.size)
    have HNW14 := hide ((unhide HNW13).below (unhide HBa))
    have HGV14 := hide ((unhide HGV13).below (unhide HBa))
    have HGO14 := hide ((unhide HGO13).below (unhide HBa))
    have HB14 := hide (fr (unhide HB13) (unhide HBa))
    clear hb hoH HNW13 HGV13 HGO13 HB13
    go_upto_region 25 with fail
    clear HBa
    revert HB14
    revert HGO14
    revert HGV14
    revert HNW14
    revert HNH
    generalize (w14.alloc _) = W14
    generalize w14.heap.size = pH
    intro HNH HNW14 HGV14 HGO14 HB14
    obtain ⟨c0, c1, c2, c3⟩ := (unhide HNH).v.cells
    obtain ⟨d0, d1, d2, d3⟩ := (unhide HNW14).v.cells
    go_wp2_with fail
    refine (eqImage_B aH aW R _ (unhide HRD) ((unhide HNH).o.shows (unhide HRS)) ((unhide HNW14).o.shows (unhide HRS))).mono ?_
    rintro e w15 ⟨rfl, hb⟩
    have HGV15 := hide ((unhide HGV14).below hb)
    have HGO15 := hide ((unhide HGO14).below hb)
    have HB15 := hide (fr (unhide HB14) hb)
    clear hb c0 c1 c2 c3 d0 d1 d2 d3 HNH HNW14 HGV14 HGO14 HB14
    obtain ⟨c0, c1, c2, c3⟩ := (unhide HGV15).cells
    go_wp2_with fail
    refine (heldImage_B aG R tsG _ _ (unhide HRD) (unhide HGO15)).mono ?_
    rintro e w16 ⟨rfl, hb⟩
    have HB16 := hide (fr (unhide HA) (fr (unhide HB15) hb))
    clear hb c0 c1 c2 c3
    go_wp2
    go_ret
    exact ⟨rfl, unhide HB16⟩

end Go.Proofs.YtkaiglhljpehpabGreatDoor

/- Contract of impl.landFirst: of a host's writes the first ones are sure. -/
namespace Go.Proofs.YtkaiglhljpehpabGreatDoor
open Go.RowKit
set_option linter.unusedVariables false

/-- One write of a disk's, as a host's writes land: the sectors, what is left, how many may still land. -/
def stepF (h : Int) (lost : Bool) (st : List ByteArray × List Wr × Int) (x : Wr) : List ByteArray × List Wr × Int :=
  if x.host = h then (if 0 < st.2.2 then (st.1.set x.at_.toNat x.data, st.2.1, st.2.2 - 1) else if lost = true then st else (st.1, st.2.1 ++ [x], st.2.2)) else (st.1, st.2.1 ++ [x], st.2.2)
def landF (h : Int) (lost : Bool) (ss : List ByteArray) (xs : List Wr) (n : Int) : List ByteArray × List Wr × Int := xs.foldl (stepF h lost) (ss, [], n)
theorem landF_succ {h : Int} {lost : Bool} {ss : List ByteArray} {xs : List Wr} {n : Int} {k : Nat} (hk : k < xs.length) : landF h lost ss (xs.take (k + 1)) n = stepF h lost (landF h lost ss (xs.take k) n) xs[k] := by
  unfold landF
  rw [List.take_succ_eq_append_getElem hk, List.foldl_append]
  rfl
theorem step_other {h : Int} {lost : Bool} {x : Wr} (ha : x.host ≠ h) (SS : List ByteArray) (LX : List Wr) (N : Int) : stepF h lost (SS, LX, N) x = (SS, LX ++ [x], N) := by simp [stepF, ha]
theorem step_land {h : Int} {lost : Bool} {x : Wr} (ha : x.host = h) (SS : List ByteArray) (LX : List Wr) {N : Int} (hn : 0 < N) : stepF h lost (SS, LX, N) x = (SS.set x.at_.toNat x.data, LX, N - 1) := by simp [stepF, ha, hn]
theorem step_keep {h : Int} {x : Wr} (ha : x.host = h) (SS : List ByteArray) (LX : List Wr) {N : Int} (hn : ¬ 0 < N) : stepF h false (SS, LX, N) x = (SS, LX ++ [x], N) := by simp [stepF, ha, hn]

theorem VarD.set1 {w : World} {y : Nat} {a b : Value} (h : VarD w y a b) (c : Value) : VarD (w.setCell ⟨y, 1, none⟩ c) y a c := by
  unfold VarD
  rw [Joins.block_setCell h c]
  rfl
theorem VarD.setOther {w : World} {y : Nat} {a b : Value} (h : VarD w y a b) {p : Addr} (hp : p.block ≠ y) (c : Value) : VarD (w.setCell p c) y a b := by
  unfold VarD
  rw [Below.heap_setCell w p c y (fun e => hp e.symm)]
  exact h

/-- The state of a loop that lets writes land: the variable `v` of the answer, its two rows, the cell of the result. -/
structure LandSt (w : World) (v : Nat) (po : Option Addr) (pa n : Nat) (wr : World) (SS : List ByteArray) (LX : List Wr) (qo : Option Addr) (qa : Nat) : Prop where
  var : VarD wr v (.slice po n pa) (.slice qo LX.length qa)
  s : OwnR wr (w.heap.size + 2) 9 1 (.slice po n pa) n (strV SS)
  i : OwnR wr (w.heap.size + 2) 74 3 (.slice qo LX.length qa) LX.length (ioV LX)
  r : VarD wr (w.heap.size + 1) (.slice none 0 0) (.slice none 0 0)
  b : Below w.heap.size w wr

theorem LandSt.below {w : World} {v : Nat} {po : Option Addr} {pa n : Nat} {wr wr' : World} {SS : List ByteArray} {LX : List Wr} {qo : Option Addr} {qa : Nat} (h : LandSt w v po pa n wr SS LX qo qa) (hb : Below wr.heap.size wr wr') : LandSt w v po pa n wr' SS LX qo qa :=
  ⟨h.var.below hb, h.s.below hb, h.i.below hb, h.r.below hb, fr h.b hb⟩

theorem strV_set (SS : List ByteArray) (j : Nat) (d : ByteArray) : (strV SS).set j (.string d) = strV (SS.set j d) := by simp [strV, List.map_set]

theorem LandSt.form {w : World} {v : Nat} {po : Option Addr} {pa n : Nat} {wr : World} {SS : List ByteArray} {LX : List Wr} {qo : Option Addr} {qa : Nat} (h : LandSt w v po pa n wr SS LX qo qa) {j : Nat} (hj : j < n) :
    ∃ g x, po = some ⟨g, 0, none⟩ ∧ g < wr.heap.size ∧ wr.cell? ⟨g, j, none⟩ = some x ∧ wr.frozen? ⟨g, j, none⟩ = false ∧ ∀ d, LandSt w v po pa n (wr.setCell ⟨g, j, none⟩ (.string d)) (SS.set j d) LX qo qa := by
  have hpos : 0 < n := by omega
  obtain ⟨h0, -, _⟩ | ⟨_, ho⟩ := h.s
  · omega
  obtain ⟨g, cap, cur, e0, hg, hcur⟩ := own_form hpos ho
  simp only [Value.slice.injEq, true_and] at e0
  obtain ⟨rfl, rfl⟩ := e0
  have hown : Own (.slice (some ⟨g, 0, none⟩) n pa) g := own_of hpos rfl
  have hlen : (strV SS).length = n := by have := h.s.len; omega
  refine ⟨g, _, rfl, (h.s.ge g hown).2, (ho.cellAt j (by omega)).trans (List.getElem?_eq_getElem (by rw [hlen]; exact hj)), ho.frozenAt j, fun d => ?_⟩
  have hk : Keep (fun k => k = g) wr (wr.setCell ⟨g, j, none⟩ (.string d)) := Keep.setCell (S := fun k => k = g) (Keep.refl _ _) (p := ⟨g, j, none⟩) rfl _
  refine ⟨h.var.keep hk (fun e => h.s.other h.var (by decide) (e ▸ hown)), .inr ⟨hpos, ?_⟩, h.i.keep hk (fun k hk' e => own_apart h.i h.s (by decide) k hk' (e ▸ hown)), h.r.keep hk (fun e => h.s.other h.r (by decide) (e ▸ hown)), h.b.setCell (p := ⟨g, j, none⟩) (by have := (h.s.ge g hown).1; simp; omega) _⟩
  rw [← strV_set]
  exact (ho.stored j (.string d)).1

theorem LandSt.app {w : World} {v : Nat} {po : Option Addr} {pa n : Nat} {wr wA : World} {SS : List ByteArray} {LX : List Wr} {qo : Option Addr} {qa : Nat} (h : LandSt w v po pa n wr SS LX qo qa) (hv : w.heap.size ≤ v) (hne : v ≠ w.heap.size + 1) {x : Wr} {g cap : Nat}
    (ho : wA.ownsRow (w.heap.size + 2) 74 3 (.slice (some ⟨g, 0, none⟩) (LX.length + 1) cap) (LX.length + 1) (ioV LX ++ wrV x)) (hk : Keep (Own (.slice qo LX.length qa)) wr wA) :
    VarD wA v (.slice po n pa) (.slice qo LX.length qa) ∧ LandSt w v po pa n (wA.setCell ⟨v, 1, none⟩ (.slice (some ⟨g, 0, none⟩) (LX.length + 1) cap)) SS (LX ++ [x]) (some ⟨g, 0, none⟩) cap := by
  have hva := h.var.keep hk (h.i.other h.var (by decide))
  have hra := h.r.keep hk (h.i.other h.r (by decide))
  have hsa := h.s.keep hk (own_apart h.s h.i (by decide))
  have hia : OwnR wA (w.heap.size + 2) 74 3 (.slice (some ⟨g, 0, none⟩) (LX.length + 1) cap) (LX.length + 1) (ioV (LX ++ [x])) := .inr ⟨Nat.succ_pos _, by rw [ioV_snoc]; exact ho⟩
  have hba : Below w.heap.size w wA := belowKp h.b hk (fun j hj => Nat.le_trans (by omega) (h.i.ge j hj).1)
  have hl : (LX ++ [x]).length = LX.length + 1 := by simp
  have hk2 : Keep (fun j => j = v) wA (wA.setCell ⟨v, 1, none⟩ (.slice (some ⟨g, 0, none⟩) (LX.length + 1) cap)) := Keep.setCell (S := fun j => j = v) (Keep.refl _ _) (p := ⟨v, 1, none⟩) rfl _
  refine ⟨hva, ?_, hsa.keep hk2 (fun j hj e => hsa.other hva (by decide) (e ▸ hj)), ?_, hra.keep hk2 (fun e => hne e.symm), hba.setCell (p := ⟨v, 1, none⟩) hv _⟩
  · rw [hl]; exact hva.set1 _
  · rw [hl]; exact hia.keep hk2 (fun j hj e => hia.other hva (by decide) (e ▸ hj))

end Go.Proofs.YtkaiglhljpehpabGreatDoor

/- Contract of spec.l01Land: of a host's writes the first ones are sure, the others stay or are lost. -/
namespace Go.Proofs.YtkaiglhljpehpabGreatDoor
open Go.RowKit
set_option linter.unusedVariables false

/-- The state of the loop of l01Land: the variable of the disk, its rows, the row of what is left, the cell of the result. -/
structure LandSp (w : World) (B : Nat) (po : Option Addr) (pa n : Nat) (mo : Option Addr) (ma : Nat) (xs : List Wr) (wr : World) (SS : List ByteArray) (LX : List Wr) (qo : Option Addr) (qa : Nat) : Prop where
  var : VarD wr w.heap.size (.slice po n pa) (.slice mo xs.length ma)
  s : OwnR wr (w.heap.size + 2) 9 1 (.slice po n pa) n (strV SS)
  x : OwnR wr (w.heap.size + 2) 74 3 (.slice mo xs.length ma) xs.length (ioV xs)
  i : OwnR wr B 74 3 (.slice qo LX.length qa) LX.length (ioV LX)
  r : VarD wr (w.heap.size + 1) (.slice none 0 0) (.slice none 0 0)
  b : Below w.heap.size w wr
  old : ∀ g, Own (.slice mo xs.length ma) g → g < B
  base : w.heap.size + 2 ≤ B
  size : B ≤ wr.heap.size

theorem LandSp.below {w : World} {B : Nat} {po : Option Addr} {pa n : Nat} {mo : Option Addr} {ma : Nat} {xs : List Wr} {wr wr' : World} {SS : List ByteArray} {LX : List Wr} {qo : Option Addr} {qa : Nat} (h : LandSp w B po pa n mo ma xs wr SS LX qo qa) (hb : Below wr.heap.size wr wr') : LandSp w B po pa n mo ma xs wr' SS LX qo qa :=
  ⟨h.var.below hb, h.s.below hb, h.x.below hb, h.i.below hb, h.r.below hb, fr h.b hb, h.old, h.base, Nat.le_trans h.size hb.size⟩

theorem LandSp.form {w : World} {B : Nat} {po : Option Addr} {pa n : Nat} {mo : Option Addr} {ma : Nat} {xs : List Wr} {wr : World} {SS : List ByteArray} {LX : List Wr} {qo : Option Addr} {qa : Nat} (h : LandSp w B po pa n mo ma xs wr SS LX qo qa) {j : Nat} (hj : j < n) :
    ∃ g x, po = some ⟨g, 0, none⟩ ∧ g < wr.heap.size ∧ wr.cell? ⟨g, j, none⟩ = some x ∧ wr.frozen? ⟨g, j, none⟩ = false ∧ ∀ d, LandSp w B po pa n mo ma xs (wr.setCell ⟨g, j, none⟩ (.string d)) (SS.set j d) LX qo qa := by
  have hpos : 0 < n := by omega
  obtain ⟨h0, -, _⟩ | ⟨_, ho⟩ := h.s
  · omega
  obtain ⟨g, cap, cur, e0, hg, hcur⟩ := own_form hpos ho
  simp only [Value.slice.injEq, true_and] at e0
  obtain ⟨rfl, rfl⟩ := e0
  have hown : Own (.slice (some ⟨g, 0, none⟩) n pa) g := own_of hpos rfl
  have hlen : (strV SS).length = n := by have := h.s.len; omega
  refine ⟨g, _, rfl, (h.s.ge g hown).2, (ho.cellAt j (by omega)).trans (List.getElem?_eq_getElem (by rw [hlen]; exact hj)), ho.frozenAt j, fun d => ?_⟩
  have hk : Keep (fun k => k = g) wr (wr.setCell ⟨g, j, none⟩ (.string d)) := Keep.setCell (S := fun k => k = g) (Keep.refl _ _) (p := ⟨g, j, none⟩) rfl _
  refine ⟨h.var.keep hk (fun e => h.s.other h.var (by decide) (e ▸ hown)), .inr ⟨hpos, ?_⟩, h.x.keep hk (fun k hk' e => own_apart h.x h.s (by decide) k hk' (e ▸ hown)), h.i.keep hk (fun k hk' e => own_apart h.i h.s (by decide) k hk' (e ▸ hown)), h.r.keep hk (fun e => h.s.other h.r (by decide) (e ▸ hown)), h.b.setCell (p := ⟨g, j, none⟩) (by have := (h.s.ge g hown).1; simp; omega) _, h.old, h.base, Nat.le_trans h.size hk.size⟩
  rw [← strV_set]
  exact (ho.stored j (.string d)).1

theorem LandSp.app {w : World} {B : Nat} {po : Option Addr} {pa n : Nat} {mo : Option Addr} {ma : Nat} {xs : List Wr} {wr wA : World} {SS : List ByteArray} {LX : List Wr} {qo : Option Addr} {qa : Nat} (h : LandSp w B po pa n mo ma xs wr SS LX qo qa) {x : Wr} {g cap : Nat}
    (ho : wA.ownsRow B 74 3 (.slice (some ⟨g, 0, none⟩) (LX.length + 1) cap) (LX.length + 1) (ioV LX ++ wrV x)) (hk : Keep (Own (.slice qo LX.length qa)) wr wA) :
    LandSp w B po pa n mo ma xs wA SS (LX ++ [x]) (some ⟨g, 0, none⟩) cap := by
  have hl : (LX ++ [x]).length = LX.length + 1 := by simp
  refine ⟨h.var.keep hk (h.i.other h.var (by decide)), h.s.keep hk (own_apart h.s h.i (by decide)), h.x.keep hk (fun j hj hq => by have := h.old j hj; have := (h.i.ge j hq).1; omega), ?_, h.r.keep hk (h.i.other h.r (by decide)), belowKp h.b hk (fun j hj => Nat.le_trans (by have := h.base; omega) (h.i.ge j hj).1), h.old, h.base, Nat.le_trans h.size hk.size⟩
  rw [hl]
  exact .inr ⟨Nat.succ_pos _, by rw [ioV_snoc]; exact ho⟩

theorem VarD.set0 {w : World} {y : Nat} {a b : Value} (h : VarD w y a b) (c : Value) : VarD (w.setCell ⟨y, 0, none⟩ c) y c b := by
  unfold VarD
  rw [Joins.block_setCell h c]
  rfl
theorem step_drop {h : Int} {x : Wr} (ha : x.host = h) (SS : List ByteArray) (LX : List Wr) {N : Int} (hn : ¬ 0 < N) : stepF h true (SS, LX, N) x = (SS, LX, N) := by simp [stepF, ha, hn]

theorem LandSp.new {w w1 : World} {po : Option Addr} {pa n : Nat} {mo : Option Addr} {ma : Nat} {ss : List ByteArray} {xs : List Wr} {a b : Value} (hv : VarD w1 w.heap.size a b) (hr : VarD w1 (w.heap.size + 1) (.slice none 0 0) (.slice none 0 0)) (ho : OwnD w1 (w.heap.size + 2) po n pa mo xs.length ma ss xs) (hb : Below w.heap.size w w1) (o : Obj) (ao : Option Addr) :
    LandSp w w1.heap.size po pa n mo ma xs (((w1.setCell ⟨w.heap.size, 0, none⟩ (.slice po n pa)).setCell ⟨w.heap.size, 1, none⟩ (.slice mo xs.length ma)).alloc o) ss [] ao 0 := by
  have h1 := (hv.set0 (.slice po n pa)).set1 (.slice mo xs.length ma)
  have h2 := (ho.setCell (a := ⟨w.heap.size, 0, none⟩) (by simp) (.slice po n pa)).setCell (a := ⟨w.heap.size, 1, none⟩) (by simp) (.slice mo xs.length ma)
  have h3 := (hr.setOther (p := ⟨w.heap.size, 0, none⟩) (by simp) (.slice po n pa)).setOther (p := ⟨w.heap.size, 1, none⟩) (by simp) (.slice mo xs.length ma)
  have h4 := (hb.setCell (p := ⟨w.heap.size, 0, none⟩) (by simp) (.slice po n pa)).setCell (p := ⟨w.heap.size, 1, none⟩) (by simp) (.slice mo xs.length ma)
  exact ⟨h1.below (Joins.below_alloc1 _ _), h2.s.below (Joins.below_alloc1 _ _), h2.i.below (Joins.below_alloc1 _ _), .inl ⟨rfl, rfl, ao, rfl⟩, h3.below (Joins.below_alloc1 _ _), fr h4 (Joins.below_alloc1 _ _), fun g hg => (ho.i.ge g hg).2, hr.lt, by simp⟩

theorem landSp_end {w wr : World} {B : Nat} {po : Option Addr} {pa n : Nat} {mo : Option Addr} {ma : Nat} {xs : List Wr} {SS : List ByteArray} {LX : List Wr} {qo : Option Addr} {qa : Nat} (h : LandSp w B po pa n mo ma xs wr SS LX qo qa) (a b c : Value) :
    OwnD (((wr.setCell ⟨w.heap.size, 1, none⟩ a).setCell ⟨w.heap.size + 1, 0, none⟩ b).setCell ⟨w.heap.size + 1, 1, none⟩ c) w.heap.size po n pa qo LX.length qa SS LX ∧ Below w.heap.size w (((wr.setCell ⟨w.heap.size, 1, none⟩ a).setCell ⟨w.heap.size + 1, 0, none⟩ b).setCell ⟨w.heap.size + 1, 1, none⟩ c) :=
  copyD_end (OwnD.setCell ⟨h.s, h.i.base h.base⟩ (a := ⟨w.heap.size, 1, none⟩) (by simp) a) (h.b.setCell (p := ⟨w.heap.size, 1, none⟩) (by simp) a) b c

end Go.Proofs.YtkaiglhljpehpabGreatDoor
