import Derived.Test.YtjmianalknnekabGreatDoorRows
import Derived.Test.YtjmianalknnekabGreatDoorPart1
import Derived.Test.YtjmianalknnekabGreatDoorPart2
import Derived.Test.YtjmianalknnekabGreatDoorPaxP
import Derived.Test.YtjmianalknnekabGreatDoorPart12
import Derived.Test.YtjmianalknnekabGreatDoorPart15
import Derived.WalkKit
import Derived.WalkSpells
import Derived.BigQuiet
import Derived.Deep.QuietTactic
import Derived.Deep.RegionWith
import Derived.Deep.CutRange
import Derived.KernelRfl
import Derived.Lib.SmallJoins
import Derived.Deep.RegionHeld3
import Derived.Test.YtjmianalknnekabGreatDoorPart4
import Derived.Deep.RegionLawGrows
import Derived.Test.YtjmianalknnekabGreatDoorPart14
import Derived.Defers
import Derived.Recover
import Derived.Test.YtjmianalknnekabGreatDoorPart8
import Derived.Test.YtjmianalknnekabGreatDoorPart13
import Derived.Deep.MidRow
import Derived.WalkMore

/- Contracts of spec's ballots: l04Host, PxOK, PxStart, l05Of, l05Write. -/
namespace Go.Proofs.YtjmianalknnekabGreatDoor
open Go.RowKit
set_option linter.unusedVariables false
set_option maxRecDepth 100000

theorem l04Host_px (h : Int) (w : World) : Calls Tryz.prog 37 #[.int .i64 h] w fun e w' => e = .returned (.bool (inB h 0 3)) ∧ w' = w := by
  go_enter Tryz.func37, Tryz.ntmps37
  go_wp2_with fail
  refine (l01In_num h 0 3 _).mono ?_
  rintro e w1 ⟨rfl, rfl⟩
  go_wp2
  go_ret
  exact ⟨rfl, rfl⟩

end Go.Proofs.YtjmianalknnekabGreatDoor

/- Contract of spec's l05Read. -/
namespace Go.Proofs.YtjmianalknnekabGreatDoor
open Go.RowKit
set_option linter.unusedVariables false
set_option maxRecDepth 100000

/-- A ballot in a variable, an answer's variable behind it. -/
structure PxAt (w W : World) (x : Nat) (p : Pxs) : Prop where
  v : VarP W x 54 p
  r : VarP W (x + 1) 54 p00
  k : Below w.heap.size w W
  ge : w.heap.size ≤ x
theorem PxAt.below {w W W' : World} {x : Nat} {p : Pxs} (h : PxAt w W x p) (hb : Below W.heap.size W W') : PxAt w W' x p := ⟨h.v.below hb, h.r.below hb, fr h.k hb, h.ge⟩
theorem PxAt.set {w W : World} {x : Nat} {p : Pxs} (h : PxAt w W x p) (i : Nat) (u : Value) (q : Pxs) (hv : VarP (W.setCell ⟨x, i, none⟩ u) x 54 q) : PxAt w (W.setCell ⟨x, i, none⟩ u) x q :=
  ⟨hv, h.r.keep ((Keep.refl (fun k => k = x) W).setCell (p := ⟨x, i, none⟩) rfl u) (by show ¬ x + 1 = x; omega), h.k.setCell (p := ⟨x, i, none⟩) h.ge u, h.ge⟩

def pxRd1 (p : Pxs) (bs : List Bk) : Pxs :=
  if p.next < 4 then
    (if p.ver < (bkOf (bs.getD p.next.toNat bk0) p.ver).ver ∨ p.ballot < (bkOf (bs.getD p.next.toNat bk0) p.ver).mbal then { p with phase := 6 } else pxEnd (pxLook p (bkOf (bs.getD p.next.toNat bk0) p.ver)))
  else pxEnd p
theorem pxRd_eq (p : Pxs) (bs : List Bk) : pxRd p bs = pxRd1 { p with next := skip p p.next } bs := rfl

end Go.Proofs.YtjmianalknnekabGreatDoor

/- A law on append: a row behind an empty one, at a step that does not draw. -/
namespace Go.Proofs.YtjmianalknnekabGreatDoor
open Go.RowKit
set_option linter.unusedVariables false
section
variable {P : Program}
theorem wpList_append_fresh {w : World} {ops : Array Oper} {rest : List Oper} {o : Oper} {a : Act} {Q : Exit → Act → World → Prop} (hgd : o.guard = none) (s x : Operand) (t : TypeId)
    (ho : o.op = .call { callee := .builtin .append, args := #[s, x], argTypes := #[t, t] })
    (e : TypeId) (i : TypeInfo) (z : Value) (size bytes : Nat) (ht : P.underlying t = some (.slice e)) (hi : P.info? e = some i) (hz : i.zero = some z)
    (hsize : i.size = size) (hby : i.bytes = bytes) (hzs : z.cells.size = size) (hsz : 0 < size)
    (hs0 : isFresh (a.eval s) = true) (so : Option Addr) (m c : Nat) (news : List Value) (hx : a.eval x = .slice so m c) (hn : news.length = m * size)
    (hc : 0 < m → ∃ ad, so = some ad ∧ ∀ j u, news[j]? = some u → w.cell? (ad.add j) = some u) (b1 : m ≤ maxLen) (b2 : m * bytes ≤ 140737488355328)
    (hK : ∀ ao cap w', OwnR w' w.heap.size e size (.slice ao m cap) m news → w.grownBy w' none → wpList P ops Q rest (a.put o.dst (.slice ao m cap)) w') : wpList P ops Q (o :: rest) a w := by
  refine wpList_plain hgd fun K hK' => ?_
  obtain ⟨d, hs⟩ := isFresh_form hs0
  obtain ⟨ao, cap, w', hrun, r1, r2⟩ := run_append_fresh (P := P) w t o.type e i z size bytes ht hi hz hsize hby hzs hsz d so m c news hn hc b1 b2
  unfold Oper.wp
  simp [execOp, ho, resolve, invoke, builtin, hs, hx, hrun, Result.andThen]
  exact hK' _ _ (hK _ _ _ r1 r2)
end
end Go.Proofs.YtjmianalknnekabGreatDoor

/- Contract of spec's l05Step. -/
namespace Go.Proofs.YtjmianalknnekabGreatDoor
open Go.RowKit
set_option linter.unusedVariables false
set_option maxRecDepth 100000

theorem infoK : (Tryz.prog.info? 91).map (fun i => (i.zero, i.size, i.bytes)) = some (some (.agg #[.int .i64 0, .int .i64 0, .int .i64 0, .int .i64 0]), 4, 32) := by kernel_rfl

/-- The new row, a ballot's variable, the answer's. -/
structure StAt (w W : World) (x : Nat) (p : Pxs) (qo : Option Addr) (qa : Nat) (bs : List Bk) : Prop where
  a : PxAt w W x p
  o : OwnR W (x + 2) 91 4 (.slice qo 4 qa) 4 (bksV bs)
theorem StAt.below {w W W' : World} {x : Nat} {p : Pxs} {qo : Option Addr} {qa : Nat} {bs : List Bk} (h : StAt w W x p qo qa bs) (hb : Below W.heap.size W W') : StAt w W' x p qo qa bs := ⟨h.a.below hb, h.o.below hb⟩
/-- The answer is stored. -/
theorem StAt.out {w W : World} {x : Nat} {p : Pxs} {qo : Option Addr} {qa : Nat} {bs : List Bk} (h : StAt w W x p qo qa bs) (u0 u1 u2 u3 u4 u5 u6 u7 : Value) :
    OwnR ((((((((W.setCell ⟨x + 1, 0, none⟩ u0).setCell ⟨x + 1, 1, none⟩ u1).setCell ⟨x + 1, 2, none⟩ u2).setCell ⟨x + 1, 3, none⟩ u3).setCell ⟨x + 1, 4, none⟩ u4).setCell ⟨x + 1, 5, none⟩ u5).setCell ⟨x + 1, 6, none⟩ u6).setCell ⟨x + 1, 7, none⟩ u7) w.heap.size 91 4 (.slice qo 4 qa) 4 (bksV bs) ∧
    Below w.heap.size w ((((((((W.setCell ⟨x + 1, 0, none⟩ u0).setCell ⟨x + 1, 1, none⟩ u1).setCell ⟨x + 1, 2, none⟩ u2).setCell ⟨x + 1, 3, none⟩ u3).setCell ⟨x + 1, 4, none⟩ u4).setCell ⟨x + 1, 5, none⟩ u5).setCell ⟨x + 1, 6, none⟩ u6).setCell ⟨x + 1, 7, none⟩ u7) := by
  have hg := h.a.ge
  refine ⟨?_, below8 h.a.k (by omega) _ _ _ _ _ _ _ _⟩
  exact OwnR.base ((((((((h.o.setCell (a := ⟨x + 1, 0, none⟩) (by simp) u0).setCell (a := ⟨x + 1, 1, none⟩) (by simp) u1).setCell (a := ⟨x + 1, 2, none⟩) (by simp) u2).setCell (a := ⟨x + 1, 3, none⟩) (by simp) u3).setCell (a := ⟨x + 1, 4, none⟩) (by simp) u4).setCell (a := ⟨x + 1, 5, none⟩) (by simp) u5).setCell (a := ⟨x + 1, 6, none⟩) (by simp) u6).setCell (a := ⟨x + 1, 7, none⟩) (by simp) u7) (by omega)
theorem StAt.ph {w W : World} {x : Nat} {p : Pxs} {qo : Option Addr} {qa : Nat} {bs : List Bk} (h : StAt w W x p qo qa bs) (n : Int) : StAt w (W.setCell ⟨x, 2, none⟩ (.int .i64 n)) x { p with phase := n } qo qa bs :=
  ⟨h.a.set 2 _ _ (h.a.v.set2 n), h.o.setCell (a := ⟨x, 2, none⟩) (by simp) _⟩
theorem StAt.bks {w W : World} {x : Nat} {p : Pxs} {qo : Option Addr} {qa : Nat} {bs : List Bk} (h : StAt w W x p qo qa bs) (h4 : bs.length = 4) : Bks W qo bs := by
  exact ownBks (B := x + 2) (e := 91) (cap := qa) (by rw [h4]; exact h.o)
/-- A block is stored into the row. -/
theorem own_put {w : World} {B t n cap g : Nat} {bs : List Bk} (h : w.ownsRow B t 4 (.slice (some ⟨g, 0, none⟩) n cap) n (bksV bs)) {k : Nat} (hk : k < bs.length) (y : Bk) :
    ((((w.setCell ⟨g, k * 4, none⟩ (.int .i64 y.ver)).setCell ⟨g, k * 4 + 1, none⟩ (.int .i64 y.mbal)).setCell ⟨g, k * 4 + 2, none⟩ (.int .i64 y.bal)).setCell ⟨g, k * 4 + 3, none⟩ (.int .i64 y.inp)).ownsRow B t 4 (.slice (some ⟨g, 0, none⟩) n cap) n (bksV (bs.set k y)) := by
  rw [← bksV_set hk y]
  have h3 := stored3 h (k * 4) (k * 4 + 1) (k * 4 + 2) (.int .i64 y.ver) (.int .i64 y.mbal) (.int .i64 y.bal)
  exact (h3.stored (k * 4 + 3) (.int .i64 y.inp)).1

theorem StAt.put {w W : World} {x : Nat} {p : Pxs} {g qa : Nat} {bs : List Bk} (h : StAt w W x p (some ⟨g, 0, none⟩) qa bs) {k : Nat} (hk : k < bs.length) (y : Bk) :
    StAt w ((((W.setCell ⟨g, k * 4, none⟩ (.int .i64 y.ver)).setCell ⟨g, k * 4 + 1, none⟩ (.int .i64 y.mbal)).setCell ⟨g, k * 4 + 2, none⟩ (.int .i64 y.bal)).setCell ⟨g, k * 4 + 3, none⟩ (.int .i64 y.inp)) x p (some ⟨g, 0, none⟩) qa (bs.set k y) := by
  have hg := (h.o.ge g (own_of (by omega) rfl)).1
  have hx := h.a.ge
  have kk : Keep (fun j => j = g) W ((((W.setCell ⟨g, k * 4, none⟩ (.int .i64 y.ver)).setCell ⟨g, k * 4 + 1, none⟩ (.int .i64 y.mbal)).setCell ⟨g, k * 4 + 2, none⟩ (.int .i64 y.bal)).setCell ⟨g, k * 4 + 3, none⟩ (.int .i64 y.inp)) :=
    ((((Keep.refl (fun j => j = g) W).setCell (p := ⟨g, k * 4, none⟩) rfl _).setCell (p := ⟨g, k * 4 + 1, none⟩) rfl _).setCell (p := ⟨g, k * 4 + 2, none⟩) rfl _).setCell (p := ⟨g, k * 4 + 3, none⟩) rfl _
  refine ⟨⟨h.a.v.keep kk (by show ¬ x = g; omega), h.a.r.keep kk (by show ¬ x + 1 = g; omega), ?_, h.a.ge⟩, ?_⟩
  · exact below4 h.a.k (by omega) _ _ _ _ _ _ _ _
  · rcases h.o with ⟨h0, _, _⟩ | ⟨h0, ho⟩
    · omega
    · exact .inr ⟨h0, own_put ho hk y⟩
theorem StAt.at {w W : World} {x : Nat} {p : Pxs} {qo : Option Addr} {qa : Nat} {bs : List Bk} (h : StAt w W x p qo qa bs) : ∃ g, qo = some ⟨g, 0, none⟩ ∧ x + 2 ≤ g ∧ g < W.heap.size := by
  rcases h.o with ⟨h0, _, _⟩ | ⟨h0, ho⟩
  · omega
  · obtain ⟨g, cap, cur, e, hB, hg⟩ := own_form h0 ho
    simp only [Value.slice.injEq, true_and] at e
    exact ⟨g, e.1, hB, (Array.getElem?_eq_some_iff.1 hg).1⟩

theorem row_free {W : World} {B t n cap g : Nat} {xs : List Value} (h : OwnR W B t 4 (.slice (some ⟨g, 0, none⟩) (n + 1) cap) (n + 1) xs) : (∀ i, W.frozen? ⟨g, i, none⟩ = false) ∧ True ∧ True ∧ True := by
  rcases h with ⟨h0, _, _⟩ | ⟨h0, ho⟩
  · omega
  · obtain ⟨g', cap', cur, e, hB, hg⟩ := own_form h0 ho
    simp only [Value.slice.injEq, Option.some.injEq, Addr.mk.injEq, and_true] at e
    obtain ⟨rfl, _⟩ := e
    exact ⟨fun i => Joins.unfrozen_of_block hg i, trivial, trivial, trivial⟩
theorem step_fin {w W' : World} {p p' : Pxs} {bs bs' : List Bk} {c : Int} {qo : Option Addr} {qa : Nat} (hE : pxStepP p bs = (p', bs')) (hC : stEnd p = c) (hO : OwnR W' w.heap.size 91 4 (.slice qo 4 qa) 4 (bksV bs') ∧ Below w.heap.size w W') :
    ∃ qo' qa', Ending.returned (.tuple #[pV p', .slice qo 4 qa, .int .i64 c]) = .returned (.tuple #[pV (pxStepP p bs).1, .slice qo' 4 qa', .int .i64 (stEnd p)]) ∧ OwnR W' w.heap.size 91 4 (.slice qo' 4 qa') 4 (bksV (pxStepP p bs).2) ∧ Below w.heap.size w W' :=
  ⟨qo, qa, by rw [hE, hC], by rw [hE]; exact hO.1, hO.2⟩

end Go.Proofs.YtjmianalknnekabGreatDoor

/- Contracts of impl.readBlock, of the recovering closure of impl.readText at a block. -/
namespace Go.Proofs.YtjmianalknnekabGreatDoor
open Go.RowKit
set_option linter.unusedVariables false
set_option maxRecDepth 100000

theorem openB_rec {t : ByteArray} {k : Int} : openB t k = true ↔ RecP t ∧ byteAt t 0 = k := by
  simp only [openB, Bool.and_eq_true, decide_eq_true_eq, recB_iff]
theorem bd_open {t : ByteArray} (h : bdB t = true) : (RecP t ∧ byteAt t 0 = 5) ∧ ∃ a b c d, unL (bodyT t) = [a, b, c, d] ∧ bkB ⟨a, b, c, d⟩ = true ∧ bdK t = ⟨a, b, c, d⟩ := by
  have h' := h
  simp only [bdB, Bool.and_eq_true, decide_eq_true_eq] at h'
  obtain ⟨ho, hl, hd⟩ := h'
  obtain ⟨a, b, c, d, e⟩ := fourK hl
  rw [e] at hd
  refine ⟨openB_rec.1 ho, a, b, c, d, ?_, hd, bd_yes h e⟩
  rw [← e, bdL, openL_yes ho]
theorem bd_shut {t : ByteArray} (h : bdB t = false) (ho : RecP t ∧ byteAt t 0 = 5) (hl : (unL (bodyT t)).length = 4) : ∃ a b c d, unL (bodyT t) = [a, b, c, d] ∧ bkB ⟨a, b, c, d⟩ = false := by
  have ho' := openB_rec.2 ho
  obtain ⟨a, b, c, d, e⟩ := fourK hl
  refine ⟨a, b, c, d, e, ?_⟩
  have e' : bdL t = [a, b, c, d] := by rw [← e, bdL, openL_yes ho']
  rw [← bdB_at ho' e']; exact h

set_option maxHeartbeats 1600000 in
theorem readBlock_yes (t : ByteArray) (w : World) (hs : t.size ≤ 65536) (hd : bdB t = true) :
    Calls Tryz.prog 74 #[.string t] w fun e w' => e = .returned (bV (bdK t)) ∧ Below w.heap.size w w' := by
  obtain ⟨⟨hr, hk⟩, a, b, c, d, hl, hdd, e1⟩ := bd_open hd
  rw [e1]
  have HL := hide hl
  have HDD := hide hdd
  have HR := hide hr
  have HK := hide hk
  clear hl hdd e1 hr hk hd
  have HA := hide (Joins.below_alloc1 w (.cells #[.int .i64 0, .int .i64 0, .int .i64 0, .int .i64 0] 91))
  have HV := hide (VarB.new0 w 91)
  go_enter Tryz.func74, Tryz.ntmps74
  go_wp2_with fail
  refine (readKind_yes t 5 _ hs (unhide HR) (unhide HK)).mono ?_
  rintro e w1 ⟨v, rfl, ⟨qo, qa, rfl, ho⟩, hb⟩
  have HB := hide (fr (unhide HA) hb)
  have HB1 := hide hb
  have hI := ownRN ho
  rw [unhide HL] at hI ⊢
  obtain ⟨g, off, rfl, hi0⟩ := hI 0 (by simp)
  obtain ⟨g', off', he, hi1⟩ := hI 1 (by simp)
  cases he
  obtain ⟨g', off', he, hi2⟩ := hI 2 (by simp)
  cases he
  obtain ⟨g', off', he, hi3⟩ := hI 3 (by simp)
  cases he
  simp only [List.getElem_cons_zero, List.getElem_cons_succ, Nat.add_zero] at hi0 hi1 hi2 hi3
  have hg := World.block_lt_of_cell? _ _ hi0
  clear hI ho hb
  simp only [List.length_cons, List.length_nil, Nat.zero_add, Nat.reduceAdd]
  go_wp2_with (go_at_call 84; refine (demand_true _).mono ?_; rintro e w' ⟨rfl, hw⟩; replace hw := hw.symm; subst hw)
  have HA2 := hide (Joins.below_alloc1 w1 (.cells #[.int .i64 a, .int .i64 b, .int .i64 c, .int .i64 d] 91)).drew
  have HV2 := hide (((unhide HV).below (unhide HB1)).below (unhide HA2))
  have HV3 : Hid (VarB (w1.alloc (.cells #[.int .i64 a, .int .i64 b, .int .i64 c, .int .i64 d] 91)).drew w1.heap.size 91 ⟨a, b, c, d⟩) := hide ((VarB.new w1 91 ⟨a, b, c, d⟩).below (Below.refl _ _).drew)
  have HB2 := hide (fr (unhide HB) (unhide HA2))
  go_region
  go_wp2_with fail
  refine (blockOK_impl ⟨a, b, c, d⟩ _).mono ?_
  rintro e w2 ⟨rfl, hb2⟩
  rw [unhide HDD]
  have HB3 := hide (fr (unhide HB2) hb2)
  obtain ⟨hc0, hc1, hc2, hc3⟩ := ((unhide HV2).below hb2).cells
  obtain ⟨hf0, hf1, hf2, hf3⟩ := ((unhide HV2).below hb2).free
  obtain ⟨hx0, hx1, hx2, hx3⟩ := ((unhide HV3).below hb2).cells
  have HR3 := hide (fun u v x y => below4 (unhide HB3) (Nat.le_refl _) 0 1 2 3 u v x y)
  clear hb2 hi0 hi1 hi2 hi3
  go_wp2_with (go_at_call 84; refine (demand_true _).mono ?_; rintro e w' ⟨rfl, hw⟩; replace hw := hw.symm; subst hw)
  exact bodyPost_ret (v := bV ⟨a, b, c, d⟩) (by simp [results, Tryz.results74, go_sem, hc0, hc1, hc2, hc3]) rfl ⟨rfl, unhide HR3 _ _ _ _⟩

set_option maxHeartbeats 1600000 in
theorem readBlock_no (t : ByteArray) (w : World) (hs : t.size ≤ 65536) (hd : bdB t = false) (hE : ErrW w) :
    Calls Tryz.prog 74 #[.string t] w fun e w' => (∃ u pv, e = .panicked [{ v := .iface u pv, recovered := false }]) ∧ Below w.heap.size w w' := by
  have HA := hide (Joins.below_alloc1 w (.cells #[.int .i64 0, .int .i64 0, .int .i64 0, .int .i64 0] 91))
  have HE := hide (hE.below (unhide HA))
  clear hE
  by_cases hr : RecP t ∧ byteAt t 0 = 5
  · obtain ⟨hr1, hr2⟩ := hr
    by_cases hl : (unL (bodyT t)).length = 4
    · obtain ⟨a, b, c, d, hl, hdd⟩ := bd_shut hd ⟨hr1, hr2⟩ hl
      have HL := hide hl
      have HDD := hide hdd
      have HR := hide hr1
      have HK := hide hr2
      clear hl hdd hr1 hr2 hd
      go_enter Tryz.func74, Tryz.ntmps74
      go_wp2_with fail
      refine (readKind_yes t 5 _ hs (unhide HR) (unhide HK)).mono ?_
      rintro e w1 ⟨v, rfl, ⟨qo, qa, rfl, ho⟩, hb⟩
      have HB := hide (fr (unhide HA) hb)
      have HE1 := hide ((unhide HE).below hb)
      have hI := ownRN ho
      rw [unhide HL] at hI ⊢
      obtain ⟨g, off, rfl, hi0⟩ := hI 0 (by simp)
      obtain ⟨g', off', he, hi1⟩ := hI 1 (by simp)
      cases he
      obtain ⟨g', off', he, hi2⟩ := hI 2 (by simp)
      cases he
      obtain ⟨g', off', he, hi3⟩ := hI 3 (by simp)
      cases he
      simp only [List.getElem_cons_zero, List.getElem_cons_succ, Nat.add_zero] at hi0 hi1 hi2 hi3
      have hg := World.block_lt_of_cell? _ _ hi0
      clear hI ho hb
      simp only [List.length_cons, List.length_nil, Nat.zero_add, Nat.reduceAdd]
      go_wp2_with (go_at_call 84; refine (demand_true _).mono ?_; rintro e w' ⟨rfl, hw⟩; replace hw := hw.symm; subst hw)
      have HA2 := hide (Joins.below_alloc1 w1 (.cells #[.int .i64 a, .int .i64 b, .int .i64 c, .int .i64 d] 91)).drew
      have HV3 : Hid (VarB (w1.alloc (.cells #[.int .i64 a, .int .i64 b, .int .i64 c, .int .i64 d] 91)).drew w1.heap.size 91 ⟨a, b, c, d⟩) := hide ((VarB.new w1 91 ⟨a, b, c, d⟩).below (Below.refl _ _).drew)
      have HB2 := hide (fr (unhide HB) (unhide HA2))
      go_region
      go_wp2_with fail
      refine (blockOK_impl ⟨a, b, c, d⟩ _).mono ?_
      rintro e w2 ⟨rfl, hb2⟩
      rw [unhide HDD]
      have HB3 := hide (fr (unhide HB2) hb2)
      have HE2 := hide (((unhide HE1).below (unhide HA2)).below hb2)
      clear hb2 hi0 hi1 hi2 hi3
      go_wp2_with (go_at_call 84; refine (demand_false _ (unhide HE2)).mono ?_; rintro e w' ⟨⟨u, pv, rfl⟩, hw⟩; replace hw := hw.symm; subst hw)
      exact ⟨rfl, ⟨_, _, rfl⟩, unhide HB3⟩
    · have hl3 : ((((unL (bodyT t)).length : Nat) : Int) == 4) = false := by rw [beq_eq_false_iff_ne]; omega
      have HR := hide hr1
      have HK := hide hr2
      clear hl hr1 hr2 hd
      go_enter Tryz.func74, Tryz.ntmps74
      go_wp2_with fail
      refine (readKind_yes t 5 _ hs (unhide HR) (unhide HK)).mono ?_
      rintro e w1 ⟨v, rfl, ⟨qo, qa, rfl, ho⟩, hb⟩
      have HB := hide (fr (unhide HA) hb)
      have HE1 := hide ((unhide HE).below hb)
      clear ho hb
      go_wp2_with (go_at_call 84; refine (demand_false _ (unhide HE1)).mono ?_; rintro e w' ⟨⟨u, pv, rfl⟩, hw⟩; replace hw := hw.symm; subst hw)
      exact ⟨rfl, ⟨_, _, rfl⟩, unhide HB⟩
  · go_enter Tryz.func74, Tryz.ntmps74
    go_wp2_with fail
    refine (readKind_no t 5 _ hs hr (unhide HE)).mono ?_
    rintro e w1 ⟨⟨u, pv, rfl⟩, hb⟩
    have HB := hide (fr (unhide HA) hb)
    clear hb
    go_wp2
    exact ⟨rfl, ⟨_, _, rfl⟩, unhide HB⟩

theorem catchB_panicking (p : Addr) (x : Int) (u : TypeId) (pv : Value) (older : List PanicEntry) (w : World) (hc : w.cell? p = some (.int .i64 x)) (hz : w.frozen? p = false) :
    CallsD Tryz.prog 82 #[.pointer (some p)] (.panicking ({ v := .iface u pv, recovered := false } :: older)) w fun e u' w' =>
      e = .returned (.tuple #[]) ∧ u' = .panicking ({ v := .iface u pv, recovered := true } :: older) ∧ w' = w.setCell p (.int .i64 3) := by
  refine callsD_of_wpS Tryz.func82 rfl fun c₀ cs hu => ?_
  apply wpS_seq
  apply wpS_region
  simp [wpOpsS, go_sem, recoverD, hu, Tryz.ntmps82, Exit.thenS]
  refine wpS_cond (t := true) (by simp [Act.eval, Array.replicate]) ?_
  simp only [if_true]
  apply wpS_region
  simp [wpOpsS, go_sem, hc, hz, bodyPostS, results, Tryz.results82]

theorem catchB_idle (p : Addr) (w : World) :
    CallsD Tryz.prog 82 #[.pointer (some p)] .returning w fun e u' w' => e = .returned (.tuple #[]) ∧ u' = .returning ∧ w' = w := by
  refine callsD_of_wpS Tryz.func82 rfl fun c₀ cs hu => ?_
  apply wpS_seq
  apply wpS_region
  simp [wpOpsS, go_sem, recoverD, hu, Tryz.ntmps82, Exit.thenS]
  refine wpS_cond (t := false) (by simp [Act.eval, Array.replicate]) ?_
  simp only [Bool.false_eq_true, if_false]
  refine wpS_of_wp (wp_skip ?_)
  cases c₀
  simp_all [bodyPostS, results, Tryz.results82]

end Go.Proofs.YtjmianalknnekabGreatDoor

/- Contracts of impl.readText at a block, impl.DecodeBlock. -/
namespace Go.Proofs.YtjmianalknnekabGreatDoor
open Go.RowKit
set_option linter.unusedVariables false
set_option maxRecDepth 100000

theorem two_newB {w w1 : World} (hb : Below ((w.alloc (.cells #[.int .i64 0, .int .i64 0, .int .i64 0, .int .i64 0] 91)).alloc (.cells #[.int .i64 0] 3)).heap.size ((w.alloc (.cells #[.int .i64 0, .int .i64 0, .int .i64 0, .int .i64 0] 91)).alloc (.cells #[.int .i64 0] 3)) w1) : VarB w1 w.heap.size 91 bk0 ∧ w1.heap[w.heap.size + 1]? = some (.cells #[.int .i64 0] 3 (0, 0)) := by
  constructor
  · exact ((VarB.new0 w _).below (Joins.below_alloc1 _ _)).below hb
  · rw [hb.block _ (by simp)]
    have := heap_alloc_new (w.alloc (.cells #[.int .i64 0, .int .i64 0, .int .i64 0, .int .i64 0] 91)) (.cells #[.int .i64 0] 3)
    simp only [World.size_alloc] at this
    exact this

set_option maxHeartbeats 1600000 in
theorem readTextB_yes (s : ByteArray) (w : World) (hs : s.size ≤ 65536) (hd : bdB s = true) :
    Calls Tryz.prog 73 #[.string s, .func (.func 74) #[] #[]] w fun e w' => e = .returned (.tuple #[bV (bdK s), .int .i64 0]) ∧ Below w.heap.size w w' := by
  have hmf : ∀ (fn : Fn) (first cap : Array Value) (w : World), (Instr.makeFunc fn first cap).run Tryz.prog w = .ok (.func fn first cap) w := fun _ _ _ _ => rfl
  have HD := hide hd
  clear hd
  go_enter_defers Tryz.func73, Tryz.ntmps73
  go_wp2_with fail
  refine (readBlock_yes s _ hs (unhide HD)).mono ?_
  rintro e w1 ⟨rfl, hb1⟩
  obtain ⟨hv, hblk⟩ := two_newB hb1
  obtain ⟨v0, v1, v2, v3⟩ := hv.cells
  obtain ⟨f0, f1, f2, f3⟩ := hv.free
  have hc0 := Joins.cell_of_block hblk 0
  have hf0 := Joins.unfrozen_of_block hblk 0
  simp only [List.size_toArray, List.length_cons, List.length_nil, Nat.zero_add, Nat.lt_add_one, getElem?_pos, List.getElem_toArray, List.getElem_cons_zero] at hc0
  have HB := hide (fr (Joins.below_alloc2 w _ _) hb1)
  clear hb1 hblk hv
  go_wp2
  refine leaves_cons (f := 82) (args := #[.pointer (some ⟨w.heap.size + 1, 0, none⟩)]) (by simp) (by simp [go_sem]) ?_
  refine (catchB_idle ⟨w.heap.size + 1, 0, none⟩ _).mono ?_
  rintro e u' w'' ⟨rfl, rfl, rfl⟩
  simp [Leaves, settle, results, Tryz.results73, go_sem, v0, v1, v2, v3, hc0, bk0]
  exact (below4 (unhide HB) (Nat.le_refl _) 0 1 2 3 _ _ _ _).setCell (p := ⟨w.heap.size + 1, 0, none⟩) (Nat.le_succ _) _

set_option maxHeartbeats 1600000 in
theorem readTextB_no (s : ByteArray) (w : World) (hs : s.size ≤ 65536) (hd : bdB s = false) (hE : ErrW w) :
    Calls Tryz.prog 73 #[.string s, .func (.func 74) #[] #[]] w fun e w' => e = .returned (.tuple #[bV bk0, .int .i64 3]) ∧ Below w.heap.size w w' := by
  have hmf : ∀ (fn : Fn) (first cap : Array Value) (w : World), (Instr.makeFunc fn first cap).run Tryz.prog w = .ok (.func fn first cap) w := fun _ _ _ _ => rfl
  have HD := hide hd
  have HE := hide (hE.below (Joins.below_alloc2 w (.cells #[.int .i64 0, .int .i64 0, .int .i64 0, .int .i64 0] 91) (.cells #[.int .i64 0] 3)))
  clear hd hE
  go_enter_defers Tryz.func73, Tryz.ntmps73
  go_wp2_with fail
  refine (readBlock_no s _ hs (unhide HD) (unhide HE)).mono ?_
  rintro e w1 ⟨⟨u, pv, rfl⟩, hb1⟩
  obtain ⟨hv, hblk⟩ := two_newB hb1
  obtain ⟨v0, v1, v2, v3⟩ := hv.cells
  have hc0 := Joins.cell_of_block hblk 0
  have hf0 := Joins.unfrozen_of_block hblk 0
  simp only [List.size_toArray, List.length_cons, List.length_nil, Nat.zero_add, Nat.lt_add_one, getElem?_pos, List.getElem_toArray, List.getElem_cons_zero] at hc0
  have HB := hide (fr (Joins.below_alloc2 w _ _) hb1)
  clear hb1 hblk hv
  go_wp2
  refine leaves_cons (f := 82) (args := #[.pointer (some ⟨w.heap.size + 1, 0, none⟩)]) (by simp) (by simp [go_sem]) ?_
  refine (catchB_panicking ⟨w.heap.size + 1, 0, none⟩ 0 u pv [] _ hc0 hf0).mono ?_
  rintro e u' w'' ⟨rfl, rfl, rfl⟩
  simp [Leaves, settle, results, Tryz.results73, go_sem, v0, v1, v2, v3, hc0, bk0]
  exact (unhide HB).setCell (p := ⟨w.heap.size + 1, 0, none⟩) (Nat.le_succ _) _

theorem readTextB_long (s : ByteArray) (w : World) (hs : 65536 < s.size) (f : Value) :
    Calls Tryz.prog 73 #[.string s, f] w fun e w' => e = .returned (.tuple #[bV bk0, .int .i64 2]) ∧ Below w.heap.size w w' := by
  go_enter_defers Tryz.func73, Tryz.ntmps73
  go_wp2
  simp [bodyPostD, Leaves, results, Tryz.results73, go_sem, bk0]
  exact Joins.below_alloc2 _ _ _

set_option maxHeartbeats 1600000 in
theorem decodeBlock_impl (t : ByteArray) (w : World) (hE : ErrW w) : Calls Tryz.prog 61 #[.string t] w fun e w' => e = .returned (.tuple #[bV (bcK t), .int .i64 (bcC t)]) ∧ Below w.heap.size w w' := by
  have hmf : ∀ (fn : Fn) (first cap : Array Value) (w : World), (Instr.makeFunc fn first cap).run Tryz.prog w = .ok (.func fn first cap) w := fun _ _ _ _ => rfl
  have HA := hide (Joins.below_alloc1 w (.cells #[.int .i64 0, .int .i64 0, .int .i64 0, .int .i64 0] 91))
  have HE := hide (hE.below (unhide HA))
  have HV := hide (VarB.new0 w 91)
  clear hE
  obtain ⟨K, HK⟩ : ∃ K : Prop, Hid K := ⟨True, trivial⟩
  have key : ∀ (K1 : Bk) (d : Int), (bcK t = K1 ∧ bcC t = d) → (∀ W, ErrW W → Calls Tryz.prog 73 #[.string t, .func (.func 74) #[] #[]] W fun e w' => e = .returned (.tuple #[bV K1, .int .i64 d]) ∧ Below W.heap.size W w') →
      Calls Tryz.prog 61 #[.string t] w fun e w' => e = .returned (.tuple #[bV (bcK t), .int .i64 (bcC t)]) ∧ Below w.heap.size w w' := by
    intro K1 d hq hc
    have HQ := hide hq
    have HC := hide hc
    clear hq hc
    go_enter Tryz.func61, Tryz.ntmps61
    go_wp2_with fail
    refine (unhide HC _ (unhide HE)).mono ?_
    rintro e w1 ⟨rfl, hb⟩
    have HV1 := hide ((unhide HV).below hb)
    obtain ⟨hc0, hc1, hc2, hc3⟩ := (unhide HV1).cells
    obtain ⟨hf0, hf1, hf2, hf3⟩ := (unhide HV1).free
    have HB := hide (fun u v x y => below4 (fr (unhide HA) hb) (Nat.le_refl _) 0 1 2 3 u v x y)
    clear hb
    go_wp2
    refine bodyPost_ret (v := .tuple #[bV K1, .int .i64 d]) (by simp [results, Tryz.results61, go_sem, hc0, hc1, hc2, hc3]) rfl ⟨?_, unhide HB _ _ _ _⟩
    exact ret_bi (unhide HQ).1.symm (unhide HQ).2.symm
  by_cases h1 : 65536 < t.size
  · exact key _ _ (bc_long h1) (fun W _ => readTextB_long t W h1 _)
  · by_cases hd : bdB t = true
    · exact key _ _ (bc_yes h1 hd) (fun W _ => readTextB_yes t W (by omega) hd)
    · rw [Bool.not_eq_true] at hd
      exact key _ _ (bc_no h1 hd) (fun W hW => readTextB_no t W (by omega) hd hW)

end Go.Proofs.YtjmianalknnekabGreatDoor

/- Contract of the program's blocksSeen. -/
namespace Go.Proofs.YtjmianalknnekabGreatDoor
open Go.RowKit
set_option linter.unusedVariables false
set_option maxRecDepth 100000

theorem infoL : (Tryz.prog.info? 91).map (fun i => (i.zero, i.size, i.bytes)) = some (some (.agg #[.int .i64 0, .int .i64 0, .int .i64 0, .int .i64 0]), 4, 32) := by kernel_rfl
theorem made4 : (madeCells #[Value.int .i64 0, Value.int .i64 0, Value.int .i64 0, Value.int .i64 0] 16).toList = bksV [bk0, bk0, bk0, bk0] := by
  first
    | rfl
    | (simp [madeCells, bksV, bk0]; rfl)
theorem bksOf_at (ss : List ByteArray) (xs : List Wr) (h : Int) {k : Nat} (hk : k < 4) : (bksOf ss xs h).getD k bk0 = bdK (readV ss xs h (1 + (k : Int))) := by
  rcases (show k = 0 ∨ k = 1 ∨ k = 2 ∨ k = 3 by omega) with rfl | rfl | rfl | rfl <;> rfl
theorem list4 {l m : List Bk} (hl : l.length = 4) (hm : m.length = 4) (h : ∀ j, j < 4 → l.getD j bk0 = m.getD j bk0) : l = m := by
  apply List.ext_getElem (hl.trans hm.symm)
  intro i h1 h2
  have := h i (by omega)
  simpa [h1, h2] using this
theorem bcK_right {T : ByteArray} (h : T.size ≤ 80) : bcK T = bdK T := if_neg (by omega)
/-- What is between two of its rounds. -/
structure SeI (w wr : World) (D : Nat) (dv dx : Value) (g : Nat) (l : List Bk) : Prop where
  below : Below w.heap.size w wr
  d : VarD wr D dv dx
  o : wr.ownsRow (D + 1) 91 4 (.slice (some ⟨g, 0, none⟩) 4 4) 4 (bksV l)
  n : l.length = 4
  g : D + 1 ≤ g
theorem SeI.next {w wr w' : World} {D : Nat} {dv dx : Value} {g : Nat} {l : List Bk} (k : SeI w wr D dv dx g l) (hb : Below wr.heap.size wr w') : SeI w w' D dv dx g l := ⟨fr k.below hb, k.d.below hb, own_below k.o hb, k.n, k.g⟩
theorem SeI.put {w wr : World} {D : Nat} {dv dx : Value} {g : Nat} {l : List Bk} (h : SeI w wr D dv dx g l) (hw : w.heap.size ≤ D) {k : Nat} (hk : k < 4) (y : Bk) :
    SeI w ((((wr.setCell ⟨g, k * 4, none⟩ (.int .i64 y.ver)).setCell ⟨g, k * 4 + 1, none⟩ (.int .i64 y.mbal)).setCell ⟨g, k * 4 + 2, none⟩ (.int .i64 y.bal)).setCell ⟨g, k * 4 + 3, none⟩ (.int .i64 y.inp)) D dv dx g (l.set k y) := by
  have hgw : w.heap.size ≤ g := by have := h.g; omega
  have hk' : Keep (fun j => j = g) wr ((((wr.setCell ⟨g, k * 4, none⟩ (.int .i64 y.ver)).setCell ⟨g, k * 4 + 1, none⟩ (.int .i64 y.mbal)).setCell ⟨g, k * 4 + 2, none⟩ (.int .i64 y.bal)).setCell ⟨g, k * 4 + 3, none⟩ (.int .i64 y.inp)) :=
    ((((Keep.refl (fun j => j = g) wr).setCell (p := ⟨g, k * 4, none⟩) rfl _).setCell (p := ⟨g, k * 4 + 1, none⟩) rfl _).setCell (p := ⟨g, k * 4 + 2, none⟩) rfl _).setCell (p := ⟨g, k * 4 + 3, none⟩) rfl _
  exact ⟨below4 h.below hgw _ _ _ _ _ _ _ _, h.d.keep hk' (by have := h.g; omega), own_put h.o (by rw [h.n]; exact hk) y, by simp [h.n], h.g⟩

set_option maxHeartbeats 3200000 in
theorem blocksSeen_any (ao bo : Option Addr) (ca cb : Nat) (ss : List ByteArray) (xs : List Wr) (h : Int) (w : World) (hd : diskB ss xs = true) (h1 : Ss w ao ss) (h2 : Ios w bo xs) (hE : ErrW w) :
    Calls Tryz.prog 47 #[.agg #[.slice ao ss.length ca, .slice bo xs.length cb], .int .i64 h] w fun e w' => ∃ g, e = .returned (.slice (some ⟨g, 0, none⟩) 4 4) ∧ OwnR w' w.heap.size 91 4 (.slice (some ⟨g, 0, none⟩) 4 4) 4 (bksV (bksOf ss xs h)) ∧ Below w.heap.size w w' := by
  have H1 := hide h1
  have H2 := hide h2
  have HE := hide hE
  have HD := hide hd
  have HA := hide (Joins.below_alloc1 w (.cells #[.slice ao ss.length ca, .slice bo xs.length cb] 31))
  have HV := hide (VarD.new w (.slice ao ss.length ca) (.slice bo xs.length cb))
  clear h1 h2 hE hd
  obtain ⟨i0, hi, hz0, hz1, hz2⟩ := info_parts infoL
  go_enter Tryz.func47, Tryz.ntmps47
  go_wp2_with (first | (at_make; refine wpList_make_full _ rfl _ _ 55 rfl (w.heap.size + 1) 91 i0 _ 4 Tryz.underlying55 hi hz0 hz1 _ _ _ _ 4 rfl rfl rfl rfl ?c1 ?c2 ?c3 ?_))
  case c1 => rw [hz2]; omega
  case c2 => unfold maxLen; omega
  case c3 => simp
  intro w1 hown hgrow
  replace hown : w1.ownsRow (w.heap.size + 1) 91 4 (.slice (some ⟨w.heap.size + 1, 0, none⟩) 4 4) 4 (bksV [bk0, bk0, bk0, bk0]) := by rw [show bksV [bk0, bk0, bk0, bk0] = (madeCells #[Value.int .i64 0, Value.int .i64 0, Value.int .i64 0, Value.int .i64 0] 16).toList from made4.symm]; simpa using hown
  have hB : Below (w.alloc (.cells #[.slice ao ss.length ca, .slice bo xs.length cb] 31)).heap.size (w.alloc (.cells #[.slice ao ss.length ca, .slice bo xs.length cb] 31)) w1 := (Below.refl _ _).grown hgrow (Nat.le_refl _) (fun _ h => by cases h)
  have E1 : Hid (SeI w w1 w.heap.size (.slice ao ss.length ca) (.slice bo xs.length cb) (w.heap.size + 1) [bk0, bk0, bk0, bk0]) := hide ⟨fr (unhide HA) hB, (unhide HV).below hB, hown, rfl, Nat.le_refl _⟩
  clear hown hB hgrow HA HV
  revert E1
  generalize hG : w.heap.size + 1 = G
  replace hG := hide hG
  intro E1
  go_wp2
  go_loopw [6, 10] (fun _ i wr => ∃ (k : Nat) (l : List Bk), k ≤ 4 ∧ i = .int .i64 k ∧ Hid (SeI w wr w.heap.size (.slice ao ss.length ca) (.slice bo xs.length cb) G l) ∧ Hid (∀ j, j < k → l.getD j bk0 = (bksOf ss xs h).getD j bk0)) (fun _ i _ => 4 - (intOf i).toNat)
  case atStart => exact ⟨0, _, Nat.zero_le _, rfl, E1, hide (fun j hj => absurd hj (Nat.not_lt_zero _))⟩
  case round =>
    obtain ⟨k, l, hk, rfl, ER, HP⟩ := hrel
    by_cases hlt : k < 4
    · have hki : (k : Int) < 4 := by omega
      obtain ⟨T, HT⟩ : ∃ T, Hid (readV ss xs h (1 + (k : Int)) = T) := ⟨_, hide rfl⟩
      have HTZ : Hid (T.size ≤ 80) := hide (by rw [← unhide HT]; exact readV_size (unhide HD) h _)
      obtain ⟨d0, d1⟩ := (unhide ER).d.cells
      have wr1 : IntKind.i64.wrap (1 + (k : Int)) = 1 + (k : Int) := by rw [IntKind.wrap_i64]; omega
      go_wp2_with fail
      refine (seenAt ao bo ca cb ss xs h (1 + (k : Int)) T _ (unhide HD) (by omega) (by omega) (unhide HT) ((unhide H1).below (unhide ER).below) ((unhide H2).below (unhide ER).below)).mono ?_
      rintro e w2 ⟨rfl, hb2⟩
      have E2 := hide ((unhide ER).next hb2)
      clear hb2 d0 d1
      go_wp2_with fail
      refine (decodeBlock_impl T _ ((unhide HE).below (unhide E2).below)).mono ?_
      rintro e w3 ⟨rfl, hb3⟩
      rw [bcK_right (unhide HTZ)]
      have E3 := hide ((unhide E2).next hb3)
      have HB : Hid (bdK T = (bksOf ss xs h).getD k bk0) := hide (by rw [bksOf_at ss xs h hlt, unhide HT])
      clear hb3
      revert HB
      generalize bdK T = y
      intro HB
      have E4 := hide ((unhide E3).put (Nat.le_refl _) hlt y)
      have hkl : k < l.length := by rw [(unhide E3).n]; exact hlt
      obtain ⟨b', off', eb, _, g0, g1, g2, g3⟩ := (ownBks (B := w.heap.size + 1) (e := 91) (cap := 4) (xs := l) (by rw [(unhide E3).n]; exact .inr ⟨by omega, (unhide E3).o⟩)).get k hkl
      simp only [Option.some.injEq, Addr.mk.injEq, and_true] at eb
      obtain ⟨rfl, rfl⟩ := eb
      simp only [Nat.zero_add] at g0 g1 g2 g3
      have fz := (row_free (n := 3) (.inr ⟨by omega, (unhide E3).o⟩)).1
      have hnn : l.length = 4 := (unhide E3).n
      have HPP : Hid (∀ j, j < k + 1 → (l.set k y).getD j bk0 = (bksOf ss xs h).getD j bk0) := hide (fun j hj => by
        by_cases e : j = k
        · subst e; rw [← unhide HB]; simp [hkl]
        · rw [← unhide HP j (by omega)]; simp [Ne.symm e])
      clear hkl hnn
      have f0 := fz (k * 4)
      have f1 := fz (k * 4 + 1)
      have f2 := fz (k * 4 + 2)
      have f3 := fz (k * 4 + 3)
      clear fz
      go_wp2
      go_roundw
      case rel => exact ⟨k + 1, l.set k y, by omega, by go_num, E4, HPP⟩
      case measure => simp [intOf]; omega
    · have hk4 : k = 4 := by omega
      have HL : Hid (l = bksOf ss xs h) := hide (list4 (unhide ER).n rfl (fun j hj => unhide HP j (by omega)))
      have hki : ¬ (k : Int) < 4 := by omega
      clear hk4
      go_wp2
      go_ret
      refine ⟨_, rfl, ?_, (unhide ER).below⟩
      rw [← unhide HL]
      exact .inr ⟨by omega, own_base (unhide ER).o (Nat.le_succ _)⟩
end Go.Proofs.YtjmianalknnekabGreatDoor
