import Derived.Test.YtlhinknmbgijeabDoorLUpdatesPart1
import Derived.WalkKit
import Derived.WalkSpells
import Derived.Deep.RegionLawGrows
import Derived.Deep.RegionHeld3
import Derived.Test.YtlhinknmbgijeabDoorRows
import Derived.Test.YtlhinknmbgijeabDoorLUpdatesPart3
import Derived.Deep.AppendLies

/- Laws on append onto an empty literal, of no program's own. -/
namespace Go.Proofs.YtlhinknmbgijeabDoor
open Go.RowKit
set_option linter.unusedVariables false
set_option maxRecDepth 100000

section
variable {P : Program}
theorem run_append_nothing (w : World) (t ty e : TypeId) (i : TypeInfo) (ht : P.underlying t = some (.slice e)) (hi : P.info? e = some i) (d so : Option Addr) (cap c : Nat) :
    (Builtin.append_ #[t, t] ty #[.slice d 0 cap, .slice so 0 c]).run P w = .ok (.slice d 0 cap) w := by
  have hl : ∀ (x : Addr), (loadCells x 0).run P w = .ok #[] w := fun x => by simpa using run_loadCells_list (P := P) w x [] (by simp)
  cases d <;> cases so <;> simp [Builtin.append_, run_underlying ht, sizeOf, typeInfo, hi, Builtin.lenOf, Builtin.firstCells, storeCells, hl]

theorem run_append_fresh (w : World) (t ty e : TypeId) (i : TypeInfo) (z : Value) (size bytes : Nat) (ht : P.underlying t = some (.slice e)) (hi : P.info? e = some i) (hz : i.zero = some z)
    (hsize : i.size = size) (hby : i.bytes = bytes) (hzs : z.cells.size = size) (hsz : 0 < size)
    (d : Addr) (so : Option Addr) (m c : Nat) (news : List Value) (hn : news.length = m * size) (hc : 0 < m → ∃ ad, so = some ad ∧ ∀ j u, news[j]? = some u → w.cell? (ad.add j) = some u)
    (b1 : m ≤ maxLen) (b2 : m * bytes ≤ 140737488355328) :
    ∃ ao cap w', (Builtin.append_ #[t, t] ty #[.slice (some d) 0 0, .slice so m c]).run P w = .ok (.slice ao m cap) w' ∧ OwnR w' w.heap.size e size (.slice ao m cap) m news ∧ w.grownBy w' none := by
  rcases Nat.eq_zero_or_pos m with h0 | h0
  · subst h0
    exact ⟨some d, 0, w, run_append_nothing w t ty e i ht hi _ _ _ _, .inl ⟨rfl, List.eq_nil_of_length_eq_zero (by simpa using hn), _, rfl⟩, World.grownBy.refl w none⟩
  · obtain ⟨ad, rfl, hcs⟩ := hc h0
    obtain ⟨v', w', hrun, r1, r2⟩ := run_append_arg_grows (P := P) w t ty e i z size bytes ht hi hz hsize hby hzs hsz d 0 0 [] (by simp) (by simp) ad m c news hn hcs (by omega) (by simpa using b1) (by simpa using b2)
    simp only [Nat.zero_add, List.nil_append] at r1
    obtain ⟨g, cap, cur, rfl, _, _⟩ := own_form h0 r1
    exact ⟨_, _, w', hrun, .inr ⟨h0, r1⟩, r2⟩

def isFresh : Value → Bool
  | .slice (some _) 0 0 => true
  | _ => false
theorem isFresh_form {v : Value} (h : isFresh v = true) : ∃ d, v = .slice (some d) 0 0 := by
  unfold isFresh at h
  split at h
  · exact ⟨_, rfl⟩
  · cases h

theorem step_append_fresh {ops : Array Oper} {o : Oper} {a : Act} {w : World} {K : Act → World → Prop} {Q : Exit → Act → World → Prop} {E : Prop}
    (hg : o.guard = none) (s x : Operand) (t : TypeId) (hop : o.op = Op.call { callee := Callee.builtin Builtin.append, args := #[s, x], argTypes := #[t, t] })
    (e : TypeId) (i : TypeInfo) (z : Value) (size bytes : Nat) (h1 : P.underlying t = some (.slice e)) (h2 : P.info? e = some i) (h3 : i.zero = some z) (h4 : i.size = size) (h5 : i.bytes = bytes) (h6 : z.cells.size = size) (h7 : 0 < size)
    (hs0 : isFresh (a.eval s) = true) (so : Option Addr) (m c : Nat) (news : List Value) (hx : a.eval x = .slice so m c) (hn : news.length = m * size)
    (hc : 0 < m → ∃ ad, so = some ad ∧ ∀ j u, news[j]? = some u → w.cell? (ad.add j) = some u) (b1 : m ≤ maxLen) (b2 : m * bytes ≤ 140737488355328)
    (hK : ∀ ao cap w', OwnR w' w.heap.size e size (.slice ao m cap) m news → w.grownBy w' none → K (a.put o.dst (.slice ao m cap)) w') :
    if Region.wanted o (yielded ops a.tmps) = true then Oper.wp P o a w K Q else E := by
  have hw : Region.wanted o (yielded ops a.tmps) = true := by simp [Region.wanted, hg]
  rw [if_pos hw]
  obtain ⟨d, hs⟩ := isFresh_form hs0
  obtain ⟨ao, cap, w', hrun, r1, r2⟩ := run_append_fresh (P := P) w t o.type e i z size bytes h1 h2 h3 h4 h5 h6 h7 d so m c news hn hc b1 b2
  unfold Oper.wp
  simp [execOp, hop, resolve, invoke, builtin, hs, hx, hrun, Result.andThen]
  exact hK _ _ _ r1 r2
end


theorem belowAl {W0 W : World} (h : Below W0.heap.size W0 W) (o : Obj) : Below W0.heap.size W0 (W.alloc o) := h.alloc h.size o
theorem belowGr {W0 W W' : World} (h : Below W0.heap.size W0 W) (hg : W.grownBy W' none) : Below W0.heap.size W0 W' := h.grown hg h.size (fun _ h => by cases h)
end Go.Proofs.YtlhinknmbgijeabDoor

/- Contract of spec.l01Own: the disk as it was, in new memory. -/
namespace Go.Proofs.YtlhinknmbgijeabDoor
open Go.RowKit
set_option linter.unusedVariables false
set_option maxRecDepth 100000

/-- The cells of a slice's texts, of its writes, for an append. -/
theorem Ss.src {w : World} {ao : Option Addr} {ss : List ByteArray} (h : Ss w ao ss) : 0 < ss.length → ∃ ad, ao = some ad ∧ ∀ j u, (strV ss)[j]? = some u → w.cell? (ad.add j) = some u := fun hp => by
  obtain ⟨b, off, rfl, hc⟩ := h.at hp
  exact ⟨_, rfl, hc⟩
theorem Ios.src {w : World} {ao : Option Addr} {xs : List Wr} (h : Ios w ao xs) : 0 < xs.length → ∃ ad, ao = some ad ∧ ∀ j u, (ioV xs)[j]? = some u → w.cell? (ad.add j) = some u := fun hp => by
  obtain ⟨b, off, rfl, hc⟩ := h.at hp
  exact ⟨_, rfl, hc⟩


theorem VarD.free {w : World} {x : Nat} {a b : Value} (h : VarD w x a b) (i : Nat) : w.frozen? ⟨x, i, none⟩ = false := Joins.unfrozen_of_block h i

set_option maxHeartbeats 6400000 in
theorem l01Own_any (ao bo : Option Addr) (ca cb : Nat) (ss : List ByteArray) (xs : List Wr) (w : World) (hl : ss.length ≤ 1048576) (hm : xs.length ≤ 1048576) (h1 : Ss w ao ss) (h2 : Ios w bo xs) :
    Calls Tryd.prog 29 #[.agg #[.slice ao ss.length ca, .slice bo xs.length cb]] w fun e w' => ∃ po pa qo qa, e = .returned (.agg #[.slice po ss.length pa, .slice qo xs.length qa]) ∧ OwnD w' w.heap.size po ss.length pa qo xs.length qa ss xs ∧ Below w.heap.size w w' := by
  have HA := hide (Joins.below_alloc2 w (.cells #[.slice ao ss.length ca, .slice bo xs.length cb] 26) (.cells #[.slice none 0 0, .slice none 0 0] 26))
  have HS := hide (h1.below (unhide HA))
  have HX := hide (h2.below (unhide HA))
  have HV := hide ((VarD.new w (.slice ao ss.length ca) (.slice bo xs.length cb)).below (Joins.below_alloc1 _ (.cells #[.slice none 0 0, .slice none 0 0] 26)))
  have HR : Hid (VarD ((w.alloc (.cells #[.slice ao ss.length ca, .slice bo xs.length cb] 26)).alloc (.cells #[.slice none 0 0, .slice none 0 0] 26)) (w.heap.size + 1) (.slice none 0 0) (.slice none 0 0)) := hide (by have := VarD.new (w.alloc (.cells #[.slice ao ss.length ca, .slice bo xs.length cb] 26)) (.slice none 0 0) (.slice none 0 0); simp only [World.size_alloc] at this; exact this)
  clear h1 h2
  obtain ⟨i0, hi, hz0, hz1, hz2⟩ := info_parts infoS
  obtain ⟨j0, hj, hy0, hy1, hy2⟩ := info_parts infoW
  go_enter Tryd.func29, Tryd.ntmps29
  go_wp2
  go_region_held3 (fun w' => w'.cell? ⟨w.heap.size, 0, none⟩ = some (.slice ao ss.length ca) ∧ w'.cell? ⟨w.heap.size, 1, none⟩ = some (.slice bo xs.length cb)) (go_keep)
    (first
      | (refine (step_append_fresh ?_ (.tmp 3) (.tmp 5) 23 ?_ 9 i0 (.string ⟨#[]⟩) 1 16 Tryd.underlying23 hi hz0 hz1 hz2 ?_ ?_ ?_ ao ss.length ca (strV ss) ?_ ?_ ?_ ?_ ?_ ?_)
         · rfl
         · rfl
         · rfl
         · omega
         · rfl
         · rfl
         · rw [strV_length]; omega
         · refine Ss.src ((unhide HS).below ?_)
           repeat (first | exact Below.refl _ _ | exact hbA | exact hbB | refine Below.drew ?_ | refine belowAl ?_ _)
         · unfold maxLen; omega
         · omega
         intro po pa wA hoA hgA
         have hbA : Below ((w.alloc (.cells #[.slice ao ss.length ca, .slice bo xs.length cb] 26)).alloc (.cells #[.slice none 0 0, .slice none 0 0] 26)).heap.size ((w.alloc (.cells #[.slice ao ss.length ca, .slice bo xs.length cb] 26)).alloc (.cells #[.slice none 0 0, .slice none 0 0] 26)) wA := belowGr (by repeat (first | exact Below.refl _ _ | exact hbA | exact hbB | refine Below.drew ?_ | refine belowAl ?_ _)) hgA
         obtain ⟨hA0, hA1⟩ := ((unhide HV).below hbA).cells
         obtain ⟨hA2, hA3⟩ := ((unhide HR).below hbA).cells
         have hA4 := ((unhide HR).below hbA).free 0
         have hA5 := ((unhide HR).below hbA).free 1)
      | (refine (step_append_fresh ?_ (.tmp 7) (.tmp 9) 24 ?_ 94 j0 (.agg #[.int .i64 0, .int .i64 0, .string ⟨#[]⟩]) 3 32 Tryd.underlying24 hj hy0 hy1 hy2 ?_ ?_ ?_ bo xs.length cb (ioV xs) ?_ ?_ ?_ ?_ ?_ ?_)
         · rfl
         · rfl
         · rfl
         · omega
         · rfl
         · rfl
         · rw [ioV_length]
         · refine Ios.src ((unhide HX).below ?_)
           repeat (first | exact Below.refl _ _ | exact hbA | exact hbB | refine Below.drew ?_ | refine belowAl ?_ _)
         · unfold maxLen; omega
         · omega
         intro qo qa wB hoB hgB
         have hbB : Below ((w.alloc (.cells #[.slice ao ss.length ca, .slice bo xs.length cb] 26)).alloc (.cells #[.slice none 0 0, .slice none 0 0] 26)).heap.size ((w.alloc (.cells #[.slice ao ss.length ca, .slice bo xs.length cb] 26)).alloc (.cells #[.slice none 0 0, .slice none 0 0] 26)) wB := belowGr (by repeat (first | exact Below.refl _ _ | exact hbA | exact hbB | refine Below.drew ?_ | refine belowAl ?_ _)) hgB
         obtain ⟨hB0, hB1⟩ := ((unhide HV).below hbB).cells
         obtain ⟨hB2, hB3⟩ := ((unhide HR).below hbB).cells
         have hB4 := ((unhide HR).below hbB).free 0
         have hB5 := ((unhide HR).below hbB).free 1))
  all_goals
    have hAB : Below wA.heap.size wA wB := belowGr (by repeat (first | exact Below.refl _ _ | refine Below.drew ?_ | refine belowAl ?_ _)) hgB
    have hsA : w.heap.size + 2 ≤ wA.heap.size := by have := hbA.size; simp at this; omega
    have HL := hide (copyD_end (w := w) (wL := wB) (po := po) (qo := qo) (n := ss.length) (pa := pa) (m := xs.length) (qa := qa) (ss := ss) (xs := xs) ⟨(hoA.below hAB).base (by first | omega | (simp <;> omega)), hoB.base (by first | omega | (simp <;> omega) | exact hsA)⟩ (fr (unhide HA) hbB) (.slice po ss.length pa) (.slice qo xs.length qa))
    clear hoA hoB hgA hgB hbA hbB hAB hA0 hA1 hA2 hA3 hA4 hA5
    go_wp2
    exact bodyPost_ret (v := .agg #[.slice po ss.length pa, .slice qo xs.length qa]) (by simp [results, Tryd.results29, go_sem, hB2, hB3]) rfl ⟨_, _, _, _, rfl, (unhide HL).1, (unhide HL).2⟩

end Go.Proofs.YtlhinknmbgijeabDoor

/- Variables that hold a write; ends of calls that answer with a disk. -/
namespace Go.Proofs.YtlhinknmbgijeabDoor
open Go.RowKit
set_option linter.unusedVariables false

def wrV (x : Wr) : List Value := [.int .i64 x.host, .int .i64 x.at_, .string x.data]
theorem wrV_one (x : Wr) : ∀ u ∈ wrV x, u.oneCell' = true := by
  intro u hu
  simp [wrV] at hu
  rcases hu with rfl | rfl | rfl <;> rfl
/-- A variable that holds a write. -/
def VarI (w : World) (y : Nat) (x : Wr) : Prop := w.heap[y]? = some (.cells #[.int .i64 x.host, .int .i64 x.at_, .string x.data] 94 (0, 0))
theorem VarI.lt {w : World} {y : Nat} {x : Wr} (h : VarI w y x) : y < w.heap.size := (Array.getElem?_eq_some_iff.1 h).1
theorem VarI.cells {w : World} {y : Nat} {x : Wr} (h : VarI w y x) : w.cell? ⟨y, 0, none⟩ = some (.int .i64 x.host) ∧ w.cell? ⟨y, 1, none⟩ = some (.int .i64 x.at_) ∧ w.cell? ⟨y, 2, none⟩ = some (.string x.data) := ⟨by rw [Joins.cell_of_block h]; rfl, by rw [Joins.cell_of_block h]; rfl, by rw [Joins.cell_of_block h]; rfl⟩
theorem VarI.below {w w' : World} {y : Nat} {x : Wr} (h : VarI w y x) (hb : Below w.heap.size w w') : VarI w' y x := by
  unfold VarI; rw [hb.block y h.lt]; exact h
theorem VarI.new (w : World) (x : Wr) : VarI (w.alloc (.cells #[.int .i64 x.host, .int .i64 x.at_, .string x.data] 94)) w.heap.size x := heap_alloc_new w _
theorem VarI.news {w : World} {y : Nat} {x : Wr} (h : VarI w y x) : ∀ j u, (wrV x)[j]? = some u → w.cell? ((⟨y, 0, none⟩ : Addr).add j) = some u := World.news_of_block (cs := #[.int .i64 x.host, .int .i64 x.at_, .string x.data]) h
theorem VarI.top {W : World} {y : Nat} {x : Wr} (h : W.heap.size = y) : VarI (W.alloc (.cells #[.int .i64 x.host, .int .i64 x.at_, .string x.data] 94)) y x := by rw [← h]; exact VarI.new W x
theorem VarI.under {W : World} {y : Nat} {x : Wr} (h : VarI W y x) (o : Obj) : VarI (W.alloc o) y x := h.below (Joins.below_alloc1 _ _)
theorem VarI.drew {W : World} {y : Nat} {x : Wr} (h : VarI W y x) : VarI W.drew y x := h
theorem VarI.grown {W W' : World} {y : Nat} {x : Wr} (h : VarI W y x) (hg : W.grownBy W' none) : VarI W' y x := by
  unfold VarI; rw [hg.block y h.lt (by simp)]; exact h
theorem ioV_snoc (xs : List Wr) (x : Wr) : ioV (xs ++ [x]) = ioV xs ++ wrV x := by simp [ioV, wrV]

theorem belowKp {W0 W W' : World} {S : Nat → Prop} (h : Below W0.heap.size W0 W) (hk : Keep S W W') (hs : ∀ j, S j → W0.heap.size ≤ j) : Below W0.heap.size W0 W' := h.trans (hk.below h.size hs)
theorem zeroD_own {w : World} {B : Nat} : OwnD w B none 0 0 none 0 0 [] [] := ⟨.inl ⟨rfl, rfl, none, rfl⟩, .inl ⟨rfl, rfl, none, rfl⟩⟩
theorem zero_end {w wL : World} (hb : Below w.heap.size w wL) (a b : Value) : Below w.heap.size w ((wL.setCell ⟨w.heap.size + 1, 0, none⟩ a).setCell ⟨w.heap.size + 1, 1, none⟩ b) :=
  (hb.setCell (p := ⟨w.heap.size + 1, 0, none⟩) (by simp) a).setCell (p := ⟨w.heap.size + 1, 1, none⟩) (by simp) b

theorem ask_zero (ss : List ByteArray) (xs : List Wr) (h : Int) : askC ss xs h 0 = hostC ss xs h := by
  unfold askC
  split
  · rename_i e; rw [e]; rfl
  · rfl
/-- A disk's answer through the cell of the result. -/
theorem land_end {w wL : World} {po qo : Option Addr} {n pa m qa : Nat} {ss : List ByteArray} {xs : List Wr} {B : Nat} (ho : OwnD wL B po n pa qo m qa ss xs) (hB : w.heap.size + 2 ≤ B) (hb : Below w.heap.size w wL) (a b : Value) :
    OwnD ((wL.setCell ⟨w.heap.size + 1, 0, none⟩ a).setCell ⟨w.heap.size + 1, 1, none⟩ b) w.heap.size po n pa qo m qa ss xs ∧ Below w.heap.size w ((wL.setCell ⟨w.heap.size + 1, 0, none⟩ a).setCell ⟨w.heap.size + 1, 1, none⟩ b) :=
  copyD_end (ho.base hB) hb a b

end Go.Proofs.YtlhinknmbgijeabDoor

/- Contract of impl.PendingOf. -/
namespace Go.Proofs.YtlhinknmbgijeabDoor
open Go.RowKit
set_option linter.unusedVariables false
set_option maxRecDepth 100000

/-- How many writes a host has. -/
def cntW (xs : List Wr) (h : Int) : Nat := (xs.filter fun x => x.host == h).length
theorem cntW_le (xs : List Wr) (h : Int) : cntW xs h ≤ xs.length := List.length_filter_le _ _
theorem cnt_hit {xs : List Wr} {h : Int} {k : Nat} (hk : k < xs.length) (he : xs[k].host = h) : cntW (xs.take (k + 1)) h = cntW (xs.take k) h + 1 := by
  rw [cntW, cntW, List.take_succ_eq_append_getElem hk, List.filter_append, List.length_append]; simp [he]
theorem cnt_miss {xs : List Wr} {h : Int} {k : Nat} (hk : k < xs.length) (he : ¬ xs[k].host = h) : cntW (xs.take (k + 1)) h = cntW (xs.take k) h := by
  rw [cntW, cntW, List.take_succ_eq_append_getElem hk, List.filter_append, List.length_append]; simp [he]
theorem askC_zero (ss : List ByteArray) (xs : List Wr) (h : Int) : askC ss xs h 0 = hostC ss xs h := by
  unfold askC
  split
  · rename_i e; rw [e]; rfl
  · rfl
def cntC (ss : List ByteArray) (xs : List Wr) (h : Int) : Int := if hostC ss xs h = 0 then (cntW xs h : Int) else 0
theorem ret_two {a b c d : Int} (h : a = b) (k : c = d) : Ending.returned (.tuple #[.int .i64 a, .int .i64 c]) = .returned (.tuple #[.int .i64 b, .int .i64 d]) := by rw [h, k]

end Go.Proofs.YtlhinknmbgijeabDoor

/- Contract of impl.landFirst: of a host's writes the first ones are sure. -/
namespace Go.Proofs.YtlhinknmbgijeabDoor
open Go.RowKit
set_option linter.unusedVariables false

/-- One write of a disk's, as a host's writes land: the sectors, what is left, how many may still land. -/
def stepF (h : Int) (lost : Bool) (st : List ByteArray × List Wr × Int) (x : Wr) : List ByteArray × List Wr × Int :=
  if x.host = h then (if 0 < st.2.2 then (st.1.set x.at_.toNat x.data, st.2.1, st.2.2 - 1) else if lost = true then st else (st.1, st.2.1 ++ [x], st.2.2)) else (st.1, st.2.1 ++ [x], st.2.2)
def landF (h : Int) (lost : Bool) (ss : List ByteArray) (xs : List Wr) (n : Int) : List ByteArray × List Wr × Int := xs.foldl (stepF h lost) (ss, [], n)
theorem landF_succ {h : Int} {lost : Bool} {ss : List ByteArray} {xs : List Wr} {n : Int} {k : Nat} (hk : k < xs.length) : landF h lost ss (xs.take (k + 1)) n = stepF h lost (landF h lost ss (xs.take k) n) xs[k] := by
  unfold landF
  rw [List.take_succ_eq_append_getElem hk, List.foldl_append]
  rfl
theorem step_other {h : Int} {lost : Bool} {x : Wr} (ha : x.host ≠ h) (SS : List ByteArray) (LX : List Wr) (N : Int) : stepF h lost (SS, LX, N) x = (SS, LX ++ [x], N) := by simp [stepF, ha]
theorem step_land {h : Int} {lost : Bool} {x : Wr} (ha : x.host = h) (SS : List ByteArray) (LX : List Wr) {N : Int} (hn : 0 < N) : stepF h lost (SS, LX, N) x = (SS.set x.at_.toNat x.data, LX, N - 1) := by simp [stepF, ha, hn]
theorem step_keep {h : Int} {x : Wr} (ha : x.host = h) (SS : List ByteArray) (LX : List Wr) {N : Int} (hn : ¬ 0 < N) : stepF h false (SS, LX, N) x = (SS, LX ++ [x], N) := by simp [stepF, ha, hn]

theorem VarD.set1 {w : World} {y : Nat} {a b : Value} (h : VarD w y a b) (c : Value) : VarD (w.setCell ⟨y, 1, none⟩ c) y a c := by
  unfold VarD
  rw [Joins.block_setCell h c]
  rfl
theorem VarD.setOther {w : World} {y : Nat} {a b : Value} (h : VarD w y a b) {p : Addr} (hp : p.block ≠ y) (c : Value) : VarD (w.setCell p c) y a b := by
  unfold VarD
  rw [Below.heap_setCell w p c y (fun e => hp e.symm)]
  exact h

/-- The state of a loop that lets writes land: the variable `v` of the answer, its two rows, the cell of the result. -/
structure LandSt (w : World) (v : Nat) (po : Option Addr) (pa n : Nat) (wr : World) (SS : List ByteArray) (LX : List Wr) (qo : Option Addr) (qa : Nat) : Prop where
  var : VarD wr v (.slice po n pa) (.slice qo LX.length qa)
  s : OwnR wr (w.heap.size + 2) 9 1 (.slice po n pa) n (strV SS)
  i : OwnR wr (w.heap.size + 2) 94 3 (.slice qo LX.length qa) LX.length (ioV LX)
  r : VarD wr (w.heap.size + 1) (.slice none 0 0) (.slice none 0 0)
  b : Below w.heap.size w wr

theorem LandSt.below {w : World} {v : Nat} {po : Option Addr} {pa n : Nat} {wr wr' : World} {SS : List ByteArray} {LX : List Wr} {qo : Option Addr} {qa : Nat} (h : LandSt w v po pa n wr SS LX qo qa) (hb : Below wr.heap.size wr wr') : LandSt w v po pa n wr' SS LX qo qa :=
  ⟨h.var.below hb, h.s.below hb, h.i.below hb, h.r.below hb, fr h.b hb⟩

theorem strV_set (SS : List ByteArray) (j : Nat) (d : ByteArray) : (strV SS).set j (.string d) = strV (SS.set j d) := by simp [strV, List.map_set]

theorem LandSt.form {w : World} {v : Nat} {po : Option Addr} {pa n : Nat} {wr : World} {SS : List ByteArray} {LX : List Wr} {qo : Option Addr} {qa : Nat} (h : LandSt w v po pa n wr SS LX qo qa) {j : Nat} (hj : j < n) :
    ∃ g x, po = some ⟨g, 0, none⟩ ∧ g < wr.heap.size ∧ wr.cell? ⟨g, j, none⟩ = some x ∧ wr.frozen? ⟨g, j, none⟩ = false ∧ ∀ d, LandSt w v po pa n (wr.setCell ⟨g, j, none⟩ (.string d)) (SS.set j d) LX qo qa := by
  have hpos : 0 < n := by omega
  obtain ⟨h0, -, _⟩ | ⟨_, ho⟩ := h.s
  · omega
  obtain ⟨g, cap, cur, e0, hg, hcur⟩ := own_form hpos ho
  simp only [Value.slice.injEq, true_and] at e0
  obtain ⟨rfl, rfl⟩ := e0
  have hown : Own (.slice (some ⟨g, 0, none⟩) n pa) g := own_of hpos rfl
  have hlen : (strV SS).length = n := by have := h.s.len; omega
  refine ⟨g, _, rfl, (h.s.ge g hown).2, (ho.cellAt j (by omega)).trans (List.getElem?_eq_getElem (by rw [hlen]; exact hj)), ho.frozenAt j, fun d => ?_⟩
  have hk : Keep (fun k => k = g) wr (wr.setCell ⟨g, j, none⟩ (.string d)) := Keep.setCell (S := fun k => k = g) (Keep.refl _ _) (p := ⟨g, j, none⟩) rfl _
  refine ⟨h.var.keep hk (fun e => h.s.other h.var (by decide) (e ▸ hown)), .inr ⟨hpos, ?_⟩, h.i.keep hk (fun k hk' e => own_apart h.i h.s (by decide) k hk' (e ▸ hown)), h.r.keep hk (fun e => h.s.other h.r (by decide) (e ▸ hown)), h.b.setCell (p := ⟨g, j, none⟩) (by have := (h.s.ge g hown).1; simp; omega) _⟩
  rw [← strV_set]
  exact (ho.stored j (.string d)).1

theorem LandSt.app {w : World} {v : Nat} {po : Option Addr} {pa n : Nat} {wr wA : World} {SS : List ByteArray} {LX : List Wr} {qo : Option Addr} {qa : Nat} (h : LandSt w v po pa n wr SS LX qo qa) (hv : w.heap.size ≤ v) (hne : v ≠ w.heap.size + 1) {x : Wr} {g cap : Nat}
    (ho : wA.ownsRow (w.heap.size + 2) 94 3 (.slice (some ⟨g, 0, none⟩) (LX.length + 1) cap) (LX.length + 1) (ioV LX ++ wrV x)) (hk : Keep (Own (.slice qo LX.length qa)) wr wA) :
    VarD wA v (.slice po n pa) (.slice qo LX.length qa) ∧ LandSt w v po pa n (wA.setCell ⟨v, 1, none⟩ (.slice (some ⟨g, 0, none⟩) (LX.length + 1) cap)) SS (LX ++ [x]) (some ⟨g, 0, none⟩) cap := by
  have hva := h.var.keep hk (h.i.other h.var (by decide))
  have hra := h.r.keep hk (h.i.other h.r (by decide))
  have hsa := h.s.keep hk (own_apart h.s h.i (by decide))
  have hia : OwnR wA (w.heap.size + 2) 94 3 (.slice (some ⟨g, 0, none⟩) (LX.length + 1) cap) (LX.length + 1) (ioV (LX ++ [x])) := .inr ⟨Nat.succ_pos _, by rw [ioV_snoc]; exact ho⟩
  have hba : Below w.heap.size w wA := belowKp h.b hk (fun j hj => Nat.le_trans (by omega) (h.i.ge j hj).1)
  have hl : (LX ++ [x]).length = LX.length + 1 := by simp
  have hk2 : Keep (fun j => j = v) wA (wA.setCell ⟨v, 1, none⟩ (.slice (some ⟨g, 0, none⟩) (LX.length + 1) cap)) := Keep.setCell (S := fun j => j = v) (Keep.refl _ _) (p := ⟨v, 1, none⟩) rfl _
  refine ⟨hva, ?_, hsa.keep hk2 (fun j hj e => hsa.other hva (by decide) (e ▸ hj)), ?_, hra.keep hk2 (fun e => hne e.symm), hba.setCell (p := ⟨v, 1, none⟩) hv _⟩
  · rw [hl]; exact hva.set1 _
  · rw [hl]; exact hia.keep hk2 (fun j hj e => hia.other hva (by decide) (e ▸ hj))

set_option maxRecDepth 100000 in
set_option maxHeartbeats 3200000 in
theorem landFirst_any (ao bo : Option Addr) (ca cb : Nat) (ss : List ByteArray) (xs : List Wr) (h n : Int) (w : World) (hn0 : 0 ≤ n) (hn1 : n ≤ 1048576) (hl : ss.length ≤ 1048576) (hm : xs.length ≤ 200) (hat : ∀ i (hi : i < xs.length), 0 ≤ xs[i].at_ ∧ xs[i].at_ < ss.length) (h1 : Ss w ao ss) (h2 : Ios w bo xs) :
    Calls Tryd.prog 104 #[.agg #[.slice ao ss.length ca, .slice bo xs.length cb], .int .i64 h, .int .i64 n] w fun e w' => ∃ po pa qo qa, e = .returned (.agg #[.slice po ss.length pa, .slice qo (landF h false ss xs n).2.1.length qa]) ∧ OwnD w' w.heap.size po ss.length pa qo (landF h false ss xs n).2.1.length qa (landF h false ss xs n).1 (landF h false ss xs n).2.1 ∧ Below w.heap.size w w' := by
  have HA := hide (Joins.below_alloc2 w (.cells #[.slice ao ss.length ca, .slice bo xs.length cb] 26) (.cells #[.slice none 0 0, .slice none 0 0] 26))
  have H1 := hide (h1.below (unhide HA))
  have H2 := hide (h2.below (unhide HA))
  have HV := hide ((VarD.new w (.slice ao ss.length ca) (.slice bo xs.length cb)).below (Joins.below_alloc1 _ (.cells #[.slice none 0 0, .slice none 0 0] 26)))
  have HR : Hid (VarD ((w.alloc (.cells #[.slice ao ss.length ca, .slice bo xs.length cb] 26)).alloc (.cells #[.slice none 0 0, .slice none 0 0] 26)) (w.heap.size + 1) (.slice none 0 0) (.slice none 0 0)) := hide (by have := VarD.new (w.alloc (.cells #[.slice ao ss.length ca, .slice bo xs.length cb] 26)) (.slice none 0 0) (.slice none 0 0); simp only [World.size_alloc] at this; exact this)
  have HX0 := hide h2
  have HAT := hide hat
  have HLEN := hide hl
  clear h1 h2 hat hl
  obtain ⟨j0, hj, hy0, hy1, hy2⟩ := info_parts infoW
  go_enter Tryd.func104, Tryd.ntmps104
  go_wp2_with fail
  refine (copyS_any ao ca ss _ (unhide HLEN) (unhide H1)).mono ?_
  rintro e w1 ⟨po, pa, rfl, ho1, hb1⟩
  have HV1 := hide ((unhide HV).below hb1)
  have HR1 := hide ((unhide HR).below hb1)
  have HX1 := hide ((unhide H2).below hb1)
  have HB1 := hide (fr (unhide HA) hb1)
  have HO1 := hide (ho1.base (B' := w.heap.size + 2) (by simp))
  have hlt1 : w.heap.size + 1 < w1.heap.size := (unhide HR1).lt
  have hlt0 : w.heap.size < w1.heap.size := (unhide HV1).lt
  clear ho1 hb1
  obtain ⟨hv0, hv1⟩ := (unhide HV1).cells
  have HST : Hid (LandSt w w1.heap.size po pa ss.length (w1.alloc (.cells #[.slice po ss.length pa, .slice none 0 0] 26)) ss [] none 0) := hide ⟨VarD.new w1 _ _, (unhide HO1).below (Joins.below_alloc1 _ _), .inl ⟨rfl, rfl, none, rfl⟩, (unhide HR1).below (Joins.below_alloc1 _ _), fr (unhide HB1) (Joins.below_alloc1 _ _)⟩
  go_wp2
  go_loopw [2, 9, 17] (fun c _ i wr => ∃ (k : Nat) (SS : List ByteArray) (LX : List Wr) (N : Int) (qo : Option Addr) (qa : Nat), k ≤ xs.length ∧ i = .int .i64 k ∧ c = .int .i64 N ∧ 0 ≤ N ∧ N ≤ 1048576 ∧ LX.length ≤ k ∧ Hid (landF h false ss (xs.take k) n = (SS, LX, N)) ∧ Hid (LandSt w w1.heap.size po pa ss.length wr SS LX qo qa)) (fun _ _ i _ => xs.length - (intOf i).toNat)
  case atStart => exact ⟨0, ss, [], n, none, 0, Nat.zero_le _, rfl, rfl, hn0, hn1, Nat.le_refl _, hide rfl, HST⟩
  case round =>
    obtain ⟨k, SS, LX, N, qo, qa, hk, rfl, rfl, hN0, hN1, hLX, HL, HS⟩ := hrel
    clear HST
    obtain ⟨hw0, hw1⟩ := (unhide HS).var.cells
    obtain ⟨hr0, hr1⟩ := (unhide HS).r.cells
    have hlw := (unhide HS).var.lt
    by_cases hlt : k < xs.length
    · obtain ⟨b, off, rfl, hc0, hc1, hc2, hz⟩ := (unhide HX0).below (unhide HS).b k hlt
      clear hz
      obtain ⟨a, ha, hal⟩ : ∃ a : Nat, xs[k].at_ = (a : Int) ∧ a < ss.length := ⟨xs[k].at_.toNat, by have := unhide HAT k hlt; omega, by have := unhide HAT k hlt; omega⟩
      rw [ha] at hc1
      obtain ⟨g, x0, rfl, hgl, hgc, hgf, hset⟩ := ((unhide HS).below (Joins.below_alloc1 _ (.cells #[.int .i64 xs[k].host, .int .i64 a, .string xs[k].data] 94))).form hal
      have HSET := hide (hset xs[k].data)
      have HSA := hide ((unhide HS).below (Joins.below_alloc1 _ (.cells #[.int .i64 xs[k].host, .int .i64 a, .string xs[k].data] 94)))
      have HA := hide ha
      clear ha hset
      have HX := hide (show (⟨xs[k].host, a, xs[k].data⟩ : Wr) = xs[k] by rw [← unhide HA])
      have HSB := hide ((unhide HSA).below (Joins.below_alloc1 _ (.cells #[.int .i64 xs[k].host, .int .i64 a, .string xs[k].data] 94)))
      have HI : Hid (VarI ((wr.alloc (.cells #[.int .i64 xs[k].host, .int .i64 a, .string xs[k].data] 94)).alloc (.cells #[.int .i64 xs[k].host, .int .i64 a, .string xs[k].data] 94)) (wr.heap.size + 1) ⟨xs[k].host, a, xs[k].data⟩) := hide (VarI.top (x := ⟨xs[k].host, a, xs[k].data⟩) (by simp))
      by_cases e0 : xs[k].host = h
      · by_cases hN : 0 < N
        · have HN := hide (step_land (lost := false) e0 SS LX hN)
          have b0 : (xs[k].host == h) = true := by simp [e0]
          clear e0
          go_wp2
          go_roundw
          case rel => exact ⟨k + 1, SS.set a xs[k].data, LX, N - 1, qo, qa, by omega, by go_num, by go_num, by omega, by omega, by omega, hide (by rw [landF_succ hlt, unhide HL, unhide HN, unhide HA]; rfl), HSET⟩
          case measure => simp [intOf]; omega
        · have HN := hide (step_keep e0 SS LX hN)
          have b0 : (xs[k].host == h) = true := by simp [e0]
          clear e0
          go_wp2_with (at_builtin; refine wpList_append_one rfl _ _ 24 rfl (w.heap.size + 2) 94 j0 (.agg #[.int .i64 0, .int .i64 0, .string ⟨#[]⟩]) 3 32 Tryd.underlying24 hj hy0 hy1 hy2 rfl (by omega) qo LX.length qa (ioV LX) rfl (unhide HSB).i (by simp; omega) ⟨wr.heap.size + 1, 0, none⟩ _ (wrV ⟨xs[k].host, a, xs[k].data⟩) rfl rfl (unhide HI).news (wrV_one _) (by unfold maxLen; omega) (by omega) ?_; intro g2 cap wA hoA hkA; obtain ⟨hvA, hsA⟩ := (unhide HSB).app (by omega) (by omega) hoA hkA; have HSF := hide hsA; obtain ⟨hA0, hA1⟩ := hvA.cells; have hA2 := hvA.free 1; clear hoA hkA hvA hsA)
          go_roundw
          case rel => exact ⟨k + 1, SS, LX ++ [⟨xs[k].host, a, xs[k].data⟩], N, _, _, by omega, by go_num, by go_num, by omega, by omega, by simp; omega, hide (by rw [landF_succ hlt, unhide HL, unhide HN, unhide HX]), HSF⟩
          case measure => simp [intOf]; omega
      · have HN := hide (step_other (lost := false) e0 SS LX N)
        have b0 : (xs[k].host == h) = false := by simp [e0]
        clear e0
        go_wp2_with (at_builtin; refine wpList_append_one rfl _ _ 24 rfl (w.heap.size + 2) 94 j0 (.agg #[.int .i64 0, .int .i64 0, .string ⟨#[]⟩]) 3 32 Tryd.underlying24 hj hy0 hy1 hy2 rfl (by omega) qo LX.length qa (ioV LX) rfl (unhide HSB).i (by simp; omega) ⟨wr.heap.size + 1, 0, none⟩ _ (wrV ⟨xs[k].host, a, xs[k].data⟩) rfl rfl (unhide HI).news (wrV_one _) (by unfold maxLen; omega) (by omega) ?_; intro g2 cap wA hoA hkA; obtain ⟨hvA, hsA⟩ := (unhide HSB).app (by omega) (by omega) hoA hkA; have HSF := hide hsA; obtain ⟨hA0, hA1⟩ := hvA.cells; have hA2 := hvA.free 1; clear hoA hkA hvA hsA)
        go_roundw
        case rel => exact ⟨k + 1, SS, LX ++ [⟨xs[k].host, a, xs[k].data⟩], N, _, _, by omega, by go_num, by go_num, by omega, by omega, by simp; omega, hide (by rw [landF_succ hlt, unhide HL, unhide HN, unhide HX]), HSF⟩
        case measure => simp [intOf]; omega
    · have HF : Hid (landF h false ss xs n = (SS, LX, N)) := by
        have := unhide HL
        rw [List.take_of_length_le (by omega)] at this
        exact hide this
      have HE := hide (copyD_end (w := w) (wL := wr) ⟨(unhide HS).s, (unhide HS).i⟩ (unhide HS).b (.slice po ss.length pa) (.slice qo LX.length qa))
      have hr2 := (unhide HS).r.free 0
      have hr3 := (unhide HS).r.free 1
      have hlr := (unhide HS).r.lt
      go_wp2
      rw [unhide HF]
      exact bodyPost_ret (v := .agg #[.slice po ss.length pa, .slice qo LX.length qa]) (by simp [results, Tryd.results104, go_sem, hr0, hr1]) rfl ⟨po, pa, qo, qa, rfl, (unhide HE).1, (unhide HE).2⟩

end Go.Proofs.YtlhinknmbgijeabDoor

/- Contract of spec.l01Land: of a host's writes the first ones are sure, the others stay or are lost. -/
namespace Go.Proofs.YtlhinknmbgijeabDoor
open Go.RowKit
set_option linter.unusedVariables false

/-- The state of the loop of l01Land: the variable of the disk, its rows, the row of what is left, the cell of the result. -/
structure LandSp (w : World) (B : Nat) (po : Option Addr) (pa n : Nat) (mo : Option Addr) (ma : Nat) (xs : List Wr) (wr : World) (SS : List ByteArray) (LX : List Wr) (qo : Option Addr) (qa : Nat) : Prop where
  var : VarD wr w.heap.size (.slice po n pa) (.slice mo xs.length ma)
  s : OwnR wr (w.heap.size + 2) 9 1 (.slice po n pa) n (strV SS)
  x : OwnR wr (w.heap.size + 2) 94 3 (.slice mo xs.length ma) xs.length (ioV xs)
  i : OwnR wr B 94 3 (.slice qo LX.length qa) LX.length (ioV LX)
  r : VarD wr (w.heap.size + 1) (.slice none 0 0) (.slice none 0 0)
  b : Below w.heap.size w wr
  old : ∀ g, Own (.slice mo xs.length ma) g → g < B
  base : w.heap.size + 2 ≤ B
  size : B ≤ wr.heap.size

theorem LandSp.below {w : World} {B : Nat} {po : Option Addr} {pa n : Nat} {mo : Option Addr} {ma : Nat} {xs : List Wr} {wr wr' : World} {SS : List ByteArray} {LX : List Wr} {qo : Option Addr} {qa : Nat} (h : LandSp w B po pa n mo ma xs wr SS LX qo qa) (hb : Below wr.heap.size wr wr') : LandSp w B po pa n mo ma xs wr' SS LX qo qa :=
  ⟨h.var.below hb, h.s.below hb, h.x.below hb, h.i.below hb, h.r.below hb, fr h.b hb, h.old, h.base, Nat.le_trans h.size hb.size⟩

theorem LandSp.form {w : World} {B : Nat} {po : Option Addr} {pa n : Nat} {mo : Option Addr} {ma : Nat} {xs : List Wr} {wr : World} {SS : List ByteArray} {LX : List Wr} {qo : Option Addr} {qa : Nat} (h : LandSp w B po pa n mo ma xs wr SS LX qo qa) {j : Nat} (hj : j < n) :
    ∃ g x, po = some ⟨g, 0, none⟩ ∧ g < wr.heap.size ∧ wr.cell? ⟨g, j, none⟩ = some x ∧ wr.frozen? ⟨g, j, none⟩ = false ∧ ∀ d, LandSp w B po pa n mo ma xs (wr.setCell ⟨g, j, none⟩ (.string d)) (SS.set j d) LX qo qa := by
  have hpos : 0 < n := by omega
  obtain ⟨h0, -, _⟩ | ⟨_, ho⟩ := h.s
  · omega
  obtain ⟨g, cap, cur, e0, hg, hcur⟩ := own_form hpos ho
  simp only [Value.slice.injEq, true_and] at e0
  obtain ⟨rfl, rfl⟩ := e0
  have hown : Own (.slice (some ⟨g, 0, none⟩) n pa) g := own_of hpos rfl
  have hlen : (strV SS).length = n := by have := h.s.len; omega
  refine ⟨g, _, rfl, (h.s.ge g hown).2, (ho.cellAt j (by omega)).trans (List.getElem?_eq_getElem (by rw [hlen]; exact hj)), ho.frozenAt j, fun d => ?_⟩
  have hk : Keep (fun k => k = g) wr (wr.setCell ⟨g, j, none⟩ (.string d)) := Keep.setCell (S := fun k => k = g) (Keep.refl _ _) (p := ⟨g, j, none⟩) rfl _
  refine ⟨h.var.keep hk (fun e => h.s.other h.var (by decide) (e ▸ hown)), .inr ⟨hpos, ?_⟩, h.x.keep hk (fun k hk' e => own_apart h.x h.s (by decide) k hk' (e ▸ hown)), h.i.keep hk (fun k hk' e => own_apart h.i h.s (by decide) k hk' (e ▸ hown)), h.r.keep hk (fun e => h.s.other h.r (by decide) (e ▸ hown)), h.b.setCell (p := ⟨g, j, none⟩) (by have := (h.s.ge g hown).1; simp; omega) _, h.old, h.base, Nat.le_trans h.size hk.size⟩
  rw [← strV_set]
  exact (ho.stored j (.string d)).1

theorem LandSp.app {w : World} {B : Nat} {po : Option Addr} {pa n : Nat} {mo : Option Addr} {ma : Nat} {xs : List Wr} {wr wA : World} {SS : List ByteArray} {LX : List Wr} {qo : Option Addr} {qa : Nat} (h : LandSp w B po pa n mo ma xs wr SS LX qo qa) {x : Wr} {g cap : Nat}
    (ho : wA.ownsRow B 94 3 (.slice (some ⟨g, 0, none⟩) (LX.length + 1) cap) (LX.length + 1) (ioV LX ++ wrV x)) (hk : Keep (Own (.slice qo LX.length qa)) wr wA) :
    LandSp w B po pa n mo ma xs wA SS (LX ++ [x]) (some ⟨g, 0, none⟩) cap := by
  have hl : (LX ++ [x]).length = LX.length + 1 := by simp
  refine ⟨h.var.keep hk (h.i.other h.var (by decide)), h.s.keep hk (own_apart h.s h.i (by decide)), h.x.keep hk (fun j hj hq => by have := h.old j hj; have := (h.i.ge j hq).1; omega), ?_, h.r.keep hk (h.i.other h.r (by decide)), belowKp h.b hk (fun j hj => Nat.le_trans (by have := h.base; omega) (h.i.ge j hj).1), h.old, h.base, Nat.le_trans h.size hk.size⟩
  rw [hl]
  exact .inr ⟨Nat.succ_pos _, by rw [ioV_snoc]; exact ho⟩

theorem VarD.set0 {w : World} {y : Nat} {a b : Value} (h : VarD w y a b) (c : Value) : VarD (w.setCell ⟨y, 0, none⟩ c) y c b := by
  unfold VarD
  rw [Joins.block_setCell h c]
  rfl
theorem step_drop {h : Int} {x : Wr} (ha : x.host = h) (SS : List ByteArray) (LX : List Wr) {N : Int} (hn : ¬ 0 < N) : stepF h true (SS, LX, N) x = (SS, LX, N) := by simp [stepF, ha, hn]

theorem LandSp.new {w w1 : World} {po : Option Addr} {pa n : Nat} {mo : Option Addr} {ma : Nat} {ss : List ByteArray} {xs : List Wr} {a b : Value} (hv : VarD w1 w.heap.size a b) (hr : VarD w1 (w.heap.size + 1) (.slice none 0 0) (.slice none 0 0)) (ho : OwnD w1 (w.heap.size + 2) po n pa mo xs.length ma ss xs) (hb : Below w.heap.size w w1) (o : Obj) (ao : Option Addr) :
    LandSp w w1.heap.size po pa n mo ma xs (((w1.setCell ⟨w.heap.size, 0, none⟩ (.slice po n pa)).setCell ⟨w.heap.size, 1, none⟩ (.slice mo xs.length ma)).alloc o) ss [] ao 0 := by
  have h1 := (hv.set0 (.slice po n pa)).set1 (.slice mo xs.length ma)
  have h2 := (ho.setCell (a := ⟨w.heap.size, 0, none⟩) (by simp) (.slice po n pa)).setCell (a := ⟨w.heap.size, 1, none⟩) (by simp) (.slice mo xs.length ma)
  have h3 := (hr.setOther (p := ⟨w.heap.size, 0, none⟩) (by simp) (.slice po n pa)).setOther (p := ⟨w.heap.size, 1, none⟩) (by simp) (.slice mo xs.length ma)
  have h4 := (hb.setCell (p := ⟨w.heap.size, 0, none⟩) (by simp) (.slice po n pa)).setCell (p := ⟨w.heap.size, 1, none⟩) (by simp) (.slice mo xs.length ma)
  exact ⟨h1.below (Joins.below_alloc1 _ _), h2.s.below (Joins.below_alloc1 _ _), h2.i.below (Joins.below_alloc1 _ _), .inl ⟨rfl, rfl, ao, rfl⟩, h3.below (Joins.below_alloc1 _ _), fr h4 (Joins.below_alloc1 _ _), fun g hg => (ho.i.ge g hg).2, hr.lt, by simp⟩

theorem landSp_end {w wr : World} {B : Nat} {po : Option Addr} {pa n : Nat} {mo : Option Addr} {ma : Nat} {xs : List Wr} {SS : List ByteArray} {LX : List Wr} {qo : Option Addr} {qa : Nat} (h : LandSp w B po pa n mo ma xs wr SS LX qo qa) (a b c : Value) :
    OwnD (((wr.setCell ⟨w.heap.size, 1, none⟩ a).setCell ⟨w.heap.size + 1, 0, none⟩ b).setCell ⟨w.heap.size + 1, 1, none⟩ c) w.heap.size po n pa qo LX.length qa SS LX ∧ Below w.heap.size w (((wr.setCell ⟨w.heap.size, 1, none⟩ a).setCell ⟨w.heap.size + 1, 0, none⟩ b).setCell ⟨w.heap.size + 1, 1, none⟩ c) :=
  copyD_end (OwnD.setCell ⟨h.s, h.i.base h.base⟩ (a := ⟨w.heap.size, 1, none⟩) (by simp) a) (h.b.setCell (p := ⟨w.heap.size, 1, none⟩) (by simp) a) b c

set_option maxRecDepth 100000 in
set_option maxHeartbeats 3200000 in
theorem l01Land_any (ao bo : Option Addr) (ca cb : Nat) (ss : List ByteArray) (xs : List Wr) (h n : Int) (lost : Bool) (w : World) (hn0 : 0 ≤ n) (hn1 : n ≤ 1048576) (hl : ss.length ≤ 1048576) (hm : xs.length ≤ 200) (hat : ∀ i (hi : i < xs.length), 0 ≤ xs[i].at_ ∧ xs[i].at_ < ss.length) (h1 : Ss w ao ss) (h2 : Ios w bo xs) :
    Calls Tryd.prog 106 #[.agg #[.slice ao ss.length ca, .slice bo xs.length cb], .int .i64 h, .int .i64 n, .bool lost] w fun e w' => ∃ po pa qo qa, e = .returned (.agg #[.slice po ss.length pa, .slice qo (landF h lost ss xs n).2.1.length qa]) ∧ OwnD w' w.heap.size po ss.length pa qo (landF h lost ss xs n).2.1.length qa (landF h lost ss xs n).1 (landF h lost ss xs n).2.1 ∧ Below w.heap.size w w' := by
  have HA := hide (Joins.below_alloc2 w (.cells #[.slice ao ss.length ca, .slice bo xs.length cb] 26) (.cells #[.slice none 0 0, .slice none 0 0] 26))
  have H1 := hide (h1.below (unhide HA))
  have H2 := hide (h2.below (unhide HA))
  have HV := hide ((VarD.new w (.slice ao ss.length ca) (.slice bo xs.length cb)).below (Joins.below_alloc1 _ (.cells #[.slice none 0 0, .slice none 0 0] 26)))
  have HR : Hid (VarD ((w.alloc (.cells #[.slice ao ss.length ca, .slice bo xs.length cb] 26)).alloc (.cells #[.slice none 0 0, .slice none 0 0] 26)) (w.heap.size + 1) (.slice none 0 0) (.slice none 0 0)) := hide (by have := VarD.new (w.alloc (.cells #[.slice ao ss.length ca, .slice bo xs.length cb] 26)) (.slice none 0 0) (.slice none 0 0); simp only [World.size_alloc] at this; exact this)
  have HZ : Hid (∀ x ∈ xs, x.data.size ≤ maxLen) := hide (by
    intro x hx
    obtain ⟨k, hk, rfl⟩ := List.getElem_of_mem hx
    obtain ⟨b, off, _, _, _, _, hz⟩ := h2 k hk
    exact hz)
  have HAT := hide hat
  have HLEN := hide hl
  clear h1 h2 hat hl
  obtain ⟨j0, hj, hy0, hy1, hy2⟩ := info_parts infoW
  go_enter Tryd.func106, Tryd.ntmps106
  go_wp2_with fail
  refine (l01Own_any ao bo ca cb ss xs _ (unhide HLEN) (by omega) (unhide H1) (unhide H2)).mono ?_
  rintro e w1 ⟨po, pa, mo, ma, rfl, ho1, hb1⟩
  have HV1 := hide ((unhide HV).below hb1)
  have HR1 := hide ((unhide HR).below hb1)
  have HB1 := hide (fr (unhide HA) hb1)
  have HO1 := hide (ho1.base (B' := w.heap.size + 2) (by simp))
  have hlt1 : w.heap.size + 1 < w1.heap.size := (unhide HR1).lt
  have hlt0 : w.heap.size < w1.heap.size := (unhide HV1).lt
  clear ho1 hb1
  obtain ⟨hv0, hv1⟩ := (unhide HV1).cells
  have hv2 := (unhide HV1).free 0
  have hv3 := (unhide HV1).free 1
  have HST := hide (LandSp.new (unhide HV1) (unhide HR1) (unhide HO1) (unhide HB1) (.cells #[] 94) (some ⟨w1.heap.size, 0, none⟩))
  go_wp2
  go_loopw [2, 9, 10, 11] (fun c l i _ wr => ∃ (k : Nat) (SS : List ByteArray) (LX : List Wr) (N : Int) (qo : Option Addr) (qa : Nat), k ≤ xs.length ∧ i = .int .i64 k ∧ c = .int .i64 N ∧ l = .slice qo LX.length qa ∧ 0 ≤ N ∧ N ≤ 1048576 ∧ LX.length ≤ k ∧ Hid (landF h lost ss (xs.take k) n = (SS, LX, N)) ∧ Hid (LandSp w w1.heap.size po pa ss.length mo ma xs wr SS LX qo qa)) (fun _ _ i _ _ => xs.length - (intOf i).toNat)
  case atStart => exact ⟨0, ss, [], n, _, 0, Nat.zero_le _, rfl, rfl, rfl, hn0, hn1, Nat.le_refl _, hide rfl, HST⟩
  case round =>
    obtain ⟨k, SS, LX, N, qo, qa, hk, rfl, rfl, rfl, hN0, hN1, hLX, HL, HS⟩ := hrel
    clear HST
    obtain ⟨hw0, hw1⟩ := (unhide HS).var.cells
    obtain ⟨hr0, hr1⟩ := (unhide HS).r.cells
    have hlw := (unhide HS).var.lt
    by_cases hlt : k < xs.length
    · obtain ⟨b, off, rfl, hc0, hc1, hc2, hz⟩ := (OwnD.ios ⟨(unhide HS).s, (unhide HS).x⟩ (unhide HZ)) k hlt
      clear hz
      obtain ⟨a, ha, hal⟩ : ∃ a : Nat, xs[k].at_ = (a : Int) ∧ a < ss.length := ⟨xs[k].at_.toNat, by have := unhide HAT k hlt; omega, by have := unhide HAT k hlt; omega⟩
      rw [ha] at hc1
      obtain ⟨g, x0, rfl, hgl, hgc, hgf, hset⟩ := ((unhide HS).below (Joins.below_alloc1 _ (.cells #[.int .i64 xs[k].host, .int .i64 a, .string xs[k].data] 94))).form hal
      have HSET := hide (hset xs[k].data)
      have HSA := hide ((unhide HS).below (Joins.below_alloc1 _ (.cells #[.int .i64 xs[k].host, .int .i64 a, .string xs[k].data] 94)))
      have HA := hide ha
      clear ha hset
      have HX := hide (show (⟨xs[k].host, a, xs[k].data⟩ : Wr) = xs[k] by rw [← unhide HA])
      have HSB := hide ((unhide HSA).below (Joins.below_alloc1 _ (.cells #[.int .i64 xs[k].host, .int .i64 a, .string xs[k].data] 94)))
      have HI : Hid (VarI ((wr.alloc (.cells #[.int .i64 xs[k].host, .int .i64 a, .string xs[k].data] 94)).alloc (.cells #[.int .i64 xs[k].host, .int .i64 a, .string xs[k].data] 94)) (wr.heap.size + 1) ⟨xs[k].host, a, xs[k].data⟩) := hide (VarI.top (x := ⟨xs[k].host, a, xs[k].data⟩) (by simp))
      by_cases e0 : xs[k].host = h
      · by_cases hN : 0 < N
        · have HN := hide (step_land (lost := lost) e0 SS LX hN)
          have b0 : (xs[k].host != h) = false := by simp [e0]
          clear e0
          go_wp2
          go_roundw
          case rel => exact ⟨k + 1, SS.set a xs[k].data, LX, N - 1, qo, qa, by omega, by go_num, by go_num, rfl, by omega, by omega, by omega, hide (by rw [landF_succ hlt, unhide HL, unhide HN, unhide HA]; rfl), HSET⟩
          case measure => simp [intOf]; omega
        · cases lost with
          | false =>
            have HN := hide (step_keep e0 SS LX hN)
            have b0 : (xs[k].host != h) = false := by simp [e0]
            clear e0
            go_wp2_with (at_builtin; refine wpList_append_one rfl _ _ 24 rfl w1.heap.size 94 j0 (.agg #[.int .i64 0, .int .i64 0, .string ⟨#[]⟩]) 3 32 Tryd.underlying24 hj hy0 hy1 hy2 rfl (by omega) qo LX.length qa (ioV LX) rfl (unhide HSB).i (unhide HSB).size ⟨wr.heap.size + 1, 0, none⟩ _ (wrV ⟨xs[k].host, a, xs[k].data⟩) rfl rfl (unhide HI).news (wrV_one _) (by unfold maxLen; omega) (by omega) ?_; intro g2 cap wA hoA hkA; have HSF := hide ((unhide HSB).app hoA hkA); clear hoA hkA)
            go_roundw
            case rel => exact ⟨k + 1, SS, LX ++ [⟨xs[k].host, a, xs[k].data⟩], N, _, _, by omega, by go_num, by go_num, by simp, by omega, by omega, by simp; omega, hide (by rw [landF_succ hlt, unhide HL, unhide HN, unhide HX]), HSF⟩
            case measure => simp [intOf]; omega
          | true =>
            have HN := hide (step_drop e0 SS LX hN)
            have b0 : (xs[k].host != h) = false := by simp [e0]
            clear e0
            go_wp2
            go_roundw
            case rel => exact ⟨k + 1, SS, LX, N, qo, qa, by omega, by go_num, by go_num, rfl, by omega, by omega, by omega, hide (by rw [landF_succ hlt, unhide HL, unhide HN]), HSA⟩
            case measure => simp [intOf]; omega
      · have HN := hide (step_other (lost := lost) e0 SS LX N)
        have b0 : (xs[k].host != h) = true := by simp [e0]
        clear e0
        go_wp2_with (at_builtin; refine wpList_append_one rfl _ _ 24 rfl w1.heap.size 94 j0 (.agg #[.int .i64 0, .int .i64 0, .string ⟨#[]⟩]) 3 32 Tryd.underlying24 hj hy0 hy1 hy2 rfl (by omega) qo LX.length qa (ioV LX) rfl (unhide HSB).i (unhide HSB).size ⟨wr.heap.size + 1, 0, none⟩ _ (wrV ⟨xs[k].host, a, xs[k].data⟩) rfl rfl (unhide HI).news (wrV_one _) (by unfold maxLen; omega) (by omega) ?_; intro g2 cap wA hoA hkA; have HSF := hide ((unhide HSB).app hoA hkA); clear hoA hkA)
        go_roundw
        case rel => exact ⟨k + 1, SS, LX ++ [⟨xs[k].host, a, xs[k].data⟩], N, _, _, by omega, by go_num, by go_num, by simp, by omega, by omega, by simp; omega, hide (by rw [landF_succ hlt, unhide HL, unhide HN, unhide HX]), HSF⟩
        case measure => simp [intOf]; omega
    · have HF : Hid (landF h lost ss xs n = (SS, LX, N)) := by
        have := unhide HL
        rw [List.take_of_length_le (by omega)] at this
        exact hide this
      have HE := hide (landSp_end (unhide HS) (.slice qo LX.length qa) (.slice po ss.length pa) (.slice qo LX.length qa))
      have hr2 := (unhide HS).r.free 0
      have hr3 := (unhide HS).r.free 1
      have hv4 := (unhide HS).var.free 1
      have hlr := (unhide HS).r.lt
      go_wp2
      rw [unhide HF]
      exact bodyPost_ret (v := .agg #[.slice po ss.length pa, .slice qo LX.length qa]) (by simp [results, Tryd.results106, go_sem, hr0, hr1]) rfl ⟨po, pa, qo, qa, rfl, (unhide HE).1, (unhide HE).2⟩

end Go.Proofs.YtlhinknmbgijeabDoor

/- What lands comes out of what was there; the bounds of a right disk. -/
namespace Go.Proofs.YtlhinknmbgijeabDoor
open Go.RowKit
set_option linter.unusedVariables false

/-- What lands comes out of what was there. -/
theorem land_inv (h : Int) (lost : Bool) (P : ByteArray → Prop) : ∀ (xs : List Wr) (SS : List ByteArray) (LX : List Wr) (N : Int), (∀ s ∈ SS, P s) → (∀ x ∈ xs, P x.data) → (∀ x ∈ LX, P x.data) →
    (∀ s ∈ (xs.foldl (stepF h lost) (SS, LX, N)).1, P s) ∧ (∀ x ∈ (xs.foldl (stepF h lost) (SS, LX, N)).2.1, P x.data) ∧ (xs.foldl (stepF h lost) (SS, LX, N)).1.length = SS.length ∧ (xs.foldl (stepF h lost) (SS, LX, N)).2.1.length ≤ LX.length + xs.length
  | [], SS, LX, N, h1, _, h3 => ⟨h1, h3, rfl, Nat.le_refl _⟩
  | x :: xs, SS, LX, N, h1, h2, h3 => by
    have hx := h2 x (List.mem_cons_self ..)
    have hr : ∀ y ∈ xs, P y.data := fun y hy => h2 y (List.mem_cons_of_mem _ hy)
    have happ : ∀ y ∈ LX ++ [x], P y.data := by
      intro y hy
      rcases List.mem_append.1 hy with h | h
      · exact h3 y h
      · simp at h; subst h; exact hx
    have hset : ∀ s ∈ SS.set x.at_.toNat x.data, P s := by
      intro s hs
      rcases List.mem_or_eq_of_mem_set hs with h | h
      · exact h1 s h
      · rw [h]; exact hx
    rw [List.foldl_cons]
    by_cases ha : x.host = h
    · by_cases hn : 0 < N
      · rw [step_land ha SS LX hn]
        obtain ⟨q1, q2, q3, q4⟩ := land_inv h lost P xs (SS.set x.at_.toNat x.data) LX (N - 1) hset hr h3
        exact ⟨q1, q2, by rw [q3, List.length_set], by simp only [List.length_cons]; omega⟩
      · cases lost
        · rw [step_keep ha SS LX hn]
          obtain ⟨q1, q2, q3, q4⟩ := land_inv h false P xs SS (LX ++ [x]) N h1 hr happ
          exact ⟨q1, q2, q3, by simp only [List.length_cons, List.length_append, List.length_nil] at q4 ⊢; omega⟩
        · rw [step_drop ha SS LX hn]
          obtain ⟨q1, q2, q3, q4⟩ := land_inv h true P xs SS LX N h1 hr h3
          exact ⟨q1, q2, q3, by simp only [List.length_cons]; omega⟩
    · rw [step_other ha SS LX N]
      obtain ⟨q1, q2, q3, q4⟩ := land_inv h lost P xs SS (LX ++ [x]) N h1 hr happ
      exact ⟨q1, q2, q3, by simp only [List.length_cons, List.length_append, List.length_nil] at q4 ⊢; omega⟩
theorem landF_inv {h n : Int} {lost : Bool} {ss : List ByteArray} {xs : List Wr} (P : ByteArray → Prop) (h1 : ∀ s ∈ ss, P s) (h2 : ∀ x ∈ xs, P x.data) :
    (∀ s ∈ (landF h lost ss xs n).1, P s) ∧ (∀ x ∈ (landF h lost ss xs n).2.1, P x.data) ∧ (landF h lost ss xs n).1.length = ss.length ∧ (landF h lost ss xs n).2.1.length ≤ xs.length := by
  have := land_inv h lost P xs ss [] n h1 h2 (fun _ h => by cases h)
  simpa [landF] using this

theorem diskB_at {ss : List ByteArray} {xs : List Wr} (h : diskB ss xs = true) : ∀ i (hi : i < xs.length), 0 ≤ xs[i].at_ ∧ xs[i].at_ < ss.length := by
  intro i hi
  have hl := (diskB_len h).1
  simp only [diskB, penB, Bool.and_eq_true, List.all_eq_true] at h
  have := h.2.2 xs[i] (List.getElem_mem hi)
  simp only [ioB, Bool.and_eq_true, decide_eq_true_eq] at this
  omega

/-- What Flush answers. -/
def flS (ss : List ByteArray) (xs : List Wr) (h : Int) : List ByteArray := if hostC ss xs h = 0 then (landF h false ss xs 200).1 else []
def flX (ss : List ByteArray) (xs : List Wr) (h : Int) : List Wr := if hostC ss xs h = 0 then (landF h false ss xs 200).2.1 else []
theorem fl_ok {ss : List ByteArray} {xs : List Wr} {h : Int} (h1 : hostC ss xs h = 0) : flS ss xs h = (landF h false ss xs 200).1 ∧ flX ss xs h = (landF h false ss xs 200).2.1 := by simp [flS, flX, h1]
theorem fl_bad {ss : List ByteArray} {xs : List Wr} {h : Int} (h1 : ¬ hostC ss xs h = 0) : flS ss xs h = [] ∧ flX ss xs h = [] := by simp [flS, flX, h1]
theorem landF_slen {h n : Int} {lost : Bool} {ss : List ByteArray} {xs : List Wr} : (landF h lost ss xs n).1.length = ss.length := (landF_inv (fun _ => True) (fun _ _ => trivial) (fun _ _ => trivial)).2.2.1

end Go.Proofs.YtlhinknmbgijeabDoor

/- Contract of impl.dropWrites: a host's writes are gone; and that what lands with the others lost is what lands, the host's writes dropped. -/
namespace Go.Proofs.YtlhinknmbgijeabDoor
open Go.RowKit
set_option linter.unusedVariables false

/-- The writes of other hosts. -/
def dropF (h : Int) (xs : List Wr) : List Wr := xs.filter fun x => x.host != h
theorem dropF_succ_hit {h : Int} {xs : List Wr} {k : Nat} (hk : k < xs.length) (he : xs[k].host = h) : dropF h (xs.take (k + 1)) = dropF h (xs.take k) := by
  rw [dropF, dropF, List.take_succ_eq_append_getElem hk, List.filter_append]; simp [he]
theorem dropF_succ_miss {h : Int} {xs : List Wr} {k : Nat} (hk : k < xs.length) (he : ¬ xs[k].host = h) : dropF h (xs.take (k + 1)) = dropF h (xs.take k) ++ [xs[k]] := by
  rw [dropF, dropF, List.take_succ_eq_append_getElem hk, List.filter_append]; simp [he]
theorem land_drop (h : Int) : ∀ (xs : List Wr) (SS : List ByteArray) (LX : List Wr) (N : Int), xs.foldl (stepF h true) (SS, dropF h LX, N) = ((xs.foldl (stepF h false) (SS, LX, N)).1, dropF h (xs.foldl (stepF h false) (SS, LX, N)).2.1, (xs.foldl (stepF h false) (SS, LX, N)).2.2)
  | [], SS, LX, N => rfl
  | x :: xs, SS, LX, N => by
    rw [List.foldl_cons, List.foldl_cons]
    by_cases ha : x.host = h
    · by_cases hn : 0 < N
      · rw [step_land ha SS LX hn, step_land ha SS (dropF h LX) hn]
        exact land_drop h xs _ _ _
      · rw [step_keep ha SS LX hn, step_drop ha SS (dropF h LX) hn]
        have : dropF h LX = dropF h (LX ++ [x]) := by simp [dropF, ha]
        rw [this]
        exact land_drop h xs _ _ _
    · rw [step_other ha SS LX N, step_other ha SS (dropF h LX) N]
      have : dropF h LX ++ [x] = dropF h (LX ++ [x]) := by simp [dropF, ha]
      rw [this]
      exact land_drop h xs _ _ _
theorem landF_lost (h n : Int) (ss : List ByteArray) (xs : List Wr) : (landF h true ss xs n).1 = (landF h false ss xs n).1 ∧ (landF h true ss xs n).2.1 = dropF h (landF h false ss xs n).2.1 := by
  have := land_drop h xs ss [] n
  have e : landF h true ss xs n = xs.foldl (stepF h true) (ss, dropF h [], n) := rfl
  rw [e, this]
  exact ⟨rfl, rfl⟩

end Go.Proofs.YtlhinknmbgijeabDoor
