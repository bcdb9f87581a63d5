import Derived.Test.YtefnapcegeojoabDoorRows
import Derived.Test.YtefnapcegeojoabDoorXReplayPlanPart1
import Derived.Test.YtefnapcegeojoabDoorXReplayPlanPart7
import Derived.WalkKit
import Derived.WalkSpells
import Derived.Test.YtefnapcegeojoabDoorXReplayPlanPart3
import Derived.Laws.BytesArg
import Derived.Deep.RegionWith
import Derived.Test.YtefnapcegeojoabDoorXReplayPlanPart4
import Derived.KernelRfl
import Derived.Lib.SmallJoins
import Derived.Test.YtefnapcegeojoabDoorXReplayPlanPart5
import Derived.LoopN
import Derived.Defers
import Derived.Deep.RegionHeld3
import Derived.Deep.RegionLawGrows
import Derived.Test.YtefnapcegeojoabDoorXReplayPlanPart2

/- Contract of impl.listFault (of the code since 38f1bd19e5ed: it calls areNumbers). -/
namespace Go.Proofs.YtefnapcegeojoabDoor
open Go.RowKit
set_option linter.unusedVariables false
set_option maxRecDepth 100000

theorem intsB_all_no {xs : List Int} (h : xs.all numB = false) : intsB xs = false := by rw [intsB, allB, h]; rfl
theorem intsB_all {xs : List Int} (hl : xs.length ≤ 16) (h : xs.all numB = true) : intsB xs = true := by rw [intsB, allB, h, decide_eq_true hl]; rfl

set_option maxHeartbeats 800000 in
theorem listFault_any (ao : Option Addr) (cap : Nat) (xs : List Int) (w : World) (hl : xs.length ≤ 1048576) (hc : Is w ao xs) :
    Calls Tryd.prog 129 #[.slice ao xs.length cap] w fun e w' => e = .returned (.int .i64 (listC xs)) ∧ w' = w := by
  have HC := hide hc
  clear hc
  by_cases h1 : 4096 < xs.length
  · have HF := hide (listC_long h1)
    go_enter Tryd.func129, Tryd.ntmps129
    go_wp2
    go_ret
    exact ⟨ret_int (unhide HF).symm, rfl⟩
  by_cases h2 : 16 < xs.length
  · have HF := hide (listC_bad h1 (intsB_long h2))
    go_enter Tryd.func129, Tryd.ntmps129
    go_wp2
    go_ret
    exact ⟨ret_int (unhide HF).symm, rfl⟩
  cases hn : xs.all numB
  · have HF := hide (listC_bad h1 (intsB_all_no hn))
    go_enter Tryd.func129, Tryd.ntmps129
    go_wp2_with (go_at_call 141; refine (areNumbers_any _ _ _ _ (by unfold maxLen; omega) (unhide HC)).mono ?_; rintro e w' ⟨rfl, hw⟩; replace hw := hw.symm; subst hw; rw [hn])
    go_ret
    exact ⟨ret_int (unhide HF).symm, rfl⟩
  · have HF := hide (listC_ok (xs := xs) h1 (intsB_all (by omega) hn))
    go_enter Tryd.func129, Tryd.ntmps129
    go_wp2_with (go_at_call 141; refine (areNumbers_any _ _ _ _ (by unfold maxLen; omega) (unhide HC)).mono ?_; rintro e w' ⟨rfl, hw⟩; replace hw := hw.symm; subst hw; rw [hn])
    go_ret
    exact ⟨ret_int (unhide HF).symm, rfl⟩

end Go.Proofs.YtefnapcegeojoabDoor

/- What PackInts answers, plain. -/
namespace Go.Proofs.YtefnapcegeojoabDoor
set_option linter.unusedVariables false

/-- The answer's text. -/
def packT (xs : List Int) : ByteArray := if listC xs = 0 then packS xs else ⟨#[]⟩
theorem packT_ok {xs : List Int} (h : listC xs = 0) : packT xs = packS xs := if_pos h
theorem packT_no {xs : List Int} (h : listC xs ≠ 0) : packT xs = ⟨#[]⟩ := if_neg h
theorem ret_si {a b : ByteArray} {c d : Int} (h : a = b) (k : c = d) : Ending.returned (.tuple #[.string a, .int .i64 c]) = .returned (.tuple #[.string b, .int .i64 d]) := by rw [h, k]

end Go.Proofs.YtefnapcegeojoabDoor

/- Contract of impl.kindOK. -/
namespace Go.Proofs.YtefnapcegeojoabDoor
open Go.RowKit
set_option linter.unusedVariables false
set_option maxRecDepth 100000

theorem kindOK_any (n : Int) (w : World) : Calls Tryd.prog 130 #[.int .i64 n] w fun e w' => e = .returned (.bool (kindB n)) ∧ w' = w := by
  go_enter Tryd.func130, Tryd.ntmps130
  go_wp2
  all_goals
    go_ret
    exact ⟨ret_bool (by rw [Bool.eq_iff_iff]; simp [kindB, inB]; omega), rfl⟩

end Go.Proofs.YtefnapcegeojoabDoor

/- Contracts of SealRecord, of the program and of its model. -/
namespace Go.Proofs.YtefnapcegeojoabDoor
open Go.RowKit
set_option linter.unusedVariables false
set_option maxRecDepth 100000

/-- 'string(head[:2])', 'string(head[:])', head an array of four bytes. -/
theorem arr2 (W : World) (g : Nat) (a b c d : Int) (h : W.heap.size = g) : (convert 39 9 (.slice (some ⟨g, 0, none⟩) 2 4)).run Tryd.prog (W.alloc (.cells #[.int .u8 a, .int .u8 b, .int .u8 c, .int .u8 d] 159)) = .ok (.string (strOfNums [a, b])) (W.alloc (.cells #[.int .u8 a, .int .u8 b, .int .u8 c, .int .u8 d] 159)) := by
  subst h
  refine run_convert_bytes_arg _ 39 5 Tryd.underlying39 Tryd.underlying5 W.heap.size 0 2 4 [a, b] rfl ?_ 9 Tryd.underlying9
  intro i hi
  rcases (show i = 0 ∨ i = 1 by omega) with rfl | rfl <;> simp [go_sem, List.getD]
theorem arr4 (W : World) (g : Nat) (a b c d : Int) (h : W.heap.size = g) : (convert 39 9 (.slice (some ⟨g, 0, none⟩) 4 4)).run Tryd.prog (W.alloc (.cells #[.int .u8 a, .int .u8 b, .int .u8 c, .int .u8 d] 159)) = .ok (.string (strOfNums [a, b, c, d])) (W.alloc (.cells #[.int .u8 a, .int .u8 b, .int .u8 c, .int .u8 d] 159)) := by
  subst h
  refine run_convert_bytes_arg _ 39 5 Tryd.underlying39 Tryd.underlying5 W.heap.size 0 4 4 [a, b, c, d] rfl ?_ 9 Tryd.underlying9
  intro i hi
  rcases (show i = 0 ∨ i = 1 ∨ i = 2 ∨ i = 3 by omega) with rfl | rfl | rfl | rfl <;> simp [go_sem, List.getD]
theorem sum_impl (k : Int) (xs : List Int) (w : World) (hl : xs.length ≤ 16) : Calls Tryd.prog 132 #[.string (strOfNums [k, (xs.length : Int)] ++ packS xs)] w fun e w' => e = .returned (.int .i64 (sumR k xs)) ∧ w' = w := by
  have h := sumOf_impl (sumT k xs) w (by rw [sumT_size]; omega)
  rw [sumC_short (by rw [sumT_size]; omega)] at h
  exact h

set_option maxHeartbeats 1600000 in
theorem sealRecord_impl (k : Int) (ao : Option Addr) (cap : Nat) (xs : List Int) (w : World) (hl : xs.length ≤ 1048576) (hc : Is w ao xs) :
    Calls Tryd.prog 103 #[.int .i64 k, .slice ao xs.length cap] w fun e w' => e = .returned (.tuple #[.string (sealT k xs), .int .i64 (sealC k xs)]) ∧ Below w.heap.size w w' := by
  have HC := hide hc
  clear hc
  by_cases h2 : listC xs = 0
  · have HL := hide h2
    have hb : (listC xs != 0) = false := by simp [h2]
    have HP := hide (intsB_parts (listC_zero h2))
    clear h2
    by_cases h3 : kindB k = true
    · have HF := hide (sealC_ok (unhide HL) h3)
      obtain ⟨hk0, hk1⟩ := kindB_in h3
      have hl16 := (unhide HP).2
      have hp := packS_size xs
      have hs2 : (strOfNums [k, (xs.length : Int)]).size = 2 := strOfNums_size _
      have hs4 : (strOfNums [k, (xs.length : Int), sumR k xs, 0]).size = 4 := strOfNums_size _
      obtain ⟨hr0, hr1⟩ := sumR_in k xs
      go_enter Tryd.func103, Tryd.ntmps103
      go_wp2_with (first | (go_at_call 129; refine (listFault_any _ _ xs _ hl (unhide HC)).mono ?_; rintro e w' ⟨rfl, rfl⟩) | (go_at_call 130; refine (kindOK_any _ _).mono ?_; rintro e w' ⟨rfl, rfl⟩) | (go_at_call 131; refine (packNumbers_any _ _ xs _ (unhide HP).2 (unhide HP).1 (unhide HC)).mono ?_; rintro e w1 ⟨rfl, hb1⟩; have HB1 := hide hb1; clear hb1; have hc2 := arr2 w1 w1.heap.size k xs.length 0 0 rfl) | (go_at_call 132; refine (sum_impl k xs _ hl16).mono ?_; rintro e w' ⟨rfl, rfl⟩; have hc4 := arr4 w1 w1.heap.size k xs.length (sumR k xs) 0 rfl))
      go_ret2
      exact ⟨ret_si (sealT_ok (unhide HF)).symm (unhide HF).symm, fr (unhide HB1) (Joins.below_alloc1 _ _)⟩
    · have h4 : kindB k = false := by simpa using h3
      have HF := hide (sealC_kind (unhide HL) h4)
      clear h3
      go_enter Tryd.func103, Tryd.ntmps103
      go_wp2_with (first | (go_at_call 129; refine (listFault_any _ _ xs _ hl (unhide HC)).mono ?_; rintro e w' ⟨rfl, rfl⟩) | (go_at_call 130; refine (kindOK_any _ _).mono ?_; rintro e w' ⟨rfl, rfl⟩))
      go_ret2
      exact ⟨ret_si (sealT_no (by rw [unhide HF]; decide)).symm (unhide HF).symm, Below.refl _ _⟩
  · have HF := hide (sealC_list (k := k) h2)
    have HNE := hide h2
    have hb : (listC xs != 0) = true := by simp [h2]
    clear h2
    go_enter Tryd.func103, Tryd.ntmps103
    go_wp2_with (go_at_call 129; refine (listFault_any _ _ xs _ hl (unhide HC)).mono ?_; rintro e w' ⟨rfl, rfl⟩)
    go_ret2
    exact ⟨ret_si (sealT_no (by rw [unhide HF]; exact unhide HNE)).symm (unhide HF).symm, Below.refl _ _⟩

end Go.Proofs.YtefnapcegeojoabDoor

/- Contracts of the program's updates: SlotOf, updateOK, text, EncodeUpdate. -/
namespace Go.Proofs.YtefnapcegeojoabDoor
open Go.RowKit
set_option linter.unusedVariables false
set_option maxRecDepth 100000

theorem within_inJ (n low high : Int) (w : World) : Calls Tryd.prog 121 #[.int .i64 n, .int .i64 low, .int .i64 high] w fun e w' => e = .returned (.bool (inB n low high)) ∧ w' = w := within_any n low high w

theorem slotOf_impl (h : Int) (w : World) : Calls Tryd.prog 47 #[.int .i64 h] w fun e w' => e = .returned (.tuple #[.int .i64 (slR h), .int .i64 (slC h)]) ∧ w' = w := by
  go_enter Tryd.func47, Tryd.ntmps47
  go_wp2_with fail
  refine (hostOK_any h _).mono ?_
  rintro e w1 ⟨rfl, rfl⟩
  by_cases hh : inB h 0 3 = true
  · have HE : Hid (slR h = slN h ∧ slC h = 0) := hide ⟨if_pos hh, if_pos hh⟩
    have h1 : 0 ≤ h ∧ h ≤ 3 := by simpa [inB] using hh
    have wr1 : IntKind.i64.wrap (6 * h) = 6 * h := by rw [IntKind.wrap_i64]; omega
    have wr2 : IntKind.i64.wrap (39 + 6 * h) = 39 + 6 * h := by rw [IntKind.wrap_i64]; omega
    clear h1
    go_wp2
    go_ret2
    exact ⟨ret_two2 (unhide HE).1.symm (unhide HE).2.symm, rfl⟩
  · have HE : Hid (slR h = 0 ∧ slC h = 4) := hide ⟨if_neg hh, if_neg hh⟩
    rw [Bool.not_eq_true] at hh
    go_wp2
    go_ret2
    exact ⟨ret_two2 (unhide HE).1.symm (unhide HE).2.symm, rfl⟩

set_option maxHeartbeats 1600000 in
theorem updateOK_any (u : Up) (w : World) (hz : u.data.size ≤ maxLen) : Calls Tryd.prog 87 #[uV u] w fun e w' => e = .returned (.bool (upB u)) ∧ Below w.heap.size w w' := by
  unfold maxLen at hz
  go_enter Tryd.func87, Tryd.ntmps87
  go_wp2_with fail
  refine (within_inJ u.at_ 9 38 _).mono ?_
  rintro e w1 ⟨rfl, rfl⟩
  by_cases h1 : inB u.at_ 9 38 = false
  · have hr : Hid (upB u = false) := hide (by simp [upB, h1])
    go_wp2
    go_ret
    rw [unhide hr]
    exact ⟨rfl, Joins.below_alloc1 _ _⟩
  rw [Bool.not_eq_false] at h1
  have hr : Hid (upB u = decide ((u.data.size : Int) ≤ 72)) := hide (by simp [upB, h1]; omega)
  go_wp2
  go_ret
  rw [unhide hr]
  exact ⟨rfl, Joins.below_alloc1 _ _⟩

end Go.Proofs.YtefnapcegeojoabDoor

/- Contracts of the program's plans: flush, addSure, planOf, head, changes, toApply. -/
namespace Go.Proofs.YtefnapcegeojoabDoor
open Go.RowKit
set_option linter.unusedVariables false
set_option maxRecDepth 100000

theorem infoMx : (Tryd.prog.info? 76).map (fun i => (i.zero, i.size, i.bytes)) = some (some (.agg #[.int .i64 0, .int .i64 0, .string ⟨#[]⟩]), 3, 32) := by kernel_rfl
/-- A plan in a variable. -/
def VarPl (w : World) (x : Nat) (v : Value) : Prop := w.heap[x]? = some (.cells #[v] 151 (0, 0))
theorem VarPl.lt {w : World} {x : Nat} {v : Value} (h : VarPl w x v) : x < w.heap.size := (Array.getElem?_eq_some_iff.1 h).1
theorem VarPl.cell {w : World} {x : Nat} {v : Value} (h : VarPl w x v) : w.cell? ⟨x, 0, none⟩ = some v ∧ w.frozen? ⟨x, 0, none⟩ = false := ⟨by rw [Joins.cell_of_block h]; rfl, Joins.unfrozen_of_block h 0⟩
theorem VarPl.below {w w' : World} {x : Nat} {v : Value} (h : VarPl w x v) (hb : Below w.heap.size w w') : VarPl w' x v := by
  unfold VarPl; rw [hb.block x h.lt]; exact h
theorem VarPl.keep {S : Nat → Prop} {w w' : World} {x : Nat} {v : Value} (h : VarPl w x v) (hk : Keep S w w') (hs : ¬ S x) : VarPl w' x v := by
  unfold VarPl; rw [hk.block x h.lt hs]; exact h
theorem VarPl.new (w : World) (v : Value) : VarPl (w.alloc (.cells #[v] 151)) w.heap.size v := heap_alloc_new w _
theorem VarPl.set {w : World} {x : Nat} {v : Value} (h : VarPl w x v) (u : Value) : VarPl (w.setCell ⟨x, 0, none⟩ u) x u := Joins.block_setCell h u
theorem pl_ne : (151 : Nat) ≠ 76 := by decide
theorem ApS.setX {w W : World} {qo : Option Addr} {n qa x : Nat} {ms : List Wr} {v : Value} (h : ApS w W qo n qa ms) (hx : VarPl W x v) (hle : w.heap.size ≤ x) (u : Value) : ApS w (W.setCell ⟨x, 0, none⟩ u) qo n qa ms :=
  ⟨h.o.keep ((Keep.refl (fun k => k = x) W).setCell (p := ⟨x, 0, none⟩) rfl u) (fun g hg e => h.o.other hx pl_ne (e ▸ hg)), h.k.setCell (p := ⟨x, 0, none⟩) hle u⟩

set_option maxHeartbeats 1600000 in
theorem flush_d (w0 W : World) (x : Nat) (qo : Option Addr) (n qa : Nat) (ms : List Wr) (u : FrameMode) (ha : ApS w0 W qo n qa ms) (hx : VarPl W x (.slice qo n qa)) (hle : w0.heap.size ≤ x) (hn : n ≤ 1000) :
    CallsD Tryd.prog 140 #[.pointer (some ⟨x, 0, none⟩)] u W fun e u' W' => u' = u ∧ e = .returned (.tuple #[]) ∧ ∃ g qa', VarPl W' x (.slice (some ⟨g, 0, none⟩) (n + 1) qa') ∧ ApS w0 W' (some ⟨g, 0, none⟩) (n + 1) qa' (ms ++ [mvF]) := by
  obtain ⟨i0, hi, hz0, hz1, hz2⟩ := info_parts infoMx
  obtain ⟨hc, hf⟩ := hx.cell
  have hxl := hx.lt
  have HX := hide (hx.below (Joins.below_alloc1 W (.cells #[.int .i64 2, .int .i64 0, .string ⟨#[]⟩] 76)))
  have HA := hide (ha.next (Joins.below_alloc1 W (.cells #[.int .i64 2, .int .i64 0, .string ⟨#[]⟩] 76)))
  have HSZ := hide (unhide HA).sz
  clear hx ha
  go_enter_d Tryd.func140, Tryd.ntmps140
  go_wp2_with (at_builtin; refine wpList_append_one rfl _ _ 27 rfl w0.heap.size 76 i0 (.agg #[.int .i64 0, .int .i64 0, .string ⟨#[]⟩]) 3 32 Tryd.underlying27 hi hz0 hz1 hz2 rfl (by omega) qo n qa (ioV ms) rfl (unhide HA).o (unhide HSZ) ⟨W.heap.size, 0, none⟩ _ (wrV mvF) rfl rfl (news3 W mvF _) (wrV_one _) (by unfold maxLen; omega) (by omega) ?_; intro g2 cap2 wA hoA hkA; have HVA := hide ((unhide HX).keep hkA ((unhide HA).o.other (unhide HX) pl_ne)); have HN := hide (ApS.one (unhide HA) hoA hkA); obtain ⟨hcA, hfA⟩ := (unhide HVA).cell; clear hoA hkA)
  go_end0
  exact ⟨rfl, g2, cap2, (unhide HVA).set _, (unhide HN).setX (unhide HVA) hle _⟩

set_option maxHeartbeats 1600000 in
theorem addSure_any (w0 W : World) (x : Nat) (qo : Option Addr) (n qa : Nat) (ms : List Wr) (ao : Option Addr) (cap m : Nat) (ws : List Wr) (ha : ApS w0 W qo n qa ms) (hx : VarPl W x (.slice qo n qa)) (hle : w0.heap.size ≤ x) (hw : Ios W ao ws) (hm : m = ws.length) (hp : 0 < m) (hn : n ≤ 100) (hl : m ≤ 100) :
    Calls Tryd.prog 118 #[.pointer (some ⟨x, 0, none⟩), .slice ao m cap] W fun e W' => e = .returned (.tuple #[]) ∧ ∃ g qa', VarPl W' x (.slice (some ⟨g, 0, none⟩) (n + m + 1) qa') ∧ ApS w0 W' (some ⟨g, 0, none⟩) (n + m + 1) qa' (ms ++ ws ++ [mvF]) := by
  obtain ⟨i0, hi, hz0, hz1, hz2⟩ := info_parts infoMx
  obtain ⟨hc, hf⟩ := hx.cell
  have hxl := hx.lt
  have HX := hide hx
  have HA := hide ha
  have HW := hide (hw.src (by omega))
  have HL : Hid ((ioV ws).length = m * 3) := hide (by rw [ioV_length, hm])
  have HSZ := hide ha.sz
  clear hx ha hw hm
  go_enter_defers Tryd.func118, Tryd.ntmps118
  go_wp2_with (at_builtin; refine wpList_append_many rfl _ _ 27 rfl w0.heap.size 76 i0 (.agg #[.int .i64 0, .int .i64 0, .string ⟨#[]⟩]) 3 32 Tryd.underlying27 hi hz0 hz1 hz2 rfl (by omega) qo n qa (ioV ms) rfl (unhide HA).o (unhide HSZ) ao m cap (ioV ws) rfl hp (unhide HL) (fun _ => unhide HW) (ioV_one _) (by unfold maxLen; omega) (by omega) ?_; intro g2 cap2 wA hoA hkA; have HVA := hide ((unhide HX).keep hkA ((unhide HA).o.other (unhide HX) pl_ne)); have HN := hide (ApS.app (unhide HA) rfl (by omega) hoA hkA); obtain ⟨hcA, hfA⟩ := (unhide HVA).cell; clear hoA hkA)
  refine leaves_cons (f := 140) (args := #[.pointer (some ⟨x, 0, none⟩)]) (by simp) (by simp [go_sem]) ?_
  refine (flush_d w0 _ x (some ⟨g2, 0, none⟩) (n + m) cap2 (ms ++ ws) _ ((unhide HN).setX (unhide HVA) hle _) ((unhide HVA).set _) hle (by omega)).mono ?_
  rintro e u' w'' ⟨rfl, rfl, g, qa', hv, hap⟩
  have HV2 := hide hv
  have HA2 := hide hap
  clear hv hap
  simp [Leaves, settle, results, Tryd.results118, go_sem]
  exact ⟨g, qa', unhide HV2, by simpa using unhide HA2⟩

/-- The parts of a plan, as a row of slices shows them. -/
structure Part where
  ao : Option Addr
  cap : Nat
  ws : List Wr
def Parts (w : World) (p : Nat) (ps : List Part) : Prop := ∀ i (h : i < ps.length), w.cell? ⟨p, i, none⟩ = some (.slice ps[i].ao ps[i].ws.length ps[i].cap) ∧ Ios w ps[i].ao ps[i].ws ∧ 0 < ps[i].ws.length ∧ ps[i].ws.length ≤ 20
def plM (ps : List Part) : List Wr := ps.flatMap fun q => q.ws ++ [mvF]
theorem plM_succ {ps : List Part} {k : Nat} (h : k < ps.length) : plM (ps.take (k + 1)) = plM (ps.take k) ++ ps[k].ws ++ [mvF] := by
  unfold plM
  rw [List.take_succ_eq_append_getElem h, List.flatMap_append]
  simp only [List.flatMap_cons, List.flatMap_nil, List.append_nil, List.append_assoc]

set_option maxHeartbeats 1600000 in
theorem planOf_any (p cap : Nat) (ps : List Part) (w : World) (hl : ps.length ≤ 2) (hp : Parts w p ps) :
    Calls Tryd.prog 79 #[.slice (some ⟨p, 0, none⟩) ps.length cap] w fun e w' => ∃ qo n qa, e = .returned (.slice qo n qa) ∧ ApS w w' qo n qa (plM ps) := by
  have HP := hide hp
  clear hp
  have HA0 : Hid (ApS w (w.alloc (.cells #[.slice none 0 0] 151)) none 0 0 (plM (ps.take 0))) := hide ⟨.inl ⟨rfl, rfl, _, rfl⟩, Joins.below_alloc1 _ _⟩
  have HV0 := hide (VarPl.new w (.slice none 0 0))
  go_enter Tryd.func79, Tryd.ntmps79
  go_wp2
  go_loopw [8] (fun i wr => ∃ (k : Nat) (qo : Option Addr) (n qa : Nat), k ≤ ps.length ∧ i = .int .i64 k ∧ n ≤ k * 21 ∧ Hid (VarPl wr w.heap.size (.slice qo n qa)) ∧ Hid (ApS w wr qo n qa (plM (ps.take k)))) (fun i _ => ps.length - (intOf i).toNat)
  case atStart => exact ⟨0, _, 0, _, Nat.zero_le _, rfl, Nat.zero_le _, HV0, HA0⟩
  case round =>
    obtain ⟨k, qo, n, qa, hk, rfl, hn, HV, HA⟩ := hrel
    by_cases hlt : k < ps.length
    · obtain ⟨hc, hios, hp0, hp5⟩ := unhide HP k hlt
      have hcr := ((unhide HA).k.cell (p := ⟨p, k, none⟩) (World.block_lt_of_cell? _ _ hc)).trans hc
      have HI := hide (hios.below (unhide HA).k)
      have hq : k * 21 ≤ 42 := by omega
      obtain ⟨M, hM⟩ : ∃ M, M = ps[k].ws.length := ⟨_, rfl⟩
      rw [← hM] at hcr hp0 hp5
      have HM := hide hM
      clear hc hios hM
      go_wp2_with fail
      refine (addSure_any w _ w.heap.size qo n qa (plM (ps.take k)) ps[k].ao ps[k].cap M ps[k].ws (unhide HA) (unhide HV) (Nat.le_refl _) (unhide HI) (unhide HM) hp0 (by omega) (by omega)).mono ?_
      rintro e w2 ⟨rfl, g, qa', hv, ha⟩
      have HV2 := hide hv
      have HA2 : Hid (ApS w w2 (some ⟨g, 0, none⟩) (n + M + 1) qa' (plM (ps.take (k + 1)))) := hide (by rw [plM_succ hlt]; exact ha)
      clear hv ha
      go_wp2
      go_roundw
      case rel => exact ⟨k + 1, _, _, _, by omega, by go_num, by omega, HV2, HA2⟩
      case measure => simp [intOf]; omega
    · have hke : k = ps.length := by omega
      subst hke
      have HA1 : Hid (ApS w wr qo n qa (plM ps)) := hide (by have := unhide HA; rwa [List.take_of_length_le (Nat.le_refl _)] at this)
      obtain ⟨hc, _⟩ := (unhide HV).cell
      go_wp2
      go_ret
      exact ⟨_, _, _, rfl, unhide HA1⟩

end Go.Proofs.YtefnapcegeojoabDoor

/- Contracts of the program's journals: head, changes, toApply. -/
namespace Go.Proofs.YtefnapcegeojoabDoor
open Go.RowKit
set_option linter.unusedVariables false
set_option maxRecDepth 100000

abbrev jV (slot seq : Int) (ao : Option Addr) (n cap : Nat) : Value := .agg #[.int .i64 slot, .int .i64 seq, .slice ao n cap]
/-- A journal in a variable. -/
def VarJ (w : World) (x : Nat) (t : TypeId) (slot seq : Int) (v : Value) : Prop := w.heap[x]? = some (.cells #[.int .i64 slot, .int .i64 seq, v] t (0, 0))
theorem VarJ.lt {w : World} {x : Nat} {t : TypeId} {slot seq : Int} {v : Value} (h : VarJ w x t slot seq v) : x < w.heap.size := (Array.getElem?_eq_some_iff.1 h).1
theorem VarJ.cells {w : World} {x : Nat} {t : TypeId} {slot seq : Int} {v : Value} (h : VarJ w x t slot seq v) : w.cell? ⟨x, 0, none⟩ = some (.int .i64 slot) ∧ w.cell? ⟨x, 1, none⟩ = some (.int .i64 seq) ∧ w.cell? ⟨x, 2, none⟩ = some v := ⟨by rw [Joins.cell_of_block h]; rfl, by rw [Joins.cell_of_block h]; rfl, by rw [Joins.cell_of_block h]; rfl⟩
theorem VarJ.free {w : World} {x : Nat} {t : TypeId} {slot seq : Int} {v : Value} (h : VarJ w x t slot seq v) (i : Nat) : w.frozen? ⟨x, i, none⟩ = false := Joins.unfrozen_of_block h i
theorem VarJ.below {w w' : World} {x : Nat} {t : TypeId} {slot seq : Int} {v : Value} (h : VarJ w x t slot seq v) (hb : Below w.heap.size w w') : VarJ w' x t slot seq v := by
  unfold VarJ; rw [hb.block x h.lt]; exact h
theorem VarJ.new (w : World) (t : TypeId) (slot seq : Int) (v : Value) : VarJ (w.alloc (.cells #[.int .i64 slot, .int .i64 seq, v] t)) w.heap.size t slot seq v := heap_alloc_new w _
theorem ios_one (w : World) (n : Nat) (x : Wr) (t : TypeId) (hn : w.heap.size = n) (hz : x.data.size ≤ maxLen) : Ios (w.alloc (.cells #[.int .i64 x.host, .int .i64 x.at_, .string x.data] t)) (some ⟨n, 0, none⟩) [x] := by
  subst hn
  intro i hi
  have hi' : i < 1 := hi
  rcases (show i = 0 by omega) with rfl
  exact ⟨w.heap.size, 0, rfl, by simp [go_sem], by simp [go_sem], by simp [go_sem], hz⟩

set_option maxHeartbeats 1600000 in
theorem head_any (slot seq : Int) (ao : Option Addr) (n cap : Nat) (c : Int) (w : World) (hc : 0 ≤ c ∧ c ≤ 5) (hs : numB seq = true) :
    Calls Tryd.prog 81 #[jV slot seq ao n cap, .int .i64 c] w fun e w' => ∃ qo, e = .returned (.slice qo 1 1) ∧ Ios w' qo [mvH slot c seq] ∧ Below w.heap.size w w' := by
  have HD := hide (hd_seal hc hs)
  have HA := hide (Joins.below_alloc1 w (.cells #[.int .i64 slot, .int .i64 seq, .slice ao n cap] 70))
  have HV := hide ((VarJ.new w 70 slot seq (.slice ao n cap)).below (Joins.below_alloc1 _ (.cells #[.int .i64 c, .int .i64 seq] 3)))
  clear hc hs
  go_enter Tryd.func81, Tryd.ntmps81
  go_wp2_with fail
  refine (sealRecord_impl 7 _ 2 [c, seq] _ (by simp) (is2 _ _ _ _ _ (by simp))).mono ?_
  rintro e w1 ⟨rfl, hb⟩
  have HB := hide (fr (belowAl (unhide HA) _) hb)
  obtain ⟨c0, c1, c2⟩ := ((unhide HV).below hb).cells
  clear hb
  rw [(unhide HD).1, (unhide HD).2]
  go_wp2
  go_ret
  exact ⟨_, rfl, ios_one w1 _ (mvH slot c seq) _ (by simp) (by show (hdT c seq).size ≤ maxLen; rw [hdT_size]; unfold maxLen; omega), belowAl (unhide HB) _⟩

set_option maxHeartbeats 3200000 in
theorem changes_any (slot seq : Int) (ao : Option Addr) (cap : Nat) (us : List Up) (w : World) (hl : us.length ≤ 5) (hu : Ups w ao us) :
    Calls Tryd.prog 80 #[jV slot seq ao us.length cap] w fun e w' => ∃ qo qa, e = .returned (.slice qo us.length qa) ∧ ApS w w' qo us.length qa (chL us) := by
  have HU := hide hu
  clear hu
  obtain ⟨i0, hi, hz0, hz1, hz2⟩ := info_parts infoMx
  have HV := hide (VarJ.new w 70 slot seq (.slice ao us.length cap))
  have H0 : Hid (ApS w (w.alloc (.cells #[.int .i64 slot, .int .i64 seq, .slice ao us.length cap] 70)) none 0 0 []) := hide ⟨.inl ⟨rfl, rfl, _, rfl⟩, Joins.below_alloc1 _ _⟩
  go_enter Tryd.func80, Tryd.ntmps80
  go_wp2
  go_loopw [3, 9] (fun o i wr => ∃ (k : Nat) (qo : Option Addr) (qa : Nat), k ≤ us.length ∧ i = .int .i64 k ∧ o = .slice qo k qa ∧ Hid (ApS w wr qo k qa ((chL us).take k))) (fun _ i _ => us.length - (intOf i).toNat)
  case atStart => exact ⟨0, _, _, Nat.zero_le _, rfl, rfl, H0⟩
  case round =>
    obtain ⟨k, qo, qa, hk, rfl, rfl, HA⟩ := hrel
    by_cases hlt : k < us.length
    · obtain ⟨b, off, rfl, hc0, hc1, hcz⟩ := (unhide HU).below (unhide HA).k k hlt
      have hbl := World.block_lt_of_cell? _ _ hc0
      clear hcz
      have HAA := hide (((unhide HA).next (Joins.below_alloc1 wr (.cells #[.int .i64 us[k].at_, .string us[k].data] 49))).next (Joins.below_alloc1 _ (.cells #[.int .i64 1, .int .i64 us[k].at_, .string us[k].data] 76)))
      have HSZ := hide (unhide HAA).sz
      go_wp2_with (at_builtin; refine wpList_append_one rfl _ _ 27 rfl w.heap.size 76 i0 (.agg #[.int .i64 0, .int .i64 0, .string ⟨#[]⟩]) 3 32 Tryd.underlying27 hi hz0 hz1 hz2 rfl (by omega) qo k qa (ioV ((chL us).take k)) rfl (unhide HAA).o (unhide HSZ) ⟨wr.heap.size + 1, 0, none⟩ _ (wrV (mvW us[k])) rfl rfl (news3_at _ _ (mvW us[k]) _ (by simp)) (wrV_one _) (by unfold maxLen; omega) (by omega) ?_; intro g2 cap2 wA hoA hkA; have HN := hide (ApS.one (unhide HAA) hoA hkA); clear hoA hkA)
      go_roundw
      case rel => exact ⟨k + 1, _, _, by omega, by go_num, rfl, hide (by rw [chL_take hlt]; exact unhide HN)⟩
      case measure => simp [intOf]; omega
    · have hke : k = us.length := by omega
      subst hke
      have HA1 : Hid (ApS w wr qo us.length qa (chL us)) := hide (by have := unhide HA; rwa [chL_done (Nat.le_refl _)] at this)
      go_wp2
      go_ret
      exact ⟨_, _, rfl, unhide HA1⟩

set_option maxHeartbeats 1600000 in
theorem place_any (slot seq : Int) (ao : Option Addr) (n cap k : Nat) (w : World) (hs : 0 ≤ slot ∧ slot ≤ 1000) (hk : k ≤ 1000) :
    Calls Tryd.prog 78 #[jV slot seq ao n cap, .int .i64 k] w fun e w' => e = .returned (.int .i64 (slot + 1 + k)) ∧ Below w.heap.size w w' := by
  have wr1 : IntKind.i64.wrap (slot + 1) = slot + 1 := by rw [IntKind.wrap_i64]; omega
  have wr2 : IntKind.i64.wrap (slot + 1 + (k : Int)) = slot + 1 + (k : Int) := by rw [IntKind.wrap_i64]; omega
  go_enter Tryd.func78, Tryd.ntmps78
  go_wp2
  go_ret
  exact ⟨rfl, Joins.below_alloc1 _ _⟩

/-- Two parts in a new row. -/
theorem parts_two (w : World) (n : Nat) (t : TypeId) (p q : Part) (hn : w.heap.size = n) (hp : Ios w p.ao p.ws ∧ 0 < p.ws.length ∧ p.ws.length ≤ 20) (hq : Ios w q.ao q.ws ∧ 0 < q.ws.length ∧ q.ws.length ≤ 20) :
    Parts (w.alloc (.cells #[.slice p.ao p.ws.length p.cap, .slice q.ao q.ws.length q.cap] t)) n [p, q] := by
  subst hn
  intro i hi
  have hi' : i < 2 := hi
  rcases (show i = 0 ∨ i = 1 by omega) with rfl | rfl
  · exact ⟨by simp [go_sem], hp.1.below (Joins.below_alloc1 _ _), hp.2.1, hp.2.2⟩
  · exact ⟨by simp [go_sem], hq.1.below (Joins.below_alloc1 _ _), hq.2.1, hq.2.2⟩

set_option maxHeartbeats 3200000 in
theorem toApply_any (slot seq : Int) (ao : Option Addr) (cap : Nat) (us : List Up) (w : World) (hl : us.length ≤ 5) (hs : us.length ≠ 0 → numB seq = true) (hub : upsB us = true) (hu : Ups w ao us) :
    Calls Tryd.prog 38 #[jV slot seq ao us.length cap] w fun e w' => ∃ qo n qa, e = .returned (.slice qo n qa) ∧ ApS w w' qo n qa (rpL slot seq us) := by
  have HA := hide (Joins.below_alloc1 w (.cells #[.int .i64 slot, .int .i64 seq, .slice ao us.length cap] 70))
  have HV := hide (VarJ.new w 70 slot seq (.slice ao us.length cap))
  by_cases h0 : us.length = 0
  · have hb0 : (((us.length : Nat) : Int) == 0) = true := by simp [h0]
    have HE : Hid (rpL slot seq us = []) := hide (if_pos h0)
    clear h0 hs hu hub
    go_enter Tryd.func38, Tryd.ntmps38
    go_wp2
    go_ret
    exact ⟨_, _, _, rfl, by rw [unhide HE]; exact ⟨.inl ⟨rfl, rfl, _, rfl⟩, unhide HA⟩⟩
  have hb0 : (((us.length : Nat) : Int) == 0) = false := by rw [beq_eq_false_iff_ne]; omega
  have HE : Hid (rpL slot seq us = apL slot seq us) := hide (if_neg h0)
  have HS := hide (hs h0)
  have HU := hide hu
  have HUB := hide hub
  have HPM : Hid (∀ po pa qo qa, plM [⟨po, pa, chL us⟩, ⟨qo, qa, [mvH slot 0 seq]⟩] = apL slot seq us) := hide (fun _ _ _ _ => by simp [plM, apL])
  have HPC : Hid (0 < (chL us).length ∧ (chL us).length ≤ 20) := hide (by rw [chL_length]; omega)
  clear hs hu hub
  obtain ⟨c0, c1, c2⟩ := (unhide HV).cells
  go_enter Tryd.func38, Tryd.ntmps38
  go_wp2
  go_region_held3 (fun w' => w'.cell? ⟨w.heap.size, 0, none⟩ = some (.int .i64 slot) ∧ w'.cell? ⟨w.heap.size, 1, none⟩ = some (.int .i64 seq) ∧ w'.cell? ⟨w.heap.size, 2, none⟩ = some (.slice ao us.length cap)) (go_keep)
    (first
      | (go_at_call 80; refine (changes_any slot seq ao cap us _ hl (by exact ((unhide HU).below (unhide HA)).below (Below.refl _ _).drew)).mono ?_; rintro e w2 ⟨po, pa, rfl, hap⟩; have HB2 := hide (fr (Below.refl _ _).drew hap.k); have HI2 : Hid (Ios w2 po (chL us)) := hide (ownMv (by have := hap.o; rwa [← chL_length us] at this) (short_ch (unhide HUB)).sizes); obtain ⟨d0, d1, d2⟩ := ((unhide HV).below (unhide HB2)).cells; clear hap)
      | (go_at_call 81; refine (head_any slot seq ao us.length cap 0 _ (by omega) (unhide HS)).mono ?_; rintro e w3 ⟨qo, rfl, hi3, hb3⟩; have HB3 := hide (fr (unhide HB2) hb3); have HI3 := hide hi3; have HI23 := hide ((unhide HI2).below hb3); obtain ⟨e0, e1, e2⟩ := ((unhide HV).below (unhide HB3)).cells; have hlt3 := ((unhide HV).below (unhide HB3)).lt; clear hi3 hb3)
      | (go_at_call 79; rw [show Value.slice (some ⟨w3.heap.size, 0, none⟩) 2 2 = .slice (some ⟨w3.heap.size, 0, none⟩) [(⟨po, pa, chL us⟩ : Part), ⟨qo, 1, [mvH slot 0 seq]⟩].length 2 from rfl]; refine (planOf_any w3.heap.size 2 [⟨po, pa, chL us⟩, ⟨qo, 1, [mvH slot 0 seq]⟩] _ (by simp) (by have := parts_two w3 w3.heap.size 27 ⟨po, pa, chL us⟩ ⟨qo, 1, [mvH slot 0 seq]⟩ rfl ⟨unhide HI23, (unhide HPC).1, (unhide HPC).2⟩ ⟨unhide HI3, by simp, by simp⟩; simp only [chL_length] at this; exact this)).mono ?_; rintro e w4 ⟨ro, rn, ra, rfl, hap⟩; have HB4 := hide (fr (unhide HB3) (fr (Joins.below_alloc1 _ _) hap.k)); have HAP := hide hap; obtain ⟨f0, f1, f2⟩ := ((unhide HV).below (unhide HB4)).cells; clear hap))
  all_goals
    have HF : Hid (ApS w w4 ro rn ra (apL slot seq us)) := hide (by
      have := unhide HAP
      rw [unhide HPM] at this
      exact ⟨this.o.base (by have h1 := (unhide HB3).size; have h2 := (unhide HA).size; simp at h1 ⊢; omega), fr (unhide HA) (unhide HB4)⟩)
    go_wp2
    go_ret
    exact ⟨_, _, _, rfl, by rw [unhide HE]; exact unhide HF⟩

end Go.Proofs.YtefnapcegeojoabDoor

/- Contract of impl.readNumbers. -/
namespace Go.Proofs.YtefnapcegeojoabDoor
open Go.RowKit
set_option linter.unusedVariables false
set_option maxRecDepth 100000

def txt : Value → ByteArray
  | .string s => s
  | _ => ⟨#[]⟩
/-- What is left of a text behind some bytes. -/
def Rest (s u : ByteArray) (k : Nat) : Prop := u.size + k = s.size ∧ ∀ j, j < u.size → byteAt u j = byteAt s (k + j)
theorem Rest.zero (s : ByteArray) : Rest s s 0 := ⟨rfl, fun j _ => by rw [Nat.zero_add]⟩
theorem Rest.num {s u : ByteArray} {k : Nat} (h : Rest s u k) (h4 : 4 ≤ u.size) : numAt u 0 = numAt s k := by
  unfold numAt
  rw [h.2 0 (by omega), h.2 (0 + 1) (by omega), h.2 (0 + 2) (by omega), h.2 (0 + 3) (by omega)]
  simp

theorem cut_size {u : ByteArray} (a : Nat) : (u.extract a u.size).size = u.size - a := by simp
theorem cut_byte {u : ByteArray} {a j : Nat} (h : a + j < u.size) : byteAt (u.extract a u.size) j = byteAt u (a + j) := by
  have h' : a + j < u.data.size := h
  have e : (u.extract a u.size).data = u.data.extract a u.size := by simp
  unfold byteAt
  rw [e, Array.getElem?_extract]
  have : j < u.size - a := by omega
  simp [this]
theorem Rest.cut {s u : ByteArray} {k : Nat} (h : Rest s u k) (h4 : 4 ≤ u.size) : Rest s (u.extract 4 u.size) (k + 4) := by
  refine ⟨by rw [cut_size]; have := h.1; omega, fun j hj => ?_⟩
  rw [cut_size] at hj
  rw [cut_byte (by omega), h.2 (4 + j) (by omega), Nat.add_assoc]

set_option maxHeartbeats 1600000 in
theorem readNumbers_ok (s : ByteArray) (w : World) (h4 : s.size % 4 = 0) (hl : s.size ≤ 64) (hn : ∀ k, k < s.size / 4 → numB (numAt s (k * 4)) = true) :
    Calls Tryd.prog 142 #[.string s] w fun e w' => ∃ v, e = .returned v ∧ OwnN w' w.heap.size v (unL s) ∧ Below w.heap.size w w' := by
  obtain ⟨j0, hj, hy0, hy1, hy2⟩ := info_parts infoM
  have hb4 : ((s.size : Int) % 4 == 0) = true := by simp; omega
  have hli : (s.size : Int) ≤ 64 := by omega
  have HN := hide hn
  clear hn
  go_enter Tryd.func142, Tryd.ntmps142
  go_wp2_with (go_at_call 108; refine (demand_true _).mono ?_; rintro e w' ⟨rfl, hw⟩; replace hw := hw.symm; subst hw)
  go_loopw [0, 3] (fun t o wr => ∃ (k : Nat) (u : ByteArray) (qo : Option Addr) (qa : Nat), k ≤ s.size / 4 ∧ t = .string u ∧ o = .slice qo k qa ∧ u.size + k * 4 = s.size ∧ Hid (Rest s u (k * 4)) ∧ Hid (OwnR wr w.heap.size 3 1 (.slice qo k qa) k (intV ((unL s).take k))) ∧ Hid (Below w.heap.size w wr)) (fun t _ _ => (txt t).size)
  case atStart => exact ⟨0, s, _, _, Nat.zero_le _, rfl, rfl, rfl, hide (Rest.zero s), hide (.inl ⟨rfl, rfl, _, rfl⟩), hide (Below.refl _ _)⟩
  case round =>
    obtain ⟨k, u, qo, qa, hk, rfl, rfl, hu, HR, HO, HB⟩ := hrel
    by_cases hlt : k < s.size / 4
    · have hu4 : 4 ≤ u.size := by omega
      have HNU : Hid (numB (numAt u 0) = true) := hide (by rw [(unhide HR).num hu4]; exact unhide HN k hlt)
      have HNE := hide ((unhide HR).num hu4)
      have hu0 : 0 < u.size := by omega
      have HSZU := hide (cut_size (u := u) 4)
      go_wp2_with fail
      refine (readNumber_ok u _ hu4 (unhide HNU)).mono ?_
      rintro e w1 ⟨rfl, hb1⟩
      have HB1 := hide (fr (unhide HB) hb1)
      have HO1 := hide ((unhide HO).below hb1)
      clear hb1
      have HOA := hide ((unhide HO1).below (Joins.below_alloc1 _ (.cells #[.int .i64 (numAt u 0)] 3)))
      have HBA := hide (fr (unhide HB1) (Joins.below_alloc1 _ (.cells #[.int .i64 (numAt u 0)] 3)))
      have HSZ := hide (unhide HB1).size
      go_wp2_with (at_builtin; refine wpList_append_one rfl _ _ 52 rfl w.heap.size 3 j0 (.int .i64 0) 1 8 Tryd.underlying52 hj hy0 hy1 hy2 rfl (by omega) qo k qa (intV ((unL s).take k)) rfl (unhide HOA) (by have := unhide HSZ; simp; omega) ⟨w1.heap.size, 0, none⟩ _ [.int .i64 (numAt u 0)] rfl rfl (byte_news w1 _ _) (int_one _) (by unfold maxLen; omega) (by omega) ?_; intro g2 cap2 wA hoA hkA; have HSF := hide (And.intro hoA (keep_below (unhide HBA) (unhide HOA) (Nat.le_refl _) hkA)); clear hoA hkA)
      go_roundw
      case rel => exact ⟨k + 1, _, _, _, by omega, rfl, rfl, by rw [unhide HSZU]; omega, hide (by rw [show (k + 1) * 4 = k * 4 + 4 by omega]; exact (unhide HR).cut hu4), hide (.inr ⟨by omega, by rw [unL_succ hlt, intV_snoc, ← unhide HNE]; exact (unhide HSF).1⟩), hide (unhide HSF).2⟩
      case measure => show (u.extract 4 u.size).size < u.size; rw [unhide HSZU]; omega
    · have hke : k = (unL s).length := by rw [unL_length]; omega
      have hu0 : u.size = 0 := by omega
      have HT : Hid ((unL s).take k = unL s) := hide (List.take_of_length_le (by omega))
      have HON : Hid (OwnR wr w.heap.size 3 1 (.slice qo (unL s).length qa) (unL s).length (intV (unL s))) := hide (by have := unhide HO; rw [unhide HT, hke] at this; exact this)
      subst hke
      go_wp2
      go_ret
      exact ⟨.slice qo (unL s).length qa, rfl, ⟨qo, qa, rfl, unhide HON⟩, unhide HB⟩

set_option maxHeartbeats 1600000 in
theorem readNumbers_bad (s : ByteArray) (w : World) (k0 : Nat) (h4 : s.size % 4 = 0) (hl : s.size ≤ 64) (hk0 : k0 < s.size / 4) (hn : ∀ k, k < k0 → numB (numAt s (k * 4)) = true) (hn0 : numB (numAt s (k0 * 4)) = false) (hE : ErrW w) :
    Calls Tryd.prog 142 #[.string s] w fun e w' => (∃ u pv, e = .panicked [{ v := .iface u pv, recovered := false }]) ∧ Below w.heap.size w w' := by
  obtain ⟨j0, hj, hy0, hy1, hy2⟩ := info_parts infoM
  have hb4 : ((s.size : Int) % 4 == 0) = true := by simp; omega
  have hli : (s.size : Int) ≤ 64 := by omega
  have HN := hide hn
  have HN0 := hide hn0
  have HE := hide hE
  clear hn hn0 hE
  go_enter Tryd.func142, Tryd.ntmps142
  go_wp2_with (go_at_call 108; refine (demand_true _).mono ?_; rintro e w' ⟨rfl, hw⟩; replace hw := hw.symm; subst hw)
  go_loopw [0, 3] (fun t o wr => ∃ (k : Nat) (u : ByteArray) (qo : Option Addr) (qa : Nat), k ≤ k0 ∧ t = .string u ∧ o = .slice qo k qa ∧ u.size + k * 4 = s.size ∧ Hid (Rest s u (k * 4)) ∧ Hid (OwnR wr w.heap.size 3 1 (.slice qo k qa) k (intV ((unL s).take k))) ∧ Hid (Below w.heap.size w wr)) (fun t _ _ => (txt t).size)
  case atStart => exact ⟨0, s, _, _, Nat.zero_le _, rfl, rfl, rfl, hide (Rest.zero s), hide (.inl ⟨rfl, rfl, _, rfl⟩), hide (Below.refl _ _)⟩
  case round =>
    obtain ⟨k, u, qo, qa, hk, rfl, rfl, hu, HR, HO, HB⟩ := hrel
    have hlt0 : k < s.size / 4 := by omega
    by_cases hlt : k < k0
    · have hu4 : 4 ≤ u.size := by omega
      have HNU : Hid (numB (numAt u 0) = true) := hide (by rw [(unhide HR).num hu4]; exact unhide HN k hlt)
      have HNE := hide ((unhide HR).num hu4)
      have hu0 : 0 < u.size := by omega
      have HSZU := hide (cut_size (u := u) 4)
      go_wp2_with fail
      refine (readNumber_ok u _ hu4 (unhide HNU)).mono ?_
      rintro e w1 ⟨rfl, hb1⟩
      have HB1 := hide (fr (unhide HB) hb1)
      have HO1 := hide ((unhide HO).below hb1)
      clear hb1
      have HOA := hide ((unhide HO1).below (Joins.below_alloc1 _ (.cells #[.int .i64 (numAt u 0)] 3)))
      have HBA := hide (fr (unhide HB1) (Joins.below_alloc1 _ (.cells #[.int .i64 (numAt u 0)] 3)))
      have HSZ := hide (unhide HB1).size
      go_wp2_with (at_builtin; refine wpList_append_one rfl _ _ 52 rfl w.heap.size 3 j0 (.int .i64 0) 1 8 Tryd.underlying52 hj hy0 hy1 hy2 rfl (by omega) qo k qa (intV ((unL s).take k)) rfl (unhide HOA) (by have := unhide HSZ; simp; omega) ⟨w1.heap.size, 0, none⟩ _ [.int .i64 (numAt u 0)] rfl rfl (byte_news w1 _ _) (int_one _) (by unfold maxLen; omega) (by omega) ?_; intro g2 cap2 wA hoA hkA; have HSF := hide (And.intro hoA (keep_below (unhide HBA) (unhide HOA) (Nat.le_refl _) hkA)); clear hoA hkA)
      go_roundw
      case rel => exact ⟨k + 1, _, _, _, by omega, rfl, rfl, by rw [unhide HSZU]; omega, hide (by rw [show (k + 1) * 4 = k * 4 + 4 by omega]; exact (unhide HR).cut hu4), hide (.inr ⟨by omega, by rw [unL_succ hlt0, intV_snoc, ← unhide HNE]; exact (unhide HSF).1⟩), hide (unhide HSF).2⟩
      case measure => show (u.extract 4 u.size).size < u.size; rw [unhide HSZU]; omega
    · have hu4 : 4 ≤ u.size := by omega
      have hu0 : 0 < u.size := by omega
      have hke : k = k0 := by omega
      have HNU : Hid (numB (numAt u 0) = false) := hide (by rw [(unhide HR).num hu4, hke]; exact unhide HN0)
      go_wp2_with fail
      refine (readNumber_no u _ hu4 (unhide HNU) ((unhide HE).below (unhide HB))).mono ?_
      rintro e w1 ⟨⟨u1, pv, rfl⟩, hb1⟩
      have HB1 := hide (fr (unhide HB) hb1)
      clear hb1
      go_wp2
      exact ⟨rfl, ⟨u1, pv, rfl⟩, unhide HB1⟩

set_option maxHeartbeats 800000 in
theorem readNumbers_form (s : ByteArray) (w : World) (h : s.size % 4 ≠ 0 ∨ 64 < s.size) (hE : ErrW w) :
    Calls Tryd.prog 142 #[.string s] w fun e w' => (∃ u pv, e = .panicked [{ v := .iface u pv, recovered := false }]) ∧ Below w.heap.size w w' := by
  have HE := hide hE
  clear hE
  by_cases h4 : s.size % 4 = 0
  · have hb4 : ((s.size : Int) % 4 == 0) = true := by simp; omega
    have hli : ¬ (s.size : Int) ≤ 64 := by omega
    go_enter Tryd.func142, Tryd.ntmps142
    go_wp2_with (go_at_call 108; refine (demand_false _ (unhide HE)).mono ?_; rintro e w' ⟨⟨u1, pv, rfl⟩, hw⟩; replace hw := hw.symm; subst hw)
    exact ⟨rfl, ⟨_, _, rfl⟩, Below.refl _ _⟩
  · have hb4 : ((s.size : Int) % 4 == 0) = false := by simp; omega
    go_enter Tryd.func142, Tryd.ntmps142
    go_wp2_with (go_at_call 108; refine (demand_false _ (unhide HE)).mono ?_; rintro e w' ⟨⟨u1, pv, rfl⟩, hw⟩; replace hw := hw.symm; subst hw)
    exact ⟨rfl, ⟨_, _, rfl⟩, Below.refl _ _⟩

theorem first_bad {p : Nat → Bool} : ∀ n, (∀ k, k < n → p k = true) ∨ ∃ k0, k0 < n ∧ (∀ k, k < k0 → p k = true) ∧ p k0 = false
  | 0 => .inl (fun k hk => by omega)
  | n + 1 => by
    rcases first_bad (p := p) n with h | ⟨k0, h0, h1, h2⟩
    · cases hp : p n with
      | true => exact .inl (fun k hk => by
          by_cases e : k = n
          · subst e; exact hp
          · exact h k (by omega))
      | false => exact .inr ⟨n, by omega, h, hp⟩
    · exact .inr ⟨k0, by omega, h1, h2⟩

/-- readNumbers, by what the text is. -/
theorem readNumbers_yes (s : ByteArray) (w : World) (h : okU s = true) :
    Calls Tryd.prog 142 #[.string s] w fun e w' => ∃ v, e = .returned v ∧ OwnN w' w.heap.size v (unL s) ∧ Below w.heap.size w w' := by
  have h4 : s.size % 4 = 0 := by
    by_cases h4 : s.size % 4 = 0
    · exact h4
    · rw [okU_rest h4] at h; cases h
  have hl : s.size ≤ 64 := by
    by_cases hl : 64 < s.size
    · rw [okU_long hl] at h; cases h
    · omega
  refine readNumbers_ok s w h4 hl (fun k hk => ?_)
  cases hb : numB (numAt s (k * 4)) with
  | true => rfl
  | false => rw [okU_bad hk hb] at h; cases h
theorem readNumbers_no (s : ByteArray) (w : World) (h : okU s = false) (hE : ErrW w) :
    Calls Tryd.prog 142 #[.string s] w fun e w' => (∃ u pv, e = .panicked [{ v := .iface u pv, recovered := false }]) ∧ Below w.heap.size w w' := by
  by_cases h4 : s.size % 4 = 0
  · by_cases hl : s.size ≤ 64
    · rcases first_bad (p := fun k => numB (numAt s (k * 4))) (s.size / 4) with hg | ⟨k0, h0, h1, h2⟩
      · rw [okU_true h4 hl hg] at h; cases h
      · exact readNumbers_bad s w k0 h4 hl h0 h1 h2 hE
    · exact readNumbers_form s w (.inr (by omega)) hE
  · exact readNumbers_form s w (.inl h4) hE

end Go.Proofs.YtefnapcegeojoabDoor
