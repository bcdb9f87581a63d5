import Derived.Test.YtefnapcegeojoabDoorRows
import Derived.Test.YtefnapcegeojoabDoorLJournalPart1
import Derived.Test.YtefnapcegeojoabDoorLJournalPart2
import Derived.Test.YtefnapcegeojoabDoorLJournalPart6
import Derived.Test.YtefnapcegeojoabDoorLJournalPart3
import Derived.WalkKit
import Derived.WalkSpells
import Derived.Laws.BytesArg
import Derived.Deep.RegionWith
import Derived.KernelRfl
import Derived.Lib.SmallJoins
import Derived.Test.YtefnapcegeojoabDoorLJournalPart4
import Derived.Test.YtefnapcegeojoabDoorLJournalPart5
import Derived.LoopN
import Derived.Defers
import Derived.Deep.RegionHeld3
import Derived.Deep.RegionLawGrows
import Derived.Lib.Walk
import Derived.Lib.SliceRun
import Derived.Lib.AppendZerosOnto

/- Contracts of SealRecord, of the program and of its model. -/
namespace Go.Proofs.YtefnapcegeojoabDoor
open Go.RowKit
set_option linter.unusedVariables false
set_option maxRecDepth 100000

/-- 'string(head[:2])', 'string(head[:])', head an array of four bytes. -/
theorem arr2 (W : World) (g : Nat) (a b c d : Int) (h : W.heap.size = g) : (convert 39 9 (.slice (some ⟨g, 0, none⟩) 2 4)).run Tryd.prog (W.alloc (.cells #[.int .u8 a, .int .u8 b, .int .u8 c, .int .u8 d] 159)) = .ok (.string (strOfNums [a, b])) (W.alloc (.cells #[.int .u8 a, .int .u8 b, .int .u8 c, .int .u8 d] 159)) := by
  subst h
  refine run_convert_bytes_arg _ 39 5 Tryd.underlying39 Tryd.underlying5 W.heap.size 0 2 4 [a, b] rfl ?_ 9 Tryd.underlying9
  intro i hi
  rcases (show i = 0 ∨ i = 1 by omega) with rfl | rfl <;> simp [go_sem, List.getD]
theorem arr4 (W : World) (g : Nat) (a b c d : Int) (h : W.heap.size = g) : (convert 39 9 (.slice (some ⟨g, 0, none⟩) 4 4)).run Tryd.prog (W.alloc (.cells #[.int .u8 a, .int .u8 b, .int .u8 c, .int .u8 d] 159)) = .ok (.string (strOfNums [a, b, c, d])) (W.alloc (.cells #[.int .u8 a, .int .u8 b, .int .u8 c, .int .u8 d] 159)) := by
  subst h
  refine run_convert_bytes_arg _ 39 5 Tryd.underlying39 Tryd.underlying5 W.heap.size 0 4 4 [a, b, c, d] rfl ?_ 9 Tryd.underlying9
  intro i hi
  rcases (show i = 0 ∨ i = 1 ∨ i = 2 ∨ i = 3 by omega) with rfl | rfl | rfl | rfl <;> simp [go_sem, List.getD]
theorem sum_impl (k : Int) (xs : List Int) (w : World) (hl : xs.length ≤ 16) : Calls Tryd.prog 132 #[.string (strOfNums [k, (xs.length : Int)] ++ packS xs)] w fun e w' => e = .returned (.int .i64 (sumR k xs)) ∧ w' = w := by
  have h := sumOf_impl (sumT k xs) w (by rw [sumT_size]; omega)
  rw [sumC_short (by rw [sumT_size]; omega)] at h
  exact h

set_option maxHeartbeats 1600000 in
theorem sealRecord_impl (k : Int) (ao : Option Addr) (cap : Nat) (xs : List Int) (w : World) (hl : xs.length ≤ 1048576) (hc : Is w ao xs) :
    Calls Tryd.prog 103 #[.int .i64 k, .slice ao xs.length cap] w fun e w' => e = .returned (.tuple #[.string (sealT k xs), .int .i64 (sealC k xs)]) ∧ Below w.heap.size w w' := by
  have HC := hide hc
  clear hc
  by_cases h2 : listC xs = 0
  · have HL := hide h2
    have hb : (listC xs != 0) = false := by simp [h2]
    have HP := hide (intsB_parts (listC_zero h2))
    clear h2
    by_cases h3 : kindB k = true
    · have HF := hide (sealC_ok (unhide HL) h3)
      obtain ⟨hk0, hk1⟩ := kindB_in h3
      have hl16 := (unhide HP).2
      have hp := packS_size xs
      have hs2 : (strOfNums [k, (xs.length : Int)]).size = 2 := strOfNums_size _
      have hs4 : (strOfNums [k, (xs.length : Int), sumR k xs, 0]).size = 4 := strOfNums_size _
      obtain ⟨hr0, hr1⟩ := sumR_in k xs
      go_enter Tryd.func103, Tryd.ntmps103
      go_wp2_with (first | (go_at_call 129; refine (listFault_any _ _ xs _ hl (unhide HC)).mono ?_; rintro e w' ⟨rfl, rfl⟩) | (go_at_call 130; refine (kindOK_any _ _).mono ?_; rintro e w' ⟨rfl, rfl⟩) | (go_at_call 131; refine (packNumbers_any _ _ xs _ (unhide HP).2 (unhide HP).1 (unhide HC)).mono ?_; rintro e w1 ⟨rfl, hb1⟩; have HB1 := hide hb1; clear hb1; have hc2 := arr2 w1 w1.heap.size k xs.length 0 0 rfl) | (go_at_call 132; refine (sum_impl k xs _ hl16).mono ?_; rintro e w' ⟨rfl, rfl⟩; have hc4 := arr4 w1 w1.heap.size k xs.length (sumR k xs) 0 rfl))
      go_ret2
      exact ⟨ret_si (sealT_ok (unhide HF)).symm (unhide HF).symm, fr (unhide HB1) (Joins.below_alloc1 _ _)⟩
    · have h4 : kindB k = false := by simpa using h3
      have HF := hide (sealC_kind (unhide HL) h4)
      clear h3
      go_enter Tryd.func103, Tryd.ntmps103
      go_wp2_with (first | (go_at_call 129; refine (listFault_any _ _ xs _ hl (unhide HC)).mono ?_; rintro e w' ⟨rfl, rfl⟩) | (go_at_call 130; refine (kindOK_any _ _).mono ?_; rintro e w' ⟨rfl, rfl⟩))
      go_ret2
      exact ⟨ret_si (sealT_no (by rw [unhide HF]; decide)).symm (unhide HF).symm, Below.refl _ _⟩
  · have HF := hide (sealC_list (k := k) h2)
    have HNE := hide h2
    have hb : (listC xs != 0) = true := by simp [h2]
    clear h2
    go_enter Tryd.func103, Tryd.ntmps103
    go_wp2_with (go_at_call 129; refine (listFault_any _ _ xs _ hl (unhide HC)).mono ?_; rintro e w' ⟨rfl, rfl⟩)
    go_ret2
    exact ⟨ret_si (sealT_no (by rw [unhide HF]; exact unhide HNE)).symm (unhide HF).symm, Below.refl _ _⟩

end Go.Proofs.YtefnapcegeojoabDoor

/- Contracts of the program's updates: SlotOf, updateOK, text, EncodeUpdate. -/
namespace Go.Proofs.YtefnapcegeojoabDoor
open Go.RowKit
set_option linter.unusedVariables false
set_option maxRecDepth 100000

theorem within_inJ (n low high : Int) (w : World) : Calls Tryd.prog 121 #[.int .i64 n, .int .i64 low, .int .i64 high] w fun e w' => e = .returned (.bool (inB n low high)) ∧ w' = w := within_any n low high w

theorem slotOf_impl (h : Int) (w : World) : Calls Tryd.prog 47 #[.int .i64 h] w fun e w' => e = .returned (.tuple #[.int .i64 (slR h), .int .i64 (slC h)]) ∧ w' = w := by
  go_enter Tryd.func47, Tryd.ntmps47
  go_wp2_with fail
  refine (hostOK_any h _).mono ?_
  rintro e w1 ⟨rfl, rfl⟩
  by_cases hh : inB h 0 3 = true
  · have HE : Hid (slR h = slN h ∧ slC h = 0) := hide ⟨if_pos hh, if_pos hh⟩
    have h1 : 0 ≤ h ∧ h ≤ 3 := by simpa [inB] using hh
    have wr1 : IntKind.i64.wrap (6 * h) = 6 * h := by rw [IntKind.wrap_i64]; omega
    have wr2 : IntKind.i64.wrap (39 + 6 * h) = 39 + 6 * h := by rw [IntKind.wrap_i64]; omega
    clear h1
    go_wp2
    go_ret2
    exact ⟨ret_two2 (unhide HE).1.symm (unhide HE).2.symm, rfl⟩
  · have HE : Hid (slR h = 0 ∧ slC h = 4) := hide ⟨if_neg hh, if_neg hh⟩
    rw [Bool.not_eq_true] at hh
    go_wp2
    go_ret2
    exact ⟨ret_two2 (unhide HE).1.symm (unhide HE).2.symm, rfl⟩

set_option maxHeartbeats 1600000 in
theorem updateOK_any (u : Up) (w : World) (hz : u.data.size ≤ maxLen) : Calls Tryd.prog 87 #[uV u] w fun e w' => e = .returned (.bool (upB u)) ∧ Below w.heap.size w w' := by
  unfold maxLen at hz
  go_enter Tryd.func87, Tryd.ntmps87
  go_wp2_with fail
  refine (within_inJ u.at_ 9 38 _).mono ?_
  rintro e w1 ⟨rfl, rfl⟩
  by_cases h1 : inB u.at_ 9 38 = false
  · have hr : Hid (upB u = false) := hide (by simp [upB, h1])
    go_wp2
    go_ret
    rw [unhide hr]
    exact ⟨rfl, Joins.below_alloc1 _ _⟩
  rw [Bool.not_eq_false] at h1
  have hr : Hid (upB u = decide ((u.data.size : Int) ≤ 72)) := hide (by simp [upB, h1]; omega)
  go_wp2
  go_ret
  rw [unhide hr]
  exact ⟨rfl, Joins.below_alloc1 _ _⟩

end Go.Proofs.YtefnapcegeojoabDoor

/- Contracts of the program's plans: flush, addSure, planOf, head, changes, toApply. -/
namespace Go.Proofs.YtefnapcegeojoabDoor
open Go.RowKit
set_option linter.unusedVariables false
set_option maxRecDepth 100000

theorem infoMx : (Tryd.prog.info? 76).map (fun i => (i.zero, i.size, i.bytes)) = some (some (.agg #[.int .i64 0, .int .i64 0, .string ⟨#[]⟩]), 3, 32) := by kernel_rfl
/-- A plan in a variable. -/
def VarPl (w : World) (x : Nat) (v : Value) : Prop := w.heap[x]? = some (.cells #[v] 151 (0, 0))
theorem VarPl.lt {w : World} {x : Nat} {v : Value} (h : VarPl w x v) : x < w.heap.size := (Array.getElem?_eq_some_iff.1 h).1
theorem VarPl.cell {w : World} {x : Nat} {v : Value} (h : VarPl w x v) : w.cell? ⟨x, 0, none⟩ = some v ∧ w.frozen? ⟨x, 0, none⟩ = false := ⟨by rw [Joins.cell_of_block h]; rfl, Joins.unfrozen_of_block h 0⟩
theorem VarPl.below {w w' : World} {x : Nat} {v : Value} (h : VarPl w x v) (hb : Below w.heap.size w w') : VarPl w' x v := by
  unfold VarPl; rw [hb.block x h.lt]; exact h
theorem VarPl.keep {S : Nat → Prop} {w w' : World} {x : Nat} {v : Value} (h : VarPl w x v) (hk : Keep S w w') (hs : ¬ S x) : VarPl w' x v := by
  unfold VarPl; rw [hk.block x h.lt hs]; exact h
theorem VarPl.new (w : World) (v : Value) : VarPl (w.alloc (.cells #[v] 151)) w.heap.size v := heap_alloc_new w _
theorem VarPl.set {w : World} {x : Nat} {v : Value} (h : VarPl w x v) (u : Value) : VarPl (w.setCell ⟨x, 0, none⟩ u) x u := Joins.block_setCell h u
theorem pl_ne : (151 : Nat) ≠ 76 := by decide
theorem ApS.setX {w W : World} {qo : Option Addr} {n qa x : Nat} {ms : List Wr} {v : Value} (h : ApS w W qo n qa ms) (hx : VarPl W x v) (hle : w.heap.size ≤ x) (u : Value) : ApS w (W.setCell ⟨x, 0, none⟩ u) qo n qa ms :=
  ⟨h.o.keep ((Keep.refl (fun k => k = x) W).setCell (p := ⟨x, 0, none⟩) rfl u) (fun g hg e => h.o.other hx pl_ne (e ▸ hg)), h.k.setCell (p := ⟨x, 0, none⟩) hle u⟩

set_option maxHeartbeats 1600000 in
theorem flush_d (w0 W : World) (x : Nat) (qo : Option Addr) (n qa : Nat) (ms : List Wr) (u : FrameMode) (ha : ApS w0 W qo n qa ms) (hx : VarPl W x (.slice qo n qa)) (hle : w0.heap.size ≤ x) (hn : n ≤ 1000) :
    CallsD Tryd.prog 140 #[.pointer (some ⟨x, 0, none⟩)] u W fun e u' W' => u' = u ∧ e = .returned (.tuple #[]) ∧ ∃ g qa', VarPl W' x (.slice (some ⟨g, 0, none⟩) (n + 1) qa') ∧ ApS w0 W' (some ⟨g, 0, none⟩) (n + 1) qa' (ms ++ [mvF]) := by
  obtain ⟨i0, hi, hz0, hz1, hz2⟩ := info_parts infoMx
  obtain ⟨hc, hf⟩ := hx.cell
  have hxl := hx.lt
  have HX := hide (hx.below (Joins.below_alloc1 W (.cells #[.int .i64 2, .int .i64 0, .string ⟨#[]⟩] 76)))
  have HA := hide (ha.next (Joins.below_alloc1 W (.cells #[.int .i64 2, .int .i64 0, .string ⟨#[]⟩] 76)))
  have HSZ := hide (unhide HA).sz
  clear hx ha
  go_enter_d Tryd.func140, Tryd.ntmps140
  go_wp2_with (at_builtin; refine wpList_append_one rfl _ _ 27 rfl w0.heap.size 76 i0 (.agg #[.int .i64 0, .int .i64 0, .string ⟨#[]⟩]) 3 32 Tryd.underlying27 hi hz0 hz1 hz2 rfl (by omega) qo n qa (ioV ms) rfl (unhide HA).o (unhide HSZ) ⟨W.heap.size, 0, none⟩ _ (wrV mvF) rfl rfl (news3 W mvF _) (wrV_one _) (by unfold maxLen; omega) (by omega) ?_; intro g2 cap2 wA hoA hkA; have HVA := hide ((unhide HX).keep hkA ((unhide HA).o.other (unhide HX) pl_ne)); have HN := hide (ApS.one (unhide HA) hoA hkA); obtain ⟨hcA, hfA⟩ := (unhide HVA).cell; clear hoA hkA)
  go_end0
  exact ⟨rfl, g2, cap2, (unhide HVA).set _, (unhide HN).setX (unhide HVA) hle _⟩

set_option maxHeartbeats 1600000 in
theorem addSure_any (w0 W : World) (x : Nat) (qo : Option Addr) (n qa : Nat) (ms : List Wr) (ao : Option Addr) (cap m : Nat) (ws : List Wr) (ha : ApS w0 W qo n qa ms) (hx : VarPl W x (.slice qo n qa)) (hle : w0.heap.size ≤ x) (hw : Ios W ao ws) (hm : m = ws.length) (hp : 0 < m) (hn : n ≤ 100) (hl : m ≤ 100) :
    Calls Tryd.prog 118 #[.pointer (some ⟨x, 0, none⟩), .slice ao m cap] W fun e W' => e = .returned (.tuple #[]) ∧ ∃ g qa', VarPl W' x (.slice (some ⟨g, 0, none⟩) (n + m + 1) qa') ∧ ApS w0 W' (some ⟨g, 0, none⟩) (n + m + 1) qa' (ms ++ ws ++ [mvF]) := by
  obtain ⟨i0, hi, hz0, hz1, hz2⟩ := info_parts infoMx
  obtain ⟨hc, hf⟩ := hx.cell
  have hxl := hx.lt
  have HX := hide hx
  have HA := hide ha
  have HW := hide (hw.src (by omega))
  have HL : Hid ((ioV ws).length = m * 3) := hide (by rw [ioV_length, hm])
  have HSZ := hide ha.sz
  clear hx ha hw hm
  go_enter_defers Tryd.func118, Tryd.ntmps118
  go_wp2_with (at_builtin; refine wpList_append_many rfl _ _ 27 rfl w0.heap.size 76 i0 (.agg #[.int .i64 0, .int .i64 0, .string ⟨#[]⟩]) 3 32 Tryd.underlying27 hi hz0 hz1 hz2 rfl (by omega) qo n qa (ioV ms) rfl (unhide HA).o (unhide HSZ) ao m cap (ioV ws) rfl hp (unhide HL) (fun _ => unhide HW) (ioV_one _) (by unfold maxLen; omega) (by omega) ?_; intro g2 cap2 wA hoA hkA; have HVA := hide ((unhide HX).keep hkA ((unhide HA).o.other (unhide HX) pl_ne)); have HN := hide (ApS.app (unhide HA) rfl (by omega) hoA hkA); obtain ⟨hcA, hfA⟩ := (unhide HVA).cell; clear hoA hkA)
  refine leaves_cons (f := 140) (args := #[.pointer (some ⟨x, 0, none⟩)]) (by simp) (by simp [go_sem]) ?_
  refine (flush_d w0 _ x (some ⟨g2, 0, none⟩) (n + m) cap2 (ms ++ ws) _ ((unhide HN).setX (unhide HVA) hle _) ((unhide HVA).set _) hle (by omega)).mono ?_
  rintro e u' w'' ⟨rfl, rfl, g, qa', hv, hap⟩
  have HV2 := hide hv
  have HA2 := hide hap
  clear hv hap
  simp [Leaves, settle, results, Tryd.results118, go_sem]
  exact ⟨g, qa', unhide HV2, by simpa using unhide HA2⟩

/-- The parts of a plan, as a row of slices shows them. -/
structure Part where
  ao : Option Addr
  cap : Nat
  ws : List Wr
def Parts (w : World) (p : Nat) (ps : List Part) : Prop := ∀ i (h : i < ps.length), w.cell? ⟨p, i, none⟩ = some (.slice ps[i].ao ps[i].ws.length ps[i].cap) ∧ Ios w ps[i].ao ps[i].ws ∧ 0 < ps[i].ws.length ∧ ps[i].ws.length ≤ 20
def plM (ps : List Part) : List Wr := ps.flatMap fun q => q.ws ++ [mvF]
theorem plM_succ {ps : List Part} {k : Nat} (h : k < ps.length) : plM (ps.take (k + 1)) = plM (ps.take k) ++ ps[k].ws ++ [mvF] := by
  unfold plM
  rw [List.take_succ_eq_append_getElem h, List.flatMap_append]
  simp only [List.flatMap_cons, List.flatMap_nil, List.append_nil, List.append_assoc]

set_option maxHeartbeats 1600000 in
theorem planOf_any (p cap : Nat) (ps : List Part) (w : World) (hl : ps.length ≤ 2) (hp : Parts w p ps) :
    Calls Tryd.prog 79 #[.slice (some ⟨p, 0, none⟩) ps.length cap] w fun e w' => ∃ qo n qa, e = .returned (.slice qo n qa) ∧ ApS w w' qo n qa (plM ps) := by
  have HP := hide hp
  clear hp
  have HA0 : Hid (ApS w (w.alloc (.cells #[.slice none 0 0] 151)) none 0 0 (plM (ps.take 0))) := hide ⟨.inl ⟨rfl, rfl, _, rfl⟩, Joins.below_alloc1 _ _⟩
  have HV0 := hide (VarPl.new w (.slice none 0 0))
  go_enter Tryd.func79, Tryd.ntmps79
  go_wp2
  go_loopw [8] (fun i wr => ∃ (k : Nat) (qo : Option Addr) (n qa : Nat), k ≤ ps.length ∧ i = .int .i64 k ∧ n ≤ k * 21 ∧ Hid (VarPl wr w.heap.size (.slice qo n qa)) ∧ Hid (ApS w wr qo n qa (plM (ps.take k)))) (fun i _ => ps.length - (intOf i).toNat)
  case atStart => exact ⟨0, _, 0, _, Nat.zero_le _, rfl, Nat.zero_le _, HV0, HA0⟩
  case round =>
    obtain ⟨k, qo, n, qa, hk, rfl, hn, HV, HA⟩ := hrel
    by_cases hlt : k < ps.length
    · obtain ⟨hc, hios, hp0, hp5⟩ := unhide HP k hlt
      have hcr := ((unhide HA).k.cell (p := ⟨p, k, none⟩) (World.block_lt_of_cell? _ _ hc)).trans hc
      have HI := hide (hios.below (unhide HA).k)
      have hq : k * 21 ≤ 42 := by omega
      obtain ⟨M, hM⟩ : ∃ M, M = ps[k].ws.length := ⟨_, rfl⟩
      rw [← hM] at hcr hp0 hp5
      have HM := hide hM
      clear hc hios hM
      go_wp2_with fail
      refine (addSure_any w _ w.heap.size qo n qa (plM (ps.take k)) ps[k].ao ps[k].cap M ps[k].ws (unhide HA) (unhide HV) (Nat.le_refl _) (unhide HI) (unhide HM) hp0 (by omega) (by omega)).mono ?_
      rintro e w2 ⟨rfl, g, qa', hv, ha⟩
      have HV2 := hide hv
      have HA2 : Hid (ApS w w2 (some ⟨g, 0, none⟩) (n + M + 1) qa' (plM (ps.take (k + 1)))) := hide (by rw [plM_succ hlt]; exact ha)
      clear hv ha
      go_wp2
      go_roundw
      case rel => exact ⟨k + 1, _, _, _, by omega, by go_num, by omega, HV2, HA2⟩
      case measure => simp [intOf]; omega
    · have hke : k = ps.length := by omega
      subst hke
      have HA1 : Hid (ApS w wr qo n qa (plM ps)) := hide (by have := unhide HA; rwa [List.take_of_length_le (Nat.le_refl _)] at this)
      obtain ⟨hc, _⟩ := (unhide HV).cell
      go_wp2
      go_ret
      exact ⟨_, _, _, rfl, unhide HA1⟩

end Go.Proofs.YtefnapcegeojoabDoor

/- Contracts of the program's journals: head, changes, toApply. -/
namespace Go.Proofs.YtefnapcegeojoabDoor
open Go.RowKit
set_option linter.unusedVariables false
set_option maxRecDepth 100000

abbrev jV (slot seq : Int) (ao : Option Addr) (n cap : Nat) : Value := .agg #[.int .i64 slot, .int .i64 seq, .slice ao n cap]
/-- A journal in a variable. -/
def VarJ (w : World) (x : Nat) (t : TypeId) (slot seq : Int) (v : Value) : Prop := w.heap[x]? = some (.cells #[.int .i64 slot, .int .i64 seq, v] t (0, 0))
theorem VarJ.lt {w : World} {x : Nat} {t : TypeId} {slot seq : Int} {v : Value} (h : VarJ w x t slot seq v) : x < w.heap.size := (Array.getElem?_eq_some_iff.1 h).1
theorem VarJ.cells {w : World} {x : Nat} {t : TypeId} {slot seq : Int} {v : Value} (h : VarJ w x t slot seq v) : w.cell? ⟨x, 0, none⟩ = some (.int .i64 slot) ∧ w.cell? ⟨x, 1, none⟩ = some (.int .i64 seq) ∧ w.cell? ⟨x, 2, none⟩ = some v := ⟨by rw [Joins.cell_of_block h]; rfl, by rw [Joins.cell_of_block h]; rfl, by rw [Joins.cell_of_block h]; rfl⟩
theorem VarJ.free {w : World} {x : Nat} {t : TypeId} {slot seq : Int} {v : Value} (h : VarJ w x t slot seq v) (i : Nat) : w.frozen? ⟨x, i, none⟩ = false := Joins.unfrozen_of_block h i
theorem VarJ.below {w w' : World} {x : Nat} {t : TypeId} {slot seq : Int} {v : Value} (h : VarJ w x t slot seq v) (hb : Below w.heap.size w w') : VarJ w' x t slot seq v := by
  unfold VarJ; rw [hb.block x h.lt]; exact h
theorem VarJ.new (w : World) (t : TypeId) (slot seq : Int) (v : Value) : VarJ (w.alloc (.cells #[.int .i64 slot, .int .i64 seq, v] t)) w.heap.size t slot seq v := heap_alloc_new w _
theorem ios_one (w : World) (n : Nat) (x : Wr) (t : TypeId) (hn : w.heap.size = n) (hz : x.data.size ≤ maxLen) : Ios (w.alloc (.cells #[.int .i64 x.host, .int .i64 x.at_, .string x.data] t)) (some ⟨n, 0, none⟩) [x] := by
  subst hn
  intro i hi
  have hi' : i < 1 := hi
  rcases (show i = 0 by omega) with rfl
  exact ⟨w.heap.size, 0, rfl, by simp [go_sem], by simp [go_sem], by simp [go_sem], hz⟩

set_option maxHeartbeats 1600000 in
theorem head_any (slot seq : Int) (ao : Option Addr) (n cap : Nat) (c : Int) (w : World) (hc : 0 ≤ c ∧ c ≤ 5) (hs : numB seq = true) :
    Calls Tryd.prog 81 #[jV slot seq ao n cap, .int .i64 c] w fun e w' => ∃ qo, e = .returned (.slice qo 1 1) ∧ Ios w' qo [mvH slot c seq] ∧ Below w.heap.size w w' := by
  have HD := hide (hd_seal hc hs)
  have HA := hide (Joins.below_alloc1 w (.cells #[.int .i64 slot, .int .i64 seq, .slice ao n cap] 70))
  have HV := hide ((VarJ.new w 70 slot seq (.slice ao n cap)).below (Joins.below_alloc1 _ (.cells #[.int .i64 c, .int .i64 seq] 3)))
  clear hc hs
  go_enter Tryd.func81, Tryd.ntmps81
  go_wp2_with fail
  refine (sealRecord_impl 7 _ 2 [c, seq] _ (by simp) (is2 _ _ _ _ _ (by simp))).mono ?_
  rintro e w1 ⟨rfl, hb⟩
  have HB := hide (fr (belowAl (unhide HA) _) hb)
  obtain ⟨c0, c1, c2⟩ := ((unhide HV).below hb).cells
  clear hb
  rw [(unhide HD).1, (unhide HD).2]
  go_wp2
  go_ret
  exact ⟨_, rfl, ios_one w1 _ (mvH slot c seq) _ (by simp) (by show (hdT c seq).size ≤ maxLen; rw [hdT_size]; unfold maxLen; omega), belowAl (unhide HB) _⟩

set_option maxHeartbeats 3200000 in
theorem changes_any (slot seq : Int) (ao : Option Addr) (cap : Nat) (us : List Up) (w : World) (hl : us.length ≤ 5) (hu : Ups w ao us) :
    Calls Tryd.prog 80 #[jV slot seq ao us.length cap] w fun e w' => ∃ qo qa, e = .returned (.slice qo us.length qa) ∧ ApS w w' qo us.length qa (chL us) := by
  have HU := hide hu
  clear hu
  obtain ⟨i0, hi, hz0, hz1, hz2⟩ := info_parts infoMx
  have HV := hide (VarJ.new w 70 slot seq (.slice ao us.length cap))
  have H0 : Hid (ApS w (w.alloc (.cells #[.int .i64 slot, .int .i64 seq, .slice ao us.length cap] 70)) none 0 0 []) := hide ⟨.inl ⟨rfl, rfl, _, rfl⟩, Joins.below_alloc1 _ _⟩
  go_enter Tryd.func80, Tryd.ntmps80
  go_wp2
  go_loopw [3, 9] (fun o i wr => ∃ (k : Nat) (qo : Option Addr) (qa : Nat), k ≤ us.length ∧ i = .int .i64 k ∧ o = .slice qo k qa ∧ Hid (ApS w wr qo k qa ((chL us).take k))) (fun _ i _ => us.length - (intOf i).toNat)
  case atStart => exact ⟨0, _, _, Nat.zero_le _, rfl, rfl, H0⟩
  case round =>
    obtain ⟨k, qo, qa, hk, rfl, rfl, HA⟩ := hrel
    by_cases hlt : k < us.length
    · obtain ⟨b, off, rfl, hc0, hc1, hcz⟩ := (unhide HU).below (unhide HA).k k hlt
      have hbl := World.block_lt_of_cell? _ _ hc0
      clear hcz
      have HAA := hide (((unhide HA).next (Joins.below_alloc1 wr (.cells #[.int .i64 us[k].at_, .string us[k].data] 49))).next (Joins.below_alloc1 _ (.cells #[.int .i64 1, .int .i64 us[k].at_, .string us[k].data] 76)))
      have HSZ := hide (unhide HAA).sz
      go_wp2_with (at_builtin; refine wpList_append_one rfl _ _ 27 rfl w.heap.size 76 i0 (.agg #[.int .i64 0, .int .i64 0, .string ⟨#[]⟩]) 3 32 Tryd.underlying27 hi hz0 hz1 hz2 rfl (by omega) qo k qa (ioV ((chL us).take k)) rfl (unhide HAA).o (unhide HSZ) ⟨wr.heap.size + 1, 0, none⟩ _ (wrV (mvW us[k])) rfl rfl (news3_at _ _ (mvW us[k]) _ (by simp)) (wrV_one _) (by unfold maxLen; omega) (by omega) ?_; intro g2 cap2 wA hoA hkA; have HN := hide (ApS.one (unhide HAA) hoA hkA); clear hoA hkA)
      go_roundw
      case rel => exact ⟨k + 1, _, _, by omega, by go_num, rfl, hide (by rw [chL_take hlt]; exact unhide HN)⟩
      case measure => simp [intOf]; omega
    · have hke : k = us.length := by omega
      subst hke
      have HA1 : Hid (ApS w wr qo us.length qa (chL us)) := hide (by have := unhide HA; rwa [chL_done (Nat.le_refl _)] at this)
      go_wp2
      go_ret
      exact ⟨_, _, rfl, unhide HA1⟩

set_option maxHeartbeats 1600000 in
theorem place_any (slot seq : Int) (ao : Option Addr) (n cap k : Nat) (w : World) (hs : 0 ≤ slot ∧ slot ≤ 1000) (hk : k ≤ 1000) :
    Calls Tryd.prog 78 #[jV slot seq ao n cap, .int .i64 k] w fun e w' => e = .returned (.int .i64 (slot + 1 + k)) ∧ Below w.heap.size w w' := by
  have wr1 : IntKind.i64.wrap (slot + 1) = slot + 1 := by rw [IntKind.wrap_i64]; omega
  have wr2 : IntKind.i64.wrap (slot + 1 + (k : Int)) = slot + 1 + (k : Int) := by rw [IntKind.wrap_i64]; omega
  go_enter Tryd.func78, Tryd.ntmps78
  go_wp2
  go_ret
  exact ⟨rfl, Joins.below_alloc1 _ _⟩

/-- Two parts in a new row. -/
theorem parts_two (w : World) (n : Nat) (t : TypeId) (p q : Part) (hn : w.heap.size = n) (hp : Ios w p.ao p.ws ∧ 0 < p.ws.length ∧ p.ws.length ≤ 20) (hq : Ios w q.ao q.ws ∧ 0 < q.ws.length ∧ q.ws.length ≤ 20) :
    Parts (w.alloc (.cells #[.slice p.ao p.ws.length p.cap, .slice q.ao q.ws.length q.cap] t)) n [p, q] := by
  subst hn
  intro i hi
  have hi' : i < 2 := hi
  rcases (show i = 0 ∨ i = 1 by omega) with rfl | rfl
  · exact ⟨by simp [go_sem], hp.1.below (Joins.below_alloc1 _ _), hp.2.1, hp.2.2⟩
  · exact ⟨by simp [go_sem], hq.1.below (Joins.below_alloc1 _ _), hq.2.1, hq.2.2⟩

set_option maxHeartbeats 3200000 in
theorem toApply_any (slot seq : Int) (ao : Option Addr) (cap : Nat) (us : List Up) (w : World) (hl : us.length ≤ 5) (hs : us.length ≠ 0 → numB seq = true) (hub : upsB us = true) (hu : Ups w ao us) :
    Calls Tryd.prog 38 #[jV slot seq ao us.length cap] w fun e w' => ∃ qo n qa, e = .returned (.slice qo n qa) ∧ ApS w w' qo n qa (rpL slot seq us) := by
  have HA := hide (Joins.below_alloc1 w (.cells #[.int .i64 slot, .int .i64 seq, .slice ao us.length cap] 70))
  have HV := hide (VarJ.new w 70 slot seq (.slice ao us.length cap))
  by_cases h0 : us.length = 0
  · have hb0 : (((us.length : Nat) : Int) == 0) = true := by simp [h0]
    have HE : Hid (rpL slot seq us = []) := hide (if_pos h0)
    clear h0 hs hu hub
    go_enter Tryd.func38, Tryd.ntmps38
    go_wp2
    go_ret
    exact ⟨_, _, _, rfl, by rw [unhide HE]; exact ⟨.inl ⟨rfl, rfl, _, rfl⟩, unhide HA⟩⟩
  have hb0 : (((us.length : Nat) : Int) == 0) = false := by rw [beq_eq_false_iff_ne]; omega
  have HE : Hid (rpL slot seq us = apL slot seq us) := hide (if_neg h0)
  have HS := hide (hs h0)
  have HU := hide hu
  have HUB := hide hub
  have HPM : Hid (∀ po pa qo qa, plM [⟨po, pa, chL us⟩, ⟨qo, qa, [mvH slot 0 seq]⟩] = apL slot seq us) := hide (fun _ _ _ _ => by simp [plM, apL])
  have HPC : Hid (0 < (chL us).length ∧ (chL us).length ≤ 20) := hide (by rw [chL_length]; omega)
  clear hs hu hub
  obtain ⟨c0, c1, c2⟩ := (unhide HV).cells
  go_enter Tryd.func38, Tryd.ntmps38
  go_wp2
  go_region_held3 (fun w' => w'.cell? ⟨w.heap.size, 0, none⟩ = some (.int .i64 slot) ∧ w'.cell? ⟨w.heap.size, 1, none⟩ = some (.int .i64 seq) ∧ w'.cell? ⟨w.heap.size, 2, none⟩ = some (.slice ao us.length cap)) (go_keep)
    (first
      | (go_at_call 80; refine (changes_any slot seq ao cap us _ hl (by exact ((unhide HU).below (unhide HA)).below (Below.refl _ _).drew)).mono ?_; rintro e w2 ⟨po, pa, rfl, hap⟩; have HB2 := hide (fr (Below.refl _ _).drew hap.k); have HI2 : Hid (Ios w2 po (chL us)) := hide (ownMv (by have := hap.o; rwa [← chL_length us] at this) (short_ch (unhide HUB)).sizes); obtain ⟨d0, d1, d2⟩ := ((unhide HV).below (unhide HB2)).cells; clear hap)
      | (go_at_call 81; refine (head_any slot seq ao us.length cap 0 _ (by omega) (unhide HS)).mono ?_; rintro e w3 ⟨qo, rfl, hi3, hb3⟩; have HB3 := hide (fr (unhide HB2) hb3); have HI3 := hide hi3; have HI23 := hide ((unhide HI2).below hb3); obtain ⟨e0, e1, e2⟩ := ((unhide HV).below (unhide HB3)).cells; have hlt3 := ((unhide HV).below (unhide HB3)).lt; clear hi3 hb3)
      | (go_at_call 79; rw [show Value.slice (some ⟨w3.heap.size, 0, none⟩) 2 2 = .slice (some ⟨w3.heap.size, 0, none⟩) [(⟨po, pa, chL us⟩ : Part), ⟨qo, 1, [mvH slot 0 seq]⟩].length 2 from rfl]; refine (planOf_any w3.heap.size 2 [⟨po, pa, chL us⟩, ⟨qo, 1, [mvH slot 0 seq]⟩] _ (by simp) (by have := parts_two w3 w3.heap.size 27 ⟨po, pa, chL us⟩ ⟨qo, 1, [mvH slot 0 seq]⟩ rfl ⟨unhide HI23, (unhide HPC).1, (unhide HPC).2⟩ ⟨unhide HI3, by simp, by simp⟩; simp only [chL_length] at this; exact this)).mono ?_; rintro e w4 ⟨ro, rn, ra, rfl, hap⟩; have HB4 := hide (fr (unhide HB3) (fr (Joins.below_alloc1 _ _) hap.k)); have HAP := hide hap; obtain ⟨f0, f1, f2⟩ := ((unhide HV).below (unhide HB4)).cells; clear hap))
  all_goals
    have HF : Hid (ApS w w4 ro rn ra (apL slot seq us)) := hide (by
      have := unhide HAP
      rw [unhide HPM] at this
      exact ⟨this.o.base (by have h1 := (unhide HB3).size; have h2 := (unhide HA).size; simp at h1 ⊢; omega), fr (unhide HA) (unhide HB4)⟩)
    go_wp2
    go_ret
    exact ⟨_, _, _, rfl, by rw [unhide HE]; exact unhide HF⟩

end Go.Proofs.YtefnapcegeojoabDoor

/- Contracts of the program's updates: text, EncodeUpdate. -/
namespace Go.Proofs.YtefnapcegeojoabDoor
open Go.RowKit
set_option linter.unusedVariables false
set_option maxRecDepth 100000

set_option maxHeartbeats 1600000 in
theorem text_any (u : Up) (w : World) (hd : upB u = true) : Calls Tryd.prog 123 #[uV u] w fun e w' => e = .returned (.string (encU u)) ∧ Below w.heap.size w w' := by
  have HD := hide (u1_seal hd)
  have hs1 : (sealS 8 [u.at_]).size = 8 := sealS_size 8 [u.at_]
  have hs2 : u.data.size ≤ 72 := (upB_iff.1 hd).2
  have HV := hide ((VarU.new w 49 u).below (Joins.below_alloc1 _ (.cells #[.int .i64 u.at_] 3)))
  clear hd
  go_enter Tryd.func123, Tryd.ntmps123
  go_wp2_with fail
  refine (sealRecord_impl 8 _ 1 [u.at_] _ (by simp) (is1 _ _ _ _ (by simp))).mono ?_
  rintro e w1 ⟨rfl, hb⟩
  have HB := hide hb
  obtain ⟨c0, c1⟩ := ((unhide HV).below hb).cells
  clear hb
  rw [(unhide HD).1, (unhide HD).2]
  go_wp2
  go_ret
  exact ⟨rfl, fr (Joins.below_alloc2 _ _ _) (unhide HB)⟩

end Go.Proofs.YtefnapcegeojoabDoor

/- Contracts of slices.Grow and slices.Concat at moves, and of the program's journals: place, texts. -/
namespace Go.Proofs.YtefnapcegeojoabDoor
open Go.RowKit
set_option linter.unusedVariables false
set_option maxRecDepth 100000

set_option maxHeartbeats 3200000 in
theorem grow_nil (n : Nat) (w : World) (h0 : 0 < n) (hn : n ≤ 100) :
    Calls Tryd.prog 122 #[.slice none 0 0, .int .i64 n] w fun e w' => ∃ g G, e = .returned (.slice (some ⟨g, 0, none⟩) 0 G) ∧ w'.ownsRow w.heap.size 76 3 (.slice (some ⟨g, 0, none⟩) 0 G) 0 [] ∧ Below w.heap.size w w' := by
  obtain ⟨i0, hi, hz0, hz1, hz2⟩ := info_parts infoMx
  have h1 : ¬ ((n : Int) < 0) := by omega
  have h4 : (n : Int) > 0 := by omega
  have hrz : ∀ ty, (Builtin.append_ #[27, 3] ty #[.slice none 0 0, .int .i64 (n : Int)]).run Tryd.prog w =
      .ok (.slice (some ⟨w.heap.size, 0, none⟩) n (grownCap w n 0 76)) (w.drew.alloc (.cells (Builtin.zeroCells (Value.agg #[.int .i64 0, .int .i64 0, .string ⟨#[]⟩]).cells n ++ Builtin.zeroCells (Value.agg #[.int .i64 0, .int .i64 0, .string ⟨#[]⟩]).cells (grownCap w n 0 76 - n)) 76)) := fun ty => by
    have h := Lib.run_append_grow_zeros w 27 3 ty 76 i0 _ .i64 .i64 Tryd.underlying27 Tryd.underlying3 hi hz0 none 0 0 [] (run_firstCells_none w.drew i0.size 0 0 0) n h0 (by rw [hz1]; omega) (by omega) (by omega) (by rw [hz2]; omega) (growslice_fits (by omega) (by rw [hz2]; omega))
    simpa using h
  have hGn : n ≤ grownCap w n 0 76 := grownCap_ge w _ _ _
  have hGm : grownCap w n 0 76 ≤ maxLen := grownCap_le_maxLen w n 0 76 (by unfold maxLen; omega)
  obtain ⟨G, hG⟩ : ∃ G, G = grownCap w n 0 76 := ⟨_, rfl⟩
  rw [← hG] at hrz hGn hGm
  obtain ⟨Z, hZ⟩ : ∃ Z, Z = Builtin.zeroCells (Value.agg #[.int .i64 0, .int .i64 0, .string ⟨#[]⟩]).cells n ++ Builtin.zeroCells (Value.agg #[.int .i64 0, .int .i64 0, .string ⟨#[]⟩]).cells (G - n) := ⟨_, rfl⟩
  have hZs : Z.size = G * 3 := by rw [hZ, Array.size_append, size_zeroCells, size_zeroCells, show (Value.agg #[.int .i64 0, .int .i64 0, .string ⟨#[]⟩]).cells.size = 3 from rfl]; omega
  rw [← hZ] at hrz
  have HO : Hid ((w.drew.alloc (.cells Z 76)).ownsRow w.heap.size 76 3 (.slice (some ⟨w.heap.size, 0, none⟩) 0 G) 0 []) := hide ⟨rfl, .inr ⟨w.heap.size, G, Z, rfl, Nat.le_refl _, heap_alloc_new w.drew _, Nat.zero_le _, hGm, hZs, by simp⟩⟩
  have hG63 : (G : Int) ≤ 9223372036854775807 := by unfold maxLen at hGm; omega
  have HR := hide hrz
  clear hG hZ hZs hrz hGm
  go_enter Tryd.func122, Tryd.ntmps122
  go_wp2_with (at_builtin; refine Lib.wpList_append_run _ rfl _ _ _ _ rfl _ _ rfl rfl _ _ (unhide HR _) ?_)
  go_ret
  exact ⟨_, _, rfl, unhide HO, belowAl (Below.refl _ _).drew _⟩

def catL (ps : List Part) : List Wr := ps.flatMap fun q => q.ws
theorem catL_succ {ps : List Part} {k : Nat} (h : k < ps.length) : catL (ps.take (k + 1)) = catL (ps.take k) ++ ps[k].ws := by
  unfold catL
  rw [List.take_succ_eq_append_getElem h, List.flatMap_append]
  simp only [List.flatMap_cons, List.flatMap_nil, List.append_nil]
theorem owns_ge {w : World} {B e size g n cap : Nat} {xs : List Value} (h : w.ownsRow B e size (.slice (some ⟨g, 0, none⟩) n cap) n xs) : B ≤ g := by
  rcases h.2 with ⟨e0, _⟩ | ⟨g', cap', cur, e0, hB, _⟩
  · cases e0
  · cases e0; exact hB

set_option maxHeartbeats 3200000 in
theorem concat_any (p cap : Nat) (ps : List Part) (w : World) (hl : ps.length ≤ 2) (h0 : 0 < ps.length) (hp : Parts w p ps) :
    Calls Tryd.prog 88 #[.slice (some ⟨p, 0, none⟩) ps.length cap] w fun e w' => ∃ qo n qa, e = .returned (.slice qo n qa) ∧ ApS w w' qo n qa (catL ps) := by
  have HP := hide hp
  clear hp
  obtain ⟨i0, hi, hz0, hz1, hz2⟩ := info_parts infoMx
  go_enter Tryd.func88, Tryd.ntmps88
  go_wp2
  go_loopw [3, 11] (fun s i wr => ∃ (k n : Nat), k ≤ ps.length ∧ i = .int .i64 k ∧ s = .int .i64 n ∧ n ≤ k * 20 ∧ Hid (0 < k → 0 < n) ∧ Hid (Below w.heap.size w wr)) (fun _ i _ => ps.length - (intOf i).toNat)
  case atStart => exact ⟨0, 0, Nat.zero_le _, rfl, rfl, Nat.zero_le _, hide (fun h => absurd h (Nat.lt_irrefl _)), hide (Below.refl _ _)⟩
  case round =>
    obtain ⟨k, n, hk, rfl, rfl, hn, HN, HB⟩ := hrel
    by_cases hlt : k < ps.length
    · obtain ⟨hc, hios, hp0, hp5⟩ := unhide HP k hlt
      have hcr := ((unhide HB).cell (p := ⟨p, k, none⟩) (World.block_lt_of_cell? _ _ hc)).trans hc
      obtain ⟨M, hM⟩ : ∃ M, M = ps[k].ws.length := ⟨_, rfl⟩
      rw [← hM] at hcr hp0 hp5
      clear hios hM hc
      have hq : k * 20 ≤ 40 := by omega
      have hng : ¬ ((n : Int) + (M : Int) < 0) := by omega
      have wr1 : IntKind.i64.wrap ((n : Int) + (M : Int)) = (n : Int) + (M : Int) := by rw [IntKind.wrap_i64]; omega
      go_wp2
      go_roundw
      case rel => exact ⟨k + 1, n + M, by omega, by go_num, by go_num, by omega, hide (fun _ => by omega), HB⟩
      case measure => simp [intOf]; omega
    · have hke : k = ps.length := by omega
      have hn0 : 0 < n := unhide HN (by omega)
      have hq : k * 20 ≤ 40 := by omega
      go_wp2_with fail
      refine (grow_nil n _ hn0 (by omega)).mono ?_
      rintro e w1 ⟨g1, G1, rfl, ho, hb⟩
      have HO : Hid (w1.ownsRow w.heap.size 76 3 (.slice (some ⟨g1, 0, none⟩) 0 G1) 0 (ioV (catL (ps.take 0)))) := hide (own_base ho (unhide HB).size)
      have HB1 := hide (fr (unhide HB) hb)
      clear ho hb
      go_wp2
      go_loopw [6, 27] (fun o i wr' => ∃ (j g m qa : Nat), j ≤ ps.length ∧ i = .int .i64 j ∧ o = .slice (some ⟨g, 0, none⟩) m qa ∧ m ≤ j * 20 ∧ Hid (wr'.ownsRow w.heap.size 76 3 (.slice (some ⟨g, 0, none⟩) m qa) m (ioV (catL (ps.take j)))) ∧ Hid (0 < j → 0 < m) ∧ Hid (Below w.heap.size w wr')) (fun _ i _ => ps.length - (intOf i).toNat)
      case atStart => exact ⟨0, g1, 0, G1, Nat.zero_le _, rfl, rfl, Nat.zero_le _, HO, hide (fun h => absurd h (Nat.lt_irrefl _)), HB1⟩
      case round =>
        obtain ⟨j, g, m, qa, hj, rfl, rfl, hm, HO, HM0, HB⟩ := hrel
        by_cases hlt2 : j < ps.length
        · obtain ⟨hc, hios, hp0, hp5⟩ := unhide HP j hlt2
          have hcr := ((unhide HB).cell (p := ⟨p, j, none⟩) (World.block_lt_of_cell? _ _ hc)).trans hc
          have HI := hide ((hios.below (unhide HB)).src hp0)
          have HL : Hid ((ioV ps[j].ws).length = ps[j].ws.length * 3) := hide (ioV_length _)
          have HG := hide (owns_ge (unhide HO))
          have HSZ := hide (unhide HB).size
          obtain ⟨M, hM⟩ : ∃ M, M = ps[j].ws.length := ⟨_, rfl⟩
          rw [← hM] at hcr hp0 hp5 HL
          clear hios hM hc
          have hq2 : j * 20 ≤ 40 := by omega
          go_wp2_with (at_builtin; refine wpList_append_room rfl _ _ 27 rfl w.heap.size 76 i0 (.agg #[.int .i64 0, .int .i64 0, .string ⟨#[]⟩]) 3 32 Tryd.underlying27 hi hz0 hz1 hz2 rfl (by omega) g m qa (ioV (catL (ps.take j))) rfl (unhide HO) (unhide HSZ) ps[j].ao M ps[j].cap (ioV ps[j].ws) rfl hp0 (unhide HL) (fun _ => unhide HI) (ioV_one _) (by unfold maxLen; omega) (by omega) ?_; intro g2 cap2 wA hoA hkA; have HO2 : Hid (wA.ownsRow w.heap.size 76 3 (.slice (some ⟨g2, 0, none⟩) (m + M) cap2) (m + M) (ioV (catL (ps.take (j + 1))))) := hide (by rw [catL_succ hlt2, ioV_append]; exact hoA); have HB2 := hide (belowKp (unhide HB) hkA (fun q hq => by rw [hq]; exact unhide HG)); clear hoA hkA)
          go_roundw
          case rel => exact ⟨j + 1, g2, m + M, cap2, by omega, by go_num, rfl, by omega, HO2, hide (fun _ => by omega), HB2⟩
          case measure => simp [intOf]; omega
        · have hje : j = ps.length := by omega
          have hm0 : 0 < m := unhide HM0 (by omega)
          have HF : Hid (ApS w wr (some ⟨g, 0, none⟩) m qa (catL ps)) := hide ⟨.inr ⟨hm0, by have := unhide HO; rwa [List.take_of_length_le (by omega)] at this⟩, unhide HB⟩
          go_wp2
          go_ret
          exact ⟨_, _, _, rfl, unhide HF⟩

set_option maxHeartbeats 3200000 in
theorem texts_any (slot seq : Int) (ao : Option Addr) (cap : Nat) (us : List Up) (w : World) (hsl : 0 ≤ slot ∧ slot ≤ 1000) (hl : us.length ≤ 5) (hub : upsB us = true) (hu : Ups w ao us) :
    Calls Tryd.prog 89 #[jV slot seq ao us.length cap] w fun e w' => ∃ qo qa, e = .returned (.slice qo us.length qa) ∧ ApS w w' qo us.length qa (txL slot us) := by
  have HU := hide hu
  have HUB := hide hub
  clear hu hub
  obtain ⟨i0, hi, hz0, hz1, hz2⟩ := info_parts infoMx
  have HV := hide (VarJ.new w 70 slot seq (.slice ao us.length cap))
  have HVA := hide (Joins.below_alloc1 w (.cells #[.int .i64 slot, .int .i64 seq, .slice ao us.length cap] 70))
  have H0 : Hid (ApS w (w.alloc (.cells #[.int .i64 slot, .int .i64 seq, .slice ao us.length cap] 70)) none 0 0 [] ∧ Below (w.alloc (.cells #[.int .i64 slot, .int .i64 seq, .slice ao us.length cap] 70)).heap.size (w.alloc (.cells #[.int .i64 slot, .int .i64 seq, .slice ao us.length cap] 70)) (w.alloc (.cells #[.int .i64 slot, .int .i64 seq, .slice ao us.length cap] 70))) := hide ⟨⟨.inl ⟨rfl, rfl, _, rfl⟩, Joins.below_alloc1 _ _⟩, Below.refl _ _⟩
  go_enter Tryd.func89, Tryd.ntmps89
  go_wp2
  go_loopw [3, 9] (fun o i wr => ∃ (k : Nat) (qo : Option Addr) (qa : Nat), k ≤ us.length ∧ i = .int .i64 k ∧ o = .slice qo k qa ∧ Hid (ApS w wr qo k qa ((txL slot us).take k)) ∧ Hid (VarJ wr w.heap.size 70 slot seq (.slice ao us.length cap))) (fun _ i _ => us.length - (intOf i).toNat)
  case atStart => exact ⟨0, _, _, Nat.zero_le _, rfl, rfl, hide (unhide H0).1, HV⟩
  case round =>
    obtain ⟨k, qo, qa, hk, rfl, rfl, HA, HJ⟩ := hrel
    by_cases hlt : k < us.length
    · obtain ⟨b, off, rfl, hc0, hc1, hcz⟩ := (unhide HU).below (unhide HA).k k hlt
      have hbl := World.block_lt_of_cell? _ _ hc0
      have HUP := hide (upsB_at (unhide HUB) hlt)
      clear hcz
      have HAL := hide (Joins.below_alloc1 wr (.cells #[.int .i64 us[k].at_, .string us[k].data] 49))
      have HU1 := hide (VarU.new wr 49 us[k])
      have HA1 := hide ((unhide HA).next (unhide HAL))
      have HJ1 := hide ((unhide HJ).below (unhide HAL))
      obtain ⟨u0, u1⟩ := (unhide HU1).cells
      obtain ⟨j0, j1, j2⟩ := (unhide HJ1).cells
      have hjl := (unhide HJ).lt
      go_wp2
      go_region_held3 (fun w' => w'.cell? ⟨wr.heap.size, 0, none⟩ = some (.int .i64 us[k].at_) ∧ w'.cell? ⟨wr.heap.size, 1, none⟩ = some (.string us[k].data) ∧ w'.cell? ⟨w.heap.size, 0, none⟩ = some (.int .i64 slot) ∧ w'.cell? ⟨w.heap.size, 1, none⟩ = some (.int .i64 seq) ∧ w'.cell? ⟨w.heap.size, 2, none⟩ = some (.slice (some ⟨b, off, none⟩) us.length cap)) (go_keep)
        (first
          | (go_at_call 78; refine (place_any slot seq _ us.length cap k _ hsl (by omega)).mono ?_; rintro e w2 ⟨rfl, hb⟩; have HB2 := hide (fr (Below.refl _ _).drew hb); have HA2 := hide ((unhide HA1).next (unhide HB2)); have HJ2 := hide ((unhide HJ1).below (unhide HB2)); have HU2 := hide ((unhide HU1).below (unhide HB2)); obtain ⟨v0, v1⟩ := (unhide HU2).cells; obtain ⟨q0, q1, q2⟩ := (unhide HJ2).cells; clear hb)
          | (go_at_call 123; refine (text_any us[k] _ (unhide HUP)).mono ?_; rintro e w3 ⟨rfl, hb⟩; have HA3 := hide ((unhide HA2).next hb); have HJ3 := hide ((unhide HJ2).below hb); have HU3 := hide ((unhide HU2).below hb); obtain ⟨x0, x1⟩ := (unhide HU3).cells; obtain ⟨y0, y1, y2⟩ := (unhide HJ3).cells; have HAA := hide ((unhide HA3).next (Joins.below_alloc1 w3 (.cells #[.int .i64 1, .int .i64 (slot + 1 + (k : Int)), .string (encU us[k])] 76))); have HSZ := hide (unhide HAA).sz; have HJA := hide ((unhide HJ3).below (Joins.below_alloc1 w3 (.cells #[.int .i64 1, .int .i64 (slot + 1 + (k : Int)), .string (encU us[k])] 76))); have HUA := hide ((unhide HU3).below (Joins.below_alloc1 w3 (.cells #[.int .i64 1, .int .i64 (slot + 1 + (k : Int)), .string (encU us[k])] 76))); have hl1 := (unhide HU3).lt; have hl2 := (unhide HJ3).lt; clear hb)
          | (refine (step_append_at rfl (.tmp 14) (.tmp 21) 27 rfl w.heap.size 76 i0 (.agg #[.int .i64 0, .int .i64 0, .string ⟨#[]⟩]) 3 32 Tryd.underlying27 hi hz0 hz1 hz2 ?_ ?_ qo k qa (ioV ((txL slot us).take k)) ?_ ?_ ?_ (wrV (mvT slot k us[k])) ?_ ?_ ?_ ?_ ?_ ?_)
             · rfl
             · omega
             · rfl
             · exact (unhide HAA).o
             · exact unhide HSZ
             · exact ⟨_, _, rfl, news3 w3 (mvT slot k us[k]) _⟩
             · rfl
             · exact wrV_one _
             · unfold maxLen; omega
             · omega
             intro g2 cap2 wA hoA hkA
             have HN := hide (ApS.one (unhide HAA) hoA hkA)
             have HJN : Hid (VarJ wA w.heap.size 70 slot seq (.slice (some ⟨b, off, none⟩) us.length cap)) := hide (by unfold VarJ; rw [hkA.block _ (unhide HJA).lt ((unhide HAA).o.other (unhide HJA) (by decide))]; exact unhide HJA)
             have HUN : Hid (VarU wA wr.heap.size 49 us[k]) := hide (by unfold VarU; rw [hkA.block _ (unhide HUA).lt ((unhide HAA).o.other (unhide HUA) (by decide))]; exact unhide HUA)
             obtain ⟨z0, z1⟩ := (unhide HUN).cells
             obtain ⟨t0, t1, t2⟩ := (unhide HJN).cells
             clear hoA hkA))
      all_goals
        go_wp2
        go_roundw
        case rel => exact ⟨k + 1, _, _, by omega, by go_num, rfl, hide (by rw [txL_take hlt]; exact unhide HN), HJN⟩
        case measure => simp [intOf]; omega
    · have hke : k = us.length := by omega
      subst hke
      have HA1 : Hid (ApS w wr qo us.length qa (txL slot us)) := hide (by have := unhide HA; rwa [txL_done (Nat.le_refl _)] at this)
      go_wp2
      go_ret
      exact ⟨_, _, rfl, unhide HA1⟩

end Go.Proofs.YtefnapcegeojoabDoor

/- Contracts of the program's journals: toBegin, updatesFault, JournalPlan. -/
namespace Go.Proofs.YtefnapcegeojoabDoor
open Go.RowKit
set_option linter.unusedVariables false
set_option maxRecDepth 100000

theorem slN_inI {h : Int} (hh : inB h 0 3 = true) : 0 ≤ slN h ∧ slN h ≤ 1000 := by
  have : 0 ≤ h ∧ h ≤ 3 := by simpa [inB] using hh
  unfold slN; omega
theorem bg_parts (slot seq : Int) (us : List Up) (po qo : Option Addr) (pa qa : Nat) : plM [⟨po, pa, txL slot us⟩, ⟨qo, qa, [mvH slot us.length seq]⟩] = bgL slot seq us := by simp [plM, bgL]
theorem pl_parts (slot seq : Int) (us : List Up) (h : us.length ≠ 0) (po qo : Option Addr) (pa qa : Nat) : catL [⟨po, pa, bgL slot seq us⟩, ⟨qo, qa, apL slot seq us⟩] = plL slot seq us := by
  rw [plL, if_neg h]; simp [catL]
theorem ApS.ios {w W : World} {qo : Option Addr} {n qa : Nat} {ms : List Wr} (h : ApS w W qo n qa ms) (hz : short ms) : Ios W qo ms := by
  have e := h.len
  subst e
  exact ownMv h.o hz.sizes
theorem parts_two_of (w : World) (n : Nat) (t : TypeId) (p q : Part) (m k : Nat) (hm : m = p.ws.length) (hk : k = q.ws.length) (hn : w.heap.size = n) (hp : Ios w p.ao p.ws) (hp0 : 0 < m ∧ m ≤ 20) (hq : Ios w q.ao q.ws) (hq0 : 0 < k ∧ k ≤ 20) :
    Parts (w.alloc (.cells #[.slice p.ao m p.cap, .slice q.ao k q.cap] t)) n [p, q] := by
  subst hm hk
  exact parts_two w n t p q hn ⟨hp, hp0⟩ ⟨hq, hq0⟩
theorem planOf_two (p cap : Nat) (a b : Part) (w : World) (hp : Parts w p [a, b]) :
    Calls Tryd.prog 79 #[.slice (some ⟨p, 0, none⟩) 2 cap] w fun e w' => ∃ qo n qa, e = .returned (.slice qo n qa) ∧ ApS w w' qo n qa (plM [a, b]) := planOf_any p cap [a, b] w (by simp) hp
theorem concat_two (p cap : Nat) (a b : Part) (w : World) (hp : Parts w p [a, b]) :
    Calls Tryd.prog 88 #[.slice (some ⟨p, 0, none⟩) 2 cap] w fun e w' => ∃ qo n qa, e = .returned (.slice qo n qa) ∧ ApS w w' qo n qa (catL [a, b]) := concat_any p cap [a, b] w (by simp) (by simp) hp

set_option maxHeartbeats 6400000 in
theorem toBegin_any (slot seq : Int) (ao : Option Addr) (cap : Nat) (us : List Up) (w : World) (hsl : 0 ≤ slot ∧ slot ≤ 1000) (hl : us.length ≤ 5) (hs : numB seq = true) (hub : upsB us = true) (hu : Ups w ao us) :
    Calls Tryd.prog 49 #[jV slot seq ao us.length cap] w fun e w' => ∃ qo n qa, e = .returned (.slice qo n qa) ∧ ApS w w' qo n qa (plL slot seq us) := by
  have HA := hide (Joins.below_alloc1 w (.cells #[.int .i64 slot, .int .i64 seq, .slice ao us.length cap] 70))
  have HV := hide (VarJ.new w 70 slot seq (.slice ao us.length cap))
  by_cases h0 : us.length = 0
  · have hb0 : (((us.length : Nat) : Int) == 0) = true := by simp [h0]
    have HE : Hid (plL slot seq us = []) := hide (if_pos h0)
    clear h0 hs hu hub
    go_enter Tryd.func49, Tryd.ntmps49
    go_wp2
    go_ret
    exact ⟨_, _, _, rfl, by rw [unhide HE]; exact ⟨.inl ⟨rfl, rfl, _, rfl⟩, unhide HA⟩⟩
  have hb0 : (((us.length : Nat) : Int) == 0) = false := by rw [beq_eq_false_iff_ne]; omega
  have hp0 : 0 < us.length := by omega
  have HS := hide hs
  have HU := hide hu
  have HUB := hide hub
  have HPL := hide (pl_parts slot seq us h0)
  have HRP : Hid (rpL slot seq us = apL slot seq us) := hide (if_neg h0)
  clear hs hu hub h0
  obtain ⟨c0, c1, c2⟩ := (unhide HV).cells
  go_enter Tryd.func49, Tryd.ntmps49
  go_wp2
  go_region_held3 (fun w' => w'.cell? ⟨w.heap.size, 0, none⟩ = some (.int .i64 slot) ∧ w'.cell? ⟨w.heap.size, 1, none⟩ = some (.int .i64 seq) ∧ w'.cell? ⟨w.heap.size, 2, none⟩ = some (.slice ao us.length cap)) (go_keep)
    (first
      | (go_at_call 89; refine (texts_any slot seq ao cap us _ hsl hl (unhide HUB) (by exact ((unhide HU).below (unhide HA)).below (Below.refl _ _).drew)).mono ?_; rintro e w2 ⟨po, pa, rfl, hap⟩; have HB2 := hide (fr (Below.refl _ _).drew hap.k); have HI2 := hide (hap.ios (short_tx (unhide HUB))); obtain ⟨d0, d1, d2⟩ := ((unhide HV).below (unhide HB2)).cells; clear hap)
      | (go_at_call 81; refine (head_any slot seq ao us.length cap us.length _ (by omega) (unhide HS)).mono ?_; rintro e w3 ⟨qo, rfl, hi3, hb3⟩; have HB3 := hide (fr (unhide HB2) hb3); have HI3 := hide hi3; have HI23 := hide ((unhide HI2).below hb3); obtain ⟨e0, e1, e2⟩ := ((unhide HV).below (unhide HB3)).cells; have hlt3 := ((unhide HV).below (unhide HB3)).lt; clear hi3 hb3)
      | (go_at_call 79; refine (planOf_two w3.heap.size 2 ⟨po, pa, txL slot us⟩ ⟨qo, 1, [mvH slot us.length seq]⟩ _ (by exact parts_two_of w3 w3.heap.size 27 ⟨po, pa, txL slot us⟩ ⟨qo, 1, [mvH slot us.length seq]⟩ us.length 1 (txL_length slot us).symm rfl rfl (unhide HI23) (by omega) (unhide HI3) (by omega))).mono ?_; rintro e w4 ⟨ro, rn, ra, rfl, hap⟩; rw [bg_parts] at hap; have HB4 := hide (fr (unhide HB3) (fr (Joins.below_alloc1 _ _) hap.k)); have HI4 := hide (hap.ios (short_bg (unhide HUB))); have HN4 := hide (hap.len.trans (bgL_length _ _ _)); obtain ⟨f0, f1, f2⟩ := ((unhide HV).below (unhide HB4)).cells; clear hap)
      | (go_at_call 38; refine (toApply_any slot seq ao cap us _ hl (fun _ => unhide HS) (unhide HUB) (by exact ((unhide HU).below (unhide HA)).below (unhide HB4))).mono ?_; rintro e w5 ⟨so, sn, sa, rfl, hap⟩; rw [unhide HRP] at hap; have HB5 := hide (fr (unhide HB4) hap.k); have HI45 := hide ((unhide HI4).below hap.k); have HI5 := hide (hap.ios (short_ap (unhide HUB))); have HN5 := hide (hap.len.trans (apL_length _ _ _)); obtain ⟨g0, g1, g2⟩ := ((unhide HV).below (unhide HB5)).cells; have hlt5 := ((unhide HV).below (unhide HB5)).lt; clear hap)
      | (go_at_call 88; refine (concat_two w5.heap.size 2 ⟨ro, ra, bgL slot seq us⟩ ⟨so, sa, apL slot seq us⟩ _ (by exact parts_two_of w5 w5.heap.size 27 ⟨ro, ra, bgL slot seq us⟩ ⟨so, sa, apL slot seq us⟩ rn sn ((unhide HN4).trans (bgL_length _ _ _).symm) ((unhide HN5).trans (apL_length _ _ _).symm) rfl (unhide HI45) (by have := unhide HN4; omega) (unhide HI5) (by have := unhide HN5; omega))).mono ?_; rintro e w6 ⟨tq, tn, ta, rfl, hap⟩; rw [unhide HPL] at hap; have HB6 := hide (fr (unhide HB5) (fr (Joins.below_alloc1 _ _) hap.k)); have HAP := hide hap; obtain ⟨h0, h1, h2⟩ := ((unhide HV).below (unhide HB6)).cells; clear hap))
  all_goals
    have HF : Hid (ApS w w6 tq tn ta (plL slot seq us)) := hide ⟨(unhide HAP).o.base (by have h1 := (unhide HB5).size; have h2 := (unhide HA).size; simp at h1 ⊢; omega), fr (unhide HA) (unhide HB6)⟩
    go_wp2
    go_ret
    exact ⟨_, _, _, rfl, unhide HF⟩

set_option maxHeartbeats 1600000 in
theorem updatesFault_any (seq : Int) (ao : Option Addr) (cap : Nat) (us : List Up) (w : World) (hl : us.length ≤ 4096) (hu : Ups w ao us) :
    Calls Tryd.prog 48 #[.int .i64 seq, .slice ao us.length cap] w fun e w' => e = .returned (.int .i64 (if numB seq = false then 4 else fuC us)) ∧ Below w.heap.size w w' := by
  have HU := hide hu
  clear hu
  by_cases h3 : numB seq = false
  · rw [if_pos h3]
    go_enter Tryd.func48, Tryd.ntmps48
    go_wp2_with fail
    refine (isNumber_any seq _).mono ?_
    rintro e w1 ⟨rfl, rfl⟩
    rw [h3]
    go_wp2
    go_ret
    exact ⟨rfl, Below.refl _ _⟩
  rw [if_neg h3]
  rw [Bool.not_eq_false] at h3
  by_cases h5 : 5 < us.length
  · have HF := hide (fuC_many h5)
    go_enter Tryd.func48, Tryd.ntmps48
    go_wp2_with fail
    refine (isNumber_any seq _).mono ?_
    rintro e w1 ⟨rfl, rfl⟩
    rw [h3]
    go_wp2
    go_ret
    exact ⟨ret_int (unhide HF).symm, Below.refl _ _⟩
  go_enter Tryd.func48, Tryd.ntmps48
  go_wp2_with fail
  refine (isNumber_any seq _).mono ?_
  rintro e w1 ⟨rfl, hw⟩
  replace hw := hw.symm
  subst hw
  rw [h3]
  go_wp2
  go_loopw [15] (fun i wr => ∃ (k : Nat), k ≤ us.length ∧ i = .int .i64 k ∧ Hid (∀ j (h : j < us.length), j < k → upB us[j] = true) ∧ Hid (Below w.heap.size w wr)) (fun i _ => us.length - (intOf i).toNat)
  case atStart => exact ⟨0, Nat.zero_le _, rfl, hide (fun j h hj => by omega), hide (Below.refl _ _)⟩
  case round =>
    obtain ⟨k, hk, rfl, HP, HB⟩ := hrel
    by_cases hlt : k < us.length
    · obtain ⟨b, off, rfl, hc0, hc1, hcz⟩ := (unhide HU).below (unhide HB) k hlt
      have hbl := World.block_lt_of_cell? _ _ hc0
      have HZ := hide hcz
      clear hcz
      go_wp2_with fail
      refine (updateOK_any us[k] _ (unhide HZ)).mono ?_
      rintro e w2 ⟨rfl, hb⟩
      have HB2 := hide (fr (belowAl (unhide HB) _) hb)
      clear hb
      by_cases hp : upB us[k] = true
      · have HPP := hide (all_succ hlt (unhide HP) hp)
        go_wp2
        go_roundw
        case rel => exact ⟨k + 1, by omega, by go_num, HPP, HB2⟩
        case measure => simp [intOf]; omega
      · rw [Bool.not_eq_true] at hp
        have HF := hide (fuC_bad h5 (all_not hlt hp))
        go_wp2
        go_ret
        exact ⟨ret_int (unhide HF).symm, unhide HB2⟩
    · have HF := hide (fuC_ok h5 (all_of (fun i hi _ => unhide HP i hi (by omega))))
      go_wp2
      go_ret
      exact ⟨ret_int (unhide HF).symm, unhide HB⟩

set_option maxHeartbeats 1600000 in
theorem journalPlan_impl (h seq : Int) (ao : Option Addr) (cap : Nat) (us : List Up) (w : World) (hl : us.length ≤ 1048576) (hu : Ups w ao us) :
    Calls Tryd.prog 17 #[.int .i64 h, .int .i64 seq, .slice ao us.length cap] w fun e w' => ∃ qo qa n, e = .returned (.tuple #[.slice qo n qa, .int .i64 (jpC h seq us)]) ∧ ApS w w' qo n qa (jpL h seq us) := by
  have HU := hide hu
  have H0 : Hid (∀ W, Below w.heap.size w W → ApS w W none 0 0 []) := hide (fun W hb => ⟨.inl ⟨rfl, rfl, _, rfl⟩, hb⟩)
  clear hu
  by_cases h1 : 4096 < us.length
  · have HE : Hid (jpC h seq us = 2) := hide (jpC_long h1)
    have HL := hide (jpL_no (show jpC h seq us ≠ 0 by rw [unhide HE]; decide))
    go_enter Tryd.func17, Tryd.ntmps17
    go_wp2
    go_ret2
    exact ⟨_, _, _, ret_ni rfl (unhide HE).symm, by rw [unhide HL]; exact unhide H0 _ (Below.refl _ _)⟩
  by_cases h2 : inB h 0 3 = false
  · have HE : Hid (jpC h seq us = 4) := hide (jpC_host h1 h2)
    have HL := hide (jpL_no (show jpC h seq us ≠ 0 by rw [unhide HE]; decide))
    have hsc : slC h = 4 := by simp [slC, h2]
    go_enter Tryd.func17, Tryd.ntmps17
    go_wp2_with fail
    refine (slotOf_impl h _).mono ?_
    rintro e w1 ⟨rfl, hw⟩
    replace hw := hw.symm
    subst hw
    rw [hsc]
    go_wp2
    go_ret2
    exact ⟨_, _, _, ret_ni rfl (unhide HE).symm, by rw [unhide HL]; exact unhide H0 _ (Below.refl _ _)⟩
  rw [Bool.not_eq_false] at h2
  have hsc : slC h = 0 := by simp [slC, h2]
  have hsr : slR h = slN h := by simp [slR, h2]
  obtain ⟨C, hC⟩ : ∃ C : Int, C = if numB seq = false then 4 else fuC us := ⟨_, rfl⟩
  have HQ : Hid (jpC h seq us = C) := hide (by
    rw [hC]
    by_cases h3 : numB seq = false
    · rw [if_pos h3]; exact jpC_seq h1 h2 h3
    · rw [if_neg h3]; rw [Bool.not_eq_false] at h3; exact jpC_list h1 h2 h3)
  have HF : Hid (∀ W, Ups W ao us → Calls Tryd.prog 48 #[.int .i64 seq, .slice ao us.length cap] W fun e w' => e = .returned (.int .i64 C) ∧ Below W.heap.size W w') := hide (fun W hW => by rw [hC]; exact updatesFault_any seq ao cap us W (by omega) hW)
  have H2 := hide (slN_inI h2)
  have HCQ := hide hC
  clear hC
  go_enter Tryd.func17, Tryd.ntmps17
  go_wp2_with fail
  refine (slotOf_impl h _).mono ?_
  rintro e w1 ⟨rfl, hw⟩
  replace hw := hw.symm
  subst hw
  rw [hsc, hsr]
  go_wp2_with fail
  refine (unhide HF _ (unhide HU)).mono ?_
  rintro e w1 ⟨rfl, hb⟩
  have HB := hide hb
  clear hb
  by_cases hc : C = 0
  · have hcb : (C != 0) = false := by simp [hc]
    have HC : Hid (jpC h seq us = 0) := hide ((unhide HQ).trans hc)
    have hC := unhide HCQ
    have h3 : numB seq = true := by
      rw [hc] at hC
      cases h3 : numB seq with
      | true => rfl
      | false => rw [if_pos h3] at hC; cases hC
    have hfu : fuC us = 0 := by rw [hc, if_neg (by simp [h3])] at hC; exact hC.symm
    obtain ⟨h5, hub⟩ := fuC_zero hfu
    have HUB := hide hub
    have H3 := hide h3
    have HL := hide (jpL_yes (unhide HC))
    clear hub hfu h3 hC
    go_wp2_with fail
    refine (toBegin_any (slN h) seq ao cap us _ (unhide H2) h5 (unhide H3) (unhide HUB) ((unhide HU).below (unhide HB))).mono ?_
    rintro e w2 ⟨qo, n, qa, rfl, ha⟩
    have HA : Hid (ApS w w2 qo n qa (plL (slN h) seq us)) := hide ⟨ha.o.base (unhide HB).size, fr (unhide HB) ha.k⟩
    clear ha
    go_wp2
    go_ret2
    exact ⟨_, _, _, ret_ni rfl (unhide HC).symm, by rw [unhide HL]; exact unhide HA⟩
  · have hcb : (C != 0) = true := by simp [hc]
    have HL := hide (jpL_no (show jpC h seq us ≠ 0 by rw [unhide HQ]; exact hc))
    clear hc
    go_wp2
    go_ret2
    exact ⟨_, _, _, ret_ni rfl (unhide HQ).symm, by rw [unhide HL]; exact unhide H0 _ (unhide HB)⟩

end Go.Proofs.YtefnapcegeojoabDoor
