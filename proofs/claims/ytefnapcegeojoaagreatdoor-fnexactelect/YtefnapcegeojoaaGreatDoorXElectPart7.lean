import Derived.Test.YtefnapcegeojoaaGreatDoorRows
import Derived.Test.YtefnapcegeojoaaGreatDoorXElectPart1
import Derived.Test.YtefnapcegeojoaaGreatDoorXElectPart3
import Derived.Test.YtefnapcegeojoaaGreatDoorXElectPart6
import Derived.Test.YtefnapcegeojoaaGreatDoorXElectPart5
import Derived.WalkKit
import Derived.WalkSpells
import Derived.BigQuiet
import Derived.Deep.QuietTactic
import Derived.Deep.RegionWith
import Derived.Defers
import Derived.Recover
import Derived.Test.YtefnapcegeojoaaGreatDoorXElectPart4
import Derived.Test.YtefnapcegeojoaaGreatDoorXElectPart2
import Derived.KernelRfl
import Derived.Deep.CutRange
import Derived.Lib.SmallJoins
import Derived.Deep.RegionHeld3
import Derived.Deep.RegionLawGrows

namespace Go.Proofs.YtefnapcegeojoaaGreatDoor
open Go.RowKit
set_option linter.unusedVariables false
set_option maxRecDepth 100000

structure HeadSt (w W : World) : Prop where
  blk : W.heap[w.heap.size]? = some (.cells #[.int .i64 0, .slice none 0 0] 153 (0, 0))
  size : w.heap.size + 2 ≤ W.heap.size
  below : Below w.heap.size w W
theorem HeadSt.mk' (w : World) (a b : Obj) (n : Nat) (ha : a = .cells #[.int .i64 0, .slice none 0 0] 153) : HeadSt w (((w.alloc a).alloc b).drewN n) := by
  subst ha
  have h : Below w.heap.size w ((w.alloc (.cells #[.int .i64 0, .slice none 0 0] 153)).alloc b) := Joins.below_alloc2 _ _ _
  refine ⟨?_, by simp, h.trans (Joins.below_draws _ _ _)⟩
  show ((w.alloc _).alloc b).heap[w.heap.size]? = _
  rw [(Joins.below_alloc1 _ b).block _ (by simp)]
  exact heap_alloc_new w _

theorem sum_rec (s : ByteArray) (n : Int) (w : World) (hs : s.size ≤ 65536) (h4 : 4 ≤ s.size) (hn : sumC (headT s ++ bodyT s) = n) : Calls Tryz.prog 92 #[.string (s.extract 0 2 ++ s.extract 4 s.size)] w fun e w' => e = .returned (.int .i64 n) ∧ w' = w := by
  subst hn
  exact sumOf_impl (headT s ++ bodyT s) w (by rw [ByteArray.size_append, bodyT_size, headT_size h4]; omega)

set_option maxHeartbeats 1600000 in
theorem readRecord_yes (s : ByteArray) (w : World) (hs : s.size ≤ 65536) (hr : RecP s) : Calls Tryz.prog 125 #[.string s] w fun e w' => ∃ v, e = .returned (.agg #[.int .i64 (byteAt s 0), v]) ∧ OwnN w' w.heap.size v (unL (bodyT s)) ∧ Below w.heap.size w w' := by
  obtain ⟨h4, hk, h3, hcnt, hsum, hok⟩ := hr
  have hc4 := copy4_at (w.alloc (.cells #[.int .i64 0, .slice none 0 0] 153)) (w.heap.size + 1) s (by simp) h4
  have h4i : (4 : Int) ≤ (s.size : Int) := by omega
  have b0 := byteAt_in s 0
  have b1 := byteAt_in s 1
  have b2 := byteAt_in s 2
  have HBZ := hide (bodyT_size s)
  have HHZ := hide (headT_size h4)
  have b3 : (byteAt s 3 == 0) = true := by simp [h3]
  have HSM : Hid (sumC (headT s ++ bodyT s) = byteAt s 2) := hide (by rw [hsum]; exact sumC_short (by rw [ByteArray.size_append, bodyT_size, headT_size h4]; omega))
  have HOK := hide hok
  have hlen : (((s.size - 4 : Nat) : Int) == byteAt s 1 * 4) = true := by rw [bodyT_size] at hcnt; simp [hcnt]
  clear h3 hcnt hsum hok
  go_enter Tryz.func125, Tryz.ntmps125
  go_wp2_with (first | (go_at_call 95; refine (demand_true _).mono ?_; rintro e w' ⟨rfl, hw⟩; replace hw := hw.symm; subst hw))
  go_quiet (fail)
  have HH := hide (HeadSt.mk' w (.cells #[.int .i64 0, .slice none 0 0] 153) (.cells #[.int .u8 (byteAt s 0), .int .u8 (byteAt s 1), .int .u8 (byteAt s 2), .int .u8 (byteAt s 3)] 113) nq rfl)
  revert HH
  generalize (((w.alloc (.cells #[.int .i64 0, .slice none 0 0] 153)).alloc (.cells #[.int .u8 (byteAt s 0), .int .u8 (byteAt s 1), .int .u8 (byteAt s 2), .int .u8 (byteAt s 3)] 113)).drewN nq) = W
  intro HH
  clear hc4
  go_wp2_with (first | (go_at_call 90; refine (kindOK_any _ _).mono ?_; rintro e w' ⟨rfl, hw⟩; replace hw := hw.symm; subst hw) | (go_at_call 95; refine (demand_true _).mono ?_; rintro e w' ⟨rfl, hw⟩; replace hw := hw.symm; subst hw) | (go_at_call 92; refine (sum_rec s _ _ hs h4 (unhide HSM)).mono ?_; rintro e w' ⟨rfl, hw⟩; replace hw := hw.symm; subst hw))
  refine (readNumbers_yes (bodyT s) _ (unhide HOK)).mono ?_
  rintro e w1 ⟨v, rfl, ⟨qo, qa, rfl, ho⟩, hb⟩
  have hblk : w1.heap[w.heap.size]? = some (.cells #[.int .i64 0, .slice none 0 0] 153 (0, 0)) := by
    rw [hb.block _ (by have := (unhide HH).size; omega)]; exact (unhide HH).blk
  have hc0 : w1.cell? ⟨w.heap.size, 0, none⟩ = some (.int .i64 0) := by rw [Joins.cell_of_block hblk]; rfl
  have hc1 : w1.cell? ⟨w.heap.size, 1, none⟩ = some (.slice none 0 0) := by rw [Joins.cell_of_block hblk]; rfl
  have hf0 := Joins.unfrozen_of_block hblk 0
  have hf1 := Joins.unfrozen_of_block hblk 1
  have HO := hide (ho.base (B' := w.heap.size + 1) (by have := (unhide HH).size; omega))
  have HB := hide (fr (unhide HH).below hb)
  clear ho hb hblk
  go_wp2
  exact bodyPost_ret (v := .agg #[.int .i64 (byteAt s 0), .slice qo (unL (bodyT s)).length qa]) (by simp [results, Tryz.results125, go_sem, hc0, hc1]) rfl
    ⟨.slice qo (unL (bodyT s)).length qa, rfl, ⟨qo, qa, rfl, (((unhide HO).setCell (a := ⟨w.heap.size, 0, none⟩) (Nat.lt_succ_self _) _).setCell (a := ⟨w.heap.size, 1, none⟩) (Nat.lt_succ_self _) _).base (Nat.le_succ _)⟩, ((unhide HB).setCell (p := ⟨w.heap.size, 0, none⟩) (Nat.le_refl _) _).setCell (p := ⟨w.heap.size, 1, none⟩) (Nat.le_refl _) _⟩

theorem readRecord_short (s : ByteArray) (w : World) (h4 : ¬ 4 ≤ s.size) (hE : ErrW w) : Calls Tryz.prog 125 #[.string s] w fun e w' => (∃ u pv, e = .panicked [{ v := .iface u pv, recovered := false }]) ∧ Below w.heap.size w w' := by
  have HE := hide (hE.below (Joins.below_alloc1 w (.cells #[.int .i64 0, .slice none 0 0] 153)))
  have h4i : ¬ (4 : Int) ≤ (s.size : Int) := by omega
  clear hE
  go_enter Tryz.func125, Tryz.ntmps125
  go_wp2_with (go_at_call 95; refine (demand_false _ (unhide HE)).mono ?_; rintro e w' ⟨⟨u, pv, rfl⟩, hw⟩; replace hw := hw.symm; subst hw)
  exact ⟨rfl, ⟨_, _, rfl⟩, Joins.below_alloc1 _ _⟩

set_option maxHeartbeats 1600000 in
theorem readRecord_kind (s : ByteArray) (w : World) (hs : s.size ≤ 65536) (h4 : 4 ≤ s.size) (hk : kindB (byteAt s 0) = false) (hE : ErrW w) : Calls Tryz.prog 125 #[.string s] w fun e w' => (∃ u pv, e = .panicked [{ v := .iface u pv, recovered := false }]) ∧ Below w.heap.size w w' := by
  have HE := hide hE
  clear hE
  have hc4 := copy4_at (w.alloc (.cells #[.int .i64 0, .slice none 0 0] 153)) (w.heap.size + 1) s (by simp) h4
  have h4i : (4 : Int) ≤ (s.size : Int) := by omega
  have b0 := byteAt_in s 0
  have b1 := byteAt_in s 1
  have b2 := byteAt_in s 2
  have HBZ := hide (bodyT_size s)
  have HHZ := hide (headT_size h4)
  go_enter Tryz.func125, Tryz.ntmps125
  go_wp2_with (first | (go_at_call 95; refine (demand_true _).mono ?_; rintro e w' ⟨rfl, hw⟩; replace hw := hw.symm; subst hw))
  go_quiet (fail)
  have HH := hide (HeadSt.mk' w (.cells #[.int .i64 0, .slice none 0 0] 153) (.cells #[.int .u8 (byteAt s 0), .int .u8 (byteAt s 1), .int .u8 (byteAt s 2), .int .u8 (byteAt s 3)] 113) nq rfl)
  revert HH
  generalize (((w.alloc (.cells #[.int .i64 0, .slice none 0 0] 153)).alloc (.cells #[.int .u8 (byteAt s 0), .int .u8 (byteAt s 1), .int .u8 (byteAt s 2), .int .u8 (byteAt s 3)] 113)).drewN nq) = W
  intro HH
  clear hc4
  go_wp2_with (first | (go_at_call 90; refine (kindOK_any _ _).mono ?_; rintro e w' ⟨rfl, hw⟩; replace hw := hw.symm; subst hw) | (go_at_call 95; refine (demand_false _ ((unhide HE).below (unhide HH).below)).mono ?_; rintro e w' ⟨⟨u, pv, rfl⟩, hw⟩; replace hw := hw.symm; subst hw))
  exact ⟨rfl, ⟨_, _, rfl⟩, (unhide HH).below⟩

set_option maxHeartbeats 1600000 in
theorem readRecord_last (s : ByteArray) (w : World) (hs : s.size ≤ 65536) (h4 : 4 ≤ s.size) (hk : kindB (byteAt s 0) = true) (h3 : byteAt s 3 ≠ 0) (hE : ErrW w) : Calls Tryz.prog 125 #[.string s] w fun e w' => (∃ u pv, e = .panicked [{ v := .iface u pv, recovered := false }]) ∧ Below w.heap.size w w' := by
  have HE := hide hE
  clear hE
  have hc4 := copy4_at (w.alloc (.cells #[.int .i64 0, .slice none 0 0] 153)) (w.heap.size + 1) s (by simp) h4
  have h4i : (4 : Int) ≤ (s.size : Int) := by omega
  have b0 := byteAt_in s 0
  have b1 := byteAt_in s 1
  have b2 := byteAt_in s 2
  have HBZ := hide (bodyT_size s)
  have HHZ := hide (headT_size h4)
  have b3 : (byteAt s 3 == 0) = false := by simp [h3]
  clear h3
  go_enter Tryz.func125, Tryz.ntmps125
  go_wp2_with (first | (go_at_call 95; refine (demand_true _).mono ?_; rintro e w' ⟨rfl, hw⟩; replace hw := hw.symm; subst hw))
  go_quiet (fail)
  have HH := hide (HeadSt.mk' w (.cells #[.int .i64 0, .slice none 0 0] 153) (.cells #[.int .u8 (byteAt s 0), .int .u8 (byteAt s 1), .int .u8 (byteAt s 2), .int .u8 (byteAt s 3)] 113) nq rfl)
  revert HH
  generalize (((w.alloc (.cells #[.int .i64 0, .slice none 0 0] 153)).alloc (.cells #[.int .u8 (byteAt s 0), .int .u8 (byteAt s 1), .int .u8 (byteAt s 2), .int .u8 (byteAt s 3)] 113)).drewN nq) = W
  intro HH
  clear hc4
  go_wp2_with (first | (go_at_call 90; refine (kindOK_any _ _).mono ?_; rintro e w' ⟨rfl, hw⟩; replace hw := hw.symm; subst hw) | (go_at_call 95; refine (demand_false _ ((unhide HE).below (unhide HH).below)).mono ?_; rintro e w' ⟨⟨u, pv, rfl⟩, hw⟩; replace hw := hw.symm; subst hw))
  exact ⟨rfl, ⟨_, _, rfl⟩, (unhide HH).below⟩

set_option maxHeartbeats 1600000 in
theorem readRecord_count (s : ByteArray) (w : World) (hs : s.size ≤ 65536) (h4 : 4 ≤ s.size) (hk : kindB (byteAt s 0) = true) (h3 : byteAt s 3 = 0) (hcnt : ((bodyT s).size : Int) ≠ byteAt s 1 * 4) (hE : ErrW w) : Calls Tryz.prog 125 #[.string s] w fun e w' => (∃ u pv, e = .panicked [{ v := .iface u pv, recovered := false }]) ∧ Below w.heap.size w w' := by
  have HE := hide hE
  clear hE
  have hc4 := copy4_at (w.alloc (.cells #[.int .i64 0, .slice none 0 0] 153)) (w.heap.size + 1) s (by simp) h4
  have h4i : (4 : Int) ≤ (s.size : Int) := by omega
  have b0 := byteAt_in s 0
  have b1 := byteAt_in s 1
  have b2 := byteAt_in s 2
  have HBZ := hide (bodyT_size s)
  have HHZ := hide (headT_size h4)
  have b3 : (byteAt s 3 == 0) = true := by simp [h3]
  have hlen : (((s.size - 4 : Nat) : Int) == byteAt s 1 * 4) = false := by rw [bodyT_size] at hcnt; simp [hcnt]
  clear h3 hcnt
  go_enter Tryz.func125, Tryz.ntmps125
  go_wp2_with (first | (go_at_call 95; refine (demand_true _).mono ?_; rintro e w' ⟨rfl, hw⟩; replace hw := hw.symm; subst hw))
  go_quiet (fail)
  have HH := hide (HeadSt.mk' w (.cells #[.int .i64 0, .slice none 0 0] 153) (.cells #[.int .u8 (byteAt s 0), .int .u8 (byteAt s 1), .int .u8 (byteAt s 2), .int .u8 (byteAt s 3)] 113) nq rfl)
  revert HH
  generalize (((w.alloc (.cells #[.int .i64 0, .slice none 0 0] 153)).alloc (.cells #[.int .u8 (byteAt s 0), .int .u8 (byteAt s 1), .int .u8 (byteAt s 2), .int .u8 (byteAt s 3)] 113)).drewN nq) = W
  intro HH
  clear hc4
  go_wp2_with (first | (go_at_call 90; refine (kindOK_any _ _).mono ?_; rintro e w' ⟨rfl, hw⟩; replace hw := hw.symm; subst hw) | (go_at_call 95; refine (demand_true _).mono ?_; rintro e w' ⟨rfl, hw⟩; replace hw := hw.symm; subst hw) | (go_at_call 95; refine (demand_false _ ((unhide HE).below (unhide HH).below)).mono ?_; rintro e w' ⟨⟨u, pv, rfl⟩, hw⟩; replace hw := hw.symm; subst hw))
  exact ⟨rfl, ⟨_, _, rfl⟩, (unhide HH).below⟩

set_option maxHeartbeats 1600000 in
theorem readRecord_sum (s : ByteArray) (w : World) (hs : s.size ≤ 65536) (h4 : 4 ≤ s.size) (hk : kindB (byteAt s 0) = true) (h3 : byteAt s 3 = 0) (hcnt : ((bodyT s).size : Int) = byteAt s 1 * 4) (hsum : byteAt s 2 ≠ sumS (headT s ++ bodyT s)) (hE : ErrW w) : Calls Tryz.prog 125 #[.string s] w fun e w' => (∃ u pv, e = .panicked [{ v := .iface u pv, recovered := false }]) ∧ Below w.heap.size w w' := by
  have HE := hide hE
  clear hE
  have hc4 := copy4_at (w.alloc (.cells #[.int .i64 0, .slice none 0 0] 153)) (w.heap.size + 1) s (by simp) h4
  have h4i : (4 : Int) ≤ (s.size : Int) := by omega
  have b0 := byteAt_in s 0
  have b1 := byteAt_in s 1
  have b2 := byteAt_in s 2
  have HBZ := hide (bodyT_size s)
  have HHZ := hide (headT_size h4)
  have b3 : (byteAt s 3 == 0) = true := by simp [h3]
  have hlen : (((s.size - 4 : Nat) : Int) == byteAt s 1 * 4) = true := by rw [bodyT_size] at hcnt; simp [hcnt]
  have HSM : Hid (sumC (headT s ++ bodyT s) = sumS (headT s ++ bodyT s)) := hide (sumC_short (by rw [ByteArray.size_append, bodyT_size, headT_size h4]; omega))
  have hsb : (byteAt s 2 == sumS (headT s ++ bodyT s)) = false := by simp [hsum]
  clear h3 hcnt hsum
  go_enter Tryz.func125, Tryz.ntmps125
  go_wp2_with (first | (go_at_call 95; refine (demand_true _).mono ?_; rintro e w' ⟨rfl, hw⟩; replace hw := hw.symm; subst hw))
  go_quiet (fail)
  have HH := hide (HeadSt.mk' w (.cells #[.int .i64 0, .slice none 0 0] 153) (.cells #[.int .u8 (byteAt s 0), .int .u8 (byteAt s 1), .int .u8 (byteAt s 2), .int .u8 (byteAt s 3)] 113) nq rfl)
  revert HH
  generalize (((w.alloc (.cells #[.int .i64 0, .slice none 0 0] 153)).alloc (.cells #[.int .u8 (byteAt s 0), .int .u8 (byteAt s 1), .int .u8 (byteAt s 2), .int .u8 (byteAt s 3)] 113)).drewN nq) = W
  intro HH
  clear hc4
  go_wp2_with (first | (go_at_call 90; refine (kindOK_any _ _).mono ?_; rintro e w' ⟨rfl, hw⟩; replace hw := hw.symm; subst hw) | (go_at_call 95; refine (demand_true _).mono ?_; rintro e w' ⟨rfl, hw⟩; replace hw := hw.symm; subst hw) | (go_at_call 92; refine (sum_rec s _ _ hs h4 (unhide HSM)).mono ?_; rintro e w' ⟨rfl, hw⟩; replace hw := hw.symm; subst hw) | (go_at_call 95; refine (demand_false _ ((unhide HE).below (unhide HH).below)).mono ?_; rintro e w' ⟨⟨u, pv, rfl⟩, hw⟩; replace hw := hw.symm; subst hw))
  exact ⟨rfl, ⟨_, _, rfl⟩, (unhide HH).below⟩

set_option maxHeartbeats 1600000 in
theorem readRecord_nums (s : ByteArray) (w : World) (hs : s.size ≤ 65536) (h4 : 4 ≤ s.size) (hk : kindB (byteAt s 0) = true) (h3 : byteAt s 3 = 0) (hcnt : ((bodyT s).size : Int) = byteAt s 1 * 4) (hsum : byteAt s 2 = sumS (headT s ++ bodyT s)) (hok : okU (bodyT s) = false) (hE : ErrW w) : Calls Tryz.prog 125 #[.string s] w fun e w' => (∃ u pv, e = .panicked [{ v := .iface u pv, recovered := false }]) ∧ Below w.heap.size w w' := by
  have HE := hide hE
  clear hE
  have hc4 := copy4_at (w.alloc (.cells #[.int .i64 0, .slice none 0 0] 153)) (w.heap.size + 1) s (by simp) h4
  have h4i : (4 : Int) ≤ (s.size : Int) := by omega
  have b0 := byteAt_in s 0
  have b1 := byteAt_in s 1
  have b2 := byteAt_in s 2
  have HBZ := hide (bodyT_size s)
  have HHZ := hide (headT_size h4)
  have b3 : (byteAt s 3 == 0) = true := by simp [h3]
  have hlen : (((s.size - 4 : Nat) : Int) == byteAt s 1 * 4) = true := by rw [bodyT_size] at hcnt; simp [hcnt]
  have HSM : Hid (sumC (headT s ++ bodyT s) = byteAt s 2) := hide (by rw [hsum]; exact sumC_short (by rw [ByteArray.size_append, bodyT_size, headT_size h4]; omega))
  have HOK := hide hok
  clear h3 hcnt hsum hok
  go_enter Tryz.func125, Tryz.ntmps125
  go_wp2_with (first | (go_at_call 95; refine (demand_true _).mono ?_; rintro e w' ⟨rfl, hw⟩; replace hw := hw.symm; subst hw))
  go_quiet (fail)
  have HH := hide (HeadSt.mk' w (.cells #[.int .i64 0, .slice none 0 0] 153) (.cells #[.int .u8 (byteAt s 0), .int .u8 (byteAt s 1), .int .u8 (byteAt s 2), .int .u8 (byteAt s 3)] 113) nq rfl)
  revert HH
  generalize (((w.alloc (.cells #[.int .i64 0, .slice none 0 0] 153)).alloc (.cells #[.int .u8 (byteAt s 0), .int .u8 (byteAt s 1), .int .u8 (byteAt s 2), .int .u8 (byteAt s 3)] 113)).drewN nq) = W
  intro HH
  clear hc4
  go_wp2_with (first | (go_at_call 90; refine (kindOK_any _ _).mono ?_; rintro e w' ⟨rfl, hw⟩; replace hw := hw.symm; subst hw) | (go_at_call 95; refine (demand_true _).mono ?_; rintro e w' ⟨rfl, hw⟩; replace hw := hw.symm; subst hw) | (go_at_call 92; refine (sum_rec s _ _ hs h4 (unhide HSM)).mono ?_; rintro e w' ⟨rfl, hw⟩; replace hw := hw.symm; subst hw))
  refine (readNumbers_no (bodyT s) _ (unhide HOK) ((unhide HE).below (unhide HH).below)).mono ?_
  rintro e w1 ⟨⟨u, pv, rfl⟩, hb⟩
  have HB := hide (fr (unhide HH).below hb)
  clear hb
  go_wp2
  exact ⟨rfl, ⟨u, pv, rfl⟩, unhide HB⟩

theorem readRecord_no (s : ByteArray) (w : World) (hs : s.size ≤ 65536) (hr : ¬ RecP s) (hE : ErrW w) : Calls Tryz.prog 125 #[.string s] w fun e w' => (∃ u pv, e = .panicked [{ v := .iface u pv, recovered := false }]) ∧ Below w.heap.size w w' := by
  by_cases h4 : 4 ≤ s.size
  · cases hk : kindB (byteAt s 0) with
    | false => exact readRecord_kind s w hs h4 hk hE
    | true =>
      by_cases h3 : byteAt s 3 = 0
      · by_cases hcnt : ((bodyT s).size : Int) = byteAt s 1 * 4
        · by_cases hsum : byteAt s 2 = sumS (headT s ++ bodyT s)
          · cases hok : okU (bodyT s) with
            | false => exact readRecord_nums s w hs h4 hk h3 hcnt hsum hok hE
            | true => exact absurd ⟨h4, hk, h3, hcnt, hsum, hok⟩ hr
          · exact readRecord_sum s w hs h4 hk h3 hcnt hsum hE
        · exact readRecord_count s w hs h4 hk h3 hcnt hE
      · exact readRecord_last s w hs h4 hk h3 hE
  · exact readRecord_short s w h4 hE

end Go.Proofs.YtefnapcegeojoaaGreatDoor

namespace Go.Proofs.YtefnapcegeojoaaGreatDoor
open Go.RowKit
set_option linter.unusedVariables false
set_option maxRecDepth 100000

set_option maxHeartbeats 1600000 in
theorem readKind_yes (s : ByteArray) (k : Int) (w : World) (hs : s.size ≤ 65536) (hr : RecP s) (hk : byteAt s 0 = k) :
    Calls Tryz.prog 94 #[.string s, .int .i64 k] w fun e w' => ∃ v, e = .returned v ∧ OwnN w' w.heap.size v (unL (bodyT s)) ∧ Below w.heap.size w w' := by
  subst hk
  go_enter Tryz.func94, Tryz.ntmps94
  go_wp2_with fail
  refine (readRecord_yes s _ hs hr).mono ?_
  rintro e w1 ⟨v, rfl, ⟨qo, qa, rfl, ho⟩, hb⟩
  have HO := hide (ho.below (Joins.below_alloc1 _ (.cells #[.int .i64 (byteAt s 0), .slice qo (unL (bodyT s)).length qa] 153)))
  have HB := hide (fr hb (Joins.below_alloc1 _ (.cells #[.int .i64 (byteAt s 0), .slice qo (unL (bodyT s)).length qa] 153)))
  clear ho hb
  go_wp2_with (go_at_call 95; refine (demand_true _).mono ?_; rintro e w' ⟨rfl, hw⟩; replace hw := hw.symm; subst hw)
  go_ret
  exact ⟨.slice qo (unL (bodyT s)).length qa, rfl, ⟨qo, qa, rfl, unhide HO⟩, unhide HB⟩

set_option maxHeartbeats 1600000 in
theorem readKind_no (s : ByteArray) (k : Int) (w : World) (hs : s.size ≤ 65536) (hr : ¬ (RecP s ∧ byteAt s 0 = k)) (hE : ErrW w) :
    Calls Tryz.prog 94 #[.string s, .int .i64 k] w fun e w' => (∃ u pv, e = .panicked [{ v := .iface u pv, recovered := false }]) ∧ Below w.heap.size w w' := by
  by_cases hp : RecP s
  · have hkb : (byteAt s 0 == k) = false := by rw [beq_eq_false_iff_ne]; exact fun e => hr ⟨hp, e⟩
    have HE := hide hE
    clear hr hE
    go_enter Tryz.func94, Tryz.ntmps94
    go_wp2_with fail
    refine (readRecord_yes s _ hs hp).mono ?_
    rintro e w1 ⟨v, rfl, ⟨qo, qa, rfl, ho⟩, hb⟩
    have HB := hide (fr hb (Joins.below_alloc1 _ (.cells #[.int .i64 (byteAt s 0), .slice qo (unL (bodyT s)).length qa] 153)))
    clear ho hb
    go_wp2_with (go_at_call 95; refine (demand_false _ ((unhide HE).below (unhide HB))).mono ?_; rintro e w' ⟨⟨u, pv, rfl⟩, hw⟩; replace hw := hw.symm; subst hw)
    exact ⟨rfl, ⟨_, _, rfl⟩, unhide HB⟩
  · go_enter Tryz.func94, Tryz.ntmps94
    go_wp2_with fail
    refine (readRecord_no s _ hs hp hE).mono ?_
    rintro e w1 ⟨⟨u, pv, rfl⟩, hb⟩
    have HB := hide hb
    clear hb
    go_wp2
    exact ⟨rfl, ⟨_, _, rfl⟩, unhide HB⟩

end Go.Proofs.YtefnapcegeojoaaGreatDoor

namespace Go.Proofs.YtefnapcegeojoaaGreatDoor
open Go.RowKit
set_option linter.unusedVariables false
set_option maxRecDepth 100000

theorem openB_iff {t : ByteArray} {k : Int} : openB t k = true ↔ RecP t ∧ byteAt t 0 = k := by
  simp only [openB, Bool.and_eq_true, decide_eq_true_eq, recB_iff]
end Go.Proofs.YtefnapcegeojoaaGreatDoor

namespace Go.Proofs.YtefnapcegeojoaaGreatDoor
open Go.RowKit
set_option linter.unusedVariables false
set_option maxRecDepth 100000

theorem ld_open {t : ByteArray} (h : ldD t = true) : (RecP t ∧ byteAt t 0 = 6) ∧ ∃ a b c, unL (bodyT t) = [a, b, c] ∧ ldB ⟨a, b - 1, c⟩ = true ∧ ldK t = ⟨a, b - 1, c⟩ ∧ IntKind.i64.wrap (b - 1) = b - 1 := by
  have h' := h
  simp only [ldD, Bool.and_eq_true, decide_eq_true_eq] at h'
  obtain ⟨ho, hl, hd⟩ := h'
  obtain ⟨a, b, c, e⟩ := three hl
  rw [e] at hd
  refine ⟨openB_iff.1 ho, a, b, c, ?_, hd, ld_yes h e, open_mid ho e⟩
  rw [← e, ldL, openL_yes ho]
theorem ld_shut {t : ByteArray} (h : ldD t = false) (ho : RecP t ∧ byteAt t 0 = 6) (hl : (unL (bodyT t)).length = 3) : ∃ a b c, unL (bodyT t) = [a, b, c] ∧ ldB ⟨a, b - 1, c⟩ = false ∧ IntKind.i64.wrap (b - 1) = b - 1 := by
  have ho' := openB_iff.2 ho
  obtain ⟨a, b, c, e⟩ := three hl
  have e' : ldL t = [a, b, c] := by rw [← e, ldL, openL_yes ho']
  refine ⟨a, b, c, e, ?_, open_mid ho' e'⟩
  rw [← ldD_at ho' e']; exact h

set_option maxHeartbeats 1600000 in
theorem readLeader_yes (t : ByteArray) (w : World) (hs : t.size ≤ 65536) (hd : ldD t = true) :
    Calls Tryz.prog 46 #[.string t] w fun e w' => e = .returned (lV (ldK t)) ∧ Below w.heap.size w w' := by
  obtain ⟨⟨hr, hk⟩, a, b, c, hl, hdd, e1, wr1⟩ := ld_open hd
  rw [e1]
  have HL := hide hl
  have HDD := hide hdd
  have HR := hide hr
  have HK := hide hk
  clear hl hdd e1 hr hk hd
  have HA := hide (Joins.below_alloc1 w (.cells #[.int .i64 0, .int .i64 0, .int .i64 0] 30))
  have HV := hide (VarT.new w 30 0 0 0)
  go_enter Tryz.func46, Tryz.ntmps46
  go_wp2_with fail
  refine (readKind_yes t 6 _ hs (unhide HR) (unhide HK)).mono ?_
  rintro e w1 ⟨v, rfl, ⟨qo, qa, rfl, ho⟩, hb⟩
  have HB := hide (fr (unhide HA) hb)
  have HB1 := hide hb
  have hI := ownRN ho
  rw [unhide HL] at hI ⊢
  obtain ⟨g, off, rfl, hi0⟩ := hI 0 (by simp)
  obtain ⟨g', off', he, hi1⟩ := hI 1 (by simp)
  cases he
  obtain ⟨g', off', he, hi2⟩ := hI 2 (by simp)
  cases he
  simp only [List.getElem_cons_zero, List.getElem_cons_succ, Nat.add_zero] at hi0 hi1 hi2
  have hg := World.block_lt_of_cell? _ _ hi0
  clear hI ho hb
  simp only [List.length_cons, List.length_nil, Nat.zero_add, Nat.reduceAdd]
  go_wp2_with (go_at_call 95; refine (demand_true _).mono ?_; rintro e w' ⟨rfl, hw⟩; replace hw := hw.symm; subst hw)
  have HA2 := hide (Joins.below_alloc1 w1 (.cells #[.int .i64 a, .int .i64 (b - 1), .int .i64 c] 30)).drew
  have HV2 := hide (((unhide HV).below (unhide HB1)).below (unhide HA2))
  have HV3 : Hid (VarT (w1.alloc (.cells #[.int .i64 a, .int .i64 (b - 1), .int .i64 c] 30)).drew w1.heap.size 30 a (b - 1) c) := hide ((VarT.new w1 30 a (b - 1) c).below (Below.refl _ _).drew)
  have HB2 := hide (fr (unhide HB) (unhide HA2))
  go_region
  go_wp2_with fail
  refine (leaderOK_impl ⟨a, b - 1, c⟩ _).mono ?_
  rintro e w2 ⟨rfl, hb2⟩
  rw [unhide HDD]
  have HB3 := hide (fr (unhide HB2) hb2)
  obtain ⟨hc0, hc1, hc2⟩ := ((unhide HV2).below hb2).cells
  obtain ⟨hf0, hf1, hf2⟩ := ((unhide HV2).below hb2).free
  obtain ⟨hx0, hx1, hx2⟩ := ((unhide HV3).below hb2).cells
  have HR3 := hide (fun u v x => below3 (unhide HB3) (Nat.le_refl _) 0 1 2 u v x)
  clear hb2 hi0 hi1 hi2
  go_wp2_with (go_at_call 95; refine (demand_true _).mono ?_; rintro e w' ⟨rfl, hw⟩; replace hw := hw.symm; subst hw)
  exact bodyPost_ret (v := lV ⟨a, b - 1, c⟩) (by simp [results, Tryz.results46, go_sem, hc0, hc1, hc2]) rfl ⟨rfl, unhide HR3 _ _ _⟩

set_option maxHeartbeats 1600000 in
theorem readLeader_no (t : ByteArray) (w : World) (hs : t.size ≤ 65536) (hd : ldD t = false) (hE : ErrW w) :
    Calls Tryz.prog 46 #[.string t] w fun e w' => (∃ u pv, e = .panicked [{ v := .iface u pv, recovered := false }]) ∧ Below w.heap.size w w' := by
  have HA := hide (Joins.below_alloc1 w (.cells #[.int .i64 0, .int .i64 0, .int .i64 0] 30))
  have HE := hide (hE.below (unhide HA))
  clear hE
  by_cases hr : RecP t ∧ byteAt t 0 = 6
  · obtain ⟨hr1, hr2⟩ := hr
    by_cases hl : (unL (bodyT t)).length = 3
    · obtain ⟨a, b, c, hl, hdd, wr1⟩ := ld_shut hd ⟨hr1, hr2⟩ hl
      have HL := hide hl
      have HDD := hide hdd
      have HR := hide hr1
      have HK := hide hr2
      clear hl hdd hr1 hr2 hd
      go_enter Tryz.func46, Tryz.ntmps46
      go_wp2_with fail
      refine (readKind_yes t 6 _ hs (unhide HR) (unhide HK)).mono ?_
      rintro e w1 ⟨v, rfl, ⟨qo, qa, rfl, ho⟩, hb⟩
      have HB := hide (fr (unhide HA) hb)
      have HE1 := hide ((unhide HE).below hb)
      have hI := ownRN ho
      rw [unhide HL] at hI ⊢
      obtain ⟨g, off, rfl, hi0⟩ := hI 0 (by simp)
      obtain ⟨g', off', he, hi1⟩ := hI 1 (by simp)
      cases he
      obtain ⟨g', off', he, hi2⟩ := hI 2 (by simp)
      cases he
      simp only [List.getElem_cons_zero, List.getElem_cons_succ, Nat.add_zero] at hi0 hi1 hi2
      have hg := World.block_lt_of_cell? _ _ hi0
      clear hI ho hb
      simp only [List.length_cons, List.length_nil, Nat.zero_add, Nat.reduceAdd]
      go_wp2_with (go_at_call 95; refine (demand_true _).mono ?_; rintro e w' ⟨rfl, hw⟩; replace hw := hw.symm; subst hw)
      have HA2 := hide (Joins.below_alloc1 w1 (.cells #[.int .i64 a, .int .i64 (b - 1), .int .i64 c] 30)).drew
      have HV3 : Hid (VarT (w1.alloc (.cells #[.int .i64 a, .int .i64 (b - 1), .int .i64 c] 30)).drew w1.heap.size 30 a (b - 1) c) := hide ((VarT.new w1 30 a (b - 1) c).below (Below.refl _ _).drew)
      have HB2 := hide (fr (unhide HB) (unhide HA2))
      go_region
      go_wp2_with fail
      refine (leaderOK_impl ⟨a, b - 1, c⟩ _).mono ?_
      rintro e w2 ⟨rfl, hb2⟩
      rw [unhide HDD]
      have HB3 := hide (fr (unhide HB2) hb2)
      have HE2 := hide (((unhide HE1).below (unhide HA2)).below hb2)
      clear hb2 hi0 hi1 hi2
      go_wp2_with (go_at_call 95; refine (demand_false _ (unhide HE2)).mono ?_; rintro e w' ⟨⟨u, pv, rfl⟩, hw⟩; replace hw := hw.symm; subst hw)
      exact ⟨rfl, ⟨_, _, rfl⟩, unhide HB3⟩
    · have hl3 : ((((unL (bodyT t)).length : Nat) : Int) == 3) = false := by rw [beq_eq_false_iff_ne]; omega
      have HR := hide hr1
      have HK := hide hr2
      clear hl hr1 hr2 hd
      go_enter Tryz.func46, Tryz.ntmps46
      go_wp2_with fail
      refine (readKind_yes t 6 _ hs (unhide HR) (unhide HK)).mono ?_
      rintro e w1 ⟨v, rfl, ⟨qo, qa, rfl, ho⟩, hb⟩
      have HB := hide (fr (unhide HA) hb)
      have HE1 := hide ((unhide HE).below hb)
      clear ho hb
      go_wp2_with (go_at_call 95; refine (demand_false _ (unhide HE1)).mono ?_; rintro e w' ⟨⟨u, pv, rfl⟩, hw⟩; replace hw := hw.symm; subst hw)
      exact ⟨rfl, ⟨_, _, rfl⟩, unhide HB⟩
  · go_enter Tryz.func46, Tryz.ntmps46
    go_wp2_with fail
    refine (readKind_no t 6 _ hs hr (unhide HE)).mono ?_
    rintro e w1 ⟨⟨u, pv, rfl⟩, hb⟩
    have HB := hide (fr (unhide HA) hb)
    clear hb
    go_wp2
    exact ⟨rfl, ⟨_, _, rfl⟩, unhide HB⟩

theorem catchL_panicking (p : Addr) (x : Int) (u : TypeId) (pv : Value) (older : List PanicEntry) (w : World) (hc : w.cell? p = some (.int .i64 x)) (hz : w.frozen? p = false) :
    CallsD Tryz.prog 93 #[.pointer (some p)] (.panicking ({ v := .iface u pv, recovered := false } :: older)) w fun e u' w' =>
      e = .returned (.tuple #[]) ∧ u' = .panicking ({ v := .iface u pv, recovered := true } :: older) ∧ w' = w.setCell p (.int .i64 3) := by
  refine callsD_of_wpS Tryz.func93 rfl fun c₀ cs hu => ?_
  apply wpS_seq
  apply wpS_region
  simp [wpOpsS, go_sem, recoverD, hu, Tryz.ntmps93, Exit.thenS]
  refine wpS_cond (t := true) (by simp [Act.eval, Array.replicate]) ?_
  simp only [if_true]
  apply wpS_region
  simp [wpOpsS, go_sem, hc, hz, bodyPostS, results, Tryz.results93]

theorem catchL_idle (p : Addr) (w : World) :
    CallsD Tryz.prog 93 #[.pointer (some p)] .returning w fun e u' w' => e = .returned (.tuple #[]) ∧ u' = .returning ∧ w' = w := by
  refine callsD_of_wpS Tryz.func93 rfl fun c₀ cs hu => ?_
  apply wpS_seq
  apply wpS_region
  simp [wpOpsS, go_sem, recoverD, hu, Tryz.ntmps93, Exit.thenS]
  refine wpS_cond (t := false) (by simp [Act.eval, Array.replicate]) ?_
  simp only [Bool.false_eq_true, if_false]
  refine wpS_of_wp (wp_skip ?_)
  cases c₀
  simp_all [bodyPostS, results, Tryz.results93]

end Go.Proofs.YtefnapcegeojoaaGreatDoor

namespace Go.Proofs.YtefnapcegeojoaaGreatDoor
open Go.RowKit
set_option linter.unusedVariables false
set_option maxRecDepth 100000

theorem two_newL {w w1 : World} (hb : Below ((w.alloc (.cells #[.int .i64 0, .int .i64 0, .int .i64 0] 30)).alloc (.cells #[.int .i64 0] 3)).heap.size ((w.alloc (.cells #[.int .i64 0, .int .i64 0, .int .i64 0] 30)).alloc (.cells #[.int .i64 0] 3)) w1) : VarT w1 w.heap.size 30 0 0 0 ∧ w1.heap[w.heap.size + 1]? = some (.cells #[.int .i64 0] 3 (0, 0)) := by
  constructor
  · exact ((VarT.new w _ 0 0 0).below (Joins.below_alloc1 _ _)).below hb
  · rw [hb.block _ (by simp)]
    have := heap_alloc_new (w.alloc (.cells #[.int .i64 0, .int .i64 0, .int .i64 0] 30)) (.cells #[.int .i64 0] 3)
    simp only [World.size_alloc] at this
    exact this

set_option maxHeartbeats 1600000 in
theorem readTextL_yes (s : ByteArray) (w : World) (hs : s.size ≤ 65536) (hd : ldD s = true) :
    Calls Tryz.prog 45 #[.string s, .func (.func 46) #[] #[]] w fun e w' => e = .returned (.tuple #[lV (ldK s), .int .i64 0]) ∧ Below w.heap.size w w' := by
  have hmf : ∀ (fn : Fn) (first cap : Array Value) (w : World), (Instr.makeFunc fn first cap).run Tryz.prog w = .ok (.func fn first cap) w := fun _ _ _ _ => rfl
  have HD := hide hd
  clear hd
  go_enter_defers Tryz.func45, Tryz.ntmps45
  go_wp2_with fail
  refine (readLeader_yes s _ hs (unhide HD)).mono ?_
  rintro e w1 ⟨rfl, hb1⟩
  obtain ⟨hv, hblk⟩ := two_newL hb1
  obtain ⟨v0, v1, v2⟩ := hv.cells
  obtain ⟨f0, f1, f2⟩ := hv.free
  have hc0 := Joins.cell_of_block hblk 0
  have hf0 := Joins.unfrozen_of_block hblk 0
  simp only [List.size_toArray, List.length_cons, List.length_nil, Nat.zero_add, Nat.lt_add_one, getElem?_pos, List.getElem_toArray, List.getElem_cons_zero] at hc0
  have HB := hide (fr (Joins.below_alloc2 w _ _) hb1)
  clear hb1 hblk hv
  go_wp2
  refine leaves_cons (f := 93) (args := #[.pointer (some ⟨w.heap.size + 1, 0, none⟩)]) (by simp) (by simp [go_sem]) ?_
  refine (catchL_idle ⟨w.heap.size + 1, 0, none⟩ _).mono ?_
  rintro e u' w'' ⟨rfl, rfl, rfl⟩
  simp [Leaves, settle, results, Tryz.results45, go_sem, v0, v1, v2, hc0]
  exact (below3 (unhide HB) (Nat.le_refl _) 0 1 2 _ _ _).setCell (p := ⟨w.heap.size + 1, 0, none⟩) (Nat.le_succ _) _

set_option maxHeartbeats 1600000 in
theorem readTextL_no (s : ByteArray) (w : World) (hs : s.size ≤ 65536) (hd : ldD s = false) (hE : ErrW w) :
    Calls Tryz.prog 45 #[.string s, .func (.func 46) #[] #[]] w fun e w' => e = .returned (.tuple #[lV ld0, .int .i64 3]) ∧ Below w.heap.size w w' := by
  have hmf : ∀ (fn : Fn) (first cap : Array Value) (w : World), (Instr.makeFunc fn first cap).run Tryz.prog w = .ok (.func fn first cap) w := fun _ _ _ _ => rfl
  have HD := hide hd
  have HE := hide (hE.below (Joins.below_alloc2 w (.cells #[.int .i64 0, .int .i64 0, .int .i64 0] 30) (.cells #[.int .i64 0] 3)))
  clear hd hE
  go_enter_defers Tryz.func45, Tryz.ntmps45
  go_wp2_with fail
  refine (readLeader_no s _ hs (unhide HD) (unhide HE)).mono ?_
  rintro e w1 ⟨⟨u, pv, rfl⟩, hb1⟩
  obtain ⟨hv, hblk⟩ := two_newL hb1
  obtain ⟨v0, v1, v2⟩ := hv.cells
  have hc0 := Joins.cell_of_block hblk 0
  have hf0 := Joins.unfrozen_of_block hblk 0
  simp only [List.size_toArray, List.length_cons, List.length_nil, Nat.zero_add, Nat.lt_add_one, getElem?_pos, List.getElem_toArray, List.getElem_cons_zero] at hc0
  have HB := hide (fr (Joins.below_alloc2 w _ _) hb1)
  clear hb1 hblk hv
  go_wp2
  refine leaves_cons (f := 93) (args := #[.pointer (some ⟨w.heap.size + 1, 0, none⟩)]) (by simp) (by simp [go_sem]) ?_
  refine (catchL_panicking ⟨w.heap.size + 1, 0, none⟩ 0 u pv [] _ hc0 hf0).mono ?_
  rintro e u' w'' ⟨rfl, rfl, rfl⟩
  simp [Leaves, settle, results, Tryz.results45, go_sem, v0, v1, v2, hc0, ld0]
  exact (unhide HB).setCell (p := ⟨w.heap.size + 1, 0, none⟩) (Nat.le_succ _) _

theorem readTextL_long (s : ByteArray) (w : World) (hs : 65536 < s.size) (f : Value) :
    Calls Tryz.prog 45 #[.string s, f] w fun e w' => e = .returned (.tuple #[lV ld0, .int .i64 2]) ∧ Below w.heap.size w w' := by
  go_enter_defers Tryz.func45, Tryz.ntmps45
  go_wp2
  simp [bodyPostD, Leaves, results, Tryz.results45, go_sem, ld0]
  exact Joins.below_alloc2 _ _ _

set_option maxHeartbeats 1600000 in
theorem decodeLeader_impl (t : ByteArray) (w : World) (hE : ErrW w) : Calls Tryz.prog 15 #[.string t] w fun e w' => e = .returned (.tuple #[lV (lcK t), .int .i64 (lcC t)]) ∧ Below w.heap.size w w' := by
  have hmf : ∀ (fn : Fn) (first cap : Array Value) (w : World), (Instr.makeFunc fn first cap).run Tryz.prog w = .ok (.func fn first cap) w := fun _ _ _ _ => rfl
  have HA := hide (Joins.below_alloc1 w (.cells #[.int .i64 0, .int .i64 0, .int .i64 0] 30))
  have HE := hide (hE.below (unhide HA))
  have HV := hide (VarT.new w 30 0 0 0)
  clear hE
  obtain ⟨K, HK⟩ : ∃ K : Prop, Hid K := ⟨True, trivial⟩
  have key : ∀ (K1 : Ld) (d : Int), (lcK t = K1 ∧ lcC t = d) → (∀ W, ErrW W → Calls Tryz.prog 45 #[.string t, .func (.func 46) #[] #[]] W fun e w' => e = .returned (.tuple #[lV K1, .int .i64 d]) ∧ Below W.heap.size W w') →
      Calls Tryz.prog 15 #[.string t] w fun e w' => e = .returned (.tuple #[lV (lcK t), .int .i64 (lcC t)]) ∧ Below w.heap.size w w' := by
    intro K1 d hq hc
    have HQ := hide hq
    have HC := hide hc
    clear hq hc
    go_enter Tryz.func15, Tryz.ntmps15
    go_wp2_with fail
    refine (unhide HC _ (unhide HE)).mono ?_
    rintro e w1 ⟨rfl, hb⟩
    have HV1 := hide ((unhide HV).below hb)
    obtain ⟨hc0, hc1, hc2⟩ := (unhide HV1).cells
    obtain ⟨hf0, hf1, hf2⟩ := (unhide HV1).free
    have HB := hide (fun u v x => below3 (fr (unhide HA) hb) (Nat.le_refl _) 0 1 2 u v x)
    clear hb
    go_wp2
    refine bodyPost_ret (v := .tuple #[lV K1, .int .i64 d]) (by simp [results, Tryz.results15, go_sem, hc0, hc1, hc2]) rfl ⟨?_, unhide HB _ _ _⟩
    exact ret_li (unhide HQ).1.symm (unhide HQ).2.symm
  by_cases h1 : 65536 < t.size
  · exact key _ _ (lc_long h1) (fun W _ => readTextL_long t W h1 _)
  · by_cases hd : ldD t = true
    · exact key _ _ (lc_yes h1 hd) (fun W _ => readTextL_yes t W (by omega) hd)
    · rw [Bool.not_eq_true] at hd
      exact key _ _ (lc_no h1 hd) (fun W hW => readTextL_no t W (by omega) hd hW)

end Go.Proofs.YtefnapcegeojoaaGreatDoor

namespace Go.Proofs.YtefnapcegeojoaaGreatDoor
open Go.RowKit
set_option linter.unusedVariables false
set_option maxRecDepth 100000

set_option maxHeartbeats 1600000 in
theorem nobodySince_any (v : Int) (w : World) : Calls Tryz.prog 74 #[.int .i64 v] w fun e w' => e = .returned (lV (ldN v)) ∧ Below w.heap.size w w' := by
  go_enter Tryz.func74, Tryz.ntmps74
  go_wp2
  exact bodyPost_ret (v := lV (ldN v)) (by simp [results, Tryz.results74, go_sem, ldN]) rfl ⟨rfl, Joins.below_alloc1 _ _⟩

theorem seenAt (ao bo : Option Addr) (ca cb : Nat) (ss : List ByteArray) (xs : List Wr) (h a : Int) (T : ByteArray) (w : World) (hd : diskB ss xs = true) (h0 : 0 ≤ a) (h3 : a ≤ 63) (hT : readV ss xs h a = T) (h1 : Ss w ao ss) (h2 : Ios w bo xs) :
    Calls Tryz.prog 73 #[.agg #[.slice ao ss.length ca, .slice bo xs.length cb], .int .i64 h, .int .i64 a] w fun e w' => e = .returned (.string T) ∧ Below w.heap.size w w' := by
  obtain ⟨l1, l2⟩ := diskB_len hd
  obtain ⟨n, rfl⟩ := Int.eq_ofNat_of_zero_le h0
  subst hT
  exact seenBy_any ao bo ca cb ss xs h n w l2 (by omega) (by omega) h1 h2

set_option maxHeartbeats 1600000 in
theorem leaderSeen_any (ao bo : Option Addr) (ca cb : Nat) (ss : List ByteArray) (xs : List Wr) (h : Int) (L : Ld) (w : World) (hL : ldOf ss xs h = L) (hd : diskB ss xs = true) (h1 : Ss w ao ss) (h2 : Ios w bo xs) (hE : ErrW w) :
    Calls Tryz.prog 33 #[.agg #[.slice ao ss.length ca, .slice bo xs.length cb], .int .i64 h] w fun e w' => e = .returned (lV L) ∧ Below w.heap.size w w' := by
  have HS := hide (readV_size hd h 0)
  have HA := hide (Joins.below_alloc2 w (.cells #[.slice ao ss.length ca, .slice bo xs.length cb] 26) (.cells #[.int .i64 0, .int .i64 0, .int .i64 0] 30))
  have H1 := hide (h1.below (unhide HA))
  have H2 := hide (h2.below (unhide HA))
  have HE0 := hide (hE.below (unhide HA))
  have HR := hide (varL_new w (.cells #[.slice ao ss.length ca, .slice bo xs.length cb] 26) 0 0 0)
  obtain ⟨T, HT⟩ : ∃ T, Hid (readV ss xs h 0 = T) := ⟨_, hide rfl⟩
  have HK : Hid (ldK T = L) := hide (by rw [← unhide HT]; exact hL)
  rw [unhide HT] at HS
  have HD := hide hd
  clear h1 h2 hd hL hE
  go_enter Tryz.func33, Tryz.ntmps33
  go_wp2_with fail
  refine (seenAt _ _ _ _ ss xs h 0 T _ (unhide HD) (by decide) (by decide) (unhide HT) (unhide H1) (unhide H2)).mono ?_
  rintro e w1 ⟨rfl, hb1⟩
  have HB1 := hide (fr (unhide HA) hb1)
  have HR1 := hide ((unhide HR).below hb1)
  have HE1 := hide ((unhide HE0).below hb1)
  clear hb1
  go_wp2_with fail
  refine (decodeLeader_impl T _ (unhide HE1)).mono ?_
  rintro e w2 ⟨rfl, hb2⟩
  have HB2 := hide (fr (unhide HB1) hb2)
  have HR2 := hide ((unhide HR1).below hb2)
  clear hb2
  by_cases hd : ldD T = true
  · obtain ⟨y1, y2⟩ := lc_yes (t := T) (by have := unhide HS; omega) hd
    rw [y1, y2, unhide HK]
    clear y1 y2 hd
    obtain ⟨hc0, hc1, hc2⟩ := (unhide HR2).cells
    obtain ⟨hf0, hf1, hf2⟩ := (unhide HR2).free
    have hlt := (unhide HR2).lt
    have HE := hide (fun u v x => fr (below3 (g := w.heap.size + 1) (unhide HB2) (by omega) 0 1 2 u v x) (Joins.below_alloc1 _ (.cells #[.int .i64 L.ver, .int .i64 L.own, .int .i64 L.gen] 30)))
    go_wp2
    exact bodyPost_ret (v := lV L) (by simp [results, Tryz.results33, go_sem, hc0, hc1, hc2, hlt]) rfl ⟨rfl, unhide HE _ _ _⟩
  · rw [Bool.not_eq_true] at hd
    obtain ⟨y1, y2⟩ := lc_no (t := T) (by have := unhide HS; omega) hd
    have HY : Hid (ldN 0 = L) := hide (by rw [← ld_no hd]; exact unhide HK)
    rw [y1, y2]
    clear y1 y2 hd
    have HA3 := hide (Joins.below_alloc1 w2 (.cells #[.int .i64 ld0.ver, .int .i64 ld0.own, .int .i64 ld0.gen] 30))
    have HR3 := hide ((unhide HR2).below (unhide HA3))
    go_wp2_with fail
    refine (nobodySince_any 0 _).mono ?_
    rintro e w3 ⟨rfl, hb3⟩
    have HB3 := hide (fr (fr (unhide HB2) (unhide HA3)) hb3)
    have HR4 := hide ((unhide HR3).below hb3)
    clear hb3
    obtain ⟨hc0, hc1, hc2⟩ := (unhide HR4).cells
    obtain ⟨hf0, hf1, hf2⟩ := (unhide HR4).free
    have HE := hide (fun u v x => below3 (g := w.heap.size + 1) (unhide HB3) (by omega) 0 1 2 u v x)
    go_wp2
    exact bodyPost_ret (v := lV (ldN 0)) (by simp [results, Tryz.results33, go_sem, hc0, hc1, hc2]) rfl ⟨ret_l (unhide HY), unhide HE _ _ _⟩

end Go.Proofs.YtefnapcegeojoaaGreatDoor

namespace Go.Proofs.YtefnapcegeojoaaGreatDoor
open Go.RowKit
set_option linter.unusedVariables false
theorem below_w (w : World) (a b c d : Obj) : Below w.heap.size w ((((w.alloc a).alloc b).alloc c).alloc d) := fr (Joins.below_alloc2 _ _ _) (Joins.below_alloc2 _ _ _)
end Go.Proofs.YtefnapcegeojoaaGreatDoor

namespace Go.Proofs.YtefnapcegeojoaaGreatDoor
open Go.RowKit
set_option linter.unusedVariables false
set_option maxRecDepth 100000

set_option maxHeartbeats 1600000 in
theorem l05Of_any (x : Bk) (v : Int) (w : World) : Calls Tryz.prog 121 #[bV x, .int .i64 v] w fun e w' => e = .returned (bV (bkOf x v)) ∧ Below w.heap.size w w' := by
  by_cases h : x.ver < v
  · rw [show bkOf x v = ⟨v, 0, 0, 0⟩ from if_pos h]
    go_enter Tryz.func121, Tryz.ntmps121
    go_wp2
    exact bodyPost_ret (v := bV ⟨v, 0, 0, 0⟩) (by simp [results, Tryz.results121, go_sem]) rfl ⟨rfl, Joins.below_alloc2 _ _ _⟩
  · rw [show bkOf x v = x from if_neg h]
    go_enter Tryz.func121, Tryz.ntmps121
    go_wp2
    exact bodyPost_ret (v := bV x) (by simp [results, Tryz.results121, go_sem]) rfl ⟨rfl, Joins.below_alloc2 _ _ _⟩

set_option maxHeartbeats 3200000 in
theorem l05Write_any (p : Pxs) (own : Bk) (w : World) : Calls Tryz.prog 123 #[pV p, bV own] w fun e w' => e = .returned (.tuple #[pV (pxW1 p own), bV (pxW2 p own)]) ∧ Below w.heap.size w w' := by
  by_cases h : p.phase = 1
  · rw [show pxW1 p own = { p with phase := 2, next := 0, best := own.inp, bestBal := own.bal } from if_pos h, show pxW2 p own = ⟨p.ver, p.ballot, own.bal, own.inp⟩ from if_pos h]
    go_enter Tryz.func123, Tryz.ntmps123
    go_wp2
    go_region
    go_wp2
    exact bodyPost_ret (v := .tuple #[pV { p with phase := 2, next := 0, best := own.inp, bestBal := own.bal }, bV ⟨p.ver, p.ballot, own.bal, own.inp⟩]) (by simp [results, Tryz.results123, go_sem]) rfl ⟨rfl, by first | exact below_w _ _ _ _ _ | exact (below_w _ _ _ _ _).drew⟩
  · rw [show pxW1 p own = { p with phase := 4, next := 0 } from if_neg h, show pxW2 p own = ⟨p.ver, p.ballot, p.ballot, p.value⟩ from if_neg h]
    go_enter Tryz.func123, Tryz.ntmps123
    go_wp2
    go_region
    go_wp2
    exact bodyPost_ret (v := .tuple #[pV { p with phase := 4, next := 0 }, bV ⟨p.ver, p.ballot, p.ballot, p.value⟩]) (by simp [results, Tryz.results123, go_sem]) rfl ⟨rfl, by first | exact below_w _ _ _ _ _ | exact (below_w _ _ _ _ _).drew⟩

end Go.Proofs.YtefnapcegeojoaaGreatDoor

namespace Go.Proofs.YtefnapcegeojoaaGreatDoor
open Go.RowKit
set_option linter.unusedVariables false
set_option maxRecDepth 100000

structure PxAt (w W : World) (x : Nat) (p : Pxs) : Prop where
  v : VarP W x 63 p
  r : VarP W (x + 1) 63 p00
  k : Below w.heap.size w W
  ge : w.heap.size ≤ x
theorem PxAt.below {w W W' : World} {x : Nat} {p : Pxs} (h : PxAt w W x p) (hb : Below W.heap.size W W') : PxAt w W' x p := ⟨h.v.below hb, h.r.below hb, fr h.k hb, h.ge⟩
theorem PxAt.set {w W : World} {x : Nat} {p : Pxs} (h : PxAt w W x p) (i : Nat) (u : Value) (q : Pxs) (hv : VarP (W.setCell ⟨x, i, none⟩ u) x 63 q) : PxAt w (W.setCell ⟨x, i, none⟩ u) x q :=
  ⟨hv, h.r.keep ((Keep.refl (fun k => k = x) W).setCell (p := ⟨x, i, none⟩) rfl u) (by show ¬ x + 1 = x; omega), h.k.setCell (p := ⟨x, i, none⟩) h.ge u, h.ge⟩

def pxRd1 (p : Pxs) (bs : List Bk) : Pxs :=
  if p.next < 4 then
    (if p.ver < (bkOf (bs.getD p.next.toNat bk0) p.ver).ver ∨ p.ballot < (bkOf (bs.getD p.next.toNat bk0) p.ver).mbal then { p with phase := 6 } else pxEnd (pxLook p (bkOf (bs.getD p.next.toNat bk0) p.ver)))
  else pxEnd p
set_option maxHeartbeats 6400000 in
theorem l05Read_any (p : Pxs) (ao : Option Addr) (n cap : Nat) (bs : List Bk) (w : World) (hn : bs.length = n) (h4 : n = 4) (hh : 0 ≤ p.host ∧ p.host ≤ 3) (hx : 0 ≤ p.next ∧ p.next ≤ 4) (hr : Bks w ao bs) :
    Calls Tryz.prog 122 #[pV p, .slice ao n cap] w fun e w' => e = .returned (pV (pxRd p bs)) ∧ Below w.heap.size w w' := by
  have H0 : Hid (PxAt w ((w.alloc (.cells #[.int .i64 p.host, .int .i64 p.ver, .int .i64 p.phase, .int .i64 p.ballot, .int .i64 p.value, .int .i64 p.next, .int .i64 p.best, .int .i64 p.bestBal] 63)).alloc (.cells #[.int .i64 0, .int .i64 0, .int .i64 0, .int .i64 0, .int .i64 0, .int .i64 0, .int .i64 0, .int .i64 0] 63)) w.heap.size p) :=
    hide ⟨(VarP.new w _ p).below (Joins.below_alloc1 _ _), by
      have := VarP.new0 (w.alloc (.cells #[.int .i64 p.host, .int .i64 p.ver, .int .i64 p.phase, .int .i64 p.ballot, .int .i64 p.value, .int .i64 p.next, .int .i64 p.best, .int .i64 p.bestBal] 63)) 63
      simp only [World.size_alloc] at this
      exact this, Joins.below_alloc2 _ _ _, Nat.le_refl _⟩
  have HR := hide hr
  clear hr
  go_enter Tryz.func122, Tryz.ntmps122
  go_upto_region 1 with fail
  revert H0
  generalize (w.alloc (.cells #[.int .i64 p.host, .int .i64 p.ver, .int .i64 p.phase, .int .i64 p.ballot, .int .i64 p.value, .int .i64 p.next, .int .i64 p.best, .int .i64 p.bestBal] 63)).alloc (.cells #[.int .i64 0, .int .i64 0, .int .i64 0, .int .i64 0, .int .i64 0, .int .i64 0, .int .i64 0, .int .i64 0] 63) = W0
  intro H0
  have wr1 : IntKind.i64.wrap (p.next + 1) = p.next + 1 := by rw [IntKind.wrap_i64]; omega
  obtain ⟨c0, c1, c2, c3, c4, c5, c6, c7⟩ := (unhide H0).v.cells
  obtain ⟨f0, f1, f2, f3, f4, f5, f6, f7⟩ := (unhide H0).v.free
  go_upto_if 10 with fail
  go_cut [] from 6 to 14 (fun wx => Hid (PxAt w wx w.heap.size { p with next := skip p p.next }))
  case first =>
    by_cases e : p.next = p.host
    · have es : Hid (skip p p.next = p.next + 1) := hide (if_pos e)
      have e' : (p.next == p.host) = true := by simp [e]
      have E9 := hide ((unhide H0).set 5 (.int .i64 (p.next + 1)) { p with next := p.next + 1 } ((unhide H0).v.set5 _))
      clear e
      go_wp2_with fail
      go_meet
      rw [unhide es]
      exact E9
    · have es : Hid (skip p p.next = p.next) := hide (if_neg e)
      have e' : (p.next == p.host) = false := by simp [e]
      clear e
      go_wp2_with fail
      go_meet
      rw [unhide es]
      exact H0
  case rest =>
    clear c0 c1 c2 c3 c4 c5 c6 c7 f0 f1 f2 f3 f4 f5 f6 f7 H0 wr1
    have hp0 : 0 ≤ skip p p.next ∧ skip p p.next ≤ 4 := by unfold skip; split <;> omega
    have hd : Hid (pxRd p bs = pxRd1 { p with next := skip p p.next } bs) := hide rfl
    revert hcut hd hp0
    have hh1 : 0 ≤ ({ p with next := skip p p.next } : Pxs).host ∧ ({ p with next := skip p p.next } : Pxs).host ≤ 3 := hh
    revert hh1
    rw [show skip p p.next = ({ p with next := skip p p.next } : Pxs).next from rfl]
    generalize ({ p with next := skip p p.next } : Pxs) = q
    intro hh1 hcut hp0 hd
    subst h4
    rename World => W1
    obtain ⟨c0, c1, c2, c3, c4, c5, c6, c7⟩ := (unhide hcut).v.cells
    obtain ⟨f0, f1, f2, f3, f4, f5, f6, f7⟩ := (unhide hcut).v.free
    obtain ⟨r0, r1, r2, r3, r4, r5, r6, r7⟩ := (unhide hcut).r.cells
    obtain ⟨s0, s1, s2, s3, s4, s5, s6, s7⟩ := (unhide hcut).r.free
    have HC := hcut
    clear hcut hh hx
    go_upto_if 17 with fail
    go_cut [] from 15 to 68 (fun wx => ∃ z : Pxs, Hid (PxAt w wx w.heap.size z) ∧ Hid (pxRd p bs = pxEnd z))
    case first =>
      by_cases h4 : q.next < 4
      · have hd1 : Hid (pxRd p bs = (if q.ver < (bkOf (bs.getD q.next.toNat bk0) q.ver).ver ∨ q.ballot < (bkOf (bs.getD q.next.toNat bk0) q.ver).mbal then { q with phase := 6 } else pxEnd (pxLook q (bkOf (bs.getD q.next.toNat bk0) q.ver)))) := hide ((unhide hd).trans (if_pos h4))
        clear hd
        obtain ⟨k, hk⟩ : ∃ k : Nat, q.next = k := ⟨q.next.toNat, by omega⟩
        have hkl : k < bs.length := by omega
        rw [show q.next.toNat = k by omega] at hd1
        obtain ⟨b, off, rfl, hb, g0, g1, g2, g3⟩ := ((unhide HR).below (unhide HC).k).get k hkl
        revert hd1 g0 g1 g2 g3
        generalize bs.getD k bk0 = y
        intro hd1 g0 g1 g2 g3
        have hk4 : k < 4 := by omega
        have hk5 : (k : Int) < 4 := by omega
        have hk6 : (0 : Int) ≤ (k : Int) := by omega
        have hbn : b ≠ W1.heap.size := by omega
        have hxn : w.heap.size ≠ W1.heap.size := by have := (unhide HC).v.lt; omega
        have hxn1 : w.heap.size + 1 ≠ W1.heap.size := by have := (unhide HC).r.lt; omega
        have hxl : w.heap.size < W1.heap.size := (unhide HC).v.lt
        have hxl1 : w.heap.size + 1 < W1.heap.size := (unhide HC).r.lt
        have hbn' : W1.heap.size ≠ b := by omega
        have hxn' : W1.heap.size ≠ w.heap.size := by omega
        have hxn1' : W1.heap.size ≠ w.heap.size + 1 := by omega
        rw [hk] at c5
        go_upto_region 4 with fail
        go_cut [5] from 15 to 25 (fun c wx => ∃ C : Nat, c = .pointer (some ⟨C, 0, none⟩) ∧ Hid (Got W1 wx C 96 (bkOf y q.ver)))
        case first =>
          go_region_held3 (fun w' => w'.cell? ⟨w.heap.size, 5, none⟩ = some (.int .i64 (k : Int)) ∧ w'.cell? ⟨w.heap.size, 1, none⟩ = some (.int .i64 q.ver) ∧ w'.cell? ⟨b, off + k * 4, none⟩ = some (.int .i64 y.ver) ∧ w'.cell? ⟨b, off + k * 4 + 1, none⟩ = some (.int .i64 y.mbal) ∧ w'.cell? ⟨b, off + k * 4 + 2, none⟩ = some (.int .i64 y.bal) ∧ w'.cell? ⟨b, off + k * 4 + 3, none⟩ = some (.int .i64 y.inp)) (go_keep)
            ((go_at_call 121; refine (l05Of_any y q.ver _).mono ?_; rintro e w2 ⟨rfl, hb2⟩; (first | (have hv2 : VarB w2 W1.heap.size 96 bk0 := (by exact ((VarB.new0 W1 _).below ((Below.refl _ _).drew)).below hb2); obtain ⟨x0, x1, x2, x3⟩ := hv2.cells; obtain ⟨y0, y1, y2, y3⟩ := hv2.free; have HB2 : Hid (Below W1.heap.size W1 w2) := (by exact hide (fr (Joins.below_alloc1 W1 _).drew hb2)); have HV2 := hide hv2; clear hv2 hb2) | (have HB2 : Hid (Below W1.heap.size W1 w2) := (by exact hide (fr ((Below.refl _ W1).drew) hb2)); clear hb2)); have m0 := ((unhide HB2).cell (p := ⟨w.heap.size, 5, none⟩) hxl).trans c5; have m1 := ((unhide HB2).cell (p := ⟨w.heap.size, 1, none⟩) hxl).trans c1; have m2 := ((unhide HB2).cell (p := ⟨b, off + k * 4, none⟩) hb).trans g0; have m3 := ((unhide HB2).cell (p := ⟨b, off + k * 4 + 1, none⟩) hb).trans g1; have m4 := ((unhide HB2).cell (p := ⟨b, off + k * 4 + 2, none⟩) hb).trans g2; have m5 := ((unhide HB2).cell (p := ⟨b, off + k * 4 + 3, none⟩) hb).trans g3))
          all_goals
            go_wp2_with fail
            go_meet
            first
              | exact ⟨_, rfl, hide (Got.set bk0 (unhide HB2) (unhide HV2) (Nat.le_refl _))⟩
              | exact ⟨_, rfl, hide (Got.top _ _ (unhide HB2))⟩
        case rest =>
          obtain ⟨C, rfl, HG⟩ := hcut
          have HC2 := hide ((unhide HC).below (unhide HG).k)
          have hCl : C ≠ w.heap.size := by have := (unhide HC).v.lt; have := (unhide HG).gt; omega
          have hCr : C ≠ w.heap.size + 1 := by have := (unhide HC).r.lt; have := (unhide HG).gt; omega
          have hCl' : w.heap.size ≠ C := fun e => hCl e.symm
          have hCr' : w.heap.size + 1 ≠ C := fun e => hCr e.symm
          clear c0 c1 c2 c3 c4 c5 c6 c7 f0 f1 f2 f3 f4 f5 f6 f7 r0 r1 r2 r3 r4 r5 r6 r7 s0 s1 s2 s3 s4 s5 s6 s7 g0 g1 g2 g3 hb hbn hbn' hxn hxn1 hxn' hxn1' hxl hxl1 hk hk4 hk5 hk6 hkl HR
          obtain ⟨c0, c1, c2, c3, c4, c5, c6, c7⟩ := (unhide HC2).v.cells
          obtain ⟨f0, f1, f2, f3, f4, f5, f6, f7⟩ := (unhide HC2).v.free
          obtain ⟨r0, r1, r2, r3, r4, r5, r6, r7⟩ := (unhide HC2).r.cells
          obtain ⟨s0, s1, s2, s3, s4, s5, s6, s7⟩ := (unhide HC2).r.free
          obtain ⟨v0, v1, v2, v3⟩ := (unhide HG).v.cells
          revert hd1 v0 v1 v2 v3 HG
          generalize bkOf y q.ver = z
          intro hd1 HG v0 v1 v2 v3
          by_cases ha : q.ver < z.ver ∨ q.ballot < z.mbal
          · have HE : Hid (pxRd p bs = { q with phase := 6 }) := hide ((unhide hd1).trans (if_pos ha))
            have HK := hide (fun u u0 u1 u2 u3 u4 u5 u6 u7 => below8 ((unhide HC2).k.setCell (p := ⟨w.heap.size, 2, none⟩) (Nat.le_refl _) u) (show w.heap.size ≤ w.heap.size + 1 by omega) u0 u1 u2 u3 u4 u5 u6 u7)
            rcases Classical.em (q.ver < z.ver) with h1 | h1
            · go_wp2
              exact bodyPost_ret (v := pV { q with phase := 6 }) (by simp [results, Tryz.results122, go_sem, r0, r1, r2, r3, r4, r5, r6, r7]) rfl ⟨by rw [unhide HE], unhide HK _ _ _ _ _ _ _ _ _⟩
            · have h2 : q.ballot < z.mbal := by rcases ha with h | h; exact absurd h h1; exact h
              go_wp2
              exact bodyPost_ret (v := pV { q with phase := 6 }) (by simp [results, Tryz.results122, go_sem, r0, r1, r2, r3, r4, r5, r6, r7]) rfl ⟨by rw [unhide HE], unhide HK _ _ _ _ _ _ _ _ _⟩
          · have HE : Hid (pxRd p bs = pxEnd (pxLook q z)) := hide ((unhide hd1).trans (if_neg ha))
            have ha1 : ¬ q.ver < z.ver := fun h => ha (.inl h)
            have ha2 : ¬ q.ballot < z.mbal := fun h => ha (.inr h)
            clear ha hd1
            have wr1 : IntKind.i64.wrap (q.next + 1) = q.next + 1 := by rw [IntKind.wrap_i64]; omega
            have wr2 : IntKind.i64.wrap (q.next + 1 + 1) = q.next + 1 + 1 := by rw [IntKind.wrap_i64]; omega
            by_cases hq2 : q.phase = 2
            · by_cases hbb : q.bestBal < z.bal
              · by_cases hs1 : q.next + 1 = q.host
                · have hs2 : (q.next + 1 == q.host) = true := by simp [hs1]
                  have EL : Hid (pxLook q z = { q with best := z.inp, bestBal := z.bal, next := q.next + 1 + 1 }) := hide (by simp [pxLook, skip, hs1, hq2, hbb])
                  have E9 := hide ((((((((unhide HC2).set 6 (.int .i64 (z.inp)) _ ((unhide HC2).v.set6 _))).set 7 (.int .i64 (z.bal)) _ ((((unhide HC2).set 6 (.int .i64 (z.inp)) _ ((unhide HC2).v.set6 _))).v.set7 _))).set 5 (.int .i64 (q.next + 1)) _ ((((((unhide HC2).set 6 (.int .i64 (z.inp)) _ ((unhide HC2).v.set6 _))).set 7 (.int .i64 (z.bal)) _ ((((unhide HC2).set 6 (.int .i64 (z.inp)) _ ((unhide HC2).v.set6 _))).v.set7 _))).v.set5 _))).set 5 (.int .i64 (q.next + 1 + 1)) _ ((((((((unhide HC2).set 6 (.int .i64 (z.inp)) _ ((unhide HC2).v.set6 _))).set 7 (.int .i64 (z.bal)) _ ((((unhide HC2).set 6 (.int .i64 (z.inp)) _ ((unhide HC2).v.set6 _))).v.set7 _))).set 5 (.int .i64 (q.next + 1)) _ ((((((unhide HC2).set 6 (.int .i64 (z.inp)) _ ((unhide HC2).v.set6 _))).set 7 (.int .i64 (z.bal)) _ ((((unhide HC2).set 6 (.int .i64 (z.inp)) _ ((unhide HC2).v.set6 _))).v.set7 _))).v.set5 _))).v.set5 _))
                  clear hs1
                  go_wp2_with fail
                  go_meet
                  exact ⟨_, E9, hide (by rw [unhide HE, unhide EL])⟩
                · have hs2 : (q.next + 1 == q.host) = false := by simp [hs1]
                  have EL : Hid (pxLook q z = { q with best := z.inp, bestBal := z.bal, next := q.next + 1 }) := hide (by simp [pxLook, skip, hs1, hq2, hbb])
                  have E9 := hide ((((((unhide HC2).set 6 (.int .i64 (z.inp)) _ ((unhide HC2).v.set6 _))).set 7 (.int .i64 (z.bal)) _ ((((unhide HC2).set 6 (.int .i64 (z.inp)) _ ((unhide HC2).v.set6 _))).v.set7 _))).set 5 (.int .i64 (q.next + 1)) _ ((((((unhide HC2).set 6 (.int .i64 (z.inp)) _ ((unhide HC2).v.set6 _))).set 7 (.int .i64 (z.bal)) _ ((((unhide HC2).set 6 (.int .i64 (z.inp)) _ ((unhide HC2).v.set6 _))).v.set7 _))).v.set5 _))
                  clear hs1
                  go_wp2_with fail
                  go_meet
                  exact ⟨_, E9, hide (by rw [unhide HE, unhide EL])⟩
              · by_cases hs1 : q.next + 1 = q.host
                · have hs2 : (q.next + 1 == q.host) = true := by simp [hs1]
                  have EL : Hid (pxLook q z = { q with next := q.next + 1 + 1 }) := hide (by simp [pxLook, skip, hs1, hbb])
                  have E9 := hide ((((unhide HC2).set 5 (.int .i64 (q.next + 1)) _ ((unhide HC2).v.set5 _))).set 5 (.int .i64 (q.next + 1 + 1)) _ ((((unhide HC2).set 5 (.int .i64 (q.next + 1)) _ ((unhide HC2).v.set5 _))).v.set5 _))
                  clear hs1
                  go_wp2_with fail
                  go_meet
                  exact ⟨_, E9, hide (by rw [unhide HE, unhide EL])⟩
                · have hs2 : (q.next + 1 == q.host) = false := by simp [hs1]
                  have EL : Hid (pxLook q z = { q with next := q.next + 1 }) := hide (by simp [pxLook, skip, hs1, hbb])
                  have E9 := hide ((unhide HC2).set 5 (.int .i64 (q.next + 1)) _ ((unhide HC2).v.set5 _))
                  clear hs1
                  go_wp2_with fail
                  go_meet
                  exact ⟨_, E9, hide (by rw [unhide HE, unhide EL])⟩
            · by_cases hs1 : q.next + 1 = q.host
              · have hs2 : (q.next + 1 == q.host) = true := by simp [hs1]
                have EL : Hid (pxLook q z = { q with next := q.next + 1 + 1 }) := hide (by simp [pxLook, skip, hs1, hq2])
                have E9 := hide ((((unhide HC2).set 5 (.int .i64 (q.next + 1)) _ ((unhide HC2).v.set5 _))).set 5 (.int .i64 (q.next + 1 + 1)) _ ((((unhide HC2).set 5 (.int .i64 (q.next + 1)) _ ((unhide HC2).v.set5 _))).v.set5 _))
                clear hs1
                go_wp2_with fail
                go_meet
                exact ⟨_, E9, hide (by rw [unhide HE, unhide EL])⟩
              · have hs2 : (q.next + 1 == q.host) = false := by simp [hs1]
                have EL : Hid (pxLook q z = { q with next := q.next + 1 }) := hide (by simp [pxLook, skip, hs1, hq2])
                have E9 := hide ((unhide HC2).set 5 (.int .i64 (q.next + 1)) _ ((unhide HC2).v.set5 _))
                clear hs1
                go_wp2_with fail
                go_meet
                exact ⟨_, E9, hide (by rw [unhide HE, unhide EL])⟩
      · have hd1 : Hid (pxRd p bs = pxEnd q) := hide ((unhide hd).trans (if_neg h4))
        clear hd
        go_wp2_with fail
        go_meet
        exact ⟨q, HC, hd1⟩
    case rest =>
      obtain ⟨z, HZ, HE⟩ := hcut
      clear c0 c1 c2 c3 c4 c5 c6 c7 f0 f1 f2 f3 f4 f5 f6 f7 r0 r1 r2 r3 r4 r5 r6 r7 s0 s1 s2 s3 s4 s5 s6 s7 HC hd HR hp0 hh1
      obtain ⟨c0, c1, c2, c3, c4, c5, c6, c7⟩ := (unhide HZ).v.cells
      obtain ⟨f0, f1, f2, f3, f4, f5, f6, f7⟩ := (unhide HZ).v.free
      obtain ⟨r0, r1, r2, r3, r4, r5, r6, r7⟩ := (unhide HZ).r.cells
      obtain ⟨s0, s1, s2, s3, s4, s5, s6, s7⟩ := (unhide HZ).r.free
      have hne : w.heap.size ≠ w.heap.size + 1 := by omega
      have hne' : w.heap.size + 1 ≠ w.heap.size := by omega
      have HK0 := hide (fun u0 u1 u2 u3 u4 u5 u6 u7 => below8 (unhide HZ).k (show w.heap.size ≤ w.heap.size + 1 by omega) u0 u1 u2 u3 u4 u5 u6 u7)
      have HK1 := hide (fun u u0 u1 u2 u3 u4 u5 u6 u7 => below8 ((unhide HZ).k.setCell (p := ⟨w.heap.size, 2, none⟩) (Nat.le_refl _) u) (show w.heap.size ≤ w.heap.size + 1 by omega) u0 u1 u2 u3 u4 u5 u6 u7)
      have HK2 := hide (fun u v u0 u1 u2 u3 u4 u5 u6 u7 => below8 (((unhide HZ).k.setCell (p := ⟨w.heap.size, 2, none⟩) (Nat.le_refl _) u).setCell (p := ⟨w.heap.size, 4, none⟩) (Nat.le_refl _) v) (show w.heap.size ≤ w.heap.size + 1 by omega) u0 u1 u2 u3 u4 u5 u6 u7)
      by_cases h4 : z.next < 4
      · have EE : Hid (pxRd p bs = z) := hide ((unhide HE).trans (pxEnd_lt h4))
        go_wp2
        exact bodyPost_ret (v := pV z) (by simp [results, Tryz.results122, go_sem, r0, r1, r2, r3, r4, r5, r6, r7]) rfl ⟨by rw [unhide EE], unhide HK0 _ _ _ _ _ _ _ _⟩
      · by_cases hq4 : z.phase = 4
        · have EE : Hid (pxRd p bs = { z with phase := 5 }) := hide ((unhide HE).trans (pxEnd_4 h4 hq4))
          go_wp2
          exact bodyPost_ret (v := pV { z with phase := 5 }) (by simp [results, Tryz.results122, go_sem, r0, r1, r2, r3, r4, r5, r6, r7]) rfl ⟨by rw [unhide EE], unhide HK1 _ _ _ _ _ _ _ _ _⟩
        · by_cases hbb : 0 < z.bestBal
          · have EE : Hid (pxRd p bs = { z with phase := 3, value := z.best }) := hide ((unhide HE).trans (by unfold pxEnd; rw [if_neg h4, if_neg hq4, if_pos hbb]))
            go_wp2
            exact bodyPost_ret (v := pV { z with phase := 3, value := z.best }) (by simp [results, Tryz.results122, go_sem, r0, r1, r2, r3, r4, r5, r6, r7]) rfl ⟨by rw [unhide EE], unhide HK2 _ _ _ _ _ _ _ _ _ _⟩
          · have EE : Hid (pxRd p bs = { z with phase := 3 }) := hide ((unhide HE).trans (by unfold pxEnd; rw [if_neg h4, if_neg hq4, if_neg hbb]))
            go_wp2
            exact bodyPost_ret (v := pV { z with phase := 3 }) (by simp [results, Tryz.results122, go_sem, r0, r1, r2, r3, r4, r5, r6, r7]) rfl ⟨by rw [unhide EE], unhide HK1 _ _ _ _ _ _ _ _ _⟩

end Go.Proofs.YtefnapcegeojoaaGreatDoor

namespace Go.Proofs.YtefnapcegeojoaaGreatDoor
open Go.RowKit
set_option linter.unusedVariables false
section
variable {P : Program}
theorem wpList_append_fresh {w : World} {ops : Array Oper} {rest : List Oper} {o : Oper} {a : Act} {Q : Exit → Act → World → Prop} (hgd : o.guard = none) (s x : Operand) (t : TypeId)
    (ho : o.op = .call { callee := .builtin .append, args := #[s, x], argTypes := #[t, t] })
    (e : TypeId) (i : TypeInfo) (z : Value) (size bytes : Nat) (ht : P.underlying t = some (.slice e)) (hi : P.info? e = some i) (hz : i.zero = some z)
    (hsize : i.size = size) (hby : i.bytes = bytes) (hzs : z.cells.size = size) (hsz : 0 < size)
    (hs0 : isFresh (a.eval s) = true) (so : Option Addr) (m c : Nat) (news : List Value) (hx : a.eval x = .slice so m c) (hn : news.length = m * size)
    (hc : 0 < m → ∃ ad, so = some ad ∧ ∀ j u, news[j]? = some u → w.cell? (ad.add j) = some u) (b1 : m ≤ maxLen) (b2 : m * bytes ≤ 140737488355328)
    (hK : ∀ ao cap w', OwnR w' w.heap.size e size (.slice ao m cap) m news → w.grownBy w' none → wpList P ops Q rest (a.put o.dst (.slice ao m cap)) w') : wpList P ops Q (o :: rest) a w := by
  refine wpList_plain hgd fun K hK' => ?_
  obtain ⟨d, hs⟩ := isFresh_form hs0
  obtain ⟨ao, cap, w', hrun, r1, r2⟩ := run_append_fresh (P := P) w t o.type e i z size bytes ht hi hz hsize hby hzs hsz d so m c news hn hc b1 b2
  unfold Oper.wp
  simp [execOp, ho, resolve, invoke, builtin, hs, hx, hrun, Result.andThen]
  exact hK' _ _ (hK _ _ _ r1 r2)
end
end Go.Proofs.YtefnapcegeojoaaGreatDoor
