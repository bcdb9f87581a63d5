import Derived.Test.YtlhinknmbgijeabDoorRows
import Derived.Test.YtlhinknmbgijeabDoorLUpdatesPart1
import Derived.Test.YtlhinknmbgijeabDoorLUpdatesPart2
import Derived.Test.YtlhinknmbgijeabDoorLUpdatesPart6
import Derived.WalkKit
import Derived.WalkSpells
import Derived.BigQuiet
import Derived.Deep.QuietTactic
import Derived.Deep.RegionWith
import Derived.Defers
import Derived.Recover
import Derived.Test.YtlhinknmbgijeabDoorLUpdatesPart3
import Derived.Test.YtlhinknmbgijeabDoorLUpdatesPart5
import Derived.KernelRfl
import Derived.Lib.SmallJoins

/- Contract of impl.readRecord. -/
namespace Go.Proofs.YtlhinknmbgijeabDoor
open Go.RowKit
set_option linter.unusedVariables false
set_option maxRecDepth 100000

/-- The world when the head has been read: the result's variable, the head's. -/
structure HeadSt (w W : World) : Prop where
  blk : W.heap[w.heap.size]? = some (.cells #[.int .i64 0, .slice none 0 0] 118 (0, 0))
  size : w.heap.size + 2 ≤ W.heap.size
  below : Below w.heap.size w W
theorem HeadSt.mk' (w : World) (a b : Obj) (n : Nat) (ha : a = .cells #[.int .i64 0, .slice none 0 0] 118) : HeadSt w (((w.alloc a).alloc b).drewN n) := by
  subst ha
  have h : Below w.heap.size w ((w.alloc (.cells #[.int .i64 0, .slice none 0 0] 118)).alloc b) := Joins.below_alloc2 _ _ _
  refine ⟨?_, by simp, h.trans (Joins.below_draws _ _ _)⟩
  show ((w.alloc _).alloc b).heap[w.heap.size]? = _
  rw [(Joins.below_alloc1 _ b).block _ (by simp)]
  exact heap_alloc_new w _

theorem sum_rec (s : ByteArray) (n : Int) (w : World) (hs : s.size ≤ 65536) (h4 : 4 ≤ s.size) (hn : sumC (headT s ++ bodyT s) = n) : Calls Tryd.prog 75 #[.string (s.extract 0 2 ++ s.extract 4 s.size)] w fun e w' => e = .returned (.int .i64 n) ∧ w' = w := by
  subst hn
  exact sumOf_impl (headT s ++ bodyT s) w (by rw [ByteArray.size_append, bodyT_size, headT_size h4]; omega)

set_option maxHeartbeats 1600000 in
theorem readRecord_yes (s : ByteArray) (w : World) (hs : s.size ≤ 65536) (hr : RecP s) : Calls Tryd.prog 95 #[.string s] w fun e w' => ∃ v, e = .returned (.agg #[.int .i64 (byteAt s 0), v]) ∧ OwnN w' w.heap.size v (unL (bodyT s)) ∧ Below w.heap.size w w' := by
  obtain ⟨h4, hk, h3, hcnt, hsum, hok⟩ := hr
  have hc4 := copy4_at (w.alloc (.cells #[.int .i64 0, .slice none 0 0] 118)) (w.heap.size + 1) s (by simp) h4
  have h4i : (4 : Int) ≤ (s.size : Int) := by omega
  have b0 := byteAt_in s 0
  have b1 := byteAt_in s 1
  have b2 := byteAt_in s 2
  have HBZ := hide (bodyT_size s)
  have HHZ := hide (headT_size h4)
  have b3 : (byteAt s 3 == 0) = true := by simp [h3]
  have HSM : Hid (sumC (headT s ++ bodyT s) = byteAt s 2) := hide (by rw [hsum]; exact sumC_short (by rw [ByteArray.size_append, bodyT_size, headT_size h4]; omega))
  have HOK := hide hok
  have hlen : (((s.size - 4 : Nat) : Int) == byteAt s 1 * 4) = true := by rw [bodyT_size] at hcnt; simp [hcnt]
  clear h3 hcnt hsum hok
  go_enter Tryd.func95, Tryd.ntmps95
  go_wp2_with (first | (go_at_call 78; refine (demand_true _).mono ?_; rintro e w' ⟨rfl, hw⟩; replace hw := hw.symm; subst hw))
  go_quiet (fail)
  have HH := hide (HeadSt.mk' w (.cells #[.int .i64 0, .slice none 0 0] 118) (.cells #[.int .u8 (byteAt s 0), .int .u8 (byteAt s 1), .int .u8 (byteAt s 2), .int .u8 (byteAt s 3)] 102) nq rfl)
  revert HH
  generalize (((w.alloc (.cells #[.int .i64 0, .slice none 0 0] 118)).alloc (.cells #[.int .u8 (byteAt s 0), .int .u8 (byteAt s 1), .int .u8 (byteAt s 2), .int .u8 (byteAt s 3)] 102)).drewN nq) = W
  intro HH
  clear hc4
  go_wp2_with (first | (go_at_call 73; refine (kindOK_any _ _).mono ?_; rintro e w' ⟨rfl, hw⟩; replace hw := hw.symm; subst hw) | (go_at_call 78; refine (demand_true _).mono ?_; rintro e w' ⟨rfl, hw⟩; replace hw := hw.symm; subst hw) | (go_at_call 75; refine (sum_rec s _ _ hs h4 (unhide HSM)).mono ?_; rintro e w' ⟨rfl, hw⟩; replace hw := hw.symm; subst hw))
  refine (readNumbers_yes (bodyT s) _ (unhide HOK)).mono ?_
  rintro e w1 ⟨v, rfl, ⟨qo, qa, rfl, ho⟩, hb⟩
  have hblk : w1.heap[w.heap.size]? = some (.cells #[.int .i64 0, .slice none 0 0] 118 (0, 0)) := by
    rw [hb.block _ (by have := (unhide HH).size; omega)]; exact (unhide HH).blk
  have hc0 : w1.cell? ⟨w.heap.size, 0, none⟩ = some (.int .i64 0) := by rw [Joins.cell_of_block hblk]; rfl
  have hc1 : w1.cell? ⟨w.heap.size, 1, none⟩ = some (.slice none 0 0) := by rw [Joins.cell_of_block hblk]; rfl
  have hf0 := Joins.unfrozen_of_block hblk 0
  have hf1 := Joins.unfrozen_of_block hblk 1
  have HO := hide (ho.base (B' := w.heap.size + 1) (by have := (unhide HH).size; omega))
  have HB := hide (fr (unhide HH).below hb)
  clear ho hb hblk
  go_wp2
  exact bodyPost_ret (v := .agg #[.int .i64 (byteAt s 0), .slice qo (unL (bodyT s)).length qa]) (by simp [results, Tryd.results95, go_sem, hc0, hc1]) rfl
    ⟨.slice qo (unL (bodyT s)).length qa, rfl, ⟨qo, qa, rfl, (((unhide HO).setCell (a := ⟨w.heap.size, 0, none⟩) (Nat.lt_succ_self _) _).setCell (a := ⟨w.heap.size, 1, none⟩) (Nat.lt_succ_self _) _).base (Nat.le_succ _)⟩, ((unhide HB).setCell (p := ⟨w.heap.size, 0, none⟩) (Nat.le_refl _) _).setCell (p := ⟨w.heap.size, 1, none⟩) (Nat.le_refl _) _⟩

theorem readRecord_short (s : ByteArray) (w : World) (h4 : ¬ 4 ≤ s.size) (hE : ErrW w) : Calls Tryd.prog 95 #[.string s] w fun e w' => (∃ u pv, e = .panicked [{ v := .iface u pv, recovered := false }]) ∧ Below w.heap.size w w' := by
  have HE := hide (hE.below (Joins.below_alloc1 w (.cells #[.int .i64 0, .slice none 0 0] 118)))
  have h4i : ¬ (4 : Int) ≤ (s.size : Int) := by omega
  clear hE
  go_enter Tryd.func95, Tryd.ntmps95
  go_wp2_with (go_at_call 78; refine (demand_false _ (unhide HE)).mono ?_; rintro e w' ⟨⟨u, pv, rfl⟩, hw⟩; replace hw := hw.symm; subst hw)
  exact ⟨rfl, ⟨_, _, rfl⟩, Joins.below_alloc1 _ _⟩

set_option maxHeartbeats 1600000 in
theorem readRecord_kind (s : ByteArray) (w : World) (hs : s.size ≤ 65536) (h4 : 4 ≤ s.size) (hk : kindB (byteAt s 0) = false) (hE : ErrW w) : Calls Tryd.prog 95 #[.string s] w fun e w' => (∃ u pv, e = .panicked [{ v := .iface u pv, recovered := false }]) ∧ Below w.heap.size w w' := by
  have HE := hide hE
  clear hE
  have hc4 := copy4_at (w.alloc (.cells #[.int .i64 0, .slice none 0 0] 118)) (w.heap.size + 1) s (by simp) h4
  have h4i : (4 : Int) ≤ (s.size : Int) := by omega
  have b0 := byteAt_in s 0
  have b1 := byteAt_in s 1
  have b2 := byteAt_in s 2
  have HBZ := hide (bodyT_size s)
  have HHZ := hide (headT_size h4)
  go_enter Tryd.func95, Tryd.ntmps95
  go_wp2_with (first | (go_at_call 78; refine (demand_true _).mono ?_; rintro e w' ⟨rfl, hw⟩; replace hw := hw.symm; subst hw))
  go_quiet (fail)
  have HH := hide (HeadSt.mk' w (.cells #[.int .i64 0, .slice none 0 0] 118) (.cells #[.int .u8 (byteAt s 0), .int .u8 (byteAt s 1), .int .u8 (byteAt s 2), .int .u8 (byteAt s 3)] 102) nq rfl)
  revert HH
  generalize (((w.alloc (.cells #[.int .i64 0, .slice none 0 0] 118)).alloc (.cells #[.int .u8 (byteAt s 0), .int .u8 (byteAt s 1), .int .u8 (byteAt s 2), .int .u8 (byteAt s 3)] 102)).drewN nq) = W
  intro HH
  clear hc4
  go_wp2_with (first | (go_at_call 73; refine (kindOK_any _ _).mono ?_; rintro e w' ⟨rfl, hw⟩; replace hw := hw.symm; subst hw) | (go_at_call 78; refine (demand_false _ ((unhide HE).below (unhide HH).below)).mono ?_; rintro e w' ⟨⟨u, pv, rfl⟩, hw⟩; replace hw := hw.symm; subst hw))
  exact ⟨rfl, ⟨_, _, rfl⟩, (unhide HH).below⟩

set_option maxHeartbeats 1600000 in
theorem readRecord_last (s : ByteArray) (w : World) (hs : s.size ≤ 65536) (h4 : 4 ≤ s.size) (hk : kindB (byteAt s 0) = true) (h3 : byteAt s 3 ≠ 0) (hE : ErrW w) : Calls Tryd.prog 95 #[.string s] w fun e w' => (∃ u pv, e = .panicked [{ v := .iface u pv, recovered := false }]) ∧ Below w.heap.size w w' := by
  have HE := hide hE
  clear hE
  have hc4 := copy4_at (w.alloc (.cells #[.int .i64 0, .slice none 0 0] 118)) (w.heap.size + 1) s (by simp) h4
  have h4i : (4 : Int) ≤ (s.size : Int) := by omega
  have b0 := byteAt_in s 0
  have b1 := byteAt_in s 1
  have b2 := byteAt_in s 2
  have HBZ := hide (bodyT_size s)
  have HHZ := hide (headT_size h4)
  have b3 : (byteAt s 3 == 0) = false := by simp [h3]
  clear h3
  go_enter Tryd.func95, Tryd.ntmps95
  go_wp2_with (first | (go_at_call 78; refine (demand_true _).mono ?_; rintro e w' ⟨rfl, hw⟩; replace hw := hw.symm; subst hw))
  go_quiet (fail)
  have HH := hide (HeadSt.mk' w (.cells #[.int .i64 0, .slice none 0 0] 118) (.cells #[.int .u8 (byteAt s 0), .int .u8 (byteAt s 1), .int .u8 (byteAt s 2), .int .u8 (byteAt s 3)] 102) nq rfl)
  revert HH
  generalize (((w.alloc (.cells #[.int .i64 0, .slice none 0 0] 118)).alloc (.cells #[.int .u8 (byteAt s 0), .int .u8 (byteAt s 1), .int .u8 (byteAt s 2), .int .u8 (byteAt s 3)] 102)).drewN nq) = W
  intro HH
  clear hc4
  go_wp2_with (first | (go_at_call 73; refine (kindOK_any _ _).mono ?_; rintro e w' ⟨rfl, hw⟩; replace hw := hw.symm; subst hw) | (go_at_call 78; refine (demand_false _ ((unhide HE).below (unhide HH).below)).mono ?_; rintro e w' ⟨⟨u, pv, rfl⟩, hw⟩; replace hw := hw.symm; subst hw))
  exact ⟨rfl, ⟨_, _, rfl⟩, (unhide HH).below⟩

set_option maxHeartbeats 1600000 in
theorem readRecord_count (s : ByteArray) (w : World) (hs : s.size ≤ 65536) (h4 : 4 ≤ s.size) (hk : kindB (byteAt s 0) = true) (h3 : byteAt s 3 = 0) (hcnt : ((bodyT s).size : Int) ≠ byteAt s 1 * 4) (hE : ErrW w) : Calls Tryd.prog 95 #[.string s] w fun e w' => (∃ u pv, e = .panicked [{ v := .iface u pv, recovered := false }]) ∧ Below w.heap.size w w' := by
  have HE := hide hE
  clear hE
  have hc4 := copy4_at (w.alloc (.cells #[.int .i64 0, .slice none 0 0] 118)) (w.heap.size + 1) s (by simp) h4
  have h4i : (4 : Int) ≤ (s.size : Int) := by omega
  have b0 := byteAt_in s 0
  have b1 := byteAt_in s 1
  have b2 := byteAt_in s 2
  have HBZ := hide (bodyT_size s)
  have HHZ := hide (headT_size h4)
  have b3 : (byteAt s 3 == 0) = true := by simp [h3]
  have hlen : (((s.size - 4 : Nat) : Int) == byteAt s 1 * 4) = false := by rw [bodyT_size] at hcnt; simp [hcnt]
  clear h3 hcnt
  go_enter Tryd.func95, Tryd.ntmps95
  go_wp2_with (first | (go_at_call 78; refine (demand_true _).mono ?_; rintro e w' ⟨rfl, hw⟩; replace hw := hw.symm; subst hw))
  go_quiet (fail)
  have HH := hide (HeadSt.mk' w (.cells #[.int .i64 0, .slice none 0 0] 118) (.cells #[.int .u8 (byteAt s 0), .int .u8 (byteAt s 1), .int .u8 (byteAt s 2), .int .u8 (byteAt s 3)] 102) nq rfl)
  revert HH
  generalize (((w.alloc (.cells #[.int .i64 0, .slice none 0 0] 118)).alloc (.cells #[.int .u8 (byteAt s 0), .int .u8 (byteAt s 1), .int .u8 (byteAt s 2), .int .u8 (byteAt s 3)] 102)).drewN nq) = W
  intro HH
  clear hc4
  go_wp2_with (first | (go_at_call 73; refine (kindOK_any _ _).mono ?_; rintro e w' ⟨rfl, hw⟩; replace hw := hw.symm; subst hw) | (go_at_call 78; refine (demand_true _).mono ?_; rintro e w' ⟨rfl, hw⟩; replace hw := hw.symm; subst hw) | (go_at_call 78; refine (demand_false _ ((unhide HE).below (unhide HH).below)).mono ?_; rintro e w' ⟨⟨u, pv, rfl⟩, hw⟩; replace hw := hw.symm; subst hw))
  exact ⟨rfl, ⟨_, _, rfl⟩, (unhide HH).below⟩

set_option maxHeartbeats 1600000 in
theorem readRecord_sum (s : ByteArray) (w : World) (hs : s.size ≤ 65536) (h4 : 4 ≤ s.size) (hk : kindB (byteAt s 0) = true) (h3 : byteAt s 3 = 0) (hcnt : ((bodyT s).size : Int) = byteAt s 1 * 4) (hsum : byteAt s 2 ≠ sumS (headT s ++ bodyT s)) (hE : ErrW w) : Calls Tryd.prog 95 #[.string s] w fun e w' => (∃ u pv, e = .panicked [{ v := .iface u pv, recovered := false }]) ∧ Below w.heap.size w w' := by
  have HE := hide hE
  clear hE
  have hc4 := copy4_at (w.alloc (.cells #[.int .i64 0, .slice none 0 0] 118)) (w.heap.size + 1) s (by simp) h4
  have h4i : (4 : Int) ≤ (s.size : Int) := by omega
  have b0 := byteAt_in s 0
  have b1 := byteAt_in s 1
  have b2 := byteAt_in s 2
  have HBZ := hide (bodyT_size s)
  have HHZ := hide (headT_size h4)
  have b3 : (byteAt s 3 == 0) = true := by simp [h3]
  have hlen : (((s.size - 4 : Nat) : Int) == byteAt s 1 * 4) = true := by rw [bodyT_size] at hcnt; simp [hcnt]
  have HSM : Hid (sumC (headT s ++ bodyT s) = sumS (headT s ++ bodyT s)) := hide (sumC_short (by rw [ByteArray.size_append, bodyT_size, headT_size h4]; omega))
  have hsb : (byteAt s 2 == sumS (headT s ++ bodyT s)) = false := by simp [hsum]
  clear h3 hcnt hsum
  go_enter Tryd.func95, Tryd.ntmps95
  go_wp2_with (first | (go_at_call 78; refine (demand_true _).mono ?_; rintro e w' ⟨rfl, hw⟩; replace hw := hw.symm; subst hw))
  go_quiet (fail)
  have HH := hide (HeadSt.mk' w (.cells #[.int .i64 0, .slice none 0 0] 118) (.cells #[.int .u8 (byteAt s 0), .int .u8 (byteAt s 1), .int .u8 (byteAt s 2), .int .u8 (byteAt s 3)] 102) nq rfl)
  revert HH
  generalize (((w.alloc (.cells #[.int .i64 0, .slice none 0 0] 118)).alloc (.cells #[.int .u8 (byteAt s 0), .int .u8 (byteAt s 1), .int .u8 (byteAt s 2), .int .u8 (byteAt s 3)] 102)).drewN nq) = W
  intro HH
  clear hc4
  go_wp2_with (first | (go_at_call 73; refine (kindOK_any _ _).mono ?_; rintro e w' ⟨rfl, hw⟩; replace hw := hw.symm; subst hw) | (go_at_call 78; refine (demand_true _).mono ?_; rintro e w' ⟨rfl, hw⟩; replace hw := hw.symm; subst hw) | (go_at_call 75; refine (sum_rec s _ _ hs h4 (unhide HSM)).mono ?_; rintro e w' ⟨rfl, hw⟩; replace hw := hw.symm; subst hw) | (go_at_call 78; refine (demand_false _ ((unhide HE).below (unhide HH).below)).mono ?_; rintro e w' ⟨⟨u, pv, rfl⟩, hw⟩; replace hw := hw.symm; subst hw))
  exact ⟨rfl, ⟨_, _, rfl⟩, (unhide HH).below⟩

set_option maxHeartbeats 1600000 in
theorem readRecord_nums (s : ByteArray) (w : World) (hs : s.size ≤ 65536) (h4 : 4 ≤ s.size) (hk : kindB (byteAt s 0) = true) (h3 : byteAt s 3 = 0) (hcnt : ((bodyT s).size : Int) = byteAt s 1 * 4) (hsum : byteAt s 2 = sumS (headT s ++ bodyT s)) (hok : okU (bodyT s) = false) (hE : ErrW w) : Calls Tryd.prog 95 #[.string s] w fun e w' => (∃ u pv, e = .panicked [{ v := .iface u pv, recovered := false }]) ∧ Below w.heap.size w w' := by
  have HE := hide hE
  clear hE
  have hc4 := copy4_at (w.alloc (.cells #[.int .i64 0, .slice none 0 0] 118)) (w.heap.size + 1) s (by simp) h4
  have h4i : (4 : Int) ≤ (s.size : Int) := by omega
  have b0 := byteAt_in s 0
  have b1 := byteAt_in s 1
  have b2 := byteAt_in s 2
  have HBZ := hide (bodyT_size s)
  have HHZ := hide (headT_size h4)
  have b3 : (byteAt s 3 == 0) = true := by simp [h3]
  have hlen : (((s.size - 4 : Nat) : Int) == byteAt s 1 * 4) = true := by rw [bodyT_size] at hcnt; simp [hcnt]
  have HSM : Hid (sumC (headT s ++ bodyT s) = byteAt s 2) := hide (by rw [hsum]; exact sumC_short (by rw [ByteArray.size_append, bodyT_size, headT_size h4]; omega))
  have HOK := hide hok
  clear h3 hcnt hsum hok
  go_enter Tryd.func95, Tryd.ntmps95
  go_wp2_with (first | (go_at_call 78; refine (demand_true _).mono ?_; rintro e w' ⟨rfl, hw⟩; replace hw := hw.symm; subst hw))
  go_quiet (fail)
  have HH := hide (HeadSt.mk' w (.cells #[.int .i64 0, .slice none 0 0] 118) (.cells #[.int .u8 (byteAt s 0), .int .u8 (byteAt s 1), .int .u8 (byteAt s 2), .int .u8 (byteAt s 3)] 102) nq rfl)
  revert HH
  generalize (((w.alloc (.cells #[.int .i64 0, .slice none 0 0] 118)).alloc (.cells #[.int .u8 (byteAt s 0), .int .u8 (byteAt s 1), .int .u8 (byteAt s 2), .int .u8 (byteAt s 3)] 102)).drewN nq) = W
  intro HH
  clear hc4
  go_wp2_with (first | (go_at_call 73; refine (kindOK_any _ _).mono ?_; rintro e w' ⟨rfl, hw⟩; replace hw := hw.symm; subst hw) | (go_at_call 78; refine (demand_true _).mono ?_; rintro e w' ⟨rfl, hw⟩; replace hw := hw.symm; subst hw) | (go_at_call 75; refine (sum_rec s _ _ hs h4 (unhide HSM)).mono ?_; rintro e w' ⟨rfl, hw⟩; replace hw := hw.symm; subst hw))
  refine (readNumbers_no (bodyT s) _ (unhide HOK) ((unhide HE).below (unhide HH).below)).mono ?_
  rintro e w1 ⟨⟨u, pv, rfl⟩, hb⟩
  have HB := hide (fr (unhide HH).below hb)
  clear hb
  go_wp2
  exact ⟨rfl, ⟨u, pv, rfl⟩, unhide HB⟩

/-- readRecord panics at what is none. -/
theorem readRecord_no (s : ByteArray) (w : World) (hs : s.size ≤ 65536) (hr : ¬ RecP s) (hE : ErrW w) : Calls Tryd.prog 95 #[.string s] w fun e w' => (∃ u pv, e = .panicked [{ v := .iface u pv, recovered := false }]) ∧ Below w.heap.size w w' := by
  by_cases h4 : 4 ≤ s.size
  · cases hk : kindB (byteAt s 0) with
    | false => exact readRecord_kind s w hs h4 hk hE
    | true =>
      by_cases h3 : byteAt s 3 = 0
      · by_cases hcnt : ((bodyT s).size : Int) = byteAt s 1 * 4
        · by_cases hsum : byteAt s 2 = sumS (headT s ++ bodyT s)
          · cases hok : okU (bodyT s) with
            | false => exact readRecord_nums s w hs h4 hk h3 hcnt hsum hok hE
            | true => exact absurd ⟨h4, hk, h3, hcnt, hsum, hok⟩ hr
          · exact readRecord_sum s w hs h4 hk h3 hcnt hsum hE
        · exact readRecord_count s w hs h4 hk h3 hcnt hE
      · exact readRecord_last s w hs h4 hk h3 hE
  · exact readRecord_short s w h4 hE

end Go.Proofs.YtlhinknmbgijeabDoor

/- Contract of impl.readKind. -/
namespace Go.Proofs.YtlhinknmbgijeabDoor
open Go.RowKit
set_option linter.unusedVariables false
set_option maxRecDepth 100000

set_option maxHeartbeats 1600000 in
theorem readKind_yes (s : ByteArray) (k : Int) (w : World) (hs : s.size ≤ 65536) (hr : RecP s) (hk : byteAt s 0 = k) :
    Calls Tryd.prog 77 #[.string s, .int .i64 k] w fun e w' => ∃ v, e = .returned v ∧ OwnN w' w.heap.size v (unL (bodyT s)) ∧ Below w.heap.size w w' := by
  subst hk
  go_enter Tryd.func77, Tryd.ntmps77
  go_wp2_with fail
  refine (readRecord_yes s _ hs hr).mono ?_
  rintro e w1 ⟨v, rfl, ⟨qo, qa, rfl, ho⟩, hb⟩
  have HO := hide (ho.below (Joins.below_alloc1 _ (.cells #[.int .i64 (byteAt s 0), .slice qo (unL (bodyT s)).length qa] 118)))
  have HB := hide (fr hb (Joins.below_alloc1 _ (.cells #[.int .i64 (byteAt s 0), .slice qo (unL (bodyT s)).length qa] 118)))
  clear ho hb
  go_wp2_with (go_at_call 78; refine (demand_true _).mono ?_; rintro e w' ⟨rfl, hw⟩; replace hw := hw.symm; subst hw)
  go_ret
  exact ⟨.slice qo (unL (bodyT s)).length qa, rfl, ⟨qo, qa, rfl, unhide HO⟩, unhide HB⟩

set_option maxHeartbeats 1600000 in
theorem readKind_no (s : ByteArray) (k : Int) (w : World) (hs : s.size ≤ 65536) (hr : ¬ (RecP s ∧ byteAt s 0 = k)) (hE : ErrW w) :
    Calls Tryd.prog 77 #[.string s, .int .i64 k] w fun e w' => (∃ u pv, e = .panicked [{ v := .iface u pv, recovered := false }]) ∧ Below w.heap.size w w' := by
  by_cases hp : RecP s
  · have hkb : (byteAt s 0 == k) = false := by rw [beq_eq_false_iff_ne]; exact fun e => hr ⟨hp, e⟩
    have HE := hide hE
    clear hr hE
    go_enter Tryd.func77, Tryd.ntmps77
    go_wp2_with fail
    refine (readRecord_yes s _ hs hp).mono ?_
    rintro e w1 ⟨v, rfl, ⟨qo, qa, rfl, ho⟩, hb⟩
    have HB := hide (fr hb (Joins.below_alloc1 _ (.cells #[.int .i64 (byteAt s 0), .slice qo (unL (bodyT s)).length qa] 118)))
    clear ho hb
    go_wp2_with (go_at_call 78; refine (demand_false _ ((unhide HE).below (unhide HB))).mono ?_; rintro e w' ⟨⟨u, pv, rfl⟩, hw⟩; replace hw := hw.symm; subst hw)
    exact ⟨rfl, ⟨_, _, rfl⟩, unhide HB⟩
  · go_enter Tryd.func77, Tryd.ntmps77
    go_wp2_with fail
    refine (readRecord_no s _ hs hp hE).mono ?_
    rintro e w1 ⟨⟨u, pv, rfl⟩, hb⟩
    have HB := hide hb
    clear hb
    go_wp2
    exact ⟨rfl, ⟨_, _, rfl⟩, unhide HB⟩

end Go.Proofs.YtlhinknmbgijeabDoor

/- Contracts of the program's generations, the plain ones: genOK, DeltaOK, numbers, EncodeDelta. -/
namespace Go.Proofs.YtlhinknmbgijeabDoor
open Go.RowKit
set_option linter.unusedVariables false
set_option maxRecDepth 100000

theorem genOK_any (n : Int) (w : World) : Calls Tryd.prog 44 #[.int .i64 n] w fun e w' => e = .returned (.bool (inB n 1 1000000)) ∧ w' = w := by
  go_enter Tryd.func44, Tryd.ntmps44
  go_wp2_with fail
  refine (within_any n 1 1000000 _).mono ?_
  rintro e w1 ⟨rfl, rfl⟩
  go_wp2
  go_ret
  exact ⟨rfl, rfl⟩
theorem hourD_any (n : Int) (w : World) : Calls Tryd.prog 45 #[.int .i64 n] w fun e w' => e = .returned (.bool (inB n 0 10000000)) ∧ w' = w := by
  go_enter Tryd.func45, Tryd.ntmps45
  go_wp2_with fail
  refine (within_any n 0 10000000 _).mono ?_
  rintro e w1 ⟨rfl, rfl⟩
  go_wp2
  go_ret
  exact ⟨rfl, rfl⟩

set_option maxHeartbeats 1600000 in
theorem deltaOK_impl (h g s : Int) (w : World) : Calls Tryd.prog 14 #[dltV h g s] w fun e w' => e = .returned (.bool (dltB h g s)) ∧ Below w.heap.size w w' := by
  go_enter Tryd.func14, Tryd.ntmps14
  go_wp2_with fail
  refine (hostOK_any h _).mono ?_
  rintro e w1 ⟨rfl, rfl⟩
  by_cases h1 : inB h 0 3 = false
  · have hr := hide (dltB_1 (g := g) (s := s) h1)
    go_wp2
    go_ret
    rw [unhide hr]
    exact ⟨rfl, Joins.below_alloc1 _ _⟩
  rw [Bool.not_eq_false] at h1
  go_wp2_with fail
  refine (genOK_any g _).mono ?_
  rintro e w1 ⟨rfl, rfl⟩
  by_cases h2 : inB g 1 1000000 = false
  · have hr := hide (dltB_2 (h := h) (s := s) h2)
    go_wp2
    go_ret
    rw [unhide hr]
    exact ⟨rfl, Joins.below_alloc1 _ _⟩
  rw [Bool.not_eq_false] at h2
  have hr := hide (dltB_3 (s := s) h1 h2)
  go_wp2_with fail
  refine (hourD_any s _).mono ?_
  rintro e w1 ⟨rfl, rfl⟩
  go_wp2
  go_ret
  rw [unhide hr]
  exact ⟨rfl, Joins.below_alloc1 _ _⟩

theorem is3i (w : World) (n : Nat) (t : TypeId) (a b c : Int) (hn : w.heap.size = n) : Is (w.alloc (.cells #[.int .i64 a, .int .i64 b, .int .i64 c] t)) (some ⟨n, 0, none⟩) [a, b, c] := by
  subst hn
  intro i hi
  have hi' : i < 3 := hi
  refine ⟨w.heap.size, 0, rfl, ?_⟩
  rcases (show i = 0 ∨ i = 1 ∨ i = 2 by omega) with rfl | rfl | rfl <;> simp [go_sem]

set_option maxHeartbeats 1600000 in
theorem numbersD (h g s : Int) (w : World) : Calls Tryd.prog 39 #[dltV h g s] w fun e w' => ∃ ao, e = .returned (.slice ao 3 3) ∧ Is w' ao [h, g, s] ∧ Below w.heap.size w w' := by
  go_enter Tryd.func39, Tryd.ntmps39
  go_wp2
  go_ret
  exact ⟨_, rfl, is3i _ _ _ _ _ _ (by simp), Joins.below_alloc2 _ _ _⟩

theorem d3_ints {h g s : Int} (hd : dltB h g s = true) : intsB [h, g, s] = true := by
  obtain ⟨h1, h2, h3⟩ := dltB_iff.1 hd
  rw [intsB_len]
  · rfl
  · intro j hj
    have hj' : j < 3 := hj
    rcases (show j = 0 ∨ j = 1 ∨ j = 2 by omega) with rfl | rfl | rfl <;> simp [numB, inB] <;> omega
theorem d3_seal {h g s : Int} (hd : dltB h g s = true) : sealC 9 [h, g, s] = 0 ∧ sealT 9 [h, g, s] = encD h g s := by
  have hc : sealC 9 [h, g, s] = 0 := sealC_ok (listC_ok (by simp) (d3_ints hd)) rfl
  exact ⟨hc, sealT_ok hc⟩

set_option maxHeartbeats 1600000 in
theorem encodeDelta_impl (h g s : Int) (w : World) : Calls Tryd.prog 11 #[dltV h g s] w fun e w' => e = .returned (.tuple #[.string (encR h g s), .int .i64 (encC h g s)]) ∧ Below w.heap.size w w' := by
  have HA := hide (Joins.below_alloc1 w (.cells #[.int .i64 h, .int .i64 g, .int .i64 s] 30))
  have HV := hide (VarT.new w 30 h g s)
  go_enter Tryd.func11, Tryd.ntmps11
  go_wp2_with fail
  refine (deltaOK_impl h g s _).mono ?_
  rintro e w1 ⟨rfl, hb⟩
  have HB := hide (fr (unhide HA) hb)
  obtain ⟨hc0, hc1, hc2⟩ := ((unhide HV).below hb).cells
  clear hb
  by_cases hd : dltB h g s = true
  · have HE : Hid (encR h g s = encD h g s ∧ encC h g s = 0) := hide ⟨if_pos hd, if_pos hd⟩
    have HD := hide (d3_seal hd)
    go_wp2_with fail
    refine (numbersD h g s _).mono ?_
    rintro e w2 ⟨ao, rfl, hi, hb⟩
    have HB2 := hide (fr (unhide HB) hb)
    have HI := hide hi
    clear hb hi hc0 hc1 hc2
    go_wp2_with fail
    refine (sealRecord_impl 9 ao 3 [h, g, s] _ (by simp) (unhide HI)).mono ?_
    rintro e w3 ⟨rfl, hb⟩
    have HB3 := hide (fr (unhide HB2) hb)
    clear hb
    rw [(unhide HD).1, (unhide HD).2]
    go_wp2
    go_ret2
    exact ⟨ret_sd (unhide HE).1.symm (unhide HE).2.symm, unhide HB3⟩
  · have HE : Hid (encR h g s = ⟨#[]⟩ ∧ encC h g s = 1) := hide ⟨if_neg hd, if_neg hd⟩
    rw [Bool.not_eq_true] at hd
    go_wp2
    go_ret2
    exact ⟨ret_sd (unhide HE).1.symm (unhide HE).2.symm, unhide HB⟩

end Go.Proofs.YtlhinknmbgijeabDoor

/- Contracts of impl.readDelta, impl.readText at a generation, impl.DecodeDelta. -/
namespace Go.Proofs.YtlhinknmbgijeabDoor
open Go.RowKit
set_option linter.unusedVariables false
set_option maxRecDepth 100000

theorem openB_iff {t : ByteArray} {k : Int} : openB t k = true ↔ RecP t ∧ byteAt t 0 = k := by
  simp only [openB, Bool.and_eq_true, decide_eq_true_eq, recB_iff]
theorem dec_open {t : ByteArray} (h : decB t = true) : (RecP t ∧ byteAt t 0 = 9) ∧ ∃ a b c, unL (bodyT t) = [a, b, c] ∧ dltB a b c = true ∧ decH t = a ∧ decG t = b ∧ decS t = c := by
  have h' := h
  simp only [decB, Bool.and_eq_true, decide_eq_true_eq] at h'
  obtain ⟨ho, hl, hd⟩ := h'
  obtain ⟨a, b, c, e⟩ := three hl
  rw [e] at hd
  refine ⟨openB_iff.1 ho, a, b, c, ?_, hd, dec_yes h e⟩
  rw [← e, decL, openL_yes ho]
theorem dec_shut {t : ByteArray} (h : decB t = false) (ho : RecP t ∧ byteAt t 0 = 9) (hl : (unL (bodyT t)).length = 3) : ∃ a b c, unL (bodyT t) = [a, b, c] ∧ dltB a b c = false := by
  have ho' := openB_iff.2 ho
  obtain ⟨a, b, c, e⟩ := three hl
  refine ⟨a, b, c, e, ?_⟩
  have e' : decL t = [a, b, c] := by rw [← e, decL, openL_yes ho']
  rw [← decB_at ho' e']; exact h

set_option maxHeartbeats 1600000 in
theorem readDelta_yes (t : ByteArray) (w : World) (hs : t.size ≤ 65536) (hd : decB t = true) :
    Calls Tryd.prog 41 #[.string t] w fun e w' => e = .returned (dltV (decH t) (decG t) (decS t)) ∧ Below w.heap.size w w' := by
  obtain ⟨⟨hr, hk⟩, a, b, c, hl, hdd, e1, e2, e3⟩ := dec_open hd
  rw [e1, e2, e3]
  have HL := hide hl
  have HDD := hide hdd
  have HR := hide hr
  have HK := hide hk
  clear hl hdd e1 e2 e3 hr hk hd
  have HA := hide (Joins.below_alloc1 w (.cells #[.int .i64 0, .int .i64 0, .int .i64 0] 30))
  have HV := hide (VarT.new w 30 0 0 0)
  go_enter Tryd.func41, Tryd.ntmps41
  go_wp2_with fail
  refine (readKind_yes t 9 _ hs (unhide HR) (unhide HK)).mono ?_
  rintro e w1 ⟨v, rfl, ⟨qo, qa, rfl, ho⟩, hb⟩
  have HB := hide (fr (unhide HA) hb)
  have HB1 := hide hb
  have hI := ownRN ho
  rw [unhide HL] at hI ⊢
  obtain ⟨g, off, rfl, hi0⟩ := hI 0 (by simp)
  obtain ⟨g', off', he, hi1⟩ := hI 1 (by simp)
  cases he
  obtain ⟨g', off', he, hi2⟩ := hI 2 (by simp)
  cases he
  simp only [List.getElem_cons_zero, List.getElem_cons_succ, Nat.add_zero] at hi0 hi1 hi2
  have hg := World.block_lt_of_cell? _ _ hi0
  clear hI ho hb
  simp only [List.length_cons, List.length_nil, Nat.zero_add, Nat.reduceAdd]
  go_wp2_with (go_at_call 78; refine (demand_true _).mono ?_; rintro e w' ⟨rfl, hw⟩; replace hw := hw.symm; subst hw)
  have HA2 := hide (Joins.below_alloc1 w1 (.cells #[.int .i64 a, .int .i64 b, .int .i64 c] 30)).drew
  have HV2 := hide (((unhide HV).below (unhide HB1)).below (unhide HA2))
  have HV3 : Hid (VarT (w1.alloc (.cells #[.int .i64 a, .int .i64 b, .int .i64 c] 30)).drew w1.heap.size 30 a b c) := hide ((VarT.new w1 30 a b c).below (Below.refl _ _).drew)
  have HB2 := hide (fr (unhide HB) (unhide HA2))
  go_region
  go_wp2_with fail
  refine (deltaOK_impl a b c _).mono ?_
  rintro e w2 ⟨rfl, hb2⟩
  rw [unhide HDD]
  have HB3 := hide (fr (unhide HB2) hb2)
  obtain ⟨hc0, hc1, hc2⟩ := ((unhide HV2).below hb2).cells
  obtain ⟨hf0, hf1, hf2⟩ := ((unhide HV2).below hb2).free
  obtain ⟨hx0, hx1, hx2⟩ := ((unhide HV3).below hb2).cells
  have HR3 := hide (fun u v x => below3 (unhide HB3) (Nat.le_refl _) 0 1 2 u v x)
  clear hb2 hi0 hi1 hi2
  go_wp2_with (go_at_call 78; refine (demand_true _).mono ?_; rintro e w' ⟨rfl, hw⟩; replace hw := hw.symm; subst hw)
  exact bodyPost_ret (v := dltV a b c) (by simp [results, Tryd.results41, go_sem, hc0, hc1, hc2]) rfl ⟨rfl, unhide HR3 _ _ _⟩

set_option maxHeartbeats 1600000 in
theorem readDelta_no (t : ByteArray) (w : World) (hs : t.size ≤ 65536) (hd : decB t = false) (hE : ErrW w) :
    Calls Tryd.prog 41 #[.string t] w fun e w' => (∃ u pv, e = .panicked [{ v := .iface u pv, recovered := false }]) ∧ Below w.heap.size w w' := by
  have HA := hide (Joins.below_alloc1 w (.cells #[.int .i64 0, .int .i64 0, .int .i64 0] 30))
  have HE := hide (hE.below (unhide HA))
  clear hE
  by_cases hr : RecP t ∧ byteAt t 0 = 9
  · obtain ⟨hr1, hr2⟩ := hr
    by_cases hl : (unL (bodyT t)).length = 3
    · obtain ⟨a, b, c, hl, hdd⟩ := dec_shut hd ⟨hr1, hr2⟩ hl
      have HL := hide hl
      have HDD := hide hdd
      have HR := hide hr1
      have HK := hide hr2
      clear hl hdd hr1 hr2 hd
      go_enter Tryd.func41, Tryd.ntmps41
      go_wp2_with fail
      refine (readKind_yes t 9 _ hs (unhide HR) (unhide HK)).mono ?_
      rintro e w1 ⟨v, rfl, ⟨qo, qa, rfl, ho⟩, hb⟩
      have HB := hide (fr (unhide HA) hb)
      have HE1 := hide ((unhide HE).below hb)
      have hI := ownRN ho
      rw [unhide HL] at hI ⊢
      obtain ⟨g, off, rfl, hi0⟩ := hI 0 (by simp)
      obtain ⟨g', off', he, hi1⟩ := hI 1 (by simp)
      cases he
      obtain ⟨g', off', he, hi2⟩ := hI 2 (by simp)
      cases he
      simp only [List.getElem_cons_zero, List.getElem_cons_succ, Nat.add_zero] at hi0 hi1 hi2
      have hg := World.block_lt_of_cell? _ _ hi0
      clear hI ho hb
      simp only [List.length_cons, List.length_nil, Nat.zero_add, Nat.reduceAdd]
      go_wp2_with (go_at_call 78; refine (demand_true _).mono ?_; rintro e w' ⟨rfl, hw⟩; replace hw := hw.symm; subst hw)
      have HA2 := hide (Joins.below_alloc1 w1 (.cells #[.int .i64 a, .int .i64 b, .int .i64 c] 30)).drew
      have HV3 : Hid (VarT (w1.alloc (.cells #[.int .i64 a, .int .i64 b, .int .i64 c] 30)).drew w1.heap.size 30 a b c) := hide ((VarT.new w1 30 a b c).below (Below.refl _ _).drew)
      have HB2 := hide (fr (unhide HB) (unhide HA2))
      go_region
      go_wp2_with fail
      refine (deltaOK_impl a b c _).mono ?_
      rintro e w2 ⟨rfl, hb2⟩
      rw [unhide HDD]
      have HB3 := hide (fr (unhide HB2) hb2)
      have HE2 := hide (((unhide HE1).below (unhide HA2)).below hb2)
      clear hb2 hi0 hi1 hi2
      go_wp2_with (go_at_call 78; refine (demand_false _ (unhide HE2)).mono ?_; rintro e w' ⟨⟨u, pv, rfl⟩, hw⟩; replace hw := hw.symm; subst hw)
      exact ⟨rfl, ⟨_, _, rfl⟩, unhide HB3⟩
    · have hl3 : ((((unL (bodyT t)).length : Nat) : Int) == 3) = false := by rw [beq_eq_false_iff_ne]; omega
      have HR := hide hr1
      have HK := hide hr2
      clear hl hr1 hr2 hd
      go_enter Tryd.func41, Tryd.ntmps41
      go_wp2_with fail
      refine (readKind_yes t 9 _ hs (unhide HR) (unhide HK)).mono ?_
      rintro e w1 ⟨v, rfl, ⟨qo, qa, rfl, ho⟩, hb⟩
      have HB := hide (fr (unhide HA) hb)
      have HE1 := hide ((unhide HE).below hb)
      clear ho hb
      go_wp2_with (go_at_call 78; refine (demand_false _ (unhide HE1)).mono ?_; rintro e w' ⟨⟨u, pv, rfl⟩, hw⟩; replace hw := hw.symm; subst hw)
      exact ⟨rfl, ⟨_, _, rfl⟩, unhide HB⟩
  · go_enter Tryd.func41, Tryd.ntmps41
    go_wp2_with fail
    refine (readKind_no t 9 _ hs hr (unhide HE)).mono ?_
    rintro e w1 ⟨⟨u, pv, rfl⟩, hb⟩
    have HB := hide (fr (unhide HA) hb)
    clear hb
    go_wp2
    exact ⟨rfl, ⟨_, _, rfl⟩, unhide HB⟩

theorem catchD_panicking (p : Addr) (x : Int) (u : TypeId) (pv : Value) (older : List PanicEntry) (w : World) (hc : w.cell? p = some (.int .i64 x)) (hz : w.frozen? p = false) :
    CallsD Tryd.prog 76 #[.pointer (some p)] (.panicking ({ v := .iface u pv, recovered := false } :: older)) w fun e u' w' =>
      e = .returned (.tuple #[]) ∧ u' = .panicking ({ v := .iface u pv, recovered := true } :: older) ∧ w' = w.setCell p (.int .i64 3) := by
  refine callsD_of_wpS Tryd.func76 rfl fun c₀ cs hu => ?_
  apply wpS_seq
  apply wpS_region
  simp [wpOpsS, go_sem, recoverD, hu, Tryd.ntmps76, Exit.thenS]
  refine wpS_cond (t := true) (by simp [Act.eval, Array.replicate]) ?_
  simp only [if_true]
  apply wpS_region
  simp [wpOpsS, go_sem, hc, hz, bodyPostS, results, Tryd.results76]

theorem catchD_idle (p : Addr) (w : World) :
    CallsD Tryd.prog 76 #[.pointer (some p)] .returning w fun e u' w' => e = .returned (.tuple #[]) ∧ u' = .returning ∧ w' = w := by
  refine callsD_of_wpS Tryd.func76 rfl fun c₀ cs hu => ?_
  apply wpS_seq
  apply wpS_region
  simp [wpOpsS, go_sem, recoverD, hu, Tryd.ntmps76, Exit.thenS]
  refine wpS_cond (t := false) (by simp [Act.eval, Array.replicate]) ?_
  simp only [Bool.false_eq_true, if_false]
  refine wpS_of_wp (wp_skip ?_)
  cases c₀
  simp_all [bodyPostS, results, Tryd.results76]

end Go.Proofs.YtlhinknmbgijeabDoor

/- Contracts of impl.readUpdate, impl.readText at an update, impl.DecodeUpdate. -/
namespace Go.Proofs.YtlhinknmbgijeabDoor
open Go.RowKit
set_option linter.unusedVariables false
set_option maxRecDepth 100000

theorem du_open {t : ByteArray} (h : 8 ≤ t.size) (ho : RecP (t.extract 0 8) ∧ byteAt (t.extract 0 8) 0 = 8) : ∃ a, unL (bodyT (t.extract 0 8)) = [a] ∧ duX t = ⟨a, t.extract 8 t.size⟩ ∧ duB t = upB ⟨a, t.extract 8 t.size⟩ := by
  have ho' : openB (duH t) 8 = true := openB_iff.2 ho
  have e := duL_eq h ho'
  refine ⟨(duX t).at_, ?_, duX_at e, ?_⟩
  · rw [← openL_yes ho']; exact e
  · rw [duB_at h ho', ← duX_at e]
theorem duB_opens {t : ByteArray} (h : duB t = true) : 8 ≤ t.size ∧ RecP (t.extract 0 8) ∧ byteAt (t.extract 0 8) 0 = 8 := by
  obtain ⟨h1, h2, h3⟩ := duB_parts h
  exact ⟨h1, openB_iff.1 h2⟩

set_option maxHeartbeats 1600000 in
theorem readUpdate_yes (t : ByteArray) (w : World) (hs : t.size ≤ 65536) (hd : duB t = true) :
    Calls Tryd.prog 61 #[.string t] w fun e w' => e = .returned (uV (duU t)) ∧ Below w.heap.size w w' := by
  obtain ⟨h8, hr, hk⟩ := duB_opens hd
  obtain ⟨a, hl, hx, hbu⟩ := du_open h8 ⟨hr, hk⟩
  have HU : Hid (duU t = ⟨a, t.extract 8 t.size⟩) := hide ((du_yes hd).trans hx)
  have HDD : Hid (upB ⟨a, t.extract 8 t.size⟩ = true) := hide (by rw [← hbu]; exact hd)
  have HZ : Hid ((t.extract 8 t.size).size ≤ maxLen) := hide (by rw [duT_size]; unfold maxLen; omega)
  have HL := hide hl
  have HR := hide hr
  have HK := hide hk
  have HS : Hid ((t.extract 0 8).size ≤ 65536) := hide (by rw [duH_size h8]; omega)
  have h8' : ((8 : Int) ≤ (t.size : Int)) := by omega
  clear hl hx hbu hr hk hd
  have HA := hide (Joins.below_alloc1 w (.cells #[.int .i64 0, .string ⟨#[]⟩] 52))
  have HV := hide (VarU.new w 52 up0)
  go_enter Tryd.func61, Tryd.ntmps61
  go_wp2_with (go_at_call 78; refine (demand_true _).mono ?_; rintro e w' ⟨rfl, hw⟩; replace hw := hw.symm; subst hw)
  refine (readKind_yes (t.extract 0 8) 8 _ (unhide HS) (unhide HR) (unhide HK)).mono ?_
  rintro e w1 ⟨v, rfl, ⟨qo, qa, rfl, ho⟩, hb⟩
  have HB := hide (fr (unhide HA) hb)
  have HB1 := hide hb
  have hI := ownRN ho
  rw [unhide HL] at hI ⊢
  obtain ⟨g, off, rfl, hi0⟩ := hI 0 (by simp)
  simp only [List.getElem_cons_zero, Nat.add_zero] at hi0
  have hg := World.block_lt_of_cell? _ _ hi0
  clear hI ho hb
  simp only [List.length_cons, List.length_nil, Nat.zero_add]
  go_wp2_with fail
  have HA2 := hide (Joins.below_alloc1 w1 (.cells #[.int .i64 a, .string (t.extract 8 t.size)] 52)).drew
  have HV2 := hide (((unhide HV).below (unhide HB1)).below (unhide HA2))
  have HV3 : Hid (VarU (w1.alloc (.cells #[.int .i64 a, .string (t.extract 8 t.size)] 52)).drew w1.heap.size 52 ⟨a, t.extract 8 t.size⟩) := hide ((VarU.new w1 52 ⟨a, t.extract 8 t.size⟩).below (Below.refl _ _).drew)
  have HB2 := hide (fr (unhide HB) (unhide HA2))
  go_region
  go_wp2_with fail
  refine (updateOK_any ⟨a, t.extract 8 t.size⟩ _ (unhide HZ)).mono ?_
  rintro e w2 ⟨rfl, hb2⟩
  rw [unhide HDD]
  have HB3 := hide (fr (unhide HB2) hb2)
  obtain ⟨hc0, hc1⟩ := ((unhide HV2).below hb2).cells
  obtain ⟨hf0, hf1⟩ := ((unhide HV2).below hb2).free
  obtain ⟨hx0, hx1⟩ := ((unhide HV3).below hb2).cells
  have HR3 := hide (fun u v => below2 (unhide HB3) (Nat.le_refl _) 0 1 u v)
  clear hb2 hi0
  go_wp2_with (go_at_call 78; refine (demand_true _).mono ?_; rintro e w' ⟨rfl, hw⟩; replace hw := hw.symm; subst hw)
  refine bodyPost_ret (v := uV ⟨a, t.extract 8 t.size⟩) (by simp [results, Tryd.results61, go_sem, hc0, hc1]) rfl ⟨?_, unhide HR3 _ _⟩
  rw [unhide HU]

set_option maxHeartbeats 1600000 in
theorem readUpdate_no (t : ByteArray) (w : World) (hs : t.size ≤ 65536) (hd : duB t = false) (hE : ErrW w) :
    Calls Tryd.prog 61 #[.string t] w fun e w' => (∃ u pv, e = .panicked [{ v := .iface u pv, recovered := false }]) ∧ Below w.heap.size w w' := by
  have HA := hide (Joins.below_alloc1 w (.cells #[.int .i64 0, .string ⟨#[]⟩] 52))
  have HE := hide (hE.below (unhide HA))
  clear hE
  by_cases h8 : (8 : Int) ≤ (t.size : Int)
  · have HS : Hid ((t.extract 0 8).size ≤ 65536) := hide (by rw [duH_size (by omega)]; omega)
    by_cases hr : RecP (t.extract 0 8) ∧ byteAt (t.extract 0 8) 0 = 8
    · obtain ⟨a, hl, hx, hbu⟩ := du_open (by omega) hr
      have HDD : Hid (upB ⟨a, t.extract 8 t.size⟩ = false) := hide (by rw [← hbu]; exact hd)
      have HZ : Hid ((t.extract 8 t.size).size ≤ maxLen) := hide (by rw [duT_size]; unfold maxLen; omega)
      have HL := hide hl
      have HR := hide hr
      clear hl hx hbu hr hd
      go_enter Tryd.func61, Tryd.ntmps61
      go_wp2_with (go_at_call 78; refine (demand_true _).mono ?_; rintro e w' ⟨rfl, hw⟩; replace hw := hw.symm; subst hw)
      refine (readKind_yes (t.extract 0 8) 8 _ (unhide HS) (unhide HR).1 (unhide HR).2).mono ?_
      rintro e w1 ⟨v, rfl, ⟨qo, qa, rfl, ho⟩, hb⟩
      have HB := hide (fr (unhide HA) hb)
      have HE1 := hide ((unhide HE).below hb)
      have hI := ownRN ho
      rw [unhide HL] at hI ⊢
      obtain ⟨g, off, rfl, hi0⟩ := hI 0 (by simp)
      simp only [List.getElem_cons_zero, Nat.add_zero] at hi0
      have hg := World.block_lt_of_cell? _ _ hi0
      clear hI ho hb
      simp only [List.length_cons, List.length_nil, Nat.zero_add]
      go_wp2_with fail
      have HA2 := hide (Joins.below_alloc1 w1 (.cells #[.int .i64 a, .string (t.extract 8 t.size)] 52)).drew
      have HB2 := hide (fr (unhide HB) (unhide HA2))
      go_region
      go_wp2_with fail
      refine (updateOK_any ⟨a, t.extract 8 t.size⟩ _ (unhide HZ)).mono ?_
      rintro e w2 ⟨rfl, hb2⟩
      rw [unhide HDD]
      have HB3 := hide (fr (unhide HB2) hb2)
      have HE2 := hide (((unhide HE1).below (unhide HA2)).below hb2)
      clear hb2 hi0
      go_wp2_with (go_at_call 78; refine (demand_false _ (unhide HE2)).mono ?_; rintro e w' ⟨⟨u, pv, rfl⟩, hw⟩; replace hw := hw.symm; subst hw)
      exact ⟨rfl, ⟨_, _, rfl⟩, unhide HB3⟩
    · have HR := hide hr
      clear hr hd
      go_enter Tryd.func61, Tryd.ntmps61
      go_wp2_with (go_at_call 78; refine (demand_true _).mono ?_; rintro e w' ⟨rfl, hw⟩; replace hw := hw.symm; subst hw)
      refine (readKind_no (t.extract 0 8) 8 _ (unhide HS) (unhide HR) (unhide HE)).mono ?_
      rintro e w1 ⟨⟨u, pv, rfl⟩, hb⟩
      have HB := hide (fr (unhide HA) hb)
      clear hb
      go_wp2
      exact ⟨rfl, ⟨_, _, rfl⟩, unhide HB⟩
  · clear hd
    go_enter Tryd.func61, Tryd.ntmps61
    go_wp2_with (go_at_call 78; refine (demand_false _ (unhide HE)).mono ?_; rintro e w' ⟨⟨u, pv, rfl⟩, hw⟩; replace hw := hw.symm; subst hw)
    exact ⟨rfl, ⟨_, _, rfl⟩, unhide HA⟩

theorem catchU_panicking (p : Addr) (x : Int) (u : TypeId) (pv : Value) (older : List PanicEntry) (w : World) (hc : w.cell? p = some (.int .i64 x)) (hz : w.frozen? p = false) :
    CallsD Tryd.prog 85 #[.pointer (some p)] (.panicking ({ v := .iface u pv, recovered := false } :: older)) w fun e u' w' =>
      e = .returned (.tuple #[]) ∧ u' = .panicking ({ v := .iface u pv, recovered := true } :: older) ∧ w' = w.setCell p (.int .i64 3) := by
  refine callsD_of_wpS Tryd.func85 rfl fun c₀ cs hu => ?_
  apply wpS_seq
  apply wpS_region
  simp [wpOpsS, go_sem, recoverD, hu, Tryd.ntmps85, Exit.thenS]
  refine wpS_cond (t := true) (by simp [Act.eval, Array.replicate]) ?_
  simp only [if_true]
  apply wpS_region
  simp [wpOpsS, go_sem, hc, hz, bodyPostS, results, Tryd.results85]

theorem catchU_idle (p : Addr) (w : World) :
    CallsD Tryd.prog 85 #[.pointer (some p)] .returning w fun e u' w' => e = .returned (.tuple #[]) ∧ u' = .returning ∧ w' = w := by
  refine callsD_of_wpS Tryd.func85 rfl fun c₀ cs hu => ?_
  apply wpS_seq
  apply wpS_region
  simp [wpOpsS, go_sem, recoverD, hu, Tryd.ntmps85, Exit.thenS]
  refine wpS_cond (t := false) (by simp [Act.eval, Array.replicate]) ?_
  simp only [Bool.false_eq_true, if_false]
  refine wpS_of_wp (wp_skip ?_)
  cases c₀
  simp_all [bodyPostS, results, Tryd.results85]

theorem two_newU {w w1 : World} (hb : Below ((w.alloc (.cells #[.int .i64 0, .string ⟨#[]⟩] 52)).alloc (.cells #[.int .i64 0] 3)).heap.size ((w.alloc (.cells #[.int .i64 0, .string ⟨#[]⟩] 52)).alloc (.cells #[.int .i64 0] 3)) w1) : VarU w1 w.heap.size 52 up0 ∧ w1.heap[w.heap.size + 1]? = some (.cells #[.int .i64 0] 3 (0, 0)) := by
  constructor
  · exact ((VarU.new w _ up0).below (Joins.below_alloc1 _ _)).below hb
  · rw [hb.block _ (by simp)]
    have := heap_alloc_new (w.alloc (.cells #[.int .i64 0, .string ⟨#[]⟩] 52)) (.cells #[.int .i64 0] 3)
    simp only [World.size_alloc] at this
    exact this

set_option maxHeartbeats 1600000 in
theorem readTextU_yes (s : ByteArray) (w : World) (hs : s.size ≤ 65536) (hd : duB s = true) :
    Calls Tryd.prog 60 #[.string s, .func (.func 61) #[] #[]] w fun e w' => e = .returned (.tuple #[uV (duU s), .int .i64 0]) ∧ Below w.heap.size w w' := by
  have hmf : ∀ (fn : Fn) (first cap : Array Value) (w : World), (Instr.makeFunc fn first cap).run Tryd.prog w = .ok (.func fn first cap) w := fun _ _ _ _ => rfl
  have HD := hide hd
  clear hd
  go_enter_defers Tryd.func60, Tryd.ntmps60
  go_wp2_with fail
  refine (readUpdate_yes s _ hs (unhide HD)).mono ?_
  rintro e w1 ⟨rfl, hb1⟩
  obtain ⟨hv, hblk⟩ := two_newU hb1
  obtain ⟨v0, v1⟩ := hv.cells
  obtain ⟨f0, f1⟩ := hv.free
  have hc0 := Joins.cell_of_block hblk 0
  have hf0 := Joins.unfrozen_of_block hblk 0
  simp only [List.size_toArray, List.length_cons, List.length_nil, Nat.zero_add, Nat.lt_add_one, getElem?_pos, List.getElem_toArray, List.getElem_cons_zero] at hc0
  have HB := hide (fr (Joins.below_alloc2 w _ _) hb1)
  clear hb1 hblk hv
  go_wp2
  refine leaves_cons (f := 85) (args := #[.pointer (some ⟨w.heap.size + 1, 0, none⟩)]) (by simp) (by simp [go_sem]) ?_
  refine (catchU_idle ⟨w.heap.size + 1, 0, none⟩ _).mono ?_
  rintro e u' w'' ⟨rfl, rfl, rfl⟩
  simp [Leaves, settle, results, Tryd.results60, go_sem, v0, v1, hc0]
  exact (below2 (unhide HB) (Nat.le_refl _) 0 1 _ _).setCell (p := ⟨w.heap.size + 1, 0, none⟩) (Nat.le_succ _) _

set_option maxHeartbeats 1600000 in
theorem readTextU_no (s : ByteArray) (w : World) (hs : s.size ≤ 65536) (hd : duB s = false) (hE : ErrW w) :
    Calls Tryd.prog 60 #[.string s, .func (.func 61) #[] #[]] w fun e w' => e = .returned (.tuple #[uV up0, .int .i64 3]) ∧ Below w.heap.size w w' := by
  have hmf : ∀ (fn : Fn) (first cap : Array Value) (w : World), (Instr.makeFunc fn first cap).run Tryd.prog w = .ok (.func fn first cap) w := fun _ _ _ _ => rfl
  have HD := hide hd
  have HE := hide (hE.below (Joins.below_alloc2 w (.cells #[.int .i64 0, .string ⟨#[]⟩] 52) (.cells #[.int .i64 0] 3)))
  clear hd hE
  go_enter_defers Tryd.func60, Tryd.ntmps60
  go_wp2_with fail
  refine (readUpdate_no s _ hs (unhide HD) (unhide HE)).mono ?_
  rintro e w1 ⟨⟨u, pv, rfl⟩, hb1⟩
  obtain ⟨hv, hblk⟩ := two_newU hb1
  obtain ⟨v0, v1⟩ := hv.cells
  have hc0 := Joins.cell_of_block hblk 0
  have hf0 := Joins.unfrozen_of_block hblk 0
  simp only [List.size_toArray, List.length_cons, List.length_nil, Nat.zero_add, Nat.lt_add_one, getElem?_pos, List.getElem_toArray, List.getElem_cons_zero] at hc0
  have HB := hide (fr (Joins.below_alloc2 w _ _) hb1)
  clear hb1 hblk hv
  go_wp2
  refine leaves_cons (f := 85) (args := #[.pointer (some ⟨w.heap.size + 1, 0, none⟩)]) (by simp) (by simp [go_sem]) ?_
  refine (catchU_panicking ⟨w.heap.size + 1, 0, none⟩ 0 u pv [] _ hc0 hf0).mono ?_
  rintro e u' w'' ⟨rfl, rfl, rfl⟩
  simp [Leaves, settle, results, Tryd.results60, go_sem, v0, v1, hc0, up0]
  exact (unhide HB).setCell (p := ⟨w.heap.size + 1, 0, none⟩) (Nat.le_succ _) _

theorem readTextU_long (s : ByteArray) (w : World) (hs : 65536 < s.size) (f : Value) :
    Calls Tryd.prog 60 #[.string s, f] w fun e w' => e = .returned (.tuple #[uV up0, .int .i64 2]) ∧ Below w.heap.size w w' := by
  go_enter_defers Tryd.func60, Tryd.ntmps60
  go_wp2
  simp [bodyPostD, Leaves, results, Tryd.results60, go_sem, up0]
  exact Joins.below_alloc2 _ _ _

set_option maxHeartbeats 1600000 in
theorem decodeUpdate_impl (t : ByteArray) (w : World) (hE : ErrW w) : Calls Tryd.prog 23 #[.string t] w fun e w' => e = .returned (.tuple #[uV (dkU t), .int .i64 (dkC t)]) ∧ Below w.heap.size w w' := by
  have hmf : ∀ (fn : Fn) (first cap : Array Value) (w : World), (Instr.makeFunc fn first cap).run Tryd.prog w = .ok (.func fn first cap) w := fun _ _ _ _ => rfl
  have HA := hide (Joins.below_alloc1 w (.cells #[.int .i64 0, .string ⟨#[]⟩] 52))
  have HE := hide (hE.below (unhide HA))
  have HV := hide (VarU.new w 52 up0)
  clear hE
  have key : ∀ (K1 : Up) (d : Int), (dkU t = K1 ∧ dkC t = d) → (∀ W, ErrW W → Calls Tryd.prog 60 #[.string t, .func (.func 61) #[] #[]] W fun e w' => e = .returned (.tuple #[uV K1, .int .i64 d]) ∧ Below W.heap.size W w') →
      Calls Tryd.prog 23 #[.string t] w fun e w' => e = .returned (.tuple #[uV (dkU t), .int .i64 (dkC t)]) ∧ Below w.heap.size w w' := by
    intro K1 d hq hc
    have HQ := hide hq
    have HC := hide hc
    clear hq hc
    go_enter Tryd.func23, Tryd.ntmps23
    go_wp2_with fail
    refine (unhide HC _ (unhide HE)).mono ?_
    rintro e w1 ⟨rfl, hb⟩
    have HV1 := hide ((unhide HV).below hb)
    obtain ⟨hc0, hc1⟩ := (unhide HV1).cells
    obtain ⟨hf0, hf1⟩ := (unhide HV1).free
    have HB := hide (fun u v => below2 (fr (unhide HA) hb) (Nat.le_refl _) 0 1 u v)
    clear hb
    go_wp2
    refine bodyPost_ret (v := .tuple #[uV K1, .int .i64 d]) (by simp [results, Tryd.results23, go_sem, hc0, hc1]) rfl ⟨?_, unhide HB _ _⟩
    exact ret_ui (unhide HQ).1.symm (unhide HQ).2.symm
  by_cases h1 : 65536 < t.size
  · exact key _ _ (dk_long h1) (fun W _ => readTextU_long t W h1 _)
  · by_cases hd : duB t = true
    · exact key _ _ (dk_yes h1 hd) (fun W _ => readTextU_yes t W (by omega) hd)
    · rw [Bool.not_eq_true] at hd
      exact key _ _ (dk_no h1 hd) (fun W hW => readTextU_no t W (by omega) hd hW)

end Go.Proofs.YtlhinknmbgijeabDoor

/- What stays beside a source of choices; contract of spec.l00Source. -/
namespace Go.Proofs.YtlhinknmbgijeabDoor
open Go.RowKit
set_option linter.unusedVariables false
set_option maxRecDepth 100000

theorem keep_cell {S : Nat → Prop} {w w' : World} {a : Addr} {v : Value} (hk : Keep S w w') (ha : ¬ S a.block) (h : w.cell? a = some v) : w'.cell? a = some v := by
  have hl := World.block_lt_of_cell? _ _ h
  rw [← h]
  unfold World.cell?
  simp only [hk.block a.block hl ha]
theorem keep_new {w w1 w2 : World} {b : Nat} {S : Nat → Prop} (h : Keep (fun k => k = b) w w1) (hk : Keep S w1 w2) (hs : ∀ k, S k → w.heap.size ≤ k ∨ k = b) : Keep (fun k => k = b) w w2 :=
  ⟨hk.os.trans h.os, hk.tape.trans h.tape, hk.output.trans h.output, Nat.le_trans h.size hk.size, fun k hl hn => (hk.block k (Nat.lt_of_lt_of_le hl h.size) (fun hS => by
    rcases hs k hS with h1 | h1
    · omega
    · exact hn h1)).trans (h.block k hl hn)⟩
theorem SrcK.other {w w1 w2 : World} {b : Nat} {ao : Option Addr} {n cap m m0 : Nat} {S : Nat → Prop} (h0 : SrcK w b ao n cap m0) (h : SrcK w1 b ao n cap m) (hw : Keep (fun k => k = b) w w2) (hk : Keep S w1 w2) (hs : ¬ S b) : SrcK w2 b ao n cap m := by
  obtain ⟨x0, y0, _, _, _, _, hblk0⟩ := h0.src
  obtain ⟨x, y, c0, c1, c2, c3, c4⟩ := h.src
  refine ⟨⟨x, y, c0, c1, c2, c3, ?_⟩, h0.bytes.keep hblk0 (fun z h => by cases h) hw⟩
  rw [hk.block b (Array.getElem?_eq_some_iff.1 c4).1 hs]; exact c4

theorem source_any (ao : Option Addr) (n cap : Nat) (w : World) (hn : n ≤ 1048576) (hB : Bs w ao n) :
    Calls Tryd.prog 25 #[.slice ao n cap] w fun e w' => e = .returned (.pointer (some ⟨w.heap.size, 0, none⟩)) ∧ SrcK w' w.heap.size ao n cap 0 ∧ Below w.heap.size w w' ∧ w'.heap.size = w.heap.size + 1 := by
  go_enter Tryd.func25, Tryd.ntmps25
  go_wp2
  go_ret
  exact ⟨rfl, ⟨⟨0, (n : Int) % 1000, by omega, by omega, by omega, by omega, heap_alloc_new w _⟩, hB.below (Joins.below_alloc1 _ _)⟩, Joins.below_alloc1 _ _, by simp⟩

theorem keep_drop {w w' : World} {b : Nat} (h : Keep (fun k => k = b ∨ w.heap.size ≤ k) w w') : Keep (fun k => k = b) w w' :=
  ⟨h.os, h.tape, h.output, h.size, fun k hl hn => h.block k hl (fun e => by
    rcases e with e | e
    · exact hn e
    · omega)⟩
theorem blk_keep {S : Nat → Prop} {w w' : World} {k : Nat} {o : Obj} (hk : Keep S w w') (hs : ¬ S k) (h : w.heap[k]? = some o) : w'.heap[k]? = some o := by
  rw [hk.block k (Array.getElem?_eq_some_iff.1 h).1 hs]; exact h
theorem blk_below {w w' : World} {k : Nat} {o : Obj} (hk : Below w.heap.size w w') (h : w.heap[k]? = some o) : w'.heap[k]? = some o := by
  rw [hk.block k (Array.getElem?_eq_some_iff.1 h).1]; exact h
theorem blk_lt {w : World} {k : Nat} {o : Obj} (h : w.heap[k]? = some o) : k < w.heap.size := (Array.getElem?_eq_some_iff.1 h).1

end Go.Proofs.YtlhinknmbgijeabDoor

/- Contracts of the model's drawn texts: some, TextOf. -/
namespace Go.Proofs.YtlhinknmbgijeabDoor
open Go.RowKit
set_option linter.unusedVariables false
set_option maxRecDepth 100000

theorem infoU : (Tryd.prog.info? 5).map (fun i => (i.zero, i.size, i.bytes)) = some (some (.int .u8 0), 1, 1) := by kernel_rfl
theorem keep_newT {w w1 w2 : World} {b : Nat} {S : Nat → Prop} (h : Keep (fun k => k = b) w w1) (hk : Keep S w1 w2) (hs : ∀ k, S k → w.heap.size ≤ k ∨ k = b) : Keep (fun k => k = b) w w2 :=
  ⟨hk.os.trans h.os, hk.tape.trans h.tape, hk.output.trans h.output, Nat.le_trans h.size hk.size, fun k hl hn => (hk.block k (Nat.lt_of_lt_of_le hl h.size) (fun hS => by
    rcases hs k hS with h1 | h1
    · omega
    · exact hn h1)).trans (h.block k hl hn)⟩
theorem SrcK.otherT {w w1 w2 : World} {b : Nat} {ao : Option Addr} {n cap m m0 : Nat} {S : Nat → Prop} (h0 : SrcK w b ao n cap m0) (h : SrcK w1 b ao n cap m) (hw : Keep (fun k => k = b) w w2) (hk : Keep S w1 w2) (hs : ¬ S b) : SrcK w2 b ao n cap m := by
  obtain ⟨x0, y0, _, _, _, _, hblk0⟩ := h0.src
  obtain ⟨x, y, c0, c1, c2, c3, c4⟩ := h.src
  refine ⟨⟨x, y, c0, c1, c2, c3, ?_⟩, h0.bytes.keep hblk0 (fun z h => by cases h) hw⟩
  rw [hk.block b (Array.getElem?_eq_some_iff.1 c4).1 hs]; exact c4

set_option maxHeartbeats 3200000 in
theorem some_k (b : Nat) (ao : Option Addr) (n cap m k : Nat) (w : World) (hk : k ≤ 100) (hm : m ≤ 700000) (hn : n ≤ 1048576) (hs : SrcK w b ao n cap m) :
    Calls Tryd.prog 99 #[.pointer (some ⟨b, 0, none⟩), .int .i64 k] w fun e w' => ∃ t : ByteArray, e = .returned (.string t) ∧ t.size = k ∧ SrcK w' b ao n cap (m + 3 * k) ∧ Keep (fun j => j = b) w w' := by
  have hbl := hs.lt
  have HS0 := hide hs
  clear hs
  obtain ⟨j0, hj, hy0, hy1, hy2⟩ := info_parts infoU
  have HSA := hide ((unhide HS0).below (Joins.below_alloc1 w (.cells #[] 5)))
  have HKA : Hid (Keep (fun j => j = b) w (w.alloc (.cells #[] 5))) := hide (Keep.of_below (Joins.below_alloc1 _ _))
  go_enter Tryd.func99, Tryd.ntmps99
  go_wp2
  go_loopw [5, 6] (fun o i wr => ∃ (j : Nat) (ns : List Int) (qo : Option Addr) (qa : Nat), j ≤ k ∧ ns.length = j ∧ i = .int .i64 j ∧ o = .slice qo j qa ∧ Hid (OwnR wr w.heap.size 5 1 (.slice qo j qa) j (byteV ns)) ∧ Hid (Keep (fun x => x = b) w wr) ∧ Hid (SrcK wr b ao n cap (m + 3 * j))) (fun _ i _ => k - (intOf i).toNat)
  case atStart => exact ⟨0, [], _, _, Nat.zero_le _, rfl, rfl, rfl, hide (.inl ⟨rfl, rfl, _, rfl⟩), HKA, HSA⟩
  case round =>
    obtain ⟨j, ns, qo, qa, hjk, hns, rfl, rfl, HO, HK, HS⟩ := hrel
    by_cases hlt : j < k
    · go_wp2_with fail
      refine (next_k b ao n cap _ 26 _ (by omega) (by omega) (by omega) hn (unhide HS)).mono ?_
      rintro e w2 ⟨r, rfl, hr0, hr1, hs2, hk2⟩
      have HO2 := hide ((unhide HO).keep hk2 (fun g hg e => by have := ((unhide HO).ge g hg).1; omega))
      have HK2 := hide ((unhide HK).trans hk2)
      have HS2 := hide hs2
      clear hs2 hk2
      have HOA := hide ((unhide HO2).below (Joins.below_alloc1 _ (.cells #[.int .u8 (97 + r)] 5)))
      have HKB := hide ((unhide HK2).trans (Keep.of_below (Joins.below_alloc1 _ (.cells #[.int .u8 (97 + r)] 5))))
      have HSB := hide ((unhide HS2).below (Joins.below_alloc1 _ (.cells #[.int .u8 (97 + r)] 5)))
      have HSZ := hide (unhide HK2).size
      go_wp2_with (at_builtin; refine wpList_append_one rfl _ _ 22 rfl w.heap.size 5 j0 (.int .u8 0) 1 1 Tryd.underlying22 hj hy0 hy1 hy2 rfl (by omega) qo j qa (byteV ns) rfl (unhide HOA) (by have := unhide HSZ; simp; omega) ⟨w2.heap.size, 0, none⟩ _ [.int .u8 (97 + r)] rfl rfl (byte_news w2 _ _) (byte_one _) (by unfold maxLen; omega) (by omega) ?_; intro g2 cap2 wA hoA hkA; have HSF := hide (And.intro hoA (keep_newT (unhide HKB) hkA (fun k hk => .inl ((unhide HOA).ge k hk).1))); have HSC := hide ((unhide HS0).otherT (unhide HSB) (unhide HSF).2 hkA (fun hk => by have := ((unhide HOA).ge _ hk).1; omega)); clear hoA hkA)
      go_roundw
      case rel => exact ⟨j + 1, ns ++ [97 + r], some ⟨g2, 0, none⟩, cap2, by omega, by simp [hns], by go_num, rfl, hide (.inr ⟨by omega, by rw [byteV_snoc]; exact (unhide HSF).1⟩), hide (unhide HSF).2, hide ((unhide HSC).more (by omega))⟩
      case measure => simp [intOf]; omega
    · have hcv := convert_own (P := Tryd.prog) Tryd.underlying22 Tryd.underlying5 Tryd.underlying9 (unhide HO)
      have HJK : Hid (j = k) := hide (by omega)
      have hlt' : ¬ (j : Int) < (k : Int) := by omega
      go_wp2
      go_ret
      exact ⟨strOfNums ns, rfl, by rw [strOfNums_size, hns]; exact unhide HJK, (unhide HS).more (by omega), unhide HK⟩

end Go.Proofs.YtlhinknmbgijeabDoor
