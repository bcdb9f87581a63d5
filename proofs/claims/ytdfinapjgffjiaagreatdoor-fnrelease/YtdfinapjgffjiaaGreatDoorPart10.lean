import Derived.Test.YtdfinapjgffjiaaGreatDoorRows
import Derived.Test.YtdfinapjgffjiaaGreatDoorPart1
import Derived.Test.YtdfinapjgffjiaaGreatDoorPart3
import Derived.Test.YtdfinapjgffjiaaGreatDoorPart2
import Derived.Test.YtdfinapjgffjiaaGreatDoorPart9
import Derived.WalkKit
import Derived.WalkSpells
import Derived.BigQuiet
import Derived.Deep.QuietTactic
import Derived.Deep.RegionWith
import Derived.Defers
import Derived.Recover
import Derived.Test.YtdfinapjgffjiaaGreatDoorPart5
import Derived.Test.YtdfinapjgffjiaaGreatDoorPart6
import Derived.Test.YtdfinapjgffjiaaGreatDoorPart4
import Derived.Test.YtdfinapjgffjiaaGreatDoorPart8
import Derived.KernelRfl

/- Contract of impl.readRecord. -/
namespace Go.Proofs.YtdfinapjgffjiaaGreatDoor
open Go.RowKit
set_option linter.unusedVariables false
set_option maxRecDepth 100000

/-- The world when the head has been read: the result's variable, the head's. -/
structure HeadSt (w W : World) : Prop where
  blk : W.heap[w.heap.size]? = some (.cells #[.int .i64 0, .slice none 0 0] 132 (0, 0))
  size : w.heap.size + 2 ≤ W.heap.size
  below : Below w.heap.size w W
theorem HeadSt.mk' (w : World) (a b : Obj) (n : Nat) (ha : a = .cells #[.int .i64 0, .slice none 0 0] 132) : HeadSt w (((w.alloc a).alloc b).drewN n) := by
  subst ha
  have h : Below w.heap.size w ((w.alloc (.cells #[.int .i64 0, .slice none 0 0] 132)).alloc b) := Joins.below_alloc2 _ _ _
  refine ⟨?_, by simp, h.trans (Joins.below_draws _ _ _)⟩
  show ((w.alloc _).alloc b).heap[w.heap.size]? = _
  rw [(Joins.below_alloc1 _ b).block _ (by simp)]
  exact heap_alloc_new w _

theorem sum_rec (s : ByteArray) (n : Int) (w : World) (hs : s.size ≤ 65536) (h4 : 4 ≤ s.size) (hn : sumC (headT s ++ bodyT s) = n) : Calls Tryz.prog 73 #[.string (s.extract 0 2 ++ s.extract 4 s.size)] w fun e w' => e = .returned (.int .i64 n) ∧ w' = w := by
  subst hn
  exact sumOf_impl (headT s ++ bodyT s) w (by rw [ByteArray.size_append, bodyT_size, headT_size h4]; omega)

set_option maxHeartbeats 1600000 in
theorem readRecord_yes (s : ByteArray) (w : World) (hs : s.size ≤ 65536) (hr : RecP s) : Calls Tryz.prog 102 #[.string s] w fun e w' => ∃ v, e = .returned (.agg #[.int .i64 (byteAt s 0), v]) ∧ OwnN w' w.heap.size v (unL (bodyT s)) ∧ Below w.heap.size w w' := by
  obtain ⟨h4, hk, h3, hcnt, hsum, hok⟩ := hr
  have hc4 := copy4_at (w.alloc (.cells #[.int .i64 0, .slice none 0 0] 132)) (w.heap.size + 1) s (by simp) h4
  have h4i : (4 : Int) ≤ (s.size : Int) := by omega
  have b0 := byteAt_in s 0
  have b1 := byteAt_in s 1
  have b2 := byteAt_in s 2
  have HBZ := hide (bodyT_size s)
  have HHZ := hide (headT_size h4)
  have b3 : (byteAt s 3 == 0) = true := by simp [h3]
  have HSM : Hid (sumC (headT s ++ bodyT s) = byteAt s 2) := hide (by rw [hsum]; exact sumC_short (by rw [ByteArray.size_append, bodyT_size, headT_size h4]; omega))
  have HOK := hide hok
  have hlen : (((s.size - 4 : Nat) : Int) == byteAt s 1 * 4) = true := by rw [bodyT_size] at hcnt; simp [hcnt]
  clear h3 hcnt hsum hok
  go_enter Tryz.func102, Tryz.ntmps102
  go_wp2_with (first | (go_at_call 76; refine (demand_true _).mono ?_; rintro e w' ⟨rfl, hw⟩; replace hw := hw.symm; subst hw))
  go_quiet (fail)
  have HH := hide (HeadSt.mk' w (.cells #[.int .i64 0, .slice none 0 0] 132) (.cells #[.int .u8 (byteAt s 0), .int .u8 (byteAt s 1), .int .u8 (byteAt s 2), .int .u8 (byteAt s 3)] 97) nq rfl)
  revert HH
  generalize (((w.alloc (.cells #[.int .i64 0, .slice none 0 0] 132)).alloc (.cells #[.int .u8 (byteAt s 0), .int .u8 (byteAt s 1), .int .u8 (byteAt s 2), .int .u8 (byteAt s 3)] 97)).drewN nq) = W
  intro HH
  clear hc4
  go_wp2_with (first | (go_at_call 71; refine (kindOK_any _ _).mono ?_; rintro e w' ⟨rfl, hw⟩; replace hw := hw.symm; subst hw) | (go_at_call 76; refine (demand_true _).mono ?_; rintro e w' ⟨rfl, hw⟩; replace hw := hw.symm; subst hw) | (go_at_call 73; refine (sum_rec s _ _ hs h4 (unhide HSM)).mono ?_; rintro e w' ⟨rfl, hw⟩; replace hw := hw.symm; subst hw))
  refine (readNumbers_yes (bodyT s) _ (unhide HOK)).mono ?_
  rintro e w1 ⟨v, rfl, ⟨qo, qa, rfl, ho⟩, hb⟩
  have hblk : w1.heap[w.heap.size]? = some (.cells #[.int .i64 0, .slice none 0 0] 132 (0, 0)) := by
    rw [hb.block _ (by have := (unhide HH).size; omega)]; exact (unhide HH).blk
  have hc0 : w1.cell? ⟨w.heap.size, 0, none⟩ = some (.int .i64 0) := by rw [Joins.cell_of_block hblk]; rfl
  have hc1 : w1.cell? ⟨w.heap.size, 1, none⟩ = some (.slice none 0 0) := by rw [Joins.cell_of_block hblk]; rfl
  have hf0 := Joins.unfrozen_of_block hblk 0
  have hf1 := Joins.unfrozen_of_block hblk 1
  have HO := hide (ho.base (B' := w.heap.size + 1) (by have := (unhide HH).size; omega))
  have HB := hide (fr (unhide HH).below hb)
  clear ho hb hblk
  go_wp2
  exact bodyPost_ret (v := .agg #[.int .i64 (byteAt s 0), .slice qo (unL (bodyT s)).length qa]) (by simp [results, Tryz.results102, go_sem, hc0, hc1]) rfl
    ⟨.slice qo (unL (bodyT s)).length qa, rfl, ⟨qo, qa, rfl, (((unhide HO).setCell (a := ⟨w.heap.size, 0, none⟩) (Nat.lt_succ_self _) _).setCell (a := ⟨w.heap.size, 1, none⟩) (Nat.lt_succ_self _) _).base (Nat.le_succ _)⟩, ((unhide HB).setCell (p := ⟨w.heap.size, 0, none⟩) (Nat.le_refl _) _).setCell (p := ⟨w.heap.size, 1, none⟩) (Nat.le_refl _) _⟩

theorem readRecord_short (s : ByteArray) (w : World) (h4 : ¬ 4 ≤ s.size) (hE : ErrW w) : Calls Tryz.prog 102 #[.string s] w fun e w' => (∃ u pv, e = .panicked [{ v := .iface u pv, recovered := false }]) ∧ Below w.heap.size w w' := by
  have HE := hide (hE.below (Joins.below_alloc1 w (.cells #[.int .i64 0, .slice none 0 0] 132)))
  have h4i : ¬ (4 : Int) ≤ (s.size : Int) := by omega
  clear hE
  go_enter Tryz.func102, Tryz.ntmps102
  go_wp2_with (go_at_call 76; refine (demand_false _ (unhide HE)).mono ?_; rintro e w' ⟨⟨u, pv, rfl⟩, hw⟩; replace hw := hw.symm; subst hw)
  exact ⟨rfl, ⟨_, _, rfl⟩, Joins.below_alloc1 _ _⟩

set_option maxHeartbeats 1600000 in
theorem readRecord_kind (s : ByteArray) (w : World) (hs : s.size ≤ 65536) (h4 : 4 ≤ s.size) (hk : kindB (byteAt s 0) = false) (hE : ErrW w) : Calls Tryz.prog 102 #[.string s] w fun e w' => (∃ u pv, e = .panicked [{ v := .iface u pv, recovered := false }]) ∧ Below w.heap.size w w' := by
  have HE := hide hE
  clear hE
  have hc4 := copy4_at (w.alloc (.cells #[.int .i64 0, .slice none 0 0] 132)) (w.heap.size + 1) s (by simp) h4
  have h4i : (4 : Int) ≤ (s.size : Int) := by omega
  have b0 := byteAt_in s 0
  have b1 := byteAt_in s 1
  have b2 := byteAt_in s 2
  have HBZ := hide (bodyT_size s)
  have HHZ := hide (headT_size h4)
  go_enter Tryz.func102, Tryz.ntmps102
  go_wp2_with (first | (go_at_call 76; refine (demand_true _).mono ?_; rintro e w' ⟨rfl, hw⟩; replace hw := hw.symm; subst hw))
  go_quiet (fail)
  have HH := hide (HeadSt.mk' w (.cells #[.int .i64 0, .slice none 0 0] 132) (.cells #[.int .u8 (byteAt s 0), .int .u8 (byteAt s 1), .int .u8 (byteAt s 2), .int .u8 (byteAt s 3)] 97) nq rfl)
  revert HH
  generalize (((w.alloc (.cells #[.int .i64 0, .slice none 0 0] 132)).alloc (.cells #[.int .u8 (byteAt s 0), .int .u8 (byteAt s 1), .int .u8 (byteAt s 2), .int .u8 (byteAt s 3)] 97)).drewN nq) = W
  intro HH
  clear hc4
  go_wp2_with (first | (go_at_call 71; refine (kindOK_any _ _).mono ?_; rintro e w' ⟨rfl, hw⟩; replace hw := hw.symm; subst hw) | (go_at_call 76; refine (demand_false _ ((unhide HE).below (unhide HH).below)).mono ?_; rintro e w' ⟨⟨u, pv, rfl⟩, hw⟩; replace hw := hw.symm; subst hw))
  exact ⟨rfl, ⟨_, _, rfl⟩, (unhide HH).below⟩

set_option maxHeartbeats 1600000 in
theorem readRecord_last (s : ByteArray) (w : World) (hs : s.size ≤ 65536) (h4 : 4 ≤ s.size) (hk : kindB (byteAt s 0) = true) (h3 : byteAt s 3 ≠ 0) (hE : ErrW w) : Calls Tryz.prog 102 #[.string s] w fun e w' => (∃ u pv, e = .panicked [{ v := .iface u pv, recovered := false }]) ∧ Below w.heap.size w w' := by
  have HE := hide hE
  clear hE
  have hc4 := copy4_at (w.alloc (.cells #[.int .i64 0, .slice none 0 0] 132)) (w.heap.size + 1) s (by simp) h4
  have h4i : (4 : Int) ≤ (s.size : Int) := by omega
  have b0 := byteAt_in s 0
  have b1 := byteAt_in s 1
  have b2 := byteAt_in s 2
  have HBZ := hide (bodyT_size s)
  have HHZ := hide (headT_size h4)
  have b3 : (byteAt s 3 == 0) = false := by simp [h3]
  clear h3
  go_enter Tryz.func102, Tryz.ntmps102
  go_wp2_with (first | (go_at_call 76; refine (demand_true _).mono ?_; rintro e w' ⟨rfl, hw⟩; replace hw := hw.symm; subst hw))
  go_quiet (fail)
  have HH := hide (HeadSt.mk' w (.cells #[.int .i64 0, .slice none 0 0] 132) (.cells #[.int .u8 (byteAt s 0), .int .u8 (byteAt s 1), .int .u8 (byteAt s 2), .int .u8 (byteAt s 3)] 97) nq rfl)
  revert HH
  generalize (((w.alloc (.cells #[.int .i64 0, .slice none 0 0] 132)).alloc (.cells #[.int .u8 (byteAt s 0), .int .u8 (byteAt s 1), .int .u8 (byteAt s 2), .int .u8 (byteAt s 3)] 97)).drewN nq) = W
  intro HH
  clear hc4
  go_wp2_with (first | (go_at_call 71; refine (kindOK_any _ _).mono ?_; rintro e w' ⟨rfl, hw⟩; replace hw := hw.symm; subst hw) | (go_at_call 76; refine (demand_false _ ((unhide HE).below (unhide HH).below)).mono ?_; rintro e w' ⟨⟨u, pv, rfl⟩, hw⟩; replace hw := hw.symm; subst hw))
  exact ⟨rfl, ⟨_, _, rfl⟩, (unhide HH).below⟩

set_option maxHeartbeats 1600000 in
theorem readRecord_count (s : ByteArray) (w : World) (hs : s.size ≤ 65536) (h4 : 4 ≤ s.size) (hk : kindB (byteAt s 0) = true) (h3 : byteAt s 3 = 0) (hcnt : ((bodyT s).size : Int) ≠ byteAt s 1 * 4) (hE : ErrW w) : Calls Tryz.prog 102 #[.string s] w fun e w' => (∃ u pv, e = .panicked [{ v := .iface u pv, recovered := false }]) ∧ Below w.heap.size w w' := by
  have HE := hide hE
  clear hE
  have hc4 := copy4_at (w.alloc (.cells #[.int .i64 0, .slice none 0 0] 132)) (w.heap.size + 1) s (by simp) h4
  have h4i : (4 : Int) ≤ (s.size : Int) := by omega
  have b0 := byteAt_in s 0
  have b1 := byteAt_in s 1
  have b2 := byteAt_in s 2
  have HBZ := hide (bodyT_size s)
  have HHZ := hide (headT_size h4)
  have b3 : (byteAt s 3 == 0) = true := by simp [h3]
  have hlen : (((s.size - 4 : Nat) : Int) == byteAt s 1 * 4) = false := by rw [bodyT_size] at hcnt; simp [hcnt]
  clear h3 hcnt
  go_enter Tryz.func102, Tryz.ntmps102
  go_wp2_with (first | (go_at_call 76; refine (demand_true _).mono ?_; rintro e w' ⟨rfl, hw⟩; replace hw := hw.symm; subst hw))
  go_quiet (fail)
  have HH := hide (HeadSt.mk' w (.cells #[.int .i64 0, .slice none 0 0] 132) (.cells #[.int .u8 (byteAt s 0), .int .u8 (byteAt s 1), .int .u8 (byteAt s 2), .int .u8 (byteAt s 3)] 97) nq rfl)
  revert HH
  generalize (((w.alloc (.cells #[.int .i64 0, .slice none 0 0] 132)).alloc (.cells #[.int .u8 (byteAt s 0), .int .u8 (byteAt s 1), .int .u8 (byteAt s 2), .int .u8 (byteAt s 3)] 97)).drewN nq) = W
  intro HH
  clear hc4
  go_wp2_with (first | (go_at_call 71; refine (kindOK_any _ _).mono ?_; rintro e w' ⟨rfl, hw⟩; replace hw := hw.symm; subst hw) | (go_at_call 76; refine (demand_true _).mono ?_; rintro e w' ⟨rfl, hw⟩; replace hw := hw.symm; subst hw) | (go_at_call 76; refine (demand_false _ ((unhide HE).below (unhide HH).below)).mono ?_; rintro e w' ⟨⟨u, pv, rfl⟩, hw⟩; replace hw := hw.symm; subst hw))
  exact ⟨rfl, ⟨_, _, rfl⟩, (unhide HH).below⟩

set_option maxHeartbeats 1600000 in
theorem readRecord_sum (s : ByteArray) (w : World) (hs : s.size ≤ 65536) (h4 : 4 ≤ s.size) (hk : kindB (byteAt s 0) = true) (h3 : byteAt s 3 = 0) (hcnt : ((bodyT s).size : Int) = byteAt s 1 * 4) (hsum : byteAt s 2 ≠ sumS (headT s ++ bodyT s)) (hE : ErrW w) : Calls Tryz.prog 102 #[.string s] w fun e w' => (∃ u pv, e = .panicked [{ v := .iface u pv, recovered := false }]) ∧ Below w.heap.size w w' := by
  have HE := hide hE
  clear hE
  have hc4 := copy4_at (w.alloc (.cells #[.int .i64 0, .slice none 0 0] 132)) (w.heap.size + 1) s (by simp) h4
  have h4i : (4 : Int) ≤ (s.size : Int) := by omega
  have b0 := byteAt_in s 0
  have b1 := byteAt_in s 1
  have b2 := byteAt_in s 2
  have HBZ := hide (bodyT_size s)
  have HHZ := hide (headT_size h4)
  have b3 : (byteAt s 3 == 0) = true := by simp [h3]
  have hlen : (((s.size - 4 : Nat) : Int) == byteAt s 1 * 4) = true := by rw [bodyT_size] at hcnt; simp [hcnt]
  have HSM : Hid (sumC (headT s ++ bodyT s) = sumS (headT s ++ bodyT s)) := hide (sumC_short (by rw [ByteArray.size_append, bodyT_size, headT_size h4]; omega))
  have hsb : (byteAt s 2 == sumS (headT s ++ bodyT s)) = false := by simp [hsum]
  clear h3 hcnt hsum
  go_enter Tryz.func102, Tryz.ntmps102
  go_wp2_with (first | (go_at_call 76; refine (demand_true _).mono ?_; rintro e w' ⟨rfl, hw⟩; replace hw := hw.symm; subst hw))
  go_quiet (fail)
  have HH := hide (HeadSt.mk' w (.cells #[.int .i64 0, .slice none 0 0] 132) (.cells #[.int .u8 (byteAt s 0), .int .u8 (byteAt s 1), .int .u8 (byteAt s 2), .int .u8 (byteAt s 3)] 97) nq rfl)
  revert HH
  generalize (((w.alloc (.cells #[.int .i64 0, .slice none 0 0] 132)).alloc (.cells #[.int .u8 (byteAt s 0), .int .u8 (byteAt s 1), .int .u8 (byteAt s 2), .int .u8 (byteAt s 3)] 97)).drewN nq) = W
  intro HH
  clear hc4
  go_wp2_with (first | (go_at_call 71; refine (kindOK_any _ _).mono ?_; rintro e w' ⟨rfl, hw⟩; replace hw := hw.symm; subst hw) | (go_at_call 76; refine (demand_true _).mono ?_; rintro e w' ⟨rfl, hw⟩; replace hw := hw.symm; subst hw) | (go_at_call 73; refine (sum_rec s _ _ hs h4 (unhide HSM)).mono ?_; rintro e w' ⟨rfl, hw⟩; replace hw := hw.symm; subst hw) | (go_at_call 76; refine (demand_false _ ((unhide HE).below (unhide HH).below)).mono ?_; rintro e w' ⟨⟨u, pv, rfl⟩, hw⟩; replace hw := hw.symm; subst hw))
  exact ⟨rfl, ⟨_, _, rfl⟩, (unhide HH).below⟩

set_option maxHeartbeats 1600000 in
theorem readRecord_nums (s : ByteArray) (w : World) (hs : s.size ≤ 65536) (h4 : 4 ≤ s.size) (hk : kindB (byteAt s 0) = true) (h3 : byteAt s 3 = 0) (hcnt : ((bodyT s).size : Int) = byteAt s 1 * 4) (hsum : byteAt s 2 = sumS (headT s ++ bodyT s)) (hok : okU (bodyT s) = false) (hE : ErrW w) : Calls Tryz.prog 102 #[.string s] w fun e w' => (∃ u pv, e = .panicked [{ v := .iface u pv, recovered := false }]) ∧ Below w.heap.size w w' := by
  have HE := hide hE
  clear hE
  have hc4 := copy4_at (w.alloc (.cells #[.int .i64 0, .slice none 0 0] 132)) (w.heap.size + 1) s (by simp) h4
  have h4i : (4 : Int) ≤ (s.size : Int) := by omega
  have b0 := byteAt_in s 0
  have b1 := byteAt_in s 1
  have b2 := byteAt_in s 2
  have HBZ := hide (bodyT_size s)
  have HHZ := hide (headT_size h4)
  have b3 : (byteAt s 3 == 0) = true := by simp [h3]
  have hlen : (((s.size - 4 : Nat) : Int) == byteAt s 1 * 4) = true := by rw [bodyT_size] at hcnt; simp [hcnt]
  have HSM : Hid (sumC (headT s ++ bodyT s) = byteAt s 2) := hide (by rw [hsum]; exact sumC_short (by rw [ByteArray.size_append, bodyT_size, headT_size h4]; omega))
  have HOK := hide hok
  clear h3 hcnt hsum hok
  go_enter Tryz.func102, Tryz.ntmps102
  go_wp2_with (first | (go_at_call 76; refine (demand_true _).mono ?_; rintro e w' ⟨rfl, hw⟩; replace hw := hw.symm; subst hw))
  go_quiet (fail)
  have HH := hide (HeadSt.mk' w (.cells #[.int .i64 0, .slice none 0 0] 132) (.cells #[.int .u8 (byteAt s 0), .int .u8 (byteAt s 1), .int .u8 (byteAt s 2), .int .u8 (byteAt s 3)] 97) nq rfl)
  revert HH
  generalize (((w.alloc (.cells #[.int .i64 0, .slice none 0 0] 132)).alloc (.cells #[.int .u8 (byteAt s 0), .int .u8 (byteAt s 1), .int .u8 (byteAt s 2), .int .u8 (byteAt s 3)] 97)).drewN nq) = W
  intro HH
  clear hc4
  go_wp2_with (first | (go_at_call 71; refine (kindOK_any _ _).mono ?_; rintro e w' ⟨rfl, hw⟩; replace hw := hw.symm; subst hw) | (go_at_call 76; refine (demand_true _).mono ?_; rintro e w' ⟨rfl, hw⟩; replace hw := hw.symm; subst hw) | (go_at_call 73; refine (sum_rec s _ _ hs h4 (unhide HSM)).mono ?_; rintro e w' ⟨rfl, hw⟩; replace hw := hw.symm; subst hw))
  refine (readNumbers_no (bodyT s) _ (unhide HOK) ((unhide HE).below (unhide HH).below)).mono ?_
  rintro e w1 ⟨⟨u, pv, rfl⟩, hb⟩
  have HB := hide (fr (unhide HH).below hb)
  clear hb
  go_wp2
  exact ⟨rfl, ⟨u, pv, rfl⟩, unhide HB⟩

/-- readRecord panics at what is none. -/
theorem readRecord_no (s : ByteArray) (w : World) (hs : s.size ≤ 65536) (hr : ¬ RecP s) (hE : ErrW w) : Calls Tryz.prog 102 #[.string s] w fun e w' => (∃ u pv, e = .panicked [{ v := .iface u pv, recovered := false }]) ∧ Below w.heap.size w w' := by
  by_cases h4 : 4 ≤ s.size
  · cases hk : kindB (byteAt s 0) with
    | false => exact readRecord_kind s w hs h4 hk hE
    | true =>
      by_cases h3 : byteAt s 3 = 0
      · by_cases hcnt : ((bodyT s).size : Int) = byteAt s 1 * 4
        · by_cases hsum : byteAt s 2 = sumS (headT s ++ bodyT s)
          · cases hok : okU (bodyT s) with
            | false => exact readRecord_nums s w hs h4 hk h3 hcnt hsum hok hE
            | true => exact absurd ⟨h4, hk, h3, hcnt, hsum, hok⟩ hr
          · exact readRecord_sum s w hs h4 hk h3 hcnt hsum hE
        · exact readRecord_count s w hs h4 hk h3 hcnt hE
      · exact readRecord_last s w hs h4 hk h3 hE
  · exact readRecord_short s w h4 hE

end Go.Proofs.YtdfinapjgffjiaaGreatDoor

/- Contract of impl.readKind. -/
namespace Go.Proofs.YtdfinapjgffjiaaGreatDoor
open Go.RowKit
set_option linter.unusedVariables false
set_option maxRecDepth 100000

set_option maxHeartbeats 1600000 in
theorem readKind_yes (s : ByteArray) (k : Int) (w : World) (hs : s.size ≤ 65536) (hr : RecP s) (hk : byteAt s 0 = k) :
    Calls Tryz.prog 75 #[.string s, .int .i64 k] w fun e w' => ∃ v, e = .returned v ∧ OwnN w' w.heap.size v (unL (bodyT s)) ∧ Below w.heap.size w w' := by
  subst hk
  go_enter Tryz.func75, Tryz.ntmps75
  go_wp2_with fail
  refine (readRecord_yes s _ hs hr).mono ?_
  rintro e w1 ⟨v, rfl, ⟨qo, qa, rfl, ho⟩, hb⟩
  have HO := hide (ho.below (Joins.below_alloc1 _ (.cells #[.int .i64 (byteAt s 0), .slice qo (unL (bodyT s)).length qa] 132)))
  have HB := hide (fr hb (Joins.below_alloc1 _ (.cells #[.int .i64 (byteAt s 0), .slice qo (unL (bodyT s)).length qa] 132)))
  clear ho hb
  go_wp2_with (go_at_call 76; refine (demand_true _).mono ?_; rintro e w' ⟨rfl, hw⟩; replace hw := hw.symm; subst hw)
  go_ret
  exact ⟨.slice qo (unL (bodyT s)).length qa, rfl, ⟨qo, qa, rfl, unhide HO⟩, unhide HB⟩

set_option maxHeartbeats 1600000 in
theorem readKind_no (s : ByteArray) (k : Int) (w : World) (hs : s.size ≤ 65536) (hr : ¬ (RecP s ∧ byteAt s 0 = k)) (hE : ErrW w) :
    Calls Tryz.prog 75 #[.string s, .int .i64 k] w fun e w' => (∃ u pv, e = .panicked [{ v := .iface u pv, recovered := false }]) ∧ Below w.heap.size w w' := by
  by_cases hp : RecP s
  · have hkb : (byteAt s 0 == k) = false := by rw [beq_eq_false_iff_ne]; exact fun e => hr ⟨hp, e⟩
    have HE := hide hE
    clear hr hE
    go_enter Tryz.func75, Tryz.ntmps75
    go_wp2_with fail
    refine (readRecord_yes s _ hs hp).mono ?_
    rintro e w1 ⟨v, rfl, ⟨qo, qa, rfl, ho⟩, hb⟩
    have HB := hide (fr hb (Joins.below_alloc1 _ (.cells #[.int .i64 (byteAt s 0), .slice qo (unL (bodyT s)).length qa] 132)))
    clear ho hb
    go_wp2_with (go_at_call 76; refine (demand_false _ ((unhide HE).below (unhide HB))).mono ?_; rintro e w' ⟨⟨u, pv, rfl⟩, hw⟩; replace hw := hw.symm; subst hw)
    exact ⟨rfl, ⟨_, _, rfl⟩, unhide HB⟩
  · go_enter Tryz.func75, Tryz.ntmps75
    go_wp2_with fail
    refine (readRecord_no s _ hs hp hE).mono ?_
    rintro e w1 ⟨⟨u, pv, rfl⟩, hb⟩
    have HB := hide hb
    clear hb
    go_wp2
    exact ⟨rfl, ⟨_, _, rfl⟩, unhide HB⟩

end Go.Proofs.YtdfinapjgffjiaaGreatDoor

/- Contracts of impl.readDelta, impl.readText at a generation, impl.DecodeDelta. -/
namespace Go.Proofs.YtdfinapjgffjiaaGreatDoor
open Go.RowKit
set_option linter.unusedVariables false
set_option maxRecDepth 100000

theorem openB_iff {t : ByteArray} {k : Int} : openB t k = true ↔ RecP t ∧ byteAt t 0 = k := by
  simp only [openB, Bool.and_eq_true, decide_eq_true_eq, recB_iff]
theorem dec_open {t : ByteArray} (h : decB t = true) : (RecP t ∧ byteAt t 0 = 9) ∧ ∃ a b c, unL (bodyT t) = [a, b, c] ∧ dltB a b c = true ∧ decH t = a ∧ decG t = b ∧ decS t = c := by
  have h' := h
  simp only [decB, Bool.and_eq_true, decide_eq_true_eq] at h'
  obtain ⟨ho, hl, hd⟩ := h'
  obtain ⟨a, b, c, e⟩ := three hl
  rw [e] at hd
  refine ⟨openB_iff.1 ho, a, b, c, ?_, hd, dec_yes h e⟩
  rw [← e, decL, openL_yes ho]
theorem dec_shut {t : ByteArray} (h : decB t = false) (ho : RecP t ∧ byteAt t 0 = 9) (hl : (unL (bodyT t)).length = 3) : ∃ a b c, unL (bodyT t) = [a, b, c] ∧ dltB a b c = false := by
  have ho' := openB_iff.2 ho
  obtain ⟨a, b, c, e⟩ := three hl
  refine ⟨a, b, c, e, ?_⟩
  have e' : decL t = [a, b, c] := by rw [← e, decL, openL_yes ho']
  rw [← decB_at ho' e']; exact h

end Go.Proofs.YtdfinapjgffjiaaGreatDoor

/- Contracts of impl.readLeader, of the recovering closure of impl.readText at a leader. -/
namespace Go.Proofs.YtdfinapjgffjiaaGreatDoor
open Go.RowKit
set_option linter.unusedVariables false
set_option maxRecDepth 100000

theorem ld_open {t : ByteArray} (h : ldD t = true) : (RecP t ∧ byteAt t 0 = 6) ∧ ∃ a b c, unL (bodyT t) = [a, b, c] ∧ ldB ⟨a, b - 1, c⟩ = true ∧ ldK t = ⟨a, b - 1, c⟩ ∧ IntKind.i64.wrap (b - 1) = b - 1 := by
  have h' := h
  simp only [ldD, Bool.and_eq_true, decide_eq_true_eq] at h'
  obtain ⟨ho, hl, hd⟩ := h'
  obtain ⟨a, b, c, e⟩ := three hl
  rw [e] at hd
  refine ⟨openB_iff.1 ho, a, b, c, ?_, hd, ld_yes h e, open_mid ho e⟩
  rw [← e, ldL, openL_yes ho]
theorem ld_shut {t : ByteArray} (h : ldD t = false) (ho : RecP t ∧ byteAt t 0 = 6) (hl : (unL (bodyT t)).length = 3) : ∃ a b c, unL (bodyT t) = [a, b, c] ∧ ldB ⟨a, b - 1, c⟩ = false ∧ IntKind.i64.wrap (b - 1) = b - 1 := by
  have ho' := openB_iff.2 ho
  obtain ⟨a, b, c, e⟩ := three hl
  have e' : ldL t = [a, b, c] := by rw [← e, ldL, openL_yes ho']
  refine ⟨a, b, c, e, ?_, open_mid ho' e'⟩
  rw [← ldD_at ho' e']; exact h

set_option maxHeartbeats 1600000 in
theorem readLeader_yes (t : ByteArray) (w : World) (hs : t.size ≤ 65536) (hd : ldD t = true) :
    Calls Tryz.prog 37 #[.string t] w fun e w' => e = .returned (lV (ldK t)) ∧ Below w.heap.size w w' := by
  obtain ⟨⟨hr, hk⟩, a, b, c, hl, hdd, e1, wr1⟩ := ld_open hd
  rw [e1]
  have HL := hide hl
  have HDD := hide hdd
  have HR := hide hr
  have HK := hide hk
  clear hl hdd e1 hr hk hd
  have HA := hide (Joins.below_alloc1 w (.cells #[.int .i64 0, .int .i64 0, .int .i64 0] 30))
  have HV := hide (VarT.new w 30 0 0 0)
  go_enter Tryz.func37, Tryz.ntmps37
  go_wp2_with fail
  refine (readKind_yes t 6 _ hs (unhide HR) (unhide HK)).mono ?_
  rintro e w1 ⟨v, rfl, ⟨qo, qa, rfl, ho⟩, hb⟩
  have HB := hide (fr (unhide HA) hb)
  have HB1 := hide hb
  have hI := ownRN ho
  rw [unhide HL] at hI ⊢
  obtain ⟨g, off, rfl, hi0⟩ := hI 0 (by simp)
  obtain ⟨g', off', he, hi1⟩ := hI 1 (by simp)
  cases he
  obtain ⟨g', off', he, hi2⟩ := hI 2 (by simp)
  cases he
  simp only [List.getElem_cons_zero, List.getElem_cons_succ, Nat.add_zero] at hi0 hi1 hi2
  have hg := World.block_lt_of_cell? _ _ hi0
  clear hI ho hb
  simp only [List.length_cons, List.length_nil, Nat.zero_add, Nat.reduceAdd]
  go_wp2_with (go_at_call 76; refine (demand_true _).mono ?_; rintro e w' ⟨rfl, hw⟩; replace hw := hw.symm; subst hw)
  have HA2 := hide (Joins.below_alloc1 w1 (.cells #[.int .i64 a, .int .i64 (b - 1), .int .i64 c] 30)).drew
  have HV2 := hide (((unhide HV).below (unhide HB1)).below (unhide HA2))
  have HV3 : Hid (VarT (w1.alloc (.cells #[.int .i64 a, .int .i64 (b - 1), .int .i64 c] 30)).drew w1.heap.size 30 a (b - 1) c) := hide ((VarT.new w1 30 a (b - 1) c).below (Below.refl _ _).drew)
  have HB2 := hide (fr (unhide HB) (unhide HA2))
  go_region
  go_wp2_with fail
  refine (leaderOK_impl ⟨a, b - 1, c⟩ _).mono ?_
  rintro e w2 ⟨rfl, hb2⟩
  rw [unhide HDD]
  have HB3 := hide (fr (unhide HB2) hb2)
  obtain ⟨hc0, hc1, hc2⟩ := ((unhide HV2).below hb2).cells
  obtain ⟨hf0, hf1, hf2⟩ := ((unhide HV2).below hb2).free
  obtain ⟨hx0, hx1, hx2⟩ := ((unhide HV3).below hb2).cells
  have HR3 := hide (fun u v x => below3 (unhide HB3) (Nat.le_refl _) 0 1 2 u v x)
  clear hb2 hi0 hi1 hi2
  go_wp2_with (go_at_call 76; refine (demand_true _).mono ?_; rintro e w' ⟨rfl, hw⟩; replace hw := hw.symm; subst hw)
  exact bodyPost_ret (v := lV ⟨a, b - 1, c⟩) (by simp [results, Tryz.results37, go_sem, hc0, hc1, hc2]) rfl ⟨rfl, unhide HR3 _ _ _⟩

set_option maxHeartbeats 1600000 in
theorem readLeader_no (t : ByteArray) (w : World) (hs : t.size ≤ 65536) (hd : ldD t = false) (hE : ErrW w) :
    Calls Tryz.prog 37 #[.string t] w fun e w' => (∃ u pv, e = .panicked [{ v := .iface u pv, recovered := false }]) ∧ Below w.heap.size w w' := by
  have HA := hide (Joins.below_alloc1 w (.cells #[.int .i64 0, .int .i64 0, .int .i64 0] 30))
  have HE := hide (hE.below (unhide HA))
  clear hE
  by_cases hr : RecP t ∧ byteAt t 0 = 6
  · obtain ⟨hr1, hr2⟩ := hr
    by_cases hl : (unL (bodyT t)).length = 3
    · obtain ⟨a, b, c, hl, hdd, wr1⟩ := ld_shut hd ⟨hr1, hr2⟩ hl
      have HL := hide hl
      have HDD := hide hdd
      have HR := hide hr1
      have HK := hide hr2
      clear hl hdd hr1 hr2 hd
      go_enter Tryz.func37, Tryz.ntmps37
      go_wp2_with fail
      refine (readKind_yes t 6 _ hs (unhide HR) (unhide HK)).mono ?_
      rintro e w1 ⟨v, rfl, ⟨qo, qa, rfl, ho⟩, hb⟩
      have HB := hide (fr (unhide HA) hb)
      have HE1 := hide ((unhide HE).below hb)
      have hI := ownRN ho
      rw [unhide HL] at hI ⊢
      obtain ⟨g, off, rfl, hi0⟩ := hI 0 (by simp)
      obtain ⟨g', off', he, hi1⟩ := hI 1 (by simp)
      cases he
      obtain ⟨g', off', he, hi2⟩ := hI 2 (by simp)
      cases he
      simp only [List.getElem_cons_zero, List.getElem_cons_succ, Nat.add_zero] at hi0 hi1 hi2
      have hg := World.block_lt_of_cell? _ _ hi0
      clear hI ho hb
      simp only [List.length_cons, List.length_nil, Nat.zero_add, Nat.reduceAdd]
      go_wp2_with (go_at_call 76; refine (demand_true _).mono ?_; rintro e w' ⟨rfl, hw⟩; replace hw := hw.symm; subst hw)
      have HA2 := hide (Joins.below_alloc1 w1 (.cells #[.int .i64 a, .int .i64 (b - 1), .int .i64 c] 30)).drew
      have HV3 : Hid (VarT (w1.alloc (.cells #[.int .i64 a, .int .i64 (b - 1), .int .i64 c] 30)).drew w1.heap.size 30 a (b - 1) c) := hide ((VarT.new w1 30 a (b - 1) c).below (Below.refl _ _).drew)
      have HB2 := hide (fr (unhide HB) (unhide HA2))
      go_region
      go_wp2_with fail
      refine (leaderOK_impl ⟨a, b - 1, c⟩ _).mono ?_
      rintro e w2 ⟨rfl, hb2⟩
      rw [unhide HDD]
      have HB3 := hide (fr (unhide HB2) hb2)
      have HE2 := hide (((unhide HE1).below (unhide HA2)).below hb2)
      clear hb2 hi0 hi1 hi2
      go_wp2_with (go_at_call 76; refine (demand_false _ (unhide HE2)).mono ?_; rintro e w' ⟨⟨u, pv, rfl⟩, hw⟩; replace hw := hw.symm; subst hw)
      exact ⟨rfl, ⟨_, _, rfl⟩, unhide HB3⟩
    · have hl3 : ((((unL (bodyT t)).length : Nat) : Int) == 3) = false := by rw [beq_eq_false_iff_ne]; omega
      have HR := hide hr1
      have HK := hide hr2
      clear hl hr1 hr2 hd
      go_enter Tryz.func37, Tryz.ntmps37
      go_wp2_with fail
      refine (readKind_yes t 6 _ hs (unhide HR) (unhide HK)).mono ?_
      rintro e w1 ⟨v, rfl, ⟨qo, qa, rfl, ho⟩, hb⟩
      have HB := hide (fr (unhide HA) hb)
      have HE1 := hide ((unhide HE).below hb)
      clear ho hb
      go_wp2_with (go_at_call 76; refine (demand_false _ (unhide HE1)).mono ?_; rintro e w' ⟨⟨u, pv, rfl⟩, hw⟩; replace hw := hw.symm; subst hw)
      exact ⟨rfl, ⟨_, _, rfl⟩, unhide HB⟩
  · go_enter Tryz.func37, Tryz.ntmps37
    go_wp2_with fail
    refine (readKind_no t 6 _ hs hr (unhide HE)).mono ?_
    rintro e w1 ⟨⟨u, pv, rfl⟩, hb⟩
    have HB := hide (fr (unhide HA) hb)
    clear hb
    go_wp2
    exact ⟨rfl, ⟨_, _, rfl⟩, unhide HB⟩

theorem catchL_panicking (p : Addr) (x : Int) (u : TypeId) (pv : Value) (older : List PanicEntry) (w : World) (hc : w.cell? p = some (.int .i64 x)) (hz : w.frozen? p = false) :
    CallsD Tryz.prog 74 #[.pointer (some p)] (.panicking ({ v := .iface u pv, recovered := false } :: older)) w fun e u' w' =>
      e = .returned (.tuple #[]) ∧ u' = .panicking ({ v := .iface u pv, recovered := true } :: older) ∧ w' = w.setCell p (.int .i64 3) := by
  refine callsD_of_wpS Tryz.func74 rfl fun c₀ cs hu => ?_
  apply wpS_seq
  apply wpS_region
  simp [wpOpsS, go_sem, recoverD, hu, Tryz.ntmps74, Exit.thenS]
  refine wpS_cond (t := true) (by simp [Act.eval, Array.replicate]) ?_
  simp only [if_true]
  apply wpS_region
  simp [wpOpsS, go_sem, hc, hz, bodyPostS, results, Tryz.results74]

theorem catchL_idle (p : Addr) (w : World) :
    CallsD Tryz.prog 74 #[.pointer (some p)] .returning w fun e u' w' => e = .returned (.tuple #[]) ∧ u' = .returning ∧ w' = w := by
  refine callsD_of_wpS Tryz.func74 rfl fun c₀ cs hu => ?_
  apply wpS_seq
  apply wpS_region
  simp [wpOpsS, go_sem, recoverD, hu, Tryz.ntmps74, Exit.thenS]
  refine wpS_cond (t := false) (by simp [Act.eval, Array.replicate]) ?_
  simp only [Bool.false_eq_true, if_false]
  refine wpS_of_wp (wp_skip ?_)
  cases c₀
  simp_all [bodyPostS, results, Tryz.results74]

end Go.Proofs.YtdfinapjgffjiaaGreatDoor

/- Contracts of impl.readText at a leader, impl.DecodeLeader. -/
namespace Go.Proofs.YtdfinapjgffjiaaGreatDoor
open Go.RowKit
set_option linter.unusedVariables false
set_option maxRecDepth 100000

theorem two_newL {w w1 : World} (hb : Below ((w.alloc (.cells #[.int .i64 0, .int .i64 0, .int .i64 0] 30)).alloc (.cells #[.int .i64 0] 3)).heap.size ((w.alloc (.cells #[.int .i64 0, .int .i64 0, .int .i64 0] 30)).alloc (.cells #[.int .i64 0] 3)) w1) : VarT w1 w.heap.size 30 0 0 0 ∧ w1.heap[w.heap.size + 1]? = some (.cells #[.int .i64 0] 3 (0, 0)) := by
  constructor
  · exact ((VarT.new w _ 0 0 0).below (Joins.below_alloc1 _ _)).below hb
  · rw [hb.block _ (by simp)]
    have := heap_alloc_new (w.alloc (.cells #[.int .i64 0, .int .i64 0, .int .i64 0] 30)) (.cells #[.int .i64 0] 3)
    simp only [World.size_alloc] at this
    exact this

set_option maxHeartbeats 1600000 in
theorem readTextL_yes (s : ByteArray) (w : World) (hs : s.size ≤ 65536) (hd : ldD s = true) :
    Calls Tryz.prog 36 #[.string s, .func (.func 37) #[] #[]] w fun e w' => e = .returned (.tuple #[lV (ldK s), .int .i64 0]) ∧ Below w.heap.size w w' := by
  have hmf : ∀ (fn : Fn) (first cap : Array Value) (w : World), (Instr.makeFunc fn first cap).run Tryz.prog w = .ok (.func fn first cap) w := fun _ _ _ _ => rfl
  have HD := hide hd
  clear hd
  go_enter_defers Tryz.func36, Tryz.ntmps36
  go_wp2_with fail
  refine (readLeader_yes s _ hs (unhide HD)).mono ?_
  rintro e w1 ⟨rfl, hb1⟩
  obtain ⟨hv, hblk⟩ := two_newL hb1
  obtain ⟨v0, v1, v2⟩ := hv.cells
  obtain ⟨f0, f1, f2⟩ := hv.free
  have hc0 := Joins.cell_of_block hblk 0
  have hf0 := Joins.unfrozen_of_block hblk 0
  simp only [List.size_toArray, List.length_cons, List.length_nil, Nat.zero_add, Nat.lt_add_one, getElem?_pos, List.getElem_toArray, List.getElem_cons_zero] at hc0
  have HB := hide (fr (Joins.below_alloc2 w _ _) hb1)
  clear hb1 hblk hv
  go_wp2
  refine leaves_cons (f := 74) (args := #[.pointer (some ⟨w.heap.size + 1, 0, none⟩)]) (by simp) (by simp [go_sem]) ?_
  refine (catchL_idle ⟨w.heap.size + 1, 0, none⟩ _).mono ?_
  rintro e u' w'' ⟨rfl, rfl, rfl⟩
  simp [Leaves, settle, results, Tryz.results36, go_sem, v0, v1, v2, hc0]
  exact (below3 (unhide HB) (Nat.le_refl _) 0 1 2 _ _ _).setCell (p := ⟨w.heap.size + 1, 0, none⟩) (Nat.le_succ _) _

set_option maxHeartbeats 1600000 in
theorem readTextL_no (s : ByteArray) (w : World) (hs : s.size ≤ 65536) (hd : ldD s = false) (hE : ErrW w) :
    Calls Tryz.prog 36 #[.string s, .func (.func 37) #[] #[]] w fun e w' => e = .returned (.tuple #[lV ld0, .int .i64 3]) ∧ Below w.heap.size w w' := by
  have hmf : ∀ (fn : Fn) (first cap : Array Value) (w : World), (Instr.makeFunc fn first cap).run Tryz.prog w = .ok (.func fn first cap) w := fun _ _ _ _ => rfl
  have HD := hide hd
  have HE := hide (hE.below (Joins.below_alloc2 w (.cells #[.int .i64 0, .int .i64 0, .int .i64 0] 30) (.cells #[.int .i64 0] 3)))
  clear hd hE
  go_enter_defers Tryz.func36, Tryz.ntmps36
  go_wp2_with fail
  refine (readLeader_no s _ hs (unhide HD) (unhide HE)).mono ?_
  rintro e w1 ⟨⟨u, pv, rfl⟩, hb1⟩
  obtain ⟨hv, hblk⟩ := two_newL hb1
  obtain ⟨v0, v1, v2⟩ := hv.cells
  have hc0 := Joins.cell_of_block hblk 0
  have hf0 := Joins.unfrozen_of_block hblk 0
  simp only [List.size_toArray, List.length_cons, List.length_nil, Nat.zero_add, Nat.lt_add_one, getElem?_pos, List.getElem_toArray, List.getElem_cons_zero] at hc0
  have HB := hide (fr (Joins.below_alloc2 w _ _) hb1)
  clear hb1 hblk hv
  go_wp2
  refine leaves_cons (f := 74) (args := #[.pointer (some ⟨w.heap.size + 1, 0, none⟩)]) (by simp) (by simp [go_sem]) ?_
  refine (catchL_panicking ⟨w.heap.size + 1, 0, none⟩ 0 u pv [] _ hc0 hf0).mono ?_
  rintro e u' w'' ⟨rfl, rfl, rfl⟩
  simp [Leaves, settle, results, Tryz.results36, go_sem, v0, v1, v2, hc0, ld0]
  exact (unhide HB).setCell (p := ⟨w.heap.size + 1, 0, none⟩) (Nat.le_succ _) _

theorem readTextL_long (s : ByteArray) (w : World) (hs : 65536 < s.size) (f : Value) :
    Calls Tryz.prog 36 #[.string s, f] w fun e w' => e = .returned (.tuple #[lV ld0, .int .i64 2]) ∧ Below w.heap.size w w' := by
  go_enter_defers Tryz.func36, Tryz.ntmps36
  go_wp2
  simp [bodyPostD, Leaves, results, Tryz.results36, go_sem, ld0]
  exact Joins.below_alloc2 _ _ _

set_option maxHeartbeats 1600000 in
theorem decodeLeader_impl (t : ByteArray) (w : World) (hE : ErrW w) : Calls Tryz.prog 13 #[.string t] w fun e w' => e = .returned (.tuple #[lV (lcK t), .int .i64 (lcC t)]) ∧ Below w.heap.size w w' := by
  have hmf : ∀ (fn : Fn) (first cap : Array Value) (w : World), (Instr.makeFunc fn first cap).run Tryz.prog w = .ok (.func fn first cap) w := fun _ _ _ _ => rfl
  have HA := hide (Joins.below_alloc1 w (.cells #[.int .i64 0, .int .i64 0, .int .i64 0] 30))
  have HE := hide (hE.below (unhide HA))
  have HV := hide (VarT.new w 30 0 0 0)
  clear hE
  obtain ⟨K, HK⟩ : ∃ K : Prop, Hid K := ⟨True, trivial⟩
  have key : ∀ (K1 : Ld) (d : Int), (lcK t = K1 ∧ lcC t = d) → (∀ W, ErrW W → Calls Tryz.prog 36 #[.string t, .func (.func 37) #[] #[]] W fun e w' => e = .returned (.tuple #[lV K1, .int .i64 d]) ∧ Below W.heap.size W w') →
      Calls Tryz.prog 13 #[.string t] w fun e w' => e = .returned (.tuple #[lV (lcK t), .int .i64 (lcC t)]) ∧ Below w.heap.size w w' := by
    intro K1 d hq hc
    have HQ := hide hq
    have HC := hide hc
    clear hq hc
    go_enter Tryz.func13, Tryz.ntmps13
    go_wp2_with fail
    refine (unhide HC _ (unhide HE)).mono ?_
    rintro e w1 ⟨rfl, hb⟩
    have HV1 := hide ((unhide HV).below hb)
    obtain ⟨hc0, hc1, hc2⟩ := (unhide HV1).cells
    obtain ⟨hf0, hf1, hf2⟩ := (unhide HV1).free
    have HB := hide (fun u v x => below3 (fr (unhide HA) hb) (Nat.le_refl _) 0 1 2 u v x)
    clear hb
    go_wp2
    refine bodyPost_ret (v := .tuple #[lV K1, .int .i64 d]) (by simp [results, Tryz.results13, go_sem, hc0, hc1, hc2]) rfl ⟨?_, unhide HB _ _ _⟩
    exact ret_li (unhide HQ).1.symm (unhide HQ).2.symm
  by_cases h1 : 65536 < t.size
  · exact key _ _ (lc_long h1) (fun W _ => readTextL_long t W h1 _)
  · by_cases hd : ldD t = true
    · exact key _ _ (lc_yes h1 hd) (fun W _ => readTextL_yes t W (by omega) hd)
    · rw [Bool.not_eq_true] at hd
      exact key _ _ (lc_no h1 hd) (fun W hW => readTextL_no t W (by omega) hd hW)

end Go.Proofs.YtdfinapjgffjiaaGreatDoor

/- Contracts of the program's leader on a disk: nobodySince, leaderSeen, ReadLeader, Holds. -/
namespace Go.Proofs.YtdfinapjgffjiaaGreatDoor
open Go.RowKit
set_option linter.unusedVariables false
set_option maxRecDepth 100000

set_option maxHeartbeats 1600000 in
theorem nobodySince_any (v : Int) (w : World) : Calls Tryz.prog 55 #[.int .i64 v] w fun e w' => e = .returned (lV (ldN v)) ∧ Below w.heap.size w w' := by
  go_enter Tryz.func55, Tryz.ntmps55
  go_wp2
  exact bodyPost_ret (v := lV (ldN v)) (by simp [results, Tryz.results55, go_sem, ldN]) rfl ⟨rfl, Joins.below_alloc1 _ _⟩

theorem seenAt (ao bo : Option Addr) (ca cb : Nat) (ss : List ByteArray) (xs : List Wr) (h a : Int) (T : ByteArray) (w : World) (hd : diskB ss xs = true) (h0 : 0 ≤ a) (h3 : a ≤ 63) (hT : readV ss xs h a = T) (h1 : Ss w ao ss) (h2 : Ios w bo xs) :
    Calls Tryz.prog 54 #[.agg #[.slice ao ss.length ca, .slice bo xs.length cb], .int .i64 h, .int .i64 a] w fun e w' => e = .returned (.string T) ∧ Below w.heap.size w w' := by
  obtain ⟨l1, l2⟩ := diskB_len hd
  obtain ⟨n, rfl⟩ := Int.eq_ofNat_of_zero_le h0
  subst hT
  exact seenBy_any ao bo ca cb ss xs h n w l2 (by omega) (by omega) h1 h2

set_option maxHeartbeats 1600000 in
theorem leaderSeen_any (ao bo : Option Addr) (ca cb : Nat) (ss : List ByteArray) (xs : List Wr) (h : Int) (L : Ld) (w : World) (hL : ldOf ss xs h = L) (hd : diskB ss xs = true) (h1 : Ss w ao ss) (h2 : Ios w bo xs) (hE : ErrW w) :
    Calls Tryz.prog 24 #[.agg #[.slice ao ss.length ca, .slice bo xs.length cb], .int .i64 h] w fun e w' => e = .returned (lV L) ∧ Below w.heap.size w w' := by
  have HS := hide (readV_size hd h 0)
  have HA := hide (Joins.below_alloc2 w (.cells #[.slice ao ss.length ca, .slice bo xs.length cb] 26) (.cells #[.int .i64 0, .int .i64 0, .int .i64 0] 30))
  have H1 := hide (h1.below (unhide HA))
  have H2 := hide (h2.below (unhide HA))
  have HE0 := hide (hE.below (unhide HA))
  have HR := hide (varL_new w (.cells #[.slice ao ss.length ca, .slice bo xs.length cb] 26) 0 0 0)
  obtain ⟨T, HT⟩ : ∃ T, Hid (readV ss xs h 0 = T) := ⟨_, hide rfl⟩
  have HK : Hid (ldK T = L) := hide (by rw [← unhide HT]; exact hL)
  rw [unhide HT] at HS
  have HD := hide hd
  clear h1 h2 hd hL hE
  go_enter Tryz.func24, Tryz.ntmps24
  go_wp2_with fail
  refine (seenAt _ _ _ _ ss xs h 0 T _ (unhide HD) (by decide) (by decide) (unhide HT) (unhide H1) (unhide H2)).mono ?_
  rintro e w1 ⟨rfl, hb1⟩
  have HB1 := hide (fr (unhide HA) hb1)
  have HR1 := hide ((unhide HR).below hb1)
  have HE1 := hide ((unhide HE0).below hb1)
  clear hb1
  go_wp2_with fail
  refine (decodeLeader_impl T _ (unhide HE1)).mono ?_
  rintro e w2 ⟨rfl, hb2⟩
  have HB2 := hide (fr (unhide HB1) hb2)
  have HR2 := hide ((unhide HR1).below hb2)
  clear hb2
  by_cases hd : ldD T = true
  · obtain ⟨y1, y2⟩ := lc_yes (t := T) (by have := unhide HS; omega) hd
    rw [y1, y2, unhide HK]
    clear y1 y2 hd
    obtain ⟨hc0, hc1, hc2⟩ := (unhide HR2).cells
    obtain ⟨hf0, hf1, hf2⟩ := (unhide HR2).free
    have hlt := (unhide HR2).lt
    have HE := hide (fun u v x => fr (below3 (g := w.heap.size + 1) (unhide HB2) (by omega) 0 1 2 u v x) (Joins.below_alloc1 _ (.cells #[.int .i64 L.ver, .int .i64 L.own, .int .i64 L.gen] 30)))
    go_wp2
    exact bodyPost_ret (v := lV L) (by simp [results, Tryz.results24, go_sem, hc0, hc1, hc2, hlt]) rfl ⟨rfl, unhide HE _ _ _⟩
  · rw [Bool.not_eq_true] at hd
    obtain ⟨y1, y2⟩ := lc_no (t := T) (by have := unhide HS; omega) hd
    have HY : Hid (ldN 0 = L) := hide (by rw [← ld_no hd]; exact unhide HK)
    rw [y1, y2]
    clear y1 y2 hd
    have HA3 := hide (Joins.below_alloc1 w2 (.cells #[.int .i64 ld0.ver, .int .i64 ld0.own, .int .i64 ld0.gen] 30))
    have HR3 := hide ((unhide HR2).below (unhide HA3))
    go_wp2_with fail
    refine (nobodySince_any 0 _).mono ?_
    rintro e w3 ⟨rfl, hb3⟩
    have HB3 := hide (fr (fr (unhide HB2) (unhide HA3)) hb3)
    have HR4 := hide ((unhide HR3).below hb3)
    clear hb3
    obtain ⟨hc0, hc1, hc2⟩ := (unhide HR4).cells
    obtain ⟨hf0, hf1, hf2⟩ := (unhide HR4).free
    have HE := hide (fun u v x => below3 (g := w.heap.size + 1) (unhide HB3) (by omega) 0 1 2 u v x)
    go_wp2
    exact bodyPost_ret (v := lV (ldN 0)) (by simp [results, Tryz.results24, go_sem, hc0, hc1, hc2]) rfl ⟨ret_l (unhide HY), unhide HE _ _ _⟩

set_option maxHeartbeats 1600000 in
theorem readLeader_impl (ao bo : Option Addr) (ca cb : Nat) (ss : List ByteArray) (xs : List Wr) (h : Int) (w : World) (hl : ss.length ≤ maxLen) (hm : xs.length ≤ maxLen) (h1 : Ss w ao ss) (h2 : Ios w bo xs) (hE : ErrW w) :
    Calls Tryz.prog 7 #[.agg #[.slice ao ss.length ca, .slice bo xs.length cb], .int .i64 h] w fun e w' => e = .returned (.tuple #[lV (rlK ss xs h), .int .i64 (hostC ss xs h)]) ∧ Below w.heap.size w w' := by
  have HA := hide (Joins.below_alloc2 w (.cells #[.slice ao ss.length ca, .slice bo xs.length cb] 26) (.cells #[.int .i64 0, .int .i64 0, .int .i64 0] 30))
  have H1 := hide (h1.below (unhide HA))
  have H2 := hide (h2.below (unhide HA))
  have HE0 := hide (hE.below (unhide HA))
  have HV := hide ((VarD.new w (.slice ao ss.length ca) (.slice bo xs.length cb)).below (Joins.below_alloc1 _ (.cells #[.int .i64 0, .int .i64 0, .int .i64 0] 30)))
  have HR := hide (varL_new w (.cells #[.slice ao ss.length ca, .slice bo xs.length cb] 26) 0 0 0)
  have HL := hide hl
  have HM := hide hm
  clear h1 h2 hl hm hE
  go_enter Tryz.func7, Tryz.ntmps7
  go_wp2_with fail
  refine (hostFault_any _ _ _ _ ss xs h _ (unhide HL) (unhide HM) (unhide H1) (unhide H2)).mono ?_
  rintro e w1 ⟨rfl, hb1⟩
  have HB1 := hide (fr (unhide HA) hb1)
  have HV1 := hide ((unhide HV).below hb1)
  have HR1 := hide ((unhide HR).below hb1)
  have HS1 := hide ((unhide H1).below hb1)
  have HX1 := hide ((unhide H2).below hb1)
  have HE1 := hide ((unhide HE0).below hb1)
  clear hb1
  by_cases e0 : hostC ss xs h = 0
  · have hb : (hostC ss xs h != 0) = false := by simp [e0]
    obtain ⟨ed, eh0, eh3⟩ := hostC_eq e0
    have HD := hide ed
    obtain ⟨d0, d1⟩ := (unhide HV1).cells
    obtain ⟨L, HK⟩ : ∃ L, Hid (ldOf ss xs h = L) := ⟨_, hide rfl⟩
    have HZ : Hid (rlK ss xs h = L) := hide (by rw [rlK, if_pos e0]; exact unhide HK)
    have HC := hide e0
    clear ed e0
    go_wp2_with fail
    refine (leaderSeen_any _ _ _ _ ss xs h L _ (unhide HK) (unhide HD) (unhide HS1) (unhide HX1) (unhide HE1)).mono ?_
    rintro e w3 ⟨rfl, hb3⟩
    have HB3 := hide (fr (unhide HB1) hb3)
    have HR3 := hide ((unhide HR1).below hb3)
    clear hb3 d0 d1
    obtain ⟨c0, c1, c2⟩ := (unhide HR3).cells
    obtain ⟨f0, f1, f2⟩ := (unhide HR3).free
    have HE := hide (fun u v x => below3 (g := w.heap.size + 1) (unhide HB3) (by omega) 0 1 2 u v x)
    go_wp2
    refine bodyPost_ret (v := .tuple #[lV L, .int .i64 0]) (by simp [results, Tryz.results7, go_sem, c0, c1, c2]) rfl ⟨?_, unhide HE _ _ _⟩
    exact ret_li (unhide HZ).symm (unhide HC).symm
  · have hb : (hostC ss xs h != 0) = true := by simp [e0]
    have HZ : Hid (rlK ss xs h = ld0) := hide (if_neg e0)
    obtain ⟨c0, c1, c2⟩ := (unhide HR1).cells
    obtain ⟨f0, f1, f2⟩ := (unhide HR1).free
    have HE := hide (fun u v x => below3 (g := w.heap.size + 1) (unhide HB1) (by omega) 0 1 2 u v x)
    go_wp2
    refine bodyPost_ret (v := .tuple #[lV ld0, .int .i64 (hostC ss xs h)]) (by simp [results, Tryz.results7, go_sem, c0, c1, c2, ld0]) rfl ⟨?_, unhide HE _ _ _⟩
    exact ret_li (unhide HZ).symm rfl

set_option maxHeartbeats 1600000 in
theorem holds_impl (ao bo : Option Addr) (ca cb : Nat) (ss : List ByteArray) (xs : List Wr) (h g : Int) (w : World) (hl : ss.length ≤ maxLen) (hm : xs.length ≤ maxLen) (h1 : Ss w ao ss) (h2 : Ios w bo xs) (hE : ErrW w) :
    Calls Tryz.prog 11 #[.agg #[.slice ao ss.length ca, .slice bo xs.length cb], .int .i64 h, .int .i64 g] w fun e w' => e = .returned (.tuple #[.bool (hlB ss xs h g), .int .i64 (hostC ss xs h)]) ∧ Below w.heap.size w w' := by
  have HA := hide (Joins.below_alloc1 w (.cells #[.slice ao ss.length ca, .slice bo xs.length cb] 26))
  have H1 := hide (h1.below (unhide HA))
  have H2 := hide (h2.below (unhide HA))
  have HE0 := hide (hE.below (unhide HA))
  have HL := hide hl
  have HM := hide hm
  clear h1 h2 hl hm hE
  go_enter Tryz.func11, Tryz.ntmps11
  go_wp2_with fail
  refine (readLeader_impl _ _ _ _ ss xs h _ (unhide HL) (unhide HM) (unhide H1) (unhide H2) (unhide HE0)).mono ?_
  rintro e w1 ⟨rfl, hb1⟩
  obtain ⟨L, HK⟩ : ∃ L, Hid (rlK ss xs h = L) := ⟨_, hide rfl⟩
  rw [unhide HK]
  have HB1 := hide (fr (fr (unhide HA) hb1) (Joins.below_alloc1 _ (.cells #[.int .i64 L.ver, .int .i64 L.own, .int .i64 L.gen] 30)))
  clear hb1
  by_cases e0 : hostC ss xs h = 0
  · have hb : (hostC ss xs h != 0) = false := by simp [e0]
    have HZ : Hid (hlB ss xs h g = (decide (L.own = h) && decide (L.gen = g))) := hide (by rw [hlB, decide_eq_true e0, ← unhide HK, rlK, if_pos e0]; rfl)
    have HC := hide e0
    clear e0
    by_cases k1 : L.own = h
    · have b1 : (L.own == h) = true := beq_iff_eq.2 k1
      have HY : Hid (hlB ss xs h g = (L.gen == g)) := hide (by rw [unhide HZ, Bool.eq_iff_iff]; simp [k1])
      clear k1
      go_wp2
      go_ret2
      exact ⟨ret_bi2 (unhide HY).symm (unhide HC).symm, unhide HB1⟩
    · have b1 : (L.own == h) = false := by simp [k1]
      have HY : Hid (hlB ss xs h g = false) := hide (by rw [unhide HZ]; simp [k1])
      clear k1
      go_wp2
      go_ret2
      exact ⟨ret_bi2 (unhide HY).symm (unhide HC).symm, unhide HB1⟩
  · have hb : (hostC ss xs h != 0) = true := by simp [e0]
    have HZ : Hid (hlB ss xs h g = false) := hide (by rw [hlB, decide_eq_false e0]; rfl)
    go_wp2
    go_ret2
    exact ⟨ret_bi2 (unhide HZ).symm rfl, unhide HB1⟩

end Go.Proofs.YtdfinapjgffjiaaGreatDoor

/- Plain facts on records, of no program: what is packed is read back, what is sealed is opened. -/
namespace Go.Proofs.YtdfinapjgffjiaaGreatDoor
open Go.RowKit
set_option linter.unusedVariables false

theorem allB_in {xs : List Int} (h : allB xs = true) : ∀ j (hj : j < xs.length), 0 ≤ xs[j] ∧ xs[j] ≤ 2147483647 := by
  intro j hj
  rw [allB, List.all_eq_true] at h
  have := h _ (List.getElem_mem hj)
  simpa [numB, inB] using this
theorem pack_byte {xs : List Int} {i j : Nat} (hi : i < xs.length) (hj : j < 4) : byteAt (packS xs) (i * 4 + j) = byteN xs[i] j := by
  obtain ⟨hk, he⟩ := List.getElem?_eq_some_iff.1 (packL_at xs i j hi hj)
  have hb := byteN_in xs[i] j
  rw [packS, byteAt_nums hk (by rw [he]; omega) (by rw [he]; omega), he]
theorem num_of_bytes {n : Int} (h0 : 0 ≤ n) (h1 : n ≤ 2147483647) : byteN n 0 + byteN n 1 * 256 + byteN n 2 * 65536 + byteN n 3 * 16777216 = n := by
  show n / 1 % 256 + n / 256 % 256 * 256 + n / 65536 % 256 * 65536 + n / 16777216 % 256 * 16777216 = n
  omega
theorem un_pack {xs : List Int} (h : allB xs = true) : unL (packS xs) = xs := by
  apply List.ext_getElem
  · rw [unL_length, packS_size]; omega
  · intro i h1 h2
    rw [unL_get h1]
    have hin := allB_in h i h2
    unfold numAt
    have e0 := pack_byte h2 (show 0 < 4 by omega)
    rw [Nat.add_zero] at e0
    rw [e0, pack_byte h2 (show 1 < 4 by omega), pack_byte h2 (show 2 < 4 by omega), pack_byte h2 (show 3 < 4 by omega)]
    exact num_of_bytes hin.1 hin.2
theorem okU_pack {xs : List Int} (h : allB xs = true) (hl : xs.length ≤ 16) : okU (packS xs) = true := by
  rw [okU_even (by rw [packS_size]; omega), un_pack h, intsB, h, decide_eq_true hl]; rfl
theorem intsB_small {xs : List Int} (h : allB xs = true) (hl : xs.length ≤ 16) : intsB xs = true := by rw [intsB, h, decide_eq_true hl]; rfl
theorem unC_pack {xs : List Int} (h : allB xs = true) (hl : xs.length ≤ 16) : unC (packS xs) = 0 := unC_ok (by rw [packS_size]; omega) (okU_pack h hl)
theorem unR_pack {xs : List Int} (h : allB xs = true) (hl : xs.length ≤ 16) : unR (packS xs) = xs := by rw [unR_ok (unC_pack h hl), un_pack h]
theorem unC_long_by {s : ByteArray} (h : ¬ s.size % 4 = 0) (hl : s.size ≤ 65536) : unC s = 3 := unC_bad (by omega) (okU_rest h)

theorem kindB_of {k : Int} (hk : 1 ≤ k ∧ k ≤ 9) : kindB k = true := by simp [kindB, inB]; omega
theorem seal_byte {k : Int} {xs : List Int} (hk : 1 ≤ k ∧ k ≤ 9) (hl : xs.length ≤ 16) {j : Nat} (hj : j < 4) : byteAt (sealS k xs) j = (headR k xs)[j]'(by simpa [headR] using hj) := by
  have hr := sumR_in k xs
  rw [sealS, byteAt_left (by rw [strOfNums_size]; simpa [headR] using hj), byteAt_nums]
  · rcases (show j = 0 ∨ j = 1 ∨ j = 2 ∨ j = 3 by omega) with rfl | rfl | rfl | rfl <;> simp [headR] <;> omega
  · rcases (show j = 0 ∨ j = 1 ∨ j = 2 ∨ j = 3 by omega) with rfl | rfl | rfl | rfl <;> simp [headR] <;> omega
theorem body_seal {k : Int} {xs : List Int} : bodyT (sealS k xs) = packS xs := by
  apply bytes_eq
  · rw [bodyT_size, sealS_size, packS_size]; omega
  · intro j hj
    rw [bodyT_size, sealS_size] at hj
    rw [bodyT_byte (by rw [sealS_size]; omega), sealS, byteAt_right (by rw [strOfNums_size]; simp [headR]), strOfNums_size]
    congr 1
    simp [headR]
theorem rec_seal {k : Int} {xs : List Int} (hk : 1 ≤ k ∧ k ≤ 9) (h : allB xs = true) (hl : xs.length ≤ 16) : RecP (sealS k xs) := by
  have e0 := seal_byte hk hl (show 0 < 4 by omega)
  have hkb : kindB (byteAt (sealS k xs) 0) = true := by rw [e0]; exact kindB_of hk
  refine (seal_iff (by rw [sealS_size]; omega) hkb (by rw [body_seal]; exact okU_pack h hl)).1 ?_
  rw [body_seal, un_pack h, e0]
  simp [headR]
theorem seal_kind {k : Int} {xs : List Int} (hk : 1 ≤ k ∧ k ≤ 9) (hl : xs.length ≤ 16) : byteAt (sealS k xs) 0 = k := by rw [seal_byte hk hl (show 0 < 4 by omega)]; simp [headR]
theorem seal_count {k : Int} {xs : List Int} (hk : 1 ≤ k ∧ k ≤ 9) (hl : xs.length ≤ 16) : byteAt (sealS k xs) 1 = xs.length := by rw [seal_byte hk hl (show 1 < 4 by omega)]; simp [headR]
theorem opC_seal {k : Int} {xs : List Int} (hk : 1 ≤ k ∧ k ≤ 9) (h : allB xs = true) (hl : xs.length ≤ 16) : opC (sealS k xs) k = 0 :=
  opC_ok (by rw [sealS_size]; omega) (kindB_of hk) (recB_true (rec_seal hk h hl)) (seal_kind hk hl)
theorem opR_seal {k : Int} {xs : List Int} (hk : 1 ≤ k ∧ k ≤ 9) (h : allB xs = true) (hl : xs.length ≤ 16) : opR (sealS k xs) k = xs := by rw [opR_ok (opC_seal hk h hl), body_seal, un_pack h]
theorem opC_other {k k' : Int} {xs : List Int} (hk : 1 ≤ k ∧ k ≤ 9) (hk' : 1 ≤ k' ∧ k' ≤ 9) (hne : k ≠ k') (hl : xs.length ≤ 16) : opC (sealS k xs) k' = 3 :=
  opC_no (by rw [sealS_size]; omega) (kindB_of hk') (fun h => hne (by rw [← seal_kind hk hl]; exact h.2))
theorem kdC_seal {k : Int} {xs : List Int} (hk : 1 ≤ k ∧ k ≤ 9) (h : allB xs = true) (hl : xs.length ≤ 16) : kdC (sealS k xs) = 0 := kdC_ok (by rw [sealS_size]; omega) (recB_true (rec_seal hk h hl))
theorem kdR_seal {k : Int} {xs : List Int} (hk : 1 ≤ k ∧ k ≤ 9) (h : allB xs = true) (hl : xs.length ≤ 16) : kdR (sealS k xs) = k := by rw [kdR_ok (kdC_seal hk h hl), seal_kind hk hl]
/-- A text whose length is not what its second byte says is none. -/
theorem opC_size {s : ByteArray} {k : Int} (hk : 1 ≤ k ∧ k ≤ 9) (hs : s.size ≤ 65536) (h : 4 ≤ s.size → (s.size : Int) ≠ 4 + byteAt s 1 * 4) : opC s k = 3 :=
  opC_no (by omega) (kindB_of hk) (fun hh => by
    obtain ⟨h4, _, _, hc, _, _⟩ := recB_iff.1 hh.1
    rw [bodyT_size] at hc
    exact h h4 (by omega))
theorem opC_cut {k : Int} {xs : List Int} {q : Nat} (hk : 1 ≤ k ∧ k ≤ 9) (hl : xs.length ≤ 16) (hq : q < 4 + xs.length * 4) : opC ((sealS k xs).extract 0 q) k = 3 := by
  have hz := sealS_size k xs
  have hsz : ((sealS k xs).extract 0 q).size = q := by simp [hz]; omega
  refine opC_size hk (by omega) (fun h4 => ?_)
  rw [byteAt_cut (by rw [hz]; omega) (by omega), Nat.zero_add, seal_count hk hl]
  omega
theorem opC_drawn {k : Int} {xs : List Int} {t : ByteArray} (ht : t.size = 1) (hk : 1 ≤ k ∧ k ≤ 9) (hl : xs.length ≤ 16) : opC (sealS k xs ++ t) k = 3 := by
  have hz := sealS_size k xs
  refine opC_size hk (by rw [ByteArray.size_append]; omega) (fun h4 => ?_)
  rw [byteAt_left (by omega), seal_count hk hl, ByteArray.size_append]
  omega

end Go.Proofs.YtdfinapjgffjiaaGreatDoor
