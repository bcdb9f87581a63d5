import Derived.Test.YtefnapcegeojoabDoorRows
import Derived.Test.YtefnapcegeojoabDoorLJournalPart1
import Derived.Test.YtefnapcegeojoabDoorLJournalPart2
import Derived.Test.YtefnapcegeojoabDoorLJournalPart9
import Derived.Test.YtefnapcegeojoabDoorLJournalPart6
import Derived.WalkKit
import Derived.WalkSpells
import Derived.BigQuiet
import Derived.Deep.QuietTactic
import Derived.Deep.RegionWith
import Derived.Defers
import Derived.Recover
import Derived.Test.YtefnapcegeojoabDoorLJournalPart3
import Derived.Test.YtefnapcegeojoabDoorLJournalPart7
import Derived.Test.YtefnapcegeojoabDoorLJournalPart5
import Derived.KernelRfl
import Derived.Lib.SmallJoins

/- Contract of impl.readRecord. -/
namespace Go.Proofs.YtefnapcegeojoabDoor
open Go.RowKit
set_option linter.unusedVariables false
set_option maxRecDepth 100000

/-- The world when the head has been read: the result's variable, the head's. -/
structure HeadSt (w W : World) : Prop where
  blk : W.heap[w.heap.size]? = some (.cells #[.int .i64 0, .slice none 0 0] 162 (0, 0))
  size : w.heap.size + 2 ≤ W.heap.size
  below : Below w.heap.size w W
theorem HeadSt.mk' (w : World) (a b : Obj) (n : Nat) (ha : a = .cells #[.int .i64 0, .slice none 0 0] 162) : HeadSt w (((w.alloc a).alloc b).drewN n) := by
  subst ha
  have h : Below w.heap.size w ((w.alloc (.cells #[.int .i64 0, .slice none 0 0] 162)).alloc b) := Joins.below_alloc2 _ _ _
  refine ⟨?_, by simp, h.trans (Joins.below_draws _ _ _)⟩
  show ((w.alloc _).alloc b).heap[w.heap.size]? = _
  rw [(Joins.below_alloc1 _ b).block _ (by simp)]
  exact heap_alloc_new w _

theorem sum_rec (s : ByteArray) (n : Int) (w : World) (hs : s.size ≤ 65536) (h4 : 4 ≤ s.size) (hn : sumC (headT s ++ bodyT s) = n) : Calls Tryd.prog 132 #[.string (s.extract 0 2 ++ s.extract 4 s.size)] w fun e w' => e = .returned (.int .i64 n) ∧ w' = w := by
  subst hn
  exact sumOf_impl (headT s ++ bodyT s) w (by rw [ByteArray.size_append, bodyT_size, headT_size h4]; omega)

set_option maxHeartbeats 1600000 in
theorem readRecord_yes (s : ByteArray) (w : World) (hs : s.size ≤ 65536) (hr : RecP s) : Calls Tryd.prog 135 #[.string s] w fun e w' => ∃ v, e = .returned (.agg #[.int .i64 (byteAt s 0), v]) ∧ OwnN w' w.heap.size v (unL (bodyT s)) ∧ Below w.heap.size w w' := by
  obtain ⟨h4, hk, h3, hcnt, hsum, hok⟩ := hr
  have hc4 := copy4_at (w.alloc (.cells #[.int .i64 0, .slice none 0 0] 162)) (w.heap.size + 1) s (by simp) h4
  have h4i : (4 : Int) ≤ (s.size : Int) := by omega
  have b0 := byteAt_in s 0
  have b1 := byteAt_in s 1
  have b2 := byteAt_in s 2
  have HBZ := hide (bodyT_size s)
  have HHZ := hide (headT_size h4)
  have b3 : (byteAt s 3 == 0) = true := by simp [h3]
  have HSM : Hid (sumC (headT s ++ bodyT s) = byteAt s 2) := hide (by rw [hsum]; exact sumC_short (by rw [ByteArray.size_append, bodyT_size, headT_size h4]; omega))
  have HOK := hide hok
  have hlen : (((s.size - 4 : Nat) : Int) == byteAt s 1 * 4) = true := by rw [bodyT_size] at hcnt; simp [hcnt]
  clear h3 hcnt hsum hok
  go_enter Tryd.func135, Tryd.ntmps135
  go_wp2_with (first | (go_at_call 108; refine (demand_true _).mono ?_; rintro e w' ⟨rfl, hw⟩; replace hw := hw.symm; subst hw))
  go_quiet (fail)
  have HH := hide (HeadSt.mk' w (.cells #[.int .i64 0, .slice none 0 0] 162) (.cells #[.int .u8 (byteAt s 0), .int .u8 (byteAt s 1), .int .u8 (byteAt s 2), .int .u8 (byteAt s 3)] 159) nq rfl)
  revert HH
  generalize (((w.alloc (.cells #[.int .i64 0, .slice none 0 0] 162)).alloc (.cells #[.int .u8 (byteAt s 0), .int .u8 (byteAt s 1), .int .u8 (byteAt s 2), .int .u8 (byteAt s 3)] 159)).drewN nq) = W
  intro HH
  clear hc4
  go_wp2_with (first | (go_at_call 130; refine (kindOK_any _ _).mono ?_; rintro e w' ⟨rfl, hw⟩; replace hw := hw.symm; subst hw) | (go_at_call 108; refine (demand_true _).mono ?_; rintro e w' ⟨rfl, hw⟩; replace hw := hw.symm; subst hw) | (go_at_call 132; refine (sum_rec s _ _ hs h4 (unhide HSM)).mono ?_; rintro e w' ⟨rfl, hw⟩; replace hw := hw.symm; subst hw))
  refine (readNumbers_yes (bodyT s) _ (unhide HOK)).mono ?_
  rintro e w1 ⟨v, rfl, ⟨qo, qa, rfl, ho⟩, hb⟩
  have hblk : w1.heap[w.heap.size]? = some (.cells #[.int .i64 0, .slice none 0 0] 162 (0, 0)) := by
    rw [hb.block _ (by have := (unhide HH).size; omega)]; exact (unhide HH).blk
  have hc0 : w1.cell? ⟨w.heap.size, 0, none⟩ = some (.int .i64 0) := by rw [Joins.cell_of_block hblk]; rfl
  have hc1 : w1.cell? ⟨w.heap.size, 1, none⟩ = some (.slice none 0 0) := by rw [Joins.cell_of_block hblk]; rfl
  have hf0 := Joins.unfrozen_of_block hblk 0
  have hf1 := Joins.unfrozen_of_block hblk 1
  have HO := hide (ho.base (B' := w.heap.size + 1) (by have := (unhide HH).size; omega))
  have HB := hide (fr (unhide HH).below hb)
  clear ho hb hblk
  go_wp2
  exact bodyPost_ret (v := .agg #[.int .i64 (byteAt s 0), .slice qo (unL (bodyT s)).length qa]) (by simp [results, Tryd.results135, go_sem, hc0, hc1]) rfl
    ⟨.slice qo (unL (bodyT s)).length qa, rfl, ⟨qo, qa, rfl, (((unhide HO).setCell (a := ⟨w.heap.size, 0, none⟩) (Nat.lt_succ_self _) _).setCell (a := ⟨w.heap.size, 1, none⟩) (Nat.lt_succ_self _) _).base (Nat.le_succ _)⟩, ((unhide HB).setCell (p := ⟨w.heap.size, 0, none⟩) (Nat.le_refl _) _).setCell (p := ⟨w.heap.size, 1, none⟩) (Nat.le_refl _) _⟩

theorem readRecord_short (s : ByteArray) (w : World) (h4 : ¬ 4 ≤ s.size) (hE : ErrW w) : Calls Tryd.prog 135 #[.string s] w fun e w' => (∃ u pv, e = .panicked [{ v := .iface u pv, recovered := false }]) ∧ Below w.heap.size w w' := by
  have HE := hide (hE.below (Joins.below_alloc1 w (.cells #[.int .i64 0, .slice none 0 0] 162)))
  have h4i : ¬ (4 : Int) ≤ (s.size : Int) := by omega
  clear hE
  go_enter Tryd.func135, Tryd.ntmps135
  go_wp2_with (go_at_call 108; refine (demand_false _ (unhide HE)).mono ?_; rintro e w' ⟨⟨u, pv, rfl⟩, hw⟩; replace hw := hw.symm; subst hw)
  exact ⟨rfl, ⟨_, _, rfl⟩, Joins.below_alloc1 _ _⟩

set_option maxHeartbeats 1600000 in
theorem readRecord_kind (s : ByteArray) (w : World) (hs : s.size ≤ 65536) (h4 : 4 ≤ s.size) (hk : kindB (byteAt s 0) = false) (hE : ErrW w) : Calls Tryd.prog 135 #[.string s] w fun e w' => (∃ u pv, e = .panicked [{ v := .iface u pv, recovered := false }]) ∧ Below w.heap.size w w' := by
  have HE := hide hE
  clear hE
  have hc4 := copy4_at (w.alloc (.cells #[.int .i64 0, .slice none 0 0] 162)) (w.heap.size + 1) s (by simp) h4
  have h4i : (4 : Int) ≤ (s.size : Int) := by omega
  have b0 := byteAt_in s 0
  have b1 := byteAt_in s 1
  have b2 := byteAt_in s 2
  have HBZ := hide (bodyT_size s)
  have HHZ := hide (headT_size h4)
  go_enter Tryd.func135, Tryd.ntmps135
  go_wp2_with (first | (go_at_call 108; refine (demand_true _).mono ?_; rintro e w' ⟨rfl, hw⟩; replace hw := hw.symm; subst hw))
  go_quiet (fail)
  have HH := hide (HeadSt.mk' w (.cells #[.int .i64 0, .slice none 0 0] 162) (.cells #[.int .u8 (byteAt s 0), .int .u8 (byteAt s 1), .int .u8 (byteAt s 2), .int .u8 (byteAt s 3)] 159) nq rfl)
  revert HH
  generalize (((w.alloc (.cells #[.int .i64 0, .slice none 0 0] 162)).alloc (.cells #[.int .u8 (byteAt s 0), .int .u8 (byteAt s 1), .int .u8 (byteAt s 2), .int .u8 (byteAt s 3)] 159)).drewN nq) = W
  intro HH
  clear hc4
  go_wp2_with (first | (go_at_call 130; refine (kindOK_any _ _).mono ?_; rintro e w' ⟨rfl, hw⟩; replace hw := hw.symm; subst hw) | (go_at_call 108; refine (demand_false _ ((unhide HE).below (unhide HH).below)).mono ?_; rintro e w' ⟨⟨u, pv, rfl⟩, hw⟩; replace hw := hw.symm; subst hw))
  exact ⟨rfl, ⟨_, _, rfl⟩, (unhide HH).below⟩

set_option maxHeartbeats 1600000 in
theorem readRecord_last (s : ByteArray) (w : World) (hs : s.size ≤ 65536) (h4 : 4 ≤ s.size) (hk : kindB (byteAt s 0) = true) (h3 : byteAt s 3 ≠ 0) (hE : ErrW w) : Calls Tryd.prog 135 #[.string s] w fun e w' => (∃ u pv, e = .panicked [{ v := .iface u pv, recovered := false }]) ∧ Below w.heap.size w w' := by
  have HE := hide hE
  clear hE
  have hc4 := copy4_at (w.alloc (.cells #[.int .i64 0, .slice none 0 0] 162)) (w.heap.size + 1) s (by simp) h4
  have h4i : (4 : Int) ≤ (s.size : Int) := by omega
  have b0 := byteAt_in s 0
  have b1 := byteAt_in s 1
  have b2 := byteAt_in s 2
  have HBZ := hide (bodyT_size s)
  have HHZ := hide (headT_size h4)
  have b3 : (byteAt s 3 == 0) = false := by simp [h3]
  clear h3
  go_enter Tryd.func135, Tryd.ntmps135
  go_wp2_with (first | (go_at_call 108; refine (demand_true _).mono ?_; rintro e w' ⟨rfl, hw⟩; replace hw := hw.symm; subst hw))
  go_quiet (fail)
  have HH := hide (HeadSt.mk' w (.cells #[.int .i64 0, .slice none 0 0] 162) (.cells #[.int .u8 (byteAt s 0), .int .u8 (byteAt s 1), .int .u8 (byteAt s 2), .int .u8 (byteAt s 3)] 159) nq rfl)
  revert HH
  generalize (((w.alloc (.cells #[.int .i64 0, .slice none 0 0] 162)).alloc (.cells #[.int .u8 (byteAt s 0), .int .u8 (byteAt s 1), .int .u8 (byteAt s 2), .int .u8 (byteAt s 3)] 159)).drewN nq) = W
  intro HH
  clear hc4
  go_wp2_with (first | (go_at_call 130; refine (kindOK_any _ _).mono ?_; rintro e w' ⟨rfl, hw⟩; replace hw := hw.symm; subst hw) | (go_at_call 108; refine (demand_false _ ((unhide HE).below (unhide HH).below)).mono ?_; rintro e w' ⟨⟨u, pv, rfl⟩, hw⟩; replace hw := hw.symm; subst hw))
  exact ⟨rfl, ⟨_, _, rfl⟩, (unhide HH).below⟩

set_option maxHeartbeats 1600000 in
theorem readRecord_count (s : ByteArray) (w : World) (hs : s.size ≤ 65536) (h4 : 4 ≤ s.size) (hk : kindB (byteAt s 0) = true) (h3 : byteAt s 3 = 0) (hcnt : ((bodyT s).size : Int) ≠ byteAt s 1 * 4) (hE : ErrW w) : Calls Tryd.prog 135 #[.string s] w fun e w' => (∃ u pv, e = .panicked [{ v := .iface u pv, recovered := false }]) ∧ Below w.heap.size w w' := by
  have HE := hide hE
  clear hE
  have hc4 := copy4_at (w.alloc (.cells #[.int .i64 0, .slice none 0 0] 162)) (w.heap.size + 1) s (by simp) h4
  have h4i : (4 : Int) ≤ (s.size : Int) := by omega
  have b0 := byteAt_in s 0
  have b1 := byteAt_in s 1
  have b2 := byteAt_in s 2
  have HBZ := hide (bodyT_size s)
  have HHZ := hide (headT_size h4)
  have b3 : (byteAt s 3 == 0) = true := by simp [h3]
  have hlen : (((s.size - 4 : Nat) : Int) == byteAt s 1 * 4) = false := by rw [bodyT_size] at hcnt; simp [hcnt]
  clear h3 hcnt
  go_enter Tryd.func135, Tryd.ntmps135
  go_wp2_with (first | (go_at_call 108; refine (demand_true _).mono ?_; rintro e w' ⟨rfl, hw⟩; replace hw := hw.symm; subst hw))
  go_quiet (fail)
  have HH := hide (HeadSt.mk' w (.cells #[.int .i64 0, .slice none 0 0] 162) (.cells #[.int .u8 (byteAt s 0), .int .u8 (byteAt s 1), .int .u8 (byteAt s 2), .int .u8 (byteAt s 3)] 159) nq rfl)
  revert HH
  generalize (((w.alloc (.cells #[.int .i64 0, .slice none 0 0] 162)).alloc (.cells #[.int .u8 (byteAt s 0), .int .u8 (byteAt s 1), .int .u8 (byteAt s 2), .int .u8 (byteAt s 3)] 159)).drewN nq) = W
  intro HH
  clear hc4
  go_wp2_with (first | (go_at_call 130; refine (kindOK_any _ _).mono ?_; rintro e w' ⟨rfl, hw⟩; replace hw := hw.symm; subst hw) | (go_at_call 108; refine (demand_true _).mono ?_; rintro e w' ⟨rfl, hw⟩; replace hw := hw.symm; subst hw) | (go_at_call 108; refine (demand_false _ ((unhide HE).below (unhide HH).below)).mono ?_; rintro e w' ⟨⟨u, pv, rfl⟩, hw⟩; replace hw := hw.symm; subst hw))
  exact ⟨rfl, ⟨_, _, rfl⟩, (unhide HH).below⟩

set_option maxHeartbeats 1600000 in
theorem readRecord_sum (s : ByteArray) (w : World) (hs : s.size ≤ 65536) (h4 : 4 ≤ s.size) (hk : kindB (byteAt s 0) = true) (h3 : byteAt s 3 = 0) (hcnt : ((bodyT s).size : Int) = byteAt s 1 * 4) (hsum : byteAt s 2 ≠ sumS (headT s ++ bodyT s)) (hE : ErrW w) : Calls Tryd.prog 135 #[.string s] w fun e w' => (∃ u pv, e = .panicked [{ v := .iface u pv, recovered := false }]) ∧ Below w.heap.size w w' := by
  have HE := hide hE
  clear hE
  have hc4 := copy4_at (w.alloc (.cells #[.int .i64 0, .slice none 0 0] 162)) (w.heap.size + 1) s (by simp) h4
  have h4i : (4 : Int) ≤ (s.size : Int) := by omega
  have b0 := byteAt_in s 0
  have b1 := byteAt_in s 1
  have b2 := byteAt_in s 2
  have HBZ := hide (bodyT_size s)
  have HHZ := hide (headT_size h4)
  have b3 : (byteAt s 3 == 0) = true := by simp [h3]
  have hlen : (((s.size - 4 : Nat) : Int) == byteAt s 1 * 4) = true := by rw [bodyT_size] at hcnt; simp [hcnt]
  have HSM : Hid (sumC (headT s ++ bodyT s) = sumS (headT s ++ bodyT s)) := hide (sumC_short (by rw [ByteArray.size_append, bodyT_size, headT_size h4]; omega))
  have hsb : (byteAt s 2 == sumS (headT s ++ bodyT s)) = false := by simp [hsum]
  clear h3 hcnt hsum
  go_enter Tryd.func135, Tryd.ntmps135
  go_wp2_with (first | (go_at_call 108; refine (demand_true _).mono ?_; rintro e w' ⟨rfl, hw⟩; replace hw := hw.symm; subst hw))
  go_quiet (fail)
  have HH := hide (HeadSt.mk' w (.cells #[.int .i64 0, .slice none 0 0] 162) (.cells #[.int .u8 (byteAt s 0), .int .u8 (byteAt s 1), .int .u8 (byteAt s 2), .int .u8 (byteAt s 3)] 159) nq rfl)
  revert HH
  generalize (((w.alloc (.cells #[.int .i64 0, .slice none 0 0] 162)).alloc (.cells #[.int .u8 (byteAt s 0), .int .u8 (byteAt s 1), .int .u8 (byteAt s 2), .int .u8 (byteAt s 3)] 159)).drewN nq) = W
  intro HH
  clear hc4
  go_wp2_with (first | (go_at_call 130; refine (kindOK_any _ _).mono ?_; rintro e w' ⟨rfl, hw⟩; replace hw := hw.symm; subst hw) | (go_at_call 108; refine (demand_true _).mono ?_; rintro e w' ⟨rfl, hw⟩; replace hw := hw.symm; subst hw) | (go_at_call 132; refine (sum_rec s _ _ hs h4 (unhide HSM)).mono ?_; rintro e w' ⟨rfl, hw⟩; replace hw := hw.symm; subst hw) | (go_at_call 108; refine (demand_false _ ((unhide HE).below (unhide HH).below)).mono ?_; rintro e w' ⟨⟨u, pv, rfl⟩, hw⟩; replace hw := hw.symm; subst hw))
  exact ⟨rfl, ⟨_, _, rfl⟩, (unhide HH).below⟩

set_option maxHeartbeats 1600000 in
theorem readRecord_nums (s : ByteArray) (w : World) (hs : s.size ≤ 65536) (h4 : 4 ≤ s.size) (hk : kindB (byteAt s 0) = true) (h3 : byteAt s 3 = 0) (hcnt : ((bodyT s).size : Int) = byteAt s 1 * 4) (hsum : byteAt s 2 = sumS (headT s ++ bodyT s)) (hok : okU (bodyT s) = false) (hE : ErrW w) : Calls Tryd.prog 135 #[.string s] w fun e w' => (∃ u pv, e = .panicked [{ v := .iface u pv, recovered := false }]) ∧ Below w.heap.size w w' := by
  have HE := hide hE
  clear hE
  have hc4 := copy4_at (w.alloc (.cells #[.int .i64 0, .slice none 0 0] 162)) (w.heap.size + 1) s (by simp) h4
  have h4i : (4 : Int) ≤ (s.size : Int) := by omega
  have b0 := byteAt_in s 0
  have b1 := byteAt_in s 1
  have b2 := byteAt_in s 2
  have HBZ := hide (bodyT_size s)
  have HHZ := hide (headT_size h4)
  have b3 : (byteAt s 3 == 0) = true := by simp [h3]
  have hlen : (((s.size - 4 : Nat) : Int) == byteAt s 1 * 4) = true := by rw [bodyT_size] at hcnt; simp [hcnt]
  have HSM : Hid (sumC (headT s ++ bodyT s) = byteAt s 2) := hide (by rw [hsum]; exact sumC_short (by rw [ByteArray.size_append, bodyT_size, headT_size h4]; omega))
  have HOK := hide hok
  clear h3 hcnt hsum hok
  go_enter Tryd.func135, Tryd.ntmps135
  go_wp2_with (first | (go_at_call 108; refine (demand_true _).mono ?_; rintro e w' ⟨rfl, hw⟩; replace hw := hw.symm; subst hw))
  go_quiet (fail)
  have HH := hide (HeadSt.mk' w (.cells #[.int .i64 0, .slice none 0 0] 162) (.cells #[.int .u8 (byteAt s 0), .int .u8 (byteAt s 1), .int .u8 (byteAt s 2), .int .u8 (byteAt s 3)] 159) nq rfl)
  revert HH
  generalize (((w.alloc (.cells #[.int .i64 0, .slice none 0 0] 162)).alloc (.cells #[.int .u8 (byteAt s 0), .int .u8 (byteAt s 1), .int .u8 (byteAt s 2), .int .u8 (byteAt s 3)] 159)).drewN nq) = W
  intro HH
  clear hc4
  go_wp2_with (first | (go_at_call 130; refine (kindOK_any _ _).mono ?_; rintro e w' ⟨rfl, hw⟩; replace hw := hw.symm; subst hw) | (go_at_call 108; refine (demand_true _).mono ?_; rintro e w' ⟨rfl, hw⟩; replace hw := hw.symm; subst hw) | (go_at_call 132; refine (sum_rec s _ _ hs h4 (unhide HSM)).mono ?_; rintro e w' ⟨rfl, hw⟩; replace hw := hw.symm; subst hw))
  refine (readNumbers_no (bodyT s) _ (unhide HOK) ((unhide HE).below (unhide HH).below)).mono ?_
  rintro e w1 ⟨⟨u, pv, rfl⟩, hb⟩
  have HB := hide (fr (unhide HH).below hb)
  clear hb
  go_wp2
  exact ⟨rfl, ⟨u, pv, rfl⟩, unhide HB⟩

/-- readRecord panics at what is none. -/
theorem readRecord_no (s : ByteArray) (w : World) (hs : s.size ≤ 65536) (hr : ¬ RecP s) (hE : ErrW w) : Calls Tryd.prog 135 #[.string s] w fun e w' => (∃ u pv, e = .panicked [{ v := .iface u pv, recovered := false }]) ∧ Below w.heap.size w w' := by
  by_cases h4 : 4 ≤ s.size
  · cases hk : kindB (byteAt s 0) with
    | false => exact readRecord_kind s w hs h4 hk hE
    | true =>
      by_cases h3 : byteAt s 3 = 0
      · by_cases hcnt : ((bodyT s).size : Int) = byteAt s 1 * 4
        · by_cases hsum : byteAt s 2 = sumS (headT s ++ bodyT s)
          · cases hok : okU (bodyT s) with
            | false => exact readRecord_nums s w hs h4 hk h3 hcnt hsum hok hE
            | true => exact absurd ⟨h4, hk, h3, hcnt, hsum, hok⟩ hr
          · exact readRecord_sum s w hs h4 hk h3 hcnt hsum hE
        · exact readRecord_count s w hs h4 hk h3 hcnt hE
      · exact readRecord_last s w hs h4 hk h3 hE
  · exact readRecord_short s w h4 hE

end Go.Proofs.YtefnapcegeojoabDoor

/- Contract of impl.readKind. -/
namespace Go.Proofs.YtefnapcegeojoabDoor
open Go.RowKit
set_option linter.unusedVariables false
set_option maxRecDepth 100000

set_option maxHeartbeats 1600000 in
theorem readKind_yes (s : ByteArray) (k : Int) (w : World) (hs : s.size ≤ 65536) (hr : RecP s) (hk : byteAt s 0 = k) :
    Calls Tryd.prog 107 #[.string s, .int .i64 k] w fun e w' => ∃ v, e = .returned v ∧ OwnN w' w.heap.size v (unL (bodyT s)) ∧ Below w.heap.size w w' := by
  subst hk
  go_enter Tryd.func107, Tryd.ntmps107
  go_wp2_with fail
  refine (readRecord_yes s _ hs hr).mono ?_
  rintro e w1 ⟨v, rfl, ⟨qo, qa, rfl, ho⟩, hb⟩
  have HO := hide (ho.below (Joins.below_alloc1 _ (.cells #[.int .i64 (byteAt s 0), .slice qo (unL (bodyT s)).length qa] 162)))
  have HB := hide (fr hb (Joins.below_alloc1 _ (.cells #[.int .i64 (byteAt s 0), .slice qo (unL (bodyT s)).length qa] 162)))
  clear ho hb
  go_wp2_with (go_at_call 108; refine (demand_true _).mono ?_; rintro e w' ⟨rfl, hw⟩; replace hw := hw.symm; subst hw)
  go_ret
  exact ⟨.slice qo (unL (bodyT s)).length qa, rfl, ⟨qo, qa, rfl, unhide HO⟩, unhide HB⟩

set_option maxHeartbeats 1600000 in
theorem readKind_no (s : ByteArray) (k : Int) (w : World) (hs : s.size ≤ 65536) (hr : ¬ (RecP s ∧ byteAt s 0 = k)) (hE : ErrW w) :
    Calls Tryd.prog 107 #[.string s, .int .i64 k] w fun e w' => (∃ u pv, e = .panicked [{ v := .iface u pv, recovered := false }]) ∧ Below w.heap.size w w' := by
  by_cases hp : RecP s
  · have hkb : (byteAt s 0 == k) = false := by rw [beq_eq_false_iff_ne]; exact fun e => hr ⟨hp, e⟩
    have HE := hide hE
    clear hr hE
    go_enter Tryd.func107, Tryd.ntmps107
    go_wp2_with fail
    refine (readRecord_yes s _ hs hp).mono ?_
    rintro e w1 ⟨v, rfl, ⟨qo, qa, rfl, ho⟩, hb⟩
    have HB := hide (fr hb (Joins.below_alloc1 _ (.cells #[.int .i64 (byteAt s 0), .slice qo (unL (bodyT s)).length qa] 162)))
    clear ho hb
    go_wp2_with (go_at_call 108; refine (demand_false _ ((unhide HE).below (unhide HB))).mono ?_; rintro e w' ⟨⟨u, pv, rfl⟩, hw⟩; replace hw := hw.symm; subst hw)
    exact ⟨rfl, ⟨_, _, rfl⟩, unhide HB⟩
  · go_enter Tryd.func107, Tryd.ntmps107
    go_wp2_with fail
    refine (readRecord_no s _ hs hp hE).mono ?_
    rintro e w1 ⟨⟨u, pv, rfl⟩, hb⟩
    have HB := hide hb
    clear hb
    go_wp2
    exact ⟨rfl, ⟨_, _, rfl⟩, unhide HB⟩

end Go.Proofs.YtefnapcegeojoabDoor

/- Contracts of the program's generations, the plain ones: genOK, DeltaOK, numbers, EncodeDelta. -/
namespace Go.Proofs.YtefnapcegeojoabDoor
open Go.RowKit
set_option linter.unusedVariables false
set_option maxRecDepth 100000

theorem is3i (w : World) (n : Nat) (t : TypeId) (a b c : Int) (hn : w.heap.size = n) : Is (w.alloc (.cells #[.int .i64 a, .int .i64 b, .int .i64 c] t)) (some ⟨n, 0, none⟩) [a, b, c] := by
  subst hn
  intro i hi
  have hi' : i < 3 := hi
  refine ⟨w.heap.size, 0, rfl, ?_⟩
  rcases (show i = 0 ∨ i = 1 ∨ i = 2 by omega) with rfl | rfl | rfl <;> simp [go_sem]

theorem d3_ints {h g s : Int} (hd : dltB h g s = true) : intsB [h, g, s] = true := by
  obtain ⟨h1, h2, h3⟩ := dltB_iff.1 hd
  rw [intsB_len]
  · rfl
  · intro j hj
    have hj' : j < 3 := hj
    rcases (show j = 0 ∨ j = 1 ∨ j = 2 by omega) with rfl | rfl | rfl <;> simp [numB, inB] <;> omega
theorem d3_seal {h g s : Int} (hd : dltB h g s = true) : sealC 9 [h, g, s] = 0 ∧ sealT 9 [h, g, s] = encD h g s := by
  have hc : sealC 9 [h, g, s] = 0 := sealC_ok (listC_ok (by simp) (d3_ints hd)) rfl
  exact ⟨hc, sealT_ok hc⟩

end Go.Proofs.YtefnapcegeojoabDoor

/- Contracts of impl.readDelta, impl.readText at a generation, impl.DecodeDelta. -/
namespace Go.Proofs.YtefnapcegeojoabDoor
open Go.RowKit
set_option linter.unusedVariables false
set_option maxRecDepth 100000

theorem openB_iff {t : ByteArray} {k : Int} : openB t k = true ↔ RecP t ∧ byteAt t 0 = k := by
  simp only [openB, Bool.and_eq_true, decide_eq_true_eq, recB_iff]
theorem dec_open {t : ByteArray} (h : decB t = true) : (RecP t ∧ byteAt t 0 = 9) ∧ ∃ a b c, unL (bodyT t) = [a, b, c] ∧ dltB a b c = true ∧ decH t = a ∧ decG t = b ∧ decS t = c := by
  have h' := h
  simp only [decB, Bool.and_eq_true, decide_eq_true_eq] at h'
  obtain ⟨ho, hl, hd⟩ := h'
  obtain ⟨a, b, c, e⟩ := three hl
  rw [e] at hd
  refine ⟨openB_iff.1 ho, a, b, c, ?_, hd, dec_yes h e⟩
  rw [← e, decL, openL_yes ho]
theorem dec_shut {t : ByteArray} (h : decB t = false) (ho : RecP t ∧ byteAt t 0 = 9) (hl : (unL (bodyT t)).length = 3) : ∃ a b c, unL (bodyT t) = [a, b, c] ∧ dltB a b c = false := by
  have ho' := openB_iff.2 ho
  obtain ⟨a, b, c, e⟩ := three hl
  refine ⟨a, b, c, e, ?_⟩
  have e' : decL t = [a, b, c] := by rw [← e, decL, openL_yes ho']
  rw [← decB_at ho' e']; exact h

end Go.Proofs.YtefnapcegeojoabDoor

/- Contracts of impl.readUpdate, impl.readText at an update, impl.DecodeUpdate. -/
namespace Go.Proofs.YtefnapcegeojoabDoor
open Go.RowKit
set_option linter.unusedVariables false
set_option maxRecDepth 100000

theorem du_open {t : ByteArray} (h : 8 ≤ t.size) (ho : RecP (t.extract 0 8) ∧ byteAt (t.extract 0 8) 0 = 8) : ∃ a, unL (bodyT (t.extract 0 8)) = [a] ∧ duX t = ⟨a, t.extract 8 t.size⟩ ∧ duB t = upB ⟨a, t.extract 8 t.size⟩ := by
  have ho' : openB (duH t) 8 = true := openB_iff.2 ho
  have e := duL_eq h ho'
  refine ⟨(duX t).at_, ?_, duX_at e, ?_⟩
  · rw [← openL_yes ho']; exact e
  · rw [duB_at h ho', ← duX_at e]
theorem duB_opens {t : ByteArray} (h : duB t = true) : 8 ≤ t.size ∧ RecP (t.extract 0 8) ∧ byteAt (t.extract 0 8) 0 = 8 := by
  obtain ⟨h1, h2, h3⟩ := duB_parts h
  exact ⟨h1, openB_iff.1 h2⟩

set_option maxHeartbeats 1600000 in
theorem readUpdate_yes (t : ByteArray) (w : World) (hs : t.size ≤ 65536) (hd : duB t = true) :
    Calls Tryd.prog 117 #[.string t] w fun e w' => e = .returned (uV (duU t)) ∧ Below w.heap.size w w' := by
  obtain ⟨h8, hr, hk⟩ := duB_opens hd
  obtain ⟨a, hl, hx, hbu⟩ := du_open h8 ⟨hr, hk⟩
  have HU : Hid (duU t = ⟨a, t.extract 8 t.size⟩) := hide ((du_yes hd).trans hx)
  have HDD : Hid (upB ⟨a, t.extract 8 t.size⟩ = true) := hide (by rw [← hbu]; exact hd)
  have HZ : Hid ((t.extract 8 t.size).size ≤ maxLen) := hide (by rw [duT_size]; unfold maxLen; omega)
  have HL := hide hl
  have HR := hide hr
  have HK := hide hk
  have HS : Hid ((t.extract 0 8).size ≤ 65536) := hide (by rw [duH_size h8]; omega)
  have h8' : ((8 : Int) ≤ (t.size : Int)) := by omega
  clear hl hx hbu hr hk hd
  have HA := hide (Joins.below_alloc1 w (.cells #[.int .i64 0, .string ⟨#[]⟩] 49))
  have HV := hide (VarU.new w 49 up0)
  go_enter Tryd.func117, Tryd.ntmps117
  go_wp2_with (go_at_call 108; refine (demand_true _).mono ?_; rintro e w' ⟨rfl, hw⟩; replace hw := hw.symm; subst hw)
  refine (readKind_yes (t.extract 0 8) 8 _ (unhide HS) (unhide HR) (unhide HK)).mono ?_
  rintro e w1 ⟨v, rfl, ⟨qo, qa, rfl, ho⟩, hb⟩
  have HB := hide (fr (unhide HA) hb)
  have HB1 := hide hb
  have hI := ownRN ho
  rw [unhide HL] at hI ⊢
  obtain ⟨g, off, rfl, hi0⟩ := hI 0 (by simp)
  simp only [List.getElem_cons_zero, Nat.add_zero] at hi0
  have hg := World.block_lt_of_cell? _ _ hi0
  clear hI ho hb
  simp only [List.length_cons, List.length_nil, Nat.zero_add]
  go_wp2_with fail
  have HA2 := hide (Joins.below_alloc1 w1 (.cells #[.int .i64 a, .string (t.extract 8 t.size)] 49)).drew
  have HV2 := hide (((unhide HV).below (unhide HB1)).below (unhide HA2))
  have HV3 : Hid (VarU (w1.alloc (.cells #[.int .i64 a, .string (t.extract 8 t.size)] 49)).drew w1.heap.size 49 ⟨a, t.extract 8 t.size⟩) := hide ((VarU.new w1 49 ⟨a, t.extract 8 t.size⟩).below (Below.refl _ _).drew)
  have HB2 := hide (fr (unhide HB) (unhide HA2))
  go_region
  go_wp2_with fail
  refine (updateOK_any ⟨a, t.extract 8 t.size⟩ _ (unhide HZ)).mono ?_
  rintro e w2 ⟨rfl, hb2⟩
  rw [unhide HDD]
  have HB3 := hide (fr (unhide HB2) hb2)
  obtain ⟨hc0, hc1⟩ := ((unhide HV2).below hb2).cells
  obtain ⟨hf0, hf1⟩ := ((unhide HV2).below hb2).free
  obtain ⟨hx0, hx1⟩ := ((unhide HV3).below hb2).cells
  have HR3 := hide (fun u v => below2 (unhide HB3) (Nat.le_refl _) 0 1 u v)
  clear hb2 hi0
  go_wp2_with (go_at_call 108; refine (demand_true _).mono ?_; rintro e w' ⟨rfl, hw⟩; replace hw := hw.symm; subst hw)
  refine bodyPost_ret (v := uV ⟨a, t.extract 8 t.size⟩) (by simp [results, Tryd.results117, go_sem, hc0, hc1]) rfl ⟨?_, unhide HR3 _ _⟩
  rw [unhide HU]

set_option maxHeartbeats 1600000 in
theorem readUpdate_no (t : ByteArray) (w : World) (hs : t.size ≤ 65536) (hd : duB t = false) (hE : ErrW w) :
    Calls Tryd.prog 117 #[.string t] w fun e w' => (∃ u pv, e = .panicked [{ v := .iface u pv, recovered := false }]) ∧ Below w.heap.size w w' := by
  have HA := hide (Joins.below_alloc1 w (.cells #[.int .i64 0, .string ⟨#[]⟩] 49))
  have HE := hide (hE.below (unhide HA))
  clear hE
  by_cases h8 : (8 : Int) ≤ (t.size : Int)
  · have HS : Hid ((t.extract 0 8).size ≤ 65536) := hide (by rw [duH_size (by omega)]; omega)
    by_cases hr : RecP (t.extract 0 8) ∧ byteAt (t.extract 0 8) 0 = 8
    · obtain ⟨a, hl, hx, hbu⟩ := du_open (by omega) hr
      have HDD : Hid (upB ⟨a, t.extract 8 t.size⟩ = false) := hide (by rw [← hbu]; exact hd)
      have HZ : Hid ((t.extract 8 t.size).size ≤ maxLen) := hide (by rw [duT_size]; unfold maxLen; omega)
      have HL := hide hl
      have HR := hide hr
      clear hl hx hbu hr hd
      go_enter Tryd.func117, Tryd.ntmps117
      go_wp2_with (go_at_call 108; refine (demand_true _).mono ?_; rintro e w' ⟨rfl, hw⟩; replace hw := hw.symm; subst hw)
      refine (readKind_yes (t.extract 0 8) 8 _ (unhide HS) (unhide HR).1 (unhide HR).2).mono ?_
      rintro e w1 ⟨v, rfl, ⟨qo, qa, rfl, ho⟩, hb⟩
      have HB := hide (fr (unhide HA) hb)
      have HE1 := hide ((unhide HE).below hb)
      have hI := ownRN ho
      rw [unhide HL] at hI ⊢
      obtain ⟨g, off, rfl, hi0⟩ := hI 0 (by simp)
      simp only [List.getElem_cons_zero, Nat.add_zero] at hi0
      have hg := World.block_lt_of_cell? _ _ hi0
      clear hI ho hb
      simp only [List.length_cons, List.length_nil, Nat.zero_add]
      go_wp2_with fail
      have HA2 := hide (Joins.below_alloc1 w1 (.cells #[.int .i64 a, .string (t.extract 8 t.size)] 49)).drew
      have HB2 := hide (fr (unhide HB) (unhide HA2))
      go_region
      go_wp2_with fail
      refine (updateOK_any ⟨a, t.extract 8 t.size⟩ _ (unhide HZ)).mono ?_
      rintro e w2 ⟨rfl, hb2⟩
      rw [unhide HDD]
      have HB3 := hide (fr (unhide HB2) hb2)
      have HE2 := hide (((unhide HE1).below (unhide HA2)).below hb2)
      clear hb2 hi0
      go_wp2_with (go_at_call 108; refine (demand_false _ (unhide HE2)).mono ?_; rintro e w' ⟨⟨u, pv, rfl⟩, hw⟩; replace hw := hw.symm; subst hw)
      exact ⟨rfl, ⟨_, _, rfl⟩, unhide HB3⟩
    · have HR := hide hr
      clear hr hd
      go_enter Tryd.func117, Tryd.ntmps117
      go_wp2_with (go_at_call 108; refine (demand_true _).mono ?_; rintro e w' ⟨rfl, hw⟩; replace hw := hw.symm; subst hw)
      refine (readKind_no (t.extract 0 8) 8 _ (unhide HS) (unhide HR) (unhide HE)).mono ?_
      rintro e w1 ⟨⟨u, pv, rfl⟩, hb⟩
      have HB := hide (fr (unhide HA) hb)
      clear hb
      go_wp2
      exact ⟨rfl, ⟨_, _, rfl⟩, unhide HB⟩
  · clear hd
    go_enter Tryd.func117, Tryd.ntmps117
    go_wp2_with (go_at_call 108; refine (demand_false _ (unhide HE)).mono ?_; rintro e w' ⟨⟨u, pv, rfl⟩, hw⟩; replace hw := hw.symm; subst hw)
    exact ⟨rfl, ⟨_, _, rfl⟩, unhide HA⟩

theorem catchU_panicking (p : Addr) (x : Int) (u : TypeId) (pv : Value) (older : List PanicEntry) (w : World) (hc : w.cell? p = some (.int .i64 x)) (hz : w.frozen? p = false) :
    CallsD Tryd.prog 139 #[.pointer (some p)] (.panicking ({ v := .iface u pv, recovered := false } :: older)) w fun e u' w' =>
      e = .returned (.tuple #[]) ∧ u' = .panicking ({ v := .iface u pv, recovered := true } :: older) ∧ w' = w.setCell p (.int .i64 3) := by
  refine callsD_of_wpS Tryd.func139 rfl fun c₀ cs hu => ?_
  apply wpS_seq
  apply wpS_region
  simp [wpOpsS, go_sem, recoverD, hu, Tryd.ntmps139, Exit.thenS]
  refine wpS_cond (t := true) (by simp [Act.eval, Array.replicate]) ?_
  simp only [if_true]
  apply wpS_region
  simp [wpOpsS, go_sem, hc, hz, bodyPostS, results, Tryd.results139]

theorem catchU_idle (p : Addr) (w : World) :
    CallsD Tryd.prog 139 #[.pointer (some p)] .returning w fun e u' w' => e = .returned (.tuple #[]) ∧ u' = .returning ∧ w' = w := by
  refine callsD_of_wpS Tryd.func139 rfl fun c₀ cs hu => ?_
  apply wpS_seq
  apply wpS_region
  simp [wpOpsS, go_sem, recoverD, hu, Tryd.ntmps139, Exit.thenS]
  refine wpS_cond (t := false) (by simp [Act.eval, Array.replicate]) ?_
  simp only [Bool.false_eq_true, if_false]
  refine wpS_of_wp (wp_skip ?_)
  cases c₀
  simp_all [bodyPostS, results, Tryd.results139]

theorem two_newU {w w1 : World} (hb : Below ((w.alloc (.cells #[.int .i64 0, .string ⟨#[]⟩] 49)).alloc (.cells #[.int .i64 0] 3)).heap.size ((w.alloc (.cells #[.int .i64 0, .string ⟨#[]⟩] 49)).alloc (.cells #[.int .i64 0] 3)) w1) : VarU w1 w.heap.size 49 up0 ∧ w1.heap[w.heap.size + 1]? = some (.cells #[.int .i64 0] 3 (0, 0)) := by
  constructor
  · exact ((VarU.new w _ up0).below (Joins.below_alloc1 _ _)).below hb
  · rw [hb.block _ (by simp)]
    have := heap_alloc_new (w.alloc (.cells #[.int .i64 0, .string ⟨#[]⟩] 49)) (.cells #[.int .i64 0] 3)
    simp only [World.size_alloc] at this
    exact this

set_option maxHeartbeats 1600000 in
theorem readTextU_yes (s : ByteArray) (w : World) (hs : s.size ≤ 65536) (hd : duB s = true) :
    Calls Tryd.prog 116 #[.string s, .func (.func 117) #[] #[]] w fun e w' => e = .returned (.tuple #[uV (duU s), .int .i64 0]) ∧ Below w.heap.size w w' := by
  have hmf : ∀ (fn : Fn) (first cap : Array Value) (w : World), (Instr.makeFunc fn first cap).run Tryd.prog w = .ok (.func fn first cap) w := fun _ _ _ _ => rfl
  have HD := hide hd
  clear hd
  go_enter_defers Tryd.func116, Tryd.ntmps116
  go_wp2_with fail
  refine (readUpdate_yes s _ hs (unhide HD)).mono ?_
  rintro e w1 ⟨rfl, hb1⟩
  obtain ⟨hv, hblk⟩ := two_newU hb1
  obtain ⟨v0, v1⟩ := hv.cells
  obtain ⟨f0, f1⟩ := hv.free
  have hc0 := Joins.cell_of_block hblk 0
  have hf0 := Joins.unfrozen_of_block hblk 0
  simp only [List.size_toArray, List.length_cons, List.length_nil, Nat.zero_add, Nat.lt_add_one, getElem?_pos, List.getElem_toArray, List.getElem_cons_zero] at hc0
  have HB := hide (fr (Joins.below_alloc2 w _ _) hb1)
  clear hb1 hblk hv
  go_wp2
  refine leaves_cons (f := 139) (args := #[.pointer (some ⟨w.heap.size + 1, 0, none⟩)]) (by simp) (by simp [go_sem]) ?_
  refine (catchU_idle ⟨w.heap.size + 1, 0, none⟩ _).mono ?_
  rintro e u' w'' ⟨rfl, rfl, rfl⟩
  simp [Leaves, settle, results, Tryd.results116, go_sem, v0, v1, hc0]
  exact (below2 (unhide HB) (Nat.le_refl _) 0 1 _ _).setCell (p := ⟨w.heap.size + 1, 0, none⟩) (Nat.le_succ _) _

set_option maxHeartbeats 1600000 in
theorem readTextU_no (s : ByteArray) (w : World) (hs : s.size ≤ 65536) (hd : duB s = false) (hE : ErrW w) :
    Calls Tryd.prog 116 #[.string s, .func (.func 117) #[] #[]] w fun e w' => e = .returned (.tuple #[uV up0, .int .i64 3]) ∧ Below w.heap.size w w' := by
  have hmf : ∀ (fn : Fn) (first cap : Array Value) (w : World), (Instr.makeFunc fn first cap).run Tryd.prog w = .ok (.func fn first cap) w := fun _ _ _ _ => rfl
  have HD := hide hd
  have HE := hide (hE.below (Joins.below_alloc2 w (.cells #[.int .i64 0, .string ⟨#[]⟩] 49) (.cells #[.int .i64 0] 3)))
  clear hd hE
  go_enter_defers Tryd.func116, Tryd.ntmps116
  go_wp2_with fail
  refine (readUpdate_no s _ hs (unhide HD) (unhide HE)).mono ?_
  rintro e w1 ⟨⟨u, pv, rfl⟩, hb1⟩
  obtain ⟨hv, hblk⟩ := two_newU hb1
  obtain ⟨v0, v1⟩ := hv.cells
  have hc0 := Joins.cell_of_block hblk 0
  have hf0 := Joins.unfrozen_of_block hblk 0
  simp only [List.size_toArray, List.length_cons, List.length_nil, Nat.zero_add, Nat.lt_add_one, getElem?_pos, List.getElem_toArray, List.getElem_cons_zero] at hc0
  have HB := hide (fr (Joins.below_alloc2 w _ _) hb1)
  clear hb1 hblk hv
  go_wp2
  refine leaves_cons (f := 139) (args := #[.pointer (some ⟨w.heap.size + 1, 0, none⟩)]) (by simp) (by simp [go_sem]) ?_
  refine (catchU_panicking ⟨w.heap.size + 1, 0, none⟩ 0 u pv [] _ hc0 hf0).mono ?_
  rintro e u' w'' ⟨rfl, rfl, rfl⟩
  simp [Leaves, settle, results, Tryd.results116, go_sem, v0, v1, hc0, up0]
  exact (unhide HB).setCell (p := ⟨w.heap.size + 1, 0, none⟩) (Nat.le_succ _) _

theorem readTextU_long (s : ByteArray) (w : World) (hs : 65536 < s.size) (f : Value) :
    Calls Tryd.prog 116 #[.string s, f] w fun e w' => e = .returned (.tuple #[uV up0, .int .i64 2]) ∧ Below w.heap.size w w' := by
  go_enter_defers Tryd.func116, Tryd.ntmps116
  go_wp2
  simp [bodyPostD, Leaves, results, Tryd.results116, go_sem, up0]
  exact Joins.below_alloc2 _ _ _

set_option maxHeartbeats 1600000 in
theorem decodeUpdate_impl (t : ByteArray) (w : World) (hE : ErrW w) : Calls Tryd.prog 77 #[.string t] w fun e w' => e = .returned (.tuple #[uV (dkU t), .int .i64 (dkC t)]) ∧ Below w.heap.size w w' := by
  have hmf : ∀ (fn : Fn) (first cap : Array Value) (w : World), (Instr.makeFunc fn first cap).run Tryd.prog w = .ok (.func fn first cap) w := fun _ _ _ _ => rfl
  have HA := hide (Joins.below_alloc1 w (.cells #[.int .i64 0, .string ⟨#[]⟩] 49))
  have HE := hide (hE.below (unhide HA))
  have HV := hide (VarU.new w 49 up0)
  clear hE
  have key : ∀ (K1 : Up) (d : Int), (dkU t = K1 ∧ dkC t = d) → (∀ W, ErrW W → Calls Tryd.prog 116 #[.string t, .func (.func 117) #[] #[]] W fun e w' => e = .returned (.tuple #[uV K1, .int .i64 d]) ∧ Below W.heap.size W w') →
      Calls Tryd.prog 77 #[.string t] w fun e w' => e = .returned (.tuple #[uV (dkU t), .int .i64 (dkC t)]) ∧ Below w.heap.size w w' := by
    intro K1 d hq hc
    have HQ := hide hq
    have HC := hide hc
    clear hq hc
    go_enter Tryd.func77, Tryd.ntmps77
    go_wp2_with fail
    refine (unhide HC _ (unhide HE)).mono ?_
    rintro e w1 ⟨rfl, hb⟩
    have HV1 := hide ((unhide HV).below hb)
    obtain ⟨hc0, hc1⟩ := (unhide HV1).cells
    obtain ⟨hf0, hf1⟩ := (unhide HV1).free
    have HB := hide (fun u v => below2 (fr (unhide HA) hb) (Nat.le_refl _) 0 1 u v)
    clear hb
    go_wp2
    refine bodyPost_ret (v := .tuple #[uV K1, .int .i64 d]) (by simp [results, Tryd.results77, go_sem, hc0, hc1]) rfl ⟨?_, unhide HB _ _⟩
    exact ret_ui (unhide HQ).1.symm (unhide HQ).2.symm
  by_cases h1 : 65536 < t.size
  · exact key _ _ (dk_long h1) (fun W _ => readTextU_long t W h1 _)
  · by_cases hd : duB t = true
    · exact key _ _ (dk_yes h1 hd) (fun W _ => readTextU_yes t W (by omega) hd)
    · rw [Bool.not_eq_true] at hd
      exact key _ _ (dk_no h1 hd) (fun W hW => readTextU_no t W (by omega) hd hW)

end Go.Proofs.YtefnapcegeojoabDoor

/- Contracts of impl.readSlotHead, impl.readText at a slot's head. -/
namespace Go.Proofs.YtefnapcegeojoabDoor
open Go.RowKit
set_option linter.unusedVariables false
set_option maxRecDepth 100000

abbrev hV (a b : Int) : Value := .agg #[.int .i64 a, .int .i64 b]
def VarH (w : World) (x : Nat) (t : TypeId) (a b : Int) : Prop := w.heap[x]? = some (.cells #[.int .i64 a, .int .i64 b] t (0, 0))
theorem VarH.lt {w : World} {x t : Nat} {a b : Int} (k : VarH w x t a b) : x < w.heap.size := (Array.getElem?_eq_some_iff.1 k).1
theorem VarH.cells {w : World} {x t : Nat} {a b : Int} (k : VarH w x t a b) : w.cell? ⟨x, 0, none⟩ = some (.int .i64 a) ∧ w.cell? ⟨x, 1, none⟩ = some (.int .i64 b) := ⟨by rw [Joins.cell_of_block k]; rfl, by rw [Joins.cell_of_block k]; rfl⟩
theorem VarH.free {w : World} {x t : Nat} {a b : Int} (k : VarH w x t a b) : w.frozen? ⟨x, 0, none⟩ = false ∧ w.frozen? ⟨x, 1, none⟩ = false := ⟨Joins.unfrozen_of_block k 0, Joins.unfrozen_of_block k 1⟩
theorem VarH.below {w w' : World} {x t : Nat} {a b : Int} (k : VarH w x t a b) (hb : Below w.heap.size w w') : VarH w' x t a b := by
  unfold VarH; rw [hb.block x k.lt]; exact k
theorem VarH.new (w : World) (t : TypeId) (a b : Int) : VarH (w.alloc (.cells #[.int .i64 a, .int .i64 b] t)) w.heap.size t a b := heap_alloc_new w _
theorem sd_openP {t : ByteArray} (h : openB t 7 = true) : RecP t ∧ byteAt t 0 = 7 := openB_iff.1 h
theorem sd_listP {t : ByteArray} (h : openB t 7 = true) : unL (bodyT t) = sdL t := (openL_yes h).symm

set_option maxHeartbeats 1600000 in
theorem readSlotHead_yes (t : ByteArray) (w : World) (hs : t.size ≤ 65536) (hd : sdB t = true) :
    Calls Tryd.prog 76 #[.string t] w fun e w' => e = .returned (hV (sdN t : Int) (sdS t)) ∧ Below w.heap.size w w' := by
  have HA := hide (Joins.below_alloc1 w (.cells #[.int .i64 0, .int .i64 0] 111))
  have HV := hide (VarH.new w 111 0 0)
  by_cases h0 : t.size = 0
  · obtain rfl := bytes0 h0
    obtain ⟨_, e2, e3⟩ := sd_empty h0
    have HE := hide (And.intro e2 e3)
    obtain ⟨c0, c1⟩ := (unhide HV).cells
    obtain ⟨f0, f1⟩ := (unhide HV).free
    have HR := hide (fun u v => below2 (unhide HA) (Nat.le_refl _) 0 1 u v)
    clear e2 e3 h0 hd
    go_enter Tryd.func76, Tryd.ntmps76
    go_wp2
    refine bodyPost_ret (v := hV 0 0) (by simp [results, Tryd.results76, go_sem, c0, c1]) rfl ⟨?_, by first | exact unhide HA | exact unhide HR _ _⟩
    rw [(unhide HE).1, (unhide HE).2]; rfl
  have hTb := text_full h0
  by_cases ho : openB t 7 = false
  · rw [sd_shut h0 ho] at hd; cases hd
  rw [Bool.not_eq_false] at ho
  by_cases hl : (sdL t).length = 2
  case neg => rw [sd_len h0 hl] at hd; cases hd
  obtain ⟨a, b, hl2⟩ := two_ofJ hl
  by_cases ha : a ≤ 5
  case neg => rw [sd_many h0 hl2 ha] at hd; cases hd
  obtain ⟨_, e1, _, e2, _⟩ := sd_yes h0 ho hl2 ha
  rw [e1, e2]
  have HL : Hid (unL (bodyT t) = [a, b]) := hide ((sd_listP ho).trans hl2)
  have HR := hide (sd_openP ho)
  clear e1 e2 hl hl2 hd ho h0
  go_enter Tryd.func76, Tryd.ntmps76
  go_wp2_with fail
  refine (readKind_yes t 7 _ hs (unhide HR).1 (unhide HR).2).mono ?_
  rintro e w1 ⟨v, rfl, ⟨qo, qa, rfl, ho⟩, hb⟩
  have HB := hide (fr (unhide HA) hb)
  have HB1 := hide hb
  have hI := ownRN ho
  rw [unhide HL] at hI ⊢
  obtain ⟨g, off, rfl, hi0⟩ := hI 0 (by simp)
  obtain ⟨g', off', he, hi1⟩ := hI 1 (by simp)
  cases he
  simp only [List.getElem_cons_zero, List.getElem_cons_succ, Nat.add_zero] at hi0 hi1
  have hg := World.block_lt_of_cell? _ _ hi0
  clear hI ho hb
  simp only [List.length_cons, List.length_nil, Nat.zero_add, Nat.reduceAdd]
  go_wp2_with (go_at_call 108; refine (demand_true _).mono ?_; rintro e w' ⟨rfl, hw⟩; replace hw := hw.symm; subst hw)
  have HA2 := hide (Joins.below_alloc1 w1 (.cells #[.int .i64 a, .int .i64 b] 111)).drew
  have HV2 := hide (((unhide HV).below (unhide HB1)).below (unhide HA2))
  have HV3 : Hid (VarH (w1.alloc (.cells #[.int .i64 a, .int .i64 b] 111)).drew w1.heap.size 111 a b) := hide ((VarH.new w1 111 a b).below (Below.refl _ _).drew)
  have HB2 := hide (fr (unhide HB) (unhide HA2))
  go_region
  have hlt : w.heap.size < w1.heap.size := ((unhide HV).below (unhide HB1)).lt
  revert HV2 HV3 HB2
  generalize (w1.alloc (.cells #[.int .i64 a, .int .i64 b] 111)).drew = W
  intro HV2 HV3 HB2
  obtain ⟨hx0, hx1⟩ := (unhide HV3).cells
  obtain ⟨hc0, hc1⟩ := (unhide HV2).cells
  obtain ⟨hf0, hf1⟩ := (unhide HV2).free
  have HR3 := hide (fun u v => below2 (unhide HB2) (Nat.le_refl _) 0 1 u v)
  go_wp2_with (go_at_call 108; refine (demand_true _).mono ?_; rintro e w' ⟨rfl, hw⟩; replace hw := hw.symm; subst hw)
  exact bodyPost_ret (v := hV a b) (by simp [results, Tryd.results76, go_sem, hc0, hc1]) rfl ⟨rfl, unhide HR3 _ _⟩

set_option maxHeartbeats 1600000 in
theorem readSlotHead_no (t : ByteArray) (w : World) (hs : t.size ≤ 65536) (hd : sdB t = false) (hE : ErrW w) :
    Calls Tryd.prog 76 #[.string t] w fun e w' => (∃ u pv, e = .panicked [{ v := .iface u pv, recovered := false }]) ∧ Below w.heap.size w w' := by
  have HA := hide (Joins.below_alloc1 w (.cells #[.int .i64 0, .int .i64 0] 111))
  have HE := hide (hE.below (unhide HA))
  clear hE
  by_cases h0 : t.size = 0
  · rw [(sd_empty h0).1] at hd; cases hd
  have hTb := text_full h0
  by_cases ho : openB t 7 = false
  · have HN : Hid (¬ (RecP t ∧ byteAt t 0 = 7)) := hide (fun h => by rw [openB_iff.2 h] at ho; cases ho)
    clear ho hd h0
    go_enter Tryd.func76, Tryd.ntmps76
    go_wp2_with fail
    refine (readKind_no t 7 _ hs (unhide HN) (unhide HE)).mono ?_
    rintro e w1 ⟨⟨u, pv, rfl⟩, hb⟩
    have HB := hide (fr (unhide HA) hb)
    clear hb
    go_wp2
    exact ⟨rfl, ⟨_, _, rfl⟩, unhide HB⟩
  rw [Bool.not_eq_false] at ho
  have HR := hide (sd_openP ho)
  by_cases hl : (sdL t).length = 2
  case neg =>
    have hl2 : ((((unL (bodyT t)).length : Nat) : Int) == 2) = false := by rw [beq_eq_false_iff_ne, sd_listP ho]; omega
    clear hl hd ho h0
    go_enter Tryd.func76, Tryd.ntmps76
    go_wp2_with fail
    refine (readKind_yes t 7 _ hs (unhide HR).1 (unhide HR).2).mono ?_
    rintro e w1 ⟨v, rfl, ⟨qo, qa, rfl, ho⟩, hb⟩
    have HB := hide (fr (unhide HA) hb)
    have HE1 := hide ((unhide HE).below hb)
    clear ho hb
    go_wp2_with (go_at_call 108; refine (demand_false _ (unhide HE1)).mono ?_; rintro e w' ⟨⟨u, pv, rfl⟩, hw⟩; replace hw := hw.symm; subst hw)
    exact ⟨rfl, ⟨_, _, rfl⟩, unhide HB⟩
  obtain ⟨a, b, hl2⟩ := two_ofJ hl
  by_cases ha : a ≤ 5
  · rw [(sd_yes h0 ho hl2 ha).1] at hd; cases hd
  have HAB := hide (decide_eq_false ha)
  clear ha
  have HL : Hid (unL (bodyT t) = [a, b]) := hide ((sd_listP ho).trans hl2)
  clear hl hl2 hd ho h0
  go_enter Tryd.func76, Tryd.ntmps76
  go_wp2_with fail
  refine (readKind_yes t 7 _ hs (unhide HR).1 (unhide HR).2).mono ?_
  rintro e w1 ⟨v, rfl, ⟨qo, qa, rfl, ho⟩, hb⟩
  have HB := hide (fr (unhide HA) hb)
  have HE1 := hide ((unhide HE).below hb)
  have hI := ownRN ho
  rw [unhide HL] at hI ⊢
  obtain ⟨g, off, rfl, hi0⟩ := hI 0 (by simp)
  obtain ⟨g', off', he, hi1⟩ := hI 1 (by simp)
  cases he
  simp only [List.getElem_cons_zero, List.getElem_cons_succ, Nat.add_zero] at hi0 hi1
  have hg := World.block_lt_of_cell? _ _ hi0
  clear hI ho hb
  simp only [List.length_cons, List.length_nil, Nat.zero_add, Nat.reduceAdd]
  go_wp2_with (go_at_call 108; refine (demand_true _).mono ?_; rintro e w' ⟨rfl, hw⟩; replace hw := hw.symm; subst hw)
  have HA2 := hide (Joins.below_alloc1 w1 (.cells #[.int .i64 a, .int .i64 b] 111)).drew
  have HB2 := hide (fr (unhide HB) (unhide HA2))
  have HE2 := hide ((unhide HE1).below (unhide HA2))
  have HV3 : Hid (VarH (w1.alloc (.cells #[.int .i64 a, .int .i64 b] 111)).drew w1.heap.size 111 a b) := hide ((VarH.new w1 111 a b).below (Below.refl _ _).drew)
  go_region
  revert HV3 HB2 HE2
  generalize (w1.alloc (.cells #[.int .i64 a, .int .i64 b] 111)).drew = W
  intro HB2 HE2 HV3
  obtain ⟨hx0, hx1⟩ := (unhide HV3).cells
  go_wp2_with (go_at_call 108; rw [unhide HAB]; refine (demand_false _ (unhide HE2)).mono ?_; rintro e w' ⟨⟨u, pv, rfl⟩, hw⟩; replace hw := hw.symm; subst hw)
  exact ⟨rfl, ⟨_, _, rfl⟩, unhide HB2⟩

theorem catchH_panicking (p : Addr) (x : Int) (u : TypeId) (pv : Value) (older : List PanicEntry) (w : World) (hc : w.cell? p = some (.int .i64 x)) (hz : w.frozen? p = false) :
    CallsD Tryd.prog 115 #[.pointer (some p)] (.panicking ({ v := .iface u pv, recovered := false } :: older)) w fun e u' w' =>
      e = .returned (.tuple #[]) ∧ u' = .panicking ({ v := .iface u pv, recovered := true } :: older) ∧ w' = w.setCell p (.int .i64 3) := by
  refine callsD_of_wpS Tryd.func115 rfl fun c₀ cs hu => ?_
  apply wpS_seq
  apply wpS_region
  simp [wpOpsS, go_sem, recoverD, hu, Tryd.ntmps115, Exit.thenS]
  refine wpS_cond (t := true) (by simp [Act.eval, Array.replicate]) ?_
  simp only [if_true]
  apply wpS_region
  simp [wpOpsS, go_sem, hc, hz, bodyPostS, results, Tryd.results115]

theorem catchH_idle (p : Addr) (w : World) :
    CallsD Tryd.prog 115 #[.pointer (some p)] .returning w fun e u' w' => e = .returned (.tuple #[]) ∧ u' = .returning ∧ w' = w := by
  refine callsD_of_wpS Tryd.func115 rfl fun c₀ cs hu => ?_
  apply wpS_seq
  apply wpS_region
  simp [wpOpsS, go_sem, recoverD, hu, Tryd.ntmps115, Exit.thenS]
  refine wpS_cond (t := false) (by simp [Act.eval, Array.replicate]) ?_
  simp only [Bool.false_eq_true, if_false]
  refine wpS_of_wp (wp_skip ?_)
  cases c₀
  simp_all [bodyPostS, results, Tryd.results115]

theorem two_newH {w w1 : World} (hb : Below ((w.alloc (.cells #[.int .i64 0, .int .i64 0] 111)).alloc (.cells #[.int .i64 0] 3)).heap.size ((w.alloc (.cells #[.int .i64 0, .int .i64 0] 111)).alloc (.cells #[.int .i64 0] 3)) w1) : VarH w1 w.heap.size 111 0 0 ∧ w1.heap[w.heap.size + 1]? = some (.cells #[.int .i64 0] 3 (0, 0)) := by
  constructor
  · exact ((VarH.new w _ 0 0).below (Joins.below_alloc1 _ _)).below hb
  · rw [hb.block _ (by simp)]
    have := heap_alloc_new (w.alloc (.cells #[.int .i64 0, .int .i64 0] 111)) (.cells #[.int .i64 0] 3)
    simp only [World.size_alloc] at this
    exact this

set_option maxHeartbeats 1600000 in
theorem readTextH_yes (s : ByteArray) (w : World) (hs : s.size ≤ 65536) (hd : sdB s = true) :
    Calls Tryd.prog 74 #[.string s, .func (.func 76) #[] #[]] w fun e w' => e = .returned (.tuple #[hV (sdN s : Int) (sdS s), .int .i64 0]) ∧ Below w.heap.size w w' := by
  have hmf : ∀ (fn : Fn) (first cap : Array Value) (w : World), (Instr.makeFunc fn first cap).run Tryd.prog w = .ok (.func fn first cap) w := fun _ _ _ _ => rfl
  have HD := hide hd
  clear hd
  go_enter_defers Tryd.func74, Tryd.ntmps74
  go_wp2_with fail
  refine (readSlotHead_yes s _ hs (unhide HD)).mono ?_
  rintro e w1 ⟨rfl, hb1⟩
  obtain ⟨hv, hblk⟩ := two_newH hb1
  obtain ⟨v0, v1⟩ := hv.cells
  obtain ⟨f0, f1⟩ := hv.free
  have hc0 := Joins.cell_of_block hblk 0
  have hf0 := Joins.unfrozen_of_block hblk 0
  simp only [List.size_toArray, List.length_cons, List.length_nil, Nat.zero_add, Nat.lt_add_one, getElem?_pos, List.getElem_toArray, List.getElem_cons_zero] at hc0
  have HB := hide (fr (Joins.below_alloc2 w _ _) hb1)
  clear hb1 hblk hv
  go_wp2
  refine leaves_cons (f := 115) (args := #[.pointer (some ⟨w.heap.size + 1, 0, none⟩)]) (by simp) (by simp [go_sem]) ?_
  refine (catchH_idle ⟨w.heap.size + 1, 0, none⟩ _).mono ?_
  rintro e u' w'' ⟨rfl, rfl, rfl⟩
  simp [Leaves, settle, results, Tryd.results74, go_sem, v0, v1, hc0]
  exact (below2 (unhide HB) (Nat.le_refl _) 0 1 _ _).setCell (p := ⟨w.heap.size + 1, 0, none⟩) (Nat.le_succ _) _

set_option maxHeartbeats 1600000 in
theorem readTextH_no (s : ByteArray) (w : World) (hs : s.size ≤ 65536) (hd : sdB s = false) (hE : ErrW w) :
    Calls Tryd.prog 74 #[.string s, .func (.func 76) #[] #[]] w fun e w' => e = .returned (.tuple #[hV 0 0, .int .i64 3]) ∧ Below w.heap.size w w' := by
  have hmf : ∀ (fn : Fn) (first cap : Array Value) (w : World), (Instr.makeFunc fn first cap).run Tryd.prog w = .ok (.func fn first cap) w := fun _ _ _ _ => rfl
  have HD := hide hd
  have HE := hide (hE.below (Joins.below_alloc2 w (.cells #[.int .i64 0, .int .i64 0] 111) (.cells #[.int .i64 0] 3)))
  clear hd hE
  go_enter_defers Tryd.func74, Tryd.ntmps74
  go_wp2_with fail
  refine (readSlotHead_no s _ hs (unhide HD) (unhide HE)).mono ?_
  rintro e w1 ⟨⟨u, pv, rfl⟩, hb1⟩
  obtain ⟨hv, hblk⟩ := two_newH hb1
  obtain ⟨v0, v1⟩ := hv.cells
  have hc0 := Joins.cell_of_block hblk 0
  have hf0 := Joins.unfrozen_of_block hblk 0
  simp only [List.size_toArray, List.length_cons, List.length_nil, Nat.zero_add, Nat.lt_add_one, getElem?_pos, List.getElem_toArray, List.getElem_cons_zero] at hc0
  have HB := hide (fr (Joins.below_alloc2 w _ _) hb1)
  clear hb1 hblk hv
  go_wp2
  refine leaves_cons (f := 115) (args := #[.pointer (some ⟨w.heap.size + 1, 0, none⟩)]) (by simp) (by simp [go_sem]) ?_
  refine (catchH_panicking ⟨w.heap.size + 1, 0, none⟩ 0 u pv [] _ hc0 hf0).mono ?_
  rintro e u' w'' ⟨rfl, rfl, rfl⟩
  simp [Leaves, settle, results, Tryd.results74, go_sem, v0, v1, hc0]
  exact (unhide HB).setCell (p := ⟨w.heap.size + 1, 0, none⟩) (Nat.le_succ _) _

end Go.Proofs.YtefnapcegeojoabDoor
