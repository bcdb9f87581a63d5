import Derived.Test.YtbmkdbccdnbbjaaGreatDoorRows
import Derived.Test.YtbmkdbccdnbbjaaGreatDoorPart1
import Derived.Test.YtbmkdbccdnbbjaaGreatDoorPart2
import Derived.Test.YtbmkdbccdnbbjaaGreatDoorPart21
import Derived.Test.YtbmkdbccdnbbjaaGreatDoorPart18
import Derived.WalkKit
import Derived.WalkSpells
import Derived.BigQuiet
import Derived.Deep.QuietTactic
import Derived.Deep.RegionWith
import Derived.Defers
import Derived.Recover
import Derived.Test.YtbmkdbccdnbbjaaGreatDoorPart4
import Derived.Test.YtbmkdbccdnbbjaaGreatDoorPart12
import Derived.Shelf.SlicesE.Reverse
import Derived.Test.YtbmkdbccdnbbjaaGreatDoorPart16
import Derived.KernelRfl
import Derived.LoopN
import Derived.Laws.BytesArg
import Derived.Test.YtbmkdbccdnbbjaaGreatDoorPart11
import Derived.Test.YtbmkdbccdnbbjaaGreatDoorPart5
import Derived.Test.YtbmkdbccdnbbjaaGreatDoorPart17
import Derived.Deep.CutRange
import Derived.Laws.ResultCell
import Derived.Deep.MidRow

namespace Go.Proofs.YtbmkdbccdnbbjaaGreatDoor
open Go.RowKit
set_option linter.unusedVariables false
set_option maxRecDepth 100000

structure HeadSt (w W : World) : Prop where
  blk : W.heap[w.heap.size]? = some (.cells #[.int .i64 0, .slice none 0 0] 110 (0, 0))
  size : w.heap.size + 2 ≤ W.heap.size
  below : Below w.heap.size w W
theorem HeadSt.mk' (w : World) (a b : Obj) (n : Nat) (ha : a = .cells #[.int .i64 0, .slice none 0 0] 110) : HeadSt w (((w.alloc a).alloc b).drewN n) := by
  subst ha
  have h : Below w.heap.size w ((w.alloc (.cells #[.int .i64 0, .slice none 0 0] 110)).alloc b) := Joins.below_alloc2 _ _ _
  refine ⟨?_, by simp, h.trans (Joins.below_draws _ _ _)⟩
  show ((w.alloc _).alloc b).heap[w.heap.size]? = _
  rw [(Joins.below_alloc1 _ b).block _ (by simp)]
  exact heap_alloc_new w _

theorem sum_rec (s : ByteArray) (n : Int) (w : World) (hs : s.size ≤ 65536) (h4 : 4 ≤ s.size) (hn : sumC (headT s ++ bodyT s) = n) : Calls Tryz.prog 185 #[.string (s.extract 0 2 ++ s.extract 4 s.size)] w fun e w' => e = .returned (.int .i64 n) ∧ w' = w := by
  subst hn
  exact sumOf_impl (headT s ++ bodyT s) w (by rw [ByteArray.size_append, bodyT_size, headT_size h4]; omega)

set_option maxHeartbeats 1600000 in
theorem readRecord_yes (s : ByteArray) (w : World) (hs : s.size ≤ 65536) (hr : RecP s) : Calls Tryz.prog 156 #[.string s] w fun e w' => ∃ v, e = .returned (.agg #[.int .i64 (byteAt s 0), v]) ∧ OwnN w' w.heap.size v (unL (bodyT s)) ∧ Below w.heap.size w w' := by
  obtain ⟨h4, hk, h3, hcnt, hsum, hok⟩ := hr
  have hc4 := copy4_at (w.alloc (.cells #[.int .i64 0, .slice none 0 0] 110)) (w.heap.size + 1) s (by simp) h4
  have h4i : (4 : Int) ≤ (s.size : Int) := by omega
  have b0 := byteAt_in s 0
  have b1 := byteAt_in s 1
  have b2 := byteAt_in s 2
  have HBZ := hide (bodyT_size s)
  have HHZ := hide (headT_size h4)
  have b3 : (byteAt s 3 == 0) = true := by simp [h3]
  have HSM : Hid (sumC (headT s ++ bodyT s) = byteAt s 2) := hide (by rw [hsum]; exact sumC_short (by rw [ByteArray.size_append, bodyT_size, headT_size h4]; omega))
  have HOK := hide hok
  have hlen : (((s.size - 4 : Nat) : Int) == byteAt s 1 * 4) = true := by rw [bodyT_size] at hcnt; simp [hcnt]
  clear h3 hcnt hsum hok
  go_enter Tryz.func156, Tryz.ntmps156
  go_wp2_with (first | (go_at_call 101; refine (demand_true _).mono ?_; rintro e w' ⟨rfl, hw⟩; replace hw := hw.symm; subst hw))
  go_quiet (fail)
  have HH := hide (HeadSt.mk' w (.cells #[.int .i64 0, .slice none 0 0] 110) (.cells #[.int .u8 (byteAt s 0), .int .u8 (byteAt s 1), .int .u8 (byteAt s 2), .int .u8 (byteAt s 3)] 202) nq rfl)
  revert HH
  generalize (((w.alloc (.cells #[.int .i64 0, .slice none 0 0] 110)).alloc (.cells #[.int .u8 (byteAt s 0), .int .u8 (byteAt s 1), .int .u8 (byteAt s 2), .int .u8 (byteAt s 3)] 202)).drewN nq) = W
  intro HH
  clear hc4
  go_wp2_with (first | (go_at_call 183; refine (kindOK_any _ _).mono ?_; rintro e w' ⟨rfl, hw⟩; replace hw := hw.symm; subst hw) | (go_at_call 101; refine (demand_true _).mono ?_; rintro e w' ⟨rfl, hw⟩; replace hw := hw.symm; subst hw) | (go_at_call 185; refine (sum_rec s _ _ hs h4 (unhide HSM)).mono ?_; rintro e w' ⟨rfl, hw⟩; replace hw := hw.symm; subst hw))
  refine (readNumbers_yes (bodyT s) _ (unhide HOK)).mono ?_
  rintro e w1 ⟨v, rfl, ⟨qo, qa, rfl, ho⟩, hb⟩
  have hblk : w1.heap[w.heap.size]? = some (.cells #[.int .i64 0, .slice none 0 0] 110 (0, 0)) := by
    rw [hb.block _ (by have := (unhide HH).size; omega)]; exact (unhide HH).blk
  have hc0 : w1.cell? ⟨w.heap.size, 0, none⟩ = some (.int .i64 0) := by rw [Joins.cell_of_block hblk]; rfl
  have hc1 : w1.cell? ⟨w.heap.size, 1, none⟩ = some (.slice none 0 0) := by rw [Joins.cell_of_block hblk]; rfl
  have hf0 := Joins.unfrozen_of_block hblk 0
  have hf1 := Joins.unfrozen_of_block hblk 1
  have HO := hide (ho.base (B' := w.heap.size + 1) (by have := (unhide HH).size; omega))
  have HB := hide (fr (unhide HH).below hb)
  clear ho hb hblk
  go_wp2
  exact bodyPost_ret (v := .agg #[.int .i64 (byteAt s 0), .slice qo (unL (bodyT s)).length qa]) (by simp [results, Tryz.results156, go_sem, hc0, hc1]) rfl
    ⟨.slice qo (unL (bodyT s)).length qa, rfl, ⟨qo, qa, rfl, (((unhide HO).setCell (a := ⟨w.heap.size, 0, none⟩) (Nat.lt_succ_self _) _).setCell (a := ⟨w.heap.size, 1, none⟩) (Nat.lt_succ_self _) _).base (Nat.le_succ _)⟩, ((unhide HB).setCell (p := ⟨w.heap.size, 0, none⟩) (Nat.le_refl _) _).setCell (p := ⟨w.heap.size, 1, none⟩) (Nat.le_refl _) _⟩

theorem readRecord_short (s : ByteArray) (w : World) (h4 : ¬ 4 ≤ s.size) (hE : ErrW w) : Calls Tryz.prog 156 #[.string s] w fun e w' => (∃ u pv, e = .panicked [{ v := .iface u pv, recovered := false }]) ∧ Below w.heap.size w w' := by
  have HE := hide (hE.below (Joins.below_alloc1 w (.cells #[.int .i64 0, .slice none 0 0] 110)))
  have h4i : ¬ (4 : Int) ≤ (s.size : Int) := by omega
  clear hE
  go_enter Tryz.func156, Tryz.ntmps156
  go_wp2_with (go_at_call 101; refine (demand_false _ (unhide HE)).mono ?_; rintro e w' ⟨⟨u, pv, rfl⟩, hw⟩; replace hw := hw.symm; subst hw)
  exact ⟨rfl, ⟨_, _, rfl⟩, Joins.below_alloc1 _ _⟩

set_option maxHeartbeats 1600000 in
theorem readRecord_kind (s : ByteArray) (w : World) (hs : s.size ≤ 65536) (h4 : 4 ≤ s.size) (hk : kindB (byteAt s 0) = false) (hE : ErrW w) : Calls Tryz.prog 156 #[.string s] w fun e w' => (∃ u pv, e = .panicked [{ v := .iface u pv, recovered := false }]) ∧ Below w.heap.size w w' := by
  have HE := hide hE
  clear hE
  have hc4 := copy4_at (w.alloc (.cells #[.int .i64 0, .slice none 0 0] 110)) (w.heap.size + 1) s (by simp) h4
  have h4i : (4 : Int) ≤ (s.size : Int) := by omega
  have b0 := byteAt_in s 0
  have b1 := byteAt_in s 1
  have b2 := byteAt_in s 2
  have HBZ := hide (bodyT_size s)
  have HHZ := hide (headT_size h4)
  go_enter Tryz.func156, Tryz.ntmps156
  go_wp2_with (first | (go_at_call 101; refine (demand_true _).mono ?_; rintro e w' ⟨rfl, hw⟩; replace hw := hw.symm; subst hw))
  go_quiet (fail)
  have HH := hide (HeadSt.mk' w (.cells #[.int .i64 0, .slice none 0 0] 110) (.cells #[.int .u8 (byteAt s 0), .int .u8 (byteAt s 1), .int .u8 (byteAt s 2), .int .u8 (byteAt s 3)] 202) nq rfl)
  revert HH
  generalize (((w.alloc (.cells #[.int .i64 0, .slice none 0 0] 110)).alloc (.cells #[.int .u8 (byteAt s 0), .int .u8 (byteAt s 1), .int .u8 (byteAt s 2), .int .u8 (byteAt s 3)] 202)).drewN nq) = W
  intro HH
  clear hc4
  go_wp2_with (first | (go_at_call 183; refine (kindOK_any _ _).mono ?_; rintro e w' ⟨rfl, hw⟩; replace hw := hw.symm; subst hw) | (go_at_call 101; refine (demand_false _ ((unhide HE).below (unhide HH).below)).mono ?_; rintro e w' ⟨⟨u, pv, rfl⟩, hw⟩; replace hw := hw.symm; subst hw))
  exact ⟨rfl, ⟨_, _, rfl⟩, (unhide HH).below⟩

set_option maxHeartbeats 1600000 in
theorem readRecord_last (s : ByteArray) (w : World) (hs : s.size ≤ 65536) (h4 : 4 ≤ s.size) (hk : kindB (byteAt s 0) = true) (h3 : byteAt s 3 ≠ 0) (hE : ErrW w) : Calls Tryz.prog 156 #[.string s] w fun e w' => (∃ u pv, e = .panicked [{ v := .iface u pv, recovered := false }]) ∧ Below w.heap.size w w' := by
  have HE := hide hE
  clear hE
  have hc4 := copy4_at (w.alloc (.cells #[.int .i64 0, .slice none 0 0] 110)) (w.heap.size + 1) s (by simp) h4
  have h4i : (4 : Int) ≤ (s.size : Int) := by omega
  have b0 := byteAt_in s 0
  have b1 := byteAt_in s 1
  have b2 := byteAt_in s 2
  have HBZ := hide (bodyT_size s)
  have HHZ := hide (headT_size h4)
  have b3 : (byteAt s 3 == 0) = false := by simp [h3]
  clear h3
  go_enter Tryz.func156, Tryz.ntmps156
  go_wp2_with (first | (go_at_call 101; refine (demand_true _).mono ?_; rintro e w' ⟨rfl, hw⟩; replace hw := hw.symm; subst hw))
  go_quiet (fail)
  have HH := hide (HeadSt.mk' w (.cells #[.int .i64 0, .slice none 0 0] 110) (.cells #[.int .u8 (byteAt s 0), .int .u8 (byteAt s 1), .int .u8 (byteAt s 2), .int .u8 (byteAt s 3)] 202) nq rfl)
  revert HH
  generalize (((w.alloc (.cells #[.int .i64 0, .slice none 0 0] 110)).alloc (.cells #[.int .u8 (byteAt s 0), .int .u8 (byteAt s 1), .int .u8 (byteAt s 2), .int .u8 (byteAt s 3)] 202)).drewN nq) = W
  intro HH
  clear hc4
  go_wp2_with (first | (go_at_call 183; refine (kindOK_any _ _).mono ?_; rintro e w' ⟨rfl, hw⟩; replace hw := hw.symm; subst hw) | (go_at_call 101; refine (demand_false _ ((unhide HE).below (unhide HH).below)).mono ?_; rintro e w' ⟨⟨u, pv, rfl⟩, hw⟩; replace hw := hw.symm; subst hw))
  exact ⟨rfl, ⟨_, _, rfl⟩, (unhide HH).below⟩

set_option maxHeartbeats 1600000 in
theorem readRecord_count (s : ByteArray) (w : World) (hs : s.size ≤ 65536) (h4 : 4 ≤ s.size) (hk : kindB (byteAt s 0) = true) (h3 : byteAt s 3 = 0) (hcnt : ((bodyT s).size : Int) ≠ byteAt s 1 * 4) (hE : ErrW w) : Calls Tryz.prog 156 #[.string s] w fun e w' => (∃ u pv, e = .panicked [{ v := .iface u pv, recovered := false }]) ∧ Below w.heap.size w w' := by
  have HE := hide hE
  clear hE
  have hc4 := copy4_at (w.alloc (.cells #[.int .i64 0, .slice none 0 0] 110)) (w.heap.size + 1) s (by simp) h4
  have h4i : (4 : Int) ≤ (s.size : Int) := by omega
  have b0 := byteAt_in s 0
  have b1 := byteAt_in s 1
  have b2 := byteAt_in s 2
  have HBZ := hide (bodyT_size s)
  have HHZ := hide (headT_size h4)
  have b3 : (byteAt s 3 == 0) = true := by simp [h3]
  have hlen : (((s.size - 4 : Nat) : Int) == byteAt s 1 * 4) = false := by rw [bodyT_size] at hcnt; simp [hcnt]
  clear h3 hcnt
  go_enter Tryz.func156, Tryz.ntmps156
  go_wp2_with (first | (go_at_call 101; refine (demand_true _).mono ?_; rintro e w' ⟨rfl, hw⟩; replace hw := hw.symm; subst hw))
  go_quiet (fail)
  have HH := hide (HeadSt.mk' w (.cells #[.int .i64 0, .slice none 0 0] 110) (.cells #[.int .u8 (byteAt s 0), .int .u8 (byteAt s 1), .int .u8 (byteAt s 2), .int .u8 (byteAt s 3)] 202) nq rfl)
  revert HH
  generalize (((w.alloc (.cells #[.int .i64 0, .slice none 0 0] 110)).alloc (.cells #[.int .u8 (byteAt s 0), .int .u8 (byteAt s 1), .int .u8 (byteAt s 2), .int .u8 (byteAt s 3)] 202)).drewN nq) = W
  intro HH
  clear hc4
  go_wp2_with (first | (go_at_call 183; refine (kindOK_any _ _).mono ?_; rintro e w' ⟨rfl, hw⟩; replace hw := hw.symm; subst hw) | (go_at_call 101; refine (demand_true _).mono ?_; rintro e w' ⟨rfl, hw⟩; replace hw := hw.symm; subst hw) | (go_at_call 101; refine (demand_false _ ((unhide HE).below (unhide HH).below)).mono ?_; rintro e w' ⟨⟨u, pv, rfl⟩, hw⟩; replace hw := hw.symm; subst hw))
  exact ⟨rfl, ⟨_, _, rfl⟩, (unhide HH).below⟩

set_option maxHeartbeats 1600000 in
theorem readRecord_sum (s : ByteArray) (w : World) (hs : s.size ≤ 65536) (h4 : 4 ≤ s.size) (hk : kindB (byteAt s 0) = true) (h3 : byteAt s 3 = 0) (hcnt : ((bodyT s).size : Int) = byteAt s 1 * 4) (hsum : byteAt s 2 ≠ sumS (headT s ++ bodyT s)) (hE : ErrW w) : Calls Tryz.prog 156 #[.string s] w fun e w' => (∃ u pv, e = .panicked [{ v := .iface u pv, recovered := false }]) ∧ Below w.heap.size w w' := by
  have HE := hide hE
  clear hE
  have hc4 := copy4_at (w.alloc (.cells #[.int .i64 0, .slice none 0 0] 110)) (w.heap.size + 1) s (by simp) h4
  have h4i : (4 : Int) ≤ (s.size : Int) := by omega
  have b0 := byteAt_in s 0
  have b1 := byteAt_in s 1
  have b2 := byteAt_in s 2
  have HBZ := hide (bodyT_size s)
  have HHZ := hide (headT_size h4)
  have b3 : (byteAt s 3 == 0) = true := by simp [h3]
  have hlen : (((s.size - 4 : Nat) : Int) == byteAt s 1 * 4) = true := by rw [bodyT_size] at hcnt; simp [hcnt]
  have HSM : Hid (sumC (headT s ++ bodyT s) = sumS (headT s ++ bodyT s)) := hide (sumC_short (by rw [ByteArray.size_append, bodyT_size, headT_size h4]; omega))
  have hsb : (byteAt s 2 == sumS (headT s ++ bodyT s)) = false := by simp [hsum]
  clear h3 hcnt hsum
  go_enter Tryz.func156, Tryz.ntmps156
  go_wp2_with (first | (go_at_call 101; refine (demand_true _).mono ?_; rintro e w' ⟨rfl, hw⟩; replace hw := hw.symm; subst hw))
  go_quiet (fail)
  have HH := hide (HeadSt.mk' w (.cells #[.int .i64 0, .slice none 0 0] 110) (.cells #[.int .u8 (byteAt s 0), .int .u8 (byteAt s 1), .int .u8 (byteAt s 2), .int .u8 (byteAt s 3)] 202) nq rfl)
  revert HH
  generalize (((w.alloc (.cells #[.int .i64 0, .slice none 0 0] 110)).alloc (.cells #[.int .u8 (byteAt s 0), .int .u8 (byteAt s 1), .int .u8 (byteAt s 2), .int .u8 (byteAt s 3)] 202)).drewN nq) = W
  intro HH
  clear hc4
  go_wp2_with (first | (go_at_call 183; refine (kindOK_any _ _).mono ?_; rintro e w' ⟨rfl, hw⟩; replace hw := hw.symm; subst hw) | (go_at_call 101; refine (demand_true _).mono ?_; rintro e w' ⟨rfl, hw⟩; replace hw := hw.symm; subst hw) | (go_at_call 185; refine (sum_rec s _ _ hs h4 (unhide HSM)).mono ?_; rintro e w' ⟨rfl, hw⟩; replace hw := hw.symm; subst hw) | (go_at_call 101; refine (demand_false _ ((unhide HE).below (unhide HH).below)).mono ?_; rintro e w' ⟨⟨u, pv, rfl⟩, hw⟩; replace hw := hw.symm; subst hw))
  exact ⟨rfl, ⟨_, _, rfl⟩, (unhide HH).below⟩

set_option maxHeartbeats 1600000 in
theorem readRecord_nums (s : ByteArray) (w : World) (hs : s.size ≤ 65536) (h4 : 4 ≤ s.size) (hk : kindB (byteAt s 0) = true) (h3 : byteAt s 3 = 0) (hcnt : ((bodyT s).size : Int) = byteAt s 1 * 4) (hsum : byteAt s 2 = sumS (headT s ++ bodyT s)) (hok : okU (bodyT s) = false) (hE : ErrW w) : Calls Tryz.prog 156 #[.string s] w fun e w' => (∃ u pv, e = .panicked [{ v := .iface u pv, recovered := false }]) ∧ Below w.heap.size w w' := by
  have HE := hide hE
  clear hE
  have hc4 := copy4_at (w.alloc (.cells #[.int .i64 0, .slice none 0 0] 110)) (w.heap.size + 1) s (by simp) h4
  have h4i : (4 : Int) ≤ (s.size : Int) := by omega
  have b0 := byteAt_in s 0
  have b1 := byteAt_in s 1
  have b2 := byteAt_in s 2
  have HBZ := hide (bodyT_size s)
  have HHZ := hide (headT_size h4)
  have b3 : (byteAt s 3 == 0) = true := by simp [h3]
  have hlen : (((s.size - 4 : Nat) : Int) == byteAt s 1 * 4) = true := by rw [bodyT_size] at hcnt; simp [hcnt]
  have HSM : Hid (sumC (headT s ++ bodyT s) = byteAt s 2) := hide (by rw [hsum]; exact sumC_short (by rw [ByteArray.size_append, bodyT_size, headT_size h4]; omega))
  have HOK := hide hok
  clear h3 hcnt hsum hok
  go_enter Tryz.func156, Tryz.ntmps156
  go_wp2_with (first | (go_at_call 101; refine (demand_true _).mono ?_; rintro e w' ⟨rfl, hw⟩; replace hw := hw.symm; subst hw))
  go_quiet (fail)
  have HH := hide (HeadSt.mk' w (.cells #[.int .i64 0, .slice none 0 0] 110) (.cells #[.int .u8 (byteAt s 0), .int .u8 (byteAt s 1), .int .u8 (byteAt s 2), .int .u8 (byteAt s 3)] 202) nq rfl)
  revert HH
  generalize (((w.alloc (.cells #[.int .i64 0, .slice none 0 0] 110)).alloc (.cells #[.int .u8 (byteAt s 0), .int .u8 (byteAt s 1), .int .u8 (byteAt s 2), .int .u8 (byteAt s 3)] 202)).drewN nq) = W
  intro HH
  clear hc4
  go_wp2_with (first | (go_at_call 183; refine (kindOK_any _ _).mono ?_; rintro e w' ⟨rfl, hw⟩; replace hw := hw.symm; subst hw) | (go_at_call 101; refine (demand_true _).mono ?_; rintro e w' ⟨rfl, hw⟩; replace hw := hw.symm; subst hw) | (go_at_call 185; refine (sum_rec s _ _ hs h4 (unhide HSM)).mono ?_; rintro e w' ⟨rfl, hw⟩; replace hw := hw.symm; subst hw))
  refine (readNumbers_no (bodyT s) _ (unhide HOK) ((unhide HE).below (unhide HH).below)).mono ?_
  rintro e w1 ⟨⟨u, pv, rfl⟩, hb⟩
  have HB := hide (fr (unhide HH).below hb)
  clear hb
  go_wp2
  exact ⟨rfl, ⟨u, pv, rfl⟩, unhide HB⟩

theorem readRecord_no (s : ByteArray) (w : World) (hs : s.size ≤ 65536) (hr : ¬ RecP s) (hE : ErrW w) : Calls Tryz.prog 156 #[.string s] w fun e w' => (∃ u pv, e = .panicked [{ v := .iface u pv, recovered := false }]) ∧ Below w.heap.size w w' := by
  by_cases h4 : 4 ≤ s.size
  · cases hk : kindB (byteAt s 0) with
    | false => exact readRecord_kind s w hs h4 hk hE
    | true =>
      by_cases h3 : byteAt s 3 = 0
      · by_cases hcnt : ((bodyT s).size : Int) = byteAt s 1 * 4
        · by_cases hsum : byteAt s 2 = sumS (headT s ++ bodyT s)
          · cases hok : okU (bodyT s) with
            | false => exact readRecord_nums s w hs h4 hk h3 hcnt hsum hok hE
            | true => exact absurd ⟨h4, hk, h3, hcnt, hsum, hok⟩ hr
          · exact readRecord_sum s w hs h4 hk h3 hcnt hsum hE
        · exact readRecord_count s w hs h4 hk h3 hcnt hE
      · exact readRecord_last s w hs h4 hk h3 hE
  · exact readRecord_short s w h4 hE

end Go.Proofs.YtbmkdbccdnbbjaaGreatDoor

namespace Go.Proofs.YtbmkdbccdnbbjaaGreatDoor
open Go.RowKit
set_option linter.unusedVariables false
set_option maxRecDepth 100000

set_option maxHeartbeats 1600000 in
theorem readKind_yes (s : ByteArray) (k : Int) (w : World) (hs : s.size ≤ 65536) (hr : RecP s) (hk : byteAt s 0 = k) :
    Calls Tryz.prog 102 #[.string s, .int .i64 k] w fun e w' => ∃ v, e = .returned v ∧ OwnN w' w.heap.size v (unL (bodyT s)) ∧ Below w.heap.size w w' := by
  subst hk
  go_enter Tryz.func102, Tryz.ntmps102
  go_wp2_with fail
  refine (readRecord_yes s _ hs hr).mono ?_
  rintro e w1 ⟨v, rfl, ⟨qo, qa, rfl, ho⟩, hb⟩
  have HO := hide (ho.below (Joins.below_alloc1 _ (.cells #[.int .i64 (byteAt s 0), .slice qo (unL (bodyT s)).length qa] 110)))
  have HB := hide (fr hb (Joins.below_alloc1 _ (.cells #[.int .i64 (byteAt s 0), .slice qo (unL (bodyT s)).length qa] 110)))
  clear ho hb
  go_wp2_with (go_at_call 101; refine (demand_true _).mono ?_; rintro e w' ⟨rfl, hw⟩; replace hw := hw.symm; subst hw)
  go_ret
  exact ⟨.slice qo (unL (bodyT s)).length qa, rfl, ⟨qo, qa, rfl, unhide HO⟩, unhide HB⟩

set_option maxHeartbeats 1600000 in
theorem readKind_no (s : ByteArray) (k : Int) (w : World) (hs : s.size ≤ 65536) (hr : ¬ (RecP s ∧ byteAt s 0 = k)) (hE : ErrW w) :
    Calls Tryz.prog 102 #[.string s, .int .i64 k] w fun e w' => (∃ u pv, e = .panicked [{ v := .iface u pv, recovered := false }]) ∧ Below w.heap.size w w' := by
  by_cases hp : RecP s
  · have hkb : (byteAt s 0 == k) = false := by rw [beq_eq_false_iff_ne]; exact fun e => hr ⟨hp, e⟩
    have HE := hide hE
    clear hr hE
    go_enter Tryz.func102, Tryz.ntmps102
    go_wp2_with fail
    refine (readRecord_yes s _ hs hp).mono ?_
    rintro e w1 ⟨v, rfl, ⟨qo, qa, rfl, ho⟩, hb⟩
    have HB := hide (fr hb (Joins.below_alloc1 _ (.cells #[.int .i64 (byteAt s 0), .slice qo (unL (bodyT s)).length qa] 110)))
    clear ho hb
    go_wp2_with (go_at_call 101; refine (demand_false _ ((unhide HE).below (unhide HB))).mono ?_; rintro e w' ⟨⟨u, pv, rfl⟩, hw⟩; replace hw := hw.symm; subst hw)
    exact ⟨rfl, ⟨_, _, rfl⟩, unhide HB⟩
  · go_enter Tryz.func102, Tryz.ntmps102
    go_wp2_with fail
    refine (readRecord_no s _ hs hp hE).mono ?_
    rintro e w1 ⟨⟨u, pv, rfl⟩, hb⟩
    have HB := hide hb
    clear hb
    go_wp2
    exact ⟨rfl, ⟨_, _, rfl⟩, unhide HB⟩

end Go.Proofs.YtbmkdbccdnbbjaaGreatDoor

namespace Go.Proofs.YtbmkdbccdnbbjaaGreatDoor
open Go.RowKit
set_option linter.unusedVariables false
set_option maxRecDepth 100000

theorem open_yes3 {s : ByteArray} (h : openB s 3 = true) : RecP s ∧ byteAt s 0 = 3 := by
  simp only [openB, Bool.and_eq_true, decide_eq_true_eq] at h
  exact ⟨recB_iff.1 h.1, h.2⟩
theorem open_no3 {s : ByteArray} (h : openB s 3 = false) : ¬ (RecP s ∧ byteAt s 0 = 3) := by
  rintro ⟨a, b⟩
  rw [openB_yes a b] at h
  cases h
theorem openL_short (s : ByteArray) (hs : s.size ≤ 65536) : (openL s 3).length ≤ maxLen := by
  have h1 := unL_length (bodyT s)
  have h2 := bodyT_size s
  unfold openL maxLen
  split
  · rw [h1]; omega
  · simp

set_option maxHeartbeats 1600000 in
theorem readTable_yes (s : ByteArray) (w : World) (hs : s.size ≤ 65536) (hok : tdB s = true) :
    Calls Tryz.prog 99 #[.string s] w fun e w' => ∃ v, e = .returned v ∧ OwnN w' w.heap.size v (openL s 3) ∧ Below w.heap.size w w' := by
  obtain ⟨ho, ht⟩ := tdB_parts hok
  have HYE := hide (open_yes3 ho)
  have HLE := hide (openL_yes ho)
  have HSH := hide (openL_short s hs)
  clear ho hok
  go_enter Tryz.func99, Tryz.ntmps99
  go_wp2_with fail
  refine (readKind_yes s 3 _ hs (unhide HYE).1 (unhide HYE).2).mono ?_
  rintro e w1 ⟨v, rfl, ⟨qo, qa, rfl, ho⟩, hb⟩
  rw [← unhide HLE] at ho ⊢
  have HO := hide ho
  have HB := hide hb
  clear ho hb HLE HYE
  generalize hN : openL s 3 = ns at *
  have HN := hide hN
  clear hN
  go_wp2_with (first | (go_at_call 155; refine (tableOK_impl _ _ ns _ (unhide HSH) (ownRN (unhide HO))).mono ?_; rintro e w' ⟨rfl, hw⟩; replace hw := hw.symm; subst hw; rw [ht]) | (go_at_call 101; refine (demand_true _).mono ?_; rintro e w' ⟨rfl, hw⟩; replace hw := hw.symm; subst hw))
  go_ret
  exact ⟨.slice qo ns.length qa, rfl, by rw [unhide HN]; exact ⟨qo, qa, rfl, unhide HO⟩, unhide HB⟩

set_option maxHeartbeats 1600000 in
theorem readTable_no (s : ByteArray) (w : World) (hs : s.size ≤ 65536) (hok : tdB s = false) (hE : ErrW w) :
    Calls Tryz.prog 99 #[.string s] w fun e w' => (∃ u pv, e = .panicked [{ v := .iface u pv, recovered := false }]) ∧ Below w.heap.size w w' := by
  have HE := hide hE
  clear hE
  cases ho : openB s 3
  · have HNO := hide (open_no3 ho)
    go_enter Tryz.func99, Tryz.ntmps99
    go_wp2_with fail
    refine (readKind_no s 3 _ hs (unhide HNO) (unhide HE)).mono ?_
    rintro e w1 ⟨⟨u, pv, rfl⟩, hb⟩
    have HB := hide hb
    clear hb
    go_wp2
    exact ⟨rfl, ⟨_, _, rfl⟩, unhide HB⟩
  · have ht : tbB (openL s 3) = false := by rw [tdB, ho] at hok; simpa using hok
    have HYE := hide (open_yes3 ho)
    have HLE := hide (openL_yes ho)
    have HSH := hide (openL_short s hs)
    clear ho hok
    go_enter Tryz.func99, Tryz.ntmps99
    go_wp2_with fail
    refine (readKind_yes s 3 _ hs (unhide HYE).1 (unhide HYE).2).mono ?_
    rintro e w1 ⟨v, rfl, ⟨qo, qa, rfl, ho⟩, hb⟩
    rw [← unhide HLE] at ho ⊢
    have HO := hide ho
    have HB := hide hb
    clear ho hb HLE HYE
    generalize openL s 3 = ns at *
    go_wp2_with (first | (go_at_call 155; refine (tableOK_impl _ _ ns _ (unhide HSH) (ownRN (unhide HO))).mono ?_; rintro e w' ⟨rfl, hw⟩; replace hw := hw.symm; subst hw; rw [ht]) | (go_at_call 101; refine (demand_false _ ((unhide HE).below (unhide HB))).mono ?_; rintro e w' ⟨⟨u, pv, rfl⟩, hw⟩; replace hw := hw.symm; subst hw))
    exact ⟨rfl, ⟨_, _, rfl⟩, unhide HB⟩

end Go.Proofs.YtbmkdbccdnbbjaaGreatDoor

namespace Go.Proofs.YtbmkdbccdnbbjaaGreatDoor
open Go.RowKit Go.Shelf
set_option maxRecDepth 100000

def lay_revB_ren : Go.Shelf.Ren := ⟨fun | 35 => 157 | n => n, fun | 22 => 22 | 23 => 5 | 3 => 3 | 4 => 4 | 0 => 0 | n => n, fun | n => n⟩

theorem lay_revB : Go.Proofs.SlLaysE.n35 Tryz.prog lay_revB_ren := {
  mixed := by kernel_rfl
  f35 := ⟨Tryz.f157.name, by decide, Tryz.func157.trans (congrArg some (by kernel_rfl))⟩
  t0 := Tryz.underlying0
  a0 := Tryz.isAgg0
  z0 := Tryz.sizeOf0
  v0 := Tryz.zeroValue0
  t3 := Tryz.underlying3
  a3 := Tryz.isAgg3
  z3 := Tryz.sizeOf3
  v3 := Tryz.zeroValue3
  t4 := Tryz.underlying4
  a4 := Tryz.isAgg4
  z4 := Tryz.sizeOf4
  v4 := Tryz.zeroValue4
  t22 := Tryz.underlying22
  a22 := Tryz.isAgg22
  z22 := Tryz.sizeOf22
  v22 := Tryz.zeroValue22
  a23 := Tryz.isAgg5
  z23 := Tryz.sizeOf5 }

end Go.Proofs.YtbmkdbccdnbbjaaGreatDoor

namespace Go.Proofs.YtbmkdbccdnbbjaaGreatDoor
open Go.RowKit Go.Sort
set_option linter.unusedVariables false
set_option maxRecDepth 100000

def li1 (n : Nat) : UInt8 := UInt8.ofNat (96 + n % 27)
def liL : Nat → Nat → List UInt8
  | 0, _ => []
  | f + 1, n => if n = 0 then [] else liL f (n / 27) ++ [li1 n]
def unI (n : Nat) : ByteArray := ⟨(liL 8 n).toArray⟩
theorem liL_zero (f : Nat) : liL f 0 = [] := by cases f <;> simp [liL]
theorem li1_toNat (n : Nat) : (li1 n).toNat = 96 + n % 27 := by
  unfold li1
  rw [UInt8.toNat_ofNat']
  omega
theorem lt1_toNat (n : Nat) : (lt1 n).toNat = 97 + (n + 26) % 27 := by
  unfold lt1
  rw [UInt8.toNat_ofNat']
  omega
theorem li_lt {n : Nat} (h : n % 27 ≠ 0) : li1 n = lt1 n := by
  apply UInt8.toNat_inj.1
  rw [li1_toNat, lt1_toNat]
  omega
theorem li_ok : ∀ (f n : Nat), (liL f n).all nm1 = true → liL f n = ltL f n
  | 0, n, _ => rfl
  | f + 1, n, h => by
    rw [liL, ltL] at *
    by_cases hn : n = 0
    · rw [if_pos hn, if_pos hn]
    · rw [if_neg hn] at h ⊢
      rw [if_neg hn]
      rw [List.all_append, Bool.and_eq_true] at h
      have h2 : nm1 (li1 n) = true := by simpa using h.2
      simp only [nm1, Bool.and_eq_true, decide_eq_true_eq, li1_toNat] at h2
      rw [li_ok f (n / 27) h.1, li_lt (by omega)]
theorem lt_ok : ∀ (f n : Nat), (ltL f n).all nm1 = true → liL f n = ltL f n
  | 0, n, _ => rfl
  | f + 1, n, h => by
    rw [ltL] at h
    rw [liL, ltL]
    by_cases hn : n = 0
    · rw [if_pos hn, if_pos hn]
    · rw [if_neg hn] at h ⊢
      rw [if_neg hn]
      rw [List.all_append, Bool.and_eq_true] at h
      have h2 : nm1 (lt1 n) = true := by simpa using h.2
      simp only [nm1, Bool.and_eq_true, decide_eq_true_eq, lt1_toNat] at h2
      rw [lt_ok f (n / 27) h.1, li_lt (by omega)]
theorem fold_lt : ∀ (f n : Nat), n < 27 ^ f → (ltL f n).all nm1 = true → (ltL f n).foldl ch1 0 = (n : Int)
  | 0, n, h, _ => by
    have : n = 0 := by simpa using h
    subst this; rfl
  | f + 1, n, h, ha => by
    rw [ltL] at ha ⊢
    by_cases hn : n = 0
    · subst hn; simp
    · rw [if_neg hn] at ha ⊢
      rw [List.all_append, Bool.and_eq_true] at ha
      have h2 : nm1 (lt1 n) = true := by simpa using ha.2
      rw [List.foldl_append, fold_lt f (n / 27) (by rw [Nat.pow_succ] at h; omega) ha.1]
      simp only [List.foldl_cons, List.foldl_nil]
      rw [ch1_in h2, lt1_toNat]
      simp only [nm1, Bool.and_eq_true, decide_eq_true_eq, lt1_toNat] at h2
      omega
theorem unI_yes {n : Nat} (hn : n ≤ 2147483647) (h : snmB (unI n) = true) : unI n = unT (n : Int) ∧ nmN (unT (n : Int)) = (n : Int) := by
  have ha := (snm_parts h).1
  have hl : (unI n).data.toList = liL 8 n := by simp [unI]
  rw [hl] at ha
  have e := li_ok 8 n ha
  have e2 : unI n = unT (n : Int) := by rw [unI, unT, Int.toNat_natCast, e]
  refine ⟨e2, ?_⟩
  have hl2 : (unT (n : Int)).data.toList = ltL 8 n := by simp [unT]
  rw [nmN, hl2]
  exact fold_lt 8 n (by omega) (e ▸ ha)
theorem unT_yes {n : Nat} (h : snmB (unT (n : Int)) = true) : snmB (unI n) = true := by
  have ha := (snm_parts h).1
  have hl : (unT (n : Int)).data.toList = ltL 8 n := by simp [unT]
  rw [hl] at ha
  have e := lt_ok 8 n ha
  have e2 : unI n = unT (n : Int) := by rw [unI, unT, Int.toNat_natCast, e]
  rw [e2]; exact h

structure LiJ (N m : Nat) (acc : List UInt8) : Prop where
  h : ∃ f, f + acc.length ≤ 8 ∧ m < 27 ^ f ∧ liL 8 N = liL f m ++ acc.reverse
theorem LiJ.start {N : Nat} (h : N ≤ 2147483647) : LiJ N N [] := ⟨8, by decide, by omega, by simp⟩
theorem LiJ.small {N m : Nat} {s : List UInt8} (J : LiJ N m s) : m < 282429536481 ∧ s.length ≤ 8 := by
  obtain ⟨f, h1, h2, _⟩ := J.h
  exact ⟨Nat.lt_of_lt_of_le h2 (Nat.le_trans (Nat.pow_le_pow_right (by decide) (show f ≤ 8 by omega)) (by decide)), by omega⟩
theorem LiJ.step {N m : Nat} {s : List UInt8} (J : LiJ N m s) (hm : 0 < m) : LiJ N (m / 27) (s ++ [li1 m]) := by
  obtain ⟨f, h1, h2, h3⟩ := J.h
  cases f with
  | zero => simp at h2; omega
  | succ f =>
    refine ⟨f, by simp; omega, by rw [Nat.pow_succ] at h2; omega, ?_⟩
    rw [h3, liL, if_neg (by omega)]
    simp
theorem LiJ.stop {N : Nat} {s : List UInt8} (J : LiJ N 0 s) : s.reverse = liL 8 N := by
  obtain ⟨f, h1, h2, h3⟩ := J.h
  rw [liL_zero, List.nil_append] at h3
  exact h3.symm
def bI (l : List UInt8) : List Int := l.map (fun b => (b.toNat : Int))
theorem bI_str (l : List UInt8) : strOfNums (bI l) = ⟨l.toArray⟩ := by
  unfold strOfNums bI
  have : ∀ l : List UInt8, (l.map (fun b => (b.toNat : Int))).map (fun n => UInt8.ofNat n.toNat) = l := by
    intro l
    induction l with
    | nil => rfl
    | cons b l ih => rw [List.map_cons, List.map_cons, ih, Int.toNat_natCast, UInt8.ofNat_toNat]
  rw [this]
theorem infoB8 : (Tryz.prog.info? 5).map (fun i => (i.zero, i.size, i.bytes)) = some (some (.int .u8 0), 1, 1) := by kernel_rfl

theorem reverse_own (B n qa : Nat) (qo : Option Addr) (ns : List Int) (w0 w : World) (hB : w0.heap.size ≤ B) (hb : Below w0.heap.size w0 w) (h : OwnR w B 5 1 (.slice qo n qa) n (byteV ns)) (hn : n ≤ 1000) :
    Calls Tryz.prog 157 #[.slice qo n qa] w fun e w' => e = .returned (.tuple #[]) ∧ (convert 22 9 (.slice qo n qa)).run Tryz.prog w' = .ok (.string (strOfNums ns.reverse)) w' ∧ Below w0.heap.size w0 w' := by
  rcases h with ⟨rfl, hx, ao, hv⟩ | ⟨h0, h⟩
  · simp only [Value.slice.injEq, true_and] at hv
    obtain ⟨rfl, rfl⟩ := hv
    have hns : ns = [] := by simpa [byteV] using hx
    subst hns
    refine (AnyE.slices_Reverse_empty lay_revB qo 0 w).mono ?_
    rintro e w' ⟨rfl, rfl⟩
    exact ⟨rfl, convert_own Tryz.underlying22 Tryz.underlying5 Tryz.underlying9 (B := B) (t := 5) (ns := []) (.inl ⟨rfl, rfl, qo, rfl⟩), hb⟩
  · have hr := h
    rcases h with ⟨hlen0, ⟨hv, h00⟩ | ⟨g, cap, cur, hv, hBg, hblk, hnc, hcm, hcs, ht⟩⟩
    · omega
    simp only [Value.slice.injEq, true_and] at hv
    obtain ⟨rfl, rfl⟩ := hv
    have hlen : ns.length = n := by rw [byteV_length] at hlen0; omega
    subst hlen
    have hcell : ∀ i (hi : i < ns.length), w.cell? ⟨g, i, none⟩ = some (.int .u8 ns[i]) := fun i hi => by
      have := hr.cellAt i (by omega)
      rw [this]
      simp [byteV, hi]
    have hH : Holds (Value.int .u8) w g 0 ns.toArray := fun j hj => by
      have hj' : j < ns.length := by simpa using hj
      refine ⟨?_, Joins.unfrozen_of_block hblk _⟩
      rw [Nat.zero_add, hcell j hj']
      simp [hj']
    refine (AnyE.slices_Reverse lay_revB (Value.int .u8) (fun _ => rfl) g 0 qa ns w hH (by omega)).mono ?_
    rintro e w' ⟨rfl, k, rfl⟩
    have hH2 : Holds (Value.int .u8) (putRow (Value.int .u8) (Sort.ahead w k) g 0 ns.reverse.toArray) g 0 ns.reverse.toArray := holds_putRow _ _ _ _ ns.toArray _ hH (by simp)
    refine ⟨rfl, ?_, ⟨hb.os, hb.tape, hb.output, by rw [size_putRow]; exact hb.size, fun q hq => ?_⟩⟩
    · refine run_convert_bytes_arg _ 22 5 Tryz.underlying22 Tryz.underlying5 g 0 ns.length qa ns.reverse (by simp) (fun i hi => ?_) 9 Tryz.underlying9
      have := (hH2 i (by simpa using hi)).1
      rw [this]
      simp [hi, List.getD]
    · have hqg : q ≠ g := by have := Nat.lt_of_lt_of_le hq hB; omega
      have : (putRow (Value.int .u8) (Sort.ahead w k) g 0 ns.reverse.toArray).heap[q]? = w.heap[q]? := by
        simp [putRow, mapBlock, Array.getElem?_modify, Ne.symm hqg, Sort.ahead]
      rw [this]
      exact hb.block q hq

def Pan (e : Ending) : Prop := ∃ u pv, e = .panicked [{ v := .iface u pv, recovered := false }]

set_option maxHeartbeats 3200000 in
theorem readName_any (N : Nat) (w : World) (hz : N ≤ 2147483647) (hE : ErrW w) :
    Calls Tryz.prog 103 #[.int .i64 N] w fun e w' => ((snmB (unI N) = true ∧ e = .returned (.string (unI N))) ∨ (snmB (unI N) = false ∧ Pan e)) ∧ Below w.heap.size w w' := by
  have HJ0 := hide (LiJ.start hz)
  have HU0 : Hid (OwnR w w.heap.size 5 1 (.slice none 0 0) 0 (byteV (bI []))) := hide (.inl ⟨rfl, rfl, none, rfl⟩)
  have HE := hide hE
  clear hz hE
  obtain ⟨j0, hj, hy0, hy1, hy2⟩ := info_parts infoB8
  go_enter Tryz.func103, Tryz.ntmps103
  go_wp2
  go_loopw [0, 3] (fun n o wr => ∃ (m k : Nat) (acc : List UInt8) (qo : Option Addr) (qa : Nat), n = .int .i64 m ∧ o = .slice qo k qa ∧ k ≤ 8 ∧ Hid (acc.length = k) ∧ Hid (LiJ N m acc) ∧ Hid (OwnR wr w.heap.size 5 1 (.slice qo k qa) k (byteV (bI acc))) ∧ Hid (Below w.heap.size w wr)) (fun n _ _ => (intOf n).toNat)
  case atStart => exact ⟨N, 0, [], none, 0, rfl, rfl, by omega, hide rfl, HJ0, HU0, hide (Below.refl _ _)⟩
  case round =>
    clear HJ0 HU0
    obtain ⟨m, k, acc, qo, qa, rfl, rfl, hk8, HK, HJ, HU, HB⟩ := hrel
    obtain ⟨b1, b2⟩ := (unhide HJ).small
    by_cases hlt : 0 < m
    · have hlti : (0 : Int) < (m : Int) := by omega
      have HJ2 := hide ((unhide HJ).step hlt)
      obtain ⟨_, b3⟩ := (unhide HJ2).small
      have hk7 : k + 1 ≤ 8 := by have := unhide HK; simp at b3; omega
      have HK2 : Hid ((acc ++ [li1 m]).length = k + 1) := hide (by simp; exact unhide HK)
      have HST : Hid (byteV (bI (acc ++ [li1 m])) = byteV (bI acc) ++ [.int .u8 (96 + (m : Int) % 27)]) := hide (by simp [byteV, bI, li1_toNat])
      have h1 := Int.emod_nonneg (m : Int) (show (27 : Int) ≠ 0 by decide)
      have h2 := Int.emod_lt_of_pos (m : Int) (show (0 : Int) < 27 by decide)
      clear b2 b3
      have w1 : IntKind.i64.wrap (96 + (m : Int) % 27) = 96 + (m : Int) % 27 := by rw [IntKind.wrap_i64]; omega
      have w2 : IntKind.u8.wrap (96 + (m : Int) % 27) = 96 + (m : Int) % 27 := by simp [IntKind.wrap, IntKind.bits, IntKind.signed]; omega
      have HOA := hide ((unhide HU).below (Joins.below_alloc1 _ (.cells #[.int .u8 (96 + (m : Int) % 27)] 5)))
      have HBA := hide (fr (unhide HB) (Joins.below_alloc1 _ (.cells #[.int .u8 (96 + (m : Int) % 27)] 5)))
      have HSZ := hide (unhide HB).size
      go_wp2_with (at_builtin; refine wpList_append_one rfl _ _ 22 rfl w.heap.size 5 j0 (.int .u8 0) 1 1 Tryz.underlying22 hj hy0 hy1 hy2 rfl (by omega) qo k qa (byteV (bI acc)) rfl (unhide HOA) (by have := unhide HSZ; simp; omega) ⟨wr.heap.size, 0, none⟩ _ [.int .u8 (96 + (m : Int) % 27)] rfl rfl (byte_news wr _ _) (byte_one _) (by unfold maxLen; omega) (by omega) ?_; intro g2 cap2 wA hoA hkA; have HSF := hide (And.intro hoA (keep_below (unhide HBA) (unhide HOA) (Nat.le_refl _) hkA)); clear hoA hkA)
      go_roundw
      case rel => exact ⟨m / 27, k + 1, acc ++ [li1 m], some ⟨g2, 0, none⟩, cap2, by go_num, rfl, by omega, HK2, HJ2, hide (.inr ⟨by omega, by rw [unhide HST]; exact (unhide HSF).1⟩), hide (unhide HSF).2⟩
      case measure => simp [intOf]; omega
    · obtain rfl : m = 0 := by omega
      have HRV : Hid (strOfNums (bI acc).reverse = unI N) := hide (by
        have e : (bI acc).reverse = bI acc.reverse := by simp [bI]
        rw [e, bI_str, (unhide HJ).stop]; rfl)
      go_wp2_with fail
      refine (reverse_own w.heap.size k qa qo (bI acc) w wr (Nat.le_refl _) (unhide HB) (unhide HU) (by omega)).mono ?_
      rintro e w2 ⟨rfl, hcv, hb⟩
      rw [unhide HRV] at hcv
      have HB2 := hide hb
      have HZ : Hid ((unI N).size ≤ maxLen) := hide (by
        have : (unI N).size = acc.length := by rw [← unhide HRV, strOfNums_size]; simp [bI]
        rw [this, unhide HK]; unfold maxLen; omega)
      clear hb HRV HK HJ HU HB
      go_wp2_with fail
      refine (snapNameOK_any (unI N) _ (unhide HZ)).mono ?_
      rintro e w3 ⟨rfl, hb⟩
      have HB3 := hide (fr (unhide HB2) hb)
      clear hb hcv
      cases hs : snmB (unI N)
      · have HSS := hide hs
        clear hs
        go_wp2_with (go_at_call 101; refine (demand_false _ ((unhide HE).below (unhide HB3))).mono ?_; rintro e w' ⟨⟨u, pv, rfl⟩, hw⟩; replace hw := hw.symm; subst hw)
        exact ⟨rfl, .inr ⟨unhide HSS, _, _, rfl⟩, unhide HB3⟩
      · have HSS := hide hs
        clear hs
        go_wp2_with (go_at_call 101; refine (demand_true _).mono ?_; rintro e w' ⟨rfl, hw⟩; replace hw := hw.symm; subst hw)
        go_ret
        exact ⟨.inl ⟨unhide HSS, rfl⟩, unhide HB3⟩

end Go.Proofs.YtbmkdbccdnbbjaaGreatDoor

namespace Go.Proofs.YtbmkdbccdnbbjaaGreatDoor
open Go.RowKit
set_option linter.unusedVariables false
set_option maxRecDepth 100000

theorem open_in {s : ByteArray} {k : Int} : openB s k = true ↔ RecP s ∧ byteAt s 0 = k := by
  simp only [openB, Bool.and_eq_true, decide_eq_true_eq]
  exact and_congr_left' recB_iff
theorem readKind_any (s : ByteArray) (k : Int) (w : World) (hs : s.size ≤ 65536) (hE : ErrW w) :
    Calls Tryz.prog 102 #[.string s, .int .i64 k] w fun e w' => ((openB s k = true ∧ ∃ v, e = .returned v ∧ OwnN w' w.heap.size v (openL s k)) ∨ (openB s k = false ∧ Pan e)) ∧ Below w.heap.size w w' := by
  cases ho : openB s k
  · refine (readKind_no s k w hs (fun h => by rw [open_in.2 h] at ho; cases ho) hE).mono ?_
    rintro e w' ⟨h, hb⟩
    exact ⟨.inr ⟨rfl, h⟩, hb⟩
  · have h := open_in.1 ho
    refine (readKind_yes s k w hs h.1 h.2).mono ?_
    rintro e w' ⟨v, he, hv, hb⟩
    rw [← openL_yes ho] at hv
    exact ⟨.inl ⟨rfl, v, he, hv⟩, hb⟩
theorem readTable_any (s : ByteArray) (w : World) (hs : s.size ≤ 65536) (hE : ErrW w) :
    Calls Tryz.prog 99 #[.string s] w fun e w' => ((tdB s = true ∧ ∃ v, e = .returned v ∧ OwnN w' w.heap.size v (openL s 3)) ∨ (tdB s = false ∧ Pan e)) ∧ Below w.heap.size w w' := by
  cases ho : tdB s
  · refine (readTable_no s w hs ho hE).mono ?_
    rintro e w' ⟨h, hb⟩
    exact ⟨.inr ⟨rfl, h⟩, hb⟩
  · refine (readTable_yes s w hs ho).mono ?_
    rintro e w' ⟨v, he, hv, hb⟩
    exact ⟨.inl ⟨rfl, v, he, hv⟩, hb⟩

theorem cut_one {w : World} {B qa : Nat} {qo : Option Addr} {xs : List Int} (h : OwnR w B 3 1 (.slice qo xs.length qa) xs.length (intV xs)) (h1 : 1 ≤ xs.length) :
    ∃ qo', (∀ W : World, (Instr.sliceAt 23 (.slice qo xs.length qa) (some (.int .i64 1)) none none).run Tryz.prog W = .ok (.slice qo' (xs.length - 1) (qa - 1)) W) ∧ Is w qo' (xs.drop 1) := by
  have hI := ownRN h
  obtain ⟨b, off, e, _⟩ := hI 0 (by omega)
  subst e
  have hu : Tryz.prog.underlying 23 = some (.slice (Tryz.prog.elem 23)) := by kernel_rfl
  have hc : xs.length ≤ qa := by
    rcases h with ⟨h0, _⟩ | ⟨h0, h⟩
    · omega
    · rcases h.2 with ⟨_, h1⟩ | ⟨g, cap', cur, e, _, _, hc, _⟩
      · omega
      · simp only [Value.slice.injEq, true_and] at e
        omega
  refine ⟨if qa = 1 then some ⟨b, off, none⟩ else some ⟨b, off + 1, none⟩, fun W => ?_, ?_⟩
  · have hz : (Go.sizeOf (Tryz.prog.elem 23)).run Tryz.prog W = .ok 1 W := by kernel_rfl
    rw [run_sliceAt_slice _ _ _ _ _ _ hu, run_slice_l _ _ _ _ _ hu .i64 1 (by omega) (by omega), hz]
    simp only [Result.andThen, sliced]
    by_cases hq : qa = 1
    · simp [hq]
    · simp [hq, Addr.add]
  · intro i hi
    rw [List.length_drop] at hi
    have hq : qa ≠ 1 := by omega
    obtain ⟨b', off', e, hcl⟩ := hI (1 + i) (by omega)
    cases e
    refine ⟨b, off + 1, if_neg hq, ?_⟩
    rw [show off + 1 + i = off + (1 + i) by omega, hcl, List.getElem_drop]

theorem noSs_own2 {w : World} {B e cap : Nat} {ao : Option Addr} {ss : List ByteArray} (h : OwnR w B e 1 (.slice ao ss.length cap) ss.length (strV ss)) (hz : ∀ s ∈ ss, s.size ≤ maxLen) : Ss w ao ss := by
  rcases h with ⟨h0, _⟩ | ⟨_, h⟩
  · intro i hi; omega
  · exact ownS h hz
def nmsL (s : ByteArray) : List ByteArray := ((openL s 1).drop 1).map (fun x => unI x.toNat)
def nmsH (s : ByteArray) : Bool := decide (0 < (openL s 1).length) && (decide ((openL s 1).getD 0 0 ≤ 3) && decide ((openL s 1).getD 0 0 = (openL s 1).length - 1))
def nmsB (s : ByteArray) : Bool := openB s 1 && (nmsH s && (nmsL s).all snmB)
theorem nms_no {s : ByteArray} (h : openB s 1 = false) : nmsB s = false := by rw [nmsB, h]; rfl
theorem nms_head {s : ByteArray} (h : nmsH s = false) : nmsB s = false := by rw [nmsB, h]; simp
theorem nms_bad {s : ByteArray} {k : Nat} (hk : k < (nmsL s).length) (h : snmB (nmsL s)[k] = false) : nmsB s = false := by rw [nmsB, all_not (p := snmB) hk h]; simp
theorem nms_yes {s : ByteArray} (h1 : openB s 1 = true) (h2 : nmsH s = true) (h3 : ∀ j (hj : j < (nmsL s).length), snmB (nmsL s)[j] = true) : nmsB s = true := by rw [nmsB, h1, h2, all_of (p := snmB) (fun i hi _ => h3 i hi)]; rfl

set_option maxHeartbeats 3200000 in
theorem readNames_any (s : ByteArray) (w : World) (hs : s.size ≤ 65536) (hE : ErrW w) :
    Calls Tryz.prog 41 #[.string s] w fun e w' => ((nmsB s = true ∧ ∃ qo qa, e = .returned (.slice qo (nmsL s).length qa) ∧ Ss w' qo (nmsL s)) ∨ (nmsB s = false ∧ Pan e)) ∧ Below w.heap.size w w' := by
  have HE := hide hE
  clear hE
  obtain ⟨j0, hj, hy0, hy1, hy2⟩ := info_parts infoS
  go_enter Tryz.func41, Tryz.ntmps41
  go_wp2_with fail
  refine (readKind_any s 1 _ hs (unhide HE)).mono ?_
  rintro e w1 ⟨⟨ho, v, rfl, qo, qa, rfl, hv⟩ | ⟨ho, u, pv, rfl⟩, hb⟩
  case inr =>
    have HF := hide (nms_no ho)
    have HB := hide hb
    clear hb ho
    go_wp2
    exact ⟨rfl, .inr ⟨unhide HF, _, _, rfl⟩, unhide HB⟩
  have HO := hide ho
  have HIN : Hid (∀ j (hj : j < (openL s 1).length), 0 ≤ (openL s 1)[j] ∧ (openL s 1)[j] ≤ 2147483647) := hide (openL_in ho)
  have HV := hide hv
  have HB := hide hb
  have HLEN : Hid ((openL s 1).length ≤ 16384) := hide (by
    have h1 := unL_length (bodyT s)
    have h2 := bodyT_size s
    rw [openL_yes ho, h1]; omega)
  have HE1 := hide ((unhide HE).below hb)
  clear hv hb ho HE
  obtain ⟨L, HLQ⟩ : ∃ L, Hid (openL s 1 = L) := ⟨_, hide rfl⟩
  rw [unhide HLQ] at HIN HV HLEN ⊢
  have hl16 := unhide HLEN
  have HIS := hide (ownRN (unhide HV))
  by_cases h0 : 0 < L.length
  case neg =>
    have HF : Hid (nmsB s = false) := hide (nms_head (by rw [nmsH, unhide HLQ, decide_eq_false h0]; rfl))
    have hl0 : L.length = 0 := by omega
    have hz : (L.length : Int) = 0 := by omega
    rw [hl0]
    go_wp2_with (go_at_call 101; refine (demand_false _ (unhide HE1)).mono ?_; rintro e w' ⟨⟨u, pv, rfl⟩, hw⟩; replace hw := hw.symm; subst hw)
    exact ⟨rfl, .inr ⟨unhide HF, _, _, rfl⟩, unhide HB⟩
  have h0i : (0 : Int) < (L.length : Int) := by omega
  obtain ⟨b, off, rfl, hc0⟩ := unhide HIS 0 h0
  rw [Nat.add_zero] at hc0
  have HG0 : Hid (L.getD 0 0 = L[0]) := hide (by simp [List.getD, h0])
  have hr0 := unhide HIN 0 h0
  by_cases h3 : L[0] ≤ 3
  case neg =>
    have HF : Hid (nmsB s = false) := hide (nms_head (by rw [nmsH, unhide HLQ, unhide HG0, decide_eq_false h3]; simp))
    generalize L[0] = X at *
    go_wp2_with (go_at_call 101; refine (demand_false _ (unhide HE1)).mono ?_; rintro e w' ⟨⟨u, pv, rfl⟩, hw⟩; replace hw := hw.symm; subst hw)
    exact ⟨rfl, .inr ⟨unhide HF, _, _, rfl⟩, unhide HB⟩
  have w1' : IntKind.i64.wrap ((L.length : Int) - 1) = (L.length : Int) - 1 := by rw [IntKind.wrap_i64]; omega
  by_cases he : L[0] = (L.length : Int) - 1
  case neg =>
    have HF : Hid (nmsB s = false) := hide (nms_head (by rw [nmsH, unhide HLQ, unhide HG0, decide_eq_false he]; simp))
    have heb : (L[0] == (L.length : Int) - 1) = false := by simp [he]
    generalize L[0] = X at *
    clear he
    go_wp2_with (go_at_call 101; refine (demand_false _ (unhide HE1)).mono ?_; rintro e w' ⟨⟨u, pv, rfl⟩, hw⟩; replace hw := hw.symm; subst hw)
    exact ⟨rfl, .inr ⟨unhide HF, _, _, rfl⟩, unhide HB⟩
  have HH : Hid (nmsH s = true) := hide (by rw [nmsH, unhide HLQ, unhide HG0, decide_eq_true h0, decide_eq_true h3, decide_eq_true he]; rfl)
  have heb : (L[0] == (L.length : Int) - 1) = true := by simp [he]
  have hl4 : L.length ≤ 4 := by omega
  obtain ⟨qo', hsl, hcut⟩ := cut_one (unhide HV) (by omega)
  have HCUT := hide hcut
  have HNM : Hid (nmsL s = (L.drop 1).map (fun x => unI x.toNat)) := hide (by rw [nmsL, unhide HLQ])
  have HLD : Hid ((L.drop 1).length = L.length - 1) := hide (by simp)
  have HID : Hid (∀ j (hj : j < (L.drop 1).length), 0 ≤ (L.drop 1)[j] ∧ (L.drop 1)[j] ≤ 2147483647) := hide (fun j hj => by rw [List.getElem_drop]; exact unhide HIN _ _)
  have HU0 : Hid (OwnR w1 w1.heap.size 9 1 (.slice none 0 0) 0 (strV (((L.drop 1).map (fun x => unI x.toNat)).take 0))) := hide (.inl ⟨rfl, by simp [strV], none, rfl⟩)
  clear hcut HG0 HIS hr0
  have hd1 : ((L.length - 1 : Nat) : Int) = (L.length : Int) - 1 := by omega
  have HLN : Hid (L.length - 1 ≤ 3) := hide (by omega)
  generalize L[0] = X at *
  generalize hDD : L.drop 1 = DD at *
  generalize hNN : L.length - 1 = NN at *
  clear he hDD
  go_wp2_with (go_at_call 101; refine (demand_true _).mono ?_; rintro e w' ⟨rfl, hw⟩; replace hw := hw.symm; subst hw)
  go_loopw [4, 31] (fun o i wr => ∃ (k : Nat) (ro : Option Addr) (ra : Nat), k ≤ NN ∧ i = .int .i64 k ∧ o = .slice ro k ra ∧ Hid (∀ j (hj : j < DD.length), j < k → snmB (unI DD[j].toNat) = true) ∧ Hid (OwnR wr w1.heap.size 9 1 (.slice ro k ra) k (strV ((DD.map (fun x => unI x.toNat)).take k))) ∧ Hid (Below w1.heap.size w1 wr)) (fun _ i _ => NN - (intOf i).toNat)
  case atStart => exact ⟨0, none, 0, Nat.zero_le _, rfl, rfl, hide (fun j _ h => by omega), HU0, hide (Below.refl _ _)⟩
  case round =>
    clear HU0
    obtain ⟨k, ro, ra, hk, rfl, rfl, HA, HU, HB2⟩ := hrel
    have hnn3 := unhide HLN
    by_cases hlt : k < NN
    · have hkd : k < DD.length := by rw [unhide HLD]; exact hlt
      have hlti : (k : Int) < (NN : Int) := by omega
      obtain ⟨b', off', rfl, hck⟩ := ((unhide HCUT).below (unhide HB2)) k hkd
      obtain ⟨x0, x1⟩ := unhide HID k hkd
      obtain ⟨N, hN⟩ := Int.eq_ofNat_of_zero_le x0
      have HNQ : Hid (unI DD[k].toNat = unI N) := hide (by rw [hN]; rfl)
      rw [hN] at hck
      have hN2 : N ≤ 2147483647 := by omega
      have hNM : k < (nmsL s).length := by rw [unhide HNM, List.length_map]; exact hkd
      have HAT : Hid ((nmsL s)[k] = unI N) := hide (by
        have : (nmsL s)[k]? = some (unI N) := by rw [unhide HNM, List.getElem?_map, List.getElem?_eq_getElem hkd, Option.map_some, unhide HNQ]
        rw [List.getElem?_eq_getElem hNM] at this
        exact Option.some.inj this)
      have HBAD : Hid (snmB (unI N) = false → nmsB s = false) := hide (fun h => nms_bad hNM (by rw [unhide HAT]; exact h))
      have HST : Hid (strV ((DD.map (fun x => unI x.toNat)).take (k + 1)) = strV ((DD.map (fun x => unI x.toNat)).take k) ++ [.string (unI N)]) := hide (by
        rw [List.take_succ_eq_append_getElem (by simpa using hkd)]
        simp only [strV, List.map_append, List.getElem_map, unhide HNQ]; rfl)
      clear hN x0 x1 hNM HAT
      go_wp2_with fail
      refine (readName_any N _ hN2 ((unhide HE1).below (unhide HB2))).mono ?_
      rintro e w3 ⟨⟨hs3, rfl⟩ | ⟨hs3, u, pv, rfl⟩, hb3⟩
      case inr =>
        have HF := hide (unhide HBAD hs3)
        have HB3 := hide (fr (unhide HB) (fr (unhide HB2) hb3))
        clear hb3 hs3
        go_wp2
        exact ⟨rfl, .inr ⟨unhide HF, _, _, rfl⟩, unhide HB3⟩
      have HA2 : Hid (∀ j (hj : j < DD.length), j < k + 1 → snmB (unI DD[j].toNat) = true) := hide (fun j hj h => by
        by_cases e : j = k
        · subst e; rw [unhide HNQ]; exact hs3
        · exact unhide HA j hj (by omega))
      have HU3 := hide ((unhide HU).below hb3)
      have HB3 := hide (fr (unhide HB2) hb3)
      clear hb3 hs3 hck HA HU HB2 HBAD
      have HOA := hide ((unhide HU3).below (Joins.below_alloc1 _ (.cells #[.string (unI N)] 9)))
      have HBA := hide (fr (unhide HB3) (Joins.below_alloc1 _ (.cells #[.string (unI N)] 9)))
      have HSZ := hide (unhide HB3).size
      go_wp2_with (at_builtin; refine wpList_append_one rfl _ _ 31 rfl w1.heap.size 9 j0 (.string ⟨#[]⟩) 1 16 Tryz.underlying31 hj hy0 hy1 hy2 rfl (by omega) ro k ra (strV ((DD.map (fun x => unI x.toNat)).take k)) rfl (unhide HOA) (by have := unhide HSZ; simp; omega) ⟨w3.heap.size, 0, none⟩ _ [.string (unI N)] rfl rfl (byte_news w3 _ _) (str_one _) (by unfold maxLen; omega) (by omega) ?_; intro g2 cap2 wA hoA hkA; have HSF := hide (And.intro hoA (keep_below (unhide HBA) (unhide HOA) (Nat.le_refl _) hkA)); clear hoA hkA)
      go_roundw
      case rel => exact ⟨k + 1, some ⟨g2, 0, none⟩, cap2, by omega, by go_num, rfl, HA2, hide (.inr ⟨by omega, by rw [unhide HST]; exact (unhide HSF).1⟩), hide (unhide HSF).2⟩
      case measure => simp [intOf]; omega
    · have hke : k = NN := by omega
      have HNL : Hid ((nmsL s).length = k) := hide (by rw [unhide HNM, List.length_map, unhide HLD, hke])
      have HAL : Hid (∀ j (hj : j < (nmsL s).length), snmB (nmsL s)[j] = true) := hide (fun j hj => by
        have hjd : j < DD.length := by rw [unhide HNM, List.length_map] at hj; exact hj
        have : (nmsL s)[j]? = some (unI DD[j].toNat) := by rw [unhide HNM, List.getElem?_map, List.getElem?_eq_getElem hjd, Option.map_some]
        rw [List.getElem?_eq_getElem hj] at this
        rw [Option.some.inj this]
        exact unhide HA j hjd (by rw [unhide HLD] at hjd; omega))
      have HSS : Hid (Ss wr ro (nmsL s)) := hide (by
        have h := unhide HU
        rw [List.take_of_length_le (by rw [List.length_map, unhide HLD, hke]; exact Nat.le_refl _), ← unhide HNM, ← unhide HNL] at h
        refine noSs_own2 h (fun x hx => ?_)
        obtain ⟨q, hq, rfl⟩ := List.mem_iff_getElem.1 hx
        have := (snm_parts (unhide HAL q hq)).2.2
        unfold maxLen; omega)
      have HF := hide (nms_yes (unhide HO) (unhide HH) (unhide HAL))
      have HBE := hide (fr (unhide HB) (unhide HB2))
      clear hke
      go_wp2
      go_ret
      exact ⟨.inl ⟨unhide HF, ro, ra, by rw [unhide HNL]; rfl, unhide HSS⟩, unhide HBE⟩

def vlB (s : ByteArray) : Bool := openB s 4 && decide ((openL s 4).length = 1)
set_option maxHeartbeats 1600000 in
theorem readValue_any (s : ByteArray) (w : World) (hs : s.size ≤ 65536) (hE : ErrW w) :
    Calls Tryz.prog 100 #[.string s] w fun e w' => ((vlB s = true ∧ e = .returned (.int .i64 ((openL s 4).getD 0 0))) ∨ (vlB s = false ∧ Pan e)) ∧ Below w.heap.size w w' := by
  have HE := hide hE
  clear hE
  go_enter Tryz.func100, Tryz.ntmps100
  go_wp2_with fail
  refine (readKind_any s 4 _ hs (unhide HE)).mono ?_
  rintro e w1 ⟨⟨ho, v, rfl, qo, qa, rfl, hv⟩ | ⟨ho, u, pv, rfl⟩, hb⟩
  case inr =>
    have HF : Hid (vlB s = false) := hide (by rw [vlB, ho]; rfl)
    have HB := hide hb
    clear hb ho
    go_wp2
    exact ⟨rfl, .inr ⟨unhide HF, _, _, rfl⟩, unhide HB⟩
  have HV := hide (ownRN hv)
  have HB := hide hb
  have HE1 := hide ((unhide HE).below hb)
  have HO := hide ho
  have HLEN : Hid ((openL s 4).length ≤ 16384) := hide (by
    have h1 := unL_length (bodyT s)
    have h2 := bodyT_size s
    rw [openL_yes ho, h1]; omega)
  clear hv hb ho HE
  have hl16 := unhide HLEN
  by_cases h1 : (openL s 4).length = 1
  case neg =>
    have HF : Hid (vlB s = false) := hide (by rw [vlB, decide_eq_false h1]; simp)
    have heb : (((openL s 4).length : Int) == 1) = false := by simp; omega
    clear h1
    generalize openL s 4 = L at *
    go_wp2_with (go_at_call 101; refine (demand_false _ (unhide HE1)).mono ?_; rintro e w' ⟨⟨u, pv, rfl⟩, hw⟩; replace hw := hw.symm; subst hw)
    exact ⟨rfl, .inr ⟨unhide HF, _, _, rfl⟩, unhide HB⟩
  have HF : Hid (vlB s = true) := hide (by rw [vlB, unhide HO, decide_eq_true h1]; rfl)
  obtain ⟨b, off, rfl, hc0⟩ := unhide HV 0 (by omega)
  rw [Nat.add_zero] at hc0
  have HG : Hid ((openL s 4).getD 0 0 = (openL s 4)[0]) := hide (by simp [List.getD, h1])
  rw [h1]
  generalize (openL s 4)[0] = X at *
  clear h1
  go_wp2_with (go_at_call 101; refine (demand_true _).mono ?_; rintro e w' ⟨rfl, hw⟩; replace hw := hw.symm; subst hw)
  go_ret
  exact ⟨.inl ⟨unhide HF, by rw [unhide HG]; rfl⟩, unhide HB⟩

end Go.Proofs.YtbmkdbccdnbbjaaGreatDoor

namespace Go.Proofs.YtbmkdbccdnbbjaaGreatDoor
open Go.RowKit
set_option linter.unusedVariables false
set_option maxRecDepth 100000

end Go.Proofs.YtbmkdbccdnbbjaaGreatDoor
