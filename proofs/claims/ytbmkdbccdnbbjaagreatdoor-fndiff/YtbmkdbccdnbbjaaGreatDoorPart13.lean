import Derived.Test.YtbmkdbccdnbbjaaGreatDoorRows
import Derived.Test.YtbmkdbccdnbbjaaGreatDoorPart1
import Derived.Test.YtbmkdbccdnbbjaaGreatDoorPart12
import Derived.Test.YtbmkdbccdnbbjaaGreatDoorPart11
import Derived.WalkKit
import Derived.WalkSpells
import Derived.BigQuiet
import Derived.Deep.QuietTactic
import Derived.Deep.RegionWith
import Derived.Defers
import Derived.Recover
import Derived.Test.YtbmkdbccdnbbjaaGreatDoorPart2
import Derived.Test.YtbmkdbccdnbbjaaGreatDoorPart7
import Derived.Shelf.SlicesE.Reverse
import Derived.Test.YtbmkdbccdnbbjaaGreatDoorPart10
import Derived.KernelRfl
import Derived.LoopN
import Derived.Laws.BytesArg
import Derived.Test.YtbmkdbccdnbbjaaGreatDoorPart6
import Derived.Test.YtbmkdbccdnbbjaaGreatDoorPart3
import Derived.Deep.CutRange
import Derived.Laws.ResultCell
import Derived.Deep.MidRow
import Derived.Lib.EndianBits
import Derived.OrdersHeld
import Derived.Deep.RegionHeld3
import Derived.Test.YtbmkdbccdnbbjaaGreatDoorPart5

namespace Go.Proofs.YtbmkdbccdnbbjaaGreatDoor
open Go.RowKit
set_option linter.unusedVariables false
set_option maxRecDepth 100000

structure HeadSt (w W : World) : Prop where
  blk : W.heap[w.heap.size]? = some (.cells #[.int .i64 0, .slice none 0 0] 110 (0, 0))
  size : w.heap.size + 2 ≤ W.heap.size
  below : Below w.heap.size w W
theorem HeadSt.mk' (w : World) (a b : Obj) (n : Nat) (ha : a = .cells #[.int .i64 0, .slice none 0 0] 110) : HeadSt w (((w.alloc a).alloc b).drewN n) := by
  subst ha
  have h : Below w.heap.size w ((w.alloc (.cells #[.int .i64 0, .slice none 0 0] 110)).alloc b) := Joins.below_alloc2 _ _ _
  refine ⟨?_, by simp, h.trans (Joins.below_draws _ _ _)⟩
  show ((w.alloc _).alloc b).heap[w.heap.size]? = _
  rw [(Joins.below_alloc1 _ b).block _ (by simp)]
  exact heap_alloc_new w _

theorem sum_rec (s : ByteArray) (n : Int) (w : World) (hs : s.size ≤ 65536) (h4 : 4 ≤ s.size) (hn : sumC (headT s ++ bodyT s) = n) : Calls Tryz.prog 185 #[.string (s.extract 0 2 ++ s.extract 4 s.size)] w fun e w' => e = .returned (.int .i64 n) ∧ w' = w := by
  subst hn
  exact sumOf_impl (headT s ++ bodyT s) w (by rw [ByteArray.size_append, bodyT_size, headT_size h4]; omega)

set_option maxHeartbeats 1600000 in
theorem readRecord_yes (s : ByteArray) (w : World) (hs : s.size ≤ 65536) (hr : RecP s) : Calls Tryz.prog 156 #[.string s] w fun e w' => ∃ v, e = .returned (.agg #[.int .i64 (byteAt s 0), v]) ∧ OwnN w' w.heap.size v (unL (bodyT s)) ∧ Below w.heap.size w w' := by
  obtain ⟨h4, hk, h3, hcnt, hsum, hok⟩ := hr
  have hc4 := copy4_at (w.alloc (.cells #[.int .i64 0, .slice none 0 0] 110)) (w.heap.size + 1) s (by simp) h4
  have h4i : (4 : Int) ≤ (s.size : Int) := by omega
  have b0 := byteAt_in s 0
  have b1 := byteAt_in s 1
  have b2 := byteAt_in s 2
  have HBZ := hide (bodyT_size s)
  have HHZ := hide (headT_size h4)
  have b3 : (byteAt s 3 == 0) = true := by simp [h3]
  have HSM : Hid (sumC (headT s ++ bodyT s) = byteAt s 2) := hide (by rw [hsum]; exact sumC_short (by rw [ByteArray.size_append, bodyT_size, headT_size h4]; omega))
  have HOK := hide hok
  have hlen : (((s.size - 4 : Nat) : Int) == byteAt s 1 * 4) = true := by rw [bodyT_size] at hcnt; simp [hcnt]
  clear h3 hcnt hsum hok
  go_enter Tryz.func156, Tryz.ntmps156
  go_wp2_with (first | (go_at_call 101; refine (demand_true _).mono ?_; rintro e w' ⟨rfl, hw⟩; replace hw := hw.symm; subst hw))
  go_quiet (fail)
  have HH := hide (HeadSt.mk' w (.cells #[.int .i64 0, .slice none 0 0] 110) (.cells #[.int .u8 (byteAt s 0), .int .u8 (byteAt s 1), .int .u8 (byteAt s 2), .int .u8 (byteAt s 3)] 202) nq rfl)
  revert HH
  generalize (((w.alloc (.cells #[.int .i64 0, .slice none 0 0] 110)).alloc (.cells #[.int .u8 (byteAt s 0), .int .u8 (byteAt s 1), .int .u8 (byteAt s 2), .int .u8 (byteAt s 3)] 202)).drewN nq) = W
  intro HH
  clear hc4
  go_wp2_with (first | (go_at_call 183; refine (kindOK_any _ _).mono ?_; rintro e w' ⟨rfl, hw⟩; replace hw := hw.symm; subst hw) | (go_at_call 101; refine (demand_true _).mono ?_; rintro e w' ⟨rfl, hw⟩; replace hw := hw.symm; subst hw) | (go_at_call 185; refine (sum_rec s _ _ hs h4 (unhide HSM)).mono ?_; rintro e w' ⟨rfl, hw⟩; replace hw := hw.symm; subst hw))
  refine (readNumbers_yes (bodyT s) _ (unhide HOK)).mono ?_
  rintro e w1 ⟨v, rfl, ⟨qo, qa, rfl, ho⟩, hb⟩
  have hblk : w1.heap[w.heap.size]? = some (.cells #[.int .i64 0, .slice none 0 0] 110 (0, 0)) := by
    rw [hb.block _ (by have := (unhide HH).size; omega)]; exact (unhide HH).blk
  have hc0 : w1.cell? ⟨w.heap.size, 0, none⟩ = some (.int .i64 0) := by rw [Joins.cell_of_block hblk]; rfl
  have hc1 : w1.cell? ⟨w.heap.size, 1, none⟩ = some (.slice none 0 0) := by rw [Joins.cell_of_block hblk]; rfl
  have hf0 := Joins.unfrozen_of_block hblk 0
  have hf1 := Joins.unfrozen_of_block hblk 1
  have HO := hide (ho.base (B' := w.heap.size + 1) (by have := (unhide HH).size; omega))
  have HB := hide (fr (unhide HH).below hb)
  clear ho hb hblk
  go_wp2
  exact bodyPost_ret (v := .agg #[.int .i64 (byteAt s 0), .slice qo (unL (bodyT s)).length qa]) (by simp [results, Tryz.results156, go_sem, hc0, hc1]) rfl
    ⟨.slice qo (unL (bodyT s)).length qa, rfl, ⟨qo, qa, rfl, (((unhide HO).setCell (a := ⟨w.heap.size, 0, none⟩) (Nat.lt_succ_self _) _).setCell (a := ⟨w.heap.size, 1, none⟩) (Nat.lt_succ_self _) _).base (Nat.le_succ _)⟩, ((unhide HB).setCell (p := ⟨w.heap.size, 0, none⟩) (Nat.le_refl _) _).setCell (p := ⟨w.heap.size, 1, none⟩) (Nat.le_refl _) _⟩

theorem readRecord_short (s : ByteArray) (w : World) (h4 : ¬ 4 ≤ s.size) (hE : ErrW w) : Calls Tryz.prog 156 #[.string s] w fun e w' => (∃ u pv, e = .panicked [{ v := .iface u pv, recovered := false }]) ∧ Below w.heap.size w w' := by
  have HE := hide (hE.below (Joins.below_alloc1 w (.cells #[.int .i64 0, .slice none 0 0] 110)))
  have h4i : ¬ (4 : Int) ≤ (s.size : Int) := by omega
  clear hE
  go_enter Tryz.func156, Tryz.ntmps156
  go_wp2_with (go_at_call 101; refine (demand_false _ (unhide HE)).mono ?_; rintro e w' ⟨⟨u, pv, rfl⟩, hw⟩; replace hw := hw.symm; subst hw)
  exact ⟨rfl, ⟨_, _, rfl⟩, Joins.below_alloc1 _ _⟩

set_option maxHeartbeats 1600000 in
theorem readRecord_kind (s : ByteArray) (w : World) (hs : s.size ≤ 65536) (h4 : 4 ≤ s.size) (hk : kindB (byteAt s 0) = false) (hE : ErrW w) : Calls Tryz.prog 156 #[.string s] w fun e w' => (∃ u pv, e = .panicked [{ v := .iface u pv, recovered := false }]) ∧ Below w.heap.size w w' := by
  have HE := hide hE
  clear hE
  have hc4 := copy4_at (w.alloc (.cells #[.int .i64 0, .slice none 0 0] 110)) (w.heap.size + 1) s (by simp) h4
  have h4i : (4 : Int) ≤ (s.size : Int) := by omega
  have b0 := byteAt_in s 0
  have b1 := byteAt_in s 1
  have b2 := byteAt_in s 2
  have HBZ := hide (bodyT_size s)
  have HHZ := hide (headT_size h4)
  go_enter Tryz.func156, Tryz.ntmps156
  go_wp2_with (first | (go_at_call 101; refine (demand_true _).mono ?_; rintro e w' ⟨rfl, hw⟩; replace hw := hw.symm; subst hw))
  go_quiet (fail)
  have HH := hide (HeadSt.mk' w (.cells #[.int .i64 0, .slice none 0 0] 110) (.cells #[.int .u8 (byteAt s 0), .int .u8 (byteAt s 1), .int .u8 (byteAt s 2), .int .u8 (byteAt s 3)] 202) nq rfl)
  revert HH
  generalize (((w.alloc (.cells #[.int .i64 0, .slice none 0 0] 110)).alloc (.cells #[.int .u8 (byteAt s 0), .int .u8 (byteAt s 1), .int .u8 (byteAt s 2), .int .u8 (byteAt s 3)] 202)).drewN nq) = W
  intro HH
  clear hc4
  go_wp2_with (first | (go_at_call 183; refine (kindOK_any _ _).mono ?_; rintro e w' ⟨rfl, hw⟩; replace hw := hw.symm; subst hw) | (go_at_call 101; refine (demand_false _ ((unhide HE).below (unhide HH).below)).mono ?_; rintro e w' ⟨⟨u, pv, rfl⟩, hw⟩; replace hw := hw.symm; subst hw))
  exact ⟨rfl, ⟨_, _, rfl⟩, (unhide HH).below⟩

set_option maxHeartbeats 1600000 in
theorem readRecord_last (s : ByteArray) (w : World) (hs : s.size ≤ 65536) (h4 : 4 ≤ s.size) (hk : kindB (byteAt s 0) = true) (h3 : byteAt s 3 ≠ 0) (hE : ErrW w) : Calls Tryz.prog 156 #[.string s] w fun e w' => (∃ u pv, e = .panicked [{ v := .iface u pv, recovered := false }]) ∧ Below w.heap.size w w' := by
  have HE := hide hE
  clear hE
  have hc4 := copy4_at (w.alloc (.cells #[.int .i64 0, .slice none 0 0] 110)) (w.heap.size + 1) s (by simp) h4
  have h4i : (4 : Int) ≤ (s.size : Int) := by omega
  have b0 := byteAt_in s 0
  have b1 := byteAt_in s 1
  have b2 := byteAt_in s 2
  have HBZ := hide (bodyT_size s)
  have HHZ := hide (headT_size h4)
  have b3 : (byteAt s 3 == 0) = false := by simp [h3]
  clear h3
  go_enter Tryz.func156, Tryz.ntmps156
  go_wp2_with (first | (go_at_call 101; refine (demand_true _).mono ?_; rintro e w' ⟨rfl, hw⟩; replace hw := hw.symm; subst hw))
  go_quiet (fail)
  have HH := hide (HeadSt.mk' w (.cells #[.int .i64 0, .slice none 0 0] 110) (.cells #[.int .u8 (byteAt s 0), .int .u8 (byteAt s 1), .int .u8 (byteAt s 2), .int .u8 (byteAt s 3)] 202) nq rfl)
  revert HH
  generalize (((w.alloc (.cells #[.int .i64 0, .slice none 0 0] 110)).alloc (.cells #[.int .u8 (byteAt s 0), .int .u8 (byteAt s 1), .int .u8 (byteAt s 2), .int .u8 (byteAt s 3)] 202)).drewN nq) = W
  intro HH
  clear hc4
  go_wp2_with (first | (go_at_call 183; refine (kindOK_any _ _).mono ?_; rintro e w' ⟨rfl, hw⟩; replace hw := hw.symm; subst hw) | (go_at_call 101; refine (demand_false _ ((unhide HE).below (unhide HH).below)).mono ?_; rintro e w' ⟨⟨u, pv, rfl⟩, hw⟩; replace hw := hw.symm; subst hw))
  exact ⟨rfl, ⟨_, _, rfl⟩, (unhide HH).below⟩

set_option maxHeartbeats 1600000 in
theorem readRecord_count (s : ByteArray) (w : World) (hs : s.size ≤ 65536) (h4 : 4 ≤ s.size) (hk : kindB (byteAt s 0) = true) (h3 : byteAt s 3 = 0) (hcnt : ((bodyT s).size : Int) ≠ byteAt s 1 * 4) (hE : ErrW w) : Calls Tryz.prog 156 #[.string s] w fun e w' => (∃ u pv, e = .panicked [{ v := .iface u pv, recovered := false }]) ∧ Below w.heap.size w w' := by
  have HE := hide hE
  clear hE
  have hc4 := copy4_at (w.alloc (.cells #[.int .i64 0, .slice none 0 0] 110)) (w.heap.size + 1) s (by simp) h4
  have h4i : (4 : Int) ≤ (s.size : Int) := by omega
  have b0 := byteAt_in s 0
  have b1 := byteAt_in s 1
  have b2 := byteAt_in s 2
  have HBZ := hide (bodyT_size s)
  have HHZ := hide (headT_size h4)
  have b3 : (byteAt s 3 == 0) = true := by simp [h3]
  have hlen : (((s.size - 4 : Nat) : Int) == byteAt s 1 * 4) = false := by rw [bodyT_size] at hcnt; simp [hcnt]
  clear h3 hcnt
  go_enter Tryz.func156, Tryz.ntmps156
  go_wp2_with (first | (go_at_call 101; refine (demand_true _).mono ?_; rintro e w' ⟨rfl, hw⟩; replace hw := hw.symm; subst hw))
  go_quiet (fail)
  have HH := hide (HeadSt.mk' w (.cells #[.int .i64 0, .slice none 0 0] 110) (.cells #[.int .u8 (byteAt s 0), .int .u8 (byteAt s 1), .int .u8 (byteAt s 2), .int .u8 (byteAt s 3)] 202) nq rfl)
  revert HH
  generalize (((w.alloc (.cells #[.int .i64 0, .slice none 0 0] 110)).alloc (.cells #[.int .u8 (byteAt s 0), .int .u8 (byteAt s 1), .int .u8 (byteAt s 2), .int .u8 (byteAt s 3)] 202)).drewN nq) = W
  intro HH
  clear hc4
  go_wp2_with (first | (go_at_call 183; refine (kindOK_any _ _).mono ?_; rintro e w' ⟨rfl, hw⟩; replace hw := hw.symm; subst hw) | (go_at_call 101; refine (demand_true _).mono ?_; rintro e w' ⟨rfl, hw⟩; replace hw := hw.symm; subst hw) | (go_at_call 101; refine (demand_false _ ((unhide HE).below (unhide HH).below)).mono ?_; rintro e w' ⟨⟨u, pv, rfl⟩, hw⟩; replace hw := hw.symm; subst hw))
  exact ⟨rfl, ⟨_, _, rfl⟩, (unhide HH).below⟩

set_option maxHeartbeats 1600000 in
theorem readRecord_sum (s : ByteArray) (w : World) (hs : s.size ≤ 65536) (h4 : 4 ≤ s.size) (hk : kindB (byteAt s 0) = true) (h3 : byteAt s 3 = 0) (hcnt : ((bodyT s).size : Int) = byteAt s 1 * 4) (hsum : byteAt s 2 ≠ sumS (headT s ++ bodyT s)) (hE : ErrW w) : Calls Tryz.prog 156 #[.string s] w fun e w' => (∃ u pv, e = .panicked [{ v := .iface u pv, recovered := false }]) ∧ Below w.heap.size w w' := by
  have HE := hide hE
  clear hE
  have hc4 := copy4_at (w.alloc (.cells #[.int .i64 0, .slice none 0 0] 110)) (w.heap.size + 1) s (by simp) h4
  have h4i : (4 : Int) ≤ (s.size : Int) := by omega
  have b0 := byteAt_in s 0
  have b1 := byteAt_in s 1
  have b2 := byteAt_in s 2
  have HBZ := hide (bodyT_size s)
  have HHZ := hide (headT_size h4)
  have b3 : (byteAt s 3 == 0) = true := by simp [h3]
  have hlen : (((s.size - 4 : Nat) : Int) == byteAt s 1 * 4) = true := by rw [bodyT_size] at hcnt; simp [hcnt]
  have HSM : Hid (sumC (headT s ++ bodyT s) = sumS (headT s ++ bodyT s)) := hide (sumC_short (by rw [ByteArray.size_append, bodyT_size, headT_size h4]; omega))
  have hsb : (byteAt s 2 == sumS (headT s ++ bodyT s)) = false := by simp [hsum]
  clear h3 hcnt hsum
  go_enter Tryz.func156, Tryz.ntmps156
  go_wp2_with (first | (go_at_call 101; refine (demand_true _).mono ?_; rintro e w' ⟨rfl, hw⟩; replace hw := hw.symm; subst hw))
  go_quiet (fail)
  have HH := hide (HeadSt.mk' w (.cells #[.int .i64 0, .slice none 0 0] 110) (.cells #[.int .u8 (byteAt s 0), .int .u8 (byteAt s 1), .int .u8 (byteAt s 2), .int .u8 (byteAt s 3)] 202) nq rfl)
  revert HH
  generalize (((w.alloc (.cells #[.int .i64 0, .slice none 0 0] 110)).alloc (.cells #[.int .u8 (byteAt s 0), .int .u8 (byteAt s 1), .int .u8 (byteAt s 2), .int .u8 (byteAt s 3)] 202)).drewN nq) = W
  intro HH
  clear hc4
  go_wp2_with (first | (go_at_call 183; refine (kindOK_any _ _).mono ?_; rintro e w' ⟨rfl, hw⟩; replace hw := hw.symm; subst hw) | (go_at_call 101; refine (demand_true _).mono ?_; rintro e w' ⟨rfl, hw⟩; replace hw := hw.symm; subst hw) | (go_at_call 185; refine (sum_rec s _ _ hs h4 (unhide HSM)).mono ?_; rintro e w' ⟨rfl, hw⟩; replace hw := hw.symm; subst hw) | (go_at_call 101; refine (demand_false _ ((unhide HE).below (unhide HH).below)).mono ?_; rintro e w' ⟨⟨u, pv, rfl⟩, hw⟩; replace hw := hw.symm; subst hw))
  exact ⟨rfl, ⟨_, _, rfl⟩, (unhide HH).below⟩

set_option maxHeartbeats 1600000 in
theorem readRecord_nums (s : ByteArray) (w : World) (hs : s.size ≤ 65536) (h4 : 4 ≤ s.size) (hk : kindB (byteAt s 0) = true) (h3 : byteAt s 3 = 0) (hcnt : ((bodyT s).size : Int) = byteAt s 1 * 4) (hsum : byteAt s 2 = sumS (headT s ++ bodyT s)) (hok : okU (bodyT s) = false) (hE : ErrW w) : Calls Tryz.prog 156 #[.string s] w fun e w' => (∃ u pv, e = .panicked [{ v := .iface u pv, recovered := false }]) ∧ Below w.heap.size w w' := by
  have HE := hide hE
  clear hE
  have hc4 := copy4_at (w.alloc (.cells #[.int .i64 0, .slice none 0 0] 110)) (w.heap.size + 1) s (by simp) h4
  have h4i : (4 : Int) ≤ (s.size : Int) := by omega
  have b0 := byteAt_in s 0
  have b1 := byteAt_in s 1
  have b2 := byteAt_in s 2
  have HBZ := hide (bodyT_size s)
  have HHZ := hide (headT_size h4)
  have b3 : (byteAt s 3 == 0) = true := by simp [h3]
  have hlen : (((s.size - 4 : Nat) : Int) == byteAt s 1 * 4) = true := by rw [bodyT_size] at hcnt; simp [hcnt]
  have HSM : Hid (sumC (headT s ++ bodyT s) = byteAt s 2) := hide (by rw [hsum]; exact sumC_short (by rw [ByteArray.size_append, bodyT_size, headT_size h4]; omega))
  have HOK := hide hok
  clear h3 hcnt hsum hok
  go_enter Tryz.func156, Tryz.ntmps156
  go_wp2_with (first | (go_at_call 101; refine (demand_true _).mono ?_; rintro e w' ⟨rfl, hw⟩; replace hw := hw.symm; subst hw))
  go_quiet (fail)
  have HH := hide (HeadSt.mk' w (.cells #[.int .i64 0, .slice none 0 0] 110) (.cells #[.int .u8 (byteAt s 0), .int .u8 (byteAt s 1), .int .u8 (byteAt s 2), .int .u8 (byteAt s 3)] 202) nq rfl)
  revert HH
  generalize (((w.alloc (.cells #[.int .i64 0, .slice none 0 0] 110)).alloc (.cells #[.int .u8 (byteAt s 0), .int .u8 (byteAt s 1), .int .u8 (byteAt s 2), .int .u8 (byteAt s 3)] 202)).drewN nq) = W
  intro HH
  clear hc4
  go_wp2_with (first | (go_at_call 183; refine (kindOK_any _ _).mono ?_; rintro e w' ⟨rfl, hw⟩; replace hw := hw.symm; subst hw) | (go_at_call 101; refine (demand_true _).mono ?_; rintro e w' ⟨rfl, hw⟩; replace hw := hw.symm; subst hw) | (go_at_call 185; refine (sum_rec s _ _ hs h4 (unhide HSM)).mono ?_; rintro e w' ⟨rfl, hw⟩; replace hw := hw.symm; subst hw))
  refine (readNumbers_no (bodyT s) _ (unhide HOK) ((unhide HE).below (unhide HH).below)).mono ?_
  rintro e w1 ⟨⟨u, pv, rfl⟩, hb⟩
  have HB := hide (fr (unhide HH).below hb)
  clear hb
  go_wp2
  exact ⟨rfl, ⟨u, pv, rfl⟩, unhide HB⟩

theorem readRecord_no (s : ByteArray) (w : World) (hs : s.size ≤ 65536) (hr : ¬ RecP s) (hE : ErrW w) : Calls Tryz.prog 156 #[.string s] w fun e w' => (∃ u pv, e = .panicked [{ v := .iface u pv, recovered := false }]) ∧ Below w.heap.size w w' := by
  by_cases h4 : 4 ≤ s.size
  · cases hk : kindB (byteAt s 0) with
    | false => exact readRecord_kind s w hs h4 hk hE
    | true =>
      by_cases h3 : byteAt s 3 = 0
      · by_cases hcnt : ((bodyT s).size : Int) = byteAt s 1 * 4
        · by_cases hsum : byteAt s 2 = sumS (headT s ++ bodyT s)
          · cases hok : okU (bodyT s) with
            | false => exact readRecord_nums s w hs h4 hk h3 hcnt hsum hok hE
            | true => exact absurd ⟨h4, hk, h3, hcnt, hsum, hok⟩ hr
          · exact readRecord_sum s w hs h4 hk h3 hcnt hsum hE
        · exact readRecord_count s w hs h4 hk h3 hcnt hE
      · exact readRecord_last s w hs h4 hk h3 hE
  · exact readRecord_short s w h4 hE

end Go.Proofs.YtbmkdbccdnbbjaaGreatDoor

namespace Go.Proofs.YtbmkdbccdnbbjaaGreatDoor
open Go.RowKit
set_option linter.unusedVariables false
set_option maxRecDepth 100000

set_option maxHeartbeats 1600000 in
theorem readKind_yes (s : ByteArray) (k : Int) (w : World) (hs : s.size ≤ 65536) (hr : RecP s) (hk : byteAt s 0 = k) :
    Calls Tryz.prog 102 #[.string s, .int .i64 k] w fun e w' => ∃ v, e = .returned v ∧ OwnN w' w.heap.size v (unL (bodyT s)) ∧ Below w.heap.size w w' := by
  subst hk
  go_enter Tryz.func102, Tryz.ntmps102
  go_wp2_with fail
  refine (readRecord_yes s _ hs hr).mono ?_
  rintro e w1 ⟨v, rfl, ⟨qo, qa, rfl, ho⟩, hb⟩
  have HO := hide (ho.below (Joins.below_alloc1 _ (.cells #[.int .i64 (byteAt s 0), .slice qo (unL (bodyT s)).length qa] 110)))
  have HB := hide (fr hb (Joins.below_alloc1 _ (.cells #[.int .i64 (byteAt s 0), .slice qo (unL (bodyT s)).length qa] 110)))
  clear ho hb
  go_wp2_with (go_at_call 101; refine (demand_true _).mono ?_; rintro e w' ⟨rfl, hw⟩; replace hw := hw.symm; subst hw)
  go_ret
  exact ⟨.slice qo (unL (bodyT s)).length qa, rfl, ⟨qo, qa, rfl, unhide HO⟩, unhide HB⟩

set_option maxHeartbeats 1600000 in
theorem readKind_no (s : ByteArray) (k : Int) (w : World) (hs : s.size ≤ 65536) (hr : ¬ (RecP s ∧ byteAt s 0 = k)) (hE : ErrW w) :
    Calls Tryz.prog 102 #[.string s, .int .i64 k] w fun e w' => (∃ u pv, e = .panicked [{ v := .iface u pv, recovered := false }]) ∧ Below w.heap.size w w' := by
  by_cases hp : RecP s
  · have hkb : (byteAt s 0 == k) = false := by rw [beq_eq_false_iff_ne]; exact fun e => hr ⟨hp, e⟩
    have HE := hide hE
    clear hr hE
    go_enter Tryz.func102, Tryz.ntmps102
    go_wp2_with fail
    refine (readRecord_yes s _ hs hp).mono ?_
    rintro e w1 ⟨v, rfl, ⟨qo, qa, rfl, ho⟩, hb⟩
    have HB := hide (fr hb (Joins.below_alloc1 _ (.cells #[.int .i64 (byteAt s 0), .slice qo (unL (bodyT s)).length qa] 110)))
    clear ho hb
    go_wp2_with (go_at_call 101; refine (demand_false _ ((unhide HE).below (unhide HB))).mono ?_; rintro e w' ⟨⟨u, pv, rfl⟩, hw⟩; replace hw := hw.symm; subst hw)
    exact ⟨rfl, ⟨_, _, rfl⟩, unhide HB⟩
  · go_enter Tryz.func102, Tryz.ntmps102
    go_wp2_with fail
    refine (readRecord_no s _ hs hp hE).mono ?_
    rintro e w1 ⟨⟨u, pv, rfl⟩, hb⟩
    have HB := hide hb
    clear hb
    go_wp2
    exact ⟨rfl, ⟨_, _, rfl⟩, unhide HB⟩

end Go.Proofs.YtbmkdbccdnbbjaaGreatDoor

namespace Go.Proofs.YtbmkdbccdnbbjaaGreatDoor
open Go.RowKit
set_option linter.unusedVariables false
set_option maxRecDepth 100000

theorem open_yes3 {s : ByteArray} (h : openB s 3 = true) : RecP s ∧ byteAt s 0 = 3 := by
  simp only [openB, Bool.and_eq_true, decide_eq_true_eq] at h
  exact ⟨recB_iff.1 h.1, h.2⟩
theorem open_no3 {s : ByteArray} (h : openB s 3 = false) : ¬ (RecP s ∧ byteAt s 0 = 3) := by
  rintro ⟨a, b⟩
  rw [openB_yes a b] at h
  cases h
theorem openL_short (s : ByteArray) (hs : s.size ≤ 65536) : (openL s 3).length ≤ maxLen := by
  have h1 := unL_length (bodyT s)
  have h2 := bodyT_size s
  unfold openL maxLen
  split
  · rw [h1]; omega
  · simp

set_option maxHeartbeats 1600000 in
theorem readTable_yes (s : ByteArray) (w : World) (hs : s.size ≤ 65536) (hok : tdB s = true) :
    Calls Tryz.prog 99 #[.string s] w fun e w' => ∃ v, e = .returned v ∧ OwnN w' w.heap.size v (openL s 3) ∧ Below w.heap.size w w' := by
  obtain ⟨ho, ht⟩ := tdB_parts hok
  have HYE := hide (open_yes3 ho)
  have HLE := hide (openL_yes ho)
  have HSH := hide (openL_short s hs)
  clear ho hok
  go_enter Tryz.func99, Tryz.ntmps99
  go_wp2_with fail
  refine (readKind_yes s 3 _ hs (unhide HYE).1 (unhide HYE).2).mono ?_
  rintro e w1 ⟨v, rfl, ⟨qo, qa, rfl, ho⟩, hb⟩
  rw [← unhide HLE] at ho ⊢
  have HO := hide ho
  have HB := hide hb
  clear ho hb HLE HYE
  generalize hN : openL s 3 = ns at *
  have HN := hide hN
  clear hN
  go_wp2_with (first | (go_at_call 155; refine (tableOK_impl _ _ ns _ (unhide HSH) (ownRN (unhide HO))).mono ?_; rintro e w' ⟨rfl, hw⟩; replace hw := hw.symm; subst hw; rw [ht]) | (go_at_call 101; refine (demand_true _).mono ?_; rintro e w' ⟨rfl, hw⟩; replace hw := hw.symm; subst hw))
  go_ret
  exact ⟨.slice qo ns.length qa, rfl, by rw [unhide HN]; exact ⟨qo, qa, rfl, unhide HO⟩, unhide HB⟩

set_option maxHeartbeats 1600000 in
theorem readTable_no (s : ByteArray) (w : World) (hs : s.size ≤ 65536) (hok : tdB s = false) (hE : ErrW w) :
    Calls Tryz.prog 99 #[.string s] w fun e w' => (∃ u pv, e = .panicked [{ v := .iface u pv, recovered := false }]) ∧ Below w.heap.size w w' := by
  have HE := hide hE
  clear hE
  cases ho : openB s 3
  · have HNO := hide (open_no3 ho)
    go_enter Tryz.func99, Tryz.ntmps99
    go_wp2_with fail
    refine (readKind_no s 3 _ hs (unhide HNO) (unhide HE)).mono ?_
    rintro e w1 ⟨⟨u, pv, rfl⟩, hb⟩
    have HB := hide hb
    clear hb
    go_wp2
    exact ⟨rfl, ⟨_, _, rfl⟩, unhide HB⟩
  · have ht : tbB (openL s 3) = false := by rw [tdB, ho] at hok; simpa using hok
    have HYE := hide (open_yes3 ho)
    have HLE := hide (openL_yes ho)
    have HSH := hide (openL_short s hs)
    clear ho hok
    go_enter Tryz.func99, Tryz.ntmps99
    go_wp2_with fail
    refine (readKind_yes s 3 _ hs (unhide HYE).1 (unhide HYE).2).mono ?_
    rintro e w1 ⟨v, rfl, ⟨qo, qa, rfl, ho⟩, hb⟩
    rw [← unhide HLE] at ho ⊢
    have HO := hide ho
    have HB := hide hb
    clear ho hb HLE HYE
    generalize openL s 3 = ns at *
    go_wp2_with (first | (go_at_call 155; refine (tableOK_impl _ _ ns _ (unhide HSH) (ownRN (unhide HO))).mono ?_; rintro e w' ⟨rfl, hw⟩; replace hw := hw.symm; subst hw; rw [ht]) | (go_at_call 101; refine (demand_false _ ((unhide HE).below (unhide HB))).mono ?_; rintro e w' ⟨⟨u, pv, rfl⟩, hw⟩; replace hw := hw.symm; subst hw))
    exact ⟨rfl, ⟨_, _, rfl⟩, unhide HB⟩

end Go.Proofs.YtbmkdbccdnbbjaaGreatDoor

namespace Go.Proofs.YtbmkdbccdnbbjaaGreatDoor
open Go.RowKit Go.Shelf
set_option maxRecDepth 100000

def lay_revB_ren : Go.Shelf.Ren := ⟨fun | 35 => 157 | n => n, fun | 22 => 22 | 23 => 5 | 3 => 3 | 4 => 4 | 0 => 0 | n => n, fun | n => n⟩

theorem lay_revB : Go.Proofs.SlLaysE.n35 Tryz.prog lay_revB_ren := {
  mixed := by kernel_rfl
  f35 := ⟨Tryz.f157.name, by decide, Tryz.func157.trans (congrArg some (by kernel_rfl))⟩
  t0 := Tryz.underlying0
  a0 := Tryz.isAgg0
  z0 := Tryz.sizeOf0
  v0 := Tryz.zeroValue0
  t3 := Tryz.underlying3
  a3 := Tryz.isAgg3
  z3 := Tryz.sizeOf3
  v3 := Tryz.zeroValue3
  t4 := Tryz.underlying4
  a4 := Tryz.isAgg4
  z4 := Tryz.sizeOf4
  v4 := Tryz.zeroValue4
  t22 := Tryz.underlying22
  a22 := Tryz.isAgg22
  z22 := Tryz.sizeOf22
  v22 := Tryz.zeroValue22
  a23 := Tryz.isAgg5
  z23 := Tryz.sizeOf5 }

end Go.Proofs.YtbmkdbccdnbbjaaGreatDoor

namespace Go.Proofs.YtbmkdbccdnbbjaaGreatDoor
open Go.RowKit Go.Sort
set_option linter.unusedVariables false
set_option maxRecDepth 100000

def li1 (n : Nat) : UInt8 := UInt8.ofNat (96 + n % 27)
def liL : Nat → Nat → List UInt8
  | 0, _ => []
  | f + 1, n => if n = 0 then [] else liL f (n / 27) ++ [li1 n]
def unI (n : Nat) : ByteArray := ⟨(liL 8 n).toArray⟩
theorem liL_zero (f : Nat) : liL f 0 = [] := by cases f <;> simp [liL]
theorem li1_toNat (n : Nat) : (li1 n).toNat = 96 + n % 27 := by
  unfold li1
  rw [UInt8.toNat_ofNat']
  omega
theorem lt1_toNat (n : Nat) : (lt1 n).toNat = 97 + (n + 26) % 27 := by
  unfold lt1
  rw [UInt8.toNat_ofNat']
  omega
theorem li_lt {n : Nat} (h : n % 27 ≠ 0) : li1 n = lt1 n := by
  apply UInt8.toNat_inj.1
  rw [li1_toNat, lt1_toNat]
  omega
theorem li_ok : ∀ (f n : Nat), (liL f n).all nm1 = true → liL f n = ltL f n
  | 0, n, _ => rfl
  | f + 1, n, h => by
    rw [liL, ltL] at *
    by_cases hn : n = 0
    · rw [if_pos hn, if_pos hn]
    · rw [if_neg hn] at h ⊢
      rw [if_neg hn]
      rw [List.all_append, Bool.and_eq_true] at h
      have h2 : nm1 (li1 n) = true := by simpa using h.2
      simp only [nm1, Bool.and_eq_true, decide_eq_true_eq, li1_toNat] at h2
      rw [li_ok f (n / 27) h.1, li_lt (by omega)]
theorem lt_ok : ∀ (f n : Nat), (ltL f n).all nm1 = true → liL f n = ltL f n
  | 0, n, _ => rfl
  | f + 1, n, h => by
    rw [ltL] at h
    rw [liL, ltL]
    by_cases hn : n = 0
    · rw [if_pos hn, if_pos hn]
    · rw [if_neg hn] at h ⊢
      rw [if_neg hn]
      rw [List.all_append, Bool.and_eq_true] at h
      have h2 : nm1 (lt1 n) = true := by simpa using h.2
      simp only [nm1, Bool.and_eq_true, decide_eq_true_eq, lt1_toNat] at h2
      rw [lt_ok f (n / 27) h.1, li_lt (by omega)]
theorem fold_lt : ∀ (f n : Nat), n < 27 ^ f → (ltL f n).all nm1 = true → (ltL f n).foldl ch1 0 = (n : Int)
  | 0, n, h, _ => by
    have : n = 0 := by simpa using h
    subst this; rfl
  | f + 1, n, h, ha => by
    rw [ltL] at ha ⊢
    by_cases hn : n = 0
    · subst hn; simp
    · rw [if_neg hn] at ha ⊢
      rw [List.all_append, Bool.and_eq_true] at ha
      have h2 : nm1 (lt1 n) = true := by simpa using ha.2
      rw [List.foldl_append, fold_lt f (n / 27) (by rw [Nat.pow_succ] at h; omega) ha.1]
      simp only [List.foldl_cons, List.foldl_nil]
      rw [ch1_in h2, lt1_toNat]
      simp only [nm1, Bool.and_eq_true, decide_eq_true_eq, lt1_toNat] at h2
      omega
theorem unI_yes {n : Nat} (hn : n ≤ 2147483647) (h : snmB (unI n) = true) : unI n = unT (n : Int) ∧ nmN (unT (n : Int)) = (n : Int) := by
  have ha := (snm_parts h).1
  have hl : (unI n).data.toList = liL 8 n := by simp [unI]
  rw [hl] at ha
  have e := li_ok 8 n ha
  have e2 : unI n = unT (n : Int) := by rw [unI, unT, Int.toNat_natCast, e]
  refine ⟨e2, ?_⟩
  have hl2 : (unT (n : Int)).data.toList = ltL 8 n := by simp [unT]
  rw [nmN, hl2]
  exact fold_lt 8 n (by omega) (e ▸ ha)
theorem unT_yes {n : Nat} (h : snmB (unT (n : Int)) = true) : snmB (unI n) = true := by
  have ha := (snm_parts h).1
  have hl : (unT (n : Int)).data.toList = ltL 8 n := by simp [unT]
  rw [hl] at ha
  have e := lt_ok 8 n ha
  have e2 : unI n = unT (n : Int) := by rw [unI, unT, Int.toNat_natCast, e]
  rw [e2]; exact h

structure LiJ (N m : Nat) (acc : List UInt8) : Prop where
  h : ∃ f, f + acc.length ≤ 8 ∧ m < 27 ^ f ∧ liL 8 N = liL f m ++ acc.reverse
theorem LiJ.start {N : Nat} (h : N ≤ 2147483647) : LiJ N N [] := ⟨8, by decide, by omega, by simp⟩
theorem LiJ.small {N m : Nat} {s : List UInt8} (J : LiJ N m s) : m < 282429536481 ∧ s.length ≤ 8 := by
  obtain ⟨f, h1, h2, _⟩ := J.h
  exact ⟨Nat.lt_of_lt_of_le h2 (Nat.le_trans (Nat.pow_le_pow_right (by decide) (show f ≤ 8 by omega)) (by decide)), by omega⟩
theorem LiJ.step {N m : Nat} {s : List UInt8} (J : LiJ N m s) (hm : 0 < m) : LiJ N (m / 27) (s ++ [li1 m]) := by
  obtain ⟨f, h1, h2, h3⟩ := J.h
  cases f with
  | zero => simp at h2; omega
  | succ f =>
    refine ⟨f, by simp; omega, by rw [Nat.pow_succ] at h2; omega, ?_⟩
    rw [h3, liL, if_neg (by omega)]
    simp
theorem LiJ.stop {N : Nat} {s : List UInt8} (J : LiJ N 0 s) : s.reverse = liL 8 N := by
  obtain ⟨f, h1, h2, h3⟩ := J.h
  rw [liL_zero, List.nil_append] at h3
  exact h3.symm
def bI (l : List UInt8) : List Int := l.map (fun b => (b.toNat : Int))
theorem bI_str (l : List UInt8) : strOfNums (bI l) = ⟨l.toArray⟩ := by
  unfold strOfNums bI
  have : ∀ l : List UInt8, (l.map (fun b => (b.toNat : Int))).map (fun n => UInt8.ofNat n.toNat) = l := by
    intro l
    induction l with
    | nil => rfl
    | cons b l ih => rw [List.map_cons, List.map_cons, ih, Int.toNat_natCast, UInt8.ofNat_toNat]
  rw [this]
theorem infoB8 : (Tryz.prog.info? 5).map (fun i => (i.zero, i.size, i.bytes)) = some (some (.int .u8 0), 1, 1) := by kernel_rfl

theorem reverse_own (B n qa : Nat) (qo : Option Addr) (ns : List Int) (w0 w : World) (hB : w0.heap.size ≤ B) (hb : Below w0.heap.size w0 w) (h : OwnR w B 5 1 (.slice qo n qa) n (byteV ns)) (hn : n ≤ 1000) :
    Calls Tryz.prog 157 #[.slice qo n qa] w fun e w' => e = .returned (.tuple #[]) ∧ (convert 22 9 (.slice qo n qa)).run Tryz.prog w' = .ok (.string (strOfNums ns.reverse)) w' ∧ Below w0.heap.size w0 w' := by
  rcases h with ⟨rfl, hx, ao, hv⟩ | ⟨h0, h⟩
  · simp only [Value.slice.injEq, true_and] at hv
    obtain ⟨rfl, rfl⟩ := hv
    have hns : ns = [] := by simpa [byteV] using hx
    subst hns
    refine (AnyE.slices_Reverse_empty lay_revB qo 0 w).mono ?_
    rintro e w' ⟨rfl, rfl⟩
    exact ⟨rfl, convert_own Tryz.underlying22 Tryz.underlying5 Tryz.underlying9 (B := B) (t := 5) (ns := []) (.inl ⟨rfl, rfl, qo, rfl⟩), hb⟩
  · have hr := h
    rcases h with ⟨hlen0, ⟨hv, h00⟩ | ⟨g, cap, cur, hv, hBg, hblk, hnc, hcm, hcs, ht⟩⟩
    · omega
    simp only [Value.slice.injEq, true_and] at hv
    obtain ⟨rfl, rfl⟩ := hv
    have hlen : ns.length = n := by rw [byteV_length] at hlen0; omega
    subst hlen
    have hcell : ∀ i (hi : i < ns.length), w.cell? ⟨g, i, none⟩ = some (.int .u8 ns[i]) := fun i hi => by
      have := hr.cellAt i (by omega)
      rw [this]
      simp [byteV, hi]
    have hH : Holds (Value.int .u8) w g 0 ns.toArray := fun j hj => by
      have hj' : j < ns.length := by simpa using hj
      refine ⟨?_, Joins.unfrozen_of_block hblk _⟩
      rw [Nat.zero_add, hcell j hj']
      simp [hj']
    refine (AnyE.slices_Reverse lay_revB (Value.int .u8) (fun _ => rfl) g 0 qa ns w hH (by omega)).mono ?_
    rintro e w' ⟨rfl, k, rfl⟩
    have hH2 : Holds (Value.int .u8) (putRow (Value.int .u8) (Sort.ahead w k) g 0 ns.reverse.toArray) g 0 ns.reverse.toArray := holds_putRow _ _ _ _ ns.toArray _ hH (by simp)
    refine ⟨rfl, ?_, ⟨hb.os, hb.tape, hb.output, by rw [size_putRow]; exact hb.size, fun q hq => ?_⟩⟩
    · refine run_convert_bytes_arg _ 22 5 Tryz.underlying22 Tryz.underlying5 g 0 ns.length qa ns.reverse (by simp) (fun i hi => ?_) 9 Tryz.underlying9
      have := (hH2 i (by simpa using hi)).1
      rw [this]
      simp [hi, List.getD]
    · have hqg : q ≠ g := by have := Nat.lt_of_lt_of_le hq hB; omega
      have : (putRow (Value.int .u8) (Sort.ahead w k) g 0 ns.reverse.toArray).heap[q]? = w.heap[q]? := by
        simp [putRow, mapBlock, Array.getElem?_modify, Ne.symm hqg, Sort.ahead]
      rw [this]
      exact hb.block q hq

def Pan (e : Ending) : Prop := ∃ u pv, e = .panicked [{ v := .iface u pv, recovered := false }]

set_option maxHeartbeats 3200000 in
theorem readName_any (N : Nat) (w : World) (hz : N ≤ 2147483647) (hE : ErrW w) :
    Calls Tryz.prog 103 #[.int .i64 N] w fun e w' => ((snmB (unI N) = true ∧ e = .returned (.string (unI N))) ∨ (snmB (unI N) = false ∧ Pan e)) ∧ Below w.heap.size w w' := by
  have HJ0 := hide (LiJ.start hz)
  have HU0 : Hid (OwnR w w.heap.size 5 1 (.slice none 0 0) 0 (byteV (bI []))) := hide (.inl ⟨rfl, rfl, none, rfl⟩)
  have HE := hide hE
  clear hz hE
  obtain ⟨j0, hj, hy0, hy1, hy2⟩ := info_parts infoB8
  go_enter Tryz.func103, Tryz.ntmps103
  go_wp2
  go_loopw [0, 3] (fun n o wr => ∃ (m k : Nat) (acc : List UInt8) (qo : Option Addr) (qa : Nat), n = .int .i64 m ∧ o = .slice qo k qa ∧ k ≤ 8 ∧ Hid (acc.length = k) ∧ Hid (LiJ N m acc) ∧ Hid (OwnR wr w.heap.size 5 1 (.slice qo k qa) k (byteV (bI acc))) ∧ Hid (Below w.heap.size w wr)) (fun n _ _ => (intOf n).toNat)
  case atStart => exact ⟨N, 0, [], none, 0, rfl, rfl, by omega, hide rfl, HJ0, HU0, hide (Below.refl _ _)⟩
  case round =>
    clear HJ0 HU0
    obtain ⟨m, k, acc, qo, qa, rfl, rfl, hk8, HK, HJ, HU, HB⟩ := hrel
    obtain ⟨b1, b2⟩ := (unhide HJ).small
    by_cases hlt : 0 < m
    · have hlti : (0 : Int) < (m : Int) := by omega
      have HJ2 := hide ((unhide HJ).step hlt)
      obtain ⟨_, b3⟩ := (unhide HJ2).small
      have hk7 : k + 1 ≤ 8 := by have := unhide HK; simp at b3; omega
      have HK2 : Hid ((acc ++ [li1 m]).length = k + 1) := hide (by simp; exact unhide HK)
      have HST : Hid (byteV (bI (acc ++ [li1 m])) = byteV (bI acc) ++ [.int .u8 (96 + (m : Int) % 27)]) := hide (by simp [byteV, bI, li1_toNat])
      have h1 := Int.emod_nonneg (m : Int) (show (27 : Int) ≠ 0 by decide)
      have h2 := Int.emod_lt_of_pos (m : Int) (show (0 : Int) < 27 by decide)
      clear b2 b3
      have w1 : IntKind.i64.wrap (96 + (m : Int) % 27) = 96 + (m : Int) % 27 := by rw [IntKind.wrap_i64]; omega
      have w2 : IntKind.u8.wrap (96 + (m : Int) % 27) = 96 + (m : Int) % 27 := by simp [IntKind.wrap, IntKind.bits, IntKind.signed]; omega
      have HOA := hide ((unhide HU).below (Joins.below_alloc1 _ (.cells #[.int .u8 (96 + (m : Int) % 27)] 5)))
      have HBA := hide (fr (unhide HB) (Joins.below_alloc1 _ (.cells #[.int .u8 (96 + (m : Int) % 27)] 5)))
      have HSZ := hide (unhide HB).size
      go_wp2_with (at_builtin; refine wpList_append_one rfl _ _ 22 rfl w.heap.size 5 j0 (.int .u8 0) 1 1 Tryz.underlying22 hj hy0 hy1 hy2 rfl (by omega) qo k qa (byteV (bI acc)) rfl (unhide HOA) (by have := unhide HSZ; simp; omega) ⟨wr.heap.size, 0, none⟩ _ [.int .u8 (96 + (m : Int) % 27)] rfl rfl (byte_news wr _ _) (byte_one _) (by unfold maxLen; omega) (by omega) ?_; intro g2 cap2 wA hoA hkA; have HSF := hide (And.intro hoA (keep_below (unhide HBA) (unhide HOA) (Nat.le_refl _) hkA)); clear hoA hkA)
      go_roundw
      case rel => exact ⟨m / 27, k + 1, acc ++ [li1 m], some ⟨g2, 0, none⟩, cap2, by go_num, rfl, by omega, HK2, HJ2, hide (.inr ⟨by omega, by rw [unhide HST]; exact (unhide HSF).1⟩), hide (unhide HSF).2⟩
      case measure => simp [intOf]; omega
    · obtain rfl : m = 0 := by omega
      have HRV : Hid (strOfNums (bI acc).reverse = unI N) := hide (by
        have e : (bI acc).reverse = bI acc.reverse := by simp [bI]
        rw [e, bI_str, (unhide HJ).stop]; rfl)
      go_wp2_with fail
      refine (reverse_own w.heap.size k qa qo (bI acc) w wr (Nat.le_refl _) (unhide HB) (unhide HU) (by omega)).mono ?_
      rintro e w2 ⟨rfl, hcv, hb⟩
      rw [unhide HRV] at hcv
      have HB2 := hide hb
      have HZ : Hid ((unI N).size ≤ maxLen) := hide (by
        have : (unI N).size = acc.length := by rw [← unhide HRV, strOfNums_size]; simp [bI]
        rw [this, unhide HK]; unfold maxLen; omega)
      clear hb HRV HK HJ HU HB
      go_wp2_with fail
      refine (snapNameOK_any (unI N) _ (unhide HZ)).mono ?_
      rintro e w3 ⟨rfl, hb⟩
      have HB3 := hide (fr (unhide HB2) hb)
      clear hb hcv
      cases hs : snmB (unI N)
      · have HSS := hide hs
        clear hs
        go_wp2_with (go_at_call 101; refine (demand_false _ ((unhide HE).below (unhide HB3))).mono ?_; rintro e w' ⟨⟨u, pv, rfl⟩, hw⟩; replace hw := hw.symm; subst hw)
        exact ⟨rfl, .inr ⟨unhide HSS, _, _, rfl⟩, unhide HB3⟩
      · have HSS := hide hs
        clear hs
        go_wp2_with (go_at_call 101; refine (demand_true _).mono ?_; rintro e w' ⟨rfl, hw⟩; replace hw := hw.symm; subst hw)
        go_ret
        exact ⟨.inl ⟨unhide HSS, rfl⟩, unhide HB3⟩

end Go.Proofs.YtbmkdbccdnbbjaaGreatDoor

namespace Go.Proofs.YtbmkdbccdnbbjaaGreatDoor
open Go.RowKit
set_option linter.unusedVariables false
set_option maxRecDepth 100000

theorem open_in {s : ByteArray} {k : Int} : openB s k = true ↔ RecP s ∧ byteAt s 0 = k := by
  simp only [openB, Bool.and_eq_true, decide_eq_true_eq]
  exact and_congr_left' recB_iff
theorem readKind_any (s : ByteArray) (k : Int) (w : World) (hs : s.size ≤ 65536) (hE : ErrW w) :
    Calls Tryz.prog 102 #[.string s, .int .i64 k] w fun e w' => ((openB s k = true ∧ ∃ v, e = .returned v ∧ OwnN w' w.heap.size v (openL s k)) ∨ (openB s k = false ∧ Pan e)) ∧ Below w.heap.size w w' := by
  cases ho : openB s k
  · refine (readKind_no s k w hs (fun h => by rw [open_in.2 h] at ho; cases ho) hE).mono ?_
    rintro e w' ⟨h, hb⟩
    exact ⟨.inr ⟨rfl, h⟩, hb⟩
  · have h := open_in.1 ho
    refine (readKind_yes s k w hs h.1 h.2).mono ?_
    rintro e w' ⟨v, he, hv, hb⟩
    rw [← openL_yes ho] at hv
    exact ⟨.inl ⟨rfl, v, he, hv⟩, hb⟩
theorem readTable_any (s : ByteArray) (w : World) (hs : s.size ≤ 65536) (hE : ErrW w) :
    Calls Tryz.prog 99 #[.string s] w fun e w' => ((tdB s = true ∧ ∃ v, e = .returned v ∧ OwnN w' w.heap.size v (openL s 3)) ∨ (tdB s = false ∧ Pan e)) ∧ Below w.heap.size w w' := by
  cases ho : tdB s
  · refine (readTable_no s w hs ho hE).mono ?_
    rintro e w' ⟨h, hb⟩
    exact ⟨.inr ⟨rfl, h⟩, hb⟩
  · refine (readTable_yes s w hs ho).mono ?_
    rintro e w' ⟨v, he, hv, hb⟩
    exact ⟨.inl ⟨rfl, v, he, hv⟩, hb⟩

theorem cut_one {w : World} {B qa : Nat} {qo : Option Addr} {xs : List Int} (h : OwnR w B 3 1 (.slice qo xs.length qa) xs.length (intV xs)) (h1 : 1 ≤ xs.length) :
    ∃ qo', (∀ W : World, (Instr.sliceAt 23 (.slice qo xs.length qa) (some (.int .i64 1)) none none).run Tryz.prog W = .ok (.slice qo' (xs.length - 1) (qa - 1)) W) ∧ Is w qo' (xs.drop 1) := by
  have hI := ownRN h
  obtain ⟨b, off, e, _⟩ := hI 0 (by omega)
  subst e
  have hu : Tryz.prog.underlying 23 = some (.slice (Tryz.prog.elem 23)) := by kernel_rfl
  have hc : xs.length ≤ qa := by
    rcases h with ⟨h0, _⟩ | ⟨h0, h⟩
    · omega
    · rcases h.2 with ⟨_, h1⟩ | ⟨g, cap', cur, e, _, _, hc, _⟩
      · omega
      · simp only [Value.slice.injEq, true_and] at e
        omega
  refine ⟨if qa = 1 then some ⟨b, off, none⟩ else some ⟨b, off + 1, none⟩, fun W => ?_, ?_⟩
  · have hz : (Go.sizeOf (Tryz.prog.elem 23)).run Tryz.prog W = .ok 1 W := by kernel_rfl
    rw [run_sliceAt_slice _ _ _ _ _ _ hu, run_slice_l _ _ _ _ _ hu .i64 1 (by omega) (by omega), hz]
    simp only [Result.andThen, sliced]
    by_cases hq : qa = 1
    · simp [hq]
    · simp [hq, Addr.add]
  · intro i hi
    rw [List.length_drop] at hi
    have hq : qa ≠ 1 := by omega
    obtain ⟨b', off', e, hcl⟩ := hI (1 + i) (by omega)
    cases e
    refine ⟨b, off + 1, if_neg hq, ?_⟩
    rw [show off + 1 + i = off + (1 + i) by omega, hcl, List.getElem_drop]

theorem noSs_own2 {w : World} {B e cap : Nat} {ao : Option Addr} {ss : List ByteArray} (h : OwnR w B e 1 (.slice ao ss.length cap) ss.length (strV ss)) (hz : ∀ s ∈ ss, s.size ≤ maxLen) : Ss w ao ss := by
  rcases h with ⟨h0, _⟩ | ⟨_, h⟩
  · intro i hi; omega
  · exact ownS h hz
def nmsL (s : ByteArray) : List ByteArray := ((openL s 1).drop 1).map (fun x => unI x.toNat)
def nmsH (s : ByteArray) : Bool := decide (0 < (openL s 1).length) && (decide ((openL s 1).getD 0 0 ≤ 3) && decide ((openL s 1).getD 0 0 = (openL s 1).length - 1))
def nmsB (s : ByteArray) : Bool := openB s 1 && (nmsH s && (nmsL s).all snmB)
theorem nms_no {s : ByteArray} (h : openB s 1 = false) : nmsB s = false := by rw [nmsB, h]; rfl
theorem nms_head {s : ByteArray} (h : nmsH s = false) : nmsB s = false := by rw [nmsB, h]; simp
theorem nms_bad {s : ByteArray} {k : Nat} (hk : k < (nmsL s).length) (h : snmB (nmsL s)[k] = false) : nmsB s = false := by rw [nmsB, all_not (p := snmB) hk h]; simp
theorem nms_yes {s : ByteArray} (h1 : openB s 1 = true) (h2 : nmsH s = true) (h3 : ∀ j (hj : j < (nmsL s).length), snmB (nmsL s)[j] = true) : nmsB s = true := by rw [nmsB, h1, h2, all_of (p := snmB) (fun i hi _ => h3 i hi)]; rfl

set_option maxHeartbeats 3200000 in
theorem readNames_any (s : ByteArray) (w : World) (hs : s.size ≤ 65536) (hE : ErrW w) :
    Calls Tryz.prog 41 #[.string s] w fun e w' => ((nmsB s = true ∧ ∃ qo qa, e = .returned (.slice qo (nmsL s).length qa) ∧ Ss w' qo (nmsL s)) ∨ (nmsB s = false ∧ Pan e)) ∧ Below w.heap.size w w' := by
  have HE := hide hE
  clear hE
  obtain ⟨j0, hj, hy0, hy1, hy2⟩ := info_parts infoS
  go_enter Tryz.func41, Tryz.ntmps41
  go_wp2_with fail
  refine (readKind_any s 1 _ hs (unhide HE)).mono ?_
  rintro e w1 ⟨⟨ho, v, rfl, qo, qa, rfl, hv⟩ | ⟨ho, u, pv, rfl⟩, hb⟩
  case inr =>
    have HF := hide (nms_no ho)
    have HB := hide hb
    clear hb ho
    go_wp2
    exact ⟨rfl, .inr ⟨unhide HF, _, _, rfl⟩, unhide HB⟩
  have HO := hide ho
  have HIN : Hid (∀ j (hj : j < (openL s 1).length), 0 ≤ (openL s 1)[j] ∧ (openL s 1)[j] ≤ 2147483647) := hide (openL_in ho)
  have HV := hide hv
  have HB := hide hb
  have HLEN : Hid ((openL s 1).length ≤ 16384) := hide (by
    have h1 := unL_length (bodyT s)
    have h2 := bodyT_size s
    rw [openL_yes ho, h1]; omega)
  have HE1 := hide ((unhide HE).below hb)
  clear hv hb ho HE
  obtain ⟨L, HLQ⟩ : ∃ L, Hid (openL s 1 = L) := ⟨_, hide rfl⟩
  rw [unhide HLQ] at HIN HV HLEN ⊢
  have hl16 := unhide HLEN
  have HIS := hide (ownRN (unhide HV))
  by_cases h0 : 0 < L.length
  case neg =>
    have HF : Hid (nmsB s = false) := hide (nms_head (by rw [nmsH, unhide HLQ, decide_eq_false h0]; rfl))
    have hl0 : L.length = 0 := by omega
    have hz : (L.length : Int) = 0 := by omega
    rw [hl0]
    go_wp2_with (go_at_call 101; refine (demand_false _ (unhide HE1)).mono ?_; rintro e w' ⟨⟨u, pv, rfl⟩, hw⟩; replace hw := hw.symm; subst hw)
    exact ⟨rfl, .inr ⟨unhide HF, _, _, rfl⟩, unhide HB⟩
  have h0i : (0 : Int) < (L.length : Int) := by omega
  obtain ⟨b, off, rfl, hc0⟩ := unhide HIS 0 h0
  rw [Nat.add_zero] at hc0
  have HG0 : Hid (L.getD 0 0 = L[0]) := hide (by simp [List.getD, h0])
  have hr0 := unhide HIN 0 h0
  by_cases h3 : L[0] ≤ 3
  case neg =>
    have HF : Hid (nmsB s = false) := hide (nms_head (by rw [nmsH, unhide HLQ, unhide HG0, decide_eq_false h3]; simp))
    generalize L[0] = X at *
    go_wp2_with (go_at_call 101; refine (demand_false _ (unhide HE1)).mono ?_; rintro e w' ⟨⟨u, pv, rfl⟩, hw⟩; replace hw := hw.symm; subst hw)
    exact ⟨rfl, .inr ⟨unhide HF, _, _, rfl⟩, unhide HB⟩
  have w1' : IntKind.i64.wrap ((L.length : Int) - 1) = (L.length : Int) - 1 := by rw [IntKind.wrap_i64]; omega
  by_cases he : L[0] = (L.length : Int) - 1
  case neg =>
    have HF : Hid (nmsB s = false) := hide (nms_head (by rw [nmsH, unhide HLQ, unhide HG0, decide_eq_false he]; simp))
    have heb : (L[0] == (L.length : Int) - 1) = false := by simp [he]
    generalize L[0] = X at *
    clear he
    go_wp2_with (go_at_call 101; refine (demand_false _ (unhide HE1)).mono ?_; rintro e w' ⟨⟨u, pv, rfl⟩, hw⟩; replace hw := hw.symm; subst hw)
    exact ⟨rfl, .inr ⟨unhide HF, _, _, rfl⟩, unhide HB⟩
  have HH : Hid (nmsH s = true) := hide (by rw [nmsH, unhide HLQ, unhide HG0, decide_eq_true h0, decide_eq_true h3, decide_eq_true he]; rfl)
  have heb : (L[0] == (L.length : Int) - 1) = true := by simp [he]
  have hl4 : L.length ≤ 4 := by omega
  obtain ⟨qo', hsl, hcut⟩ := cut_one (unhide HV) (by omega)
  have HCUT := hide hcut
  have HNM : Hid (nmsL s = (L.drop 1).map (fun x => unI x.toNat)) := hide (by rw [nmsL, unhide HLQ])
  have HLD : Hid ((L.drop 1).length = L.length - 1) := hide (by simp)
  have HID : Hid (∀ j (hj : j < (L.drop 1).length), 0 ≤ (L.drop 1)[j] ∧ (L.drop 1)[j] ≤ 2147483647) := hide (fun j hj => by rw [List.getElem_drop]; exact unhide HIN _ _)
  have HU0 : Hid (OwnR w1 w1.heap.size 9 1 (.slice none 0 0) 0 (strV (((L.drop 1).map (fun x => unI x.toNat)).take 0))) := hide (.inl ⟨rfl, by simp [strV], none, rfl⟩)
  clear hcut HG0 HIS hr0
  have hd1 : ((L.length - 1 : Nat) : Int) = (L.length : Int) - 1 := by omega
  have HLN : Hid (L.length - 1 ≤ 3) := hide (by omega)
  generalize L[0] = X at *
  generalize hDD : L.drop 1 = DD at *
  generalize hNN : L.length - 1 = NN at *
  clear he hDD
  go_wp2_with (go_at_call 101; refine (demand_true _).mono ?_; rintro e w' ⟨rfl, hw⟩; replace hw := hw.symm; subst hw)
  go_loopw [4, 31] (fun o i wr => ∃ (k : Nat) (ro : Option Addr) (ra : Nat), k ≤ NN ∧ i = .int .i64 k ∧ o = .slice ro k ra ∧ Hid (∀ j (hj : j < DD.length), j < k → snmB (unI DD[j].toNat) = true) ∧ Hid (OwnR wr w1.heap.size 9 1 (.slice ro k ra) k (strV ((DD.map (fun x => unI x.toNat)).take k))) ∧ Hid (Below w1.heap.size w1 wr)) (fun _ i _ => NN - (intOf i).toNat)
  case atStart => exact ⟨0, none, 0, Nat.zero_le _, rfl, rfl, hide (fun j _ h => by omega), HU0, hide (Below.refl _ _)⟩
  case round =>
    clear HU0
    obtain ⟨k, ro, ra, hk, rfl, rfl, HA, HU, HB2⟩ := hrel
    have hnn3 := unhide HLN
    by_cases hlt : k < NN
    · have hkd : k < DD.length := by rw [unhide HLD]; exact hlt
      have hlti : (k : Int) < (NN : Int) := by omega
      obtain ⟨b', off', rfl, hck⟩ := ((unhide HCUT).below (unhide HB2)) k hkd
      obtain ⟨x0, x1⟩ := unhide HID k hkd
      obtain ⟨N, hN⟩ := Int.eq_ofNat_of_zero_le x0
      have HNQ : Hid (unI DD[k].toNat = unI N) := hide (by rw [hN]; rfl)
      rw [hN] at hck
      have hN2 : N ≤ 2147483647 := by omega
      have hNM : k < (nmsL s).length := by rw [unhide HNM, List.length_map]; exact hkd
      have HAT : Hid ((nmsL s)[k] = unI N) := hide (by
        have : (nmsL s)[k]? = some (unI N) := by rw [unhide HNM, List.getElem?_map, List.getElem?_eq_getElem hkd, Option.map_some, unhide HNQ]
        rw [List.getElem?_eq_getElem hNM] at this
        exact Option.some.inj this)
      have HBAD : Hid (snmB (unI N) = false → nmsB s = false) := hide (fun h => nms_bad hNM (by rw [unhide HAT]; exact h))
      have HST : Hid (strV ((DD.map (fun x => unI x.toNat)).take (k + 1)) = strV ((DD.map (fun x => unI x.toNat)).take k) ++ [.string (unI N)]) := hide (by
        rw [List.take_succ_eq_append_getElem (by simpa using hkd)]
        simp only [strV, List.map_append, List.getElem_map, unhide HNQ]; rfl)
      clear hN x0 x1 hNM HAT
      go_wp2_with fail
      refine (readName_any N _ hN2 ((unhide HE1).below (unhide HB2))).mono ?_
      rintro e w3 ⟨⟨hs3, rfl⟩ | ⟨hs3, u, pv, rfl⟩, hb3⟩
      case inr =>
        have HF := hide (unhide HBAD hs3)
        have HB3 := hide (fr (unhide HB) (fr (unhide HB2) hb3))
        clear hb3 hs3
        go_wp2
        exact ⟨rfl, .inr ⟨unhide HF, _, _, rfl⟩, unhide HB3⟩
      have HA2 : Hid (∀ j (hj : j < DD.length), j < k + 1 → snmB (unI DD[j].toNat) = true) := hide (fun j hj h => by
        by_cases e : j = k
        · subst e; rw [unhide HNQ]; exact hs3
        · exact unhide HA j hj (by omega))
      have HU3 := hide ((unhide HU).below hb3)
      have HB3 := hide (fr (unhide HB2) hb3)
      clear hb3 hs3 hck HA HU HB2 HBAD
      have HOA := hide ((unhide HU3).below (Joins.below_alloc1 _ (.cells #[.string (unI N)] 9)))
      have HBA := hide (fr (unhide HB3) (Joins.below_alloc1 _ (.cells #[.string (unI N)] 9)))
      have HSZ := hide (unhide HB3).size
      go_wp2_with (at_builtin; refine wpList_append_one rfl _ _ 31 rfl w1.heap.size 9 j0 (.string ⟨#[]⟩) 1 16 Tryz.underlying31 hj hy0 hy1 hy2 rfl (by omega) ro k ra (strV ((DD.map (fun x => unI x.toNat)).take k)) rfl (unhide HOA) (by have := unhide HSZ; simp; omega) ⟨w3.heap.size, 0, none⟩ _ [.string (unI N)] rfl rfl (byte_news w3 _ _) (str_one _) (by unfold maxLen; omega) (by omega) ?_; intro g2 cap2 wA hoA hkA; have HSF := hide (And.intro hoA (keep_below (unhide HBA) (unhide HOA) (Nat.le_refl _) hkA)); clear hoA hkA)
      go_roundw
      case rel => exact ⟨k + 1, some ⟨g2, 0, none⟩, cap2, by omega, by go_num, rfl, HA2, hide (.inr ⟨by omega, by rw [unhide HST]; exact (unhide HSF).1⟩), hide (unhide HSF).2⟩
      case measure => simp [intOf]; omega
    · have hke : k = NN := by omega
      have HNL : Hid ((nmsL s).length = k) := hide (by rw [unhide HNM, List.length_map, unhide HLD, hke])
      have HAL : Hid (∀ j (hj : j < (nmsL s).length), snmB (nmsL s)[j] = true) := hide (fun j hj => by
        have hjd : j < DD.length := by rw [unhide HNM, List.length_map] at hj; exact hj
        have : (nmsL s)[j]? = some (unI DD[j].toNat) := by rw [unhide HNM, List.getElem?_map, List.getElem?_eq_getElem hjd, Option.map_some]
        rw [List.getElem?_eq_getElem hj] at this
        rw [Option.some.inj this]
        exact unhide HA j hjd (by rw [unhide HLD] at hjd; omega))
      have HSS : Hid (Ss wr ro (nmsL s)) := hide (by
        have h := unhide HU
        rw [List.take_of_length_le (by rw [List.length_map, unhide HLD, hke]; exact Nat.le_refl _), ← unhide HNM, ← unhide HNL] at h
        refine noSs_own2 h (fun x hx => ?_)
        obtain ⟨q, hq, rfl⟩ := List.mem_iff_getElem.1 hx
        have := (snm_parts (unhide HAL q hq)).2.2
        unfold maxLen; omega)
      have HF := hide (nms_yes (unhide HO) (unhide HH) (unhide HAL))
      have HBE := hide (fr (unhide HB) (unhide HB2))
      clear hke
      go_wp2
      go_ret
      exact ⟨.inl ⟨unhide HF, ro, ra, by rw [unhide HNL]; rfl, unhide HSS⟩, unhide HBE⟩

def vlB (s : ByteArray) : Bool := openB s 4 && decide ((openL s 4).length = 1)
set_option maxHeartbeats 1600000 in
theorem readValue_any (s : ByteArray) (w : World) (hs : s.size ≤ 65536) (hE : ErrW w) :
    Calls Tryz.prog 100 #[.string s] w fun e w' => ((vlB s = true ∧ e = .returned (.int .i64 ((openL s 4).getD 0 0))) ∨ (vlB s = false ∧ Pan e)) ∧ Below w.heap.size w w' := by
  have HE := hide hE
  clear hE
  go_enter Tryz.func100, Tryz.ntmps100
  go_wp2_with fail
  refine (readKind_any s 4 _ hs (unhide HE)).mono ?_
  rintro e w1 ⟨⟨ho, v, rfl, qo, qa, rfl, hv⟩ | ⟨ho, u, pv, rfl⟩, hb⟩
  case inr =>
    have HF : Hid (vlB s = false) := hide (by rw [vlB, ho]; rfl)
    have HB := hide hb
    clear hb ho
    go_wp2
    exact ⟨rfl, .inr ⟨unhide HF, _, _, rfl⟩, unhide HB⟩
  have HV := hide (ownRN hv)
  have HB := hide hb
  have HE1 := hide ((unhide HE).below hb)
  have HO := hide ho
  have HLEN : Hid ((openL s 4).length ≤ 16384) := hide (by
    have h1 := unL_length (bodyT s)
    have h2 := bodyT_size s
    rw [openL_yes ho, h1]; omega)
  clear hv hb ho HE
  have hl16 := unhide HLEN
  by_cases h1 : (openL s 4).length = 1
  case neg =>
    have HF : Hid (vlB s = false) := hide (by rw [vlB, decide_eq_false h1]; simp)
    have heb : (((openL s 4).length : Int) == 1) = false := by simp; omega
    clear h1
    generalize openL s 4 = L at *
    go_wp2_with (go_at_call 101; refine (demand_false _ (unhide HE1)).mono ?_; rintro e w' ⟨⟨u, pv, rfl⟩, hw⟩; replace hw := hw.symm; subst hw)
    exact ⟨rfl, .inr ⟨unhide HF, _, _, rfl⟩, unhide HB⟩
  have HF : Hid (vlB s = true) := hide (by rw [vlB, unhide HO, decide_eq_true h1]; rfl)
  obtain ⟨b, off, rfl, hc0⟩ := unhide HV 0 (by omega)
  rw [Nat.add_zero] at hc0
  have HG : Hid ((openL s 4).getD 0 0 = (openL s 4)[0]) := hide (by simp [List.getD, h1])
  rw [h1]
  generalize (openL s 4)[0] = X at *
  clear h1
  go_wp2_with (go_at_call 101; refine (demand_true _).mono ?_; rintro e w' ⟨rfl, hw⟩; replace hw := hw.symm; subst hw)
  go_ret
  exact ⟨.inl ⟨unhide HF, by rw [unhide HG]; rfl⟩, unhide HB⟩

end Go.Proofs.YtbmkdbccdnbbjaaGreatDoor

namespace Go.Proofs.YtbmkdbccdnbbjaaGreatDoor
open Go.RowKit
set_option linter.unusedVariables false
set_option maxRecDepth 100000

end Go.Proofs.YtbmkdbccdnbbjaaGreatDoor

namespace Go.Proofs.YtbmkdbccdnbbjaaGreatDoor
open Go.RowKit
set_option linter.unusedVariables false
set_option maxRecDepth 100000

theorem and15 {V : Int} (h0 : 0 ≤ V) (h1 : V ≤ 2147483647) : bits .and .i64 V 15 = V % 16 := by
  obtain ⟨n, rfl⟩ := Int.eq_ofNat_of_zero_le h0
  have h := (bits_nat .i64 63 (by decide) (fun n a b => wraps_i64 n a b) n 15 (by omega) (by omega)).1
  have e2 : (15 : Int) = ((15 : Nat) : Int) := rfl
  rw [e2, h, show (15 : Nat) = 2 ^ 4 - 1 from rfl, Nat.and_two_pow_sub_one_eq_mod]
  omega
theorem open_yes2 {s : ByteArray} (h : openB s 2 = true) : RecP s ∧ byteAt s 0 = 2 := by
  simp only [openB, Bool.and_eq_true, decide_eq_true_eq] at h
  exact ⟨recB_iff.1 h.1, h.2⟩
theorem open_no2 {s : ByteArray} (h : openB s 2 = false) : ¬ (RecP s ∧ byteAt s 0 = 2) := by
  rintro ⟨a, b⟩
  rw [openB_yes a b] at h
  cases h

theorem keep_cell1 {w w' : World} {S : Nat → Prop} {b off : Nat} {v : Value} (hk : Keep S w w') (hb : ¬ S b) (h : w.cell? ⟨b, off, none⟩ = some v) : w'.cell? ⟨b, off, none⟩ = some v := by
  have hl := World.block_lt_of_cell? _ _ h
  rw [← h]
  unfold World.cell?
  simp only [hk.block b hl hb]
theorem errW_keep {w w' : World} {S : Nat → Prop} (h : ErrW w) (hk : Keep S w w') (hs : ∀ k, S k → 1 ≠ k) : ErrW w' := by
  obtain ⟨u, pv, hc⟩ := h
  exact ⟨u, pv, keep_cell1 hk (fun hS => hs _ hS rfl) hc⟩
theorem errW_pos {w : World} (h : ErrW w) : 1 < w.heap.size := by
  obtain ⟨u, pv, hc⟩ := h
  exact World.block_lt_of_cell? _ _ hc
def RdC (s : ByteArray) (e : Ending) : Prop := (cdB s = true ∧ e = .returned (ctV (cdL s))) ∨ (cdB s = false ∧ ∃ u pv, e = .panicked [{ v := .iface u pv, recovered := false }])

set_option maxHeartbeats 3200000 in
theorem readCounts_any (s : ByteArray) (w : World) (hs : s.size ≤ 65536) (hE : ErrW w) :
    Calls Tryz.prog 97 #[.string s] w fun e w' => RdC s e ∧ Below w.heap.size w w' := by
  have HN := hide (arr_new w)
  have HA := hide (Joins.below_alloc1 w (.cells #[.int .i64 0, .int .i64 0, .int .i64 0, .int .i64 0, .int .i64 0, .int .i64 0, .int .i64 0, .int .i64 0, .int .i64 0, .int .i64 0, .int .i64 0, .int .i64 0, .int .i64 0, .int .i64 0, .int .i64 0, .int .i64 0, .int .i64 0, .int .i64 0, .int .i64 0, .int .i64 0, .int .i64 0, .int .i64 0, .int .i64 0, .int .i64 0] 114))
  have HE := hide (hE.below (unhide HA))
  have HPS := hide (errW_pos hE)
  clear hE
  go_enter Tryz.func97, Tryz.ntmps97
  go_upto_region 1 with fail
  revert HN HA HE
  generalize (w.alloc _) = W0
  intro HN HA HE
  cases hop : openB s 2
  · have HNO := hide (open_no2 hop)
    have HF := hide (cd_open hop)
    clear hop
    go_wp2_with fail
    refine (readKind_no s 2 _ hs (unhide HNO) (unhide HE)).mono ?_
    rintro e w1 ⟨⟨u, pv, rfl⟩, hb⟩
    have HB := hide (fr (unhide HA) hb)
    clear hb
    go_wp2
    exact ⟨rfl, .inr ⟨unhide HF, _, _, rfl⟩, unhide HB⟩
  have HYE := hide (open_yes2 hop)
  have HLE := hide (openL_yes hop)
  have HIN := hide (openL_in hop)
  have HNUM : Hid (∀ k (hk : k < (openL s 2).length), cdN (openL s 2)[k] = false → cdB s = false) := hide (fun k hk h => cd_num hk h)
  have HYES : Hid ((openL s 2).length = 4 → (∀ j (hj : j < (openL s 2).length), cdN (openL s 2)[j] = true) → cdB s = true) := hide (fun h4 h => cd_yes hop h4 h)
  have HCL : Hid (cdL s = sxA (openL s 2) 4) := hide rfl
  have HLEN : Hid (¬ (openL s 2).length = 4 → cdB s = false) := hide cd_len
  clear hop
  go_wp2_with fail
  refine (readKind_yes s 2 _ hs (unhide HYE).1 (unhide HYE).2).mono ?_
  rintro e w1 ⟨v, rfl, ⟨qo, qa, rfl, ho⟩, hb⟩
  rw [← unhide HLE] at ho ⊢
  have HI := hide (ownRN ho)
  have HB := hide (fr (unhide HA) hb)
  have HN1 := hide (block_of_below (unhide HN) hb)
  have HE1 := hide ((unhide HE).below hb)
  clear ho hb HA HN HE HLE HYE
  generalize openL s 2 = ns at *
  by_cases h4 : ns.length = 4
  · have H4 := hide h4
    have b4 : (((ns.length : Nat) : Int) == 4) = true := by simp [h4]
    clear h4 HLEN
    have HNN := hide (arr_new w1)
    have HAA := hide (Joins.below_alloc1 w1 (.cells #[.int .i64 0, .int .i64 0, .int .i64 0, .int .i64 0, .int .i64 0, .int .i64 0, .int .i64 0, .int .i64 0, .int .i64 0, .int .i64 0, .int .i64 0, .int .i64 0, .int .i64 0, .int .i64 0, .int .i64 0, .int .i64 0, .int .i64 0, .int .i64 0, .int .i64 0, .int .i64 0, .int .i64 0, .int .i64 0, .int .i64 0, .int .i64 0] 114))
    have HSZ : Hid (w.heap.size < w1.heap.size) := hide (Array.getElem?_eq_some_iff.1 (unhide HN1)).1
    go_upto_region 4 with (go_at_call 101; refine (demand_true _).mono ?_; rintro e w' ⟨rfl, hw⟩; replace hw := hw.symm; subst hw)
    have HI2 := hide ((unhide HI).below (unhide HAA))
    have HB2 := hide (fr (unhide HB) (unhide HAA))
    have HN2 := hide (block_of_below (unhide HN1) (unhide HAA))
    have HE2 := hide ((unhide HE1).below (unhide HAA))
    have HLTS : Hid (∀ b off, qo = some ⟨b, off, none⟩ → b < w1.heap.size) := hide (fun b off e => by
      obtain ⟨b', off', e', hc⟩ := (unhide HI) 0 (by have := unhide H4; omega)
      rw [e] at e'
      cases e'
      exact World.block_lt_of_cell? _ _ hc)
    clear HI HB HN1 HE1 HAA
    revert HNN HI2 HB2 HN2 HE2
    generalize (w1.alloc _) = W2
    intro HNN HI2 HB2 HN2 HE2
    generalize w1.heap.size = G at *
    have HNG : Hid (VarC W2 G (pad24 (sxA ns 0))) := hide (unhide HNN)
    clear HNN
    go_wp2
    go_loopw [16] (fun i wr => ∃ k : Nat, k ≤ ns.length ∧ i = .int .i64 k ∧ Hid (∀ j (h : j < ns.length), j < k → cdN ns[j] = true) ∧ Hid (VarC wr G (pad24 (sxA ns k))) ∧ Hid (Keep (fun b => b = G) W2 wr)) (fun i _ => ns.length - (intOf i).toNat)
    case atStart => exact ⟨0, Nat.zero_le _, rfl, hide (fun j _ h => by omega), HNG, hide (Keep.refl _ _)⟩
    case round =>
      clear HNG
      obtain ⟨k, hk, rfl, HAL, HV, HK⟩ := hrel
      by_cases hlt : k < ns.length
      · obtain ⟨b, off, rfl, hcl0⟩ := (unhide HI2) k hlt
        have hbl := unhide HLTS b off rfl
        have hcl : wr.cell? ⟨b, off + k, none⟩ = some (.int .i64 ns[k]) := keep_cell1 (unhide HK) (show ¬ b = G by omega) hcl0
        obtain ⟨hp0, hp1⟩ := unhide HIN k hlt
        have HP := hide (And.intro hp0 hp1)
        have HK4 : Hid (k < 4) := hide (by have := unhide H4; omega)
        have hk4i : (k : Int) < 4 := by have := unhide HK4; omega
        have HSU := hide (sxA_succ hlt)
        have HP6 : Hid (cdN ns[k] = true ↔ ns[k] / 16 ^ 6 = 0) := hide (by simp [cdN])
        have HNK := hide (unhide HNUM k hlt)
        have HAK := hide (fun (h : cdN ns[k] = true) => all_succ hlt (unhide HAL) h)
        have HSL := hide (sxA_len ns k hk)
        clear hcl0
        go_wp2
        clear hcl
        generalize ns[k] = p at *
        go_loopw [6, 7] (fun n c wq => ∃ m : Nat, m ≤ 6 ∧ c = .int .i64 ((6 * k + m : Nat) : Int) ∧ n = .int .i64 (p / 16 ^ m) ∧ Hid (VarC wq G (pad24 (sxA ns k ++ sxT p m))) ∧ Hid (Keep (fun b => b = G) W2 wq)) (fun _ c _ => 24 - (intOf c).toNat)
        case atStart => exact ⟨0, by omega, by go_num, by simp, hide (by simpa [sxT] using unhide HV), HK⟩
        case round =>
          clear HV HK
          obtain ⟨m, hm, rfl, rfl, HV, HK⟩ := hrel
          by_cases hm6 : m < 6
          · obtain ⟨r0, r1⟩ := rest_in (unhide HP).1 (unhide HP).2 m
            have HRS := hide (rest_succ p m)
            have HSS := hide (sxT_succ p m)
            have hk4n := unhide HK4
            have HLN : Hid ((sxA ns k ++ sxT p m).length = 6 * k + m) := hide (by rw [List.length_append, unhide HSL, sxT_len])
            have hlc : ((6 * k + m : Nat) : Int) < ((k : Int) + 1) * 6 := by omega
            have hlj : ((6 * k + m : Nat) : Int) < 24 := by omega
            have hpl : 6 * k + m < (pad24 (sxA ns k ++ sxT p m)).length := by rw [pad_len (by rw [unhide HLN]; omega)]; omega
            have hand := and15 r0 r1
            obtain ⟨x0, hcx⟩ : ∃ x, wr.cell? ⟨G, 6 * k + m, none⟩ = some x := ⟨_, arr_cell (unhide HV) hpl⟩
            have hfz := Joins.unfrozen_of_block (unhide HV) (6 * k + m)
            generalize p / 16 ^ m = V at *
            have HST : Hid (VarC (wr.setCell ⟨G, 6 * k + m, none⟩ (.int .i64 (V % 16))) G (pad24 (sxA ns k ++ sxT p (m + 1)))) := hide (by
              have := arr_set (unhide HV) (6 * k + m) (V % 16)
              have e := pad_set (xs := sxA ns k ++ sxT p m) (by rw [unhide HLN]; omega) (V % 16)
              rw [unhide HLN] at e
              rw [e, List.append_assoc, ← unhide HSS] at this
              exact this)
            have HKS := hide ((unhide HK).setCell (p := ⟨G, 6 * k + m, none⟩) rfl (.int .i64 (V % 16)))
            clear hpl
            generalize hJ : 6 * k + m = J at *
            go_wp2
            go_roundw
            case rel => exact ⟨m + 1, by omega, by go_num, by rw [← unhide HRS], HST, HKS⟩
            case measure => simp [intOf]; omega
          · have hm66 : m = 6 := by omega
            subst hm66
            obtain ⟨r0, r1⟩ := rest_in (unhide HP).1 (unhide HP).2 6
            have HVN : Hid (VarC wr G (pad24 (sxA ns (k + 1)))) := hide (by rw [← unhide HSU]; exact unhide HV)
            have hk4n := unhide HK4
            have hge : ¬ ((6 * k + 6 : Nat) : Int) < ((k : Int) + 1) * 6 := by omega
            by_cases hz : p / 16 ^ 6 = 0
            · have HAN := hide (unhide HAK ((unhide HP6).2 hz))
              have bz : (p / 16 ^ 6 == 0) = true := by rw [hz]; rfl
              clear hz
              generalize p / 16 ^ 6 = V at *
              go_wp2_with (go_at_call 101; refine (demand_true _).mono ?_; rintro e w' ⟨rfl, hw⟩; replace hw := hw.symm; subst hw)
              go_roundw
              case rel => exact ⟨k + 1, by omega, by go_num, HAN, HVN, HK⟩
              case measure => simp [intOf]; omega
            · have HF := hide (unhide HNK (by rw [← Bool.not_eq_true]; exact fun h => hz ((unhide HP6).1 h)))
              have bz : (p / 16 ^ 6 == 0) = false := beq_eq_false_iff_ne.2 hz
              have HEW := hide (errW_keep (unhide HE2) (unhide HK) (fun j hj => by have := unhide HPS; have := unhide HSZ; omega))
              have HBE := hide (keep_one (unhide HB2) (unhide HK) (by have := unhide HSZ; omega))
              clear hz
              generalize p / 16 ^ 6 = V at *
              go_wp2_with (go_at_call 101; refine (demand_false _ (unhide HEW)).mono ?_; rintro e w' ⟨⟨u, pv, rfl⟩, hw⟩; replace hw := hw.symm; subst hw)
              exact ⟨rfl, .inr ⟨unhide HF, _, _, rfl⟩, unhide HBE⟩
      · have hk4 : k = 4 := by have := unhide H4; omega
        subst hk4
        have HF := hide (unhide HYES (unhide H4) (fun j h => unhide HAL j h (by have := unhide H4; omega)))
        have HLC := hide (cdL_len (unhide HF))
        have HVF : Hid (VarC wr G (cdL s)) := hide (by have := unhide HV; rw [← unhide HCL, pad_full (unhide HLC)] at this; exact this)
        have HNF : Hid (VarC wr w.heap.size zero24) := hide (((unhide HK).block w.heap.size (Array.getElem?_eq_some_iff.1 (unhide HN2)).1 (by have := unhide HSZ; omega)).trans (unhide HN2))
        have HBE := hide (keep_one (unhide HB2) (unhide HK) (by have := unhide HSZ; omega))
        have hnl : ¬ ((4 : Nat) : Int) < ((ns.length : Nat) : Int) := by have := unhide H4; omega
        generalize hLL : cdL s = L at *
        have HLL := hide hLL
        clear hLL
        go_wp2_with (first | (refine wpList_load_arr rfl 114 _ rfl G rfl (intV L).toArray _ _ (unhide HVF) und24 rfl (sizeA (unhide HLC)) ?_) | (refine wpList_store_arr rfl 114 _ _ rfl w.heap.size rfl (intV L).toArray rfl _ _ (unhide HNF) (sizeA (unhide HLC)) (by rw [intV_size, intV_size, unhide HLC]; rfl) (intV_one _) ?_; intro w3 hn3 hk3 hs3; have HN3 := hide hn3; have HB3 := hide (keep_one (unhide HBE) hk3 (Nat.le_refl _)); clear hn3 hk3 hs3))
        refine bodyPost_ret (v := ctV L) ?_ rfl ⟨.inl ⟨unhide HF, ?_⟩, unhide HB3⟩
        · exact results_cell_row Tryz.results97 _ _ w.heap.size 114 (intV L).toArray (0, 0) _ rfl (unhide HN3) und24 rfl (sizeA (unhide HLC))
        · rw [unhide HLL]
  · have HF := hide (unhide HLEN h4)
    have b4 : (((ns.length : Nat) : Int) == 4) = false := by simp; omega
    clear h4 HLEN
    go_wp2_with (go_at_call 101; refine (demand_false _ (unhide HE1)).mono ?_; rintro e w' ⟨⟨u, pv, rfl⟩, hw⟩; replace hw := hw.symm; subst hw)
    exact ⟨rfl, .inr ⟨unhide HF, _, _, rfl⟩, unhide HB⟩

end Go.Proofs.YtbmkdbccdnbbjaaGreatDoor

namespace Go.Proofs.YtbmkdbccdnbbjaaGreatDoor
open Go.RowKit
set_option linter.unusedVariables false

section
variable {P : Program} {Q : Exit → Act → World → Prop} {S S' : World → Prop} {C : Act → World → Prop} {l : List Oper} {hl : List Nat}

def PanQ (Q : Exit → Act → World → Prop) : Prop := ∀ c d v (a : Act) w, Q (.panic c) (a.put d v) w → Q (.panic c) a w
theorem anyR_of_ordP (hs : Region.noSelect l.toArray = true) (hQ : PanQ Q) (fuel : Nat) : ∀ (ord : List (Nat × Nat)) (listed : Array Bool) (a : Act) (w : World), Closed l (lsD listed) → rgOrdB l hl ord listed = true → wpOrd P l Q S (fun a w => Closed l (lsD (rgSet ord listed)) → wpAnyR P l Q S hl fuel (rgSet ord listed) a w) ord a w → wpAnyR P l Q S hl (ord.length + fuel) listed a w
  | [], listed, a, w, hc, hB, h => by simpa [rgSet] using h hc
  | (i, k) :: r, listed, a, w, hc, hB, h => by
    rw [show ((i, k) :: r).length + fuel = (r.length + fuel) + 1 by simp only [List.length_cons]; omega]
    have hrs : rgSet ((i, k) :: r) listed = rgSet r (listed.setIfInBounds i true) := rfl
    rw [hrs] at h
    obtain ⟨C, hC⟩ : ∃ C, C = (fun a w => Closed l (lsD (rgSet r (listed.setIfInBounds i true))) → wpAnyR P l Q S hl fuel (rgSet r (listed.setIfInBounds i true)) a w) := ⟨_, rfl⟩
    rw [← hC] at h
    unfold rgOrdB at hB
    rw [Bool.and_eq_true] at hB
    obtain ⟨hB1, hB2⟩ := hB
    have hone : ∀ (hrd : Region.ready .any l.toArray listed = [i]) (hw : ∀ o, l[i]? = some o → Region.wanted o (yielded l.toArray a.tmps) = true ∧ o.wp P a w (fun a' w' => (i ∈ hl → S w') ∧ wpOrd P l Q S C r a' w') Q), wpAnyR P l Q S hl (r.length + fuel + 1) listed a w := by
      intro hrd hw
      refine ⟨fun h0 => (by rw [hrd] at h0; cases h0), fun j hj => ?_⟩
      have hji : j = i := by rw [hrd] at hj; simpa using hj
      subst hji
      obtain ⟨_, o, ho, _⟩ := mem_ready.1 hj
      have ho' : l[j]? = some o := by simpa using ho
      obtain ⟨h1, h2⟩ := hw o ho'
      unfold wpOp
      simp only [ho]
      rw [if_pos h1]
      exact .inl (Oper.wp_mono (fun a' w' h3 => ⟨h3.1, anyR_of_ordP hs hQ fuel r _ a' w' (closed_set hc hj) hB2 (hC ▸ h3.2)⟩) h2)
    have hfirst : ∀ (v : Value) (S' : World → Prop) (hf : rgFrB l listed i = true) (hSS : ∀ w, S w → S' w) (hst : ∀ j, j < l.length → j ∉ hl → j ≠ i → Anc l j i ∨ ((∀ w, S' w) ∧ i ∉ hl)) (hS' : S' w) (hSw : i ∈ hl → S w)
        (hy : ∀ o, l[i]? = some o → YieldsIf P l.toArray S' o v a ∧ wpOrd P l Q S C r (a.put o.dst v) w), wpAnyR P l Q S hl (r.length + fuel + 1) listed a w := by
      intro v S' hf hSS hst hS' hSw hy
      unfold rgFrB at hf
      rw [Bool.and_eq_true] at hf
      have hir : i ∈ Region.ready .any l.toArray listed := by simpa using hf.1
      obtain ⟨_, o, ho, _⟩ := mem_ready.1 hir
      have ho' : l[i]? = some o := by simpa using ho
      obtain ⟨h1, h2⟩ := hy o ho'
      exact wpAnyR_first ho (Region.noSelect_spec hs) (fun c a w h => hQ _ _ _ _ _ h) hSS hst (r.length + fuel) listed a w hc (Region.free_spec ho hf.2) hir h1 hS' hSw (anyR_of_ordP hs hQ fuel r _ _ _ (closed_set hc hir) hB2 (hC ▸ h2))
    match k, hB1, h with
    | 0, hB1, h =>
      simp only [Bool.and_eq_true] at hB1
      have hir : i ∈ Region.ready .any l.toArray listed := by have := hB1.1; unfold rgFrB at this; rw [Bool.and_eq_true] at this; simpa using this.1
      obtain ⟨_, o, ho, _⟩ := mem_ready.1 hir
      have ho' : l[i]? = some o := by simpa using ho
      obtain ⟨h1, h2, v, h3, h4⟩ := h o ho'
      exact hfirst v S hB1.1 (fun _ h => h) (fun j a b c => .inl (rgSt_spec hB1.2 j a b c)) h2 (fun _ => h2) (fun o2 ho2 => by
        rw [ho'] at ho2
        cases ho2
        exact ⟨.inl ⟨h1, h3⟩, h4⟩)
    | 1, hB1, h =>
      simp only [Bool.and_eq_true, Bool.not_eq_true'] at hB1
      exact hfirst undef (fun _ => True) hB1.2 (fun _ _ => trivial) (fun _ _ _ _ => .inr ⟨fun _ => trivial, by simpa using hB1.1⟩) trivial (fun h6 => absurd h6 (by simpa using hB1.1)) (fun o ho => ⟨.inr ⟨(h o ho).1, rfl⟩, (h o ho).2⟩)
    | 2, hB1, h =>
      simp only [Bool.and_eq_true, beq_iff_eq] at hB1
      exact hone hB1.2 (fun o ho => ⟨(h o ho).1, Oper.wp_mono (fun a' w' h3 => ⟨fun _ => h3.1, h3.2⟩) (h o ho).2⟩)
    | 3, hB1, h =>
      simp only [Bool.and_eq_true, beq_iff_eq, Bool.not_eq_true'] at hB1
      exact hone hB1.2 (fun o ho => ⟨(h o ho).1, Oper.wp_mono (fun a' w' h3 => ⟨fun h6 => absurd h6 (by simpa using hB1.1), h3⟩) (h o ho).2⟩)
    | 4, hB1, h =>
      simp only [Bool.and_eq_true, Bool.not_eq_true'] at hB1
      have hir : i ∈ Region.ready .any l.toArray listed := by have := hB1.2; unfold rgFrB at this; rw [Bool.and_eq_true] at this; simpa using this.1
      obtain ⟨_, o, ho, _⟩ := mem_ready.1 hir
      have ho' : l[i]? = some o := by simpa using ho
      obtain ⟨h1, v, h3, h4⟩ := h o ho'
      exact hfirst v (fun _ => True) hB1.2 (fun _ _ => trivial) (fun _ _ _ _ => .inr ⟨fun _ => trivial, by simpa using hB1.1⟩) trivial (fun h6 => absurd h6 (by simpa using hB1.1)) (fun o2 ho2 => by
        rw [ho'] at ho2
        cases ho2
        exact ⟨.inl ⟨h1, fun w' _ => h3 w'⟩, h4⟩)
    | 5, hB1, h =>
      simp only [Bool.and_eq_true] at hB1
      have hir : i ∈ Region.ready .any l.toArray listed := by have := hB1.1; unfold rgFrB at this; rw [Bool.and_eq_true] at this; simpa using this.1
      obtain ⟨_, o, ho, _⟩ := mem_ready.1 hir
      have ho' : l[i]? = some o := by simpa using ho
      obtain ⟨h1, h2, h4⟩ := h o ho'
      exact hfirst undef S hB1.1 (fun _ h => h) (fun j a b c => .inl (rgSt_spec hB1.2 j a b c)) h2 (fun _ => h2) (fun o2 ho2 => by
        rw [ho'] at ho2
        cases ho2
        exact ⟨.inr ⟨h1, rfl⟩, h4⟩)
    | n + 6, hB1, h =>
      simp only [Bool.and_eq_true, Bool.not_eq_true'] at hB1
      exact hfirst undef (fun _ => True) hB1.2 (fun _ _ => trivial) (fun _ _ _ _ => .inr ⟨fun _ => trivial, by simpa using hB1.1⟩) trivial (fun h6 => absurd h6 (by simpa using hB1.1)) (fun o ho => ⟨.inr ⟨(h o ho).1, rfl⟩, (h o ho).2⟩)

theorem wp_region_ordP {id : Nat} {a : Act} {w : World} (hQ : PanQ Q) (S : World → Prop) (hl : List Nat) (ord : List (Nat × Nat)) (hm : P.follows .mixedOrders = true) (hs : Region.noSelect l.toArray = true) (hn : ord.length = l.length) (hB : (rgOrdB l hl ord (Array.replicate l.length false) && (Region.ready .any l.toArray (rgSet ord (Array.replicate l.length false))).isEmpty) = true)
    (h : wpOrd P l Q S (fun a w => Q .normal a w) ord a w.drew) : (Code.region id l.toArray true).wp P Q a w := by
  refine wp_region_any hm (wpAny_of_R (S := S) (hl := hl) _ _ _ _ ?_)
  rw [Bool.and_eq_true] at hB
  have := anyR_of_ordP (P := P) (Q := Q) (S := S) (hl := hl) hs hQ 0 ord _ a w.drew (closed_none _) hB.1 (ord_imp (fun a w h _ => ⟨by simpa using hB.2, h⟩) ord _ _ h)
  rw [Nat.add_zero, hn] at this
  simpa using this
theorem wp_region_treeP {id : Nat} {a : Act} {w : World} (S : World → Prop) (hl : List Nat) (hm : P.follows .mixedOrders = true) (h : wpT P l Q S hl l.length (Array.replicate l.length false) a w.drew) : (Code.region id l.toArray true).wp P Q a w :=
  wp_region_any hm (wpAny_of_R (S := S) (hl := hl) _ _ _ _ (by simpa using h (closed_none _)))
theorem tree_segP {fuel n : Nat} {listed : Array Bool} {a : Act} {w : World} (hQ : PanQ Q) (ord : List (Nat × Nat)) (hs : Region.noSelect l.toArray = true) (hn : fuel = ord.length + n) (hB : rgOrdB l hl ord listed = true)
    (h : wpOrd P l Q S (fun a w => wpT P l Q S hl n (rgSet ord listed) a w) ord a w) : wpT P l Q S hl fuel listed a w := fun hc => by
  rw [hn]
  exact anyR_of_ordP hs hQ n ord listed a w hc hB h
theorem tree_doneP {fuel : Nat} {listed : Array Bool} {a : Act} {w : World} (hB : (Region.ready .any l.toArray listed).isEmpty = true) (h : Q .normal a w) : wpT P l Q S hl fuel listed a w := fun _ => by
  have hr : Region.ready .any l.toArray listed = [] := by simpa using hB
  cases fuel with
  | zero => exact ⟨hr, h⟩
  | succ n => exact ⟨fun _ => h, by rw [hr]; simp⟩
theorem ord_doneP {a : Act} {w : World} (h : Q .normal a w) : wpOrd P l Q S (fun a w => Q .normal a w) [] a w := h
end

end Go.Proofs.YtbmkdbccdnbbjaaGreatDoor

namespace Go.Proofs.YtbmkdbccdnbbjaaGreatDoor
open Go.RowKit
set_option linter.unusedVariables false
set_option maxRecDepth 100000

def riS (ns : List ByteArray) (sec : Nat → ByteArray) (k : Nat) : List Snp := (List.range k).map (fun i => ⟨ns.getD i ⟨#[]⟩, openL (sec (12 + i)) 3⟩)
def riV (sec : Nat → ByteArray) (c : Nat) : Int := if 0 < (cdL (sec 10)).getD c 0 then (openL (sec (15 + c)) 4).getD 0 0 else 0
def riD (sec : Nat → ByteArray) (k : Nat) : List Int := (List.range 24).map (fun c => if c < k then riV sec c else 0)
def riM (ns : List ByteArray) (sec : Nat → ByteArray) : Img := ⟨cdL (sec 10), openL (sec 11) 3, riS ns sec ns.length, riD sec 24⟩
def riB (ns : List ByteArray) (sec : Nat → ByteArray) : Bool := cdB (sec 10) && (tdB (sec 11) && ((List.range ns.length).all (fun i => tdB (sec (12 + i))) && ((List.range 24).all (fun c => decide (¬ 0 < (cdL (sec 10)).getD c 0) || vlB (sec (15 + c))) && imB (riM ns sec))))
theorem ri_c {ns : List ByteArray} {sec : Nat → ByteArray} (h : cdB (sec 10) = false) : riB ns sec = false := by rw [riB, h]; rfl
theorem ri_t {ns : List ByteArray} {sec : Nat → ByteArray} (h : tdB (sec 11) = false) : riB ns sec = false := by rw [riB, h]; simp
theorem ri_s {ns : List ByteArray} {sec : Nat → ByteArray} {k : Nat} (hk : k < ns.length) (h : tdB (sec (12 + k)) = false) : riB ns sec = false := by
  have : (List.range ns.length).all (fun i => tdB (sec (12 + i))) = false := by
    rw [← Bool.not_eq_true, List.all_eq_true]
    intro h2
    have := h2 k (List.mem_range.2 hk)
    rw [h] at this; cases this
  rw [riB, this]; simp
theorem ri_d {ns : List ByteArray} {sec : Nat → ByteArray} {c : Nat} (hc : c < 24) (hp : 0 < (cdL (sec 10)).getD c 0) (h : vlB (sec (15 + c)) = false) : riB ns sec = false := by
  have : (List.range 24).all (fun c => decide (¬ 0 < (cdL (sec 10)).getD c 0) || vlB (sec (15 + c))) = false := by
    rw [← Bool.not_eq_true, List.all_eq_true]
    intro h2
    have := h2 c (List.mem_range.2 hc)
    rw [h, decide_eq_false (by simpa using hp)] at this; cases this
  rw [riB, this]; simp
theorem ri_i {ns : List ByteArray} {sec : Nat → ByteArray} (h : imB (riM ns sec) = false) : riB ns sec = false := by rw [riB, h]; simp
theorem ri_yes {ns : List ByteArray} {sec : Nat → ByteArray} (h1 : cdB (sec 10) = true) (h2 : tdB (sec 11) = true) (h3 : ∀ i, i < ns.length → tdB (sec (12 + i)) = true) (h4 : ∀ c, c < 24 → 0 < (cdL (sec 10)).getD c 0 → vlB (sec (15 + c)) = true) (h5 : imB (riM ns sec) = true) : riB ns sec = true := by
  have e3 : (List.range ns.length).all (fun i => tdB (sec (12 + i))) = true := List.all_eq_true.2 (fun i hi => h3 i (List.mem_range.1 hi))
  have e4 : (List.range 24).all (fun c => decide (¬ 0 < (cdL (sec 10)).getD c 0) || vlB (sec (15 + c))) = true := List.all_eq_true.2 (fun c hc => by
    by_cases hp : 0 < (cdL (sec 10)).getD c 0
    · rw [h4 c (List.mem_range.1 hc) hp]; simp
    · rw [decide_eq_true hp]; rfl)
  rw [riB, h1, h2, e3, e4, h5]; rfl
theorem riS_succ (ns : List ByteArray) (sec : Nat → ByteArray) (k : Nat) : riS ns sec (k + 1) = riS ns sec k ++ [⟨ns.getD k ⟨#[]⟩, openL (sec (12 + k)) 3⟩] := by
  unfold riS
  rw [List.range_succ, List.map_append]; rfl
theorem riD_len (sec : Nat → ByteArray) (k : Nat) : (riD sec k).length = 24 := by simp [riD]
theorem riD_zero (sec : Nat → ByteArray) : riD sec 0 = List.replicate 24 0 := by
  unfold riD
  simp only [Nat.not_lt_zero, if_false]
  decide
theorem riD_set (sec : Nat → ByteArray) {c : Nat} (hc : c < 24) : (riD sec c).set c (riV sec c) = riD sec (c + 1) := by
  apply List.ext_getElem
  · simp [riD]
  · intro j h1 h2
    simp only [riD, List.getElem_set, List.getElem_map, List.getElem_range]
    by_cases e : c = j
    · subst e; simp
    · rw [if_neg e]
      by_cases h3 : j < c
      · rw [if_pos h3, if_pos (by omega)]
      · rw [if_neg h3, if_neg (by omega)]
theorem riD_skip (sec : Nat → ByteArray) {c : Nat} (h : ¬ 0 < (cdL (sec 10)).getD c 0) : riD sec c = riD sec (c + 1) := by
  unfold riD
  apply List.map_congr_left
  intro j _
  by_cases h3 : j < c
  · rw [if_pos h3, if_pos (by omega)]
  · by_cases e : j = c
    · subst e; rw [if_neg h3, if_pos (by omega), riV, if_neg h]
    · rw [if_neg h3, if_neg (by omega)]

structure SeeW (W : World) (x y : Nat) (ss : List ByteArray) (xs : List Wr) (h : Int) : Prop where
  d : ∃ ao ca bo cb, VarD W x (.slice ao ss.length ca) (.slice bo xs.length cb) ∧ Ss W ao ss ∧ Ios W bo xs
  h : W.cell? ⟨y, 0, none⟩ = some (.int .i64 h)
theorem SeeW.below {W W' : World} {x y : Nat} {ss : List ByteArray} {xs : List Wr} {h : Int} (k : SeeW W x y ss xs h) (hb : Below W.heap.size W W') : SeeW W' x y ss xs h := by
  obtain ⟨ao, ca, bo, cb, h1, h2, h3⟩ := k.d
  exact ⟨⟨ao, ca, bo, cb, h1.below hb, h2.below hb, h3.below hb⟩, (hb.cell (World.block_lt_of_cell? _ _ k.h)).trans k.h⟩
def seeV (x y : Nat) : Value := .func (.func 36) #[] #[.pointer (some ⟨x, 0, none⟩), .pointer (some ⟨y, 0, none⟩)]

set_option maxHeartbeats 1600000 in
theorem see_any (x y p : Nat) (ss : List ByteArray) (xs : List Wr) (h : Int) (w : World) (hp : p < 64) (hd : diskB ss xs = true) (k : SeeW w x y ss xs h) :
    Calls Tryz.prog 36 #[.int .i64 p, .pointer (some ⟨x, 0, none⟩), .pointer (some ⟨y, 0, none⟩)] w fun e w' => e = .returned (.string (secV ss xs h p)) ∧ Below w.heap.size w w' := by
  obtain ⟨ao, ca, bo, cb, h1, h2, h3⟩ := k.d
  obtain ⟨l1, l2⟩ := diskB_len hd
  obtain ⟨c0, c1⟩ := h1.cells
  have c2 := k.h
  have H2 := hide h2
  have H3 := hide h3
  have HL1 := hide l1
  have HL2 := hide l2
  have HE : Hid (secV ss xs h p = readV ss xs h p) := hide rfl
  clear h1 h2 h3 l1 l2 hd k
  go_enter Tryz.func36, Tryz.ntmps36
  go_wp2_with fail
  refine (seenBy_any ao bo ca cb ss xs h p _ (unhide HL2) (by have := unhide HL1; omega) (by have := unhide HL1; omega) (unhide H2) (unhide H3)).mono ?_
  rintro e w1 ⟨rfl, hb⟩
  have HB := hide hb
  clear hb c0 c1 c2
  go_wp2
  go_ret
  exact ⟨by rw [unhide HE]; rfl, unhide HB⟩

structure RdJ (w W : World) (y x : Nat) (cs : List Int) (a : Im4) (M : Img) (ts : List Value) : Prop where
  k : Below w.heap.size w W
  r : VarM W w.heap.size 26 (.slice none 0 0) (.slice none 0 0) (.slice none 0 0) (.slice none 0 0)
  c : VarC W y cs
  v : VarM W x 26 (.slice a.ro M.refs.length a.rc) (.slice a.tq M.table.length a.tc) (.slice a.so M.snaps.length a.sc) (.slice a.dq M.data.length a.dc)
  o : OwnIm W w.heap.size a M ts
  hx : w.heap.size < x
  f : M.snaps.length = 0 → a.sc = 0
theorem RdJ.below {w W W' : World} {y x : Nat} {cs : List Int} {a : Im4} {M : Img} {ts : List Value} (J : RdJ w W y x cs a M ts) (hb : Below W.heap.size W W') : RdJ w W' y x cs a M ts :=
  ⟨fr J.k hb, J.r.below hb, block_of_below J.c hb, J.v.below hb, J.o.below hb, J.hx, J.f⟩
theorem own_setV {W : World} {B x : Nat} {a : Im4} {M : Img} {ts : List Value} {v0 v1 v2 v3 : Value} (h : OwnIm W B a M ts) (hv : VarM W x 26 v0 v1 v2 v3) (i : Nat) (u : Value) : OwnIm (W.setCell ⟨x, i, none⟩ u) B a M ts :=
  h.keep ((Keep.refl (fun g => g = x) W).setCell (p := ⟨x, i, none⟩) rfl u) (fun g hg e => h.other hv (e ▸ hg))
theorem varC_other {W : World} {y : Nat} {cs : List Int} (h : VarC W y cs) {p : Addr} (hp : y ≠ p.block) (u : Value) : VarC (W.setCell p u) y cs := by
  show (W.setCell p u).heap[y]? = _
  rw [Below.heap_setCell W p u y hp]
  exact h
theorem varC_ne {W : World} {x y : Nat} {cs : List Int} {v0 v1 v2 v3 : Value} (h : VarC W y cs) (hv : VarM W x 26 v0 v1 v2 v3) : y ≠ x := by
  intro e
  subst e
  have h1 : some _ = some _ := h.symm.trans hv
  simp only [Option.some.injEq, Obj.cells.injEq] at h1
  exact absurd h1.2.1 (by decide)
theorem RdJ.addS {w W w3 w4 : World} {y x g2 cap2 : Nat} {cs : List Int} {a : Im4} {M : Img} {ts : List Value} {name : ByteArray} {t : Value} {tbl : List Int} (J : RdJ w W y x cs a M ts) (hb : Below W.heap.size W w3) (ht : OwnN w3 W.heap.size t tbl)
    (ho : w4.ownsRow w.heap.size 79 2 (.slice (some ⟨g2, 0, none⟩) (M.snaps.length + 1) cap2) (M.snaps.length + 1) (snC M.snaps ts ++ [.string name, t])) (hk : Keep (Own (.slice a.so M.snaps.length a.sc)) w3 w4) :
    RdJ w (w4.setCell ⟨x, 2, none⟩ (.slice (some ⟨g2, 0, none⟩) (M.snaps.length + 1) cap2)) y x cs { a with so := some ⟨g2, 0, none⟩, sc := cap2 } { M with snaps := M.snaps ++ [⟨name, tbl⟩] } (ts ++ [t]) ∧ VarM w4 x 26 (.slice a.ro M.refs.length a.rc) (.slice a.tq M.table.length a.tc) (.slice a.so M.snaps.length a.sc) (.slice a.dq M.data.length a.dc) := by
  have J3 := J.below hb
  have hv4 : VarM w4 x 26 (.slice a.ro M.refs.length a.rc) (.slice a.tq M.table.length a.tc) (.slice a.so M.snaps.length a.sc) (.slice a.dq M.data.length a.dc) := (hk.block _ J3.v.lt (J3.o.s.other J3.v (by decide))).trans J3.v
  have hr4 : VarM w4 w.heap.size 26 (.slice none 0 0) (.slice none 0 0) (.slice none 0 0) (.slice none 0 0) := (hk.block _ J3.r.lt (J3.o.s.other J3.r (by decide))).trans J3.r
  have hc4 : VarC w4 y cs := (hk.block _ (Array.getElem?_eq_some_iff.1 J3.c).1 (J3.o.s.other J3.c (by decide))).trans J3.c
  have ho4 := OwnIm.addS J.o J.k.size hb ht ho hk
  have hb4 : Below w.heap.size w w4 := J3.k.trans (hk.below J3.k.size (fun g hg => (J3.o.s.ge g hg).1))
  refine ⟨⟨hb4.setCell (p := ⟨x, 2, none⟩) (Nat.le_of_lt J.hx) _, hr4.other (p := ⟨x, 2, none⟩) (Nat.ne_of_lt J.hx) _, varC_other hc4 (p := ⟨x, 2, none⟩) (varC_ne hc4 hv4) _, ?_, own_setV ho4 hv4 2 _, J.hx, fun h => by simp at h⟩, hv4⟩
  simp only [List.length_append, List.length_singleton]
  exact hv4.set2 _
theorem RdJ.setD {w W : World} {y x c : Nat} {cs : List Int} {a : Im4} {M : Img} {ts : List Value} (J : RdJ w W y x cs a M ts) (hc : c < M.data.length) : ∃ g, a.dq = some ⟨g, 0, none⟩ ∧ W.cell? ⟨g, c, none⟩ = some (.int .i64 M.data[c]) ∧ W.frozen? ⟨g, c, none⟩ = false ∧ ∀ W' n, Below W.heap.size W W' → RdJ w (W'.setCell ⟨g, c, none⟩ (.int .i64 n)) y x cs a { M with data := M.data.set c n } ts := by
  obtain ⟨g, e, h1, h2, h3, _⟩ := J.o.setD hc
  refine ⟨g, e, h1, h2, fun W' n hb => ?_⟩
  have J' := J.below hb
  obtain ⟨g', e', h1', h2', h3', h4'⟩ := J'.o.setD hc
  rw [e] at e'
  cases e'
  have hgv : x ≠ g := fun hh => J'.o.other J'.v (hh ▸ h3')
  have hgr : w.heap.size ≠ g := fun hh => J'.o.other J'.r (hh ▸ h3')
  have hgc : y ≠ g := fun hh => by
    subst hh
    rcases h3' with q | q | q | q | ⟨t, ht, q⟩
    · exact (J'.o.rows.own (.slice a.ro M.refs.length a.rc, M.refs) (by simp [imRows])).row.other J'.c (by decide) q
    · exact (J'.o.rows.own (.slice a.tq M.table.length a.tc, M.table) (by simp [imRows])).row.other J'.c (by decide) q
    · exact (J'.o.rows.own (.slice a.dq M.data.length a.dc, M.data) (by simp [imRows])).row.other J'.c (by decide) q
    · exact J'.o.s.other J'.c (by decide) q
    · have hm : t ∈ (ts.zip (M.snaps.map (·.table))).map Prod.fst := by rw [zip_fst _ _ (by rw [List.length_map, J'.o.len])]; exact ht
      obtain ⟨p, hp, rfl⟩ := List.mem_map.1 hm
      exact (J'.o.rows.own p (by simp [imRows, hp])).row.other J'.c (by decide) q
  refine ⟨J'.k.setCell (p := ⟨g, c, none⟩) (J'.o.ge g h3').1 _, J'.r.other (p := ⟨g, c, none⟩) hgr _, varC_other J'.c (p := ⟨g, c, none⟩) hgc _, ?_, h4' n, J.hx, J.f⟩
  simp only [List.length_set]
  exact J'.v.other (p := ⟨g, c, none⟩) hgv _
theorem tree_three {P : Program} {Q : Exit → Act → World → Prop} {S : World → Prop} {l : List Oper} {hl : List Nat} {fuel i j k : Nat} {oi oj ok : Oper} {listed : Array Bool} {a : Act} {w : World} (hi : l[i]? = some oi) (hj : l[j]? = some oj) (hk : l[k]? = some ok) (gi : oi.guard = none) (gj : oj.guard = none) (gk : ok.guard = none) (hB : (Region.ready .any l.toArray listed == [i, j, k]) = true)
    (h1 : ∀ K : Act → World → Prop, (∀ a' w', (i ∈ hl → S w') → wpT P l Q S hl fuel (listed.setIfInBounds i true) a' w' → K a' w') → oi.wp P a w K Q)
    (h2 : ∀ K : Act → World → Prop, (∀ a' w', (j ∈ hl → S w') → wpT P l Q S hl fuel (listed.setIfInBounds j true) a' w' → K a' w') → oj.wp P a w K Q)
    (h3 : ∀ K : Act → World → Prop, (∀ a' w', (k ∈ hl → S w') → wpT P l Q S hl fuel (listed.setIfInBounds k true) a' w' → K a' w') → ok.wp P a w K Q) : wpT P l Q S hl (fuel + 1) listed a w := fun hc => by
  have hr : Region.ready .any l.toArray listed = [i, j, k] := by simpa using hB
  refine ⟨fun h0 => (by rw [hr] at h0; cases h0), fun q hq => ?_⟩
  have hq' : q = i ∨ q = j ∨ q = k := by rw [hr] at hq; simpa using hq
  rcases hq' with rfl | rfl | rfl
  · unfold wpOp
    have e : l.toArray[q]? = some oi := by simpa using hi
    simp only [e]
    rw [if_pos (by simp [Region.wanted, gi])]
    exact .inl (h1 _ (fun a' w' hS h3 => ⟨hS, h3 (closed_set hc hq)⟩))
  · unfold wpOp
    have e : l.toArray[q]? = some oj := by simpa using hj
    simp only [e]
    rw [if_pos (by simp [Region.wanted, gj])]
    exact .inl (h2 _ (fun a' w' hS h3 => ⟨hS, h3 (closed_set hc hq)⟩))
  · unfold wpOp
    have e : l.toArray[q]? = some ok := by simpa using hk
    simp only [e]
    rw [if_pos (by simp [Region.wanted, gk])]
    exact .inl (h3 _ (fun a' w' hS h3 => ⟨hS, h3 (closed_set hc hq)⟩))

end Go.Proofs.YtbmkdbccdnbbjaaGreatDoor
