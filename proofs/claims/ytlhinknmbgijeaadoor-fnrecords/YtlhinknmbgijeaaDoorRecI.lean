/- Contract of impl.readRecord. -/
import Derived.Test.YtlhinknmbgijeaaDoorRows
import Derived.Test.YtlhinknmbgijeaaDoorGen
import Derived.Test.YtlhinknmbgijeaaDoorInts
import Derived.Test.YtlhinknmbgijeaaDoorNums
import Derived.Test.YtlhinknmbgijeaaDoorSum
import Derived.Test.YtlhinknmbgijeaaDoorUnP
import Derived.Test.YtlhinknmbgijeaaDoorOwnN
import Derived.Test.YtlhinknmbgijeaaDoorUnI
import Derived.Test.YtlhinknmbgijeaaDoorUnR
import Derived.Test.YtlhinknmbgijeaaDoorSealP
import Derived.Test.YtlhinknmbgijeaaDoorKindI
import Derived.Test.YtlhinknmbgijeaaDoorRecM
import Derived.WalkKit
import Derived.WalkSpells
import Derived.BigQuiet
import Derived.Deep.QuietTactic
import Derived.Deep.RegionWith
namespace Go.Proofs.YtlhinknmbgijeaaDoor
open Go.RowKit
set_option linter.unusedVariables false
set_option maxRecDepth 100000

/-- The world when the head has been read: the result's variable, the head's. -/
structure HeadSt (w W : World) : Prop where
  blk : W.heap[w.heap.size]? = some (.cells #[.int .i64 0, .slice none 0 0] 69 (0, 0))
  size : w.heap.size + 2 ≤ W.heap.size
  below : Below w.heap.size w W
theorem HeadSt.mk' (w : World) (a b : Obj) (n : Nat) (ha : a = .cells #[.int .i64 0, .slice none 0 0] 69) : HeadSt w (((w.alloc a).alloc b).drewN n) := by
  subst ha
  have h : Below w.heap.size w ((w.alloc (.cells #[.int .i64 0, .slice none 0 0] 69)).alloc b) := Joins.below_alloc2 _ _ _
  refine ⟨?_, by simp, h.trans (Joins.below_draws _ _ _)⟩
  show ((w.alloc _).alloc b).heap[w.heap.size]? = _
  rw [(Joins.below_alloc1 _ b).block _ (by simp)]
  exact heap_alloc_new w _

theorem sum_rec (s : ByteArray) (n : Int) (w : World) (hs : s.size ≤ 65536) (h4 : 4 ≤ s.size) (hn : sumC (headT s ++ bodyT s) = n) : Calls Tryd.prog 16 #[.string (s.extract 0 2 ++ s.extract 4 s.size)] w fun e w' => e = .returned (.int .i64 n) ∧ w' = w := by
  subst hn
  exact sumOf_impl (headT s ++ bodyT s) w (by rw [ByteArray.size_append, bodyT_size, headT_size h4]; omega)

set_option maxHeartbeats 1600000 in
theorem readRecord_yes (s : ByteArray) (w : World) (hs : s.size ≤ 65536) (hr : RecP s) : Calls Tryd.prog 41 #[.string s] w fun e w' => ∃ v, e = .returned (.agg #[.int .i64 (byteAt s 0), v]) ∧ OwnN w' w.heap.size v (unL (bodyT s)) ∧ Below w.heap.size w w' := by
  obtain ⟨h4, hk, h3, hcnt, hsum, hok⟩ := hr
  have hc4 := copy4_at (w.alloc (.cells #[.int .i64 0, .slice none 0 0] 69)) (w.heap.size + 1) s (by simp) h4
  have h4i : (4 : Int) ≤ (s.size : Int) := by omega
  have b0 := byteAt_in s 0
  have b1 := byteAt_in s 1
  have b2 := byteAt_in s 2
  have HBZ := hide (bodyT_size s)
  have HHZ := hide (headT_size h4)
  have b3 : (byteAt s 3 == 0) = true := by simp [h3]
  have HSM : Hid (sumC (headT s ++ bodyT s) = byteAt s 2) := hide (by rw [hsum]; exact sumC_short (by rw [ByteArray.size_append, bodyT_size, headT_size h4]; omega))
  have HOK := hide hok
  have hlen : (((s.size - 4 : Nat) : Int) == byteAt s 1 * 4) = true := by rw [bodyT_size] at hcnt; simp [hcnt]
  clear h3 hcnt hsum hok
  go_enter Tryd.func41, Tryd.ntmps41
  go_wp2_with (first | (go_at_call 66; refine (demand_true _).mono ?_; rintro e w' ⟨rfl, hw⟩; replace hw := hw.symm; subst hw))
  go_quiet (fail)
  have HH := hide (HeadSt.mk' w (.cells #[.int .i64 0, .slice none 0 0] 69) (.cells #[.int .u8 (byteAt s 0), .int .u8 (byteAt s 1), .int .u8 (byteAt s 2), .int .u8 (byteAt s 3)] 64) nq rfl)
  revert HH
  generalize (((w.alloc (.cells #[.int .i64 0, .slice none 0 0] 69)).alloc (.cells #[.int .u8 (byteAt s 0), .int .u8 (byteAt s 1), .int .u8 (byteAt s 2), .int .u8 (byteAt s 3)] 64)).drewN nq) = W
  intro HH
  clear hc4
  go_wp2_with (first | (go_at_call 34; refine (kindOK_any _ _).mono ?_; rintro e w' ⟨rfl, hw⟩; replace hw := hw.symm; subst hw) | (go_at_call 66; refine (demand_true _).mono ?_; rintro e w' ⟨rfl, hw⟩; replace hw := hw.symm; subst hw) | (go_at_call 16; refine (sum_rec s _ _ hs h4 (unhide HSM)).mono ?_; rintro e w' ⟨rfl, hw⟩; replace hw := hw.symm; subst hw))
  refine (readNumbers_yes (bodyT s) _ (unhide HOK)).mono ?_
  rintro e w1 ⟨v, rfl, ⟨qo, qa, rfl, ho⟩, hb⟩
  have hblk : w1.heap[w.heap.size]? = some (.cells #[.int .i64 0, .slice none 0 0] 69 (0, 0)) := by
    rw [hb.block _ (by have := (unhide HH).size; omega)]; exact (unhide HH).blk
  have hc0 : w1.cell? ⟨w.heap.size, 0, none⟩ = some (.int .i64 0) := by rw [Joins.cell_of_block hblk]; rfl
  have hc1 : w1.cell? ⟨w.heap.size, 1, none⟩ = some (.slice none 0 0) := by rw [Joins.cell_of_block hblk]; rfl
  have hf0 := Joins.unfrozen_of_block hblk 0
  have hf1 := Joins.unfrozen_of_block hblk 1
  have HO := hide (ho.base (B' := w.heap.size + 1) (by have := (unhide HH).size; omega))
  have HB := hide (fr (unhide HH).below hb)
  clear ho hb hblk
  go_wp2
  exact bodyPost_ret (v := .agg #[.int .i64 (byteAt s 0), .slice qo (unL (bodyT s)).length qa]) (by simp [results, Tryd.results41, go_sem, hc0, hc1]) rfl
    ⟨.slice qo (unL (bodyT s)).length qa, rfl, ⟨qo, qa, rfl, (((unhide HO).setCell (a := ⟨w.heap.size, 0, none⟩) (Nat.lt_succ_self _) _).setCell (a := ⟨w.heap.size, 1, none⟩) (Nat.lt_succ_self _) _).base (Nat.le_succ _)⟩, ((unhide HB).setCell (p := ⟨w.heap.size, 0, none⟩) (Nat.le_refl _) _).setCell (p := ⟨w.heap.size, 1, none⟩) (Nat.le_refl _) _⟩

theorem readRecord_short (s : ByteArray) (w : World) (h4 : ¬ 4 ≤ s.size) (hE : ErrW w) : Calls Tryd.prog 41 #[.string s] w fun e w' => (∃ u pv, e = .panicked [{ v := .iface u pv, recovered := false }]) ∧ Below w.heap.size w w' := by
  have HE := hide (hE.below (Joins.below_alloc1 w (.cells #[.int .i64 0, .slice none 0 0] 69)))
  have h4i : ¬ (4 : Int) ≤ (s.size : Int) := by omega
  clear hE
  go_enter Tryd.func41, Tryd.ntmps41
  go_wp2_with (go_at_call 66; refine (demand_false _ (unhide HE)).mono ?_; rintro e w' ⟨⟨u, pv, rfl⟩, hw⟩; replace hw := hw.symm; subst hw)
  exact ⟨rfl, ⟨_, _, rfl⟩, Joins.below_alloc1 _ _⟩

set_option maxHeartbeats 1600000 in
theorem readRecord_kind (s : ByteArray) (w : World) (hs : s.size ≤ 65536) (h4 : 4 ≤ s.size) (hk : kindB (byteAt s 0) = false) (hE : ErrW w) : Calls Tryd.prog 41 #[.string s] w fun e w' => (∃ u pv, e = .panicked [{ v := .iface u pv, recovered := false }]) ∧ Below w.heap.size w w' := by
  have HE := hide hE
  clear hE
  have hc4 := copy4_at (w.alloc (.cells #[.int .i64 0, .slice none 0 0] 69)) (w.heap.size + 1) s (by simp) h4
  have h4i : (4 : Int) ≤ (s.size : Int) := by omega
  have b0 := byteAt_in s 0
  have b1 := byteAt_in s 1
  have b2 := byteAt_in s 2
  have HBZ := hide (bodyT_size s)
  have HHZ := hide (headT_size h4)
  go_enter Tryd.func41, Tryd.ntmps41
  go_wp2_with (first | (go_at_call 66; refine (demand_true _).mono ?_; rintro e w' ⟨rfl, hw⟩; replace hw := hw.symm; subst hw))
  go_quiet (fail)
  have HH := hide (HeadSt.mk' w (.cells #[.int .i64 0, .slice none 0 0] 69) (.cells #[.int .u8 (byteAt s 0), .int .u8 (byteAt s 1), .int .u8 (byteAt s 2), .int .u8 (byteAt s 3)] 64) nq rfl)
  revert HH
  generalize (((w.alloc (.cells #[.int .i64 0, .slice none 0 0] 69)).alloc (.cells #[.int .u8 (byteAt s 0), .int .u8 (byteAt s 1), .int .u8 (byteAt s 2), .int .u8 (byteAt s 3)] 64)).drewN nq) = W
  intro HH
  clear hc4
  go_wp2_with (first | (go_at_call 34; refine (kindOK_any _ _).mono ?_; rintro e w' ⟨rfl, hw⟩; replace hw := hw.symm; subst hw) | (go_at_call 66; refine (demand_false _ ((unhide HE).below (unhide HH).below)).mono ?_; rintro e w' ⟨⟨u, pv, rfl⟩, hw⟩; replace hw := hw.symm; subst hw))
  exact ⟨rfl, ⟨_, _, rfl⟩, (unhide HH).below⟩

set_option maxHeartbeats 1600000 in
theorem readRecord_last (s : ByteArray) (w : World) (hs : s.size ≤ 65536) (h4 : 4 ≤ s.size) (hk : kindB (byteAt s 0) = true) (h3 : byteAt s 3 ≠ 0) (hE : ErrW w) : Calls Tryd.prog 41 #[.string s] w fun e w' => (∃ u pv, e = .panicked [{ v := .iface u pv, recovered := false }]) ∧ Below w.heap.size w w' := by
  have HE := hide hE
  clear hE
  have hc4 := copy4_at (w.alloc (.cells #[.int .i64 0, .slice none 0 0] 69)) (w.heap.size + 1) s (by simp) h4
  have h4i : (4 : Int) ≤ (s.size : Int) := by omega
  have b0 := byteAt_in s 0
  have b1 := byteAt_in s 1
  have b2 := byteAt_in s 2
  have HBZ := hide (bodyT_size s)
  have HHZ := hide (headT_size h4)
  have b3 : (byteAt s 3 == 0) = false := by simp [h3]
  clear h3
  go_enter Tryd.func41, Tryd.ntmps41
  go_wp2_with (first | (go_at_call 66; refine (demand_true _).mono ?_; rintro e w' ⟨rfl, hw⟩; replace hw := hw.symm; subst hw))
  go_quiet (fail)
  have HH := hide (HeadSt.mk' w (.cells #[.int .i64 0, .slice none 0 0] 69) (.cells #[.int .u8 (byteAt s 0), .int .u8 (byteAt s 1), .int .u8 (byteAt s 2), .int .u8 (byteAt s 3)] 64) nq rfl)
  revert HH
  generalize (((w.alloc (.cells #[.int .i64 0, .slice none 0 0] 69)).alloc (.cells #[.int .u8 (byteAt s 0), .int .u8 (byteAt s 1), .int .u8 (byteAt s 2), .int .u8 (byteAt s 3)] 64)).drewN nq) = W
  intro HH
  clear hc4
  go_wp2_with (first | (go_at_call 34; refine (kindOK_any _ _).mono ?_; rintro e w' ⟨rfl, hw⟩; replace hw := hw.symm; subst hw) | (go_at_call 66; refine (demand_false _ ((unhide HE).below (unhide HH).below)).mono ?_; rintro e w' ⟨⟨u, pv, rfl⟩, hw⟩; replace hw := hw.symm; subst hw))
  exact ⟨rfl, ⟨_, _, rfl⟩, (unhide HH).below⟩

set_option maxHeartbeats 1600000 in
theorem readRecord_count (s : ByteArray) (w : World) (hs : s.size ≤ 65536) (h4 : 4 ≤ s.size) (hk : kindB (byteAt s 0) = true) (h3 : byteAt s 3 = 0) (hcnt : ((bodyT s).size : Int) ≠ byteAt s 1 * 4) (hE : ErrW w) : Calls Tryd.prog 41 #[.string s] w fun e w' => (∃ u pv, e = .panicked [{ v := .iface u pv, recovered := false }]) ∧ Below w.heap.size w w' := by
  have HE := hide hE
  clear hE
  have hc4 := copy4_at (w.alloc (.cells #[.int .i64 0, .slice none 0 0] 69)) (w.heap.size + 1) s (by simp) h4
  have h4i : (4 : Int) ≤ (s.size : Int) := by omega
  have b0 := byteAt_in s 0
  have b1 := byteAt_in s 1
  have b2 := byteAt_in s 2
  have HBZ := hide (bodyT_size s)
  have HHZ := hide (headT_size h4)
  have b3 : (byteAt s 3 == 0) = true := by simp [h3]
  have hlen : (((s.size - 4 : Nat) : Int) == byteAt s 1 * 4) = false := by rw [bodyT_size] at hcnt; simp [hcnt]
  clear h3 hcnt
  go_enter Tryd.func41, Tryd.ntmps41
  go_wp2_with (first | (go_at_call 66; refine (demand_true _).mono ?_; rintro e w' ⟨rfl, hw⟩; replace hw := hw.symm; subst hw))
  go_quiet (fail)
  have HH := hide (HeadSt.mk' w (.cells #[.int .i64 0, .slice none 0 0] 69) (.cells #[.int .u8 (byteAt s 0), .int .u8 (byteAt s 1), .int .u8 (byteAt s 2), .int .u8 (byteAt s 3)] 64) nq rfl)
  revert HH
  generalize (((w.alloc (.cells #[.int .i64 0, .slice none 0 0] 69)).alloc (.cells #[.int .u8 (byteAt s 0), .int .u8 (byteAt s 1), .int .u8 (byteAt s 2), .int .u8 (byteAt s 3)] 64)).drewN nq) = W
  intro HH
  clear hc4
  go_wp2_with (first | (go_at_call 34; refine (kindOK_any _ _).mono ?_; rintro e w' ⟨rfl, hw⟩; replace hw := hw.symm; subst hw) | (go_at_call 66; refine (demand_true _).mono ?_; rintro e w' ⟨rfl, hw⟩; replace hw := hw.symm; subst hw) | (go_at_call 66; refine (demand_false _ ((unhide HE).below (unhide HH).below)).mono ?_; rintro e w' ⟨⟨u, pv, rfl⟩, hw⟩; replace hw := hw.symm; subst hw))
  exact ⟨rfl, ⟨_, _, rfl⟩, (unhide HH).below⟩

set_option maxHeartbeats 1600000 in
theorem readRecord_sum (s : ByteArray) (w : World) (hs : s.size ≤ 65536) (h4 : 4 ≤ s.size) (hk : kindB (byteAt s 0) = true) (h3 : byteAt s 3 = 0) (hcnt : ((bodyT s).size : Int) = byteAt s 1 * 4) (hsum : byteAt s 2 ≠ sumS (headT s ++ bodyT s)) (hE : ErrW w) : Calls Tryd.prog 41 #[.string s] w fun e w' => (∃ u pv, e = .panicked [{ v := .iface u pv, recovered := false }]) ∧ Below w.heap.size w w' := by
  have HE := hide hE
  clear hE
  have hc4 := copy4_at (w.alloc (.cells #[.int .i64 0, .slice none 0 0] 69)) (w.heap.size + 1) s (by simp) h4
  have h4i : (4 : Int) ≤ (s.size : Int) := by omega
  have b0 := byteAt_in s 0
  have b1 := byteAt_in s 1
  have b2 := byteAt_in s 2
  have HBZ := hide (bodyT_size s)
  have HHZ := hide (headT_size h4)
  have b3 : (byteAt s 3 == 0) = true := by simp [h3]
  have hlen : (((s.size - 4 : Nat) : Int) == byteAt s 1 * 4) = true := by rw [bodyT_size] at hcnt; simp [hcnt]
  have HSM : Hid (sumC (headT s ++ bodyT s) = sumS (headT s ++ bodyT s)) := hide (sumC_short (by rw [ByteArray.size_append, bodyT_size, headT_size h4]; omega))
  have hsb : (byteAt s 2 == sumS (headT s ++ bodyT s)) = false := by simp [hsum]
  clear h3 hcnt hsum
  go_enter Tryd.func41, Tryd.ntmps41
  go_wp2_with (first | (go_at_call 66; refine (demand_true _).mono ?_; rintro e w' ⟨rfl, hw⟩; replace hw := hw.symm; subst hw))
  go_quiet (fail)
  have HH := hide (HeadSt.mk' w (.cells #[.int .i64 0, .slice none 0 0] 69) (.cells #[.int .u8 (byteAt s 0), .int .u8 (byteAt s 1), .int .u8 (byteAt s 2), .int .u8 (byteAt s 3)] 64) nq rfl)
  revert HH
  generalize (((w.alloc (.cells #[.int .i64 0, .slice none 0 0] 69)).alloc (.cells #[.int .u8 (byteAt s 0), .int .u8 (byteAt s 1), .int .u8 (byteAt s 2), .int .u8 (byteAt s 3)] 64)).drewN nq) = W
  intro HH
  clear hc4
  go_wp2_with (first | (go_at_call 34; refine (kindOK_any _ _).mono ?_; rintro e w' ⟨rfl, hw⟩; replace hw := hw.symm; subst hw) | (go_at_call 66; refine (demand_true _).mono ?_; rintro e w' ⟨rfl, hw⟩; replace hw := hw.symm; subst hw) | (go_at_call 16; refine (sum_rec s _ _ hs h4 (unhide HSM)).mono ?_; rintro e w' ⟨rfl, hw⟩; replace hw := hw.symm; subst hw) | (go_at_call 66; refine (demand_false _ ((unhide HE).below (unhide HH).below)).mono ?_; rintro e w' ⟨⟨u, pv, rfl⟩, hw⟩; replace hw := hw.symm; subst hw))
  exact ⟨rfl, ⟨_, _, rfl⟩, (unhide HH).below⟩

set_option maxHeartbeats 1600000 in
theorem readRecord_nums (s : ByteArray) (w : World) (hs : s.size ≤ 65536) (h4 : 4 ≤ s.size) (hk : kindB (byteAt s 0) = true) (h3 : byteAt s 3 = 0) (hcnt : ((bodyT s).size : Int) = byteAt s 1 * 4) (hsum : byteAt s 2 = sumS (headT s ++ bodyT s)) (hok : okU (bodyT s) = false) (hE : ErrW w) : Calls Tryd.prog 41 #[.string s] w fun e w' => (∃ u pv, e = .panicked [{ v := .iface u pv, recovered := false }]) ∧ Below w.heap.size w w' := by
  have HE := hide hE
  clear hE
  have hc4 := copy4_at (w.alloc (.cells #[.int .i64 0, .slice none 0 0] 69)) (w.heap.size + 1) s (by simp) h4
  have h4i : (4 : Int) ≤ (s.size : Int) := by omega
  have b0 := byteAt_in s 0
  have b1 := byteAt_in s 1
  have b2 := byteAt_in s 2
  have HBZ := hide (bodyT_size s)
  have HHZ := hide (headT_size h4)
  have b3 : (byteAt s 3 == 0) = true := by simp [h3]
  have hlen : (((s.size - 4 : Nat) : Int) == byteAt s 1 * 4) = true := by rw [bodyT_size] at hcnt; simp [hcnt]
  have HSM : Hid (sumC (headT s ++ bodyT s) = byteAt s 2) := hide (by rw [hsum]; exact sumC_short (by rw [ByteArray.size_append, bodyT_size, headT_size h4]; omega))
  have HOK := hide hok
  clear h3 hcnt hsum hok
  go_enter Tryd.func41, Tryd.ntmps41
  go_wp2_with (first | (go_at_call 66; refine (demand_true _).mono ?_; rintro e w' ⟨rfl, hw⟩; replace hw := hw.symm; subst hw))
  go_quiet (fail)
  have HH := hide (HeadSt.mk' w (.cells #[.int .i64 0, .slice none 0 0] 69) (.cells #[.int .u8 (byteAt s 0), .int .u8 (byteAt s 1), .int .u8 (byteAt s 2), .int .u8 (byteAt s 3)] 64) nq rfl)
  revert HH
  generalize (((w.alloc (.cells #[.int .i64 0, .slice none 0 0] 69)).alloc (.cells #[.int .u8 (byteAt s 0), .int .u8 (byteAt s 1), .int .u8 (byteAt s 2), .int .u8 (byteAt s 3)] 64)).drewN nq) = W
  intro HH
  clear hc4
  go_wp2_with (first | (go_at_call 34; refine (kindOK_any _ _).mono ?_; rintro e w' ⟨rfl, hw⟩; replace hw := hw.symm; subst hw) | (go_at_call 66; refine (demand_true _).mono ?_; rintro e w' ⟨rfl, hw⟩; replace hw := hw.symm; subst hw) | (go_at_call 16; refine (sum_rec s _ _ hs h4 (unhide HSM)).mono ?_; rintro e w' ⟨rfl, hw⟩; replace hw := hw.symm; subst hw))
  refine (readNumbers_no (bodyT s) _ (unhide HOK) ((unhide HE).below (unhide HH).below)).mono ?_
  rintro e w1 ⟨⟨u, pv, rfl⟩, hb⟩
  have HB := hide (fr (unhide HH).below hb)
  clear hb
  go_wp2
  exact ⟨rfl, ⟨u, pv, rfl⟩, unhide HB⟩

/-- readRecord panics at what is none. -/
theorem readRecord_no (s : ByteArray) (w : World) (hs : s.size ≤ 65536) (hr : ¬ RecP s) (hE : ErrW w) : Calls Tryd.prog 41 #[.string s] w fun e w' => (∃ u pv, e = .panicked [{ v := .iface u pv, recovered := false }]) ∧ Below w.heap.size w w' := by
  by_cases h4 : 4 ≤ s.size
  · cases hk : kindB (byteAt s 0) with
    | false => exact readRecord_kind s w hs h4 hk hE
    | true =>
      by_cases h3 : byteAt s 3 = 0
      · by_cases hcnt : ((bodyT s).size : Int) = byteAt s 1 * 4
        · by_cases hsum : byteAt s 2 = sumS (headT s ++ bodyT s)
          · cases hok : okU (bodyT s) with
            | false => exact readRecord_nums s w hs h4 hk h3 hcnt hsum hok hE
            | true => exact absurd ⟨h4, hk, h3, hcnt, hsum, hok⟩ hr
          · exact readRecord_sum s w hs h4 hk h3 hcnt hsum hE
        · exact readRecord_count s w hs h4 hk h3 hcnt hE
      · exact readRecord_last s w hs h4 hk h3 hE
  · exact readRecord_short s w h4 hE

end Go.Proofs.YtlhinknmbgijeaaDoor
