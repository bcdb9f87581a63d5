/- Contracts of spec.LatestTrue and spec.EarliestTrue. -/
import Derived.Test.YtgcbofhjgomjoaeRows
import Derived.Test.YtgcbofhjgomjoaeClkB
import Derived.Test.YtgcbofhjgomjoaeClkF
import Derived.Test.YtgcbofhjgomjoaeClkI
import Derived.Test.YtgcbofhjgomjoaeClkT
import Derived.Test.YtgcbofhjgomjoaeClkH
import Derived.WalkKit
import Derived.WalkSpells
import Derived.KernelRfl
import Derived.Lib.SmallJoins
import Derived.Deep.RegionHeld3
namespace Go.Proofs.Ytgcbofhjgomjoae
open Go.RowKit
set_option linter.unusedVariables false

set_option maxHeartbeats 1600000 in
theorem ask_spec (f d l r x : Int) (w : World) : Calls Try.prog 24 #[cfgV f d l r, .int .i64 x] w fun e w' => e = .returned (.int .i64 (truC f d l r x)) ∧ Below w.heap.size w w' := by
  go_enter Try.func24, Try.ntmps24
  go_wp2_with fail
  refine (bounds_spec f d l r _).mono ?_
  rintro e w1 ⟨rfl, hw⟩
  have HW : Hid (Below w.heap.size w w1) := hidB (by first | exact hw | exact frB (Joins.below_alloc1 w _) hw)
  clear hw
  by_cases hb : cfgB f d l r = false
  · have hc := hidB (truC_bad (x := x) hb)
    go_wp2
    go_ret
    rw [show truC f d l r x = 1 from hc]
    exact ⟨rfl, HW⟩
  rw [Bool.not_eq_false] at hb
  go_wp2_with fail
  refine (in_any x 1 100000 _).mono ?_
  rintro e w2 ⟨rfl, rfl⟩
  by_cases hx : betw x 1 100000 = false
  · have hc := hidB (truC_range hb hx)
    go_wp2
    go_ret
    rw [show truC f d l r x = 4 from hc]
    exact ⟨rfl, HW⟩
  rw [Bool.not_eq_false] at hx
  have hc := hidB (truC_ok hb hx)
  go_wp2
  go_ret
  rw [show truC f d l r x = 0 from hc]
  exact ⟨rfl, HW⟩
theorem truC_three (f d l r x : Int) : truC f d l r x = 0 ∨ truC f d l r x = 1 ∨ truC f d l r x = 4 := by
  unfold truC
  split
  · split
    · exact .inl rfl
    · exact .inr (.inr rfl)
  · exact .inr (.inl rfl)
theorem truC_zero {f d l r x : Int} (h : truC f d l r x = 0) : cfgB f d l r = true ∧ betw x 1 100000 = true := by
  unfold truC at h
  split at h
  · split at h
    · exact ⟨‹_›, ‹_›⟩
    · cases h
  · cases h

set_option maxHeartbeats 1600000 in
theorem latest_spec (f d l r x : Int) (w : World) : Calls Try.prog 11 #[cfgV f d l r, .int .i64 x] w fun e w' => e = .returned (.tuple #[.int .i64 (latR f d l r x), .int .i64 (truC f d l r x)]) ∧ Below w.heap.size w w' := by
  have f0 := fieldC0 f d l r
  have f1 := fieldC1 f d l r
  have f2 := fieldC2 f d l r
  have f3 := fieldC3 f d l r
  go_enter Try.func11, Try.ntmps11
  go_wp2_with fail
  refine (ask_spec f d l r x _).mono ?_
  rintro e w1 ⟨rfl, hw⟩
  have c3 := (hw.cell (p := ⟨w.heap.size, 3, none⟩) (by simp)).trans (by simp [go_sem] : _ = some (.int .i64 r))
  have HW := hidB (frB (Joins.below_alloc1 w _) hw)
  clear hw
  by_cases h0 : truC f d l r x = 0
  · have hr : Hid (latR f d l r x = latQ r x) := hidB (by rw [latR, h0, if_pos rfl])
    obtain ⟨hb, hx⟩ := truC_zero h0
    have hc := hidB h0
    have hz : (truC f d l r x != 0) = false := by simp [h0]
    obtain ⟨_, _, _, br0, br1⟩ := cfgB_iff.1 hb
    obtain ⟨bx0, bx1⟩ := betw_iff.1 hx
    go_wp2_with fail
    refine (lat_spec r x _ (by omega) (by omega) (by omega) (by omega)).mono ?_
    rintro e w2 ⟨rfl, rfl⟩
    go_wp2
    go_ret2
    exact ⟨ret2 (Eq.symm hr) (Eq.symm hc), HW⟩
  · have hr : Hid (latR f d l r x = 0) := hidB (by rw [latR, if_neg h0])
    have hz : (truC f d l r x != 0) = true := by simp [h0]
    go_wp2
    go_ret2
    exact ⟨ret2 (Eq.symm hr) rfl, HW⟩

set_option maxHeartbeats 1600000 in
theorem earliest_spec (f d l r x : Int) (w : World) : Calls Try.prog 14 #[cfgV f d l r, .int .i64 x] w fun e w' => e = .returned (.tuple #[.int .i64 (earR f d l r x), .int .i64 (truC f d l r x)]) ∧ Below w.heap.size w w' := by
  have f0 := fieldC0 f d l r
  have f1 := fieldC1 f d l r
  have f2 := fieldC2 f d l r
  have f3 := fieldC3 f d l r
  go_enter Try.func14, Try.ntmps14
  go_wp2_with fail
  refine (ask_spec f d l r x _).mono ?_
  rintro e w1 ⟨rfl, hw⟩
  have c3 := (hw.cell (p := ⟨w.heap.size, 3, none⟩) (by simp)).trans (by simp [go_sem] : _ = some (.int .i64 r))
  have HW := hidB (frB (Joins.below_alloc1 w _) hw)
  clear hw
  by_cases h0 : truC f d l r x = 0
  · have hr : Hid (earR f d l r x = earQ r x) := hidB (by rw [earR, h0, if_pos rfl])
    obtain ⟨hb, hx⟩ := truC_zero h0
    have hc := hidB h0
    have hz : (truC f d l r x != 0) = false := by simp [h0]
    obtain ⟨_, _, _, br0, br1⟩ := cfgB_iff.1 hb
    obtain ⟨bx0, bx1⟩ := betw_iff.1 hx
    go_wp2_with fail
    refine (ear_spec r x _ (by omega) (by omega) (by omega) (by omega)).mono ?_
    rintro e w2 ⟨rfl, rfl⟩
    go_wp2
    go_ret2
    exact ⟨ret2 (Eq.symm hr) (Eq.symm hc), HW⟩
  · have hr : Hid (earR f d l r x = 0) := hidB (by rw [earR, if_neg h0])
    have hz : (truC f d l r x != 0) = true := by simp [h0]
    go_wp2
    go_ret2
    exact ⟨ret2 (Eq.symm hr) rfl, HW⟩

end Go.Proofs.Ytgcbofhjgomjoae
