/- Contracts of impl.FenceAt and impl.SeemsDead. -/
import Derived.Test.YtgcbofhjgomjoaaRows
import Derived.Test.YtgcbofhjgomjoaaClkB
import Derived.WalkKit
import Derived.WalkSpells
import Derived.KernelRfl
import Derived.Lib.SmallJoins
import Derived.Deep.RegionHeld3
namespace Go.Proofs.Ytgcbofhjgomjoaa
open Go.RowKit
set_option linter.unusedVariables false

/-- Their codes and their answers. -/
def fenC (f d l r x : Int) : Int := if cfgB f d l r then (if betw x 0 10000000 then 0 else 4) else 1
def fenR (f d l r x : Int) : Int := if fenC f d l r x = 0 then x + f else 0
theorem fenC_bad {f d l r x : Int} (h : cfgB f d l r = false) : fenC f d l r x = 1 := by simp [fenC, h]
theorem fenC_range {f d l r x : Int} (h : cfgB f d l r = true) (h' : betw x 0 10000000 = false) : fenC f d l r x = 4 := by simp [fenC, h, h']
theorem fenC_ok {f d l r x : Int} (h : cfgB f d l r = true) (h' : betw x 0 10000000 = true) : fenC f d l r x = 0 := by simp [fenC, h, h']
def deaC (f d l r s n : Int) : Int := if cfgB f d l r then (if betw s 0 10000000 && betw n s 10000000 then 0 else 4) else 1
def deaR (f d l r s n : Int) : Bool := if deaC f d l r s n = 0 then decide (d ≤ n - s) else false
theorem deaC_bad {f d l r s n : Int} (h : cfgB f d l r = false) : deaC f d l r s n = 1 := by simp [deaC, h]
theorem deaC_range {f d l r s n : Int} (h : cfgB f d l r = true) (h' : (betw s 0 10000000 && betw n s 10000000) = false) : deaC f d l r s n = 4 := by rw [deaC, h, h']; rfl
theorem deaC_ok {f d l r s n : Int} (h : cfgB f d l r = true) (h1 : betw s 0 10000000 = true) (h2 : betw n s 10000000 = true) : deaC f d l r s n = 0 := by simp [deaC, h, h1, h2]
theorem ret2F {a a' b b' : Int} (h : a = a') (h' : b = b') : Ending.returned (.tuple #[.int .i64 a, .int .i64 b]) = Ending.returned (.tuple #[.int .i64 a', .int .i64 b']) := by rw [h, h']
theorem ret2D {a a' : Bool} {b b' : Int} (h : a = a') (h' : b = b') : Ending.returned (.tuple #[.bool a, .int .i64 b]) = Ending.returned (.tuple #[.bool a', .int .i64 b']) := by rw [h, h']

theorem hourOK_any (x : Int) (w : World) : Calls Try.prog 56 #[.int .i64 x] w fun e w' => e = .returned (.bool (betw x 0 10000000)) ∧ w' = w := by
  go_enter Try.func56, Try.ntmps56
  go_wp2_with fail
  refine (within_any x 0 10000000 _).mono ?_
  rintro e w1 ⟨rfl, rfl⟩
  go_wp2
  go_ret
  exact ⟨rfl, rfl⟩

set_option maxHeartbeats 1600000 in
theorem fence_impl (f d l r x : Int) (w : World) : Calls Try.prog 25 #[cfgV f d l r, .int .i64 x] w fun e w' => e = .returned (.tuple #[.int .i64 (fenR f d l r x), .int .i64 (fenC f d l r x)]) ∧ Below w.heap.size w w' := by
  have f0 := fieldC0 f d l r
  have f1 := fieldC1 f d l r
  have f2 := fieldC2 f d l r
  have f3 := fieldC3 f d l r
  go_enter Try.func25, Try.ntmps25
  go_wp2_with fail
  refine (bounds_impl f d l r _).mono ?_
  rintro e w1 ⟨rfl, hw⟩
  have c0 := (hw.cell (p := ⟨w.heap.size, 0, none⟩) (by simp)).trans (by simp [go_sem] : _ = some (.int .i64 f))
  have HW := hidB ((Joins.below_alloc1 w _).trans (Below.mono hw (by simp)))
  clear hw
  by_cases hb : cfgB f d l r = false
  · have hc := hidB (fenC_bad (x := x) hb)
    have hr : Hid (fenR f d l r x = 0) := hidB (by rw [fenR, hc, if_neg (by decide)])
    go_wp2
    go_ret2
    exact ⟨ret2F (Eq.symm hr) (Eq.symm hc), HW⟩
  rw [Bool.not_eq_false] at hb
  go_wp2_with fail
  refine (hourOK_any x _).mono ?_
  rintro e w2 ⟨rfl, rfl⟩
  by_cases hx : betw x 0 10000000 = false
  · have hc := hidB (fenC_range hb hx)
    have hr : Hid (fenR f d l r x = 0) := hidB (by rw [fenR, hc, if_neg (by decide)])
    go_wp2
    go_ret2
    exact ⟨ret2F (Eq.symm hr) (Eq.symm hc), HW⟩
  rw [Bool.not_eq_false] at hx
  have hc := hidB (fenC_ok hb hx)
  have hr : Hid (fenR f d l r x = x + f) := hidB (by rw [fenR, hc, if_pos rfl])
  obtain ⟨⟨bf0, bf1⟩, _, _, _⟩ := cfgB_iff.1 hb
  obtain ⟨bx0, bx1⟩ := betw_iff.1 hx
  go_wp2
  go_ret2
  exact ⟨ret2F (Eq.symm hr) (Eq.symm hc), HW⟩

set_option maxHeartbeats 1600000 in
theorem dead_impl (f d l r s n : Int) (w : World) : Calls Try.prog 26 #[cfgV f d l r, .int .i64 s, .int .i64 n] w fun e w' => e = .returned (.tuple #[.bool (deaR f d l r s n), .int .i64 (deaC f d l r s n)]) ∧ Below w.heap.size w w' := by
  have f0 := fieldC0 f d l r
  have f1 := fieldC1 f d l r
  have f2 := fieldC2 f d l r
  have f3 := fieldC3 f d l r
  go_enter Try.func26, Try.ntmps26
  go_wp2_with fail
  refine (bounds_impl f d l r _).mono ?_
  rintro e w1 ⟨rfl, hw⟩
  have c0 := (hw.cell (p := ⟨w.heap.size, 1, none⟩) (by simp)).trans (by simp [go_sem] : _ = some (.int .i64 d))
  have HW := hidB ((Joins.below_alloc1 w _).trans (Below.mono hw (by simp)))
  clear hw
  by_cases hb : cfgB f d l r = false
  · have hc := hidB (deaC_bad (s := s) (n := n) hb)
    have hr : Hid (deaR f d l r s n = false) := hidB (by rw [deaR, hc, if_neg (by decide)])
    go_wp2
    go_ret2
    exact ⟨ret2D (Eq.symm hr) (Eq.symm hc), HW⟩
  rw [Bool.not_eq_false] at hb
  go_wp2_with fail
  refine (hourOK_any s _).mono ?_
  rintro e w2 ⟨rfl, rfl⟩
  by_cases hx : betw s 0 10000000 = false
  · have hc := hidB (deaC_range (s := s) (n := n) hb (by simp [hx]))
    have hr : Hid (deaR f d l r s n = false) := hidB (by rw [deaR, hc, if_neg (by decide)])
    go_wp2
    go_ret2
    exact ⟨ret2D (Eq.symm hr) (Eq.symm hc), HW⟩
  rw [Bool.not_eq_false] at hx
  go_wp2_with fail
  refine (within_any n s 10000000 _).mono ?_
  rintro e w2 ⟨rfl, rfl⟩
  by_cases hy : betw n s 10000000 = false
  · have hc := hidB (deaC_range (s := s) (n := n) hb (by simp [hy]))
    have hr : Hid (deaR f d l r s n = false) := hidB (by rw [deaR, hc, if_neg (by decide)])
    go_wp2
    go_ret2
    exact ⟨ret2D (Eq.symm hr) (Eq.symm hc), HW⟩
  rw [Bool.not_eq_false] at hy
  have hc := hidB (deaC_ok hb hx hy)
  have hr : Hid (deaR f d l r s n = decide (d ≤ n - s)) := hidB (by rw [deaR, hc, if_pos rfl])
  obtain ⟨_, ⟨bd0, bd1⟩, _, _⟩ := cfgB_iff.1 hb
  obtain ⟨bx0, bx1⟩ := betw_iff.1 hx
  obtain ⟨by0, by1⟩ := betw_iff.1 hy
  go_wp2
  go_ret2
  exact ⟨ret2D (Eq.symm hr) (Eq.symm hc), HW⟩

set_option maxHeartbeats 1600000 in
theorem dead_spec (f d l r s n : Int) (w : World) : Calls Try.prog 27 #[cfgV f d l r, .int .i64 s, .int .i64 n] w fun e w' => e = .returned (.tuple #[.bool (deaR f d l r s n), .int .i64 (deaC f d l r s n)]) ∧ Below w.heap.size w w' := by
  have f0 := fieldC0 f d l r
  have f1 := fieldC1 f d l r
  have f2 := fieldC2 f d l r
  have f3 := fieldC3 f d l r
  go_enter Try.func27, Try.ntmps27
  go_wp2_with fail
  refine (bounds_spec f d l r _).mono ?_
  rintro e w1 ⟨rfl, hw⟩
  have c0 := (hw.cell (p := ⟨w.heap.size, 1, none⟩) (by simp)).trans (by simp [go_sem] : _ = some (.int .i64 d))
  have HW := hidB ((Joins.below_alloc1 w _).trans (Below.mono hw (by simp)))
  clear hw
  by_cases hb : cfgB f d l r = false
  · have hc := hidB (deaC_bad (s := s) (n := n) hb)
    have hr : Hid (deaR f d l r s n = false) := hidB (by rw [deaR, hc, if_neg (by decide)])
    go_wp2
    go_ret2
    exact ⟨ret2D (Eq.symm hr) (Eq.symm hc), HW⟩
  rw [Bool.not_eq_false] at hb
  go_wp2_with fail
  refine (in_any s 0 10000000 _).mono ?_
  rintro e w2 ⟨rfl, rfl⟩
  by_cases hx : betw s 0 10000000 = false
  · have hc := hidB (deaC_range (s := s) (n := n) hb (by simp [hx]))
    have hr : Hid (deaR f d l r s n = false) := hidB (by rw [deaR, hc, if_neg (by decide)])
    go_wp2
    go_ret2
    exact ⟨ret2D (Eq.symm hr) (Eq.symm hc), HW⟩
  rw [Bool.not_eq_false] at hx
  go_wp2_with fail
  refine (in_any n s 10000000 _).mono ?_
  rintro e w2 ⟨rfl, rfl⟩
  by_cases hy : betw n s 10000000 = false
  · have hc := hidB (deaC_range (s := s) (n := n) hb (by simp [hy]))
    have hr : Hid (deaR f d l r s n = false) := hidB (by rw [deaR, hc, if_neg (by decide)])
    go_wp2
    go_ret2
    exact ⟨ret2D (Eq.symm hr) (Eq.symm hc), HW⟩
  rw [Bool.not_eq_false] at hy
  have hc := hidB (deaC_ok hb hx hy)
  have hr : Hid (deaR f d l r s n = decide (d ≤ n - s)) := hidB (by rw [deaR, hc, if_pos rfl])
  obtain ⟨_, ⟨bd0, bd1⟩, _, _⟩ := cfgB_iff.1 hb
  obtain ⟨bx0, bx1⟩ := betw_iff.1 hx
  obtain ⟨by0, by1⟩ := betw_iff.1 hy
  go_wp2
  go_ret2
  exact ⟨ret2D (Eq.symm hr) (Eq.symm hc), HW⟩

end Go.Proofs.Ytgcbofhjgomjoaa
