/- Contract of spec.FenceAt. -/
import Derived.Test.YtgcbofhjgomjoaeRows
import Derived.Test.YtgcbofhjgomjoaeClkB
import Derived.Test.YtgcbofhjgomjoaeClkD
import Derived.WalkKit
import Derived.WalkSpells
import Derived.KernelRfl
import Derived.Lib.SmallJoins
import Derived.Deep.RegionHeld3
namespace Go.Proofs.Ytgcbofhjgomjoae
open Go.RowKit
set_option linter.unusedVariables false

set_option maxHeartbeats 1600000 in
theorem fence_spec (f d l r x : Int) (w : World) : Calls Try.prog 16 #[cfgV f d l r, .int .i64 x] w fun e w' => e = .returned (.tuple #[.int .i64 (fenR f d l r x), .int .i64 (fenC f d l r x)]) ∧ Below w.heap.size w w' := by
  have f0 := fieldC0 f d l r
  have f1 := fieldC1 f d l r
  have f2 := fieldC2 f d l r
  have f3 := fieldC3 f d l r
  go_enter Try.func16, Try.ntmps16
  go_wp2_with fail
  refine (bounds_spec f d l r _).mono ?_
  rintro e w1 ⟨rfl, hw⟩
  have c0 := (hw.cell (p := ⟨w.heap.size, 0, none⟩) (by simp)).trans (by simp [go_sem] : _ = some (.int .i64 f))
  have HW := hidB ((Joins.below_alloc1 w _).trans (Below.mono hw (by simp)))
  clear hw
  by_cases hb : cfgB f d l r = false
  · have hc := hidB (fenC_bad (x := x) hb)
    have hr : Hid (fenR f d l r x = 0) := hidB (by rw [fenR, hc, if_neg (by decide)])
    go_wp2
    go_ret2
    exact ⟨ret2F (Eq.symm hr) (Eq.symm hc), HW⟩
  rw [Bool.not_eq_false] at hb
  go_wp2_with fail
  refine (in_any x 0 10000000 _).mono ?_
  rintro e w2 ⟨rfl, rfl⟩
  by_cases hx : betw x 0 10000000 = false
  · have hc := hidB (fenC_range hb hx)
    have hr : Hid (fenR f d l r x = 0) := hidB (by rw [fenR, hc, if_neg (by decide)])
    go_wp2
    go_ret2
    exact ⟨ret2F (Eq.symm hr) (Eq.symm hc), HW⟩
  rw [Bool.not_eq_false] at hx
  have hc := hidB (fenC_ok hb hx)
  have hr : Hid (fenR f d l r x = x + f) := hidB (by rw [fenR, hc, if_pos rfl])
  obtain ⟨⟨bf0, bf1⟩, _, _, _⟩ := cfgB_iff.1 hb
  obtain ⟨bx0, bx1⟩ := betw_iff.1 hx
  go_wp2
  go_ret2
  exact ⟨ret2F (Eq.symm hr) (Eq.symm hc), HW⟩

end Go.Proofs.Ytgcbofhjgomjoae
