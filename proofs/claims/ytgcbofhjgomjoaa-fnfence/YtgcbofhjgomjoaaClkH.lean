/- Contracts of spec.l03Latest and spec.l03Earliest. -/
import Derived.Test.YtgcbofhjgomjoaaRows
import Derived.Test.YtgcbofhjgomjoaaClkB
import Derived.WalkKit
import Derived.WalkSpells
import Derived.KernelRfl
import Derived.Lib.SmallJoins
import Derived.Deep.RegionHeld3
namespace Go.Proofs.Ytgcbofhjgomjoaa
open Go.RowKit
set_option linter.unusedVariables false

theorem lat_spec (r x : Int) (w : World) (hr0 : 0 ≤ r) (hr : r ≤ 500) (hx0 : 0 ≤ x) (hx : x ≤ 100000) :
    Calls Try.prog 51 #[.int .i64 r, .int .i64 x] w fun e w' => e = .returned (.int .i64 (latQ r x)) ∧ w' = w := by
  have t1 : ((x + 1) * 1000 + 999 - r).tdiv (1000 - r) = latQ r x := Int.tdiv_eq_ediv_of_nonneg (by omega)
  have hn : ¬ (1000 - r = 0) := by omega
  have hn' : ((1000 - r : Int) == 0) = false := by simp; omega
  have q0 : 0 ≤ latQ r x := Int.ediv_nonneg (by omega) (by omega)
  have q1 : latQ r x ≤ 200000000 := Int.le_trans (Int.ediv_le_self _ (by omega)) (by omega)
  have w5 : IntKind.i64.wrap (latQ r x) = latQ r x := by rw [IntKind.wrap_i64]; omega
  go_enter Try.func51, Try.ntmps51
  go_wp2
  go_ret
  exact ⟨rfl, rfl⟩
theorem ear_spec (r x : Int) (w : World) (hr0 : 0 ≤ r) (hr : r ≤ 500) (hx0 : 1 ≤ x) (hx : x ≤ 100000) :
    Calls Try.prog 52 #[.int .i64 r, .int .i64 x] w fun e w' => e = .returned (.int .i64 (earQ r x)) ∧ w' = w := by
  have t1 : ((x - 1) * 1000).tdiv (1000 + r) = earQ r x := Int.tdiv_eq_ediv_of_nonneg (by omega)
  have hn : ¬ (1000 + r = 0) := by omega
  have hn' : ((1000 + r : Int) == 0) = false := by simp; omega
  have q0 : 0 ≤ earQ r x := Int.ediv_nonneg (by omega) (by omega)
  have q1 : earQ r x ≤ 200000000 := Int.le_trans (Int.ediv_le_self _ (by omega)) (by omega)
  have w5 : IntKind.i64.wrap (earQ r x) = earQ r x := by rw [IntKind.wrap_i64]; omega
  go_enter Try.func52, Try.ntmps52
  go_wp2
  go_ret
  exact ⟨rfl, rfl⟩

end Go.Proofs.Ytgcbofhjgomjoaa
