/- Contract of spec.LocalOf. -/
import Derived.Test.YtgcbofhjgomjoaeRows
import Derived.Test.YtgcbofhjgomjoaeClkB
import Derived.Test.YtgcbofhjgomjoaeClkF
import Derived.Test.YtgcbofhjgomjoaeClkI
import Derived.Test.YtgcbofhjgomjoaeClkL
import Derived.WalkKit
import Derived.WalkSpells
import Derived.KernelRfl
import Derived.Lib.SmallJoins
import Derived.Deep.RegionHeld3
namespace Go.Proofs.Ytgcbofhjgomjoae
open Go.RowKit
set_option linter.unusedVariables false

theorem loc03 (o r t : Int) (w : World) (bo0 : 0 ≤ o) (bo1 : o ≤ 1000000) (bt0 : 0 ≤ t) (bt1 : t ≤ 1000000) (br0 : -500 ≤ r) (br1 : r ≤ 500) :
    Calls Try.prog 21 #[clkV o r, .int .i64 t] w fun e w' => e = .returned (.int .i64 (o + t * (1000 + r) / 1000)) ∧ Below w.heap.size w w' := by
  have f0 := fieldK0 o r
  have f1 := fieldK1 o r
  have p0 : 0 ≤ t * (1000 + r) := Int.mul_nonneg (by omega) (by omega)
  have p1 : t * (1000 + r) ≤ 1000000 * 1500 := Int.mul_le_mul bt1 (by omega) (by omega) (by omega)
  have w1 : IntKind.i64.wrap (t * (1000 + r)) = t * (1000 + r) := by rw [IntKind.wrap_i64]; omega
  have w0 : IntKind.i64.wrap (1000 + r) = 1000 + r := by rw [IntKind.wrap_i64]; omega
  have q0 : 0 ≤ t * (1000 + r) / 1000 := Int.ediv_nonneg p0 (by decide)
  have q1 : t * (1000 + r) / 1000 ≤ 1500000 := by omega
  have t1 : (t * (1000 + r)).tdiv 1000 = t * (1000 + r) / 1000 := Int.tdiv_eq_ediv_of_nonneg p0
  have w3 : IntKind.i64.wrap (t * (1000 + r) / 1000) = t * (1000 + r) / 1000 := by rw [IntKind.wrap_i64]; omega
  have w2 : IntKind.i64.wrap (o + t * (1000 + r) / 1000) = o + t * (1000 + r) / 1000 := by rw [IntKind.wrap_i64]; omega
  go_enter Try.func21, Try.ntmps21
  go_wp2
  go_ret
  exact ⟨rfl, Joins.below_alloc1 _ _⟩

set_option maxHeartbeats 1600000 in
theorem local_spec (o r t : Int) (w : World) : Calls Try.prog 8 #[clkV o r, .int .i64 t] w fun e w' => e = .returned (.tuple #[.int .i64 (locR o r t), .int .i64 (locC o r t)]) ∧ Below w.heap.size w w' := by
  have f0 := fieldK0 o r
  have f1 := fieldK1 o r
  go_enter Try.func8, Try.ntmps8
  go_wp2_with fail
  refine (in_any o 0 1000000 _).mono ?_
  rintro e w1 ⟨rfl, rfl⟩
  by_cases h1 : betw o 0 1000000 = false
  · have hr := hidB (loc_bad (o := o) (r := r) (t := t) (by simp [h1]))
    go_wp2
    go_ret2
    exact ⟨hr, Joins.below_alloc1 _ _⟩
  rw [Bool.not_eq_false] at h1
  go_wp2_with fail
  refine (in_any r (-500) 500 _).mono ?_
  rintro e w1 ⟨rfl, rfl⟩
  by_cases h3 : betw r (-500) 500 = false
  · have hr := hidB (loc_bad (o := o) (r := r) (t := t) (by simp [h3]))
    go_wp2
    go_ret2
    exact ⟨hr, Joins.below_alloc1 _ _⟩
  rw [Bool.not_eq_false] at h3
  go_wp2_with fail
  refine (in_any t 0 1000000 _).mono ?_
  rintro e w1 ⟨rfl, rfl⟩
  by_cases h2 : betw t 0 1000000 = false
  · have hr := hidB (loc_bad (o := o) (r := r) (t := t) (by simp [h2]))
    go_wp2
    go_ret2
    exact ⟨hr, Joins.below_alloc1 _ _⟩
  rw [Bool.not_eq_false] at h2
  have hr := hidB (loc_ok (o := o) (r := r) (t := t) (by simp [h1, h2, h3]))
  have b1 := betw_iff.1 h1
  have b2 := betw_iff.1 h2
  have b3 := betw_iff.1 h3
  go_wp2_with fail
  refine (loc03 o r t _ b1.1 b1.2 b2.1 b2.2 b3.1 b3.2).mono ?_
  rintro e w2 ⟨rfl, hw⟩
  have HW := hidB hw
  clear hw
  go_wp2
  go_ret2
  exact ⟨hr, frB (Joins.below_alloc1 _ _) HW⟩

end Go.Proofs.Ytgcbofhjgomjoae
