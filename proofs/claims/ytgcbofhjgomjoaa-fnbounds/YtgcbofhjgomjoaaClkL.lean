/- Contract of impl.LocalOf. -/
import Derived.Test.YtgcbofhjgomjoaaRows
import Derived.Test.YtgcbofhjgomjoaaClkF
import Derived.Test.YtgcbofhjgomjoaaClkB
import Derived.Test.YtgcbofhjgomjoaaClkI
import Derived.WalkKit
import Derived.WalkSpells
import Derived.KernelRfl
import Derived.Lib.SmallJoins
import Derived.Deep.RegionHeld3
namespace Go.Proofs.Ytgcbofhjgomjoaa
open Go.RowKit
set_option linter.unusedVariables false

/-- LocalOf's answer. -/
def locC (o r t : Int) : Int := if betw o 0 1000000 && betw t 0 1000000 && betw r (-500) 500 then 0 else 4
def locR (o r t : Int) : Int := if betw o 0 1000000 && betw t 0 1000000 && betw r (-500) 500 then locQ o r t else 0
theorem fieldK0 (o r : Int) (W : World) : (Instr.field 46 (clkV o r) 0).run Try.prog W = .ok (.int .i64 o) W := by kernel_rfl
theorem fieldK1 (o r : Int) (W : World) : (Instr.field 46 (clkV o r) 1).run Try.prog W = .ok (.int .i64 r) W := by kernel_rfl
theorem loc_bad {o r t : Int} (h : (betw o 0 1000000 && betw t 0 1000000 && betw r (-500) 500) = false) : Ending.returned (.tuple #[.int .i64 0, .int .i64 4]) = Ending.returned (.tuple #[.int .i64 (locR o r t), .int .i64 (locC o r t)]) := by
  rw [locR, locC, h]; rfl
theorem loc_ok {o r t : Int} (h : (betw o 0 1000000 && betw t 0 1000000 && betw r (-500) 500) = true) : Ending.returned (.tuple #[.int .i64 (o + t * (1000 + r) / 1000), .int .i64 0]) = Ending.returned (.tuple #[.int .i64 (locR o r t), .int .i64 (locC o r t)]) := by
  rw [locR, locC, h]; rfl

set_option maxHeartbeats 1600000 in
theorem local_impl (o r t : Int) (w : World) : Calls Try.prog 24 #[clkV o r, .int .i64 t] w fun e w' => e = .returned (.tuple #[.int .i64 (locR o r t), .int .i64 (locC o r t)]) ∧ Below w.heap.size w w' := by
  have f0 := fieldK0 o r
  have f1 := fieldK1 o r
  go_enter Try.func24, Try.ntmps24
  go_wp2_with fail
  refine (within_any o 0 1000000 _).mono ?_
  rintro e w1 ⟨rfl, rfl⟩
  by_cases h1 : betw o 0 1000000 = false
  · have hr := hidB (loc_bad (o := o) (r := r) (t := t) (by simp [h1]))
    go_wp2
    go_ret2
    exact ⟨hr, Joins.below_alloc1 _ _⟩
  rw [Bool.not_eq_false] at h1
  go_wp2_with fail
  refine (within_any t 0 1000000 _).mono ?_
  rintro e w1 ⟨rfl, rfl⟩
  by_cases h2 : betw t 0 1000000 = false
  · have hr := hidB (loc_bad (o := o) (r := r) (t := t) (by simp [h2]))
    go_wp2
    go_ret2
    exact ⟨hr, Joins.below_alloc1 _ _⟩
  rw [Bool.not_eq_false] at h2
  go_wp2_with fail
  refine (within_any r (-500) 500 _).mono ?_
  rintro e w1 ⟨rfl, rfl⟩
  by_cases h3 : betw r (-500) 500 = false
  · have hr := hidB (loc_bad (o := o) (r := r) (t := t) (by simp [h3]))
    go_wp2
    go_ret2
    exact ⟨hr, Joins.below_alloc1 _ _⟩
  rw [Bool.not_eq_false] at h3
  have hr := hidB (loc_ok (o := o) (r := r) (t := t) (by simp [h1, h2, h3]))
  have b1 := betw_iff.1 h1
  have b2 := betw_iff.1 h2
  have b3 := betw_iff.1 h3
  have p0 : 0 ≤ t * (1000 + r) := Int.mul_nonneg (by omega) (by omega)
  have p1 : t * (1000 + r) ≤ 1000000 * 1500 := Int.mul_le_mul b2.2 (by omega) (by omega) (by omega)
  have w1 : IntKind.i64.wrap (t * (1000 + r)) = t * (1000 + r) := by rw [IntKind.wrap_i64]; omega
  have w0 : IntKind.i64.wrap (1000 + r) = 1000 + r := by rw [IntKind.wrap_i64]; omega
  have q0 : 0 ≤ t * (1000 + r) / 1000 := Int.ediv_nonneg p0 (by decide)
  have q1 : t * (1000 + r) / 1000 ≤ 1500000 := by omega
  have w2 : IntKind.i64.wrap (o + t * (1000 + r) / 1000) = o + t * (1000 + r) / 1000 := by rw [IntKind.wrap_i64]; omega
  have P0 := hidB p0
  have P1 : Hid (t * (1000 + r) < 1000000000000) := hidB (by omega)
  clear p0 p1 q0 q1
  go_wp2_with fail
  go_region_held3 (fun w' => w'.cell? ⟨w.heap.size, 0, none⟩ = some (.int .i64 o) ∧ w'.cell? ⟨w.heap.size, 1, none⟩ = some (.int .i64 r)) (go_keep)
    (first | (go_at_call 55; refine (down_int (t * (1000 + r)) 1000 _ P0 P1 (by decide) (by decide)).mono ?_; rintro e w' ⟨rfl, rfl⟩))
  all_goals go_wp2
  all_goals go_ret2
  all_goals exact ⟨hr, by repeat (first | exact Below.refl _ _ | exact Joins.below_alloc1 _ _ | refine Below.drew ?_)⟩

end Go.Proofs.Ytgcbofhjgomjoaa
