/- Contract of impl.ConfigOK. -/
import Derived.Test.YtgcbofhjgomjoaaRows
import Derived.Test.YtgcbofhjgomjoaaClkF
import Derived.Test.YtgcbofhjgomjoaaClkB
import Derived.Test.YtgcbofhjgomjoaaClkI
import Derived.WalkKit
import Derived.WalkSpells
import Derived.KernelRfl
import Derived.Lib.SmallJoins
import Derived.Deep.RegionHeld3
namespace Go.Proofs.Ytgcbofhjgomjoaa
open Go.RowKit
set_option linter.unusedVariables false

/-- A right configuration. -/
def cokB (f d l r : Int) : Bool := cfgB f d l r && decide (latQ r f + l < earQ r d)
theorem cok_no {f d l r : Int} (h : cfgB f d l r = false) : cokB f d l r = false := by simp [cokB, h]
theorem cok_yes {f d l r : Int} (h : cfgB f d l r = true) : cokB f d l r = decide (latQ r f + l < earQ r d) := by simp [cokB, h]
theorem latQ_le {r x : Int} (hr0 : 0 ≤ r) (hr : r ≤ 500) (hx0 : 0 ≤ x) (hx : x ≤ 100000) : 0 ≤ latQ r x ∧ latQ r x ≤ 1000000 := by
  unfold latQ
  refine ⟨Int.ediv_nonneg (by omega) (by omega), ?_⟩
  exact Int.le_of_lt_add_one (Int.ediv_lt_of_lt_mul (by omega) (by
    have : (1000000 + 1) * 500 ≤ (1000000 + 1) * (1000 - r) := Int.mul_le_mul_of_nonneg_left (by omega) (by omega)
    omega))
theorem earQ_le {r x : Int} (hr0 : 0 ≤ r) (hr : r ≤ 500) (hx0 : 1 ≤ x) (hx : x ≤ 100000) : 0 ≤ earQ r x ∧ earQ r x ≤ 100000000 := by
  unfold earQ
  refine ⟨Int.ediv_nonneg (by omega) (by omega), ?_⟩
  exact Int.le_trans (Int.ediv_le_self _ (by omega)) (Int.le_trans (b := 99999000) (by omega) (by omega))

set_option maxHeartbeats 1600000 in
theorem configOK_impl (f d l r : Int) (w : World) : Calls Try.prog 21 #[cfgV f d l r] w fun e w' => e = .returned (.bool (cokB f d l r)) ∧ Below w.heap.size w w' := by
  have f0 := fieldC0 f d l r
  have f1 := fieldC1 f d l r
  have f2 := fieldC2 f d l r
  have f3 := fieldC3 f d l r
  by_cases hb : cfgB f d l r = false
  · have hr := hidB (cok_no hb)
    go_enter Try.func21, Try.ntmps21
    go_wp2_with fail
    refine (bounds_impl f d l r _).mono ?_
    rintro e w1 ⟨rfl, hw⟩
    have HW := hidB hw
    clear hw
    go_wp2
    go_ret
    rw [show cokB f d l r = false from hr]
    exact ⟨rfl, (Joins.below_alloc1 _ _).trans (Below.mono HW (by simp))⟩
  rw [Bool.not_eq_false] at hb
  have hr := hidB (cok_yes hb)
  obtain ⟨⟨bf0, bf1⟩, ⟨bd0, bd1⟩, ⟨bl0, bl1⟩, br0, br1⟩ := cfgB_iff.1 hb
  obtain ⟨ql0, ql1⟩ := latQ_le (x := f) br0 br1 (by omega) (by omega)
  obtain ⟨qe0, qe1⟩ := earQ_le (x := d) br0 br1 (by omega) (by omega)
  go_enter Try.func21, Try.ntmps21
  go_wp2_with fail
  refine (bounds_impl f d l r _).mono ?_
  rintro e w1 ⟨rfl, hw⟩
  have HB1 := hidB ((Joins.below_alloc1 w _).trans (Below.mono hw (by simp)))
  have c0 := hidB ((hw.cell (p := ⟨w.heap.size, 0, none⟩) (by simp)).trans (by simp [go_sem] : _ = some (.int .i64 f)))
  have c1 := hidB ((hw.cell (p := ⟨w.heap.size, 1, none⟩) (by simp)).trans (by simp [go_sem] : _ = some (.int .i64 d)))
  have c2 := hidB ((hw.cell (p := ⟨w.heap.size, 2, none⟩) (by simp)).trans (by simp [go_sem] : _ = some (.int .i64 l)))
  have c3 := (hw.cell (p := ⟨w.heap.size, 3, none⟩) (by simp)).trans (by simp [go_sem] : _ = some (.int .i64 r))
  have hz : w.heap.size < w1.heap.size := Nat.lt_of_lt_of_le (by simp) hw.size
  clear hw
  go_wp2_with fail
  go_region_held3 (fun w' => w'.cell? ⟨w.heap.size, 3, none⟩ = some (.int .i64 r)) (go_keep)
    (first
      | (go_at_call 48; refine (latestBy_keep r ⟨w.heap.size, 3, none⟩ (.int .i64 r) _ ?_).mono ?_; (simp [*]); rintro e wA ⟨rfl, hA0, hA1⟩)
      | (go_at_call 49; refine (earliestBy_keep r ⟨w.heap.size, 3, none⟩ (.int .i64 r) _ ?_).mono ?_; (simp [*]); rintro e wB ⟨rfl, hB0, hB1⟩))
  obtain ⟨a0, a1, a2⟩ := show _ ∧ _ ∧ _ from hA1
  obtain ⟨e0, e1, e2⟩ := show _ ∧ _ ∧ _ from hB1
  have a3 : Below w1.heap.size w1 wA := (Below.refl _ w1).drew.trans a2
  have HBB := hidB ((show Below w.heap.size w w1 from HB1).trans ((a3.trans (e2.mono a3.size)).mono (Nat.le_of_lt hz)))
  have l0 : w.heap.size < wA.heap.size := Nat.lt_of_lt_of_le hz a3.size
  have k0 := hidB ((e2.cell (p := ⟨w.heap.size, 0, none⟩) l0).trans ((a3.cell (p := ⟨w.heap.size, 0, none⟩) hz).trans c0))
  have k1 := hidB ((e2.cell (p := ⟨w.heap.size, 1, none⟩) l0).trans ((a3.cell (p := ⟨w.heap.size, 1, none⟩) hz).trans c1))
  have k2 := hidB ((e2.cell (p := ⟨w.heap.size, 2, none⟩) l0).trans ((a3.cell (p := ⟨w.heap.size, 2, none⟩) hz).trans c2))
  have k3 := hidB ((e2.cell (p := ⟨w1.heap.size, 0, none⟩) a1).trans a0)
  have k4 := hidB e0
  have wr : IntKind.i64.wrap (latQ r f + l) = latQ r f + l := by rw [IntKind.wrap_i64]; omega
  clear hA0 hA1 hB0 hB1 a0 a1 a2 e0 e1 e2 a3 l0 c0 c1 c2 c3 hz HB1
  generalize w1.heap.size = h1 at *
  generalize wA.heap.size = h2 at *
  have k0' : wB.cell? ⟨w.heap.size, 0, none⟩ = some (.int .i64 f) := k0
  have k1' : wB.cell? ⟨w.heap.size, 1, none⟩ = some (.int .i64 d) := k1
  have k2' : wB.cell? ⟨w.heap.size, 2, none⟩ = some (.int .i64 l) := k2
  have k3' : wB.cell? ⟨h1, 0, none⟩ = some (.int .i64 r) := k3
  have k4' : wB.cell? ⟨h2, 0, none⟩ = some (.int .i64 r) := k4
  go_wp2_with fail
  go_region_held3 (fun w' => w'.cell? ⟨w.heap.size, 0, none⟩ = some (.int .i64 f) ∧ w'.cell? ⟨w.heap.size, 1, none⟩ = some (.int .i64 d) ∧ w'.cell? ⟨w.heap.size, 2, none⟩ = some (.int .i64 l) ∧ w'.cell? ⟨h1, 0, none⟩ = some (.int .i64 r) ∧ w'.cell? ⟨h2, 0, none⟩ = some (.int .i64 r)) (go_keep)
    (first
      | (go_at_call 67; refine (latest1_any f r ⟨h1, 0, none⟩ _ (by omega) (by omega) (by omega) (by omega) ?_).mono ?_; (simp [*]); rintro e wC ⟨rfl, rfl⟩)
      | (go_at_call 69; refine (earliest1_any d r ⟨h2, 0, none⟩ _ (by omega) (by omega) (by omega) (by omega) ?_).mono ?_; (simp [*]); rintro e wD ⟨rfl, rfl⟩))
  all_goals go_wp2
  all_goals go_ret
  all_goals rw [show cokB f d l r = decide (latQ r f + l < earQ r d) from hr]
  all_goals exact ⟨rfl, by repeat (first | exact HBB | refine Below.drew ?_)⟩

end Go.Proofs.Ytgcbofhjgomjoaa
