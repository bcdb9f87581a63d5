/- Plain: how far clocks go within a drift; the theorem of leases. -/
import Derived.Test.YtgcbofhjgomjoaaClkB
namespace Go.Proofs.Ytgcbofhjgomjoaa
set_option linter.unusedVariables false

theorem latQ_spec {r x : Int} (hr1 : r ≤ 500) : (x + 1) * 1000 ≤ latQ r x * (1000 - r) := by
  unfold latQ
  obtain ⟨N, hN⟩ : ∃ N, (x + 1) * 1000 + 999 - r = N := ⟨_, rfl⟩
  rw [hN]
  have h := Int.lt_ediv_add_one_mul_self N (show 0 < 1000 - r by omega)
  have h2 := Int.add_mul (N / (1000 - r)) 1 (1000 - r)
  rw [h2] at h
  generalize N / (1000 - r) * (1000 - r) = y at *
  omega
theorem latQ_le2 {r x : Int} (hr0 : 0 ≤ r) (hr1 : r ≤ 500) (hx : 0 ≤ x) : latQ r x ≤ (x + 1) * 2 + 1 := by
  unfold latQ
  refine Int.le_of_lt_add_one (Int.ediv_lt_of_lt_mul (by omega) ?_)
  have : ((x + 1) * 2 + 1 + 1) * 500 ≤ ((x + 1) * 2 + 1 + 1) * (1000 - r) := Int.mul_le_mul_of_nonneg_left (by omega) (by omega)
  omega
theorem earQ_le2 {r x : Int} (hr0 : 0 ≤ r) (hx : 1 ≤ x) : 0 ≤ earQ r x ∧ earQ r x ≤ x - 1 := by
  have e0 : 0 ≤ earQ r x := Int.ediv_nonneg (by omega) (by omega)
  have e : earQ r x * (1000 + r) ≤ (x - 1) * 1000 := Int.ediv_mul_le _ (by omega)
  have : earQ r x * 1000 ≤ earQ r x * (1000 + r) := Int.mul_le_mul_of_nonneg_left (by omega) e0
  omega
theorem earQ_spec {r x : Int} (hr0 : 0 ≤ r) : earQ r x * (1000 + r) ≤ (x - 1) * 1000 := Int.ediv_mul_le _ (by omega)

theorem loc_lo {o p t T L r : Int} (hp : -r ≤ p) (hT0 : 0 ≤ T) (hT : L * 1000 ≤ T * (1000 - r)) : L ≤ locQ o p (t + T) - locQ o p t := by
  unfold locQ
  have h1 : T * (1000 - r) ≤ T * (1000 + p) := Int.mul_le_mul_of_nonneg_left (by omega) hT0
  have h2 : (t + T) * (1000 + p) = t * (1000 + p) + T * (1000 + p) := Int.add_mul ..
  rw [h2]
  generalize t * (1000 + p) = A at *
  generalize T * (1000 + p) = B at *
  generalize T * (1000 - r) = D at *
  omega
theorem loc_hi {o p t T L r : Int} (hp : p ≤ r) (hT0 : 0 ≤ T) (hT : T * (1000 + r) ≤ L * 1000) : locQ o p (t + T) - locQ o p t ≤ L := by
  unfold locQ
  have h1 : T * (1000 + p) ≤ T * (1000 + r) := Int.mul_le_mul_of_nonneg_left (by omega) hT0
  have h2 : (t + T) * (1000 + p) = t * (1000 + p) + T * (1000 + p) := Int.add_mul ..
  rw [h2]
  generalize t * (1000 + p) = A at *
  generalize T * (1000 + p) = B at *
  generalize T * (1000 + r) = D at *
  omega
theorem loc_le {o p t : Int} (ho0 : 0 ≤ o) (ho : o ≤ 100) (hp0 : -500 ≤ p) (hp : p ≤ 500) (ht0 : 0 ≤ t) (ht : t ≤ 1000000) : 0 ≤ locQ o p t ∧ locQ o p t ≤ 2000000 := by
  unfold locQ
  have p0 : 0 ≤ t * (1000 + p) := Int.mul_nonneg ht0 (by omega)
  have p1 : t * (1000 + p) ≤ 1000000 * 1500 := Int.mul_le_mul ht (by omega) (by omega) (by omega)
  generalize t * (1000 + p) = A at *
  omega
theorem loc_up {o p t t' : Int} (hp0 : -500 ≤ p) (h : t ≤ t') : locQ o p t ≤ locQ o p t' := by
  have := loc_lo (o := o) (p := p) (t := t) (T := t' - t) (L := 0) (r := 500) (by omega) (by omega) (by
    have : 0 ≤ (t' - t) * (1000 - 500) := Int.mul_nonneg (by omega) (by omega)
    omega)
  rw [show t + (t' - t) = t' by omega] at this
  omega

/-- Within a drift every clock has gone on so far at the later bound, and none that far ahead of the earlier one. -/
theorem bounds_hold {o p t x r : Int} (hr0 : 0 ≤ r) (hr1 : r ≤ 500) (hp0 : -r ≤ p) (hp1 : p ≤ r) (hx : 1 ≤ x) :
    x ≤ locQ o p (t + latQ r x) - locQ o p t ∧ locQ o p (t + earQ r x) - locQ o p t ≤ x ∧ earQ r x ≤ latQ r x ∧ 0 < latQ r x := by
  have l := latQ_spec (x := x) hr1
  have e := earQ_spec (x := x) hr0
  have l0 : 0 < latQ r x := by
    refine Int.not_le.1 fun h => ?_
    have : latQ r x * (1000 - r) ≤ 0 := Int.mul_nonpos_of_nonpos_of_nonneg h (by omega)
    omega
  have e0 : 0 ≤ earQ r x := Int.ediv_nonneg (by omega) (by omega)
  have el : earQ r x ≤ x - 1 := by
    have : earQ r x * 1000 ≤ earQ r x * (1000 + r) := Int.mul_le_mul_of_nonneg_left (by omega) e0
    omega
  have lx : x + 1 ≤ latQ r x := by
    have : latQ r x * (1000 - r) ≤ latQ r x * 1000 := Int.mul_le_mul_of_nonneg_left (by omega) (by omega)
    omega
  have h1 := loc_lo (o := o) (t := t) (L := x + 1) hp0 (by omega) l
  have h2 := loc_hi (o := o) (t := t) (L := x - 1) hp1 e0 e
  omega

/-- Whoever seems dead has fenced itself, and what it sent has come or gone. -/
theorem lease {f d l r o1 p1 o2 p2 renewed seen now : Int} (hr0 : 0 ≤ r) (hr1 : r ≤ 500) (a0 : -r ≤ p1) (a1 : p1 ≤ r) (b0 : -r ≤ p2) (b1 : p2 ≤ r) (hf : 1 ≤ f) (hl : 0 ≤ l)
    (hok : latQ r f + l < earQ r d) (h1 : renewed ≤ seen) (h2 : seen ≤ now) (hdead : d ≤ locQ o2 p2 now - locQ o2 p2 seen) :
    renewed < now - l ∧ locQ o1 p1 renewed + f ≤ locQ o1 p1 (now - l) := by
  have hl' := latQ_spec (x := f) hr1
  have he := earQ_spec (x := d) hr0
  have far : earQ r d < now - seen := by
    refine Int.not_le.1 fun h => ?_
    have : (now - seen) * (1000 + r) ≤ earQ r d * (1000 + r) := Int.mul_le_mul_of_nonneg_right h (by omega)
    have := loc_hi (o := o2) (p := p2) (t := seen) (T := now - seen) (L := d - 1) b1 (by omega) (by omega)
    rw [show seen + (now - seen) = now by omega] at this
    omega
  have l0 : 0 ≤ latQ r f := by
    refine Int.not_lt.1 fun h => ?_
    have : latQ r f * (1000 - r) ≤ 0 := Int.mul_nonpos_of_nonpos_of_nonneg (by omega) (by omega)
    omega
  have up : latQ r f * (1000 - r) ≤ (now - l - renewed) * (1000 - r) := Int.mul_le_mul_of_nonneg_right (by omega) (by omega)
  have := loc_lo (o := o1) (p := p1) (t := renewed) (T := now - l - renewed) (L := f + 1) a0 (by omega) (by omega)
  rw [show renewed + (now - l - renewed) = now - l by omega] at this
  exact ⟨by omega, by omega⟩

end Go.Proofs.Ytgcbofhjgomjoaa
