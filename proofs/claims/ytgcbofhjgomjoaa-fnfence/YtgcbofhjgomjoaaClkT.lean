/- Contracts of impl.LatestTrue and impl.EarliestTrue. -/
import Derived.Test.YtgcbofhjgomjoaaRows
import Derived.Test.YtgcbofhjgomjoaaClkF
import Derived.Test.YtgcbofhjgomjoaaClkB
import Derived.Test.YtgcbofhjgomjoaaClkI
import Derived.WalkKit
import Derived.WalkSpells
import Derived.KernelRfl
import Derived.Lib.SmallJoins
import Derived.Deep.RegionHeld3
namespace Go.Proofs.Ytgcbofhjgomjoaa
open Go.RowKit
set_option linter.unusedVariables false

/-- Their code and their answers. -/
def truC (f d l r x : Int) : Int := if cfgB f d l r then (if betw x 1 100000 then 0 else 4) else 1
def latR (f d l r x : Int) : Int := if truC f d l r x = 0 then latQ r x else 0
def earR (f d l r x : Int) : Int := if truC f d l r x = 0 then earQ r x else 0
theorem truC_bad {f d l r x : Int} (h : cfgB f d l r = false) : truC f d l r x = 1 := by simp [truC, h]
theorem truC_range {f d l r x : Int} (h : cfgB f d l r = true) (h' : betw x 1 100000 = false) : truC f d l r x = 4 := by simp [truC, h, h']
theorem truC_ok {f d l r x : Int} (h : cfgB f d l r = true) (h' : betw x 1 100000 = true) : truC f d l r x = 0 := by simp [truC, h, h']
theorem ret2 {a a' b b' : Int} (h : a = a') (h' : b = b') : Ending.returned (.tuple #[.int .i64 a, .int .i64 b]) = Ending.returned (.tuple #[.int .i64 a', .int .i64 b']) := by rw [h, h']

set_option maxHeartbeats 1600000 in
theorem trueOf_latest (f d l r x : Int) (p : Addr) (w : World) (hp : w.cell? p = some (.int .i64 r)) :
    Calls Try.prog 57 #[cfgV f d l r, .int .i64 x, .func (.func 67) #[] #[.pointer (some p)]] w fun e w' => e = .returned (.tuple #[.int .i64 (latR f d l r x), .int .i64 (truC f d l r x)]) ∧ Below w.heap.size w w' := by
  have hp' := hidB hp
  clear hp
  go_enter Try.func57, Try.ntmps57
  go_wp2_with fail
  refine (bounds_impl f d l r _).mono ?_
  rintro e w1 ⟨rfl, hw⟩
  have HW := hidB ((Joins.below_alloc1 w _).trans (Below.mono hw (by simp)))
  clear hw
  by_cases hb : cfgB f d l r = false
  · have hc := hidB (truC_bad (x := x) hb)
    have hr : Hid (latR f d l r x = 0) := hidB (by rw [latR, hc, if_neg (by decide)])
    go_wp2
    go_ret2
    exact ⟨ret2 (Eq.symm hr) (Eq.symm hc), HW⟩
  rw [Bool.not_eq_false] at hb
  go_wp2_with fail
  refine (within_any x 1 100000 _).mono ?_
  rintro e w2 ⟨rfl, rfl⟩
  by_cases hx : betw x 1 100000 = false
  · have hc := hidB (truC_range hb hx)
    have hr : Hid (latR f d l r x = 0) := hidB (by rw [latR, hc, if_neg (by decide)])
    go_wp2
    go_ret2
    exact ⟨ret2 (Eq.symm hr) (Eq.symm hc), HW⟩
  rw [Bool.not_eq_false] at hx
  have hc := hidB (truC_ok hb hx)
  have hr : Hid (latR f d l r x = latQ r x) := hidB (by rw [latR, hc, if_pos rfl])
  obtain ⟨_, _, _, br0, br1⟩ := cfgB_iff.1 hb
  obtain ⟨bx0, bx1⟩ := betw_iff.1 hx
  have hq : Hid (w2.cell? p = some (.int .i64 r)) := hidB ((Below.cell HW (World.block_lt_of_cell? _ _ hp')).trans hp')
  go_wp2_with fail
  refine (latest1_any x r p _ (by omega) (by omega) (by omega) (by omega) hq).mono ?_
  rintro e w3 ⟨rfl, rfl⟩
  go_wp2
  go_ret2
  exact ⟨ret2 (Eq.symm hr) (Eq.symm hc), HW⟩

theorem latestBy_four (H b : Nat) (f d l r : Int) (w : World) (hH : w.heap.size = H) (h : Four w b f d l r) :
    Calls Try.prog 48 #[.int .i64 r] w fun e w' => e = .returned (.func (.func 67) #[] #[.pointer (some ⟨H, 0, none⟩)]) ∧ Four w' b f d l r ∧ w'.cell? ⟨H, 0, none⟩ = some (.int .i64 r) ∧ Hid (Below w.heap.size w w') := by
  subst hH
  exact (latestBy_any r w).mono fun e w' ⟨h1, h2, h3, h4⟩ => ⟨h1, h.below h4, h2, hidB h4⟩
theorem trueOf_latest4 (b : Nat) (f d l r x : Int) (p : Addr) (w : World) (hp : w.cell? p = some (.int .i64 r)) (h : Four w b f d l r) :
    Calls Try.prog 57 #[cfgV f d l r, .int .i64 x, .func (.func 67) #[] #[.pointer (some p)]] w fun e w' => e = .returned (.tuple #[.int .i64 (latR f d l r x), .int .i64 (truC f d l r x)]) ∧ Four w' b f d l r ∧ Hid (Below w.heap.size w w') :=
  (trueOf_latest f d l r x p w hp).mono fun e w' ⟨h1, h2⟩ => ⟨h1, h.below h2, hidB h2⟩
set_option maxHeartbeats 1600000 in
theorem latest_impl (f d l r x : Int) (w : World) : Calls Try.prog 28 #[cfgV f d l r, .int .i64 x] w fun e w' => e = .returned (.tuple #[.int .i64 (latR f d l r x), .int .i64 (truC f d l r x)]) ∧ Below w.heap.size w w' := by
  have f0 := fieldC0 f d l r
  have f1 := fieldC1 f d l r
  have f2 := fieldC2 f d l r
  have f3 := fieldC3 f d l r
  go_enter Try.func28, Try.ntmps28
  go_wp2_with fail
  have HA := hidB (Joins.below_alloc1 w (.cells #[.int .i64 f, .int .i64 d, .int .i64 l, .int .i64 r] 42))
  have HF : Hid (Four (w.alloc (.cells #[.int .i64 f, .int .i64 d, .int .i64 l, .int .i64 r] 42)) w.heap.size f d l r) := hidB ⟨by simp [go_sem], by simp [go_sem], by simp [go_sem], by simp [go_sem]⟩
  revert HA HF
  generalize w.alloc (.cells #[.int .i64 f, .int .i64 d, .int .i64 l, .int .i64 r] 42) = W0
  generalize hBe : w.heap.size = B
  intro HA HF
  replace hBe := hidB hBe
  obtain ⟨c0, c1, c2, c3⟩ := show Four _ _ _ _ _ _ from HF
  go_region_held3 (fun w' => w'.cell? ⟨B, 0, none⟩ = some (.int .i64 f) ∧ w'.cell? ⟨B, 1, none⟩ = some (.int .i64 d) ∧ w'.cell? ⟨B, 2, none⟩ = some (.int .i64 l) ∧ w'.cell? ⟨B, 3, none⟩ = some (.int .i64 r)) (go_keep)
    (first
      | (go_at_call 48; refine (latestBy_four W0.heap.size B f d l r _ ?_ ⟨?_, ?_, ?_, ?_⟩).mono ?_; (simp [*]); (simp [*]); (simp [*]); (simp [*]); (simp [*]); rintro e wA ⟨rfl, ⟨hA0, hA2, hA3, hA4⟩, hA5, hA1⟩)
      | (go_at_call 57; refine (trueOf_latest4 B f d l r x ⟨W0.heap.size, 0, none⟩ _ ?_ ⟨?_, ?_, ?_, ?_⟩).mono ?_; (simp [*]); (simp [*]); (simp [*]); (simp [*]); (simp [*]); rintro e wB ⟨rfl, ⟨hB0, hB2, hB3, hB4⟩, hB1⟩))
  have a1 : Below W0.heap.size W0 wA := (Below.refl _ W0).drew.trans hA1
  have HW : Hid (Below w.heap.size w wB) := hidB (frB (frB (by rw [show w.heap.size = B from hBe]; exact HA) a1) hB1)
  clear a1 hA0 hA2 hA3 hA4 hA5 hB0 hB2 hB3 hB4 c0 c1 c2 c3
  go_wp2
  go_ret2
  exact ⟨rfl, HW⟩

set_option maxHeartbeats 1600000 in
theorem trueOf_earliest (f d l r x : Int) (p : Addr) (w : World) (hp : w.cell? p = some (.int .i64 r)) :
    Calls Try.prog 57 #[cfgV f d l r, .int .i64 x, .func (.func 69) #[] #[.pointer (some p)]] w fun e w' => e = .returned (.tuple #[.int .i64 (earR f d l r x), .int .i64 (truC f d l r x)]) ∧ Below w.heap.size w w' := by
  have hp' := hidB hp
  clear hp
  go_enter Try.func57, Try.ntmps57
  go_wp2_with fail
  refine (bounds_impl f d l r _).mono ?_
  rintro e w1 ⟨rfl, hw⟩
  have HW := hidB ((Joins.below_alloc1 w _).trans (Below.mono hw (by simp)))
  clear hw
  by_cases hb : cfgB f d l r = false
  · have hc := hidB (truC_bad (x := x) hb)
    have hr : Hid (earR f d l r x = 0) := hidB (by rw [earR, hc, if_neg (by decide)])
    go_wp2
    go_ret2
    exact ⟨ret2 (Eq.symm hr) (Eq.symm hc), HW⟩
  rw [Bool.not_eq_false] at hb
  go_wp2_with fail
  refine (within_any x 1 100000 _).mono ?_
  rintro e w2 ⟨rfl, rfl⟩
  by_cases hx : betw x 1 100000 = false
  · have hc := hidB (truC_range hb hx)
    have hr : Hid (earR f d l r x = 0) := hidB (by rw [earR, hc, if_neg (by decide)])
    go_wp2
    go_ret2
    exact ⟨ret2 (Eq.symm hr) (Eq.symm hc), HW⟩
  rw [Bool.not_eq_false] at hx
  have hc := hidB (truC_ok hb hx)
  have hr : Hid (earR f d l r x = earQ r x) := hidB (by rw [earR, hc, if_pos rfl])
  obtain ⟨_, _, _, br0, br1⟩ := cfgB_iff.1 hb
  obtain ⟨bx0, bx1⟩ := betw_iff.1 hx
  have hq : Hid (w2.cell? p = some (.int .i64 r)) := hidB ((Below.cell HW (World.block_lt_of_cell? _ _ hp')).trans hp')
  go_wp2_with fail
  refine (earliest1_any x r p _ (by omega) (by omega) (by omega) (by omega) hq).mono ?_
  rintro e w3 ⟨rfl, rfl⟩
  go_wp2
  go_ret2
  exact ⟨ret2 (Eq.symm hr) (Eq.symm hc), HW⟩

theorem earliestBy_four (H b : Nat) (f d l r : Int) (w : World) (hH : w.heap.size = H) (h : Four w b f d l r) :
    Calls Try.prog 49 #[.int .i64 r] w fun e w' => e = .returned (.func (.func 69) #[] #[.pointer (some ⟨H, 0, none⟩)]) ∧ Four w' b f d l r ∧ w'.cell? ⟨H, 0, none⟩ = some (.int .i64 r) ∧ Hid (Below w.heap.size w w') := by
  subst hH
  exact (earliestBy_any r w).mono fun e w' ⟨h1, h2, h3, h4⟩ => ⟨h1, h.below h4, h2, hidB h4⟩
theorem trueOf_earliest4 (b : Nat) (f d l r x : Int) (p : Addr) (w : World) (hp : w.cell? p = some (.int .i64 r)) (h : Four w b f d l r) :
    Calls Try.prog 57 #[cfgV f d l r, .int .i64 x, .func (.func 69) #[] #[.pointer (some p)]] w fun e w' => e = .returned (.tuple #[.int .i64 (earR f d l r x), .int .i64 (truC f d l r x)]) ∧ Four w' b f d l r ∧ Hid (Below w.heap.size w w') :=
  (trueOf_earliest f d l r x p w hp).mono fun e w' ⟨h1, h2⟩ => ⟨h1, h.below h2, hidB h2⟩
set_option maxHeartbeats 1600000 in
theorem earliest_impl (f d l r x : Int) (w : World) : Calls Try.prog 29 #[cfgV f d l r, .int .i64 x] w fun e w' => e = .returned (.tuple #[.int .i64 (earR f d l r x), .int .i64 (truC f d l r x)]) ∧ Below w.heap.size w w' := by
  have f0 := fieldC0 f d l r
  have f1 := fieldC1 f d l r
  have f2 := fieldC2 f d l r
  have f3 := fieldC3 f d l r
  go_enter Try.func29, Try.ntmps29
  go_wp2_with fail
  have HA := hidB (Joins.below_alloc1 w (.cells #[.int .i64 f, .int .i64 d, .int .i64 l, .int .i64 r] 42))
  have HF : Hid (Four (w.alloc (.cells #[.int .i64 f, .int .i64 d, .int .i64 l, .int .i64 r] 42)) w.heap.size f d l r) := hidB ⟨by simp [go_sem], by simp [go_sem], by simp [go_sem], by simp [go_sem]⟩
  revert HA HF
  generalize w.alloc (.cells #[.int .i64 f, .int .i64 d, .int .i64 l, .int .i64 r] 42) = W0
  generalize hBe : w.heap.size = B
  intro HA HF
  replace hBe := hidB hBe
  obtain ⟨c0, c1, c2, c3⟩ := show Four _ _ _ _ _ _ from HF
  go_region_held3 (fun w' => w'.cell? ⟨B, 0, none⟩ = some (.int .i64 f) ∧ w'.cell? ⟨B, 1, none⟩ = some (.int .i64 d) ∧ w'.cell? ⟨B, 2, none⟩ = some (.int .i64 l) ∧ w'.cell? ⟨B, 3, none⟩ = some (.int .i64 r)) (go_keep)
    (first
      | (go_at_call 49; refine (earliestBy_four W0.heap.size B f d l r _ ?_ ⟨?_, ?_, ?_, ?_⟩).mono ?_; (simp [*]); (simp [*]); (simp [*]); (simp [*]); (simp [*]); rintro e wA ⟨rfl, ⟨hA0, hA2, hA3, hA4⟩, hA5, hA1⟩)
      | (go_at_call 57; refine (trueOf_earliest4 B f d l r x ⟨W0.heap.size, 0, none⟩ _ ?_ ⟨?_, ?_, ?_, ?_⟩).mono ?_; (simp [*]); (simp [*]); (simp [*]); (simp [*]); (simp [*]); rintro e wB ⟨rfl, ⟨hB0, hB2, hB3, hB4⟩, hB1⟩))
  have a1 : Below W0.heap.size W0 wA := (Below.refl _ W0).drew.trans hA1
  have HW : Hid (Below w.heap.size w wB) := hidB (frB (frB (by rw [show w.heap.size = B from hBe]; exact HA) a1) hB1)
  clear a1 hA0 hA2 hA3 hA4 hA5 hB0 hB2 hB3 hB4 c0 c1 c2 c3
  go_wp2
  go_ret2
  exact ⟨rfl, HW⟩

end Go.Proofs.Ytgcbofhjgomjoaa
