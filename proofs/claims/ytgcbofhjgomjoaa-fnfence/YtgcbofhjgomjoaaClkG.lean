/- Contract of spec.ConfigOK. -/
import Derived.Test.YtgcbofhjgomjoaaRows
import Derived.Test.YtgcbofhjgomjoaaClkB
import Derived.Test.YtgcbofhjgomjoaaClkF
import Derived.Test.YtgcbofhjgomjoaaClkI
import Derived.Test.YtgcbofhjgomjoaaClkC
import Derived.Test.YtgcbofhjgomjoaaClkH
import Derived.WalkKit
import Derived.WalkSpells
import Derived.KernelRfl
import Derived.Lib.SmallJoins
import Derived.Deep.RegionHeld3
import Derived.Deep.RegionWith
namespace Go.Proofs.Ytgcbofhjgomjoaa
open Go.RowKit
set_option linter.unusedVariables false

theorem bounds_four (b : Nat) (f d l r : Int) (w : World) (h : Four w b f d l r) :
    Calls Try.prog 50 #[cfgV f d l r] w fun e w' => e = .returned (.bool (cfgB f d l r)) ∧ Four w' b f d l r ∧ Hid (Below w.heap.size w w') :=
  (bounds_spec f d l r w).mono fun e w' ⟨h1, h2⟩ => ⟨h1, h.below h2, hidB h2⟩

set_option maxHeartbeats 1600000 in
theorem configOK_spec_yes (f d l r : Int) (w : World) (hb : cfgB f d l r = true) : Calls Try.prog 22 #[cfgV f d l r] w fun e w' => e = .returned (.bool (cokB f d l r)) ∧ Below w.heap.size w w' := by
  have f0 := fieldC0 f d l r
  have f1 := fieldC1 f d l r
  have f2 := fieldC2 f d l r
  have f3 := fieldC3 f d l r
  have HA : Hid (Below w.heap.size w (w.alloc (.cells #[.int .i64 f, .int .i64 d, .int .i64 l, .int .i64 r] 42))) := hidB (Joins.below_alloc1 w _)
  have HF : Hid (Four (w.alloc (.cells #[.int .i64 f, .int .i64 d, .int .i64 l, .int .i64 r] 42)) w.heap.size f d l r) := hidB ⟨by simp [go_sem], by simp [go_sem], by simp [go_sem], by simp [go_sem]⟩
  have hr := hidB (cok_yes hb)
  obtain ⟨⟨bf0, bf1⟩, ⟨bd0, bd1⟩, ⟨bl0, bl1⟩, br0, br1⟩ := cfgB_iff.1 hb
  obtain ⟨ql0, ql1⟩ := latQ_le (x := f) br0 br1 (by omega) (by omega)
  obtain ⟨qe0, qe1⟩ := earQ_le (x := d) br0 br1 (by omega) (by omega)
  have wr : IntKind.i64.wrap (latQ r f + l) = latQ r f + l := by rw [IntKind.wrap_i64]; omega
  go_enter Try.func22, Try.ntmps22
  go_wp2_with fail
  revert HA HF
  generalize w.alloc (.cells #[.int .i64 f, .int .i64 d, .int .i64 l, .int .i64 r] 42) = W0
  generalize hBe : w.heap.size = B
  intro HA HF
  replace hBe := hidB hBe
  obtain ⟨c0, c1, c2, c3⟩ := show Four _ _ _ _ _ _ from HF
  go_region_held3 (fun w' => w'.cell? ⟨B, 0, none⟩ = some (.int .i64 f) ∧ w'.cell? ⟨B, 1, none⟩ = some (.int .i64 d) ∧ w'.cell? ⟨B, 2, none⟩ = some (.int .i64 l) ∧ w'.cell? ⟨B, 3, none⟩ = some (.int .i64 r)) (go_keep)
    (first
      | (go_at_call 50; refine (bounds_four B f d l r _ ⟨?_, ?_, ?_, ?_⟩).mono ?_; (simp [*]); (simp [*]); (simp [*]); (simp [*]); rintro e wA ⟨rfl, ⟨hA0, hA2, hA3, hA4⟩, hA1⟩)
      | (go_at_call 51; refine (lat_spec r f _ (by omega) (by omega) (by omega) (by omega)).mono ?_; rintro e wC ⟨rfl, rfl⟩)
      | (go_at_call 52; refine (ear_spec r d _ (by omega) (by omega) (by omega) (by omega)).mono ?_; rintro e wD ⟨rfl, rfl⟩))
  have HW : Hid (Below w.heap.size w wD) := hidB (frB (frB (b := W0) (by rw [show w.heap.size = B from hBe]; exact HA) ((Below.refl _ W0).drew)) hA1)
  go_wp2
  go_ret
  rw [show cokB f d l r = decide (latQ r f + l < earQ r d) from hr]
  exact ⟨rfl, HW⟩

end Go.Proofs.Ytgcbofhjgomjoaa
