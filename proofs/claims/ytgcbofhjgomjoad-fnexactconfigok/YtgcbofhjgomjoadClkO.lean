/- Contract of spec.ConfigOK, out of bounds. -/
import Derived.Test.YtgcbofhjgomjoadRows
import Derived.Test.YtgcbofhjgomjoadClkB
import Derived.Test.YtgcbofhjgomjoadClkF
import Derived.Test.YtgcbofhjgomjoadClkI
import Derived.Test.YtgcbofhjgomjoadClkC
import Derived.Test.YtgcbofhjgomjoadClkH
import Derived.Test.YtgcbofhjgomjoadClkG
import Derived.WalkKit
import Derived.WalkSpells
import Derived.KernelRfl
import Derived.Lib.SmallJoins
import Derived.Deep.RegionHeld3
import Derived.Deep.RegionWith
import Derived.BigQuiet
import Derived.Deep.QuietTactic
namespace Go.Proofs.Ytgcbofhjgomjoad
open Go.RowKit
set_option linter.unusedVariables false

/-- The worlds that a test of bounds may leave. -/
structure ClsC (W0 : World) (B : Nat) (f d l r : Int) (w' : World) : Prop where
  four : Four w' B f d l r
  below : Below W0.heap.size W0 w'
theorem region_cls {P : Program} {C : World → Prop} {id : Nat} {Q : Exit → Act → World → Prop} {a : Act} {w : World} {l : List Oper} (hm : P.follows .mixedOrders = true) (hB : Region.lexB .any l.toArray = true) (hC : C w.drew)
    (h : wpQuiet P l.toArray C (fun a' => ∀ w', C w' → Q .normal a' w') l a) : (Code.region id l.toArray true).wp P Q a w :=
  wp_region_quiet (C := C) hm hB hC (by simpa using h)

set_option maxHeartbeats 800000 in
theorem configOK_spec_no (f d l r : Int) (w : World) (hb : cfgB f d l r = false) : Calls Try.prog 12 #[cfgV f d l r] w fun e w' => e = .returned (.bool (cokB f d l r)) ∧ Below w.heap.size w w' := by
  have HA : Hid (Below w.heap.size w (w.alloc (.cells #[.int .i64 f, .int .i64 d, .int .i64 l, .int .i64 r] 33))) := hidB (Joins.below_alloc1 w _)
  have HF : Hid (Four (w.alloc (.cells #[.int .i64 f, .int .i64 d, .int .i64 l, .int .i64 r] 33)) w.heap.size f d l r) := hidB ⟨by simp [go_sem], by simp [go_sem], by simp [go_sem], by simp [go_sem]⟩
  have hr := hidB (cok_no hb)
  go_enter Try.func12, Try.ntmps12
  go_wp2_with fail
  revert HA HF
  generalize w.alloc (.cells #[.int .i64 f, .int .i64 d, .int .i64 l, .int .i64 r] 33) = W0
  generalize hBe : w.heap.size = B
  intro HA HF
  replace hBe := hidB hBe
  obtain ⟨c0, c1, c2, c3⟩ := show Four _ _ _ _ _ _ from HF
  refine region_cls (C := ClsC W0 B f d l r) (by kernel_rfl) (by kernel_rfl) ⟨⟨c0, c1, c2, c3⟩, (Below.refl _ W0).drew⟩ ?_
  refine BigFrame.wpQuiet_want rfl (fun K hK => ?_)
  refine ⟨cfgV f d l r, fun w' hw => ?_, ?_⟩
  · obtain ⟨⟨k0, k1, k2, k3⟩, _⟩ := hw
    clear c0 c1 c2 c3 HA HF
    simp [Oper.quietAt, Oper.quietUpon, go_sem, k0, k1, k2, k3]
  refine hK _ ?_
  clear hK K
  simp [Act.put]
  refine BigFrame.wpQuiet_want rfl (fun K hK => ?_)
  refine ⟨.bool false, fun w' hw => ?_, ?_⟩
  · obtain ⟨hf, hw2⟩ := hw
    simp [Oper.quietAt, Oper.quietUpon, go_sem]
    refine (bounds_spec f d l r _).mono ?_
    rintro e w3 ⟨rfl, hb3⟩
    exact ⟨by rw [hb], ⟨hf.below hb3, frB hw2 hb3⟩⟩
  refine hK _ ?_
  clear hK K
  simp [Act.put]
  repeat (go_big_quiet_step (fail))
  refine BigFrame.wpQuiet_want rfl (fun K hK => ?_)
  refine ⟨.bool false, fun w' hw => ?_, ?_⟩
  · simp [Oper.quietAt, Oper.quietUpon, go_sem]
  refine hK _ ?_
  clear hK K
  simp [Act.put]
  repeat (go_big_quiet_step (fail))
  refine wpQuiet_nil ?_
  intro w2 hw
  have HW : Hid (Below w.heap.size w w2) := hidB (frB (b := W0) (by rw [show w.heap.size = B from hBe]; exact HA) hw.below)
  clear hw c0 c1 c2 c3
  go_wp2
  go_ret
  rw [show cokB f d l r = false from hr]
  exact ⟨rfl, HW⟩

theorem configOK_spec (f d l r : Int) (w : World) : Calls Try.prog 12 #[cfgV f d l r] w fun e w' => e = .returned (.bool (cokB f d l r)) ∧ Below w.heap.size w w' := by
  by_cases hb : cfgB f d l r = true
  · exact configOK_spec_yes f d l r w hb
  · rw [Bool.not_eq_true] at hb
    exact configOK_spec_no f d l r w hb

end Go.Proofs.Ytgcbofhjgomjoad
