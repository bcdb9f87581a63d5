/- The walk of laws.FnExactConfigOK. -/
import Derived.Test.YtgcbofhjgomjoadRows
import Derived.Test.YtgcbofhjgomjoadClkB
import Derived.Test.YtgcbofhjgomjoadToCfg
import Derived.Test.YtgcbofhjgomjoadClkF
import Derived.Test.YtgcbofhjgomjoadClkI
import Derived.Test.YtgcbofhjgomjoadClkC
import Derived.Test.YtgcbofhjgomjoadClkH
import Derived.Test.YtgcbofhjgomjoadClkG
import Derived.Test.YtgcbofhjgomjoadClkO
import Derived.WalkKit
import Derived.WalkSpells
import Derived.KernelRfl
import Derived.Lib.SmallJoins
namespace Go.Proofs.Ytgcbofhjgomjoad
open Go.RowKit
set_option linter.unusedVariables false

set_option maxHeartbeats 3200000 in
theorem lawConfigOK (f d l r : Int) (w : World) : Calls Try.prog 5 #[cfgV f d l r] w fun e w' => e = .returned (.bool true) ∧ Below w.heap.size w w' := by
  have S0 : Hid (StC w (w.alloc (.cells #[.int .i64 f, .int .i64 d, .int .i64 l, .int .i64 r] 31)) w.heap.size f d l r) := hidB ⟨⟨by simp [go_sem], by simp [go_sem], by simp [go_sem], by simp [go_sem]⟩, Joins.below_alloc1 _ _⟩
  go_enter Try.func5, Try.ntmps5
  go_wp2_with fail
  refine (toCfg_any f d l r _).mono ?_
  rintro e w1 ⟨rfl, hb⟩
  have S1 := hidB ((show StC _ _ _ _ _ _ _ from S0).next hb)
  obtain ⟨c0, c1, c2, c3⟩ := (show StC _ _ _ _ _ _ _ from S1).four
  clear hb S0
  go_wp2_with fail
  refine (configOK_spec f d l r _).mono ?_
  rintro e w2 ⟨rfl, hb⟩
  have S2 := hidB ((show StC _ _ _ _ _ _ _ from S1).next hb)
  obtain ⟨c0, c1, c2, c3⟩ := (show StC _ _ _ _ _ _ _ from S2).four
  clear hb S1
  go_wp2_with fail
  refine (toCfg_any f d l r _).mono ?_
  rintro e w3 ⟨rfl, hb⟩
  have S3 := hidB ((show StC _ _ _ _ _ _ _ from S2).next hb)
  obtain ⟨c0, c1, c2, c3⟩ := (show StC _ _ _ _ _ _ _ from S3).four
  clear hb S2
  go_wp2_with fail
  refine (configOK_impl f d l r _).mono ?_
  rintro e w4 ⟨rfl, hb⟩
  have S4 := hidB ((show StC _ _ _ _ _ _ _ from S3).next hb)
  obtain ⟨c0, c1, c2, c3⟩ := (show StC _ _ _ _ _ _ _ from S4).four
  clear hb S3
  clear c0 c1 c2 c3
  go_wp2
  go_ret
  exact ⟨rfl, (show StC _ _ _ _ _ _ _ from S4).below⟩

end Go.Proofs.Ytgcbofhjgomjoad
