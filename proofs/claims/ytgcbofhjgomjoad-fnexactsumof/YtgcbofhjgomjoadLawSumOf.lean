/- The walk of laws.FnExactSumOf. -/
import Derived.Test.YtgcbofhjgomjoadRows
import Derived.Test.YtgcbofhjgomjoadGen
import Derived.Test.YtgcbofhjgomjoadSum
import Derived.Test.YtgcbofhjgomjoadSumX
import Derived.WalkKit
import Derived.WalkSpells
namespace Go.Proofs.Ytgcbofhjgomjoad
open Go.RowKit
set_option linter.unusedVariables false

theorem lawSumOf (s : ByteArray) (w : World) (hs : s.size ≤ maxLen) :
    Calls Try.prog 4 #[.string s] w fun e w' => e = .returned (.bool true) ∧ Below w.heap.size w w' := by
  unfold maxLen at hs
  by_cases h : 1048576 < s.size
  · go_enter Try.func4, Try.ntmps4
    go_wp2
    go_ret
    exact ⟨rfl, Below.refl _ _⟩
  · go_enter Try.func4, Try.ntmps4
    go_wp2_with (first | (go_at_call 10; refine (sumOf_spec _ _ (by omega)).mono ?_; rintro e w' ⟨rfl, rfl⟩) | (go_at_call 11; refine (sumOf_impl _ _ (by omega)).mono ?_; rintro e w' ⟨rfl, rfl⟩))
    go_ret
    exact ⟨rfl, Below.refl _ _⟩

end Go.Proofs.Ytgcbofhjgomjoad
