/- The walk of laws.FnExactSumOf. -/
import Derived.Test.YtdceakonmoofcadRows
import Derived.Test.YtdceakonmoofcadGen
import Derived.Test.YtdceakonmoofcadSum
import Derived.WalkKit
import Derived.WalkSpells
namespace Go.Proofs.Ytdceakonmoofcad
open Go.RowKit
set_option linter.unusedVariables false

theorem lawSumOf (s : ByteArray) (w : World) (hs : s.size ≤ maxLen) :
    Calls Try.prog 3 #[.string s] w fun e w' => e = .returned (.bool true) ∧ Below w.heap.size w w' := by
  unfold maxLen at hs
  by_cases h : 1048576 < s.size
  · go_enter Try.func3, Try.ntmps3
    go_wp2
    go_ret
    exact ⟨rfl, Below.refl _ _⟩
  · go_enter Try.func3, Try.ntmps3
    go_wp2_with (first | (go_at_call 4; refine (sumOf_spec _ _ (by omega)).mono ?_; rintro e w' ⟨rfl, rfl⟩) | (go_at_call 5; refine (sumOf_impl _ _ (by omega)).mono ?_; rintro e w' ⟨rfl, rfl⟩))
    go_ret
    exact ⟨rfl, Below.refl _ _⟩

end Go.Proofs.Ytdceakonmoofcad
