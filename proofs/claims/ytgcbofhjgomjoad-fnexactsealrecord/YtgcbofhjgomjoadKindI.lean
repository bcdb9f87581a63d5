/- Contract of impl.kindOK. -/
import Derived.Test.YtgcbofhjgomjoadRows
import Derived.Test.YtgcbofhjgomjoadGen
import Derived.Test.YtgcbofhjgomjoadInts
import Derived.Test.YtgcbofhjgomjoadSealP
import Derived.WalkKit
import Derived.WalkSpells
import Derived.Laws.BytesArg
import Derived.Deep.RegionWith
namespace Go.Proofs.Ytgcbofhjgomjoad
open Go.RowKit
set_option linter.unusedVariables false

theorem kindOK_any (n : Int) (w : World) : Calls Try.prog 19 #[.int .i64 n] w fun e w' => e = .returned (.bool (kindB n)) ∧ w' = w := by
  go_enter Try.func19, Try.ntmps19
  go_wp2
  all_goals
    go_ret
    exact ⟨ret_bool (by rw [Bool.eq_iff_iff]; simp [kindB, inB]; omega), rfl⟩

end Go.Proofs.Ytgcbofhjgomjoad
