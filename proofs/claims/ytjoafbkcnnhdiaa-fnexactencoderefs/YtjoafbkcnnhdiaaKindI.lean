/- Contract of impl.kindOK. -/
import Derived.Test.YtjoafbkcnnhdiaaRows
import Derived.Test.YtjoafbkcnnhdiaaGen
import Derived.Test.YtjoafbkcnnhdiaaInts
import Derived.Test.YtjoafbkcnnhdiaaSealP
import Derived.WalkKit
import Derived.WalkSpells
import Derived.Laws.BytesArg
import Derived.Deep.RegionWith
namespace Go.Proofs.Ytjoafbkcnnhdiaa
open Go.RowKit
set_option linter.unusedVariables false
set_option maxRecDepth 100000

theorem kindOK_any (n : Int) (w : World) : Calls Try.prog 59 #[.int .i64 n] w fun e w' => e = .returned (.bool (kindB n)) ∧ w' = w := by
  go_enter Try.func59, Try.ntmps59
  go_wp2
  all_goals
    go_ret
    exact ⟨ret_bool (by rw [Bool.eq_iff_iff]; simp [kindB, inB]; omega), rfl⟩

end Go.Proofs.Ytjoafbkcnnhdiaa
