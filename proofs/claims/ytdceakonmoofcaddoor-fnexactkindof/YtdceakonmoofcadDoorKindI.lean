/- Contract of impl.kindOK. -/
import Derived.Test.YtdceakonmoofcadDoorRows
import Derived.Test.YtdceakonmoofcadDoorGen
import Derived.Test.YtdceakonmoofcadDoorInts
import Derived.Test.YtdceakonmoofcadDoorSealP
import Derived.WalkKit
import Derived.WalkSpells
import Derived.Laws.BytesArg
import Derived.Deep.RegionWith
namespace Go.Proofs.YtdceakonmoofcadDoor
open Go.RowKit
set_option linter.unusedVariables false

theorem kindOK_any (n : Int) (w : World) : Calls Tryd.prog 14 #[.int .i64 n] w fun e w' => e = .returned (.bool (kindB n)) ∧ w' = w := by
  go_enter Tryd.func14, Tryd.ntmps14
  go_wp2
  all_goals
    go_ret
    exact ⟨ret_bool (by rw [Bool.eq_iff_iff]; simp [kindB, inB]; omega), rfl⟩

end Go.Proofs.YtdceakonmoofcadDoor
