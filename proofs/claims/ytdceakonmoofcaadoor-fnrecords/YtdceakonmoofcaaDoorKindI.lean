/- Contract of impl.kindOK. -/
import Derived.Test.YtdceakonmoofcaaDoorRows
import Derived.Test.YtdceakonmoofcaaDoorGen
import Derived.Test.YtdceakonmoofcaaDoorInts
import Derived.Test.YtdceakonmoofcaaDoorSealP
import Derived.WalkKit
import Derived.WalkSpells
import Derived.Laws.BytesArg
import Derived.Deep.RegionWith
namespace Go.Proofs.YtdceakonmoofcaaDoor
open Go.RowKit
set_option linter.unusedVariables false

theorem kindOK_any (n : Int) (w : World) : Calls Tryd.prog 28 #[.int .i64 n] w fun e w' => e = .returned (.bool (kindB n)) ∧ w' = w := by
  go_enter Tryd.func28, Tryd.ntmps28
  go_wp2
  all_goals
    go_ret
    exact ⟨ret_bool (by rw [Bool.eq_iff_iff]; simp [kindB, inB]; omega), rfl⟩

end Go.Proofs.YtdceakonmoofcaaDoor
