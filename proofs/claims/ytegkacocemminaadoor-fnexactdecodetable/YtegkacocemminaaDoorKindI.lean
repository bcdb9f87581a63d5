/- Contract of impl.kindOK. -/
import Derived.Test.YtegkacocemminaaDoorRows
import Derived.Test.YtegkacocemminaaDoorGen
import Derived.Test.YtegkacocemminaaDoorInts
import Derived.Test.YtegkacocemminaaDoorSealP
import Derived.WalkKit
import Derived.WalkSpells
import Derived.Laws.BytesArg
import Derived.Deep.RegionWith
namespace Go.Proofs.YtegkacocemminaaDoor
open Go.RowKit
set_option linter.unusedVariables false
set_option maxRecDepth 100000

theorem kindOK_any (n : Int) (w : World) : Calls Tryd.prog 27 #[.int .i64 n] w fun e w' => e = .returned (.bool (kindB n)) ∧ w' = w := by
  go_enter Tryd.func27, Tryd.ntmps27
  go_wp2
  all_goals
    go_ret
    exact ⟨ret_bool (by rw [Bool.eq_iff_iff]; simp [kindB, inB]; omega), rfl⟩

end Go.Proofs.YtegkacocemminaaDoor
