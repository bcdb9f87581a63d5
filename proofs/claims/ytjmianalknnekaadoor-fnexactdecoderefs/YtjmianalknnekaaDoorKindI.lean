/- Contract of impl.kindOK. -/
import Derived.Test.YtjmianalknnekaaDoorRows
import Derived.Test.YtjmianalknnekaaDoorGen
import Derived.Test.YtjmianalknnekaaDoorInts
import Derived.Test.YtjmianalknnekaaDoorSealP
import Derived.WalkKit
import Derived.WalkSpells
import Derived.Laws.BytesArg
import Derived.Deep.RegionWith
namespace Go.Proofs.YtjmianalknnekaaDoor
open Go.RowKit
set_option linter.unusedVariables false
set_option maxRecDepth 100000

theorem kindOK_any (n : Int) (w : World) : Calls Tryd.prog 48 #[.int .i64 n] w fun e w' => e = .returned (.bool (kindB n)) ∧ w' = w := by
  go_enter Tryd.func48, Tryd.ntmps48
  go_wp2
  all_goals
    go_ret
    exact ⟨ret_bool (by rw [Bool.eq_iff_iff]; simp [kindB, inB]; omega), rfl⟩

end Go.Proofs.YtjmianalknnekaaDoor
