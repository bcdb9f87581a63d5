/- Contract of impl.kindOK. -/
import Derived.Test.YtgcbofhjgomjoaaDoorRows
import Derived.Test.YtgcbofhjgomjoaaDoorGen
import Derived.Test.YtgcbofhjgomjoaaDoorInts
import Derived.Test.YtgcbofhjgomjoaaDoorSealP
import Derived.WalkKit
import Derived.WalkSpells
import Derived.Laws.BytesArg
import Derived.Deep.RegionWith
namespace Go.Proofs.YtgcbofhjgomjoaaDoor
open Go.RowKit
set_option linter.unusedVariables false

theorem kindOK_any (n : Int) (w : World) : Calls Tryd.prog 25 #[.int .i64 n] w fun e w' => e = .returned (.bool (kindB n)) ∧ w' = w := by
  go_enter Tryd.func25, Tryd.ntmps25
  go_wp2
  all_goals
    go_ret
    exact ⟨ret_bool (by rw [Bool.eq_iff_iff]; simp [kindB, inB]; omega), rfl⟩

end Go.Proofs.YtgcbofhjgomjoaaDoor
