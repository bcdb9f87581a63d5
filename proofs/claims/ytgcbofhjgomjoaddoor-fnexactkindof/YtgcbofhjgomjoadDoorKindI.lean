/- Contract of impl.kindOK. -/
import Derived.Test.YtgcbofhjgomjoadDoorRows
import Derived.Test.YtgcbofhjgomjoadDoorGen
import Derived.Test.YtgcbofhjgomjoadDoorInts
import Derived.Test.YtgcbofhjgomjoadDoorSealP
import Derived.WalkKit
import Derived.WalkSpells
import Derived.Laws.BytesArg
import Derived.Deep.RegionWith
namespace Go.Proofs.YtgcbofhjgomjoadDoor
open Go.RowKit
set_option linter.unusedVariables false

theorem kindOK_any (n : Int) (w : World) : Calls Tryd.prog 20 #[.int .i64 n] w fun e w' => e = .returned (.bool (kindB n)) ∧ w' = w := by
  go_enter Tryd.func20, Tryd.ntmps20
  go_wp2
  all_goals
    go_ret
    exact ⟨ret_bool (by rw [Bool.eq_iff_iff]; simp [kindB, inB]; omega), rfl⟩

end Go.Proofs.YtgcbofhjgomjoadDoor
