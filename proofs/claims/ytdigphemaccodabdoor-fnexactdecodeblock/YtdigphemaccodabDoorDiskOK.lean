/- Contracts of DiskOK, of the program and of its model: both answer one plain function of the disk. -/
import Derived.Test.YtdigphemaccodabDoorRows
import Derived.Test.YtdigphemaccodabDoorGen
import Derived.WalkKit
import Derived.WalkSpells
namespace Go.Proofs.YtdigphemaccodabDoor
open Go.RowKit
set_option linter.unusedVariables false
set_option maxRecDepth 100000

theorem l01In_any (n low high : Int) (w : World) : Calls Tryd.prog 19 #[.int .i64 n, .int .i64 low, .int .i64 high] w fun e w' => e = .returned (.bool (inB n low high)) ∧ w' = w := by
  go_enter Tryd.func19, Tryd.ntmps19
  go_wp2
  all_goals
    go_ret
    exact ⟨ret_bool (by rw [Bool.eq_iff_iff]; simp [inB]; omega), rfl⟩

end Go.Proofs.YtdigphemaccodabDoor
