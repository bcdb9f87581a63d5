/- Contracts of laws.toBlock, laws.eqBlock, laws.toPx, laws.eqPx. -/
import Derived.Test.YtdigphemaccodabDoorRows
import Derived.Test.YtdigphemaccodabDoorGen
import Derived.Test.YtdigphemaccodabDoorBlkP
import Derived.Test.YtdigphemaccodabDoorPxP
import Derived.WalkKit
import Derived.WalkSpells
import Derived.KernelRfl
namespace Go.Proofs.YtdigphemaccodabDoor
open Go.RowKit
set_option linter.unusedVariables false
set_option maxRecDepth 100000

set_option maxHeartbeats 1600000 in
theorem eqBlock_same (x : Bk) (w : World) : Calls Tryd.prog 6 #[bV x, bV x] w fun e w' => e = .returned (.bool true) ∧ Below w.heap.size w w' := by
  go_enter Tryd.func6, Tryd.ntmps6
  go_wp2
  go_ret
  exact ⟨rfl, Joins.below_alloc2 _ _ _⟩

end Go.Proofs.YtdigphemaccodabDoor
