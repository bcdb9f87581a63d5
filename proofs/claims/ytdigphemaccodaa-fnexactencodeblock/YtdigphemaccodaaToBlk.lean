/- Contracts of laws.toBlock, laws.eqBlock, laws.toPx, laws.eqPx. -/
import Derived.Test.YtdigphemaccodaaRows
import Derived.Test.YtdigphemaccodaaGen
import Derived.Test.YtdigphemaccodaaBlkP
import Derived.Test.YtdigphemaccodaaPxP
import Derived.WalkKit
import Derived.WalkSpells
import Derived.KernelRfl
namespace Go.Proofs.Ytdigphemaccodaa
open Go.RowKit
set_option linter.unusedVariables false
set_option maxRecDepth 100000

set_option maxHeartbeats 1600000 in
theorem toBlock_any (x : Bk) (w : World) : Calls Try.prog 23 #[bV x] w fun e w' => e = .returned (bV x) ∧ Below w.heap.size w w' := by
  go_enter Try.func23, Try.ntmps23
  go_wp2
  exact bodyPost_ret (v := bV x) (by simp [results, Try.results23, go_sem]) rfl ⟨rfl, fr (Joins.below_alloc2 _ _ _) (Joins.below_alloc1 _ _)⟩

end Go.Proofs.Ytdigphemaccodaa
