/- Contracts of laws.toBlock, laws.eqBlock, laws.toPx, laws.eqPx. -/
import Derived.Test.YtlhinknmbgijeabRows
import Derived.Test.YtlhinknmbgijeabGen
import Derived.Test.YtlhinknmbgijeabBlkP
import Derived.Test.YtlhinknmbgijeabPxP
import Derived.WalkKit
import Derived.WalkSpells
import Derived.KernelRfl
namespace Go.Proofs.Ytlhinknmbgijeab
open Go.RowKit
set_option linter.unusedVariables false
set_option maxRecDepth 100000

set_option maxHeartbeats 1600000 in
theorem toBlock_any (x : Bk) (w : World) : Calls Try.prog 7 #[bV x] w fun e w' => e = .returned (bV x) ∧ Below w.heap.size w w' := by
  go_enter Try.func7, Try.ntmps7
  go_wp2
  exact bodyPost_ret (v := bV x) (by simp [results, Try.results7, go_sem]) rfl ⟨rfl, fr (Joins.below_alloc2 _ _ _) (Joins.below_alloc1 _ _)⟩

end Go.Proofs.Ytlhinknmbgijeab
