/- Contracts of laws.toBlock, laws.eqBlock, laws.toPx, laws.eqPx. -/
import Derived.Test.YtdigphemaccodabRows
import Derived.Test.YtdigphemaccodabGen
import Derived.Test.YtdigphemaccodabBlkP
import Derived.Test.YtdigphemaccodabPxP
import Derived.WalkKit
import Derived.WalkSpells
import Derived.KernelRfl
namespace Go.Proofs.Ytdigphemaccodab
open Go.RowKit
set_option linter.unusedVariables false
set_option maxRecDepth 100000

set_option maxHeartbeats 1600000 in
theorem toBlock_any (x : Bk) (w : World) : Calls Try.prog 39 #[bV x] w fun e w' => e = .returned (bV x) ∧ Below w.heap.size w w' := by
  go_enter Try.func39, Try.ntmps39
  go_wp2
  exact bodyPost_ret (v := bV x) (by simp [results, Try.results39, go_sem]) rfl ⟨rfl, fr (Joins.below_alloc2 _ _ _) (Joins.below_alloc1 _ _)⟩

set_option maxHeartbeats 1600000 in
theorem eqBlock_same (x : Bk) (w : World) : Calls Try.prog 43 #[bV x, bV x] w fun e w' => e = .returned (.bool true) ∧ Below w.heap.size w w' := by
  go_enter Try.func43, Try.ntmps43
  go_wp2
  go_ret
  exact ⟨rfl, Joins.below_alloc2 _ _ _⟩

set_option maxHeartbeats 1600000 in
theorem toPx_any (x : Pxs) (w : World) : Calls Try.prog 9 #[pV x] w fun e w' => e = .returned (pV x) ∧ Below w.heap.size w w' := by
  go_enter Try.func9, Try.ntmps9
  go_wp2
  exact bodyPost_ret (v := pV x) (by simp [results, Try.results9, go_sem]) rfl ⟨rfl, fr (Joins.below_alloc2 _ _ _) (Joins.below_alloc1 _ _)⟩

set_option maxHeartbeats 1600000 in
theorem eqPx_same (x : Pxs) (w : World) : Calls Try.prog 13 #[pV x, pV x] w fun e w' => e = .returned (.bool true) ∧ Below w.heap.size w w' := by
  go_enter Try.func13, Try.ntmps13
  go_wp2
  go_ret
  exact ⟨rfl, Joins.below_alloc2 _ _ _⟩

end Go.Proofs.Ytdigphemaccodab
