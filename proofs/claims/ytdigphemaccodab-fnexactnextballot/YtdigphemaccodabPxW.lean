/- Plain: worlds in which some memory is new. -/
import Derived.Test.YtdigphemaccodabGen
import Derived.Test.YtdigphemaccodabKeep
import Derived.WalkKit
namespace Go.Proofs.Ytdigphemaccodab
open Go.RowKit
set_option linter.unusedVariables false
theorem below_w (w : World) (a b c d : Obj) : Below w.heap.size w ((((w.alloc a).alloc b).alloc c).alloc d) := fr (Joins.below_alloc2 _ _ _) (Joins.below_alloc2 _ _ _)
end Go.Proofs.Ytdigphemaccodab
