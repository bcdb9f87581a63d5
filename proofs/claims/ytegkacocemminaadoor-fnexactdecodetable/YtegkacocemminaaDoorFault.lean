/- Contract of impl.listFault. -/
import Derived.Test.YtegkacocemminaaDoorRows
import Derived.Test.YtegkacocemminaaDoorGen
import Derived.Test.YtegkacocemminaaDoorInts
import Derived.Test.YtegkacocemminaaDoorNums
import Derived.WalkKit
import Derived.WalkSpells
namespace Go.Proofs.YtegkacocemminaaDoor
open Go.RowKit
set_option linter.unusedVariables false
set_option maxRecDepth 100000

end Go.Proofs.YtegkacocemminaaDoor
