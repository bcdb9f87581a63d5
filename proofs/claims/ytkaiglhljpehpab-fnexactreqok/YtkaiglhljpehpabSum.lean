/- Contracts of SumOf, of the program and of its model. -/
import Derived.Test.YtkaiglhljpehpabRows
import Derived.Test.YtkaiglhljpehpabGen
import Derived.Test.YtkaiglhljpehpabRec
import Derived.WalkKit
import Derived.WalkSpells
namespace Go.Proofs.Ytkaiglhljpehpab
open Go.RowKit
set_option linter.unusedVariables false
set_option maxRecDepth 100000

end Go.Proofs.Ytkaiglhljpehpab
