/- Contract of spec.l02Unpack. -/
import Derived.Test.YtkaiglhljpehpabRows
import Derived.Test.YtkaiglhljpehpabGen
import Derived.Test.YtkaiglhljpehpabKeep
import Derived.Test.YtkaiglhljpehpabApp
import Derived.Test.YtkaiglhljpehpabInts
import Derived.Test.YtkaiglhljpehpabNums
import Derived.Test.YtkaiglhljpehpabUnP
import Derived.Test.YtkaiglhljpehpabOwnN
import Derived.WalkKit
import Derived.WalkSpells
namespace Go.Proofs.Ytkaiglhljpehpab
open Go.RowKit
set_option linter.unusedVariables false
set_option maxRecDepth 100000

end Go.Proofs.Ytkaiglhljpehpab
