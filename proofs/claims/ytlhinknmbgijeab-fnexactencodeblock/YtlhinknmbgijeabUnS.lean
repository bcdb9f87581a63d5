/- Contract of spec.l02Unpack. -/
import Derived.Test.YtlhinknmbgijeabRows
import Derived.Test.YtlhinknmbgijeabGen
import Derived.Test.YtlhinknmbgijeabKeep
import Derived.Test.YtlhinknmbgijeabApp
import Derived.Test.YtlhinknmbgijeabInts
import Derived.Test.YtlhinknmbgijeabNums
import Derived.Test.YtlhinknmbgijeabUnP
import Derived.Test.YtlhinknmbgijeabOwnN
import Derived.WalkKit
import Derived.WalkSpells
namespace Go.Proofs.Ytlhinknmbgijeab
open Go.RowKit
set_option linter.unusedVariables false
set_option maxRecDepth 100000

end Go.Proofs.Ytlhinknmbgijeab
