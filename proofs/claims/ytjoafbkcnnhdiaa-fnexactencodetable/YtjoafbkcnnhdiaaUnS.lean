/- Contract of spec.l02Unpack. -/
import Derived.Test.YtjoafbkcnnhdiaaRows
import Derived.Test.YtjoafbkcnnhdiaaGen
import Derived.Test.YtjoafbkcnnhdiaaKeep
import Derived.Test.YtjoafbkcnnhdiaaApp
import Derived.Test.YtjoafbkcnnhdiaaInts
import Derived.Test.YtjoafbkcnnhdiaaNums
import Derived.Test.YtjoafbkcnnhdiaaUnP
import Derived.Test.YtjoafbkcnnhdiaaOwnN
import Derived.WalkKit
import Derived.WalkSpells
namespace Go.Proofs.Ytjoafbkcnnhdiaa
open Go.RowKit
set_option linter.unusedVariables false
set_option maxRecDepth 100000

end Go.Proofs.Ytjoafbkcnnhdiaa
