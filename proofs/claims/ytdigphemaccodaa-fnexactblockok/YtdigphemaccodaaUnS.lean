/- Contract of spec.l02Unpack. -/
import Derived.Test.YtdigphemaccodaaRows
import Derived.Test.YtdigphemaccodaaGen
import Derived.Test.YtdigphemaccodaaKeep
import Derived.Test.YtdigphemaccodaaApp
import Derived.Test.YtdigphemaccodaaInts
import Derived.Test.YtdigphemaccodaaNums
import Derived.Test.YtdigphemaccodaaUnP
import Derived.Test.YtdigphemaccodaaOwnN
import Derived.WalkKit
import Derived.WalkSpells
namespace Go.Proofs.Ytdigphemaccodaa
open Go.RowKit
set_option linter.unusedVariables false
set_option maxRecDepth 100000

end Go.Proofs.Ytdigphemaccodaa
