/- Contract of spec.l02Unpack. -/
import Derived.Test.YtdigphemaccodabRows
import Derived.Test.YtdigphemaccodabGen
import Derived.Test.YtdigphemaccodabKeep
import Derived.Test.YtdigphemaccodabApp
import Derived.Test.YtdigphemaccodabInts
import Derived.Test.YtdigphemaccodabNums
import Derived.Test.YtdigphemaccodabUnP
import Derived.Test.YtdigphemaccodabOwnN
import Derived.WalkKit
import Derived.WalkSpells
namespace Go.Proofs.Ytdigphemaccodab
open Go.RowKit
set_option linter.unusedVariables false
set_option maxRecDepth 100000

end Go.Proofs.Ytdigphemaccodab
