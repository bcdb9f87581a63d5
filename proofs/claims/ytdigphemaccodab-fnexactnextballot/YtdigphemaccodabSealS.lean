/- Contracts of the model's l02Kind, l02Seal. -/
import Derived.Test.YtdigphemaccodabRows
import Derived.Test.YtdigphemaccodabGen
import Derived.Test.YtdigphemaccodabInts
import Derived.Test.YtdigphemaccodabNums
import Derived.Test.YtdigphemaccodabSum
import Derived.Test.YtdigphemaccodabPack
import Derived.Test.YtdigphemaccodabSealP
import Derived.WalkKit
import Derived.WalkSpells
import Derived.Laws.BytesArg
import Derived.Deep.RegionWith
namespace Go.Proofs.Ytdigphemaccodab
open Go.RowKit
set_option linter.unusedVariables false
set_option maxRecDepth 100000

end Go.Proofs.Ytdigphemaccodab
