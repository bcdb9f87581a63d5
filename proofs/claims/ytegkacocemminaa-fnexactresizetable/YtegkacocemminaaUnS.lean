/- Contract of spec.l02Unpack. -/
import Derived.Test.YtegkacocemminaaRows
import Derived.Test.YtegkacocemminaaGen
import Derived.Test.YtegkacocemminaaKeep
import Derived.Test.YtegkacocemminaaApp
import Derived.Test.YtegkacocemminaaInts
import Derived.Test.YtegkacocemminaaNums
import Derived.Test.YtegkacocemminaaUnP
import Derived.Test.YtegkacocemminaaOwnN
import Derived.WalkKit
import Derived.WalkSpells
namespace Go.Proofs.Ytegkacocemminaa
open Go.RowKit
set_option linter.unusedVariables false
set_option maxRecDepth 100000

end Go.Proofs.Ytegkacocemminaa
