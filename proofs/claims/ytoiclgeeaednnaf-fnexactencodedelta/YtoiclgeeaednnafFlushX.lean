/- Flush: contracts of the model and of the program. -/
import Derived.Test.YtoiclgeeaednnafRows
import Derived.Test.YtoiclgeeaednnafGen
import Derived.Test.YtoiclgeeaednnafKeep
import Derived.Test.YtoiclgeeaednnafAsk
import Derived.Test.YtoiclgeeaednnafDiskW
import Derived.Test.YtoiclgeeaednnafCopyD
import Derived.Test.YtoiclgeeaednnafOwnF
import Derived.Test.YtoiclgeeaednnafVars
import Derived.Test.YtoiclgeeaednnafLand
import Derived.Test.YtoiclgeeaednnafLandS
import Derived.Test.YtoiclgeeaednnafLandInv
import Derived.WalkKit
import Derived.WalkSpells
namespace Go.Proofs.Ytoiclgeeaednnaf
open Go.RowKit
set_option linter.unusedVariables false

end Go.Proofs.Ytoiclgeeaednnaf
