/- Contract of spec.l02Unpack. -/
import Derived.Test.YtoiclgeeaednnafRows
import Derived.Test.YtoiclgeeaednnafGen
import Derived.Test.YtoiclgeeaednnafKeep
import Derived.Test.YtoiclgeeaednnafApp
import Derived.Test.YtoiclgeeaednnafInts
import Derived.Test.YtoiclgeeaednnafNums
import Derived.Test.YtoiclgeeaednnafUnP
import Derived.Test.YtoiclgeeaednnafOwnN
import Derived.WalkKit
import Derived.WalkSpells
namespace Go.Proofs.Ytoiclgeeaednnaf
open Go.RowKit
set_option linter.unusedVariables false
set_option maxRecDepth 100000

end Go.Proofs.Ytoiclgeeaednnaf
