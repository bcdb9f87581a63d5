/- Contract of spec.l01Land: of a host's writes the first ones are sure, the others stay or are lost. -/
import Derived.Test.YtoiclgeeaednnafRows
import Derived.Test.YtoiclgeeaednnafGen
import Derived.Test.YtoiclgeeaednnafKeep
import Derived.Test.YtoiclgeeaednnafDiskW
import Derived.Test.YtoiclgeeaednnafCopy
import Derived.Test.YtoiclgeeaednnafCopyD
import Derived.Test.YtoiclgeeaednnafOwnF
import Derived.Test.YtoiclgeeaednnafApp
import Derived.Test.YtoiclgeeaednnafVars
import Derived.Test.YtoiclgeeaednnafLand
import Derived.WalkKit
import Derived.WalkSpells
namespace Go.Proofs.Ytoiclgeeaednnaf
open Go.RowKit
set_option linter.unusedVariables false

theorem step_drop {h : Int} {x : Wr} (ha : x.host = h) (SS : List ByteArray) (LX : List Wr) {N : Int} (hn : ¬ 0 < N) : stepF h true (SS, LX, N) x = (SS, LX, N) := by simp [stepF, ha, hn]

end Go.Proofs.Ytoiclgeeaednnaf
