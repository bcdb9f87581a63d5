/- Contract of impl.RefUp. -/
import Derived.Test.YtjmianalknnekabDoorRows
import Derived.Test.YtjmianalknnekabDoorGen
import Derived.Test.YtjmianalknnekabDoorKeep
import Derived.Test.YtjmianalknnekabDoorInts
import Derived.Test.YtjmianalknnekabDoorOwnN
import Derived.Test.YtjmianalknnekabDoorClkB
import Derived.Test.YtjmianalknnekabDoorArrV
import Derived.Test.YtjmianalknnekabDoorCtP
import Derived.Test.YtjmianalknnekabDoorCtI
import Derived.WalkKit
import Derived.WalkSpells
import Derived.KernelRfl
import Derived.LoopN
import Derived.BigQuiet
import Derived.Deep.QuietTactic
import Derived.Deep.CutRange
import Derived.Deep.RegionWith
import Derived.Laws.ResultCell
import Derived.Deep.MidRow
namespace Go.Proofs.YtjmianalknnekabDoor
open Go.RowKit
set_option linter.unusedVariables false
set_option maxRecDepth 100000

/-- What the program's own lists of counts are like. -/
theorem own24 {W : World} {B g : Nat} {xs : List Int} (h : W.ownsRow B 3 1 (.slice (some ⟨g, 0, none⟩) 24 24) 24 (intV xs)) (hl : xs.length = 24) : OwnN W B (.slice (some ⟨g, 0, none⟩) 24 24) xs := by
  refine ⟨some ⟨g, 0, none⟩, 24, by rw [hl], ?_⟩
  rw [hl]
  exact .inr ⟨by omega, h⟩
theorem cw_ne {n : Int} (h : n ≠ 0) : (n != 0) = true := by simpa using h

end Go.Proofs.YtjmianalknnekabDoor
