/- The walk of laws.FnExactKindOf. -/
import Derived.Test.YtgcbofhjgomjoadDoorRows
import Derived.Test.YtgcbofhjgomjoadDoorGen
import Derived.Test.YtgcbofhjgomjoadDoorKindS
import Derived.Test.YtgcbofhjgomjoadDoorTextK
import Derived.WalkKit
import Derived.WalkSpells
namespace Go.Proofs.YtgcbofhjgomjoadDoor
open Go.RowKit
set_option linter.unusedVariables false

theorem lawKindOf (s : ByteArray) (w : World) (hs : s.size ≤ maxLen) (hE : ErrW w) :
    Calls Tryd.prog 5 #[.string s] w fun e w' => e = .returned (.bool true) ∧ Below w.heap.size w w' := by
  have HE := hide hE
  clear hE
  unfold maxLen at hs
  by_cases h : 1048576 < s.size
  · go_enter Tryd.func5, Tryd.ntmps5
    go_wp2
    go_ret
    exact ⟨rfl, Below.refl _ _⟩
  go_enter Tryd.func5, Tryd.ntmps5
  go_wp2_with fail
  refine (kindOf_spec s _).mono ?_
  rintro e w1 ⟨rfl, hb1⟩
  have HB1 := hide hb1
  clear hb1
  go_wp2_with fail
  refine (kindOf_impl s _ ((unhide HE).below (unhide HB1))).mono ?_
  rintro e w2 ⟨rfl, hb2⟩
  have HB2 := hide (fr (unhide HB1) hb2)
  clear hb2
  go_wp2
  go_ret
  exact ⟨rfl, unhide HB2⟩

end Go.Proofs.YtgcbofhjgomjoadDoor
