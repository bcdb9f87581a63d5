/- The walk of laws.FnExactDecodeBlock. -/
import Derived.Test.YtdigphemaccodabDoorRows
import Derived.Test.YtdigphemaccodabDoorGen
import Derived.Test.YtdigphemaccodabDoorBlkP
import Derived.Test.YtdigphemaccodabDoorBlkS
import Derived.Test.YtdigphemaccodabDoorTextG
import Derived.Test.YtdigphemaccodabDoorToBlk
import Derived.WalkKit
import Derived.WalkSpells
import Derived.KernelRfl
import Derived.Lib.SmallJoins
namespace Go.Proofs.YtdigphemaccodabDoor
open Go.RowKit
set_option linter.unusedVariables false
set_option maxRecDepth 100000

set_option maxHeartbeats 1600000 in
theorem lawDecodeBlock (t : ByteArray) (w : World) (hz : t.size ≤ maxLen) (hE : ErrW w) : Calls Tryd.prog 3 #[.string t] w fun e w' => e = .returned (.bool true) ∧ Below w.heap.size w w' := by
  have HE := hide hE
  have HZ := hide hz
  unfold maxLen at hz
  clear hE
  by_cases h1 : 1048576 < t.size
  · go_enter Tryd.func3, Tryd.ntmps3
    go_wp2
    go_ret
    exact ⟨rfl, Below.refl _ _⟩
  go_enter Tryd.func3, Tryd.ntmps3
  go_wp2_with fail
  refine (decodeBlock_spec t _ (unhide HZ)).mono ?_
  rintro e w1 ⟨rfl, hb⟩
  have HA1 := hide (Joins.below_alloc1 w1 (.cells #[.int .i64 (bcK t).ver, .int .i64 (bcK t).mbal, .int .i64 (bcK t).bal, .int .i64 (bcK t).inp] 23))
  have HV1 := hide (VarB.new w1 23 (bcK t))
  have HB1 := hide (fr hb (unhide HA1))
  have HE1 := hide ((unhide HE).below (unhide HB1))
  clear hb
  go_wp2_with fail
  refine (decodeBlock_impl t _ (unhide HE1)).mono ?_
  rintro e w2 ⟨rfl, hb⟩
  have HV2 := hide ((unhide HV1).below hb)
  have HB2 := hide (fr (fr (unhide HB1) hb) (Joins.below_alloc1 _ (.cells #[.int .i64 (bcK t).ver, .int .i64 (bcK t).mbal, .int .i64 (bcK t).bal, .int .i64 (bcK t).inp] 23)))
  clear hb
  obtain ⟨q0, q1, q2, q3⟩ := (unhide HV2).cells
  have hlt := (unhide HV2).lt
  go_wp2_with fail
  refine (eqBlock_same _ _).mono ?_
  rintro e w3 ⟨rfl, hb⟩
  have HB3 := hide (fr (unhide HB2) hb)
  clear hb q0 q1 q2 q3 hlt
  go_wp2
  go_ret
  exact ⟨rfl, unhide HB3⟩

end Go.Proofs.YtdigphemaccodabDoor
