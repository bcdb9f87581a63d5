/- The walk of laws.FnExactPxOK. -/
import Derived.Test.YtdigphemaccodabRows
import Derived.Test.YtdigphemaccodabGen
import Derived.Test.YtdigphemaccodabPxP
import Derived.Test.YtdigphemaccodabPxT
import Derived.Test.YtdigphemaccodabPxI
import Derived.Test.YtdigphemaccodabToBlk
import Derived.WalkKit
import Derived.WalkSpells
import Derived.KernelRfl
import Derived.Lib.SmallJoins
namespace Go.Proofs.Ytdigphemaccodab
open Go.RowKit
set_option linter.unusedVariables false
set_option maxRecDepth 100000

set_option maxHeartbeats 1600000 in
theorem lawPxOK (x : Pxs) (w : World) : Calls Try.prog 3 #[pV x] w fun e w' => e = .returned (.bool true) ∧ Below w.heap.size w w' := by
  have HV := hide (VarP.new w 23 x)
  have HB := hide (Joins.below_alloc1 w (.cells #[.int .i64 x.host, .int .i64 x.ver, .int .i64 x.phase, .int .i64 x.ballot, .int .i64 x.value, .int .i64 x.next, .int .i64 x.best, .int .i64 x.bestBal] 23))
  go_enter Try.func3, Try.ntmps3
  go_wp2_with fail
  refine (toPx_any x _).mono ?_
  rintro e w1 ⟨rfl, hb⟩
  have HV1 := hide ((unhide HV).below hb)
  have HB1 := hide (fr (unhide HB) hb)
  clear hb
  go_wp2_with fail
  refine (pxOK_spec x _).mono ?_
  rintro e w2 ⟨rfl, hb⟩
  have HV2 := hide ((unhide HV1).below hb)
  have HB2 := hide (fr (unhide HB1) hb)
  clear hb
  obtain ⟨c0, c1, c2, c3, c4, c5, c6, c7⟩ := (unhide HV2).cells
  go_wp2_with fail
  refine (toPx_any x _).mono ?_
  rintro e w3 ⟨rfl, hb⟩
  have HB3 := hide (fr (unhide HB2) hb)
  clear hb c0 c1 c2 c3 c4 c5 c6 c7
  go_wp2_with fail
  refine (pxOK_impl x _).mono ?_
  rintro e w4 ⟨rfl, hb⟩
  have HB4 := hide (fr (unhide HB3) hb)
  clear hb
  go_wp2
  go_ret
  exact ⟨rfl, unhide HB4⟩

end Go.Proofs.Ytdigphemaccodab
