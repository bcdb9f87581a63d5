/- The walk of laws.FnExactEncodeBlock. -/
import Derived.Test.YtlhinknmbgijeabRows
import Derived.Test.YtlhinknmbgijeabGen
import Derived.Test.YtlhinknmbgijeabBlkP
import Derived.Test.YtlhinknmbgijeabBlkS
import Derived.Test.YtlhinknmbgijeabBlkI
import Derived.Test.YtlhinknmbgijeabBlkJ
import Derived.Test.YtlhinknmbgijeabToBlk
import Derived.WalkKit
import Derived.WalkSpells
import Derived.KernelRfl
import Derived.Lib.SmallJoins
namespace Go.Proofs.Ytlhinknmbgijeab
open Go.RowKit
set_option linter.unusedVariables false
set_option maxRecDepth 100000

set_option maxHeartbeats 1600000 in
theorem lawEncodeBlock (x : Bk) (w : World) : Calls Try.prog 3 #[bV x] w fun e w' => e = .returned (.bool true) ∧ Below w.heap.size w w' := by
  have HV := hide (VarB.new w 23 x)
  have HB := hide (Joins.below_alloc1 w (.cells #[.int .i64 x.ver, .int .i64 x.mbal, .int .i64 x.bal, .int .i64 x.inp] 23))
  go_enter Try.func3, Try.ntmps3
  go_wp2_with fail
  refine (toBlock_any x _).mono ?_
  rintro e w1 ⟨rfl, hb⟩
  have HV1 := hide ((unhide HV).below hb)
  have HB1 := hide (fr (unhide HB) hb)
  clear hb
  go_wp2_with fail
  refine (encodeBlock_spec x _).mono ?_
  rintro e w2 ⟨rfl, hb⟩
  have HV2 := hide ((unhide HV1).below hb)
  have HB2 := hide (fr (unhide HB1) hb)
  clear hb
  obtain ⟨c0, c1, c2, c3⟩ := (unhide HV2).cells
  go_wp2_with fail
  refine (toBlock_any x _).mono ?_
  rintro e w3 ⟨rfl, hb⟩
  have HB3 := hide (fr (unhide HB2) hb)
  clear hb c0 c1 c2 c3
  go_wp2_with fail
  refine (encodeBlock_impl x _).mono ?_
  rintro e w4 ⟨rfl, hb⟩
  have HB4 := hide (fr (unhide HB3) hb)
  clear hb
  go_wp2
  go_ret
  exact ⟨rfl, unhide HB4⟩

end Go.Proofs.Ytlhinknmbgijeab
