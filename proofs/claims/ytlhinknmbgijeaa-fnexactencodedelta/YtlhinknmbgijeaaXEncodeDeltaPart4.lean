/- The walk of laws.FnExactEncodeDelta. -/
import Derived.Test.YtlhinknmbgijeaaRows
import Derived.Test.YtlhinknmbgijeaaXEncodeDeltaPart1
import Derived.Test.YtlhinknmbgijeaaXEncodeDeltaPart3
import Derived.WalkKit
import Derived.WalkSpells
import Derived.KernelRfl
import Derived.Lib.SmallJoins

namespace Go.Proofs.Ytlhinknmbgijeaa
open Go.RowKit
set_option linter.unusedVariables false
set_option maxRecDepth 100000

set_option maxHeartbeats 1600000 in
theorem lawEncodeDelta (h g s : Int) (w : World) : Calls Try.prog 5 #[dltV h g s] w fun e w' => e = .returned (.bool true) ∧ Below w.heap.size w w' := by
  have HV := hide (VarT.new w 31 h g s)
  have HB := hide (Joins.below_alloc1 w (.cells #[.int .i64 h, .int .i64 g, .int .i64 s] 31))
  go_enter Try.func5, Try.ntmps5
  go_wp2_with fail
  refine (toDelta_any h g s _).mono ?_
  rintro e w1 ⟨rfl, hb⟩
  have HV1 := hide ((unhide HV).below hb)
  have HB1 := hide (fr (unhide HB) hb)
  clear hb
  go_wp2_with fail
  refine (encodeDelta_spec h g s _).mono ?_
  rintro e w2 ⟨rfl, hb⟩
  have HV2 := hide ((unhide HV1).below hb)
  have HB2 := hide (fr (unhide HB1) hb)
  clear hb
  obtain ⟨c0, c1, c2⟩ := (unhide HV2).cells
  go_wp2_with fail
  refine (toDelta_any h g s _).mono ?_
  rintro e w3 ⟨rfl, hb⟩
  have HB3 := hide (fr (unhide HB2) hb)
  clear hb c0 c1 c2
  go_wp2_with fail
  refine (encodeDelta_impl h g s _).mono ?_
  rintro e w4 ⟨rfl, hb⟩
  have HB4 := hide (fr (unhide HB3) hb)
  clear hb
  go_wp2
  go_ret
  exact ⟨rfl, unhide HB4⟩

end Go.Proofs.Ytlhinknmbgijeaa
