/- The walk of laws.FnExactReqOK. -/
import Derived.Test.YtkaiglhljpehpabRows
import Derived.Test.YtkaiglhljpehpabGen
import Derived.Test.YtkaiglhljpehpabKeep
import Derived.Test.YtkaiglhljpehpabToIg
import Derived.Test.YtkaiglhljpehpabRqI
import Derived.Test.YtkaiglhljpehpabRqJ
import Derived.Test.YtkaiglhljpehpabRqS
import Derived.Test.YtkaiglhljpehpabToRq
import Derived.WalkKit
import Derived.WalkSpells
namespace Go.Proofs.Ytkaiglhljpehpab
open Go.RowKit
set_option linter.unusedVariables false
set_option maxRecDepth 100000

set_option maxHeartbeats 1600000 in
theorem lawReqOK (q : Rq) (w : World) (hz : q.n.size ≤ maxLen) :
    Calls Try.prog 7 #[qV q] w fun e w' => e = .returned (.bool true) ∧ Below w.heap.size w w' := by
  have HA := hide (Joins.below_alloc1 w (.cells #[.int .i64 q.k, .int .i64 q.g, .int .i64 q.v, .string q.n] 41))
  have HV := hide (VarM.new w 41 (.int .i64 q.k) (.int .i64 q.g) (.int .i64 q.v) (.string q.n))
  go_enter Try.func7, Try.ntmps7
  go_upto_region 1 with fail
  revert HA HV
  generalize (w.alloc _) = W0
  intro HA HV
  obtain ⟨c0, c1, c2, c3⟩ := (unhide HV).cells
  go_wp2_with fail
  refine (szReq_any q 1048576 _ hz (by omega) (by omega)).mono ?_
  rintro e w1 ⟨r, rfl, hr0, hr1, _, hb⟩
  have HV1 := hide ((unhide HV).below hb)
  have HB1 := hide (fr (unhide HA) hb)
  clear hb c0 c1 c2 c3 HA HV
  by_cases hr : r < 0
  · go_wp2
    go_ret
    exact ⟨rfl, unhide HB1⟩
  obtain ⟨R, HR⟩ : ∃ R, Hid (rqB q = R) := ⟨_, hide rfl⟩
  obtain ⟨c0, c1, c2, c3⟩ := (unhide HV1).cells
  go_wp2_with fail
  refine (toReq_any q _).mono ?_
  rintro e w2 ⟨rfl, hb⟩
  have HV2 := hide ((unhide HV1).below hb)
  have HB2 := hide (fr (unhide HB1) hb)
  clear hb c0 c1 c2 c3 HB1 HV1
  go_wp2_with fail
  refine (reqOK_spec q _ hz).mono ?_
  rintro e w3 ⟨rfl, hb⟩
  rw [unhide HR]
  have HV3 := hide ((unhide HV2).below hb)
  have HB3 := hide (fr (unhide HB2) hb)
  clear hb HB2 HV2
  obtain ⟨c0, c1, c2, c3⟩ := (unhide HV3).cells
  go_wp2_with fail
  refine (toReq_any q _).mono ?_
  rintro e w4 ⟨rfl, hb⟩
  have HB4 := hide (fr (unhide HB3) hb)
  clear hb c0 c1 c2 c3 HB3 HV3
  go_wp2_with fail
  refine (reqOK_impl q _ hz).mono ?_
  rintro e w5 ⟨rfl, hb⟩
  rw [unhide HR]
  have HB5 := hide (fr (unhide HB4) hb)
  clear hb
  cases R
  · go_wp2
    go_ret
    exact ⟨rfl, unhide HB5⟩
  · go_wp2
    go_ret
    exact ⟨rfl, unhide HB5⟩

end Go.Proofs.Ytkaiglhljpehpab
