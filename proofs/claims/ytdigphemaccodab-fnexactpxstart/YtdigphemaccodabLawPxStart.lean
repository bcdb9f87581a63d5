/- The walk of laws.FnExactPxStart. -/
import Derived.Test.YtdigphemaccodabRows
import Derived.Test.YtdigphemaccodabGen
import Derived.Test.YtdigphemaccodabPxP
import Derived.Test.YtdigphemaccodabPxT
import Derived.Test.YtdigphemaccodabPxI
import Derived.Test.YtdigphemaccodabToBlk
import Derived.WalkKit
import Derived.WalkSpells
import Derived.KernelRfl
import Derived.Lib.SmallJoins
namespace Go.Proofs.Ytdigphemaccodab
open Go.RowKit
set_option linter.unusedVariables false
set_option maxRecDepth 100000

set_option maxHeartbeats 1600000 in
theorem lawPxStart (h v b x : Int) (w : World) : Calls Try.prog 4 #[.int .i64 h, .int .i64 v, .int .i64 b, .int .i64 x] w fun e w' => e = .returned (.bool true) ∧ Below w.heap.size w w' := by
  have HS := hide (fun W => pxStart_spec h v b x W)
  have HI := hide (fun W => pxStart_impl h v b x W)
  revert HS HI
  generalize psP h v b x = q
  generalize psC h v b x = c
  intro HS HI
  go_enter Try.func4, Try.ntmps4
  go_wp2_with fail
  refine (unhide HS _).mono ?_
  rintro e w1 ⟨rfl, hb⟩
  have HV1 := hide (VarP.new w1 25 q)
  have HB1 := hide (fr hb (Joins.below_alloc1 w1 (.cells #[.int .i64 q.host, .int .i64 q.ver, .int .i64 q.phase, .int .i64 q.ballot, .int .i64 q.value, .int .i64 q.next, .int .i64 q.best, .int .i64 q.bestBal] 25)))
  clear hb
  go_wp2_with fail
  refine (unhide HI _).mono ?_
  rintro e w2 ⟨rfl, hb⟩
  have HV2 := hide ((unhide HV1).below hb)
  have HB2 := hide (fr (fr (unhide HB1) hb) (Joins.below_alloc1 _ (.cells #[.int .i64 q.host, .int .i64 q.ver, .int .i64 q.phase, .int .i64 q.ballot, .int .i64 q.value, .int .i64 q.next, .int .i64 q.best, .int .i64 q.bestBal] 25)))
  clear hb
  obtain ⟨c0, c1, c2, c3, c4, c5, c6, c7⟩ := (unhide HV2).cells
  have hlt := (unhide HV2).lt
  go_wp2_with fail
  refine (eqPx_same q _).mono ?_
  rintro e w3 ⟨rfl, hb⟩
  have HB3 := hide (fr (unhide HB2) hb)
  clear hb c0 c1 c2 c3 c4 c5 c6 c7 hlt
  go_wp2
  go_ret
  exact ⟨rfl, unhide HB3⟩

end Go.Proofs.Ytdigphemaccodab
