/- The walk of laws.FnExactLocalOf. -/
import Derived.Test.YtgcbofhjgomjoaeRows
import Derived.Test.YtgcbofhjgomjoaeClkB
import Derived.Test.YtgcbofhjgomjoaeToClk
import Derived.Test.YtgcbofhjgomjoaeClkF
import Derived.Test.YtgcbofhjgomjoaeClkI
import Derived.Test.YtgcbofhjgomjoaeClkL
import Derived.Test.YtgcbofhjgomjoaeClkN
import Derived.WalkKit
import Derived.WalkSpells
import Derived.KernelRfl
import Derived.Lib.SmallJoins
namespace Go.Proofs.Ytgcbofhjgomjoae
open Go.RowKit
set_option linter.unusedVariables false

set_option maxHeartbeats 3200000 in
theorem lawLocalOf (o r x : Int) (w : World) : Calls Try.prog 3 #[clkV o r, .int .i64 x] w fun e w' => e = .returned (.bool true) ∧ Below w.heap.size w w' := by
  have S0 : Hid (StK w (w.alloc (.cells #[.int .i64 o, .int .i64 r] 23)) w.heap.size o r) := hidB ⟨by simp [go_sem], by simp [go_sem], Joins.below_alloc1 _ _⟩
  go_enter Try.func3, Try.ntmps3
  go_wp2_with fail
  refine (toClk_any o r _).mono ?_
  rintro e w1 ⟨rfl, hb⟩
  have S1 := hidB ((show StK _ _ _ _ _ from S0).next hb)
  have c0 := (show StK _ _ _ _ _ from S1).c0
  have c1 := (show StK _ _ _ _ _ from S1).c1
  clear hb S0
  go_wp2_with fail
  refine (local_spec o r x _).mono ?_
  rintro e w2 ⟨rfl, hb⟩
  have S2 := hidB ((show StK _ _ _ _ _ from S1).next hb)
  have c0 := (show StK _ _ _ _ _ from S2).c0
  have c1 := (show StK _ _ _ _ _ from S2).c1
  clear hb S1
  go_wp2_with fail
  refine (toClk_any o r _).mono ?_
  rintro e w3 ⟨rfl, hb⟩
  have S3 := hidB ((show StK _ _ _ _ _ from S2).next hb)
  have c0 := (show StK _ _ _ _ _ from S3).c0
  have c1 := (show StK _ _ _ _ _ from S3).c1
  clear hb S2
  go_wp2_with fail
  refine (local_impl o r x _).mono ?_
  rintro e w4 ⟨rfl, hb⟩
  have S4 := hidB ((show StK _ _ _ _ _ from S3).next hb)
  have c0 := (show StK _ _ _ _ _ from S4).c0
  have c1 := (show StK _ _ _ _ _ from S4).c1
  clear hb S3
  clear c0 c1
  go_wp2
  go_ret
  exact ⟨rfl, (show StK _ _ _ _ _ from S4).below⟩

end Go.Proofs.Ytgcbofhjgomjoae
