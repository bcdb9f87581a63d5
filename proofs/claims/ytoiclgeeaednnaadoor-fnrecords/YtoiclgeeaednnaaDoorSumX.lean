/- Contract of spec.SumOf. -/
import Derived.Test.YtoiclgeeaednnaaDoorRows
import Derived.Test.YtoiclgeeaednnaaDoorGen
import Derived.Test.YtoiclgeeaednnaaDoorRec
import Derived.Test.YtoiclgeeaednnaaDoorSum
import Derived.WalkKit
import Derived.WalkSpells
namespace Go.Proofs.YtoiclgeeaednnaaDoor
open Go.RowKit
set_option linter.unusedVariables false
set_option maxRecDepth 100000

theorem sumOf_spec (s : ByteArray) (w : World) (hs : s.size ≤ 1048576) :
    Calls Tryd.prog 16 #[.string s] w fun e w' => e = .returned (.int .i64 (sumC s)) ∧ w' = w := by
  by_cases h1 : 65536 < s.size
  · have HF := hide (sumC_long h1)
    go_enter Tryd.func16, Tryd.ntmps16
    go_wp2
    go_ret
    exact ⟨ret_int (unhide HF).symm, rfl⟩
  have HF := hide (sumC_short (s := s) (by omega))
  go_enter Tryd.func16, Tryd.ntmps16
  go_wp2_with (go_at_call 33; refine (l02Sum_any _ _ hs).mono ?_; rintro e w' ⟨rfl, rfl⟩)
  go_ret
  exact ⟨ret_int (unhide HF).symm, rfl⟩

end Go.Proofs.YtoiclgeeaednnaaDoor
