/- Contract of impl.kindOK. -/
import Derived.Test.YtlhinknmbgijeaaRows
import Derived.Test.YtlhinknmbgijeaaGen
import Derived.Test.YtlhinknmbgijeaaInts
import Derived.Test.YtlhinknmbgijeaaSealP
import Derived.WalkKit
import Derived.WalkSpells
import Derived.Laws.BytesArg
import Derived.Deep.RegionWith
namespace Go.Proofs.Ytlhinknmbgijeaa
open Go.RowKit
set_option linter.unusedVariables false
set_option maxRecDepth 100000

theorem kindOK_any (n : Int) (w : World) : Calls Try.prog 21 #[.int .i64 n] w fun e w' => e = .returned (.bool (kindB n)) ∧ w' = w := by
  go_enter Try.func21, Try.ntmps21
  go_wp2
  all_goals
    go_ret
    exact ⟨ret_bool (by rw [Bool.eq_iff_iff]; simp [kindB, inB]; omega), rfl⟩

end Go.Proofs.Ytlhinknmbgijeaa
