/- Contract of impl.kindOK. -/
import Derived.Test.YtmkegkpnomcnhaaRows
import Derived.Test.YtmkegkpnomcnhaaGen
import Derived.Test.YtmkegkpnomcnhaaInts
import Derived.Test.YtmkegkpnomcnhaaSealP
import Derived.WalkKit
import Derived.WalkSpells
import Derived.Laws.BytesArg
import Derived.Deep.RegionWith
namespace Go.Proofs.Ytmkegkpnomcnhaa
open Go.RowKit
set_option linter.unusedVariables false
set_option maxRecDepth 100000

theorem kindOK_any (n : Int) (w : World) : Calls Try.prog 91 #[.int .i64 n] w fun e w' => e = .returned (.bool (kindB n)) ∧ w' = w := by
  go_enter Try.func91, Try.ntmps91
  go_wp2
  all_goals
    go_ret
    exact ⟨ret_bool (by rw [Bool.eq_iff_iff]; simp [kindB, inB]; omega), rfl⟩

end Go.Proofs.Ytmkegkpnomcnhaa
