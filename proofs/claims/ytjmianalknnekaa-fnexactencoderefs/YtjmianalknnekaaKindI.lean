/- Contract of impl.kindOK. -/
import Derived.Test.YtjmianalknnekaaRows
import Derived.Test.YtjmianalknnekaaGen
import Derived.Test.YtjmianalknnekaaInts
import Derived.Test.YtjmianalknnekaaSealP
import Derived.WalkKit
import Derived.WalkSpells
import Derived.Laws.BytesArg
import Derived.Deep.RegionWith
namespace Go.Proofs.Ytjmianalknnekaa
open Go.RowKit
set_option linter.unusedVariables false
set_option maxRecDepth 100000

theorem kindOK_any (n : Int) (w : World) : Calls Try.prog 32 #[.int .i64 n] w fun e w' => e = .returned (.bool (kindB n)) ∧ w' = w := by
  go_enter Try.func32, Try.ntmps32
  go_wp2
  all_goals
    go_ret
    exact ⟨ret_bool (by rw [Bool.eq_iff_iff]; simp [kindB, inB]; omega), rfl⟩

end Go.Proofs.Ytjmianalknnekaa
