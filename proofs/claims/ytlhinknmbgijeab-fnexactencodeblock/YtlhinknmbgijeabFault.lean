/- Contract of impl.listFault (of the code since 38f1bd19e5ed: it calls areNumbers). -/
import Derived.Test.YtlhinknmbgijeabRows
import Derived.Test.YtlhinknmbgijeabGen
import Derived.Test.YtlhinknmbgijeabInts
import Derived.Test.YtlhinknmbgijeabNums
import Derived.Test.YtlhinknmbgijeabAreN
import Derived.WalkKit
import Derived.WalkSpells
namespace Go.Proofs.Ytlhinknmbgijeab
open Go.RowKit
set_option linter.unusedVariables false
set_option maxRecDepth 100000

theorem intsB_all_no {xs : List Int} (h : xs.all numB = false) : intsB xs = false := by rw [intsB, allB, h]; rfl
theorem intsB_all {xs : List Int} (hl : xs.length ≤ 16) (h : xs.all numB = true) : intsB xs = true := by rw [intsB, allB, h, decide_eq_true hl]; rfl

set_option maxHeartbeats 800000 in
theorem listFault_any (ao : Option Addr) (cap : Nat) (xs : List Int) (w : World) (hl : xs.length ≤ 1048576) (hc : Is w ao xs) :
    Calls Try.prog 34 #[.slice ao xs.length cap] w fun e w' => e = .returned (.int .i64 (listC xs)) ∧ w' = w := by
  have HC := hide hc
  clear hc
  by_cases h1 : 4096 < xs.length
  · have HF := hide (listC_long h1)
    go_enter Try.func34, Try.ntmps34
    go_wp2
    go_ret
    exact ⟨ret_int (unhide HF).symm, rfl⟩
  by_cases h2 : 16 < xs.length
  · have HF := hide (listC_bad h1 (intsB_long h2))
    go_enter Try.func34, Try.ntmps34
    go_wp2
    go_ret
    exact ⟨ret_int (unhide HF).symm, rfl⟩
  cases hn : xs.all numB
  · have HF := hide (listC_bad h1 (intsB_all_no hn))
    go_enter Try.func34, Try.ntmps34
    go_wp2_with (go_at_call 42; refine (areNumbers_any _ _ _ _ (by unfold maxLen; omega) (unhide HC)).mono ?_; rintro e w' ⟨rfl, hw⟩; replace hw := hw.symm; subst hw; rw [hn])
    go_ret
    exact ⟨ret_int (unhide HF).symm, rfl⟩
  · have HF := hide (listC_ok (xs := xs) h1 (intsB_all (by omega) hn))
    go_enter Try.func34, Try.ntmps34
    go_wp2_with (go_at_call 42; refine (areNumbers_any _ _ _ _ (by unfold maxLen; omega) (unhide HC)).mono ?_; rintro e w' ⟨rfl, hw⟩; replace hw := hw.symm; subst hw; rw [hn])
    go_ret
    exact ⟨ret_int (unhide HF).symm, rfl⟩

end Go.Proofs.Ytlhinknmbgijeab
