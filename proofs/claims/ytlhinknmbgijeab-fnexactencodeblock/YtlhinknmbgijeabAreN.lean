/- Contract of impl.areNumbers. -/
import Derived.Test.YtlhinknmbgijeabRows
import Derived.Test.YtlhinknmbgijeabGen
import Derived.Test.YtlhinknmbgijeabInts
import Derived.Test.YtlhinknmbgijeabNums
import Derived.WalkKit
import Derived.WalkSpells
namespace Go.Proofs.Ytlhinknmbgijeab
open Go.RowKit
set_option linter.unusedVariables false
set_option maxRecDepth 100000

theorem nums_no {xs : List Int} {k : Nat} (hk : k < xs.length) (h : numB xs[k] = false) : xs.all numB = false := all_not (p := numB) hk h
theorem nums_all {xs : List Int} (h : ∀ j (hj : j < xs.length), numB xs[j] = true) : xs.all numB = true := all_of (p := numB) (fun i hi _ => h i hi)

set_option maxHeartbeats 800000 in
theorem areNumbers_any (ao : Option Addr) (cap : Nat) (xs : List Int) (w : World) (hl : xs.length ≤ maxLen) (hc : Is w ao xs) :
    Calls Try.prog 42 #[.slice ao xs.length cap] w fun e w' => e = .returned (.bool (xs.all numB)) ∧ w' = w := by
  have HC := hide hc
  clear hc
  unfold maxLen at hl
  obtain ⟨R, HR⟩ : ∃ R, Hid (R = xs.all numB) := ⟨_, hide rfl⟩
  rw [← unhide HR]
  go_enter Try.func42, Try.ntmps42
  go_wp2
  go_loop [7] (fun i => ∃ k : Nat, k ≤ xs.length ∧ i = .int .i64 k ∧ Hid (∀ j (h : j < xs.length), j < k → numB xs[j] = true)) (fun i => xs.length - (intOf i).toNat)
  case atStart => exact ⟨0, Nat.zero_le _, rfl, hide (fun j _ h => by omega)⟩
  case round =>
    obtain ⟨k, hk, rfl, HA⟩ := hrel
    by_cases hlt : k < xs.length
    · obtain ⟨b, off, rfl, hc⟩ := unhide HC k hlt
      cases hn : numB xs[k]
      · have HF := hide (nums_no hlt hn)
        go_wp2_with (go_at_call 33; refine (isNumber_any _ _).mono ?_; rintro e w' ⟨rfl, hw⟩; replace hw := hw.symm; subst hw; rw [hn])
        go_ret
        exact ⟨ret_bool (by rw [unhide HR, unhide HF]), rfl⟩
      · have HN := hide (all_succ hlt (unhide HA) hn)
        go_wp2_with (go_at_call 33; refine (isNumber_any _ _).mono ?_; rintro e w' ⟨rfl, hw⟩; replace hw := hw.symm; subst hw; rw [hn])
        go_round
        case rel => exact ⟨k + 1, by omega, by go_num, HN⟩
        case measure => simp [intOf]; omega
    · have HF := hide (nums_all (fun j h => unhide HA j h (by omega)))
      go_wp2
      go_ret
      exact ⟨ret_bool (by rw [unhide HR, unhide HF]), rfl⟩

end Go.Proofs.Ytlhinknmbgijeab
