/- Contracts of what asks whether numbers are right: the program's and its model's. -/
import Derived.Test.YtlhinknmbgijeaaDoorRows
import Derived.Test.YtlhinknmbgijeaaDoorGen
import Derived.Test.YtlhinknmbgijeaaDoorInts
import Derived.WalkKit
import Derived.WalkSpells
namespace Go.Proofs.YtlhinknmbgijeaaDoor
open Go.RowKit
set_option linter.unusedVariables false
set_option maxRecDepth 100000

theorem l01In_num (n low high : Int) (w : World) : Calls Tryd.prog 68 #[.int .i64 n, .int .i64 low, .int .i64 high] w fun e w' => e = .returned (.bool (inB n low high)) ∧ w' = w := by
  go_enter Tryd.func68, Tryd.ntmps68
  go_wp2
  all_goals
    go_ret
    exact ⟨ret_bool (by rw [Bool.eq_iff_iff]; simp [inB]; omega), rfl⟩
theorem l02Int_any (n : Int) (w : World) : Calls Tryd.prog 64 #[.int .i64 n] w fun e w' => e = .returned (.bool (numB n)) ∧ w' = w := by
  go_enter Tryd.func64, Tryd.ntmps64
  go_wp2_with (go_at_call 68; refine (l01In_num _ _ _ _).mono ?_; rintro e w' ⟨rfl, rfl⟩)
  go_ret
  exact ⟨rfl, rfl⟩
theorem isNumber_any (n : Int) (w : World) : Calls Tryd.prog 89 #[.int .i64 n] w fun e w' => e = .returned (.bool (numB n)) ∧ w' = w := by
  go_enter Tryd.func89, Tryd.ntmps89
  go_wp2
  all_goals
    go_ret
    exact ⟨ret_bool (by rw [Bool.eq_iff_iff]; simp [numB, inB]; omega), rfl⟩

set_option maxHeartbeats 800000 in
theorem l02Ints_any (ao : Option Addr) (cap : Nat) (xs : List Int) (w : World) (hl : xs.length ≤ 1048576) (hc : Is w ao xs) :
    Calls Tryd.prog 30 #[.slice ao xs.length cap] w fun e w' => e = .returned (.bool (intsB xs)) ∧ w' = w := by
  have HC := hide hc
  clear hc
  go_enter Tryd.func30, Tryd.ntmps30
  go_wp2
  go_loop [3] (fun i => ∃ k : Nat, k ≤ xs.length ∧ i = .int .i64 k ∧ Hid (∀ j (h : j < xs.length), j < k → numB xs[j] = true)) (fun i => xs.length - (intOf i).toNat)
  case atStart => exact ⟨0, Nat.zero_le _, rfl, hide (fun j _ h => by omega)⟩
  case round =>
    obtain ⟨k, hk, rfl, HA⟩ := hrel
    by_cases hlt : k < xs.length
    · obtain ⟨b, off, rfl, hc⟩ := unhide HC k hlt
      by_cases hn : numB xs[k] = true
      · have HN := hide (all_succ hlt (unhide HA) hn)
        go_wp2_with (go_at_call 64; refine (l02Int_any _ _).mono ?_; rintro e w' ⟨rfl, rfl⟩)
        go_round
        case rel => exact ⟨k + 1, by omega, by go_num, HN⟩
        case measure => simp [intOf]; omega
      · have hn' : numB xs[k] = false := by simpa using hn
        have HF := hide (intsB_false_at hlt hn')
        clear hn
        go_wp2_with (go_at_call 64; refine (l02Int_any _ _).mono ?_; rintro e w' ⟨rfl, rfl⟩)
        go_ret
        exact ⟨ret_bool (unhide HF).symm, rfl⟩
    · have HF := hide (intsB_len (xs := xs) (fun j h => unhide HA j h (by omega)))
      go_wp2
      go_ret
      exact ⟨ret_bool (by rw [unhide HF, Bool.eq_iff_iff]; simp; omega), rfl⟩

end Go.Proofs.YtlhinknmbgijeaaDoor
