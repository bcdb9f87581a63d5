/- Contract of impl.listFault. -/
import Derived.Test.YtmkegkpnomcnhaaRows
import Derived.Test.YtmkegkpnomcnhaaGen
import Derived.Test.YtmkegkpnomcnhaaInts
import Derived.Test.YtmkegkpnomcnhaaNums
import Derived.WalkKit
import Derived.WalkSpells
namespace Go.Proofs.Ytmkegkpnomcnhaa
open Go.RowKit
set_option linter.unusedVariables false
set_option maxRecDepth 100000

set_option maxHeartbeats 800000 in
theorem listFault_any (ao : Option Addr) (cap : Nat) (xs : List Int) (w : World) (hl : xs.length ≤ 1048576) (hc : Is w ao xs) :
    Calls Try.prog 90 #[.slice ao xs.length cap] w fun e w' => e = .returned (.int .i64 (listC xs)) ∧ w' = w := by
  have HC := hide hc
  clear hc
  by_cases h1 : 4096 < xs.length
  · have HF := hide (listC_long h1)
    go_enter Try.func90, Try.ntmps90
    go_wp2
    go_ret
    exact ⟨ret_int (unhide HF).symm, rfl⟩
  by_cases h2 : 16 < xs.length
  · have HF := hide (listC_bad h1 (intsB_long h2))
    go_enter Try.func90, Try.ntmps90
    go_wp2
    go_ret
    exact ⟨ret_int (unhide HF).symm, rfl⟩
  go_enter Try.func90, Try.ntmps90
  go_wp2
  go_loop [13] (fun i => ∃ k : Nat, k ≤ xs.length ∧ i = .int .i64 k ∧ Hid (∀ j (h : j < xs.length), j < k → numB xs[j] = true)) (fun i => xs.length - (intOf i).toNat)
  case atStart => exact ⟨0, Nat.zero_le _, rfl, hide (fun j _ h => by omega)⟩
  case round =>
    obtain ⟨k, hk, rfl, HA⟩ := hrel
    by_cases hlt : k < xs.length
    · obtain ⟨b, off, rfl, hc⟩ := unhide HC k hlt
      by_cases hn : numB xs[k] = true
      · have HN := hide (all_succ hlt (unhide HA) hn)
        go_wp2_with (go_at_call 85; refine (isNumber_any _ _).mono ?_; rintro e w' ⟨rfl, rfl⟩)
        go_round
        case rel => exact ⟨k + 1, by omega, by go_num, HN⟩
        case measure => simp [intOf]; omega
      · have hn' : numB xs[k] = false := by simpa using hn
        have HF := hide (listC_bad h1 (intsB_false_at hlt hn'))
        clear hn
        go_wp2_with (go_at_call 85; refine (isNumber_any _ _).mono ?_; rintro e w' ⟨rfl, rfl⟩)
        go_ret
        exact ⟨ret_int (unhide HF).symm, rfl⟩
    · have HF := hide (listC_ok (xs := xs) h1 (by rw [intsB_len (fun j h => unhide HA j h (by omega))]; simp; omega))
      go_wp2
      go_ret
      exact ⟨ret_int (unhide HF).symm, rfl⟩

end Go.Proofs.Ytmkegkpnomcnhaa
