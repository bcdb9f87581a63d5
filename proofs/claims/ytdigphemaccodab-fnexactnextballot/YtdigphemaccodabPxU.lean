/- Contracts of loops over blocks: spec's l05Blocks, l05Next; the program's asOf, blocksFault, greatestBegun. -/
import Derived.Test.YtdigphemaccodabRows
import Derived.Test.YtdigphemaccodabGen
import Derived.Test.YtdigphemaccodabKeep
import Derived.Test.YtdigphemaccodabInts
import Derived.Test.YtdigphemaccodabBlkP
import Derived.Test.YtdigphemaccodabBlkS
import Derived.Test.YtdigphemaccodabBlkI
import Derived.Test.YtdigphemaccodabPxP
import Derived.Test.YtdigphemaccodabPxS
import Derived.Test.YtdigphemaccodabPxX
import Derived.WalkKit
import Derived.WalkSpells
import Derived.KernelRfl
namespace Go.Proofs.Ytdigphemaccodab
open Go.RowKit
set_option linter.unusedVariables false
set_option maxRecDepth 100000

theorem fieldB1 (x : Bk) (W : World) : (Instr.field 55 (bV x) 1).run Try.prog W = .ok (.int .i64 x.mbal) W := by kernel_rfl

set_option maxHeartbeats 1600000 in
theorem l05Blocks_any (ao : Option Addr) (cap : Nat) (xs : List Bk) (w : World) (hl : xs.length ≤ 1048576) (hc : Bks w ao xs) :
    Calls Try.prog 37 #[.slice ao xs.length cap] w fun e w' => e = .returned (.bool (bksB xs)) ∧ Below w.heap.size w w' := by
  have HC := hide hc
  clear hc
  go_enter Try.func37, Try.ntmps37
  go_wp2
  go_loopw [3] (fun i wr => ∃ k : Nat, k ≤ xs.length ∧ i = .int .i64 k ∧ Hid (∀ j (h : j < xs.length), j < k → bkB xs[j] = true) ∧ Hid (Below w.heap.size w wr)) (fun i _ => xs.length - (intOf i).toNat)
  case atStart => exact ⟨0, Nat.zero_le _, rfl, hide (fun j _ h => by omega), hide (Below.refl _ _)⟩
  case round =>
    obtain ⟨k, hk, rfl, HA, HB⟩ := hrel
    by_cases hlt : k < xs.length
    · obtain ⟨b, off, rfl, c0, c1, c2, c3⟩ := (unhide HC).below (unhide HB) k hlt
      by_cases hn : bkB xs[k] = true
      · have HN := hide (all_succ (p := bkB) hlt (unhide HA) hn)
        go_wp2_with fail
        refine (blockOK_spec xs[k] _).mono ?_
        rintro e w1 ⟨rfl, hb⟩
        have HB1 := hide (fr (unhide HB) hb)
        clear hb
        go_wp2_with fail
        go_roundw
        case rel => exact ⟨k + 1, by omega, by go_num, HN, HB1⟩
        case measure => simp [intOf]; omega
      · have hn' : bkB xs[k] = false := by simpa using hn
        have HF := hide (bksB_false_at hlt hn')
        clear hn
        go_wp2_with fail
        refine (blockOK_spec xs[k] _).mono ?_
        rintro e w1 ⟨rfl, hb⟩
        have HB1 := hide (fr (unhide HB) hb)
        clear hb
        go_wp2
        go_ret
        exact ⟨ret_bool (unhide HF).symm, unhide HB1⟩
    · have HF := hide (bksB_len (xs := xs) (fun j h => unhide HA j h (by omega)))
      go_wp2
      go_ret
      exact ⟨ret_bool (by rw [unhide HF, Bool.eq_iff_iff]; simp; omega), unhide HB⟩

end Go.Proofs.Ytdigphemaccodab
