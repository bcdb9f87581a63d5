/- Contracts of the model's l08Free, FreeCluster, RefSum. -/
import Derived.Test.YtjmianalknnekabRows
import Derived.Test.YtjmianalknnekabGen
import Derived.Test.YtjmianalknnekabKeep
import Derived.Test.YtjmianalknnekabInts
import Derived.Test.YtjmianalknnekabOwnN
import Derived.Test.YtjmianalknnekabClkB
import Derived.Test.YtjmianalknnekabArrV
import Derived.Test.YtjmianalknnekabCtP
import Derived.Test.YtjmianalknnekabCtS
import Derived.WalkKit
import Derived.WalkSpells
import Derived.KernelRfl
import Derived.LoopN
import Derived.BigQuiet
import Derived.Deep.QuietTactic
import Derived.Deep.CutRange
import Derived.Deep.RegionWith
namespace Go.Proofs.Ytjmianalknnekab
open Go.RowKit
set_option linter.unusedVariables false
set_option maxRecDepth 100000

theorem ctF_zeroS {xs : List Int} (h0 : ctF xs = 0) : ctB xs = true := by
  rcases ctF_cases xs with ⟨_, h, _⟩ | ⟨_, _, h, _⟩ | ⟨h, _⟩
  · rw [h0] at h; cases h
  · rw [h0] at h; cases h
  · exact h
/-- What l08Free answers. -/
def frI (xs : List Int) : Int := if frN xs < xs.length then (frN xs : Int) else -1
theorem l08Free_any (ao : Option Addr) (cap : Nat) (xs : List Int) (w : World) (hl : xs.length ≤ maxLen) (hc : Is w ao xs) :
    Calls Try.prog 12 #[.slice ao xs.length cap] w fun e w' => e = .returned (.int .i64 (frI xs)) ∧ w' = w := by
  have HC := hide hc
  clear hc
  unfold maxLen at hl
  go_enter Try.func12, Try.ntmps12
  go_wp2
  go_loop [3] (fun i => ∃ k : Nat, k ≤ xs.length ∧ i = .int .i64 k ∧ Hid (∀ j (hj : j < xs.length), j < k → decide (xs[j] ≠ 0) = true)) (fun i => xs.length - (intOf i).toNat)
  case atStart => exact ⟨0, Nat.zero_le _, rfl, hide (fun j _ h => by omega)⟩
  case round =>
    obtain ⟨k, hk, rfl, HA⟩ := hrel
    by_cases hlt : k < xs.length
    · obtain ⟨b, off, rfl, hcl⟩ := unhide HC k hlt
      by_cases hz : xs[k] = 0
      · have HE : Hid (frI xs = (k : Int)) := hide (by have e := fr_here hlt hz (unhide HA); rw [frI, if_pos (by omega), e])
        have bz : (xs[k] == 0) = true := by simp [hz]
        clear hz
        go_wp2
        go_ret
        exact ⟨ret_int (unhide HE).symm, rfl⟩
      · have HN := hide (all_succ (p := fun n => decide (n ≠ 0)) hlt (unhide HA) (by simpa using hz))
        have bz : (xs[k] == 0) = false := by simp [hz]
        clear hz
        go_wp2
        go_round
        case rel => exact ⟨k + 1, by omega, by go_num, HN⟩
        case measure => simp [intOf]; omega
    · have HE : Hid (frI xs = -1) := hide (if_neg (fr_none (fun j hj => unhide HA j hj (by omega))))
      go_wp2
      go_ret
      exact ⟨ret_int (unhide HE).symm, rfl⟩

set_option maxHeartbeats 1600000 in
theorem freeCluster_spec (ao : Option Addr) (cap : Nat) (xs : List Int) (w : World) (hl : xs.length ≤ maxLen) (hc : Is w ao xs) :
    Calls Try.prog 5 #[.slice ao xs.length cap] w fun e w' => e = .returned (.tuple #[.int .i64 (frR xs), .int .i64 (frC xs)]) ∧ Below w.heap.size w w' := by
  have HC := hide hc
  have HL := hide hl
  unfold maxLen at hl
  clear hc
  by_cases h0 : ctF xs = 0
  · have HCB := hide (ctF_zeroS h0)
    have H0 : Hid (cwF xs 0 = 0) := hide (by rw [cwF, if_pos h0]; rfl)
    have HF := hide h0
    have h4 : ¬ (4096 : Int) < (xs.length : Int) := by have := ctB_len (unhide HCB); omega
    clear h0
    go_enter Try.func5, Try.ntmps5
    by_cases hf : frN xs < xs.length
    · have HE := hide (frC_here (unhide HCB) hf rfl)
      have HIF : Hid (frI xs = (frN xs : Int)) := hide (if_pos hf)
      clear hf
      go_wp2_with (first | (go_at_call 11; refine (l08Ask_any ao cap xs 0 _ (unhide HL) (unhide HC)).mono ?_; rintro e w' ⟨rfl, hw⟩; replace hw := hw.symm; subst hw; rw [unhide H0]) | (go_at_call 12; refine (l08Free_any ao cap xs _ (unhide HL) (unhide HC)).mono ?_; rintro e w' ⟨rfl, hw⟩; replace hw := hw.symm; subst hw; rw [unhide HIF]))
      go_ret2
      exact ⟨ret_two2 (unhide HE).2.symm (unhide HE).1.symm, Below.refl _ _⟩
    · have HE := hide (frC_none (unhide HCB) hf)
      have HIF : Hid (frI xs = -1) := hide (if_neg hf)
      clear hf
      go_wp2_with (first | (go_at_call 11; refine (l08Ask_any ao cap xs 0 _ (unhide HL) (unhide HC)).mono ?_; rintro e w' ⟨rfl, hw⟩; replace hw := hw.symm; subst hw; rw [unhide H0]) | (go_at_call 12; refine (l08Free_any ao cap xs _ (unhide HL) (unhide HC)).mono ?_; rintro e w' ⟨rfl, hw⟩; replace hw := hw.symm; subst hw; rw [unhide HIF]))
      go_ret2
      exact ⟨ret_two2 (unhide HE).2.symm (unhide HE).1.symm, Below.refl _ _⟩
  · have HE := hide (frC_bad h0)
    by_cases hlong : 4096 < xs.length
    · have H2 := hide (ctF_long hlong)
      clear h0
      go_enter Try.func5, Try.ntmps5
      go_wp2
      go_ret2
      exact ⟨ret_two2 (unhide HE).2.1.symm ((unhide HE).1.trans (unhide H2)).symm, Below.refl _ _⟩
    · have HW : Hid (cwF xs 0 = ctF xs) := hide (by rw [cwF, if_neg h0])
      have hne : (ctF xs != 0) = true := by simpa using h0
      clear h0
      go_enter Try.func5, Try.ntmps5
      go_wp2_with (go_at_call 11; refine (l08Ask_any ao cap xs 0 _ (unhide HL) (unhide HC)).mono ?_; rintro e w' ⟨rfl, hw⟩; replace hw := hw.symm; subst hw; rw [unhide HW])
      go_ret2
      exact ⟨ret_two2 (unhide HE).2.1.symm (unhide HE).1.symm, Below.refl _ _⟩

set_option maxHeartbeats 1600000 in
theorem refSum_spec (ao : Option Addr) (cap : Nat) (xs : List Int) (w : World) (hl : xs.length ≤ maxLen) (hc : Is w ao xs) :
    Calls Try.prog 9 #[.slice ao xs.length cap] w fun e w' => e = .returned (.tuple #[.int .i64 (smR xs), .int .i64 (ctF xs)]) ∧ Below w.heap.size w w' := by
  have HC := hide hc
  have HL := hide hl
  unfold maxLen at hl
  clear hc
  by_cases h0 : ctF xs = 0
  · have HCB := hide (ctF_zeroS h0)
    have H0 : Hid (cwF xs 0 = 0) := hide (by rw [cwF, if_pos h0]; rfl)
    have HF := hide h0
    have h4 : ¬ (4096 : Int) < (xs.length : Int) := by have := ctB_len (unhide HCB); omega
    clear h0
    go_enter Try.func9, Try.ntmps9
    go_wp2_with (go_at_call 11; refine (l08Ask_any ao cap xs 0 _ (unhide HL) (unhide HC)).mono ?_; rintro e w' ⟨rfl, hw⟩; replace hw := hw.symm; subst hw; rw [unhide H0])
    go_loop [5, 6] (fun s i => ∃ k : Nat, k ≤ xs.length ∧ i = .int .i64 k ∧ s = .int .i64 ((xs.take k).sum)) (fun _ i => xs.length - (intOf i).toNat)
    case atStart => exact ⟨0, Nat.zero_le _, rfl, by simp⟩
    case round =>
      obtain ⟨k, hk, rfl, rfl⟩ := hrel
      by_cases hlt : k < xs.length
      · obtain ⟨b, off, rfl, hcl⟩ := unhide HC k hlt
        have HS := hide (sum_take hlt)
        obtain ⟨s0, s1⟩ := sum_in (unhide HCB) k (by omega)
        obtain ⟨g0, g1⟩ := ctB_at (unhide HCB) k hlt
        have hk24 : (k : Int) ≤ 24 := by have := ctB_len (unhide HCB); omega
        generalize (xs.take k).sum = V at *
        go_wp2
        go_round
        case rel => exact ⟨k + 1, by omega, by go_num, by rw [unhide HS]⟩
        case measure => simp [intOf]; omega
      · have HE := hide (sum_all (k := k) (unhide HCB) hlt)
        go_wp2
        go_ret2
        exact ⟨ret_two2 (unhide HE).symm (unhide HF).symm, Below.refl _ _⟩
  · have HE := hide (frC_bad h0)
    by_cases hlong : 4096 < xs.length
    · have H2 := hide (ctF_long hlong)
      clear h0
      go_enter Try.func9, Try.ntmps9
      go_wp2
      go_ret2
      exact ⟨ret_two2 (unhide HE).2.2.symm (unhide H2).symm, Below.refl _ _⟩
    · have HW : Hid (cwF xs 0 = ctF xs) := hide (by rw [cwF, if_neg h0])
      have hne : (ctF xs != 0) = true := by simpa using h0
      clear h0
      go_enter Try.func9, Try.ntmps9
      go_wp2_with (go_at_call 11; refine (l08Ask_any ao cap xs 0 _ (unhide HL) (unhide HC)).mono ?_; rintro e w' ⟨rfl, hw⟩; replace hw := hw.symm; subst hw; rw [unhide HW])
      go_ret2
      exact ⟨ret_two2 (unhide HE).2.2.symm rfl, Below.refl _ _⟩

end Go.Proofs.Ytjmianalknnekab
