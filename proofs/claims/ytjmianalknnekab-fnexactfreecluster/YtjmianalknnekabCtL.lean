/- Contracts of impl.FreeCluster, impl.RefSum. -/
import Derived.Test.YtjmianalknnekabRows
import Derived.Test.YtjmianalknnekabGen
import Derived.Test.YtjmianalknnekabKeep
import Derived.Test.YtjmianalknnekabInts
import Derived.Test.YtjmianalknnekabOwnN
import Derived.Test.YtjmianalknnekabClkB
import Derived.Test.YtjmianalknnekabArrV
import Derived.Test.YtjmianalknnekabCtP
import Derived.Test.YtjmianalknnekabCtI
import Derived.WalkKit
import Derived.WalkSpells
import Derived.KernelRfl
import Derived.LoopN
import Derived.BigQuiet
import Derived.Deep.QuietTactic
import Derived.Deep.CutRange
import Derived.Deep.RegionWith
import Derived.Laws.ResultCell
import Derived.Deep.MidRow
namespace Go.Proofs.Ytjmianalknnekab
open Go.RowKit
set_option linter.unusedVariables false
set_option maxRecDepth 100000

theorem ctF_zero {xs : List Int} (h0 : ctF xs = 0) : ctB xs = true := by
  rcases ctF_cases xs with ⟨_, h, _⟩ | ⟨_, _, h, _⟩ | ⟨h, _⟩
  · rw [h0] at h; cases h
  · rw [h0] at h; cases h
  · exact h

set_option maxHeartbeats 1600000 in
theorem freeCluster_impl (ao : Option Addr) (cap : Nat) (xs : List Int) (w : World) (hl : xs.length ≤ maxLen) (hc : Is w ao xs) :
    Calls Try.prog 7 #[.slice ao xs.length cap] w fun e w' => e = .returned (.tuple #[.int .i64 (frR xs), .int .i64 (frC xs)]) ∧ Below w.heap.size w w' := by
  have HC := hide hc
  have HL := hide hl
  have HLC := hide (coR_len xs)
  clear hc
  go_enter Try.func7, Try.ntmps7
  go_wp2_with fail
  refine (countsOf_any ao cap xs _ (unhide HL) (unhide HC)).mono ?_
  rintro e w1 ⟨rfl, hb⟩
  have HB1 := hide hb
  have HSZ := hide hb.size
  clear hb HC
  have HNN := hide (arr_new w1)
  have HBB := hide (fr (unhide HB1) (Joins.below_alloc1 w1 (.cells #[.int .i64 0, .int .i64 0, .int .i64 0, .int .i64 0, .int .i64 0, .int .i64 0, .int .i64 0, .int .i64 0, .int .i64 0, .int .i64 0, .int .i64 0, .int .i64 0, .int .i64 0, .int .i64 0, .int .i64 0, .int .i64 0, .int .i64 0, .int .i64 0, .int .i64 0, .int .i64 0, .int .i64 0, .int .i64 0, .int .i64 0, .int .i64 0] 31)))
  by_cases h0 : ctF xs = 0
  · have HCO : Hid (coR xs = xs) := hide (if_pos h0)
    have HCB := hide (ctF_zero h0)
    rw [h0]
    clear h0
    go_upto_region 2 with (refine wpList_store_arr rfl 31 _ _ rfl w1.heap.size rfl (intV (coR xs)).toArray rfl _ _ (unhide HNN) (sizeA (unhide HLC)) (by rw [intV_size, intV_size, unhide HLC]; rfl) (intV_one _) ?_; intro w2 hn2 hk2 hs2; have HB2 := hide (keep_one (unhide HBB) hk2 (unhide HSZ)); clear hk2 hs2 HNN HBB HB1)
    have HN2 : Hid (VarC w2 w1.heap.size xs) := hide (by rw [unhide HCO] at hn2; exact hn2)
    clear hn2 HCO HLC
    generalize w1.heap.size = G at *
    go_wp2_with (refine wpList_load_arr rfl 31 _ rfl G rfl (intV xs).toArray _ _ (unhide HN2) und24 rfl (sizeA (ctB_len (unhide HCB))) ?_)
    go_loop [17] (fun i => ∃ k : Nat, k ≤ 24 ∧ i = .int .i64 k ∧ Hid (∀ j (hj : j < xs.length), j < k → decide (xs[j] ≠ 0) = true)) (fun i => 24 - (intOf i).toNat)
    case atStart => exact ⟨0, Nat.zero_le _, rfl, hide (fun j _ h => by omega)⟩
    case round =>
      obtain ⟨k, hk, rfl, HA⟩ := hrel
      by_cases hlt : k < 24
      · have hkx : k < xs.length := by rw [ctB_len (unhide HCB)]; exact hlt
        have hix := fun W => idx24 W xs k (ctB_len (unhide HCB)) hkx
        have hki : (k : Int) < 24 := by omega
        by_cases hz : xs[k] = 0
        · have HE := hide (frC_here (unhide HCB) hkx (fr_here hkx hz (unhide HA)))
          have bz : (xs[k] == 0) = true := by simp [hz]
          clear hz
          go_wp2
          go_ret2
          exact ⟨ret_two2 (unhide HE).2.symm (unhide HE).1.symm, unhide HB2⟩
        · have HN := hide (all_succ (p := fun n => decide (n ≠ 0)) hkx (unhide HA) (by simpa using hz))
          have bz : (xs[k] == 0) = false := by simp [hz]
          clear hz
          go_wp2
          go_round
          case rel => exact ⟨k + 1, by omega, by go_num, HN⟩
          case measure => simp [intOf]; omega
      · have HE := hide (frC_none (unhide HCB) (fr_none (fun j hj => unhide HA j hj (by have := ctB_len (unhide HCB); omega))))
        go_wp2
        go_ret2
        exact ⟨ret_two2 (unhide HE).2.symm (unhide HE).1.symm, unhide HB2⟩
  · have HE := hide (frC_bad h0)
    have hne := ctF_ne xs h0
    clear h0
    go_upto_region 2 with (refine wpList_store_arr rfl 31 _ _ rfl w1.heap.size rfl (intV (coR xs)).toArray rfl _ _ (unhide HNN) (sizeA (unhide HLC)) (by rw [intV_size, intV_size, unhide HLC]; rfl) (intV_one _) ?_; intro w2 hn2 hk2 hs2; have HB2 := hide (keep_one (unhide HBB) hk2 (unhide HSZ)); clear hk2 hs2 HNN HBB HB1)
    clear hn2
    go_wp2
    go_ret2
    exact ⟨ret_two2 (unhide HE).2.1.symm (unhide HE).1.symm, unhide HB2⟩

set_option maxHeartbeats 1600000 in
theorem refSum_impl (ao : Option Addr) (cap : Nat) (xs : List Int) (w : World) (hl : xs.length ≤ maxLen) (hc : Is w ao xs) :
    Calls Try.prog 10 #[.slice ao xs.length cap] w fun e w' => e = .returned (.tuple #[.int .i64 (smR xs), .int .i64 (ctF xs)]) ∧ Below w.heap.size w w' := by
  have HC := hide hc
  have HL := hide hl
  have HLC := hide (coR_len xs)
  clear hc
  go_enter Try.func10, Try.ntmps10
  go_wp2_with fail
  refine (countsOf_any ao cap xs _ (unhide HL) (unhide HC)).mono ?_
  rintro e w1 ⟨rfl, hb⟩
  have HB1 := hide hb
  have HSZ := hide hb.size
  clear hb HC
  have HNN := hide (arr_new w1)
  have HBB := hide (fr (unhide HB1) (Joins.below_alloc1 w1 (.cells #[.int .i64 0, .int .i64 0, .int .i64 0, .int .i64 0, .int .i64 0, .int .i64 0, .int .i64 0, .int .i64 0, .int .i64 0, .int .i64 0, .int .i64 0, .int .i64 0, .int .i64 0, .int .i64 0, .int .i64 0, .int .i64 0, .int .i64 0, .int .i64 0, .int .i64 0, .int .i64 0, .int .i64 0, .int .i64 0, .int .i64 0, .int .i64 0] 31)))
  by_cases h0 : ctF xs = 0
  · have HCO : Hid (coR xs = xs) := hide (if_pos h0)
    have HCB := hide (ctF_zero h0)
    have H0 := hide h0
    rw [h0]
    clear h0
    go_upto_region 2 with (refine wpList_store_arr rfl 31 _ _ rfl w1.heap.size rfl (intV (coR xs)).toArray rfl _ _ (unhide HNN) (sizeA (unhide HLC)) (by rw [intV_size, intV_size, unhide HLC]; rfl) (intV_one _) ?_; intro w2 hn2 hk2 hs2; have HB2 := hide (keep_one (unhide HBB) hk2 (unhide HSZ)); clear hk2 hs2 HNN HBB HB1)
    have HN2 : Hid (VarC w2 w1.heap.size xs) := hide (by rw [unhide HCO] at hn2; exact hn2)
    clear hn2 HCO HLC
    generalize w1.heap.size = G at *
    go_wp2_with (refine wpList_load_arr rfl 31 _ rfl G rfl (intV xs).toArray _ _ (unhide HN2) und24 rfl (sizeA (ctB_len (unhide HCB))) ?_)
    go_loop [6, 18] (fun s i => ∃ k : Nat, k ≤ 24 ∧ i = .int .i64 k ∧ s = .int .i64 ((xs.take k).sum)) (fun _ i => 24 - (intOf i).toNat)
    case atStart => exact ⟨0, Nat.zero_le _, rfl, by simp⟩
    case round =>
      obtain ⟨k, hk, rfl, rfl⟩ := hrel
      by_cases hlt : k < 24
      · have hkx : k < xs.length := by rw [ctB_len (unhide HCB)]; exact hlt
        have hix := fun W => idx24 W xs k (ctB_len (unhide HCB)) hkx
        have hki : (k : Int) < 24 := by omega
        have HS := hide (sum_take hkx)
        obtain ⟨s0, s1⟩ := sum_in (unhide HCB) k (by omega)
        obtain ⟨g0, g1⟩ := ctB_at (unhide HCB) k hkx
        generalize (xs.take k).sum = V at *
        go_wp2
        go_round
        case rel => exact ⟨k + 1, by omega, by go_num, by rw [unhide HS]⟩
        case measure => simp [intOf]; omega
      · have HE := hide (sum_all (k := k) (unhide HCB) (by have := ctB_len (unhide HCB); omega))
        go_wp2
        go_ret2
        exact ⟨ret_two2 (unhide HE).symm (unhide H0).symm, unhide HB2⟩
  · have HE := hide (frC_bad h0)
    have hne := ctF_ne xs h0
    clear h0
    go_upto_region 2 with (refine wpList_store_arr rfl 31 _ _ rfl w1.heap.size rfl (intV (coR xs)).toArray rfl _ _ (unhide HNN) (sizeA (unhide HLC)) (by rw [intV_size, intV_size, unhide HLC]; rfl) (intV_one _) ?_; intro w2 hn2 hk2 hs2; have HB2 := hide (keep_one (unhide HBB) hk2 (unhide HSZ)); clear hk2 hs2 HNN HBB HB1)
    clear hn2
    go_wp2
    go_ret2
    exact ⟨ret_two2 (unhide HE).2.2.symm rfl, unhide HB2⟩

end Go.Proofs.Ytjmianalknnekab
