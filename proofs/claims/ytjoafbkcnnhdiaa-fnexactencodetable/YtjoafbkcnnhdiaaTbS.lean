/- Contracts of the model's tables: TableOK, EncodeTable, DecodeTable, EntryOf, ResizeTable, ClustersOf. -/
import Derived.Test.YtjoafbkcnnhdiaaRows
import Derived.Test.YtjoafbkcnnhdiaaGen
import Derived.Test.YtjoafbkcnnhdiaaKeep
import Derived.Test.YtjoafbkcnnhdiaaApp
import Derived.Test.YtjoafbkcnnhdiaaInts
import Derived.Test.YtjoafbkcnnhdiaaOwnN
import Derived.Test.YtjoafbkcnnhdiaaPackC
import Derived.Test.YtjoafbkcnnhdiaaClkB
import Derived.Test.YtjoafbkcnnhdiaaSealS
import Derived.Test.YtjoafbkcnnhdiaaOpenS
import Derived.Test.YtjoafbkcnnhdiaaTbP
import Derived.WalkKit
import Derived.WalkSpells
import Derived.KernelRfl
import Derived.LoopN
import Derived.Deep.RegionWith
namespace Go.Proofs.Ytjoafbkcnnhdiaa
open Go.RowKit
set_option linter.unusedVariables false
set_option maxRecDepth 100000

set_option maxHeartbeats 800000 in
theorem tableOK_spec (ao : Option Addr) (cap : Nat) (xs : List Int) (w : World) (hl : xs.length ≤ maxLen) (hc : Is w ao xs) :
    Calls Try.prog 25 #[.slice ao xs.length cap] w fun e w' => e = .returned (.bool (tbB xs)) ∧ w' = w := by
  have HC := hide hc
  clear hc
  unfold maxLen at hl
  by_cases hlong : 4096 < xs.length
  · have HF := hide (tbB_nolen (xs := xs) (by omega))
    go_enter Try.func25, Try.ntmps25
    go_wp2
    go_ret
    exact ⟨ret_bool (unhide HF).symm, rfl⟩
  go_enter Try.func25, Try.ntmps25
  go_wp2
  go_loop [3] (fun i => ∃ k : Nat, k ≤ xs.length ∧ i = .int .i64 k ∧ Hid (∀ j (h : j < xs.length), j < k → ent1 xs[j] = true)) (fun i => xs.length - (intOf i).toNat)
  case atStart => exact ⟨0, Nat.zero_le _, rfl, hide (fun j _ h => by omega)⟩
  case round =>
    obtain ⟨k, hk, rfl, HA⟩ := hrel
    by_cases hlt : k < xs.length
    · obtain ⟨b, off, rfl, hc⟩ := unhide HC k hlt
      by_cases hn : ent1 xs[k] = true
      · have HN := hide (all_succ hlt (unhide HA) hn)
        have hn' : betw xs[k] 0 25 = true := hn
        clear hn
        go_wp2_with (go_at_call 42; refine (in_any _ _ _ _).mono ?_; rintro e w' ⟨rfl, rfl⟩)
        go_round
        case rel => exact ⟨k + 1, by omega, by go_num, HN⟩
        case measure => simp [intOf]; omega
      · have hn0 : ent1 xs[k] = false := by simpa using hn
        have hn' : betw xs[k] 0 25 = false := hn0
        have HF := hide (tbB_noat hlt hn0)
        clear hn hn0
        go_wp2_with (go_at_call 42; refine (in_any _ _ _ _).mono ?_; rintro e w' ⟨rfl, rfl⟩)
        go_ret
        exact ⟨ret_bool (unhide HF).symm, rfl⟩
    · have HF := hide (tbB_all (fun j h => unhide HA j h (by omega)))
      go_wp2
      go_ret
      exact ⟨ret_bool (by rw [unhide HF, Bool.eq_iff_iff]; simp; omega), rfl⟩

theorem l09Encode_any (ao : Option Addr) (cap : Nat) (xs : List Int) (w : World) (hb : tbB xs = true) (hc : Is w ao xs) :
    Calls Try.prog 26 #[.slice ao xs.length cap] w fun e w' => e = .returned (.string (encTb xs)) ∧ Below w.heap.size w w' := by
  have HL := hide (tbB_len hb)
  have HIN : Hid (∀ j (h : j < xs.length), 0 ≤ xs[j] ∧ xs[j] ≤ 2147483647) := hide (fun j h => by have := tbB_at hb j h; omega)
  have HC := hide hc
  clear hb hc
  go_enter Try.func26, Try.ntmps26
  go_wp2_with fail
  refine (l02Seal_any 3 ao cap xs _ (by omega) (by have := unhide HL; omega) (unhide HIN) (unhide HC)).mono ?_
  rintro e w1 ⟨rfl, hb⟩
  have HB := hide hb
  clear hb
  go_wp2
  go_ret
  exact ⟨rfl, unhide HB⟩

set_option maxHeartbeats 1600000 in
theorem encodeTable_spec (ao : Option Addr) (cap : Nat) (xs : List Int) (w : World) (hl : xs.length ≤ maxLen) (hc : Is w ao xs) :
    Calls Try.prog 8 #[.slice ao xs.length cap] w fun e w' => e = .returned (.tuple #[.string (etR xs), .int .i64 (tbF xs)]) ∧ Below w.heap.size w w' := by
  have HC := hide hc
  have HL := hide hl
  unfold maxLen at hl
  clear hc
  rcases tbF_cases xs with ⟨h1, h2⟩ | ⟨h1, hb, h2⟩ | ⟨hb, h2⟩
  · have HE : Hid (etR xs = ⟨#[]⟩ ∧ tbF xs = 2) := hide ⟨by rw [etR, h2]; rfl, h2⟩
    clear h2
    go_enter Try.func8, Try.ntmps8
    go_wp2
    go_ret2
    exact ⟨ret_si (unhide HE).1.symm (unhide HE).2.symm, Below.refl _ _⟩
  · have HE : Hid (etR xs = ⟨#[]⟩ ∧ tbF xs = 1) := hide ⟨by rw [etR, h2]; rfl, h2⟩
    clear h2
    go_enter Try.func8, Try.ntmps8
    go_wp2_with (go_at_call 25; refine (tableOK_spec _ _ xs _ (unhide HL) (unhide HC)).mono ?_; rintro e w' ⟨rfl, hw⟩; replace hw := hw.symm; subst hw; rw [hb])
    go_ret2
    exact ⟨ret_si (unhide HE).1.symm (unhide HE).2.symm, Below.refl _ _⟩
  · have HE : Hid (etR xs = encTb xs ∧ tbF xs = 0) := hide ⟨by rw [etR, h2]; rfl, h2⟩
    have h4 : ¬ (4096 : Int) < (xs.length : Int) := by have := tbB_len hb; omega
    clear h2
    go_enter Try.func8, Try.ntmps8
    go_wp2_with (go_at_call 25; refine (tableOK_spec _ _ xs _ (unhide HL) (unhide HC)).mono ?_; rintro e w' ⟨rfl, hw⟩; replace hw := hw.symm; subst hw; rw [hb])
    refine (l09Encode_any ao cap xs _ hb (unhide HC)).mono ?_
    rintro e w1 ⟨rfl, hb1⟩
    have HB := hide hb1
    clear hb1
    go_wp2
    go_ret2
    exact ⟨ret_si (unhide HE).1.symm (unhide HE).2.symm, unhide HB⟩

def tdO (s : ByteArray) : List Int := if tdB s = true then openL s 3 else []
set_option maxHeartbeats 1600000 in
theorem l09Clusters_any (ao : Option Addr) (cap : Nat) (xs : List Int) (w : World) (hl : xs.length ≤ 1048576) (hi : ∀ j (h : j < xs.length), -1000 ≤ xs[j] ∧ xs[j] ≤ 1000) (hc : Is w ao xs) :
    Calls Try.prog 66 #[.slice ao xs.length cap] w fun e w' => ∃ v, e = .returned v ∧ OwnN w' w.heap.size v (clA xs) ∧ Below w.heap.size w w' := by
  obtain ⟨j0, hj, hy0, hy1, hy2⟩ := info_parts infoM
  have HC := hide hc
  have HI := hide hi
  have HA : Hid (Below w.heap.size w (w.alloc (.cells #[] 3))) := hide (Joins.below_alloc1 _ _)
  clear hc hi
  go_enter Try.func66, Try.ntmps66
  go_wp2
  go_loopw [3, 4] (fun o i wr => ∃ (k : Nat) (ys : List Int) (qo : Option Addr) (qa : Nat), k ≤ xs.length ∧ i = .int .i64 k ∧ o = .slice qo ys.length qa ∧ Hid (ys = clTo xs k) ∧ Hid (OwnR wr w.heap.size 3 1 (.slice qo ys.length qa) ys.length (intV ys)) ∧ Hid (Below w.heap.size w wr)) (fun _ i _ => xs.length - (intOf i).toNat)
  case atStart => exact ⟨0, [], _, _, Nat.zero_le _, rfl, rfl, hide rfl, hide (.inl ⟨rfl, rfl, _, rfl⟩), HA⟩
  case round =>
    obtain ⟨k, ys, qo, qa, hk, rfl, rfl, HE, HO, HB⟩ := hrel
    by_cases hlt : k < xs.length
    · obtain ⟨b, off, rfl, hcl⟩ := (unhide HC).below (unhide HB) k hlt
      obtain ⟨i0, i1⟩ := unhide HI k hlt
      by_cases h2 : 2 ≤ xs[k]
      · have HS := hide (clTo_data hlt h2)
        have HYL : Hid (ys.length ≤ 1048576) := hide (by rw [unhide HE]; have := clTo_len xs k; omega)
        have hyl := unhide HYL
        have HOA := hide ((unhide HO).below (Joins.below_alloc1 _ (.cells #[.int .i64 (xs[k] - 2)] 3)))
        have HBA := hide (fr (unhide HB) (Joins.below_alloc1 _ (.cells #[.int .i64 (xs[k] - 2)] 3)))
        have HSZ := hide (unhide HB).size
        go_wp2_with (at_builtin; refine wpList_append_one rfl _ _ 22 rfl w.heap.size 3 j0 (.int .i64 0) 1 8 Try.underlying22 hj hy0 hy1 hy2 rfl (by omega) qo ys.length qa (intV ys) rfl (unhide HOA) (by have := unhide HSZ; simp; omega) ⟨wr.heap.size, 0, none⟩ _ [.int .i64 (xs[k] - 2)] rfl rfl (byte_news wr _ _) (int_one _) (by unfold maxLen; omega) (by omega) ?_; intro g2 cap2 wA hoA hkA; have HSF := hide (And.intro hoA (keep_below (unhide HBA) (unhide HOA) (Nat.le_refl _) hkA)); clear hoA hkA)
        go_roundw
        case rel => exact ⟨k + 1, ys ++ [xs[k] - 2], some ⟨g2, 0, none⟩, cap2, by omega, by go_num, by simp, hide (by rw [unhide HS, unhide HE]), hide (by rw [List.length_append, intV_snoc]; exact .inr ⟨by simp, (unhide HSF).1⟩), hide (unhide HSF).2⟩
        case measure => simp [intOf]; omega
      · have HS := hide (clTo_none hlt h2)
        go_wp2
        go_roundw
        case rel => exact ⟨k + 1, ys, qo, qa, by omega, by go_num, rfl, hide (by rw [unhide HS, unhide HE]), HO, HB⟩
        case measure => simp [intOf]; omega
    · have HS : Hid (clA xs = ys) := hide (by rw [unhide HE, clA, show k = xs.length by omega])
      go_wp2
      go_ret
      exact ⟨.slice qo ys.length qa, rfl, by rw [unhide HS]; exact ⟨qo, qa, rfl, unhide HO⟩, unhide HB⟩

end Go.Proofs.Ytjoafbkcnnhdiaa
