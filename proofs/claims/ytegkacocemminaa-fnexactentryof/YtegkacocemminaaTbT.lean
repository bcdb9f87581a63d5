/- Contracts of the model's EntryOf, l09Resize, ResizeTable. -/
import Derived.Test.YtegkacocemminaaRows
import Derived.Test.YtegkacocemminaaGen
import Derived.Test.YtegkacocemminaaKeep
import Derived.Test.YtegkacocemminaaApp
import Derived.Test.YtegkacocemminaaInts
import Derived.Test.YtegkacocemminaaOwnN
import Derived.Test.YtegkacocemminaaPackC
import Derived.Test.YtegkacocemminaaClkB
import Derived.Test.YtegkacocemminaaSealS
import Derived.Test.YtegkacocemminaaOpenS
import Derived.Test.YtegkacocemminaaTbP
import Derived.Test.YtegkacocemminaaTbS
import Derived.WalkKit
import Derived.WalkSpells
import Derived.KernelRfl
import Derived.LoopN
import Derived.Deep.RegionWith
namespace Go.Proofs.Ytegkacocemminaa
open Go.RowKit
set_option linter.unusedVariables false
set_option maxRecDepth 100000

theorem ret_iii {a b c x y z : Int} (h1 : a = x) (h2 : b = y) (h3 : c = z) : Ending.returned (.tuple #[.int .i64 a, .int .i64 b, .int .i64 c]) = .returned (.tuple #[.int .i64 x, .int .i64 y, .int .i64 z]) := by rw [h1, h2, h3]

set_option maxHeartbeats 1600000 in
theorem entryOf_spec (ao : Option Addr) (cap : Nat) (xs : List Int) (g : Int) (w : World) (hl : xs.length ≤ maxLen) (hc : Is w ao xs) :
    Calls Try.prog 14 #[.slice ao xs.length cap, .int .i64 g] w fun e w' => e = .returned (.tuple #[.int .i64 (enK xs g), .int .i64 (enC xs g), .int .i64 (enF xs g)]) ∧ Below w.heap.size w w' := by
  have HC := hide hc
  have HL := hide hl
  unfold maxLen at hl
  clear hc
  have hws : IntKind.i64.wrap ((xs.length : Int) - 1) = (xs.length : Int) - 1 := by rw [IntKind.wrap_i64]; omega
  rcases en_cases xs g with ⟨h0, h1, h2, h3⟩ | ⟨hb, hg, h1, h2, h3⟩ | ⟨hb, q, rfl, hq, h1, h2, h3⟩
  · have HE := hide (And.intro h1 (And.intro h2 h3))
    clear h1 h2 h3
    rcases tbF_cases xs with ⟨l1, l2⟩ | ⟨l1, hb, l2⟩ | ⟨hb, l2⟩
    · have HF := hide l2
      clear l2 h0
      go_enter Try.func14, Try.ntmps14
      go_wp2
      refine bodyPost_ret (v := .tuple #[.int .i64 0, .int .i64 0, .int .i64 2]) (by simp [results, Try.results14]) rfl ⟨?_, Below.refl _ _⟩
      exact ret_iii (unhide HE).2.1.symm (unhide HE).2.2.symm ((unhide HE).1.trans (unhide HF)).symm
    · have HF := hide l2
      clear l2 h0
      go_enter Try.func14, Try.ntmps14
      go_wp2_with (go_at_call 8; refine (tableOK_spec _ _ xs _ (unhide HL) (unhide HC)).mono ?_; rintro e w' ⟨rfl, hw⟩; replace hw := hw.symm; subst hw; rw [hb])
      refine bodyPost_ret (v := .tuple #[.int .i64 0, .int .i64 0, .int .i64 1]) (by simp [results, Try.results14]) rfl ⟨?_, Below.refl _ _⟩
      exact ret_iii (unhide HE).2.1.symm (unhide HE).2.2.symm ((unhide HE).1.trans (unhide HF)).symm
    · exact absurd l2 h0
  · have HE := hide (And.intro h1 (And.intro h2 h3))
    have h4 : ¬ (4096 : Int) < (xs.length : Int) := by have := tbB_len hb; omega
    clear h1 h2 h3
    go_enter Try.func14, Try.ntmps14
    go_wp2_with (first | (go_at_call 8; refine (tableOK_spec _ _ xs _ (unhide HL) (unhide HC)).mono ?_; rintro e w' ⟨rfl, hw⟩; replace hw := hw.symm; subst hw; rw [hb]) | (go_at_call 22; refine (in_any _ _ _ _).mono ?_; rintro e w' ⟨rfl, hw⟩; replace hw := hw.symm; subst hw; rw [hg]))
    refine bodyPost_ret (v := .tuple #[.int .i64 0, .int .i64 0, .int .i64 4]) (by simp [results, Try.results14]) rfl ⟨?_, Below.refl _ _⟩
    exact ret_iii (unhide HE).2.1.symm (unhide HE).2.2.symm (unhide HE).1.symm
  · have HE := hide (And.intro h1 (And.intro h2 h3))
    have h4 : ¬ (4096 : Int) < (xs.length : Int) := by have := tbB_len hb; omega
    have hg : betw (q : Int) 0 ((xs.length : Int) - 1) = true := betw_yes (by omega) (by omega)
    have hqi : (q : Int) < (xs.length : Int) := by omega
    obtain ⟨i0, i1⟩ := tbB_at hb q hq
    obtain ⟨b, off, rfl, hcl⟩ := unhide HC q hq
    have hw2 : IntKind.i64.wrap (xs[q] - 2) = xs[q] - 2 := by rw [IntKind.wrap_i64]; omega
    clear h1 h2 h3
    by_cases h2 : xs[q] ≤ 2
    · have HM : Hid (min xs[q] 2 = xs[q] ∧ max 0 (xs[q] - 2) = 0) := hide ⟨by omega, by omega⟩
      go_enter Try.func14, Try.ntmps14
      go_wp2_with (first | (go_at_call 8; refine (tableOK_spec _ _ xs _ (unhide HL) (unhide HC)).mono ?_; rintro e w' ⟨rfl, hw⟩; replace hw := hw.symm; subst hw; rw [hb]) | (go_at_call 22; refine (in_any _ _ _ _).mono ?_; rintro e w' ⟨rfl, hw⟩; replace hw := hw.symm; subst hw; rw [hg]))
      refine bodyPost_ret (v := .tuple #[.int .i64 xs[q], .int .i64 0, .int .i64 0]) (by simp [results, Try.results14]) rfl ⟨?_, Below.refl _ _⟩
      exact ret_iii ((unhide HE).2.1.trans (unhide HM).1).symm ((unhide HE).2.2.trans (unhide HM).2).symm (unhide HE).1.symm
    · have HM : Hid (min xs[q] 2 = 2 ∧ max 0 (xs[q] - 2) = xs[q] - 2) := hide ⟨by omega, by omega⟩
      go_enter Try.func14, Try.ntmps14
      go_wp2_with (first | (go_at_call 8; refine (tableOK_spec _ _ xs _ (unhide HL) (unhide HC)).mono ?_; rintro e w' ⟨rfl, hw⟩; replace hw := hw.symm; subst hw; rw [hb]) | (go_at_call 22; refine (in_any _ _ _ _).mono ?_; rintro e w' ⟨rfl, hw⟩; replace hw := hw.symm; subst hw; rw [hg]))
      refine bodyPost_ret (v := .tuple #[.int .i64 2, .int .i64 (xs[q] - 2), .int .i64 0]) (by simp [results, Try.results14]) rfl ⟨?_, Below.refl _ _⟩
      exact ret_iii ((unhide HE).2.1.trans (unhide HM).1).symm ((unhide HE).2.2.trans (unhide HM).2).symm (unhide HE).1.symm

set_option maxHeartbeats 1600000 in
theorem l09Resize_any (ao : Option Addr) (cap : Nat) (xs : List Int) (n : Nat) (w : World) (hn : n ≤ 1000) (hl : xs.length ≤ 1000) (hc : Is w ao xs) :
    Calls Try.prog 28 #[.slice ao xs.length cap, .int .i64 n] w fun e w' => ∃ v, e = .returned v ∧ OwnN w' w.heap.size v (rzTo xs n) ∧ Below w.heap.size w w' := by
  obtain ⟨j0, hj, hy0, hy1, hy2⟩ := info_parts infoM
  have HC := hide hc
  have HA : Hid (Below w.heap.size w (w.alloc (.cells #[] 3))) := hide (Joins.below_alloc1 _ _)
  clear hc
  go_enter Try.func28, Try.ntmps28
  go_wp2
  go_loopw [5, 6] (fun o i wr => ∃ (k : Nat) (qo : Option Addr) (qa : Nat), k ≤ n ∧ i = .int .i64 k ∧ o = .slice qo k qa ∧ Hid (OwnR wr w.heap.size 3 1 (.slice qo k qa) k (intV (rzTo xs k))) ∧ Hid (Below w.heap.size w wr)) (fun _ i _ => n - (intOf i).toNat)
  case atStart => exact ⟨0, _, _, Nat.zero_le _, rfl, rfl, hide (.inl ⟨rfl, rfl, _, rfl⟩), HA⟩
  case round =>
    obtain ⟨k, qo, qa, hk, rfl, rfl, HO, HB⟩ := hrel
    have HSZ := hide (unhide HB).size
    by_cases hlt : k < n
    · have hlti : (k : Int) < (n : Int) := by omega
      by_cases hkx : k < xs.length
      · obtain ⟨b, off, rfl, hcl⟩ := (unhide HC).below (unhide HB) k hkx
        have HS : Hid (rzTo xs (k + 1) = rzTo xs k ++ [xs[k]]) := hide (by rw [rzTo_succ]; simp [List.getD, hkx])
        have HOA := hide ((unhide HO).below (Joins.below_alloc1 _ (.cells #[.int .i64 xs[k]] 3)))
        have HBA := hide (fr (unhide HB) (Joins.below_alloc1 _ (.cells #[.int .i64 xs[k]] 3)))
        go_wp2_with (at_builtin; refine wpList_append_one rfl _ _ 22 rfl w.heap.size 3 j0 (.int .i64 0) 1 8 Try.underlying22 hj hy0 hy1 hy2 rfl (by omega) qo k qa (intV (rzTo xs k)) rfl (unhide HOA) (by have := unhide HSZ; simp; omega) ⟨wr.heap.size, 0, none⟩ _ [.int .i64 xs[k]] rfl rfl (byte_news wr _ _) (int_one _) (by unfold maxLen; omega) (by omega) ?_; intro g2 cap2 wA hoA hkA; have HSF := hide (And.intro hoA (keep_below (unhide HBA) (unhide HOA) (Nat.le_refl _) hkA)); clear hoA hkA)
        go_roundw
        case rel => exact ⟨k + 1, some ⟨g2, 0, none⟩, cap2, by omega, by go_num, rfl, hide (.inr ⟨by omega, by rw [unhide HS, intV_snoc]; exact (unhide HSF).1⟩), hide (unhide HSF).2⟩
        case measure => simp [intOf]; omega
      · have hkxi : ¬ (k : Int) < (xs.length : Int) := by omega
        have HS : Hid (rzTo xs (k + 1) = rzTo xs k ++ [0]) := hide (by rw [rzTo_succ]; simp [List.getD, List.getElem?_eq_none (show xs.length ≤ k by omega)])
        have HOA := hide ((unhide HO).below (Joins.below_alloc1 _ (.cells #[.int .i64 0] 3)))
        have HBA := hide (fr (unhide HB) (Joins.below_alloc1 _ (.cells #[.int .i64 0] 3)))
        go_wp2_with (at_builtin; refine wpList_append_one rfl _ _ 22 rfl w.heap.size 3 j0 (.int .i64 0) 1 8 Try.underlying22 hj hy0 hy1 hy2 rfl (by omega) qo k qa (intV (rzTo xs k)) rfl (unhide HOA) (by have := unhide HSZ; simp; omega) ⟨wr.heap.size, 0, none⟩ _ [.int .i64 0] rfl rfl (byte_news wr _ _) (int_one _) (by unfold maxLen; omega) (by omega) ?_; intro g2 cap2 wA hoA hkA; have HSF := hide (And.intro hoA (keep_below (unhide HBA) (unhide HOA) (Nat.le_refl _) hkA)); clear hoA hkA)
        go_roundw
        case rel => exact ⟨k + 1, some ⟨g2, 0, none⟩, cap2, by omega, by go_num, rfl, hide (.inr ⟨by omega, by rw [unhide HS, intV_snoc]; exact (unhide HSF).1⟩), hide (unhide HSF).2⟩
        case measure => simp [intOf]; omega
    · obtain rfl : k = n := by omega
      have HLN := hide (rzTo_len xs k)
      go_wp2
      go_ret
      exact ⟨.slice qo k qa, rfl, ⟨qo, qa, by rw [unhide HLN], by rw [unhide HLN]; exact unhide HO⟩, unhide HB⟩

set_option maxHeartbeats 1600000 in
theorem resizeTable_spec (ao : Option Addr) (cap : Nat) (xs : List Int) (n : Int) (w : World) (hl : xs.length ≤ maxLen) (hc : Is w ao xs) :
    Calls Try.prog 16 #[.slice ao xs.length cap, .int .i64 n] w fun e w' => ∃ v, e = .returned (.tuple #[v, .int .i64 (rzF xs n)]) ∧ OwnN w' w.heap.size v (rzL xs n) ∧ Below w.heap.size w w' := by
  have HC := hide hc
  have HL := hide hl
  unfold maxLen at hl
  clear hc
  rcases rz_cases xs n with ⟨h0, h1, h2⟩ | ⟨hb, hg, h1, h2⟩ | ⟨hb, q, rfl, hq, h1, h2⟩
  · have HE := hide (And.intro h1 h2)
    clear h1 h2
    rcases tbF_cases xs with ⟨l1, l2⟩ | ⟨l1, hb, l2⟩ | ⟨hb, l2⟩
    · have HF := hide l2
      clear l2 h0
      go_enter Try.func16, Try.ntmps16
      go_wp2
      go_ret2
      exact ⟨.slice (some ⟨w.heap.size, 0, none⟩) 0 0, ret_ni rfl ((unhide HE).1.trans (unhide HF)).symm, by rw [(unhide HE).2]; exact OwnN.nil _ _ _, Joins.below_alloc1 _ _⟩
    · have HF := hide l2
      clear l2 h0
      go_enter Try.func16, Try.ntmps16
      go_wp2_with (go_at_call 8; refine (tableOK_spec _ _ xs _ (unhide HL) (unhide HC)).mono ?_; rintro e w' ⟨rfl, hw⟩; replace hw := hw.symm; subst hw; rw [hb])
      go_ret2
      exact ⟨.slice (some ⟨w.heap.size, 0, none⟩) 0 0, ret_ni rfl ((unhide HE).1.trans (unhide HF)).symm, by rw [(unhide HE).2]; exact OwnN.nil _ _ _, Joins.below_alloc1 _ _⟩
    · exact absurd l2 h0
  · have HE := hide (And.intro h1 h2)
    have h4 : ¬ (4096 : Int) < (xs.length : Int) := by have := tbB_len hb; omega
    clear h1 h2
    go_enter Try.func16, Try.ntmps16
    go_wp2_with (first | (go_at_call 8; refine (tableOK_spec _ _ xs _ (unhide HL) (unhide HC)).mono ?_; rintro e w' ⟨rfl, hw⟩; replace hw := hw.symm; subst hw; rw [hb]) | (go_at_call 22; refine (in_any _ _ _ _).mono ?_; rintro e w' ⟨rfl, hw⟩; replace hw := hw.symm; subst hw; rw [hg]))
    go_ret2
    exact ⟨.slice (some ⟨w.heap.size, 0, none⟩) 0 0, ret_ni rfl (unhide HE).1.symm, by rw [(unhide HE).2]; exact OwnN.nil _ _ _, Joins.below_alloc1 _ _⟩
  · have HE := hide (And.intro h1 h2)
    have hx := tbB_len hb
    have h4 : ¬ (4096 : Int) < (xs.length : Int) := by omega
    have hg : betw (q : Int) 0 12 = true := betw_yes (by omega) (by omega)
    clear h1 h2
    go_enter Try.func16, Try.ntmps16
    go_wp2_with (first | (go_at_call 8; refine (tableOK_spec _ _ xs _ (unhide HL) (unhide HC)).mono ?_; rintro e w' ⟨rfl, hw⟩; replace hw := hw.symm; subst hw; rw [hb]) | (go_at_call 22; refine (in_any _ _ _ _).mono ?_; rintro e w' ⟨rfl, hw⟩; replace hw := hw.symm; subst hw; rw [hg]))
    refine (l09Resize_any ao cap xs q _ (by omega) (by omega) (unhide HC)).mono ?_
    rintro e w1 ⟨v, rfl, ho, hb1⟩
    have HB := hide hb1
    have HO := hide ho
    clear hb1 ho
    go_wp2
    go_ret2
    exact ⟨v, ret_ni rfl (unhide HE).1.symm, by rw [(unhide HE).2]; exact unhide HO, unhide HB⟩

end Go.Proofs.Ytegkacocemminaa
