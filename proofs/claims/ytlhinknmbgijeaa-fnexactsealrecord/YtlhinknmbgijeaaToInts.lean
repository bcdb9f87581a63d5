/- Contract of the laws' own copies of lists of numbers (toIntS). -/
import Derived.Test.YtlhinknmbgijeaaRows
import Derived.Test.YtlhinknmbgijeaaGen
import Derived.Test.YtlhinknmbgijeaaInts
import Derived.Test.YtlhinknmbgijeaaEqN
import Derived.WalkKit
import Derived.WalkSpells
import Derived.BigQuiet
import Derived.Deep.QuietTactic
import Derived.Deep.RegionWith
namespace Go.Proofs.Ytlhinknmbgijeaa
open Go.RowKit
set_option linter.unusedVariables false
set_option maxRecDepth 100000

theorem infoN : (Try.prog.info? 3).map (fun i => (i.zero, i.size, i.bytes)) = some (some (.int .i64 0), 1, 8) := by kernel_rfl

set_option maxHeartbeats 800000 in
theorem toIntS_any (ao : Option Addr) (cap : Nat) (ss : List Int) (w : World) (hl : ss.length ≤ 1048576) (hc : Is w ao ss) :
    Calls Try.prog 7 #[.slice ao ss.length cap] w fun e w' => ∃ g, e = .returned (.slice (some ⟨g, 0, none⟩) ss.length ss.length) ∧ w'.ownsRow w.heap.size 3 1 (.slice (some ⟨g, 0, none⟩) ss.length ss.length) ss.length (intV ss) ∧ Below w.heap.size w w' := by
  have HC := hide hc
  clear hc
  obtain ⟨i0, hi, hz0, hz1, hz2⟩ := info_parts infoN
  go_enter Try.func7, Try.ntmps7
  go_wp2_with (first | (at_make; refine wpList_make_full _ rfl _ _ 22 rfl w.heap.size 3 i0 _ 1 Try.underlying22 hi hz0 hz1 _ _ _ _ ss.length rfl rfl rfl rfl ?c1 ?c2 ?c3 ?_))
  case c1 => rw [hz2]; omega
  case c2 => unfold maxLen; omega
  case c3 => exact Nat.le_refl _
  intro w1 hown hgrow
  have hB : Below w.heap.size w w1 := (Below.refl _ _).grown hgrow (Nat.le_refl _) (fun _ h => by cases h)
  have HO := hide hown
  have HB := hide hB
  clear hown hB hgrow
  go_wp2
  go_loopw [4] (fun i wr => ∃ (k : Nat) (xs : List Value), k ≤ ss.length ∧ i = .int .i64 k ∧ Hid (xs.length = ss.length) ∧ Hid (xs.take k = (intV ss).take k) ∧ Hid (wr.ownsRow w.heap.size 3 1 (.slice (some ⟨w.heap.size, 0, none⟩) ss.length ss.length) ss.length xs) ∧ Hid (Below w.heap.size w wr)) (fun i _ => ss.length - (intOf i).toNat)
  case atStart => exact ⟨0, _, Nat.zero_le _, rfl, hide (by rw [(unhide HO).1]; omega), hide (by simp), HO, HB⟩
  case round =>
    obtain ⟨k, xs, hk, rfl, HL, HT, HO, HB⟩ := hrel
    by_cases hlt : k < ss.length
    · obtain ⟨b, off, rfl, hc⟩ := (unhide HC).below (unhide HB) k hlt
      have hfr := (unhide HO).frozenAt k
      obtain ⟨x0, hcx⟩ : ∃ x, wr.cell? ⟨w.heap.size, k, none⟩ = some x := ⟨_, ((unhide HO).cellAt k (by omega)).trans (List.getElem?_eq_getElem (by rw [unhide HL]; exact hlt))⟩
      have HST := hide ((unhide HO).stored k (.int .i64 ss[k]))
      go_wp2
      go_roundw
      case rel =>
        refine ⟨k + 1, xs.set k (.int .i64 ss[k]), by omega, by go_num, hide (by rw [List.length_set]; exact unhide HL), hide ?_, hide (unhide HST).1, hide ?_⟩
        · exact set_take' (by rw [unhide HL, intV_length]) (intV_get hlt) (unhide HT)
        · exact (unhide HB).grown (unhide HST).2 (unhide HB).size (fun k h => by cases h; exact Nat.le_refl _)
      case measure => simp [intOf]; omega
    · go_wp2
      go_ret
      have hkn : k = ss.length := by omega
      subst hkn
      have hxs : xs = intV ss := by
        have := unhide HT
        rwa [List.take_of_length_le (by rw [unhide HL]; exact Nat.le_refl _), List.take_of_length_le (by simp [intV])] at this
      subst hxs
      exact ⟨_, rfl, unhide HO, unhide HB⟩

end Go.Proofs.Ytlhinknmbgijeaa
