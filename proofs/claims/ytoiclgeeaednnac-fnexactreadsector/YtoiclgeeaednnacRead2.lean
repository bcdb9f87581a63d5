/- Contracts of ReadSector, of the program and of its model. -/
import Derived.Test.YtoiclgeeaednnacRows
import Derived.Test.YtoiclgeeaednnacGen
import Derived.Test.YtoiclgeeaednnacAsk
import Derived.Test.YtoiclgeeaednnacPlace
import Derived.Test.YtoiclgeeaednnacReadI
import Derived.WalkKit
import Derived.WalkSpells
namespace Go.Proofs.Ytoiclgeeaednnac
open Go.RowKit
set_option linter.unusedVariables false
set_option maxRecDepth 100000

set_option maxHeartbeats 1600000 in
theorem l01Read_any (ao bo : Option Addr) (ca cb : Nat) (ss : List ByteArray) (xs : List Wr) (h : Int) (a : Nat) (w : World) (ha : a < ss.length) (hs : ss.length ≤ 1048576) (hm : xs.length ≤ maxLen) (h1 : Ss w ao ss) (h2 : Ios w bo xs) :
    Calls Try.prog 29 #[.agg #[.slice ao ss.length ca, .slice bo xs.length cb], .int .i64 h, .int .i64 a] w fun e w' => e = .returned (.string (readV ss xs h a)) ∧ Below w.heap.size w w' := by
  have HA := hide (Joins.below_alloc1 w (.cells #[.slice ao ss.length ca, .slice bo xs.length cb] 31))
  have H1 := hide (h1.below (unhide HA))
  have H2 := hide (h2.below (unhide HA))
  clear h1 h2
  unfold maxLen at hm
  go_enter Try.func29, Try.ntmps29
  go_wp2
  go_loop [7] (fun i => ∃ m : Int, i = .int .i64 m ∧ -1 ≤ m ∧ m < xs.length ∧ Hid (∀ j (hj : j < xs.length), m < j → ¬ mat xs[j] h a)) (fun i => (intOf i + 1).toNat)
  case atStart => exact ⟨_, rfl, by omega, by omega, hide (fun j hj hlt => by omega)⟩
  case round =>
    obtain ⟨m, rfl, hm0, hm1, HN⟩ := hrel
    by_cases hge : 0 ≤ m
    · obtain ⟨k, rfl⟩ := Int.eq_ofNat_of_zero_le hge
      have hk : k < xs.length := by omega
      obtain ⟨b, off, rfl, hc0, hc1, hc2, hz⟩ := unhide H2 k hk
      clear hz
      by_cases e0 : xs[k].host = h
      · have b0 : (xs[k].host == h) = true := by simp [e0]
        by_cases e1 : xs[k].at_ = a
        · have b1 : (xs[k].at_ == (a : Int)) = true := by simp [e1]
          have H := hide (readV_hit (ss := ss) hk ⟨e0, e1⟩ (fun j hj hlt => unhide HN j hj (by omega)))
          clear e0 e1
          go_wp2
          go_ret
          exact ⟨ret_str (unhide H).symm, unhide HA⟩
        · have b1 : (xs[k].at_ == (a : Int)) = false := by simp [e1]
          have HX := hide (no_succ hk (unhide HN) (fun hx => e1 hx.2))
          clear e0 e1
          go_wp2
          go_round
          case rel => exact ⟨_, rfl, by omega, by omega, HX⟩
          case measure => simp [intOf]
      · have b0 : (xs[k].host == h) = false := by simp [e0]
        have HX := hide (no_succ hk (unhide HN) (fun hx => e0 hx.1))
        clear e0
        go_wp2
        go_round
        case rel => exact ⟨_, rfl, by omega, by omega, HX⟩
        case measure => simp [intOf]
    · obtain ⟨b, off, rfl, hc, hz⟩ := unhide H1 a ha
      clear hz
      have hg : ss.getD ((a : Int).toNat) ⟨#[]⟩ = ss[a] := by simp [List.getD, ha]
      have H := hide ((readV_none (ss := ss) (fun j hj => unhide HN j hj (by omega))).trans hg)
      clear hg
      go_wp2
      go_ret
      exact ⟨ret_str (unhide H).symm, unhide HA⟩

set_option maxHeartbeats 1600000 in
theorem readSector_spec (ao bo : Option Addr) (ca cb : Nat) (ss : List ByteArray) (xs : List Wr) (h a : Int) (w : World) (hl : ss.length ≤ maxLen) (hm : xs.length ≤ maxLen) (h1 : Ss w ao ss) (h2 : Ios w bo xs) :
    Calls Try.prog 10 #[.agg #[.slice ao ss.length ca, .slice bo xs.length cb], .int .i64 h, .int .i64 a] w fun e w' => e = .returned (.tuple #[.string (rdS ss xs h a), .int .i64 (askC ss xs h a)]) ∧ Below w.heap.size w w' := by
  have HA := hide (Joins.below_alloc1 w (.cells #[.slice ao ss.length ca, .slice bo xs.length cb] 31))
  have H1 := hide (h1.below (unhide HA))
  have H2 := hide (h2.below (unhide HA))
  have HL := hide hl
  have HM := hide hm
  clear h1 h2 hl hm
  by_cases hc : askC ss xs h a = 0
  · have hb : (askC ss xs h a != 0) = false := by simp [hc]
    obtain ⟨hh, ha0, ha1⟩ := askC_eq hc
    have hlen := (diskB_len (hostC_eq hh).1).1
    have HR : Hid (rdS ss xs h a = readV ss xs h a) := by unfold rdS; rw [if_pos hc]; exact rfl
    have HC := hide hc
    obtain ⟨n, rfl⟩ := Int.eq_ofNat_of_zero_le ha0
    have HN : Hid (n < ss.length) := by rw [hlen]; exact (by omega : n < 64)
    have HQ : Hid (ss.length ≤ 1048576) := by rw [hlen]; exact (by omega : 64 ≤ 1048576)
    clear hc hh hlen
    go_enter Try.func10, Try.ntmps10
    go_wp2_with fail
    refine (l01Ask_any _ _ _ _ ss xs h n _ (unhide HL) (unhide HM) (unhide H1) (unhide H2)).mono ?_
    rintro e w1 ⟨rfl, hb1⟩
    have hc0 : w1.cell? ⟨w.heap.size, 0, none⟩ = some (.slice ao ss.length ca) := (hb1.cell (by simp)).trans (by simp [go_sem])
    have hc1 : w1.cell? ⟨w.heap.size, 1, none⟩ = some (.slice bo xs.length cb) := (hb1.cell (by simp)).trans (by simp [go_sem])
    have HB1 := hide (fr (unhide HA) hb1)
    have H1' := hide ((unhide H1).below hb1)
    have H2' := hide ((unhide H2).below hb1)
    clear hb1
    go_wp2_with fail
    refine (l01Read_any _ _ _ _ ss xs h n _ (unhide HN) (unhide HQ) (unhide HM) (unhide H1') (unhide H2')).mono ?_
    rintro e w2 ⟨rfl, hb2⟩
    have HB2 := hide (fr (unhide HB1) hb2)
    clear hb2
    go_wp2
    go_ret2
    exact ⟨ret_rd (unhide HR).symm (unhide HC).symm, unhide HB2⟩
  · have hb : (askC ss xs h a != 0) = true := by simp [hc]
    have HR : Hid (rdS ss xs h a = ⟨#[]⟩) := by unfold rdS; rw [if_neg hc]; exact rfl
    clear hc
    go_enter Try.func10, Try.ntmps10
    go_wp2_with fail
    refine (l01Ask_any _ _ _ _ ss xs h a _ (unhide HL) (unhide HM) (unhide H1) (unhide H2)).mono ?_
    rintro e w1 ⟨rfl, hb1⟩
    have HB1 := hide (fr (unhide HA) hb1)
    clear hb1
    go_wp2
    go_ret2
    exact ⟨ret_rd (unhide HR).symm rfl, unhide HB1⟩

end Go.Proofs.Ytoiclgeeaednnac
