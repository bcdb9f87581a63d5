/- Contracts of PendingOf, of the program and of its model. -/
import Derived.Test.YtgcbofhjgomjoacRows
import Derived.Test.YtgcbofhjgomjoacGen
import Derived.Test.YtgcbofhjgomjoacAsk
import Derived.Test.YtgcbofhjgomjoacPendI
import Derived.WalkKit
import Derived.WalkSpells
namespace Go.Proofs.Ytgcbofhjgomjoac
open Go.RowKit
set_option linter.unusedVariables false

theorem l01Bit_any (b : Bool) (w : World) : Calls Try.prog 65 #[.bool b] w fun e w' => e = .returned (.int .i64 (if b = true then 1 else 0)) ∧ w' = w := by
  cases b
  · go_enter Try.func65, Try.ntmps65
    go_wp2
    go_ret
    exact ⟨rfl, rfl⟩
  · go_enter Try.func65, Try.ntmps65
    go_wp2
    go_ret
    exact ⟨rfl, rfl⟩

set_option maxHeartbeats 1600000 in
theorem l01Count_any (ao bo : Option Addr) (ca cb : Nat) (ss : List ByteArray) (xs : List Wr) (h : Int) (w : World) (hm : xs.length ≤ 1048576) (h2 : Ios w bo xs) :
    Calls Try.prog 49 #[.agg #[.slice ao ss.length ca, .slice bo xs.length cb], .int .i64 h] w fun e w' => e = .returned (.int .i64 (cntW xs h)) ∧ Below w.heap.size w w' := by
  have HA := hide (Joins.below_alloc1 w (.cells #[.slice ao ss.length ca, .slice bo xs.length cb] 29))
  have H2 := hide (h2.below (unhide HA))
  clear h2
  go_enter Try.func49, Try.ntmps49
  go_wp2
  go_loop [5, 6] (fun n i => ∃ k c : Nat, k ≤ xs.length ∧ i = .int .i64 k ∧ n = .int .i64 c ∧ c ≤ k ∧ Hid (c = cntW (xs.take k) h)) (fun _ i => xs.length - (intOf i).toNat)
  case atStart => exact ⟨0, 0, Nat.zero_le _, rfl, rfl, Nat.le_refl _, hide (by simp [cntW])⟩
  case round =>
    obtain ⟨k, c, hk, rfl, rfl, hck, HC⟩ := hrel
    by_cases hlt : k < xs.length
    · obtain ⟨b, off, rfl, hc0, hc1, hc2, hz⟩ := unhide H2 k hlt
      clear hz
      by_cases e0 : xs[k].host = h
      · have b0 : (xs[k].host == h) = true := by simp [e0]
        have HN := hide (cnt_hit hlt e0)
        clear e0
        go_wp2_with (go_at_call 65; refine (l01Bit_any _ _).mono ?_; rintro e w' ⟨rfl, rfl⟩)
        go_round
        case rel => exact ⟨k + 1, c + 1, by omega, by go_num, by go_num, by omega, hide (by rw [unhide HN, ← unhide HC])⟩
        case measure => simp [intOf]; omega
      · have b0 : (xs[k].host == h) = false := by simp [e0]
        have HN := hide (cnt_miss hlt e0)
        clear e0
        go_wp2_with (go_at_call 65; refine (l01Bit_any _ _).mono ?_; rintro e w' ⟨rfl, rfl⟩)
        go_round
        case rel => exact ⟨k + 1, c, by omega, by go_num, by go_num, by omega, hide (by rw [unhide HN, ← unhide HC])⟩
        case measure => simp [intOf]; omega
    · have H : Hid (cntW xs h = c) := by
        have := unhide HC
        rw [List.take_of_length_le (by omega)] at this
        exact this.symm
      go_wp2
      go_ret
      exact ⟨ret_int (by rw [unhide H]), unhide HA⟩

set_option maxHeartbeats 1600000 in
theorem pendingOf_spec (ao bo : Option Addr) (ca cb : Nat) (ss : List ByteArray) (xs : List Wr) (h : Int) (w : World) (hl : ss.length ≤ maxLen) (hm : xs.length ≤ maxLen) (h1 : Ss w ao ss) (h2 : Ios w bo xs) :
    Calls Try.prog 20 #[.agg #[.slice ao ss.length ca, .slice bo xs.length cb], .int .i64 h] w fun e w' => e = .returned (.tuple #[.int .i64 (cntC ss xs h), .int .i64 (hostC ss xs h)]) ∧ Below w.heap.size w w' := by
  have HA := hide (Joins.below_alloc1 w (.cells #[.slice ao ss.length ca, .slice bo xs.length cb] 29))
  have H1 := hide (h1.below (unhide HA))
  have H2 := hide (h2.below (unhide HA))
  have HL := hide hl
  have HM := hide hm
  clear h1 h2 hl hm
  have HZ := hide (askC_zero ss xs h)
  by_cases hc : hostC ss xs h = 0
  · have hb : (askC ss xs h 0 != 0) = false := by rw [unhide HZ, hc]; rfl
    have HQ : Hid (xs.length ≤ 1048576) := hide (by have := (diskB_len (hostC_eq hc).1).2; omega)
    have HR : Hid (cntC ss xs h = (cntW xs h : Int)) := hide (by unfold cntC; rw [if_pos hc])
    have HC := hide hc
    clear hc
    go_enter Try.func20, Try.ntmps20
    go_wp2_with fail
    refine (l01Ask_any _ _ _ _ ss xs h 0 _ (unhide HL) (unhide HM) (unhide H1) (unhide H2)).mono ?_
    rintro e w1 ⟨rfl, hb1⟩
    have hc0 : w1.cell? ⟨w.heap.size, 0, none⟩ = some (.slice ao ss.length ca) := (hb1.cell (by simp)).trans (by simp [go_sem])
    have hc1 : w1.cell? ⟨w.heap.size, 1, none⟩ = some (.slice bo xs.length cb) := (hb1.cell (by simp)).trans (by simp [go_sem])
    have HB1 := hide (fr (unhide HA) hb1)
    have H2' := hide ((unhide H2).below hb1)
    clear hb1
    go_wp2_with fail
    refine (l01Count_any _ _ _ _ ss xs h _ (unhide HQ) (unhide H2')).mono ?_
    rintro e w2 ⟨rfl, hb2⟩
    have HB2 := hide (fr (unhide HB1) hb2)
    clear hb2
    go_wp2
    go_ret2
    exact ⟨ret_two (unhide HR).symm (unhide HC).symm, unhide HB2⟩
  · have hb : (askC ss xs h 0 != 0) = true := by rw [unhide HZ]; simp [hc]
    have HR : Hid (cntC ss xs h = 0) := hide (by unfold cntC; rw [if_neg hc])
    clear hc
    go_enter Try.func20, Try.ntmps20
    go_wp2_with fail
    refine (l01Ask_any _ _ _ _ ss xs h 0 _ (unhide HL) (unhide HM) (unhide H1) (unhide H2)).mono ?_
    rintro e w1 ⟨rfl, hb1⟩
    have HB1 := hide (fr (unhide HA) hb1)
    clear hb1
    go_wp2
    go_ret2
    exact ⟨ret_two (unhide HR).symm (unhide HZ), unhide HB1⟩

end Go.Proofs.Ytgcbofhjgomjoac
