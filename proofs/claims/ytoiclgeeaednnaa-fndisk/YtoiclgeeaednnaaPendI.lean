/- Contract of impl.PendingOf. -/
import Derived.Test.YtoiclgeeaednnaaRows
import Derived.Test.YtoiclgeeaednnaaGen
import Derived.Test.YtoiclgeeaednnaaAsk
import Derived.WalkKit
import Derived.WalkSpells
namespace Go.Proofs.Ytoiclgeeaednnaa
open Go.RowKit
set_option linter.unusedVariables false
set_option maxRecDepth 100000

/-- How many writes a host has. -/
def cntW (xs : List Wr) (h : Int) : Nat := (xs.filter fun x => x.host == h).length
theorem cntW_le (xs : List Wr) (h : Int) : cntW xs h ≤ xs.length := List.length_filter_le _ _
theorem cnt_hit {xs : List Wr} {h : Int} {k : Nat} (hk : k < xs.length) (he : xs[k].host = h) : cntW (xs.take (k + 1)) h = cntW (xs.take k) h + 1 := by
  rw [cntW, cntW, List.take_succ_eq_append_getElem hk, List.filter_append, List.length_append]; simp [he]
theorem cnt_miss {xs : List Wr} {h : Int} {k : Nat} (hk : k < xs.length) (he : ¬ xs[k].host = h) : cntW (xs.take (k + 1)) h = cntW (xs.take k) h := by
  rw [cntW, cntW, List.take_succ_eq_append_getElem hk, List.filter_append, List.length_append]; simp [he]
theorem askC_zero (ss : List ByteArray) (xs : List Wr) (h : Int) : askC ss xs h 0 = hostC ss xs h := by
  unfold askC
  split
  · rename_i e; rw [e]; rfl
  · rfl
def cntC (ss : List ByteArray) (xs : List Wr) (h : Int) : Int := if hostC ss xs h = 0 then (cntW xs h : Int) else 0
theorem ret_two {a b c d : Int} (h : a = b) (k : c = d) : Ending.returned (.tuple #[.int .i64 a, .int .i64 c]) = .returned (.tuple #[.int .i64 b, .int .i64 d]) := by rw [h, k]

set_option maxHeartbeats 1600000 in
theorem countWrites_any (ao bo : Option Addr) (ca cb : Nat) (ss : List ByteArray) (xs : List Wr) (h : Int) (w : World) (hm : xs.length ≤ 1048576) (h2 : Ios w bo xs) :
    Calls Try.prog 41 #[.agg #[.slice ao ss.length ca, .slice bo xs.length cb], .int .i64 h] w fun e w' => e = .returned (.int .i64 (cntW xs h)) ∧ Below w.heap.size w w' := by
  have HA := hide (Joins.below_alloc1 w (.cells #[.slice ao ss.length ca, .slice bo xs.length cb] 26))
  have H2 := hide (h2.below (unhide HA))
  clear h2
  go_enter Try.func41, Try.ntmps41
  go_wp2
  go_loopw [5, 7, 11] (fun n _ i wr => ∃ k c : Nat, k ≤ xs.length ∧ i = .int .i64 k ∧ n = .int .i64 c ∧ c ≤ k ∧ Hid (c = cntW (xs.take k) h) ∧ Hid (Below (w.alloc (.cells #[.slice ao ss.length ca, .slice bo xs.length cb] 26)).heap.size (w.alloc (.cells #[.slice ao ss.length ca, .slice bo xs.length cb] 26)) wr)) (fun _ _ i _ => xs.length - (intOf i).toNat)
  case atStart => exact ⟨0, 0, Nat.zero_le _, rfl, rfl, Nat.le_refl _, hide (by simp [cntW]), hide (Below.refl _ _)⟩
  case round =>
    obtain ⟨k, c, hk, rfl, rfl, hck, HC, HB⟩ := hrel
    by_cases hlt : k < xs.length
    · obtain ⟨b, off, rfl, hc0, hc1, hc2, hz⟩ := (unhide H2).below (unhide HB) k hlt
      clear hz
      have HBA := hide (fun o => (unhide HB).alloc (unhide HB).size o)
      by_cases e0 : xs[k].host = h
      · have b0 : (xs[k].host == h) = true := by simp [e0]
        have HN := hide (cnt_hit hlt e0)
        clear e0
        go_wp2
        go_roundw
        case rel => exact ⟨k + 1, c + 1, by omega, by go_num, by go_num, by omega, hide (by rw [unhide HN, ← unhide HC]), hide (unhide HBA _)⟩
        case measure => simp [intOf]; omega
      · have b0 : (xs[k].host == h) = false := by simp [e0]
        have HN := hide (cnt_miss hlt e0)
        clear e0
        go_wp2
        go_roundw
        case rel => exact ⟨k + 1, c, by omega, by go_num, by go_num, by omega, hide (by rw [unhide HN, ← unhide HC]), hide (unhide HBA _)⟩
        case measure => simp [intOf]; omega
    · have H : Hid (cntW xs h = c) := by
        have := unhide HC
        rw [List.take_of_length_le (by omega)] at this
        exact this.symm
      go_wp2
      go_ret
      exact ⟨ret_int (by rw [unhide H]), fr (unhide HA) (unhide HB)⟩

set_option maxHeartbeats 1600000 in
theorem pendingOf_impl (ao bo : Option Addr) (ca cb : Nat) (ss : List ByteArray) (xs : List Wr) (h : Int) (w : World) (hl : ss.length ≤ maxLen) (hm : xs.length ≤ maxLen) (h1 : Ss w ao ss) (h2 : Ios w bo xs) :
    Calls Try.prog 15 #[.agg #[.slice ao ss.length ca, .slice bo xs.length cb], .int .i64 h] w fun e w' => e = .returned (.tuple #[.int .i64 (cntC ss xs h), .int .i64 (hostC ss xs h)]) ∧ Below w.heap.size w w' := by
  have HA := hide (Joins.below_alloc1 w (.cells #[.slice ao ss.length ca, .slice bo xs.length cb] 26))
  have H1 := hide (h1.below (unhide HA))
  have H2 := hide (h2.below (unhide HA))
  have HL := hide hl
  have HM := hide hm
  clear h1 h2 hl hm
  by_cases hc : hostC ss xs h = 0
  · have hb : (hostC ss xs h != 0) = false := by rw [hc]; rfl
    have HQ : Hid (xs.length ≤ 1048576) := hide (by have := (diskB_len (hostC_eq hc).1).2; omega)
    have HR : Hid (cntC ss xs h = (cntW xs h : Int)) := hide (by unfold cntC; rw [if_pos hc])
    have HC := hide hc
    clear hc
    go_enter Try.func15, Try.ntmps15
    go_wp2_with fail
    refine (hostFault_any _ _ _ _ ss xs h _ (unhide HL) (unhide HM) (unhide H1) (unhide H2)).mono ?_
    rintro e w1 ⟨rfl, hb1⟩
    have hc0 : w1.cell? ⟨w.heap.size, 0, none⟩ = some (.slice ao ss.length ca) := (hb1.cell (by simp)).trans (by simp [go_sem])
    have hc1 : w1.cell? ⟨w.heap.size, 1, none⟩ = some (.slice bo xs.length cb) := (hb1.cell (by simp)).trans (by simp [go_sem])
    have HB1 := hide (fr (unhide HA) hb1)
    have H2' := hide ((unhide H2).below hb1)
    clear hb1
    go_wp2_with fail
    refine (countWrites_any _ _ _ _ ss xs h _ (unhide HQ) (unhide H2')).mono ?_
    rintro e w2 ⟨rfl, hb2⟩
    have HB2 := hide (fr (unhide HB1) hb2)
    clear hb2
    go_wp2
    go_ret2
    exact ⟨ret_two (unhide HR).symm (unhide HC).symm, unhide HB2⟩
  · have hb : (hostC ss xs h != 0) = true := by simp [hc]
    have HR : Hid (cntC ss xs h = 0) := hide (by unfold cntC; rw [if_neg hc])
    clear hc
    go_enter Try.func15, Try.ntmps15
    go_wp2_with fail
    refine (hostFault_any _ _ _ _ ss xs h _ (unhide HL) (unhide HM) (unhide H1) (unhide H2)).mono ?_
    rintro e w1 ⟨rfl, hb1⟩
    have HB1 := hide (fr (unhide HA) hb1)
    clear hb1
    go_wp2
    go_ret2
    exact ⟨ret_two (unhide HR).symm rfl, unhide HB1⟩

end Go.Proofs.Ytoiclgeeaednnaa
