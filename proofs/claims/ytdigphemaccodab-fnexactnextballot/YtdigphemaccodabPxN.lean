/- Contracts of the next ballot: spec's l05Next, NextBallot; the program's asOf, blocksFault, greatestBegun, NextBallot. -/
import Derived.Test.YtdigphemaccodabRows
import Derived.Test.YtdigphemaccodabGen
import Derived.Test.YtdigphemaccodabKeep
import Derived.Test.YtdigphemaccodabInts
import Derived.Test.YtdigphemaccodabDiskOK
import Derived.Test.YtdigphemaccodabNums
import Derived.Test.YtdigphemaccodabBlkP
import Derived.Test.YtdigphemaccodabBlkS
import Derived.Test.YtdigphemaccodabBlkI
import Derived.Test.YtdigphemaccodabPxP
import Derived.Test.YtdigphemaccodabPxS
import Derived.Test.YtdigphemaccodabPxX
import Derived.Test.YtdigphemaccodabPxU
import Derived.WalkKit
import Derived.WalkSpells
import Derived.KernelRfl
namespace Go.Proofs.Ytdigphemaccodab
open Go.RowKit
set_option linter.unusedVariables false
set_option maxRecDepth 100000

theorem max_le {n m : Int} (h : m ≤ n) : max n m = n := by omega
theorem max_gt {n m : Int} (h : ¬ m ≤ n) : max n m = m := by omega

set_option maxHeartbeats 1600000 in
theorem l05Next_any (h v : Int) (ao : Option Addr) (n cap : Nat) (xs : List Bk) (w : World) (hn : xs.length = n) (hl : n ≤ 1048576) (hh : 0 ≤ h ∧ h ≤ 3) (hm : ∀ i (hi : i < xs.length), xs[i].mbal ≤ 1000000000) (hc : Bks w ao xs) :
    Calls Try.prog 44 #[.int .i64 h, .int .i64 v, .slice ao n cap] w fun e w' => e = .returned (.int .i64 (nxBal h v xs)) ∧ Below w.heap.size w w' := by
  have HC := hide hc
  have HM := hide hm
  clear hc hm
  subst hn
  go_enter Try.func44, Try.ntmps44
  go_wp2
  go_loopw [7, 8] (fun c i wr => ∃ k : Nat, ∃ n : Int, k ≤ xs.length ∧ i = .int .i64 k ∧ c = .int .i64 n ∧ (0 ≤ n ∧ n ≤ 1000000000) ∧ Hid (nxMax v (xs.drop k) n = nxMax v xs 0) ∧ Hid (Below w.heap.size w wr)) (fun _ i _ => xs.length - (intOf i).toNat)
  case atStart => exact ⟨0, 0, Nat.zero_le _, rfl, rfl, by omega, hide rfl, hide (Below.refl _ _)⟩
  case round =>
    obtain ⟨k, n, hk, rfl, rfl, hn, HA, HB⟩ := hrel
    by_cases hlt : k < xs.length
    · obtain ⟨b, off, rfl, c0, c1, c2, c3⟩ := (unhide HC).below (unhide HB) k hlt
      have hf := fieldB1 (bkOf xs[k] v)
      have HN := hide ((nxMax_drop (v := v) hlt n).symm.trans (unhide HA))
      have hmb := bkOf_mbal xs[k] v
      have hm1 := unhide HM k hlt
      go_wp2_with fail
      refine (l05Of_any xs[k] v _).mono ?_
      rintro e w1 ⟨rfl, hb⟩
      have HB1 := hide (fr (unhide HB) hb)
      clear hb
      by_cases hx : (bkOf xs[k] v).mbal ≤ n
      · have HX : Hid (nxMax v (xs.drop (k + 1)) n = nxMax v xs 0) := hide (by rw [← unhide HN, max_le hx])
        go_wp2_with fail
        go_roundw
        case rel => exact ⟨k + 1, n, by omega, by go_num, by first | rfl | (rw [max_le hx]), hn, HX, HB1⟩
        case measure => simp [intOf]; omega
      · have HX : Hid (nxMax v (xs.drop (k + 1)) (bkOf xs[k] v).mbal = nxMax v xs 0) := hide (by rw [← unhide HN, max_gt hx])
        go_wp2_with fail
        go_roundw
        case rel => exact ⟨k + 1, (bkOf xs[k] v).mbal, by omega, by go_num, by first | rfl | (rw [max_gt hx]), by omega, HX, HB1⟩
        case measure => simp [intOf]; omega
    · have HF : Hid (nxBal h v xs = (Int.tdiv n 4 + 1) * 4 + h) := hide (by rw [nxBal, ← unhide HA, nxMax_done hlt])
      have hq : 0 ≤ Int.tdiv n 4 ∧ Int.tdiv n 4 ≤ 1000000000 := by rw [Int.tdiv_eq_ediv_of_nonneg hn.1]; omega
      have w1 : IntKind.i64.wrap (Int.tdiv n 4 + 1) = Int.tdiv n 4 + 1 := by rw [IntKind.wrap_i64]; omega
      have w2 : IntKind.i64.wrap ((Int.tdiv n 4 + 1) * 4) = (Int.tdiv n 4 + 1) * 4 := by rw [IntKind.wrap_i64]; omega
      have w3 : IntKind.i64.wrap ((Int.tdiv n 4 + 1) * 4 + h) = (Int.tdiv n 4 + 1) * 4 + h := by rw [IntKind.wrap_i64]; omega
      go_wp2
      go_ret
      exact ⟨ret_int (unhide HF).symm, unhide HB⟩

set_option maxHeartbeats 1600000 in
theorem asOf_any (x : Bk) (v : Int) (w : World) : Calls Try.prog 62 #[bV x, .int .i64 v] w fun e w' => e = .returned (bV (bkOf x v)) ∧ Below w.heap.size w w' := by
  by_cases h : x.ver < v
  · rw [show bkOf x v = ⟨v, 0, 0, 0⟩ from if_pos h]
    go_enter Try.func62, Try.ntmps62
    go_wp2
    exact bodyPost_ret (v := bV ⟨v, 0, 0, 0⟩) (by simp [results, Try.results62, go_sem]) rfl ⟨rfl, Joins.below_alloc2 _ _ _⟩
  · rw [show bkOf x v = x from if_neg h]
    go_enter Try.func62, Try.ntmps62
    go_wp2
    exact bodyPost_ret (v := bV x) (by simp [results, Try.results62, go_sem]) rfl ⟨rfl, Joins.below_alloc2 _ _ _⟩

set_option maxHeartbeats 1600000 in
theorem blocksFault_any (ao : Option Addr) (cap : Nat) (xs : List Bk) (w : World) (hl : xs.length ≤ 1048576) (hc : Bks w ao xs) :
    Calls Try.prog 40 #[.slice ao xs.length cap] w fun e w' => e = .returned (.int .i64 (bfC xs)) ∧ Below w.heap.size w w' := by
  have HC := hide hc
  clear hc
  by_cases h1 : 4096 < xs.length
  · have HE := hide (bfC_long h1)
    go_enter Try.func40, Try.ntmps40
    go_wp2
    go_ret
    exact ⟨ret_int (unhide HE).symm, Below.refl _ _⟩
  by_cases h4 : ¬ xs.length = 4
  · have HE := hide (bfC_bad h1 (bksB_false_len h4))
    have hb : ((xs.length : Int) != 4) = true := by simp; omega
    go_enter Try.func40, Try.ntmps40
    go_wp2
    go_ret
    exact ⟨ret_int (unhide HE).symm, Below.refl _ _⟩
  rw [Decidable.not_not] at h4
  have hb : ((xs.length : Int) != 4) = false := by simp; omega
  have H4 := hide h4
  clear h4
  go_enter Try.func40, Try.ntmps40
  go_wp2
  go_loopw [4, 13] (fun _ i wr => ∃ k : Nat, k ≤ xs.length ∧ i = .int .i64 k ∧ Hid (∀ j (h : j < xs.length), j < k → bkB xs[j] = true) ∧ Hid (Below w.heap.size w wr)) (fun _ i _ => xs.length - (intOf i).toNat)
  case atStart => exact ⟨0, Nat.zero_le _, rfl, hide (fun j _ h => by omega), hide (Below.refl _ _)⟩
  case round =>
    obtain ⟨k, hk, rfl, HA, HB⟩ := hrel
    by_cases hlt : k < xs.length
    · obtain ⟨b, off, rfl, c0, c1, c2, c3⟩ := (unhide HC).below (unhide HB) k hlt
      by_cases hn : bkB xs[k] = true
      · have HN := hide (all_succ (p := bkB) hlt (unhide HA) hn)
        go_wp2_with fail
        refine (blockOK_impl xs[k] _).mono ?_
        rintro e w1 ⟨rfl, hb⟩
        have HB1 := hide (fr (fr (unhide HB) (Joins.below_alloc1 _ _)) hb)
        clear hb
        go_wp2_with fail
        go_roundw
        case rel => exact ⟨k + 1, by omega, by go_num, HN, HB1⟩
        case measure => simp [intOf]; omega
      · have hn' : bkB xs[k] = false := by simpa using hn
        have HF := hide (bfC_bad h1 (bksB_false_at hlt hn'))
        clear hn
        go_wp2_with fail
        refine (blockOK_impl xs[k] _).mono ?_
        rintro e w1 ⟨rfl, hb⟩
        have HB1 := hide (fr (fr (unhide HB) (Joins.below_alloc1 _ _)) hb)
        clear hb
        go_wp2
        go_ret
        exact ⟨ret_int (unhide HF).symm, unhide HB1⟩
    · have HF := hide (bfC_ok h1 (bksB_true (unhide H4) (fun j h => unhide HA j h (by omega))))
      go_wp2
      go_ret
      exact ⟨ret_int (unhide HF).symm, unhide HB⟩

set_option maxHeartbeats 1600000 in
theorem greatestBegun_any (v : Int) (ao : Option Addr) (n cap : Nat) (xs : List Bk) (w : World) (hn : xs.length = n) (hl : n ≤ 1048576) (hm : ∀ i (hi : i < xs.length), xs[i].mbal ≤ 1000000000) (hc : Bks w ao xs) :
    Calls Try.prog 45 #[.slice ao n cap, .int .i64 v] w fun e w' => e = .returned (.int .i64 (nxMax v xs 0)) ∧ (0 ≤ nxMax v xs 0 ∧ nxMax v xs 0 ≤ 1000000000) ∧ Below w.heap.size w w' := by
  have HC := hide hc
  have HM := hide hm
  clear hc hm
  subst hn
  go_enter Try.func45, Try.ntmps45
  go_wp2
  go_loopw [5, 7, 10] (fun c _ i wr => ∃ k : Nat, ∃ n : Int, k ≤ xs.length ∧ i = .int .i64 k ∧ c = .int .i64 n ∧ (0 ≤ n ∧ n ≤ 1000000000) ∧ Hid (nxMax v (xs.drop k) n = nxMax v xs 0) ∧ Hid (Below w.heap.size w wr)) (fun _ _ i _ => xs.length - (intOf i).toNat)
  case atStart => exact ⟨0, 0, Nat.zero_le _, rfl, rfl, by omega, hide rfl, hide (Below.refl _ _)⟩
  case round =>
    obtain ⟨k, n, hk, rfl, rfl, hn, HA, HB⟩ := hrel
    by_cases hlt : k < xs.length
    · obtain ⟨b, off, rfl, c0, c1, c2, c3⟩ := (unhide HC).below (unhide HB) k hlt
      have hf := fieldB1 (bkOf xs[k] v)
      have HN := hide ((nxMax_drop (v := v) hlt n).symm.trans (unhide HA))
      have hmb := bkOf_mbal xs[k] v
      have hm1 := unhide HM k hlt
      go_wp2_with fail
      refine (asOf_any xs[k] v _).mono ?_
      rintro e w1 ⟨rfl, hb⟩
      have HB1 := hide (fr (fr (unhide HB) (Joins.below_alloc1 _ _)) hb)
      clear hb
      by_cases hx : (bkOf xs[k] v).mbal ≤ n
      · have HX : Hid (nxMax v (xs.drop (k + 1)) n = nxMax v xs 0) := hide (by rw [← unhide HN, max_le hx])
        go_wp2_with fail
        go_roundw
        case rel => exact ⟨k + 1, n, by omega, by go_num, by first | rfl | (rw [max_le hx]), hn, HX, HB1⟩
        case measure => simp [intOf]; omega
      · have HX : Hid (nxMax v (xs.drop (k + 1)) (bkOf xs[k] v).mbal = nxMax v xs 0) := hide (by rw [← unhide HN, max_gt hx])
        go_wp2_with fail
        go_roundw
        case rel => exact ⟨k + 1, (bkOf xs[k] v).mbal, by omega, by go_num, by first | rfl | (rw [max_gt hx]), by omega, HX, HB1⟩
        case measure => simp [intOf]; omega
    · have HF : Hid (nxMax v xs 0 = n) := hide (by rw [← unhide HA, nxMax_done hlt])
      go_wp2
      go_ret
      rw [unhide HF]
      exact ⟨rfl, hn, unhide HB⟩

theorem bks_mbal {xs : List Bk} (h : bksB xs = true) : ∀ i (hi : i < xs.length), xs[i].mbal ≤ 1000000000 := fun i hi => by
  have := (bksB_parts h).2 i hi
  have e : xs.getD i bk0 = xs[i] := by simp [hi]
  rw [e] at this
  have := (bkB_iff.1 this).2.1
  omega
theorem ret_ii {a b c d : Int} (h : a = b) (k : c = d) : Ending.returned (.tuple #[.int .i64 a, .int .i64 c]) = .returned (.tuple #[.int .i64 b, .int .i64 d]) := by rw [h, k]

set_option maxHeartbeats 3200000 in
theorem nextBallot_impl (h v : Int) (ao : Option Addr) (cap : Nat) (xs : List Bk) (w : World) (hl : xs.length ≤ 1048576) (hc : Bks w ao xs) :
    Calls Try.prog 22 #[.int .i64 h, .int .i64 v, .slice ao xs.length cap] w fun e w' => e = .returned (.tuple #[.int .i64 (nbN h v xs), .int .i64 (nbC h v xs)]) ∧ Below w.heap.size w w' := by
  have HC := hide hc
  clear hc
  go_enter Try.func22, Try.ntmps22
  go_wp2_with fail
  refine (blocksFault_any ao cap xs _ hl (unhide HC)).mono ?_
  rintro e w1 ⟨rfl, hb⟩
  have HB := hide hb
  clear hb
  by_cases h0 : ¬ bfC xs = 0
  · have HE := hide (nb_fault (h := h) (v := v) h0)
    have hb : (bfC xs != 0) = true := by simp [h0]
    go_wp2
    go_ret2
    exact ⟨ret_ii (unhide HE).1.symm (unhide HE).2.symm, unhide HB⟩
  rw [Decidable.not_not] at h0
  have hb : (bfC xs != 0) = false := by simp [h0]
  have H0 := hide h0
  clear h0
  go_wp2_with fail
  refine (hostOK_any h _).mono ?_
  rintro e w2 ⟨rfl, rfl⟩
  by_cases h1 : inB h 0 3 = false
  · have HE := hide (nb_range (h := h) (v := v) (unhide H0) (by rw [h1]; rfl))
    go_wp2
    go_ret2
    exact ⟨ret_ii (unhide HE).1.symm (unhide HE).2.symm, unhide HB⟩
  rw [Bool.not_eq_false] at h1
  go_wp2_with fail
  refine (verOK_any v _).mono ?_
  rintro e w2 ⟨rfl, rfl⟩
  by_cases h2 : inB v 0 1000000 = false
  · have HE := hide (nb_range (h := h) (v := v) (unhide H0) (by rw [h1, h2]; rfl))
    go_wp2
    go_ret2
    exact ⟨ret_ii (unhide HE).1.symm (unhide HE).2.symm, unhide HB⟩
  rw [Bool.not_eq_false] at h2
  go_wp2_with fail
  refine (greatestBegun_any v ao xs.length cap xs _ rfl hl (bks_mbal (bfC_zero (unhide H0))) ((unhide HC).below (unhide HB))).mono ?_
  rintro e w3 ⟨rfl, hn, hb3⟩
  have HB3 := hide (fr (unhide HB) hb3)
  clear hb3
  have HX : Hid (nxBal h v xs = (Int.tdiv (nxMax v xs 0) 4 + 1) * 4 + h) := hide rfl
  have hh : 0 ≤ h ∧ h ≤ 3 := by simpa [inB] using h1
  have HM := hide (fun e => nb_many (h := h) (v := v) (unhide H0) h1 h2 e)
  have HO := hide (fun e => nb_ok (h := h) (v := v) (unhide H0) h1 h2 e)
  revert HX hn
  generalize nxMax v xs 0 = n
  intro hn HX
  have hq : 0 ≤ Int.tdiv n 4 ∧ Int.tdiv n 4 ≤ 1000000000 := by rw [Int.tdiv_eq_ediv_of_nonneg hn.1]; omega
  have w1 : IntKind.i64.wrap (Int.tdiv n 4 + 1) = Int.tdiv n 4 + 1 := by rw [IntKind.wrap_i64]; omega
  have w2 : IntKind.i64.wrap ((Int.tdiv n 4 + 1) * 4) = (Int.tdiv n 4 + 1) * 4 := by rw [IntKind.wrap_i64]; omega
  have w3 : IntKind.i64.wrap ((Int.tdiv n 4 + 1) * 4 + h) = (Int.tdiv n 4 + 1) * 4 + h := by rw [IntKind.wrap_i64]; omega
  by_cases hm : 1000000 < (Int.tdiv n 4 + 1) * 4 + h
  · have HE := hide (unhide HM (by rw [unhide HX]; exact hm))
    go_wp2
    go_ret2
    exact ⟨ret_ii (unhide HE).1.symm (unhide HE).2.symm, unhide HB3⟩
  · have HE := hide (unhide HO (by rw [unhide HX]; exact hm))
    go_wp2
    go_ret2
    exact ⟨ret_ii ((unhide HX).symm.trans (unhide HE).1.symm) (unhide HE).2.symm, unhide HB3⟩

set_option maxHeartbeats 3200000 in
theorem nextBallot_spec (h v : Int) (ao : Option Addr) (cap : Nat) (xs : List Bk) (w : World) (hl : xs.length ≤ 1048576) (hc : Bks w ao xs) :
    Calls Try.prog 21 #[.int .i64 h, .int .i64 v, .slice ao xs.length cap] w fun e w' => e = .returned (.tuple #[.int .i64 (nbN h v xs), .int .i64 (nbC h v xs)]) ∧ Below w.heap.size w w' := by
  have HC := hide hc
  clear hc
  by_cases hlong : 4096 < xs.length
  · have HE := hide (nb_fault (h := h) (v := v) (xs := xs) (by rw [bfC_long hlong]; decide))
    have HF := hide (bfC_long hlong)
    go_enter Try.func21, Try.ntmps21
    go_wp2
    go_ret2
    exact ⟨ret_ii (unhide HE).1.symm ((unhide HE).2.trans (unhide HF)).symm, Below.refl _ _⟩
  go_enter Try.func21, Try.ntmps21
  go_wp2_with fail
  refine (l05Blocks_any ao cap xs _ hl (unhide HC)).mono ?_
  rintro e w1 ⟨rfl, hb⟩
  have HB := hide hb
  clear hb
  by_cases h0 : bksB xs = false
  · have HF := hide (bfC_bad hlong h0)
    have HE := hide (nb_fault (h := h) (v := v) (xs := xs) (by rw [unhide HF]; decide))
    go_wp2
    go_ret2
    exact ⟨ret_ii (unhide HE).1.symm ((unhide HE).2.trans (unhide HF)).symm, unhide HB⟩
  rw [Bool.not_eq_false] at h0
  have H0 := hide (bfC_ok hlong h0)
  go_wp2_with fail
  refine (l04Host_px h _).mono ?_
  rintro e w2 ⟨rfl, rfl⟩
  by_cases h1 : inB h 0 3 = false
  · have HE := hide (nb_range (h := h) (v := v) (unhide H0) (by rw [h1]; rfl))
    go_wp2
    go_ret2
    exact ⟨ret_ii (unhide HE).1.symm (unhide HE).2.symm, unhide HB⟩
  rw [Bool.not_eq_false] at h1
  go_wp2_with fail
  refine (l01In_num v 0 1000000 _).mono ?_
  rintro e w2 ⟨rfl, rfl⟩
  by_cases h2 : inB v 0 1000000 = false
  · have HE := hide (nb_range (h := h) (v := v) (unhide H0) (by rw [h1, h2]; rfl))
    go_wp2
    go_ret2
    exact ⟨ret_ii (unhide HE).1.symm (unhide HE).2.symm, unhide HB⟩
  rw [Bool.not_eq_false] at h2
  have hh : 0 ≤ h ∧ h ≤ 3 := by simpa [inB] using h1
  go_wp2_with fail
  refine (l05Next_any h v ao xs.length cap xs _ rfl hl hh (bks_mbal (bfC_zero (unhide H0))) ((unhide HC).below (unhide HB))).mono ?_
  rintro e w3 ⟨rfl, hb3⟩
  have HB3 := hide (fr (unhide HB) hb3)
  clear hb3
  have HM := hide (fun e => nb_many (h := h) (v := v) (unhide H0) h1 h2 e)
  have HO := hide (fun e => nb_ok (h := h) (v := v) (unhide H0) h1 h2 e)
  by_cases hm : 1000000 < nxBal h v xs
  · have HE := hide (unhide HM hm)
    go_wp2
    go_ret2
    exact ⟨ret_ii (unhide HE).1.symm (unhide HE).2.symm, unhide HB3⟩
  · have HE := hide (unhide HO hm)
    go_wp2
    go_ret2
    exact ⟨ret_ii (unhide HE).1.symm (unhide HE).2.symm, unhide HB3⟩

end Go.Proofs.Ytdigphemaccodab
