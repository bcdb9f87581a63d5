/- Contracts of impl.seenBy, impl.ReadSector. -/
import Derived.Test.YtoiclgeeaednnacRows
import Derived.Test.YtoiclgeeaednnacGen
import Derived.Test.YtoiclgeeaednnacAsk
import Derived.Test.YtoiclgeeaednnacPlace
import Derived.WalkKit
import Derived.WalkSpells
namespace Go.Proofs.Ytoiclgeeaednnac
open Go.RowKit
set_option linter.unusedVariables false
set_option maxRecDepth 100000

theorem ret_str {a b : ByteArray} (h : a = b) : Ending.returned (.string a) = .returned (.string b) := by rw [h]
theorem ret_rd {a b : ByteArray} {c d : Int} (h : a = b) (k : c = d) : Ending.returned (.tuple #[.string a, .int .i64 c]) = .returned (.tuple #[.string b, .int .i64 d]) := by rw [h, k]
theorem no_succ {xs : List Wr} {h a : Int} {k : Nat} (hk : k < xs.length) (hn : ∀ j (hj : j < xs.length), (k : Int) < j → ¬ mat xs[j] h a) (hx : ¬ mat xs[k] h a) : ∀ j (hj : j < xs.length), (k : Int) - 1 < j → ¬ mat xs[j] h a := by
  intro j hj hlt
  by_cases e : j = k
  · subst e; exact hx
  · exact hn j hj (by omega)

set_option maxHeartbeats 1600000 in
theorem seenBy_any (ao bo : Option Addr) (ca cb : Nat) (ss : List ByteArray) (xs : List Wr) (h : Int) (n : Nat) (w : World) (hlx : xs.length ≤ 200) (hn : n < ss.length) (hq : ss.length ≤ 1048576) (h1 : Ss w ao ss) (h2 : Ios w bo xs) :
    Calls Try.prog 33 #[.agg #[.slice ao ss.length ca, .slice bo xs.length cb], .int .i64 h, .int .i64 n] w fun e w' => e = .returned (.string (readV ss xs h n)) ∧ Below w.heap.size w w' := by
  have HA := hide (Joins.below_alloc1 w (.cells #[.slice ao ss.length ca, .slice bo xs.length cb] 31))
  have H1' := hide (h1.below (unhide HA))
  have H2' := hide (h2.below (unhide HA))
  have hc0 : (w.alloc (.cells #[.slice ao ss.length ca, .slice bo xs.length cb] 31)).cell? ⟨w.heap.size, 0, none⟩ = some (.slice ao ss.length ca) := by simp [go_sem]
  have hc1 : (w.alloc (.cells #[.slice ao ss.length ca, .slice bo xs.length cb] 31)).cell? ⟨w.heap.size, 1, none⟩ = some (.slice bo xs.length cb) := by simp [go_sem]
  have HC0 := hide hc0
  have HC1 := hide hc1
  have hlt : w.heap.size < (w.alloc (.cells #[.slice ao ss.length ca, .slice bo xs.length cb] 31)).heap.size := by simp
  clear h1 h2 hc0 hc1
  go_enter Try.func33, Try.ntmps33
  go_wp2
  revert HA H1' H2' HC0 HC1 hlt
  generalize w.alloc (.cells #[.slice ao ss.length ca, .slice bo xs.length cb] 31) = w1
  intro HA H1' H2' HC0 HC1 hlt
  go_loopw [7, 8] (fun i _ wr => ∃ m : Int, i = .int .i64 m ∧ -1 ≤ m ∧ m < xs.length ∧ Hid (∀ j (hj : j < xs.length), m < j → ¬ mat xs[j] h n) ∧ Hid (Below w1.heap.size w1 wr)) (fun i _ _ => (intOf i + 1).toNat)
  case atStart => exact ⟨_, rfl, by omega, by omega, hide (fun j hj hlt => by omega), hide (Below.refl _ _)⟩
  case round =>
    obtain ⟨m, rfl, hm0, hm1, HN, HB⟩ := hrel
    have hc0 : wr.cell? ⟨w.heap.size, 0, none⟩ = some (.slice ao ss.length ca) := ((unhide HB).cell (World.block_lt_of_cell? _ _ (unhide HC0))).trans (unhide HC0)
    have hc1 : wr.cell? ⟨w.heap.size, 1, none⟩ = some (.slice bo xs.length cb) := ((unhide HB).cell (World.block_lt_of_cell? _ _ (unhide HC1))).trans (unhide HC1)
    by_cases hge : 0 ≤ m
    · obtain ⟨k, rfl⟩ := Int.eq_ofNat_of_zero_le hge
      have hk : k < xs.length := by omega
      obtain ⟨b, off, rfl, hd0, hd1, hd2, hz⟩ := (unhide H2').below (unhide HB) k hk
      clear hz
      have HBA := hide (fun o => (unhide HB).alloc (unhide HB).size o)
      by_cases e0 : xs[k].host = h
      · have b0 : (xs[k].host == h) = true := by simp [e0]
        by_cases e1 : xs[k].at_ = n
        · have b1 : (xs[k].at_ == (n : Int)) = true := by simp [e1]
          have H := hide (readV_hit (ss := ss) hk ⟨e0, e1⟩ (fun j hj hlt => unhide HN j hj (by omega)))
          clear e0 e1
          go_wp2
          go_ret
          exact ⟨ret_str (unhide H).symm, fr (unhide HA) (unhide HBA _)⟩
        · have b1 : (xs[k].at_ == (n : Int)) = false := by simp [e1]
          have HX := hide (no_succ hk (unhide HN) (fun hx => e1 hx.2))
          clear e0 e1
          go_wp2
          go_roundw
          case rel => exact ⟨_, rfl, by omega, by omega, HX, hide (unhide HBA _)⟩
          case measure => simp [intOf]
      · have b0 : (xs[k].host == h) = false := by simp [e0]
        have HX := hide (no_succ hk (unhide HN) (fun hx => e0 hx.1))
        clear e0
        go_wp2
        go_roundw
        case rel => exact ⟨_, rfl, by omega, by omega, HX, hide (unhide HBA _)⟩
        case measure => simp [intOf]
    · obtain ⟨b, off, rfl, hc, hz⟩ := (unhide H1').below (unhide HB) n hn
      clear hz
      have hg : ss.getD ((n : Int).toNat) ⟨#[]⟩ = ss[n] := by simp [List.getD, hn]
      have H := hide ((readV_none (ss := ss) (fun j hj => unhide HN j hj (by omega))).trans hg)
      clear hg
      go_wp2
      go_ret
      exact ⟨ret_str (unhide H).symm, fr (unhide HA) (unhide HB)⟩

set_option maxHeartbeats 1600000 in
theorem readSector_impl (ao bo : Option Addr) (ca cb : Nat) (ss : List ByteArray) (xs : List Wr) (h a : Int) (w : World) (hl : ss.length ≤ maxLen) (hm : xs.length ≤ maxLen) (h1 : Ss w ao ss) (h2 : Ios w bo xs) :
    Calls Try.prog 12 #[.agg #[.slice ao ss.length ca, .slice bo xs.length cb], .int .i64 h, .int .i64 a] w fun e w' => e = .returned (.tuple #[.string (rdS ss xs h a), .int .i64 (askC ss xs h a)]) ∧ Below w.heap.size w w' := by
  have HA := hide (Joins.below_alloc1 w (.cells #[.slice ao ss.length ca, .slice bo xs.length cb] 31))
  have H1 := hide (h1.below (unhide HA))
  have H2 := hide (h2.below (unhide HA))
  have HL := hide hl
  have HM := hide hm
  clear h1 h2 hl hm
  by_cases hc : askC ss xs h a = 0
  · have hb : (askC ss xs h a != 0) = false := by simp [hc]
    obtain ⟨hh, ha0, ha1⟩ := askC_eq hc
    obtain ⟨hlen, hlx⟩ := diskB_len (hostC_eq hh).1
    have HR : Hid (rdS ss xs h a = readV ss xs h a) := by unfold rdS; rw [if_pos hc]; exact rfl
    have HC := hide hc
    obtain ⟨n, rfl⟩ := Int.eq_ofNat_of_zero_le ha0
    have hn : n < ss.length := by omega
    have hq : ss.length ≤ 1048576 := by omega
    clear hc hh hlen
    go_enter Try.func12, Try.ntmps12
    go_wp2_with fail
    refine (placeFault_any _ _ _ _ ss xs h n _ (unhide HL) (unhide HM) (unhide H1) (unhide H2)).mono ?_
    rintro e w1 ⟨rfl, hb1⟩
    have hc0 : w1.cell? ⟨w.heap.size, 0, none⟩ = some (.slice ao ss.length ca) := (hb1.cell (by simp)).trans (by simp [go_sem])
    have hc1 : w1.cell? ⟨w.heap.size, 1, none⟩ = some (.slice bo xs.length cb) := (hb1.cell (by simp)).trans (by simp [go_sem])
    have HB1 := hide (fr (unhide HA) hb1)
    have H1' := hide ((unhide H1).below hb1)
    have H2' := hide ((unhide H2).below hb1)
    clear hb1
    go_wp2_with fail
    refine (seenBy_any _ _ _ _ ss xs h n _ hlx hn hq (unhide H1') (unhide H2')).mono ?_
    rintro e w2 ⟨rfl, hb2⟩
    have HB2 := hide (fr (unhide HB1) hb2)
    clear hb2
    go_wp2
    go_ret2
    exact ⟨ret_rd (unhide HR).symm (unhide HC).symm, unhide HB2⟩
  · have hb : (askC ss xs h a != 0) = true := by simp [hc]
    have HR : Hid (rdS ss xs h a = ⟨#[]⟩) := by unfold rdS; rw [if_neg hc]; exact rfl
    clear hc
    go_enter Try.func12, Try.ntmps12
    go_wp2_with fail
    refine (placeFault_any _ _ _ _ ss xs h a _ (unhide HL) (unhide HM) (unhide H1) (unhide H2)).mono ?_
    rintro e w1 ⟨rfl, hb1⟩
    have HB1 := hide (fr (unhide HA) hb1)
    clear hb1
    go_wp2
    go_ret2
    exact ⟨ret_rd (unhide HR).symm rfl, unhide HB1⟩

end Go.Proofs.Ytoiclgeeaednnac
