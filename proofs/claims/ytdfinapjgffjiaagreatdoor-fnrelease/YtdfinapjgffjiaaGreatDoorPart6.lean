import Derived.Test.YtdfinapjgffjiaaGreatDoorPart1
import Derived.WalkKit
import Derived.Test.YtdfinapjgffjiaaGreatDoorPart2
import Derived.Test.YtdfinapjgffjiaaGreatDoorPart3
import Derived.Test.YtdfinapjgffjiaaGreatDoorPart5
import Derived.Test.YtdfinapjgffjiaaGreatDoorRows
import Derived.WalkSpells
import Derived.KernelRfl
import Derived.Lib.SmallJoins

/- Plain words of the leader: what a right one is, its text, what a text says. -/
namespace Go.Proofs.YtdfinapjgffjiaaGreatDoor
open Go.RowKit
set_option linter.unusedVariables false

structure Ld where
  ver : Int
  own : Int
  gen : Int
theorem Ld.eq_iff {x y : Ld} : x = y ↔ x.ver = y.ver ∧ x.own = y.own ∧ x.gen = y.gen := by
  cases x; cases y; simp
abbrev lV (x : Ld) : Value := .agg #[.int .i64 x.ver, .int .i64 x.own, .int .i64 x.gen]
def ld0 : Ld := ⟨0, 0, 0⟩
def ldN (v : Int) : Ld := ⟨v, -1, 0⟩
def ldB (x : Ld) : Bool := inB x.ver 0 1000000 && ((decide (x.own = -1) && decide (x.gen = 0)) || (decide (0 < x.ver) && (inB x.own 0 3 && inB x.gen 1 1000000)))
theorem ldB_iff {x : Ld} : ldB x = true ↔ (0 ≤ x.ver ∧ x.ver ≤ 1000000) ∧ ((x.own = -1 ∧ x.gen = 0) ∨ (0 < x.ver ∧ (0 ≤ x.own ∧ x.own ≤ 3) ∧ 1 ≤ x.gen ∧ x.gen ≤ 1000000)) := by
  simp only [ldB, inB, Bool.and_eq_true, Bool.or_eq_true, decide_eq_true_eq]
theorem ldB_lo {x : Ld} (h : ldB x = true) : (0 ≤ x.ver ∧ x.ver ≤ 1000000) ∧ (-1 ≤ x.own ∧ x.own ≤ 3) ∧ 0 ≤ x.gen ∧ x.gen ≤ 1000000 := by
  obtain ⟨h1, h2⟩ := ldB_iff.1 h
  omega
theorem ldB_N (v : Int) (h0 : 0 ≤ v) (h1 : v ≤ 1000000) : ldB (ldN v) = true := ldB_iff.2 ⟨⟨h0, h1⟩, .inl ⟨rfl, rfl⟩⟩
/-- Its text. -/
def encL (x : Ld) : ByteArray := sealS 6 [x.ver, x.own + 1, x.gen]
theorem encL_size (x : Ld) : (encL x).size = 16 := by rw [encL, sealS_size]; rfl
def elC (x : Ld) : Int := if ldB x = true then 0 else 1
def elR (x : Ld) : ByteArray := if ldB x = true then encL x else ⟨#[]⟩
/-- What a text says. -/
def ldL (t : ByteArray) : List Int := openL t 6
def ld3 (l : List Int) : Ld := ⟨l.getD 0 0, l.getD 1 0 - 1, l.getD 2 0⟩
def ldD (t : ByteArray) : Bool := openB t 6 && (decide ((ldL t).length = 3) && ldB (ld3 (ldL t)))
def ldK (t : ByteArray) : Ld := if ldD t = true then ld3 (ldL t) else ldN 0
theorem ldD_open {t : ByteArray} (h : openB t 6 = false) : ldD t = false := by simp [ldD, h]
theorem ldD_len {t : ByteArray} (h : ¬ (ldL t).length = 3) : ldD t = false := by simp [ldD, h]
theorem ldD_at {t : ByteArray} {a b c : Int} (h : openB t 6 = true) (hl : ldL t = [a, b, c]) : ldD t = ldB ⟨a, b - 1, c⟩ := by
  have e : ld3 (ldL t) = ⟨a, b - 1, c⟩ := by rw [hl]; rfl
  simp [ldD, h, e]
  rw [hl]; simp
theorem ld_no {t : ByteArray} (h : ldD t = false) : ldK t = ldN 0 := by simp [ldK, h]
theorem ld_yes {t : ByteArray} {a b c : Int} (h : ldD t = true) (hl : ldL t = [a, b, c]) : ldK t = ⟨a, b - 1, c⟩ := by rw [ldK, if_pos h, hl]; rfl
theorem ld_right (t : ByteArray) : ldB (ldK t) = true := by
  by_cases h : ldD t = true
  · have h' := h
    simp only [ldD, Bool.and_eq_true, decide_eq_true_eq] at h'
    rw [ldK, if_pos h]; exact h'.2.2
  · rw [Bool.not_eq_true] at h
    rw [ld_no h]; exact ldB_N 0 (by decide) (by decide)
/-- What DecodeLeader answers. -/
def lcC (t : ByteArray) : Int := if 65536 < t.size then 2 else if ldD t = true then 0 else 3
def lcK (t : ByteArray) : Ld := if 65536 < t.size then ld0 else if ldD t = true then ldK t else ld0
theorem lc_long {t : ByteArray} (h : 65536 < t.size) : lcK t = ld0 ∧ lcC t = 2 := ⟨if_pos h, if_pos h⟩
theorem lc_no {t : ByteArray} (h : ¬ 65536 < t.size) (hd : ldD t = false) : lcK t = ld0 ∧ lcC t = 3 := ⟨(if_neg h).trans (if_neg (by simp [hd])), (if_neg h).trans (if_neg (by simp [hd]))⟩
theorem lc_yes {t : ByteArray} (h : ¬ 65536 < t.size) (hd : ldD t = true) : lcK t = ldK t ∧ lcC t = 0 := ⟨(if_neg h).trans (if_pos hd), (if_neg h).trans (if_pos hd)⟩
theorem ret_li {a b : Ld} {x y : Int} (h : a = b) (k : x = y) : Ending.returned (.tuple #[lV a, .int .i64 x]) = .returned (.tuple #[lV b, .int .i64 y]) := by rw [h, k]
theorem ret_lb {a b : Ld} {x y : Bool} (h : a = b) (k : x = y) : Ending.returned (.tuple #[lV a, .bool x]) = .returned (.tuple #[lV b, .bool y]) := by rw [h, k]
theorem ret_sl {a b : ByteArray} {c d : Int} (h : a = b) (k : c = d) : Ending.returned (.tuple #[.string a, .int .i64 c]) = .returned (.tuple #[.string b, .int .i64 d]) := by rw [h, k]
/-- One in a variable. -/
abbrev VarL (w : World) (x : Nat) (t : TypeId) (a : Ld) : Prop := VarT w x t a.ver a.own a.gen

theorem l3_nums {x : Ld} (hd : ldB x = true) : ∀ j (hj : j < [x.ver, x.own + 1, x.gen].length), 0 ≤ [x.ver, x.own + 1, x.gen][j] ∧ [x.ver, x.own + 1, x.gen][j] ≤ 2147483647 := by
  obtain ⟨h1, h2, h3⟩ := ldB_lo hd
  intro j hj
  have hj' : j < 3 := hj
  rcases (show j = 0 ∨ j = 1 ∨ j = 2 by omega) with rfl | rfl | rfl <;> simp <;> omega
theorem l3_ints {x : Ld} (hd : ldB x = true) : intsB [x.ver, x.own + 1, x.gen] = true := by
  obtain ⟨h1, h2, h3⟩ := ldB_lo hd
  rw [intsB_len]
  · rfl
  · intro j hj
    have hj' : j < 3 := hj
    rcases (show j = 0 ∨ j = 1 ∨ j = 2 by omega) with rfl | rfl | rfl <;> simp [numB, inB] <;> omega
theorem l3_seal {x : Ld} (hd : ldB x = true) : sealC 6 [x.ver, x.own + 1, x.gen] = 0 ∧ sealT 6 [x.ver, x.own + 1, x.gen] = encL x := by
  have hc : sealC 6 [x.ver, x.own + 1, x.gen] = 0 := sealC_ok (listC_ok (by simp) (l3_ints hd)) rfl
  exact ⟨hc, sealT_ok hc⟩
/-- The numbers of a text are numbers. -/
theorem open_nums {t : ByteArray} {k : Int} (h : openB t k = true) : ∀ x ∈ openL t k, 0 ≤ x ∧ x ≤ 2147483647 := by
  intro x hx
  rw [openL_yes h] at hx
  simp only [openB, Bool.and_eq_true] at h
  obtain ⟨_, _, _, _, _, hu⟩ := recB_iff.1 h.1
  obtain ⟨j, hj, rfl⟩ := List.mem_iff_getElem.1 hx
  exact (intsB_parts (okU_parts hu).2.2).1 j hj
theorem open_mid {t : ByteArray} {a b c : Int} (h : openB t 6 = true) (hl : ldL t = [a, b, c]) : IntKind.i64.wrap (b - 1) = b - 1 := by
  have := open_nums h b (by rw [show openL t 6 = [a, b, c] from hl]; simp)
  rw [IntKind.wrap_i64]; omega
end Go.Proofs.YtdfinapjgffjiaaGreatDoor

/- Contracts of the program's code of a place. -/
namespace Go.Proofs.YtdfinapjgffjiaaGreatDoor
open Go.RowKit
set_option linter.unusedVariables false
set_option maxRecDepth 100000

set_option maxHeartbeats 1600000 in
theorem placeFault_any (ao bo : Option Addr) (ca cb : Nat) (ss : List ByteArray) (xs : List Wr) (h a : Int) (w : World) (hl : ss.length ≤ maxLen) (hm : xs.length ≤ maxLen) (h1 : Ss w ao ss) (h2 : Ios w bo xs) :
    Calls Tryz.prog 142 #[.agg #[.slice ao ss.length ca, .slice bo xs.length cb], .int .i64 h, .int .i64 a] w fun e w' => e = .returned (.int .i64 (askC ss xs h a)) ∧ Below w.heap.size w w' := by
  have HA := hide (Joins.below_alloc1 w (.cells #[.slice ao ss.length ca, .slice bo xs.length cb] 26))
  have H1 := hide (h1.below (unhide HA))
  have H2 := hide (h2.below (unhide HA))
  have HL := hide hl
  have HM := hide hm
  clear h1 h2 hl hm
  by_cases hc : hostC ss xs h = 0
  · have hb : (hostC ss xs h != 0) = false := by simp [hc]
    cases hh : inB a 0 63
    · have H := hide (askC_place hc hh)
      clear hc
      go_enter Tryz.func142, Tryz.ntmps142
      go_wp2_with fail
      refine (hostFault_any _ _ _ _ ss xs h _ (unhide HL) (unhide HM) (unhide H1) (unhide H2)).mono ?_
      rintro e w1 ⟨rfl, hb⟩
      have HB := hide (fr (unhide HA) hb)
      clear hb
      go_wp2_with (go_at_call 109; refine (placeOK_any _ _).mono ?_; rintro e w' ⟨rfl, rfl⟩)
      go_ret
      exact ⟨ret_int (unhide H).symm, unhide HB⟩
    · have H := hide (askC_ok hc hh)
      clear hc
      go_enter Tryz.func142, Tryz.ntmps142
      go_wp2_with fail
      refine (hostFault_any _ _ _ _ ss xs h _ (unhide HL) (unhide HM) (unhide H1) (unhide H2)).mono ?_
      rintro e w1 ⟨rfl, hb⟩
      have HB := hide (fr (unhide HA) hb)
      clear hb
      go_wp2_with (go_at_call 109; refine (placeOK_any _ _).mono ?_; rintro e w' ⟨rfl, rfl⟩)
      go_ret
      exact ⟨ret_int (unhide H).symm, unhide HB⟩
  · have H := hide (askC_host (a := a) hc)
    have hb : (hostC ss xs h != 0) = true := by simp [hc]
    clear hc
    go_enter Tryz.func142, Tryz.ntmps142
    go_wp2_with fail
    refine (hostFault_any _ _ _ _ ss xs h _ (unhide HL) (unhide HM) (unhide H1) (unhide H2)).mono ?_
    rintro e w1 ⟨rfl, hb⟩
    have HB := hide (fr (unhide HA) hb)
    clear hb
    go_wp2
    go_ret
    exact ⟨ret_int (unhide H).symm, unhide HB⟩

end Go.Proofs.YtdfinapjgffjiaaGreatDoor

/- Contracts of impl.seenBy, impl.ReadSector. -/
namespace Go.Proofs.YtdfinapjgffjiaaGreatDoor
open Go.RowKit
set_option linter.unusedVariables false
set_option maxRecDepth 100000

theorem ret_rs {a b : ByteArray} (h : a = b) : Ending.returned (.string a) = .returned (.string b) := by rw [h]
theorem ret_rd {a b : ByteArray} {c d : Int} (h : a = b) (k : c = d) : Ending.returned (.tuple #[.string a, .int .i64 c]) = .returned (.tuple #[.string b, .int .i64 d]) := by rw [h, k]
theorem no_succ {xs : List Wr} {h a : Int} {k : Nat} (hk : k < xs.length) (hn : ∀ j (hj : j < xs.length), (k : Int) < j → ¬ mat xs[j] h a) (hx : ¬ mat xs[k] h a) : ∀ j (hj : j < xs.length), (k : Int) - 1 < j → ¬ mat xs[j] h a := by
  intro j hj hlt
  by_cases e : j = k
  · subst e; exact hx
  · exact hn j hj (by omega)

set_option maxHeartbeats 1600000 in
theorem seenBy_any (ao bo : Option Addr) (ca cb : Nat) (ss : List ByteArray) (xs : List Wr) (h : Int) (n : Nat) (w : World) (hlx : xs.length ≤ 200) (hn : n < ss.length) (hq : ss.length ≤ 1048576) (h1 : Ss w ao ss) (h2 : Ios w bo xs) :
    Calls Tryz.prog 54 #[.agg #[.slice ao ss.length ca, .slice bo xs.length cb], .int .i64 h, .int .i64 n] w fun e w' => e = .returned (.string (readV ss xs h n)) ∧ Below w.heap.size w w' := by
  have HA := hide (Joins.below_alloc1 w (.cells #[.slice ao ss.length ca, .slice bo xs.length cb] 26))
  have H1' := hide (h1.below (unhide HA))
  have H2' := hide (h2.below (unhide HA))
  have hc0 : (w.alloc (.cells #[.slice ao ss.length ca, .slice bo xs.length cb] 26)).cell? ⟨w.heap.size, 0, none⟩ = some (.slice ao ss.length ca) := by simp [go_sem]
  have hc1 : (w.alloc (.cells #[.slice ao ss.length ca, .slice bo xs.length cb] 26)).cell? ⟨w.heap.size, 1, none⟩ = some (.slice bo xs.length cb) := by simp [go_sem]
  have HC0 := hide hc0
  have HC1 := hide hc1
  have hlt : w.heap.size < (w.alloc (.cells #[.slice ao ss.length ca, .slice bo xs.length cb] 26)).heap.size := by simp
  clear h1 h2 hc0 hc1
  go_enter Tryz.func54, Tryz.ntmps54
  go_wp2
  revert HA H1' H2' HC0 HC1 hlt
  generalize w.alloc (.cells #[.slice ao ss.length ca, .slice bo xs.length cb] 26) = w1
  intro HA H1' H2' HC0 HC1 hlt
  go_loopw [7, 8] (fun i _ wr => ∃ m : Int, i = .int .i64 m ∧ -1 ≤ m ∧ m < xs.length ∧ Hid (∀ j (hj : j < xs.length), m < j → ¬ mat xs[j] h n) ∧ Hid (Below w1.heap.size w1 wr)) (fun i _ _ => (intOf i + 1).toNat)
  case atStart => exact ⟨_, rfl, by omega, by omega, hide (fun j hj hlt => by omega), hide (Below.refl _ _)⟩
  case round =>
    obtain ⟨m, rfl, hm0, hm1, HN, HB⟩ := hrel
    have hc0 : wr.cell? ⟨w.heap.size, 0, none⟩ = some (.slice ao ss.length ca) := ((unhide HB).cell (World.block_lt_of_cell? _ _ (unhide HC0))).trans (unhide HC0)
    have hc1 : wr.cell? ⟨w.heap.size, 1, none⟩ = some (.slice bo xs.length cb) := ((unhide HB).cell (World.block_lt_of_cell? _ _ (unhide HC1))).trans (unhide HC1)
    by_cases hge : 0 ≤ m
    · obtain ⟨k, rfl⟩ := Int.eq_ofNat_of_zero_le hge
      have hk : k < xs.length := by omega
      obtain ⟨b, off, rfl, hd0, hd1, hd2, hz⟩ := (unhide H2').below (unhide HB) k hk
      clear hz
      have HBA := hide (fun o => (unhide HB).alloc (unhide HB).size o)
      by_cases e0 : xs[k].host = h
      · have b0 : (xs[k].host == h) = true := by simp [e0]
        by_cases e1 : xs[k].at_ = n
        · have b1 : (xs[k].at_ == (n : Int)) = true := by simp [e1]
          have H := hide (readV_hit (ss := ss) hk ⟨e0, e1⟩ (fun j hj hlt => unhide HN j hj (by omega)))
          clear e0 e1
          go_wp2
          go_ret
          exact ⟨ret_rs (unhide H).symm, fr (unhide HA) (unhide HBA _)⟩
        · have b1 : (xs[k].at_ == (n : Int)) = false := by simp [e1]
          have HX := hide (no_succ hk (unhide HN) (fun hx => e1 hx.2))
          clear e0 e1
          go_wp2
          go_roundw
          case rel => exact ⟨_, rfl, by omega, by omega, HX, hide (unhide HBA _)⟩
          case measure => simp [intOf]
      · have b0 : (xs[k].host == h) = false := by simp [e0]
        have HX := hide (no_succ hk (unhide HN) (fun hx => e0 hx.1))
        clear e0
        go_wp2
        go_roundw
        case rel => exact ⟨_, rfl, by omega, by omega, HX, hide (unhide HBA _)⟩
        case measure => simp [intOf]
    · obtain ⟨b, off, rfl, hc, hz⟩ := (unhide H1').below (unhide HB) n hn
      clear hz
      have hg : ss.getD ((n : Int).toNat) ⟨#[]⟩ = ss[n] := by simp [List.getD, hn]
      have H := hide ((readV_none (ss := ss) (fun j hj => unhide HN j hj (by omega))).trans hg)
      clear hg
      go_wp2
      go_ret
      exact ⟨ret_rs (unhide H).symm, fr (unhide HA) (unhide HB)⟩

end Go.Proofs.YtdfinapjgffjiaaGreatDoor

/- Contracts of ReadSector, of the program and of its model. -/
namespace Go.Proofs.YtdfinapjgffjiaaGreatDoor
open Go.RowKit
set_option linter.unusedVariables false
set_option maxRecDepth 100000

set_option maxHeartbeats 1600000 in
theorem l01Read_any (ao bo : Option Addr) (ca cb : Nat) (ss : List ByteArray) (xs : List Wr) (h : Int) (a : Nat) (w : World) (ha : a < ss.length) (hs : ss.length ≤ 1048576) (hm : xs.length ≤ maxLen) (h1 : Ss w ao ss) (h2 : Ios w bo xs) :
    Calls Tryz.prog 78 #[.agg #[.slice ao ss.length ca, .slice bo xs.length cb], .int .i64 h, .int .i64 a] w fun e w' => e = .returned (.string (readV ss xs h a)) ∧ Below w.heap.size w w' := by
  have HA := hide (Joins.below_alloc1 w (.cells #[.slice ao ss.length ca, .slice bo xs.length cb] 26))
  have H1 := hide (h1.below (unhide HA))
  have H2 := hide (h2.below (unhide HA))
  clear h1 h2
  unfold maxLen at hm
  go_enter Tryz.func78, Tryz.ntmps78
  go_wp2
  go_loop [7] (fun i => ∃ m : Int, i = .int .i64 m ∧ -1 ≤ m ∧ m < xs.length ∧ Hid (∀ j (hj : j < xs.length), m < j → ¬ mat xs[j] h a)) (fun i => (intOf i + 1).toNat)
  case atStart => exact ⟨_, rfl, by omega, by omega, hide (fun j hj hlt => by omega)⟩
  case round =>
    obtain ⟨m, rfl, hm0, hm1, HN⟩ := hrel
    by_cases hge : 0 ≤ m
    · obtain ⟨k, rfl⟩ := Int.eq_ofNat_of_zero_le hge
      have hk : k < xs.length := by omega
      obtain ⟨b, off, rfl, hc0, hc1, hc2, hz⟩ := unhide H2 k hk
      clear hz
      by_cases e0 : xs[k].host = h
      · have b0 : (xs[k].host == h) = true := by simp [e0]
        by_cases e1 : xs[k].at_ = a
        · have b1 : (xs[k].at_ == (a : Int)) = true := by simp [e1]
          have H := hide (readV_hit (ss := ss) hk ⟨e0, e1⟩ (fun j hj hlt => unhide HN j hj (by omega)))
          clear e0 e1
          go_wp2
          go_ret
          exact ⟨ret_rs (unhide H).symm, unhide HA⟩
        · have b1 : (xs[k].at_ == (a : Int)) = false := by simp [e1]
          have HX := hide (no_succ hk (unhide HN) (fun hx => e1 hx.2))
          clear e0 e1
          go_wp2
          go_round
          case rel => exact ⟨_, rfl, by omega, by omega, HX⟩
          case measure => simp [intOf]
      · have b0 : (xs[k].host == h) = false := by simp [e0]
        have HX := hide (no_succ hk (unhide HN) (fun hx => e0 hx.1))
        clear e0
        go_wp2
        go_round
        case rel => exact ⟨_, rfl, by omega, by omega, HX⟩
        case measure => simp [intOf]
    · obtain ⟨b, off, rfl, hc, hz⟩ := unhide H1 a ha
      clear hz
      have hg : ss.getD ((a : Int).toNat) ⟨#[]⟩ = ss[a] := by simp [List.getD, ha]
      have H := hide ((readV_none (ss := ss) (fun j hj => unhide HN j hj (by omega))).trans hg)
      clear hg
      go_wp2
      go_ret
      exact ⟨ret_rs (unhide H).symm, unhide HA⟩

end Go.Proofs.YtdfinapjgffjiaaGreatDoor

/- Contracts of spec's generations, the plain ones: l04Host, DeltaOK, l04Encode, l04Decode. -/
namespace Go.Proofs.YtdfinapjgffjiaaGreatDoor
open Go.RowKit
set_option linter.unusedVariables false
set_option maxRecDepth 100000

theorem l04Host_any (h : Int) (w : World) : Calls Tryz.prog 30 #[.int .i64 h] w fun e w' => e = .returned (.bool (inB h 0 3)) ∧ w' = w := by
  go_enter Tryz.func30, Tryz.ntmps30
  go_wp2_with fail
  refine (l01In_num h 0 3 _).mono ?_
  rintro e w1 ⟨rfl, rfl⟩
  go_wp2
  go_ret
  exact ⟨rfl, rfl⟩

theorem d3_nums {h g s : Int} (hd : dltB h g s = true) : ∀ j (hj : j < [h, g, s].length), 0 ≤ [h, g, s][j] ∧ [h, g, s][j] ≤ 2147483647 := by
  obtain ⟨h1, h2, h3⟩ := dltB_iff.1 hd
  intro j hj
  have hj' : j < 3 := hj
  rcases (show j = 0 ∨ j = 1 ∨ j = 2 by omega) with rfl | rfl | rfl <;> simp <;> omega
theorem is3 (w : World) (n : Nat) (t : TypeId) (a b c : Int) (hn : w.heap.size = n) : Is (w.alloc (.cells #[.int .i64 a, .int .i64 b, .int .i64 c] t)) (some ⟨n, 0, none⟩) [a, b, c] := by
  subst hn
  intro i hi
  have hi' : i < 3 := hi
  refine ⟨w.heap.size, 0, rfl, ?_⟩
  rcases (show i = 0 ∨ i = 1 ∨ i = 2 by omega) with rfl | rfl | rfl <;> simp [go_sem]

set_option maxHeartbeats 1600000 in
theorem l04Encode_any (h g s : Int) (w : World) (hd : dltB h g s = true) : Calls Tryz.prog 108 #[dltV h g s] w fun e w' => e = .returned (.string (encD h g s)) ∧ Below w.heap.size w w' := by
  have HD := hide (d3_nums hd)
  clear hd
  go_enter Tryz.func108, Tryz.ntmps108
  go_wp2_with fail
  refine (l02Seal_any 9 _ 3 [h, g, s] _ (by decide) (by simp) (unhide HD) (is3 _ _ _ _ _ _ (by simp))).mono ?_
  rintro e w1 ⟨rfl, hb⟩
  have HB := hide hb
  clear hb
  go_wp2
  go_ret
  exact ⟨rfl, fr (Joins.below_alloc2 _ _ _) (unhide HB)⟩

theorem ret_db {a b c a' b' c' : Int} {x y : Bool} (h1 : a = a') (h2 : b = b') (h3 : c = c') (k : x = y) : Ending.returned (.tuple #[dltV a b c, .bool x]) = .returned (.tuple #[dltV a' b' c', .bool y]) := by rw [h1, h2, h3, k]
end Go.Proofs.YtdfinapjgffjiaaGreatDoor

/- Contracts of spec's leader, the plain ones: LeaderOK, l06Encode, EncodeLeader. -/
namespace Go.Proofs.YtdfinapjgffjiaaGreatDoor
open Go.RowKit
set_option linter.unusedVariables false
set_option maxRecDepth 100000

set_option maxHeartbeats 1600000 in
theorem leaderOK_spec (x : Ld) (w : World) : Calls Tryz.prog 41 #[lV x] w fun e w' => e = .returned (.bool (ldB x)) ∧ Below w.heap.size w w' := by
  obtain ⟨v, o, g⟩ := x
  go_enter Tryz.func41, Tryz.ntmps41
  go_wp2_with fail
  refine (l01In_num v 0 1000000 _).mono ?_
  rintro e w1 ⟨rfl, rfl⟩
  by_cases h1 : inB v 0 1000000 = false
  · have hr : Hid (ldB ⟨v, o, g⟩ = false) := hide (by simp [ldB, h1])
    go_wp2
    go_ret
    rw [unhide hr]
    exact ⟨rfl, Joins.below_alloc1 _ _⟩
  rw [Bool.not_eq_false] at h1
  by_cases hn : o = -1 ∧ g = 0
  · obtain ⟨hn1, hn2⟩ := hn
    have hr : Hid (ldB ⟨v, o, g⟩ = true) := hide (by simp [ldB, h1, hn1, hn2])
    have hb1 : (o == -1) = true := beq_iff_eq.2 hn1
    have hb2 : (g == 0) = true := beq_iff_eq.2 hn2
    clear hn1 hn2
    go_wp2
    go_ret
    rw [unhide hr]
    exact ⟨rfl, Joins.below_alloc1 _ _⟩
  have hr : Hid (ldB ⟨v, o, g⟩ = (decide (0 < v) && (inB o 0 3 && inB g 1 1000000))) := hide (by
    have : (decide (o = -1) && decide (g = 0)) = false := by simpa using hn
    simp [ldB, h1, this])
  rcases (show ((o == -1) = false) ∨ ((o == -1) = true ∧ (g == 0) = false) by simp only [beq_eq_false_iff_ne, beq_iff_eq]; omega) with ho | ⟨ho, hg⟩
  all_goals
    clear hn
    by_cases h2 : 0 < v
    · have hr2 : Hid (ldB ⟨v, o, g⟩ = (inB o 0 3 && inB g 1 1000000)) := hide (by rw [unhide hr]; simp [h2])
      go_wp2_with fail
      refine (l04Host_any o _).mono ?_
      rintro e w1 ⟨rfl, rfl⟩
      by_cases h3 : inB o 0 3 = false
      · have hr3 : Hid (ldB ⟨v, o, g⟩ = false) := hide (by rw [unhide hr2]; simp [h3])
        go_wp2
        go_ret
        rw [unhide hr3]
        exact ⟨rfl, Joins.below_alloc1 _ _⟩
      rw [Bool.not_eq_false] at h3
      have hr3 : Hid (ldB ⟨v, o, g⟩ = inB g 1 1000000) := hide (by rw [unhide hr2]; simp [h3])
      go_wp2_with fail
      refine (l01In_num g 1 1000000 _).mono ?_
      rintro e w1 ⟨rfl, rfl⟩
      go_wp2
      go_ret
      rw [unhide hr3]
      exact ⟨rfl, Joins.below_alloc1 _ _⟩
    · have hr2 : Hid (ldB ⟨v, o, g⟩ = false) := hide (by rw [unhide hr]; simp [h2])
      go_wp2
      go_ret
      rw [unhide hr2]
      exact ⟨rfl, Joins.below_alloc1 _ _⟩

set_option maxHeartbeats 1600000 in
theorem l06Encode_ld (x : Ld) (w : World) (hd : ldB x = true) : Calls Tryz.prog 45 #[lV x] w fun e w' => e = .returned (.string (encL x)) ∧ Below w.heap.size w w' := by
  have wr1 : IntKind.i64.wrap (x.own + 1) = x.own + 1 := by have := ldB_lo hd; rw [IntKind.wrap_i64]; omega
  have HD := hide (l3_nums hd)
  clear hd
  go_enter Tryz.func45, Tryz.ntmps45
  go_wp2_with fail
  refine (l02Seal_any 6 _ 3 [x.ver, x.own + 1, x.gen] _ (by decide) (by simp) (unhide HD) (is3 _ _ _ _ _ _ (by simp))).mono ?_
  rintro e w1 ⟨rfl, hb⟩
  have HB := hide hb
  clear hb
  go_wp2
  go_ret
  exact ⟨rfl, fr (Joins.below_alloc2 _ _ _) (unhide HB)⟩

end Go.Proofs.YtdfinapjgffjiaaGreatDoor

/- Contracts of spec's leader: l06Decode, DecodeLeader. -/
namespace Go.Proofs.YtdfinapjgffjiaaGreatDoor
open Go.RowKit
set_option linter.unusedVariables false
set_option maxRecDepth 100000

set_option maxHeartbeats 1600000 in
theorem l06Decode_any (t : ByteArray) (w : World) (hs : t.size ≤ 65536) : Calls Tryz.prog 77 #[.string t] w fun e w' => e = .returned (.tuple #[lV (ldK t), .bool (ldD t)]) ∧ Below w.heap.size w w' := by
  have HA := hide (Joins.below_alloc1 w (.cells #[.int .i64 0, .int .i64 0, .int .i64 0] 30))
  have HV := hide (VarT.new w 30 0 0 0)
  go_enter Tryz.func77, Tryz.ntmps77
  go_wp2_with fail
  refine (l02Open_any t 6 _ hs).mono ?_
  rintro e w1 ⟨v, rfl, ⟨qo, qa, rfl, ho⟩, hb⟩
  have HB := hide (fr (unhide HA) hb)
  have HB1 := hide hb
  have HO := hide ho
  obtain ⟨hc0, hc1, hc2⟩ := ((unhide HV).below hb).cells
  obtain ⟨hf0, hf1, hf2⟩ := ((unhide HV).below hb).free
  have HR := hide (fun u v x => below3 (unhide HB) (Nat.le_refl _) 0 1 2 u v x)
  clear hb ho
  by_cases hb : openB t 6 = false
  · have HE := hide (ldD_open hb)
    go_wp2
    refine bodyPost_ret (v := .tuple #[lV (ldN 0), .bool false]) (by simp [results, Tryz.results77, go_sem, hc0, hc1, hc2, ldN]) rfl ⟨?_, unhide HR _ _ _⟩
    exact ret_lb (ld_no (unhide HE)).symm (unhide HE).symm
  rw [Bool.not_eq_false] at hb
  by_cases h3 : (openL t 6).length = 3
  · obtain ⟨a, b, c, hl⟩ := three h3
    have wr1 := open_mid hb hl
    have HL := hide hl
    have hI := ownRN (unhide HO)
    rw [hl] at hI
    obtain ⟨g, off, rfl, hi0⟩ := hI 0 (by simp)
    obtain ⟨g', off', he, hi1⟩ := hI 1 (by simp)
    cases he
    obtain ⟨g', off', he, hi2⟩ := hI 2 (by simp)
    cases he
    simp only [List.getElem_cons_zero, List.getElem_cons_succ, Nat.add_zero] at hi0 hi1 hi2
    have hg := World.block_lt_of_cell? _ _ hi0
    clear hI
    go_wp2_with fail
    have HA2 := hide (Joins.below_alloc1 w1 (.cells #[.int .i64 a, .int .i64 (b - 1), .int .i64 c] 30)).drew
    have HV2 := hide (((unhide HV).below (unhide HB1)).below (unhide HA2))
    have HV3 : Hid (VarT (w1.alloc (.cells #[.int .i64 a, .int .i64 (b - 1), .int .i64 c] 30)).drew w1.heap.size 30 a (b - 1) c) := hide ((VarT.new w1 30 a (b - 1) c).below (Below.refl _ _).drew)
    have HB2 := hide (fr (unhide HB) (unhide HA2))
    clear hc0 hc1 hc2 hf0 hf1 hf2 HR
    go_region
    go_wp2_with fail
    refine (leaderOK_spec ⟨a, b - 1, c⟩ _).mono ?_
    rintro e w2 ⟨rfl, hb2⟩
    have HB3 := hide (fr (unhide HB2) hb2)
    obtain ⟨hc0, hc1, hc2⟩ := ((unhide HV2).below hb2).cells
    obtain ⟨hf0, hf1, hf2⟩ := ((unhide HV2).below hb2).free
    obtain ⟨hx0, hx1, hx2⟩ := ((unhide HV3).below hb2).cells
    have HR := hide (fun u v x => below3 (unhide HB3) (Nat.le_refl _) 0 1 2 u v x)
    have HE := hide (ldD_at hb (unhide HL))
    clear hb2 hi0 hi1 hi2
    by_cases hd : ldB ⟨a, b - 1, c⟩ = true
    · go_wp2
      refine bodyPost_ret (v := .tuple #[lV ⟨a, b - 1, c⟩, .bool true]) (by simp [results, Tryz.results77, go_sem, hc0, hc1, hc2]) rfl ⟨?_, unhide HR _ _ _⟩
      exact ret_lb (ld_yes (by rw [unhide HE]; exact hd) (unhide HL)).symm (by rw [unhide HE]; exact hd.symm)
    · rw [Bool.not_eq_true] at hd
      go_wp2
      refine bodyPost_ret (v := .tuple #[lV (ldN 0), .bool false]) (by simp [results, Tryz.results77, go_sem, hc0, hc1, hc2, ldN]) rfl ⟨?_, unhide HR _ _ _⟩
      exact ret_lb (ld_no (by rw [unhide HE]; exact hd)).symm (by rw [unhide HE]; exact hd.symm)
  · have HE := hide (ldD_len h3)
    go_wp2
    refine bodyPost_ret (v := .tuple #[lV (ldN 0), .bool false]) (by simp [results, Tryz.results77, go_sem, hc0, hc1, hc2, ldN]) rfl ⟨?_, unhide HR _ _ _⟩
    exact ret_lb (ld_no (unhide HE)).symm (unhide HE).symm

end Go.Proofs.YtdfinapjgffjiaaGreatDoor
