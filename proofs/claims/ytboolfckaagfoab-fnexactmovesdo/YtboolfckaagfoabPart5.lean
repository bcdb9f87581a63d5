import Derived.Test.YtboolfckaagfoabRows
import Derived.Test.YtboolfckaagfoabPart1
import Derived.Test.YtboolfckaagfoabPart2
import Derived.WalkKit
import Derived.WalkSpells
import Derived.BigQuiet
import Derived.Deep.QuietTactic
import Derived.Deep.RegionWith
import Derived.Laws.BytesArg
import Derived.Laws.BitsLemmas
import Derived.Lib.EndianBits

/- Contracts of the laws' own hands on lists of moves: szMoveS, toMoveS. -/
namespace Go.Proofs.Ytboolfckaagfoab
open Go.RowKit
set_option linter.unusedVariables false
set_option maxRecDepth 100000


theorem infoMv : (Try.prog.info? 49).map (fun i => (i.zero, i.size, i.bytes)) = some (some (.agg #[.int .i64 0, .int .i64 0, .string ⟨#[]⟩]), 3, 32) := by kernel_rfl

set_option maxHeartbeats 800000 in
theorem szMove_any (x : Wr) (left : Int) (w : World) (hz : x.data.size ≤ maxLen) (h0 : 0 ≤ left) (h1 : left ≤ 1048576) :
    Calls Try.prog 17 #[.agg #[.int .i64 x.host, .int .i64 x.at_, .string x.data], .int .i64 left] w fun e w' => ∃ r : Int, e = .returned (.int .i64 r) ∧ -1 ≤ r ∧ r ≤ left ∧ Below w.heap.size w w' := by
  unfold maxLen at hz
  by_cases hb : left < x.data.size
  · go_enter Try.func17, Try.ntmps17
    go_wp2
    go_ret
    exact ⟨-1, rfl, by omega, by omega, (Below.refl _ _).alloc (Nat.le_refl _) _⟩
  · go_enter Try.func17, Try.ntmps17
    go_wp2
    go_ret
    exact ⟨_, rfl, by omega, by omega, (Below.refl _ _).alloc (Nat.le_refl _) _⟩

set_option maxHeartbeats 800000 in
theorem szMoveS_any (ao : Option Addr) (cap : Nat) (xs : List Wr) (left : Int) (w : World) (hl : xs.length ≤ maxLen) (hc : Ios w ao xs) (h0 : 0 ≤ left) (h1 : left ≤ 1048576) :
    Calls Try.prog 5 #[.slice ao xs.length cap, .int .i64 left] w fun e w' => ∃ r : Int, e = .returned (.int .i64 r) ∧ -1 ≤ r ∧ r ≤ left ∧ (0 ≤ r → r + xs.length ≤ left) ∧ Below w.heap.size w w' := by
  have HC := hide hc
  clear hc
  unfold maxLen at hl
  by_cases hle : left < xs.length
  · go_enter Try.func5, Try.ntmps5
    go_wp2
    go_ret
    exact ⟨-1, rfl, by omega, by omega, by omega, Below.refl _ _⟩
  go_enter Try.func5, Try.ntmps5
  go_wp2
  go_loopw [1, 5] (fun l i wr => ∃ (k : Nat) (r : Int), k ≤ xs.length ∧ i = .int .i64 k ∧ l = .int .i64 r ∧ 0 ≤ r ∧ r + xs.length ≤ left ∧ Hid (Below w.heap.size w wr)) (fun _ i _ => xs.length - (intOf i).toNat)
  case atStart => exact ⟨0, _, Nat.zero_le _, rfl, rfl, by omega, by omega, hide (Below.refl _ _)⟩
  case round =>
    obtain ⟨k, r, hk, rfl, rfl, hr0, hr1, HB⟩ := hrel
    by_cases hlt : k < xs.length
    · obtain ⟨b, off, rfl, hc0, hc1, hc2, hz⟩ := (unhide HC).below (unhide HB) k hlt
      have HZ := hide hz
      clear hz
      go_wp2_with fail
      refine (szMove_any xs[k] r _ (unhide HZ) (by omega) (by omega)).mono ?_
      rintro e w2 ⟨q, rfl, hq0, hq1, hb2⟩
      have HB2 := hide ((unhide HB).trans (hb2.mono (unhide HB).size))
      clear hb2
      by_cases hb : q < 0
      · go_wp2
        go_ret
        exact ⟨-1, rfl, by omega, by omega, by omega, unhide HB2⟩
      · go_wp2
        go_roundw
        case rel => exact ⟨k + 1, _, by omega, by go_num, rfl, by omega, by omega, HB2⟩
        case measure => simp [intOf]; omega
    · go_wp2
      go_ret
      exact ⟨r, rfl, by omega, by omega, by omega, unhide HB⟩

set_option maxHeartbeats 800000 in
theorem toMove_any (h a : Int) (d : ByteArray) (w : World) :
    Calls Try.prog 24 #[.agg #[.int .i64 h, .int .i64 a, .string d]] w fun e w' => e = .returned (.agg #[.int .i64 h, .int .i64 a, .string d]) ∧ Below w.heap.size w w' := by
  go_enter Try.func24, Try.ntmps24
  go_wp2
  exact bodyPost_ret (v := .agg #[.int .i64 h, .int .i64 a, .string d]) (by simp [results, Try.results24, go_sem]) rfl ⟨rfl, (((Below.refl _ _).alloc (Nat.le_refl _) _).alloc (by simp) _).alloc (by simp; omega) _⟩

set_option maxHeartbeats 800000 in
theorem toMoveS_any (ao : Option Addr) (cap : Nat) (xs : List Wr) (w : World) (hl : xs.length ≤ 1048576) (hc : Ios w ao xs) :
    Calls Try.prog 8 #[.slice ao xs.length cap] w fun e w' => ∃ g, e = .returned (.slice (some ⟨g, 0, none⟩) xs.length xs.length) ∧ w'.ownsRow w.heap.size 49 3 (.slice (some ⟨g, 0, none⟩) xs.length xs.length) xs.length (ioV xs) ∧ Below w.heap.size w w' := by
  have HC := hide hc
  clear hc
  obtain ⟨i0, hi, hz0, hz1, hz2⟩ := info_parts infoMv
  go_enter Try.func8, Try.ntmps8
  go_wp2_with (first | (at_make; refine wpList_make_full _ rfl _ _ 35 rfl w.heap.size 49 i0 _ 3 Try.underlying35 hi hz0 hz1 _ _ _ _ xs.length rfl rfl rfl rfl ?c1 ?c2 ?c3 ?_))
  case c1 => rw [hz2]; omega
  case c2 => unfold maxLen; omega
  case c3 => exact Nat.le_refl _
  intro w1 hown hgrow
  have hB : Below w.heap.size w w1 := (Below.refl _ _).grown hgrow (Nat.le_refl _) (fun _ h => by cases h)
  have HO := hide hown
  have HB := hide hB
  clear hown hB hgrow
  go_wp2
  go_loopw [4] (fun i wr => ∃ (k : Nat) (ys : List Value), k ≤ xs.length ∧ i = .int .i64 k ∧ Hid (ys.length = xs.length * 3) ∧ Hid (ys.take (k * 3) = (ioV xs).take (k * 3)) ∧ Hid (wr.ownsRow w.heap.size 49 3 (.slice (some ⟨w.heap.size, 0, none⟩) xs.length xs.length) xs.length ys) ∧ Hid (Below w.heap.size w wr)) (fun i _ => xs.length - (intOf i).toNat)
  case atStart => exact ⟨0, _, Nat.zero_le _, rfl, hide (by rw [(unhide HO).1]), hide (by simp), HO, HB⟩
  case round =>
    obtain ⟨k, ys, hk, rfl, HL, HT, HO, HB⟩ := hrel
    by_cases hlt : k < xs.length
    · obtain ⟨b, off, rfl, hc0, hc1, hc2, hz⟩ := (unhide HC).below (unhide HB) k hlt
      clear hz
      go_wp2_with fail
      refine (toMove_any _ _ _ _).mono ?_
      rintro e w2 ⟨rfl, hb2⟩
      have HO2 := hide (own_below (unhide HO) hb2)
      have HB2 := hide ((unhide HB).trans (hb2.mono (unhide HB).size))
      clear hb2
      have hf0 := (unhide HO2).frozenAt (k * 3)
      have hf1 := (unhide HO2).frozenAt (k * 3 + 1)
      have hf2 := (unhide HO2).frozenAt (k * 3 + 2)
      obtain ⟨x0, hx0⟩ : ∃ x, w2.cell? ⟨w.heap.size, k * 3, none⟩ = some x := ⟨_, ((unhide HO2).cellAt (k * 3) (by omega)).trans (List.getElem?_eq_getElem (by rw [unhide HL]; omega))⟩
      obtain ⟨x1, hx1⟩ : ∃ x, w2.cell? ⟨w.heap.size, k * 3 + 1, none⟩ = some x := ⟨_, ((unhide HO2).cellAt (k * 3 + 1) (by omega)).trans (List.getElem?_eq_getElem (by rw [unhide HL]; omega))⟩
      obtain ⟨x2, hx2⟩ : ∃ x, w2.cell? ⟨w.heap.size, k * 3 + 2, none⟩ = some x := ⟨_, ((unhide HO2).cellAt (k * 3 + 2) (by omega)).trans (List.getElem?_eq_getElem (by rw [unhide HL]; omega))⟩
      have HST := hide (stored3 (unhide HO2) (k * 3) (k * 3 + 1) (k * 3 + 2) (.int .i64 xs[k].host) (.int .i64 xs[k].at_) (.string xs[k].data))
      have HBT := hide (below3 (unhide HB2) (Nat.le_refl _) (k * 3) (k * 3 + 1) (k * 3 + 2) (.int .i64 xs[k].host) (.int .i64 xs[k].at_) (.string xs[k].data))
      go_wp2
      go_roundw
      case rel => exact ⟨k + 1, _, by omega, by go_num, hide (by rw [List.length_set, List.length_set, List.length_set]; exact unhide HL), hide (io_take hlt (unhide HL) (unhide HT)), HST, HBT⟩
      case measure => simp [intOf]; omega
    · go_wp2
      go_ret
      have hkn : k = xs.length := by omega
      subst hkn
      have hxs : ys = ioV xs := by
        have := unhide HT
        rwa [List.take_of_length_le (by rw [unhide HL]; exact Nat.le_refl _), List.take_of_length_le (by rw [ioV_length]; exact Nat.le_refl _)] at this
      subst hxs
      exact ⟨_, rfl, unhide HO, unhide HB⟩

end Go.Proofs.Ytboolfckaagfoab

/- Contracts of the laws' own hands on lists of moves: eqMoveS. -/
namespace Go.Proofs.Ytboolfckaagfoab
open Go.RowKit
set_option linter.unusedVariables false
set_option maxRecDepth 100000


set_option maxHeartbeats 800000 in
theorem eqMove_any (x y : Wr) (w : World) :
    Calls Try.prog 31 #[.agg #[.int .i64 x.host, .int .i64 x.at_, .string x.data], .agg #[.int .i64 y.host, .int .i64 y.at_, .string y.data]] w fun e w' => e = .returned (.bool (wrB x y)) ∧ Below w.heap.size w w' := by
  by_cases h0 : x.host = y.host
  · have b0 : (x.host != y.host) = false := by simp [h0]
    by_cases h1 : x.at_ = y.at_
    · have b1 : (x.at_ != y.at_) = false := by simp [h1]
      by_cases h2 : x.data = y.data
      · have H := hide (wrB_true h0 h1 h2)
        have b2 : (x.data.toList == y.data.toList) = true := by simp [h2]
        clear h0 h1 h2
        go_enter Try.func31, Try.ntmps31
        go_wp2
        go_ret
        exact ⟨ret_bool (unhide H).symm, ((Below.refl _ _).alloc (Nat.le_refl _) _).alloc (by simp) _⟩
      · have H := hide (wrB_false (x := x) (y := y) (fun h => h2 h.2.2))
        have b2 : (x.data.toList == y.data.toList) = false := str_beq_false h2
        clear h0 h1 h2
        go_enter Try.func31, Try.ntmps31
        go_wp2
        go_ret
        exact ⟨ret_bool (unhide H).symm, ((Below.refl _ _).alloc (Nat.le_refl _) _).alloc (by simp) _⟩
    · have H := hide (wrB_false (x := x) (y := y) (fun h => h1 h.2.1))
      have b1 : (x.at_ != y.at_) = true := by simp [h1]
      clear h0 h1
      go_enter Try.func31, Try.ntmps31
      go_wp2
      go_ret
      exact ⟨ret_bool (unhide H).symm, ((Below.refl _ _).alloc (Nat.le_refl _) _).alloc (by simp) _⟩
  · have H := hide (wrB_false (x := x) (y := y) (fun h => h0 h.1))
    have b0 : (x.host != y.host) = true := by simp [h0]
    clear h0
    go_enter Try.func31, Try.ntmps31
    go_wp2
    go_ret
    exact ⟨ret_bool (unhide H).symm, ((Below.refl _ _).alloc (Nat.le_refl _) _).alloc (by simp) _⟩

set_option maxHeartbeats 1600000 in
theorem eqMoveS_any (ao bo : Option Addr) (ca cb : Nat) (ss tt : List Wr) (w : World) (hl : ss.length ≤ maxLen) (hc : Ios w ao ss) (hd : Ios w bo tt) :
    Calls Try.prog 11 #[.slice ao ss.length ca, .slice bo tt.length cb] w fun e w' => e = .returned (.bool (eqWB ss tt)) ∧ Below w.heap.size w w' := by
  have HC := hide hc
  have HD := hide hd
  clear hc hd
  unfold maxLen at hl
  by_cases hle : ss.length = tt.length
  · have hb : ((ss.length : Int) != (tt.length : Int)) = false := by simp [hle]
    have HLE := hide hle
    clear hle
    go_enter Try.func11, Try.ntmps11
    go_wp2
    go_loopw [5] (fun i wr => ∃ k : Nat, k ≤ ss.length ∧ i = .int .i64 k ∧ Hid (∀ j (h : j < ss.length) (h' : j < tt.length), j < k → ss[j] = tt[j]) ∧ Hid (Below w.heap.size w wr)) (fun i _ => ss.length - (intOf i).toNat)
    case atStart => exact ⟨0, Nat.zero_le _, rfl, hide (fun j _ _ h => by omega), hide (Below.refl _ _)⟩
    case round =>
      obtain ⟨k, hk, rfl, HA, HB⟩ := hrel
      by_cases hlt : k < ss.length
      · have hlt' : k < tt.length := by rw [← unhide HLE]; exact hlt
        obtain ⟨b, off, rfl, hc0, hc1, hc2, hz⟩ := (unhide HC).below (unhide HB) k hlt
        obtain ⟨b', off', rfl, hd0, hd1, hd2, hz'⟩ := (unhide HD).below (unhide HB) k hlt'
        clear hz hz'
        by_cases he : ss[k] = tt[k]
        · have HN := hide (eq_succ hlt hlt' (unhide HA) he)
          have be : wrB ss[k] tt[k] = true := wrB_true (by rw [he]) (by rw [he]) (by rw [he])
          clear he
          go_wp2
          go_region_with (go_at_call 31; refine (eqMove_any _ _ _).mono ?_; rintro e w2 ⟨rfl, hb2⟩)
          all_goals
            have HB2 : Hid (Below w.heap.size w w2) := hide (Below.trans (by repeat (first | exact unhide HB | apply Below.drew)) (hb2.mono (unhide HB).size))
            clear hb2
            go_wp2
            go_roundw
            case rel => exact ⟨k + 1, by omega, by go_num, HN, HB2⟩
            case measure => simp [intOf]; omega
        · have H := hide (eqWB_false hlt hlt' he)
          have be : wrB ss[k] tt[k] = false := wrB_false (fun e => he (wr_ext e))
          clear he
          go_wp2
          go_region_with (go_at_call 31; refine (eqMove_any _ _ _).mono ?_; rintro e w2 ⟨rfl, hb2⟩)
          all_goals
            have HB2 : Hid (Below w.heap.size w w2) := hide (Below.trans (by repeat (first | exact unhide HB | apply Below.drew)) (hb2.mono (unhide HB).size))
            clear hb2
            go_wp2
            go_ret
            exact ⟨ret_bool (unhide H).symm, unhide HB2⟩
      · have H := hide (eqWB_true (unhide HLE) (fun j h h' => unhide HA j h h' (by omega)))
        go_wp2
        go_ret
        exact ⟨ret_bool (unhide H).symm, unhide HB⟩
  · have hb : ((ss.length : Int) != (tt.length : Int)) = true := by simp; omega
    have H := hide (eqWB_false_len hle)
    clear hle
    go_enter Try.func11, Try.ntmps11
    go_wp2
    go_ret
    exact ⟨ret_bool (unhide H).symm, Below.refl _ _⟩

end Go.Proofs.Ytboolfckaagfoab

/- Plain facts on records, of no program: sums of bytes. -/
namespace Go.Proofs.Ytboolfckaagfoab
open Go.RowKit

/-- The byte at a place. -/
def byteAt (s : ByteArray) (k : Nat) : Int := ((s.data[k]?.getD 0).toNat : Int)
theorem byteAt_get {s : ByteArray} {k : Nat} (h : k < s.size) : byteAt s k = (s[k].toNat : Int) := by
  have h' : k < s.data.size := h
  simp [byteAt, Array.getElem?_eq_getElem h']
  rfl
theorem byte_le (b : UInt8) : (b.toNat : Int) ≤ 255 := by have := b.toNat_lt; omega

/-- The sum of the first bytes. -/
def sumTo (s : ByteArray) : Nat → Int
  | 0 => 0
  | k + 1 => (sumTo s k + (k + 1) * (byteAt s k + 1)) % 251
theorem sumTo_in (s : ByteArray) (k : Nat) : 0 ≤ sumTo s k ∧ sumTo s k ≤ 250 := by
  cases k with
  | zero => simp [sumTo]
  | succ k => simp only [sumTo]; omega
def sumS (s : ByteArray) : Int := sumTo s s.size
def sumC (s : ByteArray) : Int := if s.size ≤ 65536 then sumS s else 0
theorem sumC_long {s : ByteArray} (h : 65536 < s.size) : sumC s = 0 := if_neg (by omega)
theorem sumC_short {s : ByteArray} (h : s.size ≤ 65536) : sumC s = sumS s := if_pos h

theorem prod_le {k : Nat} (hk : k ≤ 1048576) (b : UInt8) : 0 ≤ ((k : Int) + 1) * ((b.toNat : Int) + 1) ∧ ((k : Int) + 1) * ((b.toNat : Int) + 1) ≤ 268435712 := by
  have h1 := byte_le b
  have h2 : ((k : Int) + 1) * ((b.toNat : Int) + 1) ≤ ((k : Int) + 1) * 256 := Int.mul_le_mul_of_nonneg_left (by omega) (by omega)
  exact ⟨Int.mul_nonneg (by omega) (by omega), by omega⟩
theorem sumTo_succ {s : ByteArray} {k : Nat} (h : k < s.size) (hk : k ≤ 1048576) : (sumTo s k + ((k : Int) + 1) * ((s[k].toNat : Int) + 1)).tmod 251 = sumTo s (k + 1) := by
  have h1 := sumTo_in s k
  have h2 := prod_le hk s[k]
  rw [Int.tmod_eq_emod_of_nonneg (by omega), sumTo, byteAt_get h]
theorem wrap_id {x : Int} (h : -9223372036854775808 ≤ x) (h' : x ≤ 9223372036854775807) : wrap64 x = x := by simp only [wrap64]; omega
theorem sumTo_walk {s : ByteArray} {k : Nat} (h : k < s.size) (hk : k ≤ 1048576) : (wrap64 (sumTo s k + wrap64 (((k : Int) + 1) * wrap64 (wrap64 (s[k].toNat : Int) + 1)))).tmod 251 = sumTo s (k + 1) := by
  have h1 := sumTo_in s k
  have h2 := prod_le hk s[k]
  have h3 := byte_le s[k]
  rw [wrap_id (x := (s[k].toNat : Int)) (by omega) (by omega), wrap_id (x := (s[k].toNat : Int) + 1) (by omega) (by omega), wrap_id (x := ((k : Int) + 1) * ((s[k].toNat : Int) + 1)) (by omega) (by omega), wrap_id (by omega) (by omega)]
  exact sumTo_succ h hk

end Go.Proofs.Ytboolfckaagfoab

/- Plain facts on lists of numbers, of no program: what a slice of numbers shows, rows of the call's own, right numbers, their bytes. -/
namespace Go.Proofs.Ytboolfckaagfoab
open Go.RowKit

/-- A slice shows these numbers. -/
def Is (w : World) (ao : Option Addr) (xs : List Int) : Prop := ∀ i (h : i < xs.length), ∃ b off, ao = some ⟨b, off, none⟩ ∧ w.cell? ⟨b, off + i, none⟩ = some (.int .i64 xs[i])
theorem Is.below {w w' : World} {ao : Option Addr} {xs : List Int} (h : Is w ao xs) (hb : Below w.heap.size w w') : Is w' ao xs := fun i hi => by
  obtain ⟨b, off, e, hc⟩ := h i hi
  exact ⟨b, off, e, (hb.cell (p := ⟨b, off + i, none⟩) (World.block_lt_of_cell? _ _ hc)).trans hc⟩
def intV (xs : List Int) : List Value := xs.map (Value.int .i64)
theorem intV_length (xs : List Int) : (intV xs).length = xs.length := by simp [intV]
theorem intV_get {xs : List Int} {i : Nat} (h : i < xs.length) : (intV xs)[i]? = some (.int .i64 xs[i]) := by simp [intV, h]
theorem intV_snoc (xs : List Int) (n : Int) : intV (xs ++ [n]) = intV xs ++ [.int .i64 n] := by simp [intV]
theorem ownN {w : World} {B e cap : Nat} {ao : Option Addr} {xs : List Int} (h : w.ownsRow B e 1 (.slice ao xs.length cap) xs.length (intV xs)) : Is w ao xs := by
  rcases h.2 with ⟨hv, h0⟩ | ⟨g, cap', cur, hv, hb, hg, hnc, hcm, hcs, ht⟩
  · intro i hi
    omega
  · simp only [Value.slice.injEq, true_and] at hv
    obtain ⟨rfl, rfl⟩ := hv
    intro i hi
    refine ⟨g, 0, rfl, ?_⟩
    rw [Nat.zero_add, h.cellAt i (by omega), intV_get hi]
theorem ownRN {w : World} {B e cap : Nat} {ao : Option Addr} {xs : List Int} (h : OwnR w B e 1 (.slice ao xs.length cap) xs.length (intV xs)) : Is w ao xs := by
  rcases h with ⟨h0, _⟩ | ⟨_, h⟩
  · intro i hi; omega
  · exact ownN h

def eqNB (xs ys : List Int) : Bool := decide (xs = ys)
theorem eqNB_self (xs : List Int) : eqNB xs xs = true := by simp [eqNB]
theorem eqNB_true {ss tt : List Int} (hl : ss.length = tt.length) (h : ∀ j (h : j < ss.length) (h' : j < tt.length), ss[j] = tt[j]) : eqNB ss tt = true := decide_eq_true (List.ext_getElem hl h)
theorem eqNB_false_len {ss tt : List Int} (hl : ¬ ss.length = tt.length) : eqNB ss tt = false := decide_eq_false fun h => hl (by rw [h])
theorem eqNB_false {ss tt : List Int} {k : Nat} (hk : k < ss.length) (hk' : k < tt.length) (h : ss[k] ≠ tt[k]) : eqNB ss tt = false := decide_eq_false fun e => by subst e; exact h rfl

/-- A right number; right lists of numbers. -/
def numB (n : Int) : Bool := inB n 0 2147483647
def allB (xs : List Int) : Bool := xs.all numB
def intsB (xs : List Int) : Bool := allB xs && decide (xs.length ≤ 16)
theorem allB_true {xs : List Int} (ha : ∀ j (h : j < xs.length), numB xs[j] = true) : allB xs = true := all_of (p := numB) (fun i hi _ => ha i hi)
theorem allB_false {xs : List Int} {k : Nat} (hk : k < xs.length) (h : numB xs[k] = false) : allB xs = false := all_not (p := numB) hk h
theorem intsB_false_at {xs : List Int} {k : Nat} (hk : k < xs.length) (h : numB xs[k] = false) : intsB xs = false := by rw [intsB, allB_false hk h]; rfl
theorem intsB_len {xs : List Int} (ha : ∀ j (h : j < xs.length), numB xs[j] = true) : intsB xs = decide (xs.length ≤ 16) := by rw [intsB, allB_true ha]; rfl
theorem intsB_long {xs : List Int} (h : 16 < xs.length) : intsB xs = false := by rw [intsB, decide_eq_false (by omega)]; simp
theorem intsB_parts {xs : List Int} (h : intsB xs = true) : (∀ j (h : j < xs.length), 0 ≤ xs[j] ∧ xs[j] ≤ 2147483647) ∧ xs.length ≤ 16 := by
  simp only [intsB, Bool.and_eq_true, decide_eq_true_eq] at h
  refine ⟨fun j hj => ?_, h.2⟩
  have := h.1
  rw [allB, List.all_eq_true] at this
  have := this _ (List.getElem_mem hj)
  simpa [numB, inB] using this
/-- The code of a list. -/
def listC (xs : List Int) : Int := if 4096 < xs.length then 2 else if intsB xs = true then 0 else 4
theorem listC_long {xs : List Int} (h : 4096 < xs.length) : listC xs = 2 := if_pos h
theorem listC_bad {xs : List Int} (h : ¬ 4096 < xs.length) (hb : intsB xs = false) : listC xs = 4 := by rw [listC, if_neg h, if_neg (by simp [hb])]
theorem listC_ok {xs : List Int} (h : ¬ 4096 < xs.length) (hb : intsB xs = true) : listC xs = 0 := by rw [listC, if_neg h, if_pos hb]
theorem listC_zero {xs : List Int} (h : listC xs = 0) : intsB xs = true := by
  unfold listC at h
  split at h
  · cases h
  · split at h
    · assumption
    · cases h

/-- A number's bytes, the lowest first. -/
def byteN (n : Int) (j : Nat) : Int := n / (256 : Int) ^ j % 256
def fourTo (n : Int) (j : Nat) : List Int := (List.range j).map (byteN n)
def four (n : Int) : List Int := fourTo n 4
theorem fourTo_succ (n : Int) (j : Nat) : fourTo n (j + 1) = fourTo n j ++ [byteN n j] := by simp [fourTo, List.range_succ]
theorem fourTo_length (n : Int) (j : Nat) : (fourTo n j).length = j := by simp [fourTo]
theorem byteN_in (n : Int) (j : Nat) : 0 ≤ byteN n j ∧ byteN n j ≤ 255 := by unfold byteN; omega
def byteV (ns : List Int) : List Value := ns.map (Value.int .u8)
theorem byteV_length (ns : List Int) : (byteV ns).length = ns.length := by simp [byteV]
theorem byteV_snoc (ns : List Int) (n : Int) : byteV (ns ++ [n]) = byteV ns ++ [.int .u8 n] := by simp [byteV]
/-- A number, its lowest bytes cut off. -/
def shN (n : Int) (j : Nat) : Int := n / (256 : Int) ^ j
theorem shN_in {n : Int} (h : 0 ≤ n) (h' : n ≤ 2147483647) (j : Nat) : 0 ≤ shN n j ∧ shN n j ≤ 2147483647 := by
  have hp : (0 : Int) < (256 : Int) ^ j := Int.pow_pos (by omega)
  refine ⟨Int.ediv_nonneg h (by omega), Int.le_trans (Int.ediv_le_self _ h) h'⟩
theorem shN_succ (n : Int) (j : Nat) : shN n (j + 1) = shN n j / 256 := by
  unfold shN
  rw [Int.pow_succ, Int.ediv_ediv_of_nonneg (Int.pow_nonneg (by omega))]
theorem shN_byte (n : Int) (j : Nat) : shN n j % 256 = byteN n j := rfl
theorem byte_news (w : World) (v : Value) (t : TypeId) : ∀ j u, [v][j]? = some u → (w.alloc (.cells #[v] t)).cell? ((⟨w.heap.size, 0, none⟩ : Addr).add j) = some u := by
  intro j u hu
  have hj : j = 0 := by
    rcases Nat.eq_zero_or_pos j with h | h
    · exact h
    · rw [List.getElem?_eq_none (by simp; omega)] at hu; cases hu
  subst hj
  simp at hu
  subst hu
  simp [Addr.add, go_sem]
theorem byte_one (n : Int) : ∀ u ∈ [Value.int .u8 n], u.oneCell' = true := by
  intro u hu
  simp at hu
  subst hu
  rfl
/-- A row of one byte more. -/
theorem keep_below {w0 w w' : World} {v : Value} {B e size n : Nat} {xs : List Value} (hb : Below w0.heap.size w0 w) (ho : OwnR w B e size v n xs) (hB : w0.heap.size ≤ B) (hk : Keep (Own v) w w') : Below w0.heap.size w0 w' :=
  hb.trans (hk.below hb.size (fun k hk => Nat.le_trans hB (ho.ge k hk).1))
def packL (xs : List Int) : List Int := xs.flatMap four
def packS (xs : List Int) : ByteArray := strOfNums (packL xs)
theorem packL_length : ∀ (xs : List Int), (packL xs).length = xs.length * 4
  | [] => rfl
  | x :: xs => by
    have ih := packL_length xs
    simp only [packL, List.flatMap_cons, List.length_append, List.length_cons] at ih ⊢
    rw [four, fourTo_length]
    omega
theorem packL_snoc (xs : List Int) (n : Int) : packL (xs ++ [n]) = packL xs ++ four n := by simp [packL]
theorem packL_succ {xs : List Int} {k : Nat} (h : k < xs.length) : packL (xs.take (k + 1)) = packL (xs.take k) ++ four xs[k] := by
  rw [List.take_succ_eq_append_getElem h, packL_snoc]
theorem packS_size (xs : List Int) : (packS xs).size = xs.length * 4 := by rw [packS, strOfNums_size, packL_length]

/-- 'string(b)' of a row of the call's own. -/
theorem convert_own {P : Program} {w : World} {src e dst : TypeId} (hs : P.underlying src = some (.slice e)) (he : P.underlying e = some (.int .u8)) (hd : P.underlying dst = some .string) {B n qa t : Nat} {qo : Option Addr} {ns : List Int}
    (h : OwnR w B t 1 (.slice qo n qa) n (byteV ns)) : (convert src dst (.slice qo n qa)).run P w = .ok (.string (strOfNums ns)) w := by
  rcases h with ⟨rfl, hx, ao, hv⟩ | ⟨h0, h⟩
  · simp only [Value.slice.injEq, true_and] at hv
    obtain ⟨rfl, rfl⟩ := hv
    have hns : ns = [] := by simpa [byteV] using hx
    subst hns
    cases qo with
    | none => exact run_convert_bytes_nil w src e hs he 0 0 dst hd
    | some a =>
      have hl : (loadCells a 0).run P w = .ok (([] : List Int).map (Value.int .u8)).toArray w := by simpa using run_loadCells_list (P := P) w a [] (by simp)
      rw [run_convert_bytes_string w src dst e _ 0 0 hs he hd, run_bytesToString w a 0 0 [] hl]
      rfl
  · obtain ⟨g, cap, cur, hv, _, _⟩ := own_form h0 h
    simp only [Value.slice.injEq, true_and] at hv
    obtain ⟨rfl, rfl⟩ := hv
    have hlen : ns.length = n := by have := h.1; rw [byteV_length] at this; omega
    refine run_convert_bytes_arg w src e hs he g 0 n _ ns hlen (fun i hi => ?_) dst hd
    rw [Nat.zero_add, h.cellAt i (by omega)]
    simp [byteV, List.getElem?_eq_getElem (show i < ns.length by omega), List.getD]

end Go.Proofs.Ytboolfckaagfoab

/- Plain facts on records, of no program: kinds, the text of a record. -/
namespace Go.Proofs.Ytboolfckaagfoab
open Go.RowKit

theorem nums_append (a b : List Int) : strOfNums (a ++ b) = strOfNums a ++ strOfNums b := by
  apply ByteArray.ext
  simp [strOfNums]

def kindB (k : Int) : Bool := inB k 1 9
theorem kindB_in {k : Int} (h : kindB k = true) : 1 ≤ k ∧ k ≤ 9 := by simpa [kindB, inB] using h
theorem kindB_out {k : Int} (h : kindB k = false) : ¬ (1 ≤ k ∧ k ≤ 9) := by simpa [kindB, inB] using h
/-- What a record's sum is taken of, its sum, its text. -/
def sumT (k : Int) (xs : List Int) : ByteArray := strOfNums [k, xs.length] ++ packS xs
def sumR (k : Int) (xs : List Int) : Int := sumS (sumT k xs)
def headR (k : Int) (xs : List Int) : List Int := [k, xs.length, sumR k xs, 0]
def sealS (k : Int) (xs : List Int) : ByteArray := strOfNums (headR k xs) ++ packS xs
theorem sumT_size (k : Int) (xs : List Int) : (sumT k xs).size = 2 + xs.length * 4 := by rw [sumT, ByteArray.size_append, strOfNums_size, packS_size]; rfl
theorem sealS_size (k : Int) (xs : List Int) : (sealS k xs).size = 4 + xs.length * 4 := by rw [sealS, ByteArray.size_append, strOfNums_size, packS_size]; rfl
theorem sumR_in (k : Int) (xs : List Int) : 0 ≤ sumR k xs ∧ sumR k xs ≤ 250 := sumTo_in _ _
theorem sealS_parts (k : Int) (xs : List Int) : strOfNums [k, (xs.length : Int)] ++ strOfNums [sumR k xs, 0] ++ packS xs = sealS k xs := by
  rw [← nums_append]; rfl

/-- The code of a record that is to be sealed, its text. -/
def sealC (k : Int) (xs : List Int) : Int := if listC xs = 0 then (if kindB k = true then 0 else 4) else listC xs
def sealT (k : Int) (xs : List Int) : ByteArray := if sealC k xs = 0 then sealS k xs else ⟨#[]⟩
theorem sealC_list {k : Int} {xs : List Int} (h : listC xs ≠ 0) : sealC k xs = listC xs := if_neg h
theorem sealC_kind {k : Int} {xs : List Int} (h : listC xs = 0) (hk : kindB k = false) : sealC k xs = 4 := by rw [sealC, if_pos h, if_neg (by simp [hk])]
theorem sealC_ok {k : Int} {xs : List Int} (h : listC xs = 0) (hk : kindB k = true) : sealC k xs = 0 := by rw [sealC, if_pos h, if_pos hk]
theorem sealT_ok {k : Int} {xs : List Int} (h : sealC k xs = 0) : sealT k xs = sealS k xs := if_pos h
theorem sealT_no {k : Int} {xs : List Int} (h : sealC k xs ≠ 0) : sealT k xs = ⟨#[]⟩ := if_neg h

end Go.Proofs.Ytboolfckaagfoab

/- Plain facts on numbers that are read from bytes, of no program. -/
namespace Go.Proofs.Ytboolfckaagfoab
open Go.RowKit

theorem wraps_i64 (n : Int) (h₀ : 0 ≤ n) (h₁ : n < 2 ^ 63) : IntKind.i64.wrap n = n := by rw [IntKind.wrap_i64]; omega
theorem or_low (i : Nat) (y x : Int) (hy₀ : 0 ≤ y) (hy : y < 2 ^ i) (hy₁ : y < 2 ^ 63) (hx₀ : 0 ≤ x) (hx : x % 2 ^ i = 0) (hx₁ : x < 2 ^ 63) : bits .or .i64 y x = y + x :=
  bits_join_low .i64 63 (by decide) wraps_i64 i y x hy₀ hy hy₁ hx₀ hx hx₁
theorem or_high (i : Nat) (x y : Int) (hx₀ : 0 ≤ x) (hx : x % 2 ^ i = 0) (hx₁ : x < 2 ^ 63) (hy₀ : 0 ≤ y) (hy : y < 2 ^ i) (hy₁ : y < 2 ^ 63) : bits .or .i64 x y = x + y :=
  bits_join .i64 63 (by decide) wraps_i64 i x y hx₀ hx hx₁ hy₀ hy hy₁

theorem byteAt_in (s : ByteArray) (k : Nat) : 0 ≤ byteAt s k ∧ byteAt s k ≤ 255 := by
  unfold byteAt
  have := byte_le (s.data[k]?.getD 0)
  omega
/-- The number whose bytes begin at a place. -/
def numAt (s : ByteArray) (i : Nat) : Int := byteAt s i + byteAt s (i + 1) * 256 + byteAt s (i + 2) * 65536 + byteAt s (i + 3) * 16777216
theorem numAt_in (s : ByteArray) (i : Nat) : 0 ≤ numAt s i ∧ numAt s i ≤ 4294967295 := by
  have h0 := byteAt_in s i
  have h1 := byteAt_in s (i + 1)
  have h2 := byteAt_in s (i + 2)
  have h3 := byteAt_in s (i + 3)
  unfold numAt
  omega
/-- As the program reckons it. -/
theorem num_impl (s : ByteArray) : bits .or .i64 (bits .or .i64 (bits .or .i64 (wrap64 (byteAt s 0)) (wrap64 (wrap64 (byteAt s 1) * 256))) (wrap64 (wrap64 (byteAt s 2) * 65536))) (wrap64 (wrap64 (byteAt s 3) * 16777216)) = numAt s 0 := by
  have h0 := byteAt_in s 0
  have h1 := byteAt_in s 1
  have h2 := byteAt_in s 2
  have h3 := byteAt_in s 3
  rw [wrap_id (x := byteAt s 0) (by omega) (by omega), wrap_id (x := byteAt s 1) (by omega) (by omega), wrap_id (x := byteAt s 2) (by omega) (by omega), wrap_id (x := byteAt s 3) (by omega) (by omega),
    wrap_id (x := byteAt s 1 * 256) (by omega) (by omega), wrap_id (x := byteAt s 2 * 65536) (by omega) (by omega), wrap_id (x := byteAt s 3 * 16777216) (by omega) (by omega)]
  rw [or_low 8 (byteAt s 0) (byteAt s 1 * 256) (by omega) (by omega) (by omega) (by omega) (by omega) (by omega),
    or_low 16 (byteAt s 0 + byteAt s 1 * 256) (byteAt s 2 * 65536) (by omega) (by omega) (by omega) (by omega) (by omega) (by omega),
    or_low 24 (byteAt s 0 + byteAt s 1 * 256 + byteAt s 2 * 65536) (byteAt s 3 * 16777216) (by omega) (by omega) (by omega) (by omega) (by omega) (by omega)]
  rfl
/-- As the model reckons it: from the highest byte on. -/
def hi (s : ByteArray) (i : Nat) : Nat → Int
  | 0 => 0
  | m + 1 => hi s i m * 256 + byteAt s (i + (3 - m))
theorem hi_four (s : ByteArray) (i : Nat) : hi s i 4 = numAt s i := by
  show (((0 * 256 + byteAt s (i + 3)) * 256 + byteAt s (i + 2)) * 256 + byteAt s (i + 1)) * 256 + byteAt s i = byteAt s i + byteAt s (i + 1) * 256 + byteAt s (i + 2) * 65536 + byteAt s (i + 3) * 16777216
  omega
theorem hi_in (s : ByteArray) (i : Nat) : ∀ m, m ≤ 3 → 0 ≤ hi s i m ∧ hi s i m ≤ 16777215
  | 0, _ => by simp [hi]
  | 1, _ => by
    have := byteAt_in s (i + 3)
    show 0 ≤ 0 * 256 + byteAt s (i + 3) ∧ 0 * 256 + byteAt s (i + 3) ≤ 16777215
    omega
  | 2, _ => by
    have := byteAt_in s (i + 3)
    have := byteAt_in s (i + 2)
    show 0 ≤ (0 * 256 + byteAt s (i + 3)) * 256 + byteAt s (i + 2) ∧ (0 * 256 + byteAt s (i + 3)) * 256 + byteAt s (i + 2) ≤ 16777215
    omega
  | 3, _ => by
    have := byteAt_in s (i + 3)
    have := byteAt_in s (i + 2)
    have := byteAt_in s (i + 1)
    show 0 ≤ ((0 * 256 + byteAt s (i + 3)) * 256 + byteAt s (i + 2)) * 256 + byteAt s (i + 1) ∧ ((0 * 256 + byteAt s (i + 3)) * 256 + byteAt s (i + 2)) * 256 + byteAt s (i + 1) ≤ 16777215
    omega
  | _ + 4, h => by omega
theorem hi_step (s : ByteArray) (i m : Nat) (hm : m ≤ 3) (h : i + (3 - m) < s.size) : bits .or .i64 (hi s i m * 256) (s[i + (3 - m)].toNat : Int) = hi s i (m + 1) := by
  have h1 := hi_in s i m hm
  have h2 := byte_le s[i + (3 - m)]
  rw [or_high 8 _ _ (by omega) (by omega) (by omega) (by omega) (by omega) (by omega), hi, byteAt_get h]

theorem wrap_byte (b : UInt8) : wrap64 (b.toNat : Int) = (b.toNat : Int) := by have := byte_le b; exact wrap_id (by omega) (by omega)

/-- The numbers of a text. -/
def unL (s : ByteArray) : List Int := (List.range (s.size / 4)).map fun i => numAt s (i * 4)
theorem unL_length (s : ByteArray) : (unL s).length = s.size / 4 := by simp [unL]
theorem unL_get {s : ByteArray} {k : Nat} (h : k < (unL s).length) : (unL s)[k] = numAt s (k * 4) := by simp [unL]
theorem unL_succ {s : ByteArray} {k : Nat} (h : k < s.size / 4) : (unL s).take (k + 1) = (unL s).take k ++ [numAt s (k * 4)] := by
  rw [List.take_succ_eq_append_getElem (by rw [unL_length]; exact h), unL_get]
def okU (s : ByteArray) : Bool := decide (s.size % 4 = 0) && intsB (unL s)
theorem okU_rest {s : ByteArray} (h : ¬ s.size % 4 = 0) : okU s = false := by rw [okU, decide_eq_false h]; rfl
theorem okU_even {s : ByteArray} (h : s.size % 4 = 0) : okU s = intsB (unL s) := by rw [okU, decide_eq_true h]; rfl
theorem okU_long {s : ByteArray} (h : 64 < s.size) : okU s = false := by
  by_cases h4 : s.size % 4 = 0
  · rw [okU_even h4]; exact intsB_long (by rw [unL_length]; omega)
  · exact okU_rest h4
theorem okU_bad {s : ByteArray} {k : Nat} (hk : k < s.size / 4) (h : numB (numAt s (k * 4)) = false) : okU s = false := by
  have hk' : k < (unL s).length := by rw [unL_length]; exact hk
  rw [okU, intsB_false_at hk' (by rw [unL_get hk']; exact h)]
  simp
theorem okU_true {s : ByteArray} (h4 : s.size % 4 = 0) (hl : s.size ≤ 64) (h : ∀ k, k < s.size / 4 → numB (numAt s (k * 4)) = true) : okU s = true := by
  rw [okU_even h4, intsB_len (fun j hj => by rw [unL_get hj]; exact h j (by rw [unL_length] at hj; exact hj))]
  simp [unL_length]; omega
def listU (s : ByteArray) : List Int := if s.size % 4 = 0 then unL s else []
/-- The code of a text of numbers, what comes of it. -/
def unC (s : ByteArray) : Int := if 65536 < s.size then 2 else if okU s = true then 0 else 3
def unR (s : ByteArray) : List Int := if unC s = 0 then unL s else []
theorem unC_long {s : ByteArray} (h : 65536 < s.size) : unC s = 2 := if_pos h
theorem unC_ok {s : ByteArray} (h : ¬ 65536 < s.size) (hb : okU s = true) : unC s = 0 := by rw [unC, if_neg h, if_pos hb]
theorem unC_bad {s : ByteArray} (h : ¬ 65536 < s.size) (hb : okU s = false) : unC s = 3 := by rw [unC, if_neg h, if_neg (by simp [hb])]
theorem unR_ok {s : ByteArray} (h : unC s = 0) : unR s = unL s := if_pos h
theorem unR_no {s : ByteArray} (h : unC s ≠ 0) : unR s = [] := if_neg h

end Go.Proofs.Ytboolfckaagfoab

/- Plain facts on records, of no program: when a text is just one. -/
namespace Go.Proofs.Ytboolfckaagfoab
open Go.RowKit
set_option linter.unusedVariables false

theorem byteAt_list (s : ByteArray) (k : Nat) : byteAt s k = ((s.data.toList[k]?.getD 0).toNat : Int) := by simp [byteAt]
theorem list_eq {a b : ByteArray} (h : a.data.toList = b.data.toList) : a = b := by
  cases a; cases b
  simpa using Array.toList_inj.1 h
theorem size_list (s : ByteArray) : s.data.toList.length = s.size := by simp
/-- Two texts of one length with alike bytes are one. -/
theorem bytes_eq {a b : ByteArray} (hs : a.size = b.size) (h : ∀ k, k < a.size → byteAt a k = byteAt b k) : a = b := by
  apply list_eq
  apply List.ext_getElem
  · rw [size_list, size_list, hs]
  · intro i h1 h2
    rw [size_list] at h1
    have := h i h1
    rw [byteAt_list, byteAt_list, List.getElem?_eq_getElem (by rw [size_list]; exact h1), List.getElem?_eq_getElem h2] at this
    simp only [Option.getD_some] at this
    exact UInt8.toNat_inj.1 (by omega)
theorem byteAt_nums {ns : List Int} {k : Nat} (h : k < ns.length) (h0 : 0 ≤ ns[k]) (h1 : ns[k] ≤ 255) : byteAt (strOfNums ns) k = ns[k] := by
  rw [byteAt_list, strOfNums_data, List.getElem?_map, List.getElem?_eq_getElem h]
  simp only [Option.map_some, Option.getD_some]
  have : ns[k].toNat < 256 := by omega
  rw [UInt8.toNat_ofNat_of_lt' (by simpa using this)]
  omega
theorem byteAt_left {a b : ByteArray} {k : Nat} (h : k < a.size) : byteAt (a ++ b) k = byteAt a k := by
  have e : (a ++ b).data.toList = a.data.toList ++ b.data.toList := by simp
  rw [byteAt_list, byteAt_list, e, List.getElem?_append_left (by rw [size_list]; exact h)]
theorem byteAt_right {a b : ByteArray} {k : Nat} (h : a.size ≤ k) : byteAt (a ++ b) k = byteAt b (k - a.size) := by
  have e : (a ++ b).data.toList = a.data.toList ++ b.data.toList := by simp
  rw [byteAt_list, byteAt_list, e, List.getElem?_append_right (by rw [size_list]; exact h), size_list]
theorem byteAt_cut {u : ByteArray} {a b j : Nat} (hb : b ≤ u.size) (h : a + j < b) : byteAt (u.extract a b) j = byteAt u (a + j) := by
  have e : (u.extract a b).data = u.data.extract a b := by simp
  unfold byteAt
  have : j < min b u.data.size - a := by have : b ≤ u.data.size := hb; omega
  rw [e, Array.getElem?_extract, if_pos this]

/-- The head and the body of a text. -/
def bodyT (s : ByteArray) : ByteArray := s.extract 4 s.size
def headT (s : ByteArray) : ByteArray := s.extract 0 2
theorem bodyT_size (s : ByteArray) : (bodyT s).size = s.size - 4 := by simp [bodyT]
theorem headT_size {s : ByteArray} (h : 4 ≤ s.size) : (headT s).size = 2 := by simp [headT]; omega
theorem headT_eq {s : ByteArray} (h : 4 ≤ s.size) : headT s = strOfNums [byteAt s 0, byteAt s 1] := by
  have h0 := byteAt_in s 0
  have h1 := byteAt_in s 1
  apply bytes_eq
  · rw [headT_size h, strOfNums_size]; rfl
  · intro k hk
    rw [headT_size h] at hk
    rw [headT, byteAt_cut (by omega) (by omega)]
    rcases (show k = 0 ∨ k = 1 by omega) with rfl | rfl
    · rw [byteAt_nums (by simp) (by simp; omega) (by simp; omega)]; simp
    · rw [byteAt_nums (by simp) (by simp; omega) (by simp; omega)]; simp
theorem bodyT_byte {s : ByteArray} {k : Nat} (h : 4 + k < s.size) : byteAt (bodyT s) k = byteAt s (4 + k) := by rw [bodyT, byteAt_cut (Nat.le_refl _) h]

/-- Numbers that are read are packed as they were. -/
theorem four_num (s : ByteArray) (i j : Nat) (hj : j < 4) : byteN (numAt s i) j = byteAt s (i + j) := by
  have h0 := byteAt_in s i
  have h1 := byteAt_in s (i + 1)
  have h2 := byteAt_in s (i + 2)
  have h3 := byteAt_in s (i + 3)
  unfold byteN numAt
  rcases (show j = 0 ∨ j = 1 ∨ j = 2 ∨ j = 3 by omega) with rfl | rfl | rfl | rfl
  · simp only [Nat.add_zero]; omega
  · show (byteAt s i + byteAt s (i + 1) * 256 + byteAt s (i + 2) * 65536 + byteAt s (i + 3) * 16777216) / 256 % 256 = _; omega
  · show (byteAt s i + byteAt s (i + 1) * 256 + byteAt s (i + 2) * 65536 + byteAt s (i + 3) * 16777216) / 65536 % 256 = _; omega
  · show (byteAt s i + byteAt s (i + 1) * 256 + byteAt s (i + 2) * 65536 + byteAt s (i + 3) * 16777216) / 16777216 % 256 = _; omega
theorem packL_at : ∀ (xs : List Int) (i j : Nat) (hi : i < xs.length) (hj : j < 4), (packL xs)[i * 4 + j]? = some (byteN xs[i] j)
  | [], i, _, hi, _ => absurd hi (Nat.not_lt_zero _)
  | x :: xs, 0, j, _, hj => by
    show (four x ++ packL xs)[0 * 4 + j]? = _
    rw [List.getElem?_append_left (by rw [four, fourTo_length]; omega)]
    simp [four, fourTo, hj]
  | x :: xs, i + 1, j, hi, hj => by
    show (four x ++ packL xs)[(i + 1) * 4 + j]? = _
    rw [List.getElem?_append_right (by rw [four, fourTo_length]; omega), four, fourTo_length, show (i + 1) * 4 + j - 4 = i * 4 + j by omega]
    have := packL_at xs i j (by simpa using hi) hj
    simpa using this
theorem pack_un {s : ByteArray} (h4 : s.size % 4 = 0) : packS (unL s) = s := by
  apply bytes_eq
  · rw [packS_size, unL_length]; omega
  · intro k hk
    rw [packS_size, unL_length] at hk
    have hq : k / 4 < (unL s).length := by rw [unL_length]; omega
    have h1 := packL_at (unL s) (k / 4) (k % 4) hq (by omega)
    rw [show k / 4 * 4 + k % 4 = k by omega, unL_get hq, four_num s _ _ (by omega), show k / 4 * 4 + k % 4 = k by omega] at h1
    obtain ⟨hkl, h2⟩ := List.getElem?_eq_some_iff.1 h1
    have hb := byteAt_in s k
    rw [packS, byteAt_nums hkl (by rw [h2]; omega) (by rw [h2]; omega), h2]

/-- A text is just one record. -/
def RecP (s : ByteArray) : Prop := 4 ≤ s.size ∧ kindB (byteAt s 0) = true ∧ byteAt s 3 = 0 ∧ ((bodyT s).size : Int) = byteAt s 1 * 4 ∧ byteAt s 2 = sumS (headT s ++ bodyT s) ∧ okU (bodyT s) = true
def recB (s : ByteArray) : Bool := decide (4 ≤ s.size) && (kindB (byteAt s 0) && (decide (byteAt s 3 = 0) && (decide (((bodyT s).size : Int) = byteAt s 1 * 4) && (decide (byteAt s 2 = sumS (headT s ++ bodyT s)) && okU (bodyT s)))))
theorem recB_iff {s : ByteArray} : recB s = true ↔ RecP s := by simp only [recB, RecP, Bool.and_eq_true, decide_eq_true_eq]
theorem recB_true {s : ByteArray} (h : RecP s) : recB s = true := recB_iff.2 h
theorem recB_false {s : ByteArray} (h : ¬ RecP s) : recB s = false := by
  rw [← Bool.not_eq_true]
  exact fun e => h (recB_iff.1 e)

theorem okU_parts {s : ByteArray} (h : okU s = true) : s.size % 4 = 0 ∧ s.size ≤ 64 ∧ intsB (unL s) = true := by
  by_cases h4 : s.size % 4 = 0
  · by_cases hl : 64 < s.size
    · rw [okU_long hl] at h; cases h
    · rw [okU_even h4] at h; exact ⟨h4, by omega, h⟩
  · rw [okU_rest h4] at h; cases h

/-- The model's test: what comes of the numbers is the text. -/
theorem seal_iff {s : ByteArray} (hs : 4 ≤ s.size) (hk : kindB (byteAt s 0) = true) (hu : okU (bodyT s) = true) : sealS (byteAt s 0) (unL (bodyT s)) = s ↔ RecP s := by
  obtain ⟨h4, h64, hints⟩ := okU_parts hu
  have hp := pack_un h4
  have hl := unL_length (bodyT s)
  have hbs := bodyT_size s
  have hk' := kindB_in hk
  have hr := sumR_in (byteAt s 0) (unL (bodyT s))
  have hz := sealS_size (byteAt s 0) (unL (bodyT s))
  have b1 := byteAt_in s 1
  have hhs : (strOfNums (headR (byteAt s 0) (unL (bodyT s)))).size = 4 := strOfNums_size _
  have hhead : ∀ j (hj : j < 4), byteAt (sealS (byteAt s 0) (unL (bodyT s))) j = (headR (byteAt s 0) (unL (bodyT s)))[j]'(by simpa [headR] using hj) := by
    intro j hj
    rw [sealS, byteAt_left (by rw [hhs]; exact hj), byteAt_nums]
    · rcases (show j = 0 ∨ j = 1 ∨ j = 2 ∨ j = 3 by omega) with rfl | rfl | rfl | rfl <;> simp [headR] <;> omega
    · rcases (show j = 0 ∨ j = 1 ∨ j = 2 ∨ j = 3 by omega) with rfl | rfl | rfl | rfl <;> simp [headR] <;> omega
  have hrest : ∀ j, 4 ≤ j → byteAt (sealS (byteAt s 0) (unL (bodyT s))) j = byteAt (bodyT s) (j - 4) := by
    intro j hj
    rw [sealS, byteAt_right (by rw [hhs]; exact hj), hhs, hp]
  constructor
  · intro e
    have e1 := hhead 1 (by omega)
    have e2 := hhead 2 (by omega)
    have e3 := hhead 3 (by omega)
    rw [e] at e1 e2 e3
    simp only [headR, List.getElem_cons_succ, List.getElem_cons_zero] at e1 e2 e3
    refine ⟨hs, hk, e3, by omega, ?_, hu⟩
    rw [e2, sumR, sumT, hp, headT_eq hs, e1]
  · rintro ⟨_, _, h3, hcnt, hsum, _⟩
    have hlen : (((unL (bodyT s)).length : Nat) : Int) = byteAt s 1 := by omega
    have hsr : sumR (byteAt s 0) (unL (bodyT s)) = byteAt s 2 := by rw [sumR, sumT, hp, hlen, ← headT_eq hs, hsum]
    apply bytes_eq
    · rw [hz]; omega
    · intro k hk2
      rw [hz] at hk2
      by_cases hk4 : k < 4
      · rw [hhead k hk4]
        rcases (show k = 0 ∨ k = 1 ∨ k = 2 ∨ k = 3 by omega) with rfl | rfl | rfl | rfl
        · simp [headR]
        · simp [headR, hlen]
        · simp [headR, hsr]
        · simp [headR, h3]
      · rw [hrest k (by omega), bodyT_byte (by omega), show 4 + (k - 4) = k by omega]

/-- The codes and what comes of records. -/
def opC (s : ByteArray) (k : Int) : Int := if 65536 < s.size then 2 else if kindB k = true then (if recB s = true ∧ byteAt s 0 = k then 0 else 3) else 4
def opR (s : ByteArray) (k : Int) : List Int := if opC s k = 0 then unL (bodyT s) else []
def kdC (s : ByteArray) : Int := if 65536 < s.size then 2 else if recB s = true then 0 else 3
def kdR (s : ByteArray) : Int := if kdC s = 0 then byteAt s 0 else 0
theorem opC_long {s : ByteArray} {k : Int} (h : 65536 < s.size) : opC s k = 2 := if_pos h
theorem opC_kind {s : ByteArray} {k : Int} (h : ¬ 65536 < s.size) (hk : kindB k = false) : opC s k = 4 := by rw [opC, if_neg h, if_neg (by simp [hk])]
theorem opC_ok {s : ByteArray} {k : Int} (h : ¬ 65536 < s.size) (hk : kindB k = true) (hr : recB s = true) (he : byteAt s 0 = k) : opC s k = 0 := by rw [opC, if_neg h, if_pos hk, if_pos ⟨hr, he⟩]
theorem opC_no {s : ByteArray} {k : Int} (h : ¬ 65536 < s.size) (hk : kindB k = true) (hr : ¬ (recB s = true ∧ byteAt s 0 = k)) : opC s k = 3 := by rw [opC, if_neg h, if_pos hk, if_neg hr]
theorem opR_ok {s : ByteArray} {k : Int} (h : opC s k = 0) : opR s k = unL (bodyT s) := if_pos h
theorem opR_no {s : ByteArray} {k : Int} (h : opC s k ≠ 0) : opR s k = [] := if_neg h
theorem kdC_long {s : ByteArray} (h : 65536 < s.size) : kdC s = 2 := if_pos h
theorem kdC_ok {s : ByteArray} (h : ¬ 65536 < s.size) (hr : recB s = true) : kdC s = 0 := by rw [kdC, if_neg h, if_pos hr]
theorem kdC_no {s : ByteArray} (h : ¬ 65536 < s.size) (hr : recB s = false) : kdC s = 3 := by rw [kdC, if_neg h, if_neg (by simp [hr])]
theorem kdR_ok {s : ByteArray} (h : kdC s = 0) : kdR s = byteAt s 0 := if_pos h
theorem kdR_no {s : ByteArray} (h : kdC s ≠ 0) : kdR s = 0 := if_neg h

end Go.Proofs.Ytboolfckaagfoab
