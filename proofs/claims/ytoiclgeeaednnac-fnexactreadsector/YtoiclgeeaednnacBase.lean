/- Contracts of the laws' own helpers over a disk: sizes (szDisk), copies (toDisk), comparisons (eqDisk). -/
import Derived.Test.YtoiclgeeaednnacRows
import Derived.Test.YtoiclgeeaednnacGen
import Derived.WalkKit
import Derived.WalkSpells
namespace Go.Proofs.Ytoiclgeeaednnac
open Go.RowKit
set_option linter.unusedVariables false
set_option maxRecDepth 100000

theorem info9 : (Try.prog.info? 9).map (fun i => (i.zero, i.size, i.bytes)) = some (some (.string ⟨#[]⟩), 1, 16) := by kernel_rfl
theorem infoIo : (Try.prog.info? 55).map (fun i => (i.zero, i.size, i.bytes)) = some (some (.agg #[.int .i64 0, .int .i64 0, .string ⟨#[]⟩]), 3, 32) := by kernel_rfl

set_option maxHeartbeats 800000 in
theorem szStringS_any (ao : Option Addr) (cap : Nat) (ss : List ByteArray) (left : Int) (w : World) (hl : ss.length ≤ maxLen) (hc : Ss w ao ss) (h0 : 0 ≤ left) (h1 : left ≤ 1048576) :
    Calls Try.prog 26 #[.slice ao ss.length cap, .int .i64 left] w fun e w' => ∃ r : Int, e = .returned (.int .i64 r) ∧ -1 ≤ r ∧ r ≤ left ∧ (0 ≤ r → r + ss.length ≤ left) ∧ w' = w := by
  have HC := hide hc
  clear hc
  unfold maxLen at hl
  by_cases hle : left < ss.length
  · go_enter Try.func26, Try.ntmps26
    go_wp2
    go_ret
    exact ⟨-1, rfl, by omega, by omega, by omega, rfl⟩
  go_enter Try.func26, Try.ntmps26
  go_wp2
  go_loop [1, 5] (fun l i => ∃ (k : Nat) (r : Int), k ≤ ss.length ∧ i = .int .i64 k ∧ l = .int .i64 r ∧ 0 ≤ r ∧ r + ss.length ≤ left) (fun _ i => ss.length - (intOf i).toNat)
  case atStart => exact ⟨0, _, Nat.zero_le _, rfl, rfl, by omega, by omega⟩
  case round =>
    obtain ⟨k, r, hk, rfl, rfl, hr0, hr1⟩ := hrel
    by_cases hlt : k < ss.length
    · obtain ⟨b, off, rfl, hc, hz⟩ := unhide HC k hlt
      unfold maxLen at hz
      by_cases hb : r < ss[k].size
      · go_wp2
        go_ret
        exact ⟨-1, rfl, by omega, by omega, by omega, rfl⟩
      · go_wp2
        go_round
        case rel => exact ⟨k + 1, _, by omega, by go_num, rfl, by omega, by omega⟩
        case measure => simp [intOf]; omega
    · go_wp2
      go_ret
      exact ⟨r, rfl, by omega, by omega, by omega, rfl⟩

set_option maxHeartbeats 800000 in
theorem szIo_any (x : Wr) (left : Int) (w : World) (hz : x.data.size ≤ maxLen) (h0 : 0 ≤ left) (h1 : left ≤ 1048576) :
    Calls Try.prog 51 #[.agg #[.int .i64 x.host, .int .i64 x.at_, .string x.data], .int .i64 left] w fun e w' => ∃ r : Int, e = .returned (.int .i64 r) ∧ -1 ≤ r ∧ r ≤ left ∧ Below w.heap.size w w' := by
  unfold maxLen at hz
  by_cases hb : left < x.data.size
  · go_enter Try.func51, Try.ntmps51
    go_wp2
    go_ret
    exact ⟨-1, rfl, by omega, by omega, (Below.refl _ _).alloc (Nat.le_refl _) _⟩
  · go_enter Try.func51, Try.ntmps51
    go_wp2
    go_ret
    exact ⟨_, rfl, by omega, by omega, (Below.refl _ _).alloc (Nat.le_refl _) _⟩

set_option maxHeartbeats 800000 in
theorem szIoS_any (ao : Option Addr) (cap : Nat) (xs : List Wr) (left : Int) (w : World) (hl : xs.length ≤ maxLen) (hc : Ios w ao xs) (h0 : 0 ≤ left) (h1 : left ≤ 1048576) :
    Calls Try.prog 27 #[.slice ao xs.length cap, .int .i64 left] w fun e w' => ∃ r : Int, e = .returned (.int .i64 r) ∧ -1 ≤ r ∧ r ≤ left ∧ (0 ≤ r → r + xs.length ≤ left) ∧ Below w.heap.size w w' := by
  have HC := hide hc
  clear hc
  unfold maxLen at hl
  by_cases hle : left < xs.length
  · go_enter Try.func27, Try.ntmps27
    go_wp2
    go_ret
    exact ⟨-1, rfl, by omega, by omega, by omega, Below.refl _ _⟩
  go_enter Try.func27, Try.ntmps27
  go_wp2
  go_loopw [1, 5] (fun l i wr => ∃ (k : Nat) (r : Int), k ≤ xs.length ∧ i = .int .i64 k ∧ l = .int .i64 r ∧ 0 ≤ r ∧ r + xs.length ≤ left ∧ Hid (Below w.heap.size w wr)) (fun _ i _ => xs.length - (intOf i).toNat)
  case atStart => exact ⟨0, _, Nat.zero_le _, rfl, rfl, by omega, by omega, hide (Below.refl _ _)⟩
  case round =>
    obtain ⟨k, r, hk, rfl, rfl, hr0, hr1, HB⟩ := hrel
    by_cases hlt : k < xs.length
    · obtain ⟨b, off, rfl, hc0, hc1, hc2, hz⟩ := (unhide HC).below (unhide HB) k hlt
      have HZ := hide hz
      clear hz
      go_wp2_with fail
      refine (szIo_any xs[k] r _ (unhide HZ) (by omega) (by omega)).mono ?_
      rintro e w2 ⟨q, rfl, hq0, hq1, hb2⟩
      have HB2 := hide ((unhide HB).trans (hb2.mono (unhide HB).size))
      clear hb2
      by_cases hb : q < 0
      · go_wp2
        go_ret
        exact ⟨-1, rfl, by omega, by omega, by omega, unhide HB2⟩
      · go_wp2
        go_roundw
        case rel => exact ⟨k + 1, _, by omega, by go_num, rfl, by omega, by omega, HB2⟩
        case measure => simp [intOf]; omega
    · go_wp2
      go_ret
      exact ⟨r, rfl, by omega, by omega, by omega, unhide HB⟩

set_option maxHeartbeats 800000 in
theorem szDisk_any (ao bo : Option Addr) (ca cb : Nat) (ss : List ByteArray) (xs : List Wr) (left : Int) (w : World) (hl : ss.length ≤ maxLen) (hm : xs.length ≤ maxLen) (hc : Ss w ao ss) (hd : Ios w bo xs) (h0 : 0 ≤ left) (h1 : left ≤ 1048576) :
    Calls Try.prog 9 #[.agg #[.slice ao ss.length ca, .slice bo xs.length cb], .int .i64 left] w fun e w' => ∃ r : Int, e = .returned (.int .i64 r) ∧ -1 ≤ r ∧ r ≤ left ∧ (0 ≤ r → r + ss.length + xs.length ≤ left) ∧ Below w.heap.size w w' := by
  have HC := hide hc
  have HD := hide hd
  have HL := hide hl
  have HM := hide hm
  clear hc hd hl hm
  have hb0 : ∀ o, Below w.heap.size w (w.alloc o) := fun o => (Below.refl _ _).alloc (Nat.le_refl _) o
  have HB0 := hide hb0
  clear hb0
  go_enter Try.func9, Try.ntmps9
  go_wp2_with fail
  refine (szStringS_any ao ca ss left _ (unhide HL) ((unhide HC).below (unhide HB0 _)) (by omega) (by omega)).mono ?_
  rintro e w1 ⟨r, rfl, hr0, hr1, hr2, rfl⟩
  by_cases hb : r < 0
  · go_wp2
    go_ret
    exact ⟨-1, rfl, by omega, by omega, by omega, unhide HB0 _⟩
  · have hr3 : r + ss.length ≤ left := hr2 (by omega)
    clear hr2
    go_wp2_with fail
    refine (szIoS_any bo cb xs r _ (unhide HM) ((unhide HD).below (unhide HB0 _)) (by omega) (by omega)).mono ?_
    rintro e w2 ⟨q, rfl, hq0, hq1, hq2, hb2⟩
    have HB2 := hide ((unhide HB0 _).trans (hb2.mono (unhide HB0 _).size))
    clear hb2
    by_cases hb' : q < 0
    · go_wp2
      go_ret
      exact ⟨-1, rfl, by omega, by omega, by omega, unhide HB2⟩
    · have hq3 : q + xs.length ≤ r := hq2 (by omega)
      clear hq2
      go_wp2
      go_ret
      exact ⟨q, rfl, by omega, by omega, by omega, unhide HB2⟩

set_option maxHeartbeats 800000 in
theorem toStringS_any (ao : Option Addr) (cap : Nat) (ss : List ByteArray) (w : World) (hl : ss.length ≤ 1048576) (hc : Ss w ao ss) :
    Calls Try.prog 30 #[.slice ao ss.length cap] w fun e w' => ∃ g, e = .returned (.slice (some ⟨g, 0, none⟩) ss.length ss.length) ∧ w'.ownsRow w.heap.size 9 1 (.slice (some ⟨g, 0, none⟩) ss.length ss.length) ss.length (strV ss) ∧ Below w.heap.size w w' := by
  have HC := hide hc
  clear hc
  obtain ⟨i0, hi, hz0, hz1, hz2⟩ := info_parts info9
  go_enter Try.func30, Try.ntmps30
  go_wp2_with (first | (at_make; refine wpList_make_full _ rfl _ _ 22 rfl w.heap.size 9 i0 _ 1 Try.underlying22 hi hz0 hz1 _ _ _ _ ss.length rfl rfl rfl rfl ?c1 ?c2 ?c3 ?_))
  case c1 => rw [hz2]; omega
  case c2 => unfold maxLen; omega
  case c3 => exact Nat.le_refl _
  intro w1 hown hgrow
  have hB : Below w.heap.size w w1 := (Below.refl _ _).grown hgrow (Nat.le_refl _) (fun _ h => by cases h)
  have HO := hide hown
  have HB := hide hB
  clear hown hB hgrow
  go_wp2
  go_loopw [4] (fun i wr => ∃ (k : Nat) (xs : List Value), k ≤ ss.length ∧ i = .int .i64 k ∧ Hid (xs.length = ss.length) ∧ Hid (xs.take k = (strV ss).take k) ∧ Hid (wr.ownsRow w.heap.size 9 1 (.slice (some ⟨w.heap.size, 0, none⟩) ss.length ss.length) ss.length xs) ∧ Hid (Below w.heap.size w wr)) (fun i _ => ss.length - (intOf i).toNat)
  case atStart => exact ⟨0, _, Nat.zero_le _, rfl, hide (by rw [(unhide HO).1]; omega), hide (by simp), HO, HB⟩
  case round =>
    obtain ⟨k, xs, hk, rfl, HL, HT, HO, HB⟩ := hrel
    by_cases hlt : k < ss.length
    · obtain ⟨b, off, rfl, hc, hz⟩ := (unhide HC).below (unhide HB) k hlt
      have hfr := (unhide HO).frozenAt k
      obtain ⟨x0, hcx⟩ : ∃ x, wr.cell? ⟨w.heap.size, k, none⟩ = some x := ⟨_, ((unhide HO).cellAt k (by omega)).trans (List.getElem?_eq_getElem (by rw [unhide HL]; exact hlt))⟩
      have HST := hide ((unhide HO).stored k (.string ss[k]))
      go_wp2
      go_roundw
      case rel =>
        refine ⟨k + 1, xs.set k (.string ss[k]), by omega, by go_num, hide (by rw [List.length_set]; exact unhide HL), hide ?_, hide (unhide HST).1, hide ?_⟩
        · exact set_take' (by rw [unhide HL, strV_length]) (strV_get hlt) (unhide HT)
        · exact (unhide HB).grown (unhide HST).2 (unhide HB).size (fun k h => by cases h; exact Nat.le_refl _)
      case measure => simp [intOf]; omega
    · go_wp2
      go_ret
      have hkn : k = ss.length := by omega
      subst hkn
      have hxs : xs = strV ss := by
        have := unhide HT
        rwa [List.take_of_length_le (by rw [unhide HL]; exact Nat.le_refl _), List.take_of_length_le (by simp [strV])] at this
      subst hxs
      exact ⟨_, rfl, unhide HO, unhide HB⟩

set_option maxHeartbeats 800000 in
theorem toIo_any (h a : Int) (d : ByteArray) (w : World) :
    Calls Try.prog 53 #[.agg #[.int .i64 h, .int .i64 a, .string d]] w fun e w' => e = .returned (.agg #[.int .i64 h, .int .i64 a, .string d]) ∧ Below w.heap.size w w' := by
  go_enter Try.func53, Try.ntmps53
  go_wp2
  exact bodyPost_ret (v := .agg #[.int .i64 h, .int .i64 a, .string d]) (by simp [results, Try.results53, go_sem]) rfl ⟨rfl, (((Below.refl _ _).alloc (Nat.le_refl _) _).alloc (by simp) _).alloc (by simp; omega) _⟩

set_option maxHeartbeats 800000 in
theorem toIoS_any (ao : Option Addr) (cap : Nat) (xs : List Wr) (w : World) (hl : xs.length ≤ 1048576) (hc : Ios w ao xs) :
    Calls Try.prog 31 #[.slice ao xs.length cap] w fun e w' => ∃ g, e = .returned (.slice (some ⟨g, 0, none⟩) xs.length xs.length) ∧ w'.ownsRow w.heap.size 55 3 (.slice (some ⟨g, 0, none⟩) xs.length xs.length) xs.length (ioV xs) ∧ Below w.heap.size w w' := by
  have HC := hide hc
  clear hc
  obtain ⟨i0, hi, hz0, hz1, hz2⟩ := info_parts infoIo
  go_enter Try.func31, Try.ntmps31
  go_wp2_with (first | (at_make; refine wpList_make_full _ rfl _ _ 29 rfl w.heap.size 55 i0 _ 3 Try.underlying29 hi hz0 hz1 _ _ _ _ xs.length rfl rfl rfl rfl ?c1 ?c2 ?c3 ?_))
  case c1 => rw [hz2]; omega
  case c2 => unfold maxLen; omega
  case c3 => exact Nat.le_refl _
  intro w1 hown hgrow
  have hB : Below w.heap.size w w1 := (Below.refl _ _).grown hgrow (Nat.le_refl _) (fun _ h => by cases h)
  have HO := hide hown
  have HB := hide hB
  clear hown hB hgrow
  go_wp2
  go_loopw [4] (fun i wr => ∃ (k : Nat) (ys : List Value), k ≤ xs.length ∧ i = .int .i64 k ∧ Hid (ys.length = xs.length * 3) ∧ Hid (ys.take (k * 3) = (ioV xs).take (k * 3)) ∧ Hid (wr.ownsRow w.heap.size 55 3 (.slice (some ⟨w.heap.size, 0, none⟩) xs.length xs.length) xs.length ys) ∧ Hid (Below w.heap.size w wr)) (fun i _ => xs.length - (intOf i).toNat)
  case atStart => exact ⟨0, _, Nat.zero_le _, rfl, hide (by rw [(unhide HO).1]), hide (by simp), HO, HB⟩
  case round =>
    obtain ⟨k, ys, hk, rfl, HL, HT, HO, HB⟩ := hrel
    by_cases hlt : k < xs.length
    · obtain ⟨b, off, rfl, hc0, hc1, hc2, hz⟩ := (unhide HC).below (unhide HB) k hlt
      clear hz
      go_wp2_with fail
      refine (toIo_any _ _ _ _).mono ?_
      rintro e w2 ⟨rfl, hb2⟩
      have HO2 := hide (own_below (unhide HO) hb2)
      have HB2 := hide ((unhide HB).trans (hb2.mono (unhide HB).size))
      clear hb2
      have hf0 := (unhide HO2).frozenAt (k * 3)
      have hf1 := (unhide HO2).frozenAt (k * 3 + 1)
      have hf2 := (unhide HO2).frozenAt (k * 3 + 2)
      obtain ⟨x0, hx0⟩ : ∃ x, w2.cell? ⟨w.heap.size, k * 3, none⟩ = some x := ⟨_, ((unhide HO2).cellAt (k * 3) (by omega)).trans (List.getElem?_eq_getElem (by rw [unhide HL]; omega))⟩
      obtain ⟨x1, hx1⟩ : ∃ x, w2.cell? ⟨w.heap.size, k * 3 + 1, none⟩ = some x := ⟨_, ((unhide HO2).cellAt (k * 3 + 1) (by omega)).trans (List.getElem?_eq_getElem (by rw [unhide HL]; omega))⟩
      obtain ⟨x2, hx2⟩ : ∃ x, w2.cell? ⟨w.heap.size, k * 3 + 2, none⟩ = some x := ⟨_, ((unhide HO2).cellAt (k * 3 + 2) (by omega)).trans (List.getElem?_eq_getElem (by rw [unhide HL]; omega))⟩
      have HST := hide (stored3 (unhide HO2) (k * 3) (k * 3 + 1) (k * 3 + 2) (.int .i64 xs[k].host) (.int .i64 xs[k].at_) (.string xs[k].data))
      have HBT := hide (below3 (unhide HB2) (Nat.le_refl _) (k * 3) (k * 3 + 1) (k * 3 + 2) (.int .i64 xs[k].host) (.int .i64 xs[k].at_) (.string xs[k].data))
      go_wp2
      go_roundw
      case rel => exact ⟨k + 1, _, by omega, by go_num, hide (by rw [List.length_set, List.length_set, List.length_set]; exact unhide HL), hide (io_take hlt (unhide HL) (unhide HT)), HST, HBT⟩
      case measure => simp [intOf]; omega
    · go_wp2
      go_ret
      have hkn : k = xs.length := by omega
      subst hkn
      have hxs : ys = ioV xs := by
        have := unhide HT
        rwa [List.take_of_length_le (by rw [unhide HL]; exact Nat.le_refl _), List.take_of_length_le (by rw [ioV_length]; exact Nat.le_refl _)] at this
      subst hxs
      exact ⟨_, rfl, unhide HO, unhide HB⟩

set_option maxHeartbeats 800000 in
theorem toDisk_any (ao bo : Option Addr) (ca cb : Nat) (ss : List ByteArray) (xs : List Wr) (w : World) (hl : ss.length ≤ 1048576) (hm : xs.length ≤ 1048576) (hc : Ss w ao ss) (hd : Ios w bo xs) :
    Calls Try.prog 11 #[.agg #[.slice ao ss.length ca, .slice bo xs.length cb]] w fun e w' => ∃ g k, e = .returned (.agg #[.slice (some ⟨g, 0, none⟩) ss.length ss.length, .slice (some ⟨k, 0, none⟩) xs.length xs.length]) ∧
      w'.ownsRow w.heap.size 9 1 (.slice (some ⟨g, 0, none⟩) ss.length ss.length) ss.length (strV ss) ∧ w'.ownsRow w.heap.size 55 3 (.slice (some ⟨k, 0, none⟩) xs.length xs.length) xs.length (ioV xs) ∧ Below w.heap.size w w' := by
  have HC := hide hc
  have HD := hide hd
  clear hc hd
  go_enter Try.func11, Try.ntmps11
  have HA := hide (Joins.below_alloc3 w (.cells #[.slice ao ss.length ca, .slice bo xs.length cb] 25) (.cells #[.slice none 0 0, .slice none 0 0] 31) (.cells #[.slice none 0 0, .slice none 0 0] 31))
  go_wp2_with fail
  refine (toStringS_any ao ca ss _ hl ((unhide HC).below (unhide HA))).mono ?_
  rintro e w1 ⟨g, rfl, ho1, hb1⟩
  have hz1 : w.heap.size + 1 + 1 < w1.heap.size := by have := hb1.size; simp at this; omega
  have hc0 : w1.cell? ⟨w.heap.size, 1, none⟩ = some (.slice bo xs.length cb) := (hb1.cell (by simp; omega)).trans (by simp [go_sem])
  have hc1 : w1.cell? ⟨w.heap.size + 1 + 1, 0, none⟩ = some (.slice none 0 0) := (hb1.cell (by simp)).trans (by simp [go_sem])
  have hc2 : w1.cell? ⟨w.heap.size + 1 + 1, 1, none⟩ = some (.slice none 0 0) := (hb1.cell (by simp)).trans (by simp [go_sem])
  have hc3 : w1.cell? ⟨w.heap.size + 1, 0, none⟩ = some (.slice none 0 0) := (hb1.cell (by simp)).trans (by simp [go_sem])
  have hc4 : w1.cell? ⟨w.heap.size + 1, 1, none⟩ = some (.slice none 0 0) := (hb1.cell (by simp)).trans (by simp [go_sem])
  have hf0 : w1.frozen? ⟨w.heap.size + 1 + 1, 0, none⟩ = false := (hb1.frozen (by simp)).trans (by simp [go_sem])
  have hf1 : w1.frozen? ⟨w.heap.size + 1 + 1, 1, none⟩ = false := (hb1.frozen (by simp)).trans (by simp [go_sem])
  have hf2 : w1.frozen? ⟨w.heap.size + 1, 0, none⟩ = false := (hb1.frozen (by simp)).trans (by simp [go_sem])
  have hf3 : w1.frozen? ⟨w.heap.size + 1, 1, none⟩ = false := (hb1.frozen (by simp)).trans (by simp [go_sem])
  have HO1 := hide ho1
  have HB1 := hide hb1
  clear ho1 hb1
  have HBW := hide (((unhide HA).trans ((unhide HB1).mono (by simp; omega))).setCell (p := ⟨w.heap.size + 1 + 1, 0, none⟩) (by simp; omega) (.slice (some ⟨g, 0, none⟩) ss.length ss.length))
  have HO1' := hide (ownsRow_setCell_below (unhide HO1) (a := ⟨w.heap.size + 1 + 1, 0, none⟩) (by simp) (.slice (some ⟨g, 0, none⟩) ss.length ss.length))
  go_wp2_with fail
  refine (toIoS_any bo cb xs _ hm ((unhide HD).below (unhide HBW))).mono ?_
  rintro e w2 ⟨k, rfl, ho2, hb2⟩
  have hz2 : w.heap.size + 1 + 1 < w2.heap.size := by have := hb2.size; simp at this; omega
  have hd1 : w2.cell? ⟨w.heap.size + 1 + 1, 0, none⟩ = some (.slice (some ⟨g, 0, none⟩) ss.length ss.length) := (hb2.cell (by simp; omega)).trans (by simp [go_sem, hc1])
  have hd2 : w2.cell? ⟨w.heap.size + 1 + 1, 1, none⟩ = some (.slice none 0 0) := (hb2.cell (by simp; omega)).trans (by simp [go_sem, hc2])
  have hd3 : w2.cell? ⟨w.heap.size + 1, 0, none⟩ = some (.slice none 0 0) := (hb2.cell (by simp; omega)).trans (by simp [go_sem, hc3])
  have hd4 : w2.cell? ⟨w.heap.size + 1, 1, none⟩ = some (.slice none 0 0) := (hb2.cell (by simp; omega)).trans (by simp [go_sem, hc4])
  have hg1 : w2.frozen? ⟨w.heap.size + 1 + 1, 1, none⟩ = false := (hb2.frozen (by simp; omega)).trans (by simp [go_sem, hf1])
  have hg2 : w2.frozen? ⟨w.heap.size + 1, 0, none⟩ = false := (hb2.frozen (by simp; omega)).trans (by simp [go_sem, hf2])
  have hg3 : w2.frozen? ⟨w.heap.size + 1, 1, none⟩ = false := (hb2.frozen (by simp; omega)).trans (by simp [go_sem, hf3])
  have HOA := hide (own_below (unhide HO1') hb2)
  have HOB := hide ho2
  have HBA := hide ((unhide HBW).trans (hb2.mono (by simp; omega)))
  clear ho2 hb2 hc0 hc1 hc2 hc3 hc4 hf0 hf1 hf2 hf3
  have hz3 : w.heap.size ≤ w.heap.size + 1 + 1 := by omega
  have HOC := hide (own_base (ownsRow_setCell_below (ownsRow_setCell_below (ownsRow_setCell_below (unhide HOA) (a := ⟨w.heap.size + 1 + 1, 1, none⟩) (by simp) (.slice (some ⟨k, 0, none⟩) xs.length xs.length)) (a := ⟨w.heap.size + 1, 0, none⟩) (by simp) (.slice (some ⟨g, 0, none⟩) ss.length ss.length)) (a := ⟨w.heap.size + 1, 1, none⟩) (by simp) (.slice (some ⟨k, 0, none⟩) xs.length xs.length)) (B' := w.heap.size) (by simp; omega))
  have HOD := hide (own_base (ownsRow_setCell_below (ownsRow_setCell_below (ownsRow_setCell_below (unhide HOB) (a := ⟨w.heap.size + 1 + 1, 1, none⟩) (by simp; omega) (.slice (some ⟨k, 0, none⟩) xs.length xs.length)) (a := ⟨w.heap.size + 1, 0, none⟩) (by simp; omega) (.slice (some ⟨g, 0, none⟩) ss.length ss.length)) (a := ⟨w.heap.size + 1, 1, none⟩) (by simp; omega) (.slice (some ⟨k, 0, none⟩) xs.length xs.length)) (B' := w.heap.size) (by simp; omega))
  have HBC := hide ((((unhide HBA).setCell (p := ⟨w.heap.size + 1 + 1, 1, none⟩) (by simp; omega) (.slice (some ⟨k, 0, none⟩) xs.length xs.length)).setCell (p := ⟨w.heap.size + 1, 0, none⟩) (by simp) (.slice (some ⟨g, 0, none⟩) ss.length ss.length)).setCell (p := ⟨w.heap.size + 1, 1, none⟩) (by simp) (.slice (some ⟨k, 0, none⟩) xs.length xs.length))
  go_wp2
  exact bodyPost_ret (v := .agg #[.slice (some ⟨g, 0, none⟩) ss.length ss.length, .slice (some ⟨k, 0, none⟩) xs.length xs.length]) (by simp [results, Try.results11, go_sem, hd3, hd4]) rfl ⟨g, k, rfl, unhide HOC, unhide HOD, unhide HBC⟩

end Go.Proofs.Ytoiclgeeaednnac
