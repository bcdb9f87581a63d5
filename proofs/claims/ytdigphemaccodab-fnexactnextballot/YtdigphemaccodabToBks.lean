/- Contracts of the laws' own hands on lists of blocks: toBlockS, eqBlockS, szBlockS, markBlockS, heldBlockS. -/
import Derived.Test.YtdigphemaccodabRows
import Derived.Test.YtdigphemaccodabGen
import Derived.Test.YtdigphemaccodabKeep
import Derived.Test.YtdigphemaccodabInts
import Derived.Test.YtdigphemaccodabBlkP
import Derived.Test.YtdigphemaccodabPxP
import Derived.Test.YtdigphemaccodabToBlk
import Derived.WalkKit
import Derived.WalkSpells
import Derived.BigQuiet
import Derived.Deep.QuietTactic
import Derived.Deep.RegionWith
import Derived.LoopN
namespace Go.Proofs.Ytdigphemaccodab
open Go.RowKit
set_option linter.unusedVariables false
set_option maxRecDepth 100000

theorem infoT : (Try.prog.info? 55).map (fun i => (i.zero, i.size, i.bytes)) = some (some (.agg #[.int .i64 0, .int .i64 0, .int .i64 0, .int .i64 0]), 4, 32) := by kernel_rfl
theorem stored4 {w : World} {B e size g n cap : Nat} {xs : List Value} (h : w.ownsRow B e size (.slice (some ⟨g, 0, none⟩) n cap) n xs) (i j k l : Nat) (u v x y : Value) :
    ((((w.setCell ⟨g, i, none⟩ u).setCell ⟨g, j, none⟩ v).setCell ⟨g, k, none⟩ x).setCell ⟨g, l, none⟩ y).ownsRow B e size (.slice (some ⟨g, 0, none⟩) n cap) n ((((xs.set i u).set j v).set k x).set l y) :=
  ((stored3 h i j k u v x).stored l y).1
theorem bks_take {ys : List Value} {xs : List Bk} {k : Nat} (hk : k < xs.length) (hl : ys.length = xs.length * 4) (h : ys.take (k * 4) = (bksV xs).take (k * 4)) :
    ((((ys.set (k * 4) (.int .i64 xs[k].ver)).set (k * 4 + 1) (.int .i64 xs[k].mbal)).set (k * 4 + 2) (.int .i64 xs[k].bal)).set (k * 4 + 3) (.int .i64 xs[k].inp)).take ((k + 1) * 4) = (bksV xs).take ((k + 1) * 4) := by
  obtain ⟨h0, h1, h2, h3⟩ := bksV_get hk
  have e0 := set_take' (by rw [hl, bksV_length]) h0 h
  have e1 := set_take' (by rw [List.length_set, hl, bksV_length]) h1 e0
  have e2 := set_take' (by rw [List.length_set, List.length_set, hl, bksV_length]) h2 e1
  have e3 := set_take' (by rw [List.length_set, List.length_set, List.length_set, hl, bksV_length]) h3 e2
  rw [show (k + 1) * 4 = k * 4 + 3 + 1 by omega]
  exact e3

set_option maxHeartbeats 1600000 in
theorem toBlockS_any (ao : Option Addr) (cap : Nat) (xs : List Bk) (w : World) (hl : xs.length ≤ 1048576) (hc : Bks w ao xs) :
    Calls Try.prog 16 #[.slice ao xs.length cap] w fun e w' => ∃ g, e = .returned (.slice (some ⟨g, 0, none⟩) xs.length xs.length) ∧ w'.ownsRow w.heap.size 55 4 (.slice (some ⟨g, 0, none⟩) xs.length xs.length) xs.length (bksV xs) ∧ Below w.heap.size w w' := by
  have HC := hide hc
  clear hc
  obtain ⟨i0, hi, hz0, hz1, hz2⟩ := info_parts infoT
  go_enter Try.func16, Try.ntmps16
  go_wp2_with (first | (at_make; refine wpList_make_full _ rfl _ _ 34 rfl w.heap.size 55 i0 _ 4 Try.underlying34 hi hz0 hz1 _ _ _ _ xs.length rfl rfl rfl rfl ?c1 ?c2 ?c3 ?_))
  case c1 => rw [hz2]; omega
  case c2 => unfold maxLen; omega
  case c3 => exact Nat.le_refl _
  intro w1 hown hgrow
  have hB : Below w.heap.size w w1 := (Below.refl _ _).grown hgrow (Nat.le_refl _) (fun _ h => by cases h)
  have HO := hide hown
  have HB := hide hB
  clear hown hB hgrow
  go_wp2
  go_loopw [4] (fun i wr => ∃ (k : Nat) (ys : List Value), k ≤ xs.length ∧ i = .int .i64 k ∧ Hid (ys.length = xs.length * 4) ∧ Hid (ys.take (k * 4) = (bksV xs).take (k * 4)) ∧ Hid (wr.ownsRow w.heap.size 55 4 (.slice (some ⟨w.heap.size, 0, none⟩) xs.length xs.length) xs.length ys) ∧ Hid (Below w.heap.size w wr)) (fun i _ => xs.length - (intOf i).toNat)
  case atStart => exact ⟨0, _, Nat.zero_le _, rfl, hide (by rw [(unhide HO).1]), hide (by simp), HO, HB⟩
  case round =>
    obtain ⟨k, ys, hk, rfl, HL, HT, HO, HB⟩ := hrel
    by_cases hlt : k < xs.length
    · obtain ⟨b, off, rfl, hc0, hc1, hc2, hc3⟩ := (unhide HC).below (unhide HB) k hlt
      go_wp2_with fail
      refine (toBlock_any xs[k] _).mono ?_
      rintro e w2 ⟨rfl, hb2⟩
      have HO2 := hide (own_below (unhide HO) hb2)
      have HB2 := hide ((unhide HB).trans (hb2.mono (unhide HB).size))
      clear hb2
      have hf0 := (unhide HO2).frozenAt (k * 4)
      have hf1 := (unhide HO2).frozenAt (k * 4 + 1)
      have hf2 := (unhide HO2).frozenAt (k * 4 + 2)
      have hf3 := (unhide HO2).frozenAt (k * 4 + 3)
      obtain ⟨x0, hx0⟩ : ∃ x, w2.cell? ⟨w.heap.size, k * 4, none⟩ = some x := ⟨_, ((unhide HO2).cellAt (k * 4) (by omega)).trans (List.getElem?_eq_getElem (by rw [unhide HL]; omega))⟩
      obtain ⟨x1, hx1⟩ : ∃ x, w2.cell? ⟨w.heap.size, k * 4 + 1, none⟩ = some x := ⟨_, ((unhide HO2).cellAt (k * 4 + 1) (by omega)).trans (List.getElem?_eq_getElem (by rw [unhide HL]; omega))⟩
      obtain ⟨x2, hx2⟩ : ∃ x, w2.cell? ⟨w.heap.size, k * 4 + 2, none⟩ = some x := ⟨_, ((unhide HO2).cellAt (k * 4 + 2) (by omega)).trans (List.getElem?_eq_getElem (by rw [unhide HL]; omega))⟩
      obtain ⟨x3, hx3⟩ : ∃ x, w2.cell? ⟨w.heap.size, k * 4 + 3, none⟩ = some x := ⟨_, ((unhide HO2).cellAt (k * 4 + 3) (by omega)).trans (List.getElem?_eq_getElem (by rw [unhide HL]; omega))⟩
      have HST := hide (stored4 (unhide HO2) (k * 4) (k * 4 + 1) (k * 4 + 2) (k * 4 + 3) (.int .i64 xs[k].ver) (.int .i64 xs[k].mbal) (.int .i64 xs[k].bal) (.int .i64 xs[k].inp))
      have HBT := hide (below4 (unhide HB2) (Nat.le_refl _) (k * 4) (k * 4 + 1) (k * 4 + 2) (k * 4 + 3) (.int .i64 xs[k].ver) (.int .i64 xs[k].mbal) (.int .i64 xs[k].bal) (.int .i64 xs[k].inp))
      go_wp2
      go_roundw
      case rel => exact ⟨k + 1, _, by omega, by go_num, hide (by rw [List.length_set, List.length_set, List.length_set, List.length_set]; exact unhide HL), hide (bks_take hlt (unhide HL) (unhide HT)), HST, HBT⟩
      case measure => simp [intOf]; omega
    · go_wp2
      go_ret
      have hkn : k = xs.length := by omega
      subst hkn
      have hxs : ys = bksV xs := by
        have := unhide HT
        rwa [List.take_of_length_le (by rw [unhide HL]; exact Nat.le_refl _), List.take_of_length_le (by rw [bksV_length]; exact Nat.le_refl _)] at this
      subst hxs
      exact ⟨_, rfl, unhide HO, unhide HB⟩

set_option maxHeartbeats 1600000 in
theorem eqBlockS_same (ao bo : Option Addr) (ca cb : Nat) (xs : List Bk) (w : World) (hl : xs.length ≤ 1048576) (hc : Bks w ao xs) (hd : Bks w bo xs) :
    Calls Try.prog 18 #[.slice ao xs.length ca, .slice bo xs.length cb] w fun e w' => e = .returned (.bool true) ∧ Below w.heap.size w w' := by
  have HC := hide hc
  have HD := hide hd
  clear hc hd
  go_enter Try.func18, Try.ntmps18
  go_wp2
  go_loopw [5] (fun i wr => ∃ k : Nat, k ≤ xs.length ∧ i = .int .i64 k ∧ Hid (Below w.heap.size w wr)) (fun i _ => xs.length - (intOf i).toNat)
  case atStart => exact ⟨0, Nat.zero_le _, rfl, hide (Below.refl _ _)⟩
  case round =>
    obtain ⟨k, hk, rfl, HB⟩ := hrel
    by_cases hlt : k < xs.length
    · obtain ⟨b, off, rfl, hc0, hc1, hc2, hc3⟩ := (unhide HC).below (unhide HB) k hlt
      obtain ⟨b', off', rfl, hd0, hd1, hd2, hd3⟩ := (unhide HD).below (unhide HB) k hlt
      go_wp2
      go_region_with (go_at_call 43; refine (eqBlock_same _ _).mono ?_; rintro e w2 ⟨rfl, hb2⟩)
      all_goals
        have HB2 : Hid (Below w.heap.size w w2) := hide (Below.trans (by repeat (first | exact unhide HB | apply Below.drew)) (hb2.mono (unhide HB).size))
        clear hb2
        go_wp2
        go_roundw
        case rel => exact ⟨k + 1, by omega, by go_num, HB2⟩
        case measure => simp [intOf]; omega
    · go_wp2
      go_ret
      exact ⟨rfl, unhide HB⟩

set_option maxHeartbeats 1600000 in
theorem szBlockS_any (ao : Option Addr) (n cap : Nat) (left : Int) (w : World) (h1 : left = 1048576) (hl : n ≤ 9223372036854775807) :
    Calls Try.prog 14 #[.slice ao n cap, .int .i64 left] w fun e w' => e = .returned (.int .i64 (if n ≤ 1048576 then 1048576 - n else -1)) ∧ Below w.heap.size w w' := by
  subst h1
  have wr1 : IntKind.i64.wrap (1048576 - (n : Int)) = 1048576 - (n : Int) := by rw [IntKind.wrap_i64]; omega
  by_cases h : n ≤ 1048576
  · have hb : ¬ (1048576 - (n : Int) < 0) := by omega
    rw [if_pos h]
    clear h
    go_enter Try.func14, Try.ntmps14
    go_wp2
    go_ret
    exact ⟨rfl, Below.refl _ _⟩
  · have hb : (1048576 - (n : Int) < 0) := by omega
    rw [if_neg h]
    clear h
    go_enter Try.func14, Try.ntmps14
    go_wp2
    go_ret
    exact ⟨rfl, Below.refl _ _⟩

/-- The marks of a row of blocks. -/
def mkB (k n : Nat) : List Bk := (List.range n).map fun i => ⟨((k + i * 4 : Nat) : Int), ((k + i * 4 + 1 : Nat) : Int), ((k + i * 4 + 2 : Nat) : Int), ((k + i * 4 + 3 : Nat) : Int)⟩
theorem mkB_length (k n : Nat) : (mkB k n).length = n := by simp [mkB]
theorem mkB_at {k n j : Nat} (h : j < (mkB k n).length) : (mkB k n)[j] = ⟨((k + j * 4 : Nat) : Int), ((k + j * 4 + 1 : Nat) : Int), ((k + j * 4 + 2 : Nat) : Int), ((k + j * 4 + 3 : Nat) : Int)⟩ := by simp [mkB]

set_option maxHeartbeats 1600000 in
theorem markBlockS_any (v : Value) (n k : Nat) (xs : List Value) (B : Nat) (w : World) (hn : n ≤ 4194304) (hk0 : 0 < k) (hk1 : k ≤ 268435456) (ho : OwnR w B 55 4 v n xs) :
    Calls Try.prog 19 #[v, .int .i64 k] w fun e w' => e = .returned (.int .i64 ((k + n * 4 : Nat) : Int)) ∧ OwnR w' B 55 4 v n (bksV (mkB k n)) ∧ Keep (Own v) w w' := by
  rcases ho with ⟨rfl, rfl, ao, rfl⟩ | ⟨hpos, ho'⟩
  · go_enter Try.func19, Try.ntmps19
    go_wp2
    refine wp_loop_rounds 1 ?_
    rw [rounds_succ]
    go_wp2
    go_ret
    refine ⟨ret_int (by simp), .inl ⟨rfl, rfl, ao, rfl⟩, Keep.refl _ _⟩
  · obtain ⟨g, cap, cur, rfl, _, _⟩ := own_form hpos ho'
    have HO := hide ho'
    clear ho'
    go_enter Try.func19, Try.ntmps19
    go_wp2
    go_loopw [1, 5] (fun kk i wr => ∃ (j : Nat) (ys : List Value), j ≤ n ∧ i = .int .i64 j ∧ kk = .int .i64 ((k + j * 4 : Nat) : Int) ∧ Hid (ys.length = n * 4) ∧ Hid (ys.take (j * 4) = (bksV (mkB k n)).take (j * 4)) ∧ Hid (wr.ownsRow B 55 4 (.slice (some ⟨g, 0, none⟩) n cap) n ys) ∧ Hid (Keep (Own (.slice (some ⟨g, 0, none⟩) n cap)) w wr)) (fun _ i _ => n - (intOf i).toNat)
    case atStart => exact ⟨0, xs, Nat.zero_le _, rfl, by simp, hide (by rw [(unhide HO).1]), hide (by simp), HO, hide (Keep.refl _ _)⟩
    case round =>
      obtain ⟨j, ys, hj, rfl, rfl, HL, HT, HO, HK⟩ := hrel
      by_cases hlt : j < n
      · have hf := fun i => (unhide HO).frozenAt i
        have hf0 := hf (j * 4)
        have hf1 := hf (j * 4 + 1)
        have hf2 := hf (j * 4 + 2)
        have hf3 := hf (j * 4 + 3)
        clear hf
        obtain ⟨x0, hx0⟩ : ∃ x, wr.cell? ⟨g, j * 4, none⟩ = some x := ⟨_, ((unhide HO).cellAt (j * 4) (by omega)).trans (List.getElem?_eq_getElem (by rw [unhide HL]; omega))⟩
        obtain ⟨x1, hx1⟩ : ∃ x, wr.cell? ⟨g, j * 4 + 1, none⟩ = some x := ⟨_, ((unhide HO).cellAt (j * 4 + 1) (by omega)).trans (List.getElem?_eq_getElem (by rw [unhide HL]; omega))⟩
        obtain ⟨x2, hx2⟩ : ∃ x, wr.cell? ⟨g, j * 4 + 2, none⟩ = some x := ⟨_, ((unhide HO).cellAt (j * 4 + 2) (by omega)).trans (List.getElem?_eq_getElem (by rw [unhide HL]; omega))⟩
        obtain ⟨x3, hx3⟩ : ∃ x, wr.cell? ⟨g, j * 4 + 3, none⟩ = some x := ⟨_, ((unhide HO).cellAt (j * 4 + 3) (by omega)).trans (List.getElem?_eq_getElem (by rw [unhide HL]; omega))⟩
        have HST := hide (stored4 (unhide HO) (j * 4) (j * 4 + 1) (j * 4 + 2) (j * 4 + 3) (.int .i64 ((k + j * 4 : Nat) : Int)) (.int .i64 ((k + j * 4 + 1 : Nat) : Int)) (.int .i64 ((k + j * 4 + 2 : Nat) : Int)) (.int .i64 ((k + j * 4 + 3 : Nat) : Int)))
        have HKS := hide (((((unhide HK).setCell (p := ⟨g, j * 4, none⟩) (own_of hpos rfl) (.int .i64 ((k + j * 4 : Nat) : Int))).setCell (p := ⟨g, j * 4 + 1, none⟩) (own_of hpos rfl) (.int .i64 ((k + j * 4 + 1 : Nat) : Int))).setCell (p := ⟨g, j * 4 + 2, none⟩) (own_of hpos rfl) (.int .i64 ((k + j * 4 + 2 : Nat) : Int))).setCell (p := ⟨g, j * 4 + 3, none⟩) (own_of hpos rfl) (.int .i64 ((k + j * 4 + 3 : Nat) : Int)))
        have HTT := hide (bks_take (xs := mkB k n) (k := j) (by rw [mkB_length]; exact hlt) (by rw [mkB_length]; exact unhide HL) (unhide HT))
        rw [mkB_at] at HTT
        go_wp2
        go_roundw
        case rel => exact ⟨j + 1, _, by omega, by go_num, by go_num, hide (by rw [List.length_set, List.length_set, List.length_set, List.length_set]; exact unhide HL), HTT, HST, HKS⟩
        case measure => simp [intOf]; omega
      · go_wp2
        go_ret
        have hjn : j = n := by omega
        subst hjn
        have hxs : ys = bksV (mkB k j) := by
          have := unhide HT
          rwa [List.take_of_length_le (by rw [unhide HL]; exact Nat.le_refl _), List.take_of_length_le (by rw [bksV_length, mkB_length]; exact Nat.le_refl _)] at this
        subst hxs
        exact ⟨rfl, .inr ⟨hpos, unhide HO⟩, unhide HK⟩

set_option maxHeartbeats 1600000 in
theorem heldBlockS_any (v : Value) (n k : Nat) (B : Nat) (w : World) (hn : n ≤ 4194304) (hk0 : 0 < k) (hk1 : k ≤ 268435456) (ho : OwnR w B 55 4 v n (bksV (mkB k n))) :
    Calls Try.prog 20 #[v, .int .i64 k] w fun e w' => e = .returned (.int .i64 ((k + n * 4 : Nat) : Int)) ∧ Below w.heap.size w w' := by
  rcases ho with ⟨rfl, _, ao, rfl⟩ | ⟨hpos, ho'⟩
  · go_enter Try.func20, Try.ntmps20
    go_wp2
    refine wp_loop_rounds 1 ?_
    rw [rounds_succ]
    go_wp2
    go_ret
    exact ⟨ret_int (by simp), Below.refl _ _⟩
  · obtain ⟨g, cap, cur, rfl, _, _⟩ := own_form hpos ho'
    have HO := hide ho'
    clear ho'
    go_enter Try.func20, Try.ntmps20
    go_wp2
    go_loopw [1, 5] (fun kk i wr => ∃ (j : Nat), j ≤ n ∧ i = .int .i64 j ∧ kk = .int .i64 ((k + j * 4 : Nat) : Int) ∧ Hid (Below w.heap.size w wr)) (fun _ i _ => n - (intOf i).toNat)
    case atStart => exact ⟨0, Nat.zero_le _, rfl, by simp, hide (Below.refl _ _)⟩
    case round =>
      obtain ⟨j, hj, rfl, rfl, HB⟩ := hrel
      by_cases hlt : j < n
      · obtain ⟨q0, q1, q2, q3⟩ := bksV_get (xs := mkB k n) (i := j) (by rw [mkB_length]; exact hlt)
        rw [mkB_at] at q0 q1 q2 q3
        have hx0 : wr.cell? ⟨g, j * 4, none⟩ = some (.int .i64 ((k + j * 4 : Nat) : Int)) := ((own_below (unhide HO) (unhide HB)).cellAt (j * 4) (by omega)).trans q0
        have hx1 : wr.cell? ⟨g, j * 4 + 1, none⟩ = some (.int .i64 ((k + j * 4 + 1 : Nat) : Int)) := ((own_below (unhide HO) (unhide HB)).cellAt (j * 4 + 1) (by omega)).trans q1
        have hx2 : wr.cell? ⟨g, j * 4 + 2, none⟩ = some (.int .i64 ((k + j * 4 + 2 : Nat) : Int)) := ((own_below (unhide HO) (unhide HB)).cellAt (j * 4 + 2) (by omega)).trans q2
        have hx3 : wr.cell? ⟨g, j * 4 + 3, none⟩ = some (.int .i64 ((k + j * 4 + 3 : Nat) : Int)) := ((own_below (unhide HO) (unhide HB)).cellAt (j * 4 + 3) (by omega)).trans q3
        clear q0 q1 q2 q3
        go_wp2
        go_roundw
        case rel => exact ⟨j + 1, by omega, by go_num, by go_num, HB⟩
        case measure => simp [intOf]; omega
      · go_wp2
        go_ret
        have hjn : j = n := by omega
        subst hjn
        exact ⟨rfl, unhide HB⟩

end Go.Proofs.Ytdigphemaccodab
