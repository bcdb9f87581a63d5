/- Contracts of the laws' comparisons of disks (eqDisk). -/
import Derived.Test.YtoiclgeeaednnacRows
import Derived.Test.YtoiclgeeaednnacGen
import Derived.WalkKit
import Derived.WalkSpells
import Derived.BigQuiet
import Derived.Deep.QuietTactic
import Derived.Deep.RegionWith
namespace Go.Proofs.Ytoiclgeeaednnac
open Go.RowKit
set_option linter.unusedVariables false
set_option maxRecDepth 100000

theorem wr_ext {x y : Wr} (h : x.host = y.host ∧ x.at_ = y.at_ ∧ x.data = y.data) : x = y := by cases x; cases y; simp_all

set_option maxHeartbeats 800000 in
theorem eqIo_any (x y : Wr) (w : World) :
    Calls Try.prog 55 #[.agg #[.int .i64 x.host, .int .i64 x.at_, .string x.data], .agg #[.int .i64 y.host, .int .i64 y.at_, .string y.data]] w fun e w' => e = .returned (.bool (wrB x y)) ∧ Below w.heap.size w w' := by
  by_cases h0 : x.host = y.host
  · have b0 : (x.host != y.host) = false := by simp [h0]
    by_cases h1 : x.at_ = y.at_
    · have b1 : (x.at_ != y.at_) = false := by simp [h1]
      by_cases h2 : x.data = y.data
      · have H := hide (wrB_true h0 h1 h2)
        have b2 : (x.data.toList == y.data.toList) = true := by simp [h2]
        clear h0 h1 h2
        go_enter Try.func55, Try.ntmps55
        go_wp2
        go_ret
        exact ⟨ret_bool (unhide H).symm, ((Below.refl _ _).alloc (Nat.le_refl _) _).alloc (by simp) _⟩
      · have H := hide (wrB_false (x := x) (y := y) (fun h => h2 h.2.2))
        have b2 : (x.data.toList == y.data.toList) = false := str_beq_false h2
        clear h0 h1 h2
        go_enter Try.func55, Try.ntmps55
        go_wp2
        go_ret
        exact ⟨ret_bool (unhide H).symm, ((Below.refl _ _).alloc (Nat.le_refl _) _).alloc (by simp) _⟩
    · have H := hide (wrB_false (x := x) (y := y) (fun h => h1 h.2.1))
      have b1 : (x.at_ != y.at_) = true := by simp [h1]
      clear h0 h1
      go_enter Try.func55, Try.ntmps55
      go_wp2
      go_ret
      exact ⟨ret_bool (unhide H).symm, ((Below.refl _ _).alloc (Nat.le_refl _) _).alloc (by simp) _⟩
  · have H := hide (wrB_false (x := x) (y := y) (fun h => h0 h.1))
    have b0 : (x.host != y.host) = true := by simp [h0]
    clear h0
    go_enter Try.func55, Try.ntmps55
    go_wp2
    go_ret
    exact ⟨ret_bool (unhide H).symm, ((Below.refl _ _).alloc (Nat.le_refl _) _).alloc (by simp) _⟩

set_option maxHeartbeats 800000 in
theorem eqStringS_any (ao bo : Option Addr) (ca cb : Nat) (ss tt : List ByteArray) (w : World) (hl : ss.length ≤ maxLen) (hc : Ss w ao ss) (hd : Ss w bo tt) :
    Calls Try.prog 34 #[.slice ao ss.length ca, .slice bo tt.length cb] w fun e w' => e = .returned (.bool (eqSB ss tt)) ∧ Below w.heap.size w w' := by
  have HC := hide hc
  have HD := hide hd
  clear hc hd
  unfold maxLen at hl
  by_cases hle : ss.length = tt.length
  · have hb : ((ss.length : Int) != (tt.length : Int)) = false := by simp [hle]
    have HLE := hide hle
    clear hle
    go_enter Try.func34, Try.ntmps34
    go_wp2
    go_loopw [5] (fun i wr => ∃ k : Nat, k ≤ ss.length ∧ i = .int .i64 k ∧ Hid (∀ j (h : j < ss.length) (h' : j < tt.length), j < k → ss[j] = tt[j]) ∧ Hid (Below w.heap.size w wr)) (fun i _ => ss.length - (intOf i).toNat)
    case atStart => exact ⟨0, Nat.zero_le _, rfl, hide (fun j _ _ h => by omega), hide (Below.refl _ _)⟩
    case round =>
      obtain ⟨k, hk, rfl, HA, HB⟩ := hrel
      by_cases hlt : k < ss.length
      · have hlt' : k < tt.length := by rw [← unhide HLE]; exact hlt
        obtain ⟨b, off, rfl, hc, hz⟩ := (unhide HC).below (unhide HB) k hlt
        obtain ⟨b', off', rfl, hc', hz'⟩ := (unhide HD).below (unhide HB) k hlt'
        clear hz hz'
        by_cases he : ss[k] = tt[k]
        · have HN := hide (eq_succ hlt hlt' (unhide HA) he)
          have be : (ss[k].toList == tt[k].toList) = true := by simp [he]
          clear he
          go_wp2
          go_quiet (fail)
          go_wp2
          go_roundw
          case rel => exact ⟨k + 1, by omega, by go_num, HN, hide ((unhide HB).trans (Joins.below_draws _ _ _))⟩
          case measure => simp [intOf]; omega
        · have H := hide (eqSB_false hlt hlt' he)
          have be : (ss[k].toList == tt[k].toList) = false := str_beq_false he
          clear he
          go_wp2
          go_quiet (fail)
          go_wp2
          go_ret
          exact ⟨ret_bool (unhide H).symm, (unhide HB).trans (Joins.below_draws _ _ _)⟩
      · have H := hide (eqSB_true (unhide HLE) (fun j h h' => unhide HA j h h' (by omega)))
        go_wp2
        go_ret
        exact ⟨ret_bool (unhide H).symm, unhide HB⟩
  · have hb : ((ss.length : Int) != (tt.length : Int)) = true := by simp; omega
    have H := hide (eqSB_false_len hle)
    clear hle
    go_enter Try.func34, Try.ntmps34
    go_wp2
    go_ret
    exact ⟨ret_bool (unhide H).symm, Below.refl _ _⟩


set_option maxHeartbeats 1600000 in
theorem eqIoS_any (ao bo : Option Addr) (ca cb : Nat) (ss tt : List Wr) (w : World) (hl : ss.length ≤ maxLen) (hc : Ios w ao ss) (hd : Ios w bo tt) :
    Calls Try.prog 35 #[.slice ao ss.length ca, .slice bo tt.length cb] w fun e w' => e = .returned (.bool (eqWB ss tt)) ∧ Below w.heap.size w w' := by
  have HC := hide hc
  have HD := hide hd
  clear hc hd
  unfold maxLen at hl
  by_cases hle : ss.length = tt.length
  · have hb : ((ss.length : Int) != (tt.length : Int)) = false := by simp [hle]
    have HLE := hide hle
    clear hle
    go_enter Try.func35, Try.ntmps35
    go_wp2
    go_loopw [5] (fun i wr => ∃ k : Nat, k ≤ ss.length ∧ i = .int .i64 k ∧ Hid (∀ j (h : j < ss.length) (h' : j < tt.length), j < k → ss[j] = tt[j]) ∧ Hid (Below w.heap.size w wr)) (fun i _ => ss.length - (intOf i).toNat)
    case atStart => exact ⟨0, Nat.zero_le _, rfl, hide (fun j _ _ h => by omega), hide (Below.refl _ _)⟩
    case round =>
      obtain ⟨k, hk, rfl, HA, HB⟩ := hrel
      by_cases hlt : k < ss.length
      · have hlt' : k < tt.length := by rw [← unhide HLE]; exact hlt
        obtain ⟨b, off, rfl, hc0, hc1, hc2, hz⟩ := (unhide HC).below (unhide HB) k hlt
        obtain ⟨b', off', rfl, hd0, hd1, hd2, hz'⟩ := (unhide HD).below (unhide HB) k hlt'
        clear hz hz'
        by_cases he : ss[k] = tt[k]
        · have HN := hide (eq_succ hlt hlt' (unhide HA) he)
          have be : wrB ss[k] tt[k] = true := wrB_true (by rw [he]) (by rw [he]) (by rw [he])
          clear he
          go_wp2
          go_region_with (go_at_call 55; refine (eqIo_any _ _ _).mono ?_; rintro e w2 ⟨rfl, hb2⟩)
          all_goals
            have HB2 : Hid (Below w.heap.size w w2) := hide (Below.trans (by repeat (first | exact unhide HB | apply Below.drew)) (hb2.mono (unhide HB).size))
            clear hb2
            go_wp2
            go_roundw
            case rel => exact ⟨k + 1, by omega, by go_num, HN, HB2⟩
            case measure => simp [intOf]; omega
        · have H := hide (eqWB_false hlt hlt' he)
          have be : wrB ss[k] tt[k] = false := wrB_false (fun e => he (wr_ext e))
          clear he
          go_wp2
          go_region_with (go_at_call 55; refine (eqIo_any _ _ _).mono ?_; rintro e w2 ⟨rfl, hb2⟩)
          all_goals
            have HB2 : Hid (Below w.heap.size w w2) := hide (Below.trans (by repeat (first | exact unhide HB | apply Below.drew)) (hb2.mono (unhide HB).size))
            clear hb2
            go_wp2
            go_ret
            exact ⟨ret_bool (unhide H).symm, unhide HB2⟩
      · have H := hide (eqWB_true (unhide HLE) (fun j h h' => unhide HA j h h' (by omega)))
        go_wp2
        go_ret
        exact ⟨ret_bool (unhide H).symm, unhide HB⟩
  · have hb : ((ss.length : Int) != (tt.length : Int)) = true := by simp; omega
    have H := hide (eqWB_false_len hle)
    clear hle
    go_enter Try.func35, Try.ntmps35
    go_wp2
    go_ret
    exact ⟨ret_bool (unhide H).symm, Below.refl _ _⟩


set_option maxHeartbeats 800000 in
theorem eqDisk_any (ao bo co do_ : Option Addr) (ca cb cc cd : Nat) (ss tt : List ByteArray) (xs ys : List Wr) (w : World) (hl : ss.length ≤ maxLen) (hm : xs.length ≤ maxLen) (h1 : Ss w ao ss) (h2 : Ios w bo xs) (h3 : Ss w co tt) (h4 : Ios w do_ ys) :
    Calls Try.prog 13 #[.agg #[.slice ao ss.length ca, .slice bo xs.length cb], .agg #[.slice co tt.length cc, .slice do_ ys.length cd]] w fun e w' => e = .returned (.bool (eqSB ss tt && eqWB xs ys)) ∧ Below w.heap.size w w' := by
  have H1 := hide h1
  have H2 := hide h2
  have H3 := hide h3
  have H4 := hide h4
  have HL := hide hl
  have HM := hide hm
  clear h1 h2 h3 h4 hl hm
  have HA := hide (Joins.below_alloc2 w (.cells #[.slice ao ss.length ca, .slice bo xs.length cb] 31) (.cells #[.slice co tt.length cc, .slice do_ ys.length cd] 31))
  go_enter Try.func13, Try.ntmps13
  go_wp2_with fail
  refine (eqStringS_any ao co ca cc ss tt _ (unhide HL) ((unhide H1).below (unhide HA)) ((unhide H3).below (unhide HA))).mono ?_
  rintro e w1 ⟨rfl, hb1⟩
  have hc0 : w1.cell? ⟨w.heap.size, 1, none⟩ = some (.slice bo xs.length cb) := (hb1.cell (by simp; omega)).trans (by simp [go_sem])
  have hc1 : w1.cell? ⟨w.heap.size + 1, 1, none⟩ = some (.slice do_ ys.length cd) := (hb1.cell (by simp)).trans (by simp [go_sem])
  have HB := hide ((unhide HA).trans (hb1.mono (by simp; omega)))
  clear hb1
  cases h : eqSB ss tt
  · go_wp2
    go_ret
    exact ⟨ret_bool (by rw [h]; rfl), unhide HB⟩
  · go_wp2_with fail
    refine (eqIoS_any bo do_ cb cd xs ys _ (unhide HM) ((unhide H2).below (unhide HB)) ((unhide H4).below (unhide HB))).mono ?_
    rintro e w2 ⟨rfl, hb2⟩
    have HB2 := hide ((unhide HB).trans (hb2.mono (unhide HB).size))
    clear hb2
    cases h' : eqWB xs ys
    · go_wp2
      go_ret
      exact ⟨ret_bool (by rw [h, h']; rfl), unhide HB2⟩
    · go_wp2
      go_ret
      exact ⟨ret_bool (by rw [h, h']; rfl), unhide HB2⟩

end Go.Proofs.Ytoiclgeeaednnac
