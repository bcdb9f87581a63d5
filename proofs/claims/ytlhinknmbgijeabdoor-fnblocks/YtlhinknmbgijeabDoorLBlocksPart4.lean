import Derived.Test.YtlhinknmbgijeabDoorRows
import Derived.Test.YtlhinknmbgijeabDoorLBlocksPart1
import Derived.WalkKit
import Derived.WalkSpells
import Derived.KernelRfl
import Derived.Lib.SmallJoins
import Derived.Test.YtlhinknmbgijeabDoorLBlocksPart3
import Derived.Test.YtlhinknmbgijeabDoorLBlocksPart2
import Derived.Laws.BytesArg
import Derived.Laws.CopyRow
import Derived.Laws.CopyOwn
import Derived.Deep.RegionLaw
import Derived.Deep.AppendLies
import Derived.Deep.RegionWith

/- Contracts of DiskOK, of the program and of its model: both answer one plain function of the disk. -/
namespace Go.Proofs.YtlhinknmbgijeabDoor
open Go.RowKit
set_option linter.unusedVariables false
set_option maxRecDepth 100000

theorem l01In_any (n low high : Int) (w : World) : Calls Tryd.prog 80 #[.int .i64 n, .int .i64 low, .int .i64 high] w fun e w' => e = .returned (.bool (inB n low high)) ∧ w' = w := by
  go_enter Tryd.func80, Tryd.ntmps80
  go_wp2
  all_goals
    go_ret
    exact ⟨ret_bool (by rw [Bool.eq_iff_iff]; simp [inB]; omega), rfl⟩

theorem hostOK_any (n : Int) (w : World) : Calls Tryd.prog 31 #[.int .i64 n] w fun e w' => e = .returned (.bool (inB n 0 3)) ∧ w' = w := by
  go_enter Tryd.func31, Tryd.ntmps31
  go_wp2
  all_goals
    go_ret
    exact ⟨ret_bool (by rw [Bool.eq_iff_iff]; simp [inB]; omega), rfl⟩

theorem placeOK_any (n : Int) (w : World) : Calls Tryd.prog 102 #[.int .i64 n] w fun e w' => e = .returned (.bool (inB n 0 63)) ∧ w' = w := by
  go_enter Tryd.func102, Tryd.ntmps102
  go_wp2
  all_goals
    go_ret
    exact ⟨ret_bool (by rw [Bool.eq_iff_iff]; simp [inB]; omega), rfl⟩

set_option maxHeartbeats 800000 in
theorem l01Io_any (x : Wr) (w : World) (hz : x.data.size ≤ maxLen) : Calls Tryd.prog 66 #[.agg #[.int .i64 x.host, .int .i64 x.at_, .string x.data]] w fun e w' => e = .returned (.bool (ioB x)) ∧ Below w.heap.size w w' := by
  unfold maxLen at hz
  have HE := hide (ioB_eq x)
  cases h0 : inB x.host 0 3
  · go_enter Tryd.func66, Tryd.ntmps66
    go_wp2_with (go_at_call 80; refine (l01In_any _ _ _ _).mono ?_; rintro e w' ⟨rfl, rfl⟩)
    go_ret
    exact ⟨ret_bool (by rw [unhide HE, h0]; rfl), (Below.refl _ _).alloc (Nat.le_refl _) _⟩
  · cases h1 : inB x.at_ 0 63
    · go_enter Tryd.func66, Tryd.ntmps66
      go_wp2_with (go_at_call 80; refine (l01In_any _ _ _ _).mono ?_; rintro e w' ⟨rfl, rfl⟩)
      go_ret
      exact ⟨ret_bool (by rw [unhide HE, h0, h1]; rfl), (Below.refl _ _).alloc (Nat.le_refl _) _⟩
    · go_enter Tryd.func66, Tryd.ntmps66
      go_wp2_with (go_at_call 80; refine (l01In_any _ _ _ _).mono ?_; rintro e w' ⟨rfl, rfl⟩)
      go_ret
      exact ⟨ret_bool (by rw [unhide HE, h0, h1, Bool.eq_iff_iff]; simp; omega), (Below.refl _ _).alloc (Nat.le_refl _) _⟩

set_option maxHeartbeats 800000 in
theorem sectorsOK_any (ao : Option Addr) (cap : Nat) (ss : List ByteArray) (w : World) (hl : ss.length ≤ maxLen) (hc : Ss w ao ss) :
    Calls Tryd.prog 90 #[.slice ao ss.length cap] w fun e w' => e = .returned (.bool (secB ss)) ∧ w' = w := by
  have HC := hide hc
  clear hc
  unfold maxLen at hl
  by_cases hle : ss.length = 64
  · have hb : ((ss.length : Int) != 64) = false := by simp; omega
    have HLE := hide hle
    clear hle
    go_enter Tryd.func90, Tryd.ntmps90
    go_wp2
    go_loop [4, 10] (fun _ i => ∃ k : Nat, k ≤ ss.length ∧ i = .int .i64 k ∧ Hid (∀ j (h : j < ss.length), j < k → decide (ss[j].size ≤ 80) = true)) (fun _ i => ss.length - (intOf i).toNat)
    case atStart => exact ⟨0, Nat.zero_le _, rfl, hide (fun j _ h => by omega)⟩
    case round =>
      obtain ⟨k, hk, rfl, HA⟩ := hrel
      by_cases hlt : k < ss.length
      · obtain ⟨b, off, rfl, hc, hz⟩ := unhide HC k hlt
        unfold maxLen at hz
        by_cases hs : 80 < ss[k].size
        · have H := hide (secB_false_at hlt hs)
          go_wp2
          go_ret
          exact ⟨ret_bool (unhide H).symm, rfl⟩
        · have HN := hide (all_succ (p := fun s : ByteArray => decide (s.size ≤ 80)) hlt (unhide HA) (by simp; omega))
          go_wp2
          go_round
          case rel => exact ⟨k + 1, by omega, by go_num, HN⟩
          case measure => simp [intOf]; omega
      · have H := hide (secB_true (unhide HLE) (fun j h => unhide HA j h (by omega)))
        go_wp2
        go_ret
        exact ⟨ret_bool (unhide H).symm, rfl⟩
  · have hb : ((ss.length : Int) != 64) = true := by simp; omega
    have H := hide (secB_false_len hle)
    clear hle
    go_enter Tryd.func90, Tryd.ntmps90
    go_wp2
    go_ret
    exact ⟨ret_bool (unhide H).symm, rfl⟩

set_option maxHeartbeats 1600000 in
theorem pendingOK_any (ao : Option Addr) (cap : Nat) (xs : List Wr) (w : World) (hl : xs.length ≤ maxLen) (hc : Ios w ao xs) :
    Calls Tryd.prog 91 #[.slice ao xs.length cap] w fun e w' => e = .returned (.bool (penB xs)) ∧ Below w.heap.size w w' := by
  have HC := hide hc
  clear hc
  unfold maxLen at hl
  by_cases hle : 200 < xs.length
  · have H := hide (penB_false_len (xs := xs) (by omega))
    go_enter Tryd.func91, Tryd.ntmps91
    go_wp2
    go_ret
    exact ⟨ret_bool (unhide H).symm, Below.refl _ _⟩
  go_enter Tryd.func91, Tryd.ntmps91
  go_wp2
  go_loopw [4, 10] (fun _ i wr => ∃ k : Nat, k ≤ xs.length ∧ i = .int .i64 k ∧ Hid (∀ j (h : j < xs.length), j < k → ioB xs[j] = true) ∧ Hid (Below w.heap.size w wr)) (fun _ i _ => xs.length - (intOf i).toNat)
  case atStart => exact ⟨0, Nat.zero_le _, rfl, hide (fun j _ h => by omega), hide (Below.refl _ _)⟩
  case round =>
    obtain ⟨k, hk, rfl, HA, HB⟩ := hrel
    by_cases hlt : k < xs.length
    · obtain ⟨b, off, rfl, hc0, hc1, hc2, hz⟩ := (unhide HC).below (unhide HB) k hlt
      unfold maxLen at hz
      have HE := hide (ioB_eq xs[k])
      have HBA := hide (fun o => (unhide HB).alloc (unhide HB).size o)
      cases h0 : inB xs[k].host 0 3
      · have H := hide (penB_false_at hlt (by rw [unhide HE, h0]; rfl))
        go_wp2_with (first | (go_at_call 31; refine (hostOK_any _ _).mono ?_; rintro e w' ⟨rfl, rfl⟩) | (go_at_call 102; refine (placeOK_any _ _).mono ?_; rintro e w' ⟨rfl, rfl⟩))
        go_ret
        exact ⟨ret_bool (unhide H).symm, unhide HBA _⟩
      · cases h1 : inB xs[k].at_ 0 63
        · have H := hide (penB_false_at hlt (by rw [unhide HE, h0, h1]; rfl))
          go_wp2_with (first | (go_at_call 31; refine (hostOK_any _ _).mono ?_; rintro e w' ⟨rfl, rfl⟩) | (go_at_call 102; refine (placeOK_any _ _).mono ?_; rintro e w' ⟨rfl, rfl⟩))
          go_ret
          exact ⟨ret_bool (unhide H).symm, unhide HBA _⟩
        · by_cases hs : 80 < xs[k].data.size
          · have H := hide (penB_false_at hlt (by rw [unhide HE, h0, h1]; simp; omega))
            go_wp2_with (first | (go_at_call 31; refine (hostOK_any _ _).mono ?_; rintro e w' ⟨rfl, rfl⟩) | (go_at_call 102; refine (placeOK_any _ _).mono ?_; rintro e w' ⟨rfl, rfl⟩))
            go_ret
            exact ⟨ret_bool (unhide H).symm, unhide HBA _⟩
          · have HN := hide (all_succ (p := ioB) hlt (unhide HA) (by rw [unhide HE, h0, h1]; simp; omega))
            go_wp2_with (first | (go_at_call 31; refine (hostOK_any _ _).mono ?_; rintro e w' ⟨rfl, rfl⟩) | (go_at_call 102; refine (placeOK_any _ _).mono ?_; rintro e w' ⟨rfl, rfl⟩))
            go_roundw
            case rel => exact ⟨k + 1, by omega, by go_num, HN, hide (unhide HBA _)⟩
            case measure => simp [intOf]; omega
    · have H := hide (penB_true (xs := xs) (by omega) (fun j h => unhide HA j h (by omega)))
      go_wp2
      go_ret
      exact ⟨ret_bool (unhide H).symm, unhide HB⟩

set_option maxHeartbeats 800000 in
theorem diskOK_impl (ao bo : Option Addr) (ca cb : Nat) (ss : List ByteArray) (xs : List Wr) (w : World) (hl : ss.length ≤ maxLen) (hm : xs.length ≤ maxLen) (h1 : Ss w ao ss) (h2 : Ios w bo xs) :
    Calls Tryd.prog 67 #[.agg #[.slice ao ss.length ca, .slice bo xs.length cb]] w fun e w' => e = .returned (.bool (diskB ss xs)) ∧ Below w.heap.size w w' := by
  have H1 := hide h1
  have H2 := hide h2
  have HL := hide hl
  have HM := hide hm
  clear h1 h2 hl hm
  have HA := hide (Joins.below_alloc1 w (.cells #[.slice ao ss.length ca, .slice bo xs.length cb] 26))
  cases h : secB ss
  · go_enter Tryd.func67, Tryd.ntmps67
    go_wp2_with fail
    refine (sectorsOK_any ao ca ss _ (unhide HL) ((unhide H1).below (unhide HA))).mono ?_
    rintro e w1 ⟨rfl, rfl⟩
    go_wp2
    go_ret
    exact ⟨ret_bool (by rw [diskB, h]; rfl), unhide HA⟩
  · go_enter Tryd.func67, Tryd.ntmps67
    go_wp2_with fail
    refine (sectorsOK_any ao ca ss _ (unhide HL) ((unhide H1).below (unhide HA))).mono ?_
    rintro e w1 ⟨rfl, rfl⟩
    go_wp2_with fail
    refine (pendingOK_any bo cb xs _ (unhide HM) ((unhide H2).below (unhide HA))).mono ?_
    rintro e w2 ⟨rfl, hb2⟩
    have HB := hide ((unhide HA).trans (hb2.mono (by simp)))
    clear hb2
    go_wp2
    go_ret
    exact ⟨ret_bool (by rw [diskB, h]; rfl), unhide HB⟩

set_option maxHeartbeats 1600000 in
theorem diskOK_spec (ao bo : Option Addr) (ca cb : Nat) (ss : List ByteArray) (xs : List Wr) (w : World) (hl : ss.length ≤ maxLen) (hm : xs.length ≤ maxLen) (h1 : Ss w ao ss) (h2 : Ios w bo xs) :
    Calls Tryd.prog 27 #[.agg #[.slice ao ss.length ca, .slice bo xs.length cb]] w fun e w' => e = .returned (.bool (diskB ss xs)) ∧ Below w.heap.size w w' := by
  have HA := hide (Joins.below_alloc1 w (.cells #[.slice ao ss.length ca, .slice bo xs.length cb] 26))
  have H1 := hide (h1.below (unhide HA))
  have H2 := hide h2
  clear h1 h2
  unfold maxLen at hl hm
  by_cases hle : ss.length = 64
  · have hb : ((ss.length : Int) != 64) = false := by simp; omega
    have HLE := hide hle
    clear hle
    by_cases hlx : 200 < xs.length
    · have H := hide (diskB_false2 ss (penB_false_len (xs := xs) (by omega)))
      go_enter Tryd.func27, Tryd.ntmps27
      go_wp2
      go_ret
      exact ⟨ret_bool (unhide H).symm, unhide HA⟩
    go_enter Tryd.func27, Tryd.ntmps27
    go_wp2
    go_loop [3] (fun i => ∃ k : Nat, k ≤ ss.length ∧ i = .int .i64 k ∧ Hid (∀ j (h : j < ss.length), j < k → decide (ss[j].size ≤ 80) = true)) (fun i => ss.length - (intOf i).toNat)
    case atStart => exact ⟨0, Nat.zero_le _, rfl, hide (fun j _ h => by omega)⟩
    case round =>
      obtain ⟨k, hk, rfl, HK⟩ := hrel
      by_cases hlt : k < ss.length
      · obtain ⟨b, off, rfl, hc, hz⟩ := unhide H1 k hlt
        unfold maxLen at hz
        by_cases hs : 80 < ss[k].size
        · have H := hide (diskB_false1 xs (secB_false_at hlt hs))
          go_wp2
          go_ret
          exact ⟨ret_bool (unhide H).symm, unhide HA⟩
        · have HN := hide (all_succ (p := fun s : ByteArray => decide (s.size ≤ 80)) hlt (unhide HK) (by simp; omega))
          go_wp2
          go_round
          case rel => exact ⟨k + 1, by omega, by go_num, HN⟩
          case measure => simp [intOf]; omega
      · have HSB := hide (secB_true (unhide HLE) (fun j h => unhide HK j h (by omega)))
        have HD := hide ((unhide H2).below (unhide HA))
        go_wp2
        go_loopw [4] (fun i wr => ∃ m : Nat, m ≤ xs.length ∧ i = .int .i64 m ∧ Hid (∀ j (h : j < xs.length), j < m → ioB xs[j] = true) ∧ Hid (Below (w.alloc (.cells #[.slice ao ss.length ca, .slice bo xs.length cb] 26)).heap.size (w.alloc (.cells #[.slice ao ss.length ca, .slice bo xs.length cb] 26)) wr)) (fun i _ => xs.length - (intOf i).toNat)
        case atStart => exact ⟨0, Nat.zero_le _, rfl, hide (fun j _ h => by omega), hide (Below.refl _ _)⟩
        case round =>
          obtain ⟨m, hm', rfl, HK', HB⟩ := hrel
          have hcell : wr.cell? ⟨w.heap.size, 1, none⟩ = some (.slice bo xs.length cb) := ((unhide HB).cell (by simp)).trans (by simp [go_sem])
          have HBB := hide ((unhide HA).trans ((unhide HB).mono (by simp)))
          by_cases hlt' : m < xs.length
          · obtain ⟨b, off, rfl, hc0, hc1, hc2, hz⟩ := (unhide HD).below (unhide HB) m hlt'
            have HZ := hide hz
            clear hz
            cases hio : ioB xs[m]
            · have H := hide (diskB_false2 ss (penB_false_at hlt' hio))
              go_wp2_with fail
              refine (l01Io_any xs[m] _ (unhide HZ)).mono ?_
              rintro e w2 ⟨rfl, hb2⟩
              have HB2 := hide ((unhide HBB).trans (hb2.mono (unhide HBB).size))
              clear hb2
              go_wp2
              go_ret
              exact ⟨ret_bool (unhide H).symm, unhide HB2⟩
            · have HN := hide (all_succ (p := ioB) hlt' (unhide HK') hio)
              go_wp2_with fail
              refine (l01Io_any xs[m] _ (unhide HZ)).mono ?_
              rintro e w2 ⟨rfl, hb2⟩
              have HB2 := hide ((unhide HB).trans (hb2.mono (unhide HB).size))
              clear hb2
              go_wp2
              go_roundw
              case rel => exact ⟨m + 1, by omega, by go_num, HN, HB2⟩
              case measure => simp [intOf]; omega
          · have H := hide (diskB_true (unhide HSB) (penB_true (xs := xs) (by omega) (fun j h => unhide HK' j h (by omega))))
            go_wp2
            go_ret
            exact ⟨ret_bool (unhide H).symm, unhide HBB⟩
  · have hb : ((ss.length : Int) != 64) = true := by simp; omega
    have H := hide (diskB_false1 xs (secB_false_len hle))
    clear hle
    go_enter Tryd.func27, Tryd.ntmps27
    go_wp2
    go_ret
    exact ⟨ret_bool (unhide H).symm, unhide HA⟩

end Go.Proofs.YtlhinknmbgijeabDoor

/- Plain words of the clocks, and contracts of their tests: within, hourOK, configInBounds, l01In, l03Bounds. -/
namespace Go.Proofs.YtlhinknmbgijeabDoor
open Go.RowKit
set_option linter.unusedVariables false
set_option maxRecDepth 100000

theorem hidB {p : Prop} (h : p) : Hid p := h
theorem frB {a b c : World} (h : Below a.heap.size a b) (k : Below b.heap.size b c) : Below a.heap.size a c := h.trans (k.mono h.size)
/-- A number within bounds. -/
def betw (n low high : Int) : Bool := decide (low ≤ n) && decide (n ≤ high)
theorem betw_yes {n low high : Int} (h : low ≤ n) (h' : n ≤ high) : betw n low high = true := by simp [betw, h, h']
theorem betw_no {n low high : Int} (h : ¬ (low ≤ n ∧ n ≤ high)) : betw n low high = false := by simp only [betw, Bool.and_eq_false_iff, decide_eq_false_iff_not]; omega
theorem betw_iff {n low high : Int} : betw n low high = true ↔ low ≤ n ∧ n ≤ high := by simp [betw]
/-- A configuration within its bounds. -/
def cfgB (f d l r : Int) : Bool := betw f 1 10000 && betw d 1 100000 && betw l 0 1000 && betw r 0 500
theorem cfgB_iff {f d l r : Int} : cfgB f d l r = true ↔ (1 ≤ f ∧ f ≤ 10000) ∧ (1 ≤ d ∧ d ≤ 100000) ∧ (0 ≤ l ∧ l ≤ 1000) ∧ 0 ≤ r ∧ r ≤ 500 := by
  simp only [cfgB, Bool.and_eq_true, betw_iff, and_assoc]
/-- The bounds of true time. -/
def latQ (r x : Int) : Int := ((x + 1) * 1000 + 999 - r) / (1000 - r)
def earQ (r x : Int) : Int := (x - 1) * 1000 / (1000 + r)
def locQ (o r t : Int) : Int := o + t * (1000 + r) / 1000
abbrev cfgV (f d l r : Int) : Value := .agg #[.int .i64 f, .int .i64 d, .int .i64 l, .int .i64 r]
abbrev clkV (o r : Int) : Value := .agg #[.int .i64 o, .int .i64 r]

/-- A configuration in a variable. -/
abbrev Four (w : World) (b : Nat) (f d l r : Int) : Prop := w.cell? ⟨b, 0, none⟩ = some (.int .i64 f) ∧ w.cell? ⟨b, 1, none⟩ = some (.int .i64 d) ∧ w.cell? ⟨b, 2, none⟩ = some (.int .i64 l) ∧ w.cell? ⟨b, 3, none⟩ = some (.int .i64 r)
theorem Four.below {w w' : World} {b : Nat} {f d l r : Int} (h : Four w b f d l r) (hb : Below w.heap.size w w') : Four w' b f d l r :=
  ⟨(hb.cell (World.block_lt_of_cell? _ _ h.1)).trans h.1, (hb.cell (World.block_lt_of_cell? _ _ h.2.1)).trans h.2.1, (hb.cell (World.block_lt_of_cell? _ _ h.2.2.1)).trans h.2.2.1, (hb.cell (World.block_lt_of_cell? _ _ h.2.2.2)).trans h.2.2.2⟩
set_option maxHeartbeats 800000 in
theorem within_any (n low high : Int) (w : World) : Calls Tryd.prog 53 #[.int .i64 n, .int .i64 low, .int .i64 high] w fun e w' => e = .returned (.bool (betw n low high)) ∧ w' = w := by
  by_cases h1 : low ≤ n
  · by_cases h2 : n ≤ high
    · have hr := hidB (betw_yes h1 h2)
      go_enter Tryd.func53, Tryd.ntmps53
      go_wp2
      go_ret
      rw [show betw n low high = true from hr]
      exact ⟨rfl, rfl⟩
    · have hr := hidB (betw_no (n := n) (low := low) (high := high) (by omega))
      go_enter Tryd.func53, Tryd.ntmps53
      go_wp2
      go_ret
      rw [show betw n low high = false from hr]
      exact ⟨rfl, rfl⟩
  · have hr := hidB (betw_no (n := n) (low := low) (high := high) (by omega))
    go_enter Tryd.func53, Tryd.ntmps53
    go_wp2
    go_ret
    rw [show betw n low high = false from hr]
    exact ⟨rfl, rfl⟩
set_option maxHeartbeats 800000 in
theorem in_any (n low high : Int) (w : World) : Calls Tryd.prog 80 #[.int .i64 n, .int .i64 low, .int .i64 high] w fun e w' => e = .returned (.bool (betw n low high)) ∧ w' = w := by
  by_cases h1 : low ≤ n
  · by_cases h2 : n ≤ high
    · have hr := hidB (betw_yes h1 h2)
      go_enter Tryd.func80, Tryd.ntmps80
      go_wp2
      go_ret
      rw [show betw n low high = true from hr]
      exact ⟨rfl, rfl⟩
    · have hr := hidB (betw_no (n := n) (low := low) (high := high) (by omega))
      go_enter Tryd.func80, Tryd.ntmps80
      go_wp2
      go_ret
      rw [show betw n low high = false from hr]
      exact ⟨rfl, rfl⟩
  · have hr := hidB (betw_no (n := n) (low := low) (high := high) (by omega))
    go_enter Tryd.func80, Tryd.ntmps80
    go_wp2
    go_ret
    rw [show betw n low high = false from hr]
    exact ⟨rfl, rfl⟩

theorem cfg_1 {f d l r : Int} (h : betw f 1 10000 = false) : cfgB f d l r = false := by simp [cfgB, h]
theorem cfg_2 {f d l r : Int} (h : betw d 1 100000 = false) : cfgB f d l r = false := by simp [cfgB, h]
theorem cfg_3 {f d l r : Int} (h : betw l 0 1000 = false) : cfgB f d l r = false := by simp [cfgB, h]
theorem cfg_4 {f d l r : Int} (h1 : betw f 1 10000 = true) (h2 : betw d 1 100000 = true) (h3 : betw l 0 1000 = true) : cfgB f d l r = betw r 0 500 := by simp [cfgB, h1, h2, h3]

end Go.Proofs.YtlhinknmbgijeabDoor

/- Contracts of the program's blocks: verOK, BlockOK. -/
namespace Go.Proofs.YtlhinknmbgijeabDoor
open Go.RowKit
set_option linter.unusedVariables false
set_option maxRecDepth 100000

theorem verOK_any (n : Int) (w : World) : Calls Tryd.prog 52 #[.int .i64 n] w fun e w' => e = .returned (.bool (inB n 0 1000000)) ∧ w' = w := by
  go_enter Tryd.func52, Tryd.ntmps52
  go_wp2_with fail
  refine (within_any n 0 1000000 _).mono ?_
  rintro e w1 ⟨rfl, rfl⟩
  go_wp2
  go_ret
  exact ⟨rfl, rfl⟩
theorem within_in (n low high : Int) (w : World) : Calls Tryd.prog 53 #[.int .i64 n, .int .i64 low, .int .i64 high] w fun e w' => e = .returned (.bool (inB n low high)) ∧ w' = w := within_any n low high w

set_option maxHeartbeats 1600000 in
theorem blockOK_impl (x : Bk) (w : World) : Calls Tryd.prog 19 #[bV x] w fun e w' => e = .returned (.bool (bkB x)) ∧ Below w.heap.size w w' := by
  go_enter Tryd.func19, Tryd.ntmps19
  go_wp2_with fail
  refine (verOK_any x.ver _).mono ?_
  rintro e w1 ⟨rfl, rfl⟩
  by_cases h1 : inB x.ver 0 1000000 = false
  · have hr := hide (bkB_1 h1)
    go_wp2
    go_ret
    rw [unhide hr]
    exact ⟨rfl, Joins.below_alloc1 _ _⟩
  rw [Bool.not_eq_false] at h1
  go_wp2_with fail
  refine (within_in x.mbal 0 1000000 _).mono ?_
  rintro e w1 ⟨rfl, rfl⟩
  by_cases h2 : inB x.mbal 0 1000000 = false
  · have hr := hide (bkB_2 h2)
    go_wp2
    go_ret
    rw [unhide hr]
    exact ⟨rfl, Joins.below_alloc1 _ _⟩
  rw [Bool.not_eq_false] at h2
  go_wp2_with fail
  refine (within_in x.bal 0 x.mbal _).mono ?_
  rintro e w1 ⟨rfl, rfl⟩
  by_cases h3 : inB x.bal 0 x.mbal = false
  · have hr := hide (bkB_3 h3)
    go_wp2
    go_ret
    rw [unhide hr]
    exact ⟨rfl, Joins.below_alloc1 _ _⟩
  rw [Bool.not_eq_false] at h3
  go_wp2_with fail
  refine (isNumber_any x.inp _).mono ?_
  rintro e w1 ⟨rfl, rfl⟩
  by_cases h4 : numB x.inp = false
  · have hr := hide (bkB_4 h4)
    go_wp2
    go_ret
    rw [unhide hr]
    exact ⟨rfl, Joins.below_alloc1 _ _⟩
  rw [Bool.not_eq_false] at h4
  have hr := hide (bkB_5 h1 h2 h3 h4)
  clear h1 h2 h3
  by_cases h5 : 0 < x.bal
  · have hv : Hid (bkB x = true) := hide (by rw [unhide hr]; simp [h5])
    go_wp2
    go_ret
    rw [unhide hv]
    exact ⟨rfl, Joins.below_alloc1 _ _⟩
  · have hv : Hid (bkB x = decide (x.inp = 0)) := hide (by rw [unhide hr]; simp [h5])
    go_wp2
    go_ret
    rw [unhide hv]
    exact ⟨ret_bool (by rw [Bool.eq_iff_iff]; simp <;> omega), Joins.below_alloc1 _ _⟩

end Go.Proofs.YtlhinknmbgijeabDoor

/- Contract of impl.packNumbers. -/
namespace Go.Proofs.YtlhinknmbgijeabDoor
open Go.RowKit
set_option linter.unusedVariables false
set_option maxRecDepth 100000

theorem block_alloc {w : World} {g : Nat} {c : Array Value} {t : TypeId} {f : Nat × Nat} (h : w.heap[g]? = some (.cells c t f)) (o : Obj) : (w.alloc o).heap[g]? = some (.cells c t f) := by
  rw [(Joins.below_alloc1 w o).block g (Array.getElem?_eq_some_iff.1 h).1]; exact h

/-- The bytes that stand in the array when k numbers are in it. -/
def arrL (xs : List Int) (k : Nat) : List Value := byteV (packL (xs.take k)) ++ List.replicate (64 - k * 4) (.int .u8 0)
theorem arrL_zero (xs : List Int) : arrL xs 0 = List.replicate 64 (.int .u8 0) := by simp [arrL, packL, byteV]
theorem four_lit {n : Int} (h : 0 ≤ n) (h' : n ≤ 2147483647) : [Value.int .u8 (n % 256), .int .u8 (n / 256 % 256), .int .u8 (n / 65536 % 256), .int .u8 (n / 16777216)] = byteV (four n) := by
  have e : n / 16777216 = n / 16777216 % 256 := by omega
  have : byteV (four n) = [Value.int .u8 (n / (256 : Int) ^ 0 % 256), .int .u8 (n / (256 : Int) ^ 1 % 256), .int .u8 (n / (256 : Int) ^ 2 % 256), .int .u8 (n / (256 : Int) ^ 3 % 256)] := rfl
  rw [this, e]
  simp
theorem arrL_length {xs : List Int} {k : Nat} (hl : xs.length ≤ 16) (hk : k ≤ xs.length) : (arrL xs k).length = 64 := by
  rw [arrL, List.length_append, byteV_length, packL_length, List.length_replicate, List.length_take, Nat.min_eq_left hk]
  omega
theorem arrL_splice {xs : List Int} {k : Nat} (hl : xs.length ≤ 16) (hk : k < xs.length) : splice (arrL xs k) (k * 4) (byteV (four xs[k])) = arrL xs (k + 1) := by
  have h1 : (byteV (packL (xs.take k))).length = k * 4 := by rw [byteV_length, packL_length, List.length_take, Nat.min_eq_left (by omega)]
  have h4 : (byteV (four xs[k])).length = 4 := by rw [byteV_length, four, fourTo_length]
  unfold splice arrL
  rw [h4, List.take_append_of_le_length (by omega), List.take_of_length_le (by omega), List.drop_append, List.drop_of_length_le (by omega), List.nil_append, h1, packL_succ hk, List.drop_replicate]
  rw [show k * 4 + 4 - k * 4 = 4 by omega, show 64 - k * 4 - 4 = 64 - (k + 1) * 4 by omega]
  simp [byteV]
theorem arrL_cells {W : World} {g : Nat} {t : TypeId} {xs : List Int} (h : W.heap[g]? = some (.cells (arrL xs xs.length).toArray t (0, 0))) : ∀ i, i < xs.length * 4 → W.cell? ⟨g, 0 + i, none⟩ = some (.int .u8 ((packL xs).getD i 0)) := by
  intro i hi
  rw [Nat.zero_add, Joins.cell_of_block h]
  have hl : i < (packL xs).length := by rw [packL_length]; exact hi
  simp [arrL, byteV, List.getElem?_append_left, hl, List.getD]
theorem byteV_one (ns : List Int) : ∀ v ∈ byteV ns, v.oneCell' = true := by
  intro v hv
  simp only [byteV, List.mem_map] at hv
  obtain ⟨s, _, rfl⟩ := hv
  rfl
theorem lit_one (a b c d : Int) : ∀ v ∈ [Value.int .u8 a, .int .u8 b, .int .u8 c, .int .u8 d], v.oneCell' = true := by
  intro v hv
  simp at hv
  rcases hv with rfl | rfl | rfl | rfl <;> rfl
theorem sizeB : (Tryd.prog.info? 5).map (·.size) = some 1 := by kernel_rfl
theorem runB (W : World) : (Go.sizeOf 5).run Tryd.prog W = .ok 1 W := by
  have h := sizeB
  cases hq : Tryd.prog.info? 5 with
  | none => simp [hq] at h
  | some i =>
    have hi : i.size = 1 := by simpa [hq] using h
    simp [Go.sizeOf, typeInfo, hq, hi]
theorem arr64 : Tryd.prog.arrayLen 115 = 64 := by kernel_rfl
theorem und64 : Tryd.prog.underlying 115 = some (.array (Tryd.prog.arrayLen 115) (Tryd.prog.elem 115)) := by kernel_rfl
theorem elem64 : Tryd.prog.elem 115 = 5 := by kernel_rfl
theorem wrap4 (k : Nat) (hk : k ≤ 16) : IntKind.i64.wrap ((k : Int) * 4) = ((k * 4 : Nat) : Int) := by
  rw [IntKind.wrap_i64]
  omega
theorem slice64 (W : World) (g k : Nat) (hk : k < 16) : (Instr.sliceAt 115 (.pointer (some ⟨g, 0, none⟩)) (some (.int .i64 (IntKind.i64.wrap ((k : Int) * 4)))) none none).run Tryd.prog W = .ok (.slice (some ⟨g, k * 4, none⟩) (64 - k * 4) (64 - k * 4)) W := by
  rw [wrap4 k (by omega), run_sliceAt_array_l W _ _ und64 .i64 _ (by omega) (by rw [arr64]; omega), elem64, runB, arr64]
  simp only [Result.andThen, slicedAt, Int.toNat_natCast, Nat.mul_one]
  rw [if_neg (by omega), show Addr.add ⟨g, 0, none⟩ (k * 4) = ⟨g, k * 4, none⟩ from by unfold Addr.add; split <;> simp_all]
theorem slice64h (W : World) (g k : Nat) (hk : k ≤ 16) : (Instr.sliceAt 115 (.pointer (some ⟨g, 0, none⟩)) none (some (.int .i64 ((k : Int) * 4))) none).run Tryd.prog W = .ok (.slice (some ⟨g, 0, none⟩) (k * 4) 64) W := by
  rw [run_sliceAt_array_h W _ _ und64 .i64 _ (by omega) (by rw [arr64]; omega), elem64, runB, arr64]
  simp only [Result.andThen, slicedAt, Nat.mul_one, Nat.sub_zero]
  rw [if_neg (by omega), show ((k : Int) * 4).toNat = k * 4 by omega]
  rfl

set_option maxHeartbeats 1600000 in
theorem packNumbers_any (ao : Option Addr) (cap : Nat) (xs : List Int) (w : World) (hl : xs.length ≤ 16) (hn : ∀ j (h : j < xs.length), 0 ≤ xs[j] ∧ xs[j] ≤ 2147483647) (hc : Is w ao xs) :
    Calls Tryd.prog 74 #[.slice ao xs.length cap] w fun e w' => e = .returned (.string (packS xs)) ∧ Below w.heap.size w w' := by
  have HC := hide hc
  have HN := hide hn
  clear hc hn
  go_enter Tryd.func74, Tryd.ntmps74
  go_wp2
  go_loopw [9] (fun i wr => ∃ k : Nat, k ≤ xs.length ∧ i = .int .i64 k ∧ Hid (wr.heap[w.heap.size]? = some (.cells (arrL xs k).toArray 115 (0, 0))) ∧ Hid (Below w.heap.size w wr)) (fun i _ => xs.length - (intOf i).toNat)
  case atStart => exact ⟨0, Nat.zero_le _, rfl, hide (by rw [arrL_zero]; exact heap_alloc_new w _), hide (Joins.below_alloc1 _ _)⟩
  case round =>
    obtain ⟨k, hk, rfl, HO, HB⟩ := hrel
    by_cases hlt : k < xs.length
    · obtain ⟨b, off, rfl, hc⟩ := (unhide HC).below (unhide HB) k hlt
      obtain ⟨h0, h1⟩ := unhide HN k hlt
      have HBA := hide (fr (unhide HB) (Joins.below_alloc1 _ (.cells #[.int .u8 (xs[k] % 256), .int .u8 (xs[k] / 256 % 256), .int .u8 (xs[k] / 65536 % 256), .int .u8 (xs[k] / 16777216)] 102)))
      have HOA := hide (block_alloc (unhide HO) (.cells #[.int .u8 (xs[k] % 256), .int .u8 (xs[k] / 256 % 256), .int .u8 (xs[k] / 65536 % 256), .int .u8 (xs[k] / 16777216)] 102))
      have HL := hide (arrL_length hl hk)
      have HNW := hide (World.news_of_block (cs := #[.int .u8 (xs[k] % 256), .int .u8 (xs[k] / 256 % 256), .int .u8 (xs[k] / 65536 % 256), .int .u8 (xs[k] / 16777216)]) (heap_alloc_new wr (.cells #[.int .u8 (xs[k] % 256), .int .u8 (xs[k] / 256 % 256), .int .u8 (xs[k] / 65536 % 256), .int .u8 (xs[k] / 16777216)] 102)))
      have HE := hide (four_lit h0 h1)
      have HSP := hide (arrL_splice hl hlt)
      have hsl := fun W => slice64 W w.heap.size k (by omega)
      go_wp2
      go_region_law (refine step_copy_splice ?_ (.tmp 28) (.tmp 29) 22 22 ?_ 5 Tryd.underlying22 sizeB (some ⟨w.heap.size, k * 4, none⟩) (some ⟨wr.heap.size, 0, none⟩) (64 - k * 4) (64 - k * 4) 4 4 ?_ ?_ w.heap.size (k * 4) (arrL xs k) 115 ?_ [.int .u8 (xs[k] % 256), .int .u8 (xs[k] / 256 % 256), .int .u8 (xs[k] / 65536 % 256), .int .u8 (xs[k] / 16777216)] ?_ ?_ ?_ (lit_one _ _ _ _) w.heap.size w ?_ (Nat.le_refl _) ?_
                     · rfl
                     · rfl
                     · rfl
                     · rfl
                     · exact unhide HOA
                     · simp only [List.length_cons, List.length_nil]; exact (Nat.min_eq_left (by omega)).symm
                     · exact fun _ => ⟨rfl, _, rfl, unhide HNW⟩
                     · rw [unhide HL]; simp only [List.length_cons, List.length_nil]; omega
                     · exact (unhide HBA).drew
                     intro w4 hg4 hb4)
      all_goals
        have HSF : Hid (w4.heap[w.heap.size]? = some (.cells (arrL xs (k + 1)).toArray 115 (0, 0))) := by rw [← unhide HSP, ← unhide HE]; exact hg4
        have HBF := hide hb4
        clear hg4 hb4 hsl
        go_wp2
        go_roundw
        case rel => exact ⟨k + 1, by omega, by go_num, HSF, HBF⟩
        case measure => simp [intOf]; omega
    · have hkn : k = xs.length := by omega
      subst hkn
      have hsl := slice64h wr w.heap.size xs.length hl
      have hcv := run_convert_bytes_arg (P := Tryd.prog) wr 22 5 Tryd.underlying22 Tryd.underlying5 w.heap.size 0 (xs.length * 4) 64 (packL xs) (packL_length xs) (arrL_cells (unhide HO)) 9 Tryd.underlying9
      go_wp2
      go_ret
      exact ⟨rfl, unhide HB⟩

end Go.Proofs.YtlhinknmbgijeabDoor

/- Contract of impl.areNumbers. -/
namespace Go.Proofs.YtlhinknmbgijeabDoor
open Go.RowKit
set_option linter.unusedVariables false
set_option maxRecDepth 100000

theorem nums_no {xs : List Int} {k : Nat} (hk : k < xs.length) (h : numB xs[k] = false) : xs.all numB = false := all_not (p := numB) hk h
theorem nums_all {xs : List Int} (h : ∀ j (hj : j < xs.length), numB xs[j] = true) : xs.all numB = true := all_of (p := numB) (fun i hi _ => h i hi)

set_option maxHeartbeats 800000 in
theorem areNumbers_any (ao : Option Addr) (cap : Nat) (xs : List Int) (w : World) (hl : xs.length ≤ maxLen) (hc : Is w ao xs) :
    Calls Tryd.prog 94 #[.slice ao xs.length cap] w fun e w' => e = .returned (.bool (xs.all numB)) ∧ w' = w := by
  have HC := hide hc
  clear hc
  unfold maxLen at hl
  obtain ⟨R, HR⟩ : ∃ R, Hid (R = xs.all numB) := ⟨_, hide rfl⟩
  rw [← unhide HR]
  go_enter Tryd.func94, Tryd.ntmps94
  go_wp2
  go_loop [7] (fun i => ∃ k : Nat, k ≤ xs.length ∧ i = .int .i64 k ∧ Hid (∀ j (h : j < xs.length), j < k → numB xs[j] = true)) (fun i => xs.length - (intOf i).toNat)
  case atStart => exact ⟨0, Nat.zero_le _, rfl, hide (fun j _ h => by omega)⟩
  case round =>
    obtain ⟨k, hk, rfl, HA⟩ := hrel
    by_cases hlt : k < xs.length
    · obtain ⟨b, off, rfl, hc⟩ := unhide HC k hlt
      cases hn : numB xs[k]
      · have HF := hide (nums_no hlt hn)
        go_wp2_with (go_at_call 54; refine (isNumber_any _ _).mono ?_; rintro e w' ⟨rfl, hw⟩; replace hw := hw.symm; subst hw; rw [hn])
        go_ret
        exact ⟨ret_bool (by rw [unhide HR, unhide HF]), rfl⟩
      · have HN := hide (all_succ hlt (unhide HA) hn)
        go_wp2_with (go_at_call 54; refine (isNumber_any _ _).mono ?_; rintro e w' ⟨rfl, hw⟩; replace hw := hw.symm; subst hw; rw [hn])
        go_round
        case rel => exact ⟨k + 1, by omega, by go_num, HN⟩
        case measure => simp [intOf]; omega
    · have HF := hide (nums_all (fun j h => unhide HA j h (by omega)))
      go_wp2
      go_ret
      exact ⟨ret_bool (by rw [unhide HR, unhide HF]), rfl⟩

end Go.Proofs.YtlhinknmbgijeabDoor

/- Contract of impl.listFault (of the code since 38f1bd19e5ed: it calls areNumbers). -/
namespace Go.Proofs.YtlhinknmbgijeabDoor
open Go.RowKit
set_option linter.unusedVariables false
set_option maxRecDepth 100000

theorem intsB_all_no {xs : List Int} (h : xs.all numB = false) : intsB xs = false := by rw [intsB, allB, h]; rfl
theorem intsB_all {xs : List Int} (hl : xs.length ≤ 16) (h : xs.all numB = true) : intsB xs = true := by rw [intsB, allB, h, decide_eq_true hl]; rfl

set_option maxHeartbeats 800000 in
theorem listFault_any (ao : Option Addr) (cap : Nat) (xs : List Int) (w : World) (hl : xs.length ≤ 1048576) (hc : Is w ao xs) :
    Calls Tryd.prog 72 #[.slice ao xs.length cap] w fun e w' => e = .returned (.int .i64 (listC xs)) ∧ w' = w := by
  have HC := hide hc
  clear hc
  by_cases h1 : 4096 < xs.length
  · have HF := hide (listC_long h1)
    go_enter Tryd.func72, Tryd.ntmps72
    go_wp2
    go_ret
    exact ⟨ret_int (unhide HF).symm, rfl⟩
  by_cases h2 : 16 < xs.length
  · have HF := hide (listC_bad h1 (intsB_long h2))
    go_enter Tryd.func72, Tryd.ntmps72
    go_wp2
    go_ret
    exact ⟨ret_int (unhide HF).symm, rfl⟩
  cases hn : xs.all numB
  · have HF := hide (listC_bad h1 (intsB_all_no hn))
    go_enter Tryd.func72, Tryd.ntmps72
    go_wp2_with (go_at_call 94; refine (areNumbers_any _ _ _ _ (by unfold maxLen; omega) (unhide HC)).mono ?_; rintro e w' ⟨rfl, hw⟩; replace hw := hw.symm; subst hw; rw [hn])
    go_ret
    exact ⟨ret_int (unhide HF).symm, rfl⟩
  · have HF := hide (listC_ok (xs := xs) h1 (intsB_all (by omega) hn))
    go_enter Tryd.func72, Tryd.ntmps72
    go_wp2_with (go_at_call 94; refine (areNumbers_any _ _ _ _ (by unfold maxLen; omega) (unhide HC)).mono ?_; rintro e w' ⟨rfl, hw⟩; replace hw := hw.symm; subst hw; rw [hn])
    go_ret
    exact ⟨ret_int (unhide HF).symm, rfl⟩

end Go.Proofs.YtlhinknmbgijeabDoor

/- What PackInts answers, plain. -/
namespace Go.Proofs.YtlhinknmbgijeabDoor
set_option linter.unusedVariables false

/-- The answer's text. -/
def packT (xs : List Int) : ByteArray := if listC xs = 0 then packS xs else ⟨#[]⟩
theorem packT_ok {xs : List Int} (h : listC xs = 0) : packT xs = packS xs := if_pos h
theorem packT_no {xs : List Int} (h : listC xs ≠ 0) : packT xs = ⟨#[]⟩ := if_neg h
theorem ret_si {a b : ByteArray} {c d : Int} (h : a = b) (k : c = d) : Ending.returned (.tuple #[.string a, .int .i64 c]) = .returned (.tuple #[.string b, .int .i64 d]) := by rw [h, k]

end Go.Proofs.YtlhinknmbgijeabDoor

/- Contract of impl.kindOK. -/
namespace Go.Proofs.YtlhinknmbgijeabDoor
open Go.RowKit
set_option linter.unusedVariables false
set_option maxRecDepth 100000

theorem kindOK_any (n : Int) (w : World) : Calls Tryd.prog 73 #[.int .i64 n] w fun e w' => e = .returned (.bool (kindB n)) ∧ w' = w := by
  go_enter Tryd.func73, Tryd.ntmps73
  go_wp2
  all_goals
    go_ret
    exact ⟨ret_bool (by rw [Bool.eq_iff_iff]; simp [kindB, inB]; omega), rfl⟩

end Go.Proofs.YtlhinknmbgijeabDoor

/- Contracts of SealRecord, of the program and of its model. -/
namespace Go.Proofs.YtlhinknmbgijeabDoor
open Go.RowKit
set_option linter.unusedVariables false
set_option maxRecDepth 100000

/-- 'string(head[:2])', 'string(head[:])', head an array of four bytes. -/
theorem arr2 (W : World) (g : Nat) (a b c d : Int) (h : W.heap.size = g) : (convert 22 9 (.slice (some ⟨g, 0, none⟩) 2 4)).run Tryd.prog (W.alloc (.cells #[.int .u8 a, .int .u8 b, .int .u8 c, .int .u8 d] 102)) = .ok (.string (strOfNums [a, b])) (W.alloc (.cells #[.int .u8 a, .int .u8 b, .int .u8 c, .int .u8 d] 102)) := by
  subst h
  refine run_convert_bytes_arg _ 22 5 Tryd.underlying22 Tryd.underlying5 W.heap.size 0 2 4 [a, b] rfl ?_ 9 Tryd.underlying9
  intro i hi
  rcases (show i = 0 ∨ i = 1 by omega) with rfl | rfl <;> simp [go_sem, List.getD]
theorem arr4 (W : World) (g : Nat) (a b c d : Int) (h : W.heap.size = g) : (convert 22 9 (.slice (some ⟨g, 0, none⟩) 4 4)).run Tryd.prog (W.alloc (.cells #[.int .u8 a, .int .u8 b, .int .u8 c, .int .u8 d] 102)) = .ok (.string (strOfNums [a, b, c, d])) (W.alloc (.cells #[.int .u8 a, .int .u8 b, .int .u8 c, .int .u8 d] 102)) := by
  subst h
  refine run_convert_bytes_arg _ 22 5 Tryd.underlying22 Tryd.underlying5 W.heap.size 0 4 4 [a, b, c, d] rfl ?_ 9 Tryd.underlying9
  intro i hi
  rcases (show i = 0 ∨ i = 1 ∨ i = 2 ∨ i = 3 by omega) with rfl | rfl | rfl | rfl <;> simp [go_sem, List.getD]
theorem sum_impl (k : Int) (xs : List Int) (w : World) (hl : xs.length ≤ 16) : Calls Tryd.prog 75 #[.string (strOfNums [k, (xs.length : Int)] ++ packS xs)] w fun e w' => e = .returned (.int .i64 (sumR k xs)) ∧ w' = w := by
  have h := sumOf_impl (sumT k xs) w (by rw [sumT_size]; omega)
  rw [sumC_short (by rw [sumT_size]; omega)] at h
  exact h

set_option maxHeartbeats 1600000 in
theorem sealRecord_impl (k : Int) (ao : Option Addr) (cap : Nat) (xs : List Int) (w : World) (hl : xs.length ≤ 1048576) (hc : Is w ao xs) :
    Calls Tryd.prog 38 #[.int .i64 k, .slice ao xs.length cap] w fun e w' => e = .returned (.tuple #[.string (sealT k xs), .int .i64 (sealC k xs)]) ∧ Below w.heap.size w w' := by
  have HC := hide hc
  clear hc
  by_cases h2 : listC xs = 0
  · have HL := hide h2
    have hb : (listC xs != 0) = false := by simp [h2]
    have HP := hide (intsB_parts (listC_zero h2))
    clear h2
    by_cases h3 : kindB k = true
    · have HF := hide (sealC_ok (unhide HL) h3)
      obtain ⟨hk0, hk1⟩ := kindB_in h3
      have hl16 := (unhide HP).2
      have hp := packS_size xs
      have hs2 : (strOfNums [k, (xs.length : Int)]).size = 2 := strOfNums_size _
      have hs4 : (strOfNums [k, (xs.length : Int), sumR k xs, 0]).size = 4 := strOfNums_size _
      obtain ⟨hr0, hr1⟩ := sumR_in k xs
      go_enter Tryd.func38, Tryd.ntmps38
      go_wp2_with (first | (go_at_call 72; refine (listFault_any _ _ xs _ hl (unhide HC)).mono ?_; rintro e w' ⟨rfl, rfl⟩) | (go_at_call 73; refine (kindOK_any _ _).mono ?_; rintro e w' ⟨rfl, rfl⟩) | (go_at_call 74; refine (packNumbers_any _ _ xs _ (unhide HP).2 (unhide HP).1 (unhide HC)).mono ?_; rintro e w1 ⟨rfl, hb1⟩; have HB1 := hide hb1; clear hb1; have hc2 := arr2 w1 w1.heap.size k xs.length 0 0 rfl) | (go_at_call 75; refine (sum_impl k xs _ hl16).mono ?_; rintro e w' ⟨rfl, rfl⟩; have hc4 := arr4 w1 w1.heap.size k xs.length (sumR k xs) 0 rfl))
      go_ret2
      exact ⟨ret_si (sealT_ok (unhide HF)).symm (unhide HF).symm, fr (unhide HB1) (Joins.below_alloc1 _ _)⟩
    · have h4 : kindB k = false := by simpa using h3
      have HF := hide (sealC_kind (unhide HL) h4)
      clear h3
      go_enter Tryd.func38, Tryd.ntmps38
      go_wp2_with (first | (go_at_call 72; refine (listFault_any _ _ xs _ hl (unhide HC)).mono ?_; rintro e w' ⟨rfl, rfl⟩) | (go_at_call 73; refine (kindOK_any _ _).mono ?_; rintro e w' ⟨rfl, rfl⟩))
      go_ret2
      exact ⟨ret_si (sealT_no (by rw [unhide HF]; decide)).symm (unhide HF).symm, Below.refl _ _⟩
  · have HF := hide (sealC_list (k := k) h2)
    have HNE := hide h2
    have hb : (listC xs != 0) = true := by simp [h2]
    clear h2
    go_enter Tryd.func38, Tryd.ntmps38
    go_wp2_with (go_at_call 72; refine (listFault_any _ _ xs _ hl (unhide HC)).mono ?_; rintro e w' ⟨rfl, rfl⟩)
    go_ret2
    exact ⟨ret_si (sealT_no (by rw [unhide HF]; exact unhide HNE)).symm (unhide HF).symm, Below.refl _ _⟩

end Go.Proofs.YtlhinknmbgijeabDoor

/- Contracts of the program's blocks: numbers, EncodeBlock. -/
namespace Go.Proofs.YtlhinknmbgijeabDoor
open Go.RowKit
set_option linter.unusedVariables false
set_option maxRecDepth 100000

set_option maxHeartbeats 1600000 in
theorem numbersB (x : Bk) (w : World) : Calls Tryd.prog 47 #[bV x] w fun e w' => ∃ ao, e = .returned (.slice ao 4 4) ∧ Is w' ao [x.ver, x.mbal, x.bal, x.inp] ∧ Below w.heap.size w w' := by
  go_enter Tryd.func47, Tryd.ntmps47
  go_wp2
  go_ret
  exact ⟨_, rfl, is4 _ _ _ _ _ _ _ (by simp), Joins.below_alloc2 _ _ _⟩

set_option maxHeartbeats 1600000 in
theorem encodeBlock_impl (x : Bk) (w : World) : Calls Tryd.prog 16 #[bV x] w fun e w' => e = .returned (.tuple #[.string (ebR x), .int .i64 (ebC x)]) ∧ Below w.heap.size w w' := by
  have HA := hide (Joins.below_alloc1 w (.cells #[.int .i64 x.ver, .int .i64 x.mbal, .int .i64 x.bal, .int .i64 x.inp] 42))
  have HV := hide (VarB.new w 42 x)
  go_enter Tryd.func16, Tryd.ntmps16
  go_wp2_with fail
  refine (blockOK_impl x _).mono ?_
  rintro e w1 ⟨rfl, hb⟩
  have HB := hide (fr (unhide HA) hb)
  obtain ⟨hc0, hc1, hc2, hc3⟩ := ((unhide HV).below hb).cells
  clear hb
  by_cases hd : bkB x = true
  · have HE : Hid (ebR x = encB x ∧ ebC x = 0) := hide ⟨if_pos hd, if_pos hd⟩
    have HD := hide (b4_seal hd)
    go_wp2_with fail
    refine (numbersB x _).mono ?_
    rintro e w2 ⟨ao, rfl, hi, hb⟩
    have HB2 := hide (fr (unhide HB) hb)
    have HI := hide hi
    clear hb hi hc0 hc1 hc2 hc3
    go_wp2_with fail
    refine (sealRecord_impl 5 ao 4 [x.ver, x.mbal, x.bal, x.inp] _ (by simp) (unhide HI)).mono ?_
    rintro e w3 ⟨rfl, hb⟩
    have HB3 := hide (fr (unhide HB2) hb)
    clear hb
    rw [(unhide HD).1, (unhide HD).2]
    go_wp2
    go_ret2
    exact ⟨ret_se (unhide HE).1.symm (unhide HE).2.symm, unhide HB3⟩
  · have HE : Hid (ebR x = ⟨#[]⟩ ∧ ebC x = 1) := hide ⟨if_neg hd, if_neg hd⟩
    rw [Bool.not_eq_true] at hd
    go_wp2
    go_ret2
    exact ⟨ret_se (unhide HE).1.symm (unhide HE).2.symm, unhide HB⟩

end Go.Proofs.YtlhinknmbgijeabDoor

/- Plain facts on records, of no program: what is packed is read back, what is sealed is opened. -/
namespace Go.Proofs.YtlhinknmbgijeabDoor
open Go.RowKit
set_option linter.unusedVariables false

theorem allB_in {xs : List Int} (h : allB xs = true) : ∀ j (hj : j < xs.length), 0 ≤ xs[j] ∧ xs[j] ≤ 2147483647 := by
  intro j hj
  rw [allB, List.all_eq_true] at h
  have := h _ (List.getElem_mem hj)
  simpa [numB, inB] using this
theorem pack_byte {xs : List Int} {i j : Nat} (hi : i < xs.length) (hj : j < 4) : byteAt (packS xs) (i * 4 + j) = byteN xs[i] j := by
  obtain ⟨hk, he⟩ := List.getElem?_eq_some_iff.1 (packL_at xs i j hi hj)
  have hb := byteN_in xs[i] j
  rw [packS, byteAt_nums hk (by rw [he]; omega) (by rw [he]; omega), he]
theorem num_of_bytes {n : Int} (h0 : 0 ≤ n) (h1 : n ≤ 2147483647) : byteN n 0 + byteN n 1 * 256 + byteN n 2 * 65536 + byteN n 3 * 16777216 = n := by
  show n / 1 % 256 + n / 256 % 256 * 256 + n / 65536 % 256 * 65536 + n / 16777216 % 256 * 16777216 = n
  omega
theorem un_pack {xs : List Int} (h : allB xs = true) : unL (packS xs) = xs := by
  apply List.ext_getElem
  · rw [unL_length, packS_size]; omega
  · intro i h1 h2
    rw [unL_get h1]
    have hin := allB_in h i h2
    unfold numAt
    have e0 := pack_byte h2 (show 0 < 4 by omega)
    rw [Nat.add_zero] at e0
    rw [e0, pack_byte h2 (show 1 < 4 by omega), pack_byte h2 (show 2 < 4 by omega), pack_byte h2 (show 3 < 4 by omega)]
    exact num_of_bytes hin.1 hin.2
theorem okU_pack {xs : List Int} (h : allB xs = true) (hl : xs.length ≤ 16) : okU (packS xs) = true := by
  rw [okU_even (by rw [packS_size]; omega), un_pack h, intsB, h, decide_eq_true hl]; rfl
theorem intsB_small {xs : List Int} (h : allB xs = true) (hl : xs.length ≤ 16) : intsB xs = true := by rw [intsB, h, decide_eq_true hl]; rfl
theorem unC_pack {xs : List Int} (h : allB xs = true) (hl : xs.length ≤ 16) : unC (packS xs) = 0 := unC_ok (by rw [packS_size]; omega) (okU_pack h hl)
theorem unR_pack {xs : List Int} (h : allB xs = true) (hl : xs.length ≤ 16) : unR (packS xs) = xs := by rw [unR_ok (unC_pack h hl), un_pack h]
theorem unC_long_by {s : ByteArray} (h : ¬ s.size % 4 = 0) (hl : s.size ≤ 65536) : unC s = 3 := unC_bad (by omega) (okU_rest h)

theorem kindB_of {k : Int} (hk : 1 ≤ k ∧ k ≤ 9) : kindB k = true := by simp [kindB, inB]; omega
theorem seal_byte {k : Int} {xs : List Int} (hk : 1 ≤ k ∧ k ≤ 9) (hl : xs.length ≤ 16) {j : Nat} (hj : j < 4) : byteAt (sealS k xs) j = (headR k xs)[j]'(by simpa [headR] using hj) := by
  have hr := sumR_in k xs
  rw [sealS, byteAt_left (by rw [strOfNums_size]; simpa [headR] using hj), byteAt_nums]
  · rcases (show j = 0 ∨ j = 1 ∨ j = 2 ∨ j = 3 by omega) with rfl | rfl | rfl | rfl <;> simp [headR] <;> omega
  · rcases (show j = 0 ∨ j = 1 ∨ j = 2 ∨ j = 3 by omega) with rfl | rfl | rfl | rfl <;> simp [headR] <;> omega
theorem body_seal {k : Int} {xs : List Int} : bodyT (sealS k xs) = packS xs := by
  apply bytes_eq
  · rw [bodyT_size, sealS_size, packS_size]; omega
  · intro j hj
    rw [bodyT_size, sealS_size] at hj
    rw [bodyT_byte (by rw [sealS_size]; omega), sealS, byteAt_right (by rw [strOfNums_size]; simp [headR]), strOfNums_size]
    congr 1
    simp [headR]
theorem rec_seal {k : Int} {xs : List Int} (hk : 1 ≤ k ∧ k ≤ 9) (h : allB xs = true) (hl : xs.length ≤ 16) : RecP (sealS k xs) := by
  have e0 := seal_byte hk hl (show 0 < 4 by omega)
  have hkb : kindB (byteAt (sealS k xs) 0) = true := by rw [e0]; exact kindB_of hk
  refine (seal_iff (by rw [sealS_size]; omega) hkb (by rw [body_seal]; exact okU_pack h hl)).1 ?_
  rw [body_seal, un_pack h, e0]
  simp [headR]
theorem seal_kind {k : Int} {xs : List Int} (hk : 1 ≤ k ∧ k ≤ 9) (hl : xs.length ≤ 16) : byteAt (sealS k xs) 0 = k := by rw [seal_byte hk hl (show 0 < 4 by omega)]; simp [headR]
theorem seal_count {k : Int} {xs : List Int} (hk : 1 ≤ k ∧ k ≤ 9) (hl : xs.length ≤ 16) : byteAt (sealS k xs) 1 = xs.length := by rw [seal_byte hk hl (show 1 < 4 by omega)]; simp [headR]
theorem opC_seal {k : Int} {xs : List Int} (hk : 1 ≤ k ∧ k ≤ 9) (h : allB xs = true) (hl : xs.length ≤ 16) : opC (sealS k xs) k = 0 :=
  opC_ok (by rw [sealS_size]; omega) (kindB_of hk) (recB_true (rec_seal hk h hl)) (seal_kind hk hl)
theorem opR_seal {k : Int} {xs : List Int} (hk : 1 ≤ k ∧ k ≤ 9) (h : allB xs = true) (hl : xs.length ≤ 16) : opR (sealS k xs) k = xs := by rw [opR_ok (opC_seal hk h hl), body_seal, un_pack h]
theorem opC_other {k k' : Int} {xs : List Int} (hk : 1 ≤ k ∧ k ≤ 9) (hk' : 1 ≤ k' ∧ k' ≤ 9) (hne : k ≠ k') (hl : xs.length ≤ 16) : opC (sealS k xs) k' = 3 :=
  opC_no (by rw [sealS_size]; omega) (kindB_of hk') (fun h => hne (by rw [← seal_kind hk hl]; exact h.2))
theorem kdC_seal {k : Int} {xs : List Int} (hk : 1 ≤ k ∧ k ≤ 9) (h : allB xs = true) (hl : xs.length ≤ 16) : kdC (sealS k xs) = 0 := kdC_ok (by rw [sealS_size]; omega) (recB_true (rec_seal hk h hl))
theorem kdR_seal {k : Int} {xs : List Int} (hk : 1 ≤ k ∧ k ≤ 9) (h : allB xs = true) (hl : xs.length ≤ 16) : kdR (sealS k xs) = k := by rw [kdR_ok (kdC_seal hk h hl), seal_kind hk hl]
/-- A text whose length is not what its second byte says is none. -/
theorem opC_size {s : ByteArray} {k : Int} (hk : 1 ≤ k ∧ k ≤ 9) (hs : s.size ≤ 65536) (h : 4 ≤ s.size → (s.size : Int) ≠ 4 + byteAt s 1 * 4) : opC s k = 3 :=
  opC_no (by omega) (kindB_of hk) (fun hh => by
    obtain ⟨h4, _, _, hc, _, _⟩ := recB_iff.1 hh.1
    rw [bodyT_size] at hc
    exact h h4 (by omega))
theorem opC_cut {k : Int} {xs : List Int} {q : Nat} (hk : 1 ≤ k ∧ k ≤ 9) (hl : xs.length ≤ 16) (hq : q < 4 + xs.length * 4) : opC ((sealS k xs).extract 0 q) k = 3 := by
  have hz := sealS_size k xs
  have hsz : ((sealS k xs).extract 0 q).size = q := by simp [hz]; omega
  refine opC_size hk (by omega) (fun h4 => ?_)
  rw [byteAt_cut (by rw [hz]; omega) (by omega), Nat.zero_add, seal_count hk hl]
  omega
theorem opC_drawn {k : Int} {xs : List Int} {t : ByteArray} (ht : t.size = 1) (hk : 1 ≤ k ∧ k ≤ 9) (hl : xs.length ≤ 16) : opC (sealS k xs ++ t) k = 3 := by
  have hz := sealS_size k xs
  refine opC_size hk (by rw [ByteArray.size_append]; omega) (fun h4 => ?_)
  rw [byteAt_left (by omega), seal_count hk hl, ByteArray.size_append]
  omega

end Go.Proofs.YtlhinknmbgijeabDoor
