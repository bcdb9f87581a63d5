/- The walks of impl.NameOK and of its model spec.NameOK: both answer one plain function of the bytes. -/
import Derived.Test.YtgcbofhjgomjoabRows
import Derived.WalkKit
import Derived.ProofKit
import Derived.OpenShut
import Derived.ShutString
import Derived.WalkSpells
namespace Go.Proofs.Ytgcbofhjgomjoab.NameW
open Go.RowKit

def letB (n : Int) : Bool := (decide (97 ≤ n) && decide (n ≤ 122)) || (decide (65 ≤ n) && decide (n ≤ 90)) || (n == 95)
def digB (n : Int) : Bool := decide (48 ≤ n) && decide (n ≤ 57)

/-- The byte at a place may stand there in a name. -/
def OkAt (s : ByteArray) (j : Nat) : Prop := ∀ h : j < s.size, letB (s[j].toNat : Int) = true ∨ (0 < j ∧ digB (s[j].toNat : Int) = true)
def NameP (s : ByteArray) : Prop := 1 ≤ s.size ∧ s.size ≤ 40 ∧ ∀ j, OkAt s j
def nameB (s : ByteArray) : Bool := decide (1 ≤ s.size) && (decide (s.size ≤ 40) && (List.range s.size).all fun j => if h : j < s.size then (letB (s[j].toNat : Int) || (decide (0 < j) && digB (s[j].toNat : Int))) else true)

theorem hide {p : Prop} (h : p) : Hid p := h
theorem unhide {p : Prop} (h : Hid p) : p := h

theorem nameB_iff {s : ByteArray} : nameB s = true ↔ NameP s := by
  simp only [nameB, NameP, Bool.and_eq_true, decide_eq_true_eq, List.all_eq_true, List.mem_range]
  refine and_congr_right fun _ => and_congr_right fun _ => ⟨fun h j hj => ?_, fun h j hj => ?_⟩
  · have := h j hj
    rw [dif_pos hj] at this
    simpa using this
  · rw [dif_pos hj]
    simpa using h j hj
theorem nameB_true {s : ByteArray} (h : NameP s) : nameB s = true := nameB_iff.2 h
theorem nameB_false {s : ByteArray} (h : ¬ NameP s) : nameB s = false := by
  rw [← Bool.not_eq_true]
  exact fun e => h (nameB_iff.1 e)

theorem ret_bool {a b : Bool} (h : a = b) : Ending.returned (.bool a) = .returned (.bool b) := by rw [h]

theorem letter_impl (n : Int) (w : World) : Calls Try.prog 21 #[.int .u8 n] w fun e w' => e = .returned (.bool (letB n)) ∧ w' = w := by
  go_enter Try.func21, Try.ntmps21
  go_wp2
  all_goals
    go_ret
    exact ⟨ret_bool (by rw [Bool.eq_iff_iff]; simp [letB]; omega), rfl⟩

theorem digit_impl (n : Int) (w : World) : Calls Try.prog 22 #[.int .u8 n] w fun e w' => e = .returned (.bool (digB n)) ∧ w' = w := by
  go_enter Try.func22, Try.ntmps22
  go_wp2
  all_goals
    go_ret
    exact ⟨ret_bool (by rw [Bool.eq_iff_iff]; simp [digB]; omega), rfl⟩

theorem letter_spec (n : Int) (w : World) : Calls Try.prog 40 #[.int .u8 n] w fun e w' => e = .returned (.bool (letB n)) ∧ w' = w := by
  go_enter Try.func40, Try.ntmps40
  go_wp2
  all_goals
    go_ret
    exact ⟨ret_bool (by rw [Bool.eq_iff_iff]; simp [letB]; omega), rfl⟩

theorem digit_spec (n : Int) (w : World) : Calls Try.prog 41 #[.int .u8 n] w fun e w' => e = .returned (.bool (digB n)) ∧ w' = w := by
  go_enter Try.func41, Try.ntmps41
  go_wp2
  all_goals
    go_ret
    exact ⟨ret_bool (by rw [Bool.eq_iff_iff]; simp [digB]; omega), rfl⟩

theorem okAt_letter {s : ByteArray} {k : Nat} (h : k < s.size) (hl : letB (s[k].toNat : Int) = true) : OkAt s k := fun _ => .inl hl
theorem okAt_digit {s : ByteArray} {k : Nat} (h : k < s.size) (hk : 0 < k) (hl : digB (s[k].toNat : Int) = true) : OkAt s k := fun _ => .inr ⟨hk, hl⟩
theorem below_succ {s : ByteArray} {k : Nat} (h : ∀ j, j < k → OkAt s j) (hk : OkAt s k) : ∀ j, j < k + 1 → OkAt s j := by
  intro j hj
  by_cases e : j = k
  · subst e; exact hk
  · exact h j (by omega)
theorem bad_at {s : ByteArray} {k : Nat} (h : k < s.size) (hl : letB (s[k].toNat : Int) = false) (hd : k = 0 ∨ digB (s[k].toNat : Int) = false) : nameB s = false := by
  refine nameB_false fun hn => ?_
  rcases hn.2.2 k h with h1 | ⟨h1, h2⟩
  · rw [hl] at h1; cases h1
  · rcases hd with rfl | hd
    · omega
    · rw [hd] at h2; cases h2

set_option maxHeartbeats 800000 in
theorem name_impl (s : ByteArray) (w : World) (hs : s.size ≤ maxLen) :
    Calls Try.prog 8 #[.string s] w fun e w' => e = .returned (.bool (nameB s)) ∧ w' = w := by
  unfold maxLen at hs
  by_cases h1 : s.size < 1
  · have HF := hide (nameB_false (s := s) (fun hn => by have := hn.1; omega))
    go_enter Try.func8, Try.ntmps8
    go_wp2
    go_ret
    exact ⟨ret_bool (unhide HF).symm, rfl⟩
  by_cases h2 : 40 < s.size
  · have HF := hide (nameB_false (s := s) (fun hn => by have := hn.2.1; omega))
    go_enter Try.func8, Try.ntmps8
    go_wp2
    go_ret
    exact ⟨ret_bool (unhide HF).symm, rfl⟩
  go_enter Try.func8, Try.ntmps8
  go_wp2
  go_loop [3] (fun i => ∃ k : Nat, k ≤ s.size ∧ i = .int .i64 k ∧ Hid (∀ j, j < k → OkAt s j)) (fun i => s.size - (intOf i).toNat)
  case atStart => exact ⟨0, Nat.zero_le _, rfl, hide (fun j hj => by omega)⟩
  case round =>
    obtain ⟨k, hk, rfl, HA⟩ := hrel
    by_cases hlt : k < s.size
    · by_cases hl : letB (s[k].toNat : Int) = true
      · have HN := hide (below_succ (unhide HA) (okAt_letter hlt hl))
        go_wp2_with (first | (go_at_call 21; refine (letter_impl _ _).mono ?_; rintro e w' ⟨rfl, rfl⟩) | (go_at_call 22; refine (digit_impl _ _).mono ?_; rintro e w' ⟨rfl, rfl⟩))
        go_round
        case rel => exact ⟨k + 1, by omega, by go_num, HN⟩
        case measure => simp [intOf]; omega
      · have hl' : letB (s[k].toNat : Int) = false := by simpa using hl
        clear hl
        by_cases hk0 : k = 0
        · have hz : ((k : Int) == 0) = true := by simp [hk0]
          have HF := hide (bad_at hlt hl' (.inl hk0))
          clear hk0
          go_wp2_with (first | (go_at_call 21; refine (letter_impl _ _).mono ?_; rintro e w' ⟨rfl, rfl⟩) | (go_at_call 22; refine (digit_impl _ _).mono ?_; rintro e w' ⟨rfl, rfl⟩))
          go_ret
          exact ⟨ret_bool (unhide HF).symm, rfl⟩
        · have hz : ((k : Int) == 0) = false := by simp [hk0]
          by_cases hd : digB (s[k].toNat : Int) = true
          · have HN := hide (below_succ (unhide HA) (okAt_digit hlt (by omega) hd))
            go_wp2_with (first | (go_at_call 21; refine (letter_impl _ _).mono ?_; rintro e w' ⟨rfl, rfl⟩) | (go_at_call 22; refine (digit_impl _ _).mono ?_; rintro e w' ⟨rfl, rfl⟩))
            go_round
            case rel => exact ⟨k + 1, by omega, by go_num, HN⟩
            case measure => simp [intOf]; omega
          · have hd' : digB (s[k].toNat : Int) = false := by simpa using hd
            clear hd
            have HF := hide (bad_at hlt hl' (.inr hd'))
            go_wp2_with (first | (go_at_call 21; refine (letter_impl _ _).mono ?_; rintro e w' ⟨rfl, rfl⟩) | (go_at_call 22; refine (digit_impl _ _).mono ?_; rintro e w' ⟨rfl, rfl⟩))
            go_ret
            exact ⟨ret_bool (unhide HF).symm, rfl⟩
    · have HF := hide (nameB_true (s := s) ⟨by omega, by omega, fun j => by
        by_cases hj : j < k
        · exact unhide HA j hj
        · exact fun h => by omega⟩)
      go_wp2
      go_ret
      exact ⟨ret_bool (unhide HF).symm, rfl⟩

theorem first_bad {s : ByteArray} (h : 0 < s.size) (hl : letB (s[0].toNat : Int) = false) : nameB s = false := bad_at h hl (.inl rfl)

set_option maxHeartbeats 800000 in
theorem name_spec (s : ByteArray) (w : World) (hs : s.size ≤ maxLen) :
    Calls Try.prog 20 #[.string s] w fun e w' => e = .returned (.bool (nameB s)) ∧ w' = w := by
  unfold maxLen at hs
  by_cases h1 : s.size < 1
  · have HF := hide (nameB_false (s := s) (fun hn => by have := hn.1; omega))
    go_enter Try.func20, Try.ntmps20
    go_wp2
    go_ret
    exact ⟨ret_bool (unhide HF).symm, rfl⟩
  by_cases h2 : 40 < s.size
  · have HF := hide (nameB_false (s := s) (fun hn => by have := hn.2.1; omega))
    go_enter Try.func20, Try.ntmps20
    go_wp2
    go_ret
    exact ⟨ret_bool (unhide HF).symm, rfl⟩
  have h3 : 0 < s.size := by omega
  by_cases h4 : letB (s[0].toNat : Int) = true
  · have HA0 := hide (okAt_letter h3 h4)
    go_enter Try.func20, Try.ntmps20
    go_wp2_with (go_at_call 40; refine (letter_spec _ _).mono ?_; rintro e w' ⟨rfl, rfl⟩)
    go_loop [3] (fun i => ∃ k : Nat, 1 ≤ k ∧ k ≤ s.size ∧ i = .int .i64 k ∧ Hid (∀ j, j < k → OkAt s j)) (fun i => s.size - (intOf i).toNat)
    case atStart => exact ⟨1, by omega, by omega, rfl, hide (below_succ (k := 0) (fun j hj => by omega) (unhide HA0))⟩
    case round =>
      obtain ⟨k, hk1, hk, rfl, HA⟩ := hrel
      by_cases hlt : k < s.size
      · by_cases hl : letB (s[k].toNat : Int) = true
        · have HN := hide (below_succ (unhide HA) (okAt_letter hlt hl))
          go_wp2_with (first | (go_at_call 40; refine (letter_spec _ _).mono ?_; rintro e w' ⟨rfl, rfl⟩) | (go_at_call 41; refine (digit_spec _ _).mono ?_; rintro e w' ⟨rfl, rfl⟩))
          go_round
          case rel => exact ⟨k + 1, by omega, by omega, by go_num, HN⟩
          case measure => simp [intOf]; omega
        · have hl' : letB (s[k].toNat : Int) = false := by simpa using hl
          clear hl
          by_cases hd : digB (s[k].toNat : Int) = true
          · have HN := hide (below_succ (unhide HA) (okAt_digit hlt (by omega) hd))
            go_wp2_with (first | (go_at_call 40; refine (letter_spec _ _).mono ?_; rintro e w' ⟨rfl, rfl⟩) | (go_at_call 41; refine (digit_spec _ _).mono ?_; rintro e w' ⟨rfl, rfl⟩))
            go_round
            case rel => exact ⟨k + 1, by omega, by omega, by go_num, HN⟩
            case measure => simp [intOf]; omega
          · have hd' : digB (s[k].toNat : Int) = false := by simpa using hd
            clear hd
            have HF := hide (bad_at hlt hl' (.inr hd'))
            go_wp2_with (first | (go_at_call 40; refine (letter_spec _ _).mono ?_; rintro e w' ⟨rfl, rfl⟩) | (go_at_call 41; refine (digit_spec _ _).mono ?_; rintro e w' ⟨rfl, rfl⟩))
            go_ret
            exact ⟨ret_bool (unhide HF).symm, rfl⟩
      · have HF := hide (nameB_true (s := s) ⟨by omega, by omega, fun j => by
          by_cases hj : j < k
          · exact unhide HA j hj
          · exact fun h => by omega⟩)
        go_wp2
        go_ret
        exact ⟨ret_bool (unhide HF).symm, rfl⟩
  · have h5 : letB (s[0].toNat : Int) = false := by simpa using h4
    have HF := hide (first_bad h3 h5)
    clear h4
    go_enter Try.func20, Try.ntmps20
    go_wp2_with (go_at_call 40; refine (letter_spec _ _).mono ?_; rintro e w' ⟨rfl, rfl⟩)
    go_ret
    exact ⟨ret_bool (unhide HF).symm, rfl⟩

theorem name_spec4 (s : ByteArray) (w : World) (hs : s.size ≤ maxLen) :
    Calls Try.prog 7 #[.string s] w fun e w' => e = .returned (.bool (nameB s)) ∧ w' = w := by
  go_enter Try.func7, Try.ntmps7
  go_wp2_with (go_at_call 20; refine (name_spec _ _ hs).mono ?_; rintro e w' ⟨rfl, rfl⟩)
  go_ret
  exact ⟨rfl, rfl⟩

/-- The law's own walk: it answers true, and the world has not turned. -/
theorem law (s : ByteArray) (w : World) (hs : s.size ≤ maxLen) :
    Calls Try.prog 3 #[.string s] w fun e w' => e = .returned (.bool true) ∧ w' = w := by
  have hs' := hs
  unfold maxLen at hs'
  by_cases h : 1048576 < s.size
  · go_enter Try.func3, Try.ntmps3
    go_wp2
    go_ret
    exact ⟨rfl, rfl⟩
  · go_enter Try.func3, Try.ntmps3
    go_wp2_with (first | (go_at_call 7; refine (name_spec4 _ _ hs).mono ?_; rintro e w' ⟨rfl, rfl⟩) | (go_at_call 8; refine (name_impl _ _ hs).mono ?_; rintro e w' ⟨rfl, rfl⟩))
    go_ret
    exact ⟨rfl, rfl⟩

end Go.Proofs.Ytgcbofhjgomjoab.NameW
