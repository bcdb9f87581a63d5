/- The walks of impl.CodeWord, impl.CodeOf and of their models. -/
import Derived.Test.YtgcbofhjgomjoabDoorRows
import Derived.WalkKit
import Derived.ProofKit
import Derived.OpenShut
import Derived.ShutString
import Derived.WalkSpells
namespace Go.Proofs.YtgcbofhjgomjoabDoor.CodeW
open Go.RowKit

theorem hide {p : Prop} (h : p) : Hid p := h
theorem unhide {p : Prop} (h : Hid p) : p := h

def wordL : List ByteArray := [⟨#[111, 107]⟩, ⟨#[98, 97, 100]⟩, ⟨#[108, 111, 110, 103]⟩, ⟨#[102, 111, 114, 109]⟩, ⟨#[114, 97, 110, 103, 101]⟩, ⟨#[110, 111, 110, 101]⟩, ⟨#[109, 97, 110, 121]⟩, ⟨#[102, 117, 108, 108]⟩, ⟨#[116, 119, 105, 99, 101]⟩, ⟨#[104, 101, 108, 100]⟩, ⟨#[102, 101, 110, 99, 101, 100]⟩, ⟨#[97, 108, 105, 118, 101]⟩, ⟨#[110, 97, 109, 101]⟩, ⟨#[115, 116, 97, 108, 101]⟩, ⟨#[112, 108, 97, 99, 101]⟩, ⟨#[99, 108, 111, 115, 101, 100]⟩, ⟨#[111, 112, 101, 110]⟩, ⟨#[111, 114, 100, 101, 114]⟩, ⟨#[98, 114, 111, 107, 101, 110]⟩, ⟨#[97, 98, 111, 114, 116]⟩]
def wordAt (n : Nat) : ByteArray := wordL.getD n ⟨#[]⟩
def wordI (n : Int) : ByteArray := if n < 0 then ⟨#[]⟩ else wordAt n.toNat

theorem wordI_neg {n : Int} (h : n < 0) : wordI n = ⟨#[]⟩ := by simp [wordI, h]
theorem wordI_big {n : Int} (h : 20 ≤ n) : wordI n = ⟨#[]⟩ := by
  have : ¬ n < 0 := by omega
  simp only [wordI, this, if_false, wordAt]
  rw [List.getD_eq_getElem?_getD, List.getElem?_eq_none (by simp [wordL]; omega)]
  rfl
theorem wordI_nat (k : Nat) : wordI (k : Int) = wordAt k := by
  have : ¬ (k : Int) < 0 := by omega
  simp [wordI, this]

theorem lit_at (k : Nat) (h : k < 20) : [Value.string { data := #[111, 107] }, Value.string { data := #[98, 97, 100] }, Value.string { data := #[108, 111, 110, 103] }, Value.string { data := #[102, 111, 114, 109] }, Value.string { data := #[114, 97, 110, 103, 101] }, Value.string { data := #[110, 111, 110, 101] }, Value.string { data := #[109, 97, 110, 121] }, Value.string { data := #[102, 117, 108, 108] }, Value.string { data := #[116, 119, 105, 99, 101] }, Value.string { data := #[104, 101, 108, 100] }, Value.string { data := #[102, 101, 110, 99, 101, 100] }, Value.string { data := #[97, 108, 105, 118, 101] }, Value.string { data := #[110, 97, 109, 101] }, Value.string { data := #[115, 116, 97, 108, 101] }, Value.string { data := #[112, 108, 97, 99, 101] }, Value.string { data := #[99, 108, 111, 115, 101, 100] }, Value.string { data := #[111, 112, 101, 110] }, Value.string { data := #[111, 114, 100, 101, 114] }, Value.string { data := #[98, 114, 111, 107, 101, 110] }, Value.string { data := #[97, 98, 111, 114, 116] }][k]? = some (.string (wordAt k)) := by
  show (wordL.map Value.string)[k]? = _
  have hl : k < wordL.length := by simpa [wordL] using h
  simp [wordAt, List.getD_eq_getElem?_getD, List.getElem?_eq_getElem hl]

theorem beq_false {a b : ByteArray} (h : a ≠ b) : (a.toList == b.toList) = false := by
  rw [beq_eq_false_iff_ne]
  intro e
  rw [ByteArray.toList_eq, ByteArray.toList_eq] at e
  apply h
  cases a; cases b
  simpa using Array.toList_inj.1 e

theorem ret_str {a b : ByteArray} (h : a = b) : Ending.returned (.string a) = .returned (.string b) := by rw [h]

/-- The table of words lies in the variable. -/
def Tab (w : World) : Prop := ∀ i : Nat, i < 20 → w.cell? ⟨0, i, none⟩ = some (.string (wordAt i))

theorem word_impl (n : Int) (w : World) (hT : Tab w) : Calls Tryd.prog 6 #[.int .i64 n] w fun e w' => e = .returned (.string (wordI n)) ∧ w' = w := by
  by_cases h0 : n < 0
  · have H := hide (wordI_neg h0)
    go_enter Tryd.func6, Tryd.ntmps6
    go_wp2
    go_ret
    exact ⟨ret_str (unhide H).symm, rfl⟩
  by_cases h1 : 20 ≤ n
  · have H := hide (wordI_big h1)
    go_enter Tryd.func6, Tryd.ntmps6
    go_wp2
    go_ret
    exact ⟨ret_str (unhide H).symm, rfl⟩
  obtain ⟨k, rfl⟩ := Int.eq_ofNat_of_zero_le (Int.not_lt.1 h0)
  have H := hide (wordI_nat k)
  have hc := hT k (by omega)
  go_enter Tryd.func6, Tryd.ntmps6
  go_wp2
  go_ret
  exact ⟨ret_str (unhide H).symm, rfl⟩

theorem word_spec (n : Int) (w : World) : Calls Tryd.prog 5 #[.int .i64 n] w fun e w' => e = .returned (.string (wordI n)) ∧ Below w.heap.size w w' := by
  by_cases h0 : n < 0
  · have H := hide (wordI_neg h0)
    go_enter Tryd.func5, Tryd.ntmps5
    go_wp2
    go_ret
    exact ⟨ret_str (unhide H).symm, by first | exact Below.refl _ _ | exact (Below.refl _ _).alloc (Nat.le_refl _) _⟩
  by_cases h1 : 20 ≤ n
  · have H := hide (wordI_big h1)
    go_enter Tryd.func5, Tryd.ntmps5
    go_wp2
    go_ret
    exact ⟨ret_str (unhide H).symm, by first | exact Below.refl _ _ | exact (Below.refl _ _).alloc (Nat.le_refl _) _⟩
  obtain ⟨k, rfl⟩ := Int.eq_ofNat_of_zero_le (Int.not_lt.1 h0)
  have H := hide (wordI_nat k)
  have hl := lit_at k (by omega)
  go_enter Tryd.func5, Tryd.ntmps5
  go_wp2
  go_ret
  exact ⟨ret_str (unhide H).symm, by first | exact Below.refl _ _ | exact (Below.refl _ _).alloc (Nat.le_refl _) _⟩

def IsFirst (s : ByteArray) (k : Nat) : Prop := k < 20 ∧ wordAt k = s ∧ ∀ j, j < k → wordAt j ≠ s
def codeOf (s : ByteArray) : Int := match (List.range 20).find? (fun k => decide (wordAt k = s)) with
  | some k => (k : Int)
  | none => -1

theorem codeOf_hit {s : ByteArray} {k : Nat} (h : IsFirst s k) : codeOf s = k := by
  have hf : (List.range 20).find? (fun k => decide (wordAt k = s)) = some k := by
    rw [List.find?_range_eq_some]
    exact ⟨by simp [h.2.1], by simpa using h.1, fun j hj => by simpa using h.2.2 j hj⟩
  rw [codeOf, hf]
theorem codeOf_miss {s : ByteArray} (h : ∀ j, j < 20 → wordAt j ≠ s) : codeOf s = -1 := by
  have hf : (List.range 20).find? (fun k => decide (wordAt k = s)) = none := by
    rw [List.find?_eq_none]
    intro j hj
    simpa using h j (List.mem_range.1 hj)
  rw [codeOf, hf]

theorem ret_int {a b : Int} (h : a = b) : Ending.returned (.int .i64 a) = .returned (.int .i64 b) := by rw [h]
theorem none_succ {s : ByteArray} {k : Nat} (h : ∀ j, j < k → wordAt j ≠ s) (hk : wordAt k ≠ s) : ∀ j, j < k + 1 → wordAt j ≠ s := by
  intro j hj
  by_cases e : j = k
  · subst e; exact hk
  · exact h j (by omega)

theorem code_impl (s : ByteArray) (w : World) (hT : Tab w) : Calls Tryd.prog 8 #[.string s] w fun e w' => e = .returned (.int .i64 (codeOf s)) ∧ w' = w := by
  have HT := hide hT
  clear hT
  go_enter Tryd.func8, Tryd.ntmps8
  go_wp2
  go_loop [3] (fun i => ∃ k : Nat, k ≤ 20 ∧ i = .int .i64 k ∧ Hid (∀ j, j < k → wordAt j ≠ s)) (fun i => 20 - (intOf i).toNat)
  case atStart => exact ⟨0, Nat.zero_le _, rfl, hide (fun j hj => by omega)⟩
  case round =>
    obtain ⟨k, hk, rfl, HA⟩ := hrel
    by_cases hlt : k < 20
    · have hc := unhide HT k hlt
      by_cases e : wordAt k = s
      · have H := hide (codeOf_hit ⟨hlt, e, unhide HA⟩)
        have eb : ((wordAt k).toList == s.toList) = true := by simp [e]
        clear e
        go_wp2
        go_ret
        exact ⟨ret_int (unhide H).symm, rfl⟩
      · have HN := hide (none_succ (unhide HA) e)
        have eb : ((wordAt k).toList == s.toList) = false := beq_false e
        clear e
        go_wp2
        go_round
        case rel => exact ⟨k + 1, by omega, by go_num, HN⟩
        case measure => simp [intOf]; omega
    · have H := hide (codeOf_miss (s := s) (fun j hj => unhide HA j (by omega)))
      go_wp2
      go_ret
      exact ⟨ret_int (unhide H).symm, rfl⟩

theorem code_spec (s : ByteArray) (w : World) : Calls Tryd.prog 7 #[.string s] w fun e w' => e = .returned (.int .i64 (codeOf s)) ∧ Below w.heap.size w w' := by
  go_enter Tryd.func7, Tryd.ntmps7
  go_wp2
  go_loopw [3] (fun i wr => ∃ k : Nat, k ≤ 20 ∧ i = .int .i64 k ∧ Hid (∀ j, j < k → wordAt j ≠ s) ∧ Below w.heap.size w wr) (fun i _ => 20 - (intOf i).toNat)
  case atStart => exact ⟨0, Nat.zero_le _, rfl, hide (fun j hj => by omega), Below.refl _ _⟩
  case round =>
    obtain ⟨k, hk, rfl, HA, hg⟩ := hrel
    have HG := hide hg
    clear hg
    by_cases hlt : k < 20
    · have HW := hide (wordI_nat k)
      by_cases e : wordAt k = s
      · have H := hide (codeOf_hit ⟨hlt, e, unhide HA⟩)
        have eb : ((wordI (k : Int)).toList == s.toList) = true := by simp [e, wordI_nat]
        clear e
        go_wp2_with (go_at_call 5; refine (word_spec _ _).mono ?_; rintro e w' ⟨rfl, hg1⟩)
        go_ret
        exact ⟨ret_int (unhide H).symm, (unhide HG).trans (Below.mono (by assumption) (unhide HG).size)⟩
      · have HN := hide (none_succ (unhide HA) e)
        have eb : ((wordI (k : Int)).toList == s.toList) = false := by rw [wordI_nat]; exact beq_false e
        clear e
        go_wp2_with (go_at_call 5; refine (word_spec _ _).mono ?_; rintro e w' ⟨rfl, hg1⟩)
        go_roundw
        case rel => exact ⟨k + 1, by omega, by go_num, HN, (unhide HG).trans (Below.mono (by assumption) (unhide HG).size)⟩
        case measure => simp [intOf]; omega
    · have H := hide (codeOf_miss (s := s) (fun j hj => unhide HA j (by omega)))
      go_wp2
      go_ret
      exact ⟨ret_int (unhide H).symm, unhide HG⟩


theorem Tab.below {w w' : World} (h : Tab w) (hb : Below w.heap.size w w') : Tab w' := fun i hi => by
  have h1 := h i hi
  rw [← h1]
  refine hb.cell ?_
  show 0 < w.heap.size
  rcases Nat.eq_zero_or_pos w.heap.size with h0 | h0
  · exfalso
    have : w.cell? ⟨0, i, none⟩ = none := by
      simp [World.cell?, Array.size_eq_zero_iff.1 h0]
    rw [this] at h1
    cases h1
  · exact h0

theorem law_word (n : Int) (w : World) (hT : Tab w) : Calls Tryd.prog 3 #[.int .i64 n] w fun e w' => e = .returned (.bool true) ∧ Below w.heap.size w w' := by
  have HT := hide hT
  clear hT
  go_enter Tryd.func3, Tryd.ntmps3
  go_wp2_with fail
  refine (word_spec _ _).mono ?_
  rintro e w1 ⟨rfl, hb⟩
  have HT1 := hide ((unhide HT).below hb)
  have HB := hide hb
  clear hb
  go_wp2_with fail
  refine (word_impl _ _ (unhide HT1)).mono ?_
  rintro e w2 ⟨rfl, rfl⟩
  go_wp2
  go_ret
  exact ⟨rfl, unhide HB⟩

theorem law_code (s : ByteArray) (w : World) (hs : s.size ≤ maxLen) (hT : Tab w) : Calls Tryd.prog 4 #[.string s] w fun e w' => e = .returned (.bool true) ∧ Below w.heap.size w w' := by
  have HT := hide hT
  clear hT
  unfold maxLen at hs
  by_cases h : 1048576 < s.size
  · go_enter Tryd.func4, Tryd.ntmps4
    go_wp2
    go_ret
    exact ⟨rfl, Below.refl _ _⟩
  go_enter Tryd.func4, Tryd.ntmps4
  go_wp2_with fail
  refine (code_spec _ _).mono ?_
  rintro e w1 ⟨rfl, hb⟩
  have HT1 := hide ((unhide HT).below hb)
  have HB := hide hb
  clear hb
  go_wp2_with fail
  refine (code_impl _ _ (unhide HT1)).mono ?_
  rintro e w2 ⟨rfl, rfl⟩
  go_wp2
  go_ret
  exact ⟨rfl, unhide HB⟩

end Go.Proofs.YtgcbofhjgomjoabDoor.CodeW
