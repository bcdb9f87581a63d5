/- Counts, plainly: when they are right, what is answered of them, their numbers and what a text says of them. -/
import Derived.Test.YtjoafbkcnnhdiaaGen
import Derived.Test.YtjoafbkcnnhdiaaInts
import Derived.Test.YtjoafbkcnnhdiaaUnP
import Derived.Test.YtjoafbkcnnhdiaaSealP
import Derived.Test.YtjoafbkcnnhdiaaClkB
namespace Go.Proofs.Ytjoafbkcnnhdiaa
open Go.RowKit
set_option linter.unusedVariables false
set_option maxRecDepth 100000

def cnt1 (n : Int) : Bool := betw n 0 15
/-- Counts that are right. -/
def ctB (xs : List Int) : Bool := decide (xs.length = 24) && xs.all cnt1
/-- The code of counts. -/
def ctF (xs : List Int) : Int := if 4096 < xs.length then 2 else if ctB xs = true then 0 else 1
/-- The code of counts and a cluster. -/
def cwF (xs : List Int) (c : Int) : Int := if ctF xs = 0 then (if betw c 0 23 = true then 0 else 4) else ctF xs
def zero24 : List Int := List.replicate 24 0
/-- What countsOf and countsWith hand on. -/
def coR (xs : List Int) : List Int := if ctF xs = 0 then xs else zero24
def cwR (xs : List Int) (c : Int) : List Int := if cwF xs c = 0 then xs else zero24

theorem ctB_len {xs : List Int} (h : ctB xs = true) : xs.length = 24 := by
  simp only [ctB, Bool.and_eq_true, decide_eq_true_eq] at h; exact h.1
theorem ctB_at {xs : List Int} (h : ctB xs = true) : ∀ i (hi : i < xs.length), 0 ≤ xs[i] ∧ xs[i] ≤ 15 := by
  intro i hi
  simp only [ctB, Bool.and_eq_true, decide_eq_true_eq, List.all_eq_true] at h
  exact betw_iff.1 (h.2 xs[i] (List.getElem_mem hi))
theorem ctB_of {xs : List Int} (hl : xs.length = 24) (h : ∀ i (hi : i < xs.length), cnt1 xs[i] = true) : ctB xs = true := by
  rw [ctB, decide_eq_true hl, all_of (p := cnt1) (fun i hi _ => h i hi)]; rfl
theorem ctB_nolen {xs : List Int} (hl : ¬ xs.length = 24) : ctB xs = false := by rw [ctB, decide_eq_false hl]; rfl
theorem ctB_noat {xs : List Int} {k : Nat} (hk : k < xs.length) (h : cnt1 xs[k] = false) : ctB xs = false := by rw [ctB, all_not (p := cnt1) hk h]; simp
theorem ctB_all {xs : List Int} (h : ∀ i (hi : i < xs.length), cnt1 xs[i] = true) : ctB xs = decide (xs.length = 24) := by
  rw [ctB, all_of (p := cnt1) (fun i hi _ => h i hi)]; simp
theorem ctF_long {xs : List Int} (h : 4096 < xs.length) : ctF xs = 2 := if_pos h
theorem ctF_bad {xs : List Int} (h : ¬ 4096 < xs.length) (hb : ctB xs = false) : ctF xs = 1 := by rw [ctF, if_neg h, if_neg (by simp [hb])]
theorem ctF_ok {xs : List Int} (hb : ctB xs = true) : ctF xs = 0 := by
  have := ctB_len hb
  rw [ctF, if_neg (by omega), if_pos hb]
theorem ctF_cases (xs : List Int) : (4096 < xs.length ∧ ctF xs = 2 ∧ coR xs = zero24) ∨ (¬ 4096 < xs.length ∧ ctB xs = false ∧ ctF xs = 1 ∧ coR xs = zero24) ∨ (ctB xs = true ∧ ctF xs = 0 ∧ coR xs = xs) := by
  by_cases h : 4096 < xs.length
  · exact .inl ⟨h, ctF_long h, by rw [coR, ctF_long h]; rfl⟩
  · cases hb : ctB xs
    · exact .inr (.inl ⟨h, rfl, ctF_bad h hb, by rw [coR, ctF_bad h hb]; rfl⟩)
    · exact .inr (.inr ⟨rfl, ctF_ok hb, by rw [coR, ctF_ok hb]; rfl⟩)
theorem coR_len (xs : List Int) : (coR xs).length = 24 := by
  rcases ctF_cases xs with ⟨_, _, h⟩ | ⟨_, _, _, h⟩ | ⟨hb, _, h⟩
  · rw [h]; rfl
  · rw [h]; rfl
  · rw [h]; exact ctB_len hb
theorem cwR_len (xs : List Int) (c : Int) : (cwR xs c).length = 24 := by
  unfold cwR
  split
  · rename_i h
    rcases ctF_cases xs with ⟨_, h1, _⟩ | ⟨_, _, h1, _⟩ | ⟨hb, _, _⟩
    · simp [cwF, h1] at h
    · simp [cwF, h1] at h
    · exact ctB_len hb
  · rfl

/-- What RefUp and RefDown answer. -/
def upF (xs : List Int) (c : Int) : Int := if cwF xs c = 0 then (if xs.getD c.toNat 0 = 15 then 6 else 0) else cwF xs c
def upL (xs : List Int) (c : Int) : List Int := if cwF xs c = 0 then (if xs.getD c.toNat 0 = 15 then xs else xs.set c.toNat (xs.getD c.toNat 0 + 1)) else []
def dnF (xs : List Int) (c : Int) : Int := if cwF xs c = 0 then (if xs.getD c.toNat 0 = 0 then 5 else 0) else cwF xs c
def dnL (xs : List Int) (c : Int) : List Int := if cwF xs c = 0 then (if xs.getD c.toNat 0 = 0 then xs else xs.set c.toNat (xs.getD c.toNat 0 - 1)) else []
/-- The first cluster with none, if there is one. -/
def frN (xs : List Int) : Nat := xs.findIdx (fun n => decide (n = 0))
def frC (xs : List Int) : Int := if ctF xs = 0 then (if frN xs < xs.length then 0 else 7) else ctF xs
def frR (xs : List Int) : Int := if ctF xs = 0 then (if frN xs < xs.length then (frN xs : Int) else 0) else 0
def smR (xs : List Int) : Int := if ctF xs = 0 then xs.sum else 0

/-- The three ways of RefUp and RefDown. -/
theorem cw_cases (xs : List Int) (c : Int) : (cwF xs c ≠ 0 ∧ cwR xs c = zero24 ∧ upF xs c = cwF xs c ∧ upL xs c = [] ∧ dnF xs c = cwF xs c ∧ dnL xs c = []) ∨ (ctB xs = true ∧ cwF xs c = 0 ∧ cwR xs c = xs ∧ ∃ q : Nat, c = (q : Int) ∧ q < xs.length) := by
  by_cases h : cwF xs c = 0
  · refine .inr ?_
    rcases ctF_cases xs with ⟨_, h1, _⟩ | ⟨_, _, h1, _⟩ | ⟨hb, h1, _⟩
    · simp [cwF, h1] at h
    · simp [cwF, h1] at h
    · refine ⟨hb, h, by rw [cwR, if_pos h], ?_⟩
      rw [cwF, if_pos h1] at h
      have hc : betw c 0 23 = true := by
        cases hq : betw c 0 23
        · rw [hq] at h; simp at h
        · rfl
      obtain ⟨h0, h2⟩ := betw_iff.1 hc
      exact ⟨c.toNat, by omega, by have := ctB_len hb; omega⟩
  · exact .inl ⟨h, if_neg h, if_neg h, if_neg h, if_neg h, if_neg h⟩
theorem up_at {xs : List Int} {q : Nat} (h : cwF xs (q : Int) = 0) (hq : q < xs.length) : (xs[q] = 15 → upF xs q = 6 ∧ upL xs q = xs) ∧ (¬ xs[q] = 15 → upF xs q = 0 ∧ upL xs q = xs.set q (xs[q] + 1)) := by
  have e : xs.getD (q : Int).toNat 0 = xs[q] := by simp [List.getD, hq]
  constructor
  · intro h15
    rw [upF, upL, if_pos h, if_pos h, e, if_pos h15, if_pos h15]; exact ⟨rfl, rfl⟩
  · intro h15
    rw [upF, upL, if_pos h, if_pos h, e, if_neg h15, if_neg h15]; exact ⟨rfl, by simp⟩
theorem dn_at {xs : List Int} {q : Nat} (h : cwF xs (q : Int) = 0) (hq : q < xs.length) : (xs[q] = 0 → dnF xs q = 5 ∧ dnL xs q = xs) ∧ (¬ xs[q] = 0 → dnF xs q = 0 ∧ dnL xs q = xs.set q (xs[q] - 1)) := by
  have e : xs.getD (q : Int).toNat 0 = xs[q] := by simp [List.getD, hq]
  constructor
  · intro h15
    rw [dnF, dnL, if_pos h, if_pos h, e, if_pos h15, if_pos h15]; exact ⟨rfl, rfl⟩
  · intro h15
    rw [dnF, dnL, if_pos h, if_pos h, e, if_neg h15, if_neg h15]; exact ⟨rfl, by simp⟩
theorem upL_len (xs : List Int) (c : Int) : (upL xs c).length ≤ 24 := by
  rcases cw_cases xs c with ⟨_, _, _, h, _⟩ | ⟨hb, h, _, q, rfl, hq⟩
  · rw [h]; exact Nat.zero_le _
  · have := ctB_len hb
    by_cases h15 : xs[q] = 15
    · rw [((up_at h hq).1 h15).2]; omega
    · rw [((up_at h hq).2 h15).2, List.length_set]; omega
theorem dnL_len (xs : List Int) (c : Int) : (dnL xs c).length ≤ 24 := by
  rcases cw_cases xs c with ⟨_, _, _, _, _, h⟩ | ⟨hb, h, _, q, rfl, hq⟩
  · rw [h]; exact Nat.zero_le _
  · have := ctB_len hb
    by_cases h15 : xs[q] = 0
    · rw [((dn_at h hq).1 h15).2]; omega
    · rw [((dn_at h hq).2 h15).2, List.length_set]; omega

/-- Six counts from the i-th on as one number: from the last one on, and from the first one on. -/
def hx6 (xs : List Int) (i : Nat) : Nat → Int
  | 0 => 0
  | m + 1 => 16 * hx6 xs i m + xs.getD (i + (5 - m)) 0
def lo6 (xs : List Int) (i : Nat) : Nat → Int
  | 0 => 0
  | m + 1 => lo6 xs i m + xs.getD (i + m) 0 * 16 ^ m
theorem hx_lo (xs : List Int) (i : Nat) : hx6 xs i 6 = lo6 xs i 6 := by
  simp only [hx6, lo6, Nat.sub_zero, Nat.reduceSub, Nat.add_zero]
  simp only [show (16 : Int) ^ 0 = 1 from rfl, show (16 : Int) ^ 1 = 16 from rfl, show (16 : Int) ^ 2 = 256 from rfl, show (16 : Int) ^ 3 = 4096 from rfl, show (16 : Int) ^ 4 = 65536 from rfl, show (16 : Int) ^ 5 = 1048576 from rfl]
  omega
theorem lo_in (xs : List Int) (i : Nat) (h : ∀ j, 0 ≤ xs.getD j 0 ∧ xs.getD j 0 ≤ 15) : ∀ m, 0 ≤ lo6 xs i m ∧ lo6 xs i m < 16 ^ m
  | 0 => by simp [lo6]
  | m + 1 => by
    obtain ⟨h0, h1⟩ := lo_in xs i h m
    obtain ⟨g0, g1⟩ := h (i + m)
    rw [lo6, show (16 : Int) ^ (m + 1) = 16 ^ m * 16 from Int.pow_succ 16 m]
    generalize (16 : Int) ^ m = P at *
    have a0 : 0 ≤ xs.getD (i + m) 0 * P := Int.mul_nonneg g0 (by omega)
    have a1 : xs.getD (i + m) 0 * P ≤ 15 * P := Int.mul_le_mul_of_nonneg_right g1 (by omega)
    omega
theorem ctB_getD {xs : List Int} (h : ctB xs = true) (j : Nat) : 0 ≤ xs.getD j 0 ∧ xs.getD j 0 ≤ 15 := by
  by_cases hj : j < xs.length
  · rw [List.getD, List.getElem?_eq_getElem hj]; exact ctB_at h j hj
  · rw [List.getD, List.getElem?_eq_none (by omega)]; decide
/-- The four numbers of counts, and their record. -/
def ctNs (xs : List Int) : List Int := [lo6 xs 0 6, lo6 xs 6 6, lo6 xs 12 6, lo6 xs 18 6]
def encT (xs : List Int) : ByteArray := sealS 2 (ctNs xs)
def erR (xs : List Int) : ByteArray := if ctF xs = 0 then encT xs else ⟨#[]⟩
theorem ctNs_in {xs : List Int} (h : ctB xs = true) : ∀ j (hj : j < (ctNs xs).length), 0 ≤ (ctNs xs)[j] ∧ (ctNs xs)[j] ≤ 16777215 := by
  have k : ∀ i, 0 ≤ lo6 xs i 6 ∧ lo6 xs i 6 ≤ 16777215 := fun i => by
    have := lo_in xs i (ctB_getD h) 6
    rw [show (16 : Int) ^ 6 = 16777216 from rfl] at this
    omega
  intro j hj
  match j, hj with
  | 0, _ => exact k 0
  | 1, _ => exact k 6
  | 2, _ => exact k 12
  | 3, _ => exact k 18
theorem ct_seal {xs : List Int} (h : ctB xs = true) : sealC 2 (ctNs xs) = 0 ∧ sealT 2 (ctNs xs) = encT xs := by
  have hi : intsB (ctNs xs) = true := by
    rw [intsB_len]
    · rfl
    · intro j hj
      have := ctNs_in h j hj
      simp [numB, inB]; omega
  have hc : sealC 2 (ctNs xs) = 0 := sealC_ok (listC_ok (by simp [ctNs]) hi) rfl
  exact ⟨hc, sealT_ok hc⟩
/-- The numbers when k counts are in. -/
def txN (xs : List Int) (k : Nat) : List Int := (List.range 4).map (fun q => lo6 xs (6 * q) (min 6 (k - 6 * q)))
theorem txN_len (xs : List Int) (k : Nat) : (txN xs k).length = 4 := by simp [txN]
theorem txN_zero (xs : List Int) : txN xs 0 = [0, 0, 0, 0] := by simp [txN, List.range_succ, lo6]
theorem txN_end (xs : List Int) : txN xs 24 = ctNs xs := by simp [txN, ctNs, List.range_succ]
theorem txN_get (xs : List Int) (k q : Nat) (h : q < (txN xs k).length) : (txN xs k)[q] = lo6 xs (6 * q) (min 6 (k - 6 * q)) := by simp [txN]
theorem txN_step (xs : List Int) (k : Nat) (hk : k < 24) : txN xs (k + 1) = (txN xs k).set (k / 6) (lo6 xs (6 * (k / 6)) (k % 6) + xs.getD k 0 * 16 ^ (k % 6)) := by
  apply List.ext_getElem
  · rw [List.length_set, txN_len, txN_len]
  · intro q h1 h2
    rw [txN_get, List.getElem_set]
    rw [txN_len] at h1
    split
    · rename_i e
      subst e
      have e2 : min 6 (k + 1 - 6 * (k / 6)) = k % 6 + 1 := by omega
      have e3 : 6 * (k / 6) + k % 6 = k := by omega
      rw [e2, lo6, e3]
    · rename_i e
      rw [txN_get]
      have e2 : min 6 (k + 1 - 6 * q) = min 6 (k - 6 * q) := by omega
      rw [e2]
theorem txN_at (xs : List Int) (k : Nat) (hk : k < 24) (h : k / 6 < (txN xs k).length) : (txN xs k)[k / 6] = lo6 xs (6 * (k / 6)) (k % 6) := by
  rw [txN_get]
  have e2 : min 6 (k - 6 * (k / 6)) = k % 6 := by omega
  rw [e2]
/-- The count shifted to its place, and laid upon those below it. -/
theorem pow_two (r : Nat) : (16 : Int) ^ r = 2 ^ (r * 4) := by
  rw [Nat.mul_comm, Int.pow_mul]; rfl
theorem or_place {xs : List Int} (h : ctB xs = true) (i k r : Nat) (hr : r < 6) : bits .or .i64 (lo6 xs i r) (xs.getD k 0 * 16 ^ r) = lo6 xs i r + xs.getD k 0 * 16 ^ r := by
  obtain ⟨h0, h1⟩ := lo_in xs i (ctB_getD h) r
  obtain ⟨g0, g1⟩ := ctB_getD h k
  have hp : (16 : Int) ^ r ≤ 1048576 := by
    match r, hr with
    | 0, _ => decide
    | 1, _ => decide
    | 2, _ => decide
    | 3, _ => decide
    | 4, _ => decide
    | 5, _ => decide
  have hp0 : 0 < (16 : Int) ^ r := Int.pow_pos (by omega)
  have e := pow_two r
  refine or_low (r * 4) _ _ h0 (by rw [← e]; exact h1) ?_ ?_ ?_ ?_
  · generalize (16 : Int) ^ r = P at *; omega
  · exact Int.mul_nonneg g0 (by omega)
  · rw [← e]; exact Int.mul_emod_left _ _
  · have : xs.getD k 0 * 16 ^ r ≤ 15 * 16 ^ r := Int.mul_le_mul_of_nonneg_right g1 (by omega)
    generalize (16 : Int) ^ r = P at *; omega
theorem fr_here {xs : List Int} {k : Nat} (hk : k < xs.length) (h0 : xs[k] = 0) (h : ∀ j (hj : j < xs.length), j < k → decide (xs[j] ≠ 0) = true) : frN xs = k := by
  unfold frN
  rw [List.findIdx_eq hk]
  refine ⟨by simp [h0], fun j hj => ?_⟩
  have := h j (by omega) hj
  simp only [decide_eq_true_eq] at this
  simp [this]
theorem fr_none {xs : List Int} (h : ∀ j (hj : j < xs.length), decide (xs[j] ≠ 0) = true) : ¬ frN xs < xs.length := by
  unfold frN
  rw [List.findIdx_lt_length]
  rintro ⟨x, hx, h0⟩
  obtain ⟨j, hj, rfl⟩ := List.getElem_of_mem hx
  have := h j hj
  simp at this h0
  exact this h0
theorem frC_here {xs : List Int} {k : Nat} (hb : ctB xs = true) (hk : k < xs.length) (h : frN xs = k) : frC xs = 0 ∧ frR xs = (k : Int) := by
  rw [frC, frR, if_pos (ctF_ok hb), if_pos (ctF_ok hb), if_pos (by omega), if_pos (by omega), h]; exact ⟨rfl, rfl⟩
theorem frC_none {xs : List Int} (hb : ctB xs = true) (h : ¬ frN xs < xs.length) : frC xs = 7 ∧ frR xs = 0 := by
  rw [frC, frR, if_pos (ctF_ok hb), if_pos (ctF_ok hb), if_neg h, if_neg h]; exact ⟨rfl, rfl⟩
theorem frC_bad {xs : List Int} (h : ctF xs ≠ 0) : frC xs = ctF xs ∧ frR xs = 0 ∧ smR xs = 0 := ⟨if_neg h, if_neg h, if_neg h⟩
theorem sum_take {xs : List Int} {k : Nat} (hk : k < xs.length) : (xs.take (k + 1)).sum = (xs.take k).sum + xs[k] := by
  rw [List.take_succ_eq_append_getElem hk, List.sum_append]; simp
theorem sum_in {xs : List Int} (hb : ctB xs = true) : ∀ k, k ≤ xs.length → 0 ≤ (xs.take k).sum ∧ (xs.take k).sum ≤ 15 * (k : Int)
  | 0, _ => by simp
  | k + 1, h => by
    obtain ⟨h0, h1⟩ := sum_in hb k (by omega)
    obtain ⟨g0, g1⟩ := ctB_at hb k (by omega)
    rw [sum_take (by omega)]
    omega
theorem sum_all {xs : List Int} {k : Nat} (hb : ctB xs = true) (hk : ¬ k < xs.length) : smR xs = (xs.take k).sum := by
  rw [smR, if_pos (ctF_ok hb), List.take_of_length_le (by omega)]
end Go.Proofs.Ytjoafbkcnnhdiaa
