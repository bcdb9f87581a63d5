import Derived.Test.YtkndabnngdjcgaaDoorXReqTextPart1
import Derived.Test.YtkndabnngdjcgaaDoorXReqTextPart2
import Derived.WalkKit
import Derived.Laws.BytesArg
import Derived.Test.YtkndabnngdjcgaaDoorRows
import Derived.WalkSpells

/- Counts, plainly: when they are right, what is answered of them, their numbers and what a text says of them. -/
namespace Go.Proofs.YtkndabnngdjcgaaDoor
open Go.RowKit
set_option linter.unusedVariables false
set_option maxRecDepth 100000

def cnt1 (n : Int) : Bool := betw n 0 15
/-- Counts that are right. -/
def ctB (xs : List Int) : Bool := decide (xs.length = 24) && xs.all cnt1
/-- The code of counts. -/
def ctF (xs : List Int) : Int := if 4096 < xs.length then 2 else if ctB xs = true then 0 else 1
/-- The code of counts and a cluster. -/
def cwF (xs : List Int) (c : Int) : Int := if ctF xs = 0 then (if betw c 0 23 = true then 0 else 4) else ctF xs
def zero24 : List Int := List.replicate 24 0
/-- What countsOf and countsWith hand on. -/
def coR (xs : List Int) : List Int := if ctF xs = 0 then xs else zero24
def cwR (xs : List Int) (c : Int) : List Int := if cwF xs c = 0 then xs else zero24

theorem ctB_len {xs : List Int} (h : ctB xs = true) : xs.length = 24 := by
  simp only [ctB, Bool.and_eq_true, decide_eq_true_eq] at h; exact h.1
theorem ctB_at {xs : List Int} (h : ctB xs = true) : ∀ i (hi : i < xs.length), 0 ≤ xs[i] ∧ xs[i] ≤ 15 := by
  intro i hi
  simp only [ctB, Bool.and_eq_true, decide_eq_true_eq, List.all_eq_true] at h
  exact betw_iff.1 (h.2 xs[i] (List.getElem_mem hi))
theorem ctB_of {xs : List Int} (hl : xs.length = 24) (h : ∀ i (hi : i < xs.length), cnt1 xs[i] = true) : ctB xs = true := by
  rw [ctB, decide_eq_true hl, all_of (p := cnt1) (fun i hi _ => h i hi)]; rfl
theorem ctB_nolen {xs : List Int} (hl : ¬ xs.length = 24) : ctB xs = false := by rw [ctB, decide_eq_false hl]; rfl
theorem ctB_noat {xs : List Int} {k : Nat} (hk : k < xs.length) (h : cnt1 xs[k] = false) : ctB xs = false := by rw [ctB, all_not (p := cnt1) hk h]; simp
theorem ctB_all {xs : List Int} (h : ∀ i (hi : i < xs.length), cnt1 xs[i] = true) : ctB xs = decide (xs.length = 24) := by
  rw [ctB, all_of (p := cnt1) (fun i hi _ => h i hi)]; simp
theorem ctF_long {xs : List Int} (h : 4096 < xs.length) : ctF xs = 2 := if_pos h
theorem ctF_bad {xs : List Int} (h : ¬ 4096 < xs.length) (hb : ctB xs = false) : ctF xs = 1 := by rw [ctF, if_neg h, if_neg (by simp [hb])]
theorem ctF_ok {xs : List Int} (hb : ctB xs = true) : ctF xs = 0 := by
  have := ctB_len hb
  rw [ctF, if_neg (by omega), if_pos hb]
theorem ctF_cases (xs : List Int) : (4096 < xs.length ∧ ctF xs = 2 ∧ coR xs = zero24) ∨ (¬ 4096 < xs.length ∧ ctB xs = false ∧ ctF xs = 1 ∧ coR xs = zero24) ∨ (ctB xs = true ∧ ctF xs = 0 ∧ coR xs = xs) := by
  by_cases h : 4096 < xs.length
  · exact .inl ⟨h, ctF_long h, by rw [coR, ctF_long h]; rfl⟩
  · cases hb : ctB xs
    · exact .inr (.inl ⟨h, rfl, ctF_bad h hb, by rw [coR, ctF_bad h hb]; rfl⟩)
    · exact .inr (.inr ⟨rfl, ctF_ok hb, by rw [coR, ctF_ok hb]; rfl⟩)
theorem coR_len (xs : List Int) : (coR xs).length = 24 := by
  rcases ctF_cases xs with ⟨_, _, h⟩ | ⟨_, _, _, h⟩ | ⟨hb, _, h⟩
  · rw [h]; rfl
  · rw [h]; rfl
  · rw [h]; exact ctB_len hb
theorem cwR_len (xs : List Int) (c : Int) : (cwR xs c).length = 24 := by
  unfold cwR
  split
  · rename_i h
    rcases ctF_cases xs with ⟨_, h1, _⟩ | ⟨_, _, h1, _⟩ | ⟨hb, _, _⟩
    · simp [cwF, h1] at h
    · simp [cwF, h1] at h
    · exact ctB_len hb
  · rfl

/-- What RefUp and RefDown answer. -/
def upF (xs : List Int) (c : Int) : Int := if cwF xs c = 0 then (if xs.getD c.toNat 0 = 15 then 6 else 0) else cwF xs c
def upL (xs : List Int) (c : Int) : List Int := if cwF xs c = 0 then (if xs.getD c.toNat 0 = 15 then xs else xs.set c.toNat (xs.getD c.toNat 0 + 1)) else []
def dnF (xs : List Int) (c : Int) : Int := if cwF xs c = 0 then (if xs.getD c.toNat 0 = 0 then 5 else 0) else cwF xs c
def dnL (xs : List Int) (c : Int) : List Int := if cwF xs c = 0 then (if xs.getD c.toNat 0 = 0 then xs else xs.set c.toNat (xs.getD c.toNat 0 - 1)) else []
/-- The first cluster with none, if there is one. -/
def frN (xs : List Int) : Nat := xs.findIdx (fun n => decide (n = 0))
def frC (xs : List Int) : Int := if ctF xs = 0 then (if frN xs < xs.length then 0 else 7) else ctF xs
def frR (xs : List Int) : Int := if ctF xs = 0 then (if frN xs < xs.length then (frN xs : Int) else 0) else 0
def smR (xs : List Int) : Int := if ctF xs = 0 then xs.sum else 0

/-- The three ways of RefUp and RefDown. -/
theorem cw_cases (xs : List Int) (c : Int) : (cwF xs c ≠ 0 ∧ cwR xs c = zero24 ∧ upF xs c = cwF xs c ∧ upL xs c = [] ∧ dnF xs c = cwF xs c ∧ dnL xs c = []) ∨ (ctB xs = true ∧ cwF xs c = 0 ∧ cwR xs c = xs ∧ ∃ q : Nat, c = (q : Int) ∧ q < xs.length) := by
  by_cases h : cwF xs c = 0
  · refine .inr ?_
    rcases ctF_cases xs with ⟨_, h1, _⟩ | ⟨_, _, h1, _⟩ | ⟨hb, h1, _⟩
    · simp [cwF, h1] at h
    · simp [cwF, h1] at h
    · refine ⟨hb, h, by rw [cwR, if_pos h], ?_⟩
      rw [cwF, if_pos h1] at h
      have hc : betw c 0 23 = true := by
        cases hq : betw c 0 23
        · rw [hq] at h; simp at h
        · rfl
      obtain ⟨h0, h2⟩ := betw_iff.1 hc
      exact ⟨c.toNat, by omega, by have := ctB_len hb; omega⟩
  · exact .inl ⟨h, if_neg h, if_neg h, if_neg h, if_neg h, if_neg h⟩
theorem up_at {xs : List Int} {q : Nat} (h : cwF xs (q : Int) = 0) (hq : q < xs.length) : (xs[q] = 15 → upF xs q = 6 ∧ upL xs q = xs) ∧ (¬ xs[q] = 15 → upF xs q = 0 ∧ upL xs q = xs.set q (xs[q] + 1)) := by
  have e : xs.getD (q : Int).toNat 0 = xs[q] := by simp [List.getD, hq]
  constructor
  · intro h15
    rw [upF, upL, if_pos h, if_pos h, e, if_pos h15, if_pos h15]; exact ⟨rfl, rfl⟩
  · intro h15
    rw [upF, upL, if_pos h, if_pos h, e, if_neg h15, if_neg h15]; exact ⟨rfl, by simp⟩
theorem dn_at {xs : List Int} {q : Nat} (h : cwF xs (q : Int) = 0) (hq : q < xs.length) : (xs[q] = 0 → dnF xs q = 5 ∧ dnL xs q = xs) ∧ (¬ xs[q] = 0 → dnF xs q = 0 ∧ dnL xs q = xs.set q (xs[q] - 1)) := by
  have e : xs.getD (q : Int).toNat 0 = xs[q] := by simp [List.getD, hq]
  constructor
  · intro h15
    rw [dnF, dnL, if_pos h, if_pos h, e, if_pos h15, if_pos h15]; exact ⟨rfl, rfl⟩
  · intro h15
    rw [dnF, dnL, if_pos h, if_pos h, e, if_neg h15, if_neg h15]; exact ⟨rfl, by simp⟩
theorem upL_len (xs : List Int) (c : Int) : (upL xs c).length ≤ 24 := by
  rcases cw_cases xs c with ⟨_, _, _, h, _⟩ | ⟨hb, h, _, q, rfl, hq⟩
  · rw [h]; exact Nat.zero_le _
  · have := ctB_len hb
    by_cases h15 : xs[q] = 15
    · rw [((up_at h hq).1 h15).2]; omega
    · rw [((up_at h hq).2 h15).2, List.length_set]; omega
theorem dnL_len (xs : List Int) (c : Int) : (dnL xs c).length ≤ 24 := by
  rcases cw_cases xs c with ⟨_, _, _, _, _, h⟩ | ⟨hb, h, _, q, rfl, hq⟩
  · rw [h]; exact Nat.zero_le _
  · have := ctB_len hb
    by_cases h15 : xs[q] = 0
    · rw [((dn_at h hq).1 h15).2]; omega
    · rw [((dn_at h hq).2 h15).2, List.length_set]; omega

/-- Six counts from the i-th on as one number: from the last one on, and from the first one on. -/
def hx6 (xs : List Int) (i : Nat) : Nat → Int
  | 0 => 0
  | m + 1 => 16 * hx6 xs i m + xs.getD (i + (5 - m)) 0
def lo6 (xs : List Int) (i : Nat) : Nat → Int
  | 0 => 0
  | m + 1 => lo6 xs i m + xs.getD (i + m) 0 * 16 ^ m
theorem hx_lo (xs : List Int) (i : Nat) : hx6 xs i 6 = lo6 xs i 6 := by
  simp only [hx6, lo6, Nat.sub_zero, Nat.reduceSub, Nat.add_zero]
  simp only [show (16 : Int) ^ 0 = 1 from rfl, show (16 : Int) ^ 1 = 16 from rfl, show (16 : Int) ^ 2 = 256 from rfl, show (16 : Int) ^ 3 = 4096 from rfl, show (16 : Int) ^ 4 = 65536 from rfl, show (16 : Int) ^ 5 = 1048576 from rfl]
  omega
theorem lo_in (xs : List Int) (i : Nat) (h : ∀ j, 0 ≤ xs.getD j 0 ∧ xs.getD j 0 ≤ 15) : ∀ m, 0 ≤ lo6 xs i m ∧ lo6 xs i m < 16 ^ m
  | 0 => by simp [lo6]
  | m + 1 => by
    obtain ⟨h0, h1⟩ := lo_in xs i h m
    obtain ⟨g0, g1⟩ := h (i + m)
    rw [lo6, show (16 : Int) ^ (m + 1) = 16 ^ m * 16 from Int.pow_succ 16 m]
    generalize (16 : Int) ^ m = P at *
    have a0 : 0 ≤ xs.getD (i + m) 0 * P := Int.mul_nonneg g0 (by omega)
    have a1 : xs.getD (i + m) 0 * P ≤ 15 * P := Int.mul_le_mul_of_nonneg_right g1 (by omega)
    omega
theorem ctB_getD {xs : List Int} (h : ctB xs = true) (j : Nat) : 0 ≤ xs.getD j 0 ∧ xs.getD j 0 ≤ 15 := by
  by_cases hj : j < xs.length
  · rw [List.getD, List.getElem?_eq_getElem hj]; exact ctB_at h j hj
  · rw [List.getD, List.getElem?_eq_none (by omega)]; decide
/-- The four numbers of counts, and their record. -/
def ctNs (xs : List Int) : List Int := [lo6 xs 0 6, lo6 xs 6 6, lo6 xs 12 6, lo6 xs 18 6]
def encT (xs : List Int) : ByteArray := sealS 2 (ctNs xs)
def erR (xs : List Int) : ByteArray := if ctF xs = 0 then encT xs else ⟨#[]⟩
theorem ctNs_in {xs : List Int} (h : ctB xs = true) : ∀ j (hj : j < (ctNs xs).length), 0 ≤ (ctNs xs)[j] ∧ (ctNs xs)[j] ≤ 16777215 := by
  have k : ∀ i, 0 ≤ lo6 xs i 6 ∧ lo6 xs i 6 ≤ 16777215 := fun i => by
    have := lo_in xs i (ctB_getD h) 6
    rw [show (16 : Int) ^ 6 = 16777216 from rfl] at this
    omega
  intro j hj
  match j, hj with
  | 0, _ => exact k 0
  | 1, _ => exact k 6
  | 2, _ => exact k 12
  | 3, _ => exact k 18
theorem ct_seal {xs : List Int} (h : ctB xs = true) : sealC 2 (ctNs xs) = 0 ∧ sealT 2 (ctNs xs) = encT xs := by
  have hi : intsB (ctNs xs) = true := by
    rw [intsB_len]
    · rfl
    · intro j hj
      have := ctNs_in h j hj
      simp [numB, inB]; omega
  have hc : sealC 2 (ctNs xs) = 0 := sealC_ok (listC_ok (by simp [ctNs]) hi) rfl
  exact ⟨hc, sealT_ok hc⟩
/-- The numbers when k counts are in. -/
def txN (xs : List Int) (k : Nat) : List Int := (List.range 4).map (fun q => lo6 xs (6 * q) (min 6 (k - 6 * q)))
theorem txN_len (xs : List Int) (k : Nat) : (txN xs k).length = 4 := by simp [txN]
theorem txN_zero (xs : List Int) : txN xs 0 = [0, 0, 0, 0] := by simp [txN, List.range_succ, lo6]
theorem txN_end (xs : List Int) : txN xs 24 = ctNs xs := by simp [txN, ctNs, List.range_succ]
theorem txN_get (xs : List Int) (k q : Nat) (h : q < (txN xs k).length) : (txN xs k)[q] = lo6 xs (6 * q) (min 6 (k - 6 * q)) := by simp [txN]
theorem txN_step (xs : List Int) (k : Nat) (hk : k < 24) : txN xs (k + 1) = (txN xs k).set (k / 6) (lo6 xs (6 * (k / 6)) (k % 6) + xs.getD k 0 * 16 ^ (k % 6)) := by
  apply List.ext_getElem
  · rw [List.length_set, txN_len, txN_len]
  · intro q h1 h2
    rw [txN_get, List.getElem_set]
    rw [txN_len] at h1
    split
    · rename_i e
      subst e
      have e2 : min 6 (k + 1 - 6 * (k / 6)) = k % 6 + 1 := by omega
      have e3 : 6 * (k / 6) + k % 6 = k := by omega
      rw [e2, lo6, e3]
    · rename_i e
      rw [txN_get]
      have e2 : min 6 (k + 1 - 6 * q) = min 6 (k - 6 * q) := by omega
      rw [e2]
theorem txN_at (xs : List Int) (k : Nat) (hk : k < 24) (h : k / 6 < (txN xs k).length) : (txN xs k)[k / 6] = lo6 xs (6 * (k / 6)) (k % 6) := by
  rw [txN_get]
  have e2 : min 6 (k - 6 * (k / 6)) = k % 6 := by omega
  rw [e2]
/-- The count shifted to its place, and laid upon those below it. -/
theorem pow_two (r : Nat) : (16 : Int) ^ r = 2 ^ (r * 4) := by
  rw [Nat.mul_comm, Int.pow_mul]; rfl
theorem or_place {xs : List Int} (h : ctB xs = true) (i k r : Nat) (hr : r < 6) : bits .or .i64 (lo6 xs i r) (xs.getD k 0 * 16 ^ r) = lo6 xs i r + xs.getD k 0 * 16 ^ r := by
  obtain ⟨h0, h1⟩ := lo_in xs i (ctB_getD h) r
  obtain ⟨g0, g1⟩ := ctB_getD h k
  have hp : (16 : Int) ^ r ≤ 1048576 := by
    match r, hr with
    | 0, _ => decide
    | 1, _ => decide
    | 2, _ => decide
    | 3, _ => decide
    | 4, _ => decide
    | 5, _ => decide
  have hp0 : 0 < (16 : Int) ^ r := Int.pow_pos (by omega)
  have e := pow_two r
  refine or_low (r * 4) _ _ h0 (by rw [← e]; exact h1) ?_ ?_ ?_ ?_
  · generalize (16 : Int) ^ r = P at *; omega
  · exact Int.mul_nonneg g0 (by omega)
  · rw [← e]; exact Int.mul_emod_left _ _
  · have : xs.getD k 0 * 16 ^ r ≤ 15 * 16 ^ r := Int.mul_le_mul_of_nonneg_right g1 (by omega)
    generalize (16 : Int) ^ r = P at *; omega
theorem fr_here {xs : List Int} {k : Nat} (hk : k < xs.length) (h0 : xs[k] = 0) (h : ∀ j (hj : j < xs.length), j < k → decide (xs[j] ≠ 0) = true) : frN xs = k := by
  unfold frN
  rw [List.findIdx_eq hk]
  refine ⟨by simp [h0], fun j hj => ?_⟩
  have := h j (by omega) hj
  simp only [decide_eq_true_eq] at this
  simp [this]
theorem fr_none {xs : List Int} (h : ∀ j (hj : j < xs.length), decide (xs[j] ≠ 0) = true) : ¬ frN xs < xs.length := by
  unfold frN
  rw [List.findIdx_lt_length]
  rintro ⟨x, hx, h0⟩
  obtain ⟨j, hj, rfl⟩ := List.getElem_of_mem hx
  have := h j hj
  simp at this h0
  exact this h0
theorem frC_here {xs : List Int} {k : Nat} (hb : ctB xs = true) (hk : k < xs.length) (h : frN xs = k) : frC xs = 0 ∧ frR xs = (k : Int) := by
  rw [frC, frR, if_pos (ctF_ok hb), if_pos (ctF_ok hb), if_pos (by omega), if_pos (by omega), h]; exact ⟨rfl, rfl⟩
theorem frC_none {xs : List Int} (hb : ctB xs = true) (h : ¬ frN xs < xs.length) : frC xs = 7 ∧ frR xs = 0 := by
  rw [frC, frR, if_pos (ctF_ok hb), if_pos (ctF_ok hb), if_neg h, if_neg h]; exact ⟨rfl, rfl⟩
theorem frC_bad {xs : List Int} (h : ctF xs ≠ 0) : frC xs = ctF xs ∧ frR xs = 0 ∧ smR xs = 0 := ⟨if_neg h, if_neg h, if_neg h⟩
theorem sum_take {xs : List Int} {k : Nat} (hk : k < xs.length) : (xs.take (k + 1)).sum = (xs.take k).sum + xs[k] := by
  rw [List.take_succ_eq_append_getElem hk, List.sum_append]; simp
theorem sum_in {xs : List Int} (hb : ctB xs = true) : ∀ k, k ≤ xs.length → 0 ≤ (xs.take k).sum ∧ (xs.take k).sum ≤ 15 * (k : Int)
  | 0, _ => by simp
  | k + 1, h => by
    obtain ⟨h0, h1⟩ := sum_in hb k (by omega)
    obtain ⟨g0, g1⟩ := ctB_at hb k (by omega)
    rw [sum_take (by omega)]
    omega
theorem sum_all {xs : List Int} {k : Nat} (hb : ctB xs = true) (hk : ¬ k < xs.length) : smR xs = (xs.take k).sum := by
  rw [smR, if_pos (ctF_ok hb), List.take_of_length_le (by omega)]
end Go.Proofs.YtkndabnngdjcgaaDoor

/- Plain facts on records, of no program: when a text is just one. -/
namespace Go.Proofs.YtkndabnngdjcgaaDoor
open Go.RowKit
set_option linter.unusedVariables false

theorem byteAt_list (s : ByteArray) (k : Nat) : byteAt s k = ((s.data.toList[k]?.getD 0).toNat : Int) := by simp [byteAt]
theorem list_eq {a b : ByteArray} (h : a.data.toList = b.data.toList) : a = b := by
  cases a; cases b
  simpa using Array.toList_inj.1 h
theorem size_list (s : ByteArray) : s.data.toList.length = s.size := by simp
/-- Two texts of one length with alike bytes are one. -/
theorem bytes_eq {a b : ByteArray} (hs : a.size = b.size) (h : ∀ k, k < a.size → byteAt a k = byteAt b k) : a = b := by
  apply list_eq
  apply List.ext_getElem
  · rw [size_list, size_list, hs]
  · intro i h1 h2
    rw [size_list] at h1
    have := h i h1
    rw [byteAt_list, byteAt_list, List.getElem?_eq_getElem (by rw [size_list]; exact h1), List.getElem?_eq_getElem h2] at this
    simp only [Option.getD_some] at this
    exact UInt8.toNat_inj.1 (by omega)
theorem byteAt_nums {ns : List Int} {k : Nat} (h : k < ns.length) (h0 : 0 ≤ ns[k]) (h1 : ns[k] ≤ 255) : byteAt (strOfNums ns) k = ns[k] := by
  rw [byteAt_list, strOfNums_data, List.getElem?_map, List.getElem?_eq_getElem h]
  simp only [Option.map_some, Option.getD_some]
  have : ns[k].toNat < 256 := by omega
  rw [UInt8.toNat_ofNat_of_lt' (by simpa using this)]
  omega
theorem byteAt_left {a b : ByteArray} {k : Nat} (h : k < a.size) : byteAt (a ++ b) k = byteAt a k := by
  have e : (a ++ b).data.toList = a.data.toList ++ b.data.toList := by simp
  rw [byteAt_list, byteAt_list, e, List.getElem?_append_left (by rw [size_list]; exact h)]
theorem byteAt_right {a b : ByteArray} {k : Nat} (h : a.size ≤ k) : byteAt (a ++ b) k = byteAt b (k - a.size) := by
  have e : (a ++ b).data.toList = a.data.toList ++ b.data.toList := by simp
  rw [byteAt_list, byteAt_list, e, List.getElem?_append_right (by rw [size_list]; exact h), size_list]
theorem byteAt_cut {u : ByteArray} {a b j : Nat} (hb : b ≤ u.size) (h : a + j < b) : byteAt (u.extract a b) j = byteAt u (a + j) := by
  have e : (u.extract a b).data = u.data.extract a b := by simp
  unfold byteAt
  have : j < min b u.data.size - a := by have : b ≤ u.data.size := hb; omega
  rw [e, Array.getElem?_extract, if_pos this]

/-- The head and the body of a text. -/
def bodyT (s : ByteArray) : ByteArray := s.extract 4 s.size
def headT (s : ByteArray) : ByteArray := s.extract 0 2
theorem bodyT_size (s : ByteArray) : (bodyT s).size = s.size - 4 := by simp [bodyT]
theorem headT_size {s : ByteArray} (h : 4 ≤ s.size) : (headT s).size = 2 := by simp [headT]; omega
theorem headT_eq {s : ByteArray} (h : 4 ≤ s.size) : headT s = strOfNums [byteAt s 0, byteAt s 1] := by
  have h0 := byteAt_in s 0
  have h1 := byteAt_in s 1
  apply bytes_eq
  · rw [headT_size h, strOfNums_size]; rfl
  · intro k hk
    rw [headT_size h] at hk
    rw [headT, byteAt_cut (by omega) (by omega)]
    rcases (show k = 0 ∨ k = 1 by omega) with rfl | rfl
    · rw [byteAt_nums (by simp) (by simp; omega) (by simp; omega)]; simp
    · rw [byteAt_nums (by simp) (by simp; omega) (by simp; omega)]; simp
theorem bodyT_byte {s : ByteArray} {k : Nat} (h : 4 + k < s.size) : byteAt (bodyT s) k = byteAt s (4 + k) := by rw [bodyT, byteAt_cut (Nat.le_refl _) h]

/-- Numbers that are read are packed as they were. -/
theorem four_num (s : ByteArray) (i j : Nat) (hj : j < 4) : byteN (numAt s i) j = byteAt s (i + j) := by
  have h0 := byteAt_in s i
  have h1 := byteAt_in s (i + 1)
  have h2 := byteAt_in s (i + 2)
  have h3 := byteAt_in s (i + 3)
  unfold byteN numAt
  rcases (show j = 0 ∨ j = 1 ∨ j = 2 ∨ j = 3 by omega) with rfl | rfl | rfl | rfl
  · simp only [Nat.add_zero]; omega
  · show (byteAt s i + byteAt s (i + 1) * 256 + byteAt s (i + 2) * 65536 + byteAt s (i + 3) * 16777216) / 256 % 256 = _; omega
  · show (byteAt s i + byteAt s (i + 1) * 256 + byteAt s (i + 2) * 65536 + byteAt s (i + 3) * 16777216) / 65536 % 256 = _; omega
  · show (byteAt s i + byteAt s (i + 1) * 256 + byteAt s (i + 2) * 65536 + byteAt s (i + 3) * 16777216) / 16777216 % 256 = _; omega
theorem packL_at : ∀ (xs : List Int) (i j : Nat) (hi : i < xs.length) (hj : j < 4), (packL xs)[i * 4 + j]? = some (byteN xs[i] j)
  | [], i, _, hi, _ => absurd hi (Nat.not_lt_zero _)
  | x :: xs, 0, j, _, hj => by
    show (four x ++ packL xs)[0 * 4 + j]? = _
    rw [List.getElem?_append_left (by rw [four, fourTo_length]; omega)]
    simp [four, fourTo, hj]
  | x :: xs, i + 1, j, hi, hj => by
    show (four x ++ packL xs)[(i + 1) * 4 + j]? = _
    rw [List.getElem?_append_right (by rw [four, fourTo_length]; omega), four, fourTo_length, show (i + 1) * 4 + j - 4 = i * 4 + j by omega]
    have := packL_at xs i j (by simpa using hi) hj
    simpa using this
theorem pack_un {s : ByteArray} (h4 : s.size % 4 = 0) : packS (unL s) = s := by
  apply bytes_eq
  · rw [packS_size, unL_length]; omega
  · intro k hk
    rw [packS_size, unL_length] at hk
    have hq : k / 4 < (unL s).length := by rw [unL_length]; omega
    have h1 := packL_at (unL s) (k / 4) (k % 4) hq (by omega)
    rw [show k / 4 * 4 + k % 4 = k by omega, unL_get hq, four_num s _ _ (by omega), show k / 4 * 4 + k % 4 = k by omega] at h1
    obtain ⟨hkl, h2⟩ := List.getElem?_eq_some_iff.1 h1
    have hb := byteAt_in s k
    rw [packS, byteAt_nums hkl (by rw [h2]; omega) (by rw [h2]; omega), h2]

/-- A text is just one record. -/
def RecP (s : ByteArray) : Prop := 4 ≤ s.size ∧ kindB (byteAt s 0) = true ∧ byteAt s 3 = 0 ∧ ((bodyT s).size : Int) = byteAt s 1 * 4 ∧ byteAt s 2 = sumS (headT s ++ bodyT s) ∧ okU (bodyT s) = true
def recB (s : ByteArray) : Bool := decide (4 ≤ s.size) && (kindB (byteAt s 0) && (decide (byteAt s 3 = 0) && (decide (((bodyT s).size : Int) = byteAt s 1 * 4) && (decide (byteAt s 2 = sumS (headT s ++ bodyT s)) && okU (bodyT s)))))
theorem recB_iff {s : ByteArray} : recB s = true ↔ RecP s := by simp only [recB, RecP, Bool.and_eq_true, decide_eq_true_eq]
theorem recB_true {s : ByteArray} (h : RecP s) : recB s = true := recB_iff.2 h
theorem recB_false {s : ByteArray} (h : ¬ RecP s) : recB s = false := by
  rw [← Bool.not_eq_true]
  exact fun e => h (recB_iff.1 e)

theorem okU_parts {s : ByteArray} (h : okU s = true) : s.size % 4 = 0 ∧ s.size ≤ 64 ∧ intsB (unL s) = true := by
  by_cases h4 : s.size % 4 = 0
  · by_cases hl : 64 < s.size
    · rw [okU_long hl] at h; cases h
    · rw [okU_even h4] at h; exact ⟨h4, by omega, h⟩
  · rw [okU_rest h4] at h; cases h

/-- The model's test: what comes of the numbers is the text. -/
theorem seal_iff {s : ByteArray} (hs : 4 ≤ s.size) (hk : kindB (byteAt s 0) = true) (hu : okU (bodyT s) = true) : sealS (byteAt s 0) (unL (bodyT s)) = s ↔ RecP s := by
  obtain ⟨h4, h64, hints⟩ := okU_parts hu
  have hp := pack_un h4
  have hl := unL_length (bodyT s)
  have hbs := bodyT_size s
  have hk' := kindB_in hk
  have hr := sumR_in (byteAt s 0) (unL (bodyT s))
  have hz := sealS_size (byteAt s 0) (unL (bodyT s))
  have b1 := byteAt_in s 1
  have hhs : (strOfNums (headR (byteAt s 0) (unL (bodyT s)))).size = 4 := strOfNums_size _
  have hhead : ∀ j (hj : j < 4), byteAt (sealS (byteAt s 0) (unL (bodyT s))) j = (headR (byteAt s 0) (unL (bodyT s)))[j]'(by simpa [headR] using hj) := by
    intro j hj
    rw [sealS, byteAt_left (by rw [hhs]; exact hj), byteAt_nums]
    · rcases (show j = 0 ∨ j = 1 ∨ j = 2 ∨ j = 3 by omega) with rfl | rfl | rfl | rfl <;> simp [headR] <;> omega
    · rcases (show j = 0 ∨ j = 1 ∨ j = 2 ∨ j = 3 by omega) with rfl | rfl | rfl | rfl <;> simp [headR] <;> omega
  have hrest : ∀ j, 4 ≤ j → byteAt (sealS (byteAt s 0) (unL (bodyT s))) j = byteAt (bodyT s) (j - 4) := by
    intro j hj
    rw [sealS, byteAt_right (by rw [hhs]; exact hj), hhs, hp]
  constructor
  · intro e
    have e1 := hhead 1 (by omega)
    have e2 := hhead 2 (by omega)
    have e3 := hhead 3 (by omega)
    rw [e] at e1 e2 e3
    simp only [headR, List.getElem_cons_succ, List.getElem_cons_zero] at e1 e2 e3
    refine ⟨hs, hk, e3, by omega, ?_, hu⟩
    rw [e2, sumR, sumT, hp, headT_eq hs, e1]
  · rintro ⟨_, _, h3, hcnt, hsum, _⟩
    have hlen : (((unL (bodyT s)).length : Nat) : Int) = byteAt s 1 := by omega
    have hsr : sumR (byteAt s 0) (unL (bodyT s)) = byteAt s 2 := by rw [sumR, sumT, hp, hlen, ← headT_eq hs, hsum]
    apply bytes_eq
    · rw [hz]; omega
    · intro k hk2
      rw [hz] at hk2
      by_cases hk4 : k < 4
      · rw [hhead k hk4]
        rcases (show k = 0 ∨ k = 1 ∨ k = 2 ∨ k = 3 by omega) with rfl | rfl | rfl | rfl
        · simp [headR]
        · simp [headR, hlen]
        · simp [headR, hsr]
        · simp [headR, h3]
      · rw [hrest k (by omega), bodyT_byte (by omega), show 4 + (k - 4) = k by omega]

/-- The codes and what comes of records. -/
def opC (s : ByteArray) (k : Int) : Int := if 65536 < s.size then 2 else if kindB k = true then (if recB s = true ∧ byteAt s 0 = k then 0 else 3) else 4
def opR (s : ByteArray) (k : Int) : List Int := if opC s k = 0 then unL (bodyT s) else []
def kdC (s : ByteArray) : Int := if 65536 < s.size then 2 else if recB s = true then 0 else 3
def kdR (s : ByteArray) : Int := if kdC s = 0 then byteAt s 0 else 0
theorem opC_long {s : ByteArray} {k : Int} (h : 65536 < s.size) : opC s k = 2 := if_pos h
theorem opC_kind {s : ByteArray} {k : Int} (h : ¬ 65536 < s.size) (hk : kindB k = false) : opC s k = 4 := by rw [opC, if_neg h, if_neg (by simp [hk])]
theorem opC_ok {s : ByteArray} {k : Int} (h : ¬ 65536 < s.size) (hk : kindB k = true) (hr : recB s = true) (he : byteAt s 0 = k) : opC s k = 0 := by rw [opC, if_neg h, if_pos hk, if_pos ⟨hr, he⟩]
theorem opC_no {s : ByteArray} {k : Int} (h : ¬ 65536 < s.size) (hk : kindB k = true) (hr : ¬ (recB s = true ∧ byteAt s 0 = k)) : opC s k = 3 := by rw [opC, if_neg h, if_pos hk, if_neg hr]
theorem opR_ok {s : ByteArray} {k : Int} (h : opC s k = 0) : opR s k = unL (bodyT s) := if_pos h
theorem opR_no {s : ByteArray} {k : Int} (h : opC s k ≠ 0) : opR s k = [] := if_neg h
theorem kdC_long {s : ByteArray} (h : 65536 < s.size) : kdC s = 2 := if_pos h
theorem kdC_ok {s : ByteArray} (h : ¬ 65536 < s.size) (hr : recB s = true) : kdC s = 0 := by rw [kdC, if_neg h, if_pos hr]
theorem kdC_no {s : ByteArray} (h : ¬ 65536 < s.size) (hr : recB s = false) : kdC s = 3 := by rw [kdC, if_neg h, if_neg (by simp [hr])]
theorem kdR_ok {s : ByteArray} (h : kdC s = 0) : kdR s = byteAt s 0 := if_pos h
theorem kdR_no {s : ByteArray} (h : kdC s ≠ 0) : kdR s = 0 := if_neg h

end Go.Proofs.YtkndabnngdjcgaaDoor

/- Contract of spec.l02Unpack. -/
namespace Go.Proofs.YtkndabnngdjcgaaDoor
open Go.RowKit
set_option linter.unusedVariables false
set_option maxRecDepth 100000

end Go.Proofs.YtkndabnngdjcgaaDoor

/- Contracts of the model's readers of records: l02Open, OpenRecord, KindOf. -/
namespace Go.Proofs.YtkndabnngdjcgaaDoor
open Go.RowKit
set_option linter.unusedVariables false
set_option maxRecDepth 100000

/-- What l02Open answers. -/
def openB (s : ByteArray) (k : Int) : Bool := recB s && decide (byteAt s 0 = k)
def openL (s : ByteArray) (k : Int) : List Int := if openB s k = true then unL (bodyT s) else []
theorem openB_no {s : ByteArray} {k : Int} (h : ¬ RecP s) : openB s k = false := by rw [openB, recB_false h]; rfl
theorem openB_kind {s : ByteArray} {k : Int} (h : byteAt s 0 ≠ k) : openB s k = false := by rw [openB, decide_eq_false h]; simp
theorem openB_yes {s : ByteArray} {k : Int} (h : RecP s) (hk : byteAt s 0 = k) : openB s k = true := by rw [openB, recB_true h, decide_eq_true hk]; rfl
theorem openL_no {s : ByteArray} {k : Int} (h : openB s k = false) : openL s k = [] := if_neg (by simp [h])
theorem openL_yes {s : ByteArray} {k : Int} (h : openB s k = true) : openL s k = unL (bodyT s) := if_pos h

end Go.Proofs.YtkndabnngdjcgaaDoor

/- Plain facts on records, of no program: what is packed is read back, what is sealed is opened. -/
namespace Go.Proofs.YtkndabnngdjcgaaDoor
open Go.RowKit
set_option linter.unusedVariables false

theorem allB_in {xs : List Int} (h : allB xs = true) : ∀ j (hj : j < xs.length), 0 ≤ xs[j] ∧ xs[j] ≤ 2147483647 := by
  intro j hj
  rw [allB, List.all_eq_true] at h
  have := h _ (List.getElem_mem hj)
  simpa [numB, inB] using this
theorem pack_byte {xs : List Int} {i j : Nat} (hi : i < xs.length) (hj : j < 4) : byteAt (packS xs) (i * 4 + j) = byteN xs[i] j := by
  obtain ⟨hk, he⟩ := List.getElem?_eq_some_iff.1 (packL_at xs i j hi hj)
  have hb := byteN_in xs[i] j
  rw [packS, byteAt_nums hk (by rw [he]; omega) (by rw [he]; omega), he]
theorem num_of_bytes {n : Int} (h0 : 0 ≤ n) (h1 : n ≤ 2147483647) : byteN n 0 + byteN n 1 * 256 + byteN n 2 * 65536 + byteN n 3 * 16777216 = n := by
  show n / 1 % 256 + n / 256 % 256 * 256 + n / 65536 % 256 * 65536 + n / 16777216 % 256 * 16777216 = n
  omega
theorem un_pack {xs : List Int} (h : allB xs = true) : unL (packS xs) = xs := by
  apply List.ext_getElem
  · rw [unL_length, packS_size]; omega
  · intro i h1 h2
    rw [unL_get h1]
    have hin := allB_in h i h2
    unfold numAt
    have e0 := pack_byte h2 (show 0 < 4 by omega)
    rw [Nat.add_zero] at e0
    rw [e0, pack_byte h2 (show 1 < 4 by omega), pack_byte h2 (show 2 < 4 by omega), pack_byte h2 (show 3 < 4 by omega)]
    exact num_of_bytes hin.1 hin.2
theorem okU_pack {xs : List Int} (h : allB xs = true) (hl : xs.length ≤ 16) : okU (packS xs) = true := by
  rw [okU_even (by rw [packS_size]; omega), un_pack h, intsB, h, decide_eq_true hl]; rfl
theorem intsB_small {xs : List Int} (h : allB xs = true) (hl : xs.length ≤ 16) : intsB xs = true := by rw [intsB, h, decide_eq_true hl]; rfl
theorem unC_pack {xs : List Int} (h : allB xs = true) (hl : xs.length ≤ 16) : unC (packS xs) = 0 := unC_ok (by rw [packS_size]; omega) (okU_pack h hl)
theorem unR_pack {xs : List Int} (h : allB xs = true) (hl : xs.length ≤ 16) : unR (packS xs) = xs := by rw [unR_ok (unC_pack h hl), un_pack h]
theorem unC_long_by {s : ByteArray} (h : ¬ s.size % 4 = 0) (hl : s.size ≤ 65536) : unC s = 3 := unC_bad (by omega) (okU_rest h)

theorem kindB_of {k : Int} (hk : 1 ≤ k ∧ k ≤ 9) : kindB k = true := by simp [kindB, inB]; omega
theorem seal_byte {k : Int} {xs : List Int} (hk : 1 ≤ k ∧ k ≤ 9) (hl : xs.length ≤ 16) {j : Nat} (hj : j < 4) : byteAt (sealS k xs) j = (headR k xs)[j]'(by simpa [headR] using hj) := by
  have hr := sumR_in k xs
  rw [sealS, byteAt_left (by rw [strOfNums_size]; simpa [headR] using hj), byteAt_nums]
  · rcases (show j = 0 ∨ j = 1 ∨ j = 2 ∨ j = 3 by omega) with rfl | rfl | rfl | rfl <;> simp [headR] <;> omega
  · rcases (show j = 0 ∨ j = 1 ∨ j = 2 ∨ j = 3 by omega) with rfl | rfl | rfl | rfl <;> simp [headR] <;> omega
theorem body_seal {k : Int} {xs : List Int} : bodyT (sealS k xs) = packS xs := by
  apply bytes_eq
  · rw [bodyT_size, sealS_size, packS_size]; omega
  · intro j hj
    rw [bodyT_size, sealS_size] at hj
    rw [bodyT_byte (by rw [sealS_size]; omega), sealS, byteAt_right (by rw [strOfNums_size]; simp [headR]), strOfNums_size]
    congr 1
    simp [headR]
theorem rec_seal {k : Int} {xs : List Int} (hk : 1 ≤ k ∧ k ≤ 9) (h : allB xs = true) (hl : xs.length ≤ 16) : RecP (sealS k xs) := by
  have e0 := seal_byte hk hl (show 0 < 4 by omega)
  have hkb : kindB (byteAt (sealS k xs) 0) = true := by rw [e0]; exact kindB_of hk
  refine (seal_iff (by rw [sealS_size]; omega) hkb (by rw [body_seal]; exact okU_pack h hl)).1 ?_
  rw [body_seal, un_pack h, e0]
  simp [headR]
theorem seal_kind {k : Int} {xs : List Int} (hk : 1 ≤ k ∧ k ≤ 9) (hl : xs.length ≤ 16) : byteAt (sealS k xs) 0 = k := by rw [seal_byte hk hl (show 0 < 4 by omega)]; simp [headR]
theorem seal_count {k : Int} {xs : List Int} (hk : 1 ≤ k ∧ k ≤ 9) (hl : xs.length ≤ 16) : byteAt (sealS k xs) 1 = xs.length := by rw [seal_byte hk hl (show 1 < 4 by omega)]; simp [headR]
theorem opC_seal {k : Int} {xs : List Int} (hk : 1 ≤ k ∧ k ≤ 9) (h : allB xs = true) (hl : xs.length ≤ 16) : opC (sealS k xs) k = 0 :=
  opC_ok (by rw [sealS_size]; omega) (kindB_of hk) (recB_true (rec_seal hk h hl)) (seal_kind hk hl)
theorem opR_seal {k : Int} {xs : List Int} (hk : 1 ≤ k ∧ k ≤ 9) (h : allB xs = true) (hl : xs.length ≤ 16) : opR (sealS k xs) k = xs := by rw [opR_ok (opC_seal hk h hl), body_seal, un_pack h]
theorem opC_other {k k' : Int} {xs : List Int} (hk : 1 ≤ k ∧ k ≤ 9) (hk' : 1 ≤ k' ∧ k' ≤ 9) (hne : k ≠ k') (hl : xs.length ≤ 16) : opC (sealS k xs) k' = 3 :=
  opC_no (by rw [sealS_size]; omega) (kindB_of hk') (fun h => hne (by rw [← seal_kind hk hl]; exact h.2))
theorem kdC_seal {k : Int} {xs : List Int} (hk : 1 ≤ k ∧ k ≤ 9) (h : allB xs = true) (hl : xs.length ≤ 16) : kdC (sealS k xs) = 0 := kdC_ok (by rw [sealS_size]; omega) (recB_true (rec_seal hk h hl))
theorem kdR_seal {k : Int} {xs : List Int} (hk : 1 ≤ k ∧ k ≤ 9) (h : allB xs = true) (hl : xs.length ≤ 16) : kdR (sealS k xs) = k := by rw [kdR_ok (kdC_seal hk h hl), seal_kind hk hl]
/-- A text whose length is not what its second byte says is none. -/
theorem opC_size {s : ByteArray} {k : Int} (hk : 1 ≤ k ∧ k ≤ 9) (hs : s.size ≤ 65536) (h : 4 ≤ s.size → (s.size : Int) ≠ 4 + byteAt s 1 * 4) : opC s k = 3 :=
  opC_no (by omega) (kindB_of hk) (fun hh => by
    obtain ⟨h4, _, _, hc, _, _⟩ := recB_iff.1 hh.1
    rw [bodyT_size] at hc
    exact h h4 (by omega))
theorem opC_cut {k : Int} {xs : List Int} {q : Nat} (hk : 1 ≤ k ∧ k ≤ 9) (hl : xs.length ≤ 16) (hq : q < 4 + xs.length * 4) : opC ((sealS k xs).extract 0 q) k = 3 := by
  have hz := sealS_size k xs
  have hsz : ((sealS k xs).extract 0 q).size = q := by simp [hz]; omega
  refine opC_size hk (by omega) (fun h4 => ?_)
  rw [byteAt_cut (by rw [hz]; omega) (by omega), Nat.zero_add, seal_count hk hl]
  omega
theorem opC_drawn {k : Int} {xs : List Int} {t : ByteArray} (ht : t.size = 1) (hk : 1 ≤ k ∧ k ≤ 9) (hl : xs.length ≤ 16) : opC (sealS k xs ++ t) k = 3 := by
  have hz := sealS_size k xs
  refine opC_size hk (by rw [ByteArray.size_append]; omega) (fun h4 => ?_)
  rw [byteAt_left (by omega), seal_count hk hl, ByteArray.size_append]
  omega

end Go.Proofs.YtkndabnngdjcgaaDoor

/- Tables, plainly: when they are right, what is answered of them, what a text says of them. -/
namespace Go.Proofs.YtkndabnngdjcgaaDoor
open Go.RowKit
set_option linter.unusedVariables false
set_option maxRecDepth 100000

def ent1 (n : Int) : Bool := betw n 0 25
/-- A table that is right. -/
def tbB (xs : List Int) : Bool := decide (xs.length ≤ 12) && xs.all ent1
/-- The code of a table. -/
def tbF (xs : List Int) : Int := if 4096 < xs.length then 2 else if tbB xs = true then 0 else 1
theorem tbB_len {xs : List Int} (h : tbB xs = true) : xs.length ≤ 12 := by
  simp only [tbB, Bool.and_eq_true, decide_eq_true_eq] at h; exact h.1
theorem tbB_at {xs : List Int} (h : tbB xs = true) : ∀ i (hi : i < xs.length), 0 ≤ xs[i] ∧ xs[i] ≤ 25 := by
  intro i hi
  simp only [tbB, Bool.and_eq_true, decide_eq_true_eq, List.all_eq_true] at h
  exact betw_iff.1 (h.2 xs[i] (List.getElem_mem hi))
theorem tbB_of {xs : List Int} (hl : xs.length ≤ 12) (h : ∀ i (hi : i < xs.length), ent1 xs[i] = true) : tbB xs = true := by
  rw [tbB, decide_eq_true hl, all_of (p := ent1) (fun i hi _ => h i hi)]; rfl
theorem tbB_nolen {xs : List Int} (hl : ¬ xs.length ≤ 12) : tbB xs = false := by rw [tbB, decide_eq_false hl]; rfl
theorem tbB_noat {xs : List Int} {k : Nat} (hk : k < xs.length) (h : ent1 xs[k] = false) : tbB xs = false := by rw [tbB, all_not (p := ent1) hk h]; simp
theorem tbB_all {xs : List Int} (h : ∀ i (hi : i < xs.length), ent1 xs[i] = true) : tbB xs = decide (xs.length ≤ 12) := by
  rw [tbB, all_of (p := ent1) (fun i hi _ => h i hi)]; simp
theorem tbF_long {xs : List Int} (h : 4096 < xs.length) : tbF xs = 2 := if_pos h
theorem tbF_bad {xs : List Int} (h : ¬ 4096 < xs.length) (hb : tbB xs = false) : tbF xs = 1 := by rw [tbF, if_neg h, if_neg (by simp [hb])]
theorem tbF_ok {xs : List Int} (hb : tbB xs = true) : tbF xs = 0 := by
  have := tbB_len hb
  rw [tbF, if_neg (by omega), if_pos hb]
theorem tbF_cases (xs : List Int) : (4096 < xs.length ∧ tbF xs = 2) ∨ (¬ 4096 < xs.length ∧ tbB xs = false ∧ tbF xs = 1) ∨ (tbB xs = true ∧ tbF xs = 0) := by
  by_cases h : 4096 < xs.length
  · exact .inl ⟨h, tbF_long h⟩
  · cases hb : tbB xs
    · exact .inr (.inl ⟨h, rfl, tbF_bad h hb⟩)
    · exact .inr (.inr ⟨rfl, tbF_ok hb⟩)
theorem tbF_zero {xs : List Int} (h0 : tbF xs = 0) : tbB xs = true := by
  rcases tbF_cases xs with ⟨_, h⟩ | ⟨_, _, h⟩ | ⟨h, _⟩
  · rw [h0] at h; cases h
  · rw [h0] at h; cases h
  · exact h
/-- Its record. -/
def encTb (xs : List Int) : ByteArray := sealS 3 xs
def etR (xs : List Int) : ByteArray := if tbF xs = 0 then encTb xs else ⟨#[]⟩
theorem tb_all {xs : List Int} (h : tbB xs = true) : allB xs = true := allB_true (fun j hj => by have := tbB_at h j hj; simp [numB, inB]; omega)
theorem tb_seal {xs : List Int} (h : tbB xs = true) : sealC 3 xs = 0 ∧ sealT 3 xs = encTb xs := by
  have hl := tbB_len h
  have hc : sealC 3 xs = 0 := sealC_ok (listC_ok (by omega) (intsB_small (tb_all h) (by omega))) rfl
  exact ⟨hc, sealT_ok hc⟩
/-- What a text says of a table. -/
def tdB (s : ByteArray) : Bool := openB s 3 && tbB (openL s 3)
def tdC (s : ByteArray) : Int := if 65536 < s.size then 2 else if tdB s = true then 0 else 3
def tdR (s : ByteArray) : List Int := if tdC s = 0 then openL s 3 else []
theorem td_long {s : ByteArray} (h : 65536 < s.size) : tdC s = 2 ∧ tdR s = [] := by
  have e : tdC s = 2 := if_pos h
  exact ⟨e, by rw [tdR, e]; rfl⟩
theorem td_no {s : ByteArray} (h : ¬ 65536 < s.size) (hb : tdB s = false) : tdC s = 3 ∧ tdR s = [] := by
  have e : tdC s = 3 := by rw [tdC, if_neg h, hb]; rfl
  exact ⟨e, by rw [tdR, e]; rfl⟩
theorem td_ok {s : ByteArray} (h : ¬ 65536 < s.size) (hb : tdB s = true) : tdC s = 0 ∧ tdR s = openL s 3 := by
  have e : tdC s = 0 := by rw [tdC, if_neg h, hb]; rfl
  exact ⟨e, by rw [tdR, e]; rfl⟩
theorem tdB_parts {s : ByteArray} (h : tdB s = true) : openB s 3 = true ∧ tbB (openL s 3) = true := by
  simp only [tdB, Bool.and_eq_true] at h; exact h
theorem tdR_len (s : ByteArray) : (tdR s).length ≤ 12 := by
  by_cases h : 65536 < s.size
  · rw [(td_long h).2]; exact Nat.zero_le _
  · cases hb : tdB s
    · rw [(td_no h hb).2]; exact Nat.zero_le _
    · rw [(td_ok h hb).2]; exact tbB_len (tdB_parts hb).2
/-- A table that was encoded is decoded. -/
theorem enc_td {xs : List Int} (h : tbB xs = true) : tdC (encTb xs) = 0 ∧ tdR (encTb xs) = xs := by
  have hl := tbB_len h
  have hz : (encTb xs).size = 4 + xs.length * 4 := sealS_size 3 xs
  have ho : openB (encTb xs) 3 = true := openB_yes (rec_seal (by decide) (tb_all h) (by omega)) (seal_kind (by decide) (by omega))
  have hL : openL (encTb xs) 3 = xs := by rw [openL_yes ho, encTb, body_seal, un_pack (tb_all h)]
  have hB : tdB (encTb xs) = true := by rw [tdB, ho, hL, h]; rfl
  obtain ⟨c1, c2⟩ := td_ok (by omega) hB
  exact ⟨c1, c2.trans hL⟩
/-- What EntryOf answers. -/
def enF (xs : List Int) (g : Int) : Int := if tbF xs = 0 then (if betw g 0 ((xs.length : Int) - 1) = true then 0 else 4) else tbF xs
def enK (xs : List Int) (g : Int) : Int := if enF xs g = 0 then min (xs.getD g.toNat 0) 2 else 0
def enC (xs : List Int) (g : Int) : Int := if enF xs g = 0 then max 0 (xs.getD g.toNat 0 - 2) else 0
theorem en_cases (xs : List Int) (g : Int) : (tbF xs ≠ 0 ∧ enF xs g = tbF xs ∧ enK xs g = 0 ∧ enC xs g = 0) ∨ (tbB xs = true ∧ betw g 0 ((xs.length : Int) - 1) = false ∧ enF xs g = 4 ∧ enK xs g = 0 ∧ enC xs g = 0) ∨ (tbB xs = true ∧ ∃ q : Nat, g = (q : Int) ∧ ∃ hq : q < xs.length, enF xs g = 0 ∧ enK xs g = min xs[q] 2 ∧ enC xs g = max 0 (xs[q] - 2)) := by
  by_cases h : tbF xs = 0
  · have hb := tbF_zero h
    by_cases hg : betw g 0 ((xs.length : Int) - 1) = true
    · obtain ⟨g0, g1⟩ := betw_iff.1 hg
      have e : enF xs g = 0 := by rw [enF, if_pos h, if_pos hg]
      have hq : g.toNat < xs.length := by omega
      refine .inr (.inr ⟨hb, g.toNat, by omega, hq, e, ?_, ?_⟩)
      · rw [enK, if_pos e]; simp [List.getD, hq]
      · rw [enC, if_pos e]; simp [List.getD, hq]
    · rw [Bool.not_eq_true] at hg
      have e : enF xs g = 4 := by rw [enF, if_pos h, hg]; rfl
      exact .inr (.inl ⟨hb, hg, e, by rw [enK, e]; rfl, by rw [enC, e]; rfl⟩)
  · have e : enF xs g = tbF xs := by rw [enF, if_neg h]
    exact .inl ⟨h, e, by rw [enK, e, if_neg h], by rw [enC, e, if_neg h]⟩
/-- What ResizeTable answers. -/
def rzF (xs : List Int) (n : Int) : Int := if tbF xs = 0 then (if betw n 0 12 = true then 0 else 4) else tbF xs
def rzTo (xs : List Int) (n : Nat) : List Int := (List.range n).map fun i => xs.getD i 0
def rzL (xs : List Int) (n : Int) : List Int := if rzF xs n = 0 then rzTo xs n.toNat else []
theorem rzTo_len (xs : List Int) (n : Nat) : (rzTo xs n).length = n := by simp [rzTo]
theorem rzTo_succ (xs : List Int) (n : Nat) : rzTo xs (n + 1) = rzTo xs n ++ [xs.getD n 0] := by simp [rzTo, List.range_succ]
theorem rz_cases (xs : List Int) (n : Int) : (tbF xs ≠ 0 ∧ rzF xs n = tbF xs ∧ rzL xs n = []) ∨ (tbB xs = true ∧ betw n 0 12 = false ∧ rzF xs n = 4 ∧ rzL xs n = []) ∨ (tbB xs = true ∧ ∃ q : Nat, n = (q : Int) ∧ q ≤ 12 ∧ rzF xs n = 0 ∧ rzL xs n = rzTo xs q) := by
  by_cases h : tbF xs = 0
  · have hb := tbF_zero h
    by_cases hg : betw n 0 12 = true
    · obtain ⟨g0, g1⟩ := betw_iff.1 hg
      have e : rzF xs n = 0 := by rw [rzF, if_pos h, if_pos hg]
      exact .inr (.inr ⟨hb, n.toNat, by omega, by omega, e, by rw [rzL, if_pos e]⟩)
    · rw [Bool.not_eq_true] at hg
      have e : rzF xs n = 4 := by rw [rzF, if_pos h, hg]; rfl
      exact .inr (.inl ⟨hb, hg, e, by rw [rzL, e]; rfl⟩)
  · have e : rzF xs n = tbF xs := by rw [rzF, if_neg h]
    exact .inl ⟨h, e, by rw [rzL, e, if_neg h]⟩
theorem rzL_len (xs : List Int) (n : Int) : (rzL xs n).length ≤ 12 := by
  rcases rz_cases xs n with ⟨_, _, h⟩ | ⟨_, _, _, h⟩ | ⟨_, q, _, hq, _, h⟩
  · rw [h]; exact Nat.zero_le _
  · rw [h]; exact Nat.zero_le _
  · rw [h, rzTo_len]; exact hq
/-- The clusters of a table's data. -/
def clTo (xs : List Int) (k : Nat) : List Int := (xs.take k).filterMap fun e => if 2 ≤ e then some (e - 2) else none
def clA (xs : List Int) : List Int := clTo xs xs.length
def clL (xs : List Int) : List Int := if tbF xs = 0 then clA xs else []
theorem clTo_data {xs : List Int} {k : Nat} (hk : k < xs.length) (h : 2 ≤ xs[k]) : clTo xs (k + 1) = clTo xs k ++ [xs[k] - 2] := by
  unfold clTo
  rw [List.take_succ_eq_append_getElem hk, List.filterMap_append]; simp [h]
theorem clTo_none {xs : List Int} {k : Nat} (hk : k < xs.length) (h : ¬ 2 ≤ xs[k]) : clTo xs (k + 1) = clTo xs k := by
  unfold clTo
  rw [List.take_succ_eq_append_getElem hk, List.filterMap_append]; simp [h]
theorem clTo_len (xs : List Int) (k : Nat) : (clTo xs k).length ≤ k := by
  unfold clTo
  refine Nat.le_trans (List.length_filterMap_le _ _) ?_
  rw [List.length_take]; omega
theorem clL_len (xs : List Int) : (clL xs).length ≤ 12 := by
  unfold clL
  split
  · rename_i h
    have := tbB_len (tbF_zero h)
    have := clTo_len xs xs.length
    unfold clA
    omega
  · exact Nat.zero_le _

end Go.Proofs.YtkndabnngdjcgaaDoor

/- Images, plainly: when they are right, and what is done to them. (Made ahead of stage 10.) -/
namespace Go.Proofs.YtkndabnngdjcgaaDoor
open Go.RowKit
set_option linter.unusedVariables false
set_option maxRecDepth 100000

structure Snp where
  name : ByteArray
  table : List Int
structure Img where
  refs : List Int
  table : List Int
  snaps : List Snp
  data : List Int

/-- A snapshot's name. -/
def nm1 (b : UInt8) : Bool := decide (97 ≤ b.toNat) && decide (b.toNat ≤ 122)
def snmB (t : ByteArray) : Bool := t.data.toList.all nm1 && betw (t.size : Int) 1 6
/-- How many tables have each cluster. -/
def incr (ns : List Int) (c : Int) : List Int := ns.set c.toNat (ns.getD c.toNat 0 + 1)
def cnt1T (ns : List Int) (t : List Int) : List Int := (clA t).foldl incr ns
def imTabs (m : Img) : List (List Int) := m.table :: m.snaps.map (·.table)
def imCnt (m : Img) : List Int := (imTabs m).foldl cnt1T zero24
theorem incr_len (ns : List Int) (c : Int) : (incr ns c).length = ns.length := by simp [incr]
theorem cnt1T_len (t : List Int) : ∀ ns : List Int, (cnt1T ns t).length = ns.length := by
  unfold cnt1T
  induction clA t with
  | nil => intro ns; rfl
  | cons c cs ih => intro ns; rw [List.foldl_cons, ih, incr_len]
theorem imCnt_len (m : Img) : (imCnt m).length = 24 := by
  unfold imCnt
  have h : ∀ (ts : List (List Int)) (ns : List Int), (ts.foldl cnt1T ns).length = ns.length := by
    intro ts
    induction ts with
    | nil => intro ns; rfl
    | cons t ts ih => intro ns; rw [List.foldl_cons, ih, cnt1T_len]
  rw [h]; rfl
/-- No two snapshots have one name. -/
def namesB (ss : List Snp) : Bool := decide ((ss.map (·.name)).Nodup)
/-- All but whether counts are right. -/
def imFm (m : Img) : Bool := ctB m.refs && tbB m.table && decide (m.snaps.length ≤ 3) && decide (m.data.length = 24) && m.snaps.all (fun s => snmB s.name && tbB s.table) && namesB m.snaps && m.data.all numB
/-- A table has no cluster twice. -/
def onceB (t : List Int) : Bool := decide (clA t).Nodup
/-- Clusters that none has are 0. -/
def clearB (m : Img) : Bool := (List.range 24).all fun i => decide (m.refs.getD i 0 = 0 → m.data.getD i 0 = 0)
def imB (m : Img) : Bool := imFm m && (imTabs m).all onceB && decide (imCnt m = m.refs) && clearB m

structure ImR (m : Img) : Prop where
  refs : ctB m.refs = true
  table : tbB m.table = true
  few : m.snaps.length ≤ 3
  len : m.data.length = 24
  snaps : ∀ s ∈ m.snaps, snmB s.name = true ∧ tbB s.table = true
  names : (m.snaps.map (·.name)).Nodup
  nums : ∀ n ∈ m.data, numB n = true
  once : ∀ t ∈ imTabs m, (clA t).Nodup
  cnt : imCnt m = m.refs
  clear : ∀ i, i < 24 → m.refs.getD i 0 = 0 → m.data.getD i 0 = 0
theorem imB_iff {m : Img} : imB m = true ↔ ImR m := by
  constructor
  · intro h
    simp only [imB, imFm, namesB, onceB, clearB, Bool.and_eq_true, decide_eq_true_eq, List.all_eq_true, List.mem_range] at h
    obtain ⟨⟨⟨⟨⟨⟨⟨⟨⟨h1, h2⟩, h3⟩, h4⟩, h5⟩, h6⟩, h7⟩, h8⟩, h9⟩, h10⟩ := h
    exact ⟨h1, h2, h3, h4, h5, h6, h7, h8, h9, h10⟩
  · intro h
    simp only [imB, imFm, namesB, onceB, clearB, Bool.and_eq_true, decide_eq_true_eq, List.all_eq_true, List.mem_range]
    exact ⟨⟨⟨⟨⟨⟨⟨⟨⟨h.refs, h.table⟩, h.few⟩, h.len⟩, h.snaps⟩, h.names⟩, h.nums⟩, h.once⟩, h.cnt⟩, h.clear⟩

/-- A table has a cluster no more; the last one's data go. -/
def imDrop (m : Img) (e : Int) : Img :=
  if e < 2 then m else
    let c := (e - 2).toNat
    let r := m.refs.set c (m.refs.getD c 0 - 1)
    { m with refs := r, data := if m.refs.getD c 0 - 1 = 0 then m.data.set c 0 else m.data }
def imDrops (m : Img) (es : List Int) : Img := es.foldl imDrop m
theorem imDrop_refs (m : Img) (e : Int) : (imDrop m e).refs.length = m.refs.length := by unfold imDrop; split <;> simp
theorem imDrop_data (m : Img) (e : Int) : (imDrop m e).data.length = m.data.length := by
  unfold imDrop
  split
  · rfl
  · simp only; split <;> simp
theorem imDrop_table (m : Img) (e : Int) : (imDrop m e).table = m.table ∧ (imDrop m e).snaps = m.snaps := by unfold imDrop; split <;> exact ⟨rfl, rfl⟩
/-- A value is written: in place, or into a free cluster. -/
def imWrite (m : Img) (g : Nat) (v : Int) : Img × Int :=
  let e := m.table.getD g 0
  if 2 ≤ e ∧ m.refs.getD (e - 2).toNat 0 = 1 then ({ m with data := m.data.set (e - 2).toNat v }, 0)
  else if frN m.refs < m.refs.length then
    let c := frN m.refs
    let d := imDrop m e
    ({ d with refs := d.refs.set c 1, data := d.data.set c v, table := d.table.set g (2 + c) }, 0)
  else (m, 7)
def imZero (m : Img) (g : Nat) : Img := let d := imDrop m (m.table.getD g 0); { d with table := d.table.set g 1 }
def imResize (m : Img) (n : Nat) : Img := let d := imDrops m (m.table.drop n); { d with table := rzTo m.table n }
def imRaise (m : Img) (t : List Int) : Img := { m with refs := (clA t).foldl incr m.refs }
def imFind (m : Img) (name : ByteArray) : Nat := m.snaps.findIdx (fun s => decide (s.name = name))
def imCreate (m : Img) (name : ByteArray) : Img × Int :=
  if snmB name = true then
    (if imFind m name < m.snaps.length then (m, 8)
    else if m.snaps.length = 3 then (m, 6)
    else ({ imRaise m m.table with snaps := m.snaps ++ [⟨name, m.table⟩] }, 0))
  else (m, 12)
def imDelete (m : Img) (name : ByteArray) : Img × Int :=
  if imFind m name < m.snaps.length then ({ imDrops m ((m.snaps[imFind m name]?).elim [] (·.table)) with snaps := m.snaps.eraseIdx (imFind m name) }, 0)
  else (m, 5)
def imRevert (m : Img) (name : ByteArray) : Img × Int :=
  if imFind m name < m.snaps.length then
    let t := (m.snaps[imFind m name]?).elim [] (·.table)
    ({ imDrops (imRaise m t) m.table with table := t }, 0)
  else (m, 5)
/-- What a guest reads. -/
def imVal (m : Img) (e : Int) : Int := if e < 2 then 0 else m.data.getD (e - 2).toNat 0

end Go.Proofs.YtkndabnngdjcgaaDoor

/- Images in memory, as slices show them. (Made ahead of stage 10.) -/
namespace Go.Proofs.YtkndabnngdjcgaaDoor
open Go.RowKit
set_option linter.unusedVariables false
set_option maxRecDepth 100000

/-- A row of snapshots. -/
def Sns (w : World) (ao : Option Addr) (ss : List Snp) : Prop := ∀ i (h : i < ss.length), ∃ b off tq tc, ao = some ⟨b, off, none⟩ ∧ w.cell? ⟨b, off + i * 2, none⟩ = some (.string ss[i].name) ∧ w.cell? ⟨b, off + i * 2 + 1, none⟩ = some (.slice tq ss[i].table.length tc) ∧ Is w tq ss[i].table ∧ ss[i].name.size ≤ maxLen ∧ ss[i].table.length ≤ maxLen
theorem Sns.below {w w' : World} {ao : Option Addr} {ss : List Snp} (h : Sns w ao ss) (hb : Below w.heap.size w w') : Sns w' ao ss := fun i hi => by
  obtain ⟨b, off, tq, tc, e, h0, h1, h2, h3, h4⟩ := h i hi
  have hl := World.block_lt_of_cell? _ _ h0
  exact ⟨b, off, tq, tc, e, (hb.cell (p := ⟨b, off + i * 2, none⟩) hl).trans h0, (hb.cell (p := ⟨b, off + i * 2 + 1, none⟩) hl).trans h1, h2.below hb, h3, h4⟩
/-- Where an image's four lists lie. -/
structure Im4 where
  ro : Option Addr
  rc : Nat
  tq : Option Addr
  tc : Nat
  so : Option Addr
  sc : Nat
  dq : Option Addr
  dc : Nat
abbrev imV (a : Im4) (m : Img) : Value := .agg #[.slice a.ro m.refs.length a.rc, .slice a.tq m.table.length a.tc, .slice a.so m.snaps.length a.sc, .slice a.dq m.data.length a.dc]
abbrev snV (s : Snp) (tq : Option Addr) (tc : Nat) : Value := .agg #[.string s.name, .slice tq s.table.length tc]
/-- An image is shown. -/
structure ImS (w : World) (a : Im4) (m : Img) : Prop where
  r : Is w a.ro m.refs
  t : Is w a.tq m.table
  s : Sns w a.so m.snaps
  d : Is w a.dq m.data
theorem ImS.below {w w' : World} {a : Im4} {m : Img} (h : ImS w a m) (hb : Below w.heap.size w w') : ImS w' a m := ⟨h.r.below hb, h.t.below hb, h.s.below hb, h.d.below hb⟩
/-- How great an image is. -/
def sn1 (s : Snp) : Nat := s.name.size + s.table.length
def snSz (ss : List Snp) : Nat := (ss.map sn1).sum
def imSz (m : Img) : Nat := m.refs.length + m.table.length + (m.snaps.length + snSz m.snaps) + m.data.length
theorem snSz_take {ss : List Snp} {k : Nat} (h : k < ss.length) : snSz (ss.take (k + 1)) = snSz (ss.take k) + sn1 ss[k] := by
  unfold snSz
  rw [List.take_succ_eq_append_getElem h, List.map_append, List.sum_append]; simp
theorem sn_le {ss : List Snp} {k : Nat} (h : k < ss.length) : sn1 ss[k] ≤ snSz ss := by
  have e := snSz_take h
  have : ∀ (xs : List Snp) (n : Nat), snSz (xs.take n) ≤ snSz xs := by
    intro xs n
    have h2 : snSz xs = snSz (xs.take n) + snSz (xs.drop n) := by
      unfold snSz
      rw [← List.sum_append, ← List.map_append, List.take_append_drop]
    omega
  have := this ss (k + 1)
  omega

end Go.Proofs.YtkndabnngdjcgaaDoor
