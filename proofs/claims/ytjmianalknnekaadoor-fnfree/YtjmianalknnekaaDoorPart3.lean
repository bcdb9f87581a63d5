import Derived.Test.YtjmianalknnekaaDoorPart1
import Derived.Test.YtjmianalknnekaaDoorPart2
import Derived.WalkKit
import Derived.Deep.RegionLawGrows
import Derived.Test.YtjmianalknnekaaDoorRows
import Derived.WalkSpells
import Derived.Lib.LazyBuf
import Derived.Laws.CopyRow
import Derived.Laws.CopyOwn

/- Counts, plainly: when they are right, what is answered of them, their numbers and what a text says of them. -/
namespace Go.Proofs.YtjmianalknnekaaDoor
open Go.RowKit
set_option linter.unusedVariables false
set_option maxRecDepth 100000

def cnt1 (n : Int) : Bool := betw n 0 15
/-- Counts that are right. -/
def ctB (xs : List Int) : Bool := decide (xs.length = 24) && xs.all cnt1
/-- The code of counts. -/
def ctF (xs : List Int) : Int := if 4096 < xs.length then 2 else if ctB xs = true then 0 else 1
/-- The code of counts and a cluster. -/
def cwF (xs : List Int) (c : Int) : Int := if ctF xs = 0 then (if betw c 0 23 = true then 0 else 4) else ctF xs
def zero24 : List Int := List.replicate 24 0
/-- What countsOf and countsWith hand on. -/
def coR (xs : List Int) : List Int := if ctF xs = 0 then xs else zero24
def cwR (xs : List Int) (c : Int) : List Int := if cwF xs c = 0 then xs else zero24

theorem ctB_len {xs : List Int} (h : ctB xs = true) : xs.length = 24 := by
  simp only [ctB, Bool.and_eq_true, decide_eq_true_eq] at h; exact h.1
theorem ctB_at {xs : List Int} (h : ctB xs = true) : ∀ i (hi : i < xs.length), 0 ≤ xs[i] ∧ xs[i] ≤ 15 := by
  intro i hi
  simp only [ctB, Bool.and_eq_true, decide_eq_true_eq, List.all_eq_true] at h
  exact betw_iff.1 (h.2 xs[i] (List.getElem_mem hi))
theorem ctB_of {xs : List Int} (hl : xs.length = 24) (h : ∀ i (hi : i < xs.length), cnt1 xs[i] = true) : ctB xs = true := by
  rw [ctB, decide_eq_true hl, all_of (p := cnt1) (fun i hi _ => h i hi)]; rfl
theorem ctB_nolen {xs : List Int} (hl : ¬ xs.length = 24) : ctB xs = false := by rw [ctB, decide_eq_false hl]; rfl
theorem ctB_noat {xs : List Int} {k : Nat} (hk : k < xs.length) (h : cnt1 xs[k] = false) : ctB xs = false := by rw [ctB, all_not (p := cnt1) hk h]; simp
theorem ctB_all {xs : List Int} (h : ∀ i (hi : i < xs.length), cnt1 xs[i] = true) : ctB xs = decide (xs.length = 24) := by
  rw [ctB, all_of (p := cnt1) (fun i hi _ => h i hi)]; simp
theorem ctF_long {xs : List Int} (h : 4096 < xs.length) : ctF xs = 2 := if_pos h
theorem ctF_bad {xs : List Int} (h : ¬ 4096 < xs.length) (hb : ctB xs = false) : ctF xs = 1 := by rw [ctF, if_neg h, if_neg (by simp [hb])]
theorem ctF_ok {xs : List Int} (hb : ctB xs = true) : ctF xs = 0 := by
  have := ctB_len hb
  rw [ctF, if_neg (by omega), if_pos hb]
theorem ctF_cases (xs : List Int) : (4096 < xs.length ∧ ctF xs = 2 ∧ coR xs = zero24) ∨ (¬ 4096 < xs.length ∧ ctB xs = false ∧ ctF xs = 1 ∧ coR xs = zero24) ∨ (ctB xs = true ∧ ctF xs = 0 ∧ coR xs = xs) := by
  by_cases h : 4096 < xs.length
  · exact .inl ⟨h, ctF_long h, by rw [coR, ctF_long h]; rfl⟩
  · cases hb : ctB xs
    · exact .inr (.inl ⟨h, rfl, ctF_bad h hb, by rw [coR, ctF_bad h hb]; rfl⟩)
    · exact .inr (.inr ⟨rfl, ctF_ok hb, by rw [coR, ctF_ok hb]; rfl⟩)
theorem coR_len (xs : List Int) : (coR xs).length = 24 := by
  rcases ctF_cases xs with ⟨_, _, h⟩ | ⟨_, _, _, h⟩ | ⟨hb, _, h⟩
  · rw [h]; rfl
  · rw [h]; rfl
  · rw [h]; exact ctB_len hb
theorem cwR_len (xs : List Int) (c : Int) : (cwR xs c).length = 24 := by
  unfold cwR
  split
  · rename_i h
    rcases ctF_cases xs with ⟨_, h1, _⟩ | ⟨_, _, h1, _⟩ | ⟨hb, _, _⟩
    · simp [cwF, h1] at h
    · simp [cwF, h1] at h
    · exact ctB_len hb
  · rfl

/-- What RefUp and RefDown answer. -/
def upF (xs : List Int) (c : Int) : Int := if cwF xs c = 0 then (if xs.getD c.toNat 0 = 15 then 6 else 0) else cwF xs c
def upL (xs : List Int) (c : Int) : List Int := if cwF xs c = 0 then (if xs.getD c.toNat 0 = 15 then xs else xs.set c.toNat (xs.getD c.toNat 0 + 1)) else []
def dnF (xs : List Int) (c : Int) : Int := if cwF xs c = 0 then (if xs.getD c.toNat 0 = 0 then 5 else 0) else cwF xs c
def dnL (xs : List Int) (c : Int) : List Int := if cwF xs c = 0 then (if xs.getD c.toNat 0 = 0 then xs else xs.set c.toNat (xs.getD c.toNat 0 - 1)) else []
/-- The first cluster with none, if there is one. -/
def frN (xs : List Int) : Nat := xs.findIdx (fun n => decide (n = 0))
def frC (xs : List Int) : Int := if ctF xs = 0 then (if frN xs < xs.length then 0 else 7) else ctF xs
def frR (xs : List Int) : Int := if ctF xs = 0 then (if frN xs < xs.length then (frN xs : Int) else 0) else 0
def smR (xs : List Int) : Int := if ctF xs = 0 then xs.sum else 0

/-- The three ways of RefUp and RefDown. -/
theorem cw_cases (xs : List Int) (c : Int) : (cwF xs c ≠ 0 ∧ cwR xs c = zero24 ∧ upF xs c = cwF xs c ∧ upL xs c = [] ∧ dnF xs c = cwF xs c ∧ dnL xs c = []) ∨ (ctB xs = true ∧ cwF xs c = 0 ∧ cwR xs c = xs ∧ ∃ q : Nat, c = (q : Int) ∧ q < xs.length) := by
  by_cases h : cwF xs c = 0
  · refine .inr ?_
    rcases ctF_cases xs with ⟨_, h1, _⟩ | ⟨_, _, h1, _⟩ | ⟨hb, h1, _⟩
    · simp [cwF, h1] at h
    · simp [cwF, h1] at h
    · refine ⟨hb, h, by rw [cwR, if_pos h], ?_⟩
      rw [cwF, if_pos h1] at h
      have hc : betw c 0 23 = true := by
        cases hq : betw c 0 23
        · rw [hq] at h; simp at h
        · rfl
      obtain ⟨h0, h2⟩ := betw_iff.1 hc
      exact ⟨c.toNat, by omega, by have := ctB_len hb; omega⟩
  · exact .inl ⟨h, if_neg h, if_neg h, if_neg h, if_neg h, if_neg h⟩
theorem up_at {xs : List Int} {q : Nat} (h : cwF xs (q : Int) = 0) (hq : q < xs.length) : (xs[q] = 15 → upF xs q = 6 ∧ upL xs q = xs) ∧ (¬ xs[q] = 15 → upF xs q = 0 ∧ upL xs q = xs.set q (xs[q] + 1)) := by
  have e : xs.getD (q : Int).toNat 0 = xs[q] := by simp [List.getD, hq]
  constructor
  · intro h15
    rw [upF, upL, if_pos h, if_pos h, e, if_pos h15, if_pos h15]; exact ⟨rfl, rfl⟩
  · intro h15
    rw [upF, upL, if_pos h, if_pos h, e, if_neg h15, if_neg h15]; exact ⟨rfl, by simp⟩
theorem dn_at {xs : List Int} {q : Nat} (h : cwF xs (q : Int) = 0) (hq : q < xs.length) : (xs[q] = 0 → dnF xs q = 5 ∧ dnL xs q = xs) ∧ (¬ xs[q] = 0 → dnF xs q = 0 ∧ dnL xs q = xs.set q (xs[q] - 1)) := by
  have e : xs.getD (q : Int).toNat 0 = xs[q] := by simp [List.getD, hq]
  constructor
  · intro h15
    rw [dnF, dnL, if_pos h, if_pos h, e, if_pos h15, if_pos h15]; exact ⟨rfl, rfl⟩
  · intro h15
    rw [dnF, dnL, if_pos h, if_pos h, e, if_neg h15, if_neg h15]; exact ⟨rfl, by simp⟩
theorem upL_len (xs : List Int) (c : Int) : (upL xs c).length ≤ 24 := by
  rcases cw_cases xs c with ⟨_, _, _, h, _⟩ | ⟨hb, h, _, q, rfl, hq⟩
  · rw [h]; exact Nat.zero_le _
  · have := ctB_len hb
    by_cases h15 : xs[q] = 15
    · rw [((up_at h hq).1 h15).2]; omega
    · rw [((up_at h hq).2 h15).2, List.length_set]; omega
theorem dnL_len (xs : List Int) (c : Int) : (dnL xs c).length ≤ 24 := by
  rcases cw_cases xs c with ⟨_, _, _, _, _, h⟩ | ⟨hb, h, _, q, rfl, hq⟩
  · rw [h]; exact Nat.zero_le _
  · have := ctB_len hb
    by_cases h15 : xs[q] = 0
    · rw [((dn_at h hq).1 h15).2]; omega
    · rw [((dn_at h hq).2 h15).2, List.length_set]; omega

/-- Six counts from the i-th on as one number: from the last one on, and from the first one on. -/
def hx6 (xs : List Int) (i : Nat) : Nat → Int
  | 0 => 0
  | m + 1 => 16 * hx6 xs i m + xs.getD (i + (5 - m)) 0
def lo6 (xs : List Int) (i : Nat) : Nat → Int
  | 0 => 0
  | m + 1 => lo6 xs i m + xs.getD (i + m) 0 * 16 ^ m
theorem hx_lo (xs : List Int) (i : Nat) : hx6 xs i 6 = lo6 xs i 6 := by
  simp only [hx6, lo6, Nat.sub_zero, Nat.reduceSub, Nat.add_zero]
  simp only [show (16 : Int) ^ 0 = 1 from rfl, show (16 : Int) ^ 1 = 16 from rfl, show (16 : Int) ^ 2 = 256 from rfl, show (16 : Int) ^ 3 = 4096 from rfl, show (16 : Int) ^ 4 = 65536 from rfl, show (16 : Int) ^ 5 = 1048576 from rfl]
  omega
theorem lo_in (xs : List Int) (i : Nat) (h : ∀ j, 0 ≤ xs.getD j 0 ∧ xs.getD j 0 ≤ 15) : ∀ m, 0 ≤ lo6 xs i m ∧ lo6 xs i m < 16 ^ m
  | 0 => by simp [lo6]
  | m + 1 => by
    obtain ⟨h0, h1⟩ := lo_in xs i h m
    obtain ⟨g0, g1⟩ := h (i + m)
    rw [lo6, show (16 : Int) ^ (m + 1) = 16 ^ m * 16 from Int.pow_succ 16 m]
    generalize (16 : Int) ^ m = P at *
    have a0 : 0 ≤ xs.getD (i + m) 0 * P := Int.mul_nonneg g0 (by omega)
    have a1 : xs.getD (i + m) 0 * P ≤ 15 * P := Int.mul_le_mul_of_nonneg_right g1 (by omega)
    omega
theorem ctB_getD {xs : List Int} (h : ctB xs = true) (j : Nat) : 0 ≤ xs.getD j 0 ∧ xs.getD j 0 ≤ 15 := by
  by_cases hj : j < xs.length
  · rw [List.getD, List.getElem?_eq_getElem hj]; exact ctB_at h j hj
  · rw [List.getD, List.getElem?_eq_none (by omega)]; decide
/-- The four numbers of counts, and their record. -/
def ctNs (xs : List Int) : List Int := [lo6 xs 0 6, lo6 xs 6 6, lo6 xs 12 6, lo6 xs 18 6]
def encT (xs : List Int) : ByteArray := sealS 2 (ctNs xs)
def erR (xs : List Int) : ByteArray := if ctF xs = 0 then encT xs else ⟨#[]⟩
theorem ctNs_in {xs : List Int} (h : ctB xs = true) : ∀ j (hj : j < (ctNs xs).length), 0 ≤ (ctNs xs)[j] ∧ (ctNs xs)[j] ≤ 16777215 := by
  have k : ∀ i, 0 ≤ lo6 xs i 6 ∧ lo6 xs i 6 ≤ 16777215 := fun i => by
    have := lo_in xs i (ctB_getD h) 6
    rw [show (16 : Int) ^ 6 = 16777216 from rfl] at this
    omega
  intro j hj
  match j, hj with
  | 0, _ => exact k 0
  | 1, _ => exact k 6
  | 2, _ => exact k 12
  | 3, _ => exact k 18
theorem ct_seal {xs : List Int} (h : ctB xs = true) : sealC 2 (ctNs xs) = 0 ∧ sealT 2 (ctNs xs) = encT xs := by
  have hi : intsB (ctNs xs) = true := by
    rw [intsB_len]
    · rfl
    · intro j hj
      have := ctNs_in h j hj
      simp [numB, inB]; omega
  have hc : sealC 2 (ctNs xs) = 0 := sealC_ok (listC_ok (by simp [ctNs]) hi) rfl
  exact ⟨hc, sealT_ok hc⟩
/-- The numbers when k counts are in. -/
def txN (xs : List Int) (k : Nat) : List Int := (List.range 4).map (fun q => lo6 xs (6 * q) (min 6 (k - 6 * q)))
theorem txN_len (xs : List Int) (k : Nat) : (txN xs k).length = 4 := by simp [txN]
theorem txN_zero (xs : List Int) : txN xs 0 = [0, 0, 0, 0] := by simp [txN, List.range_succ, lo6]
theorem txN_end (xs : List Int) : txN xs 24 = ctNs xs := by simp [txN, ctNs, List.range_succ]
theorem txN_get (xs : List Int) (k q : Nat) (h : q < (txN xs k).length) : (txN xs k)[q] = lo6 xs (6 * q) (min 6 (k - 6 * q)) := by simp [txN]
theorem txN_step (xs : List Int) (k : Nat) (hk : k < 24) : txN xs (k + 1) = (txN xs k).set (k / 6) (lo6 xs (6 * (k / 6)) (k % 6) + xs.getD k 0 * 16 ^ (k % 6)) := by
  apply List.ext_getElem
  · rw [List.length_set, txN_len, txN_len]
  · intro q h1 h2
    rw [txN_get, List.getElem_set]
    rw [txN_len] at h1
    split
    · rename_i e
      subst e
      have e2 : min 6 (k + 1 - 6 * (k / 6)) = k % 6 + 1 := by omega
      have e3 : 6 * (k / 6) + k % 6 = k := by omega
      rw [e2, lo6, e3]
    · rename_i e
      rw [txN_get]
      have e2 : min 6 (k + 1 - 6 * q) = min 6 (k - 6 * q) := by omega
      rw [e2]
theorem txN_at (xs : List Int) (k : Nat) (hk : k < 24) (h : k / 6 < (txN xs k).length) : (txN xs k)[k / 6] = lo6 xs (6 * (k / 6)) (k % 6) := by
  rw [txN_get]
  have e2 : min 6 (k - 6 * (k / 6)) = k % 6 := by omega
  rw [e2]
/-- The count shifted to its place, and laid upon those below it. -/
theorem pow_two (r : Nat) : (16 : Int) ^ r = 2 ^ (r * 4) := by
  rw [Nat.mul_comm, Int.pow_mul]; rfl
theorem or_place {xs : List Int} (h : ctB xs = true) (i k r : Nat) (hr : r < 6) : bits .or .i64 (lo6 xs i r) (xs.getD k 0 * 16 ^ r) = lo6 xs i r + xs.getD k 0 * 16 ^ r := by
  obtain ⟨h0, h1⟩ := lo_in xs i (ctB_getD h) r
  obtain ⟨g0, g1⟩ := ctB_getD h k
  have hp : (16 : Int) ^ r ≤ 1048576 := by
    match r, hr with
    | 0, _ => decide
    | 1, _ => decide
    | 2, _ => decide
    | 3, _ => decide
    | 4, _ => decide
    | 5, _ => decide
  have hp0 : 0 < (16 : Int) ^ r := Int.pow_pos (by omega)
  have e := pow_two r
  refine or_low (r * 4) _ _ h0 (by rw [← e]; exact h1) ?_ ?_ ?_ ?_
  · generalize (16 : Int) ^ r = P at *; omega
  · exact Int.mul_nonneg g0 (by omega)
  · rw [← e]; exact Int.mul_emod_left _ _
  · have : xs.getD k 0 * 16 ^ r ≤ 15 * 16 ^ r := Int.mul_le_mul_of_nonneg_right g1 (by omega)
    generalize (16 : Int) ^ r = P at *; omega
theorem fr_here {xs : List Int} {k : Nat} (hk : k < xs.length) (h0 : xs[k] = 0) (h : ∀ j (hj : j < xs.length), j < k → decide (xs[j] ≠ 0) = true) : frN xs = k := by
  unfold frN
  rw [List.findIdx_eq hk]
  refine ⟨by simp [h0], fun j hj => ?_⟩
  have := h j (by omega) hj
  simp only [decide_eq_true_eq] at this
  simp [this]
theorem fr_none {xs : List Int} (h : ∀ j (hj : j < xs.length), decide (xs[j] ≠ 0) = true) : ¬ frN xs < xs.length := by
  unfold frN
  rw [List.findIdx_lt_length]
  rintro ⟨x, hx, h0⟩
  obtain ⟨j, hj, rfl⟩ := List.getElem_of_mem hx
  have := h j hj
  simp at this h0
  exact this h0
theorem frC_here {xs : List Int} {k : Nat} (hb : ctB xs = true) (hk : k < xs.length) (h : frN xs = k) : frC xs = 0 ∧ frR xs = (k : Int) := by
  rw [frC, frR, if_pos (ctF_ok hb), if_pos (ctF_ok hb), if_pos (by omega), if_pos (by omega), h]; exact ⟨rfl, rfl⟩
theorem frC_none {xs : List Int} (hb : ctB xs = true) (h : ¬ frN xs < xs.length) : frC xs = 7 ∧ frR xs = 0 := by
  rw [frC, frR, if_pos (ctF_ok hb), if_pos (ctF_ok hb), if_neg h, if_neg h]; exact ⟨rfl, rfl⟩
theorem frC_bad {xs : List Int} (h : ctF xs ≠ 0) : frC xs = ctF xs ∧ frR xs = 0 ∧ smR xs = 0 := ⟨if_neg h, if_neg h, if_neg h⟩
theorem sum_take {xs : List Int} {k : Nat} (hk : k < xs.length) : (xs.take (k + 1)).sum = (xs.take k).sum + xs[k] := by
  rw [List.take_succ_eq_append_getElem hk, List.sum_append]; simp
theorem sum_in {xs : List Int} (hb : ctB xs = true) : ∀ k, k ≤ xs.length → 0 ≤ (xs.take k).sum ∧ (xs.take k).sum ≤ 15 * (k : Int)
  | 0, _ => by simp
  | k + 1, h => by
    obtain ⟨h0, h1⟩ := sum_in hb k (by omega)
    obtain ⟨g0, g1⟩ := ctB_at hb k (by omega)
    rw [sum_take (by omega)]
    omega
theorem sum_all {xs : List Int} {k : Nat} (hb : ctB xs = true) (hk : ¬ k < xs.length) : smR xs = (xs.take k).sum := by
  rw [smR, if_pos (ctF_ok hb), List.take_of_length_le (by omega)]
end Go.Proofs.YtjmianalknnekaaDoor

/- A law on append: one element more at the end of a row of the call's own. -/
namespace Go.Proofs.YtjmianalknnekaaDoor
open Go.RowKit
set_option linter.unusedVariables false
section
variable {P : Program}

theorem keep_grown {S : Nat → Prop} {w w' : World} {row : Option Nat} (h : w.grownBy w' row) (hs : ∀ k, row = some k → S k) : Keep S w w' :=
  ⟨h.os, h.tape, h.output, h.size, fun k hk hn => h.block k hk (fun e => hn (hs k e.symm))⟩

theorem run_append_one (w : World) (B : Nat) (t ty e : TypeId) (i : TypeInfo) (z : Value) (size bytes : Nat) (ht : P.underlying t = some (.slice e)) (hi : P.info? e = some i) (hz : i.zero = some z)
    (hsize : i.size = size) (hby : i.bytes = bytes) (hzs : z.cells.size = size) (hsz : 0 < size)
    (qo : Option Addr) (n cap : Nat) (xs : List Value) (h : OwnR w B e size (.slice qo n cap) n xs) (hB : B ≤ w.heap.size)
    (ad : Addr) (c : Nat) (news : List Value) (hl : news.length = size) (hnews : ∀ j u, news[j]? = some u → w.cell? (ad.add j) = some u) (h1 : ∀ u ∈ news, u.oneCell' = true)
    (b1 : n + 1 ≤ maxLen) (b2 : (n + 1) * bytes ≤ 140737488355328) :
    ∃ g cap' w', (Builtin.append_ #[t, t] ty #[.slice qo n cap, .slice (some ad) 1 c]).run P w = .ok (.slice (some ⟨g, 0, none⟩) (n + 1) cap') w' ∧
      w'.ownsRow B e size (.slice (some ⟨g, 0, none⟩) (n + 1) cap') (n + 1) (xs ++ news) ∧ Keep (Own (.slice qo n cap)) w w' := by
  rcases h with ⟨rfl, rfl, ao, hv⟩ | ⟨h0, h⟩
  · simp only [Value.slice.injEq, true_and] at hv
    obtain ⟨rfl, rfl⟩ := hv
    cases qo with
    | none =>
      obtain ⟨v', w', hrun, r1, r2, _⟩ := run_append_own (P := P) w B t ty e i z size bytes ht hi hz hsize hby hzs hsz (.slice none 0 0) 0 [] (World.ownsRow_nil w _ e size) ad 1 c news (by omega) hnews h1 b1 b2 hB
      obtain ⟨g, cap, cur, rfl, _, _⟩ := own_form (by omega) r1
      exact ⟨g, cap, w', hrun, r1, keep_grown r2 (fun k hk => by cases hk)⟩
    | some d =>
      obtain ⟨v', w', hrun, r1, r2⟩ := run_append_arg_grows (P := P) w t ty e i z size bytes ht hi hz hsize hby hzs hsz d 0 0 [] (by simp) (by simp) ad 1 c news (by omega) hnews (by omega) b1 b2
      obtain ⟨g, cap, cur, rfl, _, _⟩ := own_form (by omega) r1
      exact ⟨g, cap, w', hrun, own_base r1 hB, keep_grown r2 (fun k hk => by cases hk)⟩
  · obtain ⟨g0, cap0, cur0, e0, _, _⟩ := own_form h0 h
    rw [e0] at h
    obtain ⟨v', w', hrun, r1, r2, _⟩ := run_append_own (P := P) w B t ty e i z size bytes ht hi hz hsize hby hzs hsz _ n xs h ad 1 c news (by omega) hnews h1 b1 b2 hB
    obtain ⟨g, cap, cur, rfl, _, _⟩ := own_form (by omega) r1
    rw [e0]
    exact ⟨g, cap, w', hrun, r1, keep_grown r2 (fun k hk => by cases hk; exact own_of h0 rfl)⟩

theorem wpList_append_one {w : World} {ops : Array Oper} {rest : List Oper} {o : Oper} {a : Act} {Q : Exit → Act → World → Prop} (hgd : o.guard = none) (s x : Operand) (t : TypeId)
    (ho : o.op = .call { callee := .builtin .append, args := #[s, x], argTypes := #[t, t] })
    (B : Nat) (e : TypeId) (i : TypeInfo) (z : Value) (size bytes : Nat) (ht : P.underlying t = some (.slice e)) (hi : P.info? e = some i) (hz : i.zero = some z)
    (hsize : i.size = size) (hby : i.bytes = bytes) (hzs : z.cells.size = size) (hsz : 0 < size)
    (qo : Option Addr) (n cap : Nat) (xs : List Value) (hs : a.eval s = .slice qo n cap) (h : OwnR w B e size (.slice qo n cap) n xs) (hB : B ≤ w.heap.size)
    (ad : Addr) (c : Nat) (news : List Value) (hx : a.eval x = .slice (some ad) 1 c) (hl : news.length = size) (hnews : ∀ j u, news[j]? = some u → w.cell? (ad.add j) = some u) (h1 : ∀ u ∈ news, u.oneCell' = true)
    (b1 : n + 1 ≤ maxLen) (b2 : (n + 1) * bytes ≤ 140737488355328)
    (hK : ∀ g cap' w', w'.ownsRow B e size (.slice (some ⟨g, 0, none⟩) (n + 1) cap') (n + 1) (xs ++ news) → Keep (Own (.slice qo n cap)) w w' → wpList P ops Q rest (a.put o.dst (.slice (some ⟨g, 0, none⟩) (n + 1) cap')) w') : wpList P ops Q (o :: rest) a w := by
  refine wpList_plain hgd fun K hK' => ?_
  obtain ⟨g, cap', w', hrun, r1, r2⟩ := run_append_one (P := P) w B t o.type e i z size bytes ht hi hz hsize hby hzs hsz qo n cap xs h hB ad c news hl hnews h1 b1 b2
  unfold Oper.wp
  simp [execOp, ho, resolve, invoke, builtin, hs, hx, hrun, Result.andThen]
  exact hK' _ _ (hK _ _ _ r1 r2)

theorem step_append_one {w : World} {ops : Array Oper} {o : Oper} {a : Act} {K : Act → World → Prop} {Q : Exit → Act → World → Prop} {E : Prop} (hgd : o.guard = none) (s x : Operand) (t : TypeId)
    (ho : o.op = .call { callee := .builtin .append, args := #[s, x], argTypes := #[t, t] })
    (B : Nat) (e : TypeId) (i : TypeInfo) (z : Value) (size bytes : Nat) (ht : P.underlying t = some (.slice e)) (hi : P.info? e = some i) (hz : i.zero = some z)
    (hsize : i.size = size) (hby : i.bytes = bytes) (hzs : z.cells.size = size) (hsz : 0 < size)
    (qo : Option Addr) (n cap : Nat) (xs : List Value) (hs : a.eval s = .slice qo n cap) (h : OwnR w B e size (.slice qo n cap) n xs) (hB : B ≤ w.heap.size)
    (ad : Addr) (c : Nat) (news : List Value) (hx : a.eval x = .slice (some ad) 1 c) (hl : news.length = size) (hnews : ∀ j u, news[j]? = some u → w.cell? (ad.add j) = some u) (h1 : ∀ u ∈ news, u.oneCell' = true)
    (b1 : n + 1 ≤ maxLen) (b2 : (n + 1) * bytes ≤ 140737488355328)
    (hK : ∀ g cap' w', w'.ownsRow B e size (.slice (some ⟨g, 0, none⟩) (n + 1) cap') (n + 1) (xs ++ news) → Keep (Own (.slice qo n cap)) w w' → K (a.put o.dst (.slice (some ⟨g, 0, none⟩) (n + 1) cap')) w') :
    if Region.wanted o (yielded ops a.tmps) = true then Oper.wp P o a w K Q else E := by
  have hw : Region.wanted o (yielded ops a.tmps) = true := by simp [Region.wanted, hgd]
  rw [if_pos hw]
  obtain ⟨g, cap', w', hrun, r1, r2⟩ := run_append_one (P := P) w B t o.type e i z size bytes ht hi hz hsize hby hzs hsz qo n cap xs h hB ad c news hl hnews h1 b1 b2
  unfold Oper.wp
  simp [execOp, ho, resolve, invoke, builtin, hs, hx, hrun, Result.andThen]
  exact hK _ _ _ r1 r2
theorem step_append_at {w : World} {ops : Array Oper} {o : Oper} {a : Act} {K : Act → World → Prop} {Q : Exit → Act → World → Prop} {E : Prop} (hgd : o.guard = none) (s x : Operand) (t : TypeId)
    (ho : o.op = .call { callee := .builtin .append, args := #[s, x], argTypes := #[t, t] })
    (B : Nat) (e : TypeId) (i : TypeInfo) (z : Value) (size bytes : Nat) (ht : P.underlying t = some (.slice e)) (hi : P.info? e = some i) (hz : i.zero = some z)
    (hsize : i.size = size) (hby : i.bytes = bytes) (hzs : z.cells.size = size) (hsz : 0 < size)
    (qo : Option Addr) (n cap : Nat) (xs : List Value) (hs : a.eval s = .slice qo n cap) (h : OwnR w B e size (.slice qo n cap) n xs) (hB : B ≤ w.heap.size)
    (news : List Value) (hx : ∃ y c, a.eval x = .slice (some ⟨y, 0, none⟩) 1 c ∧ ∀ j u, news[j]? = some u → w.cell? ((⟨y, 0, none⟩ : Addr).add j) = some u) (hl : news.length = size) (h1 : ∀ u ∈ news, u.oneCell' = true)
    (b1 : n + 1 ≤ maxLen) (b2 : (n + 1) * bytes ≤ 140737488355328)
    (hK : ∀ g cap' w', w'.ownsRow B e size (.slice (some ⟨g, 0, none⟩) (n + 1) cap') (n + 1) (xs ++ news) → Keep (Own (.slice qo n cap)) w w' → K (a.put o.dst (.slice (some ⟨g, 0, none⟩) (n + 1) cap')) w') :
    if Region.wanted o (yielded ops a.tmps) = true then Oper.wp P o a w K Q else E := by
  obtain ⟨y, c, hx, hnews⟩ := hx
  exact step_append_one hgd s x t ho B e i z size bytes ht hi hz hsize hby hzs hsz qo n cap xs hs h hB ⟨y, 0, none⟩ c news hx hl hnews h1 b1 b2 hK
end
end Go.Proofs.YtjmianalknnekaaDoor

/- Contracts of what asks whether numbers are right: the program's and its model's. -/
namespace Go.Proofs.YtjmianalknnekaaDoor
open Go.RowKit
set_option linter.unusedVariables false
set_option maxRecDepth 100000

theorem l01In_num (n low high : Int) (w : World) : Calls Tryd.prog 38 #[.int .i64 n, .int .i64 low, .int .i64 high] w fun e w' => e = .returned (.bool (inB n low high)) ∧ w' = w := by
  go_enter Tryd.func38, Tryd.ntmps38
  go_wp2
  all_goals
    go_ret
    exact ⟨ret_bool (by rw [Bool.eq_iff_iff]; simp [inB]; omega), rfl⟩
theorem l02Int_any (n : Int) (w : World) : Calls Tryd.prog 60 #[.int .i64 n] w fun e w' => e = .returned (.bool (numB n)) ∧ w' = w := by
  go_enter Tryd.func60, Tryd.ntmps60
  go_wp2_with (go_at_call 38; refine (l01In_num _ _ _ _).mono ?_; rintro e w' ⟨rfl, rfl⟩)
  go_ret
  exact ⟨rfl, rfl⟩
theorem isNumber_any (n : Int) (w : World) : Calls Tryd.prog 56 #[.int .i64 n] w fun e w' => e = .returned (.bool (numB n)) ∧ w' = w := by
  go_enter Tryd.func56, Tryd.ntmps56
  go_wp2
  all_goals
    go_ret
    exact ⟨ret_bool (by rw [Bool.eq_iff_iff]; simp [numB, inB]; omega), rfl⟩

set_option maxHeartbeats 800000 in
theorem l02Ints_any (ao : Option Addr) (cap : Nat) (xs : List Int) (w : World) (hl : xs.length ≤ 1048576) (hc : Is w ao xs) :
    Calls Tryd.prog 58 #[.slice ao xs.length cap] w fun e w' => e = .returned (.bool (intsB xs)) ∧ w' = w := by
  have HC := hide hc
  clear hc
  go_enter Tryd.func58, Tryd.ntmps58
  go_wp2
  go_loop [3] (fun i => ∃ k : Nat, k ≤ xs.length ∧ i = .int .i64 k ∧ Hid (∀ j (h : j < xs.length), j < k → numB xs[j] = true)) (fun i => xs.length - (intOf i).toNat)
  case atStart => exact ⟨0, Nat.zero_le _, rfl, hide (fun j _ h => by omega)⟩
  case round =>
    obtain ⟨k, hk, rfl, HA⟩ := hrel
    by_cases hlt : k < xs.length
    · obtain ⟨b, off, rfl, hc⟩ := unhide HC k hlt
      by_cases hn : numB xs[k] = true
      · have HN := hide (all_succ hlt (unhide HA) hn)
        go_wp2_with (go_at_call 60; refine (l02Int_any _ _).mono ?_; rintro e w' ⟨rfl, rfl⟩)
        go_round
        case rel => exact ⟨k + 1, by omega, by go_num, HN⟩
        case measure => simp [intOf]; omega
      · have hn' : numB xs[k] = false := by simpa using hn
        have HF := hide (intsB_false_at hlt hn')
        clear hn
        go_wp2_with (go_at_call 60; refine (l02Int_any _ _).mono ?_; rintro e w' ⟨rfl, rfl⟩)
        go_ret
        exact ⟨ret_bool (unhide HF).symm, rfl⟩
    · have HF := hide (intsB_len (xs := xs) (fun j h => unhide HA j h (by omega)))
      go_wp2
      go_ret
      exact ⟨ret_bool (by rw [unhide HF, Bool.eq_iff_iff]; simp; omega), rfl⟩

end Go.Proofs.YtjmianalknnekaaDoor

/- Contracts of the program's reader of numbers: demand, readNumber. -/
namespace Go.Proofs.YtjmianalknnekaaDoor
open Go.RowKit
set_option linter.unusedVariables false
set_option maxRecDepth 100000

def ErrW (w : World) : Prop := ∃ u pv, w.cell? ⟨1, 0, none⟩ = some (.iface u pv)

theorem demand_true (w : World) : Calls Tryd.prog 42 #[.bool true] w fun e w' => e = .returned (.tuple #[]) ∧ w' = w := by
  go_enter Tryd.func42, Tryd.ntmps42
  go_wp2
  go_end0
  exact ⟨rfl, rfl⟩
theorem run_panic_iface (P : Program) (w : World) (u : TypeId) (pv : Value) : (Instr.panic (.iface u pv)).run P w = .halt (.panic (.iface u pv)) w := by
  simp [Instr.panic, goPanic, go_sem]
theorem demand_false (w : World) (h : ErrW w) : Calls Tryd.prog 42 #[.bool false] w fun e w' => (∃ u pv, e = .panicked [{ v := .iface u pv, recovered := false }]) ∧ w' = w := by
  obtain ⟨u, pv, hc⟩ := h
  have hp := fun w => run_panic_iface Tryd.prog w u pv
  go_enter Tryd.func42, Tryd.ntmps42
  go_wp2
  exact ⟨rfl, ⟨u, pv, rfl⟩, rfl⟩

theorem demand_if (b : Bool) (w : World) (hb : b = true) : Calls Tryd.prog 42 #[.bool b] w fun e w' => e = .returned (.tuple #[]) ∧ w' = w := by
  subst hb; exact demand_true w
theorem demand_not (b : Bool) (w : World) (hb : b = false) (h : ErrW w) : Calls Tryd.prog 42 #[.bool b] w fun e w' => (∃ u pv, e = .panicked [{ v := .iface u pv, recovered := false }]) ∧ w' = w := by
  subst hb; exact demand_false w h

theorem alloc_row (w : World) (c d : Array Value) (t : TypeId) : (w.alloc (.cells c t)).setRow w.heap.size d = w.alloc (.cells d t) := by
  have h : ((w.heap.push (.cells c t)).modify w.heap.size fun | .cells _ elem frozen => .cells d elem frozen | o => o) = w.heap.push (.cells d t) := by
    apply Array.ext
    · simp
    · intro i h1 h2
      rw [Array.getElem_modify]
      by_cases hi : w.heap.size = i
      · subst hi; simp
      · rw [if_neg hi]
        simp at h1
        rw [Array.getElem_push_lt (by omega), Array.getElem_push_lt (by omega)]
  unfold World.setRow
  have h' : ∀ X : Array Obj, X = w.heap.push (.cells d t) → ({ w.alloc (.cells c t) with heap := X } : World) = w.alloc (.cells d t) := by
    rintro X rfl
    rfl
  exact h' _ h
theorem first4 {s : ByteArray} (hs : 4 ≤ s.size) : (s.data.toList.map fun b : UInt8 => Value.int .u8 (b.toNat : Int)).take 4 = [.int .u8 (byteAt s 0), .int .u8 (byteAt s 1), .int .u8 (byteAt s 2), .int .u8 (byteAt s 3)] := by
  have hl : 4 ≤ s.data.toList.length := by simpa using hs
  obtain ⟨a, b, c, d, r, e⟩ : ∃ a b c d r, s.data.toList = a :: b :: c :: d :: r := by
    match h : s.data.toList with
    | a :: b :: c :: d :: r => exact ⟨a, b, c, d, r, rfl⟩
    | [] => simp [h] at hl
    | [a] => simp [h] at hl
    | [a, b] => simp [h] at hl
    | [a, b, c] => simp [h] at hl
  have hb : ∀ k, byteAt s k = ((s.data.toList[k]?.getD 0).toNat : Int) := fun k => by simp [byteAt]
  rw [hb, hb, hb, hb, e]
  simp
theorem copy4 (w : World) (s : ByteArray) (hs : 4 ≤ s.size) : (Builtin.copy_ #[22, 9] 3 #[.slice (some ⟨w.heap.size, 0, none⟩) 4 4, .string s]).run Tryd.prog (w.alloc (.cells #[.int .u8 0, .int .u8 0, .int .u8 0, .int .u8 0] 72)) = .ok (.int .i64 4) (w.alloc (.cells #[.int .u8 (byteAt s 0), .int .u8 (byteAt s 1), .int .u8 (byteAt s 2), .int .u8 (byteAt s 3)] 72)) := by
  have hsz : (Tryd.prog.info? 5).map (·.size) = some 1 := by kernel_rfl
  have hst := run_storeCells_at Tryd.prog w.heap.size 0 72 [.int .u8 (byteAt s 0), .int .u8 (byteAt s 1), .int .u8 (byteAt s 2), .int .u8 (byteAt s 3)] 0 #[.int .u8 0, .int .u8 0, .int .u8 0, .int .u8 0] (w.alloc (.cells #[.int .u8 0, .int .u8 0, .int .u8 0, .int .u8 0] 72)) (heap_alloc_new w _) (by simp) (by
    intro v hv
    simp at hv
    rcases hv with rfl | rfl | rfl | rfl <;> rfl)
  have hmin : Nat.min s.size 4 = 4 := Nat.min_eq_right hs
  cases hq : Tryd.prog.info? 5 with
  | none => simp [hq] at hsz
  | some i =>
    simp [Builtin.copy_, run_underlying Tryd.underlying22, Builtin.lenOf, Builtin.firstCells, sizeOf, typeInfo, hq, hmin]
    rw [first4 hs, hst]
    simp [Result.andThen, alloc_row]
    rfl

theorem copy4_at (W : World) (g : Nat) (s : ByteArray) (hg : W.heap.size = g) (hs : 4 ≤ s.size) : (Builtin.copy_ #[22, 9] 3 #[.slice (some ⟨g, 0, none⟩) 4 4, .string s]).run Tryd.prog (W.alloc (.cells #[.int .u8 0, .int .u8 0, .int .u8 0, .int .u8 0] 72)) = .ok (.int .i64 4) (W.alloc (.cells #[.int .u8 (byteAt s 0), .int .u8 (byteAt s 1), .int .u8 (byteAt s 2), .int .u8 (byteAt s 3)] 72)) := by
  subst hg; exact copy4 W s hs

theorem readNumber_ok (s : ByteArray) (w : World) (hs : 4 ≤ s.size) (hn : numB (numAt s 0) = true) : Calls Tryd.prog 59 #[.string s] w fun e w' => e = .returned (.int .i64 (numAt s 0)) ∧ Below w.heap.size w w' := by
  have hc4 := copy4 w s hs
  have hnum := num_impl s
  go_enter Tryd.func59, Tryd.ntmps59
  go_wp2_with (first | (go_at_call 56; refine (isNumber_any _ _).mono ?_; rintro e w' ⟨rfl, rfl⟩) | (go_at_call 42; refine (demand_true _).mono ?_; rintro e w' ⟨rfl, rfl⟩))
  go_ret
  exact ⟨rfl, Joins.below_alloc1 _ _⟩
theorem ErrW.below {w w' : World} (h : ErrW w) (hb : Below w.heap.size w w') : ErrW w' := by
  obtain ⟨u, pv, hc⟩ := h
  exact ⟨u, pv, (hb.cell (World.block_lt_of_cell? _ _ hc)).trans hc⟩
theorem readNumber_no (s : ByteArray) (w : World) (hs : 4 ≤ s.size) (hn : numB (numAt s 0) = false) (hE : ErrW w) : Calls Tryd.prog 59 #[.string s] w fun e w' => (∃ u pv, e = .panicked [{ v := .iface u pv, recovered := false }]) ∧ Below w.heap.size w w' := by
  have hc4 := copy4 w s hs
  have hnum := num_impl s
  have HE := hide (hE.below (Joins.below_alloc1 w (.cells #[.int .u8 (byteAt s 0), .int .u8 (byteAt s 1), .int .u8 (byteAt s 2), .int .u8 (byteAt s 3)] 72)))
  clear hE
  go_enter Tryd.func59, Tryd.ntmps59
  go_wp2_with (first | (go_at_call 56; refine (isNumber_any _ _).mono ?_; rintro e w' ⟨rfl, rfl⟩) | (go_at_call 42; refine (demand_false _ (unhide HE)).mono ?_; rintro e w' ⟨⟨u, pv, rfl⟩, rfl⟩))
  exact ⟨rfl, ⟨_, _, rfl⟩, Joins.below_alloc1 _ _⟩

end Go.Proofs.YtjmianalknnekaaDoor

/- Contracts of copyList, at texts and at writes: what was there, in new memory. -/
namespace Go.Proofs.YtjmianalknnekaaDoor
open Go.RowKit
set_option linter.unusedVariables false
set_option maxRecDepth 100000

section
variable {P : Program}

/-- 'copy(out, src)', both of n elements of some cells each. -/
theorem run_copy_whole (w : World) (dT sT ty elem : TypeId) (size g n dCap : Nat) (a : Addr) (sCap : Nat) (cur : Array Value) (t : TypeId) (cs : List Value)
    (hu : P.underlying dT = some (.slice elem)) (hs : (P.info? elem).map (·.size) = some size)
    (hg : w.heap[g]? = some (.cells cur t (0, 0))) (hl : n * size = cs.length)
    (hsrc : ∀ j v, cs[j]? = some v → w.cell? (a.add j) = some v) (hfit : cs.length ≤ cur.size) (h1 : ∀ v ∈ cs, v.oneCell' = true) :
    (Builtin.copy_ #[dT, sT] ty #[.slice (some ⟨g, 0, none⟩) n dCap, .slice (some a) n sCap]).run P w = .ok (goInt n) (w.setRow g (cs ++ cur.toList.drop cs.length).toArray) := by
  have hld := run_loadCells_list (P := P) w a cs hsrc
  have hst := run_storeCells_at P g 0 t cs 0 cur w hg (by simpa using hfit) h1
  cases hq : P.info? elem with
  | none => simp [hq] at hs
  | some i =>
    have hi : i.size = size := by simpa [hq] using hs
    simp [Builtin.copy_, run_underlying hu, Builtin.lenOf, Builtin.firstCells, sizeOf, typeInfo, hq, hi, hl, hld, hst]

theorem wpList_copy_whole {w : World} {ops : Array Oper} {rest : List Oper} {o : Oper} {a : Act} {Q : Exit → Act → World → Prop} (hgd : o.guard = none) (d s : Operand) (dT sT : TypeId)
    (ho : o.op = .call { callee := .builtin .copy, args := #[d, s], argTypes := #[dT, sT] }) (elem : TypeId) (size : Nat) (hu : P.underlying dT = some (.slice elem)) (hsz : (P.info? elem).map (·.size) = some size)
    (B g n : Nat) (ad : Addr) (sCap : Nat) (hd : a.eval d = .slice (some ⟨g, 0, none⟩) n n) (hs : a.eval s = .slice (some ad) n sCap)
    (xs : List Value) (hown : w.ownsRow B elem size (.slice (some ⟨g, 0, none⟩) n n) n xs) (cs : List Value) (hn : cs.length = n * size)
    (hsrc : ∀ j v, cs[j]? = some v → w.cell? (ad.add j) = some v) (h1 : ∀ v ∈ cs, v.oneCell' = true)
    (h : ∀ w', w'.ownsRow B elem size (.slice (some ⟨g, 0, none⟩) n n) n cs → w.grownBy w' (some g) → wpList P ops Q rest (a.put o.dst (goInt n)) w') : wpList P ops Q (o :: rest) a w := by
  refine wpList_plain hgd fun K hK => ?_
  rcases hown.2 with ⟨e, _⟩ | ⟨g', cap', cur, e, hB, hg, hnc, hcm, hcs, ht⟩
  · simp at e
  · simp only [Value.slice.injEq, Option.some.injEq, Addr.mk.injEq, and_true, true_and] at e
    obtain ⟨rfl, rfl⟩ := e
    have hrun := run_copy_whole (P := P) w dT sT o.type elem size g n n ad sCap cur elem cs hu hsz hg hn.symm hsrc (by omega) h1
    unfold Oper.wp
    simp [execOp, ho, resolve, invoke, builtin, hd, hs, hrun, Result.andThen]
    refine hK _ _ (h _ ⟨hn, .inr ⟨g, n, _, rfl, hB, setRow_heap w g _ _ elem _ hg, hnc, hcm, ?_, ?_⟩⟩ ⟨rfl, rfl, rfl, by simp, fun k _ hk => setRow_other w g k _ (fun e => hk (by simp [e]))⟩)
    · simp; omega
    · rw [← hn]; simp
end

theorem infoS : (Tryd.prog.info? 9).map (fun i => (i.zero, i.size, i.bytes)) = some (some (.string ⟨#[]⟩), 1, 16) := by kernel_rfl
theorem sizeS : (Tryd.prog.info? 9).map (·.size) = some 1 := by kernel_rfl
theorem strV_one (ss : List ByteArray) : ∀ v ∈ strV ss, v.oneCell' = true := by
  intro v hv
  simp only [strV, List.mem_map] at hv
  obtain ⟨s, _, rfl⟩ := hv
  rfl
theorem ioV_one (xs : List Wr) : ∀ v ∈ ioV xs, v.oneCell' = true := by
  intro v hv
  simp only [ioV, List.mem_flatMap] at hv
  obtain ⟨x, _, hv⟩ := hv
  simp at hv
  rcases hv with rfl | rfl | rfl <;> rfl
/-- A slice that is not empty has an address at which its cells lie. -/
theorem Ss.at {w : World} {ao : Option Addr} {ss : List ByteArray} (h : Ss w ao ss) (hp : 0 < ss.length) : ∃ b off, ao = some ⟨b, off, none⟩ ∧ ∀ j v, (strV ss)[j]? = some v → w.cell? (Addr.add ⟨b, off, none⟩ j) = some v := by
  obtain ⟨b, off, rfl, _⟩ := h 0 hp
  refine ⟨b, off, rfl, fun j v hv => ?_⟩
  have hj : j < ss.length := by have := (List.getElem?_eq_some_iff.1 hv).1; rwa [strV_length] at this
  obtain ⟨b', off', e, hc, _⟩ := h j hj
  simp only [Option.some.injEq, Addr.mk.injEq, and_true] at e
  obtain ⟨rfl, rfl⟩ := e
  rw [strV_get hj] at hv
  cases hv
  rw [show Addr.add ⟨b, off, none⟩ j = ⟨b, off + j, none⟩ from by unfold Addr.add; split <;> simp_all]
  exact hc
theorem ioV_at {xs : List Wr} {j : Nat} {v : Value} (h : (ioV xs)[j]? = some v) : ∃ i r, ∃ hi : i < xs.length, j = i * 3 + r ∧ ((r = 0 ∧ v = .int .i64 xs[i].host) ∨ (r = 1 ∧ v = .int .i64 xs[i].at_) ∨ (r = 2 ∧ v = .string xs[i].data)) := by
  have hj : j < xs.length * 3 := by have := (List.getElem?_eq_some_iff.1 h).1; rwa [ioV_length] at this
  have hi : j / 3 < xs.length := by omega
  obtain ⟨g0, g1, g2⟩ := ioV_get hi
  rcases (show j % 3 = 0 ∨ j % 3 = 1 ∨ j % 3 = 2 by omega) with e | e | e
  · rw [show j = j / 3 * 3 by omega, g0] at h; cases h
    exact ⟨j / 3, 0, hi, by omega, .inl ⟨rfl, rfl⟩⟩
  · rw [show j = j / 3 * 3 + 1 by omega, g1] at h; cases h
    exact ⟨j / 3, 1, hi, by omega, .inr (.inl ⟨rfl, rfl⟩)⟩
  · rw [show j = j / 3 * 3 + 2 by omega, g2] at h; cases h
    exact ⟨j / 3, 2, hi, by omega, .inr (.inr ⟨rfl, rfl⟩)⟩
theorem Ios.at {w : World} {ao : Option Addr} {xs : List Wr} (h : Ios w ao xs) (hp : 0 < xs.length) : ∃ b off, ao = some ⟨b, off, none⟩ ∧ ∀ j v, (ioV xs)[j]? = some v → w.cell? (Addr.add ⟨b, off, none⟩ j) = some v := by
  obtain ⟨b, off, rfl, _⟩ := h 0 hp
  refine ⟨b, off, rfl, fun j v hv => ?_⟩
  obtain ⟨i, r, hi, rfl, hr⟩ := ioV_at hv
  obtain ⟨b', off', e, h0, h1, h2, _⟩ := h i hi
  simp only [Option.some.injEq, Addr.mk.injEq, and_true] at e
  obtain ⟨rfl, rfl⟩ := e
  rw [show Addr.add ⟨b, off, none⟩ (i * 3 + r) = ⟨b, off + i * 3 + r, none⟩ from by unfold Addr.add; split <;> simp_all [Nat.add_assoc]]
  rcases hr with ⟨rfl, rfl⟩ | ⟨rfl, rfl⟩ | ⟨rfl, rfl⟩
  · exact h0
  · exact h1
  · exact h2

end Go.Proofs.YtjmianalknnekaaDoor
