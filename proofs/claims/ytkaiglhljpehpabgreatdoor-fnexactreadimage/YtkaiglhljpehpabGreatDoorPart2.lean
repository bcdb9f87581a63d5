import Derived.Test.YtkaiglhljpehpabGreatDoorPart1
import Derived.WalkKit
import Derived.Laws.BytesArg
import Derived.Test.YtkaiglhljpehpabGreatDoorRows
import Derived.WalkSpells
import Derived.Laws.BitsLemmas
import Derived.Lib.EndianBits
import Derived.Lib.LazyBuf
import Derived.ProofKit
import Derived.OpenShut
import Derived.ShutString
import Derived.LaidMore
import Derived.LaidLaws
import Derived.OpenVars
import Derived.Stop.Joined
import Derived.Lib.LaidTab
import Derived.SliceStrings
import Derived.Lib.SmallJoins
import Derived.KernelRfl

/- Plain facts on lists of numbers, of no program: what a slice of numbers shows, rows of the call's own, right numbers, their bytes. -/
namespace Go.Proofs.YtkaiglhljpehpabGreatDoor
open Go.RowKit

/-- A slice shows these numbers. -/
def Is (w : World) (ao : Option Addr) (xs : List Int) : Prop := ∀ i (h : i < xs.length), ∃ b off, ao = some ⟨b, off, none⟩ ∧ w.cell? ⟨b, off + i, none⟩ = some (.int .i64 xs[i])
theorem Is.below {w w' : World} {ao : Option Addr} {xs : List Int} (h : Is w ao xs) (hb : Below w.heap.size w w') : Is w' ao xs := fun i hi => by
  obtain ⟨b, off, e, hc⟩ := h i hi
  exact ⟨b, off, e, (hb.cell (p := ⟨b, off + i, none⟩) (World.block_lt_of_cell? _ _ hc)).trans hc⟩
def intV (xs : List Int) : List Value := xs.map (Value.int .i64)
theorem intV_length (xs : List Int) : (intV xs).length = xs.length := by simp [intV]
theorem intV_get {xs : List Int} {i : Nat} (h : i < xs.length) : (intV xs)[i]? = some (.int .i64 xs[i]) := by simp [intV, h]
theorem intV_snoc (xs : List Int) (n : Int) : intV (xs ++ [n]) = intV xs ++ [.int .i64 n] := by simp [intV]
theorem ownN {w : World} {B e cap : Nat} {ao : Option Addr} {xs : List Int} (h : w.ownsRow B e 1 (.slice ao xs.length cap) xs.length (intV xs)) : Is w ao xs := by
  rcases h.2 with ⟨hv, h0⟩ | ⟨g, cap', cur, hv, hb, hg, hnc, hcm, hcs, ht⟩
  · intro i hi
    omega
  · simp only [Value.slice.injEq, true_and] at hv
    obtain ⟨rfl, rfl⟩ := hv
    intro i hi
    refine ⟨g, 0, rfl, ?_⟩
    rw [Nat.zero_add, h.cellAt i (by omega), intV_get hi]
theorem ownRN {w : World} {B e cap : Nat} {ao : Option Addr} {xs : List Int} (h : OwnR w B e 1 (.slice ao xs.length cap) xs.length (intV xs)) : Is w ao xs := by
  rcases h with ⟨h0, _⟩ | ⟨_, h⟩
  · intro i hi; omega
  · exact ownN h

def eqNB (xs ys : List Int) : Bool := decide (xs = ys)
theorem eqNB_self (xs : List Int) : eqNB xs xs = true := by simp [eqNB]
theorem eqNB_true {ss tt : List Int} (hl : ss.length = tt.length) (h : ∀ j (h : j < ss.length) (h' : j < tt.length), ss[j] = tt[j]) : eqNB ss tt = true := decide_eq_true (List.ext_getElem hl h)
theorem eqNB_false_len {ss tt : List Int} (hl : ¬ ss.length = tt.length) : eqNB ss tt = false := decide_eq_false fun h => hl (by rw [h])
theorem eqNB_false {ss tt : List Int} {k : Nat} (hk : k < ss.length) (hk' : k < tt.length) (h : ss[k] ≠ tt[k]) : eqNB ss tt = false := decide_eq_false fun e => by subst e; exact h rfl

/-- A right number; right lists of numbers. -/
def numB (n : Int) : Bool := inB n 0 2147483647
def allB (xs : List Int) : Bool := xs.all numB
def intsB (xs : List Int) : Bool := allB xs && decide (xs.length ≤ 16)
theorem allB_true {xs : List Int} (ha : ∀ j (h : j < xs.length), numB xs[j] = true) : allB xs = true := all_of (p := numB) (fun i hi _ => ha i hi)
theorem allB_false {xs : List Int} {k : Nat} (hk : k < xs.length) (h : numB xs[k] = false) : allB xs = false := all_not (p := numB) hk h
theorem intsB_false_at {xs : List Int} {k : Nat} (hk : k < xs.length) (h : numB xs[k] = false) : intsB xs = false := by rw [intsB, allB_false hk h]; rfl
theorem intsB_len {xs : List Int} (ha : ∀ j (h : j < xs.length), numB xs[j] = true) : intsB xs = decide (xs.length ≤ 16) := by rw [intsB, allB_true ha]; rfl
theorem intsB_long {xs : List Int} (h : 16 < xs.length) : intsB xs = false := by rw [intsB, decide_eq_false (by omega)]; simp
theorem intsB_parts {xs : List Int} (h : intsB xs = true) : (∀ j (h : j < xs.length), 0 ≤ xs[j] ∧ xs[j] ≤ 2147483647) ∧ xs.length ≤ 16 := by
  simp only [intsB, Bool.and_eq_true, decide_eq_true_eq] at h
  refine ⟨fun j hj => ?_, h.2⟩
  have := h.1
  rw [allB, List.all_eq_true] at this
  have := this _ (List.getElem_mem hj)
  simpa [numB, inB] using this
/-- The code of a list. -/
def listC (xs : List Int) : Int := if 4096 < xs.length then 2 else if intsB xs = true then 0 else 4
theorem listC_long {xs : List Int} (h : 4096 < xs.length) : listC xs = 2 := if_pos h
theorem listC_bad {xs : List Int} (h : ¬ 4096 < xs.length) (hb : intsB xs = false) : listC xs = 4 := by rw [listC, if_neg h, if_neg (by simp [hb])]
theorem listC_ok {xs : List Int} (h : ¬ 4096 < xs.length) (hb : intsB xs = true) : listC xs = 0 := by rw [listC, if_neg h, if_pos hb]
theorem listC_zero {xs : List Int} (h : listC xs = 0) : intsB xs = true := by
  unfold listC at h
  split at h
  · cases h
  · split at h
    · assumption
    · cases h

/-- A number's bytes, the lowest first. -/
def byteN (n : Int) (j : Nat) : Int := n / (256 : Int) ^ j % 256
def fourTo (n : Int) (j : Nat) : List Int := (List.range j).map (byteN n)
def four (n : Int) : List Int := fourTo n 4
theorem fourTo_succ (n : Int) (j : Nat) : fourTo n (j + 1) = fourTo n j ++ [byteN n j] := by simp [fourTo, List.range_succ]
theorem fourTo_length (n : Int) (j : Nat) : (fourTo n j).length = j := by simp [fourTo]
theorem byteN_in (n : Int) (j : Nat) : 0 ≤ byteN n j ∧ byteN n j ≤ 255 := by unfold byteN; omega
def byteV (ns : List Int) : List Value := ns.map (Value.int .u8)
theorem byteV_length (ns : List Int) : (byteV ns).length = ns.length := by simp [byteV]
theorem byteV_snoc (ns : List Int) (n : Int) : byteV (ns ++ [n]) = byteV ns ++ [.int .u8 n] := by simp [byteV]
/-- A number, its lowest bytes cut off. -/
def shN (n : Int) (j : Nat) : Int := n / (256 : Int) ^ j
theorem shN_in {n : Int} (h : 0 ≤ n) (h' : n ≤ 2147483647) (j : Nat) : 0 ≤ shN n j ∧ shN n j ≤ 2147483647 := by
  have hp : (0 : Int) < (256 : Int) ^ j := Int.pow_pos (by omega)
  refine ⟨Int.ediv_nonneg h (by omega), Int.le_trans (Int.ediv_le_self _ h) h'⟩
theorem shN_succ (n : Int) (j : Nat) : shN n (j + 1) = shN n j / 256 := by
  unfold shN
  rw [Int.pow_succ, Int.ediv_ediv_of_nonneg (Int.pow_nonneg (by omega))]
theorem shN_byte (n : Int) (j : Nat) : shN n j % 256 = byteN n j := rfl
theorem byte_news (w : World) (v : Value) (t : TypeId) : ∀ j u, [v][j]? = some u → (w.alloc (.cells #[v] t)).cell? ((⟨w.heap.size, 0, none⟩ : Addr).add j) = some u := by
  intro j u hu
  have hj : j = 0 := by
    rcases Nat.eq_zero_or_pos j with h | h
    · exact h
    · rw [List.getElem?_eq_none (by simp; omega)] at hu; cases hu
  subst hj
  simp at hu
  subst hu
  simp [Addr.add, go_sem]
theorem byte_one (n : Int) : ∀ u ∈ [Value.int .u8 n], u.oneCell' = true := by
  intro u hu
  simp at hu
  subst hu
  rfl
/-- A row of one byte more. -/
theorem keep_below {w0 w w' : World} {v : Value} {B e size n : Nat} {xs : List Value} (hb : Below w0.heap.size w0 w) (ho : OwnR w B e size v n xs) (hB : w0.heap.size ≤ B) (hk : Keep (Own v) w w') : Below w0.heap.size w0 w' :=
  hb.trans (hk.below hb.size (fun k hk => Nat.le_trans hB (ho.ge k hk).1))
def packL (xs : List Int) : List Int := xs.flatMap four
def packS (xs : List Int) : ByteArray := strOfNums (packL xs)
theorem packL_length : ∀ (xs : List Int), (packL xs).length = xs.length * 4
  | [] => rfl
  | x :: xs => by
    have ih := packL_length xs
    simp only [packL, List.flatMap_cons, List.length_append, List.length_cons] at ih ⊢
    rw [four, fourTo_length]
    omega
theorem packL_snoc (xs : List Int) (n : Int) : packL (xs ++ [n]) = packL xs ++ four n := by simp [packL]
theorem packL_succ {xs : List Int} {k : Nat} (h : k < xs.length) : packL (xs.take (k + 1)) = packL (xs.take k) ++ four xs[k] := by
  rw [List.take_succ_eq_append_getElem h, packL_snoc]
theorem packS_size (xs : List Int) : (packS xs).size = xs.length * 4 := by rw [packS, strOfNums_size, packL_length]

/-- 'string(b)' of a row of the call's own. -/
theorem convert_own {P : Program} {w : World} {src e dst : TypeId} (hs : P.underlying src = some (.slice e)) (he : P.underlying e = some (.int .u8)) (hd : P.underlying dst = some .string) {B n qa t : Nat} {qo : Option Addr} {ns : List Int}
    (h : OwnR w B t 1 (.slice qo n qa) n (byteV ns)) : (convert src dst (.slice qo n qa)).run P w = .ok (.string (strOfNums ns)) w := by
  rcases h with ⟨rfl, hx, ao, hv⟩ | ⟨h0, h⟩
  · simp only [Value.slice.injEq, true_and] at hv
    obtain ⟨rfl, rfl⟩ := hv
    have hns : ns = [] := by simpa [byteV] using hx
    subst hns
    cases qo with
    | none => exact run_convert_bytes_nil w src e hs he 0 0 dst hd
    | some a =>
      have hl : (loadCells a 0).run P w = .ok (([] : List Int).map (Value.int .u8)).toArray w := by simpa using run_loadCells_list (P := P) w a [] (by simp)
      rw [run_convert_bytes_string w src dst e _ 0 0 hs he hd, run_bytesToString w a 0 0 [] hl]
      rfl
  · obtain ⟨g, cap, cur, hv, _, _⟩ := own_form h0 h
    simp only [Value.slice.injEq, true_and] at hv
    obtain ⟨rfl, rfl⟩ := hv
    have hlen : ns.length = n := by have := h.1; rw [byteV_length] at this; omega
    refine run_convert_bytes_arg w src e hs he g 0 n _ ns hlen (fun i hi => ?_) dst hd
    rw [Nat.zero_add, h.cellAt i (by omega)]
    simp [byteV, List.getElem?_eq_getElem (show i < ns.length by omega), List.getD]

end Go.Proofs.YtkaiglhljpehpabGreatDoor

/- Contracts of what asks whether numbers are right: the program's and its model's. -/
namespace Go.Proofs.YtkaiglhljpehpabGreatDoor
open Go.RowKit
set_option linter.unusedVariables false
set_option maxRecDepth 100000

theorem l01In_num (n low high : Int) (w : World) : Calls Tryz.prog 38 #[.int .i64 n, .int .i64 low, .int .i64 high] w fun e w' => e = .returned (.bool (inB n low high)) ∧ w' = w := by
  go_enter Tryz.func38, Tryz.ntmps38
  go_wp2
  all_goals
    go_ret
    exact ⟨ret_bool (by rw [Bool.eq_iff_iff]; simp [inB]; omega), rfl⟩
theorem l02Int_any (n : Int) (w : World) : Calls Tryz.prog 83 #[.int .i64 n] w fun e w' => e = .returned (.bool (numB n)) ∧ w' = w := by
  go_enter Tryz.func83, Tryz.ntmps83
  go_wp2_with (go_at_call 38; refine (l01In_num _ _ _ _).mono ?_; rintro e w' ⟨rfl, rfl⟩)
  go_ret
  exact ⟨rfl, rfl⟩
theorem isNumber_any (n : Int) (w : World) : Calls Tryz.prog 96 #[.int .i64 n] w fun e w' => e = .returned (.bool (numB n)) ∧ w' = w := by
  go_enter Tryz.func96, Tryz.ntmps96
  go_wp2
  all_goals
    go_ret
    exact ⟨ret_bool (by rw [Bool.eq_iff_iff]; simp [numB, inB]; omega), rfl⟩

set_option maxHeartbeats 800000 in
theorem l02Ints_any (ao : Option Addr) (cap : Nat) (xs : List Int) (w : World) (hl : xs.length ≤ 1048576) (hc : Is w ao xs) :
    Calls Tryz.prog 78 #[.slice ao xs.length cap] w fun e w' => e = .returned (.bool (intsB xs)) ∧ w' = w := by
  have HC := hide hc
  clear hc
  go_enter Tryz.func78, Tryz.ntmps78
  go_wp2
  go_loop [3] (fun i => ∃ k : Nat, k ≤ xs.length ∧ i = .int .i64 k ∧ Hid (∀ j (h : j < xs.length), j < k → numB xs[j] = true)) (fun i => xs.length - (intOf i).toNat)
  case atStart => exact ⟨0, Nat.zero_le _, rfl, hide (fun j _ h => by omega)⟩
  case round =>
    obtain ⟨k, hk, rfl, HA⟩ := hrel
    by_cases hlt : k < xs.length
    · obtain ⟨b, off, rfl, hc⟩ := unhide HC k hlt
      by_cases hn : numB xs[k] = true
      · have HN := hide (all_succ hlt (unhide HA) hn)
        go_wp2_with (go_at_call 83; refine (l02Int_any _ _).mono ?_; rintro e w' ⟨rfl, rfl⟩)
        go_round
        case rel => exact ⟨k + 1, by omega, by go_num, HN⟩
        case measure => simp [intOf]; omega
      · have hn' : numB xs[k] = false := by simpa using hn
        have HF := hide (intsB_false_at hlt hn')
        clear hn
        go_wp2_with (go_at_call 83; refine (l02Int_any _ _).mono ?_; rintro e w' ⟨rfl, rfl⟩)
        go_ret
        exact ⟨ret_bool (unhide HF).symm, rfl⟩
    · have HF := hide (intsB_len (xs := xs) (fun j h => unhide HA j h (by omega)))
      go_wp2
      go_ret
      exact ⟨ret_bool (by rw [unhide HF, Bool.eq_iff_iff]; simp; omega), rfl⟩

end Go.Proofs.YtkaiglhljpehpabGreatDoor

/- Plain facts on numbers that are read from bytes, of no program. -/
namespace Go.Proofs.YtkaiglhljpehpabGreatDoor
open Go.RowKit

theorem wraps_i64 (n : Int) (h₀ : 0 ≤ n) (h₁ : n < 2 ^ 63) : IntKind.i64.wrap n = n := by rw [IntKind.wrap_i64]; omega
theorem or_low (i : Nat) (y x : Int) (hy₀ : 0 ≤ y) (hy : y < 2 ^ i) (hy₁ : y < 2 ^ 63) (hx₀ : 0 ≤ x) (hx : x % 2 ^ i = 0) (hx₁ : x < 2 ^ 63) : bits .or .i64 y x = y + x :=
  bits_join_low .i64 63 (by decide) wraps_i64 i y x hy₀ hy hy₁ hx₀ hx hx₁
theorem or_high (i : Nat) (x y : Int) (hx₀ : 0 ≤ x) (hx : x % 2 ^ i = 0) (hx₁ : x < 2 ^ 63) (hy₀ : 0 ≤ y) (hy : y < 2 ^ i) (hy₁ : y < 2 ^ 63) : bits .or .i64 x y = x + y :=
  bits_join .i64 63 (by decide) wraps_i64 i x y hx₀ hx hx₁ hy₀ hy hy₁

theorem byteAt_in (s : ByteArray) (k : Nat) : 0 ≤ byteAt s k ∧ byteAt s k ≤ 255 := by
  unfold byteAt
  have := byte_le (s.data[k]?.getD 0)
  omega
/-- The number whose bytes begin at a place. -/
def numAt (s : ByteArray) (i : Nat) : Int := byteAt s i + byteAt s (i + 1) * 256 + byteAt s (i + 2) * 65536 + byteAt s (i + 3) * 16777216
theorem numAt_in (s : ByteArray) (i : Nat) : 0 ≤ numAt s i ∧ numAt s i ≤ 4294967295 := by
  have h0 := byteAt_in s i
  have h1 := byteAt_in s (i + 1)
  have h2 := byteAt_in s (i + 2)
  have h3 := byteAt_in s (i + 3)
  unfold numAt
  omega
/-- As the program reckons it. -/
theorem num_impl (s : ByteArray) : bits .or .i64 (bits .or .i64 (bits .or .i64 (wrap64 (byteAt s 0)) (wrap64 (wrap64 (byteAt s 1) * 256))) (wrap64 (wrap64 (byteAt s 2) * 65536))) (wrap64 (wrap64 (byteAt s 3) * 16777216)) = numAt s 0 := by
  have h0 := byteAt_in s 0
  have h1 := byteAt_in s 1
  have h2 := byteAt_in s 2
  have h3 := byteAt_in s 3
  rw [wrap_id (x := byteAt s 0) (by omega) (by omega), wrap_id (x := byteAt s 1) (by omega) (by omega), wrap_id (x := byteAt s 2) (by omega) (by omega), wrap_id (x := byteAt s 3) (by omega) (by omega),
    wrap_id (x := byteAt s 1 * 256) (by omega) (by omega), wrap_id (x := byteAt s 2 * 65536) (by omega) (by omega), wrap_id (x := byteAt s 3 * 16777216) (by omega) (by omega)]
  rw [or_low 8 (byteAt s 0) (byteAt s 1 * 256) (by omega) (by omega) (by omega) (by omega) (by omega) (by omega),
    or_low 16 (byteAt s 0 + byteAt s 1 * 256) (byteAt s 2 * 65536) (by omega) (by omega) (by omega) (by omega) (by omega) (by omega),
    or_low 24 (byteAt s 0 + byteAt s 1 * 256 + byteAt s 2 * 65536) (byteAt s 3 * 16777216) (by omega) (by omega) (by omega) (by omega) (by omega) (by omega)]
  rfl
/-- As the model reckons it: from the highest byte on. -/
def hi (s : ByteArray) (i : Nat) : Nat → Int
  | 0 => 0
  | m + 1 => hi s i m * 256 + byteAt s (i + (3 - m))
theorem hi_four (s : ByteArray) (i : Nat) : hi s i 4 = numAt s i := by
  show (((0 * 256 + byteAt s (i + 3)) * 256 + byteAt s (i + 2)) * 256 + byteAt s (i + 1)) * 256 + byteAt s i = byteAt s i + byteAt s (i + 1) * 256 + byteAt s (i + 2) * 65536 + byteAt s (i + 3) * 16777216
  omega
theorem hi_in (s : ByteArray) (i : Nat) : ∀ m, m ≤ 3 → 0 ≤ hi s i m ∧ hi s i m ≤ 16777215
  | 0, _ => by simp [hi]
  | 1, _ => by
    have := byteAt_in s (i + 3)
    show 0 ≤ 0 * 256 + byteAt s (i + 3) ∧ 0 * 256 + byteAt s (i + 3) ≤ 16777215
    omega
  | 2, _ => by
    have := byteAt_in s (i + 3)
    have := byteAt_in s (i + 2)
    show 0 ≤ (0 * 256 + byteAt s (i + 3)) * 256 + byteAt s (i + 2) ∧ (0 * 256 + byteAt s (i + 3)) * 256 + byteAt s (i + 2) ≤ 16777215
    omega
  | 3, _ => by
    have := byteAt_in s (i + 3)
    have := byteAt_in s (i + 2)
    have := byteAt_in s (i + 1)
    show 0 ≤ ((0 * 256 + byteAt s (i + 3)) * 256 + byteAt s (i + 2)) * 256 + byteAt s (i + 1) ∧ ((0 * 256 + byteAt s (i + 3)) * 256 + byteAt s (i + 2)) * 256 + byteAt s (i + 1) ≤ 16777215
    omega
  | _ + 4, h => by omega
theorem hi_step (s : ByteArray) (i m : Nat) (hm : m ≤ 3) (h : i + (3 - m) < s.size) : bits .or .i64 (hi s i m * 256) (s[i + (3 - m)].toNat : Int) = hi s i (m + 1) := by
  have h1 := hi_in s i m hm
  have h2 := byte_le s[i + (3 - m)]
  rw [or_high 8 _ _ (by omega) (by omega) (by omega) (by omega) (by omega) (by omega), hi, byteAt_get h]

theorem wrap_byte (b : UInt8) : wrap64 (b.toNat : Int) = (b.toNat : Int) := by have := byte_le b; exact wrap_id (by omega) (by omega)

/-- The numbers of a text. -/
def unL (s : ByteArray) : List Int := (List.range (s.size / 4)).map fun i => numAt s (i * 4)
theorem unL_length (s : ByteArray) : (unL s).length = s.size / 4 := by simp [unL]
theorem unL_get {s : ByteArray} {k : Nat} (h : k < (unL s).length) : (unL s)[k] = numAt s (k * 4) := by simp [unL]
theorem unL_succ {s : ByteArray} {k : Nat} (h : k < s.size / 4) : (unL s).take (k + 1) = (unL s).take k ++ [numAt s (k * 4)] := by
  rw [List.take_succ_eq_append_getElem (by rw [unL_length]; exact h), unL_get]
def okU (s : ByteArray) : Bool := decide (s.size % 4 = 0) && intsB (unL s)
theorem okU_rest {s : ByteArray} (h : ¬ s.size % 4 = 0) : okU s = false := by rw [okU, decide_eq_false h]; rfl
theorem okU_even {s : ByteArray} (h : s.size % 4 = 0) : okU s = intsB (unL s) := by rw [okU, decide_eq_true h]; rfl
theorem okU_long {s : ByteArray} (h : 64 < s.size) : okU s = false := by
  by_cases h4 : s.size % 4 = 0
  · rw [okU_even h4]; exact intsB_long (by rw [unL_length]; omega)
  · exact okU_rest h4
theorem okU_bad {s : ByteArray} {k : Nat} (hk : k < s.size / 4) (h : numB (numAt s (k * 4)) = false) : okU s = false := by
  have hk' : k < (unL s).length := by rw [unL_length]; exact hk
  rw [okU, intsB_false_at hk' (by rw [unL_get hk']; exact h)]
  simp
theorem okU_true {s : ByteArray} (h4 : s.size % 4 = 0) (hl : s.size ≤ 64) (h : ∀ k, k < s.size / 4 → numB (numAt s (k * 4)) = true) : okU s = true := by
  rw [okU_even h4, intsB_len (fun j hj => by rw [unL_get hj]; exact h j (by rw [unL_length] at hj; exact hj))]
  simp [unL_length]; omega
def listU (s : ByteArray) : List Int := if s.size % 4 = 0 then unL s else []
/-- The code of a text of numbers, what comes of it. -/
def unC (s : ByteArray) : Int := if 65536 < s.size then 2 else if okU s = true then 0 else 3
def unR (s : ByteArray) : List Int := if unC s = 0 then unL s else []
theorem unC_long {s : ByteArray} (h : 65536 < s.size) : unC s = 2 := if_pos h
theorem unC_ok {s : ByteArray} (h : ¬ 65536 < s.size) (hb : okU s = true) : unC s = 0 := by rw [unC, if_neg h, if_pos hb]
theorem unC_bad {s : ByteArray} (h : ¬ 65536 < s.size) (hb : okU s = false) : unC s = 3 := by rw [unC, if_neg h, if_neg (by simp [hb])]
theorem unR_ok {s : ByteArray} (h : unC s = 0) : unR s = unL s := if_pos h
theorem unR_no {s : ByteArray} (h : unC s ≠ 0) : unR s = [] := if_neg h

end Go.Proofs.YtkaiglhljpehpabGreatDoor

/- Contracts of the program's reader of numbers: demand, readNumber. -/
namespace Go.Proofs.YtkaiglhljpehpabGreatDoor
open Go.RowKit
set_option linter.unusedVariables false
set_option maxRecDepth 100000

def ErrW (w : World) : Prop := ∃ u pv, w.cell? ⟨0, 0, none⟩ = some (.iface u pv)

theorem demand_true (w : World) : Calls Tryz.prog 54 #[.bool true] w fun e w' => e = .returned (.tuple #[]) ∧ w' = w := by
  go_enter Tryz.func54, Tryz.ntmps54
  go_wp2
  go_end0
  exact ⟨rfl, rfl⟩
theorem run_panic_iface (P : Program) (w : World) (u : TypeId) (pv : Value) : (Instr.panic (.iface u pv)).run P w = .halt (.panic (.iface u pv)) w := by
  simp [Instr.panic, goPanic, go_sem]
theorem demand_false (w : World) (h : ErrW w) : Calls Tryz.prog 54 #[.bool false] w fun e w' => (∃ u pv, e = .panicked [{ v := .iface u pv, recovered := false }]) ∧ w' = w := by
  obtain ⟨u, pv, hc⟩ := h
  have hp := fun w => run_panic_iface Tryz.prog w u pv
  go_enter Tryz.func54, Tryz.ntmps54
  go_wp2
  exact ⟨rfl, ⟨u, pv, rfl⟩, rfl⟩

theorem demand_if (b : Bool) (w : World) (hb : b = true) : Calls Tryz.prog 54 #[.bool b] w fun e w' => e = .returned (.tuple #[]) ∧ w' = w := by
  subst hb; exact demand_true w
theorem demand_not (b : Bool) (w : World) (hb : b = false) (h : ErrW w) : Calls Tryz.prog 54 #[.bool b] w fun e w' => (∃ u pv, e = .panicked [{ v := .iface u pv, recovered := false }]) ∧ w' = w := by
  subst hb; exact demand_false w h

theorem alloc_row (w : World) (c d : Array Value) (t : TypeId) : (w.alloc (.cells c t)).setRow w.heap.size d = w.alloc (.cells d t) := by
  have h : ((w.heap.push (.cells c t)).modify w.heap.size fun | .cells _ elem frozen => .cells d elem frozen | o => o) = w.heap.push (.cells d t) := by
    apply Array.ext
    · simp
    · intro i h1 h2
      rw [Array.getElem_modify]
      by_cases hi : w.heap.size = i
      · subst hi; simp
      · rw [if_neg hi]
        simp at h1
        rw [Array.getElem_push_lt (by omega), Array.getElem_push_lt (by omega)]
  unfold World.setRow
  have h' : ∀ X : Array Obj, X = w.heap.push (.cells d t) → ({ w.alloc (.cells c t) with heap := X } : World) = w.alloc (.cells d t) := by
    rintro X rfl
    rfl
  exact h' _ h
theorem first4 {s : ByteArray} (hs : 4 ≤ s.size) : (s.data.toList.map fun b : UInt8 => Value.int .u8 (b.toNat : Int)).take 4 = [.int .u8 (byteAt s 0), .int .u8 (byteAt s 1), .int .u8 (byteAt s 2), .int .u8 (byteAt s 3)] := by
  have hl : 4 ≤ s.data.toList.length := by simpa using hs
  obtain ⟨a, b, c, d, r, e⟩ : ∃ a b c d r, s.data.toList = a :: b :: c :: d :: r := by
    match h : s.data.toList with
    | a :: b :: c :: d :: r => exact ⟨a, b, c, d, r, rfl⟩
    | [] => simp [h] at hl
    | [a] => simp [h] at hl
    | [a, b] => simp [h] at hl
    | [a, b, c] => simp [h] at hl
  have hb : ∀ k, byteAt s k = ((s.data.toList[k]?.getD 0).toNat : Int) := fun k => by simp [byteAt]
  rw [hb, hb, hb, hb, e]
  simp
theorem copy4 (w : World) (s : ByteArray) (hs : 4 ≤ s.size) : (Builtin.copy_ #[89, 9] 3 #[.slice (some ⟨w.heap.size, 0, none⟩) 4 4, .string s]).run Tryz.prog (w.alloc (.cells #[.int .u8 0, .int .u8 0, .int .u8 0, .int .u8 0] 109)) = .ok (.int .i64 4) (w.alloc (.cells #[.int .u8 (byteAt s 0), .int .u8 (byteAt s 1), .int .u8 (byteAt s 2), .int .u8 (byteAt s 3)] 109)) := by
  have hsz : (Tryz.prog.info? 5).map (·.size) = some 1 := by kernel_rfl
  have hst := run_storeCells_at Tryz.prog w.heap.size 0 109 [.int .u8 (byteAt s 0), .int .u8 (byteAt s 1), .int .u8 (byteAt s 2), .int .u8 (byteAt s 3)] 0 #[.int .u8 0, .int .u8 0, .int .u8 0, .int .u8 0] (w.alloc (.cells #[.int .u8 0, .int .u8 0, .int .u8 0, .int .u8 0] 109)) (heap_alloc_new w _) (by simp) (by
    intro v hv
    simp at hv
    rcases hv with rfl | rfl | rfl | rfl <;> rfl)
  have hmin : Nat.min s.size 4 = 4 := Nat.min_eq_right hs
  cases hq : Tryz.prog.info? 5 with
  | none => simp [hq] at hsz
  | some i =>
    simp [Builtin.copy_, run_underlying Tryz.underlying89, Builtin.lenOf, Builtin.firstCells, sizeOf, typeInfo, hq, hmin]
    rw [first4 hs, hst]
    simp [Result.andThen, alloc_row]
    rfl

theorem copy4_at (W : World) (g : Nat) (s : ByteArray) (hg : W.heap.size = g) (hs : 4 ≤ s.size) : (Builtin.copy_ #[89, 9] 3 #[.slice (some ⟨g, 0, none⟩) 4 4, .string s]).run Tryz.prog (W.alloc (.cells #[.int .u8 0, .int .u8 0, .int .u8 0, .int .u8 0] 109)) = .ok (.int .i64 4) (W.alloc (.cells #[.int .u8 (byteAt s 0), .int .u8 (byteAt s 1), .int .u8 (byteAt s 2), .int .u8 (byteAt s 3)] 109)) := by
  subst hg; exact copy4 W s hs

theorem readNumber_ok (s : ByteArray) (w : World) (hs : 4 ≤ s.size) (hn : numB (numAt s 0) = true) : Calls Tryz.prog 99 #[.string s] w fun e w' => e = .returned (.int .i64 (numAt s 0)) ∧ Below w.heap.size w w' := by
  have hc4 := copy4 w s hs
  have hnum := num_impl s
  go_enter Tryz.func99, Tryz.ntmps99
  go_wp2_with (first | (go_at_call 96; refine (isNumber_any _ _).mono ?_; rintro e w' ⟨rfl, rfl⟩) | (go_at_call 54; refine (demand_true _).mono ?_; rintro e w' ⟨rfl, rfl⟩))
  go_ret
  exact ⟨rfl, Joins.below_alloc1 _ _⟩
theorem ErrW.below {w w' : World} (h : ErrW w) (hb : Below w.heap.size w w') : ErrW w' := by
  obtain ⟨u, pv, hc⟩ := h
  exact ⟨u, pv, (hb.cell (World.block_lt_of_cell? _ _ hc)).trans hc⟩
theorem readNumber_no (s : ByteArray) (w : World) (hs : 4 ≤ s.size) (hn : numB (numAt s 0) = false) (hE : ErrW w) : Calls Tryz.prog 99 #[.string s] w fun e w' => (∃ u pv, e = .panicked [{ v := .iface u pv, recovered := false }]) ∧ Below w.heap.size w w' := by
  have hc4 := copy4 w s hs
  have hnum := num_impl s
  have HE := hide (hE.below (Joins.below_alloc1 w (.cells #[.int .u8 (byteAt s 0), .int .u8 (byteAt s 1), .int .u8 (byteAt s 2), .int .u8 (byteAt s 3)] 109)))
  clear hE
  go_enter Tryz.func99, Tryz.ntmps99
  go_wp2_with (first | (go_at_call 96; refine (isNumber_any _ _).mono ?_; rintro e w' ⟨rfl, rfl⟩) | (go_at_call 54; refine (demand_false _ (unhide HE)).mono ?_; rintro e w' ⟨⟨u, pv, rfl⟩, rfl⟩))
  exact ⟨rfl, ⟨_, _, rfl⟩, Joins.below_alloc1 _ _⟩

end Go.Proofs.YtkaiglhljpehpabGreatDoor

/- What the proofs of this seat share: the variable errNoForm as the row lists it, its cell; the door's own heap. -/
namespace Go.Proofs.YtkaiglhljpehpabGreatDoor
open Go.ChangeShapes Go.WideShapes Go.ChangeAt Go.RowKit

theorem gErr : Tryz.prog.globalNamed "loop.example/g00456/impl.errNoForm" = some 0 := by kernel_rfl
theorem tErr : (Tryz.prog.globals[0]?).map (·.type) = some 96 := by kernel_rfl

abbrev laidE : List (String × DataW Unit) := [("loop.example/g00456/impl.errNoForm", Rows.laid_loop_example_g00456_impl_errNoForm)]

/-- From the row's condition to what the walks ask. -/
theorem err_of_laid {W : World} (h : laidMetH Tryz.prog laidE W) : ErrW W := by
  rw [MakeChecks.laidMetH_plain _ _ _ (by kernel_rfl)] at h
  obtain ⟨ps, ⟨g0, t0, cs0, f0, p0, q0, hg0, ht0, hv0, hd0, _⟩, _⟩ := h
  obtain rfl := Option.some.inj (gErr.symm.trans hg0)
  obtain rfl := Option.some.inj (tErr.symm.trans ht0)
  obtain ⟨f1, u, v, hcs, _, _⟩ := iface_of_trod Tryz.underlying96 hd0
  refine ⟨u, v, ?_⟩
  rw [World.var?_cell hg0 hv0 0]
  have e : cs0 = #[.iface u v] := by cases cs0; simpa using hcs
  rw [e]
  rfl

/-- The door's own heap meets the condition. -/
theorem err_door (os : Os) (args : Array Value) : laidMetH Tryz.prog laidE ((World.doorLaid Tryz.prog 400 os).forCall (fun _ _ => 0) ⟨#[], args, []⟩).memory :=
  laidMetH_of_parts3 (fuel := 8) (laidMet_of_run' 8 (by kernel_rfl) (by kernel_rfl)) (by kernel_rfl) (by kernel_rfl)

end Go.Proofs.YtkaiglhljpehpabGreatDoor

/- A disk that came in, opened: what its two slices show. -/
namespace Go.Proofs.YtkaiglhljpehpabGreatDoor
open Go.ChangeShapes Go.WideShapes Go.ChangeAt Go.RowKit Go.Deep
set_option linter.unusedVariables false
set_option maxRecDepth 100000

section
variable {H : Type} {enc : TypeId × Value → H} {P : Program} {w : World} {base : Nat} {spare : Nat → Bool} {held : Bool}

theorem add_form {a : Addr} {i : Nat} (h : a.spot = none) : a.add i = ⟨a.block, a.off + i, none⟩ := by
  unfold Addr.add
  by_cases hi : i = 0
  · subst hi; cases a; simp_all
  · simp [hi]

theorem open_Ss {t e : TypeId} {fuel : Nat} {v : Value} {x : DataW H × List MemPlace} (ht : P.underlying t = some (.slice e)) (he : P.underlying e = some .string) (hc : P.cellsOf e = 1)
    (h : DataW.trod enc P w base spare held fuel t [v] = some x) : ∃ ao cap ss, v = .slice ao ss.length cap ∧ ss.length ≤ maxLen ∧ Ss w ao ss := by
  rcases open_strings ht he hc h with ⟨hcs, _⟩ | ⟨a, len, cap, ss, hcs, _, hl, hm, hz, _, hcell, hws⟩
  · simp only [List.cons.injEq, and_true] at hcs
    subst hcs
    exact ⟨none, 0, [], rfl, Nat.zero_le _, fun i hi => absurd hi (Nat.not_lt_zero _)⟩
  · simp only [List.cons.injEq, and_true] at hcs
    subst hcs
    have hlen : len ≤ ss.length := by rw [hz]; split <;> omega
    have htl : (ss.take len).length = len := by simp; omega
    refine ⟨some a, cap, ss.take len, by rw [htl], by omega, fun i hi => ?_⟩
    have hi' : i < len := by omega
    have h0 : a.spot = none := by
      have := World.cell?_spot (hcell 0 (by omega))
      simpa [Addr.add] using this
    have hci := hcell i (by omega)
    rw [add_form h0] at hci
    have hg : (ss.take len)[i] = ss.getD i ByteArray.empty := by
      rw [List.getElem_take]; simp [List.getD, show i < ss.length by omega]
    refine ⟨a.block, a.off, ?_, ?_, ?_⟩
    · cases a; simp_all
    · rw [hci, hg]
    · rw [hg]
      exact hws _ (by simp [List.getD, show i < ss.length by omega])

theorem cells3 {a : Addr} {cs : List Value} (h : w.cells? base a 3 = some cs) : ∃ c0 c1 c2, cs = [c0, c1, c2] ∧ w.cell? (a.add 0) = some c0 ∧ w.cell? (a.add 1) = some c1 ∧ w.cell? (a.add 2) = some c2 := by
  unfold World.cells? at h
  split at h
  · simp only [List.range, List.range.loop, List.mapM_cons, List.mapM_nil, Option.bind_eq_bind, Option.pure_def, Option.bind_eq_some_iff, Option.some.injEq] at h
    obtain ⟨c0, h0, r0, ⟨c1, h1, r1, ⟨c2, h2, r2, hr2, rfl⟩, rfl⟩, rfl⟩ := h
    subst hr2
    exact ⟨c0, c1, c2, rfl, h0, h1, h2⟩
  · cases h

theorem open_Ios {t e ti ts : TypeId} {f0 f1 f2 : Field} {fuel : Nat} {v : Value} {x : DataW H × List MemPlace} (ht : P.underlying t = some (.slice e)) (he : P.underlying e = some (.struct #[f0, f1, f2]))
    (hi : P.underlying ti = some (.int .i64)) (hs : P.underlying ts = some .string) (e0 : f0.type = ti ∧ f0.offset = 0) (e1 : f1.type = ti ∧ f1.offset = 1) (e2 : f2.type = ts ∧ f2.offset = 2)
    (ci : P.cellsOf ti = 1) (cs : P.cellsOf ts = 1) (ce : P.cellsOf e = 3)
    (h : DataW.trod enc P w base spare held fuel t [v] = some x) : ∃ ao cap xs, v = .slice ao xs.length cap ∧ xs.length ≤ maxLen ∧ Ios w ao xs := by
  rcases open_slice ht h with ⟨hcs, _⟩ | ⟨a, len, cap, m, n, D, Pl, hcs, _, hl, hmx, hm, _, hel⟩
  · simp only [List.cons.injEq, and_true] at hcs
    subst hcs
    exact ⟨none, 0, [], rfl, Nat.zero_le _, fun i hi => absurd hi (Nat.not_lt_zero _)⟩
  · simp only [List.cons.injEq, and_true] at hcs
    subst hcs
    have hlm : len ≤ m := by rw [hm]; split <;> omega
    have each : ∀ i, i < len → ∃ y : Wr, w.cell? ((a.add (i * 3)).add 0) = some (.int .i64 y.host) ∧ w.cell? ((a.add (i * 3)).add 1) = some (.int .i64 y.at_) ∧ w.cell? ((a.add (i * 3)).add 2) = some (.string y.data) ∧ y.data.size ≤ maxLen := by
      intro i hi'
      obtain ⟨cs', hc, hd⟩ := hel i (by omega)
      rw [ce] at hc
      obtain ⟨c0, c1, c2, rfl, k0, k1, k2⟩ := cells3 hc
      obtain ⟨y0, y1, y2, n', _, _, t0, t1, t2⟩ := trod_struct3 he hd
      rw [e0.1, e0.2, ci] at t0
      rw [e1.1, e1.2, ci] at t1
      rw [e2.1, e2.2, cs] at t2
      obtain ⟨z0, q0, _⟩ := DataW.trod_int hi t0
      obtain ⟨z1, q1, _⟩ := DataW.trod_int hi t1
      obtain ⟨z2, q2, _, hz⟩ := DataW.trod_string hs t2
      simp at q0 q1 q2
      subst q0 q1 q2
      exact ⟨⟨z0, z1, z2⟩, k0, k1, k2, hz⟩
    haveI : Inhabited Wr := ⟨⟨0, 0, ⟨#[]⟩⟩⟩
    obtain ⟨f, hf⟩ := choose_lt (α := Wr) each
    have htl : ((List.range len).map f).length = len := by simp
    refine ⟨some a, cap, (List.range len).map f, by rw [htl], by omega, fun i hi' => ?_⟩
    have hi2 : i < len := by omega
    have h0 : a.spot = none := by
      obtain ⟨g0, _⟩ := hf 0 (by omega)
      have := World.cell?_spot g0
      simpa [Addr.add] using this
    obtain ⟨g0, g1, g2, gz⟩ := hf i hi2
    have hg : ((List.range len).map f)[i] = f i := by simp
    have hsp : (a.add (i * 3)).spot = none := by rw [add_form h0]
    rw [add_form hsp, add_form h0] at g0 g1 g2
    refine ⟨a.block, a.off, ?_, ?_, ?_, ?_, ?_⟩
    · cases a; simp_all
    · rw [hg]; exact g0
    · rw [hg]; exact g1
    · rw [hg]; exact g2
    · rw [hg]; exact gz
end

theorem cInt : Tryz.prog.cellsOf 3 = 1 := by kernel_rfl
theorem cStr : Tryz.prog.cellsOf 9 = 1 := by kernel_rfl
theorem cIo : Tryz.prog.cellsOf 64 = 3 := by kernel_rfl
theorem cDisk : Tryz.prog.cellsOf 25 = 2 := by kernel_rfl

/-- A disk that came in. -/
theorem open_disk {H : Type} {enc : TypeId × Value → H} {w : World} {base b0 : Nat} {r : Reach} {spare : Nat → Bool} {held : Bool} {v : Value} {d : DataW H} {p : List MemPlace}
    (hv : Value.okWide Tryz.prog w r b0 25 v) (h : DataW.Trod enc Tryz.prog w base spare held 25 v d p) :
    ∃ ao ca ss bo cb xs, v = .agg #[.slice ao ss.length ca, .slice bo xs.length cb] ∧ ss.length ≤ maxLen ∧ xs.length ≤ maxLen ∧ Ss w ao ss ∧ Ios w bo xs := by
  obtain ⟨c0, c1, y0, y1, n, rfl, _, _, t0, t1⟩ := Joins.open_agg2 Tryz.underlying25 (by kernel_rfl) cDisk hv h
  obtain ⟨ao, ca, ss, rfl, hl, hs⟩ := open_Ss Tryz.underlying22 Tryz.underlying9 cStr t0
  obtain ⟨bo, cb, xs, rfl, hm, hx⟩ := open_Ios Tryz.underlying23 Tryz.underlying64 Tryz.underlying3 Tryz.underlying9 ⟨rfl, rfl⟩ ⟨rfl, rfl⟩ ⟨rfl, rfl⟩ cInt cStr cIo t1
  exact ⟨ao, ca, ss, bo, cb, xs, rfl, hl, hm, hs, hx⟩

end Go.Proofs.YtkaiglhljpehpabGreatDoor

/- Plain words of the clocks, and contracts of their tests: within, hourOK, configInBounds, l01In, l03Bounds. -/
namespace Go.Proofs.YtkaiglhljpehpabGreatDoor
open Go.RowKit
set_option linter.unusedVariables false
set_option maxRecDepth 100000

theorem hidB {p : Prop} (h : p) : Hid p := h
theorem frB {a b c : World} (h : Below a.heap.size a b) (k : Below b.heap.size b c) : Below a.heap.size a c := h.trans (k.mono h.size)
/-- A number within bounds. -/
def betw (n low high : Int) : Bool := decide (low ≤ n) && decide (n ≤ high)
theorem betw_yes {n low high : Int} (h : low ≤ n) (h' : n ≤ high) : betw n low high = true := by simp [betw, h, h']
theorem betw_no {n low high : Int} (h : ¬ (low ≤ n ∧ n ≤ high)) : betw n low high = false := by simp only [betw, Bool.and_eq_false_iff, decide_eq_false_iff_not]; omega
theorem betw_iff {n low high : Int} : betw n low high = true ↔ low ≤ n ∧ n ≤ high := by simp [betw]
/-- A configuration within its bounds. -/
def cfgB (f d l r : Int) : Bool := betw f 1 10000 && betw d 1 100000 && betw l 0 1000 && betw r 0 500
theorem cfgB_iff {f d l r : Int} : cfgB f d l r = true ↔ (1 ≤ f ∧ f ≤ 10000) ∧ (1 ≤ d ∧ d ≤ 100000) ∧ (0 ≤ l ∧ l ≤ 1000) ∧ 0 ≤ r ∧ r ≤ 500 := by
  simp only [cfgB, Bool.and_eq_true, betw_iff, and_assoc]
/-- The bounds of true time. -/
def latQ (r x : Int) : Int := ((x + 1) * 1000 + 999 - r) / (1000 - r)
def earQ (r x : Int) : Int := (x - 1) * 1000 / (1000 + r)
def locQ (o r t : Int) : Int := o + t * (1000 + r) / 1000
abbrev cfgV (f d l r : Int) : Value := .agg #[.int .i64 f, .int .i64 d, .int .i64 l, .int .i64 r]
abbrev clkV (o r : Int) : Value := .agg #[.int .i64 o, .int .i64 r]

/-- A configuration in a variable. -/
abbrev Four (w : World) (b : Nat) (f d l r : Int) : Prop := w.cell? ⟨b, 0, none⟩ = some (.int .i64 f) ∧ w.cell? ⟨b, 1, none⟩ = some (.int .i64 d) ∧ w.cell? ⟨b, 2, none⟩ = some (.int .i64 l) ∧ w.cell? ⟨b, 3, none⟩ = some (.int .i64 r)
theorem Four.below {w w' : World} {b : Nat} {f d l r : Int} (h : Four w b f d l r) (hb : Below w.heap.size w w') : Four w' b f d l r :=
  ⟨(hb.cell (World.block_lt_of_cell? _ _ h.1)).trans h.1, (hb.cell (World.block_lt_of_cell? _ _ h.2.1)).trans h.2.1, (hb.cell (World.block_lt_of_cell? _ _ h.2.2.1)).trans h.2.2.1, (hb.cell (World.block_lt_of_cell? _ _ h.2.2.2)).trans h.2.2.2⟩
set_option maxHeartbeats 800000 in
theorem within_any (n low high : Int) (w : World) : Calls Tryz.prog 86 #[.int .i64 n, .int .i64 low, .int .i64 high] w fun e w' => e = .returned (.bool (betw n low high)) ∧ w' = w := by
  by_cases h1 : low ≤ n
  · by_cases h2 : n ≤ high
    · have hr := hidB (betw_yes h1 h2)
      go_enter Tryz.func86, Tryz.ntmps86
      go_wp2
      go_ret
      rw [show betw n low high = true from hr]
      exact ⟨rfl, rfl⟩
    · have hr := hidB (betw_no (n := n) (low := low) (high := high) (by omega))
      go_enter Tryz.func86, Tryz.ntmps86
      go_wp2
      go_ret
      rw [show betw n low high = false from hr]
      exact ⟨rfl, rfl⟩
  · have hr := hidB (betw_no (n := n) (low := low) (high := high) (by omega))
    go_enter Tryz.func86, Tryz.ntmps86
    go_wp2
    go_ret
    rw [show betw n low high = false from hr]
    exact ⟨rfl, rfl⟩
set_option maxHeartbeats 800000 in
theorem in_any (n low high : Int) (w : World) : Calls Tryz.prog 38 #[.int .i64 n, .int .i64 low, .int .i64 high] w fun e w' => e = .returned (.bool (betw n low high)) ∧ w' = w := by
  by_cases h1 : low ≤ n
  · by_cases h2 : n ≤ high
    · have hr := hidB (betw_yes h1 h2)
      go_enter Tryz.func38, Tryz.ntmps38
      go_wp2
      go_ret
      rw [show betw n low high = true from hr]
      exact ⟨rfl, rfl⟩
    · have hr := hidB (betw_no (n := n) (low := low) (high := high) (by omega))
      go_enter Tryz.func38, Tryz.ntmps38
      go_wp2
      go_ret
      rw [show betw n low high = false from hr]
      exact ⟨rfl, rfl⟩
  · have hr := hidB (betw_no (n := n) (low := low) (high := high) (by omega))
    go_enter Tryz.func38, Tryz.ntmps38
    go_wp2
    go_ret
    rw [show betw n low high = false from hr]
    exact ⟨rfl, rfl⟩

theorem cfg_1 {f d l r : Int} (h : betw f 1 10000 = false) : cfgB f d l r = false := by simp [cfgB, h]
theorem cfg_2 {f d l r : Int} (h : betw d 1 100000 = false) : cfgB f d l r = false := by simp [cfgB, h]
theorem cfg_3 {f d l r : Int} (h : betw l 0 1000 = false) : cfgB f d l r = false := by simp [cfgB, h]
theorem cfg_4 {f d l r : Int} (h1 : betw f 1 10000 = true) (h2 : betw d 1 100000 = true) (h3 : betw l 0 1000 = true) : cfgB f d l r = betw r 0 500 := by simp [cfgB, h1, h2, h3]

end Go.Proofs.YtkaiglhljpehpabGreatDoor

/- Plain facts on records, of no program: kinds, the text of a record. -/
namespace Go.Proofs.YtkaiglhljpehpabGreatDoor
open Go.RowKit

theorem nums_append (a b : List Int) : strOfNums (a ++ b) = strOfNums a ++ strOfNums b := by
  apply ByteArray.ext
  simp [strOfNums]

def kindB (k : Int) : Bool := inB k 1 9
theorem kindB_in {k : Int} (h : kindB k = true) : 1 ≤ k ∧ k ≤ 9 := by simpa [kindB, inB] using h
theorem kindB_out {k : Int} (h : kindB k = false) : ¬ (1 ≤ k ∧ k ≤ 9) := by simpa [kindB, inB] using h
/-- What a record's sum is taken of, its sum, its text. -/
def sumT (k : Int) (xs : List Int) : ByteArray := strOfNums [k, xs.length] ++ packS xs
def sumR (k : Int) (xs : List Int) : Int := sumS (sumT k xs)
def headR (k : Int) (xs : List Int) : List Int := [k, xs.length, sumR k xs, 0]
def sealS (k : Int) (xs : List Int) : ByteArray := strOfNums (headR k xs) ++ packS xs
theorem sumT_size (k : Int) (xs : List Int) : (sumT k xs).size = 2 + xs.length * 4 := by rw [sumT, ByteArray.size_append, strOfNums_size, packS_size]; rfl
theorem sealS_size (k : Int) (xs : List Int) : (sealS k xs).size = 4 + xs.length * 4 := by rw [sealS, ByteArray.size_append, strOfNums_size, packS_size]; rfl
theorem sumR_in (k : Int) (xs : List Int) : 0 ≤ sumR k xs ∧ sumR k xs ≤ 250 := sumTo_in _ _
theorem sealS_parts (k : Int) (xs : List Int) : strOfNums [k, (xs.length : Int)] ++ strOfNums [sumR k xs, 0] ++ packS xs = sealS k xs := by
  rw [← nums_append]; rfl

/-- The code of a record that is to be sealed, its text. -/
def sealC (k : Int) (xs : List Int) : Int := if listC xs = 0 then (if kindB k = true then 0 else 4) else listC xs
def sealT (k : Int) (xs : List Int) : ByteArray := if sealC k xs = 0 then sealS k xs else ⟨#[]⟩
theorem sealC_list {k : Int} {xs : List Int} (h : listC xs ≠ 0) : sealC k xs = listC xs := if_neg h
theorem sealC_kind {k : Int} {xs : List Int} (h : listC xs = 0) (hk : kindB k = false) : sealC k xs = 4 := by rw [sealC, if_pos h, if_neg (by simp [hk])]
theorem sealC_ok {k : Int} {xs : List Int} (h : listC xs = 0) (hk : kindB k = true) : sealC k xs = 0 := by rw [sealC, if_pos h, if_pos hk]
theorem sealT_ok {k : Int} {xs : List Int} (h : sealC k xs = 0) : sealT k xs = sealS k xs := if_pos h
theorem sealT_no {k : Int} {xs : List Int} (h : sealC k xs ≠ 0) : sealT k xs = ⟨#[]⟩ := if_neg h

end Go.Proofs.YtkaiglhljpehpabGreatDoor
