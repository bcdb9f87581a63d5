import Derived.Test.YthnpooffhopnkacGreatDoorPart1
import Derived.WalkKit
import Derived.Laws.BytesArg
import Derived.Test.YthnpooffhopnkacGreatDoorRows
import Derived.WalkSpells
import Derived.Laws.BitsLemmas
import Derived.Lib.EndianBits
import Derived.Lib.LazyBuf
import Derived.ProofKit
import Derived.OpenShut
import Derived.ShutString
import Derived.LaidMore
import Derived.LaidLaws
import Derived.OpenVars
import Derived.Stop.Joined
import Derived.Lib.LaidTab
import Derived.ChangeSlices
import Derived.BigQuiet
import Derived.Deep.QuietTactic
import Derived.Deep.RegionWith

/- Plain facts on lists of numbers, of no program: what a slice of numbers shows, rows of the call's own, right numbers, their bytes. -/
namespace Go.Proofs.YthnpooffhopnkacGreatDoor
open Go.RowKit

/-- A slice shows these numbers. -/
def Is (w : World) (ao : Option Addr) (xs : List Int) : Prop := ∀ i (h : i < xs.length), ∃ b off, ao = some ⟨b, off, none⟩ ∧ w.cell? ⟨b, off + i, none⟩ = some (.int .i64 xs[i])
theorem Is.below {w w' : World} {ao : Option Addr} {xs : List Int} (h : Is w ao xs) (hb : Below w.heap.size w w') : Is w' ao xs := fun i hi => by
  obtain ⟨b, off, e, hc⟩ := h i hi
  exact ⟨b, off, e, (hb.cell (p := ⟨b, off + i, none⟩) (World.block_lt_of_cell? _ _ hc)).trans hc⟩
def intV (xs : List Int) : List Value := xs.map (Value.int .i64)
theorem intV_length (xs : List Int) : (intV xs).length = xs.length := by simp [intV]
theorem intV_get {xs : List Int} {i : Nat} (h : i < xs.length) : (intV xs)[i]? = some (.int .i64 xs[i]) := by simp [intV, h]
theorem intV_snoc (xs : List Int) (n : Int) : intV (xs ++ [n]) = intV xs ++ [.int .i64 n] := by simp [intV]
theorem ownN {w : World} {B e cap : Nat} {ao : Option Addr} {xs : List Int} (h : w.ownsRow B e 1 (.slice ao xs.length cap) xs.length (intV xs)) : Is w ao xs := by
  rcases h.2 with ⟨hv, h0⟩ | ⟨g, cap', cur, hv, hb, hg, hnc, hcm, hcs, ht⟩
  · intro i hi
    omega
  · simp only [Value.slice.injEq, true_and] at hv
    obtain ⟨rfl, rfl⟩ := hv
    intro i hi
    refine ⟨g, 0, rfl, ?_⟩
    rw [Nat.zero_add, h.cellAt i (by omega), intV_get hi]
theorem ownRN {w : World} {B e cap : Nat} {ao : Option Addr} {xs : List Int} (h : OwnR w B e 1 (.slice ao xs.length cap) xs.length (intV xs)) : Is w ao xs := by
  rcases h with ⟨h0, _⟩ | ⟨_, h⟩
  · intro i hi; omega
  · exact ownN h

def eqNB (xs ys : List Int) : Bool := decide (xs = ys)
theorem eqNB_self (xs : List Int) : eqNB xs xs = true := by simp [eqNB]
theorem eqNB_true {ss tt : List Int} (hl : ss.length = tt.length) (h : ∀ j (h : j < ss.length) (h' : j < tt.length), ss[j] = tt[j]) : eqNB ss tt = true := decide_eq_true (List.ext_getElem hl h)
theorem eqNB_false_len {ss tt : List Int} (hl : ¬ ss.length = tt.length) : eqNB ss tt = false := decide_eq_false fun h => hl (by rw [h])
theorem eqNB_false {ss tt : List Int} {k : Nat} (hk : k < ss.length) (hk' : k < tt.length) (h : ss[k] ≠ tt[k]) : eqNB ss tt = false := decide_eq_false fun e => by subst e; exact h rfl

/-- A right number; right lists of numbers. -/
def numB (n : Int) : Bool := inB n 0 2147483647
def allB (xs : List Int) : Bool := xs.all numB
def intsB (xs : List Int) : Bool := allB xs && decide (xs.length ≤ 16)
theorem allB_true {xs : List Int} (ha : ∀ j (h : j < xs.length), numB xs[j] = true) : allB xs = true := all_of (p := numB) (fun i hi _ => ha i hi)
theorem allB_false {xs : List Int} {k : Nat} (hk : k < xs.length) (h : numB xs[k] = false) : allB xs = false := all_not (p := numB) hk h
theorem intsB_false_at {xs : List Int} {k : Nat} (hk : k < xs.length) (h : numB xs[k] = false) : intsB xs = false := by rw [intsB, allB_false hk h]; rfl
theorem intsB_len {xs : List Int} (ha : ∀ j (h : j < xs.length), numB xs[j] = true) : intsB xs = decide (xs.length ≤ 16) := by rw [intsB, allB_true ha]; rfl
theorem intsB_long {xs : List Int} (h : 16 < xs.length) : intsB xs = false := by rw [intsB, decide_eq_false (by omega)]; simp
theorem intsB_parts {xs : List Int} (h : intsB xs = true) : (∀ j (h : j < xs.length), 0 ≤ xs[j] ∧ xs[j] ≤ 2147483647) ∧ xs.length ≤ 16 := by
  simp only [intsB, Bool.and_eq_true, decide_eq_true_eq] at h
  refine ⟨fun j hj => ?_, h.2⟩
  have := h.1
  rw [allB, List.all_eq_true] at this
  have := this _ (List.getElem_mem hj)
  simpa [numB, inB] using this
/-- The code of a list. -/
def listC (xs : List Int) : Int := if 4096 < xs.length then 2 else if intsB xs = true then 0 else 4
theorem listC_long {xs : List Int} (h : 4096 < xs.length) : listC xs = 2 := if_pos h
theorem listC_bad {xs : List Int} (h : ¬ 4096 < xs.length) (hb : intsB xs = false) : listC xs = 4 := by rw [listC, if_neg h, if_neg (by simp [hb])]
theorem listC_ok {xs : List Int} (h : ¬ 4096 < xs.length) (hb : intsB xs = true) : listC xs = 0 := by rw [listC, if_neg h, if_pos hb]
theorem listC_zero {xs : List Int} (h : listC xs = 0) : intsB xs = true := by
  unfold listC at h
  split at h
  · cases h
  · split at h
    · assumption
    · cases h

/-- A number's bytes, the lowest first. -/
def byteN (n : Int) (j : Nat) : Int := n / (256 : Int) ^ j % 256
def fourTo (n : Int) (j : Nat) : List Int := (List.range j).map (byteN n)
def four (n : Int) : List Int := fourTo n 4
theorem fourTo_succ (n : Int) (j : Nat) : fourTo n (j + 1) = fourTo n j ++ [byteN n j] := by simp [fourTo, List.range_succ]
theorem fourTo_length (n : Int) (j : Nat) : (fourTo n j).length = j := by simp [fourTo]
theorem byteN_in (n : Int) (j : Nat) : 0 ≤ byteN n j ∧ byteN n j ≤ 255 := by unfold byteN; omega
def byteV (ns : List Int) : List Value := ns.map (Value.int .u8)
theorem byteV_length (ns : List Int) : (byteV ns).length = ns.length := by simp [byteV]
theorem byteV_snoc (ns : List Int) (n : Int) : byteV (ns ++ [n]) = byteV ns ++ [.int .u8 n] := by simp [byteV]
/-- A number, its lowest bytes cut off. -/
def shN (n : Int) (j : Nat) : Int := n / (256 : Int) ^ j
theorem shN_in {n : Int} (h : 0 ≤ n) (h' : n ≤ 2147483647) (j : Nat) : 0 ≤ shN n j ∧ shN n j ≤ 2147483647 := by
  have hp : (0 : Int) < (256 : Int) ^ j := Int.pow_pos (by omega)
  refine ⟨Int.ediv_nonneg h (by omega), Int.le_trans (Int.ediv_le_self _ h) h'⟩
theorem shN_succ (n : Int) (j : Nat) : shN n (j + 1) = shN n j / 256 := by
  unfold shN
  rw [Int.pow_succ, Int.ediv_ediv_of_nonneg (Int.pow_nonneg (by omega))]
theorem shN_byte (n : Int) (j : Nat) : shN n j % 256 = byteN n j := rfl
theorem byte_news (w : World) (v : Value) (t : TypeId) : ∀ j u, [v][j]? = some u → (w.alloc (.cells #[v] t)).cell? ((⟨w.heap.size, 0, none⟩ : Addr).add j) = some u := by
  intro j u hu
  have hj : j = 0 := by
    rcases Nat.eq_zero_or_pos j with h | h
    · exact h
    · rw [List.getElem?_eq_none (by simp; omega)] at hu; cases hu
  subst hj
  simp at hu
  subst hu
  simp [Addr.add, go_sem]
theorem byte_one (n : Int) : ∀ u ∈ [Value.int .u8 n], u.oneCell' = true := by
  intro u hu
  simp at hu
  subst hu
  rfl
/-- A row of one byte more. -/
theorem keep_below {w0 w w' : World} {v : Value} {B e size n : Nat} {xs : List Value} (hb : Below w0.heap.size w0 w) (ho : OwnR w B e size v n xs) (hB : w0.heap.size ≤ B) (hk : Keep (Own v) w w') : Below w0.heap.size w0 w' :=
  hb.trans (hk.below hb.size (fun k hk => Nat.le_trans hB (ho.ge k hk).1))
def packL (xs : List Int) : List Int := xs.flatMap four
def packS (xs : List Int) : ByteArray := strOfNums (packL xs)
theorem packL_length : ∀ (xs : List Int), (packL xs).length = xs.length * 4
  | [] => rfl
  | x :: xs => by
    have ih := packL_length xs
    simp only [packL, List.flatMap_cons, List.length_append, List.length_cons] at ih ⊢
    rw [four, fourTo_length]
    omega
theorem packL_snoc (xs : List Int) (n : Int) : packL (xs ++ [n]) = packL xs ++ four n := by simp [packL]
theorem packL_succ {xs : List Int} {k : Nat} (h : k < xs.length) : packL (xs.take (k + 1)) = packL (xs.take k) ++ four xs[k] := by
  rw [List.take_succ_eq_append_getElem h, packL_snoc]
theorem packS_size (xs : List Int) : (packS xs).size = xs.length * 4 := by rw [packS, strOfNums_size, packL_length]

/-- 'string(b)' of a row of the call's own. -/
theorem convert_own {P : Program} {w : World} {src e dst : TypeId} (hs : P.underlying src = some (.slice e)) (he : P.underlying e = some (.int .u8)) (hd : P.underlying dst = some .string) {B n qa t : Nat} {qo : Option Addr} {ns : List Int}
    (h : OwnR w B t 1 (.slice qo n qa) n (byteV ns)) : (convert src dst (.slice qo n qa)).run P w = .ok (.string (strOfNums ns)) w := by
  rcases h with ⟨rfl, hx, ao, hv⟩ | ⟨h0, h⟩
  · simp only [Value.slice.injEq, true_and] at hv
    obtain ⟨rfl, rfl⟩ := hv
    have hns : ns = [] := by simpa [byteV] using hx
    subst hns
    cases qo with
    | none => exact run_convert_bytes_nil w src e hs he 0 0 dst hd
    | some a =>
      have hl : (loadCells a 0).run P w = .ok (([] : List Int).map (Value.int .u8)).toArray w := by simpa using run_loadCells_list (P := P) w a [] (by simp)
      rw [run_convert_bytes_string w src dst e _ 0 0 hs he hd, run_bytesToString w a 0 0 [] hl]
      rfl
  · obtain ⟨g, cap, cur, hv, _, _⟩ := own_form h0 h
    simp only [Value.slice.injEq, true_and] at hv
    obtain ⟨rfl, rfl⟩ := hv
    have hlen : ns.length = n := by have := h.1; rw [byteV_length] at this; omega
    refine run_convert_bytes_arg w src e hs he g 0 n _ ns hlen (fun i hi => ?_) dst hd
    rw [Nat.zero_add, h.cellAt i (by omega)]
    simp [byteV, List.getElem?_eq_getElem (show i < ns.length by omega), List.getD]

end Go.Proofs.YthnpooffhopnkacGreatDoor

/- Contracts of what asks whether numbers are right: the program's and its model's. -/
namespace Go.Proofs.YthnpooffhopnkacGreatDoor
open Go.RowKit
set_option linter.unusedVariables false
set_option maxRecDepth 100000

theorem l01In_num (n low high : Int) (w : World) : Calls Tryz.prog 85 #[.int .i64 n, .int .i64 low, .int .i64 high] w fun e w' => e = .returned (.bool (inB n low high)) ∧ w' = w := by
  go_enter Tryz.func85, Tryz.ntmps85
  go_wp2
  all_goals
    go_ret
    exact ⟨ret_bool (by rw [Bool.eq_iff_iff]; simp [inB]; omega), rfl⟩
theorem l02Int_any (n : Int) (w : World) : Calls Tryz.prog 112 #[.int .i64 n] w fun e w' => e = .returned (.bool (numB n)) ∧ w' = w := by
  go_enter Tryz.func112, Tryz.ntmps112
  go_wp2_with (go_at_call 85; refine (l01In_num _ _ _ _).mono ?_; rintro e w' ⟨rfl, rfl⟩)
  go_ret
  exact ⟨rfl, rfl⟩
theorem isNumber_any (n : Int) (w : World) : Calls Tryz.prog 136 #[.int .i64 n] w fun e w' => e = .returned (.bool (numB n)) ∧ w' = w := by
  go_enter Tryz.func136, Tryz.ntmps136
  go_wp2
  all_goals
    go_ret
    exact ⟨ret_bool (by rw [Bool.eq_iff_iff]; simp [numB, inB]; omega), rfl⟩

end Go.Proofs.YthnpooffhopnkacGreatDoor

/- Plain facts on numbers that are read from bytes, of no program. -/
namespace Go.Proofs.YthnpooffhopnkacGreatDoor
open Go.RowKit

theorem wraps_i64 (n : Int) (h₀ : 0 ≤ n) (h₁ : n < 2 ^ 63) : IntKind.i64.wrap n = n := by rw [IntKind.wrap_i64]; omega
theorem or_low (i : Nat) (y x : Int) (hy₀ : 0 ≤ y) (hy : y < 2 ^ i) (hy₁ : y < 2 ^ 63) (hx₀ : 0 ≤ x) (hx : x % 2 ^ i = 0) (hx₁ : x < 2 ^ 63) : bits .or .i64 y x = y + x :=
  bits_join_low .i64 63 (by decide) wraps_i64 i y x hy₀ hy hy₁ hx₀ hx hx₁
theorem or_high (i : Nat) (x y : Int) (hx₀ : 0 ≤ x) (hx : x % 2 ^ i = 0) (hx₁ : x < 2 ^ 63) (hy₀ : 0 ≤ y) (hy : y < 2 ^ i) (hy₁ : y < 2 ^ 63) : bits .or .i64 x y = x + y :=
  bits_join .i64 63 (by decide) wraps_i64 i x y hx₀ hx hx₁ hy₀ hy hy₁

theorem byteAt_in (s : ByteArray) (k : Nat) : 0 ≤ byteAt s k ∧ byteAt s k ≤ 255 := by
  unfold byteAt
  have := byte_le (s.data[k]?.getD 0)
  omega
/-- The number whose bytes begin at a place. -/
def numAt (s : ByteArray) (i : Nat) : Int := byteAt s i + byteAt s (i + 1) * 256 + byteAt s (i + 2) * 65536 + byteAt s (i + 3) * 16777216
theorem numAt_in (s : ByteArray) (i : Nat) : 0 ≤ numAt s i ∧ numAt s i ≤ 4294967295 := by
  have h0 := byteAt_in s i
  have h1 := byteAt_in s (i + 1)
  have h2 := byteAt_in s (i + 2)
  have h3 := byteAt_in s (i + 3)
  unfold numAt
  omega
/-- As the program reckons it. -/
theorem num_impl (s : ByteArray) : bits .or .i64 (bits .or .i64 (bits .or .i64 (wrap64 (byteAt s 0)) (wrap64 (wrap64 (byteAt s 1) * 256))) (wrap64 (wrap64 (byteAt s 2) * 65536))) (wrap64 (wrap64 (byteAt s 3) * 16777216)) = numAt s 0 := by
  have h0 := byteAt_in s 0
  have h1 := byteAt_in s 1
  have h2 := byteAt_in s 2
  have h3 := byteAt_in s 3
  rw [wrap_id (x := byteAt s 0) (by omega) (by omega), wrap_id (x := byteAt s 1) (by omega) (by omega), wrap_id (x := byteAt s 2) (by omega) (by omega), wrap_id (x := byteAt s 3) (by omega) (by omega),
    wrap_id (x := byteAt s 1 * 256) (by omega) (by omega), wrap_id (x := byteAt s 2 * 65536) (by omega) (by omega), wrap_id (x := byteAt s 3 * 16777216) (by omega) (by omega)]
  rw [or_low 8 (byteAt s 0) (byteAt s 1 * 256) (by omega) (by omega) (by omega) (by omega) (by omega) (by omega),
    or_low 16 (byteAt s 0 + byteAt s 1 * 256) (byteAt s 2 * 65536) (by omega) (by omega) (by omega) (by omega) (by omega) (by omega),
    or_low 24 (byteAt s 0 + byteAt s 1 * 256 + byteAt s 2 * 65536) (byteAt s 3 * 16777216) (by omega) (by omega) (by omega) (by omega) (by omega) (by omega)]
  rfl
/-- As the model reckons it: from the highest byte on. -/
def hi (s : ByteArray) (i : Nat) : Nat → Int
  | 0 => 0
  | m + 1 => hi s i m * 256 + byteAt s (i + (3 - m))
theorem hi_four (s : ByteArray) (i : Nat) : hi s i 4 = numAt s i := by
  show (((0 * 256 + byteAt s (i + 3)) * 256 + byteAt s (i + 2)) * 256 + byteAt s (i + 1)) * 256 + byteAt s i = byteAt s i + byteAt s (i + 1) * 256 + byteAt s (i + 2) * 65536 + byteAt s (i + 3) * 16777216
  omega
theorem hi_in (s : ByteArray) (i : Nat) : ∀ m, m ≤ 3 → 0 ≤ hi s i m ∧ hi s i m ≤ 16777215
  | 0, _ => by simp [hi]
  | 1, _ => by
    have := byteAt_in s (i + 3)
    show 0 ≤ 0 * 256 + byteAt s (i + 3) ∧ 0 * 256 + byteAt s (i + 3) ≤ 16777215
    omega
  | 2, _ => by
    have := byteAt_in s (i + 3)
    have := byteAt_in s (i + 2)
    show 0 ≤ (0 * 256 + byteAt s (i + 3)) * 256 + byteAt s (i + 2) ∧ (0 * 256 + byteAt s (i + 3)) * 256 + byteAt s (i + 2) ≤ 16777215
    omega
  | 3, _ => by
    have := byteAt_in s (i + 3)
    have := byteAt_in s (i + 2)
    have := byteAt_in s (i + 1)
    show 0 ≤ ((0 * 256 + byteAt s (i + 3)) * 256 + byteAt s (i + 2)) * 256 + byteAt s (i + 1) ∧ ((0 * 256 + byteAt s (i + 3)) * 256 + byteAt s (i + 2)) * 256 + byteAt s (i + 1) ≤ 16777215
    omega
  | _ + 4, h => by omega
theorem hi_step (s : ByteArray) (i m : Nat) (hm : m ≤ 3) (h : i + (3 - m) < s.size) : bits .or .i64 (hi s i m * 256) (s[i + (3 - m)].toNat : Int) = hi s i (m + 1) := by
  have h1 := hi_in s i m hm
  have h2 := byte_le s[i + (3 - m)]
  rw [or_high 8 _ _ (by omega) (by omega) (by omega) (by omega) (by omega) (by omega), hi, byteAt_get h]

theorem wrap_byte (b : UInt8) : wrap64 (b.toNat : Int) = (b.toNat : Int) := by have := byte_le b; exact wrap_id (by omega) (by omega)

/-- The numbers of a text. -/
def unL (s : ByteArray) : List Int := (List.range (s.size / 4)).map fun i => numAt s (i * 4)
theorem unL_length (s : ByteArray) : (unL s).length = s.size / 4 := by simp [unL]
theorem unL_get {s : ByteArray} {k : Nat} (h : k < (unL s).length) : (unL s)[k] = numAt s (k * 4) := by simp [unL]
theorem unL_succ {s : ByteArray} {k : Nat} (h : k < s.size / 4) : (unL s).take (k + 1) = (unL s).take k ++ [numAt s (k * 4)] := by
  rw [List.take_succ_eq_append_getElem (by rw [unL_length]; exact h), unL_get]
def okU (s : ByteArray) : Bool := decide (s.size % 4 = 0) && intsB (unL s)
theorem okU_rest {s : ByteArray} (h : ¬ s.size % 4 = 0) : okU s = false := by rw [okU, decide_eq_false h]; rfl
theorem okU_even {s : ByteArray} (h : s.size % 4 = 0) : okU s = intsB (unL s) := by rw [okU, decide_eq_true h]; rfl
theorem okU_long {s : ByteArray} (h : 64 < s.size) : okU s = false := by
  by_cases h4 : s.size % 4 = 0
  · rw [okU_even h4]; exact intsB_long (by rw [unL_length]; omega)
  · exact okU_rest h4
theorem okU_bad {s : ByteArray} {k : Nat} (hk : k < s.size / 4) (h : numB (numAt s (k * 4)) = false) : okU s = false := by
  have hk' : k < (unL s).length := by rw [unL_length]; exact hk
  rw [okU, intsB_false_at hk' (by rw [unL_get hk']; exact h)]
  simp
theorem okU_true {s : ByteArray} (h4 : s.size % 4 = 0) (hl : s.size ≤ 64) (h : ∀ k, k < s.size / 4 → numB (numAt s (k * 4)) = true) : okU s = true := by
  rw [okU_even h4, intsB_len (fun j hj => by rw [unL_get hj]; exact h j (by rw [unL_length] at hj; exact hj))]
  simp [unL_length]; omega
def listU (s : ByteArray) : List Int := if s.size % 4 = 0 then unL s else []
/-- The code of a text of numbers, what comes of it. -/
def unC (s : ByteArray) : Int := if 65536 < s.size then 2 else if okU s = true then 0 else 3
def unR (s : ByteArray) : List Int := if unC s = 0 then unL s else []
theorem unC_long {s : ByteArray} (h : 65536 < s.size) : unC s = 2 := if_pos h
theorem unC_ok {s : ByteArray} (h : ¬ 65536 < s.size) (hb : okU s = true) : unC s = 0 := by rw [unC, if_neg h, if_pos hb]
theorem unC_bad {s : ByteArray} (h : ¬ 65536 < s.size) (hb : okU s = false) : unC s = 3 := by rw [unC, if_neg h, if_neg (by simp [hb])]
theorem unR_ok {s : ByteArray} (h : unC s = 0) : unR s = unL s := if_pos h
theorem unR_no {s : ByteArray} (h : unC s ≠ 0) : unR s = [] := if_neg h

end Go.Proofs.YthnpooffhopnkacGreatDoor

/- Contracts of the program's reader of numbers: demand, readNumber. -/
namespace Go.Proofs.YthnpooffhopnkacGreatDoor
open Go.RowKit
set_option linter.unusedVariables false
set_option maxRecDepth 100000

def ErrW (w : World) : Prop := ∃ u pv, w.cell? ⟨0, 0, none⟩ = some (.iface u pv)

theorem demand_true (w : World) : Calls Tryz.prog 82 #[.bool true] w fun e w' => e = .returned (.tuple #[]) ∧ w' = w := by
  go_enter Tryz.func82, Tryz.ntmps82
  go_wp2
  go_end0
  exact ⟨rfl, rfl⟩
theorem run_panic_iface (P : Program) (w : World) (u : TypeId) (pv : Value) : (Instr.panic (.iface u pv)).run P w = .halt (.panic (.iface u pv)) w := by
  simp [Instr.panic, goPanic, go_sem]
theorem demand_false (w : World) (h : ErrW w) : Calls Tryz.prog 82 #[.bool false] w fun e w' => (∃ u pv, e = .panicked [{ v := .iface u pv, recovered := false }]) ∧ w' = w := by
  obtain ⟨u, pv, hc⟩ := h
  have hp := fun w => run_panic_iface Tryz.prog w u pv
  go_enter Tryz.func82, Tryz.ntmps82
  go_wp2
  exact ⟨rfl, ⟨u, pv, rfl⟩, rfl⟩

theorem demand_if (b : Bool) (w : World) (hb : b = true) : Calls Tryz.prog 82 #[.bool b] w fun e w' => e = .returned (.tuple #[]) ∧ w' = w := by
  subst hb; exact demand_true w
theorem demand_not (b : Bool) (w : World) (hb : b = false) (h : ErrW w) : Calls Tryz.prog 82 #[.bool b] w fun e w' => (∃ u pv, e = .panicked [{ v := .iface u pv, recovered := false }]) ∧ w' = w := by
  subst hb; exact demand_false w h

theorem alloc_row (w : World) (c d : Array Value) (t : TypeId) : (w.alloc (.cells c t)).setRow w.heap.size d = w.alloc (.cells d t) := by
  have h : ((w.heap.push (.cells c t)).modify w.heap.size fun | .cells _ elem frozen => .cells d elem frozen | o => o) = w.heap.push (.cells d t) := by
    apply Array.ext
    · simp
    · intro i h1 h2
      rw [Array.getElem_modify]
      by_cases hi : w.heap.size = i
      · subst hi; simp
      · rw [if_neg hi]
        simp at h1
        rw [Array.getElem_push_lt (by omega), Array.getElem_push_lt (by omega)]
  unfold World.setRow
  have h' : ∀ X : Array Obj, X = w.heap.push (.cells d t) → ({ w.alloc (.cells c t) with heap := X } : World) = w.alloc (.cells d t) := by
    rintro X rfl
    rfl
  exact h' _ h
theorem first4 {s : ByteArray} (hs : 4 ≤ s.size) : (s.data.toList.map fun b : UInt8 => Value.int .u8 (b.toNat : Int)).take 4 = [.int .u8 (byteAt s 0), .int .u8 (byteAt s 1), .int .u8 (byteAt s 2), .int .u8 (byteAt s 3)] := by
  have hl : 4 ≤ s.data.toList.length := by simpa using hs
  obtain ⟨a, b, c, d, r, e⟩ : ∃ a b c d r, s.data.toList = a :: b :: c :: d :: r := by
    match h : s.data.toList with
    | a :: b :: c :: d :: r => exact ⟨a, b, c, d, r, rfl⟩
    | [] => simp [h] at hl
    | [a] => simp [h] at hl
    | [a, b] => simp [h] at hl
    | [a, b, c] => simp [h] at hl
  have hb : ∀ k, byteAt s k = ((s.data.toList[k]?.getD 0).toNat : Int) := fun k => by simp [byteAt]
  rw [hb, hb, hb, hb, e]
  simp
theorem copy4 (w : World) (s : ByteArray) (hs : 4 ≤ s.size) : (Builtin.copy_ #[22, 9] 3 #[.slice (some ⟨w.heap.size, 0, none⟩) 4 4, .string s]).run Tryz.prog (w.alloc (.cells #[.int .u8 0, .int .u8 0, .int .u8 0, .int .u8 0] 152)) = .ok (.int .i64 4) (w.alloc (.cells #[.int .u8 (byteAt s 0), .int .u8 (byteAt s 1), .int .u8 (byteAt s 2), .int .u8 (byteAt s 3)] 152)) := by
  have hsz : (Tryz.prog.info? 5).map (·.size) = some 1 := by kernel_rfl
  have hst := run_storeCells_at Tryz.prog w.heap.size 0 152 [.int .u8 (byteAt s 0), .int .u8 (byteAt s 1), .int .u8 (byteAt s 2), .int .u8 (byteAt s 3)] 0 #[.int .u8 0, .int .u8 0, .int .u8 0, .int .u8 0] (w.alloc (.cells #[.int .u8 0, .int .u8 0, .int .u8 0, .int .u8 0] 152)) (heap_alloc_new w _) (by simp) (by
    intro v hv
    simp at hv
    rcases hv with rfl | rfl | rfl | rfl <;> rfl)
  have hmin : Nat.min s.size 4 = 4 := Nat.min_eq_right hs
  cases hq : Tryz.prog.info? 5 with
  | none => simp [hq] at hsz
  | some i =>
    simp [Builtin.copy_, run_underlying Tryz.underlying22, Builtin.lenOf, Builtin.firstCells, sizeOf, typeInfo, hq, hmin]
    rw [first4 hs, hst]
    simp [Result.andThen, alloc_row]
    rfl

theorem copy4_at (W : World) (g : Nat) (s : ByteArray) (hg : W.heap.size = g) (hs : 4 ≤ s.size) : (Builtin.copy_ #[22, 9] 3 #[.slice (some ⟨g, 0, none⟩) 4 4, .string s]).run Tryz.prog (W.alloc (.cells #[.int .u8 0, .int .u8 0, .int .u8 0, .int .u8 0] 152)) = .ok (.int .i64 4) (W.alloc (.cells #[.int .u8 (byteAt s 0), .int .u8 (byteAt s 1), .int .u8 (byteAt s 2), .int .u8 (byteAt s 3)] 152)) := by
  subst hg; exact copy4 W s hs

theorem readNumber_ok (s : ByteArray) (w : World) (hs : 4 ≤ s.size) (hn : numB (numAt s 0) = true) : Calls Tryz.prog 152 #[.string s] w fun e w' => e = .returned (.int .i64 (numAt s 0)) ∧ Below w.heap.size w w' := by
  have hc4 := copy4 w s hs
  have hnum := num_impl s
  go_enter Tryz.func152, Tryz.ntmps152
  go_wp2_with (first | (go_at_call 136; refine (isNumber_any _ _).mono ?_; rintro e w' ⟨rfl, rfl⟩) | (go_at_call 82; refine (demand_true _).mono ?_; rintro e w' ⟨rfl, rfl⟩))
  go_ret
  exact ⟨rfl, Joins.below_alloc1 _ _⟩
theorem ErrW.below {w w' : World} (h : ErrW w) (hb : Below w.heap.size w w') : ErrW w' := by
  obtain ⟨u, pv, hc⟩ := h
  exact ⟨u, pv, (hb.cell (World.block_lt_of_cell? _ _ hc)).trans hc⟩
theorem readNumber_no (s : ByteArray) (w : World) (hs : 4 ≤ s.size) (hn : numB (numAt s 0) = false) (hE : ErrW w) : Calls Tryz.prog 152 #[.string s] w fun e w' => (∃ u pv, e = .panicked [{ v := .iface u pv, recovered := false }]) ∧ Below w.heap.size w w' := by
  have hc4 := copy4 w s hs
  have hnum := num_impl s
  have HE := hide (hE.below (Joins.below_alloc1 w (.cells #[.int .u8 (byteAt s 0), .int .u8 (byteAt s 1), .int .u8 (byteAt s 2), .int .u8 (byteAt s 3)] 152)))
  clear hE
  go_enter Tryz.func152, Tryz.ntmps152
  go_wp2_with (first | (go_at_call 136; refine (isNumber_any _ _).mono ?_; rintro e w' ⟨rfl, rfl⟩) | (go_at_call 82; refine (demand_false _ (unhide HE)).mono ?_; rintro e w' ⟨⟨u, pv, rfl⟩, rfl⟩))
  exact ⟨rfl, ⟨_, _, rfl⟩, Joins.below_alloc1 _ _⟩

end Go.Proofs.YthnpooffhopnkacGreatDoor

/- What the proofs of this seat share: the variable errNoForm as the row lists it, its cell; the door's own heap. -/
namespace Go.Proofs.YthnpooffhopnkacGreatDoor
open Go.ChangeShapes Go.WideShapes Go.ChangeAt Go.RowKit

theorem gErr : Tryz.prog.globalNamed "loop.example/g00456/impl.errNoForm" = some 0 := by kernel_rfl
theorem tErr : (Tryz.prog.globals[0]?).map (·.type) = some 144 := by kernel_rfl

abbrev laidE : List (String × DataW Unit) := [("loop.example/g00456/impl.errNoForm", Rows.laid_loop_example_g00456_impl_errNoForm)]

/-- From the row's condition to what the walks ask. -/
theorem err_of_laid {W : World} (h : laidMetH Tryz.prog laidE W) : ErrW W := by
  rw [MakeChecks.laidMetH_plain _ _ _ (by kernel_rfl)] at h
  obtain ⟨ps, ⟨g0, t0, cs0, f0, p0, q0, hg0, ht0, hv0, hd0, _⟩, _⟩ := h
  obtain rfl := Option.some.inj (gErr.symm.trans hg0)
  obtain rfl := Option.some.inj (tErr.symm.trans ht0)
  obtain ⟨f1, u, v, hcs, _, _⟩ := iface_of_trod Tryz.underlying144 hd0
  refine ⟨u, v, ?_⟩
  rw [World.var?_cell hg0 hv0 0]
  have e : cs0 = #[.iface u v] := by cases cs0; simpa using hcs
  rw [e]
  rfl

/-- The door's own heap meets the condition. -/
theorem err_door (os : Os) (args : Array Value) : laidMetH Tryz.prog laidE ((World.doorLaid Tryz.prog 400 os).forCall (fun _ _ => 0) ⟨#[], args, []⟩).memory :=
  laidMetH_of_parts3 (fuel := 8) (laidMet_of_run' 8 (by kernel_rfl) (by kernel_rfl)) (by kernel_rfl) (by kernel_rfl)

end Go.Proofs.YthnpooffhopnkacGreatDoor

/- A slice of numbers of any kind that came in, opened: its cells. -/
namespace Go.Proofs.YthnpooffhopnkacGreatDoor
open Go.ChangeShapes Go.WideShapes Go.ChangeAt Go.RowKit
set_option linter.unusedVariables false
set_option maxRecDepth 100000

theorem add_plain {a : Addr} {i : Nat} (h : a.spot = none) : a.add i = ⟨a.block, a.off + i, none⟩ := by
  unfold Addr.add
  by_cases hi : i = 0
  · subst hi; cases a; simp_all
  · simp [hi]

section
variable {H : Type} {enc : TypeId × Value → H} {P : Program} {w : World} {base b0 : Nat} {r : Reach} {spare : Nat → Bool} {held : Bool}
/-- A slice of numbers of any kind: its cells. -/
theorem open_Ns {t e : TypeId} {k : IntKind} {v : Value} {d : DataW H} {p : List MemPlace} (ht : P.underlying t = some (.slice e)) (he : P.underlying e = some (.int k)) (hc : P.cellsOf e = 1)
    (hv : Value.okWide P w r b0 t v) (h : DataW.Trod enc P w base spare held t v d p) :
    ∃ ao cap, ∃ xs : List Int, v = .slice ao xs.length cap ∧ xs.length ≤ maxLen ∧ (∀ i (h : i < xs.length), ∃ b off, ao = some ⟨b, off, none⟩ ∧ w.cell? ⟨b, off + i, none⟩ = some (.int k xs[i]) ∧ (Lit.int k xs[i]).wf = true) := by
  obtain ⟨ao, len, cap, rfl⟩ := okWide_slice ht hv
  obtain ⟨m, hm⟩ := h
  have hm' : DataW.trod enc P w base spare held m t [.slice ao len cap] = some (d, p) := hm
  rcases open_ints ht he hc hm' with ⟨hcs, _⟩ | ⟨a, len', cap', zs, hcs, _, hl, hcm, hz, _, hcell, hws⟩
  · simp only [List.cons.injEq, Value.slice.injEq, and_true] at hcs
    obtain ⟨rfl, rfl, rfl⟩ := hcs
    exact ⟨none, 0, [], rfl, Nat.zero_le _, fun i hi => absurd hi (Nat.not_lt_zero _)⟩
  · simp only [List.cons.injEq, Value.slice.injEq, and_true] at hcs
    obtain ⟨rfl, rfl, rfl⟩ := hcs
    have hlen : len ≤ zs.length := by rw [hz]; split <;> omega
    have htl : (zs.take len).length = len := by simp; omega
    refine ⟨some a, cap, zs.take len, by rw [htl], by omega, fun i hi => ?_⟩
    have hi' : i < len := by omega
    have h0 : a.spot = none := by
      have := World.cell?_spot (hcell 0 (by omega))
      simpa [Addr.add] using this
    have hci := hcell i (by omega)
    rw [add_plain h0] at hci
    have hg : (zs.take len)[i] = zs.getD i 0 := by
      rw [List.getElem_take]; simp [List.getD, show i < zs.length by omega]
    refine ⟨a.block, a.off, ?_, ?_, ?_⟩
    · cases a; simp_all
    · rw [hci, hg]
    · rw [hg]
      exact hws _ (by simp [List.getD, show i < zs.length by omega])
end

end Go.Proofs.YthnpooffhopnkacGreatDoor

/- Contracts of the model's source of choices: byte, next. -/
namespace Go.Proofs.YthnpooffhopnkacGreatDoor
open Go.RowKit
set_option linter.unusedVariables false

/-- A slice shows these bytes. -/
def Bs (w : World) (ao : Option Addr) (n : Nat) : Prop := ∀ i, i < n → ∃ b off x, ao = some ⟨b, off, none⟩ ∧ w.cell? ⟨b, off + i, none⟩ = some (.int .u8 x) ∧ 0 ≤ x ∧ x ≤ 255
theorem Bs.below {w w' : World} {ao : Option Addr} {n : Nat} (h : Bs w ao n) (hb : Below w.heap.size w w') : Bs w' ao n := fun i hi => by
  obtain ⟨b, off, x, e, hc, h0, h1⟩ := h i hi
  exact ⟨b, off, x, e, (hb.cell (p := ⟨b, off + i, none⟩) (World.block_lt_of_cell? _ _ hc)).trans hc, h0, h1⟩
/-- A source of choices: its variable, its code. -/
def SrcB (w : World) (b : Nat) (ao : Option Addr) (n cap m : Nat) : Prop := ∃ at_ seed : Int, 0 ≤ at_ ∧ at_ ≤ m ∧ 0 ≤ seed ∧ seed < 2147483648 ∧ w.heap[b]? = some (.cells #[.slice ao n cap, .int .i64 at_, .int .i64 seed] 83 (0, 0))

/-- The variable's cells. -/
theorem src_cells {w : World} {b : Nat} {v : Value} {x y : Int} (h : w.heap[b]? = some (.cells #[v, .int .i64 x, .int .i64 y] 83 (0, 0))) :
    w.cell? ⟨b, 0, none⟩ = some v ∧ w.cell? ⟨b, 1, none⟩ = some (.int .i64 x) ∧ w.cell? ⟨b, 2, none⟩ = some (.int .i64 y) ∧ w.frozen? ⟨b, 1, none⟩ = false ∧ w.frozen? ⟨b, 2, none⟩ = false :=
  ⟨by rw [Joins.cell_of_block h]; rfl, by rw [Joins.cell_of_block h]; rfl, by rw [Joins.cell_of_block h]; rfl, Joins.unfrozen_of_block h 1, Joins.unfrozen_of_block h 2⟩
theorem set_block {w : World} {b i : Nat} {c : Array Value} {t : TypeId} (h : w.heap[b]? = some (.cells c t (0, 0))) (v : Value) : (w.setCell ⟨b, i, none⟩ v).heap[b]? = some (.cells (c.setIfInBounds i v) t (0, 0)) := by
  have hb : b < w.heap.size := (Array.getElem?_eq_some_iff.1 h).1
  have hg : w.heap[b] = .cells c t (0, 0) := by rw [Array.getElem?_eq_getElem hb] at h; simpa using h
  have hm : b < (w.setCell ⟨b, i, none⟩ v).heap.size := by simpa using hb
  rw [Array.getElem?_eq_getElem hm]
  congr 1
  unfold World.setCell
  simp only [Array.getElem_modify, if_true, hg]
  simp
theorem Bs.keep {w w' : World} {b : Nat} {ao : Option Addr} {n : Nat} {v : Value} {x y : Int} (hB : Bs w ao n) (h : w.heap[b]? = some (.cells #[v, .int .i64 x, .int .i64 y] 83 (0, 0))) (hv : ∀ z, v ≠ .int .u8 z) (hk : Keep (fun k => k = b) w w') : Bs w' ao n := fun i hi => by
  obtain ⟨b', off, z, e, hc, h0, h1⟩ := hB i hi
  refine ⟨b', off, z, e, ?_, h0, h1⟩
  have hne : b' ≠ b := by
    rintro rfl
    rw [Joins.cell_of_block h] at hc
    match hoff : off + i, hc with
    | 0, hc => exact hv z (by simpa using hc)
    | 1, hc => simp at hc
    | 2, hc => simp at hc
    | k + 3, hc => simp at hc
  have hl := World.block_lt_of_cell? _ _ hc
  rw [← hc]
  unfold World.cell?
  simp only [hk.block b' hl hne]

theorem wrapI {x : Int} (h : -9223372036854775808 ≤ x) (h' : x ≤ 9223372036854775807) : IntKind.i64.wrap x = x := by rw [IntKind.wrap_i64]; omega

theorem Keep.drewN {S : Nat → Prop} {a b : World} (h : Keep S a b) (n : Nat) : Keep S a (b.drewN n) := ⟨h.os, h.tape, h.output, h.size, h.block⟩
theorem Keep.drew {S : Nat → Prop} {a b : World} (h : Keep S a b) : Keep S a b.drew := ⟨h.os, h.tape, h.output, h.size, h.block⟩

set_option maxHeartbeats 6400000 in
theorem byte_in (b : Nat) (ao : Option Addr) (n cap a : Nat) (seed : Int) (w : World) (ha' : a ≤ 1000000) (h0 : 0 ≤ seed) (h1 : seed < 2147483648) (hn : n ≤ 1048576) (hlt : a < n)
    (hblk : w.heap[b]? = some (.cells #[.slice ao n cap, .int .i64 a, .int .i64 seed] 83 (0, 0))) (hB : Bs w ao n) :
    Calls Tryz.prog 91 #[.pointer (some ⟨b, 0, none⟩)] w fun e w' => ∃ r : Int, e = .returned (.int .i64 r) ∧ 0 ≤ r ∧ r ≤ 255 ∧ SrcB w' b ao n cap (a + 1) ∧ Keep (fun k => k = b) w w' := by
  obtain ⟨hc0, hc1, hc2, hf1, hf2⟩ := src_cells hblk
  have HBL := hide (set_block (i := 1) hblk (.int .i64 ((a : Int) + 1)))
  have HK := hide (Keep.setCell (S := fun k => k = b) (Keep.refl _ w) (p := ⟨b, 1, none⟩) rfl (.int .i64 ((a : Int) + 1)))
  have HB := hide (hB.keep hblk (fun z h => by cases h) (unhide HK))
  have hle : (a : Int) + 1 ≤ n := by omega
  go_enter Tryz.func91, Tryz.ntmps91
  go_wp2
  clear hc0 hc1 hc2 hf1 hf2 hblk hB
  revert HBL HK HB
  generalize w.setCell ⟨b, 1, none⟩ (.int .i64 ((a : Int) + 1)) = W1
  intro HBL HK HB
  obtain ⟨hc0, hc1, hc2, hf1, hf2⟩ := src_cells (unhide HBL)
  obtain ⟨b', off, x, rfl, hcx, hx0, hx1⟩ := unhide HB a hlt
  go_quiet (fail)
  have hw1 : IntKind.i64.wrap ((a : Int) + 1 - 1) = (a : Int) := by rw [wrapI (by omega) (by omega)]; omega
  have hw2 : IntKind.i64.wrap (seed * 31) = seed * 31 := wrapI (by omega) (by omega)
  have hw3 : IntKind.i64.wrap x = x := wrapI (by omega) (by omega)
  have hw4 : IntKind.i64.wrap (seed * 31 + x) = seed * 31 + x := wrapI (by omega) (by omega)
  have hw5 : IntKind.i64.wrap (seed * 31 + x + 7) = seed * 31 + x + 7 := wrapI (by omega) (by omega)
  go_wp2
  have hs0 : 0 ≤ (seed * 31 + x + 7) % 2147483648 := by omega
  have hs1 : (seed * 31 + x + 7) % 2147483648 < 2147483648 := by omega
  go_region
  clear hc0 hc1 hc2 hf1 hf2
  have HBL2 : Hid (((W1.drewN (nq + 1)).setCell ⟨b, 2, none⟩ (.int .i64 ((seed * 31 + x + 7) % 2147483648))).heap[b]? = some (.cells #[.slice (some ⟨b', off, none⟩) n cap, .int .i64 ((a : Int) + 1), .int .i64 ((seed * 31 + x + 7) % 2147483648)] 83 (0, 0))) := hide (set_block (w := W1.drewN (nq + 1)) (i := 2) (unhide HBL) _)
  have HK2 : Hid (Keep (fun k => k = b) W1 ((W1.drewN (nq + 1)).setCell ⟨b, 2, none⟩ (.int .i64 ((seed * 31 + x + 7) % 2147483648)))) := hide (Keep.setCell (S := fun k => k = b) ((Keep.refl _ W1).drewN _) (p := ⟨b, 2, none⟩) rfl _)
  have HB2 := hide ((unhide HB).keep (unhide HBL) (fun z h => by cases h) (unhide HK2))
  revert HBL2 HK2 HB2
  generalize (W1.drewN (nq + 1)).setCell ⟨b, 2, none⟩ (.int .i64 ((seed * 31 + x + 7) % 2147483648)) = W2
  intro HBL2 HK2 HB2
  have HKK := hide ((unhide HK).trans (unhide HK2))
  clear HBL HB HK HK2 hcx
  obtain ⟨hc0, hc1, hc2, hf1, hf2⟩ := src_cells (unhide HBL2)
  obtain ⟨b2, off2, x2, he2, hcx, hy0, hy1⟩ := unhide HB2 a hlt
  simp only [Option.some.injEq, Addr.mk.injEq, and_true] at he2
  obtain ⟨rfl, rfl⟩ := he2
  have hw6 : IntKind.i64.wrap x2 = x2 := wrapI (by omega) (by omega)
  go_wp2
  go_quiet (fail)
  go_wp2
  go_ret
  exact ⟨x2, rfl, hy0, hy1, ⟨(a : Int) + 1, _, by omega, by omega, hs0, hs1, unhide HBL2⟩, (unhide HKK).drewN _⟩

set_option maxRecDepth 100000 in
set_option maxHeartbeats 6400000 in
theorem byte_out (b : Nat) (ao : Option Addr) (n cap a : Nat) (seed : Int) (w : World) (ha' : a ≤ 1000000) (h0 : 0 ≤ seed) (h1 : seed < 2147483648) (hn : n ≤ 1048576) (hlt : ¬ a < n)
    (hblk : w.heap[b]? = some (.cells #[.slice ao n cap, .int .i64 a, .int .i64 seed] 83 (0, 0))) :
    Calls Tryz.prog 91 #[.pointer (some ⟨b, 0, none⟩)] w fun e w' => ∃ r : Int, e = .returned (.int .i64 r) ∧ 0 ≤ r ∧ r ≤ 255 ∧ SrcB w' b ao n cap (a + 1) ∧ Keep (fun k => k = b) w w' := by
  obtain ⟨hc0, hc1, hc2, hf1, hf2⟩ := src_cells hblk
  have HBL := hide (set_block (i := 1) hblk (.int .i64 ((a : Int) + 1)))
  have HK := hide (Keep.setCell (S := fun k => k = b) (Keep.refl _ w) (p := ⟨b, 1, none⟩) rfl (.int .i64 ((a : Int) + 1)))
  have hle : ¬ (a : Int) + 1 ≤ n := by omega
  have hw2 : IntKind.i64.wrap (seed * 1103515245) = seed * 1103515245 := wrapI (by omega) (by omega)
  have hw4 : IntKind.i64.wrap (seed * 1103515245 + 12345) = seed * 1103515245 + 12345 := wrapI (by omega) (by omega)
  have hs0 : 0 ≤ (seed * 1103515245 + 12345) % 2147483648 := by omega
  have hs1 : (seed * 1103515245 + 12345) % 2147483648 < 2147483648 := by omega
  by_cases h3 : 3000 < a + 1
  · have h3i : (3000 : Int) < (a : Int) + 1 := by omega
    go_enter Tryz.func91, Tryz.ntmps91
    go_wp2
    clear hc0 hc1 hc2 hf1 hf2 hblk
    revert HBL HK
    generalize w.setCell ⟨b, 1, none⟩ (.int .i64 ((a : Int) + 1)) = W1
    intro HBL HK
    obtain ⟨hc0, hc1, hc2, hf1, hf2⟩ := src_cells (unhide HBL)
    go_quiet (fail)
    go_wp2
    go_ret
    exact ⟨0, rfl, by omega, by omega, ⟨(a : Int) + 1, seed, by omega, by omega, h0, h1, unhide HBL⟩, (unhide HK).drewN _⟩
  · have h3i : ¬ (3000 : Int) < (a : Int) + 1 := by omega
    go_enter Tryz.func91, Tryz.ntmps91
    go_wp2
    clear hc0 hc1 hc2 hf1 hf2 hblk
    revert HBL HK
    generalize w.setCell ⟨b, 1, none⟩ (.int .i64 ((a : Int) + 1)) = W1
    intro HBL HK
    obtain ⟨hc0, hc1, hc2, hf1, hf2⟩ := src_cells (unhide HBL)
    go_quiet (fail)
    have HS2 := hide (set_block (w := W1.drewN nq) (i := 2) (unhide HBL) (.int .i64 ((seed * 1103515245 + 12345) % 2147483648)))
    have HK2 := hide (Keep.setCell (S := fun k => k = b) ((unhide HK).drewN nq) (p := ⟨b, 2, none⟩) rfl (.int .i64 ((seed * 1103515245 + 12345) % 2147483648)))
    go_wp2
    go_ret
    exact ⟨_, rfl, by omega, by omega, ⟨(a : Int) + 1, _, by omega, by omega, hs0, hs1, unhide HS2⟩, unhide HK2⟩

theorem byte_any (b : Nat) (ao : Option Addr) (n cap m : Nat) (w : World) (hm : m ≤ 1000000) (hn : n ≤ 1048576) (hs : SrcB w b ao n cap m) (hB : Bs w ao n) :
    Calls Tryz.prog 91 #[.pointer (some ⟨b, 0, none⟩)] w fun e w' => ∃ r : Int, e = .returned (.int .i64 r) ∧ 0 ≤ r ∧ r ≤ 255 ∧ SrcB w' b ao n cap (m + 1) ∧ Keep (fun k => k = b) w w' := by
  obtain ⟨at_, seed, ha0, ha1, h0, h1, hblk⟩ := hs
  obtain ⟨a, rfl⟩ := Int.eq_ofNat_of_zero_le ha0
  have up : ∀ {w' : World}, SrcB w' b ao n cap (a + 1) → SrcB w' b ao n cap (m + 1) := by
    rintro w' ⟨x, y, c0, c1, c2, c3, c4⟩
    exact ⟨x, y, c0, by omega, c2, c3, c4⟩
  by_cases hlt : a < n
  · exact (byte_in b ao n cap a seed w (by omega) h0 h1 hn hlt hblk hB).mono fun e w' ⟨r, he, r0, r1, r2, r3⟩ => ⟨r, he, r0, r1, up r2, r3⟩
  · exact (byte_out b ao n cap a seed w (by omega) h0 h1 hn hlt hblk).mono fun e w' ⟨r, he, r0, r1, r2, r3⟩ => ⟨r, he, r0, r1, up r2, r3⟩

/-- A source as the walks hand it on. -/
structure SrcK (w : World) (b : Nat) (ao : Option Addr) (n cap m : Nat) : Prop where
  src : SrcB w b ao n cap m
  bytes : Bs w ao n
theorem SrcK.keep {w w' : World} {b : Nat} {ao : Option Addr} {n cap m m' : Nat} (h : SrcK w b ao n cap m) (hs : SrcB w' b ao n cap m') (hk : Keep (fun k => k = b) w w') : SrcK w' b ao n cap m' := by
  obtain ⟨x, y, _, _, _, _, hblk⟩ := h.src
  exact ⟨hs, h.bytes.keep hblk (fun z h => by cases h) hk⟩
theorem SrcK.more {w : World} {b : Nat} {ao : Option Addr} {n cap m m' : Nat} (h : SrcK w b ao n cap m) (hm : m ≤ m') : SrcK w b ao n cap m' := by
  obtain ⟨⟨x, y, c0, c1, c2, c3, c4⟩, hB⟩ := h
  exact ⟨⟨x, y, c0, by omega, c2, c3, c4⟩, hB⟩
theorem SrcK.below {w w' : World} {b : Nat} {ao : Option Addr} {n cap m : Nat} (h : SrcK w b ao n cap m) (hb : Below w.heap.size w w') : SrcK w' b ao n cap m := by
  obtain ⟨⟨x, y, c0, c1, c2, c3, c4⟩, hB⟩ := h
  exact ⟨⟨x, y, c0, c1, c2, c3, by rw [hb.block b (Array.getElem?_eq_some_iff.1 c4).1]; exact c4⟩, hB.below hb⟩
theorem SrcK.lt {w : World} {b : Nat} {ao : Option Addr} {n cap m : Nat} (h : SrcK w b ao n cap m) : b < w.heap.size := by
  obtain ⟨⟨x, y, c0, c1, c2, c3, c4⟩, hB⟩ := h
  exact (Array.getElem?_eq_some_iff.1 c4).1

theorem byte_k (b : Nat) (ao : Option Addr) (n cap m : Nat) (w : World) (hm : m ≤ 1000000) (hn : n ≤ 1048576) (hs : SrcK w b ao n cap m) :
    Calls Tryz.prog 91 #[.pointer (some ⟨b, 0, none⟩)] w fun e w' => ∃ r : Int, e = .returned (.int .i64 r) ∧ 0 ≤ r ∧ r ≤ 255 ∧ SrcK w' b ao n cap (m + 1) ∧ Keep (fun k => k = b) w w' :=
  (byte_any b ao n cap m w hm hn hs.src hs.bytes).mono fun e w' ⟨r, he, r0, r1, r2, r3⟩ => ⟨r, he, r0, r1, hs.keep r2 r3, r3⟩

set_option maxHeartbeats 1600000 in
theorem next_k (b : Nat) (ao : Option Addr) (n cap m : Nat) (k : Int) (w : World) (hk0 : 1 ≤ k) (hk1 : k ≤ 1000000) (hm : m ≤ 900000) (hn : n ≤ 1048576) (hs : SrcK w b ao n cap m) :
    Calls Tryz.prog 43 #[.pointer (some ⟨b, 0, none⟩), .int .i64 k] w fun e w' => ∃ r : Int, e = .returned (.int .i64 r) ∧ 0 ≤ r ∧ r < k ∧ SrcK w' b ao n cap (m + 3) ∧ Keep (fun k => k = b) w w' := by
  have HS := hide hs
  clear hs
  by_cases h1 : k ≤ 1
  · go_enter Tryz.func43, Tryz.ntmps43
    go_wp2
    go_ret
    exact ⟨0, rfl, by omega, by omega, (unhide HS).more (by omega), Keep.refl _ _⟩
  by_cases h2 : k ≤ 256
  · go_enter Tryz.func43, Tryz.ntmps43
    go_wp2_with fail
    refine (byte_k b ao n cap m _ (by omega) hn (unhide HS)).mono ?_
    rintro e w1 ⟨r, rfl, hr0, hr1, hs1, hk⟩
    have HS1 := hide hs1
    have HK1 := hide hk
    clear hs1 hk
    go_wp2
    go_ret
    have hr2 := Int.emod_nonneg r (show k ≠ 0 by omega)
    have hr3 := Int.emod_lt_of_pos r (show 0 < k by omega)
    exact ⟨r % k, rfl, hr2, hr3, (unhide HS1).more (by omega), unhide HK1⟩
  · go_enter Tryz.func43, Tryz.ntmps43
    go_wp2_with fail
    refine (byte_k b ao n cap m _ (by omega) hn (unhide HS)).mono ?_
    rintro e w1 ⟨r, rfl, hr0, hr1, hs1, hk⟩
    have HS1 := hide hs1
    have HK1 := hide hk
    clear hs1 hk
    go_wp2_with fail
    refine (byte_k b ao n cap (m + 1) _ (by omega) hn (unhide HS1)).mono ?_
    rintro e w2 ⟨r2, rfl, hr20, hr21, hs1, hk⟩
    have HS2 := hide hs1
    have HK2 := hide ((unhide HK1).trans hk)
    clear hs1 hk
    go_wp2_with fail
    refine (byte_k b ao n cap (m + 1 + 1) _ (by omega) hn (unhide HS2)).mono ?_
    rintro e w3 ⟨r3, rfl, hr30, hr31, hs1, hk⟩
    have HS3 := hide hs1
    have HK3 := hide ((unhide HK2).trans hk)
    clear hs1 hk
    go_wp2
    go_ret
    have hq2 := Int.emod_nonneg (r * 65536 + r2 * 256 + r3) (show k ≠ 0 by omega)
    have hq3 := Int.emod_lt_of_pos (r * 65536 + r2 * 256 + r3) (show 0 < k by omega)
    exact ⟨(r * 65536 + r2 * 256 + r3) % k, rfl, hq2, hq3, (unhide HS3).more (by omega), unhide HK3⟩

end Go.Proofs.YthnpooffhopnkacGreatDoor

/- A slice of bytes that came in, opened: what it shows. -/
namespace Go.Proofs.YthnpooffhopnkacGreatDoor
open Go.ChangeShapes Go.WideShapes Go.ChangeAt Go.RowKit
set_option linter.unusedVariables false
set_option maxRecDepth 100000

theorem cellsByte : Tryz.prog.cellsOf 5 = 1 := by kernel_rfl

theorem open_bytes {H : Type} {enc : TypeId × Value → H} {w : World} {base b0 : Nat} {r : Reach} {spare : Nat → Bool} {held : Bool} {v : Value} {d : DataW H} {p : List MemPlace}
    (hv : Value.okWide Tryz.prog w r b0 22 v) (h : DataW.Trod enc Tryz.prog w base spare held 22 v d p) : ∃ ao cap n, v = .slice ao n cap ∧ n ≤ maxLen ∧ Bs w ao n := by
  obtain ⟨ao, cap, xs, hv, hl, hx⟩ := open_Ns Tryz.underlying22 Tryz.underlying5 cellsByte hv h
  refine ⟨ao, cap, xs.length, hv, hl, fun i hi => ?_⟩
  obtain ⟨b, off, e, hc, hw⟩ := hx i hi
  have : 0 ≤ xs[i] ∧ xs[i] ≤ 255 := by simpa [Lit.wf, IntKind.min, IntKind.max, IntKind.signed, IntKind.bits] using hw
  exact ⟨b, off, xs[i], e, hc, this.1, this.2⟩

end Go.Proofs.YthnpooffhopnkacGreatDoor
