/- Plain facts on numbers that are read from bytes, of no program. -/
import Derived.Test.YtlhinknmbgijeabGen
import Derived.Test.YtlhinknmbgijeabKeep
import Derived.Test.YtlhinknmbgijeabRec
import Derived.Test.YtlhinknmbgijeabInts
import Derived.WalkKit
import Derived.Laws.BytesArg
import Derived.Laws.BitsLemmas
import Derived.Lib.EndianBits
namespace Go.Proofs.Ytlhinknmbgijeab
open Go.RowKit

theorem wraps_i64 (n : Int) (h₀ : 0 ≤ n) (h₁ : n < 2 ^ 63) : IntKind.i64.wrap n = n := by rw [IntKind.wrap_i64]; omega
theorem or_low (i : Nat) (y x : Int) (hy₀ : 0 ≤ y) (hy : y < 2 ^ i) (hy₁ : y < 2 ^ 63) (hx₀ : 0 ≤ x) (hx : x % 2 ^ i = 0) (hx₁ : x < 2 ^ 63) : bits .or .i64 y x = y + x :=
  bits_join_low .i64 63 (by decide) wraps_i64 i y x hy₀ hy hy₁ hx₀ hx hx₁
theorem or_high (i : Nat) (x y : Int) (hx₀ : 0 ≤ x) (hx : x % 2 ^ i = 0) (hx₁ : x < 2 ^ 63) (hy₀ : 0 ≤ y) (hy : y < 2 ^ i) (hy₁ : y < 2 ^ 63) : bits .or .i64 x y = x + y :=
  bits_join .i64 63 (by decide) wraps_i64 i x y hx₀ hx hx₁ hy₀ hy hy₁

theorem byteAt_in (s : ByteArray) (k : Nat) : 0 ≤ byteAt s k ∧ byteAt s k ≤ 255 := by
  unfold byteAt
  have := byte_le (s.data[k]?.getD 0)
  omega
/-- The number whose bytes begin at a place. -/
def numAt (s : ByteArray) (i : Nat) : Int := byteAt s i + byteAt s (i + 1) * 256 + byteAt s (i + 2) * 65536 + byteAt s (i + 3) * 16777216
theorem numAt_in (s : ByteArray) (i : Nat) : 0 ≤ numAt s i ∧ numAt s i ≤ 4294967295 := by
  have h0 := byteAt_in s i
  have h1 := byteAt_in s (i + 1)
  have h2 := byteAt_in s (i + 2)
  have h3 := byteAt_in s (i + 3)
  unfold numAt
  omega
/-- As the program reckons it. -/
theorem num_impl (s : ByteArray) : bits .or .i64 (bits .or .i64 (bits .or .i64 (wrap64 (byteAt s 0)) (wrap64 (wrap64 (byteAt s 1) * 256))) (wrap64 (wrap64 (byteAt s 2) * 65536))) (wrap64 (wrap64 (byteAt s 3) * 16777216)) = numAt s 0 := by
  have h0 := byteAt_in s 0
  have h1 := byteAt_in s 1
  have h2 := byteAt_in s 2
  have h3 := byteAt_in s 3
  rw [wrap_id (x := byteAt s 0) (by omega) (by omega), wrap_id (x := byteAt s 1) (by omega) (by omega), wrap_id (x := byteAt s 2) (by omega) (by omega), wrap_id (x := byteAt s 3) (by omega) (by omega),
    wrap_id (x := byteAt s 1 * 256) (by omega) (by omega), wrap_id (x := byteAt s 2 * 65536) (by omega) (by omega), wrap_id (x := byteAt s 3 * 16777216) (by omega) (by omega)]
  rw [or_low 8 (byteAt s 0) (byteAt s 1 * 256) (by omega) (by omega) (by omega) (by omega) (by omega) (by omega),
    or_low 16 (byteAt s 0 + byteAt s 1 * 256) (byteAt s 2 * 65536) (by omega) (by omega) (by omega) (by omega) (by omega) (by omega),
    or_low 24 (byteAt s 0 + byteAt s 1 * 256 + byteAt s 2 * 65536) (byteAt s 3 * 16777216) (by omega) (by omega) (by omega) (by omega) (by omega) (by omega)]
  rfl
/-- As the model reckons it: from the highest byte on. -/
def hi (s : ByteArray) (i : Nat) : Nat → Int
  | 0 => 0
  | m + 1 => hi s i m * 256 + byteAt s (i + (3 - m))
theorem hi_four (s : ByteArray) (i : Nat) : hi s i 4 = numAt s i := by
  show (((0 * 256 + byteAt s (i + 3)) * 256 + byteAt s (i + 2)) * 256 + byteAt s (i + 1)) * 256 + byteAt s i = byteAt s i + byteAt s (i + 1) * 256 + byteAt s (i + 2) * 65536 + byteAt s (i + 3) * 16777216
  omega
theorem hi_in (s : ByteArray) (i : Nat) : ∀ m, m ≤ 3 → 0 ≤ hi s i m ∧ hi s i m ≤ 16777215
  | 0, _ => by simp [hi]
  | 1, _ => by
    have := byteAt_in s (i + 3)
    show 0 ≤ 0 * 256 + byteAt s (i + 3) ∧ 0 * 256 + byteAt s (i + 3) ≤ 16777215
    omega
  | 2, _ => by
    have := byteAt_in s (i + 3)
    have := byteAt_in s (i + 2)
    show 0 ≤ (0 * 256 + byteAt s (i + 3)) * 256 + byteAt s (i + 2) ∧ (0 * 256 + byteAt s (i + 3)) * 256 + byteAt s (i + 2) ≤ 16777215
    omega
  | 3, _ => by
    have := byteAt_in s (i + 3)
    have := byteAt_in s (i + 2)
    have := byteAt_in s (i + 1)
    show 0 ≤ ((0 * 256 + byteAt s (i + 3)) * 256 + byteAt s (i + 2)) * 256 + byteAt s (i + 1) ∧ ((0 * 256 + byteAt s (i + 3)) * 256 + byteAt s (i + 2)) * 256 + byteAt s (i + 1) ≤ 16777215
    omega
  | _ + 4, h => by omega
theorem hi_step (s : ByteArray) (i m : Nat) (hm : m ≤ 3) (h : i + (3 - m) < s.size) : bits .or .i64 (hi s i m * 256) (s[i + (3 - m)].toNat : Int) = hi s i (m + 1) := by
  have h1 := hi_in s i m hm
  have h2 := byte_le s[i + (3 - m)]
  rw [or_high 8 _ _ (by omega) (by omega) (by omega) (by omega) (by omega) (by omega), hi, byteAt_get h]

theorem wrap_byte (b : UInt8) : wrap64 (b.toNat : Int) = (b.toNat : Int) := by have := byte_le b; exact wrap_id (by omega) (by omega)

/-- The numbers of a text. -/
def unL (s : ByteArray) : List Int := (List.range (s.size / 4)).map fun i => numAt s (i * 4)
theorem unL_length (s : ByteArray) : (unL s).length = s.size / 4 := by simp [unL]
theorem unL_get {s : ByteArray} {k : Nat} (h : k < (unL s).length) : (unL s)[k] = numAt s (k * 4) := by simp [unL]
theorem unL_succ {s : ByteArray} {k : Nat} (h : k < s.size / 4) : (unL s).take (k + 1) = (unL s).take k ++ [numAt s (k * 4)] := by
  rw [List.take_succ_eq_append_getElem (by rw [unL_length]; exact h), unL_get]
def okU (s : ByteArray) : Bool := decide (s.size % 4 = 0) && intsB (unL s)
theorem okU_rest {s : ByteArray} (h : ¬ s.size % 4 = 0) : okU s = false := by rw [okU, decide_eq_false h]; rfl
theorem okU_even {s : ByteArray} (h : s.size % 4 = 0) : okU s = intsB (unL s) := by rw [okU, decide_eq_true h]; rfl
theorem okU_long {s : ByteArray} (h : 64 < s.size) : okU s = false := by
  by_cases h4 : s.size % 4 = 0
  · rw [okU_even h4]; exact intsB_long (by rw [unL_length]; omega)
  · exact okU_rest h4
theorem okU_bad {s : ByteArray} {k : Nat} (hk : k < s.size / 4) (h : numB (numAt s (k * 4)) = false) : okU s = false := by
  have hk' : k < (unL s).length := by rw [unL_length]; exact hk
  rw [okU, intsB_false_at hk' (by rw [unL_get hk']; exact h)]
  simp
theorem okU_true {s : ByteArray} (h4 : s.size % 4 = 0) (hl : s.size ≤ 64) (h : ∀ k, k < s.size / 4 → numB (numAt s (k * 4)) = true) : okU s = true := by
  rw [okU_even h4, intsB_len (fun j hj => by rw [unL_get hj]; exact h j (by rw [unL_length] at hj; exact hj))]
  simp [unL_length]; omega
def listU (s : ByteArray) : List Int := if s.size % 4 = 0 then unL s else []
/-- The code of a text of numbers, what comes of it. -/
def unC (s : ByteArray) : Int := if 65536 < s.size then 2 else if okU s = true then 0 else 3
def unR (s : ByteArray) : List Int := if unC s = 0 then unL s else []
theorem unC_long {s : ByteArray} (h : 65536 < s.size) : unC s = 2 := if_pos h
theorem unC_ok {s : ByteArray} (h : ¬ 65536 < s.size) (hb : okU s = true) : unC s = 0 := by rw [unC, if_neg h, if_pos hb]
theorem unC_bad {s : ByteArray} (h : ¬ 65536 < s.size) (hb : okU s = false) : unC s = 3 := by rw [unC, if_neg h, if_neg (by simp [hb])]
theorem unR_ok {s : ByteArray} (h : unC s = 0) : unR s = unL s := if_pos h
theorem unR_no {s : ByteArray} (h : unC s ≠ 0) : unR s = [] := if_neg h

end Go.Proofs.Ytlhinknmbgijeab
