/- Plain facts on records, of no program: sums of bytes. -/
import Derived.Test.YtlhinknmbgijeabGen
import Derived.WalkKit
namespace Go.Proofs.Ytlhinknmbgijeab
open Go.RowKit

/-- The byte at a place. -/
def byteAt (s : ByteArray) (k : Nat) : Int := ((s.data[k]?.getD 0).toNat : Int)
theorem byteAt_get {s : ByteArray} {k : Nat} (h : k < s.size) : byteAt s k = (s[k].toNat : Int) := by
  have h' : k < s.data.size := h
  simp [byteAt, Array.getElem?_eq_getElem h']
  rfl
theorem byte_le (b : UInt8) : (b.toNat : Int) ≤ 255 := by have := b.toNat_lt; omega

/-- The sum of the first bytes. -/
def sumTo (s : ByteArray) : Nat → Int
  | 0 => 0
  | k + 1 => (sumTo s k + (k + 1) * (byteAt s k + 1)) % 251
theorem sumTo_in (s : ByteArray) (k : Nat) : 0 ≤ sumTo s k ∧ sumTo s k ≤ 250 := by
  cases k with
  | zero => simp [sumTo]
  | succ k => simp only [sumTo]; omega
def sumS (s : ByteArray) : Int := sumTo s s.size
def sumC (s : ByteArray) : Int := if s.size ≤ 65536 then sumS s else 0
theorem sumC_long {s : ByteArray} (h : 65536 < s.size) : sumC s = 0 := if_neg (by omega)
theorem sumC_short {s : ByteArray} (h : s.size ≤ 65536) : sumC s = sumS s := if_pos h

theorem prod_le {k : Nat} (hk : k ≤ 1048576) (b : UInt8) : 0 ≤ ((k : Int) + 1) * ((b.toNat : Int) + 1) ∧ ((k : Int) + 1) * ((b.toNat : Int) + 1) ≤ 268435712 := by
  have h1 := byte_le b
  have h2 : ((k : Int) + 1) * ((b.toNat : Int) + 1) ≤ ((k : Int) + 1) * 256 := Int.mul_le_mul_of_nonneg_left (by omega) (by omega)
  exact ⟨Int.mul_nonneg (by omega) (by omega), by omega⟩
theorem sumTo_succ {s : ByteArray} {k : Nat} (h : k < s.size) (hk : k ≤ 1048576) : (sumTo s k + ((k : Int) + 1) * ((s[k].toNat : Int) + 1)).tmod 251 = sumTo s (k + 1) := by
  have h1 := sumTo_in s k
  have h2 := prod_le hk s[k]
  rw [Int.tmod_eq_emod_of_nonneg (by omega), sumTo, byteAt_get h]
theorem wrap_id {x : Int} (h : -9223372036854775808 ≤ x) (h' : x ≤ 9223372036854775807) : wrap64 x = x := by simp only [wrap64]; omega
theorem sumTo_walk {s : ByteArray} {k : Nat} (h : k < s.size) (hk : k ≤ 1048576) : (wrap64 (sumTo s k + wrap64 (((k : Int) + 1) * wrap64 (wrap64 (s[k].toNat : Int) + 1)))).tmod 251 = sumTo s (k + 1) := by
  have h1 := sumTo_in s k
  have h2 := prod_le hk s[k]
  have h3 := byte_le s[k]
  rw [wrap_id (x := (s[k].toNat : Int)) (by omega) (by omega), wrap_id (x := (s[k].toNat : Int) + 1) (by omega) (by omega), wrap_id (x := ((k : Int) + 1) * ((s[k].toNat : Int) + 1)) (by omega) (by omega), wrap_id (by omega) (by omega)]
  exact sumTo_succ h hk

end Go.Proofs.Ytlhinknmbgijeab
