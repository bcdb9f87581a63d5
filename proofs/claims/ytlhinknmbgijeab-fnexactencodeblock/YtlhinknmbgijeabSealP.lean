/- Plain facts on records, of no program: kinds, the text of a record. -/
import Derived.Test.YtlhinknmbgijeabGen
import Derived.Test.YtlhinknmbgijeabKeep
import Derived.Test.YtlhinknmbgijeabRec
import Derived.Test.YtlhinknmbgijeabInts
import Derived.WalkKit
import Derived.Laws.BytesArg
namespace Go.Proofs.Ytlhinknmbgijeab
open Go.RowKit

theorem nums_append (a b : List Int) : strOfNums (a ++ b) = strOfNums a ++ strOfNums b := by
  apply ByteArray.ext
  simp [strOfNums]

def kindB (k : Int) : Bool := inB k 1 9
theorem kindB_in {k : Int} (h : kindB k = true) : 1 ≤ k ∧ k ≤ 9 := by simpa [kindB, inB] using h
theorem kindB_out {k : Int} (h : kindB k = false) : ¬ (1 ≤ k ∧ k ≤ 9) := by simpa [kindB, inB] using h
/-- What a record's sum is taken of, its sum, its text. -/
def sumT (k : Int) (xs : List Int) : ByteArray := strOfNums [k, xs.length] ++ packS xs
def sumR (k : Int) (xs : List Int) : Int := sumS (sumT k xs)
def headR (k : Int) (xs : List Int) : List Int := [k, xs.length, sumR k xs, 0]
def sealS (k : Int) (xs : List Int) : ByteArray := strOfNums (headR k xs) ++ packS xs
theorem sumT_size (k : Int) (xs : List Int) : (sumT k xs).size = 2 + xs.length * 4 := by rw [sumT, ByteArray.size_append, strOfNums_size, packS_size]; rfl
theorem sealS_size (k : Int) (xs : List Int) : (sealS k xs).size = 4 + xs.length * 4 := by rw [sealS, ByteArray.size_append, strOfNums_size, packS_size]; rfl
theorem sumR_in (k : Int) (xs : List Int) : 0 ≤ sumR k xs ∧ sumR k xs ≤ 250 := sumTo_in _ _
theorem sealS_parts (k : Int) (xs : List Int) : strOfNums [k, (xs.length : Int)] ++ strOfNums [sumR k xs, 0] ++ packS xs = sealS k xs := by
  rw [← nums_append]; rfl

/-- The code of a record that is to be sealed, its text. -/
def sealC (k : Int) (xs : List Int) : Int := if listC xs = 0 then (if kindB k = true then 0 else 4) else listC xs
def sealT (k : Int) (xs : List Int) : ByteArray := if sealC k xs = 0 then sealS k xs else ⟨#[]⟩
theorem sealC_list {k : Int} {xs : List Int} (h : listC xs ≠ 0) : sealC k xs = listC xs := if_neg h
theorem sealC_kind {k : Int} {xs : List Int} (h : listC xs = 0) (hk : kindB k = false) : sealC k xs = 4 := by rw [sealC, if_pos h, if_neg (by simp [hk])]
theorem sealC_ok {k : Int} {xs : List Int} (h : listC xs = 0) (hk : kindB k = true) : sealC k xs = 0 := by rw [sealC, if_pos h, if_pos hk]
theorem sealT_ok {k : Int} {xs : List Int} (h : sealC k xs = 0) : sealT k xs = sealS k xs := if_pos h
theorem sealT_no {k : Int} {xs : List Int} (h : sealC k xs ≠ 0) : sealT k xs = ⟨#[]⟩ := if_neg h

end Go.Proofs.Ytlhinknmbgijeab
