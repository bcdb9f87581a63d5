/- The walk of laws.FnRecords. -/
import Derived.Test.YtlhinknmbgijeaaDoorRows
import Derived.Test.YtlhinknmbgijeaaDoorGen
import Derived.Test.YtlhinknmbgijeaaDoorKeep
import Derived.Test.YtlhinknmbgijeaaDoorInts
import Derived.Test.YtlhinknmbgijeaaDoorOwnN
import Derived.Test.YtlhinknmbgijeaaDoorSum
import Derived.Test.YtlhinknmbgijeaaDoorSumX
import Derived.Test.YtlhinknmbgijeaaDoorSeal
import Derived.Test.YtlhinknmbgijeaaDoorUnPk
import Derived.Test.YtlhinknmbgijeaaDoorTextO
import Derived.Test.YtlhinknmbgijeaaDoorTextK
import Derived.Test.YtlhinknmbgijeaaDoorSrc
import Derived.Test.YtlhinknmbgijeaaDoorSrcN
import Derived.Test.YtlhinknmbgijeaaDoorSameN
import Derived.Test.YtlhinknmbgijeaaDoorAtN
import Derived.WalkKit
import Derived.WalkSpells
namespace Go.Proofs.YtlhinknmbgijeaaDoor
open Go.RowKit
set_option linter.unusedVariables false
set_option maxRecDepth 100000

set_option maxHeartbeats 3200000 in
theorem lawRecords (ao : Option Addr) (ca n : Nat) (bo : Option Addr) (cb l : Nat) (w : World) (hn : n ≤ maxLen) (hB : Bs w ao n) (hl : l ≤ maxLen) (hC : Bs w bo l) (hE : ErrW w) :
    Calls Tryd.prog 4 #[.slice ao n ca, .slice bo l cb] w fun e w' => e = .returned (.bool true) ∧ Below w.heap.size w w' := by
  have HE := hide hE
  have HBS := hide hB
  have HCS := hide hC
  clear hE hB hC
  unfold maxLen at hn hl
  by_cases h : 1048576 < n
  · go_enter Tryd.func4, Tryd.ntmps4
    go_wp2
    go_ret
    exact ⟨rfl, Below.refl _ _⟩
  by_cases h2 : 1048576 < l
  · go_enter Tryd.func4, Tryd.ntmps4
    go_wp2
    go_ret
    exact ⟨rfl, Below.refl _ _⟩
  have hn' : n ≤ 1048576 := by omega
  have hl' : l ≤ 1048576 := by omega
  go_enter Tryd.func4, Tryd.ntmps4
  go_wp2_with fail
  refine (numbersOf_any ao n ca _ hn' (unhide HBS)).mono ?_
  rintro e w1 ⟨v, xs, rfl, ⟨qo, qa, rfl, ho1⟩, hall, hlen, hb1⟩
  have HB1 := hide hb1
  have HI1 := hide (ownRN ho1)
  clear hb1 ho1
  go_wp2_with fail
  refine (at_any bo l cb 0 9 _ hl' (by omega) (by omega) (by omega) (by omega) ((unhide HCS).below (unhide HB1))).mono ?_
  rintro e w2 ⟨r, rfl, hr0, hr1, hb2⟩
  have HB2 := hide (fr (unhide HB1) hb2)
  have HI2 := hide ((unhide HI1).below hb2)
  clear hb2
  have hl16 : xs.length ≤ 16 := by omega
  have hk : 1 ≤ 1 + r ∧ 1 + r ≤ 9 := by omega
  have hk' : 1 ≤ (1 + r) % 9 + 1 ∧ (1 + r) % 9 + 1 ≤ 9 := by omega
  have HSC := hide (sealC_ok (k := 1 + r) (xs := xs) (listC_ok (by omega) (intsB_small hall hl16)) (kindB_of hk))
  have HST := hide (sealT_ok (unhide HSC))
  have HOC := hide (opC_seal hk hall hl16)
  have HOR := hide (opR_seal hk hall hl16)
  have HOD := hide (opC_other (xs := xs) hk hk' (by omega) hl16)
  have HKC := hide (kdC_seal hk hall hl16)
  have HKR := hide (kdR_seal hk hall hl16)
  have HCUT := hide (fun q (hq : q < 4 + xs.length * 4) => opC_cut (k := 1 + r) (xs := xs) (q := q) hk hl16 hq)
  have HDRN := hide (opC_drawn (k := 1 + r) (xs := xs) (t := ⟨#[120]⟩) rfl hk hl16)
  have hsz := sealS_size (1 + r) xs
  clear hall
  have heq := eqNB_self xs
  go_wp2_with fail
  refine (sealRecord_impl (1 + r) _ _ xs _ (by omega) (unhide HI2)).mono ?_
  rw [unhide HSC, unhide HST]
  rintro e w3 ⟨rfl, hb3⟩
  have HB3 := hide (fr (unhide HB2) hb3)
  have HI3 := hide ((unhide HI2).below hb3)
  clear hb3
  go_wp2_with fail
  refine (sealRecord_spec (1 + r) _ _ xs _ (by omega) (unhide HI3)).mono ?_
  rw [unhide HSC, unhide HST]
  rintro e w4 ⟨rfl, hb4⟩
  have HB4 := hide (fr (unhide HB3) hb4)
  have HI4 := hide ((unhide HI3).below hb4)
  clear hb4
  go_wp2_with fail
  refine (openRecord_impl (sealS (1 + r) xs) (1 + r) _ ((unhide HE).below (unhide HB4))).mono ?_
  rw [unhide HOC, unhide HOR]
  rintro e w5 ⟨v5, rfl, ⟨qo5, qa5, rfl, ho5⟩, hb5⟩
  have HB5 := hide (fr (unhide HB4) hb5)
  have HI5 := hide ((unhide HI4).below hb5)
  have HJ5 := hide (ownRN ho5)
  clear hb5 ho5
  go_wp2_with fail
  refine (openRecord_impl (sealS (1 + r) xs) ((1 + r) % 9 + 1) _ ((unhide HE).below (unhide HB5))).mono ?_
  rw [unhide HOD]
  rintro e w6 ⟨v6, rfl, ho6, hb6⟩
  have HB6 := hide (fr (unhide HB5) hb6)
  have HI6 := hide ((unhide HI5).below hb6)
  have HJ6 := hide ((unhide HJ5).below hb6)
  clear hb6 ho6
  have hq : ((((4 + xs.length * 4 : Nat)) : Int) != 4 + 4 * (xs.length : Int)) = false := by simp; omega
  go_wp2_with (go_at_call 10; refine (sameInts_any _ _ _ _ xs xs _ (by unfold maxLen; omega) (unhide HJ6) (unhide HI6)).mono ?_; rintro e w7 ⟨rfl, hb7⟩; have HB7 := hide (fr (unhide HB6) hb7); clear hb7)
  refine (kindOf_impl (sealS (1 + r) xs) _ ((unhide HE).below (unhide HB7))).mono ?_
  rw [unhide HKC, unhide HKR]
  rintro e w8 ⟨rfl, hb8⟩
  have HB8 := hide (fr (unhide HB7) hb8)
  clear hb8
  go_wp2_with fail
  refine (at_any bo l cb 1 _ _ hl' (by omega) (by omega) (by omega) (by omega) ((unhide HCS).below (unhide HB8))).mono ?_
  rintro e w9 ⟨q, rfl, hq0, hq1, hb9⟩
  have HB9 := hide (fr (unhide HB8) hb9)
  clear hb9
  obtain ⟨qn, rfl⟩ := Int.eq_ofNat_of_zero_le hq0
  have HCQ := hide (unhide HCUT qn (by omega))
  go_wp2_with fail
  refine (openRecord_impl ((sealS (1 + r) xs).extract 0 qn) (1 + r) _ ((unhide HE).below (unhide HB9))).mono ?_
  rw [unhide HCQ]
  rintro e w10 ⟨v10, rfl, ho10, hb10⟩
  have HB10 := hide (fr (unhide HB9) hb10)
  clear hb10 ho10
  go_wp2_with fail
  refine (openRecord_impl (sealS (1 + r) xs ++ (⟨#[120]⟩ : ByteArray)) (1 + r) _ ((unhide HE).below (unhide HB10))).mono ?_
  rw [unhide HDRN]
  rintro e w11 ⟨v11, rfl, ho11, hb11⟩
  have HB11 := hide (fr (unhide HB10) hb11)
  clear hb11 ho11
  go_wp2_with (first | (go_at_call 16; refine (sumOf_impl (sealS (1 + r) xs) _ (by omega)).mono ?_; rintro e w12 ⟨rfl, hw⟩; replace hw := hw.symm; subst hw) | (go_at_call 17; refine (sumOf_spec (sealS (1 + r) xs) _ (by omega)).mono ?_; rintro e w13 ⟨rfl, hw⟩; replace hw := hw.symm; subst hw))
  go_ret
  exact ⟨rfl, unhide HB11⟩

end Go.Proofs.YtlhinknmbgijeaaDoor
