/- The walk of laws.FnInts. -/
import Derived.Test.YtlhinknmbgijeaaDoorRows
import Derived.Test.YtlhinknmbgijeaaDoorGen
import Derived.Test.YtlhinknmbgijeaaDoorKeep
import Derived.Test.YtlhinknmbgijeaaDoorInts
import Derived.Test.YtlhinknmbgijeaaDoorOwnN
import Derived.Test.YtlhinknmbgijeaaDoorPackX
import Derived.Test.YtlhinknmbgijeaaDoorUnPk
import Derived.Test.YtlhinknmbgijeaaDoorUnpackI
import Derived.Test.YtlhinknmbgijeaaDoorSrc
import Derived.Test.YtlhinknmbgijeaaDoorSrcN
import Derived.Test.YtlhinknmbgijeaaDoorSameN
import Derived.WalkKit
import Derived.WalkSpells
namespace Go.Proofs.YtlhinknmbgijeaaDoor
open Go.RowKit
set_option linter.unusedVariables false
set_option maxRecDepth 100000

set_option maxHeartbeats 1600000 in
theorem lawInts (ao : Option Addr) (ca n : Nat) (w : World) (hn : n ≤ maxLen) (hB : Bs w ao n) (hE : ErrW w) :
    Calls Tryd.prog 3 #[.slice ao n ca] w fun e w' => e = .returned (.bool true) ∧ Below w.heap.size w w' := by
  have HE := hide hE
  have HBS := hide hB
  clear hE hB
  unfold maxLen at hn
  by_cases h : 1048576 < n
  · go_enter Tryd.func3, Tryd.ntmps3
    go_wp2
    go_ret
    exact ⟨rfl, Below.refl _ _⟩
  have hn' : n ≤ 1048576 := by omega
  go_enter Tryd.func3, Tryd.ntmps3
  go_wp2_with fail
  refine (numbersOf_any ao n ca _ hn' (unhide HBS)).mono ?_
  rintro e w1 ⟨v, xs, rfl, ⟨qo, qa, rfl, ho1⟩, hall, hlen, hb1⟩
  have HB1 := hide hb1
  have HI1 := hide (ownRN ho1)
  have HE1 := hide ((unhide HE).below hb1)
  have hl16 : xs.length ≤ 16 := by omega
  have HLC := hide (listC_ok (xs := xs) (by omega) (intsB_small hall hl16))
  have HPT := hide (packT_ok (unhide HLC))
  have HUC := hide (unC_pack hall hl16)
  have HUR := hide (unR_pack hall hl16)
  have hpz := packS_size xs
  have HX := hide (unC_long_by (s := packS xs ++ (⟨#[120]⟩ : ByteArray)) (by rw [ByteArray.size_append, hpz]; show ¬ (xs.length * 4 + 1) % 4 = 0; omega) (by rw [ByteArray.size_append, hpz]; show xs.length * 4 + 1 ≤ 65536; omega))
  have HALL := hide hall
  clear hb1 ho1 hall
  have heq := eqNB_self xs
  go_wp2_with fail
  refine (packInts_impl _ _ xs _ (by omega) (unhide HI1)).mono ?_
  rw [unhide HLC, unhide HPT]
  rintro e w2 ⟨rfl, hb2⟩
  have HB2 := hide (fr (unhide HB1) hb2)
  have HI2 := hide ((unhide HI1).below hb2)
  have HE2 := hide ((unhide HE1).below hb2)
  clear hb2
  go_wp2_with fail
  refine (packInts_spec _ _ xs _ (by omega) (unhide HI2)).mono ?_
  rw [unhide HLC, unhide HPT]
  rintro e w3 ⟨rfl, hb3⟩
  have HB3 := hide (fr (unhide HB2) hb3)
  have HI3 := hide ((unhide HI2).below hb3)
  have HE3 := hide ((unhide HE2).below hb3)
  clear hb3
  go_wp2_with fail
  refine (unpackInts_impl (packS xs) _ (unhide HE3)).mono ?_
  rw [unhide HUC, unhide HUR]
  rintro e w4 ⟨v4, rfl, ⟨qo4, qa4, rfl, ho4⟩, hb4⟩
  have HB4 := hide (fr (unhide HB3) hb4)
  have HI4 := hide ((unhide HI3).below hb4)
  have HJ4 := hide (ownRN ho4)
  have HE4 := hide ((unhide HE3).below hb4)
  clear hb4 ho4
  go_wp2_with fail
  refine (unpackInts_impl (packS xs ++ (⟨#[120]⟩ : ByteArray)) _ (unhide HE4)).mono ?_
  rw [unhide HX]
  rintro e w5 ⟨v5, rfl, ho5, hb5⟩
  have HB5 := hide (fr (unhide HB4) hb5)
  have HI5 := hide ((unhide HI4).below hb5)
  have HJ5 := hide ((unhide HJ4).below hb5)
  clear hb5 ho5
  have hq : ((((xs.length * 4 : Nat)) : Int) == 4 * (xs.length : Int)) = true := by simp; omega
  go_wp2_with (go_at_call 10; refine (sameInts_any _ _ _ _ xs xs _ (by unfold maxLen; omega) (unhide HJ5) (unhide HI5)).mono ?_; rintro e w6 ⟨rfl, hb6⟩; have HB6 := hide (fr (unhide HB5) hb6); clear hb6)
  go_ret
  exact ⟨rfl, unhide HB6⟩

end Go.Proofs.YtlhinknmbgijeaaDoor
