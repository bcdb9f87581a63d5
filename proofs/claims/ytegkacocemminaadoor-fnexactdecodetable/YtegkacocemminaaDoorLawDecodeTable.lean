/- The walk of laws.FnExactDecodeTable. -/
import Derived.Test.YtegkacocemminaaDoorRows
import Derived.Test.YtegkacocemminaaDoorGen
import Derived.Test.YtegkacocemminaaDoorKeep
import Derived.Test.YtegkacocemminaaDoorInts
import Derived.Test.YtegkacocemminaaDoorEqN
import Derived.Test.YtegkacocemminaaDoorMarkN
import Derived.Test.YtegkacocemminaaDoorTbS
import Derived.Test.YtegkacocemminaaDoorTbD
import Derived.Test.YtegkacocemminaaDoorLawN
import Derived.WalkKit
import Derived.WalkSpells
namespace Go.Proofs.YtegkacocemminaaDoor
open Go.RowKit
set_option linter.unusedVariables false
set_option maxRecDepth 100000

set_option maxHeartbeats 1600000 in
theorem lawDecodeTable (s : ByteArray) (w : World) (hs : s.size ≤ maxLen) (hE : ErrW w) :
    Calls Tryd.prog 3 #[.string s] w fun e w' => e = .returned (.bool true) ∧ Below w.heap.size w w' := by
  have HE := hide hE
  clear hE
  unfold maxLen at hs
  by_cases h : 1048576 < s.size
  · go_enter Tryd.func3, Tryd.ntmps3
    go_wp2
    go_ret
    exact ⟨rfl, Below.refl _ _⟩
  have HLN := hide (tdR_len s)
  have he := eqNB_self (tdR s)
  go_enter Tryd.func3, Tryd.ntmps3
  go_wp2_with fail
  refine (decodeTable_spec s _).mono ?_
  rintro e w1 ⟨v0, rfl, ⟨qo0, qa0, rfl, ho0⟩, hb1⟩
  have HB1 := hide hb1
  have HO1 := hide ho0
  have HE1 := hide ((unhide HE).below hb1)
  clear hb1 ho0
  go_wp2_with fail
  refine (decodeTable_impl s _ (unhide HE1)).mono ?_
  rintro e w2 ⟨v1, rfl, ⟨qo1, qa1, rfl, ho1⟩, hb2⟩
  have HB2 := hide (fr (unhide HB1) hb2)
  have HO2 := hide ((unhide HO1).below hb2)
  have HG2 := hide ho1
  have HE2 := hide ((unhide HE1).below hb2)
  have HLT := hide (fun k hk => (unhide HO1).ge k hk)
  clear hb2 ho1
  go_wp2_with fail
  refine (eqIntS_any _ _ _ _ (tdR s) (tdR s) _ (by have := unhide HLN; unfold maxLen; omega) (ownRN (unhide HG2)) (ownRN (unhide HO2))).mono ?_
  rintro e w3 ⟨rfl, hb3⟩
  have HB3 := hide (fr (unhide HB2) hb3)
  have HO3 := hide ((unhide HO2).below hb3)
  have HG3 := hide ((unhide HG2).below hb3)
  have HE3 := hide ((unhide HE2).below hb3)
  clear hb3
  go_wp2_with fail
  refine (markIntS_any _ (tdR s).length 1 _ _ _ (by have := unhide HLN; omega) (by omega) (by omega) (unhide HG3)).mono ?_
  rintro e w4 ⟨rfl, ho4, hk4⟩
  have HG4 := hide ho4
  have HO4 := hide ((unhide HO3).keep hk4 (fun g hg hS => by have h1 := ((unhide HLT) g hg).2; have h2 := ((unhide HG3).ge g hS).1; omega))
  have HE4 := hide ((unhide HE3).keep hk4 (fun g hS => .inr (by have h1 := (unhide HE1).pos; have h2 := ((unhide HG3).ge g hS).1; omega)))
  have HB4 := hide ((unhide HB3).trans (hk4.below (unhide HB3).size (fun g hS => by have h1 := ((unhide HG3).ge g hS).1; have h2 := (unhide HB1).size; omega)))
  clear ho4 hk4
  go_wp2_with fail
  refine (heldIntS_any _ (tdR s).length 1 _ _ (by have := unhide HLN; omega) (by omega) (by omega) (unhide HG4)).mono ?_
  rintro e w5 ⟨rfl, hb5⟩
  have HB5 := hide (fr (unhide HB4) hb5)
  have HO5 := hide ((unhide HO4).below hb5)
  have HG5 := hide ((unhide HG4).below hb5)
  have HE5 := hide ((unhide HE4).below hb5)
  clear hb5
  have hq0 : ¬ (((1 + (tdR s).length : Nat) : Int) < 0) := by omega
  go_wp2_with fail
  refine (decodeTable_impl s _ (unhide HE5)).mono ?_
  rintro e w6 ⟨v6, rfl, ⟨qo6, qa6, rfl, ho6⟩, hb6⟩
  have HB6 := hide (fr (unhide HB5) hb6)
  have HO6 := hide ((unhide HO5).below hb6)
  have HG6 := hide ((unhide HG5).below hb6)
  have HH6 := hide ho6
  clear hb6 ho6
  go_wp2_with fail
  refine (eqIntS_any _ _ _ _ (tdR s) (tdR s) _ (by have := unhide HLN; unfold maxLen; omega) (ownRN (unhide HH6)) (ownRN (unhide HO6))).mono ?_
  rintro e w7 ⟨rfl, hb7⟩
  have HB7 := hide (fr (unhide HB6) hb7)
  have HG7 := hide ((unhide HG6).below hb7)
  clear hb7
  go_wp2_with fail
  refine (heldIntS_any _ (tdR s).length 1 _ _ (by have := unhide HLN; omega) (by omega) (by omega) (unhide HG7)).mono ?_
  rintro e w8 ⟨rfl, hb8⟩
  have HB8 := hide (fr (unhide HB7) hb8)
  clear hb8
  go_wp2
  go_ret
  exact ⟨rfl, unhide HB8⟩

end Go.Proofs.YtegkacocemminaaDoor
