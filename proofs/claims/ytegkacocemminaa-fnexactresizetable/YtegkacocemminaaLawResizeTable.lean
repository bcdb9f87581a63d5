/- The walk of laws.FnExactResizeTable. -/
import Derived.Test.YtegkacocemminaaRows
import Derived.Test.YtegkacocemminaaGen
import Derived.Test.YtegkacocemminaaKeep
import Derived.Test.YtegkacocemminaaInts
import Derived.Test.YtegkacocemminaaOwnN
import Derived.Test.YtegkacocemminaaEqN
import Derived.Test.YtegkacocemminaaToInts
import Derived.Test.YtegkacocemminaaMarkN
import Derived.Test.YtegkacocemminaaTbP
import Derived.Test.YtegkacocemminaaTbR
import Derived.Test.YtegkacocemminaaTbT
import Derived.WalkKit
import Derived.WalkSpells
import Derived.Deep.RegionWith
namespace Go.Proofs.Ytegkacocemminaa
open Go.RowKit
set_option linter.unusedVariables false
set_option maxRecDepth 100000

set_option maxHeartbeats 3200000 in
theorem lawResizeTable (ao : Option Addr) (ca : Nat) (xs : List Int) (c : Int) (w : World) (hl : xs.length ≤ maxLen) (hc : Is w ao xs) :
    Calls Try.prog 6 #[.slice ao xs.length ca, .int .i64 c] w fun e w' => e = .returned (.bool true) ∧ Below w.heap.size w w' := by
  have HC := hide hc
  have HM := hide hl
  clear hc
  unfold maxLen at hl
  by_cases h : 1048576 < xs.length
  · go_enter Try.func6, Try.ntmps6
    go_wp2
    go_ret
    exact ⟨rfl, Below.refl _ _⟩
  have hls : xs.length ≤ 1048576 := by omega
  have HLN := hide (rzL_len xs c)
  have he := eqNB_self xs
  have he2 := eqNB_self (rzL xs c)
  go_enter Try.func6, Try.ntmps6
  go_wp2_with fail
  refine (toIntS_any ao ca xs _ hls (unhide HC)).mono ?_
  rintro e w1 ⟨g1, rfl, ho1, hb1⟩
  have HB1 := hide hb1
  have HO1 := hide (ownN ho1)
  clear hb1 ho1
  go_wp2_with fail
  refine (resizeTable_spec _ _ xs c _ (unhide HM) (unhide HO1)).mono ?_
  rintro e w2 ⟨v0, rfl, ⟨qo0, qa0, rfl, ho⟩, hb2⟩
  have HB2 := hide (fr (unhide HB1) hb2)
  have HS2 := hide ho
  clear hb2 ho
  go_wp2_with fail
  refine (toIntS_any ao ca xs _ hls ((unhide HC).below (unhide HB2))).mono ?_
  rintro e w3 ⟨g3, rfl, ho3, hb3⟩
  have HB3 := hide (fr (unhide HB2) hb3)
  have HX3 := hide ho3
  have HS3 := hide ((unhide HS2).below hb3)
  have HLT := hide (fun k hk => (unhide HS2).ge k hk)
  have HSZ := hide hb3.size
  clear hb3 ho3
  go_wp2_with fail
  refine (resizeTable_impl _ _ xs c _ (unhide HM) (ownN (unhide HX3))).mono ?_
  rintro e w4 ⟨v1, rfl, ⟨qo1, qa1, rfl, ho⟩, hb4⟩
  have HB4 := hide (fr (unhide HB3) hb4)
  have HX4 := hide (own_below (unhide HX3) hb4)
  have HS4 := hide ((unhide HS3).below hb4)
  have HG4 := hide ho
  clear hb4 ho
  go_wp2_with fail
  refine (eqIntS_any _ _ _ _ (rzL xs c) (rzL xs c) _ (by have := unhide HLN; unfold maxLen; omega) (ownRN (unhide HG4)) (ownRN (unhide HS4))).mono ?_
  rintro e w5 ⟨rfl, hb5⟩
  have HB5 := hide (fr (unhide HB4) hb5)
  have HX5 := hide (own_below (unhide HX4) hb5)
  have HS5 := hide ((unhide HS4).below hb5)
  have HG5 := hide ((unhide HG4).below hb5)
  clear hb5
  go_wp2_with fail
  refine (toIntS_any ao ca xs _ hls ((unhide HC).below (unhide HB5))).mono ?_
  rintro e w6 ⟨g6, rfl, ho6, hb6⟩
  have HB6 := hide (fr (unhide HB5) hb6)
  have HX6 := hide (own_below (unhide HX5) hb6)
  have HS6 := hide ((unhide HS5).below hb6)
  have HG6 := hide ((unhide HG5).below hb6)
  have HY6 := hide (ownN ho6)
  clear hb6 ho6
  go_wp2_with fail
  refine (eqIntS_any _ _ _ _ xs xs _ (by unfold maxLen; omega) (ownN (unhide HX6)) (unhide HY6)).mono ?_
  rintro e w7 ⟨rfl, hb7⟩
  have HB7 := hide (fr (unhide HB6) hb7)
  have HX7 := hide (OwnR.of (own_below (unhide HX6) hb7) (fun h => ⟨_, by rw [h]⟩))
  have HS7 := hide ((unhide HS6).below hb7)
  have HG7 := hide ((unhide HG6).below hb7)
  clear hb7
  go_wp2_with fail
  refine (markIntS_any _ xs.length 1 _ _ _ (by omega) (by omega) (by omega) (unhide HX7)).mono ?_
  rintro e w8 ⟨rfl, _, hk8⟩
  have HS8 := hide ((unhide HS7).keep hk8 (fun g hg hS => by have h1 := ((unhide HLT) g hg).2; have h2 := ((unhide HX7).ge g hS).1; omega))
  have HG8 := hide ((unhide HG7).keep hk8 (fun g hg hS => by
    have h1 := ((unhide HG4).ge g hg).1
    have h3 := ((OwnR.of (unhide HX3) (fun h => ⟨_, by rw [h]⟩)).ge g hS).2
    omega))
  have HB8 := hide ((unhide HB7).trans (hk8.below (unhide HB7).size (fun g hS => by have h1 := ((unhide HX7).ge g hS).1; have h2 := (unhide HB2).size; omega)))
  clear hk8
  have hq1 : ¬ (((1 + xs.length : Nat) : Int) < 0) := by omega
  go_wp2_with fail
  refine (eqIntS_any _ _ _ _ (rzL xs c) (rzL xs c) _ (by have := unhide HLN; unfold maxLen; omega) (ownRN (unhide HG8)) (ownRN (unhide HS8))).mono ?_
  rintro e w9 ⟨rfl, hb9⟩
  have HB9 := hide (fr (unhide HB8) hb9)
  have HS9 := hide ((unhide HS8).below hb9)
  have HG9 := hide ((unhide HG8).below hb9)
  clear hb9
  go_wp2_with fail
  refine (markIntS_any _ (rzL xs c).length 1 _ _ _ (by have := unhide HLN; omega) (by omega) (by omega) (unhide HG9)).mono ?_
  rintro e w10 ⟨rfl, ho10, hk10⟩
  have HG10 := hide ho10
  have HS10 := hide ((unhide HS9).keep hk10 (fun g hg hS => by have h1 := ((unhide HLT) g hg).2; have h2 := ((unhide HG9).ge g hS).1; have h3 := unhide HSZ; omega))
  have HB10 := hide ((unhide HB9).trans (hk10.below (unhide HB9).size (fun g hS => by have h1 := ((unhide HG9).ge g hS).1; have h2 := (unhide HB3).size; omega)))
  clear ho10 hk10
  go_wp2_with fail
  refine (heldIntS_any _ (rzL xs c).length 1 _ _ (by have := unhide HLN; omega) (by omega) (by omega) (unhide HG10)).mono ?_
  rintro e w11 ⟨rfl, hb11⟩
  have HB11 := hide (fr (unhide HB10) hb11)
  have HS11 := hide ((unhide HS10).below hb11)
  have HG11 := hide ((unhide HG10).below hb11)
  clear hb11
  have hq0 : ¬ (((1 + (rzL xs c).length : Nat) : Int) < 0) := by omega
  go_wp2_with fail
  refine (toIntS_any ao ca xs _ hls ((unhide HC).below (unhide HB11))).mono ?_
  rintro e w12 ⟨g12, rfl, ho12, hb12⟩
  have HB12 := hide (fr (unhide HB11) hb12)
  have HS12 := hide ((unhide HS11).below hb12)
  have HG12 := hide ((unhide HG11).below hb12)
  have HY12 := hide (ownN ho12)
  clear hb12 ho12
  go_wp2_with fail
  refine (resizeTable_impl _ _ xs c _ (unhide HM) (unhide HY12)).mono ?_
  rintro e w13 ⟨v13, rfl, ⟨qo13, qa13, rfl, ho⟩, hb13⟩
  have HB13 := hide (fr (unhide HB12) hb13)
  have HS13 := hide ((unhide HS12).below hb13)
  have HG13 := hide ((unhide HG12).below hb13)
  have HH13 := hide ho
  clear hb13 ho
  go_wp2_with fail
  refine (eqIntS_any _ _ _ _ (rzL xs c) (rzL xs c) _ (by have := unhide HLN; unfold maxLen; omega) (ownRN (unhide HH13)) (ownRN (unhide HS13))).mono ?_
  rintro e w14 ⟨rfl, hb14⟩
  have HB14 := hide (fr (unhide HB13) hb14)
  have HG14 := hide ((unhide HG13).below hb14)
  clear hb14
  go_wp2_with fail
  refine (heldIntS_any _ (rzL xs c).length 1 _ _ (by have := unhide HLN; omega) (by omega) (by omega) (unhide HG14)).mono ?_
  rintro e w15 ⟨rfl, hb15⟩
  have HB15 := hide (fr (unhide HB14) hb15)
  clear hb15
  go_wp2
  go_ret
  exact ⟨rfl, unhide HB15⟩

end Go.Proofs.Ytegkacocemminaa
