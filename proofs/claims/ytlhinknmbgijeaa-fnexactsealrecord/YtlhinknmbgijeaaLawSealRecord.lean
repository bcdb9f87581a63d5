/- The walk of laws.FnExactSealRecord. -/
import Derived.Test.YtlhinknmbgijeaaRows
import Derived.Test.YtlhinknmbgijeaaGen
import Derived.Test.YtlhinknmbgijeaaInts
import Derived.Test.YtlhinknmbgijeaaToInts
import Derived.Test.YtlhinknmbgijeaaSeal
import Derived.WalkKit
import Derived.WalkSpells
import Derived.Deep.RegionWith
namespace Go.Proofs.Ytlhinknmbgijeaa
open Go.RowKit
set_option linter.unusedVariables false
set_option maxRecDepth 100000

set_option maxHeartbeats 1600000 in
theorem lawSealRecord (k : Int) (ao : Option Addr) (ca : Nat) (xs : List Int) (w : World) (_ : (Lit.int .i64 k).wf = true) (hl : xs.length ≤ maxLen) (hc : Is w ao xs) :
    Calls Try.prog 4 #[.int .i64 k, .slice ao xs.length ca] w fun e w' => e = .returned (.bool true) ∧ Below w.heap.size w w' := by
  have HC := hide hc
  clear hc
  unfold maxLen at hl
  by_cases h : 1048576 < xs.length
  · go_enter Try.func4, Try.ntmps4
    go_wp2
    go_ret
    exact ⟨rfl, Below.refl _ _⟩
  have hls : xs.length ≤ 1048576 := by omega
  have he := eqNB_self xs
  go_enter Try.func4, Try.ntmps4
  go_wp2_with fail
  refine (toIntS_any ao ca xs _ hls (unhide HC)).mono ?_
  rintro e w1 ⟨g1, rfl, ho1, hb1⟩
  have HB1 := hide hb1
  have HO1 := hide (ownN ho1)
  clear hb1 ho1
  go_wp2_with fail
  refine (sealRecord_spec k _ _ xs _ hls (unhide HO1)).mono ?_
  rintro e w2 ⟨rfl, hb2⟩
  have HB2 := hide (fr (unhide HB1) hb2)
  clear hb2
  go_wp2_with fail
  refine (toIntS_any ao ca xs _ hls ((unhide HC).below (unhide HB2))).mono ?_
  rintro e w3 ⟨g3, rfl, ho3, hb3⟩
  have HB3 := hide (fr (unhide HB2) hb3)
  have HO3 := hide (ownN ho3)
  clear hb3 ho3
  go_wp2_with fail
  refine (sealRecord_impl k _ _ xs _ hls (unhide HO3)).mono ?_
  rintro e w4 ⟨rfl, hb4⟩
  have HB4 := hide (fr (unhide HB3) hb4)
  have HO4 := hide ((unhide HO3).below hb4)
  clear hb4
  go_wp2_with fail
  refine (toIntS_any ao ca xs _ hls ((unhide HC).below (unhide HB4))).mono ?_
  rintro e w5 ⟨g5, rfl, ho5, hb5⟩
  have HB5 := hide (fr (unhide HB4) hb5)
  have HO5 := hide ((unhide HO4).below hb5)
  have HO6 := hide (ownN ho5)
  clear hb5 ho5
  go_wp2_with fail
  refine (eqIntS_any _ _ _ _ xs xs _ (by unfold maxLen; omega) (unhide HO5) (unhide HO6)).mono ?_
  rintro e w6 ⟨rfl, hb6⟩
  have HB6 := hide (fr (unhide HB5) hb6)
  clear hb6
  go_wp2
  go_ret
  exact ⟨rfl, unhide HB6⟩

end Go.Proofs.Ytlhinknmbgijeaa
