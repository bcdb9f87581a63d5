/- Contracts of PackInts, of the program and of its model. -/
import Derived.Test.YtlhinknmbgijeaaDoorRows
import Derived.Test.YtlhinknmbgijeaaDoorGen
import Derived.Test.YtlhinknmbgijeaaDoorInts
import Derived.Test.YtlhinknmbgijeaaDoorNums
import Derived.Test.YtlhinknmbgijeaaDoorFault
import Derived.Test.YtlhinknmbgijeaaDoorPack
import Derived.Test.YtlhinknmbgijeaaDoorPackI
import Derived.Test.YtlhinknmbgijeaaDoorPackC
import Derived.WalkKit
import Derived.WalkSpells
namespace Go.Proofs.YtlhinknmbgijeaaDoor
open Go.RowKit
set_option linter.unusedVariables false
set_option maxRecDepth 100000

set_option maxHeartbeats 800000 in
theorem packInts_spec (ao : Option Addr) (cap : Nat) (xs : List Int) (w : World) (hl : xs.length ≤ 1048576) (hc : Is w ao xs) :
    Calls Tryd.prog 8 #[.slice ao xs.length cap] w fun e w' => e = .returned (.tuple #[.string (packT xs), .int .i64 (listC xs)]) ∧ Below w.heap.size w w' := by
  by_cases h1 : 4096 < xs.length
  · have HF := hide (listC_long h1)
    go_enter Tryd.func8, Tryd.ntmps8
    go_wp2
    go_ret2
    exact ⟨ret_si (packT_no (by rw [unhide HF]; decide)).symm (unhide HF).symm, Below.refl _ _⟩
  by_cases h2 : intsB xs = true
  · have HF := hide (listC_ok h1 h2)
    have HP := hide (intsB_parts h2)
    have HC := hide hc
    clear hc
    go_enter Tryd.func8, Tryd.ntmps8
    go_wp2_with (first | (go_at_call 30; refine (l02Ints_any _ _ xs _ hl (unhide HC)).mono ?_; rintro e w' ⟨rfl, rfl⟩) | (go_at_call 31; refine (l02Pack_any _ _ xs _ (by omega) (unhide HP).1 (unhide HC)).mono ?_; rintro e w' ⟨rfl, hb⟩))
    go_ret2
    exact ⟨ret_si (packT_ok (unhide HF)).symm (unhide HF).symm, by assumption⟩
  · have h3 : intsB xs = false := by simpa using h2
    have HF := hide (listC_bad h1 h3)
    have HC := hide hc
    clear hc h2
    go_enter Tryd.func8, Tryd.ntmps8
    go_wp2_with (go_at_call 30; refine (l02Ints_any _ _ xs _ hl (unhide HC)).mono ?_; rintro e w' ⟨rfl, rfl⟩)
    go_ret2
    exact ⟨ret_si (packT_no (by rw [unhide HF]; decide)).symm (unhide HF).symm, Below.refl _ _⟩

set_option maxHeartbeats 800000 in
theorem packInts_impl (ao : Option Addr) (cap : Nat) (xs : List Int) (w : World) (hl : xs.length ≤ 1048576) (hc : Is w ao xs) :
    Calls Tryd.prog 7 #[.slice ao xs.length cap] w fun e w' => e = .returned (.tuple #[.string (packT xs), .int .i64 (listC xs)]) ∧ Below w.heap.size w w' := by
  by_cases h2 : listC xs = 0
  · have HF := hide h2
    have hb : (listC xs != 0) = false := by simp [h2]
    have HP := hide (intsB_parts (listC_zero h2))
    have HC := hide hc
    clear hc h2
    go_enter Tryd.func7, Tryd.ntmps7
    go_wp2_with (first | (go_at_call 28; refine (listFault_any _ _ xs _ hl (unhide HC)).mono ?_; rintro e w' ⟨rfl, rfl⟩) | (go_at_call 29; refine (packNumbers_any _ _ xs _ (unhide HP).2 (unhide HP).1 (unhide HC)).mono ?_; rintro e w' ⟨rfl, hb⟩))
    go_ret2
    exact ⟨ret_si (packT_ok (unhide HF)).symm (unhide HF).symm, by assumption⟩
  · have HF := hide h2
    have hb : (listC xs != 0) = true := by simp [h2]
    have HC := hide hc
    clear hc h2
    go_enter Tryd.func7, Tryd.ntmps7
    go_wp2_with (go_at_call 28; refine (listFault_any _ _ xs _ hl (unhide HC)).mono ?_; rintro e w' ⟨rfl, rfl⟩)
    go_ret2
    exact ⟨ret_si (packT_no (unhide HF)).symm rfl, Below.refl _ _⟩

end Go.Proofs.YtlhinknmbgijeaaDoor
