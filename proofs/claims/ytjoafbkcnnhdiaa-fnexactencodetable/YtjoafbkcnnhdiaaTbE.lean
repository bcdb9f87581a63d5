/- Contract of impl.EncodeTable. -/
import Derived.Test.YtjoafbkcnnhdiaaRows
import Derived.Test.YtjoafbkcnnhdiaaGen
import Derived.Test.YtjoafbkcnnhdiaaKeep
import Derived.Test.YtjoafbkcnnhdiaaInts
import Derived.Test.YtjoafbkcnnhdiaaOwnN
import Derived.Test.YtjoafbkcnnhdiaaSeal
import Derived.Test.YtjoafbkcnnhdiaaTbP
import Derived.Test.YtjoafbkcnnhdiaaTbI
import Derived.WalkKit
import Derived.WalkSpells
namespace Go.Proofs.Ytjoafbkcnnhdiaa
open Go.RowKit
set_option linter.unusedVariables false
set_option maxRecDepth 100000

set_option maxHeartbeats 1600000 in
theorem encodeTable_impl (ao : Option Addr) (cap : Nat) (xs : List Int) (w : World) (hl : xs.length ≤ maxLen) (hc : Is w ao xs) :
    Calls Try.prog 10 #[.slice ao xs.length cap] w fun e w' => e = .returned (.tuple #[.string (etR xs), .int .i64 (tbF xs)]) ∧ Below w.heap.size w w' := by
  have HC := hide hc
  have HL := hide hl
  unfold maxLen at hl
  clear hc
  by_cases h0 : tbF xs = 0
  · have HB := hide (tbF_zero h0)
    have HE : Hid (etR xs = encTb xs ∧ tbF xs = 0) := hide ⟨if_pos h0, h0⟩
    have HS := hide (tb_seal (unhide HB))
    clear h0
    go_enter Try.func10, Try.ntmps10
    go_wp2_with fail
    refine (tableFault_any _ _ xs _ (unhide HL) (unhide HC)).mono ?_
    rintro e w' ⟨rfl, hw⟩
    replace hw := hw.symm
    subst hw
    rw [(unhide HE).2]
    go_wp2_with fail
    refine (sealRecord_impl 3 ao cap xs _ (by have := tbB_len (unhide HB); omega) (unhide HC)).mono ?_
    rintro e w1 ⟨rfl, hb⟩
    rw [(unhide HS).1, (unhide HS).2]
    have HBE := hide hb
    clear hb
    go_wp2
    go_ret2
    exact ⟨ret_si (unhide HE).1.symm (unhide HE).2.symm, unhide HBE⟩
  · have HE : Hid (etR xs = ⟨#[]⟩) := hide (if_neg h0)
    have hne := tbF_ne h0
    clear h0
    go_enter Try.func10, Try.ntmps10
    go_wp2_with (go_at_call 27; refine (tableFault_any _ _ xs _ (unhide HL) (unhide HC)).mono ?_; rintro e w' ⟨rfl, hw⟩; replace hw := hw.symm; subst hw)
    go_ret2
    exact ⟨ret_si (unhide HE).symm rfl, Below.refl _ _⟩

end Go.Proofs.Ytjoafbkcnnhdiaa
