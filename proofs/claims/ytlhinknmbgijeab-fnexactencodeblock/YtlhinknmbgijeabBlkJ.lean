/- Contracts of the program's blocks: numbers, EncodeBlock. -/
import Derived.Test.YtlhinknmbgijeabRows
import Derived.Test.YtlhinknmbgijeabGen
import Derived.Test.YtlhinknmbgijeabKeep
import Derived.Test.YtlhinknmbgijeabInts
import Derived.Test.YtlhinknmbgijeabNums
import Derived.Test.YtlhinknmbgijeabOwnN
import Derived.Test.YtlhinknmbgijeabSealP
import Derived.Test.YtlhinknmbgijeabDiskOK
import Derived.Test.YtlhinknmbgijeabClkB
import Derived.Test.YtlhinknmbgijeabSeal
import Derived.Test.YtlhinknmbgijeabBlkP
import Derived.Test.YtlhinknmbgijeabBlkI
import Derived.WalkKit
import Derived.WalkSpells
import Derived.KernelRfl
import Derived.Lib.SmallJoins
namespace Go.Proofs.Ytlhinknmbgijeab
open Go.RowKit
set_option linter.unusedVariables false
set_option maxRecDepth 100000

set_option maxHeartbeats 1600000 in
theorem numbersB (x : Bk) (w : World) : Calls Try.prog 20 #[bV x] w fun e w' => ∃ ao, e = .returned (.slice ao 4 4) ∧ Is w' ao [x.ver, x.mbal, x.bal, x.inp] ∧ Below w.heap.size w w' := by
  go_enter Try.func20, Try.ntmps20
  go_wp2
  go_ret
  exact ⟨_, rfl, is4 _ _ _ _ _ _ _ (by simp), Joins.below_alloc2 _ _ _⟩

set_option maxHeartbeats 1600000 in
theorem encodeBlock_impl (x : Bk) (w : World) : Calls Try.prog 8 #[bV x] w fun e w' => e = .returned (.tuple #[.string (ebR x), .int .i64 (ebC x)]) ∧ Below w.heap.size w w' := by
  have HA := hide (Joins.below_alloc1 w (.cells #[.int .i64 x.ver, .int .i64 x.mbal, .int .i64 x.bal, .int .i64 x.inp] 26))
  have HV := hide (VarB.new w 26 x)
  go_enter Try.func8, Try.ntmps8
  go_wp2_with fail
  refine (blockOK_impl x _).mono ?_
  rintro e w1 ⟨rfl, hb⟩
  have HB := hide (fr (unhide HA) hb)
  obtain ⟨hc0, hc1, hc2, hc3⟩ := ((unhide HV).below hb).cells
  clear hb
  by_cases hd : bkB x = true
  · have HE : Hid (ebR x = encB x ∧ ebC x = 0) := hide ⟨if_pos hd, if_pos hd⟩
    have HD := hide (b4_seal hd)
    go_wp2_with fail
    refine (numbersB x _).mono ?_
    rintro e w2 ⟨ao, rfl, hi, hb⟩
    have HB2 := hide (fr (unhide HB) hb)
    have HI := hide hi
    clear hb hi hc0 hc1 hc2 hc3
    go_wp2_with fail
    refine (sealRecord_impl 5 ao 4 [x.ver, x.mbal, x.bal, x.inp] _ (by simp) (unhide HI)).mono ?_
    rintro e w3 ⟨rfl, hb⟩
    have HB3 := hide (fr (unhide HB2) hb)
    clear hb
    rw [(unhide HD).1, (unhide HD).2]
    go_wp2
    go_ret2
    exact ⟨ret_se (unhide HE).1.symm (unhide HE).2.symm, unhide HB3⟩
  · have HE : Hid (ebR x = ⟨#[]⟩ ∧ ebC x = 1) := hide ⟨if_neg hd, if_neg hd⟩
    rw [Bool.not_eq_true] at hd
    go_wp2
    go_ret2
    exact ⟨ret_se (unhide HE).1.symm (unhide HE).2.symm, unhide HB⟩

end Go.Proofs.Ytlhinknmbgijeab
