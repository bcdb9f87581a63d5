/- Contracts of the program's blocks: verOK, BlockOK, numbers, EncodeBlock. -/
import Derived.Test.YtdigphemaccodaaRows
import Derived.Test.YtdigphemaccodaaGen
import Derived.Test.YtdigphemaccodaaKeep
import Derived.Test.YtdigphemaccodaaInts
import Derived.Test.YtdigphemaccodaaNums
import Derived.Test.YtdigphemaccodaaOwnN
import Derived.Test.YtdigphemaccodaaSealP
import Derived.Test.YtdigphemaccodaaDiskOK
import Derived.Test.YtdigphemaccodaaClkB
import Derived.Test.YtdigphemaccodaaSeal
import Derived.Test.YtdigphemaccodaaBlkP
import Derived.WalkKit
import Derived.WalkSpells
import Derived.KernelRfl
import Derived.Lib.SmallJoins
namespace Go.Proofs.Ytdigphemaccodaa
open Go.RowKit
set_option linter.unusedVariables false
set_option maxRecDepth 100000

theorem verOK_any (n : Int) (w : World) : Calls Try.prog 39 #[.int .i64 n] w fun e w' => e = .returned (.bool (inB n 0 1000000)) ∧ w' = w := by
  go_enter Try.func39, Try.ntmps39
  go_wp2_with fail
  refine (within_any n 0 1000000 _).mono ?_
  rintro e w1 ⟨rfl, rfl⟩
  go_wp2
  go_ret
  exact ⟨rfl, rfl⟩
theorem within_in (n low high : Int) (w : World) : Calls Try.prog 45 #[.int .i64 n, .int .i64 low, .int .i64 high] w fun e w' => e = .returned (.bool (inB n low high)) ∧ w' = w := within_any n low high w

set_option maxHeartbeats 1600000 in
theorem blockOK_impl (x : Bk) (w : World) : Calls Try.prog 20 #[bV x] w fun e w' => e = .returned (.bool (bkB x)) ∧ Below w.heap.size w w' := by
  go_enter Try.func20, Try.ntmps20
  go_wp2_with fail
  refine (verOK_any x.ver _).mono ?_
  rintro e w1 ⟨rfl, rfl⟩
  by_cases h1 : inB x.ver 0 1000000 = false
  · have hr := hide (bkB_1 h1)
    go_wp2
    go_ret
    rw [unhide hr]
    exact ⟨rfl, Joins.below_alloc1 _ _⟩
  rw [Bool.not_eq_false] at h1
  go_wp2_with fail
  refine (within_in x.mbal 0 1000000 _).mono ?_
  rintro e w1 ⟨rfl, rfl⟩
  by_cases h2 : inB x.mbal 0 1000000 = false
  · have hr := hide (bkB_2 h2)
    go_wp2
    go_ret
    rw [unhide hr]
    exact ⟨rfl, Joins.below_alloc1 _ _⟩
  rw [Bool.not_eq_false] at h2
  go_wp2_with fail
  refine (within_in x.bal 0 x.mbal _).mono ?_
  rintro e w1 ⟨rfl, rfl⟩
  by_cases h3 : inB x.bal 0 x.mbal = false
  · have hr := hide (bkB_3 h3)
    go_wp2
    go_ret
    rw [unhide hr]
    exact ⟨rfl, Joins.below_alloc1 _ _⟩
  rw [Bool.not_eq_false] at h3
  go_wp2_with fail
  refine (isNumber_any x.inp _).mono ?_
  rintro e w1 ⟨rfl, rfl⟩
  by_cases h4 : numB x.inp = false
  · have hr := hide (bkB_4 h4)
    go_wp2
    go_ret
    rw [unhide hr]
    exact ⟨rfl, Joins.below_alloc1 _ _⟩
  rw [Bool.not_eq_false] at h4
  have hr := hide (bkB_5 h1 h2 h3 h4)
  clear h1 h2 h3
  by_cases h5 : 0 < x.bal
  · have hv : Hid (bkB x = true) := hide (by rw [unhide hr]; simp [h5])
    go_wp2
    go_ret
    rw [unhide hv]
    exact ⟨rfl, Joins.below_alloc1 _ _⟩
  · have hv : Hid (bkB x = decide (x.inp = 0)) := hide (by rw [unhide hr]; simp [h5])
    go_wp2
    go_ret
    rw [unhide hv]
    exact ⟨ret_bool (by rw [Bool.eq_iff_iff]; simp <;> omega), Joins.below_alloc1 _ _⟩

set_option maxHeartbeats 1600000 in
theorem numbersB (x : Bk) (w : World) : Calls Try.prog 51 #[bV x] w fun e w' => ∃ ao, e = .returned (.slice ao 4 4) ∧ Is w' ao [x.ver, x.mbal, x.bal, x.inp] ∧ Below w.heap.size w w' := by
  go_enter Try.func51, Try.ntmps51
  go_wp2
  go_ret
  exact ⟨_, rfl, is4 _ _ _ _ _ _ _ (by simp), Joins.below_alloc2 _ _ _⟩

set_option maxHeartbeats 1600000 in
theorem encodeBlock_impl (x : Bk) (w : World) : Calls Try.prog 25 #[bV x] w fun e w' => e = .returned (.tuple #[.string (ebR x), .int .i64 (ebC x)]) ∧ Below w.heap.size w w' := by
  have HA := hide (Joins.below_alloc1 w (.cells #[.int .i64 x.ver, .int .i64 x.mbal, .int .i64 x.bal, .int .i64 x.inp] 42))
  have HV := hide (VarB.new w 42 x)
  go_enter Try.func25, Try.ntmps25
  go_wp2_with fail
  refine (blockOK_impl x _).mono ?_
  rintro e w1 ⟨rfl, hb⟩
  have HB := hide (fr (unhide HA) hb)
  obtain ⟨hc0, hc1, hc2, hc3⟩ := ((unhide HV).below hb).cells
  clear hb
  by_cases hd : bkB x = true
  · have HE : Hid (ebR x = encB x ∧ ebC x = 0) := hide ⟨if_pos hd, if_pos hd⟩
    have HD := hide (b4_seal hd)
    go_wp2_with fail
    refine (numbersB x _).mono ?_
    rintro e w2 ⟨ao, rfl, hi, hb⟩
    have HB2 := hide (fr (unhide HB) hb)
    have HI := hide hi
    clear hb hi hc0 hc1 hc2 hc3
    go_wp2_with fail
    refine (sealRecord_impl 5 ao 4 [x.ver, x.mbal, x.bal, x.inp] _ (by simp) (unhide HI)).mono ?_
    rintro e w3 ⟨rfl, hb⟩
    have HB3 := hide (fr (unhide HB2) hb)
    clear hb
    rw [(unhide HD).1, (unhide HD).2]
    go_wp2
    go_ret2
    exact ⟨ret_se (unhide HE).1.symm (unhide HE).2.symm, unhide HB3⟩
  · have HE : Hid (ebR x = ⟨#[]⟩ ∧ ebC x = 1) := hide ⟨if_neg hd, if_neg hd⟩
    rw [Bool.not_eq_true] at hd
    go_wp2
    go_ret2
    exact ⟨ret_se (unhide HE).1.symm (unhide HE).2.symm, unhide HB⟩

end Go.Proofs.Ytdigphemaccodaa
