/- Contracts of the program's blocks: verOK, BlockOK. -/
import Derived.Test.YtlhinknmbgijeabRows
import Derived.Test.YtlhinknmbgijeabGen
import Derived.Test.YtlhinknmbgijeabKeep
import Derived.Test.YtlhinknmbgijeabInts
import Derived.Test.YtlhinknmbgijeabNums
import Derived.Test.YtlhinknmbgijeabDiskOK
import Derived.Test.YtlhinknmbgijeabClkB
import Derived.Test.YtlhinknmbgijeabBlkP
import Derived.WalkKit
import Derived.WalkSpells
import Derived.KernelRfl
import Derived.Lib.SmallJoins
namespace Go.Proofs.Ytlhinknmbgijeab
open Go.RowKit
set_option linter.unusedVariables false
set_option maxRecDepth 100000

theorem verOK_any (n : Int) (w : World) : Calls Try.prog 31 #[.int .i64 n] w fun e w' => e = .returned (.bool (inB n 0 1000000)) ∧ w' = w := by
  go_enter Try.func31, Try.ntmps31
  go_wp2_with fail
  refine (within_any n 0 1000000 _).mono ?_
  rintro e w1 ⟨rfl, rfl⟩
  go_wp2
  go_ret
  exact ⟨rfl, rfl⟩
theorem within_in (n low high : Int) (w : World) : Calls Try.prog 32 #[.int .i64 n, .int .i64 low, .int .i64 high] w fun e w' => e = .returned (.bool (inB n low high)) ∧ w' = w := within_any n low high w

set_option maxHeartbeats 1600000 in
theorem blockOK_impl (x : Bk) (w : World) : Calls Try.prog 18 #[bV x] w fun e w' => e = .returned (.bool (bkB x)) ∧ Below w.heap.size w w' := by
  go_enter Try.func18, Try.ntmps18
  go_wp2_with fail
  refine (verOK_any x.ver _).mono ?_
  rintro e w1 ⟨rfl, rfl⟩
  by_cases h1 : inB x.ver 0 1000000 = false
  · have hr := hide (bkB_1 h1)
    go_wp2
    go_ret
    rw [unhide hr]
    exact ⟨rfl, Joins.below_alloc1 _ _⟩
  rw [Bool.not_eq_false] at h1
  go_wp2_with fail
  refine (within_in x.mbal 0 1000000 _).mono ?_
  rintro e w1 ⟨rfl, rfl⟩
  by_cases h2 : inB x.mbal 0 1000000 = false
  · have hr := hide (bkB_2 h2)
    go_wp2
    go_ret
    rw [unhide hr]
    exact ⟨rfl, Joins.below_alloc1 _ _⟩
  rw [Bool.not_eq_false] at h2
  go_wp2_with fail
  refine (within_in x.bal 0 x.mbal _).mono ?_
  rintro e w1 ⟨rfl, rfl⟩
  by_cases h3 : inB x.bal 0 x.mbal = false
  · have hr := hide (bkB_3 h3)
    go_wp2
    go_ret
    rw [unhide hr]
    exact ⟨rfl, Joins.below_alloc1 _ _⟩
  rw [Bool.not_eq_false] at h3
  go_wp2_with fail
  refine (isNumber_any x.inp _).mono ?_
  rintro e w1 ⟨rfl, rfl⟩
  by_cases h4 : numB x.inp = false
  · have hr := hide (bkB_4 h4)
    go_wp2
    go_ret
    rw [unhide hr]
    exact ⟨rfl, Joins.below_alloc1 _ _⟩
  rw [Bool.not_eq_false] at h4
  have hr := hide (bkB_5 h1 h2 h3 h4)
  clear h1 h2 h3
  by_cases h5 : 0 < x.bal
  · have hv : Hid (bkB x = true) := hide (by rw [unhide hr]; simp [h5])
    go_wp2
    go_ret
    rw [unhide hv]
    exact ⟨rfl, Joins.below_alloc1 _ _⟩
  · have hv : Hid (bkB x = decide (x.inp = 0)) := hide (by rw [unhide hr]; simp [h5])
    go_wp2
    go_ret
    rw [unhide hv]
    exact ⟨ret_bool (by rw [Bool.eq_iff_iff]; simp <;> omega), Joins.below_alloc1 _ _⟩

end Go.Proofs.Ytlhinknmbgijeab
