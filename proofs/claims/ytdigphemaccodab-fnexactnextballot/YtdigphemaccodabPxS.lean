/- Contracts of spec's ballots: l04Host, PxOK, PxStart, l05Of, l05Write. -/
import Derived.Test.YtdigphemaccodabRows
import Derived.Test.YtdigphemaccodabGen
import Derived.Test.YtdigphemaccodabKeep
import Derived.Test.YtdigphemaccodabInts
import Derived.Test.YtdigphemaccodabNums
import Derived.Test.YtdigphemaccodabPaxP
import Derived.Test.YtdigphemaccodabBlkP
import Derived.Test.YtdigphemaccodabPxP
import Derived.Test.YtdigphemaccodabPxW
import Derived.WalkKit
import Derived.WalkSpells
import Derived.BigQuiet
import Derived.Deep.QuietTactic
import Derived.Deep.RegionWith
import Derived.Deep.CutRange
import Derived.KernelRfl
import Derived.Lib.SmallJoins
namespace Go.Proofs.Ytdigphemaccodab
open Go.RowKit
set_option linter.unusedVariables false
set_option maxRecDepth 100000

theorem l04Host_px (h : Int) (w : World) : Calls Try.prog 29 #[.int .i64 h] w fun e w' => e = .returned (.bool (inB h 0 3)) ∧ w' = w := by
  go_enter Try.func29, Try.ntmps29
  go_wp2_with fail
  refine (l01In_num h 0 3 _).mono ?_
  rintro e w1 ⟨rfl, rfl⟩
  go_wp2
  go_ret
  exact ⟨rfl, rfl⟩

set_option maxHeartbeats 1600000 in
theorem l05Of_any (x : Bk) (v : Int) (w : World) : Calls Try.prog 52 #[bV x, .int .i64 v] w fun e w' => e = .returned (bV (bkOf x v)) ∧ Below w.heap.size w w' := by
  by_cases h : x.ver < v
  · rw [show bkOf x v = ⟨v, 0, 0, 0⟩ from if_pos h]
    go_enter Try.func52, Try.ntmps52
    go_wp2
    exact bodyPost_ret (v := bV ⟨v, 0, 0, 0⟩) (by simp [results, Try.results52, go_sem]) rfl ⟨rfl, Joins.below_alloc2 _ _ _⟩
  · rw [show bkOf x v = x from if_neg h]
    go_enter Try.func52, Try.ntmps52
    go_wp2
    exact bodyPost_ret (v := bV x) (by simp [results, Try.results52, go_sem]) rfl ⟨rfl, Joins.below_alloc2 _ _ _⟩

set_option maxHeartbeats 3200000 in
theorem l05Write_any (p : Pxs) (own : Bk) (w : World) : Calls Try.prog 53 #[pV p, bV own] w fun e w' => e = .returned (.tuple #[pV (pxW1 p own), bV (pxW2 p own)]) ∧ Below w.heap.size w w' := by
  by_cases h : p.phase = 1
  · rw [show pxW1 p own = { p with phase := 2, next := 0, best := own.inp, bestBal := own.bal } from if_pos h, show pxW2 p own = ⟨p.ver, p.ballot, own.bal, own.inp⟩ from if_pos h]
    go_enter Try.func53, Try.ntmps53
    go_wp2
    go_region
    go_wp2
    exact bodyPost_ret (v := .tuple #[pV { p with phase := 2, next := 0, best := own.inp, bestBal := own.bal }, bV ⟨p.ver, p.ballot, own.bal, own.inp⟩]) (by simp [results, Try.results53, go_sem]) rfl ⟨rfl, by first | exact below_w _ _ _ _ _ | exact (below_w _ _ _ _ _).drew⟩
  · rw [show pxW1 p own = { p with phase := 4, next := 0 } from if_neg h, show pxW2 p own = ⟨p.ver, p.ballot, p.ballot, p.value⟩ from if_neg h]
    go_enter Try.func53, Try.ntmps53
    go_wp2
    go_region
    go_wp2
    exact bodyPost_ret (v := .tuple #[pV { p with phase := 4, next := 0 }, bV ⟨p.ver, p.ballot, p.ballot, p.value⟩]) (by simp [results, Try.results53, go_sem]) rfl ⟨rfl, by first | exact below_w _ _ _ _ _ | exact (below_w _ _ _ _ _).drew⟩

end Go.Proofs.Ytdigphemaccodab
