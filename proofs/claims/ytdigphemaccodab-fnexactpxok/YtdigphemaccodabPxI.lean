/- Contracts of the program's ballotOK, PxOK, PxStart. -/
import Derived.Test.YtdigphemaccodabRows
import Derived.Test.YtdigphemaccodabGen
import Derived.Test.YtdigphemaccodabKeep
import Derived.Test.YtdigphemaccodabInts
import Derived.Test.YtdigphemaccodabNums
import Derived.Test.YtdigphemaccodabDiskOK
import Derived.Test.YtdigphemaccodabClkB
import Derived.Test.YtdigphemaccodabBlkI
import Derived.Test.YtdigphemaccodabPxP
import Derived.Test.YtdigphemaccodabPxQ
import Derived.WalkKit
import Derived.WalkSpells
import Derived.KernelRfl
import Derived.Lib.SmallJoins
namespace Go.Proofs.Ytdigphemaccodab
open Go.RowKit
set_option linter.unusedVariables false
set_option maxRecDepth 100000

set_option maxHeartbeats 3200000 in
theorem ballotOK_any (b h : Int) (w : World) : Calls Try.prog 35 #[.int .i64 b, .int .i64 h] w fun e w' => e = .returned (.bool (baB b h)) ∧ w' = w := by
  go_enter Try.func35, Try.ntmps35
  go_wp2_with fail
  refine (within_in b 1 1000000 _).mono ?_
  rintro e w1 ⟨rfl, rfl⟩
  by_cases h1 : inB b 1 1000000 = false
  · have hr : Hid (baB b h = false) := hide (by simp [baB, h1])
    go_wp2
    go_ret
    rw [unhide hr]
    exact ⟨rfl, rfl⟩
  rw [Bool.not_eq_false] at h1
  have hm := ball_mod h1
  have hr : Hid (baB b h = decide (b % 4 = h)) := hide (by simp [baB, h1])
  go_wp2
  go_ret
  rw [unhide hr]
  exact ⟨ret_bool (by rw [Bool.eq_iff_iff]; simp), rfl⟩

set_option maxHeartbeats 3200000 in
theorem pxOK_impl (p : Pxs) (w : World) : Calls Try.prog 10 #[pV p] w fun e w' => e = .returned (.bool (pxB p)) ∧ Below w.heap.size w w' := by
  go_enter Try.func10, Try.ntmps10
  go_wp2_with fail
  refine (hostOK_any p.host _).mono ?_
  rintro e w1 ⟨rfl, rfl⟩
  by_cases h1 : inB p.host 0 3 = false
  · have hr := hide (pxB_1 h1)
    go_wp2
    go_ret
    rw [unhide hr]
    exact ⟨rfl, Joins.below_alloc1 _ _⟩
  rw [Bool.not_eq_false] at h1
  go_wp2_with fail
  refine (verOK_any p.ver _).mono ?_
  rintro e w1 ⟨rfl, rfl⟩
  by_cases h2 : inB p.ver 0 1000000 = false
  · have hr := hide (pxB_2 h2)
    go_wp2
    go_ret
    rw [unhide hr]
    exact ⟨rfl, Joins.below_alloc1 _ _⟩
  rw [Bool.not_eq_false] at h2
  go_wp2_with fail
  refine (within_in p.phase 1 6 _).mono ?_
  rintro e w1 ⟨rfl, rfl⟩
  by_cases h3 : inB p.phase 1 6 = false
  · have hr := hide (pxB_3 h3)
    go_wp2
    go_ret
    rw [unhide hr]
    exact ⟨rfl, Joins.below_alloc1 _ _⟩
  rw [Bool.not_eq_false] at h3
  go_wp2_with fail
  refine (ballotOK_any p.ballot p.host _).mono ?_
  rintro e w1 ⟨rfl, rfl⟩
  by_cases h4 : baB p.ballot p.host = false
  · have hr := hide (pxB_ba h4)
    go_wp2
    go_ret
    rw [unhide hr]
    exact ⟨rfl, Joins.below_alloc1 _ _⟩
  rw [Bool.not_eq_false] at h4
  go_wp2_with fail
  refine (isNumber_any p.value _).mono ?_
  rintro e w1 ⟨rfl, rfl⟩
  by_cases h6 : numB p.value = false
  · have hr := hide (pxB_6 h6)
    go_wp2
    go_ret
    rw [unhide hr]
    exact ⟨rfl, Joins.below_alloc1 _ _⟩
  rw [Bool.not_eq_false] at h6
  go_wp2_with fail
  refine (within_in p.next 0 4 _).mono ?_
  rintro e w1 ⟨rfl, rfl⟩
  by_cases h7 : inB p.next 0 4 = false
  · have hr := hide (pxB_7 h7)
    go_wp2
    go_ret
    rw [unhide hr]
    exact ⟨rfl, Joins.below_alloc1 _ _⟩
  rw [Bool.not_eq_false] at h7
  go_wp2_with fail
  refine (isNumber_any p.best _).mono ?_
  rintro e w1 ⟨rfl, rfl⟩
  by_cases h8 : numB p.best = false
  · have hr := hide (pxB_8 h8)
    go_wp2
    go_ret
    rw [unhide hr]
    exact ⟨rfl, Joins.below_alloc1 _ _⟩
  rw [Bool.not_eq_false] at h8
  have hr := hide (pxB_9b h1 h2 h3 h4 h6 h7 h8)
  go_wp2_with fail
  refine (within_in p.bestBal 0 1000000 _).mono ?_
  rintro e w1 ⟨rfl, rfl⟩
  go_wp2
  go_ret
  rw [unhide hr]
  exact ⟨rfl, Joins.below_alloc1 _ _⟩

set_option maxHeartbeats 3200000 in
theorem pxStart_impl (h v b x : Int) (w : World) : Calls Try.prog 12 #[.int .i64 h, .int .i64 v, .int .i64 b, .int .i64 x] w fun e w' => e = .returned (.tuple #[pV (psP h v b x), .int .i64 (psC h v b x)]) ∧ Below w.heap.size w w' := by
  have HV := hide (VarP.new0 w 25)
  have HV2 : Hid (VarP ((w.alloc (.cells #[.int .i64 0, .int .i64 0, .int .i64 0, .int .i64 0, .int .i64 0, .int .i64 0, .int .i64 0, .int .i64 0] 25)).alloc (.cells #[.int .i64 h, .int .i64 v, .int .i64 1, .int .i64 b, .int .i64 x, .int .i64 0, .int .i64 0, .int .i64 0] 25)) (w.heap.size + 1) 25 (ps0 h v b x)) := hide (by
    have := VarP.new (w.alloc (.cells #[.int .i64 0, .int .i64 0, .int .i64 0, .int .i64 0, .int .i64 0, .int .i64 0, .int .i64 0, .int .i64 0] 25)) 25 (ps0 h v b x)
    simp only [World.size_alloc] at this
    exact this)
  have HB := hide (Joins.below_alloc2 w (.cells #[.int .i64 0, .int .i64 0, .int .i64 0, .int .i64 0, .int .i64 0, .int .i64 0, .int .i64 0, .int .i64 0] 25) (.cells #[.int .i64 h, .int .i64 v, .int .i64 1, .int .i64 b, .int .i64 x, .int .i64 0, .int .i64 0, .int .i64 0] 25))
  go_enter Try.func12, Try.ntmps12
  go_wp2_with fail
  refine (pxOK_impl (ps0 h v b x) _).mono ?_
  rintro e w1 ⟨rfl, hb⟩
  obtain ⟨c0, c1, c2, c3, c4, c5, c6, c7⟩ := ((unhide HV2).below hb).cells
  obtain ⟨d0, d1, d2, d3, d4, d5, d6, d7⟩ := (((unhide HV).below (Joins.below_alloc1 _ _)).below hb).cells
  obtain ⟨f0, f1, f2, f3, f4, f5, f6, f7⟩ := (((unhide HV).below (Joins.below_alloc1 _ _)).below hb).free
  have HB1 := hide (fun u0 u1 u2 u3 u4 u5 u6 u7 => below8 (fr (unhide HB) hb) (Nat.le_refl _) u0 u1 u2 u3 u4 u5 u6 u7)
  clear hb
  by_cases hd : pxB (ps0 h v b x) = true
  · have HE : Hid (psP h v b x = ps0 h v b x ∧ psC h v b x = 0) := hide ⟨if_pos hd, if_pos hd⟩
    go_wp2
    refine bodyPost_ret (v := .tuple #[pV (ps0 h v b x), .int .i64 0]) (by simp [results, Try.results12, go_sem, d0, d1, d2, d3, d4, d5, d6, d7, ps0]) rfl ⟨?_, unhide HB1 _ _ _ _ _ _ _ _⟩
    exact ret_pi (unhide HE).1.symm (unhide HE).2.symm
  · have HE : Hid (psP h v b x = p00 ∧ psC h v b x = 4) := hide ⟨if_neg hd, if_neg hd⟩
    rw [Bool.not_eq_true] at hd
    go_wp2
    refine bodyPost_ret (v := .tuple #[pV p00, .int .i64 4]) (by simp [results, Try.results12, go_sem, d0, d1, d2, d3, d4, d5, d6, d7, p00]) rfl ⟨?_, unhide HB1 _ _ _ _ _ _ _ _⟩
    exact ret_pi (unhide HE).1.symm (unhide HE).2.symm

end Go.Proofs.Ytdigphemaccodab
