/- Contracts of the program's generations, the plain ones: genOK, DeltaOK, numbers, EncodeDelta. -/
import Derived.Test.YtoiclgeeaednnafRows
import Derived.Test.YtoiclgeeaednnafGen
import Derived.Test.YtoiclgeeaednnafKeep
import Derived.Test.YtoiclgeeaednnafInts
import Derived.Test.YtoiclgeeaednnafOwnN
import Derived.Test.YtoiclgeeaednnafSealP
import Derived.Test.YtoiclgeeaednnafDiskOK
import Derived.Test.YtoiclgeeaednnafClkB
import Derived.Test.YtoiclgeeaednnafSeal
import Derived.Test.YtoiclgeeaednnafDltP
import Derived.WalkKit
import Derived.WalkSpells
import Derived.KernelRfl
import Derived.Lib.SmallJoins
namespace Go.Proofs.Ytoiclgeeaednnaf
open Go.RowKit
set_option linter.unusedVariables false
set_option maxRecDepth 100000

theorem genOK_any (n : Int) (w : World) : Calls Try.prog 13 #[.int .i64 n] w fun e w' => e = .returned (.bool (inB n 1 1000000)) ∧ w' = w := by
  go_enter Try.func13, Try.ntmps13
  go_wp2_with fail
  refine (within_any n 1 1000000 _).mono ?_
  rintro e w1 ⟨rfl, rfl⟩
  go_wp2
  go_ret
  exact ⟨rfl, rfl⟩
theorem hourD_any (n : Int) (w : World) : Calls Try.prog 14 #[.int .i64 n] w fun e w' => e = .returned (.bool (inB n 0 10000000)) ∧ w' = w := by
  go_enter Try.func14, Try.ntmps14
  go_wp2_with fail
  refine (within_any n 0 10000000 _).mono ?_
  rintro e w1 ⟨rfl, rfl⟩
  go_wp2
  go_ret
  exact ⟨rfl, rfl⟩

set_option maxHeartbeats 1600000 in
theorem deltaOK_impl (h g s : Int) (w : World) : Calls Try.prog 7 #[dltV h g s] w fun e w' => e = .returned (.bool (dltB h g s)) ∧ Below w.heap.size w w' := by
  go_enter Try.func7, Try.ntmps7
  go_wp2_with fail
  refine (hostOK_any h _).mono ?_
  rintro e w1 ⟨rfl, rfl⟩
  by_cases h1 : inB h 0 3 = false
  · have hr := hide (dltB_1 (g := g) (s := s) h1)
    go_wp2
    go_ret
    rw [unhide hr]
    exact ⟨rfl, Joins.below_alloc1 _ _⟩
  rw [Bool.not_eq_false] at h1
  go_wp2_with fail
  refine (genOK_any g _).mono ?_
  rintro e w1 ⟨rfl, rfl⟩
  by_cases h2 : inB g 1 1000000 = false
  · have hr := hide (dltB_2 (h := h) (s := s) h2)
    go_wp2
    go_ret
    rw [unhide hr]
    exact ⟨rfl, Joins.below_alloc1 _ _⟩
  rw [Bool.not_eq_false] at h2
  have hr := hide (dltB_3 (s := s) h1 h2)
  go_wp2_with fail
  refine (hourD_any s _).mono ?_
  rintro e w1 ⟨rfl, rfl⟩
  go_wp2
  go_ret
  rw [unhide hr]
  exact ⟨rfl, Joins.below_alloc1 _ _⟩

theorem is3i (w : World) (n : Nat) (t : TypeId) (a b c : Int) (hn : w.heap.size = n) : Is (w.alloc (.cells #[.int .i64 a, .int .i64 b, .int .i64 c] t)) (some ⟨n, 0, none⟩) [a, b, c] := by
  subst hn
  intro i hi
  have hi' : i < 3 := hi
  refine ⟨w.heap.size, 0, rfl, ?_⟩
  rcases (show i = 0 ∨ i = 1 ∨ i = 2 by omega) with rfl | rfl | rfl <;> simp [go_sem]

set_option maxHeartbeats 1600000 in
theorem numbersD (h g s : Int) (w : World) : Calls Try.prog 17 #[dltV h g s] w fun e w' => ∃ ao, e = .returned (.slice ao 3 3) ∧ Is w' ao [h, g, s] ∧ Below w.heap.size w w' := by
  go_enter Try.func17, Try.ntmps17
  go_wp2
  go_ret
  exact ⟨_, rfl, is3i _ _ _ _ _ _ (by simp), Joins.below_alloc2 _ _ _⟩

theorem d3_ints {h g s : Int} (hd : dltB h g s = true) : intsB [h, g, s] = true := by
  obtain ⟨h1, h2, h3⟩ := dltB_iff.1 hd
  rw [intsB_len]
  · rfl
  · intro j hj
    have hj' : j < 3 := hj
    rcases (show j = 0 ∨ j = 1 ∨ j = 2 by omega) with rfl | rfl | rfl <;> simp [numB, inB] <;> omega
theorem d3_seal {h g s : Int} (hd : dltB h g s = true) : sealC 9 [h, g, s] = 0 ∧ sealT 9 [h, g, s] = encD h g s := by
  have hc : sealC 9 [h, g, s] = 0 := sealC_ok (listC_ok (by simp) (d3_ints hd)) rfl
  exact ⟨hc, sealT_ok hc⟩

set_option maxHeartbeats 1600000 in
theorem encodeDelta_impl (h g s : Int) (w : World) : Calls Try.prog 9 #[dltV h g s] w fun e w' => e = .returned (.tuple #[.string (encR h g s), .int .i64 (encC h g s)]) ∧ Below w.heap.size w w' := by
  have HA := hide (Joins.below_alloc1 w (.cells #[.int .i64 h, .int .i64 g, .int .i64 s] 25))
  have HV := hide (VarT.new w 25 h g s)
  go_enter Try.func9, Try.ntmps9
  go_wp2_with fail
  refine (deltaOK_impl h g s _).mono ?_
  rintro e w1 ⟨rfl, hb⟩
  have HB := hide (fr (unhide HA) hb)
  obtain ⟨hc0, hc1, hc2⟩ := ((unhide HV).below hb).cells
  clear hb
  by_cases hd : dltB h g s = true
  · have HE : Hid (encR h g s = encD h g s ∧ encC h g s = 0) := hide ⟨if_pos hd, if_pos hd⟩
    have HD := hide (d3_seal hd)
    go_wp2_with fail
    refine (numbersD h g s _).mono ?_
    rintro e w2 ⟨ao, rfl, hi, hb⟩
    have HB2 := hide (fr (unhide HB) hb)
    have HI := hide hi
    clear hb hi hc0 hc1 hc2
    go_wp2_with fail
    refine (sealRecord_impl 9 ao 3 [h, g, s] _ (by simp) (unhide HI)).mono ?_
    rintro e w3 ⟨rfl, hb⟩
    have HB3 := hide (fr (unhide HB2) hb)
    clear hb
    rw [(unhide HD).1, (unhide HD).2]
    go_wp2
    go_ret2
    exact ⟨ret_sd (unhide HE).1.symm (unhide HE).2.symm, unhide HB3⟩
  · have HE : Hid (encR h g s = ⟨#[]⟩ ∧ encC h g s = 1) := hide ⟨if_neg hd, if_neg hd⟩
    rw [Bool.not_eq_true] at hd
    go_wp2
    go_ret2
    exact ⟨ret_sd (unhide HE).1.symm (unhide HE).2.symm, unhide HB⟩

end Go.Proofs.Ytoiclgeeaednnaf
