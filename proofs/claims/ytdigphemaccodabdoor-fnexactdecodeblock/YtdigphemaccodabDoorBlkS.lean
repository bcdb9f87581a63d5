/- Contracts of spec's blocks: BlockOK, l05Encode, EncodeBlock, l05Decode, DecodeBlock, l05Of. -/
import Derived.Test.YtdigphemaccodabDoorRows
import Derived.Test.YtdigphemaccodabDoorGen
import Derived.Test.YtdigphemaccodabDoorKeep
import Derived.Test.YtdigphemaccodabDoorInts
import Derived.Test.YtdigphemaccodabDoorOwnN
import Derived.Test.YtdigphemaccodabDoorNums
import Derived.Test.YtdigphemaccodabDoorSealP
import Derived.Test.YtdigphemaccodabDoorSealS
import Derived.Test.YtdigphemaccodabDoorUnP
import Derived.Test.YtdigphemaccodabDoorRecM
import Derived.Test.YtdigphemaccodabDoorOpenS
import Derived.Test.YtdigphemaccodabDoorBlkP
import Derived.WalkKit
import Derived.WalkSpells
import Derived.KernelRfl
import Derived.Lib.SmallJoins
namespace Go.Proofs.YtdigphemaccodabDoor
open Go.RowKit
set_option linter.unusedVariables false
set_option maxRecDepth 100000

set_option maxHeartbeats 1600000 in
theorem blockOK_spec (x : Bk) (w : World) : Calls Tryd.prog 11 #[bV x] w fun e w' => e = .returned (.bool (bkB x)) ∧ Below w.heap.size w w' := by
  go_enter Tryd.func11, Tryd.ntmps11
  go_wp2_with fail
  refine (l01In_num x.ver 0 1000000 _).mono ?_
  rintro e w1 ⟨rfl, rfl⟩
  by_cases h1 : inB x.ver 0 1000000 = false
  · have hr := hide (bkB_1 h1)
    go_wp2
    go_ret
    rw [unhide hr]
    exact ⟨rfl, Joins.below_alloc1 _ _⟩
  rw [Bool.not_eq_false] at h1
  go_wp2_with fail
  refine (l01In_num x.mbal 0 1000000 _).mono ?_
  rintro e w1 ⟨rfl, rfl⟩
  by_cases h2 : inB x.mbal 0 1000000 = false
  · have hr := hide (bkB_2 h2)
    go_wp2
    go_ret
    rw [unhide hr]
    exact ⟨rfl, Joins.below_alloc1 _ _⟩
  rw [Bool.not_eq_false] at h2
  go_wp2_with fail
  refine (l01In_num x.bal 0 x.mbal _).mono ?_
  rintro e w1 ⟨rfl, rfl⟩
  by_cases h3 : inB x.bal 0 x.mbal = false
  · have hr := hide (bkB_3 h3)
    go_wp2
    go_ret
    rw [unhide hr]
    exact ⟨rfl, Joins.below_alloc1 _ _⟩
  rw [Bool.not_eq_false] at h3
  go_wp2_with fail
  refine (l01In_num x.inp 0 2147483647 _).mono ?_
  rintro e w1 ⟨rfl, rfl⟩
  by_cases h4 : inB x.inp 0 2147483647 = false
  · have hr := hide (bkB_4 h4)
    go_wp2
    go_ret
    rw [unhide hr]
    exact ⟨rfl, Joins.below_alloc1 _ _⟩
  rw [Bool.not_eq_false] at h4
  have hr := hide (bkB_5 h1 h2 h3 h4)
  clear h1 h2 h3
  by_cases h5 : 0 < x.bal
  · have hv : Hid (bkB x = true) := hide (by rw [unhide hr]; simp [h5])
    go_wp2
    go_ret
    rw [unhide hv]
    exact ⟨rfl, Joins.below_alloc1 _ _⟩
  · have hv : Hid (bkB x = decide (x.inp = 0)) := hide (by rw [unhide hr]; simp [h5])
    go_wp2
    go_ret
    rw [unhide hv]
    exact ⟨ret_bool (by rw [Bool.eq_iff_iff]; simp <;> omega), Joins.below_alloc1 _ _⟩

set_option maxHeartbeats 1600000 in
theorem l05Decode_any (t : ByteArray) (w : World) (hs : t.size ≤ 65536) : Calls Tryd.prog 7 #[.string t] w fun e w' => e = .returned (.tuple #[bV (bdK t), .bool (bdB t)]) ∧ Below w.heap.size w w' := by
  have HA := hide (Joins.below_alloc1 w (.cells #[.int .i64 0, .int .i64 0, .int .i64 0, .int .i64 0] 23))
  have HV := hide (VarB.new0 w 23)
  go_enter Tryd.func7, Tryd.ntmps7
  go_wp2_with fail
  refine (l02Open_any t 5 _ hs).mono ?_
  rintro e w1 ⟨v, rfl, ⟨qo, qa, rfl, ho⟩, hb⟩
  have HB := hide (fr (unhide HA) hb)
  have HB1 := hide hb
  have HO := hide ho
  obtain ⟨hc0, hc1, hc2, hc3⟩ := ((unhide HV).below hb).cells
  obtain ⟨hf0, hf1, hf2, hf3⟩ := ((unhide HV).below hb).free
  have HR := hide (fun u v x y => below4 (unhide HB) (Nat.le_refl _) 0 1 2 3 u v x y)
  clear hb ho
  by_cases hb : openB t 5 = false
  · have HE := hide (bdB_open hb)
    go_wp2
    refine bodyPost_ret (v := .tuple #[bV bk0, .bool false]) (by simp [results, Tryd.results7, go_sem, hc0, hc1, hc2, hc3, bk0]) rfl ⟨?_, unhide HR _ _ _ _⟩
    exact ret_bb (bd_no (unhide HE)).symm (unhide HE).symm
  rw [Bool.not_eq_false] at hb
  by_cases h3 : (openL t 5).length = 4
  · obtain ⟨a, b, c, d, hl⟩ := fourK h3
    have HL := hide hl
    have hI := ownRN (unhide HO)
    rw [hl] at hI
    obtain ⟨g, off, rfl, hi0⟩ := hI 0 (by simp)
    obtain ⟨g', off', he, hi1⟩ := hI 1 (by simp)
    cases he
    obtain ⟨g', off', he, hi2⟩ := hI 2 (by simp)
    cases he
    obtain ⟨g', off', he, hi3⟩ := hI 3 (by simp)
    cases he
    simp only [List.getElem_cons_zero, List.getElem_cons_succ, Nat.add_zero] at hi0 hi1 hi2 hi3
    have hg := World.block_lt_of_cell? _ _ hi0
    clear hI
    go_wp2_with fail
    have HA2 := hide (Joins.below_alloc1 w1 (.cells #[.int .i64 a, .int .i64 b, .int .i64 c, .int .i64 d] 23)).drew
    have HV2 := hide (((unhide HV).below (unhide HB1)).below (unhide HA2))
    have HV3 : Hid (VarB (w1.alloc (.cells #[.int .i64 a, .int .i64 b, .int .i64 c, .int .i64 d] 23)).drew w1.heap.size 23 ⟨a, b, c, d⟩) := hide ((VarB.new w1 23 ⟨a, b, c, d⟩).below (Below.refl _ _).drew)
    have HB2 := hide (fr (unhide HB) (unhide HA2))
    clear hc0 hc1 hc2 hc3 hf0 hf1 hf2 hf3 HR
    go_region
    go_wp2_with fail
    refine (blockOK_spec ⟨a, b, c, d⟩ _).mono ?_
    rintro e w2 ⟨rfl, hb2⟩
    have HB3 := hide (fr (unhide HB2) hb2)
    obtain ⟨hc0, hc1, hc2, hc3⟩ := ((unhide HV2).below hb2).cells
    obtain ⟨hf0, hf1, hf2, hf3⟩ := ((unhide HV2).below hb2).free
    obtain ⟨hx0, hx1, hx2, hx3⟩ := ((unhide HV3).below hb2).cells
    have HR := hide (fun u v x y => below4 (unhide HB3) (Nat.le_refl _) 0 1 2 3 u v x y)
    have HE := hide (bdB_at hb (unhide HL))
    clear hb2 hi0 hi1 hi2 hi3
    by_cases hd : bkB ⟨a, b, c, d⟩ = true
    · go_wp2
      refine bodyPost_ret (v := .tuple #[bV ⟨a, b, c, d⟩, .bool true]) (by simp [results, Tryd.results7, go_sem, hc0, hc1, hc2, hc3]) rfl ⟨?_, unhide HR _ _ _ _⟩
      exact ret_bb (bd_yes (by rw [unhide HE]; exact hd) (unhide HL)).symm (by rw [unhide HE]; exact hd.symm)
    · rw [Bool.not_eq_true] at hd
      go_wp2
      refine bodyPost_ret (v := .tuple #[bV bk0, .bool false]) (by simp [results, Tryd.results7, go_sem, hc0, hc1, hc2, hc3, bk0]) rfl ⟨?_, unhide HR _ _ _ _⟩
      exact ret_bb (bd_no (by rw [unhide HE]; exact hd)).symm (by rw [unhide HE]; exact hd.symm)
  · have HE := hide (bdB_len h3)
    go_wp2
    refine bodyPost_ret (v := .tuple #[bV bk0, .bool false]) (by simp [results, Tryd.results7, go_sem, hc0, hc1, hc2, hc3, bk0]) rfl ⟨?_, unhide HR _ _ _ _⟩
    exact ret_bb (bd_no (unhide HE)).symm (unhide HE).symm

set_option maxHeartbeats 1600000 in
theorem decodeBlock_spec (t : ByteArray) (w : World) (hz : t.size ≤ maxLen) : Calls Tryd.prog 4 #[.string t] w fun e w' => e = .returned (.tuple #[bV (bcK t), .int .i64 (bcC t)]) ∧ Below w.heap.size w w' := by
  unfold maxLen at hz
  have HA := hide (Joins.below_alloc1 w (.cells #[.int .i64 0, .int .i64 0, .int .i64 0, .int .i64 0] 23))
  have HV := hide (VarB.new0 w 23)
  by_cases h1 : 65536 < t.size
  · obtain ⟨e1, e2⟩ := bc_long h1
    rw [e1, e2]
    clear e1 e2
    go_enter Tryd.func4, Tryd.ntmps4
    go_wp2
    exact bodyPost_ret (v := .tuple #[bV bk0, .int .i64 2]) (by simp [results, Tryd.results4, go_sem, bk0]) rfl ⟨rfl, unhide HA⟩
  go_enter Tryd.func4, Tryd.ntmps4
  go_wp2_with fail
  refine (l05Decode_any t _ (by omega)).mono ?_
  rintro e w1 ⟨rfl, hb⟩
  have HB := hide (fr (unhide HA) hb)
  have HV1 := hide ((unhide HV).below hb)
  obtain ⟨hc0, hc1, hc2, hc3⟩ := (unhide HV1).cells
  obtain ⟨hf0, hf1, hf2, hf3⟩ := (unhide HV1).free
  have hlt := (unhide HV1).lt
  have HR := hide (fun u v x y => fr (below4 (unhide HB) (Nat.le_refl _) 0 1 2 3 u v x y) (Joins.below_alloc1 _ (.cells #[.int .i64 (bdK t).ver, .int .i64 (bdK t).mbal, .int .i64 (bdK t).bal, .int .i64 (bdK t).inp] 23)))
  clear hb
  by_cases hd : bdB t = true
  · have HE := hide (bc_yes h1 hd)
    go_wp2
    refine bodyPost_ret (v := .tuple #[bV (bdK t), .int .i64 0]) (by simp [results, Tryd.results4, go_sem, hc0, hc1, hc2, hc3, hlt]) rfl ⟨?_, unhide HR _ _ _ _⟩
    exact ret_bi (unhide HE).1.symm (unhide HE).2.symm
  · rw [Bool.not_eq_true] at hd
    have HE := hide (bc_no h1 hd)
    go_wp2
    refine bodyPost_ret (v := .tuple #[bV bk0, .int .i64 3]) (by simp [results, Tryd.results4, go_sem, hc0, hc1, hc2, hc3, hlt, bk0]) rfl ⟨?_, unhide HR _ _ _ _⟩
    exact ret_bi (unhide HE).1.symm (unhide HE).2.symm

end Go.Proofs.YtdigphemaccodabDoor
