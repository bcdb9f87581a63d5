/- Contracts of impl.readBlock, of the recovering closure of impl.readText at a block. -/
import Derived.Test.YtdigphemaccodabDoorRows
import Derived.Test.YtdigphemaccodabDoorGen
import Derived.Test.YtdigphemaccodabDoorKeep
import Derived.Test.YtdigphemaccodabDoorInts
import Derived.Test.YtdigphemaccodabDoorUnP
import Derived.Test.YtdigphemaccodabDoorOwnN
import Derived.Test.YtdigphemaccodabDoorUnI
import Derived.Test.YtdigphemaccodabDoorUnR
import Derived.Test.YtdigphemaccodabDoorRecM
import Derived.Test.YtdigphemaccodabDoorRecI
import Derived.Test.YtdigphemaccodabDoorKindR
import Derived.Test.YtdigphemaccodabDoorBlkP
import Derived.Test.YtdigphemaccodabDoorBlkI
import Derived.WalkKit
import Derived.WalkSpells
import Derived.Defers
import Derived.Recover
import Derived.BigQuiet
import Derived.Deep.QuietTactic
import Derived.Deep.RegionWith
namespace Go.Proofs.YtdigphemaccodabDoor
open Go.RowKit
set_option linter.unusedVariables false
set_option maxRecDepth 100000

theorem openB_rec {t : ByteArray} {k : Int} : openB t k = true ↔ RecP t ∧ byteAt t 0 = k := by
  simp only [openB, Bool.and_eq_true, decide_eq_true_eq, recB_iff]
theorem bd_open {t : ByteArray} (h : bdB t = true) : (RecP t ∧ byteAt t 0 = 5) ∧ ∃ a b c d, unL (bodyT t) = [a, b, c, d] ∧ bkB ⟨a, b, c, d⟩ = true ∧ bdK t = ⟨a, b, c, d⟩ := by
  have h' := h
  simp only [bdB, Bool.and_eq_true, decide_eq_true_eq] at h'
  obtain ⟨ho, hl, hd⟩ := h'
  obtain ⟨a, b, c, d, e⟩ := fourK hl
  rw [e] at hd
  refine ⟨openB_rec.1 ho, a, b, c, d, ?_, hd, bd_yes h e⟩
  rw [← e, bdL, openL_yes ho]
theorem bd_shut {t : ByteArray} (h : bdB t = false) (ho : RecP t ∧ byteAt t 0 = 5) (hl : (unL (bodyT t)).length = 4) : ∃ a b c d, unL (bodyT t) = [a, b, c, d] ∧ bkB ⟨a, b, c, d⟩ = false := by
  have ho' := openB_rec.2 ho
  obtain ⟨a, b, c, d, e⟩ := fourK hl
  refine ⟨a, b, c, d, e, ?_⟩
  have e' : bdL t = [a, b, c, d] := by rw [← e, bdL, openL_yes ho']
  rw [← bdB_at ho' e']; exact h

set_option maxHeartbeats 1600000 in
theorem readBlock_yes (t : ByteArray) (w : World) (hs : t.size ≤ 65536) (hd : bdB t = true) :
    Calls Tryd.prog 9 #[.string t] w fun e w' => e = .returned (bV (bdK t)) ∧ Below w.heap.size w w' := by
  obtain ⟨⟨hr, hk⟩, a, b, c, d, hl, hdd, e1⟩ := bd_open hd
  rw [e1]
  have HL := hide hl
  have HDD := hide hdd
  have HR := hide hr
  have HK := hide hk
  clear hl hdd e1 hr hk hd
  have HA := hide (Joins.below_alloc1 w (.cells #[.int .i64 0, .int .i64 0, .int .i64 0, .int .i64 0] 23))
  have HV := hide (VarB.new0 w 23)
  go_enter Tryd.func9, Tryd.ntmps9
  go_wp2_with fail
  refine (readKind_yes t 5 _ hs (unhide HR) (unhide HK)).mono ?_
  rintro e w1 ⟨v, rfl, ⟨qo, qa, rfl, ho⟩, hb⟩
  have HB := hide (fr (unhide HA) hb)
  have HB1 := hide hb
  have hI := ownRN ho
  rw [unhide HL] at hI ⊢
  obtain ⟨g, off, rfl, hi0⟩ := hI 0 (by simp)
  obtain ⟨g', off', he, hi1⟩ := hI 1 (by simp)
  cases he
  obtain ⟨g', off', he, hi2⟩ := hI 2 (by simp)
  cases he
  obtain ⟨g', off', he, hi3⟩ := hI 3 (by simp)
  cases he
  simp only [List.getElem_cons_zero, List.getElem_cons_succ, Nat.add_zero] at hi0 hi1 hi2 hi3
  have hg := World.block_lt_of_cell? _ _ hi0
  clear hI ho hb
  simp only [List.length_cons, List.length_nil, Nat.zero_add, Nat.reduceAdd]
  go_wp2_with (go_at_call 14; refine (demand_true _).mono ?_; rintro e w' ⟨rfl, hw⟩; replace hw := hw.symm; subst hw)
  have HA2 := hide (Joins.below_alloc1 w1 (.cells #[.int .i64 a, .int .i64 b, .int .i64 c, .int .i64 d] 23)).drew
  have HV2 := hide (((unhide HV).below (unhide HB1)).below (unhide HA2))
  have HV3 : Hid (VarB (w1.alloc (.cells #[.int .i64 a, .int .i64 b, .int .i64 c, .int .i64 d] 23)).drew w1.heap.size 23 ⟨a, b, c, d⟩) := hide ((VarB.new w1 23 ⟨a, b, c, d⟩).below (Below.refl _ _).drew)
  have HB2 := hide (fr (unhide HB) (unhide HA2))
  go_region
  go_wp2_with fail
  refine (blockOK_impl ⟨a, b, c, d⟩ _).mono ?_
  rintro e w2 ⟨rfl, hb2⟩
  rw [unhide HDD]
  have HB3 := hide (fr (unhide HB2) hb2)
  obtain ⟨hc0, hc1, hc2, hc3⟩ := ((unhide HV2).below hb2).cells
  obtain ⟨hf0, hf1, hf2, hf3⟩ := ((unhide HV2).below hb2).free
  obtain ⟨hx0, hx1, hx2, hx3⟩ := ((unhide HV3).below hb2).cells
  have HR3 := hide (fun u v x y => below4 (unhide HB3) (Nat.le_refl _) 0 1 2 3 u v x y)
  clear hb2 hi0 hi1 hi2 hi3
  go_wp2_with (go_at_call 14; refine (demand_true _).mono ?_; rintro e w' ⟨rfl, hw⟩; replace hw := hw.symm; subst hw)
  exact bodyPost_ret (v := bV ⟨a, b, c, d⟩) (by simp [results, Tryd.results9, go_sem, hc0, hc1, hc2, hc3]) rfl ⟨rfl, unhide HR3 _ _ _ _⟩

set_option maxHeartbeats 1600000 in
theorem readBlock_no (t : ByteArray) (w : World) (hs : t.size ≤ 65536) (hd : bdB t = false) (hE : ErrW w) :
    Calls Tryd.prog 9 #[.string t] w fun e w' => (∃ u pv, e = .panicked [{ v := .iface u pv, recovered := false }]) ∧ Below w.heap.size w w' := by
  have HA := hide (Joins.below_alloc1 w (.cells #[.int .i64 0, .int .i64 0, .int .i64 0, .int .i64 0] 23))
  have HE := hide (hE.below (unhide HA))
  clear hE
  by_cases hr : RecP t ∧ byteAt t 0 = 5
  · obtain ⟨hr1, hr2⟩ := hr
    by_cases hl : (unL (bodyT t)).length = 4
    · obtain ⟨a, b, c, d, hl, hdd⟩ := bd_shut hd ⟨hr1, hr2⟩ hl
      have HL := hide hl
      have HDD := hide hdd
      have HR := hide hr1
      have HK := hide hr2
      clear hl hdd hr1 hr2 hd
      go_enter Tryd.func9, Tryd.ntmps9
      go_wp2_with fail
      refine (readKind_yes t 5 _ hs (unhide HR) (unhide HK)).mono ?_
      rintro e w1 ⟨v, rfl, ⟨qo, qa, rfl, ho⟩, hb⟩
      have HB := hide (fr (unhide HA) hb)
      have HE1 := hide ((unhide HE).below hb)
      have hI := ownRN ho
      rw [unhide HL] at hI ⊢
      obtain ⟨g, off, rfl, hi0⟩ := hI 0 (by simp)
      obtain ⟨g', off', he, hi1⟩ := hI 1 (by simp)
      cases he
      obtain ⟨g', off', he, hi2⟩ := hI 2 (by simp)
      cases he
      obtain ⟨g', off', he, hi3⟩ := hI 3 (by simp)
      cases he
      simp only [List.getElem_cons_zero, List.getElem_cons_succ, Nat.add_zero] at hi0 hi1 hi2 hi3
      have hg := World.block_lt_of_cell? _ _ hi0
      clear hI ho hb
      simp only [List.length_cons, List.length_nil, Nat.zero_add, Nat.reduceAdd]
      go_wp2_with (go_at_call 14; refine (demand_true _).mono ?_; rintro e w' ⟨rfl, hw⟩; replace hw := hw.symm; subst hw)
      have HA2 := hide (Joins.below_alloc1 w1 (.cells #[.int .i64 a, .int .i64 b, .int .i64 c, .int .i64 d] 23)).drew
      have HV3 : Hid (VarB (w1.alloc (.cells #[.int .i64 a, .int .i64 b, .int .i64 c, .int .i64 d] 23)).drew w1.heap.size 23 ⟨a, b, c, d⟩) := hide ((VarB.new w1 23 ⟨a, b, c, d⟩).below (Below.refl _ _).drew)
      have HB2 := hide (fr (unhide HB) (unhide HA2))
      go_region
      go_wp2_with fail
      refine (blockOK_impl ⟨a, b, c, d⟩ _).mono ?_
      rintro e w2 ⟨rfl, hb2⟩
      rw [unhide HDD]
      have HB3 := hide (fr (unhide HB2) hb2)
      have HE2 := hide (((unhide HE1).below (unhide HA2)).below hb2)
      clear hb2 hi0 hi1 hi2 hi3
      go_wp2_with (go_at_call 14; refine (demand_false _ (unhide HE2)).mono ?_; rintro e w' ⟨⟨u, pv, rfl⟩, hw⟩; replace hw := hw.symm; subst hw)
      exact ⟨rfl, ⟨_, _, rfl⟩, unhide HB3⟩
    · have hl3 : ((((unL (bodyT t)).length : Nat) : Int) == 4) = false := by rw [beq_eq_false_iff_ne]; omega
      have HR := hide hr1
      have HK := hide hr2
      clear hl hr1 hr2 hd
      go_enter Tryd.func9, Tryd.ntmps9
      go_wp2_with fail
      refine (readKind_yes t 5 _ hs (unhide HR) (unhide HK)).mono ?_
      rintro e w1 ⟨v, rfl, ⟨qo, qa, rfl, ho⟩, hb⟩
      have HB := hide (fr (unhide HA) hb)
      have HE1 := hide ((unhide HE).below hb)
      clear ho hb
      go_wp2_with (go_at_call 14; refine (demand_false _ (unhide HE1)).mono ?_; rintro e w' ⟨⟨u, pv, rfl⟩, hw⟩; replace hw := hw.symm; subst hw)
      exact ⟨rfl, ⟨_, _, rfl⟩, unhide HB⟩
  · go_enter Tryd.func9, Tryd.ntmps9
    go_wp2_with fail
    refine (readKind_no t 5 _ hs hr (unhide HE)).mono ?_
    rintro e w1 ⟨⟨u, pv, rfl⟩, hb⟩
    have HB := hide (fr (unhide HA) hb)
    clear hb
    go_wp2
    exact ⟨rfl, ⟨_, _, rfl⟩, unhide HB⟩

theorem catchB_panicking (p : Addr) (x : Int) (u : TypeId) (pv : Value) (older : List PanicEntry) (w : World) (hc : w.cell? p = some (.int .i64 x)) (hz : w.frozen? p = false) :
    CallsD Tryd.prog 12 #[.pointer (some p)] (.panicking ({ v := .iface u pv, recovered := false } :: older)) w fun e u' w' =>
      e = .returned (.tuple #[]) ∧ u' = .panicking ({ v := .iface u pv, recovered := true } :: older) ∧ w' = w.setCell p (.int .i64 3) := by
  refine callsD_of_wpS Tryd.func12 rfl fun c₀ cs hu => ?_
  apply wpS_seq
  apply wpS_region
  simp [wpOpsS, go_sem, recoverD, hu, Tryd.ntmps12, Exit.thenS]
  refine wpS_cond (t := true) (by simp [Act.eval, Array.replicate]) ?_
  simp only [if_true]
  apply wpS_region
  simp [wpOpsS, go_sem, hc, hz, bodyPostS, results, Tryd.results12]

theorem catchB_idle (p : Addr) (w : World) :
    CallsD Tryd.prog 12 #[.pointer (some p)] .returning w fun e u' w' => e = .returned (.tuple #[]) ∧ u' = .returning ∧ w' = w := by
  refine callsD_of_wpS Tryd.func12 rfl fun c₀ cs hu => ?_
  apply wpS_seq
  apply wpS_region
  simp [wpOpsS, go_sem, recoverD, hu, Tryd.ntmps12, Exit.thenS]
  refine wpS_cond (t := false) (by simp [Act.eval, Array.replicate]) ?_
  simp only [Bool.false_eq_true, if_false]
  refine wpS_of_wp (wp_skip ?_)
  cases c₀
  simp_all [bodyPostS, results, Tryd.results12]

end Go.Proofs.YtdigphemaccodabDoor
