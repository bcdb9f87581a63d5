import Derived.Test.YtdfinapjgffjiabGreatDoorRows
import Derived.Test.YtdfinapjgffjiabGreatDoorPart1
import Derived.Test.YtdfinapjgffjiabGreatDoorPart4
import Derived.Test.YtdfinapjgffjiabGreatDoorPart2
import Derived.Test.YtdfinapjgffjiabGreatDoorPart10
import Derived.Test.YtdfinapjgffjiabGreatDoorPart11
import Derived.Test.YtdfinapjgffjiabGreatDoorPart8
import Derived.WalkKit
import Derived.WalkSpells
import Derived.Defers
import Derived.Recover
import Derived.BigQuiet
import Derived.Deep.QuietTactic
import Derived.Deep.RegionWith
import Derived.Test.YtdfinapjgffjiabGreatDoorPart3
import Derived.Test.YtdfinapjgffjiabGreatDoorPart6
import Derived.Test.YtdfinapjgffjiabGreatDoorPart9
import Derived.Test.YtdfinapjgffjiabGreatDoorPart12
import Derived.KernelRfl
import Derived.Deep.MidRow
import Derived.WalkMore
import Derived.Deep.RegionHeld3
import Derived.Deep.CutRange

/- Contracts of impl.readBlock, of the recovering closure of impl.readText at a block. -/
namespace Go.Proofs.YtdfinapjgffjiabGreatDoor
open Go.RowKit
set_option linter.unusedVariables false
set_option maxRecDepth 100000

theorem openB_rec {t : ByteArray} {k : Int} : openB t k = true ↔ RecP t ∧ byteAt t 0 = k := by
  simp only [openB, Bool.and_eq_true, decide_eq_true_eq, recB_iff]
theorem bd_open {t : ByteArray} (h : bdB t = true) : (RecP t ∧ byteAt t 0 = 5) ∧ ∃ a b c d, unL (bodyT t) = [a, b, c, d] ∧ bkB ⟨a, b, c, d⟩ = true ∧ bdK t = ⟨a, b, c, d⟩ := by
  have h' := h
  simp only [bdB, Bool.and_eq_true, decide_eq_true_eq] at h'
  obtain ⟨ho, hl, hd⟩ := h'
  obtain ⟨a, b, c, d, e⟩ := fourK hl
  rw [e] at hd
  refine ⟨openB_rec.1 ho, a, b, c, d, ?_, hd, bd_yes h e⟩
  rw [← e, bdL, openL_yes ho]
theorem bd_shut {t : ByteArray} (h : bdB t = false) (ho : RecP t ∧ byteAt t 0 = 5) (hl : (unL (bodyT t)).length = 4) : ∃ a b c d, unL (bodyT t) = [a, b, c, d] ∧ bkB ⟨a, b, c, d⟩ = false := by
  have ho' := openB_rec.2 ho
  obtain ⟨a, b, c, d, e⟩ := fourK hl
  refine ⟨a, b, c, d, e, ?_⟩
  have e' : bdL t = [a, b, c, d] := by rw [← e, bdL, openL_yes ho']
  rw [← bdB_at ho' e']; exact h

set_option maxHeartbeats 1600000 in
theorem readBlock_yes (t : ByteArray) (w : World) (hs : t.size ≤ 65536) (hd : bdB t = true) :
    Calls Tryz.prog 97 #[.string t] w fun e w' => e = .returned (bV (bdK t)) ∧ Below w.heap.size w w' := by
  obtain ⟨⟨hr, hk⟩, a, b, c, d, hl, hdd, e1⟩ := bd_open hd
  rw [e1]
  have HL := hide hl
  have HDD := hide hdd
  have HR := hide hr
  have HK := hide hk
  clear hl hdd e1 hr hk hd
  have HA := hide (Joins.below_alloc1 w (.cells #[.int .i64 0, .int .i64 0, .int .i64 0, .int .i64 0] 80))
  have HV := hide (VarB.new0 w 80)
  go_enter Tryz.func97, Tryz.ntmps97
  go_wp2_with fail
  refine (readKind_yes t 5 _ hs (unhide HR) (unhide HK)).mono ?_
  rintro e w1 ⟨v, rfl, ⟨qo, qa, rfl, ho⟩, hb⟩
  have HB := hide (fr (unhide HA) hb)
  have HB1 := hide hb
  have hI := ownRN ho
  rw [unhide HL] at hI ⊢
  obtain ⟨g, off, rfl, hi0⟩ := hI 0 (by simp)
  obtain ⟨g', off', he, hi1⟩ := hI 1 (by simp)
  cases he
  obtain ⟨g', off', he, hi2⟩ := hI 2 (by simp)
  cases he
  obtain ⟨g', off', he, hi3⟩ := hI 3 (by simp)
  cases he
  simp only [List.getElem_cons_zero, List.getElem_cons_succ, Nat.add_zero] at hi0 hi1 hi2 hi3
  have hg := World.block_lt_of_cell? _ _ hi0
  clear hI ho hb
  simp only [List.length_cons, List.length_nil, Nat.zero_add, Nat.reduceAdd]
  go_wp2_with (go_at_call 115; refine (demand_true _).mono ?_; rintro e w' ⟨rfl, hw⟩; replace hw := hw.symm; subst hw)
  have HA2 := hide (Joins.below_alloc1 w1 (.cells #[.int .i64 a, .int .i64 b, .int .i64 c, .int .i64 d] 80)).drew
  have HV2 := hide (((unhide HV).below (unhide HB1)).below (unhide HA2))
  have HV3 : Hid (VarB (w1.alloc (.cells #[.int .i64 a, .int .i64 b, .int .i64 c, .int .i64 d] 80)).drew w1.heap.size 80 ⟨a, b, c, d⟩) := hide ((VarB.new w1 80 ⟨a, b, c, d⟩).below (Below.refl _ _).drew)
  have HB2 := hide (fr (unhide HB) (unhide HA2))
  go_region
  go_wp2_with fail
  refine (blockOK_impl ⟨a, b, c, d⟩ _).mono ?_
  rintro e w2 ⟨rfl, hb2⟩
  rw [unhide HDD]
  have HB3 := hide (fr (unhide HB2) hb2)
  obtain ⟨hc0, hc1, hc2, hc3⟩ := ((unhide HV2).below hb2).cells
  obtain ⟨hf0, hf1, hf2, hf3⟩ := ((unhide HV2).below hb2).free
  obtain ⟨hx0, hx1, hx2, hx3⟩ := ((unhide HV3).below hb2).cells
  have HR3 := hide (fun u v x y => below4 (unhide HB3) (Nat.le_refl _) 0 1 2 3 u v x y)
  clear hb2 hi0 hi1 hi2 hi3
  go_wp2_with (go_at_call 115; refine (demand_true _).mono ?_; rintro e w' ⟨rfl, hw⟩; replace hw := hw.symm; subst hw)
  exact bodyPost_ret (v := bV ⟨a, b, c, d⟩) (by simp [results, Tryz.results97, go_sem, hc0, hc1, hc2, hc3]) rfl ⟨rfl, unhide HR3 _ _ _ _⟩

set_option maxHeartbeats 1600000 in
theorem readBlock_no (t : ByteArray) (w : World) (hs : t.size ≤ 65536) (hd : bdB t = false) (hE : ErrW w) :
    Calls Tryz.prog 97 #[.string t] w fun e w' => (∃ u pv, e = .panicked [{ v := .iface u pv, recovered := false }]) ∧ Below w.heap.size w w' := by
  have HA := hide (Joins.below_alloc1 w (.cells #[.int .i64 0, .int .i64 0, .int .i64 0, .int .i64 0] 80))
  have HE := hide (hE.below (unhide HA))
  clear hE
  by_cases hr : RecP t ∧ byteAt t 0 = 5
  · obtain ⟨hr1, hr2⟩ := hr
    by_cases hl : (unL (bodyT t)).length = 4
    · obtain ⟨a, b, c, d, hl, hdd⟩ := bd_shut hd ⟨hr1, hr2⟩ hl
      have HL := hide hl
      have HDD := hide hdd
      have HR := hide hr1
      have HK := hide hr2
      clear hl hdd hr1 hr2 hd
      go_enter Tryz.func97, Tryz.ntmps97
      go_wp2_with fail
      refine (readKind_yes t 5 _ hs (unhide HR) (unhide HK)).mono ?_
      rintro e w1 ⟨v, rfl, ⟨qo, qa, rfl, ho⟩, hb⟩
      have HB := hide (fr (unhide HA) hb)
      have HE1 := hide ((unhide HE).below hb)
      have hI := ownRN ho
      rw [unhide HL] at hI ⊢
      obtain ⟨g, off, rfl, hi0⟩ := hI 0 (by simp)
      obtain ⟨g', off', he, hi1⟩ := hI 1 (by simp)
      cases he
      obtain ⟨g', off', he, hi2⟩ := hI 2 (by simp)
      cases he
      obtain ⟨g', off', he, hi3⟩ := hI 3 (by simp)
      cases he
      simp only [List.getElem_cons_zero, List.getElem_cons_succ, Nat.add_zero] at hi0 hi1 hi2 hi3
      have hg := World.block_lt_of_cell? _ _ hi0
      clear hI ho hb
      simp only [List.length_cons, List.length_nil, Nat.zero_add, Nat.reduceAdd]
      go_wp2_with (go_at_call 115; refine (demand_true _).mono ?_; rintro e w' ⟨rfl, hw⟩; replace hw := hw.symm; subst hw)
      have HA2 := hide (Joins.below_alloc1 w1 (.cells #[.int .i64 a, .int .i64 b, .int .i64 c, .int .i64 d] 80)).drew
      have HV3 : Hid (VarB (w1.alloc (.cells #[.int .i64 a, .int .i64 b, .int .i64 c, .int .i64 d] 80)).drew w1.heap.size 80 ⟨a, b, c, d⟩) := hide ((VarB.new w1 80 ⟨a, b, c, d⟩).below (Below.refl _ _).drew)
      have HB2 := hide (fr (unhide HB) (unhide HA2))
      go_region
      go_wp2_with fail
      refine (blockOK_impl ⟨a, b, c, d⟩ _).mono ?_
      rintro e w2 ⟨rfl, hb2⟩
      rw [unhide HDD]
      have HB3 := hide (fr (unhide HB2) hb2)
      have HE2 := hide (((unhide HE1).below (unhide HA2)).below hb2)
      clear hb2 hi0 hi1 hi2 hi3
      go_wp2_with (go_at_call 115; refine (demand_false _ (unhide HE2)).mono ?_; rintro e w' ⟨⟨u, pv, rfl⟩, hw⟩; replace hw := hw.symm; subst hw)
      exact ⟨rfl, ⟨_, _, rfl⟩, unhide HB3⟩
    · have hl3 : ((((unL (bodyT t)).length : Nat) : Int) == 4) = false := by rw [beq_eq_false_iff_ne]; omega
      have HR := hide hr1
      have HK := hide hr2
      clear hl hr1 hr2 hd
      go_enter Tryz.func97, Tryz.ntmps97
      go_wp2_with fail
      refine (readKind_yes t 5 _ hs (unhide HR) (unhide HK)).mono ?_
      rintro e w1 ⟨v, rfl, ⟨qo, qa, rfl, ho⟩, hb⟩
      have HB := hide (fr (unhide HA) hb)
      have HE1 := hide ((unhide HE).below hb)
      clear ho hb
      go_wp2_with (go_at_call 115; refine (demand_false _ (unhide HE1)).mono ?_; rintro e w' ⟨⟨u, pv, rfl⟩, hw⟩; replace hw := hw.symm; subst hw)
      exact ⟨rfl, ⟨_, _, rfl⟩, unhide HB⟩
  · go_enter Tryz.func97, Tryz.ntmps97
    go_wp2_with fail
    refine (readKind_no t 5 _ hs hr (unhide HE)).mono ?_
    rintro e w1 ⟨⟨u, pv, rfl⟩, hb⟩
    have HB := hide (fr (unhide HA) hb)
    clear hb
    go_wp2
    exact ⟨rfl, ⟨_, _, rfl⟩, unhide HB⟩

theorem catchB_panicking (p : Addr) (x : Int) (u : TypeId) (pv : Value) (older : List PanicEntry) (w : World) (hc : w.cell? p = some (.int .i64 x)) (hz : w.frozen? p = false) :
    CallsD Tryz.prog 113 #[.pointer (some p)] (.panicking ({ v := .iface u pv, recovered := false } :: older)) w fun e u' w' =>
      e = .returned (.tuple #[]) ∧ u' = .panicking ({ v := .iface u pv, recovered := true } :: older) ∧ w' = w.setCell p (.int .i64 3) := by
  refine callsD_of_wpS Tryz.func113 rfl fun c₀ cs hu => ?_
  apply wpS_seq
  apply wpS_region
  simp [wpOpsS, go_sem, recoverD, hu, Tryz.ntmps113, Exit.thenS]
  refine wpS_cond (t := true) (by simp [Act.eval, Array.replicate]) ?_
  simp only [if_true]
  apply wpS_region
  simp [wpOpsS, go_sem, hc, hz, bodyPostS, results, Tryz.results113]

theorem catchB_idle (p : Addr) (w : World) :
    CallsD Tryz.prog 113 #[.pointer (some p)] .returning w fun e u' w' => e = .returned (.tuple #[]) ∧ u' = .returning ∧ w' = w := by
  refine callsD_of_wpS Tryz.func113 rfl fun c₀ cs hu => ?_
  apply wpS_seq
  apply wpS_region
  simp [wpOpsS, go_sem, recoverD, hu, Tryz.ntmps113, Exit.thenS]
  refine wpS_cond (t := false) (by simp [Act.eval, Array.replicate]) ?_
  simp only [Bool.false_eq_true, if_false]
  refine wpS_of_wp (wp_skip ?_)
  cases c₀
  simp_all [bodyPostS, results, Tryz.results113]

end Go.Proofs.YtdfinapjgffjiabGreatDoor

/- Contracts of impl.readText at a block, impl.DecodeBlock. -/
namespace Go.Proofs.YtdfinapjgffjiabGreatDoor
open Go.RowKit
set_option linter.unusedVariables false
set_option maxRecDepth 100000

theorem two_newB {w w1 : World} (hb : Below ((w.alloc (.cells #[.int .i64 0, .int .i64 0, .int .i64 0, .int .i64 0] 80)).alloc (.cells #[.int .i64 0] 3)).heap.size ((w.alloc (.cells #[.int .i64 0, .int .i64 0, .int .i64 0, .int .i64 0] 80)).alloc (.cells #[.int .i64 0] 3)) w1) : VarB w1 w.heap.size 80 bk0 ∧ w1.heap[w.heap.size + 1]? = some (.cells #[.int .i64 0] 3 (0, 0)) := by
  constructor
  · exact ((VarB.new0 w _).below (Joins.below_alloc1 _ _)).below hb
  · rw [hb.block _ (by simp)]
    have := heap_alloc_new (w.alloc (.cells #[.int .i64 0, .int .i64 0, .int .i64 0, .int .i64 0] 80)) (.cells #[.int .i64 0] 3)
    simp only [World.size_alloc] at this
    exact this

set_option maxHeartbeats 1600000 in
theorem readTextB_yes (s : ByteArray) (w : World) (hs : s.size ≤ 65536) (hd : bdB s = true) :
    Calls Tryz.prog 96 #[.string s, .func (.func 97) #[] #[]] w fun e w' => e = .returned (.tuple #[bV (bdK s), .int .i64 0]) ∧ Below w.heap.size w w' := by
  have hmf : ∀ (fn : Fn) (first cap : Array Value) (w : World), (Instr.makeFunc fn first cap).run Tryz.prog w = .ok (.func fn first cap) w := fun _ _ _ _ => rfl
  have HD := hide hd
  clear hd
  go_enter_defers Tryz.func96, Tryz.ntmps96
  go_wp2_with fail
  refine (readBlock_yes s _ hs (unhide HD)).mono ?_
  rintro e w1 ⟨rfl, hb1⟩
  obtain ⟨hv, hblk⟩ := two_newB hb1
  obtain ⟨v0, v1, v2, v3⟩ := hv.cells
  obtain ⟨f0, f1, f2, f3⟩ := hv.free
  have hc0 := Joins.cell_of_block hblk 0
  have hf0 := Joins.unfrozen_of_block hblk 0
  simp only [List.size_toArray, List.length_cons, List.length_nil, Nat.zero_add, Nat.lt_add_one, getElem?_pos, List.getElem_toArray, List.getElem_cons_zero] at hc0
  have HB := hide (fr (Joins.below_alloc2 w _ _) hb1)
  clear hb1 hblk hv
  go_wp2
  refine leaves_cons (f := 113) (args := #[.pointer (some ⟨w.heap.size + 1, 0, none⟩)]) (by simp) (by simp [go_sem]) ?_
  refine (catchB_idle ⟨w.heap.size + 1, 0, none⟩ _).mono ?_
  rintro e u' w'' ⟨rfl, rfl, rfl⟩
  simp [Leaves, settle, results, Tryz.results96, go_sem, v0, v1, v2, v3, hc0, bk0]
  exact (below4 (unhide HB) (Nat.le_refl _) 0 1 2 3 _ _ _ _).setCell (p := ⟨w.heap.size + 1, 0, none⟩) (Nat.le_succ _) _

set_option maxHeartbeats 1600000 in
theorem readTextB_no (s : ByteArray) (w : World) (hs : s.size ≤ 65536) (hd : bdB s = false) (hE : ErrW w) :
    Calls Tryz.prog 96 #[.string s, .func (.func 97) #[] #[]] w fun e w' => e = .returned (.tuple #[bV bk0, .int .i64 3]) ∧ Below w.heap.size w w' := by
  have hmf : ∀ (fn : Fn) (first cap : Array Value) (w : World), (Instr.makeFunc fn first cap).run Tryz.prog w = .ok (.func fn first cap) w := fun _ _ _ _ => rfl
  have HD := hide hd
  have HE := hide (hE.below (Joins.below_alloc2 w (.cells #[.int .i64 0, .int .i64 0, .int .i64 0, .int .i64 0] 80) (.cells #[.int .i64 0] 3)))
  clear hd hE
  go_enter_defers Tryz.func96, Tryz.ntmps96
  go_wp2_with fail
  refine (readBlock_no s _ hs (unhide HD) (unhide HE)).mono ?_
  rintro e w1 ⟨⟨u, pv, rfl⟩, hb1⟩
  obtain ⟨hv, hblk⟩ := two_newB hb1
  obtain ⟨v0, v1, v2, v3⟩ := hv.cells
  have hc0 := Joins.cell_of_block hblk 0
  have hf0 := Joins.unfrozen_of_block hblk 0
  simp only [List.size_toArray, List.length_cons, List.length_nil, Nat.zero_add, Nat.lt_add_one, getElem?_pos, List.getElem_toArray, List.getElem_cons_zero] at hc0
  have HB := hide (fr (Joins.below_alloc2 w _ _) hb1)
  clear hb1 hblk hv
  go_wp2
  refine leaves_cons (f := 113) (args := #[.pointer (some ⟨w.heap.size + 1, 0, none⟩)]) (by simp) (by simp [go_sem]) ?_
  refine (catchB_panicking ⟨w.heap.size + 1, 0, none⟩ 0 u pv [] _ hc0 hf0).mono ?_
  rintro e u' w'' ⟨rfl, rfl, rfl⟩
  simp [Leaves, settle, results, Tryz.results96, go_sem, v0, v1, v2, v3, hc0, bk0]
  exact (unhide HB).setCell (p := ⟨w.heap.size + 1, 0, none⟩) (Nat.le_succ _) _

theorem readTextB_long (s : ByteArray) (w : World) (hs : 65536 < s.size) (f : Value) :
    Calls Tryz.prog 96 #[.string s, f] w fun e w' => e = .returned (.tuple #[bV bk0, .int .i64 2]) ∧ Below w.heap.size w w' := by
  go_enter_defers Tryz.func96, Tryz.ntmps96
  go_wp2
  simp [bodyPostD, Leaves, results, Tryz.results96, go_sem, bk0]
  exact Joins.below_alloc2 _ _ _

set_option maxHeartbeats 1600000 in
theorem decodeBlock_impl (t : ByteArray) (w : World) (hE : ErrW w) : Calls Tryz.prog 77 #[.string t] w fun e w' => e = .returned (.tuple #[bV (bcK t), .int .i64 (bcC t)]) ∧ Below w.heap.size w w' := by
  have hmf : ∀ (fn : Fn) (first cap : Array Value) (w : World), (Instr.makeFunc fn first cap).run Tryz.prog w = .ok (.func fn first cap) w := fun _ _ _ _ => rfl
  have HA := hide (Joins.below_alloc1 w (.cells #[.int .i64 0, .int .i64 0, .int .i64 0, .int .i64 0] 80))
  have HE := hide (hE.below (unhide HA))
  have HV := hide (VarB.new0 w 80)
  clear hE
  obtain ⟨K, HK⟩ : ∃ K : Prop, Hid K := ⟨True, trivial⟩
  have key : ∀ (K1 : Bk) (d : Int), (bcK t = K1 ∧ bcC t = d) → (∀ W, ErrW W → Calls Tryz.prog 96 #[.string t, .func (.func 97) #[] #[]] W fun e w' => e = .returned (.tuple #[bV K1, .int .i64 d]) ∧ Below W.heap.size W w') →
      Calls Tryz.prog 77 #[.string t] w fun e w' => e = .returned (.tuple #[bV (bcK t), .int .i64 (bcC t)]) ∧ Below w.heap.size w w' := by
    intro K1 d hq hc
    have HQ := hide hq
    have HC := hide hc
    clear hq hc
    go_enter Tryz.func77, Tryz.ntmps77
    go_wp2_with fail
    refine (unhide HC _ (unhide HE)).mono ?_
    rintro e w1 ⟨rfl, hb⟩
    have HV1 := hide ((unhide HV).below hb)
    obtain ⟨hc0, hc1, hc2, hc3⟩ := (unhide HV1).cells
    obtain ⟨hf0, hf1, hf2, hf3⟩ := (unhide HV1).free
    have HB := hide (fun u v x y => below4 (fr (unhide HA) hb) (Nat.le_refl _) 0 1 2 3 u v x y)
    clear hb
    go_wp2
    refine bodyPost_ret (v := .tuple #[bV K1, .int .i64 d]) (by simp [results, Tryz.results77, go_sem, hc0, hc1, hc2, hc3]) rfl ⟨?_, unhide HB _ _ _ _⟩
    exact ret_bi (unhide HQ).1.symm (unhide HQ).2.symm
  by_cases h1 : 65536 < t.size
  · exact key _ _ (bc_long h1) (fun W _ => readTextB_long t W h1 _)
  · by_cases hd : bdB t = true
    · exact key _ _ (bc_yes h1 hd) (fun W _ => readTextB_yes t W (by omega) hd)
    · rw [Bool.not_eq_true] at hd
      exact key _ _ (bc_no h1 hd) (fun W hW => readTextB_no t W (by omega) hd hW)

end Go.Proofs.YtdfinapjgffjiabGreatDoor

/- Contract of the program's blocksSeen. -/
namespace Go.Proofs.YtdfinapjgffjiabGreatDoor
open Go.RowKit
set_option linter.unusedVariables false
set_option maxRecDepth 100000

theorem infoL : (Tryz.prog.info? 80).map (fun i => (i.zero, i.size, i.bytes)) = some (some (.agg #[.int .i64 0, .int .i64 0, .int .i64 0, .int .i64 0]), 4, 32) := by kernel_rfl
theorem made4 : (madeCells #[Value.int .i64 0, Value.int .i64 0, Value.int .i64 0, Value.int .i64 0] 16).toList = bksV [bk0, bk0, bk0, bk0] := by
  first
    | rfl
    | (simp [madeCells, bksV, bk0]; rfl)
theorem bksOf_at (ss : List ByteArray) (xs : List Wr) (h : Int) {k : Nat} (hk : k < 4) : (bksOf ss xs h).getD k bk0 = bdK (readV ss xs h (1 + (k : Int))) := by
  rcases (show k = 0 ∨ k = 1 ∨ k = 2 ∨ k = 3 by omega) with rfl | rfl | rfl | rfl <;> rfl
theorem list4 {l m : List Bk} (hl : l.length = 4) (hm : m.length = 4) (h : ∀ j, j < 4 → l.getD j bk0 = m.getD j bk0) : l = m := by
  apply List.ext_getElem (hl.trans hm.symm)
  intro i h1 h2
  have := h i (by omega)
  simpa [h1, h2] using this
theorem bcK_right {T : ByteArray} (h : T.size ≤ 80) : bcK T = bdK T := if_neg (by omega)
/-- What is between two of its rounds. -/
structure SeI (w wr : World) (D : Nat) (dv dx : Value) (g : Nat) (l : List Bk) : Prop where
  below : Below w.heap.size w wr
  d : VarD wr D dv dx
  o : wr.ownsRow (D + 1) 80 4 (.slice (some ⟨g, 0, none⟩) 4 4) 4 (bksV l)
  n : l.length = 4
  g : D + 1 ≤ g
theorem SeI.next {w wr w' : World} {D : Nat} {dv dx : Value} {g : Nat} {l : List Bk} (k : SeI w wr D dv dx g l) (hb : Below wr.heap.size wr w') : SeI w w' D dv dx g l := ⟨fr k.below hb, k.d.below hb, own_below k.o hb, k.n, k.g⟩
theorem SeI.put {w wr : World} {D : Nat} {dv dx : Value} {g : Nat} {l : List Bk} (h : SeI w wr D dv dx g l) (hw : w.heap.size ≤ D) {k : Nat} (hk : k < 4) (y : Bk) :
    SeI w ((((wr.setCell ⟨g, k * 4, none⟩ (.int .i64 y.ver)).setCell ⟨g, k * 4 + 1, none⟩ (.int .i64 y.mbal)).setCell ⟨g, k * 4 + 2, none⟩ (.int .i64 y.bal)).setCell ⟨g, k * 4 + 3, none⟩ (.int .i64 y.inp)) D dv dx g (l.set k y) := by
  have hgw : w.heap.size ≤ g := by have := h.g; omega
  have hk' : Keep (fun j => j = g) wr ((((wr.setCell ⟨g, k * 4, none⟩ (.int .i64 y.ver)).setCell ⟨g, k * 4 + 1, none⟩ (.int .i64 y.mbal)).setCell ⟨g, k * 4 + 2, none⟩ (.int .i64 y.bal)).setCell ⟨g, k * 4 + 3, none⟩ (.int .i64 y.inp)) :=
    ((((Keep.refl (fun j => j = g) wr).setCell (p := ⟨g, k * 4, none⟩) rfl _).setCell (p := ⟨g, k * 4 + 1, none⟩) rfl _).setCell (p := ⟨g, k * 4 + 2, none⟩) rfl _).setCell (p := ⟨g, k * 4 + 3, none⟩) rfl _
  exact ⟨below4 h.below hgw _ _ _ _ _ _ _ _, h.d.keep hk' (by have := h.g; omega), own_put h.o (by rw [h.n]; exact hk) y, by simp [h.n], h.g⟩

set_option maxHeartbeats 3200000 in
theorem blocksSeen_any (ao bo : Option Addr) (ca cb : Nat) (ss : List ByteArray) (xs : List Wr) (h : Int) (w : World) (hd : diskB ss xs = true) (h1 : Ss w ao ss) (h2 : Ios w bo xs) (hE : ErrW w) :
    Calls Tryz.prog 52 #[.agg #[.slice ao ss.length ca, .slice bo xs.length cb], .int .i64 h] w fun e w' => ∃ g, e = .returned (.slice (some ⟨g, 0, none⟩) 4 4) ∧ OwnR w' w.heap.size 80 4 (.slice (some ⟨g, 0, none⟩) 4 4) 4 (bksV (bksOf ss xs h)) ∧ Below w.heap.size w w' := by
  have H1 := hide h1
  have H2 := hide h2
  have HE := hide hE
  have HD := hide hd
  have HA := hide (Joins.below_alloc1 w (.cells #[.slice ao ss.length ca, .slice bo xs.length cb] 29))
  have HV := hide (VarD.new w (.slice ao ss.length ca) (.slice bo xs.length cb))
  clear h1 h2 hE hd
  obtain ⟨i0, hi, hz0, hz1, hz2⟩ := info_parts infoL
  go_enter Tryz.func52, Tryz.ntmps52
  go_wp2_with (first | (at_make; refine wpList_make_full _ rfl _ _ 53 rfl (w.heap.size + 1) 80 i0 _ 4 Tryz.underlying53 hi hz0 hz1 _ _ _ _ 4 rfl rfl rfl rfl ?c1 ?c2 ?c3 ?_))
  case c1 => rw [hz2]; omega
  case c2 => unfold maxLen; omega
  case c3 => simp
  intro w1 hown hgrow
  replace hown : w1.ownsRow (w.heap.size + 1) 80 4 (.slice (some ⟨w.heap.size + 1, 0, none⟩) 4 4) 4 (bksV [bk0, bk0, bk0, bk0]) := by rw [show bksV [bk0, bk0, bk0, bk0] = (madeCells #[Value.int .i64 0, Value.int .i64 0, Value.int .i64 0, Value.int .i64 0] 16).toList from made4.symm]; simpa using hown
  have hB : Below (w.alloc (.cells #[.slice ao ss.length ca, .slice bo xs.length cb] 29)).heap.size (w.alloc (.cells #[.slice ao ss.length ca, .slice bo xs.length cb] 29)) w1 := (Below.refl _ _).grown hgrow (Nat.le_refl _) (fun _ h => by cases h)
  have E1 : Hid (SeI w w1 w.heap.size (.slice ao ss.length ca) (.slice bo xs.length cb) (w.heap.size + 1) [bk0, bk0, bk0, bk0]) := hide ⟨fr (unhide HA) hB, (unhide HV).below hB, hown, rfl, Nat.le_refl _⟩
  clear hown hB hgrow HA HV
  revert E1
  generalize hG : w.heap.size + 1 = G
  replace hG := hide hG
  intro E1
  go_wp2
  go_loopw [6, 10] (fun _ i wr => ∃ (k : Nat) (l : List Bk), k ≤ 4 ∧ i = .int .i64 k ∧ Hid (SeI w wr w.heap.size (.slice ao ss.length ca) (.slice bo xs.length cb) G l) ∧ Hid (∀ j, j < k → l.getD j bk0 = (bksOf ss xs h).getD j bk0)) (fun _ i _ => 4 - (intOf i).toNat)
  case atStart => exact ⟨0, _, Nat.zero_le _, rfl, E1, hide (fun j hj => absurd hj (Nat.not_lt_zero _))⟩
  case round =>
    obtain ⟨k, l, hk, rfl, ER, HP⟩ := hrel
    by_cases hlt : k < 4
    · have hki : (k : Int) < 4 := by omega
      obtain ⟨T, HT⟩ : ∃ T, Hid (readV ss xs h (1 + (k : Int)) = T) := ⟨_, hide rfl⟩
      have HTZ : Hid (T.size ≤ 80) := hide (by rw [← unhide HT]; exact readV_size (unhide HD) h _)
      obtain ⟨d0, d1⟩ := (unhide ER).d.cells
      have wr1 : IntKind.i64.wrap (1 + (k : Int)) = 1 + (k : Int) := by rw [IntKind.wrap_i64]; omega
      go_wp2_with fail
      refine (seenAt ao bo ca cb ss xs h (1 + (k : Int)) T _ (unhide HD) (by omega) (by omega) (unhide HT) ((unhide H1).below (unhide ER).below) ((unhide H2).below (unhide ER).below)).mono ?_
      rintro e w2 ⟨rfl, hb2⟩
      have E2 := hide ((unhide ER).next hb2)
      clear hb2 d0 d1
      go_wp2_with fail
      refine (decodeBlock_impl T _ ((unhide HE).below (unhide E2).below)).mono ?_
      rintro e w3 ⟨rfl, hb3⟩
      rw [bcK_right (unhide HTZ)]
      have E3 := hide ((unhide E2).next hb3)
      have HB : Hid (bdK T = (bksOf ss xs h).getD k bk0) := hide (by rw [bksOf_at ss xs h hlt, unhide HT])
      clear hb3
      revert HB
      generalize bdK T = y
      intro HB
      have E4 := hide ((unhide E3).put (Nat.le_refl _) hlt y)
      have hkl : k < l.length := by rw [(unhide E3).n]; exact hlt
      obtain ⟨b', off', eb, _, g0, g1, g2, g3⟩ := (ownBks (B := w.heap.size + 1) (e := 80) (cap := 4) (xs := l) (by rw [(unhide E3).n]; exact .inr ⟨by omega, (unhide E3).o⟩)).get k hkl
      simp only [Option.some.injEq, Addr.mk.injEq, and_true] at eb
      obtain ⟨rfl, rfl⟩ := eb
      simp only [Nat.zero_add] at g0 g1 g2 g3
      have fz := (row_free (n := 3) (.inr ⟨by omega, (unhide E3).o⟩)).1
      have hnn : l.length = 4 := (unhide E3).n
      have HPP : Hid (∀ j, j < k + 1 → (l.set k y).getD j bk0 = (bksOf ss xs h).getD j bk0) := hide (fun j hj => by
        by_cases e : j = k
        · subst e; rw [← unhide HB]; simp [hkl]
        · rw [← unhide HP j (by omega)]; simp [Ne.symm e])
      clear hkl hnn
      have f0 := fz (k * 4)
      have f1 := fz (k * 4 + 1)
      have f2 := fz (k * 4 + 2)
      have f3 := fz (k * 4 + 3)
      clear fz
      go_wp2
      go_roundw
      case rel => exact ⟨k + 1, l.set k y, by omega, by go_num, E4, HPP⟩
      case measure => simp [intOf]; omega
    · have hk4 : k = 4 := by omega
      have HL : Hid (l = bksOf ss xs h) := hide (list4 (unhide ER).n rfl (fun j hj => unhide HP j (by omega)))
      have hki : ¬ (k : Int) < 4 := by omega
      clear hk4
      go_wp2
      go_ret
      refine ⟨_, rfl, ?_, (unhide ER).below⟩
      rw [← unhide HL]
      exact .inr ⟨by omega, own_base (unhide ER).o (Nat.le_succ _)⟩
end Go.Proofs.YtdfinapjgffjiabGreatDoor

/- Contract of the program's openLeaderStore. -/
namespace Go.Proofs.YtdfinapjgffjiabGreatDoor
open Go.RowKit
set_option linter.unusedVariables false
set_option maxRecDepth 100000

abbrev set14 (w : World) (x : Nat) (q : Pxs) (b s d : Value) (L : Ld) : World := ((((((set8 w x q).setCell ⟨x, 8, none⟩ b).setCell ⟨x, 9, none⟩ s).setCell ⟨x, 10, none⟩ d).setCell ⟨x, 11, none⟩ (.int .i64 L.ver)).setCell ⟨x, 12, none⟩ (.int .i64 L.own)).setCell ⟨x, 13, none⟩ (.int .i64 L.gen)
theorem keep14 (W : World) (x : Nat) (q : Pxs) (b s d : Value) (L : Ld) : Keep (fun j => j = x) W (set14 W x q b s d L) :=
  (((keep_set8 W x q).trans (keep_row _ x b)).trans (keep_disk _ x s d)).trans (keep_lead _ x _ _ _)
/-- The call's own variables: the disk, the answer. -/
structure OpI (w W : World) (D : Nat) (dv dx : Value) : Prop where
  below : Below w.heap.size w W
  d : VarD W D dv dx
  r : VarS W (D + 1) p00 (.slice none 0 0) (.slice none 0 0) (.slice none 0 0) ld0
  k : w.heap.size ≤ D
theorem OpI.next {w W W' : World} {D : Nat} {dv dx : Value} (h : OpI w W D dv dx) (hb : Below W.heap.size W W') : OpI w W' D dv dx := ⟨fr h.below hb, h.d.below hb, h.r.below hb, h.k⟩
theorem OpI.last {w W : World} {D n m ca cb ba : Nat} {dv dx : Value} {bo ao qo : Option Addr} {bs : List Bk} {ss : List ByteArray} {xs : List Wr} (h : OpI w W D dv dx) (ho : OwnR W w.heap.size 80 4 (.slice bo 4 ba) 4 (bksV bs)) (hd : OwnD W w.heap.size ao n ca qo m cb ss xs) (q : Pxs) (b s d : Value) (L : Ld) :
    OwnR (set14 W (D + 1) q b s d L) w.heap.size 80 4 (.slice bo 4 ba) 4 (bksV bs) ∧ OwnD (set14 W (D + 1) q b s d L) w.heap.size ao n ca qo m cb ss xs ∧ Below w.heap.size w (set14 W (D + 1) q b s d L) :=
  have hk := keep14 W (D + 1) q b s d L
  ⟨rowX h.r ho hk, diskX h.r hd hk, h.below.trans (hk.below (B := w.heap.size) h.below.size (fun j e => by have e' : j = D + 1 := e; have := h.k; omega))⟩

set_option maxHeartbeats 1600000 in
theorem openStore_any (ao bo : Option Addr) (ca cb : Nat) (ss : List ByteArray) (xs : List Wr) (h : Int) (L : Ld) (w : World) (hL : ldOf ss xs h = L) (hd : diskB ss xs = true) (h1 : Ss w ao ss) (h2 : Ios w bo xs) (hE : ErrW w) :
    Calls Tryz.prog 27 #[.agg #[.slice ao ss.length ca, .slice bo xs.length cb], .int .i64 h] w fun e w' => ∃ g po pa ro ra, e = .returned (.agg #[.int .i64 h, .int .i64 0, .int .i64 0, .int .i64 0, .int .i64 0, .int .i64 0, .int .i64 0, .int .i64 0, .slice (some ⟨g, 0, none⟩) 4 4, .slice po ss.length pa, .slice ro xs.length ra, .int .i64 L.ver, .int .i64 L.own, .int .i64 L.gen]) ∧ OwnR w' w.heap.size 80 4 (.slice (some ⟨g, 0, none⟩) 4 4) 4 (bksV (bksOf ss xs h)) ∧ OwnD w' w.heap.size po ss.length pa ro xs.length ra ss xs ∧ Below w.heap.size w w' := by
  obtain ⟨l1, l2⟩ := diskB_len hd
  have HC1 := hide (fun W (hW : Below w.heap.size w W) => blocksSeen_any ao bo ca cb ss xs h W hd (h1.below hW) (h2.below hW) (hE.below hW))
  have HC2 := hide (fun W (hW : Below w.heap.size w W) => copyDisk_any ao bo ca cb ss xs W (by omega) (by omega) (h1.below hW) (h2.below hW))
  have HC3 := hide (fun W (hW : Below w.heap.size w W) => leaderSeen_any ao bo ca cb ss xs h L W hL hd (h1.below hW) (h2.below hW) (hE.below hW))
  have HA := hide (Joins.below_alloc2 w (.cells #[.slice ao ss.length ca, .slice bo xs.length cb] 29) (.cells #[.int .i64 0, .int .i64 0, .int .i64 0, .int .i64 0, .int .i64 0, .int .i64 0, .int .i64 0, .int .i64 0, .slice none 0 0, .slice none 0 0, .slice none 0 0, .int .i64 0, .int .i64 0, .int .i64 0] 57))
  have HS : Hid (OpI w ((w.alloc (.cells #[.slice ao ss.length ca, .slice bo xs.length cb] 29)).alloc (.cells #[.int .i64 0, .int .i64 0, .int .i64 0, .int .i64 0, .int .i64 0, .int .i64 0, .int .i64 0, .int .i64 0, .slice none 0 0, .slice none 0 0, .slice none 0 0, .int .i64 0, .int .i64 0, .int .i64 0] 57)) w.heap.size (.slice ao ss.length ca) (.slice bo xs.length cb)) :=
    hide ⟨unhide HA, (VarD.new w _ _).below (Joins.below_alloc1 _ _), by
      have := VarS.new (w.alloc (.cells #[.slice ao ss.length ca, .slice bo xs.length cb] 29)) p00 (.slice none 0 0) (.slice none 0 0) (.slice none 0 0) ld0
      simp only [World.size_alloc] at this
      exact this, Nat.le_refl _⟩
  clear hd h1 h2 hE hL l1 l2
  go_enter Tryz.func27, Tryz.ntmps27
  go_upto_region 1 with fail
  revert HS
  clear HA
  generalize (w.alloc (.cells #[.slice ao ss.length ca, .slice bo xs.length cb] 29)).alloc (.cells #[.int .i64 0, .int .i64 0, .int .i64 0, .int .i64 0, .int .i64 0, .int .i64 0, .int .i64 0, .int .i64 0, .slice none 0 0, .slice none 0 0, .slice none 0 0, .int .i64 0, .int .i64 0, .int .i64 0] 57) = W0
  intro HS
  obtain ⟨d0, d1⟩ := (unhide HS).d.cells
  replace HS := hide ((unhide HS).next (Below.refl _ W0).drew)
  go_region_held3 (fun w' => w'.cell? ⟨w.heap.size, 0, none⟩ = some (.slice ao ss.length ca) ∧ w'.cell? ⟨w.heap.size, 1, none⟩ = some (.slice bo xs.length cb)) (go_keep) (first
    | (go_at_call 52; refine (unhide HC1 _ (by exact (unhide HS).below)).mono ?_; rintro e wA ⟨g, rfl, ho, hb⟩; (try replace HO1 := hide ((unhide HO1).below hb)); (try replace HO2 := hide ((unhide HO2).below hb)); have HO1 := hide (ho.base (B' := w.heap.size) (unhide HS).below.size); replace HS := hide ((unhide HS).next hb); clear ho; clear hb; (try clear d0 d1); (first | (have u1 := HO1; have u2 := HO2; have u3 := HO3; clear u1 u2 u3; obtain ⟨r0, r1, r2, r3, r4, r5, r6, r7⟩ := (unhide HS).r.px; obtain ⟨r8, r9, r10, r11, r12, r13⟩ := (unhide HS).r.rest; have f0 := (unhide HS).r.free 0; have f1 := (unhide HS).r.free 1; have f2 := (unhide HS).r.free 2; have f3 := (unhide HS).r.free 3; have f4 := (unhide HS).r.free 4; have f5 := (unhide HS).r.free 5; have f6 := (unhide HS).r.free 6; have f7 := (unhide HS).r.free 7; have f8 := (unhide HS).r.free 8; have f9 := (unhide HS).r.free 9; have f10 := (unhide HS).r.free 10; have f11 := (unhide HS).r.free 11; have f12 := (unhide HS).r.free 12; have f13 := (unhide HS).r.free 13) | skip); obtain ⟨d0, d1⟩ := (unhide HS).d.cells)
    | (go_at_call 53; refine (unhide HC2 _ (by exact (unhide HS).below)).mono ?_; rintro e wA ⟨po, pa, ro, ra, rfl, ho, hb⟩; (try replace HO1 := hide ((unhide HO1).below hb)); (try replace HO2 := hide ((unhide HO2).below hb)); have HO2 := hide (ho.base (B' := w.heap.size) (unhide HS).below.size); replace HS := hide ((unhide HS).next hb); clear ho; clear hb; (try clear d0 d1); (first | (have u1 := HO1; have u2 := HO2; have u3 := HO3; clear u1 u2 u3; obtain ⟨r0, r1, r2, r3, r4, r5, r6, r7⟩ := (unhide HS).r.px; obtain ⟨r8, r9, r10, r11, r12, r13⟩ := (unhide HS).r.rest; have f0 := (unhide HS).r.free 0; have f1 := (unhide HS).r.free 1; have f2 := (unhide HS).r.free 2; have f3 := (unhide HS).r.free 3; have f4 := (unhide HS).r.free 4; have f5 := (unhide HS).r.free 5; have f6 := (unhide HS).r.free 6; have f7 := (unhide HS).r.free 7; have f8 := (unhide HS).r.free 8; have f9 := (unhide HS).r.free 9; have f10 := (unhide HS).r.free 10; have f11 := (unhide HS).r.free 11; have f12 := (unhide HS).r.free 12; have f13 := (unhide HS).r.free 13) | skip); obtain ⟨d0, d1⟩ := (unhide HS).d.cells)
    | (go_at_call 54; refine (unhide HC3 _ (by exact (unhide HS).below)).mono ?_; rintro e wA ⟨rfl, hb⟩; (try replace HO1 := hide ((unhide HO1).below hb)); (try replace HO2 := hide ((unhide HO2).below hb)); have HO3 : Hid True := hide trivial; replace HS := hide ((unhide HS).next hb); clear hb; (try clear d0 d1); (first | (have u1 := HO1; have u2 := HO2; have u3 := HO3; clear u1 u2 u3; obtain ⟨r0, r1, r2, r3, r4, r5, r6, r7⟩ := (unhide HS).r.px; obtain ⟨r8, r9, r10, r11, r12, r13⟩ := (unhide HS).r.rest; have f0 := (unhide HS).r.free 0; have f1 := (unhide HS).r.free 1; have f2 := (unhide HS).r.free 2; have f3 := (unhide HS).r.free 3; have f4 := (unhide HS).r.free 4; have f5 := (unhide HS).r.free 5; have f6 := (unhide HS).r.free 6; have f7 := (unhide HS).r.free 7; have f8 := (unhide HS).r.free 8; have f9 := (unhide HS).r.free 9; have f10 := (unhide HS).r.free 10; have f11 := (unhide HS).r.free 11; have f12 := (unhide HS).r.free 12; have f13 := (unhide HS).r.free 13) | skip); obtain ⟨d0, d1⟩ := (unhide HS).d.cells))
  all_goals
    have HF := hide (OpI.last (unhide HS) (unhide HO1) (unhide HO2) ⟨h, 0, 0, 0, 0, 0, 0, 0⟩ (.slice (some ⟨g, 0, none⟩) 4 4) (.slice po ss.length pa) (.slice ro xs.length ra) L)
    go_wp2
    exact bodyPost_ret (v := .agg #[.int .i64 h, .int .i64 0, .int .i64 0, .int .i64 0, .int .i64 0, .int .i64 0, .int .i64 0, .int .i64 0, .slice (some ⟨g, 0, none⟩) 4 4, .slice po ss.length pa, .slice ro xs.length ra, .int .i64 L.ver, .int .i64 L.own, .int .i64 L.gen]) (by simp [results, Tryz.results27, go_sem, r0, r1, r2, r3, r4, r5, r6, r7, r8, r9, r10, r11, r12, r13]) rfl ⟨g, po, pa, ro, ra, rfl, (unhide HF).1, (unhide HF).2.1, (unhide HF).2.2⟩

end Go.Proofs.YtdfinapjgffjiabGreatDoor

/- Contract of the program's WriteSector. -/
namespace Go.Proofs.YtdfinapjgffjiabGreatDoor
open Go.RowKit
set_option linter.unusedVariables false

theorem wi_end {w w3 : World} {v g k cap n pa : Nat} {po : Option Addr} {ss : List ByteArray} {xs' : List Wr} {x y : Value} (hS : OwnR w3 (w.heap.size + 2) 9 1 (.slice po n pa) n (strV ss)) (hI : OwnR w3 (w.heap.size + 2) 69 3 (.slice (some ⟨g, 0, none⟩) k cap) k (ioV xs')) (hv : VarD w3 v x y) (hb : Below w.heap.size w w3) (hvw : w.heap.size ≤ v) (a b c : Value) :
    OwnD (((w3.setCell ⟨v, 1, none⟩ a).setCell ⟨w.heap.size + 1, 0, none⟩ b).setCell ⟨w.heap.size + 1, 1, none⟩ c) w.heap.size po n pa (some ⟨g, 0, none⟩) k cap ss xs' ∧ Below w.heap.size w (((w3.setCell ⟨v, 1, none⟩ a).setCell ⟨w.heap.size + 1, 0, none⟩ b).setCell ⟨w.heap.size + 1, 1, none⟩ c) := by
  have hk : Keep (fun j => j = v) w3 (w3.setCell ⟨v, 1, none⟩ a) := Keep.setCell (S := fun j => j = v) (Keep.refl _ _) (p := ⟨v, 1, none⟩) rfl a
  have h1 : OwnD (w3.setCell ⟨v, 1, none⟩ a) (w.heap.size + 2) po n pa (some ⟨g, 0, none⟩) k cap ss xs' := ⟨hS.keep hk (fun j hj e => hS.other hv (by decide) (e ▸ hj)), hI.keep hk (fun j hj e => hI.other hv (by decide) (e ▸ hj))⟩
  exact copyD_end h1 (hb.setCell (p := ⟨v, 1, none⟩) hvw a) b c

set_option maxRecDepth 100000 in
set_option maxHeartbeats 800000 in
theorem writeSector_impl_range (ao bo : Option Addr) (ca cb : Nat) (ss : List ByteArray) (xs : List Wr) (h a : Int) (d : ByteArray) (w : World) (hz : d.size ≤ maxLen) (hl : ss.length ≤ maxLen) (hm : xs.length ≤ maxLen) (h1 : Ss w ao ss) (h2 : Ios w bo xs) (hlong : ¬ 65536 < d.size) (hask : askC ss xs h a = 0) (hbig : 80 < d.size) :
    Calls Tryz.prog 131 #[.agg #[.slice ao ss.length ca, .slice bo xs.length cb], .int .i64 h, .int .i64 a, .string d] w fun e w' => ∃ po pa qo qa, e = .returned (.tuple #[.agg #[.slice po (wrS ss xs h a d).length pa, .slice qo (wrX ss xs h a d).length qa], .int .i64 (wrC ss xs h a d)]) ∧ OwnD w' w.heap.size po (wrS ss xs h a d).length pa qo (wrX ss xs h a d).length qa (wrS ss xs h a d) (wrX ss xs h a d) ∧ Below w.heap.size w w' := by
  have HA := hide (Joins.below_alloc2 w (.cells #[.slice ao ss.length ca, .slice bo xs.length cb] 29) (.cells #[.slice none 0 0, .slice none 0 0] 29))
  have H1 := hide (h1.below (unhide HA))
  have H2 := hide (h2.below (unhide HA))
  have HV := hide ((VarD.new w (.slice ao ss.length ca) (.slice bo xs.length cb)).below (Joins.below_alloc1 _ (.cells #[.slice none 0 0, .slice none 0 0] 29)))
  have HR : Hid (VarD ((w.alloc (.cells #[.slice ao ss.length ca, .slice bo xs.length cb] 29)).alloc (.cells #[.slice none 0 0, .slice none 0 0] 29)) (w.heap.size + 1) (.slice none 0 0) (.slice none 0 0)) := hide (by have := VarD.new (w.alloc (.cells #[.slice ao ss.length ca, .slice bo xs.length cb] 29)) (.slice none 0 0) (.slice none 0 0); simp only [World.size_alloc] at this; exact this)
  have HS0 := hide h1
  have HX0 := hide h2
  have HL := hide hl
  have HM := hide hm
  clear h1 h2 hl hm
  unfold maxLen at hz
  have hb : (askC ss xs h a != 0) = false := by simp [hask]
  obtain ⟨hh, ha0, ha1⟩ := askC_eq hask
  obtain ⟨hlen, hlx⟩ := diskB_len (hostC_eq hh).1
  have HLS : Hid (ss.length ≤ 1048576) := hide (by omega)
  have HLX : Hid (xs.length ≤ 1048576) := hide (by omega)
  have HASK := hide hask
  clear hask hh hlen
  have HW := hide (wr_range (h := h) (a := a) (d := d) hlong (unhide HASK) hbig)
  go_enter Tryz.func131, Tryz.ntmps131
  go_wp2_with fail
  refine (placeFault_any _ _ _ _ ss xs h a _ (unhide HL) (unhide HM) (unhide H1) (unhide H2)).mono ?_
  rintro e w1 ⟨rfl, hb1⟩
  have HV1 := hide ((unhide HV).below hb1)
  have HR1 := hide ((unhide HR).below hb1)
  have HB1 := hide (fr (unhide HA) hb1)
  have HS1 := hide ((unhide H1).below hb1)
  have HX1 := hide ((unhide H2).below hb1)
  have HZ1 := hide hb1.size
  clear hb1
  obtain ⟨hv0, hv1⟩ := (unhide HV1).cells
  go_wp2_with fail
  refine (copyDisk_any _ _ _ _ ss xs _ (unhide HLS) (unhide HLX) (unhide HS1) (unhide HX1)).mono ?_
  rintro e w2 ⟨po, pa, qo, qa, rfl, ho2, hb2⟩
  have HO2 := hide (ho2.base (B' := w.heap.size + 2) (by have z1 := unhide HZ1; simp at z1; omega))
  have HR2 := hide ((unhide HR1).below hb2)
  have HB2 := hide (fr (unhide HB1) hb2)
  have hlt2 : w.heap.size + 1 < w2.heap.size := (unhide HR2).lt
  clear ho2 hb2 hv0 hv1
  obtain ⟨hr0, hr1⟩ := (unhide HR2).cells
  have hr2 := (unhide HR2).free 0
  have hr3 := (unhide HR2).free 1
  have HE := hide (copyD_end (w := w) (wL := w2) (unhide HO2) (unhide HB2) (.slice po ss.length pa) (.slice qo xs.length qa))
  have HE1 := hide ((unhide HE).1.below (Joins.below_alloc1 _ (.cells #[.slice po ss.length pa, .slice qo xs.length qa] 29)))
  have HE2 := hide (fr (unhide HE).2 (Joins.below_alloc1 _ (.cells #[.slice po ss.length pa, .slice qo xs.length qa] 29)))
  go_wp2
  obtain ⟨e1, e2, e3⟩ := unhide HW
  rw [e1, e2, e3]
  exact bodyPost_ret (v := .tuple #[.agg #[.slice po ss.length pa, .slice qo xs.length qa], .int .i64 4]) (by simp [results, Tryz.results131, go_sem, hr0, hr1, hlt2]) rfl ⟨po, pa, qo, qa, rfl, unhide HE1, unhide HE2⟩

set_option maxRecDepth 100000 in
set_option maxHeartbeats 800000 in
theorem writeSector_impl_full (ao bo : Option Addr) (ca cb : Nat) (ss : List ByteArray) (xs : List Wr) (h a : Int) (d : ByteArray) (w : World) (hz : d.size ≤ maxLen) (hl : ss.length ≤ maxLen) (hm : xs.length ≤ maxLen) (h1 : Ss w ao ss) (h2 : Ios w bo xs) (hlong : ¬ 65536 < d.size) (hask : askC ss xs h a = 0) (hbig : ¬ 80 < d.size) (hfull : xs.length = 200) :
    Calls Tryz.prog 131 #[.agg #[.slice ao ss.length ca, .slice bo xs.length cb], .int .i64 h, .int .i64 a, .string d] w fun e w' => ∃ po pa qo qa, e = .returned (.tuple #[.agg #[.slice po (wrS ss xs h a d).length pa, .slice qo (wrX ss xs h a d).length qa], .int .i64 (wrC ss xs h a d)]) ∧ OwnD w' w.heap.size po (wrS ss xs h a d).length pa qo (wrX ss xs h a d).length qa (wrS ss xs h a d) (wrX ss xs h a d) ∧ Below w.heap.size w w' := by
  have HA := hide (Joins.below_alloc2 w (.cells #[.slice ao ss.length ca, .slice bo xs.length cb] 29) (.cells #[.slice none 0 0, .slice none 0 0] 29))
  have H1 := hide (h1.below (unhide HA))
  have H2 := hide (h2.below (unhide HA))
  have HV := hide ((VarD.new w (.slice ao ss.length ca) (.slice bo xs.length cb)).below (Joins.below_alloc1 _ (.cells #[.slice none 0 0, .slice none 0 0] 29)))
  have HR : Hid (VarD ((w.alloc (.cells #[.slice ao ss.length ca, .slice bo xs.length cb] 29)).alloc (.cells #[.slice none 0 0, .slice none 0 0] 29)) (w.heap.size + 1) (.slice none 0 0) (.slice none 0 0)) := hide (by have := VarD.new (w.alloc (.cells #[.slice ao ss.length ca, .slice bo xs.length cb] 29)) (.slice none 0 0) (.slice none 0 0); simp only [World.size_alloc] at this; exact this)
  have HS0 := hide h1
  have HX0 := hide h2
  have HL := hide hl
  have HM := hide hm
  clear h1 h2 hl hm
  unfold maxLen at hz
  have hb : (askC ss xs h a != 0) = false := by simp [hask]
  obtain ⟨hh, ha0, ha1⟩ := askC_eq hask
  obtain ⟨hlen, hlx⟩ := diskB_len (hostC_eq hh).1
  have HLS : Hid (ss.length ≤ 1048576) := hide (by omega)
  have HLX : Hid (xs.length ≤ 1048576) := hide (by omega)
  have HASK := hide hask
  clear hask hh hlen
  have HW := hide (wr_full (h := h) (a := a) (d := d) hlong (unhide HASK) hbig hfull)
  have hge : 200 ≤ xs.length := by omega
  clear hfull
  go_enter Tryz.func131, Tryz.ntmps131
  go_wp2_with fail
  refine (placeFault_any _ _ _ _ ss xs h a _ (unhide HL) (unhide HM) (unhide H1) (unhide H2)).mono ?_
  rintro e w1 ⟨rfl, hb1⟩
  have HV1 := hide ((unhide HV).below hb1)
  have HR1 := hide ((unhide HR).below hb1)
  have HB1 := hide (fr (unhide HA) hb1)
  have HS1 := hide ((unhide H1).below hb1)
  have HX1 := hide ((unhide H2).below hb1)
  have HZ1 := hide hb1.size
  clear hb1
  obtain ⟨hv0, hv1⟩ := (unhide HV1).cells
  go_wp2_with fail
  refine (copyDisk_any _ _ _ _ ss xs _ (unhide HLS) (unhide HLX) (unhide HS1) (unhide HX1)).mono ?_
  rintro e w2 ⟨po, pa, qo, qa, rfl, ho2, hb2⟩
  have HO2 := hide (ho2.base (B' := w.heap.size + 2) (by have z1 := unhide HZ1; simp at z1; omega))
  have HR2 := hide ((unhide HR1).below hb2)
  have HB2 := hide (fr (unhide HB1) hb2)
  have hlt2 : w.heap.size + 1 < w2.heap.size := (unhide HR2).lt
  clear ho2 hb2 hv0 hv1
  obtain ⟨hr0, hr1⟩ := (unhide HR2).cells
  have hr2 := (unhide HR2).free 0
  have hr3 := (unhide HR2).free 1
  have HE := hide (copyD_end (w := w) (wL := w2) (unhide HO2) (unhide HB2) (.slice po ss.length pa) (.slice qo xs.length qa))
  have HE1 := hide ((unhide HE).1.below (Joins.below_alloc1 _ (.cells #[.slice po ss.length pa, .slice qo xs.length qa] 29)))
  have HE2 := hide (fr (unhide HE).2 (Joins.below_alloc1 _ (.cells #[.slice po ss.length pa, .slice qo xs.length qa] 29)))
  go_wp2
  obtain ⟨e1, e2, e3⟩ := unhide HW
  rw [e1, e2, e3]
  exact bodyPost_ret (v := .tuple #[.agg #[.slice po ss.length pa, .slice qo xs.length qa], .int .i64 7]) (by simp [results, Tryz.results131, go_sem, hr0, hr1, hlt2]) rfl ⟨po, pa, qo, qa, rfl, unhide HE1, unhide HE2⟩

set_option maxRecDepth 100000 in
set_option maxHeartbeats 800000 in
theorem writeSector_impl_ok (ao bo : Option Addr) (ca cb : Nat) (ss : List ByteArray) (xs : List Wr) (h a : Int) (d : ByteArray) (w : World) (hz : d.size ≤ maxLen) (hl : ss.length ≤ maxLen) (hm : xs.length ≤ maxLen) (h1 : Ss w ao ss) (h2 : Ios w bo xs) (hlong : ¬ 65536 < d.size) (hask : askC ss xs h a = 0) (hbig : ¬ 80 < d.size) (hfull : ¬ xs.length = 200) :
    Calls Tryz.prog 131 #[.agg #[.slice ao ss.length ca, .slice bo xs.length cb], .int .i64 h, .int .i64 a, .string d] w fun e w' => ∃ po pa qo qa, e = .returned (.tuple #[.agg #[.slice po (wrS ss xs h a d).length pa, .slice qo (wrX ss xs h a d).length qa], .int .i64 (wrC ss xs h a d)]) ∧ OwnD w' w.heap.size po (wrS ss xs h a d).length pa qo (wrX ss xs h a d).length qa (wrS ss xs h a d) (wrX ss xs h a d) ∧ Below w.heap.size w w' := by
  have HA := hide (Joins.below_alloc2 w (.cells #[.slice ao ss.length ca, .slice bo xs.length cb] 29) (.cells #[.slice none 0 0, .slice none 0 0] 29))
  have H1 := hide (h1.below (unhide HA))
  have H2 := hide (h2.below (unhide HA))
  have HV := hide ((VarD.new w (.slice ao ss.length ca) (.slice bo xs.length cb)).below (Joins.below_alloc1 _ (.cells #[.slice none 0 0, .slice none 0 0] 29)))
  have HR : Hid (VarD ((w.alloc (.cells #[.slice ao ss.length ca, .slice bo xs.length cb] 29)).alloc (.cells #[.slice none 0 0, .slice none 0 0] 29)) (w.heap.size + 1) (.slice none 0 0) (.slice none 0 0)) := hide (by have := VarD.new (w.alloc (.cells #[.slice ao ss.length ca, .slice bo xs.length cb] 29)) (.slice none 0 0) (.slice none 0 0); simp only [World.size_alloc] at this; exact this)
  have HS0 := hide h1
  have HX0 := hide h2
  have HL := hide hl
  have HM := hide hm
  clear h1 h2 hl hm
  unfold maxLen at hz
  have hb : (askC ss xs h a != 0) = false := by simp [hask]
  obtain ⟨hh, ha0, ha1⟩ := askC_eq hask
  obtain ⟨hlen, hlx⟩ := diskB_len (hostC_eq hh).1
  have HLS : Hid (ss.length ≤ 1048576) := hide (by omega)
  have HLX : Hid (xs.length ≤ 1048576) := hide (by omega)
  have HASK := hide hask
  clear hask hh hlen
  have HW := hide (wr_ok (h := h) (a := a) (d := d) hlong (unhide HASK) hbig hfull)
  have HN := hide (show xs.length + 1 = (xs ++ [(⟨h, a, d⟩ : Wr)]).length by simp)
  have hge : xs.length < 200 := by omega
  obtain ⟨j0, hj, hy0, hy1, hy2⟩ := info_parts infoW
  clear hfull
  go_enter Tryz.func131, Tryz.ntmps131
  go_wp2_with fail
  refine (placeFault_any _ _ _ _ ss xs h a _ (unhide HL) (unhide HM) (unhide H1) (unhide H2)).mono ?_
  rintro e w1 ⟨rfl, hb1⟩
  have HV1 := hide ((unhide HV).below hb1)
  have HR1 := hide ((unhide HR).below hb1)
  have HB1 := hide (fr (unhide HA) hb1)
  have HS1 := hide ((unhide H1).below hb1)
  have HX1 := hide ((unhide H2).below hb1)
  have HZ1 := hide hb1.size
  clear hb1
  obtain ⟨hv0, hv1⟩ := (unhide HV1).cells
  go_wp2_with fail
  refine (copyDisk_any _ _ _ _ ss xs _ (unhide HLS) (unhide HLX) (unhide HS1) (unhide HX1)).mono ?_
  rintro e w2 ⟨po, pa, qo, qa, rfl, ho2, hb2⟩
  have HO2 := hide (ho2.base (B' := w.heap.size + 2) (by have z1 := unhide HZ1; simp at z1; omega))
  have HR2 := hide ((unhide HR1).below hb2)
  have HB2 := hide (fr (unhide HB1) hb2)
  have hlt2 : w.heap.size + 1 < w2.heap.size := (unhide HR2).lt
  clear ho2 hb2 hv0 hv1
  obtain ⟨hr0, hr1⟩ := (unhide HR2).cells
  have hr2 := (unhide HR2).free 0
  have hr3 := (unhide HR2).free 1
  have HA2 := hide (Joins.below_alloc2 w2 (.cells #[.slice po ss.length pa, .slice qo xs.length qa] 29) (.cells #[.int .i64 h, .int .i64 a, .string d] 69))
  have HO3 := hide ((unhide HO2).below (unhide HA2))
  have HR3 := hide ((unhide HR2).below (unhide HA2))
  have HV3 := hide ((VarD.new w2 (.slice po ss.length pa) (.slice qo xs.length qa)).below (Joins.below_alloc1 _ (.cells #[.int .i64 h, .int .i64 a, .string d] 69)))
  have HB3 := hide (fr (unhide HB2) (unhide HA2))
  have HI3 : Hid (VarI ((w2.alloc (.cells #[.slice po ss.length pa, .slice qo xs.length qa] 29)).alloc (.cells #[.int .i64 h, .int .i64 a, .string d] 69)) (w2.heap.size + 1) ⟨h, a, d⟩) := hide (VarI.top (x := ⟨h, a, d⟩) (by simp))
  go_wp2_with (at_builtin; refine wpList_append_one rfl _ _ 27 rfl (w.heap.size + 2) 69 j0 (.agg #[.int .i64 0, .int .i64 0, .string ⟨#[]⟩]) 3 32 Tryz.underlying27 hj hy0 hy1 hy2 rfl (by omega) qo xs.length qa (ioV xs) rfl (unhide HO3).i (by simp; omega) ⟨w2.heap.size + 1, 0, none⟩ _ (wrV ⟨h, a, d⟩) rfl rfl (unhide HI3).news (wrV_one _) (by unfold maxLen; omega) (by omega) ?_; intro g cap w3 ho3 hk3; have HV4 := hide ((unhide HV3).keep hk3 ((unhide HO3).i.other (unhide HV3) (by decide))); have HR4 := hide ((unhide HR3).keep hk3 ((unhide HO3).i.other (unhide HR3) (by decide))); have HW4 := hide (wi_end (w := w) (w3 := w3) (v := w2.heap.size) (g := g) (k := xs.length + 1) (cap := cap) (xs' := xs ++ [⟨h, a, d⟩]) ((unhide HO3).s.keep hk3 (own_apart (unhide HO3).s (unhide HO3).i (by decide))) (.inr ⟨Nat.succ_pos _, by rw [ioV_snoc]; exact ho3⟩) (unhide HV4) ((unhide HB3).trans (hk3.below (B := w.heap.size) (unhide HB3).size (fun j hj => Nat.le_trans (show w.heap.size ≤ w.heap.size + 2 from by omega) ((unhide HO3).i.ge j hj).1))) (by omega) (.slice (some ⟨g, 0, none⟩) (xs.length + 1) cap) (.slice po ss.length pa) (.slice (some ⟨g, 0, none⟩) (xs.length + 1) cap)); obtain ⟨q0, q1⟩ := (unhide HV4).cells; have q2 := (unhide HV4).free 1; obtain ⟨q3, q4⟩ := (unhide HR4).cells; have q5 := (unhide HR4).free 0; have q6 := (unhide HR4).free 1; clear ho3 hk3)
  obtain ⟨e1, e2, e3⟩ := unhide HW
  rw [e1, e2, e3, ← unhide HN]
  exact bodyPost_ret (v := .tuple #[.agg #[.slice po ss.length pa, .slice (some ⟨g, 0, none⟩) (xs.length + 1) cap], .int .i64 0]) (by simp [results, Tryz.results131, go_sem, q3, q4]) rfl ⟨po, pa, _, _, rfl, (unhide HW4).1, (unhide HW4).2⟩

set_option maxRecDepth 100000 in
set_option maxHeartbeats 1600000 in
theorem writeSector_impl (ao bo : Option Addr) (ca cb : Nat) (ss : List ByteArray) (xs : List Wr) (h a : Int) (d : ByteArray) (w : World) (hz : d.size ≤ maxLen) (hl : ss.length ≤ maxLen) (hm : xs.length ≤ maxLen) (h1 : Ss w ao ss) (h2 : Ios w bo xs) :
    Calls Tryz.prog 131 #[.agg #[.slice ao ss.length ca, .slice bo xs.length cb], .int .i64 h, .int .i64 a, .string d] w fun e w' => ∃ po pa qo qa, e = .returned (.tuple #[.agg #[.slice po (wrS ss xs h a d).length pa, .slice qo (wrX ss xs h a d).length qa], .int .i64 (wrC ss xs h a d)]) ∧ OwnD w' w.heap.size po (wrS ss xs h a d).length pa qo (wrX ss xs h a d).length qa (wrS ss xs h a d) (wrX ss xs h a d) ∧ Below w.heap.size w w' := by
  have HA := hide (Joins.below_alloc2 w (.cells #[.slice ao ss.length ca, .slice bo xs.length cb] 29) (.cells #[.slice none 0 0, .slice none 0 0] 29))
  have H1 := hide (h1.below (unhide HA))
  have H2 := hide (h2.below (unhide HA))
  have HV := hide ((VarD.new w (.slice ao ss.length ca) (.slice bo xs.length cb)).below (Joins.below_alloc1 _ (.cells #[.slice none 0 0, .slice none 0 0] 29)))
  have HR : Hid (VarD ((w.alloc (.cells #[.slice ao ss.length ca, .slice bo xs.length cb] 29)).alloc (.cells #[.slice none 0 0, .slice none 0 0] 29)) (w.heap.size + 1) (.slice none 0 0) (.slice none 0 0)) := hide (by have := VarD.new (w.alloc (.cells #[.slice ao ss.length ca, .slice bo xs.length cb] 29)) (.slice none 0 0) (.slice none 0 0); simp only [World.size_alloc] at this; exact this)
  have HS0 := hide h1
  have HX0 := hide h2
  have HL := hide hl
  have HM := hide hm
  clear h1 h2 hl hm
  unfold maxLen at hz
  by_cases hlong : 65536 < d.size
  · obtain ⟨e1, e2, e3⟩ := wr_long (ss := ss) (xs := xs) (h := h) (a := a) hlong
    rw [e1, e2, e3]
    clear e1 e2 e3
    go_enter Tryz.func131, Tryz.ntmps131
    go_wp2
    exact bodyPost_ret (v := .tuple #[.agg #[.slice none 0 0, .slice none 0 0], .int .i64 2]) (by simp [results, Tryz.results131, go_sem]) rfl ⟨none, 0, none, 0, rfl, zeroD_own, unhide HA⟩
  by_cases hask : askC ss xs h a = 0
  · by_cases hbig : 80 < d.size
    · exact writeSector_impl_range ao bo ca cb ss xs h a d w (by unfold maxLen; exact hz) (unhide HL) (unhide HM) (unhide HS0) (unhide HX0) hlong hask hbig
    · by_cases hfull : xs.length = 200
      · exact writeSector_impl_full ao bo ca cb ss xs h a d w (by unfold maxLen; exact hz) (unhide HL) (unhide HM) (unhide HS0) (unhide HX0) hlong hask hbig hfull
      · exact writeSector_impl_ok ao bo ca cb ss xs h a d w (by unfold maxLen; exact hz) (unhide HL) (unhide HM) (unhide HS0) (unhide HX0) hlong hask hbig hfull
  · have hb : (askC ss xs h a != 0) = true := by simp [hask]
    obtain ⟨e1, e2, e3⟩ := wr_ask (ss := ss) (xs := xs) (h := h) (a := a) hlong hask
    rw [e1, e2, e3]
    clear e1 e2 e3 hask
    go_enter Tryz.func131, Tryz.ntmps131
    go_wp2_with fail
    refine (placeFault_any _ _ _ _ ss xs h a _ (unhide HL) (unhide HM) (unhide H1) (unhide H2)).mono ?_
    rintro e w1 ⟨rfl, hb1⟩
    have HR1 := hide ((unhide HR).below hb1)
    have HB1 := hide (fr (unhide HA) hb1)
    clear hb1
    obtain ⟨hr0, hr1⟩ := (unhide HR1).cells
    have hr2 := (unhide HR1).free 0
    have hr3 := (unhide HR1).free 1
    have HE := hide (zero_end (w := w) (wL := w1) (unhide HB1) (.slice none 0 0) (.slice none 0 0))
    go_wp2
    exact bodyPost_ret (v := .tuple #[.agg #[.slice none 0 0, .slice none 0 0], .int .i64 (askC ss xs h a)]) (by simp [results, Tryz.results131, go_sem, hr0, hr1]) rfl ⟨none, 0, none, 0, rfl, zeroD_own, unhide HE⟩

end Go.Proofs.YtdfinapjgffjiabGreatDoor
