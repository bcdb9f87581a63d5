import Derived.Test.YtdfinapjgffjiaaGreatDoorRows
import Derived.Test.YtdfinapjgffjiaaGreatDoorPart1
import Derived.Test.YtdfinapjgffjiaaGreatDoorPart5
import Derived.Test.YtdfinapjgffjiaaGreatDoorPart2
import Derived.Test.YtdfinapjgffjiaaGreatDoorPart12
import Derived.Test.YtdfinapjgffjiaaGreatDoorPart6
import Derived.Test.YtdfinapjgffjiaaGreatDoorPart9
import Derived.WalkKit
import Derived.WalkSpells
import Derived.Defers
import Derived.Recover
import Derived.BigQuiet
import Derived.Deep.QuietTactic
import Derived.Deep.RegionWith
import Derived.Test.YtdfinapjgffjiaaGreatDoorPart10
import Derived.Test.YtdfinapjgffjiaaGreatDoorPart3
import Derived.KernelRfl
import Derived.Test.YtdfinapjgffjiaaGreatDoorPart4

/- Contracts of impl.readDelta, impl.readText at a generation, impl.DecodeDelta. -/
namespace Go.Proofs.YtdfinapjgffjiaaGreatDoor
open Go.RowKit
set_option linter.unusedVariables false
set_option maxRecDepth 100000

theorem openB_iff {t : ByteArray} {k : Int} : openB t k = true ↔ RecP t ∧ byteAt t 0 = k := by
  simp only [openB, Bool.and_eq_true, decide_eq_true_eq, recB_iff]
theorem dec_open {t : ByteArray} (h : decB t = true) : (RecP t ∧ byteAt t 0 = 9) ∧ ∃ a b c, unL (bodyT t) = [a, b, c] ∧ dltB a b c = true ∧ decH t = a ∧ decG t = b ∧ decS t = c := by
  have h' := h
  simp only [decB, Bool.and_eq_true, decide_eq_true_eq] at h'
  obtain ⟨ho, hl, hd⟩ := h'
  obtain ⟨a, b, c, e⟩ := three hl
  rw [e] at hd
  refine ⟨openB_iff.1 ho, a, b, c, ?_, hd, dec_yes h e⟩
  rw [← e, decL, openL_yes ho]
theorem dec_shut {t : ByteArray} (h : decB t = false) (ho : RecP t ∧ byteAt t 0 = 9) (hl : (unL (bodyT t)).length = 3) : ∃ a b c, unL (bodyT t) = [a, b, c] ∧ dltB a b c = false := by
  have ho' := openB_iff.2 ho
  obtain ⟨a, b, c, e⟩ := three hl
  refine ⟨a, b, c, e, ?_⟩
  have e' : decL t = [a, b, c] := by rw [← e, decL, openL_yes ho']
  rw [← decB_at ho' e']; exact h

end Go.Proofs.YtdfinapjgffjiaaGreatDoor

/- Contracts of impl.readLeader, of the recovering closure of impl.readText at a leader. -/
namespace Go.Proofs.YtdfinapjgffjiaaGreatDoor
open Go.RowKit
set_option linter.unusedVariables false
set_option maxRecDepth 100000

theorem ld_open {t : ByteArray} (h : ldD t = true) : (RecP t ∧ byteAt t 0 = 6) ∧ ∃ a b c, unL (bodyT t) = [a, b, c] ∧ ldB ⟨a, b - 1, c⟩ = true ∧ ldK t = ⟨a, b - 1, c⟩ ∧ IntKind.i64.wrap (b - 1) = b - 1 := by
  have h' := h
  simp only [ldD, Bool.and_eq_true, decide_eq_true_eq] at h'
  obtain ⟨ho, hl, hd⟩ := h'
  obtain ⟨a, b, c, e⟩ := three hl
  rw [e] at hd
  refine ⟨openB_iff.1 ho, a, b, c, ?_, hd, ld_yes h e, open_mid ho e⟩
  rw [← e, ldL, openL_yes ho]
theorem ld_shut {t : ByteArray} (h : ldD t = false) (ho : RecP t ∧ byteAt t 0 = 6) (hl : (unL (bodyT t)).length = 3) : ∃ a b c, unL (bodyT t) = [a, b, c] ∧ ldB ⟨a, b - 1, c⟩ = false ∧ IntKind.i64.wrap (b - 1) = b - 1 := by
  have ho' := openB_iff.2 ho
  obtain ⟨a, b, c, e⟩ := three hl
  have e' : ldL t = [a, b, c] := by rw [← e, ldL, openL_yes ho']
  refine ⟨a, b, c, e, ?_, open_mid ho' e'⟩
  rw [← ldD_at ho' e']; exact h

set_option maxHeartbeats 1600000 in
theorem readLeader_yes (t : ByteArray) (w : World) (hs : t.size ≤ 65536) (hd : ldD t = true) :
    Calls Tryz.prog 37 #[.string t] w fun e w' => e = .returned (lV (ldK t)) ∧ Below w.heap.size w w' := by
  obtain ⟨⟨hr, hk⟩, a, b, c, hl, hdd, e1, wr1⟩ := ld_open hd
  rw [e1]
  have HL := hide hl
  have HDD := hide hdd
  have HR := hide hr
  have HK := hide hk
  clear hl hdd e1 hr hk hd
  have HA := hide (Joins.below_alloc1 w (.cells #[.int .i64 0, .int .i64 0, .int .i64 0] 30))
  have HV := hide (VarT.new w 30 0 0 0)
  go_enter Tryz.func37, Tryz.ntmps37
  go_wp2_with fail
  refine (readKind_yes t 6 _ hs (unhide HR) (unhide HK)).mono ?_
  rintro e w1 ⟨v, rfl, ⟨qo, qa, rfl, ho⟩, hb⟩
  have HB := hide (fr (unhide HA) hb)
  have HB1 := hide hb
  have hI := ownRN ho
  rw [unhide HL] at hI ⊢
  obtain ⟨g, off, rfl, hi0⟩ := hI 0 (by simp)
  obtain ⟨g', off', he, hi1⟩ := hI 1 (by simp)
  cases he
  obtain ⟨g', off', he, hi2⟩ := hI 2 (by simp)
  cases he
  simp only [List.getElem_cons_zero, List.getElem_cons_succ, Nat.add_zero] at hi0 hi1 hi2
  have hg := World.block_lt_of_cell? _ _ hi0
  clear hI ho hb
  simp only [List.length_cons, List.length_nil, Nat.zero_add, Nat.reduceAdd]
  go_wp2_with (go_at_call 76; refine (demand_true _).mono ?_; rintro e w' ⟨rfl, hw⟩; replace hw := hw.symm; subst hw)
  have HA2 := hide (Joins.below_alloc1 w1 (.cells #[.int .i64 a, .int .i64 (b - 1), .int .i64 c] 30)).drew
  have HV2 := hide (((unhide HV).below (unhide HB1)).below (unhide HA2))
  have HV3 : Hid (VarT (w1.alloc (.cells #[.int .i64 a, .int .i64 (b - 1), .int .i64 c] 30)).drew w1.heap.size 30 a (b - 1) c) := hide ((VarT.new w1 30 a (b - 1) c).below (Below.refl _ _).drew)
  have HB2 := hide (fr (unhide HB) (unhide HA2))
  go_region
  go_wp2_with fail
  refine (leaderOK_impl ⟨a, b - 1, c⟩ _).mono ?_
  rintro e w2 ⟨rfl, hb2⟩
  rw [unhide HDD]
  have HB3 := hide (fr (unhide HB2) hb2)
  obtain ⟨hc0, hc1, hc2⟩ := ((unhide HV2).below hb2).cells
  obtain ⟨hf0, hf1, hf2⟩ := ((unhide HV2).below hb2).free
  obtain ⟨hx0, hx1, hx2⟩ := ((unhide HV3).below hb2).cells
  have HR3 := hide (fun u v x => below3 (unhide HB3) (Nat.le_refl _) 0 1 2 u v x)
  clear hb2 hi0 hi1 hi2
  go_wp2_with (go_at_call 76; refine (demand_true _).mono ?_; rintro e w' ⟨rfl, hw⟩; replace hw := hw.symm; subst hw)
  exact bodyPost_ret (v := lV ⟨a, b - 1, c⟩) (by simp [results, Tryz.results37, go_sem, hc0, hc1, hc2]) rfl ⟨rfl, unhide HR3 _ _ _⟩

set_option maxHeartbeats 1600000 in
theorem readLeader_no (t : ByteArray) (w : World) (hs : t.size ≤ 65536) (hd : ldD t = false) (hE : ErrW w) :
    Calls Tryz.prog 37 #[.string t] w fun e w' => (∃ u pv, e = .panicked [{ v := .iface u pv, recovered := false }]) ∧ Below w.heap.size w w' := by
  have HA := hide (Joins.below_alloc1 w (.cells #[.int .i64 0, .int .i64 0, .int .i64 0] 30))
  have HE := hide (hE.below (unhide HA))
  clear hE
  by_cases hr : RecP t ∧ byteAt t 0 = 6
  · obtain ⟨hr1, hr2⟩ := hr
    by_cases hl : (unL (bodyT t)).length = 3
    · obtain ⟨a, b, c, hl, hdd, wr1⟩ := ld_shut hd ⟨hr1, hr2⟩ hl
      have HL := hide hl
      have HDD := hide hdd
      have HR := hide hr1
      have HK := hide hr2
      clear hl hdd hr1 hr2 hd
      go_enter Tryz.func37, Tryz.ntmps37
      go_wp2_with fail
      refine (readKind_yes t 6 _ hs (unhide HR) (unhide HK)).mono ?_
      rintro e w1 ⟨v, rfl, ⟨qo, qa, rfl, ho⟩, hb⟩
      have HB := hide (fr (unhide HA) hb)
      have HE1 := hide ((unhide HE).below hb)
      have hI := ownRN ho
      rw [unhide HL] at hI ⊢
      obtain ⟨g, off, rfl, hi0⟩ := hI 0 (by simp)
      obtain ⟨g', off', he, hi1⟩ := hI 1 (by simp)
      cases he
      obtain ⟨g', off', he, hi2⟩ := hI 2 (by simp)
      cases he
      simp only [List.getElem_cons_zero, List.getElem_cons_succ, Nat.add_zero] at hi0 hi1 hi2
      have hg := World.block_lt_of_cell? _ _ hi0
      clear hI ho hb
      simp only [List.length_cons, List.length_nil, Nat.zero_add, Nat.reduceAdd]
      go_wp2_with (go_at_call 76; refine (demand_true _).mono ?_; rintro e w' ⟨rfl, hw⟩; replace hw := hw.symm; subst hw)
      have HA2 := hide (Joins.below_alloc1 w1 (.cells #[.int .i64 a, .int .i64 (b - 1), .int .i64 c] 30)).drew
      have HV3 : Hid (VarT (w1.alloc (.cells #[.int .i64 a, .int .i64 (b - 1), .int .i64 c] 30)).drew w1.heap.size 30 a (b - 1) c) := hide ((VarT.new w1 30 a (b - 1) c).below (Below.refl _ _).drew)
      have HB2 := hide (fr (unhide HB) (unhide HA2))
      go_region
      go_wp2_with fail
      refine (leaderOK_impl ⟨a, b - 1, c⟩ _).mono ?_
      rintro e w2 ⟨rfl, hb2⟩
      rw [unhide HDD]
      have HB3 := hide (fr (unhide HB2) hb2)
      have HE2 := hide (((unhide HE1).below (unhide HA2)).below hb2)
      clear hb2 hi0 hi1 hi2
      go_wp2_with (go_at_call 76; refine (demand_false _ (unhide HE2)).mono ?_; rintro e w' ⟨⟨u, pv, rfl⟩, hw⟩; replace hw := hw.symm; subst hw)
      exact ⟨rfl, ⟨_, _, rfl⟩, unhide HB3⟩
    · have hl3 : ((((unL (bodyT t)).length : Nat) : Int) == 3) = false := by rw [beq_eq_false_iff_ne]; omega
      have HR := hide hr1
      have HK := hide hr2
      clear hl hr1 hr2 hd
      go_enter Tryz.func37, Tryz.ntmps37
      go_wp2_with fail
      refine (readKind_yes t 6 _ hs (unhide HR) (unhide HK)).mono ?_
      rintro e w1 ⟨v, rfl, ⟨qo, qa, rfl, ho⟩, hb⟩
      have HB := hide (fr (unhide HA) hb)
      have HE1 := hide ((unhide HE).below hb)
      clear ho hb
      go_wp2_with (go_at_call 76; refine (demand_false _ (unhide HE1)).mono ?_; rintro e w' ⟨⟨u, pv, rfl⟩, hw⟩; replace hw := hw.symm; subst hw)
      exact ⟨rfl, ⟨_, _, rfl⟩, unhide HB⟩
  · go_enter Tryz.func37, Tryz.ntmps37
    go_wp2_with fail
    refine (readKind_no t 6 _ hs hr (unhide HE)).mono ?_
    rintro e w1 ⟨⟨u, pv, rfl⟩, hb⟩
    have HB := hide (fr (unhide HA) hb)
    clear hb
    go_wp2
    exact ⟨rfl, ⟨_, _, rfl⟩, unhide HB⟩

theorem catchL_panicking (p : Addr) (x : Int) (u : TypeId) (pv : Value) (older : List PanicEntry) (w : World) (hc : w.cell? p = some (.int .i64 x)) (hz : w.frozen? p = false) :
    CallsD Tryz.prog 74 #[.pointer (some p)] (.panicking ({ v := .iface u pv, recovered := false } :: older)) w fun e u' w' =>
      e = .returned (.tuple #[]) ∧ u' = .panicking ({ v := .iface u pv, recovered := true } :: older) ∧ w' = w.setCell p (.int .i64 3) := by
  refine callsD_of_wpS Tryz.func74 rfl fun c₀ cs hu => ?_
  apply wpS_seq
  apply wpS_region
  simp [wpOpsS, go_sem, recoverD, hu, Tryz.ntmps74, Exit.thenS]
  refine wpS_cond (t := true) (by simp [Act.eval, Array.replicate]) ?_
  simp only [if_true]
  apply wpS_region
  simp [wpOpsS, go_sem, hc, hz, bodyPostS, results, Tryz.results74]

theorem catchL_idle (p : Addr) (w : World) :
    CallsD Tryz.prog 74 #[.pointer (some p)] .returning w fun e u' w' => e = .returned (.tuple #[]) ∧ u' = .returning ∧ w' = w := by
  refine callsD_of_wpS Tryz.func74 rfl fun c₀ cs hu => ?_
  apply wpS_seq
  apply wpS_region
  simp [wpOpsS, go_sem, recoverD, hu, Tryz.ntmps74, Exit.thenS]
  refine wpS_cond (t := false) (by simp [Act.eval, Array.replicate]) ?_
  simp only [Bool.false_eq_true, if_false]
  refine wpS_of_wp (wp_skip ?_)
  cases c₀
  simp_all [bodyPostS, results, Tryz.results74]

end Go.Proofs.YtdfinapjgffjiaaGreatDoor

/- Contracts of impl.readText at a leader, impl.DecodeLeader. -/
namespace Go.Proofs.YtdfinapjgffjiaaGreatDoor
open Go.RowKit
set_option linter.unusedVariables false
set_option maxRecDepth 100000

theorem two_newL {w w1 : World} (hb : Below ((w.alloc (.cells #[.int .i64 0, .int .i64 0, .int .i64 0] 30)).alloc (.cells #[.int .i64 0] 3)).heap.size ((w.alloc (.cells #[.int .i64 0, .int .i64 0, .int .i64 0] 30)).alloc (.cells #[.int .i64 0] 3)) w1) : VarT w1 w.heap.size 30 0 0 0 ∧ w1.heap[w.heap.size + 1]? = some (.cells #[.int .i64 0] 3 (0, 0)) := by
  constructor
  · exact ((VarT.new w _ 0 0 0).below (Joins.below_alloc1 _ _)).below hb
  · rw [hb.block _ (by simp)]
    have := heap_alloc_new (w.alloc (.cells #[.int .i64 0, .int .i64 0, .int .i64 0] 30)) (.cells #[.int .i64 0] 3)
    simp only [World.size_alloc] at this
    exact this

set_option maxHeartbeats 1600000 in
theorem readTextL_yes (s : ByteArray) (w : World) (hs : s.size ≤ 65536) (hd : ldD s = true) :
    Calls Tryz.prog 36 #[.string s, .func (.func 37) #[] #[]] w fun e w' => e = .returned (.tuple #[lV (ldK s), .int .i64 0]) ∧ Below w.heap.size w w' := by
  have hmf : ∀ (fn : Fn) (first cap : Array Value) (w : World), (Instr.makeFunc fn first cap).run Tryz.prog w = .ok (.func fn first cap) w := fun _ _ _ _ => rfl
  have HD := hide hd
  clear hd
  go_enter_defers Tryz.func36, Tryz.ntmps36
  go_wp2_with fail
  refine (readLeader_yes s _ hs (unhide HD)).mono ?_
  rintro e w1 ⟨rfl, hb1⟩
  obtain ⟨hv, hblk⟩ := two_newL hb1
  obtain ⟨v0, v1, v2⟩ := hv.cells
  obtain ⟨f0, f1, f2⟩ := hv.free
  have hc0 := Joins.cell_of_block hblk 0
  have hf0 := Joins.unfrozen_of_block hblk 0
  simp only [List.size_toArray, List.length_cons, List.length_nil, Nat.zero_add, Nat.lt_add_one, getElem?_pos, List.getElem_toArray, List.getElem_cons_zero] at hc0
  have HB := hide (fr (Joins.below_alloc2 w _ _) hb1)
  clear hb1 hblk hv
  go_wp2
  refine leaves_cons (f := 74) (args := #[.pointer (some ⟨w.heap.size + 1, 0, none⟩)]) (by simp) (by simp [go_sem]) ?_
  refine (catchL_idle ⟨w.heap.size + 1, 0, none⟩ _).mono ?_
  rintro e u' w'' ⟨rfl, rfl, rfl⟩
  simp [Leaves, settle, results, Tryz.results36, go_sem, v0, v1, v2, hc0]
  exact (below3 (unhide HB) (Nat.le_refl _) 0 1 2 _ _ _).setCell (p := ⟨w.heap.size + 1, 0, none⟩) (Nat.le_succ _) _

set_option maxHeartbeats 1600000 in
theorem readTextL_no (s : ByteArray) (w : World) (hs : s.size ≤ 65536) (hd : ldD s = false) (hE : ErrW w) :
    Calls Tryz.prog 36 #[.string s, .func (.func 37) #[] #[]] w fun e w' => e = .returned (.tuple #[lV ld0, .int .i64 3]) ∧ Below w.heap.size w w' := by
  have hmf : ∀ (fn : Fn) (first cap : Array Value) (w : World), (Instr.makeFunc fn first cap).run Tryz.prog w = .ok (.func fn first cap) w := fun _ _ _ _ => rfl
  have HD := hide hd
  have HE := hide (hE.below (Joins.below_alloc2 w (.cells #[.int .i64 0, .int .i64 0, .int .i64 0] 30) (.cells #[.int .i64 0] 3)))
  clear hd hE
  go_enter_defers Tryz.func36, Tryz.ntmps36
  go_wp2_with fail
  refine (readLeader_no s _ hs (unhide HD) (unhide HE)).mono ?_
  rintro e w1 ⟨⟨u, pv, rfl⟩, hb1⟩
  obtain ⟨hv, hblk⟩ := two_newL hb1
  obtain ⟨v0, v1, v2⟩ := hv.cells
  have hc0 := Joins.cell_of_block hblk 0
  have hf0 := Joins.unfrozen_of_block hblk 0
  simp only [List.size_toArray, List.length_cons, List.length_nil, Nat.zero_add, Nat.lt_add_one, getElem?_pos, List.getElem_toArray, List.getElem_cons_zero] at hc0
  have HB := hide (fr (Joins.below_alloc2 w _ _) hb1)
  clear hb1 hblk hv
  go_wp2
  refine leaves_cons (f := 74) (args := #[.pointer (some ⟨w.heap.size + 1, 0, none⟩)]) (by simp) (by simp [go_sem]) ?_
  refine (catchL_panicking ⟨w.heap.size + 1, 0, none⟩ 0 u pv [] _ hc0 hf0).mono ?_
  rintro e u' w'' ⟨rfl, rfl, rfl⟩
  simp [Leaves, settle, results, Tryz.results36, go_sem, v0, v1, v2, hc0, ld0]
  exact (unhide HB).setCell (p := ⟨w.heap.size + 1, 0, none⟩) (Nat.le_succ _) _

theorem readTextL_long (s : ByteArray) (w : World) (hs : 65536 < s.size) (f : Value) :
    Calls Tryz.prog 36 #[.string s, f] w fun e w' => e = .returned (.tuple #[lV ld0, .int .i64 2]) ∧ Below w.heap.size w w' := by
  go_enter_defers Tryz.func36, Tryz.ntmps36
  go_wp2
  simp [bodyPostD, Leaves, results, Tryz.results36, go_sem, ld0]
  exact Joins.below_alloc2 _ _ _

set_option maxHeartbeats 1600000 in
theorem decodeLeader_impl (t : ByteArray) (w : World) (hE : ErrW w) : Calls Tryz.prog 13 #[.string t] w fun e w' => e = .returned (.tuple #[lV (lcK t), .int .i64 (lcC t)]) ∧ Below w.heap.size w w' := by
  have hmf : ∀ (fn : Fn) (first cap : Array Value) (w : World), (Instr.makeFunc fn first cap).run Tryz.prog w = .ok (.func fn first cap) w := fun _ _ _ _ => rfl
  have HA := hide (Joins.below_alloc1 w (.cells #[.int .i64 0, .int .i64 0, .int .i64 0] 30))
  have HE := hide (hE.below (unhide HA))
  have HV := hide (VarT.new w 30 0 0 0)
  clear hE
  obtain ⟨K, HK⟩ : ∃ K : Prop, Hid K := ⟨True, trivial⟩
  have key : ∀ (K1 : Ld) (d : Int), (lcK t = K1 ∧ lcC t = d) → (∀ W, ErrW W → Calls Tryz.prog 36 #[.string t, .func (.func 37) #[] #[]] W fun e w' => e = .returned (.tuple #[lV K1, .int .i64 d]) ∧ Below W.heap.size W w') →
      Calls Tryz.prog 13 #[.string t] w fun e w' => e = .returned (.tuple #[lV (lcK t), .int .i64 (lcC t)]) ∧ Below w.heap.size w w' := by
    intro K1 d hq hc
    have HQ := hide hq
    have HC := hide hc
    clear hq hc
    go_enter Tryz.func13, Tryz.ntmps13
    go_wp2_with fail
    refine (unhide HC _ (unhide HE)).mono ?_
    rintro e w1 ⟨rfl, hb⟩
    have HV1 := hide ((unhide HV).below hb)
    obtain ⟨hc0, hc1, hc2⟩ := (unhide HV1).cells
    obtain ⟨hf0, hf1, hf2⟩ := (unhide HV1).free
    have HB := hide (fun u v x => below3 (fr (unhide HA) hb) (Nat.le_refl _) 0 1 2 u v x)
    clear hb
    go_wp2
    refine bodyPost_ret (v := .tuple #[lV K1, .int .i64 d]) (by simp [results, Tryz.results13, go_sem, hc0, hc1, hc2]) rfl ⟨?_, unhide HB _ _ _⟩
    exact ret_li (unhide HQ).1.symm (unhide HQ).2.symm
  by_cases h1 : 65536 < t.size
  · exact key _ _ (lc_long h1) (fun W _ => readTextL_long t W h1 _)
  · by_cases hd : ldD t = true
    · exact key _ _ (lc_yes h1 hd) (fun W _ => readTextL_yes t W (by omega) hd)
    · rw [Bool.not_eq_true] at hd
      exact key _ _ (lc_no h1 hd) (fun W hW => readTextL_no t W (by omega) hd hW)

end Go.Proofs.YtdfinapjgffjiaaGreatDoor

/- Contracts of the program's leader on a disk: nobodySince, leaderSeen, ReadLeader, Holds. -/
namespace Go.Proofs.YtdfinapjgffjiaaGreatDoor
open Go.RowKit
set_option linter.unusedVariables false
set_option maxRecDepth 100000

set_option maxHeartbeats 1600000 in
theorem nobodySince_any (v : Int) (w : World) : Calls Tryz.prog 55 #[.int .i64 v] w fun e w' => e = .returned (lV (ldN v)) ∧ Below w.heap.size w w' := by
  go_enter Tryz.func55, Tryz.ntmps55
  go_wp2
  exact bodyPost_ret (v := lV (ldN v)) (by simp [results, Tryz.results55, go_sem, ldN]) rfl ⟨rfl, Joins.below_alloc1 _ _⟩

theorem seenAt (ao bo : Option Addr) (ca cb : Nat) (ss : List ByteArray) (xs : List Wr) (h a : Int) (T : ByteArray) (w : World) (hd : diskB ss xs = true) (h0 : 0 ≤ a) (h3 : a ≤ 63) (hT : readV ss xs h a = T) (h1 : Ss w ao ss) (h2 : Ios w bo xs) :
    Calls Tryz.prog 54 #[.agg #[.slice ao ss.length ca, .slice bo xs.length cb], .int .i64 h, .int .i64 a] w fun e w' => e = .returned (.string T) ∧ Below w.heap.size w w' := by
  obtain ⟨l1, l2⟩ := diskB_len hd
  obtain ⟨n, rfl⟩ := Int.eq_ofNat_of_zero_le h0
  subst hT
  exact seenBy_any ao bo ca cb ss xs h n w l2 (by omega) (by omega) h1 h2

set_option maxHeartbeats 1600000 in
theorem leaderSeen_any (ao bo : Option Addr) (ca cb : Nat) (ss : List ByteArray) (xs : List Wr) (h : Int) (L : Ld) (w : World) (hL : ldOf ss xs h = L) (hd : diskB ss xs = true) (h1 : Ss w ao ss) (h2 : Ios w bo xs) (hE : ErrW w) :
    Calls Tryz.prog 24 #[.agg #[.slice ao ss.length ca, .slice bo xs.length cb], .int .i64 h] w fun e w' => e = .returned (lV L) ∧ Below w.heap.size w w' := by
  have HS := hide (readV_size hd h 0)
  have HA := hide (Joins.below_alloc2 w (.cells #[.slice ao ss.length ca, .slice bo xs.length cb] 26) (.cells #[.int .i64 0, .int .i64 0, .int .i64 0] 30))
  have H1 := hide (h1.below (unhide HA))
  have H2 := hide (h2.below (unhide HA))
  have HE0 := hide (hE.below (unhide HA))
  have HR := hide (varL_new w (.cells #[.slice ao ss.length ca, .slice bo xs.length cb] 26) 0 0 0)
  obtain ⟨T, HT⟩ : ∃ T, Hid (readV ss xs h 0 = T) := ⟨_, hide rfl⟩
  have HK : Hid (ldK T = L) := hide (by rw [← unhide HT]; exact hL)
  rw [unhide HT] at HS
  have HD := hide hd
  clear h1 h2 hd hL hE
  go_enter Tryz.func24, Tryz.ntmps24
  go_wp2_with fail
  refine (seenAt _ _ _ _ ss xs h 0 T _ (unhide HD) (by decide) (by decide) (unhide HT) (unhide H1) (unhide H2)).mono ?_
  rintro e w1 ⟨rfl, hb1⟩
  have HB1 := hide (fr (unhide HA) hb1)
  have HR1 := hide ((unhide HR).below hb1)
  have HE1 := hide ((unhide HE0).below hb1)
  clear hb1
  go_wp2_with fail
  refine (decodeLeader_impl T _ (unhide HE1)).mono ?_
  rintro e w2 ⟨rfl, hb2⟩
  have HB2 := hide (fr (unhide HB1) hb2)
  have HR2 := hide ((unhide HR1).below hb2)
  clear hb2
  by_cases hd : ldD T = true
  · obtain ⟨y1, y2⟩ := lc_yes (t := T) (by have := unhide HS; omega) hd
    rw [y1, y2, unhide HK]
    clear y1 y2 hd
    obtain ⟨hc0, hc1, hc2⟩ := (unhide HR2).cells
    obtain ⟨hf0, hf1, hf2⟩ := (unhide HR2).free
    have hlt := (unhide HR2).lt
    have HE := hide (fun u v x => fr (below3 (g := w.heap.size + 1) (unhide HB2) (by omega) 0 1 2 u v x) (Joins.below_alloc1 _ (.cells #[.int .i64 L.ver, .int .i64 L.own, .int .i64 L.gen] 30)))
    go_wp2
    exact bodyPost_ret (v := lV L) (by simp [results, Tryz.results24, go_sem, hc0, hc1, hc2, hlt]) rfl ⟨rfl, unhide HE _ _ _⟩
  · rw [Bool.not_eq_true] at hd
    obtain ⟨y1, y2⟩ := lc_no (t := T) (by have := unhide HS; omega) hd
    have HY : Hid (ldN 0 = L) := hide (by rw [← ld_no hd]; exact unhide HK)
    rw [y1, y2]
    clear y1 y2 hd
    have HA3 := hide (Joins.below_alloc1 w2 (.cells #[.int .i64 ld0.ver, .int .i64 ld0.own, .int .i64 ld0.gen] 30))
    have HR3 := hide ((unhide HR2).below (unhide HA3))
    go_wp2_with fail
    refine (nobodySince_any 0 _).mono ?_
    rintro e w3 ⟨rfl, hb3⟩
    have HB3 := hide (fr (fr (unhide HB2) (unhide HA3)) hb3)
    have HR4 := hide ((unhide HR3).below hb3)
    clear hb3
    obtain ⟨hc0, hc1, hc2⟩ := (unhide HR4).cells
    obtain ⟨hf0, hf1, hf2⟩ := (unhide HR4).free
    have HE := hide (fun u v x => below3 (g := w.heap.size + 1) (unhide HB3) (by omega) 0 1 2 u v x)
    go_wp2
    exact bodyPost_ret (v := lV (ldN 0)) (by simp [results, Tryz.results24, go_sem, hc0, hc1, hc2]) rfl ⟨ret_l (unhide HY), unhide HE _ _ _⟩

set_option maxHeartbeats 1600000 in
theorem readLeader_impl (ao bo : Option Addr) (ca cb : Nat) (ss : List ByteArray) (xs : List Wr) (h : Int) (w : World) (hl : ss.length ≤ maxLen) (hm : xs.length ≤ maxLen) (h1 : Ss w ao ss) (h2 : Ios w bo xs) (hE : ErrW w) :
    Calls Tryz.prog 7 #[.agg #[.slice ao ss.length ca, .slice bo xs.length cb], .int .i64 h] w fun e w' => e = .returned (.tuple #[lV (rlK ss xs h), .int .i64 (hostC ss xs h)]) ∧ Below w.heap.size w w' := by
  have HA := hide (Joins.below_alloc2 w (.cells #[.slice ao ss.length ca, .slice bo xs.length cb] 26) (.cells #[.int .i64 0, .int .i64 0, .int .i64 0] 30))
  have H1 := hide (h1.below (unhide HA))
  have H2 := hide (h2.below (unhide HA))
  have HE0 := hide (hE.below (unhide HA))
  have HV := hide ((VarD.new w (.slice ao ss.length ca) (.slice bo xs.length cb)).below (Joins.below_alloc1 _ (.cells #[.int .i64 0, .int .i64 0, .int .i64 0] 30)))
  have HR := hide (varL_new w (.cells #[.slice ao ss.length ca, .slice bo xs.length cb] 26) 0 0 0)
  have HL := hide hl
  have HM := hide hm
  clear h1 h2 hl hm hE
  go_enter Tryz.func7, Tryz.ntmps7
  go_wp2_with fail
  refine (hostFault_any _ _ _ _ ss xs h _ (unhide HL) (unhide HM) (unhide H1) (unhide H2)).mono ?_
  rintro e w1 ⟨rfl, hb1⟩
  have HB1 := hide (fr (unhide HA) hb1)
  have HV1 := hide ((unhide HV).below hb1)
  have HR1 := hide ((unhide HR).below hb1)
  have HS1 := hide ((unhide H1).below hb1)
  have HX1 := hide ((unhide H2).below hb1)
  have HE1 := hide ((unhide HE0).below hb1)
  clear hb1
  by_cases e0 : hostC ss xs h = 0
  · have hb : (hostC ss xs h != 0) = false := by simp [e0]
    obtain ⟨ed, eh0, eh3⟩ := hostC_eq e0
    have HD := hide ed
    obtain ⟨d0, d1⟩ := (unhide HV1).cells
    obtain ⟨L, HK⟩ : ∃ L, Hid (ldOf ss xs h = L) := ⟨_, hide rfl⟩
    have HZ : Hid (rlK ss xs h = L) := hide (by rw [rlK, if_pos e0]; exact unhide HK)
    have HC := hide e0
    clear ed e0
    go_wp2_with fail
    refine (leaderSeen_any _ _ _ _ ss xs h L _ (unhide HK) (unhide HD) (unhide HS1) (unhide HX1) (unhide HE1)).mono ?_
    rintro e w3 ⟨rfl, hb3⟩
    have HB3 := hide (fr (unhide HB1) hb3)
    have HR3 := hide ((unhide HR1).below hb3)
    clear hb3 d0 d1
    obtain ⟨c0, c1, c2⟩ := (unhide HR3).cells
    obtain ⟨f0, f1, f2⟩ := (unhide HR3).free
    have HE := hide (fun u v x => below3 (g := w.heap.size + 1) (unhide HB3) (by omega) 0 1 2 u v x)
    go_wp2
    refine bodyPost_ret (v := .tuple #[lV L, .int .i64 0]) (by simp [results, Tryz.results7, go_sem, c0, c1, c2]) rfl ⟨?_, unhide HE _ _ _⟩
    exact ret_li (unhide HZ).symm (unhide HC).symm
  · have hb : (hostC ss xs h != 0) = true := by simp [e0]
    have HZ : Hid (rlK ss xs h = ld0) := hide (if_neg e0)
    obtain ⟨c0, c1, c2⟩ := (unhide HR1).cells
    obtain ⟨f0, f1, f2⟩ := (unhide HR1).free
    have HE := hide (fun u v x => below3 (g := w.heap.size + 1) (unhide HB1) (by omega) 0 1 2 u v x)
    go_wp2
    refine bodyPost_ret (v := .tuple #[lV ld0, .int .i64 (hostC ss xs h)]) (by simp [results, Tryz.results7, go_sem, c0, c1, c2, ld0]) rfl ⟨?_, unhide HE _ _ _⟩
    exact ret_li (unhide HZ).symm rfl

set_option maxHeartbeats 1600000 in
theorem holds_impl (ao bo : Option Addr) (ca cb : Nat) (ss : List ByteArray) (xs : List Wr) (h g : Int) (w : World) (hl : ss.length ≤ maxLen) (hm : xs.length ≤ maxLen) (h1 : Ss w ao ss) (h2 : Ios w bo xs) (hE : ErrW w) :
    Calls Tryz.prog 11 #[.agg #[.slice ao ss.length ca, .slice bo xs.length cb], .int .i64 h, .int .i64 g] w fun e w' => e = .returned (.tuple #[.bool (hlB ss xs h g), .int .i64 (hostC ss xs h)]) ∧ Below w.heap.size w w' := by
  have HA := hide (Joins.below_alloc1 w (.cells #[.slice ao ss.length ca, .slice bo xs.length cb] 26))
  have H1 := hide (h1.below (unhide HA))
  have H2 := hide (h2.below (unhide HA))
  have HE0 := hide (hE.below (unhide HA))
  have HL := hide hl
  have HM := hide hm
  clear h1 h2 hl hm hE
  go_enter Tryz.func11, Tryz.ntmps11
  go_wp2_with fail
  refine (readLeader_impl _ _ _ _ ss xs h _ (unhide HL) (unhide HM) (unhide H1) (unhide H2) (unhide HE0)).mono ?_
  rintro e w1 ⟨rfl, hb1⟩
  obtain ⟨L, HK⟩ : ∃ L, Hid (rlK ss xs h = L) := ⟨_, hide rfl⟩
  rw [unhide HK]
  have HB1 := hide (fr (fr (unhide HA) hb1) (Joins.below_alloc1 _ (.cells #[.int .i64 L.ver, .int .i64 L.own, .int .i64 L.gen] 30)))
  clear hb1
  by_cases e0 : hostC ss xs h = 0
  · have hb : (hostC ss xs h != 0) = false := by simp [e0]
    have HZ : Hid (hlB ss xs h g = (decide (L.own = h) && decide (L.gen = g))) := hide (by rw [hlB, decide_eq_true e0, ← unhide HK, rlK, if_pos e0]; rfl)
    have HC := hide e0
    clear e0
    by_cases k1 : L.own = h
    · have b1 : (L.own == h) = true := beq_iff_eq.2 k1
      have HY : Hid (hlB ss xs h g = (L.gen == g)) := hide (by rw [unhide HZ, Bool.eq_iff_iff]; simp [k1])
      clear k1
      go_wp2
      go_ret2
      exact ⟨ret_bi2 (unhide HY).symm (unhide HC).symm, unhide HB1⟩
    · have b1 : (L.own == h) = false := by simp [k1]
      have HY : Hid (hlB ss xs h g = false) := hide (by rw [unhide HZ]; simp [k1])
      clear k1
      go_wp2
      go_ret2
      exact ⟨ret_bi2 (unhide HY).symm (unhide HC).symm, unhide HB1⟩
  · have hb : (hostC ss xs h != 0) = true := by simp [e0]
    have HZ : Hid (hlB ss xs h g = false) := hide (by rw [hlB, decide_eq_false e0]; rfl)
    go_wp2
    go_ret2
    exact ⟨ret_bi2 (unhide HZ).symm rfl, unhide HB1⟩

end Go.Proofs.YtdfinapjgffjiaaGreatDoor

/- Contract of the program's WriteSector. -/
namespace Go.Proofs.YtdfinapjgffjiaaGreatDoor
open Go.RowKit
set_option linter.unusedVariables false

theorem wi_end {w w3 : World} {v g k cap n pa : Nat} {po : Option Addr} {ss : List ByteArray} {xs' : List Wr} {x y : Value} (hS : OwnR w3 (w.heap.size + 2) 9 1 (.slice po n pa) n (strV ss)) (hI : OwnR w3 (w.heap.size + 2) 65 3 (.slice (some ⟨g, 0, none⟩) k cap) k (ioV xs')) (hv : VarD w3 v x y) (hb : Below w.heap.size w w3) (hvw : w.heap.size ≤ v) (a b c : Value) :
    OwnD (((w3.setCell ⟨v, 1, none⟩ a).setCell ⟨w.heap.size + 1, 0, none⟩ b).setCell ⟨w.heap.size + 1, 1, none⟩ c) w.heap.size po n pa (some ⟨g, 0, none⟩) k cap ss xs' ∧ Below w.heap.size w (((w3.setCell ⟨v, 1, none⟩ a).setCell ⟨w.heap.size + 1, 0, none⟩ b).setCell ⟨w.heap.size + 1, 1, none⟩ c) := by
  have hk : Keep (fun j => j = v) w3 (w3.setCell ⟨v, 1, none⟩ a) := Keep.setCell (S := fun j => j = v) (Keep.refl _ _) (p := ⟨v, 1, none⟩) rfl a
  have h1 : OwnD (w3.setCell ⟨v, 1, none⟩ a) (w.heap.size + 2) po n pa (some ⟨g, 0, none⟩) k cap ss xs' := ⟨hS.keep hk (fun j hj e => hS.other hv (by decide) (e ▸ hj)), hI.keep hk (fun j hj e => hI.other hv (by decide) (e ▸ hj))⟩
  exact copyD_end h1 (hb.setCell (p := ⟨v, 1, none⟩) hvw a) b c

set_option maxRecDepth 100000 in
set_option maxHeartbeats 800000 in
theorem writeSector_impl_range (ao bo : Option Addr) (ca cb : Nat) (ss : List ByteArray) (xs : List Wr) (h a : Int) (d : ByteArray) (w : World) (hz : d.size ≤ maxLen) (hl : ss.length ≤ maxLen) (hm : xs.length ≤ maxLen) (h1 : Ss w ao ss) (h2 : Ios w bo xs) (hlong : ¬ 65536 < d.size) (hask : askC ss xs h a = 0) (hbig : 80 < d.size) :
    Calls Tryz.prog 134 #[.agg #[.slice ao ss.length ca, .slice bo xs.length cb], .int .i64 h, .int .i64 a, .string d] w fun e w' => ∃ po pa qo qa, e = .returned (.tuple #[.agg #[.slice po (wrS ss xs h a d).length pa, .slice qo (wrX ss xs h a d).length qa], .int .i64 (wrC ss xs h a d)]) ∧ OwnD w' w.heap.size po (wrS ss xs h a d).length pa qo (wrX ss xs h a d).length qa (wrS ss xs h a d) (wrX ss xs h a d) ∧ Below w.heap.size w w' := by
  have HA := hide (Joins.below_alloc2 w (.cells #[.slice ao ss.length ca, .slice bo xs.length cb] 26) (.cells #[.slice none 0 0, .slice none 0 0] 26))
  have H1 := hide (h1.below (unhide HA))
  have H2 := hide (h2.below (unhide HA))
  have HV := hide ((VarD.new w (.slice ao ss.length ca) (.slice bo xs.length cb)).below (Joins.below_alloc1 _ (.cells #[.slice none 0 0, .slice none 0 0] 26)))
  have HR : Hid (VarD ((w.alloc (.cells #[.slice ao ss.length ca, .slice bo xs.length cb] 26)).alloc (.cells #[.slice none 0 0, .slice none 0 0] 26)) (w.heap.size + 1) (.slice none 0 0) (.slice none 0 0)) := hide (by have := VarD.new (w.alloc (.cells #[.slice ao ss.length ca, .slice bo xs.length cb] 26)) (.slice none 0 0) (.slice none 0 0); simp only [World.size_alloc] at this; exact this)
  have HS0 := hide h1
  have HX0 := hide h2
  have HL := hide hl
  have HM := hide hm
  clear h1 h2 hl hm
  unfold maxLen at hz
  have hb : (askC ss xs h a != 0) = false := by simp [hask]
  obtain ⟨hh, ha0, ha1⟩ := askC_eq hask
  obtain ⟨hlen, hlx⟩ := diskB_len (hostC_eq hh).1
  have HLS : Hid (ss.length ≤ 1048576) := hide (by omega)
  have HLX : Hid (xs.length ≤ 1048576) := hide (by omega)
  have HASK := hide hask
  clear hask hh hlen
  have HW := hide (wr_range (h := h) (a := a) (d := d) hlong (unhide HASK) hbig)
  go_enter Tryz.func134, Tryz.ntmps134
  go_wp2_with fail
  refine (placeFault_any _ _ _ _ ss xs h a _ (unhide HL) (unhide HM) (unhide H1) (unhide H2)).mono ?_
  rintro e w1 ⟨rfl, hb1⟩
  have HV1 := hide ((unhide HV).below hb1)
  have HR1 := hide ((unhide HR).below hb1)
  have HB1 := hide (fr (unhide HA) hb1)
  have HS1 := hide ((unhide H1).below hb1)
  have HX1 := hide ((unhide H2).below hb1)
  have HZ1 := hide hb1.size
  clear hb1
  obtain ⟨hv0, hv1⟩ := (unhide HV1).cells
  go_wp2_with fail
  refine (copyDisk_any _ _ _ _ ss xs _ (unhide HLS) (unhide HLX) (unhide HS1) (unhide HX1)).mono ?_
  rintro e w2 ⟨po, pa, qo, qa, rfl, ho2, hb2⟩
  have HO2 := hide (ho2.base (B' := w.heap.size + 2) (by have z1 := unhide HZ1; simp at z1; omega))
  have HR2 := hide ((unhide HR1).below hb2)
  have HB2 := hide (fr (unhide HB1) hb2)
  have hlt2 : w.heap.size + 1 < w2.heap.size := (unhide HR2).lt
  clear ho2 hb2 hv0 hv1
  obtain ⟨hr0, hr1⟩ := (unhide HR2).cells
  have hr2 := (unhide HR2).free 0
  have hr3 := (unhide HR2).free 1
  have HE := hide (copyD_end (w := w) (wL := w2) (unhide HO2) (unhide HB2) (.slice po ss.length pa) (.slice qo xs.length qa))
  have HE1 := hide ((unhide HE).1.below (Joins.below_alloc1 _ (.cells #[.slice po ss.length pa, .slice qo xs.length qa] 26)))
  have HE2 := hide (fr (unhide HE).2 (Joins.below_alloc1 _ (.cells #[.slice po ss.length pa, .slice qo xs.length qa] 26)))
  go_wp2
  obtain ⟨e1, e2, e3⟩ := unhide HW
  rw [e1, e2, e3]
  exact bodyPost_ret (v := .tuple #[.agg #[.slice po ss.length pa, .slice qo xs.length qa], .int .i64 4]) (by simp [results, Tryz.results134, go_sem, hr0, hr1, hlt2]) rfl ⟨po, pa, qo, qa, rfl, unhide HE1, unhide HE2⟩

set_option maxRecDepth 100000 in
set_option maxHeartbeats 800000 in
theorem writeSector_impl_full (ao bo : Option Addr) (ca cb : Nat) (ss : List ByteArray) (xs : List Wr) (h a : Int) (d : ByteArray) (w : World) (hz : d.size ≤ maxLen) (hl : ss.length ≤ maxLen) (hm : xs.length ≤ maxLen) (h1 : Ss w ao ss) (h2 : Ios w bo xs) (hlong : ¬ 65536 < d.size) (hask : askC ss xs h a = 0) (hbig : ¬ 80 < d.size) (hfull : xs.length = 200) :
    Calls Tryz.prog 134 #[.agg #[.slice ao ss.length ca, .slice bo xs.length cb], .int .i64 h, .int .i64 a, .string d] w fun e w' => ∃ po pa qo qa, e = .returned (.tuple #[.agg #[.slice po (wrS ss xs h a d).length pa, .slice qo (wrX ss xs h a d).length qa], .int .i64 (wrC ss xs h a d)]) ∧ OwnD w' w.heap.size po (wrS ss xs h a d).length pa qo (wrX ss xs h a d).length qa (wrS ss xs h a d) (wrX ss xs h a d) ∧ Below w.heap.size w w' := by
  have HA := hide (Joins.below_alloc2 w (.cells #[.slice ao ss.length ca, .slice bo xs.length cb] 26) (.cells #[.slice none 0 0, .slice none 0 0] 26))
  have H1 := hide (h1.below (unhide HA))
  have H2 := hide (h2.below (unhide HA))
  have HV := hide ((VarD.new w (.slice ao ss.length ca) (.slice bo xs.length cb)).below (Joins.below_alloc1 _ (.cells #[.slice none 0 0, .slice none 0 0] 26)))
  have HR : Hid (VarD ((w.alloc (.cells #[.slice ao ss.length ca, .slice bo xs.length cb] 26)).alloc (.cells #[.slice none 0 0, .slice none 0 0] 26)) (w.heap.size + 1) (.slice none 0 0) (.slice none 0 0)) := hide (by have := VarD.new (w.alloc (.cells #[.slice ao ss.length ca, .slice bo xs.length cb] 26)) (.slice none 0 0) (.slice none 0 0); simp only [World.size_alloc] at this; exact this)
  have HS0 := hide h1
  have HX0 := hide h2
  have HL := hide hl
  have HM := hide hm
  clear h1 h2 hl hm
  unfold maxLen at hz
  have hb : (askC ss xs h a != 0) = false := by simp [hask]
  obtain ⟨hh, ha0, ha1⟩ := askC_eq hask
  obtain ⟨hlen, hlx⟩ := diskB_len (hostC_eq hh).1
  have HLS : Hid (ss.length ≤ 1048576) := hide (by omega)
  have HLX : Hid (xs.length ≤ 1048576) := hide (by omega)
  have HASK := hide hask
  clear hask hh hlen
  have HW := hide (wr_full (h := h) (a := a) (d := d) hlong (unhide HASK) hbig hfull)
  have hge : 200 ≤ xs.length := by omega
  clear hfull
  go_enter Tryz.func134, Tryz.ntmps134
  go_wp2_with fail
  refine (placeFault_any _ _ _ _ ss xs h a _ (unhide HL) (unhide HM) (unhide H1) (unhide H2)).mono ?_
  rintro e w1 ⟨rfl, hb1⟩
  have HV1 := hide ((unhide HV).below hb1)
  have HR1 := hide ((unhide HR).below hb1)
  have HB1 := hide (fr (unhide HA) hb1)
  have HS1 := hide ((unhide H1).below hb1)
  have HX1 := hide ((unhide H2).below hb1)
  have HZ1 := hide hb1.size
  clear hb1
  obtain ⟨hv0, hv1⟩ := (unhide HV1).cells
  go_wp2_with fail
  refine (copyDisk_any _ _ _ _ ss xs _ (unhide HLS) (unhide HLX) (unhide HS1) (unhide HX1)).mono ?_
  rintro e w2 ⟨po, pa, qo, qa, rfl, ho2, hb2⟩
  have HO2 := hide (ho2.base (B' := w.heap.size + 2) (by have z1 := unhide HZ1; simp at z1; omega))
  have HR2 := hide ((unhide HR1).below hb2)
  have HB2 := hide (fr (unhide HB1) hb2)
  have hlt2 : w.heap.size + 1 < w2.heap.size := (unhide HR2).lt
  clear ho2 hb2 hv0 hv1
  obtain ⟨hr0, hr1⟩ := (unhide HR2).cells
  have hr2 := (unhide HR2).free 0
  have hr3 := (unhide HR2).free 1
  have HE := hide (copyD_end (w := w) (wL := w2) (unhide HO2) (unhide HB2) (.slice po ss.length pa) (.slice qo xs.length qa))
  have HE1 := hide ((unhide HE).1.below (Joins.below_alloc1 _ (.cells #[.slice po ss.length pa, .slice qo xs.length qa] 26)))
  have HE2 := hide (fr (unhide HE).2 (Joins.below_alloc1 _ (.cells #[.slice po ss.length pa, .slice qo xs.length qa] 26)))
  go_wp2
  obtain ⟨e1, e2, e3⟩ := unhide HW
  rw [e1, e2, e3]
  exact bodyPost_ret (v := .tuple #[.agg #[.slice po ss.length pa, .slice qo xs.length qa], .int .i64 7]) (by simp [results, Tryz.results134, go_sem, hr0, hr1, hlt2]) rfl ⟨po, pa, qo, qa, rfl, unhide HE1, unhide HE2⟩

set_option maxRecDepth 100000 in
set_option maxHeartbeats 800000 in
theorem writeSector_impl_ok (ao bo : Option Addr) (ca cb : Nat) (ss : List ByteArray) (xs : List Wr) (h a : Int) (d : ByteArray) (w : World) (hz : d.size ≤ maxLen) (hl : ss.length ≤ maxLen) (hm : xs.length ≤ maxLen) (h1 : Ss w ao ss) (h2 : Ios w bo xs) (hlong : ¬ 65536 < d.size) (hask : askC ss xs h a = 0) (hbig : ¬ 80 < d.size) (hfull : ¬ xs.length = 200) :
    Calls Tryz.prog 134 #[.agg #[.slice ao ss.length ca, .slice bo xs.length cb], .int .i64 h, .int .i64 a, .string d] w fun e w' => ∃ po pa qo qa, e = .returned (.tuple #[.agg #[.slice po (wrS ss xs h a d).length pa, .slice qo (wrX ss xs h a d).length qa], .int .i64 (wrC ss xs h a d)]) ∧ OwnD w' w.heap.size po (wrS ss xs h a d).length pa qo (wrX ss xs h a d).length qa (wrS ss xs h a d) (wrX ss xs h a d) ∧ Below w.heap.size w w' := by
  have HA := hide (Joins.below_alloc2 w (.cells #[.slice ao ss.length ca, .slice bo xs.length cb] 26) (.cells #[.slice none 0 0, .slice none 0 0] 26))
  have H1 := hide (h1.below (unhide HA))
  have H2 := hide (h2.below (unhide HA))
  have HV := hide ((VarD.new w (.slice ao ss.length ca) (.slice bo xs.length cb)).below (Joins.below_alloc1 _ (.cells #[.slice none 0 0, .slice none 0 0] 26)))
  have HR : Hid (VarD ((w.alloc (.cells #[.slice ao ss.length ca, .slice bo xs.length cb] 26)).alloc (.cells #[.slice none 0 0, .slice none 0 0] 26)) (w.heap.size + 1) (.slice none 0 0) (.slice none 0 0)) := hide (by have := VarD.new (w.alloc (.cells #[.slice ao ss.length ca, .slice bo xs.length cb] 26)) (.slice none 0 0) (.slice none 0 0); simp only [World.size_alloc] at this; exact this)
  have HS0 := hide h1
  have HX0 := hide h2
  have HL := hide hl
  have HM := hide hm
  clear h1 h2 hl hm
  unfold maxLen at hz
  have hb : (askC ss xs h a != 0) = false := by simp [hask]
  obtain ⟨hh, ha0, ha1⟩ := askC_eq hask
  obtain ⟨hlen, hlx⟩ := diskB_len (hostC_eq hh).1
  have HLS : Hid (ss.length ≤ 1048576) := hide (by omega)
  have HLX : Hid (xs.length ≤ 1048576) := hide (by omega)
  have HASK := hide hask
  clear hask hh hlen
  have HW := hide (wr_ok (h := h) (a := a) (d := d) hlong (unhide HASK) hbig hfull)
  have HN := hide (show xs.length + 1 = (xs ++ [(⟨h, a, d⟩ : Wr)]).length by simp)
  have hge : xs.length < 200 := by omega
  obtain ⟨j0, hj, hy0, hy1, hy2⟩ := info_parts infoW
  clear hfull
  go_enter Tryz.func134, Tryz.ntmps134
  go_wp2_with fail
  refine (placeFault_any _ _ _ _ ss xs h a _ (unhide HL) (unhide HM) (unhide H1) (unhide H2)).mono ?_
  rintro e w1 ⟨rfl, hb1⟩
  have HV1 := hide ((unhide HV).below hb1)
  have HR1 := hide ((unhide HR).below hb1)
  have HB1 := hide (fr (unhide HA) hb1)
  have HS1 := hide ((unhide H1).below hb1)
  have HX1 := hide ((unhide H2).below hb1)
  have HZ1 := hide hb1.size
  clear hb1
  obtain ⟨hv0, hv1⟩ := (unhide HV1).cells
  go_wp2_with fail
  refine (copyDisk_any _ _ _ _ ss xs _ (unhide HLS) (unhide HLX) (unhide HS1) (unhide HX1)).mono ?_
  rintro e w2 ⟨po, pa, qo, qa, rfl, ho2, hb2⟩
  have HO2 := hide (ho2.base (B' := w.heap.size + 2) (by have z1 := unhide HZ1; simp at z1; omega))
  have HR2 := hide ((unhide HR1).below hb2)
  have HB2 := hide (fr (unhide HB1) hb2)
  have hlt2 : w.heap.size + 1 < w2.heap.size := (unhide HR2).lt
  clear ho2 hb2 hv0 hv1
  obtain ⟨hr0, hr1⟩ := (unhide HR2).cells
  have hr2 := (unhide HR2).free 0
  have hr3 := (unhide HR2).free 1
  have HA2 := hide (Joins.below_alloc2 w2 (.cells #[.slice po ss.length pa, .slice qo xs.length qa] 26) (.cells #[.int .i64 h, .int .i64 a, .string d] 65))
  have HO3 := hide ((unhide HO2).below (unhide HA2))
  have HR3 := hide ((unhide HR2).below (unhide HA2))
  have HV3 := hide ((VarD.new w2 (.slice po ss.length pa) (.slice qo xs.length qa)).below (Joins.below_alloc1 _ (.cells #[.int .i64 h, .int .i64 a, .string d] 65)))
  have HB3 := hide (fr (unhide HB2) (unhide HA2))
  have HI3 : Hid (VarI ((w2.alloc (.cells #[.slice po ss.length pa, .slice qo xs.length qa] 26)).alloc (.cells #[.int .i64 h, .int .i64 a, .string d] 65)) (w2.heap.size + 1) ⟨h, a, d⟩) := hide (VarI.top (x := ⟨h, a, d⟩) (by simp))
  go_wp2_with (at_builtin; refine wpList_append_one rfl _ _ 24 rfl (w.heap.size + 2) 65 j0 (.agg #[.int .i64 0, .int .i64 0, .string ⟨#[]⟩]) 3 32 Tryz.underlying24 hj hy0 hy1 hy2 rfl (by omega) qo xs.length qa (ioV xs) rfl (unhide HO3).i (by simp; omega) ⟨w2.heap.size + 1, 0, none⟩ _ (wrV ⟨h, a, d⟩) rfl rfl (unhide HI3).news (wrV_one _) (by unfold maxLen; omega) (by omega) ?_; intro g cap w3 ho3 hk3; have HV4 := hide ((unhide HV3).keep hk3 ((unhide HO3).i.other (unhide HV3) (by decide))); have HR4 := hide ((unhide HR3).keep hk3 ((unhide HO3).i.other (unhide HR3) (by decide))); have HW4 := hide (wi_end (w := w) (w3 := w3) (v := w2.heap.size) (g := g) (k := xs.length + 1) (cap := cap) (xs' := xs ++ [⟨h, a, d⟩]) ((unhide HO3).s.keep hk3 (own_apart (unhide HO3).s (unhide HO3).i (by decide))) (.inr ⟨Nat.succ_pos _, by rw [ioV_snoc]; exact ho3⟩) (unhide HV4) ((unhide HB3).trans (hk3.below (B := w.heap.size) (unhide HB3).size (fun j hj => Nat.le_trans (show w.heap.size ≤ w.heap.size + 2 from by omega) ((unhide HO3).i.ge j hj).1))) (by omega) (.slice (some ⟨g, 0, none⟩) (xs.length + 1) cap) (.slice po ss.length pa) (.slice (some ⟨g, 0, none⟩) (xs.length + 1) cap)); obtain ⟨q0, q1⟩ := (unhide HV4).cells; have q2 := (unhide HV4).free 1; obtain ⟨q3, q4⟩ := (unhide HR4).cells; have q5 := (unhide HR4).free 0; have q6 := (unhide HR4).free 1; clear ho3 hk3)
  obtain ⟨e1, e2, e3⟩ := unhide HW
  rw [e1, e2, e3, ← unhide HN]
  exact bodyPost_ret (v := .tuple #[.agg #[.slice po ss.length pa, .slice (some ⟨g, 0, none⟩) (xs.length + 1) cap], .int .i64 0]) (by simp [results, Tryz.results134, go_sem, q3, q4]) rfl ⟨po, pa, _, _, rfl, (unhide HW4).1, (unhide HW4).2⟩

set_option maxRecDepth 100000 in
set_option maxHeartbeats 1600000 in
theorem writeSector_impl (ao bo : Option Addr) (ca cb : Nat) (ss : List ByteArray) (xs : List Wr) (h a : Int) (d : ByteArray) (w : World) (hz : d.size ≤ maxLen) (hl : ss.length ≤ maxLen) (hm : xs.length ≤ maxLen) (h1 : Ss w ao ss) (h2 : Ios w bo xs) :
    Calls Tryz.prog 134 #[.agg #[.slice ao ss.length ca, .slice bo xs.length cb], .int .i64 h, .int .i64 a, .string d] w fun e w' => ∃ po pa qo qa, e = .returned (.tuple #[.agg #[.slice po (wrS ss xs h a d).length pa, .slice qo (wrX ss xs h a d).length qa], .int .i64 (wrC ss xs h a d)]) ∧ OwnD w' w.heap.size po (wrS ss xs h a d).length pa qo (wrX ss xs h a d).length qa (wrS ss xs h a d) (wrX ss xs h a d) ∧ Below w.heap.size w w' := by
  have HA := hide (Joins.below_alloc2 w (.cells #[.slice ao ss.length ca, .slice bo xs.length cb] 26) (.cells #[.slice none 0 0, .slice none 0 0] 26))
  have H1 := hide (h1.below (unhide HA))
  have H2 := hide (h2.below (unhide HA))
  have HV := hide ((VarD.new w (.slice ao ss.length ca) (.slice bo xs.length cb)).below (Joins.below_alloc1 _ (.cells #[.slice none 0 0, .slice none 0 0] 26)))
  have HR : Hid (VarD ((w.alloc (.cells #[.slice ao ss.length ca, .slice bo xs.length cb] 26)).alloc (.cells #[.slice none 0 0, .slice none 0 0] 26)) (w.heap.size + 1) (.slice none 0 0) (.slice none 0 0)) := hide (by have := VarD.new (w.alloc (.cells #[.slice ao ss.length ca, .slice bo xs.length cb] 26)) (.slice none 0 0) (.slice none 0 0); simp only [World.size_alloc] at this; exact this)
  have HS0 := hide h1
  have HX0 := hide h2
  have HL := hide hl
  have HM := hide hm
  clear h1 h2 hl hm
  unfold maxLen at hz
  by_cases hlong : 65536 < d.size
  · obtain ⟨e1, e2, e3⟩ := wr_long (ss := ss) (xs := xs) (h := h) (a := a) hlong
    rw [e1, e2, e3]
    clear e1 e2 e3
    go_enter Tryz.func134, Tryz.ntmps134
    go_wp2
    exact bodyPost_ret (v := .tuple #[.agg #[.slice none 0 0, .slice none 0 0], .int .i64 2]) (by simp [results, Tryz.results134, go_sem]) rfl ⟨none, 0, none, 0, rfl, zeroD_own, unhide HA⟩
  by_cases hask : askC ss xs h a = 0
  · by_cases hbig : 80 < d.size
    · exact writeSector_impl_range ao bo ca cb ss xs h a d w (by unfold maxLen; exact hz) (unhide HL) (unhide HM) (unhide HS0) (unhide HX0) hlong hask hbig
    · by_cases hfull : xs.length = 200
      · exact writeSector_impl_full ao bo ca cb ss xs h a d w (by unfold maxLen; exact hz) (unhide HL) (unhide HM) (unhide HS0) (unhide HX0) hlong hask hbig hfull
      · exact writeSector_impl_ok ao bo ca cb ss xs h a d w (by unfold maxLen; exact hz) (unhide HL) (unhide HM) (unhide HS0) (unhide HX0) hlong hask hbig hfull
  · have hb : (askC ss xs h a != 0) = true := by simp [hask]
    obtain ⟨e1, e2, e3⟩ := wr_ask (ss := ss) (xs := xs) (h := h) (a := a) hlong hask
    rw [e1, e2, e3]
    clear e1 e2 e3 hask
    go_enter Tryz.func134, Tryz.ntmps134
    go_wp2_with fail
    refine (placeFault_any _ _ _ _ ss xs h a _ (unhide HL) (unhide HM) (unhide H1) (unhide H2)).mono ?_
    rintro e w1 ⟨rfl, hb1⟩
    have HR1 := hide ((unhide HR).below hb1)
    have HB1 := hide (fr (unhide HA) hb1)
    clear hb1
    obtain ⟨hr0, hr1⟩ := (unhide HR1).cells
    have hr2 := (unhide HR1).free 0
    have hr3 := (unhide HR1).free 1
    have HE := hide (zero_end (w := w) (wL := w1) (unhide HB1) (.slice none 0 0) (.slice none 0 0))
    go_wp2
    exact bodyPost_ret (v := .tuple #[.agg #[.slice none 0 0, .slice none 0 0], .int .i64 (askC ss xs h a)]) (by simp [results, Tryz.results134, go_sem, hr0, hr1]) rfl ⟨none, 0, none, 0, rfl, zeroD_own, unhide HE⟩

end Go.Proofs.YtdfinapjgffjiaaGreatDoor

/- Contracts of the program's WriteSector and Flush at right arguments, what they answer owned; of impl.writeSure. -/
namespace Go.Proofs.YtdfinapjgffjiaaGreatDoor
open Go.RowKit
set_option linter.unusedVariables false
set_option maxRecDepth 100000

theorem codes_right {ss : List ByteArray} {xs : List Wr} {h a : Int} (hd : diskB ss xs = true) (h0 : 0 ≤ h) (h3 : h ≤ 3) (a0 : 0 ≤ a) (a1 : a ≤ 63) : hostC ss xs h = 0 ∧ askC ss xs h a = 0 := by
  have e := hostC_ok hd (show inB h 0 3 = true by simp [inB]; omega)
  exact ⟨e, askC_ok e (by simp [inB]; omega)⟩
theorem own_len {po qo : Option Addr} {n n' m m' pa qa : Nat} {c c' : Int} (h1 : n = n') (h2 : m = m') (h3 : c = c') : Ending.returned (.tuple #[.agg #[.slice po n pa, .slice qo m qa], .int .i64 c]) = Ending.returned (.tuple #[.agg #[.slice po n' pa, .slice qo m' qa], .int .i64 c']) := by rw [h1, h2, h3]
theorem right_sz {ss : List ByteArray} {xs : List Wr} (hd : diskB ss xs = true) : (ss.length ≤ maxLen ∧ xs.length ≤ maxLen) ∧ (∀ s ∈ ss, s.size ≤ maxLen) ∧ ∀ x ∈ xs, x.data.size ≤ maxLen := by
  have hl := diskB_len hd
  refine ⟨by unfold maxLen; omega, fun s hs => Nat.le_trans ((diskB_parts.1 hd).1.2 s hs) (by decide), fun x hx => Nat.le_trans (ioB_parts.1 ((diskB_parts.1 hd).2.2 x hx)).2.2 (by decide)⟩

theorem write_own (ao bo : Option Addr) (ca cb : Nat) (ss : List ByteArray) (xs : List Wr) (h a : Int) (t : ByteArray) (X : List Wr) (w : World) (hX : xs ++ [⟨h, a, t⟩] = X) (hd : diskB ss xs = true) (hl : xs.length < 200) (ht : t.size ≤ 80) (h0 : 0 ≤ h) (h3 : h ≤ 3) (a0 : 0 ≤ a) (a1 : a ≤ 63) (h1 : Ss w ao ss) (h2 : Ios w bo xs) :
    Calls Tryz.prog 134 #[.agg #[.slice ao ss.length ca, .slice bo xs.length cb], .int .i64 h, .int .i64 a, .string t] w fun e w' => ∃ po pa qo qa, e = .returned (.tuple #[.agg #[.slice po ss.length pa, .slice qo X.length qa], .int .i64 0]) ∧ OwnD w' w.heap.size po ss.length pa qo X.length qa ss X ∧ Below w.heap.size w w' := by
  subst hX
  obtain ⟨⟨l1, l2⟩, _⟩ := right_sz hd
  obtain ⟨_, ha⟩ := codes_right (h := h) (a := a) hd h0 h3 a0 a1
  obtain ⟨e1, e2, e3⟩ := wr_ok (ss := ss) (xs := xs) (h := h) (a := a) (d := t) (by omega) ha (by omega) (by omega)
  refine (writeSector_impl ao bo ca cb ss xs h a t w (by unfold maxLen; omega) l1 l2 h1 h2).mono ?_
  rintro e w' ⟨po, pa, qo, qa, he, ho, hb⟩
  rw [e1, e2] at ho
  rw [e1, e2, e3] at he
  exact ⟨po, pa, qo, qa, he, ho, hb⟩
theorem flush_put {h : Int} {ss : List ByteArray} {xs : List Wr} (hd : diskB ss xs = true) (ha : hostC ss xs h = 0) : flS ss xs h = putW ss (ofH h xs) ∧ flX ss xs h = dropF h xs := by
  obtain ⟨e1, e2⟩ := fl_ok ha
  have hc : (ofH h xs).length ≤ 200 := Nat.le_trans (List.length_filter_le _ _) (diskB_len hd).2
  obtain ⟨p1, p2⟩ := landF_put h ss xs 200
  have p1' : (landF h false ss xs 200).1 = putW ss ((ofH h xs).take 200) := p1
  have p2' : (landF h false ss xs 200).2.1 = remH h 200 xs := p2
  rw [List.take_of_length_le hc] at p1'
  rw [rem_all 200 xs hc] at p2'
  exact ⟨e1.trans p1', e2.trans p2'⟩
theorem flush_own (ao bo : Option Addr) (ca cb : Nat) (ss : List ByteArray) (xs : List Wr) (h : Int) (S : List ByteArray) (X : List Wr) (w : World) (hS : putW ss (ofH h xs) = S) (hX : dropF h xs = X) (hd : diskB ss xs = true) (h0 : 0 ≤ h) (h3 : h ≤ 3) (h1 : Ss w ao ss) (h2 : Ios w bo xs) :
    Calls Tryz.prog 135 #[.agg #[.slice ao ss.length ca, .slice bo xs.length cb], .int .i64 h] w fun e w' => ∃ po pa qo qa, e = .returned (.tuple #[.agg #[.slice po S.length pa, .slice qo X.length qa], .int .i64 0]) ∧ OwnD w' w.heap.size po S.length pa qo X.length qa S X ∧ Below w.heap.size w w' := by
  subst hS hX
  obtain ⟨⟨l1, l2⟩, _⟩ := right_sz hd
  obtain ⟨ha, _⟩ := codes_right (h := h) (a := 0) hd h0 h3 (by omega) (by omega)
  obtain ⟨e1, e2⟩ := flush_put hd ha
  refine (flush_impl ao bo ca cb ss xs h w l1 l2 h1 h2).mono ?_
  rintro e w' ⟨po, pa, qo, qa, he, ho, hb⟩
  rw [e1, e2] at ho
  rw [e1, e2, ha] at he
  exact ⟨po, pa, qo, qa, he, ho, hb⟩

set_option maxHeartbeats 1600000 in
theorem writeSure_ok (ao bo : Option Addr) (ca cb : Nat) (ss : List ByteArray) (xs : List Wr) (h a : Int) (t : ByteArray) (S : List ByteArray) (X : List Wr) (w : World) (hS : putW ss (ofH h (xs ++ [⟨h, a, t⟩])) = S) (hX : dropF h (xs ++ [⟨h, a, t⟩]) = X) (hd : diskB ss xs = true) (hl : xs.length < 200) (ht : t.size ≤ 80) (h0 : 0 ≤ h) (h3 : h ≤ 3) (a0 : 0 ≤ a) (a1 : a ≤ 63) (h1 : Ss w ao ss) (h2 : Ios w bo xs) :
    Calls Tryz.prog 119 #[.agg #[.slice ao ss.length ca, .slice bo xs.length cb], .int .i64 h, .int .i64 a, .string t] w fun e w' => ∃ po pa qo qa, e = .returned (.tuple #[.agg #[.slice po S.length pa, .slice qo X.length qa], .int .i64 0]) ∧ OwnD w' w.heap.size po S.length pa qo X.length qa S X ∧ Below w.heap.size w w' := by
  have HA := hide (Joins.below_alloc2 w (.cells #[.slice ao ss.length ca, .slice bo xs.length cb] 26) (.cells #[.slice none 0 0, .slice none 0 0] 26))
  have H1 := hide (h1.below (unhide HA))
  have H2 := hide (h2.below (unhide HA))
  have HR : Hid (VarD ((w.alloc (.cells #[.slice ao ss.length ca, .slice bo xs.length cb] 26)).alloc (.cells #[.slice none 0 0, .slice none 0 0] 26)) (w.heap.size + 1) (.slice none 0 0) (.slice none 0 0)) := hide (by have := VarD.new (w.alloc (.cells #[.slice ao ss.length ca, .slice bo xs.length cb] 26)) (.slice none 0 0) (.slice none 0 0); simp only [World.size_alloc] at this; exact this)
  obtain ⟨Y, HY⟩ : ∃ Y, Hid (xs ++ [⟨h, a, t⟩] = Y) := ⟨_, hide rfl⟩
  have HYR : Hid (diskB ss Y = true) := hide (by rw [← unhide HY]; exact diskB_snoc hd hl (x := ⟨h, a, t⟩) (ioB_parts.2 ⟨⟨h0, h3⟩, ⟨a0, a1⟩, ht⟩))
  have HYS := hide (right_sz (unhide HYR)).2.1
  have HYX := hide (right_sz (unhide HYR)).2.2
  have HS : Hid (putW ss (ofH h Y) = S) := hide (by rw [← unhide HY]; exact hS)
  have HX : Hid (dropF h Y = X) := hide (by rw [← unhide HY]; exact hX)
  have HD := hide hd
  have HL := hide hl
  have HT := hide ht
  clear h1 h2 hS hX hd hl ht
  go_enter Tryz.func119, Tryz.ntmps119
  go_wp2_with fail
  refine (write_own _ _ _ _ ss xs h a t Y _ (unhide HY) (unhide HD) (unhide HL) (unhide HT) h0 h3 a0 a1 (unhide H1) (unhide H2)).mono ?_
  rintro e w1 ⟨po, pa, qo, qa, rfl, ho1, hb1⟩
  have HA1 := hide (Joins.below_alloc1 w1 (.cells #[.slice po ss.length pa, .slice qo Y.length qa] 26))
  have HO1 := hide (ho1.below (unhide HA1))
  have HB1 := hide (fr (fr (unhide HA) hb1) (unhide HA1))
  have HR1 := hide (((unhide HR).below hb1).below (unhide HA1))
  clear ho1 hb1
  go_wp2_with fail
  refine (flush_own _ _ _ _ ss Y h S X _ (unhide HS) (unhide HX) (unhide HYR) h0 h3 ((unhide HO1).ss (unhide HYS)) ((unhide HO1).ios (unhide HYX))).mono ?_
  rintro e w2 ⟨po2, pa2, qo2, qa2, rfl, ho2, hb2⟩
  have HB2 := hide (fr (unhide HB1) hb2)
  have HR2 := hide ((unhide HR1).below hb2)
  have z : w.heap.size + 1 < (w1.alloc (.cells #[.slice po ss.length pa, .slice qo Y.length qa] 26)).heap.size := (unhide HR1).lt
  have HO2 := hide ho2
  clear ho2 hb2
  obtain ⟨hr0, hr1⟩ := (unhide HR2).cells
  have hr2 := (unhide HR2).free 0
  have hr3 := (unhide HR2).free 1
  have HE := hide (show OwnD ((w2.setCell ⟨w.heap.size + 1, 0, none⟩ (.slice po2 S.length pa2)).setCell ⟨w.heap.size + 1, 1, none⟩ (.slice qo2 X.length qa2)) w.heap.size po2 S.length pa2 qo2 X.length qa2 S X ∧ Below w.heap.size w ((w2.setCell ⟨w.heap.size + 1, 0, none⟩ (.slice po2 S.length pa2)).setCell ⟨w.heap.size + 1, 1, none⟩ (.slice qo2 X.length qa2)) from
    ⟨(((unhide HO2).setCell (a := ⟨w.heap.size + 1, 0, none⟩) z _).setCell (a := ⟨w.heap.size + 1, 1, none⟩) z _).base (by omega), ((unhide HB2).setCell (p := ⟨w.heap.size + 1, 0, none⟩) (Nat.le_succ _) _).setCell (p := ⟨w.heap.size + 1, 1, none⟩) (Nat.le_succ _) _⟩)
  clear z
  go_wp2
  exact bodyPost_ret (v := .tuple #[.agg #[.slice po2 S.length pa2, .slice qo2 X.length qa2], .int .i64 0]) (by simp [results, Tryz.results119, go_sem, hr0, hr1]) rfl ⟨po2, pa2, qo2, qa2, rfl, (unhide HE).1, (unhide HE).2⟩

end Go.Proofs.YtdfinapjgffjiaaGreatDoor
