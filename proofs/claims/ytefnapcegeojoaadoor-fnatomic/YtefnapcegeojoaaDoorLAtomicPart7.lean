import Derived.Test.YtefnapcegeojoaaDoorRows
import Derived.Test.YtefnapcegeojoaaDoorLAtomicPart1
import Derived.Test.YtefnapcegeojoaaDoorLAtomicPart2
import Derived.Test.YtefnapcegeojoaaDoorLAtomicPart6
import Derived.Test.YtefnapcegeojoaaDoorLAtomicPart3
import Derived.WalkKit
import Derived.WalkSpells
import Derived.Defers
import Derived.Recover
import Derived.BigQuiet
import Derived.Deep.QuietTactic
import Derived.Deep.RegionWith
import Derived.Test.YtefnapcegeojoaaDoorLAtomicPart4
import Derived.KernelRfl
import Derived.LoopN
import Derived.Deep.CutRange
import Derived.Lib.SmallJoins
import Derived.Deep.RegionHeld3
import Derived.Deep.RegionLawGrows
import Derived.Test.YtefnapcegeojoaaDoorLAtomicPart5

namespace Go.Proofs.YtefnapcegeojoaaDoor
open Go.RowKit
set_option linter.unusedVariables false
set_option maxRecDepth 100000

theorem du_open {t : ByteArray} (h : 8 ≤ t.size) (ho : RecP (t.extract 0 8) ∧ byteAt (t.extract 0 8) 0 = 8) : ∃ a, unL (bodyT (t.extract 0 8)) = [a] ∧ duX t = ⟨a, t.extract 8 t.size⟩ ∧ duB t = upB ⟨a, t.extract 8 t.size⟩ := by
  have ho' : openB (duH t) 8 = true := openB_iff.2 ho
  have e := duL_eq h ho'
  refine ⟨(duX t).at_, ?_, duX_at e, ?_⟩
  · rw [← openL_yes ho']; exact e
  · rw [duB_at h ho', ← duX_at e]
theorem duB_opens {t : ByteArray} (h : duB t = true) : 8 ≤ t.size ∧ RecP (t.extract 0 8) ∧ byteAt (t.extract 0 8) 0 = 8 := by
  obtain ⟨h1, h2, h3⟩ := duB_parts h
  exact ⟨h1, openB_iff.1 h2⟩

set_option maxHeartbeats 1600000 in
theorem readUpdate_yes (t : ByteArray) (w : World) (hs : t.size ≤ 65536) (hd : duB t = true) :
    Calls Tryd.prog 70 #[.string t] w fun e w' => e = .returned (uV (duU t)) ∧ Below w.heap.size w w' := by
  obtain ⟨h8, hr, hk⟩ := duB_opens hd
  obtain ⟨a, hl, hx, hbu⟩ := du_open h8 ⟨hr, hk⟩
  have HU : Hid (duU t = ⟨a, t.extract 8 t.size⟩) := hide ((du_yes hd).trans hx)
  have HDD : Hid (upB ⟨a, t.extract 8 t.size⟩ = true) := hide (by rw [← hbu]; exact hd)
  have HZ : Hid ((t.extract 8 t.size).size ≤ maxLen) := hide (by rw [duT_size]; unfold maxLen; omega)
  have HL := hide hl
  have HR := hide hr
  have HK := hide hk
  have HS : Hid ((t.extract 0 8).size ≤ 65536) := hide (by rw [duH_size h8]; omega)
  have h8' : ((8 : Int) ≤ (t.size : Int)) := by omega
  clear hl hx hbu hr hk hd
  have HA := hide (Joins.below_alloc1 w (.cells #[.int .i64 0, .string ⟨#[]⟩] 42))
  have HV := hide (VarU.new w 42 up0)
  go_enter Tryd.func70, Tryd.ntmps70
  go_wp2_with (go_at_call 68; refine (demand_true _).mono ?_; rintro e w' ⟨rfl, hw⟩; replace hw := hw.symm; subst hw)
  refine (readKind_yes (t.extract 0 8) 8 _ (unhide HS) (unhide HR) (unhide HK)).mono ?_
  rintro e w1 ⟨v, rfl, ⟨qo, qa, rfl, ho⟩, hb⟩
  have HB := hide (fr (unhide HA) hb)
  have HB1 := hide hb
  have hI := ownRN ho
  rw [unhide HL] at hI ⊢
  obtain ⟨g, off, rfl, hi0⟩ := hI 0 (by simp)
  simp only [List.getElem_cons_zero, Nat.add_zero] at hi0
  have hg := World.block_lt_of_cell? _ _ hi0
  clear hI ho hb
  simp only [List.length_cons, List.length_nil, Nat.zero_add]
  go_wp2_with fail
  have HA2 := hide (Joins.below_alloc1 w1 (.cells #[.int .i64 a, .string (t.extract 8 t.size)] 42)).drew
  have HV2 := hide (((unhide HV).below (unhide HB1)).below (unhide HA2))
  have HV3 : Hid (VarU (w1.alloc (.cells #[.int .i64 a, .string (t.extract 8 t.size)] 42)).drew w1.heap.size 42 ⟨a, t.extract 8 t.size⟩) := hide ((VarU.new w1 42 ⟨a, t.extract 8 t.size⟩).below (Below.refl _ _).drew)
  have HB2 := hide (fr (unhide HB) (unhide HA2))
  go_region
  go_wp2_with fail
  refine (updateOK_any ⟨a, t.extract 8 t.size⟩ _ (unhide HZ)).mono ?_
  rintro e w2 ⟨rfl, hb2⟩
  rw [unhide HDD]
  have HB3 := hide (fr (unhide HB2) hb2)
  obtain ⟨hc0, hc1⟩ := ((unhide HV2).below hb2).cells
  obtain ⟨hf0, hf1⟩ := ((unhide HV2).below hb2).free
  obtain ⟨hx0, hx1⟩ := ((unhide HV3).below hb2).cells
  have HR3 := hide (fun u v => below2 (unhide HB3) (Nat.le_refl _) 0 1 u v)
  clear hb2 hi0
  go_wp2_with (go_at_call 68; refine (demand_true _).mono ?_; rintro e w' ⟨rfl, hw⟩; replace hw := hw.symm; subst hw)
  refine bodyPost_ret (v := uV ⟨a, t.extract 8 t.size⟩) (by simp [results, Tryd.results70, go_sem, hc0, hc1]) rfl ⟨?_, unhide HR3 _ _⟩
  rw [unhide HU]

set_option maxHeartbeats 1600000 in
theorem readUpdate_no (t : ByteArray) (w : World) (hs : t.size ≤ 65536) (hd : duB t = false) (hE : ErrW w) :
    Calls Tryd.prog 70 #[.string t] w fun e w' => (∃ u pv, e = .panicked [{ v := .iface u pv, recovered := false }]) ∧ Below w.heap.size w w' := by
  have HA := hide (Joins.below_alloc1 w (.cells #[.int .i64 0, .string ⟨#[]⟩] 42))
  have HE := hide (hE.below (unhide HA))
  clear hE
  by_cases h8 : (8 : Int) ≤ (t.size : Int)
  · have HS : Hid ((t.extract 0 8).size ≤ 65536) := hide (by rw [duH_size (by omega)]; omega)
    by_cases hr : RecP (t.extract 0 8) ∧ byteAt (t.extract 0 8) 0 = 8
    · obtain ⟨a, hl, hx, hbu⟩ := du_open (by omega) hr
      have HDD : Hid (upB ⟨a, t.extract 8 t.size⟩ = false) := hide (by rw [← hbu]; exact hd)
      have HZ : Hid ((t.extract 8 t.size).size ≤ maxLen) := hide (by rw [duT_size]; unfold maxLen; omega)
      have HL := hide hl
      have HR := hide hr
      clear hl hx hbu hr hd
      go_enter Tryd.func70, Tryd.ntmps70
      go_wp2_with (go_at_call 68; refine (demand_true _).mono ?_; rintro e w' ⟨rfl, hw⟩; replace hw := hw.symm; subst hw)
      refine (readKind_yes (t.extract 0 8) 8 _ (unhide HS) (unhide HR).1 (unhide HR).2).mono ?_
      rintro e w1 ⟨v, rfl, ⟨qo, qa, rfl, ho⟩, hb⟩
      have HB := hide (fr (unhide HA) hb)
      have HE1 := hide ((unhide HE).below hb)
      have hI := ownRN ho
      rw [unhide HL] at hI ⊢
      obtain ⟨g, off, rfl, hi0⟩ := hI 0 (by simp)
      simp only [List.getElem_cons_zero, Nat.add_zero] at hi0
      have hg := World.block_lt_of_cell? _ _ hi0
      clear hI ho hb
      simp only [List.length_cons, List.length_nil, Nat.zero_add]
      go_wp2_with fail
      have HA2 := hide (Joins.below_alloc1 w1 (.cells #[.int .i64 a, .string (t.extract 8 t.size)] 42)).drew
      have HB2 := hide (fr (unhide HB) (unhide HA2))
      go_region
      go_wp2_with fail
      refine (updateOK_any ⟨a, t.extract 8 t.size⟩ _ (unhide HZ)).mono ?_
      rintro e w2 ⟨rfl, hb2⟩
      rw [unhide HDD]
      have HB3 := hide (fr (unhide HB2) hb2)
      have HE2 := hide (((unhide HE1).below (unhide HA2)).below hb2)
      clear hb2 hi0
      go_wp2_with (go_at_call 68; refine (demand_false _ (unhide HE2)).mono ?_; rintro e w' ⟨⟨u, pv, rfl⟩, hw⟩; replace hw := hw.symm; subst hw)
      exact ⟨rfl, ⟨_, _, rfl⟩, unhide HB3⟩
    · have HR := hide hr
      clear hr hd
      go_enter Tryd.func70, Tryd.ntmps70
      go_wp2_with (go_at_call 68; refine (demand_true _).mono ?_; rintro e w' ⟨rfl, hw⟩; replace hw := hw.symm; subst hw)
      refine (readKind_no (t.extract 0 8) 8 _ (unhide HS) (unhide HR) (unhide HE)).mono ?_
      rintro e w1 ⟨⟨u, pv, rfl⟩, hb⟩
      have HB := hide (fr (unhide HA) hb)
      clear hb
      go_wp2
      exact ⟨rfl, ⟨_, _, rfl⟩, unhide HB⟩
  · clear hd
    go_enter Tryd.func70, Tryd.ntmps70
    go_wp2_with (go_at_call 68; refine (demand_false _ (unhide HE)).mono ?_; rintro e w' ⟨⟨u, pv, rfl⟩, hw⟩; replace hw := hw.symm; subst hw)
    exact ⟨rfl, ⟨_, _, rfl⟩, unhide HA⟩

theorem catchU_panicking (p : Addr) (x : Int) (u : TypeId) (pv : Value) (older : List PanicEntry) (w : World) (hc : w.cell? p = some (.int .i64 x)) (hz : w.frozen? p = false) :
    CallsD Tryd.prog 84 #[.pointer (some p)] (.panicking ({ v := .iface u pv, recovered := false } :: older)) w fun e u' w' =>
      e = .returned (.tuple #[]) ∧ u' = .panicking ({ v := .iface u pv, recovered := true } :: older) ∧ w' = w.setCell p (.int .i64 3) := by
  refine callsD_of_wpS Tryd.func84 rfl fun c₀ cs hu => ?_
  apply wpS_seq
  apply wpS_region
  simp [wpOpsS, go_sem, recoverD, hu, Tryd.ntmps84, Exit.thenS]
  refine wpS_cond (t := true) (by simp [Act.eval, Array.replicate]) ?_
  simp only [if_true]
  apply wpS_region
  simp [wpOpsS, go_sem, hc, hz, bodyPostS, results, Tryd.results84]

theorem catchU_idle (p : Addr) (w : World) :
    CallsD Tryd.prog 84 #[.pointer (some p)] .returning w fun e u' w' => e = .returned (.tuple #[]) ∧ u' = .returning ∧ w' = w := by
  refine callsD_of_wpS Tryd.func84 rfl fun c₀ cs hu => ?_
  apply wpS_seq
  apply wpS_region
  simp [wpOpsS, go_sem, recoverD, hu, Tryd.ntmps84, Exit.thenS]
  refine wpS_cond (t := false) (by simp [Act.eval, Array.replicate]) ?_
  simp only [Bool.false_eq_true, if_false]
  refine wpS_of_wp (wp_skip ?_)
  cases c₀
  simp_all [bodyPostS, results, Tryd.results84]

theorem two_newU {w w1 : World} (hb : Below ((w.alloc (.cells #[.int .i64 0, .string ⟨#[]⟩] 42)).alloc (.cells #[.int .i64 0] 3)).heap.size ((w.alloc (.cells #[.int .i64 0, .string ⟨#[]⟩] 42)).alloc (.cells #[.int .i64 0] 3)) w1) : VarU w1 w.heap.size 42 up0 ∧ w1.heap[w.heap.size + 1]? = some (.cells #[.int .i64 0] 3 (0, 0)) := by
  constructor
  · exact ((VarU.new w _ up0).below (Joins.below_alloc1 _ _)).below hb
  · rw [hb.block _ (by simp)]
    have := heap_alloc_new (w.alloc (.cells #[.int .i64 0, .string ⟨#[]⟩] 42)) (.cells #[.int .i64 0] 3)
    simp only [World.size_alloc] at this
    exact this

set_option maxHeartbeats 1600000 in
theorem readTextU_yes (s : ByteArray) (w : World) (hs : s.size ≤ 65536) (hd : duB s = true) :
    Calls Tryd.prog 69 #[.string s, .func (.func 70) #[] #[]] w fun e w' => e = .returned (.tuple #[uV (duU s), .int .i64 0]) ∧ Below w.heap.size w w' := by
  have hmf : ∀ (fn : Fn) (first cap : Array Value) (w : World), (Instr.makeFunc fn first cap).run Tryd.prog w = .ok (.func fn first cap) w := fun _ _ _ _ => rfl
  have HD := hide hd
  clear hd
  go_enter_defers Tryd.func69, Tryd.ntmps69
  go_wp2_with fail
  refine (readUpdate_yes s _ hs (unhide HD)).mono ?_
  rintro e w1 ⟨rfl, hb1⟩
  obtain ⟨hv, hblk⟩ := two_newU hb1
  obtain ⟨v0, v1⟩ := hv.cells
  obtain ⟨f0, f1⟩ := hv.free
  have hc0 := Joins.cell_of_block hblk 0
  have hf0 := Joins.unfrozen_of_block hblk 0
  simp only [List.size_toArray, List.length_cons, List.length_nil, Nat.zero_add, Nat.lt_add_one, getElem?_pos, List.getElem_toArray, List.getElem_cons_zero] at hc0
  have HB := hide (fr (Joins.below_alloc2 w _ _) hb1)
  clear hb1 hblk hv
  go_wp2
  refine leaves_cons (f := 84) (args := #[.pointer (some ⟨w.heap.size + 1, 0, none⟩)]) (by simp) (by simp [go_sem]) ?_
  refine (catchU_idle ⟨w.heap.size + 1, 0, none⟩ _).mono ?_
  rintro e u' w'' ⟨rfl, rfl, rfl⟩
  simp [Leaves, settle, results, Tryd.results69, go_sem, v0, v1, hc0]
  exact (below2 (unhide HB) (Nat.le_refl _) 0 1 _ _).setCell (p := ⟨w.heap.size + 1, 0, none⟩) (Nat.le_succ _) _

set_option maxHeartbeats 1600000 in
theorem readTextU_no (s : ByteArray) (w : World) (hs : s.size ≤ 65536) (hd : duB s = false) (hE : ErrW w) :
    Calls Tryd.prog 69 #[.string s, .func (.func 70) #[] #[]] w fun e w' => e = .returned (.tuple #[uV up0, .int .i64 3]) ∧ Below w.heap.size w w' := by
  have hmf : ∀ (fn : Fn) (first cap : Array Value) (w : World), (Instr.makeFunc fn first cap).run Tryd.prog w = .ok (.func fn first cap) w := fun _ _ _ _ => rfl
  have HD := hide hd
  have HE := hide (hE.below (Joins.below_alloc2 w (.cells #[.int .i64 0, .string ⟨#[]⟩] 42) (.cells #[.int .i64 0] 3)))
  clear hd hE
  go_enter_defers Tryd.func69, Tryd.ntmps69
  go_wp2_with fail
  refine (readUpdate_no s _ hs (unhide HD) (unhide HE)).mono ?_
  rintro e w1 ⟨⟨u, pv, rfl⟩, hb1⟩
  obtain ⟨hv, hblk⟩ := two_newU hb1
  obtain ⟨v0, v1⟩ := hv.cells
  have hc0 := Joins.cell_of_block hblk 0
  have hf0 := Joins.unfrozen_of_block hblk 0
  simp only [List.size_toArray, List.length_cons, List.length_nil, Nat.zero_add, Nat.lt_add_one, getElem?_pos, List.getElem_toArray, List.getElem_cons_zero] at hc0
  have HB := hide (fr (Joins.below_alloc2 w _ _) hb1)
  clear hb1 hblk hv
  go_wp2
  refine leaves_cons (f := 84) (args := #[.pointer (some ⟨w.heap.size + 1, 0, none⟩)]) (by simp) (by simp [go_sem]) ?_
  refine (catchU_panicking ⟨w.heap.size + 1, 0, none⟩ 0 u pv [] _ hc0 hf0).mono ?_
  rintro e u' w'' ⟨rfl, rfl, rfl⟩
  simp [Leaves, settle, results, Tryd.results69, go_sem, v0, v1, hc0, up0]
  exact (unhide HB).setCell (p := ⟨w.heap.size + 1, 0, none⟩) (Nat.le_succ _) _

theorem readTextU_long (s : ByteArray) (w : World) (hs : 65536 < s.size) (f : Value) :
    Calls Tryd.prog 69 #[.string s, f] w fun e w' => e = .returned (.tuple #[uV up0, .int .i64 2]) ∧ Below w.heap.size w w' := by
  go_enter_defers Tryd.func69, Tryd.ntmps69
  go_wp2
  simp [bodyPostD, Leaves, results, Tryd.results69, go_sem, up0]
  exact Joins.below_alloc2 _ _ _

set_option maxHeartbeats 1600000 in
theorem decodeUpdate_impl (t : ByteArray) (w : World) (hE : ErrW w) : Calls Tryd.prog 48 #[.string t] w fun e w' => e = .returned (.tuple #[uV (dkU t), .int .i64 (dkC t)]) ∧ Below w.heap.size w w' := by
  have hmf : ∀ (fn : Fn) (first cap : Array Value) (w : World), (Instr.makeFunc fn first cap).run Tryd.prog w = .ok (.func fn first cap) w := fun _ _ _ _ => rfl
  have HA := hide (Joins.below_alloc1 w (.cells #[.int .i64 0, .string ⟨#[]⟩] 42))
  have HE := hide (hE.below (unhide HA))
  have HV := hide (VarU.new w 42 up0)
  clear hE
  have key : ∀ (K1 : Up) (d : Int), (dkU t = K1 ∧ dkC t = d) → (∀ W, ErrW W → Calls Tryd.prog 69 #[.string t, .func (.func 70) #[] #[]] W fun e w' => e = .returned (.tuple #[uV K1, .int .i64 d]) ∧ Below W.heap.size W w') →
      Calls Tryd.prog 48 #[.string t] w fun e w' => e = .returned (.tuple #[uV (dkU t), .int .i64 (dkC t)]) ∧ Below w.heap.size w w' := by
    intro K1 d hq hc
    have HQ := hide hq
    have HC := hide hc
    clear hq hc
    go_enter Tryd.func48, Tryd.ntmps48
    go_wp2_with fail
    refine (unhide HC _ (unhide HE)).mono ?_
    rintro e w1 ⟨rfl, hb⟩
    have HV1 := hide ((unhide HV).below hb)
    obtain ⟨hc0, hc1⟩ := (unhide HV1).cells
    obtain ⟨hf0, hf1⟩ := (unhide HV1).free
    have HB := hide (fun u v => below2 (fr (unhide HA) hb) (Nat.le_refl _) 0 1 u v)
    clear hb
    go_wp2
    refine bodyPost_ret (v := .tuple #[uV K1, .int .i64 d]) (by simp [results, Tryd.results48, go_sem, hc0, hc1]) rfl ⟨?_, unhide HB _ _⟩
    exact ret_ui (unhide HQ).1.symm (unhide HQ).2.symm
  by_cases h1 : 65536 < t.size
  · exact key _ _ (dk_long h1) (fun W _ => readTextU_long t W h1 _)
  · by_cases hd : duB t = true
    · exact key _ _ (dk_yes h1 hd) (fun W _ => readTextU_yes t W (by omega) hd)
    · rw [Bool.not_eq_true] at hd
      exact key _ _ (dk_no h1 hd) (fun W hW => readTextU_no t W (by omega) hd hW)

end Go.Proofs.YtefnapcegeojoaaDoor

namespace Go.Proofs.YtefnapcegeojoaaDoor
open Go.RowKit
set_option linter.unusedVariables false
set_option maxRecDepth 100000

abbrev hV (a b : Int) : Value := .agg #[.int .i64 a, .int .i64 b]
def VarH (w : World) (x : Nat) (t : TypeId) (a b : Int) : Prop := w.heap[x]? = some (.cells #[.int .i64 a, .int .i64 b] t (0, 0))
theorem VarH.lt {w : World} {x t : Nat} {a b : Int} (k : VarH w x t a b) : x < w.heap.size := (Array.getElem?_eq_some_iff.1 k).1
theorem VarH.cells {w : World} {x t : Nat} {a b : Int} (k : VarH w x t a b) : w.cell? ⟨x, 0, none⟩ = some (.int .i64 a) ∧ w.cell? ⟨x, 1, none⟩ = some (.int .i64 b) := ⟨by rw [Joins.cell_of_block k]; rfl, by rw [Joins.cell_of_block k]; rfl⟩
theorem VarH.free {w : World} {x t : Nat} {a b : Int} (k : VarH w x t a b) : w.frozen? ⟨x, 0, none⟩ = false ∧ w.frozen? ⟨x, 1, none⟩ = false := ⟨Joins.unfrozen_of_block k 0, Joins.unfrozen_of_block k 1⟩
theorem VarH.below {w w' : World} {x t : Nat} {a b : Int} (k : VarH w x t a b) (hb : Below w.heap.size w w') : VarH w' x t a b := by
  unfold VarH; rw [hb.block x k.lt]; exact k
theorem VarH.new (w : World) (t : TypeId) (a b : Int) : VarH (w.alloc (.cells #[.int .i64 a, .int .i64 b] t)) w.heap.size t a b := heap_alloc_new w _
theorem sd_openP {t : ByteArray} (h : openB t 7 = true) : RecP t ∧ byteAt t 0 = 7 := openB_iff.1 h
theorem sd_listP {t : ByteArray} (h : openB t 7 = true) : unL (bodyT t) = sdL t := (openL_yes h).symm

set_option maxHeartbeats 1600000 in
theorem readSlotHead_yes (t : ByteArray) (w : World) (hs : t.size ≤ 65536) (hd : sdB t = true) :
    Calls Tryd.prog 47 #[.string t] w fun e w' => e = .returned (hV (sdN t : Int) (sdS t)) ∧ Below w.heap.size w w' := by
  have HA := hide (Joins.below_alloc1 w (.cells #[.int .i64 0, .int .i64 0] 82))
  have HV := hide (VarH.new w 82 0 0)
  by_cases h0 : t.size = 0
  · obtain rfl := bytes0 h0
    obtain ⟨_, e2, e3⟩ := sd_empty h0
    have HE := hide (And.intro e2 e3)
    obtain ⟨c0, c1⟩ := (unhide HV).cells
    obtain ⟨f0, f1⟩ := (unhide HV).free
    have HR := hide (fun u v => below2 (unhide HA) (Nat.le_refl _) 0 1 u v)
    clear e2 e3 h0 hd
    go_enter Tryd.func47, Tryd.ntmps47
    go_wp2
    refine bodyPost_ret (v := hV 0 0) (by simp [results, Tryd.results47, go_sem, c0, c1]) rfl ⟨?_, by first | exact unhide HA | exact unhide HR _ _⟩
    rw [(unhide HE).1, (unhide HE).2]; rfl
  have hTb := text_full h0
  by_cases ho : openB t 7 = false
  · rw [sd_shut h0 ho] at hd; cases hd
  rw [Bool.not_eq_false] at ho
  by_cases hl : (sdL t).length = 2
  case neg => rw [sd_len h0 hl] at hd; cases hd
  obtain ⟨a, b, hl2⟩ := two_ofJ hl
  by_cases ha : a ≤ 5
  case neg => rw [sd_many h0 hl2 ha] at hd; cases hd
  obtain ⟨_, e1, _, e2, _⟩ := sd_yes h0 ho hl2 ha
  rw [e1, e2]
  have HL : Hid (unL (bodyT t) = [a, b]) := hide ((sd_listP ho).trans hl2)
  have HR := hide (sd_openP ho)
  clear e1 e2 hl hl2 hd ho h0
  go_enter Tryd.func47, Tryd.ntmps47
  go_wp2_with fail
  refine (readKind_yes t 7 _ hs (unhide HR).1 (unhide HR).2).mono ?_
  rintro e w1 ⟨v, rfl, ⟨qo, qa, rfl, ho⟩, hb⟩
  have HB := hide (fr (unhide HA) hb)
  have HB1 := hide hb
  have hI := ownRN ho
  rw [unhide HL] at hI ⊢
  obtain ⟨g, off, rfl, hi0⟩ := hI 0 (by simp)
  obtain ⟨g', off', he, hi1⟩ := hI 1 (by simp)
  cases he
  simp only [List.getElem_cons_zero, List.getElem_cons_succ, Nat.add_zero] at hi0 hi1
  have hg := World.block_lt_of_cell? _ _ hi0
  clear hI ho hb
  simp only [List.length_cons, List.length_nil, Nat.zero_add, Nat.reduceAdd]
  go_wp2_with (go_at_call 68; refine (demand_true _).mono ?_; rintro e w' ⟨rfl, hw⟩; replace hw := hw.symm; subst hw)
  have HA2 := hide (Joins.below_alloc1 w1 (.cells #[.int .i64 a, .int .i64 b] 82)).drew
  have HV2 := hide (((unhide HV).below (unhide HB1)).below (unhide HA2))
  have HV3 : Hid (VarH (w1.alloc (.cells #[.int .i64 a, .int .i64 b] 82)).drew w1.heap.size 82 a b) := hide ((VarH.new w1 82 a b).below (Below.refl _ _).drew)
  have HB2 := hide (fr (unhide HB) (unhide HA2))
  go_region
  have hlt : w.heap.size < w1.heap.size := ((unhide HV).below (unhide HB1)).lt
  revert HV2 HV3 HB2
  generalize (w1.alloc (.cells #[.int .i64 a, .int .i64 b] 82)).drew = W
  intro HV2 HV3 HB2
  obtain ⟨hx0, hx1⟩ := (unhide HV3).cells
  obtain ⟨hc0, hc1⟩ := (unhide HV2).cells
  obtain ⟨hf0, hf1⟩ := (unhide HV2).free
  have HR3 := hide (fun u v => below2 (unhide HB2) (Nat.le_refl _) 0 1 u v)
  go_wp2_with (go_at_call 68; refine (demand_true _).mono ?_; rintro e w' ⟨rfl, hw⟩; replace hw := hw.symm; subst hw)
  exact bodyPost_ret (v := hV a b) (by simp [results, Tryd.results47, go_sem, hc0, hc1]) rfl ⟨rfl, unhide HR3 _ _⟩

set_option maxHeartbeats 1600000 in
theorem readSlotHead_no (t : ByteArray) (w : World) (hs : t.size ≤ 65536) (hd : sdB t = false) (hE : ErrW w) :
    Calls Tryd.prog 47 #[.string t] w fun e w' => (∃ u pv, e = .panicked [{ v := .iface u pv, recovered := false }]) ∧ Below w.heap.size w w' := by
  have HA := hide (Joins.below_alloc1 w (.cells #[.int .i64 0, .int .i64 0] 82))
  have HE := hide (hE.below (unhide HA))
  clear hE
  by_cases h0 : t.size = 0
  · rw [(sd_empty h0).1] at hd; cases hd
  have hTb := text_full h0
  by_cases ho : openB t 7 = false
  · have HN : Hid (¬ (RecP t ∧ byteAt t 0 = 7)) := hide (fun h => by rw [openB_iff.2 h] at ho; cases ho)
    clear ho hd h0
    go_enter Tryd.func47, Tryd.ntmps47
    go_wp2_with fail
    refine (readKind_no t 7 _ hs (unhide HN) (unhide HE)).mono ?_
    rintro e w1 ⟨⟨u, pv, rfl⟩, hb⟩
    have HB := hide (fr (unhide HA) hb)
    clear hb
    go_wp2
    exact ⟨rfl, ⟨_, _, rfl⟩, unhide HB⟩
  rw [Bool.not_eq_false] at ho
  have HR := hide (sd_openP ho)
  by_cases hl : (sdL t).length = 2
  case neg =>
    have hl2 : ((((unL (bodyT t)).length : Nat) : Int) == 2) = false := by rw [beq_eq_false_iff_ne, sd_listP ho]; omega
    clear hl hd ho h0
    go_enter Tryd.func47, Tryd.ntmps47
    go_wp2_with fail
    refine (readKind_yes t 7 _ hs (unhide HR).1 (unhide HR).2).mono ?_
    rintro e w1 ⟨v, rfl, ⟨qo, qa, rfl, ho⟩, hb⟩
    have HB := hide (fr (unhide HA) hb)
    have HE1 := hide ((unhide HE).below hb)
    clear ho hb
    go_wp2_with (go_at_call 68; refine (demand_false _ (unhide HE1)).mono ?_; rintro e w' ⟨⟨u, pv, rfl⟩, hw⟩; replace hw := hw.symm; subst hw)
    exact ⟨rfl, ⟨_, _, rfl⟩, unhide HB⟩
  obtain ⟨a, b, hl2⟩ := two_ofJ hl
  by_cases ha : a ≤ 5
  · rw [(sd_yes h0 ho hl2 ha).1] at hd; cases hd
  have HAB := hide (decide_eq_false ha)
  clear ha
  have HL : Hid (unL (bodyT t) = [a, b]) := hide ((sd_listP ho).trans hl2)
  clear hl hl2 hd ho h0
  go_enter Tryd.func47, Tryd.ntmps47
  go_wp2_with fail
  refine (readKind_yes t 7 _ hs (unhide HR).1 (unhide HR).2).mono ?_
  rintro e w1 ⟨v, rfl, ⟨qo, qa, rfl, ho⟩, hb⟩
  have HB := hide (fr (unhide HA) hb)
  have HE1 := hide ((unhide HE).below hb)
  have hI := ownRN ho
  rw [unhide HL] at hI ⊢
  obtain ⟨g, off, rfl, hi0⟩ := hI 0 (by simp)
  obtain ⟨g', off', he, hi1⟩ := hI 1 (by simp)
  cases he
  simp only [List.getElem_cons_zero, List.getElem_cons_succ, Nat.add_zero] at hi0 hi1
  have hg := World.block_lt_of_cell? _ _ hi0
  clear hI ho hb
  simp only [List.length_cons, List.length_nil, Nat.zero_add, Nat.reduceAdd]
  go_wp2_with (go_at_call 68; refine (demand_true _).mono ?_; rintro e w' ⟨rfl, hw⟩; replace hw := hw.symm; subst hw)
  have HA2 := hide (Joins.below_alloc1 w1 (.cells #[.int .i64 a, .int .i64 b] 82)).drew
  have HB2 := hide (fr (unhide HB) (unhide HA2))
  have HE2 := hide ((unhide HE1).below (unhide HA2))
  have HV3 : Hid (VarH (w1.alloc (.cells #[.int .i64 a, .int .i64 b] 82)).drew w1.heap.size 82 a b) := hide ((VarH.new w1 82 a b).below (Below.refl _ _).drew)
  go_region
  revert HV3 HB2 HE2
  generalize (w1.alloc (.cells #[.int .i64 a, .int .i64 b] 82)).drew = W
  intro HB2 HE2 HV3
  obtain ⟨hx0, hx1⟩ := (unhide HV3).cells
  go_wp2_with (go_at_call 68; rw [unhide HAB]; refine (demand_false _ (unhide HE2)).mono ?_; rintro e w' ⟨⟨u, pv, rfl⟩, hw⟩; replace hw := hw.symm; subst hw)
  exact ⟨rfl, ⟨_, _, rfl⟩, unhide HB2⟩

theorem catchH_panicking (p : Addr) (x : Int) (u : TypeId) (pv : Value) (older : List PanicEntry) (w : World) (hc : w.cell? p = some (.int .i64 x)) (hz : w.frozen? p = false) :
    CallsD Tryd.prog 66 #[.pointer (some p)] (.panicking ({ v := .iface u pv, recovered := false } :: older)) w fun e u' w' =>
      e = .returned (.tuple #[]) ∧ u' = .panicking ({ v := .iface u pv, recovered := true } :: older) ∧ w' = w.setCell p (.int .i64 3) := by
  refine callsD_of_wpS Tryd.func66 rfl fun c₀ cs hu => ?_
  apply wpS_seq
  apply wpS_region
  simp [wpOpsS, go_sem, recoverD, hu, Tryd.ntmps66, Exit.thenS]
  refine wpS_cond (t := true) (by simp [Act.eval, Array.replicate]) ?_
  simp only [if_true]
  apply wpS_region
  simp [wpOpsS, go_sem, hc, hz, bodyPostS, results, Tryd.results66]

theorem catchH_idle (p : Addr) (w : World) :
    CallsD Tryd.prog 66 #[.pointer (some p)] .returning w fun e u' w' => e = .returned (.tuple #[]) ∧ u' = .returning ∧ w' = w := by
  refine callsD_of_wpS Tryd.func66 rfl fun c₀ cs hu => ?_
  apply wpS_seq
  apply wpS_region
  simp [wpOpsS, go_sem, recoverD, hu, Tryd.ntmps66, Exit.thenS]
  refine wpS_cond (t := false) (by simp [Act.eval, Array.replicate]) ?_
  simp only [Bool.false_eq_true, if_false]
  refine wpS_of_wp (wp_skip ?_)
  cases c₀
  simp_all [bodyPostS, results, Tryd.results66]

theorem two_newH {w w1 : World} (hb : Below ((w.alloc (.cells #[.int .i64 0, .int .i64 0] 82)).alloc (.cells #[.int .i64 0] 3)).heap.size ((w.alloc (.cells #[.int .i64 0, .int .i64 0] 82)).alloc (.cells #[.int .i64 0] 3)) w1) : VarH w1 w.heap.size 82 0 0 ∧ w1.heap[w.heap.size + 1]? = some (.cells #[.int .i64 0] 3 (0, 0)) := by
  constructor
  · exact ((VarH.new w _ 0 0).below (Joins.below_alloc1 _ _)).below hb
  · rw [hb.block _ (by simp)]
    have := heap_alloc_new (w.alloc (.cells #[.int .i64 0, .int .i64 0] 82)) (.cells #[.int .i64 0] 3)
    simp only [World.size_alloc] at this
    exact this

set_option maxHeartbeats 1600000 in
theorem readTextH_yes (s : ByteArray) (w : World) (hs : s.size ≤ 65536) (hd : sdB s = true) :
    Calls Tryd.prog 45 #[.string s, .func (.func 47) #[] #[]] w fun e w' => e = .returned (.tuple #[hV (sdN s : Int) (sdS s), .int .i64 0]) ∧ Below w.heap.size w w' := by
  have hmf : ∀ (fn : Fn) (first cap : Array Value) (w : World), (Instr.makeFunc fn first cap).run Tryd.prog w = .ok (.func fn first cap) w := fun _ _ _ _ => rfl
  have HD := hide hd
  clear hd
  go_enter_defers Tryd.func45, Tryd.ntmps45
  go_wp2_with fail
  refine (readSlotHead_yes s _ hs (unhide HD)).mono ?_
  rintro e w1 ⟨rfl, hb1⟩
  obtain ⟨hv, hblk⟩ := two_newH hb1
  obtain ⟨v0, v1⟩ := hv.cells
  obtain ⟨f0, f1⟩ := hv.free
  have hc0 := Joins.cell_of_block hblk 0
  have hf0 := Joins.unfrozen_of_block hblk 0
  simp only [List.size_toArray, List.length_cons, List.length_nil, Nat.zero_add, Nat.lt_add_one, getElem?_pos, List.getElem_toArray, List.getElem_cons_zero] at hc0
  have HB := hide (fr (Joins.below_alloc2 w _ _) hb1)
  clear hb1 hblk hv
  go_wp2
  refine leaves_cons (f := 66) (args := #[.pointer (some ⟨w.heap.size + 1, 0, none⟩)]) (by simp) (by simp [go_sem]) ?_
  refine (catchH_idle ⟨w.heap.size + 1, 0, none⟩ _).mono ?_
  rintro e u' w'' ⟨rfl, rfl, rfl⟩
  simp [Leaves, settle, results, Tryd.results45, go_sem, v0, v1, hc0]
  exact (below2 (unhide HB) (Nat.le_refl _) 0 1 _ _).setCell (p := ⟨w.heap.size + 1, 0, none⟩) (Nat.le_succ _) _

set_option maxHeartbeats 1600000 in
theorem readTextH_no (s : ByteArray) (w : World) (hs : s.size ≤ 65536) (hd : sdB s = false) (hE : ErrW w) :
    Calls Tryd.prog 45 #[.string s, .func (.func 47) #[] #[]] w fun e w' => e = .returned (.tuple #[hV 0 0, .int .i64 3]) ∧ Below w.heap.size w w' := by
  have hmf : ∀ (fn : Fn) (first cap : Array Value) (w : World), (Instr.makeFunc fn first cap).run Tryd.prog w = .ok (.func fn first cap) w := fun _ _ _ _ => rfl
  have HD := hide hd
  have HE := hide (hE.below (Joins.below_alloc2 w (.cells #[.int .i64 0, .int .i64 0] 82) (.cells #[.int .i64 0] 3)))
  clear hd hE
  go_enter_defers Tryd.func45, Tryd.ntmps45
  go_wp2_with fail
  refine (readSlotHead_no s _ hs (unhide HD) (unhide HE)).mono ?_
  rintro e w1 ⟨⟨u, pv, rfl⟩, hb1⟩
  obtain ⟨hv, hblk⟩ := two_newH hb1
  obtain ⟨v0, v1⟩ := hv.cells
  have hc0 := Joins.cell_of_block hblk 0
  have hf0 := Joins.unfrozen_of_block hblk 0
  simp only [List.size_toArray, List.length_cons, List.length_nil, Nat.zero_add, Nat.lt_add_one, getElem?_pos, List.getElem_toArray, List.getElem_cons_zero] at hc0
  have HB := hide (fr (Joins.below_alloc2 w _ _) hb1)
  clear hb1 hblk hv
  go_wp2
  refine leaves_cons (f := 66) (args := #[.pointer (some ⟨w.heap.size + 1, 0, none⟩)]) (by simp) (by simp [go_sem]) ?_
  refine (catchH_panicking ⟨w.heap.size + 1, 0, none⟩ 0 u pv [] _ hc0 hf0).mono ?_
  rintro e u' w'' ⟨rfl, rfl, rfl⟩
  simp [Leaves, settle, results, Tryd.results45, go_sem, v0, v1, hc0]
  exact (unhide HB).setCell (p := ⟨w.heap.size + 1, 0, none⟩) (Nat.le_succ _) _

end Go.Proofs.YtefnapcegeojoaaDoor

namespace Go.Proofs.YtefnapcegeojoaaDoor
open Go.RowKit
set_option linter.unusedVariables false
set_option maxRecDepth 100000

theorem infoUy : (Tryd.prog.info? 42).map (fun i => (i.zero, i.size, i.bytes)) = some (some (.agg #[.int .i64 0, .string ⟨#[]⟩]), 2, 24) := by kernel_rfl
theorem seenAtJ (ao bo : Option Addr) (ca cb : Nat) (ss : List ByteArray) (xs : List Wr) (h a : Int) (T : ByteArray) (w : World) (hd : diskB ss xs = true) (h0 : 0 ≤ a) (h3 : a ≤ 63) (hT : readV ss xs h a = T) (h1 : Ss w ao ss) (h2 : Ios w bo xs) :
    Calls Tryd.prog 46 #[.agg #[.slice ao ss.length ca, .slice bo xs.length cb], .int .i64 h, .int .i64 a] w fun e w' => e = .returned (.string T) ∧ Below w.heap.size w w' := by
  obtain ⟨l1, l2⟩ := diskB_len hd
  obtain ⟨n, rfl⟩ := Int.eq_ofNat_of_zero_le h0
  subst hT
  exact seenBy_any ao bo ca cb ss xs h n w l2 (by omega) (by omega) h1 h2
theorem slN_atI {o : Int} (h : inB o 0 3 = true) : 39 ≤ slN o ∧ slN o ≤ 57 := by
  have : 0 ≤ o ∧ o ≤ 3 := by simpa [inB] using h
  unfold slN; omega
theorem jn_ne : (51 : Nat) ≠ 42 := by decide
theorem VarJ.set2 {w : World} {x t : Nat} {slot seq : Int} {v : Value} (h : VarJ w x t slot seq v) (u : Value) : VarJ (w.setCell ⟨x, 2, none⟩ u) x t slot seq u := Joins.block_setCell (i := 2) h u
theorem UpS.setJ {w W : World} {qo : Option Addr} {n qa x : Nat} {us : List Up} {slot seq : Int} {v : Value} (h : UpS w W qo n qa us) (hx : VarJ W x 51 slot seq v) (hle : w.heap.size ≤ x) (i : Nat) (u : Value) : UpS w (W.setCell ⟨x, i, none⟩ u) qo n qa us :=
  ⟨h.o.keep ((Keep.refl (fun k => k = x) W).setCell (p := ⟨x, i, none⟩) rfl u) (fun g hg e => h.o.other hx jn_ne (e ▸ hg)), h.k.setCell (p := ⟨x, i, none⟩) hle u⟩
def jsT (ss : List ByteArray) (xs : List Wr) (h o : Int) : Int := if joC ss xs h o = 0 then slN o else 0

theorem seen_end {w W : World} {x : Nat} {s0 q0 : Int} {v0 : Value} (hv : VarJ W x 51 s0 q0 v0) (hb : Below w.heap.size w W) (hx : w.heap.size ≤ x) (a b : Int) (u : Value) :
    Below w.heap.size w (((W.setCell ⟨x, 0, none⟩ (.int .i64 a)).setCell ⟨x, 1, none⟩ (.int .i64 b)).setCell ⟨x, 2, none⟩ u) := below3 hb hx 0 1 2 _ _ _

set_option maxHeartbeats 6400000 in
theorem journalSeen_any (ao bo : Option Addr) (ca cb : Nat) (ss : List ByteArray) (xs : List Wr) (h o : Int) (w : World) (hl : ss.length ≤ maxLen) (hm : xs.length ≤ maxLen) (h1 : Ss w ao ss) (h2 : Ios w bo xs) (hE : ErrW w) :
    Calls Tryd.prog 26 #[.agg #[.slice ao ss.length ca, .slice bo xs.length cb], .int .i64 h, .int .i64 o] w fun e w' =>
      ∃ qo n qa, e = .returned (.tuple #[jV (jsT ss xs h o) (joS ss xs h o) qo n qa, .int .i64 (joC ss xs h o)]) ∧ UpS w w' qo n qa (joL ss xs h o) := by
  obtain ⟨i0, hi, hz0, hz1, hz2⟩ := info_parts infoUy
  have HA := hide (Joins.below_alloc2 w (.cells #[.slice ao ss.length ca, .slice bo xs.length cb] 32) (.cells #[.int .i64 0, .int .i64 0, .slice none 0 0] 51))
  have HV := hide ((VarD.new w (.slice ao ss.length ca) (.slice bo xs.length cb)).below (Joins.below_alloc1 _ (.cells #[.int .i64 0, .int .i64 0, .slice none 0 0] 51)))
  have HR : Hid (VarJ ((w.alloc (.cells #[.slice ao ss.length ca, .slice bo xs.length cb] 32)).alloc (.cells #[.int .i64 0, .int .i64 0, .slice none 0 0] 51)) (w.heap.size + 1) 51 0 0 (.slice none 0 0)) := hide (by have := VarJ.new (w.alloc (.cells #[.slice ao ss.length ca, .slice bo xs.length cb] 32)) 51 0 0 (.slice none 0 0); simp only [World.size_alloc] at this; exact this)
  have H1 := hide (h1.below (unhide HA))
  have H2 := hide (h2.below (unhide HA))
  have HS1 := hide h1
  have HS2 := hide h2
  have HL := hide hl
  have HM := hide hm
  have HE := hide hE
  have HZ : Hid (∀ c, joC ss xs h o = c → c ≠ 0 → jsT ss xs h o = 0 ∧ joS ss xs h o = 0 ∧ joL ss xs h o = []) := hide (fun c hc h0 => ⟨if_neg (by rw [hc]; exact h0), (jo_no (by rw [hc]; exact h0)).2.1, (jo_no (by rw [hc]; exact h0)).1⟩)
  have H0 : Hid (∀ W, Below w.heap.size w W → UpS w W none 0 0 []) := hide (fun W hb => ⟨.inl ⟨rfl, rfl, _, rfl⟩, hb⟩)
  clear h1 h2 hl hm hE
  go_enter Tryd.func26, Tryd.ntmps26
  go_wp2_with fail
  refine (hostFault_any ao bo ca cb ss xs h _ (unhide HL) (unhide HM) (unhide H1) (unhide H2)).mono ?_
  rintro e W1 ⟨rfl, hb⟩
  have HB1 := hide (fr (unhide HA) hb)
  have HV1 := hide ((unhide HV).below hb)
  have HR1 := hide ((unhide HR).below hb)
  clear hb HV HR
  obtain ⟨d0, d1⟩ := (unhide HV1).cells
  obtain ⟨r0, r1, r2⟩ := (unhide HR1).cells
  have rf0 := (unhide HR1).free 0
  have rf1 := (unhide HR1).free 1
  have rf2 := (unhide HR1).free 2
  have hR1 : w.heap.size ≤ w.heap.size + 1 := Nat.le_succ _
  by_cases e0 : hostC ss xs h = 0
  case neg =>
    have e0b : (hostC ss xs h != 0) = true := by simp [e0]
    have HC := hide (joC_host (o := o) e0)
    obtain ⟨k1, k2, k3⟩ := unhide HZ _ (unhide HC) e0
    have HK := hide (And.intro k1 (And.intro k2 k3))
    have HX := hide (fun a b u => seen_end (unhide HR1) (unhide HB1) hR1 a b u)
    clear e0 k1 k2 k3
    go_wp2
    refine bodyPost_ret (v := .tuple #[jV 0 0 none 0 0, .int .i64 (hostC ss xs h)]) (by simp [results, Tryd.results26, go_sem, r0, r1, r2]) rfl ⟨none, 0, 0, ?_, ?_⟩
    · rw [(unhide HK).1, (unhide HK).2.1, unhide HC]
    · rw [(unhide HK).2.2]; exact unhide H0 _ (unhide HX _ _ _)
  have e0b : (hostC ss xs h != 0) = false := by simp [e0]
  by_cases e1 : inB o 0 3 = true
  case neg =>
    rw [Bool.not_eq_true] at e1
    have HC := hide (joC_range e0 e1)
    obtain ⟨k1, k2, k3⟩ := unhide HZ _ (unhide HC) (by decide)
    have HK := hide (And.intro k1 (And.intro k2 k3))
    have HX := hide (fun a b u => seen_end (unhide HR1) (unhide HB1) hR1 a b u)
    have hsc : slC o = 4 := by simp [slC, e1]
    clear e0 k1 k2 k3
    go_wp2_with fail
    refine (slotOf_impl o _).mono ?_
    rintro e w2 ⟨rfl, hw⟩
    replace hw := hw.symm
    subst hw
    rw [hsc]
    go_wp2
    refine bodyPost_ret (v := .tuple #[jV 0 0 none 0 0, .int .i64 4]) (by simp [results, Tryd.results26, go_sem, r0, r1, r2]) rfl ⟨none, 0, 0, ?_, ?_⟩
    · rw [(unhide HK).1, (unhide HK).2.1, unhide HC]
    · rw [(unhide HK).2.2]; exact unhide H0 _ (unhide HX _ _ _)
  have hsc : slC o = 0 := by simp [slC, e1]
  have hsr : slR o = slN o := by simp [slR, e1]
  have hd : diskB ss xs = true := (hostC_eq e0).1
  obtain ⟨hs0, hs1⟩ := slN_atI e1
  obtain ⟨T, HT⟩ : ∃ T, Hid (joH ss xs h o = T) := ⟨_, hide rfl⟩
  obtain ⟨F, HF⟩ : ∃ F, Hid (joF ss xs h o = F) := ⟨_, hide rfl⟩
  have HTS : Hid (T.size ≤ 65536) := hide (by rw [← unhide HT]; have := readV_size hd h (slN o); show (readV ss xs h (slN o)).size ≤ 65536; omega)
  have HFS : Hid (∀ i, (F i).size ≤ 65536) := hide (fun i => by rw [← unhide HF]; have := readV_size hd h (slN o + 1 + (i : Int)); show (readV ss xs h (slN o + 1 + (i : Int))).size ≤ 65536; omega)
  have HTR : Hid (readV ss xs h (slN o) = T) := HT
  have HFR : Hid (∀ i : Nat, readV ss xs h (slN o + 1 + (i : Int)) = F i) := hide (fun i => by rw [← unhide HF]; rfl)
  have HBK : Hid (jkB T F = false → joC ss xs h o = 18) := hide (fun hk => joC_broken e0 e1 (by rw [unhide HT, unhide HF]; exact hk))
  have HOK : Hid (jkB T F = true → joC ss xs h o = 0 ∧ jsT ss xs h o = slN o ∧ joS ss xs h o = jkS T F ∧ joL ss xs h o = jkL T F) := hide (fun hk => by
    have hc := joC_ok e0 e1 (by rw [unhide HT, unhide HF]; exact hk)
    obtain ⟨j1, j2⟩ := jo_yes hc
    exact ⟨hc, if_pos hc, by rw [j2, unhide HT, unhide HF], by rw [j1, unhide HT, unhide HF]⟩)
  have HD := hide hd
  clear hd e0 e1 HT HF
  go_wp2_with fail
  refine (slotOf_impl o _).mono ?_
  rintro e w2 ⟨rfl, hw⟩
  replace hw := hw.symm
  subst hw
  rw [hsc, hsr]
  go_wp2_with fail
  refine (seenAtJ ao bo ca cb ss xs h (slN o) T _ (unhide HD) (by omega) (by omega) (unhide HTR) ((unhide HS1).below (unhide HB1)) ((unhide HS2).below (unhide HB1))).mono ?_
  rintro e W2 ⟨rfl, hb⟩
  have HB2 := hide (fr (unhide HB1) hb)
  have HV2 := hide ((unhide HV1).below hb)
  have HR2 := hide ((unhide HR1).below hb)
  clear hb HV1 HR1 d0 d1 r0 r1 r2 rf0 rf1 rf2
  by_cases hsd : sdB T = true
  case neg =>
    rw [Bool.not_eq_true] at hsd
    have HC := hide (unhide HBK (jk_shut (F := F) hsd).1)
    obtain ⟨k1, k2, k3⟩ := unhide HZ _ (unhide HC) (by decide)
    have HK := hide (And.intro k1 (And.intro k2 k3))
    clear k1 k2 k3
    go_wp2_with fail
    refine (readTextH_no T _ (unhide HTS) hsd ((unhide HE).below (unhide HB2))).mono ?_
    rintro e W3 ⟨rfl, hb⟩
    have HB3 := hide (belowAl (fr (unhide HB2) hb) (.cells #[.int .i64 0, .int .i64 0] 82))
    have HR3 := hide (((unhide HR2).below hb).below (Joins.below_alloc1 W3 (.cells #[.int .i64 0, .int .i64 0] 82)))
    have hltR : w.heap.size + 1 < W3.heap.size := ((unhide HR2).below hb).lt
    obtain ⟨r0, r1, r2⟩ := ((unhide HR2).below hb).cells
    have rf0 := ((unhide HR2).below hb).free 0
    have rf1 := ((unhide HR2).below hb).free 1
    have rf2 := ((unhide HR2).below hb).free 2
    have HX := hide (fun a b u => seen_end ((unhide HR2).below hb) (fr (unhide HB2) hb) hR1 a b u)
    clear hb
    go_wp2
    refine bodyPost_ret (v := .tuple #[jV 0 0 none 0 0, .int .i64 18]) (by simp [results, Tryd.results26, go_sem, r0, r1, r2, hltR]) rfl ⟨none, 0, 0, ?_, ?_⟩
    · rw [(unhide HK).1, (unhide HK).2.1, unhide HC]
    · rw [(unhide HK).2.2]; exact unhide H0 _ (by first | exact belowAl (unhide HX _ _ _) _ | exact unhide HX _ _ _ | exact below3 (unhide HB3) hR1 0 1 2 _ _ _)
  go_wp2_with fail
  refine (readTextH_yes T _ (unhide HTS) hsd).mono ?_
  rintro e W3 ⟨rfl, hb⟩
  have hN5 := sdN_le hsd
  obtain ⟨N, hN⟩ : ∃ N, N = sdN T := ⟨_, rfl⟩
  have HN := hide hN
  have HSD := hide hsd
  rw [← hN] at hN5 ⊢
  clear hN hsd
  have HB3 := hide (fr (unhide HB2) hb)
  have HV3 := hide ((unhide HV2).below hb)
  have HR3 := hide ((unhide HR2).below hb)
  clear hb HV2 HR2
  -- the head in a variable, the journal in another one
  have HAl := hide (Joins.below_alloc1 W3 (.cells #[.int .i64 (N : Int), .int .i64 (sdS T)] 82))
  have HH4 := hide (VarH.new W3 82 (N : Int) (sdS T))
  have HB4 := hide (fr (unhide HB3) (unhide HAl))
  have HV4 := hide ((unhide HV3).below (unhide HAl))
  have HR4 := hide ((unhide HR3).below (unhide HAl))
  have HJ5 : Hid (VarJ ((W3.alloc (.cells #[.int .i64 (N : Int), .int .i64 (sdS T)] 82)).alloc (.cells #[.int .i64 (slN o), .int .i64 (sdS T), .slice none 0 0] 51)) (W3.heap.size + 1) 51 (slN o) (sdS T) (.slice none 0 0)) := hide (by have := VarJ.new (W3.alloc (.cells #[.int .i64 (N : Int), .int .i64 (sdS T)] 82)) 51 (slN o) (sdS T) (.slice none 0 0); simp only [World.size_alloc] at this; exact this)
  have HU5 : Hid (UpS (W3.alloc (.cells #[.int .i64 (N : Int), .int .i64 (sdS T)] 82)) ((W3.alloc (.cells #[.int .i64 (N : Int), .int .i64 (sdS T)] 82)).alloc (.cells #[.int .i64 (slN o), .int .i64 (sdS T), .slice none 0 0] 51)) none 0 0 ((fuL F N).take 0)) := hide ⟨.inl ⟨rfl, rfl, _, rfl⟩, Joins.below_alloc1 _ _⟩
  have hJs : (W3.alloc (.cells #[.int .i64 (N : Int), .int .i64 (sdS T)] 82)).heap.size = W3.heap.size + 1 := by simp
  have HJs := hide hJs
  have hltR : w.heap.size + 1 < W3.heap.size := (unhide HR3).lt
  have hltD : w.heap.size < W3.heap.size := (unhide HV3).lt
  clear hJs
  clear HAl HV3 HR3
  go_wp2
  revert HH4 HB4 HV4 HR4 HJ5 HU5 HJs
  generalize W3.alloc (.cells #[.int .i64 (N : Int), .int .i64 (sdS T)] 82) = W4
  intro HH4 HB4 HV4 HR4 HJ5 HU5 HJs
  have HJW : Hid (W4.heap.size ≤ W3.heap.size + 1) := hide (Nat.le_of_eq (unhide HJs))
  have hxJ : w.heap.size ≠ W3.heap.size + 1 := by omega
  have hxJ' : W3.heap.size + 1 ≠ w.heap.size := by omega
  have hrJ : w.heap.size + 1 ≠ W3.heap.size + 1 := by omega
  have hrJ' : W3.heap.size + 1 ≠ w.heap.size + 1 := by omega
  have hJw : w.heap.size + 1 ≤ W3.heap.size + 1 := by omega
  generalize W3.heap.size + 1 = J at *
  go_loopw [49] (fun i wr => ∃ (k : Nat) (ro : Option Addr) (ra : Nat), k ≤ N ∧ i = .int .i64 k ∧ Hid (UpS W4 wr ro k ra ((fuL F N).take k)) ∧ Hid (VarJ wr J 51 (slN o) (sdS T) (.slice ro k ra)) ∧ Hid (∀ j, j < k → duB (F j) = true)) (fun i _ => N - (intOf i).toNat)
  case atStart => exact ⟨0, _, _, Nat.zero_le _, rfl, HU5, HJ5, hide (fun j hj => by omega)⟩
  case round =>
    obtain ⟨k, ro, ra, hk, rfl, HU, HJ, HP⟩ := hrel
    have HVr := hide ((unhide HV4).below (unhide HU).k)
    have HRr := hide ((unhide HR4).below (unhide HU).k)
    have HBr := hide (fr (unhide HB4) (unhide HU).k)
    obtain ⟨j0, j1, j2⟩ := (unhide HJ).cells
    have hjl := (unhide HJ).lt
    by_cases hlt : k < N
    · have hki : (k : Int) < (N : Int) := by omega
      obtain ⟨d0, d1⟩ := (unhide HVr).cells
      have hvl := (unhide HVr).lt
      have hvn : w.heap.size ≠ wr.heap.size := Nat.ne_of_lt hvl
      have hvn' : wr.heap.size ≠ w.heap.size := Ne.symm hvn
      have hjn : J ≠ wr.heap.size := Nat.ne_of_lt hjl
      have hjn' : wr.heap.size ≠ J := Ne.symm hjn
      have HFk := hide (unhide HFS k)
      have HRk := hide (unhide HFR k)
      have HPL : Hid (∀ W : World, Calls Tryd.prog 49 #[jV (slN o) (sdS T) ro k ra, .int .i64 k] W fun e w' => e = .returned (.int .i64 (slN o + 1 + k)) ∧ Below W.heap.size W w') := hide (fun W => place_any (slN o) (sdS T) ro k ra k W (by omega) (by omega))
      go_upto_region 14 with fail
      go_cut [14, 15, 49] from 49 to 71 (fun c q ix wx => ∃ C : Nat, c = .pointer (some ⟨C, 0, none⟩) ∧ q = .int .i64 (dkC (F k)) ∧ ix = .int .i64 (k : Int) ∧ Hid (GotU wr wx C 42 (dkU (F k))))
      case first =>
        go_region_held3 (fun w' => w'.cell? ⟨w.heap.size, 0, none⟩ = some (.slice ao ss.length ca) ∧ w'.cell? ⟨w.heap.size, 1, none⟩ = some (.slice bo xs.length cb) ∧ w'.cell? ⟨J, 0, none⟩ = some (.int .i64 (slN o)) ∧ w'.cell? ⟨J, 1, none⟩ = some (.int .i64 (sdS T)) ∧ w'.cell? ⟨J, 2, none⟩ = some (.slice ro k ra)) (go_keep)
          (first
            | (go_at_call 49; refine (unhide HPL _).mono ?_; rintro e w2 ⟨rfl, hb⟩; (first | (have HV2 : Hid (VarU w2 wr.heap.size 42 up0) := (by exact hide (((VarU.new wr 42 up0).below (Below.refl _ _).drew).below hb)); have HB2x : Hid (Below wr.heap.size wr w2) := (by exact hide (fr (Joins.below_alloc1 wr _).drew hb)); clear hb) | (have HB2x : Hid (Below wr.heap.size wr w2) := (by exact hide (fr ((Below.refl _ wr).drew) hb)); clear hb)); obtain ⟨m0, m1⟩ := ((unhide HVr).below (unhide HB2x)).cells; obtain ⟨m2, m3, m4⟩ := ((unhide HJ).below (unhide HB2x)).cells; have hv2 := ((unhide HVr).below (unhide HB2x)).lt; have hw2 := ((unhide HJ).below (unhide HB2x)).lt; have nv2 : w.heap.size ≠ w2.heap.size := Nat.ne_of_lt hv2; have nv2' : w2.heap.size ≠ w.heap.size := Ne.symm nv2; have nw2 : J ≠ w2.heap.size := Nat.ne_of_lt hw2; have nw2' : w2.heap.size ≠ J := Ne.symm nw2)
            | (go_at_call 46; refine (seenAtJ ao bo ca cb ss xs h (slN o + 1 + (k : Int)) (F k) _ (unhide HD) (by omega) (by omega) (unhide HRk) (by first | exact ((unhide HS1).below (unhide HBr)).below (unhide HB2x) | exact (((unhide HS1).below (unhide HBr)).below (unhide HB2x)).below (Joins.below_alloc1 _ _)) (by first | exact ((unhide HS2).below (unhide HBr)).below (unhide HB2x) | exact (((unhide HS2).below (unhide HBr)).below (unhide HB2x)).below (Joins.below_alloc1 _ _))).mono ?_; rintro e w3 ⟨rfl, hb⟩; (first | (have HVU3 : Hid (VarU w3 wr.heap.size 42 up0) := (by exact hide ((unhide HV2).below hb)); have HB3x : Hid (Below wr.heap.size wr w3) := (by exact hide (fr (unhide HB2x) hb)); clear hb) | (have HVU3 : Hid (VarU w3 w2.heap.size 42 up0) := (by exact hide ((VarU.new w2 42 up0).below hb)); have HB3x : Hid (Below wr.heap.size wr w3) := (by exact hide (fr (belowAl (unhide HB2x) _) hb)); clear hb) | (have HB3x : Hid (Below wr.heap.size wr w3) := (by exact hide (fr (unhide HB2x) hb)); clear hb)); obtain ⟨n0, n1⟩ := ((unhide HVr).below (unhide HB3x)).cells; obtain ⟨n2, n3, n4⟩ := ((unhide HJ).below (unhide HB3x)).cells; have hv3 := ((unhide HVr).below (unhide HB3x)).lt; have hw3 := ((unhide HJ).below (unhide HB3x)).lt; have nv3 : w.heap.size ≠ w3.heap.size := Nat.ne_of_lt hv3; have nv3' : w3.heap.size ≠ w.heap.size := Ne.symm nv3; have nw3 : J ≠ w3.heap.size := Nat.ne_of_lt hw3; have nw3' : w3.heap.size ≠ J := Ne.symm nw3)
            | (go_at_call 48; refine (decodeUpdate_impl (F k) _ (by first | exact ((unhide HE).below (unhide HBr)).below (unhide HB3x) | exact (((unhide HE).below (unhide HBr)).below (unhide HB3x)).below (Joins.below_alloc1 _ _))).mono ?_; rintro e w4 ⟨rfl, hb⟩; (first | (have HVU4 : Hid (VarU w4 wr.heap.size 42 up0) := (by exact hide ((unhide HVU3).below hb)); have HB4x : Hid (Below wr.heap.size wr w4) := (by exact hide (fr (unhide HB3x) hb)); have HLE : Hid (wr.heap.size ≤ wr.heap.size) := hide (Nat.le_refl _); obtain ⟨z0, z1⟩ := (unhide HVU4).cells; obtain ⟨q0, q1⟩ := (unhide HVU4).free; clear hb) | (have HVU4 : Hid (VarU w4 w2.heap.size 42 up0) := (by exact hide ((unhide HVU3).below hb)); have HB4x : Hid (Below wr.heap.size wr w4) := (by exact hide (fr (unhide HB3x) hb)); have HLE : Hid (wr.heap.size ≤ w2.heap.size) := hide (unhide HB2x).size; obtain ⟨z0, z1⟩ := (unhide HVU4).cells; obtain ⟨q0, q1⟩ := (unhide HVU4).free; clear hb) | (have HVU4 : Hid (VarU w4 w3.heap.size 42 up0) := (by exact hide ((VarU.new w3 42 up0).below hb)); have HB4x : Hid (Below wr.heap.size wr w4) := (by exact hide (fr (belowAl (unhide HB3x) _) hb)); have HLE : Hid (wr.heap.size ≤ w3.heap.size) := hide (unhide HB3x).size; obtain ⟨z0, z1⟩ := (unhide HVU4).cells; obtain ⟨q0, q1⟩ := (unhide HVU4).free; clear hb) | (have HB4x : Hid (Below wr.heap.size wr w4) := (by exact hide (fr (unhide HB3x) hb)); clear hb)); obtain ⟨p0, p1⟩ := ((unhide HVr).below (unhide HB4x)).cells; obtain ⟨p2, p3, p4⟩ := ((unhide HJ).below (unhide HB4x)).cells; have hv4 := ((unhide HVr).below (unhide HB4x)).lt; have hw4 := ((unhide HJ).below (unhide HB4x)).lt; have nv4 : w.heap.size ≠ w4.heap.size := Nat.ne_of_lt hv4; have nv4' : w4.heap.size ≠ w.heap.size := Ne.symm nv4; have nw4 : J ≠ w4.heap.size := Nat.ne_of_lt hw4; have nw4' : w4.heap.size ≠ J := Ne.symm nw4))
        all_goals
          go_wp2_with fail
          go_meet
          first
            | exact ⟨_, rfl, rfl, rfl, hide (GotU.set (unhide HB4x) (unhide HVU4) (unhide HLE))⟩
            | exact ⟨_, rfl, rfl, rfl, hide (GotU.top _ _ (unhide HB4x))⟩
      case rest =>
        obtain ⟨C, rfl, rfl, rfl, HGU⟩ := hcut
        rename World => W5
        have HU5x := hide ((unhide HU).next (unhide HGU).k)
        have HJ5x := hide ((unhide HJ).below (unhide HGU).k)
        have HR5 := hide ((unhide HRr).below (unhide HGU).k)
        have HB5 := hide (fr (unhide HBr) (unhide HGU).k)
        clear d0 d1 j0 j1 j2 hvl hvn hvn' hjn hjn' hjl
        obtain ⟨x0, x1⟩ := (unhide HGU).v.cells
        obtain ⟨j0, j1, j2⟩ := (unhide HJ5x).cells
        have jf2 := (unhide HJ5x).free 2
        have hCl := (unhide HGU).v.lt
        have hjl := (unhide HJ5x).lt
        by_cases hdk : duB (F k) = true
        · obtain ⟨y1, y2⟩ := dk_yes (t := F k) (by have := unhide HFk; omega) hdk
          have HPP : Hid (∀ j, j < k + 1 → duB (F j) = true) := hide (fun j hj => by
            by_cases e : j = k
            · rw [e]; exact hdk
            · exact unhide HP j (by omega))
          rw [y1] at x0 x1
          have HUA := hide ((unhide HU5x).next (Joins.below_alloc1 W5 (.cells #[.int .i64 (duU (F k)).at_, .string (duU (F k)).data] 42)))
          have HJA := hide ((unhide HJ5x).below (Joins.below_alloc1 W5 (.cells #[.int .i64 (duU (F k)).at_, .string (duU (F k)).data] 42)))
          have HSZ := hide (unhide HUA).sz
          rw [y2]
          go_wp2_with (at_builtin; refine wpList_append_one rfl _ _ 23 rfl W4.heap.size 42 i0 (.agg #[.int .i64 0, .string ⟨#[]⟩]) 2 24 Tryd.underlying23 hi hz0 hz1 hz2 rfl (by omega) ro k ra (upsV ((fuL F N).take k)) rfl (unhide HUA).o (unhide HSZ) ⟨W5.heap.size, 0, none⟩ _ (upV (duU (F k))) rfl rfl (news2_at W5 _ _ _ rfl) (upV_one _) (by unfold maxLen; omega) (by omega) ?_; intro g2 cap2 wA hoA hkA; have HJN : Hid (VarJ wA J 51 (slN o) (sdS T) (.slice ro k ra)) := hide (by unfold VarJ; rw [hkA.block _ (unhide HJA).lt ((unhide HUA).o.other (unhide HJA) jn_ne)]; exact unhide HJA); have HN2 := hide (UpS.one (unhide HUA) hoA hkA); obtain ⟨t0, t1, t2⟩ := (unhide HJN).cells; have tf2 := (unhide HJN).free 2; clear hoA hkA)
          go_roundw
          case rel => exact ⟨k + 1, _, _, by omega, by go_num, hide (by rw [fuL_take hlt]; exact (unhide HN2).setJ (unhide HJN) (unhide HJW) 2 _), hide ((unhide HJN).set2 _), HPP⟩
          case measure => simp [intOf]; omega
        · rw [Bool.not_eq_true] at hdk
          obtain ⟨y1, y2⟩ := dk_no (t := F k) (by have := unhide HFk; omega) hdk
          have HC := hide (unhide HBK (jk_bad (T := T) (F := F) (by rw [← unhide HN]; exact fuB_no hlt hdk)).1)
          obtain ⟨k1, k2, k3⟩ := unhide HZ _ (unhide HC) (by decide)
          have HK := hide (And.intro k1 (And.intro k2 k3))
          obtain ⟨r0, r1, r2⟩ := (unhide HR5).cells
          have rf0 := (unhide HR5).free 0
          have rf1 := (unhide HR5).free 1
          have rf2 := (unhide HR5).free 2
          have HX := hide (fun a b u => seen_end (unhide HR5) (unhide HB5) hR1 a b u)
          clear k1 k2 k3
          rw [y2]
          go_wp2
          refine bodyPost_ret (v := .tuple #[jV 0 0 none 0 0, .int .i64 18]) (by simp [results, Tryd.results26, go_sem, r0, r1, r2]) rfl ⟨none, 0, 0, ?_, ?_⟩
          · rw [(unhide HK).1, (unhide HK).2.1, unhide HC]
          · rw [(unhide HK).2.2]; exact unhide H0 _ (unhide HX _ _ _)
    · have hke : k = N := by omega
      subst hke
      have HE1 := hide (jk_yes (F := F) (unhide HSD) (by rw [← unhide HN]; exact fuB_yes (unhide HP)))
      have HO1 := hide (unhide HOK (unhide HE1).1)
      have hkn : ¬ ((k : Int) < (k : Int)) := by omega
      obtain ⟨r0, r1, r2⟩ := (unhide HRr).cells
      have rf0 := (unhide HRr).free 0
      have rf1 := (unhide HRr).free 1
      have rf2 := (unhide HRr).free 2
      have HX := hide (fun a b u => seen_end (unhide HRr) (unhide HBr) hR1 a b u)
      have HUX : Hid (∀ a b u, OwnR (((wr.setCell ⟨w.heap.size + 1, 0, none⟩ (.int .i64 a)).setCell ⟨w.heap.size + 1, 1, none⟩ (.int .i64 b)).setCell ⟨w.heap.size + 1, 2, none⟩ u) w.heap.size 42 2 (.slice ro k ra) k (upsV (fuL F k))) := hide (fun a b u => by
        have ho := (unhide HU).o
        rw [fuL_done (Nat.le_refl _)] at ho
        refine (ho.keep ((((Keep.refl (fun q => q = w.heap.size + 1) wr).setCell (p := ⟨w.heap.size + 1, 0, none⟩) rfl (.int .i64 a)).setCell (p := ⟨w.heap.size + 1, 1, none⟩) rfl (.int .i64 b)).setCell (p := ⟨w.heap.size + 1, 2, none⟩) rfl u) (fun g hg e => ho.other (unhide HRr) jn_ne (e ▸ hg))).base (unhide HB4).size)
      go_wp2
      refine bodyPost_ret (v := .tuple #[jV (slN o) (sdS T) ro k ra, .int .i64 0]) (by simp [results, Tryd.results26, go_sem, r0, r1, r2]) rfl ⟨ro, k, ra, ?_, ?_⟩
      · rw [(unhide HO1).1, (unhide HO1).2.1, (unhide HO1).2.2.1, (unhide HE1).2.2]
      · rw [(unhide HO1).2.2.2, (unhide HE1).2.1, ← unhide HN]
        exact ⟨unhide HUX _ _ _, unhide HX _ _ _⟩

set_option maxHeartbeats 1600000 in
theorem journalOf_impl (ao bo : Option Addr) (ca cb : Nat) (ss : List ByteArray) (xs : List Wr) (h o : Int) (w : World) (hl : ss.length ≤ maxLen) (hm : xs.length ≤ maxLen) (h1 : Ss w ao ss) (h2 : Ios w bo xs) (hE : ErrW w) :
    Calls Tryd.prog 13 #[.agg #[.slice ao ss.length ca, .slice bo xs.length cb], .int .i64 h, .int .i64 o] w fun e w' => ∃ qo qa n, e = .returned (.tuple #[.slice qo n qa, .int .i64 (joS ss xs h o), .int .i64 (joC ss xs h o)]) ∧ UpS w w' qo n qa (joL ss xs h o) := by
  have HA := hide (Joins.below_alloc1 w (.cells #[.slice ao ss.length ca, .slice bo xs.length cb] 32))
  have H1 := hide (h1.below (unhide HA))
  have H2 := hide (h2.below (unhide HA))
  have HL := hide hl
  have HM := hide hm
  have HE := hide (hE.below (unhide HA))
  clear h1 h2 hl hm hE
  go_enter Tryd.func13, Tryd.ntmps13
  go_wp2_with fail
  refine (journalSeen_any ao bo ca cb ss xs h o _ (unhide HL) (unhide HM) (unhide H1) (unhide H2) (unhide HE)).mono ?_
  rintro e w1 ⟨qo, n, qa, rfl, hu⟩
  have HU : Hid (UpS w (w1.alloc (.cells #[.int .i64 (jsT ss xs h o), .int .i64 (joS ss xs h o), .slice qo n qa] 51)).drew qo n qa (joL ss xs h o)) := hide (UpS.next (W := w1) ⟨hu.o.base (unhide HA).size, fr (unhide HA) hu.k⟩ (Joins.below_alloc1 _ _).drew)
  clear hu
  go_wp2_with fail
  go_region
  all_goals
    go_wp2
    exact bodyPost_ret (v := .tuple #[.slice qo n qa, .int .i64 (joS ss xs h o), .int .i64 (joC ss xs h o)]) (by simp [results, Tryd.results13, go_sem]) rfl ⟨qo, qa, n, rfl, unhide HU⟩

set_option maxHeartbeats 1600000 in
theorem replayPlan_impl (ao bo : Option Addr) (ca cb : Nat) (ss : List ByteArray) (xs : List Wr) (h o : Int) (w : World) (hl : ss.length ≤ maxLen) (hm : xs.length ≤ maxLen) (h1 : Ss w ao ss) (h2 : Ios w bo xs) (hE : ErrW w) :
    Calls Tryd.prog 10 #[.agg #[.slice ao ss.length ca, .slice bo xs.length cb], .int .i64 h, .int .i64 o] w fun e w' => ∃ qo qa n, e = .returned (.tuple #[.slice qo n qa, .int .i64 (joC ss xs h o)]) ∧ ApS w w' qo n qa (joM ss xs h o) := by
  have HA := hide (Joins.below_alloc1 w (.cells #[.slice ao ss.length ca, .slice bo xs.length cb] 32))
  have H1 := hide (h1.below (unhide HA))
  have H2 := hide (h2.below (unhide HA))
  have HL := hide hl
  have HM := hide hm
  have HE := hide (hE.below (unhide HA))
  have HR := hide (jo_right ss xs h o)
  have HJM : Hid (rpL (jsT ss xs h o) (joS ss xs h o) (joL ss xs h o) = joM ss xs h o) := hide (by
    by_cases hc : joC ss xs h o = 0
    · rw [jsT, if_pos hc]; rfl
    · rw [joM, (jo_no hc).1]; rfl)
  clear h1 h2 hl hm hE
  go_enter Tryd.func10, Tryd.ntmps10
  go_wp2_with fail
  refine (journalSeen_any ao bo ca cb ss xs h o _ (unhide HL) (unhide HM) (unhide H1) (unhide H2) (unhide HE)).mono ?_
  rintro e w1 ⟨qo, n, qa, rfl, hu⟩
  have hnl := hu.len
  subst hnl
  have HB := hide (belowAl (fr (unhide HA) hu.k) (.cells #[.int .i64 (jsT ss xs h o), .int .i64 (joS ss xs h o), .slice qo (joL ss xs h o).length qa] 51))
  have HU := hide ((hu.ups (unhide HR).1).below (Joins.below_alloc1 w1 (.cells #[.int .i64 (jsT ss xs h o), .int .i64 (joS ss xs h o), .slice qo (joL ss xs h o).length qa] 51)))
  clear hu
  go_wp2_with fail
  refine (toApply_any (jsT ss xs h o) (joS ss xs h o) qo qa (joL ss xs h o) _ (unhide HR).2.1 (unhide HR).2.2 (unhide HR).1 (unhide HU)).mono ?_
  rintro e w2 ⟨po, m, pa, rfl, ha⟩
  rw [unhide HJM] at ha
  have HAP : Hid (ApS w w2 po m pa (joM ss xs h o)) := hide ⟨ha.o.base (unhide HB).size, fr (unhide HB) ha.k⟩
  clear ha
  go_wp2
  go_ret2
  exact ⟨po, pa, m, rfl, unhide HAP⟩

end Go.Proofs.YtefnapcegeojoaaDoor

namespace Go.Proofs.YtefnapcegeojoaaDoor
open Go.RowKit
set_option linter.unusedVariables false
set_option maxRecDepth 100000

theorem VarD_free {w : World} {x : Nat} {a b : Value} (k : VarD w x a b) : w.frozen? ⟨x, 0, none⟩ = false ∧ w.frozen? ⟨x, 1, none⟩ = false := ⟨Joins.unfrozen_of_block k 0, Joins.unfrozen_of_block k 1⟩
theorem apMv {w W : World} {qo : Option Addr} {qa : Nat} {ms : List Wr} (h : ApS w W qo ms.length qa ms) (hz : ∀ x ∈ ms, x.data.size ≤ maxLen) : Ios W qo ms := ownMv h.o hz
theorem ownTx {w : World} {B pa : Nat} {po : Option Addr} {ss : List ByteArray} (h : OwnR w B 9 1 (.slice po ss.length pa) ss.length (strV ss)) (hz : ∀ s ∈ ss, s.size ≤ maxLen) : Ss w po ss := by
  rcases h with ⟨h0, _⟩ | ⟨h0, h⟩
  · exact fun i hi => by omega
  · exact ownS h hz
theorem ownWs {w : World} {B pa : Nat} {po : Option Addr} {xs : List Wr} (h : OwnR w B 78 3 (.slice po xs.length pa) xs.length (ioV xs)) (hz : ∀ x ∈ xs, x.data.size ≤ maxLen) : Ios w po xs := by
  rcases h with ⟨h0, _⟩ | ⟨h0, h⟩
  · exact fun i hi => by omega
  · exact ownI h hz
def AnsJ (w : World) (g pa : Nat) (ko : Option Addr) (S : List ByteArray) (X : List Wr) : Prop := 64 ≤ pa ∧ Ss w (some ⟨g, 0, none⟩) S ∧ Ios w ko X
theorem AnsJ.below {w w' : World} {g pa : Nat} {ko : Option Addr} {S : List ByteArray} {X : List Wr} (h : AnsJ w g pa ko S X) (hb : Below w.heap.size w w') : AnsJ w' g pa ko S X := ⟨h.1, h.2.1.below hb, h.2.2.below hb⟩
structure GotD (W0 W : World) (C : Nat) (S : List ByteArray) (X : List Wr) : Prop where
  k : Below W0.heap.size W0 W
  v : ∃ g pa ko ka, AnsJ W g pa ko S X ∧ VarD W C (.slice (some ⟨g, 0, none⟩) S.length pa) (.slice ko X.length ka)
theorem GotD.top {W0 W : World} {g pa ka : Nat} {ko : Option Addr} {S : List ByteArray} {X : List Wr} (h : Below W0.heap.size W0 W) (ha : AnsJ W g pa ko S X) :
    GotD W0 (W.alloc (.cells #[.slice (some ⟨g, 0, none⟩) S.length pa, .slice ko X.length ka] 32)) W.heap.size S X :=
  ⟨belowAl h _, g, pa, ko, ka, ha.below (Joins.below_alloc1 _ _), VarD.new W _ _⟩
theorem GotD.set {W0 W : World} {C g pa ka : Nat} {ko : Option Addr} {S : List ByteArray} {X : List Wr} (h : Below W0.heap.size W0 W) (hv : VarD W C (.slice none 0 0) (.slice none 0 0)) (hC : W0.heap.size ≤ C) (ha : AnsJ W g pa ko S X) :
    GotD W0 ((W.setCell ⟨C, 0, none⟩ (.slice (some ⟨g, 0, none⟩) S.length pa)).setCell ⟨C, 1, none⟩ (.slice ko X.length ka)) C S X := by
  have hd : DkA W0 W C none 0 none 0 [] [] := ⟨hv, fun i hi => absurd hi (Nat.not_lt_zero _), fun i hi => absurd hi (Nat.not_lt_zero _), h⟩
  have := hd.put (SS' := S) (XX' := X) (po' := some ⟨g, 0, none⟩) (pa' := pa) (qo' := ko) (qa' := ka) hC rfl rfl ha.2.1 ha.2.2
  exact ⟨this.k, g, pa, ko, ka, ⟨ha.1, this.s, this.i⟩, this.v⟩
theorem movesDo_at {S X1 : List ByteArray} {X2 ms : List Wr} {h : Int} (go : Option Addr) (ca : Nat) (no : Option Addr) (cb : Nat) (mo : Option Addr) (mc : Nat) (W : World) (hd : diskB S [] = true) (hl : ms.length ≤ 200)
    (e1 : mdC S [] h ms = 0) (e2 : mdS S [] h ms = X1) (e3 : mdX S [] h ms = X2) (hx : diskB X1 X2 = true) (h1 : Ss W go S) (h3 : Ios W mo ms) :
    Calls Tryd.prog 8 #[.agg #[.slice go S.length ca, .slice no 0 cb], .int .i64 h, .slice mo ms.length mc] W fun e w' => ∃ g pa ko ka, e = .returned (.tuple #[.agg #[.slice (some ⟨g, 0, none⟩) X1.length pa, .slice ko X2.length ka], .int .i64 0]) ∧ AnsJ w' g pa ko X1 X2 ∧ Below W.heap.size W w' := by
  refine (movesDo_impl go no ca cb S [] h mo mc ms W (by rw [(diskB_len hd).1]; omega) (by simp) (by omega) h1 (fun i hi => absurd hi (Nat.not_lt_zero _)) h3).mono ?_
  rintro e w' ⟨po, pa, qo, qa, he, ho, hb⟩
  rw [e1, e2, e3] at he
  rw [e2, e3] at ho
  obtain ⟨g, rfl, hpa, _, _⟩ := own_64 ho.s (diskB_len hx).1
  exact ⟨g, pa, qo, qa, he, ⟨hpa, ownTx ho.s (right_sz2 hx).1, ownWs ho.i (right_sz2 hx).2⟩, hb⟩
theorem lose_at {X1 T : List ByteArray} {X2 : List Wr} {h : Int} (go : Option Addr) (ca : Nat) (no : Option Addr) (cb : Nat) (n : Nat) (W : World) (hh : 0 ≤ h ∧ h ≤ 3) (hn : n ≤ 200) (hx : diskB X1 X2 = true)
    (e1 : putW X1 ((ofH h X2).take n) = T) (e2 : dropF h X2 = []) (hT : diskB T [] = true) (h1 : Ss W go X1) (h2 : Ios W no X2) :
    Calls Tryd.prog 9 #[.agg #[.slice go X1.length ca, .slice no X2.length cb], .int .i64 h, .int .i64 (n : Int)] W fun e w' => ∃ g pa ko ka, e = .returned (.tuple #[.agg #[.slice (some ⟨g, 0, none⟩) T.length pa, .slice ko ([] : List Wr).length ka], .int .i64 0]) ∧ AnsJ w' g pa ko T [] ∧ Below W.heap.size W w' := by
  obtain ⟨l1, l2⟩ := len_in hx
  obtain ⟨ha, _⟩ := askC_right (h := h) (a := 0) hx hh.1 hh.2 (by omega) (by omega)
  obtain ⟨f1, f2, f3, _⟩ := lost hn hx ha
  rw [e1] at f1
  rw [e2] at f2
  refine (loseHost_impl go no ca cb X1 X2 h n W l1 l2 h1 h2).mono ?_
  rintro e w' ⟨po, pa, qo, qa, he, ho, hb⟩
  rw [f1, f2] at ho
  rw [f1, f2, f3] at he
  obtain ⟨g, rfl, hpa, _, _⟩ := own_64 ho.s (diskB_len hT).1
  exact ⟨g, pa, qo, qa, he, ⟨hpa, ownTx ho.s (right_sz2 hT).1, fun i hi => absurd hi (Nat.not_lt_zero _)⟩, hb⟩
theorem ios_take {w : World} {ao : Option Addr} {xs : List Wr} (h : Ios w ao xs) (k : Nat) : Ios w ao (xs.take k) := fun i hi => by
  have hi' : i < xs.length := by rw [List.length_take] at hi; omega
  obtain ⟨b, off, e, h0, h1, h2, hz⟩ := h i hi'
  refine ⟨b, off, e, ?_, ?_, ?_, ?_⟩ <;> simp only [List.getElem_take] <;> assumption
theorem cut_moves {w : World} {B e n cap : Nat} {ao : Option Addr} {xs : List Value} (h : OwnR w B e 3 (.slice ao n cap) n xs) {k : Nat} (hk : k ≤ n) (W : World) :
    (Instr.sliceAt 26 (.slice ao n cap) none (some (.int .i64 (k : Int))) none).run Tryd.prog W = .ok (.slice ao k cap) W := by
  have hu : Tryd.prog.underlying 26 = some (.slice (Tryd.prog.elem 26)) := by kernel_rfl
  have hz : (sizeOf (Tryd.prog.elem 26)).run Tryd.prog W = .ok 3 W := by kernel_rfl
  have hc : n ≤ cap ∧ ((cap = 0) ∨ ∃ g, ao = some ⟨g, 0, none⟩) := by
    rcases h with ⟨h0, _, ao', e⟩ | ⟨h0, h⟩
    · simp only [Value.slice.injEq] at e
      exact ⟨by omega, .inl e.2.2⟩
    · rcases h.2 with ⟨_, h1⟩ | ⟨g, cap', cur, e, _, _, hc, _⟩
      · omega
      · simp only [Value.slice.injEq, true_and] at e
        obtain ⟨rfl, rfl⟩ := e
        exact ⟨hc, .inr ⟨g, rfl⟩⟩
  rw [run_sliceAt_slice _ _ _ _ _ _ hu, run_slice_h _ _ _ _ _ hu .i64 (k : Int) (by omega) (by omega), hz]
  simp only [Result.andThen, sliced, Int.toNat_natCast, Nat.sub_zero]
  rcases hc.2 with h0 | ⟨g, rfl⟩
  · rw [if_pos h0]
  · split
    · rfl
    · simp [Addr.add]
end Go.Proofs.YtefnapcegeojoaaDoor

namespace Go.Proofs.YtefnapcegeojoaaDoor
open Go.RowKit
set_option linter.unusedVariables false
set_option maxRecDepth 100000

set_option maxHeartbeats 1600000 in
theorem text_any (u : Up) (w : World) (hd : upB u = true) : Calls Tryd.prog 60 #[uV u] w fun e w' => e = .returned (.string (encU u)) ∧ Below w.heap.size w w' := by
  have HD := hide (u1_seal hd)
  have hs1 : (sealS 8 [u.at_]).size = 8 := sealS_size 8 [u.at_]
  have hs2 : u.data.size ≤ 72 := (upB_iff.1 hd).2
  have HV := hide ((VarU.new w 42 u).below (Joins.below_alloc1 _ (.cells #[.int .i64 u.at_] 3)))
  clear hd
  go_enter Tryd.func60, Tryd.ntmps60
  go_wp2_with fail
  refine (sealRecord_impl 8 _ 1 [u.at_] _ (by simp) (is1 _ _ _ _ (by simp))).mono ?_
  rintro e w1 ⟨rfl, hb⟩
  have HB := hide hb
  obtain ⟨c0, c1⟩ := ((unhide HV).below hb).cells
  clear hb
  rw [(unhide HD).1, (unhide HD).2]
  go_wp2
  go_ret
  exact ⟨rfl, fr (Joins.below_alloc2 _ _ _) (unhide HB)⟩

end Go.Proofs.YtefnapcegeojoaaDoor
