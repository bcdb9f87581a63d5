import Derived.Test.YtboolfckaagfoabDoorRows
import Derived.Test.YtboolfckaagfoabDoorPart1
import Derived.Test.YtboolfckaagfoabDoorPart2
import Derived.Test.YtboolfckaagfoabDoorPart3
import Derived.Test.YtboolfckaagfoabDoorPart14
import Derived.Test.YtboolfckaagfoabDoorPart7
import Derived.Test.YtboolfckaagfoabDoorPart4
import Derived.Test.YtboolfckaagfoabDoorPart10
import Derived.WalkKit
import Derived.WalkSpells
import Derived.Defers
import Derived.Recover
import Derived.BigQuiet
import Derived.Deep.QuietTactic
import Derived.Deep.RegionWith
import Derived.Test.YtboolfckaagfoabDoorPart8

/- Contracts of impl.readUpdate, impl.readText at an update, impl.DecodeUpdate. -/
namespace Go.Proofs.YtboolfckaagfoabDoor
open Go.RowKit
set_option linter.unusedVariables false
set_option maxRecDepth 100000

theorem du_open {t : ByteArray} (h : 8 ≤ t.size) (ho : RecP (t.extract 0 8) ∧ byteAt (t.extract 0 8) 0 = 8) : ∃ a, unL (bodyT (t.extract 0 8)) = [a] ∧ duX t = ⟨a, t.extract 8 t.size⟩ ∧ duB t = upB ⟨a, t.extract 8 t.size⟩ := by
  have ho' : openB (duH t) 8 = true := openB_iff.2 ho
  have e := duL_eq h ho'
  refine ⟨(duX t).at_, ?_, duX_at e, ?_⟩
  · rw [← openL_yes ho']; exact e
  · rw [duB_at h ho', ← duX_at e]
theorem duB_opens {t : ByteArray} (h : duB t = true) : 8 ≤ t.size ∧ RecP (t.extract 0 8) ∧ byteAt (t.extract 0 8) 0 = 8 := by
  obtain ⟨h1, h2, h3⟩ := duB_parts h
  exact ⟨h1, openB_iff.1 h2⟩

set_option maxHeartbeats 1600000 in
theorem readUpdate_yes (t : ByteArray) (w : World) (hs : t.size ≤ 65536) (hd : duB t = true) :
    Calls Tryd.prog 29 #[.string t] w fun e w' => e = .returned (uV (duU t)) ∧ Below w.heap.size w w' := by
  obtain ⟨h8, hr, hk⟩ := duB_opens hd
  obtain ⟨a, hl, hx, hbu⟩ := du_open h8 ⟨hr, hk⟩
  have HU : Hid (duU t = ⟨a, t.extract 8 t.size⟩) := hide ((du_yes hd).trans hx)
  have HDD : Hid (upB ⟨a, t.extract 8 t.size⟩ = true) := hide (by rw [← hbu]; exact hd)
  have HZ : Hid ((t.extract 8 t.size).size ≤ maxLen) := hide (by rw [duT_size]; unfold maxLen; omega)
  have HL := hide hl
  have HR := hide hr
  have HK := hide hk
  have HS : Hid ((t.extract 0 8).size ≤ 65536) := hide (by rw [duH_size h8]; omega)
  have h8' : ((8 : Int) ≤ (t.size : Int)) := by omega
  clear hl hx hbu hr hk hd
  have HA := hide (Joins.below_alloc1 w (.cells #[.int .i64 0, .string ⟨#[]⟩] 28))
  have HV := hide (VarU.new w 28 up0)
  go_enter Tryd.func29, Tryd.ntmps29
  go_wp2_with (go_at_call 54; refine (demand_true _).mono ?_; rintro e w' ⟨rfl, hw⟩; replace hw := hw.symm; subst hw)
  refine (readKind_yes (t.extract 0 8) 8 _ (unhide HS) (unhide HR) (unhide HK)).mono ?_
  rintro e w1 ⟨v, rfl, ⟨qo, qa, rfl, ho⟩, hb⟩
  have HB := hide (fr (unhide HA) hb)
  have HB1 := hide hb
  have hI := ownRN ho
  rw [unhide HL] at hI ⊢
  obtain ⟨g, off, rfl, hi0⟩ := hI 0 (by simp)
  simp only [List.getElem_cons_zero, Nat.add_zero] at hi0
  have hg := World.block_lt_of_cell? _ _ hi0
  clear hI ho hb
  simp only [List.length_cons, List.length_nil, Nat.zero_add]
  go_wp2_with fail
  have HA2 := hide (Joins.below_alloc1 w1 (.cells #[.int .i64 a, .string (t.extract 8 t.size)] 28)).drew
  have HV2 := hide (((unhide HV).below (unhide HB1)).below (unhide HA2))
  have HV3 : Hid (VarU (w1.alloc (.cells #[.int .i64 a, .string (t.extract 8 t.size)] 28)).drew w1.heap.size 28 ⟨a, t.extract 8 t.size⟩) := hide ((VarU.new w1 28 ⟨a, t.extract 8 t.size⟩).below (Below.refl _ _).drew)
  have HB2 := hide (fr (unhide HB) (unhide HA2))
  go_region
  go_wp2_with fail
  refine (updateOK_any ⟨a, t.extract 8 t.size⟩ _ (unhide HZ)).mono ?_
  rintro e w2 ⟨rfl, hb2⟩
  rw [unhide HDD]
  have HB3 := hide (fr (unhide HB2) hb2)
  obtain ⟨hc0, hc1⟩ := ((unhide HV2).below hb2).cells
  obtain ⟨hf0, hf1⟩ := ((unhide HV2).below hb2).free
  obtain ⟨hx0, hx1⟩ := ((unhide HV3).below hb2).cells
  have HR3 := hide (fun u v => below2 (unhide HB3) (Nat.le_refl _) 0 1 u v)
  clear hb2 hi0
  go_wp2_with (go_at_call 54; refine (demand_true _).mono ?_; rintro e w' ⟨rfl, hw⟩; replace hw := hw.symm; subst hw)
  refine bodyPost_ret (v := uV ⟨a, t.extract 8 t.size⟩) (by simp [results, Tryd.results29, go_sem, hc0, hc1]) rfl ⟨?_, unhide HR3 _ _⟩
  rw [unhide HU]

set_option maxHeartbeats 1600000 in
theorem readUpdate_no (t : ByteArray) (w : World) (hs : t.size ≤ 65536) (hd : duB t = false) (hE : ErrW w) :
    Calls Tryd.prog 29 #[.string t] w fun e w' => (∃ u pv, e = .panicked [{ v := .iface u pv, recovered := false }]) ∧ Below w.heap.size w w' := by
  have HA := hide (Joins.below_alloc1 w (.cells #[.int .i64 0, .string ⟨#[]⟩] 28))
  have HE := hide (hE.below (unhide HA))
  clear hE
  by_cases h8 : (8 : Int) ≤ (t.size : Int)
  · have HS : Hid ((t.extract 0 8).size ≤ 65536) := hide (by rw [duH_size (by omega)]; omega)
    by_cases hr : RecP (t.extract 0 8) ∧ byteAt (t.extract 0 8) 0 = 8
    · obtain ⟨a, hl, hx, hbu⟩ := du_open (by omega) hr
      have HDD : Hid (upB ⟨a, t.extract 8 t.size⟩ = false) := hide (by rw [← hbu]; exact hd)
      have HZ : Hid ((t.extract 8 t.size).size ≤ maxLen) := hide (by rw [duT_size]; unfold maxLen; omega)
      have HL := hide hl
      have HR := hide hr
      clear hl hx hbu hr hd
      go_enter Tryd.func29, Tryd.ntmps29
      go_wp2_with (go_at_call 54; refine (demand_true _).mono ?_; rintro e w' ⟨rfl, hw⟩; replace hw := hw.symm; subst hw)
      refine (readKind_yes (t.extract 0 8) 8 _ (unhide HS) (unhide HR).1 (unhide HR).2).mono ?_
      rintro e w1 ⟨v, rfl, ⟨qo, qa, rfl, ho⟩, hb⟩
      have HB := hide (fr (unhide HA) hb)
      have HE1 := hide ((unhide HE).below hb)
      have hI := ownRN ho
      rw [unhide HL] at hI ⊢
      obtain ⟨g, off, rfl, hi0⟩ := hI 0 (by simp)
      simp only [List.getElem_cons_zero, Nat.add_zero] at hi0
      have hg := World.block_lt_of_cell? _ _ hi0
      clear hI ho hb
      simp only [List.length_cons, List.length_nil, Nat.zero_add]
      go_wp2_with fail
      have HA2 := hide (Joins.below_alloc1 w1 (.cells #[.int .i64 a, .string (t.extract 8 t.size)] 28)).drew
      have HB2 := hide (fr (unhide HB) (unhide HA2))
      go_region
      go_wp2_with fail
      refine (updateOK_any ⟨a, t.extract 8 t.size⟩ _ (unhide HZ)).mono ?_
      rintro e w2 ⟨rfl, hb2⟩
      rw [unhide HDD]
      have HB3 := hide (fr (unhide HB2) hb2)
      have HE2 := hide (((unhide HE1).below (unhide HA2)).below hb2)
      clear hb2 hi0
      go_wp2_with (go_at_call 54; refine (demand_false _ (unhide HE2)).mono ?_; rintro e w' ⟨⟨u, pv, rfl⟩, hw⟩; replace hw := hw.symm; subst hw)
      exact ⟨rfl, ⟨_, _, rfl⟩, unhide HB3⟩
    · have HR := hide hr
      clear hr hd
      go_enter Tryd.func29, Tryd.ntmps29
      go_wp2_with (go_at_call 54; refine (demand_true _).mono ?_; rintro e w' ⟨rfl, hw⟩; replace hw := hw.symm; subst hw)
      refine (readKind_no (t.extract 0 8) 8 _ (unhide HS) (unhide HR) (unhide HE)).mono ?_
      rintro e w1 ⟨⟨u, pv, rfl⟩, hb⟩
      have HB := hide (fr (unhide HA) hb)
      clear hb
      go_wp2
      exact ⟨rfl, ⟨_, _, rfl⟩, unhide HB⟩
  · clear hd
    go_enter Tryd.func29, Tryd.ntmps29
    go_wp2_with (go_at_call 54; refine (demand_false _ (unhide HE)).mono ?_; rintro e w' ⟨⟨u, pv, rfl⟩, hw⟩; replace hw := hw.symm; subst hw)
    exact ⟨rfl, ⟨_, _, rfl⟩, unhide HA⟩

theorem catchU_panicking (p : Addr) (x : Int) (u : TypeId) (pv : Value) (older : List PanicEntry) (w : World) (hc : w.cell? p = some (.int .i64 x)) (hz : w.frozen? p = false) :
    CallsD Tryd.prog 53 #[.pointer (some p)] (.panicking ({ v := .iface u pv, recovered := false } :: older)) w fun e u' w' =>
      e = .returned (.tuple #[]) ∧ u' = .panicking ({ v := .iface u pv, recovered := true } :: older) ∧ w' = w.setCell p (.int .i64 3) := by
  refine callsD_of_wpS Tryd.func53 rfl fun c₀ cs hu => ?_
  apply wpS_seq
  apply wpS_region
  simp [wpOpsS, go_sem, recoverD, hu, Tryd.ntmps53, Exit.thenS]
  refine wpS_cond (t := true) (by simp [Act.eval, Array.replicate]) ?_
  simp only [if_true]
  apply wpS_region
  simp [wpOpsS, go_sem, hc, hz, bodyPostS, results, Tryd.results53]

theorem catchU_idle (p : Addr) (w : World) :
    CallsD Tryd.prog 53 #[.pointer (some p)] .returning w fun e u' w' => e = .returned (.tuple #[]) ∧ u' = .returning ∧ w' = w := by
  refine callsD_of_wpS Tryd.func53 rfl fun c₀ cs hu => ?_
  apply wpS_seq
  apply wpS_region
  simp [wpOpsS, go_sem, recoverD, hu, Tryd.ntmps53, Exit.thenS]
  refine wpS_cond (t := false) (by simp [Act.eval, Array.replicate]) ?_
  simp only [Bool.false_eq_true, if_false]
  refine wpS_of_wp (wp_skip ?_)
  cases c₀
  simp_all [bodyPostS, results, Tryd.results53]

theorem two_newU {w w1 : World} (hb : Below ((w.alloc (.cells #[.int .i64 0, .string ⟨#[]⟩] 28)).alloc (.cells #[.int .i64 0] 3)).heap.size ((w.alloc (.cells #[.int .i64 0, .string ⟨#[]⟩] 28)).alloc (.cells #[.int .i64 0] 3)) w1) : VarU w1 w.heap.size 28 up0 ∧ w1.heap[w.heap.size + 1]? = some (.cells #[.int .i64 0] 3 (0, 0)) := by
  constructor
  · exact ((VarU.new w _ up0).below (Joins.below_alloc1 _ _)).below hb
  · rw [hb.block _ (by simp)]
    have := heap_alloc_new (w.alloc (.cells #[.int .i64 0, .string ⟨#[]⟩] 28)) (.cells #[.int .i64 0] 3)
    simp only [World.size_alloc] at this
    exact this

set_option maxHeartbeats 1600000 in
theorem readTextU_yes (s : ByteArray) (w : World) (hs : s.size ≤ 65536) (hd : duB s = true) :
    Calls Tryd.prog 28 #[.string s, .func (.func 29) #[] #[]] w fun e w' => e = .returned (.tuple #[uV (duU s), .int .i64 0]) ∧ Below w.heap.size w w' := by
  have hmf : ∀ (fn : Fn) (first cap : Array Value) (w : World), (Instr.makeFunc fn first cap).run Tryd.prog w = .ok (.func fn first cap) w := fun _ _ _ _ => rfl
  have HD := hide hd
  clear hd
  go_enter_defers Tryd.func28, Tryd.ntmps28
  go_wp2_with fail
  refine (readUpdate_yes s _ hs (unhide HD)).mono ?_
  rintro e w1 ⟨rfl, hb1⟩
  obtain ⟨hv, hblk⟩ := two_newU hb1
  obtain ⟨v0, v1⟩ := hv.cells
  obtain ⟨f0, f1⟩ := hv.free
  have hc0 := Joins.cell_of_block hblk 0
  have hf0 := Joins.unfrozen_of_block hblk 0
  simp only [List.size_toArray, List.length_cons, List.length_nil, Nat.zero_add, Nat.lt_add_one, getElem?_pos, List.getElem_toArray, List.getElem_cons_zero] at hc0
  have HB := hide (fr (Joins.below_alloc2 w _ _) hb1)
  clear hb1 hblk hv
  go_wp2
  refine leaves_cons (f := 53) (args := #[.pointer (some ⟨w.heap.size + 1, 0, none⟩)]) (by simp) (by simp [go_sem]) ?_
  refine (catchU_idle ⟨w.heap.size + 1, 0, none⟩ _).mono ?_
  rintro e u' w'' ⟨rfl, rfl, rfl⟩
  simp [Leaves, settle, results, Tryd.results28, go_sem, v0, v1, hc0]
  exact (below2 (unhide HB) (Nat.le_refl _) 0 1 _ _).setCell (p := ⟨w.heap.size + 1, 0, none⟩) (Nat.le_succ _) _

set_option maxHeartbeats 1600000 in
theorem readTextU_no (s : ByteArray) (w : World) (hs : s.size ≤ 65536) (hd : duB s = false) (hE : ErrW w) :
    Calls Tryd.prog 28 #[.string s, .func (.func 29) #[] #[]] w fun e w' => e = .returned (.tuple #[uV up0, .int .i64 3]) ∧ Below w.heap.size w w' := by
  have hmf : ∀ (fn : Fn) (first cap : Array Value) (w : World), (Instr.makeFunc fn first cap).run Tryd.prog w = .ok (.func fn first cap) w := fun _ _ _ _ => rfl
  have HD := hide hd
  have HE := hide (hE.below (Joins.below_alloc2 w (.cells #[.int .i64 0, .string ⟨#[]⟩] 28) (.cells #[.int .i64 0] 3)))
  clear hd hE
  go_enter_defers Tryd.func28, Tryd.ntmps28
  go_wp2_with fail
  refine (readUpdate_no s _ hs (unhide HD) (unhide HE)).mono ?_
  rintro e w1 ⟨⟨u, pv, rfl⟩, hb1⟩
  obtain ⟨hv, hblk⟩ := two_newU hb1
  obtain ⟨v0, v1⟩ := hv.cells
  have hc0 := Joins.cell_of_block hblk 0
  have hf0 := Joins.unfrozen_of_block hblk 0
  simp only [List.size_toArray, List.length_cons, List.length_nil, Nat.zero_add, Nat.lt_add_one, getElem?_pos, List.getElem_toArray, List.getElem_cons_zero] at hc0
  have HB := hide (fr (Joins.below_alloc2 w _ _) hb1)
  clear hb1 hblk hv
  go_wp2
  refine leaves_cons (f := 53) (args := #[.pointer (some ⟨w.heap.size + 1, 0, none⟩)]) (by simp) (by simp [go_sem]) ?_
  refine (catchU_panicking ⟨w.heap.size + 1, 0, none⟩ 0 u pv [] _ hc0 hf0).mono ?_
  rintro e u' w'' ⟨rfl, rfl, rfl⟩
  simp [Leaves, settle, results, Tryd.results28, go_sem, v0, v1, hc0, up0]
  exact (unhide HB).setCell (p := ⟨w.heap.size + 1, 0, none⟩) (Nat.le_succ _) _

theorem readTextU_long (s : ByteArray) (w : World) (hs : 65536 < s.size) (f : Value) :
    Calls Tryd.prog 28 #[.string s, f] w fun e w' => e = .returned (.tuple #[uV up0, .int .i64 2]) ∧ Below w.heap.size w w' := by
  go_enter_defers Tryd.func28, Tryd.ntmps28
  go_wp2
  simp [bodyPostD, Leaves, results, Tryd.results28, go_sem, up0]
  exact Joins.below_alloc2 _ _ _

set_option maxHeartbeats 1600000 in
theorem decodeUpdate_impl (t : ByteArray) (w : World) (hE : ErrW w) : Calls Tryd.prog 10 #[.string t] w fun e w' => e = .returned (.tuple #[uV (dkU t), .int .i64 (dkC t)]) ∧ Below w.heap.size w w' := by
  have hmf : ∀ (fn : Fn) (first cap : Array Value) (w : World), (Instr.makeFunc fn first cap).run Tryd.prog w = .ok (.func fn first cap) w := fun _ _ _ _ => rfl
  have HA := hide (Joins.below_alloc1 w (.cells #[.int .i64 0, .string ⟨#[]⟩] 28))
  have HE := hide (hE.below (unhide HA))
  have HV := hide (VarU.new w 28 up0)
  clear hE
  have key : ∀ (K1 : Up) (d : Int), (dkU t = K1 ∧ dkC t = d) → (∀ W, ErrW W → Calls Tryd.prog 28 #[.string t, .func (.func 29) #[] #[]] W fun e w' => e = .returned (.tuple #[uV K1, .int .i64 d]) ∧ Below W.heap.size W w') →
      Calls Tryd.prog 10 #[.string t] w fun e w' => e = .returned (.tuple #[uV (dkU t), .int .i64 (dkC t)]) ∧ Below w.heap.size w w' := by
    intro K1 d hq hc
    have HQ := hide hq
    have HC := hide hc
    clear hq hc
    go_enter Tryd.func10, Tryd.ntmps10
    go_wp2_with fail
    refine (unhide HC _ (unhide HE)).mono ?_
    rintro e w1 ⟨rfl, hb⟩
    have HV1 := hide ((unhide HV).below hb)
    obtain ⟨hc0, hc1⟩ := (unhide HV1).cells
    obtain ⟨hf0, hf1⟩ := (unhide HV1).free
    have HB := hide (fun u v => below2 (fr (unhide HA) hb) (Nat.le_refl _) 0 1 u v)
    clear hb
    go_wp2
    refine bodyPost_ret (v := .tuple #[uV K1, .int .i64 d]) (by simp [results, Tryd.results10, go_sem, hc0, hc1]) rfl ⟨?_, unhide HB _ _⟩
    exact ret_ui (unhide HQ).1.symm (unhide HQ).2.symm
  by_cases h1 : 65536 < t.size
  · exact key _ _ (dk_long h1) (fun W _ => readTextU_long t W h1 _)
  · by_cases hd : duB t = true
    · exact key _ _ (dk_yes h1 hd) (fun W _ => readTextU_yes t W (by omega) hd)
    · rw [Bool.not_eq_true] at hd
      exact key _ _ (dk_no h1 hd) (fun W hW => readTextU_no t W (by omega) hd hW)

end Go.Proofs.YtboolfckaagfoabDoor

/- Contracts of impl.readSlotHead, impl.readText at a slot's head. -/
namespace Go.Proofs.YtboolfckaagfoabDoor
open Go.RowKit
set_option linter.unusedVariables false
set_option maxRecDepth 100000

abbrev hV (a b : Int) : Value := .agg #[.int .i64 a, .int .i64 b]
def VarH (w : World) (x : Nat) (t : TypeId) (a b : Int) : Prop := w.heap[x]? = some (.cells #[.int .i64 a, .int .i64 b] t (0, 0))
theorem VarH.lt {w : World} {x t : Nat} {a b : Int} (k : VarH w x t a b) : x < w.heap.size := (Array.getElem?_eq_some_iff.1 k).1
theorem VarH.cells {w : World} {x t : Nat} {a b : Int} (k : VarH w x t a b) : w.cell? ⟨x, 0, none⟩ = some (.int .i64 a) ∧ w.cell? ⟨x, 1, none⟩ = some (.int .i64 b) := ⟨by rw [Joins.cell_of_block k]; rfl, by rw [Joins.cell_of_block k]; rfl⟩
theorem VarH.free {w : World} {x t : Nat} {a b : Int} (k : VarH w x t a b) : w.frozen? ⟨x, 0, none⟩ = false ∧ w.frozen? ⟨x, 1, none⟩ = false := ⟨Joins.unfrozen_of_block k 0, Joins.unfrozen_of_block k 1⟩
theorem VarH.below {w w' : World} {x t : Nat} {a b : Int} (k : VarH w x t a b) (hb : Below w.heap.size w w') : VarH w' x t a b := by
  unfold VarH; rw [hb.block x k.lt]; exact k
theorem VarH.new (w : World) (t : TypeId) (a b : Int) : VarH (w.alloc (.cells #[.int .i64 a, .int .i64 b] t)) w.heap.size t a b := heap_alloc_new w _
theorem sd_openP {t : ByteArray} (h : openB t 7 = true) : RecP t ∧ byteAt t 0 = 7 := openB_iff.1 h
theorem sd_listP {t : ByteArray} (h : openB t 7 = true) : unL (bodyT t) = sdL t := (openL_yes h).symm

set_option maxHeartbeats 1600000 in
theorem readSlotHead_yes (t : ByteArray) (w : World) (hs : t.size ≤ 65536) (hd : sdB t = true) :
    Calls Tryd.prog 72 #[.string t] w fun e w' => e = .returned (hV (sdN t : Int) (sdS t)) ∧ Below w.heap.size w w' := by
  have HA := hide (Joins.below_alloc1 w (.cells #[.int .i64 0, .int .i64 0] 99))
  have HV := hide (VarH.new w 99 0 0)
  by_cases h0 : t.size = 0
  · obtain rfl := bytes0 h0
    obtain ⟨_, e2, e3⟩ := sd_empty h0
    have HE := hide (And.intro e2 e3)
    obtain ⟨c0, c1⟩ := (unhide HV).cells
    obtain ⟨f0, f1⟩ := (unhide HV).free
    have HR := hide (fun u v => below2 (unhide HA) (Nat.le_refl _) 0 1 u v)
    clear e2 e3 h0 hd
    go_enter Tryd.func72, Tryd.ntmps72
    go_wp2
    refine bodyPost_ret (v := hV 0 0) (by simp [results, Tryd.results72, go_sem, c0, c1]) rfl ⟨?_, by first | exact unhide HA | exact unhide HR _ _⟩
    rw [(unhide HE).1, (unhide HE).2]; rfl
  have hTb := text_full h0
  by_cases ho : openB t 7 = false
  · rw [sd_shut h0 ho] at hd; cases hd
  rw [Bool.not_eq_false] at ho
  by_cases hl : (sdL t).length = 2
  case neg => rw [sd_len h0 hl] at hd; cases hd
  obtain ⟨a, b, hl2⟩ := two_ofJ hl
  by_cases ha : a ≤ 5
  case neg => rw [sd_many h0 hl2 ha] at hd; cases hd
  obtain ⟨_, e1, _, e2, _⟩ := sd_yes h0 ho hl2 ha
  rw [e1, e2]
  have HL : Hid (unL (bodyT t) = [a, b]) := hide ((sd_listP ho).trans hl2)
  have HR := hide (sd_openP ho)
  clear e1 e2 hl hl2 hd ho h0
  go_enter Tryd.func72, Tryd.ntmps72
  go_wp2_with fail
  refine (readKind_yes t 7 _ hs (unhide HR).1 (unhide HR).2).mono ?_
  rintro e w1 ⟨v, rfl, ⟨qo, qa, rfl, ho⟩, hb⟩
  have HB := hide (fr (unhide HA) hb)
  have HB1 := hide hb
  have hI := ownRN ho
  rw [unhide HL] at hI ⊢
  obtain ⟨g, off, rfl, hi0⟩ := hI 0 (by simp)
  obtain ⟨g', off', he, hi1⟩ := hI 1 (by simp)
  cases he
  simp only [List.getElem_cons_zero, List.getElem_cons_succ, Nat.add_zero] at hi0 hi1
  have hg := World.block_lt_of_cell? _ _ hi0
  clear hI ho hb
  simp only [List.length_cons, List.length_nil, Nat.zero_add, Nat.reduceAdd]
  go_wp2_with (go_at_call 54; refine (demand_true _).mono ?_; rintro e w' ⟨rfl, hw⟩; replace hw := hw.symm; subst hw)
  have HA2 := hide (Joins.below_alloc1 w1 (.cells #[.int .i64 a, .int .i64 b] 99)).drew
  have HV2 := hide (((unhide HV).below (unhide HB1)).below (unhide HA2))
  have HV3 : Hid (VarH (w1.alloc (.cells #[.int .i64 a, .int .i64 b] 99)).drew w1.heap.size 99 a b) := hide ((VarH.new w1 99 a b).below (Below.refl _ _).drew)
  have HB2 := hide (fr (unhide HB) (unhide HA2))
  go_region
  have hlt : w.heap.size < w1.heap.size := ((unhide HV).below (unhide HB1)).lt
  revert HV2 HV3 HB2
  generalize (w1.alloc (.cells #[.int .i64 a, .int .i64 b] 99)).drew = W
  intro HV2 HV3 HB2
  obtain ⟨hx0, hx1⟩ := (unhide HV3).cells
  obtain ⟨hc0, hc1⟩ := (unhide HV2).cells
  obtain ⟨hf0, hf1⟩ := (unhide HV2).free
  have HR3 := hide (fun u v => below2 (unhide HB2) (Nat.le_refl _) 0 1 u v)
  go_wp2_with (go_at_call 54; refine (demand_true _).mono ?_; rintro e w' ⟨rfl, hw⟩; replace hw := hw.symm; subst hw)
  exact bodyPost_ret (v := hV a b) (by simp [results, Tryd.results72, go_sem, hc0, hc1]) rfl ⟨rfl, unhide HR3 _ _⟩

set_option maxHeartbeats 1600000 in
theorem readSlotHead_no (t : ByteArray) (w : World) (hs : t.size ≤ 65536) (hd : sdB t = false) (hE : ErrW w) :
    Calls Tryd.prog 72 #[.string t] w fun e w' => (∃ u pv, e = .panicked [{ v := .iface u pv, recovered := false }]) ∧ Below w.heap.size w w' := by
  have HA := hide (Joins.below_alloc1 w (.cells #[.int .i64 0, .int .i64 0] 99))
  have HE := hide (hE.below (unhide HA))
  clear hE
  by_cases h0 : t.size = 0
  · rw [(sd_empty h0).1] at hd; cases hd
  have hTb := text_full h0
  by_cases ho : openB t 7 = false
  · have HN : Hid (¬ (RecP t ∧ byteAt t 0 = 7)) := hide (fun h => by rw [openB_iff.2 h] at ho; cases ho)
    clear ho hd h0
    go_enter Tryd.func72, Tryd.ntmps72
    go_wp2_with fail
    refine (readKind_no t 7 _ hs (unhide HN) (unhide HE)).mono ?_
    rintro e w1 ⟨⟨u, pv, rfl⟩, hb⟩
    have HB := hide (fr (unhide HA) hb)
    clear hb
    go_wp2
    exact ⟨rfl, ⟨_, _, rfl⟩, unhide HB⟩
  rw [Bool.not_eq_false] at ho
  have HR := hide (sd_openP ho)
  by_cases hl : (sdL t).length = 2
  case neg =>
    have hl2 : ((((unL (bodyT t)).length : Nat) : Int) == 2) = false := by rw [beq_eq_false_iff_ne, sd_listP ho]; omega
    clear hl hd ho h0
    go_enter Tryd.func72, Tryd.ntmps72
    go_wp2_with fail
    refine (readKind_yes t 7 _ hs (unhide HR).1 (unhide HR).2).mono ?_
    rintro e w1 ⟨v, rfl, ⟨qo, qa, rfl, ho⟩, hb⟩
    have HB := hide (fr (unhide HA) hb)
    have HE1 := hide ((unhide HE).below hb)
    clear ho hb
    go_wp2_with (go_at_call 54; refine (demand_false _ (unhide HE1)).mono ?_; rintro e w' ⟨⟨u, pv, rfl⟩, hw⟩; replace hw := hw.symm; subst hw)
    exact ⟨rfl, ⟨_, _, rfl⟩, unhide HB⟩
  obtain ⟨a, b, hl2⟩ := two_ofJ hl
  by_cases ha : a ≤ 5
  · rw [(sd_yes h0 ho hl2 ha).1] at hd; cases hd
  have HAB := hide (decide_eq_false ha)
  clear ha
  have HL : Hid (unL (bodyT t) = [a, b]) := hide ((sd_listP ho).trans hl2)
  clear hl hl2 hd ho h0
  go_enter Tryd.func72, Tryd.ntmps72
  go_wp2_with fail
  refine (readKind_yes t 7 _ hs (unhide HR).1 (unhide HR).2).mono ?_
  rintro e w1 ⟨v, rfl, ⟨qo, qa, rfl, ho⟩, hb⟩
  have HB := hide (fr (unhide HA) hb)
  have HE1 := hide ((unhide HE).below hb)
  have hI := ownRN ho
  rw [unhide HL] at hI ⊢
  obtain ⟨g, off, rfl, hi0⟩ := hI 0 (by simp)
  obtain ⟨g', off', he, hi1⟩ := hI 1 (by simp)
  cases he
  simp only [List.getElem_cons_zero, List.getElem_cons_succ, Nat.add_zero] at hi0 hi1
  have hg := World.block_lt_of_cell? _ _ hi0
  clear hI ho hb
  simp only [List.length_cons, List.length_nil, Nat.zero_add, Nat.reduceAdd]
  go_wp2_with (go_at_call 54; refine (demand_true _).mono ?_; rintro e w' ⟨rfl, hw⟩; replace hw := hw.symm; subst hw)
  have HA2 := hide (Joins.below_alloc1 w1 (.cells #[.int .i64 a, .int .i64 b] 99)).drew
  have HB2 := hide (fr (unhide HB) (unhide HA2))
  have HE2 := hide ((unhide HE1).below (unhide HA2))
  have HV3 : Hid (VarH (w1.alloc (.cells #[.int .i64 a, .int .i64 b] 99)).drew w1.heap.size 99 a b) := hide ((VarH.new w1 99 a b).below (Below.refl _ _).drew)
  go_region
  revert HV3 HB2 HE2
  generalize (w1.alloc (.cells #[.int .i64 a, .int .i64 b] 99)).drew = W
  intro HB2 HE2 HV3
  obtain ⟨hx0, hx1⟩ := (unhide HV3).cells
  go_wp2_with (go_at_call 54; rw [unhide HAB]; refine (demand_false _ (unhide HE2)).mono ?_; rintro e w' ⟨⟨u, pv, rfl⟩, hw⟩; replace hw := hw.symm; subst hw)
  exact ⟨rfl, ⟨_, _, rfl⟩, unhide HB2⟩

theorem catchH_panicking (p : Addr) (x : Int) (u : TypeId) (pv : Value) (older : List PanicEntry) (w : World) (hc : w.cell? p = some (.int .i64 x)) (hz : w.frozen? p = false) :
    CallsD Tryd.prog 92 #[.pointer (some p)] (.panicking ({ v := .iface u pv, recovered := false } :: older)) w fun e u' w' =>
      e = .returned (.tuple #[]) ∧ u' = .panicking ({ v := .iface u pv, recovered := true } :: older) ∧ w' = w.setCell p (.int .i64 3) := by
  refine callsD_of_wpS Tryd.func92 rfl fun c₀ cs hu => ?_
  apply wpS_seq
  apply wpS_region
  simp [wpOpsS, go_sem, recoverD, hu, Tryd.ntmps92, Exit.thenS]
  refine wpS_cond (t := true) (by simp [Act.eval, Array.replicate]) ?_
  simp only [if_true]
  apply wpS_region
  simp [wpOpsS, go_sem, hc, hz, bodyPostS, results, Tryd.results92]

theorem catchH_idle (p : Addr) (w : World) :
    CallsD Tryd.prog 92 #[.pointer (some p)] .returning w fun e u' w' => e = .returned (.tuple #[]) ∧ u' = .returning ∧ w' = w := by
  refine callsD_of_wpS Tryd.func92 rfl fun c₀ cs hu => ?_
  apply wpS_seq
  apply wpS_region
  simp [wpOpsS, go_sem, recoverD, hu, Tryd.ntmps92, Exit.thenS]
  refine wpS_cond (t := false) (by simp [Act.eval, Array.replicate]) ?_
  simp only [Bool.false_eq_true, if_false]
  refine wpS_of_wp (wp_skip ?_)
  cases c₀
  simp_all [bodyPostS, results, Tryd.results92]

theorem two_newH {w w1 : World} (hb : Below ((w.alloc (.cells #[.int .i64 0, .int .i64 0] 99)).alloc (.cells #[.int .i64 0] 3)).heap.size ((w.alloc (.cells #[.int .i64 0, .int .i64 0] 99)).alloc (.cells #[.int .i64 0] 3)) w1) : VarH w1 w.heap.size 99 0 0 ∧ w1.heap[w.heap.size + 1]? = some (.cells #[.int .i64 0] 3 (0, 0)) := by
  constructor
  · exact ((VarH.new w _ 0 0).below (Joins.below_alloc1 _ _)).below hb
  · rw [hb.block _ (by simp)]
    have := heap_alloc_new (w.alloc (.cells #[.int .i64 0, .int .i64 0] 99)) (.cells #[.int .i64 0] 3)
    simp only [World.size_alloc] at this
    exact this

set_option maxHeartbeats 1600000 in
theorem readTextH_yes (s : ByteArray) (w : World) (hs : s.size ≤ 65536) (hd : sdB s = true) :
    Calls Tryd.prog 70 #[.string s, .func (.func 72) #[] #[]] w fun e w' => e = .returned (.tuple #[hV (sdN s : Int) (sdS s), .int .i64 0]) ∧ Below w.heap.size w w' := by
  have hmf : ∀ (fn : Fn) (first cap : Array Value) (w : World), (Instr.makeFunc fn first cap).run Tryd.prog w = .ok (.func fn first cap) w := fun _ _ _ _ => rfl
  have HD := hide hd
  clear hd
  go_enter_defers Tryd.func70, Tryd.ntmps70
  go_wp2_with fail
  refine (readSlotHead_yes s _ hs (unhide HD)).mono ?_
  rintro e w1 ⟨rfl, hb1⟩
  obtain ⟨hv, hblk⟩ := two_newH hb1
  obtain ⟨v0, v1⟩ := hv.cells
  obtain ⟨f0, f1⟩ := hv.free
  have hc0 := Joins.cell_of_block hblk 0
  have hf0 := Joins.unfrozen_of_block hblk 0
  simp only [List.size_toArray, List.length_cons, List.length_nil, Nat.zero_add, Nat.lt_add_one, getElem?_pos, List.getElem_toArray, List.getElem_cons_zero] at hc0
  have HB := hide (fr (Joins.below_alloc2 w _ _) hb1)
  clear hb1 hblk hv
  go_wp2
  refine leaves_cons (f := 92) (args := #[.pointer (some ⟨w.heap.size + 1, 0, none⟩)]) (by simp) (by simp [go_sem]) ?_
  refine (catchH_idle ⟨w.heap.size + 1, 0, none⟩ _).mono ?_
  rintro e u' w'' ⟨rfl, rfl, rfl⟩
  simp [Leaves, settle, results, Tryd.results70, go_sem, v0, v1, hc0]
  exact (below2 (unhide HB) (Nat.le_refl _) 0 1 _ _).setCell (p := ⟨w.heap.size + 1, 0, none⟩) (Nat.le_succ _) _

set_option maxHeartbeats 1600000 in
theorem readTextH_no (s : ByteArray) (w : World) (hs : s.size ≤ 65536) (hd : sdB s = false) (hE : ErrW w) :
    Calls Tryd.prog 70 #[.string s, .func (.func 72) #[] #[]] w fun e w' => e = .returned (.tuple #[hV 0 0, .int .i64 3]) ∧ Below w.heap.size w w' := by
  have hmf : ∀ (fn : Fn) (first cap : Array Value) (w : World), (Instr.makeFunc fn first cap).run Tryd.prog w = .ok (.func fn first cap) w := fun _ _ _ _ => rfl
  have HD := hide hd
  have HE := hide (hE.below (Joins.below_alloc2 w (.cells #[.int .i64 0, .int .i64 0] 99) (.cells #[.int .i64 0] 3)))
  clear hd hE
  go_enter_defers Tryd.func70, Tryd.ntmps70
  go_wp2_with fail
  refine (readSlotHead_no s _ hs (unhide HD) (unhide HE)).mono ?_
  rintro e w1 ⟨⟨u, pv, rfl⟩, hb1⟩
  obtain ⟨hv, hblk⟩ := two_newH hb1
  obtain ⟨v0, v1⟩ := hv.cells
  have hc0 := Joins.cell_of_block hblk 0
  have hf0 := Joins.unfrozen_of_block hblk 0
  simp only [List.size_toArray, List.length_cons, List.length_nil, Nat.zero_add, Nat.lt_add_one, getElem?_pos, List.getElem_toArray, List.getElem_cons_zero] at hc0
  have HB := hide (fr (Joins.below_alloc2 w _ _) hb1)
  clear hb1 hblk hv
  go_wp2
  refine leaves_cons (f := 92) (args := #[.pointer (some ⟨w.heap.size + 1, 0, none⟩)]) (by simp) (by simp [go_sem]) ?_
  refine (catchH_panicking ⟨w.heap.size + 1, 0, none⟩ 0 u pv [] _ hc0 hf0).mono ?_
  rintro e u' w'' ⟨rfl, rfl, rfl⟩
  simp [Leaves, settle, results, Tryd.results70, go_sem, v0, v1, hc0]
  exact (unhide HB).setCell (p := ⟨w.heap.size + 1, 0, none⟩) (Nat.le_succ _) _

end Go.Proofs.YtboolfckaagfoabDoor
