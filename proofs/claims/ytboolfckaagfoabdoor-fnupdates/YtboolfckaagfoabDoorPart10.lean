import Derived.Test.YtboolfckaagfoabDoorRows
import Derived.Test.YtboolfckaagfoabDoorPart1
import Derived.Test.YtboolfckaagfoabDoorPart2
import Derived.Test.YtboolfckaagfoabDoorPart3
import Derived.Test.YtboolfckaagfoabDoorPart9
import Derived.Test.YtboolfckaagfoabDoorPart7
import Derived.Test.YtboolfckaagfoabDoorPart4
import Derived.Test.YtboolfckaagfoabDoorPart8
import Derived.WalkKit
import Derived.WalkSpells
import Derived.Defers
import Derived.Recover
import Derived.BigQuiet
import Derived.Deep.QuietTactic
import Derived.Deep.RegionWith
import Derived.Test.YtboolfckaagfoabDoorPart5
import Derived.Deep.RegionLawGrows
import Derived.Deep.RegionLaw
import Derived.Deep.AppendLies
import Derived.Test.YtboolfckaagfoabDoorPart6
import Derived.KernelRfl
import Derived.Deep.RegionHeld3

/- Contracts of impl.readUpdate, impl.readText at an update, impl.DecodeUpdate. -/
namespace Go.Proofs.YtboolfckaagfoabDoor
open Go.RowKit
set_option linter.unusedVariables false
set_option maxRecDepth 100000

theorem du_open {t : ByteArray} (h : 8 ≤ t.size) (ho : RecP (t.extract 0 8) ∧ byteAt (t.extract 0 8) 0 = 8) : ∃ a, unL (bodyT (t.extract 0 8)) = [a] ∧ duX t = ⟨a, t.extract 8 t.size⟩ ∧ duB t = upB ⟨a, t.extract 8 t.size⟩ := by
  have ho' : openB (duH t) 8 = true := openB_iff.2 ho
  have e := duL_eq h ho'
  refine ⟨(duX t).at_, ?_, duX_at e, ?_⟩
  · rw [← openL_yes ho']; exact e
  · rw [duB_at h ho', ← duX_at e]
theorem duB_opens {t : ByteArray} (h : duB t = true) : 8 ≤ t.size ∧ RecP (t.extract 0 8) ∧ byteAt (t.extract 0 8) 0 = 8 := by
  obtain ⟨h1, h2, h3⟩ := duB_parts h
  exact ⟨h1, openB_iff.1 h2⟩

set_option maxHeartbeats 1600000 in
theorem readUpdate_yes (t : ByteArray) (w : World) (hs : t.size ≤ 65536) (hd : duB t = true) :
    Calls Tryd.prog 29 #[.string t] w fun e w' => e = .returned (uV (duU t)) ∧ Below w.heap.size w w' := by
  obtain ⟨h8, hr, hk⟩ := duB_opens hd
  obtain ⟨a, hl, hx, hbu⟩ := du_open h8 ⟨hr, hk⟩
  have HU : Hid (duU t = ⟨a, t.extract 8 t.size⟩) := hide ((du_yes hd).trans hx)
  have HDD : Hid (upB ⟨a, t.extract 8 t.size⟩ = true) := hide (by rw [← hbu]; exact hd)
  have HZ : Hid ((t.extract 8 t.size).size ≤ maxLen) := hide (by rw [duT_size]; unfold maxLen; omega)
  have HL := hide hl
  have HR := hide hr
  have HK := hide hk
  have HS : Hid ((t.extract 0 8).size ≤ 65536) := hide (by rw [duH_size h8]; omega)
  have h8' : ((8 : Int) ≤ (t.size : Int)) := by omega
  clear hl hx hbu hr hk hd
  have HA := hide (Joins.below_alloc1 w (.cells #[.int .i64 0, .string ⟨#[]⟩] 28))
  have HV := hide (VarU.new w 28 up0)
  go_enter Tryd.func29, Tryd.ntmps29
  go_wp2_with (go_at_call 54; refine (demand_true _).mono ?_; rintro e w' ⟨rfl, hw⟩; replace hw := hw.symm; subst hw)
  refine (readKind_yes (t.extract 0 8) 8 _ (unhide HS) (unhide HR) (unhide HK)).mono ?_
  rintro e w1 ⟨v, rfl, ⟨qo, qa, rfl, ho⟩, hb⟩
  have HB := hide (fr (unhide HA) hb)
  have HB1 := hide hb
  have hI := ownRN ho
  rw [unhide HL] at hI ⊢
  obtain ⟨g, off, rfl, hi0⟩ := hI 0 (by simp)
  simp only [List.getElem_cons_zero, Nat.add_zero] at hi0
  have hg := World.block_lt_of_cell? _ _ hi0
  clear hI ho hb
  simp only [List.length_cons, List.length_nil, Nat.zero_add]
  go_wp2_with fail
  have HA2 := hide (Joins.below_alloc1 w1 (.cells #[.int .i64 a, .string (t.extract 8 t.size)] 28)).drew
  have HV2 := hide (((unhide HV).below (unhide HB1)).below (unhide HA2))
  have HV3 : Hid (VarU (w1.alloc (.cells #[.int .i64 a, .string (t.extract 8 t.size)] 28)).drew w1.heap.size 28 ⟨a, t.extract 8 t.size⟩) := hide ((VarU.new w1 28 ⟨a, t.extract 8 t.size⟩).below (Below.refl _ _).drew)
  have HB2 := hide (fr (unhide HB) (unhide HA2))
  go_region
  go_wp2_with fail
  refine (updateOK_any ⟨a, t.extract 8 t.size⟩ _ (unhide HZ)).mono ?_
  rintro e w2 ⟨rfl, hb2⟩
  rw [unhide HDD]
  have HB3 := hide (fr (unhide HB2) hb2)
  obtain ⟨hc0, hc1⟩ := ((unhide HV2).below hb2).cells
  obtain ⟨hf0, hf1⟩ := ((unhide HV2).below hb2).free
  obtain ⟨hx0, hx1⟩ := ((unhide HV3).below hb2).cells
  have HR3 := hide (fun u v => below2 (unhide HB3) (Nat.le_refl _) 0 1 u v)
  clear hb2 hi0
  go_wp2_with (go_at_call 54; refine (demand_true _).mono ?_; rintro e w' ⟨rfl, hw⟩; replace hw := hw.symm; subst hw)
  refine bodyPost_ret (v := uV ⟨a, t.extract 8 t.size⟩) (by simp [results, Tryd.results29, go_sem, hc0, hc1]) rfl ⟨?_, unhide HR3 _ _⟩
  rw [unhide HU]

set_option maxHeartbeats 1600000 in
theorem readUpdate_no (t : ByteArray) (w : World) (hs : t.size ≤ 65536) (hd : duB t = false) (hE : ErrW w) :
    Calls Tryd.prog 29 #[.string t] w fun e w' => (∃ u pv, e = .panicked [{ v := .iface u pv, recovered := false }]) ∧ Below w.heap.size w w' := by
  have HA := hide (Joins.below_alloc1 w (.cells #[.int .i64 0, .string ⟨#[]⟩] 28))
  have HE := hide (hE.below (unhide HA))
  clear hE
  by_cases h8 : (8 : Int) ≤ (t.size : Int)
  · have HS : Hid ((t.extract 0 8).size ≤ 65536) := hide (by rw [duH_size (by omega)]; omega)
    by_cases hr : RecP (t.extract 0 8) ∧ byteAt (t.extract 0 8) 0 = 8
    · obtain ⟨a, hl, hx, hbu⟩ := du_open (by omega) hr
      have HDD : Hid (upB ⟨a, t.extract 8 t.size⟩ = false) := hide (by rw [← hbu]; exact hd)
      have HZ : Hid ((t.extract 8 t.size).size ≤ maxLen) := hide (by rw [duT_size]; unfold maxLen; omega)
      have HL := hide hl
      have HR := hide hr
      clear hl hx hbu hr hd
      go_enter Tryd.func29, Tryd.ntmps29
      go_wp2_with (go_at_call 54; refine (demand_true _).mono ?_; rintro e w' ⟨rfl, hw⟩; replace hw := hw.symm; subst hw)
      refine (readKind_yes (t.extract 0 8) 8 _ (unhide HS) (unhide HR).1 (unhide HR).2).mono ?_
      rintro e w1 ⟨v, rfl, ⟨qo, qa, rfl, ho⟩, hb⟩
      have HB := hide (fr (unhide HA) hb)
      have HE1 := hide ((unhide HE).below hb)
      have hI := ownRN ho
      rw [unhide HL] at hI ⊢
      obtain ⟨g, off, rfl, hi0⟩ := hI 0 (by simp)
      simp only [List.getElem_cons_zero, Nat.add_zero] at hi0
      have hg := World.block_lt_of_cell? _ _ hi0
      clear hI ho hb
      simp only [List.length_cons, List.length_nil, Nat.zero_add]
      go_wp2_with fail
      have HA2 := hide (Joins.below_alloc1 w1 (.cells #[.int .i64 a, .string (t.extract 8 t.size)] 28)).drew
      have HB2 := hide (fr (unhide HB) (unhide HA2))
      go_region
      go_wp2_with fail
      refine (updateOK_any ⟨a, t.extract 8 t.size⟩ _ (unhide HZ)).mono ?_
      rintro e w2 ⟨rfl, hb2⟩
      rw [unhide HDD]
      have HB3 := hide (fr (unhide HB2) hb2)
      have HE2 := hide (((unhide HE1).below (unhide HA2)).below hb2)
      clear hb2 hi0
      go_wp2_with (go_at_call 54; refine (demand_false _ (unhide HE2)).mono ?_; rintro e w' ⟨⟨u, pv, rfl⟩, hw⟩; replace hw := hw.symm; subst hw)
      exact ⟨rfl, ⟨_, _, rfl⟩, unhide HB3⟩
    · have HR := hide hr
      clear hr hd
      go_enter Tryd.func29, Tryd.ntmps29
      go_wp2_with (go_at_call 54; refine (demand_true _).mono ?_; rintro e w' ⟨rfl, hw⟩; replace hw := hw.symm; subst hw)
      refine (readKind_no (t.extract 0 8) 8 _ (unhide HS) (unhide HR) (unhide HE)).mono ?_
      rintro e w1 ⟨⟨u, pv, rfl⟩, hb⟩
      have HB := hide (fr (unhide HA) hb)
      clear hb
      go_wp2
      exact ⟨rfl, ⟨_, _, rfl⟩, unhide HB⟩
  · clear hd
    go_enter Tryd.func29, Tryd.ntmps29
    go_wp2_with (go_at_call 54; refine (demand_false _ (unhide HE)).mono ?_; rintro e w' ⟨⟨u, pv, rfl⟩, hw⟩; replace hw := hw.symm; subst hw)
    exact ⟨rfl, ⟨_, _, rfl⟩, unhide HA⟩

theorem catchU_panicking (p : Addr) (x : Int) (u : TypeId) (pv : Value) (older : List PanicEntry) (w : World) (hc : w.cell? p = some (.int .i64 x)) (hz : w.frozen? p = false) :
    CallsD Tryd.prog 53 #[.pointer (some p)] (.panicking ({ v := .iface u pv, recovered := false } :: older)) w fun e u' w' =>
      e = .returned (.tuple #[]) ∧ u' = .panicking ({ v := .iface u pv, recovered := true } :: older) ∧ w' = w.setCell p (.int .i64 3) := by
  refine callsD_of_wpS Tryd.func53 rfl fun c₀ cs hu => ?_
  apply wpS_seq
  apply wpS_region
  simp [wpOpsS, go_sem, recoverD, hu, Tryd.ntmps53, Exit.thenS]
  refine wpS_cond (t := true) (by simp [Act.eval, Array.replicate]) ?_
  simp only [if_true]
  apply wpS_region
  simp [wpOpsS, go_sem, hc, hz, bodyPostS, results, Tryd.results53]

theorem catchU_idle (p : Addr) (w : World) :
    CallsD Tryd.prog 53 #[.pointer (some p)] .returning w fun e u' w' => e = .returned (.tuple #[]) ∧ u' = .returning ∧ w' = w := by
  refine callsD_of_wpS Tryd.func53 rfl fun c₀ cs hu => ?_
  apply wpS_seq
  apply wpS_region
  simp [wpOpsS, go_sem, recoverD, hu, Tryd.ntmps53, Exit.thenS]
  refine wpS_cond (t := false) (by simp [Act.eval, Array.replicate]) ?_
  simp only [Bool.false_eq_true, if_false]
  refine wpS_of_wp (wp_skip ?_)
  cases c₀
  simp_all [bodyPostS, results, Tryd.results53]

theorem two_newU {w w1 : World} (hb : Below ((w.alloc (.cells #[.int .i64 0, .string ⟨#[]⟩] 28)).alloc (.cells #[.int .i64 0] 3)).heap.size ((w.alloc (.cells #[.int .i64 0, .string ⟨#[]⟩] 28)).alloc (.cells #[.int .i64 0] 3)) w1) : VarU w1 w.heap.size 28 up0 ∧ w1.heap[w.heap.size + 1]? = some (.cells #[.int .i64 0] 3 (0, 0)) := by
  constructor
  · exact ((VarU.new w _ up0).below (Joins.below_alloc1 _ _)).below hb
  · rw [hb.block _ (by simp)]
    have := heap_alloc_new (w.alloc (.cells #[.int .i64 0, .string ⟨#[]⟩] 28)) (.cells #[.int .i64 0] 3)
    simp only [World.size_alloc] at this
    exact this

set_option maxHeartbeats 1600000 in
theorem readTextU_yes (s : ByteArray) (w : World) (hs : s.size ≤ 65536) (hd : duB s = true) :
    Calls Tryd.prog 28 #[.string s, .func (.func 29) #[] #[]] w fun e w' => e = .returned (.tuple #[uV (duU s), .int .i64 0]) ∧ Below w.heap.size w w' := by
  have hmf : ∀ (fn : Fn) (first cap : Array Value) (w : World), (Instr.makeFunc fn first cap).run Tryd.prog w = .ok (.func fn first cap) w := fun _ _ _ _ => rfl
  have HD := hide hd
  clear hd
  go_enter_defers Tryd.func28, Tryd.ntmps28
  go_wp2_with fail
  refine (readUpdate_yes s _ hs (unhide HD)).mono ?_
  rintro e w1 ⟨rfl, hb1⟩
  obtain ⟨hv, hblk⟩ := two_newU hb1
  obtain ⟨v0, v1⟩ := hv.cells
  obtain ⟨f0, f1⟩ := hv.free
  have hc0 := Joins.cell_of_block hblk 0
  have hf0 := Joins.unfrozen_of_block hblk 0
  simp only [List.size_toArray, List.length_cons, List.length_nil, Nat.zero_add, Nat.lt_add_one, getElem?_pos, List.getElem_toArray, List.getElem_cons_zero] at hc0
  have HB := hide (fr (Joins.below_alloc2 w _ _) hb1)
  clear hb1 hblk hv
  go_wp2
  refine leaves_cons (f := 53) (args := #[.pointer (some ⟨w.heap.size + 1, 0, none⟩)]) (by simp) (by simp [go_sem]) ?_
  refine (catchU_idle ⟨w.heap.size + 1, 0, none⟩ _).mono ?_
  rintro e u' w'' ⟨rfl, rfl, rfl⟩
  simp [Leaves, settle, results, Tryd.results28, go_sem, v0, v1, hc0]
  exact (below2 (unhide HB) (Nat.le_refl _) 0 1 _ _).setCell (p := ⟨w.heap.size + 1, 0, none⟩) (Nat.le_succ _) _

set_option maxHeartbeats 1600000 in
theorem readTextU_no (s : ByteArray) (w : World) (hs : s.size ≤ 65536) (hd : duB s = false) (hE : ErrW w) :
    Calls Tryd.prog 28 #[.string s, .func (.func 29) #[] #[]] w fun e w' => e = .returned (.tuple #[uV up0, .int .i64 3]) ∧ Below w.heap.size w w' := by
  have hmf : ∀ (fn : Fn) (first cap : Array Value) (w : World), (Instr.makeFunc fn first cap).run Tryd.prog w = .ok (.func fn first cap) w := fun _ _ _ _ => rfl
  have HD := hide hd
  have HE := hide (hE.below (Joins.below_alloc2 w (.cells #[.int .i64 0, .string ⟨#[]⟩] 28) (.cells #[.int .i64 0] 3)))
  clear hd hE
  go_enter_defers Tryd.func28, Tryd.ntmps28
  go_wp2_with fail
  refine (readUpdate_no s _ hs (unhide HD) (unhide HE)).mono ?_
  rintro e w1 ⟨⟨u, pv, rfl⟩, hb1⟩
  obtain ⟨hv, hblk⟩ := two_newU hb1
  obtain ⟨v0, v1⟩ := hv.cells
  have hc0 := Joins.cell_of_block hblk 0
  have hf0 := Joins.unfrozen_of_block hblk 0
  simp only [List.size_toArray, List.length_cons, List.length_nil, Nat.zero_add, Nat.lt_add_one, getElem?_pos, List.getElem_toArray, List.getElem_cons_zero] at hc0
  have HB := hide (fr (Joins.below_alloc2 w _ _) hb1)
  clear hb1 hblk hv
  go_wp2
  refine leaves_cons (f := 53) (args := #[.pointer (some ⟨w.heap.size + 1, 0, none⟩)]) (by simp) (by simp [go_sem]) ?_
  refine (catchU_panicking ⟨w.heap.size + 1, 0, none⟩ 0 u pv [] _ hc0 hf0).mono ?_
  rintro e u' w'' ⟨rfl, rfl, rfl⟩
  simp [Leaves, settle, results, Tryd.results28, go_sem, v0, v1, hc0, up0]
  exact (unhide HB).setCell (p := ⟨w.heap.size + 1, 0, none⟩) (Nat.le_succ _) _

theorem readTextU_long (s : ByteArray) (w : World) (hs : 65536 < s.size) (f : Value) :
    Calls Tryd.prog 28 #[.string s, f] w fun e w' => e = .returned (.tuple #[uV up0, .int .i64 2]) ∧ Below w.heap.size w w' := by
  go_enter_defers Tryd.func28, Tryd.ntmps28
  go_wp2
  simp [bodyPostD, Leaves, results, Tryd.results28, go_sem, up0]
  exact Joins.below_alloc2 _ _ _

set_option maxHeartbeats 1600000 in
theorem decodeUpdate_impl (t : ByteArray) (w : World) (hE : ErrW w) : Calls Tryd.prog 10 #[.string t] w fun e w' => e = .returned (.tuple #[uV (dkU t), .int .i64 (dkC t)]) ∧ Below w.heap.size w w' := by
  have hmf : ∀ (fn : Fn) (first cap : Array Value) (w : World), (Instr.makeFunc fn first cap).run Tryd.prog w = .ok (.func fn first cap) w := fun _ _ _ _ => rfl
  have HA := hide (Joins.below_alloc1 w (.cells #[.int .i64 0, .string ⟨#[]⟩] 28))
  have HE := hide (hE.below (unhide HA))
  have HV := hide (VarU.new w 28 up0)
  clear hE
  have key : ∀ (K1 : Up) (d : Int), (dkU t = K1 ∧ dkC t = d) → (∀ W, ErrW W → Calls Tryd.prog 28 #[.string t, .func (.func 29) #[] #[]] W fun e w' => e = .returned (.tuple #[uV K1, .int .i64 d]) ∧ Below W.heap.size W w') →
      Calls Tryd.prog 10 #[.string t] w fun e w' => e = .returned (.tuple #[uV (dkU t), .int .i64 (dkC t)]) ∧ Below w.heap.size w w' := by
    intro K1 d hq hc
    have HQ := hide hq
    have HC := hide hc
    clear hq hc
    go_enter Tryd.func10, Tryd.ntmps10
    go_wp2_with fail
    refine (unhide HC _ (unhide HE)).mono ?_
    rintro e w1 ⟨rfl, hb⟩
    have HV1 := hide ((unhide HV).below hb)
    obtain ⟨hc0, hc1⟩ := (unhide HV1).cells
    obtain ⟨hf0, hf1⟩ := (unhide HV1).free
    have HB := hide (fun u v => below2 (fr (unhide HA) hb) (Nat.le_refl _) 0 1 u v)
    clear hb
    go_wp2
    refine bodyPost_ret (v := .tuple #[uV K1, .int .i64 d]) (by simp [results, Tryd.results10, go_sem, hc0, hc1]) rfl ⟨?_, unhide HB _ _⟩
    exact ret_ui (unhide HQ).1.symm (unhide HQ).2.symm
  by_cases h1 : 65536 < t.size
  · exact key _ _ (dk_long h1) (fun W _ => readTextU_long t W h1 _)
  · by_cases hd : duB t = true
    · exact key _ _ (dk_yes h1 hd) (fun W _ => readTextU_yes t W (by omega) hd)
    · rw [Bool.not_eq_true] at hd
      exact key _ _ (dk_no h1 hd) (fun W hW => readTextU_no t W (by omega) hd hW)

end Go.Proofs.YtboolfckaagfoabDoor

/- What stays beside a source of choices; contract of spec.l00Source. -/
namespace Go.Proofs.YtboolfckaagfoabDoor
open Go.RowKit
set_option linter.unusedVariables false
set_option maxRecDepth 100000

theorem keep_cell {S : Nat → Prop} {w w' : World} {a : Addr} {v : Value} (hk : Keep S w w') (ha : ¬ S a.block) (h : w.cell? a = some v) : w'.cell? a = some v := by
  have hl := World.block_lt_of_cell? _ _ h
  rw [← h]
  unfold World.cell?
  simp only [hk.block a.block hl ha]
theorem keep_new {w w1 w2 : World} {b : Nat} {S : Nat → Prop} (h : Keep (fun k => k = b) w w1) (hk : Keep S w1 w2) (hs : ∀ k, S k → w.heap.size ≤ k ∨ k = b) : Keep (fun k => k = b) w w2 :=
  ⟨hk.os.trans h.os, hk.tape.trans h.tape, hk.output.trans h.output, Nat.le_trans h.size hk.size, fun k hl hn => (hk.block k (Nat.lt_of_lt_of_le hl h.size) (fun hS => by
    rcases hs k hS with h1 | h1
    · omega
    · exact hn h1)).trans (h.block k hl hn)⟩
theorem SrcK.other {w w1 w2 : World} {b : Nat} {ao : Option Addr} {n cap m m0 : Nat} {S : Nat → Prop} (h0 : SrcK w b ao n cap m0) (h : SrcK w1 b ao n cap m) (hw : Keep (fun k => k = b) w w2) (hk : Keep S w1 w2) (hs : ¬ S b) : SrcK w2 b ao n cap m := by
  obtain ⟨x0, y0, _, _, _, _, hblk0⟩ := h0.src
  obtain ⟨x, y, c0, c1, c2, c3, c4⟩ := h.src
  refine ⟨⟨x, y, c0, c1, c2, c3, ?_⟩, h0.bytes.keep hblk0 (fun z h => by cases h) hw⟩
  rw [hk.block b (Array.getElem?_eq_some_iff.1 c4).1 hs]; exact c4

theorem source_any (ao : Option Addr) (n cap : Nat) (w : World) (hn : n ≤ 1048576) (hB : Bs w ao n) :
    Calls Tryd.prog 22 #[.slice ao n cap] w fun e w' => e = .returned (.pointer (some ⟨w.heap.size, 0, none⟩)) ∧ SrcK w' w.heap.size ao n cap 0 ∧ Below w.heap.size w w' ∧ w'.heap.size = w.heap.size + 1 := by
  go_enter Tryd.func22, Tryd.ntmps22
  go_wp2
  go_ret
  exact ⟨rfl, ⟨⟨0, (n : Int) % 1000, by omega, by omega, by omega, by omega, heap_alloc_new w _⟩, hB.below (Joins.below_alloc1 _ _)⟩, Joins.below_alloc1 _ _, by simp⟩

theorem keep_drop {w w' : World} {b : Nat} (h : Keep (fun k => k = b ∨ w.heap.size ≤ k) w w') : Keep (fun k => k = b) w w' :=
  ⟨h.os, h.tape, h.output, h.size, fun k hl hn => h.block k hl (fun e => by
    rcases e with e | e
    · exact hn e
    · omega)⟩
theorem blk_keep {S : Nat → Prop} {w w' : World} {k : Nat} {o : Obj} (hk : Keep S w w') (hs : ¬ S k) (h : w.heap[k]? = some o) : w'.heap[k]? = some o := by
  rw [hk.block k (Array.getElem?_eq_some_iff.1 h).1 hs]; exact h
theorem blk_below {w w' : World} {k : Nat} {o : Obj} (hk : Below w.heap.size w w') (h : w.heap[k]? = some o) : w'.heap[k]? = some o := by
  rw [hk.block k (Array.getElem?_eq_some_iff.1 h).1]; exact h
theorem blk_lt {w : World} {k : Nat} {o : Obj} (h : w.heap[k]? = some o) : k < w.heap.size := (Array.getElem?_eq_some_iff.1 h).1

end Go.Proofs.YtboolfckaagfoabDoor

/- Contracts of the model's drawn texts: some, TextOf. -/
namespace Go.Proofs.YtboolfckaagfoabDoor
open Go.RowKit
set_option linter.unusedVariables false
set_option maxRecDepth 100000

theorem infoU : (Tryd.prog.info? 5).map (fun i => (i.zero, i.size, i.bytes)) = some (some (.int .u8 0), 1, 1) := by kernel_rfl
theorem keep_newT {w w1 w2 : World} {b : Nat} {S : Nat → Prop} (h : Keep (fun k => k = b) w w1) (hk : Keep S w1 w2) (hs : ∀ k, S k → w.heap.size ≤ k ∨ k = b) : Keep (fun k => k = b) w w2 :=
  ⟨hk.os.trans h.os, hk.tape.trans h.tape, hk.output.trans h.output, Nat.le_trans h.size hk.size, fun k hl hn => (hk.block k (Nat.lt_of_lt_of_le hl h.size) (fun hS => by
    rcases hs k hS with h1 | h1
    · omega
    · exact hn h1)).trans (h.block k hl hn)⟩
theorem SrcK.otherT {w w1 w2 : World} {b : Nat} {ao : Option Addr} {n cap m m0 : Nat} {S : Nat → Prop} (h0 : SrcK w b ao n cap m0) (h : SrcK w1 b ao n cap m) (hw : Keep (fun k => k = b) w w2) (hk : Keep S w1 w2) (hs : ¬ S b) : SrcK w2 b ao n cap m := by
  obtain ⟨x0, y0, _, _, _, _, hblk0⟩ := h0.src
  obtain ⟨x, y, c0, c1, c2, c3, c4⟩ := h.src
  refine ⟨⟨x, y, c0, c1, c2, c3, ?_⟩, h0.bytes.keep hblk0 (fun z h => by cases h) hw⟩
  rw [hk.block b (Array.getElem?_eq_some_iff.1 c4).1 hs]; exact c4

set_option maxHeartbeats 3200000 in
theorem some_k (b : Nat) (ao : Option Addr) (n cap m k : Nat) (w : World) (hk : k ≤ 100) (hm : m ≤ 700000) (hn : n ≤ 1048576) (hs : SrcK w b ao n cap m) :
    Calls Tryd.prog 78 #[.pointer (some ⟨b, 0, none⟩), .int .i64 k] w fun e w' => ∃ t : ByteArray, e = .returned (.string t) ∧ t.size = k ∧ SrcK w' b ao n cap (m + 3 * k) ∧ Keep (fun j => j = b) w w' := by
  have hbl := hs.lt
  have HS0 := hide hs
  clear hs
  obtain ⟨j0, hj, hy0, hy1, hy2⟩ := info_parts infoU
  have HSA := hide ((unhide HS0).below (Joins.below_alloc1 w (.cells #[] 5)))
  have HKA : Hid (Keep (fun j => j = b) w (w.alloc (.cells #[] 5))) := hide (Keep.of_below (Joins.below_alloc1 _ _))
  go_enter Tryd.func78, Tryd.ntmps78
  go_wp2
  go_loopw [5, 6] (fun o i wr => ∃ (j : Nat) (ns : List Int) (qo : Option Addr) (qa : Nat), j ≤ k ∧ ns.length = j ∧ i = .int .i64 j ∧ o = .slice qo j qa ∧ Hid (OwnR wr w.heap.size 5 1 (.slice qo j qa) j (byteV ns)) ∧ Hid (Keep (fun x => x = b) w wr) ∧ Hid (SrcK wr b ao n cap (m + 3 * j))) (fun _ i _ => k - (intOf i).toNat)
  case atStart => exact ⟨0, [], _, _, Nat.zero_le _, rfl, rfl, rfl, hide (.inl ⟨rfl, rfl, _, rfl⟩), HKA, HSA⟩
  case round =>
    obtain ⟨j, ns, qo, qa, hjk, hns, rfl, rfl, HO, HK, HS⟩ := hrel
    by_cases hlt : j < k
    · go_wp2_with fail
      refine (next_k b ao n cap _ 26 _ (by omega) (by omega) (by omega) hn (unhide HS)).mono ?_
      rintro e w2 ⟨r, rfl, hr0, hr1, hs2, hk2⟩
      have HO2 := hide ((unhide HO).keep hk2 (fun g hg e => by have := ((unhide HO).ge g hg).1; omega))
      have HK2 := hide ((unhide HK).trans hk2)
      have HS2 := hide hs2
      clear hs2 hk2
      have HOA := hide ((unhide HO2).below (Joins.below_alloc1 _ (.cells #[.int .u8 (97 + r)] 5)))
      have HKB := hide ((unhide HK2).trans (Keep.of_below (Joins.below_alloc1 _ (.cells #[.int .u8 (97 + r)] 5))))
      have HSB := hide ((unhide HS2).below (Joins.below_alloc1 _ (.cells #[.int .u8 (97 + r)] 5)))
      have HSZ := hide (unhide HK2).size
      go_wp2_with (at_builtin; refine wpList_append_one rfl _ _ 22 rfl w.heap.size 5 j0 (.int .u8 0) 1 1 Tryd.underlying22 hj hy0 hy1 hy2 rfl (by omega) qo j qa (byteV ns) rfl (unhide HOA) (by have := unhide HSZ; simp; omega) ⟨w2.heap.size, 0, none⟩ _ [.int .u8 (97 + r)] rfl rfl (byte_news w2 _ _) (byte_one _) (by unfold maxLen; omega) (by omega) ?_; intro g2 cap2 wA hoA hkA; have HSF := hide (And.intro hoA (keep_newT (unhide HKB) hkA (fun k hk => .inl ((unhide HOA).ge k hk).1))); have HSC := hide ((unhide HS0).otherT (unhide HSB) (unhide HSF).2 hkA (fun hk => by have := ((unhide HOA).ge _ hk).1; omega)); clear hoA hkA)
      go_roundw
      case rel => exact ⟨j + 1, ns ++ [97 + r], some ⟨g2, 0, none⟩, cap2, by omega, by simp [hns], by go_num, rfl, hide (.inr ⟨by omega, by rw [byteV_snoc]; exact (unhide HSF).1⟩), hide (unhide HSF).2, hide ((unhide HSC).more (by omega))⟩
      case measure => simp [intOf]; omega
    · have hcv := convert_own (P := Tryd.prog) Tryd.underlying22 Tryd.underlying5 Tryd.underlying9 (unhide HO)
      have HJK : Hid (j = k) := hide (by omega)
      have hlt' : ¬ (j : Int) < (k : Int) := by omega
      go_wp2
      go_ret
      exact ⟨strOfNums ns, rfl, by rw [strOfNums_size, hns]; exact unhide HJK, (unhide HS).more (by omega), unhide HK⟩

end Go.Proofs.YtboolfckaagfoabDoor

/- Contracts of the program's code of a place. -/
namespace Go.Proofs.YtboolfckaagfoabDoor
open Go.RowKit
set_option linter.unusedVariables false
set_option maxRecDepth 100000

set_option maxHeartbeats 1600000 in
theorem placeFault_any (ao bo : Option Addr) (ca cb : Nat) (ss : List ByteArray) (xs : List Wr) (h a : Int) (w : World) (hl : ss.length ≤ maxLen) (hm : xs.length ≤ maxLen) (h1 : Ss w ao ss) (h2 : Ios w bo xs) :
    Calls Tryd.prog 91 #[.agg #[.slice ao ss.length ca, .slice bo xs.length cb], .int .i64 h, .int .i64 a] w fun e w' => e = .returned (.int .i64 (askC ss xs h a)) ∧ Below w.heap.size w w' := by
  have HA := hide (Joins.below_alloc1 w (.cells #[.slice ao ss.length ca, .slice bo xs.length cb] 41))
  have H1 := hide (h1.below (unhide HA))
  have H2 := hide (h2.below (unhide HA))
  have HL := hide hl
  have HM := hide hm
  clear h1 h2 hl hm
  by_cases hc : hostC ss xs h = 0
  · have hb : (hostC ss xs h != 0) = false := by simp [hc]
    cases hh : inB a 0 63
    · have H := hide (askC_place hc hh)
      clear hc
      go_enter Tryd.func91, Tryd.ntmps91
      go_wp2_with fail
      refine (hostFault_any _ _ _ _ ss xs h _ (unhide HL) (unhide HM) (unhide H1) (unhide H2)).mono ?_
      rintro e w1 ⟨rfl, hb⟩
      have HB := hide (fr (unhide HA) hb)
      clear hb
      go_wp2_with (go_at_call 90; refine (placeOK_any _ _).mono ?_; rintro e w' ⟨rfl, rfl⟩)
      go_ret
      exact ⟨ret_int (unhide H).symm, unhide HB⟩
    · have H := hide (askC_ok hc hh)
      clear hc
      go_enter Tryd.func91, Tryd.ntmps91
      go_wp2_with fail
      refine (hostFault_any _ _ _ _ ss xs h _ (unhide HL) (unhide HM) (unhide H1) (unhide H2)).mono ?_
      rintro e w1 ⟨rfl, hb⟩
      have HB := hide (fr (unhide HA) hb)
      clear hb
      go_wp2_with (go_at_call 90; refine (placeOK_any _ _).mono ?_; rintro e w' ⟨rfl, rfl⟩)
      go_ret
      exact ⟨ret_int (unhide H).symm, unhide HB⟩
  · have H := hide (askC_host (a := a) hc)
    have hb : (hostC ss xs h != 0) = true := by simp [hc]
    clear hc
    go_enter Tryd.func91, Tryd.ntmps91
    go_wp2_with fail
    refine (hostFault_any _ _ _ _ ss xs h _ (unhide HL) (unhide HM) (unhide H1) (unhide H2)).mono ?_
    rintro e w1 ⟨rfl, hb⟩
    have HB := hide (fr (unhide HA) hb)
    clear hb
    go_wp2
    go_ret
    exact ⟨ret_int (unhide H).symm, unhide HB⟩

end Go.Proofs.YtboolfckaagfoabDoor

/- Contracts of impl.seenBy, impl.ReadSector. -/
namespace Go.Proofs.YtboolfckaagfoabDoor
open Go.RowKit
set_option linter.unusedVariables false
set_option maxRecDepth 100000

theorem ret_rs {a b : ByteArray} (h : a = b) : Ending.returned (.string a) = .returned (.string b) := by rw [h]
theorem ret_rd {a b : ByteArray} {c d : Int} (h : a = b) (k : c = d) : Ending.returned (.tuple #[.string a, .int .i64 c]) = .returned (.tuple #[.string b, .int .i64 d]) := by rw [h, k]
theorem no_succ {xs : List Wr} {h a : Int} {k : Nat} (hk : k < xs.length) (hn : ∀ j (hj : j < xs.length), (k : Int) < j → ¬ mat xs[j] h a) (hx : ¬ mat xs[k] h a) : ∀ j (hj : j < xs.length), (k : Int) - 1 < j → ¬ mat xs[j] h a := by
  intro j hj hlt
  by_cases e : j = k
  · subst e; exact hx
  · exact hn j hj (by omega)

set_option maxHeartbeats 1600000 in
theorem seenBy_any (ao bo : Option Addr) (ca cb : Nat) (ss : List ByteArray) (xs : List Wr) (h : Int) (n : Nat) (w : World) (hlx : xs.length ≤ 200) (hn : n < ss.length) (hq : ss.length ≤ 1048576) (h1 : Ss w ao ss) (h2 : Ios w bo xs) :
    Calls Tryd.prog 71 #[.agg #[.slice ao ss.length ca, .slice bo xs.length cb], .int .i64 h, .int .i64 n] w fun e w' => e = .returned (.string (readV ss xs h n)) ∧ Below w.heap.size w w' := by
  have HA := hide (Joins.below_alloc1 w (.cells #[.slice ao ss.length ca, .slice bo xs.length cb] 41))
  have H1' := hide (h1.below (unhide HA))
  have H2' := hide (h2.below (unhide HA))
  have hc0 : (w.alloc (.cells #[.slice ao ss.length ca, .slice bo xs.length cb] 41)).cell? ⟨w.heap.size, 0, none⟩ = some (.slice ao ss.length ca) := by simp [go_sem]
  have hc1 : (w.alloc (.cells #[.slice ao ss.length ca, .slice bo xs.length cb] 41)).cell? ⟨w.heap.size, 1, none⟩ = some (.slice bo xs.length cb) := by simp [go_sem]
  have HC0 := hide hc0
  have HC1 := hide hc1
  have hlt : w.heap.size < (w.alloc (.cells #[.slice ao ss.length ca, .slice bo xs.length cb] 41)).heap.size := by simp
  clear h1 h2 hc0 hc1
  go_enter Tryd.func71, Tryd.ntmps71
  go_wp2
  revert HA H1' H2' HC0 HC1 hlt
  generalize w.alloc (.cells #[.slice ao ss.length ca, .slice bo xs.length cb] 41) = w1
  intro HA H1' H2' HC0 HC1 hlt
  go_loopw [7, 8] (fun i _ wr => ∃ m : Int, i = .int .i64 m ∧ -1 ≤ m ∧ m < xs.length ∧ Hid (∀ j (hj : j < xs.length), m < j → ¬ mat xs[j] h n) ∧ Hid (Below w1.heap.size w1 wr)) (fun i _ _ => (intOf i + 1).toNat)
  case atStart => exact ⟨_, rfl, by omega, by omega, hide (fun j hj hlt => by omega), hide (Below.refl _ _)⟩
  case round =>
    obtain ⟨m, rfl, hm0, hm1, HN, HB⟩ := hrel
    have hc0 : wr.cell? ⟨w.heap.size, 0, none⟩ = some (.slice ao ss.length ca) := ((unhide HB).cell (World.block_lt_of_cell? _ _ (unhide HC0))).trans (unhide HC0)
    have hc1 : wr.cell? ⟨w.heap.size, 1, none⟩ = some (.slice bo xs.length cb) := ((unhide HB).cell (World.block_lt_of_cell? _ _ (unhide HC1))).trans (unhide HC1)
    by_cases hge : 0 ≤ m
    · obtain ⟨k, rfl⟩ := Int.eq_ofNat_of_zero_le hge
      have hk : k < xs.length := by omega
      obtain ⟨b, off, rfl, hd0, hd1, hd2, hz⟩ := (unhide H2').below (unhide HB) k hk
      clear hz
      have HBA := hide (fun o => (unhide HB).alloc (unhide HB).size o)
      by_cases e0 : xs[k].host = h
      · have b0 : (xs[k].host == h) = true := by simp [e0]
        by_cases e1 : xs[k].at_ = n
        · have b1 : (xs[k].at_ == (n : Int)) = true := by simp [e1]
          have H := hide (readV_hit (ss := ss) hk ⟨e0, e1⟩ (fun j hj hlt => unhide HN j hj (by omega)))
          clear e0 e1
          go_wp2
          go_ret
          exact ⟨ret_rs (unhide H).symm, fr (unhide HA) (unhide HBA _)⟩
        · have b1 : (xs[k].at_ == (n : Int)) = false := by simp [e1]
          have HX := hide (no_succ hk (unhide HN) (fun hx => e1 hx.2))
          clear e0 e1
          go_wp2
          go_roundw
          case rel => exact ⟨_, rfl, by omega, by omega, HX, hide (unhide HBA _)⟩
          case measure => simp [intOf]
      · have b0 : (xs[k].host == h) = false := by simp [e0]
        have HX := hide (no_succ hk (unhide HN) (fun hx => e0 hx.1))
        clear e0
        go_wp2
        go_roundw
        case rel => exact ⟨_, rfl, by omega, by omega, HX, hide (unhide HBA _)⟩
        case measure => simp [intOf]
    · obtain ⟨b, off, rfl, hc, hz⟩ := (unhide H1').below (unhide HB) n hn
      clear hz
      have hg : ss.getD ((n : Int).toNat) ⟨#[]⟩ = ss[n] := by simp [List.getD, hn]
      have H := hide ((readV_none (ss := ss) (fun j hj => unhide HN j hj (by omega))).trans hg)
      clear hg
      go_wp2
      go_ret
      exact ⟨ret_rs (unhide H).symm, fr (unhide HA) (unhide HB)⟩

end Go.Proofs.YtboolfckaagfoabDoor

/- Contracts of ReadSector, of the program and of its model. -/
namespace Go.Proofs.YtboolfckaagfoabDoor
open Go.RowKit
set_option linter.unusedVariables false
set_option maxRecDepth 100000

set_option maxHeartbeats 1600000 in
theorem l01Read_any (ao bo : Option Addr) (ca cb : Nat) (ss : List ByteArray) (xs : List Wr) (h : Int) (a : Nat) (w : World) (ha : a < ss.length) (hs : ss.length ≤ 1048576) (hm : xs.length ≤ maxLen) (h1 : Ss w ao ss) (h2 : Ios w bo xs) :
    Calls Tryd.prog 94 #[.agg #[.slice ao ss.length ca, .slice bo xs.length cb], .int .i64 h, .int .i64 a] w fun e w' => e = .returned (.string (readV ss xs h a)) ∧ Below w.heap.size w w' := by
  have HA := hide (Joins.below_alloc1 w (.cells #[.slice ao ss.length ca, .slice bo xs.length cb] 41))
  have H1 := hide (h1.below (unhide HA))
  have H2 := hide (h2.below (unhide HA))
  clear h1 h2
  unfold maxLen at hm
  go_enter Tryd.func94, Tryd.ntmps94
  go_wp2
  go_loop [7] (fun i => ∃ m : Int, i = .int .i64 m ∧ -1 ≤ m ∧ m < xs.length ∧ Hid (∀ j (hj : j < xs.length), m < j → ¬ mat xs[j] h a)) (fun i => (intOf i + 1).toNat)
  case atStart => exact ⟨_, rfl, by omega, by omega, hide (fun j hj hlt => by omega)⟩
  case round =>
    obtain ⟨m, rfl, hm0, hm1, HN⟩ := hrel
    by_cases hge : 0 ≤ m
    · obtain ⟨k, rfl⟩ := Int.eq_ofNat_of_zero_le hge
      have hk : k < xs.length := by omega
      obtain ⟨b, off, rfl, hc0, hc1, hc2, hz⟩ := unhide H2 k hk
      clear hz
      by_cases e0 : xs[k].host = h
      · have b0 : (xs[k].host == h) = true := by simp [e0]
        by_cases e1 : xs[k].at_ = a
        · have b1 : (xs[k].at_ == (a : Int)) = true := by simp [e1]
          have H := hide (readV_hit (ss := ss) hk ⟨e0, e1⟩ (fun j hj hlt => unhide HN j hj (by omega)))
          clear e0 e1
          go_wp2
          go_ret
          exact ⟨ret_rs (unhide H).symm, unhide HA⟩
        · have b1 : (xs[k].at_ == (a : Int)) = false := by simp [e1]
          have HX := hide (no_succ hk (unhide HN) (fun hx => e1 hx.2))
          clear e0 e1
          go_wp2
          go_round
          case rel => exact ⟨_, rfl, by omega, by omega, HX⟩
          case measure => simp [intOf]
      · have b0 : (xs[k].host == h) = false := by simp [e0]
        have HX := hide (no_succ hk (unhide HN) (fun hx => e0 hx.1))
        clear e0
        go_wp2
        go_round
        case rel => exact ⟨_, rfl, by omega, by omega, HX⟩
        case measure => simp [intOf]
    · obtain ⟨b, off, rfl, hc, hz⟩ := unhide H1 a ha
      clear hz
      have hg : ss.getD ((a : Int).toNat) ⟨#[]⟩ = ss[a] := by simp [List.getD, ha]
      have H := hide ((readV_none (ss := ss) (fun j hj => unhide HN j hj (by omega))).trans hg)
      clear hg
      go_wp2
      go_ret
      exact ⟨ret_rs (unhide H).symm, unhide HA⟩

end Go.Proofs.YtboolfckaagfoabDoor

/- Contract of spec.l01Write: the disk with one write more, whose row of writes is new. -/
namespace Go.Proofs.YtboolfckaagfoabDoor
open Go.RowKit
set_option linter.unusedVariables false

theorem write_end {w wL : World} {g k cap : Nat} {cs : List Value} (ho : wL.ownsRow (w.heap.size + 1 + 1 + 1) 95 3 (.slice (some ⟨g, 0, none⟩) k cap) k cs) (hb : Below w.heap.size w wL) (a b c : Value) :
    (((wL.setCell ⟨w.heap.size, 1, none⟩ a).setCell ⟨w.heap.size + 1 + 1, 0, none⟩ b).setCell ⟨w.heap.size + 1 + 1, 1, none⟩ c).ownsRow w.heap.size 95 3 (.slice (some ⟨g, 0, none⟩) k cap) k cs ∧ Below w.heap.size w (((wL.setCell ⟨w.heap.size, 1, none⟩ a).setCell ⟨w.heap.size + 1 + 1, 0, none⟩ b).setCell ⟨w.heap.size + 1 + 1, 1, none⟩ c) :=
  ⟨own_base (ownsRow_setCell_below (ownsRow_setCell_below (ownsRow_setCell_below ho (a := ⟨w.heap.size, 1, none⟩) (by simp; omega) a) (a := ⟨w.heap.size + 1 + 1, 0, none⟩) (by simp) b) (a := ⟨w.heap.size + 1 + 1, 1, none⟩) (by simp) c) (by omega),
    ((hb.setCell (p := ⟨w.heap.size, 1, none⟩) (by simp) a).setCell (p := ⟨w.heap.size + 1 + 1, 0, none⟩) (by simp; omega) b).setCell (p := ⟨w.heap.size + 1 + 1, 1, none⟩) (by simp; omega) c⟩


end Go.Proofs.YtboolfckaagfoabDoor

/- What WriteSector answers. -/
namespace Go.Proofs.YtboolfckaagfoabDoor
open Go.RowKit
set_option linter.unusedVariables false

/-- What WriteSector answers. -/
def wrC (ss : List ByteArray) (xs : List Wr) (h a : Int) (d : ByteArray) : Int := if 65536 < d.size then 2 else if askC ss xs h a = 0 then (if 80 < d.size then 4 else if xs.length = 200 then 7 else 0) else askC ss xs h a
def wrS (ss : List ByteArray) (xs : List Wr) (h a : Int) (d : ByteArray) : List ByteArray := if 65536 < d.size then [] else if askC ss xs h a = 0 then ss else []
def wrX (ss : List ByteArray) (xs : List Wr) (h a : Int) (d : ByteArray) : List Wr := if 65536 < d.size then [] else if askC ss xs h a = 0 then (if 80 < d.size then xs else if xs.length = 200 then xs else xs ++ [⟨h, a, d⟩]) else []
theorem wr_long {ss : List ByteArray} {xs : List Wr} {h a : Int} {d : ByteArray} (h1 : 65536 < d.size) : wrS ss xs h a d = [] ∧ wrX ss xs h a d = [] ∧ wrC ss xs h a d = 2 := by simp [wrS, wrX, wrC, h1]
theorem wr_ask {ss : List ByteArray} {xs : List Wr} {h a : Int} {d : ByteArray} (h1 : ¬ 65536 < d.size) (h2 : askC ss xs h a ≠ 0) : wrS ss xs h a d = [] ∧ wrX ss xs h a d = [] ∧ wrC ss xs h a d = askC ss xs h a := by simp [wrS, wrX, wrC, h1, h2]
theorem wr_range {ss : List ByteArray} {xs : List Wr} {h a : Int} {d : ByteArray} (h1 : ¬ 65536 < d.size) (h2 : askC ss xs h a = 0) (h3 : 80 < d.size) : wrS ss xs h a d = ss ∧ wrX ss xs h a d = xs ∧ wrC ss xs h a d = 4 := by simp [wrS, wrX, wrC, h1, h2, h3]
theorem wr_full {ss : List ByteArray} {xs : List Wr} {h a : Int} {d : ByteArray} (h1 : ¬ 65536 < d.size) (h2 : askC ss xs h a = 0) (h3 : ¬ 80 < d.size) (h4 : xs.length = 200) : wrS ss xs h a d = ss ∧ wrX ss xs h a d = xs ∧ wrC ss xs h a d = 7 := by simp [wrS, wrX, wrC, h1, h2, h3, h4]
theorem wr_ok {ss : List ByteArray} {xs : List Wr} {h a : Int} {d : ByteArray} (h1 : ¬ 65536 < d.size) (h2 : askC ss xs h a = 0) (h3 : ¬ 80 < d.size) (h4 : ¬ xs.length = 200) : wrS ss xs h a d = ss ∧ wrX ss xs h a d = xs ++ [⟨h, a, d⟩] ∧ wrC ss xs h a d = 0 := by simp [wrS, wrX, wrC, h1, h2, h3, h4]
theorem wr_sizes {xs : List Wr} {h a : Int} {d : ByteArray} (hx : ∀ x ∈ xs, x.data.size ≤ maxLen) (hd : d.size ≤ 2 ^ 63 - 1) : ∀ x ∈ xs ++ [(⟨h, a, d⟩ : Wr)], x.data.size ≤ maxLen := by
  intro x hxm
  rcases List.mem_append.1 hxm with h1 | h1
  · exact hx x h1
  · simp at h1; subst h1; exact hd
end Go.Proofs.YtboolfckaagfoabDoor

/- Contracts of spec's generations on a disk: l04Read, l04Room, l04Put. -/
namespace Go.Proofs.YtboolfckaagfoabDoor
open Go.RowKit
set_option linter.unusedVariables false
set_option maxRecDepth 100000

theorem ret_dd {a b c a' b' c' : Int} (h1 : a = a') (h2 : b = b') (h3 : c = c') : Ending.returned (dltV a b c) = .returned (dltV a' b' c') := by rw [h1, h2, h3]

/-- What l04Room answers. -/
def roomC (ss : List ByteArray) (xs : List Wr) (h now : Int) : Int := if hostC ss xs h = 0 then (if inB now 0 10000000 = true then (if xs.length = 200 then 7 else 0) else 4) else hostC ss xs h
theorem room_ask {ss : List ByteArray} {xs : List Wr} {h now : Int} (e : hostC ss xs h ≠ 0) : roomC ss xs h now = hostC ss xs h := if_neg e
theorem room_now {ss : List ByteArray} {xs : List Wr} {h now : Int} (e : hostC ss xs h = 0) (e1 : inB now 0 10000000 = false) : roomC ss xs h now = 4 := by simp [roomC, e, e1]
theorem room_full {ss : List ByteArray} {xs : List Wr} {h now : Int} (e : hostC ss xs h = 0) (e1 : inB now 0 10000000 = true) (e2 : xs.length = 200) : roomC ss xs h now = 7 := by simp [roomC, e, e1, e2]
theorem room_ok {ss : List ByteArray} {xs : List Wr} {h now : Int} (e : hostC ss xs h = 0) (e1 : inB now 0 10000000 = true) (e2 : ¬ xs.length = 200) : roomC ss xs h now = 0 := by simp [roomC, e, e1, e2]
theorem room_eq {ss : List ByteArray} {xs : List Wr} {h now : Int} (e : roomC ss xs h now = 0) : hostC ss xs h = 0 ∧ (0 ≤ now ∧ now ≤ 10000000) ∧ xs.length < 200 := by
  by_cases e0 : hostC ss xs h = 0
  · by_cases e1 : inB now 0 10000000 = true
    · by_cases e2 : xs.length = 200
      · rw [room_full e0 e1 e2] at e; cases e
      · have := (diskB_len (hostC_eq e0).1).2
        refine ⟨e0, by simpa [inB] using e1, by omega⟩
    · rw [Bool.not_eq_true] at e1
      rw [room_now e0 e1] at e; cases e
  · rw [room_ask e0] at e; exact absurd e e0
theorem ret_i {a b : Int} (h : a = b) : Ending.returned (.int .i64 a) = .returned (.int .i64 b) := by rw [h]

/-- The disk behind a write of a generation that is sure. -/
def dwr (h g s : Int) : Wr := ⟨h, 5 + h, encD h g s⟩
def pS (ss : List ByteArray) (xs : List Wr) (h g s : Int) : List ByteArray := putW ss (ofH h (xs ++ [dwr h g s]))
def pX (xs : List Wr) (h g s : Int) : List Wr := dropF h (xs ++ [dwr h g s])
theorem dwr_io {h g s : Int} (h0 : 0 ≤ h) (h3 : h ≤ 3) : ioB (dwr h g s) = true := ioB_parts.2 ⟨⟨h0, h3⟩, ⟨by show 0 ≤ 5 + h; omega, by show 5 + h ≤ 63; omega⟩, by show (encD h g s).size ≤ 80; rw [encD_size]; decide⟩
theorem put_right {ss : List ByteArray} {xs : List Wr} {h g s : Int} (hd : diskB ss xs = true) (hl : xs.length < 200) (h0 : 0 ≤ h) (h3 : h ≤ 3) : diskB ss (xs ++ [dwr h g s]) = true := diskB_snoc hd hl (dwr_io h0 h3)
theorem put_land {ss : List ByteArray} {xs : List Wr} {h : Int} (hl : xs.length ≤ 200) : (landF h false ss xs 200).1 = putW ss (ofH h xs) ∧ (landF h false ss xs 200).2.1 = dropF h xs := by
  have hc : (ofH h xs).length ≤ 200 := Nat.le_trans (List.length_filter_le _ _) hl
  obtain ⟨p1, p2⟩ := landF_put h ss xs 200
  have p1' : (landF h false ss xs 200).1 = putW ss ((ofH h xs).take 200) := p1
  have p2' : (landF h false ss xs 200).2.1 = remH h 200 xs := p2
  rw [List.take_of_length_le hc] at p1'
  rw [rem_all 200 xs hc] at p2'
  exact ⟨p1', p2'⟩
theorem pS_right {ss : List ByteArray} {xs : List Wr} {h g s : Int} (hd : diskB ss xs = true) (hl : xs.length < 200) (h0 : 0 ≤ h) (h3 : h ≤ 3) : diskB (pS ss xs h g s) (pX xs h g s) = true :=
  diskB_put (put_right (g := g) (s := s) hd hl h0 h3) (fun x hx => of_mem hx) (fun x hx => drop_mem hx) (drop_le h _)
theorem pS_len (ss : List ByteArray) (xs : List Wr) (h g s : Int) : (pS ss xs h g s).length = ss.length := put_len _ _

theorem rightX {ss : List ByteArray} {xs : List Wr} (hd : diskB ss xs = true) : ∀ x ∈ xs, x.data.size ≤ maxLen := fun x hx => Nat.le_trans (ioB_parts.1 ((diskB_parts.1 hd).2.2 x hx)).2.2 (by decide)
end Go.Proofs.YtboolfckaagfoabDoor
