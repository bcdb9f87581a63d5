import Derived.Test.YtjmianalknnekabDoorRows
import Derived.Test.YtjmianalknnekabDoorPart1
import Derived.Test.YtjmianalknnekabDoorPart5
import Derived.Test.YtjmianalknnekabDoorPart3
import Derived.Test.YtjmianalknnekabDoorPart12
import Derived.Test.YtjmianalknnekabDoorPart4
import Derived.Test.YtjmianalknnekabDoorPart7
import Derived.WalkKit
import Derived.WalkSpells
import Derived.KernelRfl
import Derived.LoopN
import Derived.Defers
import Derived.Lib.SmallJoins
import Derived.Deep.RegionWith
import Derived.Deep.RegionHeld3
import Derived.Deep.RegionLawGrows
import Derived.Test.YtjmianalknnekabDoorPart2

/- Contracts of the program's plans: flush, addSure, planOf, head, changes, toApply. -/
namespace Go.Proofs.YtjmianalknnekabDoor
open Go.RowKit
set_option linter.unusedVariables false
set_option maxRecDepth 100000

theorem infoMx : (Tryd.prog.info? 71).map (fun i => (i.zero, i.size, i.bytes)) = some (some (.agg #[.int .i64 0, .int .i64 0, .string ⟨#[]⟩]), 3, 32) := by kernel_rfl
/-- A plan in a variable. -/
def VarPl (w : World) (x : Nat) (v : Value) : Prop := w.heap[x]? = some (.cells #[v] 117 (0, 0))
theorem VarPl.lt {w : World} {x : Nat} {v : Value} (h : VarPl w x v) : x < w.heap.size := (Array.getElem?_eq_some_iff.1 h).1
theorem VarPl.cell {w : World} {x : Nat} {v : Value} (h : VarPl w x v) : w.cell? ⟨x, 0, none⟩ = some v ∧ w.frozen? ⟨x, 0, none⟩ = false := ⟨by rw [Joins.cell_of_block h]; rfl, Joins.unfrozen_of_block h 0⟩
theorem VarPl.below {w w' : World} {x : Nat} {v : Value} (h : VarPl w x v) (hb : Below w.heap.size w w') : VarPl w' x v := by
  unfold VarPl; rw [hb.block x h.lt]; exact h
theorem VarPl.keep {S : Nat → Prop} {w w' : World} {x : Nat} {v : Value} (h : VarPl w x v) (hk : Keep S w w') (hs : ¬ S x) : VarPl w' x v := by
  unfold VarPl; rw [hk.block x h.lt hs]; exact h
theorem VarPl.new (w : World) (v : Value) : VarPl (w.alloc (.cells #[v] 117)) w.heap.size v := heap_alloc_new w _
theorem VarPl.set {w : World} {x : Nat} {v : Value} (h : VarPl w x v) (u : Value) : VarPl (w.setCell ⟨x, 0, none⟩ u) x u := Joins.block_setCell h u
theorem pl_ne : (117 : Nat) ≠ 71 := by decide
theorem ApS.setX {w W : World} {qo : Option Addr} {n qa x : Nat} {ms : List Wr} {v : Value} (h : ApS w W qo n qa ms) (hx : VarPl W x v) (hle : w.heap.size ≤ x) (u : Value) : ApS w (W.setCell ⟨x, 0, none⟩ u) qo n qa ms :=
  ⟨h.o.keep ((Keep.refl (fun k => k = x) W).setCell (p := ⟨x, 0, none⟩) rfl u) (fun g hg e => h.o.other hx pl_ne (e ▸ hg)), h.k.setCell (p := ⟨x, 0, none⟩) hle u⟩

set_option maxHeartbeats 1600000 in
theorem flush_d (w0 W : World) (x : Nat) (qo : Option Addr) (n qa : Nat) (ms : List Wr) (u : FrameMode) (ha : ApS w0 W qo n qa ms) (hx : VarPl W x (.slice qo n qa)) (hle : w0.heap.size ≤ x) (hn : n ≤ 1000) :
    CallsD Tryd.prog 96 #[.pointer (some ⟨x, 0, none⟩)] u W fun e u' W' => u' = u ∧ e = .returned (.tuple #[]) ∧ ∃ g qa', VarPl W' x (.slice (some ⟨g, 0, none⟩) (n + 1) qa') ∧ ApS w0 W' (some ⟨g, 0, none⟩) (n + 1) qa' (ms ++ [mvF]) := by
  obtain ⟨i0, hi, hz0, hz1, hz2⟩ := info_parts infoMx
  obtain ⟨hc, hf⟩ := hx.cell
  have hxl := hx.lt
  have HX := hide (hx.below (Joins.below_alloc1 W (.cells #[.int .i64 2, .int .i64 0, .string ⟨#[]⟩] 71)))
  have HA := hide (ha.next (Joins.below_alloc1 W (.cells #[.int .i64 2, .int .i64 0, .string ⟨#[]⟩] 71)))
  have HSZ := hide (unhide HA).sz
  clear hx ha
  go_enter_d Tryd.func96, Tryd.ntmps96
  go_wp2_with (at_builtin; refine wpList_append_one rfl _ _ 33 rfl w0.heap.size 71 i0 (.agg #[.int .i64 0, .int .i64 0, .string ⟨#[]⟩]) 3 32 Tryd.underlying33 hi hz0 hz1 hz2 rfl (by omega) qo n qa (ioV ms) rfl (unhide HA).o (unhide HSZ) ⟨W.heap.size, 0, none⟩ _ (wrV mvF) rfl rfl (news3 W mvF _) (wrV_one _) (by unfold maxLen; omega) (by omega) ?_; intro g2 cap2 wA hoA hkA; have HVA := hide ((unhide HX).keep hkA ((unhide HA).o.other (unhide HX) pl_ne)); have HN := hide (ApS.one (unhide HA) hoA hkA); obtain ⟨hcA, hfA⟩ := (unhide HVA).cell; clear hoA hkA)
  go_end0
  exact ⟨rfl, g2, cap2, (unhide HVA).set _, (unhide HN).setX (unhide HVA) hle _⟩

set_option maxHeartbeats 1600000 in
theorem addSure_any (w0 W : World) (x : Nat) (qo : Option Addr) (n qa : Nat) (ms : List Wr) (ao : Option Addr) (cap m : Nat) (ws : List Wr) (ha : ApS w0 W qo n qa ms) (hx : VarPl W x (.slice qo n qa)) (hle : w0.heap.size ≤ x) (hw : Ios W ao ws) (hm : m = ws.length) (hp : 0 < m) (hn : n ≤ 100) (hl : m ≤ 100) :
    Calls Tryd.prog 78 #[.pointer (some ⟨x, 0, none⟩), .slice ao m cap] W fun e W' => e = .returned (.tuple #[]) ∧ ∃ g qa', VarPl W' x (.slice (some ⟨g, 0, none⟩) (n + m + 1) qa') ∧ ApS w0 W' (some ⟨g, 0, none⟩) (n + m + 1) qa' (ms ++ ws ++ [mvF]) := by
  obtain ⟨i0, hi, hz0, hz1, hz2⟩ := info_parts infoMx
  obtain ⟨hc, hf⟩ := hx.cell
  have hxl := hx.lt
  have HX := hide hx
  have HA := hide ha
  have HW := hide (hw.src (by omega))
  have HL : Hid ((ioV ws).length = m * 3) := hide (by rw [ioV_length, hm])
  have HSZ := hide ha.sz
  clear hx ha hw hm
  go_enter_defers Tryd.func78, Tryd.ntmps78
  go_wp2_with (at_builtin; refine wpList_append_many rfl _ _ 33 rfl w0.heap.size 71 i0 (.agg #[.int .i64 0, .int .i64 0, .string ⟨#[]⟩]) 3 32 Tryd.underlying33 hi hz0 hz1 hz2 rfl (by omega) qo n qa (ioV ms) rfl (unhide HA).o (unhide HSZ) ao m cap (ioV ws) rfl hp (unhide HL) (fun _ => unhide HW) (ioV_one _) (by unfold maxLen; omega) (by omega) ?_; intro g2 cap2 wA hoA hkA; have HVA := hide ((unhide HX).keep hkA ((unhide HA).o.other (unhide HX) pl_ne)); have HN := hide (ApS.app (unhide HA) rfl (by omega) hoA hkA); obtain ⟨hcA, hfA⟩ := (unhide HVA).cell; clear hoA hkA)
  refine leaves_cons (f := 96) (args := #[.pointer (some ⟨x, 0, none⟩)]) (by simp) (by simp [go_sem]) ?_
  refine (flush_d w0 _ x (some ⟨g2, 0, none⟩) (n + m) cap2 (ms ++ ws) _ ((unhide HN).setX (unhide HVA) hle _) ((unhide HVA).set _) hle (by omega)).mono ?_
  rintro e u' w'' ⟨rfl, rfl, g, qa', hv, hap⟩
  have HV2 := hide hv
  have HA2 := hide hap
  clear hv hap
  simp [Leaves, settle, results, Tryd.results78, go_sem]
  exact ⟨g, qa', unhide HV2, by simpa using unhide HA2⟩

/-- The parts of a plan, as a row of slices shows them. -/
structure Part where
  ao : Option Addr
  cap : Nat
  ws : List Wr
def Parts (w : World) (p : Nat) (ps : List Part) : Prop := ∀ i (h : i < ps.length), w.cell? ⟨p, i, none⟩ = some (.slice ps[i].ao ps[i].ws.length ps[i].cap) ∧ Ios w ps[i].ao ps[i].ws ∧ 0 < ps[i].ws.length ∧ ps[i].ws.length ≤ 20
def plM (ps : List Part) : List Wr := ps.flatMap fun q => q.ws ++ [mvF]
theorem plM_succ {ps : List Part} {k : Nat} (h : k < ps.length) : plM (ps.take (k + 1)) = plM (ps.take k) ++ ps[k].ws ++ [mvF] := by
  unfold plM
  rw [List.take_succ_eq_append_getElem h, List.flatMap_append]
  simp only [List.flatMap_cons, List.flatMap_nil, List.append_nil, List.append_assoc]

set_option maxHeartbeats 1600000 in
theorem planOf_any (p cap : Nat) (ps : List Part) (w : World) (hl : ps.length ≤ 2) (hp : Parts w p ps) :
    Calls Tryd.prog 54 #[.slice (some ⟨p, 0, none⟩) ps.length cap] w fun e w' => ∃ qo n qa, e = .returned (.slice qo n qa) ∧ ApS w w' qo n qa (plM ps) := by
  have HP := hide hp
  clear hp
  have HA0 : Hid (ApS w (w.alloc (.cells #[.slice none 0 0] 117)) none 0 0 (plM (ps.take 0))) := hide ⟨.inl ⟨rfl, rfl, _, rfl⟩, Joins.below_alloc1 _ _⟩
  have HV0 := hide (VarPl.new w (.slice none 0 0))
  go_enter Tryd.func54, Tryd.ntmps54
  go_wp2
  go_loopw [8] (fun i wr => ∃ (k : Nat) (qo : Option Addr) (n qa : Nat), k ≤ ps.length ∧ i = .int .i64 k ∧ n ≤ k * 21 ∧ Hid (VarPl wr w.heap.size (.slice qo n qa)) ∧ Hid (ApS w wr qo n qa (plM (ps.take k)))) (fun i _ => ps.length - (intOf i).toNat)
  case atStart => exact ⟨0, _, 0, _, Nat.zero_le _, rfl, Nat.zero_le _, HV0, HA0⟩
  case round =>
    obtain ⟨k, qo, n, qa, hk, rfl, hn, HV, HA⟩ := hrel
    by_cases hlt : k < ps.length
    · obtain ⟨hc, hios, hp0, hp5⟩ := unhide HP k hlt
      have hcr := ((unhide HA).k.cell (p := ⟨p, k, none⟩) (World.block_lt_of_cell? _ _ hc)).trans hc
      have HI := hide (hios.below (unhide HA).k)
      have hq : k * 21 ≤ 42 := by omega
      obtain ⟨M, hM⟩ : ∃ M, M = ps[k].ws.length := ⟨_, rfl⟩
      rw [← hM] at hcr hp0 hp5
      have HM := hide hM
      clear hc hios hM
      go_wp2_with fail
      refine (addSure_any w _ w.heap.size qo n qa (plM (ps.take k)) ps[k].ao ps[k].cap M ps[k].ws (unhide HA) (unhide HV) (Nat.le_refl _) (unhide HI) (unhide HM) hp0 (by omega) (by omega)).mono ?_
      rintro e w2 ⟨rfl, g, qa', hv, ha⟩
      have HV2 := hide hv
      have HA2 : Hid (ApS w w2 (some ⟨g, 0, none⟩) (n + M + 1) qa' (plM (ps.take (k + 1)))) := hide (by rw [plM_succ hlt]; exact ha)
      clear hv ha
      go_wp2
      go_roundw
      case rel => exact ⟨k + 1, _, _, _, by omega, by go_num, by omega, HV2, HA2⟩
      case measure => simp [intOf]; omega
    · have hke : k = ps.length := by omega
      subst hke
      have HA1 : Hid (ApS w wr qo n qa (plM ps)) := hide (by have := unhide HA; rwa [List.take_of_length_le (Nat.le_refl _)] at this)
      obtain ⟨hc, _⟩ := (unhide HV).cell
      go_wp2
      go_ret
      exact ⟨_, _, _, rfl, unhide HA1⟩

end Go.Proofs.YtjmianalknnekabDoor

/- Contracts of the program's journals: head, changes, toApply. -/
namespace Go.Proofs.YtjmianalknnekabDoor
open Go.RowKit
set_option linter.unusedVariables false
set_option maxRecDepth 100000

abbrev jV (slot seq : Int) (ao : Option Addr) (n cap : Nat) : Value := .agg #[.int .i64 slot, .int .i64 seq, .slice ao n cap]
/-- A journal in a variable. -/
def VarJ (w : World) (x : Nat) (t : TypeId) (slot seq : Int) (v : Value) : Prop := w.heap[x]? = some (.cells #[.int .i64 slot, .int .i64 seq, v] t (0, 0))
theorem VarJ.lt {w : World} {x : Nat} {t : TypeId} {slot seq : Int} {v : Value} (h : VarJ w x t slot seq v) : x < w.heap.size := (Array.getElem?_eq_some_iff.1 h).1
theorem VarJ.cells {w : World} {x : Nat} {t : TypeId} {slot seq : Int} {v : Value} (h : VarJ w x t slot seq v) : w.cell? ⟨x, 0, none⟩ = some (.int .i64 slot) ∧ w.cell? ⟨x, 1, none⟩ = some (.int .i64 seq) ∧ w.cell? ⟨x, 2, none⟩ = some v := ⟨by rw [Joins.cell_of_block h]; rfl, by rw [Joins.cell_of_block h]; rfl, by rw [Joins.cell_of_block h]; rfl⟩
theorem VarJ.free {w : World} {x : Nat} {t : TypeId} {slot seq : Int} {v : Value} (h : VarJ w x t slot seq v) (i : Nat) : w.frozen? ⟨x, i, none⟩ = false := Joins.unfrozen_of_block h i
theorem VarJ.below {w w' : World} {x : Nat} {t : TypeId} {slot seq : Int} {v : Value} (h : VarJ w x t slot seq v) (hb : Below w.heap.size w w') : VarJ w' x t slot seq v := by
  unfold VarJ; rw [hb.block x h.lt]; exact h
theorem VarJ.new (w : World) (t : TypeId) (slot seq : Int) (v : Value) : VarJ (w.alloc (.cells #[.int .i64 slot, .int .i64 seq, v] t)) w.heap.size t slot seq v := heap_alloc_new w _
theorem ios_one (w : World) (n : Nat) (x : Wr) (t : TypeId) (hn : w.heap.size = n) (hz : x.data.size ≤ maxLen) : Ios (w.alloc (.cells #[.int .i64 x.host, .int .i64 x.at_, .string x.data] t)) (some ⟨n, 0, none⟩) [x] := by
  subst hn
  intro i hi
  have hi' : i < 1 := hi
  rcases (show i = 0 by omega) with rfl
  exact ⟨w.heap.size, 0, rfl, by simp [go_sem], by simp [go_sem], by simp [go_sem], hz⟩

set_option maxHeartbeats 1600000 in
theorem head_any (slot seq : Int) (ao : Option Addr) (n cap : Nat) (c : Int) (w : World) (hc : 0 ≤ c ∧ c ≤ 5) (hs : numB seq = true) :
    Calls Tryd.prog 56 #[jV slot seq ao n cap, .int .i64 c] w fun e w' => ∃ qo, e = .returned (.slice qo 1 1) ∧ Ios w' qo [mvH slot c seq] ∧ Below w.heap.size w w' := by
  have HD := hide (hd_seal hc hs)
  have HA := hide (Joins.below_alloc1 w (.cells #[.int .i64 slot, .int .i64 seq, .slice ao n cap] 65))
  have HV := hide ((VarJ.new w 65 slot seq (.slice ao n cap)).below (Joins.below_alloc1 _ (.cells #[.int .i64 c, .int .i64 seq] 3)))
  clear hc hs
  go_enter Tryd.func56, Tryd.ntmps56
  go_wp2_with fail
  refine (sealRecord_impl 7 _ 2 [c, seq] _ (by simp) (is2 _ _ _ _ _ (by simp))).mono ?_
  rintro e w1 ⟨rfl, hb⟩
  have HB := hide (fr (belowAl (unhide HA) _) hb)
  obtain ⟨c0, c1, c2⟩ := ((unhide HV).below hb).cells
  clear hb
  rw [(unhide HD).1, (unhide HD).2]
  go_wp2
  go_ret
  exact ⟨_, rfl, ios_one w1 _ (mvH slot c seq) _ (by simp) (by show (hdT c seq).size ≤ maxLen; rw [hdT_size]; unfold maxLen; omega), belowAl (unhide HB) _⟩

set_option maxHeartbeats 3200000 in
theorem changes_any (slot seq : Int) (ao : Option Addr) (cap : Nat) (us : List Up) (w : World) (hl : us.length ≤ 5) (hu : Ups w ao us) :
    Calls Tryd.prog 68 #[jV slot seq ao us.length cap] w fun e w' => ∃ qo qa, e = .returned (.slice qo us.length qa) ∧ ApS w w' qo us.length qa (chL us) := by
  have HU := hide hu
  clear hu
  obtain ⟨i0, hi, hz0, hz1, hz2⟩ := info_parts infoMx
  have HV := hide (VarJ.new w 65 slot seq (.slice ao us.length cap))
  have H0 : Hid (ApS w (w.alloc (.cells #[.int .i64 slot, .int .i64 seq, .slice ao us.length cap] 65)) none 0 0 []) := hide ⟨.inl ⟨rfl, rfl, _, rfl⟩, Joins.below_alloc1 _ _⟩
  go_enter Tryd.func68, Tryd.ntmps68
  go_wp2
  go_loopw [3, 9] (fun o i wr => ∃ (k : Nat) (qo : Option Addr) (qa : Nat), k ≤ us.length ∧ i = .int .i64 k ∧ o = .slice qo k qa ∧ Hid (ApS w wr qo k qa ((chL us).take k))) (fun _ i _ => us.length - (intOf i).toNat)
  case atStart => exact ⟨0, _, _, Nat.zero_le _, rfl, rfl, H0⟩
  case round =>
    obtain ⟨k, qo, qa, hk, rfl, rfl, HA⟩ := hrel
    by_cases hlt : k < us.length
    · obtain ⟨b, off, rfl, hc0, hc1, hcz⟩ := (unhide HU).below (unhide HA).k k hlt
      have hbl := World.block_lt_of_cell? _ _ hc0
      clear hcz
      have HAA := hide (((unhide HA).next (Joins.below_alloc1 wr (.cells #[.int .i64 us[k].at_, .string us[k].data] 49))).next (Joins.below_alloc1 _ (.cells #[.int .i64 1, .int .i64 us[k].at_, .string us[k].data] 71)))
      have HSZ := hide (unhide HAA).sz
      go_wp2_with (at_builtin; refine wpList_append_one rfl _ _ 33 rfl w.heap.size 71 i0 (.agg #[.int .i64 0, .int .i64 0, .string ⟨#[]⟩]) 3 32 Tryd.underlying33 hi hz0 hz1 hz2 rfl (by omega) qo k qa (ioV ((chL us).take k)) rfl (unhide HAA).o (unhide HSZ) ⟨wr.heap.size + 1, 0, none⟩ _ (wrV (mvW us[k])) rfl rfl (news3_at _ _ (mvW us[k]) _ (by simp)) (wrV_one _) (by unfold maxLen; omega) (by omega) ?_; intro g2 cap2 wA hoA hkA; have HN := hide (ApS.one (unhide HAA) hoA hkA); clear hoA hkA)
      go_roundw
      case rel => exact ⟨k + 1, _, _, by omega, by go_num, rfl, hide (by rw [chL_take hlt]; exact unhide HN)⟩
      case measure => simp [intOf]; omega
    · have hke : k = us.length := by omega
      subst hke
      have HA1 : Hid (ApS w wr qo us.length qa (chL us)) := hide (by have := unhide HA; rwa [chL_done (Nat.le_refl _)] at this)
      go_wp2
      go_ret
      exact ⟨_, _, rfl, unhide HA1⟩

set_option maxHeartbeats 1600000 in
theorem place_any (slot seq : Int) (ao : Option Addr) (n cap k : Nat) (w : World) (hs : 0 ≤ slot ∧ slot ≤ 1000) (hk : k ≤ 1000) :
    Calls Tryd.prog 67 #[jV slot seq ao n cap, .int .i64 k] w fun e w' => e = .returned (.int .i64 (slot + 1 + k)) ∧ Below w.heap.size w w' := by
  have wr1 : IntKind.i64.wrap (slot + 1) = slot + 1 := by rw [IntKind.wrap_i64]; omega
  have wr2 : IntKind.i64.wrap (slot + 1 + (k : Int)) = slot + 1 + (k : Int) := by rw [IntKind.wrap_i64]; omega
  go_enter Tryd.func67, Tryd.ntmps67
  go_wp2
  go_ret
  exact ⟨rfl, Joins.below_alloc1 _ _⟩

/-- Two parts in a new row. -/
theorem parts_two (w : World) (n : Nat) (t : TypeId) (p q : Part) (hn : w.heap.size = n) (hp : Ios w p.ao p.ws ∧ 0 < p.ws.length ∧ p.ws.length ≤ 20) (hq : Ios w q.ao q.ws ∧ 0 < q.ws.length ∧ q.ws.length ≤ 20) :
    Parts (w.alloc (.cells #[.slice p.ao p.ws.length p.cap, .slice q.ao q.ws.length q.cap] t)) n [p, q] := by
  subst hn
  intro i hi
  have hi' : i < 2 := hi
  rcases (show i = 0 ∨ i = 1 by omega) with rfl | rfl
  · exact ⟨by simp [go_sem], hp.1.below (Joins.below_alloc1 _ _), hp.2.1, hp.2.2⟩
  · exact ⟨by simp [go_sem], hq.1.below (Joins.below_alloc1 _ _), hq.2.1, hq.2.2⟩

set_option maxHeartbeats 3200000 in
theorem toApply_any (slot seq : Int) (ao : Option Addr) (cap : Nat) (us : List Up) (w : World) (hl : us.length ≤ 5) (hs : us.length ≠ 0 → numB seq = true) (hub : upsB us = true) (hu : Ups w ao us) :
    Calls Tryd.prog 40 #[jV slot seq ao us.length cap] w fun e w' => ∃ qo n qa, e = .returned (.slice qo n qa) ∧ ApS w w' qo n qa (rpL slot seq us) := by
  have HA := hide (Joins.below_alloc1 w (.cells #[.int .i64 slot, .int .i64 seq, .slice ao us.length cap] 65))
  have HV := hide (VarJ.new w 65 slot seq (.slice ao us.length cap))
  by_cases h0 : us.length = 0
  · have hb0 : (((us.length : Nat) : Int) == 0) = true := by simp [h0]
    have HE : Hid (rpL slot seq us = []) := hide (if_pos h0)
    clear h0 hs hu hub
    go_enter Tryd.func40, Tryd.ntmps40
    go_wp2
    go_ret
    exact ⟨_, _, _, rfl, by rw [unhide HE]; exact ⟨.inl ⟨rfl, rfl, _, rfl⟩, unhide HA⟩⟩
  have hb0 : (((us.length : Nat) : Int) == 0) = false := by rw [beq_eq_false_iff_ne]; omega
  have HE : Hid (rpL slot seq us = apL slot seq us) := hide (if_neg h0)
  have HS := hide (hs h0)
  have HU := hide hu
  have HUB := hide hub
  have HPM : Hid (∀ po pa qo qa, plM [⟨po, pa, chL us⟩, ⟨qo, qa, [mvH slot 0 seq]⟩] = apL slot seq us) := hide (fun _ _ _ _ => by simp [plM, apL])
  have HPC : Hid (0 < (chL us).length ∧ (chL us).length ≤ 20) := hide (by rw [chL_length]; omega)
  clear hs hu hub
  obtain ⟨c0, c1, c2⟩ := (unhide HV).cells
  go_enter Tryd.func40, Tryd.ntmps40
  go_wp2
  go_region_held3 (fun w' => w'.cell? ⟨w.heap.size, 0, none⟩ = some (.int .i64 slot) ∧ w'.cell? ⟨w.heap.size, 1, none⟩ = some (.int .i64 seq) ∧ w'.cell? ⟨w.heap.size, 2, none⟩ = some (.slice ao us.length cap)) (go_keep)
    (first
      | (go_at_call 68; refine (changes_any slot seq ao cap us _ hl (by exact ((unhide HU).below (unhide HA)).below (Below.refl _ _).drew)).mono ?_; rintro e w2 ⟨po, pa, rfl, hap⟩; have HB2 := hide (fr (Below.refl _ _).drew hap.k); have HI2 : Hid (Ios w2 po (chL us)) := hide (ownMv (by have := hap.o; rwa [← chL_length us] at this) (short_ch (unhide HUB)).sizes); obtain ⟨d0, d1, d2⟩ := ((unhide HV).below (unhide HB2)).cells; clear hap)
      | (go_at_call 56; refine (head_any slot seq ao us.length cap 0 _ (by omega) (unhide HS)).mono ?_; rintro e w3 ⟨qo, rfl, hi3, hb3⟩; have HB3 := hide (fr (unhide HB2) hb3); have HI3 := hide hi3; have HI23 := hide ((unhide HI2).below hb3); obtain ⟨e0, e1, e2⟩ := ((unhide HV).below (unhide HB3)).cells; have hlt3 := ((unhide HV).below (unhide HB3)).lt; clear hi3 hb3)
      | (go_at_call 54; rw [show Value.slice (some ⟨w3.heap.size, 0, none⟩) 2 2 = .slice (some ⟨w3.heap.size, 0, none⟩) [(⟨po, pa, chL us⟩ : Part), ⟨qo, 1, [mvH slot 0 seq]⟩].length 2 from rfl]; refine (planOf_any w3.heap.size 2 [⟨po, pa, chL us⟩, ⟨qo, 1, [mvH slot 0 seq]⟩] _ (by simp) (by have := parts_two w3 w3.heap.size 33 ⟨po, pa, chL us⟩ ⟨qo, 1, [mvH slot 0 seq]⟩ rfl ⟨unhide HI23, (unhide HPC).1, (unhide HPC).2⟩ ⟨unhide HI3, by simp, by simp⟩; simp only [chL_length] at this; exact this)).mono ?_; rintro e w4 ⟨ro, rn, ra, rfl, hap⟩; have HB4 := hide (fr (unhide HB3) (fr (Joins.below_alloc1 _ _) hap.k)); have HAP := hide hap; obtain ⟨f0, f1, f2⟩ := ((unhide HV).below (unhide HB4)).cells; clear hap))
  all_goals
    have HF : Hid (ApS w w4 ro rn ra (apL slot seq us)) := hide (by
      have := unhide HAP
      rw [unhide HPM] at this
      exact ⟨this.o.base (by have h1 := (unhide HB3).size; have h2 := (unhide HA).size; simp at h1 ⊢; omega), fr (unhide HA) (unhide HB4)⟩)
    go_wp2
    go_ret
    exact ⟨_, _, _, rfl, by rw [unhide HE]; exact unhide HF⟩

end Go.Proofs.YtjmianalknnekabDoor

/- Contract of impl.readNumbers. -/
namespace Go.Proofs.YtjmianalknnekabDoor
open Go.RowKit
set_option linter.unusedVariables false
set_option maxRecDepth 100000

def txt : Value → ByteArray
  | .string s => s
  | _ => ⟨#[]⟩
/-- What is left of a text behind some bytes. -/
def Rest (s u : ByteArray) (k : Nat) : Prop := u.size + k = s.size ∧ ∀ j, j < u.size → byteAt u j = byteAt s (k + j)
theorem Rest.zero (s : ByteArray) : Rest s s 0 := ⟨rfl, fun j _ => by rw [Nat.zero_add]⟩
theorem Rest.num {s u : ByteArray} {k : Nat} (h : Rest s u k) (h4 : 4 ≤ u.size) : numAt u 0 = numAt s k := by
  unfold numAt
  rw [h.2 0 (by omega), h.2 (0 + 1) (by omega), h.2 (0 + 2) (by omega), h.2 (0 + 3) (by omega)]
  simp

theorem cut_size {u : ByteArray} (a : Nat) : (u.extract a u.size).size = u.size - a := by simp
theorem cut_byte {u : ByteArray} {a j : Nat} (h : a + j < u.size) : byteAt (u.extract a u.size) j = byteAt u (a + j) := by
  have h' : a + j < u.data.size := h
  have e : (u.extract a u.size).data = u.data.extract a u.size := by simp
  unfold byteAt
  rw [e, Array.getElem?_extract]
  have : j < u.size - a := by omega
  simp [this]
theorem Rest.cut {s u : ByteArray} {k : Nat} (h : Rest s u k) (h4 : 4 ≤ u.size) : Rest s (u.extract 4 u.size) (k + 4) := by
  refine ⟨by rw [cut_size]; have := h.1; omega, fun j hj => ?_⟩
  rw [cut_size] at hj
  rw [cut_byte (by omega), h.2 (4 + j) (by omega), Nat.add_assoc]

set_option maxHeartbeats 1600000 in
theorem readNumbers_ok (s : ByteArray) (w : World) (h4 : s.size % 4 = 0) (hl : s.size ≤ 64) (hn : ∀ k, k < s.size / 4 → numB (numAt s (k * 4)) = true) :
    Calls Tryd.prog 108 #[.string s] w fun e w' => ∃ v, e = .returned v ∧ OwnN w' w.heap.size v (unL s) ∧ Below w.heap.size w w' := by
  obtain ⟨j0, hj, hy0, hy1, hy2⟩ := info_parts infoM
  have hb4 : ((s.size : Int) % 4 == 0) = true := by simp; omega
  have hli : (s.size : Int) ≤ 64 := by omega
  have HN := hide hn
  clear hn
  go_enter Tryd.func108, Tryd.ntmps108
  go_wp2_with (go_at_call 87; refine (demand_true _).mono ?_; rintro e w' ⟨rfl, hw⟩; replace hw := hw.symm; subst hw)
  go_loopw [0, 3] (fun t o wr => ∃ (k : Nat) (u : ByteArray) (qo : Option Addr) (qa : Nat), k ≤ s.size / 4 ∧ t = .string u ∧ o = .slice qo k qa ∧ u.size + k * 4 = s.size ∧ Hid (Rest s u (k * 4)) ∧ Hid (OwnR wr w.heap.size 3 1 (.slice qo k qa) k (intV ((unL s).take k))) ∧ Hid (Below w.heap.size w wr)) (fun t _ _ => (txt t).size)
  case atStart => exact ⟨0, s, _, _, Nat.zero_le _, rfl, rfl, rfl, hide (Rest.zero s), hide (.inl ⟨rfl, rfl, _, rfl⟩), hide (Below.refl _ _)⟩
  case round =>
    obtain ⟨k, u, qo, qa, hk, rfl, rfl, hu, HR, HO, HB⟩ := hrel
    by_cases hlt : k < s.size / 4
    · have hu4 : 4 ≤ u.size := by omega
      have HNU : Hid (numB (numAt u 0) = true) := hide (by rw [(unhide HR).num hu4]; exact unhide HN k hlt)
      have HNE := hide ((unhide HR).num hu4)
      have hu0 : 0 < u.size := by omega
      have HSZU := hide (cut_size (u := u) 4)
      go_wp2_with fail
      refine (readNumber_ok u _ hu4 (unhide HNU)).mono ?_
      rintro e w1 ⟨rfl, hb1⟩
      have HB1 := hide (fr (unhide HB) hb1)
      have HO1 := hide ((unhide HO).below hb1)
      clear hb1
      have HOA := hide ((unhide HO1).below (Joins.below_alloc1 _ (.cells #[.int .i64 (numAt u 0)] 3)))
      have HBA := hide (fr (unhide HB1) (Joins.below_alloc1 _ (.cells #[.int .i64 (numAt u 0)] 3)))
      have HSZ := hide (unhide HB1).size
      go_wp2_with (at_builtin; refine wpList_append_one rfl _ _ 22 rfl w.heap.size 3 j0 (.int .i64 0) 1 8 Tryd.underlying22 hj hy0 hy1 hy2 rfl (by omega) qo k qa (intV ((unL s).take k)) rfl (unhide HOA) (by have := unhide HSZ; simp; omega) ⟨w1.heap.size, 0, none⟩ _ [.int .i64 (numAt u 0)] rfl rfl (byte_news w1 _ _) (int_one _) (by unfold maxLen; omega) (by omega) ?_; intro g2 cap2 wA hoA hkA; have HSF := hide (And.intro hoA (keep_below (unhide HBA) (unhide HOA) (Nat.le_refl _) hkA)); clear hoA hkA)
      go_roundw
      case rel => exact ⟨k + 1, _, _, _, by omega, rfl, rfl, by rw [unhide HSZU]; omega, hide (by rw [show (k + 1) * 4 = k * 4 + 4 by omega]; exact (unhide HR).cut hu4), hide (.inr ⟨by omega, by rw [unL_succ hlt, intV_snoc, ← unhide HNE]; exact (unhide HSF).1⟩), hide (unhide HSF).2⟩
      case measure => show (u.extract 4 u.size).size < u.size; rw [unhide HSZU]; omega
    · have hke : k = (unL s).length := by rw [unL_length]; omega
      have hu0 : u.size = 0 := by omega
      have HT : Hid ((unL s).take k = unL s) := hide (List.take_of_length_le (by omega))
      have HON : Hid (OwnR wr w.heap.size 3 1 (.slice qo (unL s).length qa) (unL s).length (intV (unL s))) := hide (by have := unhide HO; rw [unhide HT, hke] at this; exact this)
      subst hke
      go_wp2
      go_ret
      exact ⟨.slice qo (unL s).length qa, rfl, ⟨qo, qa, rfl, unhide HON⟩, unhide HB⟩

set_option maxHeartbeats 1600000 in
theorem readNumbers_bad (s : ByteArray) (w : World) (k0 : Nat) (h4 : s.size % 4 = 0) (hl : s.size ≤ 64) (hk0 : k0 < s.size / 4) (hn : ∀ k, k < k0 → numB (numAt s (k * 4)) = true) (hn0 : numB (numAt s (k0 * 4)) = false) (hE : ErrW w) :
    Calls Tryd.prog 108 #[.string s] w fun e w' => (∃ u pv, e = .panicked [{ v := .iface u pv, recovered := false }]) ∧ Below w.heap.size w w' := by
  obtain ⟨j0, hj, hy0, hy1, hy2⟩ := info_parts infoM
  have hb4 : ((s.size : Int) % 4 == 0) = true := by simp; omega
  have hli : (s.size : Int) ≤ 64 := by omega
  have HN := hide hn
  have HN0 := hide hn0
  have HE := hide hE
  clear hn hn0 hE
  go_enter Tryd.func108, Tryd.ntmps108
  go_wp2_with (go_at_call 87; refine (demand_true _).mono ?_; rintro e w' ⟨rfl, hw⟩; replace hw := hw.symm; subst hw)
  go_loopw [0, 3] (fun t o wr => ∃ (k : Nat) (u : ByteArray) (qo : Option Addr) (qa : Nat), k ≤ k0 ∧ t = .string u ∧ o = .slice qo k qa ∧ u.size + k * 4 = s.size ∧ Hid (Rest s u (k * 4)) ∧ Hid (OwnR wr w.heap.size 3 1 (.slice qo k qa) k (intV ((unL s).take k))) ∧ Hid (Below w.heap.size w wr)) (fun t _ _ => (txt t).size)
  case atStart => exact ⟨0, s, _, _, Nat.zero_le _, rfl, rfl, rfl, hide (Rest.zero s), hide (.inl ⟨rfl, rfl, _, rfl⟩), hide (Below.refl _ _)⟩
  case round =>
    obtain ⟨k, u, qo, qa, hk, rfl, rfl, hu, HR, HO, HB⟩ := hrel
    have hlt0 : k < s.size / 4 := by omega
    by_cases hlt : k < k0
    · have hu4 : 4 ≤ u.size := by omega
      have HNU : Hid (numB (numAt u 0) = true) := hide (by rw [(unhide HR).num hu4]; exact unhide HN k hlt)
      have HNE := hide ((unhide HR).num hu4)
      have hu0 : 0 < u.size := by omega
      have HSZU := hide (cut_size (u := u) 4)
      go_wp2_with fail
      refine (readNumber_ok u _ hu4 (unhide HNU)).mono ?_
      rintro e w1 ⟨rfl, hb1⟩
      have HB1 := hide (fr (unhide HB) hb1)
      have HO1 := hide ((unhide HO).below hb1)
      clear hb1
      have HOA := hide ((unhide HO1).below (Joins.below_alloc1 _ (.cells #[.int .i64 (numAt u 0)] 3)))
      have HBA := hide (fr (unhide HB1) (Joins.below_alloc1 _ (.cells #[.int .i64 (numAt u 0)] 3)))
      have HSZ := hide (unhide HB1).size
      go_wp2_with (at_builtin; refine wpList_append_one rfl _ _ 22 rfl w.heap.size 3 j0 (.int .i64 0) 1 8 Tryd.underlying22 hj hy0 hy1 hy2 rfl (by omega) qo k qa (intV ((unL s).take k)) rfl (unhide HOA) (by have := unhide HSZ; simp; omega) ⟨w1.heap.size, 0, none⟩ _ [.int .i64 (numAt u 0)] rfl rfl (byte_news w1 _ _) (int_one _) (by unfold maxLen; omega) (by omega) ?_; intro g2 cap2 wA hoA hkA; have HSF := hide (And.intro hoA (keep_below (unhide HBA) (unhide HOA) (Nat.le_refl _) hkA)); clear hoA hkA)
      go_roundw
      case rel => exact ⟨k + 1, _, _, _, by omega, rfl, rfl, by rw [unhide HSZU]; omega, hide (by rw [show (k + 1) * 4 = k * 4 + 4 by omega]; exact (unhide HR).cut hu4), hide (.inr ⟨by omega, by rw [unL_succ hlt0, intV_snoc, ← unhide HNE]; exact (unhide HSF).1⟩), hide (unhide HSF).2⟩
      case measure => show (u.extract 4 u.size).size < u.size; rw [unhide HSZU]; omega
    · have hu4 : 4 ≤ u.size := by omega
      have hu0 : 0 < u.size := by omega
      have hke : k = k0 := by omega
      have HNU : Hid (numB (numAt u 0) = false) := hide (by rw [(unhide HR).num hu4, hke]; exact unhide HN0)
      go_wp2_with fail
      refine (readNumber_no u _ hu4 (unhide HNU) ((unhide HE).below (unhide HB))).mono ?_
      rintro e w1 ⟨⟨u1, pv, rfl⟩, hb1⟩
      have HB1 := hide (fr (unhide HB) hb1)
      clear hb1
      go_wp2
      exact ⟨rfl, ⟨u1, pv, rfl⟩, unhide HB1⟩

set_option maxHeartbeats 800000 in
theorem readNumbers_form (s : ByteArray) (w : World) (h : s.size % 4 ≠ 0 ∨ 64 < s.size) (hE : ErrW w) :
    Calls Tryd.prog 108 #[.string s] w fun e w' => (∃ u pv, e = .panicked [{ v := .iface u pv, recovered := false }]) ∧ Below w.heap.size w w' := by
  have HE := hide hE
  clear hE
  by_cases h4 : s.size % 4 = 0
  · have hb4 : ((s.size : Int) % 4 == 0) = true := by simp; omega
    have hli : ¬ (s.size : Int) ≤ 64 := by omega
    go_enter Tryd.func108, Tryd.ntmps108
    go_wp2_with (go_at_call 87; refine (demand_false _ (unhide HE)).mono ?_; rintro e w' ⟨⟨u1, pv, rfl⟩, hw⟩; replace hw := hw.symm; subst hw)
    exact ⟨rfl, ⟨_, _, rfl⟩, Below.refl _ _⟩
  · have hb4 : ((s.size : Int) % 4 == 0) = false := by simp; omega
    go_enter Tryd.func108, Tryd.ntmps108
    go_wp2_with (go_at_call 87; refine (demand_false _ (unhide HE)).mono ?_; rintro e w' ⟨⟨u1, pv, rfl⟩, hw⟩; replace hw := hw.symm; subst hw)
    exact ⟨rfl, ⟨_, _, rfl⟩, Below.refl _ _⟩

theorem first_bad {p : Nat → Bool} : ∀ n, (∀ k, k < n → p k = true) ∨ ∃ k0, k0 < n ∧ (∀ k, k < k0 → p k = true) ∧ p k0 = false
  | 0 => .inl (fun k hk => by omega)
  | n + 1 => by
    rcases first_bad (p := p) n with h | ⟨k0, h0, h1, h2⟩
    · cases hp : p n with
      | true => exact .inl (fun k hk => by
          by_cases e : k = n
          · subst e; exact hp
          · exact h k (by omega))
      | false => exact .inr ⟨n, by omega, h, hp⟩
    · exact .inr ⟨k0, by omega, h1, h2⟩

/-- readNumbers, by what the text is. -/
theorem readNumbers_yes (s : ByteArray) (w : World) (h : okU s = true) :
    Calls Tryd.prog 108 #[.string s] w fun e w' => ∃ v, e = .returned v ∧ OwnN w' w.heap.size v (unL s) ∧ Below w.heap.size w w' := by
  have h4 : s.size % 4 = 0 := by
    by_cases h4 : s.size % 4 = 0
    · exact h4
    · rw [okU_rest h4] at h; cases h
  have hl : s.size ≤ 64 := by
    by_cases hl : 64 < s.size
    · rw [okU_long hl] at h; cases h
    · omega
  refine readNumbers_ok s w h4 hl (fun k hk => ?_)
  cases hb : numB (numAt s (k * 4)) with
  | true => rfl
  | false => rw [okU_bad hk hb] at h; cases h
theorem readNumbers_no (s : ByteArray) (w : World) (h : okU s = false) (hE : ErrW w) :
    Calls Tryd.prog 108 #[.string s] w fun e w' => (∃ u pv, e = .panicked [{ v := .iface u pv, recovered := false }]) ∧ Below w.heap.size w w' := by
  by_cases h4 : s.size % 4 = 0
  · by_cases hl : s.size ≤ 64
    · rcases first_bad (p := fun k => numB (numAt s (k * 4))) (s.size / 4) with hg | ⟨k0, h0, h1, h2⟩
      · rw [okU_true h4 hl hg] at h; cases h
      · exact readNumbers_bad s w k0 h4 hl h0 h1 h2 hE
    · exact readNumbers_form s w (.inr (by omega)) hE
  · exact readNumbers_form s w (.inl h4) hE

end Go.Proofs.YtjmianalknnekabDoor
