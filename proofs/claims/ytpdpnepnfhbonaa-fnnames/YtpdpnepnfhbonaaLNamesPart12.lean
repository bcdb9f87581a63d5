import Derived.Test.YtpdpnepnfhbonaaRows
import Derived.Test.YtpdpnepnfhbonaaLNamesPart9
import Derived.Test.YtpdpnepnfhbonaaLNamesPart10
import Derived.Test.YtpdpnepnfhbonaaLNamesPart11
import Derived.Test.YtpdpnepnfhbonaaLNamesPart5
import Derived.Test.YtpdpnepnfhbonaaLNamesPart6
import Derived.WalkKit
import Derived.WalkSpells
import Derived.Test.YtpdpnepnfhbonaaLNamesPart7
import Derived.Test.YtpdpnepnfhbonaaLNamesPart8
import Derived.KernelRfl
import Derived.Laws.OwnMore
import Derived.Laws.IdiomCopy

namespace Go.Proofs.Ytpdpnepnfhbonaa
open Go.RowKit
set_option linter.unusedVariables false
set_option maxRecDepth 100000

theorem find_iff {m : Img} {name : ByteArray} : imFind m name < m.snaps.length ↔ ∃ s ∈ m.snaps, s.name = name := by
  unfold imFind
  rw [List.findIdx_lt_length]
  constructor
  · rintro ⟨s, hs, h⟩; exact ⟨s, hs, by simpa using h⟩
  · rintro ⟨s, hs, h⟩; exact ⟨s, hs, by simpa using h⟩
theorem nodup_erase {α : Type} {l : List α} (h : l.Nodup) {q : Nat} (hq : q < l.length) : l[q] ∉ l.eraseIdx q := by
  have e : l = l.take q ++ l[q] :: l.drop (q + 1) := by rw [← List.drop_eq_getElem_cons hq, List.take_append_drop]
  rw [List.eraseIdx_eq_take_drop_succ]
  have h2 := h
  rw [e, List.nodup_append] at h2
  obtain ⟨_, h3, h4⟩ := h2
  rw [List.nodup_cons] at h3
  rw [List.mem_append]
  rintro (h5 | h5)
  · exact h4 _ h5 _ (List.mem_cons_self) rfl
  · exact h3.1 h5
theorem snaps_told {m : Img} (h : ImR m) {name : ByteArray} (hn : snmB name = true) : ∃ (X Y Z : Img) (A C : Int), imCreate m name = (X, A) ∧ imDelete m name = (Y, C) ∧ imRevert m name = (Z, C) ∧ ImR X ∧ ImR Y ∧ ImR Z ∧
    ((C = 0 ∧ A = 8 ∧ ∃ V : Img, imCreate Y name = (V, 0) ∧ ImR V ∧ V.snaps.length = m.snaps.length) ∨ (C = 5 ∧ (A = 0 ∨ A = 6))) := by
  have hX := h.create name
  have hY := h.delete name
  have hZ := h.revert name
  by_cases hf : imFind m name < m.snaps.length
  · have e1 := create_twice (m := m) hn hf
    have e2 := delete_at (m := m) (name := name) hf rfl
    have e3 := revert_at (m := m) (name := name) hf rfl
    rw [e1] at hX
    rw [e2] at hY
    rw [e3] at hZ
    refine ⟨_, _, _, 8, 0, e1, e2, e3, hX, hY, hZ, .inl ⟨rfl, rfl, ?_⟩⟩
    have hy := hY.create name
    have hlen : (m.snaps.eraseIdx (imFind m name)).length + 1 = m.snaps.length := by rw [List.length_eraseIdx, if_pos hf]; omega
    have hnf : ¬ imFind { imDrops m m.snaps[imFind m name].table with snaps := m.snaps.eraseIdx (imFind m name) } name < (m.snaps.eraseIdx (imFind m name)).length := fun hx => by
      obtain ⟨s, hs, e⟩ := find_iff.1 hx
      have hs' : s ∈ m.snaps.eraseIdx (imFind m name) := hs
      have hl : imFind m name < (m.snaps.map (·.name)).length := by simpa using hf
      have hno := nodup_erase h.names hl
      rw [← map_eraseA] at hno
      apply hno
      rw [List.getElem_map, find_lt hf]
      exact List.mem_map.2 ⟨s, hs', e⟩
    have h3 := h.few
    have e4 := create_done (m := { imDrops m m.snaps[imFind m name].table with snaps := m.snaps.eraseIdx (imFind m name) }) hn hnf (by show ¬ (m.snaps.eraseIdx (imFind m name)).length = 3; omega)
    rw [e4] at hy
    refine ⟨_, e4, hy, ?_⟩
    show (m.snaps.eraseIdx (imFind m name) ++ [_]).length = _
    rw [List.length_append, List.length_singleton, hlen]
  · have e2 := delete_none (m := m) (name := name) hf
    have e3 := revert_none (m := m) (name := name) hf
    rw [e2] at hY
    rw [e3] at hZ
    by_cases h3 : m.snaps.length = 3
    · have e1 := create_many hn hf h3
      rw [e1] at hX
      exact ⟨_, _, _, 6, 5, e1, e2, e3, hX, hY, hZ, .inr ⟨rfl, .inr rfl⟩⟩
    · have e1 := create_done hn hf h3
      rw [e1] at hX
      exact ⟨_, _, _, 0, 5, e1, e2, e3, hX, hY, hZ, .inr ⟨rfl, .inl rfl⟩⟩
theorem nmN_pos {t : ByteArray} (h : snmB t = true) : 0 < nmN t := by
  have h0 := (nmN_in h).1
  have h1 := (snm_parts h).2.1
  by_cases e : nmN t = 0
  · have h2 := un_nm h
    rw [e] at h2
    have : unT 0 = ⟨#[]⟩ := rfl
    rw [this] at h2
    rw [← h2] at h1
    exact absurd h1 (by decide)
  · omega

theorem snapNms_right : ∀ (i : Nat) (hi : i < snapNms.length), snmB snapNms[i] = true := by
  intro i hi
  have : i = 0 ∨ i = 1 ∨ i = 2 ∨ i = 3 := by have : snapNms.length = 4 := rfl; omega
  rcases this with rfl | rfl | rfl | rfl <;> rfl
set_option maxHeartbeats 1600000 in
theorem snapNameR_k (b : Nat) (ao : Option Addr) (n cap m : Nat) (w : World) (hm : m ≤ 900000) (hn : n ≤ 1048576) (hs : SrcK w b ao n cap m) :
    Calls Try.prog 26 #[.pointer (some ⟨b, 0, none⟩)] w fun e w' => ∃ t : ByteArray, e = .returned (.string t) ∧ snmB t = true ∧ SrcK w' b ao n cap (m + 3) ∧ Keep (fun k => k = b) w w' := by
  have HS := hide hs
  have hlt := hs.lt
  clear hs
  have HSA := hide ((unhide HS).below (Joins.below_alloc1 w (.cells (strV snapNms).toArray 9)))
  have HKA : Hid (Keep (fun k => k = b) w (w.alloc (.cells (strV snapNms).toArray 9))) := hide (Keep.of_below (Joins.below_alloc1 _ _))
  have HBA : Hid ((w.alloc (.cells (strV snapNms).toArray 9)).heap[w.heap.size]? = some (.cells (strV snapNms).toArray 9 (0, 0))) := hide (heap_alloc_new _ _)
  go_enter Try.func26, Try.ntmps26
  go_wp2_with fail
  refine (pick_k b ao n cap m w.heap.size snapNms _ (by decide) (by decide) hm hn (unhide HSA) (by omega) (unhide HBA)).mono ?_
  rintro e w1 ⟨i, hi, rfl, hs1, hk⟩
  have HS1 := hide hs1
  have HK1 := hide ((unhide HKA).trans hk)
  have HT : Hid (snmB snapNms[i] = true) := hide (snapNms_right i hi)
  clear hs1 hk HBA HSA HKA
  generalize snapNms[i] = t at *
  go_wp2
  go_ret
  exact ⟨t, rfl, unhide HT, unhide HS1, unhide HK1⟩

theorem snapNameOf_any (ao : Option Addr) (n cap : Nat) (w : World) (hn : n ≤ 1048576) (hB : Bs w ao n) :
    Calls Try.prog 6 #[.slice ao n cap] w fun e w' => ∃ t, e = .returned (.string t) ∧ snmB t = true ∧ Below w.heap.size w w' := by
  go_enter Try.func6, Try.ntmps6
  go_wp2_with fail
  refine (source_any ao n cap _ hn hB).mono ?_
  rintro e w1 ⟨rfl, hs1, hb1, hz⟩
  go_wp2_with fail
  refine (snapNameR_k _ ao n cap 0 _ (by omega) hn hs1).mono ?_
  rintro e w2 ⟨t, rfl, ht, _, hk⟩
  have HB := hide (hb1.trans (hk.below (B := w.heap.size) (by omega) (fun k hk => by omega)))
  have HT := hide ht
  clear hb1 hk hs1 ht
  go_wp2
  go_ret
  exact ⟨t, rfl, unhide HT, unhide HB⟩

end Go.Proofs.Ytpdpnepnfhbonaa

namespace Go.Proofs.Ytpdpnepnfhbonaa
open Go.RowKit
set_option linter.unusedVariables false
set_option maxRecDepth 100000

set_option maxHeartbeats 1600000 in
theorem snapCreate_spec (a : Im4) (m : Img) (name : ByteArray) (w : World) (hz : name.size ≤ 65536) (hL : ImL m) (hc : ImS w a m) :
    Calls Try.prog 8 #[imV a m, .string name] w fun e w' => AnsI w w' e (if imB m = true then imCreate m name else (im0, 1)) := by
  have HE := hide (ImE.new w a m hc)
  have HL := hide hL
  have HZ := hide hz
  have hzi : ¬ (65536 : Int) < (name.size : Int) := by omega
  have HTN : Hid (tnF m name = if imB m = true then 0 else 1) := hide (if_neg (by omega))
  obtain ⟨R, HR⟩ : ∃ R, Hid (R = if imB m = true then imCreate m name else (im0, 1)) := ⟨_, hide rfl⟩
  rw [← unhide HR]
  clear hc hL
  go_enter Try.func8, Try.ntmps8
  go_upto_region 1 with fail
  revert HE
  generalize ((w.alloc _).alloc _) = W0
  intro HE
  obtain ⟨c0, c1, c2, c3⟩ := (unhide HE).v.cells
  go_wp2_with fail
  refine (l10Text_any a m name _ (by have := unhide HZ; unfold maxLen; omega) (unhide HL) (unhide HE).s).mono ?_
  rintro e w1 ⟨rfl, hb⟩
  have HE1 := hide ((unhide HE).below hb)
  clear hb c0 c1 c2 c3 HE
  obtain ⟨c0, c1, c2, c3⟩ := (unhide HE1).v.cells
  obtain ⟨r0, r1, r2, r3⟩ := (unhide HE1).r.cells
  obtain ⟨z0, z1, z2, z3⟩ := (unhide HE1).r.free
  rw [unhide HTN]
  cases him : imB m
  · have HX : Hid (R = (im0, 1)) := hide (by rw [unhide HR, him]; rfl)
    have HZ0 := hide (unhide HE1).zero
    simp only [Bool.false_eq_true, if_false]
    go_wp2
    refine bodyPost_ret (res_ic Try.results8 rfl rfl (unhide HZ0).1) rfl ?_
    rw [unhide HX]
    exact AnsI.bad 1 (unhide HZ0).2
  · have HX : Hid (R = imCreate m name) := hide (by rw [unhide HR, him]; rfl)
    have HI := hide (imB_iff.1 him)
    simp only [if_true]
    clear him HR
    go_wp2_with fail
    refine (l10Create_R a m name R _ (unhide HX) (unhide HI).M (unhide HI).table (by have := unhide HZ; unfold maxLen; omega) (unhide HE1).s).mono ?_
    rintro e w2 ⟨b, ts, rfl, ho, hb⟩
    have HP := hide ((unhide HE1).put hb ho)
    have HE2 := hide ((unhide HE1).below hb)
    clear ho hb c0 c1 c2 c3 r0 r1 r2 r3 z0 z1 z2 z3
    obtain ⟨r0, r1, r2, r3⟩ := (unhide HE2).r.cells
    obtain ⟨z0, z1, z2, z3⟩ := (unhide HE2).r.free
    go_wp2
    refine bodyPost_ret (res_ic Try.results8 rfl rfl (unhide HP).1) rfl ?_
    exact AnsI.of rfl rfl (unhide HP).2.1 (unhide HP).2.2

set_option maxHeartbeats 1600000 in
theorem snapDelete_spec (a : Im4) (m : Img) (name : ByteArray) (w : World) (hz : name.size ≤ 65536) (hL : ImL m) (hc : ImS w a m) :
    Calls Try.prog 10 #[imV a m, .string name] w fun e w' => AnsI w w' e (if imB m = true then imDelete m name else (im0, 1)) := by
  have HE := hide (ImE.new w a m hc)
  have HL := hide hL
  have HZ := hide hz
  have hzi : ¬ (65536 : Int) < (name.size : Int) := by omega
  have HTN : Hid (tnF m name = if imB m = true then 0 else 1) := hide (if_neg (by omega))
  obtain ⟨R, HR⟩ : ∃ R, Hid (R = if imB m = true then imDelete m name else (im0, 1)) := ⟨_, hide rfl⟩
  rw [← unhide HR]
  clear hc hL
  go_enter Try.func10, Try.ntmps10
  go_upto_region 1 with fail
  revert HE
  generalize ((w.alloc _).alloc _) = W0
  intro HE
  obtain ⟨c0, c1, c2, c3⟩ := (unhide HE).v.cells
  go_wp2_with fail
  refine (l10Text_any a m name _ (by have := unhide HZ; unfold maxLen; omega) (unhide HL) (unhide HE).s).mono ?_
  rintro e w1 ⟨rfl, hb⟩
  have HE1 := hide ((unhide HE).below hb)
  clear hb c0 c1 c2 c3 HE
  obtain ⟨c0, c1, c2, c3⟩ := (unhide HE1).v.cells
  obtain ⟨r0, r1, r2, r3⟩ := (unhide HE1).r.cells
  obtain ⟨z0, z1, z2, z3⟩ := (unhide HE1).r.free
  rw [unhide HTN]
  cases him : imB m
  · have HX : Hid (R = (im0, 1)) := hide (by rw [unhide HR, him]; rfl)
    have HZ0 := hide (unhide HE1).zero
    simp only [Bool.false_eq_true, if_false]
    go_wp2
    refine bodyPost_ret (res_ic Try.results10 rfl rfl (unhide HZ0).1) rfl ?_
    rw [unhide HX]
    exact AnsI.bad 1 (unhide HZ0).2
  · have HX : Hid (R = imDelete m name) := hide (by rw [unhide HR, him]; rfl)
    have HI := hide (imB_iff.1 him)
    simp only [if_true]
    clear him HR
    go_wp2_with fail
    refine (l10Delete_R a m name R _ (unhide HX) (unhide HI).M (unhide HE1).s).mono ?_
    rintro e w2 ⟨b, ts, rfl, ho, hb⟩
    have HP := hide ((unhide HE1).put hb ho)
    have HE2 := hide ((unhide HE1).below hb)
    clear ho hb c0 c1 c2 c3 r0 r1 r2 r3 z0 z1 z2 z3
    obtain ⟨r0, r1, r2, r3⟩ := (unhide HE2).r.cells
    obtain ⟨z0, z1, z2, z3⟩ := (unhide HE2).r.free
    go_wp2
    refine bodyPost_ret (res_ic Try.results10 rfl rfl (unhide HP).1) rfl ?_
    exact AnsI.of rfl rfl (unhide HP).2.1 (unhide HP).2.2

set_option maxHeartbeats 1600000 in
theorem snapRevert_spec (a : Im4) (m : Img) (name : ByteArray) (w : World) (hz : name.size ≤ 65536) (hL : ImL m) (hc : ImS w a m) :
    Calls Try.prog 12 #[imV a m, .string name] w fun e w' => AnsI w w' e (if imB m = true then imRevert m name else (im0, 1)) := by
  have HE := hide (ImE.new w a m hc)
  have HL := hide hL
  have HZ := hide hz
  have hzi : ¬ (65536 : Int) < (name.size : Int) := by omega
  have HTN : Hid (tnF m name = if imB m = true then 0 else 1) := hide (if_neg (by omega))
  obtain ⟨R, HR⟩ : ∃ R, Hid (R = if imB m = true then imRevert m name else (im0, 1)) := ⟨_, hide rfl⟩
  rw [← unhide HR]
  clear hc hL
  go_enter Try.func12, Try.ntmps12
  go_upto_region 1 with fail
  revert HE
  generalize ((w.alloc _).alloc _) = W0
  intro HE
  obtain ⟨c0, c1, c2, c3⟩ := (unhide HE).v.cells
  go_wp2_with fail
  refine (l10Text_any a m name _ (by have := unhide HZ; unfold maxLen; omega) (unhide HL) (unhide HE).s).mono ?_
  rintro e w1 ⟨rfl, hb⟩
  have HE1 := hide ((unhide HE).below hb)
  clear hb c0 c1 c2 c3 HE
  obtain ⟨c0, c1, c2, c3⟩ := (unhide HE1).v.cells
  obtain ⟨r0, r1, r2, r3⟩ := (unhide HE1).r.cells
  obtain ⟨z0, z1, z2, z3⟩ := (unhide HE1).r.free
  rw [unhide HTN]
  cases him : imB m
  · have HX : Hid (R = (im0, 1)) := hide (by rw [unhide HR, him]; rfl)
    have HZ0 := hide (unhide HE1).zero
    simp only [Bool.false_eq_true, if_false]
    go_wp2
    refine bodyPost_ret (res_ic Try.results12 rfl rfl (unhide HZ0).1) rfl ?_
    rw [unhide HX]
    exact AnsI.bad 1 (unhide HZ0).2
  · have HX : Hid (R = imRevert m name) := hide (by rw [unhide HR, him]; rfl)
    have HI := hide (imB_iff.1 him)
    simp only [if_true]
    clear him HR
    go_wp2_with fail
    refine (l10Revert_R a m name R _ (unhide HX) (unhide HI).M (fun s hs => ((unhide HI).snaps s hs).2) (unhide HE1).s).mono ?_
    rintro e w2 ⟨b, ts, rfl, ho, hb⟩
    have HP := hide ((unhide HE1).put hb ho)
    have HE2 := hide ((unhide HE1).below hb)
    clear ho hb c0 c1 c2 c3 r0 r1 r2 r3 z0 z1 z2 z3
    obtain ⟨r0, r1, r2, r3⟩ := (unhide HE2).r.cells
    obtain ⟨z0, z1, z2, z3⟩ := (unhide HE2).r.free
    go_wp2
    refine bodyPost_ret (res_ic Try.results12 rfl rfl (unhide HP).1) rfl ?_
    exact AnsI.of rfl rfl (unhide HP).2.1 (unhide HP).2.2

end Go.Proofs.Ytpdpnepnfhbonaa

namespace Go.Proofs.Ytpdpnepnfhbonaa
open Go.RowKit
set_option linter.unusedVariables false
set_option maxRecDepth 100000

theorem VarT1.new (w : World) (s : ByteArray) : VarT1 (w.alloc (.cells #[.string s] 9)) w.heap.size s := by unfold VarT1; rw [Joins.cell_of_block (heap_alloc_new w _)]; rfl
theorem VarT1.below {w w' : World} {x : Nat} {s : ByteArray} (h : VarT1 w x s) (hb : Below w.heap.size w w') : VarT1 w' x s := (hb.cell (World.block_lt_of_cell? _ _ h)).trans h
theorem VarT1.lt {w : World} {x : Nat} {s : ByteArray} (h : VarT1 w x s) : x < w.heap.size := World.block_lt_of_cell? _ _ h

set_option maxHeartbeats 1600000 in
theorem changeSnaps_any (a : Im4) (m : Img) (name : ByteArray) (F : FuncId) (caps : Array Value) (m1 : Img) (c : Int) (w : World) (hL : ImL m) (hz : name.size ≤ 65536) (hc : ImS w a m)
    (hcf : ∀ (args : Array Value) (W : World), (callFunc F args).run Try.prog W = .ok (.enter F args) W)
    (hch : imB m = true → FitR m1 ∧ ∀ (W : World) (p B : Nat) (a1 : Im4) (ts1 : List Value), Below w.heap.size w W → w.heap.size ≤ B → B ≤ W.heap.size → Hld W p B a1 m ts1 → (m.snaps.length = 0 → a1.sc = 0) → Calls Try.prog F (#[.pointer (some ⟨p, 0, none⟩)] ++ caps) W fun e W' => Chg W W' p B e c m1) :
    Calls Try.prog 27 #[imV a m, .string name, .func (.func F) #[] caps] w fun e w' => AnsI w w' e (if imB m = true then (imFit m1, c) else (im0, 1)) := by
  have HE := hide (ImE.new w a m hc)
  have HL := hide hL
  have HCH := hide hch
  obtain ⟨R, HR⟩ : ∃ R, Hid (R = if imB m = true then (imFit m1, c) else (im0, 1)) := ⟨_, hide rfl⟩
  rw [← unhide HR]
  clear hc hL hch
  go_enter Try.func27, Try.ntmps27
  go_upto_region 1 with fail
  revert HE
  generalize ((w.alloc _).alloc _) = W0
  intro HE
  obtain ⟨c0, c1, c2, c3⟩ := (unhide HE).v.cells
  go_wp2_with fail
  refine (changeImage_any a m F caps m1 c _ (unhide HL) (unhide HE).s hcf (fun him => ⟨(unhide HCH him).1, fun W p B a1 ts1 h1 h2 h3 h4 h5 => (unhide HCH him).2 W p B a1 ts1 (fr (unhide HE).b h1) (Nat.le_trans (unhide HE).b.size h2) h3 h4 h5⟩)).mono ?_
  intro e w2 hans
  rw [← unhide HR] at hans
  obtain ⟨b, ts, rfl, ho, hb⟩ := hans
  have HP := hide ((unhide HE).put hb ho)
  have HE2 := hide ((unhide HE).below hb)
  clear ho hb c0 c1 c2 c3
  obtain ⟨r0, r1, r2, r3⟩ := (unhide HE2).r.cells
  obtain ⟨z0, z1, z2, z3⟩ := (unhide HE2).r.free
  go_wp2
  refine bodyPost_ret (res_ic Try.results27 rfl rfl (unhide HP).1) rfl ?_
  exact AnsI.of rfl rfl (unhide HP).2.1 (unhide HP).2.2

end Go.Proofs.Ytpdpnepnfhbonaa

namespace Go.Proofs.Ytpdpnepnfhbonaa
open Go.RowKit
set_option linter.unusedVariables false
set_option maxRecDepth 100000

def scA (m : Img) (name : ByteArray) : Img × Int := if imB m = true then imCreate m name else (im0, 1)
def crC (m : Img) (name : ByteArray) : Int := (imCreate m name).2
def cr1 (m : Img) (name : ByteArray) : Img := if crC m name = 0 then { m with snaps := m.snaps ++ [⟨name, m.table⟩] } else m
theorem cr_cases (m : Img) (name : ByteArray) : (snmB name = false ∧ imCreate m name = (m, 12)) ∨ (snmB name = true ∧ imFind m name < m.snaps.length ∧ imCreate m name = (m, 8)) ∨ (snmB name = true ∧ ¬ imFind m name < m.snaps.length ∧ m.snaps.length = 3 ∧ imCreate m name = (m, 6)) ∨ (snmB name = true ∧ ¬ imFind m name < m.snaps.length ∧ ¬ m.snaps.length = 3 ∧ imCreate m name = ({ imRaise m m.table with snaps := m.snaps ++ [⟨name, m.table⟩] }, 0)) := by
  cases hn : snmB name
  · exact .inl ⟨rfl, create_name hn⟩
  · by_cases hf : imFind m name < m.snaps.length
    · exact .inr (.inl ⟨rfl, hf, create_twice hn hf⟩)
    · by_cases h3 : m.snaps.length = 3
      · exact .inr (.inr (.inl ⟨rfl, hf, h3, create_many hn hf h3⟩))
      · exact .inr (.inr (.inr ⟨rfl, hf, h3, create_done hn hf h3⟩))
theorem cr_fit {m : Img} (name : ByteArray) (hz : name.size ≤ 65536) (h : ImR m) : FitR (cr1 m name) := by
  unfold cr1 crC
  rcases cr_cases m name with ⟨_, e⟩ | ⟨_, _, e⟩ | ⟨_, _, _, e⟩ | ⟨_, _, h3, e⟩
  · rw [e, if_neg (by simp)]; exact h.fitR
  · rw [e, if_neg (by simp)]; exact h.fitR
  · rw [e, if_neg (by simp)]; exact h.fitR
  · rw [e, if_pos rfl]
    have hf := h.fitR
    have hfw := h.few
    refine ⟨hf.r, hf.d, by simp only [List.length_append, List.length_singleton]; omega, fun t ht => ?_, fun s hs => ?_⟩
    · have ht' : t ∈ m.table :: List.map (fun s : Snp => s.table) (m.snaps ++ [⟨name, m.table⟩]) := ht
      simp only [List.map_append, List.mem_cons, List.mem_append, List.map_cons, List.map_nil, List.not_mem_nil, or_false] at ht'
      rcases ht' with rfl | ht' | rfl
      · exact h.table
      · exact h.tabs t (by unfold imTabs; exact List.mem_cons_of_mem _ ht')
      · exact h.table
    · have hs' : s ∈ m.snaps ++ [⟨name, m.table⟩] := hs
      rw [List.mem_append, List.mem_singleton] at hs'
      rcases hs' with hs' | rfl
      · exact hf.z s hs'
      · exact ⟨by unfold maxLen; simp only; omega, h.M.L.t⟩
theorem cr_ans {m : Img} (name : ByteArray) : (if imB m = true then (imFit (cr1 m name), crC m name) else (im0, 1)) = scA m name := by
  refine ans_eq (fun h => ?_) (fun h => by rw [scA, h]; rfl)
  have hR := imB_iff.1 h
  rw [scA, if_pos h]
  refine ⟨?_, rfl⟩
  unfold cr1 crC
  rcases cr_cases m name with ⟨_, e⟩ | ⟨_, _, e⟩ | ⟨_, _, _, e⟩ | ⟨_, _, h3, e⟩
  · rw [e, if_neg (by simp)]; exact fit_self hR
  · rw [e, if_neg (by simp)]; exact fit_self hR
  · rw [e, if_neg (by simp)]; exact fit_self hR
  · rw [e, if_pos rfl]; exact fit_create hR name

theorem Hld.addS {W w3 w4 : World} {p B g2 cap2 : Nat} {a : Im4} {m : Img} {ts : List Value} {name : ByteArray} {t : Value} {tbl : List Int} (h : Hld W p B a m ts) (hB : B ≤ W.heap.size) (hb : Below W.heap.size W w3) (ht : OwnN w3 W.heap.size t tbl)
    (ho : w4.ownsRow B 60 2 (.slice (some ⟨g2, 0, none⟩) (m.snaps.length + 1) cap2) (m.snaps.length + 1) (snC m.snaps ts ++ [.string name, t])) (hk : Keep (Own (.slice a.so m.snaps.length a.sc)) w3 w4) :
    Hld (w4.setCell ⟨p, 2, none⟩ (.slice (some ⟨g2, 0, none⟩) (m.snaps.length + 1) cap2)) p B { a with so := some ⟨g2, 0, none⟩, sc := cap2 } { m with snaps := m.snaps ++ [⟨name, tbl⟩] } (ts ++ [t]) ∧ Below B W (w4.setCell ⟨p, 2, none⟩ (.slice (some ⟨g2, 0, none⟩) (m.snaps.length + 1) cap2)) := by
  have h3 := h.below hb
  have hv4 : VarM w4 p 26 (.slice a.ro m.refs.length a.rc) (.slice a.tq m.table.length a.tc) (.slice a.so m.snaps.length a.sc) (.slice a.dq m.data.length a.dc) := (hk.block _ h3.v.lt (h3.o.s.other h3.v (by decide))).trans h3.v
  have ho4 := OwnIm.addS h.o hB hb ht ho hk
  have hk4 : Keep (fun g => g = p) w4 (w4.setCell ⟨p, 2, none⟩ (.slice (some ⟨g2, 0, none⟩) (m.snaps.length + 1) cap2)) := (Keep.refl (fun g => g = p) w4).setCell (p := ⟨p, 2, none⟩) rfl _
  refine ⟨⟨?_, ho4.keep hk4 (fun g hg e => ho4.other (v0 := .slice a.ro m.refs.length a.rc) (v1 := .slice a.tq m.table.length a.tc) (v2 := .slice a.so m.snaps.length a.sc) (v3 := .slice a.dq m.data.length a.dc) hv4 (e ▸ hg)), h.p⟩, ?_⟩
  · simp only [List.length_append, List.length_singleton]
    exact hv4.set2 _
  · have hb4 : Below B W w4 := (hb.mono hB).trans (hk.below (Nat.le_trans hB hb.size) (fun g hg => (h3.o.s.ge g hg).1))
    exact hb4.setCell (p := ⟨p, 2, none⟩) h.p _

set_option maxHeartbeats 3200000 in
theorem createC_any (m : Img) (name : ByteArray) (x : Nat) (W : World) (p B : Nat) (a : Im4) (ts : List Value) (hz : name.size ≤ 65536) (hR : ImR m) (hx : VarT1 W x name) (hxB : x < B) (hB : B ≤ W.heap.size) (hh : Hld W p B a m ts) (hc0 : m.snaps.length = 0 → a.sc = 0) :
    Calls Try.prog 28 #[.pointer (some ⟨p, 0, none⟩), .pointer (some ⟨x, 0, none⟩)] W fun e W' => Chg W W' p B e (crC m name) (cr1 m name) := by
  have HH := hide hh
  have HX := hide hx
  have HC := hide (cr_cases m name)
  have HM := hide hR.M
  have HCR : Hid (crC m name = (imCreate m name).2 ∧ cr1 m name = if (imCreate m name).2 = 0 then { m with snaps := m.snaps ++ [⟨name, m.table⟩] } else m) := hide ⟨rfl, rfl⟩
  have HZ : Hid (name.size ≤ maxLen) := hide (by unfold maxLen; omega)
  have HC0 := hide hc0
  clear hc0
  clear hh hR hz
  obtain ⟨j0, hj0, hy0, hy1, hy2⟩ := info_parts infoSn
  have hx' : W.cell? ⟨x, 0, none⟩ = some (.string name) := hx
  clear hx
  go_enter Try.func28, Try.ntmps28
  go_wp2_with fail
  refine (snapNameOK_any name _ (unhide HZ)).mono ?_
  rintro e w1 ⟨rfl, hb⟩
  have HB1 := hide hb
  clear hb hx'
  rcases unhide HC with ⟨hn, e⟩ | ⟨hn, hf, e⟩ | ⟨hn, hf, h3, e⟩ | ⟨hn, hf, h3, e⟩
  · have HE : Hid (crC m name = 12 ∧ cr1 m name = m) := hide (by rw [(unhide HCR).1, (unhide HCR).2, e]; exact ⟨rfl, if_neg (by simp)⟩)
    rw [hn]
    clear e hn
    go_wp2
    go_ret
    rw [(unhide HE).1, (unhide HE).2]
    exact Chg.same 12 (unhide HH) hB (unhide HB1)
  · have HF := hide hf
    have HEE := hide e
    clear hf e
    rw [hn]
    have hS0 : VarM w1.drew p 26 (.slice a.ro m.refs.length a.rc) (.slice a.tq m.table.length a.tc) (.slice a.so m.snaps.length a.sc) (.slice a.dq m.data.length a.dc) ∧ VarT1 w1.drew x name := ⟨((unhide HH).v.below (unhide HB1)).below (Below.refl _ _).drew, ((unhide HX).below (unhide HB1)).below (Below.refl _ _).drew⟩
    have HSN : Hid (Sns w1.drew a.so m.snaps) := hide ((((unhide HH).o.shows (unhide HM).zs).s.below (unhide HB1)).below (Below.refl _ _).drew)
    have HSL := hide (unhide HM).s
    go_upto_region 3 with fail
    refine wp_region_ord (fun w' => VarM w' p 26 (.slice a.ro m.refs.length a.rc) (.slice a.tq m.table.length a.tc) (.slice a.so m.snaps.length a.sc) (.slice a.dq m.data.length a.dc) ∧ VarT1 w' x name) [0, 1, 2, 3, 4] [(0, 0), (1, 0), (2, 0), (3, 0), (4, 0), (5, 3), (6, 4), (7, 4)] (by kernel_rfl) (by kernel_rfl) rfl (by kernel_rfl) ?_
    refine ord_read (.pointer (some ⟨p, 0, none⟩)) rfl rfl hS0 (fun W hW => by go_simp) ?_
    refine ord_read (.pointer (some ⟨p, 0, none⟩)) rfl rfl hS0 (fun W hW => by go_simp) ?_
    refine ord_read (.pointer (some ⟨p, 2, none⟩)) rfl rfl hS0 (fun W hW => by go_simp) ?_
    refine ord_read (.slice a.so m.snaps.length a.sc) rfl rfl hS0 (fun W hW => by obtain ⟨k0, k1, k2, k3⟩ := hW.1.cells; go_simp) ?_
    refine ord_read (.string name) rfl rfl hS0 (fun W hW => by have k0 : W.cell? ⟨x, 0, none⟩ = some (.string name) := hW.2; go_simp) ?_
    clear hS0
    refine ord_alone rfl rfl ?_
    intro K hK
    unfold Oper.wp
    go_simp
    refine (findSnap_any a.so a.sc m.snaps name _ (by have := unhide HSL; unfold maxLen; omega) (unhide HSN)).mono ?_
    rintro e w2 ⟨rfl, hb⟩
    have HB2 := hide (fr (unhide HB1).drew hb)
    clear hb
    refine hK _ _ ?_
    clear hK K
    rw [show fdL m.snaps name = (imFind m name : Int) from if_pos (unhide HF)]
    have e := unhide HEE
    have HE : Hid (crC m name = 8 ∧ cr1 m name = m) := hide (by rw [(unhide HCR).1, (unhide HCR).2, e]; exact ⟨rfl, if_neg (by simp)⟩)
    generalize imFind m name = q at *
    refine ord_val (.bool true) rfl rfl (fun W => by go_simp) ?_
    refine ord_val (.bool true) rfl rfl (fun W => by go_simp) ?_
    refine ord_done ?_
    go_wp2
    go_ret
    rw [(unhide HE).1, (unhide HE).2]
    exact Chg.same 8 (unhide HH) hB (unhide HB2)
  · have HF := hide hf
    have HEE := hide e
    have H3 := hide h3
    clear hf e h3
    rw [hn]
    have hS0 : VarM w1.drew p 26 (.slice a.ro m.refs.length a.rc) (.slice a.tq m.table.length a.tc) (.slice a.so m.snaps.length a.sc) (.slice a.dq m.data.length a.dc) ∧ VarT1 w1.drew x name := ⟨((unhide HH).v.below (unhide HB1)).below (Below.refl _ _).drew, ((unhide HX).below (unhide HB1)).below (Below.refl _ _).drew⟩
    have HSN : Hid (Sns w1.drew a.so m.snaps) := hide ((((unhide HH).o.shows (unhide HM).zs).s.below (unhide HB1)).below (Below.refl _ _).drew)
    have HSL := hide (unhide HM).s
    go_upto_region 3 with fail
    refine wp_region_ord (fun w' => VarM w' p 26 (.slice a.ro m.refs.length a.rc) (.slice a.tq m.table.length a.tc) (.slice a.so m.snaps.length a.sc) (.slice a.dq m.data.length a.dc) ∧ VarT1 w' x name) [0, 1, 2, 3, 4] [(0, 0), (1, 0), (2, 0), (3, 0), (4, 0), (5, 3), (6, 4), (7, 4)] (by kernel_rfl) (by kernel_rfl) rfl (by kernel_rfl) ?_
    refine ord_read (.pointer (some ⟨p, 0, none⟩)) rfl rfl hS0 (fun W hW => by go_simp) ?_
    refine ord_read (.pointer (some ⟨p, 0, none⟩)) rfl rfl hS0 (fun W hW => by go_simp) ?_
    refine ord_read (.pointer (some ⟨p, 2, none⟩)) rfl rfl hS0 (fun W hW => by go_simp) ?_
    refine ord_read (.slice a.so m.snaps.length a.sc) rfl rfl hS0 (fun W hW => by obtain ⟨k0, k1, k2, k3⟩ := hW.1.cells; go_simp) ?_
    refine ord_read (.string name) rfl rfl hS0 (fun W hW => by have k0 : W.cell? ⟨x, 0, none⟩ = some (.string name) := hW.2; go_simp) ?_
    clear hS0
    refine ord_alone rfl rfl ?_
    intro K hK
    unfold Oper.wp
    go_simp
    refine (findSnap_any a.so a.sc m.snaps name _ (by have := unhide HSL; unfold maxLen; omega) (unhide HSN)).mono ?_
    rintro e w2 ⟨rfl, hb⟩
    have HB2 := hide (fr (unhide HB1).drew hb)
    clear hb
    refine hK _ _ ?_
    clear hK K
    rw [show fdL m.snaps name = -1 from if_neg (unhide HF)]
    have e := unhide HEE
    have h3 := unhide H3
    have HE : Hid (crC m name = 6 ∧ cr1 m name = m) := hide (by rw [(unhide HCR).1, (unhide HCR).2, e]; exact ⟨rfl, if_neg (by simp)⟩)
    have b3 : ((m.snaps.length : Int) == 3) = true := by rw [h3]; rfl
    clear h3 e
    refine ord_val (.bool false) rfl rfl (fun W => by go_simp) ?_
    refine ord_val (.bool false) rfl rfl (fun W => by go_simp) ?_
    refine ord_done ?_
    obtain ⟨c0, c1, c2, c3⟩ := ((unhide HH).v.below (unhide HB2)).cells
    go_wp2
    go_ret
    rw [(unhide HE).1, (unhide HE).2]
    exact Chg.same 6 (unhide HH) hB (unhide HB2)
  · have HF := hide hf
    have HEE := hide e
    have H3 := hide h3
    clear hf e h3
    rw [hn]
    have hS0 : VarM w1.drew p 26 (.slice a.ro m.refs.length a.rc) (.slice a.tq m.table.length a.tc) (.slice a.so m.snaps.length a.sc) (.slice a.dq m.data.length a.dc) ∧ VarT1 w1.drew x name := ⟨((unhide HH).v.below (unhide HB1)).below (Below.refl _ _).drew, ((unhide HX).below (unhide HB1)).below (Below.refl _ _).drew⟩
    have HSN : Hid (Sns w1.drew a.so m.snaps) := hide ((((unhide HH).o.shows (unhide HM).zs).s.below (unhide HB1)).below (Below.refl _ _).drew)
    have HSL := hide (unhide HM).s
    go_upto_region 3 with fail
    refine wp_region_ord (fun w' => VarM w' p 26 (.slice a.ro m.refs.length a.rc) (.slice a.tq m.table.length a.tc) (.slice a.so m.snaps.length a.sc) (.slice a.dq m.data.length a.dc) ∧ VarT1 w' x name) [0, 1, 2, 3, 4] [(0, 0), (1, 0), (2, 0), (3, 0), (4, 0), (5, 3), (6, 4), (7, 4)] (by kernel_rfl) (by kernel_rfl) rfl (by kernel_rfl) ?_
    refine ord_read (.pointer (some ⟨p, 0, none⟩)) rfl rfl hS0 (fun W hW => by go_simp) ?_
    refine ord_read (.pointer (some ⟨p, 0, none⟩)) rfl rfl hS0 (fun W hW => by go_simp) ?_
    refine ord_read (.pointer (some ⟨p, 2, none⟩)) rfl rfl hS0 (fun W hW => by go_simp) ?_
    refine ord_read (.slice a.so m.snaps.length a.sc) rfl rfl hS0 (fun W hW => by obtain ⟨k0, k1, k2, k3⟩ := hW.1.cells; go_simp) ?_
    refine ord_read (.string name) rfl rfl hS0 (fun W hW => by have k0 : W.cell? ⟨x, 0, none⟩ = some (.string name) := hW.2; go_simp) ?_
    clear hS0
    refine ord_alone rfl rfl ?_
    intro K hK
    unfold Oper.wp
    go_simp
    refine (findSnap_any a.so a.sc m.snaps name _ (by have := unhide HSL; unfold maxLen; omega) (unhide HSN)).mono ?_
    rintro e w2 ⟨rfl, hb⟩
    have HB2 := hide (fr (unhide HB1).drew hb)
    clear hb
    refine hK _ _ ?_
    clear hK K
    rw [show fdL m.snaps name = -1 from if_neg (unhide HF)]
    have e := unhide HEE
    have h3 := unhide H3
    have HE : Hid (crC m name = 0 ∧ cr1 m name = { m with snaps := m.snaps ++ [⟨name, m.table⟩] }) := hide (by rw [(unhide HCR).1, (unhide HCR).2, e]; exact ⟨rfl, if_pos rfl⟩)
    have b3 : ((m.snaps.length : Int) == 3) = false := by rw [beq_eq_false_iff_ne]; omega
    clear h3 e
    refine ord_val (.bool false) rfl rfl (fun W => by go_simp) ?_
    refine ord_val (.bool false) rfl rfl (fun W => by go_simp) ?_
    refine ord_done ?_
    obtain ⟨c0, c1, c2, c3⟩ := ((unhide HH).v.below (unhide HB2)).cells
    go_upto_region 7 with fail
    clear c0 c1 c2 c3
    have HB3 : Hid (Below W.heap.size W w2.drew) := hide (unhide HB2).drew
    have hS0 : VarM w2.drew p 26 (.slice a.ro m.refs.length a.rc) (.slice a.tq m.table.length a.tc) (.slice a.so m.snaps.length a.sc) (.slice a.dq m.data.length a.dc) ∧ VarT1 w2.drew x name := ⟨(unhide HH).v.below (unhide HB3), (unhide HX).below (unhide HB3)⟩
    have HTI : Hid (Is w2.drew a.tq m.table) := hide (((unhide HH).o.shows (unhide HM).zs).t.below (unhide HB3))
    have HTL := hide (unhide HM).t
    refine wp_region_ord (fun w' => VarM w' p 26 (.slice a.ro m.refs.length a.rc) (.slice a.tq m.table.length a.tc) (.slice a.so m.snaps.length a.sc) (.slice a.dq m.data.length a.dc) ∧ VarT1 w' x name) [0, 1, 2, 3, 4, 5, 6, 7, 8, 9, 10, 11, 12, 13, 14, 15] [(0, 0), (1, 0), (2, 0), (3, 0), (4, 0), (5, 0), (6, 0), (7, 0), (8, 0), (9, 0), (10, 2), (11, 0), (12, 2), (13, 2), (14, 0), (15, 0), (16, 3)] (by kernel_rfl) (by kernel_rfl) rfl (by kernel_rfl) ?_
    refine ord_read (.pointer (some ⟨p, 0, none⟩)) rfl rfl hS0 (fun W hW => by go_simp) ?_
    refine ord_read (.pointer (some ⟨p, 0, none⟩)) rfl rfl hS0 (fun W hW => by go_simp) ?_
    refine ord_read (.pointer (some ⟨p, 0, none⟩)) rfl rfl hS0 (fun W hW => by go_simp) ?_
    refine ord_read (.pointer (some ⟨p, 2, none⟩)) rfl rfl hS0 (fun W hW => by go_simp) ?_
    refine ord_read (.slice a.so m.snaps.length a.sc) rfl rfl hS0 (fun W hW => by obtain ⟨k0, k1, k2, k3⟩ := hW.1.cells; go_simp) ?_
    refine ord_read (.string name) rfl rfl hS0 (fun W hW => by have k0 : W.cell? ⟨x, 0, none⟩ = some (.string name) := hW.2; go_simp) ?_
    refine ord_read (.pointer (some ⟨p, 0, none⟩)) rfl rfl hS0 (fun W hW => by go_simp) ?_
    refine ord_read (.pointer (some ⟨p, 0, none⟩)) rfl rfl hS0 (fun W hW => by go_simp) ?_
    refine ord_read (.pointer (some ⟨p, 1, none⟩)) rfl rfl hS0 (fun W hW => by go_simp) ?_
    refine ord_read (.slice a.tq m.table.length a.tc) rfl rfl hS0 (fun W hW => by obtain ⟨k0, k1, k2, k3⟩ := hW.1.cells; go_simp) ?_
    clear hS0
    refine ord_held rfl rfl ?_
    intro K hK
    unfold Oper.wp
    go_simp
    refine (copyN_any a.tq a.tc m.table _ (by have := unhide HTL; omega) (unhide HTI)).mono ?_
    rintro e w5 ⟨v, rfl, ho5, hb5⟩
    obtain ⟨vo, vc, rfl, _⟩ := id ho5
    have HB5 := hide (fr (unhide HB3) hb5)
    have hS5 : VarM w5 p 26 (.slice a.ro m.refs.length a.rc) (.slice a.tq m.table.length a.tc) (.slice a.so m.snaps.length a.sc) (.slice a.dq m.data.length a.dc) ∧ VarT1 w5 x name := ⟨(unhide HH).v.below (unhide HB5), (unhide HX).below (unhide HB5)⟩
    have HOT : Hid (OwnN w5 W.heap.size (.slice vo m.table.length vc) m.table) := hide (ho5.base (unhide HB3).size)
    refine hK _ _ hS5 ?_
    clear hK K ho5 hb5
    refine ord_read (.agg #[.string name, .slice vo m.table.length vc]) rfl rfl hS5 (fun W hW => by go_simp) ?_
    refine ord_held rfl rfl ?_
    intro K hK
    unfold Oper.wp
    go_simp
    have hb7 : Below W.heap.size W (w5.alloc (.cells #[.string name, .slice vo m.table.length vc] 60)) := fr (unhide HB5) (Joins.below_alloc1 _ _)
    refine hK _ _ ⟨(unhide HH).v.below hb7, (unhide HX).below hb7⟩ ?_
    clear hK K hS5
    have HOT7 := hide ((unhide HOT).below (Joins.below_alloc1 w5 (.cells #[.string name, .slice vo m.table.length vc] 60)))
    have hnew : (w5.alloc (.cells #[.string name, .slice vo m.table.length vc] 60)).heap[w5.heap.size]? = some (.cells #[.string name, .slice vo m.table.length vc] 60 (0, 0)) := heap_alloc_new _ _
    generalize (w5.alloc (.cells #[.string name, .slice vo m.table.length vc] 60)) = W7 at *
    have HH7 := hide ((unhide HH).below hb7)
    have HX7 := hide ((unhide HX).below hb7)
    refine ord_held rfl rfl ?_
    intro K hK
    refine wp_append_one rfl (.tmp 27) (.tmp 35) 24 rfl B 60 j0 (.agg #[.string ⟨#[]⟩, .slice none 0 0]) 2 40 Try.underlying24 hj0 hy0 hy1 hy2 rfl (by omega) a.so m.snaps.length a.sc (snC m.snaps ts) rfl ((unhide HH7).o.s.toR (unhide HC0)) (Nat.le_trans hB hb7.size) ⟨w5.heap.size, 0, none⟩ 1 [.string name, .slice vo m.table.length vc] rfl rfl (snap_news hnew) (snap_one _ _ _ _) (by have := unhide HSL; unfold maxLen; omega) (by have := unhide HSL; omega) ?_
    intro g2 cap2 w8 ho8 hk8
    have hv8 : VarM w8 p 26 (.slice a.ro m.refs.length a.rc) (.slice a.tq m.table.length a.tc) (.slice a.so m.snaps.length a.sc) (.slice a.dq m.data.length a.dc) := (hk8.block _ (unhide HH7).v.lt ((unhide HH7).o.s.other (unhide HH7).v (by decide))).trans (unhide HH7).v
    have hx8 : VarT1 w8 x name := (keep_cell hk8 (fun hg => by have := ((unhide HH7).o.s.ge _ hg).1; simp only at this; omega) (unhide HX7))
    have HN8 := hide (Hld.addS (unhide HH) hB hb7 (unhide HOT7) ho8 hk8)
    refine hK _ _ ⟨hv8, hx8⟩ ?_
    clear hK K ho8 hk8 hnew
    refine ord_read (.pointer (some ⟨p, 0, none⟩)) rfl rfl ⟨hv8, hx8⟩ (fun W hW => by go_simp) ?_
    refine ord_read (.pointer (some ⟨p, 2, none⟩)) rfl rfl ⟨hv8, hx8⟩ (fun W hW => by go_simp) ?_
    obtain ⟨c0, c1, c2, c3⟩ := hv8.cells
    obtain ⟨z0, z1, z2, z3⟩ := hv8.free
    refine ord_alone rfl rfl ?_
    intro K hK
    unfold Oper.wp
    go_simp
    refine hK _ _ ?_
    clear hK K
    refine ord_done ?_
    clear c0 c1 c2 c3 z0 z1 z2 z3
    go_wp2
    go_ret
    rw [(unhide HE).1, (unhide HE).2]
    exact ⟨rfl, _, _, (unhide HN8).1, (unhide HN8).2⟩

set_option maxHeartbeats 1600000 in
theorem snapCreate_impl (a : Im4) (m : Img) (name : ByteArray) (w : World) (hz : name.size ≤ 65536) (hL : ImL m) (hc : ImS w a m) :
    Calls Try.prog 7 #[imV a m, .string name] w fun e w' => AnsI w w' e (scA m name) := by
  have hmf : ∀ (fn : Fn) (first cap : Array Value) (w : World), (Instr.makeFunc fn first cap).run Try.prog w = .ok (.func fn first cap) w := fun _ _ _ _ => rfl
  have HE : Hid (FcE w (((w.alloc (.cells #[.slice a.ro m.refs.length a.rc, .slice a.tq m.table.length a.tc, .slice a.so m.snaps.length a.sc, .slice a.dq m.data.length a.dc] 26)).alloc (.cells #[.string name] 9)).alloc (.cells #[.slice none 0 0, .slice none 0 0, .slice none 0 0, .slice none 0 0] 26)) (w.heap.size + 1 + 1) a m) := hide (by
    refine ⟨?_, ?_, hc.below (fr (fr (Joins.below_alloc1 w _) (Joins.below_alloc1 _ _)) (Joins.below_alloc1 _ _)), fr (fr (Joins.below_alloc1 w _) (Joins.below_alloc1 _ _)) (Joins.below_alloc1 _ _), by omega, by simp⟩
    · exact ((VarM.new w 26 (.slice a.ro m.refs.length a.rc) (.slice a.tq m.table.length a.tc) (.slice a.so m.snaps.length a.sc) (.slice a.dq m.data.length a.dc)).below (Joins.below_alloc1 _ _)).below (Joins.below_alloc1 _ _)
    · have h := VarM.new ((w.alloc (.cells #[.slice a.ro m.refs.length a.rc, .slice a.tq m.table.length a.tc, .slice a.so m.snaps.length a.sc, .slice a.dq m.data.length a.dc] 26)).alloc (.cells #[.string name] 9)) 26 (.slice none 0 0) (.slice none 0 0) (.slice none 0 0) (.slice none 0 0)
      simp only [World.size_alloc] at h
      exact h)
  have HX0 : Hid (VarT1 (((w.alloc (.cells #[.slice a.ro m.refs.length a.rc, .slice a.tq m.table.length a.tc, .slice a.so m.snaps.length a.sc, .slice a.dq m.data.length a.dc] 26)).alloc (.cells #[.string name] 9)).alloc (.cells #[.slice none 0 0, .slice none 0 0, .slice none 0 0, .slice none 0 0] 26)) (w.heap.size + 1) name) := hide (by
    have h : VarT1 (((w.alloc (.cells #[.slice a.ro m.refs.length a.rc, .slice a.tq m.table.length a.tc, .slice a.so m.snaps.length a.sc, .slice a.dq m.data.length a.dc] 26)).alloc (.cells #[.string name] 9)).alloc (.cells #[.slice none 0 0, .slice none 0 0, .slice none 0 0, .slice none 0 0] 26)) (w.alloc (.cells #[.slice a.ro m.refs.length a.rc, .slice a.tq m.table.length a.tc, .slice a.so m.snaps.length a.sc, .slice a.dq m.data.length a.dc] 26)).heap.size name := (VarT1.new (w.alloc (.cells #[.slice a.ro m.refs.length a.rc, .slice a.tq m.table.length a.tc, .slice a.so m.snaps.length a.sc, .slice a.dq m.data.length a.dc] 26)) name).below (Joins.below_alloc1 _ _)
    simp only [World.size_alloc] at h
    exact h)
  have HL := hide hL
  obtain ⟨R, HR⟩ : ∃ R, Hid (R = scA m name) := ⟨_, hide rfl⟩
  rw [← unhide HR]
  clear hc hL
  go_enter Try.func7, Try.ntmps7
  go_upto_region 1 with fail
  revert HE HX0
  generalize (((w.alloc _).alloc _).alloc _) = W0
  intro HE HX0
  obtain ⟨c0, c1, c2, c3⟩ := (unhide HE).v.cells
  have hnx : W0.cell? ⟨w.heap.size + 1, 0, none⟩ = some (.string name) := unhide HX0
  go_wp2_with fail
  refine (changeSnaps_any a m name 28 #[.pointer (some ⟨w.heap.size + 1, 0, none⟩)] (cr1 m name) (crC m name) _ (unhide HL) hz (unhide HE).s (fun _ _ => rfl) (fun him => ⟨cr_fit name hz (imB_iff.1 him), fun W p B a1 ts1 h1 h2 h3 h4 h5 => ?_⟩)).mono ?_
  · exact createC_any m name _ W p B a1 ts1 hz (imB_iff.1 him) ((unhide HX0).below h1) (Nat.lt_of_lt_of_le (unhide HX0).lt h2) h3 h4 h5
  · intro e w2 hans
    rw [cr_ans, ← unhide HR] at hans
    obtain ⟨b, ts, rfl, ho, hb⟩ := hans
    have HP := hide ((unhide HE).put hb ho)
    have HE2 := hide ((unhide HE).below hb)
    clear ho hb c0 c1 c2 c3 hnx
    obtain ⟨r0, r1, r2, r3⟩ := (unhide HE2).r.cells
    obtain ⟨z0, z1, z2, z3⟩ := (unhide HE2).r.free
    go_wp2
    refine bodyPost_ret (res_ic Try.results7 rfl rfl (unhide HP).1) rfl ?_
    exact AnsI.of rfl rfl (unhide HP).2.1 (unhide HP).2.2

end Go.Proofs.Ytpdpnepnfhbonaa

namespace Go.Proofs.Ytpdpnepnfhbonaa
open Go.RowKit
set_option linter.unusedVariables false
set_option maxRecDepth 100000

def srA (m : Img) (name : ByteArray) : Img × Int := if imB m = true then imRevert m name else (im0, 1)
def rvC (m : Img) (name : ByteArray) : Int := if imFind m name < m.snaps.length then 0 else 5
def rv1 (m : Img) (name : ByteArray) : Img := if imFind m name < m.snaps.length then { m with table := (m.snaps[imFind m name]?).elim [] (·.table) } else m
theorem rv_fit {m : Img} (name : ByteArray) (h : ImR m) : FitR (rv1 m name) := by
  unfold rv1
  split
  · rename_i hf
    rw [List.getElem?_eq_getElem hf]
    exact h.fitT (d := m.data) (h.snaps _ (List.getElem_mem hf)).2 h.len
  · exact h.fitR
theorem rv_ans {m : Img} (name : ByteArray) : (if imB m = true then (imFit (rv1 m name), rvC m name) else (im0, 1)) = srA m name := by
  refine ans_eq (fun h => ?_) (fun h => by rw [srA, h]; rfl)
  have hR := imB_iff.1 h
  rw [srA, if_pos h]
  unfold rv1 rvC
  by_cases hf : imFind m name < m.snaps.length
  · rw [if_pos hf, if_pos hf, revert_at hf rfl, List.getElem?_eq_getElem hf]
    exact ⟨fit_revert hR hf, rfl⟩
  · rw [if_neg hf, if_neg hf, revert_none hf]
    exact ⟨fit_self hR, rfl⟩

set_option maxHeartbeats 3200000 in
theorem revertC_any (m : Img) (name : ByteArray) (x : Nat) (W : World) (p B : Nat) (a : Im4) (ts : List Value) (hR : ImR m) (hx : VarT1 W x name) (hxB : x < B) (hB : B ≤ W.heap.size) (hh : Hld W p B a m ts) :
    Calls Try.prog 37 #[.pointer (some ⟨p, 0, none⟩), .pointer (some ⟨x, 0, none⟩)] W fun e W' => Chg W W' p B e (rvC m name) (rv1 m name) := by
  have HH := hide hh
  have HX := hide hx
  have HM := hide hR.M
  clear hh hR hx
  go_enter Try.func37, Try.ntmps37
  have hS0 : VarM W.drew p 26 (.slice a.ro m.refs.length a.rc) (.slice a.tq m.table.length a.tc) (.slice a.so m.snaps.length a.sc) (.slice a.dq m.data.length a.dc) ∧ VarT1 W.drew x name := ⟨(unhide HH).v.below (Below.refl _ _).drew, (unhide HX).below (Below.refl _ _).drew⟩
  have HSN : Hid (Sns W a.so m.snaps) := hide ((unhide HH).o.shows (unhide HM).zs).s
  have HSL := hide (unhide HM).s
  go_upto_region 1 with fail
  refine wp_region_ord (fun w' => VarM w' p 26 (.slice a.ro m.refs.length a.rc) (.slice a.tq m.table.length a.tc) (.slice a.so m.snaps.length a.sc) (.slice a.dq m.data.length a.dc) ∧ VarT1 w' x name) [0, 1, 2, 3, 4] [(0, 0), (1, 0), (2, 0), (3, 0), (4, 0), (5, 3), (6, 4)] (by kernel_rfl) (by kernel_rfl) rfl (by kernel_rfl) ?_
  refine ord_read (.pointer (some ⟨p, 0, none⟩)) rfl rfl hS0 (fun W hW => by go_simp) ?_
  refine ord_read (.pointer (some ⟨p, 0, none⟩)) rfl rfl hS0 (fun W hW => by go_simp) ?_
  refine ord_read (.pointer (some ⟨p, 2, none⟩)) rfl rfl hS0 (fun W hW => by go_simp) ?_
  refine ord_read (.slice a.so m.snaps.length a.sc) rfl rfl hS0 (fun W hW => by obtain ⟨k0, k1, k2, k3⟩ := hW.1.cells; go_simp) ?_
  refine ord_read (.string name) rfl rfl hS0 (fun W hW => by have k0 : W.cell? ⟨x, 0, none⟩ = some (.string name) := hW.2; go_simp) ?_
  clear hS0
  refine ord_alone rfl rfl ?_
  intro K hK
  unfold Oper.wp
  go_simp
  refine (findSnap_any a.so a.sc m.snaps name _ (by have := unhide HSL; unfold maxLen; omega) ((unhide HSN).below (Below.refl _ _).drew)).mono ?_
  rintro e w2 ⟨rfl, hb⟩
  have HB2 : Hid (Below W.heap.size W w2) := hide (fr (Below.refl _ _).drew hb)
  clear hb
  refine hK _ _ ?_
  clear hK K
  refine ord_val (.int .i64 (fdL m.snaps name)) rfl rfl (fun W => by go_simp) ?_
  refine ord_done ?_
  by_cases hf : imFind m name < m.snaps.length
  case neg =>
    have HE : Hid (rvC m name = 5 ∧ rv1 m name = m) := hide ⟨if_neg hf, if_neg hf⟩
    rw [show fdL m.snaps name = -1 from if_neg hf]
    clear hf
    go_wp2
    go_ret
    rw [(unhide HE).1, (unhide HE).2]
    exact Chg.same 5 (unhide HH) hB (unhide HB2)
  have HE0 : Hid (rvC m name = 0 ∧ rv1 m name = { m with table := (m.snaps[imFind m name]?).elim [] (·.table) }) := hide ⟨if_pos hf, if_pos hf⟩
  rw [show fdL m.snaps name = (imFind m name : Int) from if_pos hf]
  obtain ⟨q, hq⟩ : ∃ q, imFind m name = q := ⟨_, rfl⟩
  rw [hq] at HE0 hf ⊢
  have hqi : (q : Int) < (m.snaps.length : Int) := by omega
  have HQL := hide hf
  clear hq hf
  obtain ⟨bs, off, tq, tc, es, _, ht0, hIs, _, _⟩ := ((unhide HSN).below (unhide HB2)) q (unhide HQL)
  obtain ⟨t, ht⟩ : ∃ t, m.snaps[q]'(unhide HQL) = t := ⟨_, rfl⟩
  have HE1 : Hid (rv1 m name = { m with table := t.table }) := hide (by rw [(unhide HE0).2, List.getElem?_eq_getElem (unhide HQL), ht]; rfl)
  have HEC := hide (unhide HE0).1
  have htl : t.table.length ≤ 12 := by rw [← ht]; exact ((unhide HM).st _ (List.getElem_mem (unhide HQL))).1
  rw [ht] at ht0 hIs
  have HIS := hide hIs
  obtain ⟨c0, c1, c2, c3⟩ := ((unhide HH).v.below (unhide HB2)).cells
  rw [es] at c2
  clear hIs ht es HE0
  go_wp2_with fail
  refine (copyN_any tq tc t.table _ (by omega) (unhide HIS)).mono ?_
  rintro e w3 ⟨v, rfl, ho3, hb3⟩
  obtain ⟨vo, vc, rfl, _⟩ := id ho3
  have HS3 := hide ((unhide HH).freshT (fr (unhide HB2) hb3) (ho3.base (unhide HB2).size) hB)
  have hv3 := (unhide HH).v.below (fr (unhide HB2) hb3)
  clear ho3 hb3 c0 c1 c2 c3 ht0
  obtain ⟨c0, c1, c2, c3⟩ := hv3.cells
  obtain ⟨z0, z1, z2, z3⟩ := hv3.free
  go_wp2
  go_ret
  rw [unhide HEC, unhide HE1]
  exact ⟨rfl, _, _, (unhide HS3).1, (unhide HS3).2⟩

set_option maxHeartbeats 1600000 in
theorem snapRevert_impl (a : Im4) (m : Img) (name : ByteArray) (w : World) (hz : name.size ≤ 65536) (hL : ImL m) (hc : ImS w a m) :
    Calls Try.prog 11 #[imV a m, .string name] w fun e w' => AnsI w w' e (srA m name) := by
  have hmf : ∀ (fn : Fn) (first cap : Array Value) (w : World), (Instr.makeFunc fn first cap).run Try.prog w = .ok (.func fn first cap) w := fun _ _ _ _ => rfl
  have HE : Hid (FcE w (((w.alloc (.cells #[.slice a.ro m.refs.length a.rc, .slice a.tq m.table.length a.tc, .slice a.so m.snaps.length a.sc, .slice a.dq m.data.length a.dc] 26)).alloc (.cells #[.string name] 9)).alloc (.cells #[.slice none 0 0, .slice none 0 0, .slice none 0 0, .slice none 0 0] 26)) (w.heap.size + 1 + 1) a m) := hide (by
    refine ⟨?_, ?_, hc.below (fr (fr (Joins.below_alloc1 w _) (Joins.below_alloc1 _ _)) (Joins.below_alloc1 _ _)), fr (fr (Joins.below_alloc1 w _) (Joins.below_alloc1 _ _)) (Joins.below_alloc1 _ _), by omega, by simp⟩
    · exact ((VarM.new w 26 (.slice a.ro m.refs.length a.rc) (.slice a.tq m.table.length a.tc) (.slice a.so m.snaps.length a.sc) (.slice a.dq m.data.length a.dc)).below (Joins.below_alloc1 _ _)).below (Joins.below_alloc1 _ _)
    · have h := VarM.new ((w.alloc (.cells #[.slice a.ro m.refs.length a.rc, .slice a.tq m.table.length a.tc, .slice a.so m.snaps.length a.sc, .slice a.dq m.data.length a.dc] 26)).alloc (.cells #[.string name] 9)) 26 (.slice none 0 0) (.slice none 0 0) (.slice none 0 0) (.slice none 0 0)
      simp only [World.size_alloc] at h
      exact h)
  have HX0 : Hid (VarT1 (((w.alloc (.cells #[.slice a.ro m.refs.length a.rc, .slice a.tq m.table.length a.tc, .slice a.so m.snaps.length a.sc, .slice a.dq m.data.length a.dc] 26)).alloc (.cells #[.string name] 9)).alloc (.cells #[.slice none 0 0, .slice none 0 0, .slice none 0 0, .slice none 0 0] 26)) (w.heap.size + 1) name) := hide (by
    have h : VarT1 (((w.alloc (.cells #[.slice a.ro m.refs.length a.rc, .slice a.tq m.table.length a.tc, .slice a.so m.snaps.length a.sc, .slice a.dq m.data.length a.dc] 26)).alloc (.cells #[.string name] 9)).alloc (.cells #[.slice none 0 0, .slice none 0 0, .slice none 0 0, .slice none 0 0] 26)) (w.alloc (.cells #[.slice a.ro m.refs.length a.rc, .slice a.tq m.table.length a.tc, .slice a.so m.snaps.length a.sc, .slice a.dq m.data.length a.dc] 26)).heap.size name := (VarT1.new (w.alloc (.cells #[.slice a.ro m.refs.length a.rc, .slice a.tq m.table.length a.tc, .slice a.so m.snaps.length a.sc, .slice a.dq m.data.length a.dc] 26)) name).below (Joins.below_alloc1 _ _)
    simp only [World.size_alloc] at h
    exact h)
  have HL := hide hL
  obtain ⟨R, HR⟩ : ∃ R, Hid (R = srA m name) := ⟨_, hide rfl⟩
  rw [← unhide HR]
  clear hc hL
  go_enter Try.func11, Try.ntmps11
  go_upto_region 1 with fail
  revert HE HX0
  generalize (((w.alloc _).alloc _).alloc _) = W0
  intro HE HX0
  obtain ⟨c0, c1, c2, c3⟩ := (unhide HE).v.cells
  have hnx : W0.cell? ⟨w.heap.size + 1, 0, none⟩ = some (.string name) := unhide HX0
  go_wp2_with fail
  refine (changeSnaps_any a m name 37 #[.pointer (some ⟨w.heap.size + 1, 0, none⟩)] (rv1 m name) (rvC m name) _ (unhide HL) hz (unhide HE).s (fun _ _ => rfl) (fun him => ⟨rv_fit name (imB_iff.1 him), fun W p B a1 ts1 h1 h2 h3 h4 h5 => ?_⟩)).mono ?_
  · exact revertC_any m name _ W p B a1 ts1 (imB_iff.1 him) ((unhide HX0).below h1) (Nat.lt_of_lt_of_le (unhide HX0).lt h2) h3 h4
  · intro e w2 hans
    rw [rv_ans, ← unhide HR] at hans
    obtain ⟨b, ts, rfl, ho, hb⟩ := hans
    have HP := hide ((unhide HE).put hb ho)
    have HE2 := hide ((unhide HE).below hb)
    clear ho hb c0 c1 c2 c3 hnx
    obtain ⟨r0, r1, r2, r3⟩ := (unhide HE2).r.cells
    obtain ⟨z0, z1, z2, z3⟩ := (unhide HE2).r.free
    go_wp2
    refine bodyPost_ret (res_ic Try.results11 rfl rfl (unhide HP).1) rfl ?_
    exact AnsI.of rfl rfl (unhide HP).2.1 (unhide HP).2.2

end Go.Proofs.Ytpdpnepnfhbonaa

namespace Go.Proofs.Ytpdpnepnfhbonaa
open Go.RowKit
set_option linter.unusedVariables false
set_option maxRecDepth 100000

theorem ownsRow_pre {w : World} {B e size g n cap q : Nat} {xs : List Value} (h : w.ownsRow B e size (.slice (some ⟨g, 0, none⟩) n cap) n xs) (hq : q ≤ n) : w.ownsRow B e size (.slice (some ⟨g, 0, none⟩) q cap) q (xs.take (q * size)) := by
  have hm : q * size ≤ n * size := Nat.mul_le_mul_right _ hq
  rcases h.2 with ⟨h', _⟩ | ⟨g', cap', cur, h', hb, hg, hnc, hcm, hcs, htake⟩
  · simp at h'
  · simp only [Value.slice.injEq, Option.some.injEq, Addr.mk.injEq, and_true, true_and] at h'
    obtain ⟨rfl, rfl⟩ := h'
    refine ⟨by rw [List.length_take, h.1]; omega, .inr ⟨g, cap, cur, rfl, hb, hg, by omega, hcm, hcs, ?_⟩⟩
    rw [← htake, List.take_take, Nat.min_eq_left hm]
theorem ownsRow_some {w : World} {B e size g n cap : Nat} {xs : List Value} (h : w.ownsRow B e size (.slice (some ⟨g, 0, none⟩) n cap) n xs) {j : Nat} (hj : j < cap * size) : (w.cell? ⟨g, j, none⟩).isSome = true := by
  rcases h.2 with ⟨h', _⟩ | ⟨g', cap', cur, h', hb, hg, hnc, hcm, hcs, htake⟩
  · simp at h'
  · simp only [Value.slice.injEq, Option.some.injEq, Addr.mk.injEq, and_true, true_and] at h'
    obtain ⟨rfl, rfl⟩ := h'
    rw [Joins.cell_of_block hg, Array.getElem?_eq_getElem (by rw [hcs]; exact hj)]; rfl
theorem ownsRow_caps {w : World} {B e size g n cap : Nat} {xs : List Value} (h : w.ownsRow B e size (.slice (some ⟨g, 0, none⟩) n cap) n xs) : n ≤ cap ∧ cap ≤ maxLen ∧ B ≤ g ∧ g < w.heap.size := by
  rcases h.2 with ⟨h', _⟩ | ⟨g', cap', cur, h', hb, hg, hnc, hcm, hcs, htake⟩
  · simp at h'
  · simp only [Value.slice.injEq, Option.some.injEq, Addr.mk.injEq, and_true, true_and] at h'
    obtain ⟨rfl, rfl⟩ := h'
    exact ⟨hnc, hcm, hb, (Array.getElem?_eq_some_iff.1 hg).1⟩
theorem snC_takeD : ∀ (ss : List Snp) (ts : List Value) (q : Nat), ss.length = ts.length → (snC ss ts).take (q * 2) = snC (ss.take q) (ts.take q) := fun ss ts q h => by
  by_cases hq : q ≤ ss.length
  · rw [snC_whole ss ts q h, List.take_append_of_le_length (by rw [snC_length _ _ (by rw [List.length_take, List.length_take, h]), List.length_take]; omega), List.take_of_length_le (by rw [snC_length _ _ (by rw [List.length_take, List.length_take, h]), List.length_take]; omega)]
  · rw [List.take_of_length_le (by rw [snC_length _ _ h]; omega), List.take_of_length_le (by omega), List.take_of_length_le (by omega)]

section
variable {P : Program}
theorem wp_append_in {w : World} {o : Oper} {a : Act} {K : Act → World → Prop} {Q : Exit → Act → World → Prop} (hgd : o.guard = none) (s x : Operand) (t : TypeId)
    (ho : o.op = .call { callee := .builtin .append, args := #[s, x], argTypes := #[t, t] })
    (B : Nat) (e : TypeId) (i : TypeInfo) (size : Nat) (ht : P.underlying t = some (.slice e)) (hi : P.info? e = some i) (hsize : i.size = size)
    (g n cap : Nat) (xs : List Value) (hs : a.eval s = .slice (some ⟨g, 0, none⟩) n cap) (h : w.ownsRow B e size (.slice (some ⟨g, 0, none⟩) n cap) n xs)
    (so : Option Addr) (m c : Nat) (news : List Value) (hx : a.eval x = .slice so m c) (hl : news.length = m * size) (hnews : 0 < m → ∃ ad, so = some ad ∧ ∀ j u, news[j]? = some u → w.cell? (ad.add j) = some u) (h1 : ∀ u ∈ news, u.oneCell' = true) (hroom : n + m ≤ cap)
    (hK : ∀ w', w'.ownsRow B e size (.slice (some ⟨g, 0, none⟩) (n + m) cap) (n + m) (xs ++ news) → Keep (fun k => k = g) w w' → K (a.put o.dst (.slice (some ⟨g, 0, none⟩) (n + m) cap)) w') : o.wp P a w K Q := by
  by_cases hm : 0 < m
  · obtain ⟨ad, rfl, hnew⟩ := hnews hm
    obtain ⟨w', hrun, r1, r2⟩ := run_append_fits (P := P) w B t o.type e i size ht hi hsize g n cap xs h ad m c news hl hnew h1 hroom
    unfold Oper.wp
    simp [execOp, ho, resolve, invoke, builtin, hs, hx, hrun, Result.andThen]
    exact hK _ r1 (keep_grown r2 (fun k hk => by cases hk; rfl))
  · obtain rfl : m = 0 := by omega
    have hn : news = [] := List.eq_nil_of_length_eq_zero (by omega)
    subst hn
    have hrun := run_append_zero (P := P) w t o.type e i ht hi (some ⟨g, 0, none⟩) so n cap c (ownsRow_caps h).1
    unfold Oper.wp
    simp [execOp, ho, resolve, invoke, builtin, hs, hx, hrun, Result.andThen]
    exact hK _ (by simpa using h) (Keep.refl _ _)
end
theorem run_clear_sn (w : World) (g o c : Nat) (ty : TypeId) (hc : ∀ j, j < 2 → (w.cell? ⟨g, o + j, none⟩).isSome = true) (hf : ∀ j, j < 2 → w.frozen? ⟨g, o + j, none⟩ = false) :
    (Builtin.clear_ #[24] ty #[.slice (some ⟨g, o, none⟩) 1 c]).run Try.prog w = .ok (.tuple #[]) ((w.setCell ⟨g, o, none⟩ (.string ⟨#[]⟩)).setCell ⟨g, o + 1, none⟩ (.slice none 0 0)) := by
  have hzc : (Builtin.zeroCells (Value.agg #[.string ⟨#[]⟩, .slice none 0 0]).cells 1).toList = [.string ⟨#[]⟩, .slice none 0 0] := by kernel_rfl
  have hst := run_storeCells_cells (P := Try.prog) g o [.string ⟨#[]⟩, .slice none 0 0] 0 w (by simpa using hc) (by simpa using hf) (by intro v hv; simp at hv; rcases hv with rfl | rfl <;> rfl)
  simp only [World.setCells, Nat.add_zero] at hst
  simp [Builtin.clear_, run_underlying Try.underlying24, hzc, hst]

set_option maxHeartbeats 3200000 in
theorem deleteSn_any (w : World) (B g cap q : Nat) (ss : List Snp) (ts : List Value) (hl : ss.length = ts.length) (hq : q < ss.length) (h3 : ss.length ≤ 1000) (hone : ∀ u ∈ snC ss ts, u.oneCell' = true) (ho : w.ownsRow B 60 2 (.slice (some ⟨g, 0, none⟩) ss.length cap) ss.length (snC ss ts)) :
    Calls Try.prog 35 #[.slice (some ⟨g, 0, none⟩) ss.length cap, .int .i64 (q : Int), .int .i64 ((q : Int) + 1)] w fun e w' => e = .returned (.slice (some ⟨g, 0, none⟩) (q + (ss.length - (q + 1))) cap) ∧ OwnS w' B 60 2 (.slice (some ⟨g, 0, none⟩) (q + (ss.length - (q + 1))) cap) (q + (ss.length - (q + 1))) (snC (ss.eraseIdx q) (ts.eraseIdx q)) ∧ Keep (fun k => k = g) w w' := by
  have HO := hide ho
  have HL := hide hl
  have HON : Hid (∀ u ∈ snC (ss.drop (q + 1)) (ts.drop (q + 1)), u.oneCell' = true) := hide (fun u hu => hone u (by rw [snC_whole ss ts (q + 1) hl]; exact List.mem_append_right _ hu))
  obtain ⟨hnc, hcm, _, _⟩ := ownsRow_caps ho
  unfold maxLen at hcm
  have hqn : (q : Int) + 1 ≤ (ss.length : Int) := by omega
  have hqc : (q : Int) + 1 ≤ (cap : Int) := by omega
  have hqc0 : (q : Int) ≤ (cap : Int) := by omega
  have hncI : (ss.length : Int) ≤ (cap : Int) := by omega
  have h01 : (0 : Int) ≤ (q : Int) + 1 := by omega
  have hqq : ((q : Int) == (q : Int) + 1) = false := by rw [beq_eq_false_iff_ne]; omega
  have hq2 : (q : Int) ≤ (q : Int) + 1 := by omega
  have htn : ((q : Int) + 1).toNat = q + 1 := by omega
  have hc0 : ¬ cap = 0 := by omega
  obtain ⟨j0, hj0, hy0, hy1, hy2⟩ := info_parts infoSn
  obtain ⟨so2, HSO⟩ : ∃ so2, Hid (so2 = if cap = q + 1 then some (⟨g, 0, none⟩ : Addr) else some ⟨g, (q + 1) * 2, none⟩) := ⟨_, hide rfl⟩
  have HN2 : Hid (0 < ss.length - (q + 1) → so2 = some ⟨g, (q + 1) * 2, none⟩) := hide (fun h => by rw [unhide HSO, if_neg (by omega)])
  clear ho hl hone
  go_enter Try.func35, Try.ntmps35
  go_upto_region 5 with fail
  refine wp_region_ord (fun w' => True) [0, 1, 2, 3, 4, 5] [(0, 0), (1, 0), (2, 0), (3, 0), (4, 0), (5, 0), (6, 3), (7, 4)] (by kernel_rfl) (by kernel_rfl) rfl (by kernel_rfl) ?_
  refine ord_read (.slice (some ⟨g, 0, none⟩) ss.length cap) rfl rfl trivial (fun W hW => by go_simp) ?_
  refine ord_read (.int .i64 q) rfl rfl trivial (fun W hW => by go_simp) ?_
  refine ord_read (.slice (some ⟨g, 0, none⟩) q cap) rfl rfl trivial (fun W hW => by go_simp) ?_
  refine ord_read (.slice (some ⟨g, 0, none⟩) ss.length cap) rfl rfl trivial (fun W hW => by go_simp) ?_
  refine ord_read (.int .i64 ((q : Int) + 1)) rfl rfl trivial (fun W hW => by go_simp) ?_
  refine ord_read (.slice so2 (ss.length - (q + 1)) (cap - (q + 1))) rfl rfl trivial (fun W hW => by rw [unhide HSO]; go_simp) ?_
  refine ord_alone rfl rfl ?_
  intro K hK
  have hod : w.drew.ownsRow B 60 2 (.slice (some ⟨g, 0, none⟩) ss.length cap) ss.length (snC ss ts) := unhide HO
  refine wp_append_in rfl (.tmp 22) (.tmp 25) 24 rfl B 60 j0 2 Try.underlying24 hj0 hy1 g q cap ((snC ss ts).take (q * 2)) rfl (ownsRow_pre hod (by omega)) so2 (ss.length - (q + 1)) (cap - (q + 1)) (snC (ss.drop (q + 1)) (ts.drop (q + 1))) rfl (by rw [snC_length _ _ (by rw [List.length_drop, List.length_drop, unhide HL]), List.length_drop]) (fun h => ⟨_, unhide HN2 h, ownSn_cells (unhide HL) hod (q + 1)⟩) (unhide HON) (by omega) ?_
  intro w1 ho1 hk1
  rw [snC_takeD _ _ _ (unhide HL), ← snC_erase _ _ _ (unhide HL)] at ho1
  refine hK _ _ ?_
  clear hK K
  refine ord_val (.slice (some ⟨g, 0, none⟩) (q + (ss.length - (q + 1))) cap) rfl rfl (fun W => by go_simp) ?_
  refine ord_done ?_
  obtain ⟨n', hn'⟩ : ∃ n', n' = q + (ss.length - (q + 1)) := ⟨_, rfl⟩
  rw [← hn'] at ho1 ⊢
  have hnn : ss.length = n' + 1 := by omega
  have HK1 : Hid (Keep (fun k => k = g) w w1) := hide ((Keep.of_below (Below.refl _ w).drew).trans hk1)
  have hcl : ∀ ty, (Builtin.clear_ #[24] ty #[.slice (some ⟨g, n' * 2, none⟩) 1 (cap - n')]).run Try.prog w1 = .ok (.tuple #[]) ((w1.setCell ⟨g, n' * 2, none⟩ (.string ⟨#[]⟩)).setCell ⟨g, n' * 2 + 1, none⟩ (.slice none 0 0)) := fun ty => run_clear_sn w1 g (n' * 2) (cap - n') ty (fun j hj => ownsRow_some ho1 (by omega)) (fun j hj => ho1.frozenAt _)
  have HO1 := hide ho1
  have hn1 : (n' : Int) ≤ (n' : Int) + 1 := by omega
  have hn2 : (n' : Int) + 1 ≤ (cap : Int) := by omega
  have hn3 : ¬ cap = n' := by omega
  have hn4 : (0 : Int) ≤ (n' : Int) + 1 := by omega
  have hn5 : ((n' : Int) + 1).toNat = n' + 1 := by omega
  have hn6 : n' + 1 - n' = 1 := by omega
  have HNN := hide hn'
  clear ho1 hk1 HO HON HN2 HSO hod hn'
  simp only [hnn]
  go_wp2
  go_ret
  rw [← unhide HNN]
  refine ⟨rfl, ?_, ?_⟩
  · by_cases h0 : n' = 0
    · have he : snC (ss.eraseIdx q) (ts.eraseIdx q) = [] := List.eq_nil_of_length_eq_zero (by have := (unhide HO1).1; rw [h0] at this; simpa using this)
      exact .inl ⟨h0, he, _, _, by rw [h0]⟩
    · have e1 := ((unhide HO1).stored (n' * 2) (.string ⟨#[]⟩)).1
      rw [List.set_eq_of_length_le (by rw [(unhide HO1).1]; omega)] at e1
      have e2 := (e1.stored (n' * 2 + 1) (.slice none 0 0)).1
      rw [List.set_eq_of_length_le (by rw [(unhide HO1).1]; omega)] at e2
      exact .inr ⟨by omega, e2⟩
  · exact ((unhide HK1).setCell (p := ⟨g, n' * 2, none⟩) rfl _).setCell (p := ⟨g, n' * 2 + 1, none⟩) rfl _

end Go.Proofs.Ytpdpnepnfhbonaa

namespace Go.Proofs.Ytpdpnepnfhbonaa
open Go.RowKit
set_option linter.unusedVariables false
set_option maxRecDepth 100000

def sdA (m : Img) (name : ByteArray) : Img × Int := if imB m = true then imDelete m name else (im0, 1)
def dtC (m : Img) (name : ByteArray) : Int := if imFind m name < m.snaps.length then 0 else 5
def dt1 (m : Img) (name : ByteArray) : Img := if imFind m name < m.snaps.length then { m with snaps := m.snaps.eraseIdx (imFind m name) } else m
theorem dt_fit {m : Img} (name : ByteArray) (h : ImR m) : FitR (dt1 m name) := by
  unfold dt1
  split
  · have hf := h.fitR
    refine ⟨hf.r, hf.d, by simp only [List.length_eraseIdx]; have := h.few; split <;> omega, fun t ht => ?_, fun s hs => hf.z s (List.mem_of_mem_eraseIdx hs)⟩
    have ht' : t ∈ m.table :: (m.snaps.eraseIdx (imFind m name)).map (·.table) := ht
    rw [List.mem_cons, map_erase] at ht'
    rcases ht' with rfl | ht'
    · exact h.table
    · exact h.tabs t (by unfold imTabs; exact List.mem_cons_of_mem _ (List.mem_of_mem_eraseIdx ht'))
  · exact h.fitR
theorem dt_ans {m : Img} (name : ByteArray) : (if imB m = true then (imFit (dt1 m name), dtC m name) else (im0, 1)) = sdA m name := by
  refine ans_eq (fun h => ?_) (fun h => by rw [sdA, h]; rfl)
  have hR := imB_iff.1 h
  rw [sdA, if_pos h]
  unfold dt1 dtC
  by_cases hf : imFind m name < m.snaps.length
  · rw [if_pos hf, if_pos hf, delete_at hf rfl]
    exact ⟨fit_delete hR hf, rfl⟩
  · rw [if_neg hf, if_neg hf, delete_none hf]
    exact ⟨fit_self hR, rfl⟩
theorem Hld.delS {W W1 : World} {p B g q n cap : Nat} {a : Im4} {m : Img} {ts : List Value} (h : Hld W p B a m ts) (hB : B ≤ W.heap.size) (hq : q < m.snaps.length) (hg : a.so = some ⟨g, 0, none⟩) (hc : a.sc = cap) (hn : (m.snaps.eraseIdx q).length = n) (hk : Keep (fun k => k = g) W W1)
    (ho : OwnS W1 B 60 2 (.slice (some ⟨g, 0, none⟩) n cap) n (snC (m.snaps.eraseIdx q) (ts.eraseIdx q))) :
    Hld (W1.setCell ⟨p, 2, none⟩ (.slice (some ⟨g, 0, none⟩) n cap)) p B { a with so := some ⟨g, 0, none⟩, sc := cap } { m with snaps := m.snaps.eraseIdx q } (ts.eraseIdx q) ∧ Below B W (W1.setCell ⟨p, 2, none⟩ (.slice (some ⟨g, 0, none⟩) n cap)) := by
  have hso : Own (.slice a.so m.snaps.length a.sc) g := by rw [hg]; exact own_of (by omega) rfl
  have hgB := (h.o.s.ge g hso).1
  have hnp : p ≠ g := fun e => h.o.s.other h.v (by decide) (e ▸ hso)
  have hv1 : VarM W1 p 26 (.slice a.ro m.refs.length a.rc) (.slice a.tq m.table.length a.tc) (.slice a.so m.snaps.length a.sc) (.slice a.dq m.data.length a.dc) := (hk.block _ h.v.lt hnp).trans h.v
  have hrows : OwnA W1 B (imRows a m ts) := h.o.rows.keep hk (fun r hr x hx e => own_apartS (h.o.rows.own r hr).row h.o.s (by decide) x hx (e ▸ hso))
  have ho1 : OwnIm W1 B { a with so := some ⟨g, 0, none⟩, sc := cap } { m with snaps := m.snaps.eraseIdx q } (ts.eraseIdx q) := by
    refine ⟨by simp only [List.length_eraseIdx, h.o.len], ?_, ?_⟩
    · show OwnS W1 B 60 2 (.slice (some ⟨g, 0, none⟩) (m.snaps.eraseIdx q).length cap) (m.snaps.eraseIdx q).length _
      rw [hn]
      exact ho
    · refine hrows.sub ?_
      show List.Sublist ((.slice a.ro m.refs.length a.rc, m.refs) :: (.slice a.tq m.table.length a.tc, m.table) :: (.slice a.dq m.data.length a.dc, m.data) :: (ts.eraseIdx q).zip ((m.snaps.eraseIdx q).map (·.table))) ((.slice a.ro m.refs.length a.rc, m.refs) :: (.slice a.tq m.table.length a.tc, m.table) :: (.slice a.dq m.data.length a.dc, m.data) :: ts.zip (m.snaps.map (·.table)))
      rw [map_tabs_erase, zip_erase]
      exact ((List.eraseIdx_sublist _ _).cons_cons _).cons_cons _ |>.cons_cons _
  have hk2 : Keep (fun x => x = p) W1 (W1.setCell ⟨p, 2, none⟩ (.slice (some ⟨g, 0, none⟩) n cap)) := (Keep.refl (fun x => x = p) W1).setCell (p := ⟨p, 2, none⟩) rfl _
  refine ⟨⟨?_, ho1.keep hk2 (fun x hx e => ho1.other (v0 := .slice a.ro m.refs.length a.rc) (v1 := .slice a.tq m.table.length a.tc) (v2 := .slice a.so m.snaps.length a.sc) (v3 := .slice a.dq m.data.length a.dc) hv1 (e ▸ hx)), h.p⟩, ?_⟩
  · simp only [hn]
    exact hv1.set2 _
  · exact (hk.below hB (fun k e => by omega)).setCell (p := ⟨p, 2, none⟩) h.p _

set_option maxHeartbeats 3200000 in
theorem deleteC_any (m : Img) (name : ByteArray) (x : Nat) (W : World) (p B : Nat) (a : Im4) (ts : List Value) (hR : ImR m) (hx : VarT1 W x name) (hxB : x < B) (hB : B ≤ W.heap.size) (hh : Hld W p B a m ts) :
    Calls Try.prog 34 #[.pointer (some ⟨p, 0, none⟩), .pointer (some ⟨x, 0, none⟩)] W fun e W' => Chg W W' p B e (dtC m name) (dt1 m name) := by
  have HH := hide hh
  have HX := hide hx
  have HM := hide hR.M
  clear hh hR hx
  go_enter Try.func34, Try.ntmps34
  have hS0 : VarM W.drew p 26 (.slice a.ro m.refs.length a.rc) (.slice a.tq m.table.length a.tc) (.slice a.so m.snaps.length a.sc) (.slice a.dq m.data.length a.dc) ∧ VarT1 W.drew x name := ⟨(unhide HH).v.below (Below.refl _ _).drew, (unhide HX).below (Below.refl _ _).drew⟩
  have HSN : Hid (Sns W a.so m.snaps) := hide ((unhide HH).o.shows (unhide HM).zs).s
  have HSL := hide (unhide HM).s
  go_upto_region 1 with fail
  refine wp_region_ord (fun w' => VarM w' p 26 (.slice a.ro m.refs.length a.rc) (.slice a.tq m.table.length a.tc) (.slice a.so m.snaps.length a.sc) (.slice a.dq m.data.length a.dc) ∧ VarT1 w' x name) [0, 1, 2, 3, 4] [(0, 0), (1, 0), (2, 0), (3, 0), (4, 0), (5, 3), (6, 4)] (by kernel_rfl) (by kernel_rfl) rfl (by kernel_rfl) ?_
  refine ord_read (.pointer (some ⟨p, 0, none⟩)) rfl rfl hS0 (fun W hW => by go_simp) ?_
  refine ord_read (.pointer (some ⟨p, 0, none⟩)) rfl rfl hS0 (fun W hW => by go_simp) ?_
  refine ord_read (.pointer (some ⟨p, 2, none⟩)) rfl rfl hS0 (fun W hW => by go_simp) ?_
  refine ord_read (.slice a.so m.snaps.length a.sc) rfl rfl hS0 (fun W hW => by obtain ⟨k0, k1, k2, k3⟩ := hW.1.cells; go_simp) ?_
  refine ord_read (.string name) rfl rfl hS0 (fun W hW => by have k0 : W.cell? ⟨x, 0, none⟩ = some (.string name) := hW.2; go_simp) ?_
  clear hS0
  refine ord_alone rfl rfl ?_
  intro K hK
  unfold Oper.wp
  go_simp
  refine (findSnap_any a.so a.sc m.snaps name _ (by have := unhide HSL; unfold maxLen; omega) ((unhide HSN).below (Below.refl _ _).drew)).mono ?_
  rintro e w2 ⟨rfl, hb⟩
  have HB2 : Hid (Below W.heap.size W w2) := hide (fr (Below.refl _ _).drew hb)
  clear hb
  refine hK _ _ ?_
  clear hK K
  refine ord_val (.int .i64 (fdL m.snaps name)) rfl rfl (fun W => by go_simp) ?_
  refine ord_done ?_
  by_cases hf : imFind m name < m.snaps.length
  case neg =>
    have HE : Hid (dtC m name = 5 ∧ dt1 m name = m) := hide ⟨if_neg hf, if_neg hf⟩
    rw [show fdL m.snaps name = -1 from if_neg hf]
    clear hf
    go_wp2
    go_ret
    rw [(unhide HE).1, (unhide HE).2]
    exact Chg.same 5 (unhide HH) hB (unhide HB2)
  have HE0 : Hid (dtC m name = 0 ∧ dt1 m name = { m with snaps := m.snaps.eraseIdx (imFind m name) }) := hide ⟨if_pos hf, if_pos hf⟩
  rw [show fdL m.snaps name = (imFind m name : Int) from if_pos hf]
  obtain ⟨q, hq⟩ : ∃ q, imFind m name = q := ⟨_, rfl⟩
  rw [hq] at HE0 hf ⊢
  have hqi : (q : Int) < (m.snaps.length : Int) := by omega
  have HQL := hide hf
  clear hq hf
  have HH2 := hide ((unhide HH).below (unhide HB2))
  obtain ⟨g, cap, cur, e0, _, _⟩ := own_form (by omega) ((unhide HH2).o.s.row (by omega))
  obtain ⟨eso, hcap⟩ : a.so = some ⟨g, 0, none⟩ ∧ a.sc = cap := by simp only [Value.slice.injEq] at e0; exact ⟨e0.1, e0.2.2⟩
  have HROW := hide ((unhide HH2).o.s.row (by omega))
  rw [eso, hcap] at HROW
  have HES := hide (And.intro eso hcap)
  have HNE : Hid ((m.snaps.eraseIdx q).length = q + (m.snaps.length - (q + 1))) := hide (by rw [List.length_eraseIdx, if_pos (unhide HQL)]; omega)
  obtain ⟨c0, c1, c2, c3⟩ := (unhide HH2).v.cells
  rw [eso, hcap] at c2
  have hw1 : IntKind.i64.wrap ((q : Int) + 1) = (q : Int) + 1 := by have := unhide HSL; rw [IntKind.wrap_i64]; omega
  clear eso hcap e0
  go_wp2_with fail
  refine (deleteSn_any w2 B g cap q m.snaps ts (unhide HH2).o.len (unhide HQL) (by have := unhide HSL; omega) (ownSn_one (unhide HH2).o.tabsOwn) (unhide HROW)).mono ?_
  rintro e w3 ⟨rfl, ho3, hk3⟩
  have HN3 := hide (Hld.delS (unhide HH2) (Nat.le_trans hB (unhide HB2).size) (unhide HQL) (unhide HES).1 (unhide HES).2 (unhide HNE) hk3 ho3)
  have hv3 : VarM w3 p 26 (.slice a.ro m.refs.length a.rc) (.slice a.tq m.table.length a.tc) (.slice a.so m.snaps.length a.sc) (.slice a.dq m.data.length a.dc) := (hk3.block _ (unhide HH2).v.lt (fun e => (unhide HH2).o.s.other (unhide HH2).v (by decide) (by have := own_of (n := m.snaps.length) (cap := cap) (g := g) (k := p) (by have := unhide HQL; omega) e.symm; rw [(unhide HES).1, (unhide HES).2]; exact this))).trans (unhide HH2).v
  have HBW : Hid (Below B W w2) := hide ((unhide HB2).mono hB)
  clear ho3 hk3 c0 c1 c2 c3
  obtain ⟨c0, c1, c2, c3⟩ := hv3.cells
  obtain ⟨z0, z1, z2, z3⟩ := hv3.free
  go_wp2
  go_ret
  rw [(unhide HE0).1, (unhide HE0).2]
  exact ⟨rfl, _, _, (unhide HN3).1, (unhide HBW).trans (unhide HN3).2⟩

set_option maxHeartbeats 1600000 in
theorem snapDelete_impl (a : Im4) (m : Img) (name : ByteArray) (w : World) (hz : name.size ≤ 65536) (hL : ImL m) (hc : ImS w a m) :
    Calls Try.prog 9 #[imV a m, .string name] w fun e w' => AnsI w w' e (sdA m name) := by
  have hmf : ∀ (fn : Fn) (first cap : Array Value) (w : World), (Instr.makeFunc fn first cap).run Try.prog w = .ok (.func fn first cap) w := fun _ _ _ _ => rfl
  have HE : Hid (FcE w (((w.alloc (.cells #[.slice a.ro m.refs.length a.rc, .slice a.tq m.table.length a.tc, .slice a.so m.snaps.length a.sc, .slice a.dq m.data.length a.dc] 26)).alloc (.cells #[.string name] 9)).alloc (.cells #[.slice none 0 0, .slice none 0 0, .slice none 0 0, .slice none 0 0] 26)) (w.heap.size + 1 + 1) a m) := hide (by
    refine ⟨?_, ?_, hc.below (fr (fr (Joins.below_alloc1 w _) (Joins.below_alloc1 _ _)) (Joins.below_alloc1 _ _)), fr (fr (Joins.below_alloc1 w _) (Joins.below_alloc1 _ _)) (Joins.below_alloc1 _ _), by omega, by simp⟩
    · exact ((VarM.new w 26 (.slice a.ro m.refs.length a.rc) (.slice a.tq m.table.length a.tc) (.slice a.so m.snaps.length a.sc) (.slice a.dq m.data.length a.dc)).below (Joins.below_alloc1 _ _)).below (Joins.below_alloc1 _ _)
    · have h := VarM.new ((w.alloc (.cells #[.slice a.ro m.refs.length a.rc, .slice a.tq m.table.length a.tc, .slice a.so m.snaps.length a.sc, .slice a.dq m.data.length a.dc] 26)).alloc (.cells #[.string name] 9)) 26 (.slice none 0 0) (.slice none 0 0) (.slice none 0 0) (.slice none 0 0)
      simp only [World.size_alloc] at h
      exact h)
  have HX0 : Hid (VarT1 (((w.alloc (.cells #[.slice a.ro m.refs.length a.rc, .slice a.tq m.table.length a.tc, .slice a.so m.snaps.length a.sc, .slice a.dq m.data.length a.dc] 26)).alloc (.cells #[.string name] 9)).alloc (.cells #[.slice none 0 0, .slice none 0 0, .slice none 0 0, .slice none 0 0] 26)) (w.heap.size + 1) name) := hide (by
    have h : VarT1 (((w.alloc (.cells #[.slice a.ro m.refs.length a.rc, .slice a.tq m.table.length a.tc, .slice a.so m.snaps.length a.sc, .slice a.dq m.data.length a.dc] 26)).alloc (.cells #[.string name] 9)).alloc (.cells #[.slice none 0 0, .slice none 0 0, .slice none 0 0, .slice none 0 0] 26)) (w.alloc (.cells #[.slice a.ro m.refs.length a.rc, .slice a.tq m.table.length a.tc, .slice a.so m.snaps.length a.sc, .slice a.dq m.data.length a.dc] 26)).heap.size name := (VarT1.new (w.alloc (.cells #[.slice a.ro m.refs.length a.rc, .slice a.tq m.table.length a.tc, .slice a.so m.snaps.length a.sc, .slice a.dq m.data.length a.dc] 26)) name).below (Joins.below_alloc1 _ _)
    simp only [World.size_alloc] at h
    exact h)
  have HL := hide hL
  obtain ⟨R, HR⟩ : ∃ R, Hid (R = sdA m name) := ⟨_, hide rfl⟩
  rw [← unhide HR]
  clear hc hL
  go_enter Try.func9, Try.ntmps9
  go_upto_region 1 with fail
  revert HE HX0
  generalize (((w.alloc _).alloc _).alloc _) = W0
  intro HE HX0
  obtain ⟨c0, c1, c2, c3⟩ := (unhide HE).v.cells
  have hnx : W0.cell? ⟨w.heap.size + 1, 0, none⟩ = some (.string name) := unhide HX0
  go_wp2_with fail
  refine (changeSnaps_any a m name 34 #[.pointer (some ⟨w.heap.size + 1, 0, none⟩)] (dt1 m name) (dtC m name) _ (unhide HL) hz (unhide HE).s (fun _ _ => rfl) (fun him => ⟨dt_fit name (imB_iff.1 him), fun W p B a1 ts1 h1 h2 h3 h4 h5 => ?_⟩)).mono ?_
  · exact deleteC_any m name _ W p B a1 ts1 (imB_iff.1 him) ((unhide HX0).below h1) (Nat.lt_of_lt_of_le (unhide HX0).lt h2) h3 h4
  · intro e w2 hans
    rw [dt_ans, ← unhide HR] at hans
    obtain ⟨b, ts, rfl, ho, hb⟩ := hans
    have HP := hide ((unhide HE).put hb ho)
    have HE2 := hide ((unhide HE).below hb)
    clear ho hb c0 c1 c2 c3 hnx
    obtain ⟨r0, r1, r2, r3⟩ := (unhide HE2).r.cells
    obtain ⟨z0, z1, z2, z3⟩ := (unhide HE2).r.free
    go_wp2
    refine bodyPost_ret (res_ic Try.results9 rfl rfl (unhide HP).1) rfl ?_
    exact AnsI.of rfl rfl (unhide HP).2.1 (unhide HP).2.2

end Go.Proofs.Ytpdpnepnfhbonaa
