import Derived.Test.YtmkegkpnomcnhaaRows
import Derived.Test.YtmkegkpnomcnhaaPart19
import Derived.Test.YtmkegkpnomcnhaaPart21
import Derived.Test.YtmkegkpnomcnhaaPart22
import Derived.Test.YtmkegkpnomcnhaaPart23
import Derived.Test.YtmkegkpnomcnhaaSrcM
import Derived.Test.YtmkegkpnomcnhaaPart12
import Derived.Test.YtmkegkpnomcnhaaPart15
import Derived.WalkKit
import Derived.WalkSpells
import Derived.Test.YtmkegkpnomcnhaaPart16
import Derived.Test.YtmkegkpnomcnhaaPart18
import Derived.Test.YtmkegkpnomcnhaaPart20
import Derived.KernelRfl

/- Plain: what snapshots made, deleted and gone back to answer, together; contract of SnapNameOf. -/
namespace Go.Proofs.Ytmkegkpnomcnhaa
open Go.RowKit
set_option linter.unusedVariables false
set_option maxRecDepth 100000

theorem find_iff {m : Img} {name : ByteArray} : imFind m name < m.snaps.length ↔ ∃ s ∈ m.snaps, s.name = name := by
  unfold imFind
  rw [List.findIdx_lt_length]
  constructor
  · rintro ⟨s, hs, h⟩; exact ⟨s, hs, by simpa using h⟩
  · rintro ⟨s, hs, h⟩; exact ⟨s, hs, by simpa using h⟩
theorem nodup_erase {α : Type} {l : List α} (h : l.Nodup) {q : Nat} (hq : q < l.length) : l[q] ∉ l.eraseIdx q := by
  have e : l = l.take q ++ l[q] :: l.drop (q + 1) := by rw [← List.drop_eq_getElem_cons hq, List.take_append_drop]
  rw [List.eraseIdx_eq_take_drop_succ]
  have h2 := h
  rw [e, List.nodup_append] at h2
  obtain ⟨_, h3, h4⟩ := h2
  rw [List.nodup_cons] at h3
  rw [List.mem_append]
  rintro (h5 | h5)
  · exact h4 _ h5 _ (List.mem_cons_self) rfl
  · exact h3.1 h5
/-- What the three calls answer, where a name is taken and where it is not. -/
theorem snaps_told {m : Img} (h : ImR m) {name : ByteArray} (hn : snmB name = true) : ∃ (X Y Z : Img) (A C : Int), imCreate m name = (X, A) ∧ imDelete m name = (Y, C) ∧ imRevert m name = (Z, C) ∧ ImR X ∧ ImR Y ∧ ImR Z ∧
    ((C = 0 ∧ A = 8 ∧ ∃ V : Img, imCreate Y name = (V, 0) ∧ ImR V ∧ V.snaps.length = m.snaps.length) ∨ (C = 5 ∧ (A = 0 ∨ A = 6))) := by
  have hX := h.create name
  have hY := h.delete name
  have hZ := h.revert name
  by_cases hf : imFind m name < m.snaps.length
  · have e1 := create_twice (m := m) hn hf
    have e2 := delete_at (m := m) (name := name) hf rfl
    have e3 := revert_at (m := m) (name := name) hf rfl
    rw [e1] at hX
    rw [e2] at hY
    rw [e3] at hZ
    refine ⟨_, _, _, 8, 0, e1, e2, e3, hX, hY, hZ, .inl ⟨rfl, rfl, ?_⟩⟩
    have hy := hY.create name
    have hlen : (m.snaps.eraseIdx (imFind m name)).length + 1 = m.snaps.length := by rw [List.length_eraseIdx, if_pos hf]; omega
    have hnf : ¬ imFind { imDrops m m.snaps[imFind m name].table with snaps := m.snaps.eraseIdx (imFind m name) } name < (m.snaps.eraseIdx (imFind m name)).length := fun hx => by
      obtain ⟨s, hs, e⟩ := find_iff.1 hx
      have hs' : s ∈ m.snaps.eraseIdx (imFind m name) := hs
      have hl : imFind m name < (m.snaps.map (·.name)).length := by simpa using hf
      have hno := nodup_erase h.names hl
      rw [← map_eraseA] at hno
      apply hno
      rw [List.getElem_map, find_lt hf]
      exact List.mem_map.2 ⟨s, hs', e⟩
    have h3 := h.few
    have e4 := create_done (m := { imDrops m m.snaps[imFind m name].table with snaps := m.snaps.eraseIdx (imFind m name) }) hn hnf (by show ¬ (m.snaps.eraseIdx (imFind m name)).length = 3; omega)
    rw [e4] at hy
    refine ⟨_, e4, hy, ?_⟩
    show (m.snaps.eraseIdx (imFind m name) ++ [_]).length = _
    rw [List.length_append, List.length_singleton, hlen]
  · have e2 := delete_none (m := m) (name := name) hf
    have e3 := revert_none (m := m) (name := name) hf
    rw [e2] at hY
    rw [e3] at hZ
    by_cases h3 : m.snaps.length = 3
    · have e1 := create_many hn hf h3
      rw [e1] at hX
      exact ⟨_, _, _, 6, 5, e1, e2, e3, hX, hY, hZ, .inr ⟨rfl, .inr rfl⟩⟩
    · have e1 := create_done hn hf h3
      rw [e1] at hX
      exact ⟨_, _, _, 0, 5, e1, e2, e3, hX, hY, hZ, .inr ⟨rfl, .inl rfl⟩⟩
theorem nmN_pos {t : ByteArray} (h : snmB t = true) : 0 < nmN t := by
  have h0 := (nmN_in h).1
  have h1 := (snm_parts h).2.1
  by_cases e : nmN t = 0
  · have h2 := un_nm h
    rw [e] at h2
    have : unT 0 = ⟨#[]⟩ := rfl
    rw [this] at h2
    rw [← h2] at h1
    exact absurd h1 (by decide)
  · omega

theorem snapNms_right : ∀ (i : Nat) (hi : i < snapNms.length), snmB snapNms[i] = true := by
  intro i hi
  have : i = 0 ∨ i = 1 ∨ i = 2 ∨ i = 3 := by have : snapNms.length = 4 := rfl; omega
  rcases this with rfl | rfl | rfl | rfl <;> rfl
set_option maxHeartbeats 1600000 in
theorem snapNameR_k (b : Nat) (ao : Option Addr) (n cap m : Nat) (w : World) (hm : m ≤ 900000) (hn : n ≤ 1048576) (hs : SrcK w b ao n cap m) :
    Calls Try.prog 24 #[.pointer (some ⟨b, 0, none⟩)] w fun e w' => ∃ t : ByteArray, e = .returned (.string t) ∧ snmB t = true ∧ SrcK w' b ao n cap (m + 3) ∧ Keep (fun k => k = b) w w' := by
  have HS := hide hs
  have hlt := hs.lt
  clear hs
  have HSA := hide ((unhide HS).below (Joins.below_alloc1 w (.cells (strV snapNms).toArray 9)))
  have HKA : Hid (Keep (fun k => k = b) w (w.alloc (.cells (strV snapNms).toArray 9))) := hide (Keep.of_below (Joins.below_alloc1 _ _))
  have HBA : Hid ((w.alloc (.cells (strV snapNms).toArray 9)).heap[w.heap.size]? = some (.cells (strV snapNms).toArray 9 (0, 0))) := hide (heap_alloc_new _ _)
  go_enter Try.func24, Try.ntmps24
  go_wp2_with fail
  refine (pick_k b ao n cap m w.heap.size snapNms _ (by decide) (by decide) hm hn (unhide HSA) (by omega) (unhide HBA)).mono ?_
  rintro e w1 ⟨i, hi, rfl, hs1, hk⟩
  have HS1 := hide hs1
  have HK1 := hide ((unhide HKA).trans hk)
  have HT : Hid (snmB snapNms[i] = true) := hide (snapNms_right i hi)
  clear hs1 hk HBA HSA HKA
  generalize snapNms[i] = t at *
  go_wp2
  go_ret
  exact ⟨t, rfl, unhide HT, unhide HS1, unhide HK1⟩

theorem snapNameOf_any (ao : Option Addr) (n cap : Nat) (w : World) (hn : n ≤ 1048576) (hB : Bs w ao n) :
    Calls Try.prog 7 #[.slice ao n cap] w fun e w' => ∃ t, e = .returned (.string t) ∧ snmB t = true ∧ Below w.heap.size w w' := by
  go_enter Try.func7, Try.ntmps7
  go_wp2_with fail
  refine (source_any ao n cap _ hn hB).mono ?_
  rintro e w1 ⟨rfl, hs1, hb1, hz⟩
  go_wp2_with fail
  refine (snapNameR_k _ ao n cap 0 _ (by omega) hn hs1).mono ?_
  rintro e w2 ⟨t, rfl, ht, _, hk⟩
  have HB := hide (hb1.trans (hk.below (B := w.heap.size) (by omega) (fun k hk => by omega)))
  have HT := hide ht
  clear hb1 hk hs1 ht
  go_wp2
  go_ret
  exact ⟨t, rfl, unhide HT, unhide HB⟩

end Go.Proofs.Ytmkegkpnomcnhaa

/- Contracts of the model's SnapCreate, SnapDelete, SnapRevert at texts that are not too long. (Written by gens/names.py.) -/
namespace Go.Proofs.Ytmkegkpnomcnhaa
open Go.RowKit
set_option linter.unusedVariables false
set_option maxRecDepth 100000

set_option maxHeartbeats 1600000 in
theorem snapCreate_spec (a : Im4) (m : Img) (name : ByteArray) (w : World) (hz : name.size ≤ 65536) (hL : ImL m) (hc : ImS w a m) :
    Calls Try.prog 9 #[imV a m, .string name] w fun e w' => AnsI w w' e (if imB m = true then imCreate m name else (im0, 1)) := by
  have HE := hide (ImE.new w a m hc)
  have HL := hide hL
  have HZ := hide hz
  have hzi : ¬ (65536 : Int) < (name.size : Int) := by omega
  have HTN : Hid (tnF m name = if imB m = true then 0 else 1) := hide (if_neg (by omega))
  obtain ⟨R, HR⟩ : ∃ R, Hid (R = if imB m = true then imCreate m name else (im0, 1)) := ⟨_, hide rfl⟩
  rw [← unhide HR]
  clear hc hL
  go_enter Try.func9, Try.ntmps9
  go_upto_region 1 with fail
  revert HE
  generalize ((w.alloc _).alloc _) = W0
  intro HE
  obtain ⟨c0, c1, c2, c3⟩ := (unhide HE).v.cells
  go_wp2_with fail
  refine (l10Text_any a m name _ (by have := unhide HZ; unfold maxLen; omega) (unhide HL) (unhide HE).s).mono ?_
  rintro e w1 ⟨rfl, hb⟩
  have HE1 := hide ((unhide HE).below hb)
  clear hb c0 c1 c2 c3 HE
  obtain ⟨c0, c1, c2, c3⟩ := (unhide HE1).v.cells
  obtain ⟨r0, r1, r2, r3⟩ := (unhide HE1).r.cells
  obtain ⟨z0, z1, z2, z3⟩ := (unhide HE1).r.free
  rw [unhide HTN]
  cases him : imB m
  · have HX : Hid (R = (im0, 1)) := hide (by rw [unhide HR, him]; rfl)
    have HZ0 := hide (unhide HE1).zero
    simp only [Bool.false_eq_true, if_false]
    go_wp2
    refine bodyPost_ret (res_ic Try.results9 rfl rfl (unhide HZ0).1) rfl ?_
    rw [unhide HX]
    exact AnsI.bad 1 (unhide HZ0).2
  · have HX : Hid (R = imCreate m name) := hide (by rw [unhide HR, him]; rfl)
    have HI := hide (imB_iff.1 him)
    simp only [if_true]
    clear him HR
    go_wp2_with fail
    refine (l10Create_R a m name R _ (unhide HX) (unhide HI).M (unhide HI).table (by have := unhide HZ; unfold maxLen; omega) (unhide HE1).s).mono ?_
    rintro e w2 ⟨b, ts, rfl, ho, hb⟩
    have HP := hide ((unhide HE1).put hb ho)
    have HE2 := hide ((unhide HE1).below hb)
    clear ho hb c0 c1 c2 c3 r0 r1 r2 r3 z0 z1 z2 z3
    obtain ⟨r0, r1, r2, r3⟩ := (unhide HE2).r.cells
    obtain ⟨z0, z1, z2, z3⟩ := (unhide HE2).r.free
    go_wp2
    refine bodyPost_ret (res_ic Try.results9 rfl rfl (unhide HP).1) rfl ?_
    exact AnsI.of rfl rfl (unhide HP).2.1 (unhide HP).2.2

set_option maxHeartbeats 1600000 in
theorem snapDelete_spec (a : Im4) (m : Img) (name : ByteArray) (w : World) (hz : name.size ≤ 65536) (hL : ImL m) (hc : ImS w a m) :
    Calls Try.prog 11 #[imV a m, .string name] w fun e w' => AnsI w w' e (if imB m = true then imDelete m name else (im0, 1)) := by
  have HE := hide (ImE.new w a m hc)
  have HL := hide hL
  have HZ := hide hz
  have hzi : ¬ (65536 : Int) < (name.size : Int) := by omega
  have HTN : Hid (tnF m name = if imB m = true then 0 else 1) := hide (if_neg (by omega))
  obtain ⟨R, HR⟩ : ∃ R, Hid (R = if imB m = true then imDelete m name else (im0, 1)) := ⟨_, hide rfl⟩
  rw [← unhide HR]
  clear hc hL
  go_enter Try.func11, Try.ntmps11
  go_upto_region 1 with fail
  revert HE
  generalize ((w.alloc _).alloc _) = W0
  intro HE
  obtain ⟨c0, c1, c2, c3⟩ := (unhide HE).v.cells
  go_wp2_with fail
  refine (l10Text_any a m name _ (by have := unhide HZ; unfold maxLen; omega) (unhide HL) (unhide HE).s).mono ?_
  rintro e w1 ⟨rfl, hb⟩
  have HE1 := hide ((unhide HE).below hb)
  clear hb c0 c1 c2 c3 HE
  obtain ⟨c0, c1, c2, c3⟩ := (unhide HE1).v.cells
  obtain ⟨r0, r1, r2, r3⟩ := (unhide HE1).r.cells
  obtain ⟨z0, z1, z2, z3⟩ := (unhide HE1).r.free
  rw [unhide HTN]
  cases him : imB m
  · have HX : Hid (R = (im0, 1)) := hide (by rw [unhide HR, him]; rfl)
    have HZ0 := hide (unhide HE1).zero
    simp only [Bool.false_eq_true, if_false]
    go_wp2
    refine bodyPost_ret (res_ic Try.results11 rfl rfl (unhide HZ0).1) rfl ?_
    rw [unhide HX]
    exact AnsI.bad 1 (unhide HZ0).2
  · have HX : Hid (R = imDelete m name) := hide (by rw [unhide HR, him]; rfl)
    have HI := hide (imB_iff.1 him)
    simp only [if_true]
    clear him HR
    go_wp2_with fail
    refine (l10Delete_R a m name R _ (unhide HX) (unhide HI).M (unhide HE1).s).mono ?_
    rintro e w2 ⟨b, ts, rfl, ho, hb⟩
    have HP := hide ((unhide HE1).put hb ho)
    have HE2 := hide ((unhide HE1).below hb)
    clear ho hb c0 c1 c2 c3 r0 r1 r2 r3 z0 z1 z2 z3
    obtain ⟨r0, r1, r2, r3⟩ := (unhide HE2).r.cells
    obtain ⟨z0, z1, z2, z3⟩ := (unhide HE2).r.free
    go_wp2
    refine bodyPost_ret (res_ic Try.results11 rfl rfl (unhide HP).1) rfl ?_
    exact AnsI.of rfl rfl (unhide HP).2.1 (unhide HP).2.2

set_option maxHeartbeats 1600000 in
theorem snapRevert_spec (a : Im4) (m : Img) (name : ByteArray) (w : World) (hz : name.size ≤ 65536) (hL : ImL m) (hc : ImS w a m) :
    Calls Try.prog 13 #[imV a m, .string name] w fun e w' => AnsI w w' e (if imB m = true then imRevert m name else (im0, 1)) := by
  have HE := hide (ImE.new w a m hc)
  have HL := hide hL
  have HZ := hide hz
  have hzi : ¬ (65536 : Int) < (name.size : Int) := by omega
  have HTN : Hid (tnF m name = if imB m = true then 0 else 1) := hide (if_neg (by omega))
  obtain ⟨R, HR⟩ : ∃ R, Hid (R = if imB m = true then imRevert m name else (im0, 1)) := ⟨_, hide rfl⟩
  rw [← unhide HR]
  clear hc hL
  go_enter Try.func13, Try.ntmps13
  go_upto_region 1 with fail
  revert HE
  generalize ((w.alloc _).alloc _) = W0
  intro HE
  obtain ⟨c0, c1, c2, c3⟩ := (unhide HE).v.cells
  go_wp2_with fail
  refine (l10Text_any a m name _ (by have := unhide HZ; unfold maxLen; omega) (unhide HL) (unhide HE).s).mono ?_
  rintro e w1 ⟨rfl, hb⟩
  have HE1 := hide ((unhide HE).below hb)
  clear hb c0 c1 c2 c3 HE
  obtain ⟨c0, c1, c2, c3⟩ := (unhide HE1).v.cells
  obtain ⟨r0, r1, r2, r3⟩ := (unhide HE1).r.cells
  obtain ⟨z0, z1, z2, z3⟩ := (unhide HE1).r.free
  rw [unhide HTN]
  cases him : imB m
  · have HX : Hid (R = (im0, 1)) := hide (by rw [unhide HR, him]; rfl)
    have HZ0 := hide (unhide HE1).zero
    simp only [Bool.false_eq_true, if_false]
    go_wp2
    refine bodyPost_ret (res_ic Try.results13 rfl rfl (unhide HZ0).1) rfl ?_
    rw [unhide HX]
    exact AnsI.bad 1 (unhide HZ0).2
  · have HX : Hid (R = imRevert m name) := hide (by rw [unhide HR, him]; rfl)
    have HI := hide (imB_iff.1 him)
    simp only [if_true]
    clear him HR
    go_wp2_with fail
    refine (l10Revert_R a m name R _ (unhide HX) (unhide HI).M (fun s hs => ((unhide HI).snaps s hs).2) (unhide HE1).s).mono ?_
    rintro e w2 ⟨b, ts, rfl, ho, hb⟩
    have HP := hide ((unhide HE1).put hb ho)
    have HE2 := hide ((unhide HE1).below hb)
    clear ho hb c0 c1 c2 c3 r0 r1 r2 r3 z0 z1 z2 z3
    obtain ⟨r0, r1, r2, r3⟩ := (unhide HE2).r.cells
    obtain ⟨z0, z1, z2, z3⟩ := (unhide HE2).r.free
    go_wp2
    refine bodyPost_ret (res_ic Try.results13 rfl rfl (unhide HP).1) rfl ?_
    exact AnsI.of rfl rfl (unhide HP).2.1 (unhide HP).2.2

end Go.Proofs.Ytmkegkpnomcnhaa

/- Contract of impl.changeSnaps. -/
namespace Go.Proofs.Ytmkegkpnomcnhaa
open Go.RowKit
set_option linter.unusedVariables false
set_option maxRecDepth 100000

theorem VarT1.new (w : World) (s : ByteArray) : VarT1 (w.alloc (.cells #[.string s] 9)) w.heap.size s := by unfold VarT1; rw [Joins.cell_of_block (heap_alloc_new w _)]; rfl
theorem VarT1.below {w w' : World} {x : Nat} {s : ByteArray} (h : VarT1 w x s) (hb : Below w.heap.size w w') : VarT1 w' x s := (hb.cell (World.block_lt_of_cell? _ _ h)).trans h
theorem VarT1.lt {w : World} {x : Nat} {s : ByteArray} (h : VarT1 w x s) : x < w.heap.size := World.block_lt_of_cell? _ _ h

set_option maxHeartbeats 1600000 in
theorem changeSnaps_any (a : Im4) (m : Img) (name : ByteArray) (F : FuncId) (caps : Array Value) (m1 : Img) (c : Int) (w : World) (hL : ImL m) (hz : name.size ≤ 65536) (hc : ImS w a m)
    (hcf : ∀ (args : Array Value) (W : World), (callFunc F args).run Try.prog W = .ok (.enter F args) W)
    (hch : imB m = true → FitR m1 ∧ ∀ (W : World) (p B : Nat) (a1 : Im4) (ts1 : List Value), Below w.heap.size w W → w.heap.size ≤ B → B ≤ W.heap.size → Hld W p B a1 m ts1 → (m.snaps.length = 0 → a1.sc = 0) → Calls Try.prog F (#[.pointer (some ⟨p, 0, none⟩)] ++ caps) W fun e W' => Chg W W' p B e c m1) :
    Calls Try.prog 25 #[imV a m, .string name, .func (.func F) #[] caps] w fun e w' => AnsI w w' e (if imB m = true then (imFit m1, c) else (im0, 1)) := by
  have HE := hide (ImE.new w a m hc)
  have HL := hide hL
  have HCH := hide hch
  obtain ⟨R, HR⟩ : ∃ R, Hid (R = if imB m = true then (imFit m1, c) else (im0, 1)) := ⟨_, hide rfl⟩
  rw [← unhide HR]
  clear hc hL hch
  go_enter Try.func25, Try.ntmps25
  go_upto_region 1 with fail
  revert HE
  generalize ((w.alloc _).alloc _) = W0
  intro HE
  obtain ⟨c0, c1, c2, c3⟩ := (unhide HE).v.cells
  go_wp2_with fail
  refine (changeImage_any a m F caps m1 c _ (unhide HL) (unhide HE).s hcf (fun him => ⟨(unhide HCH him).1, fun W p B a1 ts1 h1 h2 h3 h4 h5 => (unhide HCH him).2 W p B a1 ts1 (fr (unhide HE).b h1) (Nat.le_trans (unhide HE).b.size h2) h3 h4 h5⟩)).mono ?_
  intro e w2 hans
  rw [← unhide HR] at hans
  obtain ⟨b, ts, rfl, ho, hb⟩ := hans
  have HP := hide ((unhide HE).put hb ho)
  have HE2 := hide ((unhide HE).below hb)
  clear ho hb c0 c1 c2 c3
  obtain ⟨r0, r1, r2, r3⟩ := (unhide HE2).r.cells
  obtain ⟨z0, z1, z2, z3⟩ := (unhide HE2).r.free
  go_wp2
  refine bodyPost_ret (res_ic Try.results25 rfl rfl (unhide HP).1) rfl ?_
  exact AnsI.of rfl rfl (unhide HP).2.1 (unhide HP).2.2

end Go.Proofs.Ytmkegkpnomcnhaa

/- Contract of impl.SnapCreate. (Written by gens/snapf.py.) -/
namespace Go.Proofs.Ytmkegkpnomcnhaa
open Go.RowKit
set_option linter.unusedVariables false
set_option maxRecDepth 100000

/-- What SnapCreate answers. -/
def scA (m : Img) (name : ByteArray) : Img × Int := if imB m = true then imCreate m name else (im0, 1)
def crC (m : Img) (name : ByteArray) : Int := (imCreate m name).2
def cr1 (m : Img) (name : ByteArray) : Img := if crC m name = 0 then { m with snaps := m.snaps ++ [⟨name, m.table⟩] } else m
theorem cr_cases (m : Img) (name : ByteArray) : (snmB name = false ∧ imCreate m name = (m, 12)) ∨ (snmB name = true ∧ imFind m name < m.snaps.length ∧ imCreate m name = (m, 8)) ∨ (snmB name = true ∧ ¬ imFind m name < m.snaps.length ∧ m.snaps.length = 3 ∧ imCreate m name = (m, 6)) ∨ (snmB name = true ∧ ¬ imFind m name < m.snaps.length ∧ ¬ m.snaps.length = 3 ∧ imCreate m name = ({ imRaise m m.table with snaps := m.snaps ++ [⟨name, m.table⟩] }, 0)) := by
  cases hn : snmB name
  · exact .inl ⟨rfl, create_name hn⟩
  · by_cases hf : imFind m name < m.snaps.length
    · exact .inr (.inl ⟨rfl, hf, create_twice hn hf⟩)
    · by_cases h3 : m.snaps.length = 3
      · exact .inr (.inr (.inl ⟨rfl, hf, h3, create_many hn hf h3⟩))
      · exact .inr (.inr (.inr ⟨rfl, hf, h3, create_done hn hf h3⟩))
theorem cr_fit {m : Img} (name : ByteArray) (hz : name.size ≤ 65536) (h : ImR m) : FitR (cr1 m name) := by
  unfold cr1 crC
  rcases cr_cases m name with ⟨_, e⟩ | ⟨_, _, e⟩ | ⟨_, _, _, e⟩ | ⟨_, _, h3, e⟩
  · rw [e, if_neg (by simp)]; exact h.fitR
  · rw [e, if_neg (by simp)]; exact h.fitR
  · rw [e, if_neg (by simp)]; exact h.fitR
  · rw [e, if_pos rfl]
    have hf := h.fitR
    have hfw := h.few
    refine ⟨hf.r, hf.d, by simp only [List.length_append, List.length_singleton]; omega, fun t ht => ?_, fun s hs => ?_⟩
    · have ht' : t ∈ m.table :: List.map (fun s : Snp => s.table) (m.snaps ++ [⟨name, m.table⟩]) := ht
      simp only [List.map_append, List.mem_cons, List.mem_append, List.map_cons, List.map_nil, List.not_mem_nil, or_false] at ht'
      rcases ht' with rfl | ht' | rfl
      · exact h.table
      · exact h.tabs t (by unfold imTabs; exact List.mem_cons_of_mem _ ht')
      · exact h.table
    · have hs' : s ∈ m.snaps ++ [⟨name, m.table⟩] := hs
      rw [List.mem_append, List.mem_singleton] at hs'
      rcases hs' with hs' | rfl
      · exact hf.z s hs'
      · exact ⟨by unfold maxLen; simp only; omega, h.M.L.t⟩
theorem cr_ans {m : Img} (name : ByteArray) : (if imB m = true then (imFit (cr1 m name), crC m name) else (im0, 1)) = scA m name := by
  refine ans_eq (fun h => ?_) (fun h => by rw [scA, h]; rfl)
  have hR := imB_iff.1 h
  rw [scA, if_pos h]
  refine ⟨?_, rfl⟩
  unfold cr1 crC
  rcases cr_cases m name with ⟨_, e⟩ | ⟨_, _, e⟩ | ⟨_, _, _, e⟩ | ⟨_, _, h3, e⟩
  · rw [e, if_neg (by simp)]; exact fit_self hR
  · rw [e, if_neg (by simp)]; exact fit_self hR
  · rw [e, if_neg (by simp)]; exact fit_self hR
  · rw [e, if_pos rfl]; exact fit_create hR name

theorem Hld.addS {W w3 w4 : World} {p B g2 cap2 : Nat} {a : Im4} {m : Img} {ts : List Value} {name : ByteArray} {t : Value} {tbl : List Int} (h : Hld W p B a m ts) (hB : B ≤ W.heap.size) (hb : Below W.heap.size W w3) (ht : OwnN w3 W.heap.size t tbl)
    (ho : w4.ownsRow B 50 2 (.slice (some ⟨g2, 0, none⟩) (m.snaps.length + 1) cap2) (m.snaps.length + 1) (snC m.snaps ts ++ [.string name, t])) (hk : Keep (Own (.slice a.so m.snaps.length a.sc)) w3 w4) :
    Hld (w4.setCell ⟨p, 2, none⟩ (.slice (some ⟨g2, 0, none⟩) (m.snaps.length + 1) cap2)) p B { a with so := some ⟨g2, 0, none⟩, sc := cap2 } { m with snaps := m.snaps ++ [⟨name, tbl⟩] } (ts ++ [t]) ∧ Below B W (w4.setCell ⟨p, 2, none⟩ (.slice (some ⟨g2, 0, none⟩) (m.snaps.length + 1) cap2)) := by
  have h3 := h.below hb
  have hv4 : VarM w4 p 26 (.slice a.ro m.refs.length a.rc) (.slice a.tq m.table.length a.tc) (.slice a.so m.snaps.length a.sc) (.slice a.dq m.data.length a.dc) := (hk.block _ h3.v.lt (h3.o.s.other h3.v (by decide))).trans h3.v
  have ho4 := OwnIm.addS h.o hB hb ht ho hk
  have hk4 : Keep (fun g => g = p) w4 (w4.setCell ⟨p, 2, none⟩ (.slice (some ⟨g2, 0, none⟩) (m.snaps.length + 1) cap2)) := (Keep.refl (fun g => g = p) w4).setCell (p := ⟨p, 2, none⟩) rfl _
  refine ⟨⟨?_, ho4.keep hk4 (fun g hg e => ho4.other (v0 := .slice a.ro m.refs.length a.rc) (v1 := .slice a.tq m.table.length a.tc) (v2 := .slice a.so m.snaps.length a.sc) (v3 := .slice a.dq m.data.length a.dc) hv4 (e ▸ hg)), h.p⟩, ?_⟩
  · simp only [List.length_append, List.length_singleton]
    exact hv4.set2 _
  · have hb4 : Below B W w4 := (hb.mono hB).trans (hk.below (Nat.le_trans hB hb.size) (fun g hg => (h3.o.s.ge g hg).1))
    exact hb4.setCell (p := ⟨p, 2, none⟩) h.p _

set_option maxHeartbeats 3200000 in
theorem createC_any (m : Img) (name : ByteArray) (x : Nat) (W : World) (p B : Nat) (a : Im4) (ts : List Value) (hz : name.size ≤ 65536) (hR : ImR m) (hx : VarT1 W x name) (hxB : x < B) (hB : B ≤ W.heap.size) (hh : Hld W p B a m ts) (hc0 : m.snaps.length = 0 → a.sc = 0) :
    Calls Try.prog 26 #[.pointer (some ⟨p, 0, none⟩), .pointer (some ⟨x, 0, none⟩)] W fun e W' => Chg W W' p B e (crC m name) (cr1 m name) := by
  have HH := hide hh
  have HX := hide hx
  have HC := hide (cr_cases m name)
  have HM := hide hR.M
  have HCR : Hid (crC m name = (imCreate m name).2 ∧ cr1 m name = if (imCreate m name).2 = 0 then { m with snaps := m.snaps ++ [⟨name, m.table⟩] } else m) := hide ⟨rfl, rfl⟩
  have HZ : Hid (name.size ≤ maxLen) := hide (by unfold maxLen; omega)
  have HC0 := hide hc0
  clear hc0
  clear hh hR hz
  obtain ⟨j0, hj0, hy0, hy1, hy2⟩ := info_parts infoSn
  have hx' : W.cell? ⟨x, 0, none⟩ = some (.string name) := hx
  clear hx
  go_enter Try.func26, Try.ntmps26
  go_wp2_with fail
  refine (snapNameOK_any name _ (unhide HZ)).mono ?_
  rintro e w1 ⟨rfl, hb⟩
  have HB1 := hide hb
  clear hb hx'
  rcases unhide HC with ⟨hn, e⟩ | ⟨hn, hf, e⟩ | ⟨hn, hf, h3, e⟩ | ⟨hn, hf, h3, e⟩
  · have HE : Hid (crC m name = 12 ∧ cr1 m name = m) := hide (by rw [(unhide HCR).1, (unhide HCR).2, e]; exact ⟨rfl, if_neg (by simp)⟩)
    rw [hn]
    clear e hn
    go_wp2
    go_ret
    rw [(unhide HE).1, (unhide HE).2]
    exact Chg.same 12 (unhide HH) hB (unhide HB1)
  · have HF := hide hf
    have HEE := hide e
    clear hf e
    rw [hn]
    have hS0 : VarM w1.drew p 26 (.slice a.ro m.refs.length a.rc) (.slice a.tq m.table.length a.tc) (.slice a.so m.snaps.length a.sc) (.slice a.dq m.data.length a.dc) ∧ VarT1 w1.drew x name := ⟨((unhide HH).v.below (unhide HB1)).below (Below.refl _ _).drew, ((unhide HX).below (unhide HB1)).below (Below.refl _ _).drew⟩
    have HSN : Hid (Sns w1.drew a.so m.snaps) := hide ((((unhide HH).o.shows (unhide HM).zs).s.below (unhide HB1)).below (Below.refl _ _).drew)
    have HSL := hide (unhide HM).s
    go_upto_region 3 with fail
    refine wp_region_ord (fun w' => VarM w' p 26 (.slice a.ro m.refs.length a.rc) (.slice a.tq m.table.length a.tc) (.slice a.so m.snaps.length a.sc) (.slice a.dq m.data.length a.dc) ∧ VarT1 w' x name) [0, 1, 2, 3, 4] [(0, 0), (1, 0), (2, 0), (3, 0), (4, 0), (5, 3), (6, 4), (7, 4)] (by kernel_rfl) (by kernel_rfl) rfl (by kernel_rfl) ?_
    refine ord_read (.pointer (some ⟨p, 0, none⟩)) rfl rfl hS0 (fun W hW => by go_simp) ?_
    refine ord_read (.pointer (some ⟨p, 0, none⟩)) rfl rfl hS0 (fun W hW => by go_simp) ?_
    refine ord_read (.pointer (some ⟨p, 2, none⟩)) rfl rfl hS0 (fun W hW => by go_simp) ?_
    refine ord_read (.slice a.so m.snaps.length a.sc) rfl rfl hS0 (fun W hW => by obtain ⟨k0, k1, k2, k3⟩ := hW.1.cells; go_simp) ?_
    refine ord_read (.string name) rfl rfl hS0 (fun W hW => by have k0 : W.cell? ⟨x, 0, none⟩ = some (.string name) := hW.2; go_simp) ?_
    clear hS0
    refine ord_alone rfl rfl ?_
    intro K hK
    unfold Oper.wp
    go_simp
    refine (findSnap_any a.so a.sc m.snaps name _ (by have := unhide HSL; unfold maxLen; omega) (unhide HSN)).mono ?_
    rintro e w2 ⟨rfl, hb⟩
    have HB2 := hide (fr (unhide HB1).drew hb)
    clear hb
    refine hK _ _ ?_
    clear hK K
    rw [show fdL m.snaps name = (imFind m name : Int) from if_pos (unhide HF)]
    have e := unhide HEE
    have HE : Hid (crC m name = 8 ∧ cr1 m name = m) := hide (by rw [(unhide HCR).1, (unhide HCR).2, e]; exact ⟨rfl, if_neg (by simp)⟩)
    generalize imFind m name = q at *
    refine ord_val (.bool true) rfl rfl (fun W => by go_simp) ?_
    refine ord_val (.bool true) rfl rfl (fun W => by go_simp) ?_
    refine ord_done ?_
    go_wp2
    go_ret
    rw [(unhide HE).1, (unhide HE).2]
    exact Chg.same 8 (unhide HH) hB (unhide HB2)
  · have HF := hide hf
    have HEE := hide e
    have H3 := hide h3
    clear hf e h3
    rw [hn]
    have hS0 : VarM w1.drew p 26 (.slice a.ro m.refs.length a.rc) (.slice a.tq m.table.length a.tc) (.slice a.so m.snaps.length a.sc) (.slice a.dq m.data.length a.dc) ∧ VarT1 w1.drew x name := ⟨((unhide HH).v.below (unhide HB1)).below (Below.refl _ _).drew, ((unhide HX).below (unhide HB1)).below (Below.refl _ _).drew⟩
    have HSN : Hid (Sns w1.drew a.so m.snaps) := hide ((((unhide HH).o.shows (unhide HM).zs).s.below (unhide HB1)).below (Below.refl _ _).drew)
    have HSL := hide (unhide HM).s
    go_upto_region 3 with fail
    refine wp_region_ord (fun w' => VarM w' p 26 (.slice a.ro m.refs.length a.rc) (.slice a.tq m.table.length a.tc) (.slice a.so m.snaps.length a.sc) (.slice a.dq m.data.length a.dc) ∧ VarT1 w' x name) [0, 1, 2, 3, 4] [(0, 0), (1, 0), (2, 0), (3, 0), (4, 0), (5, 3), (6, 4), (7, 4)] (by kernel_rfl) (by kernel_rfl) rfl (by kernel_rfl) ?_
    refine ord_read (.pointer (some ⟨p, 0, none⟩)) rfl rfl hS0 (fun W hW => by go_simp) ?_
    refine ord_read (.pointer (some ⟨p, 0, none⟩)) rfl rfl hS0 (fun W hW => by go_simp) ?_
    refine ord_read (.pointer (some ⟨p, 2, none⟩)) rfl rfl hS0 (fun W hW => by go_simp) ?_
    refine ord_read (.slice a.so m.snaps.length a.sc) rfl rfl hS0 (fun W hW => by obtain ⟨k0, k1, k2, k3⟩ := hW.1.cells; go_simp) ?_
    refine ord_read (.string name) rfl rfl hS0 (fun W hW => by have k0 : W.cell? ⟨x, 0, none⟩ = some (.string name) := hW.2; go_simp) ?_
    clear hS0
    refine ord_alone rfl rfl ?_
    intro K hK
    unfold Oper.wp
    go_simp
    refine (findSnap_any a.so a.sc m.snaps name _ (by have := unhide HSL; unfold maxLen; omega) (unhide HSN)).mono ?_
    rintro e w2 ⟨rfl, hb⟩
    have HB2 := hide (fr (unhide HB1).drew hb)
    clear hb
    refine hK _ _ ?_
    clear hK K
    rw [show fdL m.snaps name = -1 from if_neg (unhide HF)]
    have e := unhide HEE
    have h3 := unhide H3
    have HE : Hid (crC m name = 6 ∧ cr1 m name = m) := hide (by rw [(unhide HCR).1, (unhide HCR).2, e]; exact ⟨rfl, if_neg (by simp)⟩)
    have b3 : ((m.snaps.length : Int) == 3) = true := by rw [h3]; rfl
    clear h3 e
    refine ord_val (.bool false) rfl rfl (fun W => by go_simp) ?_
    refine ord_val (.bool false) rfl rfl (fun W => by go_simp) ?_
    refine ord_done ?_
    obtain ⟨c0, c1, c2, c3⟩ := ((unhide HH).v.below (unhide HB2)).cells
    go_wp2
    go_ret
    rw [(unhide HE).1, (unhide HE).2]
    exact Chg.same 6 (unhide HH) hB (unhide HB2)
  · have HF := hide hf
    have HEE := hide e
    have H3 := hide h3
    clear hf e h3
    rw [hn]
    have hS0 : VarM w1.drew p 26 (.slice a.ro m.refs.length a.rc) (.slice a.tq m.table.length a.tc) (.slice a.so m.snaps.length a.sc) (.slice a.dq m.data.length a.dc) ∧ VarT1 w1.drew x name := ⟨((unhide HH).v.below (unhide HB1)).below (Below.refl _ _).drew, ((unhide HX).below (unhide HB1)).below (Below.refl _ _).drew⟩
    have HSN : Hid (Sns w1.drew a.so m.snaps) := hide ((((unhide HH).o.shows (unhide HM).zs).s.below (unhide HB1)).below (Below.refl _ _).drew)
    have HSL := hide (unhide HM).s
    go_upto_region 3 with fail
    refine wp_region_ord (fun w' => VarM w' p 26 (.slice a.ro m.refs.length a.rc) (.slice a.tq m.table.length a.tc) (.slice a.so m.snaps.length a.sc) (.slice a.dq m.data.length a.dc) ∧ VarT1 w' x name) [0, 1, 2, 3, 4] [(0, 0), (1, 0), (2, 0), (3, 0), (4, 0), (5, 3), (6, 4), (7, 4)] (by kernel_rfl) (by kernel_rfl) rfl (by kernel_rfl) ?_
    refine ord_read (.pointer (some ⟨p, 0, none⟩)) rfl rfl hS0 (fun W hW => by go_simp) ?_
    refine ord_read (.pointer (some ⟨p, 0, none⟩)) rfl rfl hS0 (fun W hW => by go_simp) ?_
    refine ord_read (.pointer (some ⟨p, 2, none⟩)) rfl rfl hS0 (fun W hW => by go_simp) ?_
    refine ord_read (.slice a.so m.snaps.length a.sc) rfl rfl hS0 (fun W hW => by obtain ⟨k0, k1, k2, k3⟩ := hW.1.cells; go_simp) ?_
    refine ord_read (.string name) rfl rfl hS0 (fun W hW => by have k0 : W.cell? ⟨x, 0, none⟩ = some (.string name) := hW.2; go_simp) ?_
    clear hS0
    refine ord_alone rfl rfl ?_
    intro K hK
    unfold Oper.wp
    go_simp
    refine (findSnap_any a.so a.sc m.snaps name _ (by have := unhide HSL; unfold maxLen; omega) (unhide HSN)).mono ?_
    rintro e w2 ⟨rfl, hb⟩
    have HB2 := hide (fr (unhide HB1).drew hb)
    clear hb
    refine hK _ _ ?_
    clear hK K
    rw [show fdL m.snaps name = -1 from if_neg (unhide HF)]
    have e := unhide HEE
    have h3 := unhide H3
    have HE : Hid (crC m name = 0 ∧ cr1 m name = { m with snaps := m.snaps ++ [⟨name, m.table⟩] }) := hide (by rw [(unhide HCR).1, (unhide HCR).2, e]; exact ⟨rfl, if_pos rfl⟩)
    have b3 : ((m.snaps.length : Int) == 3) = false := by rw [beq_eq_false_iff_ne]; omega
    clear h3 e
    refine ord_val (.bool false) rfl rfl (fun W => by go_simp) ?_
    refine ord_val (.bool false) rfl rfl (fun W => by go_simp) ?_
    refine ord_done ?_
    obtain ⟨c0, c1, c2, c3⟩ := ((unhide HH).v.below (unhide HB2)).cells
    go_upto_region 7 with fail
    clear c0 c1 c2 c3
    have HB3 : Hid (Below W.heap.size W w2.drew) := hide (unhide HB2).drew
    have hS0 : VarM w2.drew p 26 (.slice a.ro m.refs.length a.rc) (.slice a.tq m.table.length a.tc) (.slice a.so m.snaps.length a.sc) (.slice a.dq m.data.length a.dc) ∧ VarT1 w2.drew x name := ⟨(unhide HH).v.below (unhide HB3), (unhide HX).below (unhide HB3)⟩
    have HTI : Hid (Is w2.drew a.tq m.table) := hide (((unhide HH).o.shows (unhide HM).zs).t.below (unhide HB3))
    have HTL := hide (unhide HM).t
    refine wp_region_ord (fun w' => VarM w' p 26 (.slice a.ro m.refs.length a.rc) (.slice a.tq m.table.length a.tc) (.slice a.so m.snaps.length a.sc) (.slice a.dq m.data.length a.dc) ∧ VarT1 w' x name) [0, 1, 2, 3, 4, 5, 6, 7, 8, 9, 10, 11, 12, 13, 14, 15] [(0, 0), (1, 0), (2, 0), (3, 0), (4, 0), (5, 0), (6, 0), (7, 0), (8, 0), (9, 0), (10, 2), (11, 0), (12, 2), (13, 2), (14, 0), (15, 0), (16, 3)] (by kernel_rfl) (by kernel_rfl) rfl (by kernel_rfl) ?_
    refine ord_read (.pointer (some ⟨p, 0, none⟩)) rfl rfl hS0 (fun W hW => by go_simp) ?_
    refine ord_read (.pointer (some ⟨p, 0, none⟩)) rfl rfl hS0 (fun W hW => by go_simp) ?_
    refine ord_read (.pointer (some ⟨p, 0, none⟩)) rfl rfl hS0 (fun W hW => by go_simp) ?_
    refine ord_read (.pointer (some ⟨p, 2, none⟩)) rfl rfl hS0 (fun W hW => by go_simp) ?_
    refine ord_read (.slice a.so m.snaps.length a.sc) rfl rfl hS0 (fun W hW => by obtain ⟨k0, k1, k2, k3⟩ := hW.1.cells; go_simp) ?_
    refine ord_read (.string name) rfl rfl hS0 (fun W hW => by have k0 : W.cell? ⟨x, 0, none⟩ = some (.string name) := hW.2; go_simp) ?_
    refine ord_read (.pointer (some ⟨p, 0, none⟩)) rfl rfl hS0 (fun W hW => by go_simp) ?_
    refine ord_read (.pointer (some ⟨p, 0, none⟩)) rfl rfl hS0 (fun W hW => by go_simp) ?_
    refine ord_read (.pointer (some ⟨p, 1, none⟩)) rfl rfl hS0 (fun W hW => by go_simp) ?_
    refine ord_read (.slice a.tq m.table.length a.tc) rfl rfl hS0 (fun W hW => by obtain ⟨k0, k1, k2, k3⟩ := hW.1.cells; go_simp) ?_
    clear hS0
    refine ord_held rfl rfl ?_
    intro K hK
    unfold Oper.wp
    go_simp
    refine (copyN_any a.tq a.tc m.table _ (by have := unhide HTL; omega) (unhide HTI)).mono ?_
    rintro e w5 ⟨v, rfl, ho5, hb5⟩
    obtain ⟨vo, vc, rfl, _⟩ := id ho5
    have HB5 := hide (fr (unhide HB3) hb5)
    have hS5 : VarM w5 p 26 (.slice a.ro m.refs.length a.rc) (.slice a.tq m.table.length a.tc) (.slice a.so m.snaps.length a.sc) (.slice a.dq m.data.length a.dc) ∧ VarT1 w5 x name := ⟨(unhide HH).v.below (unhide HB5), (unhide HX).below (unhide HB5)⟩
    have HOT : Hid (OwnN w5 W.heap.size (.slice vo m.table.length vc) m.table) := hide (ho5.base (unhide HB3).size)
    refine hK _ _ hS5 ?_
    clear hK K ho5 hb5
    refine ord_read (.agg #[.string name, .slice vo m.table.length vc]) rfl rfl hS5 (fun W hW => by go_simp) ?_
    refine ord_held rfl rfl ?_
    intro K hK
    unfold Oper.wp
    go_simp
    have hb7 : Below W.heap.size W (w5.alloc (.cells #[.string name, .slice vo m.table.length vc] 50)) := fr (unhide HB5) (Joins.below_alloc1 _ _)
    refine hK _ _ ⟨(unhide HH).v.below hb7, (unhide HX).below hb7⟩ ?_
    clear hK K hS5
    have HOT7 := hide ((unhide HOT).below (Joins.below_alloc1 w5 (.cells #[.string name, .slice vo m.table.length vc] 50)))
    have hnew : (w5.alloc (.cells #[.string name, .slice vo m.table.length vc] 50)).heap[w5.heap.size]? = some (.cells #[.string name, .slice vo m.table.length vc] 50 (0, 0)) := heap_alloc_new _ _
    generalize (w5.alloc (.cells #[.string name, .slice vo m.table.length vc] 50)) = W7 at *
    have HH7 := hide ((unhide HH).below hb7)
    have HX7 := hide ((unhide HX).below hb7)
    refine ord_held rfl rfl ?_
    intro K hK
    refine wp_append_one rfl (.tmp 27) (.tmp 35) 24 rfl B 50 j0 (.agg #[.string ⟨#[]⟩, .slice none 0 0]) 2 40 Try.underlying24 hj0 hy0 hy1 hy2 rfl (by omega) a.so m.snaps.length a.sc (snC m.snaps ts) rfl ((unhide HH7).o.s.toR (unhide HC0)) (Nat.le_trans hB hb7.size) ⟨w5.heap.size, 0, none⟩ 1 [.string name, .slice vo m.table.length vc] rfl rfl (snap_news hnew) (snap_one _ _ _ _) (by have := unhide HSL; unfold maxLen; omega) (by have := unhide HSL; omega) ?_
    intro g2 cap2 w8 ho8 hk8
    have hv8 : VarM w8 p 26 (.slice a.ro m.refs.length a.rc) (.slice a.tq m.table.length a.tc) (.slice a.so m.snaps.length a.sc) (.slice a.dq m.data.length a.dc) := (hk8.block _ (unhide HH7).v.lt ((unhide HH7).o.s.other (unhide HH7).v (by decide))).trans (unhide HH7).v
    have hx8 : VarT1 w8 x name := (keep_cell hk8 (fun hg => by have := ((unhide HH7).o.s.ge _ hg).1; simp only at this; omega) (unhide HX7))
    have HN8 := hide (Hld.addS (unhide HH) hB hb7 (unhide HOT7) ho8 hk8)
    refine hK _ _ ⟨hv8, hx8⟩ ?_
    clear hK K ho8 hk8 hnew
    refine ord_read (.pointer (some ⟨p, 0, none⟩)) rfl rfl ⟨hv8, hx8⟩ (fun W hW => by go_simp) ?_
    refine ord_read (.pointer (some ⟨p, 2, none⟩)) rfl rfl ⟨hv8, hx8⟩ (fun W hW => by go_simp) ?_
    obtain ⟨c0, c1, c2, c3⟩ := hv8.cells
    obtain ⟨z0, z1, z2, z3⟩ := hv8.free
    refine ord_alone rfl rfl ?_
    intro K hK
    unfold Oper.wp
    go_simp
    refine hK _ _ ?_
    clear hK K
    refine ord_done ?_
    clear c0 c1 c2 c3 z0 z1 z2 z3
    go_wp2
    go_ret
    rw [(unhide HE).1, (unhide HE).2]
    exact ⟨rfl, _, _, (unhide HN8).1, (unhide HN8).2⟩

set_option maxHeartbeats 1600000 in
theorem snapCreate_impl (a : Im4) (m : Img) (name : ByteArray) (w : World) (hz : name.size ≤ 65536) (hL : ImL m) (hc : ImS w a m) :
    Calls Try.prog 8 #[imV a m, .string name] w fun e w' => AnsI w w' e (scA m name) := by
  have hmf : ∀ (fn : Fn) (first cap : Array Value) (w : World), (Instr.makeFunc fn first cap).run Try.prog w = .ok (.func fn first cap) w := fun _ _ _ _ => rfl
  have HE : Hid (FcE w (((w.alloc (.cells #[.slice a.ro m.refs.length a.rc, .slice a.tq m.table.length a.tc, .slice a.so m.snaps.length a.sc, .slice a.dq m.data.length a.dc] 26)).alloc (.cells #[.string name] 9)).alloc (.cells #[.slice none 0 0, .slice none 0 0, .slice none 0 0, .slice none 0 0] 26)) (w.heap.size + 1 + 1) a m) := hide (by
    refine ⟨?_, ?_, hc.below (fr (fr (Joins.below_alloc1 w _) (Joins.below_alloc1 _ _)) (Joins.below_alloc1 _ _)), fr (fr (Joins.below_alloc1 w _) (Joins.below_alloc1 _ _)) (Joins.below_alloc1 _ _), by omega, by simp⟩
    · exact ((VarM.new w 26 (.slice a.ro m.refs.length a.rc) (.slice a.tq m.table.length a.tc) (.slice a.so m.snaps.length a.sc) (.slice a.dq m.data.length a.dc)).below (Joins.below_alloc1 _ _)).below (Joins.below_alloc1 _ _)
    · have h := VarM.new ((w.alloc (.cells #[.slice a.ro m.refs.length a.rc, .slice a.tq m.table.length a.tc, .slice a.so m.snaps.length a.sc, .slice a.dq m.data.length a.dc] 26)).alloc (.cells #[.string name] 9)) 26 (.slice none 0 0) (.slice none 0 0) (.slice none 0 0) (.slice none 0 0)
      simp only [World.size_alloc] at h
      exact h)
  have HX0 : Hid (VarT1 (((w.alloc (.cells #[.slice a.ro m.refs.length a.rc, .slice a.tq m.table.length a.tc, .slice a.so m.snaps.length a.sc, .slice a.dq m.data.length a.dc] 26)).alloc (.cells #[.string name] 9)).alloc (.cells #[.slice none 0 0, .slice none 0 0, .slice none 0 0, .slice none 0 0] 26)) (w.heap.size + 1) name) := hide (by
    have h : VarT1 (((w.alloc (.cells #[.slice a.ro m.refs.length a.rc, .slice a.tq m.table.length a.tc, .slice a.so m.snaps.length a.sc, .slice a.dq m.data.length a.dc] 26)).alloc (.cells #[.string name] 9)).alloc (.cells #[.slice none 0 0, .slice none 0 0, .slice none 0 0, .slice none 0 0] 26)) (w.alloc (.cells #[.slice a.ro m.refs.length a.rc, .slice a.tq m.table.length a.tc, .slice a.so m.snaps.length a.sc, .slice a.dq m.data.length a.dc] 26)).heap.size name := (VarT1.new (w.alloc (.cells #[.slice a.ro m.refs.length a.rc, .slice a.tq m.table.length a.tc, .slice a.so m.snaps.length a.sc, .slice a.dq m.data.length a.dc] 26)) name).below (Joins.below_alloc1 _ _)
    simp only [World.size_alloc] at h
    exact h)
  have HL := hide hL
  obtain ⟨R, HR⟩ : ∃ R, Hid (R = scA m name) := ⟨_, hide rfl⟩
  rw [← unhide HR]
  clear hc hL
  go_enter Try.func8, Try.ntmps8
  go_upto_region 1 with fail
  revert HE HX0
  generalize (((w.alloc _).alloc _).alloc _) = W0
  intro HE HX0
  obtain ⟨c0, c1, c2, c3⟩ := (unhide HE).v.cells
  have hnx : W0.cell? ⟨w.heap.size + 1, 0, none⟩ = some (.string name) := unhide HX0
  go_wp2_with fail
  refine (changeSnaps_any a m name 26 #[.pointer (some ⟨w.heap.size + 1, 0, none⟩)] (cr1 m name) (crC m name) _ (unhide HL) hz (unhide HE).s (fun _ _ => rfl) (fun him => ⟨cr_fit name hz (imB_iff.1 him), fun W p B a1 ts1 h1 h2 h3 h4 h5 => ?_⟩)).mono ?_
  · exact createC_any m name _ W p B a1 ts1 hz (imB_iff.1 him) ((unhide HX0).below h1) (Nat.lt_of_lt_of_le (unhide HX0).lt h2) h3 h4 h5
  · intro e w2 hans
    rw [cr_ans, ← unhide HR] at hans
    obtain ⟨b, ts, rfl, ho, hb⟩ := hans
    have HP := hide ((unhide HE).put hb ho)
    have HE2 := hide ((unhide HE).below hb)
    clear ho hb c0 c1 c2 c3 hnx
    obtain ⟨r0, r1, r2, r3⟩ := (unhide HE2).r.cells
    obtain ⟨z0, z1, z2, z3⟩ := (unhide HE2).r.free
    go_wp2
    refine bodyPost_ret (res_ic Try.results8 rfl rfl (unhide HP).1) rfl ?_
    exact AnsI.of rfl rfl (unhide HP).2.1 (unhide HP).2.2

end Go.Proofs.Ytmkegkpnomcnhaa
