import Derived.Test.YtkaiglhljpehpacGreatRows
import Derived.Test.YtkaiglhljpehpacGreatPart13
import Derived.Test.YtkaiglhljpehpacGreatPart25
import Derived.Test.YtkaiglhljpehpacGreatPart19
import Derived.Test.YtkaiglhljpehpacGreatPart20
import Derived.Test.YtkaiglhljpehpacGreatPart22
import Derived.Test.YtkaiglhljpehpacGreatPart23
import Derived.Test.YtkaiglhljpehpacGreatPart16
import Derived.Test.YtkaiglhljpehpacGreatPart28
import Derived.WalkKit
import Derived.WalkSpells
import Derived.KernelRfl
import Derived.Test.YtkaiglhljpehpacGreatPart1
import Derived.Test.YtkaiglhljpehpacGreatPart3
import Derived.Test.YtkaiglhljpehpacGreatPart2
import Derived.Test.YtkaiglhljpehpacGreatPart8
import Derived.Test.YtkaiglhljpehpacGreatPart18
import Derived.Test.YtkaiglhljpehpacGreatPart4
import Derived.Test.YtkaiglhljpehpacGreatPart5
import Derived.Test.YtkaiglhljpehpacGreatPart6
import Derived.Test.YtkaiglhljpehpacGreatPart7
import Derived.Test.YtkaiglhljpehpacGreatPart9
import Derived.LoopN
import Derived.BigQuiet
import Derived.Deep.QuietTactic
import Derived.Deep.RegionWith
import Derived.Deep.RegionHeld3

/- Contract of impl.SnapDelete. (Written by gens/snapf.py.) -/
namespace Go.Proofs.YtkaiglhljpehpacGreat
open Go.RowKit
set_option linter.unusedVariables false
set_option maxRecDepth 100000

/-- What SnapDelete answers. -/
def sdA (m : Img) (name : ByteArray) : Img × Int := if imB m = true then imDelete m name else (im0, 1)
def dtC (m : Img) (name : ByteArray) : Int := if imFind m name < m.snaps.length then 0 else 5
def dt1 (m : Img) (name : ByteArray) : Img := if imFind m name < m.snaps.length then { m with snaps := m.snaps.eraseIdx (imFind m name) } else m
theorem dt_fit {m : Img} (name : ByteArray) (h : ImR m) : FitR (dt1 m name) := by
  unfold dt1
  split
  · have hf := h.fitR
    refine ⟨hf.r, hf.d, by simp only [List.length_eraseIdx]; have := h.few; split <;> omega, fun t ht => ?_, fun s hs => hf.z s (List.mem_of_mem_eraseIdx hs)⟩
    have ht' : t ∈ m.table :: (m.snaps.eraseIdx (imFind m name)).map (·.table) := ht
    rw [List.mem_cons, map_erase] at ht'
    rcases ht' with rfl | ht'
    · exact h.table
    · exact h.tabs t (by unfold imTabs; exact List.mem_cons_of_mem _ (List.mem_of_mem_eraseIdx ht'))
  · exact h.fitR
theorem dt_ans {m : Img} (name : ByteArray) : (if imB m = true then (imFit (dt1 m name), dtC m name) else (im0, 1)) = sdA m name := by
  refine ans_eq (fun h => ?_) (fun h => by rw [sdA, h]; rfl)
  have hR := imB_iff.1 h
  rw [sdA, if_pos h]
  unfold dt1 dtC
  by_cases hf : imFind m name < m.snaps.length
  · rw [if_pos hf, if_pos hf, delete_at hf rfl]
    exact ⟨fit_delete hR hf, rfl⟩
  · rw [if_neg hf, if_neg hf, delete_none hf]
    exact ⟨fit_self hR, rfl⟩
theorem Hld.delS {W W1 : World} {p B g q n cap : Nat} {a : Im4} {m : Img} {ts : List Value} (h : Hld W p B a m ts) (hB : B ≤ W.heap.size) (hq : q < m.snaps.length) (hg : a.so = some ⟨g, 0, none⟩) (hc : a.sc = cap) (hn : (m.snaps.eraseIdx q).length = n) (hk : Keep (fun k => k = g) W W1)
    (ho : OwnS W1 B 66 2 (.slice (some ⟨g, 0, none⟩) n cap) n (snC (m.snaps.eraseIdx q) (ts.eraseIdx q))) :
    Hld (W1.setCell ⟨p, 2, none⟩ (.slice (some ⟨g, 0, none⟩) n cap)) p B { a with so := some ⟨g, 0, none⟩, sc := cap } { m with snaps := m.snaps.eraseIdx q } (ts.eraseIdx q) ∧ Below B W (W1.setCell ⟨p, 2, none⟩ (.slice (some ⟨g, 0, none⟩) n cap)) := by
  have hso : Own (.slice a.so m.snaps.length a.sc) g := by rw [hg]; exact own_of (by omega) rfl
  have hgB := (h.o.s.ge g hso).1
  have hnp : p ≠ g := fun e => h.o.s.other h.v (by decide) (e ▸ hso)
  have hv1 : VarM W1 p 32 (.slice a.ro m.refs.length a.rc) (.slice a.tq m.table.length a.tc) (.slice a.so m.snaps.length a.sc) (.slice a.dq m.data.length a.dc) := (hk.block _ h.v.lt hnp).trans h.v
  have hrows : OwnA W1 B (imRows a m ts) := h.o.rows.keep hk (fun r hr x hx e => own_apartS (h.o.rows.own r hr).row h.o.s (by decide) x hx (e ▸ hso))
  have ho1 : OwnIm W1 B { a with so := some ⟨g, 0, none⟩, sc := cap } { m with snaps := m.snaps.eraseIdx q } (ts.eraseIdx q) := by
    refine ⟨by simp only [List.length_eraseIdx, h.o.len], ?_, ?_⟩
    · show OwnS W1 B 66 2 (.slice (some ⟨g, 0, none⟩) (m.snaps.eraseIdx q).length cap) (m.snaps.eraseIdx q).length _
      rw [hn]
      exact ho
    · refine hrows.sub ?_
      show List.Sublist ((.slice a.ro m.refs.length a.rc, m.refs) :: (.slice a.tq m.table.length a.tc, m.table) :: (.slice a.dq m.data.length a.dc, m.data) :: (ts.eraseIdx q).zip ((m.snaps.eraseIdx q).map (·.table))) ((.slice a.ro m.refs.length a.rc, m.refs) :: (.slice a.tq m.table.length a.tc, m.table) :: (.slice a.dq m.data.length a.dc, m.data) :: ts.zip (m.snaps.map (·.table)))
      rw [map_tabs_erase, zip_erase]
      exact ((List.eraseIdx_sublist _ _).cons_cons _).cons_cons _ |>.cons_cons _
  have hk2 : Keep (fun x => x = p) W1 (W1.setCell ⟨p, 2, none⟩ (.slice (some ⟨g, 0, none⟩) n cap)) := (Keep.refl (fun x => x = p) W1).setCell (p := ⟨p, 2, none⟩) rfl _
  refine ⟨⟨?_, ho1.keep hk2 (fun x hx e => ho1.other (v0 := .slice a.ro m.refs.length a.rc) (v1 := .slice a.tq m.table.length a.tc) (v2 := .slice a.so m.snaps.length a.sc) (v3 := .slice a.dq m.data.length a.dc) hv1 (e ▸ hx)), h.p⟩, ?_⟩
  · simp only [hn]
    exact hv1.set2 _
  · exact (hk.below hB (fun k e => by omega)).setCell (p := ⟨p, 2, none⟩) h.p _

set_option maxHeartbeats 3200000 in
theorem deleteC_any (m : Img) (name : ByteArray) (x : Nat) (W : World) (p B : Nat) (a : Im4) (ts : List Value) (hR : ImR m) (hx : VarT1 W x name) (hxB : x < B) (hB : B ≤ W.heap.size) (hh : Hld W p B a m ts) :
    Calls Tryz.prog 98 #[.pointer (some ⟨p, 0, none⟩), .pointer (some ⟨x, 0, none⟩)] W fun e W' => Chg W W' p B e (dtC m name) (dt1 m name) := by
  have HH := hide hh
  have HX := hide hx
  have HM := hide hR.M
  clear hh hR hx
  go_enter Tryz.func98, Tryz.ntmps98
  have hS0 : VarM W.drew p 32 (.slice a.ro m.refs.length a.rc) (.slice a.tq m.table.length a.tc) (.slice a.so m.snaps.length a.sc) (.slice a.dq m.data.length a.dc) ∧ VarT1 W.drew x name := ⟨(unhide HH).v.below (Below.refl _ _).drew, (unhide HX).below (Below.refl _ _).drew⟩
  have HSN : Hid (Sns W a.so m.snaps) := hide ((unhide HH).o.shows (unhide HM).zs).s
  have HSL := hide (unhide HM).s
  go_upto_region 1 with fail
  refine wp_region_ord (fun w' => VarM w' p 32 (.slice a.ro m.refs.length a.rc) (.slice a.tq m.table.length a.tc) (.slice a.so m.snaps.length a.sc) (.slice a.dq m.data.length a.dc) ∧ VarT1 w' x name) [0, 1, 2, 3, 4] [(0, 0), (1, 0), (2, 0), (3, 0), (4, 0), (5, 3), (6, 4)] (by kernel_rfl) (by kernel_rfl) rfl (by kernel_rfl) ?_
  refine ord_read (.pointer (some ⟨p, 0, none⟩)) rfl rfl hS0 (fun W hW => by go_simp) ?_
  refine ord_read (.pointer (some ⟨p, 0, none⟩)) rfl rfl hS0 (fun W hW => by go_simp) ?_
  refine ord_read (.pointer (some ⟨p, 2, none⟩)) rfl rfl hS0 (fun W hW => by go_simp) ?_
  refine ord_read (.slice a.so m.snaps.length a.sc) rfl rfl hS0 (fun W hW => by obtain ⟨k0, k1, k2, k3⟩ := hW.1.cells; go_simp) ?_
  refine ord_read (.string name) rfl rfl hS0 (fun W hW => by have k0 : W.cell? ⟨x, 0, none⟩ = some (.string name) := hW.2; go_simp) ?_
  clear hS0
  refine ord_alone rfl rfl ?_
  intro K hK
  unfold Oper.wp
  go_simp
  refine (findSnap_any a.so a.sc m.snaps name _ (by have := unhide HSL; unfold maxLen; omega) ((unhide HSN).below (Below.refl _ _).drew)).mono ?_
  rintro e w2 ⟨rfl, hb⟩
  have HB2 : Hid (Below W.heap.size W w2) := hide (fr (Below.refl _ _).drew hb)
  clear hb
  refine hK _ _ ?_
  clear hK K
  refine ord_val (.int .i64 (fdL m.snaps name)) rfl rfl (fun W => by go_simp) ?_
  refine ord_done ?_
  by_cases hf : imFind m name < m.snaps.length
  case neg =>
    have HE : Hid (dtC m name = 5 ∧ dt1 m name = m) := hide ⟨if_neg hf, if_neg hf⟩
    rw [show fdL m.snaps name = -1 from if_neg hf]
    clear hf
    go_wp2
    go_ret
    rw [(unhide HE).1, (unhide HE).2]
    exact Chg.same 5 (unhide HH) hB (unhide HB2)
  have HE0 : Hid (dtC m name = 0 ∧ dt1 m name = { m with snaps := m.snaps.eraseIdx (imFind m name) }) := hide ⟨if_pos hf, if_pos hf⟩
  rw [show fdL m.snaps name = (imFind m name : Int) from if_pos hf]
  obtain ⟨q, hq⟩ : ∃ q, imFind m name = q := ⟨_, rfl⟩
  rw [hq] at HE0 hf ⊢
  have hqi : (q : Int) < (m.snaps.length : Int) := by omega
  have HQL := hide hf
  clear hq hf
  have HH2 := hide ((unhide HH).below (unhide HB2))
  obtain ⟨g, cap, cur, e0, _, _⟩ := own_form (by omega) ((unhide HH2).o.s.row (by omega))
  obtain ⟨eso, hcap⟩ : a.so = some ⟨g, 0, none⟩ ∧ a.sc = cap := by simp only [Value.slice.injEq] at e0; exact ⟨e0.1, e0.2.2⟩
  have HROW := hide ((unhide HH2).o.s.row (by omega))
  rw [eso, hcap] at HROW
  have HES := hide (And.intro eso hcap)
  have HNE : Hid ((m.snaps.eraseIdx q).length = q + (m.snaps.length - (q + 1))) := hide (by rw [List.length_eraseIdx, if_pos (unhide HQL)]; omega)
  obtain ⟨c0, c1, c2, c3⟩ := (unhide HH2).v.cells
  rw [eso, hcap] at c2
  have hw1 : IntKind.i64.wrap ((q : Int) + 1) = (q : Int) + 1 := by have := unhide HSL; rw [IntKind.wrap_i64]; omega
  clear eso hcap e0
  go_wp2_with fail
  refine (deleteSn_any w2 B g cap q m.snaps ts (unhide HH2).o.len (unhide HQL) (by have := unhide HSL; omega) (ownSn_one (unhide HH2).o.tabsOwn) (unhide HROW)).mono ?_
  rintro e w3 ⟨rfl, ho3, hk3⟩
  have HN3 := hide (Hld.delS (unhide HH2) (Nat.le_trans hB (unhide HB2).size) (unhide HQL) (unhide HES).1 (unhide HES).2 (unhide HNE) hk3 ho3)
  have hv3 : VarM w3 p 32 (.slice a.ro m.refs.length a.rc) (.slice a.tq m.table.length a.tc) (.slice a.so m.snaps.length a.sc) (.slice a.dq m.data.length a.dc) := (hk3.block _ (unhide HH2).v.lt (fun e => (unhide HH2).o.s.other (unhide HH2).v (by decide) (by have := own_of (n := m.snaps.length) (cap := cap) (g := g) (k := p) (by have := unhide HQL; omega) e.symm; rw [(unhide HES).1, (unhide HES).2]; exact this))).trans (unhide HH2).v
  have HBW : Hid (Below B W w2) := hide ((unhide HB2).mono hB)
  clear ho3 hk3 c0 c1 c2 c3
  obtain ⟨c0, c1, c2, c3⟩ := hv3.cells
  obtain ⟨z0, z1, z2, z3⟩ := hv3.free
  go_wp2
  go_ret
  rw [(unhide HE0).1, (unhide HE0).2]
  exact ⟨rfl, _, _, (unhide HN3).1, (unhide HBW).trans (unhide HN3).2⟩

set_option maxHeartbeats 1600000 in
theorem snapDelete_impl (a : Im4) (m : Img) (name : ByteArray) (w : World) (hz : name.size ≤ 65536) (hL : ImL m) (hc : ImS w a m) :
    Calls Tryz.prog 61 #[imV a m, .string name] w fun e w' => AnsI w w' e (sdA m name) := by
  have hmf : ∀ (fn : Fn) (first cap : Array Value) (w : World), (Instr.makeFunc fn first cap).run Tryz.prog w = .ok (.func fn first cap) w := fun _ _ _ _ => rfl
  have HE : Hid (FcE w (((w.alloc (.cells #[.slice a.ro m.refs.length a.rc, .slice a.tq m.table.length a.tc, .slice a.so m.snaps.length a.sc, .slice a.dq m.data.length a.dc] 32)).alloc (.cells #[.string name] 9)).alloc (.cells #[.slice none 0 0, .slice none 0 0, .slice none 0 0, .slice none 0 0] 32)) (w.heap.size + 1 + 1) a m) := hide (by
    refine ⟨?_, ?_, hc.below (fr (fr (Joins.below_alloc1 w _) (Joins.below_alloc1 _ _)) (Joins.below_alloc1 _ _)), fr (fr (Joins.below_alloc1 w _) (Joins.below_alloc1 _ _)) (Joins.below_alloc1 _ _), by omega, by simp⟩
    · exact ((VarM.new w 32 (.slice a.ro m.refs.length a.rc) (.slice a.tq m.table.length a.tc) (.slice a.so m.snaps.length a.sc) (.slice a.dq m.data.length a.dc)).below (Joins.below_alloc1 _ _)).below (Joins.below_alloc1 _ _)
    · have h := VarM.new ((w.alloc (.cells #[.slice a.ro m.refs.length a.rc, .slice a.tq m.table.length a.tc, .slice a.so m.snaps.length a.sc, .slice a.dq m.data.length a.dc] 32)).alloc (.cells #[.string name] 9)) 32 (.slice none 0 0) (.slice none 0 0) (.slice none 0 0) (.slice none 0 0)
      simp only [World.size_alloc] at h
      exact h)
  have HX0 : Hid (VarT1 (((w.alloc (.cells #[.slice a.ro m.refs.length a.rc, .slice a.tq m.table.length a.tc, .slice a.so m.snaps.length a.sc, .slice a.dq m.data.length a.dc] 32)).alloc (.cells #[.string name] 9)).alloc (.cells #[.slice none 0 0, .slice none 0 0, .slice none 0 0, .slice none 0 0] 32)) (w.heap.size + 1) name) := hide (by
    have h : VarT1 (((w.alloc (.cells #[.slice a.ro m.refs.length a.rc, .slice a.tq m.table.length a.tc, .slice a.so m.snaps.length a.sc, .slice a.dq m.data.length a.dc] 32)).alloc (.cells #[.string name] 9)).alloc (.cells #[.slice none 0 0, .slice none 0 0, .slice none 0 0, .slice none 0 0] 32)) (w.alloc (.cells #[.slice a.ro m.refs.length a.rc, .slice a.tq m.table.length a.tc, .slice a.so m.snaps.length a.sc, .slice a.dq m.data.length a.dc] 32)).heap.size name := (VarT1.new (w.alloc (.cells #[.slice a.ro m.refs.length a.rc, .slice a.tq m.table.length a.tc, .slice a.so m.snaps.length a.sc, .slice a.dq m.data.length a.dc] 32)) name).below (Joins.below_alloc1 _ _)
    simp only [World.size_alloc] at h
    exact h)
  have HL := hide hL
  obtain ⟨R, HR⟩ : ∃ R, Hid (R = sdA m name) := ⟨_, hide rfl⟩
  rw [← unhide HR]
  clear hc hL
  go_enter Tryz.func61, Tryz.ntmps61
  go_upto_region 1 with fail
  revert HE HX0
  generalize (((w.alloc _).alloc _).alloc _) = W0
  intro HE HX0
  obtain ⟨c0, c1, c2, c3⟩ := (unhide HE).v.cells
  have hnx : W0.cell? ⟨w.heap.size + 1, 0, none⟩ = some (.string name) := unhide HX0
  go_wp2_with fail
  refine (changeSnaps_any a m name 98 #[.pointer (some ⟨w.heap.size + 1, 0, none⟩)] (dt1 m name) (dtC m name) _ (unhide HL) hz (unhide HE).s (fun _ _ => rfl) (fun him => ⟨dt_fit name (imB_iff.1 him), fun W p B a1 ts1 h1 h2 h3 h4 h5 => ?_⟩)).mono ?_
  · exact deleteC_any m name _ W p B a1 ts1 (imB_iff.1 him) ((unhide HX0).below h1) (Nat.lt_of_lt_of_le (unhide HX0).lt h2) h3 h4
  · intro e w2 hans
    rw [dt_ans, ← unhide HR] at hans
    obtain ⟨b, ts, rfl, ho, hb⟩ := hans
    have HP := hide ((unhide HE).put hb ho)
    have HE2 := hide ((unhide HE).below hb)
    clear ho hb c0 c1 c2 c3 hnx
    obtain ⟨r0, r1, r2, r3⟩ := (unhide HE2).r.cells
    obtain ⟨z0, z1, z2, z3⟩ := (unhide HE2).r.free
    go_wp2
    refine bodyPost_ret (res_ic Tryz.results61 rfl rfl (unhide HP).1) rfl ?_
    exact AnsI.of rfl rfl (unhide HP).2.1 (unhide HP).2.2

end Go.Proofs.YtkaiglhljpehpacGreat

/- Contracts of SnapNames, of the model and of the program. -/
namespace Go.Proofs.YtkaiglhljpehpacGreat
open Go.RowKit
set_option linter.unusedVariables false
set_option maxRecDepth 100000

/-- An answer: texts of its own and a code. -/
def AnsS (W w' : World) (e : Ending) (R : List ByteArray × Int) : Prop := ∃ qo qa, e = .returned (.tuple #[.slice qo R.1.length qa, .int .i64 R.2]) ∧ OwnR w' W.heap.size 9 1 (.slice qo R.1.length qa) R.1.length (strV R.1) ∧ Below W.heap.size W w'
theorem nmL_len (m : Img) : (nmL m).length = m.snaps.length := by simp [nmL]

theorem sn_bd (m : Img) : (snA m).1.length ≤ 1000 ∧ ∀ s ∈ (snA m).1, s.size ≤ maxLen := by
  unfold snA
  split
  · rename_i h
    have hM := (imB_iff.1 h).M
    refine ⟨by rw [nmL_len]; have := hM.s; omega, fun s hs => ?_⟩
    unfold nmL at hs
    obtain ⟨t, ht, rfl⟩ := List.mem_map.1 hs
    have := (hM.st t ht).2
    unfold maxLen; omega
  · exact ⟨Nat.zero_le _, fun s hs => by cases hs⟩

set_option maxHeartbeats 1600000 in
theorem snapNames_impl (a : Im4) (m : Img) (w : World) (hL : ImL m) (hc : ImS w a m) :
    Calls Tryz.prog 63 #[imV a m] w fun e w' => AnsS w w' e (snA m) := by
  have HA := hide (Joins.below_alloc1 w (.cells #[.slice a.ro m.refs.length a.rc, .slice a.tq m.table.length a.tc, .slice a.so m.snaps.length a.sc, .slice a.dq m.data.length a.dc] 32))
  have HV := hide (VarM.new w 32 (.slice a.ro m.refs.length a.rc) (.slice a.tq m.table.length a.tc) (.slice a.so m.snaps.length a.sc) (.slice a.dq m.data.length a.dc))
  have HC := hide (hc.below (unhide HA))
  have HL := hide hL
  obtain ⟨R, HR⟩ : ∃ R, Hid (R = snA m) := ⟨_, rfl⟩
  rw [← unhide HR]
  clear hc hL
  obtain ⟨j0, hj, hy0, hy1, hy2⟩ := info_parts infoS
  go_enter Tryz.func63, Tryz.ntmps63
  go_upto_region 1 with fail
  revert HA HV HC
  generalize (w.alloc _) = W0
  intro HA HV HC
  obtain ⟨c0, c1, c2, c3⟩ := (unhide HV).cells
  go_wp2_with fail
  refine (imageOK_impl a m _ (unhide HL) (unhide HC)).mono ?_
  rintro e w1 ⟨rfl, hb⟩
  have HB1 := hide (fr (unhide HA) hb)
  have HC1 := hide ((unhide HC).below hb)
  have HV1 := hide ((unhide HV).below hb)
  clear hb c0 c1 c2 c3 HA HV HC
  cases him : imB m
  · have HE : Hid (R = ([], 1)) := hide (by rw [unhide HR, snA, him]; rfl)
    go_wp2
    go_ret2
    rw [unhide HE]
    exact ⟨_, _, rfl, .inl ⟨rfl, rfl, _, rfl⟩, unhide HB1⟩
  have HE : Hid (R = (nmL m, 0)) := hide (by rw [unhide HR, snA, him]; rfl)
  have hs3 := (imB_iff.1 him).few
  clear him
  obtain ⟨c0, c1, c2, c3⟩ := (unhide HV1).cells
  go_wp2
  clear c0 c1 c2 c3
  go_loopw [4, 13] (fun o i wr => ∃ (k : Nat) (qo : Option Addr) (qa : Nat), k ≤ m.snaps.length ∧ i = .int .i64 k ∧ o = .slice qo k qa ∧ Hid (OwnR wr w1.heap.size 9 1 (.slice qo k qa) k (strV ((nmL m).take k))) ∧ Hid (Below w1.heap.size w1 wr)) (fun _ i _ => m.snaps.length - (intOf i).toNat)
  case atStart => exact ⟨0, _, _, Nat.zero_le _, rfl, rfl, hide (.inl ⟨rfl, by simp [strV], _, rfl⟩), hide (Below.refl _ _)⟩
  case round =>
    obtain ⟨k, qo, qa, hk, rfl, rfl, HO, HB⟩ := hrel
    by_cases hlt : k < m.snaps.length
    · obtain ⟨b, off, tq, tc, eb, hn0, ht0, _, _, _⟩ := ((unhide HC1).s.below (unhide HB)) k hlt
      have hlti : (k : Int) < (m.snaps.length : Int) := by omega
      have HS : Hid (strV ((nmL m).take (k + 1)) = strV ((nmL m).take k) ++ [.string m.snaps[k].name]) := hide (by
        rw [List.take_succ_eq_append_getElem (by simpa [nmL] using hlt)]
        simp [strV, nmL])
      have HX := hide (VarN.new wr m.snaps[k].name (.slice tq m.snaps[k].table.length tc))
      have HBX := hide (Joins.below_alloc1 wr (.cells #[.string m.snaps[k].name, .slice tq m.snaps[k].table.length tc] 66))
      go_upto_region 7 with fail
      revert HX HBX
      generalize (wr.alloc _) = w2
      intro HX HBX
      obtain ⟨x0, x1⟩ := (unhide HX).cells
      have HO2 := hide ((unhide HO).below (unhide HBX))
      have HB2 := hide (fr (unhide HB) (unhide HBX))
      clear HX HBX hn0 ht0 eb
      have HOA := hide ((unhide HO2).below (Joins.below_alloc1 _ (.cells #[.string m.snaps[k].name] 9)))
      have HBA := hide (fr (unhide HB2) (Joins.below_alloc1 _ (.cells #[.string m.snaps[k].name] 9)))
      have HSZ := hide (unhide HB2).size
      go_wp2_with (at_builtin; refine wpList_append_one rfl _ _ 33 rfl w1.heap.size 9 j0 (.string ⟨#[]⟩) 1 16 Tryz.underlying33 hj hy0 hy1 hy2 rfl (by omega) qo k qa (strV ((nmL m).take k)) rfl (unhide HOA) (by have := unhide HSZ; simp; omega) ⟨w2.heap.size, 0, none⟩ _ [.string m.snaps[k].name] rfl rfl (byte_news w2 _ _) (str_one _) (by unfold maxLen; omega) (by omega) ?_; intro g2 cap2 wA hoA hkA; have HSF := hide (And.intro hoA (keep_below (unhide HBA) (unhide HOA) (Nat.le_refl _) hkA)); clear hoA hkA)
      go_roundw
      case rel => exact ⟨k + 1, some ⟨g2, 0, none⟩, cap2, by omega, by go_num, rfl, hide (.inr ⟨by omega, by rw [unhide HS]; exact (unhide HSF).1⟩), hide (unhide HSF).2⟩
      case measure => simp [intOf]; omega
    · have hkl : k = m.snaps.length := by omega
      subst hkl
      have HT : Hid ((nmL m).take m.snaps.length = nmL m) := hide (List.take_of_length_le (by simp [nmL]))
      go_wp2
      go_ret2
      have h := unhide HO
      rw [unhide HT] at h
      rw [unhide HE]
      exact ⟨qo, qa, by rw [nmL_len]; rfl, by rw [nmL_len]; exact h.base (unhide HB1).size, fr (unhide HB1) (unhide HB)⟩

end Go.Proofs.YtkaiglhljpehpacGreat
