import Derived.Test.YtjoafbkcnnhdiacRows
import Derived.Test.YtjoafbkcnnhdiacLResizePart1
import Derived.Test.YtjoafbkcnnhdiacLResizePart2
import Derived.Test.YtjoafbkcnnhdiacLResizePart3
import Derived.WalkKit
import Derived.WalkSpells
import Derived.BigQuiet
import Derived.Deep.QuietTactic
import Derived.Deep.RegionWith
import Derived.Deep.RegionHeld3
import Derived.KernelRfl
import Derived.LoopN
import Derived.Deep.CutRange
import Derived.Test.YtjoafbkcnnhdiacLResizePart4
import Derived.Deep.Quiet

namespace Go.Proofs.Ytjoafbkcnnhdiac
open Go.RowKit
set_option linter.unusedVariables false
set_option maxRecDepth 100000

theorem OwnN.spot {w : World} {B c n k : Nat} {ao : Option Addr} {xs : List Int} (h : OwnN w B (.slice ao n k) xs) (hn : n = xs.length) (hc : c < xs.length) : ∃ g, ao = some ⟨g, 0, none⟩ ∧ w.cell? ⟨g, c, none⟩ = some (.int .i64 xs[c]) ∧ w.frozen? ⟨g, c, none⟩ = false ∧ Own (.slice ao n k) g ∧ ∀ y, OwnN (w.setCell ⟨g, c, none⟩ (.int .i64 y)) B (.slice ao n k) (xs.set c y) := by
  subst hn
  have hr := h.row
  have hp : 0 < xs.length := by omega
  obtain ⟨g, cap, cur, e, _, _⟩ := own_form hp (hr.row hp)
  simp only [Value.slice.injEq, true_and] at e
  obtain ⟨rfl, rfl⟩ := e
  refine ⟨g, rfl, ?_, (hr.row hp).frozenAt c, own_of hp rfl, fun y => ?_⟩
  · have := (hr.row hp).cellAt c (by omega)
    rwa [intV_get hc] at this
  · exact OwnN.mk' (own_setI hr hp y) (by simp)
theorem OwnIm.setR {w : World} {B c : Nat} {a : Im4} {m : Img} {ts : List Value} (h : OwnIm w B a m ts) (hc : c < m.refs.length) : ∃ g, a.ro = some ⟨g, 0, none⟩ ∧ w.cell? ⟨g, c, none⟩ = some (.int .i64 m.refs[c]) ∧ w.frozen? ⟨g, c, none⟩ = false ∧ ImB a m ts g ∧ ∀ y, OwnIm (w.setCell ⟨g, c, none⟩ (.int .i64 y)) B a { m with refs := m.refs.set c y } ts := by
  obtain ⟨g, e, h1, h2, h3, h4⟩ := (h.rows.own (.slice a.ro m.refs.length a.rc, m.refs) (by simp [imRows])).spot rfl hc
  have hk : ∀ y, Keep (Own (.slice a.ro m.refs.length a.rc)) w (w.setCell ⟨g, c, none⟩ (.int .i64 y)) := fun y => (Keep.refl _ w).setCell (p := ⟨g, c, none⟩) h3 _
  refine ⟨g, e, h1, h2, .inl h3, fun y => ⟨h.len, h.s.keep (hk y) (own_apartT h.s (h.rows.own (.slice a.ro m.refs.length a.rc, m.refs) (by simp [imRows])).row (by decide)), ?_⟩⟩
  have := h.rows.turn (j := 0) rfl (hk y) (h4 y)
  simp only [imRows, List.length_set]
  exact this
theorem OwnIm.setT {w : World} {B c : Nat} {a : Im4} {m : Img} {ts : List Value} (h : OwnIm w B a m ts) (hc : c < m.table.length) : ∃ g, a.tq = some ⟨g, 0, none⟩ ∧ w.cell? ⟨g, c, none⟩ = some (.int .i64 m.table[c]) ∧ w.frozen? ⟨g, c, none⟩ = false ∧ ImB a m ts g ∧ ∀ y, OwnIm (w.setCell ⟨g, c, none⟩ (.int .i64 y)) B a { m with table := m.table.set c y } ts := by
  obtain ⟨g, e, h1, h2, h3, h4⟩ := (h.rows.own (.slice a.tq m.table.length a.tc, m.table) (by simp [imRows])).spot rfl hc
  have hk : ∀ y, Keep (Own (.slice a.tq m.table.length a.tc)) w (w.setCell ⟨g, c, none⟩ (.int .i64 y)) := fun y => (Keep.refl _ w).setCell (p := ⟨g, c, none⟩) h3 _
  refine ⟨g, e, h1, h2, .inr (.inl h3), fun y => ⟨h.len, h.s.keep (hk y) (own_apartT h.s (h.rows.own (.slice a.tq m.table.length a.tc, m.table) (by simp [imRows])).row (by decide)), ?_⟩⟩
  have := h.rows.turn (j := 1) rfl (hk y) (h4 y)
  simp only [imRows, List.length_set]
  exact this
theorem OwnIm.setD {w : World} {B c : Nat} {a : Im4} {m : Img} {ts : List Value} (h : OwnIm w B a m ts) (hc : c < m.data.length) : ∃ g, a.dq = some ⟨g, 0, none⟩ ∧ w.cell? ⟨g, c, none⟩ = some (.int .i64 m.data[c]) ∧ w.frozen? ⟨g, c, none⟩ = false ∧ ImB a m ts g ∧ ∀ y, OwnIm (w.setCell ⟨g, c, none⟩ (.int .i64 y)) B a { m with data := m.data.set c y } ts := by
  obtain ⟨g, e, h1, h2, h3, h4⟩ := (h.rows.own (.slice a.dq m.data.length a.dc, m.data) (by simp [imRows])).spot rfl hc
  have hk : ∀ y, Keep (Own (.slice a.dq m.data.length a.dc)) w (w.setCell ⟨g, c, none⟩ (.int .i64 y)) := fun y => (Keep.refl _ w).setCell (p := ⟨g, c, none⟩) h3 _
  refine ⟨g, e, h1, h2, .inr (.inr (.inl h3)), fun y => ⟨h.len, h.s.keep (hk y) (own_apartT h.s (h.rows.own (.slice a.dq m.data.length a.dc, m.data) (by simp [imRows])).row (by decide)), ?_⟩⟩
  have := h.rows.turn (j := 2) rfl (hk y) (h4 y)
  simp only [imRows, List.length_set]
  exact this
theorem OwnIm.other {w : World} {B x : Nat} {a : Im4} {m : Img} {ts : List Value} {v0 v1 v2 v3 : Value} (h : OwnIm w B a m ts) (hv : VarM w x 29 v0 v1 v2 v3) : ¬ ImB a m ts x := by
  intro hx
  rcases hx with h1 | h1 | h1 | h1 | ⟨t, ht, h1⟩
  · exact (h.rows.own (.slice a.ro m.refs.length a.rc, m.refs) (by simp [imRows])).row.other hv (by decide) h1
  · exact (h.rows.own (.slice a.tq m.table.length a.tc, m.table) (by simp [imRows])).row.other hv (by decide) h1
  · exact (h.rows.own (.slice a.dq m.data.length a.dc, m.data) (by simp [imRows])).row.other hv (by decide) h1
  · exact h.s.other hv (by decide) h1
  · have hm : t ∈ (ts.zip (m.snaps.map (·.table))).map Prod.fst := by rw [zip_fst _ _ (by rw [List.length_map, h.len])]; exact ht
    obtain ⟨p, hp, rfl⟩ := List.mem_map.1 hm
    exact (h.rows.own p (by simp [imRows, hp])).row.other hv (by decide) h1
theorem VarM.keepIm {w w' : World} {B x : Nat} {a : Im4} {m : Img} {ts : List Value} {v0 v1 v2 v3 : Value} (hv : VarM w x 29 v0 v1 v2 v3) (h : OwnIm w B a m ts) (hk : Keep (ImB a m ts) w w') : VarM w' x 29 v0 v1 v2 v3 := (hk.block x hv.lt (h.other hv)).trans hv
theorem OwnIm.shows {w : World} {B : Nat} {a : Im4} {m : Img} {ts : List Value} (h : OwnIm w B a m ts) (hz : ∀ s ∈ m.snaps, s.name.size ≤ maxLen ∧ s.table.length ≤ maxLen) : ImS w a m := by
  refine ⟨ownRN (h.rows.own (.slice a.ro m.refs.length a.rc, m.refs) (by simp [imRows])).row, ownRN (h.rows.own (.slice a.tq m.table.length a.tc, m.table) (by simp [imRows])).row, fun i hi => ?_, ownRN (h.rows.own (.slice a.dq m.data.length a.dc, m.data) (by simp [imRows])).row⟩
  have hp : 0 < m.snaps.length := by omega
  have hit : i < ts.length := by rw [← h.len]; exact hi
  have hs := h.s.row hp
  obtain ⟨g, cap, cur, e, _, _⟩ := own_form hp hs
  rw [e] at hs
  simp only [Value.slice.injEq, true_and] at e
  obtain ⟨e1, e2⟩ := e
  have hgs := snC_get (List.getElem?_eq_getElem hi) (List.getElem?_eq_getElem hit)
  have hm : (ts[i], m.snaps[i].table) ∈ imRows a m ts := by
    have : (ts.zip (m.snaps.map (·.table)))[i]? = some (ts[i], m.snaps[i].table) := by
      rw [List.getElem?_zip_eq_some]
      exact ⟨List.getElem?_eq_getElem hit, by simp [hi]⟩
    simp [imRows, List.mem_of_getElem? this]
  obtain ⟨tq, tc, et, ho⟩ := h.rows.own _ hm
  simp only at et ho
  refine ⟨g, 0, tq, tc, e1, ?_, ?_, ownRN ho, (hz _ (List.getElem_mem hi)).1, (hz _ (List.getElem_mem hi)).2⟩
  · rw [Nat.zero_add]; exact (hs.cellAt (i * 2) (by omega)).trans hgs.1
  · rw [Nat.zero_add]; exact (hs.cellAt (i * 2 + 1) (by omega)).trans (by rw [hgs.2, et])

theorem drop_at {m : Img} {c : Nat} (hr : c < m.refs.length) (hd : c < m.data.length) : (m.refs[c] - 1 = 0 → imDrop m ((c : Int) + 2) = { m with refs := m.refs.set c (m.refs[c] - 1), data := m.data.set c 0 }) ∧ (¬ m.refs[c] - 1 = 0 → imDrop m ((c : Int) + 2) = { m with refs := m.refs.set c (m.refs[c] - 1) }) := by
  have e : ((c : Int) + 2 - 2).toNat = c := by omega
  have g : m.refs.getD c 0 = m.refs[c] := by simp [List.getD, hr]
  unfold imDrop
  rw [if_neg (by omega)]
  simp only [e, g]
  exact ⟨fun h => by rw [if_pos h], fun h => by rw [if_neg h]⟩
theorem keep_im {w w' : World} {a : Im4} {m : Img} {ts : List Value} (h : Keep (fun g => ImB a m ts g ∨ w.heap.size ≤ g) w w') (hg : ∀ g, ImB a m ts g → g < w.heap.size) : Keep (ImB a m ts) w w' :=
  ⟨h.os, h.tape, h.output, h.size, fun k hk hn => h.block k hk (fun hS => by
    rcases hS with hS | hS
    · exact hn hS
    · omega)⟩

set_option maxHeartbeats 1600000 in
theorem l10Drop_any (a : Im4) (m : Img) (ts : List Value) (B : Nat) (e : Int) (w : World) (he0 : -1000 ≤ e) (he1 : e ≤ 1000) (hr : e - 2 < m.refs.length) (hd : e - 2 < m.data.length) (hl : m.refs.length ≤ 1000 ∧ m.data.length ≤ 1000) (hv : ∀ c (h : c < m.refs.length), -1000 ≤ m.refs[c] ∧ m.refs[c] ≤ 1000) (ho : OwnIm w B a m ts) :
    Calls Try.prog 75 #[imV a m, .int .i64 e] w fun r w' => r = .returned (imV a m) ∧ OwnIm w' B a (imDrop m e) ts ∧ Keep (ImB a m ts) w w' := by
  have HA := hide (Joins.below_alloc2 w (.cells #[.slice a.ro m.refs.length a.rc, .slice a.tq m.table.length a.tc, .slice a.so m.snaps.length a.sc, .slice a.dq m.data.length a.dc] 29) (.cells #[.slice none 0 0, .slice none 0 0, .slice none 0 0, .slice none 0 0] 29))
  have HO := hide (ho.below (unhide HA))
  have HV := hide ((VarM.new w 29 (.slice a.ro m.refs.length a.rc) (.slice a.tq m.table.length a.tc) (.slice a.so m.snaps.length a.sc) (.slice a.dq m.data.length a.dc)).below (Joins.below_alloc1 _ (.cells #[.slice none 0 0, .slice none 0 0, .slice none 0 0, .slice none 0 0] 29)))
  have HR := hide ((VarM.new (w.alloc (.cells #[.slice a.ro m.refs.length a.rc, .slice a.tq m.table.length a.tc, .slice a.so m.snaps.length a.sc, .slice a.dq m.data.length a.dc] 29)) 29 (.slice none 0 0) (.slice none 0 0) (.slice none 0 0) (.slice none 0 0)).at (y := w.heap.size + 1) (by simp))
  have HGE : Hid (∀ g, ImB a m ts g → g < w.heap.size) := hide (fun g hg => (ho.ge g hg).2)
  clear ho
  by_cases h2 : e < 2
  · have HE : Hid (imDrop m e = m) := hide (if_pos h2)
    go_enter Try.func75, Try.ntmps75
    go_upto_region 1 with fail
    revert HA HO HV HR
    generalize ((w.alloc _).alloc _) = W0
    intro HA HO HV HR
    obtain ⟨c0, c1, c2, c3⟩ := (unhide HV).cells
    obtain ⟨r0, r1, r2, r3⟩ := (unhide HR).cells
    obtain ⟨z0, z1, z2, z3⟩ := (unhide HR).free
    have HK : Hid (Keep (fun g => ImB a m ts g ∨ w.heap.size ≤ g) w ((((W0.setCell ⟨w.heap.size + 1, 0, none⟩ (.slice a.ro m.refs.length a.rc)).setCell ⟨w.heap.size + 1, 1, none⟩ (.slice a.tq m.table.length a.tc)).setCell ⟨w.heap.size + 1, 2, none⟩ (.slice a.so m.snaps.length a.sc)).setCell ⟨w.heap.size + 1, 3, none⟩ (.slice a.dq m.data.length a.dc))) := hide (by
      have k0 : Keep (fun g => ImB a m ts g ∨ w.heap.size ≤ g) w W0 := Keep.of_below (unhide HA)
      exact (((k0.setCell (p := ⟨w.heap.size + 1, 0, none⟩) (.inr (Nat.le_succ _)) _).setCell (p := ⟨w.heap.size + 1, 1, none⟩) (.inr (Nat.le_succ _)) _).setCell (p := ⟨w.heap.size + 1, 2, none⟩) (.inr (Nat.le_succ _)) _).setCell (p := ⟨w.heap.size + 1, 3, none⟩) (.inr (Nat.le_succ _)) _)
    have HVN := hide ((((unhide HR).set0 (.slice a.ro m.refs.length a.rc)).set1 (.slice a.tq m.table.length a.tc)).set2 (.slice a.so m.snaps.length a.sc) |>.set3 (.slice a.dq m.data.length a.dc))
    have HON := hide ((unhide HO).keep (S := fun g => g = w.heap.size + 1) (((((Keep.refl (fun g => g = w.heap.size + 1) W0).setCell (p := ⟨w.heap.size + 1, 0, none⟩) rfl (.slice a.ro m.refs.length a.rc)).setCell (p := ⟨w.heap.size + 1, 1, none⟩) rfl (.slice a.tq m.table.length a.tc)).setCell (p := ⟨w.heap.size + 1, 2, none⟩) rfl (.slice a.so m.snaps.length a.sc)).setCell (p := ⟨w.heap.size + 1, 3, none⟩) rfl (.slice a.dq m.data.length a.dc)) (fun g hg he => by have := unhide HGE g hg; omega))
    go_wp2
    refine bodyPost_ret (res_im Try.results75 rfl (unhide HVN)) rfl ⟨rfl, ?_, ?_⟩
    · rw [unhide HE]; exact unhide HON
    · exact keep_im (unhide HK) (unhide HGE)
  · obtain ⟨c, hcc⟩ : ∃ c : Nat, e = (c : Int) + 2 := ⟨(e - 2).toNat, by omega⟩
    subst hcc
    have hcr : c < m.refs.length := by omega
    have hcd : c < m.data.length := by omega
    have hcri : (c : Int) < (m.refs.length : Int) := by omega
    have hcdi : (c : Int) < (m.data.length : Int) := by omega
    have hw2 : IntKind.i64.wrap ((c : Int) + 2 - 2) = (c : Int) := by rw [IntKind.wrap_i64]; omega
    obtain ⟨v0, v1⟩ := hv c hcr
    have HDR := hide (drop_at (m := m) hcr hcd)
    go_enter Try.func75, Try.ntmps75
    go_upto_region 1 with fail
    revert HA HO HV HR
    generalize ((w.alloc _).alloc _) = W0
    intro HA HO HV HR
    obtain ⟨g, eg, hcg, hfg, hig, hst⟩ := (unhide HO).setR hcr
    have HO1 := hide (hst (m.refs[c] - 1))
    have HK1 : Hid (Keep (ImB a m ts) W0 (W0.setCell ⟨g, c, none⟩ (.int .i64 (m.refs[c] - 1)))) := hide ((Keep.refl _ W0).setCell (p := ⟨g, c, none⟩) hig _)
    have HV1 := hide ((unhide HV).keepIm (unhide HO) (unhide HK1))
    have HR1 := hide ((unhide HR).keepIm (unhide HO) (unhide HK1))
    have hsame : (W0.setCell ⟨g, c, none⟩ (.int .i64 (m.refs[c] - 1))).cell? ⟨g, c, none⟩ = some (.int .i64 (m.refs[c] - 1)) := World.cell?_setCell_same _ _ _ hcg
    have HSM := hide hsame
    obtain ⟨c0, c1, c2, c3⟩ := (unhide HV).cells
    rw [eg] at c0
    have hw3 : IntKind.i64.wrap (m.refs[c] - 1) = m.refs[c] - 1 := by rw [IntKind.wrap_i64]; omega
    have EG := hide eg
    clear eg hst hig hsame c1 c2 c3
    have HDR' := HDR
    generalize m.refs[c] = R at *
    go_upto_region 5 with fail
    revert HO1 HK1 HV1 HR1 HSM
    generalize (W0.setCell _ _) = W1
    intro HO1 HK1 HV1 HR1 HSM
    clear c0 hcg hfg
    have hs := unhide HSM
    obtain ⟨c0, c1, c2, c3⟩ := (unhide HV1).cells
    rw [unhide EG] at c0
    have HKW : Hid (Keep (fun g => ImB a m ts g ∨ w.heap.size ≤ g) w W1) := hide ((Keep.of_below (unhide HA)).trans ((unhide HK1).mono (fun g h => .inl h)))
    by_cases hz : R - 1 = 0
    · have bz : (R - 1 == 0) = true := by simp [hz]
      obtain ⟨g2, eg2, hcg2, hfg2, hig2, hst2⟩ := (unhide HO1).setD (c := c) (by simpa using hcd)
      have HO2 := hide (hst2 0)
      have HE : Hid ({ ({ m with refs := m.refs.set c (R - 1) } : Img) with data := m.data.set c 0 } = imDrop m ((c : Int) + 2)) := hide ((unhide HDR).1 hz).symm
      have hig2' : ImB a m ts g2 := by simpa only [ImB, List.length_set] using hig2
      have HK2 : Hid (Keep (ImB a m ts) W1 (W1.setCell ⟨g2, c, none⟩ (.int .i64 0))) := hide ((Keep.refl _ W1).setCell (p := ⟨g2, c, none⟩) hig2' _)
      have hne1 : w.heap.size ≠ g2 := by have := unhide HGE g2 hig2'; omega
      have hne2 : w.heap.size + 1 ≠ g2 := by have := unhide HGE g2 hig2'; omega
      have HV2 := hide (VarM.other (unhide HV1) (p := ⟨g2, c, none⟩) hne1 (.int .i64 0))
      have HR2 := hide (VarM.other (unhide HR1) (p := ⟨g2, c, none⟩) hne2 (.int .i64 0))
      rw [eg2] at c3
      clear eg2 hst2 hig2 hz hne1 hne2
      go_upto_region 7 with fail
      revert HO2 HK2 HV2 HR2
      generalize (W1.setCell _ _) = W2
      intro HO2 HK2 HV2 HR2
      clear c0 c1 c2 c3 hs hcg2 hfg2
      obtain ⟨c0, c1, c2, c3⟩ := (unhide HV2).cells
      obtain ⟨r0, r1, r2, r3⟩ := (unhide HR2).cells
      obtain ⟨z0, z1, z2, z3⟩ := (unhide HR2).free
      have HK : Hid (Keep (fun g => ImB a m ts g ∨ w.heap.size ≤ g) w ((((W2.setCell ⟨w.heap.size + 1, 0, none⟩ (.slice a.ro m.refs.length a.rc)).setCell ⟨w.heap.size + 1, 1, none⟩ (.slice a.tq m.table.length a.tc)).setCell ⟨w.heap.size + 1, 2, none⟩ (.slice a.so m.snaps.length a.sc)).setCell ⟨w.heap.size + 1, 3, none⟩ (.slice a.dq m.data.length a.dc))) := hide (by
        have k0 := (unhide HKW).trans ((unhide HK2).mono (fun g h => .inl h))
        exact (((k0.setCell (p := ⟨w.heap.size + 1, 0, none⟩) (.inr (Nat.le_succ _)) _).setCell (p := ⟨w.heap.size + 1, 1, none⟩) (.inr (Nat.le_succ _)) _).setCell (p := ⟨w.heap.size + 1, 2, none⟩) (.inr (Nat.le_succ _)) _).setCell (p := ⟨w.heap.size + 1, 3, none⟩) (.inr (Nat.le_succ _)) _)
      have HVN := hide ((((unhide HR2).set0 (.slice a.ro m.refs.length a.rc)).set1 (.slice a.tq m.table.length a.tc)).set2 (.slice a.so m.snaps.length a.sc) |>.set3 (.slice a.dq m.data.length a.dc))
      have HON := hide ((unhide HO2).keep (S := fun g => g = w.heap.size + 1) (((((Keep.refl (fun g => g = w.heap.size + 1) W2).setCell (p := ⟨w.heap.size + 1, 0, none⟩) rfl (.slice a.ro m.refs.length a.rc)).setCell (p := ⟨w.heap.size + 1, 1, none⟩) rfl (.slice a.tq m.table.length a.tc)).setCell (p := ⟨w.heap.size + 1, 2, none⟩) rfl (.slice a.so m.snaps.length a.sc)).setCell (p := ⟨w.heap.size + 1, 3, none⟩) rfl (.slice a.dq m.data.length a.dc)) (fun g hg he => by have := unhide HGE g (by simpa only [ImB, List.length_set] using hg); omega))
      go_wp2
      refine bodyPost_ret (res_im Try.results75 rfl (unhide HVN)) rfl ⟨rfl, ?_, ?_⟩
      · rw [← unhide HE]; exact unhide HON
      · exact keep_im (unhide HK) (unhide HGE)
    · have bz : (R - 1 == 0) = false := by simpa using hz
      have HE : Hid (({ m with refs := m.refs.set c (R - 1) } : Img) = imDrop m ((c : Int) + 2)) := hide ((unhide HDR).2 hz).symm
      obtain ⟨r0, r1, r2, r3⟩ := (unhide HR1).cells
      obtain ⟨z0, z1, z2, z3⟩ := (unhide HR1).free
      clear hz
      go_upto_region 7 with fail
      clear c0 hs
      obtain ⟨c0, _, _, _⟩ := (unhide HV1).cells
      have HK : Hid (Keep (fun g => ImB a m ts g ∨ w.heap.size ≤ g) w ((((W1.setCell ⟨w.heap.size + 1, 0, none⟩ (.slice a.ro m.refs.length a.rc)).setCell ⟨w.heap.size + 1, 1, none⟩ (.slice a.tq m.table.length a.tc)).setCell ⟨w.heap.size + 1, 2, none⟩ (.slice a.so m.snaps.length a.sc)).setCell ⟨w.heap.size + 1, 3, none⟩ (.slice a.dq m.data.length a.dc))) := hide (by
        have k0 := unhide HKW
        exact (((k0.setCell (p := ⟨w.heap.size + 1, 0, none⟩) (.inr (Nat.le_succ _)) _).setCell (p := ⟨w.heap.size + 1, 1, none⟩) (.inr (Nat.le_succ _)) _).setCell (p := ⟨w.heap.size + 1, 2, none⟩) (.inr (Nat.le_succ _)) _).setCell (p := ⟨w.heap.size + 1, 3, none⟩) (.inr (Nat.le_succ _)) _)
      have HVN := hide ((((unhide HR1).set0 (.slice a.ro m.refs.length a.rc)).set1 (.slice a.tq m.table.length a.tc)).set2 (.slice a.so m.snaps.length a.sc) |>.set3 (.slice a.dq m.data.length a.dc))
      have HON := hide ((unhide HO1).keep (S := fun g => g = w.heap.size + 1) (((((Keep.refl (fun g => g = w.heap.size + 1) W1).setCell (p := ⟨w.heap.size + 1, 0, none⟩) rfl (.slice a.ro m.refs.length a.rc)).setCell (p := ⟨w.heap.size + 1, 1, none⟩) rfl (.slice a.tq m.table.length a.tc)).setCell (p := ⟨w.heap.size + 1, 2, none⟩) rfl (.slice a.so m.snaps.length a.sc)).setCell (p := ⟨w.heap.size + 1, 3, none⟩) rfl (.slice a.dq m.data.length a.dc)) (fun g hg he => by have := unhide HGE g (by simpa only [ImB, List.length_set] using hg); omega))
      go_wp2
      refine bodyPost_ret (res_im Try.results75 rfl (unhide HVN)) rfl ⟨rfl, ?_, ?_⟩
      · rw [← unhide HE]; exact unhide HON
      · exact keep_im (unhide HK) (unhide HGE)

end Go.Proofs.Ytjoafbkcnnhdiac

namespace Go.Proofs.Ytjoafbkcnnhdiac
open Go.RowKit
set_option linter.unusedVariables false
set_option maxRecDepth 100000

def frI (xs : List Int) : Int := if frN xs < xs.length then (frN xs : Int) else -1
theorem l08Free_any (ao : Option Addr) (cap : Nat) (xs : List Int) (w : World) (hl : xs.length ≤ maxLen) (hc : Is w ao xs) :
    Calls Try.prog 92 #[.slice ao xs.length cap] w fun e w' => e = .returned (.int .i64 (frI xs)) ∧ w' = w := by
  have HC := hide hc
  clear hc
  unfold maxLen at hl
  go_enter Try.func92, Try.ntmps92
  go_wp2
  go_loop [3] (fun i => ∃ k : Nat, k ≤ xs.length ∧ i = .int .i64 k ∧ Hid (∀ j (hj : j < xs.length), j < k → decide (xs[j] ≠ 0) = true)) (fun i => xs.length - (intOf i).toNat)
  case atStart => exact ⟨0, Nat.zero_le _, rfl, hide (fun j _ h => by omega)⟩
  case round =>
    obtain ⟨k, hk, rfl, HA⟩ := hrel
    by_cases hlt : k < xs.length
    · obtain ⟨b, off, rfl, hcl⟩ := unhide HC k hlt
      by_cases hz : xs[k] = 0
      · have HE : Hid (frI xs = (k : Int)) := hide (by have e := fr_here hlt hz (unhide HA); rw [frI, if_pos (by omega), e])
        have bz : (xs[k] == 0) = true := by simp [hz]
        clear hz
        go_wp2
        go_ret
        exact ⟨ret_int (unhide HE).symm, rfl⟩
      · have HN := hide (all_succ (p := fun n => decide (n ≠ 0)) hlt (unhide HA) (by simpa using hz))
        have bz : (xs[k] == 0) = false := by simp [hz]
        clear hz
        go_wp2
        go_round
        case rel => exact ⟨k + 1, by omega, by go_num, HN⟩
        case measure => simp [intOf]; omega
    · have HE : Hid (frI xs = -1) := hide (if_neg (fr_none (fun j hj => unhide HA j hj (by omega))))
      go_wp2
      go_ret
      exact ⟨ret_int (unhide HE).symm, rfl⟩

end Go.Proofs.Ytjoafbkcnnhdiac

namespace Go.Proofs.Ytjoafbkcnnhdiac
open Go.RowKit
set_option linter.unusedVariables false
set_option maxRecDepth 100000

structure ImQ (w W : World) (B : Nat) (a : Im4) (m0 m : Img) (ts : List Value) : Prop where
  v : VarM W w.heap.size 29 (.slice a.ro m0.refs.length a.rc) (.slice a.tq m0.table.length a.tc) (.slice a.so m0.snaps.length a.sc) (.slice a.dq m0.data.length a.dc)
  r : VarM W (w.heap.size + 1) 29 (.slice none 0 0) (.slice none 0 0) (.slice none 0 0) (.slice none 0 0)
  o : OwnIm W B a m ts
  b : Below w.heap.size w W
  hB : w.heap.size + 2 ≤ B
  e1 : m.refs.length = m0.refs.length
  e2 : m.table.length = m0.table.length
  e3 : m.snaps.length = m0.snaps.length
  e4 : m.data.length = m0.data.length
theorem ImQ.val {w W : World} {B : Nat} {a : Im4} {m0 m : Img} {ts : List Value} (h : ImQ w W B a m0 m ts) : imV a m0 = imV a m := by rw [imV, imV, h.e1, h.e2, h.e3, h.e4]

abbrev putI (W : World) (x : Nat) (a : Im4) (m : Img) : World := (((W.setCell ⟨x, 0, none⟩ (.slice a.ro m.refs.length a.rc)).setCell ⟨x, 1, none⟩ (.slice a.tq m.table.length a.tc)).setCell ⟨x, 2, none⟩ (.slice a.so m.snaps.length a.sc)).setCell ⟨x, 3, none⟩ (.slice a.dq m.data.length a.dc)
theorem ImQ.put {w W : World} {B : Nat} {v0 v1 v2 v3 : Value} {a : Im4} {m0 m : Img} {ts : List Value} (hv : VarM W w.heap.size 29 v0 v1 v2 v3) (hr : VarM W (w.heap.size + 1) 29 (.slice none 0 0) (.slice none 0 0) (.slice none 0 0) (.slice none 0 0)) (ho : OwnIm W B a m ts) (hb : Below w.heap.size w W) (hB : w.heap.size + 2 ≤ B) (e1 : m.refs.length = m0.refs.length) (e2 : m.table.length = m0.table.length) (e3 : m.snaps.length = m0.snaps.length) (e4 : m.data.length = m0.data.length) : ImQ w (putI W w.heap.size a m0) B a m0 m ts := by
  obtain ⟨h1, h2, h3⟩ := ImSt.put hv ho hb (Nat.le_refl _) (by omega) a m0
  exact ⟨h1, (((hr.other (p := ⟨w.heap.size, 0, none⟩) (by simp) _).other (p := ⟨w.heap.size, 1, none⟩) (by simp) _).other (p := ⟨w.heap.size, 2, none⟩) (by simp) _).other (p := ⟨w.heap.size, 3, none⟩) (by simp) _, h2, h3, hB, e1, e2, e3, e4⟩
theorem ImQ.again {w W : World} {B : Nat} {a : Im4} {m0 m : Img} {ts : List Value} (h : ImQ w W B a m0 m ts) : ImQ w (putI W w.heap.size a m0) B a m0 m ts := ImQ.put h.v h.r h.o h.b h.hB h.e1 h.e2 h.e3 h.e4
theorem ImQ.fin {w W : World} {B : Nat} {a : Im4} {m0 m : Img} {ts : List Value} (h : ImQ w W B a m0 m ts) : VarM (putI W (w.heap.size + 1) a m0) (w.heap.size + 1) 29 (.slice a.ro m0.refs.length a.rc) (.slice a.tq m0.table.length a.tc) (.slice a.so m0.snaps.length a.sc) (.slice a.dq m0.data.length a.dc) ∧ OwnIm (putI W (w.heap.size + 1) a m0) w.heap.size a m ts ∧ Below w.heap.size w (putI W (w.heap.size + 1) a m0) := by
  obtain ⟨h1, h2, h3⟩ := ImSt.put h.r h.o h.b (Nat.le_succ _) (by have := h.hB; omega) a m0
  exact ⟨h1, h2.base (by have := h.hB; omega), h3⟩
theorem ImQ.turn {w W W' : World} {B : Nat} {a : Im4} {m0 m m' : Img} {ts : List Value} (h : ImQ w W B a m0 m ts) (hk : Keep (ImB a m ts) W W') (ho : OwnIm W' B a m' ts) (e1 : m'.refs.length = m.refs.length) (e2 : m'.table.length = m.table.length) (e3 : m'.snaps.length = m.snaps.length) (e4 : m'.data.length = m.data.length) : ImQ w W' B a m0 m' ts :=
  ⟨h.v.keepIm h.o hk, h.r.keepIm h.o hk, ho, h.b.trans (hk.below h.b.size (fun g hg => by have := (h.o.ge g hg).1; have := h.hB; omega)), h.hB, e1.trans h.e1, e2.trans h.e2, e3.trans h.e3, e4.trans h.e4⟩
theorem ImQ.setR {w W : World} {B c : Nat} {a : Im4} {m0 m : Img} {ts : List Value} (h : ImQ w W B a m0 m ts) (hc : c < m.refs.length) : ∃ g, a.ro = some ⟨g, 0, none⟩ ∧ W.cell? ⟨g, c, none⟩ = some (.int .i64 m.refs[c]) ∧ W.frozen? ⟨g, c, none⟩ = false ∧ ∀ y, ImQ w (W.setCell ⟨g, c, none⟩ (.int .i64 y)) B a m0 { m with refs := m.refs.set c y } ts := by
  obtain ⟨g, e, h1, h2, h3, h4⟩ := h.o.setR hc
  exact ⟨g, e, h1, h2, fun y => h.turn ((Keep.refl _ W).setCell (p := ⟨g, c, none⟩) h3 _) (h4 y) (by simp) rfl rfl rfl⟩
theorem ImQ.setT {w W : World} {B c : Nat} {a : Im4} {m0 m : Img} {ts : List Value} (h : ImQ w W B a m0 m ts) (hc : c < m.table.length) : ∃ g, a.tq = some ⟨g, 0, none⟩ ∧ W.cell? ⟨g, c, none⟩ = some (.int .i64 m.table[c]) ∧ W.frozen? ⟨g, c, none⟩ = false ∧ ∀ y, ImQ w (W.setCell ⟨g, c, none⟩ (.int .i64 y)) B a m0 { m with table := m.table.set c y } ts := by
  obtain ⟨g, e, h1, h2, h3, h4⟩ := h.o.setT hc
  exact ⟨g, e, h1, h2, fun y => h.turn ((Keep.refl _ W).setCell (p := ⟨g, c, none⟩) h3 _) (h4 y) rfl (by simp) rfl rfl⟩
theorem ImQ.setD {w W : World} {B c : Nat} {a : Im4} {m0 m : Img} {ts : List Value} (h : ImQ w W B a m0 m ts) (hc : c < m.data.length) : ∃ g, a.dq = some ⟨g, 0, none⟩ ∧ W.cell? ⟨g, c, none⟩ = some (.int .i64 m.data[c]) ∧ W.frozen? ⟨g, c, none⟩ = false ∧ ∀ y, ImQ w (W.setCell ⟨g, c, none⟩ (.int .i64 y)) B a m0 { m with data := m.data.set c y } ts := by
  obtain ⟨g, e, h1, h2, h3, h4⟩ := h.o.setD hc
  exact ⟨g, e, h1, h2, fun y => h.turn ((Keep.refl _ W).setCell (p := ⟨g, c, none⟩) h3 _) (h4 y) rfl rfl rfl (by simp)⟩
theorem imDrop_lens (m : Img) (e : Int) : (imDrop m e).refs.length = m.refs.length ∧ (imDrop m e).table.length = m.table.length ∧ (imDrop m e).snaps.length = m.snaps.length ∧ (imDrop m e).data.length = m.data.length := ⟨imDrop_refs m e, by rw [(imDrop_table m e).1], by rw [(imDrop_table m e).2], imDrop_data m e⟩

structure ImM (m : Img) : Prop where
  r : m.refs.length = 24
  d : m.data.length = 24
  t : m.table.length ≤ 12
  s : m.snaps.length ≤ 3
  st : ∀ s ∈ m.snaps, s.table.length ≤ 12 ∧ s.name.size ≤ 6
  tv : ∀ i (h : i < m.table.length), 0 ≤ m.table[i] ∧ m.table[i] ≤ 25
  sv : ∀ s ∈ m.snaps, ∀ i (h : i < s.table.length), 0 ≤ s.table[i] ∧ s.table[i] ≤ 25
  rv : ∀ c (h : c < m.refs.length), 0 ≤ m.refs[c] ∧ m.refs[c] ≤ 15
theorem ImR.M {m : Img} (h : ImR m) : ImM m := by
  refine ⟨ctB_len h.refs, h.len, tbB_len h.table, h.few, fun s hs => ⟨tbB_len (h.snaps s hs).2, ?_⟩, tbB_at h.table, fun s hs => tbB_at (h.snaps s hs).2, ctB_at h.refs⟩
  have := (h.snaps s hs).1
  simp only [snmB, Bool.and_eq_true] at this
  have := betw_iff.1 this.2
  omega
theorem ImM.L {m : Img} (h : ImM m) : ImL m := ⟨by rw [h.r]; unfold maxLen; omega, by have := h.t; unfold maxLen; omega, by have := h.s; unfold maxLen; omega, by rw [h.d]; unfold maxLen; omega⟩
theorem ImM.zs {m : Img} (h : ImM m) : ∀ s ∈ m.snaps, s.name.size ≤ maxLen ∧ s.table.length ≤ maxLen := fun s hs => by have := h.st s hs; unfold maxLen; omega
theorem l10Own_M (a : Im4) (m : Img) (w : World) (hM : ImM m) (hc : ImS w a m) :
    Calls Try.prog 24 #[imV a m] w fun e w' => ∃ a' ts, e = .returned (imV a' m) ∧ OwnIm w' w.heap.size a' m ts ∧ Below w.heap.size w w' :=
  l10Own_any a m w ⟨by rw [hM.r]; omega, by have := hM.t; omega, by rw [hM.d]; omega⟩ (fun s hs => by have := (hM.st s hs).1; omega) (by have := hM.s; omega) hc
theorem l10Own_F (a : Im4) (m : Img) (w : World) (hM : ImM m) (hc : ImS w a m) :
    Calls Try.prog 24 #[imV a m] w fun e w' => ∃ a' ts, e = .returned (imV a' m) ∧ OwnF w' w.heap.size a' m ts ∧ Below w.heap.size w w' :=
  l10Own_full a m w ⟨by rw [hM.r]; omega, by have := hM.t; omega, by rw [hM.d]; omega⟩ (fun s hs => by have := (hM.st s hs).1; omega) (by have := hM.s; omega) hc
theorem l10Drop_M (a : Im4) (m : Img) (ts : List Value) (B : Nat) (e : Int) (w : World) (he0 : 0 ≤ e) (he1 : e ≤ 25) (hr : m.refs.length = 24) (hd : m.data.length = 24) (hv : ∀ c (h : c < m.refs.length), -1000 ≤ m.refs[c] ∧ m.refs[c] ≤ 1000) (ho : OwnIm w B a m ts) :
    Calls Try.prog 75 #[imV a m, .int .i64 e] w fun r w' => r = .returned (imV a m) ∧ OwnIm w' B a (imDrop m e) ts ∧ Keep (ImB a m ts) w w' :=
  l10Drop_any a m ts B e w (by omega) (by omega) (by rw [hr]; omega) (by rw [hd]; omega) ⟨by omega, by omega⟩ hv ho

theorem imWrite_in {m : Img} {g c : Nat} {v : Int} (hg : g < m.table.length) (hc : m.table[g] = (c : Int) + 2) (hr : c < m.refs.length) (h1 : m.refs[c] = 1) : imWrite m g v = ({ m with data := m.data.set c v }, 0) := by
  have e : m.table.getD g 0 = (c : Int) + 2 := by simp [List.getD, hg, hc]
  have e2 : ((c : Int) + 2 - 2).toNat = c := by omega
  have e3 : m.refs.getD c 0 = 1 := by simp [List.getD, hr, h1]
  unfold imWrite
  simp only [e, e2, e3]
  rw [if_pos ⟨by omega, trivial⟩]
theorem imWrite_out {m : Img} {g : Nat} {v : Int} (hg : g < m.table.length) (hn : ¬ (2 ≤ m.table[g] ∧ m.refs.getD (m.table[g] - 2).toNat 0 = 1)) : imWrite m g v = if frN m.refs < m.refs.length then ({ imDrop m m.table[g] with refs := (imDrop m m.table[g]).refs.set (frN m.refs) 1, data := (imDrop m m.table[g]).data.set (frN m.refs) v, table := (imDrop m m.table[g]).table.set g (2 + (frN m.refs : Int)) }, 0) else (m, 7) := by
  have e : m.table.getD g 0 = m.table[g] := by simp [List.getD, hg]
  unfold imWrite
  simp only [e]
  rw [if_neg hn]

set_option maxHeartbeats 1600000 in
theorem l10Write_R (a : Im4) (m : Img) (g : Nat) (v : Int) (R : Img × Int) (w : World) (hR : R = imWrite m g v) (hM : ImM m) (hg : g < m.table.length) (hc : ImS w a m) :
    Calls Try.prog 71 #[imV a m, .int .i64 g, .int .i64 v] w fun e w' => ∃ a' ts, e = .returned (.tuple #[imV a' R.1, .int .i64 R.2]) ∧ OwnIm w' w.heap.size a' R.1 ts ∧ Below w.heap.size w w' := by
  have HA := hide (Joins.below_alloc2 w (.cells #[.slice a.ro m.refs.length a.rc, .slice a.tq m.table.length a.tc, .slice a.so m.snaps.length a.sc, .slice a.dq m.data.length a.dc] 29) (.cells #[.slice none 0 0, .slice none 0 0, .slice none 0 0, .slice none 0 0] 29))
  have HC := hide (hc.below (unhide HA))
  have HV := hide ((VarM.new w 29 (.slice a.ro m.refs.length a.rc) (.slice a.tq m.table.length a.tc) (.slice a.so m.snaps.length a.sc) (.slice a.dq m.data.length a.dc)).below (Joins.below_alloc1 _ (.cells #[.slice none 0 0, .slice none 0 0, .slice none 0 0, .slice none 0 0] 29)))
  have HR := hide ((VarM.new (w.alloc (.cells #[.slice a.ro m.refs.length a.rc, .slice a.tq m.table.length a.tc, .slice a.so m.snaps.length a.sc, .slice a.dq m.data.length a.dc] 29)) 29 (.slice none 0 0) (.slice none 0 0) (.slice none 0 0) (.slice none 0 0)).at (y := w.heap.size + 1) (by simp))
  have HM := hide hM
  have hgi : (g : Int) < (m.table.length : Int) := by omega
  have HT12 := hide hM.t
  have HWI : Hid (∀ c (hr : c < m.refs.length), m.table[g] = (c : Int) + 2 → m.refs[c] = 1 → R = ({ m with data := m.data.set c v }, 0)) := hide (fun c hr e h1 => hR.trans (imWrite_in hg e hr h1))
  have HWO := hide (fun hin => hR.trans (imWrite_out (v := v) hg hin))
  clear hc hM hR
  go_enter Try.func71, Try.ntmps71
  go_upto_region 1 with fail
  revert HA HC HV HR
  generalize ((w.alloc _).alloc _) = W0
  intro HA HC HV HR
  obtain ⟨c0, c1, c2, c3⟩ := (unhide HV).cells
  go_wp2_with fail
  refine (l10Own_M a m _ (unhide HM) (unhide HC)).mono ?_
  rintro e w1 ⟨b, ts, rfl, ho, hb⟩
  have HQ := hide (ImQ.put (w := w) ((unhide HV).below hb) ((unhide HR).below hb) ho (fr (unhide HA) hb) (by have := (unhide HR).lt; omega) (m0 := m) rfl rfl rfl rfl)
  unfold putI at HQ
  obtain ⟨x0, x1, x2, x3⟩ := ((unhide HV).below hb).cells
  obtain ⟨z0, z1, z2, z3⟩ := ((unhide HV).below hb).free
  clear c0 c1 c2 c3 ho hb HV HR HC HA
  go_upto_region 2 with fail
  clear x0 x1 x2 x3 z0 z1 z2 z3
  revert HQ
  generalize (((w1.setCell _ _).setCell _ _).setCell _ _).setCell _ _ = W1
  intro HQ
  obtain ⟨c0, c1, c2, c3⟩ := (unhide HQ).v.cells
  obtain ⟨gt, et, hct, hft, hst⟩ := (unhide HQ).setT hg
  rw [et] at c1
  have ET := hide et
  clear et hst
  obtain ⟨t0, t1⟩ := (unhide HM).tv g hg
  have HTG : Hid (∃ T, T = m.table[g]) := hide ⟨_, rfl⟩
  by_cases hin : 2 ≤ m.table[g] ∧ m.refs.getD (m.table[g] - 2).toNat 0 = 1
  · obtain ⟨c, hcc⟩ : ∃ c : Nat, m.table[g] = (c : Int) + 2 := ⟨(m.table[g] - 2).toNat, by omega⟩
    have hcr : c < m.refs.length := by rw [(unhide HM).r]; omega
    have hcd : c < m.data.length := by rw [(unhide HM).d]; omega
    have hcri : (c : Int) < (m.refs.length : Int) := by omega
    have hcdi : (c : Int) < (m.data.length : Int) := by omega
    have h1 : m.refs[c] = 1 := by
      have := hin.2
      rw [hcc, show ((c : Int) + 2 - 2).toNat = c by omega] at this
      simpa [List.getD, hcr] using this
    have HWR := hide (unhide HWI c hcr hcc h1)
    obtain ⟨gr, er, hcr', hfr, _⟩ := (unhide HQ).setR hcr
    obtain ⟨gd, ed, hcd', hfd, hsd⟩ := (unhide HQ).setD hcd
    rw [h1] at hcr'
    rw [hcc] at hct
    rw [er] at c0
    rw [ed] at c3
    have HQ2 := hide (hsd v)
    have hcb : (c : Int) ≤ 23 := by omega
    have hwc : IntKind.i64.wrap (c : Int) = (c : Int) := by rw [IntKind.wrap_i64]; omega
    have hge : (2 : Int) ≤ (c : Int) + 2 := by omega
    clear hin hcc h1 er ed hsd c2 t0 t1
    go_upto_region 5 with fail
    revert HQ2
    generalize (W1.setCell _ _) = W2
    intro HQ2
    clear c0 c1 c3 hct hft hcr' hfr hcd' hfd
    have HF := hide (unhide HQ2).fin
    obtain ⟨c0, c1, c2, c3⟩ := (unhide HQ2).v.cells
    obtain ⟨r0, r1, r2, r3⟩ := (unhide HQ2).r.cells
    obtain ⟨z0, z1, z2, z3⟩ := (unhide HQ2).r.free
    go_wp2
    refine bodyPost_ret (res_ic Try.results71 rfl rfl (unhide HF).1) rfl ?_
    rw [unhide HWR]
    first | exact ⟨b, ts, ret_mi (unhide HQ2).val rfl, (unhide HF).2.1, (unhide HF).2.2⟩ | exact ⟨b, ret_mi (unhide HQ2).val rfl, ⟨ts, (unhide HF).2.1⟩, (unhide HF).2.2⟩
  · have HWR := hide (unhide HWO hin)
    have HRI := hide (ownRN ((unhide HQ).o.rows.own (.slice b.ro m.refs.length b.rc, m.refs) (by simp [imRows])).row)
    have HRM := hide (unhide HM).L.r
    have HTV : Hid (0 ≤ m.table[g] ∧ m.table[g] ≤ 25) := hide ⟨t0, t1⟩
    by_cases hge : 2 ≤ m.table[g]
    obtain ⟨c, hcc⟩ : ∃ c : Nat, m.table[g] = (c : Int) + 2 := ⟨(m.table[g] - 2).toNat, by omega⟩
    have hcr : c < m.refs.length := by rw [(unhide HM).r]; omega
    have hcri : (c : Int) < (m.refs.length : Int) := by omega
    have be : (m.refs[c] == 1) = false := by
      rw [beq_eq_false_iff_ne]
      intro h1
      refine hin ⟨hge, ?_⟩
      rw [hcc, show ((c : Int) + 2 - 2).toNat = c by omega]
      simpa [List.getD, hcr] using h1
    obtain ⟨gr, er, hcr', hfr, _⟩ := (unhide HQ).setR hcr
    have HCC := hide hcc
    rw [hcc] at hct
    rw [er] at c0
    have hcb : (c : Int) ≤ 23 := by omega
    have hwc : IntKind.i64.wrap (c : Int) = (c : Int) := by rw [IntKind.wrap_i64]; omega
    have hge' : (2 : Int) ≤ (c : Int) + 2 := by omega
    clear hin er t0 t1 hge hcc
    generalize m.refs[c] = R at *
    go_upto_region 6 with fail
    rw [← unhide HCC]
    clear c0 c1 c2 c3 hct hft hcr' hfr be hcb hwc hge' hcri hcr HCC
    rotate_left
    generalize hTT : m.table[g] = T at *
    have HTT := hide hTT
    clear hTT
    go_upto_region 6 with fail
    rw [← unhide HTT]
    rw [← unhide HTT] at HTV HWR
    clear c0 c1 c2 c3 hct hft HTT hge
    all_goals
      obtain ⟨c0, c1, c2, c3⟩ := (unhide HQ).v.cells
      by_cases hf : frN m.refs < m.refs.length
      · have HFR : Hid (frI m.refs = (frN m.refs : Int)) := hide (if_pos hf)
        rw [if_pos hf] at HWR
        have HF24 : Hid (frN m.refs < 24) := hide (by have := (unhide HM).r; omega)
        generalize frN m.refs = q at *
        have hq24 := unhide HF24
        go_wp2_with (first | (go_at_call 92; refine (l08Free_any b.ro b.rc m.refs _ (unhide HRM) (unhide HRI)).mono ?_; rintro e w' ⟨rfl, hw⟩; replace hw := hw.symm; subst hw; rw [unhide HFR]) | fail)
        refine (l10Drop_M b m ts _ m.table[g] _ (unhide HTV).1 (unhide HTV).2 (unhide HM).r (unhide HM).d (fun c h => by have := (unhide HM).rv c h; omega) (unhide HQ).o).mono ?_
        rintro e w3 ⟨rfl, ho3, hk3⟩
        have HQ3 := hide ((unhide HQ).turn hk3 ho3 (imDrop_lens _ _).1 (imDrop_lens _ _).2.1 (imDrop_lens _ _).2.2.1 (imDrop_lens _ _).2.2.2)
        have HD24 : Hid ((imDrop m m.table[g]).refs.length = 24 ∧ (imDrop m m.table[g]).data.length = 24 ∧ g < (imDrop m m.table[g]).table.length) := hide ⟨(imDrop_lens _ _).1.trans (unhide HM).r, (imDrop_lens _ _).2.2.2.trans (unhide HM).d, by rw [(imDrop_lens _ _).2.1]; exact hg⟩
        clear ho3 hk3 c0 c1 c2 c3 HRI
        generalize imDrop m m.table[g] = D at *
        have HQ4 := hide (unhide HQ3).again
        unfold putI at HQ4
        obtain ⟨c0, c1, c2, c3⟩ := (unhide HQ3).v.cells
        obtain ⟨z0, z1, z2, z3⟩ := (unhide HQ3).v.free
        have HR24 := hide (unhide HM).r
        have HD24' := hide (unhide HM).d
        go_upto_region 10 with fail
        clear c0 c1 c2 c3 z0 z1 z2 z3
        revert HQ4
        generalize (((w3.setCell _ _).setCell _ _).setCell _ _).setCell _ _ = W4
        intro HQ4
        obtain ⟨c0, c1, c2, c3⟩ := (unhide HQ4).v.cells
        have hqr : (q : Int) < (m.refs.length : Int) := by have := unhide HR24; omega
        have hqd : (q : Int) < (m.data.length : Int) := by have := unhide HD24'; omega
        obtain ⟨g1, e1, hc1, hf1, hs1⟩ := (unhide HQ4).setR (c := q) (by rw [(unhide HD24).1]; omega)
        have HQ5 := hide (hs1 1)
        rw [e1] at c0
        clear e1 hs1
        go_upto_region 11 with fail
        clear c0 c1 c2 c3 hc1 hf1
        revert HQ5
        generalize (W4.setCell _ _) = W5
        intro HQ5
        obtain ⟨c0, c1, c2, c3⟩ := (unhide HQ5).v.cells
        obtain ⟨g2, e2, hc2, hf2, hs2⟩ := (unhide HQ5).setD (c := q) (by show q < D.data.length; rw [(unhide HD24).2.1]; omega)
        have HQ6 := hide (hs2 v)
        rw [e2] at c3
        clear e2 hs2
        go_upto_region 12 with fail
        clear c0 c1 c2 c3 hc2 hf2
        revert HQ6
        generalize (W5.setCell _ _) = W6
        intro HQ6
        obtain ⟨c0, c1, c2, c3⟩ := (unhide HQ6).v.cells
        obtain ⟨g3, e3, hc3, hf3, hs3⟩ := (unhide HQ6).setT (c := g) (unhide HD24).2.2
        have HQ7 := hide (hs3 (2 + (q : Int)))
        rw [e3] at c1
        have hw9 : IntKind.i64.wrap (2 + (q : Int)) = 2 + (q : Int) := by rw [IntKind.wrap_i64]; omega
        clear e3 hs3
        go_upto_region 13 with fail
        clear c0 c1 c2 c3 hc3 hf3
        revert HQ7
        generalize (W6.setCell _ _) = W7
        intro HQ7
        have HF := hide (unhide HQ7).fin
        obtain ⟨c0, c1, c2, c3⟩ := (unhide HQ7).v.cells
        obtain ⟨r0, r1, r2, r3⟩ := (unhide HQ7).r.cells
        obtain ⟨z0, z1, z2, z3⟩ := (unhide HQ7).r.free
        go_wp2
        refine bodyPost_ret (res_ic Try.results71 rfl rfl (unhide HF).1) rfl ?_
        rw [unhide HWR]
        first | exact ⟨b, ts, ret_mi (unhide HQ7).val rfl, (unhide HF).2.1, (unhide HF).2.2⟩ | exact ⟨b, ret_mi (unhide HQ7).val rfl, ⟨ts, (unhide HF).2.1⟩, (unhide HF).2.2⟩
      · have HFR : Hid (frI m.refs = -1) := hide (if_neg hf)
        rw [if_neg hf] at HWR
        have HF := hide (unhide HQ).fin
        obtain ⟨r0, r1, r2, r3⟩ := (unhide HQ).r.cells
        obtain ⟨z0, z1, z2, z3⟩ := (unhide HQ).r.free
        go_wp2_with (go_at_call 92; refine (l08Free_any b.ro b.rc m.refs _ (unhide HRM) (unhide HRI)).mono ?_; rintro e w' ⟨rfl, hw⟩; replace hw := hw.symm; subst hw; rw [unhide HFR])
        refine bodyPost_ret (res_ic Try.results71 rfl rfl (unhide HF).1) rfl ?_
        rw [unhide HWR]
        first | exact ⟨b, ts, rfl, (unhide HF).2.1, (unhide HF).2.2⟩ | exact ⟨b, rfl, ⟨ts, (unhide HF).2.1⟩, (unhide HF).2.2⟩

end Go.Proofs.Ytjoafbkcnnhdiac

namespace Go.Proofs.Ytjoafbkcnnhdiac
open Go.RowKit
set_option linter.unusedVariables false

section
variable {P : Program} {ops : Array Oper}
end

end Go.Proofs.Ytjoafbkcnnhdiac

namespace Go.Proofs.Ytjoafbkcnnhdiac
open Go.RowKit
set_option linter.unusedVariables false
set_option maxRecDepth 100000

def rcA (m : Img) (g : Int) : Int × Int := if imB m = true then (if betw g 0 ((m.table.length : Int) - 1) = true then (imVal m (m.table.getD g.toNat 0), 0) else (0, 4)) else (0, 1)
def zcA (m : Img) (g : Int) : Img × Int := if imB m = true then (if betw g 0 ((m.table.length : Int) - 1) = true then (imZero m g.toNat, 0) else (m, 4)) else (im0, 1)
def rsA' (m : Img) (n : Int) : Img × Int := if imB m = true then (if betw n 0 12 = true then (imResize m n.toNat, 0) else (m, 4)) else (im0, 1)
structure ImE (w W : World) (a : Im4) (m : Img) : Prop where
  v : VarM W w.heap.size 29 (.slice a.ro m.refs.length a.rc) (.slice a.tq m.table.length a.tc) (.slice a.so m.snaps.length a.sc) (.slice a.dq m.data.length a.dc)
  r : VarM W (w.heap.size + 1) 29 (.slice none 0 0) (.slice none 0 0) (.slice none 0 0) (.slice none 0 0)
  s : ImS W a m
  b : Below w.heap.size w W
theorem ImE.new (w : World) (a : Im4) (m : Img) (h : ImS w a m) : ImE w ((w.alloc (.cells #[.slice a.ro m.refs.length a.rc, .slice a.tq m.table.length a.tc, .slice a.so m.snaps.length a.sc, .slice a.dq m.data.length a.dc] 29)).alloc (.cells #[.slice none 0 0, .slice none 0 0, .slice none 0 0, .slice none 0 0] 29)) a m :=
  ⟨(VarM.new w _ _ _ _ _).below (Joins.below_alloc1 _ _), (VarM.new (w.alloc _) _ _ _ _ _).at (by simp), h.below (Joins.below_alloc2 _ _ _), Joins.below_alloc2 _ _ _⟩
theorem ImE.below {w W W' : World} {a : Im4} {m : Img} (h : ImE w W a m) (hb : Below W.heap.size W W') : ImE w W' a m := ⟨h.v.below hb, h.r.below hb, h.s.below hb, fr h.b hb⟩
theorem ImE.put {w W W' : World} {a : Im4} {m : Img} (h : ImE w W a m) (hb : Below W.heap.size W W') {a' : Im4} {m' : Img} {ts : List Value} (ho : OwnIm W' W.heap.size a' m' ts) :
    VarM (putI W' (w.heap.size + 1) a' m') (w.heap.size + 1) 29 (.slice a'.ro m'.refs.length a'.rc) (.slice a'.tq m'.table.length a'.tc) (.slice a'.so m'.snaps.length a'.sc) (.slice a'.dq m'.data.length a'.dc) ∧ OwnIm (putI W' (w.heap.size + 1) a' m') w.heap.size a' m' ts ∧ Below w.heap.size w (putI W' (w.heap.size + 1) a' m') := by
  obtain ⟨h1, h2, h3⟩ := ImSt.put (h.r.below hb) ho (fr h.b hb) (Nat.le_succ _) h.r.lt a' m'
  exact ⟨h1, h2.base h.b.size, h3⟩
theorem ImE.zero {w W : World} {a : Im4} {m : Img} (h : ImE w W a m) :
    VarM ((((W.setCell ⟨w.heap.size + 1, 0, none⟩ (.slice none 0 0)).setCell ⟨w.heap.size + 1, 1, none⟩ (.slice none 0 0)).setCell ⟨w.heap.size + 1, 2, none⟩ (.slice none 0 0)).setCell ⟨w.heap.size + 1, 3, none⟩ (.slice none 0 0)) (w.heap.size + 1) 29 (.slice none 0 0) (.slice none 0 0) (.slice none 0 0) (.slice none 0 0) ∧
    Below w.heap.size w ((((W.setCell ⟨w.heap.size + 1, 0, none⟩ (.slice none 0 0)).setCell ⟨w.heap.size + 1, 1, none⟩ (.slice none 0 0)).setCell ⟨w.heap.size + 1, 2, none⟩ (.slice none 0 0)).setCell ⟨w.heap.size + 1, 3, none⟩ (.slice none 0 0)) :=
  ⟨(((h.r.set0 _).set1 _).set2 _).set3 _, (((h.b.setCell (p := ⟨w.heap.size + 1, 0, none⟩) (Nat.le_succ _) _).setCell (p := ⟨w.heap.size + 1, 1, none⟩) (Nat.le_succ _) _).setCell (p := ⟨w.heap.size + 1, 2, none⟩) (Nat.le_succ _) _).setCell (p := ⟨w.heap.size + 1, 3, none⟩) (Nat.le_succ _) _⟩
def AnsI (w w' : World) (e : Ending) (R : Img × Int) : Prop := ∃ a ts, e = .returned (.tuple #[imV a R.1, .int .i64 R.2]) ∧ OwnIm w' w.heap.size a R.1 ts ∧ Below w.heap.size w w'
theorem AnsI.of {w w' : World} {v : Value} {c : Int} {R : Img × Int} {a : Im4} {ts : List Value} (hv : v = imV a R.1) (hc : c = R.2) (ho : OwnIm w' w.heap.size a R.1 ts) (hb : Below w.heap.size w w') : AnsI w w' (.returned (.tuple #[v, .int .i64 c])) R := ⟨a, ts, by rw [hv, hc], ho, hb⟩
theorem AnsI.bad {w w' : World} (c : Int) (hb : Below w.heap.size w w') : AnsI w w' (.returned (.tuple #[.agg #[.slice none 0 0, .slice none 0 0, .slice none 0 0, .slice none 0 0], .int .i64 c])) (im0, c) := ⟨⟨none, 0, none, 0, none, 0, none, 0⟩, [], rfl, OwnIm.zero _ _, hb⟩

end Go.Proofs.Ytjoafbkcnnhdiac

namespace Go.Proofs.Ytjoafbkcnnhdiac
open Go.RowKit
set_option linter.unusedVariables false
set_option maxRecDepth 100000

set_option maxHeartbeats 1600000 in
theorem l09Resize_any (ao : Option Addr) (cap : Nat) (xs : List Int) (n : Nat) (w : World) (hn : n ≤ 1000) (hl : xs.length ≤ 1000) (hc : Is w ao xs) :
    Calls Try.prog 76 #[.slice ao xs.length cap, .int .i64 n] w fun e w' => ∃ v, e = .returned v ∧ OwnN w' w.heap.size v (rzTo xs n) ∧ Below w.heap.size w w' := by
  obtain ⟨j0, hj, hy0, hy1, hy2⟩ := info_parts infoM
  have HC := hide hc
  have HA : Hid (Below w.heap.size w (w.alloc (.cells #[] 3))) := hide (Joins.below_alloc1 _ _)
  clear hc
  go_enter Try.func76, Try.ntmps76
  go_wp2
  go_loopw [5, 6] (fun o i wr => ∃ (k : Nat) (qo : Option Addr) (qa : Nat), k ≤ n ∧ i = .int .i64 k ∧ o = .slice qo k qa ∧ Hid (OwnR wr w.heap.size 3 1 (.slice qo k qa) k (intV (rzTo xs k))) ∧ Hid (Below w.heap.size w wr)) (fun _ i _ => n - (intOf i).toNat)
  case atStart => exact ⟨0, _, _, Nat.zero_le _, rfl, rfl, hide (.inl ⟨rfl, rfl, _, rfl⟩), HA⟩
  case round =>
    obtain ⟨k, qo, qa, hk, rfl, rfl, HO, HB⟩ := hrel
    have HSZ := hide (unhide HB).size
    by_cases hlt : k < n
    · have hlti : (k : Int) < (n : Int) := by omega
      by_cases hkx : k < xs.length
      · obtain ⟨b, off, rfl, hcl⟩ := (unhide HC).below (unhide HB) k hkx
        have HS : Hid (rzTo xs (k + 1) = rzTo xs k ++ [xs[k]]) := hide (by rw [rzTo_succ]; simp [List.getD, hkx])
        have HOA := hide ((unhide HO).below (Joins.below_alloc1 _ (.cells #[.int .i64 xs[k]] 3)))
        have HBA := hide (fr (unhide HB) (Joins.below_alloc1 _ (.cells #[.int .i64 xs[k]] 3)))
        go_wp2_with (at_builtin; refine wpList_append_one rfl _ _ 22 rfl w.heap.size 3 j0 (.int .i64 0) 1 8 Try.underlying22 hj hy0 hy1 hy2 rfl (by omega) qo k qa (intV (rzTo xs k)) rfl (unhide HOA) (by have := unhide HSZ; simp; omega) ⟨wr.heap.size, 0, none⟩ _ [.int .i64 xs[k]] rfl rfl (byte_news wr _ _) (int_one _) (by unfold maxLen; omega) (by omega) ?_; intro g2 cap2 wA hoA hkA; have HSF := hide (And.intro hoA (keep_below (unhide HBA) (unhide HOA) (Nat.le_refl _) hkA)); clear hoA hkA)
        go_roundw
        case rel => exact ⟨k + 1, some ⟨g2, 0, none⟩, cap2, by omega, by go_num, rfl, hide (.inr ⟨by omega, by rw [unhide HS, intV_snoc]; exact (unhide HSF).1⟩), hide (unhide HSF).2⟩
        case measure => simp [intOf]; omega
      · have hkxi : ¬ (k : Int) < (xs.length : Int) := by omega
        have HS : Hid (rzTo xs (k + 1) = rzTo xs k ++ [0]) := hide (by rw [rzTo_succ]; simp [List.getD, List.getElem?_eq_none (show xs.length ≤ k by omega)])
        have HOA := hide ((unhide HO).below (Joins.below_alloc1 _ (.cells #[.int .i64 0] 3)))
        have HBA := hide (fr (unhide HB) (Joins.below_alloc1 _ (.cells #[.int .i64 0] 3)))
        go_wp2_with (at_builtin; refine wpList_append_one rfl _ _ 22 rfl w.heap.size 3 j0 (.int .i64 0) 1 8 Try.underlying22 hj hy0 hy1 hy2 rfl (by omega) qo k qa (intV (rzTo xs k)) rfl (unhide HOA) (by have := unhide HSZ; simp; omega) ⟨wr.heap.size, 0, none⟩ _ [.int .i64 0] rfl rfl (byte_news wr _ _) (int_one _) (by unfold maxLen; omega) (by omega) ?_; intro g2 cap2 wA hoA hkA; have HSF := hide (And.intro hoA (keep_below (unhide HBA) (unhide HOA) (Nat.le_refl _) hkA)); clear hoA hkA)
        go_roundw
        case rel => exact ⟨k + 1, some ⟨g2, 0, none⟩, cap2, by omega, by go_num, rfl, hide (.inr ⟨by omega, by rw [unhide HS, intV_snoc]; exact (unhide HSF).1⟩), hide (unhide HSF).2⟩
        case measure => simp [intOf]; omega
    · obtain rfl : k = n := by omega
      have HLN := hide (rzTo_len xs k)
      go_wp2
      go_ret
      exact ⟨.slice qo k qa, rfl, ⟨qo, qa, by rw [unhide HLN], by rw [unhide HLN]; exact unhide HO⟩, unhide HB⟩

end Go.Proofs.Ytjoafbkcnnhdiac

namespace Go.Proofs.Ytjoafbkcnnhdiac
open Go.RowKit
set_option linter.unusedVariables false
set_option maxRecDepth 100000

structure RzJ (w0 : World) (B : Nat) (b : Im4) (m0 mk mk' : Img) (ts : List Value) (k gt : Nat) (T : Int) (d : Nat → Bool) (w : World) (s16 s17 s18 s19 s20 s21 s22 : Value) : Prop where
  q0 : d 6 = false → ImQ w0 w B b m0 mk ts
  q6 : d 6 = true → ImQ w0 w B b m0 mk' ts
  v6 : d 6 = true → s22 = .agg #[.slice b.ro m0.refs.length b.rc, .slice (some ⟨gt, 0, none⟩) m0.table.length b.tc, .slice b.so m0.snaps.length b.sc, .slice b.dq m0.data.length b.dc]
  f0 : d 0 = true → s16 = .agg #[.slice b.ro m0.refs.length b.rc, .slice (some ⟨gt, 0, none⟩) m0.table.length b.tc, .slice b.so m0.snaps.length b.sc, .slice b.dq m0.data.length b.dc]
  f1 : d 1 = true → s17 = .pointer (some ⟨w0.heap.size, 1, none⟩)
  f2 : d 2 = true → s18 = .slice (some ⟨gt, 0, none⟩) m0.table.length b.tc
  f3 : d 3 = true → s19 = .int .i64 k
  f4 : d 4 = true → s20 = .pointer (some ⟨gt, k, none⟩)
  f5 : d 5 = true → s21 = .int .i64 T

theorem RzJ.s0 {w0 : World} {B : Nat} {b : Im4} {m0 mk mk' : Img} {ts : List Value} {k gt : Nat} {T : Int} {d : Nat → Bool} {w : World} {s16 s17 s18 s19 s20 s21 s22 v : Value} (I : RzJ w0 B b m0 mk mk' ts k gt T d w s16 s17 s18 s19 s20 s21 s22) (hd : d 0 = false) (hv : v = .agg #[.slice b.ro m0.refs.length b.rc, .slice (some ⟨gt, 0, none⟩) m0.table.length b.tc, .slice b.so m0.snaps.length b.sc, .slice b.dq m0.data.length b.dc]) : RzJ w0 B b m0 mk mk' ts k gt T (updD d 0) w v s17 s18 s19 s20 s21 s22 where
  q0 := fun h => I.q0 (upd_nf h)
  q6 := fun h => I.q6 (upd_ne (by decide) h)
  v6 := fun h => I.v6 (upd_ne (by decide) h)
  f0 := fun _ => hv
  f1 := fun h => I.f1 (upd_ne (by decide) h)
  f2 := fun h => I.f2 (upd_ne (by decide) h)
  f3 := fun h => I.f3 (upd_ne (by decide) h)
  f4 := fun h => I.f4 (upd_ne (by decide) h)
  f5 := fun h => I.f5 (upd_ne (by decide) h)

theorem RzJ.s1 {w0 : World} {B : Nat} {b : Im4} {m0 mk mk' : Img} {ts : List Value} {k gt : Nat} {T : Int} {d : Nat → Bool} {w : World} {s16 s17 s18 s19 s20 s21 s22 v : Value} (I : RzJ w0 B b m0 mk mk' ts k gt T d w s16 s17 s18 s19 s20 s21 s22) (hd : d 1 = false) (hv : v = .pointer (some ⟨w0.heap.size, 1, none⟩)) : RzJ w0 B b m0 mk mk' ts k gt T (updD d 1) w s16 v s18 s19 s20 s21 s22 where
  q0 := fun h => I.q0 (upd_nf h)
  q6 := fun h => I.q6 (upd_ne (by decide) h)
  v6 := fun h => I.v6 (upd_ne (by decide) h)
  f0 := fun h => I.f0 (upd_ne (by decide) h)
  f1 := fun _ => hv
  f2 := fun h => I.f2 (upd_ne (by decide) h)
  f3 := fun h => I.f3 (upd_ne (by decide) h)
  f4 := fun h => I.f4 (upd_ne (by decide) h)
  f5 := fun h => I.f5 (upd_ne (by decide) h)

theorem RzJ.s2 {w0 : World} {B : Nat} {b : Im4} {m0 mk mk' : Img} {ts : List Value} {k gt : Nat} {T : Int} {d : Nat → Bool} {w : World} {s16 s17 s18 s19 s20 s21 s22 v : Value} (I : RzJ w0 B b m0 mk mk' ts k gt T d w s16 s17 s18 s19 s20 s21 s22) (hd : d 2 = false) (hv : v = .slice (some ⟨gt, 0, none⟩) m0.table.length b.tc) : RzJ w0 B b m0 mk mk' ts k gt T (updD d 2) w s16 s17 v s19 s20 s21 s22 where
  q0 := fun h => I.q0 (upd_nf h)
  q6 := fun h => I.q6 (upd_ne (by decide) h)
  v6 := fun h => I.v6 (upd_ne (by decide) h)
  f0 := fun h => I.f0 (upd_ne (by decide) h)
  f1 := fun h => I.f1 (upd_ne (by decide) h)
  f2 := fun _ => hv
  f3 := fun h => I.f3 (upd_ne (by decide) h)
  f4 := fun h => I.f4 (upd_ne (by decide) h)
  f5 := fun h => I.f5 (upd_ne (by decide) h)

theorem RzJ.s3 {w0 : World} {B : Nat} {b : Im4} {m0 mk mk' : Img} {ts : List Value} {k gt : Nat} {T : Int} {d : Nat → Bool} {w : World} {s16 s17 s18 s19 s20 s21 s22 v : Value} (I : RzJ w0 B b m0 mk mk' ts k gt T d w s16 s17 s18 s19 s20 s21 s22) (hd : d 3 = false) (hv : v = .int .i64 k) : RzJ w0 B b m0 mk mk' ts k gt T (updD d 3) w s16 s17 s18 v s20 s21 s22 where
  q0 := fun h => I.q0 (upd_nf h)
  q6 := fun h => I.q6 (upd_ne (by decide) h)
  v6 := fun h => I.v6 (upd_ne (by decide) h)
  f0 := fun h => I.f0 (upd_ne (by decide) h)
  f1 := fun h => I.f1 (upd_ne (by decide) h)
  f2 := fun h => I.f2 (upd_ne (by decide) h)
  f3 := fun _ => hv
  f4 := fun h => I.f4 (upd_ne (by decide) h)
  f5 := fun h => I.f5 (upd_ne (by decide) h)

theorem RzJ.s4 {w0 : World} {B : Nat} {b : Im4} {m0 mk mk' : Img} {ts : List Value} {k gt : Nat} {T : Int} {d : Nat → Bool} {w : World} {s16 s17 s18 s19 s20 s21 s22 v : Value} (I : RzJ w0 B b m0 mk mk' ts k gt T d w s16 s17 s18 s19 s20 s21 s22) (hd : d 4 = false) (hv : v = .pointer (some ⟨gt, k, none⟩)) : RzJ w0 B b m0 mk mk' ts k gt T (updD d 4) w s16 s17 s18 s19 v s21 s22 where
  q0 := fun h => I.q0 (upd_nf h)
  q6 := fun h => I.q6 (upd_ne (by decide) h)
  v6 := fun h => I.v6 (upd_ne (by decide) h)
  f0 := fun h => I.f0 (upd_ne (by decide) h)
  f1 := fun h => I.f1 (upd_ne (by decide) h)
  f2 := fun h => I.f2 (upd_ne (by decide) h)
  f3 := fun h => I.f3 (upd_ne (by decide) h)
  f4 := fun _ => hv
  f5 := fun h => I.f5 (upd_ne (by decide) h)

theorem RzJ.s5 {w0 : World} {B : Nat} {b : Im4} {m0 mk mk' : Img} {ts : List Value} {k gt : Nat} {T : Int} {d : Nat → Bool} {w : World} {s16 s17 s18 s19 s20 s21 s22 v : Value} (I : RzJ w0 B b m0 mk mk' ts k gt T d w s16 s17 s18 s19 s20 s21 s22) (hd : d 5 = false) (hv : v = .int .i64 T) : RzJ w0 B b m0 mk mk' ts k gt T (updD d 5) w s16 s17 s18 s19 s20 v s22 where
  q0 := fun h => I.q0 (upd_nf h)
  q6 := fun h => I.q6 (upd_ne (by decide) h)
  v6 := fun h => I.v6 (upd_ne (by decide) h)
  f0 := fun h => I.f0 (upd_ne (by decide) h)
  f1 := fun h => I.f1 (upd_ne (by decide) h)
  f2 := fun h => I.f2 (upd_ne (by decide) h)
  f3 := fun h => I.f3 (upd_ne (by decide) h)
  f4 := fun h => I.f4 (upd_ne (by decide) h)
  f5 := fun _ => hv

theorem RzJ.s6 {w0 : World} {B : Nat} {b : Im4} {m0 mk mk' : Img} {ts : List Value} {k gt : Nat} {T : Int} {d : Nat → Bool} {w w2 : World} {s16 s17 s18 s19 s20 s21 s22 v : Value} (I : RzJ w0 B b m0 mk mk' ts k gt T d w s16 s17 s18 s19 s20 s21 s22) (hd : d 6 = false) (hv : v = .agg #[.slice b.ro m0.refs.length b.rc, .slice (some ⟨gt, 0, none⟩) m0.table.length b.tc, .slice b.so m0.snaps.length b.sc, .slice b.dq m0.data.length b.dc]) (hq : ImQ w0 w2 B b m0 mk' ts) : RzJ w0 B b m0 mk mk' ts k gt T (updD d 6) w2 s16 s17 s18 s19 s20 s21 v where
  q0 := fun h => no_d (k := 6) upd_at h
  q6 := fun _ => hq
  v6 := fun _ => hv
  f0 := fun h => I.f0 (upd_ne (by decide) h)
  f1 := fun h => I.f1 (upd_ne (by decide) h)
  f2 := fun h => I.f2 (upd_ne (by decide) h)
  f3 := fun h => I.f3 (upd_ne (by decide) h)
  f4 := fun h => I.f4 (upd_ne (by decide) h)
  f5 := fun h => I.f5 (upd_ne (by decide) h)

theorem RzJ.s7 {w0 : World} {B : Nat} {b : Im4} {m0 mk mk' : Img} {ts : List Value} {k gt : Nat} {T : Int} {d : Nat → Bool} {w w2 : World} {s16 s17 s18 s19 s20 s21 s22 v : Value} (I : RzJ w0 B b m0 mk mk' ts k gt T d w s16 s17 s18 s19 s20 s21 s22) (hd : d 7 = false) (p6 : d 6 = true) (hq : ImQ w0 w2 B b m0 mk' ts) : RzJ w0 B b m0 mk mk' ts k gt T (updD d 7) w2 s16 s17 s18 s19 s20 s21 s22 where
  q0 := fun h => no_d p6 (upd_nf h)
  q6 := fun _ => hq
  v6 := fun h => I.v6 p6
  f0 := fun h => I.f0 (upd_ne (by decide) h)
  f1 := fun h => I.f1 (upd_ne (by decide) h)
  f2 := fun h => I.f2 (upd_ne (by decide) h)
  f3 := fun h => I.f3 (upd_ne (by decide) h)
  f4 := fun h => I.f4 (upd_ne (by decide) h)
  f5 := fun h => I.f5 (upd_ne (by decide) h)

abbrev rzFr (t0 t1 t2 t3 t4 t5 t6 t7 t8 t9 t10 t11 t12 t13 t14 t15 s16 s17 s18 s19 s20 s21 s22 t23 t24 t25 t26 t27 t28 : Value) : Act := ⟨#[t0, t1, t2, t3, t4, t5, t6, t7, t8, t9, t10, t11, t12, t13, t14, t15, s16, s17, s18, s19, s20, s21, s22, t23, t24, t25, t26, t27, t28], []⟩
theorem rzFr_region {P : Program} {id : Nat} {Q : Exit → Act → World → Prop} {l : List Oper} {t0 t1 t2 t3 t4 t5 t6 t7 t8 t9 t10 t11 t12 t13 t14 t15 s16 s17 s18 s19 s20 s21 s22 t23 t24 t25 t26 t27 t28 : Value} {W : World} (J : (Nat → Bool) → World → Value → Value → Value → Value → Value → Value → Value →  Prop) (hm : P.follows .mixedOrders = true) (hl : linB l = true)
    (hg : ∀ (i : Nat) (o : Oper), l[i]? = some o → o.guard = none) (h0 : J (fun _ => false) { W with drawn := W.drawn + 1 } s16 s17 s18 s19 s20 s21 s22)
    (hs : ∀ (d : Nat → Bool) (w : World) (i : Nat) (o : Oper) (r16 r17 r18 r19 r20 r21 r22 : Value), Closed l d → J d w r16 r17 r18 r19 r20 r21 r22 → l[i]? = some o → d i = false → (∀ e ∈ o.after, Region.binds .any e = true → d e.on = true) → ∀ K : Act → World → Prop, (∀ (w' : World) (q16 q17 q18 q19 q20 q21 q22 : Value), J (updD d i) w' q16 q17 q18 q19 q20 q21 q22 → K (rzFr t0 t1 t2 t3 t4 t5 t6 t7 t8 t9 t10 t11 t12 t13 t14 t15 q16 q17 q18 q19 q20 q21 q22 t23 t24 t25 t26 t27 t28) w') → o.wp P (rzFr t0 t1 t2 t3 t4 t5 t6 t7 t8 t9 t10 t11 t12 t13 t14 t15 r16 r17 r18 r19 r20 r21 r22 t23 t24 t25 t26 t27 t28) w K Q)
    (he : ∀ (d : Nat → Bool) (w : World) (r16 r17 r18 r19 r20 r21 r22 : Value), J d w r16 r17 r18 r19 r20 r21 r22 → (∀ i, i < l.length → d i = true) → Q .normal (rzFr t0 t1 t2 t3 t4 t5 t6 t7 t8 t9 t10 t11 t12 t13 t14 t15 r16 r17 r18 r19 r20 r21 r22 t23 t24 t25 t26 t27 t28) w) : (Code.region id l.toArray true).wp P Q (rzFr t0 t1 t2 t3 t4 t5 t6 t7 t8 t9 t10 t11 t12 t13 t14 t15 s16 s17 s18 s19 s20 s21 s22 t23 t24 t25 t26 t27 t28) W := by
  refine wp_region_inv2 (fun d f w => ∃ r16 r17 r18 r19 r20 r21 r22, f = rzFr t0 t1 t2 t3 t4 t5 t6 t7 t8 t9 t10 t11 t12 t13 t14 t15 r16 r17 r18 r19 r20 r21 r22 t23 t24 t25 t26 t27 t28 ∧ J d w r16 r17 r18 r19 r20 r21 r22) hm hl hg ⟨s16, s17, s18, s19, s20, s21, s22, rfl, h0⟩ ?_ ?_
  · intro d f w i o hc hI ho hd hp K hK
    obtain ⟨r16, r17, r18, r19, r20, r21, r22, rfl, hJ⟩ := hI
    exact hs d w i o r16 r17 r18 r19 r20 r21 r22 hc hJ ho hd hp K (fun w' q16 q17 q18 q19 q20 q21 q22 hJ' => hK _ _ ⟨q16, q17, q18, q19, q20, q21, q22, rfl, hJ'⟩)
  · intro d f w hI hall
    obtain ⟨r16, r17, r18, r19, r20, r21, r22, rfl, hJ⟩ := hI
    exact he d w r16 r17 r18 r19 r20 r21 r22 hJ hall

def rzD (m : Img) (n k : Nat) : Img := imDrops m ((m.table.take k).drop n)
theorem rzD_start (m : Img) (n : Nat) : rzD m n n = m := by
  have : (m.table.take n).drop n = [] := List.drop_eq_nil_of_le (by rw [List.length_take]; omega)
  rw [rzD, this]; rfl
theorem rzD_succ {m : Img} {n k : Nat} (hn : n ≤ k) (hk : k < m.table.length) : rzD m n (k + 1) = imDrop (rzD m n k) m.table[k] := by
  unfold rzD
  rw [List.take_succ_eq_append_getElem hk, List.drop_append_of_le_length (by rw [List.length_take]; omega)]
  unfold imDrops
  rw [List.foldl_append]; rfl
theorem rzD_all (m : Img) {n k : Nat} (hk : m.table.length ≤ k) : rzD m n k = imDrops m (m.table.drop n) := by rw [rzD, List.take_of_length_le hk]
theorem imDrops_same (es : List Int) : ∀ m : Img, (imDrops m es).table = m.table ∧ (imDrops m es).snaps = m.snaps ∧ (imDrops m es).refs.length = m.refs.length ∧ (imDrops m es).data.length = m.data.length := by
  induction es with
  | nil => intro m; exact ⟨rfl, rfl, rfl, rfl⟩
  | cons e es ih =>
    intro m
    have h := ih (imDrop m e)
    have hd := imDrop_lens m e
    have ht := imDrop_table m e
    refine ⟨h.1.trans ht.1, h.2.1.trans ht.2, h.2.2.1.trans hd.1, h.2.2.2.trans hd.2.2.2⟩
def RvB (m : Img) (lo : Int) : Prop := ∀ c (h : c < m.refs.length), -lo ≤ m.refs[c] ∧ m.refs[c] ≤ 60
theorem RvB.drop {m : Img} {lo : Int} (h : RvB m lo) (hlo : 0 ≤ lo) (e : Int) : RvB (imDrop m e) (lo + 1) := by
  intro c hc
  unfold imDrop at hc ⊢
  by_cases h2 : e < 2
  · simp only [if_pos h2] at hc ⊢
    have := h c hc
    omega
  · simp only [if_neg h2, List.length_set] at hc ⊢
    rw [List.getElem_set]
    have := h c hc
    split
    · rename_i hcc
      have h3 : m.refs.getD (e - 2).toNat 0 = m.refs[c] := by rw [hcc]; simp [List.getD, hc]
      rw [h3]
      omega
    · omega
theorem ImQ.below {w W W' : World} {B : Nat} {a : Im4} {m0 m : Img} {ts : List Value} (h : ImQ w W B a m0 m ts) (hb : Below W.heap.size W W') : ImQ w W' B a m0 m ts := ⟨h.v.below hb, h.r.below hb, h.o.below hb, fr h.b hb, h.hB, h.e1, h.e2, h.e3, h.e4⟩
theorem OwnIm.newT {w w' : World} {B n qa : Nat} {a : Im4} {m : Img} {ts : List Value} {qo : Option Addr} {xs : List Int} (h : OwnIm w B a m ts) (hb : Below w.heap.size w w') (hn : OwnN w' w.heap.size (.slice qo n qa) xs) (hl : xs.length = n) (hB : B ≤ w.heap.size) : OwnIm w' B { a with tq := qo, tc := qa } { m with table := xs } ts := by
  refine ⟨h.len, h.s.below hb, ?_⟩
  have h' := h.rows.below hb
  have hap := h'.apart
  simp only [imRows] at h' hap ⊢
  rw [hl]
  have hold : ∀ r ∈ imRows a m ts, ∀ g, Own r.1 g → ¬ Own (.slice qo n qa) g := fun r hr g hg hx => by
    have h1 := ((h.rows.own r hr).ge g hg).2
    have h2 := (hn.ge g hx).1
    omega
  simp only [List.pairwise_cons] at hap
  refine ⟨fun r hr => ?_, ?_⟩
  · simp only [List.mem_cons] at hr
    rcases hr with rfl | rfl | rfl | hr
    · exact h'.own _ (by simp)
    · exact hn.base hB
    · exact h'.own (.slice a.dq m.data.length a.dc, m.data) (by simp)
    · exact h'.own r (by simp [hr])
  · simp only [List.pairwise_cons]
    refine ⟨fun r hr g hg => ?_, fun r hr g hg hx => ?_, hap.2.2.1, hap.2.2.2⟩
    · rcases List.mem_cons.1 hr with rfl | hr
      · exact hold (.slice a.ro m.refs.length a.rc, m.refs) (by simp [imRows]) g hg
      · exact hap.1 r (List.mem_cons_of_mem _ hr) g hg
    · refine hold r ?_ g hx hg
      simp only [imRows]
      exact List.mem_cons_of_mem _ (List.mem_cons_of_mem _ hr)

set_option maxHeartbeats 3200000 in
theorem l10Resize_R (a : Im4) (m : Img) (n : Nat) (R : Img) (w : World) (hR : R = imResize m n) (hM : ImM m) (hn : n ≤ 12) (hc : ImS w a m) :
    Calls Try.prog 43 #[imV a m, .int .i64 n] w fun e w' => ∃ a' ts, e = .returned (imV a' R) ∧ OwnIm w' w.heap.size a' R ts ∧ Below w.heap.size w w' := by
  have HE := hide (ImE.new w a m hc)
  have HM := hide hM
  have HR := hide hR
  have ht12 := hM.t
  clear hc hM hR
  go_enter Try.func43, Try.ntmps43
  go_upto_region 1 with fail
  revert HE
  generalize ((w.alloc _).alloc _) = W0
  intro HE
  obtain ⟨c0, c1, c2, c3⟩ := (unhide HE).v.cells
  go_wp2_with fail
  refine (l10Own_M a m _ (unhide HM) (unhide HE).s).mono ?_
  rintro e w1 ⟨b, ts, rfl, ho, hb⟩
  have HQ := hide (ImQ.put (w := w) ((unhide HE).v.below hb) ((unhide HE).r.below hb) (ho.base (B' := w.heap.size + 2) (by have := (unhide HE).r.lt; omega)) (fr (unhide HE).b hb) (Nat.le_refl _) (m0 := m) rfl rfl rfl rfl)
  unfold putI at HQ
  obtain ⟨x0, x1, x2, x3⟩ := ((unhide HE).v.below hb).cells
  obtain ⟨z0, z1, z2, z3⟩ := ((unhide HE).v.below hb).free
  clear c0 c1 c2 c3 ho hb HE
  go_upto_region 2 with fail
  clear x0 x1 x2 x3 z0 z1 z2 z3
  revert HQ
  generalize (((w1.setCell _ _).setCell _ _).setCell _ _).setCell _ _ = W1
  intro HQ
  go_wp2
  go_loopw [5] (fun i wr => ∃ k : Nat, n ≤ k ∧ k ≤ n + 12 ∧ i = .int .i64 k ∧ Hid (ImQ w wr (w.heap.size + 2) b m (rzD m n k) ts) ∧ Hid (RvB (rzD m n k) ((k : Int) - n))) (fun i _ => n + 13 - (intOf i).toNat)
  case atStart => exact ⟨n, Nat.le_refl _, by omega, rfl, by rw [rzD_start]; exact HQ, hide (by rw [rzD_start]; exact fun c h => by have := (unhide HM).rv c h; omega)⟩
  case round =>
    clear HQ
    obtain ⟨k, hk, hk2, rfl, HQ, HB⟩ := hrel
    obtain ⟨c0, c1, c2, c3⟩ := (unhide HQ).v.cells
    by_cases hlt : k < m.table.length
    · have hlti : (k : Int) < (m.table.length : Int) := by omega
      have HSU := hide (rzD_succ hk hlt)
      have HTE : Hid ((rzD m n k).table = m.table) := hide (imDrops_same _ m).1
      have HLS : Hid ((rzD m n k).refs.length = 24 ∧ (rzD m n k).data.length = 24) := hide ⟨(unhide HQ).e1.trans (unhide HM).r, (unhide HQ).e4.trans (unhide HM).d⟩
      have HTV := hide ((unhide HM).tv k hlt)
      have HBN : Hid (RvB (imDrop (rzD m n k) m.table[k]) (((k + 1 : Nat) : Int) - n)) := hide (by
        have := (unhide HB).drop (by omega) m.table[k]
        rwa [show (k : Int) - n + 1 = ((k + 1 : Nat) : Int) - n by omega] at this)
      obtain ⟨gt, et, _, _, _⟩ := (unhide HQ).setT (c := k) (by rw [unhide HTE]; exact hlt)
      have ET := hide et
      have HCT : Hid (∀ W, ImQ w W (w.heap.size + 2) b m (rzD m n k) ts → W.cell? ⟨gt, k, none⟩ = some (.int .i64 m.table[k])) := hide (fun W h => by
        obtain ⟨g2, e2, h2, _, _⟩ := h.setT (c := k) (by rw [unhide HTE]; exact hlt)
        rw [et] at e2
        cases e2
        rw [h2]
        simp only [unhide HTE])
      have HDROP : Hid (∀ W, ImQ w W (w.heap.size + 2) b m (rzD m n k) ts → Calls Try.prog 75 #[.agg #[.slice b.ro m.refs.length b.rc, .slice (some ⟨gt, 0, none⟩) m.table.length b.tc, .slice b.so m.snaps.length b.sc, .slice b.dq m.data.length b.dc], .int .i64 m.table[k]] W fun e w' => e = .returned (.agg #[.slice b.ro m.refs.length b.rc, .slice (some ⟨gt, 0, none⟩) m.table.length b.tc, .slice b.so m.snaps.length b.sc, .slice b.dq m.data.length b.dc]) ∧ ImQ w w' (w.heap.size + 2) b m (imDrop (rzD m n k) m.table[k]) ts) := hide (fun W h => by
        have hv : imV b (rzD m n k) = .agg #[.slice b.ro m.refs.length b.rc, .slice (some ⟨gt, 0, none⟩) m.table.length b.tc, .slice b.so m.snaps.length b.sc, .slice b.dq m.data.length b.dc] := by rw [← h.val, imV, et]
        rw [← hv]
        refine (l10Drop_M b (rzD m n k) ts (w.heap.size + 2) m.table[k] W (unhide HTV).1 (unhide HTV).2 (unhide HLS).1 (unhide HLS).2 (fun c hc => by have := unhide HB c hc; omega) h.o).mono ?_
        rintro e w2 ⟨rfl, ho2, hk2'⟩
        exact ⟨rfl, h.turn hk2' ho2 (imDrop_lens _ _).1 (imDrop_lens _ _).2.1 (imDrop_lens _ _).2.2.1 (imDrop_lens _ _).2.2.2⟩)
      clear et
      rw [← unhide HSU] at HBN HDROP
      generalize hDD : rzD m n (k + 1) = D' at *
      have HDD := hide hDD
      clear hDD
      generalize rzD m n k = D at *
      generalize m.table[k] = T at *
      go_upto_region 5 with fail
      clear c0 c1 c2 c3
      refine rzFr_region (fun d wz s16 s17 s18 s19 s20 s21 s22 => RzJ w (w.heap.size + 2) b m D D' ts k gt T d wz s16 s17 s18 s19 s20 s21 s22) (by kernel_rfl) (by kernel_rfl) (noG_spec (by kernel_rfl)) ?h0 ?hs ?he
      case h0 => exact ⟨fun _ => (unhide HQ).below (Below.refl _ wr).drew, fun h => (by cases h), fun h => (by cases h), fun h => (by cases h), fun h => (by cases h), fun h => (by cases h), fun h => (by cases h), fun h => (by cases h), fun h => (by cases h)⟩
      case hs =>
        intro d wz i o r16 r17 r18 r19 r20 r21 r22 hc I ho hd hp K hK
        have hi : i < 8 := (List.getElem?_eq_some_iff.1 ho).1
        rcases (show i = 0 ∨ i = 1 ∨ i = 2 ∨ i = 3 ∨ i = 4 ∨ i = 5 ∨ i = 6 ∨ i = 7 by omega) with rfl | rfl | rfl | rfl | rfl | rfl | rfl | rfl
        · cases ho
          have h6 := not_yet hc 9 (j := 6) (i := 0) (by kernel_rfl) hd
          have hq := I.q0 h6
          obtain ⟨k0, k1, k2, k3⟩ := hq.v.cells
          rw [unhide ET] at k1
          unfold Oper.wp
          go_simp
          exact hK _ _ _ _ _ _ _ _ (I.s0 hd rfl)
        · cases ho
          unfold Oper.wp
          go_simp
          exact hK _ _ _ _ _ _ _ _ (I.s1 hd rfl)
        · cases ho
          have h6 := not_yet hc 9 (j := 6) (i := 2) (by kernel_rfl) hd
          have p := hp ⟨1, .data⟩ (by simp) rfl
          have e1 := I.f1 p
          subst e1
          have hq := I.q0 h6
          obtain ⟨k0, k1, k2, k3⟩ := hq.v.cells
          rw [unhide ET] at k1
          unfold Oper.wp
          go_simp
          exact hK _ _ _ _ _ _ _ _ (I.s2 hd rfl)
        · cases ho
          unfold Oper.wp
          go_simp
          exact hK _ _ _ _ _ _ _ _ (I.s3 hd rfl)
        · cases ho
          have p := hp ⟨2, .data⟩ (by simp) rfl
          have e1 := I.f2 p
          subst e1
          have p2 := hp ⟨3, .data⟩ (by simp) rfl
          have e2 := I.f3 p2
          subst e2
          unfold Oper.wp
          go_simp
          exact hK _ _ _ _ _ _ _ _ (I.s4 hd (by first | rfl | simp))
        · cases ho
          have h6 := not_yet hc 9 (j := 6) (i := 5) (by kernel_rfl) hd
          have p := hp ⟨4, .data⟩ (by simp) rfl
          have e1 := I.f4 p
          subst e1
          have kc := unhide HCT wz (I.q0 h6)
          unfold Oper.wp
          go_simp
          exact hK _ _ _ _ _ _ _ _ (I.s5 hd rfl)
        · cases ho
          have p0 := hp ⟨0, .data⟩ (by simp) rfl
          have e1 := I.f0 p0
          subst e1
          have p5 := hp ⟨5, .data⟩ (by simp) rfl
          have e2 := I.f5 p5
          subst e2
          unfold Oper.wp
          go_simp
          refine (unhide HDROP wz (I.q0 hd)).mono ?_
          rintro e w2 ⟨rfl, hq2⟩
          exact hK _ _ _ _ _ _ _ _ (I.s6 hd rfl hq2)
        · cases ho
          have p6 := hp ⟨6, .data⟩ (by simp) rfl
          have e22 := I.v6 p6
          subst e22
          have hq := I.q6 p6
          have hag := hq.again
          unfold putI at hag
          rw [unhide ET] at hag
          obtain ⟨x0, x1, x2, x3⟩ := hq.v.cells
          obtain ⟨z0, z1, z2, z3⟩ := hq.v.free
          unfold Oper.wp
          go_simp
          exact hK _ _ _ _ _ _ _ _ (I.s7 (v := undef) hd p6 hag)
      case he =>
        intro d wz r16 r17 r18 r19 r20 r21 r22 I hall
        have HN := hide (I.q6 (hall 6 (by decide)))
        clear I hall
        go_wp2
        go_roundw
        case rel => exact ⟨k + 1, by omega, by omega, by go_num, by rw [unhide HDD]; exact HN, by rw [unhide HDD]; exact HBN⟩
        case measure => simp [intOf]; omega
    · have HD : Hid (rzD m n k = imDrops m (m.table.drop n)) := hide (rzD_all m (by omega))
      have HTE : Hid ((rzD m n k).table = m.table) := hide (imDrops_same _ m).1
      have HRE : Hid (R = { rzD m n k with table := rzTo (rzD m n k).table n }) := hide (by
        rw [unhide HTE, unhide HD]
        exact unhide HR)
      have HTI : Hid (Is wr b.tq (rzD m n k).table) := hide (ownRN ((unhide HQ).o.rows.own (.slice b.tq (rzD m n k).table.length b.tc, (rzD m n k).table) (by simp [imRows])).row)
      have HTL : Hid ((rzD m n k).table.length = m.table.length) := hide (unhide HQ).e2
      have HTC : Hid (Calls Try.prog 76 #[.slice b.tq m.table.length b.tc, .int .i64 n] wr fun e w' => ∃ v, e = .returned v ∧ OwnN w' wr.heap.size v (rzTo (rzD m n k).table n) ∧ Below wr.heap.size wr w') := hide (by
        rw [← unhide HTL]
        exact l09Resize_any b.tq b.tc (rzD m n k).table n wr (by omega) (by rw [unhide HTL]; omega) (unhide HTI))
      clear HD HR HTE HTI
      generalize rzD m n k = D at *
      go_wp2_with fail
      refine (unhide HTC).mono ?_
      rintro e w2 ⟨v, rfl, hov, hb2⟩
      have HLZ := hide (rzTo_len D.table n)
      obtain ⟨qo, qa, rfl, hor⟩ := hov
      rw [unhide HLZ] at hor ⊢
      have HQ2 := hide ((unhide HQ).below hb2)
      have HON := hide ((unhide HQ).o.newT hb2 (OwnN.mk' hor (unhide HLZ)) (unhide HLZ) (by have := (unhide HQ).r.lt; omega))
      clear hor hb2 c0 c1 c2 c3 HTC
      obtain ⟨c0, c1, c2, c3⟩ := (unhide HQ2).v.cells
      obtain ⟨z0, z1, z2, z3⟩ := (unhide HQ2).v.free
      have HQ3 : Hid (ImQ w (w2.setCell ⟨w.heap.size, 1, none⟩ (.slice qo n qa)) (w.heap.size + 2) { b with tq := qo, tc := qa } { m with table := rzTo D.table n } { D with table := rzTo D.table n } ts) := hide
        ⟨by simp only [unhide HLZ]; exact (unhide HQ2).v.set1 _, (unhide HQ2).r.other (p := ⟨w.heap.size, 1, none⟩) (by simp) _, (unhide HON).setCell (p := ⟨w.heap.size, 1, none⟩) (by simp) _, (unhide HQ2).b.setCell (p := ⟨w.heap.size, 1, none⟩) (Nat.le_refl _) _, (unhide HQ2).hB, (unhide HQ2).e1, rfl, (unhide HQ2).e3, (unhide HQ2).e4⟩
      clear HQ HQ2 HON
      go_upto_region 7 with fail
      clear c0 c1 c2 c3 z0 z1 z2 z3
      revert HQ3
      generalize (w2.setCell _ _) = W3
      intro HQ3
      have HF := hide (unhide HQ3).fin
      obtain ⟨c0, c1, c2, c3⟩ := (unhide HQ3).v.cells
      obtain ⟨r0, r1, r2, r3⟩ := (unhide HQ3).r.cells
      obtain ⟨z0, z1, z2, z3⟩ := (unhide HQ3).r.free
      go_wp2
      refine bodyPost_ret (res_im Try.results43 rfl (unhide HF).1) rfl ?_
      rw [unhide HRE]
      first | exact ⟨_, ts, by rw [← (unhide HQ3).val], (unhide HF).2.1, (unhide HF).2.2⟩ | exact ⟨_, by rw [← (unhide HQ3).val], ⟨ts, (unhide HF).2.1⟩, (unhide HF).2.2⟩

set_option maxHeartbeats 1600000 in
theorem resizeImage_spec (a : Im4) (m : Img) (g : Int) (w : World) (hL : ImL m) (hc : ImS w a m) :
    Calls Try.prog 15 #[imV a m, .int .i64 g] w fun e w' => AnsI w w' e (rsA' m g) := by
  have HE := hide (ImE.new w a m hc)
  have HL := hide hL
  have ht64 : m.table.length ≤ 9223372036854775807 := hL.t
  obtain ⟨R, HR⟩ : ∃ R, Hid (R = rsA' m g) := ⟨_, rfl⟩
  rw [← unhide HR]
  clear hc hL
  go_enter Try.func15, Try.ntmps15
  go_upto_region 1 with fail
  revert HE
  generalize ((w.alloc _).alloc _) = W0
  intro HE
  obtain ⟨c0, c1, c2, c3⟩ := (unhide HE).v.cells
  go_wp2_with fail
  refine (imageOK_spec a m _ (unhide HL) (unhide HE).s).mono ?_
  rintro e w1 ⟨rfl, hb⟩
  have HE1 := hide ((unhide HE).below hb)
  clear hb c0 c1 c2 c3 HE
  obtain ⟨c0, c1, c2, c3⟩ := (unhide HE1).v.cells
  obtain ⟨r0, r1, r2, r3⟩ := (unhide HE1).r.cells
  obtain ⟨z0, z1, z2, z3⟩ := (unhide HE1).r.free
  cases him : imB m
  · have HX : Hid (R = (im0, 1)) := hide (by rw [unhide HR, rsA', him]; rfl)
    have HZ := hide (unhide HE1).zero
    go_wp2
    refine bodyPost_ret (res_ic Try.results15 rfl rfl (unhide HZ).1) rfl ?_
    rw [unhide HX]
    exact AnsI.bad 1 (unhide HZ).2
  have HM := hide (imB_iff.1 him).M
  cases hg : betw g 0 12
  · have HX : Hid (R = (m, 4)) := hide (by rw [unhide HR, rsA', if_pos him, hg]; rfl)
    clear him HR
    go_wp2_with (first | (go_at_call 42; refine (in_any _ _ _ _).mono ?_; rintro e w' ⟨rfl, hw⟩; replace hw := hw.symm; subst hw; rw [hg]) | fail)
    refine (l10Own_M a m _ (unhide HM) (unhide HE1).s).mono ?_
    rintro e w2 ⟨b, ts, rfl, ho, hb⟩
    have HP := hide ((unhide HE1).put hb ho)
    have HE2 := hide ((unhide HE1).below hb)
    clear ho hb c0 c1 c2 c3 r0 r1 r2 r3 z0 z1 z2 z3
    obtain ⟨r0, r1, r2, r3⟩ := (unhide HE2).r.cells
    obtain ⟨z0, z1, z2, z3⟩ := (unhide HE2).r.free
    go_wp2
    refine bodyPost_ret (res_ic Try.results15 rfl rfl (unhide HP).1) rfl ?_
    rw [unhide HX]
    exact AnsI.of (R := (m, 4)) rfl rfl (unhide HP).2.1 (unhide HP).2.2
  · have HX : Hid (R = (imResize m g.toNat, 0)) := hide (by rw [unhide HR, rsA', if_pos him, if_pos hg])
    obtain ⟨l0, l1⟩ := betw_iff.1 hg
    obtain ⟨q, rfl⟩ := Int.eq_ofNat_of_zero_le l0
    rw [Int.toNat_natCast] at HX
    have hq : q ≤ 12 := by omega
    obtain ⟨R1, HR1⟩ : ∃ R1, Hid (R1 = imResize m q) := ⟨_, rfl⟩
    rw [← unhide HR1] at HX
    clear him l0 l1 HR
    go_wp2_with (go_at_call 42; refine (in_any _ _ _ _).mono ?_; rintro e w' ⟨rfl, hw⟩; replace hw := hw.symm; subst hw; rw [hg])
    refine (l10Resize_R a m q R1 _ (unhide HR1) (unhide HM) hq (unhide HE1).s).mono ?_
    rintro e w2 ⟨b, ts, rfl, ho, hb⟩
    have HP := hide ((unhide HE1).put hb ho)
    have HE2 := hide ((unhide HE1).below hb)
    clear ho hb c0 c1 c2 c3 r0 r1 r2 r3 z0 z1 z2 z3 HR1
    obtain ⟨r0, r1, r2, r3⟩ := (unhide HE2).r.cells
    obtain ⟨z0, z1, z2, z3⟩ := (unhide HE2).r.free
    go_wp2
    refine bodyPost_ret (res_ic Try.results15 rfl rfl (unhide HP).1) rfl ?_
    rw [unhide HX]
    exact AnsI.of (R := (R1, 0)) rfl rfl (unhide HP).2.1 (unhide HP).2.2

end Go.Proofs.Ytjoafbkcnnhdiac
