import Derived.Test.YtjoafbkcnnhdiabRows
import Derived.Test.YtjoafbkcnnhdiabXCountRefsPart1
import Derived.Test.YtjoafbkcnnhdiabXCountRefsPart2
import Derived.Test.YtjoafbkcnnhdiabXCountRefsPart3
import Derived.Test.YtjoafbkcnnhdiabXCountRefsPart4
import Derived.Test.YtjoafbkcnnhdiabXCountRefsPart5
import Derived.Test.YtjoafbkcnnhdiabXCountRefsPart6
import Derived.WalkKit
import Derived.WalkSpells
import Derived.BigQuiet
import Derived.Deep.QuietTactic
import Derived.Deep.RegionWith
import Derived.Deep.RegionHeld3
import Derived.KernelRfl
import Derived.LoopN
import Derived.Deep.CutRange
import Derived.Orders
import Derived.Still

/- Contracts of the model's l10Value, ReadCluster, l10Drop. (Made ahead of stage 10.) -/
namespace Go.Proofs.Ytjoafbkcnnhdiab
open Go.RowKit
set_option linter.unusedVariables false
set_option maxRecDepth 100000

/-- A number of a row of the call's own: where it lies, and how it is set. -/
theorem OwnN.spot {w : World} {B c n k : Nat} {ao : Option Addr} {xs : List Int} (h : OwnN w B (.slice ao n k) xs) (hn : n = xs.length) (hc : c < xs.length) : ∃ g, ao = some ⟨g, 0, none⟩ ∧ w.cell? ⟨g, c, none⟩ = some (.int .i64 xs[c]) ∧ w.frozen? ⟨g, c, none⟩ = false ∧ Own (.slice ao n k) g ∧ ∀ y, OwnN (w.setCell ⟨g, c, none⟩ (.int .i64 y)) B (.slice ao n k) (xs.set c y) := by
  subst hn
  have hr := h.row
  have hp : 0 < xs.length := by omega
  obtain ⟨g, cap, cur, e, _, _⟩ := own_form hp (hr.row hp)
  simp only [Value.slice.injEq, true_and] at e
  obtain ⟨rfl, rfl⟩ := e
  refine ⟨g, rfl, ?_, (hr.row hp).frozenAt c, own_of hp rfl, fun y => ?_⟩
  · have := (hr.row hp).cellAt c (by omega)
    rwa [intV_get hc] at this
  · exact OwnN.mk' (own_setI hr hp y) (by simp)
/-- The three rows of numbers of an image: a place, and how it is set. -/
theorem OwnIm.setR {w : World} {B c : Nat} {a : Im4} {m : Img} {ts : List Value} (h : OwnIm w B a m ts) (hc : c < m.refs.length) : ∃ g, a.ro = some ⟨g, 0, none⟩ ∧ w.cell? ⟨g, c, none⟩ = some (.int .i64 m.refs[c]) ∧ w.frozen? ⟨g, c, none⟩ = false ∧ ImB a m ts g ∧ ∀ y, OwnIm (w.setCell ⟨g, c, none⟩ (.int .i64 y)) B a { m with refs := m.refs.set c y } ts := by
  obtain ⟨g, e, h1, h2, h3, h4⟩ := (h.rows.own (.slice a.ro m.refs.length a.rc, m.refs) (by simp [imRows])).spot rfl hc
  have hk : ∀ y, Keep (Own (.slice a.ro m.refs.length a.rc)) w (w.setCell ⟨g, c, none⟩ (.int .i64 y)) := fun y => (Keep.refl _ w).setCell (p := ⟨g, c, none⟩) h3 _
  refine ⟨g, e, h1, h2, .inl h3, fun y => ⟨h.len, h.s.keep (hk y) (own_apartT h.s (h.rows.own (.slice a.ro m.refs.length a.rc, m.refs) (by simp [imRows])).row (by decide)), ?_⟩⟩
  have := h.rows.turn (j := 0) rfl (hk y) (h4 y)
  simp only [imRows, List.length_set]
  exact this
theorem OwnIm.setT {w : World} {B c : Nat} {a : Im4} {m : Img} {ts : List Value} (h : OwnIm w B a m ts) (hc : c < m.table.length) : ∃ g, a.tq = some ⟨g, 0, none⟩ ∧ w.cell? ⟨g, c, none⟩ = some (.int .i64 m.table[c]) ∧ w.frozen? ⟨g, c, none⟩ = false ∧ ImB a m ts g ∧ ∀ y, OwnIm (w.setCell ⟨g, c, none⟩ (.int .i64 y)) B a { m with table := m.table.set c y } ts := by
  obtain ⟨g, e, h1, h2, h3, h4⟩ := (h.rows.own (.slice a.tq m.table.length a.tc, m.table) (by simp [imRows])).spot rfl hc
  have hk : ∀ y, Keep (Own (.slice a.tq m.table.length a.tc)) w (w.setCell ⟨g, c, none⟩ (.int .i64 y)) := fun y => (Keep.refl _ w).setCell (p := ⟨g, c, none⟩) h3 _
  refine ⟨g, e, h1, h2, .inr (.inl h3), fun y => ⟨h.len, h.s.keep (hk y) (own_apartT h.s (h.rows.own (.slice a.tq m.table.length a.tc, m.table) (by simp [imRows])).row (by decide)), ?_⟩⟩
  have := h.rows.turn (j := 1) rfl (hk y) (h4 y)
  simp only [imRows, List.length_set]
  exact this
theorem OwnIm.setD {w : World} {B c : Nat} {a : Im4} {m : Img} {ts : List Value} (h : OwnIm w B a m ts) (hc : c < m.data.length) : ∃ g, a.dq = some ⟨g, 0, none⟩ ∧ w.cell? ⟨g, c, none⟩ = some (.int .i64 m.data[c]) ∧ w.frozen? ⟨g, c, none⟩ = false ∧ ImB a m ts g ∧ ∀ y, OwnIm (w.setCell ⟨g, c, none⟩ (.int .i64 y)) B a { m with data := m.data.set c y } ts := by
  obtain ⟨g, e, h1, h2, h3, h4⟩ := (h.rows.own (.slice a.dq m.data.length a.dc, m.data) (by simp [imRows])).spot rfl hc
  have hk : ∀ y, Keep (Own (.slice a.dq m.data.length a.dc)) w (w.setCell ⟨g, c, none⟩ (.int .i64 y)) := fun y => (Keep.refl _ w).setCell (p := ⟨g, c, none⟩) h3 _
  refine ⟨g, e, h1, h2, .inr (.inr (.inl h3)), fun y => ⟨h.len, h.s.keep (hk y) (own_apartT h.s (h.rows.own (.slice a.dq m.data.length a.dc, m.data) (by simp [imRows])).row (by decide)), ?_⟩⟩
  have := h.rows.turn (j := 2) rfl (hk y) (h4 y)
  simp only [imRows, List.length_set]
  exact this
/-- A variable lies in no row of an image. -/
theorem OwnIm.other {w : World} {B x : Nat} {a : Im4} {m : Img} {ts : List Value} {v0 v1 v2 v3 : Value} (h : OwnIm w B a m ts) (hv : VarM w x 29 v0 v1 v2 v3) : ¬ ImB a m ts x := by
  intro hx
  rcases hx with h1 | h1 | h1 | h1 | ⟨t, ht, h1⟩
  · exact (h.rows.own (.slice a.ro m.refs.length a.rc, m.refs) (by simp [imRows])).row.other hv (by decide) h1
  · exact (h.rows.own (.slice a.tq m.table.length a.tc, m.table) (by simp [imRows])).row.other hv (by decide) h1
  · exact (h.rows.own (.slice a.dq m.data.length a.dc, m.data) (by simp [imRows])).row.other hv (by decide) h1
  · exact h.s.other hv (by decide) h1
  · have hm : t ∈ (ts.zip (m.snaps.map (·.table))).map Prod.fst := by rw [zip_fst _ _ (by rw [List.length_map, h.len])]; exact ht
    obtain ⟨p, hp, rfl⟩ := List.mem_map.1 hm
    exact (h.rows.own p (by simp [imRows, hp])).row.other hv (by decide) h1
theorem VarM.keepIm {w w' : World} {B x : Nat} {a : Im4} {m : Img} {ts : List Value} {v0 v1 v2 v3 : Value} (hv : VarM w x 29 v0 v1 v2 v3) (h : OwnIm w B a m ts) (hk : Keep (ImB a m ts) w w') : VarM w' x 29 v0 v1 v2 v3 := (hk.block x hv.lt (h.other hv)).trans hv
/-- An image that is owned is shown. -/
theorem OwnIm.shows {w : World} {B : Nat} {a : Im4} {m : Img} {ts : List Value} (h : OwnIm w B a m ts) (hz : ∀ s ∈ m.snaps, s.name.size ≤ maxLen ∧ s.table.length ≤ maxLen) : ImS w a m := by
  refine ⟨ownRN (h.rows.own (.slice a.ro m.refs.length a.rc, m.refs) (by simp [imRows])).row, ownRN (h.rows.own (.slice a.tq m.table.length a.tc, m.table) (by simp [imRows])).row, fun i hi => ?_, ownRN (h.rows.own (.slice a.dq m.data.length a.dc, m.data) (by simp [imRows])).row⟩
  have hp : 0 < m.snaps.length := by omega
  have hit : i < ts.length := by rw [← h.len]; exact hi
  have hs := h.s.row hp
  obtain ⟨g, cap, cur, e, _, _⟩ := own_form hp hs
  rw [e] at hs
  simp only [Value.slice.injEq, true_and] at e
  obtain ⟨e1, e2⟩ := e
  have hgs := snC_get (List.getElem?_eq_getElem hi) (List.getElem?_eq_getElem hit)
  have hm : (ts[i], m.snaps[i].table) ∈ imRows a m ts := by
    have : (ts.zip (m.snaps.map (·.table)))[i]? = some (ts[i], m.snaps[i].table) := by
      rw [List.getElem?_zip_eq_some]
      exact ⟨List.getElem?_eq_getElem hit, by simp [hi]⟩
    simp [imRows, List.mem_of_getElem? this]
  obtain ⟨tq, tc, et, ho⟩ := h.rows.own _ hm
  simp only at et ho
  refine ⟨g, 0, tq, tc, e1, ?_, ?_, ownRN ho, (hz _ (List.getElem_mem hi)).1, (hz _ (List.getElem_mem hi)).2⟩
  · rw [Nat.zero_add]; exact (hs.cellAt (i * 2) (by omega)).trans hgs.1
  · rw [Nat.zero_add]; exact (hs.cellAt (i * 2 + 1) (by omega)).trans (by rw [hgs.2, et])

theorem drop_at {m : Img} {c : Nat} (hr : c < m.refs.length) (hd : c < m.data.length) : (m.refs[c] - 1 = 0 → imDrop m ((c : Int) + 2) = { m with refs := m.refs.set c (m.refs[c] - 1), data := m.data.set c 0 }) ∧ (¬ m.refs[c] - 1 = 0 → imDrop m ((c : Int) + 2) = { m with refs := m.refs.set c (m.refs[c] - 1) }) := by
  have e : ((c : Int) + 2 - 2).toNat = c := by omega
  have g : m.refs.getD c 0 = m.refs[c] := by simp [List.getD, hr]
  unfold imDrop
  rw [if_neg (by omega)]
  simp only [e, g]
  exact ⟨fun h => by rw [if_pos h], fun h => by rw [if_neg h]⟩
/-- What was new need not be told. -/
theorem keep_im {w w' : World} {a : Im4} {m : Img} {ts : List Value} (h : Keep (fun g => ImB a m ts g ∨ w.heap.size ≤ g) w w') (hg : ∀ g, ImB a m ts g → g < w.heap.size) : Keep (ImB a m ts) w w' :=
  ⟨h.os, h.tape, h.output, h.size, fun k hk hn => h.block k hk (fun hS => by
    rcases hS with hS | hS
    · exact hn hS
    · omega)⟩

set_option maxHeartbeats 1600000 in
theorem l10Drop_any (a : Im4) (m : Img) (ts : List Value) (B : Nat) (e : Int) (w : World) (he0 : -1000 ≤ e) (he1 : e ≤ 1000) (hr : e - 2 < m.refs.length) (hd : e - 2 < m.data.length) (hl : m.refs.length ≤ 1000 ∧ m.data.length ≤ 1000) (hv : ∀ c (h : c < m.refs.length), -1000 ≤ m.refs[c] ∧ m.refs[c] ≤ 1000) (ho : OwnIm w B a m ts) :
    Calls Try.prog 64 #[imV a m, .int .i64 e] w fun r w' => r = .returned (imV a m) ∧ OwnIm w' B a (imDrop m e) ts ∧ Keep (ImB a m ts) w w' := by
  have HA := hide (Joins.below_alloc2 w (.cells #[.slice a.ro m.refs.length a.rc, .slice a.tq m.table.length a.tc, .slice a.so m.snaps.length a.sc, .slice a.dq m.data.length a.dc] 29) (.cells #[.slice none 0 0, .slice none 0 0, .slice none 0 0, .slice none 0 0] 29))
  have HO := hide (ho.below (unhide HA))
  have HV := hide ((VarM.new w 29 (.slice a.ro m.refs.length a.rc) (.slice a.tq m.table.length a.tc) (.slice a.so m.snaps.length a.sc) (.slice a.dq m.data.length a.dc)).below (Joins.below_alloc1 _ (.cells #[.slice none 0 0, .slice none 0 0, .slice none 0 0, .slice none 0 0] 29)))
  have HR := hide ((VarM.new (w.alloc (.cells #[.slice a.ro m.refs.length a.rc, .slice a.tq m.table.length a.tc, .slice a.so m.snaps.length a.sc, .slice a.dq m.data.length a.dc] 29)) 29 (.slice none 0 0) (.slice none 0 0) (.slice none 0 0) (.slice none 0 0)).at (y := w.heap.size + 1) (by simp))
  have HGE : Hid (∀ g, ImB a m ts g → g < w.heap.size) := hide (fun g hg => (ho.ge g hg).2)
  clear ho
  by_cases h2 : e < 2
  · have HE : Hid (imDrop m e = m) := hide (if_pos h2)
    go_enter Try.func64, Try.ntmps64
    go_upto_region 1 with fail
    revert HA HO HV HR
    generalize ((w.alloc _).alloc _) = W0
    intro HA HO HV HR
    obtain ⟨c0, c1, c2, c3⟩ := (unhide HV).cells
    obtain ⟨r0, r1, r2, r3⟩ := (unhide HR).cells
    obtain ⟨z0, z1, z2, z3⟩ := (unhide HR).free
    have HK : Hid (Keep (fun g => ImB a m ts g ∨ w.heap.size ≤ g) w ((((W0.setCell ⟨w.heap.size + 1, 0, none⟩ (.slice a.ro m.refs.length a.rc)).setCell ⟨w.heap.size + 1, 1, none⟩ (.slice a.tq m.table.length a.tc)).setCell ⟨w.heap.size + 1, 2, none⟩ (.slice a.so m.snaps.length a.sc)).setCell ⟨w.heap.size + 1, 3, none⟩ (.slice a.dq m.data.length a.dc))) := hide (by
      have k0 : Keep (fun g => ImB a m ts g ∨ w.heap.size ≤ g) w W0 := Keep.of_below (unhide HA)
      exact (((k0.setCell (p := ⟨w.heap.size + 1, 0, none⟩) (.inr (Nat.le_succ _)) _).setCell (p := ⟨w.heap.size + 1, 1, none⟩) (.inr (Nat.le_succ _)) _).setCell (p := ⟨w.heap.size + 1, 2, none⟩) (.inr (Nat.le_succ _)) _).setCell (p := ⟨w.heap.size + 1, 3, none⟩) (.inr (Nat.le_succ _)) _)
    have HVN := hide ((((unhide HR).set0 (.slice a.ro m.refs.length a.rc)).set1 (.slice a.tq m.table.length a.tc)).set2 (.slice a.so m.snaps.length a.sc) |>.set3 (.slice a.dq m.data.length a.dc))
    have HON := hide ((unhide HO).keep (S := fun g => g = w.heap.size + 1) (((((Keep.refl (fun g => g = w.heap.size + 1) W0).setCell (p := ⟨w.heap.size + 1, 0, none⟩) rfl (.slice a.ro m.refs.length a.rc)).setCell (p := ⟨w.heap.size + 1, 1, none⟩) rfl (.slice a.tq m.table.length a.tc)).setCell (p := ⟨w.heap.size + 1, 2, none⟩) rfl (.slice a.so m.snaps.length a.sc)).setCell (p := ⟨w.heap.size + 1, 3, none⟩) rfl (.slice a.dq m.data.length a.dc)) (fun g hg he => by have := unhide HGE g hg; omega))
    go_wp2
    refine bodyPost_ret (res_im Try.results64 rfl (unhide HVN)) rfl ⟨rfl, ?_, ?_⟩
    · rw [unhide HE]; exact unhide HON
    · exact keep_im (unhide HK) (unhide HGE)
  · obtain ⟨c, hcc⟩ : ∃ c : Nat, e = (c : Int) + 2 := ⟨(e - 2).toNat, by omega⟩
    subst hcc
    have hcr : c < m.refs.length := by omega
    have hcd : c < m.data.length := by omega
    have hcri : (c : Int) < (m.refs.length : Int) := by omega
    have hcdi : (c : Int) < (m.data.length : Int) := by omega
    have hw2 : IntKind.i64.wrap ((c : Int) + 2 - 2) = (c : Int) := by rw [IntKind.wrap_i64]; omega
    obtain ⟨v0, v1⟩ := hv c hcr
    have HDR := hide (drop_at (m := m) hcr hcd)
    go_enter Try.func64, Try.ntmps64
    go_upto_region 1 with fail
    revert HA HO HV HR
    generalize ((w.alloc _).alloc _) = W0
    intro HA HO HV HR
    obtain ⟨g, eg, hcg, hfg, hig, hst⟩ := (unhide HO).setR hcr
    have HO1 := hide (hst (m.refs[c] - 1))
    have HK1 : Hid (Keep (ImB a m ts) W0 (W0.setCell ⟨g, c, none⟩ (.int .i64 (m.refs[c] - 1)))) := hide ((Keep.refl _ W0).setCell (p := ⟨g, c, none⟩) hig _)
    have HV1 := hide ((unhide HV).keepIm (unhide HO) (unhide HK1))
    have HR1 := hide ((unhide HR).keepIm (unhide HO) (unhide HK1))
    have hsame : (W0.setCell ⟨g, c, none⟩ (.int .i64 (m.refs[c] - 1))).cell? ⟨g, c, none⟩ = some (.int .i64 (m.refs[c] - 1)) := World.cell?_setCell_same _ _ _ hcg
    have HSM := hide hsame
    obtain ⟨c0, c1, c2, c3⟩ := (unhide HV).cells
    rw [eg] at c0
    have hw3 : IntKind.i64.wrap (m.refs[c] - 1) = m.refs[c] - 1 := by rw [IntKind.wrap_i64]; omega
    have EG := hide eg
    clear eg hst hig hsame c1 c2 c3
    have HDR' := HDR
    generalize m.refs[c] = R at *
    go_upto_region 5 with fail
    revert HO1 HK1 HV1 HR1 HSM
    generalize (W0.setCell _ _) = W1
    intro HO1 HK1 HV1 HR1 HSM
    clear c0 hcg hfg
    have hs := unhide HSM
    obtain ⟨c0, c1, c2, c3⟩ := (unhide HV1).cells
    rw [unhide EG] at c0
    have HKW : Hid (Keep (fun g => ImB a m ts g ∨ w.heap.size ≤ g) w W1) := hide ((Keep.of_below (unhide HA)).trans ((unhide HK1).mono (fun g h => .inl h)))
    by_cases hz : R - 1 = 0
    · have bz : (R - 1 == 0) = true := by simp [hz]
      obtain ⟨g2, eg2, hcg2, hfg2, hig2, hst2⟩ := (unhide HO1).setD (c := c) (by simpa using hcd)
      have HO2 := hide (hst2 0)
      have HE : Hid ({ ({ m with refs := m.refs.set c (R - 1) } : Img) with data := m.data.set c 0 } = imDrop m ((c : Int) + 2)) := hide ((unhide HDR).1 hz).symm
      have hig2' : ImB a m ts g2 := by simpa only [ImB, List.length_set] using hig2
      have HK2 : Hid (Keep (ImB a m ts) W1 (W1.setCell ⟨g2, c, none⟩ (.int .i64 0))) := hide ((Keep.refl _ W1).setCell (p := ⟨g2, c, none⟩) hig2' _)
      have hne1 : w.heap.size ≠ g2 := by have := unhide HGE g2 hig2'; omega
      have hne2 : w.heap.size + 1 ≠ g2 := by have := unhide HGE g2 hig2'; omega
      have HV2 := hide (VarM.other (unhide HV1) (p := ⟨g2, c, none⟩) hne1 (.int .i64 0))
      have HR2 := hide (VarM.other (unhide HR1) (p := ⟨g2, c, none⟩) hne2 (.int .i64 0))
      rw [eg2] at c3
      clear eg2 hst2 hig2 hz hne1 hne2
      go_upto_region 7 with fail
      revert HO2 HK2 HV2 HR2
      generalize (W1.setCell _ _) = W2
      intro HO2 HK2 HV2 HR2
      clear c0 c1 c2 c3 hs hcg2 hfg2
      obtain ⟨c0, c1, c2, c3⟩ := (unhide HV2).cells
      obtain ⟨r0, r1, r2, r3⟩ := (unhide HR2).cells
      obtain ⟨z0, z1, z2, z3⟩ := (unhide HR2).free
      have HK : Hid (Keep (fun g => ImB a m ts g ∨ w.heap.size ≤ g) w ((((W2.setCell ⟨w.heap.size + 1, 0, none⟩ (.slice a.ro m.refs.length a.rc)).setCell ⟨w.heap.size + 1, 1, none⟩ (.slice a.tq m.table.length a.tc)).setCell ⟨w.heap.size + 1, 2, none⟩ (.slice a.so m.snaps.length a.sc)).setCell ⟨w.heap.size + 1, 3, none⟩ (.slice a.dq m.data.length a.dc))) := hide (by
        have k0 := (unhide HKW).trans ((unhide HK2).mono (fun g h => .inl h))
        exact (((k0.setCell (p := ⟨w.heap.size + 1, 0, none⟩) (.inr (Nat.le_succ _)) _).setCell (p := ⟨w.heap.size + 1, 1, none⟩) (.inr (Nat.le_succ _)) _).setCell (p := ⟨w.heap.size + 1, 2, none⟩) (.inr (Nat.le_succ _)) _).setCell (p := ⟨w.heap.size + 1, 3, none⟩) (.inr (Nat.le_succ _)) _)
      have HVN := hide ((((unhide HR2).set0 (.slice a.ro m.refs.length a.rc)).set1 (.slice a.tq m.table.length a.tc)).set2 (.slice a.so m.snaps.length a.sc) |>.set3 (.slice a.dq m.data.length a.dc))
      have HON := hide ((unhide HO2).keep (S := fun g => g = w.heap.size + 1) (((((Keep.refl (fun g => g = w.heap.size + 1) W2).setCell (p := ⟨w.heap.size + 1, 0, none⟩) rfl (.slice a.ro m.refs.length a.rc)).setCell (p := ⟨w.heap.size + 1, 1, none⟩) rfl (.slice a.tq m.table.length a.tc)).setCell (p := ⟨w.heap.size + 1, 2, none⟩) rfl (.slice a.so m.snaps.length a.sc)).setCell (p := ⟨w.heap.size + 1, 3, none⟩) rfl (.slice a.dq m.data.length a.dc)) (fun g hg he => by have := unhide HGE g (by simpa only [ImB, List.length_set] using hg); omega))
      go_wp2
      refine bodyPost_ret (res_im Try.results64 rfl (unhide HVN)) rfl ⟨rfl, ?_, ?_⟩
      · rw [← unhide HE]; exact unhide HON
      · exact keep_im (unhide HK) (unhide HGE)
    · have bz : (R - 1 == 0) = false := by simpa using hz
      have HE : Hid (({ m with refs := m.refs.set c (R - 1) } : Img) = imDrop m ((c : Int) + 2)) := hide ((unhide HDR).2 hz).symm
      obtain ⟨r0, r1, r2, r3⟩ := (unhide HR1).cells
      obtain ⟨z0, z1, z2, z3⟩ := (unhide HR1).free
      clear hz
      go_upto_region 7 with fail
      clear c0 hs
      obtain ⟨c0, _, _, _⟩ := (unhide HV1).cells
      have HK : Hid (Keep (fun g => ImB a m ts g ∨ w.heap.size ≤ g) w ((((W1.setCell ⟨w.heap.size + 1, 0, none⟩ (.slice a.ro m.refs.length a.rc)).setCell ⟨w.heap.size + 1, 1, none⟩ (.slice a.tq m.table.length a.tc)).setCell ⟨w.heap.size + 1, 2, none⟩ (.slice a.so m.snaps.length a.sc)).setCell ⟨w.heap.size + 1, 3, none⟩ (.slice a.dq m.data.length a.dc))) := hide (by
        have k0 := unhide HKW
        exact (((k0.setCell (p := ⟨w.heap.size + 1, 0, none⟩) (.inr (Nat.le_succ _)) _).setCell (p := ⟨w.heap.size + 1, 1, none⟩) (.inr (Nat.le_succ _)) _).setCell (p := ⟨w.heap.size + 1, 2, none⟩) (.inr (Nat.le_succ _)) _).setCell (p := ⟨w.heap.size + 1, 3, none⟩) (.inr (Nat.le_succ _)) _)
      have HVN := hide ((((unhide HR1).set0 (.slice a.ro m.refs.length a.rc)).set1 (.slice a.tq m.table.length a.tc)).set2 (.slice a.so m.snaps.length a.sc) |>.set3 (.slice a.dq m.data.length a.dc))
      have HON := hide ((unhide HO1).keep (S := fun g => g = w.heap.size + 1) (((((Keep.refl (fun g => g = w.heap.size + 1) W1).setCell (p := ⟨w.heap.size + 1, 0, none⟩) rfl (.slice a.ro m.refs.length a.rc)).setCell (p := ⟨w.heap.size + 1, 1, none⟩) rfl (.slice a.tq m.table.length a.tc)).setCell (p := ⟨w.heap.size + 1, 2, none⟩) rfl (.slice a.so m.snaps.length a.sc)).setCell (p := ⟨w.heap.size + 1, 3, none⟩) rfl (.slice a.dq m.data.length a.dc)) (fun g hg he => by have := unhide HGE g (by simpa only [ImB, List.length_set] using hg); omega))
      go_wp2
      refine bodyPost_ret (res_im Try.results64 rfl (unhide HVN)) rfl ⟨rfl, ?_, ?_⟩
      · rw [← unhide HE]; exact unhide HON
      · exact keep_im (unhide HK) (unhide HGE)

end Go.Proofs.Ytjoafbkcnnhdiab

/- Contracts of the model's l08Free, FreeCluster, RefSum. -/
namespace Go.Proofs.Ytjoafbkcnnhdiab
open Go.RowKit
set_option linter.unusedVariables false
set_option maxRecDepth 100000

theorem ctF_zeroS {xs : List Int} (h0 : ctF xs = 0) : ctB xs = true := by
  rcases ctF_cases xs with ⟨_, h, _⟩ | ⟨_, _, h, _⟩ | ⟨h, _⟩
  · rw [h0] at h; cases h
  · rw [h0] at h; cases h
  · exact h
/-- What l08Free answers. -/
def frI (xs : List Int) : Int := if frN xs < xs.length then (frN xs : Int) else -1
end Go.Proofs.Ytjoafbkcnnhdiab

/- A region that draws its order, met by an invariant: one step law an operation, whatever order is drawn. -/
namespace Go.Proofs.Ytjoafbkcnnhdiab
open Go.RowKit
set_option linter.unusedVariables false

section
variable {P : Program}
/-- Every operation waits for earlier ones alone. -/
def linB (l : List Oper) : Bool := (List.range l.length).all fun i => ((l[i]?).map fun o => o.after.all fun e => decide (e.on < i)).getD true
theorem linB_spec {l : List Oper} (h : linB l = true) {i : Nat} {o : Oper} (hi : l[i]? = some o) {e : Edge} (he : e ∈ o.after) : e.on < i := by
  have hl := (List.getElem?_eq_some_iff.1 hi).1
  have := List.all_eq_true.1 h i (List.mem_range.2 hl)
  rw [hi] at this
  simp only [Option.map_some, Option.getD_some] at this
  have := Array.all_eq_true_iff_forall_mem.1 this e he
  exact of_decide_eq_true this

/-- No operation is guarded. -/
def noG (l : List Oper) : Bool := l.all fun o => o.guard.isNone
theorem noG_spec {l : List Oper} (h : noG l = true) (i : Nat) (o : Oper) (hi : l[i]? = some o) : o.guard = none := by
  have := List.all_eq_true.1 h o (List.mem_of_getElem? hi)
  simpa using this
/-- What has been done, and one more. -/
def updD (d : Nat → Bool) (i : Nat) : Nat → Bool := fun j => d j || decide (j = i)

theorem wp_region_inv {id : Nat} {Q : Exit → Act → World → Prop} {a : Act} {w : World} {l : List Oper} (I : (Nat → Bool) → Act → World → Prop) (hm : P.follows .mixedOrders = true) (hl : linB l = true)
    (hg : ∀ (i : Nat) (o : Oper), l[i]? = some o → o.guard = none)
    (h0 : I (fun _ => false) a { w with drawn := w.drawn + 1 })
    (hs : ∀ (d : Nat → Bool) (a : Act) (w : World) (i : Nat) (o : Oper), I d a w → l[i]? = some o → d i = false → (∀ e ∈ o.after, Region.binds .any e = true → d e.on = true) → ∀ K : Act → World → Prop, (∀ a' w', I (updD d i) a' w' → K a' w') → o.wp P a w K Q)
    (he : ∀ (d : Nat → Bool) (a : Act) (w : World), I d a w → (∀ i, i < l.length → d i = true) → Q .normal a w) : (Code.region id l.toArray true).wp P Q a w := by
  refine wp_region_any hm ?_
  have key : ∀ (fuel : Nat) (listed : Array Bool) (a : Act) (w : World), listed.size = l.length → ((List.range l.length).filter fun i => !listed.getD i true).length ≤ fuel → I (fun j => listed.getD j true && decide (j < l.length)) a w → wpAny P .any l.toArray Q fuel listed a w := by
    intro fuel
    induction fuel with
    | zero =>
      intro listed a w hsz hn hI
      have hall : ∀ i, i < l.length → listed.getD i true = true := fun i hi => by
        cases h : listed.getD i true with
        | true => rfl
        | false =>
          have : i ∈ (List.range l.length).filter fun i => !listed.getD i true := List.mem_filter.2 ⟨List.mem_range.2 hi, by rw [h]; rfl⟩
          have := List.length_pos_of_mem this
          omega
      refine ⟨?_, he _ _ _ hI (fun i hi => by rw [hall i hi]; simp [hi])⟩
      rw [List.eq_nil_iff_forall_not_mem]
      intro i hi
      obtain ⟨h1, o, ho, _⟩ := mem_ready.1 hi
      have hil : i < l.length := by have := (Array.getElem?_eq_some_iff.1 ho).1; simpa using this
      rw [hall i hil] at h1
      cases h1
    | succ fuel ih =>
      intro listed a w hsz hn hI
      refine ⟨fun hr => he _ _ _ hI ?_, fun i hi => ?_⟩
      · have : ∀ n, ∀ i, i < n → i < l.length → listed.getD i true = true := by
          intro n
          induction n with
          | zero => intro i hi; omega
          | succ n ihn =>
            intro i hi hil
            by_cases hin : i < n
            · exact ihn i hin hil
            obtain rfl : i = n := by omega
            cases h : listed.getD i true with
            | true => rfl
            | false =>
              have hm' : i ∈ Region.ready .any l.toArray listed := mem_ready.2 ⟨h, l[i], by simp [hil], fun e he hb => by
                have hlt := linB_spec hl (List.getElem?_eq_getElem hil) he
                have h1 := ihn e.on hlt (by omega)
                have hz : e.on < listed.size := by omega
                rw [Array.getD_eq_getD_getElem?, Array.getElem?_eq_getElem hz] at h1 ⊢
                simpa only [Option.getD_some] using h1⟩
              rw [hr] at hm'
              cases hm'
        intro i hil
        rw [this (i + 1) i (by omega) hil]
        simp [hil]
      · obtain ⟨h1, o, ho, hp⟩ := mem_ready.1 hi
        have hil : i < l.length := by have := (Array.getElem?_eq_some_iff.1 ho).1; simpa using this
        have hoL : l[i]? = some o := by simpa using ho
        unfold wpOp
        simp only [ho]
        have hw : Region.wanted o (yielded l.toArray a.tmps) = true := by simp [Region.wanted, hg i o hoL]
        rw [if_pos hw]
        refine .inl (hs _ a w i o hI hoL (by rw [h1]; rfl) (fun e he hb => ?_) _ (fun a' w' hI' => ?_))
        · have h2 := hp e he hb
          have hlt := linB_spec hl hoL he
          have : e.on < listed.size := by omega
          rw [Array.getD_eq_getD_getElem?, Array.getElem?_eq_getElem this] at h2 ⊢
          simp only [Option.getD_some] at h2 ⊢
          rw [h2]
          simp
          omega
        · refine ih _ a' w' (by simpa using hsz) ?_ ?_
          · have hlt : ((List.range l.length).filter fun j => !(listed.setIfInBounds i true).getD j true).length < ((List.range l.length).filter fun j => !listed.getD j true).length := by
              have hsub : ((List.range l.length).filter fun j => !(listed.setIfInBounds i true).getD j true) = ((List.range l.length).filter fun j => !listed.getD j true).filter fun j => decide (j ≠ i) := by
                rw [List.filter_filter]
                congr 1
                funext j
                by_cases hji : j = i
                · subst hji
                  simp [Array.getD_eq_getD_getElem?, hsz, hil]
                · have : i ≠ j := fun e => hji e.symm
                  simp [Array.getD_eq_getD_getElem?, this, hji]
              rw [hsub]
              refine Nat.lt_of_le_of_ne (List.length_filter_le _ _) (fun e => ?_)
              have := List.length_filter_eq_length_iff.1 e i (List.mem_filter.2 ⟨List.mem_range.2 hil, by rw [h1]; rfl⟩)
              simp at this
            omega
          · have e : (fun j => (listed.setIfInBounds i true).getD j true && decide (j < l.length)) = updD (fun j => listed.getD j true && decide (j < l.length)) i := by
              funext j
              unfold updD
              by_cases hji : j = i
              · subst hji
                simp [Array.getD_eq_getD_getElem?, hsz, hil]
              · have : i ≠ j := fun e => hji e.symm
                simp [Array.getD_eq_getD_getElem?, this, hji]
            rw [e]
            exact hI'
  refine key _ _ _ _ (by simp) ?_ ?_
  · refine Nat.le_trans (List.length_filter_le _ _) ?_
    simp
  · have e : (fun j => (Array.replicate l.toArray.size false).getD j true && decide (j < l.length)) = fun _ => false := by
      funext j
      by_cases hj : j < l.length
      · simp [Array.getD_eq_getD_getElem?, hj]
      · simp [hj]
    rw [e]
    exact h0
/-- What has been done is closed: whatever an operation waits for has been done before it. -/
def Closed (l : List Oper) (d : Nat → Bool) : Prop := ∀ (j : Nat) (o : Oper), l[j]? = some o → d j = true → ∀ e ∈ o.after, Region.binds .any e = true → d e.on = true
/-- The second has been done where the first has. -/
def reachB (l : List Oper) : Nat → Nat → Nat → Bool
  | 0, j, i => decide (j = i)
  | f + 1, j, i => decide (j = i) || ((l[j]?).map fun o => o.after.any fun e => Region.binds .any e && reachB l f e.on i).getD false
theorem reach_done {l : List Oper} {d : Nat → Bool} (hc : Closed l d) : ∀ {f j i : Nat}, reachB l f j i = true → d j = true → d i = true
  | 0, j, i, h, hj => by
    simp only [reachB, decide_eq_true_eq] at h
    rwa [← h]
  | f + 1, j, i, h, hj => by
    simp only [reachB, Bool.or_eq_true, decide_eq_true_eq] at h
    rcases h with h | h
    · rwa [← h]
    · cases ho : l[j]? with
      | none => rw [ho] at h; simp at h
      | some o =>
        rw [ho] at h
        simp only [Option.map_some, Option.getD_some] at h
        rw [Array.any_eq_true] at h
        obtain ⟨n, hn, he⟩ := h
        rw [Bool.and_eq_true] at he
        exact reach_done hc he.2 (hc j o ho hj o.after[n] (Array.getElem_mem hn) he.1)
theorem not_yet {l : List Oper} {d : Nat → Bool} (hc : Closed l d) (f : Nat) {j i : Nat} (hr : reachB l f j i = true) (hi : d i = false) : d j = false := by
  cases h : d j with
  | false => rfl
  | true => rw [reach_done hc hr h] at hi; cases hi
theorem wp_region_inv2 {id : Nat} {Q : Exit → Act → World → Prop} {a : Act} {w : World} {l : List Oper} (I : (Nat → Bool) → Act → World → Prop) (hm : P.follows .mixedOrders = true) (hl : linB l = true)
    (hg : ∀ (i : Nat) (o : Oper), l[i]? = some o → o.guard = none)
    (h0 : I (fun _ => false) a { w with drawn := w.drawn + 1 })
    (hs : ∀ (d : Nat → Bool) (a : Act) (w : World) (i : Nat) (o : Oper), Closed l d → I d a w → l[i]? = some o → d i = false → (∀ e ∈ o.after, Region.binds .any e = true → d e.on = true) → ∀ K : Act → World → Prop, (∀ a' w', I (updD d i) a' w' → K a' w') → o.wp P a w K Q)
    (he : ∀ (d : Nat → Bool) (a : Act) (w : World), I d a w → (∀ i, i < l.length → d i = true) → Q .normal a w) : (Code.region id l.toArray true).wp P Q a w := by
  refine wp_region_inv (fun d a w => Closed l d ∧ I d a w) hm hl hg ⟨fun j o _ h => (by cases h), h0⟩ (fun d a w i o hI ho hd hp K hK => ?_) (fun d a w hI hall => he d a w hI.2 hall)
  refine hs d a w i o hI.1 hI.2 ho hd hp K (fun a' w' hI' => hK a' w' ⟨fun j oj hj hd' e he' hb => ?_, hI'⟩)
  simp only [updD, Bool.or_eq_true, decide_eq_true_eq] at hd' ⊢
  rcases hd' with hd' | rfl
  · exact .inl (hI.1 j oj hj hd' e he' hb)
  · rw [ho] at hj
    cases hj
    exact .inl (hp e he' hb)
end

end Go.Proofs.Ytjoafbkcnnhdiab
