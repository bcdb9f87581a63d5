import Derived.Test.YthnpooffhopnkaaRows
import Derived.Test.YthnpooffhopnkaaPart1
import Derived.Test.YthnpooffhopnkaaPart3
import Derived.Test.YthnpooffhopnkaaPart2
import Derived.Test.YthnpooffhopnkaaPart4
import Derived.Test.YthnpooffhopnkaaPart5
import Derived.Test.YthnpooffhopnkaaPart6
import Derived.Test.YthnpooffhopnkaaPart7
import Derived.WalkKit
import Derived.WalkSpells
import Derived.BigQuiet
import Derived.Deep.QuietTactic
import Derived.Deep.RegionWith
import Derived.Deep.RegionHeld3
import Derived.Laws.OwnMore
import Derived.ProofKit
import Derived.OpenShut
import Derived.Lib.SmallJoins
import Derived.KernelRfl
import Derived.LoopN
import Derived.Deep.CutRange

/- Contracts of the model's l10Value, ReadCluster, l10Drop. (Made ahead of stage 10.) -/
namespace Go.Proofs.Ythnpooffhopnkaa
open Go.RowKit
set_option linter.unusedVariables false
set_option maxRecDepth 100000

/-- A number of a row of the call's own: where it lies, and how it is set. -/
theorem OwnN.spot {w : World} {B c n k : Nat} {ao : Option Addr} {xs : List Int} (h : OwnN w B (.slice ao n k) xs) (hn : n = xs.length) (hc : c < xs.length) : ∃ g, ao = some ⟨g, 0, none⟩ ∧ w.cell? ⟨g, c, none⟩ = some (.int .i64 xs[c]) ∧ w.frozen? ⟨g, c, none⟩ = false ∧ Own (.slice ao n k) g ∧ ∀ y, OwnN (w.setCell ⟨g, c, none⟩ (.int .i64 y)) B (.slice ao n k) (xs.set c y) := by
  subst hn
  have hr := h.row
  have hp : 0 < xs.length := by omega
  obtain ⟨g, cap, cur, e, _, _⟩ := own_form hp (hr.row hp)
  simp only [Value.slice.injEq, true_and] at e
  obtain ⟨rfl, rfl⟩ := e
  refine ⟨g, rfl, ?_, (hr.row hp).frozenAt c, own_of hp rfl, fun y => ?_⟩
  · have := (hr.row hp).cellAt c (by omega)
    rwa [intV_get hc] at this
  · exact OwnN.mk' (own_setI hr hp y) (by simp)
/-- The three rows of numbers of an image: a place, and how it is set. -/
theorem OwnIm.setR {w : World} {B c : Nat} {a : Im4} {m : Img} {ts : List Value} (h : OwnIm w B a m ts) (hc : c < m.refs.length) : ∃ g, a.ro = some ⟨g, 0, none⟩ ∧ w.cell? ⟨g, c, none⟩ = some (.int .i64 m.refs[c]) ∧ w.frozen? ⟨g, c, none⟩ = false ∧ ImB a m ts g ∧ ∀ y, OwnIm (w.setCell ⟨g, c, none⟩ (.int .i64 y)) B a { m with refs := m.refs.set c y } ts := by
  obtain ⟨g, e, h1, h2, h3, h4⟩ := (h.rows.own (.slice a.ro m.refs.length a.rc, m.refs) (by simp [imRows])).spot rfl hc
  have hk : ∀ y, Keep (Own (.slice a.ro m.refs.length a.rc)) w (w.setCell ⟨g, c, none⟩ (.int .i64 y)) := fun y => (Keep.refl _ w).setCell (p := ⟨g, c, none⟩) h3 _
  refine ⟨g, e, h1, h2, .inl h3, fun y => ⟨h.len, h.s.keep (hk y) (own_apartT h.s (h.rows.own (.slice a.ro m.refs.length a.rc, m.refs) (by simp [imRows])).row (by decide)), ?_⟩⟩
  have := h.rows.turn (j := 0) rfl (hk y) (h4 y)
  simp only [imRows, List.length_set]
  exact this
theorem OwnIm.setT {w : World} {B c : Nat} {a : Im4} {m : Img} {ts : List Value} (h : OwnIm w B a m ts) (hc : c < m.table.length) : ∃ g, a.tq = some ⟨g, 0, none⟩ ∧ w.cell? ⟨g, c, none⟩ = some (.int .i64 m.table[c]) ∧ w.frozen? ⟨g, c, none⟩ = false ∧ ImB a m ts g ∧ ∀ y, OwnIm (w.setCell ⟨g, c, none⟩ (.int .i64 y)) B a { m with table := m.table.set c y } ts := by
  obtain ⟨g, e, h1, h2, h3, h4⟩ := (h.rows.own (.slice a.tq m.table.length a.tc, m.table) (by simp [imRows])).spot rfl hc
  have hk : ∀ y, Keep (Own (.slice a.tq m.table.length a.tc)) w (w.setCell ⟨g, c, none⟩ (.int .i64 y)) := fun y => (Keep.refl _ w).setCell (p := ⟨g, c, none⟩) h3 _
  refine ⟨g, e, h1, h2, .inr (.inl h3), fun y => ⟨h.len, h.s.keep (hk y) (own_apartT h.s (h.rows.own (.slice a.tq m.table.length a.tc, m.table) (by simp [imRows])).row (by decide)), ?_⟩⟩
  have := h.rows.turn (j := 1) rfl (hk y) (h4 y)
  simp only [imRows, List.length_set]
  exact this
theorem OwnIm.setD {w : World} {B c : Nat} {a : Im4} {m : Img} {ts : List Value} (h : OwnIm w B a m ts) (hc : c < m.data.length) : ∃ g, a.dq = some ⟨g, 0, none⟩ ∧ w.cell? ⟨g, c, none⟩ = some (.int .i64 m.data[c]) ∧ w.frozen? ⟨g, c, none⟩ = false ∧ ImB a m ts g ∧ ∀ y, OwnIm (w.setCell ⟨g, c, none⟩ (.int .i64 y)) B a { m with data := m.data.set c y } ts := by
  obtain ⟨g, e, h1, h2, h3, h4⟩ := (h.rows.own (.slice a.dq m.data.length a.dc, m.data) (by simp [imRows])).spot rfl hc
  have hk : ∀ y, Keep (Own (.slice a.dq m.data.length a.dc)) w (w.setCell ⟨g, c, none⟩ (.int .i64 y)) := fun y => (Keep.refl _ w).setCell (p := ⟨g, c, none⟩) h3 _
  refine ⟨g, e, h1, h2, .inr (.inr (.inl h3)), fun y => ⟨h.len, h.s.keep (hk y) (own_apartT h.s (h.rows.own (.slice a.dq m.data.length a.dc, m.data) (by simp [imRows])).row (by decide)), ?_⟩⟩
  have := h.rows.turn (j := 2) rfl (hk y) (h4 y)
  simp only [imRows, List.length_set]
  exact this
/-- A variable lies in no row of an image. -/
theorem OwnIm.other {w : World} {B x : Nat} {a : Im4} {m : Img} {ts : List Value} {v0 v1 v2 v3 : Value} (h : OwnIm w B a m ts) (hv : VarM w x 45 v0 v1 v2 v3) : ¬ ImB a m ts x := by
  intro hx
  rcases hx with h1 | h1 | h1 | h1 | ⟨t, ht, h1⟩
  · exact (h.rows.own (.slice a.ro m.refs.length a.rc, m.refs) (by simp [imRows])).row.other hv (by decide) h1
  · exact (h.rows.own (.slice a.tq m.table.length a.tc, m.table) (by simp [imRows])).row.other hv (by decide) h1
  · exact (h.rows.own (.slice a.dq m.data.length a.dc, m.data) (by simp [imRows])).row.other hv (by decide) h1
  · exact h.s.other hv (by decide) h1
  · have hm : t ∈ (ts.zip (m.snaps.map (·.table))).map Prod.fst := by rw [zip_fst _ _ (by rw [List.length_map, h.len])]; exact ht
    obtain ⟨p, hp, rfl⟩ := List.mem_map.1 hm
    exact (h.rows.own p (by simp [imRows, hp])).row.other hv (by decide) h1
theorem VarM.keepIm {w w' : World} {B x : Nat} {a : Im4} {m : Img} {ts : List Value} {v0 v1 v2 v3 : Value} (hv : VarM w x 45 v0 v1 v2 v3) (h : OwnIm w B a m ts) (hk : Keep (ImB a m ts) w w') : VarM w' x 45 v0 v1 v2 v3 := (hk.block x hv.lt (h.other hv)).trans hv
/-- An image that is owned is shown. -/
theorem OwnIm.shows {w : World} {B : Nat} {a : Im4} {m : Img} {ts : List Value} (h : OwnIm w B a m ts) (hz : ∀ s ∈ m.snaps, s.name.size ≤ maxLen ∧ s.table.length ≤ maxLen) : ImS w a m := by
  refine ⟨ownRN (h.rows.own (.slice a.ro m.refs.length a.rc, m.refs) (by simp [imRows])).row, ownRN (h.rows.own (.slice a.tq m.table.length a.tc, m.table) (by simp [imRows])).row, fun i hi => ?_, ownRN (h.rows.own (.slice a.dq m.data.length a.dc, m.data) (by simp [imRows])).row⟩
  have hp : 0 < m.snaps.length := by omega
  have hit : i < ts.length := by rw [← h.len]; exact hi
  have hs := h.s.row hp
  obtain ⟨g, cap, cur, e, _, _⟩ := own_form hp hs
  rw [e] at hs
  simp only [Value.slice.injEq, true_and] at e
  obtain ⟨e1, e2⟩ := e
  have hgs := snC_get (List.getElem?_eq_getElem hi) (List.getElem?_eq_getElem hit)
  have hm : (ts[i], m.snaps[i].table) ∈ imRows a m ts := by
    have : (ts.zip (m.snaps.map (·.table)))[i]? = some (ts[i], m.snaps[i].table) := by
      rw [List.getElem?_zip_eq_some]
      exact ⟨List.getElem?_eq_getElem hit, by simp [hi]⟩
    simp [imRows, List.mem_of_getElem? this]
  obtain ⟨tq, tc, et, ho⟩ := h.rows.own _ hm
  simp only at et ho
  refine ⟨g, 0, tq, tc, e1, ?_, ?_, ownRN ho, (hz _ (List.getElem_mem hi)).1, (hz _ (List.getElem_mem hi)).2⟩
  · rw [Nat.zero_add]; exact (hs.cellAt (i * 2) (by omega)).trans hgs.1
  · rw [Nat.zero_add]; exact (hs.cellAt (i * 2 + 1) (by omega)).trans (by rw [hgs.2, et])

/-- What l10Value answers. -/
theorem l10Value_any (a : Im4) (m : Img) (e : Int) (w : World) (he0 : 0 ≤ e) (he1 : e - 2 < m.data.length) (hd : m.data.length ≤ 1000) (hc : Is w a.dq m.data) :
    Calls Try.prog 107 #[imV a m, .int .i64 e] w fun r w' => r = .returned (.int .i64 (imVal m e)) ∧ Below w.heap.size w w' := by
  have HA := hide (Joins.below_alloc1 w (.cells #[.slice a.ro m.refs.length a.rc, .slice a.tq m.table.length a.tc, .slice a.so m.snaps.length a.sc, .slice a.dq m.data.length a.dc] 45))
  have HV := hide (VarM.new w 45 (.slice a.ro m.refs.length a.rc) (.slice a.tq m.table.length a.tc) (.slice a.so m.snaps.length a.sc) (.slice a.dq m.data.length a.dc))
  have HC := hide (hc.below (unhide HA))
  clear hc
  by_cases h2 : e < 2
  · have HE : Hid (imVal m e = 0) := hide (if_pos h2)
    go_enter Try.func107, Try.ntmps107
    go_wp2
    go_ret
    exact ⟨ret_int (unhide HE).symm, unhide HA⟩
  · obtain ⟨c, hcc⟩ : ∃ c : Nat, e = (c : Int) + 2 := ⟨(e - 2).toNat, by omega⟩
    subst hcc
    have hcl : c < m.data.length := by omega
    have HE : Hid (imVal m ((c : Int) + 2) = m.data[c]) := hide (by
      rw [imVal, if_neg h2, show ((c : Int) + 2 - 2).toNat = c by omega]
      simp [List.getD, hcl])
    have hw2 : IntKind.i64.wrap ((c : Int) + 2 - 2) = (c : Int) := by rw [IntKind.wrap_i64]; omega
    have hcli : (c : Int) < (m.data.length : Int) := by omega
    go_enter Try.func107, Try.ntmps107
    go_upto_region 1 with fail
    revert HA HV HC
    generalize (w.alloc _) = W0
    intro HA HV HC
    obtain ⟨c0, c1, c2, c3⟩ := (unhide HV).cells
    obtain ⟨b, off, ed, hx⟩ := (unhide HC) c hcl
    rw [ed] at c3
    clear ed
    go_wp2
    go_ret
    exact ⟨ret_int (unhide HE).symm, unhide HA⟩

theorem drop_at {m : Img} {c : Nat} (hr : c < m.refs.length) (hd : c < m.data.length) : (m.refs[c] - 1 = 0 → imDrop m ((c : Int) + 2) = { m with refs := m.refs.set c (m.refs[c] - 1), data := m.data.set c 0 }) ∧ (¬ m.refs[c] - 1 = 0 → imDrop m ((c : Int) + 2) = { m with refs := m.refs.set c (m.refs[c] - 1) }) := by
  have e : ((c : Int) + 2 - 2).toNat = c := by omega
  have g : m.refs.getD c 0 = m.refs[c] := by simp [List.getD, hr]
  unfold imDrop
  rw [if_neg (by omega)]
  simp only [e, g]
  exact ⟨fun h => by rw [if_pos h], fun h => by rw [if_neg h]⟩
/-- What was new need not be told. -/
theorem keep_im {w w' : World} {a : Im4} {m : Img} {ts : List Value} (h : Keep (fun g => ImB a m ts g ∨ w.heap.size ≤ g) w w') (hg : ∀ g, ImB a m ts g → g < w.heap.size) : Keep (ImB a m ts) w w' :=
  ⟨h.os, h.tape, h.output, h.size, fun k hk hn => h.block k hk (fun hS => by
    rcases hS with hS | hS
    · exact hn hS
    · omega)⟩

end Go.Proofs.Ythnpooffhopnkaa

/- Guests in memory: shown, and owned. -/
namespace Go.Proofs.Ythnpooffhopnkaa
open Go.RowKit
set_option linter.unusedVariables false
set_option maxRecDepth 100000

/-- Where a guest's two lists lie. -/
structure Gs4 where
  vo : Option Addr
  vc : Nat
  so : Option Addr
  sc : Nat
abbrev gsV (a : Gs4) (g : Gst) : Value := .agg #[.slice a.vo g.vals.length a.vc, .slice a.so g.shots.length a.sc]
/-- A guest is shown. -/
structure GsS (w : World) (a : Gs4) (g : Gst) : Prop where
  v : Is w a.vo g.vals
  s : Sns w a.so g.shots
theorem GsS.below {w w' : World} {a : Gs4} {g : Gst} (h : GsS w a g) (hb : Below w.heap.size w w') : GsS w' a g := ⟨h.v.below hb, h.s.below hb⟩
def gsSz (g : Gst) : Nat := g.vals.length + (g.shots.length + snSz g.shots)
/-- Its rows of numbers. -/
def gsRows (a : Gs4) (g : Gst) (ts : List Value) : List (Value × List Int) := (.slice a.vo g.vals.length a.vc, g.vals) :: ts.zip (g.shots.map (·.table))
/-- A guest of the call's own. -/
structure OwnGs (w : World) (B : Nat) (a : Gs4) (g : Gst) (ts : List Value) : Prop where
  len : g.shots.length = ts.length
  s : OwnS w B 69 2 (.slice a.so g.shots.length a.sc) g.shots.length (snC g.shots ts)
  rows : OwnA w B (gsRows a g ts)
theorem OwnGs.below {w w' : World} {B : Nat} {a : Gs4} {g : Gst} {ts : List Value} (h : OwnGs w B a g ts) (hb : Below w.heap.size w w') : OwnGs w' B a g ts := ⟨h.len, h.s.below hb, h.rows.below hb⟩
theorem OwnGs.base {w : World} {B B' : Nat} {a : Gs4} {g : Gst} {ts : List Value} (h : OwnGs w B a g ts) (hB : B' ≤ B) : OwnGs w B' a g ts := ⟨h.len, h.s.base hB, h.rows.base hB⟩
theorem OwnGs.zero (w : World) (B : Nat) : OwnGs w B ⟨none, 0, none, 0⟩ gs0 [] := ⟨rfl, .inl ⟨rfl, rfl, none, 0, rfl⟩, OwnA.one ⟨none, 0, rfl, .inl ⟨rfl, rfl, none, rfl⟩⟩⟩
/-- The blocks that a guest has. -/
def GsB (a : Gs4) (g : Gst) (ts : List Value) (x : Nat) : Prop := Own (.slice a.vo g.vals.length a.vc) x ∨ Own (.slice a.so g.shots.length a.sc) x ∨ ∃ t ∈ ts, Own t x
theorem OwnGs.mem {w : World} {B : Nat} {a : Gs4} {g : Gst} {ts : List Value} (h : OwnGs w B a g ts) {t : Value} (ht : t ∈ ts) : ∃ p ∈ ts.zip (g.shots.map (·.table)), p.1 = t := by
  have hm : t ∈ (ts.zip (g.shots.map (·.table))).map Prod.fst := by rw [zip_fst _ _ (by rw [List.length_map, h.len])]; exact ht
  obtain ⟨p, hp, e⟩ := List.mem_map.1 hm
  exact ⟨p, hp, e⟩
theorem OwnGs.ge {w : World} {B : Nat} {a : Gs4} {g : Gst} {ts : List Value} (h : OwnGs w B a g ts) : ∀ x, GsB a g ts x → B ≤ x ∧ x < w.heap.size := by
  intro x hg
  rcases hg with h1 | h1 | ⟨t, ht, h1⟩
  · exact (h.rows.own (.slice a.vo g.vals.length a.vc, g.vals) (by simp [gsRows])).ge x h1
  · exact h.s.ge x h1
  · obtain ⟨p, hp, rfl⟩ := h.mem ht
    exact (h.rows.own p (by simp [gsRows, hp])).ge x h1
theorem OwnGs.keep {w w' : World} {B : Nat} {a : Gs4} {g : Gst} {ts : List Value} {S : Nat → Prop} (h : OwnGs w B a g ts) (hk : Keep S w w') (hs : ∀ x, GsB a g ts x → ¬ S x) : OwnGs w' B a g ts := by
  refine ⟨h.len, h.s.keep hk (fun x hx => hs x (.inr (.inl hx))), h.rows.keep hk (fun r hr x hx => hs x ?_)⟩
  unfold gsRows at hr
  simp only [List.mem_cons] at hr
  rcases hr with rfl | hr
  · exact .inl hx
  · exact .inr (.inr ⟨r.1, (List.of_mem_zip (a := r.1) (b := r.2) hr).1, hx⟩)
theorem OwnGs.setCell {w : World} {B : Nat} {a : Gs4} {g : Gst} {ts : List Value} (h : OwnGs w B a g ts) {p : Addr} (hp : p.block < B) (u : Value) : OwnGs (w.setCell p u) B a g ts := ⟨h.len, h.s.setCell hp u, h.rows.setCell hp u⟩
/-- A guest that is owned is shown. -/
theorem OwnGs.shows {w : World} {B : Nat} {a : Gs4} {g : Gst} {ts : List Value} (h : OwnGs w B a g ts) (hz : ∀ s ∈ g.shots, s.name.size ≤ maxLen ∧ s.table.length ≤ maxLen) : GsS w a g := by
  refine ⟨ownRN (h.rows.own (.slice a.vo g.vals.length a.vc, g.vals) (by simp [gsRows])).row, fun i hi => ?_⟩
  have hp : 0 < g.shots.length := by omega
  have hit : i < ts.length := by rw [← h.len]; exact hi
  have hs := h.s.row hp
  obtain ⟨b, cap, cur, e, _, _⟩ := own_form hp hs
  rw [e] at hs
  simp only [Value.slice.injEq, true_and] at e
  obtain ⟨e1, e2⟩ := e
  have hgs := snC_get (List.getElem?_eq_getElem hi) (List.getElem?_eq_getElem hit)
  have hm : (ts[i], g.shots[i].table) ∈ gsRows a g ts := by
    have : (ts.zip (g.shots.map (·.table)))[i]? = some (ts[i], g.shots[i].table) := by
      rw [List.getElem?_zip_eq_some]
      exact ⟨List.getElem?_eq_getElem hit, by simp [hi]⟩
    simp [gsRows, List.mem_of_getElem? this]
  obtain ⟨tq, tc, et, ho⟩ := h.rows.own _ hm
  simp only at et ho
  refine ⟨b, 0, tq, tc, e1, ?_, ?_, ownRN ho, (hz _ (List.getElem_mem hi)).1, (hz _ (List.getElem_mem hi)).2⟩
  · rw [Nat.zero_add]; exact (hs.cellAt (i * 2) (by omega)).trans hgs.1
  · rw [Nat.zero_add]; exact (hs.cellAt (i * 2 + 1) (by omega)).trans (by rw [hgs.2, et])
/-- A variable of two lists. -/
def VarG (w : World) (x : Nat) (t : TypeId) (v0 v1 : Value) : Prop := w.heap[x]? = some (.cells #[v0, v1] t (0, 0))
theorem VarG.lt {w : World} {x t : Nat} {v0 v1 : Value} (k : VarG w x t v0 v1) : x < w.heap.size := (Array.getElem?_eq_some_iff.1 k).1
theorem VarG.cells {w : World} {x t : Nat} {v0 v1 : Value} (k : VarG w x t v0 v1) : w.cell? ⟨x, 0, none⟩ = some v0 ∧ w.cell? ⟨x, 1, none⟩ = some v1 := ⟨by rw [Joins.cell_of_block k]; rfl, by rw [Joins.cell_of_block k]; rfl⟩
theorem VarG.free {w : World} {x t : Nat} {v0 v1 : Value} (k : VarG w x t v0 v1) : w.frozen? ⟨x, 0, none⟩ = false ∧ w.frozen? ⟨x, 1, none⟩ = false := ⟨Joins.unfrozen_of_block k 0, Joins.unfrozen_of_block k 1⟩
theorem VarG.below {w w' : World} {x t : Nat} {v0 v1 : Value} (k : VarG w x t v0 v1) (hb : Below w.heap.size w w') : VarG w' x t v0 v1 := by
  unfold VarG; rw [hb.block x k.lt]; exact k
theorem VarG.new (w : World) (t : TypeId) (v0 v1 : Value) : VarG (w.alloc (.cells #[v0, v1] t)) w.heap.size t v0 v1 := heap_alloc_new w _
theorem VarG.other {w : World} {x t : Nat} {v0 v1 : Value} (h : VarG w x t v0 v1) {p : Addr} (hp : x ≠ p.block) (u : Value) : VarG (w.setCell p u) x t v0 v1 := by
  unfold VarG; rw [Below.heap_setCell w p u x hp]; exact h
theorem VarG.set0 {w : World} {x t : Nat} {v0 v1 : Value} (h : VarG w x t v0 v1) (u : Value) : VarG (w.setCell ⟨x, 0, none⟩ u) x t u v1 := Joins.block_setCell (i := 0) h u
theorem VarG.set1 {w : World} {x t : Nat} {v0 v1 : Value} (h : VarG w x t v0 v1) (u : Value) : VarG (w.setCell ⟨x, 1, none⟩ u) x t v0 u := Joins.block_setCell (i := 1) h u
theorem VarG.at {w : World} {x y t : Nat} {v0 v1 : Value} (h : VarG w x t v0 v1) (e : x = y) : VarG w y t v0 v1 := e ▸ h
theorem OwnGs.otherV {w : World} {B x t : Nat} {a : Gs4} {g : Gst} {ts : List Value} {c : Array Value} {f : Nat × Nat} (h : OwnGs w B a g ts) (hv : w.heap[x]? = some (.cells c t f)) (h1 : t ≠ 3) (h2 : t ≠ 69) : ¬ GsB a g ts x := by
  intro hx
  rcases hx with k1 | k1 | ⟨u, hu, k1⟩
  · exact (h.rows.own (.slice a.vo g.vals.length a.vc, g.vals) (by simp [gsRows])).row.other hv h1 k1
  · exact h.s.other hv h2 k1
  · obtain ⟨p, hp, rfl⟩ := h.mem hu
    exact (h.rows.own p (by simp [gsRows, hp])).row.other hv h1 k1
theorem VarG.keepGs {w w' : World} {B x t : Nat} {a : Gs4} {g : Gst} {ts : List Value} {v0 v1 : Value} (hv : VarG w x t v0 v1) (h : OwnGs w B a g ts) (h1 : t ≠ 3) (h2 : t ≠ 69) (hk : Keep (GsB a g ts) w w') : VarG w' x t v0 v1 := (hk.block x hv.lt (h.otherV hv h1 h2)).trans hv

end Go.Proofs.Ythnpooffhopnkaa

/- A guest that came in, opened: what its two lists show. -/
namespace Go.Proofs.Ythnpooffhopnkaa
open Go.ChangeShapes Go.WideShapes Go.ChangeAt Go.RowKit Go.Deep
set_option linter.unusedVariables false
set_option maxRecDepth 100000

theorem cIntG : Try.prog.cellsOf 3 = 1 := by kernel_rfl
theorem cStrG : Try.prog.cellsOf 9 = 1 := by kernel_rfl
theorem cIntsG : Try.prog.cellsOf 22 = 1 := by kernel_rfl
theorem cShotG : Try.prog.cellsOf 101 = 2 := by kernel_rfl
theorem cGstG : Try.prog.cellsOf 25 = 2 := by kernel_rfl
/-- A guest that came in. -/
theorem open_guest {H : Type} {enc : TypeId × Value → H} {w : World} {base b0 : Nat} {r : Reach} {spare : Nat → Bool} {held : Bool} {v : Value} {d : DataW H} {p : List MemPlace}
    (hv : Value.okWide Try.prog w r b0 25 v) (h : DataW.Trod enc Try.prog w base spare held 25 v d p) :
    ∃ (a : Gs4) (g : Gst), v = gsV a g ∧ GsL g ∧ GsS w a g := by
  obtain ⟨c0, c1, y0, y1, n, rfl, _, _, t0, t1⟩ := Joins.open_agg2 Try.underlying25 (by kernel_rfl) cGstG hv h
  obtain ⟨vo, vc, vs, rfl, lv, hvs⟩ := open_IsV Try.underlying22 Try.underlying3 cIntG t0
  obtain ⟨so, sc, ss, rfl, ls, hs⟩ := open_SnsV Try.underlying23 Try.underlying101 Try.underlying9 Try.underlying22 Try.underlying3 ⟨rfl, rfl⟩ ⟨rfl, rfl⟩ cStrG cIntsG cIntG cShotG t1
  exact ⟨⟨vo, vc, so, sc⟩, ⟨vs, ss⟩, rfl, ⟨lv, ls⟩, ⟨hvs, hs⟩⟩

end Go.Proofs.Ythnpooffhopnkaa

/- Contracts of the laws' sizes of images: szIntS, szSnap, szSnapS, szImage. (Made ahead of stage 10.) -/
namespace Go.Proofs.Ythnpooffhopnkaa
open Go.RowKit
set_option linter.unusedVariables false
set_option maxRecDepth 100000

theorem szIntS_any (ao : Option Addr) (cap n : Nat) (left : Int) (w : World) (hn : n ≤ maxLen) (h0 : 0 ≤ left) (h1 : left ≤ 1048576) :
    Calls Try.prog 32 #[.slice ao n cap, .int .i64 left] w fun e w' => ∃ r : Int, e = .returned (.int .i64 r) ∧ -1 ≤ r ∧ r ≤ left ∧ (0 ≤ r → r + (n : Int) = left) ∧ w' = w := by
  unfold maxLen at hn
  by_cases h : left - (n : Int) < 0
  · go_enter Try.func32, Try.ntmps32
    go_wp2
    go_ret
    exact ⟨-1, rfl, by omega, by omega, fun h => by omega, rfl⟩
  · go_enter Try.func32, Try.ntmps32
    go_wp2
    go_ret
    exact ⟨left - (n : Int), rfl, by omega, by omega, fun h => by omega, rfl⟩

set_option maxHeartbeats 800000 in
theorem szSnap_any (s : Snp) (tq : Option Addr) (tc : Nat) (left : Int) (w : World) (hz : s.name.size ≤ maxLen) (hn : s.table.length ≤ maxLen) (h0 : 0 ≤ left) (h1 : left ≤ 1048576) :
    Calls Try.prog 79 #[snV s tq tc, .int .i64 left] w fun e w' => ∃ r : Int, e = .returned (.int .i64 r) ∧ -1 ≤ r ∧ r ≤ left ∧ (0 ≤ r → r + (sn1 s : Int) = left) ∧ Below w.heap.size w w' := by
  have HN := hide hn
  have HA := hide (Joins.below_alloc1 w (.cells #[.string s.name, .slice tq s.table.length tc] 107))
  unfold maxLen at hz
  by_cases h : left - (s.name.size : Int) < 0
  · go_enter Try.func79, Try.ntmps79
    go_wp2
    go_ret
    exact ⟨-1, rfl, by omega, by omega, fun h => by omega, unhide HA⟩
  · go_enter Try.func79, Try.ntmps79
    go_wp2_with fail
    refine (szIntS_any tq tc s.table.length (left - (s.name.size : Int)) _ (unhide HN) (by omega) (by omega)).mono ?_
    rintro e w1 ⟨r, rfl, r0, r1, r2, hw⟩
    replace hw := hw.symm
    subst hw
    by_cases hr : r < 0
    · go_wp2
      go_ret
      exact ⟨-1, rfl, by omega, by omega, fun h => by omega, unhide HA⟩
    · have HR : Hid (r + (sn1 s : Int) = left) := hide (by have := r2 (by omega); unfold sn1; omega)
      clear r2
      go_wp2
      go_ret
      exact ⟨r, rfl, by omega, by omega, fun _ => unhide HR, unhide HA⟩

set_option maxHeartbeats 1600000 in
theorem szSnapS_any (ao : Option Addr) (cap : Nat) (ss : List Snp) (left : Int) (w : World) (hn : ss.length ≤ maxLen) (h0 : 0 ≤ left) (h1 : left ≤ 1048576) (hc : Sns w ao ss) :
    Calls Try.prog 48 #[.slice ao ss.length cap, .int .i64 left] w fun e w' => ∃ r : Int, e = .returned (.int .i64 r) ∧ -1 ≤ r ∧ r ≤ left ∧ (0 ≤ r → r + ((ss.length + snSz ss : Nat) : Int) = left) ∧ Below w.heap.size w w' := by
  have HC := hide hc
  clear hc
  unfold maxLen at hn
  by_cases h : left - (ss.length : Int) < 0
  · go_enter Try.func48, Try.ntmps48
    go_wp2
    go_ret
    exact ⟨-1, rfl, by omega, by omega, fun h => by omega, Below.refl _ _⟩
  go_enter Try.func48, Try.ntmps48
  go_wp2
  go_loopw [1, 5] (fun l i wr => ∃ (k : Nat) (r : Int), k ≤ ss.length ∧ i = .int .i64 k ∧ l = .int .i64 r ∧ 0 ≤ r ∧ Hid (r + ((ss.length + snSz (ss.take k) : Nat) : Int) = left) ∧ Hid (Below w.heap.size w wr)) (fun _ i _ => ss.length - (intOf i).toNat)
  case atStart => exact ⟨0, left - (ss.length : Int), Nat.zero_le _, rfl, rfl, by omega, hide (by simp [snSz]), hide (Below.refl _ _)⟩
  case round =>
    obtain ⟨k, r, hk, rfl, rfl, r0, HR, HB⟩ := hrel
    have hrl : r ≤ 1048576 := by have := unhide HR; omega
    by_cases hlt : k < ss.length
    · obtain ⟨b, off, tq, tc, rfl, hc0, hc1, _, hz, hm⟩ := (unhide HC).below (unhide HB) k hlt
      have HZ := hide hz
      have HM := hide hm
      have HS := hide (snSz_take hlt)
      clear hz hm
      go_wp2_with fail
      refine (szSnap_any ss[k] tq tc r _ (unhide HZ) (unhide HM) r0 hrl).mono ?_
      rintro e w1 ⟨r', rfl, q0, q1, q2, hb⟩
      have HB2 := hide (fr (unhide HB) hb)
      clear hb hc0 hc1
      by_cases hr : r' < 0
      · go_wp2
        go_ret
        exact ⟨-1, rfl, by omega, by omega, fun h => by omega, unhide HB2⟩
      · have HR2 : Hid (r' + ((ss.length + snSz (ss.take (k + 1)) : Nat) : Int) = left) := hide (by have a := q2 (by omega); have b := unhide HR; rw [unhide HS]; omega)
        clear q2
        go_wp2
        go_roundw
        case rel => exact ⟨k + 1, r', by omega, by go_num, rfl, by omega, HR2, HB2⟩
        case measure => simp [intOf]; omega
    · have HR2 : Hid (r + ((ss.length + snSz ss : Nat) : Int) = left) := hide (by have := unhide HR; rw [List.take_of_length_le (by omega)] at this; exact this)
      go_wp2
      go_ret
      exact ⟨r, rfl, by omega, by have := unhide HR; omega, fun _ => unhide HR2, unhide HB⟩

set_option maxHeartbeats 1600000 in
theorem szImage_any (a : Im4) (m : Img) (left : Int) (w : World) (hr : m.refs.length ≤ maxLen) (ht : m.table.length ≤ maxLen) (hs : m.snaps.length ≤ maxLen) (hd : m.data.length ≤ maxLen) (h0 : 0 ≤ left) (h1 : left ≤ 1048576) (hc : ImS w a m) :
    Calls Try.prog 17 #[imV a m, .int .i64 left] w fun e w' => ∃ r : Int, e = .returned (.int .i64 r) ∧ -1 ≤ r ∧ r ≤ left ∧ (0 ≤ r → r + (imSz m : Int) = left) ∧ Below w.heap.size w w' := by
  have HA := hide (Joins.below_alloc1 w (.cells #[.slice a.ro m.refs.length a.rc, .slice a.tq m.table.length a.tc, .slice a.so m.snaps.length a.sc, .slice a.dq m.data.length a.dc] 40))
  have HV := hide (heap_alloc_new w (.cells #[.slice a.ro m.refs.length a.rc, .slice a.tq m.table.length a.tc, .slice a.so m.snaps.length a.sc, .slice a.dq m.data.length a.dc] 40))
  have HC := hide (hc.below (unhide HA))
  have HR := hide hr
  have HT := hide ht
  have HS := hide hs
  have HD := hide hd
  clear hc hr ht hs hd
  go_enter Try.func17, Try.ntmps17
  go_wp2_with fail
  refine (szIntS_any a.ro a.rc m.refs.length left _ (unhide HR) h0 h1).mono ?_
  rintro e w1 ⟨r, rfl, r0, r1, r2, hw⟩
  replace hw := hw.symm
  subst hw
  by_cases hr : r < 0
  · go_wp2
    go_ret
    exact ⟨-1, rfl, by omega, by omega, fun h => by omega, unhide HA⟩
  have q1 := r2 (by omega)
  clear r2
  go_wp2_with fail
  refine (szIntS_any a.tq a.tc m.table.length r _ (unhide HT) (by omega) (by omega)).mono ?_
  rintro e w1 ⟨r', rfl, s0, s1, s2, hw⟩
  replace hw := hw.symm
  subst hw
  by_cases hr' : r' < 0
  · go_wp2
    go_ret
    exact ⟨-1, rfl, by omega, by omega, fun h => by omega, unhide HA⟩
  have q2 := s2 (by omega)
  clear s2
  go_wp2_with fail
  refine (szSnapS_any a.so a.sc m.snaps r' _ (unhide HS) (by omega) (by omega) (unhide HC).s).mono ?_
  rintro e w2 ⟨r3, rfl, u0, u1, u2, hb⟩
  have HB2 := hide (fr (unhide HA) hb)
  have hcell : w2.cell? ⟨w.heap.size, 3, none⟩ = some (.slice a.dq m.data.length a.dc) := by
    rw [hb.cell (by simp), Joins.cell_of_block (unhide HV)]; rfl
  clear hb
  by_cases hr3 : r3 < 0
  · go_wp2
    go_ret
    exact ⟨-1, rfl, by omega, by omega, fun h => by omega, unhide HB2⟩
  have q3 := u2 (by omega)
  clear u2
  go_wp2_with fail
  refine (szIntS_any a.dq a.dc m.data.length r3 _ (unhide HD) (by omega) (by omega)).mono ?_
  rintro e w3 ⟨r4, rfl, v0, v1, v2, hw⟩
  replace hw := hw.symm
  subst hw
  by_cases hr4 : r4 < 0
  · go_wp2
    go_ret
    exact ⟨-1, rfl, by omega, by omega, fun h => by omega, unhide HB2⟩
  have q4 := v2 (by omega)
  have HQ : Hid (r4 + (imSz m : Int) = left) := hide (by unfold imSz; omega)
  clear v2 q1 q2 q3 q4
  go_wp2
  go_ret
  exact ⟨r4, rfl, by omega, by omega, fun _ => unhide HQ, unhide HB2⟩

end Go.Proofs.Ythnpooffhopnkaa

/- Contracts of the laws' comparison of images that are alike: eqSnap, eqSnapS, eqImage. (Made ahead of stage 10.) -/
namespace Go.Proofs.Ythnpooffhopnkaa
open Go.RowKit
set_option linter.unusedVariables false
set_option maxRecDepth 100000

theorem eqInts_same (ao bo : Option Addr) (ca cb : Nat) (xs : List Int) (w : World) (hl : xs.length ≤ maxLen) (hc : Is w ao xs) (hd : Is w bo xs) :
    Calls Try.prog 40 #[.slice ao xs.length ca, .slice bo xs.length cb] w fun e w' => e = .returned (.bool true) ∧ Below w.heap.size w w' := by
  refine (eqIntS_any ao bo ca cb xs xs w hl hc hd).mono ?_
  rintro e w' ⟨rfl, hb⟩
  rw [eqNB_self]
  exact ⟨rfl, hb⟩

set_option maxHeartbeats 800000 in
theorem eqSnap_same (s : Snp) (p q : Option Addr) (pc qc : Nat) (w : World) (hn : s.table.length ≤ maxLen) (h1 : Is w p s.table) (h2 : Is w q s.table) :
    Calls Try.prog 89 #[snV s p pc, snV s q qc] w fun e w' => e = .returned (.bool true) ∧ Below w.heap.size w w' := by
  have HA := hide (Joins.below_alloc2 w (.cells #[.string s.name, .slice p s.table.length pc] 83) (.cells #[.string s.name, .slice q s.table.length qc] 83))
  have H1 := hide (h1.below (unhide HA))
  have H2 := hide (h2.below (unhide HA))
  have HN := hide hn
  clear h1 h2 hn
  go_enter Try.func89, Try.ntmps89
  go_wp2_with fail
  refine (eqInts_same p q pc qc s.table _ (unhide HN) (unhide H1) (unhide H2)).mono ?_
  rintro e w1 ⟨rfl, hb⟩
  have HB := hide (fr (unhide HA) hb)
  clear hb
  go_wp2
  go_ret
  exact ⟨rfl, unhide HB⟩

set_option maxHeartbeats 1600000 in
theorem eqSnapS_same (ao bo : Option Addr) (ca cb : Nat) (ss : List Snp) (w : World) (hn : ss.length ≤ maxLen) (h1 : Sns w ao ss) (h2 : Sns w bo ss) :
    Calls Try.prog 54 #[.slice ao ss.length ca, .slice bo ss.length cb] w fun e w' => e = .returned (.bool true) ∧ Below w.heap.size w w' := by
  have H1 := hide h1
  have H2 := hide h2
  clear h1 h2
  unfold maxLen at hn
  go_enter Try.func54, Try.ntmps54
  go_wp2
  go_loopw [5] (fun i wr => ∃ k : Nat, k ≤ ss.length ∧ i = .int .i64 k ∧ Hid (Below w.heap.size w wr)) (fun i _ => ss.length - (intOf i).toNat)
  case atStart => exact ⟨0, Nat.zero_le _, rfl, hide (Below.refl _ _)⟩
  case round =>
    obtain ⟨k, hk, rfl, HB⟩ := hrel
    by_cases hlt : k < ss.length
    · obtain ⟨b, off, tq, tc, rfl, hc0, hc1, i1, _, hm⟩ := (unhide H1).below (unhide HB) k hlt
      obtain ⟨b', off', tq', tc', rfl, hd0, hd1, i2, _, _⟩ := (unhide H2).below (unhide HB) k hlt
      have hki : (k : Int) < (ss.length : Int) := by omega
      have hk0 : (0 : Int) ≤ (k : Int) := by omega
      have HCALL : Hid (∀ W, Below wr.heap.size wr W → Calls Try.prog 89 #[snV ss[k] tq tc, snV ss[k] tq' tc'] W fun e w' => e = .returned (.bool true) ∧ Below W.heap.size W w') := hide (fun W hW => eqSnap_same ss[k] tq tq' tc tc' W hm (i1.below hW) (i2.below hW))
      have l1 := World.block_lt_of_cell? _ _ hc0
      have l2 := World.block_lt_of_cell? _ _ hd0
      clear i1 i2 hm
      go_wp2_with fail
      go_region_held3 (fun w' => w'.cell? ⟨b, off + k * 2, none⟩ = some (.string ss[k].name) ∧ w'.cell? ⟨b, off + k * 2 + 1, none⟩ = some (.slice tq ss[k].table.length tc) ∧ w'.cell? ⟨b', off' + k * 2, none⟩ = some (.string ss[k].name) ∧ w'.cell? ⟨b', off' + k * 2 + 1, none⟩ = some (.slice tq' ss[k].table.length tc')) (go_keep)
        ((go_at_call 89; refine (unhide HCALL _ (by exact (Below.refl _ wr).drew)).mono ?_; rintro e w1 ⟨rfl, hb⟩; have HB1 := hide (fr (Below.refl _ wr).drew hb); have m0 := ((unhide HB1).cell (p := ⟨b, off + k * 2, none⟩) l1).trans hc0; have m1 := ((unhide HB1).cell (p := ⟨b, off + k * 2 + 1, none⟩) l1).trans hc1; have m2 := ((unhide HB1).cell (p := ⟨b', off' + k * 2, none⟩) l2).trans hd0; have m3 := ((unhide HB1).cell (p := ⟨b', off' + k * 2 + 1, none⟩) l2).trans hd1; clear hb))
      all_goals
        go_wp2
        go_roundw
        case rel => exact ⟨k + 1, by omega, by go_num, hide (fr (unhide HB) (unhide HB1))⟩
        case measure => simp [intOf]; omega
    · go_wp2
      go_ret
      exact ⟨rfl, unhide HB⟩

set_option maxHeartbeats 1600000 in
theorem eqImage_same (a b : Im4) (m : Img) (w : World) (hr : m.refs.length ≤ maxLen) (ht : m.table.length ≤ maxLen) (hs : m.snaps.length ≤ maxLen) (hd : m.data.length ≤ maxLen) (h1 : ImS w a m) (h2 : ImS w b m) :
    Calls Try.prog 21 #[imV a m, imV b m] w fun e w' => e = .returned (.bool true) ∧ Below w.heap.size w w' := by
  have HA := hide (Joins.below_alloc2 w (.cells #[.slice a.ro m.refs.length a.rc, .slice a.tq m.table.length a.tc, .slice a.so m.snaps.length a.sc, .slice a.dq m.data.length a.dc] 45) (.cells #[.slice b.ro m.refs.length b.rc, .slice b.tq m.table.length b.tc, .slice b.so m.snaps.length b.sc, .slice b.dq m.data.length b.dc] 45))
  have HV : Hid (((w.alloc (.cells #[.slice a.ro m.refs.length a.rc, .slice a.tq m.table.length a.tc, .slice a.so m.snaps.length a.sc, .slice a.dq m.data.length a.dc] 45)).alloc (.cells #[.slice b.ro m.refs.length b.rc, .slice b.tq m.table.length b.tc, .slice b.so m.snaps.length b.sc, .slice b.dq m.data.length b.dc] 45)).heap[w.heap.size]? = some (.cells #[.slice a.ro m.refs.length a.rc, .slice a.tq m.table.length a.tc, .slice a.so m.snaps.length a.sc, .slice a.dq m.data.length a.dc] 45 (0, 0))) := hide (by rw [(Joins.below_alloc1 _ _).block _ (by simp)]; exact heap_alloc_new w _)
  have HU : Hid (((w.alloc (.cells #[.slice a.ro m.refs.length a.rc, .slice a.tq m.table.length a.tc, .slice a.so m.snaps.length a.sc, .slice a.dq m.data.length a.dc] 45)).alloc (.cells #[.slice b.ro m.refs.length b.rc, .slice b.tq m.table.length b.tc, .slice b.so m.snaps.length b.sc, .slice b.dq m.data.length b.dc] 45)).heap[w.heap.size + 1]? = some (.cells #[.slice b.ro m.refs.length b.rc, .slice b.tq m.table.length b.tc, .slice b.so m.snaps.length b.sc, .slice b.dq m.data.length b.dc] 45 (0, 0))) := hide (heap_alloc2_new w _ _)
  have H1 := hide (h1.below (unhide HA))
  have H2 := hide (h2.below (unhide HA))
  have HR := hide hr
  have HT := hide ht
  have HS := hide hs
  have HD := hide hd
  clear h1 h2 hr ht hs hd
  go_enter Try.func21, Try.ntmps21
  go_upto_region 1 with fail
  revert HA HV HU H1 H2
  generalize ((w.alloc _).alloc _) = W0
  intro HA HV HU H1 H2
  have HCELL : Hid (∀ W, Below W0.heap.size W0 W → (W.cell? ⟨w.heap.size, 0, none⟩ = some (.slice a.ro m.refs.length a.rc) ∧ W.cell? ⟨w.heap.size, 1, none⟩ = some (.slice a.tq m.table.length a.tc) ∧ W.cell? ⟨w.heap.size, 2, none⟩ = some (.slice a.so m.snaps.length a.sc) ∧ W.cell? ⟨w.heap.size, 3, none⟩ = some (.slice a.dq m.data.length a.dc)) ∧ W.cell? ⟨w.heap.size + 1, 0, none⟩ = some (.slice b.ro m.refs.length b.rc) ∧ W.cell? ⟨w.heap.size + 1, 1, none⟩ = some (.slice b.tq m.table.length b.tc) ∧ W.cell? ⟨w.heap.size + 1, 2, none⟩ = some (.slice b.so m.snaps.length b.sc) ∧ W.cell? ⟨w.heap.size + 1, 3, none⟩ = some (.slice b.dq m.data.length b.dc)) := hide (fun W hW => by
    have n1 := (hW.block w.heap.size (Array.getElem?_eq_some_iff.1 (unhide HV)).1).trans (unhide HV)
    have n2 := (hW.block (w.heap.size + 1) (Array.getElem?_eq_some_iff.1 (unhide HU)).1).trans (unhide HU)
    refine ⟨⟨?_, ?_, ?_, ?_⟩, ?_, ?_, ?_, ?_⟩ <;> first | (rw [Joins.cell_of_block n1]; rfl) | (rw [Joins.cell_of_block n2]; rfl))
  clear HV HU
  obtain ⟨⟨c0, c1, c2, c3⟩, d0, d1, d2, d3⟩ := unhide HCELL _ (Below.refl _ W0)
  go_wp2_with fail
  refine (eqInts_same a.ro b.ro a.rc b.rc m.refs _ (unhide HR) (unhide H1).r (unhide H2).r).mono ?_
  rintro e w1 ⟨rfl, hb⟩
  have HB1 := hide hb
  clear hb c0 c1 c2 c3 d0 d1 d2 d3
  obtain ⟨⟨c0, c1, c2, c3⟩, d0, d1, d2, d3⟩ := unhide HCELL _ (unhide HB1)
  go_wp2_with fail
  refine (eqInts_same a.tq b.tq a.tc b.tc m.table _ (unhide HT) ((unhide H1).below (unhide HB1)).t ((unhide H2).below (unhide HB1)).t).mono ?_
  rintro e w2 ⟨rfl, hb⟩
  have HB2 := hide (fr (unhide HB1) hb)
  clear hb c0 c1 c2 c3 d0 d1 d2 d3
  obtain ⟨⟨c0, c1, c2, c3⟩, d0, d1, d2, d3⟩ := unhide HCELL _ (unhide HB2)
  go_wp2_with fail
  refine (eqSnapS_same a.so b.so a.sc b.sc m.snaps _ (unhide HS) ((unhide H1).below (unhide HB2)).s ((unhide H2).below (unhide HB2)).s).mono ?_
  rintro e w3 ⟨rfl, hb⟩
  have HB3 := hide (fr (unhide HB2) hb)
  clear hb c0 c1 c2 c3 d0 d1 d2 d3
  obtain ⟨⟨c0, c1, c2, c3⟩, d0, d1, d2, d3⟩ := unhide HCELL _ (unhide HB3)
  go_wp2_with fail
  refine (eqInts_same a.dq b.dq a.dc b.dc m.data _ (unhide HD) ((unhide H1).below (unhide HB3)).d ((unhide H2).below (unhide HB3)).d).mono ?_
  rintro e w4 ⟨rfl, hb⟩
  have HB4 := hide (fr (unhide HA) (fr (unhide HB3) hb))
  clear hb c0 c1 c2 c3 d0 d1 d2 d3
  go_wp2
  go_ret
  exact ⟨rfl, unhide HB4⟩

end Go.Proofs.Ythnpooffhopnkaa

/- Contracts of the model's l08Free, FreeCluster, RefSum. -/
namespace Go.Proofs.Ythnpooffhopnkaa
open Go.RowKit
set_option linter.unusedVariables false
set_option maxRecDepth 100000

theorem ctF_zeroS {xs : List Int} (h0 : ctF xs = 0) : ctB xs = true := by
  rcases ctF_cases xs with ⟨_, h, _⟩ | ⟨_, _, h, _⟩ | ⟨h, _⟩
  · rw [h0] at h; cases h
  · rw [h0] at h; cases h
  · exact h
/-- What l08Free answers. -/
def frI (xs : List Int) : Int := if frN xs < xs.length then (frN xs : Int) else -1
end Go.Proofs.Ythnpooffhopnkaa
