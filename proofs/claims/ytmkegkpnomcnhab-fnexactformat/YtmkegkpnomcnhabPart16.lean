import Derived.Test.YtmkegkpnomcnhabRows
import Derived.Test.YtmkegkpnomcnhabPart13
import Derived.Test.YtmkegkpnomcnhabImW
import Derived.Test.YtmkegkpnomcnhabImY
import Derived.WalkKit
import Derived.WalkSpells
import Derived.LoopN
import Derived.Deep.RegionWith
import Derived.Test.YtmkegkpnomcnhabPart1
import Derived.Test.YtmkegkpnomcnhabPart2
import Derived.Test.YtmkegkpnomcnhabPart7
import Derived.Test.YtmkegkpnomcnhabPart8
import Derived.Test.YtmkegkpnomcnhabPart10
import Derived.Test.YtmkegkpnomcnhabPart11
import Derived.Test.YtmkegkpnomcnhabPart12
import Derived.BigQuiet
import Derived.Deep.QuietTactic
import Derived.Deep.RegionHeld3
import Derived.KernelRfl
import Derived.Maps.Own
import Derived.Maps.OwnOps
import Derived.Maps.OwnSet
import Derived.Maps.RangeWalk
import Derived.Maps.Views
import Derived.Test.YtmkegkpnomcnhabPart5

/- Contract of the model's l10Own: an image as it was, in new memory. (Made ahead of stage 10.) -/
namespace Go.Proofs.Ytmkegkpnomcnhab
open Go.RowKit
set_option linter.unusedVariables false
set_option maxRecDepth 100000

theorem wp_append_fresh {P : Program} {o : Oper} {a : Act} {w : World} {K : Act → World → Prop} {Q : Exit → Act → World → Prop}
    (hg : o.guard = none) (s x : Operand) (t : TypeId) (hop : o.op = Op.call { callee := Callee.builtin Builtin.append, args := #[s, x], argTypes := #[t, t] })
    (e : TypeId) (i : TypeInfo) (z : Value) (size bytes : Nat) (h1 : P.underlying t = some (.slice e)) (h2 : P.info? e = some i) (h3 : i.zero = some z) (h4 : i.size = size) (h5 : i.bytes = bytes) (h6 : z.cells.size = size) (h7 : 0 < size)
    (hs0 : isFresh (a.eval s) = true) (so : Option Addr) (m c : Nat) (news : List Value) (hx : a.eval x = .slice so m c) (hn : news.length = m * size)
    (hc : 0 < m → ∃ ad, so = some ad ∧ ∀ j u, news[j]? = some u → w.cell? (ad.add j) = some u) (b1 : m ≤ maxLen) (b2 : m * bytes ≤ 140737488355328)
    (hK : ∀ ao cap w', OwnR w' w.heap.size e size (.slice ao m cap) m news → w.grownBy w' none → K (a.put o.dst (.slice ao m cap)) w') : o.wp P a w K Q := by
  have := step_append_fresh (P := P) (ops := #[]) (o := o) (a := a) (w := w) (K := K) (Q := Q) (E := True) hg s x t hop e i z size bytes h1 h2 h3 h4 h5 h6 h7 hs0 so m c news hx hn hc b1 b2 hK
  rwa [if_pos (by simp [Region.wanted, hg])] at this

theorem snap_news {w : World} {g : Nat} {n : ByteArray} {v : Value} {t : TypeId} (h : w.heap[g]? = some (.cells #[.string n, v] t (0, 0))) : ∀ j u, [Value.string n, v][j]? = some u → w.cell? ((⟨g, 0, none⟩ : Addr).add j) = some u := by
  intro j u hu
  have hj : j < 2 := (List.getElem?_eq_some_iff.1 hu).1
  rcases (show j = 0 ∨ j = 1 by omega) with rfl | rfl
  · simp at hu
    subst hu
    rw [show (⟨g, 0, none⟩ : Addr).add 0 = ⟨g, 0, none⟩ from rfl, Joins.cell_of_block h]; rfl
  · simp at hu
    subst hu
    rw [show (⟨g, 0, none⟩ : Addr).add 1 = ⟨g, 1, none⟩ from rfl, Joins.cell_of_block h]; rfl
theorem snap_one (n : ByteArray) (q : Option Addr) (l c : Nat) : ∀ u ∈ [Value.string n, .slice q l c], u.oneCell' = true := by
  intro u hu
  simp at hu
  rcases hu with rfl | rfl <;> rfl
theorem wp_append_one {P : Program} {w : World} {o : Oper} {a : Act} {K : Act → World → Prop} {Q : Exit → Act → World → Prop} (hgd : o.guard = none) (s x : Operand) (t : TypeId)
    (ho : o.op = .call { callee := .builtin .append, args := #[s, x], argTypes := #[t, t] })
    (B : Nat) (e : TypeId) (i : TypeInfo) (z : Value) (size bytes : Nat) (ht : P.underlying t = some (.slice e)) (hi : P.info? e = some i) (hz : i.zero = some z)
    (hsize : i.size = size) (hby : i.bytes = bytes) (hzs : z.cells.size = size) (hsz : 0 < size)
    (qo : Option Addr) (n cap : Nat) (xs : List Value) (hs : a.eval s = .slice qo n cap) (h : OwnR w B e size (.slice qo n cap) n xs) (hB : B ≤ w.heap.size)
    (ad : Addr) (c : Nat) (news : List Value) (hx : a.eval x = .slice (some ad) 1 c) (hl : news.length = size) (hnews : ∀ j u, news[j]? = some u → w.cell? (ad.add j) = some u) (h1 : ∀ u ∈ news, u.oneCell' = true)
    (b1 : n + 1 ≤ maxLen) (b2 : (n + 1) * bytes ≤ 140737488355328)
    (hK : ∀ g cap' w', w'.ownsRow B e size (.slice (some ⟨g, 0, none⟩) (n + 1) cap') (n + 1) (xs ++ news) → Keep (Own (.slice qo n cap)) w w' → K (a.put o.dst (.slice (some ⟨g, 0, none⟩) (n + 1) cap')) w') : o.wp P a w K Q := by
  have := step_append_one (P := P) (ops := #[]) (o := o) (a := a) (w := w) (K := K) (Q := Q) (E := True) hgd s x t ho B e i z size bytes ht hi hz hsize hby hzs hsz qo n cap xs hs h hB ad c news hx hl hnews h1 b1 b2 hK
  rwa [if_pos (by simp [Region.wanted, hgd])] at this

end Go.Proofs.Ytmkegkpnomcnhab

/- Contract of the model's l10Form. (Made ahead of stage 10.) -/
namespace Go.Proofs.Ytmkegkpnomcnhab
open Go.RowKit
set_option linter.unusedVariables false
set_option maxRecDepth 100000

/-- How long an image's lists are, at most. -/
structure ImL (m : Img) : Prop where
  r : m.refs.length ≤ maxLen
  t : m.table.length ≤ maxLen
  s : m.snaps.length ≤ maxLen
  d : m.data.length ≤ maxLen
theorem fm_refs {m : Img} (h : ctB m.refs = false) : imFm m = false := by simp [imFm, h]
theorem fm_table {m : Img} (h : tbB m.table = false) : imFm m = false := by simp [imFm, h]
theorem fm_few {m : Img} (h : ¬ m.snaps.length ≤ 3) : imFm m = false := by simp [imFm, h]
theorem fm_data {m : Img} (h : ¬ m.data.length = 24) : imFm m = false := by simp [imFm, h]
theorem fm_snap {m : Img} {k : Nat} (hk : k < m.snaps.length) (h : (snmB m.snaps[k].name && tbB m.snaps[k].table) = false) : imFm m = false := by
  have e := all_not (p := fun s : Snp => snmB s.name && tbB s.table) hk h
  simp only [imFm, e, Bool.and_false, Bool.false_and]
theorem fm_twice {m : Img} {i k : Nat} (hi : i < m.snaps.length) (hk : k < i) (h : m.snaps[i].name = m.snaps[k].name) : imFm m = false := by
  have e : namesB m.snaps = false := decide_eq_false (not_nodup (xs := m.snaps.map (·.name)) (i := i) (k := k) (by simpa using hi) hk (by simpa using h))
  simp only [imFm, e, Bool.and_false, Bool.false_and]
theorem fm_num {m : Img} {k : Nat} (hk : k < m.data.length) (h : numB m.data[k] = false) : imFm m = false := by
  have e := all_not (p := numB) hk h
  simp only [imFm, e, Bool.and_false]
theorem fm_yes {m : Img} (h1 : ctB m.refs = true) (h2 : tbB m.table = true) (h3 : m.snaps.length ≤ 3) (h4 : m.data.length = 24) (h5 : ∀ j (hj : j < m.snaps.length), (snmB m.snaps[j].name && tbB m.snaps[j].table) = true) (h6 : (m.snaps.map (·.name)).Nodup) (h7 : ∀ j (hj : j < m.data.length), numB m.data[j] = true) : imFm m = true := by
  have e5 : m.snaps.all (fun s => snmB s.name && tbB s.table) = true := all_of (p := fun s : Snp => snmB s.name && tbB s.table) (fun i hi _ => h5 i hi)
  have e7 : m.data.all numB = true := all_of (p := numB) (fun i hi _ => h7 i hi)
  have e6 : namesB m.snaps = true := decide_eq_true h6
  simp only [imFm, h1, h2, h3, h4, e5, e6, e7, decide_true, Bool.and_true]

end Go.Proofs.Ytmkegkpnomcnhab

/- Contract of the model's ImageOK. (Made ahead of stage 10.) -/
namespace Go.Proofs.Ytmkegkpnomcnhab
open Go.RowKit
set_option linter.unusedVariables false
set_option maxRecDepth 100000

theorem fm_parts {m : Img} (h : imFm m = true) : ctB m.refs = true ∧ m.snaps.length ≤ 3 ∧ m.data.length = 24 ∧ (∀ t ∈ imTabs m, tbB t = true) := by
  simp only [imFm, Bool.and_eq_true, decide_eq_true_eq, List.all_eq_true] at h
  obtain ⟨⟨⟨⟨⟨⟨h1, h2⟩, h3⟩, h4⟩, h5⟩, h6⟩, h7⟩ := h
  refine ⟨h1, h3, h4, fun t ht => ?_⟩
  unfold imTabs at ht
  rw [List.mem_cons, List.mem_map] at ht
  rcases ht with rfl | ⟨s, hs, rfl⟩
  · exact h2
  · exact (h5 s hs).2
theorem im_fm {m : Img} (h : imFm m = false) : imB m = false := by simp [imB, h]
theorem im_once {m : Img} {t : List Int} (ht : t ∈ imTabs m) (h : onceB t = false) : imB m = false := by
  have e : (imTabs m).all onceB = false := by
    cases hh : (imTabs m).all onceB with
    | false => rfl
    | true => rw [List.all_eq_true] at hh; rw [hh t ht] at h; cases h
  simp only [imB, e, Bool.and_false, Bool.false_and]
theorem im_cnt {m : Img} {i : Nat} (h1 : i < (imCnt m).length) (h2 : i < m.refs.length) (h : (imCnt m)[i] ≠ m.refs[i]) : imB m = false := by
  have e : decide (imCnt m = m.refs) = false := decide_eq_false (fun e => h (by simp only [e]))
  simp only [imB, e, Bool.and_false, Bool.false_and]
theorem im_clear {m : Img} {i : Nat} (hi : i < 24) (h1 : i < m.refs.length) (h2 : i < m.data.length) (hr : m.refs[i] = 0) (hd : m.data[i] ≠ 0) : imB m = false := by
  have e : clearB m = false := by
    unfold clearB
    cases hh : (List.range 24).all _ with
    | false => rfl
    | true =>
      rw [List.all_eq_true] at hh
      have := hh i (List.mem_range.2 hi)
      simp only [List.getD, List.getElem?_eq_getElem h1, List.getElem?_eq_getElem h2, Option.getD_some, decide_eq_true_eq] at this
      exact absurd (this hr) hd
  simp only [imB, e, Bool.and_false]
theorem im_yes {m : Img} (hf : imFm m = true) (h1 : ∀ t ∈ imTabs m, onceB t = true) (h2 : ∀ i (ha : i < (imCnt m).length) (hb : i < m.refs.length), (imCnt m)[i] = m.refs[i]) (h3 : ∀ i, i < 24 → m.refs.getD i 0 = 0 → m.data.getD i 0 = 0) : imB m = true := by
  have hl := ctB_len (fm_parts hf).1
  have e2 : imCnt m = m.refs := List.ext_getElem (by rw [imCnt_len, hl]) h2
  have e1 : (imTabs m).all onceB = true := List.all_eq_true.2 h1
  have e3 : clearB m = true := by
    unfold clearB
    rw [List.all_eq_true]
    intro i hi
    exact decide_eq_true (h3 i (List.mem_range.1 hi))
  simp only [imB, hf, e1, e2, e3, decide_true, Bool.and_true]

end Go.Proofs.Ytmkegkpnomcnhab

/- Contracts of the model's l10Value, ReadCluster, l10Drop. (Made ahead of stage 10.) -/
namespace Go.Proofs.Ytmkegkpnomcnhab
open Go.RowKit
set_option linter.unusedVariables false
set_option maxRecDepth 100000

/-- A number of a row of the call's own: where it lies, and how it is set. -/
theorem OwnN.spot {w : World} {B c n k : Nat} {ao : Option Addr} {xs : List Int} (h : OwnN w B (.slice ao n k) xs) (hn : n = xs.length) (hc : c < xs.length) : ∃ g, ao = some ⟨g, 0, none⟩ ∧ w.cell? ⟨g, c, none⟩ = some (.int .i64 xs[c]) ∧ w.frozen? ⟨g, c, none⟩ = false ∧ Own (.slice ao n k) g ∧ ∀ y, OwnN (w.setCell ⟨g, c, none⟩ (.int .i64 y)) B (.slice ao n k) (xs.set c y) := by
  subst hn
  have hr := h.row
  have hp : 0 < xs.length := by omega
  obtain ⟨g, cap, cur, e, _, _⟩ := own_form hp (hr.row hp)
  simp only [Value.slice.injEq, true_and] at e
  obtain ⟨rfl, rfl⟩ := e
  refine ⟨g, rfl, ?_, (hr.row hp).frozenAt c, own_of hp rfl, fun y => ?_⟩
  · have := (hr.row hp).cellAt c (by omega)
    rwa [intV_get hc] at this
  · exact OwnN.mk' (own_setI hr hp y) (by simp)
/-- The three rows of numbers of an image: a place, and how it is set. -/
theorem OwnIm.setR {w : World} {B c : Nat} {a : Im4} {m : Img} {ts : List Value} (h : OwnIm w B a m ts) (hc : c < m.refs.length) : ∃ g, a.ro = some ⟨g, 0, none⟩ ∧ w.cell? ⟨g, c, none⟩ = some (.int .i64 m.refs[c]) ∧ w.frozen? ⟨g, c, none⟩ = false ∧ ImB a m ts g ∧ ∀ y, OwnIm (w.setCell ⟨g, c, none⟩ (.int .i64 y)) B a { m with refs := m.refs.set c y } ts := by
  obtain ⟨g, e, h1, h2, h3, h4⟩ := (h.rows.own (.slice a.ro m.refs.length a.rc, m.refs) (by simp [imRows])).spot rfl hc
  have hk : ∀ y, Keep (Own (.slice a.ro m.refs.length a.rc)) w (w.setCell ⟨g, c, none⟩ (.int .i64 y)) := fun y => (Keep.refl _ w).setCell (p := ⟨g, c, none⟩) h3 _
  refine ⟨g, e, h1, h2, .inl h3, fun y => ⟨h.len, h.s.keep (hk y) (own_apartT h.s (h.rows.own (.slice a.ro m.refs.length a.rc, m.refs) (by simp [imRows])).row (by decide)), ?_⟩⟩
  have := h.rows.turn (j := 0) rfl (hk y) (h4 y)
  simp only [imRows, List.length_set]
  exact this
theorem OwnIm.setT {w : World} {B c : Nat} {a : Im4} {m : Img} {ts : List Value} (h : OwnIm w B a m ts) (hc : c < m.table.length) : ∃ g, a.tq = some ⟨g, 0, none⟩ ∧ w.cell? ⟨g, c, none⟩ = some (.int .i64 m.table[c]) ∧ w.frozen? ⟨g, c, none⟩ = false ∧ ImB a m ts g ∧ ∀ y, OwnIm (w.setCell ⟨g, c, none⟩ (.int .i64 y)) B a { m with table := m.table.set c y } ts := by
  obtain ⟨g, e, h1, h2, h3, h4⟩ := (h.rows.own (.slice a.tq m.table.length a.tc, m.table) (by simp [imRows])).spot rfl hc
  have hk : ∀ y, Keep (Own (.slice a.tq m.table.length a.tc)) w (w.setCell ⟨g, c, none⟩ (.int .i64 y)) := fun y => (Keep.refl _ w).setCell (p := ⟨g, c, none⟩) h3 _
  refine ⟨g, e, h1, h2, .inr (.inl h3), fun y => ⟨h.len, h.s.keep (hk y) (own_apartT h.s (h.rows.own (.slice a.tq m.table.length a.tc, m.table) (by simp [imRows])).row (by decide)), ?_⟩⟩
  have := h.rows.turn (j := 1) rfl (hk y) (h4 y)
  simp only [imRows, List.length_set]
  exact this
theorem OwnIm.setD {w : World} {B c : Nat} {a : Im4} {m : Img} {ts : List Value} (h : OwnIm w B a m ts) (hc : c < m.data.length) : ∃ g, a.dq = some ⟨g, 0, none⟩ ∧ w.cell? ⟨g, c, none⟩ = some (.int .i64 m.data[c]) ∧ w.frozen? ⟨g, c, none⟩ = false ∧ ImB a m ts g ∧ ∀ y, OwnIm (w.setCell ⟨g, c, none⟩ (.int .i64 y)) B a { m with data := m.data.set c y } ts := by
  obtain ⟨g, e, h1, h2, h3, h4⟩ := (h.rows.own (.slice a.dq m.data.length a.dc, m.data) (by simp [imRows])).spot rfl hc
  have hk : ∀ y, Keep (Own (.slice a.dq m.data.length a.dc)) w (w.setCell ⟨g, c, none⟩ (.int .i64 y)) := fun y => (Keep.refl _ w).setCell (p := ⟨g, c, none⟩) h3 _
  refine ⟨g, e, h1, h2, .inr (.inr (.inl h3)), fun y => ⟨h.len, h.s.keep (hk y) (own_apartT h.s (h.rows.own (.slice a.dq m.data.length a.dc, m.data) (by simp [imRows])).row (by decide)), ?_⟩⟩
  have := h.rows.turn (j := 2) rfl (hk y) (h4 y)
  simp only [imRows, List.length_set]
  exact this
/-- A variable lies in no row of an image. -/
theorem OwnIm.other {w : World} {B x : Nat} {a : Im4} {m : Img} {ts : List Value} {v0 v1 v2 v3 : Value} (h : OwnIm w B a m ts) (hv : VarM w x 47 v0 v1 v2 v3) : ¬ ImB a m ts x := by
  intro hx
  rcases hx with h1 | h1 | h1 | h1 | ⟨t, ht, h1⟩
  · exact (h.rows.own (.slice a.ro m.refs.length a.rc, m.refs) (by simp [imRows])).row.other hv (by decide) h1
  · exact (h.rows.own (.slice a.tq m.table.length a.tc, m.table) (by simp [imRows])).row.other hv (by decide) h1
  · exact (h.rows.own (.slice a.dq m.data.length a.dc, m.data) (by simp [imRows])).row.other hv (by decide) h1
  · exact h.s.other hv (by decide) h1
  · have hm : t ∈ (ts.zip (m.snaps.map (·.table))).map Prod.fst := by rw [zip_fst _ _ (by rw [List.length_map, h.len])]; exact ht
    obtain ⟨p, hp, rfl⟩ := List.mem_map.1 hm
    exact (h.rows.own p (by simp [imRows, hp])).row.other hv (by decide) h1
theorem VarM.keepIm {w w' : World} {B x : Nat} {a : Im4} {m : Img} {ts : List Value} {v0 v1 v2 v3 : Value} (hv : VarM w x 47 v0 v1 v2 v3) (h : OwnIm w B a m ts) (hk : Keep (ImB a m ts) w w') : VarM w' x 47 v0 v1 v2 v3 := (hk.block x hv.lt (h.other hv)).trans hv
/-- An image that is owned is shown. -/
theorem OwnIm.shows {w : World} {B : Nat} {a : Im4} {m : Img} {ts : List Value} (h : OwnIm w B a m ts) (hz : ∀ s ∈ m.snaps, s.name.size ≤ maxLen ∧ s.table.length ≤ maxLen) : ImS w a m := by
  refine ⟨ownRN (h.rows.own (.slice a.ro m.refs.length a.rc, m.refs) (by simp [imRows])).row, ownRN (h.rows.own (.slice a.tq m.table.length a.tc, m.table) (by simp [imRows])).row, fun i hi => ?_, ownRN (h.rows.own (.slice a.dq m.data.length a.dc, m.data) (by simp [imRows])).row⟩
  have hp : 0 < m.snaps.length := by omega
  have hit : i < ts.length := by rw [← h.len]; exact hi
  have hs := h.s.row hp
  obtain ⟨g, cap, cur, e, _, _⟩ := own_form hp hs
  rw [e] at hs
  simp only [Value.slice.injEq, true_and] at e
  obtain ⟨e1, e2⟩ := e
  have hgs := snC_get (List.getElem?_eq_getElem hi) (List.getElem?_eq_getElem hit)
  have hm : (ts[i], m.snaps[i].table) ∈ imRows a m ts := by
    have : (ts.zip (m.snaps.map (·.table)))[i]? = some (ts[i], m.snaps[i].table) := by
      rw [List.getElem?_zip_eq_some]
      exact ⟨List.getElem?_eq_getElem hit, by simp [hi]⟩
    simp [imRows, List.mem_of_getElem? this]
  obtain ⟨tq, tc, et, ho⟩ := h.rows.own _ hm
  simp only at et ho
  refine ⟨g, 0, tq, tc, e1, ?_, ?_, ownRN ho, (hz _ (List.getElem_mem hi)).1, (hz _ (List.getElem_mem hi)).2⟩
  · rw [Nat.zero_add]; exact (hs.cellAt (i * 2) (by omega)).trans hgs.1
  · rw [Nat.zero_add]; exact (hs.cellAt (i * 2 + 1) (by omega)).trans (by rw [hgs.2, et])

theorem drop_at {m : Img} {c : Nat} (hr : c < m.refs.length) (hd : c < m.data.length) : (m.refs[c] - 1 = 0 → imDrop m ((c : Int) + 2) = { m with refs := m.refs.set c (m.refs[c] - 1), data := m.data.set c 0 }) ∧ (¬ m.refs[c] - 1 = 0 → imDrop m ((c : Int) + 2) = { m with refs := m.refs.set c (m.refs[c] - 1) }) := by
  have e : ((c : Int) + 2 - 2).toNat = c := by omega
  have g : m.refs.getD c 0 = m.refs[c] := by simp [List.getD, hr]
  unfold imDrop
  rw [if_neg (by omega)]
  simp only [e, g]
  exact ⟨fun h => by rw [if_pos h], fun h => by rw [if_neg h]⟩
/-- What was new need not be told. -/
theorem keep_im {w w' : World} {a : Im4} {m : Img} {ts : List Value} (h : Keep (fun g => ImB a m ts g ∨ w.heap.size ≤ g) w w') (hg : ∀ g, ImB a m ts g → g < w.heap.size) : Keep (ImB a m ts) w w' :=
  ⟨h.os, h.tape, h.output, h.size, fun k hk hn => h.block k hk (fun hS => by
    rcases hS with hS | hS
    · exact hn hS
    · omega)⟩

end Go.Proofs.Ytmkegkpnomcnhab

/- An owned image in a variable, the result's variable beside it; l10Write of the model. (Made ahead of stage 10.) -/
namespace Go.Proofs.Ytmkegkpnomcnhab
open Go.RowKit
set_option linter.unusedVariables false
set_option maxRecDepth 100000

/-- An image of the call's own in a variable, its lists as long as another's; the result's variable beside it. -/
structure ImQ (w W : World) (B : Nat) (a : Im4) (m0 m : Img) (ts : List Value) : Prop where
  v : VarM W w.heap.size 47 (.slice a.ro m0.refs.length a.rc) (.slice a.tq m0.table.length a.tc) (.slice a.so m0.snaps.length a.sc) (.slice a.dq m0.data.length a.dc)
  r : VarM W (w.heap.size + 1) 47 (.slice none 0 0) (.slice none 0 0) (.slice none 0 0) (.slice none 0 0)
  o : OwnIm W B a m ts
  b : Below w.heap.size w W
  hB : w.heap.size + 2 ≤ B
  e1 : m.refs.length = m0.refs.length
  e2 : m.table.length = m0.table.length
  e3 : m.snaps.length = m0.snaps.length
  e4 : m.data.length = m0.data.length
theorem ImQ.val {w W : World} {B : Nat} {a : Im4} {m0 m : Img} {ts : List Value} (h : ImQ w W B a m0 m ts) : imV a m0 = imV a m := by rw [imV, imV, h.e1, h.e2, h.e3, h.e4]

/-- The world behind an image's being put into a variable. -/
abbrev putI (W : World) (x : Nat) (a : Im4) (m : Img) : World := (((W.setCell ⟨x, 0, none⟩ (.slice a.ro m.refs.length a.rc)).setCell ⟨x, 1, none⟩ (.slice a.tq m.table.length a.tc)).setCell ⟨x, 2, none⟩ (.slice a.so m.snaps.length a.sc)).setCell ⟨x, 3, none⟩ (.slice a.dq m.data.length a.dc)
theorem ImQ.put {w W : World} {B : Nat} {v0 v1 v2 v3 : Value} {a : Im4} {m0 m : Img} {ts : List Value} (hv : VarM W w.heap.size 47 v0 v1 v2 v3) (hr : VarM W (w.heap.size + 1) 47 (.slice none 0 0) (.slice none 0 0) (.slice none 0 0) (.slice none 0 0)) (ho : OwnIm W B a m ts) (hb : Below w.heap.size w W) (hB : w.heap.size + 2 ≤ B) (e1 : m.refs.length = m0.refs.length) (e2 : m.table.length = m0.table.length) (e3 : m.snaps.length = m0.snaps.length) (e4 : m.data.length = m0.data.length) : ImQ w (putI W w.heap.size a m0) B a m0 m ts := by
  obtain ⟨h1, h2, h3⟩ := ImSt.put hv ho hb (Nat.le_refl _) (by omega) a m0
  exact ⟨h1, (((hr.other (p := ⟨w.heap.size, 0, none⟩) (by simp) _).other (p := ⟨w.heap.size, 1, none⟩) (by simp) _).other (p := ⟨w.heap.size, 2, none⟩) (by simp) _).other (p := ⟨w.heap.size, 3, none⟩) (by simp) _, h2, h3, hB, e1, e2, e3, e4⟩
theorem ImQ.again {w W : World} {B : Nat} {a : Im4} {m0 m : Img} {ts : List Value} (h : ImQ w W B a m0 m ts) : ImQ w (putI W w.heap.size a m0) B a m0 m ts := ImQ.put h.v h.r h.o h.b h.hB h.e1 h.e2 h.e3 h.e4
theorem ImQ.fin {w W : World} {B : Nat} {a : Im4} {m0 m : Img} {ts : List Value} (h : ImQ w W B a m0 m ts) : VarM (putI W (w.heap.size + 1) a m0) (w.heap.size + 1) 47 (.slice a.ro m0.refs.length a.rc) (.slice a.tq m0.table.length a.tc) (.slice a.so m0.snaps.length a.sc) (.slice a.dq m0.data.length a.dc) ∧ OwnIm (putI W (w.heap.size + 1) a m0) w.heap.size a m ts ∧ Below w.heap.size w (putI W (w.heap.size + 1) a m0) := by
  obtain ⟨h1, h2, h3⟩ := ImSt.put h.r h.o h.b (Nat.le_succ _) (by have := h.hB; omega) a m0
  exact ⟨h1, h2.base (by have := h.hB; omega), h3⟩
theorem ImQ.turn {w W W' : World} {B : Nat} {a : Im4} {m0 m m' : Img} {ts : List Value} (h : ImQ w W B a m0 m ts) (hk : Keep (ImB a m ts) W W') (ho : OwnIm W' B a m' ts) (e1 : m'.refs.length = m.refs.length) (e2 : m'.table.length = m.table.length) (e3 : m'.snaps.length = m.snaps.length) (e4 : m'.data.length = m.data.length) : ImQ w W' B a m0 m' ts :=
  ⟨h.v.keepIm h.o hk, h.r.keepIm h.o hk, ho, h.b.trans (hk.below h.b.size (fun g hg => by have := (h.o.ge g hg).1; have := h.hB; omega)), h.hB, e1.trans h.e1, e2.trans h.e2, e3.trans h.e3, e4.trans h.e4⟩
theorem ImQ.setR {w W : World} {B c : Nat} {a : Im4} {m0 m : Img} {ts : List Value} (h : ImQ w W B a m0 m ts) (hc : c < m.refs.length) : ∃ g, a.ro = some ⟨g, 0, none⟩ ∧ W.cell? ⟨g, c, none⟩ = some (.int .i64 m.refs[c]) ∧ W.frozen? ⟨g, c, none⟩ = false ∧ ∀ y, ImQ w (W.setCell ⟨g, c, none⟩ (.int .i64 y)) B a m0 { m with refs := m.refs.set c y } ts := by
  obtain ⟨g, e, h1, h2, h3, h4⟩ := h.o.setR hc
  exact ⟨g, e, h1, h2, fun y => h.turn ((Keep.refl _ W).setCell (p := ⟨g, c, none⟩) h3 _) (h4 y) (by simp) rfl rfl rfl⟩
theorem ImQ.setT {w W : World} {B c : Nat} {a : Im4} {m0 m : Img} {ts : List Value} (h : ImQ w W B a m0 m ts) (hc : c < m.table.length) : ∃ g, a.tq = some ⟨g, 0, none⟩ ∧ W.cell? ⟨g, c, none⟩ = some (.int .i64 m.table[c]) ∧ W.frozen? ⟨g, c, none⟩ = false ∧ ∀ y, ImQ w (W.setCell ⟨g, c, none⟩ (.int .i64 y)) B a m0 { m with table := m.table.set c y } ts := by
  obtain ⟨g, e, h1, h2, h3, h4⟩ := h.o.setT hc
  exact ⟨g, e, h1, h2, fun y => h.turn ((Keep.refl _ W).setCell (p := ⟨g, c, none⟩) h3 _) (h4 y) rfl (by simp) rfl rfl⟩
theorem ImQ.setD {w W : World} {B c : Nat} {a : Im4} {m0 m : Img} {ts : List Value} (h : ImQ w W B a m0 m ts) (hc : c < m.data.length) : ∃ g, a.dq = some ⟨g, 0, none⟩ ∧ W.cell? ⟨g, c, none⟩ = some (.int .i64 m.data[c]) ∧ W.frozen? ⟨g, c, none⟩ = false ∧ ∀ y, ImQ w (W.setCell ⟨g, c, none⟩ (.int .i64 y)) B a m0 { m with data := m.data.set c y } ts := by
  obtain ⟨g, e, h1, h2, h3, h4⟩ := h.o.setD hc
  exact ⟨g, e, h1, h2, fun y => h.turn ((Keep.refl _ W).setCell (p := ⟨g, c, none⟩) h3 _) (h4 y) rfl rfl rfl (by simp)⟩
theorem imDrop_lens (m : Img) (e : Int) : (imDrop m e).refs.length = m.refs.length ∧ (imDrop m e).table.length = m.table.length ∧ (imDrop m e).snaps.length = m.snaps.length ∧ (imDrop m e).data.length = m.data.length := ⟨imDrop_refs m e, by rw [(imDrop_table m e).1], by rw [(imDrop_table m e).2], imDrop_data m e⟩

/-- What is known of a right image. -/
structure ImM (m : Img) : Prop where
  r : m.refs.length = 24
  d : m.data.length = 24
  t : m.table.length ≤ 12
  s : m.snaps.length ≤ 3
  st : ∀ s ∈ m.snaps, s.table.length ≤ 12 ∧ s.name.size ≤ 6
  tv : ∀ i (h : i < m.table.length), 0 ≤ m.table[i] ∧ m.table[i] ≤ 25
  sv : ∀ s ∈ m.snaps, ∀ i (h : i < s.table.length), 0 ≤ s.table[i] ∧ s.table[i] ≤ 25
  rv : ∀ c (h : c < m.refs.length), 0 ≤ m.refs[c] ∧ m.refs[c] ≤ 15
theorem ImR.M {m : Img} (h : ImR m) : ImM m := by
  refine ⟨ctB_len h.refs, h.len, tbB_len h.table, h.few, fun s hs => ⟨tbB_len (h.snaps s hs).2, ?_⟩, tbB_at h.table, fun s hs => tbB_at (h.snaps s hs).2, ctB_at h.refs⟩
  have := (h.snaps s hs).1
  simp only [snmB, Bool.and_eq_true] at this
  have := betw_iff.1 this.2
  omega
theorem ImM.L {m : Img} (h : ImM m) : ImL m := ⟨by rw [h.r]; unfold maxLen; omega, by have := h.t; unfold maxLen; omega, by have := h.s; unfold maxLen; omega, by rw [h.d]; unfold maxLen; omega⟩
theorem ImM.zs {m : Img} (h : ImM m) : ∀ s ∈ m.snaps, s.name.size ≤ maxLen ∧ s.table.length ≤ maxLen := fun s hs => by have := h.st s hs; unfold maxLen; omega
theorem imWrite_in {m : Img} {g c : Nat} {v : Int} (hg : g < m.table.length) (hc : m.table[g] = (c : Int) + 2) (hr : c < m.refs.length) (h1 : m.refs[c] = 1) : imWrite m g v = ({ m with data := m.data.set c v }, 0) := by
  have e : m.table.getD g 0 = (c : Int) + 2 := by simp [List.getD, hg, hc]
  have e2 : ((c : Int) + 2 - 2).toNat = c := by omega
  have e3 : m.refs.getD c 0 = 1 := by simp [List.getD, hr, h1]
  unfold imWrite
  simp only [e, e2, e3]
  rw [if_pos ⟨by omega, trivial⟩]
theorem imWrite_out {m : Img} {g : Nat} {v : Int} (hg : g < m.table.length) (hn : ¬ (2 ≤ m.table[g] ∧ m.refs.getD (m.table[g] - 2).toNat 0 = 1)) : imWrite m g v = if frN m.refs < m.refs.length then ({ imDrop m m.table[g] with refs := (imDrop m m.table[g]).refs.set (frN m.refs) 1, data := (imDrop m m.table[g]).data.set (frN m.refs) v, table := (imDrop m m.table[g]).table.set g (2 + (frN m.refs : Int)) }, 0) else (m, 7) := by
  have e : m.table.getD g 0 = m.table[g] := by simp [List.getD, hg]
  unfold imWrite
  simp only [e]
  rw [if_neg hn]

end Go.Proofs.Ytmkegkpnomcnhab

/- Maps from clusters to counts. -/
namespace Go.Proofs.Ytmkegkpnomcnhab
open Go.RowKit Go.Maps
set_option linter.unusedVariables false
set_option maxRecDepth 100000

theorem lawI : Keyed Try.prog 3 := int_keyed Try.underlying3
theorem zeroI (w : World) : (zeroValue 3).run Try.prog w = .ok (.int .i64 0) w := by kernel_rfl
theorem wfI {n : Int} (h0 : -1000000 ≤ n) (h1 : n ≤ 1000000) : (Lit.int .i64 n).wf = true := WalkArith.wf_i64 (by omega)
theorem keyI {i : Nat} (h : i < 24) : keyOf Try.prog 3 (.int .i64 (i : Int)) = some (.int .i64 (i : Int)) := keyOf_int_mk Try.underlying3 (wfI (by omega) (by omega))
/-- The map in block B has at most n entries, all of clusters, and says these counts. -/
def MpC (w : World) (B n : Nat) (D : DataW Unit) (ns : List Int) : Prop := w.ownsMap Try.prog 3 (plainElem Try.prog 3) B n D ∧ ns.length = 24 ∧ (∀ i : Nat, i < 24 → D.atKey (.int .i64 (i : Int)) (.lit (.int .i64 0)) = .lit (.int .i64 (ns.getD i 0))) ∧ (∀ kl, has D kl = true → ∃ i : Nat, i < 24 ∧ kl = .int .i64 (i : Int))
theorem MpC.made (w : World) : MpC (w.alloc (.map #[] 0)) w.heap.size 0 (.map []) zero24 := ⟨World.ownsMap_made _ _ _ _, rfl, fun i hi => by
    have e : zero24.getD i 0 = 0 := by
      have h2 : ∀ i : Fin 24, zero24.getD i 0 = 0 := by decide
      exact h2 ⟨i, hi⟩
    rw [e]; rfl, fun kl h => by cases h⟩
theorem MpC.lt {w : World} {B n : Nat} {D : DataW Unit} {ns : List Int} (h : MpC w B n D ns) : B < w.heap.size := h.1.lt
theorem grown_of_keep {S : Nat → Prop} {w w' : World} {B : Nat} (h : Keep S w w') (hs : ¬ S B) (hB : B < w.heap.size) : w'.heap[B]? = w.heap[B]? := h.block B hB hs
theorem MpC.keep {S : Nat → Prop} {w w' : World} {B n : Nat} {D : DataW Unit} {ns : List Int} (h : MpC w B n D ns) (hk : Keep S w w') (hs : ¬ S B) : MpC w' B n D ns := by
  have hl := h.lt
  obtain ⟨⟨es, clock, hb, F, hn, hD⟩, h2⟩ := h
  exact ⟨⟨es, clock, (hk.block B hl hs).trans hb, F, hn, hD⟩, h2⟩
theorem MpC.below {w w' : World} {B n : Nat} {D : DataW Unit} {ns : List Int} (h : MpC w B n D ns) (hb : Below w.heap.size w w') : MpC w' B n D ns := h.keep (S := fun _ => False) (Keep.of_below hb) (fun h => h)
theorem MpC.mono {w : World} {B n n' : Nat} {D : DataW Unit} {ns : List Int} (h : MpC w B n D ns) (hn : n ≤ n') : MpC w B n' D ns := ⟨h.1.mono hn, h.2⟩
theorem keep_map {w w' : World} {B : Nat} (h : w.grownBy w' (some B)) : Keep (fun g => g = B) w w' := ⟨h.os, h.tape, h.output, h.size, fun k hk hs => h.block k hk (fun e => hs (Option.some.inj e))⟩
/-- One cluster's count is set. -/
theorem MpC.put {w w' : World} {B n i : Nat} {D : DataW Unit} {ns : List Int} {c : Int} (h : MpC w B n D ns) (hi : i < 24) (ho : w'.ownsMap Try.prog 3 (plainElem Try.prog 3) B (n + 1) (D.put (.int .i64 (i : Int)) (.lit (.int .i64 c)))) : MpC w' B (n + 1) (D.put (.int .i64 (i : Int)) (.lit (.int .i64 c))) (ns.set i c) := by
  have hM : IsMap D := by obtain ⟨es, e, _⟩ := h.1.entries lawI; exact ⟨es, e⟩
  refine ⟨ho, by rw [List.length_set]; exact h.2.1, fun j hj => ?_, fun kl hk => ?_⟩
  · by_cases e : j = i
    · subst e
      rw [atKey_put_same (k := .int .i64 (j : Int)) hM trivial]
      simp [List.getD, h.2.1, hi]
    · rw [atKey_put_other (by intro h2; simp only [Lit.int.injEq, true_and] at h2; omega), h.2.2.1 j hj]
      simp [List.getD, Ne.symm e]
  · by_cases e : kl = .int .i64 (i : Int)
    · exact ⟨i, hi, e⟩
    · rw [has_put_other e] at hk
      exact h.2.2.2 kl hk
theorem fit_none : ∀ {clock : Nat}, Go.WideElems.Fit (H := Unit) Try.prog 3 (plainElem Try.prog 3) #[] clock := fun {clock} => ⟨by simp, MapKept.stamped_empty clock, by simp⟩
/-- How often a table has a cluster. -/
theorem incr_get (ns : List Int) (hl : ns.length = 24) (c i : Nat) (hc : c < 24) (hi : i < 24) : (incr ns (c : Int)).getD i 0 = ns.getD i 0 + (if i = c then 1 else 0) := by
  rw [incr_set]
  simp only [List.getD, List.getElem?_set]
  by_cases e : i = c
  · subst e; simp [hl, hi]
  · simp [e, Ne.symm e]
theorem fold_incr_get (i : Nat) (hi : i < 24) : ∀ (L : List Int), (∀ c ∈ L, 0 ≤ c ∧ c ≤ 23) → ∀ ns : List Int, ns.length = 24 → (L.foldl incr ns).getD i 0 = ns.getD i 0 + (L.count (i : Int) : Int) := by
  intro L
  induction L with
  | nil => intro _ ns _; simp
  | cons c L ih =>
    intro hL ns hl
    obtain ⟨c0, c1⟩ := hL c (by simp)
    obtain ⟨q, rfl⟩ := Int.eq_ofNat_of_zero_le c0
    rw [List.foldl_cons, ih (fun d hd => hL d (by simp [hd])) _ (by rw [incr_len]; exact hl), incr_get ns hl q i (by omega) hi, List.count_cons]
    by_cases e : i = q
    · subst e; simp; omega
    · have e2 : ¬ ((q : Int) = (i : Int)) := by omega
      simp [e, e2]
theorem nodup_count : ∀ (L : List Int), L.Nodup ↔ ∀ x ∈ L, L.count x ≤ 1 := by
  intro L
  induction L with
  | nil => simp
  | cons c L ih =>
    rw [List.nodup_cons, ih]
    constructor
    · rintro ⟨h1, h2⟩ x hx
      rw [List.count_cons]
      by_cases e : c = x
      · subst e
        rw [List.count_eq_zero_of_not_mem h1]; simp
      · have : x ∈ L := by simpa [Ne.symm e] using hx
        have := h2 x this
        simp [e]; omega
    · intro h
      refine ⟨fun hm => ?_, fun x hx => ?_⟩
      · have h1 := h c (by simp)
        rw [List.count_cons] at h1
        have := List.count_pos_iff.2 hm
        simp at h1; omega
      · have h1 := h x (by simp [hx])
        rw [List.count_cons] at h1
        omega
theorem cl_mem {t : List Int} (h : tbB t = true) : ∀ c ∈ clA t, 0 ≤ c ∧ c ≤ 23 := fun c hc => by
  obtain ⟨j, hj, rfl⟩ := List.mem_iff_getElem.1 hc
  exact clA_in h j hj
theorem cnt1T_get {t : List Int} (h : tbB t = true) {ns : List Int} (hl : ns.length = 24) {i : Nat} (hi : i < 24) : (cnt1T ns t).getD i 0 = ns.getD i 0 + ((clA t).count (i : Int) : Int) := fold_incr_get i hi _ (cl_mem h) ns hl
theorem zero24_get {i : Nat} (hi : i < 24) : zero24.getD i 0 = 0 := by
  have h2 : ∀ i : Fin 24, zero24.getD i 0 = 0 := by decide
  exact h2 ⟨i, hi⟩
/-- A table has no cluster twice, told by counts. -/
theorem once_yes {t : List Int} (h : tbB t = true) (hc : ∀ i, i < 24 → (cnt1T zero24 t).getD i 0 ≤ 1) : onceB t = true := by
  refine decide_eq_true ((nodup_count _).2 fun x hx => ?_)
  obtain ⟨c0, c1⟩ := cl_mem h x hx
  obtain ⟨q, rfl⟩ := Int.eq_ofNat_of_zero_le c0
  have := hc q (by omega)
  rw [cnt1T_get h rfl (by omega), zero24_get (by omega)] at this
  omega
theorem once_no {t : List Int} (h : tbB t = true) {i : Nat} (hi : i < 24) (hc : 1 < (cnt1T zero24 t).getD i 0) : onceB t = false := by
  refine decide_eq_false fun hn => ?_
  rw [cnt1T_get h rfl hi, zero24_get hi] at hc
  have hm : (i : Int) ∈ clA t := List.count_pos_iff.1 (by omega)
  have := (nodup_count _).1 hn _ hm
  omega

end Go.Proofs.Ytmkegkpnomcnhab

/- Contracts of the program's tables: TableOK, tableFault, EncodeTable, splitEntry, EntryOf, ResizeTable. -/
namespace Go.Proofs.Ytmkegkpnomcnhab
open Go.RowKit
set_option linter.unusedVariables false
set_option maxRecDepth 100000

theorem tbF_ne {xs : List Int} (h : tbF xs ≠ 0) : (tbF xs != 0) = true := by simpa using h

end Go.Proofs.Ytmkegkpnomcnhab

/- Contracts of impl.clusterOfData, impl.takeEntries at numbers, impl.ClustersOf. -/
namespace Go.Proofs.Ytmkegkpnomcnhab
open Go.RowKit
set_option linter.unusedVariables false
set_option maxRecDepth 100000

end Go.Proofs.Ytmkegkpnomcnhab
