import Derived.Test.YthnpooffhopnkacPart1
import Derived.Test.YthnpooffhopnkacPart2
import Derived.Test.YthnpooffhopnkacPart3
import Derived.Test.YthnpooffhopnkacPart4
import Derived.Test.YthnpooffhopnkacRows
import Derived.Test.YthnpooffhopnkacPart5
import Derived.Test.YthnpooffhopnkacPart11
import Derived.WalkKit
import Derived.Laws.OwnMore
import Derived.WalkSpells
import Derived.KernelRfl
import Derived.LoopN
import Derived.BigQuiet
import Derived.Deep.QuietTactic
import Derived.Deep.RegionWith
import Derived.Deep.RegionHeld3
import Derived.Deep.CutRange

/- Guests, plainly: when they are right, what an image shows, what requests do. -/
namespace Go.Proofs.Ythnpooffhopnkac
open Go.RowKit
set_option linter.unusedVariables false
set_option maxRecDepth 100000

/-- A guest: its values, and its shots (a name and values, as a snapshot's table). -/
structure Gst where
  vals : List Int
  shots : List Snp
def gs0 : Gst := ⟨[], []⟩
/-- Values that are right. -/
def vlB (xs : List Int) : Bool := decide (xs.length ≤ 12) && xs.all numB
def gsB (g : Gst) : Bool := vlB g.vals && decide (g.shots.length ≤ 3) && g.shots.all (fun s => snmB s.name && vlB s.table) && namesB g.shots
structure GsR (g : Gst) : Prop where
  v : g.vals.length ≤ 12
  n : ∀ x ∈ g.vals, numB x = true
  few : g.shots.length ≤ 3
  s : ∀ s ∈ g.shots, snmB s.name = true ∧ s.table.length ≤ 12 ∧ ∀ x ∈ s.table, numB x = true
  names : (g.shots.map (·.name)).Nodup
theorem gsB_iff {g : Gst} : gsB g = true ↔ GsR g := by
  constructor
  · intro h
    simp only [gsB, vlB, namesB, Bool.and_eq_true, decide_eq_true_eq, List.all_eq_true] at h
    obtain ⟨⟨⟨⟨h1, h2⟩, h3⟩, h4⟩, h5⟩ := h
    exact ⟨h1, h2, h3, fun s hs => ⟨(h4 s hs).1, (h4 s hs).2.1, (h4 s hs).2.2⟩, h5⟩
  · intro h
    simp only [gsB, vlB, namesB, Bool.and_eq_true, decide_eq_true_eq, List.all_eq_true]
    exact ⟨⟨⟨⟨h.v, h.n⟩, h.few⟩, fun s hs => ⟨(h.s s hs).1, (h.s s hs).2.1, (h.s s hs).2.2⟩⟩, h.names⟩
/-- What an image shows. -/
def shT (m : Img) (t : List Int) : List Int := t.map (imVal m)
def gsOf (m : Img) : Gst := ⟨shT m m.table, m.snaps.map (fun s => ⟨s.name, shT m s.table⟩)⟩
/-- What the calls answer. -/
def ngA (n : Int) : Gst × Int := if betw n 0 12 = true then (⟨List.replicate n.toNat 0, []⟩, 0) else (gs0, 4)
def goA (m : Img) : Gst × Int := if imB m = true then (gsOf m, 0) else (gs0, 1)
/-- How great a guest is. -/
structure GsL (g : Gst) : Prop where
  v : g.vals.length ≤ maxLen
  s : g.shots.length ≤ maxLen

end Go.Proofs.Ythnpooffhopnkac

/- Guests in memory: shown, and owned. -/
namespace Go.Proofs.Ythnpooffhopnkac
open Go.RowKit
set_option linter.unusedVariables false
set_option maxRecDepth 100000

/-- Where a guest's two lists lie. -/
structure Gs4 where
  vo : Option Addr
  vc : Nat
  so : Option Addr
  sc : Nat
abbrev gsV (a : Gs4) (g : Gst) : Value := .agg #[.slice a.vo g.vals.length a.vc, .slice a.so g.shots.length a.sc]
/-- A guest is shown. -/
structure GsS (w : World) (a : Gs4) (g : Gst) : Prop where
  v : Is w a.vo g.vals
  s : Sns w a.so g.shots
theorem GsS.below {w w' : World} {a : Gs4} {g : Gst} (h : GsS w a g) (hb : Below w.heap.size w w') : GsS w' a g := ⟨h.v.below hb, h.s.below hb⟩
def gsSz (g : Gst) : Nat := g.vals.length + (g.shots.length + snSz g.shots)
/-- Its rows of numbers. -/
def gsRows (a : Gs4) (g : Gst) (ts : List Value) : List (Value × List Int) := (.slice a.vo g.vals.length a.vc, g.vals) :: ts.zip (g.shots.map (·.table))
/-- A guest of the call's own. -/
structure OwnGs (w : World) (B : Nat) (a : Gs4) (g : Gst) (ts : List Value) : Prop where
  len : g.shots.length = ts.length
  s : OwnS w B 42 2 (.slice a.so g.shots.length a.sc) g.shots.length (snC g.shots ts)
  rows : OwnA w B (gsRows a g ts)
theorem OwnGs.below {w w' : World} {B : Nat} {a : Gs4} {g : Gst} {ts : List Value} (h : OwnGs w B a g ts) (hb : Below w.heap.size w w') : OwnGs w' B a g ts := ⟨h.len, h.s.below hb, h.rows.below hb⟩
theorem OwnGs.base {w : World} {B B' : Nat} {a : Gs4} {g : Gst} {ts : List Value} (h : OwnGs w B a g ts) (hB : B' ≤ B) : OwnGs w B' a g ts := ⟨h.len, h.s.base hB, h.rows.base hB⟩
theorem OwnGs.zero (w : World) (B : Nat) : OwnGs w B ⟨none, 0, none, 0⟩ gs0 [] := ⟨rfl, .inl ⟨rfl, rfl, none, 0, rfl⟩, OwnA.one ⟨none, 0, rfl, .inl ⟨rfl, rfl, none, rfl⟩⟩⟩
/-- The blocks that a guest has. -/
def GsB (a : Gs4) (g : Gst) (ts : List Value) (x : Nat) : Prop := Own (.slice a.vo g.vals.length a.vc) x ∨ Own (.slice a.so g.shots.length a.sc) x ∨ ∃ t ∈ ts, Own t x
theorem OwnGs.mem {w : World} {B : Nat} {a : Gs4} {g : Gst} {ts : List Value} (h : OwnGs w B a g ts) {t : Value} (ht : t ∈ ts) : ∃ p ∈ ts.zip (g.shots.map (·.table)), p.1 = t := by
  have hm : t ∈ (ts.zip (g.shots.map (·.table))).map Prod.fst := by rw [zip_fst _ _ (by rw [List.length_map, h.len])]; exact ht
  obtain ⟨p, hp, e⟩ := List.mem_map.1 hm
  exact ⟨p, hp, e⟩
theorem OwnGs.ge {w : World} {B : Nat} {a : Gs4} {g : Gst} {ts : List Value} (h : OwnGs w B a g ts) : ∀ x, GsB a g ts x → B ≤ x ∧ x < w.heap.size := by
  intro x hg
  rcases hg with h1 | h1 | ⟨t, ht, h1⟩
  · exact (h.rows.own (.slice a.vo g.vals.length a.vc, g.vals) (by simp [gsRows])).ge x h1
  · exact h.s.ge x h1
  · obtain ⟨p, hp, rfl⟩ := h.mem ht
    exact (h.rows.own p (by simp [gsRows, hp])).ge x h1
theorem OwnGs.keep {w w' : World} {B : Nat} {a : Gs4} {g : Gst} {ts : List Value} {S : Nat → Prop} (h : OwnGs w B a g ts) (hk : Keep S w w') (hs : ∀ x, GsB a g ts x → ¬ S x) : OwnGs w' B a g ts := by
  refine ⟨h.len, h.s.keep hk (fun x hx => hs x (.inr (.inl hx))), h.rows.keep hk (fun r hr x hx => hs x ?_)⟩
  unfold gsRows at hr
  simp only [List.mem_cons] at hr
  rcases hr with rfl | hr
  · exact .inl hx
  · exact .inr (.inr ⟨r.1, (List.of_mem_zip (a := r.1) (b := r.2) hr).1, hx⟩)
theorem OwnGs.setCell {w : World} {B : Nat} {a : Gs4} {g : Gst} {ts : List Value} (h : OwnGs w B a g ts) {p : Addr} (hp : p.block < B) (u : Value) : OwnGs (w.setCell p u) B a g ts := ⟨h.len, h.s.setCell hp u, h.rows.setCell hp u⟩
/-- A guest that is owned is shown. -/
theorem OwnGs.shows {w : World} {B : Nat} {a : Gs4} {g : Gst} {ts : List Value} (h : OwnGs w B a g ts) (hz : ∀ s ∈ g.shots, s.name.size ≤ maxLen ∧ s.table.length ≤ maxLen) : GsS w a g := by
  refine ⟨ownRN (h.rows.own (.slice a.vo g.vals.length a.vc, g.vals) (by simp [gsRows])).row, fun i hi => ?_⟩
  have hp : 0 < g.shots.length := by omega
  have hit : i < ts.length := by rw [← h.len]; exact hi
  have hs := h.s.row hp
  obtain ⟨b, cap, cur, e, _, _⟩ := own_form hp hs
  rw [e] at hs
  simp only [Value.slice.injEq, true_and] at e
  obtain ⟨e1, e2⟩ := e
  have hgs := snC_get (List.getElem?_eq_getElem hi) (List.getElem?_eq_getElem hit)
  have hm : (ts[i], g.shots[i].table) ∈ gsRows a g ts := by
    have : (ts.zip (g.shots.map (·.table)))[i]? = some (ts[i], g.shots[i].table) := by
      rw [List.getElem?_zip_eq_some]
      exact ⟨List.getElem?_eq_getElem hit, by simp [hi]⟩
    simp [gsRows, List.mem_of_getElem? this]
  obtain ⟨tq, tc, et, ho⟩ := h.rows.own _ hm
  simp only at et ho
  refine ⟨b, 0, tq, tc, e1, ?_, ?_, ownRN ho, (hz _ (List.getElem_mem hi)).1, (hz _ (List.getElem_mem hi)).2⟩
  · rw [Nat.zero_add]; exact (hs.cellAt (i * 2) (by omega)).trans hgs.1
  · rw [Nat.zero_add]; exact (hs.cellAt (i * 2 + 1) (by omega)).trans (by rw [hgs.2, et])
/-- A variable of two lists. -/
def VarG (w : World) (x : Nat) (t : TypeId) (v0 v1 : Value) : Prop := w.heap[x]? = some (.cells #[v0, v1] t (0, 0))
theorem VarG.lt {w : World} {x t : Nat} {v0 v1 : Value} (k : VarG w x t v0 v1) : x < w.heap.size := (Array.getElem?_eq_some_iff.1 k).1
theorem VarG.cells {w : World} {x t : Nat} {v0 v1 : Value} (k : VarG w x t v0 v1) : w.cell? ⟨x, 0, none⟩ = some v0 ∧ w.cell? ⟨x, 1, none⟩ = some v1 := ⟨by rw [Joins.cell_of_block k]; rfl, by rw [Joins.cell_of_block k]; rfl⟩
theorem VarG.free {w : World} {x t : Nat} {v0 v1 : Value} (k : VarG w x t v0 v1) : w.frozen? ⟨x, 0, none⟩ = false ∧ w.frozen? ⟨x, 1, none⟩ = false := ⟨Joins.unfrozen_of_block k 0, Joins.unfrozen_of_block k 1⟩
theorem VarG.below {w w' : World} {x t : Nat} {v0 v1 : Value} (k : VarG w x t v0 v1) (hb : Below w.heap.size w w') : VarG w' x t v0 v1 := by
  unfold VarG; rw [hb.block x k.lt]; exact k
theorem VarG.new (w : World) (t : TypeId) (v0 v1 : Value) : VarG (w.alloc (.cells #[v0, v1] t)) w.heap.size t v0 v1 := heap_alloc_new w _
theorem VarG.other {w : World} {x t : Nat} {v0 v1 : Value} (h : VarG w x t v0 v1) {p : Addr} (hp : x ≠ p.block) (u : Value) : VarG (w.setCell p u) x t v0 v1 := by
  unfold VarG; rw [Below.heap_setCell w p u x hp]; exact h
theorem VarG.set0 {w : World} {x t : Nat} {v0 v1 : Value} (h : VarG w x t v0 v1) (u : Value) : VarG (w.setCell ⟨x, 0, none⟩ u) x t u v1 := Joins.block_setCell (i := 0) h u
theorem VarG.set1 {w : World} {x t : Nat} {v0 v1 : Value} (h : VarG w x t v0 v1) (u : Value) : VarG (w.setCell ⟨x, 1, none⟩ u) x t v0 u := Joins.block_setCell (i := 1) h u
theorem VarG.at {w : World} {x y t : Nat} {v0 v1 : Value} (h : VarG w x t v0 v1) (e : x = y) : VarG w y t v0 v1 := e ▸ h
theorem OwnGs.otherV {w : World} {B x t : Nat} {a : Gs4} {g : Gst} {ts : List Value} {c : Array Value} {f : Nat × Nat} (h : OwnGs w B a g ts) (hv : w.heap[x]? = some (.cells c t f)) (h1 : t ≠ 3) (h2 : t ≠ 42) : ¬ GsB a g ts x := by
  intro hx
  rcases hx with k1 | k1 | ⟨u, hu, k1⟩
  · exact (h.rows.own (.slice a.vo g.vals.length a.vc, g.vals) (by simp [gsRows])).row.other hv h1 k1
  · exact h.s.other hv h2 k1
  · obtain ⟨p, hp, rfl⟩ := h.mem hu
    exact (h.rows.own p (by simp [gsRows, hp])).row.other hv h1 k1
theorem VarG.keepGs {w w' : World} {B x t : Nat} {a : Gs4} {g : Gst} {ts : List Value} {v0 v1 : Value} (hv : VarG w x t v0 v1) (h : OwnGs w B a g ts) (h1 : t ≠ 3) (h2 : t ≠ 42) (hk : Keep (GsB a g ts) w w') : VarG w' x t v0 v1 := (hk.block x hv.lt (h.otherV hv h1 h2)).trans hv

end Go.Proofs.Ythnpooffhopnkac

/- Two guests are alike, plainly. -/
namespace Go.Proofs.Ythnpooffhopnkac
open Go.RowKit
set_option linter.unusedVariables false
set_option maxRecDepth 100000

/-- Two shots, two rows of them, two guests are alike. -/
def eqS1 (s t : Snp) : Bool := decide (s.name = t.name) && eqNB s.table t.table
def eqShB : List Snp → List Snp → Bool
  | [], [] => true
  | s :: ss, t :: tt => eqS1 s t && eqShB ss tt
  | _, _ => false
def gsEq (g h : Gst) : Bool := eqNB g.vals h.vals && eqShB g.shots h.shots
theorem eqShB_iff : ∀ (ss tt : List Snp), eqShB ss tt = true ↔ ss.length = tt.length ∧ ∀ j (h : j < ss.length) (h' : j < tt.length), eqS1 ss[j] tt[j] = true
  | [], [] => by simp [eqShB]
  | [], t :: tt => by simp [eqShB]
  | s :: ss, [] => by simp [eqShB]
  | s :: ss, t :: tt => by
    have ih := eqShB_iff ss tt
    simp only [eqShB, Bool.and_eq_true, ih, List.length_cons, Nat.add_right_cancel_iff]
    constructor
    · rintro ⟨h1, h2, h3⟩
      refine ⟨h2, fun j hj hj' => ?_⟩
      cases j with
      | zero => exact h1
      | succ j => exact h3 j (by omega) (by omega)
    · rintro ⟨h1, h2⟩
      exact ⟨h2 0 (by omega) (by omega), h1, fun j hj hj' => h2 (j + 1) (by omega) (by omega)⟩
theorem eqShB_len {ss tt : List Snp} (h : ¬ ss.length = tt.length) : eqShB ss tt = false := by
  cases e : eqShB ss tt with
  | false => rfl
  | true => exact absurd ((eqShB_iff ss tt).1 e).1 h
theorem eqShB_at {ss tt : List Snp} {k : Nat} (h : k < ss.length) (h' : k < tt.length) (he : eqS1 ss[k] tt[k] = false) : eqShB ss tt = false := by
  cases e : eqShB ss tt with
  | false => rfl
  | true => rw [((eqShB_iff ss tt).1 e).2 k h h'] at he; cases he
theorem eqShB_yes {ss tt : List Snp} (hl : ss.length = tt.length) (h : ∀ j (h : j < ss.length) (h' : j < tt.length), eqS1 ss[j] tt[j] = true) : eqShB ss tt = true := (eqShB_iff ss tt).2 ⟨hl, h⟩
theorem eqS1_succ {ss tt : List Snp} {k : Nat} (hlt : k < ss.length) (hlt' : k < tt.length) (h : ∀ j (h : j < ss.length) (h' : j < tt.length), j < k → eqS1 ss[j] tt[j] = true) (he : eqS1 ss[k] tt[k] = true) : ∀ j (h : j < ss.length) (h' : j < tt.length), j < k + 1 → eqS1 ss[j] tt[j] = true := fun j hj hj' hk => by
  by_cases e : j = k
  · subst e; exact he
  · exact h j hj hj' (by omega)

end Go.Proofs.Ythnpooffhopnkac

/- Contract of the laws' sameGuest. (Written by gens/gse.py.) -/
namespace Go.Proofs.Ythnpooffhopnkac
open Go.RowKit
set_option linter.unusedVariables false
set_option maxRecDepth 100000

set_option maxHeartbeats 800000 in
theorem sameInts_drawsE (ao bo : Option Addr) (ca cb : Nat) (ss tt : List Int) (w : World) (hl : ss.length ≤ maxLen) (hc : Is w ao ss) (hd : Is w bo tt) :
    Calls Try.prog 13 #[.slice ao ss.length ca, .slice bo tt.length cb] w fun e w' => e = .returned (.bool (eqNB ss tt)) ∧ ∃ m, w' = w.drewN m := by
  have HC := hide hc
  have HD := hide hd
  clear hc hd
  unfold maxLen at hl
  by_cases hle : ss.length = tt.length
  · have hb : ((ss.length : Int) != (tt.length : Int)) = false := by simp [hle]
    have HLE := hide hle
    clear hle
    go_enter Try.func13, Try.ntmps13
    go_wp2
    go_loopw [5] (fun i wr => ∃ (k n : Nat), k ≤ ss.length ∧ i = .int .i64 k ∧ Hid (∀ j (h : j < ss.length) (h' : j < tt.length), j < k → ss[j] = tt[j]) ∧ wr = w.drewN n) (fun i _ => ss.length - (intOf i).toNat)
    case atStart => exact ⟨0, 0, Nat.zero_le _, rfl, hide (fun j _ _ h => by omega), rfl⟩
    case round =>
      obtain ⟨k, n, hk, rfl, HA, rfl⟩ := hrel
      by_cases hlt : k < ss.length
      · have hlt' : k < tt.length := by rw [← unhide HLE]; exact hlt
        obtain ⟨b, off, rfl, hc⟩ := (unhide HC) k hlt
        obtain ⟨b', off', rfl, hc'⟩ := (unhide HD) k hlt'
        by_cases he : ss[k] = tt[k]
        · have HN := hide (eq_succ hlt hlt' (unhide HA) he)
          have be : (ss[k] != tt[k]) = false := by simp [he]
          clear he
          go_wp2
          go_quiet (fail)
          go_wp2
          go_roundw
          case rel => exact ⟨k + 1, _, by omega, by go_num, HN, rfl⟩
          case measure => simp [intOf]; omega
        · have H := hide (eqNB_false hlt hlt' he)
          have be : (ss[k] != tt[k]) = true := by simp [he]
          clear he
          go_wp2
          go_quiet (fail)
          go_wp2
          go_ret
          exact ⟨ret_bool (unhide H).symm, n + nq, by simp⟩
      · have H := hide (eqNB_true (unhide HLE) (fun j h h' => unhide HA j h h' (by omega)))
        go_wp2
        go_ret
        exact ⟨ret_bool (unhide H).symm, n, rfl⟩
  · have hb : ((ss.length : Int) != (tt.length : Int)) = true := by simp; omega
    have H := hide (eqNB_false_len hle)
    clear hle
    go_enter Try.func13, Try.ntmps13
    go_wp2
    go_ret
    exact ⟨ret_bool (unhide H).symm, 0, rfl⟩

set_option maxHeartbeats 3200000 in
theorem sameGuest_laws (a b : Gs4) (g h : Gst) (w : World) (hg : GsL g) (hh : GsL h) (h1 : GsS w a g) (h2 : GsS w b h) :
    Calls Try.prog 19 #[gsV a g, gsV b h] w fun e w' => e = .returned (.bool (gsEq g h)) ∧ Below w.heap.size w w' := by
  have HA := hide (Joins.below_alloc2 w (.cells #[.slice a.vo g.vals.length a.vc, .slice a.so g.shots.length a.sc] 35) (.cells #[.slice b.vo h.vals.length b.vc, .slice b.so h.shots.length b.sc] 35))
  have HV := hide ((VarG.new w 35 (.slice a.vo g.vals.length a.vc) (.slice a.so g.shots.length a.sc)).below (Joins.below_alloc1 _ (.cells #[.slice b.vo h.vals.length b.vc, .slice b.so h.shots.length b.sc] 35)))
  have HU := hide ((VarG.new (w.alloc (.cells #[.slice a.vo g.vals.length a.vc, .slice a.so g.shots.length a.sc] 35)) 35 (.slice b.vo h.vals.length b.vc) (.slice b.so h.shots.length b.sc)).at (show _ = w.heap.size + 1 by simp))
  have H1 := hide (h1.below (unhide HA))
  have H2 := hide (h2.below (unhide HA))
  have HG := hide hg
  have HH := hide hh
  obtain ⟨R, HR⟩ : ∃ R, Hid (R = gsEq g h) := ⟨_, hide rfl⟩
  rw [← unhide HR]
  clear h1 h2 hg hh
  go_enter Try.func19, Try.ntmps19
  go_upto_region 1 with fail
  revert HA HV HU H1 H2
  generalize ((w.alloc _).alloc _) = W0
  intro HA HV HU H1 H2
  obtain ⟨c0, c1⟩ := (unhide HV).cells
  obtain ⟨d0, d1⟩ := (unhide HU).cells
  go_wp2_with fail
  refine (sameInts_drawsE a.vo b.vo a.vc b.vc g.vals h.vals _ (unhide HG).v (unhide H1).v (unhide H2).v).mono ?_
  rintro e w1 ⟨rfl, m, hm⟩
  have HB1 : Hid (Below W0.heap.size W0 w1) := hide (by rw [hm]; exact Joins.below_draws _ _ _)
  clear hm c0 c1 d0 d1
  obtain ⟨c0, c1⟩ := ((unhide HV).below (unhide HB1)).cells
  obtain ⟨d0, d1⟩ := ((unhide HU).below (unhide HB1)).cells
  cases hv : eqNB g.vals h.vals
  · have HF : Hid (R = false) := hide (by rw [unhide HR, gsEq, hv]; rfl)
    clear HR
    go_wp2
    go_ret
    exact ⟨ret_bool (unhide HF).symm, fr (unhide HA) (unhide HB1)⟩
  have HR2 : Hid (R = eqShB g.shots h.shots) := hide (by rw [unhide HR, gsEq, hv]; rfl)
  clear HR hv
  have hsm := (unhide HG).s
  unfold maxLen at hsm
  by_cases hle : g.shots.length = h.shots.length
  rotate_left
  · have hb : ((g.shots.length : Int) != (h.shots.length : Int)) = true := by simp; omega
    have HF : Hid (R = false) := hide (by rw [unhide HR2, eqShB_len hle])
    clear HR2 hle
    go_wp2
    go_ret
    exact ⟨ret_bool (unhide HF).symm, fr (unhide HA) (unhide HB1)⟩
  have hb : ((g.shots.length : Int) != (h.shots.length : Int)) = false := by simp [hle]
  have HLE := hide hle
  clear hle
  go_wp2
  clear c0 c1 d0 d1 hb
  go_loopw [5] (fun i wr => ∃ k : Nat, k ≤ g.shots.length ∧ i = .int .i64 k ∧ Hid (∀ j (p : j < g.shots.length) (p' : j < h.shots.length), j < k → eqS1 g.shots[j] h.shots[j] = true) ∧ Hid (Below W0.heap.size W0 wr)) (fun i _ => g.shots.length - (intOf i).toNat)
  case atStart => exact ⟨0, Nat.zero_le _, rfl, hide (fun j _ _ h => by omega), HB1⟩
  case round =>
    clear HB1
    obtain ⟨k, hk, rfl, HE, HB⟩ := hrel
    obtain ⟨c0, c1⟩ := ((unhide HV).below (unhide HB)).cells
    obtain ⟨d0, d1⟩ := ((unhide HU).below (unhide HB)).cells
    by_cases hlt : k < g.shots.length
    · have hlt' : k < h.shots.length := by rw [← unhide HLE]; exact hlt
      obtain ⟨b1, o1, q1, p1, e1, hn1, ht1, i1, _, hm1⟩ := ((unhide H1).below (unhide HB)).s k hlt
      obtain ⟨b2, o2, q2, p2, e2, hn2, ht2, i2, _, hm2⟩ := ((unhide H2).below (unhide HB)).s k hlt'
      have hki : (k : Int) < (g.shots.length : Int) := by omega
      have hki' : (k : Int) < (h.shots.length : Int) := by omega
      have HI1 := hide i1
      have HI2 := hide i2
      have HML := hide hm1
      rw [e1] at c1
      rw [e2] at d1
      clear e1 e2 i1 i2 hm1 hm2
      by_cases hnm : g.shots[k].name = h.shots[k].name
      rotate_left
      · have hne : (g.shots[k].name.toList == h.shots[k].name.toList) = false := str_beq_false hnm
        have HF : Hid (R = false) := hide (by rw [unhide HR2, eqShB_at hlt hlt' (by rw [eqS1, decide_eq_false hnm]; rfl)])
        clear hnm
        go_upto_region 6 with fail
        go_quiet (fail)
        go_wp2
        go_ret
        exact ⟨ret_bool (unhide HF).symm, fr (unhide HA) ((unhide HB).trans (Joins.below_draws _ _ _))⟩
      have hne : (g.shots[k].name.toList == h.shots[k].name.toList) = true := by rw [hnm]; simp
      have HNM := hide hnm
      clear hnm
      have HCALL : Hid (∀ n, Calls Try.prog 13 #[.slice q1 g.shots[k].table.length p1, .slice q2 h.shots[k].table.length p2] (wr.drewN n) fun e w' => e = .returned (.bool (eqNB g.shots[k].table h.shots[k].table)) ∧ ∃ m, w' = (wr.drewN n).drewN m) := hide (fun n => sameInts_drawsE q1 q2 p1 p2 g.shots[k].table h.shots[k].table (wr.drewN n) (unhide HML) ((unhide HI1).below (Joins.below_draws _ _ _)) ((unhide HI2).below (Joins.below_draws _ _ _)))
      cases ht : eqNB g.shots[k].table h.shots[k].table
      · have HF : Hid (R = false) := hide (by rw [unhide HR2, eqShB_at hlt hlt' (by rw [eqS1, ht, Bool.and_false])])
        rw [ht] at HCALL
        clear ht
        go_upto_region 6 with fail
        go_quiet ((go_at_call 13; refine Calls.quiet_of (unhide HCALL _)))
        go_wp2
        go_ret
        exact ⟨ret_bool (unhide HF).symm, fr (unhide HA) ((unhide HB).trans (Joins.below_draws _ _ _))⟩
      · have HE' := hide (eqS1_succ hlt hlt' (unhide HE) (by rw [eqS1, ht, decide_eq_true (unhide HNM)]; rfl))
        rw [ht] at HCALL
        clear ht
        go_upto_region 6 with fail
        go_quiet ((go_at_call 13; refine Calls.quiet_of (unhide HCALL _)))
        have HB5 : Hid (Below W0.heap.size W0 (wr.drewN nq)) := hide ((unhide HB).trans (Joins.below_draws _ _ _))
        clear c0 c1 d0 d1 hn1 ht1 hn2 ht2 HCALL
        go_wp2
        go_roundw
        case rel => exact ⟨k + 1, by omega, by go_num, HE', HB5⟩
        case measure => simp [intOf]; omega
    · have HT : Hid (R = true) := hide (by rw [unhide HR2, eqShB_yes (unhide HLE) (fun j p p' => unhide HE j p p' (by omega))])
      go_wp2
      go_ret
      exact ⟨ret_bool (unhide HT).symm, fr (unhide HA) (unhide HB)⟩

end Go.Proofs.Ythnpooffhopnkac

/- Contracts of the laws' sizes of images: szIntS, szSnap, szSnapS, szImage. (Made ahead of stage 10.) -/
namespace Go.Proofs.Ythnpooffhopnkac
open Go.RowKit
set_option linter.unusedVariables false
set_option maxRecDepth 100000

end Go.Proofs.Ythnpooffhopnkac

/- Contracts of the laws' comparison of images that are alike: eqSnap, eqSnapS, eqImage. (Made ahead of stage 10.) -/
namespace Go.Proofs.Ythnpooffhopnkac
open Go.RowKit
set_option linter.unusedVariables false
set_option maxRecDepth 100000

end Go.Proofs.Ythnpooffhopnkac

/- What the laws over images carry along. (Made ahead of stage 10.) -/
namespace Go.Proofs.Ythnpooffhopnkac
open Go.RowKit
set_option linter.unusedVariables false
set_option maxRecDepth 100000

/-- How great an image's lists are, for marks. -/
structure ImBd (m : Img) : Prop where
  r : m.refs.length ≤ 1048576
  t : m.table.length ≤ 1048576
  s : m.snaps.length ≤ 1048576
  d : m.data.length ≤ 1048576
  st : ∀ s ∈ m.snaps, s.table.length ≤ 1048576 ∧ s.name.size ≤ 1048576
  k : snK m.snaps ≤ 4194304
theorem snK_sz (ss : List Snp) : snK ss ≤ ss.length + snSz ss := by
  induction ss with
  | nil => exact Nat.le_refl _
  | cons s ss ih =>
    simp only [snK, snSz, List.map_cons, List.sum_cons, List.length_cons] at ih ⊢
    have e : sn1 s = s.name.size + s.table.length := rfl
    omega
theorem ImBd.of {m : Img} (h : imSz m ≤ 1048576) : ImBd m := by
  unfold imSz at h
  refine ⟨by omega, by omega, by omega, by omega, fun s hs => ?_, ?_⟩
  · obtain ⟨i, hi, rfl⟩ := List.mem_iff_getElem.1 hs
    have := sn_le hi
    unfold sn1 at this
    omega
  · have := snK_sz m.snaps
    omega
theorem ImBd.zs {m : Img} (h : ImBd m) : ∀ s ∈ m.snaps, s.name.size ≤ maxLen ∧ s.table.length ≤ maxLen := fun s hs => by have := h.st s hs; unfold maxLen; omega
theorem ImBd.M {m : Img} (h : ImM m) : ImBd m := by
  refine ⟨by rw [h.r]; omega, by have := h.t; omega, by have := h.s; omega, by rw [h.d]; omega, fun s hs => by have := h.st s hs; omega, ?_⟩
  have hs := h.s
  have hst := h.st
  have : ∀ ss : List Snp, (∀ s ∈ ss, s.table.length ≤ 12 ∧ s.name.size ≤ 6) → snK ss ≤ 13 * ss.length := by
    intro ss
    induction ss with
    | nil => intro _; exact Nat.le_refl _
    | cons s ss ih =>
      intro hh
      have h1 := hh s (by simp)
      have h2 := ih (fun s hs => hh s (by simp [hs]))
      simp only [snK, List.map_cons, List.sum_cons, List.length_cons] at h2 ⊢
      omega
  have := this m.snaps hst
  omega
theorem ImBd.zero : ImBd im0 := ⟨by simp [im0], by simp [im0], by simp [im0], by simp [im0], fun s hs => by simp [im0] at hs, by simp [im0, snK]⟩
/-- A variable with an image of its own, whose rows lie behind a place. -/
structure LwV (W : World) (p n : Nat) (a : Im4) (m : Img) (ts : List Value) : Prop where
  v : VarM W p 26 (.slice a.ro m.refs.length a.rc) (.slice a.tq m.table.length a.tc) (.slice a.so m.snaps.length a.sc) (.slice a.dq m.data.length a.dc)
  o : OwnIm W n a m ts
  n : n ≤ W.heap.size
theorem LwV.new (W : World) (a : Im4) (m : Img) {n : Nat} {ts : List Value} (h : OwnIm W n a m ts) (hn : n ≤ W.heap.size) : LwV (W.alloc (.cells #[.slice a.ro m.refs.length a.rc, .slice a.tq m.table.length a.tc, .slice a.so m.snaps.length a.sc, .slice a.dq m.data.length a.dc] 26)) W.heap.size n a m ts :=
  ⟨VarM.new W _ _ _ _ _, h.below (Joins.below_alloc1 _ _), by simp; omega⟩
theorem LwV.below {W W' : World} {p n : Nat} {a : Im4} {m : Img} {ts : List Value} (h : LwV W p n a m ts) (hb : Below W.heap.size W W') : LwV W' p n a m ts := ⟨h.v.below hb, h.o.below hb, Nat.le_trans h.n hb.size⟩
/-- Another image's rows are turned. -/
theorem LwV.keep {W W' : World} {p n q n' : Nat} {a b : Im4} {m m' : Img} {ts us : List Value} (h : LwV W p n a m ts) (h2 : LwV W q n' b m' us) (hk : Keep (ImB b m' us) W W') (hs : ∀ g, ImB a m ts g → ¬ ImB b m' us g) : LwV W' p n a m ts :=
  ⟨h.v.keepIm h2.o hk, h.o.keep hk hs, Nat.le_trans h.n hk.size⟩
end Go.Proofs.Ythnpooffhopnkac

/- Contracts of the laws' sizes of guests: szShot, szShotS, szGuest. (Written by gens/shot.py.) -/
namespace Go.Proofs.Ythnpooffhopnkac
open Go.RowKit
set_option linter.unusedVariables false
set_option maxRecDepth 100000

end Go.Proofs.Ythnpooffhopnkac

/- Contracts of the laws' comparison of guests that are alike: eqShot, eqShotS, eqGuest. (Written by gens/shot.py.) -/
namespace Go.Proofs.Ythnpooffhopnkac
open Go.RowKit
set_option linter.unusedVariables false
set_option maxRecDepth 100000

end Go.Proofs.Ythnpooffhopnkac

/- Contracts of the laws' own copies of guests: toShot, toShotS, toGuest. (Written by gens/shot.py.) -/
namespace Go.Proofs.Ythnpooffhopnkac
open Go.RowKit
set_option linter.unusedVariables false
set_option maxRecDepth 100000

theorem infoSh : (Try.prog.info? 42).map (fun i => (i.zero, i.size, i.bytes)) = some (some (.agg #[.string ⟨#[]⟩, .slice none 0 0]), 2, 40) := by kernel_rfl

end Go.Proofs.Ythnpooffhopnkac

/- Contracts of the laws' marks on guests: markShotS, heldShotS, markGuest, heldGuest. (Written by gens/shot.py.) -/
namespace Go.Proofs.Ythnpooffhopnkac
open Go.RowKit
set_option linter.unusedVariables false
set_option maxRecDepth 100000

/-- A guest that was marked, and how many marks it takes. -/
def mkGs (k : Nat) (g : Gst) : Gst := ⟨mkN k g.vals.length, mkSn (k + g.vals.length) g.shots⟩
def gsK (g : Gst) : Nat := g.vals.length + snK g.shots

end Go.Proofs.Ythnpooffhopnkac

/- What the laws over guests carry along. -/
namespace Go.Proofs.Ythnpooffhopnkac
open Go.RowKit
set_option linter.unusedVariables false
set_option maxRecDepth 100000

/-- How great a guest's lists are, for marks. -/
structure GsBd (g : Gst) : Prop where
  v : g.vals.length ≤ 1048576
  s : g.shots.length ≤ 1048576
  st : ∀ s ∈ g.shots, s.table.length ≤ 1048576 ∧ s.name.size ≤ 1048576
  k : snK g.shots ≤ 4194304
theorem GsBd.of {g : Gst} (h : gsSz g ≤ 1048576) : GsBd g := by
  unfold gsSz at h
  refine ⟨by omega, by omega, fun s hs => ?_, ?_⟩
  · obtain ⟨i, hi, rfl⟩ := List.mem_iff_getElem.1 hs
    have := sn_le hi
    unfold sn1 at this
    omega
  · have := snK_sz g.shots
    omega
theorem GsBd.zs {g : Gst} (h : GsBd g) : ∀ s ∈ g.shots, s.name.size ≤ maxLen ∧ s.table.length ≤ maxLen := fun s hs => by have := h.st s hs; unfold maxLen; omega
theorem GsBd.L {g : Gst} (h : GsBd g) : GsL g := ⟨by have := h.v; unfold maxLen; omega, by have := h.s; unfold maxLen; omega⟩
theorem snm_size {t : ByteArray} (h : snmB t = true) : t.size ≤ 6 := by
  simp only [snmB, Bool.and_eq_true] at h
  have := betw_iff.1 h.2
  omega
theorem GsBd.R {g : Gst} (h : GsR g) : GsBd g := by
  have hst : ∀ s ∈ g.shots, s.table.length ≤ 12 ∧ s.name.size ≤ 6 := fun s hs => ⟨(h.s s hs).2.1, snm_size (h.s s hs).1⟩
  refine ⟨by have := h.v; omega, by have := h.few; omega, fun s hs => by have := hst s hs; omega, ?_⟩
  have : ∀ ss : List Snp, (∀ s ∈ ss, s.table.length ≤ 12 ∧ s.name.size ≤ 6) → snK ss ≤ 13 * ss.length := by
    intro ss
    induction ss with
    | nil => intro _; exact Nat.le_refl _
    | cons s ss ih =>
      intro hh
      have h1 := hh s (by simp)
      have h2 := ih (fun s hs => hh s (by simp [hs]))
      simp only [snK, List.map_cons, List.sum_cons, List.length_cons] at h2 ⊢
      omega
  have := this g.shots hst
  have := h.few
  omega
theorem GsBd.zero : GsBd gs0 := ⟨by simp [gs0], by simp [gs0], fun s hs => by simp [gs0] at hs, by simp [gs0, snK]⟩
/-- A variable with a guest of its own, whose rows lie behind a place. -/
structure LwG (W : World) (p n : Nat) (a : Gs4) (g : Gst) (ts : List Value) : Prop where
  v : VarG W p 35 (.slice a.vo g.vals.length a.vc) (.slice a.so g.shots.length a.sc)
  o : OwnGs W n a g ts
  n : n ≤ W.heap.size
theorem LwG.new (W : World) (a : Gs4) (g : Gst) {n : Nat} {ts : List Value} (h : OwnGs W n a g ts) (hn : n ≤ W.heap.size) : LwG (W.alloc (.cells #[.slice a.vo g.vals.length a.vc, .slice a.so g.shots.length a.sc] 35)) W.heap.size n a g ts :=
  ⟨VarG.new W _ _ _, h.below (Joins.below_alloc1 _ _), by simp; omega⟩
theorem LwG.below {W W' : World} {p n : Nat} {a : Gs4} {g : Gst} {ts : List Value} (h : LwG W p n a g ts) (hb : Below W.heap.size W W') : LwG W' p n a g ts := ⟨h.v.below hb, h.o.below hb, Nat.le_trans h.n hb.size⟩
theorem VarG.keepGsI {w w' : World} {B x : Nat} {a : Gs4} {g : Gst} {ts : List Value} {v0 v1 : Value} (hv : VarG w x 35 v0 v1) (h : OwnGs w B a g ts) (hk : Keep (GsB a g ts) w w') : VarG w' x 35 v0 v1 := hv.keepGs h (by decide) (by decide) hk
/-- Another guest's rows are turned. -/
theorem LwG.keep {W W' : World} {p n q n' : Nat} {a b : Gs4} {g g' : Gst} {ts us : List Value} (h : LwG W p n a g ts) (h2 : LwG W q n' b g' us) (hk : Keep (GsB b g' us) W W') (hs : ∀ x, GsB a g ts x → ¬ GsB b g' us x) : LwG W' p n a g ts :=
  ⟨h.v.keepGsI h2.o hk, h.o.keep hk hs, Nat.le_trans h.n hk.size⟩
/-- An answer: a guest of its own and a code. -/
def AnsG (w w' : World) (e : Ending) (R : Gst × Int) : Prop := ∃ a ts, e = .returned (.tuple #[gsV a R.1, .int .i64 R.2]) ∧ OwnGs w' w.heap.size a R.1 ts ∧ Below w.heap.size w w'
theorem AnsG.of {w w' : World} {v : Value} {c : Int} {R : Gst × Int} {a : Gs4} {ts : List Value} (hv : v = gsV a R.1) (hc : c = R.2) (ho : OwnGs w' w.heap.size a R.1 ts) (hb : Below w.heap.size w w') : AnsG w w' (.returned (.tuple #[v, .int .i64 c])) R := ⟨a, ts, by rw [hv, hc], ho, hb⟩
theorem AnsG.bad {w w' : World} (c : Int) (hb : Below w.heap.size w w') : AnsG w w' (.returned (.tuple #[.agg #[.slice none 0 0, .slice none 0 0], .int .i64 c])) (gs0, c) := ⟨⟨none, 0, none, 0⟩, [], rfl, OwnGs.zero _ _, hb⟩

end Go.Proofs.Ythnpooffhopnkac
