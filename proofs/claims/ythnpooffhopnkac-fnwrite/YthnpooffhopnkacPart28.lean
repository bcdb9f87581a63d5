import Derived.Test.YthnpooffhopnkacRows
import Derived.Test.YthnpooffhopnkacPart1
import Derived.Test.YthnpooffhopnkacPart2
import Derived.Test.YthnpooffhopnkacPart4
import Derived.Test.YthnpooffhopnkacPart5
import Derived.Test.YthnpooffhopnkacPart11
import Derived.Test.YthnpooffhopnkacPart27
import Derived.WalkKit
import Derived.Laws.OwnMore
import Derived.WalkSpells
import Derived.KernelRfl
import Derived.LoopN
import Derived.BigQuiet
import Derived.Deep.QuietTactic
import Derived.Deep.CutRange
import Derived.Deep.RegionWith
import Derived.Deep.RegionHeld3
import Derived.Test.YthnpooffhopnkacPart3
import Derived.Test.YthnpooffhopnkacPart16
import Derived.Test.YthnpooffhopnkacPart18
import Derived.Test.YthnpooffhopnkacPart19
import Derived.Test.YthnpooffhopnkacPart7
import Derived.Test.YthnpooffhopnkacImY
import Derived.Test.YthnpooffhopnkacImX
import Derived.Test.YthnpooffhopnkacPart22

/- Guests in memory: shown, and owned. -/
namespace Go.Proofs.Ythnpooffhopnkac
open Go.RowKit
set_option linter.unusedVariables false
set_option maxRecDepth 100000

/-- Where a guest's two lists lie. -/
structure Gs4 where
  vo : Option Addr
  vc : Nat
  so : Option Addr
  sc : Nat
abbrev gsV (a : Gs4) (g : Gst) : Value := .agg #[.slice a.vo g.vals.length a.vc, .slice a.so g.shots.length a.sc]
/-- A guest is shown. -/
structure GsS (w : World) (a : Gs4) (g : Gst) : Prop where
  v : Is w a.vo g.vals
  s : Sns w a.so g.shots
theorem GsS.below {w w' : World} {a : Gs4} {g : Gst} (h : GsS w a g) (hb : Below w.heap.size w w') : GsS w' a g := ⟨h.v.below hb, h.s.below hb⟩
def gsSz (g : Gst) : Nat := g.vals.length + (g.shots.length + snSz g.shots)
/-- Its rows of numbers. -/
def gsRows (a : Gs4) (g : Gst) (ts : List Value) : List (Value × List Int) := (.slice a.vo g.vals.length a.vc, g.vals) :: ts.zip (g.shots.map (·.table))
/-- A guest of the call's own. -/
structure OwnGs (w : World) (B : Nat) (a : Gs4) (g : Gst) (ts : List Value) : Prop where
  len : g.shots.length = ts.length
  s : OwnS w B 42 2 (.slice a.so g.shots.length a.sc) g.shots.length (snC g.shots ts)
  rows : OwnA w B (gsRows a g ts)
theorem OwnGs.below {w w' : World} {B : Nat} {a : Gs4} {g : Gst} {ts : List Value} (h : OwnGs w B a g ts) (hb : Below w.heap.size w w') : OwnGs w' B a g ts := ⟨h.len, h.s.below hb, h.rows.below hb⟩
theorem OwnGs.base {w : World} {B B' : Nat} {a : Gs4} {g : Gst} {ts : List Value} (h : OwnGs w B a g ts) (hB : B' ≤ B) : OwnGs w B' a g ts := ⟨h.len, h.s.base hB, h.rows.base hB⟩
theorem OwnGs.zero (w : World) (B : Nat) : OwnGs w B ⟨none, 0, none, 0⟩ gs0 [] := ⟨rfl, .inl ⟨rfl, rfl, none, 0, rfl⟩, OwnA.one ⟨none, 0, rfl, .inl ⟨rfl, rfl, none, rfl⟩⟩⟩
/-- The blocks that a guest has. -/
def GsB (a : Gs4) (g : Gst) (ts : List Value) (x : Nat) : Prop := Own (.slice a.vo g.vals.length a.vc) x ∨ Own (.slice a.so g.shots.length a.sc) x ∨ ∃ t ∈ ts, Own t x
theorem OwnGs.mem {w : World} {B : Nat} {a : Gs4} {g : Gst} {ts : List Value} (h : OwnGs w B a g ts) {t : Value} (ht : t ∈ ts) : ∃ p ∈ ts.zip (g.shots.map (·.table)), p.1 = t := by
  have hm : t ∈ (ts.zip (g.shots.map (·.table))).map Prod.fst := by rw [zip_fst _ _ (by rw [List.length_map, h.len])]; exact ht
  obtain ⟨p, hp, e⟩ := List.mem_map.1 hm
  exact ⟨p, hp, e⟩
theorem OwnGs.ge {w : World} {B : Nat} {a : Gs4} {g : Gst} {ts : List Value} (h : OwnGs w B a g ts) : ∀ x, GsB a g ts x → B ≤ x ∧ x < w.heap.size := by
  intro x hg
  rcases hg with h1 | h1 | ⟨t, ht, h1⟩
  · exact (h.rows.own (.slice a.vo g.vals.length a.vc, g.vals) (by simp [gsRows])).ge x h1
  · exact h.s.ge x h1
  · obtain ⟨p, hp, rfl⟩ := h.mem ht
    exact (h.rows.own p (by simp [gsRows, hp])).ge x h1
theorem OwnGs.keep {w w' : World} {B : Nat} {a : Gs4} {g : Gst} {ts : List Value} {S : Nat → Prop} (h : OwnGs w B a g ts) (hk : Keep S w w') (hs : ∀ x, GsB a g ts x → ¬ S x) : OwnGs w' B a g ts := by
  refine ⟨h.len, h.s.keep hk (fun x hx => hs x (.inr (.inl hx))), h.rows.keep hk (fun r hr x hx => hs x ?_)⟩
  unfold gsRows at hr
  simp only [List.mem_cons] at hr
  rcases hr with rfl | hr
  · exact .inl hx
  · exact .inr (.inr ⟨r.1, (List.of_mem_zip (a := r.1) (b := r.2) hr).1, hx⟩)
theorem OwnGs.setCell {w : World} {B : Nat} {a : Gs4} {g : Gst} {ts : List Value} (h : OwnGs w B a g ts) {p : Addr} (hp : p.block < B) (u : Value) : OwnGs (w.setCell p u) B a g ts := ⟨h.len, h.s.setCell hp u, h.rows.setCell hp u⟩
/-- A guest that is owned is shown. -/
theorem OwnGs.shows {w : World} {B : Nat} {a : Gs4} {g : Gst} {ts : List Value} (h : OwnGs w B a g ts) (hz : ∀ s ∈ g.shots, s.name.size ≤ maxLen ∧ s.table.length ≤ maxLen) : GsS w a g := by
  refine ⟨ownRN (h.rows.own (.slice a.vo g.vals.length a.vc, g.vals) (by simp [gsRows])).row, fun i hi => ?_⟩
  have hp : 0 < g.shots.length := by omega
  have hit : i < ts.length := by rw [← h.len]; exact hi
  have hs := h.s.row hp
  obtain ⟨b, cap, cur, e, _, _⟩ := own_form hp hs
  rw [e] at hs
  simp only [Value.slice.injEq, true_and] at e
  obtain ⟨e1, e2⟩ := e
  have hgs := snC_get (List.getElem?_eq_getElem hi) (List.getElem?_eq_getElem hit)
  have hm : (ts[i], g.shots[i].table) ∈ gsRows a g ts := by
    have : (ts.zip (g.shots.map (·.table)))[i]? = some (ts[i], g.shots[i].table) := by
      rw [List.getElem?_zip_eq_some]
      exact ⟨List.getElem?_eq_getElem hit, by simp [hi]⟩
    simp [gsRows, List.mem_of_getElem? this]
  obtain ⟨tq, tc, et, ho⟩ := h.rows.own _ hm
  simp only at et ho
  refine ⟨b, 0, tq, tc, e1, ?_, ?_, ownRN ho, (hz _ (List.getElem_mem hi)).1, (hz _ (List.getElem_mem hi)).2⟩
  · rw [Nat.zero_add]; exact (hs.cellAt (i * 2) (by omega)).trans hgs.1
  · rw [Nat.zero_add]; exact (hs.cellAt (i * 2 + 1) (by omega)).trans (by rw [hgs.2, et])
/-- A variable of two lists. -/
def VarG (w : World) (x : Nat) (t : TypeId) (v0 v1 : Value) : Prop := w.heap[x]? = some (.cells #[v0, v1] t (0, 0))
theorem VarG.lt {w : World} {x t : Nat} {v0 v1 : Value} (k : VarG w x t v0 v1) : x < w.heap.size := (Array.getElem?_eq_some_iff.1 k).1
theorem VarG.cells {w : World} {x t : Nat} {v0 v1 : Value} (k : VarG w x t v0 v1) : w.cell? ⟨x, 0, none⟩ = some v0 ∧ w.cell? ⟨x, 1, none⟩ = some v1 := ⟨by rw [Joins.cell_of_block k]; rfl, by rw [Joins.cell_of_block k]; rfl⟩
theorem VarG.free {w : World} {x t : Nat} {v0 v1 : Value} (k : VarG w x t v0 v1) : w.frozen? ⟨x, 0, none⟩ = false ∧ w.frozen? ⟨x, 1, none⟩ = false := ⟨Joins.unfrozen_of_block k 0, Joins.unfrozen_of_block k 1⟩
theorem VarG.below {w w' : World} {x t : Nat} {v0 v1 : Value} (k : VarG w x t v0 v1) (hb : Below w.heap.size w w') : VarG w' x t v0 v1 := by
  unfold VarG; rw [hb.block x k.lt]; exact k
theorem VarG.new (w : World) (t : TypeId) (v0 v1 : Value) : VarG (w.alloc (.cells #[v0, v1] t)) w.heap.size t v0 v1 := heap_alloc_new w _
theorem VarG.other {w : World} {x t : Nat} {v0 v1 : Value} (h : VarG w x t v0 v1) {p : Addr} (hp : x ≠ p.block) (u : Value) : VarG (w.setCell p u) x t v0 v1 := by
  unfold VarG; rw [Below.heap_setCell w p u x hp]; exact h
theorem VarG.set0 {w : World} {x t : Nat} {v0 v1 : Value} (h : VarG w x t v0 v1) (u : Value) : VarG (w.setCell ⟨x, 0, none⟩ u) x t u v1 := Joins.block_setCell (i := 0) h u
theorem VarG.set1 {w : World} {x t : Nat} {v0 v1 : Value} (h : VarG w x t v0 v1) (u : Value) : VarG (w.setCell ⟨x, 1, none⟩ u) x t v0 u := Joins.block_setCell (i := 1) h u
theorem VarG.at {w : World} {x y t : Nat} {v0 v1 : Value} (h : VarG w x t v0 v1) (e : x = y) : VarG w y t v0 v1 := e ▸ h
theorem OwnGs.otherV {w : World} {B x t : Nat} {a : Gs4} {g : Gst} {ts : List Value} {c : Array Value} {f : Nat × Nat} (h : OwnGs w B a g ts) (hv : w.heap[x]? = some (.cells c t f)) (h1 : t ≠ 3) (h2 : t ≠ 42) : ¬ GsB a g ts x := by
  intro hx
  rcases hx with k1 | k1 | ⟨u, hu, k1⟩
  · exact (h.rows.own (.slice a.vo g.vals.length a.vc, g.vals) (by simp [gsRows])).row.other hv h1 k1
  · exact h.s.other hv h2 k1
  · obtain ⟨p, hp, rfl⟩ := h.mem hu
    exact (h.rows.own p (by simp [gsRows, hp])).row.other hv h1 k1
theorem VarG.keepGs {w w' : World} {B x t : Nat} {a : Gs4} {g : Gst} {ts : List Value} {v0 v1 : Value} (hv : VarG w x t v0 v1) (h : OwnGs w B a g ts) (h1 : t ≠ 3) (h2 : t ≠ 42) (hk : Keep (GsB a g ts) w w') : VarG w' x t v0 v1 := (hk.block x hv.lt (h.otherV hv h1 h2)).trans hv

end Go.Proofs.Ythnpooffhopnkac

/- Contracts of the laws' sizes of guests: szShot, szShotS, szGuest. (Written by gens/shot.py.) -/
namespace Go.Proofs.Ythnpooffhopnkac
open Go.RowKit
set_option linter.unusedVariables false
set_option maxRecDepth 100000

end Go.Proofs.Ythnpooffhopnkac

/- Contracts of the laws' comparison of guests that are alike: eqShot, eqShotS, eqGuest. (Written by gens/shot.py.) -/
namespace Go.Proofs.Ythnpooffhopnkac
open Go.RowKit
set_option linter.unusedVariables false
set_option maxRecDepth 100000

end Go.Proofs.Ythnpooffhopnkac

/- Contracts of the laws' own copies of guests: toShot, toShotS, toGuest. (Written by gens/shot.py.) -/
namespace Go.Proofs.Ythnpooffhopnkac
open Go.RowKit
set_option linter.unusedVariables false
set_option maxRecDepth 100000

theorem infoSh : (Try.prog.info? 42).map (fun i => (i.zero, i.size, i.bytes)) = some (some (.agg #[.string ⟨#[]⟩, .slice none 0 0]), 2, 40) := by kernel_rfl

end Go.Proofs.Ythnpooffhopnkac

/- Contracts of the laws' marks on guests: markShotS, heldShotS, markGuest, heldGuest. (Written by gens/shot.py.) -/
namespace Go.Proofs.Ythnpooffhopnkac
open Go.RowKit
set_option linter.unusedVariables false
set_option maxRecDepth 100000

/-- A guest that was marked, and how many marks it takes. -/
def mkGs (k : Nat) (g : Gst) : Gst := ⟨mkN k g.vals.length, mkSn (k + g.vals.length) g.shots⟩
def gsK (g : Gst) : Nat := g.vals.length + snK g.shots

end Go.Proofs.Ythnpooffhopnkac

/- What the laws over guests carry along. -/
namespace Go.Proofs.Ythnpooffhopnkac
open Go.RowKit
set_option linter.unusedVariables false
set_option maxRecDepth 100000

/-- How great a guest's lists are, for marks. -/
structure GsBd (g : Gst) : Prop where
  v : g.vals.length ≤ 1048576
  s : g.shots.length ≤ 1048576
  st : ∀ s ∈ g.shots, s.table.length ≤ 1048576 ∧ s.name.size ≤ 1048576
  k : snK g.shots ≤ 4194304
theorem GsBd.of {g : Gst} (h : gsSz g ≤ 1048576) : GsBd g := by
  unfold gsSz at h
  refine ⟨by omega, by omega, fun s hs => ?_, ?_⟩
  · obtain ⟨i, hi, rfl⟩ := List.mem_iff_getElem.1 hs
    have := sn_le hi
    unfold sn1 at this
    omega
  · have := snK_sz g.shots
    omega
theorem GsBd.zs {g : Gst} (h : GsBd g) : ∀ s ∈ g.shots, s.name.size ≤ maxLen ∧ s.table.length ≤ maxLen := fun s hs => by have := h.st s hs; unfold maxLen; omega
theorem GsBd.L {g : Gst} (h : GsBd g) : GsL g := ⟨by have := h.v; unfold maxLen; omega, by have := h.s; unfold maxLen; omega⟩
theorem snm_size {t : ByteArray} (h : snmB t = true) : t.size ≤ 6 := by
  simp only [snmB, Bool.and_eq_true] at h
  have := betw_iff.1 h.2
  omega
theorem GsBd.R {g : Gst} (h : GsR g) : GsBd g := by
  have hst : ∀ s ∈ g.shots, s.table.length ≤ 12 ∧ s.name.size ≤ 6 := fun s hs => ⟨(h.s s hs).2.1, snm_size (h.s s hs).1⟩
  refine ⟨by have := h.v; omega, by have := h.few; omega, fun s hs => by have := hst s hs; omega, ?_⟩
  have : ∀ ss : List Snp, (∀ s ∈ ss, s.table.length ≤ 12 ∧ s.name.size ≤ 6) → snK ss ≤ 13 * ss.length := by
    intro ss
    induction ss with
    | nil => intro _; exact Nat.le_refl _
    | cons s ss ih =>
      intro hh
      have h1 := hh s (by simp)
      have h2 := ih (fun s hs => hh s (by simp [hs]))
      simp only [snK, List.map_cons, List.sum_cons, List.length_cons] at h2 ⊢
      omega
  have := this g.shots hst
  have := h.few
  omega
theorem GsBd.zero : GsBd gs0 := ⟨by simp [gs0], by simp [gs0], fun s hs => by simp [gs0] at hs, by simp [gs0, snK]⟩
/-- A variable with a guest of its own, whose rows lie behind a place. -/
structure LwG (W : World) (p n : Nat) (a : Gs4) (g : Gst) (ts : List Value) : Prop where
  v : VarG W p 35 (.slice a.vo g.vals.length a.vc) (.slice a.so g.shots.length a.sc)
  o : OwnGs W n a g ts
  n : n ≤ W.heap.size
theorem LwG.new (W : World) (a : Gs4) (g : Gst) {n : Nat} {ts : List Value} (h : OwnGs W n a g ts) (hn : n ≤ W.heap.size) : LwG (W.alloc (.cells #[.slice a.vo g.vals.length a.vc, .slice a.so g.shots.length a.sc] 35)) W.heap.size n a g ts :=
  ⟨VarG.new W _ _ _, h.below (Joins.below_alloc1 _ _), by simp; omega⟩
theorem LwG.below {W W' : World} {p n : Nat} {a : Gs4} {g : Gst} {ts : List Value} (h : LwG W p n a g ts) (hb : Below W.heap.size W W') : LwG W' p n a g ts := ⟨h.v.below hb, h.o.below hb, Nat.le_trans h.n hb.size⟩
theorem VarG.keepGsI {w w' : World} {B x : Nat} {a : Gs4} {g : Gst} {ts : List Value} {v0 v1 : Value} (hv : VarG w x 35 v0 v1) (h : OwnGs w B a g ts) (hk : Keep (GsB a g ts) w w') : VarG w' x 35 v0 v1 := hv.keepGs h (by decide) (by decide) hk
/-- Another guest's rows are turned. -/
theorem LwG.keep {W W' : World} {p n q n' : Nat} {a b : Gs4} {g g' : Gst} {ts us : List Value} (h : LwG W p n a g ts) (h2 : LwG W q n' b g' us) (hk : Keep (GsB b g' us) W W') (hs : ∀ x, GsB a g ts x → ¬ GsB b g' us x) : LwG W' p n a g ts :=
  ⟨h.v.keepGsI h2.o hk, h.o.keep hk hs, Nat.le_trans h.n hk.size⟩
/-- An answer: a guest of its own and a code. -/
def AnsG (w w' : World) (e : Ending) (R : Gst × Int) : Prop := ∃ a ts, e = .returned (.tuple #[gsV a R.1, .int .i64 R.2]) ∧ OwnGs w' w.heap.size a R.1 ts ∧ Below w.heap.size w w'
theorem AnsG.of {w w' : World} {v : Value} {c : Int} {R : Gst × Int} {a : Gs4} {ts : List Value} (hv : v = gsV a R.1) (hc : c = R.2) (ho : OwnGs w' w.heap.size a R.1 ts) (hb : Below w.heap.size w w') : AnsG w w' (.returned (.tuple #[v, .int .i64 c])) R := ⟨a, ts, by rw [hv, hc], ho, hb⟩
theorem AnsG.bad {w w' : World} (c : Int) (hb : Below w.heap.size w w') : AnsG w w' (.returned (.tuple #[.agg #[.slice none 0 0, .slice none 0 0], .int .i64 c])) (gs0, c) := ⟨⟨none, 0, none, 0⟩, [], rfl, OwnGs.zero _ _, hb⟩

end Go.Proofs.Ythnpooffhopnkac

/- Plain: what an image shows behind what is done to it (the theorem of copy-on-write). -/
namespace Go.Proofs.Ythnpooffhopnkac
open Go.RowKit
set_option linter.unusedVariables false
set_option maxRecDepth 100000

theorem shT_len (m : Img) (t : List Int) : (shT m t).length = t.length := by simp [shT]
theorem shT_like {m m' : Img} {t : List Int} (h : ∀ e ∈ t, imVal m' e = imVal m e) : shT m' t = shT m t := List.map_congr_left h
theorem gsOf_like {m m' : Img} (hs : m'.snaps = m.snaps) (h : ∀ s ∈ m.snaps, ∀ e ∈ s.table, imVal m' e = imVal m e) : (gsOf m').shots = (gsOf m).shots := by
  simp only [gsOf, hs]
  exact List.map_congr_left (fun s hs => by rw [shT_like (h s hs)])
/-- What a table has is counted. -/
theorem cN_mem {t : List Int} {e : Int} (he : e ∈ t) (h2 : ¬ e < 2) : 1 ≤ cN t (e - 2).toNat := by
  obtain ⟨j, hj, rfl⟩ := List.mem_iff_getElem.1 he
  exact cN_pos hj (by omega)
theorem cN_le_all {ts : List (List Int)} {t : List Int} (ht : t ∈ ts) (i : Nat) : cN t i ≤ sN ts i := by
  obtain ⟨j, hj, rfl⟩ := List.mem_iff_getElem.1 ht
  exact cN_le_sN i hj
theorem tab_lt {t : List Int} (hb : tbB t = true) {e : Int} (he : e ∈ t) : 0 ≤ e ∧ (e - 2).toNat < 24 := by
  obtain ⟨j, hj, rfl⟩ := List.mem_iff_getElem.1 he
  have := tbB_at hb j hj
  omega
/-- Fitted, an image shows what it showed. -/
theorem val_fit {m : Img} (ht : ∀ t ∈ imTabs m, tbB t = true) {t : List Int} (hm : t ∈ imTabs m) {e : Int} (he : e ∈ t) : imVal (imFit m) e = imVal m e := by
  unfold imVal
  by_cases h2 : e < 2
  · rw [if_pos h2, if_pos h2]
  · rw [if_neg h2, if_neg h2]
    have hi := (tab_lt (ht t hm) he).2
    have h1 := cN_mem he h2
    have h3 := cN_le_all hm (e - 2).toNat
    have hn : ¬ (imCnt m).getD (e - 2).toNat 0 = 0 := by rw [cnt_get ht hi]; omega
    unfold imFit
    simp only
    rw [range_getD hi, if_neg hn]
theorem gs_fit {m : Img} (ht : ∀ t ∈ imTabs m, tbB t = true) : gsOf (imFit m) = gsOf m := by
  unfold gsOf
  have e1 : shT (imFit m) (imFit m).table = shT m m.table := shT_like (fun e he => val_fit ht (show m.table ∈ imTabs m by simp [imTabs]) he)
  have e2 : (imFit m).snaps.map (fun s => (⟨s.name, shT (imFit m) s.table⟩ : Snp)) = m.snaps.map (fun s => (⟨s.name, shT m s.table⟩ : Snp)) := by
    show m.snaps.map _ = _
    exact List.map_congr_left (fun s hs => by rw [shT_like (fun e he => val_fit ht (by simp only [imTabs, List.mem_cons, List.mem_map]; exact .inr ⟨s, hs, rfl⟩) he)])
  rw [e1, e2]
theorem val_lo {m m' : Img} {e : Int} (h : e < 2) : imVal m' e = imVal m e := by unfold imVal; rw [if_pos h, if_pos h]
/-- Zeroed. -/
theorem cow_zero {m : Img} (h : ImR m) {g : Nat} (hg : g < m.table.length) : gsOf (imZero m g) = ⟨(gsOf m).vals.set g 0, (gsOf m).shots⟩ := by
  rw [← fit_zero h hg, gs_fit (tabs_with h (tbB_set h.table g (by omega) (by omega)) m.data)]
  show (⟨(m.table.set g 1).map (imVal m), _⟩ : Gst) = _
  rw [List.map_set]
  rfl
/-- Of another size. -/
theorem cow_resize {m : Img} (h : ImR m) {n : Nat} (hn : n ≤ 12) : gsOf (imResize m n) = ⟨rzTo (gsOf m).vals n, (gsOf m).shots⟩ := by
  rw [← fit_resize h hn, gs_fit (tabs_with h (tbB_rz h.table hn) m.data)]
  have e : shT m (rzTo m.table n) = rzTo (shT m m.table) n := by
    unfold shT rzTo
    rw [List.map_map]
    refine List.map_congr_left (fun i _ => ?_)
    simp only [Function.comp, List.getD_eq_getElem?_getD, List.getElem?_map]
    cases m.table[i]? with
    | none => rfl
    | some x => rfl
  show (⟨shT m (rzTo m.table n), _⟩ : Gst) = _
  rw [e]; rfl
/-- Another number of a cluster. -/
theorem val_set {m : Img} {c : Nat} (hc : c < m.data.length) (v : Int) {e : Int} (he : 0 ≤ e) : imVal { m with data := m.data.set c v } e = if e = (c : Int) + 2 then v else imVal m e := by
  unfold imVal
  by_cases h2 : e < 2
  · rw [if_pos h2, if_pos h2, if_neg (by omega)]
  · rw [if_neg h2, if_neg h2]
    by_cases h3 : e = (c : Int) + 2
    · rw [if_pos h3]
      have : (e - 2).toNat = c := by omega
      simp [this, List.getD, hc]
    · rw [if_neg h3]
      have : ¬ c = (e - 2).toNat := by omega
      simp [List.getD, this]
theorem no_mem {t : List Int} {c : Nat} (h : cN t c ≤ 0) : (c : Int) + 2 ∉ t := fun hm => by
  obtain ⟨j, hj, e⟩ := List.mem_iff_getElem.1 hm
  have := cN_pos (i := c) hj e
  omega
theorem cow_in {m : Img} (h : ImR m) {g c : Nat} (v : Int) (hg : g < m.table.length) (hc : m.table[g] = (c : Int) + 2) (hc24 : c < 24) (h1 : m.refs.getD c 0 = 1) : gsOf { m with data := m.data.set c v } = ⟨(gsOf m).vals.set g v, (gsOf m).shots⟩ := by
  have hcd : c < m.data.length := by rw [h.len]; exact hc24
  have ha := h.cntA hc24
  rw [h1, sN_tabs] at ha
  have hp := cN_pos hg hc
  have hs0 : sN (m.snaps.map (·.table)) c = 0 := by have := sN_nn (m.snaps.map (·.table)) c; omega
  have hs : ∀ s ∈ m.snaps, (c : Int) + 2 ∉ s.table := fun s hs => no_mem (by
    have := cN_le_all (List.mem_map.2 ⟨s, hs, rfl⟩ : s.table ∈ m.snaps.map (·.table)) c
    omega)
  have hone : ∀ j (hj : j < m.table.length), j ≠ g → m.table[j] ≠ (c : Int) + 2 := fun j hj hne e => by
    have hcs : cN (m.table.set g 0) c = cN m.table c - 1 := by
      rw [cN_set hg, if_pos hc, if_neg (by omega)]; omega
    have hjs : (m.table.set g 0)[j]'(by simpa using hj) = (c : Int) + 2 := by rw [List.getElem_set_ne (fun h => hne h.symm)]; exact e
    have := cN_pos (t := m.table.set g 0) (i := c) (by simpa using hj) hjs
    have hle := h.cN_le c hc24
    omega
  have e1 : shT { m with data := m.data.set c v } m.table = (shT m m.table).set g v := by
    refine List.ext_getElem (by simp [shT]) (fun j hj hj' => ?_)
    have hjt : j < m.table.length := by simpa [shT] using hj
    have h0 := (tab_lt h.table (List.getElem_mem hjt)).1
    rw [List.getElem_set]
    simp only [shT, List.getElem_map]
    rw [val_set hcd v h0]
    by_cases hjg : g = j
    · subst hjg
      rw [if_pos rfl, if_pos hc]
    · rw [if_neg hjg, if_neg (hone j hjt (fun e => hjg e.symm))]
  have e2 : (gsOf { m with data := m.data.set c v }).shots = (gsOf m).shots := gsOf_like rfl (fun s hs' e he => by
    have h0 := (tab_lt (h.snaps s hs').2 he).1
    rw [val_set hcd v h0, if_neg (show ¬ e = (c : Int) + 2 from fun e2 => hs s hs' (by rw [← e2]; exact he))])
  show (⟨shT { m with data := m.data.set c v } m.table, (gsOf { m with data := m.data.set c v }).shots⟩ : Gst) = _
  rw [e1, e2]; rfl
theorem cow_out {m : Img} (h : ImR m) {g c : Nat} (v : Int) (hg : g < m.table.length) (hc24 : c < 24) (h0 : m.refs.getD c 0 = 0) : gsOf { m with table := m.table.set g (2 + (c : Int)), data := m.data.set c v } = ⟨(gsOf m).vals.set g v, (gsOf m).shots⟩ := by
  have hcd : c < m.data.length := by rw [h.len]; exact hc24
  have ha := h.cntA hc24
  rw [h0] at ha
  have hno : ∀ t ∈ imTabs m, (c : Int) + 2 ∉ t := fun t ht => no_mem (by have := cN_le_all ht c; omega)
  have hv : ∀ t ∈ imTabs m, ∀ e ∈ t, imVal { m with table := m.table.set g (2 + (c : Int)), data := m.data.set c v } e = imVal m e := fun t ht e he => by
    have he0 := (tab_lt (h.tabs t ht) he).1
    have := val_set (m := m) hcd v he0
    rw [if_neg (show ¬ e = (c : Int) + 2 from fun e2 => hno t ht (by rw [← e2]; exact he))] at this
    exact this
  have e1 : shT { m with table := m.table.set g (2 + (c : Int)), data := m.data.set c v } (m.table.set g (2 + (c : Int))) = (shT m m.table).set g v := by
    unfold shT
    rw [List.map_set]
    have hx : imVal { m with table := m.table.set g (2 + (c : Int)), data := m.data.set c v } (2 + (c : Int)) = v := by
      have := val_set (m := m) hcd v (e := 2 + (c : Int)) (by omega)
      rw [if_pos (by omega)] at this
      exact this
    rw [hx]
    congr 1
    exact List.map_congr_left (hv m.table (by simp [imTabs]))
  have e2 : (gsOf { m with table := m.table.set g (2 + (c : Int)), data := m.data.set c v }).shots = (gsOf m).shots := gsOf_like rfl (fun s hs e he => hv s.table (by simp only [imTabs, List.mem_cons, List.mem_map]; exact .inr ⟨s, hs, rfl⟩) e he)
  show (⟨shT _ (m.table.set g (2 + (c : Int))), (gsOf { m with table := m.table.set g (2 + (c : Int)), data := m.data.set c v }).shots⟩ : Gst) = _
  rw [e1, e2]; rfl
/-- Written: what is shown, or the image is full. -/
theorem cow_write {m : Img} (h : ImR m) {g : Nat} (hg : g < m.table.length) (v : Int) : ((imWrite m g v).2 = 0 ∧ gsOf (imWrite m g v).1 = ⟨(gsOf m).vals.set g v, (gsOf m).shots⟩) ∨ imWrite m g v = (m, 7) := by
  have hb := tbB_at h.table g hg
  by_cases h1 : 2 ≤ m.table[g] ∧ m.refs.getD (m.table[g] - 2).toNat 0 = 1
  · have hc : m.table[g] = (((m.table[g] - 2).toNat : Nat) : Int) + 2 := by omega
    have hr : (m.table[g] - 2).toNat < m.refs.length := by rw [h.rl]; omega
    have h1' : m.refs[(m.table[g] - 2).toNat] = 1 := by have := h1.2; simpa [List.getD, hr] using this
    rw [imWrite_in hg hc hr h1']
    exact .inl ⟨rfl, cow_in h v hg hc (by omega) h1.2⟩
  · rw [imWrite_out hg h1]
    by_cases h2 : frN m.refs < m.refs.length
    · rw [if_pos h2]
      have hc24 : frN m.refs < 24 := by rw [h.rl] at h2; exact h2
      have h0 := free_spec h2
      refine .inl ⟨rfl, ?_⟩
      rw [← fit_out h v hg hc24 h0, gs_fit]
      · exact cow_out h v hg hc24 h0
      · exact tabs_with h (tbB_set h.table g (by omega) (by omega)) (m.data.set (frN m.refs) v)
    · rw [if_neg h2]; exact .inr rfl
/-- A snapshot is made. -/
theorem cow_create {m : Img} (h : ImR m) (name : ByteArray) : gsOf { imRaise m m.table with snaps := m.snaps ++ [⟨name, m.table⟩] } = ⟨(gsOf m).vals, (gsOf m).shots ++ [⟨name, (gsOf m).vals⟩]⟩ := by
  show (⟨shT m m.table, (m.snaps ++ [(⟨name, m.table⟩ : Snp)]).map (fun s : Snp => (⟨s.name, shT m s.table⟩ : Snp))⟩ : Gst) = _
  rw [List.map_append]; rfl
/-- A snapshot is deleted. -/
theorem cow_delete {m : Img} (h : ImR m) {k : Nat} (hk : k < m.snaps.length) : gsOf { imDrops m m.snaps[k].table with snaps := m.snaps.eraseIdx k } = ⟨(gsOf m).vals, (gsOf m).shots.eraseIdx k⟩ := by
  rw [← fit_delete h hk, gs_fit]
  · show (⟨shT m m.table, (m.snaps.eraseIdx k).map (fun s => (⟨s.name, shT m s.table⟩ : Snp))⟩ : Gst) = _
    have e : ∀ (ss : List Snp) (k : Nat), (ss.eraseIdx k).map (fun s => (⟨s.name, shT m s.table⟩ : Snp)) = (ss.map (fun s => (⟨s.name, shT m s.table⟩ : Snp))).eraseIdx k := fun ss k => map_eraseA _ ss k
    rw [e]; rfl
  · intro t ht
    have ht' : t ∈ m.table :: (m.snaps.eraseIdx k).map (·.table) := ht
    rw [List.mem_cons, map_erase] at ht'
    rcases ht' with rfl | ht'
    · exact h.table
    · exact h.tabs t (by unfold imTabs; exact List.mem_cons_of_mem _ (List.mem_of_mem_eraseIdx ht'))
/-- A snapshot is gone back to. -/
theorem cow_revert {m : Img} (h : ImR m) {k : Nat} (hk : k < m.snaps.length) : gsOf { imDrops (imRaise m m.snaps[k].table) m.table with table := m.snaps[k].table } = ⟨shT m m.snaps[k].table, (gsOf m).shots⟩ := by
  rw [← fit_revert h hk, gs_fit (tabs_with h (h.snaps _ (List.getElem_mem hk)).2 m.data)]
  rfl
theorem gsOf_vlen (m : Img) : (gsOf m).vals.length = m.table.length := by simp [gsOf, shT]
theorem gsOf_slen (m : Img) : (gsOf m).shots.length = m.snaps.length := by simp [gsOf]

end Go.Proofs.Ythnpooffhopnkac

/- Contracts of NewGuest of both; a guest put into a variable. -/
namespace Go.Proofs.Ythnpooffhopnkac
open Go.RowKit
set_option linter.unusedVariables false
set_option maxRecDepth 100000

theorem infoIg : (Try.prog.info? 3).map (fun i => (i.zero, i.size, i.bytes)) = some (some (.int .i64 0), 1, 8) := by kernel_rfl
theorem res_gc {fn : Func} {p u : Tmp} {v0 v1 z : Value} {x : Nat} {W : World} {tmps : Array Value} (h : fn.results = #[.cell p 35, .tmp u]) (hp : tmps.getD p undef = .pointer (some ⟨x, 0, none⟩)) (hu : tmps.getD u undef = z) (hv : VarG W x 35 v0 v1) :
    (results fn tmps).run Try.prog W = .ok (.tuple #[.agg #[v0, v1], z]) W := by
  obtain ⟨c0, c1⟩ := hv.cells
  rw [Array.getD_eq_getD_getElem?] at hp hu
  simp [results, h, hp, hu, go_sem, c0, c1]
theorem res_gs {fn : Func} {p : Tmp} {v0 v1 : Value} {x : Nat} {W : World} {tmps : Array Value} (h : fn.results = #[.cell p 35]) (hp : tmps.getD p undef = .pointer (some ⟨x, 0, none⟩)) (hv : VarG W x 35 v0 v1) :
    (results fn tmps).run Try.prog W = .ok (.agg #[v0, v1]) W := by
  obtain ⟨c0, c1⟩ := hv.cells
  rw [Array.getD_eq_getD_getElem?] at hp
  simp [results, h, hp, go_sem, c0, c1]
/-- A guest is put into a variable. -/
abbrev putG (w : World) (x : Nat) (a : Gs4) (g : Gst) : World := (w.setCell ⟨x, 0, none⟩ (.slice a.vo g.vals.length a.vc)).setCell ⟨x, 1, none⟩ (.slice a.so g.shots.length a.sc)
theorem VarG.putG {w : World} {x t : Nat} {v0 v1 : Value} (h : VarG w x t v0 v1) (a : Gs4) (g : Gst) : VarG (putG w x a g) x t (.slice a.vo g.vals.length a.vc) (.slice a.so g.shots.length a.sc) := (h.set0 _).set1 _
theorem OwnGs.putG {w : World} {B x : Nat} {a : Gs4} {g : Gst} {ts : List Value} (h : OwnGs w B a g ts) (hx : x < B) (b : Gs4) (k : Gst) : OwnGs (putG w x b k) B a g ts := (h.setCell (p := ⟨x, 0, none⟩) hx _).setCell (p := ⟨x, 1, none⟩) hx _
theorem below_putG {w0 w : World} {B x : Nat} (h : Below B w0 w) (hx : B ≤ x) (b : Gs4) (k : Gst) : Below B w0 (putG w x b k) := (h.setCell (p := ⟨x, 0, none⟩) hx _).setCell (p := ⟨x, 1, none⟩) hx _
theorem gsRow {w : World} {B q : Nat} {ao : Option Addr} {c : Nat} (h : OwnN w B (.slice ao q c) (List.replicate q 0)) : OwnGs w B ⟨ao, c, none, 0⟩ ⟨List.replicate q 0, []⟩ [] :=
  ⟨rfl, .inl ⟨rfl, rfl, none, 0, rfl⟩, OwnA.one (by simpa using h)⟩
theorem gsRowS {w : World} {B q g : Nat} {ao : Option Addr} {c : Nat} (h : OwnN w B (.slice ao q c) (List.replicate q 0)) : OwnGs w B ⟨ao, c, some ⟨g, 0, none⟩, 0⟩ ⟨List.replicate q 0, []⟩ [] :=
  ⟨rfl, .inl ⟨rfl, rfl, some ⟨g, 0, none⟩, 0, rfl⟩, OwnA.one (by simpa using h)⟩
theorem intV_zeros (q : Nat) : intV (List.replicate q 0) = List.replicate q (.int .i64 0) := by simp [intV]

theorem ngA_bd (n : Int) : GsBd (ngA n).1 := by
  unfold ngA
  split
  · rename_i h
    have := betw_iff.1 h
    exact ⟨by simp; omega, by simp, fun s hs => by simp at hs, by simp [snK]⟩
  · exact GsBd.zero

end Go.Proofs.Ythnpooffhopnkac

/- A guest that is being built in a variable: its shots so far. -/
namespace Go.Proofs.Ythnpooffhopnkac
open Go.RowKit
set_option linter.unusedVariables false
set_option maxRecDepth 100000

structure OwG (W0 : World) (y : Nat) (g : Gst) (vo : Option Addr) (vc : Nat) (w : World) (k : Nat) (so : Option Addr) (sc : Nat) (ts : List Value) : Prop where
  b : Below W0.heap.size W0 w
  v : VarG w y 35 (.slice vo g.vals.length vc) (.slice so k sc)
  l : ts.length = k
  s : OwnR w W0.heap.size 42 2 (.slice so k sc) k (snC (g.shots.take k) ts)
  r : OwnA w W0.heap.size ((.slice vo g.vals.length vc, g.vals) :: ts.zip ((g.shots.take k).map (·.table)))
theorem OwG.below {W0 w w' : World} {y k : Nat} {g : Gst} {vo so : Option Addr} {vc sc : Nat} {ts : List Value} (h : OwG W0 y g vo vc w k so sc ts) (hb : Below w.heap.size w w') : OwG W0 y g vo vc w' k so sc ts := ⟨fr h.b hb, h.v.below hb, h.l, h.s.below hb, h.r.below hb⟩
theorem OwG.next {W0 wr w : World} {y k : Nat} {g : Gst} {vo so : Option Addr} {vc sc g2 cap2 : Nat} {ts : List Value} {t : Value} (h : OwG W0 y g vo vc wr k so sc ts) (hy : W0.heap.size ≤ y) (hk : k < g.shots.length) (hK : Keep (fun x => Own (.slice so k sc) x ∨ x = y) wr w)
    (hv : VarG w y 35 (.slice vo g.vals.length vc) (.slice (some ⟨g2, 0, none⟩) (k + 1) cap2)) (ho : w.ownsRow W0.heap.size 42 2 (.slice (some ⟨g2, 0, none⟩) (k + 1) cap2) (k + 1) (snC (g.shots.take k) ts ++ [.string g.shots[k].name, t])) (ht : OwnN w wr.heap.size t g.shots[k].table) :
    OwG W0 y g vo vc w (k + 1) (some ⟨g2, 0, none⟩) cap2 (ts ++ [t]) where
  b := h.b.trans (hK.below h.b.size (fun x hg => by
    rcases hg with hg | rfl
    · exact (h.s.ge x hg).1
    · exact hy))
  v := hv
  l := by rw [List.length_append, h.l]; rfl
  s := by
    rw [List.take_succ_eq_append_getElem hk, snC_snoc _ _ _ _ (by rw [List.length_take, h.l]; omega)]
    exact .inr ⟨by omega, ho⟩
  r := by
    have e : (ts ++ [t]).zip ((g.shots.take (k + 1)).map (·.table)) = ts.zip ((g.shots.take k).map (·.table)) ++ [(t, g.shots[k].table)] := by
      rw [List.take_succ_eq_append_getElem hk, List.map_append, List.zip_append (by rw [List.length_map, List.length_take, h.l]; omega)]
      rfl
    rw [e]
    have h1 := h.r.keep hK (fun r hr x hg hS => by
      rcases hS with hS | rfl
      · exact own_apart (h.r.own r hr).row h.s (by decide) x hg hS
      · exact (h.r.own r hr).row.other h.v (by decide) hg)
    exact h1.add (fun r hr x hg => ((h.r.own r hr).ge x hg).2) ht h.b.size
/-- An append and a store in one: the shots' row has one more, and the variable says so. -/
theorem OwG.app {W0 wr w4 w5 : World} {y k : Nat} {g : Gst} {vo so : Option Addr} {vc sc g2 cap2 : Nat} {ts : List Value} {t : Value} (h : OwG W0 y g vo vc wr k so sc ts) (hy : W0.heap.size ≤ y) (hk : k < g.shots.length) (hb : Below wr.heap.size wr w4) (hk5 : Keep (Own (.slice so k sc)) w4 w5)
    (ho : w5.ownsRow W0.heap.size 42 2 (.slice (some ⟨g2, 0, none⟩) (k + 1) cap2) (k + 1) (snC (g.shots.take k) ts ++ [.string g.shots[k].name, t])) (ht : OwnN w4 wr.heap.size t g.shots[k].table) :
    VarG w5 y 35 (.slice vo g.vals.length vc) (.slice so k sc) ∧ OwG W0 y g vo vc (w5.setCell ⟨y, 1, none⟩ (.slice (some ⟨g2, 0, none⟩) (k + 1) cap2)) (k + 1) (some ⟨g2, 0, none⟩) cap2 (ts ++ [t]) := by
  have h4 := h.below hb
  have hv5 : VarG w5 y 35 (.slice vo g.vals.length vc) (.slice so k sc) := (hk5.block y h4.v.lt (h4.s.other h4.v (by decide))).trans h4.v
  have ht5 : OwnN w5 wr.heap.size t g.shots[k].table := by
    obtain ⟨ao, cap, rfl, hr⟩ := ht
    exact ⟨ao, cap, rfl, hr.keep hk5 (own_apart hr h4.s (by decide))⟩
  have hs5 : OwnR w5 W0.heap.size 42 2 (.slice (some ⟨g2, 0, none⟩) (k + 1) cap2) (k + 1) (snC (g.shots.take k) ts ++ [.string g.shots[k].name, t]) := .inr ⟨by omega, ho⟩
  have hky : Keep (fun x => x = y) w5 (w5.setCell ⟨y, 1, none⟩ (.slice (some ⟨g2, 0, none⟩) (k + 1) cap2)) := (Keep.refl (fun x => x = y) w5).setCell (p := ⟨y, 1, none⟩) rfl _
  refine ⟨hv5, h.next hy hk ?_ (hv5.set1 _) ?_ ?_⟩
  · exact ((Keep.of_below hb : Keep (fun x => Own (.slice so k sc) x ∨ x = y) wr w4).trans (hk5.mono (fun x hx => .inl hx))).trans (hky.mono (fun x hx => .inr hx))
  · have := hs5.keep hky (fun x hx e => by subst e; exact hs5.other hv5 (by decide) hx)
    exact this.row (by omega)
  · obtain ⟨ao, cap, rfl, hr⟩ := ht5
    exact ⟨ao, cap, rfl, hr.keep hky (fun x hx e => by subst e; exact hr.other hv5 (by decide) hx)⟩
theorem OwG.own {W0 w : World} {y : Nat} {g : Gst} {vo so : Option Addr} {vc sc : Nat} {ts : List Value} (h : OwG W0 y g vo vc w g.shots.length so sc ts) : OwnGs w W0.heap.size ⟨vo, vc, so, sc⟩ g ts := by
  refine ⟨h.l.symm, ?_, ?_⟩
  · have := h.s; rw [List.take_length] at this; exact this.toS
  · have := h.r; rwa [List.take_length] at this

end Go.Proofs.Ythnpooffhopnkac

/- Contracts of the model's l14Table, l14Of, GuestOf. -/
namespace Go.Proofs.Ythnpooffhopnkac
open Go.RowKit
set_option linter.unusedVariables false
set_option maxRecDepth 100000

theorem infoSg : (Try.prog.info? 42).map (fun i => (i.zero, i.size, i.bytes)) = some (some (.agg #[.string ⟨#[]⟩, .slice none 0 0]), 2, 40) := by kernel_rfl
theorem shT_take {m : Img} {xs : List Int} {k : Nat} (h : k < xs.length) : shT m (xs.take (k + 1)) = shT m (xs.take k) ++ [imVal m xs[k]] := by
  rw [List.take_succ_eq_append_getElem h, shT, List.map_append]; rfl

/-- Right images: their tables' entries. -/
theorem ImR.ent {m : Img} (h : ImR m) {t : List Int} (ht : t ∈ imTabs m) : t.length ≤ 1000 ∧ ∀ j (p : j < t.length), 0 ≤ t[j] ∧ t[j] - 2 < m.data.length := by
  have hb : tbB t = true := by
    unfold imTabs at ht
    rw [List.mem_cons, List.mem_map] at ht
    rcases ht with rfl | ⟨s, hs, rfl⟩
    · exact h.table
    · exact (h.snaps s hs).2
  refine ⟨by have := tbB_len hb; omega, fun j p => ?_⟩
  have := tbB_at hb j p
  rw [h.len]
  omega
theorem gsOf_bd {m : Img} (h : ImR m) : GsR (gsOf m) := by
  have hv : ∀ t ∈ imTabs m, (shT m t).length ≤ 12 ∧ ∀ x ∈ shT m t, numB x = true := fun t ht => by
    have hb : tbB t = true := by
      unfold imTabs at ht
      rw [List.mem_cons, List.mem_map] at ht
      rcases ht with rfl | ⟨s, hs, rfl⟩
      · exact h.table
      · exact (h.snaps s hs).2
    refine ⟨by rw [shT, List.length_map]; have := tbB_len hb; omega, fun x hx => ?_⟩
    rw [shT, List.mem_map] at hx
    obtain ⟨e, he, rfl⟩ := hx
    unfold imVal
    split
    · decide
    · obtain ⟨j, hj, rfl⟩ := List.mem_iff_getElem.1 he
      have hr := tbB_at hb j hj
      have hlt : (t[j] - 2).toNat < m.data.length := by rw [h.len]; omega
      rw [List.getD_eq_getElem?_getD, List.getElem?_eq_getElem hlt, Option.getD_some]
      exact h.nums _ (List.getElem_mem hlt)
  refine ⟨(hv _ (by simp [imTabs])).1, (hv _ (by simp [imTabs])).2, by simp [gsOf]; exact h.few, fun s hs => ?_, ?_⟩
  · simp only [gsOf, List.mem_map] at hs
    obtain ⟨z, hz, rfl⟩ := hs
    have := hv z.table (by simp only [imTabs, List.mem_cons, List.mem_map]; exact .inr ⟨z, hz, rfl⟩)
    exact ⟨(h.snaps z hz).1, this.1, this.2⟩
  · have e : (gsOf m).shots.map (·.name) = m.snaps.map (·.name) := by simp [gsOf, List.map_map, Function.comp_def]
    rw [e]; exact h.names

end Go.Proofs.Ythnpooffhopnkac
