import Derived.Test.YthnpooffhopnkacPart1
import Derived.Test.YthnpooffhopnkacPart3
import Derived.Test.YthnpooffhopnkacPart4
import Derived.Test.YthnpooffhopnkacPart5
import Derived.Test.YthnpooffhopnkacPart11
import Derived.Test.YthnpooffhopnkacPart16
import Derived.Test.YthnpooffhopnkacPart18
import Derived.Test.YthnpooffhopnkacPart19
import Derived.Test.YthnpooffhopnkacPart28
import Derived.Test.YthnpooffhopnkacRows
import Derived.Test.YthnpooffhopnkacPart2
import Derived.Test.YthnpooffhopnkacPart7
import Derived.WalkKit
import Derived.WalkSpells
import Derived.KernelRfl
import Derived.Laws.OwnMore
import Derived.Test.YthnpooffhopnkacImY
import Derived.Test.YthnpooffhopnkacImX
import Derived.Test.YthnpooffhopnkacPart22
import Derived.LoopN
import Derived.Deep.RegionWith
import Derived.Test.YthnpooffhopnkacPart14
import Derived.Test.YthnpooffhopnkacPart15

/- Plain: what an image shows behind what is done to it (the theorem of copy-on-write). -/
namespace Go.Proofs.Ythnpooffhopnkac
open Go.RowKit
set_option linter.unusedVariables false
set_option maxRecDepth 100000

theorem shT_len (m : Img) (t : List Int) : (shT m t).length = t.length := by simp [shT]
theorem shT_like {m m' : Img} {t : List Int} (h : ∀ e ∈ t, imVal m' e = imVal m e) : shT m' t = shT m t := List.map_congr_left h
theorem gsOf_like {m m' : Img} (hs : m'.snaps = m.snaps) (h : ∀ s ∈ m.snaps, ∀ e ∈ s.table, imVal m' e = imVal m e) : (gsOf m').shots = (gsOf m).shots := by
  simp only [gsOf, hs]
  exact List.map_congr_left (fun s hs => by rw [shT_like (h s hs)])
/-- What a table has is counted. -/
theorem cN_mem {t : List Int} {e : Int} (he : e ∈ t) (h2 : ¬ e < 2) : 1 ≤ cN t (e - 2).toNat := by
  obtain ⟨j, hj, rfl⟩ := List.mem_iff_getElem.1 he
  exact cN_pos hj (by omega)
theorem cN_le_all {ts : List (List Int)} {t : List Int} (ht : t ∈ ts) (i : Nat) : cN t i ≤ sN ts i := by
  obtain ⟨j, hj, rfl⟩ := List.mem_iff_getElem.1 ht
  exact cN_le_sN i hj
theorem tab_lt {t : List Int} (hb : tbB t = true) {e : Int} (he : e ∈ t) : 0 ≤ e ∧ (e - 2).toNat < 24 := by
  obtain ⟨j, hj, rfl⟩ := List.mem_iff_getElem.1 he
  have := tbB_at hb j hj
  omega
/-- Fitted, an image shows what it showed. -/
theorem val_fit {m : Img} (ht : ∀ t ∈ imTabs m, tbB t = true) {t : List Int} (hm : t ∈ imTabs m) {e : Int} (he : e ∈ t) : imVal (imFit m) e = imVal m e := by
  unfold imVal
  by_cases h2 : e < 2
  · rw [if_pos h2, if_pos h2]
  · rw [if_neg h2, if_neg h2]
    have hi := (tab_lt (ht t hm) he).2
    have h1 := cN_mem he h2
    have h3 := cN_le_all hm (e - 2).toNat
    have hn : ¬ (imCnt m).getD (e - 2).toNat 0 = 0 := by rw [cnt_get ht hi]; omega
    unfold imFit
    simp only
    rw [range_getD hi, if_neg hn]
theorem gs_fit {m : Img} (ht : ∀ t ∈ imTabs m, tbB t = true) : gsOf (imFit m) = gsOf m := by
  unfold gsOf
  have e1 : shT (imFit m) (imFit m).table = shT m m.table := shT_like (fun e he => val_fit ht (show m.table ∈ imTabs m by simp [imTabs]) he)
  have e2 : (imFit m).snaps.map (fun s => (⟨s.name, shT (imFit m) s.table⟩ : Snp)) = m.snaps.map (fun s => (⟨s.name, shT m s.table⟩ : Snp)) := by
    show m.snaps.map _ = _
    exact List.map_congr_left (fun s hs => by rw [shT_like (fun e he => val_fit ht (by simp only [imTabs, List.mem_cons, List.mem_map]; exact .inr ⟨s, hs, rfl⟩) he)])
  rw [e1, e2]
theorem val_lo {m m' : Img} {e : Int} (h : e < 2) : imVal m' e = imVal m e := by unfold imVal; rw [if_pos h, if_pos h]
/-- Zeroed. -/
theorem cow_zero {m : Img} (h : ImR m) {g : Nat} (hg : g < m.table.length) : gsOf (imZero m g) = ⟨(gsOf m).vals.set g 0, (gsOf m).shots⟩ := by
  rw [← fit_zero h hg, gs_fit (tabs_with h (tbB_set h.table g (by omega) (by omega)) m.data)]
  show (⟨(m.table.set g 1).map (imVal m), _⟩ : Gst) = _
  rw [List.map_set]
  rfl
/-- Of another size. -/
theorem cow_resize {m : Img} (h : ImR m) {n : Nat} (hn : n ≤ 12) : gsOf (imResize m n) = ⟨rzTo (gsOf m).vals n, (gsOf m).shots⟩ := by
  rw [← fit_resize h hn, gs_fit (tabs_with h (tbB_rz h.table hn) m.data)]
  have e : shT m (rzTo m.table n) = rzTo (shT m m.table) n := by
    unfold shT rzTo
    rw [List.map_map]
    refine List.map_congr_left (fun i _ => ?_)
    simp only [Function.comp, List.getD_eq_getElem?_getD, List.getElem?_map]
    cases m.table[i]? with
    | none => rfl
    | some x => rfl
  show (⟨shT m (rzTo m.table n), _⟩ : Gst) = _
  rw [e]; rfl
/-- Another number of a cluster. -/
theorem val_set {m : Img} {c : Nat} (hc : c < m.data.length) (v : Int) {e : Int} (he : 0 ≤ e) : imVal { m with data := m.data.set c v } e = if e = (c : Int) + 2 then v else imVal m e := by
  unfold imVal
  by_cases h2 : e < 2
  · rw [if_pos h2, if_pos h2, if_neg (by omega)]
  · rw [if_neg h2, if_neg h2]
    by_cases h3 : e = (c : Int) + 2
    · rw [if_pos h3]
      have : (e - 2).toNat = c := by omega
      simp [this, List.getD, hc]
    · rw [if_neg h3]
      have : ¬ c = (e - 2).toNat := by omega
      simp [List.getD, this]
theorem no_mem {t : List Int} {c : Nat} (h : cN t c ≤ 0) : (c : Int) + 2 ∉ t := fun hm => by
  obtain ⟨j, hj, e⟩ := List.mem_iff_getElem.1 hm
  have := cN_pos (i := c) hj e
  omega
theorem cow_in {m : Img} (h : ImR m) {g c : Nat} (v : Int) (hg : g < m.table.length) (hc : m.table[g] = (c : Int) + 2) (hc24 : c < 24) (h1 : m.refs.getD c 0 = 1) : gsOf { m with data := m.data.set c v } = ⟨(gsOf m).vals.set g v, (gsOf m).shots⟩ := by
  have hcd : c < m.data.length := by rw [h.len]; exact hc24
  have ha := h.cntA hc24
  rw [h1, sN_tabs] at ha
  have hp := cN_pos hg hc
  have hs0 : sN (m.snaps.map (·.table)) c = 0 := by have := sN_nn (m.snaps.map (·.table)) c; omega
  have hs : ∀ s ∈ m.snaps, (c : Int) + 2 ∉ s.table := fun s hs => no_mem (by
    have := cN_le_all (List.mem_map.2 ⟨s, hs, rfl⟩ : s.table ∈ m.snaps.map (·.table)) c
    omega)
  have hone : ∀ j (hj : j < m.table.length), j ≠ g → m.table[j] ≠ (c : Int) + 2 := fun j hj hne e => by
    have hcs : cN (m.table.set g 0) c = cN m.table c - 1 := by
      rw [cN_set hg, if_pos hc, if_neg (by omega)]; omega
    have hjs : (m.table.set g 0)[j]'(by simpa using hj) = (c : Int) + 2 := by rw [List.getElem_set_ne (fun h => hne h.symm)]; exact e
    have := cN_pos (t := m.table.set g 0) (i := c) (by simpa using hj) hjs
    have hle := h.cN_le c hc24
    omega
  have e1 : shT { m with data := m.data.set c v } m.table = (shT m m.table).set g v := by
    refine List.ext_getElem (by simp [shT]) (fun j hj hj' => ?_)
    have hjt : j < m.table.length := by simpa [shT] using hj
    have h0 := (tab_lt h.table (List.getElem_mem hjt)).1
    rw [List.getElem_set]
    simp only [shT, List.getElem_map]
    rw [val_set hcd v h0]
    by_cases hjg : g = j
    · subst hjg
      rw [if_pos rfl, if_pos hc]
    · rw [if_neg hjg, if_neg (hone j hjt (fun e => hjg e.symm))]
  have e2 : (gsOf { m with data := m.data.set c v }).shots = (gsOf m).shots := gsOf_like rfl (fun s hs' e he => by
    have h0 := (tab_lt (h.snaps s hs').2 he).1
    rw [val_set hcd v h0, if_neg (show ¬ e = (c : Int) + 2 from fun e2 => hs s hs' (by rw [← e2]; exact he))])
  show (⟨shT { m with data := m.data.set c v } m.table, (gsOf { m with data := m.data.set c v }).shots⟩ : Gst) = _
  rw [e1, e2]; rfl
theorem cow_out {m : Img} (h : ImR m) {g c : Nat} (v : Int) (hg : g < m.table.length) (hc24 : c < 24) (h0 : m.refs.getD c 0 = 0) : gsOf { m with table := m.table.set g (2 + (c : Int)), data := m.data.set c v } = ⟨(gsOf m).vals.set g v, (gsOf m).shots⟩ := by
  have hcd : c < m.data.length := by rw [h.len]; exact hc24
  have ha := h.cntA hc24
  rw [h0] at ha
  have hno : ∀ t ∈ imTabs m, (c : Int) + 2 ∉ t := fun t ht => no_mem (by have := cN_le_all ht c; omega)
  have hv : ∀ t ∈ imTabs m, ∀ e ∈ t, imVal { m with table := m.table.set g (2 + (c : Int)), data := m.data.set c v } e = imVal m e := fun t ht e he => by
    have he0 := (tab_lt (h.tabs t ht) he).1
    have := val_set (m := m) hcd v he0
    rw [if_neg (show ¬ e = (c : Int) + 2 from fun e2 => hno t ht (by rw [← e2]; exact he))] at this
    exact this
  have e1 : shT { m with table := m.table.set g (2 + (c : Int)), data := m.data.set c v } (m.table.set g (2 + (c : Int))) = (shT m m.table).set g v := by
    unfold shT
    rw [List.map_set]
    have hx : imVal { m with table := m.table.set g (2 + (c : Int)), data := m.data.set c v } (2 + (c : Int)) = v := by
      have := val_set (m := m) hcd v (e := 2 + (c : Int)) (by omega)
      rw [if_pos (by omega)] at this
      exact this
    rw [hx]
    congr 1
    exact List.map_congr_left (hv m.table (by simp [imTabs]))
  have e2 : (gsOf { m with table := m.table.set g (2 + (c : Int)), data := m.data.set c v }).shots = (gsOf m).shots := gsOf_like rfl (fun s hs e he => hv s.table (by simp only [imTabs, List.mem_cons, List.mem_map]; exact .inr ⟨s, hs, rfl⟩) e he)
  show (⟨shT _ (m.table.set g (2 + (c : Int))), (gsOf { m with table := m.table.set g (2 + (c : Int)), data := m.data.set c v }).shots⟩ : Gst) = _
  rw [e1, e2]; rfl
/-- Written: what is shown, or the image is full. -/
theorem cow_write {m : Img} (h : ImR m) {g : Nat} (hg : g < m.table.length) (v : Int) : ((imWrite m g v).2 = 0 ∧ gsOf (imWrite m g v).1 = ⟨(gsOf m).vals.set g v, (gsOf m).shots⟩) ∨ imWrite m g v = (m, 7) := by
  have hb := tbB_at h.table g hg
  by_cases h1 : 2 ≤ m.table[g] ∧ m.refs.getD (m.table[g] - 2).toNat 0 = 1
  · have hc : m.table[g] = (((m.table[g] - 2).toNat : Nat) : Int) + 2 := by omega
    have hr : (m.table[g] - 2).toNat < m.refs.length := by rw [h.rl]; omega
    have h1' : m.refs[(m.table[g] - 2).toNat] = 1 := by have := h1.2; simpa [List.getD, hr] using this
    rw [imWrite_in hg hc hr h1']
    exact .inl ⟨rfl, cow_in h v hg hc (by omega) h1.2⟩
  · rw [imWrite_out hg h1]
    by_cases h2 : frN m.refs < m.refs.length
    · rw [if_pos h2]
      have hc24 : frN m.refs < 24 := by rw [h.rl] at h2; exact h2
      have h0 := free_spec h2
      refine .inl ⟨rfl, ?_⟩
      rw [← fit_out h v hg hc24 h0, gs_fit]
      · exact cow_out h v hg hc24 h0
      · exact tabs_with h (tbB_set h.table g (by omega) (by omega)) (m.data.set (frN m.refs) v)
    · rw [if_neg h2]; exact .inr rfl
/-- A snapshot is made. -/
theorem cow_create {m : Img} (h : ImR m) (name : ByteArray) : gsOf { imRaise m m.table with snaps := m.snaps ++ [⟨name, m.table⟩] } = ⟨(gsOf m).vals, (gsOf m).shots ++ [⟨name, (gsOf m).vals⟩]⟩ := by
  show (⟨shT m m.table, (m.snaps ++ [(⟨name, m.table⟩ : Snp)]).map (fun s : Snp => (⟨s.name, shT m s.table⟩ : Snp))⟩ : Gst) = _
  rw [List.map_append]; rfl
/-- A snapshot is deleted. -/
theorem cow_delete {m : Img} (h : ImR m) {k : Nat} (hk : k < m.snaps.length) : gsOf { imDrops m m.snaps[k].table with snaps := m.snaps.eraseIdx k } = ⟨(gsOf m).vals, (gsOf m).shots.eraseIdx k⟩ := by
  rw [← fit_delete h hk, gs_fit]
  · show (⟨shT m m.table, (m.snaps.eraseIdx k).map (fun s => (⟨s.name, shT m s.table⟩ : Snp))⟩ : Gst) = _
    have e : ∀ (ss : List Snp) (k : Nat), (ss.eraseIdx k).map (fun s => (⟨s.name, shT m s.table⟩ : Snp)) = (ss.map (fun s => (⟨s.name, shT m s.table⟩ : Snp))).eraseIdx k := fun ss k => map_eraseA _ ss k
    rw [e]; rfl
  · intro t ht
    have ht' : t ∈ m.table :: (m.snaps.eraseIdx k).map (·.table) := ht
    rw [List.mem_cons, map_erase] at ht'
    rcases ht' with rfl | ht'
    · exact h.table
    · exact h.tabs t (by unfold imTabs; exact List.mem_cons_of_mem _ (List.mem_of_mem_eraseIdx ht'))
/-- A snapshot is gone back to. -/
theorem cow_revert {m : Img} (h : ImR m) {k : Nat} (hk : k < m.snaps.length) : gsOf { imDrops (imRaise m m.snaps[k].table) m.table with table := m.snaps[k].table } = ⟨shT m m.snaps[k].table, (gsOf m).shots⟩ := by
  rw [← fit_revert h hk, gs_fit (tabs_with h (h.snaps _ (List.getElem_mem hk)).2 m.data)]
  rfl
theorem gsOf_vlen (m : Img) : (gsOf m).vals.length = m.table.length := by simp [gsOf, shT]
theorem gsOf_slen (m : Img) : (gsOf m).shots.length = m.snaps.length := by simp [gsOf]

end Go.Proofs.Ythnpooffhopnkac

/- Contracts of NewGuest of both; a guest put into a variable. -/
namespace Go.Proofs.Ythnpooffhopnkac
open Go.RowKit
set_option linter.unusedVariables false
set_option maxRecDepth 100000

theorem infoIg : (Try.prog.info? 3).map (fun i => (i.zero, i.size, i.bytes)) = some (some (.int .i64 0), 1, 8) := by kernel_rfl
theorem res_gc {fn : Func} {p u : Tmp} {v0 v1 z : Value} {x : Nat} {W : World} {tmps : Array Value} (h : fn.results = #[.cell p 35, .tmp u]) (hp : tmps.getD p undef = .pointer (some ⟨x, 0, none⟩)) (hu : tmps.getD u undef = z) (hv : VarG W x 35 v0 v1) :
    (results fn tmps).run Try.prog W = .ok (.tuple #[.agg #[v0, v1], z]) W := by
  obtain ⟨c0, c1⟩ := hv.cells
  rw [Array.getD_eq_getD_getElem?] at hp hu
  simp [results, h, hp, hu, go_sem, c0, c1]
theorem res_gs {fn : Func} {p : Tmp} {v0 v1 : Value} {x : Nat} {W : World} {tmps : Array Value} (h : fn.results = #[.cell p 35]) (hp : tmps.getD p undef = .pointer (some ⟨x, 0, none⟩)) (hv : VarG W x 35 v0 v1) :
    (results fn tmps).run Try.prog W = .ok (.agg #[v0, v1]) W := by
  obtain ⟨c0, c1⟩ := hv.cells
  rw [Array.getD_eq_getD_getElem?] at hp
  simp [results, h, hp, go_sem, c0, c1]
/-- A guest is put into a variable. -/
abbrev putG (w : World) (x : Nat) (a : Gs4) (g : Gst) : World := (w.setCell ⟨x, 0, none⟩ (.slice a.vo g.vals.length a.vc)).setCell ⟨x, 1, none⟩ (.slice a.so g.shots.length a.sc)
theorem VarG.putG {w : World} {x t : Nat} {v0 v1 : Value} (h : VarG w x t v0 v1) (a : Gs4) (g : Gst) : VarG (putG w x a g) x t (.slice a.vo g.vals.length a.vc) (.slice a.so g.shots.length a.sc) := (h.set0 _).set1 _
theorem OwnGs.putG {w : World} {B x : Nat} {a : Gs4} {g : Gst} {ts : List Value} (h : OwnGs w B a g ts) (hx : x < B) (b : Gs4) (k : Gst) : OwnGs (putG w x b k) B a g ts := (h.setCell (p := ⟨x, 0, none⟩) hx _).setCell (p := ⟨x, 1, none⟩) hx _
theorem below_putG {w0 w : World} {B x : Nat} (h : Below B w0 w) (hx : B ≤ x) (b : Gs4) (k : Gst) : Below B w0 (putG w x b k) := (h.setCell (p := ⟨x, 0, none⟩) hx _).setCell (p := ⟨x, 1, none⟩) hx _
theorem gsRow {w : World} {B q : Nat} {ao : Option Addr} {c : Nat} (h : OwnN w B (.slice ao q c) (List.replicate q 0)) : OwnGs w B ⟨ao, c, none, 0⟩ ⟨List.replicate q 0, []⟩ [] :=
  ⟨rfl, .inl ⟨rfl, rfl, none, 0, rfl⟩, OwnA.one (by simpa using h)⟩
theorem gsRowS {w : World} {B q g : Nat} {ao : Option Addr} {c : Nat} (h : OwnN w B (.slice ao q c) (List.replicate q 0)) : OwnGs w B ⟨ao, c, some ⟨g, 0, none⟩, 0⟩ ⟨List.replicate q 0, []⟩ [] :=
  ⟨rfl, .inl ⟨rfl, rfl, some ⟨g, 0, none⟩, 0, rfl⟩, OwnA.one (by simpa using h)⟩
theorem intV_zeros (q : Nat) : intV (List.replicate q 0) = List.replicate q (.int .i64 0) := by simp [intV]

theorem ngA_bd (n : Int) : GsBd (ngA n).1 := by
  unfold ngA
  split
  · rename_i h
    have := betw_iff.1 h
    exact ⟨by simp; omega, by simp, fun s hs => by simp at hs, by simp [snK]⟩
  · exact GsBd.zero

end Go.Proofs.Ythnpooffhopnkac

/- A guest that is being built in a variable: its shots so far. -/
namespace Go.Proofs.Ythnpooffhopnkac
open Go.RowKit
set_option linter.unusedVariables false
set_option maxRecDepth 100000

structure OwG (W0 : World) (y : Nat) (g : Gst) (vo : Option Addr) (vc : Nat) (w : World) (k : Nat) (so : Option Addr) (sc : Nat) (ts : List Value) : Prop where
  b : Below W0.heap.size W0 w
  v : VarG w y 35 (.slice vo g.vals.length vc) (.slice so k sc)
  l : ts.length = k
  s : OwnR w W0.heap.size 42 2 (.slice so k sc) k (snC (g.shots.take k) ts)
  r : OwnA w W0.heap.size ((.slice vo g.vals.length vc, g.vals) :: ts.zip ((g.shots.take k).map (·.table)))
theorem OwG.below {W0 w w' : World} {y k : Nat} {g : Gst} {vo so : Option Addr} {vc sc : Nat} {ts : List Value} (h : OwG W0 y g vo vc w k so sc ts) (hb : Below w.heap.size w w') : OwG W0 y g vo vc w' k so sc ts := ⟨fr h.b hb, h.v.below hb, h.l, h.s.below hb, h.r.below hb⟩
theorem OwG.next {W0 wr w : World} {y k : Nat} {g : Gst} {vo so : Option Addr} {vc sc g2 cap2 : Nat} {ts : List Value} {t : Value} (h : OwG W0 y g vo vc wr k so sc ts) (hy : W0.heap.size ≤ y) (hk : k < g.shots.length) (hK : Keep (fun x => Own (.slice so k sc) x ∨ x = y) wr w)
    (hv : VarG w y 35 (.slice vo g.vals.length vc) (.slice (some ⟨g2, 0, none⟩) (k + 1) cap2)) (ho : w.ownsRow W0.heap.size 42 2 (.slice (some ⟨g2, 0, none⟩) (k + 1) cap2) (k + 1) (snC (g.shots.take k) ts ++ [.string g.shots[k].name, t])) (ht : OwnN w wr.heap.size t g.shots[k].table) :
    OwG W0 y g vo vc w (k + 1) (some ⟨g2, 0, none⟩) cap2 (ts ++ [t]) where
  b := h.b.trans (hK.below h.b.size (fun x hg => by
    rcases hg with hg | rfl
    · exact (h.s.ge x hg).1
    · exact hy))
  v := hv
  l := by rw [List.length_append, h.l]; rfl
  s := by
    rw [List.take_succ_eq_append_getElem hk, snC_snoc _ _ _ _ (by rw [List.length_take, h.l]; omega)]
    exact .inr ⟨by omega, ho⟩
  r := by
    have e : (ts ++ [t]).zip ((g.shots.take (k + 1)).map (·.table)) = ts.zip ((g.shots.take k).map (·.table)) ++ [(t, g.shots[k].table)] := by
      rw [List.take_succ_eq_append_getElem hk, List.map_append, List.zip_append (by rw [List.length_map, List.length_take, h.l]; omega)]
      rfl
    rw [e]
    have h1 := h.r.keep hK (fun r hr x hg hS => by
      rcases hS with hS | rfl
      · exact own_apart (h.r.own r hr).row h.s (by decide) x hg hS
      · exact (h.r.own r hr).row.other h.v (by decide) hg)
    exact h1.add (fun r hr x hg => ((h.r.own r hr).ge x hg).2) ht h.b.size
/-- An append and a store in one: the shots' row has one more, and the variable says so. -/
theorem OwG.app {W0 wr w4 w5 : World} {y k : Nat} {g : Gst} {vo so : Option Addr} {vc sc g2 cap2 : Nat} {ts : List Value} {t : Value} (h : OwG W0 y g vo vc wr k so sc ts) (hy : W0.heap.size ≤ y) (hk : k < g.shots.length) (hb : Below wr.heap.size wr w4) (hk5 : Keep (Own (.slice so k sc)) w4 w5)
    (ho : w5.ownsRow W0.heap.size 42 2 (.slice (some ⟨g2, 0, none⟩) (k + 1) cap2) (k + 1) (snC (g.shots.take k) ts ++ [.string g.shots[k].name, t])) (ht : OwnN w4 wr.heap.size t g.shots[k].table) :
    VarG w5 y 35 (.slice vo g.vals.length vc) (.slice so k sc) ∧ OwG W0 y g vo vc (w5.setCell ⟨y, 1, none⟩ (.slice (some ⟨g2, 0, none⟩) (k + 1) cap2)) (k + 1) (some ⟨g2, 0, none⟩) cap2 (ts ++ [t]) := by
  have h4 := h.below hb
  have hv5 : VarG w5 y 35 (.slice vo g.vals.length vc) (.slice so k sc) := (hk5.block y h4.v.lt (h4.s.other h4.v (by decide))).trans h4.v
  have ht5 : OwnN w5 wr.heap.size t g.shots[k].table := by
    obtain ⟨ao, cap, rfl, hr⟩ := ht
    exact ⟨ao, cap, rfl, hr.keep hk5 (own_apart hr h4.s (by decide))⟩
  have hs5 : OwnR w5 W0.heap.size 42 2 (.slice (some ⟨g2, 0, none⟩) (k + 1) cap2) (k + 1) (snC (g.shots.take k) ts ++ [.string g.shots[k].name, t]) := .inr ⟨by omega, ho⟩
  have hky : Keep (fun x => x = y) w5 (w5.setCell ⟨y, 1, none⟩ (.slice (some ⟨g2, 0, none⟩) (k + 1) cap2)) := (Keep.refl (fun x => x = y) w5).setCell (p := ⟨y, 1, none⟩) rfl _
  refine ⟨hv5, h.next hy hk ?_ (hv5.set1 _) ?_ ?_⟩
  · exact ((Keep.of_below hb : Keep (fun x => Own (.slice so k sc) x ∨ x = y) wr w4).trans (hk5.mono (fun x hx => .inl hx))).trans (hky.mono (fun x hx => .inr hx))
  · have := hs5.keep hky (fun x hx e => by subst e; exact hs5.other hv5 (by decide) hx)
    exact this.row (by omega)
  · obtain ⟨ao, cap, rfl, hr⟩ := ht5
    exact ⟨ao, cap, rfl, hr.keep hky (fun x hx e => by subst e; exact hr.other hv5 (by decide) hx)⟩
theorem OwG.own {W0 w : World} {y : Nat} {g : Gst} {vo so : Option Addr} {vc sc : Nat} {ts : List Value} (h : OwG W0 y g vo vc w g.shots.length so sc ts) : OwnGs w W0.heap.size ⟨vo, vc, so, sc⟩ g ts := by
  refine ⟨h.l.symm, ?_, ?_⟩
  · have := h.s; rw [List.take_length] at this; exact this.toS
  · have := h.r; rwa [List.take_length] at this

end Go.Proofs.Ythnpooffhopnkac

/- Contracts of the model's l14Table, l14Of, GuestOf. -/
namespace Go.Proofs.Ythnpooffhopnkac
open Go.RowKit
set_option linter.unusedVariables false
set_option maxRecDepth 100000

theorem infoSg : (Try.prog.info? 42).map (fun i => (i.zero, i.size, i.bytes)) = some (some (.agg #[.string ⟨#[]⟩, .slice none 0 0]), 2, 40) := by kernel_rfl
theorem shT_take {m : Img} {xs : List Int} {k : Nat} (h : k < xs.length) : shT m (xs.take (k + 1)) = shT m (xs.take k) ++ [imVal m xs[k]] := by
  rw [List.take_succ_eq_append_getElem h, shT, List.map_append]; rfl

/-- Right images: their tables' entries. -/
theorem ImR.ent {m : Img} (h : ImR m) {t : List Int} (ht : t ∈ imTabs m) : t.length ≤ 1000 ∧ ∀ j (p : j < t.length), 0 ≤ t[j] ∧ t[j] - 2 < m.data.length := by
  have hb : tbB t = true := by
    unfold imTabs at ht
    rw [List.mem_cons, List.mem_map] at ht
    rcases ht with rfl | ⟨s, hs, rfl⟩
    · exact h.table
    · exact (h.snaps s hs).2
  refine ⟨by have := tbB_len hb; omega, fun j p => ?_⟩
  have := tbB_at hb j p
  rw [h.len]
  omega
theorem gsOf_bd {m : Img} (h : ImR m) : GsR (gsOf m) := by
  have hv : ∀ t ∈ imTabs m, (shT m t).length ≤ 12 ∧ ∀ x ∈ shT m t, numB x = true := fun t ht => by
    have hb : tbB t = true := by
      unfold imTabs at ht
      rw [List.mem_cons, List.mem_map] at ht
      rcases ht with rfl | ⟨s, hs, rfl⟩
      · exact h.table
      · exact (h.snaps s hs).2
    refine ⟨by rw [shT, List.length_map]; have := tbB_len hb; omega, fun x hx => ?_⟩
    rw [shT, List.mem_map] at hx
    obtain ⟨e, he, rfl⟩ := hx
    unfold imVal
    split
    · decide
    · obtain ⟨j, hj, rfl⟩ := List.mem_iff_getElem.1 he
      have hr := tbB_at hb j hj
      have hlt : (t[j] - 2).toNat < m.data.length := by rw [h.len]; omega
      rw [List.getD_eq_getElem?_getD, List.getElem?_eq_getElem hlt, Option.getD_some]
      exact h.nums _ (List.getElem_mem hlt)
  refine ⟨(hv _ (by simp [imTabs])).1, (hv _ (by simp [imTabs])).2, by simp [gsOf]; exact h.few, fun s hs => ?_, ?_⟩
  · simp only [gsOf, List.mem_map] at hs
    obtain ⟨z, hz, rfl⟩ := hs
    have := hv z.table (by simp only [imTabs, List.mem_cons, List.mem_map]; exact .inr ⟨z, hz, rfl⟩)
    exact ⟨(h.snaps z hz).1, this.1, this.2⟩
  · have e : (gsOf m).shots.map (·.name) = m.snaps.map (·.name) := by simp [gsOf, List.map_map, Function.comp_def]
    rw [e]; exact h.names

end Go.Proofs.Ythnpooffhopnkac

/- Contracts of the program's valuesShown, GuestOf. -/
namespace Go.Proofs.Ythnpooffhopnkac
open Go.RowKit
set_option linter.unusedVariables false
set_option maxRecDepth 100000

set_option maxHeartbeats 800000 in
theorem valuesShownC_any (a : Im4) (m : Img) (x : Nat) (e : Int) (w : World) (he0 : 0 ≤ e) (he1 : e - 2 < m.data.length) (hd : m.data.length ≤ 900) (hv : VarM w x 26 (.slice a.ro m.refs.length a.rc) (.slice a.tq m.table.length a.tc) (.slice a.so m.snaps.length a.sc) (.slice a.dq m.data.length a.dc)) (hc : Is w a.dq m.data) :
    Calls Try.prog 74 #[.int .i64 (min e 2), .int .i64 (max 0 (e - 2)), .pointer (some ⟨x, 0, none⟩)] w fun r w' => r = .returned (.tuple #[.int .i64 (imVal m e), .bool true]) ∧ w' = w := by
  by_cases h2 : e < 2
  · have HE : Hid (imVal m e = 0) := hide (if_pos h2)
    have h3 : (min e 2 != 2) = true := by simp; omega
    clear h2
    generalize min e 2 = K2 at *
    generalize max 0 (e - 2) = C2 at *
    go_enter Try.func74, Try.ntmps74
    go_wp2
    go_ret2
    exact ⟨by rw [unhide HE]; rfl, rfl⟩
  · obtain ⟨c, hcc⟩ := Int.eq_ofNat_of_zero_le (show 0 ≤ e - 2 by omega)
    have hcd : c < m.data.length := by omega
    have hcdi : (c : Int) < (m.data.length : Int) := by omega
    have HE : Hid (imVal m e = m.data[c]) := hide (by rw [imVal, if_neg h2, hcc, Int.toNat_natCast]; simp [List.getD, hcd])
    have h1 : min e 2 = 2 := by omega
    have h3 : max 0 (e - 2) = (c : Int) := by omega
    rw [h1, h3]
    obtain ⟨b3, o3, e3, hx3⟩ := hc c hcd
    obtain ⟨c0, c1, c2, c3⟩ := hv.cells
    rw [e3] at c3
    clear h1 h3 h2 hcc e3
    generalize m.data[c] = V at *
    go_enter Try.func74, Try.ntmps74
    go_wp2
    go_ret2
    exact ⟨by rw [unhide HE]; rfl, rfl⟩

set_option maxHeartbeats 1600000 in
theorem takeEntries_vals (a : Im4) (m : Img) (x : Nat) (ao : Option Addr) (cap : Nat) (xs : List Int) (w : World) (hl : xs.length ≤ 1000) (hx : ∀ j (h : j < xs.length), 0 ≤ xs[j] ∧ xs[j] - 2 < m.data.length) (hd : m.data.length ≤ 900) (hv : VarM w x 26 (.slice a.ro m.refs.length a.rc) (.slice a.tq m.table.length a.tc) (.slice a.so m.snaps.length a.sc) (.slice a.dq m.data.length a.dc)) (hcd : Is w a.dq m.data) (hc : Is w ao xs) :
    Calls Try.prog 73 #[.slice ao xs.length cap, .func (.func 74) #[] #[.pointer (some ⟨x, 0, none⟩)]] w fun e w' => ∃ v, e = .returned v ∧ OwnN w' w.heap.size v (shT m xs) ∧ Below w.heap.size w w' := by
  obtain ⟨j0, hj, hy0, hy1, hy2⟩ := info_parts infoIg
  have HC := hide hc
  have HCD := hide hcd
  have HX := hide hx
  have HD := hide hd
  have HV := hide hv
  clear hc hcd hx hd hv
  go_enter Try.func73, Try.ntmps73
  go_wp2
  go_loopw [5, 12] (fun o i wr => ∃ (k : Nat) (ys : List Int) (qo : Option Addr) (qa : Nat), k ≤ xs.length ∧ i = .int .i64 k ∧ o = .slice qo ys.length qa ∧ Hid (ys = shT m (xs.take k)) ∧ Hid (OwnR wr w.heap.size 3 1 (.slice qo ys.length qa) ys.length (intV ys)) ∧ Hid (Below w.heap.size w wr)) (fun _ i _ => xs.length - (intOf i).toNat)
  case atStart => exact ⟨0, [], _, _, Nat.zero_le _, rfl, rfl, hide rfl, hide (.inl ⟨rfl, rfl, _, rfl⟩), hide (Below.refl _ _)⟩
  case round =>
    obtain ⟨k, ys, qo, qa, hk, rfl, rfl, HE, HO, HB⟩ := hrel
    by_cases hlt : k < xs.length
    · obtain ⟨b, off, rfl, hcl⟩ := ((unhide HC).below (unhide HB)) k hlt
      have HXK := hide (unhide HX k hlt)
      have HS := hide (shT_take (m := m) hlt)
      have HYL : Hid (ys.length ≤ 1000) := hide (by rw [unhide HE, shT, List.length_map, List.length_take]; omega)
      have hyl := unhide HYL
      generalize xs[k] = X at *
      have HCALL : Hid (∀ W, Below wr.heap.size wr W → Calls Try.prog 74 #[.int .i64 (min X 2), .int .i64 (max 0 (X - 2)), .pointer (some ⟨x, 0, none⟩)] W fun r w' => r = .returned (.tuple #[.int .i64 (imVal m X), .bool true]) ∧ w' = W) := hide (fun W hW => valuesShownC_any a m x X W (unhide HXK).1 (unhide HXK).2 (unhide HD) (((unhide HV).below (unhide HB)).below hW) (((unhide HCD).below (unhide HB)).below hW))
      have HSE : Hid (∀ W, Calls Try.prog 60 #[.int .i64 X] W fun e w' => e = .returned (.tuple #[.int .i64 (min X 2), .int .i64 (max 0 (X - 2))]) ∧ w' = W) := hide (fun W => splitEntry_any X W (by have := unhide HXK; omega) (by have := unhide HXK; have := unhide HD; omega))
      generalize imVal m X = V at *
      generalize min X 2 = K2 at *
      generalize max 0 (X - 2) = C2 at *
      have HOA := hide ((unhide HO).below (Joins.below_alloc1 _ (.cells #[.int .i64 V] 3)))
      have HBA := hide (fr (unhide HB) (Joins.below_alloc1 _ (.cells #[.int .i64 V] 3)))
      have HSZ := hide (unhide HB).size
      go_wp2_with (first | (go_at_call 60; refine (unhide HSE _).mono ?_; rintro e w' ⟨rfl, hw⟩; replace hw := hw.symm; subst hw) | (go_at_call 74; refine (unhide HCALL _ (Below.refl _ _)).mono ?_; rintro e w' ⟨rfl, hw⟩; replace hw := hw.symm; subst hw) | (at_builtin; refine wpList_append_one rfl _ _ 23 rfl w.heap.size 3 j0 (.int .i64 0) 1 8 Try.underlying23 hj hy0 hy1 hy2 rfl (by omega) qo ys.length qa (intV ys) rfl (unhide HOA) (by have := unhide HSZ; simp; omega) ⟨wr.heap.size, 0, none⟩ _ [.int .i64 V] rfl rfl (byte_news wr _ _) (int_one _) (by unfold maxLen; omega) (by omega) ?_; intro g2 cap2 wA hoA hkA; have HSF := hide (And.intro hoA (keep_below (unhide HBA) (unhide HOA) (Nat.le_refl _) hkA)); clear hoA hkA))
      go_roundw
      case rel => exact ⟨k + 1, ys ++ [V], some ⟨g2, 0, none⟩, cap2, by omega, by go_num, by simp, hide (by rw [unhide HS, unhide HE]), hide (by rw [List.length_append, intV_snoc]; exact .inr ⟨by simp, (unhide HSF).1⟩), hide (unhide HSF).2⟩
      case measure => simp [intOf]; omega
    · have HS : Hid (shT m xs = ys) := hide (by rw [unhide HE, List.take_of_length_le (by omega)])
      go_wp2
      go_ret
      exact ⟨.slice qo ys.length qa, rfl, by rw [unhide HS]; exact ⟨qo, qa, rfl, unhide HO⟩, unhide HB⟩

set_option maxHeartbeats 1600000 in
theorem valuesShown_any (a : Im4) (m : Img) (ao : Option Addr) (cap : Nat) (xs : List Int) (w : World) (hl : xs.length ≤ 1000) (hx : ∀ j (h : j < xs.length), 0 ≤ xs[j] ∧ xs[j] - 2 < m.data.length) (hd : m.data.length ≤ 900) (hcd : Is w a.dq m.data) (hc : Is w ao xs) :
    Calls Try.prog 34 #[imV a m, .slice ao xs.length cap] w fun e w' => ∃ v, e = .returned v ∧ OwnN w' w.heap.size v (shT m xs) ∧ Below w.heap.size w w' := by
  have hmf : ∀ (fn : Fn) (first cap : Array Value) (w : World), (Instr.makeFunc fn first cap).run Try.prog w = .ok (.func fn first cap) w := fun _ _ _ _ => rfl
  have HA := hide (Joins.below_alloc1 w (.cells #[.slice a.ro m.refs.length a.rc, .slice a.tq m.table.length a.tc, .slice a.so m.snaps.length a.sc, .slice a.dq m.data.length a.dc] 26))
  have HV := hide (VarM.new w 26 (.slice a.ro m.refs.length a.rc) (.slice a.tq m.table.length a.tc) (.slice a.so m.snaps.length a.sc) (.slice a.dq m.data.length a.dc))
  have HC := hide (hc.below (unhide HA))
  have HCD := hide (hcd.below (unhide HA))
  have HX := hide hx
  have HD := hide hd
  clear hc hcd hx hd
  go_enter Try.func34, Try.ntmps34
  go_upto_region 1 with fail
  revert HA HV HC HCD
  generalize (w.alloc _) = W0
  intro HA HV HC HCD
  go_wp2_with fail
  refine (takeEntries_vals a m w.heap.size ao cap xs _ hl (unhide HX) (unhide HD) (unhide HV) (unhide HCD) (unhide HC)).mono ?_
  rintro e w2 ⟨v, rfl, ho, hb⟩
  have HO := hide (ho.base (unhide HA).size)
  have HB := hide (fr (unhide HA) hb)
  clear ho hb
  go_wp2
  go_ret
  exact ⟨v, rfl, unhide HO, unhide HB⟩

set_option maxHeartbeats 6400000 in
theorem guestOf_impl (a : Im4) (m : Img) (w : World) (hL : ImL m) (hc : ImS w a m) :
    Calls Try.prog 11 #[imV a m] w fun e w' => AnsG w w' e (goA m) := by
  obtain ⟨j0, hj0, hy0, hy1, hy2⟩ := info_parts infoSg
  have HA := hide (Joins.below_alloc2 w (.cells #[.slice a.ro m.refs.length a.rc, .slice a.tq m.table.length a.tc, .slice a.so m.snaps.length a.sc, .slice a.dq m.data.length a.dc] 26) (.cells #[.slice none 0 0, .slice none 0 0] 35))
  have HV := hide ((VarM.new w 26 (.slice a.ro m.refs.length a.rc) (.slice a.tq m.table.length a.tc) (.slice a.so m.snaps.length a.sc) (.slice a.dq m.data.length a.dc)).below (Joins.below_alloc1 _ (.cells #[.slice none 0 0, .slice none 0 0] 35)))
  have HR := hide ((VarG.new (w.alloc (.cells #[.slice a.ro m.refs.length a.rc, .slice a.tq m.table.length a.tc, .slice a.so m.snaps.length a.sc, .slice a.dq m.data.length a.dc] 26)) 35 (.slice none 0 0) (.slice none 0 0)).at (show _ = w.heap.size + 1 by simp))
  have HC := hide (hc.below (unhide HA))
  have HL := hide hL
  clear hc hL
  obtain ⟨R, HRR⟩ : ∃ R, Hid (R = goA m) := ⟨_, hide rfl⟩
  rw [← unhide HRR]
  go_enter Try.func11, Try.ntmps11
  go_upto_region 1 with fail
  revert HA HV HR HC
  generalize ((w.alloc _).alloc _) = W0
  intro HA HV HR HC
  obtain ⟨c0, c1, c2, c3⟩ := (unhide HV).cells
  go_wp2_with fail
  refine (imageOK_impl a m _ (unhide HL) (unhide HC)).mono ?_
  rintro e w1 ⟨rfl, hb⟩
  have HA1 := hide (fr (unhide HA) hb)
  have HV1 := hide ((unhide HV).below hb)
  have HR1 := hide ((unhide HR).below hb)
  have HC1 := hide ((unhide HC).below hb)
  have HLT := hide (unhide HR1).lt
  clear hb c0 c1 c2 c3 HA HV HR HC
  cases him : imB m
  · have HF : Hid (R = (gs0, 1)) := hide (by rw [unhide HRR, goA, him]; rfl)
    obtain ⟨r0, r1⟩ := (unhide HR1).cells
    obtain ⟨z0, z1⟩ := (unhide HR1).free
    have HS := hide (((unhide HR1).set0 (.slice none 0 0)).set1 (.slice none 0 0))
    have HB2 := hide (((unhide HA1).setCell (p := ⟨w.heap.size + 1, 0, none⟩) (Nat.le_succ _) (.slice none 0 0)).setCell (p := ⟨w.heap.size + 1, 1, none⟩) (Nat.le_succ _) (.slice none 0 0))
    clear him
    go_wp2
    refine bodyPost_ret (res_gc Try.results11 rfl rfl (unhide HS)) rfl ?_
    rw [unhide HF]
    exact AnsG.bad 1 (unhide HB2)
  obtain ⟨G, HG⟩ : ∃ G, Hid (G = gsOf m) := ⟨_, hide rfl⟩
  have HF : Hid (R = (G, 0)) := hide (by rw [unhide HRR, goA, if_pos him, unhide HG])
  have HIR := hide (imB_iff.1 him)
  have HD := hide (show m.data.length ≤ 900 by rw [(unhide HIR).len]; omega)
  have hs3 := (unhide HIR).few
  have HGS : Hid (G.shots.length = m.snaps.length) := hide (by rw [unhide HG]; simp [gsOf])
  have HGK : Hid (∀ k (h : k < m.snaps.length) (h' : k < G.shots.length), G.shots[k].name = m.snaps[k].name ∧ G.shots[k].table = shT m m.snaps[k].table) := hide (by rw [unhide HG]; exact fun k h h' => by simp [gsOf])
  have HGV : Hid (G.vals = shT m m.table) := hide (by rw [unhide HG]; rfl)
  clear him
  obtain ⟨c0, c1, c2, c3⟩ := (unhide HV1).cells
  go_wp2_with fail
  refine (valuesShown_any a m a.tq a.tc m.table _ ((unhide HIR).ent (by simp [imTabs])).1 ((unhide HIR).ent (by simp [imTabs])).2 (unhide HD) (unhide HC1).d (unhide HC1).t).mono ?_
  rintro e w2 ⟨v, rfl, ho, hb⟩
  rw [← unhide HGV] at ho
  clear HGV c0 c1 c2 c3
  obtain ⟨vo, vc, rfl, hov⟩ := ho
  have HW : Hid (OwG w1 w2.heap.size G vo vc (w2.alloc (.cells #[.slice vo G.vals.length vc, .slice none 0 0] 35)) 0 none 0 []) := hide (by
    have hb2 := Joins.below_alloc1 w2 (.cells #[.slice vo G.vals.length vc, .slice none 0 0] 35)
    exact ⟨fr hb hb2, VarG.new w2 _ _ _, rfl, .inl ⟨rfl, by simp [snC], none, rfl⟩, OwnA.one (OwnN.below ⟨vo, vc, rfl, hov⟩ hb2)⟩)
  have HYB : Hid (w1.heap.size ≤ w2.heap.size) := hide hb.size
  clear hb hov
  go_upto_region 4 with fail
  revert HYB
  revert HW
  generalize (w2.alloc _) = W2
  generalize w2.heap.size = y
  intro HW HYB
  obtain ⟨c0, c1, c2, c3⟩ := ((unhide HV1).below (unhide HW).b).cells
  go_wp2
  clear c0 c1 c2 c3
  go_loopw [19] (fun i wr => ∃ (k : Nat) (so : Option Addr) (sc : Nat) (ts : List Value), k ≤ m.snaps.length ∧ i = .int .i64 k ∧ Hid (OwG w1 y G vo vc wr k so sc ts)) (fun i _ => m.snaps.length - (intOf i).toNat)
  case atStart => exact ⟨0, _, 0, [], Nat.zero_le _, rfl, HW⟩
  case round =>
    clear HW
    obtain ⟨k, so, sc, ts, hk, rfl, HL⟩ := hrel
    by_cases hlt : k < m.snaps.length
    · have hltG : k < G.shots.length := by rw [unhide HGS]; exact hlt
      obtain ⟨b1, o1, tq, tc, e1, hn1, ht1, hi1, hz1, hl1⟩ := ((unhide HC1).below (unhide HL).b).s k hlt
      rw [e1]
      have HI1 := hide hi1
      have HEN := hide ((unhide HIR).ent (t := m.snaps[k].table) (by simp only [imTabs, List.mem_cons, List.mem_map]; exact .inr ⟨_, List.getElem_mem hlt, rfl⟩))
      have HGN := hide (unhide HGK k hlt hltG)
      have HBX := hide (Joins.below_alloc1 wr (.cells #[.string m.snaps[k].name, .slice tq m.snaps[k].table.length tc] 63))
      have HVX := hide (VarG.new wr 63 (.string m.snaps[k].name) (.slice tq m.snaps[k].table.length tc))
      have HLX := hide ((unhide HL).below (unhide HBX))
      have HIX := hide ((unhide HI1).below (unhide HBX))
      clear hi1 hz1 hl1 e1 HI1
      go_upto_region 7 with fail
      clear hn1 ht1
      revert HIX
      revert HLX
      revert HVX
      revert HBX
      generalize (wr.alloc _) = wx
      generalize wr.heap.size = xx
      intro HBX HVX HLX HIX
      have hS0 : Below wx.heap.size wx wx.drew := (Below.refl _ _).drew
      refine wp_region_ord (fun w' => Below wx.heap.size wx w') [0, 1, 2, 3, 4, 5, 6, 7, 8, 9] [(0, 0), (1, 0), (2, 0), (3, 0), (4, 0), (5, 0), (6, 0), (7, 2), (8, 0), (9, 2), (10, 3), (11, 4), (12, 3)] (by kernel_rfl) (by kernel_rfl) rfl (by kernel_rfl) ?_
      refine ord_read (.pointer (some ⟨y, 1, none⟩)) rfl rfl hS0 (fun W hW => by go_simp) ?_
      refine ord_read (.slice so k sc) rfl rfl hS0 (fun W hW => by obtain ⟨k0, k1⟩ := ((unhide HLX).v.below hW).cells; go_simp) ?_
      refine ord_read (.pointer (some ⟨xx, 0, none⟩)) rfl rfl hS0 (fun W hW => by go_simp) ?_
      refine ord_read (.string m.snaps[k].name) rfl rfl hS0 (fun W hW => by obtain ⟨k0, k1⟩ := ((unhide HVX).below hW).cells; go_simp) ?_
      refine ord_read (imV a m) rfl rfl hS0 (fun W hW => by obtain ⟨k0, k1, k2, k3⟩ := (((unhide HV1).below (unhide HLX).b).below hW).cells; go_simp) ?_
      refine ord_read (.pointer (some ⟨xx, 1, none⟩)) rfl rfl hS0 (fun W hW => by go_simp) ?_
      refine ord_read (.slice tq m.snaps[k].table.length tc) rfl rfl hS0 (fun W hW => by obtain ⟨k0, k1⟩ := ((unhide HVX).below hW).cells; go_simp) ?_
      refine ord_held rfl rfl ?_
      intro K hK
      unfold Oper.wp
      go_simp
      refine (valuesShown_any a m tq tc m.snaps[k].table _ (unhide HEN).1 (unhide HEN).2 (unhide HD) (((unhide HC1).below (unhide HLX).b).d.below hS0) ((unhide HIX).below hS0)).mono ?_
      rintro e w3 ⟨v3, rfl, ho3, hb3⟩
      rw [← (unhide HGN).2] at ho3
      have hS3 : Below wx.heap.size wx w3 := fr hS0 hb3
      obtain ⟨q3, z3, rfl, hr3⟩ := ho3
      have HO3 : Hid (OwnN w3 wx.heap.size (.slice q3 G.shots[k].table.length z3) G.shots[k].table) := hide (OwnN.base ⟨q3, z3, rfl, hr3⟩ hS0.size)
      refine hK _ _ hS3 ?_
      clear hK K hb3 hr3 hS0
      refine ord_read (.agg #[.string m.snaps[k].name, .slice q3 G.shots[k].table.length z3]) rfl rfl hS3 (fun W hW => by go_simp) ?_
      rw [← (unhide HGN).1]
      refine ord_held rfl rfl ?_
      intro K hK
      unfold Oper.wp
      go_simp
      have hS4 : Below wx.heap.size wx (w3.alloc (.cells #[.string G.shots[k].name, .slice q3 G.shots[k].table.length z3] 42)) := fr hS3 (Joins.below_alloc1 _ _)
      have HO4 := hide ((unhide HO3).below (Joins.below_alloc1 w3 (.cells #[.string G.shots[k].name, .slice q3 G.shots[k].table.length z3] 42)))
      have hnew : (w3.alloc (.cells #[.string G.shots[k].name, .slice q3 G.shots[k].table.length z3] 42)).heap[w3.heap.size]? = some (.cells #[.string G.shots[k].name, .slice q3 G.shots[k].table.length z3] 42 (0, 0)) := heap_alloc_new _ _
      refine hK _ _ hS4 ?_
      clear hK K
      generalize (w3.alloc (.cells #[.string G.shots[k].name, .slice q3 G.shots[k].table.length z3] 42)) = w4 at *
      have HL4 := hide ((unhide HLX).below hS4)
      refine ord_alone rfl rfl ?_
      intro K hK
      refine wp_append_one rfl (.tmp 24) (.tmp 32) 33 rfl w1.heap.size 42 j0 (.agg #[.string ⟨#[]⟩, .slice none 0 0]) 2 40 Try.underlying33 hj0 hy0 hy1 hy2 rfl (by omega) so k sc (snC (G.shots.take k) ts) rfl (unhide HL4).s (unhide HL4).b.size ⟨w3.heap.size, 0, none⟩ 1 [.string G.shots[k].name, .slice q3 G.shots[k].table.length z3] rfl rfl (snap_news hnew) (snap_one _ _ _ _) (by unfold maxLen; omega) (by omega) ?_
      intro g2 cap2 w5 ho5 hk5
      obtain ⟨hv5, hL5⟩ := (unhide HLX).app (unhide HYB) hltG hS4 hk5 ho5 (unhide HO4)
      have HV5 := hide hv5
      have HL5 := hide hL5
      clear hv5 hL5 ho5 hk5
      refine hK _ _ ?_
      clear hK K
      refine ord_val (.pointer (some ⟨y, 1, none⟩)) rfl rfl (fun W => by go_simp) ?_
      refine ord_alone rfl rfl ?_
      intro K hK
      obtain ⟨k0, k1⟩ := (unhide HV5).cells
      obtain ⟨z0, z1⟩ := (unhide HV5).free
      unfold Oper.wp
      go_simp
      refine hK _ _ ?_
      clear hK K k0 k1 z0 z1
      refine ord_done ?_
      clear HV5 HL4 HO4 HO3 hnew hS3 hS4
      go_wp2
      go_roundw
      case rel => exact ⟨k + 1, _, _, _, by omega, by go_num, HL5⟩
      case measure => simp [intOf]; omega
    · have hkl : k = m.snaps.length := by omega
      subst hkl
      have HL2 : Hid (OwG w1 y G vo vc wr G.shots.length so sc ts) := hide (by rw [unhide HGS]; exact unhide HL)
      have HO := hide (unhide HL2).own
      have HR2 := hide ((unhide HR1).below (unhide HL).b)
      obtain ⟨d0, d1⟩ := (unhide HL).v.cells
      obtain ⟨r0, r1⟩ := (unhide HR2).cells
      obtain ⟨z0, z1⟩ := (unhide HR2).free
      have HS := hide ((unhide HR2).putG ⟨vo, vc, so, sc⟩ G)
      have HS2 := hide ((unhide HO).putG (unhide HLT) ⟨vo, vc, so, sc⟩ G)
      have HS3 := hide (below_putG (fr (unhide HA1) (unhide HL).b) (Nat.le_succ w.heap.size) ⟨vo, vc, so, sc⟩ G)
      unfold putG at HS HS2 HS3
      simp only at HS HS2 HS3
      rw [unhide HGS] at HS HS2 HS3
      go_wp2
      refine bodyPost_ret (res_gc Try.results11 rfl rfl (unhide HS)) rfl ?_
      rw [unhide HF]
      exact AnsG.of (R := (G, 0)) (a := ⟨vo, vc, so, sc⟩) (ts := ts) (by simp only [gsV]; rw [unhide HGS]) rfl ((unhide HS2).base (by have := unhide HLT; omega)) (unhide HS3)

end Go.Proofs.Ythnpooffhopnkac

/- Guests in the laws' variables, and what right images show, called. -/
namespace Go.Proofs.Ythnpooffhopnkac
open Go.RowKit
set_option linter.unusedVariables false
set_option maxRecDepth 100000

/-- A variable with a guest. -/
structure GsA (W : World) (y : Nat) (a : Gs4) (g : Gst) : Prop where
  v : VarG W y 35 (.slice a.vo g.vals.length a.vc) (.slice a.so g.shots.length a.sc)
  s : GsS W a g
theorem GsA.below {W W' : World} {y : Nat} {a : Gs4} {g : Gst} (h : GsA W y a g) (hb : Below W.heap.size W W') : GsA W' y a g := ⟨h.v.below hb, h.s.below hb⟩
theorem GsA.new {W : World} {a : Gs4} {g : Gst} (h : GsS W a g) : GsA (W.alloc (.cells #[.slice a.vo g.vals.length a.vc, .slice a.so g.shots.length a.sc] 35)) W.heap.size a g := ⟨VarG.new _ _ _ _, h.below (Joins.below_alloc1 _ _)⟩
theorem OwnGs.showsR {w : World} {B : Nat} {a : Gs4} {g : Gst} {ts : List Value} (h : OwnGs w B a g ts) (hi : GsR g) : GsS w a g := h.shows (GsBd.R hi).zs
theorem guestA (a : Im4) (m : Img) (G : Gst) (W : World) (h : ImR m) (hG : G = gsOf m) (hs : ImS W a m) :
    Calls Try.prog 11 #[imV a m] W fun e w' => AnsG W w' e (G, 0) := by
  have := guestOf_impl a m W h.L hs
  rw [show goA m = (G, 0) by rw [goA, if_pos (imB_iff.2 h), hG]] at this
  exact this

end Go.Proofs.Ythnpooffhopnkac
