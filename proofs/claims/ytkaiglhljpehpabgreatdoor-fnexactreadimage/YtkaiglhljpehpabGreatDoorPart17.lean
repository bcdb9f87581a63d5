import Derived.Test.YtkaiglhljpehpabGreatDoorRows
import Derived.Test.YtkaiglhljpehpabGreatDoorPart1
import Derived.Test.YtkaiglhljpehpabGreatDoorPart2
import Derived.Test.YtkaiglhljpehpabGreatDoorPart3
import Derived.Test.YtkaiglhljpehpabGreatDoorPart4
import Derived.Test.YtkaiglhljpehpabGreatDoorPart5
import Derived.Test.YtkaiglhljpehpabGreatDoorPart6
import Derived.Test.YtkaiglhljpehpabGreatDoorPart7
import Derived.Test.YtkaiglhljpehpabGreatDoorPart9
import Derived.Test.YtkaiglhljpehpabGreatDoorPart16
import Derived.WalkKit
import Derived.WalkSpells
import Derived.KernelRfl
import Derived.LoopN
import Derived.BigQuiet
import Derived.Deep.QuietTactic
import Derived.Deep.RegionWith
import Derived.Test.YtkaiglhljpehpabGreatDoorPart15
import Derived.Test.YtkaiglhljpehpabGreatDoorPart13
import Derived.Test.YtkaiglhljpehpabGreatDoorPart14

/- Counts and data that follow the tables: imFit; the contract of impl.fitToTables. -/
namespace Go.Proofs.YtkaiglhljpehpabGreatDoor
open Go.RowKit
set_option linter.unusedVariables false
set_option maxRecDepth 100000

/-- Counts and data as the tables have them. -/
def imFit (m : Img) : Img := { m with refs := imCnt m, data := (List.range 24).map fun i => if (imCnt m).getD i 0 = 0 then 0 else m.data.getD i 0 }
/-- .. of the first clusters. -/
def fitTo (m : Img) (cs : List Int) : Nat → Img
  | 0 => m
  | k + 1 => { fitTo m cs k with refs := (fitTo m cs k).refs.set k (cs.getD k 0), data := if cs.getD k 0 = 0 then (fitTo m cs k).data.set k 0 else (fitTo m cs k).data }
theorem fitTo_lens (m : Img) (cs : List Int) : ∀ k, (fitTo m cs k).refs.length = m.refs.length ∧ (fitTo m cs k).data.length = m.data.length ∧ (fitTo m cs k).table = m.table ∧ (fitTo m cs k).snaps = m.snaps
  | 0 => ⟨rfl, rfl, rfl, rfl⟩
  | k + 1 => by
    obtain ⟨h1, h2, h3, h4⟩ := fitTo_lens m cs k
    refine ⟨by simp [fitTo, h1], ?_, h3, h4⟩
    unfold fitTo
    simp only
    split
    · rw [List.length_set]; exact h2
    · exact h2
theorem fitTo_get (m : Img) (cs : List Int) (hr : m.refs.length = 24) (hd : m.data.length = 24) : ∀ k, k ≤ 24 → ∀ i, i < 24 → (fitTo m cs k).refs.getD i 0 = (if i < k then cs.getD i 0 else m.refs.getD i 0) ∧ (fitTo m cs k).data.getD i 0 = (if i < k ∧ cs.getD i 0 = 0 then 0 else m.data.getD i 0)
  | 0, _, i, _ => by simp [fitTo]
  | k + 1, hk, i, hi => by
    obtain ⟨h1, h2⟩ := fitTo_get m cs hr hd k (by omega) i hi
    obtain ⟨l1, l2, _, _⟩ := fitTo_lens m cs k
    constructor
    · have e : (fitTo m cs (k + 1)).refs = (fitTo m cs k).refs.set k (cs.getD k 0) := rfl
      rw [e]
      by_cases hik : i = k
      · subst hik
        rw [if_pos (by omega)]
        simp [List.getD, l1, hr, hi]
      · have : (i < k + 1) ↔ (i < k) := by omega
        simp only [this]
        rw [← h1]
        simp [List.getD, Ne.symm hik]
    · have e : (fitTo m cs (k + 1)).data = if cs.getD k 0 = 0 then (fitTo m cs k).data.set k 0 else (fitTo m cs k).data := rfl
      rw [e]
      by_cases hik : i = k
      · subst hik
        by_cases hz : cs.getD i 0 = 0
        · rw [if_pos hz, if_pos ⟨by omega, hz⟩]
          simp [List.getD, l2, hd, hi]
        · rw [if_neg hz, h2, if_neg (fun h => hz h.2), if_neg (fun h => hz h.2)]
      · have : (i < k + 1) ↔ (i < k) := by omega
        simp only [this]
        rw [← h2]
        split
        · simp [List.getD, Ne.symm hik]
        · rfl
theorem getD_ext {xs ys : List Int} (h1 : xs.length = 24) (h2 : ys.length = 24) (h : ∀ i, i < 24 → xs.getD i 0 = ys.getD i 0) : xs = ys :=
  List.ext_getElem (by rw [h1, h2]) (fun i ha hb => by
    have := h i (by omega)
    simpa [List.getD, ha, hb] using this)
theorem range_getD {f : Nat → Int} {i : Nat} (hi : i < 24) : ((List.range 24).map f).getD i 0 = f i := by simp [List.getD, hi]
theorem fitTo_all (m : Img) (hr : m.refs.length = 24) (hd : m.data.length = 24) : fitTo m (imCnt m) 24 = imFit m := by
  obtain ⟨l1, l2, l3, l4⟩ := fitTo_lens m (imCnt m) 24
  have e1 : (fitTo m (imCnt m) 24).refs = imCnt m := getD_ext (by rw [l1, hr]) (imCnt_len m) (fun i hi => by
    rw [(fitTo_get m (imCnt m) hr hd 24 (Nat.le_refl _) i hi).1, if_pos hi])
  have e2 : (fitTo m (imCnt m) 24).data = (List.range 24).map fun i => if (imCnt m).getD i 0 = 0 then 0 else m.data.getD i 0 := getD_ext (by rw [l2, hd]) (by simp) (fun i hi => by
    rw [(fitTo_get m (imCnt m) hr hd 24 (Nat.le_refl _) i hi).2, range_getD hi]
    simp [hi])
  have key : ∀ F : Img, F.refs = imCnt m → F.table = m.table → F.snaps = m.snaps → F.data = ((List.range 24).map fun i => if (imCnt m).getD i 0 = 0 then 0 else m.data.getD i 0) → F = imFit m := by
    rintro ⟨r, t, s, d⟩ h1 h2 h3 h4
    simp only at h1 h2 h3 h4
    subst h1 h2 h3 h4
    rfl
  exact key _ e1 l3 l4 e2
/-- Cells are no map. -/
theorem MpC.setCell {w : World} {B n : Nat} {D : DataW Unit} {ns : List Int} (h : MpC w B n D ns) {p : Addr} {u : Value} (hc : w.cell? p = some u) (v : Value) : MpC (w.setCell p v) B n D ns := by
  have hk : Keep (fun g => g = p.block) w (w.setCell p v) := (Keep.refl (fun g => g = p.block) w).setCell (p := p) rfl v
  refine h.keep hk (fun e => ?_)
  obtain ⟨⟨es, clock, hb, _⟩, _⟩ := h
  have e' : B = p.block := e
  rw [e'] at hb
  simp [World.cell?, hb] at hc
theorem ImB.lens {a : Im4} {m m' : Img} {ts : List Value} {g : Nat} (e1 : m'.refs.length = m.refs.length) (e2 : m'.table.length = m.table.length) (e3 : m'.snaps.length = m.snaps.length) (e4 : m'.data.length = m.data.length) (h : ImB a m' ts g) : ImB a m ts g := by
  unfold ImB at h ⊢
  rw [e1, e2, e3, e4] at h
  exact h

end Go.Proofs.YtkaiglhljpehpabGreatDoor

/- Plain: counts that follow the tables are those that the model reckons. -/
namespace Go.Proofs.YtkaiglhljpehpabGreatDoor
open Go.RowKit
set_option linter.unusedVariables false
set_option maxRecDepth 100000

/-- How often a table has a cluster. -/
def cN (t : List Int) (i : Nat) : Int := (t.count ((i : Int) + 2) : Int)
theorem cN_nn (t : List Int) (i : Nat) : 0 ≤ cN t i := by unfold cN; omega
theorem clA_count (t : List Int) (i : Nat) : ((clA t).count (i : Int) : Int) = cN t i := by
  unfold clA clTo cN
  rw [List.take_length]
  induction t with
  | nil => rfl
  | cons e t ih =>
    rw [List.filterMap_cons, List.count_cons]
    by_cases h : 2 ≤ e
    · rw [if_pos h]
      simp only [List.count_cons]
      by_cases h2 : e = (i : Int) + 2
      · have h3 : e - 2 = (i : Int) := by omega
        simp [h2]; omega
      · have h3 : ¬ (e - 2 = (i : Int)) := by omega
        simp [h2, h3]; omega
    · rw [if_neg h]
      have h2 : ¬ (e = (i : Int) + 2) := by omega
      simp [h2]; omega
/-- .. all tables together. -/
def sN (ts : List (List Int)) (i : Nat) : Int := (ts.map fun t => cN t i).sum
theorem sN_nn (ts : List (List Int)) (i : Nat) : 0 ≤ sN ts i := by
  unfold sN
  induction ts with
  | nil => exact Int.le_refl _
  | cons t ts ih => rw [List.map_cons, List.sum_cons]; have := cN_nn t i; omega
theorem fold_cnt (i : Nat) (hi : i < 24) : ∀ (ts : List (List Int)), (∀ t ∈ ts, tbB t = true) → ∀ ns : List Int, ns.length = 24 → (ts.foldl cnt1T ns).getD i 0 = ns.getD i 0 + sN ts i := by
  intro ts
  induction ts with
  | nil => intro _ ns _; simp [sN]
  | cons t ts ih =>
    intro ht ns hl
    rw [List.foldl_cons, ih (fun x hx => ht x (by simp [hx])) _ (by rw [cnt1T_len]; exact hl), cnt1T_get (ht t (by simp)) hl hi, clA_count]
    simp only [sN, List.map_cons, List.sum_cons]
    omega
theorem cnt_get {m : Img} (ht : ∀ t ∈ imTabs m, tbB t = true) {i : Nat} (hi : i < 24) : (imCnt m).getD i 0 = sN (imTabs m) i := by
  unfold imCnt
  rw [fold_cnt i hi _ ht _ rfl, zero24_get hi]; omega
theorem ImR.tabs {m : Img} (h : ImR m) : ∀ t ∈ imTabs m, tbB t = true := fun t ht => by
  unfold imTabs at ht
  rw [List.mem_cons, List.mem_map] at ht
  rcases ht with rfl | ⟨s, hs, rfl⟩
  · exact h.table
  · exact (h.snaps s hs).2
theorem ImR.cntA {m : Img} (h : ImR m) {i : Nat} (hi : i < 24) : m.refs.getD i 0 = sN (imTabs m) i := by rw [← h.cnt]; exact cnt_get h.tabs hi
theorem ImR.rl {m : Img} (h : ImR m) : m.refs.length = 24 := ctB_len h.refs
theorem sN_cons (t : List Int) (ts : List (List Int)) (i : Nat) : sN (t :: ts) i = cN t i + sN ts i := rfl
theorem sN_tabs (m : Img) (i : Nat) : sN (imTabs m) i = cN m.table i + sN (m.snaps.map (·.table)) i := rfl
/-- A right image is as its tables have it. -/
theorem fit_self {m : Img} (h : ImR m) : imFit m = m := by
  have e2 : ((List.range 24).map fun i => if (imCnt m).getD i 0 = 0 then 0 else m.data.getD i 0) = m.data := getD_ext (by simp) h.len (fun i hi => by
    rw [range_getD hi, h.cnt]
    split
    · rename_i hz; exact (h.clear i hi hz).symm
    · rfl)
  unfold imFit
  rw [e2, h.cnt]
theorem img_eq {m n : Img} (h1 : m.refs = n.refs) (h2 : m.table = n.table) (h3 : m.snaps = n.snaps) (h4 : m.data = n.data) : m = n := by
  cases m; cases n; simp only at h1 h2 h3 h4; subst h1 h2 h3 h4; rfl
/-- What fits, cluster by cluster. -/
theorem fit_eq {m1 n : Img} (ht : ∀ t ∈ imTabs m1, tbB t = true) (hr : n.refs.length = 24) (hd : n.data.length = 24) (h2 : m1.table = n.table) (h3 : m1.snaps = n.snaps) (hR : ∀ i, i < 24 → n.refs.getD i 0 = sN (imTabs m1) i) (hD : ∀ i, i < 24 → n.data.getD i 0 = if sN (imTabs m1) i = 0 then 0 else m1.data.getD i 0) : imFit m1 = n := by
  refine img_eq ?_ h2 h3 ?_
  · exact getD_ext (imCnt_len m1) hr (fun i hi => by rw [hR i hi]; exact cnt_get ht hi)
  · refine getD_ext (by simp [imFit]) hd (fun i hi => ?_)
    rw [hD i hi]
    unfold imFit
    simp only
    rw [range_getD hi, cnt_get ht hi]
/-- A cluster that a table has no more. -/
theorem drop_get {m : Img} (hr : m.refs.length = 24) (hd : m.data.length = 24) (e : Int) {i : Nat} (hi : i < 24) : (imDrop m e).refs.getD i 0 = m.refs.getD i 0 - (if e = (i : Int) + 2 then 1 else 0) ∧ (imDrop m e).data.getD i 0 = if e = (i : Int) + 2 ∧ m.refs.getD i 0 = 1 then 0 else m.data.getD i 0 := by
  by_cases h : e < 2
  · have e1 : imDrop m e = m := if_pos h
    rw [e1, if_neg (by omega), if_neg (by omega)]
    exact ⟨by omega, rfl⟩
  · unfold imDrop
    rw [if_neg h]
    simp only
    by_cases h2 : e = (i : Int) + 2
    · have h3 : (e - 2).toNat = i := by omega
      rw [h3]
      constructor
      · simp [List.getD, hr, hi, h2]
      · by_cases h4 : m.refs.getD i 0 = 1
        · rw [if_pos (by omega), if_pos ⟨h2, h4⟩]
          simp [List.getD, hd, hi]
        · rw [if_neg (by omega), if_neg (fun h => h4 h.2)]
    · have h3 : (e - 2).toNat ≠ i := by omega
      constructor
      · simp [List.getD, h3, h2]
      · have hR : (if e = (i : Int) + 2 ∧ m.refs.getD i 0 = 1 then 0 else m.data.getD i 0) = m.data.getD i 0 := if_neg (fun h => h2 h.1)
        rw [hR]
        split
        · simp [List.getD, h3]
        · rfl
theorem drops_lens (m : Img) : ∀ es : List Int, (imDrops m es).refs.length = m.refs.length ∧ (imDrops m es).data.length = m.data.length ∧ (imDrops m es).table = m.table ∧ (imDrops m es).snaps = m.snaps := by
  intro es
  unfold imDrops
  induction es generalizing m with
  | nil => exact ⟨rfl, rfl, rfl, rfl⟩
  | cons e es ih =>
    obtain ⟨h1, h2, h3, h4⟩ := ih (imDrop m e)
    rw [List.foldl_cons]
    exact ⟨h1.trans (imDrop_refs m e), h2.trans (imDrop_data m e), h3.trans (imDrop_table m e).1, h4.trans (imDrop_table m e).2⟩
theorem drops_get {i : Nat} (hi : i < 24) : ∀ (es : List Int) (m : Img), m.refs.length = 24 → m.data.length = 24 → (imDrops m es).refs.getD i 0 = m.refs.getD i 0 - cN es i ∧ (imDrops m es).data.getD i 0 = if 1 ≤ m.refs.getD i 0 ∧ m.refs.getD i 0 ≤ cN es i then 0 else m.data.getD i 0 := by
  intro es
  induction es with
  | nil =>
    intro m _ _
    refine ⟨by simp [imDrops, cN], ?_⟩
    rw [if_neg (by simp only [cN, List.count_nil]; omega)]; rfl
  | cons e es ih =>
    intro m hr hd
    obtain ⟨h1, h2⟩ := drop_get hr hd e hi
    obtain ⟨h3, h4⟩ := ih (imDrop m e) (by rw [imDrop_refs]; exact hr) (by rw [imDrop_data]; exact hd)
    have hf : imDrops m (e :: es) = imDrops (imDrop m e) es := rfl
    have hc : cN (e :: es) i = cN es i + (if e = (i : Int) + 2 then 1 else 0) := by
      unfold cN
      rw [List.count_cons]
      by_cases h : e = (i : Int) + 2
      · simp [h]
      · simp [h]
    have hn := cN_nn es i
    rw [hf, h3, h4, h1, h2, hc]
    by_cases h : e = (i : Int) + 2
    · simp only [h, if_true, true_and]
      refine ⟨by omega, ?_⟩
      by_cases hx : 1 ≤ m.refs.getD i 0 ∧ m.refs.getD i 0 ≤ cN es i + 1
      · rw [if_pos hx]
        split
        · rfl
        · rw [if_pos (by omega)]
      · rw [if_neg hx, if_neg (by omega), if_neg (by omega)]
    · simp only [h, if_false, false_and]
      exact ⟨by omega, by simp⟩
/-- A table of which one entry is set. -/
theorem cN_set {t : List Int} {g : Nat} (hg : g < t.length) (e : Int) (i : Nat) : cN (t.set g e) i = cN t i - (if t[g] = (i : Int) + 2 then 1 else 0) + (if e = (i : Int) + 2 then 1 else 0) := by
  unfold cN
  rw [List.count_set hg]
  have hp : t[g] = (i : Int) + 2 → 0 < t.count ((i : Int) + 2) := fun h => List.count_pos_iff.2 (h ▸ List.getElem_mem hg)
  by_cases h : t[g] = (i : Int) + 2
  · have := hp h
    by_cases h2 : e = (i : Int) + 2
    · simp [h, h2]; omega
    · simp [h, h2]; omega
  · by_cases h2 : e = (i : Int) + 2
    · simp [h, h2]
    · simp [h, h2]
theorem cN_pos {t : List Int} {g i : Nat} (hg : g < t.length) (h : t[g] = (i : Int) + 2) : 1 ≤ cN t i := by
  unfold cN
  have : 0 < t.count ((i : Int) + 2) := List.count_pos_iff.2 (h ▸ List.getElem_mem hg)
  omega
theorem tbB_set {t : List Int} (h : tbB t = true) (g : Nat) {e : Int} (h0 : 0 ≤ e) (h1 : e ≤ 25) : tbB (t.set g e) = true := by
  refine tbB_of (by rw [List.length_set]; exact tbB_len h) (fun i hi => ?_)
  rw [List.getElem_set]
  split
  · exact betw_iff.2 ⟨h0, h1⟩
  · exact betw_iff.2 (tbB_at h i (by simpa using hi))
theorem tabs_with {m : Img} (h : ImR m) {t : List Int} (ht : tbB t = true) (d : List Int) : ∀ x ∈ imTabs { m with table := t, data := d }, tbB x = true := fun x hx => by
  have hx' : x ∈ t :: m.snaps.map (·.table) := hx
  rw [List.mem_cons] at hx'
  rcases hx' with rfl | hx'
  · exact ht
  · exact h.tabs x (by unfold imTabs; exact List.mem_cons_of_mem _ hx')
theorem fit_zero {m : Img} (h : ImR m) {g : Nat} (hg : g < m.table.length) : imFit { m with table := m.table.set g 1 } = imZero m g := by
  have ht := tbB_set h.table g (e := 1) (by omega) (by omega)
  have hgd : m.table.getD g 0 = m.table[g] := by simp [List.getD, hg]
  have hcs : ∀ i, sN (imTabs { m with table := m.table.set g 1 }) i = sN (imTabs m) i - (if m.table[g] = (i : Int) + 2 then 1 else 0) := fun i => by
    have e : sN (imTabs { m with table := m.table.set g 1 }) i = cN (m.table.set g 1) i + sN (m.snaps.map (·.table)) i := rfl
    rw [e, cN_set hg, sN_tabs, if_neg (show ¬ (1 : Int) = (i : Int) + 2 by omega)]
    omega
  refine fit_eq (tabs_with h ht m.data) ?_ ?_ ?_ ?_ (fun i hi => ?_) (fun i hi => ?_)
  · show (imDrop m _).refs.length = 24; rw [imDrop_refs]; exact h.rl
  · show (imDrop m _).data.length = 24; rw [imDrop_data]; exact h.len
  · show m.table.set g 1 = (imDrop m _).table.set g 1; rw [(imDrop_table m _).1]
  · show m.snaps = (imDrop m _).snaps; rw [(imDrop_table m _).2]
  · show (imDrop m _).refs.getD i 0 = _
    rw [(drop_get h.rl h.len _ hi).1, hcs, h.cntA hi, hgd]
  · show (imDrop m _).data.getD i 0 = _
    rw [(drop_get h.rl h.len _ hi).2, hcs, ← h.cntA hi, hgd]
    by_cases h1 : m.table[g] = (i : Int) + 2
    · simp only [h1, true_and, if_true]
      by_cases h2 : m.refs.getD i 0 = 1
      · rw [if_pos h2, if_pos (by omega)]
      · rw [if_neg h2, if_neg (by omega)]
    · simp only [h1, false_and, if_false]
      by_cases h2 : m.refs.getD i 0 = 0
      · rw [if_pos (by omega), h.clear i hi h2]
      · rw [if_neg (by omega)]

/-- Written in place. -/
theorem fit_in {m : Img} (h : ImR m) {g c : Nat} (v : Int) (hg : g < m.table.length) (hc : m.table[g] = (c : Int) + 2) (h1 : m.refs.getD c 0 = 1) : imFit { m with table := m.table.set g (2 + (c : Int)), data := m.data.set c v } = { m with data := m.data.set c v } := by
  have hset : m.table.set g (2 + (c : Int)) = m.table := by
    rw [show (2 : Int) + (c : Int) = m.table[g] by omega]
    exact List.set_getElem_self hg
  have hb := tbB_at h.table g hg
  rw [hset]
  refine fit_eq (n := { m with data := m.data.set c v }) (tabs_with h h.table _) h.rl (by simp [h.len]) rfl rfl (fun i hi => h.cntA hi) (fun i hi => ?_)
  have e : sN (imTabs { m with data := m.data.set c v }) i = sN (imTabs m) i := rfl
  rw [e, ← h.cntA hi]
  by_cases hz : m.refs.getD i 0 = 0
  · rw [if_pos hz]
    have hne : c ≠ i := fun e => by rw [e, hz] at h1; cases h1
    have e2 : (m.data.set c v).getD i 0 = m.data.getD i 0 := by simp [List.getD, hne]
    exact e2.trans (h.clear i hi hz)
  · rw [if_neg hz]
theorem free_spec {xs : List Int} (h : frN xs < xs.length) : xs.getD (frN xs) 0 = 0 := by
  unfold frN at h ⊢
  have := List.findIdx_getElem (w := h)
  simpa [List.getD, h] using this
/-- Written into a free cluster. -/
theorem fit_out {m : Img} (h : ImR m) {g c : Nat} (v : Int) (hg : g < m.table.length) (hc : c < 24) (h0 : m.refs.getD c 0 = 0) : imFit { m with table := m.table.set g (2 + (c : Int)), data := m.data.set c v } = { imDrop m m.table[g] with refs := (imDrop m m.table[g]).refs.set c 1, data := (imDrop m m.table[g]).data.set c v, table := (imDrop m m.table[g]).table.set g (2 + (c : Int)) } := by
  have ht := tbB_set h.table g (e := 2 + (c : Int)) (by omega) (by omega)
  have hcs : ∀ i, sN (imTabs { m with table := m.table.set g (2 + (c : Int)), data := m.data.set c v }) i = sN (imTabs m) i - (if m.table[g] = (i : Int) + 2 then 1 else 0) + (if c = i then 1 else 0) := fun i => by
    have e : sN (imTabs { m with table := m.table.set g (2 + (c : Int)), data := m.data.set c v }) i = cN (m.table.set g (2 + (c : Int))) i + sN (m.snaps.map (·.table)) i := rfl
    rw [e, cN_set hg, sN_tabs]
    by_cases hci : c = i
    · rw [if_pos hci, if_pos (show (2 : Int) + (c : Int) = (i : Int) + 2 by omega)]; omega
    · rw [if_neg hci, if_neg (show ¬ (2 : Int) + (c : Int) = (i : Int) + 2 by omega)]; omega
  have hne : ¬ m.table[g] = (c : Int) + 2 := fun e => by
    have h1 := cN_pos hg e
    have h2 := h.cntA hc
    have h3 := sN_nn (m.snaps.map (·.table)) c
    rw [sN_tabs] at h2
    omega
  refine fit_eq (tabs_with h ht _) ?_ ?_ ?_ ?_ (fun i hi => ?_) (fun i hi => ?_)
  · show ((imDrop m _).refs.set c 1).length = 24; rw [List.length_set, imDrop_refs]; exact h.rl
  · show ((imDrop m _).data.set c v).length = 24; rw [List.length_set, imDrop_data]; exact h.len
  · show m.table.set g _ = (imDrop m _).table.set g _; rw [(imDrop_table m _).1]
  · show m.snaps = (imDrop m _).snaps; rw [(imDrop_table m _).2]
  · show ((imDrop m m.table[g]).refs.set c 1).getD i 0 = _
    rw [hcs]
    by_cases hci : c = i
    · subst hci
      rw [if_pos rfl, if_neg hne, ← h.cntA hc, h0]
      simp [List.getD, imDrop_refs, h.rl, hc]
    · have e : ((imDrop m m.table[g]).refs.set c 1).getD i 0 = (imDrop m m.table[g]).refs.getD i 0 := by simp [List.getD, hci]
      rw [e, (drop_get h.rl h.len _ hi).1, h.cntA hi, if_neg hci]; omega
  · show ((imDrop m m.table[g]).data.set c v).getD i 0 = if _ then 0 else (m.data.set c v).getD i 0
    rw [hcs]
    by_cases hci : c = i
    · subst hci
      rw [if_neg (show ¬ (sN (imTabs m) c - (if m.table[g] = (c : Int) + 2 then 1 else 0) + (if c = c then 1 else 0) = 0) by rw [if_pos rfl, if_neg hne, ← h.cntA hc, h0]; omega)]
      simp [List.getD, imDrop_data, h.len, hc]
    · have e : ((imDrop m m.table[g]).data.set c v).getD i 0 = (imDrop m m.table[g]).data.getD i 0 := by simp [List.getD, hci]
      have e2 : (m.data.set c v).getD i 0 = m.data.getD i 0 := by simp [List.getD, hci]
      rw [e, e2, (drop_get h.rl h.len _ hi).2, ← h.cntA hi, if_neg hci]
      by_cases h1 : m.table[g] = (i : Int) + 2
      · simp only [h1, true_and, if_true]
        by_cases h2 : m.refs.getD i 0 = 1
        · rw [if_pos h2, if_pos (by omega)]
        · rw [if_neg h2, if_neg (by omega)]
      · simp only [h1, false_and, if_false]
        by_cases h2 : m.refs.getD i 0 = 0
        · rw [if_pos (by omega), h.clear i hi h2]
        · rw [if_neg (by omega)]
theorem cN_append (s t : List Int) (i : Nat) : cN (s ++ t) i = cN s i + cN t i := by unfold cN; rw [List.count_append]; omega
theorem cN_rz (t : List Int) (i : Nat) : ∀ n, cN (rzTo t n) i = cN (t.take n) i := by
  intro n
  induction n with
  | zero => simp [rzTo]
  | succ n ih =>
    rw [rzTo_succ, cN_append, ih]
    by_cases hn : n < t.length
    · rw [List.take_succ_eq_append_getElem hn, cN_append]
      have : t.getD n 0 = t[n] := by simp [List.getD, hn]
      rw [this]
    · have h1 : t.getD n 0 = 0 := by simp [List.getD, hn]
      have h2 : t.take (n + 1) = t.take n := by rw [List.take_of_length_le (by omega), List.take_of_length_le (by omega)]
      rw [h1, h2]
      have : cN [0] i = 0 := by
        unfold cN
        rw [List.count_cons]
        simp; omega
      omega
theorem tbB_rz {t : List Int} (h : tbB t = true) {n : Nat} (hn : n ≤ 12) : tbB (rzTo t n) = true := by
  refine tbB_of (by rw [rzTo_len]; exact hn) (fun i hi => ?_)
  rw [rzTo_len] at hi
  have e : (rzTo t n)[i]'(by rw [rzTo_len]; exact hi) = t.getD i 0 := by simp [rzTo]
  rw [e]
  by_cases hit : i < t.length
  · have := tbB_at h i hit
    rw [show t.getD i 0 = t[i] by simp [List.getD, hit]]
    exact betw_iff.2 this
  · rw [show t.getD i 0 = 0 by simp [List.getD, hit]]
    exact betw_iff.2 ⟨by omega, by omega⟩
/-- Of a list of entries that one of the tables has no more. -/
theorem drops_fit {m : Img} (h : ImR m) (es : List Int) {i : Nat} (hi : i < 24) (hle : cN es i ≤ m.refs.getD i 0) : (imDrops m es).data.getD i 0 = if m.refs.getD i 0 - cN es i = 0 then 0 else m.data.getD i 0 := by
  rw [(drops_get hi es m h.rl h.len).2]
  have hn := cN_nn es i
  by_cases h1 : m.refs.getD i 0 - cN es i = 0
  · rw [if_pos h1]
    by_cases h2 : 1 ≤ m.refs.getD i 0
    · rw [if_pos ⟨h2, by omega⟩]
    · rw [if_neg (fun h => h2 h.1), h.clear i hi (by omega)]
  · rw [if_neg h1, if_neg (by omega)]
theorem fit_resize {m : Img} (h : ImR m) {n : Nat} (hn : n ≤ 12) : imFit { m with table := rzTo m.table n } = imResize m n := by
  have hcs : ∀ i, sN (imTabs { m with table := rzTo m.table n }) i = sN (imTabs m) i - cN (m.table.drop n) i := fun i => by
    have e : sN (imTabs { m with table := rzTo m.table n }) i = cN (rzTo m.table n) i + sN (m.snaps.map (·.table)) i := rfl
    have e2 : cN m.table i = cN (m.table.take n) i + cN (m.table.drop n) i := by rw [← cN_append, List.take_append_drop]
    rw [e, cN_rz, sN_tabs, e2]; omega
  obtain ⟨l1, l2, l3, l4⟩ := drops_lens m (m.table.drop n)
  have hle : ∀ i, i < 24 → cN (m.table.drop n) i ≤ m.refs.getD i 0 := fun i hi => by
    have e2 : cN m.table i = cN (m.table.take n) i + cN (m.table.drop n) i := by rw [← cN_append, List.take_append_drop]
    have := cN_nn (m.table.take n) i
    have := sN_nn (m.snaps.map (·.table)) i
    rw [h.cntA hi, sN_tabs]; omega
  refine fit_eq (tabs_with h (tbB_rz h.table hn) m.data) (l1.trans h.rl) (l2.trans h.len) rfl l4.symm (fun i hi => ?_) (fun i hi => ?_)
  · show (imDrops m _).refs.getD i 0 = _
    rw [(drops_get hi _ m h.rl h.len).1, hcs, h.cntA hi]
  · show (imDrops m _).data.getD i 0 = _
    rw [drops_fit h _ hi (hle i hi), hcs, h.cntA hi]

end Go.Proofs.YtkaiglhljpehpabGreatDoor

/- The store, plainly: what sectors say; an image is read back from its sectors. (Made ahead of stage 11.) -/
namespace Go.Proofs.YtkaiglhljpehpabGreatDoor
open Go.RowKit
set_option linter.unusedVariables false
set_option maxRecDepth 100000

/-- What sectors say of an image: each part, and whether it stands. -/
def srS (sec : Nat → ByteArray) : List Int := openL (sec 9) 1
def srN (sec : Nat → ByteArray) : Nat := ((srS sec).getD 0 0).toNat
def supB (sec : Nat → ByteArray) : Bool := openB (sec 9) 1 && decide (0 < (srS sec).length) && decide ((srS sec).getD 0 0 ≤ 3) && decide (((srS sec).length : Int) = 1 + (srS sec).getD 0 0)
def srR (sec : Nat → ByteArray) : List Int := if cdB (sec 10) = true then cdL (sec 10) else []
def srT (sec : Nat → ByteArray) : List Int := openL (sec 11) 3
def snB1 (sec : Nat → ByteArray) (i : Nat) : Bool := tdB (sec (12 + i)) && decide (nmN (unT ((srS sec).getD (1 + i) 0)) = (srS sec).getD (1 + i) 0)
def snR1 (sec : Nat → ByteArray) (i : Nat) : Snp := ⟨unT ((srS sec).getD (1 + i) 0), openL (sec (12 + i)) 3⟩
def srSn (sec : Nat → ByteArray) (k : Nat) : List Snp := (List.range k).map (snR1 sec)
def daB1 (sec : Nat → ByteArray) (c : Nat) : Bool := decide ((srR sec).getD c 0 = 0) || (openB (sec (15 + c)) 4 && decide ((openL (sec (15 + c)) 4).length = 1))
def daR1 (sec : Nat → ByteArray) (c : Nat) : Int := if (srR sec).getD c 0 = 0 then 0 else (openL (sec (15 + c)) 4).getD 0 0
def srM (sec : Nat → ByteArray) : Img := ⟨srR sec, srT sec, srSn sec (srN sec), (List.range 24).map (daR1 sec)⟩
def srP (sec : Nat → ByteArray) : Bool := supB sec && cdB (sec 10) && tdB (sec 11) && (List.range (srN sec)).all (snB1 sec) && (List.range 24).all (daB1 sec)
def srB (sec : Nat → ByteArray) : Bool := srP sec && imB (srM sec)

theorem open_seal1 {k : Int} {xs : List Int} (hk : 0 ≤ k ∧ k ≤ 255) (ha : allB xs = true) (hl : xs.length ≤ 16) (hk2 : 1 ≤ k ∧ k ≤ 9) : openB (sealS k xs) k = true ∧ openL (sealS k xs) k = xs := by
  have ho : openB (sealS k xs) k = true := openB_yes (rec_seal (by omega) ha (by omega)) (seal_kind (by omega) (by omega))
  exact ⟨ho, by rw [openL_yes ho, body_seal, un_pack ha]⟩
theorem tabU_mem : ∀ (ss : List Snp) (i : Nat) (j : Nat) (hj : j < ss.length), (⟨12 + ((i + j : Nat) : Int), encTb ss[j].table⟩ : Up) ∈ tabU i ss
  | s :: ss, i, 0, _ => by simp [tabU]
  | s :: ss, i, j + 1, hj => by
    have := tabU_mem ss (i + 1) j (by simpa using hj)
    simp only [tabU, List.mem_cons, List.getElem_cons_succ]
    right
    rwa [show i + (j + 1) = i + 1 + j by omega]
theorem allB_snm {m : Img} (h : ImR m) : allB (supL m) = true := by
  have hs := h.few
  unfold allB supL
  rw [List.all_cons, Bool.and_eq_true]
  refine ⟨by simp [numB, inB]; omega, ?_⟩
  rw [List.all_eq_true]
  intro x hx
  obtain ⟨s, hs', rfl⟩ := List.mem_map.1 hx
  have := nmN_in (h.snaps s hs').1
  simp [numB, inB]; omega
/-- An image is read back from its sectors. -/
theorem sr_all {m : Img} (h : ImR m) {sec : Nat → ByteArray} (hs : ∀ u ∈ allU m, sec u.at_.toNat = u.data) : srB sec = true ∧ srM sec = m := by
  have hmem : ∀ u, u ∈ headU m ∨ u ∈ tabU 0 m.snaps ∨ u ∈ dataU m 24 → sec u.at_.toNat = u.data := fun u hu => hs u (by unfold allU; rw [List.mem_append, List.mem_append]; rcases hu with h | h | h <;> simp [h])
  have e9 : sec 9 = sealS 1 (supL m) := hmem ⟨9, sealS 1 (supL m)⟩ (.inl (by simp [headU]))
  have e10 : sec 10 = encT m.refs := hmem ⟨10, encT m.refs⟩ (.inl (by simp [headU]))
  have e11 : sec 11 = encTb m.table := hmem ⟨11, encTb m.table⟩ (.inl (by simp [headU]))
  have hf := h.few
  obtain ⟨o9, l9⟩ := open_seal1 (k := 1) (by omega) (allB_snm h) (by simp [supL]; omega) (by omega)
  have hS : srS sec = supL m := by rw [srS, e9, l9]
  have hN : srN sec = m.snaps.length := by rw [srN, hS]; simp [supL]
  have hsup : supB sec = true := by
    unfold supB
    rw [e9, o9, hS]
    simp [supL]
    omega
  obtain ⟨c1, c2⟩ := enc_cd h.refs
  have hcd : cdB (sec 10) = true := by
    rw [e10]
    cases hb : cdB (encT m.refs) with
    | true => rfl
    | false =>
      unfold cdC at c1
      rw [hb] at c1
      split at c1 <;> simp at c1
  have hR : srR sec = m.refs := by
    rw [srR, if_pos hcd, e10]
    rw [cdR, if_pos c1] at c2
    exact c2
  have tb : ∀ t : List Int, tbB t = true → tdB (encTb t) = true ∧ openL (encTb t) 3 = t := fun t ht => by
    obtain ⟨ho, hl⟩ := open_seal1 (k := 3) (by omega) (tb_all ht) (by have := tbB_len ht; omega) (by omega)
    have hl' : openL (encTb t) 3 = t := hl
    exact ⟨by rw [tdB, hl', ht, Bool.and_true]; exact ho, hl'⟩
  obtain ⟨t1, t2⟩ := tb m.table h.table
  have hT : srT sec = m.table := by rw [srT, e11, t2]
  have hsn : ∀ i (hi : i < m.snaps.length), snB1 sec i = true ∧ snR1 sec i = m.snaps[i] := fun i hi => by
    have e := hmem ⟨12 + ((0 + i : Nat) : Int), encTb m.snaps[i].table⟩ (.inr (.inl (tabU_mem m.snaps 0 i hi)))
    have e' : sec (12 + i) = encTb m.snaps[i].table := by
      have e2 : sec (12 + ((0 + i : Nat) : Int)).toNat = encTb m.snaps[i].table := e
      rwa [show (12 + ((0 + i : Nat) : Int)).toNat = 12 + i by omega] at e2
    obtain ⟨s1, s2⟩ := tb _ (h.snaps _ (List.getElem_mem hi)).2
    have hv : (srS sec).getD (1 + i) 0 = nmN m.snaps[i].name := by
      rw [hS, Nat.add_comm]
      simp [supL, List.getD, hi]
    have hnm := (h.snaps _ (List.getElem_mem hi)).1
    unfold snB1 snR1
    rw [e', s1, s2, hv, un_nm hnm]
    exact ⟨by simp, rfl⟩
  have hSn : srSn sec (srN sec) = m.snaps := by
    rw [hN]
    refine List.ext_getElem (by simp [srSn]) (fun i h1 h2 => ?_)
    simp only [srSn, List.getElem_map, List.getElem_range]
    exact (hsn i h2).2
  have hda : ∀ c, c < 24 → daB1 sec c = true ∧ daR1 sec c = m.data.getD c 0 := fun c hc => by
    unfold daB1 daR1
    rw [hR]
    by_cases hz : m.refs.getD c 0 = 0
    · rw [if_pos hz, decide_eq_true hz, h.clear c hc hz]
      exact ⟨rfl, rfl⟩
    · have hp : 0 < m.refs.getD c 0 := by
        have hcl : c < m.refs.length := by rw [h.rl]; exact hc
        have := ctB_at h.refs c hcl
        rw [show m.refs.getD c 0 = m.refs[c] by simp [List.getD, hcl]] at hz ⊢
        omega
      have e := hmem ⟨15 + (c : Int), sealS 4 [m.data.getD c 0]⟩ (.inr (.inr (by
        unfold dataU
        rw [List.mem_flatMap]
        exact ⟨c, List.mem_range.2 hc, by unfold datU; rw [if_pos hp]; simp⟩)))
      have e' : sec (15 + c) = sealS 4 [m.data.getD c 0] := by
        have e2 : sec (15 + (c : Int)).toNat = sealS 4 [m.data.getD c 0] := e
        rwa [show (15 + (c : Int)).toNat = 15 + c by omega] at e2
      have hnum : numB (m.data.getD c 0) = true := by
        have hcl : c < m.data.length := by rw [h.len]; exact hc
        rw [show m.data.getD c 0 = m.data[c] by simp [List.getD, hcl]]
        exact h.nums _ (List.getElem_mem hcl)
      obtain ⟨ho, hl⟩ := open_seal1 (k := 4) (xs := [m.data.getD c 0]) (by omega) (by unfold allB; rw [List.all_cons, hnum]; rfl) (by simp) (by omega)
      rw [if_neg hz, e', ho, hl]
      exact ⟨by simp, rfl⟩
  have hD : (List.range 24).map (daR1 sec) = m.data := by
    refine getD_ext (by simp) h.len (fun i hi => ?_)
    rw [range_getD hi]
    exact (hda i hi).2
  have hM : srM sec = m := by
    unfold srM
    rw [hR, hT, hSn, hD]
  refine ⟨?_, hM⟩
  unfold srB srP
  rw [hM, imB_iff.2 h, hsup, hcd, e11, t1, hN]
  simp only [Bool.and_true, Bool.true_and, Bool.and_eq_true, List.all_eq_true, List.mem_range]
  exact ⟨fun i hi => (hsn i hi).1, fun c hc => (hda c hc).1⟩

end Go.Proofs.YtkaiglhljpehpabGreatDoor

/- The contract of the model's ReadImage, given l11Read's. (Made ahead of stage 11.) -/
namespace Go.Proofs.YtkaiglhljpehpabGreatDoor
open Go.RowKit
set_option linter.unusedVariables false
set_option maxRecDepth 100000

/-- What a host reads in a sector. -/
def secV (ss : List ByteArray) (xs : List Wr) (h : Int) (k : Nat) : ByteArray := readV ss xs h k
/-- What ReadImage answers. -/
def rdA (ss : List ByteArray) (xs : List Wr) (h : Int) : Img × Int := if hostC ss xs h = 0 then (if srB (secV ss xs h) = true then (srM (secV ss xs h), 0) else (im0, 18)) else (im0, hostC ss xs h)
/-- What l11Read answers. -/
def AnsR (W w' : World) (e : Ending) (sec : Nat → ByteArray) : Prop := ∃ a m ts, e = .returned (.tuple #[imV a m, .bool (srB sec)]) ∧ OwnIm w' W.heap.size a m ts ∧ (srB sec = true → m = srM sec) ∧ Below W.heap.size W w'

set_option maxHeartbeats 1600000 in
theorem readImage_spec (ao bo : Option Addr) (ca cb : Nat) (ss : List ByteArray) (xs : List Wr) (h : Int) (w : World) (hl : ss.length ≤ maxLen) (hm : xs.length ≤ maxLen) (h1 : Ss w ao ss) (h2 : Ios w bo xs)
    (hread : hostC ss xs h = 0 → ∀ W : World, Ss W ao ss → Ios W bo xs → Calls Tryz.prog 16 #[.agg #[.slice ao ss.length ca, .slice bo xs.length cb], .int .i64 h] W fun e w' => AnsR W w' e (secV ss xs h)) :
    Calls Tryz.prog 5 #[.agg #[.slice ao ss.length ca, .slice bo xs.length cb], .int .i64 h] w fun e w' => AnsI w w' e (rdA ss xs h) := by
  have HA := hide (Joins.below_alloc2 w (.cells #[.slice ao ss.length ca, .slice bo xs.length cb] 35) (.cells #[.slice none 0 0, .slice none 0 0, .slice none 0 0, .slice none 0 0] 30))
  have H1 := hide (h1.below (unhide HA))
  have H2 := hide (h2.below (unhide HA))
  have HV := hide ((VarD.new w (.slice ao ss.length ca) (.slice bo xs.length cb)).below (Joins.below_alloc1 _ (.cells #[.slice none 0 0, .slice none 0 0, .slice none 0 0, .slice none 0 0] 30)))
  have HR : Hid (VarM ((w.alloc (.cells #[.slice ao ss.length ca, .slice bo xs.length cb] 35)).alloc (.cells #[.slice none 0 0, .slice none 0 0, .slice none 0 0, .slice none 0 0] 30)) (w.heap.size + 1) 30 (.slice none 0 0) (.slice none 0 0) (.slice none 0 0) (.slice none 0 0)) := hide (by have := VarM.new (w.alloc (.cells #[.slice ao ss.length ca, .slice bo xs.length cb] 35)) 30 (.slice none 0 0) (.slice none 0 0) (.slice none 0 0) (.slice none 0 0); simpa using this)
  have HL := hide hl
  have HM := hide hm
  have HQ := hide (ask_zero ss xs h)
  have HRD := hide hread
  clear h1 h2 hl hm hread
  go_enter Tryz.func5, Tryz.ntmps5
  go_upto_region 1 with fail
  revert HR
  revert HV
  revert H2
  revert H1
  revert HA
  generalize ((w.alloc _).alloc _) = W0
  intro HA H1 H2 HV HR
  obtain ⟨hv0, hv1⟩ := (unhide HV).cells
  go_wp2_with fail
  refine (l01Ask_any _ _ _ _ ss xs h 0 _ (unhide HL) (unhide HM) (unhide H1) (unhide H2)).mono ?_
  rintro e w1 ⟨rfl, hb1⟩
  rw [unhide HQ]
  have HR1 := hide ((unhide HR).below hb1)
  have HV1 := hide ((unhide HV).below hb1)
  have HB1 := hide (fr (unhide HA) hb1)
  have HS1 := hide ((unhide H1).below hb1)
  have HX1 := hide ((unhide H2).below hb1)
  clear hb1 hv0 hv1 H1 H2 HV HR HA
  have HZ : ∀ W : World, VarM W (w.heap.size + 1) 30 (.slice none 0 0) (.slice none 0 0) (.slice none 0 0) (.slice none 0 0) → Below w.heap.size w W → Hid (VarM ((((W.setCell ⟨w.heap.size + 1, 0, none⟩ (.slice none 0 0)).setCell ⟨w.heap.size + 1, 1, none⟩ (.slice none 0 0)).setCell ⟨w.heap.size + 1, 2, none⟩ (.slice none 0 0)).setCell ⟨w.heap.size + 1, 3, none⟩ (.slice none 0 0)) (w.heap.size + 1) 30 (.slice none 0 0) (.slice none 0 0) (.slice none 0 0) (.slice none 0 0) ∧ Below w.heap.size w ((((W.setCell ⟨w.heap.size + 1, 0, none⟩ (.slice none 0 0)).setCell ⟨w.heap.size + 1, 1, none⟩ (.slice none 0 0)).setCell ⟨w.heap.size + 1, 2, none⟩ (.slice none 0 0)).setCell ⟨w.heap.size + 1, 3, none⟩ (.slice none 0 0))) := fun W hV hB =>
    hide ⟨(((hV.set0 _).set1 _).set2 _).set3 _, (((hB.setCell (p := ⟨w.heap.size + 1, 0, none⟩) (Nat.le_succ _) _).setCell (p := ⟨w.heap.size + 1, 1, none⟩) (Nat.le_succ _) _).setCell (p := ⟨w.heap.size + 1, 2, none⟩) (Nat.le_succ _) _).setCell (p := ⟨w.heap.size + 1, 3, none⟩) (Nat.le_succ _) _⟩
  have HZH := hide HZ
  clear HZ
  by_cases hc : hostC ss xs h = 0
  · have HC := hide hc
    rw [hc]
    obtain ⟨d0, d1⟩ := (unhide HV1).cells
    go_wp2_with fail
    refine (unhide HRD (unhide HC) _ (unhide HS1) (unhide HX1)).mono ?_
    rintro e w2 ⟨a, m, ts, rfl, ho, hm, hb2⟩
    have HO2 := hide ho
    have HMM := hide hm
    have HB2 := hide (fr (unhide HB1) hb2)
    have HR2 := hide ((unhide HR1).below hb2)
    have HLT := hide (unhide HR1).lt
    clear ho hm hb2 d0 d1 HV1 HS1 HX1
    have HAL := hide (Joins.below_alloc1 w2 (.cells #[.slice a.ro m.refs.length a.rc, .slice a.tq m.table.length a.tc, .slice a.so m.snaps.length a.sc, .slice a.dq m.data.length a.dc] 30))
    have HN3 := hide (VarM.new w2 30 (.slice a.ro m.refs.length a.rc) (.slice a.tq m.table.length a.tc) (.slice a.so m.snaps.length a.sc) (.slice a.dq m.data.length a.dc))
    have HO3 := hide ((unhide HO2).below (unhide HAL))
    have HB3 := hide (fr (unhide HB2) (unhide HAL))
    have HR3 := hide ((unhide HR2).below (unhide HAL))
    go_upto_region 5 with fail
    revert HR3
    revert HB3
    revert HO3
    revert HN3
    clear HAL HO2 HB2 HR2
    generalize (w2.alloc _) = W3
    generalize w2.heap.size = p3
    intro HN3 HO3 HB3 HR3
    obtain ⟨c0, c1, c2, c3⟩ := (unhide HR3).cells
    obtain ⟨f0, f1, f2, f3⟩ := (unhide HR3).free
    obtain ⟨n0, n1, n2, n3⟩ := (unhide HN3).cells
    cases hs : srB (secV ss xs h)
    · have HE := unhide HZH W3 (unhide HR3) (unhide HB3)
      have HF : Hid (rdA ss xs h = (im0, 18)) := hide (by rw [rdA, if_pos (unhide HC), hs]; rfl)
      go_wp2
      refine bodyPost_ret (res_ic Tryz.results5 rfl rfl (unhide HE).1) rfl ?_
      rw [unhide HF]
      exact AnsI.bad 18 (unhide HE).2
    · have HF : Hid (rdA ss xs h = (m, 0)) := hide (by rw [rdA, if_pos (unhide HC), if_pos hs, unhide HMM hs])
      have HS := hide (ImSt.put (unhide HR3) (unhide HO3) (unhide HB3) (Nat.le_succ _) (unhide HLT) a m)
      go_wp2
      refine bodyPost_ret (res_ic Tryz.results5 rfl rfl (unhide HS).1) rfl ?_
      rw [unhide HF]
      exact AnsI.of rfl rfl ((unhide HS).2.1.base (by have := (unhide HB1).size; omega)) (unhide HS).2.2
  · have hb : (hostC ss xs h != 0) = true := by simp [hc]
    have HF : Hid (rdA ss xs h = (im0, hostC ss xs h)) := hide (by rw [rdA, if_neg hc])
    have HE := unhide HZH w1 (unhide HR1) (unhide HB1)
    obtain ⟨c0, c1, c2, c3⟩ := (unhide HR1).cells
    obtain ⟨f0, f1, f2, f3⟩ := (unhide HR1).free
    go_wp2
    refine bodyPost_ret (res_ic Tryz.results5 rfl rfl (unhide HE).1) rfl ?_
    rw [unhide HF]
    exact AnsI.bad _ (unhide HE).2

end Go.Proofs.YtkaiglhljpehpabGreatDoor

/- Contracts of the program's code of a place. -/
namespace Go.Proofs.YtkaiglhljpehpabGreatDoor
open Go.RowKit
set_option linter.unusedVariables false
set_option maxRecDepth 100000

end Go.Proofs.YtkaiglhljpehpabGreatDoor

/- Contracts of impl.seenBy, impl.ReadSector. -/
namespace Go.Proofs.YtkaiglhljpehpabGreatDoor
open Go.RowKit
set_option linter.unusedVariables false
set_option maxRecDepth 100000

theorem ret_rs {a b : ByteArray} (h : a = b) : Ending.returned (.string a) = .returned (.string b) := by rw [h]
theorem ret_rd {a b : ByteArray} {c d : Int} (h : a = b) (k : c = d) : Ending.returned (.tuple #[.string a, .int .i64 c]) = .returned (.tuple #[.string b, .int .i64 d]) := by rw [h, k]
theorem no_succ {xs : List Wr} {h a : Int} {k : Nat} (hk : k < xs.length) (hn : ∀ j (hj : j < xs.length), (k : Int) < j → ¬ mat xs[j] h a) (hx : ¬ mat xs[k] h a) : ∀ j (hj : j < xs.length), (k : Int) - 1 < j → ¬ mat xs[j] h a := by
  intro j hj hlt
  by_cases e : j = k
  · subst e; exact hx
  · exact hn j hj (by omega)

set_option maxHeartbeats 1600000 in
theorem seenBy_any (ao bo : Option Addr) (ca cb : Nat) (ss : List ByteArray) (xs : List Wr) (h : Int) (n : Nat) (w : World) (hlx : xs.length ≤ 200) (hn : n < ss.length) (hq : ss.length ≤ 1048576) (h1 : Ss w ao ss) (h2 : Ios w bo xs) :
    Calls Tryz.prog 21 #[.agg #[.slice ao ss.length ca, .slice bo xs.length cb], .int .i64 h, .int .i64 n] w fun e w' => e = .returned (.string (readV ss xs h n)) ∧ Below w.heap.size w w' := by
  have HA := hide (Joins.below_alloc1 w (.cells #[.slice ao ss.length ca, .slice bo xs.length cb] 35))
  have H1' := hide (h1.below (unhide HA))
  have H2' := hide (h2.below (unhide HA))
  have hc0 : (w.alloc (.cells #[.slice ao ss.length ca, .slice bo xs.length cb] 35)).cell? ⟨w.heap.size, 0, none⟩ = some (.slice ao ss.length ca) := by simp [go_sem]
  have hc1 : (w.alloc (.cells #[.slice ao ss.length ca, .slice bo xs.length cb] 35)).cell? ⟨w.heap.size, 1, none⟩ = some (.slice bo xs.length cb) := by simp [go_sem]
  have HC0 := hide hc0
  have HC1 := hide hc1
  have hlt : w.heap.size < (w.alloc (.cells #[.slice ao ss.length ca, .slice bo xs.length cb] 35)).heap.size := by simp
  clear h1 h2 hc0 hc1
  go_enter Tryz.func21, Tryz.ntmps21
  go_wp2
  revert HA H1' H2' HC0 HC1 hlt
  generalize w.alloc (.cells #[.slice ao ss.length ca, .slice bo xs.length cb] 35) = w1
  intro HA H1' H2' HC0 HC1 hlt
  go_loopw [7, 8] (fun i _ wr => ∃ m : Int, i = .int .i64 m ∧ -1 ≤ m ∧ m < xs.length ∧ Hid (∀ j (hj : j < xs.length), m < j → ¬ mat xs[j] h n) ∧ Hid (Below w1.heap.size w1 wr)) (fun i _ _ => (intOf i + 1).toNat)
  case atStart => exact ⟨_, rfl, by omega, by omega, hide (fun j hj hlt => by omega), hide (Below.refl _ _)⟩
  case round =>
    obtain ⟨m, rfl, hm0, hm1, HN, HB⟩ := hrel
    have hc0 : wr.cell? ⟨w.heap.size, 0, none⟩ = some (.slice ao ss.length ca) := ((unhide HB).cell (World.block_lt_of_cell? _ _ (unhide HC0))).trans (unhide HC0)
    have hc1 : wr.cell? ⟨w.heap.size, 1, none⟩ = some (.slice bo xs.length cb) := ((unhide HB).cell (World.block_lt_of_cell? _ _ (unhide HC1))).trans (unhide HC1)
    by_cases hge : 0 ≤ m
    · obtain ⟨k, rfl⟩ := Int.eq_ofNat_of_zero_le hge
      have hk : k < xs.length := by omega
      obtain ⟨b, off, rfl, hd0, hd1, hd2, hz⟩ := (unhide H2').below (unhide HB) k hk
      clear hz
      have HBA := hide (fun o => (unhide HB).alloc (unhide HB).size o)
      by_cases e0 : xs[k].host = h
      · have b0 : (xs[k].host == h) = true := by simp [e0]
        by_cases e1 : xs[k].at_ = n
        · have b1 : (xs[k].at_ == (n : Int)) = true := by simp [e1]
          have H := hide (readV_hit (ss := ss) hk ⟨e0, e1⟩ (fun j hj hlt => unhide HN j hj (by omega)))
          clear e0 e1
          go_wp2
          go_ret
          exact ⟨ret_rs (unhide H).symm, fr (unhide HA) (unhide HBA _)⟩
        · have b1 : (xs[k].at_ == (n : Int)) = false := by simp [e1]
          have HX := hide (no_succ hk (unhide HN) (fun hx => e1 hx.2))
          clear e0 e1
          go_wp2
          go_roundw
          case rel => exact ⟨_, rfl, by omega, by omega, HX, hide (unhide HBA _)⟩
          case measure => simp [intOf]
      · have b0 : (xs[k].host == h) = false := by simp [e0]
        have HX := hide (no_succ hk (unhide HN) (fun hx => e0 hx.1))
        clear e0
        go_wp2
        go_roundw
        case rel => exact ⟨_, rfl, by omega, by omega, HX, hide (unhide HBA _)⟩
        case measure => simp [intOf]
    · obtain ⟨b, off, rfl, hc, hz⟩ := (unhide H1').below (unhide HB) n hn
      clear hz
      have hg : ss.getD ((n : Int).toNat) ⟨#[]⟩ = ss[n] := by simp [List.getD, hn]
      have H := hide ((readV_none (ss := ss) (fun j hj => unhide HN j hj (by omega))).trans hg)
      clear hg
      go_wp2
      go_ret
      exact ⟨ret_rs (unhide H).symm, fr (unhide HA) (unhide HB)⟩

end Go.Proofs.YtkaiglhljpehpabGreatDoor
