import Derived.Test.YtbmkdbccdnbbjaaGreatDoorPart1
import Derived.Test.YtbmkdbccdnbbjaaGreatDoorPart2
import Derived.Test.YtbmkdbccdnbbjaaGreatDoorPart3
import Derived.Test.YtbmkdbccdnbbjaaGreatDoorPart7
import Derived.Test.YtbmkdbccdnbbjaaGreatDoorPart4
import Derived.Test.YtbmkdbccdnbbjaaGreatDoorPart5

namespace Go.Proofs.YtbmkdbccdnbbjaaGreatDoor
open Go.RowKit
set_option linter.unusedVariables false
set_option maxRecDepth 100000

def cN (t : List Int) (i : Nat) : Int := (t.count ((i : Int) + 2) : Int)
theorem cN_nn (t : List Int) (i : Nat) : 0 ≤ cN t i := by unfold cN; omega
theorem clA_count (t : List Int) (i : Nat) : ((clA t).count (i : Int) : Int) = cN t i := by
  unfold clA clTo cN
  rw [List.take_length]
  induction t with
  | nil => rfl
  | cons e t ih =>
    rw [List.filterMap_cons, List.count_cons]
    by_cases h : 2 ≤ e
    · rw [if_pos h]
      simp only [List.count_cons]
      by_cases h2 : e = (i : Int) + 2
      · have h3 : e - 2 = (i : Int) := by omega
        simp [h2]; omega
      · have h3 : ¬ (e - 2 = (i : Int)) := by omega
        simp [h2, h3]; omega
    · rw [if_neg h]
      have h2 : ¬ (e = (i : Int) + 2) := by omega
      simp [h2]; omega
def sN (ts : List (List Int)) (i : Nat) : Int := (ts.map fun t => cN t i).sum
theorem sN_nn (ts : List (List Int)) (i : Nat) : 0 ≤ sN ts i := by
  unfold sN
  induction ts with
  | nil => exact Int.le_refl _
  | cons t ts ih => rw [List.map_cons, List.sum_cons]; have := cN_nn t i; omega
theorem fold_cnt (i : Nat) (hi : i < 24) : ∀ (ts : List (List Int)), (∀ t ∈ ts, tbB t = true) → ∀ ns : List Int, ns.length = 24 → (ts.foldl cnt1T ns).getD i 0 = ns.getD i 0 + sN ts i := by
  intro ts
  induction ts with
  | nil => intro _ ns _; simp [sN]
  | cons t ts ih =>
    intro ht ns hl
    rw [List.foldl_cons, ih (fun x hx => ht x (by simp [hx])) _ (by rw [cnt1T_len]; exact hl), cnt1T_get (ht t (by simp)) hl hi, clA_count]
    simp only [sN, List.map_cons, List.sum_cons]
    omega
theorem cnt_get {m : Img} (ht : ∀ t ∈ imTabs m, tbB t = true) {i : Nat} (hi : i < 24) : (imCnt m).getD i 0 = sN (imTabs m) i := by
  unfold imCnt
  rw [fold_cnt i hi _ ht _ rfl, zero24_get hi]; omega
theorem ImR.tabs {m : Img} (h : ImR m) : ∀ t ∈ imTabs m, tbB t = true := fun t ht => by
  unfold imTabs at ht
  rw [List.mem_cons, List.mem_map] at ht
  rcases ht with rfl | ⟨s, hs, rfl⟩
  · exact h.table
  · exact (h.snaps s hs).2
theorem ImR.cntA {m : Img} (h : ImR m) {i : Nat} (hi : i < 24) : m.refs.getD i 0 = sN (imTabs m) i := by rw [← h.cnt]; exact cnt_get h.tabs hi
theorem ImR.rl {m : Img} (h : ImR m) : m.refs.length = 24 := ctB_len h.refs
theorem sN_cons (t : List Int) (ts : List (List Int)) (i : Nat) : sN (t :: ts) i = cN t i + sN ts i := rfl
theorem sN_tabs (m : Img) (i : Nat) : sN (imTabs m) i = cN m.table i + sN (m.snaps.map (·.table)) i := rfl
theorem img_eq {m n : Img} (h1 : m.refs = n.refs) (h2 : m.table = n.table) (h3 : m.snaps = n.snaps) (h4 : m.data = n.data) : m = n := by
  cases m; cases n; simp only at h1 h2 h3 h4; subst h1 h2 h3 h4; rfl
theorem fit_eq {m1 n : Img} (ht : ∀ t ∈ imTabs m1, tbB t = true) (hr : n.refs.length = 24) (hd : n.data.length = 24) (h2 : m1.table = n.table) (h3 : m1.snaps = n.snaps) (hR : ∀ i, i < 24 → n.refs.getD i 0 = sN (imTabs m1) i) (hD : ∀ i, i < 24 → n.data.getD i 0 = if sN (imTabs m1) i = 0 then 0 else m1.data.getD i 0) : imFit m1 = n := by
  refine img_eq ?_ h2 h3 ?_
  · exact getD_ext (imCnt_len m1) hr (fun i hi => by rw [hR i hi]; exact cnt_get ht hi)
  · refine getD_ext (by simp [imFit]) hd (fun i hi => ?_)
    rw [hD i hi]
    unfold imFit
    simp only
    rw [range_getD hi, cnt_get ht hi]
theorem drop_get {m : Img} (hr : m.refs.length = 24) (hd : m.data.length = 24) (e : Int) {i : Nat} (hi : i < 24) : (imDrop m e).refs.getD i 0 = m.refs.getD i 0 - (if e = (i : Int) + 2 then 1 else 0) ∧ (imDrop m e).data.getD i 0 = if e = (i : Int) + 2 ∧ m.refs.getD i 0 = 1 then 0 else m.data.getD i 0 := by
  by_cases h : e < 2
  · have e1 : imDrop m e = m := if_pos h
    rw [e1, if_neg (by omega), if_neg (by omega)]
    exact ⟨by omega, rfl⟩
  · unfold imDrop
    rw [if_neg h]
    simp only
    by_cases h2 : e = (i : Int) + 2
    · have h3 : (e - 2).toNat = i := by omega
      rw [h3]
      constructor
      · simp [List.getD, hr, hi, h2]
      · by_cases h4 : m.refs.getD i 0 = 1
        · rw [if_pos (by omega), if_pos ⟨h2, h4⟩]
          simp [List.getD, hd, hi]
        · rw [if_neg (by omega), if_neg (fun h => h4 h.2)]
    · have h3 : (e - 2).toNat ≠ i := by omega
      constructor
      · simp [List.getD, h3, h2]
      · have hR : (if e = (i : Int) + 2 ∧ m.refs.getD i 0 = 1 then 0 else m.data.getD i 0) = m.data.getD i 0 := if_neg (fun h => h2 h.1)
        rw [hR]
        split
        · simp [List.getD, h3]
        · rfl
theorem drops_lens (m : Img) : ∀ es : List Int, (imDrops m es).refs.length = m.refs.length ∧ (imDrops m es).data.length = m.data.length ∧ (imDrops m es).table = m.table ∧ (imDrops m es).snaps = m.snaps := by
  intro es
  unfold imDrops
  induction es generalizing m with
  | nil => exact ⟨rfl, rfl, rfl, rfl⟩
  | cons e es ih =>
    obtain ⟨h1, h2, h3, h4⟩ := ih (imDrop m e)
    rw [List.foldl_cons]
    exact ⟨h1.trans (imDrop_refs m e), h2.trans (imDrop_data m e), h3.trans (imDrop_table m e).1, h4.trans (imDrop_table m e).2⟩
theorem drops_get {i : Nat} (hi : i < 24) : ∀ (es : List Int) (m : Img), m.refs.length = 24 → m.data.length = 24 → (imDrops m es).refs.getD i 0 = m.refs.getD i 0 - cN es i ∧ (imDrops m es).data.getD i 0 = if 1 ≤ m.refs.getD i 0 ∧ m.refs.getD i 0 ≤ cN es i then 0 else m.data.getD i 0 := by
  intro es
  induction es with
  | nil =>
    intro m _ _
    refine ⟨by simp [imDrops, cN], ?_⟩
    rw [if_neg (by simp only [cN, List.count_nil]; omega)]; rfl
  | cons e es ih =>
    intro m hr hd
    obtain ⟨h1, h2⟩ := drop_get hr hd e hi
    obtain ⟨h3, h4⟩ := ih (imDrop m e) (by rw [imDrop_refs]; exact hr) (by rw [imDrop_data]; exact hd)
    have hf : imDrops m (e :: es) = imDrops (imDrop m e) es := rfl
    have hc : cN (e :: es) i = cN es i + (if e = (i : Int) + 2 then 1 else 0) := by
      unfold cN
      rw [List.count_cons]
      by_cases h : e = (i : Int) + 2
      · simp [h]
      · simp [h]
    have hn := cN_nn es i
    rw [hf, h3, h4, h1, h2, hc]
    by_cases h : e = (i : Int) + 2
    · simp only [h, if_true, true_and]
      refine ⟨by omega, ?_⟩
      by_cases hx : 1 ≤ m.refs.getD i 0 ∧ m.refs.getD i 0 ≤ cN es i + 1
      · rw [if_pos hx]
        split
        · rfl
        · rw [if_pos (by omega)]
      · rw [if_neg hx, if_neg (by omega), if_neg (by omega)]
    · simp only [h, if_false, false_and]
      exact ⟨by omega, by simp⟩
theorem cN_set {t : List Int} {g : Nat} (hg : g < t.length) (e : Int) (i : Nat) : cN (t.set g e) i = cN t i - (if t[g] = (i : Int) + 2 then 1 else 0) + (if e = (i : Int) + 2 then 1 else 0) := by
  unfold cN
  rw [List.count_set hg]
  have hp : t[g] = (i : Int) + 2 → 0 < t.count ((i : Int) + 2) := fun h => List.count_pos_iff.2 (h ▸ List.getElem_mem hg)
  by_cases h : t[g] = (i : Int) + 2
  · have := hp h
    by_cases h2 : e = (i : Int) + 2
    · simp [h, h2]; omega
    · simp [h, h2]; omega
  · by_cases h2 : e = (i : Int) + 2
    · simp [h, h2]
    · simp [h, h2]
theorem cN_pos {t : List Int} {g i : Nat} (hg : g < t.length) (h : t[g] = (i : Int) + 2) : 1 ≤ cN t i := by
  unfold cN
  have : 0 < t.count ((i : Int) + 2) := List.count_pos_iff.2 (h ▸ List.getElem_mem hg)
  omega
theorem tbB_set {t : List Int} (h : tbB t = true) (g : Nat) {e : Int} (h0 : 0 ≤ e) (h1 : e ≤ 25) : tbB (t.set g e) = true := by
  refine tbB_of (by rw [List.length_set]; exact tbB_len h) (fun i hi => ?_)
  rw [List.getElem_set]
  split
  · exact betw_iff.2 ⟨h0, h1⟩
  · exact betw_iff.2 (tbB_at h i (by simpa using hi))
theorem tabs_with {m : Img} (h : ImR m) {t : List Int} (ht : tbB t = true) (d : List Int) : ∀ x ∈ imTabs { m with table := t, data := d }, tbB x = true := fun x hx => by
  have hx' : x ∈ t :: m.snaps.map (·.table) := hx
  rw [List.mem_cons] at hx'
  rcases hx' with rfl | hx'
  · exact ht
  · exact h.tabs x (by unfold imTabs; exact List.mem_cons_of_mem _ hx')
theorem fit_zero {m : Img} (h : ImR m) {g : Nat} (hg : g < m.table.length) : imFit { m with table := m.table.set g 1 } = imZero m g := by
  have ht := tbB_set h.table g (e := 1) (by omega) (by omega)
  have hgd : m.table.getD g 0 = m.table[g] := by simp [List.getD, hg]
  have hcs : ∀ i, sN (imTabs { m with table := m.table.set g 1 }) i = sN (imTabs m) i - (if m.table[g] = (i : Int) + 2 then 1 else 0) := fun i => by
    have e : sN (imTabs { m with table := m.table.set g 1 }) i = cN (m.table.set g 1) i + sN (m.snaps.map (·.table)) i := rfl
    rw [e, cN_set hg, sN_tabs, if_neg (show ¬ (1 : Int) = (i : Int) + 2 by omega)]
    omega
  refine fit_eq (tabs_with h ht m.data) ?_ ?_ ?_ ?_ (fun i hi => ?_) (fun i hi => ?_)
  · show (imDrop m _).refs.length = 24; rw [imDrop_refs]; exact h.rl
  · show (imDrop m _).data.length = 24; rw [imDrop_data]; exact h.len
  · show m.table.set g 1 = (imDrop m _).table.set g 1; rw [(imDrop_table m _).1]
  · show m.snaps = (imDrop m _).snaps; rw [(imDrop_table m _).2]
  · show (imDrop m _).refs.getD i 0 = _
    rw [(drop_get h.rl h.len _ hi).1, hcs, h.cntA hi, hgd]
  · show (imDrop m _).data.getD i 0 = _
    rw [(drop_get h.rl h.len _ hi).2, hcs, ← h.cntA hi, hgd]
    by_cases h1 : m.table[g] = (i : Int) + 2
    · simp only [h1, true_and, if_true]
      by_cases h2 : m.refs.getD i 0 = 1
      · rw [if_pos h2, if_pos (by omega)]
      · rw [if_neg h2, if_neg (by omega)]
    · simp only [h1, false_and, if_false]
      by_cases h2 : m.refs.getD i 0 = 0
      · rw [if_pos (by omega), h.clear i hi h2]
      · rw [if_neg (by omega)]

theorem fit_in {m : Img} (h : ImR m) {g c : Nat} (v : Int) (hg : g < m.table.length) (hc : m.table[g] = (c : Int) + 2) (h1 : m.refs.getD c 0 = 1) : imFit { m with table := m.table.set g (2 + (c : Int)), data := m.data.set c v } = { m with data := m.data.set c v } := by
  have hset : m.table.set g (2 + (c : Int)) = m.table := by
    rw [show (2 : Int) + (c : Int) = m.table[g] by omega]
    exact List.set_getElem_self hg
  have hb := tbB_at h.table g hg
  rw [hset]
  refine fit_eq (n := { m with data := m.data.set c v }) (tabs_with h h.table _) h.rl (by simp [h.len]) rfl rfl (fun i hi => h.cntA hi) (fun i hi => ?_)
  have e : sN (imTabs { m with data := m.data.set c v }) i = sN (imTabs m) i := rfl
  rw [e, ← h.cntA hi]
  by_cases hz : m.refs.getD i 0 = 0
  · rw [if_pos hz]
    have hne : c ≠ i := fun e => by rw [e, hz] at h1; cases h1
    have e2 : (m.data.set c v).getD i 0 = m.data.getD i 0 := by simp [List.getD, hne]
    exact e2.trans (h.clear i hi hz)
  · rw [if_neg hz]
theorem free_spec {xs : List Int} (h : frN xs < xs.length) : xs.getD (frN xs) 0 = 0 := by
  unfold frN at h ⊢
  have := List.findIdx_getElem (w := h)
  simpa [List.getD, h] using this
theorem fit_out {m : Img} (h : ImR m) {g c : Nat} (v : Int) (hg : g < m.table.length) (hc : c < 24) (h0 : m.refs.getD c 0 = 0) : imFit { m with table := m.table.set g (2 + (c : Int)), data := m.data.set c v } = { imDrop m m.table[g] with refs := (imDrop m m.table[g]).refs.set c 1, data := (imDrop m m.table[g]).data.set c v, table := (imDrop m m.table[g]).table.set g (2 + (c : Int)) } := by
  have ht := tbB_set h.table g (e := 2 + (c : Int)) (by omega) (by omega)
  have hcs : ∀ i, sN (imTabs { m with table := m.table.set g (2 + (c : Int)), data := m.data.set c v }) i = sN (imTabs m) i - (if m.table[g] = (i : Int) + 2 then 1 else 0) + (if c = i then 1 else 0) := fun i => by
    have e : sN (imTabs { m with table := m.table.set g (2 + (c : Int)), data := m.data.set c v }) i = cN (m.table.set g (2 + (c : Int))) i + sN (m.snaps.map (·.table)) i := rfl
    rw [e, cN_set hg, sN_tabs]
    by_cases hci : c = i
    · rw [if_pos hci, if_pos (show (2 : Int) + (c : Int) = (i : Int) + 2 by omega)]; omega
    · rw [if_neg hci, if_neg (show ¬ (2 : Int) + (c : Int) = (i : Int) + 2 by omega)]; omega
  have hne : ¬ m.table[g] = (c : Int) + 2 := fun e => by
    have h1 := cN_pos hg e
    have h2 := h.cntA hc
    have h3 := sN_nn (m.snaps.map (·.table)) c
    rw [sN_tabs] at h2
    omega
  refine fit_eq (tabs_with h ht _) ?_ ?_ ?_ ?_ (fun i hi => ?_) (fun i hi => ?_)
  · show ((imDrop m _).refs.set c 1).length = 24; rw [List.length_set, imDrop_refs]; exact h.rl
  · show ((imDrop m _).data.set c v).length = 24; rw [List.length_set, imDrop_data]; exact h.len
  · show m.table.set g _ = (imDrop m _).table.set g _; rw [(imDrop_table m _).1]
  · show m.snaps = (imDrop m _).snaps; rw [(imDrop_table m _).2]
  · show ((imDrop m m.table[g]).refs.set c 1).getD i 0 = _
    rw [hcs]
    by_cases hci : c = i
    · subst hci
      rw [if_pos rfl, if_neg hne, ← h.cntA hc, h0]
      simp [List.getD, imDrop_refs, h.rl, hc]
    · have e : ((imDrop m m.table[g]).refs.set c 1).getD i 0 = (imDrop m m.table[g]).refs.getD i 0 := by simp [List.getD, hci]
      rw [e, (drop_get h.rl h.len _ hi).1, h.cntA hi, if_neg hci]; omega
  · show ((imDrop m m.table[g]).data.set c v).getD i 0 = if _ then 0 else (m.data.set c v).getD i 0
    rw [hcs]
    by_cases hci : c = i
    · subst hci
      rw [if_neg (show ¬ (sN (imTabs m) c - (if m.table[g] = (c : Int) + 2 then 1 else 0) + (if c = c then 1 else 0) = 0) by rw [if_pos rfl, if_neg hne, ← h.cntA hc, h0]; omega)]
      simp [List.getD, imDrop_data, h.len, hc]
    · have e : ((imDrop m m.table[g]).data.set c v).getD i 0 = (imDrop m m.table[g]).data.getD i 0 := by simp [List.getD, hci]
      have e2 : (m.data.set c v).getD i 0 = m.data.getD i 0 := by simp [List.getD, hci]
      rw [e, e2, (drop_get h.rl h.len _ hi).2, ← h.cntA hi, if_neg hci]
      by_cases h1 : m.table[g] = (i : Int) + 2
      · simp only [h1, true_and, if_true]
        by_cases h2 : m.refs.getD i 0 = 1
        · rw [if_pos h2, if_pos (by omega)]
        · rw [if_neg h2, if_neg (by omega)]
      · simp only [h1, false_and, if_false]
        by_cases h2 : m.refs.getD i 0 = 0
        · rw [if_pos (by omega), h.clear i hi h2]
        · rw [if_neg (by omega)]
theorem cN_append (s t : List Int) (i : Nat) : cN (s ++ t) i = cN s i + cN t i := by unfold cN; rw [List.count_append]; omega
theorem cN_rz (t : List Int) (i : Nat) : ∀ n, cN (rzTo t n) i = cN (t.take n) i := by
  intro n
  induction n with
  | zero => simp [rzTo]
  | succ n ih =>
    rw [rzTo_succ, cN_append, ih]
    by_cases hn : n < t.length
    · rw [List.take_succ_eq_append_getElem hn, cN_append]
      have : t.getD n 0 = t[n] := by simp [List.getD, hn]
      rw [this]
    · have h1 : t.getD n 0 = 0 := by simp [List.getD, hn]
      have h2 : t.take (n + 1) = t.take n := by rw [List.take_of_length_le (by omega), List.take_of_length_le (by omega)]
      rw [h1, h2]
      have : cN [0] i = 0 := by
        unfold cN
        rw [List.count_cons]
        simp; omega
      omega
theorem tbB_rz {t : List Int} (h : tbB t = true) {n : Nat} (hn : n ≤ 12) : tbB (rzTo t n) = true := by
  refine tbB_of (by rw [rzTo_len]; exact hn) (fun i hi => ?_)
  rw [rzTo_len] at hi
  have e : (rzTo t n)[i]'(by rw [rzTo_len]; exact hi) = t.getD i 0 := by simp [rzTo]
  rw [e]
  by_cases hit : i < t.length
  · have := tbB_at h i hit
    rw [show t.getD i 0 = t[i] by simp [List.getD, hit]]
    exact betw_iff.2 this
  · rw [show t.getD i 0 = 0 by simp [List.getD, hit]]
    exact betw_iff.2 ⟨by omega, by omega⟩
theorem drops_fit {m : Img} (h : ImR m) (es : List Int) {i : Nat} (hi : i < 24) (hle : cN es i ≤ m.refs.getD i 0) : (imDrops m es).data.getD i 0 = if m.refs.getD i 0 - cN es i = 0 then 0 else m.data.getD i 0 := by
  rw [(drops_get hi es m h.rl h.len).2]
  have hn := cN_nn es i
  by_cases h1 : m.refs.getD i 0 - cN es i = 0
  · rw [if_pos h1]
    by_cases h2 : 1 ≤ m.refs.getD i 0
    · rw [if_pos ⟨h2, by omega⟩]
    · rw [if_neg (fun h => h2 h.1), h.clear i hi (by omega)]
  · rw [if_neg h1, if_neg (by omega)]
theorem fit_resize {m : Img} (h : ImR m) {n : Nat} (hn : n ≤ 12) : imFit { m with table := rzTo m.table n } = imResize m n := by
  have hcs : ∀ i, sN (imTabs { m with table := rzTo m.table n }) i = sN (imTabs m) i - cN (m.table.drop n) i := fun i => by
    have e : sN (imTabs { m with table := rzTo m.table n }) i = cN (rzTo m.table n) i + sN (m.snaps.map (·.table)) i := rfl
    have e2 : cN m.table i = cN (m.table.take n) i + cN (m.table.drop n) i := by rw [← cN_append, List.take_append_drop]
    rw [e, cN_rz, sN_tabs, e2]; omega
  obtain ⟨l1, l2, l3, l4⟩ := drops_lens m (m.table.drop n)
  have hle : ∀ i, i < 24 → cN (m.table.drop n) i ≤ m.refs.getD i 0 := fun i hi => by
    have e2 : cN m.table i = cN (m.table.take n) i + cN (m.table.drop n) i := by rw [← cN_append, List.take_append_drop]
    have := cN_nn (m.table.take n) i
    have := sN_nn (m.snaps.map (·.table)) i
    rw [h.cntA hi, sN_tabs]; omega
  refine fit_eq (tabs_with h (tbB_rz h.table hn) m.data) (l1.trans h.rl) (l2.trans h.len) rfl l4.symm (fun i hi => ?_) (fun i hi => ?_)
  · show (imDrops m _).refs.getD i 0 = _
    rw [(drops_get hi _ m h.rl h.len).1, hcs, h.cntA hi]
  · show (imDrops m _).data.getD i 0 = _
    rw [drops_fit h _ hi (hle i hi), hcs, h.cntA hi]

end Go.Proofs.YtbmkdbccdnbbjaaGreatDoor

namespace Go.Proofs.YtbmkdbccdnbbjaaGreatDoor
open Go.RowKit
set_option linter.unusedVariables false
set_option maxRecDepth 100000

theorem once_cN {t : List Int} (h : tbB t = true) : (clA t).Nodup ↔ ∀ i, i < 24 → cN t i ≤ 1 := by
  constructor
  · intro hn i hi
    rw [← clA_count]
    by_cases hm : (i : Int) ∈ clA t
    · have := (nodup_count _).1 hn _ hm; omega
    · rw [List.count_eq_zero_of_not_mem hm]; omega
  · intro hc
    refine (nodup_count _).2 fun x hx => ?_
    obtain ⟨c0, c1⟩ := cl_mem h x hx
    obtain ⟨q, rfl⟩ := Int.eq_ofNat_of_zero_le c0
    have := hc q (by omega)
    rw [← clA_count] at this
    omega
structure PreR (m : Img) : Prop where
  few : m.snaps.length ≤ 3
  len : m.data.length = 24
  t : ∀ t ∈ imTabs m, tbB t = true
  once : ∀ t ∈ imTabs m, ∀ i, i < 24 → cN t i ≤ 1
  nm : ∀ s ∈ m.snaps, snmB s.name = true
  names : (m.snaps.map (·.name)).Nodup
  nums : ∀ n ∈ m.data, numB n = true
theorem sN_le {i : Nat} (hi : i < 24) : ∀ ts : List (List Int), (∀ t ∈ ts, ∀ i, i < 24 → cN t i ≤ 1) → sN ts i ≤ ts.length := by
  intro ts
  induction ts with
  | nil => intro _; exact Int.le_refl _
  | cons t ts ih =>
    intro h
    have h1 := h t (by simp) i hi
    have h2 := ih (fun x hx => h x (by simp [hx]))
    rw [sN_cons, List.length_cons]
    omega
theorem ctB_mk {xs : List Int} (hl : xs.length = 24) (h : ∀ i, i < 24 → 0 ≤ xs.getD i 0 ∧ xs.getD i 0 ≤ 15) : ctB xs = true := by
  unfold ctB
  simp only [Bool.and_eq_true, decide_eq_true_eq, List.all_eq_true]
  refine ⟨hl, fun x hx => ?_⟩
  obtain ⟨j, hj, rfl⟩ := List.mem_iff_getElem.1 hx
  have := h j (by omega)
  rw [show xs.getD j 0 = xs[j] by simp [List.getD, hj]] at this
  exact betw_iff.2 this
theorem PreR.fit {m : Img} (h : PreR m) : ImR (imFit m) := by
  have hlen : (imTabs m).length ≤ 4 := by rw [imTabs_len]; have := h.few; omega
  have hg : ∀ i, i < 24 → (imFit m).refs.getD i 0 = sN (imTabs m) i := fun i hi => cnt_get h.t hi
  refine ⟨ctB_mk (imCnt_len m) (fun i hi => ?_), h.t _ (by simp [imTabs, imFit]), h.few, by simp [imFit], fun s hs => ⟨h.nm s hs, h.t _ (by unfold imTabs; exact List.mem_cons_of_mem _ (List.mem_map.2 ⟨s, hs, rfl⟩))⟩, h.names, fun n hn => ?_, fun t ht => (once_cN (h.t t ht)).2 (h.once t ht), rfl, fun i hi hz => ?_⟩
  · have h1 := sN_le hi _ h.once
    have h2 := sN_nn (imTabs m) i
    rw [hg i hi]
    omega
  · unfold imFit at hn
    simp only at hn
    obtain ⟨i, hi, rfl⟩ := List.mem_map.1 hn
    have hi' := List.mem_range.1 hi
    split
    · rfl
    · rw [show m.data.getD i 0 = m.data[i]'(by rw [h.len]; exact hi') by simp [List.getD, h.len, hi']]
      exact h.nums _ (List.getElem_mem _)
  · unfold imFit
    simp only
    rw [range_getD hi]
    have hz' : (imCnt m).getD i 0 = 0 := hz
    rw [if_pos hz']
theorem ImR.pre {m : Img} (h : ImR m) : PreR m := ⟨h.few, h.len, h.tabs, fun t ht => (once_cN (h.tabs t ht)).1 (h.once t ht), fun s hs => (h.snaps s hs).1, h.names, h.nums⟩
theorem PreR.withT {m : Img} (h : PreR m) {t d : List Int} (ht : tbB t = true) (ho : ∀ i, i < 24 → cN t i ≤ 1) (hd : d.length = 24) (hn : ∀ n ∈ d, numB n = true) : PreR { m with table := t, data := d } := by
  have hm : ∀ x ∈ imTabs { m with table := t, data := d }, x = t ∨ x ∈ imTabs m := fun x hx => by
    have hx' : x ∈ t :: m.snaps.map (·.table) := hx
    rw [List.mem_cons] at hx'
    rcases hx' with rfl | hx'
    · exact .inl rfl
    · exact .inr (by unfold imTabs; exact List.mem_cons_of_mem _ hx')
  refine ⟨h.few, hd, fun x hx => ?_, fun x hx => ?_, h.nm, h.names, hn⟩
  · rcases hm x hx with rfl | h1
    · exact ht
    · exact h.t x h1
  · rcases hm x hx with rfl | h1
    · exact ho
    · exact h.once x h1
theorem nums_set {d : List Int} (h : ∀ n ∈ d, numB n = true) (c : Nat) {v : Int} (hv : numB v = true) : ∀ n ∈ d.set c v, numB n = true := fun n hn => by
  rcases List.mem_or_eq_of_mem_set hn with h1 | rfl
  · exact h n h1
  · exact hv
theorem ImR.cN_le {m : Img} (h : ImR m) : ∀ i, i < 24 → cN m.table i ≤ 1 := h.pre.once _ (by simp [imTabs])
theorem ImR.zero {m : Img} (h : ImR m) {g : Nat} (hg : g < m.table.length) : ImR (imZero m g) := by
  rw [← fit_zero h hg]
  refine (h.pre.withT (d := m.data) (tbB_set h.table g (by omega) (by omega)) (fun i hi => ?_) h.len h.nums).fit
  have := h.cN_le i hi
  rw [cN_set hg, if_neg (show ¬ (1 : Int) = (i : Int) + 2 by omega)]
  split <;> omega
theorem ImR.resize {m : Img} (h : ImR m) {n : Nat} (hn : n ≤ 12) : ImR (imResize m n) := by
  rw [← fit_resize h hn]
  refine (h.pre.withT (d := m.data) (tbB_rz h.table hn) (fun i hi => ?_) h.len h.nums).fit
  have h1 := h.cN_le i hi
  have e2 : cN m.table i = cN (m.table.take n) i + cN (m.table.drop n) i := by rw [← cN_append, List.take_append_drop]
  have := cN_nn (m.table.drop n) i
  rw [cN_rz]; omega
theorem ImR.write {m : Img} (h : ImR m) {g : Nat} (hg : g < m.table.length) {v : Int} (hv : numB v = true) : ImR (imWrite m g v).1 := by
  have hb := tbB_at h.table g hg
  by_cases h1 : 2 ≤ m.table[g] ∧ m.refs.getD (m.table[g] - 2).toNat 0 = 1
  · have hc : m.table[g] = (((m.table[g] - 2).toNat : Nat) : Int) + 2 := by omega
    have hr : (m.table[g] - 2).toNat < m.refs.length := by rw [h.rl]; omega
    have h1' : m.refs[(m.table[g] - 2).toNat] = 1 := by have := h1.2; simpa [List.getD, hr] using this
    rw [imWrite_in hg hc hr h1']
    rw [← fit_in h v hg hc h1.2]
    have hset : m.table.set g (2 + ((m.table[g] - 2).toNat : Int)) = m.table := by
      rw [show (2 : Int) + ((m.table[g] - 2).toNat : Int) = m.table[g] by omega]
      exact List.set_getElem_self hg
    rw [hset]
    exact (h.pre.withT h.table h.cN_le (by simp [h.len]) (nums_set h.nums _ hv)).fit
  · rw [imWrite_out hg h1]
    by_cases h2 : frN m.refs < m.refs.length
    · rw [if_pos h2]
      have hc24 : frN m.refs < 24 := by rw [h.rl] at h2; exact h2
      have h0 := free_spec h2
      rw [← fit_out h v hg hc24 h0]
      refine (h.pre.withT (tbB_set h.table g (by omega) (by omega)) (fun i hi => ?_) (by simp [h.len]) (nums_set h.nums _ hv)).fit
      have h3 := h.cN_le i hi
      rw [cN_set hg]
      by_cases hci : frN m.refs = i
      · have h4 : cN m.table i ≤ 0 := by
          have := h.cntA hi
          have := sN_nn (m.snaps.map (·.table)) i
          rw [sN_tabs] at *
          rw [hci] at h0
          omega
        have := cN_nn m.table i
        split <;> split <;> omega
      · rw [if_neg (show ¬ (2 : Int) + (frN m.refs : Int) = (i : Int) + 2 by omega)]
        split <;> omega
    · rw [if_neg h2]; exact h

theorem sN_append (s t : List (List Int)) (i : Nat) : sN (s ++ t) i = sN s i + sN t i := by unfold sN; rw [List.map_append, List.sum_append]
theorem raise_get {m : Img} {t : List Int} (hr : m.refs.length = 24) (ht : tbB t = true) {i : Nat} (hi : i < 24) : (imRaise m t).refs.getD i 0 = m.refs.getD i 0 + cN t i := by
  rw [← clA_count]
  exact fold_incr_get i hi _ (cl_mem ht) _ hr
theorem raise_len (m : Img) (t : List Int) : (imRaise m t).refs.length = m.refs.length := cnt1T_len t m.refs
theorem fit_create {m : Img} (h : ImR m) (name : ByteArray) : imFit { m with snaps := m.snaps ++ [⟨name, m.table⟩] } = { imRaise m m.table with snaps := m.snaps ++ [⟨name, m.table⟩] } := by
  have hcs : ∀ i, sN (imTabs { m with snaps := m.snaps ++ [⟨name, m.table⟩] }) i = sN (imTabs m) i + cN m.table i := fun i => by
    have e : sN (imTabs { m with snaps := m.snaps ++ [⟨name, m.table⟩] }) i = cN m.table i + sN (List.map (fun s : Snp => s.table) (m.snaps ++ [⟨name, m.table⟩])) i := rfl
    have e2 : sN [m.table] i = cN m.table i := by rw [sN_cons]; simp [sN]
    rw [e, List.map_append, sN_append, sN_tabs]
    show _ + (_ + sN [m.table] i) = _
    rw [e2]; omega
  have ht : ∀ t ∈ imTabs { m with snaps := m.snaps ++ [⟨name, m.table⟩] }, tbB t = true := fun t ht => by
    have ht' : t ∈ m.table :: List.map (fun s : Snp => s.table) (m.snaps ++ [⟨name, m.table⟩]) := ht
    simp only [List.map_append, List.mem_cons, List.mem_append, List.map_cons, List.map_nil, List.not_mem_nil, or_false] at ht'
    rcases ht' with rfl | ht' | rfl
    · exact h.table
    · exact h.tabs t (by unfold imTabs; exact List.mem_cons_of_mem _ ht')
    · exact h.table
  refine fit_eq (n := { imRaise m m.table with snaps := m.snaps ++ [⟨name, m.table⟩] }) ht (by show (imRaise m m.table).refs.length = 24; rw [raise_len]; exact h.rl) h.len rfl rfl (fun i hi => ?_) (fun i hi => ?_)
  · show (imRaise m m.table).refs.getD i 0 = _
    rw [raise_get h.rl h.table hi, hcs, h.cntA hi]
  · show m.data.getD i 0 = if _ then 0 else m.data.getD i 0
    rw [hcs, ← h.cntA hi]
    have h1 := cN_nn m.table i
    have h2 := sN_nn (imTabs m) i
    rw [← h.cntA hi] at h2
    by_cases hz : m.refs.getD i 0 + cN m.table i = 0
    · rw [if_pos hz, h.clear i hi (by omega)]
    · rw [if_neg hz]
theorem sN_erase {ts : List (List Int)} (i : Nat) : ∀ {k : Nat} (hk : k < ts.length), sN (ts.eraseIdx k) i = sN ts i - cN ts[k] i := by
  induction ts with
  | nil => intro k hk; simp at hk
  | cons t ts ih =>
    intro k hk
    cases k with
    | zero => simp only [List.eraseIdx_cons_zero, List.getElem_cons_zero, sN_cons]; omega
    | succ k =>
      have := ih (k := k) (by simpa using hk)
      simp only [List.eraseIdx_cons_succ, List.getElem_cons_succ, sN_cons, this]; omega
theorem cN_le_sN {ts : List (List Int)} (i : Nat) {k : Nat} (hk : k < ts.length) : cN ts[k] i ≤ sN ts i := by
  have h1 := sN_erase (ts := ts) i hk
  have h2 := sN_nn (ts.eraseIdx k) i
  omega
theorem map_eraseA {α : Type} (f : Snp → α) : ∀ (ss : List Snp) (k : Nat), (ss.eraseIdx k).map f = (ss.map f).eraseIdx k
  | [], k => by simp
  | s :: ss, 0 => rfl
  | s :: ss, k + 1 => by simp only [List.eraseIdx_cons_succ, List.map_cons, map_eraseA f ss k]
theorem map_erase {k : Nat} (ss : List Snp) : (ss.eraseIdx k).map (·.table) = (ss.map (·.table)).eraseIdx k := map_eraseA _ ss k
theorem fit_delete {m : Img} (h : ImR m) {k : Nat} (hk : k < m.snaps.length) : imFit { m with snaps := m.snaps.eraseIdx k } = { imDrops m m.snaps[k].table with snaps := m.snaps.eraseIdx k } := by
  have hk' : k < (m.snaps.map (·.table)).length := by simpa using hk
  have ek : (m.snaps.map (·.table))[k] = m.snaps[k].table := by simp
  have hcs : ∀ i, sN (imTabs { m with snaps := m.snaps.eraseIdx k }) i = sN (imTabs m) i - cN m.snaps[k].table i := fun i => by
    have e : sN (imTabs { m with snaps := m.snaps.eraseIdx k }) i = cN m.table i + sN ((m.snaps.eraseIdx k).map (·.table)) i := rfl
    rw [e, map_erase, sN_erase i hk', ek, sN_tabs]; omega
  have ht : ∀ t ∈ imTabs { m with snaps := m.snaps.eraseIdx k }, tbB t = true := fun t ht => by
    have ht' : t ∈ m.table :: (m.snaps.eraseIdx k).map (·.table) := ht
    rw [List.mem_cons, map_erase] at ht'
    rcases ht' with rfl | ht'
    · exact h.table
    · exact h.tabs t (by unfold imTabs; exact List.mem_cons_of_mem _ (List.mem_of_mem_eraseIdx ht'))
  obtain ⟨l1, l2, l3, l4⟩ := drops_lens m m.snaps[k].table
  have hle : ∀ i, i < 24 → cN m.snaps[k].table i ≤ m.refs.getD i 0 := fun i hi => by
    have h1 := cN_le_sN i hk'
    have h2 := cN_nn m.table i
    rw [ek] at h1
    rw [h.cntA hi, sN_tabs]; omega
  refine fit_eq (n := { imDrops m m.snaps[k].table with snaps := m.snaps.eraseIdx k }) ht (l1.trans h.rl) (l2.trans h.len) l3.symm rfl (fun i hi => ?_) (fun i hi => ?_)
  · show (imDrops m _).refs.getD i 0 = _
    rw [(drops_get hi _ m h.rl h.len).1, hcs, h.cntA hi]
  · show (imDrops m _).data.getD i 0 = _
    rw [drops_fit h _ hi (hle i hi), hcs, h.cntA hi]
theorem fit_revert {m : Img} (h : ImR m) {k : Nat} (hk : k < m.snaps.length) : imFit { m with table := m.snaps[k].table } = { imDrops (imRaise m m.snaps[k].table) m.table with table := m.snaps[k].table } := by
  have hk' : k < (m.snaps.map (·.table)).length := by simpa using hk
  have ek : (m.snaps.map (·.table))[k] = m.snaps[k].table := by simp
  have htk : tbB m.snaps[k].table = true := (h.snaps _ (List.getElem_mem hk)).2
  have hcs : ∀ i, sN (imTabs { m with table := m.snaps[k].table }) i = cN m.snaps[k].table i + sN (m.snaps.map (·.table)) i := fun i => rfl
  obtain ⟨l1, l2, l3, l4⟩ := drops_lens (imRaise m m.snaps[k].table) m.table
  have hrl : (imRaise m m.snaps[k].table).refs.length = 24 := (raise_len _ _).trans h.rl
  refine fit_eq (n := { imDrops (imRaise m m.snaps[k].table) m.table with table := m.snaps[k].table }) (tabs_with h htk m.data) (l1.trans hrl) (l2.trans h.len) rfl l4.symm (fun i hi => ?_) (fun i hi => ?_)
  · show (imDrops (imRaise m m.snaps[k].table) m.table).refs.getD i 0 = _
    rw [(drops_get hi _ _ hrl h.len).1, raise_get h.rl htk hi, hcs, h.cntA hi, sN_tabs]; omega
  · show (imDrops (imRaise m m.snaps[k].table) m.table).data.getD i 0 = if _ then 0 else m.data.getD i 0
    have h1 := cN_le_sN i hk'
    rw [ek] at h1
    have h2 := cN_nn m.snaps[k].table i
    have h3 := cN_nn m.table i
    have h4 := h.cntA hi
    rw [sN_tabs] at h4
    rw [(drops_get hi _ _ hrl h.len).2, raise_get h.rl htk hi, hcs]
    have ed : (imRaise m m.snaps[k].table).data.getD i 0 = m.data.getD i 0 := rfl
    rw [ed]
    by_cases hz : cN m.snaps[k].table i + sN (m.snaps.map (·.table)) i = 0
    · rw [if_pos hz]
      by_cases hr : m.refs.getD i 0 = 0
      · rw [if_neg (by omega), h.clear i hi hr]
      · rw [if_pos (by omega)]
    · rw [if_neg hz, if_neg (by omega)]
theorem ImR.create {m : Img} (h : ImR m) (name : ByteArray) : ImR (imCreate m name).1 := by
  unfold imCreate
  split
  · rename_i hn
    split
    · exact h
    · rename_i hf
      split
      · exact h
      · rename_i h3
        show ImR { imRaise m m.table with snaps := m.snaps ++ [⟨name, m.table⟩] }
        rw [← fit_create h name]
        refine PreR.fit ⟨?_, h.len, fun t ht => ?_, fun t ht => ?_, fun s hs => ?_, ?_, h.nums⟩
        · have := h.few
          simp only [List.length_append, List.length_singleton]; omega
        · have ht' : t ∈ m.table :: List.map (fun s : Snp => s.table) (m.snaps ++ [⟨name, m.table⟩]) := ht
          simp only [List.map_append, List.mem_cons, List.mem_append, List.map_cons, List.map_nil, List.not_mem_nil, or_false] at ht'
          rcases ht' with rfl | ht' | rfl
          · exact h.table
          · exact h.tabs t (by unfold imTabs; exact List.mem_cons_of_mem _ ht')
          · exact h.table
        · have ht' : t ∈ m.table :: List.map (fun s : Snp => s.table) (m.snaps ++ [⟨name, m.table⟩]) := ht
          simp only [List.map_append, List.mem_cons, List.mem_append, List.map_cons, List.map_nil, List.not_mem_nil, or_false] at ht'
          rcases ht' with rfl | ht' | rfl
          · exact h.cN_le
          · exact h.pre.once t (by unfold imTabs; exact List.mem_cons_of_mem _ ht')
          · exact h.cN_le
        · simp only [List.mem_append, List.mem_singleton] at hs
          rcases hs with hs | rfl
          · exact (h.snaps s hs).1
          · exact hn
        · rw [List.map_append, List.nodup_append]
          refine ⟨h.names, by simp, ?_⟩
          intro a ha b hb
          simp only [List.map_cons, List.map_nil, List.mem_singleton] at hb
          subst hb
          rintro rfl
          obtain ⟨s, hs, e⟩ := List.mem_map.1 ha
          apply hf
          unfold imFind
          rw [List.findIdx_lt_length]
          exact ⟨s, hs, by simp [e]⟩
  · exact h
theorem ImR.delete {m : Img} (h : ImR m) (name : ByteArray) : ImR (imDelete m name).1 := by
  unfold imDelete
  split
  · rename_i hf
    have e : (m.snaps[imFind m name]?).elim [] (·.table) = m.snaps[imFind m name].table := by rw [List.getElem?_eq_getElem hf]; rfl
    rw [e]
    show ImR { imDrops m m.snaps[imFind m name].table with snaps := m.snaps.eraseIdx (imFind m name) }
    rw [← fit_delete h hf]
    refine PreR.fit ⟨?_, h.len, fun t ht => ?_, fun t ht => ?_, fun s hs => (h.snaps s (List.mem_of_mem_eraseIdx hs)).1, ?_, h.nums⟩
    · have := h.few
      simp only [List.length_eraseIdx]; split <;> omega
    · have ht' : t ∈ m.table :: (m.snaps.eraseIdx (imFind m name)).map (·.table) := ht
      rw [List.mem_cons, map_erase] at ht'
      rcases ht' with rfl | ht'
      · exact h.table
      · exact h.tabs t (by unfold imTabs; exact List.mem_cons_of_mem _ (List.mem_of_mem_eraseIdx ht'))
    · have ht' : t ∈ m.table :: (m.snaps.eraseIdx (imFind m name)).map (·.table) := ht
      rw [List.mem_cons, map_erase] at ht'
      rcases ht' with rfl | ht'
      · exact h.cN_le
      · exact h.pre.once t (by unfold imTabs; exact List.mem_cons_of_mem _ (List.mem_of_mem_eraseIdx ht'))
    · show ((m.snaps.eraseIdx (imFind m name)).map (·.name)).Nodup
      rw [map_eraseA]
      exact h.names.sublist (List.eraseIdx_sublist _ _)
  · exact h
theorem ImR.revert {m : Img} (h : ImR m) (name : ByteArray) : ImR (imRevert m name).1 := by
  unfold imRevert
  split
  · rename_i hf
    have e : (m.snaps[imFind m name]?).elim [] (·.table) = m.snaps[imFind m name].table := by rw [List.getElem?_eq_getElem hf]; rfl
    rw [e]
    show ImR { imDrops (imRaise m m.snaps[imFind m name].table) m.table with table := m.snaps[imFind m name].table }
    rw [← fit_revert h hf]
    have htk := (h.snaps _ (List.getElem_mem hf)).2
    exact (h.pre.withT (d := m.data) htk (h.pre.once _ (by unfold imTabs; exact List.mem_cons_of_mem _ (List.mem_map.2 ⟨_, List.getElem_mem hf, rfl⟩))) h.len h.nums).fit
  · exact h
theorem ImR.new {n : Nat} (hn : n ≤ 12) : ImR (imNew n) := by
  have hrep : ∀ i (hi : i < (List.replicate n (0 : Int)).length), (List.replicate n (0 : Int))[i] = 0 := fun i hi => by simp
  have ht : tbB (List.replicate n (0 : Int)) = true := tbB_of (by simpa using hn) (fun i hi => by rw [hrep]; rfl)
  have hc : ∀ i, cN (List.replicate n (0 : Int)) i = 0 := fun i => by
    unfold cN
    rw [List.count_eq_zero_of_not_mem (fun h => by have := List.eq_of_mem_replicate h; omega)]; rfl
  have hp : PreR (imNew n) := ⟨by simp [imNew], rfl, fun t h => (by simp only [imTabs, imNew, List.map_nil, List.mem_singleton] at h; subst h; exact ht), fun t h => (by simp only [imTabs, imNew, List.map_nil, List.mem_singleton] at h; subst h; intro i _; rw [hc]; omega), fun s hs => (by cases hs), List.nodup_nil, (by show ∀ n ∈ zero24, numB n = true; decide)⟩
  have e : imFit (imNew n) = imNew n := by
    refine fit_eq hp.t rfl rfl rfl rfl (fun i hi => ?_) (fun i hi => ?_)
    · show zero24.getD i 0 = _
      rw [zero24_get hi, sN_tabs]
      show _ = cN (List.replicate n (0 : Int)) i + sN [] i
      rw [hc]; rfl
    · show zero24.getD i 0 = if _ then 0 else zero24.getD i 0
      rw [zero24_get hi]; simp
  rw [← e]
  exact hp.fit

end Go.Proofs.YtbmkdbccdnbbjaaGreatDoor
