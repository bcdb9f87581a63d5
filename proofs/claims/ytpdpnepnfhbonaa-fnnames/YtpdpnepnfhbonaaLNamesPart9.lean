import Derived.Test.YtpdpnepnfhbonaaLNamesPart1
import Derived.Test.YtpdpnepnfhbonaaLNamesPart2
import Derived.Test.YtpdpnepnfhbonaaLNamesPart3
import Derived.Test.YtpdpnepnfhbonaaLNamesPart5
import Derived.Test.YtpdpnepnfhbonaaLNamesPart6
import Derived.Test.YtpdpnepnfhbonaaLNamesPart7
import Derived.Test.YtpdpnepnfhbonaaLNamesPart8
import Derived.Test.YtpdpnepnfhbonaaRows
import Derived.WalkKit
import Derived.WalkSpells
import Derived.BigQuiet
import Derived.Deep.QuietTactic
import Derived.Deep.RegionWith
import Derived.KernelRfl
import Derived.LoopN
import Derived.OrdersHeld
import Derived.Deep.RegionHeld3
import Derived.Test.YtpdpnepnfhbonaaLNamesPart4
import Derived.Outline
import Derived.Deep.RegionLawGrows

namespace Go.Proofs.Ytpdpnepnfhbonaa
open Go.RowKit
set_option linter.unusedVariables false
set_option maxRecDepth 100000

theorem once_cN {t : List Int} (h : tbB t = true) : (clA t).Nodup ↔ ∀ i, i < 24 → cN t i ≤ 1 := by
  constructor
  · intro hn i hi
    rw [← clA_count]
    by_cases hm : (i : Int) ∈ clA t
    · have := (nodup_count _).1 hn _ hm; omega
    · rw [List.count_eq_zero_of_not_mem hm]; omega
  · intro hc
    refine (nodup_count _).2 fun x hx => ?_
    obtain ⟨c0, c1⟩ := cl_mem h x hx
    obtain ⟨q, rfl⟩ := Int.eq_ofNat_of_zero_le c0
    have := hc q (by omega)
    rw [← clA_count] at this
    omega
structure PreR (m : Img) : Prop where
  few : m.snaps.length ≤ 3
  len : m.data.length = 24
  t : ∀ t ∈ imTabs m, tbB t = true
  once : ∀ t ∈ imTabs m, ∀ i, i < 24 → cN t i ≤ 1
  nm : ∀ s ∈ m.snaps, snmB s.name = true
  names : (m.snaps.map (·.name)).Nodup
  nums : ∀ n ∈ m.data, numB n = true
theorem sN_le {i : Nat} (hi : i < 24) : ∀ ts : List (List Int), (∀ t ∈ ts, ∀ i, i < 24 → cN t i ≤ 1) → sN ts i ≤ ts.length := by
  intro ts
  induction ts with
  | nil => intro _; exact Int.le_refl _
  | cons t ts ih =>
    intro h
    have h1 := h t (by simp) i hi
    have h2 := ih (fun x hx => h x (by simp [hx]))
    rw [sN_cons, List.length_cons]
    omega
theorem ctB_mk {xs : List Int} (hl : xs.length = 24) (h : ∀ i, i < 24 → 0 ≤ xs.getD i 0 ∧ xs.getD i 0 ≤ 15) : ctB xs = true := by
  unfold ctB
  simp only [Bool.and_eq_true, decide_eq_true_eq, List.all_eq_true]
  refine ⟨hl, fun x hx => ?_⟩
  obtain ⟨j, hj, rfl⟩ := List.mem_iff_getElem.1 hx
  have := h j (by omega)
  rw [show xs.getD j 0 = xs[j] by simp [List.getD, hj]] at this
  exact betw_iff.2 this
theorem PreR.fit {m : Img} (h : PreR m) : ImR (imFit m) := by
  have hlen : (imTabs m).length ≤ 4 := by rw [imTabs_len]; have := h.few; omega
  have hg : ∀ i, i < 24 → (imFit m).refs.getD i 0 = sN (imTabs m) i := fun i hi => cnt_get h.t hi
  refine ⟨ctB_mk (imCnt_len m) (fun i hi => ?_), h.t _ (by simp [imTabs, imFit]), h.few, by simp [imFit], fun s hs => ⟨h.nm s hs, h.t _ (by unfold imTabs; exact List.mem_cons_of_mem _ (List.mem_map.2 ⟨s, hs, rfl⟩))⟩, h.names, fun n hn => ?_, fun t ht => (once_cN (h.t t ht)).2 (h.once t ht), rfl, fun i hi hz => ?_⟩
  · have h1 := sN_le hi _ h.once
    have h2 := sN_nn (imTabs m) i
    rw [hg i hi]
    omega
  · unfold imFit at hn
    simp only at hn
    obtain ⟨i, hi, rfl⟩ := List.mem_map.1 hn
    have hi' := List.mem_range.1 hi
    split
    · rfl
    · rw [show m.data.getD i 0 = m.data[i]'(by rw [h.len]; exact hi') by simp [List.getD, h.len, hi']]
      exact h.nums _ (List.getElem_mem _)
  · unfold imFit
    simp only
    rw [range_getD hi]
    have hz' : (imCnt m).getD i 0 = 0 := hz
    rw [if_pos hz']
theorem ImR.pre {m : Img} (h : ImR m) : PreR m := ⟨h.few, h.len, h.tabs, fun t ht => (once_cN (h.tabs t ht)).1 (h.once t ht), fun s hs => (h.snaps s hs).1, h.names, h.nums⟩
theorem PreR.withT {m : Img} (h : PreR m) {t d : List Int} (ht : tbB t = true) (ho : ∀ i, i < 24 → cN t i ≤ 1) (hd : d.length = 24) (hn : ∀ n ∈ d, numB n = true) : PreR { m with table := t, data := d } := by
  have hm : ∀ x ∈ imTabs { m with table := t, data := d }, x = t ∨ x ∈ imTabs m := fun x hx => by
    have hx' : x ∈ t :: m.snaps.map (·.table) := hx
    rw [List.mem_cons] at hx'
    rcases hx' with rfl | hx'
    · exact .inl rfl
    · exact .inr (by unfold imTabs; exact List.mem_cons_of_mem _ hx')
  refine ⟨h.few, hd, fun x hx => ?_, fun x hx => ?_, h.nm, h.names, hn⟩
  · rcases hm x hx with rfl | h1
    · exact ht
    · exact h.t x h1
  · rcases hm x hx with rfl | h1
    · exact ho
    · exact h.once x h1
theorem nums_set {d : List Int} (h : ∀ n ∈ d, numB n = true) (c : Nat) {v : Int} (hv : numB v = true) : ∀ n ∈ d.set c v, numB n = true := fun n hn => by
  rcases List.mem_or_eq_of_mem_set hn with h1 | rfl
  · exact h n h1
  · exact hv
theorem ImR.cN_le {m : Img} (h : ImR m) : ∀ i, i < 24 → cN m.table i ≤ 1 := h.pre.once _ (by simp [imTabs])
theorem ImR.zero {m : Img} (h : ImR m) {g : Nat} (hg : g < m.table.length) : ImR (imZero m g) := by
  rw [← fit_zero h hg]
  refine (h.pre.withT (d := m.data) (tbB_set h.table g (by omega) (by omega)) (fun i hi => ?_) h.len h.nums).fit
  have := h.cN_le i hi
  rw [cN_set hg, if_neg (show ¬ (1 : Int) = (i : Int) + 2 by omega)]
  split <;> omega
theorem ImR.resize {m : Img} (h : ImR m) {n : Nat} (hn : n ≤ 12) : ImR (imResize m n) := by
  rw [← fit_resize h hn]
  refine (h.pre.withT (d := m.data) (tbB_rz h.table hn) (fun i hi => ?_) h.len h.nums).fit
  have h1 := h.cN_le i hi
  have e2 : cN m.table i = cN (m.table.take n) i + cN (m.table.drop n) i := by rw [← cN_append, List.take_append_drop]
  have := cN_nn (m.table.drop n) i
  rw [cN_rz]; omega
theorem ImR.write {m : Img} (h : ImR m) {g : Nat} (hg : g < m.table.length) {v : Int} (hv : numB v = true) : ImR (imWrite m g v).1 := by
  have hb := tbB_at h.table g hg
  by_cases h1 : 2 ≤ m.table[g] ∧ m.refs.getD (m.table[g] - 2).toNat 0 = 1
  · have hc : m.table[g] = (((m.table[g] - 2).toNat : Nat) : Int) + 2 := by omega
    have hr : (m.table[g] - 2).toNat < m.refs.length := by rw [h.rl]; omega
    have h1' : m.refs[(m.table[g] - 2).toNat] = 1 := by have := h1.2; simpa [List.getD, hr] using this
    rw [imWrite_in hg hc hr h1']
    rw [← fit_in h v hg hc h1.2]
    have hset : m.table.set g (2 + ((m.table[g] - 2).toNat : Int)) = m.table := by
      rw [show (2 : Int) + ((m.table[g] - 2).toNat : Int) = m.table[g] by omega]
      exact List.set_getElem_self hg
    rw [hset]
    exact (h.pre.withT h.table h.cN_le (by simp [h.len]) (nums_set h.nums _ hv)).fit
  · rw [imWrite_out hg h1]
    by_cases h2 : frN m.refs < m.refs.length
    · rw [if_pos h2]
      have hc24 : frN m.refs < 24 := by rw [h.rl] at h2; exact h2
      have h0 := free_spec h2
      rw [← fit_out h v hg hc24 h0]
      refine (h.pre.withT (tbB_set h.table g (by omega) (by omega)) (fun i hi => ?_) (by simp [h.len]) (nums_set h.nums _ hv)).fit
      have h3 := h.cN_le i hi
      rw [cN_set hg]
      by_cases hci : frN m.refs = i
      · have h4 : cN m.table i ≤ 0 := by
          have := h.cntA hi
          have := sN_nn (m.snaps.map (·.table)) i
          rw [sN_tabs] at *
          rw [hci] at h0
          omega
        have := cN_nn m.table i
        split <;> split <;> omega
      · rw [if_neg (show ¬ (2 : Int) + (frN m.refs : Int) = (i : Int) + 2 by omega)]
        split <;> omega
    · rw [if_neg h2]; exact h

theorem sN_append (s t : List (List Int)) (i : Nat) : sN (s ++ t) i = sN s i + sN t i := by unfold sN; rw [List.map_append, List.sum_append]
theorem raise_get {m : Img} {t : List Int} (hr : m.refs.length = 24) (ht : tbB t = true) {i : Nat} (hi : i < 24) : (imRaise m t).refs.getD i 0 = m.refs.getD i 0 + cN t i := by
  rw [← clA_count]
  exact fold_incr_get i hi _ (cl_mem ht) _ hr
theorem raise_len (m : Img) (t : List Int) : (imRaise m t).refs.length = m.refs.length := cnt1T_len t m.refs
theorem fit_create {m : Img} (h : ImR m) (name : ByteArray) : imFit { m with snaps := m.snaps ++ [⟨name, m.table⟩] } = { imRaise m m.table with snaps := m.snaps ++ [⟨name, m.table⟩] } := by
  have hcs : ∀ i, sN (imTabs { m with snaps := m.snaps ++ [⟨name, m.table⟩] }) i = sN (imTabs m) i + cN m.table i := fun i => by
    have e : sN (imTabs { m with snaps := m.snaps ++ [⟨name, m.table⟩] }) i = cN m.table i + sN (List.map (fun s : Snp => s.table) (m.snaps ++ [⟨name, m.table⟩])) i := rfl
    have e2 : sN [m.table] i = cN m.table i := by rw [sN_cons]; simp [sN]
    rw [e, List.map_append, sN_append, sN_tabs]
    show _ + (_ + sN [m.table] i) = _
    rw [e2]; omega
  have ht : ∀ t ∈ imTabs { m with snaps := m.snaps ++ [⟨name, m.table⟩] }, tbB t = true := fun t ht => by
    have ht' : t ∈ m.table :: List.map (fun s : Snp => s.table) (m.snaps ++ [⟨name, m.table⟩]) := ht
    simp only [List.map_append, List.mem_cons, List.mem_append, List.map_cons, List.map_nil, List.not_mem_nil, or_false] at ht'
    rcases ht' with rfl | ht' | rfl
    · exact h.table
    · exact h.tabs t (by unfold imTabs; exact List.mem_cons_of_mem _ ht')
    · exact h.table
  refine fit_eq (n := { imRaise m m.table with snaps := m.snaps ++ [⟨name, m.table⟩] }) ht (by show (imRaise m m.table).refs.length = 24; rw [raise_len]; exact h.rl) h.len rfl rfl (fun i hi => ?_) (fun i hi => ?_)
  · show (imRaise m m.table).refs.getD i 0 = _
    rw [raise_get h.rl h.table hi, hcs, h.cntA hi]
  · show m.data.getD i 0 = if _ then 0 else m.data.getD i 0
    rw [hcs, ← h.cntA hi]
    have h1 := cN_nn m.table i
    have h2 := sN_nn (imTabs m) i
    rw [← h.cntA hi] at h2
    by_cases hz : m.refs.getD i 0 + cN m.table i = 0
    · rw [if_pos hz, h.clear i hi (by omega)]
    · rw [if_neg hz]
theorem sN_erase {ts : List (List Int)} (i : Nat) : ∀ {k : Nat} (hk : k < ts.length), sN (ts.eraseIdx k) i = sN ts i - cN ts[k] i := by
  induction ts with
  | nil => intro k hk; simp at hk
  | cons t ts ih =>
    intro k hk
    cases k with
    | zero => simp only [List.eraseIdx_cons_zero, List.getElem_cons_zero, sN_cons]; omega
    | succ k =>
      have := ih (k := k) (by simpa using hk)
      simp only [List.eraseIdx_cons_succ, List.getElem_cons_succ, sN_cons, this]; omega
theorem cN_le_sN {ts : List (List Int)} (i : Nat) {k : Nat} (hk : k < ts.length) : cN ts[k] i ≤ sN ts i := by
  have h1 := sN_erase (ts := ts) i hk
  have h2 := sN_nn (ts.eraseIdx k) i
  omega
theorem map_eraseA {α : Type} (f : Snp → α) : ∀ (ss : List Snp) (k : Nat), (ss.eraseIdx k).map f = (ss.map f).eraseIdx k
  | [], k => by simp
  | s :: ss, 0 => rfl
  | s :: ss, k + 1 => by simp only [List.eraseIdx_cons_succ, List.map_cons, map_eraseA f ss k]
theorem map_erase {k : Nat} (ss : List Snp) : (ss.eraseIdx k).map (·.table) = (ss.map (·.table)).eraseIdx k := map_eraseA _ ss k
theorem fit_delete {m : Img} (h : ImR m) {k : Nat} (hk : k < m.snaps.length) : imFit { m with snaps := m.snaps.eraseIdx k } = { imDrops m m.snaps[k].table with snaps := m.snaps.eraseIdx k } := by
  have hk' : k < (m.snaps.map (·.table)).length := by simpa using hk
  have ek : (m.snaps.map (·.table))[k] = m.snaps[k].table := by simp
  have hcs : ∀ i, sN (imTabs { m with snaps := m.snaps.eraseIdx k }) i = sN (imTabs m) i - cN m.snaps[k].table i := fun i => by
    have e : sN (imTabs { m with snaps := m.snaps.eraseIdx k }) i = cN m.table i + sN ((m.snaps.eraseIdx k).map (·.table)) i := rfl
    rw [e, map_erase, sN_erase i hk', ek, sN_tabs]; omega
  have ht : ∀ t ∈ imTabs { m with snaps := m.snaps.eraseIdx k }, tbB t = true := fun t ht => by
    have ht' : t ∈ m.table :: (m.snaps.eraseIdx k).map (·.table) := ht
    rw [List.mem_cons, map_erase] at ht'
    rcases ht' with rfl | ht'
    · exact h.table
    · exact h.tabs t (by unfold imTabs; exact List.mem_cons_of_mem _ (List.mem_of_mem_eraseIdx ht'))
  obtain ⟨l1, l2, l3, l4⟩ := drops_lens m m.snaps[k].table
  have hle : ∀ i, i < 24 → cN m.snaps[k].table i ≤ m.refs.getD i 0 := fun i hi => by
    have h1 := cN_le_sN i hk'
    have h2 := cN_nn m.table i
    rw [ek] at h1
    rw [h.cntA hi, sN_tabs]; omega
  refine fit_eq (n := { imDrops m m.snaps[k].table with snaps := m.snaps.eraseIdx k }) ht (l1.trans h.rl) (l2.trans h.len) l3.symm rfl (fun i hi => ?_) (fun i hi => ?_)
  · show (imDrops m _).refs.getD i 0 = _
    rw [(drops_get hi _ m h.rl h.len).1, hcs, h.cntA hi]
  · show (imDrops m _).data.getD i 0 = _
    rw [drops_fit h _ hi (hle i hi), hcs, h.cntA hi]
theorem fit_revert {m : Img} (h : ImR m) {k : Nat} (hk : k < m.snaps.length) : imFit { m with table := m.snaps[k].table } = { imDrops (imRaise m m.snaps[k].table) m.table with table := m.snaps[k].table } := by
  have hk' : k < (m.snaps.map (·.table)).length := by simpa using hk
  have ek : (m.snaps.map (·.table))[k] = m.snaps[k].table := by simp
  have htk : tbB m.snaps[k].table = true := (h.snaps _ (List.getElem_mem hk)).2
  have hcs : ∀ i, sN (imTabs { m with table := m.snaps[k].table }) i = cN m.snaps[k].table i + sN (m.snaps.map (·.table)) i := fun i => rfl
  obtain ⟨l1, l2, l3, l4⟩ := drops_lens (imRaise m m.snaps[k].table) m.table
  have hrl : (imRaise m m.snaps[k].table).refs.length = 24 := (raise_len _ _).trans h.rl
  refine fit_eq (n := { imDrops (imRaise m m.snaps[k].table) m.table with table := m.snaps[k].table }) (tabs_with h htk m.data) (l1.trans hrl) (l2.trans h.len) rfl l4.symm (fun i hi => ?_) (fun i hi => ?_)
  · show (imDrops (imRaise m m.snaps[k].table) m.table).refs.getD i 0 = _
    rw [(drops_get hi _ _ hrl h.len).1, raise_get h.rl htk hi, hcs, h.cntA hi, sN_tabs]; omega
  · show (imDrops (imRaise m m.snaps[k].table) m.table).data.getD i 0 = if _ then 0 else m.data.getD i 0
    have h1 := cN_le_sN i hk'
    rw [ek] at h1
    have h2 := cN_nn m.snaps[k].table i
    have h3 := cN_nn m.table i
    have h4 := h.cntA hi
    rw [sN_tabs] at h4
    rw [(drops_get hi _ _ hrl h.len).2, raise_get h.rl htk hi, hcs]
    have ed : (imRaise m m.snaps[k].table).data.getD i 0 = m.data.getD i 0 := rfl
    rw [ed]
    by_cases hz : cN m.snaps[k].table i + sN (m.snaps.map (·.table)) i = 0
    · rw [if_pos hz]
      by_cases hr : m.refs.getD i 0 = 0
      · rw [if_neg (by omega), h.clear i hi hr]
      · rw [if_pos (by omega)]
    · rw [if_neg hz, if_neg (by omega)]
theorem find_lt {m : Img} {name : ByteArray} (h : imFind m name < m.snaps.length) : m.snaps[imFind m name].name = name := by
  unfold imFind at h ⊢
  have := List.findIdx_getElem (w := h)
  simpa using this
theorem ImR.create {m : Img} (h : ImR m) (name : ByteArray) : ImR (imCreate m name).1 := by
  unfold imCreate
  split
  · rename_i hn
    split
    · exact h
    · rename_i hf
      split
      · exact h
      · rename_i h3
        show ImR { imRaise m m.table with snaps := m.snaps ++ [⟨name, m.table⟩] }
        rw [← fit_create h name]
        refine PreR.fit ⟨?_, h.len, fun t ht => ?_, fun t ht => ?_, fun s hs => ?_, ?_, h.nums⟩
        · have := h.few
          simp only [List.length_append, List.length_singleton]; omega
        · have ht' : t ∈ m.table :: List.map (fun s : Snp => s.table) (m.snaps ++ [⟨name, m.table⟩]) := ht
          simp only [List.map_append, List.mem_cons, List.mem_append, List.map_cons, List.map_nil, List.not_mem_nil, or_false] at ht'
          rcases ht' with rfl | ht' | rfl
          · exact h.table
          · exact h.tabs t (by unfold imTabs; exact List.mem_cons_of_mem _ ht')
          · exact h.table
        · have ht' : t ∈ m.table :: List.map (fun s : Snp => s.table) (m.snaps ++ [⟨name, m.table⟩]) := ht
          simp only [List.map_append, List.mem_cons, List.mem_append, List.map_cons, List.map_nil, List.not_mem_nil, or_false] at ht'
          rcases ht' with rfl | ht' | rfl
          · exact h.cN_le
          · exact h.pre.once t (by unfold imTabs; exact List.mem_cons_of_mem _ ht')
          · exact h.cN_le
        · simp only [List.mem_append, List.mem_singleton] at hs
          rcases hs with hs | rfl
          · exact (h.snaps s hs).1
          · exact hn
        · rw [List.map_append, List.nodup_append]
          refine ⟨h.names, by simp, ?_⟩
          intro a ha b hb
          simp only [List.map_cons, List.map_nil, List.mem_singleton] at hb
          subst hb
          rintro rfl
          obtain ⟨s, hs, e⟩ := List.mem_map.1 ha
          apply hf
          unfold imFind
          rw [List.findIdx_lt_length]
          exact ⟨s, hs, by simp [e]⟩
  · exact h
theorem ImR.delete {m : Img} (h : ImR m) (name : ByteArray) : ImR (imDelete m name).1 := by
  unfold imDelete
  split
  · rename_i hf
    have e : (m.snaps[imFind m name]?).elim [] (·.table) = m.snaps[imFind m name].table := by rw [List.getElem?_eq_getElem hf]; rfl
    rw [e]
    show ImR { imDrops m m.snaps[imFind m name].table with snaps := m.snaps.eraseIdx (imFind m name) }
    rw [← fit_delete h hf]
    refine PreR.fit ⟨?_, h.len, fun t ht => ?_, fun t ht => ?_, fun s hs => (h.snaps s (List.mem_of_mem_eraseIdx hs)).1, ?_, h.nums⟩
    · have := h.few
      simp only [List.length_eraseIdx]; split <;> omega
    · have ht' : t ∈ m.table :: (m.snaps.eraseIdx (imFind m name)).map (·.table) := ht
      rw [List.mem_cons, map_erase] at ht'
      rcases ht' with rfl | ht'
      · exact h.table
      · exact h.tabs t (by unfold imTabs; exact List.mem_cons_of_mem _ (List.mem_of_mem_eraseIdx ht'))
    · have ht' : t ∈ m.table :: (m.snaps.eraseIdx (imFind m name)).map (·.table) := ht
      rw [List.mem_cons, map_erase] at ht'
      rcases ht' with rfl | ht'
      · exact h.cN_le
      · exact h.pre.once t (by unfold imTabs; exact List.mem_cons_of_mem _ (List.mem_of_mem_eraseIdx ht'))
    · show ((m.snaps.eraseIdx (imFind m name)).map (·.name)).Nodup
      rw [map_eraseA]
      exact h.names.sublist (List.eraseIdx_sublist _ _)
  · exact h
theorem ImR.revert {m : Img} (h : ImR m) (name : ByteArray) : ImR (imRevert m name).1 := by
  unfold imRevert
  split
  · rename_i hf
    have e : (m.snaps[imFind m name]?).elim [] (·.table) = m.snaps[imFind m name].table := by rw [List.getElem?_eq_getElem hf]; rfl
    rw [e]
    show ImR { imDrops (imRaise m m.snaps[imFind m name].table) m.table with table := m.snaps[imFind m name].table }
    rw [← fit_revert h hf]
    have htk := (h.snaps _ (List.getElem_mem hf)).2
    exact (h.pre.withT (d := m.data) htk (h.pre.once _ (by unfold imTabs; exact List.mem_cons_of_mem _ (List.mem_map.2 ⟨_, List.getElem_mem hf, rfl⟩))) h.len h.nums).fit
  · exact h
theorem ImR.new {n : Nat} (hn : n ≤ 12) : ImR (imNew n) := by
  have hrep : ∀ i (hi : i < (List.replicate n (0 : Int)).length), (List.replicate n (0 : Int))[i] = 0 := fun i hi => by simp
  have ht : tbB (List.replicate n (0 : Int)) = true := tbB_of (by simpa using hn) (fun i hi => by rw [hrep]; rfl)
  have hc : ∀ i, cN (List.replicate n (0 : Int)) i = 0 := fun i => by
    unfold cN
    rw [List.count_eq_zero_of_not_mem (fun h => by have := List.eq_of_mem_replicate h; omega)]; rfl
  have hp : PreR (imNew n) := ⟨by simp [imNew], rfl, fun t h => (by simp only [imTabs, imNew, List.map_nil, List.mem_singleton] at h; subst h; exact ht), fun t h => (by simp only [imTabs, imNew, List.map_nil, List.mem_singleton] at h; subst h; intro i _; rw [hc]; omega), fun s hs => (by cases hs), List.nodup_nil, (by show ∀ n ∈ zero24, numB n = true; decide)⟩
  have e : imFit (imNew n) = imNew n := by
    refine fit_eq hp.t rfl rfl rfl rfl (fun i hi => ?_) (fun i hi => ?_)
    · show zero24.getD i 0 = _
      rw [zero24_get hi, sN_tabs]
      show _ = cN (List.replicate n (0 : Int)) i + sN [] i
      rw [hc]; rfl
    · show zero24.getD i 0 = if _ then 0 else zero24.getD i 0
      rw [zero24_get hi]; simp
  rw [← e]
  exact hp.fit

end Go.Proofs.Ytpdpnepnfhbonaa

namespace Go.Proofs.Ytpdpnepnfhbonaa
open Go.RowKit
set_option linter.unusedVariables false
set_option maxRecDepth 100000

end Go.Proofs.Ytpdpnepnfhbonaa

namespace Go.Proofs.Ytpdpnepnfhbonaa
open Go.RowKit
set_option linter.unusedVariables false
set_option maxRecDepth 100000

set_option maxHeartbeats 800000 in
theorem sameInts_any (ao bo : Option Addr) (ca cb : Nat) (ss tt : List Int) (w : World) (hl : ss.length ≤ maxLen) (hc : Is w ao ss) (hd : Is w bo tt) :
    Calls Try.prog 39 #[.slice ao ss.length ca, .slice bo tt.length cb] w fun e w' => e = .returned (.bool (eqNB ss tt)) ∧ Below w.heap.size w w' := by
  have HC := hide hc
  have HD := hide hd
  clear hc hd
  unfold maxLen at hl
  by_cases hle : ss.length = tt.length
  · have hb : ((ss.length : Int) != (tt.length : Int)) = false := by simp [hle]
    have HLE := hide hle
    clear hle
    go_enter Try.func39, Try.ntmps39
    go_wp2
    go_loopw [5] (fun i wr => ∃ k : Nat, k ≤ ss.length ∧ i = .int .i64 k ∧ Hid (∀ j (h : j < ss.length) (h' : j < tt.length), j < k → ss[j] = tt[j]) ∧ Hid (Below w.heap.size w wr)) (fun i _ => ss.length - (intOf i).toNat)
    case atStart => exact ⟨0, Nat.zero_le _, rfl, hide (fun j _ _ h => by omega), hide (Below.refl _ _)⟩
    case round =>
      obtain ⟨k, hk, rfl, HA, HB⟩ := hrel
      by_cases hlt : k < ss.length
      · have hlt' : k < tt.length := by rw [← unhide HLE]; exact hlt
        obtain ⟨b, off, rfl, hc⟩ := (unhide HC).below (unhide HB) k hlt
        obtain ⟨b', off', rfl, hc'⟩ := (unhide HD).below (unhide HB) k hlt'
        by_cases he : ss[k] = tt[k]
        · have HN := hide (eq_succ hlt hlt' (unhide HA) he)
          have be : (ss[k] != tt[k]) = false := by simp [he]
          clear he
          go_wp2
          go_quiet (fail)
          go_wp2
          go_roundw
          case rel => exact ⟨k + 1, by omega, by go_num, HN, hide ((unhide HB).trans (Joins.below_draws _ _ _))⟩
          case measure => simp [intOf]; omega
        · have H := hide (eqNB_false hlt hlt' he)
          have be : (ss[k] != tt[k]) = true := by simp [he]
          clear he
          go_wp2
          go_quiet (fail)
          go_wp2
          go_ret
          exact ⟨ret_bool (unhide H).symm, (unhide HB).trans (Joins.below_draws _ _ _)⟩
      · have H := hide (eqNB_true (unhide HLE) (fun j h h' => unhide HA j h h' (by omega)))
        go_wp2
        go_ret
        exact ⟨ret_bool (unhide H).symm, unhide HB⟩
  · have hb : ((ss.length : Int) != (tt.length : Int)) = true := by simp; omega
    have H := hide (eqNB_false_len hle)
    clear hle
    go_enter Try.func39, Try.ntmps39
    go_wp2
    go_ret
    exact ⟨ret_bool (unhide H).symm, Below.refl _ _⟩

end Go.Proofs.Ytpdpnepnfhbonaa

namespace Go.Proofs.Ytpdpnepnfhbonaa
open Go.RowKit
set_option linter.unusedVariables false
set_option maxRecDepth 100000

theorem sameNums_same (ao bo : Option Addr) (ca cb : Nat) (xs : List Int) (w : World) (hl : xs.length ≤ maxLen) (hc : Is w ao xs) (hd : Is w bo xs) :
    Calls Try.prog 39 #[.slice ao xs.length ca, .slice bo xs.length cb] w fun e w' => e = .returned (.bool true) ∧ Below w.heap.size w w' := by
  refine (sameInts_any ao bo ca cb xs xs w hl hc hd).mono ?_
  rintro e w' ⟨rfl, hb⟩
  rw [eqNB_self]
  exact ⟨rfl, hb⟩

set_option maxHeartbeats 800000 in
theorem sameInts_draws (ao bo : Option Addr) (ca cb : Nat) (ss : List Int) (w : World) (hl : ss.length ≤ maxLen) (hc : Is w ao ss) (hd : Is w bo ss) :
    Calls Try.prog 39 #[.slice ao ss.length ca, .slice bo ss.length cb] w fun e w' => e = .returned (.bool true) ∧ ∃ m, w' = w.drewN m := by
  have HC := hide hc
  have HD := hide hd
  clear hc hd
  unfold maxLen at hl
  have hb : ((ss.length : Int) != (ss.length : Int)) = false := by simp
  go_enter Try.func39, Try.ntmps39
  go_wp2
  go_loopw [5] (fun i wr => ∃ (k n : Nat), k ≤ ss.length ∧ i = .int .i64 k ∧ wr = w.drewN n) (fun i _ => ss.length - (intOf i).toNat)
  case atStart => exact ⟨0, 0, Nat.zero_le _, rfl, rfl⟩
  case round =>
    obtain ⟨k, n, hk, rfl, rfl⟩ := hrel
    by_cases hlt : k < ss.length
    · obtain ⟨b, off, rfl, hc⟩ := (unhide HC) k hlt
      obtain ⟨b', off', rfl, hc'⟩ := (unhide HD) k hlt
      generalize ss[k] = X at *
      go_wp2
      go_quiet (fail)
      go_wp2
      go_roundw
      case rel => exact ⟨k + 1, _, by omega, by go_num, rfl⟩
      case measure => simp [intOf]; omega
    · go_wp2
      go_ret
      exact ⟨rfl, n, rfl⟩

set_option maxHeartbeats 3200000 in
theorem sameImage_same (a b : Im4) (m : Img) (w : World) (hr : m.refs.length ≤ maxLen) (ht : m.table.length ≤ maxLen) (hs : m.snaps.length ≤ maxLen) (hd : m.data.length ≤ maxLen) (h1 : ImS w a m) (h2 : ImS w b m) :
    Calls Try.prog 13 #[imV a m, imV b m] w fun e w' => e = .returned (.bool true) ∧ Below w.heap.size w w' := by
  have HA := hide (Joins.below_alloc2 w (.cells #[.slice a.ro m.refs.length a.rc, .slice a.tq m.table.length a.tc, .slice a.so m.snaps.length a.sc, .slice a.dq m.data.length a.dc] 26) (.cells #[.slice b.ro m.refs.length b.rc, .slice b.tq m.table.length b.tc, .slice b.so m.snaps.length b.sc, .slice b.dq m.data.length b.dc] 26))
  have HV : Hid (((w.alloc (.cells #[.slice a.ro m.refs.length a.rc, .slice a.tq m.table.length a.tc, .slice a.so m.snaps.length a.sc, .slice a.dq m.data.length a.dc] 26)).alloc (.cells #[.slice b.ro m.refs.length b.rc, .slice b.tq m.table.length b.tc, .slice b.so m.snaps.length b.sc, .slice b.dq m.data.length b.dc] 26)).heap[w.heap.size]? = some (.cells #[.slice a.ro m.refs.length a.rc, .slice a.tq m.table.length a.tc, .slice a.so m.snaps.length a.sc, .slice a.dq m.data.length a.dc] 26 (0, 0))) := hide (by rw [(Joins.below_alloc1 _ _).block _ (by simp)]; exact heap_alloc_new w _)
  have HU : Hid (((w.alloc (.cells #[.slice a.ro m.refs.length a.rc, .slice a.tq m.table.length a.tc, .slice a.so m.snaps.length a.sc, .slice a.dq m.data.length a.dc] 26)).alloc (.cells #[.slice b.ro m.refs.length b.rc, .slice b.tq m.table.length b.tc, .slice b.so m.snaps.length b.sc, .slice b.dq m.data.length b.dc] 26)).heap[w.heap.size + 1]? = some (.cells #[.slice b.ro m.refs.length b.rc, .slice b.tq m.table.length b.tc, .slice b.so m.snaps.length b.sc, .slice b.dq m.data.length b.dc] 26 (0, 0))) := hide (heap_alloc2_new w _ _)
  have H1 := hide (h1.below (unhide HA))
  have H2 := hide (h2.below (unhide HA))
  have HR := hide hr
  have HT := hide ht
  have HS := hide hs
  have HD := hide hd
  clear h1 h2 hr ht hs hd
  go_enter Try.func13, Try.ntmps13
  go_upto_region 1 with fail
  revert HA HV HU H1 H2
  generalize ((w.alloc _).alloc _) = W0
  intro HA HV HU H1 H2
  have HCELL : Hid (∀ W, Below W0.heap.size W0 W → (W.cell? ⟨w.heap.size, 0, none⟩ = some (.slice a.ro m.refs.length a.rc) ∧ W.cell? ⟨w.heap.size, 1, none⟩ = some (.slice a.tq m.table.length a.tc) ∧ W.cell? ⟨w.heap.size, 2, none⟩ = some (.slice a.so m.snaps.length a.sc) ∧ W.cell? ⟨w.heap.size, 3, none⟩ = some (.slice a.dq m.data.length a.dc)) ∧ W.cell? ⟨w.heap.size + 1, 0, none⟩ = some (.slice b.ro m.refs.length b.rc) ∧ W.cell? ⟨w.heap.size + 1, 1, none⟩ = some (.slice b.tq m.table.length b.tc) ∧ W.cell? ⟨w.heap.size + 1, 2, none⟩ = some (.slice b.so m.snaps.length b.sc) ∧ W.cell? ⟨w.heap.size + 1, 3, none⟩ = some (.slice b.dq m.data.length b.dc)) := hide (fun W hW => by
    have n1 := (hW.block w.heap.size (Array.getElem?_eq_some_iff.1 (unhide HV)).1).trans (unhide HV)
    have n2 := (hW.block (w.heap.size + 1) (Array.getElem?_eq_some_iff.1 (unhide HU)).1).trans (unhide HU)
    refine ⟨⟨?_, ?_, ?_, ?_⟩, ?_, ?_, ?_, ?_⟩ <;> first | (rw [Joins.cell_of_block n1]; rfl) | (rw [Joins.cell_of_block n2]; rfl))
  have HVV : Hid (∀ W, Below W0.heap.size W0 W → VarM W w.heap.size 26 (.slice a.ro m.refs.length a.rc) (.slice a.tq m.table.length a.tc) (.slice a.so m.snaps.length a.sc) (.slice a.dq m.data.length a.dc) ∧ VarM W (w.heap.size + 1) 26 (.slice b.ro m.refs.length b.rc) (.slice b.tq m.table.length b.tc) (.slice b.so m.snaps.length b.sc) (.slice b.dq m.data.length b.dc)) := hide (fun W hW => ⟨VarM.below (unhide HV) hW, VarM.below (unhide HU) hW⟩)
  clear HV HU
  obtain ⟨⟨c0, c1, c2, c3⟩, d0, d1, d2, d3⟩ := unhide HCELL _ (Below.refl _ W0)
  go_wp2_with fail
  refine (sameNums_same a.ro b.ro a.rc b.rc m.refs _ (unhide HR) (unhide H1).r (unhide H2).r).mono ?_
  rintro e w1 ⟨rfl, hb⟩
  have HB1 := hide hb
  clear hb c0 c1 c2 c3 d0 d1 d2 d3
  obtain ⟨⟨c0, c1, c2, c3⟩, d0, d1, d2, d3⟩ := unhide HCELL _ (unhide HB1)
  go_wp2_with fail
  refine (sameNums_same a.tq b.tq a.tc b.tc m.table _ (unhide HT) ((unhide H1).below (unhide HB1)).t ((unhide H2).below (unhide HB1)).t).mono ?_
  rintro e w2 ⟨rfl, hb⟩
  have HB2 := hide (fr (unhide HB1) hb)
  clear hb c0 c1 c2 c3 d0 d1 d2 d3
  obtain ⟨⟨c0, c1, c2, c3⟩, d0, d1, d2, d3⟩ := unhide HCELL _ (unhide HB2)
  go_wp2_with fail
  refine (sameNums_same a.dq b.dq a.dc b.dc m.data _ (unhide HD) ((unhide H1).below (unhide HB2)).d ((unhide H2).below (unhide HB2)).d).mono ?_
  rintro e w3 ⟨rfl, hb⟩
  have HB3 := hide (fr (unhide HB2) hb)
  clear hb c0 c1 c2 c3 d0 d1 d2 d3
  obtain ⟨⟨c0, c1, c2, c3⟩, d0, d1, d2, d3⟩ := unhide HCELL _ (unhide HB3)
  have hsm := unhide HS
  unfold maxLen at hsm
  go_wp2
  clear c0 c1 c2 c3 d0 d1 d2 d3
  go_loopw [5] (fun i wr => ∃ k : Nat, k ≤ m.snaps.length ∧ i = .int .i64 k ∧ Hid (Below W0.heap.size W0 wr)) (fun i _ => m.snaps.length - (intOf i).toNat)
  case atStart => exact ⟨0, Nat.zero_le _, rfl, HB3⟩
  case round =>
    clear HB1 HB2 HB3
    obtain ⟨k, hk, rfl, HB⟩ := hrel
    obtain ⟨⟨c0, c1, c2, c3⟩, d0, d1, d2, d3⟩ := unhide HCELL _ (unhide HB)
    by_cases hlt : k < m.snaps.length
    · obtain ⟨b1, o1, q1, p1, e1, hn1, ht1, i1, _, hm1⟩ := ((unhide H1).below (unhide HB)).s k hlt
      obtain ⟨b2, o2, q2, p2, e2, hn2, ht2, i2, _, _⟩ := ((unhide H2).below (unhide HB)).s k hlt
      have hki : (k : Int) < (m.snaps.length : Int) := by omega
      have HI1 := hide i1
      have HI2 := hide i2
      have HML := hide hm1
      have l1 := World.block_lt_of_cell? _ _ hn1
      have l2 := World.block_lt_of_cell? _ _ hn2
      rw [e1] at c2
      rw [e2] at d2
      have hne : (m.snaps[k].name.toList != m.snaps[k].name.toList) = false := by simp
      have HCALL : Hid (∀ n, Calls Try.prog 39 #[.slice q1 m.snaps[k].table.length p1, .slice q2 m.snaps[k].table.length p2] (wr.drewN n) fun e w' => e = .returned (.bool true) ∧ ∃ m, w' = (wr.drewN n).drewN m) := hide (fun n => sameInts_draws q1 q2 p1 p2 m.snaps[k].table (wr.drewN n) (unhide HML) ((unhide HI1).below (Joins.below_draws _ _ _)) ((unhide HI2).below (Joins.below_draws _ _ _)))
      clear e1 e2 i1 i2 hm1
      generalize m.snaps[k].table.length = TL at *
      generalize m.snaps[k].name = NM at *
      go_upto_region 6 with fail
      go_quiet ((go_at_call 39; refine Calls.quiet_of (unhide HCALL _)))
      have HB5 : Hid (Below W0.heap.size W0 (wr.drewN nq)) := hide ((unhide HB).trans (Joins.below_draws _ _ _))
      clear c0 c1 c2 c3 d0 d1 d2 d3 hn1 ht1 hn2 ht2 HCALL
      go_wp2
      go_roundw
      case rel => exact ⟨k + 1, by omega, by go_num, HB5⟩
      case measure => simp [intOf]; omega
    · go_wp2
      go_ret
      exact ⟨rfl, fr (unhide HA) (unhide HB)⟩

end Go.Proofs.Ytpdpnepnfhbonaa

namespace Go.Proofs.Ytpdpnepnfhbonaa
open Go.RowKit
set_option linter.unusedVariables false
set_option maxRecDepth 100000

structure ImA (W : World) (y : Nat) (a : Im4) (m : Img) : Prop where
  v : VarM W y 26 (.slice a.ro m.refs.length a.rc) (.slice a.tq m.table.length a.tc) (.slice a.so m.snaps.length a.sc) (.slice a.dq m.data.length a.dc)
  s : ImS W a m
theorem ImA.below {W W' : World} {y : Nat} {a : Im4} {m : Img} (h : ImA W y a m) (hb : Below W.heap.size W W') : ImA W' y a m := ⟨h.v.below hb, h.s.below hb⟩
theorem ImA.new {W : World} {a : Im4} {m : Img} (h : ImS W a m) : ImA (W.alloc (.cells #[.slice a.ro m.refs.length a.rc, .slice a.tq m.table.length a.tc, .slice a.so m.snaps.length a.sc, .slice a.dq m.data.length a.dc] 26)) W.heap.size a m := ⟨VarM.new _ _ _ _ _ _, h.below (Joins.below_alloc1 _ _)⟩
theorem ImR.L {m : Img} (h : ImR m) : ImL m := h.M.L
theorem OwnIm.showsR {w : World} {B : Nat} {a : Im4} {m : Img} {ts : List Value} (h : OwnIm w B a m ts) (hi : ImR m) : ImS w a m := h.shows hi.M.zs

theorem okA (a : Im4) (m : Img) (W : World) (h : ImR m) (hs : ImS W a m) :
    Calls Try.prog 14 #[imV a m] W fun e w' => e = .returned (.bool true) ∧ Below W.heap.size W w' := by
  have := imageOK_impl a m W h.L hs
  rw [imB_iff.2 h] at this
  exact this
theorem sameA (a b : Im4) (m : Img) (W : World) (h : ImR m) (h1 : ImS W a m) (h2 : ImS W b m) :
    Calls Try.prog 13 #[imV a m, imV b m] W fun e w' => e = .returned (.bool true) ∧ Below W.heap.size W w' := sameImage_same a b m W h.L.r h.L.t h.L.s h.L.d h1 h2

end Go.Proofs.Ytpdpnepnfhbonaa

namespace Go.Proofs.Ytpdpnepnfhbonaa
open Go.RowKit
set_option linter.unusedVariables false
set_option maxRecDepth 100000

theorem ImB_len {a : Im4} {m m' : Img} {ts : List Value} {g : Nat} (e1 : m'.refs.length = m.refs.length) (e2 : m'.table.length = m.table.length) (e3 : m'.snaps.length = m.snaps.length) (e4 : m'.data.length = m.data.length) (h : ImB a m' ts g) : ImB a m ts g := by
  unfold ImB at h ⊢
  rwa [e1, e2, e3, e4] at h
def raD (m : Img) (L : List Int) (k : Nat) : Img := { m with refs := (L.take k).foldl incr m.refs }
def RvU (ns : List Int) (lo hi : Int) : Prop := ∀ c (h : c < ns.length), lo ≤ ns[c] ∧ ns[c] ≤ hi
theorem RvU.up {ns : List Int} {lo hi : Int} (h : RvU ns lo hi) (c : Nat) (hc : c < ns.length) (hlo : lo ≤ hi) : RvU (incr ns c) lo (hi + 1) := by
  rw [incr_set]
  intro i hi'
  rw [List.length_set] at hi'
  rw [List.getElem_set]
  have := h i hi'
  by_cases e : c = i
  · have h2 : ns.getD c 0 = ns[i] := by simp [List.getD, e, hi']
    rw [if_pos e, h2]
    omega
  · rw [if_neg e]
    omega
structure RaJ (w W : World) (B : Nat) (a : Im4) (m m' : Img) (ts : List Value) : Prop where
  v : VarM W w.heap.size 26 (.slice a.ro m.refs.length a.rc) (.slice a.tq m.table.length a.tc) (.slice a.so m.snaps.length a.sc) (.slice a.dq m.data.length a.dc)
  r : VarM W (w.heap.size + 1) 26 (.slice none 0 0) (.slice none 0 0) (.slice none 0 0) (.slice none 0 0)
  o : OwnIm W B a m' ts
  k : Keep (fun g => ImB a m ts g ∨ w.heap.size ≤ g) w W
  e1 : m'.refs.length = m.refs.length
  e2 : m'.table.length = m.table.length
  e3 : m'.snaps.length = m.snaps.length
  e4 : m'.data.length = m.data.length

theorem RaJ.drew {w W : World} {B : Nat} {a : Im4} {m m' : Img} {ts : List Value} (h : RaJ w W B a m m' ts) : RaJ w W.drew B a m m' ts := ⟨h.v.below (Below.refl _ _).drew, h.r.below (Below.refl _ _).drew, h.o.below (Below.refl _ _).drew, h.k.trans (Keep.of_below (Below.refl _ _).drew), h.e1, h.e2, h.e3, h.e4⟩

set_option maxHeartbeats 3200000 in
theorem l10Raise_any (a : Im4) (m : Img) (ts : List Value) (B : Nat) (ao : Option Addr) (cap : Nat) (t : List Int) (w : World) (hr : m.refs.length = 24) (hv : RvU m.refs (-100) 100) (htb : tbB t = true) (hI : Is w ao t) (ho : OwnIm w B a m ts) :
    Calls Try.prog 83 #[imV a m, .slice ao t.length cap] w fun r w' => r = .returned (imV a m) ∧ OwnIm w' B a (imRaise m t) ts ∧ Keep (ImB a m ts) w w' := by
  have HA := hide (Joins.below_alloc2 w (.cells #[.slice a.ro m.refs.length a.rc, .slice a.tq m.table.length a.tc, .slice a.so m.snaps.length a.sc, .slice a.dq m.data.length a.dc] 26) (.cells #[.slice none 0 0, .slice none 0 0, .slice none 0 0, .slice none 0 0] 26))
  have HO := hide (ho.below (unhide HA))
  have HT := hide (hI.below (unhide HA))
  have HV := hide ((VarM.new w 26 (.slice a.ro m.refs.length a.rc) (.slice a.tq m.table.length a.tc) (.slice a.so m.snaps.length a.sc) (.slice a.dq m.data.length a.dc)).below (Joins.below_alloc1 _ (.cells #[.slice none 0 0, .slice none 0 0, .slice none 0 0, .slice none 0 0] 26)))
  have HR := hide ((VarM.new (w.alloc (.cells #[.slice a.ro m.refs.length a.rc, .slice a.tq m.table.length a.tc, .slice a.so m.snaps.length a.sc, .slice a.dq m.data.length a.dc] 26)) 26 (.slice none 0 0) (.slice none 0 0) (.slice none 0 0) (.slice none 0 0)).at (y := w.heap.size + 1) (by simp))
  have HGE : Hid (∀ g, ImB a m ts g → g < w.heap.size) := hide (fun g hg => (ho.ge g hg).2)
  have HRV := hide hv
  have HR24 := hide hr
  have HIN : Hid (∀ j (h : j < t.length), -1000 ≤ t[j] ∧ t[j] ≤ 1000) := hide (fun j h => by have := tbB_at htb j h; omega)
  have HTX := hide (tbB_len htb)
  have HCI := hide (clA_in htb)
  have HCL := hide (clA_len htb)
  have HRA : Hid (imRaise m t = raD m (clA t) (clA t).length) := hide (by rw [raD, List.take_length]; rfl)
  clear ho hI hv htb hr
  go_enter Try.func83, Try.ntmps83
  go_upto_region 1 with fail
  revert HA HO HT HV HR
  generalize ((w.alloc _).alloc _) = W0
  intro HA HO HT HV HR
  go_wp2_with fail
  refine (l09Clusters_any ao cap t _ (by have := unhide HTX; omega) (unhide HIN) (unhide HT)).mono ?_
  rintro e w1 ⟨v, rfl, ⟨lo, la, rfl, hol⟩, hb1⟩
  have HJ0 : Hid (RaJ w w1 B a m (raD m (clA t) 0) ts) := hide ⟨(unhide HV).below hb1, (unhide HR).below hb1, (unhide HO).below hb1, Keep.of_below (fr (unhide HA) hb1), rfl, rfl, rfl, rfl⟩
  have HL := hide hol
  have HLG : Hid (w.heap.size ≤ W0.heap.size) := hide (unhide HA).size
  clear hol hb1 HV HR HO HT HA
  generalize W0.heap.size = n0 at *
  generalize clA t = L at *
  have hl12 := unhide HCL
  go_wp2
  go_loopw [6] (fun i wr => ∃ k : Nat, k ≤ L.length ∧ i = .int .i64 k ∧ Hid (RaJ w wr B a m (raD m L k) ts) ∧ Hid (RvU (raD m L k).refs (-100) (100 + k)) ∧ Hid (Keep (ImB a m ts) w1 wr)) (fun i _ => L.length - (intOf i).toNat)
  case atStart => exact ⟨0, Nat.zero_le _, rfl, HJ0, hide (by simpa [raD] using unhide HRV), hide (Keep.refl _ _)⟩
  case round =>
    clear HJ0
    obtain ⟨k, hk, rfl, HJ, HU, HK⟩ := hrel
    obtain ⟨c0, c1, c2, c3⟩ := (unhide HJ).v.cells
    by_cases hlt : k < L.length
    · have hlti : (k : Int) < (L.length : Int) := by omega
      have HLk := hide ((unhide HL).keep (unhide HK) (fun g hg hx => by have h1 := ((unhide HL).ge g hg).1; have h2 := unhide HGE g hx; have := unhide HLG; omega))
      obtain ⟨bl, ol, rfl, hcl⟩ := (ownRN (unhide HLk)) k hlt
      obtain ⟨l0, l1⟩ := unhide HCI k hlt
      obtain ⟨c, hcc⟩ := Int.eq_ofNat_of_zero_le l0
      rw [hcc] at hcl
      have hc24 : c < 24 := by omega
      have hc24i : (c : Int) < (m.refs.length : Int) := by have := unhide HR24; omega
      have HST : Hid (raD m L (k + 1) = { raD m L k with refs := incr (raD m L k).refs (c : Int) }) := hide (by
        simp only [raD]
        rw [incr_take hlt, hcc])
      clear hcc l0 l1
      generalize hDD : raD m L k = D at *
      have HDD := hide hDD
      clear hDD
      have hcD : c < D.refs.length := by rw [(unhide HJ).e1]; have := unhide HR24; omega
      obtain ⟨x0, x1⟩ := (unhide HU) c hcD
      obtain ⟨g, eg, hcg, hfg, hig, hst⟩ := (unhide HJ).o.setR hcD
      have hig' : ImB a m ts g := ImB_len (unhide HJ).e1 (unhide HJ).e2 (unhide HJ).e3 (unhide HJ).e4 hig
      have hne1 : w.heap.size ≠ g := by have := unhide HGE g hig'; omega
      have hne2 : w.heap.size + 1 ≠ g := by have := unhide HGE g hig'; omega
      have e : incr D.refs (c : Int) = D.refs.set c (D.refs[c] + 1) := by rw [incr_set]; simp [List.getD, hcD]
      have HJN : Hid (RaJ w (wr.setCell ⟨g, c, none⟩ (.int .i64 (D.refs[c] + 1))) B a m (raD m L (k + 1)) ts) := hide (by
        rw [unhide HST, e]
        exact ⟨(unhide HJ).v.other (p := ⟨g, c, none⟩) hne1 _, (unhide HJ).r.other (p := ⟨g, c, none⟩) hne2 _, hst _, (unhide HJ).k.setCell (p := ⟨g, c, none⟩) (.inl hig') _, by simpa using (unhide HJ).e1, (unhide HJ).e2, (unhide HJ).e3, (unhide HJ).e4⟩)
      have HUN : Hid (RvU (raD m L (k + 1)).refs (-100) (100 + (k + 1 : Nat))) := hide (by
        rw [unhide HST]
        have := (unhide HU).up c hcD (by omega)
        exact fun i hi => ⟨(this i hi).1, Int.le_trans (this i hi).2 (by omega)⟩)
      have HKN := hide ((unhide HK).setCell (p := ⟨g, c, none⟩) hig' (.int .i64 (D.refs[c] + 1)))
      rw [eg] at c0
      clear eg hst hig hig' hne1 hne2 e
      generalize D.refs[c] = X at *
      have hw1 : IntKind.i64.wrap (X + 1) = X + 1 := by rw [IntKind.wrap_i64]; omega
      go_wp2
      go_region
      all_goals
        go_wp2
        go_roundw
        case rel => exact ⟨k + 1, by omega, by go_num, hide (RaJ.drew (unhide HJN)), HUN, hide ((unhide HKN).trans (Keep.of_below (Below.refl _ _).drew))⟩
        case measure => simp [intOf]; omega
    · have hkl : k = L.length := by omega
      subst hkl
      obtain ⟨r0, r1, r2, r3⟩ := (unhide HJ).r.cells
      obtain ⟨z0, z1, z2, z3⟩ := (unhide HJ).r.free
      have HKF : Hid (Keep (fun g => ImB a m ts g ∨ w.heap.size ≤ g) w ((((wr.setCell ⟨w.heap.size + 1, 0, none⟩ (.slice a.ro m.refs.length a.rc)).setCell ⟨w.heap.size + 1, 1, none⟩ (.slice a.tq m.table.length a.tc)).setCell ⟨w.heap.size + 1, 2, none⟩ (.slice a.so m.snaps.length a.sc)).setCell ⟨w.heap.size + 1, 3, none⟩ (.slice a.dq m.data.length a.dc))) := hide
        (((((unhide HJ).k.setCell (p := ⟨w.heap.size + 1, 0, none⟩) (.inr (Nat.le_succ _)) _).setCell (p := ⟨w.heap.size + 1, 1, none⟩) (.inr (Nat.le_succ _)) _).setCell (p := ⟨w.heap.size + 1, 2, none⟩) (.inr (Nat.le_succ _)) _).setCell (p := ⟨w.heap.size + 1, 3, none⟩) (.inr (Nat.le_succ _)) _)
      have HVN := hide ((((unhide HJ).r.set0 (.slice a.ro m.refs.length a.rc)).set1 (.slice a.tq m.table.length a.tc)).set2 (.slice a.so m.snaps.length a.sc) |>.set3 (.slice a.dq m.data.length a.dc))
      have HON := hide ((unhide HJ).o.keep (S := fun g => g = w.heap.size + 1) (((((Keep.refl (fun g => g = w.heap.size + 1) wr).setCell (p := ⟨w.heap.size + 1, 0, none⟩) rfl (.slice a.ro m.refs.length a.rc)).setCell (p := ⟨w.heap.size + 1, 1, none⟩) rfl (.slice a.tq m.table.length a.tc)).setCell (p := ⟨w.heap.size + 1, 2, none⟩) rfl (.slice a.so m.snaps.length a.sc)).setCell (p := ⟨w.heap.size + 1, 3, none⟩) rfl (.slice a.dq m.data.length a.dc)) (fun g hg he => by have := unhide HGE g (ImB_len (unhide HJ).e1 (unhide HJ).e2 (unhide HJ).e3 (unhide HJ).e4 hg); omega))
      go_wp2
      refine bodyPost_ret (res_im Try.results83 rfl (unhide HVN)) rfl ⟨rfl, ?_, ?_⟩
      · rw [unhide HRA]; exact unhide HON
      · exact keep_im (unhide HKF) (unhide HGE)

end Go.Proofs.Ytpdpnepnfhbonaa

namespace Go.Proofs.Ytpdpnepnfhbonaa
open Go.RowKit
set_option linter.unusedVariables false

section
variable {P : Program} {Q : Exit → Act → World → Prop} {S S' : World → Prop} {C : Act → World → Prop} {l : List Oper} {hl : List Nat}

def wpAnyR (P : Program) (l : List Oper) (Q : Exit → Act → World → Prop) (S : World → Prop) (hl : List Nat) : Nat → Array Bool → Act → World → Prop
  | 0, listed, a, w => Region.ready .any l.toArray listed = [] ∧ Q .normal a w
  | fuel + 1, listed, a, w =>
    (Region.ready .any l.toArray listed = [] → Q .normal a w) ∧
    ∀ i ∈ Region.ready .any l.toArray listed, wpOp P l.toArray Q i (fun a' w' => (i ∈ hl → S w') ∧ wpAnyR P l Q S hl fuel (listed.setIfInBounds i true) a' w') a w
theorem wpAny_of_R : ∀ (fuel : Nat) (listed : Array Bool) (a : Act) (w : World), wpAnyR P l Q S hl fuel listed a w → wpAny P .any l.toArray Q fuel listed a w
  | 0, _, _, _, h => h
  | fuel + 1, _, _, _, h => ⟨h.1, fun i hi => wpOp_mono (fun a' w' h' => wpAny_of_R fuel _ a' w' h'.2) (h.2 i hi)⟩

abbrev lsD (listed : Array Bool) : Nat → Bool := fun j => listed.getD j false
theorem closed_set {listed : Array Bool} {i : Nat} (hc : Closed l (lsD listed)) (hi : i ∈ Region.ready .any l.toArray listed) : Closed l (lsD (listed.setIfInBounds i true)) := by
  intro j o ho hd e he hb
  by_cases hji : j = i
  · subst hji
    obtain ⟨_, o', ho', hp⟩ := mem_ready.1 hi
    have h2 : l.toArray[j]? = l[j]? := by simp
    rw [h2, ho] at ho'
    cases ho'
    exact getD_set_true (hp e he hb)
  · have : lsD listed j = true := by
      have hd' : (listed.setIfInBounds i true).getD j false = true := hd
      rwa [getD_set_ne false (Ne.symm hji)] at hd'
    exact getD_set_true (hc j o ho this e he hb)
def Anc (l : List Oper) (j i : Nat) : Prop := ∀ d : Nat → Bool, Closed l d → d j = true → d i = true
theorem rg_unlisted {listed : Array Bool} {i : Nat} (h : listed.getD i true = false) : i < listed.size ∧ listed.getD i false = false := by
  rw [Array.getD_eq_getD_getElem?] at h ⊢
  by_cases hi : i < listed.size
  · rw [Array.getElem?_eq_getElem hi] at h ⊢
    exact ⟨hi, by simpa using h⟩
  · rw [Array.getElem?_eq_none (Nat.le_of_not_lt hi)] at h
    simp at h
theorem ready_anc {listed : Array Bool} {i j : Nat} (hc : Closed l (lsD listed)) (hj : j ∈ Region.ready .any l.toArray listed) (hr : Anc l j i) (hne : j ≠ i) (hi : listed.getD i true = false) : False := by
  have h1 := (mem_ready.1 hj).1
  have h2 := hr _ (closed_set hc hj) (by
    show (listed.setIfInBounds j true).getD j false = true
    have := (rg_unlisted h1).1
    simp [Array.getD_eq_getD_getElem?, this])
  have h3 : (listed.setIfInBounds j true).getD i false = true := h2
  rw [getD_set_ne false hne, (rg_unlisted hi).2] at h3
  cases h3

theorem wpAnyR_first {i : Nat} {oi : Oper} {v : Value} (hi : l.toArray[i]? = some oi) (hsel : ∀ (j : Nat) (o : Oper) cs b, l.toArray[j]? = some o → o.op ≠ .select cs b)
    (hQ : ∀ c a w, Q (.panic c) (a.put oi.dst v) w → Q (.panic c) a w) (hSS : ∀ w, S w → S' w) (hst : ∀ j, j < l.length → j ∉ hl → j ≠ i → Anc l j i ∨ ((∀ w, S' w) ∧ i ∉ hl)) :
    ∀ (fuel : Nat) (listed : Array Bool) (a : Act) (w : World), Closed l (lsD listed) →
      (∀ j oj, l.toArray[j]? = some oj → j ≠ i → listed.getD j true = false → (∀ e ∈ oj.after, Region.binds .any e = true → e.on ≠ i) → oi.apart l.toArray oj = true) →
      i ∈ Region.ready .any l.toArray listed → YieldsIf P l.toArray S' oi v a → S' w → (i ∈ hl → S w) →
      wpAnyR P l Q S hl fuel (listed.setIfInBounds i true) (a.put oi.dst v) w → wpAnyR P l Q S hl (fuel + 1) listed a w := by
  intro fuel
  induction fuel with
  | zero =>
    intro listed a w hc _ hr hy hS hSw H
    refine ⟨fun h => (by rw [h] at hr; cases hr), fun j hj => ?_⟩
    by_cases hji : j = i
    · subst hji; exact hy.wpOp hi hS ⟨hSw, H⟩
    · have := ready_mono hj hji
      rw [H.1] at this
      cases this
  | succ fuel ih =>
    intro listed a w hc hfree hr hy hS hSw H
    refine ⟨fun h => (by rw [h] at hr; cases hr), fun j hj => ?_⟩
    by_cases hji : j = i
    · subst hji; exact hy.wpOp hi hS ⟨hSw, H⟩
    · have h1 := H.2 j (ready_mono hj hji)
      obtain ⟨hjun, oj, hoj, hall⟩ := mem_ready.1 hj
      have hiun := (mem_ready.1 hr).1
      have hnot : ∀ e ∈ oj.after, Region.binds .any e = true → e.on ≠ i := fun e he hb heq => by
        have h1 := hall e he hb
        rw [heq, (rg_unlisted hiun).2] at h1
        cases h1
      have h2 := wpOp_putIf hoj (hfree j oj hoj hji hjun hnot) (fun cs b => hsel i oi cs b hi) (fun cs b => hsel j oj cs b hoj) hQ hy h1
      have hfree' : ∀ k ok, l.toArray[k]? = some ok → k ≠ i → (listed.setIfInBounds j true).getD k true = false →
          (∀ e ∈ ok.after, Region.binds .any e = true → e.on ≠ i) → oi.apart l.toArray ok = true := fun k ok hk hki hun hno => by
        refine hfree k ok hk hki ?_ hno
        by_cases hjk : j = k
        · subst hjk; exact hjun
        · rw [getD_set_ne true hjk] at hun; exact hun
      have hjl : j < l.length := by have := (Array.getElem?_eq_some_iff.1 hoj).1; simpa using this
      have hkey : ∀ w', (j ∈ hl → S w') → S' w' ∧ (i ∈ hl → S w') := fun w' h => by
        by_cases hjh : j ∈ hl
        · exact ⟨hSS _ (h hjh), fun _ => h hjh⟩
        · rcases hst j hjl hjh hji with h5 | h5
          · exact (ready_anc hc hj h5 hji hiun).elim
          · exact ⟨h5.1 _, fun h6 => absurd h6 h5.2⟩
      refine wpOp_mono (fun a' w' h3 => ⟨h3.2.1, ih (listed.setIfInBounds j true) a' w' (closed_set hc hj) hfree' (ready_mono hr (Ne.symm hji)) h3.1 (hkey w' h3.2.1).1 (hkey w' h3.2.1).2 ?_⟩) h2
      rw [Array.setIfInBounds_comm _ _ hji]
      exact h3.2.2

def ancGo : List Oper → List (List Nat) → List (List Nat)
  | [], acc => acc
  | o :: r, acc => ancGo r (acc ++ [(o.after.toList.flatMap fun e => if Region.binds .any e then e.on :: acc.getD e.on [] else []).eraseDups])
def ancs (l : List Oper) : List (List Nat) := ancGo l []
theorem ancGo_spec (L : List Oper) : ∀ (r : List Oper) (acc : List (List Nat)), (∀ k, r[k]? = L[acc.length + k]?) → (∀ j, ∀ i ∈ acc.getD j [], Anc L j i) → ∀ j, ∀ i ∈ (ancGo r acc).getD j [], Anc L j i
  | [], acc, _, h => h
  | o :: r, acc, hr, h => by
    unfold ancGo
    refine ancGo_spec L r _ (fun k => ?_) (fun j i hi => ?_)
    · have := hr (k + 1)
      rw [List.length_append, List.length_singleton, Nat.add_assoc, Nat.add_comm 1 k]
      simpa using this
    · by_cases hj : j < acc.length
      · rw [List.getD_eq_getElem?_getD, List.getElem?_append_left hj, ← List.getD_eq_getElem?_getD] at hi
        exact h j i hi
      · by_cases hj2 : j = acc.length
        · subst hj2
          rw [List.getD_eq_getElem?_getD, List.getElem?_append_right (Nat.le_refl _), Nat.sub_self] at hi
          simp only [List.getElem?_cons_zero, Option.getD_some, List.mem_eraseDups, List.mem_flatMap] at hi
          obtain ⟨e, he, hie⟩ := hi
          have ho : L[acc.length]? = some o := by have := hr 0; simpa using this.symm
          intro d hc hd
          by_cases hb : Region.binds .any e = true
          · rw [if_pos hb] at hie
            have h1 := hc _ o ho hd e (by simpa using he) hb
            rcases List.mem_cons.1 hie with rfl | hie
            · exact h1
            · exact h e.on i hie d hc h1
          · rw [if_neg hb] at hie
            cases hie
        · rw [List.getD_eq_getElem?_getD, List.getElem?_eq_none (by rw [List.length_append, List.length_singleton]; omega)] at hi
          simp at hi
theorem ancs_spec {l : List Oper} {j i : Nat} (h : ((ancs l).getD j []).contains i = true) : Anc l j i :=
  ancGo_spec l l [] (fun k => by simp) (fun j i hi => by simp at hi) j i (by simpa [ancs] using h)

def rgFrB (l : List Oper) (listed : Array Bool) (i : Nat) : Bool := (Region.ready .any l.toArray listed).contains i && Region.free .any l.toArray listed i
def rgStB (l : List Oper) (hl : List Nat) (i : Nat) : Bool := (List.range l.length).all fun j => hl.contains j || j == i || ((ancs l).getD j []).contains i
def rgOrdB (l : List Oper) (hl : List Nat) : List (Nat × Nat) → Array Bool → Bool
  | [], _ => true
  | (i, k) :: r, listed => (match k with
      | 0 => rgFrB l listed i && rgStB l hl i
      | 2 => hl.contains i && (Region.ready .any l.toArray listed == [i])
      | 3 => !hl.contains i && (Region.ready .any l.toArray listed == [i])
      | 4 => !hl.contains i && rgFrB l listed i
      | 5 => rgFrB l listed i && rgStB l hl i
      | _ => !hl.contains i && rgFrB l listed i) && rgOrdB l hl r (listed.setIfInBounds i true)
def rgSet : List (Nat × Nat) → Array Bool → Array Bool
  | [], listed => listed
  | (i, _) :: r, listed => rgSet r (listed.setIfInBounds i true)
def wpOrd (P : Program) (l : List Oper) (Q : Exit → Act → World → Prop) (S : World → Prop) (C : Act → World → Prop) : List (Nat × Nat) → Act → World → Prop
  | [], a, w => C a w
  | (i, k) :: r, a, w => ∀ o, l[i]? = some o → match k with
      | 0 => Region.wanted o (yielded l.toArray a.tmps) = true ∧ S w ∧ ∃ v, (∀ w', S w' → (execOp a.eval o).run P w' = .ok (.value v) w') ∧ wpOrd P l Q S C r (a.put o.dst v) w
      | 2 => Region.wanted o (yielded l.toArray a.tmps) = true ∧ o.wp P a w (fun a' w' => S w' ∧ wpOrd P l Q S C r a' w') Q
      | 3 => Region.wanted o (yielded l.toArray a.tmps) = true ∧ o.wp P a w (wpOrd P l Q S C r) Q
      | 4 => Region.wanted o (yielded l.toArray a.tmps) = true ∧ ∃ v, (∀ w', (execOp a.eval o).run P w' = .ok (.value v) w') ∧ wpOrd P l Q S C r (a.put o.dst v) w
      | 5 => Region.wanted o (yielded l.toArray a.tmps) = false ∧ S w ∧ wpOrd P l Q S C r (a.put o.dst undef) w
      | _ => Region.wanted o (yielded l.toArray a.tmps) = false ∧ wpOrd P l Q S C r (a.put o.dst undef) w
theorem rgSt_spec {i : Nat} (h : rgStB l hl i = true) : ∀ j, j < l.length → j ∉ hl → j ≠ i → Anc l j i := fun j hj hh hne => by
  have := List.all_eq_true.1 h j (List.mem_range.2 hj)
  simp only [Bool.or_eq_true, List.contains_iff_mem, beq_iff_eq] at this
  rcases this with (h1 | h1) | h1
  · exact absurd h1 hh
  · exact absurd h1 hne
  · exact ancs_spec (by simpa using h1)
theorem anyR_of_ord (hs : Region.noSelect l.toArray = true) (hQ : ∀ c a w, Q (.panic c) a w → False) (fuel : Nat) : ∀ (ord : List (Nat × Nat)) (listed : Array Bool) (a : Act) (w : World), Closed l (lsD listed) → rgOrdB l hl ord listed = true → wpOrd P l Q S (fun a w => Closed l (lsD (rgSet ord listed)) → wpAnyR P l Q S hl fuel (rgSet ord listed) a w) ord a w → wpAnyR P l Q S hl (ord.length + fuel) listed a w
  | [], listed, a, w, hc, hB, h => by simpa [rgSet] using h hc
  | (i, k) :: r, listed, a, w, hc, hB, h => by
    rw [show ((i, k) :: r).length + fuel = (r.length + fuel) + 1 by simp only [List.length_cons]; omega]
    have hrs : rgSet ((i, k) :: r) listed = rgSet r (listed.setIfInBounds i true) := rfl
    rw [hrs] at h
    obtain ⟨C, hC⟩ : ∃ C, C = (fun a w => Closed l (lsD (rgSet r (listed.setIfInBounds i true))) → wpAnyR P l Q S hl fuel (rgSet r (listed.setIfInBounds i true)) a w) := ⟨_, rfl⟩
    rw [← hC] at h
    unfold rgOrdB at hB
    rw [Bool.and_eq_true] at hB
    obtain ⟨hB1, hB2⟩ := hB
    have hone : ∀ (hrd : Region.ready .any l.toArray listed = [i]) (hw : ∀ o, l[i]? = some o → Region.wanted o (yielded l.toArray a.tmps) = true ∧ o.wp P a w (fun a' w' => (i ∈ hl → S w') ∧ wpOrd P l Q S C r a' w') Q), wpAnyR P l Q S hl (r.length + fuel + 1) listed a w := by
      intro hrd hw
      refine ⟨fun h0 => (by rw [hrd] at h0; cases h0), fun j hj => ?_⟩
      have hji : j = i := by rw [hrd] at hj; simpa using hj
      subst hji
      obtain ⟨_, o, ho, _⟩ := mem_ready.1 hj
      have ho' : l[j]? = some o := by simpa using ho
      obtain ⟨h1, h2⟩ := hw o ho'
      unfold wpOp
      simp only [ho]
      rw [if_pos h1]
      exact .inl (Oper.wp_mono (fun a' w' h3 => ⟨h3.1, anyR_of_ord hs hQ fuel r _ a' w' (closed_set hc hj) hB2 (hC ▸ h3.2)⟩) h2)
    have hfirst : ∀ (v : Value) (S' : World → Prop) (hf : rgFrB l listed i = true) (hSS : ∀ w, S w → S' w) (hst : ∀ j, j < l.length → j ∉ hl → j ≠ i → Anc l j i ∨ ((∀ w, S' w) ∧ i ∉ hl)) (hS' : S' w) (hSw : i ∈ hl → S w)
        (hy : ∀ o, l[i]? = some o → YieldsIf P l.toArray S' o v a ∧ wpOrd P l Q S C r (a.put o.dst v) w), wpAnyR P l Q S hl (r.length + fuel + 1) listed a w := by
      intro v S' hf hSS hst hS' hSw hy
      unfold rgFrB at hf
      rw [Bool.and_eq_true] at hf
      have hir : i ∈ Region.ready .any l.toArray listed := by simpa using hf.1
      obtain ⟨_, o, ho, _⟩ := mem_ready.1 hir
      have ho' : l[i]? = some o := by simpa using ho
      obtain ⟨h1, h2⟩ := hy o ho'
      exact wpAnyR_first ho (Region.noSelect_spec hs) (fun c a w h => (hQ _ _ _ h).elim) hSS hst (r.length + fuel) listed a w hc (Region.free_spec ho hf.2) hir h1 hS' hSw (anyR_of_ord hs hQ fuel r _ _ _ (closed_set hc hir) hB2 (hC ▸ h2))
    match k, hB1, h with
    | 0, hB1, h =>
      simp only [Bool.and_eq_true] at hB1
      have hir : i ∈ Region.ready .any l.toArray listed := by have := hB1.1; unfold rgFrB at this; rw [Bool.and_eq_true] at this; simpa using this.1
      obtain ⟨_, o, ho, _⟩ := mem_ready.1 hir
      have ho' : l[i]? = some o := by simpa using ho
      obtain ⟨h1, h2, v, h3, h4⟩ := h o ho'
      exact hfirst v S hB1.1 (fun _ h => h) (fun j a b c => .inl (rgSt_spec hB1.2 j a b c)) h2 (fun _ => h2) (fun o2 ho2 => by
        rw [ho'] at ho2
        cases ho2
        exact ⟨.inl ⟨h1, h3⟩, h4⟩)
    | 1, hB1, h =>
      simp only [Bool.and_eq_true, Bool.not_eq_true'] at hB1
      exact hfirst undef (fun _ => True) hB1.2 (fun _ _ => trivial) (fun _ _ _ _ => .inr ⟨fun _ => trivial, by simpa using hB1.1⟩) trivial (fun h6 => absurd h6 (by simpa using hB1.1)) (fun o ho => ⟨.inr ⟨(h o ho).1, rfl⟩, (h o ho).2⟩)
    | 2, hB1, h =>
      simp only [Bool.and_eq_true, beq_iff_eq] at hB1
      exact hone hB1.2 (fun o ho => ⟨(h o ho).1, Oper.wp_mono (fun a' w' h3 => ⟨fun _ => h3.1, h3.2⟩) (h o ho).2⟩)
    | 3, hB1, h =>
      simp only [Bool.and_eq_true, beq_iff_eq, Bool.not_eq_true'] at hB1
      exact hone hB1.2 (fun o ho => ⟨(h o ho).1, Oper.wp_mono (fun a' w' h3 => ⟨fun h6 => absurd h6 (by simpa using hB1.1), h3⟩) (h o ho).2⟩)
    | 4, hB1, h =>
      simp only [Bool.and_eq_true, Bool.not_eq_true'] at hB1
      have hir : i ∈ Region.ready .any l.toArray listed := by have := hB1.2; unfold rgFrB at this; rw [Bool.and_eq_true] at this; simpa using this.1
      obtain ⟨_, o, ho, _⟩ := mem_ready.1 hir
      have ho' : l[i]? = some o := by simpa using ho
      obtain ⟨h1, v, h3, h4⟩ := h o ho'
      exact hfirst v (fun _ => True) hB1.2 (fun _ _ => trivial) (fun _ _ _ _ => .inr ⟨fun _ => trivial, by simpa using hB1.1⟩) trivial (fun h6 => absurd h6 (by simpa using hB1.1)) (fun o2 ho2 => by
        rw [ho'] at ho2
        cases ho2
        exact ⟨.inl ⟨h1, fun w' _ => h3 w'⟩, h4⟩)
    | 5, hB1, h =>
      simp only [Bool.and_eq_true] at hB1
      have hir : i ∈ Region.ready .any l.toArray listed := by have := hB1.1; unfold rgFrB at this; rw [Bool.and_eq_true] at this; simpa using this.1
      obtain ⟨_, o, ho, _⟩ := mem_ready.1 hir
      have ho' : l[i]? = some o := by simpa using ho
      obtain ⟨h1, h2, h4⟩ := h o ho'
      exact hfirst undef S hB1.1 (fun _ h => h) (fun j a b c => .inl (rgSt_spec hB1.2 j a b c)) h2 (fun _ => h2) (fun o2 ho2 => by
        rw [ho'] at ho2
        cases ho2
        exact ⟨.inr ⟨h1, rfl⟩, h4⟩)
    | n + 6, hB1, h =>
      simp only [Bool.and_eq_true, Bool.not_eq_true'] at hB1
      exact hfirst undef (fun _ => True) hB1.2 (fun _ _ => trivial) (fun _ _ _ _ => .inr ⟨fun _ => trivial, by simpa using hB1.1⟩) trivial (fun h6 => absurd h6 (by simpa using hB1.1)) (fun o ho => ⟨.inr ⟨(h o ho).1, rfl⟩, (h o ho).2⟩)

theorem closed_none (n : Nat) : Closed l (lsD (Array.replicate n false)) := fun j o _ hd => by
  have hd' : (Array.replicate n false).getD j false = true := hd
  rw [Array.getD_eq_getD_getElem?, Array.getElem?_replicate] at hd'
  split at hd' <;> simp at hd'
theorem ord_imp {C' : Act → World → Prop} (hC : ∀ a w, C a w → C' a w) : ∀ (ord : List (Nat × Nat)) (a : Act) (w : World), wpOrd P l Q S C ord a w → wpOrd P l Q S C' ord a w
  | [], a, w, h => hC a w h
  | (i, k) :: r, a, w, h => fun o ho => by
    have h1 := h o ho
    match k, h1 with
    | 0, h1 => exact ⟨h1.1, h1.2.1, h1.2.2.imp fun v hv => ⟨hv.1, ord_imp hC r _ _ hv.2⟩⟩
    | 1, h1 => exact ⟨h1.1, ord_imp hC r _ _ h1.2⟩
    | 2, h1 => exact ⟨h1.1, Oper.wp_mono (fun a' w' h3 => ⟨h3.1, ord_imp hC r _ _ h3.2⟩) h1.2⟩
    | 3, h1 => exact ⟨h1.1, Oper.wp_mono (fun a' w' h3 => ord_imp hC r _ _ h3) h1.2⟩
    | 4, h1 => exact ⟨h1.1, h1.2.imp fun v hv => ⟨hv.1, ord_imp hC r _ _ hv.2⟩⟩
    | 5, h1 => exact ⟨h1.1, h1.2.1, ord_imp hC r _ _ h1.2.2⟩
    | n + 6, h1 => exact ⟨h1.1, ord_imp hC r _ _ h1.2⟩
theorem wp_region_ord {id : Nat} {a : Act} {w : World} (S : World → Prop) (hl : List Nat) (ord : List (Nat × Nat)) (hm : P.follows .mixedOrders = true) (hs : Region.noSelect l.toArray = true) (hn : ord.length = l.length) (hB : (rgOrdB l hl ord (Array.replicate l.length false) && (Region.ready .any l.toArray (rgSet ord (Array.replicate l.length false))).isEmpty) = true)
    (h : wpOrd P l (NoPanic Q) S (fun a w => NoPanic Q .normal a w) ord a w.drew) : (Code.region id l.toArray true).wp P Q a w := by
  refine wp_region_noPanic (wp_region_any hm (wpAny_of_R (S := S) (hl := hl) _ _ _ _ ?_))
  rw [Bool.and_eq_true] at hB
  have := anyR_of_ord (P := P) (Q := NoPanic Q) (S := S) (hl := hl) hs (fun _ _ _ h => h) 0 ord _ a w.drew (closed_none _) hB.1 (ord_imp (fun a w h _ => ⟨by simpa using hB.2, h⟩) ord _ _ h)
  rw [Nat.add_zero, hn] at this
  simpa using this
theorem ord_read {i : Nat} {o : Oper} {r : List (Nat × Nat)} {a : Act} {w : World} (v : Value) (ho : l[i]? = some o) (hg : o.guard = none) (hS : S w) (hv : ∀ w', S w' → (execOp a.eval o).run P w' = .ok (.value v) w') (h : wpOrd P l Q S C r (a.put o.dst v) w) : wpOrd P l Q S C ((i, 0) :: r) a w := by
  intro o2 ho2
  rw [ho] at ho2
  cases ho2
  exact ⟨by simp [Region.wanted, hg], hS, v, hv, h⟩
theorem ord_val {i : Nat} {o : Oper} {r : List (Nat × Nat)} {a : Act} {w : World} (v : Value) (ho : l[i]? = some o) (hg : o.guard = none) (hv : ∀ w', (execOp a.eval o).run P w' = .ok (.value v) w') (h : wpOrd P l Q S C r (a.put o.dst v) w) : wpOrd P l Q S C ((i, 4) :: r) a w := by
  intro o2 ho2
  rw [ho] at ho2
  cases ho2
  exact ⟨by simp [Region.wanted, hg], v, hv, h⟩
theorem ord_held {i : Nat} {o : Oper} {r : List (Nat × Nat)} {a : Act} {w : World} (ho : l[i]? = some o) (hg : o.guard = none) (h : ∀ K : Act → World → Prop, (∀ a' w', S w' → wpOrd P l Q S C r a' w' → K a' w') → o.wp P a w K Q) : wpOrd P l Q S C ((i, 2) :: r) a w := by
  intro o2 ho2
  rw [ho] at ho2
  cases ho2
  exact ⟨by simp [Region.wanted, hg], h _ (fun a' w' h1 h2 => ⟨h1, h2⟩)⟩
theorem ord_alone {i : Nat} {o : Oper} {r : List (Nat × Nat)} {a : Act} {w : World} (ho : l[i]? = some o) (hg : o.guard = none) (h : ∀ K : Act → World → Prop, (∀ a' w', wpOrd P l Q S C r a' w' → K a' w') → o.wp P a w K Q) : wpOrd P l Q S C ((i, 3) :: r) a w := by
  intro o2 ho2
  rw [ho] at ho2
  cases ho2
  exact ⟨by simp [Region.wanted, hg], h _ (fun a' w' h2 => h2)⟩
theorem ord_done {a : Act} {w : World} (h : Q .normal a w) : wpOrd P l (NoPanic Q) S (fun a w => NoPanic Q .normal a w) [] a w := h
end

end Go.Proofs.Ytpdpnepnfhbonaa

namespace Go.Proofs.Ytpdpnepnfhbonaa
open Go.RowKit
set_option linter.unusedVariables false
set_option maxRecDepth 100000

theorem OwnIm.addS {w w3 w4 : World} {B g2 cap2 : Nat} {a : Im4} {m : Img} {ts : List Value} {name : ByteArray} {t : Value} {tbl : List Int} (h : OwnIm w B a m ts) (hB : B ≤ w.heap.size) (hb : Below w.heap.size w w3) (ht : OwnN w3 w.heap.size t tbl)
    (ho : w4.ownsRow B 60 2 (.slice (some ⟨g2, 0, none⟩) (m.snaps.length + 1) cap2) (m.snaps.length + 1) (snC m.snaps ts ++ [.string name, t])) (hk : Keep (Own (.slice a.so m.snaps.length a.sc)) w3 w4) :
    OwnIm w4 B { a with so := some ⟨g2, 0, none⟩, sc := cap2 } { m with snaps := m.snaps ++ [⟨name, tbl⟩] } (ts ++ [t]) := by
  have hs := h.s.below hb
  have hr := h.rows.below hb
  refine ⟨by simp [h.len], ?_, ?_⟩
  · rw [snC_snoc _ _ _ _ h.len]
    simp only [List.length_append, List.length_singleton]
    exact .inr ⟨by omega, ho⟩
  · have h1 := hr.keep hk (fun r hr' g hg hS => own_apartS (hr.own r hr').row hs (by decide) g hg hS)
    have ht4 : OwnN w4 w.heap.size t tbl := ht.keep hk (fun g hg hS => own_apartS ht.row hs (by decide) g hg hS)
    have e : imRows { a with so := some ⟨g2, 0, none⟩, sc := cap2 } { m with snaps := m.snaps ++ [⟨name, tbl⟩] } (ts ++ [t]) = imRows a m ts ++ [(t, tbl)] := by
      simp only [imRows, List.map_append, List.map_cons, List.map_nil]
      rw [List.zip_append (by rw [List.length_map, h.len])]
      rfl
    rw [e]
    exact h1.add (fun r hr' g hg => ((h.rows.own r hr').ge g hg).2) ht4 hB

theorem create_name {m : Img} {name : ByteArray} (h : snmB name = false) : imCreate m name = (m, 12) := by rw [imCreate, h]; rfl
theorem create_twice {m : Img} {name : ByteArray} (h : snmB name = true) (hf : imFind m name < m.snaps.length) : imCreate m name = (m, 8) := by rw [imCreate, if_pos h, if_pos hf]
theorem create_many {m : Img} {name : ByteArray} (h : snmB name = true) (hf : ¬ imFind m name < m.snaps.length) (h3 : m.snaps.length = 3) : imCreate m name = (m, 6) := by rw [imCreate, if_pos h, if_neg hf, if_pos h3]
theorem create_done {m : Img} {name : ByteArray} (h : snmB name = true) (hf : ¬ imFind m name < m.snaps.length) (h3 : ¬ m.snaps.length = 3) : imCreate m name = ({ imRaise m m.table with snaps := m.snaps ++ [⟨name, m.table⟩] }, 0) := by rw [imCreate, if_pos h, if_neg hf, if_neg h3]

set_option maxHeartbeats 3200000 in
theorem l10Create_R (a : Im4) (m : Img) (name : ByteArray) (R : Img × Int) (w : World) (hR : R = imCreate m name) (hM : ImM m) (htb : tbB m.table = true) (hz : name.size ≤ maxLen) (hc : ImS w a m) :
    Calls Try.prog 33 #[imV a m, .string name] w fun e w' => AnsI w w' e R := by
  have HE := hide (ImE.new w a m hc)
  have HM := hide hM
  have HR := hide hR
  have HTB := hide htb
  have HZ := hide hz
  clear hc hM hR htb hz
  obtain ⟨j0, hj0, hy0, hy1, hy2⟩ := info_parts infoSn
  obtain ⟨i0, hi0, hz0, hz1, hz2⟩ := info_parts infoIn
  go_enter Try.func33, Try.ntmps33
  go_upto_region 1 with fail
  revert HE
  generalize ((w.alloc _).alloc _) = W0
  intro HE
  obtain ⟨c0, c1, c2, c3⟩ := (unhide HE).v.cells
  go_wp2_with fail
  refine (l10Own_F a m _ (unhide HM) (unhide HE).s).mono ?_
  rintro e w1 ⟨b, ts, rfl, ⟨ho, hc0⟩, hb⟩
  have HC0 := hide hc0
  clear hc0
  have HQ := hide (ImQ.put (w := w) ((unhide HE).v.below hb) ((unhide HE).r.below hb) (ho.base (B' := w.heap.size + 2) (by have := (unhide HE).r.lt; omega)) (fr (unhide HE).b hb) (Nat.le_refl _) (m0 := m) rfl rfl rfl rfl)
  unfold putI at HQ
  obtain ⟨x0, x1, x2, x3⟩ := ((unhide HE).v.below hb).cells
  obtain ⟨z0, z1, z2, z3⟩ := ((unhide HE).v.below hb).free
  clear c0 c1 c2 c3 ho hb HE
  go_upto_region 2 with fail
  clear x0 x1 x2 x3 z0 z1 z2 z3
  revert HQ
  generalize (((w1.setCell _ _).setCell _ _).setCell _ _).setCell _ _ = W1
  intro HQ
  have HS : Hid (ImS W1 b m) := hide ((unhide HQ).o.shows (unhide HM).zs)
  go_wp2_with fail
  refine (l10Name_any name _ (unhide HZ)).mono ?_
  rintro e w' ⟨rfl, hw⟩
  replace hw := hw.symm
  subst hw
  obtain ⟨c0, c1, c2, c3⟩ := (unhide HQ).v.cells
  obtain ⟨r0, r1, r2, r3⟩ := (unhide HQ).r.cells
  obtain ⟨z0, z1, z2, z3⟩ := (unhide HQ).r.free
  cases hn : snmB name
  · have HX : Hid (R = (m, 12)) := hide ((unhide HR).trans (create_name hn))
    have HF := hide (unhide HQ).fin
    go_wp2
    refine bodyPost_ret (res_ic Try.results33 rfl rfl (unhide HF).1) rfl ?_
    rw [unhide HX]
    exact AnsI.of (R := (m, 12)) rfl rfl (unhide HF).2.1 (unhide HF).2.2
  go_wp2_with fail
  refine (l10Find_any b m name _ (by have := (unhide HM).s; omega) (unhide HS).s).mono ?_
  rintro e w2 ⟨rfl, hb2⟩
  have HQ2 := hide ((unhide HQ).below hb2)
  clear hb2 c0 c1 c2 c3 r0 r1 r2 r3 z0 z1 z2 z3 HQ HS
  obtain ⟨c0, c1, c2, c3⟩ := (unhide HQ2).v.cells
  obtain ⟨r0, r1, r2, r3⟩ := (unhide HQ2).r.cells
  obtain ⟨z0, z1, z2, z3⟩ := (unhide HQ2).r.free
  by_cases hf : imFind m name < m.snaps.length
  · have HX : Hid (R = (m, 8)) := hide ((unhide HR).trans (create_twice hn hf))
    have HF := hide (unhide HQ2).fin
    rw [show fdI m name = (imFind m name : Int) from if_pos hf]
    generalize imFind m name = q at *
    clear hf hn
    go_wp2
    refine bodyPost_ret (res_ic Try.results33 rfl rfl (unhide HF).1) rfl ?_
    rw [unhide HX]
    exact AnsI.of (R := (m, 8)) rfl rfl (unhide HF).2.1 (unhide HF).2.2
  rw [show fdI m name = -1 from if_neg hf]
  have HSL := hide (unhide HM).s
  by_cases h3 : m.snaps.length = 3
  · have HX : Hid (R = (m, 6)) := hide ((unhide HR).trans (create_many hn hf h3))
    have HF := hide (unhide HQ2).fin
    have b3 : ((m.snaps.length : Int) == 3) = true := by rw [h3]; rfl
    clear hf hn h3
    go_wp2
    refine bodyPost_ret (res_ic Try.results33 rfl rfl (unhide HF).1) rfl ?_
    rw [unhide HX]
    exact AnsI.of (R := (m, 6)) rfl rfl (unhide HF).2.1 (unhide HF).2.2
  have HX : Hid (R = ({ imRaise m m.table with snaps := m.snaps ++ [⟨name, m.table⟩] }, 0)) := hide ((unhide HR).trans (create_done hn hf h3))
  have b3 : ((m.snaps.length : Int) == 3) = false := by rw [beq_eq_false_iff_ne]; omega
  clear hf hn h3
  go_wp2_with fail
  refine (l10Raise_any b m ts (w.heap.size + 2) b.tq b.tc m.table _ (unhide HM).r (fun c hc => by have := (unhide HM).rv c hc; omega) (unhide HTB) (ownRN ((unhide HQ2).o.rows.own (.slice b.tq m.table.length b.tc, m.table) (by simp [imRows])).row) (unhide HQ2).o).mono ?_
  rintro e w3 ⟨rfl, ho3, hk3⟩
  have HQ3 := hide ((unhide HQ2).turn hk3 ho3 (cnt1T_len m.table m.refs) rfl rfl rfl)
  have HQ4 := hide (unhide HQ3).again
  unfold putI at HQ4
  clear ho3 hk3 c0 c1 c2 c3 r0 r1 r2 r3 z0 z1 z2 z3 HQ2 b3
  obtain ⟨c0, c1, c2, c3⟩ := (unhide HQ3).v.cells
  obtain ⟨z0, z1, z2, z3⟩ := (unhide HQ3).v.free
  go_upto_region 9 with fail
  clear c0 c1 c2 c3 z0 z1 z2 z3 HQ3
  revert HQ4
  generalize (((w3.setCell _ _).setCell _ _).setCell _ _).setCell _ _ = W4
  intro HQ4
  have HT : Hid (Is W4 b.tq m.table) := hide (ownRN ((unhide HQ4).o.rows.own (.slice b.tq m.table.length b.tc, m.table) (by simp [imRows, imRaise])).row)
  have HTL := hide (unhide HM).t
  have hS0 : VarM W4.drew w.heap.size 26 (.slice b.ro m.refs.length b.rc) (.slice b.tq m.table.length b.tc) (.slice b.so m.snaps.length b.sc) (.slice b.dq m.data.length b.dc) := (unhide HQ4).v.below (Below.refl _ _).drew
  refine wp_region_ord (fun w' => VarM w' w.heap.size 26 (.slice b.ro m.refs.length b.rc) (.slice b.tq m.table.length b.tc) (.slice b.so m.snaps.length b.sc) (.slice b.dq m.data.length b.dc)) [0, 1, 2, 4, 5, 10, 3, 6, 7, 8, 9] [(0, 0), (1, 0), (2, 0), (4, 0), (5, 0), (3, 2), (6, 2), (7, 0), (8, 2), (9, 2), (10, 0), (11, 3)] (by kernel_rfl) (by kernel_rfl) rfl (by kernel_rfl) ?_
  refine ord_read (.pointer (some ⟨w.heap.size, 2, none⟩)) rfl rfl hS0 (fun W hW => by go_simp) ?_
  refine ord_read (.slice b.so m.snaps.length b.sc) rfl rfl hS0 (fun W hW => by obtain ⟨k0, k1, k2, k3⟩ := hW.cells; go_simp) ?_
  refine ord_read (.string name) rfl rfl hS0 (fun W hW => by go_simp) ?_
  refine ord_read (.pointer (some ⟨w.heap.size, 1, none⟩)) rfl rfl hS0 (fun W hW => by go_simp) ?_
  refine ord_read (.slice b.tq m.table.length b.tc) rfl rfl hS0 (fun W hW => by obtain ⟨k0, k1, k2, k3⟩ := hW.cells; go_simp) ?_
  refine ord_held rfl rfl ?_
  intro K hK
  unfold Oper.wp
  go_simp
  have hb5 : Below W4.heap.size W4 (W4.drew.alloc (.cells #[] 3)) := fr (Below.refl _ _).drew (Joins.below_alloc1 _ _)
  refine hK _ _ (hS0.below (Joins.below_alloc1 _ _)) ?_
  clear hK K
  refine ord_held rfl rfl ?_
  intro K hK
  refine wp_append_fresh rfl (.tmp 32) (.tmp 34) 23 rfl 3 i0 (.int .i64 0) 1 8 Try.underlying23 hi0 hz0 hz1 hz2 rfl (by omega) rfl b.tq m.table.length b.tc (intV m.table) rfl (by rw [intV_length]; omega) (Is.srcI ((unhide HT).below hb5)) (by have := unhide HTL; unfold maxLen; omega) (by have := unhide HTL; omega) ?_
  intro ao cap w6 ho6 hg6
  have hb6 : Below W4.heap.size W4 w6 := belowGr hb5 hg6
  have hS6 := (unhide HQ4).v.below hb6
  have HOT : Hid (OwnN w6 W4.heap.size (.slice ao m.table.length cap) m.table) := hide (OwnN.mk' (ho6.base (by simp)) rfl)
  refine hK _ _ hS6 ?_
  clear hK K ho6 hg6 hb5 hS0
  refine ord_read (.agg #[.string name, .slice ao m.table.length cap]) rfl rfl hS6 (fun W hW => by go_simp) ?_
  refine ord_held rfl rfl ?_
  intro K hK
  unfold Oper.wp
  go_simp
  refine hK _ _ (hS6.below (Joins.below_alloc1 _ _)) ?_
  clear hK K
  have hb7 : Below W4.heap.size W4 (w6.alloc (.cells #[.string name, .slice ao m.table.length cap] 60)) := fr hb6 (Joins.below_alloc1 _ _)
  have HOT7 := hide ((unhide HOT).below (Joins.below_alloc1 w6 (.cells #[.string name, .slice ao m.table.length cap] 60)))
  have hnew : (w6.alloc (.cells #[.string name, .slice ao m.table.length cap] 60)).heap[w6.heap.size]? = some (.cells #[.string name, .slice ao m.table.length cap] 60 (0, 0)) := heap_alloc_new _ _
  generalize (w6.alloc (.cells #[.string name, .slice ao m.table.length cap] 60)) = W7 at *
  have HQ7 := hide ((unhide HQ4).below hb7)
  refine ord_held rfl rfl ?_
  intro K hK
  refine wp_append_one rfl (.tmp 30) (.tmp 37) 24 rfl (w.heap.size + 2) 60 j0 (.agg #[.string ⟨#[]⟩, .slice none 0 0]) 2 40 Try.underlying24 hj0 hy0 hy1 hy2 rfl (by omega) b.so m.snaps.length b.sc (snC m.snaps ts) rfl ((unhide HQ7).o.s.toR (unhide HC0)) (by have := (unhide HQ7).r.lt; omega) ⟨w6.heap.size, 0, none⟩ 1 [.string name, .slice ao m.table.length cap] rfl rfl (snap_news hnew) (snap_one _ _ _ _) (by have := unhide HSL; unfold maxLen; omega) (by have := unhide HSL; omega) ?_
  intro g2 cap2 w8 ho8 hk8
  have hv8 : VarM w8 w.heap.size 26 (.slice b.ro m.refs.length b.rc) (.slice b.tq m.table.length b.tc) (.slice b.so m.snaps.length b.sc) (.slice b.dq m.data.length b.dc) := (hk8.block _ (unhide HQ7).v.lt ((unhide HQ7).o.s.other (unhide HQ7).v (by decide))).trans (unhide HQ7).v
  have hr8 : VarM w8 (w.heap.size + 1) 26 (.slice none 0 0) (.slice none 0 0) (.slice none 0 0) (.slice none 0 0) := (hk8.block _ (unhide HQ7).r.lt ((unhide HQ7).o.s.other (unhide HQ7).r (by decide))).trans (unhide HQ7).r
  have HO8 := hide (OwnIm.addS (unhide HQ4).o (by have := (unhide HQ4).r.lt; omega) hb7 (unhide HOT7) ho8 hk8)
  have HB8 : Hid (Below w.heap.size w w8) := hide ((unhide HQ7).b.trans (hk8.below (unhide HQ7).b.size (fun g hg => by have := ((unhide HQ7).o.s.ge g hg).1; omega)))
  refine hK _ _ hv8 ?_
  clear hK K ho8 hk8 hnew
  refine ord_read (.pointer (some ⟨w.heap.size, 2, none⟩)) rfl rfl hv8 (fun W hW => by go_simp) ?_
  obtain ⟨c0, c1, c2, c3⟩ := hv8.cells
  obtain ⟨z0, z1, z2, z3⟩ := hv8.free
  refine ord_alone rfl rfl ?_
  intro K hK
  unfold Oper.wp
  go_simp
  refine hK _ _ ?_
  clear hK K
  refine ord_done ?_
  have HQ9 : Hid (ImQ w (w8.setCell ⟨w.heap.size, 2, none⟩ (.slice (some ⟨g2, 0, none⟩) (m.snaps.length + 1) cap2)) (w.heap.size + 2) { b with so := some ⟨g2, 0, none⟩, sc := cap2 } { m with snaps := m.snaps ++ [⟨name, m.table⟩] } { imRaise m m.table with snaps := m.snaps ++ [⟨name, m.table⟩] } (ts ++ [.slice ao m.table.length cap])) := hide
    ⟨by simp only [List.length_append, List.length_singleton]; exact hv8.set2 _, hr8.other (p := ⟨w.heap.size, 2, none⟩) (by simp) _, (unhide HO8).setCell (p := ⟨w.heap.size, 2, none⟩) (by simp) _, (unhide HB8).setCell (p := ⟨w.heap.size, 2, none⟩) (Nat.le_refl _) _, Nat.le_refl _, cnt1T_len m.table m.refs, rfl, rfl, rfl⟩
  clear c0 c1 c2 c3 z0 z1 z2 z3 hv8 hr8 HO8 HB8 HQ7 HQ4 HOT7 HOT HT
  revert HQ9
  generalize (w8.setCell _ _) = W9
  intro HQ9
  have hF := (unhide HQ9).fin
  simp only [putI, List.length_append, List.length_singleton] at hF
  have HF := hide hF
  clear hF
  have HVL := hide (unhide HQ9).val
  obtain ⟨c0, c1, c2, c3⟩ := (unhide HQ9).v.cells
  obtain ⟨r0, r1, r2, r3⟩ := (unhide HQ9).r.cells
  obtain ⟨z0, z1, z2, z3⟩ := (unhide HQ9).r.free
  go_wp2
  refine bodyPost_ret (res_ic Try.results33 rfl rfl (unhide HF).1) rfl ?_
  rw [unhide HX]
  exact AnsI.of (R := ({ imRaise m m.table with snaps := m.snaps ++ [⟨name, m.table⟩] }, 0)) (by rw [← unhide HVL]; simp [imV]) rfl (unhide HF).2.1 (unhide HF).2.2

end Go.Proofs.Ytpdpnepnfhbonaa

namespace Go.Proofs.Ytpdpnepnfhbonaa
open Go.RowKit
set_option linter.unusedVariables false
set_option maxRecDepth 100000

end Go.Proofs.Ytpdpnepnfhbonaa

namespace Go.Proofs.Ytpdpnepnfhbonaa
open Go.RowKit
set_option linter.unusedVariables false
set_option maxRecDepth 100000

end Go.Proofs.Ytpdpnepnfhbonaa

namespace Go.Proofs.Ytpdpnepnfhbonaa
open Go.RowKit
set_option linter.unusedVariables false

end Go.Proofs.Ytpdpnepnfhbonaa

namespace Go.Proofs.Ytpdpnepnfhbonaa
open Go.RowKit
set_option linter.unusedVariables false
set_option maxRecDepth 100000

end Go.Proofs.Ytpdpnepnfhbonaa

namespace Go.Proofs.Ytpdpnepnfhbonaa
open Go.RowKit
set_option linter.unusedVariables false
set_option maxRecDepth 100000

end Go.Proofs.Ytpdpnepnfhbonaa
