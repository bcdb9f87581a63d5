import Derived.Test.YtmkegkpnomcnhabPart1
import Derived.Test.YtmkegkpnomcnhabPart7
import Derived.Test.YtmkegkpnomcnhabPart10
import Derived.Test.YtmkegkpnomcnhabPart11
import Derived.Test.YtmkegkpnomcnhabPart12
import Derived.Test.YtmkegkpnomcnhabPart13
import Derived.Test.YtmkegkpnomcnhabPart16
import Derived.Test.YtmkegkpnomcnhabPart17
import Derived.Test.YtmkegkpnomcnhabRows
import Derived.Test.YtmkegkpnomcnhabPart2
import Derived.Test.YtmkegkpnomcnhabPart8
import Derived.Test.YtmkegkpnomcnhabPart5
import Derived.WalkKit
import Derived.WalkSpells
import Derived.KernelRfl
import Derived.LoopN
import Derived.BigQuiet
import Derived.Deep.QuietTactic
import Derived.Deep.CutRange
import Derived.Deep.RegionWith
import Derived.Deep.MidRow
import Derived.Deep.Quiet
import Derived.Deep.RegionHeld3

/- Plain: what is done to a right image leaves a right one; snapshots made, deleted and gone back to, as the program reckons them. -/
namespace Go.Proofs.Ytmkegkpnomcnhab
open Go.RowKit
set_option linter.unusedVariables false
set_option maxRecDepth 100000

/-- A table has no cluster twice, told by counts. -/
theorem once_cN {t : List Int} (h : tbB t = true) : (clA t).Nodup ↔ ∀ i, i < 24 → cN t i ≤ 1 := by
  constructor
  · intro hn i hi
    rw [← clA_count]
    by_cases hm : (i : Int) ∈ clA t
    · have := (nodup_count _).1 hn _ hm; omega
    · rw [List.count_eq_zero_of_not_mem hm]; omega
  · intro hc
    refine (nodup_count _).2 fun x hx => ?_
    obtain ⟨c0, c1⟩ := cl_mem h x hx
    obtain ⟨q, rfl⟩ := Int.eq_ofNat_of_zero_le c0
    have := hc q (by omega)
    rw [← clA_count] at this
    omega
/-- What must hold of tables, names and data for the image that fits them to be right. -/
structure PreR (m : Img) : Prop where
  few : m.snaps.length ≤ 3
  len : m.data.length = 24
  t : ∀ t ∈ imTabs m, tbB t = true
  once : ∀ t ∈ imTabs m, ∀ i, i < 24 → cN t i ≤ 1
  nm : ∀ s ∈ m.snaps, snmB s.name = true
  names : (m.snaps.map (·.name)).Nodup
  nums : ∀ n ∈ m.data, numB n = true
theorem sN_le {i : Nat} (hi : i < 24) : ∀ ts : List (List Int), (∀ t ∈ ts, ∀ i, i < 24 → cN t i ≤ 1) → sN ts i ≤ ts.length := by
  intro ts
  induction ts with
  | nil => intro _; exact Int.le_refl _
  | cons t ts ih =>
    intro h
    have h1 := h t (by simp) i hi
    have h2 := ih (fun x hx => h x (by simp [hx]))
    rw [sN_cons, List.length_cons]
    omega
theorem ctB_mk {xs : List Int} (hl : xs.length = 24) (h : ∀ i, i < 24 → 0 ≤ xs.getD i 0 ∧ xs.getD i 0 ≤ 15) : ctB xs = true := by
  unfold ctB
  simp only [Bool.and_eq_true, decide_eq_true_eq, List.all_eq_true]
  refine ⟨hl, fun x hx => ?_⟩
  obtain ⟨j, hj, rfl⟩ := List.mem_iff_getElem.1 hx
  have := h j (by omega)
  rw [show xs.getD j 0 = xs[j] by simp [List.getD, hj]] at this
  exact betw_iff.2 this
theorem PreR.fit {m : Img} (h : PreR m) : ImR (imFit m) := by
  have hlen : (imTabs m).length ≤ 4 := by rw [imTabs_len]; have := h.few; omega
  have hg : ∀ i, i < 24 → (imFit m).refs.getD i 0 = sN (imTabs m) i := fun i hi => cnt_get h.t hi
  refine ⟨ctB_mk (imCnt_len m) (fun i hi => ?_), h.t _ (by simp [imTabs, imFit]), h.few, by simp [imFit], fun s hs => ⟨h.nm s hs, h.t _ (by unfold imTabs; exact List.mem_cons_of_mem _ (List.mem_map.2 ⟨s, hs, rfl⟩))⟩, h.names, fun n hn => ?_, fun t ht => (once_cN (h.t t ht)).2 (h.once t ht), rfl, fun i hi hz => ?_⟩
  · have h1 := sN_le hi _ h.once
    have h2 := sN_nn (imTabs m) i
    rw [hg i hi]
    omega
  · unfold imFit at hn
    simp only at hn
    obtain ⟨i, hi, rfl⟩ := List.mem_map.1 hn
    have hi' := List.mem_range.1 hi
    split
    · rfl
    · rw [show m.data.getD i 0 = m.data[i]'(by rw [h.len]; exact hi') by simp [List.getD, h.len, hi']]
      exact h.nums _ (List.getElem_mem _)
  · unfold imFit
    simp only
    rw [range_getD hi]
    have hz' : (imCnt m).getD i 0 = 0 := hz
    rw [if_pos hz']
theorem ImR.pre {m : Img} (h : ImR m) : PreR m := ⟨h.few, h.len, h.tabs, fun t ht => (once_cN (h.tabs t ht)).1 (h.once t ht), fun s hs => (h.snaps s hs).1, h.names, h.nums⟩
/-- Another table. -/
theorem PreR.withT {m : Img} (h : PreR m) {t d : List Int} (ht : tbB t = true) (ho : ∀ i, i < 24 → cN t i ≤ 1) (hd : d.length = 24) (hn : ∀ n ∈ d, numB n = true) : PreR { m with table := t, data := d } := by
  have hm : ∀ x ∈ imTabs { m with table := t, data := d }, x = t ∨ x ∈ imTabs m := fun x hx => by
    have hx' : x ∈ t :: m.snaps.map (·.table) := hx
    rw [List.mem_cons] at hx'
    rcases hx' with rfl | hx'
    · exact .inl rfl
    · exact .inr (by unfold imTabs; exact List.mem_cons_of_mem _ hx')
  refine ⟨h.few, hd, fun x hx => ?_, fun x hx => ?_, h.nm, h.names, hn⟩
  · rcases hm x hx with rfl | h1
    · exact ht
    · exact h.t x h1
  · rcases hm x hx with rfl | h1
    · exact ho
    · exact h.once x h1
theorem nums_set {d : List Int} (h : ∀ n ∈ d, numB n = true) (c : Nat) {v : Int} (hv : numB v = true) : ∀ n ∈ d.set c v, numB n = true := fun n hn => by
  rcases List.mem_or_eq_of_mem_set hn with h1 | rfl
  · exact h n h1
  · exact hv
theorem ImR.cN_le {m : Img} (h : ImR m) : ∀ i, i < 24 → cN m.table i ≤ 1 := h.pre.once _ (by simp [imTabs])
theorem ImR.zero {m : Img} (h : ImR m) {g : Nat} (hg : g < m.table.length) : ImR (imZero m g) := by
  rw [← fit_zero h hg]
  refine (h.pre.withT (d := m.data) (tbB_set h.table g (by omega) (by omega)) (fun i hi => ?_) h.len h.nums).fit
  have := h.cN_le i hi
  rw [cN_set hg, if_neg (show ¬ (1 : Int) = (i : Int) + 2 by omega)]
  split <;> omega
theorem ImR.resize {m : Img} (h : ImR m) {n : Nat} (hn : n ≤ 12) : ImR (imResize m n) := by
  rw [← fit_resize h hn]
  refine (h.pre.withT (d := m.data) (tbB_rz h.table hn) (fun i hi => ?_) h.len h.nums).fit
  have h1 := h.cN_le i hi
  have e2 : cN m.table i = cN (m.table.take n) i + cN (m.table.drop n) i := by rw [← cN_append, List.take_append_drop]
  have := cN_nn (m.table.drop n) i
  rw [cN_rz]; omega
theorem ImR.write {m : Img} (h : ImR m) {g : Nat} (hg : g < m.table.length) {v : Int} (hv : numB v = true) : ImR (imWrite m g v).1 := by
  have hb := tbB_at h.table g hg
  by_cases h1 : 2 ≤ m.table[g] ∧ m.refs.getD (m.table[g] - 2).toNat 0 = 1
  · have hc : m.table[g] = (((m.table[g] - 2).toNat : Nat) : Int) + 2 := by omega
    have hr : (m.table[g] - 2).toNat < m.refs.length := by rw [h.rl]; omega
    have h1' : m.refs[(m.table[g] - 2).toNat] = 1 := by have := h1.2; simpa [List.getD, hr] using this
    rw [imWrite_in hg hc hr h1']
    rw [← fit_in h v hg hc h1.2]
    have hset : m.table.set g (2 + ((m.table[g] - 2).toNat : Int)) = m.table := by
      rw [show (2 : Int) + ((m.table[g] - 2).toNat : Int) = m.table[g] by omega]
      exact List.set_getElem_self hg
    rw [hset]
    exact (h.pre.withT h.table h.cN_le (by simp [h.len]) (nums_set h.nums _ hv)).fit
  · rw [imWrite_out hg h1]
    by_cases h2 : frN m.refs < m.refs.length
    · rw [if_pos h2]
      have hc24 : frN m.refs < 24 := by rw [h.rl] at h2; exact h2
      have h0 := free_spec h2
      rw [← fit_out h v hg hc24 h0]
      refine (h.pre.withT (tbB_set h.table g (by omega) (by omega)) (fun i hi => ?_) (by simp [h.len]) (nums_set h.nums _ hv)).fit
      have h3 := h.cN_le i hi
      rw [cN_set hg]
      by_cases hci : frN m.refs = i
      · have h4 : cN m.table i ≤ 0 := by
          have := h.cntA hi
          have := sN_nn (m.snaps.map (·.table)) i
          rw [sN_tabs] at *
          rw [hci] at h0
          omega
        have := cN_nn m.table i
        split <;> split <;> omega
      · rw [if_neg (show ¬ (2 : Int) + (frN m.refs : Int) = (i : Int) + 2 by omega)]
        split <;> omega
    · rw [if_neg h2]; exact h

theorem sN_append (s t : List (List Int)) (i : Nat) : sN (s ++ t) i = sN s i + sN t i := by unfold sN; rw [List.map_append, List.sum_append]
theorem raise_get {m : Img} {t : List Int} (hr : m.refs.length = 24) (ht : tbB t = true) {i : Nat} (hi : i < 24) : (imRaise m t).refs.getD i 0 = m.refs.getD i 0 + cN t i := by
  rw [← clA_count]
  exact fold_incr_get i hi _ (cl_mem ht) _ hr
theorem raise_len (m : Img) (t : List Int) : (imRaise m t).refs.length = m.refs.length := cnt1T_len t m.refs
/-- A snapshot is made. -/
theorem fit_create {m : Img} (h : ImR m) (name : ByteArray) : imFit { m with snaps := m.snaps ++ [⟨name, m.table⟩] } = { imRaise m m.table with snaps := m.snaps ++ [⟨name, m.table⟩] } := by
  have hcs : ∀ i, sN (imTabs { m with snaps := m.snaps ++ [⟨name, m.table⟩] }) i = sN (imTabs m) i + cN m.table i := fun i => by
    have e : sN (imTabs { m with snaps := m.snaps ++ [⟨name, m.table⟩] }) i = cN m.table i + sN (List.map (fun s : Snp => s.table) (m.snaps ++ [⟨name, m.table⟩])) i := rfl
    have e2 : sN [m.table] i = cN m.table i := by rw [sN_cons]; simp [sN]
    rw [e, List.map_append, sN_append, sN_tabs]
    show _ + (_ + sN [m.table] i) = _
    rw [e2]; omega
  have ht : ∀ t ∈ imTabs { m with snaps := m.snaps ++ [⟨name, m.table⟩] }, tbB t = true := fun t ht => by
    have ht' : t ∈ m.table :: List.map (fun s : Snp => s.table) (m.snaps ++ [⟨name, m.table⟩]) := ht
    simp only [List.map_append, List.mem_cons, List.mem_append, List.map_cons, List.map_nil, List.not_mem_nil, or_false] at ht'
    rcases ht' with rfl | ht' | rfl
    · exact h.table
    · exact h.tabs t (by unfold imTabs; exact List.mem_cons_of_mem _ ht')
    · exact h.table
  refine fit_eq (n := { imRaise m m.table with snaps := m.snaps ++ [⟨name, m.table⟩] }) ht (by show (imRaise m m.table).refs.length = 24; rw [raise_len]; exact h.rl) h.len rfl rfl (fun i hi => ?_) (fun i hi => ?_)
  · show (imRaise m m.table).refs.getD i 0 = _
    rw [raise_get h.rl h.table hi, hcs, h.cntA hi]
  · show m.data.getD i 0 = if _ then 0 else m.data.getD i 0
    rw [hcs, ← h.cntA hi]
    have h1 := cN_nn m.table i
    have h2 := sN_nn (imTabs m) i
    rw [← h.cntA hi] at h2
    by_cases hz : m.refs.getD i 0 + cN m.table i = 0
    · rw [if_pos hz, h.clear i hi (by omega)]
    · rw [if_neg hz]
theorem sN_erase {ts : List (List Int)} (i : Nat) : ∀ {k : Nat} (hk : k < ts.length), sN (ts.eraseIdx k) i = sN ts i - cN ts[k] i := by
  induction ts with
  | nil => intro k hk; simp at hk
  | cons t ts ih =>
    intro k hk
    cases k with
    | zero => simp only [List.eraseIdx_cons_zero, List.getElem_cons_zero, sN_cons]; omega
    | succ k =>
      have := ih (k := k) (by simpa using hk)
      simp only [List.eraseIdx_cons_succ, List.getElem_cons_succ, sN_cons, this]; omega
theorem cN_le_sN {ts : List (List Int)} (i : Nat) {k : Nat} (hk : k < ts.length) : cN ts[k] i ≤ sN ts i := by
  have h1 := sN_erase (ts := ts) i hk
  have h2 := sN_nn (ts.eraseIdx k) i
  omega
theorem map_eraseA {α : Type} (f : Snp → α) : ∀ (ss : List Snp) (k : Nat), (ss.eraseIdx k).map f = (ss.map f).eraseIdx k
  | [], k => by simp
  | s :: ss, 0 => rfl
  | s :: ss, k + 1 => by simp only [List.eraseIdx_cons_succ, List.map_cons, map_eraseA f ss k]
theorem map_erase {k : Nat} (ss : List Snp) : (ss.eraseIdx k).map (·.table) = (ss.map (·.table)).eraseIdx k := map_eraseA _ ss k
/-- A snapshot is deleted. -/
theorem fit_delete {m : Img} (h : ImR m) {k : Nat} (hk : k < m.snaps.length) : imFit { m with snaps := m.snaps.eraseIdx k } = { imDrops m m.snaps[k].table with snaps := m.snaps.eraseIdx k } := by
  have hk' : k < (m.snaps.map (·.table)).length := by simpa using hk
  have ek : (m.snaps.map (·.table))[k] = m.snaps[k].table := by simp
  have hcs : ∀ i, sN (imTabs { m with snaps := m.snaps.eraseIdx k }) i = sN (imTabs m) i - cN m.snaps[k].table i := fun i => by
    have e : sN (imTabs { m with snaps := m.snaps.eraseIdx k }) i = cN m.table i + sN ((m.snaps.eraseIdx k).map (·.table)) i := rfl
    rw [e, map_erase, sN_erase i hk', ek, sN_tabs]; omega
  have ht : ∀ t ∈ imTabs { m with snaps := m.snaps.eraseIdx k }, tbB t = true := fun t ht => by
    have ht' : t ∈ m.table :: (m.snaps.eraseIdx k).map (·.table) := ht
    rw [List.mem_cons, map_erase] at ht'
    rcases ht' with rfl | ht'
    · exact h.table
    · exact h.tabs t (by unfold imTabs; exact List.mem_cons_of_mem _ (List.mem_of_mem_eraseIdx ht'))
  obtain ⟨l1, l2, l3, l4⟩ := drops_lens m m.snaps[k].table
  have hle : ∀ i, i < 24 → cN m.snaps[k].table i ≤ m.refs.getD i 0 := fun i hi => by
    have h1 := cN_le_sN i hk'
    have h2 := cN_nn m.table i
    rw [ek] at h1
    rw [h.cntA hi, sN_tabs]; omega
  refine fit_eq (n := { imDrops m m.snaps[k].table with snaps := m.snaps.eraseIdx k }) ht (l1.trans h.rl) (l2.trans h.len) l3.symm rfl (fun i hi => ?_) (fun i hi => ?_)
  · show (imDrops m _).refs.getD i 0 = _
    rw [(drops_get hi _ m h.rl h.len).1, hcs, h.cntA hi]
  · show (imDrops m _).data.getD i 0 = _
    rw [drops_fit h _ hi (hle i hi), hcs, h.cntA hi]
/-- A snapshot is gone back to. -/
theorem fit_revert {m : Img} (h : ImR m) {k : Nat} (hk : k < m.snaps.length) : imFit { m with table := m.snaps[k].table } = { imDrops (imRaise m m.snaps[k].table) m.table with table := m.snaps[k].table } := by
  have hk' : k < (m.snaps.map (·.table)).length := by simpa using hk
  have ek : (m.snaps.map (·.table))[k] = m.snaps[k].table := by simp
  have htk : tbB m.snaps[k].table = true := (h.snaps _ (List.getElem_mem hk)).2
  have hcs : ∀ i, sN (imTabs { m with table := m.snaps[k].table }) i = cN m.snaps[k].table i + sN (m.snaps.map (·.table)) i := fun i => rfl
  obtain ⟨l1, l2, l3, l4⟩ := drops_lens (imRaise m m.snaps[k].table) m.table
  have hrl : (imRaise m m.snaps[k].table).refs.length = 24 := (raise_len _ _).trans h.rl
  refine fit_eq (n := { imDrops (imRaise m m.snaps[k].table) m.table with table := m.snaps[k].table }) (tabs_with h htk m.data) (l1.trans hrl) (l2.trans h.len) rfl l4.symm (fun i hi => ?_) (fun i hi => ?_)
  · show (imDrops (imRaise m m.snaps[k].table) m.table).refs.getD i 0 = _
    rw [(drops_get hi _ _ hrl h.len).1, raise_get h.rl htk hi, hcs, h.cntA hi, sN_tabs]; omega
  · show (imDrops (imRaise m m.snaps[k].table) m.table).data.getD i 0 = if _ then 0 else m.data.getD i 0
    have h1 := cN_le_sN i hk'
    rw [ek] at h1
    have h2 := cN_nn m.snaps[k].table i
    have h3 := cN_nn m.table i
    have h4 := h.cntA hi
    rw [sN_tabs] at h4
    rw [(drops_get hi _ _ hrl h.len).2, raise_get h.rl htk hi, hcs]
    have ed : (imRaise m m.snaps[k].table).data.getD i 0 = m.data.getD i 0 := rfl
    rw [ed]
    by_cases hz : cN m.snaps[k].table i + sN (m.snaps.map (·.table)) i = 0
    · rw [if_pos hz]
      by_cases hr : m.refs.getD i 0 = 0
      · rw [if_neg (by omega), h.clear i hi hr]
      · rw [if_pos (by omega)]
    · rw [if_neg hz, if_neg (by omega)]
theorem find_lt {m : Img} {name : ByteArray} (h : imFind m name < m.snaps.length) : m.snaps[imFind m name].name = name := by
  unfold imFind at h ⊢
  have := List.findIdx_getElem (w := h)
  simpa using this
theorem ImR.create {m : Img} (h : ImR m) (name : ByteArray) : ImR (imCreate m name).1 := by
  unfold imCreate
  split
  · rename_i hn
    split
    · exact h
    · rename_i hf
      split
      · exact h
      · rename_i h3
        show ImR { imRaise m m.table with snaps := m.snaps ++ [⟨name, m.table⟩] }
        rw [← fit_create h name]
        refine PreR.fit ⟨?_, h.len, fun t ht => ?_, fun t ht => ?_, fun s hs => ?_, ?_, h.nums⟩
        · have := h.few
          simp only [List.length_append, List.length_singleton]; omega
        · have ht' : t ∈ m.table :: List.map (fun s : Snp => s.table) (m.snaps ++ [⟨name, m.table⟩]) := ht
          simp only [List.map_append, List.mem_cons, List.mem_append, List.map_cons, List.map_nil, List.not_mem_nil, or_false] at ht'
          rcases ht' with rfl | ht' | rfl
          · exact h.table
          · exact h.tabs t (by unfold imTabs; exact List.mem_cons_of_mem _ ht')
          · exact h.table
        · have ht' : t ∈ m.table :: List.map (fun s : Snp => s.table) (m.snaps ++ [⟨name, m.table⟩]) := ht
          simp only [List.map_append, List.mem_cons, List.mem_append, List.map_cons, List.map_nil, List.not_mem_nil, or_false] at ht'
          rcases ht' with rfl | ht' | rfl
          · exact h.cN_le
          · exact h.pre.once t (by unfold imTabs; exact List.mem_cons_of_mem _ ht')
          · exact h.cN_le
        · simp only [List.mem_append, List.mem_singleton] at hs
          rcases hs with hs | rfl
          · exact (h.snaps s hs).1
          · exact hn
        · rw [List.map_append, List.nodup_append]
          refine ⟨h.names, by simp, ?_⟩
          intro a ha b hb
          simp only [List.map_cons, List.map_nil, List.mem_singleton] at hb
          subst hb
          rintro rfl
          obtain ⟨s, hs, e⟩ := List.mem_map.1 ha
          apply hf
          unfold imFind
          rw [List.findIdx_lt_length]
          exact ⟨s, hs, by simp [e]⟩
  · exact h
theorem ImR.delete {m : Img} (h : ImR m) (name : ByteArray) : ImR (imDelete m name).1 := by
  unfold imDelete
  split
  · rename_i hf
    have e : (m.snaps[imFind m name]?).elim [] (·.table) = m.snaps[imFind m name].table := by rw [List.getElem?_eq_getElem hf]; rfl
    rw [e]
    show ImR { imDrops m m.snaps[imFind m name].table with snaps := m.snaps.eraseIdx (imFind m name) }
    rw [← fit_delete h hf]
    refine PreR.fit ⟨?_, h.len, fun t ht => ?_, fun t ht => ?_, fun s hs => (h.snaps s (List.mem_of_mem_eraseIdx hs)).1, ?_, h.nums⟩
    · have := h.few
      simp only [List.length_eraseIdx]; split <;> omega
    · have ht' : t ∈ m.table :: (m.snaps.eraseIdx (imFind m name)).map (·.table) := ht
      rw [List.mem_cons, map_erase] at ht'
      rcases ht' with rfl | ht'
      · exact h.table
      · exact h.tabs t (by unfold imTabs; exact List.mem_cons_of_mem _ (List.mem_of_mem_eraseIdx ht'))
    · have ht' : t ∈ m.table :: (m.snaps.eraseIdx (imFind m name)).map (·.table) := ht
      rw [List.mem_cons, map_erase] at ht'
      rcases ht' with rfl | ht'
      · exact h.cN_le
      · exact h.pre.once t (by unfold imTabs; exact List.mem_cons_of_mem _ (List.mem_of_mem_eraseIdx ht'))
    · show ((m.snaps.eraseIdx (imFind m name)).map (·.name)).Nodup
      rw [map_eraseA]
      exact h.names.sublist (List.eraseIdx_sublist _ _)
  · exact h
theorem ImR.revert {m : Img} (h : ImR m) (name : ByteArray) : ImR (imRevert m name).1 := by
  unfold imRevert
  split
  · rename_i hf
    have e : (m.snaps[imFind m name]?).elim [] (·.table) = m.snaps[imFind m name].table := by rw [List.getElem?_eq_getElem hf]; rfl
    rw [e]
    show ImR { imDrops (imRaise m m.snaps[imFind m name].table) m.table with table := m.snaps[imFind m name].table }
    rw [← fit_revert h hf]
    have htk := (h.snaps _ (List.getElem_mem hf)).2
    exact (h.pre.withT (d := m.data) htk (h.pre.once _ (by unfold imTabs; exact List.mem_cons_of_mem _ (List.mem_map.2 ⟨_, List.getElem_mem hf, rfl⟩))) h.len h.nums).fit
  · exact h
theorem ImR.new {n : Nat} (hn : n ≤ 12) : ImR (imNew n) := by
  have hrep : ∀ i (hi : i < (List.replicate n (0 : Int)).length), (List.replicate n (0 : Int))[i] = 0 := fun i hi => by simp
  have ht : tbB (List.replicate n (0 : Int)) = true := tbB_of (by simpa using hn) (fun i hi => by rw [hrep]; rfl)
  have hc : ∀ i, cN (List.replicate n (0 : Int)) i = 0 := fun i => by
    unfold cN
    rw [List.count_eq_zero_of_not_mem (fun h => by have := List.eq_of_mem_replicate h; omega)]; rfl
  have hp : PreR (imNew n) := ⟨by simp [imNew], rfl, fun t h => (by simp only [imTabs, imNew, List.map_nil, List.mem_singleton] at h; subst h; exact ht), fun t h => (by simp only [imTabs, imNew, List.map_nil, List.mem_singleton] at h; subst h; intro i _; rw [hc]; omega), fun s hs => (by cases hs), List.nodup_nil, (by show ∀ n ∈ zero24, numB n = true; decide)⟩
  have e : imFit (imNew n) = imNew n := by
    refine fit_eq hp.t rfl rfl rfl rfl (fun i hi => ?_) (fun i hi => ?_)
    · show zero24.getD i 0 = _
      rw [zero24_get hi, sN_tabs]
      show _ = cN (List.replicate n (0 : Int)) i + sN [] i
      rw [hc]; rfl
    · show zero24.getD i 0 = if _ then 0 else zero24.getD i 0
      rw [zero24_get hi]; simp
  rw [← e]
  exact hp.fit

end Go.Proofs.Ytmkegkpnomcnhab

/- Contracts of the model's l08Encode, EncodeRefs. -/
namespace Go.Proofs.Ytmkegkpnomcnhab
open Go.RowKit
set_option linter.unusedVariables false
set_option maxRecDepth 100000

theorem hx_in (xs : List Int) (i : Nat) (h : ∀ j, 0 ≤ xs.getD j 0 ∧ xs.getD j 0 ≤ 15) : ∀ m, 0 ≤ hx6 xs i m ∧ hx6 xs i m < 16 ^ m
  | 0 => by simp [hx6]
  | m + 1 => by
    obtain ⟨h0, h1⟩ := hx_in xs i h m
    obtain ⟨g0, g1⟩ := h (i + (5 - m))
    rw [hx6, show (16 : Int) ^ (m + 1) = 16 ^ m * 16 from Int.pow_succ 16 m]
    generalize (16 : Int) ^ m = P at *
    omega
theorem hx_le {xs : List Int} (hb : ctB xs = true) (i m : Nat) (hm : m ≤ 5) : 0 ≤ hx6 xs i m ∧ hx6 xs i m ≤ 1048576 := by
  obtain ⟨h0, h1⟩ := hx_in xs i (ctB_getD hb) m
  have hp : (16 : Int) ^ m ≤ 1048576 := by
    match m, hm with
    | 0, _ => decide
    | 1, _ => decide
    | 2, _ => decide
    | 3, _ => decide
    | 4, _ => decide
    | 5, _ => decide
  omega
theorem ctNs_get (xs : List Int) (q : Nat) (h : q < (ctNs xs).length) : (ctNs xs)[q] = lo6 xs (6 * q) 6 := by
  have h4 : q < 4 := h
  match q, h4 with
  | 0, _ => rfl
  | 1, _ => rfl
  | 2, _ => rfl
  | 3, _ => rfl
theorem take_snoc {xs : List Int} {q : Nat} {n : Int} (h : q < xs.length) (e : n = xs[q]) : xs.take (q + 1) = xs.take q ++ [n] := by
  rw [e, List.take_succ_eq_append_getElem h]

set_option maxHeartbeats 3200000 in
theorem l08Encode_any (ao : Option Addr) (cap : Nat) (xs : List Int) (w : World) (hb : ctB xs = true) (hc : Is w ao xs) :
    Calls Try.prog 57 #[.slice ao xs.length cap] w fun e w' => e = .returned (.string (encT xs)) ∧ Below w.heap.size w w' := by
  obtain ⟨j0, hj, hy0, hy1, hy2⟩ := info_parts infoM
  have HCB := hide hb
  have HL := hide (ctB_len hb)
  have HC := hide hc
  have HA : Hid (Below w.heap.size w (w.alloc (.cells #[] 3))) := hide (Joins.below_alloc1 _ _)
  clear hb hc
  go_enter Try.func57, Try.ntmps57
  go_wp2
  go_loopw [3, 4] (fun o i wr => ∃ (q : Nat) (qo : Option Addr) (qa : Nat), q ≤ 4 ∧ i = .int .i64 (6 * (q : Int)) ∧ o = .slice qo q qa ∧ Hid (OwnR wr w.heap.size 3 1 (.slice qo q qa) q (intV ((ctNs xs).take q))) ∧ Hid (Below w.heap.size w wr)) (fun _ i _ => 24 - (intOf i).toNat)
  case atStart => exact ⟨0, _, _, Nat.zero_le _, rfl, rfl, hide (.inl ⟨rfl, rfl, _, rfl⟩), HA⟩
  case round =>
    obtain ⟨q, qo, qa, hq, rfl, rfl, HO, HB⟩ := hrel
    by_cases hlt : q < 4
    · have hlt' : 6 * (q : Int) < 24 := by omega
      go_wp2
      go_loopw [5, 6] (fun n j wq => ∃ m : Nat, m ≤ 6 ∧ j = .int .i64 (5 - (m : Int)) ∧ n = .int .i64 (hx6 xs (6 * q) m) ∧ Hid (OwnR wq w.heap.size 3 1 (.slice qo q qa) q (intV ((ctNs xs).take q))) ∧ Hid (Below w.heap.size w wq)) (fun _ j _ => (intOf j + 1).toNat)
      case atStart => exact ⟨0, by omega, rfl, rfl, HO, HB⟩
      case round =>
        clear HO HB
        obtain ⟨m, hm, rfl, rfl, HO, HB⟩ := hrel
        by_cases hm5 : m ≤ 5
        · obtain ⟨hh0, hh1⟩ := hx_le (unhide HCB) (6 * q) m hm5
          have hk : 6 * q + (5 - m) < xs.length := by rw [unhide HL]; omega
          have hji : 6 * (q : Int) + (5 - (m : Int)) = ((6 * q + (5 - m) : Nat) : Int) := by omega
          have HS : Hid (hx6 xs (6 * q) (m + 1) = 16 * hx6 xs (6 * q) m + xs[6 * q + (5 - m)]) := hide (by rw [hx6]; simp [List.getD, hk])
          obtain ⟨g0, g1⟩ := ctB_at (unhide HCB) _ hk
          obtain ⟨b, off, rfl, hcl⟩ := (unhide HC).below (unhide HB) _ hk
          have hjl : ((6 * q + (5 - m) : Nat) : Int) < (xs.length : Int) := by omega
          generalize 6 * q + (5 - m) = J at *
          generalize hx6 xs (6 * q) m = V at *
          go_wp2
          go_roundw
          case rel => exact ⟨m + 1, by omega, by go_num, by rw [unhide HS], HO, HB⟩
          case measure => simp [intOf]; omega
        · have HE : Hid (hx6 xs (6 * q) m = (ctNs xs)[q]'(show q < 4 from hlt)) := hide (by rw [show m = 6 by omega, hx_lo]; exact (ctNs_get xs q hlt).symm)
          have HOA := hide ((unhide HO).below (Joins.below_alloc1 _ (.cells #[.int .i64 (hx6 xs (6 * q) m)] 3)))
          have HBA := hide (fr (unhide HB) (Joins.below_alloc1 _ (.cells #[.int .i64 (hx6 xs (6 * q) m)] 3)))
          have HSZ := hide (unhide HB).size
          go_wp2_with (at_builtin; refine wpList_append_one rfl _ _ 44 rfl w.heap.size 3 j0 (.int .i64 0) 1 8 Try.underlying44 hj hy0 hy1 hy2 rfl (by omega) qo q qa (intV ((ctNs xs).take q)) rfl (unhide HOA) (by have := unhide HSZ; simp; omega) ⟨wr.heap.size, 0, none⟩ _ [.int .i64 (hx6 xs (6 * q) m)] rfl rfl (byte_news wr _ _) (int_one _) (by unfold maxLen; omega) (by omega) ?_; intro g2 cap2 wA hoA hkA; have HSF := hide (And.intro hoA (keep_below (unhide HBA) (unhide HOA) (Nat.le_refl _) hkA)); clear hoA hkA)
          go_roundw
          case rel => exact ⟨q + 1, _, _, by omega, by go_num, rfl, hide (.inr ⟨by omega, by rw [take_snoc (show q < 4 from hlt) (unhide HE), intV_snoc]; exact (unhide HSF).1⟩), hide (unhide HSF).2⟩
          case measure => simp [intOf]; omega
    · have hq4 : q = 4 := by omega
      subst hq4
      have HT : Hid ((ctNs xs).take 4 = ctNs xs) := hide rfl
      have HON : Hid (Is wr qo (ctNs xs)) := hide (by have := unhide HO; rw [unhide HT] at this; exact ownRN (xs := ctNs xs) this)
      have HIN : Hid (∀ j (h : j < (ctNs xs).length), 0 ≤ (ctNs xs)[j] ∧ (ctNs xs)[j] ≤ 2147483647) := hide (fun j h => by have := ctNs_in (unhide HCB) j h; omega)
      go_wp2_with fail
      refine (l02Seal_any 2 qo qa (ctNs xs) _ (by omega) (show 4 ≤ 16 by omega) (unhide HIN) (unhide HON)).mono ?_
      rintro e w1 ⟨rfl, hb⟩
      have HBE := hide (fr (unhide HB) hb)
      clear hb
      go_wp2
      go_ret
      exact ⟨rfl, unhide HBE⟩

end Go.Proofs.Ytmkegkpnomcnhab

/- A region that draws its order, whose operations only read, and whose callees may lay memory of their own: one walk in the order of the text, at the class of worlds behind a given one. -/
namespace Go.Proofs.Ytmkegkpnomcnhab
open Go.RowKit
set_option linter.unusedVariables false

section
variable {P : Program} {ops : Array Oper}
abbrev CB (W : World) : World → Prop := fun w => Below W.heap.size W w
theorem quiet_val {W : World} {Q : Act → Prop} {a : Act} {o : Oper} {rest : List Oper} (v : Value) (hg : o.guard = none) (hv : ∀ w, Below W.heap.size W w → (execOp a.eval o).run P w = .ok (.value v) w) (h : wpQuiet P ops (CB W) Q rest (a.put o.dst v)) : wpQuiet P ops (CB W) Q (o :: rest) a := by
  refine wpQuiet_step fun K hK => ?_
  rw [if_pos (by simp [Region.wanted, hg])]
  refine ⟨v, fun w hw => ?_, hK _ h⟩
  unfold Oper.quietAt
  rw [hv w hw]
  exact ⟨rfl, rfl⟩
theorem quiet_call {W : World} {Q : Act → Prop} {a : Act} {o : Oper} {rest : List Oper} (v : Value) (f : FuncId) (args : Array Value) (hg : o.guard = none) (hv : ∀ w, (execOp a.eval o).run P w = .ok (.enter f args) w) (hc : ∀ w, Below W.heap.size W w → Calls P f args w fun e w' => e = .returned v ∧ Below w.heap.size w w') (h : wpQuiet P ops (CB W) Q rest (a.put o.dst v)) : wpQuiet P ops (CB W) Q (o :: rest) a := by
  refine wpQuiet_step fun K hK => ?_
  rw [if_pos (by simp [Region.wanted, hg])]
  refine ⟨v, fun w hw => ?_, hK _ h⟩
  unfold Oper.quietAt
  rw [hv w]
  exact ⟨rfl, (hc w hw).mono fun e w' ⟨he, hb⟩ => ⟨he, fr hw hb⟩⟩
theorem wp_region_cb {id : Nat} {Q : Exit → Act → World → Prop} {a : Act} {w : World} {l : List Oper} (hm : P.follows .mixedOrders = true) (hB : Region.lexB .any l.toArray = true)
    (h : wpQuiet P l.toArray (CB w) (fun a' => ∀ w', Below w.heap.size w w' → Q .normal a' w') l a) : (Code.region id l.toArray true).wp P Q a w :=
  wp_region_quiet (C := CB w) hm hB (Below.refl _ w).drew (by simpa using h)
end

end Go.Proofs.Ytmkegkpnomcnhab

/- Contracts of the model's ReadCluster, WriteCluster. (Made ahead of stage 10.) -/
namespace Go.Proofs.Ytmkegkpnomcnhab
open Go.RowKit
set_option linter.unusedVariables false
set_option maxRecDepth 100000

/-- What the calls answer. -/
def rcA (m : Img) (g : Int) : Int × Int := if imB m = true then (if betw g 0 ((m.table.length : Int) - 1) = true then (imVal m (m.table.getD g.toNat 0), 0) else (0, 4)) else (0, 1)
def wcA (m : Img) (g v : Int) : Img × Int := if imB m = true then (if betw g 0 ((m.table.length : Int) - 1) = true ∧ numB v = true then imWrite m g.toNat v else (m, 4)) else (im0, 1)
def zcA (m : Img) (g : Int) : Img × Int := if imB m = true then (if betw g 0 ((m.table.length : Int) - 1) = true then (imZero m g.toNat, 0) else (m, 4)) else (im0, 1)
def rsA' (m : Img) (n : Int) : Img × Int := if imB m = true then (if betw n 0 12 = true then (imResize m n.toNat, 0) else (m, 4)) else (im0, 1)
/-- The entry's variable, the result's beside it. -/
structure ImE (w W : World) (a : Im4) (m : Img) : Prop where
  v : VarM W w.heap.size 47 (.slice a.ro m.refs.length a.rc) (.slice a.tq m.table.length a.tc) (.slice a.so m.snaps.length a.sc) (.slice a.dq m.data.length a.dc)
  r : VarM W (w.heap.size + 1) 47 (.slice none 0 0) (.slice none 0 0) (.slice none 0 0) (.slice none 0 0)
  s : ImS W a m
  b : Below w.heap.size w W
theorem ImE.new (w : World) (a : Im4) (m : Img) (h : ImS w a m) : ImE w ((w.alloc (.cells #[.slice a.ro m.refs.length a.rc, .slice a.tq m.table.length a.tc, .slice a.so m.snaps.length a.sc, .slice a.dq m.data.length a.dc] 47)).alloc (.cells #[.slice none 0 0, .slice none 0 0, .slice none 0 0, .slice none 0 0] 47)) a m :=
  ⟨(VarM.new w _ _ _ _ _).below (Joins.below_alloc1 _ _), (VarM.new (w.alloc _) _ _ _ _ _).at (by simp), h.below (Joins.below_alloc2 _ _ _), Joins.below_alloc2 _ _ _⟩
theorem ImE.below {w W W' : World} {a : Im4} {m : Img} (h : ImE w W a m) (hb : Below W.heap.size W W') : ImE w W' a m := ⟨h.v.below hb, h.r.below hb, h.s.below hb, fr h.b hb⟩
/-- A result that is put. -/
theorem ImE.put {w W W' : World} {a : Im4} {m : Img} (h : ImE w W a m) (hb : Below W.heap.size W W') {a' : Im4} {m' : Img} {ts : List Value} (ho : OwnIm W' W.heap.size a' m' ts) :
    VarM (putI W' (w.heap.size + 1) a' m') (w.heap.size + 1) 47 (.slice a'.ro m'.refs.length a'.rc) (.slice a'.tq m'.table.length a'.tc) (.slice a'.so m'.snaps.length a'.sc) (.slice a'.dq m'.data.length a'.dc) ∧ OwnIm (putI W' (w.heap.size + 1) a' m') w.heap.size a' m' ts ∧ Below w.heap.size w (putI W' (w.heap.size + 1) a' m') := by
  obtain ⟨h1, h2, h3⟩ := ImSt.put (h.r.below hb) ho (fr h.b hb) (Nat.le_succ _) h.r.lt a' m'
  exact ⟨h1, h2.base h.b.size, h3⟩
/-- The empty image as a result. -/
theorem ImE.zero {w W : World} {a : Im4} {m : Img} (h : ImE w W a m) :
    VarM ((((W.setCell ⟨w.heap.size + 1, 0, none⟩ (.slice none 0 0)).setCell ⟨w.heap.size + 1, 1, none⟩ (.slice none 0 0)).setCell ⟨w.heap.size + 1, 2, none⟩ (.slice none 0 0)).setCell ⟨w.heap.size + 1, 3, none⟩ (.slice none 0 0)) (w.heap.size + 1) 47 (.slice none 0 0) (.slice none 0 0) (.slice none 0 0) (.slice none 0 0) ∧
    Below w.heap.size w ((((W.setCell ⟨w.heap.size + 1, 0, none⟩ (.slice none 0 0)).setCell ⟨w.heap.size + 1, 1, none⟩ (.slice none 0 0)).setCell ⟨w.heap.size + 1, 2, none⟩ (.slice none 0 0)).setCell ⟨w.heap.size + 1, 3, none⟩ (.slice none 0 0)) :=
  ⟨(((h.r.set0 _).set1 _).set2 _).set3 _, (((h.b.setCell (p := ⟨w.heap.size + 1, 0, none⟩) (Nat.le_succ _) _).setCell (p := ⟨w.heap.size + 1, 1, none⟩) (Nat.le_succ _) _).setCell (p := ⟨w.heap.size + 1, 2, none⟩) (Nat.le_succ _) _).setCell (p := ⟨w.heap.size + 1, 3, none⟩) (Nat.le_succ _) _⟩
/-- An answer: an image of its own and a code. -/
def AnsI (w w' : World) (e : Ending) (R : Img × Int) : Prop := ∃ a ts, e = .returned (.tuple #[imV a R.1, .int .i64 R.2]) ∧ OwnIm w' w.heap.size a R.1 ts ∧ Below w.heap.size w w'
theorem AnsI.of {w w' : World} {v : Value} {c : Int} {R : Img × Int} {a : Im4} {ts : List Value} (hv : v = imV a R.1) (hc : c = R.2) (ho : OwnIm w' w.heap.size a R.1 ts) (hb : Below w.heap.size w w') : AnsI w w' (.returned (.tuple #[v, .int .i64 c])) R := ⟨a, ts, by rw [hv, hc], ho, hb⟩
theorem AnsI.bad {w w' : World} (c : Int) (hb : Below w.heap.size w w') : AnsI w w' (.returned (.tuple #[.agg #[.slice none 0 0, .slice none 0 0, .slice none 0 0, .slice none 0 0], .int .i64 c])) (im0, c) := ⟨⟨none, 0, none, 0, none, 0, none, 0⟩, [], rfl, OwnIm.zero _ _, hb⟩

end Go.Proofs.Ytmkegkpnomcnhab

/- Counts out of their record, plainly. -/
namespace Go.Proofs.Ytmkegkpnomcnhab
open Go.RowKit
set_option linter.unusedVariables false
set_option maxRecDepth 100000

/-- The first counts of a number, and what is left of it. -/
def sxT (p : Int) (m : Nat) : List Int := (List.range m).map fun i => p / 16 ^ i % 16
theorem sxT_len (p : Int) (m : Nat) : (sxT p m).length = m := by simp [sxT]
theorem sxT_succ (p : Int) (m : Nat) : sxT p (m + 1) = sxT p m ++ [p / 16 ^ m % 16] := by simp [sxT, List.range_succ]
theorem rest_succ (p : Int) (m : Nat) : p / 16 ^ m / 16 = p / 16 ^ (m + 1) := by
  rw [show (16 : Int) ^ (m + 1) = 16 ^ m * 16 from Int.pow_succ 16 m, Int.ediv_ediv_of_nonneg (by exact Int.le_of_lt (Int.pow_pos (by omega)))]
theorem rest_in {p : Int} (h0 : 0 ≤ p) (h1 : p ≤ 2147483647) : ∀ m, 0 ≤ p / 16 ^ m ∧ p / 16 ^ m ≤ 2147483647
  | 0 => by simpa using ⟨h0, h1⟩
  | m + 1 => by
    obtain ⟨g0, g1⟩ := rest_in h0 h1 m
    rw [← rest_succ]
    generalize p / 16 ^ m = V at *
    omega
/-- The counts of the first numbers. -/
def sxA (ns : List Int) (i : Nat) : List Int := (ns.take i).flatMap fun p => sxT p 6
theorem sxA_len (ns : List Int) : ∀ i, i ≤ ns.length → (sxA ns i).length = 6 * i
  | 0, _ => by simp [sxA]
  | i + 1, h => by
    have := sxA_len ns i (by omega)
    unfold sxA at *
    rw [List.take_succ_eq_append_getElem (by omega), List.flatMap_append, List.length_append, this]
    simp [sxT_len]; omega
theorem sxA_succ {ns : List Int} {i : Nat} (h : i < ns.length) : sxA ns i ++ sxT ns[i] 6 = sxA ns (i + 1) := by
  unfold sxA
  rw [List.take_succ_eq_append_getElem h, List.flatMap_append]; simp
/-- A list of 24: what is there, and zeros behind it. -/
def pad24 (xs : List Int) : List Int := xs ++ List.replicate (24 - xs.length) 0
theorem pad_len {xs : List Int} (h : xs.length ≤ 24) : (pad24 xs).length = 24 := by simp [pad24]; omega
theorem pad_nil : pad24 [] = zero24 := rfl
theorem pad_full {xs : List Int} (h : xs.length = 24) : pad24 xs = xs := by simp [pad24, h]
theorem pad_set {xs : List Int} (h : xs.length < 24) (n : Int) : (pad24 xs).set xs.length n = pad24 (xs ++ [n]) := by
  unfold pad24
  rw [List.set_append, if_neg (by omega), Nat.sub_self, List.append_assoc]
  obtain ⟨k, hk⟩ : ∃ k, 24 - xs.length = k + 1 := ⟨24 - xs.length - 1, by omega⟩
  rw [hk, List.replicate_succ, List.set_cons_zero, List.length_append, show 24 - (xs.length + [n].length) = k by simp; omega]
  rfl
/-- What a text says of counts. -/
def cdN (p : Int) : Bool := decide (p / 16 ^ 6 = 0)
def cdB (s : ByteArray) : Bool := openB s 2 && decide ((openL s 2).length = 4) && (openL s 2).all cdN
def cdL (s : ByteArray) : List Int := sxA (openL s 2) 4
def cdC (s : ByteArray) : Int := if 65536 < s.size then 2 else if cdB s = true then 0 else 3
def cdR (s : ByteArray) : List Int := if cdC s = 0 then cdL s else []
theorem cd_open {s : ByteArray} (h : openB s 2 = false) : cdB s = false := by rw [cdB, h]; rfl
theorem cd_len {s : ByteArray} (h : ¬ (openL s 2).length = 4) : cdB s = false := by rw [cdB, decide_eq_false h]; simp
theorem cd_num {s : ByteArray} {k : Nat} (hk : k < (openL s 2).length) (h : cdN (openL s 2)[k] = false) : cdB s = false := by rw [cdB, all_not (p := cdN) hk h]; simp
theorem cd_yes {s : ByteArray} (h : openB s 2 = true) (hl : (openL s 2).length = 4) (ha : ∀ j (hj : j < (openL s 2).length), cdN (openL s 2)[j] = true) : cdB s = true := by
  rw [cdB, h, decide_eq_true hl, all_of (p := cdN) (fun i hi _ => ha i hi)]; rfl
theorem cdB_parts {s : ByteArray} (h : cdB s = true) : openB s 2 = true ∧ (openL s 2).length = 4 ∧ ∀ j (hj : j < (openL s 2).length), cdN (openL s 2)[j] = true := by
  simp only [cdB, Bool.and_eq_true, decide_eq_true_eq, List.all_eq_true] at h
  exact ⟨h.1.1, h.1.2, fun j hj => h.2 _ (List.getElem_mem hj)⟩
theorem cdL_len {s : ByteArray} (h : cdB s = true) : (cdL s).length = 24 := by
  obtain ⟨_, h4, _⟩ := cdB_parts h
  rw [cdL, sxA_len _ _ (by omega)]
theorem cd_long {s : ByteArray} (h : 65536 < s.size) : cdC s = 2 ∧ cdR s = [] := by
  have e : cdC s = 2 := if_pos h
  exact ⟨e, by rw [cdR, e]; rfl⟩
theorem cd_no {s : ByteArray} (h : ¬ 65536 < s.size) (hb : cdB s = false) : cdC s = 3 ∧ cdR s = [] := by
  have e : cdC s = 3 := by rw [cdC, if_neg h, hb]; rfl
  exact ⟨e, by rw [cdR, e]; rfl⟩
theorem cd_ok {s : ByteArray} (h : ¬ 65536 < s.size) (hb : cdB s = true) : cdC s = 0 ∧ cdR s = cdL s := by
  have e : cdC s = 0 := by rw [cdC, if_neg h, hb]; rfl
  exact ⟨e, by rw [cdR, e]; rfl⟩
theorem cdR_len (s : ByteArray) : (cdR s).length ≤ 24 := by
  by_cases h : 65536 < s.size
  · rw [(cd_long h).2]; exact Nat.zero_le _
  · cases hb : cdB s
    · rw [(cd_no h hb).2]; exact Nat.zero_le _
    · rw [(cd_ok h hb).2, cdL_len hb]; exact Nat.le_refl _
theorem openL_in {s : ByteArray} {k : Int} (h : openB s k = true) : ∀ j (hj : j < (openL s k).length), 0 ≤ (openL s k)[j] ∧ (openL s k)[j] ≤ 2147483647 := by
  intro j hj
  have hr : RecP s := by
    cases hq : recB s
    · rw [openB, hq] at h; cases h
    · exact recB_iff.1 hq
  rw [openL_yes h] at hj
  simp only [openL_yes h]
  have hu : okU (bodyT s) = true := hr.2.2.2.2.2
  exact (intsB_parts (okU_parts hu).2.2).1 j hj

end Go.Proofs.Ytmkegkpnomcnhab
