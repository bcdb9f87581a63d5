import Derived.Test.YthnpooffhopnkacRows
import Derived.Test.YthnpooffhopnkacPart1
import Derived.Test.YthnpooffhopnkacPart2
import Derived.Test.YthnpooffhopnkacPart4
import Derived.Test.YthnpooffhopnkacPart5
import Derived.Test.YthnpooffhopnkacPart7
import Derived.Test.YthnpooffhopnkacPart11
import Derived.Test.YthnpooffhopnkacPart12
import Derived.Test.YthnpooffhopnkacPart15
import Derived.Test.YthnpooffhopnkacPart16
import Derived.Test.YthnpooffhopnkacIgL
import Derived.WalkKit
import Derived.WalkSpells
import Derived.KernelRfl
import Derived.Test.YthnpooffhopnkacPart3
import Derived.Test.YthnpooffhopnkacPart6
import Derived.Test.YthnpooffhopnkacPart14
import Derived.BigQuiet
import Derived.Deep.QuietTactic
import Derived.Deep.RegionWith
import Derived.Deep.RegionHeld3

/- The contract of impl.changeImage, whatever the change. -/
namespace Go.Proofs.Ythnpooffhopnkac
open Go.RowKit
set_option linter.unusedVariables false
set_option maxRecDepth 100000

/-- An image of the call's own in a variable of its own. -/
structure Hld (W : World) (p B : Nat) (a : Im4) (m : Img) (ts : List Value) : Prop where
  v : VarM W p 26 (.slice a.ro m.refs.length a.rc) (.slice a.tq m.table.length a.tc) (.slice a.so m.snaps.length a.sc) (.slice a.dq m.data.length a.dc)
  o : OwnIm W B a m ts
  p : B ≤ p
theorem Hld.below {W W' : World} {p B : Nat} {a : Im4} {m : Img} {ts : List Value} (h : Hld W p B a m ts) (hb : Below W.heap.size W W') : Hld W' p B a m ts := ⟨h.v.below hb, h.o.below hb, h.p⟩
/-- What a change does. -/
def Chg (W W' : World) (p B : Nat) (e : Ending) (c : Int) (m1 : Img) : Prop := e = .returned (.int .i64 c) ∧ ∃ a2 ts2, Hld W' p B a2 m1 ts2 ∧ Below B W W'
/-- What must be known of an image for its counts to follow its tables. -/
structure FitR (m : Img) : Prop where
  r : m.refs.length = 24
  d : m.data.length = 24
  s : m.snaps.length ≤ 3
  t : ∀ t ∈ imTabs m, tbB t = true
  z : ∀ s ∈ m.snaps, s.name.size ≤ maxLen ∧ s.table.length ≤ maxLen

set_option maxHeartbeats 3200000 in
theorem changeImage_any (a : Im4) (m : Img) (F : FuncId) (caps : Array Value) (m1 : Img) (c : Int) (w : World) (hL : ImL m) (hc : ImS w a m)
    (hcf : ∀ (args : Array Value) (W : World), (callFunc F args).run Try.prog W = .ok (.enter F args) W)
    (hch : imB m = true → FitR m1 ∧ ∀ (W : World) (p B : Nat) (a1 : Im4) (ts1 : List Value), Below w.heap.size w W → w.heap.size ≤ B → B ≤ W.heap.size → Hld W p B a1 m ts1 → (m.snaps.length = 0 → a1.sc = 0) → Calls Try.prog F (#[.pointer (some ⟨p, 0, none⟩)] ++ caps) W fun e W' => Chg W W' p B e c m1) :
    Calls Try.prog 22 #[imV a m, .func (.func F) #[] caps] w fun e w' => AnsI w w' e (if imB m = true then (imFit m1, c) else (im0, 1)) := by
  have HE := hide (ImE.new w a m hc)
  have HL := hide hL
  have HCH := hide hch
  obtain ⟨R, HR⟩ : ∃ R, Hid (R = if imB m = true then (imFit m1, c) else (im0, 1)) := ⟨_, rfl⟩
  rw [← unhide HR]
  clear hc hL hch
  go_enter Try.func22, Try.ntmps22
  go_upto_region 1 with fail
  revert HE
  generalize ((w.alloc _).alloc _) = W0
  intro HE
  obtain ⟨c0, c1, c2, c3⟩ := (unhide HE).v.cells
  go_wp2_with fail
  refine (imageOK_impl a m _ (unhide HL) (unhide HE).s).mono ?_
  rintro e w1 ⟨rfl, hb⟩
  have HE1 := hide ((unhide HE).below hb)
  clear hb c0 c1 c2 c3 HE
  obtain ⟨c0, c1, c2, c3⟩ := (unhide HE1).v.cells
  obtain ⟨r0, r1, r2, r3⟩ := (unhide HE1).r.cells
  obtain ⟨z0, z1, z2, z3⟩ := (unhide HE1).r.free
  cases him : imB m
  · have HX : Hid (R = (im0, 1)) := hide (by rw [unhide HR, him]; rfl)
    have HZ := hide (unhide HE1).zero
    go_wp2
    refine bodyPost_ret (res_ic Try.results22 rfl rfl (unhide HZ).1) rfl ?_
    rw [unhide HX]
    exact AnsI.bad 1 (unhide HZ).2
  have HM := hide (imB_iff.1 him).M
  have HX : Hid (R = (imFit m1, c)) := hide (by rw [unhide HR, him]; rfl)
  have HCC := hide (unhide HCH him)
  clear him HR HCH r0 r1 r2 r3 z0 z1 z2 z3
  go_wp2_with fail
  refine (copyImage_full a m _ ⟨by rw [(unhide HM).r]; omega, by have := (unhide HM).t; omega, by rw [(unhide HM).d]; omega⟩ (fun s hs => by have := ((unhide HM).st s hs).1; omega) (by have := (unhide HM).s; omega) (unhide HE1).s).mono ?_
  rintro e w2 ⟨a1, ts1, rfl, ⟨ho, hc0⟩, hb⟩
  have HC0 := hide hc0
  clear hc0
  have HB2 := hide (fr (unhide HE1).b hb)
  have HR2 := hide ((unhide HE1).r.below hb)
  have HSZ := hide (And.intro (unhide HE1).r.lt hb.size)
  have HA2 := hide (Joins.below_alloc1 w2 (.cells #[.slice a1.ro m.refs.length a1.rc, .slice a1.tq m.table.length a1.tc, .slice a1.so m.snaps.length a1.sc, .slice a1.dq m.data.length a1.dc] 26))
  have HH2 : Hid (Hld (w2.alloc (.cells #[.slice a1.ro m.refs.length a1.rc, .slice a1.tq m.table.length a1.tc, .slice a1.so m.snaps.length a1.sc, .slice a1.dq m.data.length a1.dc] 26)) w2.heap.size w1.heap.size a1 m ts1) := hide ⟨VarM.new w2 _ _ _ _ _, ho.below (unhide HA2), hb.size⟩
  clear ho hb c0 c1 c2 c3
  go_upto_region 4 with fail
  revert HA2 HH2
  generalize (w2.alloc _) = w3
  intro HA2 HH2
  go_wp2_with fail
  refine ((unhide HCC).2 w3 w2.heap.size w1.heap.size a1 ts1 (fr (unhide HB2) (unhide HA2)) (unhide HE1).b.size (Nat.le_trans (unhide HSZ).2 (unhide HA2).size) (unhide HH2) (unhide HC0)).mono ?_
  rintro e w4 ⟨rfl, a2, ts2, hh4, hb4⟩
  have HH4 := hide hh4
  have HB4 : Hid (Below w.heap.size w w4) := hide ((fr (unhide HB2) (unhide HA2)).trans (hb4.mono (unhide HE1).b.size))
  have HR4 : Hid (VarM w4 (w.heap.size + 1) 26 (.slice none 0 0) (.slice none 0 0) (.slice none 0 0) (.slice none 0 0)) := hide ((hb4.block _ (unhide HSZ).1).trans ((unhide HR2).below (unhide HA2)))
  clear hh4 hb4 HB2 HR2 HA2 HH2
  have HFR := hide (unhide HCC).1
  clear HCC
  go_wp2_with fail
  refine (fitToTables_any a2 m1 ts2 _ _ _ (unhide HFR).r (unhide HFR).d (unhide HFR).s (unhide HFR).t (unhide HFR).z (unhide HH4).v (unhide HH4).o).mono ?_
  rintro e w5 ⟨rfl, ho5, hk5⟩
  have HV5 := hide ((unhide HH4).v.keepIm (unhide HH4).o hk5)
  have HR5 := hide ((unhide HR4).keepIm (unhide HH4).o hk5)
  have HB5 : Hid (Below w.heap.size w w5) := hide ((unhide HB4).trans (hk5.below (unhide HB4).size (fun g hg => Nat.le_trans (unhide HE1).b.size ((unhide HH4).o.ge g hg).1)))
  have HPT := hide (ImSt.put (unhide HR5) ho5 (unhide HB5) (Nat.le_succ _) (unhide HSZ).1 a2 m1)
  have HLE : Hid (imV a2 m1 = imV a2 (imFit m1)) := hide (by
    have e1 : (imFit m1).refs.length = m1.refs.length := by rw [(unhide HFR).r]; exact imCnt_len m1
    have e2 : (imFit m1).data.length = m1.data.length := by rw [(unhide HFR).d]; simp [imFit]
    rw [imV, imV, e1, e2]; rfl)
  clear ho5 hk5 HB4 HR4 HH4
  obtain ⟨c0, c1, c2, c3⟩ := (unhide HV5).cells
  obtain ⟨r0, r1, r2, r3⟩ := (unhide HR5).cells
  obtain ⟨z0, z1, z2, z3⟩ := (unhide HR5).free
  go_wp2
  refine bodyPost_ret (res_ic Try.results22 rfl rfl (unhide HPT).1) rfl ?_
  rw [unhide HX]
  exact AnsI.of (R := (imFit m1, c)) (unhide HLE) rfl ((unhide HPT).2.1.base (unhide HE1).b.size) (unhide HPT).2.2

end Go.Proofs.Ythnpooffhopnkac

/- Plain: counts that follow the tables are those that the model reckons. -/
namespace Go.Proofs.Ythnpooffhopnkac
open Go.RowKit
set_option linter.unusedVariables false
set_option maxRecDepth 100000

/-- How often a table has a cluster. -/
def cN (t : List Int) (i : Nat) : Int := (t.count ((i : Int) + 2) : Int)
theorem cN_nn (t : List Int) (i : Nat) : 0 ≤ cN t i := by unfold cN; omega
theorem clA_count (t : List Int) (i : Nat) : ((clA t).count (i : Int) : Int) = cN t i := by
  unfold clA clTo cN
  rw [List.take_length]
  induction t with
  | nil => rfl
  | cons e t ih =>
    rw [List.filterMap_cons, List.count_cons]
    by_cases h : 2 ≤ e
    · rw [if_pos h]
      simp only [List.count_cons]
      by_cases h2 : e = (i : Int) + 2
      · have h3 : e - 2 = (i : Int) := by omega
        simp [h2]; omega
      · have h3 : ¬ (e - 2 = (i : Int)) := by omega
        simp [h2, h3]; omega
    · rw [if_neg h]
      have h2 : ¬ (e = (i : Int) + 2) := by omega
      simp [h2]; omega
/-- .. all tables together. -/
def sN (ts : List (List Int)) (i : Nat) : Int := (ts.map fun t => cN t i).sum
theorem sN_nn (ts : List (List Int)) (i : Nat) : 0 ≤ sN ts i := by
  unfold sN
  induction ts with
  | nil => exact Int.le_refl _
  | cons t ts ih => rw [List.map_cons, List.sum_cons]; have := cN_nn t i; omega
theorem fold_cnt (i : Nat) (hi : i < 24) : ∀ (ts : List (List Int)), (∀ t ∈ ts, tbB t = true) → ∀ ns : List Int, ns.length = 24 → (ts.foldl cnt1T ns).getD i 0 = ns.getD i 0 + sN ts i := by
  intro ts
  induction ts with
  | nil => intro _ ns _; simp [sN]
  | cons t ts ih =>
    intro ht ns hl
    rw [List.foldl_cons, ih (fun x hx => ht x (by simp [hx])) _ (by rw [cnt1T_len]; exact hl), cnt1T_get (ht t (by simp)) hl hi, clA_count]
    simp only [sN, List.map_cons, List.sum_cons]
    omega
theorem cnt_get {m : Img} (ht : ∀ t ∈ imTabs m, tbB t = true) {i : Nat} (hi : i < 24) : (imCnt m).getD i 0 = sN (imTabs m) i := by
  unfold imCnt
  rw [fold_cnt i hi _ ht _ rfl, zero24_get hi]; omega
theorem ImR.tabs {m : Img} (h : ImR m) : ∀ t ∈ imTabs m, tbB t = true := fun t ht => by
  unfold imTabs at ht
  rw [List.mem_cons, List.mem_map] at ht
  rcases ht with rfl | ⟨s, hs, rfl⟩
  · exact h.table
  · exact (h.snaps s hs).2
theorem ImR.cntA {m : Img} (h : ImR m) {i : Nat} (hi : i < 24) : m.refs.getD i 0 = sN (imTabs m) i := by rw [← h.cnt]; exact cnt_get h.tabs hi
theorem ImR.rl {m : Img} (h : ImR m) : m.refs.length = 24 := ctB_len h.refs
theorem sN_cons (t : List Int) (ts : List (List Int)) (i : Nat) : sN (t :: ts) i = cN t i + sN ts i := rfl
theorem sN_tabs (m : Img) (i : Nat) : sN (imTabs m) i = cN m.table i + sN (m.snaps.map (·.table)) i := rfl
/-- A right image is as its tables have it. -/
theorem fit_self {m : Img} (h : ImR m) : imFit m = m := by
  have e2 : ((List.range 24).map fun i => if (imCnt m).getD i 0 = 0 then 0 else m.data.getD i 0) = m.data := getD_ext (by simp) h.len (fun i hi => by
    rw [range_getD hi, h.cnt]
    split
    · rename_i hz; exact (h.clear i hi hz).symm
    · rfl)
  unfold imFit
  rw [e2, h.cnt]
theorem img_eq {m n : Img} (h1 : m.refs = n.refs) (h2 : m.table = n.table) (h3 : m.snaps = n.snaps) (h4 : m.data = n.data) : m = n := by
  cases m; cases n; simp only at h1 h2 h3 h4; subst h1 h2 h3 h4; rfl
/-- What fits, cluster by cluster. -/
theorem fit_eq {m1 n : Img} (ht : ∀ t ∈ imTabs m1, tbB t = true) (hr : n.refs.length = 24) (hd : n.data.length = 24) (h2 : m1.table = n.table) (h3 : m1.snaps = n.snaps) (hR : ∀ i, i < 24 → n.refs.getD i 0 = sN (imTabs m1) i) (hD : ∀ i, i < 24 → n.data.getD i 0 = if sN (imTabs m1) i = 0 then 0 else m1.data.getD i 0) : imFit m1 = n := by
  refine img_eq ?_ h2 h3 ?_
  · exact getD_ext (imCnt_len m1) hr (fun i hi => by rw [hR i hi]; exact cnt_get ht hi)
  · refine getD_ext (by simp [imFit]) hd (fun i hi => ?_)
    rw [hD i hi]
    unfold imFit
    simp only
    rw [range_getD hi, cnt_get ht hi]
/-- A cluster that a table has no more. -/
theorem drop_get {m : Img} (hr : m.refs.length = 24) (hd : m.data.length = 24) (e : Int) {i : Nat} (hi : i < 24) : (imDrop m e).refs.getD i 0 = m.refs.getD i 0 - (if e = (i : Int) + 2 then 1 else 0) ∧ (imDrop m e).data.getD i 0 = if e = (i : Int) + 2 ∧ m.refs.getD i 0 = 1 then 0 else m.data.getD i 0 := by
  by_cases h : e < 2
  · have e1 : imDrop m e = m := if_pos h
    rw [e1, if_neg (by omega), if_neg (by omega)]
    exact ⟨by omega, rfl⟩
  · unfold imDrop
    rw [if_neg h]
    simp only
    by_cases h2 : e = (i : Int) + 2
    · have h3 : (e - 2).toNat = i := by omega
      rw [h3]
      constructor
      · simp [List.getD, hr, hi, h2]
      · by_cases h4 : m.refs.getD i 0 = 1
        · rw [if_pos (by omega), if_pos ⟨h2, h4⟩]
          simp [List.getD, hd, hi]
        · rw [if_neg (by omega), if_neg (fun h => h4 h.2)]
    · have h3 : (e - 2).toNat ≠ i := by omega
      constructor
      · simp [List.getD, h3, h2]
      · have hR : (if e = (i : Int) + 2 ∧ m.refs.getD i 0 = 1 then 0 else m.data.getD i 0) = m.data.getD i 0 := if_neg (fun h => h2 h.1)
        rw [hR]
        split
        · simp [List.getD, h3]
        · rfl
theorem drops_lens (m : Img) : ∀ es : List Int, (imDrops m es).refs.length = m.refs.length ∧ (imDrops m es).data.length = m.data.length ∧ (imDrops m es).table = m.table ∧ (imDrops m es).snaps = m.snaps := by
  intro es
  unfold imDrops
  induction es generalizing m with
  | nil => exact ⟨rfl, rfl, rfl, rfl⟩
  | cons e es ih =>
    obtain ⟨h1, h2, h3, h4⟩ := ih (imDrop m e)
    rw [List.foldl_cons]
    exact ⟨h1.trans (imDrop_refs m e), h2.trans (imDrop_data m e), h3.trans (imDrop_table m e).1, h4.trans (imDrop_table m e).2⟩
theorem drops_get {i : Nat} (hi : i < 24) : ∀ (es : List Int) (m : Img), m.refs.length = 24 → m.data.length = 24 → (imDrops m es).refs.getD i 0 = m.refs.getD i 0 - cN es i ∧ (imDrops m es).data.getD i 0 = if 1 ≤ m.refs.getD i 0 ∧ m.refs.getD i 0 ≤ cN es i then 0 else m.data.getD i 0 := by
  intro es
  induction es with
  | nil =>
    intro m _ _
    refine ⟨by simp [imDrops, cN], ?_⟩
    rw [if_neg (by simp only [cN, List.count_nil]; omega)]; rfl
  | cons e es ih =>
    intro m hr hd
    obtain ⟨h1, h2⟩ := drop_get hr hd e hi
    obtain ⟨h3, h4⟩ := ih (imDrop m e) (by rw [imDrop_refs]; exact hr) (by rw [imDrop_data]; exact hd)
    have hf : imDrops m (e :: es) = imDrops (imDrop m e) es := rfl
    have hc : cN (e :: es) i = cN es i + (if e = (i : Int) + 2 then 1 else 0) := by
      unfold cN
      rw [List.count_cons]
      by_cases h : e = (i : Int) + 2
      · simp [h]
      · simp [h]
    have hn := cN_nn es i
    rw [hf, h3, h4, h1, h2, hc]
    by_cases h : e = (i : Int) + 2
    · simp only [h, if_true, true_and]
      refine ⟨by omega, ?_⟩
      by_cases hx : 1 ≤ m.refs.getD i 0 ∧ m.refs.getD i 0 ≤ cN es i + 1
      · rw [if_pos hx]
        split
        · rfl
        · rw [if_pos (by omega)]
      · rw [if_neg hx, if_neg (by omega), if_neg (by omega)]
    · simp only [h, if_false, false_and]
      exact ⟨by omega, by simp⟩
/-- A table of which one entry is set. -/
theorem cN_set {t : List Int} {g : Nat} (hg : g < t.length) (e : Int) (i : Nat) : cN (t.set g e) i = cN t i - (if t[g] = (i : Int) + 2 then 1 else 0) + (if e = (i : Int) + 2 then 1 else 0) := by
  unfold cN
  rw [List.count_set hg]
  have hp : t[g] = (i : Int) + 2 → 0 < t.count ((i : Int) + 2) := fun h => List.count_pos_iff.2 (h ▸ List.getElem_mem hg)
  by_cases h : t[g] = (i : Int) + 2
  · have := hp h
    by_cases h2 : e = (i : Int) + 2
    · simp [h, h2]; omega
    · simp [h, h2]; omega
  · by_cases h2 : e = (i : Int) + 2
    · simp [h, h2]
    · simp [h, h2]
theorem cN_pos {t : List Int} {g i : Nat} (hg : g < t.length) (h : t[g] = (i : Int) + 2) : 1 ≤ cN t i := by
  unfold cN
  have : 0 < t.count ((i : Int) + 2) := List.count_pos_iff.2 (h ▸ List.getElem_mem hg)
  omega
theorem tbB_set {t : List Int} (h : tbB t = true) (g : Nat) {e : Int} (h0 : 0 ≤ e) (h1 : e ≤ 25) : tbB (t.set g e) = true := by
  refine tbB_of (by rw [List.length_set]; exact tbB_len h) (fun i hi => ?_)
  rw [List.getElem_set]
  split
  · exact betw_iff.2 ⟨h0, h1⟩
  · exact betw_iff.2 (tbB_at h i (by simpa using hi))
theorem tabs_with {m : Img} (h : ImR m) {t : List Int} (ht : tbB t = true) (d : List Int) : ∀ x ∈ imTabs { m with table := t, data := d }, tbB x = true := fun x hx => by
  have hx' : x ∈ t :: m.snaps.map (·.table) := hx
  rw [List.mem_cons] at hx'
  rcases hx' with rfl | hx'
  · exact ht
  · exact h.tabs x (by unfold imTabs; exact List.mem_cons_of_mem _ hx')
theorem fit_zero {m : Img} (h : ImR m) {g : Nat} (hg : g < m.table.length) : imFit { m with table := m.table.set g 1 } = imZero m g := by
  have ht := tbB_set h.table g (e := 1) (by omega) (by omega)
  have hgd : m.table.getD g 0 = m.table[g] := by simp [List.getD, hg]
  have hcs : ∀ i, sN (imTabs { m with table := m.table.set g 1 }) i = sN (imTabs m) i - (if m.table[g] = (i : Int) + 2 then 1 else 0) := fun i => by
    have e : sN (imTabs { m with table := m.table.set g 1 }) i = cN (m.table.set g 1) i + sN (m.snaps.map (·.table)) i := rfl
    rw [e, cN_set hg, sN_tabs, if_neg (show ¬ (1 : Int) = (i : Int) + 2 by omega)]
    omega
  refine fit_eq (tabs_with h ht m.data) ?_ ?_ ?_ ?_ (fun i hi => ?_) (fun i hi => ?_)
  · show (imDrop m _).refs.length = 24; rw [imDrop_refs]; exact h.rl
  · show (imDrop m _).data.length = 24; rw [imDrop_data]; exact h.len
  · show m.table.set g 1 = (imDrop m _).table.set g 1; rw [(imDrop_table m _).1]
  · show m.snaps = (imDrop m _).snaps; rw [(imDrop_table m _).2]
  · show (imDrop m _).refs.getD i 0 = _
    rw [(drop_get h.rl h.len _ hi).1, hcs, h.cntA hi, hgd]
  · show (imDrop m _).data.getD i 0 = _
    rw [(drop_get h.rl h.len _ hi).2, hcs, ← h.cntA hi, hgd]
    by_cases h1 : m.table[g] = (i : Int) + 2
    · simp only [h1, true_and, if_true]
      by_cases h2 : m.refs.getD i 0 = 1
      · rw [if_pos h2, if_pos (by omega)]
      · rw [if_neg h2, if_neg (by omega)]
    · simp only [h1, false_and, if_false]
      by_cases h2 : m.refs.getD i 0 = 0
      · rw [if_pos (by omega), h.clear i hi h2]
      · rw [if_neg (by omega)]

/-- Written in place. -/
theorem fit_in {m : Img} (h : ImR m) {g c : Nat} (v : Int) (hg : g < m.table.length) (hc : m.table[g] = (c : Int) + 2) (h1 : m.refs.getD c 0 = 1) : imFit { m with table := m.table.set g (2 + (c : Int)), data := m.data.set c v } = { m with data := m.data.set c v } := by
  have hset : m.table.set g (2 + (c : Int)) = m.table := by
    rw [show (2 : Int) + (c : Int) = m.table[g] by omega]
    exact List.set_getElem_self hg
  have hb := tbB_at h.table g hg
  rw [hset]
  refine fit_eq (n := { m with data := m.data.set c v }) (tabs_with h h.table _) h.rl (by simp [h.len]) rfl rfl (fun i hi => h.cntA hi) (fun i hi => ?_)
  have e : sN (imTabs { m with data := m.data.set c v }) i = sN (imTabs m) i := rfl
  rw [e, ← h.cntA hi]
  by_cases hz : m.refs.getD i 0 = 0
  · rw [if_pos hz]
    have hne : c ≠ i := fun e => by rw [e, hz] at h1; cases h1
    have e2 : (m.data.set c v).getD i 0 = m.data.getD i 0 := by simp [List.getD, hne]
    exact e2.trans (h.clear i hi hz)
  · rw [if_neg hz]
theorem free_spec {xs : List Int} (h : frN xs < xs.length) : xs.getD (frN xs) 0 = 0 := by
  unfold frN at h ⊢
  have := List.findIdx_getElem (w := h)
  simpa [List.getD, h] using this
/-- Written into a free cluster. -/
theorem fit_out {m : Img} (h : ImR m) {g c : Nat} (v : Int) (hg : g < m.table.length) (hc : c < 24) (h0 : m.refs.getD c 0 = 0) : imFit { m with table := m.table.set g (2 + (c : Int)), data := m.data.set c v } = { imDrop m m.table[g] with refs := (imDrop m m.table[g]).refs.set c 1, data := (imDrop m m.table[g]).data.set c v, table := (imDrop m m.table[g]).table.set g (2 + (c : Int)) } := by
  have ht := tbB_set h.table g (e := 2 + (c : Int)) (by omega) (by omega)
  have hcs : ∀ i, sN (imTabs { m with table := m.table.set g (2 + (c : Int)), data := m.data.set c v }) i = sN (imTabs m) i - (if m.table[g] = (i : Int) + 2 then 1 else 0) + (if c = i then 1 else 0) := fun i => by
    have e : sN (imTabs { m with table := m.table.set g (2 + (c : Int)), data := m.data.set c v }) i = cN (m.table.set g (2 + (c : Int))) i + sN (m.snaps.map (·.table)) i := rfl
    rw [e, cN_set hg, sN_tabs]
    by_cases hci : c = i
    · rw [if_pos hci, if_pos (show (2 : Int) + (c : Int) = (i : Int) + 2 by omega)]; omega
    · rw [if_neg hci, if_neg (show ¬ (2 : Int) + (c : Int) = (i : Int) + 2 by omega)]; omega
  have hne : ¬ m.table[g] = (c : Int) + 2 := fun e => by
    have h1 := cN_pos hg e
    have h2 := h.cntA hc
    have h3 := sN_nn (m.snaps.map (·.table)) c
    rw [sN_tabs] at h2
    omega
  refine fit_eq (tabs_with h ht _) ?_ ?_ ?_ ?_ (fun i hi => ?_) (fun i hi => ?_)
  · show ((imDrop m _).refs.set c 1).length = 24; rw [List.length_set, imDrop_refs]; exact h.rl
  · show ((imDrop m _).data.set c v).length = 24; rw [List.length_set, imDrop_data]; exact h.len
  · show m.table.set g _ = (imDrop m _).table.set g _; rw [(imDrop_table m _).1]
  · show m.snaps = (imDrop m _).snaps; rw [(imDrop_table m _).2]
  · show ((imDrop m m.table[g]).refs.set c 1).getD i 0 = _
    rw [hcs]
    by_cases hci : c = i
    · subst hci
      rw [if_pos rfl, if_neg hne, ← h.cntA hc, h0]
      simp [List.getD, imDrop_refs, h.rl, hc]
    · have e : ((imDrop m m.table[g]).refs.set c 1).getD i 0 = (imDrop m m.table[g]).refs.getD i 0 := by simp [List.getD, hci]
      rw [e, (drop_get h.rl h.len _ hi).1, h.cntA hi, if_neg hci]; omega
  · show ((imDrop m m.table[g]).data.set c v).getD i 0 = if _ then 0 else (m.data.set c v).getD i 0
    rw [hcs]
    by_cases hci : c = i
    · subst hci
      rw [if_neg (show ¬ (sN (imTabs m) c - (if m.table[g] = (c : Int) + 2 then 1 else 0) + (if c = c then 1 else 0) = 0) by rw [if_pos rfl, if_neg hne, ← h.cntA hc, h0]; omega)]
      simp [List.getD, imDrop_data, h.len, hc]
    · have e : ((imDrop m m.table[g]).data.set c v).getD i 0 = (imDrop m m.table[g]).data.getD i 0 := by simp [List.getD, hci]
      have e2 : (m.data.set c v).getD i 0 = m.data.getD i 0 := by simp [List.getD, hci]
      rw [e, e2, (drop_get h.rl h.len _ hi).2, ← h.cntA hi, if_neg hci]
      by_cases h1 : m.table[g] = (i : Int) + 2
      · simp only [h1, true_and, if_true]
        by_cases h2 : m.refs.getD i 0 = 1
        · rw [if_pos h2, if_pos (by omega)]
        · rw [if_neg h2, if_neg (by omega)]
      · simp only [h1, false_and, if_false]
        by_cases h2 : m.refs.getD i 0 = 0
        · rw [if_pos (by omega), h.clear i hi h2]
        · rw [if_neg (by omega)]
theorem cN_append (s t : List Int) (i : Nat) : cN (s ++ t) i = cN s i + cN t i := by unfold cN; rw [List.count_append]; omega
theorem cN_rz (t : List Int) (i : Nat) : ∀ n, cN (rzTo t n) i = cN (t.take n) i := by
  intro n
  induction n with
  | zero => simp [rzTo]
  | succ n ih =>
    rw [rzTo_succ, cN_append, ih]
    by_cases hn : n < t.length
    · rw [List.take_succ_eq_append_getElem hn, cN_append]
      have : t.getD n 0 = t[n] := by simp [List.getD, hn]
      rw [this]
    · have h1 : t.getD n 0 = 0 := by simp [List.getD, hn]
      have h2 : t.take (n + 1) = t.take n := by rw [List.take_of_length_le (by omega), List.take_of_length_le (by omega)]
      rw [h1, h2]
      have : cN [0] i = 0 := by
        unfold cN
        rw [List.count_cons]
        simp; omega
      omega
theorem tbB_rz {t : List Int} (h : tbB t = true) {n : Nat} (hn : n ≤ 12) : tbB (rzTo t n) = true := by
  refine tbB_of (by rw [rzTo_len]; exact hn) (fun i hi => ?_)
  rw [rzTo_len] at hi
  have e : (rzTo t n)[i]'(by rw [rzTo_len]; exact hi) = t.getD i 0 := by simp [rzTo]
  rw [e]
  by_cases hit : i < t.length
  · have := tbB_at h i hit
    rw [show t.getD i 0 = t[i] by simp [List.getD, hit]]
    exact betw_iff.2 this
  · rw [show t.getD i 0 = 0 by simp [List.getD, hit]]
    exact betw_iff.2 ⟨by omega, by omega⟩
/-- Of a list of entries that one of the tables has no more. -/
theorem drops_fit {m : Img} (h : ImR m) (es : List Int) {i : Nat} (hi : i < 24) (hle : cN es i ≤ m.refs.getD i 0) : (imDrops m es).data.getD i 0 = if m.refs.getD i 0 - cN es i = 0 then 0 else m.data.getD i 0 := by
  rw [(drops_get hi es m h.rl h.len).2]
  have hn := cN_nn es i
  by_cases h1 : m.refs.getD i 0 - cN es i = 0
  · rw [if_pos h1]
    by_cases h2 : 1 ≤ m.refs.getD i 0
    · rw [if_pos ⟨h2, by omega⟩]
    · rw [if_neg (fun h => h2 h.1), h.clear i hi (by omega)]
  · rw [if_neg h1, if_neg (by omega)]
theorem fit_resize {m : Img} (h : ImR m) {n : Nat} (hn : n ≤ 12) : imFit { m with table := rzTo m.table n } = imResize m n := by
  have hcs : ∀ i, sN (imTabs { m with table := rzTo m.table n }) i = sN (imTabs m) i - cN (m.table.drop n) i := fun i => by
    have e : sN (imTabs { m with table := rzTo m.table n }) i = cN (rzTo m.table n) i + sN (m.snaps.map (·.table)) i := rfl
    have e2 : cN m.table i = cN (m.table.take n) i + cN (m.table.drop n) i := by rw [← cN_append, List.take_append_drop]
    rw [e, cN_rz, sN_tabs, e2]; omega
  obtain ⟨l1, l2, l3, l4⟩ := drops_lens m (m.table.drop n)
  have hle : ∀ i, i < 24 → cN (m.table.drop n) i ≤ m.refs.getD i 0 := fun i hi => by
    have e2 : cN m.table i = cN (m.table.take n) i + cN (m.table.drop n) i := by rw [← cN_append, List.take_append_drop]
    have := cN_nn (m.table.take n) i
    have := sN_nn (m.snaps.map (·.table)) i
    rw [h.cntA hi, sN_tabs]; omega
  refine fit_eq (tabs_with h (tbB_rz h.table hn) m.data) (l1.trans h.rl) (l2.trans h.len) rfl l4.symm (fun i hi => ?_) (fun i hi => ?_)
  · show (imDrops m _).refs.getD i 0 = _
    rw [(drops_get hi _ m h.rl h.len).1, hcs, h.cntA hi]
  · show (imDrops m _).data.getD i 0 = _
    rw [drops_fit h _ hi (hle i hi), hcs, h.cntA hi]

end Go.Proofs.Ythnpooffhopnkac

/- Contracts of impl.ZeroCluster and of impl.ResizeImage. -/
namespace Go.Proofs.Ythnpooffhopnkac
open Go.RowKit
set_option linter.unusedVariables false
set_option maxRecDepth 100000

/-- A number in a variable. -/
def VarN1 (w : World) (x : Nat) (n : Int) : Prop := w.cell? ⟨x, 0, none⟩ = some (.int .i64 n)
theorem VarN1.below {w w' : World} {x : Nat} {n : Int} (h : VarN1 w x n) (hb : Below w.heap.size w w') : VarN1 w' x n := (hb.cell (World.block_lt_of_cell? _ _ h)).trans h
theorem VarN1.new (w : World) (n : Int) : VarN1 (w.alloc (.cells #[.int .i64 n] 3)) w.heap.size n := by unfold VarN1; rw [Joins.cell_of_block (heap_alloc_new w _)]; rfl
theorem ImR.fitR {m : Img} (h : ImR m) : FitR m := ⟨h.rl, h.len, h.few, h.tabs, h.M.zs⟩
theorem ImR.fitT {m : Img} (h : ImR m) {t d : List Int} (ht : tbB t = true) (hd : d.length = 24) : FitR { m with table := t, data := d } := ⟨h.rl, hd, h.few, tabs_with h ht d, h.M.zs⟩
/-- One of its numbers is set. -/
theorem Hld.set {W : World} {p B g c : Nat} {a : Im4} {m m' : Img} {ts : List Value} {u : Value} (h : Hld W p B a m ts) (hi : ImB a m ts g) (ho : OwnIm (W.setCell ⟨g, c, none⟩ u) B a m' ts) (e1 : m'.refs.length = m.refs.length) (e2 : m'.table.length = m.table.length) (e3 : m'.snaps.length = m.snaps.length) (e4 : m'.data.length = m.data.length) (hB : B ≤ W.heap.size) : Hld (W.setCell ⟨g, c, none⟩ u) p B a m' ts ∧ Below B W (W.setCell ⟨g, c, none⟩ u) := by
  have hk : Keep (ImB a m ts) W (W.setCell ⟨g, c, none⟩ u) := (Keep.refl _ W).setCell (p := ⟨g, c, none⟩) hi _
  refine ⟨⟨?_, ho, h.p⟩, hk.below hB (fun x hx => (h.o.ge x hx).1)⟩
  rw [e1, e2, e3, e4]
  exact h.v.keepIm h.o hk
theorem Hld.setT {W : World} {p B c : Nat} {a : Im4} {m : Img} {ts : List Value} (h : Hld W p B a m ts) (hB : B ≤ W.heap.size) (hc : c < m.table.length) : ∃ g, a.tq = some ⟨g, 0, none⟩ ∧ W.cell? ⟨g, c, none⟩ = some (.int .i64 m.table[c]) ∧ W.frozen? ⟨g, c, none⟩ = false ∧ ∀ y, Hld (W.setCell ⟨g, c, none⟩ (.int .i64 y)) p B a { m with table := m.table.set c y } ts ∧ Below B W (W.setCell ⟨g, c, none⟩ (.int .i64 y)) := by
  obtain ⟨g, e, h1, h2, h3, h4⟩ := h.o.setT hc
  exact ⟨g, e, h1, h2, fun y => h.set h3 (h4 y) rfl (by simp) rfl rfl hB⟩
theorem Hld.setD {W : World} {p B c : Nat} {a : Im4} {m : Img} {ts : List Value} (h : Hld W p B a m ts) (hB : B ≤ W.heap.size) (hc : c < m.data.length) : ∃ g, a.dq = some ⟨g, 0, none⟩ ∧ W.cell? ⟨g, c, none⟩ = some (.int .i64 m.data[c]) ∧ W.frozen? ⟨g, c, none⟩ = false ∧ ∀ y, Hld (W.setCell ⟨g, c, none⟩ (.int .i64 y)) p B a { m with data := m.data.set c y } ts ∧ Below B W (W.setCell ⟨g, c, none⟩ (.int .i64 y)) := by
  obtain ⟨g, e, h1, h2, h3, h4⟩ := h.o.setD hc
  exact ⟨g, e, h1, h2, fun y => h.set h3 (h4 y) rfl rfl rfl (by simp) hB⟩
theorem VarN1.belowB {w w' : World} {x B : Nat} {n : Int} (h : VarN1 w x n) (hx : x < B) (hb : Below B w w') : VarN1 w' x n := (hb.cell (p := ⟨x, 0, none⟩) hx).trans h
/-- Nothing is changed. -/
theorem Chg.same {W W' : World} {p B : Nat} {a : Im4} {m : Img} {ts : List Value} (c : Int) (h : Hld W p B a m ts) (hB : B ≤ W.heap.size) (hb : Below W.heap.size W W') : Chg W W' p B (.returned (.int .i64 c)) c m := ⟨rfl, a, ts, h.below hb, hb.mono hB⟩
/-- What a change of an image answers, as the program reckons it. -/
theorem ans_eq {m m1 : Img} {c : Int} {R : Img × Int} (h1 : imB m = true → imFit m1 = R.1 ∧ c = R.2) (h2 : imB m = false → R = (im0, 1)) : (if imB m = true then (imFit m1, c) else (im0, 1)) = R := by
  cases h : imB m
  · rw [h2 h]; rfl
  · obtain ⟨e1, e2⟩ := h1 h
    rw [e1, e2]; rfl

/-- The image that ZeroCluster makes ahead of its counts. -/
def zc1 (m : Img) (g : Int) : Img := if betw g 0 ((m.table.length : Int) - 1) = true then { m with table := m.table.set g.toNat 1 } else m
def zcC (m : Img) (g : Int) : Int := if betw g 0 ((m.table.length : Int) - 1) = true then 0 else 4
theorem zc_fit {m : Img} (g : Int) (h : ImR m) : FitR (zc1 m g) := by
  unfold zc1
  split
  · exact h.fitT (d := m.data) (tbB_set h.table _ (by omega) (by omega)) h.len
  · exact h.fitR
theorem zc_ans {m : Img} (g : Int) : (if imB m = true then (imFit (zc1 m g), zcC m g) else (im0, 1)) = zcA m g := by
  refine ans_eq (fun h => ?_) (fun h => by rw [zcA, h]; rfl)
  have hR := imB_iff.1 h
  rw [zcA, if_pos h]
  unfold zc1 zcC
  by_cases hg : betw g 0 ((m.table.length : Int) - 1) = true
  · rw [if_pos hg, if_pos hg, if_pos hg]
    obtain ⟨l0, l1⟩ := betw_iff.1 hg
    exact ⟨fit_zero hR (by omega), rfl⟩
  · rw [if_neg hg, if_neg hg, if_neg hg]
    exact ⟨fit_self hR, rfl⟩

/-- A face's entry: the image's variable, the result's. -/
structure FcE (w W : World) (q : Nat) (a : Im4) (m : Img) : Prop where
  v : VarM W w.heap.size 26 (.slice a.ro m.refs.length a.rc) (.slice a.tq m.table.length a.tc) (.slice a.so m.snaps.length a.sc) (.slice a.dq m.data.length a.dc)
  r : VarM W q 26 (.slice none 0 0) (.slice none 0 0) (.slice none 0 0) (.slice none 0 0)
  s : ImS W a m
  b : Below w.heap.size w W
  hr : w.heap.size ≤ q
  lt : q < W.heap.size
theorem FcE.below {w W W' : World} {r : Nat} {a : Im4} {m : Img} (h : FcE w W r a m) (hb : Below W.heap.size W W') : FcE w W' r a m := ⟨h.v.below hb, h.r.below hb, h.s.below hb, fr h.b hb, h.hr, Nat.lt_of_lt_of_le h.lt hb.size⟩
theorem FcE.put {w W W' : World} {r : Nat} {a : Im4} {m : Img} (h : FcE w W r a m) (hb : Below W.heap.size W W') {a' : Im4} {m' : Img} {ts : List Value} (ho : OwnIm W' W.heap.size a' m' ts) :
    VarM (putI W' r a' m') r 26 (.slice a'.ro m'.refs.length a'.rc) (.slice a'.tq m'.table.length a'.tc) (.slice a'.so m'.snaps.length a'.sc) (.slice a'.dq m'.data.length a'.dc) ∧ OwnIm (putI W' r a' m') w.heap.size a' m' ts ∧ Below w.heap.size w (putI W' r a' m') := by
  obtain ⟨h1, h2, h3⟩ := ImSt.put (h.r.below hb) ho (fr h.b hb) h.hr h.lt a' m'
  exact ⟨h1, h2.base h.b.size, h3⟩

end Go.Proofs.Ythnpooffhopnkac

/- Contract of impl.ResizeImage. -/
namespace Go.Proofs.Ythnpooffhopnkac
open Go.RowKit
set_option linter.unusedVariables false
set_option maxRecDepth 100000

/-- Another table, that was made since. -/
theorem OwnIm.freshT {w w' : World} {B c : Nat} {q : Option Addr} {a : Im4} {m : Img} {ts : List Value} {t : List Int} (h : OwnIm w B a m ts) (hb : Below w.heap.size w w') (hv : OwnN w' w.heap.size (.slice q t.length c) t) (hB : B ≤ w.heap.size) : OwnIm w' B { a with tq := q, tc := c } { m with table := t } ts := by
  refine ⟨h.len, h.s.below hb, ?_⟩
  have h1 := h.rows.below hb
  have hold : ∀ r ∈ imRows a m ts, ∀ g, Own r.1 g → ¬ Own (.slice q t.length c) g := fun r hr g hg hg' => by
    have k1 := ((h.rows.own r hr).ge g hg).2
    have k2 := (hv.ge g hg').1
    omega
  unfold imRows at h1 hold ⊢
  simp only
  have hp := h1.apart
  rw [List.pairwise_cons, List.pairwise_cons] at hp
  obtain ⟨p0, p1, p2⟩ := hp
  refine ⟨fun r hr => ?_, ?_⟩
  · simp only [List.mem_cons] at hr
    rcases hr with rfl | rfl | hr
    · exact h1.own _ (by simp)
    · exact hv.base hB
    · exact h1.own r (by simp only [List.mem_cons]; exact .inr (.inr hr))
  · rw [List.pairwise_cons, List.pairwise_cons]
    refine ⟨fun r hr => ?_, fun r hr g hg hg' => ?_, p2⟩
    · rw [List.mem_cons] at hr
      rcases hr with rfl | hr
      · exact hold (.slice a.ro m.refs.length a.rc, m.refs) (by simp)
      · exact p0 r (List.mem_cons_of_mem _ hr)
    · exact hold r (by simp only [List.mem_cons] at hr ⊢; exact .inr (.inr hr)) g hg' hg
theorem Hld.freshT {W W' : World} {p B c : Nat} {q : Option Addr} {a : Im4} {m : Img} {ts : List Value} {t : List Int} (h : Hld W p B a m ts) (hb : Below W.heap.size W W') (hv : OwnN W' W.heap.size (.slice q t.length c) t) (hB : B ≤ W.heap.size) : Hld (W'.setCell ⟨p, 1, none⟩ (.slice q t.length c)) p B { a with tq := q, tc := c } { m with table := t } ts ∧ Below B W (W'.setCell ⟨p, 1, none⟩ (.slice q t.length c)) := by
  have h1 := h.below hb
  have ho := h.o.freshT hb hv hB
  have hk : Keep (fun g => g = p) W' (W'.setCell ⟨p, 1, none⟩ (.slice q t.length c)) := (Keep.refl (fun g => g = p) W').setCell (p := ⟨p, 1, none⟩) rfl _
  exact ⟨⟨h1.v.set1 _, ho.keep hk (fun g hg e => ho.other h1.v (e ▸ hg)), h.p⟩, (hb.mono hB).trans (hk.below (Nat.le_trans hB hb.size) (fun g e => by have := h.p; omega))⟩

/-- The image that ResizeImage makes ahead of its counts. -/
def rs1 (m : Img) (n : Int) : Img := if betw n 0 12 = true then { m with table := rzTo m.table n.toNat } else m
def rsC (m : Img) (n : Int) : Int := if betw n 0 12 = true then 0 else 4
theorem rs_fit {m : Img} (n : Int) (h : ImR m) : FitR (rs1 m n) := by
  unfold rs1
  by_cases hn : betw n 0 12 = true
  · rw [if_pos hn]
    obtain ⟨l0, l1⟩ := betw_iff.1 hn
    exact h.fitT (d := m.data) (tbB_rz h.table (by omega)) h.len
  · rw [if_neg hn]
    exact h.fitR
theorem rs_ans {m : Img} (n : Int) : (if imB m = true then (imFit (rs1 m n), rsC m n) else (im0, 1)) = rsA' m n := by
  refine ans_eq (fun h => ?_) (fun h => by rw [rsA', h]; rfl)
  have hR := imB_iff.1 h
  rw [rsA', if_pos h]
  unfold rs1 rsC
  by_cases hg : betw n 0 12 = true
  · rw [if_pos hg, if_pos hg, if_pos hg]
    obtain ⟨l0, l1⟩ := betw_iff.1 hg
    exact ⟨fit_resize hR (by omega), rfl⟩
  · rw [if_neg hg, if_neg hg, if_neg hg]
    exact ⟨fit_self hR, rfl⟩

set_option maxHeartbeats 1600000 in
theorem resizeC_any (m : Img) (n : Int) (x : Nat) (W : World) (p B : Nat) (a : Im4) (ts : List Value) (hR : ImR m) (hx : VarN1 W x n) (hxB : x < B) (hB : B ≤ W.heap.size) (hh : Hld W p B a m ts) :
    Calls Try.prog 40 #[.pointer (some ⟨p, 0, none⟩), .pointer (some ⟨x, 0, none⟩)] W fun e W' => Chg W W' p B e (rsC m n) (rs1 m n) := by
  have HH := hide hh
  have HT := hide (hh.o.shows hR.M.zs).t
  have HL := hide hR.M.L.t
  have hx' : W.cell? ⟨x, 0, none⟩ = some (.int .i64 n) := hx
  obtain ⟨c0, c1, c2, c3⟩ := hh.v.cells
  have hpl := hh.v.lt
  have hxl := World.block_lt_of_cell? _ _ hx
  have HRZ := hide (rz_cases m.table n)
  have hTF := tbF_ok hR.table
  have HTF := hide hTF
  have HCAL : Hid (∀ W1, Below W.heap.size W W1 → Calls Try.prog 41 #[.slice a.tq m.table.length a.tc, .int .i64 n] W1 fun e w' => ∃ vo vc, e = .returned (.tuple #[.slice vo (rzL m.table n).length vc, .int .i64 (rzF m.table n)]) ∧ OwnN w' W.heap.size (.slice vo (rzL m.table n).length vc) (rzL m.table n) ∧ Below W.heap.size W w') := hide (fun W1 hW => (resizeTable_impl a.tq a.tc m.table n W1 (unhide HL) ((unhide HT).below hW)).mono fun e w' ⟨v, h1, h2, h3⟩ => by obtain ⟨vo, vc, rfl, _⟩ := id h2; exact ⟨vo, vc, h1, h2.base hW.size, fr hW h3⟩)
  clear hh hx hR hTF
  generalize rzL m.table n = L at *
  generalize rzF m.table n = F at *
  go_enter Try.func40, Try.ntmps40
  go_upto_region 1 with fail
  go_region_held3 (fun w' => w'.cell? ⟨p, 1, none⟩ = some (.slice a.tq m.table.length a.tc) ∧ w'.cell? ⟨x, 0, none⟩ = some (.int .i64 n)) (go_keep) ((go_at_call 41; refine (unhide HCAL _ (Below.refl _ _).drew).mono ?_; rintro e w3 ⟨vo, vc, rfl, ho3, hb3⟩; have k1 := (hb3.cell (p := ⟨p, 1, none⟩) hpl).trans c1; have k2 := (hb3.cell (p := ⟨x, 0, none⟩) hxl).trans hx'; have HN3 := hide (And.intro hb3 ho3); clear hb3 ho3))
  clear k1 k2 c0 c1 c2 c3 hx'
  have HH3 := hide ((unhide HH).below (unhide HN3).1)
  rcases unhide HRZ with ⟨hf, _⟩ | ⟨hb, hg, eF, eL⟩ | ⟨hb, q, rfl, hq, eF, eL⟩
  · exact absurd (unhide HTF) hf
  · have HE : Hid (rsC m n = 4 ∧ rs1 m n = m) := hide ⟨by rw [rsC, hg]; rfl, by rw [rs1, hg]; rfl⟩
    subst eF
    clear eL hg
    go_wp2
    go_ret
    rw [(unhide HE).1, (unhide HE).2]
    exact Chg.same 4 (unhide HH) hB (unhide HN3).1
  · have hg : betw (q : Int) 0 12 = true := betw_iff.2 ⟨by omega, by omega⟩
    have HE : Hid (rsC m (q : Int) = 0 ∧ rs1 m (q : Int) = { m with table := L }) := hide ⟨by rw [rsC, hg]; rfl, by rw [rs1, if_pos hg, Int.toNat_natCast, eL]⟩
    have HS := hide ((unhide HH).freshT (unhide HN3).1 (unhide HN3).2 hB)
    subst eF
    clear eL hg
    obtain ⟨c0, c1, c2, c3⟩ := (unhide HH3).v.cells
    obtain ⟨z0, z1, z2, z3⟩ := (unhide HH3).v.free
    go_wp2
    go_ret
    rw [(unhide HE).1, (unhide HE).2]
    exact ⟨rfl, _, _, (unhide HS).1, (unhide HS).2⟩

set_option maxHeartbeats 1600000 in
theorem resizeImage_impl (a : Im4) (m : Img) (n : Int) (w : World) (hL : ImL m) (hc : ImS w a m) :
    Calls Try.prog 15 #[imV a m, .int .i64 n] w fun e w' => AnsI w w' e (rsA' m n) := by
  have hmf : ∀ (fn : Fn) (first cap : Array Value) (w : World), (Instr.makeFunc fn first cap).run Try.prog w = .ok (.func fn first cap) w := fun _ _ _ _ => rfl
  have HE : Hid (FcE w (((w.alloc (.cells #[.slice a.ro m.refs.length a.rc, .slice a.tq m.table.length a.tc, .slice a.so m.snaps.length a.sc, .slice a.dq m.data.length a.dc] 26)).alloc (.cells #[.int .i64 n] 3)).alloc (.cells #[.slice none 0 0, .slice none 0 0, .slice none 0 0, .slice none 0 0] 26)) (w.heap.size + 1 + 1) a m) := hide (by
    refine ⟨?_, ?_, hc.below (fr (fr (Joins.below_alloc1 w _) (Joins.below_alloc1 _ _)) (Joins.below_alloc1 _ _)), fr (fr (Joins.below_alloc1 w _) (Joins.below_alloc1 _ _)) (Joins.below_alloc1 _ _), by omega, by simp⟩
    · exact ((VarM.new w 26 (.slice a.ro m.refs.length a.rc) (.slice a.tq m.table.length a.tc) (.slice a.so m.snaps.length a.sc) (.slice a.dq m.data.length a.dc)).below (Joins.below_alloc1 _ _)).below (Joins.below_alloc1 _ _)
    · have h := VarM.new ((w.alloc (.cells #[.slice a.ro m.refs.length a.rc, .slice a.tq m.table.length a.tc, .slice a.so m.snaps.length a.sc, .slice a.dq m.data.length a.dc] 26)).alloc (.cells #[.int .i64 n] 3)) 26 (.slice none 0 0) (.slice none 0 0) (.slice none 0 0) (.slice none 0 0)
      simp only [World.size_alloc] at h
      exact h)
  have HX0 : Hid (VarN1 (((w.alloc (.cells #[.slice a.ro m.refs.length a.rc, .slice a.tq m.table.length a.tc, .slice a.so m.snaps.length a.sc, .slice a.dq m.data.length a.dc] 26)).alloc (.cells #[.int .i64 n] 3)).alloc (.cells #[.slice none 0 0, .slice none 0 0, .slice none 0 0, .slice none 0 0] 26)) (w.heap.size + 1) n) := hide (by
    have h : VarN1 (((w.alloc (.cells #[.slice a.ro m.refs.length a.rc, .slice a.tq m.table.length a.tc, .slice a.so m.snaps.length a.sc, .slice a.dq m.data.length a.dc] 26)).alloc (.cells #[.int .i64 n] 3)).alloc (.cells #[.slice none 0 0, .slice none 0 0, .slice none 0 0, .slice none 0 0] 26)) (w.alloc (.cells #[.slice a.ro m.refs.length a.rc, .slice a.tq m.table.length a.tc, .slice a.so m.snaps.length a.sc, .slice a.dq m.data.length a.dc] 26)).heap.size n := (VarN1.new (w.alloc (.cells #[.slice a.ro m.refs.length a.rc, .slice a.tq m.table.length a.tc, .slice a.so m.snaps.length a.sc, .slice a.dq m.data.length a.dc] 26)) n).below (Joins.below_alloc1 _ _)
    simp only [World.size_alloc] at h
    exact h)
  have HL := hide hL
  obtain ⟨R, HR⟩ : ∃ R, Hid (R = rsA' m n) := ⟨_, rfl⟩
  rw [← unhide HR]
  clear hc hL
  go_enter Try.func15, Try.ntmps15
  go_upto_region 1 with fail
  revert HE HX0
  generalize (((w.alloc _).alloc _).alloc _) = W0
  intro HE HX0
  obtain ⟨c0, c1, c2, c3⟩ := (unhide HE).v.cells
  go_wp2_with fail
  refine (changeImage_any a m 40 #[.pointer (some ⟨w.heap.size + 1, 0, none⟩)] (rs1 m n) (rsC m n) _ (unhide HL) (unhide HE).s (fun _ _ => rfl) (fun him => ⟨rs_fit n (imB_iff.1 him), fun W p B a1 ts1 h1 h2 h3 h4 _ => ?_⟩)).mono ?_
  · exact resizeC_any m n _ W p B a1 ts1 (imB_iff.1 him) ((unhide HX0).below h1) (Nat.lt_of_lt_of_le (World.block_lt_of_cell? _ _ (unhide HX0)) h2) h3 h4
  · intro e w2 hans
    rw [rs_ans, ← unhide HR] at hans
    obtain ⟨b, ts, rfl, ho, hb⟩ := hans
    have HP := hide ((unhide HE).put hb ho)
    have HE2 := hide ((unhide HE).below hb)
    clear ho hb c0 c1 c2 c3
    obtain ⟨r0, r1, r2, r3⟩ := (unhide HE2).r.cells
    obtain ⟨z0, z1, z2, z3⟩ := (unhide HE2).r.free
    go_wp2
    refine bodyPost_ret (res_ic Try.results15 rfl rfl (unhide HP).1) rfl ?_
    exact AnsI.of rfl rfl (unhide HP).2.1 (unhide HP).2.2

end Go.Proofs.Ythnpooffhopnkac
