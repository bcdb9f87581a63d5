import Derived.Test.YtkaiglhljpehpaaPart1
import Derived.Test.YtkaiglhljpehpaaPart2
import Derived.Test.YtkaiglhljpehpaaPart5
import Derived.Test.YtkaiglhljpehpaaPart11
import Derived.Test.YtkaiglhljpehpaaPart20
import Derived.Test.YtkaiglhljpehpaaPart22
import Derived.Test.YtkaiglhljpehpaaPart23
import Derived.Test.YtkaiglhljpehpaaSrcM
import Derived.Test.YtkaiglhljpehpaaPart15
import Derived.Test.YtkaiglhljpehpaaRows
import Derived.Test.YtkaiglhljpehpaaPart3
import Derived.Test.YtkaiglhljpehpaaPart18
import Derived.WalkKit
import Derived.WalkSpells
import Derived.KernelRfl
import Derived.Deep.RegionWith
import Derived.Laws.CopyRow
import Derived.Laws.CopyOwn
import Derived.Test.YtkaiglhljpehpaaPart6
import Derived.Test.YtkaiglhljpehpaaPart7
import Derived.Test.YtkaiglhljpehpaaPart12
import Derived.LoopN
import Derived.BigQuiet
import Derived.Deep.QuietTactic

/- Plain: what FnCheck asks of right images and of one whose count is one too great. -/
namespace Go.Proofs.Ytkaiglhljpehpaa
open Go.RowKit
set_option linter.unusedVariables false
set_option maxRecDepth 100000

theorem ImR.fm {m : Img} (h : ImR m) : imFm m = true := by
  have := imB_iff.2 h
  simp only [imB, Bool.and_eq_true] at this
  exact this.1.1.1
theorem ImR.onceA {m : Img} (h : ImR m) : ∀ t ∈ imTabs m, onceB t = true := fun t ht => decide_eq_true (h.once t ht)
theorem ImR.ck {m : Img} (h : ImR m) : ckB m = true := ck_yes h.fm h.onceA
theorem neP_self (x : Int) : neP x x = false := by simp [neP]
theorem ckL_self (xs : List Int) : ∀ k, ckL neP xs xs k = [] := by
  intro k
  induction k with
  | zero => rfl
  | succ k ih => rw [ckL, ih, neP_self]; rfl
theorem wl_right {m : Img} (h : ImR m) : wlA neP m = ([], 0) := by
  unfold wlA
  rw [if_pos h.ck, h.cnt, ckL_self]
theorem cr_right {m : Img} (h : ImR m) : crA m = (m.refs, 0) := by
  unfold crA
  rw [if_pos h.ck, h.cnt]
theorem sN_few {ts : List (List Int)} (h : ∀ t ∈ ts, onceB t = true) (i : Nat) : sN ts i ≤ ts.length := by
  induction ts with
  | nil => simp [sN]
  | cons t ts ih =>
    rw [sN_cons, ← hit_once (h t (by simp)) i]
    have := ih (fun t ht => h t (by simp [ht]))
    have h1 : hit1 t i ≤ 1 := by unfold hit1; split <;> omega
    rw [List.length_cons]; omega
theorem ImR.ref4 {m : Img} (h : ImR m) {c : Nat} (hc : c < m.refs.length) : 0 ≤ m.refs[c] ∧ m.refs[c] ≤ 4 := by
  have e : m.refs.getD c 0 = m.refs[c] := by simp [List.getD, hc]
  have h1 := h.cntA (i := c) (by rw [← h.rl]; exact hc)
  have h2 := sN_few h.onceA c
  have h3 := sN_nn (imTabs m) c
  have h4 : (imTabs m).length = m.snaps.length + 1 := by simp [imTabs]
  have h5 := h.few
  rw [e] at h1
  omega
/-- A count that is one too great. -/
def badI (m : Img) (c : Nat) : Img := { m with refs := m.refs.set c (m.refs.getD c 0 + 1) }
theorem bad_ct {xs : List Int} {c : Nat} {v : Int} (h : ctB xs = true) (hv : 0 ≤ v ∧ v ≤ 15) : ctB (xs.set c v) = true := by
  refine ctB_of (by rw [List.length_set]; exact ctB_len h) (fun i hi => ?_)
  rw [List.getElem_set]
  split
  · exact betw_iff.2 hv
  · exact betw_iff.2 (ctB_at h i (by rw [List.length_set] at hi; exact hi))
theorem bad_ck {m : Img} (h : ImR m) {c : Nat} (hc : c < m.refs.length) : ckB (badI m c) = true := by
  have e : m.refs.getD c 0 = m.refs[c] := by simp [List.getD, hc]
  have h4 := h.ref4 hc
  refine ck_yes ?_ h.onceA
  have hf := h.fm
  unfold imFm at hf ⊢
  have h1 : ctB (badI m c).refs = true := bad_ct h.refs (by rw [e]; omega)
  rw [h1]
  rw [h.refs] at hf
  exact hf
theorem ckL_set {p : Int → Int → Bool} {xs : List Int} {c : Nat} {v : Int} (hp : ∀ x, p x x = false) (hc : c < xs.length) (hv : p v (xs.getD c 0) = true) : ∀ k, ckL p (xs.set c v) xs k = if c < k then [(c : Int)] else [] := by
  intro k
  induction k with
  | zero => rfl
  | succ k ih =>
    rw [ckL, ih]
    by_cases e : k = c
    · subst e
      have e1 : (xs.set k v).getD k 0 = v := by simp [List.getD, hc]
      rw [e1, hv]; simp
    · have e1 : (xs.set c v).getD k 0 = xs.getD k 0 := by simp [List.getD, Ne.symm e]
      rw [e1, hp]
      simp only [Bool.false_eq_true, if_false, List.append_nil]
      by_cases hlt : c < k
      · rw [if_pos hlt, if_pos (by omega)]
      · rw [if_neg hlt, if_neg (by omega)]
theorem bad_cnt {m : Img} (h : ImR m) (c : Nat) : imCnt (badI m c) = m.refs := h.cnt
theorem bad_wl {m : Img} (h : ImR m) {c : Nat} (hc : c < m.refs.length) : wlA neP (badI m c) = ([(c : Int)], 0) := by
  unfold wlA
  rw [if_pos (bad_ck h hc), bad_cnt h c]
  show (ckL neP (m.refs.set c (m.refs.getD c 0 + 1)) m.refs 24, (0 : Int)) = _
  rw [ckL_set neP_self hc (by simp [neP]; omega), if_pos (by rw [← h.rl]; exact hc)]
theorem gtP_self (x : Int) : gtP x x = false := by simp [gtP]
theorem bad_lk {m : Img} (h : ImR m) {c : Nat} (hc : c < m.refs.length) : wlA gtP (badI m c) = ([(c : Int)], 0) := by
  unfold wlA
  rw [if_pos (bad_ck h hc), bad_cnt h c]
  show (ckL gtP (m.refs.set c (m.refs.getD c 0 + 1)) m.refs 24, (0 : Int)) = _
  rw [ckL_set gtP_self hc (by simp [gtP]; omega), if_pos (by rw [← h.rl]; exact hc)]
theorem bad_im {m : Img} (h : ImR m) {c : Nat} (hc : c < m.refs.length) : imB (badI m c) = false := by
  refine im_cnt (m := badI m c) (i := c) (by rw [bad_cnt h c]; exact hc) (by show c < (m.refs.set c _).length; rw [List.length_set]; exact hc) ?_
  have e1 : ∀ hh, (imCnt (badI m c))[c]'hh = m.refs[c] := fun hh => by simp only [bad_cnt h c]
  have e2 : ∀ hh, (badI m c).refs[c]'hh = m.refs.getD c 0 + 1 := fun hh => by simp [badI]
  have e : m.refs.getD c 0 = m.refs[c] := by simp [List.getD, hc]
  rw [e1, e2, e]; omega

end Go.Proofs.Ytkaiglhljpehpaa

/- Plain: images that are right but for counts and loose data; what FnRepair asks of them. -/
namespace Go.Proofs.Ytkaiglhljpehpaa
open Go.RowKit
set_option linter.unusedVariables false
set_option maxRecDepth 100000

structure WrI (m : Img) : Prop where
  refs : ctB m.refs = true
  table : tbB m.table = true
  few : m.snaps.length ≤ 3
  len : m.data.length = 24
  snaps : ∀ s ∈ m.snaps, snmB s.name = true ∧ tbB s.table = true
  names : (m.snaps.map (·.name)).Nodup
  nums : ∀ n ∈ m.data, numB n = true
  once : ∀ t ∈ imTabs m, (clA t).Nodup
theorem ImR.wr {m : Img} (h : ImR m) : WrI m := ⟨h.refs, h.table, h.few, h.len, h.snaps, h.names, h.nums, h.once⟩
theorem WrI.ck {m : Img} (h : WrI m) : ckB m = true := by
  have e : imFm m = true := by
    simp only [imFm, namesB, Bool.and_eq_true, decide_eq_true_eq, List.all_eq_true]
    exact ⟨⟨⟨⟨⟨⟨h.refs, h.table⟩, h.few⟩, h.len⟩, h.snaps⟩, h.names⟩, h.nums⟩
  exact ck_yes e (fun t ht => decide_eq_true (h.once t ht))
theorem WrI.tabs {m : Img} (h : WrI m) : ∀ t ∈ imTabs m, tbB t = true := fun t ht => by
  unfold imTabs at ht
  rw [List.mem_cons, List.mem_map] at ht
  rcases ht with rfl | ⟨s, hs, rfl⟩
  · exact h.table
  · exact (h.snaps s hs).2
theorem WrI.rl {m : Img} (h : WrI m) : m.refs.length = 24 := ctB_len h.refs
theorem WrI.setR {m : Img} (h : WrI m) (c : Nat) {v : Int} (hv : 0 ≤ v ∧ v ≤ 15) : WrI { m with refs := m.refs.set c v } := ⟨bad_ct h.refs hv, h.table, h.few, h.len, h.snaps, h.names, h.nums, h.once⟩
theorem WrI.setD {m : Img} (h : WrI m) (c : Nat) {v : Int} (hv : numB v = true) : WrI { m with data := m.data.set c v } := ⟨h.refs, h.table, h.few, by simp [h.len], h.snaps, h.names, fun n hn => by
  rcases List.mem_or_eq_of_mem_set hn with h1 | h1
  · exact h.nums n h1
  · rw [h1]; exact hv, h.once⟩
theorem WrI.zs {m : Img} (h : WrI m) : ∀ s ∈ m.snaps, s.name.size ≤ maxLen ∧ s.table.length ≤ maxLen := fun s hs => by
  have h1 := (h.snaps s hs).1
  have h2 := tbB_len (h.snaps s hs).2
  unfold snmB at h1
  rw [Bool.and_eq_true] at h1
  have h3 := betw_iff.1 h1.2
  unfold maxLen
  omega
theorem WrI.L {m : Img} (h : WrI m) : m.refs.length ≤ maxLen ∧ m.table.length ≤ maxLen ∧ m.snaps.length ≤ maxLen ∧ m.data.length ≤ maxLen := by
  have h1 := h.rl
  have h2 := tbB_len h.table
  have h3 := h.few
  have h4 := h.len
  unfold maxLen
  omega
theorem rpD_get {fs ds : List Int} (hd : ds.length = 24) : ∀ k, k ≤ 24 → ∀ i, i < 24 → (rpD fs ds k).getD i 0 = if i < k ∧ fs.getD i 0 = 0 then 0 else ds.getD i 0 := by
  intro k
  induction k with
  | zero => intro _ i _; rw [if_neg (by omega)]; rfl
  | succ k ih =>
    intro hk i hi
    have h := ih (by omega) i hi
    rw [rpD]
    by_cases hz : fs.getD k 0 = 0
    · rw [if_pos hz]
      by_cases e : i = k
      · subst e
        rw [if_pos ⟨by omega, hz⟩]
        have hl : i < (rpD fs ds i).length := by rw [rpD_len, hd]; exact hi
        simp [List.getD, hl]
      · have e2 : ((rpD fs ds k).set k 0).getD i 0 = (rpD fs ds k).getD i 0 := by simp [List.getD, Ne.symm e]
        rw [e2, h]
        by_cases a : i < k ∧ fs.getD i 0 = 0
        · rw [if_pos a, if_pos ⟨by omega, a.2⟩]
        · rw [if_neg a, if_neg (fun b => a ⟨by omega, b.2⟩)]
    · rw [if_neg hz, h]
      by_cases a : i < k ∧ fs.getD i 0 = 0
      · rw [if_pos a, if_pos ⟨by omega, a.2⟩]
      · rw [if_neg a, if_neg (fun b => a ⟨by
          have : i ≠ k := fun e => hz (by rw [← e]; exact b.2)
          omega, b.2⟩)]
theorem wr_cnt4 {m : Img} (h : WrI m) {i : Nat} (hi : i < 24) : 0 ≤ (imCnt m).getD i 0 ∧ (imCnt m).getD i 0 ≤ 4 := by
  have h1 := cnt_get h.tabs hi
  have h2 := sN_few (ts := imTabs m) (fun t ht => decide_eq_true (h.once t ht)) i
  have h3 := sN_nn (imTabs m) i
  have h4 : (imTabs m).length = m.snaps.length + 1 := by simp [imTabs]
  have h5 := h.few
  rw [h1]
  omega
theorem rp_right {m : Img} (h : WrI m) : ImR (rpI m) := by
  refine ⟨?_, h.table, h.few, by show (rpD _ _ _).length = 24; rw [rpD_len]; exact h.len, h.snaps, h.names, ?_, h.once, rfl, ?_⟩
  · refine ctB_of (imCnt_len m) (fun i hi => ?_)
    have h1 := wr_cnt4 h (i := i) (by rw [show (rpI m).refs = imCnt m from rfl, imCnt_len] at hi; exact hi)
    have e : (imCnt m).getD i 0 = (rpI m).refs[i] := by
      have hi' : i < (imCnt m).length := hi
      simp [List.getD, hi', rpI]
    rw [e] at h1
    exact betw_iff.2 (by omega)
  · intro n hn
    obtain ⟨i, hi, rfl⟩ := List.mem_iff_getElem.1 hn
    have hl : (rpD (imCnt m) m.data 24).length = 24 := by rw [rpD_len]; exact h.len
    have hi' : i < (rpD (imCnt m) m.data 24).length := hi
    have h24 : i < 24 := by omega
    have e : (rpD (imCnt m) m.data 24).getD i 0 = (rpI m).data[i] := by simp [List.getD, hi', rpI]
    refine Eq.mp (congrArg (fun z => numB z = true) e) ?_
    rw [rpD_get h.len 24 (by omega) i h24]
    split
    · rfl
    · have hd : i < m.data.length := by rw [h.len]; exact h24
      have e2 : m.data.getD i 0 = m.data[i] := by simp [List.getD, hd]
      rw [e2]
      exact h.nums _ (List.getElem_mem hd)
  · intro i hi hz
    show (rpD (imCnt m) m.data 24).getD i 0 = 0
    rw [rpD_get h.len 24 (by omega) i hi, if_pos ⟨hi, hz⟩]
theorem rp_self {m : Img} (h : ImR m) : rpI m = m := by
  refine img_eq h.cnt rfl rfl ?_
  refine getD_ext (by show (rpD _ _ _).length = 24; rw [rpD_len]; exact h.len) h.len (fun i hi => ?_)
  show (rpD (imCnt m) m.data 24).getD i 0 = _
  rw [rpD_get h.len 24 (by omega) i hi]
  split
  · rename_i hz
    rw [h.cnt] at hz
    exact (h.clear i hi hz.2).symm
  · rfl
theorem rpA_wr {m : Img} (h : WrI m) : rpA m = (rpI m, 0) := by unfold rpA; rw [if_pos h.ck]
theorem rpA_right {m : Img} (h : ImR m) : rpA m = (m, 0) := by rw [rpA_wr h.wr, rp_self h]
/-- What the guest is shown is what it was. -/
theorem rp_shows {m : Img} (h : WrI m) {g : Nat} (hg : g < m.table.length) : imVal (rpI m) m.table[g] = imVal m m.table[g] := by
  unfold imVal
  split
  · rfl
  · rename_i he
    have hb := tbB_at h.table g hg
    have hi : (m.table[g] - 2).toNat < 24 := by omega
    show (rpD (imCnt m) m.data 24).getD _ 0 = _
    rw [rpD_get h.len 24 (by omega) _ hi, if_neg]
    rintro ⟨_, hz⟩
    rw [cnt_get h.tabs hi, sN_tabs] at hz
    have h1 := sN_nn (m.snaps.map (·.table)) (m.table[g] - 2).toNat
    have h2 : 1 ≤ cN m.table (m.table[g] - 2).toNat := by
      unfold cN
      have hm : (((m.table[g] - 2).toNat : Int) + 2) ∈ m.table := by
        rw [show (((m.table[g] - 2).toNat : Int) + 2) = m.table[g] by omega]
        exact List.getElem_mem hg
      have := List.count_pos_iff.2 hm
      omega
    omega

end Go.Proofs.Ytkaiglhljpehpaa

/- The model's draw of images whose counts may be wrong. -/
namespace Go.Proofs.Ytkaiglhljpehpaa
open Go.RowKit
set_option linter.unusedVariables false
set_option maxRecDepth 100000

theorem num_small {v : Int} (h0 : 0 ≤ v) (h1 : v < 9) : numB v = true := betw_iff.2 ⟨h0, by omega⟩
/-- The world of such a draw. -/
structure IgW (w W : World) (b : Nat) (ao : Option Addr) (n cap c y : Nat) (a : Im4) (m0 m : Img) (ts : List Value) : Prop where
  s : SrcK W b ao n cap c
  hs : b < w.heap.size
  r : VarM W w.heap.size 26 (.slice none 0 0) (.slice none 0 0) (.slice none 0 0) (.slice none 0 0)
  v : VarM W y 26 (.slice a.ro m0.refs.length a.rc) (.slice a.tq m0.table.length a.tc) (.slice a.so m0.snaps.length a.sc) (.slice a.dq m0.data.length a.dc)
  y0 : w.heap.size < y
  o : OwnIm W w.heap.size a m ts
  k : Keep (fun k => k = b) w W
  i : WrI m
  e1 : m.refs.length = m0.refs.length
  e2 : m.table.length = m0.table.length
  e3 : m.snaps.length = m0.snaps.length
  e4 : m.data.length = m0.data.length
theorem IgW.src {w W W' : World} {b n cap c c' y : Nat} {ao : Option Addr} {a : Im4} {m0 m : Img} {ts : List Value} (h : IgW w W b ao n cap c y a m0 m ts) (hs : SrcK W' b ao n cap c') (hk : Keep (fun k => k = b) W W') : IgW w W' b ao n cap c' y a m0 m ts :=
  ⟨hs, h.hs, (hk.block _ h.r.lt (by have := h.hs; omega)).trans h.r, (hk.block _ h.v.lt (by have := h.hs; have := h.y0; omega)).trans h.v, h.y0, h.o.keep hk (fun g hg e => by have := (h.o.ge g hg).1; have := h.hs; omega), h.k.trans hk, h.i, h.e1, h.e2, h.e3, h.e4⟩
theorem IgW.more {w W : World} {b n cap c c' y : Nat} {ao : Option Addr} {a : Im4} {m0 m : Img} {ts : List Value} (h : IgW w W b ao n cap c y a m0 m ts) (hc : c ≤ c') : IgW w W b ao n cap c' y a m0 m ts := ⟨h.s.more hc, h.hs, h.r, h.v, h.y0, h.o, h.k, h.i, h.e1, h.e2, h.e3, h.e4⟩
theorem IgW.below {w W W' : World} {b n cap c y : Nat} {ao : Option Addr} {a : Im4} {m0 m : Img} {ts : List Value} (h : IgW w W b ao n cap c y a m0 m ts) (hb : Below W.heap.size W W') : IgW w W' b ao n cap c y a m0 m ts :=
  ⟨h.s.below hb, h.hs, h.r.below hb, h.v.below hb, h.y0, h.o.below hb, h.k.trans (Keep.of_below hb), h.i, h.e1, h.e2, h.e3, h.e4⟩
theorem IgW.cell {w W : World} {b n cap c y g j m1 : Nat} {ao : Option Addr} {a : Im4} {m0 m m' : Img} {ts : List Value} {u : Value} (h : IgW w W b ao n cap c y a m0 m ts) (h0 : SrcK w b ao n cap m1) (hg : ImB a m ts g) (ho : OwnIm (W.setCell ⟨g, j, none⟩ u) w.heap.size a m' ts) (hi : WrI m') (e1 : m'.refs.length = m.refs.length) (e2 : m'.table.length = m.table.length) (e3 : m'.snaps.length = m.snaps.length) (e4 : m'.data.length = m.data.length) : IgW w (W.setCell ⟨g, j, none⟩ u) b ao n cap c y a m0 m' ts := by
  have hk : Keep (fun k => k = g) W (W.setCell ⟨g, j, none⟩ u) := (Keep.refl (fun k => k = g) W).setCell (p := ⟨g, j, none⟩) rfl u
  have hge := (h.o.ge g hg).1
  have hkw := keep_new h.k hk (fun k e => .inl (by omega))
  exact ⟨h0.other h.s hkw hk (by have := h.hs; omega), h.hs, h.r.other (p := ⟨g, j, none⟩) (fun e => h.o.other h.r (e ▸ hg)) u, h.v.other (p := ⟨g, j, none⟩) (fun e => h.o.other h.v (e ▸ hg)) u, h.y0, ho, hkw, hi, e1.trans h.e1, e2.trans h.e2, e3.trans h.e3, e4.trans h.e4⟩

set_option maxHeartbeats 6400000 in
theorem wrongImage_k (b : Nat) (ao : Option Addr) (n cap m : Nat) (w : World) (hm : m ≤ 600000) (hn : n ≤ 1048576) (hs : SrcK w b ao n cap m) :
    Calls Try.prog 27 #[.pointer (some ⟨b, 0, none⟩)] w fun e w' => ∃ a M ts, e = .returned (imV a M) ∧ OwnIm w' w.heap.size a M ts ∧ WrI M ∧ SrcK w' b ao n cap (m + 4000) ∧ Keep (fun k => k = b) w w' := by
  have hbl := hs.lt
  have HS0 := hide hs
  clear hs
  have HSA := hide ((unhide HS0).below (Joins.below_alloc1 w (.cells #[.slice none 0 0, .slice none 0 0, .slice none 0 0, .slice none 0 0] 26)))
  have HKA : Hid (Keep (fun k => k = b) w (w.alloc (.cells #[.slice none 0 0, .slice none 0 0, .slice none 0 0, .slice none 0 0] 26))) := hide (Keep.of_below (Joins.below_alloc1 _ _))
  have HRA := hide (VarM.new w 26 (.slice none 0 0) (.slice none 0 0) (.slice none 0 0) (.slice none 0 0))
  go_enter Try.func27, Try.ntmps27
  go_upto_region 1 with fail
  revert HSA HKA HRA
  generalize (w.alloc _) = W0
  intro HSA HKA HRA
  go_wp2_with fail
  refine (image_k b ao n cap m _ (by omega) hn (unhide HSA)).mono ?_
  rintro e w1 ⟨a, M0, ts, rfl, ho, hi, hs1, hk1⟩
  have HS1 := hide hs1
  have HI0 : Hid (IgW w (w1.alloc (.cells #[.slice a.ro M0.refs.length a.rc, .slice a.tq M0.table.length a.tc, .slice a.so M0.snaps.length a.sc, .slice a.dq M0.data.length a.dc] 26)) b ao n cap (m + 2000) w1.heap.size a M0 M0 ts) := hide (by
    have hb := Joins.below_alloc1 w1 (.cells #[.slice a.ro M0.refs.length a.rc, .slice a.tq M0.table.length a.tc, .slice a.so M0.snaps.length a.sc, .slice a.dq M0.data.length a.dc] 26)
    have hr : VarM w1 w.heap.size 26 (.slice none 0 0) (.slice none 0 0) (.slice none 0 0) (.slice none 0 0) := (hk1.block _ (unhide HRA).lt (by omega)).trans (unhide HRA)
    exact ⟨hs1.below hb, hbl, hr.below hb, VarM.new _ _ _ _ _ _, hr.lt, (ho.below hb).base (unhide HKA).size, ((unhide HKA).trans hk1).trans (Keep.of_below hb), hi.wr, rfl, rfl, rfl, rfl⟩)
  clear ho hi hs1 hk1 HS1 HSA HKA HRA
  go_upto_region 2 with fail
  revert HI0
  generalize w1.heap.size = y
  generalize (w1.alloc _) = W2
  intro HI0
  go_wp2_with fail
  refine (next_k b ao n cap _ 4 _ (by omega) (by omega) (by omega) hn (unhide HI0).s).mono ?_
  rintro e w3 ⟨r0, rfl, h00, h01, hs3, hk3⟩
  obtain ⟨q, rfl⟩ := Int.eq_ofNat_of_zero_le h00
  have HI3 := hide ((unhide HI0).src hs3 hk3)
  clear hs3 hk3 HI0 h00
  go_wp2
  go_loopw [4] (fun i wr => ∃ (k : Nat) (M : Img), k ≤ 3 ∧ i = .int .i64 k ∧ Hid (IgW w wr b ao n cap (m + 2003 + (3 - k) * 12) y a M0 M ts)) (fun i _ => (intOf i).toNat)
  case atStart => exact ⟨q, M0, by omega, rfl, hide ((unhide HI3).more (by omega))⟩
  case round =>
    clear HI3
    obtain ⟨k, M, hk, rfl, HI⟩ := hrel
    by_cases hlt : 0 < k
    · have hlti : (0 : Int) < (k : Int) := by omega
      go_upto_region 5 with fail
      have HJ := hide ((unhide HI).below (Below.refl _ _).drew)
      have hS0 := (unhide HJ).v
      refine wp_region_ord (fun w' => VarM w' y 26 (.slice a.ro M0.refs.length a.rc) (.slice a.tq M0.table.length a.tc) (.slice a.so M0.snaps.length a.sc) (.slice a.dq M0.data.length a.dc)) [0, 1, 2, 3, 4, 5] [(0, 0), (1, 0), (2, 0), (4, 0), (3, 2), (5, 2), (6, 4), (7, 3)] (by kernel_rfl) (by kernel_rfl) rfl (by kernel_rfl) ?_
      refine ord_read (.pointer (some ⟨y, 0, none⟩)) rfl rfl hS0 (fun W hW => by go_simp) ?_
      refine ord_read (.slice a.ro M0.refs.length a.rc) rfl rfl hS0 (fun W hW => by obtain ⟨k0, k1, k2, k3⟩ := hW.cells; go_simp) ?_
      refine ord_read (.pointer (some ⟨b, 0, none⟩)) rfl rfl hS0 (fun W hW => by go_simp) ?_
      refine ord_read (.pointer (some ⟨b, 0, none⟩)) rfl rfl hS0 (fun W hW => by go_simp) ?_
      refine ord_held rfl rfl ?_
      intro K hK
      unfold Oper.wp
      go_simp
      refine (next_k b ao n cap _ 24 _ (by omega) (by omega) (by omega) hn (unhide HJ).s).mono ?_
      rintro e wa ⟨ra, rfl, ha0, ha1, hsa, hka⟩
      have HJa := hide ((unhide HJ).src hsa hka)
      refine hK _ _ (unhide HJa).v ?_
      clear hK K hsa hka hS0
      refine ord_held rfl rfl ?_
      intro K hK
      unfold Oper.wp
      go_simp
      refine (next_k b ao n cap _ 5 _ (by omega) (by omega) (by omega) hn (unhide HJa).s).mono ?_
      rintro e wb ⟨v, rfl, hv0, hv1, hsb, hkb⟩
      have HJb := hide ((unhide HJa).src hsb hkb)
      refine hK _ _ (unhide HJb).v ?_
      clear hK K hsb hkb HJa HJ HI
      obtain ⟨c, rfl⟩ := Int.eq_ofNat_of_zero_le ha0
      have h24 := (unhide HJb).i.rl
      have hci : (c : Int) < (M0.refs.length : Int) := by rw [← (unhide HJb).e1, h24]; omega
      obtain ⟨g, eg, hg1, hf1, hi1, hs1⟩ := (unhide HJb).o.setR (c := c) (by rw [h24]; omega)
      have HI5 := hide ((unhide HJb).cell (unhide HS0) hi1 (hs1 v) ((unhide HJb).i.setR c (v := v) ⟨by omega, by omega⟩) (by simp) (by simp) (by simp) (by simp))
      refine ord_val (.pointer (some ⟨g, c, none⟩)) rfl rfl (fun W => by rw [eg]; go_simp) ?_
      refine ord_alone rfl rfl ?_
      intro K hK
      unfold Oper.wp
      go_simp
      refine hK _ _ ?_
      clear hK K hg1 hf1 hi1 hs1 hci h24 HJb
      refine ord_done ?_
      revert HI5
      generalize (wb.setCell _ _) = w5
      intro HI5
      clear ha0 ha1 hv0 hv1 eg
      go_upto_region 6 with fail
      have HJ := hide ((unhide HI5).below (Below.refl _ _).drew)
      have hS0 := (unhide HJ).v
      refine wp_region_ord (fun w' => VarM w' y 26 (.slice a.ro M0.refs.length a.rc) (.slice a.tq M0.table.length a.tc) (.slice a.so M0.snaps.length a.sc) (.slice a.dq M0.data.length a.dc)) [0, 1, 2, 3, 4, 5] [(0, 0), (1, 0), (2, 0), (4, 0), (3, 2), (5, 2), (6, 4), (7, 3)] (by kernel_rfl) (by kernel_rfl) rfl (by kernel_rfl) ?_
      refine ord_read (.pointer (some ⟨y, 3, none⟩)) rfl rfl hS0 (fun W hW => by go_simp) ?_
      refine ord_read (.slice a.dq M0.data.length a.dc) rfl rfl hS0 (fun W hW => by obtain ⟨k0, k1, k2, k3⟩ := hW.cells; go_simp) ?_
      refine ord_read (.pointer (some ⟨b, 0, none⟩)) rfl rfl hS0 (fun W hW => by go_simp) ?_
      refine ord_read (.pointer (some ⟨b, 0, none⟩)) rfl rfl hS0 (fun W hW => by go_simp) ?_
      refine ord_held rfl rfl ?_
      intro K hK
      unfold Oper.wp
      go_simp
      refine (next_k b ao n cap _ 24 _ (by omega) (by omega) (by omega) hn (unhide HJ).s).mono ?_
      rintro e wa ⟨ra, rfl, ha0, ha1, hsa, hka⟩
      have HJa := hide ((unhide HJ).src hsa hka)
      refine hK _ _ (unhide HJa).v ?_
      clear hK K hsa hka hS0
      refine ord_held rfl rfl ?_
      intro K hK
      unfold Oper.wp
      go_simp
      refine (next_k b ao n cap _ 9 _ (by omega) (by omega) (by omega) hn (unhide HJa).s).mono ?_
      rintro e wb ⟨v, rfl, hv0, hv1, hsb, hkb⟩
      have HJb := hide ((unhide HJa).src hsb hkb)
      refine hK _ _ (unhide HJb).v ?_
      clear hK K hsb hkb HJa HJ HI5
      obtain ⟨c, rfl⟩ := Int.eq_ofNat_of_zero_le ha0
      have h24 := (unhide HJb).i.len
      have hci : (c : Int) < (M0.data.length : Int) := by rw [← (unhide HJb).e4, h24]; omega
      obtain ⟨g, eg, hg1, hf1, hi1, hs1⟩ := (unhide HJb).o.setD (c := c) (by rw [h24]; omega)
      have HI6 := hide ((unhide HJb).cell (unhide HS0) hi1 (hs1 v) ((unhide HJb).i.setD c (v := v) (num_small (by omega) (by omega))) (by simp) (by simp) (by simp) (by simp))
      refine ord_val (.pointer (some ⟨g, c, none⟩)) rfl rfl (fun W => by rw [eg]; go_simp) ?_
      refine ord_alone rfl rfl ?_
      intro K hK
      unfold Oper.wp
      go_simp
      refine hK _ _ ?_
      clear hK K hg1 hf1 hi1 hs1 hci h24 HJb
      refine ord_done ?_
      revert HI6
      generalize (wb.setCell _ _) = w6
      intro HI6
      clear ha0 ha1 hv0 hv1 eg
      have hws : IntKind.i64.wrap ((k : Int) - 1) = (k : Int) - 1 := by rw [IntKind.wrap_i64]; omega
      go_wp2
      go_roundw
      case rel => exact ⟨k - 1, _, by omega, by simp; omega, hide ((unhide HI6).more (by omega))⟩
      case measure => simp [intOf]; omega
    · have hlti : ¬ (0 : Int) < (k : Int) := by omega
      have hk : Keep (fun k => k = w.heap.size) wr (putI wr w.heap.size a M0) := (((((Keep.refl (fun k => k = w.heap.size) wr).setCell (p := ⟨w.heap.size, 0, none⟩) rfl _).setCell (p := ⟨w.heap.size, 1, none⟩) rfl _).setCell (p := ⟨w.heap.size, 2, none⟩) rfl _).setCell (p := ⟨w.heap.size, 3, none⟩) rfl _)
      have hkw := keep_new (unhide HI).k hk (fun k e => .inl (by omega))
      have HP := hide (And.intro ((((unhide HI).r.set0 (.slice a.ro M0.refs.length a.rc)).set1 (.slice a.tq M0.table.length a.tc)).set2 (.slice a.so M0.snaps.length a.sc) |>.set3 (.slice a.dq M0.data.length a.dc)) (And.intro ((unhide HI).o.keep hk (fun g hg e => (unhide HI).o.other (unhide HI).r (e ▸ hg))) (And.intro ((unhide HS0).other (unhide HI).s hkw hk (by omega)) hkw)))
      have HEV : Hid (imV a M0 = imV a M) := hide (by rw [imV, imV, (unhide HI).e1, (unhide HI).e2, (unhide HI).e3, (unhide HI).e4])
      have HWI := hide (unhide HI).i
      clear hk hkw
      unfold putI at HP
      obtain ⟨c0, c1, c2, c3⟩ := (unhide HI).v.cells
      obtain ⟨r0, r1, r2, r3⟩ := (unhide HI).r.cells
      obtain ⟨z0, z1, z2, z3⟩ := (unhide HI).r.free
      clear HI
      go_wp2
      refine bodyPost_ret (res_im Try.results27 rfl (unhide HP).1) rfl ?_
      exact ⟨a, M, by rw [← unhide HEV], ⟨ts, (unhide HP).2.1⟩, unhide HWI, (unhide HP).2.2.1.more (by omega), (unhide HP).2.2.2⟩

set_option maxHeartbeats 1600000 in
theorem wrongImageOf_any (ao : Option Addr) (n cap : Nat) (w : World) (hn : n ≤ 1048576) (hB : Bs w ao n) :
    Calls Try.prog 12 #[.slice ao n cap] w fun e w' => ∃ a M ts, e = .returned (imV a M) ∧ OwnIm w' w.heap.size a M ts ∧ WrI M ∧ Below w.heap.size w w' := by
  have HA := hide (Joins.below_alloc1 w (.cells #[.slice none 0 0, .slice none 0 0, .slice none 0 0, .slice none 0 0] 26))
  have HV := hide (VarM.new w 26 (.slice none 0 0) (.slice none 0 0) (.slice none 0 0) (.slice none 0 0))
  have HB := hide (hB.below (unhide HA))
  clear hB
  go_enter Try.func12, Try.ntmps12
  go_upto_region 1 with fail
  revert HA HV HB
  generalize (w.alloc _) = W0
  intro HA HV HB
  go_wp2_with fail
  refine (source_any ao n cap _ hn (unhide HB)).mono ?_
  rintro e w1 ⟨rfl, hs1, hb1, hz⟩
  go_wp2_with fail
  refine (wrongImage_k _ ao n cap 0 _ (by omega) hn hs1).mono ?_
  rintro e w2 ⟨a, M, ts, rfl, ho, hi, _, hk⟩
  have hb2 : Below W0.heap.size W0 w2 := hb1.trans (hk.below (B := W0.heap.size) (by omega) (fun k hk => by omega))
  have HP := hide (ImSt.put ((unhide HV).below hb2) (ho.base (B' := W0.heap.size) (by omega)) (fr (unhide HA) hb2) (Nat.le_refl _) (unhide HV).lt a M)
  have hv2 := (unhide HV).below hb2
  have HI := hide hi
  have HA0 := hide (unhide HA).size
  clear ho hi hk hb1 hs1 hz hb2 HV HB HA
  obtain ⟨c0, c1, c2, c3⟩ := hv2.cells
  obtain ⟨z0, z1, z2, z3⟩ := hv2.free
  clear hv2
  go_wp2
  refine bodyPost_ret (res_im Try.results12 rfl (unhide HP).1) rfl ?_
  first | exact ⟨a, M, ts, rfl, (unhide HP).2.1.base (unhide HA0), unhide HI, (unhide HP).2.2⟩ | exact ⟨a, M, rfl, ⟨ts, (unhide HP).2.1.base (unhide HA0)⟩, unhide HI, (unhide HP).2.2⟩

end Go.Proofs.Ytkaiglhljpehpaa

/- Contracts of impl.EntryOf and impl.ResizeTable. -/
namespace Go.Proofs.Ytkaiglhljpehpaa
open Go.RowKit
set_option linter.unusedVariables false
set_option maxRecDepth 100000

theorem ret_3i {a b c x y z : Int} (h1 : a = x) (h2 : b = y) (h3 : c = z) : Ending.returned (.tuple #[.int .i64 a, .int .i64 b, .int .i64 c]) = .returned (.tuple #[.int .i64 x, .int .i64 y, .int .i64 z]) := by rw [h1, h2, h3]

set_option maxHeartbeats 1600000 in
theorem entryOf_impl (ao : Option Addr) (cap : Nat) (xs : List Int) (g : Int) (w : World) (hl : xs.length ≤ maxLen) (hc : Is w ao xs) :
    Calls Try.prog 32 #[.slice ao xs.length cap, .int .i64 g] w fun e w' => e = .returned (.tuple #[.int .i64 (enK xs g), .int .i64 (enC xs g), .int .i64 (enF xs g)]) ∧ Below w.heap.size w w' := by
  have HC := hide hc
  have HL := hide hl
  unfold maxLen at hl
  clear hc
  have hws : IntKind.i64.wrap ((xs.length : Int) - 1) = (xs.length : Int) - 1 := by rw [IntKind.wrap_i64]; omega
  rcases en_cases xs g with ⟨h0, h1, h2, h3⟩ | ⟨hb, hg, h1, h2, h3⟩ | ⟨hb, q, rfl, hq, h1, h2, h3⟩
  · have HE := hide (And.intro h1 (And.intro h2 h3))
    have hne := tbF_ne h0
    clear h0 h1 h2 h3
    go_enter Try.func32, Try.ntmps32
    go_wp2_with (go_at_call 56; refine (tableFault_any _ _ xs _ (unhide HL) (unhide HC)).mono ?_; rintro e w' ⟨rfl, hw⟩; replace hw := hw.symm; subst hw)
    refine bodyPost_ret (v := .tuple #[.int .i64 0, .int .i64 0, .int .i64 (tbF xs)]) (by simp [results, Try.results32]) rfl ⟨?_, Below.refl _ _⟩
    exact ret_3i (unhide HE).2.1.symm (unhide HE).2.2.symm (unhide HE).1.symm
  · have HE := hide (And.intro h1 (And.intro h2 h3))
    have H0 := hide (tbF_ok hb)
    clear h1 h2 h3
    go_enter Try.func32, Try.ntmps32
    go_wp2_with (first | (go_at_call 56; refine (tableFault_any _ _ xs _ (unhide HL) (unhide HC)).mono ?_; rintro e w' ⟨rfl, hw⟩; replace hw := hw.symm; subst hw; rw [unhide H0]) | (go_at_call 57; refine (within_any _ _ _ _).mono ?_; rintro e w' ⟨rfl, hw⟩; replace hw := hw.symm; subst hw; rw [hg]))
    refine bodyPost_ret (v := .tuple #[.int .i64 0, .int .i64 0, .int .i64 4]) (by simp [results, Try.results32]) rfl ⟨?_, Below.refl _ _⟩
    exact ret_3i (unhide HE).2.1.symm (unhide HE).2.2.symm (unhide HE).1.symm
  · have HE := hide (And.intro h1 (And.intro h2 h3))
    have H0 := hide (tbF_ok hb)
    have hg : betw (q : Int) 0 ((xs.length : Int) - 1) = true := betw_yes (by omega) (by omega)
    have hqi : (q : Int) < (xs.length : Int) := by omega
    have HI := hide (tbB_at hb q hq)
    obtain ⟨b, off, rfl, hcl⟩ := unhide HC q hq
    clear h1 h2 h3
    go_enter Try.func32, Try.ntmps32
    go_wp2_with (first | (go_at_call 56; refine (tableFault_any _ _ xs _ (unhide HL) (unhide HC)).mono ?_; rintro e w' ⟨rfl, hw⟩; replace hw := hw.symm; subst hw; rw [unhide H0]) | (go_at_call 57; refine (within_any _ _ _ _).mono ?_; rintro e w' ⟨rfl, hw⟩; replace hw := hw.symm; subst hw; rw [hg]) | (go_at_call 58; refine (splitEntry_any _ _ (by have := unhide HI; omega) (by have := unhide HI; omega)).mono ?_; rintro e w' ⟨rfl, hw⟩; replace hw := hw.symm; subst hw))
    refine bodyPost_ret (v := .tuple #[.int .i64 (min xs[q] 2), .int .i64 (max 0 (xs[q] - 2)), .int .i64 0]) (by simp [results, Try.results32]) rfl ⟨?_, Below.refl _ _⟩
    exact ret_3i (unhide HE).2.1.symm (unhide HE).2.2.symm (unhide HE).1.symm

/-- A table laid over a row of zeros is the table of that size. -/
theorem rz_splice (xs : List Int) (q : Nat) (M : List Value) (hM : M = List.replicate q (.int .i64 0)) : splice M 0 (intV (xs.take q)) = intV (rzTo xs q) := by
  subst hM
  apply List.ext_getElem?
  intro i
  unfold splice rzTo intV
  simp only [List.take_zero, List.nil_append, Nat.zero_add, List.length_map, List.length_take, List.getElem?_append, List.getElem?_map, List.getElem?_take, List.drop_replicate, List.getElem?_replicate, List.getD]
  by_cases hi : i < min q xs.length
  · have h1 : i < q := by omega
    have h2 : i < xs.length := by omega
    simp [hi, h1, h2]
  · by_cases hq : i < q
    · have h2 : ¬ i < xs.length := by omega
      simp [hi, hq, List.getElem?_eq_none (show xs.length ≤ i by omega)]
      omega
    · simp [hi, hq]
      omega
theorem sizeN1 : (Try.prog.info? 3).map (·.size) = some 1 := by kernel_rfl
theorem takeV_one (xs : List Int) : ∀ v ∈ intV xs, v.oneCell' = true := by
  intro v hv
  simp only [intV, List.mem_map] at hv
  obtain ⟨n, _, rfl⟩ := hv
  rfl

end Go.Proofs.Ytkaiglhljpehpaa

/- Contracts of impl.ReadCluster, impl.NewImage. -/
namespace Go.Proofs.Ytkaiglhljpehpaa
open Go.RowKit
set_option linter.unusedVariables false
set_option maxRecDepth 100000

set_option maxHeartbeats 1600000 in
theorem readCluster_impl (a : Im4) (m : Img) (g : Int) (w : World) (hL : ImL m) (hc : ImS w a m) :
    Calls Try.prog 16 #[imV a m, .int .i64 g] w fun e w' => e = .returned (.tuple #[.int .i64 (rcA m g).1, .int .i64 (rcA m g).2]) ∧ Below w.heap.size w w' := by
  have HA := hide (Joins.below_alloc1 w (.cells #[.slice a.ro m.refs.length a.rc, .slice a.tq m.table.length a.tc, .slice a.so m.snaps.length a.sc, .slice a.dq m.data.length a.dc] 26))
  have HV := hide (VarM.new w 26 (.slice a.ro m.refs.length a.rc) (.slice a.tq m.table.length a.tc) (.slice a.so m.snaps.length a.sc) (.slice a.dq m.data.length a.dc))
  have HC := hide (hc.below (unhide HA))
  have HL := hide hL
  obtain ⟨R, HR⟩ : ∃ R, Hid (R = rcA m g) := ⟨_, rfl⟩
  rw [← unhide HR]
  clear hc hL
  go_enter Try.func16, Try.ntmps16
  go_upto_region 1 with fail
  revert HA HV HC
  generalize (w.alloc _) = W0
  intro HA HV HC
  obtain ⟨c0, c1, c2, c3⟩ := (unhide HV).cells
  go_wp2_with fail
  refine (imageOK_impl a m _ (unhide HL) (unhide HC)).mono ?_
  rintro e w1 ⟨rfl, hb⟩
  have HB1 := hide (fr (unhide HA) hb)
  have HC1 := hide ((unhide HC).below hb)
  have HV1 := hide ((unhide HV).below hb)
  clear hb c0 c1 c2 c3 HA HV HC
  cases him : imB m
  · have HE : Hid (R = (0, 1)) := hide (by rw [unhide HR, rcA, him]; rfl)
    go_wp2
    go_ret2
    exact ⟨by rw [unhide HE]; rfl, unhide HB1⟩
  obtain ⟨c0, c1, c2, c3⟩ := (unhide HV1).cells
  have HM := hide (imB_iff.1 him)
  have HIM := hide him
  clear him
  go_wp2_with fail
  refine (entryOf_impl _ _ m.table g _ (unhide HL).t (unhide HC1).t).mono ?_
  rintro e w2 ⟨rfl, hb⟩
  have HB2 := hide (fr (unhide HB1) hb)
  have HC2 := hide ((unhide HC1).below hb)
  have HV2 := hide ((unhide HV1).below hb)
  clear hb c0 c1 c2 c3 HB1 HC1 HV1
  rcases en_cases m.table g with ⟨hf, _⟩ | ⟨hb, hg, e1, e2, e3⟩ | ⟨hb, q, rfl, hq, e1, e2, e3⟩
  · exact absurd (tbF_ok (unhide HM).table) hf
  · have HE : Hid (R = (0, 4)) := hide (by rw [unhide HR, rcA, if_pos (unhide HIM), hg]; rfl)
    rw [e1, e2, e3]
    clear e1 e2 e3 hg
    go_wp2
    go_ret2
    exact ⟨by rw [unhide HE]; rfl, unhide HB2⟩
  · have hr := tbB_at hb q hq
    have hgb : betw (q : Int) 0 ((m.table.length : Int) - 1) = true := betw_iff.2 ⟨by omega, by omega⟩
    have HE : Hid (R = (imVal m m.table[q], 0)) := hide (by rw [unhide HR, rcA, if_pos (unhide HIM), hgb]; simp [List.getD, hq])
    rw [e1, e2, e3]
    clear e1 e2 e3 hgb
    generalize m.table[q] = T at *
    by_cases hT : T < 2
    · have HE2 : Hid (R = (0, 0)) := hide (by rw [unhide HE, imVal, if_pos hT])
      have h1 : min T 2 = T := by omega
      have h2 : max 0 (T - 2) = 0 := by omega
      rw [h1, h2]
      have h3 : (T != 2) = true := by simp; omega
      clear h1 h2 hT
      go_wp2
      go_ret2
      exact ⟨by rw [unhide HE2]; rfl, unhide HB2⟩
    · obtain ⟨c, hcc⟩ := Int.eq_ofNat_of_zero_le (show 0 ≤ T - 2 by omega)
      have hd24 := (unhide HM).len
      have hcd : c < m.data.length := by omega
      have hcdi : (c : Int) < (m.data.length : Int) := by omega
      have HE2 : Hid (R = (m.data[c], 0)) := hide (by rw [unhide HE, imVal, if_neg hT, hcc, Int.toNat_natCast]; simp [List.getD, hcd])
      have h1 : min T 2 = 2 := by omega
      have h2 : max 0 (T - 2) = (c : Int) := by omega
      rw [h1, h2]
      obtain ⟨b3, o3, e3, hx3⟩ := (unhide HC2).d c hcd
      obtain ⟨c0, c1, c2, c3⟩ := (unhide HV2).cells
      rw [e3] at c3
      clear h1 h2 hT hcc hd24 e3
      go_wp2
      go_ret2
      exact ⟨by rw [unhide HE2]; rfl, unhide HB2⟩

section
variable (w : World) (r a b c : Obj)
theorem chI0 : ((((w.alloc r).alloc a).alloc b).alloc c).drew.heap[w.heap.size]? = some r := blk_belowI (blk_belowI (blk_belowI (blk_belowI (heap_alloc_new w r) (Joins.below_alloc1 _ _)) (Joins.below_alloc1 _ _)) (Joins.below_alloc1 _ _)) (Below.refl _ _).drew
theorem chI1 : ((((w.alloc r).alloc a).alloc b).alloc c).drew.heap[w.heap.size + 1]? = some a := by
  have h := heap_alloc_new (w.alloc r) a
  rw [World.size_alloc] at h
  exact blk_belowI (blk_belowI (blk_belowI h (Joins.below_alloc1 _ _)) (Joins.below_alloc1 _ _)) (Below.refl _ _).drew
theorem chI2 : ((((w.alloc r).alloc a).alloc b).alloc c).drew.heap[w.heap.size + 1 + 1]? = some b := by
  have h := heap_alloc_new ((w.alloc r).alloc a) b
  rw [World.size_alloc, World.size_alloc] at h
  exact blk_belowI (blk_belowI h (Joins.below_alloc1 _ _)) (Below.refl _ _).drew
theorem chI3 : ((((w.alloc r).alloc a).alloc b).alloc c).drew.heap[w.heap.size + 1 + 1 + 1]? = some c := by
  have h := heap_alloc_new (((w.alloc r).alloc a).alloc b) c
  rw [World.size_alloc, World.size_alloc, World.size_alloc] at h
  exact blk_belowI h (Below.refl _ _).drew
theorem chIB : Below w.heap.size w ((((w.alloc r).alloc a).alloc b).alloc c).drew := (fr (Joins.below_alloc3 w r a b) (Joins.below_alloc1 _ c)).drew
end
theorem new_leafI {w W : World} {n g0 g1 g3 : Nat} (hn : n ≤ 1000) (h0 : W.heap[g0]? = some (.cells (intV zero24).toArray 3 (0, 0))) (h1 : W.heap[g1]? = some (.cells (intV (List.replicate n 0)).toArray 3 (0, 0))) (h3 : W.heap[g3]? = some (.cells (intV zero24).toArray 3 (0, 0)))
    (n1 : g0 ≠ g1) (n2 : g0 ≠ g3) (n3 : g1 ≠ g3) (b0 : w.heap.size ≤ g0) (b1 : w.heap.size ≤ g1) (b3 : w.heap.size ≤ g3) (hb : Below w.heap.size w W) :
    AnsI w W (.returned (.tuple #[.agg #[.slice (some ⟨g0, 0, none⟩) 24 24, .slice (some ⟨g1, 0, none⟩) n n, .slice none 0 0, .slice (some ⟨g3, 0, none⟩) 24 24], .int .i64 0])) (imNew n, 0) := by
  have hl : (imNew n).table.length = n := by simp [imNew]
  refine ⟨⟨some ⟨g0, 0, none⟩, 24, some ⟨g1, 0, none⟩, n, none, 0, some ⟨g3, 0, none⟩, 24⟩, [], by simp only [imV, hl]; rfl, ⟨rfl, .inl ⟨rfl, rfl, _, _, rfl⟩, ?_⟩, hb⟩
  have o0 := own_made (B := w.heap.size) (n := 24) h0 b0 rfl (by omega)
  have o1 := own_made (B := w.heap.size) (n := n) h1 b1 (by simp) hn
  have o3 := own_made (B := w.heap.size) (n := 24) h3 b3 rfl (by omega)
  have e : imRows ⟨some ⟨g0, 0, none⟩, 24, some ⟨g1, 0, none⟩, n, none, 0, some ⟨g3, 0, none⟩, 24⟩ (imNew n) [] = [(.slice (some ⟨g0, 0, none⟩) 24 24, zero24), (.slice (some ⟨g1, 0, none⟩) n n, List.replicate n 0), (.slice (some ⟨g3, 0, none⟩) 24 24, zero24)] := by
    simp only [imRows, hl]; rfl
  rw [e]
  refine ⟨fun r hr => ?_, ?_⟩
  · simp only [List.mem_cons, List.not_mem_nil, or_false] at hr
    rcases hr with rfl | rfl | rfl
    · exact o0
    · exact o1
    · exact o3
  · simp only [List.pairwise_cons, List.mem_cons, List.not_mem_nil, or_false, forall_eq_or_imp, forall_eq, List.Pairwise.nil, and_true]
    exact ⟨⟨own_ne (v := undef) n1, own_ne (v := undef) n2⟩, own_ne (v := undef) n3, fun _ h => h.elim⟩

end Go.Proofs.Ytkaiglhljpehpaa
