import Derived.Test.YtgkpddnpckglbaaRows
import Derived.Test.YtgkpddnpckglbaaPart1
import Derived.Test.YtgkpddnpckglbaaPart2
import Derived.Test.YtgkpddnpckglbaaPart3
import Derived.Test.YtgkpddnpckglbaaPart19
import Derived.Test.YtgkpddnpckglbaaPart4
import Derived.Test.YtgkpddnpckglbaaPart5
import Derived.Test.YtgkpddnpckglbaaPart6
import Derived.Test.YtgkpddnpckglbaaPart9
import Derived.Test.YtgkpddnpckglbaaPart13
import Derived.Test.YtgkpddnpckglbaaPart14
import Derived.Test.YtgkpddnpckglbaaPart21
import Derived.WalkKit
import Derived.WalkSpells
import Derived.KernelRfl
import Derived.BigQuiet
import Derived.Deep.QuietTactic
import Derived.Deep.RegionWith
import Derived.Deep.RegionHeld3
import Derived.Test.YtgkpddnpckglbaaPart8
import Derived.Test.YtgkpddnpckglbaaPart7
import Derived.Test.YtgkpddnpckglbaaPart17

/- Contract of impl.ResizeImage. -/
namespace Go.Proofs.Ytgkpddnpckglbaa
open Go.RowKit
set_option linter.unusedVariables false
set_option maxRecDepth 100000

/-- Another table, that was made since. -/
theorem OwnIm.freshT {w w' : World} {B c : Nat} {q : Option Addr} {a : Im4} {m : Img} {ts : List Value} {t : List Int} (h : OwnIm w B a m ts) (hb : Below w.heap.size w w') (hv : OwnN w' w.heap.size (.slice q t.length c) t) (hB : B ≤ w.heap.size) : OwnIm w' B { a with tq := q, tc := c } { m with table := t } ts := by
  refine ⟨h.len, h.s.below hb, ?_⟩
  have h1 := h.rows.below hb
  have hold : ∀ r ∈ imRows a m ts, ∀ g, Own r.1 g → ¬ Own (.slice q t.length c) g := fun r hr g hg hg' => by
    have k1 := ((h.rows.own r hr).ge g hg).2
    have k2 := (hv.ge g hg').1
    omega
  unfold imRows at h1 hold ⊢
  simp only
  have hp := h1.apart
  rw [List.pairwise_cons, List.pairwise_cons] at hp
  obtain ⟨p0, p1, p2⟩ := hp
  refine ⟨fun r hr => ?_, ?_⟩
  · simp only [List.mem_cons] at hr
    rcases hr with rfl | rfl | hr
    · exact h1.own _ (by simp)
    · exact hv.base hB
    · exact h1.own r (by simp only [List.mem_cons]; exact .inr (.inr hr))
  · rw [List.pairwise_cons, List.pairwise_cons]
    refine ⟨fun r hr => ?_, fun r hr g hg hg' => ?_, p2⟩
    · rw [List.mem_cons] at hr
      rcases hr with rfl | hr
      · exact hold (.slice a.ro m.refs.length a.rc, m.refs) (by simp)
      · exact p0 r (List.mem_cons_of_mem _ hr)
    · exact hold r (by simp only [List.mem_cons] at hr ⊢; exact .inr (.inr hr)) g hg' hg
theorem Hld.freshT {W W' : World} {p B c : Nat} {q : Option Addr} {a : Im4} {m : Img} {ts : List Value} {t : List Int} (h : Hld W p B a m ts) (hb : Below W.heap.size W W') (hv : OwnN W' W.heap.size (.slice q t.length c) t) (hB : B ≤ W.heap.size) : Hld (W'.setCell ⟨p, 1, none⟩ (.slice q t.length c)) p B { a with tq := q, tc := c } { m with table := t } ts ∧ Below B W (W'.setCell ⟨p, 1, none⟩ (.slice q t.length c)) := by
  have h1 := h.below hb
  have ho := h.o.freshT hb hv hB
  have hk : Keep (fun g => g = p) W' (W'.setCell ⟨p, 1, none⟩ (.slice q t.length c)) := (Keep.refl (fun g => g = p) W').setCell (p := ⟨p, 1, none⟩) rfl _
  exact ⟨⟨h1.v.set1 _, ho.keep hk (fun g hg e => ho.other h1.v (e ▸ hg)), h.p⟩, (hb.mono hB).trans (hk.below (Nat.le_trans hB hb.size) (fun g e => by have := h.p; omega))⟩

/-- The image that ResizeImage makes ahead of its counts. -/
def rs1 (m : Img) (n : Int) : Img := if betw n 0 12 = true then { m with table := rzTo m.table n.toNat } else m
def rsC (m : Img) (n : Int) : Int := if betw n 0 12 = true then 0 else 4
theorem rs_fit {m : Img} (n : Int) (h : ImR m) : FitR (rs1 m n) := by
  unfold rs1
  by_cases hn : betw n 0 12 = true
  · rw [if_pos hn]
    obtain ⟨l0, l1⟩ := betw_iff.1 hn
    exact h.fitT (d := m.data) (tbB_rz h.table (by omega)) h.len
  · rw [if_neg hn]
    exact h.fitR
theorem rs_ans {m : Img} (n : Int) : (if imB m = true then (imFit (rs1 m n), rsC m n) else (im0, 1)) = rsA' m n := by
  refine ans_eq (fun h => ?_) (fun h => by rw [rsA', h]; rfl)
  have hR := imB_iff.1 h
  rw [rsA', if_pos h]
  unfold rs1 rsC
  by_cases hg : betw n 0 12 = true
  · rw [if_pos hg, if_pos hg, if_pos hg]
    obtain ⟨l0, l1⟩ := betw_iff.1 hg
    exact ⟨fit_resize hR (by omega), rfl⟩
  · rw [if_neg hg, if_neg hg, if_neg hg]
    exact ⟨fit_self hR, rfl⟩

set_option maxHeartbeats 1600000 in
theorem resizeC_any (m : Img) (n : Int) (x : Nat) (W : World) (p B : Nat) (a : Im4) (ts : List Value) (hR : ImR m) (hx : VarN1 W x n) (hxB : x < B) (hB : B ≤ W.heap.size) (hh : Hld W p B a m ts) :
    Calls Try.prog 32 #[.pointer (some ⟨p, 0, none⟩), .pointer (some ⟨x, 0, none⟩)] W fun e W' => Chg W W' p B e (rsC m n) (rs1 m n) := by
  have HH := hide hh
  have HT := hide (hh.o.shows hR.M.zs).t
  have HL := hide hR.M.L.t
  have hx' : W.cell? ⟨x, 0, none⟩ = some (.int .i64 n) := hx
  obtain ⟨c0, c1, c2, c3⟩ := hh.v.cells
  have hpl := hh.v.lt
  have hxl := World.block_lt_of_cell? _ _ hx
  have HRZ := hide (rz_cases m.table n)
  have hTF := tbF_ok hR.table
  have HTF := hide hTF
  have HCAL : Hid (∀ W1, Below W.heap.size W W1 → Calls Try.prog 33 #[.slice a.tq m.table.length a.tc, .int .i64 n] W1 fun e w' => ∃ vo vc, e = .returned (.tuple #[.slice vo (rzL m.table n).length vc, .int .i64 (rzF m.table n)]) ∧ OwnN w' W.heap.size (.slice vo (rzL m.table n).length vc) (rzL m.table n) ∧ Below W.heap.size W w') := hide (fun W1 hW => (resizeTable_impl a.tq a.tc m.table n W1 (unhide HL) ((unhide HT).below hW)).mono fun e w' ⟨v, h1, h2, h3⟩ => by obtain ⟨vo, vc, rfl, _⟩ := id h2; exact ⟨vo, vc, h1, h2.base hW.size, fr hW h3⟩)
  clear hh hx hR hTF
  generalize rzL m.table n = L at *
  generalize rzF m.table n = F at *
  go_enter Try.func32, Try.ntmps32
  go_upto_region 1 with fail
  go_region_held3 (fun w' => w'.cell? ⟨p, 1, none⟩ = some (.slice a.tq m.table.length a.tc) ∧ w'.cell? ⟨x, 0, none⟩ = some (.int .i64 n)) (go_keep) ((go_at_call 33; refine (unhide HCAL _ (Below.refl _ _).drew).mono ?_; rintro e w3 ⟨vo, vc, rfl, ho3, hb3⟩; have k1 := (hb3.cell (p := ⟨p, 1, none⟩) hpl).trans c1; have k2 := (hb3.cell (p := ⟨x, 0, none⟩) hxl).trans hx'; have HN3 := hide (And.intro hb3 ho3); clear hb3 ho3))
  clear k1 k2 c0 c1 c2 c3 hx'
  have HH3 := hide ((unhide HH).below (unhide HN3).1)
  rcases unhide HRZ with ⟨hf, _⟩ | ⟨hb, hg, eF, eL⟩ | ⟨hb, q, rfl, hq, eF, eL⟩
  · exact absurd (unhide HTF) hf
  · have HE : Hid (rsC m n = 4 ∧ rs1 m n = m) := hide ⟨by rw [rsC, hg]; rfl, by rw [rs1, hg]; rfl⟩
    subst eF
    clear eL hg
    go_wp2
    go_ret
    rw [(unhide HE).1, (unhide HE).2]
    exact Chg.same 4 (unhide HH) hB (unhide HN3).1
  · have hg : betw (q : Int) 0 12 = true := betw_iff.2 ⟨by omega, by omega⟩
    have HE : Hid (rsC m (q : Int) = 0 ∧ rs1 m (q : Int) = { m with table := L }) := hide ⟨by rw [rsC, hg]; rfl, by rw [rs1, if_pos hg, Int.toNat_natCast, eL]⟩
    have HS := hide ((unhide HH).freshT (unhide HN3).1 (unhide HN3).2 hB)
    subst eF
    clear eL hg
    obtain ⟨c0, c1, c2, c3⟩ := (unhide HH3).v.cells
    obtain ⟨z0, z1, z2, z3⟩ := (unhide HH3).v.free
    go_wp2
    go_ret
    rw [(unhide HE).1, (unhide HE).2]
    exact ⟨rfl, _, _, (unhide HS).1, (unhide HS).2⟩

set_option maxHeartbeats 1600000 in
theorem resizeImage_impl (a : Im4) (m : Img) (n : Int) (w : World) (hL : ImL m) (hc : ImS w a m) :
    Calls Try.prog 11 #[imV a m, .int .i64 n] w fun e w' => AnsI w w' e (rsA' m n) := by
  have hmf : ∀ (fn : Fn) (first cap : Array Value) (w : World), (Instr.makeFunc fn first cap).run Try.prog w = .ok (.func fn first cap) w := fun _ _ _ _ => rfl
  have HE : Hid (FcE w (((w.alloc (.cells #[.slice a.ro m.refs.length a.rc, .slice a.tq m.table.length a.tc, .slice a.so m.snaps.length a.sc, .slice a.dq m.data.length a.dc] 26)).alloc (.cells #[.int .i64 n] 3)).alloc (.cells #[.slice none 0 0, .slice none 0 0, .slice none 0 0, .slice none 0 0] 26)) (w.heap.size + 1 + 1) a m) := hide (by
    refine ⟨?_, ?_, hc.below (fr (fr (Joins.below_alloc1 w _) (Joins.below_alloc1 _ _)) (Joins.below_alloc1 _ _)), fr (fr (Joins.below_alloc1 w _) (Joins.below_alloc1 _ _)) (Joins.below_alloc1 _ _), by omega, by simp⟩
    · exact ((VarM.new w 26 (.slice a.ro m.refs.length a.rc) (.slice a.tq m.table.length a.tc) (.slice a.so m.snaps.length a.sc) (.slice a.dq m.data.length a.dc)).below (Joins.below_alloc1 _ _)).below (Joins.below_alloc1 _ _)
    · have h := VarM.new ((w.alloc (.cells #[.slice a.ro m.refs.length a.rc, .slice a.tq m.table.length a.tc, .slice a.so m.snaps.length a.sc, .slice a.dq m.data.length a.dc] 26)).alloc (.cells #[.int .i64 n] 3)) 26 (.slice none 0 0) (.slice none 0 0) (.slice none 0 0) (.slice none 0 0)
      simp only [World.size_alloc] at h
      exact h)
  have HX0 : Hid (VarN1 (((w.alloc (.cells #[.slice a.ro m.refs.length a.rc, .slice a.tq m.table.length a.tc, .slice a.so m.snaps.length a.sc, .slice a.dq m.data.length a.dc] 26)).alloc (.cells #[.int .i64 n] 3)).alloc (.cells #[.slice none 0 0, .slice none 0 0, .slice none 0 0, .slice none 0 0] 26)) (w.heap.size + 1) n) := hide (by
    have h : VarN1 (((w.alloc (.cells #[.slice a.ro m.refs.length a.rc, .slice a.tq m.table.length a.tc, .slice a.so m.snaps.length a.sc, .slice a.dq m.data.length a.dc] 26)).alloc (.cells #[.int .i64 n] 3)).alloc (.cells #[.slice none 0 0, .slice none 0 0, .slice none 0 0, .slice none 0 0] 26)) (w.alloc (.cells #[.slice a.ro m.refs.length a.rc, .slice a.tq m.table.length a.tc, .slice a.so m.snaps.length a.sc, .slice a.dq m.data.length a.dc] 26)).heap.size n := (VarN1.new (w.alloc (.cells #[.slice a.ro m.refs.length a.rc, .slice a.tq m.table.length a.tc, .slice a.so m.snaps.length a.sc, .slice a.dq m.data.length a.dc] 26)) n).below (Joins.below_alloc1 _ _)
    simp only [World.size_alloc] at h
    exact h)
  have HL := hide hL
  obtain ⟨R, HR⟩ : ∃ R, Hid (R = rsA' m n) := ⟨_, rfl⟩
  rw [← unhide HR]
  clear hc hL
  go_enter Try.func11, Try.ntmps11
  go_upto_region 1 with fail
  revert HE HX0
  generalize (((w.alloc _).alloc _).alloc _) = W0
  intro HE HX0
  obtain ⟨c0, c1, c2, c3⟩ := (unhide HE).v.cells
  go_wp2_with fail
  refine (changeImage_any a m 32 #[.pointer (some ⟨w.heap.size + 1, 0, none⟩)] (rs1 m n) (rsC m n) _ (unhide HL) (unhide HE).s (fun _ _ => rfl) (fun him => ⟨rs_fit n (imB_iff.1 him), fun W p B a1 ts1 h1 h2 h3 h4 => ?_⟩)).mono ?_
  · exact resizeC_any m n _ W p B a1 ts1 (imB_iff.1 him) ((unhide HX0).below h1) (Nat.lt_of_lt_of_le (World.block_lt_of_cell? _ _ (unhide HX0)) h2) h3 h4
  · intro e w2 hans
    rw [rs_ans, ← unhide HR] at hans
    obtain ⟨b, ts, rfl, ho, hb⟩ := hans
    have HP := hide ((unhide HE).put hb ho)
    have HE2 := hide ((unhide HE).below hb)
    clear ho hb c0 c1 c2 c3
    obtain ⟨r0, r1, r2, r3⟩ := (unhide HE2).r.cells
    obtain ⟨z0, z1, z2, z3⟩ := (unhide HE2).r.free
    go_wp2
    refine bodyPost_ret (res_ic Try.results11 rfl rfl (unhide HP).1) rfl ?_
    exact AnsI.of rfl rfl (unhide HP).2.1 (unhide HP).2.2

end Go.Proofs.Ytgkpddnpckglbaa

/- Plain: what is done to a right image leaves a right one; snapshots made, deleted and gone back to, as the program reckons them. -/
namespace Go.Proofs.Ytgkpddnpckglbaa
open Go.RowKit
set_option linter.unusedVariables false
set_option maxRecDepth 100000

/-- A table has no cluster twice, told by counts. -/
theorem once_cN {t : List Int} (h : tbB t = true) : (clA t).Nodup ↔ ∀ i, i < 24 → cN t i ≤ 1 := by
  constructor
  · intro hn i hi
    rw [← clA_count]
    by_cases hm : (i : Int) ∈ clA t
    · have := (nodup_count _).1 hn _ hm; omega
    · rw [List.count_eq_zero_of_not_mem hm]; omega
  · intro hc
    refine (nodup_count _).2 fun x hx => ?_
    obtain ⟨c0, c1⟩ := cl_mem h x hx
    obtain ⟨q, rfl⟩ := Int.eq_ofNat_of_zero_le c0
    have := hc q (by omega)
    rw [← clA_count] at this
    omega
/-- What must hold of tables, names and data for the image that fits them to be right. -/
structure PreR (m : Img) : Prop where
  few : m.snaps.length ≤ 3
  len : m.data.length = 24
  t : ∀ t ∈ imTabs m, tbB t = true
  once : ∀ t ∈ imTabs m, ∀ i, i < 24 → cN t i ≤ 1
  nm : ∀ s ∈ m.snaps, snmB s.name = true
  names : (m.snaps.map (·.name)).Nodup
  nums : ∀ n ∈ m.data, numB n = true
theorem sN_le {i : Nat} (hi : i < 24) : ∀ ts : List (List Int), (∀ t ∈ ts, ∀ i, i < 24 → cN t i ≤ 1) → sN ts i ≤ ts.length := by
  intro ts
  induction ts with
  | nil => intro _; exact Int.le_refl _
  | cons t ts ih =>
    intro h
    have h1 := h t (by simp) i hi
    have h2 := ih (fun x hx => h x (by simp [hx]))
    rw [sN_cons, List.length_cons]
    omega
theorem ctB_mk {xs : List Int} (hl : xs.length = 24) (h : ∀ i, i < 24 → 0 ≤ xs.getD i 0 ∧ xs.getD i 0 ≤ 15) : ctB xs = true := by
  unfold ctB
  simp only [Bool.and_eq_true, decide_eq_true_eq, List.all_eq_true]
  refine ⟨hl, fun x hx => ?_⟩
  obtain ⟨j, hj, rfl⟩ := List.mem_iff_getElem.1 hx
  have := h j (by omega)
  rw [show xs.getD j 0 = xs[j] by simp [List.getD, hj]] at this
  exact betw_iff.2 this
theorem PreR.fit {m : Img} (h : PreR m) : ImR (imFit m) := by
  have hlen : (imTabs m).length ≤ 4 := by rw [imTabs_len]; have := h.few; omega
  have hg : ∀ i, i < 24 → (imFit m).refs.getD i 0 = sN (imTabs m) i := fun i hi => cnt_get h.t hi
  refine ⟨ctB_mk (imCnt_len m) (fun i hi => ?_), h.t _ (by simp [imTabs, imFit]), h.few, by simp [imFit], fun s hs => ⟨h.nm s hs, h.t _ (by unfold imTabs; exact List.mem_cons_of_mem _ (List.mem_map.2 ⟨s, hs, rfl⟩))⟩, h.names, fun n hn => ?_, fun t ht => (once_cN (h.t t ht)).2 (h.once t ht), rfl, fun i hi hz => ?_⟩
  · have h1 := sN_le hi _ h.once
    have h2 := sN_nn (imTabs m) i
    rw [hg i hi]
    omega
  · unfold imFit at hn
    simp only at hn
    obtain ⟨i, hi, rfl⟩ := List.mem_map.1 hn
    have hi' := List.mem_range.1 hi
    split
    · rfl
    · rw [show m.data.getD i 0 = m.data[i]'(by rw [h.len]; exact hi') by simp [List.getD, h.len, hi']]
      exact h.nums _ (List.getElem_mem _)
  · unfold imFit
    simp only
    rw [range_getD hi]
    have hz' : (imCnt m).getD i 0 = 0 := hz
    rw [if_pos hz']
theorem ImR.pre {m : Img} (h : ImR m) : PreR m := ⟨h.few, h.len, h.tabs, fun t ht => (once_cN (h.tabs t ht)).1 (h.once t ht), fun s hs => (h.snaps s hs).1, h.names, h.nums⟩
/-- Another table. -/
theorem PreR.withT {m : Img} (h : PreR m) {t d : List Int} (ht : tbB t = true) (ho : ∀ i, i < 24 → cN t i ≤ 1) (hd : d.length = 24) (hn : ∀ n ∈ d, numB n = true) : PreR { m with table := t, data := d } := by
  have hm : ∀ x ∈ imTabs { m with table := t, data := d }, x = t ∨ x ∈ imTabs m := fun x hx => by
    have hx' : x ∈ t :: m.snaps.map (·.table) := hx
    rw [List.mem_cons] at hx'
    rcases hx' with rfl | hx'
    · exact .inl rfl
    · exact .inr (by unfold imTabs; exact List.mem_cons_of_mem _ hx')
  refine ⟨h.few, hd, fun x hx => ?_, fun x hx => ?_, h.nm, h.names, hn⟩
  · rcases hm x hx with rfl | h1
    · exact ht
    · exact h.t x h1
  · rcases hm x hx with rfl | h1
    · exact ho
    · exact h.once x h1
theorem nums_set {d : List Int} (h : ∀ n ∈ d, numB n = true) (c : Nat) {v : Int} (hv : numB v = true) : ∀ n ∈ d.set c v, numB n = true := fun n hn => by
  rcases List.mem_or_eq_of_mem_set hn with h1 | rfl
  · exact h n h1
  · exact hv
theorem ImR.cN_le {m : Img} (h : ImR m) : ∀ i, i < 24 → cN m.table i ≤ 1 := h.pre.once _ (by simp [imTabs])
theorem ImR.zero {m : Img} (h : ImR m) {g : Nat} (hg : g < m.table.length) : ImR (imZero m g) := by
  rw [← fit_zero h hg]
  refine (h.pre.withT (d := m.data) (tbB_set h.table g (by omega) (by omega)) (fun i hi => ?_) h.len h.nums).fit
  have := h.cN_le i hi
  rw [cN_set hg, if_neg (show ¬ (1 : Int) = (i : Int) + 2 by omega)]
  split <;> omega
theorem ImR.resize {m : Img} (h : ImR m) {n : Nat} (hn : n ≤ 12) : ImR (imResize m n) := by
  rw [← fit_resize h hn]
  refine (h.pre.withT (d := m.data) (tbB_rz h.table hn) (fun i hi => ?_) h.len h.nums).fit
  have h1 := h.cN_le i hi
  have e2 : cN m.table i = cN (m.table.take n) i + cN (m.table.drop n) i := by rw [← cN_append, List.take_append_drop]
  have := cN_nn (m.table.drop n) i
  rw [cN_rz]; omega
theorem ImR.write {m : Img} (h : ImR m) {g : Nat} (hg : g < m.table.length) {v : Int} (hv : numB v = true) : ImR (imWrite m g v).1 := by
  have hb := tbB_at h.table g hg
  by_cases h1 : 2 ≤ m.table[g] ∧ m.refs.getD (m.table[g] - 2).toNat 0 = 1
  · have hc : m.table[g] = (((m.table[g] - 2).toNat : Nat) : Int) + 2 := by omega
    have hr : (m.table[g] - 2).toNat < m.refs.length := by rw [h.rl]; omega
    have h1' : m.refs[(m.table[g] - 2).toNat] = 1 := by have := h1.2; simpa [List.getD, hr] using this
    rw [imWrite_in hg hc hr h1']
    rw [← fit_in h v hg hc h1.2]
    have hset : m.table.set g (2 + ((m.table[g] - 2).toNat : Int)) = m.table := by
      rw [show (2 : Int) + ((m.table[g] - 2).toNat : Int) = m.table[g] by omega]
      exact List.set_getElem_self hg
    rw [hset]
    exact (h.pre.withT h.table h.cN_le (by simp [h.len]) (nums_set h.nums _ hv)).fit
  · rw [imWrite_out hg h1]
    by_cases h2 : frN m.refs < m.refs.length
    · rw [if_pos h2]
      have hc24 : frN m.refs < 24 := by rw [h.rl] at h2; exact h2
      have h0 := free_spec h2
      rw [← fit_out h v hg hc24 h0]
      refine (h.pre.withT (tbB_set h.table g (by omega) (by omega)) (fun i hi => ?_) (by simp [h.len]) (nums_set h.nums _ hv)).fit
      have h3 := h.cN_le i hi
      rw [cN_set hg]
      by_cases hci : frN m.refs = i
      · have h4 : cN m.table i ≤ 0 := by
          have := h.cntA hi
          have := sN_nn (m.snaps.map (·.table)) i
          rw [sN_tabs] at *
          rw [hci] at h0
          omega
        have := cN_nn m.table i
        split <;> split <;> omega
      · rw [if_neg (show ¬ (2 : Int) + (frN m.refs : Int) = (i : Int) + 2 by omega)]
        split <;> omega
    · rw [if_neg h2]; exact h

theorem sN_append (s t : List (List Int)) (i : Nat) : sN (s ++ t) i = sN s i + sN t i := by unfold sN; rw [List.map_append, List.sum_append]
theorem raise_get {m : Img} {t : List Int} (hr : m.refs.length = 24) (ht : tbB t = true) {i : Nat} (hi : i < 24) : (imRaise m t).refs.getD i 0 = m.refs.getD i 0 + cN t i := by
  rw [← clA_count]
  exact fold_incr_get i hi _ (cl_mem ht) _ hr
theorem raise_len (m : Img) (t : List Int) : (imRaise m t).refs.length = m.refs.length := cnt1T_len t m.refs
/-- A snapshot is made. -/
theorem fit_create {m : Img} (h : ImR m) (name : ByteArray) : imFit { m with snaps := m.snaps ++ [⟨name, m.table⟩] } = { imRaise m m.table with snaps := m.snaps ++ [⟨name, m.table⟩] } := by
  have hcs : ∀ i, sN (imTabs { m with snaps := m.snaps ++ [⟨name, m.table⟩] }) i = sN (imTabs m) i + cN m.table i := fun i => by
    have e : sN (imTabs { m with snaps := m.snaps ++ [⟨name, m.table⟩] }) i = cN m.table i + sN (List.map (fun s : Snp => s.table) (m.snaps ++ [⟨name, m.table⟩])) i := rfl
    have e2 : sN [m.table] i = cN m.table i := by rw [sN_cons]; simp [sN]
    rw [e, List.map_append, sN_append, sN_tabs]
    show _ + (_ + sN [m.table] i) = _
    rw [e2]; omega
  have ht : ∀ t ∈ imTabs { m with snaps := m.snaps ++ [⟨name, m.table⟩] }, tbB t = true := fun t ht => by
    have ht' : t ∈ m.table :: List.map (fun s : Snp => s.table) (m.snaps ++ [⟨name, m.table⟩]) := ht
    simp only [List.map_append, List.mem_cons, List.mem_append, List.map_cons, List.map_nil, List.not_mem_nil, or_false] at ht'
    rcases ht' with rfl | ht' | rfl
    · exact h.table
    · exact h.tabs t (by unfold imTabs; exact List.mem_cons_of_mem _ ht')
    · exact h.table
  refine fit_eq (n := { imRaise m m.table with snaps := m.snaps ++ [⟨name, m.table⟩] }) ht (by show (imRaise m m.table).refs.length = 24; rw [raise_len]; exact h.rl) h.len rfl rfl (fun i hi => ?_) (fun i hi => ?_)
  · show (imRaise m m.table).refs.getD i 0 = _
    rw [raise_get h.rl h.table hi, hcs, h.cntA hi]
  · show m.data.getD i 0 = if _ then 0 else m.data.getD i 0
    rw [hcs, ← h.cntA hi]
    have h1 := cN_nn m.table i
    have h2 := sN_nn (imTabs m) i
    rw [← h.cntA hi] at h2
    by_cases hz : m.refs.getD i 0 + cN m.table i = 0
    · rw [if_pos hz, h.clear i hi (by omega)]
    · rw [if_neg hz]
theorem sN_erase {ts : List (List Int)} (i : Nat) : ∀ {k : Nat} (hk : k < ts.length), sN (ts.eraseIdx k) i = sN ts i - cN ts[k] i := by
  induction ts with
  | nil => intro k hk; simp at hk
  | cons t ts ih =>
    intro k hk
    cases k with
    | zero => simp only [List.eraseIdx_cons_zero, List.getElem_cons_zero, sN_cons]; omega
    | succ k =>
      have := ih (k := k) (by simpa using hk)
      simp only [List.eraseIdx_cons_succ, List.getElem_cons_succ, sN_cons, this]; omega
theorem cN_le_sN {ts : List (List Int)} (i : Nat) {k : Nat} (hk : k < ts.length) : cN ts[k] i ≤ sN ts i := by
  have h1 := sN_erase (ts := ts) i hk
  have h2 := sN_nn (ts.eraseIdx k) i
  omega
theorem map_eraseA {α : Type} (f : Snp → α) : ∀ (ss : List Snp) (k : Nat), (ss.eraseIdx k).map f = (ss.map f).eraseIdx k
  | [], k => by simp
  | s :: ss, 0 => rfl
  | s :: ss, k + 1 => by simp only [List.eraseIdx_cons_succ, List.map_cons, map_eraseA f ss k]
theorem map_erase {k : Nat} (ss : List Snp) : (ss.eraseIdx k).map (·.table) = (ss.map (·.table)).eraseIdx k := map_eraseA _ ss k
/-- A snapshot is deleted. -/
theorem fit_delete {m : Img} (h : ImR m) {k : Nat} (hk : k < m.snaps.length) : imFit { m with snaps := m.snaps.eraseIdx k } = { imDrops m m.snaps[k].table with snaps := m.snaps.eraseIdx k } := by
  have hk' : k < (m.snaps.map (·.table)).length := by simpa using hk
  have ek : (m.snaps.map (·.table))[k] = m.snaps[k].table := by simp
  have hcs : ∀ i, sN (imTabs { m with snaps := m.snaps.eraseIdx k }) i = sN (imTabs m) i - cN m.snaps[k].table i := fun i => by
    have e : sN (imTabs { m with snaps := m.snaps.eraseIdx k }) i = cN m.table i + sN ((m.snaps.eraseIdx k).map (·.table)) i := rfl
    rw [e, map_erase, sN_erase i hk', ek, sN_tabs]; omega
  have ht : ∀ t ∈ imTabs { m with snaps := m.snaps.eraseIdx k }, tbB t = true := fun t ht => by
    have ht' : t ∈ m.table :: (m.snaps.eraseIdx k).map (·.table) := ht
    rw [List.mem_cons, map_erase] at ht'
    rcases ht' with rfl | ht'
    · exact h.table
    · exact h.tabs t (by unfold imTabs; exact List.mem_cons_of_mem _ (List.mem_of_mem_eraseIdx ht'))
  obtain ⟨l1, l2, l3, l4⟩ := drops_lens m m.snaps[k].table
  have hle : ∀ i, i < 24 → cN m.snaps[k].table i ≤ m.refs.getD i 0 := fun i hi => by
    have h1 := cN_le_sN i hk'
    have h2 := cN_nn m.table i
    rw [ek] at h1
    rw [h.cntA hi, sN_tabs]; omega
  refine fit_eq (n := { imDrops m m.snaps[k].table with snaps := m.snaps.eraseIdx k }) ht (l1.trans h.rl) (l2.trans h.len) l3.symm rfl (fun i hi => ?_) (fun i hi => ?_)
  · show (imDrops m _).refs.getD i 0 = _
    rw [(drops_get hi _ m h.rl h.len).1, hcs, h.cntA hi]
  · show (imDrops m _).data.getD i 0 = _
    rw [drops_fit h _ hi (hle i hi), hcs, h.cntA hi]
/-- A snapshot is gone back to. -/
theorem fit_revert {m : Img} (h : ImR m) {k : Nat} (hk : k < m.snaps.length) : imFit { m with table := m.snaps[k].table } = { imDrops (imRaise m m.snaps[k].table) m.table with table := m.snaps[k].table } := by
  have hk' : k < (m.snaps.map (·.table)).length := by simpa using hk
  have ek : (m.snaps.map (·.table))[k] = m.snaps[k].table := by simp
  have htk : tbB m.snaps[k].table = true := (h.snaps _ (List.getElem_mem hk)).2
  have hcs : ∀ i, sN (imTabs { m with table := m.snaps[k].table }) i = cN m.snaps[k].table i + sN (m.snaps.map (·.table)) i := fun i => rfl
  obtain ⟨l1, l2, l3, l4⟩ := drops_lens (imRaise m m.snaps[k].table) m.table
  have hrl : (imRaise m m.snaps[k].table).refs.length = 24 := (raise_len _ _).trans h.rl
  refine fit_eq (n := { imDrops (imRaise m m.snaps[k].table) m.table with table := m.snaps[k].table }) (tabs_with h htk m.data) (l1.trans hrl) (l2.trans h.len) rfl l4.symm (fun i hi => ?_) (fun i hi => ?_)
  · show (imDrops (imRaise m m.snaps[k].table) m.table).refs.getD i 0 = _
    rw [(drops_get hi _ _ hrl h.len).1, raise_get h.rl htk hi, hcs, h.cntA hi, sN_tabs]; omega
  · show (imDrops (imRaise m m.snaps[k].table) m.table).data.getD i 0 = if _ then 0 else m.data.getD i 0
    have h1 := cN_le_sN i hk'
    rw [ek] at h1
    have h2 := cN_nn m.snaps[k].table i
    have h3 := cN_nn m.table i
    have h4 := h.cntA hi
    rw [sN_tabs] at h4
    rw [(drops_get hi _ _ hrl h.len).2, raise_get h.rl htk hi, hcs]
    have ed : (imRaise m m.snaps[k].table).data.getD i 0 = m.data.getD i 0 := rfl
    rw [ed]
    by_cases hz : cN m.snaps[k].table i + sN (m.snaps.map (·.table)) i = 0
    · rw [if_pos hz]
      by_cases hr : m.refs.getD i 0 = 0
      · rw [if_neg (by omega), h.clear i hi hr]
      · rw [if_pos (by omega)]
    · rw [if_neg hz, if_neg (by omega)]
theorem find_lt {m : Img} {name : ByteArray} (h : imFind m name < m.snaps.length) : m.snaps[imFind m name].name = name := by
  unfold imFind at h ⊢
  have := List.findIdx_getElem (w := h)
  simpa using this
theorem ImR.create {m : Img} (h : ImR m) (name : ByteArray) : ImR (imCreate m name).1 := by
  unfold imCreate
  split
  · rename_i hn
    split
    · exact h
    · rename_i hf
      split
      · exact h
      · rename_i h3
        show ImR { imRaise m m.table with snaps := m.snaps ++ [⟨name, m.table⟩] }
        rw [← fit_create h name]
        refine PreR.fit ⟨?_, h.len, fun t ht => ?_, fun t ht => ?_, fun s hs => ?_, ?_, h.nums⟩
        · have := h.few
          simp only [List.length_append, List.length_singleton]; omega
        · have ht' : t ∈ m.table :: List.map (fun s : Snp => s.table) (m.snaps ++ [⟨name, m.table⟩]) := ht
          simp only [List.map_append, List.mem_cons, List.mem_append, List.map_cons, List.map_nil, List.not_mem_nil, or_false] at ht'
          rcases ht' with rfl | ht' | rfl
          · exact h.table
          · exact h.tabs t (by unfold imTabs; exact List.mem_cons_of_mem _ ht')
          · exact h.table
        · have ht' : t ∈ m.table :: List.map (fun s : Snp => s.table) (m.snaps ++ [⟨name, m.table⟩]) := ht
          simp only [List.map_append, List.mem_cons, List.mem_append, List.map_cons, List.map_nil, List.not_mem_nil, or_false] at ht'
          rcases ht' with rfl | ht' | rfl
          · exact h.cN_le
          · exact h.pre.once t (by unfold imTabs; exact List.mem_cons_of_mem _ ht')
          · exact h.cN_le
        · simp only [List.mem_append, List.mem_singleton] at hs
          rcases hs with hs | rfl
          · exact (h.snaps s hs).1
          · exact hn
        · rw [List.map_append, List.nodup_append]
          refine ⟨h.names, by simp, ?_⟩
          intro a ha b hb
          simp only [List.map_cons, List.map_nil, List.mem_singleton] at hb
          subst hb
          rintro rfl
          obtain ⟨s, hs, e⟩ := List.mem_map.1 ha
          apply hf
          unfold imFind
          rw [List.findIdx_lt_length]
          exact ⟨s, hs, by simp [e]⟩
  · exact h
theorem ImR.delete {m : Img} (h : ImR m) (name : ByteArray) : ImR (imDelete m name).1 := by
  unfold imDelete
  split
  · rename_i hf
    have e : (m.snaps[imFind m name]?).elim [] (·.table) = m.snaps[imFind m name].table := by rw [List.getElem?_eq_getElem hf]; rfl
    rw [e]
    show ImR { imDrops m m.snaps[imFind m name].table with snaps := m.snaps.eraseIdx (imFind m name) }
    rw [← fit_delete h hf]
    refine PreR.fit ⟨?_, h.len, fun t ht => ?_, fun t ht => ?_, fun s hs => (h.snaps s (List.mem_of_mem_eraseIdx hs)).1, ?_, h.nums⟩
    · have := h.few
      simp only [List.length_eraseIdx]; split <;> omega
    · have ht' : t ∈ m.table :: (m.snaps.eraseIdx (imFind m name)).map (·.table) := ht
      rw [List.mem_cons, map_erase] at ht'
      rcases ht' with rfl | ht'
      · exact h.table
      · exact h.tabs t (by unfold imTabs; exact List.mem_cons_of_mem _ (List.mem_of_mem_eraseIdx ht'))
    · have ht' : t ∈ m.table :: (m.snaps.eraseIdx (imFind m name)).map (·.table) := ht
      rw [List.mem_cons, map_erase] at ht'
      rcases ht' with rfl | ht'
      · exact h.cN_le
      · exact h.pre.once t (by unfold imTabs; exact List.mem_cons_of_mem _ (List.mem_of_mem_eraseIdx ht'))
    · show ((m.snaps.eraseIdx (imFind m name)).map (·.name)).Nodup
      rw [map_eraseA]
      exact h.names.sublist (List.eraseIdx_sublist _ _)
  · exact h
theorem ImR.revert {m : Img} (h : ImR m) (name : ByteArray) : ImR (imRevert m name).1 := by
  unfold imRevert
  split
  · rename_i hf
    have e : (m.snaps[imFind m name]?).elim [] (·.table) = m.snaps[imFind m name].table := by rw [List.getElem?_eq_getElem hf]; rfl
    rw [e]
    show ImR { imDrops (imRaise m m.snaps[imFind m name].table) m.table with table := m.snaps[imFind m name].table }
    rw [← fit_revert h hf]
    have htk := (h.snaps _ (List.getElem_mem hf)).2
    exact (h.pre.withT (d := m.data) htk (h.pre.once _ (by unfold imTabs; exact List.mem_cons_of_mem _ (List.mem_map.2 ⟨_, List.getElem_mem hf, rfl⟩))) h.len h.nums).fit
  · exact h
theorem ImR.new {n : Nat} (hn : n ≤ 12) : ImR (imNew n) := by
  have hrep : ∀ i (hi : i < (List.replicate n (0 : Int)).length), (List.replicate n (0 : Int))[i] = 0 := fun i hi => by simp
  have ht : tbB (List.replicate n (0 : Int)) = true := tbB_of (by simpa using hn) (fun i hi => by rw [hrep]; rfl)
  have hc : ∀ i, cN (List.replicate n (0 : Int)) i = 0 := fun i => by
    unfold cN
    rw [List.count_eq_zero_of_not_mem (fun h => by have := List.eq_of_mem_replicate h; omega)]; rfl
  have hp : PreR (imNew n) := ⟨by simp [imNew], rfl, fun t h => (by simp only [imTabs, imNew, List.map_nil, List.mem_singleton] at h; subst h; exact ht), fun t h => (by simp only [imTabs, imNew, List.map_nil, List.mem_singleton] at h; subst h; intro i _; rw [hc]; omega), fun s hs => (by cases hs), List.nodup_nil, (by show ∀ n ∈ zero24, numB n = true; decide)⟩
  have e : imFit (imNew n) = imNew n := by
    refine fit_eq hp.t rfl rfl rfl rfl (fun i hi => ?_) (fun i hi => ?_)
    · show zero24.getD i 0 = _
      rw [zero24_get hi, sN_tabs]
      show _ = cN (List.replicate n (0 : Int)) i + sN [] i
      rw [hc]; rfl
    · show zero24.getD i 0 = if _ then 0 else zero24.getD i 0
      rw [zero24_get hi]; simp
  rw [← e]
  exact hp.fit

end Go.Proofs.Ytgkpddnpckglbaa

/- Plain: what a guest reads of an image of another size, and of one whose cluster is zeroed. -/
namespace Go.Proofs.Ytgkpddnpckglbaa
open Go.RowKit
set_option linter.unusedVariables false
set_option maxRecDepth 100000

/-- What a guest reads at a place. -/
def imAt (m : Img) (g : Nat) : Int := imVal m (m.table.getD g 0)
theorem at_fit {m : Img} (ht : ∀ t ∈ imTabs m, tbB t = true) {g : Nat} (hg : g < m.table.length) : imAt (imFit m) g = imAt m g := by
  have hb := tbB_at (ht m.table (by simp [imTabs])) g hg
  have e : m.table.getD g 0 = m.table[g] := by simp [List.getD, hg]
  have e2 : (imFit m).table = m.table := rfl
  unfold imAt imVal
  rw [e2, e]
  by_cases h2 : m.table[g] < 2
  · rw [if_pos h2, if_pos h2]
  · rw [if_neg h2, if_neg h2]
    have hi : (m.table[g] - 2).toNat < 24 := by omega
    have hc : 1 ≤ cN m.table (m.table[g] - 2).toNat := cN_pos hg (by omega)
    have hs := sN_nn (m.snaps.map (·.table)) (m.table[g] - 2).toNat
    have hn : ¬ (imCnt m).getD (m.table[g] - 2).toNat 0 = 0 := by
      rw [cnt_get ht hi, sN_tabs]; omega
    unfold imFit
    simp only
    rw [range_getD hi, if_neg hn]
theorem rz_get (t : List Int) {n i : Nat} (hi : i < n) : (rzTo t n).getD i 0 = t.getD i 0 := by simp [rzTo, List.getD, hi]
theorem at_resize {m : Img} (h : ImR m) {n : Nat} (hn : n ≤ 12) {i : Nat} (hi : i < n) : imAt (imResize m n) i = if i < m.table.length then imAt m i else 0 := by
  rw [← fit_resize h hn, at_fit (tabs_with h (tbB_rz h.table hn) m.data) (by show i < (rzTo m.table n).length; rw [rzTo_len]; exact hi)]
  unfold imAt imVal
  simp only [rz_get m.table hi]
  by_cases hl : i < m.table.length
  · rw [if_pos hl]
  · rw [if_neg hl]
    have : m.table.getD i 0 = 0 := by simp [List.getD, List.getElem?_eq_none (Nat.le_of_not_lt hl)]
    rw [this]; rfl
theorem at_zero {m : Img} {g : Nat} (hg : g < m.table.length) : imAt (imZero m g) g = 0 := by
  have e : (imZero m g).table = m.table.set g 1 := by unfold imZero; simp only; rw [(imDrop_table m _).1]
  unfold imAt imVal
  rw [e, show (m.table.set g 1).getD g 0 = 1 by simp [List.getD, hg]]; rfl
theorem resize_len (m : Img) (n : Nat) : (imResize m n).table.length = n := rzTo_len m.table n
theorem zero_len (m : Img) (g : Nat) : (imZero m g).table.length = m.table.length := by unfold imZero; simp only [List.length_set]; rw [(imDrop_table m _).1]

end Go.Proofs.Ytgkpddnpckglbaa

/- Contract of the laws' comparison of lists of numbers (sameInts). -/
namespace Go.Proofs.Ytgkpddnpckglbaa
open Go.RowKit
set_option linter.unusedVariables false
set_option maxRecDepth 100000

set_option maxHeartbeats 800000 in
theorem sameInts_any (ao bo : Option Addr) (ca cb : Nat) (ss tt : List Int) (w : World) (hl : ss.length ≤ maxLen) (hc : Is w ao ss) (hd : Is w bo tt) :
    Calls Try.prog 37 #[.slice ao ss.length ca, .slice bo tt.length cb] w fun e w' => e = .returned (.bool (eqNB ss tt)) ∧ Below w.heap.size w w' := by
  have HC := hide hc
  have HD := hide hd
  clear hc hd
  unfold maxLen at hl
  by_cases hle : ss.length = tt.length
  · have hb : ((ss.length : Int) != (tt.length : Int)) = false := by simp [hle]
    have HLE := hide hle
    clear hle
    go_enter Try.func37, Try.ntmps37
    go_wp2
    go_loopw [5] (fun i wr => ∃ k : Nat, k ≤ ss.length ∧ i = .int .i64 k ∧ Hid (∀ j (h : j < ss.length) (h' : j < tt.length), j < k → ss[j] = tt[j]) ∧ Hid (Below w.heap.size w wr)) (fun i _ => ss.length - (intOf i).toNat)
    case atStart => exact ⟨0, Nat.zero_le _, rfl, hide (fun j _ _ h => by omega), hide (Below.refl _ _)⟩
    case round =>
      obtain ⟨k, hk, rfl, HA, HB⟩ := hrel
      by_cases hlt : k < ss.length
      · have hlt' : k < tt.length := by rw [← unhide HLE]; exact hlt
        obtain ⟨b, off, rfl, hc⟩ := (unhide HC).below (unhide HB) k hlt
        obtain ⟨b', off', rfl, hc'⟩ := (unhide HD).below (unhide HB) k hlt'
        by_cases he : ss[k] = tt[k]
        · have HN := hide (eq_succ hlt hlt' (unhide HA) he)
          have be : (ss[k] != tt[k]) = false := by simp [he]
          clear he
          go_wp2
          go_quiet (fail)
          go_wp2
          go_roundw
          case rel => exact ⟨k + 1, by omega, by go_num, HN, hide ((unhide HB).trans (Joins.below_draws _ _ _))⟩
          case measure => simp [intOf]; omega
        · have H := hide (eqNB_false hlt hlt' he)
          have be : (ss[k] != tt[k]) = true := by simp [he]
          clear he
          go_wp2
          go_quiet (fail)
          go_wp2
          go_ret
          exact ⟨ret_bool (unhide H).symm, (unhide HB).trans (Joins.below_draws _ _ _)⟩
      · have H := hide (eqNB_true (unhide HLE) (fun j h h' => unhide HA j h h' (by omega)))
        go_wp2
        go_ret
        exact ⟨ret_bool (unhide H).symm, unhide HB⟩
  · have hb : ((ss.length : Int) != (tt.length : Int)) = true := by simp; omega
    have H := hide (eqNB_false_len hle)
    clear hle
    go_enter Try.func37, Try.ntmps37
    go_wp2
    go_ret
    exact ⟨ret_bool (unhide H).symm, Below.refl _ _⟩

end Go.Proofs.Ytgkpddnpckglbaa
