import Derived.Test.YtkaiglhljpehpaaRows
import Derived.Test.YtkaiglhljpehpaaPart1
import Derived.Test.YtkaiglhljpehpaaPart2
import Derived.Test.YtkaiglhljpehpaaPart5
import Derived.Test.YtkaiglhljpehpaaPart6
import Derived.Test.YtkaiglhljpehpaaPart7
import Derived.Test.YtkaiglhljpehpaaPart11
import Derived.Test.YtkaiglhljpehpaaPart12
import Derived.Test.YtkaiglhljpehpaaPart23
import Derived.Test.YtkaiglhljpehpaaPart19
import Derived.Test.YtkaiglhljpehpaaIgL
import Derived.WalkKit
import Derived.WalkSpells
import Derived.KernelRfl
import Derived.Test.YtkaiglhljpehpaaPart24
import Derived.Test.YtkaiglhljpehpaaPart20
import Derived.BigQuiet
import Derived.Deep.QuietTactic
import Derived.Deep.RegionWith
import Derived.Deep.RegionHeld3
import Derived.LoopN
import Derived.Test.YtkaiglhljpehpaaPart14
import Derived.Test.YtkaiglhljpehpaaPart13
import Derived.Test.YtkaiglhljpehpaaPart22

/- The contract of impl.changeImage, whatever the change. -/
namespace Go.Proofs.Ytkaiglhljpehpaa
open Go.RowKit
set_option linter.unusedVariables false
set_option maxRecDepth 100000

/-- An image of the call's own in a variable of its own. -/
structure Hld (W : World) (p B : Nat) (a : Im4) (m : Img) (ts : List Value) : Prop where
  v : VarM W p 26 (.slice a.ro m.refs.length a.rc) (.slice a.tq m.table.length a.tc) (.slice a.so m.snaps.length a.sc) (.slice a.dq m.data.length a.dc)
  o : OwnIm W B a m ts
  p : B ≤ p
theorem Hld.below {W W' : World} {p B : Nat} {a : Im4} {m : Img} {ts : List Value} (h : Hld W p B a m ts) (hb : Below W.heap.size W W') : Hld W' p B a m ts := ⟨h.v.below hb, h.o.below hb, h.p⟩
/-- What a change does. -/
def Chg (W W' : World) (p B : Nat) (e : Ending) (c : Int) (m1 : Img) : Prop := e = .returned (.int .i64 c) ∧ ∃ a2 ts2, Hld W' p B a2 m1 ts2 ∧ Below B W W'
/-- What must be known of an image for its counts to follow its tables. -/
structure FitR (m : Img) : Prop where
  r : m.refs.length = 24
  d : m.data.length = 24
  s : m.snaps.length ≤ 3
  t : ∀ t ∈ imTabs m, tbB t = true
  z : ∀ s ∈ m.snaps, s.name.size ≤ maxLen ∧ s.table.length ≤ maxLen

end Go.Proofs.Ytkaiglhljpehpaa

/- Contracts of impl.ZeroCluster and of impl.ResizeImage. -/
namespace Go.Proofs.Ytkaiglhljpehpaa
open Go.RowKit
set_option linter.unusedVariables false
set_option maxRecDepth 100000

/-- A number in a variable. -/
def VarN1 (w : World) (x : Nat) (n : Int) : Prop := w.cell? ⟨x, 0, none⟩ = some (.int .i64 n)
theorem VarN1.below {w w' : World} {x : Nat} {n : Int} (h : VarN1 w x n) (hb : Below w.heap.size w w') : VarN1 w' x n := (hb.cell (World.block_lt_of_cell? _ _ h)).trans h
theorem VarN1.new (w : World) (n : Int) : VarN1 (w.alloc (.cells #[.int .i64 n] 3)) w.heap.size n := by unfold VarN1; rw [Joins.cell_of_block (heap_alloc_new w _)]; rfl
theorem ImR.fitR {m : Img} (h : ImR m) : FitR m := ⟨h.rl, h.len, h.few, h.tabs, h.M.zs⟩
theorem ImR.fitT {m : Img} (h : ImR m) {t d : List Int} (ht : tbB t = true) (hd : d.length = 24) : FitR { m with table := t, data := d } := ⟨h.rl, hd, h.few, tabs_with h ht d, h.M.zs⟩
/-- One of its numbers is set. -/
theorem Hld.set {W : World} {p B g c : Nat} {a : Im4} {m m' : Img} {ts : List Value} {u : Value} (h : Hld W p B a m ts) (hi : ImB a m ts g) (ho : OwnIm (W.setCell ⟨g, c, none⟩ u) B a m' ts) (e1 : m'.refs.length = m.refs.length) (e2 : m'.table.length = m.table.length) (e3 : m'.snaps.length = m.snaps.length) (e4 : m'.data.length = m.data.length) (hB : B ≤ W.heap.size) : Hld (W.setCell ⟨g, c, none⟩ u) p B a m' ts ∧ Below B W (W.setCell ⟨g, c, none⟩ u) := by
  have hk : Keep (ImB a m ts) W (W.setCell ⟨g, c, none⟩ u) := (Keep.refl _ W).setCell (p := ⟨g, c, none⟩) hi _
  refine ⟨⟨?_, ho, h.p⟩, hk.below hB (fun x hx => (h.o.ge x hx).1)⟩
  rw [e1, e2, e3, e4]
  exact h.v.keepIm h.o hk
theorem Hld.setT {W : World} {p B c : Nat} {a : Im4} {m : Img} {ts : List Value} (h : Hld W p B a m ts) (hB : B ≤ W.heap.size) (hc : c < m.table.length) : ∃ g, a.tq = some ⟨g, 0, none⟩ ∧ W.cell? ⟨g, c, none⟩ = some (.int .i64 m.table[c]) ∧ W.frozen? ⟨g, c, none⟩ = false ∧ ∀ y, Hld (W.setCell ⟨g, c, none⟩ (.int .i64 y)) p B a { m with table := m.table.set c y } ts ∧ Below B W (W.setCell ⟨g, c, none⟩ (.int .i64 y)) := by
  obtain ⟨g, e, h1, h2, h3, h4⟩ := h.o.setT hc
  exact ⟨g, e, h1, h2, fun y => h.set h3 (h4 y) rfl (by simp) rfl rfl hB⟩
theorem Hld.setD {W : World} {p B c : Nat} {a : Im4} {m : Img} {ts : List Value} (h : Hld W p B a m ts) (hB : B ≤ W.heap.size) (hc : c < m.data.length) : ∃ g, a.dq = some ⟨g, 0, none⟩ ∧ W.cell? ⟨g, c, none⟩ = some (.int .i64 m.data[c]) ∧ W.frozen? ⟨g, c, none⟩ = false ∧ ∀ y, Hld (W.setCell ⟨g, c, none⟩ (.int .i64 y)) p B a { m with data := m.data.set c y } ts ∧ Below B W (W.setCell ⟨g, c, none⟩ (.int .i64 y)) := by
  obtain ⟨g, e, h1, h2, h3, h4⟩ := h.o.setD hc
  exact ⟨g, e, h1, h2, fun y => h.set h3 (h4 y) rfl rfl rfl (by simp) hB⟩
theorem VarN1.belowB {w w' : World} {x B : Nat} {n : Int} (h : VarN1 w x n) (hx : x < B) (hb : Below B w w') : VarN1 w' x n := (hb.cell (p := ⟨x, 0, none⟩) hx).trans h
/-- Nothing is changed. -/
theorem Chg.same {W W' : World} {p B : Nat} {a : Im4} {m : Img} {ts : List Value} (c : Int) (h : Hld W p B a m ts) (hB : B ≤ W.heap.size) (hb : Below W.heap.size W W') : Chg W W' p B (.returned (.int .i64 c)) c m := ⟨rfl, a, ts, h.below hb, hb.mono hB⟩
/-- What a change of an image answers, as the program reckons it. -/
theorem ans_eq {m m1 : Img} {c : Int} {R : Img × Int} (h1 : imB m = true → imFit m1 = R.1 ∧ c = R.2) (h2 : imB m = false → R = (im0, 1)) : (if imB m = true then (imFit m1, c) else (im0, 1)) = R := by
  cases h : imB m
  · rw [h2 h]; rfl
  · obtain ⟨e1, e2⟩ := h1 h
    rw [e1, e2]; rfl

/-- The image that ZeroCluster makes ahead of its counts. -/
def zc1 (m : Img) (g : Int) : Img := if betw g 0 ((m.table.length : Int) - 1) = true then { m with table := m.table.set g.toNat 1 } else m
def zcC (m : Img) (g : Int) : Int := if betw g 0 ((m.table.length : Int) - 1) = true then 0 else 4
theorem zc_fit {m : Img} (g : Int) (h : ImR m) : FitR (zc1 m g) := by
  unfold zc1
  split
  · exact h.fitT (d := m.data) (tbB_set h.table _ (by omega) (by omega)) h.len
  · exact h.fitR
theorem zc_ans {m : Img} (g : Int) : (if imB m = true then (imFit (zc1 m g), zcC m g) else (im0, 1)) = zcA m g := by
  refine ans_eq (fun h => ?_) (fun h => by rw [zcA, h]; rfl)
  have hR := imB_iff.1 h
  rw [zcA, if_pos h]
  unfold zc1 zcC
  by_cases hg : betw g 0 ((m.table.length : Int) - 1) = true
  · rw [if_pos hg, if_pos hg, if_pos hg]
    obtain ⟨l0, l1⟩ := betw_iff.1 hg
    exact ⟨fit_zero hR (by omega), rfl⟩
  · rw [if_neg hg, if_neg hg, if_neg hg]
    exact ⟨fit_self hR, rfl⟩

/-- A face's entry: the image's variable, the result's. -/
structure FcE (w W : World) (q : Nat) (a : Im4) (m : Img) : Prop where
  v : VarM W w.heap.size 26 (.slice a.ro m.refs.length a.rc) (.slice a.tq m.table.length a.tc) (.slice a.so m.snaps.length a.sc) (.slice a.dq m.data.length a.dc)
  r : VarM W q 26 (.slice none 0 0) (.slice none 0 0) (.slice none 0 0) (.slice none 0 0)
  s : ImS W a m
  b : Below w.heap.size w W
  hr : w.heap.size ≤ q
  lt : q < W.heap.size
theorem FcE.below {w W W' : World} {r : Nat} {a : Im4} {m : Img} (h : FcE w W r a m) (hb : Below W.heap.size W W') : FcE w W' r a m := ⟨h.v.below hb, h.r.below hb, h.s.below hb, fr h.b hb, h.hr, Nat.lt_of_lt_of_le h.lt hb.size⟩
theorem FcE.put {w W W' : World} {r : Nat} {a : Im4} {m : Img} (h : FcE w W r a m) (hb : Below W.heap.size W W') {a' : Im4} {m' : Img} {ts : List Value} (ho : OwnIm W' W.heap.size a' m' ts) :
    VarM (putI W' r a' m') r 26 (.slice a'.ro m'.refs.length a'.rc) (.slice a'.tq m'.table.length a'.tc) (.slice a'.so m'.snaps.length a'.sc) (.slice a'.dq m'.data.length a'.dc) ∧ OwnIm (putI W' r a' m') w.heap.size a' m' ts ∧ Below w.heap.size w (putI W' r a' m') := by
  obtain ⟨h1, h2, h3⟩ := ImSt.put (h.r.below hb) ho (fr h.b hb) h.hr h.lt a' m'
  exact ⟨h1, h2.base h.b.size, h3⟩

end Go.Proofs.Ytkaiglhljpehpaa

/- Contract of impl.ResizeImage. -/
namespace Go.Proofs.Ytkaiglhljpehpaa
open Go.RowKit
set_option linter.unusedVariables false
set_option maxRecDepth 100000

/-- Another table, that was made since. -/
theorem OwnIm.freshT {w w' : World} {B c : Nat} {q : Option Addr} {a : Im4} {m : Img} {ts : List Value} {t : List Int} (h : OwnIm w B a m ts) (hb : Below w.heap.size w w') (hv : OwnN w' w.heap.size (.slice q t.length c) t) (hB : B ≤ w.heap.size) : OwnIm w' B { a with tq := q, tc := c } { m with table := t } ts := by
  refine ⟨h.len, h.s.below hb, ?_⟩
  have h1 := h.rows.below hb
  have hold : ∀ r ∈ imRows a m ts, ∀ g, Own r.1 g → ¬ Own (.slice q t.length c) g := fun r hr g hg hg' => by
    have k1 := ((h.rows.own r hr).ge g hg).2
    have k2 := (hv.ge g hg').1
    omega
  unfold imRows at h1 hold ⊢
  simp only
  have hp := h1.apart
  rw [List.pairwise_cons, List.pairwise_cons] at hp
  obtain ⟨p0, p1, p2⟩ := hp
  refine ⟨fun r hr => ?_, ?_⟩
  · simp only [List.mem_cons] at hr
    rcases hr with rfl | rfl | hr
    · exact h1.own _ (by simp)
    · exact hv.base hB
    · exact h1.own r (by simp only [List.mem_cons]; exact .inr (.inr hr))
  · rw [List.pairwise_cons, List.pairwise_cons]
    refine ⟨fun r hr => ?_, fun r hr g hg hg' => ?_, p2⟩
    · rw [List.mem_cons] at hr
      rcases hr with rfl | hr
      · exact hold (.slice a.ro m.refs.length a.rc, m.refs) (by simp)
      · exact p0 r (List.mem_cons_of_mem _ hr)
    · exact hold r (by simp only [List.mem_cons] at hr ⊢; exact .inr (.inr hr)) g hg' hg
theorem Hld.freshT {W W' : World} {p B c : Nat} {q : Option Addr} {a : Im4} {m : Img} {ts : List Value} {t : List Int} (h : Hld W p B a m ts) (hb : Below W.heap.size W W') (hv : OwnN W' W.heap.size (.slice q t.length c) t) (hB : B ≤ W.heap.size) : Hld (W'.setCell ⟨p, 1, none⟩ (.slice q t.length c)) p B { a with tq := q, tc := c } { m with table := t } ts ∧ Below B W (W'.setCell ⟨p, 1, none⟩ (.slice q t.length c)) := by
  have h1 := h.below hb
  have ho := h.o.freshT hb hv hB
  have hk : Keep (fun g => g = p) W' (W'.setCell ⟨p, 1, none⟩ (.slice q t.length c)) := (Keep.refl (fun g => g = p) W').setCell (p := ⟨p, 1, none⟩) rfl _
  exact ⟨⟨h1.v.set1 _, ho.keep hk (fun g hg e => ho.other h1.v (e ▸ hg)), h.p⟩, (hb.mono hB).trans (hk.below (Nat.le_trans hB hb.size) (fun g e => by have := h.p; omega))⟩

/-- The image that ResizeImage makes ahead of its counts. -/
def rs1 (m : Img) (n : Int) : Img := if betw n 0 12 = true then { m with table := rzTo m.table n.toNat } else m
def rsC (m : Img) (n : Int) : Int := if betw n 0 12 = true then 0 else 4
theorem rs_fit {m : Img} (n : Int) (h : ImR m) : FitR (rs1 m n) := by
  unfold rs1
  by_cases hn : betw n 0 12 = true
  · rw [if_pos hn]
    obtain ⟨l0, l1⟩ := betw_iff.1 hn
    exact h.fitT (d := m.data) (tbB_rz h.table (by omega)) h.len
  · rw [if_neg hn]
    exact h.fitR
theorem rs_ans {m : Img} (n : Int) : (if imB m = true then (imFit (rs1 m n), rsC m n) else (im0, 1)) = rsA' m n := by
  refine ans_eq (fun h => ?_) (fun h => by rw [rsA', h]; rfl)
  have hR := imB_iff.1 h
  rw [rsA', if_pos h]
  unfold rs1 rsC
  by_cases hg : betw n 0 12 = true
  · rw [if_pos hg, if_pos hg, if_pos hg]
    obtain ⟨l0, l1⟩ := betw_iff.1 hg
    exact ⟨fit_resize hR (by omega), rfl⟩
  · rw [if_neg hg, if_neg hg, if_neg hg]
    exact ⟨fit_self hR, rfl⟩

end Go.Proofs.Ytkaiglhljpehpaa

/- Plain: what a guest reads of an image of another size, and of one whose cluster is zeroed. -/
namespace Go.Proofs.Ytkaiglhljpehpaa
open Go.RowKit
set_option linter.unusedVariables false
set_option maxRecDepth 100000

/-- What a guest reads at a place. -/
def imAt (m : Img) (g : Nat) : Int := imVal m (m.table.getD g 0)
theorem at_fit {m : Img} (ht : ∀ t ∈ imTabs m, tbB t = true) {g : Nat} (hg : g < m.table.length) : imAt (imFit m) g = imAt m g := by
  have hb := tbB_at (ht m.table (by simp [imTabs])) g hg
  have e : m.table.getD g 0 = m.table[g] := by simp [List.getD, hg]
  have e2 : (imFit m).table = m.table := rfl
  unfold imAt imVal
  rw [e2, e]
  by_cases h2 : m.table[g] < 2
  · rw [if_pos h2, if_pos h2]
  · rw [if_neg h2, if_neg h2]
    have hi : (m.table[g] - 2).toNat < 24 := by omega
    have hc : 1 ≤ cN m.table (m.table[g] - 2).toNat := cN_pos hg (by omega)
    have hs := sN_nn (m.snaps.map (·.table)) (m.table[g] - 2).toNat
    have hn : ¬ (imCnt m).getD (m.table[g] - 2).toNat 0 = 0 := by
      rw [cnt_get ht hi, sN_tabs]; omega
    unfold imFit
    simp only
    rw [range_getD hi, if_neg hn]
theorem rz_get (t : List Int) {n i : Nat} (hi : i < n) : (rzTo t n).getD i 0 = t.getD i 0 := by simp [rzTo, List.getD, hi]
theorem at_resize {m : Img} (h : ImR m) {n : Nat} (hn : n ≤ 12) {i : Nat} (hi : i < n) : imAt (imResize m n) i = if i < m.table.length then imAt m i else 0 := by
  rw [← fit_resize h hn, at_fit (tabs_with h (tbB_rz h.table hn) m.data) (by show i < (rzTo m.table n).length; rw [rzTo_len]; exact hi)]
  unfold imAt imVal
  simp only [rz_get m.table hi]
  by_cases hl : i < m.table.length
  · rw [if_pos hl]
  · rw [if_neg hl]
    have : m.table.getD i 0 = 0 := by simp [List.getD, List.getElem?_eq_none (Nat.le_of_not_lt hl)]
    rw [this]; rfl
theorem at_zero {m : Img} {g : Nat} (hg : g < m.table.length) : imAt (imZero m g) g = 0 := by
  have e : (imZero m g).table = m.table.set g 1 := by unfold imZero; simp only; rw [(imDrop_table m _).1]
  unfold imAt imVal
  rw [e, show (m.table.set g 1).getD g 0 = 1 by simp [List.getD, hg]]; rfl
theorem resize_len (m : Img) (n : Nat) : (imResize m n).table.length = n := rzTo_len m.table n
theorem zero_len (m : Img) (g : Nat) : (imZero m g).table.length = m.table.length := by unfold imZero; simp only [List.length_set]; rw [(imDrop_table m _).1]

end Go.Proofs.Ytkaiglhljpehpaa

/- Contract of the laws' comparison of lists of numbers (sameInts). -/
namespace Go.Proofs.Ytkaiglhljpehpaa
open Go.RowKit
set_option linter.unusedVariables false
set_option maxRecDepth 100000

set_option maxHeartbeats 800000 in
theorem sameInts_any (ao bo : Option Addr) (ca cb : Nat) (ss tt : List Int) (w : World) (hl : ss.length ≤ maxLen) (hc : Is w ao ss) (hd : Is w bo tt) :
    Calls Try.prog 9 #[.slice ao ss.length ca, .slice bo tt.length cb] w fun e w' => e = .returned (.bool (eqNB ss tt)) ∧ Below w.heap.size w w' := by
  have HC := hide hc
  have HD := hide hd
  clear hc hd
  unfold maxLen at hl
  by_cases hle : ss.length = tt.length
  · have hb : ((ss.length : Int) != (tt.length : Int)) = false := by simp [hle]
    have HLE := hide hle
    clear hle
    go_enter Try.func9, Try.ntmps9
    go_wp2
    go_loopw [5] (fun i wr => ∃ k : Nat, k ≤ ss.length ∧ i = .int .i64 k ∧ Hid (∀ j (h : j < ss.length) (h' : j < tt.length), j < k → ss[j] = tt[j]) ∧ Hid (Below w.heap.size w wr)) (fun i _ => ss.length - (intOf i).toNat)
    case atStart => exact ⟨0, Nat.zero_le _, rfl, hide (fun j _ _ h => by omega), hide (Below.refl _ _)⟩
    case round =>
      obtain ⟨k, hk, rfl, HA, HB⟩ := hrel
      by_cases hlt : k < ss.length
      · have hlt' : k < tt.length := by rw [← unhide HLE]; exact hlt
        obtain ⟨b, off, rfl, hc⟩ := (unhide HC).below (unhide HB) k hlt
        obtain ⟨b', off', rfl, hc'⟩ := (unhide HD).below (unhide HB) k hlt'
        by_cases he : ss[k] = tt[k]
        · have HN := hide (eq_succ hlt hlt' (unhide HA) he)
          have be : (ss[k] != tt[k]) = false := by simp [he]
          clear he
          go_wp2
          go_quiet (fail)
          go_wp2
          go_roundw
          case rel => exact ⟨k + 1, by omega, by go_num, HN, hide ((unhide HB).trans (Joins.below_draws _ _ _))⟩
          case measure => simp [intOf]; omega
        · have H := hide (eqNB_false hlt hlt' he)
          have be : (ss[k] != tt[k]) = true := by simp [he]
          clear he
          go_wp2
          go_quiet (fail)
          go_wp2
          go_ret
          exact ⟨ret_bool (unhide H).symm, (unhide HB).trans (Joins.below_draws _ _ _)⟩
      · have H := hide (eqNB_true (unhide HLE) (fun j h h' => unhide HA j h h' (by omega)))
        go_wp2
        go_ret
        exact ⟨ret_bool (unhide H).symm, unhide HB⟩
  · have hb : ((ss.length : Int) != (tt.length : Int)) = true := by simp; omega
    have H := hide (eqNB_false_len hle)
    clear hle
    go_enter Try.func9, Try.ntmps9
    go_wp2
    go_ret
    exact ⟨ret_bool (unhide H).symm, Below.refl _ _⟩

end Go.Proofs.Ytkaiglhljpehpaa

/- Contract of the laws' sameImage of images that are alike. -/
namespace Go.Proofs.Ytkaiglhljpehpaa
open Go.RowKit
set_option linter.unusedVariables false
set_option maxRecDepth 100000

theorem sameNums_same (ao bo : Option Addr) (ca cb : Nat) (xs : List Int) (w : World) (hl : xs.length ≤ maxLen) (hc : Is w ao xs) (hd : Is w bo xs) :
    Calls Try.prog 9 #[.slice ao xs.length ca, .slice bo xs.length cb] w fun e w' => e = .returned (.bool true) ∧ Below w.heap.size w w' := by
  refine (sameInts_any ao bo ca cb xs xs w hl hc hd).mono ?_
  rintro e w' ⟨rfl, hb⟩
  rw [eqNB_self]
  exact ⟨rfl, hb⟩

set_option maxHeartbeats 800000 in
theorem sameInts_draws (ao bo : Option Addr) (ca cb : Nat) (ss : List Int) (w : World) (hl : ss.length ≤ maxLen) (hc : Is w ao ss) (hd : Is w bo ss) :
    Calls Try.prog 9 #[.slice ao ss.length ca, .slice bo ss.length cb] w fun e w' => e = .returned (.bool true) ∧ ∃ m, w' = w.drewN m := by
  have HC := hide hc
  have HD := hide hd
  clear hc hd
  unfold maxLen at hl
  have hb : ((ss.length : Int) != (ss.length : Int)) = false := by simp
  go_enter Try.func9, Try.ntmps9
  go_wp2
  go_loopw [5] (fun i wr => ∃ (k n : Nat), k ≤ ss.length ∧ i = .int .i64 k ∧ wr = w.drewN n) (fun i _ => ss.length - (intOf i).toNat)
  case atStart => exact ⟨0, 0, Nat.zero_le _, rfl, rfl⟩
  case round =>
    obtain ⟨k, n, hk, rfl, rfl⟩ := hrel
    by_cases hlt : k < ss.length
    · obtain ⟨b, off, rfl, hc⟩ := (unhide HC) k hlt
      obtain ⟨b', off', rfl, hc'⟩ := (unhide HD) k hlt
      generalize ss[k] = X at *
      go_wp2
      go_quiet (fail)
      go_wp2
      go_roundw
      case rel => exact ⟨k + 1, _, by omega, by go_num, rfl⟩
      case measure => simp [intOf]; omega
    · go_wp2
      go_ret
      exact ⟨rfl, n, rfl⟩

set_option maxHeartbeats 3200000 in
theorem sameImage_same (a b : Im4) (m : Img) (w : World) (hr : m.refs.length ≤ maxLen) (ht : m.table.length ≤ maxLen) (hs : m.snaps.length ≤ maxLen) (hd : m.data.length ≤ maxLen) (h1 : ImS w a m) (h2 : ImS w b m) :
    Calls Try.prog 15 #[imV a m, imV b m] w fun e w' => e = .returned (.bool true) ∧ Below w.heap.size w w' := by
  have HA := hide (Joins.below_alloc2 w (.cells #[.slice a.ro m.refs.length a.rc, .slice a.tq m.table.length a.tc, .slice a.so m.snaps.length a.sc, .slice a.dq m.data.length a.dc] 26) (.cells #[.slice b.ro m.refs.length b.rc, .slice b.tq m.table.length b.tc, .slice b.so m.snaps.length b.sc, .slice b.dq m.data.length b.dc] 26))
  have HV : Hid (((w.alloc (.cells #[.slice a.ro m.refs.length a.rc, .slice a.tq m.table.length a.tc, .slice a.so m.snaps.length a.sc, .slice a.dq m.data.length a.dc] 26)).alloc (.cells #[.slice b.ro m.refs.length b.rc, .slice b.tq m.table.length b.tc, .slice b.so m.snaps.length b.sc, .slice b.dq m.data.length b.dc] 26)).heap[w.heap.size]? = some (.cells #[.slice a.ro m.refs.length a.rc, .slice a.tq m.table.length a.tc, .slice a.so m.snaps.length a.sc, .slice a.dq m.data.length a.dc] 26 (0, 0))) := hide (by rw [(Joins.below_alloc1 _ _).block _ (by simp)]; exact heap_alloc_new w _)
  have HU : Hid (((w.alloc (.cells #[.slice a.ro m.refs.length a.rc, .slice a.tq m.table.length a.tc, .slice a.so m.snaps.length a.sc, .slice a.dq m.data.length a.dc] 26)).alloc (.cells #[.slice b.ro m.refs.length b.rc, .slice b.tq m.table.length b.tc, .slice b.so m.snaps.length b.sc, .slice b.dq m.data.length b.dc] 26)).heap[w.heap.size + 1]? = some (.cells #[.slice b.ro m.refs.length b.rc, .slice b.tq m.table.length b.tc, .slice b.so m.snaps.length b.sc, .slice b.dq m.data.length b.dc] 26 (0, 0))) := hide (heap_alloc2_new w _ _)
  have H1 := hide (h1.below (unhide HA))
  have H2 := hide (h2.below (unhide HA))
  have HR := hide hr
  have HT := hide ht
  have HS := hide hs
  have HD := hide hd
  clear h1 h2 hr ht hs hd
  go_enter Try.func15, Try.ntmps15
  go_upto_region 1 with fail
  revert HA HV HU H1 H2
  generalize ((w.alloc _).alloc _) = W0
  intro HA HV HU H1 H2
  have HCELL : Hid (∀ W, Below W0.heap.size W0 W → (W.cell? ⟨w.heap.size, 0, none⟩ = some (.slice a.ro m.refs.length a.rc) ∧ W.cell? ⟨w.heap.size, 1, none⟩ = some (.slice a.tq m.table.length a.tc) ∧ W.cell? ⟨w.heap.size, 2, none⟩ = some (.slice a.so m.snaps.length a.sc) ∧ W.cell? ⟨w.heap.size, 3, none⟩ = some (.slice a.dq m.data.length a.dc)) ∧ W.cell? ⟨w.heap.size + 1, 0, none⟩ = some (.slice b.ro m.refs.length b.rc) ∧ W.cell? ⟨w.heap.size + 1, 1, none⟩ = some (.slice b.tq m.table.length b.tc) ∧ W.cell? ⟨w.heap.size + 1, 2, none⟩ = some (.slice b.so m.snaps.length b.sc) ∧ W.cell? ⟨w.heap.size + 1, 3, none⟩ = some (.slice b.dq m.data.length b.dc)) := hide (fun W hW => by
    have n1 := (hW.block w.heap.size (Array.getElem?_eq_some_iff.1 (unhide HV)).1).trans (unhide HV)
    have n2 := (hW.block (w.heap.size + 1) (Array.getElem?_eq_some_iff.1 (unhide HU)).1).trans (unhide HU)
    refine ⟨⟨?_, ?_, ?_, ?_⟩, ?_, ?_, ?_, ?_⟩ <;> first | (rw [Joins.cell_of_block n1]; rfl) | (rw [Joins.cell_of_block n2]; rfl))
  have HVV : Hid (∀ W, Below W0.heap.size W0 W → VarM W w.heap.size 26 (.slice a.ro m.refs.length a.rc) (.slice a.tq m.table.length a.tc) (.slice a.so m.snaps.length a.sc) (.slice a.dq m.data.length a.dc) ∧ VarM W (w.heap.size + 1) 26 (.slice b.ro m.refs.length b.rc) (.slice b.tq m.table.length b.tc) (.slice b.so m.snaps.length b.sc) (.slice b.dq m.data.length b.dc)) := hide (fun W hW => ⟨VarM.below (unhide HV) hW, VarM.below (unhide HU) hW⟩)
  clear HV HU
  obtain ⟨⟨c0, c1, c2, c3⟩, d0, d1, d2, d3⟩ := unhide HCELL _ (Below.refl _ W0)
  go_wp2_with fail
  refine (sameNums_same a.ro b.ro a.rc b.rc m.refs _ (unhide HR) (unhide H1).r (unhide H2).r).mono ?_
  rintro e w1 ⟨rfl, hb⟩
  have HB1 := hide hb
  clear hb c0 c1 c2 c3 d0 d1 d2 d3
  obtain ⟨⟨c0, c1, c2, c3⟩, d0, d1, d2, d3⟩ := unhide HCELL _ (unhide HB1)
  go_wp2_with fail
  refine (sameNums_same a.tq b.tq a.tc b.tc m.table _ (unhide HT) ((unhide H1).below (unhide HB1)).t ((unhide H2).below (unhide HB1)).t).mono ?_
  rintro e w2 ⟨rfl, hb⟩
  have HB2 := hide (fr (unhide HB1) hb)
  clear hb c0 c1 c2 c3 d0 d1 d2 d3
  obtain ⟨⟨c0, c1, c2, c3⟩, d0, d1, d2, d3⟩ := unhide HCELL _ (unhide HB2)
  go_wp2_with fail
  refine (sameNums_same a.dq b.dq a.dc b.dc m.data _ (unhide HD) ((unhide H1).below (unhide HB2)).d ((unhide H2).below (unhide HB2)).d).mono ?_
  rintro e w3 ⟨rfl, hb⟩
  have HB3 := hide (fr (unhide HB2) hb)
  clear hb c0 c1 c2 c3 d0 d1 d2 d3
  obtain ⟨⟨c0, c1, c2, c3⟩, d0, d1, d2, d3⟩ := unhide HCELL _ (unhide HB3)
  have hsm := unhide HS
  unfold maxLen at hsm
  go_wp2
  clear c0 c1 c2 c3 d0 d1 d2 d3
  go_loopw [5] (fun i wr => ∃ k : Nat, k ≤ m.snaps.length ∧ i = .int .i64 k ∧ Hid (Below W0.heap.size W0 wr)) (fun i _ => m.snaps.length - (intOf i).toNat)
  case atStart => exact ⟨0, Nat.zero_le _, rfl, HB3⟩
  case round =>
    clear HB1 HB2 HB3
    obtain ⟨k, hk, rfl, HB⟩ := hrel
    obtain ⟨⟨c0, c1, c2, c3⟩, d0, d1, d2, d3⟩ := unhide HCELL _ (unhide HB)
    by_cases hlt : k < m.snaps.length
    · obtain ⟨b1, o1, q1, p1, e1, hn1, ht1, i1, _, hm1⟩ := ((unhide H1).below (unhide HB)).s k hlt
      obtain ⟨b2, o2, q2, p2, e2, hn2, ht2, i2, _, _⟩ := ((unhide H2).below (unhide HB)).s k hlt
      have hki : (k : Int) < (m.snaps.length : Int) := by omega
      have HI1 := hide i1
      have HI2 := hide i2
      have HML := hide hm1
      have l1 := World.block_lt_of_cell? _ _ hn1
      have l2 := World.block_lt_of_cell? _ _ hn2
      rw [e1] at c2
      rw [e2] at d2
      have hne : (m.snaps[k].name.toList != m.snaps[k].name.toList) = false := by simp
      have HCALL : Hid (∀ n, Calls Try.prog 9 #[.slice q1 m.snaps[k].table.length p1, .slice q2 m.snaps[k].table.length p2] (wr.drewN n) fun e w' => e = .returned (.bool true) ∧ ∃ m, w' = (wr.drewN n).drewN m) := hide (fun n => sameInts_draws q1 q2 p1 p2 m.snaps[k].table (wr.drewN n) (unhide HML) ((unhide HI1).below (Joins.below_draws _ _ _)) ((unhide HI2).below (Joins.below_draws _ _ _)))
      clear e1 e2 i1 i2 hm1
      generalize m.snaps[k].table.length = TL at *
      generalize m.snaps[k].name = NM at *
      go_upto_region 6 with fail
      go_quiet ((go_at_call 9; refine Calls.quiet_of (unhide HCALL _)))
      have HB5 : Hid (Below W0.heap.size W0 (wr.drewN nq)) := hide ((unhide HB).trans (Joins.below_draws _ _ _))
      clear c0 c1 c2 c3 d0 d1 d2 d3 hn1 ht1 hn2 ht2 HCALL
      go_wp2
      go_roundw
      case rel => exact ⟨k + 1, by omega, by go_num, HB5⟩
      case measure => simp [intOf]; omega
    · go_wp2
      go_ret
      exact ⟨rfl, fr (unhide HA) (unhide HB)⟩

end Go.Proofs.Ytkaiglhljpehpaa

/- What laws over right images carry along, and the program's and the model's calls at right images. -/
namespace Go.Proofs.Ytkaiglhljpehpaa
open Go.RowKit
set_option linter.unusedVariables false
set_option maxRecDepth 100000

/-- A variable with an image. -/
structure ImA (W : World) (y : Nat) (a : Im4) (m : Img) : Prop where
  v : VarM W y 26 (.slice a.ro m.refs.length a.rc) (.slice a.tq m.table.length a.tc) (.slice a.so m.snaps.length a.sc) (.slice a.dq m.data.length a.dc)
  s : ImS W a m
theorem ImA.below {W W' : World} {y : Nat} {a : Im4} {m : Img} (h : ImA W y a m) (hb : Below W.heap.size W W') : ImA W' y a m := ⟨h.v.below hb, h.s.below hb⟩
theorem ImA.new {W : World} {a : Im4} {m : Img} (h : ImS W a m) : ImA (W.alloc (.cells #[.slice a.ro m.refs.length a.rc, .slice a.tq m.table.length a.tc, .slice a.so m.snaps.length a.sc, .slice a.dq m.data.length a.dc] 26)) W.heap.size a m := ⟨VarM.new _ _ _ _ _ _, h.below (Joins.below_alloc1 _ _)⟩
theorem ImR.L {m : Img} (h : ImR m) : ImL m := h.M.L
theorem OwnIm.showsR {w : World} {B : Nat} {a : Im4} {m : Img} {ts : List Value} (h : OwnIm w B a m ts) (hi : ImR m) : ImS w a m := h.shows hi.M.zs

theorem rsA_right {m : Img} (h : ImR m) {q : Nat} (hq : q ≤ 12) : rsA' m (q : Int) = (imResize m q, 0) := by
  unfold rsA'
  rw [if_pos (imB_iff.2 h), if_pos (betw_iff.2 ⟨by omega, by omega⟩), Int.toNat_natCast]
theorem betw_tab {n g : Nat} (hg : g < n) : betw (g : Int) 0 ((n : Int) - 1) = true := betw_iff.2 ⟨by omega, by omega⟩
theorem readA (a : Im4) (m : Img) (g : Nat) (v : Int) (W : World) (h : ImR m) (hg : g < m.table.length) (hv : imAt m g = v) (hs : ImS W a m) :
    Calls Try.prog 16 #[imV a m, .int .i64 (g : Int)] W fun e w' => e = .returned (.tuple #[.int .i64 v, .int .i64 0]) ∧ Below W.heap.size W w' := by
  have := readCluster_impl a m (g : Int) W h.L hs
  have e : rcA m (g : Int) = (v, 0) := by
    unfold rcA
    rw [if_pos (imB_iff.2 h), if_pos (betw_tab hg), Int.toNat_natCast, ← hv]; rfl
  rw [e] at this
  exact this
theorem okA (a : Im4) (m : Img) (W : World) (h : ImR m) (hs : ImS W a m) :
    Calls Try.prog 11 #[imV a m] W fun e w' => e = .returned (.bool true) ∧ Below W.heap.size W w' := by
  have := imageOK_impl a m W h.L hs
  rw [imB_iff.2 h] at this
  exact this
theorem sameA (a b : Im4) (m : Img) (W : World) (h : ImR m) (h1 : ImS W a m) (h2 : ImS W b m) :
    Calls Try.prog 15 #[imV a m, imV b m] W fun e w' => e = .returned (.bool true) ∧ Below W.heap.size W w' := sameImage_same a b m W h.L.r h.L.t h.L.s h.L.d h1 h2

end Go.Proofs.Ytkaiglhljpehpaa

/- Contracts of the program's clustersCounted, WrongRefs, Leaks. -/
namespace Go.Proofs.Ytkaiglhljpehpaa
open Go.RowKit
set_option linter.unusedVariables false
set_option maxRecDepth 100000

set_option maxHeartbeats 3200000 in
theorem clustersCounted_any (F : Nat) (p : Int → Int → Bool) (a : Im4) (m : Img) (w : World) (hL : ImL m) (hc : ImS w a m)
    (hcf : ∀ (args : Array Value) (W : World), (callFunc F args).run Try.prog W = .ok (.enter F args) W)
    (hf : ∀ (t f : Int) (W : World), Calls Try.prog F #[.int .i64 t, .int .i64 f] W fun e w' => e = .returned (.bool (p t f)) ∧ w' = W) :
    Calls Try.prog 19 #[imV a m, .func (.func F) #[] #[]] w fun e w' => AnsN w w' e (wlA p m) := by
  obtain ⟨j0, hj, hy0, hy1, hy2⟩ := info_parts infoM
  have HA := hide (Joins.below_alloc1 w (.cells #[.slice a.ro m.refs.length a.rc, .slice a.tq m.table.length a.tc, .slice a.so m.snaps.length a.sc, .slice a.dq m.data.length a.dc] 26))
  have HV := hide (VarM.new w 26 (.slice a.ro m.refs.length a.rc) (.slice a.tq m.table.length a.tc) (.slice a.so m.snaps.length a.sc) (.slice a.dq m.data.length a.dc))
  have HC := hide (hc.below (unhide HA))
  have HL := hide hL
  have HF := hide hf
  clear hc hL hf
  go_enter Try.func19, Try.ntmps19
  go_upto_region 1 with fail
  revert HA HV HC
  generalize (w.alloc _) = W0
  intro HA HV HC
  obtain ⟨c0, c1, c2, c3⟩ := (unhide HV).cells
  go_wp2_with fail
  refine (countRefs_impl a m _ (unhide HL) (unhide HC)).mono ?_
  obtain ⟨R, HR⟩ : ∃ R, Hid (R = crA m) := ⟨_, hide rfl⟩
  rw [← unhide HR]
  rintro e w1 ⟨qo, qa, rfl, ho, hb⟩
  have HO1 := hide (ho.base (unhide HA).size)
  have HB1 := hide (fr (unhide HA) hb)
  have HC1 := hide ((unhide HC).below hb)
  have HV1 := hide ((unhide HV).below hb)
  clear ho hb c0 c1 c2 c3 HA HV HC
  cases hk : ckB m
  · have HE : Hid (wlA p m = ([], 1)) := hide (by simp [wlA, hk])
    have hR1 : R.2 = 1 := by rw [unhide HR]; simp [crA, hk]
    have b1 : (R.2 != 0) = true := by rw [hR1]; rfl
    have HR1 := hide hR1
    clear hk hR1
    go_wp2
    go_ret2
    exact ⟨none, 0, ret_sn (by rw [unhide HE]; rfl) (by rw [unhide HE, unhide HR1]), by rw [unhide HE]; exact .inl ⟨rfl, rfl, _, rfl⟩, unhide HB1⟩
  have HE : Hid (wlA p m = (ckL p m.refs (imCnt m) 24, 0)) := hide (by simp [wlA, hk])
  have hR : R = (imCnt m, 0) := by rw [unhide HR]; simp [crA, hk]
  have HP := hide (fm_parts (ck_parts hk).1)
  subst hR
  clear hk HR
  have HI1 := hide (ownRN (unhide HO1))
  have HLN := hide (imCnt_len m)
  have HR24 := hide (ctB_len (unhide HP).1)
  clear HO1
  generalize imCnt m = L at *
  have hll : (L.length : Int) = 24 := by rw [unhide HLN]; rfl
  have HLL := hide hll
  clear hll
  go_wp2
  go_loopw [8, 21] (fun o i wr => ∃ (k : Nat) (ys : List Int) (qo : Option Addr) (qa : Nat), k ≤ L.length ∧ i = .int .i64 k ∧ o = .slice qo ys.length qa ∧ Hid (ys = ckL p m.refs L k) ∧ Hid (OwnR wr w1.heap.size 3 1 (.slice qo ys.length qa) ys.length (intV ys)) ∧ Hid (Below w1.heap.size w1 wr)) (fun _ i _ => L.length - (intOf i).toNat)
  case atStart => exact ⟨0, [], _, _, Nat.zero_le _, rfl, rfl, hide rfl, hide (.inl ⟨rfl, rfl, _, rfl⟩), hide (Below.refl _ _)⟩
  case round =>
    obtain ⟨k, ys, qo2, qa2, hk, rfl, rfl, HY, HO, HB⟩ := hrel
    by_cases hlt : k < L.length
    · have hlti : (k : Int) < (L.length : Int) := by omega
      have hk24 : k < 24 := by have := unhide HLN; omega
      have kr : k < m.refs.length := by rw [unhide HR24]; exact hk24
      have kri : (k : Int) < (m.refs.length : Int) := by omega
      obtain ⟨c0, c1, c2, c3⟩ := ((unhide HV1).below (unhide HB)).cells
      obtain ⟨b1, o1, e1, hx1⟩ := ((unhide HI1).below (unhide HB)) k hlt
      obtain ⟨b2, o2, e2, hx2⟩ := ((unhide HC1).r.below (unhide HB)) k kr
      subst e1
      rw [e2] at c0
      clear e2 c1 c2 c3
      have HYS := hide (ckL_yes (p := p) kr hlt)
      have HNS := hide (ckL_no (p := p) kr hlt)
      have HYL : Hid (ys.length ≤ 24) := hide (by rw [unhide HY]; have := ckL_len p m.refs L k; omega)
      generalize L[k] = X at *
      generalize m.refs[k] = R at *
      cases hp : p R X
      · have HS := hide (unhide HNS hp)
        have HP1 := hide hp
        clear hp
        go_wp2_with fail
        refine (unhide HF R X _).mono ?_
        rintro e w' ⟨rfl, hw⟩
        replace hw := hw.symm
        subst hw
        rw [unhide HP1]
        go_wp2
        go_roundw
        case rel => exact ⟨k + 1, ys, qo2, qa2, by omega, by go_num, rfl, hide (by rw [unhide HS, unhide HY]), HO, HB⟩
        case measure => simp [intOf]; omega
      · have HS := hide (unhide HYS hp)
        have HP1 := hide hp
        clear hp
        have HOA := hide ((unhide HO).below (Joins.below_alloc1 wr (.cells #[.int .i64 (k : Int)] 3)))
        have HBA := hide (fr (unhide HB) (Joins.below_alloc1 wr (.cells #[.int .i64 (k : Int)] 3)))
        have HSZ := hide (unhide HB).size
        go_wp2_with fail
        refine (unhide HF R X _).mono ?_
        rintro e w' ⟨rfl, hw⟩
        replace hw := hw.symm
        subst hw
        rw [unhide HP1]
        go_wp2_with (at_builtin; refine wpList_append_one rfl _ _ 23 rfl w1.heap.size 3 j0 (.int .i64 0) 1 8 Try.underlying23 hj hy0 hy1 hy2 rfl (by omega) qo2 ys.length qa2 _ rfl (unhide HOA) (by have := unhide HSZ; simp; omega) ⟨wr.heap.size, 0, none⟩ _ [.int .i64 (k : Int)] rfl rfl (byte_news wr _ _) (int_one _) (by have := unhide HYL; unfold maxLen; omega) (by have := unhide HYL; omega) ?_; intro g2 cap2 wA hoA hkA; have HSF := hide (And.intro hoA (keep_below (unhide HBA) (unhide HOA) (Nat.le_refl _) hkA)); clear hoA hkA)
        go_roundw
        case rel => exact ⟨k + 1, ys ++ [(k : Int)], some ⟨g2, 0, none⟩, cap2, by omega, by go_num, by simp, hide (by rw [unhide HS, unhide HY]), hide (by rw [List.length_append, intV_snoc]; exact .inr ⟨by simp, (unhide HSF).1⟩), hide (unhide HSF).2⟩
        case measure => simp [intOf]; omega
    · have HS : Hid (ckL p m.refs L 24 = ys) := hide (by rw [unhide HY]; have := unhide HLN; rw [show k = 24 by omega])
      go_wp2
      go_ret2
      exact ⟨qo2, qa2, ret_sn (by rw [unhide HE, unhide HS]) (by rw [unhide HE]), by rw [unhide HE, unhide HS]; exact (unhide HO).base (unhide HB1).size, fr (unhide HB1) (unhide HB)⟩

theorem wrongAt_any (t f : Int) (w : World) : Calls Try.prog 20 #[.int .i64 t, .int .i64 f] w fun e w' => e = .returned (.bool (neP t f)) ∧ w' = w := by
  go_enter Try.func20, Try.ntmps20
  go_wp2
  go_ret
  exact ⟨rfl, rfl⟩
theorem leaksAt_any (t f : Int) (w : World) : Calls Try.prog 25 #[.int .i64 t, .int .i64 f] w fun e w' => e = .returned (.bool (gtP t f)) ∧ w' = w := by
  go_enter Try.func25, Try.ntmps25
  go_wp2
  go_ret
  exact ⟨rfl, rfl⟩

set_option maxHeartbeats 1600000 in
theorem wrongRefs_impl (a : Im4) (m : Img) (w : World) (hL : ImL m) (hc : ImS w a m) :
    Calls Try.prog 6 #[imV a m] w fun e w' => AnsN w w' e (wlA neP m) := by
  have HA := hide (Joins.below_alloc1 w (.cells #[.slice a.ro m.refs.length a.rc, .slice a.tq m.table.length a.tc, .slice a.so m.snaps.length a.sc, .slice a.dq m.data.length a.dc] 26))
  have HV := hide (VarM.new w 26 (.slice a.ro m.refs.length a.rc) (.slice a.tq m.table.length a.tc) (.slice a.so m.snaps.length a.sc) (.slice a.dq m.data.length a.dc))
  have HC := hide (hc.below (unhide HA))
  have HL := hide hL
  obtain ⟨R, HR⟩ : ∃ R, Hid (R = wlA neP m) := ⟨_, hide rfl⟩
  rw [← unhide HR]
  clear hc hL
  go_enter Try.func6, Try.ntmps6
  go_upto_region 1 with fail
  revert HA HV HC
  generalize (w.alloc _) = W0
  intro HA HV HC
  obtain ⟨c0, c1, c2, c3⟩ := (unhide HV).cells
  go_wp2_with fail
  refine (clustersCounted_any 20 neP a m _ (unhide HL) (unhide HC) (fun _ _ => rfl) wrongAt_any).mono ?_
  rw [← unhide HR]
  rintro e w1 ⟨qo, qa, rfl, ho, hb⟩
  have HO1 := hide (ho.base (unhide HA).size)
  have HB1 := hide (fr (unhide HA) hb)
  clear ho hb c0 c1 c2 c3
  go_wp2
  go_ret2
  exact ⟨qo, qa, rfl, unhide HO1, unhide HB1⟩

set_option maxHeartbeats 1600000 in
theorem leaks_impl (a : Im4) (m : Img) (w : World) (hL : ImL m) (hc : ImS w a m) :
    Calls Try.prog 10 #[imV a m] w fun e w' => AnsN w w' e (wlA gtP m) := by
  have HA := hide (Joins.below_alloc1 w (.cells #[.slice a.ro m.refs.length a.rc, .slice a.tq m.table.length a.tc, .slice a.so m.snaps.length a.sc, .slice a.dq m.data.length a.dc] 26))
  have HV := hide (VarM.new w 26 (.slice a.ro m.refs.length a.rc) (.slice a.tq m.table.length a.tc) (.slice a.so m.snaps.length a.sc) (.slice a.dq m.data.length a.dc))
  have HC := hide (hc.below (unhide HA))
  have HL := hide hL
  obtain ⟨R, HR⟩ : ∃ R, Hid (R = wlA gtP m) := ⟨_, hide rfl⟩
  rw [← unhide HR]
  clear hc hL
  go_enter Try.func10, Try.ntmps10
  go_upto_region 1 with fail
  revert HA HV HC
  generalize (w.alloc _) = W0
  intro HA HV HC
  obtain ⟨c0, c1, c2, c3⟩ := (unhide HV).cells
  go_wp2_with fail
  refine (clustersCounted_any 25 gtP a m _ (unhide HL) (unhide HC) (fun _ _ => rfl) leaksAt_any).mono ?_
  rw [← unhide HR]
  rintro e w1 ⟨qo, qa, rfl, ho, hb⟩
  have HO1 := hide (ho.base (unhide HA).size)
  have HB1 := hide (fr (unhide HA) hb)
  clear ho hb c0 c1 c2 c3
  go_wp2
  go_ret2
  exact ⟨qo, qa, rfl, unhide HO1, unhide HB1⟩

end Go.Proofs.Ytkaiglhljpehpaa

/- An image of the call's own whose counts are another row. -/
namespace Go.Proofs.Ytkaiglhljpehpaa
open Go.RowKit
set_option linter.unusedVariables false
set_option maxRecDepth 100000

/-- An image of the call's own whose counts are another row. -/
theorem OwnIm.putR {w : World} {B : Nat} {a : Im4} {m : Img} {ts : List Value} (h : OwnIm w B a m ts) {qo : Option Addr} {qa : Nat} {xs : List Int} (ho : OwnR w B 3 1 (.slice qo xs.length qa) xs.length (intV xs)) (hap : ∀ g, Own (.slice qo xs.length qa) g → ¬ ImB a m ts g) : OwnIm w B { a with ro := qo, rc := qa } { m with refs := xs } ts := by
  refine ⟨h.len, h.s, ?_⟩
  have hr := h.rows
  unfold imRows at hr ⊢
  have h2 := List.pairwise_cons.1 hr.apart
  refine ⟨fun r hm => ?_, List.pairwise_cons.2 ⟨fun r hm g hg hg' => ?_, h2.2⟩⟩
  · rcases List.mem_cons.1 hm with e | e
    · rw [e]; exact ⟨qo, qa, rfl, ho⟩
    · exact hr.own r (List.mem_cons_of_mem _ e)
  · refine hap g hg ?_
    rcases List.mem_cons.1 hm with e | e
    · subst e; exact .inr (.inl hg')
    · rcases List.mem_cons.1 e with e | e
      · subst e; exact .inr (.inr (.inl hg'))
      · exact .inr (.inr (.inr (.inr ⟨r.1, (List.of_mem_zip (a := r.1) (b := r.2) e).1, hg'⟩)))
/-- The image when the data of the first k clusters are cleared. -/
def rpF (m : Img) (cs : List Int) (k : Nat) : Img := { m with refs := cs, data := rpD cs m.data k }

end Go.Proofs.Ytkaiglhljpehpaa
