import Derived.Test.YtjoafbkcnnhdiacRows
import Derived.Test.YtjoafbkcnnhdiacLResizePart1
import Derived.Test.YtjoafbkcnnhdiacLResizePart7
import Derived.Test.YtjoafbkcnnhdiacLResizePart2
import Derived.Test.YtjoafbkcnnhdiacLResizePart3
import Derived.Test.YtjoafbkcnnhdiacLResizePart5
import Derived.Test.YtjoafbkcnnhdiacLResizePart8
import Derived.WalkKit
import Derived.WalkSpells
import Derived.KernelRfl
import Derived.BigQuiet
import Derived.Deep.QuietTactic
import Derived.Deep.RegionWith
import Derived.Deep.RegionHeld3
import Derived.Test.YtjoafbkcnnhdiacLResizePart6
import Derived.LoopN
import Derived.Outline
import Derived.Deep.RegionLawGrows
import Derived.Deep.AppendLies
import Derived.Deep.RegionLaw
import Derived.Lib.SmallJoins

namespace Go.Proofs.Ytjoafbkcnnhdiac
open Go.RowKit
set_option linter.unusedVariables false
set_option maxRecDepth 100000

def VarN1 (w : World) (x : Nat) (n : Int) : Prop := w.cell? ⟨x, 0, none⟩ = some (.int .i64 n)
theorem VarN1.below {w w' : World} {x : Nat} {n : Int} (h : VarN1 w x n) (hb : Below w.heap.size w w') : VarN1 w' x n := (hb.cell (World.block_lt_of_cell? _ _ h)).trans h
theorem VarN1.new (w : World) (n : Int) : VarN1 (w.alloc (.cells #[.int .i64 n] 3)) w.heap.size n := by unfold VarN1; rw [Joins.cell_of_block (heap_alloc_new w _)]; rfl
theorem ImR.fitR {m : Img} (h : ImR m) : FitR m := ⟨h.rl, h.len, h.few, h.tabs, h.M.zs⟩
theorem ImR.fitT {m : Img} (h : ImR m) {t d : List Int} (ht : tbB t = true) (hd : d.length = 24) : FitR { m with table := t, data := d } := ⟨h.rl, hd, h.few, tabs_with h ht d, h.M.zs⟩
theorem Hld.set {W : World} {p B g c : Nat} {a : Im4} {m m' : Img} {ts : List Value} {u : Value} (h : Hld W p B a m ts) (hi : ImB a m ts g) (ho : OwnIm (W.setCell ⟨g, c, none⟩ u) B a m' ts) (e1 : m'.refs.length = m.refs.length) (e2 : m'.table.length = m.table.length) (e3 : m'.snaps.length = m.snaps.length) (e4 : m'.data.length = m.data.length) (hB : B ≤ W.heap.size) : Hld (W.setCell ⟨g, c, none⟩ u) p B a m' ts ∧ Below B W (W.setCell ⟨g, c, none⟩ u) := by
  have hk : Keep (ImB a m ts) W (W.setCell ⟨g, c, none⟩ u) := (Keep.refl _ W).setCell (p := ⟨g, c, none⟩) hi _
  refine ⟨⟨?_, ho, h.p⟩, hk.below hB (fun x hx => (h.o.ge x hx).1)⟩
  rw [e1, e2, e3, e4]
  exact h.v.keepIm h.o hk
theorem Hld.setT {W : World} {p B c : Nat} {a : Im4} {m : Img} {ts : List Value} (h : Hld W p B a m ts) (hB : B ≤ W.heap.size) (hc : c < m.table.length) : ∃ g, a.tq = some ⟨g, 0, none⟩ ∧ W.cell? ⟨g, c, none⟩ = some (.int .i64 m.table[c]) ∧ W.frozen? ⟨g, c, none⟩ = false ∧ ∀ y, Hld (W.setCell ⟨g, c, none⟩ (.int .i64 y)) p B a { m with table := m.table.set c y } ts ∧ Below B W (W.setCell ⟨g, c, none⟩ (.int .i64 y)) := by
  obtain ⟨g, e, h1, h2, h3, h4⟩ := h.o.setT hc
  exact ⟨g, e, h1, h2, fun y => h.set h3 (h4 y) rfl (by simp) rfl rfl hB⟩
theorem Chg.same {W W' : World} {p B : Nat} {a : Im4} {m : Img} {ts : List Value} (c : Int) (h : Hld W p B a m ts) (hB : B ≤ W.heap.size) (hb : Below W.heap.size W W') : Chg W W' p B (.returned (.int .i64 c)) c m := ⟨rfl, a, ts, h.below hb, hb.mono hB⟩
theorem ans_eq {m m1 : Img} {c : Int} {R : Img × Int} (h1 : imB m = true → imFit m1 = R.1 ∧ c = R.2) (h2 : imB m = false → R = (im0, 1)) : (if imB m = true then (imFit m1, c) else (im0, 1)) = R := by
  cases h : imB m
  · rw [h2 h]; rfl
  · obtain ⟨e1, e2⟩ := h1 h
    rw [e1, e2]; rfl

def zc1 (m : Img) (g : Int) : Img := if betw g 0 ((m.table.length : Int) - 1) = true then { m with table := m.table.set g.toNat 1 } else m
def zcC (m : Img) (g : Int) : Int := if betw g 0 ((m.table.length : Int) - 1) = true then 0 else 4
theorem zc_fit {m : Img} (g : Int) (h : ImR m) : FitR (zc1 m g) := by
  unfold zc1
  split
  · exact h.fitT (d := m.data) (tbB_set h.table _ (by omega) (by omega)) h.len
  · exact h.fitR
theorem zc_ans {m : Img} (g : Int) : (if imB m = true then (imFit (zc1 m g), zcC m g) else (im0, 1)) = zcA m g := by
  refine ans_eq (fun h => ?_) (fun h => by rw [zcA, h]; rfl)
  have hR := imB_iff.1 h
  rw [zcA, if_pos h]
  unfold zc1 zcC
  by_cases hg : betw g 0 ((m.table.length : Int) - 1) = true
  · rw [if_pos hg, if_pos hg, if_pos hg]
    obtain ⟨l0, l1⟩ := betw_iff.1 hg
    exact ⟨fit_zero hR (by omega), rfl⟩
  · rw [if_neg hg, if_neg hg, if_neg hg]
    exact ⟨fit_self hR, rfl⟩

set_option maxHeartbeats 1600000 in
theorem zeroC_any (m : Img) (g : Int) (x : Nat) (W : World) (p B : Nat) (a : Im4) (ts : List Value) (ht : m.table.length ≤ 12) (hx : VarN1 W x g) (hxB : x < B) (hB : B ≤ W.heap.size) (hh : Hld W p B a m ts) :
    Calls Try.prog 48 #[.pointer (some ⟨p, 0, none⟩), .pointer (some ⟨x, 0, none⟩)] W fun e W' => Chg W W' p B e (zcC m g) (zc1 m g) := by
  have HH := hide hh
  have HX := hide hx
  have hx' : W.cell? ⟨x, 0, none⟩ = some (.int .i64 g) := hx
  have hws : IntKind.i64.wrap ((m.table.length : Int) - 1) = (m.table.length : Int) - 1 := by rw [IntKind.wrap_i64]; omega
  obtain ⟨c0, c1, c2, c3⟩ := hh.v.cells
  have hpl := hh.v.lt
  have hxl := World.block_lt_of_cell? _ _ hx
  clear hh hx
  cases hg : betw g 0 ((m.table.length : Int) - 1)
  · have HWI : Hid (∀ W, Calls Try.prog 49 #[.int .i64 g, .int .i64 0, .int .i64 ((m.table.length : Int) - 1)] W fun e w' => e = .returned (.bool false) ∧ w' = W) := hide (fun W => (within_any _ _ _ _).mono (by rintro e w' ⟨rfl, rfl⟩; exact ⟨by rw [hg], rfl⟩))
    have HE : Hid (zcC m g = 4 ∧ zc1 m g = m) := hide ⟨by rw [zcC, hg]; rfl, by rw [zc1, hg]; rfl⟩
    rw [(unhide HE).1, (unhide HE).2]
    go_enter Try.func48, Try.ntmps48
    go_upto_region 1 with fail
    go_quiet ((go_at_call 49; refine Calls.quiet_of_same (unhide HWI _)))
    go_wp2
    go_ret
    exact Chg.same 4 (unhide HH) hB (Joins.below_draws _ _ _)
  · obtain ⟨l0, l1⟩ := betw_iff.1 hg
    obtain ⟨q, rfl⟩ := Int.eq_ofNat_of_zero_le l0
    have hq : q < m.table.length := by omega
    have hqi : (q : Int) < (m.table.length : Int) := by omega
    have HWI : Hid (∀ W, Calls Try.prog 49 #[.int .i64 (q : Int), .int .i64 0, .int .i64 ((m.table.length : Int) - 1)] W fun e w' => e = .returned (.bool true) ∧ w' = W) := hide (fun W => (within_any _ _ _ _).mono (by rintro e w' ⟨rfl, rfl⟩; exact ⟨by rw [hg], rfl⟩))
    have HE : Hid (zcC m (q : Int) = 0 ∧ zc1 m (q : Int) = { m with table := m.table.set q 1 }) := hide ⟨by rw [zcC, hg]; rfl, by rw [zc1, if_pos hg, Int.toNat_natCast]⟩
    rw [(unhide HE).1, (unhide HE).2]
    go_enter Try.func48, Try.ntmps48
    go_upto_region 1 with fail
    go_quiet ((go_at_call 49; refine Calls.quiet_of_same (unhide HWI _)))
    have HH1 := hide ((unhide HH).below (Joins.below_draws _ W nq))
    have HX1 := hide ((unhide HX).below (Joins.below_draws _ W nq))
    have HB1 : Hid (Below B W (W.drewN nq) ∧ B ≤ (W.drewN nq).heap.size) := hide ⟨(Joins.below_draws _ W nq), Nat.le_trans hB (Joins.below_draws W.heap.size W nq).size⟩
    clear c0 c1 c2 c3 hx' HH HX hpl hxl
    revert HH1 HX1 HB1
    generalize (W.drewN nq) = W1
    intro HH1 HX1 HB1
    obtain ⟨c0, c1, c2, c3⟩ := (unhide HH1).v.cells
    have hx' : W1.cell? ⟨x, 0, none⟩ = some (.int .i64 (q : Int)) := unhide HX1
    obtain ⟨gt, et, ht1, hf1, hst⟩ := (unhide HH1).setT (unhide HB1).2 hq
    have HS := hide (hst 1)
    rw [et] at c1
    clear et hst
    go_wp2
    go_region
    go_wp2
    go_ret
    exact ⟨rfl, a, ts, (unhide HS).1.below (Below.refl _ _).drew, ((unhide HB1).1.trans (unhide HS).2).drew⟩

structure FcE (w W : World) (q : Nat) (a : Im4) (m : Img) : Prop where
  v : VarM W w.heap.size 29 (.slice a.ro m.refs.length a.rc) (.slice a.tq m.table.length a.tc) (.slice a.so m.snaps.length a.sc) (.slice a.dq m.data.length a.dc)
  r : VarM W q 29 (.slice none 0 0) (.slice none 0 0) (.slice none 0 0) (.slice none 0 0)
  s : ImS W a m
  b : Below w.heap.size w W
  hr : w.heap.size ≤ q
  lt : q < W.heap.size
theorem FcE.below {w W W' : World} {r : Nat} {a : Im4} {m : Img} (h : FcE w W r a m) (hb : Below W.heap.size W W') : FcE w W' r a m := ⟨h.v.below hb, h.r.below hb, h.s.below hb, fr h.b hb, h.hr, Nat.lt_of_lt_of_le h.lt hb.size⟩
theorem FcE.put {w W W' : World} {r : Nat} {a : Im4} {m : Img} (h : FcE w W r a m) (hb : Below W.heap.size W W') {a' : Im4} {m' : Img} {ts : List Value} (ho : OwnIm W' W.heap.size a' m' ts) :
    VarM (putI W' r a' m') r 29 (.slice a'.ro m'.refs.length a'.rc) (.slice a'.tq m'.table.length a'.tc) (.slice a'.so m'.snaps.length a'.sc) (.slice a'.dq m'.data.length a'.dc) ∧ OwnIm (putI W' r a' m') w.heap.size a' m' ts ∧ Below w.heap.size w (putI W' r a' m') := by
  obtain ⟨h1, h2, h3⟩ := ImSt.put (h.r.below hb) ho (fr h.b hb) h.hr h.lt a' m'
  exact ⟨h1, h2.base h.b.size, h3⟩

set_option maxHeartbeats 1600000 in
theorem zeroCluster_impl (a : Im4) (m : Img) (g : Int) (w : World) (hL : ImL m) (hc : ImS w a m) :
    Calls Try.prog 19 #[imV a m, .int .i64 g] w fun e w' => AnsI w w' e (zcA m g) := by
  have hmf : ∀ (fn : Fn) (first cap : Array Value) (w : World), (Instr.makeFunc fn first cap).run Try.prog w = .ok (.func fn first cap) w := fun _ _ _ _ => rfl
  have HE : Hid (FcE w (((w.alloc (.cells #[.slice a.ro m.refs.length a.rc, .slice a.tq m.table.length a.tc, .slice a.so m.snaps.length a.sc, .slice a.dq m.data.length a.dc] 29)).alloc (.cells #[.int .i64 g] 3)).alloc (.cells #[.slice none 0 0, .slice none 0 0, .slice none 0 0, .slice none 0 0] 29)) (w.heap.size + 1 + 1) a m) := hide (by
    refine ⟨?_, ?_, hc.below (fr (fr (Joins.below_alloc1 w _) (Joins.below_alloc1 _ _)) (Joins.below_alloc1 _ _)), fr (fr (Joins.below_alloc1 w _) (Joins.below_alloc1 _ _)) (Joins.below_alloc1 _ _), by omega, by simp⟩
    · exact ((VarM.new w 29 (.slice a.ro m.refs.length a.rc) (.slice a.tq m.table.length a.tc) (.slice a.so m.snaps.length a.sc) (.slice a.dq m.data.length a.dc)).below (Joins.below_alloc1 _ _)).below (Joins.below_alloc1 _ _)
    · have h := VarM.new ((w.alloc (.cells #[.slice a.ro m.refs.length a.rc, .slice a.tq m.table.length a.tc, .slice a.so m.snaps.length a.sc, .slice a.dq m.data.length a.dc] 29)).alloc (.cells #[.int .i64 g] 3)) 29 (.slice none 0 0) (.slice none 0 0) (.slice none 0 0) (.slice none 0 0)
      simp only [World.size_alloc] at h
      exact h)
  have HX0 : Hid (VarN1 (((w.alloc (.cells #[.slice a.ro m.refs.length a.rc, .slice a.tq m.table.length a.tc, .slice a.so m.snaps.length a.sc, .slice a.dq m.data.length a.dc] 29)).alloc (.cells #[.int .i64 g] 3)).alloc (.cells #[.slice none 0 0, .slice none 0 0, .slice none 0 0, .slice none 0 0] 29)) (w.heap.size + 1) g) := hide (by
    have h : VarN1 (((w.alloc (.cells #[.slice a.ro m.refs.length a.rc, .slice a.tq m.table.length a.tc, .slice a.so m.snaps.length a.sc, .slice a.dq m.data.length a.dc] 29)).alloc (.cells #[.int .i64 g] 3)).alloc (.cells #[.slice none 0 0, .slice none 0 0, .slice none 0 0, .slice none 0 0] 29)) (w.alloc (.cells #[.slice a.ro m.refs.length a.rc, .slice a.tq m.table.length a.tc, .slice a.so m.snaps.length a.sc, .slice a.dq m.data.length a.dc] 29)).heap.size g := (VarN1.new (w.alloc (.cells #[.slice a.ro m.refs.length a.rc, .slice a.tq m.table.length a.tc, .slice a.so m.snaps.length a.sc, .slice a.dq m.data.length a.dc] 29)) g).below (Joins.below_alloc1 _ _)
    simp only [World.size_alloc] at h
    exact h)
  have HL := hide hL
  obtain ⟨R, HR⟩ : ∃ R, Hid (R = zcA m g) := ⟨_, rfl⟩
  rw [← unhide HR]
  clear hc hL
  go_enter Try.func19, Try.ntmps19
  go_upto_region 1 with fail
  revert HE HX0
  generalize (((w.alloc _).alloc _).alloc _) = W0
  intro HE HX0
  obtain ⟨c0, c1, c2, c3⟩ := (unhide HE).v.cells
  go_wp2_with fail
  refine (changeImage_any a m 48 #[.pointer (some ⟨w.heap.size + 1, 0, none⟩)] (zc1 m g) (zcC m g) _ (unhide HL) (unhide HE).s (fun _ _ => rfl) (fun him => ⟨zc_fit g (imB_iff.1 him), fun W p B a1 ts1 h1 h2 h3 h4 _ => ?_⟩)).mono ?_
  · exact zeroC_any m g _ W p B a1 ts1 (imB_iff.1 him).M.t ((unhide HX0).below h1) (Nat.lt_of_lt_of_le (World.block_lt_of_cell? _ _ (unhide HX0)) h2) h3 h4
  · intro e w2 hans
    rw [zc_ans, ← unhide HR] at hans
    obtain ⟨b, ts, rfl, ho, hb⟩ := hans
    have HP := hide ((unhide HE).put hb ho)
    have HE2 := hide ((unhide HE).below hb)
    clear ho hb c0 c1 c2 c3
    obtain ⟨r0, r1, r2, r3⟩ := (unhide HE2).r.cells
    obtain ⟨z0, z1, z2, z3⟩ := (unhide HE2).r.free
    go_wp2
    refine bodyPost_ret (res_ic Try.results19 rfl rfl (unhide HP).1) rfl ?_
    exact AnsI.of rfl rfl (unhide HP).2.1 (unhide HP).2.2

end Go.Proofs.Ytjoafbkcnnhdiac

namespace Go.Proofs.Ytjoafbkcnnhdiac
open Go.RowKit
set_option linter.unusedVariables false
set_option maxRecDepth 100000

theorem OwnIm.freshT {w w' : World} {B c : Nat} {q : Option Addr} {a : Im4} {m : Img} {ts : List Value} {t : List Int} (h : OwnIm w B a m ts) (hb : Below w.heap.size w w') (hv : OwnN w' w.heap.size (.slice q t.length c) t) (hB : B ≤ w.heap.size) : OwnIm w' B { a with tq := q, tc := c } { m with table := t } ts := by
  refine ⟨h.len, h.s.below hb, ?_⟩
  have h1 := h.rows.below hb
  have hold : ∀ r ∈ imRows a m ts, ∀ g, Own r.1 g → ¬ Own (.slice q t.length c) g := fun r hr g hg hg' => by
    have k1 := ((h.rows.own r hr).ge g hg).2
    have k2 := (hv.ge g hg').1
    omega
  unfold imRows at h1 hold ⊢
  simp only
  have hp := h1.apart
  rw [List.pairwise_cons, List.pairwise_cons] at hp
  obtain ⟨p0, p1, p2⟩ := hp
  refine ⟨fun r hr => ?_, ?_⟩
  · simp only [List.mem_cons] at hr
    rcases hr with rfl | rfl | hr
    · exact h1.own _ (by simp)
    · exact hv.base hB
    · exact h1.own r (by simp only [List.mem_cons]; exact .inr (.inr hr))
  · rw [List.pairwise_cons, List.pairwise_cons]
    refine ⟨fun r hr => ?_, fun r hr g hg hg' => ?_, p2⟩
    · rw [List.mem_cons] at hr
      rcases hr with rfl | hr
      · exact hold (.slice a.ro m.refs.length a.rc, m.refs) (by simp)
      · exact p0 r (List.mem_cons_of_mem _ hr)
    · exact hold r (by simp only [List.mem_cons] at hr ⊢; exact .inr (.inr hr)) g hg' hg
theorem Hld.freshT {W W' : World} {p B c : Nat} {q : Option Addr} {a : Im4} {m : Img} {ts : List Value} {t : List Int} (h : Hld W p B a m ts) (hb : Below W.heap.size W W') (hv : OwnN W' W.heap.size (.slice q t.length c) t) (hB : B ≤ W.heap.size) : Hld (W'.setCell ⟨p, 1, none⟩ (.slice q t.length c)) p B { a with tq := q, tc := c } { m with table := t } ts ∧ Below B W (W'.setCell ⟨p, 1, none⟩ (.slice q t.length c)) := by
  have h1 := h.below hb
  have ho := h.o.freshT hb hv hB
  have hk : Keep (fun g => g = p) W' (W'.setCell ⟨p, 1, none⟩ (.slice q t.length c)) := (Keep.refl (fun g => g = p) W').setCell (p := ⟨p, 1, none⟩) rfl _
  exact ⟨⟨h1.v.set1 _, ho.keep hk (fun g hg e => ho.other h1.v (e ▸ hg)), h.p⟩, (hb.mono hB).trans (hk.below (Nat.le_trans hB hb.size) (fun g e => by have := h.p; omega))⟩

def rs1 (m : Img) (n : Int) : Img := if betw n 0 12 = true then { m with table := rzTo m.table n.toNat } else m
def rsC (m : Img) (n : Int) : Int := if betw n 0 12 = true then 0 else 4
theorem rs_fit {m : Img} (n : Int) (h : ImR m) : FitR (rs1 m n) := by
  unfold rs1
  by_cases hn : betw n 0 12 = true
  · rw [if_pos hn]
    obtain ⟨l0, l1⟩ := betw_iff.1 hn
    exact h.fitT (d := m.data) (tbB_rz h.table (by omega)) h.len
  · rw [if_neg hn]
    exact h.fitR
theorem rs_ans {m : Img} (n : Int) : (if imB m = true then (imFit (rs1 m n), rsC m n) else (im0, 1)) = rsA' m n := by
  refine ans_eq (fun h => ?_) (fun h => by rw [rsA', h]; rfl)
  have hR := imB_iff.1 h
  rw [rsA', if_pos h]
  unfold rs1 rsC
  by_cases hg : betw n 0 12 = true
  · rw [if_pos hg, if_pos hg, if_pos hg]
    obtain ⟨l0, l1⟩ := betw_iff.1 hg
    exact ⟨fit_resize hR (by omega), rfl⟩
  · rw [if_neg hg, if_neg hg, if_neg hg]
    exact ⟨fit_self hR, rfl⟩

set_option maxHeartbeats 1600000 in
theorem resizeC_any (m : Img) (n : Int) (x : Nat) (W : World) (p B : Nat) (a : Im4) (ts : List Value) (hR : ImR m) (hx : VarN1 W x n) (hxB : x < B) (hB : B ≤ W.heap.size) (hh : Hld W p B a m ts) :
    Calls Try.prog 39 #[.pointer (some ⟨p, 0, none⟩), .pointer (some ⟨x, 0, none⟩)] W fun e W' => Chg W W' p B e (rsC m n) (rs1 m n) := by
  have HH := hide hh
  have HT := hide (hh.o.shows hR.M.zs).t
  have HL := hide hR.M.L.t
  have hx' : W.cell? ⟨x, 0, none⟩ = some (.int .i64 n) := hx
  obtain ⟨c0, c1, c2, c3⟩ := hh.v.cells
  have hpl := hh.v.lt
  have hxl := World.block_lt_of_cell? _ _ hx
  have HRZ := hide (rz_cases m.table n)
  have hTF := tbF_ok hR.table
  have HTF := hide hTF
  have HCAL : Hid (∀ W1, Below W.heap.size W W1 → Calls Try.prog 40 #[.slice a.tq m.table.length a.tc, .int .i64 n] W1 fun e w' => ∃ vo vc, e = .returned (.tuple #[.slice vo (rzL m.table n).length vc, .int .i64 (rzF m.table n)]) ∧ OwnN w' W.heap.size (.slice vo (rzL m.table n).length vc) (rzL m.table n) ∧ Below W.heap.size W w') := hide (fun W1 hW => (resizeTable_impl a.tq a.tc m.table n W1 (unhide HL) ((unhide HT).below hW)).mono fun e w' ⟨v, h1, h2, h3⟩ => by obtain ⟨vo, vc, rfl, _⟩ := id h2; exact ⟨vo, vc, h1, h2.base hW.size, fr hW h3⟩)
  clear hh hx hR hTF
  generalize rzL m.table n = L at *
  generalize rzF m.table n = F at *
  go_enter Try.func39, Try.ntmps39
  go_upto_region 1 with fail
  go_region_held3 (fun w' => w'.cell? ⟨p, 1, none⟩ = some (.slice a.tq m.table.length a.tc) ∧ w'.cell? ⟨x, 0, none⟩ = some (.int .i64 n)) (go_keep) ((go_at_call 40; refine (unhide HCAL _ (Below.refl _ _).drew).mono ?_; rintro e w3 ⟨vo, vc, rfl, ho3, hb3⟩; have k1 := (hb3.cell (p := ⟨p, 1, none⟩) hpl).trans c1; have k2 := (hb3.cell (p := ⟨x, 0, none⟩) hxl).trans hx'; have HN3 := hide (And.intro hb3 ho3); clear hb3 ho3))
  clear k1 k2 c0 c1 c2 c3 hx'
  have HH3 := hide ((unhide HH).below (unhide HN3).1)
  rcases unhide HRZ with ⟨hf, _⟩ | ⟨hb, hg, eF, eL⟩ | ⟨hb, q, rfl, hq, eF, eL⟩
  · exact absurd (unhide HTF) hf
  · have HE : Hid (rsC m n = 4 ∧ rs1 m n = m) := hide ⟨by rw [rsC, hg]; rfl, by rw [rs1, hg]; rfl⟩
    subst eF
    clear eL hg
    go_wp2
    go_ret
    rw [(unhide HE).1, (unhide HE).2]
    exact Chg.same 4 (unhide HH) hB (unhide HN3).1
  · have hg : betw (q : Int) 0 12 = true := betw_iff.2 ⟨by omega, by omega⟩
    have HE : Hid (rsC m (q : Int) = 0 ∧ rs1 m (q : Int) = { m with table := L }) := hide ⟨by rw [rsC, hg]; rfl, by rw [rs1, if_pos hg, Int.toNat_natCast, eL]⟩
    have HS := hide ((unhide HH).freshT (unhide HN3).1 (unhide HN3).2 hB)
    subst eF
    clear eL hg
    obtain ⟨c0, c1, c2, c3⟩ := (unhide HH3).v.cells
    obtain ⟨z0, z1, z2, z3⟩ := (unhide HH3).v.free
    go_wp2
    go_ret
    rw [(unhide HE).1, (unhide HE).2]
    exact ⟨rfl, _, _, (unhide HS).1, (unhide HS).2⟩

set_option maxHeartbeats 1600000 in
theorem resizeImage_impl (a : Im4) (m : Img) (n : Int) (w : World) (hL : ImL m) (hc : ImS w a m) :
    Calls Try.prog 14 #[imV a m, .int .i64 n] w fun e w' => AnsI w w' e (rsA' m n) := by
  have hmf : ∀ (fn : Fn) (first cap : Array Value) (w : World), (Instr.makeFunc fn first cap).run Try.prog w = .ok (.func fn first cap) w := fun _ _ _ _ => rfl
  have HE : Hid (FcE w (((w.alloc (.cells #[.slice a.ro m.refs.length a.rc, .slice a.tq m.table.length a.tc, .slice a.so m.snaps.length a.sc, .slice a.dq m.data.length a.dc] 29)).alloc (.cells #[.int .i64 n] 3)).alloc (.cells #[.slice none 0 0, .slice none 0 0, .slice none 0 0, .slice none 0 0] 29)) (w.heap.size + 1 + 1) a m) := hide (by
    refine ⟨?_, ?_, hc.below (fr (fr (Joins.below_alloc1 w _) (Joins.below_alloc1 _ _)) (Joins.below_alloc1 _ _)), fr (fr (Joins.below_alloc1 w _) (Joins.below_alloc1 _ _)) (Joins.below_alloc1 _ _), by omega, by simp⟩
    · exact ((VarM.new w 29 (.slice a.ro m.refs.length a.rc) (.slice a.tq m.table.length a.tc) (.slice a.so m.snaps.length a.sc) (.slice a.dq m.data.length a.dc)).below (Joins.below_alloc1 _ _)).below (Joins.below_alloc1 _ _)
    · have h := VarM.new ((w.alloc (.cells #[.slice a.ro m.refs.length a.rc, .slice a.tq m.table.length a.tc, .slice a.so m.snaps.length a.sc, .slice a.dq m.data.length a.dc] 29)).alloc (.cells #[.int .i64 n] 3)) 29 (.slice none 0 0) (.slice none 0 0) (.slice none 0 0) (.slice none 0 0)
      simp only [World.size_alloc] at h
      exact h)
  have HX0 : Hid (VarN1 (((w.alloc (.cells #[.slice a.ro m.refs.length a.rc, .slice a.tq m.table.length a.tc, .slice a.so m.snaps.length a.sc, .slice a.dq m.data.length a.dc] 29)).alloc (.cells #[.int .i64 n] 3)).alloc (.cells #[.slice none 0 0, .slice none 0 0, .slice none 0 0, .slice none 0 0] 29)) (w.heap.size + 1) n) := hide (by
    have h : VarN1 (((w.alloc (.cells #[.slice a.ro m.refs.length a.rc, .slice a.tq m.table.length a.tc, .slice a.so m.snaps.length a.sc, .slice a.dq m.data.length a.dc] 29)).alloc (.cells #[.int .i64 n] 3)).alloc (.cells #[.slice none 0 0, .slice none 0 0, .slice none 0 0, .slice none 0 0] 29)) (w.alloc (.cells #[.slice a.ro m.refs.length a.rc, .slice a.tq m.table.length a.tc, .slice a.so m.snaps.length a.sc, .slice a.dq m.data.length a.dc] 29)).heap.size n := (VarN1.new (w.alloc (.cells #[.slice a.ro m.refs.length a.rc, .slice a.tq m.table.length a.tc, .slice a.so m.snaps.length a.sc, .slice a.dq m.data.length a.dc] 29)) n).below (Joins.below_alloc1 _ _)
    simp only [World.size_alloc] at h
    exact h)
  have HL := hide hL
  obtain ⟨R, HR⟩ : ∃ R, Hid (R = rsA' m n) := ⟨_, rfl⟩
  rw [← unhide HR]
  clear hc hL
  go_enter Try.func14, Try.ntmps14
  go_upto_region 1 with fail
  revert HE HX0
  generalize (((w.alloc _).alloc _).alloc _) = W0
  intro HE HX0
  obtain ⟨c0, c1, c2, c3⟩ := (unhide HE).v.cells
  go_wp2_with fail
  refine (changeImage_any a m 39 #[.pointer (some ⟨w.heap.size + 1, 0, none⟩)] (rs1 m n) (rsC m n) _ (unhide HL) (unhide HE).s (fun _ _ => rfl) (fun him => ⟨rs_fit n (imB_iff.1 him), fun W p B a1 ts1 h1 h2 h3 h4 _ => ?_⟩)).mono ?_
  · exact resizeC_any m n _ W p B a1 ts1 (imB_iff.1 him) ((unhide HX0).below h1) (Nat.lt_of_lt_of_le (World.block_lt_of_cell? _ _ (unhide HX0)) h2) h3 h4
  · intro e w2 hans
    rw [rs_ans, ← unhide HR] at hans
    obtain ⟨b, ts, rfl, ho, hb⟩ := hans
    have HP := hide ((unhide HE).put hb ho)
    have HE2 := hide ((unhide HE).below hb)
    clear ho hb c0 c1 c2 c3
    obtain ⟨r0, r1, r2, r3⟩ := (unhide HE2).r.cells
    obtain ⟨z0, z1, z2, z3⟩ := (unhide HE2).r.free
    go_wp2
    refine bodyPost_ret (res_ic Try.results14 rfl rfl (unhide HP).1) rfl ?_
    exact AnsI.of rfl rfl (unhide HP).2.1 (unhide HP).2.2

end Go.Proofs.Ytjoafbkcnnhdiac

namespace Go.Proofs.Ytjoafbkcnnhdiac
open Go.RowKit
set_option linter.unusedVariables false
set_option maxRecDepth 100000

theorem once_cN {t : List Int} (h : tbB t = true) : (clA t).Nodup ↔ ∀ i, i < 24 → cN t i ≤ 1 := by
  constructor
  · intro hn i hi
    rw [← clA_count]
    by_cases hm : (i : Int) ∈ clA t
    · have := (nodup_count _).1 hn _ hm; omega
    · rw [List.count_eq_zero_of_not_mem hm]; omega
  · intro hc
    refine (nodup_count _).2 fun x hx => ?_
    obtain ⟨c0, c1⟩ := cl_mem h x hx
    obtain ⟨q, rfl⟩ := Int.eq_ofNat_of_zero_le c0
    have := hc q (by omega)
    rw [← clA_count] at this
    omega
structure PreR (m : Img) : Prop where
  few : m.snaps.length ≤ 3
  len : m.data.length = 24
  t : ∀ t ∈ imTabs m, tbB t = true
  once : ∀ t ∈ imTabs m, ∀ i, i < 24 → cN t i ≤ 1
  nm : ∀ s ∈ m.snaps, snmB s.name = true
  names : (m.snaps.map (·.name)).Nodup
  nums : ∀ n ∈ m.data, numB n = true
theorem sN_le {i : Nat} (hi : i < 24) : ∀ ts : List (List Int), (∀ t ∈ ts, ∀ i, i < 24 → cN t i ≤ 1) → sN ts i ≤ ts.length := by
  intro ts
  induction ts with
  | nil => intro _; exact Int.le_refl _
  | cons t ts ih =>
    intro h
    have h1 := h t (by simp) i hi
    have h2 := ih (fun x hx => h x (by simp [hx]))
    rw [sN_cons, List.length_cons]
    omega
theorem ctB_mk {xs : List Int} (hl : xs.length = 24) (h : ∀ i, i < 24 → 0 ≤ xs.getD i 0 ∧ xs.getD i 0 ≤ 15) : ctB xs = true := by
  unfold ctB
  simp only [Bool.and_eq_true, decide_eq_true_eq, List.all_eq_true]
  refine ⟨hl, fun x hx => ?_⟩
  obtain ⟨j, hj, rfl⟩ := List.mem_iff_getElem.1 hx
  have := h j (by omega)
  rw [show xs.getD j 0 = xs[j] by simp [List.getD, hj]] at this
  exact betw_iff.2 this
theorem PreR.fit {m : Img} (h : PreR m) : ImR (imFit m) := by
  have hlen : (imTabs m).length ≤ 4 := by rw [imTabs_len]; have := h.few; omega
  have hg : ∀ i, i < 24 → (imFit m).refs.getD i 0 = sN (imTabs m) i := fun i hi => cnt_get h.t hi
  refine ⟨ctB_mk (imCnt_len m) (fun i hi => ?_), h.t _ (by simp [imTabs, imFit]), h.few, by simp [imFit], fun s hs => ⟨h.nm s hs, h.t _ (by unfold imTabs; exact List.mem_cons_of_mem _ (List.mem_map.2 ⟨s, hs, rfl⟩))⟩, h.names, fun n hn => ?_, fun t ht => (once_cN (h.t t ht)).2 (h.once t ht), rfl, fun i hi hz => ?_⟩
  · have h1 := sN_le hi _ h.once
    have h2 := sN_nn (imTabs m) i
    rw [hg i hi]
    omega
  · unfold imFit at hn
    simp only at hn
    obtain ⟨i, hi, rfl⟩ := List.mem_map.1 hn
    have hi' := List.mem_range.1 hi
    split
    · rfl
    · rw [show m.data.getD i 0 = m.data[i]'(by rw [h.len]; exact hi') by simp [List.getD, h.len, hi']]
      exact h.nums _ (List.getElem_mem _)
  · unfold imFit
    simp only
    rw [range_getD hi]
    have hz' : (imCnt m).getD i 0 = 0 := hz
    rw [if_pos hz']
theorem ImR.pre {m : Img} (h : ImR m) : PreR m := ⟨h.few, h.len, h.tabs, fun t ht => (once_cN (h.tabs t ht)).1 (h.once t ht), fun s hs => (h.snaps s hs).1, h.names, h.nums⟩
theorem PreR.withT {m : Img} (h : PreR m) {t d : List Int} (ht : tbB t = true) (ho : ∀ i, i < 24 → cN t i ≤ 1) (hd : d.length = 24) (hn : ∀ n ∈ d, numB n = true) : PreR { m with table := t, data := d } := by
  have hm : ∀ x ∈ imTabs { m with table := t, data := d }, x = t ∨ x ∈ imTabs m := fun x hx => by
    have hx' : x ∈ t :: m.snaps.map (·.table) := hx
    rw [List.mem_cons] at hx'
    rcases hx' with rfl | hx'
    · exact .inl rfl
    · exact .inr (by unfold imTabs; exact List.mem_cons_of_mem _ hx')
  refine ⟨h.few, hd, fun x hx => ?_, fun x hx => ?_, h.nm, h.names, hn⟩
  · rcases hm x hx with rfl | h1
    · exact ht
    · exact h.t x h1
  · rcases hm x hx with rfl | h1
    · exact ho
    · exact h.once x h1
theorem nums_set {d : List Int} (h : ∀ n ∈ d, numB n = true) (c : Nat) {v : Int} (hv : numB v = true) : ∀ n ∈ d.set c v, numB n = true := fun n hn => by
  rcases List.mem_or_eq_of_mem_set hn with h1 | rfl
  · exact h n h1
  · exact hv
theorem ImR.cN_le {m : Img} (h : ImR m) : ∀ i, i < 24 → cN m.table i ≤ 1 := h.pre.once _ (by simp [imTabs])
theorem ImR.zero {m : Img} (h : ImR m) {g : Nat} (hg : g < m.table.length) : ImR (imZero m g) := by
  rw [← fit_zero h hg]
  refine (h.pre.withT (d := m.data) (tbB_set h.table g (by omega) (by omega)) (fun i hi => ?_) h.len h.nums).fit
  have := h.cN_le i hi
  rw [cN_set hg, if_neg (show ¬ (1 : Int) = (i : Int) + 2 by omega)]
  split <;> omega
theorem ImR.resize {m : Img} (h : ImR m) {n : Nat} (hn : n ≤ 12) : ImR (imResize m n) := by
  rw [← fit_resize h hn]
  refine (h.pre.withT (d := m.data) (tbB_rz h.table hn) (fun i hi => ?_) h.len h.nums).fit
  have h1 := h.cN_le i hi
  have e2 : cN m.table i = cN (m.table.take n) i + cN (m.table.drop n) i := by rw [← cN_append, List.take_append_drop]
  have := cN_nn (m.table.drop n) i
  rw [cN_rz]; omega
theorem ImR.write {m : Img} (h : ImR m) {g : Nat} (hg : g < m.table.length) {v : Int} (hv : numB v = true) : ImR (imWrite m g v).1 := by
  have hb := tbB_at h.table g hg
  by_cases h1 : 2 ≤ m.table[g] ∧ m.refs.getD (m.table[g] - 2).toNat 0 = 1
  · have hc : m.table[g] = (((m.table[g] - 2).toNat : Nat) : Int) + 2 := by omega
    have hr : (m.table[g] - 2).toNat < m.refs.length := by rw [h.rl]; omega
    have h1' : m.refs[(m.table[g] - 2).toNat] = 1 := by have := h1.2; simpa [List.getD, hr] using this
    rw [imWrite_in hg hc hr h1']
    rw [← fit_in h v hg hc h1.2]
    have hset : m.table.set g (2 + ((m.table[g] - 2).toNat : Int)) = m.table := by
      rw [show (2 : Int) + ((m.table[g] - 2).toNat : Int) = m.table[g] by omega]
      exact List.set_getElem_self hg
    rw [hset]
    exact (h.pre.withT h.table h.cN_le (by simp [h.len]) (nums_set h.nums _ hv)).fit
  · rw [imWrite_out hg h1]
    by_cases h2 : frN m.refs < m.refs.length
    · rw [if_pos h2]
      have hc24 : frN m.refs < 24 := by rw [h.rl] at h2; exact h2
      have h0 := free_spec h2
      rw [← fit_out h v hg hc24 h0]
      refine (h.pre.withT (tbB_set h.table g (by omega) (by omega)) (fun i hi => ?_) (by simp [h.len]) (nums_set h.nums _ hv)).fit
      have h3 := h.cN_le i hi
      rw [cN_set hg]
      by_cases hci : frN m.refs = i
      · have h4 : cN m.table i ≤ 0 := by
          have := h.cntA hi
          have := sN_nn (m.snaps.map (·.table)) i
          rw [sN_tabs] at *
          rw [hci] at h0
          omega
        have := cN_nn m.table i
        split <;> split <;> omega
      · rw [if_neg (show ¬ (2 : Int) + (frN m.refs : Int) = (i : Int) + 2 by omega)]
        split <;> omega
    · rw [if_neg h2]; exact h

theorem sN_append (s t : List (List Int)) (i : Nat) : sN (s ++ t) i = sN s i + sN t i := by unfold sN; rw [List.map_append, List.sum_append]
theorem raise_get {m : Img} {t : List Int} (hr : m.refs.length = 24) (ht : tbB t = true) {i : Nat} (hi : i < 24) : (imRaise m t).refs.getD i 0 = m.refs.getD i 0 + cN t i := by
  rw [← clA_count]
  exact fold_incr_get i hi _ (cl_mem ht) _ hr
theorem raise_len (m : Img) (t : List Int) : (imRaise m t).refs.length = m.refs.length := cnt1T_len t m.refs
theorem fit_create {m : Img} (h : ImR m) (name : ByteArray) : imFit { m with snaps := m.snaps ++ [⟨name, m.table⟩] } = { imRaise m m.table with snaps := m.snaps ++ [⟨name, m.table⟩] } := by
  have hcs : ∀ i, sN (imTabs { m with snaps := m.snaps ++ [⟨name, m.table⟩] }) i = sN (imTabs m) i + cN m.table i := fun i => by
    have e : sN (imTabs { m with snaps := m.snaps ++ [⟨name, m.table⟩] }) i = cN m.table i + sN (List.map (fun s : Snp => s.table) (m.snaps ++ [⟨name, m.table⟩])) i := rfl
    have e2 : sN [m.table] i = cN m.table i := by rw [sN_cons]; simp [sN]
    rw [e, List.map_append, sN_append, sN_tabs]
    show _ + (_ + sN [m.table] i) = _
    rw [e2]; omega
  have ht : ∀ t ∈ imTabs { m with snaps := m.snaps ++ [⟨name, m.table⟩] }, tbB t = true := fun t ht => by
    have ht' : t ∈ m.table :: List.map (fun s : Snp => s.table) (m.snaps ++ [⟨name, m.table⟩]) := ht
    simp only [List.map_append, List.mem_cons, List.mem_append, List.map_cons, List.map_nil, List.not_mem_nil, or_false] at ht'
    rcases ht' with rfl | ht' | rfl
    · exact h.table
    · exact h.tabs t (by unfold imTabs; exact List.mem_cons_of_mem _ ht')
    · exact h.table
  refine fit_eq (n := { imRaise m m.table with snaps := m.snaps ++ [⟨name, m.table⟩] }) ht (by show (imRaise m m.table).refs.length = 24; rw [raise_len]; exact h.rl) h.len rfl rfl (fun i hi => ?_) (fun i hi => ?_)
  · show (imRaise m m.table).refs.getD i 0 = _
    rw [raise_get h.rl h.table hi, hcs, h.cntA hi]
  · show m.data.getD i 0 = if _ then 0 else m.data.getD i 0
    rw [hcs, ← h.cntA hi]
    have h1 := cN_nn m.table i
    have h2 := sN_nn (imTabs m) i
    rw [← h.cntA hi] at h2
    by_cases hz : m.refs.getD i 0 + cN m.table i = 0
    · rw [if_pos hz, h.clear i hi (by omega)]
    · rw [if_neg hz]
theorem sN_erase {ts : List (List Int)} (i : Nat) : ∀ {k : Nat} (hk : k < ts.length), sN (ts.eraseIdx k) i = sN ts i - cN ts[k] i := by
  induction ts with
  | nil => intro k hk; simp at hk
  | cons t ts ih =>
    intro k hk
    cases k with
    | zero => simp only [List.eraseIdx_cons_zero, List.getElem_cons_zero, sN_cons]; omega
    | succ k =>
      have := ih (k := k) (by simpa using hk)
      simp only [List.eraseIdx_cons_succ, List.getElem_cons_succ, sN_cons, this]; omega
theorem cN_le_sN {ts : List (List Int)} (i : Nat) {k : Nat} (hk : k < ts.length) : cN ts[k] i ≤ sN ts i := by
  have h1 := sN_erase (ts := ts) i hk
  have h2 := sN_nn (ts.eraseIdx k) i
  omega
theorem map_eraseA {α : Type} (f : Snp → α) : ∀ (ss : List Snp) (k : Nat), (ss.eraseIdx k).map f = (ss.map f).eraseIdx k
  | [], k => by simp
  | s :: ss, 0 => rfl
  | s :: ss, k + 1 => by simp only [List.eraseIdx_cons_succ, List.map_cons, map_eraseA f ss k]
theorem map_erase {k : Nat} (ss : List Snp) : (ss.eraseIdx k).map (·.table) = (ss.map (·.table)).eraseIdx k := map_eraseA _ ss k
theorem fit_delete {m : Img} (h : ImR m) {k : Nat} (hk : k < m.snaps.length) : imFit { m with snaps := m.snaps.eraseIdx k } = { imDrops m m.snaps[k].table with snaps := m.snaps.eraseIdx k } := by
  have hk' : k < (m.snaps.map (·.table)).length := by simpa using hk
  have ek : (m.snaps.map (·.table))[k] = m.snaps[k].table := by simp
  have hcs : ∀ i, sN (imTabs { m with snaps := m.snaps.eraseIdx k }) i = sN (imTabs m) i - cN m.snaps[k].table i := fun i => by
    have e : sN (imTabs { m with snaps := m.snaps.eraseIdx k }) i = cN m.table i + sN ((m.snaps.eraseIdx k).map (·.table)) i := rfl
    rw [e, map_erase, sN_erase i hk', ek, sN_tabs]; omega
  have ht : ∀ t ∈ imTabs { m with snaps := m.snaps.eraseIdx k }, tbB t = true := fun t ht => by
    have ht' : t ∈ m.table :: (m.snaps.eraseIdx k).map (·.table) := ht
    rw [List.mem_cons, map_erase] at ht'
    rcases ht' with rfl | ht'
    · exact h.table
    · exact h.tabs t (by unfold imTabs; exact List.mem_cons_of_mem _ (List.mem_of_mem_eraseIdx ht'))
  obtain ⟨l1, l2, l3, l4⟩ := drops_lens m m.snaps[k].table
  have hle : ∀ i, i < 24 → cN m.snaps[k].table i ≤ m.refs.getD i 0 := fun i hi => by
    have h1 := cN_le_sN i hk'
    have h2 := cN_nn m.table i
    rw [ek] at h1
    rw [h.cntA hi, sN_tabs]; omega
  refine fit_eq (n := { imDrops m m.snaps[k].table with snaps := m.snaps.eraseIdx k }) ht (l1.trans h.rl) (l2.trans h.len) l3.symm rfl (fun i hi => ?_) (fun i hi => ?_)
  · show (imDrops m _).refs.getD i 0 = _
    rw [(drops_get hi _ m h.rl h.len).1, hcs, h.cntA hi]
  · show (imDrops m _).data.getD i 0 = _
    rw [drops_fit h _ hi (hle i hi), hcs, h.cntA hi]
theorem fit_revert {m : Img} (h : ImR m) {k : Nat} (hk : k < m.snaps.length) : imFit { m with table := m.snaps[k].table } = { imDrops (imRaise m m.snaps[k].table) m.table with table := m.snaps[k].table } := by
  have hk' : k < (m.snaps.map (·.table)).length := by simpa using hk
  have ek : (m.snaps.map (·.table))[k] = m.snaps[k].table := by simp
  have htk : tbB m.snaps[k].table = true := (h.snaps _ (List.getElem_mem hk)).2
  have hcs : ∀ i, sN (imTabs { m with table := m.snaps[k].table }) i = cN m.snaps[k].table i + sN (m.snaps.map (·.table)) i := fun i => rfl
  obtain ⟨l1, l2, l3, l4⟩ := drops_lens (imRaise m m.snaps[k].table) m.table
  have hrl : (imRaise m m.snaps[k].table).refs.length = 24 := (raise_len _ _).trans h.rl
  refine fit_eq (n := { imDrops (imRaise m m.snaps[k].table) m.table with table := m.snaps[k].table }) (tabs_with h htk m.data) (l1.trans hrl) (l2.trans h.len) rfl l4.symm (fun i hi => ?_) (fun i hi => ?_)
  · show (imDrops (imRaise m m.snaps[k].table) m.table).refs.getD i 0 = _
    rw [(drops_get hi _ _ hrl h.len).1, raise_get h.rl htk hi, hcs, h.cntA hi, sN_tabs]; omega
  · show (imDrops (imRaise m m.snaps[k].table) m.table).data.getD i 0 = if _ then 0 else m.data.getD i 0
    have h1 := cN_le_sN i hk'
    rw [ek] at h1
    have h2 := cN_nn m.snaps[k].table i
    have h3 := cN_nn m.table i
    have h4 := h.cntA hi
    rw [sN_tabs] at h4
    rw [(drops_get hi _ _ hrl h.len).2, raise_get h.rl htk hi, hcs]
    have ed : (imRaise m m.snaps[k].table).data.getD i 0 = m.data.getD i 0 := rfl
    rw [ed]
    by_cases hz : cN m.snaps[k].table i + sN (m.snaps.map (·.table)) i = 0
    · rw [if_pos hz]
      by_cases hr : m.refs.getD i 0 = 0
      · rw [if_neg (by omega), h.clear i hi hr]
      · rw [if_pos (by omega)]
    · rw [if_neg hz, if_neg (by omega)]
theorem ImR.create {m : Img} (h : ImR m) (name : ByteArray) : ImR (imCreate m name).1 := by
  unfold imCreate
  split
  · rename_i hn
    split
    · exact h
    · rename_i hf
      split
      · exact h
      · rename_i h3
        show ImR { imRaise m m.table with snaps := m.snaps ++ [⟨name, m.table⟩] }
        rw [← fit_create h name]
        refine PreR.fit ⟨?_, h.len, fun t ht => ?_, fun t ht => ?_, fun s hs => ?_, ?_, h.nums⟩
        · have := h.few
          simp only [List.length_append, List.length_singleton]; omega
        · have ht' : t ∈ m.table :: List.map (fun s : Snp => s.table) (m.snaps ++ [⟨name, m.table⟩]) := ht
          simp only [List.map_append, List.mem_cons, List.mem_append, List.map_cons, List.map_nil, List.not_mem_nil, or_false] at ht'
          rcases ht' with rfl | ht' | rfl
          · exact h.table
          · exact h.tabs t (by unfold imTabs; exact List.mem_cons_of_mem _ ht')
          · exact h.table
        · have ht' : t ∈ m.table :: List.map (fun s : Snp => s.table) (m.snaps ++ [⟨name, m.table⟩]) := ht
          simp only [List.map_append, List.mem_cons, List.mem_append, List.map_cons, List.map_nil, List.not_mem_nil, or_false] at ht'
          rcases ht' with rfl | ht' | rfl
          · exact h.cN_le
          · exact h.pre.once t (by unfold imTabs; exact List.mem_cons_of_mem _ ht')
          · exact h.cN_le
        · simp only [List.mem_append, List.mem_singleton] at hs
          rcases hs with hs | rfl
          · exact (h.snaps s hs).1
          · exact hn
        · rw [List.map_append, List.nodup_append]
          refine ⟨h.names, by simp, ?_⟩
          intro a ha b hb
          simp only [List.map_cons, List.map_nil, List.mem_singleton] at hb
          subst hb
          rintro rfl
          obtain ⟨s, hs, e⟩ := List.mem_map.1 ha
          apply hf
          unfold imFind
          rw [List.findIdx_lt_length]
          exact ⟨s, hs, by simp [e]⟩
  · exact h
theorem ImR.delete {m : Img} (h : ImR m) (name : ByteArray) : ImR (imDelete m name).1 := by
  unfold imDelete
  split
  · rename_i hf
    have e : (m.snaps[imFind m name]?).elim [] (·.table) = m.snaps[imFind m name].table := by rw [List.getElem?_eq_getElem hf]; rfl
    rw [e]
    show ImR { imDrops m m.snaps[imFind m name].table with snaps := m.snaps.eraseIdx (imFind m name) }
    rw [← fit_delete h hf]
    refine PreR.fit ⟨?_, h.len, fun t ht => ?_, fun t ht => ?_, fun s hs => (h.snaps s (List.mem_of_mem_eraseIdx hs)).1, ?_, h.nums⟩
    · have := h.few
      simp only [List.length_eraseIdx]; split <;> omega
    · have ht' : t ∈ m.table :: (m.snaps.eraseIdx (imFind m name)).map (·.table) := ht
      rw [List.mem_cons, map_erase] at ht'
      rcases ht' with rfl | ht'
      · exact h.table
      · exact h.tabs t (by unfold imTabs; exact List.mem_cons_of_mem _ (List.mem_of_mem_eraseIdx ht'))
    · have ht' : t ∈ m.table :: (m.snaps.eraseIdx (imFind m name)).map (·.table) := ht
      rw [List.mem_cons, map_erase] at ht'
      rcases ht' with rfl | ht'
      · exact h.cN_le
      · exact h.pre.once t (by unfold imTabs; exact List.mem_cons_of_mem _ (List.mem_of_mem_eraseIdx ht'))
    · show ((m.snaps.eraseIdx (imFind m name)).map (·.name)).Nodup
      rw [map_eraseA]
      exact h.names.sublist (List.eraseIdx_sublist _ _)
  · exact h
theorem ImR.revert {m : Img} (h : ImR m) (name : ByteArray) : ImR (imRevert m name).1 := by
  unfold imRevert
  split
  · rename_i hf
    have e : (m.snaps[imFind m name]?).elim [] (·.table) = m.snaps[imFind m name].table := by rw [List.getElem?_eq_getElem hf]; rfl
    rw [e]
    show ImR { imDrops (imRaise m m.snaps[imFind m name].table) m.table with table := m.snaps[imFind m name].table }
    rw [← fit_revert h hf]
    have htk := (h.snaps _ (List.getElem_mem hf)).2
    exact (h.pre.withT (d := m.data) htk (h.pre.once _ (by unfold imTabs; exact List.mem_cons_of_mem _ (List.mem_map.2 ⟨_, List.getElem_mem hf, rfl⟩))) h.len h.nums).fit
  · exact h
theorem ImR.new {n : Nat} (hn : n ≤ 12) : ImR (imNew n) := by
  have hrep : ∀ i (hi : i < (List.replicate n (0 : Int)).length), (List.replicate n (0 : Int))[i] = 0 := fun i hi => by simp
  have ht : tbB (List.replicate n (0 : Int)) = true := tbB_of (by simpa using hn) (fun i hi => by rw [hrep]; rfl)
  have hc : ∀ i, cN (List.replicate n (0 : Int)) i = 0 := fun i => by
    unfold cN
    rw [List.count_eq_zero_of_not_mem (fun h => by have := List.eq_of_mem_replicate h; omega)]; rfl
  have hp : PreR (imNew n) := ⟨by simp [imNew], rfl, fun t h => (by simp only [imTabs, imNew, List.map_nil, List.mem_singleton] at h; subst h; exact ht), fun t h => (by simp only [imTabs, imNew, List.map_nil, List.mem_singleton] at h; subst h; intro i _; rw [hc]; omega), fun s hs => (by cases hs), List.nodup_nil, (by show ∀ n ∈ zero24, numB n = true; decide)⟩
  have e : imFit (imNew n) = imNew n := by
    refine fit_eq hp.t rfl rfl rfl rfl (fun i hi => ?_) (fun i hi => ?_)
    · show zero24.getD i 0 = _
      rw [zero24_get hi, sN_tabs]
      show _ = cN (List.replicate n (0 : Int)) i + sN [] i
      rw [hc]; rfl
    · show zero24.getD i 0 = if _ then 0 else zero24.getD i 0
      rw [zero24_get hi]; simp
  rw [← e]
  exact hp.fit

end Go.Proofs.Ytjoafbkcnnhdiac

namespace Go.Proofs.Ytjoafbkcnnhdiac
open Go.RowKit
set_option linter.unusedVariables false
set_option maxRecDepth 100000

def imAt (m : Img) (g : Nat) : Int := imVal m (m.table.getD g 0)
theorem at_fit {m : Img} (ht : ∀ t ∈ imTabs m, tbB t = true) {g : Nat} (hg : g < m.table.length) : imAt (imFit m) g = imAt m g := by
  have hb := tbB_at (ht m.table (by simp [imTabs])) g hg
  have e : m.table.getD g 0 = m.table[g] := by simp [List.getD, hg]
  have e2 : (imFit m).table = m.table := rfl
  unfold imAt imVal
  rw [e2, e]
  by_cases h2 : m.table[g] < 2
  · rw [if_pos h2, if_pos h2]
  · rw [if_neg h2, if_neg h2]
    have hi : (m.table[g] - 2).toNat < 24 := by omega
    have hc : 1 ≤ cN m.table (m.table[g] - 2).toNat := cN_pos hg (by omega)
    have hs := sN_nn (m.snaps.map (·.table)) (m.table[g] - 2).toNat
    have hn : ¬ (imCnt m).getD (m.table[g] - 2).toNat 0 = 0 := by
      rw [cnt_get ht hi, sN_tabs]; omega
    unfold imFit
    simp only
    rw [range_getD hi, if_neg hn]
theorem rz_get (t : List Int) {n i : Nat} (hi : i < n) : (rzTo t n).getD i 0 = t.getD i 0 := by simp [rzTo, List.getD, hi]
theorem at_resize {m : Img} (h : ImR m) {n : Nat} (hn : n ≤ 12) {i : Nat} (hi : i < n) : imAt (imResize m n) i = if i < m.table.length then imAt m i else 0 := by
  rw [← fit_resize h hn, at_fit (tabs_with h (tbB_rz h.table hn) m.data) (by show i < (rzTo m.table n).length; rw [rzTo_len]; exact hi)]
  unfold imAt imVal
  simp only [rz_get m.table hi]
  by_cases hl : i < m.table.length
  · rw [if_pos hl]
  · rw [if_neg hl]
    have : m.table.getD i 0 = 0 := by simp [List.getD, List.getElem?_eq_none (Nat.le_of_not_lt hl)]
    rw [this]; rfl
theorem at_zero {m : Img} {g : Nat} (hg : g < m.table.length) : imAt (imZero m g) g = 0 := by
  have e : (imZero m g).table = m.table.set g 1 := by unfold imZero; simp only; rw [(imDrop_table m _).1]
  unfold imAt imVal
  rw [e, show (m.table.set g 1).getD g 0 = 1 by simp [List.getD, hg]]; rfl
theorem resize_len (m : Img) (n : Nat) : (imResize m n).table.length = n := rzTo_len m.table n
theorem zero_len (m : Img) (g : Nat) : (imZero m g).table.length = m.table.length := by unfold imZero; simp only [List.length_set]; rw [(imDrop_table m _).1]

end Go.Proofs.Ytjoafbkcnnhdiac

namespace Go.Proofs.Ytjoafbkcnnhdiac
open Go.RowKit
set_option linter.unusedVariables false
set_option maxRecDepth 100000

set_option maxHeartbeats 800000 in
theorem sameInts_any (ao bo : Option Addr) (ca cb : Nat) (ss tt : List Int) (w : World) (hl : ss.length ≤ maxLen) (hc : Is w ao ss) (hd : Is w bo tt) :
    Calls Try.prog 44 #[.slice ao ss.length ca, .slice bo tt.length cb] w fun e w' => e = .returned (.bool (eqNB ss tt)) ∧ Below w.heap.size w w' := by
  have HC := hide hc
  have HD := hide hd
  clear hc hd
  unfold maxLen at hl
  by_cases hle : ss.length = tt.length
  · have hb : ((ss.length : Int) != (tt.length : Int)) = false := by simp [hle]
    have HLE := hide hle
    clear hle
    go_enter Try.func44, Try.ntmps44
    go_wp2
    go_loopw [5] (fun i wr => ∃ k : Nat, k ≤ ss.length ∧ i = .int .i64 k ∧ Hid (∀ j (h : j < ss.length) (h' : j < tt.length), j < k → ss[j] = tt[j]) ∧ Hid (Below w.heap.size w wr)) (fun i _ => ss.length - (intOf i).toNat)
    case atStart => exact ⟨0, Nat.zero_le _, rfl, hide (fun j _ _ h => by omega), hide (Below.refl _ _)⟩
    case round =>
      obtain ⟨k, hk, rfl, HA, HB⟩ := hrel
      by_cases hlt : k < ss.length
      · have hlt' : k < tt.length := by rw [← unhide HLE]; exact hlt
        obtain ⟨b, off, rfl, hc⟩ := (unhide HC).below (unhide HB) k hlt
        obtain ⟨b', off', rfl, hc'⟩ := (unhide HD).below (unhide HB) k hlt'
        by_cases he : ss[k] = tt[k]
        · have HN := hide (eq_succ hlt hlt' (unhide HA) he)
          have be : (ss[k] != tt[k]) = false := by simp [he]
          clear he
          go_wp2
          go_quiet (fail)
          go_wp2
          go_roundw
          case rel => exact ⟨k + 1, by omega, by go_num, HN, hide ((unhide HB).trans (Joins.below_draws _ _ _))⟩
          case measure => simp [intOf]; omega
        · have H := hide (eqNB_false hlt hlt' he)
          have be : (ss[k] != tt[k]) = true := by simp [he]
          clear he
          go_wp2
          go_quiet (fail)
          go_wp2
          go_ret
          exact ⟨ret_bool (unhide H).symm, (unhide HB).trans (Joins.below_draws _ _ _)⟩
      · have H := hide (eqNB_true (unhide HLE) (fun j h h' => unhide HA j h h' (by omega)))
        go_wp2
        go_ret
        exact ⟨ret_bool (unhide H).symm, unhide HB⟩
  · have hb : ((ss.length : Int) != (tt.length : Int)) = true := by simp; omega
    have H := hide (eqNB_false_len hle)
    clear hle
    go_enter Try.func44, Try.ntmps44
    go_wp2
    go_ret
    exact ⟨ret_bool (unhide H).symm, Below.refl _ _⟩

end Go.Proofs.Ytjoafbkcnnhdiac

namespace Go.Proofs.Ytjoafbkcnnhdiac
open Go.RowKit
set_option linter.unusedVariables false
set_option maxRecDepth 100000

theorem sameNums_same (ao bo : Option Addr) (ca cb : Nat) (xs : List Int) (w : World) (hl : xs.length ≤ maxLen) (hc : Is w ao xs) (hd : Is w bo xs) :
    Calls Try.prog 44 #[.slice ao xs.length ca, .slice bo xs.length cb] w fun e w' => e = .returned (.bool true) ∧ Below w.heap.size w w' := by
  refine (sameInts_any ao bo ca cb xs xs w hl hc hd).mono ?_
  rintro e w' ⟨rfl, hb⟩
  rw [eqNB_self]
  exact ⟨rfl, hb⟩

set_option maxHeartbeats 800000 in
theorem sameInts_draws (ao bo : Option Addr) (ca cb : Nat) (ss : List Int) (w : World) (hl : ss.length ≤ maxLen) (hc : Is w ao ss) (hd : Is w bo ss) :
    Calls Try.prog 44 #[.slice ao ss.length ca, .slice bo ss.length cb] w fun e w' => e = .returned (.bool true) ∧ ∃ m, w' = w.drewN m := by
  have HC := hide hc
  have HD := hide hd
  clear hc hd
  unfold maxLen at hl
  have hb : ((ss.length : Int) != (ss.length : Int)) = false := by simp
  go_enter Try.func44, Try.ntmps44
  go_wp2
  go_loopw [5] (fun i wr => ∃ (k n : Nat), k ≤ ss.length ∧ i = .int .i64 k ∧ wr = w.drewN n) (fun i _ => ss.length - (intOf i).toNat)
  case atStart => exact ⟨0, 0, Nat.zero_le _, rfl, rfl⟩
  case round =>
    obtain ⟨k, n, hk, rfl, rfl⟩ := hrel
    by_cases hlt : k < ss.length
    · obtain ⟨b, off, rfl, hc⟩ := (unhide HC) k hlt
      obtain ⟨b', off', rfl, hc'⟩ := (unhide HD) k hlt
      generalize ss[k] = X at *
      go_wp2
      go_quiet (fail)
      go_wp2
      go_roundw
      case rel => exact ⟨k + 1, _, by omega, by go_num, rfl⟩
      case measure => simp [intOf]; omega
    · go_wp2
      go_ret
      exact ⟨rfl, n, rfl⟩

set_option maxHeartbeats 3200000 in
theorem sameImage_same (a b : Im4) (m : Img) (w : World) (hr : m.refs.length ≤ maxLen) (ht : m.table.length ≤ maxLen) (hs : m.snaps.length ≤ maxLen) (hd : m.data.length ≤ maxLen) (h1 : ImS w a m) (h2 : ImS w b m) :
    Calls Try.prog 16 #[imV a m, imV b m] w fun e w' => e = .returned (.bool true) ∧ Below w.heap.size w w' := by
  have HA := hide (Joins.below_alloc2 w (.cells #[.slice a.ro m.refs.length a.rc, .slice a.tq m.table.length a.tc, .slice a.so m.snaps.length a.sc, .slice a.dq m.data.length a.dc] 29) (.cells #[.slice b.ro m.refs.length b.rc, .slice b.tq m.table.length b.tc, .slice b.so m.snaps.length b.sc, .slice b.dq m.data.length b.dc] 29))
  have HV : Hid (((w.alloc (.cells #[.slice a.ro m.refs.length a.rc, .slice a.tq m.table.length a.tc, .slice a.so m.snaps.length a.sc, .slice a.dq m.data.length a.dc] 29)).alloc (.cells #[.slice b.ro m.refs.length b.rc, .slice b.tq m.table.length b.tc, .slice b.so m.snaps.length b.sc, .slice b.dq m.data.length b.dc] 29)).heap[w.heap.size]? = some (.cells #[.slice a.ro m.refs.length a.rc, .slice a.tq m.table.length a.tc, .slice a.so m.snaps.length a.sc, .slice a.dq m.data.length a.dc] 29 (0, 0))) := hide (by rw [(Joins.below_alloc1 _ _).block _ (by simp)]; exact heap_alloc_new w _)
  have HU : Hid (((w.alloc (.cells #[.slice a.ro m.refs.length a.rc, .slice a.tq m.table.length a.tc, .slice a.so m.snaps.length a.sc, .slice a.dq m.data.length a.dc] 29)).alloc (.cells #[.slice b.ro m.refs.length b.rc, .slice b.tq m.table.length b.tc, .slice b.so m.snaps.length b.sc, .slice b.dq m.data.length b.dc] 29)).heap[w.heap.size + 1]? = some (.cells #[.slice b.ro m.refs.length b.rc, .slice b.tq m.table.length b.tc, .slice b.so m.snaps.length b.sc, .slice b.dq m.data.length b.dc] 29 (0, 0))) := hide (heap_alloc2_new w _ _)
  have H1 := hide (h1.below (unhide HA))
  have H2 := hide (h2.below (unhide HA))
  have HR := hide hr
  have HT := hide ht
  have HS := hide hs
  have HD := hide hd
  clear h1 h2 hr ht hs hd
  go_enter Try.func16, Try.ntmps16
  go_upto_region 1 with fail
  revert HA HV HU H1 H2
  generalize ((w.alloc _).alloc _) = W0
  intro HA HV HU H1 H2
  have HCELL : Hid (∀ W, Below W0.heap.size W0 W → (W.cell? ⟨w.heap.size, 0, none⟩ = some (.slice a.ro m.refs.length a.rc) ∧ W.cell? ⟨w.heap.size, 1, none⟩ = some (.slice a.tq m.table.length a.tc) ∧ W.cell? ⟨w.heap.size, 2, none⟩ = some (.slice a.so m.snaps.length a.sc) ∧ W.cell? ⟨w.heap.size, 3, none⟩ = some (.slice a.dq m.data.length a.dc)) ∧ W.cell? ⟨w.heap.size + 1, 0, none⟩ = some (.slice b.ro m.refs.length b.rc) ∧ W.cell? ⟨w.heap.size + 1, 1, none⟩ = some (.slice b.tq m.table.length b.tc) ∧ W.cell? ⟨w.heap.size + 1, 2, none⟩ = some (.slice b.so m.snaps.length b.sc) ∧ W.cell? ⟨w.heap.size + 1, 3, none⟩ = some (.slice b.dq m.data.length b.dc)) := hide (fun W hW => by
    have n1 := (hW.block w.heap.size (Array.getElem?_eq_some_iff.1 (unhide HV)).1).trans (unhide HV)
    have n2 := (hW.block (w.heap.size + 1) (Array.getElem?_eq_some_iff.1 (unhide HU)).1).trans (unhide HU)
    refine ⟨⟨?_, ?_, ?_, ?_⟩, ?_, ?_, ?_, ?_⟩ <;> first | (rw [Joins.cell_of_block n1]; rfl) | (rw [Joins.cell_of_block n2]; rfl))
  have HVV : Hid (∀ W, Below W0.heap.size W0 W → VarM W w.heap.size 29 (.slice a.ro m.refs.length a.rc) (.slice a.tq m.table.length a.tc) (.slice a.so m.snaps.length a.sc) (.slice a.dq m.data.length a.dc) ∧ VarM W (w.heap.size + 1) 29 (.slice b.ro m.refs.length b.rc) (.slice b.tq m.table.length b.tc) (.slice b.so m.snaps.length b.sc) (.slice b.dq m.data.length b.dc)) := hide (fun W hW => ⟨VarM.below (unhide HV) hW, VarM.below (unhide HU) hW⟩)
  clear HV HU
  obtain ⟨⟨c0, c1, c2, c3⟩, d0, d1, d2, d3⟩ := unhide HCELL _ (Below.refl _ W0)
  go_wp2_with fail
  refine (sameNums_same a.ro b.ro a.rc b.rc m.refs _ (unhide HR) (unhide H1).r (unhide H2).r).mono ?_
  rintro e w1 ⟨rfl, hb⟩
  have HB1 := hide hb
  clear hb c0 c1 c2 c3 d0 d1 d2 d3
  obtain ⟨⟨c0, c1, c2, c3⟩, d0, d1, d2, d3⟩ := unhide HCELL _ (unhide HB1)
  go_wp2_with fail
  refine (sameNums_same a.tq b.tq a.tc b.tc m.table _ (unhide HT) ((unhide H1).below (unhide HB1)).t ((unhide H2).below (unhide HB1)).t).mono ?_
  rintro e w2 ⟨rfl, hb⟩
  have HB2 := hide (fr (unhide HB1) hb)
  clear hb c0 c1 c2 c3 d0 d1 d2 d3
  obtain ⟨⟨c0, c1, c2, c3⟩, d0, d1, d2, d3⟩ := unhide HCELL _ (unhide HB2)
  go_wp2_with fail
  refine (sameNums_same a.dq b.dq a.dc b.dc m.data _ (unhide HD) ((unhide H1).below (unhide HB2)).d ((unhide H2).below (unhide HB2)).d).mono ?_
  rintro e w3 ⟨rfl, hb⟩
  have HB3 := hide (fr (unhide HB2) hb)
  clear hb c0 c1 c2 c3 d0 d1 d2 d3
  obtain ⟨⟨c0, c1, c2, c3⟩, d0, d1, d2, d3⟩ := unhide HCELL _ (unhide HB3)
  have hsm := unhide HS
  unfold maxLen at hsm
  go_wp2
  clear c0 c1 c2 c3 d0 d1 d2 d3
  go_loopw [5] (fun i wr => ∃ k : Nat, k ≤ m.snaps.length ∧ i = .int .i64 k ∧ Hid (Below W0.heap.size W0 wr)) (fun i _ => m.snaps.length - (intOf i).toNat)
  case atStart => exact ⟨0, Nat.zero_le _, rfl, HB3⟩
  case round =>
    clear HB1 HB2 HB3
    obtain ⟨k, hk, rfl, HB⟩ := hrel
    obtain ⟨⟨c0, c1, c2, c3⟩, d0, d1, d2, d3⟩ := unhide HCELL _ (unhide HB)
    by_cases hlt : k < m.snaps.length
    · obtain ⟨b1, o1, q1, p1, e1, hn1, ht1, i1, _, hm1⟩ := ((unhide H1).below (unhide HB)).s k hlt
      obtain ⟨b2, o2, q2, p2, e2, hn2, ht2, i2, _, _⟩ := ((unhide H2).below (unhide HB)).s k hlt
      have hki : (k : Int) < (m.snaps.length : Int) := by omega
      have HI1 := hide i1
      have HI2 := hide i2
      have HML := hide hm1
      have l1 := World.block_lt_of_cell? _ _ hn1
      have l2 := World.block_lt_of_cell? _ _ hn2
      rw [e1] at c2
      rw [e2] at d2
      have hne : (m.snaps[k].name.toList != m.snaps[k].name.toList) = false := by simp
      have HCALL : Hid (∀ n, Calls Try.prog 44 #[.slice q1 m.snaps[k].table.length p1, .slice q2 m.snaps[k].table.length p2] (wr.drewN n) fun e w' => e = .returned (.bool true) ∧ ∃ m, w' = (wr.drewN n).drewN m) := hide (fun n => sameInts_draws q1 q2 p1 p2 m.snaps[k].table (wr.drewN n) (unhide HML) ((unhide HI1).below (Joins.below_draws _ _ _)) ((unhide HI2).below (Joins.below_draws _ _ _)))
      clear e1 e2 i1 i2 hm1
      generalize m.snaps[k].table.length = TL at *
      generalize m.snaps[k].name = NM at *
      go_upto_region 6 with fail
      go_quiet ((go_at_call 44; refine Calls.quiet_of (unhide HCALL _)))
      have HB5 : Hid (Below W0.heap.size W0 (wr.drewN nq)) := hide ((unhide HB).trans (Joins.below_draws _ _ _))
      clear c0 c1 c2 c3 d0 d1 d2 d3 hn1 ht1 hn2 ht2 HCALL
      go_wp2
      go_roundw
      case rel => exact ⟨k + 1, by omega, by go_num, HB5⟩
      case measure => simp [intOf]; omega
    · go_wp2
      go_ret
      exact ⟨rfl, fr (unhide HA) (unhide HB)⟩

end Go.Proofs.Ytjoafbkcnnhdiac

namespace Go.Proofs.Ytjoafbkcnnhdiac
open Go.RowKit
set_option linter.unusedVariables false
set_option maxRecDepth 100000

structure ImA (W : World) (y : Nat) (a : Im4) (m : Img) : Prop where
  v : VarM W y 29 (.slice a.ro m.refs.length a.rc) (.slice a.tq m.table.length a.tc) (.slice a.so m.snaps.length a.sc) (.slice a.dq m.data.length a.dc)
  s : ImS W a m
theorem ImA.below {W W' : World} {y : Nat} {a : Im4} {m : Img} (h : ImA W y a m) (hb : Below W.heap.size W W') : ImA W' y a m := ⟨h.v.below hb, h.s.below hb⟩
theorem ImA.new {W : World} {a : Im4} {m : Img} (h : ImS W a m) : ImA (W.alloc (.cells #[.slice a.ro m.refs.length a.rc, .slice a.tq m.table.length a.tc, .slice a.so m.snaps.length a.sc, .slice a.dq m.data.length a.dc] 29)) W.heap.size a m := ⟨VarM.new _ _ _ _ _ _, h.below (Joins.below_alloc1 _ _)⟩
theorem ImR.L {m : Img} (h : ImR m) : ImL m := h.M.L
theorem OwnIm.showsR {w : World} {B : Nat} {a : Im4} {m : Img} {ts : List Value} (h : OwnIm w B a m ts) (hi : ImR m) : ImS w a m := h.shows hi.M.zs

theorem rsA_right {m : Img} (h : ImR m) {q : Nat} (hq : q ≤ 12) : rsA' m (q : Int) = (imResize m q, 0) := by
  unfold rsA'
  rw [if_pos (imB_iff.2 h), if_pos (betw_iff.2 ⟨by omega, by omega⟩), Int.toNat_natCast]
theorem resizeA (a : Im4) (m X : Img) (q : Nat) (W : World) (h : ImR m) (hq : q ≤ 12) (hX : X = imResize m q) (hs : ImS W a m) :
    Calls Try.prog 14 #[imV a m, .int .i64 (q : Int)] W fun e w' => AnsI W w' e (X, 0) := by
  have := resizeImage_impl a m (q : Int) W h.L hs
  rw [rsA_right h hq, ← hX] at this
  exact this
theorem resizeS (a : Im4) (m X : Img) (q : Nat) (W : World) (h : ImR m) (hq : q ≤ 12) (hX : X = imResize m q) (hs : ImS W a m) :
    Calls Try.prog 15 #[imV a m, .int .i64 (q : Int)] W fun e w' => AnsI W w' e (X, 0) := by
  have := resizeImage_spec a m (q : Int) W h.L hs
  rw [rsA_right h hq, ← hX] at this
  exact this
theorem betw_tab {n g : Nat} (hg : g < n) : betw (g : Int) 0 ((n : Int) - 1) = true := betw_iff.2 ⟨by omega, by omega⟩
theorem zeroA (a : Im4) (m X : Img) (g : Nat) (W : World) (h : ImR m) (hg : g < m.table.length) (hX : X = imZero m g) (hs : ImS W a m) :
    Calls Try.prog 19 #[imV a m, .int .i64 (g : Int)] W fun e w' => AnsI W w' e (X, 0) := by
  have := zeroCluster_impl a m (g : Int) W h.L hs
  have e : zcA m (g : Int) = (X, 0) := by
    unfold zcA
    rw [if_pos (imB_iff.2 h), if_pos (betw_tab hg), Int.toNat_natCast, hX]
  rw [e] at this
  exact this
theorem readA (a : Im4) (m : Img) (g : Nat) (v : Int) (W : World) (h : ImR m) (hg : g < m.table.length) (hv : imAt m g = v) (hs : ImS W a m) :
    Calls Try.prog 18 #[imV a m, .int .i64 (g : Int)] W fun e w' => e = .returned (.tuple #[.int .i64 v, .int .i64 0]) ∧ Below W.heap.size W w' := by
  have := readCluster_impl a m (g : Int) W h.L hs
  have e : rcA m (g : Int) = (v, 0) := by
    unfold rcA
    rw [if_pos (imB_iff.2 h), if_pos (betw_tab hg), Int.toNat_natCast, ← hv]; rfl
  rw [e] at this
  exact this
theorem okA (a : Im4) (m : Img) (W : World) (h : ImR m) (hs : ImS W a m) :
    Calls Try.prog 17 #[imV a m] W fun e w' => e = .returned (.bool true) ∧ Below W.heap.size W w' := by
  have := imageOK_impl a m W h.L hs
  rw [imB_iff.2 h] at this
  exact this
theorem newA (q : Nat) (X : Img) (W : World) (hq : q ≤ 12) (hX : X = imNew q) :
    Calls Try.prog 20 #[.int .i64 (q : Int)] W fun e w' => AnsI W w' e (X, 0) := by
  have := newImage_impl (q : Int) W
  have e1 : niF (q : Int) = 0 := if_pos (betw_iff.2 ⟨by omega, by omega⟩)
  have e2 : niI (q : Int) = X := by unfold niI; rw [if_pos e1, Int.toNat_natCast, hX]
  rw [e1, e2] at this
  exact this
theorem sameA (a b : Im4) (m : Img) (W : World) (h : ImR m) (h1 : ImS W a m) (h2 : ImS W b m) :
    Calls Try.prog 16 #[imV a m, imV b m] W fun e w' => e = .returned (.bool true) ∧ Below W.heap.size W w' := sameImage_same a b m W h.L.r h.L.t h.L.s h.L.d h1 h2

end Go.Proofs.Ytjoafbkcnnhdiac

namespace Go.Proofs.Ytjoafbkcnnhdiac
open Go.RowKit
set_option linter.unusedVariables false
set_option maxRecDepth 100000

theorem keep_cell {S : Nat → Prop} {w w' : World} {a : Addr} {v : Value} (hk : Keep S w w') (ha : ¬ S a.block) (h : w.cell? a = some v) : w'.cell? a = some v := by
  have hl := World.block_lt_of_cell? _ _ h
  rw [← h]
  unfold World.cell?
  simp only [hk.block a.block hl ha]
theorem keep_new {w w1 w2 : World} {b : Nat} {S : Nat → Prop} (h : Keep (fun k => k = b) w w1) (hk : Keep S w1 w2) (hs : ∀ k, S k → w.heap.size ≤ k ∨ k = b) : Keep (fun k => k = b) w w2 :=
  ⟨hk.os.trans h.os, hk.tape.trans h.tape, hk.output.trans h.output, Nat.le_trans h.size hk.size, fun k hl hn => (hk.block k (Nat.lt_of_lt_of_le hl h.size) (fun hS => by
    rcases hs k hS with h1 | h1
    · omega
    · exact hn h1)).trans (h.block k hl hn)⟩
theorem SrcK.other {w w1 w2 : World} {b : Nat} {ao : Option Addr} {n cap m m0 : Nat} {S : Nat → Prop} (h0 : SrcK w b ao n cap m0) (h : SrcK w1 b ao n cap m) (hw : Keep (fun k => k = b) w w2) (hk : Keep S w1 w2) (hs : ¬ S b) : SrcK w2 b ao n cap m := by
  obtain ⟨x0, y0, _, _, _, _, hblk0⟩ := h0.src
  obtain ⟨x, y, c0, c1, c2, c3, c4⟩ := h.src
  refine ⟨⟨x, y, c0, c1, c2, c3, ?_⟩, h0.bytes.keep hblk0 (fun z h => by cases h) hw⟩
  rw [hk.block b (Array.getElem?_eq_some_iff.1 c4).1 hs]; exact c4

theorem source_any (ao : Option Addr) (n cap : Nat) (w : World) (hn : n ≤ 1048576) (hB : Bs w ao n) :
    Calls Try.prog 36 #[.slice ao n cap] w fun e w' => e = .returned (.pointer (some ⟨w.heap.size, 0, none⟩)) ∧ SrcK w' w.heap.size ao n cap 0 ∧ Below w.heap.size w w' ∧ w'.heap.size = w.heap.size + 1 := by
  go_enter Try.func36, Try.ntmps36
  go_wp2
  go_ret
  exact ⟨rfl, ⟨⟨0, (n : Int) % 1000, by omega, by omega, by omega, by omega, heap_alloc_new w _⟩, hB.below (Joins.below_alloc1 _ _)⟩, Joins.below_alloc1 _ _, by simp⟩

theorem blk_keep {S : Nat → Prop} {w w' : World} {k : Nat} {o : Obj} (hk : Keep S w w') (hs : ¬ S k) (h : w.heap[k]? = some o) : w'.heap[k]? = some o := by
  rw [hk.block k (Array.getElem?_eq_some_iff.1 h).1 hs]; exact h
end Go.Proofs.Ytjoafbkcnnhdiac

namespace Go.Proofs.Ytjoafbkcnnhdiac
open Go.RowKit
set_option linter.unusedVariables false
set_option maxRecDepth 100000

set_option maxHeartbeats 1600000 in
theorem number_k (b : Nat) (ao : Option Addr) (n cap m : Nat) (w : World) (hm : m ≤ 800000) (hn : n ≤ 1048576) (hs : SrcK w b ao n cap m) :
    Calls Try.prog 72 #[.pointer (some ⟨b, 0, none⟩)] w fun e w' => ∃ r : Int, e = .returned (.int .i64 r) ∧ 0 ≤ r ∧ r ≤ 2147483647 ∧ SrcK w' b ao n cap (m + 9) ∧ Keep (fun k => k = b) w w' := by
  have HS := hide hs
  clear hs
  go_enter Try.func72, Try.ntmps72
  go_wp2_with fail
  refine (next_k b ao n cap m 9 _ (by omega) (by omega) (by omega) hn (unhide HS)).mono ?_
  rintro e w1 ⟨r1, rfl, hr10, hr11, hs1, hk1⟩
  have HS1 := hide hs1
  have HK1 := hide hk1
  clear hs1 hk1
  go_wp2_with fail
  refine (next_k b ao n cap (m + 3) 70000 _ (by omega) (by omega) (by omega) hn (unhide HS1)).mono ?_
  rintro e w2 ⟨r2, rfl, hr20, hr21, hs2, hk2⟩
  have HS2 := hide (hs2.below (Joins.below_alloc1 _ (.cells #[.int .i64 r1, .int .i64 r2, .int .i64 2147483647] 3)))
  have HK2 := hide (((unhide HK1).trans hk2).trans (Keep.of_below (Joins.below_alloc1 _ (.cells #[.int .i64 r1, .int .i64 r2, .int .i64 2147483647] 3))))
  have hbl := hs2.lt
  clear hs2 hk2
  go_wp2_with fail
  refine (next_k b ao n cap (m + 3 + 3) 9 _ (by omega) (by omega) (by omega) hn (unhide HS2)).mono ?_
  rintro e w3 ⟨r3, rfl, hr30, hr31, hs3, hk3⟩
  have hcA := keep_cell (a := ⟨w2.heap.size, 0, none⟩) (v := .int .i64 r1) hk3 (by simp; omega) (by simp [go_sem])
  have hcB := keep_cell (a := ⟨w2.heap.size, 1, none⟩) (v := .int .i64 r2) hk3 (by simp; omega) (by simp [go_sem])
  have hcC := keep_cell (a := ⟨w2.heap.size, 2, none⟩) (v := .int .i64 2147483647) hk3 (by simp; omega) (by simp [go_sem])
  have HS3 := hide (hs3.more (m' := m + 9) (by omega))
  have HK3 := hide ((unhide HK2).trans hk3)
  clear hs3 hk3
  have hq : r3 / 4 = 0 ∨ r3 / 4 = 1 ∨ r3 / 4 = 2 := by omega
  rcases hq with hq | hq | hq
  · go_wp2
    go_ret
    exact ⟨r1, rfl, by omega, by omega, unhide HS3, unhide HK3⟩
  · go_wp2
    go_ret
    exact ⟨r2, rfl, by omega, by omega, unhide HS3, unhide HK3⟩
  · go_wp2
    go_ret
    exact ⟨2147483647, rfl, by omega, by omega, unhide HS3, unhide HK3⟩

end Go.Proofs.Ytjoafbkcnnhdiac

namespace Go.Proofs.Ytjoafbkcnnhdiac
open Go.RowKit
set_option linter.unusedVariables false
set_option maxRecDepth 100000

end Go.Proofs.Ytjoafbkcnnhdiac

namespace Go.Proofs.Ytjoafbkcnnhdiac
open Go.RowKit
set_option linter.unusedVariables false
set_option maxRecDepth 100000

end Go.Proofs.Ytjoafbkcnnhdiac

namespace Go.Proofs.Ytjoafbkcnnhdiac
open Go.RowKit
set_option linter.unusedVariables false
set_option maxRecDepth 100000

end Go.Proofs.Ytjoafbkcnnhdiac

namespace Go.Proofs.Ytjoafbkcnnhdiac
open Go.RowKit
set_option linter.unusedVariables false

end Go.Proofs.Ytjoafbkcnnhdiac

namespace Go.Proofs.Ytjoafbkcnnhdiac
open Go.RowKit
set_option linter.unusedVariables false
set_option maxRecDepth 100000

end Go.Proofs.Ytjoafbkcnnhdiac

namespace Go.Proofs.Ytjoafbkcnnhdiac
open Go.RowKit
set_option linter.unusedVariables false
set_option maxRecDepth 100000

end Go.Proofs.Ytjoafbkcnnhdiac

namespace Go.Proofs.Ytjoafbkcnnhdiac
open Go.RowKit
set_option linter.unusedVariables false

end Go.Proofs.Ytjoafbkcnnhdiac

namespace Go.Proofs.Ytjoafbkcnnhdiac
open Go.RowKit
set_option linter.unusedVariables false

end Go.Proofs.Ytjoafbkcnnhdiac

namespace Go.Proofs.Ytjoafbkcnnhdiac
open Go.RowKit
set_option linter.unusedVariables false

end Go.Proofs.Ytjoafbkcnnhdiac

namespace Go.Proofs.Ytjoafbkcnnhdiac
open Go.RowKit
set_option linter.unusedVariables false

end Go.Proofs.Ytjoafbkcnnhdiac

namespace Go.Proofs.Ytjoafbkcnnhdiac
open Go.RowKit
set_option linter.unusedVariables false

end Go.Proofs.Ytjoafbkcnnhdiac

namespace Go.Proofs.Ytjoafbkcnnhdiac
open Go.RowKit
set_option linter.unusedVariables false

end Go.Proofs.Ytjoafbkcnnhdiac

namespace Go.Proofs.Ytjoafbkcnnhdiac
open Go.RowKit
set_option linter.unusedVariables false

end Go.Proofs.Ytjoafbkcnnhdiac

namespace Go.Proofs.Ytjoafbkcnnhdiac
set_option linter.unusedVariables false

end Go.Proofs.Ytjoafbkcnnhdiac

namespace Go.Proofs.Ytjoafbkcnnhdiac
open Go.RowKit
set_option linter.unusedVariables false

theorem three {l : List Int} (h : l.length = 3) : ∃ a b c, l = [a, b, c] := by
  match l, h with
  | [a, b, c], _ => exact ⟨a, b, c, rfl⟩
end Go.Proofs.Ytjoafbkcnnhdiac

namespace Go.Proofs.Ytjoafbkcnnhdiac
open Go.RowKit
set_option linter.unusedVariables false
set_option maxRecDepth 100000

end Go.Proofs.Ytjoafbkcnnhdiac

namespace Go.Proofs.Ytjoafbkcnnhdiac
open Go.RowKit
set_option linter.unusedVariables false
set_option maxRecDepth 100000

end Go.Proofs.Ytjoafbkcnnhdiac

namespace Go.Proofs.Ytjoafbkcnnhdiac
open Go.RowKit
set_option linter.unusedVariables false
set_option maxRecDepth 100000

end Go.Proofs.Ytjoafbkcnnhdiac

namespace Go.Proofs.Ytjoafbkcnnhdiac
open Go.RowKit
set_option linter.unusedVariables false

end Go.Proofs.Ytjoafbkcnnhdiac

namespace Go.Proofs.Ytjoafbkcnnhdiac
open Go.RowKit
set_option linter.unusedVariables false

end Go.Proofs.Ytjoafbkcnnhdiac

namespace Go.Proofs.Ytjoafbkcnnhdiac
open Go.RowKit
set_option linter.unusedVariables false
set_option maxRecDepth 100000

end Go.Proofs.Ytjoafbkcnnhdiac

namespace Go.Proofs.Ytjoafbkcnnhdiac
open Go.RowKit
set_option linter.unusedVariables false
set_option maxRecDepth 100000

end Go.Proofs.Ytjoafbkcnnhdiac

namespace Go.Proofs.Ytjoafbkcnnhdiac
open Go.RowKit
set_option linter.unusedVariables false

end Go.Proofs.Ytjoafbkcnnhdiac
