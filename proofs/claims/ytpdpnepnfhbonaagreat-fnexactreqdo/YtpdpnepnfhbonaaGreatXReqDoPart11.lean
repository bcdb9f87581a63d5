import Derived.Test.YtpdpnepnfhbonaaGreatRows
import Derived.Test.YtpdpnepnfhbonaaGreatXReqDoPart1
import Derived.Test.YtpdpnepnfhbonaaGreatXReqDoPart8
import Derived.Test.YtpdpnepnfhbonaaGreatXReqDoPart2
import Derived.Test.YtpdpnepnfhbonaaGreatXReqDoPart3
import Derived.Test.YtpdpnepnfhbonaaGreatXReqDoPart4
import Derived.Test.YtpdpnepnfhbonaaGreatXReqDoPart6
import Derived.Test.YtpdpnepnfhbonaaGreatXReqDoPart9
import Derived.Test.YtpdpnepnfhbonaaGreatXReqDoPart10
import Derived.WalkKit
import Derived.WalkSpells
import Derived.KernelRfl
import Derived.BigQuiet
import Derived.Deep.QuietTactic
import Derived.Deep.RegionWith
import Derived.Deep.RegionHeld3
import Derived.LoopN

namespace Go.Proofs.YtpdpnepnfhbonaaGreat
open Go.RowKit
set_option linter.unusedVariables false
set_option maxRecDepth 100000

def VarN1 (w : World) (x : Nat) (n : Int) : Prop := w.cell? ⟨x, 0, none⟩ = some (.int .i64 n)
theorem VarN1.below {w w' : World} {x : Nat} {n : Int} (h : VarN1 w x n) (hb : Below w.heap.size w w') : VarN1 w' x n := (hb.cell (World.block_lt_of_cell? _ _ h)).trans h
theorem VarN1.new (w : World) (n : Int) : VarN1 (w.alloc (.cells #[.int .i64 n] 3)) w.heap.size n := by unfold VarN1; rw [Joins.cell_of_block (heap_alloc_new w _)]; rfl
theorem ImR.fitR {m : Img} (h : ImR m) : FitR m := ⟨h.rl, h.len, h.few, h.tabs, h.M.zs⟩
theorem ImR.fitT {m : Img} (h : ImR m) {t d : List Int} (ht : tbB t = true) (hd : d.length = 24) : FitR { m with table := t, data := d } := ⟨h.rl, hd, h.few, tabs_with h ht d, h.M.zs⟩
theorem Hld.set {W : World} {p B g c : Nat} {a : Im4} {m m' : Img} {ts : List Value} {u : Value} (h : Hld W p B a m ts) (hi : ImB a m ts g) (ho : OwnIm (W.setCell ⟨g, c, none⟩ u) B a m' ts) (e1 : m'.refs.length = m.refs.length) (e2 : m'.table.length = m.table.length) (e3 : m'.snaps.length = m.snaps.length) (e4 : m'.data.length = m.data.length) (hB : B ≤ W.heap.size) : Hld (W.setCell ⟨g, c, none⟩ u) p B a m' ts ∧ Below B W (W.setCell ⟨g, c, none⟩ u) := by
  have hk : Keep (ImB a m ts) W (W.setCell ⟨g, c, none⟩ u) := (Keep.refl _ W).setCell (p := ⟨g, c, none⟩) hi _
  refine ⟨⟨?_, ho, h.p⟩, hk.below hB (fun x hx => (h.o.ge x hx).1)⟩
  rw [e1, e2, e3, e4]
  exact h.v.keepIm h.o hk
theorem Hld.setT {W : World} {p B c : Nat} {a : Im4} {m : Img} {ts : List Value} (h : Hld W p B a m ts) (hB : B ≤ W.heap.size) (hc : c < m.table.length) : ∃ g, a.tq = some ⟨g, 0, none⟩ ∧ W.cell? ⟨g, c, none⟩ = some (.int .i64 m.table[c]) ∧ W.frozen? ⟨g, c, none⟩ = false ∧ ∀ y, Hld (W.setCell ⟨g, c, none⟩ (.int .i64 y)) p B a { m with table := m.table.set c y } ts ∧ Below B W (W.setCell ⟨g, c, none⟩ (.int .i64 y)) := by
  obtain ⟨g, e, h1, h2, h3, h4⟩ := h.o.setT hc
  exact ⟨g, e, h1, h2, fun y => h.set h3 (h4 y) rfl (by simp) rfl rfl hB⟩
theorem Hld.setD {W : World} {p B c : Nat} {a : Im4} {m : Img} {ts : List Value} (h : Hld W p B a m ts) (hB : B ≤ W.heap.size) (hc : c < m.data.length) : ∃ g, a.dq = some ⟨g, 0, none⟩ ∧ W.cell? ⟨g, c, none⟩ = some (.int .i64 m.data[c]) ∧ W.frozen? ⟨g, c, none⟩ = false ∧ ∀ y, Hld (W.setCell ⟨g, c, none⟩ (.int .i64 y)) p B a { m with data := m.data.set c y } ts ∧ Below B W (W.setCell ⟨g, c, none⟩ (.int .i64 y)) := by
  obtain ⟨g, e, h1, h2, h3, h4⟩ := h.o.setD hc
  exact ⟨g, e, h1, h2, fun y => h.set h3 (h4 y) rfl rfl rfl (by simp) hB⟩
theorem VarN1.belowB {w w' : World} {x B : Nat} {n : Int} (h : VarN1 w x n) (hx : x < B) (hb : Below B w w') : VarN1 w' x n := (hb.cell (p := ⟨x, 0, none⟩) hx).trans h
theorem Chg.same {W W' : World} {p B : Nat} {a : Im4} {m : Img} {ts : List Value} (c : Int) (h : Hld W p B a m ts) (hB : B ≤ W.heap.size) (hb : Below W.heap.size W W') : Chg W W' p B (.returned (.int .i64 c)) c m := ⟨rfl, a, ts, h.below hb, hb.mono hB⟩
theorem ans_eq {m m1 : Img} {c : Int} {R : Img × Int} (h1 : imB m = true → imFit m1 = R.1 ∧ c = R.2) (h2 : imB m = false → R = (im0, 1)) : (if imB m = true then (imFit m1, c) else (im0, 1)) = R := by
  cases h : imB m
  · rw [h2 h]; rfl
  · obtain ⟨e1, e2⟩ := h1 h
    rw [e1, e2]; rfl

def zc1 (m : Img) (g : Int) : Img := if betw g 0 ((m.table.length : Int) - 1) = true then { m with table := m.table.set g.toNat 1 } else m
def zcC (m : Img) (g : Int) : Int := if betw g 0 ((m.table.length : Int) - 1) = true then 0 else 4
theorem zc_fit {m : Img} (g : Int) (h : ImR m) : FitR (zc1 m g) := by
  unfold zc1
  split
  · exact h.fitT (d := m.data) (tbB_set h.table _ (by omega) (by omega)) h.len
  · exact h.fitR
theorem zc_ans {m : Img} (g : Int) : (if imB m = true then (imFit (zc1 m g), zcC m g) else (im0, 1)) = zcA m g := by
  refine ans_eq (fun h => ?_) (fun h => by rw [zcA, h]; rfl)
  have hR := imB_iff.1 h
  rw [zcA, if_pos h]
  unfold zc1 zcC
  by_cases hg : betw g 0 ((m.table.length : Int) - 1) = true
  · rw [if_pos hg, if_pos hg, if_pos hg]
    obtain ⟨l0, l1⟩ := betw_iff.1 hg
    exact ⟨fit_zero hR (by omega), rfl⟩
  · rw [if_neg hg, if_neg hg, if_neg hg]
    exact ⟨fit_self hR, rfl⟩

set_option maxHeartbeats 1600000 in
theorem zeroC_any (m : Img) (g : Int) (x : Nat) (W : World) (p B : Nat) (a : Im4) (ts : List Value) (ht : m.table.length ≤ 12) (hx : VarN1 W x g) (hxB : x < B) (hB : B ≤ W.heap.size) (hh : Hld W p B a m ts) :
    Calls Tryz.prog 123 #[.pointer (some ⟨p, 0, none⟩), .pointer (some ⟨x, 0, none⟩)] W fun e W' => Chg W W' p B e (zcC m g) (zc1 m g) := by
  have HH := hide hh
  have HX := hide hx
  have hx' : W.cell? ⟨x, 0, none⟩ = some (.int .i64 g) := hx
  have hws : IntKind.i64.wrap ((m.table.length : Int) - 1) = (m.table.length : Int) - 1 := by rw [IntKind.wrap_i64]; omega
  obtain ⟨c0, c1, c2, c3⟩ := hh.v.cells
  have hpl := hh.v.lt
  have hxl := World.block_lt_of_cell? _ _ hx
  clear hh hx
  cases hg : betw g 0 ((m.table.length : Int) - 1)
  · have HWI : Hid (∀ W, Calls Tryz.prog 124 #[.int .i64 g, .int .i64 0, .int .i64 ((m.table.length : Int) - 1)] W fun e w' => e = .returned (.bool false) ∧ w' = W) := hide (fun W => (within_any _ _ _ _).mono (by rintro e w' ⟨rfl, rfl⟩; exact ⟨by rw [hg], rfl⟩))
    have HE : Hid (zcC m g = 4 ∧ zc1 m g = m) := hide ⟨by rw [zcC, hg]; rfl, by rw [zc1, hg]; rfl⟩
    rw [(unhide HE).1, (unhide HE).2]
    go_enter Tryz.func123, Tryz.ntmps123
    go_upto_region 1 with fail
    go_quiet ((go_at_call 124; refine Calls.quiet_of_same (unhide HWI _)))
    go_wp2
    go_ret
    exact Chg.same 4 (unhide HH) hB (Joins.below_draws _ _ _)
  · obtain ⟨l0, l1⟩ := betw_iff.1 hg
    obtain ⟨q, rfl⟩ := Int.eq_ofNat_of_zero_le l0
    have hq : q < m.table.length := by omega
    have hqi : (q : Int) < (m.table.length : Int) := by omega
    have HWI : Hid (∀ W, Calls Tryz.prog 124 #[.int .i64 (q : Int), .int .i64 0, .int .i64 ((m.table.length : Int) - 1)] W fun e w' => e = .returned (.bool true) ∧ w' = W) := hide (fun W => (within_any _ _ _ _).mono (by rintro e w' ⟨rfl, rfl⟩; exact ⟨by rw [hg], rfl⟩))
    have HE : Hid (zcC m (q : Int) = 0 ∧ zc1 m (q : Int) = { m with table := m.table.set q 1 }) := hide ⟨by rw [zcC, hg]; rfl, by rw [zc1, if_pos hg, Int.toNat_natCast]⟩
    rw [(unhide HE).1, (unhide HE).2]
    go_enter Tryz.func123, Tryz.ntmps123
    go_upto_region 1 with fail
    go_quiet ((go_at_call 124; refine Calls.quiet_of_same (unhide HWI _)))
    have HH1 := hide ((unhide HH).below (Joins.below_draws _ W nq))
    have HX1 := hide ((unhide HX).below (Joins.below_draws _ W nq))
    have HB1 : Hid (Below B W (W.drewN nq) ∧ B ≤ (W.drewN nq).heap.size) := hide ⟨(Joins.below_draws _ W nq), Nat.le_trans hB (Joins.below_draws W.heap.size W nq).size⟩
    clear c0 c1 c2 c3 hx' HH HX hpl hxl
    revert HH1 HX1 HB1
    generalize (W.drewN nq) = W1
    intro HH1 HX1 HB1
    obtain ⟨c0, c1, c2, c3⟩ := (unhide HH1).v.cells
    have hx' : W1.cell? ⟨x, 0, none⟩ = some (.int .i64 (q : Int)) := unhide HX1
    obtain ⟨gt, et, ht1, hf1, hst⟩ := (unhide HH1).setT (unhide HB1).2 hq
    have HS := hide (hst 1)
    rw [et] at c1
    clear et hst
    go_wp2
    go_region
    go_wp2
    go_ret
    exact ⟨rfl, a, ts, (unhide HS).1.below (Below.refl _ _).drew, ((unhide HB1).1.trans (unhide HS).2).drew⟩

structure FcE (w W : World) (q : Nat) (a : Im4) (m : Img) : Prop where
  v : VarM W w.heap.size 32 (.slice a.ro m.refs.length a.rc) (.slice a.tq m.table.length a.tc) (.slice a.so m.snaps.length a.sc) (.slice a.dq m.data.length a.dc)
  r : VarM W q 32 (.slice none 0 0) (.slice none 0 0) (.slice none 0 0) (.slice none 0 0)
  s : ImS W a m
  b : Below w.heap.size w W
  hr : w.heap.size ≤ q
  lt : q < W.heap.size
theorem FcE.below {w W W' : World} {r : Nat} {a : Im4} {m : Img} (h : FcE w W r a m) (hb : Below W.heap.size W W') : FcE w W' r a m := ⟨h.v.below hb, h.r.below hb, h.s.below hb, fr h.b hb, h.hr, Nat.lt_of_lt_of_le h.lt hb.size⟩
theorem FcE.put {w W W' : World} {r : Nat} {a : Im4} {m : Img} (h : FcE w W r a m) (hb : Below W.heap.size W W') {a' : Im4} {m' : Img} {ts : List Value} (ho : OwnIm W' W.heap.size a' m' ts) :
    VarM (putI W' r a' m') r 32 (.slice a'.ro m'.refs.length a'.rc) (.slice a'.tq m'.table.length a'.tc) (.slice a'.so m'.snaps.length a'.sc) (.slice a'.dq m'.data.length a'.dc) ∧ OwnIm (putI W' r a' m') w.heap.size a' m' ts ∧ Below w.heap.size w (putI W' r a' m') := by
  obtain ⟨h1, h2, h3⟩ := ImSt.put (h.r.below hb) ho (fr h.b hb) h.hr h.lt a' m'
  exact ⟨h1, h2.base h.b.size, h3⟩

set_option maxHeartbeats 1600000 in
theorem zeroCluster_impl (a : Im4) (m : Img) (g : Int) (w : World) (hL : ImL m) (hc : ImS w a m) :
    Calls Tryz.prog 85 #[imV a m, .int .i64 g] w fun e w' => AnsI w w' e (zcA m g) := by
  have hmf : ∀ (fn : Fn) (first cap : Array Value) (w : World), (Instr.makeFunc fn first cap).run Tryz.prog w = .ok (.func fn first cap) w := fun _ _ _ _ => rfl
  have HE : Hid (FcE w (((w.alloc (.cells #[.slice a.ro m.refs.length a.rc, .slice a.tq m.table.length a.tc, .slice a.so m.snaps.length a.sc, .slice a.dq m.data.length a.dc] 32)).alloc (.cells #[.int .i64 g] 3)).alloc (.cells #[.slice none 0 0, .slice none 0 0, .slice none 0 0, .slice none 0 0] 32)) (w.heap.size + 1 + 1) a m) := hide (by
    refine ⟨?_, ?_, hc.below (fr (fr (Joins.below_alloc1 w _) (Joins.below_alloc1 _ _)) (Joins.below_alloc1 _ _)), fr (fr (Joins.below_alloc1 w _) (Joins.below_alloc1 _ _)) (Joins.below_alloc1 _ _), by omega, by simp⟩
    · exact ((VarM.new w 32 (.slice a.ro m.refs.length a.rc) (.slice a.tq m.table.length a.tc) (.slice a.so m.snaps.length a.sc) (.slice a.dq m.data.length a.dc)).below (Joins.below_alloc1 _ _)).below (Joins.below_alloc1 _ _)
    · have h := VarM.new ((w.alloc (.cells #[.slice a.ro m.refs.length a.rc, .slice a.tq m.table.length a.tc, .slice a.so m.snaps.length a.sc, .slice a.dq m.data.length a.dc] 32)).alloc (.cells #[.int .i64 g] 3)) 32 (.slice none 0 0) (.slice none 0 0) (.slice none 0 0) (.slice none 0 0)
      simp only [World.size_alloc] at h
      exact h)
  have HX0 : Hid (VarN1 (((w.alloc (.cells #[.slice a.ro m.refs.length a.rc, .slice a.tq m.table.length a.tc, .slice a.so m.snaps.length a.sc, .slice a.dq m.data.length a.dc] 32)).alloc (.cells #[.int .i64 g] 3)).alloc (.cells #[.slice none 0 0, .slice none 0 0, .slice none 0 0, .slice none 0 0] 32)) (w.heap.size + 1) g) := hide (by
    have h : VarN1 (((w.alloc (.cells #[.slice a.ro m.refs.length a.rc, .slice a.tq m.table.length a.tc, .slice a.so m.snaps.length a.sc, .slice a.dq m.data.length a.dc] 32)).alloc (.cells #[.int .i64 g] 3)).alloc (.cells #[.slice none 0 0, .slice none 0 0, .slice none 0 0, .slice none 0 0] 32)) (w.alloc (.cells #[.slice a.ro m.refs.length a.rc, .slice a.tq m.table.length a.tc, .slice a.so m.snaps.length a.sc, .slice a.dq m.data.length a.dc] 32)).heap.size g := (VarN1.new (w.alloc (.cells #[.slice a.ro m.refs.length a.rc, .slice a.tq m.table.length a.tc, .slice a.so m.snaps.length a.sc, .slice a.dq m.data.length a.dc] 32)) g).below (Joins.below_alloc1 _ _)
    simp only [World.size_alloc] at h
    exact h)
  have HL := hide hL
  obtain ⟨R, HR⟩ : ∃ R, Hid (R = zcA m g) := ⟨_, rfl⟩
  rw [← unhide HR]
  clear hc hL
  go_enter Tryz.func85, Tryz.ntmps85
  go_upto_region 1 with fail
  revert HE HX0
  generalize (((w.alloc _).alloc _).alloc _) = W0
  intro HE HX0
  obtain ⟨c0, c1, c2, c3⟩ := (unhide HE).v.cells
  go_wp2_with fail
  refine (changeImage_any a m 123 #[.pointer (some ⟨w.heap.size + 1, 0, none⟩)] (zc1 m g) (zcC m g) _ (unhide HL) (unhide HE).s (fun _ _ => rfl) (fun him => ⟨zc_fit g (imB_iff.1 him), fun W p B a1 ts1 h1 h2 h3 h4 _ => ?_⟩)).mono ?_
  · exact zeroC_any m g _ W p B a1 ts1 (imB_iff.1 him).M.t ((unhide HX0).below h1) (Nat.lt_of_lt_of_le (World.block_lt_of_cell? _ _ (unhide HX0)) h2) h3 h4
  · intro e w2 hans
    rw [zc_ans, ← unhide HR] at hans
    obtain ⟨b, ts, rfl, ho, hb⟩ := hans
    have HP := hide ((unhide HE).put hb ho)
    have HE2 := hide ((unhide HE).below hb)
    clear ho hb c0 c1 c2 c3
    obtain ⟨r0, r1, r2, r3⟩ := (unhide HE2).r.cells
    obtain ⟨z0, z1, z2, z3⟩ := (unhide HE2).r.free
    go_wp2
    refine bodyPost_ret (res_ic Tryz.results85 rfl rfl (unhide HP).1) rfl ?_
    exact AnsI.of rfl rfl (unhide HP).2.1 (unhide HP).2.2

end Go.Proofs.YtpdpnepnfhbonaaGreat

namespace Go.Proofs.YtpdpnepnfhbonaaGreat
open Go.RowKit
set_option linter.unusedVariables false
set_option maxRecDepth 100000

def wcS (m : Img) (e : Int) : Option Nat := if 2 ≤ e ∧ m.refs.getD (e - 2).toNat 0 = 1 then some (e - 2).toNat else if frN m.refs < m.refs.length then some (frN m.refs) else none
def wcM (m : Img) (g : Nat) (v : Int) : Option Nat → Img
  | some c => { m with table := m.table.set g (2 + (c : Int)), data := m.data.set c v }
  | none => m
def wcK : Option Nat → Int
  | some _ => 0
  | none => 7
def wc1 (m : Img) (g v : Int) : Img := if betw g 0 ((m.table.length : Int) - 1) = true ∧ numB v = true then wcM m g.toNat v (wcS m (m.table.getD g.toNat 0)) else m
def wcC (m : Img) (g v : Int) : Int := if betw g 0 ((m.table.length : Int) - 1) = true ∧ numB v = true then wcK (wcS m (m.table.getD g.toNat 0)) else 4
theorem wcS_lt {m : Img} (h : ImR m) {g c : Nat} (hg : g < m.table.length) (hs : wcS m m.table[g] = some c) : c < 24 := by
  unfold wcS at hs
  have hb := tbB_at h.table g hg
  split at hs
  · cases hs; omega
  · split at hs
    · rename_i hf; cases hs; rw [h.rl] at hf; exact hf
    · cases hs
theorem wc_fit {m : Img} (g v : Int) (h : ImR m) : FitR (wc1 m g v) := by
  unfold wc1
  by_cases hok : betw g 0 ((m.table.length : Int) - 1) = true ∧ numB v = true
  · rw [if_pos hok]
    obtain ⟨l0, l1⟩ := betw_iff.1 hok.1
    have hg : g.toNat < m.table.length := by omega
    have e : m.table.getD g.toNat 0 = m.table[g.toNat] := by simp [List.getD, hg]
    rw [e]
    cases hs : wcS m m.table[g.toNat] with
    | none => exact h.fitR
    | some c =>
      have := wcS_lt h hg hs
      exact h.fitT (tbB_set h.table _ (by omega) (by omega)) (by simp [h.len])
  · rw [if_neg hok]
    exact h.fitR
theorem wc_ans {m : Img} (g v : Int) : (if imB m = true then (imFit (wc1 m g v), wcC m g v) else (im0, 1)) = wcA m g v := by
  refine ans_eq (fun h => ?_) (fun h => by rw [wcA, h]; rfl)
  have hR := imB_iff.1 h
  rw [wcA, if_pos h]
  unfold wc1 wcC
  by_cases hok : betw g 0 ((m.table.length : Int) - 1) = true ∧ numB v = true
  · rw [if_pos hok, if_pos hok, if_pos hok]
    obtain ⟨l0, l1⟩ := betw_iff.1 hok.1
    have hg : g.toNat < m.table.length := by omega
    have e : m.table.getD g.toNat 0 = m.table[g.toNat] := by simp [List.getD, hg]
    have hb := tbB_at hR.table _ hg
    rw [e]
    unfold wcS
    by_cases h1 : 2 ≤ m.table[g.toNat] ∧ m.refs.getD (m.table[g.toNat] - 2).toNat 0 = 1
    · rw [if_pos h1]
      have hc : m.table[g.toNat] = (((m.table[g.toNat] - 2).toNat : Nat) : Int) + 2 := by omega
      have hr : (m.table[g.toNat] - 2).toNat < m.refs.length := by rw [hR.rl]; omega
      have h1' : m.refs[(m.table[g.toNat] - 2).toNat] = 1 := by have := h1.2; simpa [List.getD, hr] using this
      rw [imWrite_in hg hc hr h1']
      exact ⟨fit_in hR v hg hc h1.2, rfl⟩
    · rw [if_neg h1, imWrite_out hg h1]
      by_cases h2 : frN m.refs < m.refs.length
      · rw [if_pos h2, if_pos h2]
        exact ⟨fit_out hR v hg (by rw [hR.rl] at h2; exact h2) (free_spec h2), rfl⟩
      · rw [if_neg h2, if_neg h2]
        exact ⟨fit_self hR, rfl⟩
  · rw [if_neg hok, if_neg hok, if_neg hok]
    exact ⟨fit_self hR, rfl⟩
theorem used_pos {m : Img} (h : ImR m) {g c : Nat} (hg : g < m.table.length) (hc : m.table[g] = (c : Int) + 2) (h24 : c < 24) : 1 ≤ m.refs.getD c 0 := by
  have h1 := cN_pos hg hc
  have h3 := sN_nn (m.snaps.map (·.table)) c
  rw [h.cntA h24, sN_tabs]
  omega

set_option maxHeartbeats 3200000 in
theorem writeC_any (m : Img) (g v : Int) (x y : Nat) (W : World) (p B : Nat) (a : Im4) (ts : List Value) (hR : ImR m) (hx : VarN1 W x g) (hxB : x < B) (hy : VarN1 W y v) (hyB : y < B) (hB : B ≤ W.heap.size) (hh : Hld W p B a m ts) :
    Calls Tryz.prog 120 #[.pointer (some ⟨p, 0, none⟩), .pointer (some ⟨x, 0, none⟩), .pointer (some ⟨y, 0, none⟩)] W fun e W' => Chg W W' p B e (wcC m g v) (wc1 m g v) := by
  have HH := hide hh
  have HT := hide (hh.o.shows hR.M.zs).t
  have HL := hide hR.M.L.t
  have HRR := hide hR
  have HXV := hide hx
  have HYV := hide hy
  have hx' : W.cell? ⟨x, 0, none⟩ = some (.int .i64 g) := hx
  obtain ⟨c0, c1, c2, c3⟩ := hh.v.cells
  have hpl := hh.v.lt
  have hxl := World.block_lt_of_cell? _ _ hx
  have HCAL : Hid (∀ W1, Below W.heap.size W W1 → Calls Tryz.prog 116 #[.slice a.tq m.table.length a.tc, .int .i64 g] W1 fun e w' => e = .returned (.tuple #[.int .i64 (enK m.table g), .int .i64 (enC m.table g), .int .i64 (enF m.table g)]) ∧ Below W.heap.size W w') := hide (fun W1 hW => (entryOf_impl a.tq a.tc m.table g W1 (unhide HL) ((unhide HT).below hW)).mono fun e w' ⟨h1, h3⟩ => ⟨h1, fr hW h3⟩)
  obtain ⟨C, HC⟩ : ∃ C, Hid (C = wcC m g v) := ⟨_, rfl⟩
  obtain ⟨M1, HM1⟩ : ∃ M1, Hid (M1 = wc1 m g v) := ⟨_, rfl⟩
  rw [← unhide HC, ← unhide HM1]
  have HEN := hide (en_cases m.table g)
  have HTF := hide (tbF_ok hR.table)
  clear hh hx hy hR
  generalize enK m.table g = K at *
  generalize enC m.table g = Cc at *
  generalize enF m.table g = F at *
  go_enter Tryz.func120, Tryz.ntmps120
  go_upto_region 1 with fail
  go_region_held3 (fun w' => w'.cell? ⟨p, 1, none⟩ = some (.slice a.tq m.table.length a.tc) ∧ w'.cell? ⟨x, 0, none⟩ = some (.int .i64 g)) (go_keep) ((go_at_call 116; refine (unhide HCAL _ (Below.refl _ _).drew).mono ?_; rintro e w3 ⟨rfl, hb3⟩; have k1 := (hb3.cell (p := ⟨p, 1, none⟩) hpl).trans c1; have k2 := (hb3.cell (p := ⟨x, 0, none⟩) hxl).trans hx'; have HN3 := hide hb3; clear hb3))
  clear k1 k2 c0 c1 c2 c3 hx' hpl hxl HCAL
  generalize w3 = wz at HN3 ⊢
  have HH3 := hide ((unhide HH).below (unhide HN3))
  have HX3 := hide ((unhide HXV).below (unhide HN3))
  have HY3 := hide ((unhide HYV).below (unhide HN3))
  have HS3 := hide (Nat.le_trans hB (unhide HN3).size)
  rcases unhide HEN with ⟨hf, _⟩ | ⟨hb, hg, eF, eK, eC⟩ | ⟨hb, q, rfl, hq, eF, eK, eC⟩
  · exact absurd (unhide HTF) hf
  · have HE : Hid (C = 4 ∧ M1 = m) := hide ⟨by rw [unhide HC, wcC, hg]; rfl, by rw [unhide HM1, wc1, hg]; rfl⟩
    subst eF eK eC
    clear hg
    go_wp2
    go_ret
    rw [(unhide HE).1, (unhide HE).2]
    exact Chg.same 4 (unhide HH) hB (unhide HN3)
  have hgb : betw (q : Int) 0 ((m.table.length : Int) - 1) = true := betw_iff.2 ⟨by omega, by omega⟩
  have hy' : wz.cell? ⟨y, 0, none⟩ = some (.int .i64 v) := unhide HY3
  subst eF
  cases hnv : numB v
  · have HE : Hid (C = 4 ∧ M1 = m) := hide ⟨by rw [unhide HC, wcC, hnv]; simp, by rw [unhide HM1, wc1, hnv]; simp⟩
    clear hgb eK eC
    go_wp2_with (go_at_call 121; refine (isNumber_any _ _).mono ?_; rintro e w' ⟨rfl, hw⟩; replace hw := hw.symm; subst hw; rw [hnv])
    go_ret
    rw [(unhide HE).1, (unhide HE).2]
    exact Chg.same 4 (unhide HH) hB (unhide HN3)
  have HE : Hid (C = wcK (wcS m m.table[q]) ∧ M1 = wcM m q v (wcS m m.table[q])) := hide (by
    have e : m.table.getD q 0 = m.table[q] := by simp [List.getD, hq]
    rw [unhide HC, unhide HM1, wcC, wc1, if_pos ⟨hgb, hnv⟩, if_pos ⟨hgb, hnv⟩, Int.toNat_natCast, e]
    exact ⟨rfl, rfl⟩)
  have HTQ := hide (tbB_at hb q hq)
  have HSL := hide (fun c hs => wcS_lt (c := c) (unhide HRR) hq hs)
  have HPOS := hide (fun c hc h24 => used_pos (c := c) (unhide HRR) hq hc h24)
  have hqi : (q : Int) < (m.table.length : Int) := by omega
  clear hgb hb
  obtain ⟨c0, c1, c2, c3⟩ := (unhide HH3).v.cells
  by_cases hT : m.table[q] < 2
  · have HNO : Hid (¬ (2 ≤ m.table[q] ∧ m.refs.getD (m.table[q] - 2).toNat 0 = 1)) := hide (fun h => by omega)
    have h3 : (K != 2) = true := by rw [eK]; simp; omega
    clear hT eK eC
    -- the first free one
    have HB3 : Hid (Below B W wz) := hide ((unhide HN3).mono hB)
    go_wp2_with (first | (go_at_call 121; refine (isNumber_any _ _).mono ?_; rintro e w' ⟨rfl, hw⟩; replace hw := hw.symm; subst hw; rw [hnv]) | fail)
    refine (freeCluster_impl a.ro a.rc m.refs _ (unhide HRR).M.L.r ((unhide HH3).o.shows (unhide HRR).M.zs).r).mono ?_
    rintro e w4 ⟨rfl, hb4⟩
    have HN4 := hide (fr (unhide HN3) hb4)
    have HH4 := hide ((unhide HH3).below hb4)
    have HX4 := hide ((unhide HX3).below hb4)
    have HS4 := hide (Nat.le_trans (unhide HS3) hb4.size)
    have HB4 : Hid (Below B W w4) := hide ((unhide HN4).mono hB)
    clear hb4 c0 c1 c2 c3 hy'
    by_cases hfr : frN m.refs < m.refs.length
    · obtain ⟨f1, f2⟩ := frC_here (unhide HRR).refs hfr rfl
      have hc24 : frN m.refs < 24 := by rw [(unhide HRR).rl] at hfr; exact hfr
      have HE2 : Hid (C = 0 ∧ M1 = { m with table := m.table.set q (2 + (frN m.refs : Int)), data := m.data.set (frN m.refs) v }) := hide (by rw [(unhide HE).1, (unhide HE).2, wcS, if_neg (unhide HNO), if_pos hfr]; exact ⟨rfl, rfl⟩)
      rw [f1, f2]
      clear f1 f2 hfr
      generalize frN m.refs = c at *
      obtain ⟨c0, c1, c2, c3⟩ := (unhide HH4).v.cells
      have x4 : w4.cell? ⟨x, 0, none⟩ = some (.int .i64 (q : Int)) := unhide HX4
      obtain ⟨gt, et, ht1, hf1, hst⟩ := (unhide HH4).setT (unhide HS4) hq
      have HS := hide (hst (2 + (c : Int)))
      have hwc : IntKind.i64.wrap (2 + (c : Int)) = 2 + (c : Int) := by rw [IntKind.wrap_i64]; omega
      rw [et] at c1
      clear et hst
      go_upto_region 8 with fail
      go_region
      have HH5 := hide ((unhide HS).1.below (Below.refl _ _).drew)
      have HB5 : Hid (Below B W (w4.setCell ⟨gt, q, none⟩ (.int .i64 (2 + (c : Int)))).drew) := hide ((unhide HB4).trans (unhide HS).2).drew
      have HX5 := hide ((unhide HXV).belowB hxB (unhide HB5))
      have HY5 := hide ((unhide HYV).belowB hyB (unhide HB5))
      clear c0 c1 c2 c3 x4 ht1 hf1 HS HH4 HX4 HS4 HB4
      revert HH5 HB5 HX5 HY5
      generalize (World.drew _) = W5
      intro HH5 HB5 HX5 HY5
      obtain ⟨c0, c1, c2, c3⟩ := (unhide HH5).v.cells
      have y5 : W5.cell? ⟨y, 0, none⟩ = some (.int .i64 v) := unhide HY5
      obtain ⟨gd, ed, hd1, hf2, hsd⟩ := (unhide HH5).setD (c := c) (Nat.le_trans hB (unhide HB5).size) (by show c < m.data.length; rw [(unhide HRR).len]; exact hc24)
      have HS2 := hide (hsd v)
      rw [ed] at c3
      have hcdi : (c : Int) < (m.data.length : Int) := by rw [(unhide HRR).len]; omega
      clear ed hsd
      go_wp2
      go_region
      go_wp2
      go_ret
      rw [(unhide HE2).1, (unhide HE2).2]
      exact ⟨rfl, _, _, (unhide HS2).1.below (Below.refl _ _).drew, ((unhide HB5).trans (unhide HS2).2).drew⟩
    · obtain ⟨f1, f2⟩ := frC_none (unhide HRR).refs hfr
      have HE2 : Hid (C = 7 ∧ M1 = m) := hide (by rw [(unhide HE).1, (unhide HE).2, wcS, if_neg (unhide HNO), if_neg hfr]; exact ⟨rfl, rfl⟩)
      rw [f1, f2]
      clear f1 f2 hfr
      go_wp2
      go_ret
      rw [(unhide HE2).1, (unhide HE2).2]
      exact Chg.same 7 (unhide HH) hB (unhide HN4)
  · obtain ⟨c, hcc⟩ := Int.eq_ofNat_of_zero_le (show 0 ≤ m.table[q] - 2 by omega)
    have hTQ := unhide HTQ
    have hc24 : c < 24 := by omega
    have hcr : c < m.refs.length := by rw [(unhide HRR).rl]; exact hc24
    have hcri : (c : Int) < (m.refs.length : Int) := by omega
    have h1 : K = 2 := by omega
    have h2 : Cc = (c : Int) := by omega
    have egd : m.refs.getD c 0 = m.refs[c] := by simp [List.getD, hcr]
    have hpos := unhide HPOS c (by omega) hc24
    rw [egd] at hpos
    obtain ⟨b3, o3, e3, hx3⟩ := ((unhide HH3).o.shows (unhide HRR).M.zs).r c hcr
    rw [e3] at c0
    have E3 := hide e3
    subst h1 h2
    have HCC : Hid ((m.table[q] - 2).toNat = c) := hide (by omega)
    have HT2 : Hid (2 ≤ m.table[q]) := hide (by omega)
    clear hT eK eC e3 hTQ hcc
    by_cases hone : m.refs[c] = 1
    · have HE2 : Hid (C = 0 ∧ M1 = { m with table := m.table.set q (2 + (c : Int)), data := m.data.set c v }) := hide (by rw [(unhide HE).1, (unhide HE).2, wcS, if_pos ⟨unhide HT2, by rw [unhide HCC, egd]; exact hone⟩, unhide HCC]; exact ⟨rfl, rfl⟩)
      have hn1 : ¬ (1 : Int) < m.refs[c] := by omega
      have HH4 := HH3
      have HX4 := HX3
      have HS4 := HS3
      have HB4 : Hid (Below B W wz) := hide ((unhide HN3).mono hB)
      clear hone egd hpos
      generalize m.refs[c] = RC at *
      go_upto_region 8 with (go_at_call 121; refine (isNumber_any _ _).mono ?_; rintro e w' ⟨rfl, hw⟩; replace hw := hw.symm; subst hw; rw [hnv])
      clear c0 c1 c2 c3 hx3 hn1 hy'
      obtain ⟨c0, c1, c2, c3⟩ := (unhide HH4).v.cells
      have x4 : wz.cell? ⟨x, 0, none⟩ = some (.int .i64 (q : Int)) := unhide HX4
      obtain ⟨gt, et, ht1, hf1, hst⟩ := (unhide HH4).setT (unhide HS4) hq
      have HS := hide (hst (2 + (c : Int)))
      have hwc : IntKind.i64.wrap (2 + (c : Int)) = 2 + (c : Int) := by rw [IntKind.wrap_i64]; omega
      rw [et] at c1
      clear et hst
      go_region
      have HH5 := hide ((unhide HS).1.below (Below.refl _ _).drew)
      have HB5 : Hid (Below B W (wz.setCell ⟨gt, q, none⟩ (.int .i64 (2 + (c : Int)))).drew) := hide ((unhide HB4).trans (unhide HS).2).drew
      have HX5 := hide ((unhide HXV).belowB hxB (unhide HB5))
      have HY5 := hide ((unhide HYV).belowB hyB (unhide HB5))
      clear c0 c1 c2 c3 x4 ht1 hf1 HS HH4 HX4 HS4 HB4
      revert HH5 HB5 HX5 HY5
      generalize (World.drew _) = W5
      intro HH5 HB5 HX5 HY5
      obtain ⟨c0, c1, c2, c3⟩ := (unhide HH5).v.cells
      have y5 : W5.cell? ⟨y, 0, none⟩ = some (.int .i64 v) := unhide HY5
      obtain ⟨gd, ed, hd1, hf2, hsd⟩ := (unhide HH5).setD (c := c) (Nat.le_trans hB (unhide HB5).size) (by show c < m.data.length; rw [(unhide HRR).len]; exact hc24)
      have HS2 := hide (hsd v)
      rw [ed] at c3
      have hcdi : (c : Int) < (m.data.length : Int) := by rw [(unhide HRR).len]; omega
      clear ed hsd
      go_wp2
      go_region
      go_wp2
      go_ret
      rw [(unhide HE2).1, (unhide HE2).2]
      exact ⟨rfl, _, _, (unhide HS2).1.below (Below.refl _ _).drew, ((unhide HB5).trans (unhide HS2).2).drew⟩
    · have HNO : Hid (¬ (2 ≤ m.table[q] ∧ m.refs.getD (m.table[q] - 2).toNat 0 = 1)) := hide (fun h => hone (by have := h.2; rw [unhide HCC, egd] at this; exact this))
      have hn1 : (1 : Int) < m.refs[c] := by omega
      clear hone egd hpos
      generalize m.refs[c] = RC at *
      -- the first free one
      have HB3 : Hid (Below B W wz) := hide ((unhide HN3).mono hB)
      go_wp2_with (first | (go_at_call 121; refine (isNumber_any _ _).mono ?_; rintro e w' ⟨rfl, hw⟩; replace hw := hw.symm; subst hw; rw [hnv]) | fail)
      refine (freeCluster_impl (some ⟨b3, o3, none⟩) a.rc m.refs _ (unhide HRR).M.L.r (by rw [← unhide E3]; exact ((unhide HH3).o.shows (unhide HRR).M.zs).r)).mono ?_
      rintro e w4 ⟨rfl, hb4⟩
      have HN4 := hide (fr (unhide HN3) hb4)
      have HH4 := hide ((unhide HH3).below hb4)
      have HX4 := hide ((unhide HX3).below hb4)
      have HS4 := hide (Nat.le_trans (unhide HS3) hb4.size)
      have HB4 : Hid (Below B W w4) := hide ((unhide HN4).mono hB)
      clear hb4 c0 c1 c2 c3 hy' hx3 hn1
      by_cases hfr : frN m.refs < m.refs.length
      · obtain ⟨f1, f2⟩ := frC_here (unhide HRR).refs hfr rfl
        have hc25 : frN m.refs < 24 := by rw [(unhide HRR).rl] at hfr; exact hfr
        have HE2 : Hid (C = 0 ∧ M1 = { m with table := m.table.set q (2 + (frN m.refs : Int)), data := m.data.set (frN m.refs) v }) := hide (by rw [(unhide HE).1, (unhide HE).2, wcS, if_neg (unhide HNO), if_pos hfr]; exact ⟨rfl, rfl⟩)
        rw [f1, f2]
        clear f1 f2 hfr
        generalize frN m.refs = c at *
        obtain ⟨c0, c1, c2, c3⟩ := (unhide HH4).v.cells
        have x4 : w4.cell? ⟨x, 0, none⟩ = some (.int .i64 (q : Int)) := unhide HX4
        obtain ⟨gt, et, ht1, hf1, hst⟩ := (unhide HH4).setT (unhide HS4) hq
        have HS := hide (hst (2 + (c : Int)))
        have hwc : IntKind.i64.wrap (2 + (c : Int)) = 2 + (c : Int) := by rw [IntKind.wrap_i64]; omega
        rw [et] at c1
        clear et hst
        go_upto_region 8 with fail
        go_region
        have HH5 := hide ((unhide HS).1.below (Below.refl _ _).drew)
        have HB5 : Hid (Below B W (w4.setCell ⟨gt, q, none⟩ (.int .i64 (2 + (c : Int)))).drew) := hide ((unhide HB4).trans (unhide HS).2).drew
        have HX5 := hide ((unhide HXV).belowB hxB (unhide HB5))
        have HY5 := hide ((unhide HYV).belowB hyB (unhide HB5))
        clear c0 c1 c2 c3 x4 ht1 hf1 HS HH4 HX4 HS4 HB4
        revert HH5 HB5 HX5 HY5
        generalize (World.drew _) = W5
        intro HH5 HB5 HX5 HY5
        obtain ⟨c0, c1, c2, c3⟩ := (unhide HH5).v.cells
        have y5 : W5.cell? ⟨y, 0, none⟩ = some (.int .i64 v) := unhide HY5
        obtain ⟨gd, ed, hd1, hf2, hsd⟩ := (unhide HH5).setD (c := c) (Nat.le_trans hB (unhide HB5).size) (by show c < m.data.length; rw [(unhide HRR).len]; exact hc25)
        have HS2 := hide (hsd v)
        rw [ed] at c3
        have hcdi : (c : Int) < (m.data.length : Int) := by rw [(unhide HRR).len]; omega
        clear ed hsd
        go_wp2
        go_region
        go_wp2
        go_ret
        rw [(unhide HE2).1, (unhide HE2).2]
        exact ⟨rfl, _, _, (unhide HS2).1.below (Below.refl _ _).drew, ((unhide HB5).trans (unhide HS2).2).drew⟩
      · obtain ⟨f1, f2⟩ := frC_none (unhide HRR).refs hfr
        have HE2 : Hid (C = 7 ∧ M1 = m) := hide (by rw [(unhide HE).1, (unhide HE).2, wcS, if_neg (unhide HNO), if_neg hfr]; exact ⟨rfl, rfl⟩)
        rw [f1, f2]
        clear f1 f2 hfr
        go_wp2
        go_ret
        rw [(unhide HE2).1, (unhide HE2).2]
        exact Chg.same 7 (unhide HH) hB (unhide HN4)

set_option maxHeartbeats 1600000 in
theorem writeCluster_impl (a : Im4) (m : Img) (g : Int) (v : Int) (w : World) (hL : ImL m) (hc : ImS w a m) :
    Calls Tryz.prog 84 #[imV a m, .int .i64 g, .int .i64 v] w fun e w' => AnsI w w' e (wcA m g v) := by
  have hmf : ∀ (fn : Fn) (first cap : Array Value) (w : World), (Instr.makeFunc fn first cap).run Tryz.prog w = .ok (.func fn first cap) w := fun _ _ _ _ => rfl
  have HE : Hid (FcE w ((((w.alloc (.cells #[.slice a.ro m.refs.length a.rc, .slice a.tq m.table.length a.tc, .slice a.so m.snaps.length a.sc, .slice a.dq m.data.length a.dc] 32)).alloc (.cells #[.int .i64 g] 3)).alloc (.cells #[.int .i64 v] 3)).alloc (.cells #[.slice none 0 0, .slice none 0 0, .slice none 0 0, .slice none 0 0] 32)) (w.heap.size + 1 + 1 + 1) a m) := hide (by
    refine ⟨?_, ?_, hc.below (fr (fr (fr (Joins.below_alloc1 w _) (Joins.below_alloc1 _ _)) (Joins.below_alloc1 _ _)) (Joins.below_alloc1 _ _)), fr (fr (fr (Joins.below_alloc1 w _) (Joins.below_alloc1 _ _)) (Joins.below_alloc1 _ _)) (Joins.below_alloc1 _ _), by omega, by simp⟩
    · exact (((VarM.new w 32 (.slice a.ro m.refs.length a.rc) (.slice a.tq m.table.length a.tc) (.slice a.so m.snaps.length a.sc) (.slice a.dq m.data.length a.dc)).below (Joins.below_alloc1 _ _)).below (Joins.below_alloc1 _ _)).below (Joins.below_alloc1 _ _)
    · have h := VarM.new (((w.alloc (.cells #[.slice a.ro m.refs.length a.rc, .slice a.tq m.table.length a.tc, .slice a.so m.snaps.length a.sc, .slice a.dq m.data.length a.dc] 32)).alloc (.cells #[.int .i64 g] 3)).alloc (.cells #[.int .i64 v] 3)) 32 (.slice none 0 0) (.slice none 0 0) (.slice none 0 0) (.slice none 0 0)
      simp only [World.size_alloc] at h
      exact h)
  have HX0 : Hid (VarN1 ((((w.alloc (.cells #[.slice a.ro m.refs.length a.rc, .slice a.tq m.table.length a.tc, .slice a.so m.snaps.length a.sc, .slice a.dq m.data.length a.dc] 32)).alloc (.cells #[.int .i64 g] 3)).alloc (.cells #[.int .i64 v] 3)).alloc (.cells #[.slice none 0 0, .slice none 0 0, .slice none 0 0, .slice none 0 0] 32)) (w.heap.size + 1) g) := hide (by
    have h : VarN1 ((((w.alloc (.cells #[.slice a.ro m.refs.length a.rc, .slice a.tq m.table.length a.tc, .slice a.so m.snaps.length a.sc, .slice a.dq m.data.length a.dc] 32)).alloc (.cells #[.int .i64 g] 3)).alloc (.cells #[.int .i64 v] 3)).alloc (.cells #[.slice none 0 0, .slice none 0 0, .slice none 0 0, .slice none 0 0] 32)) (w.alloc (.cells #[.slice a.ro m.refs.length a.rc, .slice a.tq m.table.length a.tc, .slice a.so m.snaps.length a.sc, .slice a.dq m.data.length a.dc] 32)).heap.size g := ((VarN1.new (w.alloc (.cells #[.slice a.ro m.refs.length a.rc, .slice a.tq m.table.length a.tc, .slice a.so m.snaps.length a.sc, .slice a.dq m.data.length a.dc] 32)) g).below (Joins.below_alloc1 _ _)).below (Joins.below_alloc1 _ _)
    simp only [World.size_alloc] at h
    exact h)
  have HX1 : Hid (VarN1 ((((w.alloc (.cells #[.slice a.ro m.refs.length a.rc, .slice a.tq m.table.length a.tc, .slice a.so m.snaps.length a.sc, .slice a.dq m.data.length a.dc] 32)).alloc (.cells #[.int .i64 g] 3)).alloc (.cells #[.int .i64 v] 3)).alloc (.cells #[.slice none 0 0, .slice none 0 0, .slice none 0 0, .slice none 0 0] 32)) (w.heap.size + 1 + 1) v) := hide (by
    have h : VarN1 ((((w.alloc (.cells #[.slice a.ro m.refs.length a.rc, .slice a.tq m.table.length a.tc, .slice a.so m.snaps.length a.sc, .slice a.dq m.data.length a.dc] 32)).alloc (.cells #[.int .i64 g] 3)).alloc (.cells #[.int .i64 v] 3)).alloc (.cells #[.slice none 0 0, .slice none 0 0, .slice none 0 0, .slice none 0 0] 32)) ((w.alloc (.cells #[.slice a.ro m.refs.length a.rc, .slice a.tq m.table.length a.tc, .slice a.so m.snaps.length a.sc, .slice a.dq m.data.length a.dc] 32)).alloc (.cells #[.int .i64 g] 3)).heap.size v := (VarN1.new ((w.alloc (.cells #[.slice a.ro m.refs.length a.rc, .slice a.tq m.table.length a.tc, .slice a.so m.snaps.length a.sc, .slice a.dq m.data.length a.dc] 32)).alloc (.cells #[.int .i64 g] 3)) v).below (Joins.below_alloc1 _ _)
    simp only [World.size_alloc] at h
    exact h)
  have HL := hide hL
  obtain ⟨R, HR⟩ : ∃ R, Hid (R = wcA m g v) := ⟨_, rfl⟩
  rw [← unhide HR]
  clear hc hL
  go_enter Tryz.func84, Tryz.ntmps84
  go_upto_region 1 with fail
  revert HE HX0 HX1
  generalize ((((w.alloc _).alloc _).alloc _).alloc _) = W0
  intro HE HX0 HX1
  obtain ⟨c0, c1, c2, c3⟩ := (unhide HE).v.cells
  go_wp2_with fail
  refine (changeImage_any a m 120 #[.pointer (some ⟨w.heap.size + 1, 0, none⟩), .pointer (some ⟨w.heap.size + 1 + 1, 0, none⟩)] (wc1 m g v) (wcC m g v) _ (unhide HL) (unhide HE).s (fun _ _ => rfl) (fun him => ⟨wc_fit g v (imB_iff.1 him), fun W p B a1 ts1 h1 h2 h3 h4 _ => ?_⟩)).mono ?_
  · exact writeC_any m g v _ _ W p B a1 ts1 (imB_iff.1 him) ((unhide HX0).below h1) (Nat.lt_of_lt_of_le (World.block_lt_of_cell? _ _ (unhide HX0)) h2) ((unhide HX1).below h1) (Nat.lt_of_lt_of_le (World.block_lt_of_cell? _ _ (unhide HX1)) h2) h3 h4
  · intro e w2 hans
    rw [wc_ans, ← unhide HR] at hans
    obtain ⟨b, ts, rfl, ho, hb⟩ := hans
    have HP := hide ((unhide HE).put hb ho)
    have HE2 := hide ((unhide HE).below hb)
    clear ho hb c0 c1 c2 c3
    obtain ⟨r0, r1, r2, r3⟩ := (unhide HE2).r.cells
    obtain ⟨z0, z1, z2, z3⟩ := (unhide HE2).r.free
    go_wp2
    refine bodyPost_ret (res_ic Tryz.results84 rfl rfl (unhide HP).1) rfl ?_
    exact AnsI.of rfl rfl (unhide HP).2.1 (unhide HP).2.2

end Go.Proofs.YtpdpnepnfhbonaaGreat

namespace Go.Proofs.YtpdpnepnfhbonaaGreat
open Go.RowKit
set_option linter.unusedVariables false
set_option maxRecDepth 100000

theorem OwnIm.freshT {w w' : World} {B c : Nat} {q : Option Addr} {a : Im4} {m : Img} {ts : List Value} {t : List Int} (h : OwnIm w B a m ts) (hb : Below w.heap.size w w') (hv : OwnN w' w.heap.size (.slice q t.length c) t) (hB : B ≤ w.heap.size) : OwnIm w' B { a with tq := q, tc := c } { m with table := t } ts := by
  refine ⟨h.len, h.s.below hb, ?_⟩
  have h1 := h.rows.below hb
  have hold : ∀ r ∈ imRows a m ts, ∀ g, Own r.1 g → ¬ Own (.slice q t.length c) g := fun r hr g hg hg' => by
    have k1 := ((h.rows.own r hr).ge g hg).2
    have k2 := (hv.ge g hg').1
    omega
  unfold imRows at h1 hold ⊢
  simp only
  have hp := h1.apart
  rw [List.pairwise_cons, List.pairwise_cons] at hp
  obtain ⟨p0, p1, p2⟩ := hp
  refine ⟨fun r hr => ?_, ?_⟩
  · simp only [List.mem_cons] at hr
    rcases hr with rfl | rfl | hr
    · exact h1.own _ (by simp)
    · exact hv.base hB
    · exact h1.own r (by simp only [List.mem_cons]; exact .inr (.inr hr))
  · rw [List.pairwise_cons, List.pairwise_cons]
    refine ⟨fun r hr => ?_, fun r hr g hg hg' => ?_, p2⟩
    · rw [List.mem_cons] at hr
      rcases hr with rfl | hr
      · exact hold (.slice a.ro m.refs.length a.rc, m.refs) (by simp)
      · exact p0 r (List.mem_cons_of_mem _ hr)
    · exact hold r (by simp only [List.mem_cons] at hr ⊢; exact .inr (.inr hr)) g hg' hg
theorem Hld.freshT {W W' : World} {p B c : Nat} {q : Option Addr} {a : Im4} {m : Img} {ts : List Value} {t : List Int} (h : Hld W p B a m ts) (hb : Below W.heap.size W W') (hv : OwnN W' W.heap.size (.slice q t.length c) t) (hB : B ≤ W.heap.size) : Hld (W'.setCell ⟨p, 1, none⟩ (.slice q t.length c)) p B { a with tq := q, tc := c } { m with table := t } ts ∧ Below B W (W'.setCell ⟨p, 1, none⟩ (.slice q t.length c)) := by
  have h1 := h.below hb
  have ho := h.o.freshT hb hv hB
  have hk : Keep (fun g => g = p) W' (W'.setCell ⟨p, 1, none⟩ (.slice q t.length c)) := (Keep.refl (fun g => g = p) W').setCell (p := ⟨p, 1, none⟩) rfl _
  exact ⟨⟨h1.v.set1 _, ho.keep hk (fun g hg e => ho.other h1.v (e ▸ hg)), h.p⟩, (hb.mono hB).trans (hk.below (Nat.le_trans hB hb.size) (fun g e => by have := h.p; omega))⟩

def rs1 (m : Img) (n : Int) : Img := if betw n 0 12 = true then { m with table := rzTo m.table n.toNat } else m
def rsC (m : Img) (n : Int) : Int := if betw n 0 12 = true then 0 else 4
theorem rs_fit {m : Img} (n : Int) (h : ImR m) : FitR (rs1 m n) := by
  unfold rs1
  by_cases hn : betw n 0 12 = true
  · rw [if_pos hn]
    obtain ⟨l0, l1⟩ := betw_iff.1 hn
    exact h.fitT (d := m.data) (tbB_rz h.table (by omega)) h.len
  · rw [if_neg hn]
    exact h.fitR
theorem rs_ans {m : Img} (n : Int) : (if imB m = true then (imFit (rs1 m n), rsC m n) else (im0, 1)) = rsA' m n := by
  refine ans_eq (fun h => ?_) (fun h => by rw [rsA', h]; rfl)
  have hR := imB_iff.1 h
  rw [rsA', if_pos h]
  unfold rs1 rsC
  by_cases hg : betw n 0 12 = true
  · rw [if_pos hg, if_pos hg, if_pos hg]
    obtain ⟨l0, l1⟩ := betw_iff.1 hg
    exact ⟨fit_resize hR (by omega), rfl⟩
  · rw [if_neg hg, if_neg hg, if_neg hg]
    exact ⟨fit_self hR, rfl⟩

set_option maxHeartbeats 1600000 in
theorem resizeC_any (m : Img) (n : Int) (x : Nat) (W : World) (p B : Nat) (a : Im4) (ts : List Value) (hR : ImR m) (hx : VarN1 W x n) (hxB : x < B) (hB : B ≤ W.heap.size) (hh : Hld W p B a m ts) :
    Calls Tryz.prog 125 #[.pointer (some ⟨p, 0, none⟩), .pointer (some ⟨x, 0, none⟩)] W fun e W' => Chg W W' p B e (rsC m n) (rs1 m n) := by
  have HH := hide hh
  have HT := hide (hh.o.shows hR.M.zs).t
  have HL := hide hR.M.L.t
  have hx' : W.cell? ⟨x, 0, none⟩ = some (.int .i64 n) := hx
  obtain ⟨c0, c1, c2, c3⟩ := hh.v.cells
  have hpl := hh.v.lt
  have hxl := World.block_lt_of_cell? _ _ hx
  have HRZ := hide (rz_cases m.table n)
  have hTF := tbF_ok hR.table
  have HTF := hide hTF
  have HCAL : Hid (∀ W1, Below W.heap.size W W1 → Calls Tryz.prog 126 #[.slice a.tq m.table.length a.tc, .int .i64 n] W1 fun e w' => ∃ vo vc, e = .returned (.tuple #[.slice vo (rzL m.table n).length vc, .int .i64 (rzF m.table n)]) ∧ OwnN w' W.heap.size (.slice vo (rzL m.table n).length vc) (rzL m.table n) ∧ Below W.heap.size W w') := hide (fun W1 hW => (resizeTable_impl a.tq a.tc m.table n W1 (unhide HL) ((unhide HT).below hW)).mono fun e w' ⟨v, h1, h2, h3⟩ => by obtain ⟨vo, vc, rfl, _⟩ := id h2; exact ⟨vo, vc, h1, h2.base hW.size, fr hW h3⟩)
  clear hh hx hR hTF
  generalize rzL m.table n = L at *
  generalize rzF m.table n = F at *
  go_enter Tryz.func125, Tryz.ntmps125
  go_upto_region 1 with fail
  go_region_held3 (fun w' => w'.cell? ⟨p, 1, none⟩ = some (.slice a.tq m.table.length a.tc) ∧ w'.cell? ⟨x, 0, none⟩ = some (.int .i64 n)) (go_keep) ((go_at_call 126; refine (unhide HCAL _ (Below.refl _ _).drew).mono ?_; rintro e w3 ⟨vo, vc, rfl, ho3, hb3⟩; have k1 := (hb3.cell (p := ⟨p, 1, none⟩) hpl).trans c1; have k2 := (hb3.cell (p := ⟨x, 0, none⟩) hxl).trans hx'; have HN3 := hide (And.intro hb3 ho3); clear hb3 ho3))
  clear k1 k2 c0 c1 c2 c3 hx'
  have HH3 := hide ((unhide HH).below (unhide HN3).1)
  rcases unhide HRZ with ⟨hf, _⟩ | ⟨hb, hg, eF, eL⟩ | ⟨hb, q, rfl, hq, eF, eL⟩
  · exact absurd (unhide HTF) hf
  · have HE : Hid (rsC m n = 4 ∧ rs1 m n = m) := hide ⟨by rw [rsC, hg]; rfl, by rw [rs1, hg]; rfl⟩
    subst eF
    clear eL hg
    go_wp2
    go_ret
    rw [(unhide HE).1, (unhide HE).2]
    exact Chg.same 4 (unhide HH) hB (unhide HN3).1
  · have hg : betw (q : Int) 0 12 = true := betw_iff.2 ⟨by omega, by omega⟩
    have HE : Hid (rsC m (q : Int) = 0 ∧ rs1 m (q : Int) = { m with table := L }) := hide ⟨by rw [rsC, hg]; rfl, by rw [rs1, if_pos hg, Int.toNat_natCast, eL]⟩
    have HS := hide ((unhide HH).freshT (unhide HN3).1 (unhide HN3).2 hB)
    subst eF
    clear eL hg
    obtain ⟨c0, c1, c2, c3⟩ := (unhide HH3).v.cells
    obtain ⟨z0, z1, z2, z3⟩ := (unhide HH3).v.free
    go_wp2
    go_ret
    rw [(unhide HE).1, (unhide HE).2]
    exact ⟨rfl, _, _, (unhide HS).1, (unhide HS).2⟩

set_option maxHeartbeats 1600000 in
theorem resizeImage_impl (a : Im4) (m : Img) (n : Int) (w : World) (hL : ImL m) (hc : ImS w a m) :
    Calls Tryz.prog 86 #[imV a m, .int .i64 n] w fun e w' => AnsI w w' e (rsA' m n) := by
  have hmf : ∀ (fn : Fn) (first cap : Array Value) (w : World), (Instr.makeFunc fn first cap).run Tryz.prog w = .ok (.func fn first cap) w := fun _ _ _ _ => rfl
  have HE : Hid (FcE w (((w.alloc (.cells #[.slice a.ro m.refs.length a.rc, .slice a.tq m.table.length a.tc, .slice a.so m.snaps.length a.sc, .slice a.dq m.data.length a.dc] 32)).alloc (.cells #[.int .i64 n] 3)).alloc (.cells #[.slice none 0 0, .slice none 0 0, .slice none 0 0, .slice none 0 0] 32)) (w.heap.size + 1 + 1) a m) := hide (by
    refine ⟨?_, ?_, hc.below (fr (fr (Joins.below_alloc1 w _) (Joins.below_alloc1 _ _)) (Joins.below_alloc1 _ _)), fr (fr (Joins.below_alloc1 w _) (Joins.below_alloc1 _ _)) (Joins.below_alloc1 _ _), by omega, by simp⟩
    · exact ((VarM.new w 32 (.slice a.ro m.refs.length a.rc) (.slice a.tq m.table.length a.tc) (.slice a.so m.snaps.length a.sc) (.slice a.dq m.data.length a.dc)).below (Joins.below_alloc1 _ _)).below (Joins.below_alloc1 _ _)
    · have h := VarM.new ((w.alloc (.cells #[.slice a.ro m.refs.length a.rc, .slice a.tq m.table.length a.tc, .slice a.so m.snaps.length a.sc, .slice a.dq m.data.length a.dc] 32)).alloc (.cells #[.int .i64 n] 3)) 32 (.slice none 0 0) (.slice none 0 0) (.slice none 0 0) (.slice none 0 0)
      simp only [World.size_alloc] at h
      exact h)
  have HX0 : Hid (VarN1 (((w.alloc (.cells #[.slice a.ro m.refs.length a.rc, .slice a.tq m.table.length a.tc, .slice a.so m.snaps.length a.sc, .slice a.dq m.data.length a.dc] 32)).alloc (.cells #[.int .i64 n] 3)).alloc (.cells #[.slice none 0 0, .slice none 0 0, .slice none 0 0, .slice none 0 0] 32)) (w.heap.size + 1) n) := hide (by
    have h : VarN1 (((w.alloc (.cells #[.slice a.ro m.refs.length a.rc, .slice a.tq m.table.length a.tc, .slice a.so m.snaps.length a.sc, .slice a.dq m.data.length a.dc] 32)).alloc (.cells #[.int .i64 n] 3)).alloc (.cells #[.slice none 0 0, .slice none 0 0, .slice none 0 0, .slice none 0 0] 32)) (w.alloc (.cells #[.slice a.ro m.refs.length a.rc, .slice a.tq m.table.length a.tc, .slice a.so m.snaps.length a.sc, .slice a.dq m.data.length a.dc] 32)).heap.size n := (VarN1.new (w.alloc (.cells #[.slice a.ro m.refs.length a.rc, .slice a.tq m.table.length a.tc, .slice a.so m.snaps.length a.sc, .slice a.dq m.data.length a.dc] 32)) n).below (Joins.below_alloc1 _ _)
    simp only [World.size_alloc] at h
    exact h)
  have HL := hide hL
  obtain ⟨R, HR⟩ : ∃ R, Hid (R = rsA' m n) := ⟨_, rfl⟩
  rw [← unhide HR]
  clear hc hL
  go_enter Tryz.func86, Tryz.ntmps86
  go_upto_region 1 with fail
  revert HE HX0
  generalize (((w.alloc _).alloc _).alloc _) = W0
  intro HE HX0
  obtain ⟨c0, c1, c2, c3⟩ := (unhide HE).v.cells
  go_wp2_with fail
  refine (changeImage_any a m 125 #[.pointer (some ⟨w.heap.size + 1, 0, none⟩)] (rs1 m n) (rsC m n) _ (unhide HL) (unhide HE).s (fun _ _ => rfl) (fun him => ⟨rs_fit n (imB_iff.1 him), fun W p B a1 ts1 h1 h2 h3 h4 _ => ?_⟩)).mono ?_
  · exact resizeC_any m n _ W p B a1 ts1 (imB_iff.1 him) ((unhide HX0).below h1) (Nat.lt_of_lt_of_le (World.block_lt_of_cell? _ _ (unhide HX0)) h2) h3 h4
  · intro e w2 hans
    rw [rs_ans, ← unhide HR] at hans
    obtain ⟨b, ts, rfl, ho, hb⟩ := hans
    have HP := hide ((unhide HE).put hb ho)
    have HE2 := hide ((unhide HE).below hb)
    clear ho hb c0 c1 c2 c3
    obtain ⟨r0, r1, r2, r3⟩ := (unhide HE2).r.cells
    obtain ⟨z0, z1, z2, z3⟩ := (unhide HE2).r.free
    go_wp2
    refine bodyPost_ret (res_ic Tryz.results86 rfl rfl (unhide HP).1) rfl ?_
    exact AnsI.of rfl rfl (unhide HP).2.1 (unhide HP).2.2

end Go.Proofs.YtpdpnepnfhbonaaGreat

namespace Go.Proofs.YtpdpnepnfhbonaaGreat
open Go.RowKit
set_option linter.unusedVariables false
set_option maxRecDepth 100000

theorem ImB_len {a : Im4} {m m' : Img} {ts : List Value} {g : Nat} (e1 : m'.refs.length = m.refs.length) (e2 : m'.table.length = m.table.length) (e3 : m'.snaps.length = m.snaps.length) (e4 : m'.data.length = m.data.length) (h : ImB a m' ts g) : ImB a m ts g := by
  unfold ImB at h ⊢
  rwa [e1, e2, e3, e4] at h
def raD (m : Img) (L : List Int) (k : Nat) : Img := { m with refs := (L.take k).foldl incr m.refs }
def RvU (ns : List Int) (lo hi : Int) : Prop := ∀ c (h : c < ns.length), lo ≤ ns[c] ∧ ns[c] ≤ hi
theorem RvU.up {ns : List Int} {lo hi : Int} (h : RvU ns lo hi) (c : Nat) (hc : c < ns.length) (hlo : lo ≤ hi) : RvU (incr ns c) lo (hi + 1) := by
  rw [incr_set]
  intro i hi'
  rw [List.length_set] at hi'
  rw [List.getElem_set]
  have := h i hi'
  by_cases e : c = i
  · have h2 : ns.getD c 0 = ns[i] := by simp [List.getD, e, hi']
    rw [if_pos e, h2]
    omega
  · rw [if_neg e]
    omega
structure RaJ (w W : World) (B : Nat) (a : Im4) (m m' : Img) (ts : List Value) : Prop where
  v : VarM W w.heap.size 32 (.slice a.ro m.refs.length a.rc) (.slice a.tq m.table.length a.tc) (.slice a.so m.snaps.length a.sc) (.slice a.dq m.data.length a.dc)
  r : VarM W (w.heap.size + 1) 32 (.slice none 0 0) (.slice none 0 0) (.slice none 0 0) (.slice none 0 0)
  o : OwnIm W B a m' ts
  k : Keep (fun g => ImB a m ts g ∨ w.heap.size ≤ g) w W
  e1 : m'.refs.length = m.refs.length
  e2 : m'.table.length = m.table.length
  e3 : m'.snaps.length = m.snaps.length
  e4 : m'.data.length = m.data.length

theorem RaJ.drew {w W : World} {B : Nat} {a : Im4} {m m' : Img} {ts : List Value} (h : RaJ w W B a m m' ts) : RaJ w W.drew B a m m' ts := ⟨h.v.below (Below.refl _ _).drew, h.r.below (Below.refl _ _).drew, h.o.below (Below.refl _ _).drew, h.k.trans (Keep.of_below (Below.refl _ _).drew), h.e1, h.e2, h.e3, h.e4⟩

set_option maxHeartbeats 3200000 in
theorem l10Raise_any (a : Im4) (m : Img) (ts : List Value) (B : Nat) (ao : Option Addr) (cap : Nat) (t : List Int) (w : World) (hr : m.refs.length = 24) (hv : RvU m.refs (-100) 100) (htb : tbB t = true) (hI : Is w ao t) (ho : OwnIm w B a m ts) :
    Calls Tryz.prog 114 #[imV a m, .slice ao t.length cap] w fun r w' => r = .returned (imV a m) ∧ OwnIm w' B a (imRaise m t) ts ∧ Keep (ImB a m ts) w w' := by
  have HA := hide (Joins.below_alloc2 w (.cells #[.slice a.ro m.refs.length a.rc, .slice a.tq m.table.length a.tc, .slice a.so m.snaps.length a.sc, .slice a.dq m.data.length a.dc] 32) (.cells #[.slice none 0 0, .slice none 0 0, .slice none 0 0, .slice none 0 0] 32))
  have HO := hide (ho.below (unhide HA))
  have HT := hide (hI.below (unhide HA))
  have HV := hide ((VarM.new w 32 (.slice a.ro m.refs.length a.rc) (.slice a.tq m.table.length a.tc) (.slice a.so m.snaps.length a.sc) (.slice a.dq m.data.length a.dc)).below (Joins.below_alloc1 _ (.cells #[.slice none 0 0, .slice none 0 0, .slice none 0 0, .slice none 0 0] 32)))
  have HR := hide ((VarM.new (w.alloc (.cells #[.slice a.ro m.refs.length a.rc, .slice a.tq m.table.length a.tc, .slice a.so m.snaps.length a.sc, .slice a.dq m.data.length a.dc] 32)) 32 (.slice none 0 0) (.slice none 0 0) (.slice none 0 0) (.slice none 0 0)).at (y := w.heap.size + 1) (by simp))
  have HGE : Hid (∀ g, ImB a m ts g → g < w.heap.size) := hide (fun g hg => (ho.ge g hg).2)
  have HRV := hide hv
  have HR24 := hide hr
  have HIN : Hid (∀ j (h : j < t.length), -1000 ≤ t[j] ∧ t[j] ≤ 1000) := hide (fun j h => by have := tbB_at htb j h; omega)
  have HTX := hide (tbB_len htb)
  have HCI := hide (clA_in htb)
  have HCL := hide (clA_len htb)
  have HRA : Hid (imRaise m t = raD m (clA t) (clA t).length) := hide (by rw [raD, List.take_length]; rfl)
  clear ho hI hv htb hr
  go_enter Tryz.func114, Tryz.ntmps114
  go_upto_region 1 with fail
  revert HA HO HT HV HR
  generalize ((w.alloc _).alloc _) = W0
  intro HA HO HT HV HR
  go_wp2_with fail
  refine (l09Clusters_any ao cap t _ (by have := unhide HTX; omega) (unhide HIN) (unhide HT)).mono ?_
  rintro e w1 ⟨v, rfl, ⟨lo, la, rfl, hol⟩, hb1⟩
  have HJ0 : Hid (RaJ w w1 B a m (raD m (clA t) 0) ts) := hide ⟨(unhide HV).below hb1, (unhide HR).below hb1, (unhide HO).below hb1, Keep.of_below (fr (unhide HA) hb1), rfl, rfl, rfl, rfl⟩
  have HL := hide hol
  have HLG : Hid (w.heap.size ≤ W0.heap.size) := hide (unhide HA).size
  clear hol hb1 HV HR HO HT HA
  generalize W0.heap.size = n0 at *
  generalize clA t = L at *
  have hl12 := unhide HCL
  go_wp2
  go_loopw [6] (fun i wr => ∃ k : Nat, k ≤ L.length ∧ i = .int .i64 k ∧ Hid (RaJ w wr B a m (raD m L k) ts) ∧ Hid (RvU (raD m L k).refs (-100) (100 + k)) ∧ Hid (Keep (ImB a m ts) w1 wr)) (fun i _ => L.length - (intOf i).toNat)
  case atStart => exact ⟨0, Nat.zero_le _, rfl, HJ0, hide (by simpa [raD] using unhide HRV), hide (Keep.refl _ _)⟩
  case round =>
    clear HJ0
    obtain ⟨k, hk, rfl, HJ, HU, HK⟩ := hrel
    obtain ⟨c0, c1, c2, c3⟩ := (unhide HJ).v.cells
    by_cases hlt : k < L.length
    · have hlti : (k : Int) < (L.length : Int) := by omega
      have HLk := hide ((unhide HL).keep (unhide HK) (fun g hg hx => by have h1 := ((unhide HL).ge g hg).1; have h2 := unhide HGE g hx; have := unhide HLG; omega))
      obtain ⟨bl, ol, rfl, hcl⟩ := (ownRN (unhide HLk)) k hlt
      obtain ⟨l0, l1⟩ := unhide HCI k hlt
      obtain ⟨c, hcc⟩ := Int.eq_ofNat_of_zero_le l0
      rw [hcc] at hcl
      have hc24 : c < 24 := by omega
      have hc24i : (c : Int) < (m.refs.length : Int) := by have := unhide HR24; omega
      have HST : Hid (raD m L (k + 1) = { raD m L k with refs := incr (raD m L k).refs (c : Int) }) := hide (by
        simp only [raD]
        rw [incr_take hlt, hcc])
      clear hcc l0 l1
      generalize hDD : raD m L k = D at *
      have HDD := hide hDD
      clear hDD
      have hcD : c < D.refs.length := by rw [(unhide HJ).e1]; have := unhide HR24; omega
      obtain ⟨x0, x1⟩ := (unhide HU) c hcD
      obtain ⟨g, eg, hcg, hfg, hig, hst⟩ := (unhide HJ).o.setR hcD
      have hig' : ImB a m ts g := ImB_len (unhide HJ).e1 (unhide HJ).e2 (unhide HJ).e3 (unhide HJ).e4 hig
      have hne1 : w.heap.size ≠ g := by have := unhide HGE g hig'; omega
      have hne2 : w.heap.size + 1 ≠ g := by have := unhide HGE g hig'; omega
      have e : incr D.refs (c : Int) = D.refs.set c (D.refs[c] + 1) := by rw [incr_set]; simp [List.getD, hcD]
      have HJN : Hid (RaJ w (wr.setCell ⟨g, c, none⟩ (.int .i64 (D.refs[c] + 1))) B a m (raD m L (k + 1)) ts) := hide (by
        rw [unhide HST, e]
        exact ⟨(unhide HJ).v.other (p := ⟨g, c, none⟩) hne1 _, (unhide HJ).r.other (p := ⟨g, c, none⟩) hne2 _, hst _, (unhide HJ).k.setCell (p := ⟨g, c, none⟩) (.inl hig') _, by simpa using (unhide HJ).e1, (unhide HJ).e2, (unhide HJ).e3, (unhide HJ).e4⟩)
      have HUN : Hid (RvU (raD m L (k + 1)).refs (-100) (100 + (k + 1 : Nat))) := hide (by
        rw [unhide HST]
        have := (unhide HU).up c hcD (by omega)
        exact fun i hi => ⟨(this i hi).1, Int.le_trans (this i hi).2 (by omega)⟩)
      have HKN := hide ((unhide HK).setCell (p := ⟨g, c, none⟩) hig' (.int .i64 (D.refs[c] + 1)))
      rw [eg] at c0
      clear eg hst hig hig' hne1 hne2 e
      generalize D.refs[c] = X at *
      have hw1 : IntKind.i64.wrap (X + 1) = X + 1 := by rw [IntKind.wrap_i64]; omega
      go_wp2
      go_region
      all_goals
        go_wp2
        go_roundw
        case rel => exact ⟨k + 1, by omega, by go_num, hide (RaJ.drew (unhide HJN)), HUN, hide ((unhide HKN).trans (Keep.of_below (Below.refl _ _).drew))⟩
        case measure => simp [intOf]; omega
    · have hkl : k = L.length := by omega
      subst hkl
      obtain ⟨r0, r1, r2, r3⟩ := (unhide HJ).r.cells
      obtain ⟨z0, z1, z2, z3⟩ := (unhide HJ).r.free
      have HKF : Hid (Keep (fun g => ImB a m ts g ∨ w.heap.size ≤ g) w ((((wr.setCell ⟨w.heap.size + 1, 0, none⟩ (.slice a.ro m.refs.length a.rc)).setCell ⟨w.heap.size + 1, 1, none⟩ (.slice a.tq m.table.length a.tc)).setCell ⟨w.heap.size + 1, 2, none⟩ (.slice a.so m.snaps.length a.sc)).setCell ⟨w.heap.size + 1, 3, none⟩ (.slice a.dq m.data.length a.dc))) := hide
        (((((unhide HJ).k.setCell (p := ⟨w.heap.size + 1, 0, none⟩) (.inr (Nat.le_succ _)) _).setCell (p := ⟨w.heap.size + 1, 1, none⟩) (.inr (Nat.le_succ _)) _).setCell (p := ⟨w.heap.size + 1, 2, none⟩) (.inr (Nat.le_succ _)) _).setCell (p := ⟨w.heap.size + 1, 3, none⟩) (.inr (Nat.le_succ _)) _)
      have HVN := hide ((((unhide HJ).r.set0 (.slice a.ro m.refs.length a.rc)).set1 (.slice a.tq m.table.length a.tc)).set2 (.slice a.so m.snaps.length a.sc) |>.set3 (.slice a.dq m.data.length a.dc))
      have HON := hide ((unhide HJ).o.keep (S := fun g => g = w.heap.size + 1) (((((Keep.refl (fun g => g = w.heap.size + 1) wr).setCell (p := ⟨w.heap.size + 1, 0, none⟩) rfl (.slice a.ro m.refs.length a.rc)).setCell (p := ⟨w.heap.size + 1, 1, none⟩) rfl (.slice a.tq m.table.length a.tc)).setCell (p := ⟨w.heap.size + 1, 2, none⟩) rfl (.slice a.so m.snaps.length a.sc)).setCell (p := ⟨w.heap.size + 1, 3, none⟩) rfl (.slice a.dq m.data.length a.dc)) (fun g hg he => by have := unhide HGE g (ImB_len (unhide HJ).e1 (unhide HJ).e2 (unhide HJ).e3 (unhide HJ).e4 hg); omega))
      go_wp2
      refine bodyPost_ret (res_im Tryz.results114 rfl (unhide HVN)) rfl ⟨rfl, ?_, ?_⟩
      · rw [unhide HRA]; exact unhide HON
      · exact keep_im (unhide HKF) (unhide HGE)

end Go.Proofs.YtpdpnepnfhbonaaGreat

namespace Go.Proofs.YtpdpnepnfhbonaaGreat
open Go.RowKit
set_option linter.unusedVariables false
set_option maxRecDepth 100000

set_option maxHeartbeats 1600000 in
theorem l09Resize_any (ao : Option Addr) (cap : Nat) (xs : List Int) (n : Nat) (w : World) (hn : n ≤ 1000) (hl : xs.length ≤ 1000) (hc : Is w ao xs) :
    Calls Tryz.prog 145 #[.slice ao xs.length cap, .int .i64 n] w fun e w' => ∃ v, e = .returned v ∧ OwnN w' w.heap.size v (rzTo xs n) ∧ Below w.heap.size w w' := by
  obtain ⟨j0, hj, hy0, hy1, hy2⟩ := info_parts infoM
  have HC := hide hc
  have HA : Hid (Below w.heap.size w (w.alloc (.cells #[] 3))) := hide (Joins.below_alloc1 _ _)
  clear hc
  go_enter Tryz.func145, Tryz.ntmps145
  go_wp2
  go_loopw [5, 6] (fun o i wr => ∃ (k : Nat) (qo : Option Addr) (qa : Nat), k ≤ n ∧ i = .int .i64 k ∧ o = .slice qo k qa ∧ Hid (OwnR wr w.heap.size 3 1 (.slice qo k qa) k (intV (rzTo xs k))) ∧ Hid (Below w.heap.size w wr)) (fun _ i _ => n - (intOf i).toNat)
  case atStart => exact ⟨0, _, _, Nat.zero_le _, rfl, rfl, hide (.inl ⟨rfl, rfl, _, rfl⟩), HA⟩
  case round =>
    obtain ⟨k, qo, qa, hk, rfl, rfl, HO, HB⟩ := hrel
    have HSZ := hide (unhide HB).size
    by_cases hlt : k < n
    · have hlti : (k : Int) < (n : Int) := by omega
      by_cases hkx : k < xs.length
      · obtain ⟨b, off, rfl, hcl⟩ := (unhide HC).below (unhide HB) k hkx
        have HS : Hid (rzTo xs (k + 1) = rzTo xs k ++ [xs[k]]) := hide (by rw [rzTo_succ]; simp [List.getD, hkx])
        have HOA := hide ((unhide HO).below (Joins.below_alloc1 _ (.cells #[.int .i64 xs[k]] 3)))
        have HBA := hide (fr (unhide HB) (Joins.below_alloc1 _ (.cells #[.int .i64 xs[k]] 3)))
        go_wp2_with (at_builtin; refine wpList_append_one rfl _ _ 22 rfl w.heap.size 3 j0 (.int .i64 0) 1 8 Tryz.underlying22 hj hy0 hy1 hy2 rfl (by omega) qo k qa (intV (rzTo xs k)) rfl (unhide HOA) (by have := unhide HSZ; simp; omega) ⟨wr.heap.size, 0, none⟩ _ [.int .i64 xs[k]] rfl rfl (byte_news wr _ _) (int_one _) (by unfold maxLen; omega) (by omega) ?_; intro g2 cap2 wA hoA hkA; have HSF := hide (And.intro hoA (keep_below (unhide HBA) (unhide HOA) (Nat.le_refl _) hkA)); clear hoA hkA)
        go_roundw
        case rel => exact ⟨k + 1, some ⟨g2, 0, none⟩, cap2, by omega, by go_num, rfl, hide (.inr ⟨by omega, by rw [unhide HS, intV_snoc]; exact (unhide HSF).1⟩), hide (unhide HSF).2⟩
        case measure => simp [intOf]; omega
      · have hkxi : ¬ (k : Int) < (xs.length : Int) := by omega
        have HS : Hid (rzTo xs (k + 1) = rzTo xs k ++ [0]) := hide (by rw [rzTo_succ]; simp [List.getD, List.getElem?_eq_none (show xs.length ≤ k by omega)])
        have HOA := hide ((unhide HO).below (Joins.below_alloc1 _ (.cells #[.int .i64 0] 3)))
        have HBA := hide (fr (unhide HB) (Joins.below_alloc1 _ (.cells #[.int .i64 0] 3)))
        go_wp2_with (at_builtin; refine wpList_append_one rfl _ _ 22 rfl w.heap.size 3 j0 (.int .i64 0) 1 8 Tryz.underlying22 hj hy0 hy1 hy2 rfl (by omega) qo k qa (intV (rzTo xs k)) rfl (unhide HOA) (by have := unhide HSZ; simp; omega) ⟨wr.heap.size, 0, none⟩ _ [.int .i64 0] rfl rfl (byte_news wr _ _) (int_one _) (by unfold maxLen; omega) (by omega) ?_; intro g2 cap2 wA hoA hkA; have HSF := hide (And.intro hoA (keep_below (unhide HBA) (unhide HOA) (Nat.le_refl _) hkA)); clear hoA hkA)
        go_roundw
        case rel => exact ⟨k + 1, some ⟨g2, 0, none⟩, cap2, by omega, by go_num, rfl, hide (.inr ⟨by omega, by rw [unhide HS, intV_snoc]; exact (unhide HSF).1⟩), hide (unhide HSF).2⟩
        case measure => simp [intOf]; omega
    · obtain rfl : k = n := by omega
      have HLN := hide (rzTo_len xs k)
      go_wp2
      go_ret
      exact ⟨.slice qo k qa, rfl, ⟨qo, qa, by rw [unhide HLN], by rw [unhide HLN]; exact unhide HO⟩, unhide HB⟩

end Go.Proofs.YtpdpnepnfhbonaaGreat
