import Derived.Test.YtkaiglhljpehpacGreatRows
import Derived.Test.YtkaiglhljpehpacGreatPart1
import Derived.Test.YtkaiglhljpehpacGreatPart3
import Derived.Test.YtkaiglhljpehpacGreatPart2
import Derived.Test.YtkaiglhljpehpacGreatPart9
import Derived.Test.YtkaiglhljpehpacGreatPart4
import Derived.Test.YtkaiglhljpehpacGreatPart5
import Derived.Test.YtkaiglhljpehpacGreatPart6
import Derived.Test.YtkaiglhljpehpacGreatPart7
import Derived.Test.YtkaiglhljpehpacGreatImX
import Derived.WalkKit
import Derived.WalkSpells
import Derived.BigQuiet
import Derived.Deep.QuietTactic
import Derived.Deep.RegionWith
import Derived.Deep.Quiet
import Derived.Test.YtkaiglhljpehpacGreatPart8
import Derived.Deep.RegionHeld3

/- An owned image in a variable, the result's variable beside it; l10Write of the model. (Made ahead of stage 10.) -/
namespace Go.Proofs.YtkaiglhljpehpacGreat
open Go.RowKit
set_option linter.unusedVariables false
set_option maxRecDepth 100000

/-- An image of the call's own in a variable, its lists as long as another's; the result's variable beside it. -/
structure ImQ (w W : World) (B : Nat) (a : Im4) (m0 m : Img) (ts : List Value) : Prop where
  v : VarM W w.heap.size 32 (.slice a.ro m0.refs.length a.rc) (.slice a.tq m0.table.length a.tc) (.slice a.so m0.snaps.length a.sc) (.slice a.dq m0.data.length a.dc)
  r : VarM W (w.heap.size + 1) 32 (.slice none 0 0) (.slice none 0 0) (.slice none 0 0) (.slice none 0 0)
  o : OwnIm W B a m ts
  b : Below w.heap.size w W
  hB : w.heap.size + 2 ≤ B
  e1 : m.refs.length = m0.refs.length
  e2 : m.table.length = m0.table.length
  e3 : m.snaps.length = m0.snaps.length
  e4 : m.data.length = m0.data.length
theorem ImQ.val {w W : World} {B : Nat} {a : Im4} {m0 m : Img} {ts : List Value} (h : ImQ w W B a m0 m ts) : imV a m0 = imV a m := by rw [imV, imV, h.e1, h.e2, h.e3, h.e4]

/-- The world behind an image's being put into a variable. -/
abbrev putI (W : World) (x : Nat) (a : Im4) (m : Img) : World := (((W.setCell ⟨x, 0, none⟩ (.slice a.ro m.refs.length a.rc)).setCell ⟨x, 1, none⟩ (.slice a.tq m.table.length a.tc)).setCell ⟨x, 2, none⟩ (.slice a.so m.snaps.length a.sc)).setCell ⟨x, 3, none⟩ (.slice a.dq m.data.length a.dc)
theorem ImQ.put {w W : World} {B : Nat} {v0 v1 v2 v3 : Value} {a : Im4} {m0 m : Img} {ts : List Value} (hv : VarM W w.heap.size 32 v0 v1 v2 v3) (hr : VarM W (w.heap.size + 1) 32 (.slice none 0 0) (.slice none 0 0) (.slice none 0 0) (.slice none 0 0)) (ho : OwnIm W B a m ts) (hb : Below w.heap.size w W) (hB : w.heap.size + 2 ≤ B) (e1 : m.refs.length = m0.refs.length) (e2 : m.table.length = m0.table.length) (e3 : m.snaps.length = m0.snaps.length) (e4 : m.data.length = m0.data.length) : ImQ w (putI W w.heap.size a m0) B a m0 m ts := by
  obtain ⟨h1, h2, h3⟩ := ImSt.put hv ho hb (Nat.le_refl _) (by omega) a m0
  exact ⟨h1, (((hr.other (p := ⟨w.heap.size, 0, none⟩) (by simp) _).other (p := ⟨w.heap.size, 1, none⟩) (by simp) _).other (p := ⟨w.heap.size, 2, none⟩) (by simp) _).other (p := ⟨w.heap.size, 3, none⟩) (by simp) _, h2, h3, hB, e1, e2, e3, e4⟩
theorem ImQ.again {w W : World} {B : Nat} {a : Im4} {m0 m : Img} {ts : List Value} (h : ImQ w W B a m0 m ts) : ImQ w (putI W w.heap.size a m0) B a m0 m ts := ImQ.put h.v h.r h.o h.b h.hB h.e1 h.e2 h.e3 h.e4
theorem ImQ.fin {w W : World} {B : Nat} {a : Im4} {m0 m : Img} {ts : List Value} (h : ImQ w W B a m0 m ts) : VarM (putI W (w.heap.size + 1) a m0) (w.heap.size + 1) 32 (.slice a.ro m0.refs.length a.rc) (.slice a.tq m0.table.length a.tc) (.slice a.so m0.snaps.length a.sc) (.slice a.dq m0.data.length a.dc) ∧ OwnIm (putI W (w.heap.size + 1) a m0) w.heap.size a m ts ∧ Below w.heap.size w (putI W (w.heap.size + 1) a m0) := by
  obtain ⟨h1, h2, h3⟩ := ImSt.put h.r h.o h.b (Nat.le_succ _) (by have := h.hB; omega) a m0
  exact ⟨h1, h2.base (by have := h.hB; omega), h3⟩
theorem ImQ.turn {w W W' : World} {B : Nat} {a : Im4} {m0 m m' : Img} {ts : List Value} (h : ImQ w W B a m0 m ts) (hk : Keep (ImB a m ts) W W') (ho : OwnIm W' B a m' ts) (e1 : m'.refs.length = m.refs.length) (e2 : m'.table.length = m.table.length) (e3 : m'.snaps.length = m.snaps.length) (e4 : m'.data.length = m.data.length) : ImQ w W' B a m0 m' ts :=
  ⟨h.v.keepIm h.o hk, h.r.keepIm h.o hk, ho, h.b.trans (hk.below h.b.size (fun g hg => by have := (h.o.ge g hg).1; have := h.hB; omega)), h.hB, e1.trans h.e1, e2.trans h.e2, e3.trans h.e3, e4.trans h.e4⟩
theorem ImQ.setR {w W : World} {B c : Nat} {a : Im4} {m0 m : Img} {ts : List Value} (h : ImQ w W B a m0 m ts) (hc : c < m.refs.length) : ∃ g, a.ro = some ⟨g, 0, none⟩ ∧ W.cell? ⟨g, c, none⟩ = some (.int .i64 m.refs[c]) ∧ W.frozen? ⟨g, c, none⟩ = false ∧ ∀ y, ImQ w (W.setCell ⟨g, c, none⟩ (.int .i64 y)) B a m0 { m with refs := m.refs.set c y } ts := by
  obtain ⟨g, e, h1, h2, h3, h4⟩ := h.o.setR hc
  exact ⟨g, e, h1, h2, fun y => h.turn ((Keep.refl _ W).setCell (p := ⟨g, c, none⟩) h3 _) (h4 y) (by simp) rfl rfl rfl⟩
theorem ImQ.setT {w W : World} {B c : Nat} {a : Im4} {m0 m : Img} {ts : List Value} (h : ImQ w W B a m0 m ts) (hc : c < m.table.length) : ∃ g, a.tq = some ⟨g, 0, none⟩ ∧ W.cell? ⟨g, c, none⟩ = some (.int .i64 m.table[c]) ∧ W.frozen? ⟨g, c, none⟩ = false ∧ ∀ y, ImQ w (W.setCell ⟨g, c, none⟩ (.int .i64 y)) B a m0 { m with table := m.table.set c y } ts := by
  obtain ⟨g, e, h1, h2, h3, h4⟩ := h.o.setT hc
  exact ⟨g, e, h1, h2, fun y => h.turn ((Keep.refl _ W).setCell (p := ⟨g, c, none⟩) h3 _) (h4 y) rfl (by simp) rfl rfl⟩
theorem ImQ.setD {w W : World} {B c : Nat} {a : Im4} {m0 m : Img} {ts : List Value} (h : ImQ w W B a m0 m ts) (hc : c < m.data.length) : ∃ g, a.dq = some ⟨g, 0, none⟩ ∧ W.cell? ⟨g, c, none⟩ = some (.int .i64 m.data[c]) ∧ W.frozen? ⟨g, c, none⟩ = false ∧ ∀ y, ImQ w (W.setCell ⟨g, c, none⟩ (.int .i64 y)) B a m0 { m with data := m.data.set c y } ts := by
  obtain ⟨g, e, h1, h2, h3, h4⟩ := h.o.setD hc
  exact ⟨g, e, h1, h2, fun y => h.turn ((Keep.refl _ W).setCell (p := ⟨g, c, none⟩) h3 _) (h4 y) rfl rfl rfl (by simp)⟩
theorem imDrop_lens (m : Img) (e : Int) : (imDrop m e).refs.length = m.refs.length ∧ (imDrop m e).table.length = m.table.length ∧ (imDrop m e).snaps.length = m.snaps.length ∧ (imDrop m e).data.length = m.data.length := ⟨imDrop_refs m e, by rw [(imDrop_table m e).1], by rw [(imDrop_table m e).2], imDrop_data m e⟩

/-- What is known of a right image. -/
structure ImM (m : Img) : Prop where
  r : m.refs.length = 24
  d : m.data.length = 24
  t : m.table.length ≤ 12
  s : m.snaps.length ≤ 3
  st : ∀ s ∈ m.snaps, s.table.length ≤ 12 ∧ s.name.size ≤ 6
  tv : ∀ i (h : i < m.table.length), 0 ≤ m.table[i] ∧ m.table[i] ≤ 25
  sv : ∀ s ∈ m.snaps, ∀ i (h : i < s.table.length), 0 ≤ s.table[i] ∧ s.table[i] ≤ 25
  rv : ∀ c (h : c < m.refs.length), 0 ≤ m.refs[c] ∧ m.refs[c] ≤ 15
theorem ImR.M {m : Img} (h : ImR m) : ImM m := by
  refine ⟨ctB_len h.refs, h.len, tbB_len h.table, h.few, fun s hs => ⟨tbB_len (h.snaps s hs).2, ?_⟩, tbB_at h.table, fun s hs => tbB_at (h.snaps s hs).2, ctB_at h.refs⟩
  have := (h.snaps s hs).1
  simp only [snmB, Bool.and_eq_true] at this
  have := betw_iff.1 this.2
  omega
theorem ImM.L {m : Img} (h : ImM m) : ImL m := ⟨by rw [h.r]; unfold maxLen; omega, by have := h.t; unfold maxLen; omega, by have := h.s; unfold maxLen; omega, by rw [h.d]; unfold maxLen; omega⟩
theorem ImM.zs {m : Img} (h : ImM m) : ∀ s ∈ m.snaps, s.name.size ≤ maxLen ∧ s.table.length ≤ maxLen := fun s hs => by have := h.st s hs; unfold maxLen; omega
/-- l10Own at an image like a right one. -/
theorem l10Own_M (a : Im4) (m : Img) (w : World) (hM : ImM m) (hc : ImS w a m) :
    Calls Tryz.prog 21 #[imV a m] w fun e w' => ∃ a' ts, e = .returned (imV a' m) ∧ OwnIm w' w.heap.size a' m ts ∧ Below w.heap.size w w' :=
  l10Own_any a m w ⟨by rw [hM.r]; omega, by have := hM.t; omega, by rw [hM.d]; omega⟩ (fun s hs => by have := (hM.st s hs).1; omega) (by have := hM.s; omega) hc
theorem l10Own_F (a : Im4) (m : Img) (w : World) (hM : ImM m) (hc : ImS w a m) :
    Calls Tryz.prog 21 #[imV a m] w fun e w' => ∃ a' ts, e = .returned (imV a' m) ∧ OwnF w' w.heap.size a' m ts ∧ Below w.heap.size w w' :=
  l10Own_full a m w ⟨by rw [hM.r]; omega, by have := hM.t; omega, by rw [hM.d]; omega⟩ (fun s hs => by have := (hM.st s hs).1; omega) (by have := hM.s; omega) hc
theorem l10Drop_M (a : Im4) (m : Img) (ts : List Value) (B : Nat) (e : Int) (w : World) (he0 : 0 ≤ e) (he1 : e ≤ 25) (hr : m.refs.length = 24) (hd : m.data.length = 24) (hv : ∀ c (h : c < m.refs.length), -1000 ≤ m.refs[c] ∧ m.refs[c] ≤ 1000) (ho : OwnIm w B a m ts) :
    Calls Tryz.prog 76 #[imV a m, .int .i64 e] w fun r w' => r = .returned (imV a m) ∧ OwnIm w' B a (imDrop m e) ts ∧ Keep (ImB a m ts) w w' :=
  l10Drop_any a m ts B e w (by omega) (by omega) (by rw [hr]; omega) (by rw [hd]; omega) ⟨by omega, by omega⟩ hv ho

theorem imWrite_in {m : Img} {g c : Nat} {v : Int} (hg : g < m.table.length) (hc : m.table[g] = (c : Int) + 2) (hr : c < m.refs.length) (h1 : m.refs[c] = 1) : imWrite m g v = ({ m with data := m.data.set c v }, 0) := by
  have e : m.table.getD g 0 = (c : Int) + 2 := by simp [List.getD, hg, hc]
  have e2 : ((c : Int) + 2 - 2).toNat = c := by omega
  have e3 : m.refs.getD c 0 = 1 := by simp [List.getD, hr, h1]
  unfold imWrite
  simp only [e, e2, e3]
  rw [if_pos ⟨by omega, trivial⟩]
theorem imWrite_out {m : Img} {g : Nat} {v : Int} (hg : g < m.table.length) (hn : ¬ (2 ≤ m.table[g] ∧ m.refs.getD (m.table[g] - 2).toNat 0 = 1)) : imWrite m g v = if frN m.refs < m.refs.length then ({ imDrop m m.table[g] with refs := (imDrop m m.table[g]).refs.set (frN m.refs) 1, data := (imDrop m m.table[g]).data.set (frN m.refs) v, table := (imDrop m m.table[g]).table.set g (2 + (frN m.refs : Int)) }, 0) else (m, 7) := by
  have e : m.table.getD g 0 = m.table[g] := by simp [List.getD, hg]
  unfold imWrite
  simp only [e]
  rw [if_neg hn]

set_option maxHeartbeats 1600000 in
theorem l10Write_R (a : Im4) (m : Img) (g : Nat) (v : Int) (R : Img × Int) (w : World) (hR : R = imWrite m g v) (hM : ImM m) (hg : g < m.table.length) (hc : ImS w a m) :
    Calls Tryz.prog 71 #[imV a m, .int .i64 g, .int .i64 v] w fun e w' => ∃ a' ts, e = .returned (.tuple #[imV a' R.1, .int .i64 R.2]) ∧ OwnIm w' w.heap.size a' R.1 ts ∧ Below w.heap.size w w' := by
  have HA := hide (Joins.below_alloc2 w (.cells #[.slice a.ro m.refs.length a.rc, .slice a.tq m.table.length a.tc, .slice a.so m.snaps.length a.sc, .slice a.dq m.data.length a.dc] 32) (.cells #[.slice none 0 0, .slice none 0 0, .slice none 0 0, .slice none 0 0] 32))
  have HC := hide (hc.below (unhide HA))
  have HV := hide ((VarM.new w 32 (.slice a.ro m.refs.length a.rc) (.slice a.tq m.table.length a.tc) (.slice a.so m.snaps.length a.sc) (.slice a.dq m.data.length a.dc)).below (Joins.below_alloc1 _ (.cells #[.slice none 0 0, .slice none 0 0, .slice none 0 0, .slice none 0 0] 32)))
  have HR := hide ((VarM.new (w.alloc (.cells #[.slice a.ro m.refs.length a.rc, .slice a.tq m.table.length a.tc, .slice a.so m.snaps.length a.sc, .slice a.dq m.data.length a.dc] 32)) 32 (.slice none 0 0) (.slice none 0 0) (.slice none 0 0) (.slice none 0 0)).at (y := w.heap.size + 1) (by simp))
  have HM := hide hM
  have hgi : (g : Int) < (m.table.length : Int) := by omega
  have HT12 := hide hM.t
  have HWI : Hid (∀ c (hr : c < m.refs.length), m.table[g] = (c : Int) + 2 → m.refs[c] = 1 → R = ({ m with data := m.data.set c v }, 0)) := hide (fun c hr e h1 => hR.trans (imWrite_in hg e hr h1))
  have HWO := hide (fun hin => hR.trans (imWrite_out (v := v) hg hin))
  clear hc hM hR
  go_enter Tryz.func71, Tryz.ntmps71
  go_upto_region 1 with fail
  revert HA HC HV HR
  generalize ((w.alloc _).alloc _) = W0
  intro HA HC HV HR
  obtain ⟨c0, c1, c2, c3⟩ := (unhide HV).cells
  go_wp2_with fail
  refine (l10Own_M a m _ (unhide HM) (unhide HC)).mono ?_
  rintro e w1 ⟨b, ts, rfl, ho, hb⟩
  have HQ := hide (ImQ.put (w := w) ((unhide HV).below hb) ((unhide HR).below hb) ho (fr (unhide HA) hb) (by have := (unhide HR).lt; omega) (m0 := m) rfl rfl rfl rfl)
  unfold putI at HQ
  obtain ⟨x0, x1, x2, x3⟩ := ((unhide HV).below hb).cells
  obtain ⟨z0, z1, z2, z3⟩ := ((unhide HV).below hb).free
  clear c0 c1 c2 c3 ho hb HV HR HC HA
  go_upto_region 2 with fail
  clear x0 x1 x2 x3 z0 z1 z2 z3
  revert HQ
  generalize (((w1.setCell _ _).setCell _ _).setCell _ _).setCell _ _ = W1
  intro HQ
  obtain ⟨c0, c1, c2, c3⟩ := (unhide HQ).v.cells
  obtain ⟨gt, et, hct, hft, hst⟩ := (unhide HQ).setT hg
  rw [et] at c1
  have ET := hide et
  clear et hst
  obtain ⟨t0, t1⟩ := (unhide HM).tv g hg
  have HTG : Hid (∃ T, T = m.table[g]) := hide ⟨_, rfl⟩
  by_cases hin : 2 ≤ m.table[g] ∧ m.refs.getD (m.table[g] - 2).toNat 0 = 1
  · obtain ⟨c, hcc⟩ : ∃ c : Nat, m.table[g] = (c : Int) + 2 := ⟨(m.table[g] - 2).toNat, by omega⟩
    have hcr : c < m.refs.length := by rw [(unhide HM).r]; omega
    have hcd : c < m.data.length := by rw [(unhide HM).d]; omega
    have hcri : (c : Int) < (m.refs.length : Int) := by omega
    have hcdi : (c : Int) < (m.data.length : Int) := by omega
    have h1 : m.refs[c] = 1 := by
      have := hin.2
      rw [hcc, show ((c : Int) + 2 - 2).toNat = c by omega] at this
      simpa [List.getD, hcr] using this
    have HWR := hide (unhide HWI c hcr hcc h1)
    obtain ⟨gr, er, hcr', hfr, _⟩ := (unhide HQ).setR hcr
    obtain ⟨gd, ed, hcd', hfd, hsd⟩ := (unhide HQ).setD hcd
    rw [h1] at hcr'
    rw [hcc] at hct
    rw [er] at c0
    rw [ed] at c3
    have HQ2 := hide (hsd v)
    have hcb : (c : Int) ≤ 23 := by omega
    have hwc : IntKind.i64.wrap (c : Int) = (c : Int) := by rw [IntKind.wrap_i64]; omega
    have hge : (2 : Int) ≤ (c : Int) + 2 := by omega
    clear hin hcc h1 er ed hsd c2 t0 t1
    go_upto_region 5 with fail
    revert HQ2
    generalize (W1.setCell _ _) = W2
    intro HQ2
    clear c0 c1 c3 hct hft hcr' hfr hcd' hfd
    have HF := hide (unhide HQ2).fin
    obtain ⟨c0, c1, c2, c3⟩ := (unhide HQ2).v.cells
    obtain ⟨r0, r1, r2, r3⟩ := (unhide HQ2).r.cells
    obtain ⟨z0, z1, z2, z3⟩ := (unhide HQ2).r.free
    go_wp2
    refine bodyPost_ret (res_ic Tryz.results71 rfl rfl (unhide HF).1) rfl ?_
    rw [unhide HWR]
    first | exact ⟨b, ts, ret_mi (unhide HQ2).val rfl, (unhide HF).2.1, (unhide HF).2.2⟩ | exact ⟨b, ret_mi (unhide HQ2).val rfl, ⟨ts, (unhide HF).2.1⟩, (unhide HF).2.2⟩
  · have HWR := hide (unhide HWO hin)
    have HRI := hide (ownRN ((unhide HQ).o.rows.own (.slice b.ro m.refs.length b.rc, m.refs) (by simp [imRows])).row)
    have HRM := hide (unhide HM).L.r
    have HTV : Hid (0 ≤ m.table[g] ∧ m.table[g] ≤ 25) := hide ⟨t0, t1⟩
    by_cases hge : 2 ≤ m.table[g]
    obtain ⟨c, hcc⟩ : ∃ c : Nat, m.table[g] = (c : Int) + 2 := ⟨(m.table[g] - 2).toNat, by omega⟩
    have hcr : c < m.refs.length := by rw [(unhide HM).r]; omega
    have hcri : (c : Int) < (m.refs.length : Int) := by omega
    have be : (m.refs[c] == 1) = false := by
      rw [beq_eq_false_iff_ne]
      intro h1
      refine hin ⟨hge, ?_⟩
      rw [hcc, show ((c : Int) + 2 - 2).toNat = c by omega]
      simpa [List.getD, hcr] using h1
    obtain ⟨gr, er, hcr', hfr, _⟩ := (unhide HQ).setR hcr
    have HCC := hide hcc
    rw [hcc] at hct
    rw [er] at c0
    have hcb : (c : Int) ≤ 23 := by omega
    have hwc : IntKind.i64.wrap (c : Int) = (c : Int) := by rw [IntKind.wrap_i64]; omega
    have hge' : (2 : Int) ≤ (c : Int) + 2 := by omega
    clear hin er t0 t1 hge hcc
    generalize m.refs[c] = R at *
    go_upto_region 6 with fail
    rw [← unhide HCC]
    clear c0 c1 c2 c3 hct hft hcr' hfr be hcb hwc hge' hcri hcr HCC
    rotate_left
    generalize hTT : m.table[g] = T at *
    have HTT := hide hTT
    clear hTT
    go_upto_region 6 with fail
    rw [← unhide HTT]
    rw [← unhide HTT] at HTV HWR
    clear c0 c1 c2 c3 hct hft HTT hge
    all_goals
      obtain ⟨c0, c1, c2, c3⟩ := (unhide HQ).v.cells
      by_cases hf : frN m.refs < m.refs.length
      · have HFR : Hid (frI m.refs = (frN m.refs : Int)) := hide (if_pos hf)
        rw [if_pos hf] at HWR
        have HF24 : Hid (frN m.refs < 24) := hide (by have := (unhide HM).r; omega)
        generalize frN m.refs = q at *
        have hq24 := unhide HF24
        go_wp2_with (first | (go_at_call 101; refine (l08Free_any b.ro b.rc m.refs _ (unhide HRM) (unhide HRI)).mono ?_; rintro e w' ⟨rfl, hw⟩; replace hw := hw.symm; subst hw; rw [unhide HFR]) | fail)
        refine (l10Drop_M b m ts _ m.table[g] _ (unhide HTV).1 (unhide HTV).2 (unhide HM).r (unhide HM).d (fun c h => by have := (unhide HM).rv c h; omega) (unhide HQ).o).mono ?_
        rintro e w3 ⟨rfl, ho3, hk3⟩
        have HQ3 := hide ((unhide HQ).turn hk3 ho3 (imDrop_lens _ _).1 (imDrop_lens _ _).2.1 (imDrop_lens _ _).2.2.1 (imDrop_lens _ _).2.2.2)
        have HD24 : Hid ((imDrop m m.table[g]).refs.length = 24 ∧ (imDrop m m.table[g]).data.length = 24 ∧ g < (imDrop m m.table[g]).table.length) := hide ⟨(imDrop_lens _ _).1.trans (unhide HM).r, (imDrop_lens _ _).2.2.2.trans (unhide HM).d, by rw [(imDrop_lens _ _).2.1]; exact hg⟩
        clear ho3 hk3 c0 c1 c2 c3 HRI
        generalize imDrop m m.table[g] = D at *
        have HQ4 := hide (unhide HQ3).again
        unfold putI at HQ4
        obtain ⟨c0, c1, c2, c3⟩ := (unhide HQ3).v.cells
        obtain ⟨z0, z1, z2, z3⟩ := (unhide HQ3).v.free
        have HR24 := hide (unhide HM).r
        have HD24' := hide (unhide HM).d
        go_upto_region 10 with fail
        clear c0 c1 c2 c3 z0 z1 z2 z3
        revert HQ4
        generalize (((w3.setCell _ _).setCell _ _).setCell _ _).setCell _ _ = W4
        intro HQ4
        obtain ⟨c0, c1, c2, c3⟩ := (unhide HQ4).v.cells
        have hqr : (q : Int) < (m.refs.length : Int) := by have := unhide HR24; omega
        have hqd : (q : Int) < (m.data.length : Int) := by have := unhide HD24'; omega
        obtain ⟨g1, e1, hc1, hf1, hs1⟩ := (unhide HQ4).setR (c := q) (by rw [(unhide HD24).1]; omega)
        have HQ5 := hide (hs1 1)
        rw [e1] at c0
        clear e1 hs1
        go_upto_region 11 with fail
        clear c0 c1 c2 c3 hc1 hf1
        revert HQ5
        generalize (W4.setCell _ _) = W5
        intro HQ5
        obtain ⟨c0, c1, c2, c3⟩ := (unhide HQ5).v.cells
        obtain ⟨g2, e2, hc2, hf2, hs2⟩ := (unhide HQ5).setD (c := q) (by show q < D.data.length; rw [(unhide HD24).2.1]; omega)
        have HQ6 := hide (hs2 v)
        rw [e2] at c3
        clear e2 hs2
        go_upto_region 12 with fail
        clear c0 c1 c2 c3 hc2 hf2
        revert HQ6
        generalize (W5.setCell _ _) = W6
        intro HQ6
        obtain ⟨c0, c1, c2, c3⟩ := (unhide HQ6).v.cells
        obtain ⟨g3, e3, hc3, hf3, hs3⟩ := (unhide HQ6).setT (c := g) (unhide HD24).2.2
        have HQ7 := hide (hs3 (2 + (q : Int)))
        rw [e3] at c1
        have hw9 : IntKind.i64.wrap (2 + (q : Int)) = 2 + (q : Int) := by rw [IntKind.wrap_i64]; omega
        clear e3 hs3
        go_upto_region 13 with fail
        clear c0 c1 c2 c3 hc3 hf3
        revert HQ7
        generalize (W6.setCell _ _) = W7
        intro HQ7
        have HF := hide (unhide HQ7).fin
        obtain ⟨c0, c1, c2, c3⟩ := (unhide HQ7).v.cells
        obtain ⟨r0, r1, r2, r3⟩ := (unhide HQ7).r.cells
        obtain ⟨z0, z1, z2, z3⟩ := (unhide HQ7).r.free
        go_wp2
        refine bodyPost_ret (res_ic Tryz.results71 rfl rfl (unhide HF).1) rfl ?_
        rw [unhide HWR]
        first | exact ⟨b, ts, ret_mi (unhide HQ7).val rfl, (unhide HF).2.1, (unhide HF).2.2⟩ | exact ⟨b, ret_mi (unhide HQ7).val rfl, ⟨ts, (unhide HF).2.1⟩, (unhide HF).2.2⟩
      · have HFR : Hid (frI m.refs = -1) := hide (if_neg hf)
        rw [if_neg hf] at HWR
        have HF := hide (unhide HQ).fin
        obtain ⟨r0, r1, r2, r3⟩ := (unhide HQ).r.cells
        obtain ⟨z0, z1, z2, z3⟩ := (unhide HQ).r.free
        go_wp2_with (go_at_call 101; refine (l08Free_any b.ro b.rc m.refs _ (unhide HRM) (unhide HRI)).mono ?_; rintro e w' ⟨rfl, hw⟩; replace hw := hw.symm; subst hw; rw [unhide HFR])
        refine bodyPost_ret (res_ic Tryz.results71 rfl rfl (unhide HF).1) rfl ?_
        rw [unhide HWR]
        first | exact ⟨b, ts, rfl, (unhide HF).2.1, (unhide HF).2.2⟩ | exact ⟨b, rfl, ⟨ts, (unhide HF).2.1⟩, (unhide HF).2.2⟩

theorem l10Write_any (a : Im4) (m : Img) (g : Nat) (v : Int) (w : World) (hM : ImM m) (hg : g < m.table.length) (hc : ImS w a m) :
    Calls Tryz.prog 71 #[imV a m, .int .i64 g, .int .i64 v] w fun e w' => ∃ a' ts, e = .returned (.tuple #[imV a' (imWrite m g v).1, .int .i64 (imWrite m g v).2]) ∧ OwnIm w' w.heap.size a' (imWrite m g v).1 ts ∧ Below w.heap.size w w' := l10Write_R a m g v _ w rfl hM hg hc

end Go.Proofs.YtkaiglhljpehpacGreat

/- What the laws over images carry along. (Made ahead of stage 10.) -/
namespace Go.Proofs.YtkaiglhljpehpacGreat
open Go.RowKit
set_option linter.unusedVariables false
set_option maxRecDepth 100000

/-- How great an image's lists are, for marks. -/
structure ImBd (m : Img) : Prop where
  r : m.refs.length ≤ 1048576
  t : m.table.length ≤ 1048576
  s : m.snaps.length ≤ 1048576
  d : m.data.length ≤ 1048576
  st : ∀ s ∈ m.snaps, s.table.length ≤ 1048576 ∧ s.name.size ≤ 1048576
  k : snK m.snaps ≤ 4194304
theorem snK_sz (ss : List Snp) : snK ss ≤ ss.length + snSz ss := by
  induction ss with
  | nil => exact Nat.le_refl _
  | cons s ss ih =>
    simp only [snK, snSz, List.map_cons, List.sum_cons, List.length_cons] at ih ⊢
    have e : sn1 s = s.name.size + s.table.length := rfl
    omega
theorem ImBd.of {m : Img} (h : imSz m ≤ 1048576) : ImBd m := by
  unfold imSz at h
  refine ⟨by omega, by omega, by omega, by omega, fun s hs => ?_, ?_⟩
  · obtain ⟨i, hi, rfl⟩ := List.mem_iff_getElem.1 hs
    have := sn_le hi
    unfold sn1 at this
    omega
  · have := snK_sz m.snaps
    omega
theorem ImBd.zs {m : Img} (h : ImBd m) : ∀ s ∈ m.snaps, s.name.size ≤ maxLen ∧ s.table.length ≤ maxLen := fun s hs => by have := h.st s hs; unfold maxLen; omega
theorem ImBd.M {m : Img} (h : ImM m) : ImBd m := by
  refine ⟨by rw [h.r]; omega, by have := h.t; omega, by have := h.s; omega, by rw [h.d]; omega, fun s hs => by have := h.st s hs; omega, ?_⟩
  have hs := h.s
  have hst := h.st
  have : ∀ ss : List Snp, (∀ s ∈ ss, s.table.length ≤ 12 ∧ s.name.size ≤ 6) → snK ss ≤ 13 * ss.length := by
    intro ss
    induction ss with
    | nil => intro _; exact Nat.le_refl _
    | cons s ss ih =>
      intro hh
      have h1 := hh s (by simp)
      have h2 := ih (fun s hs => hh s (by simp [hs]))
      simp only [snK, List.map_cons, List.sum_cons, List.length_cons] at h2 ⊢
      omega
  have := this m.snaps hst
  omega
theorem ImBd.zero : ImBd im0 := ⟨by simp [im0], by simp [im0], by simp [im0], by simp [im0], fun s hs => by simp [im0] at hs, by simp [im0, snK]⟩
/-- A variable with an image of its own, whose rows lie behind a place. -/
structure LwV (W : World) (p n : Nat) (a : Im4) (m : Img) (ts : List Value) : Prop where
  v : VarM W p 32 (.slice a.ro m.refs.length a.rc) (.slice a.tq m.table.length a.tc) (.slice a.so m.snaps.length a.sc) (.slice a.dq m.data.length a.dc)
  o : OwnIm W n a m ts
  n : n ≤ W.heap.size
theorem LwV.new (W : World) (a : Im4) (m : Img) {n : Nat} {ts : List Value} (h : OwnIm W n a m ts) (hn : n ≤ W.heap.size) : LwV (W.alloc (.cells #[.slice a.ro m.refs.length a.rc, .slice a.tq m.table.length a.tc, .slice a.so m.snaps.length a.sc, .slice a.dq m.data.length a.dc] 32)) W.heap.size n a m ts :=
  ⟨VarM.new W _ _ _ _ _, h.below (Joins.below_alloc1 _ _), by simp; omega⟩
theorem LwV.below {W W' : World} {p n : Nat} {a : Im4} {m : Img} {ts : List Value} (h : LwV W p n a m ts) (hb : Below W.heap.size W W') : LwV W' p n a m ts := ⟨h.v.below hb, h.o.below hb, Nat.le_trans h.n hb.size⟩
/-- Another image's rows are turned. -/
theorem LwV.keep {W W' : World} {p n q n' : Nat} {a b : Im4} {m m' : Img} {ts us : List Value} (h : LwV W p n a m ts) (h2 : LwV W q n' b m' us) (hk : Keep (ImB b m' us) W W') (hs : ∀ g, ImB a m ts g → ¬ ImB b m' us g) : LwV W' p n a m ts :=
  ⟨h.v.keepIm h2.o hk, h.o.keep hk hs, Nat.le_trans h.n hk.size⟩
theorem OwnIm.otherL {w : World} {B x : Nat} {a : Im4} {m : Img} {ts : List Value} {v0 v1 v2 v3 : Value} (h : OwnIm w B a m ts) (hv : VarM w x 25 v0 v1 v2 v3) : ¬ ImB a m ts x := by
  intro hx
  rcases hx with h1 | h1 | h1 | h1 | ⟨t, ht, h1⟩
  · exact (h.rows.own (.slice a.ro m.refs.length a.rc, m.refs) (by simp [imRows])).row.other hv (by decide) h1
  · exact (h.rows.own (.slice a.tq m.table.length a.tc, m.table) (by simp [imRows])).row.other hv (by decide) h1
  · exact (h.rows.own (.slice a.dq m.data.length a.dc, m.data) (by simp [imRows])).row.other hv (by decide) h1
  · exact h.s.other hv (by decide) h1
  · have hm : t ∈ (ts.zip (m.snaps.map (·.table))).map Prod.fst := by rw [zip_fst _ _ (by rw [List.length_map, h.len])]; exact ht
    obtain ⟨p, hp, rfl⟩ := List.mem_map.1 hm
    exact (h.rows.own p (by simp [imRows, hp])).row.other hv (by decide) h1
theorem toImage_B (a : Im4) (m : Img) (w : World) (h : ImBd m) (hc : ImS w a m) :
    Calls Tryz.prog 7 #[imV a m] w fun e w' => ∃ a' ts, e = .returned (imV a' m) ∧ OwnIm w' w.heap.size a' m ts ∧ Below w.heap.size w w' :=
  toImage_any a m w h.r h.t h.s h.d (fun s hs => (h.st s hs).1) hc
theorem eqImage_B (a b : Im4) (m : Img) (w : World) (h : ImBd m) (h1 : ImS w a m) (h2 : ImS w b m) :
    Calls Tryz.prog 10 #[imV a m, imV b m] w fun e w' => e = .returned (.bool true) ∧ Below w.heap.size w w' :=
  eqImage_same a b m w (by have := h.r; unfold maxLen; omega) (by have := h.t; unfold maxLen; omega) (by have := h.s; unfold maxLen; omega) (by have := h.d; unfold maxLen; omega) h1 h2
theorem markImage_B (a : Im4) (m : Img) (ts : List Value) (B : Nat) (w : World) (h : ImBd m) (ho : OwnIm w B a m ts) :
    Calls Tryz.prog 12 #[imV a m, .int .i64 1] w fun e w' => e = .returned (.int .i64 ((1 + imK m : Nat) : Int)) ∧ OwnIm w' B a (mkIm 1 m) ts ∧ Keep (ImB a m ts) w w' :=
  markImage_any a m ts 1 B w h.r h.t h.s h.d (fun s hs => (h.st s hs).1) h.k (by omega) (by omega) ho
theorem heldImage_B (a : Im4) (m : Img) (ts : List Value) (B : Nat) (w : World) (h : ImBd m) (ho : OwnIm w B a (mkIm 1 m) ts) :
    Calls Tryz.prog 14 #[imV a m, .int .i64 1] w fun e w' => e = .returned (.int .i64 ((1 + imK m : Nat) : Int)) ∧ Below w.heap.size w w' :=
  heldImage_any a m ts 1 B w h.r h.t h.s h.d (fun s hs => (h.st s hs).1) h.k (by omega) (by omega) ho

end Go.Proofs.YtkaiglhljpehpacGreat

/- A region that draws its order, whose operations only read, and whose callees may lay memory of their own: one walk in the order of the text, at the class of worlds behind a given one. -/
namespace Go.Proofs.YtkaiglhljpehpacGreat
open Go.RowKit
set_option linter.unusedVariables false

section
variable {P : Program} {ops : Array Oper}
abbrev CB (W : World) : World → Prop := fun w => Below W.heap.size W w
theorem quiet_val {W : World} {Q : Act → Prop} {a : Act} {o : Oper} {rest : List Oper} (v : Value) (hg : o.guard = none) (hv : ∀ w, Below W.heap.size W w → (execOp a.eval o).run P w = .ok (.value v) w) (h : wpQuiet P ops (CB W) Q rest (a.put o.dst v)) : wpQuiet P ops (CB W) Q (o :: rest) a := by
  refine wpQuiet_step fun K hK => ?_
  rw [if_pos (by simp [Region.wanted, hg])]
  refine ⟨v, fun w hw => ?_, hK _ h⟩
  unfold Oper.quietAt
  rw [hv w hw]
  exact ⟨rfl, rfl⟩
theorem quiet_call {W : World} {Q : Act → Prop} {a : Act} {o : Oper} {rest : List Oper} (v : Value) (f : FuncId) (args : Array Value) (hg : o.guard = none) (hv : ∀ w, (execOp a.eval o).run P w = .ok (.enter f args) w) (hc : ∀ w, Below W.heap.size W w → Calls P f args w fun e w' => e = .returned v ∧ Below w.heap.size w w') (h : wpQuiet P ops (CB W) Q rest (a.put o.dst v)) : wpQuiet P ops (CB W) Q (o :: rest) a := by
  refine wpQuiet_step fun K hK => ?_
  rw [if_pos (by simp [Region.wanted, hg])]
  refine ⟨v, fun w hw => ?_, hK _ h⟩
  unfold Oper.quietAt
  rw [hv w]
  exact ⟨rfl, (hc w hw).mono fun e w' ⟨he, hb⟩ => ⟨he, fr hw hb⟩⟩
theorem wp_region_cb {id : Nat} {Q : Exit → Act → World → Prop} {a : Act} {w : World} {l : List Oper} (hm : P.follows .mixedOrders = true) (hB : Region.lexB .any l.toArray = true)
    (h : wpQuiet P l.toArray (CB w) (fun a' => ∀ w', Below w.heap.size w w' → Q .normal a' w') l a) : (Code.region id l.toArray true).wp P Q a w :=
  wp_region_quiet (C := CB w) hm hB (Below.refl _ w).drew (by simpa using h)
end

end Go.Proofs.YtkaiglhljpehpacGreat

/- Contracts of the model's ReadCluster, WriteCluster. (Made ahead of stage 10.) -/
namespace Go.Proofs.YtkaiglhljpehpacGreat
open Go.RowKit
set_option linter.unusedVariables false
set_option maxRecDepth 100000

/-- What the calls answer. -/
def rcA (m : Img) (g : Int) : Int × Int := if imB m = true then (if betw g 0 ((m.table.length : Int) - 1) = true then (imVal m (m.table.getD g.toNat 0), 0) else (0, 4)) else (0, 1)
def wcA (m : Img) (g v : Int) : Img × Int := if imB m = true then (if betw g 0 ((m.table.length : Int) - 1) = true ∧ numB v = true then imWrite m g.toNat v else (m, 4)) else (im0, 1)
def zcA (m : Img) (g : Int) : Img × Int := if imB m = true then (if betw g 0 ((m.table.length : Int) - 1) = true then (imZero m g.toNat, 0) else (m, 4)) else (im0, 1)
def rsA' (m : Img) (n : Int) : Img × Int := if imB m = true then (if betw n 0 12 = true then (imResize m n.toNat, 0) else (m, 4)) else (im0, 1)
/-- The entry's variable, the result's beside it. -/
structure ImE (w W : World) (a : Im4) (m : Img) : Prop where
  v : VarM W w.heap.size 32 (.slice a.ro m.refs.length a.rc) (.slice a.tq m.table.length a.tc) (.slice a.so m.snaps.length a.sc) (.slice a.dq m.data.length a.dc)
  r : VarM W (w.heap.size + 1) 32 (.slice none 0 0) (.slice none 0 0) (.slice none 0 0) (.slice none 0 0)
  s : ImS W a m
  b : Below w.heap.size w W
theorem ImE.new (w : World) (a : Im4) (m : Img) (h : ImS w a m) : ImE w ((w.alloc (.cells #[.slice a.ro m.refs.length a.rc, .slice a.tq m.table.length a.tc, .slice a.so m.snaps.length a.sc, .slice a.dq m.data.length a.dc] 32)).alloc (.cells #[.slice none 0 0, .slice none 0 0, .slice none 0 0, .slice none 0 0] 32)) a m :=
  ⟨(VarM.new w _ _ _ _ _).below (Joins.below_alloc1 _ _), (VarM.new (w.alloc _) _ _ _ _ _).at (by simp), h.below (Joins.below_alloc2 _ _ _), Joins.below_alloc2 _ _ _⟩
theorem ImE.below {w W W' : World} {a : Im4} {m : Img} (h : ImE w W a m) (hb : Below W.heap.size W W') : ImE w W' a m := ⟨h.v.below hb, h.r.below hb, h.s.below hb, fr h.b hb⟩
/-- A result that is put. -/
theorem ImE.put {w W W' : World} {a : Im4} {m : Img} (h : ImE w W a m) (hb : Below W.heap.size W W') {a' : Im4} {m' : Img} {ts : List Value} (ho : OwnIm W' W.heap.size a' m' ts) :
    VarM (putI W' (w.heap.size + 1) a' m') (w.heap.size + 1) 32 (.slice a'.ro m'.refs.length a'.rc) (.slice a'.tq m'.table.length a'.tc) (.slice a'.so m'.snaps.length a'.sc) (.slice a'.dq m'.data.length a'.dc) ∧ OwnIm (putI W' (w.heap.size + 1) a' m') w.heap.size a' m' ts ∧ Below w.heap.size w (putI W' (w.heap.size + 1) a' m') := by
  obtain ⟨h1, h2, h3⟩ := ImSt.put (h.r.below hb) ho (fr h.b hb) (Nat.le_succ _) h.r.lt a' m'
  exact ⟨h1, h2.base h.b.size, h3⟩
/-- The empty image as a result. -/
theorem ImE.zero {w W : World} {a : Im4} {m : Img} (h : ImE w W a m) :
    VarM ((((W.setCell ⟨w.heap.size + 1, 0, none⟩ (.slice none 0 0)).setCell ⟨w.heap.size + 1, 1, none⟩ (.slice none 0 0)).setCell ⟨w.heap.size + 1, 2, none⟩ (.slice none 0 0)).setCell ⟨w.heap.size + 1, 3, none⟩ (.slice none 0 0)) (w.heap.size + 1) 32 (.slice none 0 0) (.slice none 0 0) (.slice none 0 0) (.slice none 0 0) ∧
    Below w.heap.size w ((((W.setCell ⟨w.heap.size + 1, 0, none⟩ (.slice none 0 0)).setCell ⟨w.heap.size + 1, 1, none⟩ (.slice none 0 0)).setCell ⟨w.heap.size + 1, 2, none⟩ (.slice none 0 0)).setCell ⟨w.heap.size + 1, 3, none⟩ (.slice none 0 0)) :=
  ⟨(((h.r.set0 _).set1 _).set2 _).set3 _, (((h.b.setCell (p := ⟨w.heap.size + 1, 0, none⟩) (Nat.le_succ _) _).setCell (p := ⟨w.heap.size + 1, 1, none⟩) (Nat.le_succ _) _).setCell (p := ⟨w.heap.size + 1, 2, none⟩) (Nat.le_succ _) _).setCell (p := ⟨w.heap.size + 1, 3, none⟩) (Nat.le_succ _) _⟩
/-- An answer: an image of its own and a code. -/
def AnsI (w w' : World) (e : Ending) (R : Img × Int) : Prop := ∃ a ts, e = .returned (.tuple #[imV a R.1, .int .i64 R.2]) ∧ OwnIm w' w.heap.size a R.1 ts ∧ Below w.heap.size w w'
theorem AnsI.of {w w' : World} {v : Value} {c : Int} {R : Img × Int} {a : Im4} {ts : List Value} (hv : v = imV a R.1) (hc : c = R.2) (ho : OwnIm w' w.heap.size a R.1 ts) (hb : Below w.heap.size w w') : AnsI w w' (.returned (.tuple #[v, .int .i64 c])) R := ⟨a, ts, by rw [hv, hc], ho, hb⟩
theorem AnsI.bad {w w' : World} (c : Int) (hb : Below w.heap.size w w') : AnsI w w' (.returned (.tuple #[.agg #[.slice none 0 0, .slice none 0 0, .slice none 0 0, .slice none 0 0], .int .i64 c])) (im0, c) := ⟨⟨none, 0, none, 0, none, 0, none, 0⟩, [], rfl, OwnIm.zero _ _, hb⟩

set_option maxHeartbeats 1600000 in
theorem writeCluster_spec (a : Im4) (m : Img) (g v : Int) (w : World) (hL : ImL m) (hc : ImS w a m) :
    Calls Tryz.prog 43 #[imV a m, .int .i64 g, .int .i64 v] w fun e w' => AnsI w w' e (wcA m g v) := by
  have HE := hide (ImE.new w a m hc)
  have HL := hide hL
  have ht64 : m.table.length ≤ 9223372036854775807 := hL.t
  obtain ⟨R, HR⟩ : ∃ R, Hid (R = wcA m g v) := ⟨_, rfl⟩
  rw [← unhide HR]
  clear hc hL
  go_enter Tryz.func43, Tryz.ntmps43
  go_upto_region 1 with fail
  revert HE
  generalize ((w.alloc _).alloc _) = W0
  intro HE
  obtain ⟨c0, c1, c2, c3⟩ := (unhide HE).v.cells
  go_wp2_with fail
  refine (imageOK_spec a m _ (unhide HL) (unhide HE).s).mono ?_
  rintro e w1 ⟨rfl, hb⟩
  have HE1 := hide ((unhide HE).below hb)
  clear hb c0 c1 c2 c3 HE
  obtain ⟨c0, c1, c2, c3⟩ := (unhide HE1).v.cells
  obtain ⟨r0, r1, r2, r3⟩ := (unhide HE1).r.cells
  obtain ⟨z0, z1, z2, z3⟩ := (unhide HE1).r.free
  cases him : imB m
  · have HX : Hid (R = (im0, 1)) := hide (by rw [unhide HR, wcA, him]; rfl)
    have HZ := hide (unhide HE1).zero
    go_wp2
    refine bodyPost_ret (res_ic Tryz.results43 rfl rfl (unhide HZ).1) rfl ?_
    rw [unhide HX]
    exact AnsI.bad 1 (unhide HZ).2
  have HM := hide (imB_iff.1 him).M
  have hws : IntKind.i64.wrap ((m.table.length : Int) - 1) = (m.table.length : Int) - 1 := by rw [IntKind.wrap_i64]; omega
  by_cases hok : betw g 0 ((m.table.length : Int) - 1) = true ∧ numB v = true
  · have HX : Hid (R = imWrite m g.toNat v) := hide (by rw [unhide HR, wcA, if_pos him, if_pos hok])
    obtain ⟨hg, hn⟩ := hok
    obtain ⟨l0, l1⟩ := betw_iff.1 hg
    obtain ⟨q, rfl⟩ := Int.eq_ofNat_of_zero_le l0
    rw [Int.toNat_natCast] at HX
    have hq : q < m.table.length := by omega
    clear him l0 l1 HR
    go_wp2_with (first | (go_at_call 41; refine (in_any _ _ _ _).mono ?_; rintro e w' ⟨rfl, hw⟩; replace hw := hw.symm; subst hw; rw [hg]) | (go_at_call 69; refine (l02Int_any _ _).mono ?_; rintro e w' ⟨rfl, hw⟩; replace hw := hw.symm; subst hw; rw [hn]))
    refine (l10Write_R a m q v R _ (unhide HX) (unhide HM) hq (unhide HE1).s).mono ?_
    rintro e w2 ⟨b, ts, rfl, ho, hb⟩
    have HP := hide ((unhide HE1).put hb ho)
    have HE2 := hide ((unhide HE1).below hb)
    clear ho hb c0 c1 c2 c3 r0 r1 r2 r3 z0 z1 z2 z3 HX
    obtain ⟨r0, r1, r2, r3⟩ := (unhide HE2).r.cells
    obtain ⟨z0, z1, z2, z3⟩ := (unhide HE2).r.free
    go_wp2
    refine bodyPost_ret (res_ic Tryz.results43 rfl rfl (unhide HP).1) rfl ?_
    exact AnsI.of rfl rfl (unhide HP).2.1 (unhide HP).2.2
  · have HX : Hid (R = (m, 4)) := hide (by rw [unhide HR, wcA, if_pos him, if_neg hok])
    clear him HR
    cases hg : betw g 0 ((m.table.length : Int) - 1)
    · clear hok
      go_wp2_with (first | (go_at_call 41; refine (in_any _ _ _ _).mono ?_; rintro e w' ⟨rfl, hw⟩; replace hw := hw.symm; subst hw; rw [hg]) | fail)
      refine (l10Own_M a m _ (unhide HM) (unhide HE1).s).mono ?_
      rintro e w2 ⟨b, ts, rfl, ho, hb⟩
      have HP := hide ((unhide HE1).put hb ho)
      have HE2 := hide ((unhide HE1).below hb)
      clear ho hb c0 c1 c2 c3 r0 r1 r2 r3 z0 z1 z2 z3
      obtain ⟨r0, r1, r2, r3⟩ := (unhide HE2).r.cells
      obtain ⟨z0, z1, z2, z3⟩ := (unhide HE2).r.free
      go_wp2
      refine bodyPost_ret (res_ic Tryz.results43 rfl rfl (unhide HP).1) rfl ?_
      rw [unhide HX]
      exact AnsI.of (R := (m, 4)) rfl rfl (unhide HP).2.1 (unhide HP).2.2
    · have hn : numB v = false := by rw [hg] at hok; simpa using hok
      clear hok
      go_wp2_with (first | (go_at_call 41; refine (in_any _ _ _ _).mono ?_; rintro e w' ⟨rfl, hw⟩; replace hw := hw.symm; subst hw; rw [hg]) | (go_at_call 69; refine (l02Int_any _ _).mono ?_; rintro e w' ⟨rfl, hw⟩; replace hw := hw.symm; subst hw; rw [hn]))
      refine (l10Own_M a m _ (unhide HM) (unhide HE1).s).mono ?_
      rintro e w2 ⟨b, ts, rfl, ho, hb⟩
      have HP := hide ((unhide HE1).put hb ho)
      have HE2 := hide ((unhide HE1).below hb)
      clear ho hb c0 c1 c2 c3 r0 r1 r2 r3 z0 z1 z2 z3
      obtain ⟨r0, r1, r2, r3⟩ := (unhide HE2).r.cells
      obtain ⟨z0, z1, z2, z3⟩ := (unhide HE2).r.free
      go_wp2
      refine bodyPost_ret (res_ic Tryz.results43 rfl rfl (unhide HP).1) rfl ?_
      rw [unhide HX]
      exact AnsI.of (R := (m, 4)) rfl rfl (unhide HP).2.1 (unhide HP).2.2

end Go.Proofs.YtkaiglhljpehpacGreat
