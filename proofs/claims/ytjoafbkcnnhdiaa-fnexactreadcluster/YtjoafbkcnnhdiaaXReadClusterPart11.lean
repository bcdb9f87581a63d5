import Derived.Test.YtjoafbkcnnhdiaaRows
import Derived.Test.YtjoafbkcnnhdiaaXReadClusterPart1
import Derived.Test.YtjoafbkcnnhdiaaXReadClusterPart2
import Derived.Test.YtjoafbkcnnhdiaaXReadClusterPart3
import Derived.Test.YtjoafbkcnnhdiaaXReadClusterPart4
import Derived.Test.YtjoafbkcnnhdiaaXReadClusterPart5
import Derived.Test.YtjoafbkcnnhdiaaXReadClusterPart6
import Derived.Test.YtjoafbkcnnhdiaaXReadClusterPart10
import Derived.Test.YtjoafbkcnnhdiaaXReadClusterPart7
import Derived.WalkKit
import Derived.WalkSpells
import Derived.BigQuiet
import Derived.Deep.QuietTactic
import Derived.Deep.RegionWith
import Derived.Deep.RegionHeld3
import Derived.KernelRfl
import Derived.Laws.CopyRow
import Derived.Laws.CopyOwn
import Derived.LoopN
import Derived.Deep.CutRange
import Derived.Laws.ResultCell
import Derived.Laws.Cover3
import Derived.Deep.MidRow

/- Contracts of the model's ReadCluster, WriteCluster. (Made ahead of stage 10.) -/
namespace Go.Proofs.Ytjoafbkcnnhdiaa
open Go.RowKit
set_option linter.unusedVariables false
set_option maxRecDepth 100000

/-- What the calls answer. -/
def rcA (m : Img) (g : Int) : Int × Int := if imB m = true then (if betw g 0 ((m.table.length : Int) - 1) = true then (imVal m (m.table.getD g.toNat 0), 0) else (0, 4)) else (0, 1)
def wcA (m : Img) (g v : Int) : Img × Int := if imB m = true then (if betw g 0 ((m.table.length : Int) - 1) = true ∧ numB v = true then imWrite m g.toNat v else (m, 4)) else (im0, 1)
def zcA (m : Img) (g : Int) : Img × Int := if imB m = true then (if betw g 0 ((m.table.length : Int) - 1) = true then (imZero m g.toNat, 0) else (m, 4)) else (im0, 1)
def rsA' (m : Img) (n : Int) : Img × Int := if imB m = true then (if betw n 0 12 = true then (imResize m n.toNat, 0) else (m, 4)) else (im0, 1)
/-- The entry's variable, the result's beside it. -/
structure ImE (w W : World) (a : Im4) (m : Img) : Prop where
  v : VarM W w.heap.size 35 (.slice a.ro m.refs.length a.rc) (.slice a.tq m.table.length a.tc) (.slice a.so m.snaps.length a.sc) (.slice a.dq m.data.length a.dc)
  r : VarM W (w.heap.size + 1) 35 (.slice none 0 0) (.slice none 0 0) (.slice none 0 0) (.slice none 0 0)
  s : ImS W a m
  b : Below w.heap.size w W
theorem ImE.new (w : World) (a : Im4) (m : Img) (h : ImS w a m) : ImE w ((w.alloc (.cells #[.slice a.ro m.refs.length a.rc, .slice a.tq m.table.length a.tc, .slice a.so m.snaps.length a.sc, .slice a.dq m.data.length a.dc] 35)).alloc (.cells #[.slice none 0 0, .slice none 0 0, .slice none 0 0, .slice none 0 0] 35)) a m :=
  ⟨(VarM.new w _ _ _ _ _).below (Joins.below_alloc1 _ _), (VarM.new (w.alloc _) _ _ _ _ _).at (by simp), h.below (Joins.below_alloc2 _ _ _), Joins.below_alloc2 _ _ _⟩
theorem ImE.below {w W W' : World} {a : Im4} {m : Img} (h : ImE w W a m) (hb : Below W.heap.size W W') : ImE w W' a m := ⟨h.v.below hb, h.r.below hb, h.s.below hb, fr h.b hb⟩
/-- A result that is put. -/
theorem ImE.put {w W W' : World} {a : Im4} {m : Img} (h : ImE w W a m) (hb : Below W.heap.size W W') {a' : Im4} {m' : Img} {ts : List Value} (ho : OwnIm W' W.heap.size a' m' ts) :
    VarM (putI W' (w.heap.size + 1) a' m') (w.heap.size + 1) 35 (.slice a'.ro m'.refs.length a'.rc) (.slice a'.tq m'.table.length a'.tc) (.slice a'.so m'.snaps.length a'.sc) (.slice a'.dq m'.data.length a'.dc) ∧ OwnIm (putI W' (w.heap.size + 1) a' m') w.heap.size a' m' ts ∧ Below w.heap.size w (putI W' (w.heap.size + 1) a' m') := by
  obtain ⟨h1, h2, h3⟩ := ImSt.put (h.r.below hb) ho (fr h.b hb) (Nat.le_succ _) h.r.lt a' m'
  exact ⟨h1, h2.base h.b.size, h3⟩
/-- The empty image as a result. -/
theorem ImE.zero {w W : World} {a : Im4} {m : Img} (h : ImE w W a m) :
    VarM ((((W.setCell ⟨w.heap.size + 1, 0, none⟩ (.slice none 0 0)).setCell ⟨w.heap.size + 1, 1, none⟩ (.slice none 0 0)).setCell ⟨w.heap.size + 1, 2, none⟩ (.slice none 0 0)).setCell ⟨w.heap.size + 1, 3, none⟩ (.slice none 0 0)) (w.heap.size + 1) 35 (.slice none 0 0) (.slice none 0 0) (.slice none 0 0) (.slice none 0 0) ∧
    Below w.heap.size w ((((W.setCell ⟨w.heap.size + 1, 0, none⟩ (.slice none 0 0)).setCell ⟨w.heap.size + 1, 1, none⟩ (.slice none 0 0)).setCell ⟨w.heap.size + 1, 2, none⟩ (.slice none 0 0)).setCell ⟨w.heap.size + 1, 3, none⟩ (.slice none 0 0)) :=
  ⟨(((h.r.set0 _).set1 _).set2 _).set3 _, (((h.b.setCell (p := ⟨w.heap.size + 1, 0, none⟩) (Nat.le_succ _) _).setCell (p := ⟨w.heap.size + 1, 1, none⟩) (Nat.le_succ _) _).setCell (p := ⟨w.heap.size + 1, 2, none⟩) (Nat.le_succ _) _).setCell (p := ⟨w.heap.size + 1, 3, none⟩) (Nat.le_succ _) _⟩
/-- An answer: an image of its own and a code. -/
def AnsI (w w' : World) (e : Ending) (R : Img × Int) : Prop := ∃ a ts, e = .returned (.tuple #[imV a R.1, .int .i64 R.2]) ∧ OwnIm w' w.heap.size a R.1 ts ∧ Below w.heap.size w w'
theorem AnsI.of {w w' : World} {v : Value} {c : Int} {R : Img × Int} {a : Im4} {ts : List Value} (hv : v = imV a R.1) (hc : c = R.2) (ho : OwnIm w' w.heap.size a R.1 ts) (hb : Below w.heap.size w w') : AnsI w w' (.returned (.tuple #[v, .int .i64 c])) R := ⟨a, ts, by rw [hv, hc], ho, hb⟩
theorem AnsI.bad {w w' : World} (c : Int) (hb : Below w.heap.size w w') : AnsI w w' (.returned (.tuple #[.agg #[.slice none 0 0, .slice none 0 0, .slice none 0 0, .slice none 0 0], .int .i64 c])) (im0, c) := ⟨⟨none, 0, none, 0, none, 0, none, 0⟩, [], rfl, OwnIm.zero _ _, hb⟩

set_option maxHeartbeats 1600000 in
theorem readCluster_spec (a : Im4) (m : Img) (g : Int) (w : World) (hL : ImL m) (hc : ImS w a m) :
    Calls Try.prog 19 #[imV a m, .int .i64 g] w fun e w' => e = .returned (.tuple #[.int .i64 (rcA m g).1, .int .i64 (rcA m g).2]) ∧ Below w.heap.size w w' := by
  have HA := hide (Joins.below_alloc1 w (.cells #[.slice a.ro m.refs.length a.rc, .slice a.tq m.table.length a.tc, .slice a.so m.snaps.length a.sc, .slice a.dq m.data.length a.dc] 35))
  have HV := hide (VarM.new w 35 (.slice a.ro m.refs.length a.rc) (.slice a.tq m.table.length a.tc) (.slice a.so m.snaps.length a.sc) (.slice a.dq m.data.length a.dc))
  have HC := hide (hc.below (unhide HA))
  have HL := hide hL
  have ht64 : m.table.length ≤ 9223372036854775807 := hL.t
  obtain ⟨R, HR⟩ : ∃ R, Hid (R = rcA m g) := ⟨_, rfl⟩
  rw [← unhide HR]
  clear hc hL
  go_enter Try.func19, Try.ntmps19
  go_upto_region 1 with fail
  revert HA HV HC
  generalize (w.alloc _) = W0
  intro HA HV HC
  obtain ⟨c0, c1, c2, c3⟩ := (unhide HV).cells
  go_wp2_with fail
  refine (imageOK_spec a m _ (unhide HL) (unhide HC)).mono ?_
  rintro e w1 ⟨rfl, hb⟩
  have HB1 := hide (fr (unhide HA) hb)
  have HC1 := hide ((unhide HC).below hb)
  have HV1 := hide ((unhide HV).below hb)
  clear hb c0 c1 c2 c3 HA HV HC
  cases him : imB m
  · have HE : Hid (R = (0, 1)) := hide (by rw [unhide HR, rcA, him]; rfl)
    go_wp2
    go_ret2
    exact ⟨by rw [unhide HE]; rfl, unhide HB1⟩
  obtain ⟨c0, c1, c2, c3⟩ := (unhide HV1).cells
  have hws : IntKind.i64.wrap ((m.table.length : Int) - 1) = (m.table.length : Int) - 1 := by rw [IntKind.wrap_i64]; omega
  cases hg : betw g 0 ((m.table.length : Int) - 1)
  · have HE : Hid (R = (0, 4)) := hide (by rw [unhide HR, rcA, him, hg]; rfl)
    go_wp2_with (go_at_call 42; refine (in_any _ _ _ _).mono ?_; rintro e w' ⟨rfl, hw⟩; replace hw := hw.symm; subst hw; rw [hg])
    go_ret2
    exact ⟨by rw [unhide HE]; rfl, unhide HB1⟩
  · obtain ⟨l0, l1⟩ := betw_iff.1 hg
    obtain ⟨q, rfl⟩ := Int.eq_ofNat_of_zero_le l0
    have hq : q < m.table.length := by omega
    have hqi : (q : Int) < (m.table.length : Int) := by omega
    have HM := hide (imB_iff.1 him).M
    have HE : Hid (R = (imVal m m.table[q], 0)) := hide (by
      rw [unhide HR, rcA, if_pos him, if_pos hg, Int.toNat_natCast]
      simp [List.getD, hq])
    obtain ⟨t0, t1⟩ := (unhide HM).tv q hq
    have HTV := hide (And.intro t0 t1)
    obtain ⟨b, off, et, hct⟩ := (unhide HC1).t q hq
    have ct : w1.cell? ⟨w.heap.size, 1, none⟩ = some (.slice (some ⟨b, off, none⟩) m.table.length a.tc) := by rw [← et]; exact c1
    have HAV : Hid (imV a m = .agg #[.slice a.ro m.refs.length a.rc, .slice (some ⟨b, off, none⟩) m.table.length a.tc, .slice a.so m.snaps.length a.sc, .slice a.dq m.data.length a.dc]) := hide (by rw [imV, et])
    have hbl := World.block_lt_of_cell? _ _ hct
    have HD := hide (unhide HM).d
    have hil := (unhide HV1).lt
    clear et c1 him t0 t1 l0 l1 HR
    generalize m.table[q] = T at *
    have HCALL : Hid (∀ W, Below w1.heap.size w1 W → Calls Try.prog 43 #[.agg #[.slice a.ro m.refs.length a.rc, .slice (some ⟨b, off, none⟩) m.table.length a.tc, .slice a.so m.snaps.length a.sc, .slice a.dq m.data.length a.dc], .int .i64 T] W fun e w' => e = .returned (.int .i64 (imVal m T)) ∧ Below W.heap.size W w') := hide (fun W hW => by rw [← unhide HAV]; exact l10Value_any a m T W (unhide HTV).1 (by rw [unhide HD]; have := (unhide HTV).2; omega) (by rw [unhide HD]; omega) ((unhide HC1).d.below hW))
    generalize hVV : imVal m T = V at *
    clear hVV
    go_upto_region 5 with (go_at_call 42; refine (in_any _ _ _ _).mono ?_; rintro e w' ⟨rfl, hw⟩; replace hw := hw.symm; subst hw; rw [hg])
    have HCELL : Hid (∀ W, Below w1.heap.size w1 W → W.cell? ⟨w.heap.size, 0, none⟩ = some (.slice a.ro m.refs.length a.rc) ∧ W.cell? ⟨w.heap.size, 1, none⟩ = some (.slice (some ⟨b, off, none⟩) m.table.length a.tc) ∧ W.cell? ⟨w.heap.size, 2, none⟩ = some (.slice a.so m.snaps.length a.sc) ∧ W.cell? ⟨w.heap.size, 3, none⟩ = some (.slice a.dq m.data.length a.dc) ∧ W.cell? ⟨b, off + q, none⟩ = some (.int .i64 T)) := hide (fun W hW => ⟨(hW.cell (p := ⟨w.heap.size, 0, none⟩) hil).trans c0, (hW.cell (p := ⟨w.heap.size, 1, none⟩) hil).trans ct, (hW.cell (p := ⟨w.heap.size, 2, none⟩) hil).trans c2, (hW.cell (p := ⟨w.heap.size, 3, none⟩) hil).trans c3, (hW.cell (p := ⟨b, off + q, none⟩) hbl).trans hct⟩)
    clear c0 ct c2 c3 hct
    refine wp_region_cb (by kernel_rfl) (by kernel_rfl) ?_
    refine quiet_val (.agg #[.slice a.ro m.refs.length a.rc, .slice (some ⟨b, off, none⟩) m.table.length a.tc, .slice a.so m.snaps.length a.sc, .slice a.dq m.data.length a.dc]) rfl (fun W hW => by obtain ⟨k0, k1, k2, k3, k4⟩ := unhide HCELL W hW; go_simp) ?_
    refine quiet_val (.pointer (some ⟨w.heap.size, 1, none⟩)) rfl (fun W hW => by go_simp) ?_
    refine quiet_val (.slice (some ⟨b, off, none⟩) m.table.length a.tc) rfl (fun W hW => by obtain ⟨k0, k1, k2, k3, k4⟩ := unhide HCELL W hW; go_simp) ?_
    refine quiet_val (.int .i64 q) rfl (fun W hW => by go_simp) ?_
    refine quiet_val (.pointer (some ⟨b, off + q, none⟩)) rfl (fun W hW => by go_simp) ?_
    refine quiet_val (.int .i64 T) rfl (fun W hW => by obtain ⟨k0, k1, k2, k3, k4⟩ := unhide HCELL W hW; go_simp) ?_
    refine quiet_call (.int .i64 V) 43 #[.agg #[.slice a.ro m.refs.length a.rc, .slice (some ⟨b, off, none⟩) m.table.length a.tc, .slice a.so m.snaps.length a.sc, .slice a.dq m.data.length a.dc], .int .i64 T] rfl (fun W => by go_simp) (fun W hW => unhide HCALL W hW) ?_
    refine quiet_val (.int .i64 V) rfl (fun W hW => by go_simp) ?_
    refine quiet_val (.int .i64 0) rfl (fun W hW => by go_simp) ?_
    refine wpQuiet_nil fun w2 hb2 => ?_
    have HB2 := hide hb2
    clear hb2
    go_wp2
    go_ret2
    exact ⟨by rw [unhide HE]; simp [go_sem], fr (unhide HB1) (unhide HB2)⟩

set_option maxHeartbeats 1600000 in
theorem writeCluster_spec (a : Im4) (m : Img) (g v : Int) (w : World) (hL : ImL m) (hc : ImS w a m) :
    Calls Try.prog 21 #[imV a m, .int .i64 g, .int .i64 v] w fun e w' => AnsI w w' e (wcA m g v) := by
  have HE := hide (ImE.new w a m hc)
  have HL := hide hL
  have ht64 : m.table.length ≤ 9223372036854775807 := hL.t
  obtain ⟨R, HR⟩ : ∃ R, Hid (R = wcA m g v) := ⟨_, rfl⟩
  rw [← unhide HR]
  clear hc hL
  go_enter Try.func21, Try.ntmps21
  go_upto_region 1 with fail
  revert HE
  generalize ((w.alloc _).alloc _) = W0
  intro HE
  obtain ⟨c0, c1, c2, c3⟩ := (unhide HE).v.cells
  go_wp2_with fail
  refine (imageOK_spec a m _ (unhide HL) (unhide HE).s).mono ?_
  rintro e w1 ⟨rfl, hb⟩
  have HE1 := hide ((unhide HE).below hb)
  clear hb c0 c1 c2 c3 HE
  obtain ⟨c0, c1, c2, c3⟩ := (unhide HE1).v.cells
  obtain ⟨r0, r1, r2, r3⟩ := (unhide HE1).r.cells
  obtain ⟨z0, z1, z2, z3⟩ := (unhide HE1).r.free
  cases him : imB m
  · have HX : Hid (R = (im0, 1)) := hide (by rw [unhide HR, wcA, him]; rfl)
    have HZ := hide (unhide HE1).zero
    go_wp2
    refine bodyPost_ret (res_ic Try.results21 rfl rfl (unhide HZ).1) rfl ?_
    rw [unhide HX]
    exact AnsI.bad 1 (unhide HZ).2
  have HM := hide (imB_iff.1 him).M
  have hws : IntKind.i64.wrap ((m.table.length : Int) - 1) = (m.table.length : Int) - 1 := by rw [IntKind.wrap_i64]; omega
  by_cases hok : betw g 0 ((m.table.length : Int) - 1) = true ∧ numB v = true
  · have HX : Hid (R = imWrite m g.toNat v) := hide (by rw [unhide HR, wcA, if_pos him, if_pos hok])
    obtain ⟨hg, hn⟩ := hok
    obtain ⟨l0, l1⟩ := betw_iff.1 hg
    obtain ⟨q, rfl⟩ := Int.eq_ofNat_of_zero_le l0
    rw [Int.toNat_natCast] at HX
    have hq : q < m.table.length := by omega
    clear him l0 l1 HR
    go_wp2_with (first | (go_at_call 42; refine (in_any _ _ _ _).mono ?_; rintro e w' ⟨rfl, hw⟩; replace hw := hw.symm; subst hw; rw [hg]) | (go_at_call 45; refine (l02Int_any _ _).mono ?_; rintro e w' ⟨rfl, hw⟩; replace hw := hw.symm; subst hw; rw [hn]))
    refine (l10Write_R a m q v R _ (unhide HX) (unhide HM) hq (unhide HE1).s).mono ?_
    rintro e w2 ⟨b, ts, rfl, ho, hb⟩
    have HP := hide ((unhide HE1).put hb ho)
    have HE2 := hide ((unhide HE1).below hb)
    clear ho hb c0 c1 c2 c3 r0 r1 r2 r3 z0 z1 z2 z3 HX
    obtain ⟨r0, r1, r2, r3⟩ := (unhide HE2).r.cells
    obtain ⟨z0, z1, z2, z3⟩ := (unhide HE2).r.free
    go_wp2
    refine bodyPost_ret (res_ic Try.results21 rfl rfl (unhide HP).1) rfl ?_
    exact AnsI.of rfl rfl (unhide HP).2.1 (unhide HP).2.2
  · have HX : Hid (R = (m, 4)) := hide (by rw [unhide HR, wcA, if_pos him, if_neg hok])
    clear him HR
    cases hg : betw g 0 ((m.table.length : Int) - 1)
    · clear hok
      go_wp2_with (first | (go_at_call 42; refine (in_any _ _ _ _).mono ?_; rintro e w' ⟨rfl, hw⟩; replace hw := hw.symm; subst hw; rw [hg]) | fail)
      refine (l10Own_M a m _ (unhide HM) (unhide HE1).s).mono ?_
      rintro e w2 ⟨b, ts, rfl, ho, hb⟩
      have HP := hide ((unhide HE1).put hb ho)
      have HE2 := hide ((unhide HE1).below hb)
      clear ho hb c0 c1 c2 c3 r0 r1 r2 r3 z0 z1 z2 z3
      obtain ⟨r0, r1, r2, r3⟩ := (unhide HE2).r.cells
      obtain ⟨z0, z1, z2, z3⟩ := (unhide HE2).r.free
      go_wp2
      refine bodyPost_ret (res_ic Try.results21 rfl rfl (unhide HP).1) rfl ?_
      rw [unhide HX]
      exact AnsI.of (R := (m, 4)) rfl rfl (unhide HP).2.1 (unhide HP).2.2
    · have hn : numB v = false := by rw [hg] at hok; simpa using hok
      clear hok
      go_wp2_with (first | (go_at_call 42; refine (in_any _ _ _ _).mono ?_; rintro e w' ⟨rfl, hw⟩; replace hw := hw.symm; subst hw; rw [hg]) | (go_at_call 45; refine (l02Int_any _ _).mono ?_; rintro e w' ⟨rfl, hw⟩; replace hw := hw.symm; subst hw; rw [hn]))
      refine (l10Own_M a m _ (unhide HM) (unhide HE1).s).mono ?_
      rintro e w2 ⟨b, ts, rfl, ho, hb⟩
      have HP := hide ((unhide HE1).put hb ho)
      have HE2 := hide ((unhide HE1).below hb)
      clear ho hb c0 c1 c2 c3 r0 r1 r2 r3 z0 z1 z2 z3
      obtain ⟨r0, r1, r2, r3⟩ := (unhide HE2).r.cells
      obtain ⟨z0, z1, z2, z3⟩ := (unhide HE2).r.free
      go_wp2
      refine bodyPost_ret (res_ic Try.results21 rfl rfl (unhide HP).1) rfl ?_
      rw [unhide HX]
      exact AnsI.of (R := (m, 4)) rfl rfl (unhide HP).2.1 (unhide HP).2.2

end Go.Proofs.Ytjoafbkcnnhdiaa

/- The walk of laws.FnExactReadCluster, given what both functions answer. (Made ahead of stage 10; written by gens/lawim.py.) -/
namespace Go.Proofs.Ytjoafbkcnnhdiaa
open Go.RowKit
set_option linter.unusedVariables false
set_option maxRecDepth 100000

structure LqJReadCluster (Wq : World) (AX AA : Value) (m : Img) (d : Nat → Bool) (w : World) (s39 s40 s41 s42 s43 : Value) : Prop where
  bw : Below Wq.heap.size Wq w
  p2 : d 2 = true → ∃ a1 ts, s41 = imV a1 m ∧ OwnIm w Wq.heap.size a1 m ts
  f0 : d 0 = true → s39 = AX
  f1 : d 1 = true → s40 = AA
  f3 : d 3 = true → s42 = .bool true
  f4 : d 4 = true → s43 = .bool false

theorem LqJReadCluster.s0 {Wq : World} {AX AA : Value} {m : Img} {d : Nat → Bool} {w : World} {s39 s40 s41 s42 s43 v : Value} (I : LqJReadCluster Wq AX AA m d w s39 s40 s41 s42 s43) (hd : d 0 = false) (hv : v = AX) : LqJReadCluster Wq AX AA m (updD d 0) w v s40 s41 s42 s43 where
  bw := I.bw
  p2 := fun h => I.p2 (upd_ne (by decide) h)
  f0 := fun _ => hv
  f1 := fun h => I.f1 (upd_ne (by decide) h)
  f3 := fun h => I.f3 (upd_ne (by decide) h)
  f4 := fun h => I.f4 (upd_ne (by decide) h)

theorem LqJReadCluster.s1 {Wq : World} {AX AA : Value} {m : Img} {d : Nat → Bool} {w : World} {s39 s40 s41 s42 s43 v : Value} (I : LqJReadCluster Wq AX AA m d w s39 s40 s41 s42 s43) (hd : d 1 = false) (hv : v = AA) : LqJReadCluster Wq AX AA m (updD d 1) w s39 v s41 s42 s43 where
  bw := I.bw
  p2 := fun h => I.p2 (upd_ne (by decide) h)
  f0 := fun h => I.f0 (upd_ne (by decide) h)
  f1 := fun _ => hv
  f3 := fun h => I.f3 (upd_ne (by decide) h)
  f4 := fun h => I.f4 (upd_ne (by decide) h)

theorem LqJReadCluster.s2 {Wq : World} {AX AA : Value} {m : Img} {d : Nat → Bool} {w w2 : World} {s39 s40 s41 s42 s43 v : Value} (I : LqJReadCluster Wq AX AA m d w s39 s40 s41 s42 s43) (hd : d 2 = false) (hb : Below w.heap.size w w2) {a1 : Im4} {ts : List Value} (hv : v = imV a1 m) (ho : OwnIm w2 Wq.heap.size a1 m ts) : LqJReadCluster Wq AX AA m (updD d 2) w2 s39 s40 v s42 s43 where
  bw := fr I.bw hb
  p2 := fun _ => ⟨a1, ts, hv, ho⟩
  f0 := fun h => I.f0 (upd_ne (by decide) h)
  f1 := fun h => I.f1 (upd_ne (by decide) h)
  f3 := fun h => I.f3 (upd_ne (by decide) h)
  f4 := fun h => I.f4 (upd_ne (by decide) h)

theorem LqJReadCluster.s3 {Wq : World} {AX AA : Value} {m : Img} {d : Nat → Bool} {w : World} {s39 s40 s41 s42 s43 v : Value} (I : LqJReadCluster Wq AX AA m d w s39 s40 s41 s42 s43) (hd : d 3 = false) (hv : v = .bool true) : LqJReadCluster Wq AX AA m (updD d 3) w s39 s40 s41 v s43 where
  bw := I.bw
  p2 := fun h => I.p2 (upd_ne (by decide) h)
  f0 := fun h => I.f0 (upd_ne (by decide) h)
  f1 := fun h => I.f1 (upd_ne (by decide) h)
  f3 := fun _ => hv
  f4 := fun h => I.f4 (upd_ne (by decide) h)

theorem LqJReadCluster.s4 {Wq : World} {AX AA : Value} {m : Img} {d : Nat → Bool} {w : World} {s39 s40 s41 s42 s43 v : Value} (I : LqJReadCluster Wq AX AA m d w s39 s40 s41 s42 s43) (hd : d 4 = false) (hv : v = .bool false) : LqJReadCluster Wq AX AA m (updD d 4) w s39 s40 s41 s42 v where
  bw := I.bw
  p2 := fun h => I.p2 (upd_ne (by decide) h)
  f0 := fun h => I.f0 (upd_ne (by decide) h)
  f1 := fun h => I.f1 (upd_ne (by decide) h)
  f3 := fun h => I.f3 (upd_ne (by decide) h)
  f4 := fun _ => hv

theorem LqJReadCluster.grow {Wq : World} {AX AA : Value} {m : Img} {d : Nat → Bool} {w w2 : World} {s39 s40 s41 s42 s43 : Value} (I : LqJReadCluster Wq AX AA m d w s39 s40 s41 s42 s43) (hb : Below w.heap.size w w2) : LqJReadCluster Wq AX AA m d w2 s39 s40 s41 s42 s43 := ⟨fr I.bw hb, fun h => (I.p2 h).imp fun a1 h1 => h1.imp fun ts h2 => ⟨h2.1, h2.2.below hb⟩, I.f0, I.f1, I.f3, I.f4⟩

/-- The frame of the law at its drawn statement. -/
abbrev lqFrReadCluster (t0 t1 t2 t3 t4 t5 t6 t7 t8 t9 t10 t11 t12 t13 t14 t15 t16 t17 t18 t19 t20 t21 t22 t23 t24 t25 t26 t27 t28 t29 t30 t31 t32 t33 t34 t35 t36 t37 t38 s39 s40 s41 s42 s43  : Value) : Act := ⟨#[t0, t1, t2, t3, t4, t5, t6, t7, t8, t9, t10, t11, t12, t13, t14, t15, t16, t17, t18, t19, t20, t21, t22, t23, t24, t25, t26, t27, t28, t29, t30, t31, t32, t33, t34, t35, t36, t37, t38, s39, s40, s41, s42, s43], []⟩
theorem lqFrReadCluster_region {P : Program} {id : Nat} {Q : Exit → Act → World → Prop} {l : List Oper} {t0 t1 t2 t3 t4 t5 t6 t7 t8 t9 t10 t11 t12 t13 t14 t15 t16 t17 t18 t19 t20 t21 t22 t23 t24 t25 t26 t27 t28 t29 t30 t31 t32 t33 t34 t35 t36 t37 t38 s39 s40 s41 s42 s43  : Value} {W : World} (J : (Nat → Bool) → World → Value → Value → Value → Value → Value →  Prop) (hm : P.follows .mixedOrders = true) (hl : linB l = true)
    (hg : ∀ (i : Nat) (o : Oper), l[i]? = some o → o.guard = none) (h0 : J (fun _ => false) { W with drawn := W.drawn + 1 } s39 s40 s41 s42 s43)
    (hs : ∀ (d : Nat → Bool) (w : World) (i : Nat) (o : Oper) (r39 r40 r41 r42 r43 : Value), Closed l d → J d w r39 r40 r41 r42 r43 → l[i]? = some o → d i = false → (∀ e ∈ o.after, Region.binds .any e = true → d e.on = true) → ∀ K : Act → World → Prop, (∀ (w' : World) (q39 q40 q41 q42 q43 : Value), J (updD d i) w' q39 q40 q41 q42 q43 → K (lqFrReadCluster t0 t1 t2 t3 t4 t5 t6 t7 t8 t9 t10 t11 t12 t13 t14 t15 t16 t17 t18 t19 t20 t21 t22 t23 t24 t25 t26 t27 t28 t29 t30 t31 t32 t33 t34 t35 t36 t37 t38 q39 q40 q41 q42 q43 ) w') → o.wp P (lqFrReadCluster t0 t1 t2 t3 t4 t5 t6 t7 t8 t9 t10 t11 t12 t13 t14 t15 t16 t17 t18 t19 t20 t21 t22 t23 t24 t25 t26 t27 t28 t29 t30 t31 t32 t33 t34 t35 t36 t37 t38 r39 r40 r41 r42 r43 ) w K Q)
    (he : ∀ (d : Nat → Bool) (w : World) (r39 r40 r41 r42 r43 : Value), J d w r39 r40 r41 r42 r43 → (∀ i, i < l.length → d i = true) → Q .normal (lqFrReadCluster t0 t1 t2 t3 t4 t5 t6 t7 t8 t9 t10 t11 t12 t13 t14 t15 t16 t17 t18 t19 t20 t21 t22 t23 t24 t25 t26 t27 t28 t29 t30 t31 t32 t33 t34 t35 t36 t37 t38 r39 r40 r41 r42 r43 ) w) : (Code.region id l.toArray true).wp P Q (lqFrReadCluster t0 t1 t2 t3 t4 t5 t6 t7 t8 t9 t10 t11 t12 t13 t14 t15 t16 t17 t18 t19 t20 t21 t22 t23 t24 t25 t26 t27 t28 t29 t30 t31 t32 t33 t34 t35 t36 t37 t38 s39 s40 s41 s42 s43 ) W := by
  refine wp_region_inv2 (fun d f w => ∃ r39 r40 r41 r42 r43, f = lqFrReadCluster t0 t1 t2 t3 t4 t5 t6 t7 t8 t9 t10 t11 t12 t13 t14 t15 t16 t17 t18 t19 t20 t21 t22 t23 t24 t25 t26 t27 t28 t29 t30 t31 t32 t33 t34 t35 t36 t37 t38 r39 r40 r41 r42 r43  ∧ J d w r39 r40 r41 r42 r43) hm hl hg ⟨s39, s40, s41, s42, s43, rfl, h0⟩ ?_ ?_
  · intro d f w i o hc hI ho hd hp K hK
    obtain ⟨r39, r40, r41, r42, r43, rfl, hJ⟩ := hI
    exact hs d w i o r39 r40 r41 r42 r43 hc hJ ho hd hp K (fun w' q39 q40 q41 q42 q43 hJ' => hK _ _ ⟨q39, q40, q41, q42, q43, rfl, hJ'⟩)
  · intro d f w hI hall
    obtain ⟨r39, r40, r41, r42, r43, rfl, hJ⟩ := hI
    exact he d w r39 r40 r41 r42 r43 hJ hall

set_option maxHeartbeats 3200000 in
theorem lawImReadCluster (a : Im4) (m : Img) (g : Int) (R : Int × Int) (w : World) (hL : ImL m) (hc : ImS w a m)
    (hz : ∀ s ∈ m.snaps, s.name.size ≤ maxLen ∧ s.table.length ≤ maxLen)
    (hspec : ∀ (b : Im4) (W : World), ImS W b m → Calls Try.prog 19 #[imV b m, .int .i64 g] W fun e w' => e = .returned (.tuple #[.int .i64 R.1, .int .i64 R.2]) ∧ Below W.heap.size W w')
    (himpl : ∀ (b : Im4) (W : World), ImS W b m → Calls Try.prog 20 #[imV b m, .int .i64 g] W fun e w' => e = .returned (.tuple #[.int .i64 R.1, .int .i64 R.2]) ∧ Below W.heap.size W w') :
    Calls Try.prog 6 #[imV a m, .int .i64 g] w fun e w' => e = .returned (.bool true) ∧ Below w.heap.size w w' := by
  have HA := hide (Joins.below_alloc1 w (.cells #[.slice a.ro m.refs.length a.rc, .slice a.tq m.table.length a.tc, .slice a.so m.snaps.length a.sc, .slice a.dq m.data.length a.dc] 30))
  have HV := hide (VarM.new w 30 (.slice a.ro m.refs.length a.rc) (.slice a.tq m.table.length a.tc) (.slice a.so m.snaps.length a.sc) (.slice a.dq m.data.length a.dc))
  have HC := hide (hc.below (unhide HA))
  have HCW := hide hc
  have HL := hide hL
  have HZ := hide hz
  have HSP := hide hspec
  have HIM := hide himpl
  clear hc hL hz hspec himpl
  go_enter Try.func6, Try.ntmps6
  go_upto_region 2 with fail
  revert HC
  revert HV
  revert HA
  generalize (w.alloc _) = W0
  intro HA HV HC
  obtain ⟨c0, c1, c2, c3⟩ := (unhide HV).cells
  go_wp2_with fail
  refine (szImage_any a m 1048576 _ (unhide HL).r (unhide HL).t (unhide HL).s (unhide HL).d (by omega) (by omega) (unhide HC)).mono ?_
  rintro e w1 ⟨r, rfl, hr0, hr1, hr2, hb⟩
  have HB1 := hide (fr (unhide HA) hb)
  have HC1 := hide ((unhide HC).below hb)
  have HV1 := hide ((unhide HV).below hb)
  clear hb c0 c1 c2 c3 HA HV HC
  by_cases hneg : r < 0
  · go_wp2
    go_ret
    exact ⟨rfl, unhide HB1⟩
  have HSZ : Hid (imSz m ≤ 1048576) := hide (by have := hr2 (by omega); omega)
  have HBD := hide (ImBd.of (unhide HSZ))
  clear hr2
  obtain ⟨c0, c1, c2, c3⟩ := (unhide HV1).cells
  -- the model's answer
  go_wp2_with fail
  refine (toImage_B a m _ (unhide HBD) (unhide HC1)).mono ?_
  rintro e w2 ⟨a2, ts2, rfl, ho2, hb2⟩
  have HB2 := hide (fr (unhide HB1) hb2)
  have HC2 := hide ((unhide HC1).below hb2)
  have HV2 := hide ((unhide HV1).below hb2)
  have HI2 := hide (ho2.shows (unhide HZ))
  clear hb2 ho2 c0 c1 c2 c3 HB1 HC1 HV1
  go_wp2_with fail
  refine (unhide HSP a2 _ (unhide HI2)).mono ?_
  rintro e w3 ⟨rfl, hb3⟩
  have HB3 := hide (fr (unhide HB2) hb3)
  have HC3 := hide ((unhide HC2).below hb3)
  have HVA3 := hide ((unhide HV2).below hb3)
  clear hb3 HB2 HC2 HV2 HI2
  -- the argument's copy
  obtain ⟨c0, c1, c2, c3⟩ := (unhide HVA3).cells
  go_wp2_with fail
  refine (toImage_B a m _ (unhide HBD) (unhide HC3)).mono ?_
  rintro e w4 ⟨aX, tsX, rfl, hoX, hb4⟩
  have HNX4 := hide (LwV.new w4 aX m hoX hb4.size)
  have HB4 := hide (fr (fr (unhide HB3) hb4) (Joins.below_alloc1 w4 (.cells #[.slice aX.ro m.refs.length aX.rc, .slice aX.tq m.table.length aX.tc, .slice aX.so m.snaps.length aX.sc, .slice aX.dq m.data.length aX.dc] 35)))
  have HC4 := hide ((unhide HC3).below (fr hb4 (Joins.below_alloc1 w4 (.cells #[.slice aX.ro m.refs.length aX.rc, .slice aX.tq m.table.length aX.tc, .slice aX.so m.snaps.length aX.sc, .slice aX.dq m.data.length aX.dc] 35))))
  have HVA4 := hide ((unhide HVA3).below (fr hb4 (Joins.below_alloc1 w4 (.cells #[.slice aX.ro m.refs.length aX.rc, .slice aX.tq m.table.length aX.tc, .slice aX.so m.snaps.length aX.sc, .slice aX.dq m.data.length aX.dc] 35))))
  clear hoX hb4 c0 c1 c2 c3 HB3 HC3 HVA3
  go_upto_region 7 with fail
  revert HVA4
  revert HC4
  revert HB4
  revert HNX4
  generalize (w4.alloc _) = W4
  generalize w4.heap.size = pX
  intro HNX4 HB4 HC4 HVA4
  -- the program's answer
  obtain ⟨c0, c1, c2, c3⟩ := (unhide HNX4).v.cells
  go_wp2_with fail
  refine (unhide HIM aX _ ((unhide HNX4).o.shows (unhide HZ))).mono ?_
  rintro e w6 ⟨rfl, hb⟩
  have HNX6 := hide ((unhide HNX4).below hb)
  have HB6 := hide (fr (unhide HB4) hb)
  have HC6 := hide ((unhide HC4).below hb)
  have HVA6 := hide ((unhide HVA4).below hb)
  clear hb c0 c1 c2 c3 HNX4 HB4 HC4 HVA4
  have bcc : (R.1 != R.1) = false := by simp
  have bcd : (R.2 != R.2) = false := by simp
  go_upto_region 10 with fail
  refine lqFrReadCluster_region (fun d wz r39 r40 r41 r42 r43 => LqJReadCluster w6 (imV aX m) (imV a m) m d wz r39 r40 r41 r42 r43) (by kernel_rfl) (by kernel_rfl) (noG_spec (by kernel_rfl)) ?h0 ?hs ?he
  case h0 => exact ⟨(Below.refl _ w6).drew, fun h => (by cases h), fun h => (by cases h), fun h => (by cases h), fun h => (by cases h), fun h => (by cases h)⟩
  case hs =>
    intro d wz i o r39 r40 r41 r42 r43 hc I ho hd hp K hK
    obtain ⟨k0, k1, k2, k3⟩ := ((unhide HNX6).v.below I.bw).cells
    obtain ⟨l0, l1, l2, l3⟩ := ((unhide HVA6).below I.bw).cells
    have hi : i < 5 := (List.getElem?_eq_some_iff.1 ho).1
    rcases (show i = 0 ∨ i = 1 ∨ i = 2 ∨ i = 3 ∨ i = 4 by omega) with rfl | rfl | rfl | rfl | rfl
    · cases ho
      unfold Oper.wp
      go_simp
      exact hK _ _ _ _ _ _ (I.s0 hd rfl)
    · cases ho
      unfold Oper.wp
      go_simp
      exact hK _ _ _ _ _ _ (I.s1 hd rfl)
    · cases ho
      have e1 := I.f1 (hp ⟨1, .data⟩ (by simp) rfl)
      subst e1
      unfold Oper.wp
      go_simp
      refine (toImage_B a m _ (unhide HBD) ((unhide HC6).below I.bw)).mono ?_
      rintro e w2 ⟨a1, ts, rfl, ho1, hb1⟩
      exact hK _ _ _ _ _ _ (I.s2 hd hb1 rfl (ho1.base I.bw.size))
    · cases ho
      have e0 := I.f0 (hp ⟨0, .data⟩ (by simp) rfl)
      subst e0
      obtain ⟨a1, ts, e2, ho1⟩ := I.p2 (hp ⟨2, .data⟩ (by simp) rfl)
      subst e2
      unfold Oper.wp
      go_simp
      refine (eqImage_B aX a1 m _ (unhide HBD) (((unhide HNX6).below I.bw).o.shows (unhide HZ)) (ho1.shows (unhide HZ))).mono ?_
      rintro e w2 ⟨rfl, hb1⟩
      exact hK _ _ _ _ _ _ ((I.grow hb1).s3 hd rfl)
    · cases ho
      have e3 := I.f3 (hp ⟨3, .data⟩ (by simp) rfl)
      subst e3
      unfold Oper.wp
      go_simp
      exact hK _ _ _ _ _ _ (I.s4 hd rfl)
  case he =>
    intro d w7 r39 r40 r41 r42 r43 I hall
    have e4 := I.f4 (hall 4 (by decide))
    subst e4
    have hb := I.bw
    have HB7 := hide (fr (unhide HB6) hb)
    clear hb I hall HNX6 HB6 HC6 HVA6
    go_wp2
    go_ret
    exact ⟨rfl, unhide HB7⟩

end Go.Proofs.Ytjoafbkcnnhdiaa

/- Contracts of copyList, at texts and at writes: what was there, in new memory. -/
namespace Go.Proofs.Ytjoafbkcnnhdiaa
open Go.RowKit
set_option linter.unusedVariables false
set_option maxRecDepth 100000

section
variable {P : Program}

/-- 'copy(out, src)', both of n elements of some cells each. -/
theorem run_copy_whole (w : World) (dT sT ty elem : TypeId) (size g n dCap : Nat) (a : Addr) (sCap : Nat) (cur : Array Value) (t : TypeId) (cs : List Value)
    (hu : P.underlying dT = some (.slice elem)) (hs : (P.info? elem).map (·.size) = some size)
    (hg : w.heap[g]? = some (.cells cur t (0, 0))) (hl : n * size = cs.length)
    (hsrc : ∀ j v, cs[j]? = some v → w.cell? (a.add j) = some v) (hfit : cs.length ≤ cur.size) (h1 : ∀ v ∈ cs, v.oneCell' = true) :
    (Builtin.copy_ #[dT, sT] ty #[.slice (some ⟨g, 0, none⟩) n dCap, .slice (some a) n sCap]).run P w = .ok (goInt n) (w.setRow g (cs ++ cur.toList.drop cs.length).toArray) := by
  have hld := run_loadCells_list (P := P) w a cs hsrc
  have hst := run_storeCells_at P g 0 t cs 0 cur w hg (by simpa using hfit) h1
  cases hq : P.info? elem with
  | none => simp [hq] at hs
  | some i =>
    have hi : i.size = size := by simpa [hq] using hs
    simp [Builtin.copy_, run_underlying hu, Builtin.lenOf, Builtin.firstCells, sizeOf, typeInfo, hq, hi, hl, hld, hst]

theorem wpList_copy_whole {w : World} {ops : Array Oper} {rest : List Oper} {o : Oper} {a : Act} {Q : Exit → Act → World → Prop} (hgd : o.guard = none) (d s : Operand) (dT sT : TypeId)
    (ho : o.op = .call { callee := .builtin .copy, args := #[d, s], argTypes := #[dT, sT] }) (elem : TypeId) (size : Nat) (hu : P.underlying dT = some (.slice elem)) (hsz : (P.info? elem).map (·.size) = some size)
    (B g n : Nat) (ad : Addr) (sCap : Nat) (hd : a.eval d = .slice (some ⟨g, 0, none⟩) n n) (hs : a.eval s = .slice (some ad) n sCap)
    (xs : List Value) (hown : w.ownsRow B elem size (.slice (some ⟨g, 0, none⟩) n n) n xs) (cs : List Value) (hn : cs.length = n * size)
    (hsrc : ∀ j v, cs[j]? = some v → w.cell? (ad.add j) = some v) (h1 : ∀ v ∈ cs, v.oneCell' = true)
    (h : ∀ w', w'.ownsRow B elem size (.slice (some ⟨g, 0, none⟩) n n) n cs → w.grownBy w' (some g) → wpList P ops Q rest (a.put o.dst (goInt n)) w') : wpList P ops Q (o :: rest) a w := by
  refine wpList_plain hgd fun K hK => ?_
  rcases hown.2 with ⟨e, _⟩ | ⟨g', cap', cur, e, hB, hg, hnc, hcm, hcs, ht⟩
  · simp at e
  · simp only [Value.slice.injEq, Option.some.injEq, Addr.mk.injEq, and_true, true_and] at e
    obtain ⟨rfl, rfl⟩ := e
    have hrun := run_copy_whole (P := P) w dT sT o.type elem size g n n ad sCap cur elem cs hu hsz hg hn.symm hsrc (by omega) h1
    unfold Oper.wp
    simp [execOp, ho, resolve, invoke, builtin, hd, hs, hrun, Result.andThen]
    refine hK _ _ (h _ ⟨hn, .inr ⟨g, n, _, rfl, hB, setRow_heap w g _ _ elem _ hg, hnc, hcm, ?_, ?_⟩⟩ ⟨rfl, rfl, rfl, by simp, fun k _ hk => setRow_other w g k _ (fun e => hk (by simp [e]))⟩)
    · simp; omega
    · rw [← hn]; simp
end

theorem infoS : (Try.prog.info? 9).map (fun i => (i.zero, i.size, i.bytes)) = some (some (.string ⟨#[]⟩), 1, 16) := by kernel_rfl
theorem sizeS : (Try.prog.info? 9).map (·.size) = some 1 := by kernel_rfl
theorem strV_one (ss : List ByteArray) : ∀ v ∈ strV ss, v.oneCell' = true := by
  intro v hv
  simp only [strV, List.mem_map] at hv
  obtain ⟨s, _, rfl⟩ := hv
  rfl
theorem ioV_one (xs : List Wr) : ∀ v ∈ ioV xs, v.oneCell' = true := by
  intro v hv
  simp only [ioV, List.mem_flatMap] at hv
  obtain ⟨x, _, hv⟩ := hv
  simp at hv
  rcases hv with rfl | rfl | rfl <;> rfl
/-- A slice that is not empty has an address at which its cells lie. -/
theorem Ss.at {w : World} {ao : Option Addr} {ss : List ByteArray} (h : Ss w ao ss) (hp : 0 < ss.length) : ∃ b off, ao = some ⟨b, off, none⟩ ∧ ∀ j v, (strV ss)[j]? = some v → w.cell? (Addr.add ⟨b, off, none⟩ j) = some v := by
  obtain ⟨b, off, rfl, _⟩ := h 0 hp
  refine ⟨b, off, rfl, fun j v hv => ?_⟩
  have hj : j < ss.length := by have := (List.getElem?_eq_some_iff.1 hv).1; rwa [strV_length] at this
  obtain ⟨b', off', e, hc, _⟩ := h j hj
  simp only [Option.some.injEq, Addr.mk.injEq, and_true] at e
  obtain ⟨rfl, rfl⟩ := e
  rw [strV_get hj] at hv
  cases hv
  rw [show Addr.add ⟨b, off, none⟩ j = ⟨b, off + j, none⟩ from by unfold Addr.add; split <;> simp_all]
  exact hc
theorem ioV_at {xs : List Wr} {j : Nat} {v : Value} (h : (ioV xs)[j]? = some v) : ∃ i r, ∃ hi : i < xs.length, j = i * 3 + r ∧ ((r = 0 ∧ v = .int .i64 xs[i].host) ∨ (r = 1 ∧ v = .int .i64 xs[i].at_) ∨ (r = 2 ∧ v = .string xs[i].data)) := by
  have hj : j < xs.length * 3 := by have := (List.getElem?_eq_some_iff.1 h).1; rwa [ioV_length] at this
  have hi : j / 3 < xs.length := by omega
  obtain ⟨g0, g1, g2⟩ := ioV_get hi
  rcases (show j % 3 = 0 ∨ j % 3 = 1 ∨ j % 3 = 2 by omega) with e | e | e
  · rw [show j = j / 3 * 3 by omega, g0] at h; cases h
    exact ⟨j / 3, 0, hi, by omega, .inl ⟨rfl, rfl⟩⟩
  · rw [show j = j / 3 * 3 + 1 by omega, g1] at h; cases h
    exact ⟨j / 3, 1, hi, by omega, .inr (.inl ⟨rfl, rfl⟩)⟩
  · rw [show j = j / 3 * 3 + 2 by omega, g2] at h; cases h
    exact ⟨j / 3, 2, hi, by omega, .inr (.inr ⟨rfl, rfl⟩)⟩
theorem Ios.at {w : World} {ao : Option Addr} {xs : List Wr} (h : Ios w ao xs) (hp : 0 < xs.length) : ∃ b off, ao = some ⟨b, off, none⟩ ∧ ∀ j v, (ioV xs)[j]? = some v → w.cell? (Addr.add ⟨b, off, none⟩ j) = some v := by
  obtain ⟨b, off, rfl, _⟩ := h 0 hp
  refine ⟨b, off, rfl, fun j v hv => ?_⟩
  obtain ⟨i, r, hi, rfl, hr⟩ := ioV_at hv
  obtain ⟨b', off', e, h0, h1, h2, _⟩ := h i hi
  simp only [Option.some.injEq, Addr.mk.injEq, and_true] at e
  obtain ⟨rfl, rfl⟩ := e
  rw [show Addr.add ⟨b, off, none⟩ (i * 3 + r) = ⟨b, off + i * 3 + r, none⟩ from by unfold Addr.add; split <;> simp_all [Nat.add_assoc]]
  rcases hr with ⟨rfl, rfl⟩ | ⟨rfl, rfl⟩ | ⟨rfl, rfl⟩
  · exact h0
  · exact h1
  · exact h2

end Go.Proofs.Ytjoafbkcnnhdiaa

/- Contracts of the program's tables: TableOK, tableFault, EncodeTable, splitEntry, EntryOf, ResizeTable. -/
namespace Go.Proofs.Ytjoafbkcnnhdiaa
open Go.RowKit
set_option linter.unusedVariables false
set_option maxRecDepth 100000

set_option maxHeartbeats 800000 in
theorem tableOK_impl (ao : Option Addr) (cap : Nat) (xs : List Int) (w : World) (hl : xs.length ≤ maxLen) (hc : Is w ao xs) :
    Calls Try.prog 57 #[.slice ao xs.length cap] w fun e w' => e = .returned (.bool (tbB xs)) ∧ w' = w := by
  have HC := hide hc
  clear hc
  unfold maxLen at hl
  by_cases hlong : 12 < xs.length
  · have HF := hide (tbB_nolen (xs := xs) (by omega))
    go_enter Try.func57, Try.ntmps57
    go_wp2
    go_ret
    exact ⟨ret_bool (unhide HF).symm, rfl⟩
  go_enter Try.func57, Try.ntmps57
  go_wp2
  go_loop [10] (fun i => ∃ k : Nat, k ≤ xs.length ∧ i = .int .i64 k ∧ Hid (∀ j (h : j < xs.length), j < k → ent1 xs[j] = true)) (fun i => xs.length - (intOf i).toNat)
  case atStart => exact ⟨0, Nat.zero_le _, rfl, hide (fun j _ h => by omega)⟩
  case round =>
    obtain ⟨k, hk, rfl, HA⟩ := hrel
    by_cases hlt : k < xs.length
    · obtain ⟨b, off, rfl, hc⟩ := unhide HC k hlt
      by_cases hn : ent1 xs[k] = true
      · have HN := hide (all_succ hlt (unhide HA) hn)
        have hn' : betw xs[k] 0 25 = true := hn
        clear hn
        go_wp2_with (go_at_call 74; refine (within_any _ _ _ _).mono ?_; rintro e w' ⟨rfl, rfl⟩)
        go_round
        case rel => exact ⟨k + 1, by omega, by go_num, HN⟩
        case measure => simp [intOf]; omega
      · have hn0 : ent1 xs[k] = false := by simpa using hn
        have hn' : betw xs[k] 0 25 = false := hn0
        have HF := hide (tbB_noat hlt hn0)
        clear hn hn0
        go_wp2_with (go_at_call 74; refine (within_any _ _ _ _).mono ?_; rintro e w' ⟨rfl, rfl⟩)
        go_ret
        exact ⟨ret_bool (unhide HF).symm, rfl⟩
    · have HF := hide (tbB_of (xs := xs) (by omega) (fun j h => unhide HA j h (by omega)))
      go_wp2
      go_ret
      exact ⟨ret_bool (unhide HF).symm, rfl⟩

theorem tableFault_any (ao : Option Addr) (cap : Nat) (xs : List Int) (w : World) (hl : xs.length ≤ maxLen) (hc : Is w ao xs) :
    Calls Try.prog 27 #[.slice ao xs.length cap] w fun e w' => e = .returned (.int .i64 (tbF xs)) ∧ w' = w := by
  have HC := hide hc
  have HL := hide hl
  unfold maxLen at hl
  clear hc
  rcases tbF_cases xs with ⟨h1, h2⟩ | ⟨h1, hb, h2⟩ | ⟨hb, h2⟩
  · have HE := hide h2
    clear h2
    go_enter Try.func27, Try.ntmps27
    go_wp2
    go_ret
    exact ⟨ret_int (unhide HE).symm, rfl⟩
  · have HE := hide h2
    clear h2
    go_enter Try.func27, Try.ntmps27
    go_wp2_with (go_at_call 57; refine (tableOK_impl _ _ xs _ (unhide HL) (unhide HC)).mono ?_; rintro e w' ⟨rfl, hw⟩; replace hw := hw.symm; subst hw; rw [hb])
    go_ret
    exact ⟨ret_int (unhide HE).symm, rfl⟩
  · have HE := hide h2
    have h4 : ¬ (4096 : Int) < (xs.length : Int) := by have := tbB_len hb; omega
    clear h2
    go_enter Try.func27, Try.ntmps27
    go_wp2_with (go_at_call 57; refine (tableOK_impl _ _ xs _ (unhide HL) (unhide HC)).mono ?_; rintro e w' ⟨rfl, hw⟩; replace hw := hw.symm; subst hw; rw [hb])
    go_ret
    exact ⟨ret_int (unhide HE).symm, rfl⟩

theorem tbF_ne {xs : List Int} (h : tbF xs ≠ 0) : (tbF xs != 0) = true := by simpa using h

theorem splitEntry_any (n : Int) (w : World) (h0 : -1000 ≤ n) (h1 : n ≤ 1000) :
    Calls Try.prog 75 #[.int .i64 n] w fun e w' => e = .returned (.tuple #[.int .i64 (min n 2), .int .i64 (max 0 (n - 2))]) ∧ w' = w := by
  by_cases h : n < 2
  · have HM : Hid (n = min n 2 ∧ (0 : Int) = max 0 (n - 2)) := hide ⟨by omega, by omega⟩
    go_enter Try.func75, Try.ntmps75
    go_wp2
    go_ret2
    exact ⟨ret_two2 (unhide HM).1 (unhide HM).2, rfl⟩
  · have HM : Hid ((2 : Int) = min n 2 ∧ n - 2 = max 0 (n - 2)) := hide ⟨by omega, by omega⟩
    have hw2 : IntKind.i64.wrap (n - 2) = n - 2 := by rw [IntKind.wrap_i64]; omega
    go_enter Try.func75, Try.ntmps75
    go_wp2
    go_ret2
    exact ⟨ret_two2 (unhide HM).1 (unhide HM).2, rfl⟩

end Go.Proofs.Ytjoafbkcnnhdiaa

/- Contracts of impl.EntryOf and impl.ResizeTable. -/
namespace Go.Proofs.Ytjoafbkcnnhdiaa
open Go.RowKit
set_option linter.unusedVariables false
set_option maxRecDepth 100000

theorem ret_3i {a b c x y z : Int} (h1 : a = x) (h2 : b = y) (h3 : c = z) : Ending.returned (.tuple #[.int .i64 a, .int .i64 b, .int .i64 c]) = .returned (.tuple #[.int .i64 x, .int .i64 y, .int .i64 z]) := by rw [h1, h2, h3]

set_option maxHeartbeats 1600000 in
theorem entryOf_impl (ao : Option Addr) (cap : Nat) (xs : List Int) (g : Int) (w : World) (hl : xs.length ≤ maxLen) (hc : Is w ao xs) :
    Calls Try.prog 44 #[.slice ao xs.length cap, .int .i64 g] w fun e w' => e = .returned (.tuple #[.int .i64 (enK xs g), .int .i64 (enC xs g), .int .i64 (enF xs g)]) ∧ Below w.heap.size w w' := by
  have HC := hide hc
  have HL := hide hl
  unfold maxLen at hl
  clear hc
  have hws : IntKind.i64.wrap ((xs.length : Int) - 1) = (xs.length : Int) - 1 := by rw [IntKind.wrap_i64]; omega
  rcases en_cases xs g with ⟨h0, h1, h2, h3⟩ | ⟨hb, hg, h1, h2, h3⟩ | ⟨hb, q, rfl, hq, h1, h2, h3⟩
  · have HE := hide (And.intro h1 (And.intro h2 h3))
    have hne := tbF_ne h0
    clear h0 h1 h2 h3
    go_enter Try.func44, Try.ntmps44
    go_wp2_with (go_at_call 27; refine (tableFault_any _ _ xs _ (unhide HL) (unhide HC)).mono ?_; rintro e w' ⟨rfl, hw⟩; replace hw := hw.symm; subst hw)
    refine bodyPost_ret (v := .tuple #[.int .i64 0, .int .i64 0, .int .i64 (tbF xs)]) (by simp [results, Try.results44]) rfl ⟨?_, Below.refl _ _⟩
    exact ret_3i (unhide HE).2.1.symm (unhide HE).2.2.symm (unhide HE).1.symm
  · have HE := hide (And.intro h1 (And.intro h2 h3))
    have H0 := hide (tbF_ok hb)
    clear h1 h2 h3
    go_enter Try.func44, Try.ntmps44
    go_wp2_with (first | (go_at_call 27; refine (tableFault_any _ _ xs _ (unhide HL) (unhide HC)).mono ?_; rintro e w' ⟨rfl, hw⟩; replace hw := hw.symm; subst hw; rw [unhide H0]) | (go_at_call 74; refine (within_any _ _ _ _).mono ?_; rintro e w' ⟨rfl, hw⟩; replace hw := hw.symm; subst hw; rw [hg]))
    refine bodyPost_ret (v := .tuple #[.int .i64 0, .int .i64 0, .int .i64 4]) (by simp [results, Try.results44]) rfl ⟨?_, Below.refl _ _⟩
    exact ret_3i (unhide HE).2.1.symm (unhide HE).2.2.symm (unhide HE).1.symm
  · have HE := hide (And.intro h1 (And.intro h2 h3))
    have H0 := hide (tbF_ok hb)
    have hg : betw (q : Int) 0 ((xs.length : Int) - 1) = true := betw_yes (by omega) (by omega)
    have hqi : (q : Int) < (xs.length : Int) := by omega
    have HI := hide (tbB_at hb q hq)
    obtain ⟨b, off, rfl, hcl⟩ := unhide HC q hq
    clear h1 h2 h3
    go_enter Try.func44, Try.ntmps44
    go_wp2_with (first | (go_at_call 27; refine (tableFault_any _ _ xs _ (unhide HL) (unhide HC)).mono ?_; rintro e w' ⟨rfl, hw⟩; replace hw := hw.symm; subst hw; rw [unhide H0]) | (go_at_call 74; refine (within_any _ _ _ _).mono ?_; rintro e w' ⟨rfl, hw⟩; replace hw := hw.symm; subst hw; rw [hg]) | (go_at_call 75; refine (splitEntry_any _ _ (by have := unhide HI; omega) (by have := unhide HI; omega)).mono ?_; rintro e w' ⟨rfl, hw⟩; replace hw := hw.symm; subst hw))
    refine bodyPost_ret (v := .tuple #[.int .i64 (min xs[q] 2), .int .i64 (max 0 (xs[q] - 2)), .int .i64 0]) (by simp [results, Try.results44]) rfl ⟨?_, Below.refl _ _⟩
    exact ret_3i (unhide HE).2.1.symm (unhide HE).2.2.symm (unhide HE).1.symm

/-- A table laid over a row of zeros is the table of that size. -/
theorem rz_splice (xs : List Int) (q : Nat) (M : List Value) (hM : M = List.replicate q (.int .i64 0)) : splice M 0 (intV (xs.take q)) = intV (rzTo xs q) := by
  subst hM
  apply List.ext_getElem?
  intro i
  unfold splice rzTo intV
  simp only [List.take_zero, List.nil_append, Nat.zero_add, List.length_map, List.length_take, List.getElem?_append, List.getElem?_map, List.getElem?_take, List.drop_replicate, List.getElem?_replicate, List.getD]
  by_cases hi : i < min q xs.length
  · have h1 : i < q := by omega
    have h2 : i < xs.length := by omega
    simp [hi, h1, h2]
  · by_cases hq : i < q
    · have h2 : ¬ i < xs.length := by omega
      simp [hi, hq, List.getElem?_eq_none (show xs.length ≤ i by omega)]
      omega
    · simp [hi, hq]
      omega
theorem sizeN1 : (Try.prog.info? 3).map (·.size) = some 1 := by kernel_rfl
theorem takeV_one (xs : List Int) : ∀ v ∈ intV xs, v.oneCell' = true := by
  intro v hv
  simp only [intV, List.mem_map] at hv
  obtain ⟨n, _, rfl⟩ := hv
  rfl

end Go.Proofs.Ytjoafbkcnnhdiaa

/- Contracts of the program's counts: RefsOK, clusterOK, countsOf, countsWith, list, RefUp. -/
namespace Go.Proofs.Ytjoafbkcnnhdiaa
open Go.RowKit
set_option linter.unusedVariables false
set_option maxRecDepth 100000

theorem sizeA24 : (Try.prog.info? 50).map (·.size) = some 24 := by kernel_rfl
theorem arr24 : Try.prog.arrayLen 50 = 24 := by kernel_rfl
theorem und24 : Try.prog.underlying 50 = some (.array 24 3) := by kernel_rfl
theorem sizeA {xs : List Int} (h : xs.length = 24) : (Try.prog.info? 50).map (·.size) = some (intV xs).toArray.size := by rw [intV_size, h]; exact sizeA24
theorem sizeL {xs : List Int} (h : xs.length = 24) : (Try.prog.info? 50).map (·.size) = some (intV xs).length := by rw [intV_length, h]; exact sizeA24

set_option maxHeartbeats 800000 in
theorem refsOK_impl (ao : Option Addr) (cap : Nat) (xs : List Int) (w : World) (hl : xs.length ≤ maxLen) (hc : Is w ao xs) :
    Calls Try.prog 62 #[.slice ao xs.length cap] w fun e w' => e = .returned (.bool (ctB xs)) ∧ w' = w := by
  have HC := hide hc
  clear hc
  unfold maxLen at hl
  by_cases h24 : xs.length = 24
  · have hb : ((xs.length : Int) != 24) = false := by simp [h24]
    have H24 := hide h24
    clear h24
    go_enter Try.func62, Try.ntmps62
    go_wp2
    go_loop [10] (fun i => ∃ k : Nat, k ≤ xs.length ∧ i = .int .i64 k ∧ Hid (∀ j (h : j < xs.length), j < k → cnt1 xs[j] = true)) (fun i => xs.length - (intOf i).toNat)
    case atStart => exact ⟨0, Nat.zero_le _, rfl, hide (fun j _ h => by omega)⟩
    case round =>
      obtain ⟨k, hk, rfl, HA⟩ := hrel
      by_cases hlt : k < xs.length
      · obtain ⟨b, off, rfl, hc⟩ := unhide HC k hlt
        by_cases hn : cnt1 xs[k] = true
        · have HN := hide (all_succ hlt (unhide HA) hn)
          have hn' : betw xs[k] 0 15 = true := hn
          clear hn
          go_wp2_with (go_at_call 74; refine (within_any _ _ _ _).mono ?_; rintro e w' ⟨rfl, rfl⟩)
          go_round
          case rel => exact ⟨k + 1, by omega, by go_num, HN⟩
          case measure => simp [intOf]; omega
        · have hn0 : cnt1 xs[k] = false := by simpa using hn
          have hn' : betw xs[k] 0 15 = false := hn0
          have HF := hide (ctB_noat hlt hn0)
          clear hn hn0
          go_wp2_with (go_at_call 74; refine (within_any _ _ _ _).mono ?_; rintro e w' ⟨rfl, rfl⟩)
          go_ret
          exact ⟨ret_bool (unhide HF).symm, rfl⟩
      · have HF := hide (ctB_of (unhide H24) (fun j h => unhide HA j h (by omega)))
        go_wp2
        go_ret
        exact ⟨ret_bool (unhide HF).symm, rfl⟩
  · have hb : ((xs.length : Int) != 24) = true := by simp; omega
    have HF := hide (ctB_nolen h24)
    clear h24
    go_enter Try.func62, Try.ntmps62
    go_wp2
    go_ret
    exact ⟨ret_bool (unhide HF).symm, rfl⟩

/-- An array of counts as a value. -/
abbrev ctV (xs : List Int) : Value := .agg (intV xs).toArray
theorem zero_arr : (#[.int .i64 0, .int .i64 0, .int .i64 0, .int .i64 0, .int .i64 0, .int .i64 0, .int .i64 0, .int .i64 0, .int .i64 0, .int .i64 0, .int .i64 0, .int .i64 0, .int .i64 0, .int .i64 0, .int .i64 0, .int .i64 0, .int .i64 0, .int .i64 0, .int .i64 0, .int .i64 0, .int .i64 0, .int .i64 0, .int .i64 0, .int .i64 0] : Array Value) = (intV zero24).toArray := rfl
theorem ret_ci {xs ys : List Int} {a b : Int} (h : xs = ys) (k : a = b) : Ending.returned (.tuple #[ctV xs, .int .i64 a]) = .returned (.tuple #[ctV ys, .int .i64 b]) := by rw [h, k]
theorem arr_new (w : World) : (w.alloc (.cells #[.int .i64 0, .int .i64 0, .int .i64 0, .int .i64 0, .int .i64 0, .int .i64 0, .int .i64 0, .int .i64 0, .int .i64 0, .int .i64 0, .int .i64 0, .int .i64 0, .int .i64 0, .int .i64 0, .int .i64 0, .int .i64 0, .int .i64 0, .int .i64 0, .int .i64 0, .int .i64 0, .int .i64 0, .int .i64 0, .int .i64 0, .int .i64 0] 50)).heap[w.heap.size]? = some (.cells (intV zero24).toArray 50 (0, 0)) := heap_alloc_new w _
theorem load_ct (W : World) {g : Nat} {xs : List Int} (h : W.heap[g]? = some (.cells (intV xs).toArray 50 (0, 0))) (hl : xs.length = 24) : (loadVar 50 ⟨g, 0, none⟩).run Try.prog W = .ok (ctV xs) W :=
  run_loadVar_row W g 50 50 (intV xs).toArray (0, 0) _ h und24 rfl (sizeA hl)

theorem res_ct {W : World} {g : Nat} {xs : List Int} {p u : Value} (h : W.heap[g]? = some (.cells (intV xs).toArray 50 (0, 0))) (hl : xs.length = 24) (hp : p = .pointer (some ⟨g, 0, none⟩)) : (((asAddr p).run Try.prog W).andThen fun a w₁ => ((loadVar 50 a).run Try.prog w₁).andThen fun v w₂ => .ok (Value.tuple #[v, u]) w₂) = .ok (Value.tuple #[ctV xs, u]) W := by
  subst hp
  simp only [asAddr, Sem.run_pure, Result.andThen_ok, load_ct W h hl]

set_option maxHeartbeats 1600000 in
theorem countsOf_any (ao : Option Addr) (cap : Nat) (xs : List Int) (w : World) (hl : xs.length ≤ maxLen) (hc : Is w ao xs) :
    Calls Try.prog 31 #[.slice ao xs.length cap] w fun e w' => e = .returned (.tuple #[ctV (coR xs), .int .i64 (ctF xs)]) ∧ Below w.heap.size w w' := by
  have HN := hide (arr_new w)
  have HA := hide (Joins.below_alloc1 w (.cells #[.int .i64 0, .int .i64 0, .int .i64 0, .int .i64 0, .int .i64 0, .int .i64 0, .int .i64 0, .int .i64 0, .int .i64 0, .int .i64 0, .int .i64 0, .int .i64 0, .int .i64 0, .int .i64 0, .int .i64 0, .int .i64 0, .int .i64 0, .int .i64 0, .int .i64 0, .int .i64 0, .int .i64 0, .int .i64 0, .int .i64 0, .int .i64 0] 50))
  have HC := hide (hc.below (unhide HA))
  have HL := hide hl
  unfold maxLen at hl
  clear hc
  rcases ctF_cases xs with ⟨h1, h2, h3⟩ | ⟨h1, hb, h2, h3⟩ | ⟨hb, h2, h3⟩
  · have HE := hide (And.intro h2 h3)
    clear h2 h3
    go_enter Try.func31, Try.ntmps31
    go_upto_region 1 with fail
    revert HN HA HC
    generalize (w.alloc _) = W1
    intro HN HA HC
    go_wp2_with (refine wpList_store_arr rfl 50 _ _ rfl w.heap.size rfl (intV zero24).toArray rfl _ _ (unhide HN) sizeA24 rfl (intV_one _) ?_; intro w2 hn2 hk2 hs2; have HN2 := hide hn2; have HB2 := hide (keep_one (unhide HA) hk2 (Nat.le_refl _)); clear hn2 hk2 hs2)
    refine bodyPost_ret (v := .tuple #[ctV zero24, .int .i64 2]) ?_ rfl ⟨?_, unhide HB2⟩
    · rw [results_cell_tmp Try.results31]
      exact res_ct (unhide HN2) rfl rfl
    · exact ret_ci (unhide HE).2.symm (unhide HE).1.symm
  · have HE := hide (And.intro h2 h3)
    clear h2 h3
    go_enter Try.func31, Try.ntmps31
    go_upto_region 1 with fail
    revert HN HA HC
    generalize (w.alloc _) = W1
    intro HN HA HC
    go_wp2_with (first | (go_at_call 62; refine (refsOK_impl ao cap xs _ (unhide HL) (unhide HC)).mono ?_; rintro e w' ⟨rfl, hw⟩; replace hw := hw.symm; subst hw; rw [hb]) | (refine wpList_store_arr rfl 50 _ _ rfl w.heap.size rfl (intV zero24).toArray rfl _ _ (unhide HN) sizeA24 rfl (intV_one _) ?_; intro w2 hn2 hk2 hs2; have HN2 := hide hn2; have HB2 := hide (keep_one (unhide HA) hk2 (Nat.le_refl _)); clear hn2 hk2 hs2))
    refine bodyPost_ret (v := .tuple #[ctV zero24, .int .i64 1]) ?_ rfl ⟨?_, unhide HB2⟩
    · rw [results_cell_tmp Try.results31]
      exact res_ct (unhide HN2) rfl rfl
    · exact ret_ci (unhide HE).2.symm (unhide HE).1.symm
  · have HE := hide (And.intro h2 h3)
    have hlen := ctB_len hb
    have H24 := hide hlen
    obtain ⟨b, off, rfl, hr⟩ := (unhide HC).range (by omega)
    have HR := hide hr
    have har : ∀ W : World, (Instr.arrayAt 50 (.slice (some ⟨b, off, none⟩) xs.length cap)).run Try.prog W = .ok (.pointer (some ⟨b, off, none⟩)) W := fun W => run_arrayAt (w := W) 50 3 24 _ _ _ und24 (by omega)
    have hle : ¬ (4096 : Int) < (xs.length : Int) := by omega
    clear h2 h3 hr hlen
    go_enter Try.func31, Try.ntmps31
    go_upto_region 1 with fail
    revert HN HA HC HR
    generalize (w.alloc _) = W1
    intro HN HA HC HR
    go_wp2_with (first | (go_at_call 62; refine (refsOK_impl _ cap xs _ (unhide HL) (unhide HC)).mono ?_; rintro e w' ⟨rfl, hw⟩; replace hw := hw.symm; subst hw; rw [hb]) | (refine wpList_load_mid rfl 50 _ rfl b off rfl (intV xs) _ (unhide HR) und24 rfl (sizeL (unhide H24)) ?_) | (refine wpList_store_arr rfl 50 _ _ rfl w.heap.size rfl (intV xs).toArray rfl _ _ (unhide HN) (sizeA (unhide H24)) (by rw [intV_size, intV_size, unhide H24]; rfl) (intV_one _) ?_; intro w2 hn2 hk2 hs2; have HN2 := hide hn2; have HB2 := hide (keep_one (unhide HA) hk2 (Nat.le_refl _)); clear hn2 hk2 hs2))
    refine bodyPost_ret (v := .tuple #[ctV xs, .int .i64 0]) ?_ rfl ⟨?_, unhide HB2⟩
    · rw [results_cell_tmp Try.results31]
      exact res_ct (unhide HN2) (unhide H24) rfl
    · exact ret_ci (unhide HE).2.symm (unhide HE).1.symm

/-- An array of counts in a variable. -/
abbrev VarC (W : World) (g : Nat) (xs : List Int) : Prop := W.heap[g]? = some (.cells (intV xs).toArray 50 (0, 0))
theorem cw_bad {xs : List Int} {c : Int} (h : ctF xs ≠ 0) : cwF xs c = ctF xs ∧ cwR xs c = zero24 := by
  have e : cwF xs c = ctF xs := by rw [cwF, if_neg h]
  exact ⟨e, by rw [cwR, e, if_neg h]⟩
theorem cw_out {xs : List Int} {c : Int} (h : ctF xs = 0) (hc : betw c 0 23 = false) : cwF xs c = 4 ∧ cwR xs c = zero24 := by
  have e : cwF xs c = 4 := by rw [cwF, if_pos h, hc]; rfl
  exact ⟨e, by rw [cwR, e]; rfl⟩
theorem cw_in {xs : List Int} {c : Int} (h : ctF xs = 0) (hc : betw c 0 23 = true) : cwF xs c = 0 ∧ cwR xs c = xs := by
  have e : cwF xs c = 0 := by rw [cwF, if_pos h, hc]; rfl
  exact ⟨e, by rw [cwR, e]; rfl⟩
theorem ctF_ne (xs : List Int) (h : ctF xs ≠ 0) : (ctF xs != 0) = true := by simpa using h

theorem intV_ones (xs : List Int) : ∀ v ∈ intV xs, v.oneCell' = true := by
  intro v hv
  simp only [intV, List.mem_map] at hv
  obtain ⟨n, _, rfl⟩ := hv
  rfl
theorem sizeI1 : (Try.prog.info? 3).map (·.size) = some 1 := by kernel_rfl
theorem runI1 (W : World) : (Go.sizeOf 3).run Try.prog W = .ok 1 W := by
  have h := sizeI1
  cases hq : Try.prog.info? 3 with
  | none => simp [hq] at h
  | some i =>
    have hi : i.size = 1 := by simpa [hq] using h
    simp [Go.sizeOf, typeInfo, hq, hi]
set_option maxHeartbeats 1600000 in
theorem copyI_any (b off cap : Nat) (ss : List Int) (w : World) (hl : ss.length ≤ 1048576) (h0 : 0 < ss.length) (hbl : b < w.heap.size) (hc : w.rangeAt b off (intV ss)) :
    Calls Try.prog 87 #[.slice (some ⟨b, off, none⟩) ss.length cap] w fun e w' => e = .returned (.slice (some ⟨w.heap.size, 0, none⟩) ss.length ss.length) ∧ w'.ownsRow w.heap.size 3 1 (.slice (some ⟨w.heap.size, 0, none⟩) ss.length ss.length) ss.length (intV ss) ∧ Below w.heap.size w w' := by
  have hb : ((ss.length : Int) == 0) = false := beq_eq_false_iff_ne.2 (by omega)
  have HCS := hide hc
  have HP := hide h0
  clear hc h0
  obtain ⟨i0, hi, hz0, hz1, hz2⟩ := info_parts infoM
  go_enter Try.func87, Try.ntmps87
  go_wp2_with (first | (at_make; refine wpList_make_full _ rfl _ _ 22 rfl w.heap.size 3 i0 _ 1 Try.underlying22 hi hz0 hz1 _ _ _ _ ss.length rfl rfl rfl rfl ?c1 ?c2 ?c3 ?_))
  case c1 => rw [hz2]; omega
  case c2 => unfold maxLen; omega
  case c3 => exact Nat.le_refl _
  intro w1 hown hgrow
  have hB : Below w.heap.size w w1 := (Below.refl _ _).grown hgrow (Nat.le_refl _) (fun _ h => by cases h)
  have HO := hide hown
  have HB := hide hB
  have HC1 : Hid (∀ j v, (intV ss)[j]? = some v → w1.cell? (Addr.add ⟨b, off, none⟩ j) = some v) := hide (fun j v hv => ((unhide HB).cell (by unfold Addr.add; split <;> exact hbl)).trans (by rw [Addr.add_mid]; exact unhide HCS j v hv))
  clear hown hgrow hB
  go_wp2_with (refine wpList_copy_whole rfl _ _ 22 22 rfl 3 1 Try.underlying22 sizeI1 w.heap.size w.heap.size ss.length ⟨b, off, none⟩ _ rfl rfl _ (unhide HO) (intV ss) (by rw [intV_length]; omega) (unhide HC1) (intV_ones ss) ?_; intro w2 ho2 hg2)
  have HB2 := hide ((unhide HB).grown hg2 (unhide HB).size (fun k h => by cases h; exact Nat.le_refl _))
  have HO2 := hide ho2
  clear ho2 hg2
  go_ret
  exact ⟨rfl, unhide HO2, unhide HB2⟩

theorem slice24 (W : World) (g : Nat) : (Instr.sliceAt 50 (.pointer (some ⟨g, 0, none⟩)) none none none).run Try.prog W = .ok (.slice (some ⟨g, 0, none⟩) 24 24) W := by
  have hu : Try.prog.underlying 50 = some (.array (Try.prog.arrayLen 50) (Try.prog.elem 50)) := by kernel_rfl
  have he : Try.prog.elem 50 = 3 := by kernel_rfl
  rw [run_sliceAt_array_all W _ _ hu, he, runI1, arr24]
  simp only [Result.andThen, slicedAt, Nat.mul_one, Nat.sub_zero]
  rfl
theorem idx24 (W : World) (xs : List Int) (k : Nat) (hl : xs.length = 24) (hk : k < xs.length) : (Instr.index 50 (ctV xs) (.int .i64 k)).run Try.prog W = .ok (.int .i64 xs[k]) W := by
  have hu := und24
  have hk' : k < 24 := by omega
  have h2 := sizeI1
  cases hq : Try.prog.info? 3 with
  | none => simp [hq] at h2
  | some i =>
    have hi : i.size = 1 := by simpa [hq] using h2
    simp [Instr.index, run_underlying, hu, sizeOf, typeInfo, hq, hi, intV, asIntOf, part, hk]
    intro h
    omega

end Go.Proofs.Ytjoafbkcnnhdiaa
