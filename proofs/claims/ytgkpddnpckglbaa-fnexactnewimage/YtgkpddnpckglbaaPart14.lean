import Derived.Test.YtgkpddnpckglbaaRows
import Derived.Test.YtgkpddnpckglbaaPart1
import Derived.Test.YtgkpddnpckglbaaPart3
import Derived.Test.YtgkpddnpckglbaaPart2
import Derived.Test.YtgkpddnpckglbaaPart4
import Derived.Test.YtgkpddnpckglbaaPart6
import Derived.Test.YtgkpddnpckglbaaPart8
import Derived.Test.YtgkpddnpckglbaaPart7
import Derived.Test.YtgkpddnpckglbaaImX
import Derived.Test.YtgkpddnpckglbaaPart9
import Derived.Test.YtgkpddnpckglbaaPart13
import Derived.WalkKit
import Derived.WalkSpells
import Derived.BigQuiet
import Derived.Deep.QuietTactic
import Derived.Deep.RegionWith
import Derived.Deep.RegionHeld3
import Derived.Laws.CopyRow
import Derived.Laws.CopyOwn
import Derived.KernelRfl
import Derived.LoopN

/- Contracts of the model's ReadCluster, WriteCluster. (Made ahead of stage 10.) -/
namespace Go.Proofs.Ytgkpddnpckglbaa
open Go.RowKit
set_option linter.unusedVariables false
set_option maxRecDepth 100000

/-- What the calls answer. -/
def rcA (m : Img) (g : Int) : Int × Int := if imB m = true then (if betw g 0 ((m.table.length : Int) - 1) = true then (imVal m (m.table.getD g.toNat 0), 0) else (0, 4)) else (0, 1)
def wcA (m : Img) (g v : Int) : Img × Int := if imB m = true then (if betw g 0 ((m.table.length : Int) - 1) = true ∧ numB v = true then imWrite m g.toNat v else (m, 4)) else (im0, 1)
def zcA (m : Img) (g : Int) : Img × Int := if imB m = true then (if betw g 0 ((m.table.length : Int) - 1) = true then (imZero m g.toNat, 0) else (m, 4)) else (im0, 1)
def rsA' (m : Img) (n : Int) : Img × Int := if imB m = true then (if betw n 0 12 = true then (imResize m n.toNat, 0) else (m, 4)) else (im0, 1)
/-- The entry's variable, the result's beside it. -/
structure ImE (w W : World) (a : Im4) (m : Img) : Prop where
  v : VarM W w.heap.size 26 (.slice a.ro m.refs.length a.rc) (.slice a.tq m.table.length a.tc) (.slice a.so m.snaps.length a.sc) (.slice a.dq m.data.length a.dc)
  r : VarM W (w.heap.size + 1) 26 (.slice none 0 0) (.slice none 0 0) (.slice none 0 0) (.slice none 0 0)
  s : ImS W a m
  b : Below w.heap.size w W
theorem ImE.new (w : World) (a : Im4) (m : Img) (h : ImS w a m) : ImE w ((w.alloc (.cells #[.slice a.ro m.refs.length a.rc, .slice a.tq m.table.length a.tc, .slice a.so m.snaps.length a.sc, .slice a.dq m.data.length a.dc] 26)).alloc (.cells #[.slice none 0 0, .slice none 0 0, .slice none 0 0, .slice none 0 0] 26)) a m :=
  ⟨(VarM.new w _ _ _ _ _).below (Joins.below_alloc1 _ _), (VarM.new (w.alloc _) _ _ _ _ _).at (by simp), h.below (Joins.below_alloc2 _ _ _), Joins.below_alloc2 _ _ _⟩
theorem ImE.below {w W W' : World} {a : Im4} {m : Img} (h : ImE w W a m) (hb : Below W.heap.size W W') : ImE w W' a m := ⟨h.v.below hb, h.r.below hb, h.s.below hb, fr h.b hb⟩
/-- A result that is put. -/
theorem ImE.put {w W W' : World} {a : Im4} {m : Img} (h : ImE w W a m) (hb : Below W.heap.size W W') {a' : Im4} {m' : Img} {ts : List Value} (ho : OwnIm W' W.heap.size a' m' ts) :
    VarM (putI W' (w.heap.size + 1) a' m') (w.heap.size + 1) 26 (.slice a'.ro m'.refs.length a'.rc) (.slice a'.tq m'.table.length a'.tc) (.slice a'.so m'.snaps.length a'.sc) (.slice a'.dq m'.data.length a'.dc) ∧ OwnIm (putI W' (w.heap.size + 1) a' m') w.heap.size a' m' ts ∧ Below w.heap.size w (putI W' (w.heap.size + 1) a' m') := by
  obtain ⟨h1, h2, h3⟩ := ImSt.put (h.r.below hb) ho (fr h.b hb) (Nat.le_succ _) h.r.lt a' m'
  exact ⟨h1, h2.base h.b.size, h3⟩
/-- The empty image as a result. -/
theorem ImE.zero {w W : World} {a : Im4} {m : Img} (h : ImE w W a m) :
    VarM ((((W.setCell ⟨w.heap.size + 1, 0, none⟩ (.slice none 0 0)).setCell ⟨w.heap.size + 1, 1, none⟩ (.slice none 0 0)).setCell ⟨w.heap.size + 1, 2, none⟩ (.slice none 0 0)).setCell ⟨w.heap.size + 1, 3, none⟩ (.slice none 0 0)) (w.heap.size + 1) 26 (.slice none 0 0) (.slice none 0 0) (.slice none 0 0) (.slice none 0 0) ∧
    Below w.heap.size w ((((W.setCell ⟨w.heap.size + 1, 0, none⟩ (.slice none 0 0)).setCell ⟨w.heap.size + 1, 1, none⟩ (.slice none 0 0)).setCell ⟨w.heap.size + 1, 2, none⟩ (.slice none 0 0)).setCell ⟨w.heap.size + 1, 3, none⟩ (.slice none 0 0)) :=
  ⟨(((h.r.set0 _).set1 _).set2 _).set3 _, (((h.b.setCell (p := ⟨w.heap.size + 1, 0, none⟩) (Nat.le_succ _) _).setCell (p := ⟨w.heap.size + 1, 1, none⟩) (Nat.le_succ _) _).setCell (p := ⟨w.heap.size + 1, 2, none⟩) (Nat.le_succ _) _).setCell (p := ⟨w.heap.size + 1, 3, none⟩) (Nat.le_succ _) _⟩
/-- An answer: an image of its own and a code. -/
def AnsI (w w' : World) (e : Ending) (R : Img × Int) : Prop := ∃ a ts, e = .returned (.tuple #[imV a R.1, .int .i64 R.2]) ∧ OwnIm w' w.heap.size a R.1 ts ∧ Below w.heap.size w w'
theorem AnsI.of {w w' : World} {v : Value} {c : Int} {R : Img × Int} {a : Im4} {ts : List Value} (hv : v = imV a R.1) (hc : c = R.2) (ho : OwnIm w' w.heap.size a R.1 ts) (hb : Below w.heap.size w w') : AnsI w w' (.returned (.tuple #[v, .int .i64 c])) R := ⟨a, ts, by rw [hv, hc], ho, hb⟩
theorem AnsI.bad {w w' : World} (c : Int) (hb : Below w.heap.size w w') : AnsI w w' (.returned (.tuple #[.agg #[.slice none 0 0, .slice none 0 0, .slice none 0 0, .slice none 0 0], .int .i64 c])) (im0, c) := ⟨⟨none, 0, none, 0, none, 0, none, 0⟩, [], rfl, OwnIm.zero _ _, hb⟩

set_option maxHeartbeats 1600000 in
theorem readCluster_spec (a : Im4) (m : Img) (g : Int) (w : World) (hL : ImL m) (hc : ImS w a m) :
    Calls Try.prog 25 #[imV a m, .int .i64 g] w fun e w' => e = .returned (.tuple #[.int .i64 (rcA m g).1, .int .i64 (rcA m g).2]) ∧ Below w.heap.size w w' := by
  have HA := hide (Joins.below_alloc1 w (.cells #[.slice a.ro m.refs.length a.rc, .slice a.tq m.table.length a.tc, .slice a.so m.snaps.length a.sc, .slice a.dq m.data.length a.dc] 26))
  have HV := hide (VarM.new w 26 (.slice a.ro m.refs.length a.rc) (.slice a.tq m.table.length a.tc) (.slice a.so m.snaps.length a.sc) (.slice a.dq m.data.length a.dc))
  have HC := hide (hc.below (unhide HA))
  have HL := hide hL
  have ht64 : m.table.length ≤ 9223372036854775807 := hL.t
  obtain ⟨R, HR⟩ : ∃ R, Hid (R = rcA m g) := ⟨_, rfl⟩
  rw [← unhide HR]
  clear hc hL
  go_enter Try.func25, Try.ntmps25
  go_upto_region 1 with fail
  revert HA HV HC
  generalize (w.alloc _) = W0
  intro HA HV HC
  obtain ⟨c0, c1, c2, c3⟩ := (unhide HV).cells
  go_wp2_with fail
  refine (imageOK_spec a m _ (unhide HL) (unhide HC)).mono ?_
  rintro e w1 ⟨rfl, hb⟩
  have HB1 := hide (fr (unhide HA) hb)
  have HC1 := hide ((unhide HC).below hb)
  have HV1 := hide ((unhide HV).below hb)
  clear hb c0 c1 c2 c3 HA HV HC
  cases him : imB m
  · have HE : Hid (R = (0, 1)) := hide (by rw [unhide HR, rcA, him]; rfl)
    go_wp2
    go_ret2
    exact ⟨by rw [unhide HE]; rfl, unhide HB1⟩
  obtain ⟨c0, c1, c2, c3⟩ := (unhide HV1).cells
  have hws : IntKind.i64.wrap ((m.table.length : Int) - 1) = (m.table.length : Int) - 1 := by rw [IntKind.wrap_i64]; omega
  cases hg : betw g 0 ((m.table.length : Int) - 1)
  · have HE : Hid (R = (0, 4)) := hide (by rw [unhide HR, rcA, him, hg]; rfl)
    go_wp2_with (go_at_call 34; refine (in_any _ _ _ _).mono ?_; rintro e w' ⟨rfl, hw⟩; replace hw := hw.symm; subst hw; rw [hg])
    go_ret2
    exact ⟨by rw [unhide HE]; rfl, unhide HB1⟩
  · obtain ⟨l0, l1⟩ := betw_iff.1 hg
    obtain ⟨q, rfl⟩ := Int.eq_ofNat_of_zero_le l0
    have hq : q < m.table.length := by omega
    have hqi : (q : Int) < (m.table.length : Int) := by omega
    have HM := hide (imB_iff.1 him).M
    have HE : Hid (R = (imVal m m.table[q], 0)) := hide (by
      rw [unhide HR, rcA, if_pos him, if_pos hg, Int.toNat_natCast]
      simp [List.getD, hq])
    obtain ⟨t0, t1⟩ := (unhide HM).tv q hq
    have HTV := hide (And.intro t0 t1)
    obtain ⟨b, off, et, hct⟩ := (unhide HC1).t q hq
    have ct : w1.cell? ⟨w.heap.size, 1, none⟩ = some (.slice (some ⟨b, off, none⟩) m.table.length a.tc) := by rw [← et]; exact c1
    have HAV : Hid (imV a m = .agg #[.slice a.ro m.refs.length a.rc, .slice (some ⟨b, off, none⟩) m.table.length a.tc, .slice a.so m.snaps.length a.sc, .slice a.dq m.data.length a.dc]) := hide (by rw [imV, et])
    have hbl := World.block_lt_of_cell? _ _ hct
    have HD := hide (unhide HM).d
    have hil := (unhide HV1).lt
    clear et c1 him t0 t1 l0 l1 HR
    generalize m.table[q] = T at *
    have HCALL : Hid (∀ W, Below w1.heap.size w1 W → Calls Try.prog 57 #[.agg #[.slice a.ro m.refs.length a.rc, .slice (some ⟨b, off, none⟩) m.table.length a.tc, .slice a.so m.snaps.length a.sc, .slice a.dq m.data.length a.dc], .int .i64 T] W fun e w' => e = .returned (.int .i64 (imVal m T)) ∧ Below W.heap.size W w') := hide (fun W hW => by rw [← unhide HAV]; exact l10Value_any a m T W (unhide HTV).1 (by rw [unhide HD]; have := (unhide HTV).2; omega) (by rw [unhide HD]; omega) ((unhide HC1).d.below hW))
    generalize hVV : imVal m T = V at *
    clear hVV
    go_upto_region 5 with (go_at_call 34; refine (in_any _ _ _ _).mono ?_; rintro e w' ⟨rfl, hw⟩; replace hw := hw.symm; subst hw; rw [hg])
    have HCELL : Hid (∀ W, Below w1.heap.size w1 W → W.cell? ⟨w.heap.size, 0, none⟩ = some (.slice a.ro m.refs.length a.rc) ∧ W.cell? ⟨w.heap.size, 1, none⟩ = some (.slice (some ⟨b, off, none⟩) m.table.length a.tc) ∧ W.cell? ⟨w.heap.size, 2, none⟩ = some (.slice a.so m.snaps.length a.sc) ∧ W.cell? ⟨w.heap.size, 3, none⟩ = some (.slice a.dq m.data.length a.dc) ∧ W.cell? ⟨b, off + q, none⟩ = some (.int .i64 T)) := hide (fun W hW => ⟨(hW.cell (p := ⟨w.heap.size, 0, none⟩) hil).trans c0, (hW.cell (p := ⟨w.heap.size, 1, none⟩) hil).trans ct, (hW.cell (p := ⟨w.heap.size, 2, none⟩) hil).trans c2, (hW.cell (p := ⟨w.heap.size, 3, none⟩) hil).trans c3, (hW.cell (p := ⟨b, off + q, none⟩) hbl).trans hct⟩)
    clear c0 ct c2 c3 hct
    refine wp_region_cb (by kernel_rfl) (by kernel_rfl) ?_
    refine quiet_val (.agg #[.slice a.ro m.refs.length a.rc, .slice (some ⟨b, off, none⟩) m.table.length a.tc, .slice a.so m.snaps.length a.sc, .slice a.dq m.data.length a.dc]) rfl (fun W hW => by obtain ⟨k0, k1, k2, k3, k4⟩ := unhide HCELL W hW; go_simp) ?_
    refine quiet_val (.pointer (some ⟨w.heap.size, 1, none⟩)) rfl (fun W hW => by go_simp) ?_
    refine quiet_val (.slice (some ⟨b, off, none⟩) m.table.length a.tc) rfl (fun W hW => by obtain ⟨k0, k1, k2, k3, k4⟩ := unhide HCELL W hW; go_simp) ?_
    refine quiet_val (.int .i64 q) rfl (fun W hW => by go_simp) ?_
    refine quiet_val (.pointer (some ⟨b, off + q, none⟩)) rfl (fun W hW => by go_simp) ?_
    refine quiet_val (.int .i64 T) rfl (fun W hW => by obtain ⟨k0, k1, k2, k3, k4⟩ := unhide HCELL W hW; go_simp) ?_
    refine quiet_call (.int .i64 V) 57 #[.agg #[.slice a.ro m.refs.length a.rc, .slice (some ⟨b, off, none⟩) m.table.length a.tc, .slice a.so m.snaps.length a.sc, .slice a.dq m.data.length a.dc], .int .i64 T] rfl (fun W => by go_simp) (fun W hW => unhide HCALL W hW) ?_
    refine quiet_val (.int .i64 V) rfl (fun W hW => by go_simp) ?_
    refine quiet_val (.int .i64 0) rfl (fun W hW => by go_simp) ?_
    refine wpQuiet_nil fun w2 hb2 => ?_
    have HB2 := hide hb2
    clear hb2
    go_wp2
    go_ret2
    exact ⟨by rw [unhide HE]; simp [go_sem], fr (unhide HB1) (unhide HB2)⟩

set_option maxHeartbeats 1600000 in
theorem writeCluster_spec (a : Im4) (m : Img) (g v : Int) (w : World) (hL : ImL m) (hc : ImS w a m) :
    Calls Try.prog 26 #[imV a m, .int .i64 g, .int .i64 v] w fun e w' => AnsI w w' e (wcA m g v) := by
  have HE := hide (ImE.new w a m hc)
  have HL := hide hL
  have ht64 : m.table.length ≤ 9223372036854775807 := hL.t
  obtain ⟨R, HR⟩ : ∃ R, Hid (R = wcA m g v) := ⟨_, rfl⟩
  rw [← unhide HR]
  clear hc hL
  go_enter Try.func26, Try.ntmps26
  go_upto_region 1 with fail
  revert HE
  generalize ((w.alloc _).alloc _) = W0
  intro HE
  obtain ⟨c0, c1, c2, c3⟩ := (unhide HE).v.cells
  go_wp2_with fail
  refine (imageOK_spec a m _ (unhide HL) (unhide HE).s).mono ?_
  rintro e w1 ⟨rfl, hb⟩
  have HE1 := hide ((unhide HE).below hb)
  clear hb c0 c1 c2 c3 HE
  obtain ⟨c0, c1, c2, c3⟩ := (unhide HE1).v.cells
  obtain ⟨r0, r1, r2, r3⟩ := (unhide HE1).r.cells
  obtain ⟨z0, z1, z2, z3⟩ := (unhide HE1).r.free
  cases him : imB m
  · have HX : Hid (R = (im0, 1)) := hide (by rw [unhide HR, wcA, him]; rfl)
    have HZ := hide (unhide HE1).zero
    go_wp2
    refine bodyPost_ret (res_ic Try.results26 rfl rfl (unhide HZ).1) rfl ?_
    rw [unhide HX]
    exact AnsI.bad 1 (unhide HZ).2
  have HM := hide (imB_iff.1 him).M
  have hws : IntKind.i64.wrap ((m.table.length : Int) - 1) = (m.table.length : Int) - 1 := by rw [IntKind.wrap_i64]; omega
  by_cases hok : betw g 0 ((m.table.length : Int) - 1) = true ∧ numB v = true
  · have HX : Hid (R = imWrite m g.toNat v) := hide (by rw [unhide HR, wcA, if_pos him, if_pos hok])
    obtain ⟨hg, hn⟩ := hok
    obtain ⟨l0, l1⟩ := betw_iff.1 hg
    obtain ⟨q, rfl⟩ := Int.eq_ofNat_of_zero_le l0
    rw [Int.toNat_natCast] at HX
    have hq : q < m.table.length := by omega
    clear him l0 l1 HR
    go_wp2_with (first | (go_at_call 34; refine (in_any _ _ _ _).mono ?_; rintro e w' ⟨rfl, hw⟩; replace hw := hw.symm; subst hw; rw [hg]) | (go_at_call 58; refine (l02Int_any _ _).mono ?_; rintro e w' ⟨rfl, hw⟩; replace hw := hw.symm; subst hw; rw [hn]))
    refine (l10Write_R a m q v R _ (unhide HX) (unhide HM) hq (unhide HE1).s).mono ?_
    rintro e w2 ⟨b, ts, rfl, ho, hb⟩
    have HP := hide ((unhide HE1).put hb ho)
    have HE2 := hide ((unhide HE1).below hb)
    clear ho hb c0 c1 c2 c3 r0 r1 r2 r3 z0 z1 z2 z3 HX
    obtain ⟨r0, r1, r2, r3⟩ := (unhide HE2).r.cells
    obtain ⟨z0, z1, z2, z3⟩ := (unhide HE2).r.free
    go_wp2
    refine bodyPost_ret (res_ic Try.results26 rfl rfl (unhide HP).1) rfl ?_
    exact AnsI.of rfl rfl (unhide HP).2.1 (unhide HP).2.2
  · have HX : Hid (R = (m, 4)) := hide (by rw [unhide HR, wcA, if_pos him, if_neg hok])
    clear him HR
    cases hg : betw g 0 ((m.table.length : Int) - 1)
    · clear hok
      go_wp2_with (first | (go_at_call 34; refine (in_any _ _ _ _).mono ?_; rintro e w' ⟨rfl, hw⟩; replace hw := hw.symm; subst hw; rw [hg]) | fail)
      refine (l10Own_M a m _ (unhide HM) (unhide HE1).s).mono ?_
      rintro e w2 ⟨b, ts, rfl, ho, hb⟩
      have HP := hide ((unhide HE1).put hb ho)
      have HE2 := hide ((unhide HE1).below hb)
      clear ho hb c0 c1 c2 c3 r0 r1 r2 r3 z0 z1 z2 z3
      obtain ⟨r0, r1, r2, r3⟩ := (unhide HE2).r.cells
      obtain ⟨z0, z1, z2, z3⟩ := (unhide HE2).r.free
      go_wp2
      refine bodyPost_ret (res_ic Try.results26 rfl rfl (unhide HP).1) rfl ?_
      rw [unhide HX]
      exact AnsI.of (R := (m, 4)) rfl rfl (unhide HP).2.1 (unhide HP).2.2
    · have hn : numB v = false := by rw [hg] at hok; simpa using hok
      clear hok
      go_wp2_with (first | (go_at_call 34; refine (in_any _ _ _ _).mono ?_; rintro e w' ⟨rfl, hw⟩; replace hw := hw.symm; subst hw; rw [hg]) | (go_at_call 58; refine (l02Int_any _ _).mono ?_; rintro e w' ⟨rfl, hw⟩; replace hw := hw.symm; subst hw; rw [hn]))
      refine (l10Own_M a m _ (unhide HM) (unhide HE1).s).mono ?_
      rintro e w2 ⟨b, ts, rfl, ho, hb⟩
      have HP := hide ((unhide HE1).put hb ho)
      have HE2 := hide ((unhide HE1).below hb)
      clear ho hb c0 c1 c2 c3 r0 r1 r2 r3 z0 z1 z2 z3
      obtain ⟨r0, r1, r2, r3⟩ := (unhide HE2).r.cells
      obtain ⟨z0, z1, z2, z3⟩ := (unhide HE2).r.free
      go_wp2
      refine bodyPost_ret (res_ic Try.results26 rfl rfl (unhide HP).1) rfl ?_
      rw [unhide HX]
      exact AnsI.of (R := (m, 4)) rfl rfl (unhide HP).2.1 (unhide HP).2.2

end Go.Proofs.Ytgkpddnpckglbaa

/- The walk of laws.FnExactNewImage, given what the program's function answers. (Made ahead of stage 10.) -/
namespace Go.Proofs.Ytgkpddnpckglbaa
open Go.RowKit
set_option linter.unusedVariables false
set_option maxRecDepth 100000

theorem niI_bd (n : Int) : ImBd (niI n) := by
  unfold niI
  split
  · rename_i h
    have hb : betw n 0 12 = true := by
      unfold niF at h
      split at h
      · assumption
      · cases h
    have := betw_iff.1 hb
    exact ⟨by simp [imNew, zero24], by simp [imNew]; omega, by simp [imNew], by simp [imNew, zero24], fun s hs => by simp [imNew] at hs, by simp [imNew, snK]⟩
  · exact ImBd.zero

set_option maxHeartbeats 3200000 in
theorem lawImNewImage (n : Int) (w : World)
    (himpl : ∀ W : World, Calls Try.prog 17 #[.int .i64 n] W fun e w' => AnsI W w' e (niI n, niF n)) :
    Calls Try.prog 4 #[.int .i64 n] w fun e w' => e = .returned (.bool true) ∧ Below w.heap.size w w' := by
  have HRD := hide (niI_bd n)
  have HRS := hide (unhide HRD).zs
  have HIM := hide himpl
  have HSP : Hid (∀ W : World, Calls Try.prog 18 #[.int .i64 n] W fun e w' => AnsI W w' e (niI n, niF n)) := hide (fun W => (newImage_spec n W).mono fun e w' ⟨a, h1, h2, h3⟩ => ⟨a, [], h1, h2, h3⟩)
  have bcc : (niF n != niF n) = false := by simp
  clear himpl
  generalize niI n = R at *
  generalize niF n = C at *
  go_enter Try.func4, Try.ntmps4
  go_wp2_with fail
  refine (unhide HSP _).mono ?_
  rintro e w3 ⟨aW, tsW, rfl, hoW, hb3⟩
  simp only at hoW ⊢
  have HNW := hide (LwV.new w3 aW R hoW hb3.size)
  have HB3 := hide (fr hb3 (Joins.below_alloc1 w3 (.cells #[.slice aW.ro R.refs.length aW.rc, .slice aW.tq R.table.length aW.tc, .slice aW.so R.snaps.length aW.sc, .slice aW.dq R.data.length aW.dc] 26)))
  clear hoW hb3
  go_upto_region 2 with fail
  revert HB3
  revert HNW
  generalize (w3.alloc _) = W3
  generalize w3.heap.size = pW
  intro HNW HB3
  go_wp2_with fail
  refine (unhide HIM _).mono ?_
  rintro e w5 ⟨aG, tsG, rfl, hoG, hb5⟩
  simp only at hoG ⊢
  have HB5' := hide (fr hb5 (Joins.below_alloc1 w5 (.cells #[.slice aG.ro R.refs.length aG.rc, .slice aG.tq R.table.length aG.tc, .slice aG.so R.snaps.length aG.sc, .slice aG.dq R.data.length aG.dc] 26)))
  have HNW5 := hide ((unhide HNW).below (unhide HB5'))
  have HNG5 := hide (LwV.new w5 aG R hoG hb5.size)
  have HB5 := hide (fr (unhide HB3) (unhide HB5'))
  have HWX : Hid (∀ g, ImB aW R tsW g → g < W3.heap.size) := hide (fun g hg => ((unhide HNW).o.ge g hg).2)
  have HSL : Hid (w.heap.size ≤ W3.heap.size) := hide (unhide HB3).size
  clear hoG hb5 HNW HB3
  generalize W3.heap.size = n2 at *
  go_upto_region 3 with fail
  clear HB5'
  revert HB5
  revert HNG5
  revert HNW5
  generalize (w5.alloc _) = W5
  generalize w5.heap.size = pG
  intro HNW5 HNG5 HB5
  obtain ⟨c0, c1, c2, c3⟩ := (unhide HNG5).v.cells
  obtain ⟨d0, d1, d2, d3⟩ := (unhide HNW5).v.cells
  go_wp2_with fail
  refine (eqImage_B aG aW R _ (unhide HRD) ((unhide HNG5).o.shows (unhide HRS)) ((unhide HNW5).o.shows (unhide HRS))).mono ?_
  rintro e w9 ⟨rfl, hb⟩
  have HNW9 := hide ((unhide HNW5).below hb)
  have HNG9 := hide ((unhide HNG5).below hb)
  have HB9 := hide (fr (unhide HB5) hb)
  clear hb c0 c1 c2 c3 d0 d1 d2 d3 HNW5 HNG5 HB5
  obtain ⟨c0, c1, c2, c3⟩ := (unhide HNG9).v.cells
  go_wp2_with fail
  refine (markImage_B aG R tsG _ _ (unhide HRD) (unhide HNG9).o).mono ?_
  rintro e w10 ⟨rfl, ho10, hk10⟩
  have HNW10 := hide ((unhide HNW9).keep (unhide HNG9) hk10 (fun g h1 h2 => by have := unhide HWX g h1; have := ((unhide HNG9).o.ge g h2).1; omega))
  have HGV10 := hide ((unhide HNG9).v.keepIm (unhide HNG9).o hk10)
  have HGO10 := hide ho10
  have HB10 := hide ((unhide HB9).trans (hk10.below (unhide HB9).size (fun g hg => by have := ((unhide HNG9).o.ge g hg).1; have := unhide HSL; omega)))
  clear ho10 hk10 c0 c1 c2 c3 HNW9 HNG9 HB9
  obtain ⟨c0, c1, c2, c3⟩ := (unhide HGV10).cells
  go_wp2_with fail
  refine (heldImage_B aG R tsG _ _ (unhide HRD) (unhide HGO10)).mono ?_
  rintro e w12 ⟨rfl, hb⟩
  have HNW12 := hide ((unhide HNW10).below hb)
  have HGV12 := hide ((unhide HGV10).below hb)
  have HGO12 := hide ((unhide HGO10).below hb)
  have HB12 := hide (fr (unhide HB10) hb)
  clear hb c0 c1 c2 c3 HNW10 HGV10 HGO10 HB10
  have hq1 : ¬ (((1 + imK R : Nat) : Int) < 0) := by omega
  go_wp2_with fail
  refine (unhide HIM _).mono ?_
  rintro e w13 ⟨aH, tsH, rfl, hoH, hb⟩
  simp only at hoH ⊢
  have HBa := hide (fr hb (Joins.below_alloc1 w13 (.cells #[.slice aH.ro R.refs.length aH.rc, .slice aH.tq R.table.length aH.tc, .slice aH.so R.snaps.length aH.sc, .slice aH.dq R.data.length aH.dc] 26)))
  have HNH := hide (LwV.new w13 aH R hoH hb.size)
  have HNW13 := hide ((unhide HNW12).below (unhide HBa))
  have HGV13 := hide ((unhide HGV12).below (unhide HBa))
  have HGO13 := hide ((unhide HGO12).below (unhide HBa))
  have HB13 := hide (fr (unhide HB12) (unhide HBa))
  clear hb hoH HNW12 HGV12 HGO12 HB12
  go_upto_region 14 with fail
  clear HBa
  revert HB13
  revert HGO13
  revert HGV13
  revert HNW13
  revert HNH
  generalize (w13.alloc _) = W13
  generalize w13.heap.size = pH
  intro HNH HNW13 HGV13 HGO13 HB13
  obtain ⟨c0, c1, c2, c3⟩ := (unhide HNH).v.cells
  obtain ⟨d0, d1, d2, d3⟩ := (unhide HNW13).v.cells
  go_wp2_with fail
  refine (eqImage_B aH aW R _ (unhide HRD) ((unhide HNH).o.shows (unhide HRS)) ((unhide HNW13).o.shows (unhide HRS))).mono ?_
  rintro e w14 ⟨rfl, hb⟩
  have HGV14 := hide ((unhide HGV13).below hb)
  have HGO14 := hide ((unhide HGO13).below hb)
  have HB14 := hide (fr (unhide HB13) hb)
  clear hb c0 c1 c2 c3 d0 d1 d2 d3 HNH HNW13 HGV13 HGO13 HB13
  obtain ⟨c0, c1, c2, c3⟩ := (unhide HGV14).cells
  go_wp2_with fail
  refine (heldImage_B aG R tsG _ _ (unhide HRD) (unhide HGO14)).mono ?_
  rintro e w15 ⟨rfl, hb⟩
  have HB15 := hide (fr (unhide HB14) hb)
  clear hb c0 c1 c2 c3
  go_wp2
  go_ret
  exact ⟨rfl, unhide HB15⟩

end Go.Proofs.Ytgkpddnpckglbaa

/- Contracts of copyList, at texts and at writes: what was there, in new memory. -/
namespace Go.Proofs.Ytgkpddnpckglbaa
open Go.RowKit
set_option linter.unusedVariables false
set_option maxRecDepth 100000

section
variable {P : Program}

/-- 'copy(out, src)', both of n elements of some cells each. -/
theorem run_copy_whole (w : World) (dT sT ty elem : TypeId) (size g n dCap : Nat) (a : Addr) (sCap : Nat) (cur : Array Value) (t : TypeId) (cs : List Value)
    (hu : P.underlying dT = some (.slice elem)) (hs : (P.info? elem).map (·.size) = some size)
    (hg : w.heap[g]? = some (.cells cur t (0, 0))) (hl : n * size = cs.length)
    (hsrc : ∀ j v, cs[j]? = some v → w.cell? (a.add j) = some v) (hfit : cs.length ≤ cur.size) (h1 : ∀ v ∈ cs, v.oneCell' = true) :
    (Builtin.copy_ #[dT, sT] ty #[.slice (some ⟨g, 0, none⟩) n dCap, .slice (some a) n sCap]).run P w = .ok (goInt n) (w.setRow g (cs ++ cur.toList.drop cs.length).toArray) := by
  have hld := run_loadCells_list (P := P) w a cs hsrc
  have hst := run_storeCells_at P g 0 t cs 0 cur w hg (by simpa using hfit) h1
  cases hq : P.info? elem with
  | none => simp [hq] at hs
  | some i =>
    have hi : i.size = size := by simpa [hq] using hs
    simp [Builtin.copy_, run_underlying hu, Builtin.lenOf, Builtin.firstCells, sizeOf, typeInfo, hq, hi, hl, hld, hst]

theorem wpList_copy_whole {w : World} {ops : Array Oper} {rest : List Oper} {o : Oper} {a : Act} {Q : Exit → Act → World → Prop} (hgd : o.guard = none) (d s : Operand) (dT sT : TypeId)
    (ho : o.op = .call { callee := .builtin .copy, args := #[d, s], argTypes := #[dT, sT] }) (elem : TypeId) (size : Nat) (hu : P.underlying dT = some (.slice elem)) (hsz : (P.info? elem).map (·.size) = some size)
    (B g n : Nat) (ad : Addr) (sCap : Nat) (hd : a.eval d = .slice (some ⟨g, 0, none⟩) n n) (hs : a.eval s = .slice (some ad) n sCap)
    (xs : List Value) (hown : w.ownsRow B elem size (.slice (some ⟨g, 0, none⟩) n n) n xs) (cs : List Value) (hn : cs.length = n * size)
    (hsrc : ∀ j v, cs[j]? = some v → w.cell? (ad.add j) = some v) (h1 : ∀ v ∈ cs, v.oneCell' = true)
    (h : ∀ w', w'.ownsRow B elem size (.slice (some ⟨g, 0, none⟩) n n) n cs → w.grownBy w' (some g) → wpList P ops Q rest (a.put o.dst (goInt n)) w') : wpList P ops Q (o :: rest) a w := by
  refine wpList_plain hgd fun K hK => ?_
  rcases hown.2 with ⟨e, _⟩ | ⟨g', cap', cur, e, hB, hg, hnc, hcm, hcs, ht⟩
  · simp at e
  · simp only [Value.slice.injEq, Option.some.injEq, Addr.mk.injEq, and_true, true_and] at e
    obtain ⟨rfl, rfl⟩ := e
    have hrun := run_copy_whole (P := P) w dT sT o.type elem size g n n ad sCap cur elem cs hu hsz hg hn.symm hsrc (by omega) h1
    unfold Oper.wp
    simp [execOp, ho, resolve, invoke, builtin, hd, hs, hrun, Result.andThen]
    refine hK _ _ (h _ ⟨hn, .inr ⟨g, n, _, rfl, hB, setRow_heap w g _ _ elem _ hg, hnc, hcm, ?_, ?_⟩⟩ ⟨rfl, rfl, rfl, by simp, fun k _ hk => setRow_other w g k _ (fun e => hk (by simp [e]))⟩)
    · simp; omega
    · rw [← hn]; simp
end

theorem infoS : (Try.prog.info? 9).map (fun i => (i.zero, i.size, i.bytes)) = some (some (.string ⟨#[]⟩), 1, 16) := by kernel_rfl
theorem sizeS : (Try.prog.info? 9).map (·.size) = some 1 := by kernel_rfl
theorem strV_one (ss : List ByteArray) : ∀ v ∈ strV ss, v.oneCell' = true := by
  intro v hv
  simp only [strV, List.mem_map] at hv
  obtain ⟨s, _, rfl⟩ := hv
  rfl
theorem ioV_one (xs : List Wr) : ∀ v ∈ ioV xs, v.oneCell' = true := by
  intro v hv
  simp only [ioV, List.mem_flatMap] at hv
  obtain ⟨x, _, hv⟩ := hv
  simp at hv
  rcases hv with rfl | rfl | rfl <;> rfl
/-- A slice that is not empty has an address at which its cells lie. -/
theorem Ss.at {w : World} {ao : Option Addr} {ss : List ByteArray} (h : Ss w ao ss) (hp : 0 < ss.length) : ∃ b off, ao = some ⟨b, off, none⟩ ∧ ∀ j v, (strV ss)[j]? = some v → w.cell? (Addr.add ⟨b, off, none⟩ j) = some v := by
  obtain ⟨b, off, rfl, _⟩ := h 0 hp
  refine ⟨b, off, rfl, fun j v hv => ?_⟩
  have hj : j < ss.length := by have := (List.getElem?_eq_some_iff.1 hv).1; rwa [strV_length] at this
  obtain ⟨b', off', e, hc, _⟩ := h j hj
  simp only [Option.some.injEq, Addr.mk.injEq, and_true] at e
  obtain ⟨rfl, rfl⟩ := e
  rw [strV_get hj] at hv
  cases hv
  rw [show Addr.add ⟨b, off, none⟩ j = ⟨b, off + j, none⟩ from by unfold Addr.add; split <;> simp_all]
  exact hc
theorem ioV_at {xs : List Wr} {j : Nat} {v : Value} (h : (ioV xs)[j]? = some v) : ∃ i r, ∃ hi : i < xs.length, j = i * 3 + r ∧ ((r = 0 ∧ v = .int .i64 xs[i].host) ∨ (r = 1 ∧ v = .int .i64 xs[i].at_) ∨ (r = 2 ∧ v = .string xs[i].data)) := by
  have hj : j < xs.length * 3 := by have := (List.getElem?_eq_some_iff.1 h).1; rwa [ioV_length] at this
  have hi : j / 3 < xs.length := by omega
  obtain ⟨g0, g1, g2⟩ := ioV_get hi
  rcases (show j % 3 = 0 ∨ j % 3 = 1 ∨ j % 3 = 2 by omega) with e | e | e
  · rw [show j = j / 3 * 3 by omega, g0] at h; cases h
    exact ⟨j / 3, 0, hi, by omega, .inl ⟨rfl, rfl⟩⟩
  · rw [show j = j / 3 * 3 + 1 by omega, g1] at h; cases h
    exact ⟨j / 3, 1, hi, by omega, .inr (.inl ⟨rfl, rfl⟩)⟩
  · rw [show j = j / 3 * 3 + 2 by omega, g2] at h; cases h
    exact ⟨j / 3, 2, hi, by omega, .inr (.inr ⟨rfl, rfl⟩)⟩
theorem Ios.at {w : World} {ao : Option Addr} {xs : List Wr} (h : Ios w ao xs) (hp : 0 < xs.length) : ∃ b off, ao = some ⟨b, off, none⟩ ∧ ∀ j v, (ioV xs)[j]? = some v → w.cell? (Addr.add ⟨b, off, none⟩ j) = some v := by
  obtain ⟨b, off, rfl, _⟩ := h 0 hp
  refine ⟨b, off, rfl, fun j v hv => ?_⟩
  obtain ⟨i, r, hi, rfl, hr⟩ := ioV_at hv
  obtain ⟨b', off', e, h0, h1, h2, _⟩ := h i hi
  simp only [Option.some.injEq, Addr.mk.injEq, and_true] at e
  obtain ⟨rfl, rfl⟩ := e
  rw [show Addr.add ⟨b, off, none⟩ (i * 3 + r) = ⟨b, off + i * 3 + r, none⟩ from by unfold Addr.add; split <;> simp_all [Nat.add_assoc]]
  rcases hr with ⟨rfl, rfl⟩ | ⟨rfl, rfl⟩ | ⟨rfl, rfl⟩
  · exact h0
  · exact h1
  · exact h2

end Go.Proofs.Ytgkpddnpckglbaa

/- Contracts of the program's tables: TableOK, tableFault, EncodeTable, splitEntry, EntryOf, ResizeTable. -/
namespace Go.Proofs.Ytgkpddnpckglbaa
open Go.RowKit
set_option linter.unusedVariables false
set_option maxRecDepth 100000

set_option maxHeartbeats 800000 in
theorem tableOK_impl (ao : Option Addr) (cap : Nat) (xs : List Int) (w : World) (hl : xs.length ≤ maxLen) (hc : Is w ao xs) :
    Calls Try.prog 100 #[.slice ao xs.length cap] w fun e w' => e = .returned (.bool (tbB xs)) ∧ w' = w := by
  have HC := hide hc
  clear hc
  unfold maxLen at hl
  by_cases hlong : 12 < xs.length
  · have HF := hide (tbB_nolen (xs := xs) (by omega))
    go_enter Try.func100, Try.ntmps100
    go_wp2
    go_ret
    exact ⟨ret_bool (unhide HF).symm, rfl⟩
  go_enter Try.func100, Try.ntmps100
  go_wp2
  go_loop [10] (fun i => ∃ k : Nat, k ≤ xs.length ∧ i = .int .i64 k ∧ Hid (∀ j (h : j < xs.length), j < k → ent1 xs[j] = true)) (fun i => xs.length - (intOf i).toNat)
  case atStart => exact ⟨0, Nat.zero_le _, rfl, hide (fun j _ h => by omega)⟩
  case round =>
    obtain ⟨k, hk, rfl, HA⟩ := hrel
    by_cases hlt : k < xs.length
    · obtain ⟨b, off, rfl, hc⟩ := unhide HC k hlt
      by_cases hn : ent1 xs[k] = true
      · have HN := hide (all_succ hlt (unhide HA) hn)
        have hn' : betw xs[k] 0 25 = true := hn
        clear hn
        go_wp2_with (go_at_call 42; refine (within_any _ _ _ _).mono ?_; rintro e w' ⟨rfl, rfl⟩)
        go_round
        case rel => exact ⟨k + 1, by omega, by go_num, HN⟩
        case measure => simp [intOf]; omega
      · have hn0 : ent1 xs[k] = false := by simpa using hn
        have hn' : betw xs[k] 0 25 = false := hn0
        have HF := hide (tbB_noat hlt hn0)
        clear hn hn0
        go_wp2_with (go_at_call 42; refine (within_any _ _ _ _).mono ?_; rintro e w' ⟨rfl, rfl⟩)
        go_ret
        exact ⟨ret_bool (unhide HF).symm, rfl⟩
    · have HF := hide (tbB_of (xs := xs) (by omega) (fun j h => unhide HA j h (by omega)))
      go_wp2
      go_ret
      exact ⟨ret_bool (unhide HF).symm, rfl⟩

theorem tableFault_any (ao : Option Addr) (cap : Nat) (xs : List Int) (w : World) (hl : xs.length ≤ maxLen) (hc : Is w ao xs) :
    Calls Try.prog 74 #[.slice ao xs.length cap] w fun e w' => e = .returned (.int .i64 (tbF xs)) ∧ w' = w := by
  have HC := hide hc
  have HL := hide hl
  unfold maxLen at hl
  clear hc
  rcases tbF_cases xs with ⟨h1, h2⟩ | ⟨h1, hb, h2⟩ | ⟨hb, h2⟩
  · have HE := hide h2
    clear h2
    go_enter Try.func74, Try.ntmps74
    go_wp2
    go_ret
    exact ⟨ret_int (unhide HE).symm, rfl⟩
  · have HE := hide h2
    clear h2
    go_enter Try.func74, Try.ntmps74
    go_wp2_with (go_at_call 100; refine (tableOK_impl _ _ xs _ (unhide HL) (unhide HC)).mono ?_; rintro e w' ⟨rfl, hw⟩; replace hw := hw.symm; subst hw; rw [hb])
    go_ret
    exact ⟨ret_int (unhide HE).symm, rfl⟩
  · have HE := hide h2
    have h4 : ¬ (4096 : Int) < (xs.length : Int) := by have := tbB_len hb; omega
    clear h2
    go_enter Try.func74, Try.ntmps74
    go_wp2_with (go_at_call 100; refine (tableOK_impl _ _ xs _ (unhide HL) (unhide HC)).mono ?_; rintro e w' ⟨rfl, hw⟩; replace hw := hw.symm; subst hw; rw [hb])
    go_ret
    exact ⟨ret_int (unhide HE).symm, rfl⟩

theorem tbF_ne {xs : List Int} (h : tbF xs ≠ 0) : (tbF xs != 0) = true := by simpa using h

theorem splitEntry_any (n : Int) (w : World) (h0 : -1000 ≤ n) (h1 : n ≤ 1000) :
    Calls Try.prog 83 #[.int .i64 n] w fun e w' => e = .returned (.tuple #[.int .i64 (min n 2), .int .i64 (max 0 (n - 2))]) ∧ w' = w := by
  by_cases h : n < 2
  · have HM : Hid (n = min n 2 ∧ (0 : Int) = max 0 (n - 2)) := hide ⟨by omega, by omega⟩
    go_enter Try.func83, Try.ntmps83
    go_wp2
    go_ret2
    exact ⟨ret_two2 (unhide HM).1 (unhide HM).2, rfl⟩
  · have HM : Hid ((2 : Int) = min n 2 ∧ n - 2 = max 0 (n - 2)) := hide ⟨by omega, by omega⟩
    have hw2 : IntKind.i64.wrap (n - 2) = n - 2 := by rw [IntKind.wrap_i64]; omega
    go_enter Try.func83, Try.ntmps83
    go_wp2
    go_ret2
    exact ⟨ret_two2 (unhide HM).1 (unhide HM).2, rfl⟩

end Go.Proofs.Ytgkpddnpckglbaa

/- Contracts of impl.EntryOf and impl.ResizeTable. -/
namespace Go.Proofs.Ytgkpddnpckglbaa
open Go.RowKit
set_option linter.unusedVariables false
set_option maxRecDepth 100000

theorem ret_3i {a b c x y z : Int} (h1 : a = x) (h2 : b = y) (h3 : c = z) : Ending.returned (.tuple #[.int .i64 a, .int .i64 b, .int .i64 c]) = .returned (.tuple #[.int .i64 x, .int .i64 y, .int .i64 z]) := by rw [h1, h2, h3]

set_option maxHeartbeats 1600000 in
theorem entryOf_impl (ao : Option Addr) (cap : Nat) (xs : List Int) (g : Int) (w : World) (hl : xs.length ≤ maxLen) (hc : Is w ao xs) :
    Calls Try.prog 40 #[.slice ao xs.length cap, .int .i64 g] w fun e w' => e = .returned (.tuple #[.int .i64 (enK xs g), .int .i64 (enC xs g), .int .i64 (enF xs g)]) ∧ Below w.heap.size w w' := by
  have HC := hide hc
  have HL := hide hl
  unfold maxLen at hl
  clear hc
  have hws : IntKind.i64.wrap ((xs.length : Int) - 1) = (xs.length : Int) - 1 := by rw [IntKind.wrap_i64]; omega
  rcases en_cases xs g with ⟨h0, h1, h2, h3⟩ | ⟨hb, hg, h1, h2, h3⟩ | ⟨hb, q, rfl, hq, h1, h2, h3⟩
  · have HE := hide (And.intro h1 (And.intro h2 h3))
    have hne := tbF_ne h0
    clear h0 h1 h2 h3
    go_enter Try.func40, Try.ntmps40
    go_wp2_with (go_at_call 74; refine (tableFault_any _ _ xs _ (unhide HL) (unhide HC)).mono ?_; rintro e w' ⟨rfl, hw⟩; replace hw := hw.symm; subst hw)
    refine bodyPost_ret (v := .tuple #[.int .i64 0, .int .i64 0, .int .i64 (tbF xs)]) (by simp [results, Try.results40]) rfl ⟨?_, Below.refl _ _⟩
    exact ret_3i (unhide HE).2.1.symm (unhide HE).2.2.symm (unhide HE).1.symm
  · have HE := hide (And.intro h1 (And.intro h2 h3))
    have H0 := hide (tbF_ok hb)
    clear h1 h2 h3
    go_enter Try.func40, Try.ntmps40
    go_wp2_with (first | (go_at_call 74; refine (tableFault_any _ _ xs _ (unhide HL) (unhide HC)).mono ?_; rintro e w' ⟨rfl, hw⟩; replace hw := hw.symm; subst hw; rw [unhide H0]) | (go_at_call 42; refine (within_any _ _ _ _).mono ?_; rintro e w' ⟨rfl, hw⟩; replace hw := hw.symm; subst hw; rw [hg]))
    refine bodyPost_ret (v := .tuple #[.int .i64 0, .int .i64 0, .int .i64 4]) (by simp [results, Try.results40]) rfl ⟨?_, Below.refl _ _⟩
    exact ret_3i (unhide HE).2.1.symm (unhide HE).2.2.symm (unhide HE).1.symm
  · have HE := hide (And.intro h1 (And.intro h2 h3))
    have H0 := hide (tbF_ok hb)
    have hg : betw (q : Int) 0 ((xs.length : Int) - 1) = true := betw_yes (by omega) (by omega)
    have hqi : (q : Int) < (xs.length : Int) := by omega
    have HI := hide (tbB_at hb q hq)
    obtain ⟨b, off, rfl, hcl⟩ := unhide HC q hq
    clear h1 h2 h3
    go_enter Try.func40, Try.ntmps40
    go_wp2_with (first | (go_at_call 74; refine (tableFault_any _ _ xs _ (unhide HL) (unhide HC)).mono ?_; rintro e w' ⟨rfl, hw⟩; replace hw := hw.symm; subst hw; rw [unhide H0]) | (go_at_call 42; refine (within_any _ _ _ _).mono ?_; rintro e w' ⟨rfl, hw⟩; replace hw := hw.symm; subst hw; rw [hg]) | (go_at_call 83; refine (splitEntry_any _ _ (by have := unhide HI; omega) (by have := unhide HI; omega)).mono ?_; rintro e w' ⟨rfl, hw⟩; replace hw := hw.symm; subst hw))
    refine bodyPost_ret (v := .tuple #[.int .i64 (min xs[q] 2), .int .i64 (max 0 (xs[q] - 2)), .int .i64 0]) (by simp [results, Try.results40]) rfl ⟨?_, Below.refl _ _⟩
    exact ret_3i (unhide HE).2.1.symm (unhide HE).2.2.symm (unhide HE).1.symm

/-- A table laid over a row of zeros is the table of that size. -/
theorem rz_splice (xs : List Int) (q : Nat) (M : List Value) (hM : M = List.replicate q (.int .i64 0)) : splice M 0 (intV (xs.take q)) = intV (rzTo xs q) := by
  subst hM
  apply List.ext_getElem?
  intro i
  unfold splice rzTo intV
  simp only [List.take_zero, List.nil_append, Nat.zero_add, List.length_map, List.length_take, List.getElem?_append, List.getElem?_map, List.getElem?_take, List.drop_replicate, List.getElem?_replicate, List.getD]
  by_cases hi : i < min q xs.length
  · have h1 : i < q := by omega
    have h2 : i < xs.length := by omega
    simp [hi, h1, h2]
  · by_cases hq : i < q
    · have h2 : ¬ i < xs.length := by omega
      simp [hi, hq, List.getElem?_eq_none (show xs.length ≤ i by omega)]
      omega
    · simp [hi, hq]
      omega
theorem sizeN1 : (Try.prog.info? 3).map (·.size) = some 1 := by kernel_rfl
theorem takeV_one (xs : List Int) : ∀ v ∈ intV xs, v.oneCell' = true := by
  intro v hv
  simp only [intV, List.mem_map] at hv
  obtain ⟨n, _, rfl⟩ := hv
  rfl

set_option maxHeartbeats 1600000 in
theorem resizeTable_impl (ao : Option Addr) (cap : Nat) (xs : List Int) (n : Int) (w : World) (hl : xs.length ≤ maxLen) (hc : Is w ao xs) :
    Calls Try.prog 33 #[.slice ao xs.length cap, .int .i64 n] w fun e w' => ∃ v, e = .returned (.tuple #[v, .int .i64 (rzF xs n)]) ∧ OwnN w' w.heap.size v (rzL xs n) ∧ Below w.heap.size w w' := by
  have HC := hide hc
  have HL := hide hl
  unfold maxLen at hl
  clear hc
  rcases rz_cases xs n with ⟨h0, h1, h2⟩ | ⟨hb, hg, h1, h2⟩ | ⟨hb, q, rfl, hq, h1, h2⟩
  · have HE := hide (And.intro h1 h2)
    have hne := tbF_ne h0
    clear h0 h1 h2
    go_enter Try.func33, Try.ntmps33
    go_wp2_with (go_at_call 74; refine (tableFault_any _ _ xs _ (unhide HL) (unhide HC)).mono ?_; rintro e w' ⟨rfl, hw⟩; replace hw := hw.symm; subst hw)
    go_ret2
    exact ⟨.slice none 0 0, ret_ni rfl (unhide HE).1.symm, by rw [(unhide HE).2]; exact OwnN.nil _ _ _, Below.refl _ _⟩
  · have HE := hide (And.intro h1 h2)
    have H0 := hide (tbF_ok hb)
    clear h1 h2
    go_enter Try.func33, Try.ntmps33
    go_wp2_with (first | (go_at_call 74; refine (tableFault_any _ _ xs _ (unhide HL) (unhide HC)).mono ?_; rintro e w' ⟨rfl, hw⟩; replace hw := hw.symm; subst hw; rw [unhide H0]) | (go_at_call 42; refine (within_any _ _ _ _).mono ?_; rintro e w' ⟨rfl, hw⟩; replace hw := hw.symm; subst hw; rw [hg]))
    go_ret2
    exact ⟨.slice none 0 0, ret_ni rfl (unhide HE).1.symm, by rw [(unhide HE).2]; exact OwnN.nil _ _ _, Below.refl _ _⟩
  · have HE := hide (And.intro h1 h2)
    have H0 := hide (tbF_ok hb)
    have HX := hide (tbB_len hb)
    have hg : betw (q : Int) 0 12 = true := betw_yes (by omega) (by omega)
    obtain ⟨i0, hi, hz0, hz1, hz2⟩ := info_parts infoM
    have HCS : Hid (0 < (intV (xs.take q)).length → ∃ ad, ao = some ad ∧ ad.block < w.heap.size ∧ ∀ j v, (intV (xs.take q))[j]? = some v → w.cell? (ad.add j) = some v) := hide (fun hp => by
      rw [intV_length, List.length_take] at hp
      obtain ⟨b, off, e, hc'⟩ := unhide HC 0 (by omega)
      refine ⟨_, e, World.block_lt_of_cell? _ _ hc', fun j v hv => ?_⟩
      have hj : j < min q xs.length := by have := (List.getElem?_eq_some_iff.1 hv).1; rwa [intV_length, List.length_take] at this
      obtain ⟨b2, off2, e2, hc2⟩ := unhide HC j (by omega)
      rw [e] at e2
      simp only [Option.some.injEq, Addr.mk.injEq, and_true] at e2
      obtain ⟨rfl, rfl⟩ := e2
      rw [intV_get (by rw [List.length_take]; omega), List.getElem_take] at hv
      cases hv
      rw [show Addr.add ⟨b, off, none⟩ j = ⟨b, off + j, none⟩ from by unfold Addr.add; split <;> simp_all]
      exact hc2)
    clear h1 h2
    go_enter Try.func33, Try.ntmps33
    go_wp2_with (first | (go_at_call 74; refine (tableFault_any _ _ xs _ (unhide HL) (unhide HC)).mono ?_; rintro e w' ⟨rfl, hw⟩; replace hw := hw.symm; subst hw; rw [unhide H0]) | (go_at_call 42; refine (within_any _ _ _ _).mono ?_; rintro e w' ⟨rfl, hw⟩; replace hw := hw.symm; subst hw; rw [hg]) | (at_make; refine wpList_make_full _ rfl _ _ 23 rfl w.heap.size 3 i0 _ 1 Try.underlying23 hi hz0 hz1 _ _ _ _ q rfl rfl rfl rfl ?c1 ?c2 ?c3 ?_))
    case c1 => rw [hz2]; omega
    case c2 => unfold maxLen; omega
    case c3 => exact Nat.le_refl _
    intro w1 hown hgrow
    have hB : Below w.heap.size w w1 := (Below.refl _ _).grown hgrow (Nat.le_refl _) (fun _ h => by cases h)
    obtain ⟨M, hM⟩ : ∃ M, M = (madeCells #[Value.int .i64 0] q).toList := ⟨_, rfl⟩
    rw [← hM] at hown
    have HM : Hid (M = List.replicate q (.int .i64 0)) := hide (by
      rw [hM]
      apply List.ext_getElem?
      intro i
      simp [madeCells, List.getElem?_replicate, Nat.mod_one]
      by_cases hi : i < q <;> simp [hi])
    have HB := hide hB
    have HG : Hid (w1.heap[w.heap.size]? = some (.cells M.toArray 3 (0, 0))) := hide (by
      rcases hown.2 with ⟨e, _⟩ | ⟨g', cap', cur, e, hB', hg', hnc, hcm, hcs, ht⟩
      · simp at e
      · simp only [Value.slice.injEq, Option.some.injEq, Addr.mk.injEq, and_true, true_and] at e
        obtain ⟨rfl, rfl⟩ := e
        rw [hg', ← ht, List.take_of_length_le (by simp [hcs])])
    have HLM : Hid (M.length = q) := hide (by rw [unhide HM]; simp)
    have HLT : Hid ((intV (xs.take q)).length = Nat.min xs.length q) := hide (by rw [intV_length, List.length_take, Nat.min_comm])
    have HO1 := hide (takeV_one (xs.take q))
    have HSP := hide (rz_splice xs q M (unhide HM))
    have HLZ := hide (rzTo_len xs q)
    clear hown hgrow hB hM HM
    generalize intV (xs.take q) = cs at *
    go_wp2_with (refine wpList_copy_splice rfl _ _ 23 23 rfl 3 Try.underlying23 sizeN1 _ _ q q xs.length cap rfl rfl w.heap.size 0 M 3 (unhide HG) cs (unhide HLT) (fun hp => ⟨rfl, (unhide HCS hp).imp fun ad h => ⟨h.1, fun j v hv => ((unhide HB).cell (by unfold Addr.add; split <;> exact h.2.1)).trans (h.2.2 j v hv)⟩⟩) (by rw [unhide HLT, unhide HLM, Nat.zero_add]; exact Nat.min_le_right _ _) (unhide HO1) w.heap.size w (unhide HB) (Nat.le_refl _) ?_; intro w2 hg2 hb2; have HB2 := hide hb2; have HG2 := hide (unhide hg2); clear hb2 hg2)
    go_ret2
    refine ⟨.slice (some ⟨w.heap.size, 0, none⟩) q q, ret_ni rfl (unhide HE).1.symm, ?_, unhide HB2⟩
    rw [(unhide HE).2]
    refine ⟨some ⟨w.heap.size, 0, none⟩, q, by rw [unhide HLZ], ?_⟩
    rw [unhide HLZ]
    by_cases h0 : q = 0
    · subst h0
      exact .inl ⟨rfl, by simp [rzTo, intV], _, rfl⟩
    · refine .inr ⟨by omega, ?_, .inr ⟨w.heap.size, q, _, rfl, Nat.le_refl _, unhide HG2, Nat.le_refl _, by unfold maxLen; omega, ?_, ?_⟩⟩
      · rw [intV_length, unhide HLZ]; omega
      · rw [unhide HSP]; simp [intV_length, unhide HLZ]
      · rw [unhide HSP, List.take_of_length_le (by simp [intV_length, unhide HLZ])]

end Go.Proofs.Ytgkpddnpckglbaa
