import Derived.Test.YtgkpddnpckglbaaPart1
import Derived.WalkKit
import Derived.WalkSpells
import Derived.Deep.Quiet
import Derived.Test.YtgkpddnpckglbaaRows
import Derived.Test.YtgkpddnpckglbaaPart2
import Derived.Test.YtgkpddnpckglbaaPart3
import Derived.Test.YtgkpddnpckglbaaPart4
import Derived.Test.YtgkpddnpckglbaaPart5
import Derived.Test.YtgkpddnpckglbaaPart6
import Derived.Test.YtgkpddnpckglbaaPart8
import Derived.Test.YtgkpddnpckglbaaPart9
import Derived.Test.YtgkpddnpckglbaaImX
import Derived.Test.YtgkpddnpckglbaaPart13
import Derived.BigQuiet
import Derived.Deep.QuietTactic
import Derived.Deep.RegionWith
import Derived.Deep.RegionHeld3
import Derived.KernelRfl
import Derived.LoopN

/- A region that draws its order, whose operations only read, and whose callees may lay memory of their own: one walk in the order of the text, at the class of worlds behind a given one. -/
namespace Go.Proofs.Ytgkpddnpckglbaa
open Go.RowKit
set_option linter.unusedVariables false

section
variable {P : Program} {ops : Array Oper}
abbrev CB (W : World) : World → Prop := fun w => Below W.heap.size W w
theorem quiet_val {W : World} {Q : Act → Prop} {a : Act} {o : Oper} {rest : List Oper} (v : Value) (hg : o.guard = none) (hv : ∀ w, Below W.heap.size W w → (execOp a.eval o).run P w = .ok (.value v) w) (h : wpQuiet P ops (CB W) Q rest (a.put o.dst v)) : wpQuiet P ops (CB W) Q (o :: rest) a := by
  refine wpQuiet_step fun K hK => ?_
  rw [if_pos (by simp [Region.wanted, hg])]
  refine ⟨v, fun w hw => ?_, hK _ h⟩
  unfold Oper.quietAt
  rw [hv w hw]
  exact ⟨rfl, rfl⟩
theorem quiet_call {W : World} {Q : Act → Prop} {a : Act} {o : Oper} {rest : List Oper} (v : Value) (f : FuncId) (args : Array Value) (hg : o.guard = none) (hv : ∀ w, (execOp a.eval o).run P w = .ok (.enter f args) w) (hc : ∀ w, Below W.heap.size W w → Calls P f args w fun e w' => e = .returned v ∧ Below w.heap.size w w') (h : wpQuiet P ops (CB W) Q rest (a.put o.dst v)) : wpQuiet P ops (CB W) Q (o :: rest) a := by
  refine wpQuiet_step fun K hK => ?_
  rw [if_pos (by simp [Region.wanted, hg])]
  refine ⟨v, fun w hw => ?_, hK _ h⟩
  unfold Oper.quietAt
  rw [hv w]
  exact ⟨rfl, (hc w hw).mono fun e w' ⟨he, hb⟩ => ⟨he, fr hw hb⟩⟩
theorem wp_region_cb {id : Nat} {Q : Exit → Act → World → Prop} {a : Act} {w : World} {l : List Oper} (hm : P.follows .mixedOrders = true) (hB : Region.lexB .any l.toArray = true)
    (h : wpQuiet P l.toArray (CB w) (fun a' => ∀ w', Below w.heap.size w w' → Q .normal a' w') l a) : (Code.region id l.toArray true).wp P Q a w :=
  wp_region_quiet (C := CB w) hm hB (Below.refl _ w).drew (by simpa using h)
end

end Go.Proofs.Ytgkpddnpckglbaa

/- Contracts of the model's ReadCluster, WriteCluster. (Made ahead of stage 10.) -/
namespace Go.Proofs.Ytgkpddnpckglbaa
open Go.RowKit
set_option linter.unusedVariables false
set_option maxRecDepth 100000

/-- What the calls answer. -/
def rcA (m : Img) (g : Int) : Int × Int := if imB m = true then (if betw g 0 ((m.table.length : Int) - 1) = true then (imVal m (m.table.getD g.toNat 0), 0) else (0, 4)) else (0, 1)
def wcA (m : Img) (g v : Int) : Img × Int := if imB m = true then (if betw g 0 ((m.table.length : Int) - 1) = true ∧ numB v = true then imWrite m g.toNat v else (m, 4)) else (im0, 1)
def zcA (m : Img) (g : Int) : Img × Int := if imB m = true then (if betw g 0 ((m.table.length : Int) - 1) = true then (imZero m g.toNat, 0) else (m, 4)) else (im0, 1)
def rsA' (m : Img) (n : Int) : Img × Int := if imB m = true then (if betw n 0 12 = true then (imResize m n.toNat, 0) else (m, 4)) else (im0, 1)
/-- The entry's variable, the result's beside it. -/
structure ImE (w W : World) (a : Im4) (m : Img) : Prop where
  v : VarM W w.heap.size 26 (.slice a.ro m.refs.length a.rc) (.slice a.tq m.table.length a.tc) (.slice a.so m.snaps.length a.sc) (.slice a.dq m.data.length a.dc)
  r : VarM W (w.heap.size + 1) 26 (.slice none 0 0) (.slice none 0 0) (.slice none 0 0) (.slice none 0 0)
  s : ImS W a m
  b : Below w.heap.size w W
theorem ImE.new (w : World) (a : Im4) (m : Img) (h : ImS w a m) : ImE w ((w.alloc (.cells #[.slice a.ro m.refs.length a.rc, .slice a.tq m.table.length a.tc, .slice a.so m.snaps.length a.sc, .slice a.dq m.data.length a.dc] 26)).alloc (.cells #[.slice none 0 0, .slice none 0 0, .slice none 0 0, .slice none 0 0] 26)) a m :=
  ⟨(VarM.new w _ _ _ _ _).below (Joins.below_alloc1 _ _), (VarM.new (w.alloc _) _ _ _ _ _).at (by simp), h.below (Joins.below_alloc2 _ _ _), Joins.below_alloc2 _ _ _⟩
theorem ImE.below {w W W' : World} {a : Im4} {m : Img} (h : ImE w W a m) (hb : Below W.heap.size W W') : ImE w W' a m := ⟨h.v.below hb, h.r.below hb, h.s.below hb, fr h.b hb⟩
/-- A result that is put. -/
theorem ImE.put {w W W' : World} {a : Im4} {m : Img} (h : ImE w W a m) (hb : Below W.heap.size W W') {a' : Im4} {m' : Img} {ts : List Value} (ho : OwnIm W' W.heap.size a' m' ts) :
    VarM (putI W' (w.heap.size + 1) a' m') (w.heap.size + 1) 26 (.slice a'.ro m'.refs.length a'.rc) (.slice a'.tq m'.table.length a'.tc) (.slice a'.so m'.snaps.length a'.sc) (.slice a'.dq m'.data.length a'.dc) ∧ OwnIm (putI W' (w.heap.size + 1) a' m') w.heap.size a' m' ts ∧ Below w.heap.size w (putI W' (w.heap.size + 1) a' m') := by
  obtain ⟨h1, h2, h3⟩ := ImSt.put (h.r.below hb) ho (fr h.b hb) (Nat.le_succ _) h.r.lt a' m'
  exact ⟨h1, h2.base h.b.size, h3⟩
/-- The empty image as a result. -/
theorem ImE.zero {w W : World} {a : Im4} {m : Img} (h : ImE w W a m) :
    VarM ((((W.setCell ⟨w.heap.size + 1, 0, none⟩ (.slice none 0 0)).setCell ⟨w.heap.size + 1, 1, none⟩ (.slice none 0 0)).setCell ⟨w.heap.size + 1, 2, none⟩ (.slice none 0 0)).setCell ⟨w.heap.size + 1, 3, none⟩ (.slice none 0 0)) (w.heap.size + 1) 26 (.slice none 0 0) (.slice none 0 0) (.slice none 0 0) (.slice none 0 0) ∧
    Below w.heap.size w ((((W.setCell ⟨w.heap.size + 1, 0, none⟩ (.slice none 0 0)).setCell ⟨w.heap.size + 1, 1, none⟩ (.slice none 0 0)).setCell ⟨w.heap.size + 1, 2, none⟩ (.slice none 0 0)).setCell ⟨w.heap.size + 1, 3, none⟩ (.slice none 0 0)) :=
  ⟨(((h.r.set0 _).set1 _).set2 _).set3 _, (((h.b.setCell (p := ⟨w.heap.size + 1, 0, none⟩) (Nat.le_succ _) _).setCell (p := ⟨w.heap.size + 1, 1, none⟩) (Nat.le_succ _) _).setCell (p := ⟨w.heap.size + 1, 2, none⟩) (Nat.le_succ _) _).setCell (p := ⟨w.heap.size + 1, 3, none⟩) (Nat.le_succ _) _⟩
/-- An answer: an image of its own and a code. -/
def AnsI (w w' : World) (e : Ending) (R : Img × Int) : Prop := ∃ a ts, e = .returned (.tuple #[imV a R.1, .int .i64 R.2]) ∧ OwnIm w' w.heap.size a R.1 ts ∧ Below w.heap.size w w'
theorem AnsI.of {w w' : World} {v : Value} {c : Int} {R : Img × Int} {a : Im4} {ts : List Value} (hv : v = imV a R.1) (hc : c = R.2) (ho : OwnIm w' w.heap.size a R.1 ts) (hb : Below w.heap.size w w') : AnsI w w' (.returned (.tuple #[v, .int .i64 c])) R := ⟨a, ts, by rw [hv, hc], ho, hb⟩
theorem AnsI.bad {w w' : World} (c : Int) (hb : Below w.heap.size w w') : AnsI w w' (.returned (.tuple #[.agg #[.slice none 0 0, .slice none 0 0, .slice none 0 0, .slice none 0 0], .int .i64 c])) (im0, c) := ⟨⟨none, 0, none, 0, none, 0, none, 0⟩, [], rfl, OwnIm.zero _ _, hb⟩

set_option maxHeartbeats 1600000 in
theorem readCluster_spec (a : Im4) (m : Img) (g : Int) (w : World) (hL : ImL m) (hc : ImS w a m) :
    Calls Try.prog 25 #[imV a m, .int .i64 g] w fun e w' => e = .returned (.tuple #[.int .i64 (rcA m g).1, .int .i64 (rcA m g).2]) ∧ Below w.heap.size w w' := by
  have HA := hide (Joins.below_alloc1 w (.cells #[.slice a.ro m.refs.length a.rc, .slice a.tq m.table.length a.tc, .slice a.so m.snaps.length a.sc, .slice a.dq m.data.length a.dc] 26))
  have HV := hide (VarM.new w 26 (.slice a.ro m.refs.length a.rc) (.slice a.tq m.table.length a.tc) (.slice a.so m.snaps.length a.sc) (.slice a.dq m.data.length a.dc))
  have HC := hide (hc.below (unhide HA))
  have HL := hide hL
  have ht64 : m.table.length ≤ 9223372036854775807 := hL.t
  obtain ⟨R, HR⟩ : ∃ R, Hid (R = rcA m g) := ⟨_, rfl⟩
  rw [← unhide HR]
  clear hc hL
  go_enter Try.func25, Try.ntmps25
  go_upto_region 1 with fail
  revert HA HV HC
  generalize (w.alloc _) = W0
  intro HA HV HC
  obtain ⟨c0, c1, c2, c3⟩ := (unhide HV).cells
  go_wp2_with fail
  refine (imageOK_spec a m _ (unhide HL) (unhide HC)).mono ?_
  rintro e w1 ⟨rfl, hb⟩
  have HB1 := hide (fr (unhide HA) hb)
  have HC1 := hide ((unhide HC).below hb)
  have HV1 := hide ((unhide HV).below hb)
  clear hb c0 c1 c2 c3 HA HV HC
  cases him : imB m
  · have HE : Hid (R = (0, 1)) := hide (by rw [unhide HR, rcA, him]; rfl)
    go_wp2
    go_ret2
    exact ⟨by rw [unhide HE]; rfl, unhide HB1⟩
  obtain ⟨c0, c1, c2, c3⟩ := (unhide HV1).cells
  have hws : IntKind.i64.wrap ((m.table.length : Int) - 1) = (m.table.length : Int) - 1 := by rw [IntKind.wrap_i64]; omega
  cases hg : betw g 0 ((m.table.length : Int) - 1)
  · have HE : Hid (R = (0, 4)) := hide (by rw [unhide HR, rcA, him, hg]; rfl)
    go_wp2_with (go_at_call 34; refine (in_any _ _ _ _).mono ?_; rintro e w' ⟨rfl, hw⟩; replace hw := hw.symm; subst hw; rw [hg])
    go_ret2
    exact ⟨by rw [unhide HE]; rfl, unhide HB1⟩
  · obtain ⟨l0, l1⟩ := betw_iff.1 hg
    obtain ⟨q, rfl⟩ := Int.eq_ofNat_of_zero_le l0
    have hq : q < m.table.length := by omega
    have hqi : (q : Int) < (m.table.length : Int) := by omega
    have HM := hide (imB_iff.1 him).M
    have HE : Hid (R = (imVal m m.table[q], 0)) := hide (by
      rw [unhide HR, rcA, if_pos him, if_pos hg, Int.toNat_natCast]
      simp [List.getD, hq])
    obtain ⟨t0, t1⟩ := (unhide HM).tv q hq
    have HTV := hide (And.intro t0 t1)
    obtain ⟨b, off, et, hct⟩ := (unhide HC1).t q hq
    have ct : w1.cell? ⟨w.heap.size, 1, none⟩ = some (.slice (some ⟨b, off, none⟩) m.table.length a.tc) := by rw [← et]; exact c1
    have HAV : Hid (imV a m = .agg #[.slice a.ro m.refs.length a.rc, .slice (some ⟨b, off, none⟩) m.table.length a.tc, .slice a.so m.snaps.length a.sc, .slice a.dq m.data.length a.dc]) := hide (by rw [imV, et])
    have hbl := World.block_lt_of_cell? _ _ hct
    have HD := hide (unhide HM).d
    have hil := (unhide HV1).lt
    clear et c1 him t0 t1 l0 l1 HR
    generalize m.table[q] = T at *
    have HCALL : Hid (∀ W, Below w1.heap.size w1 W → Calls Try.prog 57 #[.agg #[.slice a.ro m.refs.length a.rc, .slice (some ⟨b, off, none⟩) m.table.length a.tc, .slice a.so m.snaps.length a.sc, .slice a.dq m.data.length a.dc], .int .i64 T] W fun e w' => e = .returned (.int .i64 (imVal m T)) ∧ Below W.heap.size W w') := hide (fun W hW => by rw [← unhide HAV]; exact l10Value_any a m T W (unhide HTV).1 (by rw [unhide HD]; have := (unhide HTV).2; omega) (by rw [unhide HD]; omega) ((unhide HC1).d.below hW))
    generalize hVV : imVal m T = V at *
    clear hVV
    go_upto_region 5 with (go_at_call 34; refine (in_any _ _ _ _).mono ?_; rintro e w' ⟨rfl, hw⟩; replace hw := hw.symm; subst hw; rw [hg])
    have HCELL : Hid (∀ W, Below w1.heap.size w1 W → W.cell? ⟨w.heap.size, 0, none⟩ = some (.slice a.ro m.refs.length a.rc) ∧ W.cell? ⟨w.heap.size, 1, none⟩ = some (.slice (some ⟨b, off, none⟩) m.table.length a.tc) ∧ W.cell? ⟨w.heap.size, 2, none⟩ = some (.slice a.so m.snaps.length a.sc) ∧ W.cell? ⟨w.heap.size, 3, none⟩ = some (.slice a.dq m.data.length a.dc) ∧ W.cell? ⟨b, off + q, none⟩ = some (.int .i64 T)) := hide (fun W hW => ⟨(hW.cell (p := ⟨w.heap.size, 0, none⟩) hil).trans c0, (hW.cell (p := ⟨w.heap.size, 1, none⟩) hil).trans ct, (hW.cell (p := ⟨w.heap.size, 2, none⟩) hil).trans c2, (hW.cell (p := ⟨w.heap.size, 3, none⟩) hil).trans c3, (hW.cell (p := ⟨b, off + q, none⟩) hbl).trans hct⟩)
    clear c0 ct c2 c3 hct
    refine wp_region_cb (by kernel_rfl) (by kernel_rfl) ?_
    refine quiet_val (.agg #[.slice a.ro m.refs.length a.rc, .slice (some ⟨b, off, none⟩) m.table.length a.tc, .slice a.so m.snaps.length a.sc, .slice a.dq m.data.length a.dc]) rfl (fun W hW => by obtain ⟨k0, k1, k2, k3, k4⟩ := unhide HCELL W hW; go_simp) ?_
    refine quiet_val (.pointer (some ⟨w.heap.size, 1, none⟩)) rfl (fun W hW => by go_simp) ?_
    refine quiet_val (.slice (some ⟨b, off, none⟩) m.table.length a.tc) rfl (fun W hW => by obtain ⟨k0, k1, k2, k3, k4⟩ := unhide HCELL W hW; go_simp) ?_
    refine quiet_val (.int .i64 q) rfl (fun W hW => by go_simp) ?_
    refine quiet_val (.pointer (some ⟨b, off + q, none⟩)) rfl (fun W hW => by go_simp) ?_
    refine quiet_val (.int .i64 T) rfl (fun W hW => by obtain ⟨k0, k1, k2, k3, k4⟩ := unhide HCELL W hW; go_simp) ?_
    refine quiet_call (.int .i64 V) 57 #[.agg #[.slice a.ro m.refs.length a.rc, .slice (some ⟨b, off, none⟩) m.table.length a.tc, .slice a.so m.snaps.length a.sc, .slice a.dq m.data.length a.dc], .int .i64 T] rfl (fun W => by go_simp) (fun W hW => unhide HCALL W hW) ?_
    refine quiet_val (.int .i64 V) rfl (fun W hW => by go_simp) ?_
    refine quiet_val (.int .i64 0) rfl (fun W hW => by go_simp) ?_
    refine wpQuiet_nil fun w2 hb2 => ?_
    have HB2 := hide hb2
    clear hb2
    go_wp2
    go_ret2
    exact ⟨by rw [unhide HE]; simp [go_sem], fr (unhide HB1) (unhide HB2)⟩

set_option maxHeartbeats 1600000 in
theorem writeCluster_spec (a : Im4) (m : Img) (g v : Int) (w : World) (hL : ImL m) (hc : ImS w a m) :
    Calls Try.prog 26 #[imV a m, .int .i64 g, .int .i64 v] w fun e w' => AnsI w w' e (wcA m g v) := by
  have HE := hide (ImE.new w a m hc)
  have HL := hide hL
  have ht64 : m.table.length ≤ 9223372036854775807 := hL.t
  obtain ⟨R, HR⟩ : ∃ R, Hid (R = wcA m g v) := ⟨_, rfl⟩
  rw [← unhide HR]
  clear hc hL
  go_enter Try.func26, Try.ntmps26
  go_upto_region 1 with fail
  revert HE
  generalize ((w.alloc _).alloc _) = W0
  intro HE
  obtain ⟨c0, c1, c2, c3⟩ := (unhide HE).v.cells
  go_wp2_with fail
  refine (imageOK_spec a m _ (unhide HL) (unhide HE).s).mono ?_
  rintro e w1 ⟨rfl, hb⟩
  have HE1 := hide ((unhide HE).below hb)
  clear hb c0 c1 c2 c3 HE
  obtain ⟨c0, c1, c2, c3⟩ := (unhide HE1).v.cells
  obtain ⟨r0, r1, r2, r3⟩ := (unhide HE1).r.cells
  obtain ⟨z0, z1, z2, z3⟩ := (unhide HE1).r.free
  cases him : imB m
  · have HX : Hid (R = (im0, 1)) := hide (by rw [unhide HR, wcA, him]; rfl)
    have HZ := hide (unhide HE1).zero
    go_wp2
    refine bodyPost_ret (res_ic Try.results26 rfl rfl (unhide HZ).1) rfl ?_
    rw [unhide HX]
    exact AnsI.bad 1 (unhide HZ).2
  have HM := hide (imB_iff.1 him).M
  have hws : IntKind.i64.wrap ((m.table.length : Int) - 1) = (m.table.length : Int) - 1 := by rw [IntKind.wrap_i64]; omega
  by_cases hok : betw g 0 ((m.table.length : Int) - 1) = true ∧ numB v = true
  · have HX : Hid (R = imWrite m g.toNat v) := hide (by rw [unhide HR, wcA, if_pos him, if_pos hok])
    obtain ⟨hg, hn⟩ := hok
    obtain ⟨l0, l1⟩ := betw_iff.1 hg
    obtain ⟨q, rfl⟩ := Int.eq_ofNat_of_zero_le l0
    rw [Int.toNat_natCast] at HX
    have hq : q < m.table.length := by omega
    clear him l0 l1 HR
    go_wp2_with (first | (go_at_call 34; refine (in_any _ _ _ _).mono ?_; rintro e w' ⟨rfl, hw⟩; replace hw := hw.symm; subst hw; rw [hg]) | (go_at_call 58; refine (l02Int_any _ _).mono ?_; rintro e w' ⟨rfl, hw⟩; replace hw := hw.symm; subst hw; rw [hn]))
    refine (l10Write_R a m q v R _ (unhide HX) (unhide HM) hq (unhide HE1).s).mono ?_
    rintro e w2 ⟨b, ts, rfl, ho, hb⟩
    have HP := hide ((unhide HE1).put hb ho)
    have HE2 := hide ((unhide HE1).below hb)
    clear ho hb c0 c1 c2 c3 r0 r1 r2 r3 z0 z1 z2 z3 HX
    obtain ⟨r0, r1, r2, r3⟩ := (unhide HE2).r.cells
    obtain ⟨z0, z1, z2, z3⟩ := (unhide HE2).r.free
    go_wp2
    refine bodyPost_ret (res_ic Try.results26 rfl rfl (unhide HP).1) rfl ?_
    exact AnsI.of rfl rfl (unhide HP).2.1 (unhide HP).2.2
  · have HX : Hid (R = (m, 4)) := hide (by rw [unhide HR, wcA, if_pos him, if_neg hok])
    clear him HR
    cases hg : betw g 0 ((m.table.length : Int) - 1)
    · clear hok
      go_wp2_with (first | (go_at_call 34; refine (in_any _ _ _ _).mono ?_; rintro e w' ⟨rfl, hw⟩; replace hw := hw.symm; subst hw; rw [hg]) | fail)
      refine (l10Own_M a m _ (unhide HM) (unhide HE1).s).mono ?_
      rintro e w2 ⟨b, ts, rfl, ho, hb⟩
      have HP := hide ((unhide HE1).put hb ho)
      have HE2 := hide ((unhide HE1).below hb)
      clear ho hb c0 c1 c2 c3 r0 r1 r2 r3 z0 z1 z2 z3
      obtain ⟨r0, r1, r2, r3⟩ := (unhide HE2).r.cells
      obtain ⟨z0, z1, z2, z3⟩ := (unhide HE2).r.free
      go_wp2
      refine bodyPost_ret (res_ic Try.results26 rfl rfl (unhide HP).1) rfl ?_
      rw [unhide HX]
      exact AnsI.of (R := (m, 4)) rfl rfl (unhide HP).2.1 (unhide HP).2.2
    · have hn : numB v = false := by rw [hg] at hok; simpa using hok
      clear hok
      go_wp2_with (first | (go_at_call 34; refine (in_any _ _ _ _).mono ?_; rintro e w' ⟨rfl, hw⟩; replace hw := hw.symm; subst hw; rw [hg]) | (go_at_call 58; refine (l02Int_any _ _).mono ?_; rintro e w' ⟨rfl, hw⟩; replace hw := hw.symm; subst hw; rw [hn]))
      refine (l10Own_M a m _ (unhide HM) (unhide HE1).s).mono ?_
      rintro e w2 ⟨b, ts, rfl, ho, hb⟩
      have HP := hide ((unhide HE1).put hb ho)
      have HE2 := hide ((unhide HE1).below hb)
      clear ho hb c0 c1 c2 c3 r0 r1 r2 r3 z0 z1 z2 z3
      obtain ⟨r0, r1, r2, r3⟩ := (unhide HE2).r.cells
      obtain ⟨z0, z1, z2, z3⟩ := (unhide HE2).r.free
      go_wp2
      refine bodyPost_ret (res_ic Try.results26 rfl rfl (unhide HP).1) rfl ?_
      rw [unhide HX]
      exact AnsI.of (R := (m, 4)) rfl rfl (unhide HP).2.1 (unhide HP).2.2

end Go.Proofs.Ytgkpddnpckglbaa

/- Contracts of the model's EntryOf, l09Resize, ResizeTable. -/
namespace Go.Proofs.Ytgkpddnpckglbaa
open Go.RowKit
set_option linter.unusedVariables false
set_option maxRecDepth 100000

theorem ret_iii {a b c x y z : Int} (h1 : a = x) (h2 : b = y) (h3 : c = z) : Ending.returned (.tuple #[.int .i64 a, .int .i64 b, .int .i64 c]) = .returned (.tuple #[.int .i64 x, .int .i64 y, .int .i64 z]) := by rw [h1, h2, h3]

set_option maxHeartbeats 1600000 in
theorem l09Resize_any (ao : Option Addr) (cap : Nat) (xs : List Int) (n : Nat) (w : World) (hn : n ≤ 1000) (hl : xs.length ≤ 1000) (hc : Is w ao xs) :
    Calls Try.prog 76 #[.slice ao xs.length cap, .int .i64 n] w fun e w' => ∃ v, e = .returned v ∧ OwnN w' w.heap.size v (rzTo xs n) ∧ Below w.heap.size w w' := by
  obtain ⟨j0, hj, hy0, hy1, hy2⟩ := info_parts infoM
  have HC := hide hc
  have HA : Hid (Below w.heap.size w (w.alloc (.cells #[] 3))) := hide (Joins.below_alloc1 _ _)
  clear hc
  go_enter Try.func76, Try.ntmps76
  go_wp2
  go_loopw [5, 6] (fun o i wr => ∃ (k : Nat) (qo : Option Addr) (qa : Nat), k ≤ n ∧ i = .int .i64 k ∧ o = .slice qo k qa ∧ Hid (OwnR wr w.heap.size 3 1 (.slice qo k qa) k (intV (rzTo xs k))) ∧ Hid (Below w.heap.size w wr)) (fun _ i _ => n - (intOf i).toNat)
  case atStart => exact ⟨0, _, _, Nat.zero_le _, rfl, rfl, hide (.inl ⟨rfl, rfl, _, rfl⟩), HA⟩
  case round =>
    obtain ⟨k, qo, qa, hk, rfl, rfl, HO, HB⟩ := hrel
    have HSZ := hide (unhide HB).size
    by_cases hlt : k < n
    · have hlti : (k : Int) < (n : Int) := by omega
      by_cases hkx : k < xs.length
      · obtain ⟨b, off, rfl, hcl⟩ := (unhide HC).below (unhide HB) k hkx
        have HS : Hid (rzTo xs (k + 1) = rzTo xs k ++ [xs[k]]) := hide (by rw [rzTo_succ]; simp [List.getD, hkx])
        have HOA := hide ((unhide HO).below (Joins.below_alloc1 _ (.cells #[.int .i64 xs[k]] 3)))
        have HBA := hide (fr (unhide HB) (Joins.below_alloc1 _ (.cells #[.int .i64 xs[k]] 3)))
        go_wp2_with (at_builtin; refine wpList_append_one rfl _ _ 23 rfl w.heap.size 3 j0 (.int .i64 0) 1 8 Try.underlying23 hj hy0 hy1 hy2 rfl (by omega) qo k qa (intV (rzTo xs k)) rfl (unhide HOA) (by have := unhide HSZ; simp; omega) ⟨wr.heap.size, 0, none⟩ _ [.int .i64 xs[k]] rfl rfl (byte_news wr _ _) (int_one _) (by unfold maxLen; omega) (by omega) ?_; intro g2 cap2 wA hoA hkA; have HSF := hide (And.intro hoA (keep_below (unhide HBA) (unhide HOA) (Nat.le_refl _) hkA)); clear hoA hkA)
        go_roundw
        case rel => exact ⟨k + 1, some ⟨g2, 0, none⟩, cap2, by omega, by go_num, rfl, hide (.inr ⟨by omega, by rw [unhide HS, intV_snoc]; exact (unhide HSF).1⟩), hide (unhide HSF).2⟩
        case measure => simp [intOf]; omega
      · have hkxi : ¬ (k : Int) < (xs.length : Int) := by omega
        have HS : Hid (rzTo xs (k + 1) = rzTo xs k ++ [0]) := hide (by rw [rzTo_succ]; simp [List.getD, List.getElem?_eq_none (show xs.length ≤ k by omega)])
        have HOA := hide ((unhide HO).below (Joins.below_alloc1 _ (.cells #[.int .i64 0] 3)))
        have HBA := hide (fr (unhide HB) (Joins.below_alloc1 _ (.cells #[.int .i64 0] 3)))
        go_wp2_with (at_builtin; refine wpList_append_one rfl _ _ 23 rfl w.heap.size 3 j0 (.int .i64 0) 1 8 Try.underlying23 hj hy0 hy1 hy2 rfl (by omega) qo k qa (intV (rzTo xs k)) rfl (unhide HOA) (by have := unhide HSZ; simp; omega) ⟨wr.heap.size, 0, none⟩ _ [.int .i64 0] rfl rfl (byte_news wr _ _) (int_one _) (by unfold maxLen; omega) (by omega) ?_; intro g2 cap2 wA hoA hkA; have HSF := hide (And.intro hoA (keep_below (unhide HBA) (unhide HOA) (Nat.le_refl _) hkA)); clear hoA hkA)
        go_roundw
        case rel => exact ⟨k + 1, some ⟨g2, 0, none⟩, cap2, by omega, by go_num, rfl, hide (.inr ⟨by omega, by rw [unhide HS, intV_snoc]; exact (unhide HSF).1⟩), hide (unhide HSF).2⟩
        case measure => simp [intOf]; omega
    · obtain rfl : k = n := by omega
      have HLN := hide (rzTo_len xs k)
      go_wp2
      go_ret
      exact ⟨.slice qo k qa, rfl, ⟨qo, qa, by rw [unhide HLN], by rw [unhide HLN]; exact unhide HO⟩, unhide HB⟩

end Go.Proofs.Ytgkpddnpckglbaa
