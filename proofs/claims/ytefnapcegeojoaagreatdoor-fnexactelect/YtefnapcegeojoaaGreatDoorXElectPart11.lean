import Derived.Test.YtefnapcegeojoaaGreatDoorRows
import Derived.Test.YtefnapcegeojoaaGreatDoorXElectPart1
import Derived.Test.YtefnapcegeojoaaGreatDoorXElectPart2
import Derived.Test.YtefnapcegeojoaaGreatDoorXElectPart3
import Derived.Test.YtefnapcegeojoaaGreatDoorXElectPart5
import Derived.Test.YtefnapcegeojoaaGreatDoorXElectPart9
import Derived.Test.YtefnapcegeojoaaGreatDoorXElectPart10
import Derived.Test.YtefnapcegeojoaaGreatDoorXElectPart6
import Derived.WalkKit
import Derived.WalkSpells
import Derived.KernelRfl
import Derived.Deep.RegionWith
import Derived.Deep.MidRow
import Derived.Deep.CutRange
import Derived.Deep.RegionHeld3
import Derived.Deep.LoopGhost
import Derived.Test.YtefnapcegeojoaaGreatDoorXElectPart7
import Derived.Test.YtefnapcegeojoaaGreatDoorXElectPart4
import Derived.Test.YtefnapcegeojoaaGreatDoorXElectPart8
import Derived.WalkMore

namespace Go.Proofs.YtefnapcegeojoaaGreatDoor
open Go.RowKit
set_option linter.unusedVariables false
set_option maxRecDepth 100000

set_option maxHeartbeats 1600000 in
theorem begin_many (B x : Nat) (s : Est) (L : Ld) (bo ao qo : Option Addr) (ba ca cb : Nat) (v u : Int) (w : World) (hh : 0 ≤ s.p.host ∧ s.p.host ≤ 3) (hv : 0 ≤ v ∧ v ≤ 1000000) (hb : bksB s.bs = true) (hm : 1000000 < nxBal s.p.host v s.bs) (hs : Sto w B x s L bo ba ao ca qo cb) :
    Calls Tryz.prog 78 #[.pointer (some ⟨x, 0, none⟩), .int .i64 v, .int .i64 u] w fun e w' => e = .returned (.int .i64 6) ∧ Below w.heap.size w w' := by
  have h4 := (bksB_parts hb).1
  obtain ⟨e1, e2⟩ := nb_many (bfC_ok (by omega) hb) (show inB s.p.host 0 3 = true by simp [inB]; omega) (show inB v 0 1000000 = true by simp [inB]; omega) hm
  have HC : Hid (∀ W, Below w.heap.size w W → Calls Tryz.prog 114 #[.int .i64 s.p.host, .int .i64 v, .slice bo 4 ba] W fun e w' => e = .returned (.tuple #[.int .i64 0, .int .i64 6]) ∧ Below W.heap.size W w') := hide (fun W hW => by
    have := nextBallot_impl s.p.host v bo ba s.bs W (by omega) ((hs.below hW).bks h4)
    rw [e1, e2, h4] at this
    exact this)
  obtain ⟨c0, _⟩ := hs.v.px
  obtain ⟨c8, _⟩ := hs.v.rest
  clear hs hb hm h4 e1 e2 hh hv
  go_enter Tryz.func78, Tryz.ntmps78
  go_wp2
  go_region_with (go_at_call 114; refine (unhide HC _ (Below.refl _ w).drew).mono ?_; rintro e wA ⟨rfl, hbA⟩; have HBA := hide (fr (Below.refl _ w).drew hbA); clear hbA)
  all_goals
    go_wp2
    go_ret
    exact ⟨rfl, unhide HBA⟩

set_option maxHeartbeats 1600000 in
theorem begin_ok (B x : Nat) (s : Est) (L : Ld) (bo ao qo : Option Addr) (ba ca cb : Nat) (v u : Int) (q : Pxs) (w : World) (hh : 0 ≤ s.p.host ∧ s.p.host ≤ 3) (hv : 0 ≤ v ∧ v ≤ 1000000) (hb : bksB s.bs = true) (hm : ¬ 1000000 < nxBal s.p.host v s.bs) (hq : q = ⟨s.p.host, v, 1, nxBal s.p.host v s.bs, u, 0, 0, 0⟩) (hqb : pxB q = true) (hs : Sto w B x s L bo ba ao ca qo cb) :
    Calls Tryz.prog 78 #[.pointer (some ⟨x, 0, none⟩), .int .i64 v, .int .i64 u] w fun e w' => e = .returned (.int .i64 0) ∧ Sto w' B x ⟨s.ss, s.xs, q, s.bs⟩ L bo ba ao ca qo cb ∧ Keep (fun j => j = x) w w' := by
  have h4 := (bksB_parts hb).1
  obtain ⟨e1, e2⟩ := nb_ok (bfC_ok (by omega) hb) (show inB s.p.host 0 3 = true by simp [inB]; omega) (show inB v 0 1000000 = true by simp [inB]; omega) hm
  obtain ⟨n, hn⟩ : ∃ n, nxBal s.p.host v s.bs = n := ⟨_, rfl⟩
  rw [hn] at e1 hq
  have HC : Hid (∀ W, Below w.heap.size w W → Calls Tryz.prog 114 #[.int .i64 s.p.host, .int .i64 v, .slice bo 4 ba] W fun e w' => e = .returned (.tuple #[.int .i64 n, .int .i64 0]) ∧ Below W.heap.size W w') := hide (fun W hW => by
    have := nextBallot_impl s.p.host v bo ba s.bs W (by omega) ((hs.below hW).bks h4)
    rw [e1, e2, h4] at this
    exact this)
  have HP : Hid (∀ W, Calls Tryz.prog 115 #[.int .i64 s.p.host, .int .i64 v, .int .i64 n, .int .i64 u] W fun e w' => e = .returned (.tuple #[pV q, .int .i64 0]) ∧ Below W.heap.size W w') := hide (fun W => by
    have k := pxStart_impl s.p.host v n u W
    have k1 : psP s.p.host v n u = q := by rw [hq] at hqb ⊢; exact if_pos hqb
    have k2 : psC s.p.host v n u = 0 := by rw [hq] at hqb; exact if_pos hqb
    rw [k1, k2] at k
    exact k)
  have HS := hide hs
  obtain ⟨c0, _⟩ := hs.v.px
  obtain ⟨c8, _⟩ := hs.v.rest
  clear hs hb hm h4 e1 e2 hh hv hq hqb hn
  go_enter Tryz.func78, Tryz.ntmps78
  go_wp2
  go_region_with (go_at_call 114; refine (unhide HC _ (Below.refl _ w).drew).mono ?_; rintro e wA ⟨rfl, hbA⟩; have HBA := hide (fr (Below.refl _ w).drew hbA); clear hbA)
  all_goals
    have HSA := hide ((unhide HS).below (unhide HBA))
    clear c0 c8
    obtain ⟨c0, _⟩ := (unhide HSA).v.px
    go_wp2_with fail
    refine (unhide HP _).mono ?_
    rintro e wB ⟨rfl, hbB⟩
    have HBB := hide (fr (unhide HBA) hbB)
    have HSB := hide ((unhide HS).below (unhide HBB))
    clear hbB c0
    obtain ⟨c0, c1, c2, c3, c4, c5, c6, c7⟩ := (unhide HSB).v.px
    have f0 := (unhide HSB).v.free 0
    have f1 := (unhide HSB).v.free 1
    have f2 := (unhide HSB).v.free 2
    have f3 := (unhide HSB).v.free 3
    have f4 := (unhide HSB).v.free 4
    have f5 := (unhide HSB).v.free 5
    have f6 := (unhide HSB).v.free 6
    have f7 := (unhide HSB).v.free 7
    have HF := hide (And.intro ((unhide HSB).try q) ((Keep.of_below (S := fun j => j = x) (unhide HBB)).trans (keep_set8 wB x q)))
    go_wp2
    go_ret
    exact ⟨rfl, (unhide HF).1, (unhide HF).2⟩

end Go.Proofs.YtefnapcegeojoaaGreatDoor

namespace Go.Proofs.YtefnapcegeojoaaGreatDoor
open Go.RowKit
set_option linter.unusedVariables false
set_option maxRecDepth 100000

theorem pxStep_sto (p : Pxs) (ao : Option Addr) (ca : Nat) (bs : List Bk) (w : World) (h4 : bs.length = 4) (hp : pxB p = true) (hb : bksB bs = true) (hc : Bks w ao bs) :
    Calls Tryz.prog 117 #[pV p, .slice ao 4 ca] w fun e w' => ∃ qo qa c, e = .returned (.tuple #[pV (pxStepP p bs).1, .slice qo 4 qa, .int .i64 c]) ∧ OwnR w' w.heap.size 96 4 (.slice qo 4 qa) 4 (bksV (pxStepP p bs).2) ∧ Below w.heap.size w w' := by
  have k := pxStep_impl p ao ca bs w (by omega) hc
  rw [h4] at k
  refine k.mono ?_
  rintro e w' ⟨qo, qa, he, ho, hk⟩
  obtain ⟨h1, h2, h3⟩ := st_ok (p := p) (xs := bs) (by omega) hp hb
  have hl := pxStep_len p bs
  rw [h4] at hl
  rw [h1, h2, hl] at he
  rw [h2, hl] at ho
  exact ⟨qo, qa, _, he, ho, hk⟩
structure StA (w W : World) (B x C : Nat) (s : Est) (L : Ld) (y : Bk) (ro : Option Addr) (ra : Nat) (ao : Option Addr) (ca : Nat) (qo : Option Addr) (cb : Nat) : Prop where
  s : Sto W B x s L ro ra ao ca qo cb
  v : VarB W C 96 y
  k : Keep (fun j => j = x) w W
def difB (a b : Bk) : Bool := !(a.ver == b.ver && (a.mbal == b.mbal && (a.bal == b.bal && a.inp == b.inp)))
theorem difB_ne {a b : Bk} (h : a ≠ b) : difB a b = true := by
  by_cases e1 : a.ver = b.ver
  · by_cases e2 : a.mbal = b.mbal
    · by_cases e3 : a.bal = b.bal
      · by_cases e4 : a.inp = b.inp
        · exact absurd (by cases a; cases b; simp_all) h
        · simp [difB, e4]
      · simp [difB, e3]
    · simp [difB, e2]
  · simp [difB, e1]
theorem field_cases (a b : Bk) : ((a.ver == b.ver) = false ∧ difB a b = true) ∨ ((a.ver == b.ver) = true ∧ (a.mbal == b.mbal) = false ∧ difB a b = true) ∨ ((a.ver == b.ver) = true ∧ (a.mbal == b.mbal) = true ∧ (a.bal == b.bal) = false ∧ difB a b = true) ∨ ((a.ver == b.ver) = true ∧ (a.mbal == b.mbal) = true ∧ (a.bal == b.bal) = true ∧ (a.inp == b.inp) = false ∧ difB a b = true) ∨ ((a.ver == b.ver) = true ∧ (a.mbal == b.mbal) = true ∧ (a.bal == b.bal) = true ∧ (a.inp == b.inp) = true ∧ difB a b = false) := by
  unfold difB
  cases a.ver == b.ver <;> cases a.mbal == b.mbal <;> cases a.bal == b.bal <;> cases a.inp == b.inp <;> simp
theorem difB_eq {a b : Bk} (h : a = b) : difB a b = false := by
  subst h; simp [difB]

set_option maxHeartbeats 1600000 in
theorem step_any (B x : Nat) (s : Est) (L : Ld) (bo ao qo : Option Addr) (ba ca cb : Nat) (w : World) (hp : pxB s.p = true) (hb : bksB s.bs = true) (hs : Sto w B x s L bo ba ao ca qo cb) :
    Calls Tryz.prog 81 #[.pointer (some ⟨x, 0, none⟩)] w fun e w' => e = .returned (.bool (difB (ownK s.p (pxStepP s.p s.bs).2) (ownK s.p s.bs))) ∧ (∃ ro ra, Sto w' B x ⟨s.ss, s.xs, (pxStepP s.p s.bs).1, (pxStepP s.p s.bs).2⟩ L ro ra ao ca qo cb) ∧ Keep (fun j => j = x) w w' := by
  obtain ⟨hh, _⟩ := px_parts hp
  have h4 := (bksB_parts hb).1
  have h4' : (pxStepP s.p s.bs).2.length = 4 := by rw [pxStep_len]; exact h4
  have hho : (pxStepP s.p s.bs).1.host = s.p.host := by
    by_cases h5 : s.p.phase < 5
    · rcases step_kinds (bs := s.bs) hp h5 with ⟨e, hq⟩ | ⟨e, _, hq⟩ | ⟨e, _, hq⟩ <;> rw [hq]
      · exact (pxRd_at _ _).1
      · exact (w1_at _ _).1
    · rw [pxStepP_end s.bs (by obtain ⟨_, _, ⟨h1, h6⟩, _⟩ := px_parts hp; omega)]
  have HC := hide (fun W hW => pxStep_sto s.p bo ba s.bs W h4 hp hb hW)
  obtain ⟨q, hq⟩ : ∃ q, (pxStepP s.p s.bs).1 = q := ⟨_, rfl⟩
  obtain ⟨cs, hcs⟩ : ∃ cs, (pxStepP s.p s.bs).2 = cs := ⟨_, rfl⟩
  rw [hq] at HC hho ⊢
  rw [hcs] at HC h4' ⊢
  obtain ⟨y, hy⟩ : ∃ y, ownK s.p s.bs = y := ⟨_, rfl⟩
  obtain ⟨z, hz⟩ : ∃ z, ownK s.p cs = z := ⟨_, rfl⟩
  have HO1 := hide (fun W hW => own_any B x s L bo ao qo ba ca cb W h4 hh hW)
  have HO2 : Hid (∀ (ro : Option Addr) (ra : Nat) (W : World), Sto W B x ⟨s.ss, s.xs, q, cs⟩ L ro ra ao ca qo cb → Calls Tryz.prog 116 #[.pointer (some ⟨x, 0, none⟩)] W fun e w' => e = .returned (bV z) ∧ Below W.heap.size W w') := hide (fun ro ra W hW => by
    have k := own_any B x ⟨s.ss, s.xs, q, cs⟩ L ro ao qo ra ca cb W h4' (by show 0 ≤ q.host ∧ q.host ≤ 3; rw [hho]; exact hh) hW
    rw [show ownK q cs = z by rw [← hz]; unfold ownK; rw [hho]] at k
    exact k)
  rw [hy] at HO1 ⊢
  rw [hz]
  obtain ⟨r, HR⟩ : ∃ r, Hid (difB z y = r) := ⟨_, hide rfl⟩
  rw [unhide HR]
  have HS := hide hs
  have H4 := hide h4
  clear hs hp hb h4 h4' hh hho hq hcs hy hz
  go_enter Tryz.func81, Tryz.ntmps81
  go_wp2_with fail
  refine (unhide HO1 _ (unhide HS)).mono ?_
  rintro e w1 ⟨rfl, hb1⟩
  have HA := hide (fr hb1 (Joins.below_alloc1 w1 (.cells #[.int .i64 y.ver, .int .i64 y.mbal, .int .i64 y.bal, .int .i64 y.inp] 96)))
  have HV := hide (VarB.new w1 96 y)
  have HN : Hid (¬ w1.heap.size = x) := hide (by have h1 := (unhide HS).v.lt; have h2 := hb1.size; omega)
  clear hb1
  go_upto_region 2 with fail
  revert HA HV HN
  generalize w1.alloc (.cells #[.int .i64 y.ver, .int .i64 y.mbal, .int .i64 y.bal, .int .i64 y.inp] 96) = W1
  generalize w1.heap.size = C
  intro HA HV HN
  go_cut [2] from 6 to 24 (fun c wx => c = .bool false ∧ ∃ ro ra, Hid (StA w wx B x C ⟨s.ss, s.xs, q, cs⟩ L y ro ra ao ca qo cb))
  case first =>
    have HS1 := hide ((unhide HS).below (unhide HA))
    obtain ⟨c0, c1, c2, c3, c4, c5, c6, c7⟩ := (unhide HS1).v.px
    obtain ⟨c8, _⟩ := (unhide HS1).v.rest
    have HBK := hide (((unhide HS1).bks (unhide H4)).below (Below.refl _ W1).drew)
    go_region_with (go_at_call 117; refine (unhide HC _ (unhide HBK)).mono ?_; rintro e wA ⟨ro, ra, cc, rfl, hoA, hbA⟩; have HBA := hide (fr (Below.refl _ W1).drew hbA); have HOA := hide hoA; have HSA := hide ((unhide HS1).below (unhide HBA)); clear hoA hbA c0 c1 c2 c3 c4 c5 c6 c7 c8; obtain ⟨c0, c1, c2, c3, c4, c5, c6, c7⟩ := (unhide HSA).v.px; obtain ⟨c8, _⟩ := (unhide HSA).v.rest; have f0 := (unhide HSA).v.free 0; have f1 := (unhide HSA).v.free 1; have f2 := (unhide HSA).v.free 2; have f3 := (unhide HSA).v.free 3; have f4 := (unhide HSA).v.free 4; have f5 := (unhide HSA).v.free 5; have f6 := (unhide HSA).v.free 6; have f7 := (unhide HSA).v.free 7; have f8 := (unhide HSA).v.free 8)
    all_goals
      have HW := hide (Sto.step (unhide HS1) (unhide HBA) (by exact unhide HOA) q)
      have HV1 := hide (((unhide HV).keep (unhide HW).2 (unhide HN)))
      have HK1 := hide ((Keep.of_below (S := fun j => j = x) (unhide HA)).trans (unhide HW).2)
      go_wp2_with fail
      go_meet
      exact ⟨rfl, ro, ra, hide ⟨(unhide HW).1, unhide HV1, unhide HK1⟩⟩
  case rest =>
    obtain ⟨rfl, ro, ra, HX⟩ := hcut
    rename World => W2
    obtain ⟨v0, v1, v2, v3⟩ := (unhide HX).v.cells
    rcases field_cases z y with ⟨b1, hr⟩ | ⟨b1, b2, hr⟩ | ⟨b1, b2, b3, hr⟩ | ⟨b1, b2, b3, b4, hr⟩ | ⟨b1, b2, b3, b4, hr⟩
    all_goals
      replace hr := hide (hr.symm.trans (unhide HR))
      go_wp2
      go_region_with (go_at_call 116; refine (unhide HO2 ro ra _ ((unhide HX).s.below (Below.refl _ W2).drew)).mono ?_; rintro e wB ⟨rfl, hbB⟩; have HBB := hide (fr (Below.refl _ W2).drew hbB); clear hbB v0 v1 v2 v3; obtain ⟨v0, v1, v2, v3⟩ := ((unhide HX).v.below (unhide HBB)).cells)
      all_goals
        have HF := hide (And.intro ((unhide HX).s.below (unhide HBB)) ((unhide HX).k.trans (Keep.of_below (unhide HBB))))
        go_wp2
        go_ret
        exact ⟨ret_bool (unhide hr), ⟨ro, ra, (unhide HF).1⟩, (unhide HF).2⟩

end Go.Proofs.YtefnapcegeojoaaGreatDoor

namespace Go.Proofs.YtefnapcegeojoaaGreatDoor
open Go.RowKit
set_option linter.unusedVariables false
set_option maxRecDepth 100000

structure GotL (W0 W : World) (C : Nat) (y : Ld) : Prop where
  k : Below W0.heap.size W0 W
  v : VarT W C 30 y.ver y.own y.gen
theorem GotL.top {W0 W : World} (y : Ld) (h : Below W0.heap.size W0 W) : GotL W0 (W.alloc (.cells #[.int .i64 y.ver, .int .i64 y.own, .int .i64 y.gen] 30)) W.heap.size y := ⟨fr h (Joins.below_alloc1 _ _), VarT.new W _ _ _ _⟩
theorem VarT.put {w : World} {x t : Nat} {a b c : Int} (k : VarT w x t a b c) (y : Ld) : VarT (((w.setCell ⟨x, 0, none⟩ (.int .i64 y.ver)).setCell ⟨x, 1, none⟩ (.int .i64 y.own)).setCell ⟨x, 2, none⟩ (.int .i64 y.gen)) x t y.ver y.own y.gen := set_heap (i := 2) (set_heap (i := 1) (set_heap (i := 0) k (.int .i64 y.ver)) (.int .i64 y.own)) (.int .i64 y.gen)
theorem GotL.set {W0 W : World} {y : Ld} {C : Nat} {a b c : Int} (h : Below W0.heap.size W0 W) (hv : VarT W C 30 a b c) (hC : W0.heap.size ≤ C) : GotL W0 (((W.setCell ⟨C, 0, none⟩ (.int .i64 y.ver)).setCell ⟨C, 1, none⟩ (.int .i64 y.own)).setCell ⟨C, 2, none⟩ (.int .i64 y.gen)) C y := ⟨below3 h hC 0 1 2 _ _ _, hv.put y⟩
structure ElI (w wr : World) (B x C : Nat) (h : Int) (L y : Ld) (E s : Est) (bo : Option Addr) (ba : Nat) (ao : Option Addr) (ca : Nat) (qo : Option Addr) (cb : Nat) : Prop where
  st : Sto wr B x s L bo ba ao ca qo cb
  v : VarT wr C 30 y.ver y.own y.gen
  k : Keep (fun j => j = x) w wr
  o : ElOK h s
  e : elEnd s = E
  n : ¬ C = x
theorem wrote_dif {s : Est} {h : Int} (k : ElOK h s) (h5 : s.p.phase < 5) : difB (ownK s.p (pxStepP s.p s.bs).2) (ownK s.p s.bs) = wroteB s.p.phase (pxStepP s.p s.bs).1.phase := by
  rcases wrote_iff k.p k.b h5 k.j with ⟨a, b⟩ | ⟨a, b⟩
  · rw [a]; exact difB_ne b
  · rw [a]; exact difB_eq b
theorem step_no {s : Est} (hw : wroteB s.p.phase (pxStepP s.p s.bs).1.phase = false) : elStep s = ⟨s.ss, s.xs, (pxStepP s.p s.bs).1, (pxStepP s.p s.bs).2⟩ := by unfold elStep; rw [if_neg (by simp [hw])]
theorem step_wr {s : Est} {h : Int} (k : ElOK h s) (h5 : s.p.phase < 5) (hw : wroteB s.p.phase (pxStepP s.p s.bs).1.phase = true) :
    elStep s = ⟨wS s.ss s.xs (pxStepP s.p s.bs).1.host (1 + (pxStepP s.p s.bs).1.host) (encB (ownK (pxStepP s.p s.bs).1 (pxStepP s.p s.bs).2)), wX s.xs (pxStepP s.p s.bs).1.host (1 + (pxStepP s.p s.bs).1.host) (encB (ownK (pxStepP s.p s.bs).1 (pxStepP s.p s.bs).2)), (pxStepP s.p s.bs).1, (pxStepP s.p s.bs).2⟩ := by
  have e : (pxStepP s.p s.bs).1.host = s.p.host := by
    have := (k.step h5).o
    rw [(step_p s).1] at this
    rw [this, k.o]
  have eo : ownK (pxStepP s.p s.bs).1 (pxStepP s.p s.bs).2 = ownK s.p (pxStepP s.p s.bs).2 := by unfold ownK; rw [e]
  rw [e, eo]
  unfold elStep; rw [if_pos hw]

theorem ended_no (B x : Nat) (s : Est) (L : Ld) (bo ao qo : Option Addr) (ba ca cb : Nat) (w : World) (hp : pxB s.p = true) (h5 : s.p.phase < 5) (hs : Sto w B x s L bo ba ao ca qo cb) :
    Calls Tryz.prog 80 #[.pointer (some ⟨x, 0, none⟩)] w fun e w' => e = .returned (.bool false) ∧ w' = w := by
  have k := hasEnded_any B x s L bo ao qo ba ca cb w hp hs
  rw [show decide (¬ s.p.phase < 5) = false by simp [h5]] at k
  exact k
theorem ended_yes (B x : Nat) (s : Est) (L : Ld) (bo ao qo : Option Addr) (ba ca cb : Nat) (w : World) (hp : pxB s.p = true) (h5 : ¬ s.p.phase < 5) (hs : Sto w B x s L bo ba ao ca qo cb) :
    Calls Tryz.prog 80 #[.pointer (some ⟨x, 0, none⟩)] w fun e w' => e = .returned (.bool true) ∧ w' = w := by
  have k := hasEnded_any B x s L bo ao qo ba ca cb w hp hs
  rw [show decide (¬ s.p.phase < 5) = true by simp [h5]] at k
  exact k

set_option maxHeartbeats 1600000 in
theorem elect_any (R : Ans) (B x : Nat) (ss : List ByteArray) (xs : List Wr) (h o g : Int) (L : Ld) (bo ao qo : Option Addr) (ba ca cb : Nat) (w : World) (hL : ldOf ss xs h = L) (hR : elA ss xs h o g = R) (e0 : leC ss xs h = 0) (e1 : (inB o 0 3 && inB g 1 1000000) = true) (hs : Sto w B x ⟨ss, xs, ⟨h, 0, 0, 0, 0, 0, 0, 0⟩, bksOf ss xs h⟩ L bo ba ao ca qo cb) :
    Calls Tryz.prog 37 #[.pointer (some ⟨x, 0, none⟩), .int .i64 o, .int .i64 g] w fun e w' => e = .returned (.int .i64 R.c) ∧ (∃ p bs, StoE w' B x ⟨R.ss, R.xs, p, bs⟩ R.l) ∧ Keep (fun j => j = x) w w' := by
  obtain ⟨ed, ⟨h0, h3⟩, el⟩ := leC_eq e0
  have hv : 0 ≤ L.ver ∧ L.ver ≤ 1000000 := by rw [← hL]; exact (ldB_lo (ld_right (readV ss xs h 0))).1
  have eo : (0 ≤ o ∧ o ≤ 3) ∧ 1 ≤ g ∧ g ≤ 1000000 := by simpa [inB] using e1
  have wr1 : IntKind.i64.wrap (L.ver + 1) = L.ver + 1 := by rw [IntKind.wrap_i64]; omega
  have HA := hide (Joins.below_alloc1 w (.cells #[.int .i64 (L.ver + 1), .int .i64 o, .int .i64 g] 30))
  have HV := hide (VarT.new w 30 (L.ver + 1) o g)
  have HS := hide (hs.below (unhide HA))
  have HNE : Hid (¬ w.heap.size = x) := hide (by have := hs.v.lt; omega)
  have hcv : w.cell? ⟨x, 11, none⟩ = some (.int .i64 L.ver) := hs.v.rest.2.2.2.1
  have HBK := hide (bksOf_right ss xs h)
  have HMV : Hid (1000000 < L.ver + 1 → R = ⟨ss, xs, L, 6⟩) := hide (fun hq => by rw [← hR, ← hL]; exact elA_many e0 e1 (by rw [elMany, hL, decide_eq_true hq]; rfl))
  have HMB : Hid (1000000 < nxBal h (L.ver + 1) (bksOf ss xs h) → R = ⟨ss, xs, L, 6⟩) := hide (fun hq => by rw [← hR, ← hL]; rw [← hL] at hq; exact elA_many e0 e1 (by rw [elMany, decide_eq_true hq]; simp))
  have HGO : Hid (¬ 1000000 < L.ver + 1 → ¬ 1000000 < nxBal h (L.ver + 1) (bksOf ss xs h) → ElOK h (elFrom ss xs h o g) ∧ R = elLast h L (elEnd (elFrom ss xs h o g)) ∧ elTry ss xs h o g = ⟨h, L.ver + 1, 1, nxBal h (L.ver + 1) (bksOf ss xs h), 1024 * g + o, 0, 0, 0⟩) := hide (fun q1 q2 => by
    have em : elMany ss xs h = false := by rw [elMany, hL, decide_eq_false q1, decide_eq_false q2]; rfl
    refine ⟨elFrom_ok e0 e1 em, by rw [← hR, ← hL]; exact elA_end e0 e1 em, by rw [elTry, hL]⟩)
  have HED := hide ed
  have HEL := hide el
  clear hs hL hR e0 e1 ed el
  go_enter Tryz.func37, Tryz.ntmps37
  go_upto_region 2 with fail
  have HK0 := hide (Keep.of_below (S := fun j => j = x) (unhide HA))
  clear HA hcv
  revert HV HS HNE HK0
  generalize w.alloc (.cells #[.int .i64 (L.ver + 1), .int .i64 o, .int .i64 g] 30) = W0
  generalize w.heap.size = C
  intro HV HS HNE HK0
  obtain ⟨t0, t1, t2⟩ := (unhide HV).cells
  by_cases q1 : 1000000 < L.ver + 1
  · have HRq := hide (unhide HMV q1)
    have hin : inB (L.ver + 1) 0 1000000 = false := by simp [inB]; omega
    clear q1
    go_wp2_with fail
    refine (verOK_any (L.ver + 1) _).mono ?_
    rintro e w1 ⟨rfl, hw⟩
    replace hw := hw.symm
    subst hw
    rw [hin]
    go_wp2
    go_ret
    rw [unhide HRq]
    exact ⟨rfl, ⟨_, _, _, _, _, _, _, _, unhide HS⟩, unhide HK0⟩
  have hin : inB (L.ver + 1) 0 1000000 = true := by simp [inB]; omega
  go_wp2_with fail
  refine (verOK_any (L.ver + 1) _).mono ?_
  rintro e w1 ⟨rfl, hw⟩
  replace hw := hw.symm
  subst hw
  rw [hin]
  have HBV : Hid (∀ W, Calls Tryz.prog 79 #[.agg #[.int .i64 (L.ver + 1), .int .i64 o, .int .i64 g]] W fun e w' => e = .returned (.int .i64 (1024 * g + o)) ∧ Below W.heap.size W w') := hide (fun W => ballotValue_any ⟨L.ver + 1, o, g⟩ W ⟨by show 0 ≤ g; omega, eo.2.2⟩ eo.1)
  by_cases q2 : 1000000 < nxBal h (L.ver + 1) (bksOf ss xs h)
  · have HRq := hide (unhide HMB q2)
    have HBG := hide (fun W (hW : Below W0.heap.size W0 W) => begin_many B x ⟨ss, xs, ⟨h, 0, 0, 0, 0, 0, 0, 0⟩, bksOf ss xs h⟩ L bo ao qo ba ca cb (L.ver + 1) (1024 * g + o) W ⟨h0, h3⟩ ⟨by omega, by omega⟩ (unhide HBK) q2 ((unhide HS).below hW))
    clear q1 q2 hin
    go_upto_region 4 with fail
    go_cut [8] from 23 to 30 (fun c wx => c = .int .i64 6 ∧ Hid (Below W0.heap.size W0 wx))
    case first =>
      go_region_held3 (fun w' => w'.cell? ⟨C, 0, none⟩ = some (.int .i64 (L.ver + 1)) ∧ w'.cell? ⟨C, 1, none⟩ = some (.int .i64 o) ∧ w'.cell? ⟨C, 2, none⟩ = some (.int .i64 g)) (go_keep)
        (first
          | (go_at_call 79; refine (unhide HBV _).mono ?_; rintro e wA ⟨rfl, hbA⟩; have HBA := hide (fr (Below.refl _ W0).drew hbA); clear hbA; obtain ⟨a0, a1, a2⟩ := ((unhide HV).below (unhide HBA)).cells)
          | (go_at_call 78; refine (unhide HBG _ (unhide HBA)).mono ?_; rintro e wB ⟨rfl, hbB⟩; have HBB := hide (fr (unhide HBA) hbB); clear hbB; obtain ⟨b0, b1, b2⟩ := ((unhide HV).below (unhide HBB)).cells))
      all_goals
        go_wp2_with fail
        go_meet
        exact ⟨rfl, HBB⟩
    case rest =>
      obtain ⟨rfl, HBB⟩ := hcut
      go_wp2
      go_ret
      rw [unhide HRq]
      exact ⟨rfl, ⟨_, _, _, _, _, _, _, _, (unhide HS).below (unhide HBB)⟩, (unhide HK0).trans (Keep.of_below (unhide HBB))⟩
  obtain ⟨k1, k2, k3⟩ := unhide HGO (by omega) (by omega)
  obtain ⟨q, hq⟩ : ∃ q, elTry ss xs h o g = q := ⟨_, rfl⟩
  have HQ := hide (hq.symm.trans k3)
  obtain ⟨E, hEE⟩ : ∃ E, elEnd (elFrom ss xs h o g) = E := ⟨_, rfl⟩
  rw [hEE] at k2
  have HLAST := hide k2
  have HFR : Hid (ElOK h ⟨ss, xs, q, bksOf ss xs h⟩ ∧ elEnd ⟨ss, xs, q, bksOf ss xs h⟩ = E) := hide (by rw [← hq]; exact ⟨k1, hEE⟩)
  have HBG := hide (fun W (hW : Below W0.heap.size W0 W) => begin_ok B x ⟨ss, xs, ⟨h, 0, 0, 0, 0, 0, 0, 0⟩, bksOf ss xs h⟩ L bo ao qo ba ca cb (L.ver + 1) (1024 * g + o) q W ⟨h0, h3⟩ ⟨by omega, by omega⟩ (unhide HBK) q2 (unhide HQ) (unhide HFR).1.p ((unhide HS).below hW))
  clear q1 q2 hin k1 k2 k3 hq hEE
  go_upto_region 4 with fail
  go_cut [8] from 23 to 30 (fun c wx => c = .int .i64 0 ∧ Hid (ElI w wx B x C h L ⟨L.ver + 1, o, g⟩ E ⟨ss, xs, q, bksOf ss xs h⟩ bo ba ao ca qo cb))
  case first =>
    go_region_held3 (fun w' => w'.cell? ⟨C, 0, none⟩ = some (.int .i64 (L.ver + 1)) ∧ w'.cell? ⟨C, 1, none⟩ = some (.int .i64 o) ∧ w'.cell? ⟨C, 2, none⟩ = some (.int .i64 g)) (go_keep)
      (first
        | (go_at_call 79; refine (unhide HBV _).mono ?_; rintro e wA ⟨rfl, hbA⟩; have HBA := hide (fr (Below.refl _ W0).drew hbA); clear hbA; obtain ⟨a0, a1, a2⟩ := ((unhide HV).below (unhide HBA)).cells)
        | (go_at_call 78; refine (unhide HBG _ (unhide HBA)).mono ?_; rintro e wB ⟨rfl, hstB, hkB⟩; have HVB := hide (((unhide HV).below (unhide HBA)).keep hkB (unhide HNE)); have HI : Hid (ElI w wB B x C h L ⟨L.ver + 1, o, g⟩ E ⟨ss, xs, q, bksOf ss xs h⟩ bo ba ao ca qo cb) := hide ⟨hstB, unhide HVB, ((unhide HK0).trans (Keep.of_below (unhide HBA))).trans hkB, (unhide HFR).1, (unhide HFR).2, unhide HNE⟩; clear hstB hkB; obtain ⟨b0, b1, b2⟩ := (unhide HVB).cells))
    all_goals
      go_wp2_with fail
      go_meet
      exact ⟨rfl, HI⟩
  case rest =>
    obtain ⟨rfl, HI⟩ := hcut
    clear t0 t1 t2
    go_wp2
    go_loopg [] 14 (fun k wr => ∃ (s : Est) (bo : Option Addr) (ba : Nat) (ao : Option Addr) (ca : Nat) (qo : Option Addr) (cb : Nat), Hid (ElI w wr B x C h L ⟨L.ver + 1, o, g⟩ E s bo ba ao ca qo cb) ∧ mOf s.p < k)
    case atStart => exact ⟨_, _, _, _, _, _, _, HI, Nat.lt_succ_of_le (mOf_le (unhide HFR).1.p)⟩
    case round =>
      obtain ⟨s, bo', ba', ao', ca', qo', cb', HI, hmk⟩ := hrel
      by_cases h5 : s.p.phase < 5
      · have HEN := hide (ended_no B x s L bo' ao' qo' ba' ca' cb' _ (unhide HI).o.p h5 (unhide HI).st)
        have HLS := hide (step_less (bs := s.bs) (unhide HI).o.p h5)
        have HOK := hide ((unhide HI).o.step h5)
        have HON := hide ((elEnd_on (unhide HI).o h5).trans (unhide HI).e)
        have HWD := hide (wrote_dif (unhide HI).o h5)
        have HWR := hide (fun hw => step_wr (unhide HI).o h5 hw)
        have HRT := hide (px_right (unhide HI).o.p (unhide HI).o.b)
        have HSP := hide (step_p s).1
        clear h5
        go_wp2_with fail
        refine (unhide HEN).mono ?_
        rintro e w1 ⟨rfl, hw⟩
        replace hw := hw.symm
        subst hw
        go_wp2_with fail
        refine (step_any B x s L bo' ao' qo' ba' ca' cb' _ (unhide HI).o.p (unhide HI).o.b (unhide HI).st).mono ?_
        rintro e w2 ⟨rfl, ⟨ro, ra, hst⟩, hk⟩
        rw [unhide HWD]
        have HST := hide hst
        have HV2 := hide ((unhide HI).v.keep hk (unhide HI).n)
        have HK2 := hide ((unhide HI).k.trans hk)
        clear hst hk
        by_cases hw : wroteB s.p.phase (pxStepP s.p s.bs).1.phase = true
        · have HEQ := hide (unhide HWR hw)
          obtain ⟨S, HSS⟩ : ∃ S, Hid (wS s.ss s.xs (pxStepP s.p s.bs).1.host (1 + (pxStepP s.p s.bs).1.host) (encB (ownK (pxStepP s.p s.bs).1 (pxStepP s.p s.bs).2)) = S) := ⟨_, hide rfl⟩
          obtain ⟨X, HXX⟩ : ∃ X, Hid (wX s.xs (pxStepP s.p s.bs).1.host (1 + (pxStepP s.p s.bs).1.host) (encB (ownK (pxStepP s.p s.bs).1 (pxStepP s.p s.bs).2)) = X) := ⟨_, hide rfl⟩
          rw [hw]
          go_wp2_with fail
          refine (putBlock_any B x ⟨s.ss, s.xs, (pxStepP s.p s.bs).1, (pxStepP s.p s.bs).2⟩ L ro ao' qo' ra ca' cb' S X _ (unhide HSS) (unhide HXX) (unhide HI).o.d (unhide HI).o.l (unhide HRT).1 (unhide HRT).2 (unhide HST)).mono ?_
          rintro e w3 ⟨rfl, ⟨bo2, ba2, ao2, ca2, qo2, cb2, hst3⟩, hk3⟩
          have HI3 : Hid (ElI w w3 B x C h L ⟨L.ver + 1, o, g⟩ E (elStep s) bo2 ba2 ao2 ca2 qo2 cb2) := hide ⟨by rw [unhide HEQ, unhide HSS, unhide HXX]; exact hst3, (unhide HV2).keep hk3 (unhide HI).n, (unhide HK2).trans hk3, unhide HOK, unhide HON, (unhide HI).n⟩
          clear hst3 hk3
          go_wp2
          go_roundg (gk - 1)
          case measure => have := unhide HLS; omega
          case rel => exact ⟨elStep s, _, _, _, _, _, _, HI3, by have h1 := unhide HLS; rw [unhide HSP]; omega⟩
        · rw [Bool.not_eq_true] at hw
          have HI3 : Hid (ElI w w2 B x C h L ⟨L.ver + 1, o, g⟩ E (elStep s) ro ra ao' ca' qo' cb') := hide ⟨by rw [step_no hw]; exact unhide HST, unhide HV2, unhide HK2, unhide HOK, unhide HON, (unhide HI).n⟩
          rw [hw]
          go_wp2
          go_roundg (gk - 1)
          case measure => have := unhide HLS; omega
          case rel => exact ⟨elStep s, _, _, _, _, _, _, HI3, by have h1 := unhide HLS; rw [unhide HSP]; omega⟩
      · have HEN := hide (ended_yes B x s L bo' ao' qo' ba' ca' cb' _ (unhide HI).o.p h5 (unhide HI).st)
        have HES : Hid (E = s) := hide ((unhide HI).e.symm.trans (elEnd_at h5))
        clear h5 hmk
        go_wp2_with fail
        refine (unhide HEN).mono ?_
        rintro e w1 ⟨rfl, hw⟩
        replace hw := hw.symm
        subst hw
        have HPV := hide (px_parts (unhide HI).o.p).2.2.2.2.1
        have HVT : Hid (VarT wr C 30 (L.ver + 1) o g) := hide (unhide HI).v
        have HLT : Hid (C < wr.heap.size ∧ x < wr.heap.size) := hide ⟨(unhide HVT).lt, (unhide HI).st.v.lt⟩
        have hCl := (unhide HLT).1
        have hxl := (unhide HLT).2
        have hn1 : C ≠ wr.heap.size := by omega
        have hn1' : wr.heap.size ≠ C := by omega
        have hn2 : x ≠ wr.heap.size := by omega
        have hn2' : wr.heap.size ≠ x := by omega
        obtain ⟨c0, c1, c2⟩ := (unhide HVT).cells
        obtain ⟨d0, d1, d2, d3, d4, d5, d6, d7⟩ := (unhide HI).st.v.px
        clear d0 d1 d3 d5 d6 d7 c1 c2
        go_upto_region 10 with fail
        go_cut [9] from 45 to 53 (fun c wx => ∃ C2 : Nat, c = .pointer (some ⟨C2, 0, none⟩) ∧ Hid (GotL wr wx C2 (leadOf (L.ver + 1) s.p.value)))
        case first =>
          go_region_held3 (fun w' => w'.cell? ⟨C, 0, none⟩ = some (.int .i64 (L.ver + 1)) ∧ w'.cell? ⟨x, 4, none⟩ = some (.int .i64 s.p.value)) (go_keep)
            ((go_at_call 83; refine (leaderOf_any (L.ver + 1) s.p.value _ (unhide HPV)).mono ?_; rintro e w2 ⟨rfl, hb2⟩; (first | (have hv2 : VarT w2 wr.heap.size 30 0 0 0 := (by exact ((VarT.new wr _ 0 0 0).below ((Below.refl _ _).drew)).below hb2); obtain ⟨x0, x1, x2⟩ := hv2.cells; obtain ⟨y0, y1, y2⟩ := hv2.free; have HB2 : Hid (Below wr.heap.size wr w2) := (by exact hide (fr (Joins.below_alloc1 wr _).drew hb2)); have HV2 := hide hv2; clear hv2 hb2) | (have HB2 : Hid (Below wr.heap.size wr w2) := (by exact hide (fr ((Below.refl _ wr).drew) hb2)); clear hb2)); have m0 := ((unhide HB2).cell (p := ⟨C, 0, none⟩) hCl).trans c0; have m1 := ((unhide HB2).cell (p := ⟨x, 4, none⟩) hxl).trans d4))
          all_goals
            go_wp2_with fail
            go_meet
            first
              | exact ⟨_, rfl, hide (GotL.set (unhide HB2) (unhide HV2) (Nat.le_refl _))⟩
              | exact ⟨_, rfl, hide (GotL.top _ (unhide HB2))⟩
        case rest =>
          obtain ⟨C2, rfl, HG⟩ := hcut
          rename World => W2
          clear c0 d4 hCl hxl hn1 hn1' hn2 hn2'
          have HS2 := hide ((unhide HI).st.below (unhide HG).k)
          have HK2 := hide ((unhide HI).k.trans (Keep.of_below (unhide HG).k))
          obtain ⟨M, HM⟩ : ∃ M, Hid (leadOf (L.ver + 1) s.p.value = M) := ⟨_, hide rfl⟩
          rw [unhide HM] at HG
          obtain ⟨v0, v1, v2⟩ := (unhide HG).v.cells
          obtain ⟨d0, d1, d2', d3, d4, d5, d6, d7⟩ := (unhide HS2).v.px
          clear d0 d1 d3 d4 d5 d6 d7
          by_cases p5 : s.p.phase = 5
          · have b5 : (s.p.phase != 5) = false := by simp [p5]
            have HP5 := hide p5
            clear p5
            go_wp2_with fail
            refine (leaderOK_impl M _).mono ?_
            rintro e w3 ⟨rfl, hb3⟩
            have HS3 := hide ((unhide HS2).below hb3)
            have HK3 := hide ((unhide HK2).trans (Keep.of_below hb3))
            have HV3 := hide ((unhide HG).v.below hb3)
            clear hb3 v0 v1 v2 d2'
            by_cases hl : ldB M = true
            · have HLM := hide hl
              have HRR : Hid (R = ⟨wS s.ss s.xs s.p.host 0 (encL M), wX s.xs s.p.host 0 (encL M), M, 0⟩) := hide (by rw [unhide HLAST, unhide HES, elLast, unhide HM, if_pos ⟨unhide HP5, hl⟩, (unhide HI).o.o])
              have HHH : Hid (0 ≤ s.p.host ∧ s.p.host ≤ 3) := hide (px_parts (unhide HI).o.p).1
              rw [hl]
              clear hl
              obtain ⟨v0, v1, v2⟩ := (unhide HV3).cells
              go_wp2_with fail
              refine (putLeader_any B x s L M _ _ _ _ _ _ _ _ _ rfl rfl (unhide HI).o.d (unhide HI).o.l (unhide HHH) (unhide HLM) (unhide HS3)).mono ?_
              rintro e w4 ⟨rfl, hst4, hk4⟩
              have HS4 := hide hst4
              have HK4 := hide ((unhide HK3).trans hk4)
              clear hst4 hk4 v0 v1 v2
              go_wp2
              go_ret
              rw [unhide HRR]
              exact ⟨rfl, ⟨_, _, unhide HS4⟩, unhide HK4⟩
            · have HRR : Hid (R = ⟨s.ss, s.xs, L, 19⟩) := hide (by rw [unhide HLAST, unhide HES, elLast, unhide HM, if_neg (fun hq => hl hq.2)])
              rw [Bool.not_eq_true] at hl
              rw [hl]
              go_wp2
              go_ret
              rw [unhide HRR]
              exact ⟨rfl, ⟨_, _, _, _, _, _, _, _, unhide HS3⟩, unhide HK3⟩
          · have b5 : (s.p.phase != 5) = true := by simp [p5]
            have HRR : Hid (R = ⟨s.ss, s.xs, L, 19⟩) := hide (by rw [unhide HLAST, unhide HES, elLast, if_neg (fun hq => p5 hq.1)])
            clear p5
            go_wp2
            go_ret
            rw [unhide HRR]
            exact ⟨rfl, ⟨_, _, _, _, _, _, _, _, unhide HS2⟩, unhide HK2⟩

end Go.Proofs.YtefnapcegeojoaaGreatDoor

namespace Go.Proofs.YtefnapcegeojoaaGreatDoor
open Go.RowKit
set_option linter.unusedVariables false
set_option maxRecDepth 100000

end Go.Proofs.YtefnapcegeojoaaGreatDoor

namespace Go.Proofs.YtefnapcegeojoaaGreatDoor
open Go.RowKit
set_option linter.unusedVariables false
set_option maxRecDepth 100000

structure TlS (w W : World) (B0 B1 B2 : Nat) (dv dx : Value) : Prop where
  below : Below w.heap.size w W
  d : VarD W B0 dv dx
  r : VarD W B1 (.slice none 0 0) (.slice none 0 0)
  t : VarT W B2 30 0 0 0
theorem TlS.next {w W W' : World} {B0 B1 B2 : Nat} {dv dx : Value} (h : TlS w W B0 B1 B2 dv dx) (hb : Below W.heap.size W W') : TlS w W' B0 B1 B2 dv dx := ⟨fr h.below hb, h.d.below hb, h.r.below hb, h.t.below hb⟩
theorem TlS.keep {w W W' : World} {B0 B1 B2 x : Nat} {dv dx : Value} (h : TlS w W B0 B1 B2 dv dx) (hk : Keep (fun j => j = x) W W') (hw : w.heap.size ≤ x) (h0 : B0 < x) (h1 : B1 < x) (h2 : B2 < x) : TlS w W' B0 B1 B2 dv dx :=
  ⟨h.below.trans (hk.below (B := w.heap.size) h.below.size (fun j e => by have e' : j = x := e; omega)), h.d.keep hk (by omega), h.r.keep hk (by omega), h.t.keep hk (by omega)⟩
def Told (w W : World) (R : Ans) (e : Ending) : Prop := ∃ po pa qo qa, e = .returned (.tuple #[.agg #[.slice po R.ss.length pa, .slice qo R.xs.length qa], lV R.l, .int .i64 R.c]) ∧ OwnD W w.heap.size po R.ss.length pa qo R.xs.length qa R.ss R.xs ∧ Below w.heap.size w W
theorem told_zero {w W : World} {R : Ans} {c : Int} (hR : R = ⟨[], [], ld0, c⟩) (hb : Below w.heap.size w W) : Told w W R (.returned (.tuple #[.agg #[.slice none 0 0, .slice none 0 0], lV ld0, .int .i64 c])) := by
  subst hR
  exact ⟨none, 0, none, 0, rfl, zeroD_own, hb⟩
theorem told_end {w W : World} {R : Ans} {s : Est} {L : Ld} {c : Int} {po qo : Option Addr} {pa qa : Nat} (hR : R = ⟨s.ss, s.xs, L, c⟩) (ho : OwnD W w.heap.size po s.ss.length pa qo s.xs.length qa s.ss s.xs) (hb : Below w.heap.size w W) : Told w W R (.returned (.tuple #[.agg #[.slice po s.ss.length pa, .slice qo s.xs.length qa], lV L, .int .i64 c])) := by
  subst hR
  exact ⟨po, pa, qo, qa, rfl, ho, hb⟩
theorem TlS.out {w W : World} {B0 B1 B2 n m ca cb : Nat} {dv dx : Value} {ao bo : Option Addr} {ss : List ByteArray} {xs : List Wr} (h : TlS w W B0 B1 B2 dv dx) (hd : OwnD W w.heap.size ao n ca bo m cb ss xs) (h1 : w.heap.size ≤ B1) (h2 : w.heap.size ≤ B2) (a b x y z : Value) :
    OwnD (set5 W B1 B2 a b x y z) w.heap.size ao n ca bo m cb ss xs ∧ Below w.heap.size w (set5 W B1 B2 a b x y z) := by
  have hk1 : Keep (fun j => j = B1) W ((W.setCell ⟨B1, 0, none⟩ a).setCell ⟨B1, 1, none⟩ b) := ((Keep.refl (fun j => j = B1) W).setCell (p := ⟨B1, 0, none⟩) rfl a).setCell (p := ⟨B1, 1, none⟩) rfl b
  have hd1 : OwnD ((W.setCell ⟨B1, 0, none⟩ a).setCell ⟨B1, 1, none⟩ b) w.heap.size ao n ca bo m cb ss xs := hd.keep hk1 (fun g hg e => by have e' : g = B1 := e; subst e'; exact hd.other h.r (by decide) (by decide) hg)
  have hk2 : Keep (fun j => j = B2) ((W.setCell ⟨B1, 0, none⟩ a).setCell ⟨B1, 1, none⟩ b) (set5 W B1 B2 a b x y z) := (((Keep.refl (fun j => j = B2) _).setCell (p := ⟨B2, 0, none⟩) rfl x).setCell (p := ⟨B2, 1, none⟩) rfl y).setCell (p := ⟨B2, 2, none⟩) rfl z
  refine ⟨hd1.keep hk2 (fun g hg e => ?_), below5 h.below h1 h2 a b x y z⟩
  have e' : g = B2 := e
  subst e'
  exact hd.other h.t (by decide) (by decide) hg
theorem TlS.out2 {w W : World} {B0 B1 B2 n m ca cb : Nat} {dv dx : Value} {ao bo : Option Addr} {ss : List ByteArray} {xs : List Wr} (h : TlS w W B0 B1 B2 dv dx) (hd : OwnD W w.heap.size ao n ca bo m cb ss xs) (h1 : w.heap.size ≤ B1) (h2 : w.heap.size ≤ B2) (a b x y z : Value) :
    OwnD (((((W.setCell ⟨B2, 0, none⟩ x).setCell ⟨B2, 1, none⟩ y).setCell ⟨B2, 2, none⟩ z).setCell ⟨B1, 0, none⟩ a).setCell ⟨B1, 1, none⟩ b) w.heap.size ao n ca bo m cb ss xs ∧ Below w.heap.size w (((((W.setCell ⟨B2, 0, none⟩ x).setCell ⟨B2, 1, none⟩ y).setCell ⟨B2, 2, none⟩ z).setCell ⟨B1, 0, none⟩ a).setCell ⟨B1, 1, none⟩ b) := by
  have hk2 : Keep (fun j => j = B2) W (((W.setCell ⟨B2, 0, none⟩ x).setCell ⟨B2, 1, none⟩ y).setCell ⟨B2, 2, none⟩ z) := (((Keep.refl (fun j => j = B2) _).setCell (p := ⟨B2, 0, none⟩) rfl x).setCell (p := ⟨B2, 1, none⟩) rfl y).setCell (p := ⟨B2, 2, none⟩) rfl z
  have hd1 := hd.keep hk2 (fun g hg e => by have e' : g = B2 := e; subst e'; exact hd.other h.t (by decide) (by decide) hg)
  have hk1 : Keep (fun j => j = B1) (((W.setCell ⟨B2, 0, none⟩ x).setCell ⟨B2, 1, none⟩ y).setCell ⟨B2, 2, none⟩ z) (((((W.setCell ⟨B2, 0, none⟩ x).setCell ⟨B2, 1, none⟩ y).setCell ⟨B2, 2, none⟩ z).setCell ⟨B1, 0, none⟩ a).setCell ⟨B1, 1, none⟩ b) := ((Keep.refl (fun j => j = B1) _).setCell (p := ⟨B1, 0, none⟩) rfl a).setCell (p := ⟨B1, 1, none⟩) rfl b
  refine ⟨hd1.keep hk1 (fun g hg e => ?_), ((((h.below.setCell (p := ⟨B2, 0, none⟩) h2 x).setCell (p := ⟨B2, 1, none⟩) h2 y).setCell (p := ⟨B2, 2, none⟩) h2 z).setCell (p := ⟨B1, 0, none⟩) h1 a).setCell (p := ⟨B1, 1, none⟩) h1 b⟩
  have e' : g = B1 := e
  subst e'
  exact hd.other h.r (by decide) (by decide) hg
theorem sto_new {W : World} {B : Nat} {h : Int} {L : Ld} {g : Nat} {po ro : Option Addr} {pa ra : Nat} {bs : List Bk} {ss : List ByteArray} {xs : List Wr} (ho : OwnR W B 96 4 (.slice (some ⟨g, 0, none⟩) 4 4) 4 (bksV bs)) (hd : OwnD W B po ss.length pa ro xs.length ra ss xs) (hB : B ≤ W.heap.size) :
    Sto (W.alloc (.cells #[.int .i64 h, .int .i64 0, .int .i64 0, .int .i64 0, .int .i64 0, .int .i64 0, .int .i64 0, .int .i64 0, .slice (some ⟨g, 0, none⟩) 4 4, .slice po ss.length pa, .slice ro xs.length ra, .int .i64 L.ver, .int .i64 L.own, .int .i64 L.gen] 68)) B W.heap.size ⟨ss, xs, ⟨h, 0, 0, 0, 0, 0, 0, 0⟩, bs⟩ L (some ⟨g, 0, none⟩) 4 po pa ro ra :=
  have hb := Joins.below_alloc1 W (.cells #[.int .i64 h, .int .i64 0, .int .i64 0, .int .i64 0, .int .i64 0, .int .i64 0, .int .i64 0, .int .i64 0, .slice (some ⟨g, 0, none⟩) 4 4, .slice po ss.length pa, .slice ro xs.length ra, .int .i64 L.ver, .int .i64 L.own, .int .i64 L.gen] 68)
  ⟨VarS.new W ⟨h, 0, 0, 0, 0, 0, 0, 0⟩ _ _ _ L, ho.below hb, hd.below hb, hB⟩

end Go.Proofs.YtefnapcegeojoaaGreatDoor

namespace Go.Proofs.YtefnapcegeojoaaGreatDoor
open Go.RowKit
set_option linter.unusedVariables false
set_option maxRecDepth 100000

theorem tl_new3 (w : World) (ao bo : Option Addr) (ca cb n m : Nat) :
    TlS w (((w.alloc (.cells #[.slice ao n ca, .slice bo m cb] 26)).alloc (.cells #[.slice none 0 0, .slice none 0 0] 26)).alloc (.cells #[.int .i64 0, .int .i64 0, .int .i64 0] 30)) w.heap.size (w.heap.size + 1) (w.heap.size + 1 + 1) (.slice ao n ca) (.slice bo m cb) := by
  have b1 := Joins.below_alloc1 w (.cells #[.slice ao n ca, .slice bo m cb] 26)
  have b3 := Joins.below_alloc1 (w.alloc (.cells #[.slice ao n ca, .slice bo m cb] 26)) (.cells #[.slice none 0 0, .slice none 0 0] 26)
  have b4 := Joins.below_alloc1 ((w.alloc (.cells #[.slice ao n ca, .slice bo m cb] 26)).alloc (.cells #[.slice none 0 0, .slice none 0 0] 26)) (.cells #[.int .i64 0, .int .i64 0, .int .i64 0] 30)
  refine ⟨fr (fr b1 b3) b4, (VarD.new w _ _).below (fr b3 b4), ?_, ?_⟩
  · have := (VarD.new (w.alloc (.cells #[.slice ao n ca, .slice bo m cb] 26)) (.slice none 0 0) (.slice none 0 0)).below b4
    simp only [World.size_alloc] at this
    exact this
  · have := VarT.new ((w.alloc (.cells #[.slice ao n ca, .slice bo m cb] 26)).alloc (.cells #[.slice none 0 0, .slice none 0 0] 26)) 30 0 0 0
    simp only [World.size_alloc] at this
    exact this

set_option maxHeartbeats 1600000 in
theorem elect_impl (R : Ans) (ao bo : Option Addr) (ca cb : Nat) (ss : List ByteArray) (xs : List Wr) (h o g : Int) (w : World) (hR : elA ss xs h o g = R) (hl : ss.length ≤ maxLen) (hm : xs.length ≤ maxLen) (h1 : Ss w ao ss) (h2 : Ios w bo xs) (hE : ErrW w) :
    Calls Tryz.prog 10 #[.agg #[.slice ao ss.length ca, .slice bo xs.length cb], .int .i64 h, .int .i64 o, .int .i64 g] w fun e w' => Told w w' R e := by
  have HN := hide (tl_new3 w ao bo ca cb ss.length xs.length)
  have HL := hide hl
  have HM := hide hm
  have H1 := hide h1
  have H2 := hide h2
  have HE := hide hE
  have HRR := hide hR
  clear h1 h2 hl hm hE hR
  go_enter Tryz.func10, Tryz.ntmps10
  go_upto_region 1 with fail
  revert HN
  generalize (((w.alloc (.cells #[.slice ao ss.length ca, .slice bo xs.length cb] 26)).alloc (.cells #[.slice none 0 0, .slice none 0 0] 26)).alloc (.cells #[.int .i64 0, .int .i64 0, .int .i64 0] 30)) = W0
  intro HT
  have HO : Hid (w.heap.size ≤ w.heap.size + 1 ∧ w.heap.size ≤ w.heap.size + 1 + 1 ∧ w.heap.size + 1 ≠ w.heap.size + 1 + 1) := hide (by omega)
  generalize w.heap.size + 1 + 1 = B2 at *
  generalize w.heap.size + 1 = B1 at *
  obtain ⟨d0, d1⟩ := (unhide HT).d.cells
  go_wp2_with fail
  refine (roomFault_any _ _ _ _ ss xs h _ (unhide HL) (unhide HM) ((unhide H1).below (unhide HT).below) ((unhide H2).below (unhide HT).below)).mono ?_
  rintro e w1 ⟨rfl, hb1⟩
  have HT1 := hide ((unhide HT).next hb1)
  clear hb1 d0 d1
  obtain ⟨c, HC⟩ : ∃ c, Hid (leC ss xs h = c) := ⟨_, hide rfl⟩
  rw [unhide HC]
  by_cases hc : c = 0
  · have hb : (c != 0) = false := by simp [hc]
    have HC0 : Hid (leC ss xs h = 0) := hide ((unhide HC).trans hc)
    clear hc
    go_wp2_with fail
    refine (ownerOK_any o g _).mono ?_
    rintro e w2 ⟨rfl, hw⟩
    replace hw := hw.symm
    subst hw
    have HT2 := HT1
    by_cases hx : (inB o 0 3 && inB g 1 1000000) = true
    · have HLX := hide hx
      obtain ⟨d0, d1⟩ := (unhide HT2).d.cells
      obtain ⟨L, HK⟩ : ∃ L, Hid (ldOf ss xs h = L) := ⟨_, hide rfl⟩
      have HD := hide (leC_eq (unhide HC0))
      go_wp2_with fail
      refine (openStore_any _ _ _ _ ss xs h L _ (unhide HK) (unhide HD).1 ((unhide H1).below (unhide HT2).below) ((unhide H2).below (unhide HT2).below) ((unhide HE).below (unhide HT2).below)).mono ?_
      rintro e w3 ⟨gb, po, pa, ro, ra, rfl, hob, hod, hb3⟩
      have HT3 := hide ((unhide HT2).next hb3)
      have HZ : Hid (w.heap.size ≤ w3.heap.size ∧ B1 < w3.heap.size ∧ B2 < w3.heap.size ∧ w.heap.size < w3.heap.size) := hide ⟨(unhide HT3).below.size, (unhide HT3).r.lt, (unhide HT3).t.lt, (unhide HT3).d.lt⟩
      have HS3 := hide (sto_new (h := h) (L := L) (hob.base (B' := w.heap.size) (unhide HT2).below.size) (hod.base (B' := w.heap.size) (unhide HT2).below.size) (unhide HZ).1)
      have HA3 := hide (Joins.below_alloc1 w3 (.cells #[.int .i64 h, .int .i64 0, .int .i64 0, .int .i64 0, .int .i64 0, .int .i64 0, .int .i64 0, .int .i64 0, .slice (some ⟨gb, 0, none⟩) 4 4, .slice po ss.length pa, .slice ro xs.length ra, .int .i64 L.ver, .int .i64 L.own, .int .i64 L.gen] 68))
      have HT4 := hide ((unhide HT3).next (unhide HA3))
      clear hob hod hb3 d0 d1 hx
      go_upto_region 7 with fail
      revert HS3 HT4 HZ
      clear HA3 HT3
      generalize w3.alloc (.cells #[.int .i64 h, .int .i64 0, .int .i64 0, .int .i64 0, .int .i64 0, .int .i64 0, .int .i64 0, .int .i64 0, .slice (some ⟨gb, 0, none⟩) 4 4, .slice po ss.length pa, .slice ro xs.length ra, .int .i64 L.ver, .int .i64 L.own, .int .i64 L.gen] 68) = W4
      generalize w3.heap.size = x
      intro HZ HS4 HT4
      have HCE := hide (elect_any R w.heap.size x ss xs h o g L _ _ _ _ _ _ _ (unhide HK) (unhide HRR) (unhide HC0) (unhide HLX) (unhide HS4))
      go_wp2_with fail
      refine (unhide HCE).mono ?_
      rintro e w5 ⟨rfl, ⟨p5, bs5, bo', ba', ao', ca', qo', cb', hst⟩, hk⟩
      have HS5 := hide hst
      have HT5 := hide ((unhide HT4).keep hk (unhide HZ).1 (unhide HZ).2.2.2 (unhide HZ).2.1 (unhide HZ).2.2.1)
      have x1 : x ≠ B1 := by have := unhide HZ; omega
      have x1' : B1 ≠ x := by have := unhide HZ; omega
      have x2 : x ≠ B2 := by have := unhide HZ; omega
      have x2' : B2 ≠ x := by have := unhide HZ; omega
      have x3 : B1 ≠ B2 := (unhide HO).2.2
      have x3' : B2 ≠ B1 := Ne.symm (unhide HO).2.2
      clear hst hk
      obtain ⟨_, c9, c10, c11, c12, c13⟩ := (unhide HS5).v.rest
      obtain ⟨r0, r1⟩ := (unhide HT5).r.cells
      have r2 := (unhide HT5).r.free 0
      have r3 := (unhide HT5).r.free 1
      obtain ⟨t0, t1, t2⟩ := (unhide HT5).t.cells
      obtain ⟨t3, t4, t5⟩ := (unhide HT5).t.free
      have HF := hide (fun a b x y z => (unhide HT5).out (unhide HS5).d (unhide HO).1 (unhide HO).2.1 a b x y z)
      have HF2 := hide (fun a b x y z => (unhide HT5).out2 (unhide HS5).d (unhide HO).1 (unhide HO).2.1 a b x y z)
      go_wp2
      go_region
      all_goals
        go_wp2
        refine bodyPost_ret (v := .tuple #[.agg #[.slice ao' R.ss.length ca', .slice qo' R.xs.length cb'], lV R.l, .int .i64 R.c]) (by simp [results, Tryz.results10, go_sem, r0, r1, t0, t1, t2]) rfl ?_
        first
          | exact told_end (s := ⟨R.ss, R.xs, p5, bs5⟩) rfl ((unhide HF _ _ _ _ _).1.below (Below.refl _ _).drew) (unhide HF _ _ _ _ _).2.drew
          | exact told_end (s := ⟨R.ss, R.xs, p5, bs5⟩) rfl ((unhide HF2 _ _ _ _ _).1.below (Below.refl _ _).drew) (unhide HF2 _ _ _ _ _).2.drew
          | exact told_end (s := ⟨R.ss, R.xs, p5, bs5⟩) rfl (unhide HF _ _ _ _ _).1 (unhide HF _ _ _ _ _).2
          | exact told_end (s := ⟨R.ss, R.xs, p5, bs5⟩) rfl (unhide HF2 _ _ _ _ _).1 (unhide HF2 _ _ _ _ _).2
    · rw [Bool.not_eq_true] at hx
      have HQ : Hid (R = ⟨[], [], ld0, 4⟩) := hide (by rw [← unhide HRR]; exact elA_range (unhide HC0) hx)
      obtain ⟨r0, r1⟩ := (unhide HT2).r.cells
      have r2 := (unhide HT2).r.free 0
      have r3 := (unhide HT2).r.free 1
      obtain ⟨t0, t1, t2⟩ := (unhide HT2).t.cells
      obtain ⟨t3, t4, t5⟩ := (unhide HT2).t.free
      have x3 : B1 ≠ B2 := (unhide HO).2.2
      have x3' : B2 ≠ B1 := Ne.symm (unhide HO).2.2
      have HF := hide (fun a b x y z => below5 (unhide HT2).below (unhide HO).1 (unhide HO).2.1 a b x y z)
      go_wp2
      exact bodyPost_ret (v := .tuple #[.agg #[.slice none 0 0, .slice none 0 0], lV ld0, .int .i64 4]) (by simp [results, Tryz.results10, go_sem, r0, r1, t0, t1, t2, ld0]) rfl (told_zero (unhide HQ) (unhide HF _ _ _ _ _))
  · have hb : (c != 0) = true := by simp [hc]
    have HQ : Hid (R = ⟨[], [], ld0, c⟩) := hide (by rw [← unhide HRR, ← unhide HC]; exact elA_room (by rw [unhide HC]; exact hc))
    clear hc
    obtain ⟨r0, r1⟩ := (unhide HT1).r.cells
    have r2 := (unhide HT1).r.free 0
    have r3 := (unhide HT1).r.free 1
    obtain ⟨t0, t1, t2⟩ := (unhide HT1).t.cells
    obtain ⟨t3, t4, t5⟩ := (unhide HT1).t.free
    have x3 : B1 ≠ B2 := (unhide HO).2.2
    have x3' : B2 ≠ B1 := Ne.symm (unhide HO).2.2
    have HF := hide (fun a b x y z => below5 (unhide HT1).below (unhide HO).1 (unhide HO).2.1 a b x y z)
    go_wp2
    exact bodyPost_ret (v := .tuple #[.agg #[.slice none 0 0, .slice none 0 0], lV ld0, .int .i64 c]) (by simp [results, Tryz.results10, go_sem, r0, r1, t0, t1, t2, ld0]) rfl (told_zero (unhide HQ) (unhide HF _ _ _ _ _))

end Go.Proofs.YtefnapcegeojoaaGreatDoor

namespace Go.Proofs.YtefnapcegeojoaaGreatDoor
open Go.RowKit
set_option linter.unusedVariables false
set_option maxRecDepth 100000

set_option maxHeartbeats 1600000 in
theorem l06Ask_any (ao bo : Option Addr) (ca cb : Nat) (ss : List ByteArray) (xs : List Wr) (h : Int) (w : World) (hl : ss.length ≤ maxLen) (hm : xs.length ≤ maxLen) (h1 : Ss w ao ss) (h2 : Ios w bo xs) :
    Calls Tryz.prog 38 #[.agg #[.slice ao ss.length ca, .slice bo xs.length cb], .int .i64 h] w fun e w' => e = .returned (.int .i64 (leC ss xs h)) ∧ Below w.heap.size w w' := by
  have HA := hide (Joins.below_alloc1 w (.cells #[.slice ao ss.length ca, .slice bo xs.length cb] 26))
  have H1 := hide (h1.below (unhide HA))
  have H2 := hide (h2.below (unhide HA))
  have HV := hide (VarD.new w (.slice ao ss.length ca) (.slice bo xs.length cb))
  have HL := hide hl
  have HM := hide hm
  clear h1 h2 hl hm
  go_enter Tryz.func38, Tryz.ntmps38
  go_wp2_with fail
  refine (l01Ask_any _ _ _ _ ss xs h 0 _ (unhide HL) (unhide HM) (unhide H1) (unhide H2)).mono ?_
  rintro e w1 ⟨rfl, hb1⟩
  have HB1 := hide (fr (unhide HA) hb1)
  obtain ⟨hc0, hc1⟩ := ((unhide HV).below hb1).cells
  clear hb1
  rw [ask_zero]
  by_cases e0 : hostC ss xs h = 0
  · have hb : (hostC ss xs h != 0) = false := by simp [e0]
    by_cases e2 : xs.length = 200
    · have HX := hide (leC_full e0 e2)
      have hfb : ((xs.length : Int) == 200) = true := by simp [e2]
      clear e2
      go_wp2
      go_ret
      exact ⟨ret_int (unhide HX).symm, unhide HB1⟩
    · have HX := hide (leC_ok e0 e2)
      have hfb : ((xs.length : Int) == 200) = false := by exact beq_eq_false_iff_ne.2 (by omega)
      clear e2
      go_wp2
      go_ret
      exact ⟨ret_int (unhide HX).symm, unhide HB1⟩
  · have hb : (hostC ss xs h != 0) = true := by simp [e0]
    have HX := hide (leC_host e0)
    go_wp2
    go_ret
    exact ⟨ret_int (unhide HX).symm, unhide HB1⟩

theorem infoV : (Tryz.prog.info? 96).map (fun i => (i.zero, i.size, i.bytes)) = some (some (.agg #[.int .i64 0, .int .i64 0, .int .i64 0, .int .i64 0]), 4, 32) := by kernel_rfl
theorem news4 (w : World) (b : Bk) (t : TypeId) : ∀ j u, (bksV [b])[j]? = some u → (w.alloc (.cells #[.int .i64 b.ver, .int .i64 b.mbal, .int .i64 b.bal, .int .i64 b.inp] t)).cell? ((⟨w.heap.size, 0, none⟩ : Addr).add j) = some u := by
  intro j u hj
  have hl : j < 4 := by
    have := (List.getElem?_eq_some_iff.1 hj).1
    simpa [bksV] using this
  rcases (show j = 0 ∨ j = 1 ∨ j = 2 ∨ j = 3 by omega) with rfl | rfl | rfl | rfl <;> simp [bksV] at hj <;> subst hj <;> simp [go_sem, Addr.add]
theorem cell4 (b : Bk) : ∀ u ∈ bksV [b], u.oneCell' = true := by
  intro u hu
  simp [bksV] at hu
  rcases hu with rfl | rfl | rfl | rfl <;> rfl
theorem bksV_app (xs : List Bk) (b : Bk) : bksV (xs ++ [b]) = bksV xs ++ bksV [b] := by simp [bksV]
theorem bksOf_take (ss : List ByteArray) (xs : List Wr) (h : Int) {k : Nat} (hk : k < 4) : (bksOf ss xs h).take (k + 1) = (bksOf ss xs h).take k ++ [bdK (readV ss xs h (1 + (k : Int)))] := by
  rcases (show k = 0 ∨ k = 1 ∨ k = 2 ∨ k = 3 by omega) with rfl | rfl | rfl | rfl <;> rfl
structure SbI (w wr : World) (D : Nat) (dv dx v : Value) (k : Nat) (l : List Bk) : Prop where
  below : Below w.heap.size w wr
  d : VarD wr D dv dx
  o : OwnR wr w.heap.size 96 4 v k (bksV l)
theorem SbI.next {w wr w' : World} {D k : Nat} {dv dx v : Value} {l : List Bk} (i : SbI w wr D dv dx v k l) (hb : Below wr.heap.size wr w') : SbI w w' D dv dx v k l := ⟨fr i.below hb, i.d.below hb, i.o.below hb⟩
theorem SbI.more {w wr w' : World} {D k g cap : Nat} {dv dx v : Value} {l m : List Bk} (i : SbI w wr D dv dx v k l) (ho : w'.ownsRow w.heap.size 96 4 (.slice (some ⟨g, 0, none⟩) (k + 1) cap) (k + 1) (bksV m)) (hk : Keep (Own v) wr w') : SbI w w' D dv dx (.slice (some ⟨g, 0, none⟩) (k + 1) cap) (k + 1) m :=
  ⟨i.below.trans (hk.below (B := w.heap.size) i.below.size (fun j hj => (i.o.ge j hj).1)), i.d.keep hk (i.o.other i.d (by decide)), .inr ⟨by omega, ho⟩⟩

set_option maxHeartbeats 1600000 in
theorem l06Blocks_any (ao bo : Option Addr) (ca cb : Nat) (ss : List ByteArray) (xs : List Wr) (h : Int) (w : World) (hd : diskB ss xs = true) (h1 : Ss w ao ss) (h2 : Ios w bo xs) :
    Calls Tryz.prog 86 #[.agg #[.slice ao ss.length ca, .slice bo xs.length cb], .int .i64 h] w fun e w' => ∃ qo qa, e = .returned (.slice qo 4 qa) ∧ OwnR w' w.heap.size 96 4 (.slice qo 4 qa) 4 (bksV (bksOf ss xs h)) ∧ Below w.heap.size w w' := by
  have H1 := hide h1
  have H2 := hide h2
  have HD := hide hd
  obtain ⟨l1, l2⟩ := diskB_len hd
  have HRD : Hid (∀ (k : Nat) (W : World), k < 4 → Below w.heap.size w W → Calls Tryz.prog 97 #[.agg #[.slice ao ss.length ca, .slice bo xs.length cb], .int .i64 h, .int .i64 (1 + (k : Int))] W fun e w' => e = .returned (.string (readV ss xs h (1 + (k : Int)))) ∧ Below W.heap.size W w') := hide (fun k W hk hW => by
    have := l01Read_any ao bo ca cb ss xs h (1 + k) W (by omega) (by omega) (by unfold maxLen; omega) (h1.below hW) (h2.below hW)
    rw [show ((1 + k : Nat) : Int) = 1 + (k : Int) by omega] at this
    exact this)
  have E1 : Hid (SbI w ((w.alloc (.cells #[.slice ao ss.length ca, .slice bo xs.length cb] 26)).alloc (.cells #[] 96)) w.heap.size (.slice ao ss.length ca) (.slice bo xs.length cb) (.slice (some ⟨w.heap.size + 1, 0, none⟩) 0 0) 0 []) :=
    hide ⟨Joins.below_alloc2 _ _ _, (VarD.new w _ _).below (Joins.below_alloc1 _ _), .inl ⟨rfl, rfl, _, rfl⟩⟩
  clear h1 h2 hd l1 l2
  obtain ⟨i0, hi, hz0, hz1, hz2⟩ := info_parts infoV
  go_enter Tryz.func86, Tryz.ntmps86
  go_wp2
  revert E1
  generalize (w.alloc (.cells #[.slice ao ss.length ca, .slice bo xs.length cb] 26)).alloc (.cells #[] 96) = W1
  intro E1
  go_loopw [5, 6, 7, 8] (fun out i _ _ wr => ∃ (k : Nat) (qo : Option Addr) (qa : Nat), k ≤ 4 ∧ i = .int .i64 k ∧ out = .slice qo k qa ∧ Hid (SbI w wr w.heap.size (.slice ao ss.length ca) (.slice bo xs.length cb) (.slice qo k qa) k ((bksOf ss xs h).take k))) (fun _ i _ _ _ => 4 - (intOf i).toNat)
  case atStart => exact ⟨0, _, _, by omega, rfl, rfl, E1⟩
  case round =>
    obtain ⟨k, qo, qa, hk, rfl, rfl, ER⟩ := hrel
    by_cases hlt : k < 4
    · have hki : (k : Int) < 4 := by omega
      obtain ⟨d0, d1⟩ := (unhide ER).d.cells
      have wr1 : IntKind.i64.wrap (1 + (k : Int)) = 1 + (k : Int) := by rw [IntKind.wrap_i64]; omega
      obtain ⟨T, HT⟩ : ∃ T, Hid (readV ss xs h (1 + (k : Int)) = T) := ⟨_, hide rfl⟩
      have HTZ : Hid (T.size ≤ 80) := hide (by rw [← unhide HT]; exact readV_size (unhide HD) h _)
      have HTK : Hid ((bksOf ss xs h).take (k + 1) = (bksOf ss xs h).take k ++ [bdK T]) := hide (by rw [← unhide HT]; exact bksOf_take ss xs h hlt)
      have HRK := hide (unhide HRD k _ hlt (unhide ER).below)
      rw [unhide HT] at HRK
      go_wp2_with fail
      refine (unhide HRK).mono ?_
      rintro e w2 ⟨rfl, hb2⟩
      have E2 := hide ((unhide ER).next hb2)
      clear hb2 d0 d1
      go_wp2_with fail
      refine (l05Decode_any T _ (Nat.le_trans (unhide HTZ) (by decide))).mono ?_
      rintro e w3 ⟨rfl, hb3⟩
      have E3 := hide ((unhide E2).next hb3)
      clear hb3
      revert HTK
      generalize bdK T = y
      intro HTK
      have E4 := hide (((unhide E3).next (Joins.below_alloc1 w3 (.cells #[.int .i64 y.ver, .int .i64 y.mbal, .int .i64 y.bal, .int .i64 y.inp] 96))).next (Joins.below_alloc1 _ (.cells #[.int .i64 y.ver, .int .i64 y.mbal, .int .i64 y.bal, .int .i64 y.inp] 96)))
      have HI := hide (news4 (w3.alloc (.cells #[.int .i64 y.ver, .int .i64 y.mbal, .int .i64 y.bal, .int .i64 y.inp] 96)) y 96)
      simp only [World.size_alloc] at HI
      have HSZ := hide (unhide E4).below.size
      go_wp2_with (at_builtin; refine wpList_append_one rfl _ _ 64 rfl w.heap.size 96 i0 (.agg #[.int .i64 0, .int .i64 0, .int .i64 0, .int .i64 0]) 4 32 Tryz.underlying64 hi hz0 hz1 hz2 rfl (by omega) qo k qa _ rfl (unhide E4).o (unhide HSZ) ⟨w3.heap.size + 1, 0, none⟩ _ (bksV [y]) rfl rfl (unhide HI) (cell4 y) (by unfold maxLen; omega) (by omega) ?_; intro g2 cap2 wA hoA hkA; have HSF : Hid (SbI w wA w.heap.size (.slice ao ss.length ca) (.slice bo xs.length cb) (.slice (some ⟨g2, 0, none⟩) (k + 1) cap2) (k + 1) ((bksOf ss xs h).take (k + 1))) := hide ((unhide E4).more (by rw [unhide HTK, bksV_app]; exact hoA) hkA); clear hoA hkA)
      go_roundw
      case rel => exact ⟨k + 1, _, _, by omega, by go_num, rfl, HSF⟩
      case measure => simp [intOf]; omega
    · have hk4 : k = 4 := by omega
      have hki : ¬ (k : Int) < 4 := by omega
      have HO : Hid (OwnR wr w.heap.size 96 4 (.slice qo 4 qa) 4 (bksV (bksOf ss xs h))) := hide (by have := (unhide ER).o; rw [hk4] at this; exact this)
      subst hk4
      go_wp2
      go_ret
      exact ⟨_, _, rfl, unhide HO, (unhide ER).below⟩

theorem l01Flush_sure (ao : Option Addr) (ca gg cap B : Nat) (ss : List ByteArray) (xs : List Wr) (h a : Int) (t : ByteArray) (S : List ByteArray) (Y : List Wr) (W : World) (hS : wS ss xs h a t = S) (hX : wX xs h a t = Y) (hP : diskB ss (xs ++ [⟨h, a, t⟩]) = true) (h1 : Ss W ao ss) (hO : W.ownsRow B 75 3 (.slice (some ⟨gg, 0, none⟩) (xs.length + 1) cap) (xs.length + 1) (ioV (xs ++ [⟨h, a, t⟩]))) :
    Calls Tryz.prog 52 #[.agg #[.slice ao ss.length ca, .slice (some ⟨gg, 0, none⟩) (xs.length + 1) cap], .int .i64 h] W fun e w' => ∃ po pa qo qa, e = .returned (.agg #[.slice po ss.length pa, .slice qo Y.length qa]) ∧ OwnD w' W.heap.size po ss.length pa qo Y.length qa S Y ∧ Below W.heap.size W w' := by
  have hn : (xs ++ [(⟨h, a, t⟩ : Wr)]).length = xs.length + 1 := by simp
  exact l01Flush_put ao (some ⟨gg, 0, none⟩) ca cap ss (xs ++ [⟨h, a, t⟩]) h ss.length (xs.length + 1) S Y W rfl hn (show putW ss (ofH h (xs ++ [⟨h, a, t⟩])) = S from hS) (show dropF h (xs ++ [⟨h, a, t⟩]) = Y from hX) hP h1 (ownI (e := 75) (B := B) (cap := cap) (xs := xs ++ [⟨h, a, t⟩]) (by rw [hn]; exact hO) (rightX hP))

end Go.Proofs.YtefnapcegeojoaaGreatDoor

namespace Go.Proofs.YtefnapcegeojoaaGreatDoor
open Go.RowKit
set_option linter.unusedVariables false
set_option maxRecDepth 100000

def Rd (w W : World) (ao : Option Addr) (ca : Nat) (qo : Option Addr) (cb : Nat) (ss : List ByteArray) (xs : List Wr) : Prop := (Ss w ao ss ∧ Ios w qo xs) ∨ (OwnD W w.heap.size ao ss.length ca qo xs.length cb ss xs ∧ diskB ss xs = true)
theorem Rd.ss {w W : World} {ao qo : Option Addr} {ca cb : Nat} {ss : List ByteArray} {xs : List Wr} (h : Rd w W ao ca qo cb ss xs) (hb : Below w.heap.size w W) : Ss W ao ss ∧ Ios W qo xs := by
  rcases h with ⟨h1, h2⟩ | ⟨h1, h2⟩
  · exact ⟨h1.below hb, h2.below hb⟩
  · exact ⟨h1.ss (right_sz h2).2.1, h1.ios (right_sz h2).2.2⟩
theorem Rd.below {w W W' : World} {ao qo : Option Addr} {ca cb : Nat} {ss : List ByteArray} {xs : List Wr} (h : Rd w W ao ca qo cb ss xs) (hb : Below W.heap.size W W') : Rd w W' ao ca qo cb ss xs := h.imp id (fun k => ⟨k.1.below hb, k.2⟩)
theorem Rd.keep {w W W' : World} {ao qo : Option Addr} {ca cb : Nat} {ss : List ByteArray} {xs : List Wr} {x t : Nat} {c : Array Value} {f : Nat × Nat} (h : Rd w W ao ca qo cb ss xs) (hk : Keep (fun j => j = x) W W') (hx : W.heap[x]? = some (.cells c t f)) (h1 : t ≠ 9) (h2 : t ≠ 75) : Rd w W' ao ca qo cb ss xs :=
  h.imp id (fun k => ⟨k.1.keep hk (fun g hg e => by have e' : g = x := e; subst e'; exact k.1.other hx h1 h2 hg), k.2⟩)

structure LeI (w W : World) (B0 B1 B2 O : Nat) (ss : List ByteArray) (xs : List Wr) (L : Ld) (ao : Option Addr) (ca : Nat) (qo : Option Addr) (cb : Nat) : Prop where
  below : Below w.heap.size w W
  d : VarD W B0 (.slice ao ss.length ca) (.slice qo xs.length cb)
  r : VarD W B1 (.slice none 0 0) (.slice none 0 0)
  t : VarT W B2 30 0 0 0
  o : VarT W O 30 L.ver L.own L.gen
  a : Rd w W ao ca qo cb ss xs
structure Apart (w : World) (B0 B1 B2 O : Nat) : Prop where
  k0 : w.heap.size ≤ B0
  k1 : w.heap.size ≤ B1
  k2 : w.heap.size ≤ B2
  k3 : w.heap.size ≤ O
  n01 : B0 ≠ B1
  n02 : B0 ≠ B2
  n03 : B0 ≠ O
  n12 : B1 ≠ B2
  n13 : B1 ≠ O
  n23 : B2 ≠ O
theorem LeI.next {w W W' : World} {B0 B1 B2 O : Nat} {ss : List ByteArray} {xs : List Wr} {L : Ld} {ao qo : Option Addr} {ca cb : Nat} (h : LeI w W B0 B1 B2 O ss xs L ao ca qo cb) (hb : Below W.heap.size W W') : LeI w W' B0 B1 B2 O ss xs L ao ca qo cb :=
  ⟨fr h.below hb, h.d.below hb, h.r.below hb, h.t.below hb, h.o.below hb, h.a.below hb⟩
theorem LeI.keep {w W W' : World} {B0 B1 B2 O x t : Nat} {c : Array Value} {f : Nat × Nat} {ss : List ByteArray} {xs : List Wr} {L : Ld} {ao qo : Option Addr} {ca cb : Nat} (h : LeI w W B0 B1 B2 O ss xs L ao ca qo cb) (hk : Keep (fun j => j = x) W W') (hw : w.heap.size ≤ x) (hx : W.heap[x]? = some (.cells c t f)) (h1 : t ≠ 9) (h2 : t ≠ 75) (n0 : B0 ≠ x) (n1 : B1 ≠ x) (n2 : B2 ≠ x) (n3 : O ≠ x) : LeI w W' B0 B1 B2 O ss xs L ao ca qo cb :=
  ⟨h.below.trans (hk.below (B := w.heap.size) h.below.size (fun j e => by have e' : j = x := e; omega)), h.d.keep hk n0, h.r.keep hk n1, h.t.keep hk n2, h.o.keep hk n3, h.a.keep hk hx h1 h2⟩
theorem keep2 (W : World) (x : Nat) (a b : Value) : Keep (fun j => j = x) W ((W.setCell ⟨x, 0, none⟩ a).setCell ⟨x, 1, none⟩ b) := ((Keep.refl (fun j => j = x) W).setCell (p := ⟨x, 0, none⟩) rfl a).setCell (p := ⟨x, 1, none⟩) rfl b
theorem LeI.write {w W W' : World} {B0 B1 B2 O : Nat} {ss S : List ByteArray} {xs Y : List Wr} {L : Ld} {ao qo po ro : Option Addr} {ca cb pa ra : Nat} (h : LeI w W B0 B1 B2 O ss xs L ao ca qo cb) (ap : Apart w B0 B1 B2 O) (hb : Below W.heap.size W W') (ho : OwnD W' w.heap.size po S.length pa ro Y.length ra S Y) (hr : diskB S Y = true) :
    LeI w ((W'.setCell ⟨B0, 0, none⟩ (.slice po S.length pa)).setCell ⟨B0, 1, none⟩ (.slice ro Y.length ra)) B0 B1 B2 O S Y L po pa ro ra := by
  have h' := h.next hb
  have hk := keep2 W' B0 (.slice po S.length pa) (.slice ro Y.length ra)
  refine ⟨h'.below.trans (hk.below (B := w.heap.size) h'.below.size (fun j e => by have e' : j = B0 := e; have := ap.k0; omega)), ?_, h'.r.keep hk (Ne.symm ap.n01), h'.t.keep hk (Ne.symm ap.n02), h'.o.keep hk (Ne.symm ap.n03), .inr ⟨ho.keep hk (fun g hg e => by have e' : g = B0 := e; subst e'; exact ho.other h'.d (by decide) (by decide) hg), hr⟩⟩
  exact set_heap (i := 1) (set_heap (i := 0) h'.d (.slice po S.length pa)) (.slice ro Y.length ra)
def Left (w W : World) (R : Ans) (e : Ending) : Prop := ∃ po pa qo qa, e = .returned (.tuple #[.agg #[.slice po R.ss.length pa, .slice qo R.xs.length qa], lV R.l, .int .i64 R.c]) ∧ Ss W po R.ss ∧ Ios W qo R.xs ∧ Below w.heap.size w W
theorem LeI.out {w W : World} {B0 B1 B2 O : Nat} {ss : List ByteArray} {xs : List Wr} {L : Ld} {ao qo : Option Addr} {ca cb : Nat} (h : LeI w W B0 B1 B2 O ss xs L ao ca qo cb) (ap : Apart w B0 B1 B2 O) (a b x y z : Value) :
    (Ss (set5 W B1 B2 a b x y z) ao ss ∧ Ios (set5 W B1 B2 a b x y z) qo xs ∧ Below w.heap.size w (set5 W B1 B2 a b x y z)) ∧ (Ss (((((W.setCell ⟨B2, 0, none⟩ x).setCell ⟨B2, 1, none⟩ y).setCell ⟨B2, 2, none⟩ z).setCell ⟨B1, 0, none⟩ a).setCell ⟨B1, 1, none⟩ b) ao ss ∧ Ios (((((W.setCell ⟨B2, 0, none⟩ x).setCell ⟨B2, 1, none⟩ y).setCell ⟨B2, 2, none⟩ z).setCell ⟨B1, 0, none⟩ a).setCell ⟨B1, 1, none⟩ b) qo xs ∧ Below w.heap.size w (((((W.setCell ⟨B2, 0, none⟩ x).setCell ⟨B2, 1, none⟩ y).setCell ⟨B2, 2, none⟩ z).setCell ⟨B1, 0, none⟩ a).setCell ⟨B1, 1, none⟩ b)) := by
  have k3 : ∀ V : World, Keep (fun j => j = B2) V (((V.setCell ⟨B2, 0, none⟩ x).setCell ⟨B2, 1, none⟩ y).setCell ⟨B2, 2, none⟩ z) := fun V => (((Keep.refl (fun j => j = B2) V).setCell (p := ⟨B2, 0, none⟩) rfl x).setCell (p := ⟨B2, 1, none⟩) rfl y).setCell (p := ⟨B2, 2, none⟩) rfl z
  have hb1 : ∀ {V V' : World} {q : Nat}, Below w.heap.size w V → w.heap.size ≤ q → Keep (fun j => j = q) V V' → Below w.heap.size w V' := fun hV hq hk => hV.trans (hk.below (B := w.heap.size) hV.size (fun j e => by have e' : j = _ := e; omega))
  constructor
  · have a1 : Rd w ((W.setCell ⟨B1, 0, none⟩ a).setCell ⟨B1, 1, none⟩ b) ao ca qo cb ss xs := h.a.keep (keep2 W B1 a b) h.r (by decide) (by decide)
    have t1 : VarT ((W.setCell ⟨B1, 0, none⟩ a).setCell ⟨B1, 1, none⟩ b) B2 30 0 0 0 := h.t.keep (keep2 W B1 a b) (Ne.symm ap.n12)
    have b1 := hb1 h.below ap.k1 (keep2 W B1 a b)
    have a2 : Rd w (set5 W B1 B2 a b x y z) ao ca qo cb ss xs := a1.keep (k3 _) t1 (by decide) (by decide)
    have b2 : Below w.heap.size w (set5 W B1 B2 a b x y z) := hb1 b1 ap.k2 (k3 _)
    exact ⟨(a2.ss b2).1, (a2.ss b2).2, b2⟩
  · have a1 := h.a.keep (k3 W) h.t (by decide) (by decide)
    have r1 := h.r.keep (k3 W) ap.n12
    have b1 := hb1 h.below ap.k2 (k3 W)
    have a2 := a1.keep (keep2 _ B1 a b) r1 (by decide) (by decide)
    have b2 := hb1 b1 ap.k1 (keep2 _ B1 a b)
    exact ⟨(a2.ss b2).1, (a2.ss b2).2, b2⟩
theorem left_end {w W : World} {R : Ans} {ss : List ByteArray} {xs : List Wr} {L : Ld} {c : Int} {po qo : Option Addr} {pa qa : Nat} (hR : R = ⟨ss, xs, L, c⟩) (h : Ss W po ss ∧ Ios W qo xs ∧ Below w.heap.size w W) : Left w W R (.returned (.tuple #[.agg #[.slice po ss.length pa, .slice qo xs.length qa], lV L, .int .i64 c])) := by
  subst hR
  exact ⟨po, pa, qo, qa, rfl, h.1, h.2.1, h.2.2⟩
theorem left_drew {w W : World} {ss : List ByteArray} {xs : List Wr} {po qo : Option Addr} (h : Ss W po ss ∧ Ios W qo xs ∧ Below w.heap.size w W) : Ss W.drew po ss ∧ Ios W.drew qo xs ∧ Below w.heap.size w W.drew := ⟨h.1.below (Below.refl _ _).drew, h.2.1.below (Below.refl _ _).drew, h.2.2.drew⟩

structure LpI (w W : World) (B0 B1 B2 O P : Nat) (s : Est) (L : Ld) (bo : Option Addr) (ba : Nat) (ao : Option Addr) (ca : Nat) (qo : Option Addr) (cb : Nat) : Prop where
  l : LeI w W B0 B1 B2 O s.ss s.xs L ao ca qo cb
  p : VarP W P 63 s.p
  b : OwnR W w.heap.size 96 4 (.slice bo 4 ba) 4 (bksV s.bs)
theorem LpI.next {w W W' : World} {B0 B1 B2 O P : Nat} {s : Est} {L : Ld} {bo ao qo : Option Addr} {ba ca cb : Nat} (h : LpI w W B0 B1 B2 O P s L bo ba ao ca qo cb) (hb : Below W.heap.size W W') : LpI w W' B0 B1 B2 O P s L bo ba ao ca qo cb := ⟨h.l.next hb, h.p.below hb, h.b.below hb⟩
theorem LpI.put {w W : World} {B0 B1 B2 O P : Nat} {s : Est} {L : Ld} {bo ao qo ro : Option Addr} {ba ca cb ra : Nat} {bs : List Bk} (h : LpI w W B0 B1 B2 O P s L bo ba ao ca qo cb) (q : Pxs) (ho : OwnR W w.heap.size 96 4 (.slice ro 4 ra) 4 (bksV bs)) (hP : w.heap.size ≤ P) (n0 : B0 ≠ P) (n1 : B1 ≠ P) (n2 : B2 ≠ P) (n3 : O ≠ P) :
    LpI w ((((((((W.setCell ⟨P, 0, none⟩ (.int .i64 q.host)).setCell ⟨P, 1, none⟩ (.int .i64 q.ver)).setCell ⟨P, 2, none⟩ (.int .i64 q.phase)).setCell ⟨P, 3, none⟩ (.int .i64 q.ballot)).setCell ⟨P, 4, none⟩ (.int .i64 q.value)).setCell ⟨P, 5, none⟩ (.int .i64 q.next)).setCell ⟨P, 6, none⟩ (.int .i64 q.best)).setCell ⟨P, 7, none⟩ (.int .i64 q.bestBal)) B0 B1 B2 O P ⟨s.ss, s.xs, q, bs⟩ L ro ra ao ca qo cb := by
  have hk := keep8 (Keep.refl (fun j => j = P) W) (g := P) (show P = P from rfl) (.int .i64 q.host) (.int .i64 q.ver) (.int .i64 q.phase) (.int .i64 q.ballot) (.int .i64 q.value) (.int .i64 q.next) (.int .i64 q.best) (.int .i64 q.bestBal)
  exact ⟨h.l.keep hk hP h.p (by decide) (by decide) n0 n1 n2 n3, h.p.put q, ho.keep hk (fun g hg e => by have e' : g = P := e; subst e'; exact ho.other h.p (by decide) hg)⟩
theorem LpI.write {w W W' : World} {B0 B1 B2 O P : Nat} {s : Est} {S : List ByteArray} {Y : List Wr} {L : Ld} {bo ao qo po ro : Option Addr} {ba ca cb pa ra : Nat} (h : LpI w W B0 B1 B2 O P s L bo ba ao ca qo cb) (ap : Apart w B0 B1 B2 O) (n0 : B0 ≠ P) (hb : Below W.heap.size W W') (ho : OwnD W' w.heap.size po S.length pa ro Y.length ra S Y) (hr : diskB S Y = true) :
    LpI w ((W'.setCell ⟨B0, 0, none⟩ (.slice po S.length pa)).setCell ⟨B0, 1, none⟩ (.slice ro Y.length ra)) B0 B1 B2 O P ⟨S, Y, s.p, s.bs⟩ L bo ba po pa ro ra := by
  have hk := keep2 W' B0 (.slice po S.length pa) (.slice ro Y.length ra)
  have h' := h.next hb
  exact ⟨h.l.write ap hb ho hr, h'.p.keep hk (Ne.symm n0), h'.b.keep hk (fun g hg e => by have e' : g = B0 := e; subst e'; exact h'.b.other h'.l.d (by decide) hg)⟩

theorem wrote_beq (a b : Int) : wroteB a b = (((b == 2) && (a == 1)) || ((b == 4) && (a == 3))) := by
  rw [Bool.eq_iff_iff]; simp [wroteB]

end Go.Proofs.YtefnapcegeojoaaGreatDoor
