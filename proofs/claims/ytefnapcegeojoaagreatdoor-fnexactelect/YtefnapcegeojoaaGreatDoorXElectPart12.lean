import Derived.Test.YtefnapcegeojoaaGreatDoorRows
import Derived.Test.YtefnapcegeojoaaGreatDoorXElectPart1
import Derived.Test.YtefnapcegeojoaaGreatDoorXElectPart2
import Derived.Test.YtefnapcegeojoaaGreatDoorXElectPart3
import Derived.Test.YtefnapcegeojoaaGreatDoorXElectPart4
import Derived.Test.YtefnapcegeojoaaGreatDoorXElectPart5
import Derived.Test.YtefnapcegeojoaaGreatDoorXElectPart9
import Derived.Test.YtefnapcegeojoaaGreatDoorXElectPart8
import Derived.Test.YtefnapcegeojoaaGreatDoorXElectPart6
import Derived.Test.YtefnapcegeojoaaGreatDoorXElectPart11
import Derived.WalkKit
import Derived.WalkSpells
import Derived.KernelRfl
import Derived.Deep.RegionWith
import Derived.Deep.RegionHeld3
import Derived.Deep.MidRow
import Derived.Deep.CutRange
import Derived.Deep.LoopGhost

namespace Go.Proofs.YtefnapcegeojoaaGreatDoor
open Go.RowKit
set_option linter.unusedVariables false
set_option maxRecDepth 100000

theorem le_new (w : World) (ao bo : Option Addr) (ca cb : Nat) (ss : List ByteArray) (xs : List Wr) (h1 : Ss w ao ss) (h2 : Ios w bo xs) :
    (Below w.heap.size w (((w.alloc (.cells #[.slice ao ss.length ca, .slice bo xs.length cb] 26)).alloc (.cells #[.slice none 0 0, .slice none 0 0] 26)).alloc (.cells #[.int .i64 0, .int .i64 0, .int .i64 0] 30))) ∧ VarD (((w.alloc (.cells #[.slice ao ss.length ca, .slice bo xs.length cb] 26)).alloc (.cells #[.slice none 0 0, .slice none 0 0] 26)).alloc (.cells #[.int .i64 0, .int .i64 0, .int .i64 0] 30)) w.heap.size (.slice ao ss.length ca) (.slice bo xs.length cb) ∧
    VarD (((w.alloc (.cells #[.slice ao ss.length ca, .slice bo xs.length cb] 26)).alloc (.cells #[.slice none 0 0, .slice none 0 0] 26)).alloc (.cells #[.int .i64 0, .int .i64 0, .int .i64 0] 30)) (w.heap.size + 1) (.slice none 0 0) (.slice none 0 0) ∧ VarT (((w.alloc (.cells #[.slice ao ss.length ca, .slice bo xs.length cb] 26)).alloc (.cells #[.slice none 0 0, .slice none 0 0] 26)).alloc (.cells #[.int .i64 0, .int .i64 0, .int .i64 0] 30)) (w.heap.size + 1 + 1) 30 0 0 0 := by
  have b1 := Joins.below_alloc1 w (.cells #[.slice ao ss.length ca, .slice bo xs.length cb] 26)
  have b3 := Joins.below_alloc1 (w.alloc (.cells #[.slice ao ss.length ca, .slice bo xs.length cb] 26)) (.cells #[.slice none 0 0, .slice none 0 0] 26)
  have b4 := Joins.below_alloc1 ((w.alloc (.cells #[.slice ao ss.length ca, .slice bo xs.length cb] 26)).alloc (.cells #[.slice none 0 0, .slice none 0 0] 26)) (.cells #[.int .i64 0, .int .i64 0, .int .i64 0] 30)
  refine ⟨fr (fr b1 b3) b4, (VarD.new w _ _).below (fr b3 b4), ?_, ?_⟩
  · have := (VarD.new (w.alloc (.cells #[.slice ao ss.length ca, .slice bo xs.length cb] 26)) (.slice none 0 0) (.slice none 0 0)).below b4
    simp only [World.size_alloc] at this
    exact this
  · have := VarT.new ((w.alloc (.cells #[.slice ao ss.length ca, .slice bo xs.length cb] 26)).alloc (.cells #[.slice none 0 0, .slice none 0 0] 26)) 30 0 0 0
    simp only [World.size_alloc] at this
    exact this
theorem l05Step_el (p : Pxs) (ao : Option Addr) (cap : Nat) (bs : List Bk) (w : World) (hp : pxB p = true) (hb : bksB bs = true) (hr : Bks w ao bs) :
    Calls Tryz.prog 88 #[pV p, .slice ao 4 cap] w fun e w' => ∃ qo qa c, e = .returned (.tuple #[pV (pxStepP p bs).1, .slice qo 4 qa, .int .i64 c]) ∧ OwnR w' w.heap.size 96 4 (.slice qo 4 qa) 4 (bksV (pxStepP p bs).2) ∧ Below w.heap.size w w' := by
  obtain ⟨hh, _, _, _, _, hn⟩ := px_parts hp
  refine (l05Step_any p ao 4 cap bs w (bksB_parts hb).1 rfl hh hn hr).mono ?_
  rintro e w' ⟨qo, qa, he, ho, hk⟩
  exact ⟨qo, qa, _, he, ho, hk⟩

set_option maxHeartbeats 3200000 in
theorem l06Elect_any (R : Ans) (ao bo : Option Addr) (ca cb : Nat) (ss : List ByteArray) (xs : List Wr) (h o g : Int) (w : World) (hR : elA ss xs h o g = R) (e0 : leC ss xs h = 0) (e1 : (inB o 0 3 && inB g 1 1000000) = true) (h1 : Ss w ao ss) (h2 : Ios w bo xs) :
    Calls Tryz.prog 41 #[.agg #[.slice ao ss.length ca, .slice bo xs.length cb], .int .i64 h, .int .i64 o, .int .i64 g] w fun e w' => Left w w' R e := by
  obtain ⟨ed, ⟨h0, h3⟩, el⟩ := leC_eq e0
  obtain ⟨L, hL⟩ : ∃ L, ldOf ss xs h = L := ⟨_, rfl⟩
  have hv : 0 ≤ L.ver ∧ L.ver ≤ 1000000 := by rw [← hL]; exact (ldB_lo (ld_right (readV ss xs h 0))).1
  have eo : (0 ≤ o ∧ o ≤ 3) ∧ 1 ≤ g ∧ g ≤ 1000000 := by simpa [inB] using e1
  have wr1 : IntKind.i64.wrap (L.ver + 1) = L.ver + 1 := by rw [IntKind.wrap_i64]; omega
  have wr2 : IntKind.i64.wrap (1024 * g) = 1024 * g := by rw [IntKind.wrap_i64]; omega
  have wr3 : IntKind.i64.wrap (1024 * g + o) = 1024 * g + o := by rw [IntKind.wrap_i64]; omega
  have wr4 : IntKind.i64.wrap (1 + h) = 1 + h := by rw [IntKind.wrap_i64]; omega
  have HBK := hide (bksOf_right ss xs h)
  have HMV : Hid (1000000 < L.ver + 1 → R = ⟨ss, xs, L, 6⟩) := hide (fun hq => by rw [← hR, ← hL]; exact elA_many e0 e1 (by rw [elMany, hL, decide_eq_true hq]; rfl))
  have HMB : Hid (1000000 < nxBal h (L.ver + 1) (bksOf ss xs h) → R = ⟨ss, xs, L, 6⟩) := hide (fun hq => by rw [← hR, ← hL]; rw [← hL] at hq; exact elA_many e0 e1 (by rw [elMany, decide_eq_true hq]; simp))
  have HGO : Hid (¬ 1000000 < L.ver + 1 → ¬ 1000000 < nxBal h (L.ver + 1) (bksOf ss xs h) → ElOK h (elFrom ss xs h o g) ∧ R = elLast h L (elEnd (elFrom ss xs h o g)) ∧ elTry ss xs h o g = ⟨h, L.ver + 1, 1, nxBal h (L.ver + 1) (bksOf ss xs h), 1024 * g + o, 0, 0, 0⟩) := hide (fun q1 q2 => by
    have em : elMany ss xs h = false := by rw [elMany, hL, decide_eq_false q1, decide_eq_false q2]; rfl
    refine ⟨elFrom_ok e0 e1 em, by rw [← hR, ← hL]; exact elA_end e0 e1 em, by rw [elTry, hL]⟩)
  have HED := hide ed
  have HEL := hide el
  have HK := hide hL
  have H1 := hide h1
  have H2 := hide h2
  have HN := hide (le_new w ao bo ca cb ss xs h1 h2)
  clear hL hR e0 e1 ed el h1 h2
  go_enter Tryz.func41, Tryz.ntmps41
  go_upto_region 1 with fail
  revert HN
  generalize (((w.alloc (.cells #[.slice ao ss.length ca, .slice bo xs.length cb] 26)).alloc (.cells #[.slice none 0 0, .slice none 0 0] 26)).alloc (.cells #[.int .i64 0, .int .i64 0, .int .i64 0] 30)) = W0
  intro HN
  obtain ⟨d0, d1⟩ := (unhide HN).2.1.cells
  go_wp2_with fail
  refine (l06Read_any _ _ _ _ ss xs h L _ (unhide HK) (unhide HED) ((unhide H1).below (unhide HN).1) ((unhide H2).below (unhide HN).1)).mono ?_
  rintro e w1 ⟨rfl, hb1⟩
  have HA1 := hide (fr hb1 (Joins.below_alloc1 w1 (.cells #[.int .i64 L.ver, .int .i64 L.own, .int .i64 L.gen] 30)))
  have HI : Hid (LeI w (w1.alloc (.cells #[.int .i64 L.ver, .int .i64 L.own, .int .i64 L.gen] 30)) w.heap.size (w.heap.size + 1) (w.heap.size + 1 + 1) w1.heap.size ss xs L ao ca bo cb) :=
    hide ⟨fr (unhide HN).1 (unhide HA1), (unhide HN).2.1.below (unhide HA1), (unhide HN).2.2.1.below (unhide HA1), (unhide HN).2.2.2.below (unhide HA1), VarT.new w1 _ _ _ _, .inl ⟨unhide H1, unhide H2⟩⟩
  have HAP : Hid (Apart w w.heap.size (w.heap.size + 1) (w.heap.size + 1 + 1) w1.heap.size) := hide (by
    have z := ((unhide HN).2.2.2.below hb1).lt
    exact ⟨Nat.le_refl _, by omega, by omega, by omega, by omega, by omega, by omega, by omega, by omega, by omega⟩)
  clear hb1 d0 d1 HA1
  go_upto_region 2 with fail
  revert HI HAP
  clear HN
  generalize w1.alloc (.cells #[.int .i64 L.ver, .int .i64 L.own, .int .i64 L.gen] 30) = W1
  generalize w1.heap.size = O
  generalize w.heap.size + 1 + 1 = B2
  generalize w.heap.size + 1 = B1
  intro HI HAP
  obtain ⟨d0, d1⟩ := (unhide HI).d.cells
  obtain ⟨t0, t1, t2⟩ := (unhide HI).o.cells
  have HRS := hide ((unhide HI).a.ss (unhide HI).below)
  go_wp2_with fail
  refine (l06Blocks_any _ _ _ _ ss xs h _ (unhide HED) (unhide HRS).1 (unhide HRS).2).mono ?_
  rintro e w2 ⟨ro, ra, rfl, hob, hb2⟩
  have HI2 := hide ((unhide HI).next hb2)
  have HOB := hide (hob.base (B' := w.heap.size) (unhide HI).below.size)
  clear hb2 hob d0 d1 t0 t1 t2 HRS
  have HBS : Hid (Bks w2 ro (bksOf ss xs h)) := hide (ownBks (B := w.heap.size) (e := 96) (cap := ra) (xs := bksOf ss xs h) (unhide HOB))
  have HMB4 := hide (bks_mbal (unhide HBK))
  go_wp2_with fail
  refine (l05Next_any h (L.ver + 1) ro 4 ra (bksOf ss xs h) _ rfl (by decide) ⟨h0, h3⟩ (unhide HMB4) (unhide HBS)).mono ?_
  rintro e w3 ⟨rfl, hb3⟩
  have HI3 := hide ((unhide HI2).next hb3)
  have HOB3 := hide ((unhide HOB).below hb3)
  clear hb3 HBS
  obtain ⟨n, HNX⟩ : ∃ n, Hid (nxBal h (L.ver + 1) (bksOf ss xs h) = n) := ⟨_, hide rfl⟩
  rw [unhide HNX]
  have HMB' : Hid (1000000 < n → R = ⟨ss, xs, L, 6⟩) := hide (fun hq => unhide HMB (by rw [unhide HNX]; exact hq))
  have n12 := (unhide HAP).n12
  have n12' := Ne.symm (unhide HAP).n12
  have n01 := (unhide HAP).n01
  have n01' := Ne.symm (unhide HAP).n01
  have n02 := (unhide HAP).n02
  have n02' := Ne.symm (unhide HAP).n02
  have n13 := (unhide HAP).n13
  have n13' := Ne.symm (unhide HAP).n13
  have n23 := (unhide HAP).n23
  have n23' := Ne.symm (unhide HAP).n23
  by_cases hmany : 1000000 < L.ver + 1 ∨ 1000000 < n
  · have HQ : Hid (R = ⟨ss, xs, L, 6⟩) := hide (hmany.elim (unhide HMV) (unhide HMB'))
    obtain ⟨d0, d1⟩ := (unhide HI3).d.cells
    obtain ⟨t0, t1, t2⟩ := (unhide HI3).o.cells
    obtain ⟨r0, r1⟩ := (unhide HI3).r.cells
    have r2 := (unhide HI3).r.free 0
    have r3 := (unhide HI3).r.free 1
    obtain ⟨u0, u1, u2⟩ := (unhide HI3).t.cells
    obtain ⟨u3, u4, u5⟩ := (unhide HI3).t.free
    have HF := hide (fun a b x y z => (unhide HI3).out (unhide HAP) a b x y z)
    by_cases q1 : 1000000 < L.ver + 1
    · clear hmany
      go_wp2
      go_region
      all_goals
        go_wp2
        refine bodyPost_ret (v := .tuple #[.agg #[.slice ao ss.length ca, .slice bo xs.length cb], lV L, .int .i64 6]) (by simp [results, Tryz.results41, go_sem, r0, r1, u0, u1, u2]) rfl ?_
        first
          | exact left_end (unhide HQ) (left_drew (unhide HF _ _ _ _ _).1)
          | exact left_end (unhide HQ) (left_drew (unhide HF _ _ _ _ _).2)
          | exact left_end (unhide HQ) (unhide HF _ _ _ _ _).1
          | exact left_end (unhide HQ) (unhide HF _ _ _ _ _).2
    · have q2 : 1000000 < n := by omega
      clear hmany
      go_wp2
      go_region
      all_goals
        go_wp2
        refine bodyPost_ret (v := .tuple #[.agg #[.slice ao ss.length ca, .slice bo xs.length cb], lV L, .int .i64 6]) (by simp [results, Tryz.results41, go_sem, r0, r1, u0, u1, u2]) rfl ?_
        first
          | exact left_end (unhide HQ) (left_drew (unhide HF _ _ _ _ _).1)
          | exact left_end (unhide HQ) (left_drew (unhide HF _ _ _ _ _).2)
          | exact left_end (unhide HQ) (unhide HF _ _ _ _ _).1
          | exact left_end (unhide HQ) (unhide HF _ _ _ _ _).2
  have q1 : ¬ 1000000 < L.ver + 1 := fun k => hmany (.inl k)
  have q2 : ¬ 1000000 < n := fun k => hmany (.inr k)
  clear hmany
  obtain ⟨k1, k2, k3⟩ := unhide HGO (by omega) (by rw [unhide HNX]; omega)
  obtain ⟨q, hq⟩ : ∃ q, elTry ss xs h o g = q := ⟨_, rfl⟩
  obtain ⟨E, hEE⟩ : ∃ E, elEnd (elFrom ss xs h o g) = E := ⟨_, rfl⟩
  rw [hEE] at k2
  have HLAST := hide k2
  have HPE : Hid ((⟨h, L.ver + 1, 1, n, 1024 * g + o, 0, 0, 0⟩ : Pxs) = q) := hide (by rw [← hq, k3, unhide HNX])
  have HFR : Hid (ElOK h ⟨ss, xs, q, bksOf ss xs h⟩ ∧ elEnd ⟨ss, xs, q, bksOf ss xs h⟩ = E) := hide (by rw [← hq]; exact ⟨k1, hEE⟩)
  have HA7 := hide (Joins.below_alloc1 w3 (.cells #[.int .i64 h, .int .i64 (L.ver + 1), .int .i64 1, .int .i64 n, .int .i64 (1024 * g + o), .int .i64 0, .int .i64 0, .int .i64 0] 63))
  have HLP : Hid (LpI w (w3.alloc (.cells #[.int .i64 h, .int .i64 (L.ver + 1), .int .i64 1, .int .i64 n, .int .i64 (1024 * g + o), .int .i64 0, .int .i64 0, .int .i64 0] 63)) w.heap.size B1 B2 O w3.heap.size ⟨ss, xs, q, bksOf ss xs h⟩ L ro ra ao ca bo cb) :=
    hide ⟨(unhide HI3).next (unhide HA7), by rw [← unhide HPE]; exact VarP.new w3 _ ⟨h, L.ver + 1, 1, n, 1024 * g + o, 0, 0, 0⟩, (unhide HOB3).below (unhide HA7)⟩
  have HNP : Hid (w.heap.size ≤ w3.heap.size ∧ w.heap.size ≠ w3.heap.size ∧ B1 ≠ w3.heap.size ∧ B2 ≠ w3.heap.size ∧ O ≠ w3.heap.size) := hide (by
    have z0 := (unhide HI3).d.lt
    have z1 := (unhide HI3).r.lt
    have z2 := (unhide HI3).t.lt
    have z3 := (unhide HI3).o.lt
    omega)
  clear k1 k2 k3 hq hEE HA7
  go_wp2
  clear q1 q2
  revert HLP HNP
  generalize w3.alloc (.cells #[.int .i64 h, .int .i64 (L.ver + 1), .int .i64 1, .int .i64 n, .int .i64 (1024 * g + o), .int .i64 0, .int .i64 0, .int .i64 0] 63) = W4
  generalize w3.heap.size = P
  intro HLP HNP
  go_loopg [13, 16, 17, 18] 14 (fun k bl _ _ _ wr => ∃ (s : Est) (bo : Option Addr) (ba : Nat) (ao : Option Addr) (ca : Nat) (qo : Option Addr) (cb : Nat), bl = .slice bo 4 ba ∧ Hid (LpI w wr w.heap.size B1 B2 O P s L bo ba ao ca qo cb) ∧ Hid (ElOK h s ∧ elEnd s = E) ∧ mOf s.p < k)
  case atStart => exact ⟨_, _, _, _, _, _, _, rfl, HLP, HFR, Nat.lt_succ_of_le (mOf_le (unhide HFR).1.p)⟩
  case round =>
    obtain ⟨s, bo', ba', ao', ca', qo', cb', rfl, HI, HOK, hmk⟩ := hrel
    obtain ⟨c0, c1, c2, c3, c4, c5, c6, c7⟩ := (unhide HI).p.cells
    by_cases h5 : s.p.phase < 5
    · have HLS := hide (step_less (bs := s.bs) (unhide HOK).1.p h5)
      have HOK2 := hide ((unhide HOK).1.step h5)
      have HON := hide ((elEnd_on (unhide HOK).1 h5).trans (unhide HOK).2)
      have HRT := hide (px_right (unhide HOK).1.p (unhide HOK).1.b)
      have HSP := hide (step_p s).1
      have HBS : Hid (Bks wr bo' s.bs) := hide (by
        have h4 := (bksB_parts (unhide HOK).1.b).1
        exact ownBks (B := w.heap.size) (e := 96) (cap := ba') (xs := s.bs) (by rw [h4]; exact (unhide HI).b))
      have HELS : Hid (elStep s = if wroteB s.p.phase (pxStepP s.p s.bs).1.phase = true then ⟨wS s.ss s.xs h (1 + h) (encB ((pxStepP s.p s.bs).2.getD h.toNat bk0)), wX s.xs h (1 + h) (encB ((pxStepP s.p s.bs).2.getD h.toNat bk0)), (pxStepP s.p s.bs).1, (pxStepP s.p s.bs).2⟩ else ⟨s.ss, s.xs, (pxStepP s.p s.bs).1, (pxStepP s.p s.bs).2⟩) := hide (by
        have e := (unhide HOK).1.o
        unfold elStep ownK
        rw [e])
      go_wp2_with fail
      refine (l05Step_el s.p bo' ba' s.bs _ (unhide HOK).1.p (unhide HOK).1.b (unhide HBS)).mono ?_
      rintro e wA ⟨so, sa, cc, rfl, hoA, hbA⟩
      obtain ⟨x, HX⟩ : ∃ x, Hid ((pxStepP s.p s.bs).1 = x) := ⟨_, hide rfl⟩
      obtain ⟨cs, HCS⟩ : ∃ cs, Hid ((pxStepP s.p s.bs).2 = cs) := ⟨_, hide rfl⟩
      rw [unhide HCS] at hoA
      rw [unhide HX]
      rw [unhide HX] at HELS HRT HSP HLS
      rw [unhide HCS] at HELS HRT
      have HA5 := hide (fr hbA (Joins.below_alloc1 wA (.cells #[.int .i64 x.host, .int .i64 x.ver, .int .i64 x.phase, .int .i64 x.ballot, .int .i64 x.value, .int .i64 x.next, .int .i64 x.best, .int .i64 x.bestBal] 63)))
      have HI5 := hide ((unhide HI).next (unhide HA5))
      have HV5 := hide (VarP.new wA 63 x)
      have HO5 := hide ((hoA.base (B' := w.heap.size) (unhide HI).l.below.size).below (Joins.below_alloc1 wA (.cells #[.int .i64 x.host, .int .i64 x.ver, .int .i64 x.phase, .int .i64 x.ballot, .int .i64 x.value, .int .i64 x.next, .int .i64 x.best, .int .i64 x.bestBal] 63)))
      have HNC : Hid (P ≠ wA.heap.size ∧ w.heap.size ≠ wA.heap.size) := hide (by
        have z0 := (unhide HI).p.lt
        have z1 := (unhide HI).l.d.lt
        have z2 := hbA.size
        omega)
      clear hoA hbA c0 c1 c2 c3 c4 c5 c6 c7 HBS
      go_upto_region 10 with fail
      clear h5
      revert HI5 HV5 HO5 HNC
      clear HA5
      generalize wA.alloc (.cells #[.int .i64 x.host, .int .i64 x.ver, .int .i64 x.phase, .int .i64 x.ballot, .int .i64 x.value, .int .i64 x.next, .int .i64 x.best, .int .i64 x.bestBal] 63) = W5
      generalize wA.heap.size = C
      intro HI5 HV5 HO5 HNC
      go_cut [76] from 49 to 91 (fun c wx => ∃ b : Bool, c = .bool b ∧ Hid (b = wroteB s.p.phase x.phase) ∧ wx = W5)
      case first =>
        obtain ⟨a0, a1, a2, a3, a4, a5, a6, a7⟩ := (unhide HV5).cells
        obtain ⟨c0, c1, c2, c3, c4, c5, c6, c7⟩ := (unhide HI5).p.cells
        clear a0 a1 a3 a4 a5 a6 a7 c0 c1 c3 c4 c5 c6 c7
        have HWB := hide (wrote_beq s.p.phase x.phase)
        cases g1 : (x.phase == 2) <;> cases g2 : (s.p.phase == 1) <;> cases g3 : (x.phase == 4) <;> cases g4 : (s.p.phase == 3)
        all_goals
          rw [g1, g2, g3, g4] at HWB
          go_wp2_with fail
          go_meet
          exact ⟨_, rfl, hide (by rw [unhide HWB]; rfl), rfl⟩
      case rest =>
        obtain ⟨b9, rfl, HB9, hw⟩ := hcut
        replace hw := hw.symm
        subst hw
        by_cases hwr : wroteB s.p.phase x.phase = true
        · obtain rfl : b9 = true := by rw [unhide HB9, hwr]
          rw [if_pos hwr] at HELS
          clear HB9 hwr
          obtain ⟨K, hK⟩ : ∃ K : Nat, h = K := ⟨h.toNat, by omega⟩
          subst hK
          have hk4 : K < 4 := by omega
          have hk5 : (K : Int) < 4 := by omega
          have hk6 : (0 : Int) ≤ (K : Int) := by omega
          have h4 : cs.length = 4 := (bksB_parts (unhide HRT).2).1
          obtain ⟨y, HYE⟩ : ∃ y, Hid (cs.getD K bk0 = y) := ⟨_, hide rfl⟩
          have HYR : Hid (bkB y = true) := hide (by rw [← unhide HYE]; exact (bksB_parts (unhide HRT).2).2 K (by omega))
          rw [show ((K : Int)).toNat = K by omega, unhide HYE] at HELS
          obtain ⟨t, HTE⟩ : ∃ t, Hid (encB y = t) := ⟨_, hide rfl⟩
          rw [unhide HTE] at HELS
          have HTS : Hid (t.size ≤ 80) := hide (by rw [← unhide HTE]; first | (rw [encB_size]; decide) | (rw [encL_size]; decide))
          have HP : Hid (diskB s.ss (s.xs ++ [⟨(K : Int), 1 + (K : Int), t⟩]) = true) := hide (diskB_snoc (unhide HOK).1.d (unhide HOK).1.l (w_io h0 h3 (by omega) (by omega) (unhide HTS)))
          have HXL : Hid (s.xs.length ≤ 1048576) := hide (by have := (unhide HOK).1.l; omega)
          have HRGT := hide (w_right (t := t) (unhide HOK).1.d (unhide HOK).1.l h0 h3 (show 0 ≤ 1 + (K : Int) by omega) (show 1 + (K : Int) ≤ 63 by omega) (unhide HTS))
          have HNL := hide (wS_len s.ss s.xs (K : Int) (1 + (K : Int)) t)
          obtain ⟨S, HSS⟩ : ∃ S, Hid (wS s.ss s.xs (K : Int) (1 + (K : Int)) t = S) := ⟨_, hide rfl⟩
          obtain ⟨Y, HXX⟩ : ∃ Y, Hid (wX s.xs (K : Int) (1 + (K : Int)) t = Y) := ⟨_, hide rfl⟩
          rw [unhide HSS] at HRGT HNL
          rw [unhide HXX] at HRGT
          rw [unhide HSS, unhide HXX] at HELS
          have HEQ := HELS
          have HRS := hide ((unhide HI5).l.a.ss (unhide HI5).l.below)
          obtain ⟨b, off, rfl, hbl, g0, g1, g2, g3⟩ := (ownBks (B := w.heap.size) (e := 96) (cap := sa) (xs := cs) (by rw [h4]; exact unhide HO5)).get K (by omega)
          rw [unhide HYE] at g0 g1 g2 g3
          obtain ⟨d0, d1⟩ := (unhide HI5).l.d.cells
          have HENC : Hid (∀ W, Calls Tryz.prog 68 #[bV y] W fun e w' => e = .returned (.string t) ∧ Below W.heap.size W w') := hide (fun W => by have k9 := l05Encode_bk y W (unhide HYR); rw [unhide HTE] at k9; exact k9)
          have HFL : Hid (∀ (gg cap B : Nat) (W : World), Below W5.heap.size W5 W → W.ownsRow B 75 3 (.slice (some ⟨gg, 0, none⟩) (s.xs.length + 1) cap) (s.xs.length + 1) (ioV (s.xs ++ [⟨(K : Int), 1 + (K : Int), t⟩])) → Calls Tryz.prog 52 #[.agg #[.slice ao' s.ss.length ca', .slice (some ⟨gg, 0, none⟩) (s.xs.length + 1) cap], .int .i64 (K : Int)] W fun e w' => ∃ po pa qo qa, e = .returned (.agg #[.slice po S.length pa, .slice qo Y.length qa]) ∧ OwnD w' W.heap.size po S.length pa qo Y.length qa S Y ∧ Below W.heap.size W w') := hide (fun gg cap B W hW hO => by
            refine (l01Flush_sure ao' ca' gg cap B s.ss s.xs (K : Int) (1 + (K : Int)) t S Y W (unhide HSS) (unhide HXX) (unhide HP) ((unhide HRS).1.below hW) hO).mono ?_
            rintro e w' ⟨po, pa, qo, qa, he, ho, hb⟩
            exact ⟨po, pa, qo, qa, by rw [he, unhide HNL], by rw [unhide HNL]; exact ho, hb⟩)
          have HWR := hide (fun (W : World) (hW : Below W5.heap.size W5 W) => l01Write_hd ao' qo' s.ss.length ca' cb' s.xs (K : Int) (1 + (K : Int)) t W (unhide HXL) ((unhide HRS).2.below hW))
          have hdl : w.heap.size < W5.heap.size := (unhide HI5).l.d.lt
          go_wp2_with fail
          go_cut [17] from 49 to 91 (fun c wx => c = .slice (some ⟨b, off, none⟩) 4 sa ∧ ∃ po pa ro ra, Hid (LpI w wx w.heap.size B1 B2 O P ⟨S, Y, s.p, s.bs⟩ L bo' ba' po pa ro ra) ∧ Hid (VarP wx C 63 x) ∧ Hid (OwnR wx w.heap.size 96 4 (.slice (some ⟨b, off, none⟩) 4 sa) 4 (bksV cs)))
          case first =>
            go_region_with
              (first
                | (go_at_call 68; refine (unhide HENC _).mono ?_; rintro e wF ⟨rfl, hbF⟩; have HBF := hide (fr (Below.refl _ W5).drew hbF); clear hbF; have a0 := ((unhide HBF).cell (p := ⟨w.heap.size, 0, none⟩) hdl).trans d0; have a1 := ((unhide HBF).cell (p := ⟨w.heap.size, 1, none⟩) hdl).trans d1; have a2 := ((unhide HBF).cell (p := ⟨b, off + K * 4, none⟩) hbl).trans g0; have a3 := ((unhide HBF).cell (p := ⟨b, off + K * 4 + 1, none⟩) hbl).trans g1; have a4 := ((unhide HBF).cell (p := ⟨b, off + K * 4 + 2, none⟩) hbl).trans g2; have a5 := ((unhide HBF).cell (p := ⟨b, off + K * 4 + 3, none⟩) hbl).trans g3)
                | (go_at_call 53; refine (unhide HWR _ (unhide HBF)).mono ?_; rintro e wG ⟨gg, cap, rfl, hoG, hbG⟩; have HOG := hide hoG; have HBG := hide (fr (unhide HBF) hbG); clear hoG hbG; have a6 := ((unhide HBG).cell (p := ⟨w.heap.size, 0, none⟩) hdl).trans d0; have a7 := ((unhide HBG).cell (p := ⟨w.heap.size, 1, none⟩) hdl).trans d1; have a8 := ((unhide HBG).cell (p := ⟨b, off + K * 4, none⟩) hbl).trans g0; have a9 := ((unhide HBG).cell (p := ⟨b, off + K * 4 + 1, none⟩) hbl).trans g1; have aa := ((unhide HBG).cell (p := ⟨b, off + K * 4 + 2, none⟩) hbl).trans g2; have ab := ((unhide HBG).cell (p := ⟨b, off + K * 4 + 3, none⟩) hbl).trans g3)
                | (go_at_call 52; refine (unhide HFL gg cap _ _ (unhide HBG) (unhide HOG)).mono ?_; rintro e wH ⟨po, pa, ro2, ra2, rfl, hoH, hbH⟩; have HOH := hide (hoH.base (B' := w.heap.size) (Nat.le_trans (unhide HI5).l.below.size (unhide HBG).size)); have HBH := hide (fr (unhide HBG) hbH); clear hoH hbH; have b0 := ((unhide HBH).cell (p := ⟨w.heap.size, 0, none⟩) hdl).trans d0; have b1 := ((unhide HBH).cell (p := ⟨w.heap.size, 1, none⟩) hdl).trans d1; have b2 := ((unhide HBH).cell (p := ⟨b, off + K * 4, none⟩) hbl).trans g0; have b3 := ((unhide HBH).cell (p := ⟨b, off + K * 4 + 1, none⟩) hbl).trans g1; have b4 := ((unhide HBH).cell (p := ⟨b, off + K * 4 + 2, none⟩) hbl).trans g2; have b5 := ((unhide HBH).cell (p := ⟨b, off + K * 4 + 3, none⟩) hbl).trans g3; have b6 := ((unhide HI5).l.d.below (unhide HBH)).free 0; have b7 := ((unhide HI5).l.d.below (unhide HBH)).free 1))
            all_goals
              have HIW := hide (LpI.write (unhide HI5) (unhide HAP) (unhide HNP).2.1 (unhide HBH) (unhide HOH) (unhide HRGT))
              have hk9 := keep2 wH w.heap.size (.slice po S.length pa) (.slice ro2 Y.length ra2)
              have HVC := hide (((unhide HV5).below (unhide HBH)).keep hk9 (Ne.symm (unhide HNC).2))
              have ho9 := (unhide HO5).below (unhide HBH)
              have HOC := hide (ho9.keep hk9 (fun g hg e => by have e' : g = w.heap.size := e; subst e'; exact ho9.other ((unhide HI5).l.d.below (unhide HBH)) (by decide) hg))
              clear hk9 ho9
              go_wp2_with fail
              go_meet
              exact ⟨rfl, po, pa, ro2, ra2, HIW, HVC, HOC⟩
          case rest =>
            obtain ⟨rfl, po, pa, ro2, ra2, HIW, HVC, HOC⟩ := hcut
            have m1 := (unhide HNC).1
            have m1' := Ne.symm (unhide HNC).1
            clear d0 d1 g0 g1 g2 g3 hbl hdl
            obtain ⟨e0, e1, e2, e3, e4, e5, e6, e7⟩ := (unhide HVC).cells
            obtain ⟨c0, c1, c2, c3, c4, c5, c6, c7⟩ := (unhide HIW).p.cells
            obtain ⟨f0, f1, f2, f3, f4, f5, f6, f7⟩ := (unhide HIW).p.free
            have HI9 := hide (LpI.put (unhide HIW) x (unhide HOC) (unhide HNP).1 (unhide HNP).2.1 (unhide HNP).2.2.1 (unhide HNP).2.2.2.1 (unhide HNP).2.2.2.2)
            go_wp2
            go_roundg (gk - 1)
            case measure => have := unhide HLS; omega
            case rel => exact ⟨elStep s, _, _, _, _, _, _, rfl, by rw [unhide HEQ]; exact HI9, hide ⟨unhide HOK2, unhide HON⟩, by have h9 := unhide HLS; rw [unhide HSP]; omega⟩
        · obtain rfl : b9 = false := by rw [unhide HB9]; exact Bool.eq_false_iff.2 hwr
          rw [if_neg hwr] at HELS
          have HEQ := HELS
          have HIW := HI5
          have HVC := HV5
          have HOC := HO5
          have m1 := (unhide HNC).1
          have m1' := Ne.symm (unhide HNC).1
          clear HB9 hwr
          obtain ⟨e0, e1, e2, e3, e4, e5, e6, e7⟩ := (unhide HVC).cells
          obtain ⟨c0, c1, c2, c3, c4, c5, c6, c7⟩ := (unhide HIW).p.cells
          obtain ⟨f0, f1, f2, f3, f4, f5, f6, f7⟩ := (unhide HIW).p.free
          have HI9 := hide (LpI.put (unhide HIW) x (unhide HOC) (unhide HNP).1 (unhide HNP).2.1 (unhide HNP).2.2.1 (unhide HNP).2.2.2.1 (unhide HNP).2.2.2.2)
          go_wp2
          go_roundg (gk - 1)
          case measure => have := unhide HLS; omega
          case rel => exact ⟨elStep s, _, _, _, _, _, _, rfl, by rw [unhide HEQ]; exact HI9, hide ⟨unhide HOK2, unhide HON⟩, by have h9 := unhide HLS; rw [unhide HSP]; omega⟩
    · have HES : Hid (E = s) := hide ((unhide HOK).2.symm.trans (elEnd_at h5))
      have HPH := hide (px_parts (unhide HOK).1.p)
      have HI6 := hide (unhide HI).l
      clear hmk
      obtain ⟨t0, t1, t2⟩ := (unhide HI6).o.cells
      by_cases p6 : s.p.phase = 6
      · have b6 : (s.p.phase == 6) = true := by simp [p6]
        have HQ : Hid (R = ⟨s.ss, s.xs, L, 19⟩) := hide (by rw [unhide HLAST, unhide HES, elLast, if_neg (fun hq => by have := hq.1; omega)])
        clear p6
        obtain ⟨d0, d1⟩ := (unhide HI6).d.cells
        obtain ⟨r0, r1⟩ := (unhide HI6).r.cells
        have r2 := (unhide HI6).r.free 0
        have r3 := (unhide HI6).r.free 1
        obtain ⟨u0, u1, u2⟩ := (unhide HI6).t.cells
        obtain ⟨u3, u4, u5⟩ := (unhide HI6).t.free
        have HF := hide (fun a b x y z => (unhide HI6).out (unhide HAP) a b x y z)
        go_wp2
        go_region
        all_goals
          go_wp2
          refine bodyPost_ret (v := .tuple #[.agg #[.slice ao' s.ss.length ca', .slice qo' s.xs.length cb'], lV L, .int .i64 19]) (by simp [results, Tryz.results41, go_sem, r0, r1, u0, u1, u2]) rfl ?_
          first
            | exact left_end (unhide HQ) (left_drew (unhide HF _ _ _ _ _).1)
            | exact left_end (unhide HQ) (left_drew (unhide HF _ _ _ _ _).2)
            | exact left_end (unhide HQ) (unhide HF _ _ _ _ _).1
            | exact left_end (unhide HQ) (unhide HF _ _ _ _ _).2
      have b6 : (s.p.phase == 6) = false := by simp [p6]
      have HP5 : Hid (s.p.phase = 5) := hide (by have := (unhide HPH).2.2.1; omega)
      have hvl := (unhide HPH).2.2.2.2.1
      have z1 : Int.tmod s.p.value 1024 = s.p.value % 1024 := Int.tmod_eq_emod_of_nonneg hvl.1
      have z2 : Int.tdiv s.p.value 1024 = s.p.value / 1024 := Int.tdiv_eq_ediv_of_nonneg hvl.1
      have z3 : IntKind.i64.wrap (s.p.value % 1024) = s.p.value % 1024 := by rw [IntKind.wrap_i64]; omega
      have z4 : IntKind.i64.wrap (s.p.value / 1024) = s.p.value / 1024 := by rw [IntKind.wrap_i64]; omega
      have HA8 := hide (Joins.below_alloc1 wr (.cells #[.int .i64 (L.ver + 1), .int .i64 (s.p.value % 1024), .int .i64 (s.p.value / 1024)] 30))
      have HI8 := hide ((unhide HI6).next (unhide HA8))
      have HV8 : Hid (VarT (wr.alloc (.cells #[.int .i64 (L.ver + 1), .int .i64 (s.p.value % 1024), .int .i64 (s.p.value / 1024)] 30)) wr.heap.size 30 (L.ver + 1) (s.p.value % 1024) (s.p.value / 1024)) := hide (VarT.new wr _ _ _ _)
      have HNM : Hid (w.heap.size ≠ wr.heap.size ∧ B1 ≠ wr.heap.size ∧ B2 ≠ wr.heap.size) := hide (by
        have y0 := (unhide HI6).d.lt
        have y1 := (unhide HI6).r.lt
        have y2 := (unhide HI6).t.lt
        omega)
      clear p6 hvl t0 t1 t2
      go_upto_region 17 with fail
      clear h5 c0 c1 c2 c3 c4 c5 c6 c7 z1 z2 z3 z4
      revert HI8 HV8 HNM
      clear HA8
      generalize wr.alloc (.cells #[.int .i64 (L.ver + 1), .int .i64 (s.p.value % 1024), .int .i64 (s.p.value / 1024)] 30) = W8
      generalize wr.heap.size = N
      intro HI8 HV8 HNM
      obtain ⟨M, HM⟩ : ∃ M, Hid (leadOf (L.ver + 1) s.p.value = M) := ⟨_, hide rfl⟩
      have HVM : Hid (VarT W8 N 30 M.ver M.own M.gen) := hide (by rw [← unhide HM]; exact unhide HV8)
      obtain ⟨v0, v1, v2⟩ := (unhide HVM).cells
      clear HV8
      go_wp2_with fail
      refine (leaderOK_spec M _).mono ?_
      rintro e wB ⟨rfl, hbB⟩
      have HI9 := hide ((unhide HI8).next hbB)
      have HVN := hide ((unhide HVM).below hbB)
      clear hbB v0 v1 v2
      obtain ⟨bl, HBL⟩ : ∃ bl, Hid (ldB M = bl) := ⟨_, hide rfl⟩
      rw [unhide HBL]
      obtain ⟨t0, t1, t2⟩ := (unhide HI9).o.cells
      cases bl with
      | false =>
        have HQ : Hid (R = ⟨s.ss, s.xs, L, 19⟩) := hide (by rw [unhide HLAST, unhide HES, elLast, unhide HM, if_neg (fun hq => by have := hq.2; rw [unhide HBL] at this; cases this)])
        obtain ⟨d0, d1⟩ := (unhide HI9).d.cells
        obtain ⟨r0, r1⟩ := (unhide HI9).r.cells
        have r2 := (unhide HI9).r.free 0
        have r3 := (unhide HI9).r.free 1
        obtain ⟨u0, u1, u2⟩ := (unhide HI9).t.cells
        obtain ⟨u3, u4, u5⟩ := (unhide HI9).t.free
        have HF := hide (fun a b x y z => (unhide HI9).out (unhide HAP) a b x y z)
        go_wp2
        go_region
        all_goals
          go_wp2
          refine bodyPost_ret (v := .tuple #[.agg #[.slice ao' s.ss.length ca', .slice qo' s.xs.length cb'], lV L, .int .i64 19]) (by simp [results, Tryz.results41, go_sem, r0, r1, u0, u1, u2]) rfl ?_
          first
            | exact left_end (unhide HQ) (left_drew (unhide HF _ _ _ _ _).1)
            | exact left_end (unhide HQ) (left_drew (unhide HF _ _ _ _ _).2)
            | exact left_end (unhide HQ) (unhide HF _ _ _ _ _).1
            | exact left_end (unhide HQ) (unhide HF _ _ _ _ _).2
      | true =>
        obtain ⟨t, HTE⟩ : ∃ t, Hid (encL M = t) := ⟨_, hide rfl⟩
        have HTS : Hid (t.size ≤ 80) := hide (by rw [← unhide HTE]; first | (rw [encB_size]; decide) | (rw [encL_size]; decide))
        have HP : Hid (diskB s.ss (s.xs ++ [⟨h, (0 : Int), t⟩]) = true) := hide (diskB_snoc (unhide HOK).1.d (unhide HOK).1.l (w_io h0 h3 (by omega) (by omega) (unhide HTS)))
        have HXL : Hid (s.xs.length ≤ 1048576) := hide (by have := (unhide HOK).1.l; omega)
        have HRGT := hide (w_right (t := t) (unhide HOK).1.d (unhide HOK).1.l h0 h3 (show 0 ≤ (0 : Int) by omega) (show (0 : Int) ≤ 63 by omega) (unhide HTS))
        have HNL := hide (wS_len s.ss s.xs h ((0 : Int)) t)
        obtain ⟨S, HSS⟩ : ∃ S, Hid (wS s.ss s.xs h ((0 : Int)) t = S) := ⟨_, hide rfl⟩
        obtain ⟨Y, HXX⟩ : ∃ Y, Hid (wX s.xs h ((0 : Int)) t = Y) := ⟨_, hide rfl⟩
        rw [unhide HSS] at HRGT HNL
        rw [unhide HXX] at HRGT
        have HQ : Hid (R = ⟨S, Y, M, 0⟩) := hide (by rw [unhide HLAST, unhide HES, elLast, unhide HM, if_pos ⟨unhide HP5, unhide HBL⟩, unhide HTE, unhide HSS, unhide HXX])
        have HRS := hide ((unhide HI9).a.ss (unhide HI9).below)
        have HENC : Hid (∀ W, Calls Tryz.prog 54 #[lV M] W fun e w' => e = .returned (.string t) ∧ Below W.heap.size W w') := hide (fun W => by have k9 := l06Encode_ld M W (unhide HBL); rw [unhide HTE] at k9; exact k9)
        have HFL : Hid (∀ (gg cap B : Nat) (W : World), Below wB.heap.size wB W → W.ownsRow B 75 3 (.slice (some ⟨gg, 0, none⟩) (s.xs.length + 1) cap) (s.xs.length + 1) (ioV (s.xs ++ [⟨h, 0, t⟩])) → Calls Tryz.prog 52 #[.agg #[.slice ao' s.ss.length ca', .slice (some ⟨gg, 0, none⟩) (s.xs.length + 1) cap], .int .i64 h] W fun e w' => ∃ po pa qo qa, e = .returned (.agg #[.slice po S.length pa, .slice qo Y.length qa]) ∧ OwnD w' W.heap.size po S.length pa qo Y.length qa S Y ∧ Below W.heap.size W w') := hide (fun gg cap B W hW hO => by
          refine (l01Flush_sure ao' ca' gg cap B s.ss s.xs h 0 t S Y W (unhide HSS) (unhide HXX) (unhide HP) ((unhide HRS).1.below hW) hO).mono ?_
          rintro e w' ⟨po, pa, qo, qa, he, ho, hb⟩
          exact ⟨po, pa, qo, qa, by rw [he, unhide HNL], by rw [unhide HNL]; exact ho, hb⟩)
        have HWR := hide (fun (W : World) (hW : Below wB.heap.size wB W) => l01Write_hd ao' qo' s.ss.length ca' cb' s.xs h 0 t W (unhide HXL) ((unhide HRS).2.below hW))
        obtain ⟨d0, d1⟩ := (unhide HI9).d.cells
        obtain ⟨v0, v1, v2⟩ := (unhide HVN).cells
        have hdl : w.heap.size < wB.heap.size := (unhide HI9).d.lt
        have hnl : N < wB.heap.size := (unhide HVN).lt
        have x1 := (unhide HNM).1
        have x1' := Ne.symm (unhide HNM).1
        have x2 := (unhide HNM).2.1
        have x2' := Ne.symm (unhide HNM).2.1
        have x3 := (unhide HNM).2.2
        have x3' := Ne.symm (unhide HNM).2.2
        clear t0 t1 t2
        go_wp2_with fail
        go_cut [19] from 110 to 117 (fun c wx => c = .pointer (some ⟨N, 0, none⟩) ∧ ∃ po pa ro ra, Hid (LeI w wx w.heap.size B1 B2 O S Y L po pa ro ra) ∧ Hid (VarT wx N 30 M.ver M.own M.gen))
        case first =>
          go_region_with
            (first
              | (go_at_call 54; refine (unhide HENC _).mono ?_; rintro e wF ⟨rfl, hbF⟩; have HBF := hide (fr (Below.refl _ wB).drew hbF); clear hbF; have a0 := ((unhide HBF).cell (p := ⟨w.heap.size, 0, none⟩) hdl).trans d0; have a1 := ((unhide HBF).cell (p := ⟨w.heap.size, 1, none⟩) hdl).trans d1; obtain ⟨a2, a3, a4⟩ := ((unhide HVN).below (unhide HBF)).cells)
              | (go_at_call 53; refine (unhide HWR _ (unhide HBF)).mono ?_; rintro e wG ⟨gg, cap, rfl, hoG, hbG⟩; have HOG := hide hoG; have HBG := hide (fr (unhide HBF) hbG); clear hoG hbG; have a6 := ((unhide HBG).cell (p := ⟨w.heap.size, 0, none⟩) hdl).trans d0; have a7 := ((unhide HBG).cell (p := ⟨w.heap.size, 1, none⟩) hdl).trans d1; obtain ⟨a8, a9, aa⟩ := ((unhide HVN).below (unhide HBG)).cells)
              | (go_at_call 52; refine (unhide HFL gg cap _ _ (unhide HBG) (unhide HOG)).mono ?_; rintro e wH ⟨po, pa, ro2, ra2, rfl, hoH, hbH⟩; have HOH := hide (hoH.base (B' := w.heap.size) (Nat.le_trans (unhide HI9).below.size (unhide HBG).size)); have HBH := hide (fr (unhide HBG) hbH); clear hoH hbH; have b0 := ((unhide HBH).cell (p := ⟨w.heap.size, 0, none⟩) hdl).trans d0; have b1 := ((unhide HBH).cell (p := ⟨w.heap.size, 1, none⟩) hdl).trans d1; obtain ⟨b2, b3, b4⟩ := ((unhide HVN).below (unhide HBH)).cells; have b6 := ((unhide HI9).d.below (unhide HBH)).free 0; have b7 := ((unhide HI9).d.below (unhide HBH)).free 1))
          all_goals
            have HIW := hide (LeI.write (unhide HI9) (unhide HAP) (unhide HBH) (unhide HOH) (unhide HRGT))
            have HVC := hide (((unhide HVN).below (unhide HBH)).keep (keep2 wH w.heap.size (.slice po S.length pa) (.slice ro2 Y.length ra2)) (Ne.symm (unhide HNM).1))
            go_wp2_with fail
            go_meet
            exact ⟨rfl, po, pa, ro2, ra2, HIW, HVC⟩
        case rest =>
          obtain ⟨rfl, ao', ca', qo', cb', HIW, HVC⟩ := hcut
          clear d0 d1 v0 v1 v2 hdl hnl
          obtain ⟨v0, v1, v2⟩ := (unhide HVC).cells
          obtain ⟨d0, d1⟩ := (unhide HIW).d.cells
          obtain ⟨r0, r1⟩ := (unhide HIW).r.cells
          have r2 := (unhide HIW).r.free 0
          have r3 := (unhide HIW).r.free 1
          obtain ⟨u0, u1, u2⟩ := (unhide HIW).t.cells
          obtain ⟨u3, u4, u5⟩ := (unhide HIW).t.free
          have HF := hide (fun a b x y z => (unhide HIW).out (unhide HAP) a b x y z)
          go_wp2
          go_region
          all_goals
            go_wp2
            refine bodyPost_ret (v := .tuple #[.agg #[.slice ao' S.length ca', .slice qo' Y.length cb'], lV M, .int .i64 0]) (by simp [results, Tryz.results41, go_sem, r0, r1, u0, u1, u2]) rfl ?_
            first
              | exact left_end (unhide HQ) (left_drew (unhide HF _ _ _ _ _).1)
              | exact left_end (unhide HQ) (left_drew (unhide HF _ _ _ _ _).2)
              | exact left_end (unhide HQ) (unhide HF _ _ _ _ _).1
              | exact left_end (unhide HQ) (unhide HF _ _ _ _ _).2

end Go.Proofs.YtefnapcegeojoaaGreatDoor

namespace Go.Proofs.YtefnapcegeojoaaGreatDoor
open Go.RowKit
set_option linter.unusedVariables false
set_option maxRecDepth 100000

def AnsOK (R : Ans) : Prop := (R.ss = [] ∧ R.xs = []) ∨ diskB R.ss R.xs = true
theorem elA_ok (ss : List ByteArray) (xs : List Wr) (h o g : Int) : AnsOK (elA ss xs h o g) := by
  by_cases e : leC ss xs h = 0
  · cases e1 : (inB o 0 3 && inB g 1 1000000) with
    | false => rw [elA_range e e1]; exact .inl ⟨rfl, rfl⟩
    | true =>
      obtain ⟨ed, ⟨h0, h3⟩, el⟩ := leC_eq e
      cases e2 : elMany ss xs h with
      | true => rw [elA_many e e1 e2]; exact .inr ed
      | false =>
        rw [elA_end e e1 e2]
        have k := elRun_ok 13 _ (elFrom_ok e e1 e2)
        have k' : ElOK h (elEnd (elFrom ss xs h o g)) := k
        unfold elLast
        split
        · exact .inr (w_right k'.d k'.l h0 h3 (by decide) (by decide) (by rw [encL_size]; decide))
        · exact .inr k'.d
  · rw [elA_room e]; exact .inl ⟨rfl, rfl⟩
theorem AnsOK.sizes {R : Ans} (h : AnsOK R) : ((∀ s ∈ R.ss, s.size ≤ maxLen) ∧ ∀ x ∈ R.xs, x.data.size ≤ maxLen) ∧ R.ss.length ≤ 2097152 ∧ R.xs.length ≤ 2097152 := by
  rcases h with ⟨h1, h2⟩ | h
  · rw [h1, h2]
    exact ⟨⟨fun s hs => absurd hs (by simp), fun s hs => absurd hs (by simp)⟩, by simp, by simp⟩
  · have := diskB_len h
    exact ⟨⟨rightS h, rightX h⟩, by omega, by omega⟩

set_option maxHeartbeats 1600000 in
theorem elect_spec (R : Ans) (ao bo : Option Addr) (ca cb : Nat) (ss : List ByteArray) (xs : List Wr) (h o g : Int) (w : World) (hR : elA ss xs h o g = R) (hl : ss.length ≤ maxLen) (hm : xs.length ≤ maxLen) (h1 : Ss w ao ss) (h2 : Ios w bo xs) :
    Calls Tryz.prog 11 #[.agg #[.slice ao ss.length ca, .slice bo xs.length cb], .int .i64 h, .int .i64 o, .int .i64 g] w fun e w' => Told w w' R e := by
  have HT := hide (tl_new3 w ao bo ca cb ss.length xs.length)
  have HL := hide hl
  have HM := hide hm
  have H1 := hide h1
  have H2 := hide h2
  have HRR := hide hR
  clear h1 h2 hl hm hR
  go_enter Tryz.func11, Tryz.ntmps11
  go_upto_region 1 with fail
  revert HT
  generalize (((w.alloc (.cells #[.slice ao ss.length ca, .slice bo xs.length cb] 26)).alloc (.cells #[.slice none 0 0, .slice none 0 0] 26)).alloc (.cells #[.int .i64 0, .int .i64 0, .int .i64 0] 30)) = W0
  intro HT
  have HO : Hid (w.heap.size ≤ w.heap.size + 1 ∧ w.heap.size ≤ w.heap.size + 1 + 1 ∧ w.heap.size + 1 ≠ w.heap.size + 1 + 1) := hide (by omega)
  generalize w.heap.size + 1 + 1 = B2 at *
  generalize w.heap.size + 1 = B1 at *
  have x3 : B1 ≠ B2 := (unhide HO).2.2
  have x3' : B2 ≠ B1 := Ne.symm (unhide HO).2.2
  obtain ⟨d0, d1⟩ := (unhide HT).d.cells
  go_wp2_with fail
  refine (l06Ask_any _ _ _ _ ss xs h _ (unhide HL) (unhide HM) ((unhide H1).below (unhide HT).below) ((unhide H2).below (unhide HT).below)).mono ?_
  rintro e w1 ⟨rfl, hb1⟩
  have HT1 := hide ((unhide HT).next hb1)
  clear hb1 d0 d1
  obtain ⟨c, HC⟩ : ∃ c, Hid (leC ss xs h = c) := ⟨_, hide rfl⟩
  rw [unhide HC]
  by_cases hc : c = 0
  · have hb : (c != 0) = false := by simp [hc]
    have HC0 : Hid (leC ss xs h = 0) := hide ((unhide HC).trans hc)
    clear hc
    have HZ : Hid ((inB o 0 3 && inB g 1 1000000) = false → R = ⟨[], [], ld0, 4⟩) := hide (fun hx => by rw [← unhide HRR]; exact elA_range (unhide HC0) hx)
    obtain ⟨b1, HB1⟩ : ∃ b, Hid (inB o 0 3 = b) := ⟨_, hide rfl⟩
    obtain ⟨b2, HB2⟩ : ∃ b, Hid (inB g 1 1000000 = b) := ⟨_, hide rfl⟩
    go_wp2_with fail
    refine (l04Host_any o _).mono ?_
    rintro e w2 ⟨rfl, hw⟩
    replace hw := hw.symm
    subst hw
    rw [unhide HB1]
    obtain ⟨r0, r1⟩ := (unhide HT1).r.cells
    have r2 := (unhide HT1).r.free 0
    have r3 := (unhide HT1).r.free 1
    obtain ⟨t0, t1, t2⟩ := (unhide HT1).t.cells
    obtain ⟨t3, t4, t5⟩ := (unhide HT1).t.free
    have HF := hide (fun a b x y z => below5 (unhide HT1).below (unhide HO).1 (unhide HO).2.1 a b x y z)
    cases b1 with
    | false =>
      have HQ := hide (unhide HZ (by rw [unhide HB1]; rfl))
      go_wp2
      exact bodyPost_ret (v := .tuple #[.agg #[.slice none 0 0, .slice none 0 0], lV ld0, .int .i64 4]) (by simp [results, Tryz.results11, go_sem, r0, r1, t0, t1, t2, ld0]) rfl (told_zero (unhide HQ) (unhide HF _ _ _ _ _))
    | true =>
      go_wp2_with fail
      refine (l01In_num g 1 1000000 _).mono ?_
      rintro e w2 ⟨rfl, hw⟩
      replace hw := hw.symm
      subst hw
      rw [unhide HB2]
      cases b2 with
      | false =>
        have HQ := hide (unhide HZ (by rw [unhide HB1, unhide HB2]; rfl))
        go_wp2
        exact bodyPost_ret (v := .tuple #[.agg #[.slice none 0 0, .slice none 0 0], lV ld0, .int .i64 4]) (by simp [results, Tryz.results11, go_sem, r0, r1, t0, t1, t2, ld0]) rfl (told_zero (unhide HQ) (unhide HF _ _ _ _ _))
      | true =>
        have HCE := hide (fun W (hW : Below w.heap.size w W) => l06Elect_any R ao bo ca cb ss xs h o g W (unhide HRR) (unhide HC0) (by rw [unhide HB1, unhide HB2]; rfl) ((unhide H1).below hW) ((unhide H2).below hW))
        have HSZ : Hid (R.ss.length ≤ 1048576 ∧ R.xs.length ≤ 1048576) := hide (by
          have k9 := elA_ok ss xs h o g
          rw [unhide HRR] at k9
          rcases k9 with ⟨a, b⟩ | k9
          · rw [a, b]; simp
          · have := diskB_len k9; omega)
        obtain ⟨d0, d1⟩ := (unhide HT1).d.cells
        clear r0 r1 r2 r3 t0 t1 t2 t3 t4 t5
        go_wp2_with fail
        refine (unhide HCE _ (unhide HT1).below).mono ?_
        rintro e w3 ⟨po, pa, qo, qa, rfl, hs3, hi3, hb3⟩
        have HA3 := hide (Joins.below_alloc2 w3 (.cells #[.slice po R.ss.length pa, .slice qo R.xs.length qa] 26) (.cells #[.int .i64 R.l.ver, .int .i64 R.l.own, .int .i64 R.l.gen] 30))
        have HT3 := hide (((unhide HT1).next hb3).next (unhide HA3))
        have HS3 := hide (And.intro (hs3.below (unhide HA3)) (hi3.below (unhide HA3)))
        have HV3 := hide ((VarD.new w3 (.slice po R.ss.length pa) (.slice qo R.xs.length qa)).below (Joins.below_alloc1 _ (.cells #[.int .i64 R.l.ver, .int .i64 R.l.own, .int .i64 R.l.gen] 30)))
        have HU3 := hide (varL_new w3 (.cells #[.slice po R.ss.length pa, .slice qo R.xs.length qa] 26) R.l.ver R.l.own R.l.gen)
        have HNN : Hid (B1 < w3.heap.size ∧ B2 < w3.heap.size) := hide ⟨((unhide HT1).next hb3).r.lt, ((unhide HT1).next hb3).t.lt⟩
        clear hs3 hi3 hb3 d0 d1 HA3
        go_wp2_with fail
        revert HT3 HS3 HV3 HU3 HNN
        generalize (w3.alloc (.cells #[.slice po R.ss.length pa, .slice qo R.xs.length qa] 26)).alloc (.cells #[.int .i64 R.l.ver, .int .i64 R.l.own, .int .i64 R.l.gen] 30) = W4
        intro HT3 HS3 HV3 HU3 HNN
        have y1 : B1 ≠ w3.heap.size := by have := unhide HNN; omega
        have y2 : B2 ≠ w3.heap.size := by have := unhide HNN; omega
        have y3 : B1 ≠ w3.heap.size + 1 := by have := unhide HNN; omega
        have y4 : B2 ≠ w3.heap.size + 1 := by have := unhide HNN; omega
        generalize w3.heap.size + 1 = C2 at *
        generalize w3.heap.size = C1 at *
        have y1' := y1.symm
        have y2' := y2.symm
        have y3' := y3.symm
        have y4' := y4.symm
        obtain ⟨d0, d1⟩ := (unhide HV3).cells
        obtain ⟨v0, v1, v2⟩ := (unhide HU3).cells
        have HOW := hide (fun W (hW : Below W4.heap.size W4 W) => l01Own_any po qo pa qa R.ss R.xs W (unhide HSZ).1 (unhide HSZ).2 ((unhide HS3).1.below hW) ((unhide HS3).2.below hW))
        go_region_held3 (fun w' => w'.cell? ⟨C1, 0, none⟩ = some (.slice po R.ss.length pa) ∧ w'.cell? ⟨C1, 1, none⟩ = some (.slice qo R.xs.length qa) ∧ w'.cell? ⟨C2, 0, none⟩ = some (.int .i64 R.l.ver) ∧ w'.cell? ⟨C2, 1, none⟩ = some (.int .i64 R.l.own) ∧ w'.cell? ⟨C2, 2, none⟩ = some (.int .i64 R.l.gen)) (go_keep)
          ((go_at_call 31; refine (unhide HOW _ (Below.refl _ W4).drew).mono ?_; rintro e wA ⟨po2, pa2, qo2, qa2, rfl, hoA, hbA⟩; have HBA := hide (fr (Below.refl _ W4).drew hbA); have HOA := hide (hoA.base (B' := w.heap.size) (unhide HT3).below.size); have HTA := hide ((unhide HT3).next (unhide HBA)); clear hoA hbA; obtain ⟨a0, a1⟩ := ((unhide HV3).below (unhide HBA)).cells; obtain ⟨a2, a3, a4⟩ := ((unhide HU3).below (unhide HBA)).cells; obtain ⟨r0, r1⟩ := (unhide HTA).r.cells; have r2 := (unhide HTA).r.free 0; have r3 := (unhide HTA).r.free 1; obtain ⟨u0, u1, u2⟩ := (unhide HTA).t.cells; obtain ⟨u3, u4, u5⟩ := (unhide HTA).t.free))
        all_goals
          have HFF := hide (fun a b x y z => (unhide HTA).out (unhide HOA) (unhide HO).1 (unhide HO).2.1 a b x y z)
          have HF2 := hide (fun a b x y z => (unhide HTA).out2 (unhide HOA) (unhide HO).1 (unhide HO).2.1 a b x y z)
          go_wp2
          refine bodyPost_ret (v := .tuple #[.agg #[.slice po2 R.ss.length pa2, .slice qo2 R.xs.length qa2], lV R.l, .int .i64 R.c]) (by simp [results, Tryz.results11, go_sem, r0, r1, u0, u1, u2]) rfl ?_
          first
            | exact told_end (s := ⟨R.ss, R.xs, p00, []⟩) rfl (unhide HFF _ _ _ _ _).1 (unhide HFF _ _ _ _ _).2
            | exact told_end (s := ⟨R.ss, R.xs, p00, []⟩) rfl (unhide HF2 _ _ _ _ _).1 (unhide HF2 _ _ _ _ _).2
            | exact told_end (s := ⟨R.ss, R.xs, p00, []⟩) rfl ((unhide HFF _ _ _ _ _).1.below (Below.refl _ _).drew) (unhide HFF _ _ _ _ _).2.drew
  · have hb : (c != 0) = true := by simp [hc]
    have HQ : Hid (R = ⟨[], [], ld0, c⟩) := hide (by rw [← unhide HRR, ← unhide HC]; exact elA_room (by rw [unhide HC]; exact hc))
    clear hc
    obtain ⟨r0, r1⟩ := (unhide HT1).r.cells
    have r2 := (unhide HT1).r.free 0
    have r3 := (unhide HT1).r.free 1
    obtain ⟨t0, t1, t2⟩ := (unhide HT1).t.cells
    obtain ⟨t3, t4, t5⟩ := (unhide HT1).t.free
    have HF := hide (fun a b x y z => below5 (unhide HT1).below (unhide HO).1 (unhide HO).2.1 a b x y z)
    go_wp2
    exact bodyPost_ret (v := .tuple #[.agg #[.slice none 0 0, .slice none 0 0], lV ld0, .int .i64 c]) (by simp [results, Tryz.results11, go_sem, r0, r1, t0, t1, t2, ld0]) rfl (told_zero (unhide HQ) (unhide HF _ _ _ _ _))

end Go.Proofs.YtefnapcegeojoaaGreatDoor

namespace Go.Proofs.YtefnapcegeojoaaGreatDoor
open Go.RowKit
set_option linter.unusedVariables false
set_option maxRecDepth 100000

set_option maxHeartbeats 1600000 in
theorem eqLeader_same (x : Ld) (w : World) : Calls Tryz.prog 23 #[lV x, lV x] w fun e w' => e = .returned (.bool true) ∧ Below w.heap.size w w' := by
  go_enter Tryz.func23, Tryz.ntmps23
  go_wp2
  go_ret
  exact ⟨rfl, Joins.below_alloc2 _ _ _⟩

end Go.Proofs.YtefnapcegeojoaaGreatDoor

namespace Go.Proofs.YtefnapcegeojoaaGreatDoor
open Go.RowKit
set_option linter.unusedVariables false

theorem electS {RS : List ByteArray} {RX : List Wr} {RH RG RT RC : Int} (ao bo : Option Addr) (ca cb : Nat) (ss : List ByteArray) (xs : List Wr) (h o g : Int) (W : World) (e : elA ss xs h o g = ⟨RS, RX, ⟨RH, RG, RT⟩, RC⟩) (hl : ss.length ≤ maxLen) (hm : xs.length ≤ maxLen) (h1 : Ss W ao ss) (h2 : Ios W bo xs) :
    Calls Tryz.prog 11 #[.agg #[.slice ao ss.length ca, .slice bo xs.length cb], .int .i64 h, .int .i64 o, .int .i64 g] W fun e w' => ∃ po pa qo qa, e = .returned (.tuple #[.agg #[.slice po RS.length pa, .slice qo RX.length qa], dltV RH RG RT, .int .i64 RC]) ∧ OwnD w' W.heap.size po RS.length pa qo RX.length qa RS RX ∧ Below W.heap.size W w' :=
  elect_spec _ ao bo ca cb ss xs h o g W e hl hm h1 h2
theorem electI {RS : List ByteArray} {RX : List Wr} {RH RG RT RC : Int} (ao bo : Option Addr) (ca cb : Nat) (ss : List ByteArray) (xs : List Wr) (h o g : Int) (W : World) (e : elA ss xs h o g = ⟨RS, RX, ⟨RH, RG, RT⟩, RC⟩) (hl : ss.length ≤ maxLen) (hm : xs.length ≤ maxLen) (h1 : Ss W ao ss) (h2 : Ios W bo xs) (hE : ErrW W) :
    Calls Tryz.prog 10 #[.agg #[.slice ao ss.length ca, .slice bo xs.length cb], .int .i64 h, .int .i64 o, .int .i64 g] W fun e w' => ∃ po pa qo qa, e = .returned (.tuple #[.agg #[.slice po RS.length pa, .slice qo RX.length qa], dltV RH RG RT, .int .i64 RC]) ∧ OwnD w' W.heap.size po RS.length pa qo RX.length qa RS RX ∧ Below W.heap.size W w' :=
  elect_impl _ ao bo ca cb ss xs h o g W e hl hm h1 h2 hE
theorem eqL_same (a b c : Int) (w : World) : Calls Tryz.prog 23 #[dltV a b c, dltV a b c] w fun e w' => e = .returned (.bool true) ∧ Below w.heap.size w w' := eqLeader_same ⟨a, b, c⟩ w
theorem eqSameE (ao bo co do_ : Option Addr) (ca cb cc cd : Nat) (ss : List ByteArray) (xs : List Wr) (w : World) (hl : ss.length ≤ maxLen) (hm : xs.length ≤ maxLen) (h1 : Ss w ao ss) (h2 : Ios w bo xs) (h3 : Ss w co ss) (h4 : Ios w do_ xs) :
    Calls Tryz.prog 22 #[.agg #[.slice ao ss.length ca, .slice bo xs.length cb], .agg #[.slice co ss.length cc, .slice do_ xs.length cd]] w fun e w' => e = .returned (.bool true) ∧ Below w.heap.size w w' := by
  have h := eqDisk_any ao bo co do_ ca cb cc cd ss ss xs xs w hl hm h1 h2 h3 h4
  rw [eqB_self] at h
  exact h

set_option maxRecDepth 100000 in
set_option maxHeartbeats 3200000 in
theorem lawElect (ao bo : Option Addr) (ca cb : Nat) (ss : List ByteArray) (xs : List Wr) (h o g : Int) (w : World) (hl : ss.length ≤ maxLen) (hm : xs.length ≤ maxLen) (hc : Ss w ao ss) (hd : Ios w bo xs) (hE : ErrW w) :
    Calls Tryz.prog 5 #[.agg #[.slice ao ss.length ca, .slice bo xs.length cb], .int .i64 h, .int .i64 o, .int .i64 g] w fun e w' => e = .returned (.bool true) ∧ Below w.heap.size w w' := by
  have HA := hide (Joins.below_alloc1 w (.cells #[.slice ao ss.length ca, .slice bo xs.length cb] 47))
  have HC := hide (hc.below (unhide HA))
  have HD := hide (hd.below (unhide HA))
  have HL := hide hl
  have HM := hide hm
  have HER := hide hE
  clear hc hd hl hm hE
  have hcell : ∀ w', Below (w.alloc (.cells #[.slice ao ss.length ca, .slice bo xs.length cb] 47)).heap.size (w.alloc (.cells #[.slice ao ss.length ca, .slice bo xs.length cb] 47)) w' → w'.cell? ⟨w.heap.size, 0, none⟩ = some (.slice ao ss.length ca) ∧ w'.cell? ⟨w.heap.size, 1, none⟩ = some (.slice bo xs.length cb) :=
    fun w' h => ⟨(h.cell (by simp)).trans (by simp [go_sem]), (h.cell (by simp)).trans (by simp [go_sem])⟩
  have HCELL := hide hcell
  clear hcell
  go_enter Tryz.func5, Tryz.ntmps5
  go_wp2_with fail
  refine (szDisk_any ao bo ca cb ss xs 1048576 _ (unhide HL) (unhide HM) (unhide HC) (unhide HD) (by omega) (by omega)).mono ?_
  rintro e w1 ⟨r, rfl, hr0, hr1, hr2, hb1⟩
  have HB1 := hide hb1
  clear hb1
  by_cases hr : r < 0
  · go_wp2
    go_ret
    exact ⟨rfl, fr (unhide HA) (unhide HB1)⟩
  have hq := hr2 (by omega)
  have hls : ss.length ≤ 1048576 := by omega
  have hlx : xs.length ≤ 1048576 := by omega
  clear hr2 hq
  have HZS := hide (unhide HC).sizes
  have HZX := hide (unhide HD).sizes
  obtain ⟨RS, RX, RH, RG, RT, RC, HE⟩ : ∃ RS RX RH RG RT RC, Hid (elA ss xs h o g = ⟨RS, RX, ⟨RH, RG, RT⟩, RC⟩) := ⟨_, _, _, _, _, _, hide rfl⟩
  have HSZ : Hid (((∀ s ∈ RS, s.size ≤ maxLen) ∧ ∀ x ∈ RX, x.data.size ≤ maxLen) ∧ RS.length ≤ 2097152 ∧ RX.length ≤ 2097152) := hide (by
    have k9 := (elA_ok ss xs h o g).sizes
    rw [unhide HE] at k9
    exact k9)
  have HRS := hide (unhide HSZ).1.1
  have HRX := hide (unhide HSZ).1.2
  have HQS := hide (unhide HSZ).2.1
  have HQX := hide (unhide HSZ).2.2
  have HI' := hide (fun (ao bo : Option Addr) (ca cb : Nat) (W : World) (hb : Below w.heap.size w W) h1 h2 => electI ao bo ca cb ss xs h o g W (unhide HE) (unhide HL) (unhide HM) h1 h2 ((unhide HER).below hb))
  have HMS : Hid (RS.length ≤ maxLen) := hide (Nat.le_trans (unhide HQS) (by decide))
  have HMX : Hid (RX.length ≤ maxLen) := hide (Nat.le_trans (unhide HQX) (by decide))
  obtain ⟨hc0, hc1⟩ := unhide HCELL _ (unhide HB1)
  -- a copy, and the model's answer, in a variable
  go_wp2_with fail
  refine (toDisk_any ao bo ca cb ss xs _ hls hlx ((unhide HC).below (unhide HB1)) ((unhide HD).below (unhide HB1))).mono ?_
  rintro e w2 ⟨g2, k2, rfl, ho, hp, hb2⟩
  have HS2 := hide (ownS ho (unhide HZS))
  have HX2 := hide (ownI hp (unhide HZX))
  have HB2 := hide (fr (unhide HB1) hb2)
  clear ho hp hb2 hc0 hc1
  go_wp2_with fail
  refine (electS _ _ _ _ ss xs h o g _ (unhide HE) (unhide HL) (unhide HM) (unhide HS2) (unhide HX2)).mono ?_
  rintro e w3 ⟨p3, pa3, q3, qa3, rfl, ho3, hb3⟩
  have HA3 := hide (Joins.below_alloc2 w3 (.cells #[.slice p3 RS.length pa3, .slice q3 RX.length qa3] 26) (.cells #[.int .i64 RH, .int .i64 RG, .int .i64 RT] 30))
  have HW := hide (ho3.below (unhide HA3))
  have HV := hide ((VarD.new w3 (.slice p3 RS.length pa3) (.slice q3 RX.length qa3)).below (Joins.below_alloc1 _ (.cells #[.int .i64 RH, .int .i64 RG, .int .i64 RT] 30)))
  have HT : Hid (VarT ((w3.alloc (.cells #[.slice p3 RS.length pa3, .slice q3 RX.length qa3] 26)).alloc (.cells #[.int .i64 RH, .int .i64 RG, .int .i64 RT] 30)) (w3.heap.size + 1) 30 RH RG RT) := hide (by have := VarT.new (w3.alloc (.cells #[.slice p3 RS.length pa3, .slice q3 RX.length qa3] 26)) 30 RH RG RT; simp only [World.size_alloc] at this; exact this)
  have HB3 := hide (fr (fr (unhide HB2) hb3) (unhide HA3))
  have HB3' := hide (fr (unhide HB2) hb3)
  clear ho3 hb3
  obtain ⟨hc0, hc1⟩ := unhide HCELL _ (unhide HB3')
  have hlt3 : w.heap.size < w3.heap.size := World.block_lt_of_cell? _ _ hc0
  -- the copy that the program gets, in a variable
  go_wp2_with fail
  refine (toDisk_any ao bo ca cb ss xs _ hls hlx ((unhide HC).below (unhide HB3)) ((unhide HD).below (unhide HB3))).mono ?_
  rintro e w4 ⟨g4, k4, rfl, ho, hp, hb4⟩
  have HA4 := hide (Joins.below_alloc1 w4 (.cells #[.slice (some ⟨g4, 0, none⟩) ss.length ss.length, .slice (some ⟨k4, 0, none⟩) xs.length xs.length] 26))
  have HO4 : Hid (OwnD (w4.alloc (.cells #[.slice (some ⟨g4, 0, none⟩) ss.length ss.length, .slice (some ⟨k4, 0, none⟩) xs.length xs.length] 26)) ((w3.alloc (.cells #[.slice p3 RS.length pa3, .slice q3 RX.length qa3] 26)).alloc (.cells #[.int .i64 RH, .int .i64 RG, .int .i64 RT] 30)).heap.size (some ⟨g4, 0, none⟩) ss.length ss.length (some ⟨k4, 0, none⟩) xs.length xs.length ss xs) := hide (OwnD.below ⟨OwnR.of ho (fun e => ⟨_, by rw [e]⟩), OwnR.of hp (fun e => ⟨_, by rw [e]⟩)⟩ (unhide HA4))
  have HX4 := hide (VarD.new w4 (.slice (some ⟨g4, 0, none⟩) ss.length ss.length) (.slice (some ⟨k4, 0, none⟩) xs.length xs.length))
  have HD4 := hide (fr hb4 (unhide HA4))
  have HB4 := hide (fr (unhide HB3) (unhide HD4))
  clear ho hp hb4 hc0 hc1
  go_wp2_with fail
  refine (unhide HI' _ _ _ _ _ (fr (unhide HA) (unhide HB4)) ((unhide HO4).ss (unhide HZS)) ((unhide HO4).ios (unhide HZX))).mono ?_
  rintro e w5 ⟨p5, pa5, q5, qa5, rfl, ho5, hb5⟩
  have HA5 := hide (Joins.below_alloc2 w5 (.cells #[.slice p5 RS.length pa5, .slice q5 RX.length qa5] 26) (.cells #[.int .i64 RH, .int .i64 RG, .int .i64 RT] 30))
  have HG := hide (ho5.below (unhide HA5))
  have HY := hide ((VarD.new w5 (.slice p5 RS.length pa5) (.slice q5 RX.length qa5)).below (Joins.below_alloc1 _ (.cells #[.int .i64 RH, .int .i64 RG, .int .i64 RT] 30)))
  have HU : Hid (VarT ((w5.alloc (.cells #[.slice p5 RS.length pa5, .slice q5 RX.length qa5] 26)).alloc (.cells #[.int .i64 RH, .int .i64 RG, .int .i64 RT] 30)) (w5.heap.size + 1) 30 RH RG RT) := hide (by have := VarT.new (w5.alloc (.cells #[.slice p5 RS.length pa5, .slice q5 RX.length qa5] 26)) 30 RH RG RT; simp only [World.size_alloc] at this; exact this)
  have HO5 := hide (((unhide HO4).below hb5).below (unhide HA5))
  have HX5 := hide (((unhide HX4).below hb5).below (unhide HA5))
  have HD5 := hide (fr (fr (unhide HD4) hb5) (unhide HA5))
  have HB5 := hide (fr (fr (unhide HB4) hb5) (unhide HA5))
  have HW5 := hide ((unhide HW).below (unhide HD5))
  have hlt5 : w3.heap.size < w5.heap.size := ((unhide HV).below (fr (unhide HD4) hb5)).lt
  obtain ⟨hv0, hv1⟩ := ((unhide HV).below (fr (unhide HD4) hb5)).cells
  clear ho5 hb5
  -- both answers are alike
  go_wp2_with fail
  refine (eqSameE _ _ _ _ _ _ _ _ RS RX _ (unhide HMS) (unhide HMX) ((unhide HG).ss (unhide HRS)) ((unhide HG).ios (unhide HRX)) ((unhide HW5).ss (unhide HRS)) ((unhide HW5).ios (unhide HRX))).mono ?_
  rintro e w6a ⟨rfl, hb6a⟩
  obtain ⟨u0, u1, u2⟩ := ((unhide HU).below hb6a).cells
  obtain ⟨k0, k1, k2⟩ := ((unhide HT).below (fr (unhide HD5) hb6a)).cells
  clear hv0 hv1
  go_wp2_with fail
  refine (eqL_same _ _ _ _).mono ?_
  rintro e w6 ⟨rfl, hb6b⟩
  have hb6 := fr hb6a hb6b
  clear hb6a hb6b u0 u1 u2 k0 k1 k2
  have HU6 := hide ((unhide HU).below hb6)
  have HG6 := hide ((unhide HG).below hb6)
  have HY6 := hide ((unhide HY).below hb6)
  have HO6 := hide ((unhide HO5).below hb6)
  have HX6 := hide ((unhide HX5).below hb6)
  have HD6 := hide (fr (unhide HD5) hb6)
  have HB6 := hide (fr (unhide HB5) hb6)
  clear hb6
  obtain ⟨hc0, hc1⟩ := unhide HCELL _ (unhide HB6)
  obtain ⟨hx0, hx1⟩ := (unhide HX6).cells
  have hlt4 : w4.heap.size < w6.heap.size := (unhide HX6).lt
  have HCT := hide ((unhide HC).below (unhide HB6).drew)
  have HDT := hide ((unhide HD).below (unhide HB6).drew)
  have HST := hide (((unhide HO6).ss (unhide HZS)).below (Below.refl _ _).drew)
  have HXT := hide (((unhide HO6).ios (unhide HZX)).below (Below.refl _ _).drew)
  go_wp2
  go_region_with (first | (go_at_call 21; refine (toDisk_any ao bo ca cb ss xs _ hls hlx (unhide HCT) (unhide HDT)).mono ?_; rintro e w7 ⟨g7, k7, rfl, ho7, hp7, hb7⟩; have hy0 := (hb7.cell (p := ⟨w4.heap.size, 0, none⟩) hlt4).trans hx0; have hy1 := (hb7.cell (p := ⟨w4.heap.size, 1, none⟩) hlt4).trans hx1) | (go_at_call 22; refine (eqSameE _ _ _ _ _ _ _ _ ss xs _ (unhide HL) (unhide HM) (by exact (unhide HST).below hb7) (by exact (unhide HXT).below hb7) (by exact ownS ho7 (unhide HZS)) (by exact ownI hp7 (unhide HZX))).mono ?_; rintro e w8 ⟨rfl, hb8⟩))
  all_goals
    have H68 : Hid (Below w6.heap.size w6 w8) := hide (fr (a := w6) (b := w7) (Below.trans (Below.refl _ _).drew hb7) hb8)
    have HG8 := hide ((unhide HG6).below (unhide H68))
    have HY8 := hide ((unhide HY6).below (unhide H68))
    have HU8 := hide ((unhide HU6).below (unhide H68))
    have HO8 := hide ((unhide HO6).below (unhide H68))
    have HX8 := hide ((unhide HX6).below (unhide H68))
    have HD8 := hide (fr (unhide HD6) (unhide H68))
    have HB8 := hide (fr (unhide HB6) (unhide H68))
    clear hb7 hb8 ho7 hp7 hc0 hc1 hx0 hx1 hlt4
    obtain ⟨hx0, hx1⟩ := (unhide HX8).cells
    go_wp2_with fail
    refine (markDisk_one _ _ _ _ _ _ _ _ _ _ (by omega) (by omega) (unhide HO8)).mono ?_
    rintro e w9 ⟨rfl, ho9, hk9⟩
    have HG9 := hide ((unhide HG8).keep hk9 (fun j hj hx => Nat.lt_irrefl _ (Nat.lt_of_lt_of_le ((unhide HO4).ge j hx).2 ((unhide HG8).ge j hj).1)))
    have HY9 := hide ((unhide HY8).keep hk9 ((unhide HO8).other (unhide HY8) (by decide) (by decide)))
    have HU9 := hide ((unhide HU8).keep hk9 ((unhide HO8).other (unhide HU8) (by decide) (by decide)))
    have HD9 := hide ((unhide HD8).trans (hk9.below (B := ((w3.alloc (.cells #[.slice p3 RS.length pa3, .slice q3 RX.length qa3] 26)).alloc (.cells #[.int .i64 RH, .int .i64 RG, .int .i64 RT] 30)).heap.size) (unhide HD8).size (fun j hj => ((unhide HO8).ge j hj).1)))
    have HB9 := hide ((unhide HB8).trans (hk9.below (B := (w.alloc (.cells #[.slice ao ss.length ca, .slice bo xs.length cb] 47)).heap.size) (unhide HB8).size (fun j hj => Nat.le_trans (unhide HB3).size ((unhide HO8).ge j hj).1)))
    clear ho9 hk9 hx0 hx1
    have HW9 := hide ((unhide HW).below (unhide HD9))
    obtain ⟨hy0', hy1'⟩ := (unhide HY9).cells
    obtain ⟨hv0, hv1⟩ := ((unhide HV).below (unhide HD9)).cells
    go_wp2_with fail
    refine (eqSameE _ _ _ _ _ _ _ _ RS RX _ (unhide HMS) (unhide HMX) ((unhide HG9).ss (unhide HRS)) ((unhide HG9).ios (unhide HRX)) ((unhide HW9).ss (unhide HRS)) ((unhide HW9).ios (unhide HRX))).mono ?_
    rintro e w10a ⟨rfl, hb10a⟩
    obtain ⟨u0, u1, u2⟩ := ((unhide HU9).below hb10a).cells
    obtain ⟨k0, k1, k2⟩ := ((unhide HT).below (fr (unhide HD9) hb10a)).cells
    clear hy0' hy1' hv0 hv1
    go_wp2_with fail
    refine (eqL_same _ _ _ _).mono ?_
    rintro e w10 ⟨rfl, hb10b⟩
    have hb10 := fr hb10a hb10b
    clear hb10a hb10b u0 u1 u2 k0 k1 k2
    have HG10 := hide ((unhide HG9).below hb10)
    have HY10 := hide ((unhide HY9).below hb10)
    have HD10 := hide (fr (unhide HD9) hb10)
    have HB10 := hide (fr (unhide HB9) hb10)
    clear hb10
    obtain ⟨hy0', hy1'⟩ := (unhide HY10).cells
    go_wp2_with fail
    refine (markDisk_one _ _ _ _ _ _ _ _ _ _ (unhide HQS) (unhide HQX) (unhide HG10)).mono ?_
    rintro e w11 ⟨rfl, ho11, hk11⟩
    have HG11 := hide ho11
    have HY11 := hide ((unhide HY10).keep hk11 ((unhide HG10).other (unhide HY10) (by decide) (by decide)))
    have HD11 := hide ((unhide HD10).trans (hk11.below (B := ((w3.alloc (.cells #[.slice p3 RS.length pa3, .slice q3 RX.length qa3] 26)).alloc (.cells #[.int .i64 RH, .int .i64 RG, .int .i64 RT] 30)).heap.size) (unhide HD10).size (fun j hj => Nat.le_trans (unhide HD4).size ((unhide HG10).ge j hj).1)))
    have HB11 := hide ((unhide HB10).trans (hk11.below (B := (w.alloc (.cells #[.slice ao ss.length ca, .slice bo xs.length cb] 47)).heap.size) (unhide HB10).size (fun j hj => Nat.le_trans (unhide HB4).size ((unhide HG10).ge j hj).1)))
    clear ho11 hk11 hy0' hy1'
    obtain ⟨hy0', hy1'⟩ := (unhide HY11).cells
    go_wp2_with fail
    refine (heldDisk_one _ _ _ _ _ _ _ _ (unhide HQS) (unhide HQX) (unhide HG11)).mono ?_
    rintro e w12 ⟨rfl, hb12⟩
    have HG12 := hide ((unhide HG11).below hb12)
    have HY12 := hide ((unhide HY11).below hb12)
    have HD12 := hide (fr (unhide HD11) hb12)
    have HB12 := hide (fr (unhide HB11) hb12)
    clear hb12 hy0' hy1'
    obtain ⟨hc0, hc1⟩ := unhide HCELL _ (unhide HB12)
    go_wp2_with fail
    refine (toDisk_any ao bo ca cb ss xs _ hls hlx ((unhide HC).below (unhide HB12)) ((unhide HD).below (unhide HB12))).mono ?_
    rintro e w13 ⟨g13, k13, rfl, ho, hp, hb13⟩
    have HS13 := hide (ownS ho (unhide HZS))
    have HX13 := hide (ownI hp (unhide HZX))
    have HG13 := hide ((unhide HG12).below hb13)
    have HY13 := hide ((unhide HY12).below hb13)
    have HD13 := hide (fr (unhide HD12) hb13)
    have HB13 := hide (fr (unhide HB12) hb13)
    clear ho hp hb13 hc0 hc1
    go_wp2_with fail
    refine (unhide HI' _ _ _ _ _ (fr (unhide HA) (unhide HB13)) (unhide HS13) (unhide HX13)).mono ?_
    rintro e w14 ⟨p14, pa14, q14, qa14, rfl, ho14, hb14⟩
    have HA14 := hide (Joins.below_alloc2 w14 (.cells #[.slice p14 RS.length pa14, .slice q14 RX.length qa14] 26) (.cells #[.int .i64 RH, .int .i64 RG, .int .i64 RT] 30))
    have HM14 : Hid (VarT ((w14.alloc (.cells #[.slice p14 RS.length pa14, .slice q14 RX.length qa14] 26)).alloc (.cells #[.int .i64 RH, .int .i64 RG, .int .i64 RT] 30)) (w14.heap.size + 1) 30 RH RG RT) := hide (by have := VarT.new (w14.alloc (.cells #[.slice p14 RS.length pa14, .slice q14 RX.length qa14] 26)) 30 RH RG RT; simp only [World.size_alloc] at this; exact this)
    have HN14 := hide (ho14.below (unhide HA14))
    have HF14 := hide (fr hb14 (unhide HA14))
    have HG14 := hide ((unhide HG13).below (unhide HF14))
    have HY14 := hide ((unhide HY13).below (unhide HF14))
    have HD14 := hide (fr (unhide HD13) (unhide HF14))
    have HB14 := hide (fr (unhide HB13) (unhide HF14))
    have HW14 := hide ((unhide HW).below (unhide HD14))
    have hlt14 : w3.heap.size < w14.heap.size := ((unhide HV).below (fr (unhide HD13) hb14)).lt
    obtain ⟨hv0, hv1⟩ := ((unhide HV).below (fr (unhide HD13) hb14)).cells
    clear ho14 hb14
    go_wp2_with fail
    refine (eqSameE _ _ _ _ _ _ _ _ RS RX _ (unhide HMS) (unhide HMX) ((unhide HN14).ss (unhide HRS)) ((unhide HN14).ios (unhide HRX)) ((unhide HW14).ss (unhide HRS)) ((unhide HW14).ios (unhide HRX))).mono ?_
    rintro e w15a ⟨rfl, hb15a⟩
    obtain ⟨u0, u1, u2⟩ := ((unhide HM14).below hb15a).cells
    obtain ⟨k0, k1, k2⟩ := ((unhide HT).below (fr (unhide HD14) hb15a)).cells
    clear hv0 hv1
    go_wp2_with fail
    refine (eqL_same _ _ _ _).mono ?_
    rintro e w15 ⟨rfl, hb15b⟩
    have hb15 := fr hb15a hb15b
    clear hb15a hb15b u0 u1 u2 k0 k1 k2
    have HG15 := hide ((unhide HG14).below hb15)
    have HY15 := hide ((unhide HY14).below hb15)
    have HB15 := hide (fr (unhide HB14) hb15)
    clear hb15
    obtain ⟨hy0', hy1'⟩ := (unhide HY15).cells
    go_wp2_with fail
    refine (heldDisk_one _ _ _ _ _ _ _ _ (unhide HQS) (unhide HQX) (unhide HG15)).mono ?_
    rintro e w16 ⟨rfl, hb16⟩
    have HB16 := hide (fr (unhide HA) (fr (unhide HB15) hb16))
    clear hb16
    go_wp2
    go_ret
    exact ⟨rfl, unhide HB16⟩

end Go.Proofs.YtefnapcegeojoaaGreatDoor
