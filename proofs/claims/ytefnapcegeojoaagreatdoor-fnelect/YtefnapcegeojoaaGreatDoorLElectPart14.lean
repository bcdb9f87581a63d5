import Derived.Test.YtefnapcegeojoaaGreatDoorRows
import Derived.Test.YtefnapcegeojoaaGreatDoorLElectPart1
import Derived.Test.YtefnapcegeojoaaGreatDoorLElectPart2
import Derived.Test.YtefnapcegeojoaaGreatDoorLElectPart4
import Derived.Test.YtefnapcegeojoaaGreatDoorLElectPart3
import Derived.Test.YtefnapcegeojoaaGreatDoorLElectPart9
import Derived.Test.YtefnapcegeojoaaGreatDoorLElectPart7
import Derived.Test.YtefnapcegeojoaaGreatDoorLElectPart11
import Derived.Test.YtefnapcegeojoaaGreatDoorLElectPart10
import Derived.Test.YtefnapcegeojoaaGreatDoorLElectPart6
import Derived.Test.YtefnapcegeojoaaGreatDoorLElectPart8
import Derived.Test.YtefnapcegeojoaaGreatDoorLElectPart13
import Derived.WalkKit
import Derived.WalkSpells
import Derived.KernelRfl
import Derived.Deep.RegionWith
import Derived.Deep.RegionHeld3
import Derived.Deep.MidRow
import Derived.Deep.CutRange
import Derived.Deep.LoopGhost

namespace Go.Proofs.YtefnapcegeojoaaGreatDoor
open Go.RowKit
set_option linter.unusedVariables false
set_option maxRecDepth 100000

theorem le_new (w : World) (ao bo : Option Addr) (ca cb : Nat) (ss : List ByteArray) (xs : List Wr) (h1 : Ss w ao ss) (h2 : Ios w bo xs) :
    (Below w.heap.size w (((w.alloc (.cells #[.slice ao ss.length ca, .slice bo xs.length cb] 26)).alloc (.cells #[.slice none 0 0, .slice none 0 0] 26)).alloc (.cells #[.int .i64 0, .int .i64 0, .int .i64 0] 30))) ∧ VarD (((w.alloc (.cells #[.slice ao ss.length ca, .slice bo xs.length cb] 26)).alloc (.cells #[.slice none 0 0, .slice none 0 0] 26)).alloc (.cells #[.int .i64 0, .int .i64 0, .int .i64 0] 30)) w.heap.size (.slice ao ss.length ca) (.slice bo xs.length cb) ∧
    VarD (((w.alloc (.cells #[.slice ao ss.length ca, .slice bo xs.length cb] 26)).alloc (.cells #[.slice none 0 0, .slice none 0 0] 26)).alloc (.cells #[.int .i64 0, .int .i64 0, .int .i64 0] 30)) (w.heap.size + 1) (.slice none 0 0) (.slice none 0 0) ∧ VarT (((w.alloc (.cells #[.slice ao ss.length ca, .slice bo xs.length cb] 26)).alloc (.cells #[.slice none 0 0, .slice none 0 0] 26)).alloc (.cells #[.int .i64 0, .int .i64 0, .int .i64 0] 30)) (w.heap.size + 1 + 1) 30 0 0 0 := by
  have b1 := Joins.below_alloc1 w (.cells #[.slice ao ss.length ca, .slice bo xs.length cb] 26)
  have b3 := Joins.below_alloc1 (w.alloc (.cells #[.slice ao ss.length ca, .slice bo xs.length cb] 26)) (.cells #[.slice none 0 0, .slice none 0 0] 26)
  have b4 := Joins.below_alloc1 ((w.alloc (.cells #[.slice ao ss.length ca, .slice bo xs.length cb] 26)).alloc (.cells #[.slice none 0 0, .slice none 0 0] 26)) (.cells #[.int .i64 0, .int .i64 0, .int .i64 0] 30)
  refine ⟨fr (fr b1 b3) b4, (VarD.new w _ _).below (fr b3 b4), ?_, ?_⟩
  · have := (VarD.new (w.alloc (.cells #[.slice ao ss.length ca, .slice bo xs.length cb] 26)) (.slice none 0 0) (.slice none 0 0)).below b4
    simp only [World.size_alloc] at this
    exact this
  · have := VarT.new ((w.alloc (.cells #[.slice ao ss.length ca, .slice bo xs.length cb] 26)).alloc (.cells #[.slice none 0 0, .slice none 0 0] 26)) 30 0 0 0
    simp only [World.size_alloc] at this
    exact this
theorem l05Step_el (p : Pxs) (ao : Option Addr) (cap : Nat) (bs : List Bk) (w : World) (hp : pxB p = true) (hb : bksB bs = true) (hr : Bks w ao bs) :
    Calls Tryz.prog 88 #[pV p, .slice ao 4 cap] w fun e w' => ∃ qo qa c, e = .returned (.tuple #[pV (pxStepP p bs).1, .slice qo 4 qa, .int .i64 c]) ∧ OwnR w' w.heap.size 96 4 (.slice qo 4 qa) 4 (bksV (pxStepP p bs).2) ∧ Below w.heap.size w w' := by
  obtain ⟨hh, _, _, _, _, hn⟩ := px_parts hp
  refine (l05Step_any p ao 4 cap bs w (bksB_parts hb).1 rfl hh hn hr).mono ?_
  rintro e w' ⟨qo, qa, he, ho, hk⟩
  exact ⟨qo, qa, _, he, ho, hk⟩

set_option maxHeartbeats 3200000 in
theorem l06Elect_any (R : Ans) (ao bo : Option Addr) (ca cb : Nat) (ss : List ByteArray) (xs : List Wr) (h o g : Int) (w : World) (hR : elA ss xs h o g = R) (e0 : leC ss xs h = 0) (e1 : (inB o 0 3 && inB g 1 1000000) = true) (h1 : Ss w ao ss) (h2 : Ios w bo xs) :
    Calls Tryz.prog 41 #[.agg #[.slice ao ss.length ca, .slice bo xs.length cb], .int .i64 h, .int .i64 o, .int .i64 g] w fun e w' => Left w w' R e := by
  obtain ⟨ed, ⟨h0, h3⟩, el⟩ := leC_eq e0
  obtain ⟨L, hL⟩ : ∃ L, ldOf ss xs h = L := ⟨_, rfl⟩
  have hv : 0 ≤ L.ver ∧ L.ver ≤ 1000000 := by rw [← hL]; exact (ldB_lo (ld_right (readV ss xs h 0))).1
  have eo : (0 ≤ o ∧ o ≤ 3) ∧ 1 ≤ g ∧ g ≤ 1000000 := by simpa [inB] using e1
  have wr1 : IntKind.i64.wrap (L.ver + 1) = L.ver + 1 := by rw [IntKind.wrap_i64]; omega
  have wr2 : IntKind.i64.wrap (1024 * g) = 1024 * g := by rw [IntKind.wrap_i64]; omega
  have wr3 : IntKind.i64.wrap (1024 * g + o) = 1024 * g + o := by rw [IntKind.wrap_i64]; omega
  have wr4 : IntKind.i64.wrap (1 + h) = 1 + h := by rw [IntKind.wrap_i64]; omega
  have HBK := hide (bksOf_right ss xs h)
  have HMV : Hid (1000000 < L.ver + 1 → R = ⟨ss, xs, L, 6⟩) := hide (fun hq => by rw [← hR, ← hL]; exact elA_many e0 e1 (by rw [elMany, hL, decide_eq_true hq]; rfl))
  have HMB : Hid (1000000 < nxBal h (L.ver + 1) (bksOf ss xs h) → R = ⟨ss, xs, L, 6⟩) := hide (fun hq => by rw [← hR, ← hL]; rw [← hL] at hq; exact elA_many e0 e1 (by rw [elMany, decide_eq_true hq]; simp))
  have HGO : Hid (¬ 1000000 < L.ver + 1 → ¬ 1000000 < nxBal h (L.ver + 1) (bksOf ss xs h) → ElOK h (elFrom ss xs h o g) ∧ R = elLast h L (elEnd (elFrom ss xs h o g)) ∧ elTry ss xs h o g = ⟨h, L.ver + 1, 1, nxBal h (L.ver + 1) (bksOf ss xs h), 1024 * g + o, 0, 0, 0⟩) := hide (fun q1 q2 => by
    have em : elMany ss xs h = false := by rw [elMany, hL, decide_eq_false q1, decide_eq_false q2]; rfl
    refine ⟨elFrom_ok e0 e1 em, by rw [← hR, ← hL]; exact elA_end e0 e1 em, by rw [elTry, hL]⟩)
  have HED := hide ed
  have HEL := hide el
  have HK := hide hL
  have H1 := hide h1
  have H2 := hide h2
  have HN := hide (le_new w ao bo ca cb ss xs h1 h2)
  clear hL hR e0 e1 ed el h1 h2
  go_enter Tryz.func41, Tryz.ntmps41
  go_upto_region 1 with fail
  revert HN
  generalize (((w.alloc (.cells #[.slice ao ss.length ca, .slice bo xs.length cb] 26)).alloc (.cells #[.slice none 0 0, .slice none 0 0] 26)).alloc (.cells #[.int .i64 0, .int .i64 0, .int .i64 0] 30)) = W0
  intro HN
  obtain ⟨d0, d1⟩ := (unhide HN).2.1.cells
  go_wp2_with fail
  refine (l06Read_any _ _ _ _ ss xs h L _ (unhide HK) (unhide HED) ((unhide H1).below (unhide HN).1) ((unhide H2).below (unhide HN).1)).mono ?_
  rintro e w1 ⟨rfl, hb1⟩
  have HA1 := hide (fr hb1 (Joins.below_alloc1 w1 (.cells #[.int .i64 L.ver, .int .i64 L.own, .int .i64 L.gen] 30)))
  have HI : Hid (LeI w (w1.alloc (.cells #[.int .i64 L.ver, .int .i64 L.own, .int .i64 L.gen] 30)) w.heap.size (w.heap.size + 1) (w.heap.size + 1 + 1) w1.heap.size ss xs L ao ca bo cb) :=
    hide ⟨fr (unhide HN).1 (unhide HA1), (unhide HN).2.1.below (unhide HA1), (unhide HN).2.2.1.below (unhide HA1), (unhide HN).2.2.2.below (unhide HA1), VarT.new w1 _ _ _ _, .inl ⟨unhide H1, unhide H2⟩⟩
  have HAP : Hid (Apart w w.heap.size (w.heap.size + 1) (w.heap.size + 1 + 1) w1.heap.size) := hide (by
    have z := ((unhide HN).2.2.2.below hb1).lt
    exact ⟨Nat.le_refl _, by omega, by omega, by omega, by omega, by omega, by omega, by omega, by omega, by omega⟩)
  clear hb1 d0 d1 HA1
  go_upto_region 2 with fail
  revert HI HAP
  clear HN
  generalize w1.alloc (.cells #[.int .i64 L.ver, .int .i64 L.own, .int .i64 L.gen] 30) = W1
  generalize w1.heap.size = O
  generalize w.heap.size + 1 + 1 = B2
  generalize w.heap.size + 1 = B1
  intro HI HAP
  obtain ⟨d0, d1⟩ := (unhide HI).d.cells
  obtain ⟨t0, t1, t2⟩ := (unhide HI).o.cells
  have HRS := hide ((unhide HI).a.ss (unhide HI).below)
  go_wp2_with fail
  refine (l06Blocks_any _ _ _ _ ss xs h _ (unhide HED) (unhide HRS).1 (unhide HRS).2).mono ?_
  rintro e w2 ⟨ro, ra, rfl, hob, hb2⟩
  have HI2 := hide ((unhide HI).next hb2)
  have HOB := hide (hob.base (B' := w.heap.size) (unhide HI).below.size)
  clear hb2 hob d0 d1 t0 t1 t2 HRS
  have HBS : Hid (Bks w2 ro (bksOf ss xs h)) := hide (ownBks (B := w.heap.size) (e := 96) (cap := ra) (xs := bksOf ss xs h) (unhide HOB))
  have HMB4 := hide (bks_mbal (unhide HBK))
  go_wp2_with fail
  refine (l05Next_any h (L.ver + 1) ro 4 ra (bksOf ss xs h) _ rfl (by decide) ⟨h0, h3⟩ (unhide HMB4) (unhide HBS)).mono ?_
  rintro e w3 ⟨rfl, hb3⟩
  have HI3 := hide ((unhide HI2).next hb3)
  have HOB3 := hide ((unhide HOB).below hb3)
  clear hb3 HBS
  obtain ⟨n, HNX⟩ : ∃ n, Hid (nxBal h (L.ver + 1) (bksOf ss xs h) = n) := ⟨_, hide rfl⟩
  rw [unhide HNX]
  have HMB' : Hid (1000000 < n → R = ⟨ss, xs, L, 6⟩) := hide (fun hq => unhide HMB (by rw [unhide HNX]; exact hq))
  have n12 := (unhide HAP).n12
  have n12' := Ne.symm (unhide HAP).n12
  have n01 := (unhide HAP).n01
  have n01' := Ne.symm (unhide HAP).n01
  have n02 := (unhide HAP).n02
  have n02' := Ne.symm (unhide HAP).n02
  have n13 := (unhide HAP).n13
  have n13' := Ne.symm (unhide HAP).n13
  have n23 := (unhide HAP).n23
  have n23' := Ne.symm (unhide HAP).n23
  by_cases hmany : 1000000 < L.ver + 1 ∨ 1000000 < n
  · have HQ : Hid (R = ⟨ss, xs, L, 6⟩) := hide (hmany.elim (unhide HMV) (unhide HMB'))
    obtain ⟨d0, d1⟩ := (unhide HI3).d.cells
    obtain ⟨t0, t1, t2⟩ := (unhide HI3).o.cells
    obtain ⟨r0, r1⟩ := (unhide HI3).r.cells
    have r2 := (unhide HI3).r.free 0
    have r3 := (unhide HI3).r.free 1
    obtain ⟨u0, u1, u2⟩ := (unhide HI3).t.cells
    obtain ⟨u3, u4, u5⟩ := (unhide HI3).t.free
    have HF := hide (fun a b x y z => (unhide HI3).out (unhide HAP) a b x y z)
    by_cases q1 : 1000000 < L.ver + 1
    · clear hmany
      go_wp2
      go_region
      all_goals
        go_wp2
        refine bodyPost_ret (v := .tuple #[.agg #[.slice ao ss.length ca, .slice bo xs.length cb], lV L, .int .i64 6]) (by simp [results, Tryz.results41, go_sem, r0, r1, u0, u1, u2]) rfl ?_
        first
          | exact left_end (unhide HQ) (left_drew (unhide HF _ _ _ _ _).1)
          | exact left_end (unhide HQ) (left_drew (unhide HF _ _ _ _ _).2)
          | exact left_end (unhide HQ) (unhide HF _ _ _ _ _).1
          | exact left_end (unhide HQ) (unhide HF _ _ _ _ _).2
    · have q2 : 1000000 < n := by omega
      clear hmany
      go_wp2
      go_region
      all_goals
        go_wp2
        refine bodyPost_ret (v := .tuple #[.agg #[.slice ao ss.length ca, .slice bo xs.length cb], lV L, .int .i64 6]) (by simp [results, Tryz.results41, go_sem, r0, r1, u0, u1, u2]) rfl ?_
        first
          | exact left_end (unhide HQ) (left_drew (unhide HF _ _ _ _ _).1)
          | exact left_end (unhide HQ) (left_drew (unhide HF _ _ _ _ _).2)
          | exact left_end (unhide HQ) (unhide HF _ _ _ _ _).1
          | exact left_end (unhide HQ) (unhide HF _ _ _ _ _).2
  have q1 : ¬ 1000000 < L.ver + 1 := fun k => hmany (.inl k)
  have q2 : ¬ 1000000 < n := fun k => hmany (.inr k)
  clear hmany
  obtain ⟨k1, k2, k3⟩ := unhide HGO (by omega) (by rw [unhide HNX]; omega)
  obtain ⟨q, hq⟩ : ∃ q, elTry ss xs h o g = q := ⟨_, rfl⟩
  obtain ⟨E, hEE⟩ : ∃ E, elEnd (elFrom ss xs h o g) = E := ⟨_, rfl⟩
  rw [hEE] at k2
  have HLAST := hide k2
  have HPE : Hid ((⟨h, L.ver + 1, 1, n, 1024 * g + o, 0, 0, 0⟩ : Pxs) = q) := hide (by rw [← hq, k3, unhide HNX])
  have HFR : Hid (ElOK h ⟨ss, xs, q, bksOf ss xs h⟩ ∧ elEnd ⟨ss, xs, q, bksOf ss xs h⟩ = E) := hide (by rw [← hq]; exact ⟨k1, hEE⟩)
  have HA7 := hide (Joins.below_alloc1 w3 (.cells #[.int .i64 h, .int .i64 (L.ver + 1), .int .i64 1, .int .i64 n, .int .i64 (1024 * g + o), .int .i64 0, .int .i64 0, .int .i64 0] 63))
  have HLP : Hid (LpI w (w3.alloc (.cells #[.int .i64 h, .int .i64 (L.ver + 1), .int .i64 1, .int .i64 n, .int .i64 (1024 * g + o), .int .i64 0, .int .i64 0, .int .i64 0] 63)) w.heap.size B1 B2 O w3.heap.size ⟨ss, xs, q, bksOf ss xs h⟩ L ro ra ao ca bo cb) :=
    hide ⟨(unhide HI3).next (unhide HA7), by rw [← unhide HPE]; exact VarP.new w3 _ ⟨h, L.ver + 1, 1, n, 1024 * g + o, 0, 0, 0⟩, (unhide HOB3).below (unhide HA7)⟩
  have HNP : Hid (w.heap.size ≤ w3.heap.size ∧ w.heap.size ≠ w3.heap.size ∧ B1 ≠ w3.heap.size ∧ B2 ≠ w3.heap.size ∧ O ≠ w3.heap.size) := hide (by
    have z0 := (unhide HI3).d.lt
    have z1 := (unhide HI3).r.lt
    have z2 := (unhide HI3).t.lt
    have z3 := (unhide HI3).o.lt
    omega)
  clear k1 k2 k3 hq hEE HA7
  go_wp2
  clear q1 q2
  revert HLP HNP
  generalize w3.alloc (.cells #[.int .i64 h, .int .i64 (L.ver + 1), .int .i64 1, .int .i64 n, .int .i64 (1024 * g + o), .int .i64 0, .int .i64 0, .int .i64 0] 63) = W4
  generalize w3.heap.size = P
  intro HLP HNP
  go_loopg [13, 16, 17, 18] 14 (fun k bl _ _ _ wr => ∃ (s : Est) (bo : Option Addr) (ba : Nat) (ao : Option Addr) (ca : Nat) (qo : Option Addr) (cb : Nat), bl = .slice bo 4 ba ∧ Hid (LpI w wr w.heap.size B1 B2 O P s L bo ba ao ca qo cb) ∧ Hid (ElOK h s ∧ elEnd s = E) ∧ mOf s.p < k)
  case atStart => exact ⟨_, _, _, _, _, _, _, rfl, HLP, HFR, Nat.lt_succ_of_le (mOf_le (unhide HFR).1.p)⟩
  case round =>
    obtain ⟨s, bo', ba', ao', ca', qo', cb', rfl, HI, HOK, hmk⟩ := hrel
    obtain ⟨c0, c1, c2, c3, c4, c5, c6, c7⟩ := (unhide HI).p.cells
    by_cases h5 : s.p.phase < 5
    · have HLS := hide (step_less (bs := s.bs) (unhide HOK).1.p h5)
      have HOK2 := hide ((unhide HOK).1.step h5)
      have HON := hide ((elEnd_on (unhide HOK).1 h5).trans (unhide HOK).2)
      have HRT := hide (px_right (unhide HOK).1.p (unhide HOK).1.b)
      have HSP := hide (step_p s).1
      have HBS : Hid (Bks wr bo' s.bs) := hide (by
        have h4 := (bksB_parts (unhide HOK).1.b).1
        exact ownBks (B := w.heap.size) (e := 96) (cap := ba') (xs := s.bs) (by rw [h4]; exact (unhide HI).b))
      have HELS : Hid (elStep s = if wroteB s.p.phase (pxStepP s.p s.bs).1.phase = true then ⟨wS s.ss s.xs h (1 + h) (encB ((pxStepP s.p s.bs).2.getD h.toNat bk0)), wX s.xs h (1 + h) (encB ((pxStepP s.p s.bs).2.getD h.toNat bk0)), (pxStepP s.p s.bs).1, (pxStepP s.p s.bs).2⟩ else ⟨s.ss, s.xs, (pxStepP s.p s.bs).1, (pxStepP s.p s.bs).2⟩) := hide (by
        have e := (unhide HOK).1.o
        unfold elStep ownK
        rw [e])
      go_wp2_with fail
      refine (l05Step_el s.p bo' ba' s.bs _ (unhide HOK).1.p (unhide HOK).1.b (unhide HBS)).mono ?_
      rintro e wA ⟨so, sa, cc, rfl, hoA, hbA⟩
      obtain ⟨x, HX⟩ : ∃ x, Hid ((pxStepP s.p s.bs).1 = x) := ⟨_, hide rfl⟩
      obtain ⟨cs, HCS⟩ : ∃ cs, Hid ((pxStepP s.p s.bs).2 = cs) := ⟨_, hide rfl⟩
      rw [unhide HCS] at hoA
      rw [unhide HX]
      rw [unhide HX] at HELS HRT HSP HLS
      rw [unhide HCS] at HELS HRT
      have HA5 := hide (fr hbA (Joins.below_alloc1 wA (.cells #[.int .i64 x.host, .int .i64 x.ver, .int .i64 x.phase, .int .i64 x.ballot, .int .i64 x.value, .int .i64 x.next, .int .i64 x.best, .int .i64 x.bestBal] 63)))
      have HI5 := hide ((unhide HI).next (unhide HA5))
      have HV5 := hide (VarP.new wA 63 x)
      have HO5 := hide ((hoA.base (B' := w.heap.size) (unhide HI).l.below.size).below (Joins.below_alloc1 wA (.cells #[.int .i64 x.host, .int .i64 x.ver, .int .i64 x.phase, .int .i64 x.ballot, .int .i64 x.value, .int .i64 x.next, .int .i64 x.best, .int .i64 x.bestBal] 63)))
      have HNC : Hid (P ≠ wA.heap.size ∧ w.heap.size ≠ wA.heap.size) := hide (by
        have z0 := (unhide HI).p.lt
        have z1 := (unhide HI).l.d.lt
        have z2 := hbA.size
        omega)
      clear hoA hbA c0 c1 c2 c3 c4 c5 c6 c7 HBS
      go_upto_region 10 with fail
      clear h5
      revert HI5 HV5 HO5 HNC
      clear HA5
      generalize wA.alloc (.cells #[.int .i64 x.host, .int .i64 x.ver, .int .i64 x.phase, .int .i64 x.ballot, .int .i64 x.value, .int .i64 x.next, .int .i64 x.best, .int .i64 x.bestBal] 63) = W5
      generalize wA.heap.size = C
      intro HI5 HV5 HO5 HNC
      go_cut [76] from 49 to 91 (fun c wx => ∃ b : Bool, c = .bool b ∧ Hid (b = wroteB s.p.phase x.phase) ∧ wx = W5)
      case first =>
        obtain ⟨a0, a1, a2, a3, a4, a5, a6, a7⟩ := (unhide HV5).cells
        obtain ⟨c0, c1, c2, c3, c4, c5, c6, c7⟩ := (unhide HI5).p.cells
        clear a0 a1 a3 a4 a5 a6 a7 c0 c1 c3 c4 c5 c6 c7
        have HWB := hide (wrote_beq s.p.phase x.phase)
        cases g1 : (x.phase == 2) <;> cases g2 : (s.p.phase == 1) <;> cases g3 : (x.phase == 4) <;> cases g4 : (s.p.phase == 3)
        all_goals
          rw [g1, g2, g3, g4] at HWB
          go_wp2_with fail
          go_meet
          exact ⟨_, rfl, hide (by rw [unhide HWB]; rfl), rfl⟩
      case rest =>
        obtain ⟨b9, rfl, HB9, hw⟩ := hcut
        replace hw := hw.symm
        subst hw
        by_cases hwr : wroteB s.p.phase x.phase = true
        · obtain rfl : b9 = true := by rw [unhide HB9, hwr]
          rw [if_pos hwr] at HELS
          clear HB9 hwr
          obtain ⟨K, hK⟩ : ∃ K : Nat, h = K := ⟨h.toNat, by omega⟩
          subst hK
          have hk4 : K < 4 := by omega
          have hk5 : (K : Int) < 4 := by omega
          have hk6 : (0 : Int) ≤ (K : Int) := by omega
          have h4 : cs.length = 4 := (bksB_parts (unhide HRT).2).1
          obtain ⟨y, HYE⟩ : ∃ y, Hid (cs.getD K bk0 = y) := ⟨_, hide rfl⟩
          have HYR : Hid (bkB y = true) := hide (by rw [← unhide HYE]; exact (bksB_parts (unhide HRT).2).2 K (by omega))
          rw [show ((K : Int)).toNat = K by omega, unhide HYE] at HELS
          obtain ⟨t, HTE⟩ : ∃ t, Hid (encB y = t) := ⟨_, hide rfl⟩
          rw [unhide HTE] at HELS
          have HTS : Hid (t.size ≤ 80) := hide (by rw [← unhide HTE]; first | (rw [encB_size]; decide) | (rw [encL_size]; decide))
          have HP : Hid (diskB s.ss (s.xs ++ [⟨(K : Int), 1 + (K : Int), t⟩]) = true) := hide (diskB_snoc (unhide HOK).1.d (unhide HOK).1.l (w_io h0 h3 (by omega) (by omega) (unhide HTS)))
          have HXL : Hid (s.xs.length ≤ 1048576) := hide (by have := (unhide HOK).1.l; omega)
          have HRGT := hide (w_right (t := t) (unhide HOK).1.d (unhide HOK).1.l h0 h3 (show 0 ≤ 1 + (K : Int) by omega) (show 1 + (K : Int) ≤ 63 by omega) (unhide HTS))
          have HNL := hide (wS_len s.ss s.xs (K : Int) (1 + (K : Int)) t)
          obtain ⟨S, HSS⟩ : ∃ S, Hid (wS s.ss s.xs (K : Int) (1 + (K : Int)) t = S) := ⟨_, hide rfl⟩
          obtain ⟨Y, HXX⟩ : ∃ Y, Hid (wX s.xs (K : Int) (1 + (K : Int)) t = Y) := ⟨_, hide rfl⟩
          rw [unhide HSS] at HRGT HNL
          rw [unhide HXX] at HRGT
          rw [unhide HSS, unhide HXX] at HELS
          have HEQ := HELS
          have HRS := hide ((unhide HI5).l.a.ss (unhide HI5).l.below)
          obtain ⟨b, off, rfl, hbl, g0, g1, g2, g3⟩ := (ownBks (B := w.heap.size) (e := 96) (cap := sa) (xs := cs) (by rw [h4]; exact unhide HO5)).get K (by omega)
          rw [unhide HYE] at g0 g1 g2 g3
          obtain ⟨d0, d1⟩ := (unhide HI5).l.d.cells
          have HENC : Hid (∀ W, Calls Tryz.prog 68 #[bV y] W fun e w' => e = .returned (.string t) ∧ Below W.heap.size W w') := hide (fun W => by have k9 := l05Encode_bk y W (unhide HYR); rw [unhide HTE] at k9; exact k9)
          have HFL : Hid (∀ (gg cap B : Nat) (W : World), Below W5.heap.size W5 W → W.ownsRow B 75 3 (.slice (some ⟨gg, 0, none⟩) (s.xs.length + 1) cap) (s.xs.length + 1) (ioV (s.xs ++ [⟨(K : Int), 1 + (K : Int), t⟩])) → Calls Tryz.prog 52 #[.agg #[.slice ao' s.ss.length ca', .slice (some ⟨gg, 0, none⟩) (s.xs.length + 1) cap], .int .i64 (K : Int)] W fun e w' => ∃ po pa qo qa, e = .returned (.agg #[.slice po S.length pa, .slice qo Y.length qa]) ∧ OwnD w' W.heap.size po S.length pa qo Y.length qa S Y ∧ Below W.heap.size W w') := hide (fun gg cap B W hW hO => by
            refine (l01Flush_sure ao' ca' gg cap B s.ss s.xs (K : Int) (1 + (K : Int)) t S Y W (unhide HSS) (unhide HXX) (unhide HP) ((unhide HRS).1.below hW) hO).mono ?_
            rintro e w' ⟨po, pa, qo, qa, he, ho, hb⟩
            exact ⟨po, pa, qo, qa, by rw [he, unhide HNL], by rw [unhide HNL]; exact ho, hb⟩)
          have HWR := hide (fun (W : World) (hW : Below W5.heap.size W5 W) => l01Write_hd ao' qo' s.ss.length ca' cb' s.xs (K : Int) (1 + (K : Int)) t W (unhide HXL) ((unhide HRS).2.below hW))
          have hdl : w.heap.size < W5.heap.size := (unhide HI5).l.d.lt
          go_wp2_with fail
          go_cut [17] from 49 to 91 (fun c wx => c = .slice (some ⟨b, off, none⟩) 4 sa ∧ ∃ po pa ro ra, Hid (LpI w wx w.heap.size B1 B2 O P ⟨S, Y, s.p, s.bs⟩ L bo' ba' po pa ro ra) ∧ Hid (VarP wx C 63 x) ∧ Hid (OwnR wx w.heap.size 96 4 (.slice (some ⟨b, off, none⟩) 4 sa) 4 (bksV cs)))
          case first =>
            go_region_with
              (first
                | (go_at_call 68; refine (unhide HENC _).mono ?_; rintro e wF ⟨rfl, hbF⟩; have HBF := hide (fr (Below.refl _ W5).drew hbF); clear hbF; have a0 := ((unhide HBF).cell (p := ⟨w.heap.size, 0, none⟩) hdl).trans d0; have a1 := ((unhide HBF).cell (p := ⟨w.heap.size, 1, none⟩) hdl).trans d1; have a2 := ((unhide HBF).cell (p := ⟨b, off + K * 4, none⟩) hbl).trans g0; have a3 := ((unhide HBF).cell (p := ⟨b, off + K * 4 + 1, none⟩) hbl).trans g1; have a4 := ((unhide HBF).cell (p := ⟨b, off + K * 4 + 2, none⟩) hbl).trans g2; have a5 := ((unhide HBF).cell (p := ⟨b, off + K * 4 + 3, none⟩) hbl).trans g3)
                | (go_at_call 53; refine (unhide HWR _ (unhide HBF)).mono ?_; rintro e wG ⟨gg, cap, rfl, hoG, hbG⟩; have HOG := hide hoG; have HBG := hide (fr (unhide HBF) hbG); clear hoG hbG; have a6 := ((unhide HBG).cell (p := ⟨w.heap.size, 0, none⟩) hdl).trans d0; have a7 := ((unhide HBG).cell (p := ⟨w.heap.size, 1, none⟩) hdl).trans d1; have a8 := ((unhide HBG).cell (p := ⟨b, off + K * 4, none⟩) hbl).trans g0; have a9 := ((unhide HBG).cell (p := ⟨b, off + K * 4 + 1, none⟩) hbl).trans g1; have aa := ((unhide HBG).cell (p := ⟨b, off + K * 4 + 2, none⟩) hbl).trans g2; have ab := ((unhide HBG).cell (p := ⟨b, off + K * 4 + 3, none⟩) hbl).trans g3)
                | (go_at_call 52; refine (unhide HFL gg cap _ _ (unhide HBG) (unhide HOG)).mono ?_; rintro e wH ⟨po, pa, ro2, ra2, rfl, hoH, hbH⟩; have HOH := hide (hoH.base (B' := w.heap.size) (Nat.le_trans (unhide HI5).l.below.size (unhide HBG).size)); have HBH := hide (fr (unhide HBG) hbH); clear hoH hbH; have b0 := ((unhide HBH).cell (p := ⟨w.heap.size, 0, none⟩) hdl).trans d0; have b1 := ((unhide HBH).cell (p := ⟨w.heap.size, 1, none⟩) hdl).trans d1; have b2 := ((unhide HBH).cell (p := ⟨b, off + K * 4, none⟩) hbl).trans g0; have b3 := ((unhide HBH).cell (p := ⟨b, off + K * 4 + 1, none⟩) hbl).trans g1; have b4 := ((unhide HBH).cell (p := ⟨b, off + K * 4 + 2, none⟩) hbl).trans g2; have b5 := ((unhide HBH).cell (p := ⟨b, off + K * 4 + 3, none⟩) hbl).trans g3; have b6 := ((unhide HI5).l.d.below (unhide HBH)).free 0; have b7 := ((unhide HI5).l.d.below (unhide HBH)).free 1))
            all_goals
              have HIW := hide (LpI.write (unhide HI5) (unhide HAP) (unhide HNP).2.1 (unhide HBH) (unhide HOH) (unhide HRGT))
              have hk9 := keep2 wH w.heap.size (.slice po S.length pa) (.slice ro2 Y.length ra2)
              have HVC := hide (((unhide HV5).below (unhide HBH)).keep hk9 (Ne.symm (unhide HNC).2))
              have ho9 := (unhide HO5).below (unhide HBH)
              have HOC := hide (ho9.keep hk9 (fun g hg e => by have e' : g = w.heap.size := e; subst e'; exact ho9.other ((unhide HI5).l.d.below (unhide HBH)) (by decide) hg))
              clear hk9 ho9
              go_wp2_with fail
              go_meet
              exact ⟨rfl, po, pa, ro2, ra2, HIW, HVC, HOC⟩
          case rest =>
            obtain ⟨rfl, po, pa, ro2, ra2, HIW, HVC, HOC⟩ := hcut
            have m1 := (unhide HNC).1
            have m1' := Ne.symm (unhide HNC).1
            clear d0 d1 g0 g1 g2 g3 hbl hdl
            obtain ⟨e0, e1, e2, e3, e4, e5, e6, e7⟩ := (unhide HVC).cells
            obtain ⟨c0, c1, c2, c3, c4, c5, c6, c7⟩ := (unhide HIW).p.cells
            obtain ⟨f0, f1, f2, f3, f4, f5, f6, f7⟩ := (unhide HIW).p.free
            have HI9 := hide (LpI.put (unhide HIW) x (unhide HOC) (unhide HNP).1 (unhide HNP).2.1 (unhide HNP).2.2.1 (unhide HNP).2.2.2.1 (unhide HNP).2.2.2.2)
            go_wp2
            go_roundg (gk - 1)
            case measure => have := unhide HLS; omega
            case rel => exact ⟨elStep s, _, _, _, _, _, _, rfl, by rw [unhide HEQ]; exact HI9, hide ⟨unhide HOK2, unhide HON⟩, by have h9 := unhide HLS; rw [unhide HSP]; omega⟩
        · obtain rfl : b9 = false := by rw [unhide HB9]; exact Bool.eq_false_iff.2 hwr
          rw [if_neg hwr] at HELS
          have HEQ := HELS
          have HIW := HI5
          have HVC := HV5
          have HOC := HO5
          have m1 := (unhide HNC).1
          have m1' := Ne.symm (unhide HNC).1
          clear HB9 hwr
          obtain ⟨e0, e1, e2, e3, e4, e5, e6, e7⟩ := (unhide HVC).cells
          obtain ⟨c0, c1, c2, c3, c4, c5, c6, c7⟩ := (unhide HIW).p.cells
          obtain ⟨f0, f1, f2, f3, f4, f5, f6, f7⟩ := (unhide HIW).p.free
          have HI9 := hide (LpI.put (unhide HIW) x (unhide HOC) (unhide HNP).1 (unhide HNP).2.1 (unhide HNP).2.2.1 (unhide HNP).2.2.2.1 (unhide HNP).2.2.2.2)
          go_wp2
          go_roundg (gk - 1)
          case measure => have := unhide HLS; omega
          case rel => exact ⟨elStep s, _, _, _, _, _, _, rfl, by rw [unhide HEQ]; exact HI9, hide ⟨unhide HOK2, unhide HON⟩, by have h9 := unhide HLS; rw [unhide HSP]; omega⟩
    · have HES : Hid (E = s) := hide ((unhide HOK).2.symm.trans (elEnd_at h5))
      have HPH := hide (px_parts (unhide HOK).1.p)
      have HI6 := hide (unhide HI).l
      clear hmk
      obtain ⟨t0, t1, t2⟩ := (unhide HI6).o.cells
      by_cases p6 : s.p.phase = 6
      · have b6 : (s.p.phase == 6) = true := by simp [p6]
        have HQ : Hid (R = ⟨s.ss, s.xs, L, 19⟩) := hide (by rw [unhide HLAST, unhide HES, elLast, if_neg (fun hq => by have := hq.1; omega)])
        clear p6
        obtain ⟨d0, d1⟩ := (unhide HI6).d.cells
        obtain ⟨r0, r1⟩ := (unhide HI6).r.cells
        have r2 := (unhide HI6).r.free 0
        have r3 := (unhide HI6).r.free 1
        obtain ⟨u0, u1, u2⟩ := (unhide HI6).t.cells
        obtain ⟨u3, u4, u5⟩ := (unhide HI6).t.free
        have HF := hide (fun a b x y z => (unhide HI6).out (unhide HAP) a b x y z)
        go_wp2
        go_region
        all_goals
          go_wp2
          refine bodyPost_ret (v := .tuple #[.agg #[.slice ao' s.ss.length ca', .slice qo' s.xs.length cb'], lV L, .int .i64 19]) (by simp [results, Tryz.results41, go_sem, r0, r1, u0, u1, u2]) rfl ?_
          first
            | exact left_end (unhide HQ) (left_drew (unhide HF _ _ _ _ _).1)
            | exact left_end (unhide HQ) (left_drew (unhide HF _ _ _ _ _).2)
            | exact left_end (unhide HQ) (unhide HF _ _ _ _ _).1
            | exact left_end (unhide HQ) (unhide HF _ _ _ _ _).2
      have b6 : (s.p.phase == 6) = false := by simp [p6]
      have HP5 : Hid (s.p.phase = 5) := hide (by have := (unhide HPH).2.2.1; omega)
      have hvl := (unhide HPH).2.2.2.2.1
      have z1 : Int.tmod s.p.value 1024 = s.p.value % 1024 := Int.tmod_eq_emod_of_nonneg hvl.1
      have z2 : Int.tdiv s.p.value 1024 = s.p.value / 1024 := Int.tdiv_eq_ediv_of_nonneg hvl.1
      have z3 : IntKind.i64.wrap (s.p.value % 1024) = s.p.value % 1024 := by rw [IntKind.wrap_i64]; omega
      have z4 : IntKind.i64.wrap (s.p.value / 1024) = s.p.value / 1024 := by rw [IntKind.wrap_i64]; omega
      have HA8 := hide (Joins.below_alloc1 wr (.cells #[.int .i64 (L.ver + 1), .int .i64 (s.p.value % 1024), .int .i64 (s.p.value / 1024)] 30))
      have HI8 := hide ((unhide HI6).next (unhide HA8))
      have HV8 : Hid (VarT (wr.alloc (.cells #[.int .i64 (L.ver + 1), .int .i64 (s.p.value % 1024), .int .i64 (s.p.value / 1024)] 30)) wr.heap.size 30 (L.ver + 1) (s.p.value % 1024) (s.p.value / 1024)) := hide (VarT.new wr _ _ _ _)
      have HNM : Hid (w.heap.size ≠ wr.heap.size ∧ B1 ≠ wr.heap.size ∧ B2 ≠ wr.heap.size) := hide (by
        have y0 := (unhide HI6).d.lt
        have y1 := (unhide HI6).r.lt
        have y2 := (unhide HI6).t.lt
        omega)
      clear p6 hvl t0 t1 t2
      go_upto_region 17 with fail
      clear h5 c0 c1 c2 c3 c4 c5 c6 c7 z1 z2 z3 z4
      revert HI8 HV8 HNM
      clear HA8
      generalize wr.alloc (.cells #[.int .i64 (L.ver + 1), .int .i64 (s.p.value % 1024), .int .i64 (s.p.value / 1024)] 30) = W8
      generalize wr.heap.size = N
      intro HI8 HV8 HNM
      obtain ⟨M, HM⟩ : ∃ M, Hid (leadOf (L.ver + 1) s.p.value = M) := ⟨_, hide rfl⟩
      have HVM : Hid (VarT W8 N 30 M.ver M.own M.gen) := hide (by rw [← unhide HM]; exact unhide HV8)
      obtain ⟨v0, v1, v2⟩ := (unhide HVM).cells
      clear HV8
      go_wp2_with fail
      refine (leaderOK_spec M _).mono ?_
      rintro e wB ⟨rfl, hbB⟩
      have HI9 := hide ((unhide HI8).next hbB)
      have HVN := hide ((unhide HVM).below hbB)
      clear hbB v0 v1 v2
      obtain ⟨bl, HBL⟩ : ∃ bl, Hid (ldB M = bl) := ⟨_, hide rfl⟩
      rw [unhide HBL]
      obtain ⟨t0, t1, t2⟩ := (unhide HI9).o.cells
      cases bl with
      | false =>
        have HQ : Hid (R = ⟨s.ss, s.xs, L, 19⟩) := hide (by rw [unhide HLAST, unhide HES, elLast, unhide HM, if_neg (fun hq => by have := hq.2; rw [unhide HBL] at this; cases this)])
        obtain ⟨d0, d1⟩ := (unhide HI9).d.cells
        obtain ⟨r0, r1⟩ := (unhide HI9).r.cells
        have r2 := (unhide HI9).r.free 0
        have r3 := (unhide HI9).r.free 1
        obtain ⟨u0, u1, u2⟩ := (unhide HI9).t.cells
        obtain ⟨u3, u4, u5⟩ := (unhide HI9).t.free
        have HF := hide (fun a b x y z => (unhide HI9).out (unhide HAP) a b x y z)
        go_wp2
        go_region
        all_goals
          go_wp2
          refine bodyPost_ret (v := .tuple #[.agg #[.slice ao' s.ss.length ca', .slice qo' s.xs.length cb'], lV L, .int .i64 19]) (by simp [results, Tryz.results41, go_sem, r0, r1, u0, u1, u2]) rfl ?_
          first
            | exact left_end (unhide HQ) (left_drew (unhide HF _ _ _ _ _).1)
            | exact left_end (unhide HQ) (left_drew (unhide HF _ _ _ _ _).2)
            | exact left_end (unhide HQ) (unhide HF _ _ _ _ _).1
            | exact left_end (unhide HQ) (unhide HF _ _ _ _ _).2
      | true =>
        obtain ⟨t, HTE⟩ : ∃ t, Hid (encL M = t) := ⟨_, hide rfl⟩
        have HTS : Hid (t.size ≤ 80) := hide (by rw [← unhide HTE]; first | (rw [encB_size]; decide) | (rw [encL_size]; decide))
        have HP : Hid (diskB s.ss (s.xs ++ [⟨h, (0 : Int), t⟩]) = true) := hide (diskB_snoc (unhide HOK).1.d (unhide HOK).1.l (w_io h0 h3 (by omega) (by omega) (unhide HTS)))
        have HXL : Hid (s.xs.length ≤ 1048576) := hide (by have := (unhide HOK).1.l; omega)
        have HRGT := hide (w_right (t := t) (unhide HOK).1.d (unhide HOK).1.l h0 h3 (show 0 ≤ (0 : Int) by omega) (show (0 : Int) ≤ 63 by omega) (unhide HTS))
        have HNL := hide (wS_len s.ss s.xs h ((0 : Int)) t)
        obtain ⟨S, HSS⟩ : ∃ S, Hid (wS s.ss s.xs h ((0 : Int)) t = S) := ⟨_, hide rfl⟩
        obtain ⟨Y, HXX⟩ : ∃ Y, Hid (wX s.xs h ((0 : Int)) t = Y) := ⟨_, hide rfl⟩
        rw [unhide HSS] at HRGT HNL
        rw [unhide HXX] at HRGT
        have HQ : Hid (R = ⟨S, Y, M, 0⟩) := hide (by rw [unhide HLAST, unhide HES, elLast, unhide HM, if_pos ⟨unhide HP5, unhide HBL⟩, unhide HTE, unhide HSS, unhide HXX])
        have HRS := hide ((unhide HI9).a.ss (unhide HI9).below)
        have HENC : Hid (∀ W, Calls Tryz.prog 54 #[lV M] W fun e w' => e = .returned (.string t) ∧ Below W.heap.size W w') := hide (fun W => by have k9 := l06Encode_ld M W (unhide HBL); rw [unhide HTE] at k9; exact k9)
        have HFL : Hid (∀ (gg cap B : Nat) (W : World), Below wB.heap.size wB W → W.ownsRow B 75 3 (.slice (some ⟨gg, 0, none⟩) (s.xs.length + 1) cap) (s.xs.length + 1) (ioV (s.xs ++ [⟨h, 0, t⟩])) → Calls Tryz.prog 52 #[.agg #[.slice ao' s.ss.length ca', .slice (some ⟨gg, 0, none⟩) (s.xs.length + 1) cap], .int .i64 h] W fun e w' => ∃ po pa qo qa, e = .returned (.agg #[.slice po S.length pa, .slice qo Y.length qa]) ∧ OwnD w' W.heap.size po S.length pa qo Y.length qa S Y ∧ Below W.heap.size W w') := hide (fun gg cap B W hW hO => by
          refine (l01Flush_sure ao' ca' gg cap B s.ss s.xs h 0 t S Y W (unhide HSS) (unhide HXX) (unhide HP) ((unhide HRS).1.below hW) hO).mono ?_
          rintro e w' ⟨po, pa, qo, qa, he, ho, hb⟩
          exact ⟨po, pa, qo, qa, by rw [he, unhide HNL], by rw [unhide HNL]; exact ho, hb⟩)
        have HWR := hide (fun (W : World) (hW : Below wB.heap.size wB W) => l01Write_hd ao' qo' s.ss.length ca' cb' s.xs h 0 t W (unhide HXL) ((unhide HRS).2.below hW))
        obtain ⟨d0, d1⟩ := (unhide HI9).d.cells
        obtain ⟨v0, v1, v2⟩ := (unhide HVN).cells
        have hdl : w.heap.size < wB.heap.size := (unhide HI9).d.lt
        have hnl : N < wB.heap.size := (unhide HVN).lt
        have x1 := (unhide HNM).1
        have x1' := Ne.symm (unhide HNM).1
        have x2 := (unhide HNM).2.1
        have x2' := Ne.symm (unhide HNM).2.1
        have x3 := (unhide HNM).2.2
        have x3' := Ne.symm (unhide HNM).2.2
        clear t0 t1 t2
        go_wp2_with fail
        go_cut [19] from 110 to 117 (fun c wx => c = .pointer (some ⟨N, 0, none⟩) ∧ ∃ po pa ro ra, Hid (LeI w wx w.heap.size B1 B2 O S Y L po pa ro ra) ∧ Hid (VarT wx N 30 M.ver M.own M.gen))
        case first =>
          go_region_with
            (first
              | (go_at_call 54; refine (unhide HENC _).mono ?_; rintro e wF ⟨rfl, hbF⟩; have HBF := hide (fr (Below.refl _ wB).drew hbF); clear hbF; have a0 := ((unhide HBF).cell (p := ⟨w.heap.size, 0, none⟩) hdl).trans d0; have a1 := ((unhide HBF).cell (p := ⟨w.heap.size, 1, none⟩) hdl).trans d1; obtain ⟨a2, a3, a4⟩ := ((unhide HVN).below (unhide HBF)).cells)
              | (go_at_call 53; refine (unhide HWR _ (unhide HBF)).mono ?_; rintro e wG ⟨gg, cap, rfl, hoG, hbG⟩; have HOG := hide hoG; have HBG := hide (fr (unhide HBF) hbG); clear hoG hbG; have a6 := ((unhide HBG).cell (p := ⟨w.heap.size, 0, none⟩) hdl).trans d0; have a7 := ((unhide HBG).cell (p := ⟨w.heap.size, 1, none⟩) hdl).trans d1; obtain ⟨a8, a9, aa⟩ := ((unhide HVN).below (unhide HBG)).cells)
              | (go_at_call 52; refine (unhide HFL gg cap _ _ (unhide HBG) (unhide HOG)).mono ?_; rintro e wH ⟨po, pa, ro2, ra2, rfl, hoH, hbH⟩; have HOH := hide (hoH.base (B' := w.heap.size) (Nat.le_trans (unhide HI9).below.size (unhide HBG).size)); have HBH := hide (fr (unhide HBG) hbH); clear hoH hbH; have b0 := ((unhide HBH).cell (p := ⟨w.heap.size, 0, none⟩) hdl).trans d0; have b1 := ((unhide HBH).cell (p := ⟨w.heap.size, 1, none⟩) hdl).trans d1; obtain ⟨b2, b3, b4⟩ := ((unhide HVN).below (unhide HBH)).cells; have b6 := ((unhide HI9).d.below (unhide HBH)).free 0; have b7 := ((unhide HI9).d.below (unhide HBH)).free 1))
          all_goals
            have HIW := hide (LeI.write (unhide HI9) (unhide HAP) (unhide HBH) (unhide HOH) (unhide HRGT))
            have HVC := hide (((unhide HVN).below (unhide HBH)).keep (keep2 wH w.heap.size (.slice po S.length pa) (.slice ro2 Y.length ra2)) (Ne.symm (unhide HNM).1))
            go_wp2_with fail
            go_meet
            exact ⟨rfl, po, pa, ro2, ra2, HIW, HVC⟩
        case rest =>
          obtain ⟨rfl, ao', ca', qo', cb', HIW, HVC⟩ := hcut
          clear d0 d1 v0 v1 v2 hdl hnl
          obtain ⟨v0, v1, v2⟩ := (unhide HVC).cells
          obtain ⟨d0, d1⟩ := (unhide HIW).d.cells
          obtain ⟨r0, r1⟩ := (unhide HIW).r.cells
          have r2 := (unhide HIW).r.free 0
          have r3 := (unhide HIW).r.free 1
          obtain ⟨u0, u1, u2⟩ := (unhide HIW).t.cells
          obtain ⟨u3, u4, u5⟩ := (unhide HIW).t.free
          have HF := hide (fun a b x y z => (unhide HIW).out (unhide HAP) a b x y z)
          go_wp2
          go_region
          all_goals
            go_wp2
            refine bodyPost_ret (v := .tuple #[.agg #[.slice ao' S.length ca', .slice qo' Y.length cb'], lV M, .int .i64 0]) (by simp [results, Tryz.results41, go_sem, r0, r1, u0, u1, u2]) rfl ?_
            first
              | exact left_end (unhide HQ) (left_drew (unhide HF _ _ _ _ _).1)
              | exact left_end (unhide HQ) (left_drew (unhide HF _ _ _ _ _).2)
              | exact left_end (unhide HQ) (unhide HF _ _ _ _ _).1
              | exact left_end (unhide HQ) (unhide HF _ _ _ _ _).2

end Go.Proofs.YtefnapcegeojoaaGreatDoor

namespace Go.Proofs.YtefnapcegeojoaaGreatDoor
open Go.RowKit
set_option linter.unusedVariables false
set_option maxRecDepth 100000

def AnsOK (R : Ans) : Prop := (R.ss = [] ∧ R.xs = []) ∨ diskB R.ss R.xs = true
theorem elA_ok (ss : List ByteArray) (xs : List Wr) (h o g : Int) : AnsOK (elA ss xs h o g) := by
  by_cases e : leC ss xs h = 0
  · cases e1 : (inB o 0 3 && inB g 1 1000000) with
    | false => rw [elA_range e e1]; exact .inl ⟨rfl, rfl⟩
    | true =>
      obtain ⟨ed, ⟨h0, h3⟩, el⟩ := leC_eq e
      cases e2 : elMany ss xs h with
      | true => rw [elA_many e e1 e2]; exact .inr ed
      | false =>
        rw [elA_end e e1 e2]
        have k := elRun_ok 13 _ (elFrom_ok e e1 e2)
        have k' : ElOK h (elEnd (elFrom ss xs h o g)) := k
        unfold elLast
        split
        · exact .inr (w_right k'.d k'.l h0 h3 (by decide) (by decide) (by rw [encL_size]; decide))
        · exact .inr k'.d
  · rw [elA_room e]; exact .inl ⟨rfl, rfl⟩
set_option maxHeartbeats 1600000 in
theorem elect_spec (R : Ans) (ao bo : Option Addr) (ca cb : Nat) (ss : List ByteArray) (xs : List Wr) (h o g : Int) (w : World) (hR : elA ss xs h o g = R) (hl : ss.length ≤ maxLen) (hm : xs.length ≤ maxLen) (h1 : Ss w ao ss) (h2 : Ios w bo xs) :
    Calls Tryz.prog 11 #[.agg #[.slice ao ss.length ca, .slice bo xs.length cb], .int .i64 h, .int .i64 o, .int .i64 g] w fun e w' => Told w w' R e := by
  have HT := hide (tl_new3 w ao bo ca cb ss.length xs.length)
  have HL := hide hl
  have HM := hide hm
  have H1 := hide h1
  have H2 := hide h2
  have HRR := hide hR
  clear h1 h2 hl hm hR
  go_enter Tryz.func11, Tryz.ntmps11
  go_upto_region 1 with fail
  revert HT
  generalize (((w.alloc (.cells #[.slice ao ss.length ca, .slice bo xs.length cb] 26)).alloc (.cells #[.slice none 0 0, .slice none 0 0] 26)).alloc (.cells #[.int .i64 0, .int .i64 0, .int .i64 0] 30)) = W0
  intro HT
  have HO : Hid (w.heap.size ≤ w.heap.size + 1 ∧ w.heap.size ≤ w.heap.size + 1 + 1 ∧ w.heap.size + 1 ≠ w.heap.size + 1 + 1) := hide (by omega)
  generalize w.heap.size + 1 + 1 = B2 at *
  generalize w.heap.size + 1 = B1 at *
  have x3 : B1 ≠ B2 := (unhide HO).2.2
  have x3' : B2 ≠ B1 := Ne.symm (unhide HO).2.2
  obtain ⟨d0, d1⟩ := (unhide HT).d.cells
  go_wp2_with fail
  refine (l06Ask_any _ _ _ _ ss xs h _ (unhide HL) (unhide HM) ((unhide H1).below (unhide HT).below) ((unhide H2).below (unhide HT).below)).mono ?_
  rintro e w1 ⟨rfl, hb1⟩
  have HT1 := hide ((unhide HT).next hb1)
  clear hb1 d0 d1
  obtain ⟨c, HC⟩ : ∃ c, Hid (leC ss xs h = c) := ⟨_, hide rfl⟩
  rw [unhide HC]
  by_cases hc : c = 0
  · have hb : (c != 0) = false := by simp [hc]
    have HC0 : Hid (leC ss xs h = 0) := hide ((unhide HC).trans hc)
    clear hc
    have HZ : Hid ((inB o 0 3 && inB g 1 1000000) = false → R = ⟨[], [], ld0, 4⟩) := hide (fun hx => by rw [← unhide HRR]; exact elA_range (unhide HC0) hx)
    obtain ⟨b1, HB1⟩ : ∃ b, Hid (inB o 0 3 = b) := ⟨_, hide rfl⟩
    obtain ⟨b2, HB2⟩ : ∃ b, Hid (inB g 1 1000000 = b) := ⟨_, hide rfl⟩
    go_wp2_with fail
    refine (l04Host_any o _).mono ?_
    rintro e w2 ⟨rfl, hw⟩
    replace hw := hw.symm
    subst hw
    rw [unhide HB1]
    obtain ⟨r0, r1⟩ := (unhide HT1).r.cells
    have r2 := (unhide HT1).r.free 0
    have r3 := (unhide HT1).r.free 1
    obtain ⟨t0, t1, t2⟩ := (unhide HT1).t.cells
    obtain ⟨t3, t4, t5⟩ := (unhide HT1).t.free
    have HF := hide (fun a b x y z => below5 (unhide HT1).below (unhide HO).1 (unhide HO).2.1 a b x y z)
    cases b1 with
    | false =>
      have HQ := hide (unhide HZ (by rw [unhide HB1]; rfl))
      go_wp2
      exact bodyPost_ret (v := .tuple #[.agg #[.slice none 0 0, .slice none 0 0], lV ld0, .int .i64 4]) (by simp [results, Tryz.results11, go_sem, r0, r1, t0, t1, t2, ld0]) rfl (told_zero (unhide HQ) (unhide HF _ _ _ _ _))
    | true =>
      go_wp2_with fail
      refine (l01In_num g 1 1000000 _).mono ?_
      rintro e w2 ⟨rfl, hw⟩
      replace hw := hw.symm
      subst hw
      rw [unhide HB2]
      cases b2 with
      | false =>
        have HQ := hide (unhide HZ (by rw [unhide HB1, unhide HB2]; rfl))
        go_wp2
        exact bodyPost_ret (v := .tuple #[.agg #[.slice none 0 0, .slice none 0 0], lV ld0, .int .i64 4]) (by simp [results, Tryz.results11, go_sem, r0, r1, t0, t1, t2, ld0]) rfl (told_zero (unhide HQ) (unhide HF _ _ _ _ _))
      | true =>
        have HCE := hide (fun W (hW : Below w.heap.size w W) => l06Elect_any R ao bo ca cb ss xs h o g W (unhide HRR) (unhide HC0) (by rw [unhide HB1, unhide HB2]; rfl) ((unhide H1).below hW) ((unhide H2).below hW))
        have HSZ : Hid (R.ss.length ≤ 1048576 ∧ R.xs.length ≤ 1048576) := hide (by
          have k9 := elA_ok ss xs h o g
          rw [unhide HRR] at k9
          rcases k9 with ⟨a, b⟩ | k9
          · rw [a, b]; simp
          · have := diskB_len k9; omega)
        obtain ⟨d0, d1⟩ := (unhide HT1).d.cells
        clear r0 r1 r2 r3 t0 t1 t2 t3 t4 t5
        go_wp2_with fail
        refine (unhide HCE _ (unhide HT1).below).mono ?_
        rintro e w3 ⟨po, pa, qo, qa, rfl, hs3, hi3, hb3⟩
        have HA3 := hide (Joins.below_alloc2 w3 (.cells #[.slice po R.ss.length pa, .slice qo R.xs.length qa] 26) (.cells #[.int .i64 R.l.ver, .int .i64 R.l.own, .int .i64 R.l.gen] 30))
        have HT3 := hide (((unhide HT1).next hb3).next (unhide HA3))
        have HS3 := hide (And.intro (hs3.below (unhide HA3)) (hi3.below (unhide HA3)))
        have HV3 := hide ((VarD.new w3 (.slice po R.ss.length pa) (.slice qo R.xs.length qa)).below (Joins.below_alloc1 _ (.cells #[.int .i64 R.l.ver, .int .i64 R.l.own, .int .i64 R.l.gen] 30)))
        have HU3 := hide (varL_new w3 (.cells #[.slice po R.ss.length pa, .slice qo R.xs.length qa] 26) R.l.ver R.l.own R.l.gen)
        have HNN : Hid (B1 < w3.heap.size ∧ B2 < w3.heap.size) := hide ⟨((unhide HT1).next hb3).r.lt, ((unhide HT1).next hb3).t.lt⟩
        clear hs3 hi3 hb3 d0 d1 HA3
        go_wp2_with fail
        revert HT3 HS3 HV3 HU3 HNN
        generalize (w3.alloc (.cells #[.slice po R.ss.length pa, .slice qo R.xs.length qa] 26)).alloc (.cells #[.int .i64 R.l.ver, .int .i64 R.l.own, .int .i64 R.l.gen] 30) = W4
        intro HT3 HS3 HV3 HU3 HNN
        have y1 : B1 ≠ w3.heap.size := by have := unhide HNN; omega
        have y2 : B2 ≠ w3.heap.size := by have := unhide HNN; omega
        have y3 : B1 ≠ w3.heap.size + 1 := by have := unhide HNN; omega
        have y4 : B2 ≠ w3.heap.size + 1 := by have := unhide HNN; omega
        generalize w3.heap.size + 1 = C2 at *
        generalize w3.heap.size = C1 at *
        have y1' := y1.symm
        have y2' := y2.symm
        have y3' := y3.symm
        have y4' := y4.symm
        obtain ⟨d0, d1⟩ := (unhide HV3).cells
        obtain ⟨v0, v1, v2⟩ := (unhide HU3).cells
        have HOW := hide (fun W (hW : Below W4.heap.size W4 W) => l01Own_any po qo pa qa R.ss R.xs W (unhide HSZ).1 (unhide HSZ).2 ((unhide HS3).1.below hW) ((unhide HS3).2.below hW))
        go_region_held3 (fun w' => w'.cell? ⟨C1, 0, none⟩ = some (.slice po R.ss.length pa) ∧ w'.cell? ⟨C1, 1, none⟩ = some (.slice qo R.xs.length qa) ∧ w'.cell? ⟨C2, 0, none⟩ = some (.int .i64 R.l.ver) ∧ w'.cell? ⟨C2, 1, none⟩ = some (.int .i64 R.l.own) ∧ w'.cell? ⟨C2, 2, none⟩ = some (.int .i64 R.l.gen)) (go_keep)
          ((go_at_call 31; refine (unhide HOW _ (Below.refl _ W4).drew).mono ?_; rintro e wA ⟨po2, pa2, qo2, qa2, rfl, hoA, hbA⟩; have HBA := hide (fr (Below.refl _ W4).drew hbA); have HOA := hide (hoA.base (B' := w.heap.size) (unhide HT3).below.size); have HTA := hide ((unhide HT3).next (unhide HBA)); clear hoA hbA; obtain ⟨a0, a1⟩ := ((unhide HV3).below (unhide HBA)).cells; obtain ⟨a2, a3, a4⟩ := ((unhide HU3).below (unhide HBA)).cells; obtain ⟨r0, r1⟩ := (unhide HTA).r.cells; have r2 := (unhide HTA).r.free 0; have r3 := (unhide HTA).r.free 1; obtain ⟨u0, u1, u2⟩ := (unhide HTA).t.cells; obtain ⟨u3, u4, u5⟩ := (unhide HTA).t.free))
        all_goals
          have HFF := hide (fun a b x y z => (unhide HTA).out (unhide HOA) (unhide HO).1 (unhide HO).2.1 a b x y z)
          have HF2 := hide (fun a b x y z => (unhide HTA).out2 (unhide HOA) (unhide HO).1 (unhide HO).2.1 a b x y z)
          go_wp2
          refine bodyPost_ret (v := .tuple #[.agg #[.slice po2 R.ss.length pa2, .slice qo2 R.xs.length qa2], lV R.l, .int .i64 R.c]) (by simp [results, Tryz.results11, go_sem, r0, r1, u0, u1, u2]) rfl ?_
          first
            | exact told_end (s := ⟨R.ss, R.xs, p00, []⟩) rfl (unhide HFF _ _ _ _ _).1 (unhide HFF _ _ _ _ _).2
            | exact told_end (s := ⟨R.ss, R.xs, p00, []⟩) rfl (unhide HF2 _ _ _ _ _).1 (unhide HF2 _ _ _ _ _).2
            | exact told_end (s := ⟨R.ss, R.xs, p00, []⟩) rfl ((unhide HFF _ _ _ _ _).1.below (Below.refl _ _).drew) (unhide HFF _ _ _ _ _).2.drew
  · have hb : (c != 0) = true := by simp [hc]
    have HQ : Hid (R = ⟨[], [], ld0, c⟩) := hide (by rw [← unhide HRR, ← unhide HC]; exact elA_room (by rw [unhide HC]; exact hc))
    clear hc
    obtain ⟨r0, r1⟩ := (unhide HT1).r.cells
    have r2 := (unhide HT1).r.free 0
    have r3 := (unhide HT1).r.free 1
    obtain ⟨t0, t1, t2⟩ := (unhide HT1).t.cells
    obtain ⟨t3, t4, t5⟩ := (unhide HT1).t.free
    have HF := hide (fun a b x y z => below5 (unhide HT1).below (unhide HO).1 (unhide HO).2.1 a b x y z)
    go_wp2
    exact bodyPost_ret (v := .tuple #[.agg #[.slice none 0 0, .slice none 0 0], lV ld0, .int .i64 c]) (by simp [results, Tryz.results11, go_sem, r0, r1, t0, t1, t2, ld0]) rfl (told_zero (unhide HQ) (unhide HF _ _ _ _ _))

end Go.Proofs.YtefnapcegeojoaaGreatDoor

namespace Go.Proofs.YtefnapcegeojoaaGreatDoor
open Go.RowKit
set_option linter.unusedVariables false
set_option maxRecDepth 100000

end Go.Proofs.YtefnapcegeojoaaGreatDoor

namespace Go.Proofs.YtefnapcegeojoaaGreatDoor
open Go.RowKit
set_option linter.unusedVariables false
set_option maxRecDepth 100000

theorem iosNil (w : World) (bo : Option Addr) : Ios w bo [] := fun i hi => absurd hi (Nat.not_lt_zero _)
theorem toldNil {w W : World} {R : Ans} {e : Ending} (hx : R.xs = []) (hd : diskB R.ss [] = true) (h : Told w W R e) : ∃ po pa qo qa, e = .returned (.tuple #[.agg #[.slice po R.ss.length pa, .slice qo 0 qa], lV R.l, .int .i64 R.c]) ∧ Ss W po R.ss ∧ Below w.heap.size w W := by
  obtain ⟨po, pa, qo, qa, he, ho, hb⟩ := h
  rw [hx] at he ho
  exact ⟨po, pa, qo, qa, he, ho.ss (right_sz hd).2.1, hb⟩
theorem elect_nil (R : Ans) (ao bo : Option Addr) (ca cb : Nat) (ss : List ByteArray) (h o g : Int) (w : World) (hR : elA ss [] h o g = R) (hx : R.xs = []) (hd : diskB R.ss [] = true) (hs : diskB ss [] = true) (h1 : Ss w ao ss) (hE : ErrW w) :
    Calls Tryz.prog 10 #[.agg #[.slice ao ss.length ca, .slice bo 0 cb], .int .i64 h, .int .i64 o, .int .i64 g] w fun e w' => ∃ po pa qo qa, e = .returned (.tuple #[.agg #[.slice po R.ss.length pa, .slice qo 0 qa], lV R.l, .int .i64 R.c]) ∧ Ss w' po R.ss ∧ Below w.heap.size w w' :=
  (elect_impl R ao bo ca cb ss [] h o g w hR (right_sz hs).1.1 (by simp) h1 (iosNil w bo) hE).mono fun e w' hT => toldNil hx hd hT
theorem elect_nilS (R : Ans) (ao bo : Option Addr) (ca cb : Nat) (ss : List ByteArray) (h o g : Int) (w : World) (hR : elA ss [] h o g = R) (hx : R.xs = []) (hd : diskB R.ss [] = true) (hs : diskB ss [] = true) (h1 : Ss w ao ss) :
    Calls Tryz.prog 11 #[.agg #[.slice ao ss.length ca, .slice bo 0 cb], .int .i64 h, .int .i64 o, .int .i64 g] w fun e w' => ∃ po pa qo qa, e = .returned (.tuple #[.agg #[.slice po R.ss.length pa, .slice qo 0 qa], lV R.l, .int .i64 R.c]) ∧ Ss w' po R.ss ∧ Below w.heap.size w w' :=
  (elect_spec R ao bo ca cb ss [] h o g w hR (right_sz hs).1.1 (by simp) h1 (iosNil w bo)).mono fun e w' hT => toldNil hx hd hT
theorem read_nilL (ao bo : Option Addr) (ca cb : Nat) (ss : List ByteArray) (h : Int) (L : Ld) (w : World) (he : rlK ss [] h = L ∧ hostC ss [] h = 0) (hs : diskB ss [] = true) (h1 : Ss w ao ss) (hE : ErrW w) :
    Calls Tryz.prog 9 #[.agg #[.slice ao ss.length ca, .slice bo 0 cb], .int .i64 h] w fun e w' => e = .returned (.tuple #[lV L, .int .i64 0]) ∧ Below w.heap.size w w' := by
  have k := readLeader_impl ao bo ca cb ss [] h w (right_sz hs).1.1 (by simp) h1 (iosNil w bo) hE
  rw [he.1, he.2] at k
  exact k
theorem holds_nil (ao bo : Option Addr) (ca cb : Nat) (ss : List ByteArray) (h g : Int) (b : Bool) (w : World) (he : hlB ss [] h g = b ∧ hostC ss [] h = 0) (hs : diskB ss [] = true) (h1 : Ss w ao ss) (hE : ErrW w) :
    Calls Tryz.prog 13 #[.agg #[.slice ao ss.length ca, .slice bo 0 cb], .int .i64 h, .int .i64 g] w fun e w' => e = .returned (.tuple #[.bool b, .int .i64 0]) ∧ Below w.heap.size w w' := by
  have k := holds_impl ao bo ca cb ss [] h g w (right_sz hs).1.1 (by simp) h1 (iosNil w bo) hE
  rw [he.1, he.2] at k
  exact k

structure Dm (w W : World) (T : List (Nat × Ld)) (D : List (Nat × List ByteArray)) : Prop where
  below : Below w.heap.size w W
  t : ∀ p ∈ T, VarT W p.1 30 p.2.ver p.2.own p.2.gen
  d : ∀ p ∈ D, ∃ ao ca bo cb, VarD W p.1 (.slice ao p.2.length ca) (.slice bo 0 cb) ∧ Ss W ao p.2
  e : ErrW W
theorem Dm.next {w W W' : World} {T : List (Nat × Ld)} {D : List (Nat × List ByteArray)} (h : Dm w W T D) (hb : Below W.heap.size W W') : Dm w W' T D :=
  ⟨fr h.below hb, fun p hp => (h.t p hp).below hb, fun p hp => by obtain ⟨ao, ca, bo, cb, h1, h2⟩ := h.d p hp; exact ⟨ao, ca, bo, cb, h1.below hb, h2.below hb⟩, h.e.below hb⟩
theorem Dm.addT {w W : World} {T : List (Nat × Ld)} {D : List (Nat × List ByteArray)} (h : Dm w W T D) (x : Ld) : Dm w (W.alloc (.cells #[.int .i64 x.ver, .int .i64 x.own, .int .i64 x.gen] 30)) ((W.heap.size, x) :: T) D := by
  have k := h.next (Joins.below_alloc1 W (.cells #[.int .i64 x.ver, .int .i64 x.own, .int .i64 x.gen] 30))
  refine ⟨k.below, fun p hp => ?_, k.d, k.e⟩
  rcases List.mem_cons.1 hp with rfl | hp
  · exact VarT.new W _ x.ver x.own x.gen
  · exact k.t p hp
theorem Dm.addD {w W : World} {T : List (Nat × Ld)} {D : List (Nat × List ByteArray)} {ss : List ByteArray} {po : Option Addr} (h : Dm w W T D) (hs : Ss W po ss) (pa : Nat) (qo : Option Addr) (qa : Nat) : Dm w (W.alloc (.cells #[.slice po ss.length pa, .slice qo 0 qa] 26)) T ((W.heap.size, ss) :: D) := by
  have hb := Joins.below_alloc1 W (.cells #[.slice po ss.length pa, .slice qo 0 qa] 26)
  have k := h.next hb
  refine ⟨k.below, k.t, fun p hp => ?_, k.e⟩
  rcases List.mem_cons.1 hp with rfl | hp
  · exact ⟨po, pa, qo, qa, VarD.new W _ _, hs.below hb⟩
  · exact k.d p hp
theorem Dm.both {w W : World} {T : List (Nat × Ld)} {D : List (Nat × List ByteArray)} {ss : List ByteArray} {po : Option Addr} (h : Dm w W T D) (hs : Ss W po ss) (pa : Nat) (qo : Option Addr) (qa : Nat) (x : Ld) : Dm w ((W.alloc (.cells #[.slice po ss.length pa, .slice qo 0 qa] 26)).alloc (.cells #[.int .i64 x.ver, .int .i64 x.own, .int .i64 x.gen] 30)) ((W.heap.size + 1, x) :: T) ((W.heap.size, ss) :: D) := by
  have k := (h.addD hs pa qo qa).addT x
  simp only [World.size_alloc] at k
  exact k

end Go.Proofs.YtefnapcegeojoaaGreatDoor

namespace Go.Proofs.YtefnapcegeojoaaGreatDoor
open Go.RowKit
set_option linter.unusedVariables false
set_option maxRecDepth 100000

set_option maxHeartbeats 3200000 in
theorem lawFnElect (ao : Option Addr) (ca n : Nat) (bo : Option Addr) (cb l : Nat) (w : World) (hn : n ≤ maxLen) (hB : Bs w ao n) (hl : l ≤ maxLen) (hC : Bs w bo l) (hE : ErrW w) :
    Calls Tryz.prog 3 #[.slice ao n ca, .slice bo l cb] w fun e w' => e = .returned (.bool true) ∧ Below w.heap.size w w' := by
  have HE := hide hE
  have HBS := hide hB
  have HCS := hide hC
  clear hE hB hC
  unfold maxLen at hn hl
  by_cases h : 1048576 < n
  · go_enter Tryz.func3, Tryz.ntmps3
    go_wp2
    go_ret
    exact ⟨rfl, Below.refl _ _⟩
  by_cases h2 : 1048576 < l
  · go_enter Tryz.func3, Tryz.ntmps3
    go_wp2
    go_ret
    exact ⟨rfl, Below.refl _ _⟩
  have hn' : n ≤ 1048576 := by omega
  have hl' : l ≤ 1048576 := by omega
  go_enter Tryz.func3, Tryz.ntmps3
  go_wp2_with fail
  refine (leaseDisk_any ao n ca _ hn' (unhide HBS)).mono ?_
  rintro e w1 ⟨ss, po, pa, qo, qa, rfl, hd, _, hs1, hb1⟩
  have HD0 := hide hd
  have HL0 := hide (diskB_len hd).1
  have E0 : Hid (Dm w w1 [] []) := hide ⟨hb1, fun p hp => (by cases hp), fun p hp => (by cases hp), (unhide HE).below hb1⟩
  have E1 := hide ((unhide E0).addD hs1 pa qo qa)
  have HC1 := hide ((unhide HCS).below (fr hb1 (Joins.below_alloc1 w1 (.cells #[.slice po ss.length pa, .slice qo 0 qa] 26))))
  clear hd hs1 hb1 E0 HE HBS HCS
  go_wp2_with fail
  revert E1 HC1
  generalize w1.alloc (.cells #[.slice po ss.length pa, .slice qo 0 qa] 26) = W1
  generalize w1.heap.size = C0
  intro E1 HC1
  refine (at_any bo l cb 0 4 _ hl' (by omega) (by omega) (by omega) (by omega) (unhide HC1)).mono ?_
  rintro e w2 ⟨hh, rfl, hh0, hh1, hb2⟩
  have E2 := hide ((unhide E1).next hb2)
  clear hb2 E1 HC1
  have hh3 : hh ≤ 3 := by omega
  -- plain
  obtain ⟨L, HLO⟩ : ∃ L, Hid (ldOf ss [] hh = L) := ⟨_, hide rfl⟩
  have hLr : 0 ≤ L.ver ∧ L.ver ≤ 1000000 := by rw [← unhide HLO]; exact (ldB_lo (ld_right _)).1
  have wrL : IntKind.i64.wrap (L.ver + 1) = L.ver + 1 := by rw [IntKind.wrap_i64]; omega
  have HRL := hide (rl_nil (unhide HD0) hh0 hh3 (unhide HLO))
  obtain ⟨R, HR⟩ : ∃ R, Hid (elA ss [] hh hh 7 = R) := ⟨_, hide rfl⟩
  have HPL := hide (el_plain (unhide HR) (unhide HD0) hh0 hh3 (by simp [inB]; omega))
  rw [unhide HLO] at HPL
  obtain ⟨SS, HSS⟩ : ∃ S, Hid (R.ss = S) := ⟨_, hide rfl⟩
  obtain ⟨M, HM⟩ : ∃ M, Hid (R.l = M) := ⟨_, hide rfl⟩
  obtain ⟨c, HC⟩ : ∃ c, Hid (R.c = c) := ⟨_, hide rfl⟩
  have HDS : Hid (diskB SS [] = true) := hide (by rw [← unhide HSS]; exact (unhide HPL).2.2.1)
  have HLS : Hid (SS.length ≤ maxLen) := hide (right_sz (unhide HDS)).1.1
  have HEI : Hid (∀ (ao bo : Option Addr) (ca cb : Nat) (W : World), Ss W ao ss → ErrW W → Calls Tryz.prog 10 #[.agg #[.slice ao ss.length ca, .slice bo 0 cb], .int .i64 hh, .int .i64 hh, .int .i64 7] W fun e w' => ∃ po pa qo qa, e = .returned (.tuple #[.agg #[.slice po SS.length pa, .slice qo 0 qa], lV M, .int .i64 c]) ∧ Ss w' po SS ∧ Below W.heap.size W w') := hide (fun ao bo ca cb W h1 hE => by
    have k := elect_nil R ao bo ca cb ss hh hh 7 W (unhide HR) (unhide HPL).2.1 (unhide HPL).2.2.1 (unhide HD0) h1 hE
    rw [unhide HSS, unhide HM, unhide HC] at k
    exact k)
  have HES : Hid (∀ (ao bo : Option Addr) (ca cb : Nat) (W : World), Ss W ao ss → Calls Tryz.prog 11 #[.agg #[.slice ao ss.length ca, .slice bo 0 cb], .int .i64 hh, .int .i64 hh, .int .i64 7] W fun e w' => ∃ po pa qo qa, e = .returned (.tuple #[.agg #[.slice po SS.length pa, .slice qo 0 qa], lV M, .int .i64 c]) ∧ Ss w' po SS ∧ Below W.heap.size W w') := hide (fun ao bo ca cb W h1 => by
    have k := elect_nilS R ao bo ca cb ss hh hh 7 W (unhide HR) (unhide HPL).2.1 (unhide HPL).2.2.1 (unhide HD0) h1
    rw [unhide HSS, unhide HM, unhide HC] at k
    exact k)
  rw [unhide HSS, unhide HM, unhide HC] at HPL
  -- the leader that was
  obtain ⟨a0, ca0, b0, cb0, hv0, hs0⟩ := (unhide E2).d (C0, ss) (by simp)
  obtain ⟨d0, d1⟩ := hv0.cells
  have HS0 := hide hs0
  clear hv0 hs0
  go_wp2_with fail
  refine (read_nilL _ _ _ _ ss hh L _ (unhide HRL) (unhide HD0) (unhide HS0) (unhide E2).e).mono ?_
  rintro e w3 ⟨rfl, hb3⟩
  have E3 := hide (((unhide E2).next hb3).addT L)
  clear hb3 d0 d1 HS0 E2
  go_upto_region 6 with fail
  revert E3
  generalize w3.alloc (.cells #[.int .i64 L.ver, .int .i64 L.own, .int .i64 L.gen] 30) = W3
  generalize w3.heap.size = CO
  intro E3
  -- the program's election
  obtain ⟨a0, ca0, b0, cb0, hv0, hs0⟩ := (unhide E3).d (C0, ss) (by simp)
  obtain ⟨d0, d1⟩ := hv0.cells
  have HS0 := hide hs0
  clear hv0 hs0
  go_wp2_with fail
  refine (unhide HEI _ _ _ _ _ (unhide HS0) (unhide E3).e).mono ?_
  rintro e w4 ⟨p4, pa4, q4, qa4, rfl, hs4, hb4⟩
  have E4 := hide (((unhide E3).next hb4).both hs4 pa4 q4 qa4 M)
  clear hs4 hb4 d0 d1 HS0 E3
  go_upto_region 7 with fail
  revert E4
  generalize (w4.alloc (.cells #[.slice p4 SS.length pa4, .slice q4 0 qa4] 26)).alloc (.cells #[.int .i64 M.ver, .int .i64 M.own, .int .i64 M.gen] 30) = W4
  generalize w4.heap.size + 1 = CM
  generalize w4.heap.size = CX
  intro E4
  -- the model's
  obtain ⟨a0, ca0, b0, cb0, hv0, hs0⟩ := (unhide E4).d (C0, ss) (by simp)
  obtain ⟨d0, d1⟩ := hv0.cells
  have HS0 := hide hs0
  clear hv0 hs0
  go_wp2_with fail
  refine (unhide HES _ _ _ _ _ (unhide HS0)).mono ?_
  rintro e w5 ⟨p5, pa5, q5, qa5, rfl, hs5, hb5⟩
  have E5 := hide (((unhide E4).next hb5).both hs5 pa5 q5 qa5 M)
  clear hs5 hb5 d0 d1 HS0 E4
  go_upto_region 8 with fail
  revert E5
  generalize (w5.alloc (.cells #[.slice p5 SS.length pa5, .slice q5 0 qa5] 26)).alloc (.cells #[.int .i64 M.ver, .int .i64 M.own, .int .i64 M.gen] 30) = W5
  generalize w5.heap.size + 1 = CN
  generalize w5.heap.size = CY
  intro E5
  -- both are alike
  obtain ⟨a0, ca0, b0, cb0, hv0, hs0⟩ := (unhide E5).d (CX, SS) (by simp)
  obtain ⟨d0, d1⟩ := hv0.cells
  obtain ⟨a1, ca1, b1, cb1, hv1, hs1⟩ := (unhide E5).d (CY, SS) (by simp)
  obtain ⟨d2, d3⟩ := hv1.cells
  have HS0 := hide hs0
  have HS1 := hide hs1
  clear hv0 hs0 hv1 hs1
  have bcc : (c != c) = false := by simp
  go_wp2_with fail
  refine (sameDisk_same _ _ _ _ _ _ _ _ SS [] _ (unhide HLS) (by simp) (unhide HS0) (iosNil _ _) (unhide HS1) (iosNil _ _)).mono ?_
  rintro e w6 ⟨rfl, hb6⟩
  have E6 := hide ((unhide E5).next hb6)
  clear hb6 d0 d1 d2 d3 HS0 HS1 E5
  obtain ⟨t0, t1, t2⟩ := ((unhide E6).t (CM, M) (by simp)).cells
  obtain ⟨u0, u1, u2⟩ := ((unhide E6).t (CN, M) (by simp)).cells
  have x0 : (M.ver == M.ver) = true := by simp
  have x1 : (M.own == M.own) = true := by simp
  have x2 : (M.gen == M.gen) = true := by simp
  have hcc := (unhide HPL).1
  by_cases hc : c = 0
  · have hc0 : (c != 0) = false := by simp [hc]
    obtain ⟨y1, y2, y3, y4, y5⟩ := (unhide HPL).2.2.2 hc
    clear hc hcc
    have HY2 := hide y2
    have HV := hide y1
    obtain ⟨hp, HHP⟩ : ∃ hp, Hid (Int.tmod (hh + 1) 4 = hp ∧ 0 ≤ hp ∧ hp ≤ 3) := ⟨_, hide ⟨rfl, by rw [Int.tmod_eq_emod_of_nonneg (by omega)]; omega, by rw [Int.tmod_eq_emod_of_nonneg (by omega)]; omega⟩⟩
    obtain ⟨hq, HHQ⟩ : ∃ hq, Hid (Int.tmod (M.own + 1) 4 = hq ∧ (0 ≤ hq ∧ hq ≤ 3) ∧ M.own ≠ hq) := ⟨_, hide ⟨rfl, by rw [Int.tmod_eq_emod_of_nonneg (by omega)]; omega, by rw [Int.tmod_eq_emod_of_nonneg (by omega)]; omega⟩⟩
    have wa : IntKind.i64.wrap (hh + 1) = hh + 1 := by rw [IntKind.wrap_i64]; omega
    have wb : IntKind.i64.wrap (M.own + 1) = M.own + 1 := by rw [IntKind.wrap_i64]; omega
    have wc : IntKind.i64.wrap hp = hp := by have := unhide HHP; rw [IntKind.wrap_i64]; omega
    have wd : IntKind.i64.wrap hq = hq := by have := unhide HHQ; rw [IntKind.wrap_i64]; omega
    have we := (unhide HHP).1
    have wf := (unhide HHQ).1
    have HR1 := hide (rl_nil (h := hp) (unhide HDS) (unhide HHP).2.1 (unhide HHP).2.2 (y5 hp))
    have HH1 := hide (hl_yes (h := M.own) (unhide HDS) y3.1 y3.2 (y5 M.own) rfl)
    have HH2 := hide (hl_no (h := hq) (g := M.gen) (unhide HDS) (unhide HHQ).2.1.1 (unhide HHQ).2.1.2 (y5 hq) (unhide HHQ).2.2)
    have HEN : Hid (elR M = encL M ∧ elC M = 0) := hide ⟨if_pos y2, if_pos y2⟩
    have HDE := hide (lc_enc y2)
    clear y1 y2 y3 y4 y5
    obtain ⟨a0, ca0, b0, cb0, hv0, hs0⟩ := (unhide E6).d (CX, SS) (by simp)
    obtain ⟨d0, d1⟩ := hv0.cells
    have HS0 := hide hs0
    clear hv0 hs0
    go_wp2_with fail
    refine (read_nilL _ _ _ _ SS hp M _ (unhide HR1) (unhide HDS) (unhide HS0) (unhide E6).e).mono ?_
    rintro e w7 ⟨rfl, hb7⟩
    have E7 := hide (((unhide E6).next hb7).addT M)
    clear hb7 d0 d1 HS0 E6 t0 t1 t2 u0 u1 u2
    go_upto_region 13 with fail
    revert E7
    generalize w7.alloc (.cells #[.int .i64 M.ver, .int .i64 M.own, .int .i64 M.gen] 30) = W7
    generalize w7.heap.size = CS
    intro E7
    obtain ⟨a0, ca0, b0, cb0, hv0, hs0⟩ := (unhide E7).d (CX, SS) (by simp)
    obtain ⟨d0, d1⟩ := hv0.cells
    obtain ⟨t0, t1, t2⟩ := ((unhide E7).t (CM, M) (by simp)).cells
    have HS0 := hide hs0
    clear hv0 hs0
    go_wp2_with fail
    refine (holds_nil _ _ _ _ SS M.own M.gen true _ (unhide HH1) (unhide HDS) (unhide HS0) (unhide E7).e).mono ?_
    rintro e w8 ⟨rfl, hb8⟩
    have E8 := hide ((unhide E7).next hb8)
    clear hb8 d0 d1 HS0 E7 t0 t1 t2
    obtain ⟨a0, ca0, b0, cb0, hv0, hs0⟩ := (unhide E8).d (CX, SS) (by simp)
    obtain ⟨d0, d1⟩ := hv0.cells
    obtain ⟨t0, t1, t2⟩ := ((unhide E8).t (CM, M) (by simp)).cells
    have HS0 := hide hs0
    clear hv0 hs0
    go_wp2_with fail
    refine (holds_nil _ _ _ _ SS hq M.gen false _ (unhide HH2) (unhide HDS) (unhide HS0) (unhide E8).e).mono ?_
    rintro e w9 ⟨rfl, hb9⟩
    have E9 := hide ((unhide E8).next hb9)
    clear hb9 d0 d1 HS0 E8 t0 t1 t2
    obtain ⟨t0, t1, t2⟩ := ((unhide E9).t (CM, M) (by simp)).cells
    go_wp2_with fail
    refine (encodeLeader_impl M _).mono ?_
    rintro e wa ⟨rfl, hba⟩
    rw [(unhide HEN).1, (unhide HEN).2]
    have Ea := hide ((unhide E9).next hba)
    clear hba E9 t0 t1 t2
    go_wp2_with fail
    refine (decodeLeader_impl (encL M) _ (unhide Ea).e).mono ?_
    rintro e wb ⟨rfl, hbb⟩
    rw [(unhide HDE).1, (unhide HDE).2]
    have Eb := hide (((unhide Ea).next hbb).addT M)
    clear hbb Ea
    go_upto_region 17 with fail
    revert Eb
    generalize wb.alloc (.cells #[.int .i64 M.ver, .int .i64 M.own, .int .i64 M.gen] 30) = Wb
    generalize wb.heap.size = CB
    intro Eb
    obtain ⟨t0, t1, t2⟩ := ((unhide Eb).t (CM, M) (by simp)).cells
    obtain ⟨u0, u1, u2⟩ := ((unhide Eb).t (CS, M) (by simp)).cells
    obtain ⟨v0, v1, v2⟩ := ((unhide Eb).t (CB, M) (by simp)).cells
    obtain ⟨z0, z1, z2⟩ := ((unhide Eb).t (CO, L) (by simp)).cells
    have bv : (M.ver == L.ver + 1) = true := by rw [unhide HV]; simp
    go_wp2_with fail
    refine (leaderOK_impl M _).mono ?_
    rintro e wc ⟨rfl, hbc⟩
    rw [unhide HY2]
    have HK := hide (fr (unhide Eb).below hbc)
    clear hbc
    go_wp2
    go_ret
    exact ⟨rfl, unhide HK⟩
  · have hc0 : (c != 0) = true := by simp [hc]
    have hcd : (c == 19) = true ∨ ((c == 19) = false ∧ (c == 6) = true) := by
      rcases hcc with k | k | k
      · exact absurd k hc
      · exact .inr ⟨by simp [k], by simp [k]⟩
      · exact .inl (by simp [k])
    clear hc hcc
    have HK := hide (unhide E6).below
    rcases hcd with k1 | ⟨k1, k2⟩
    · go_wp2
      go_ret
      exact ⟨rfl, unhide HK⟩
    · go_wp2
      go_ret
      exact ⟨rfl, unhide HK⟩

end Go.Proofs.YtefnapcegeojoaaGreatDoor
