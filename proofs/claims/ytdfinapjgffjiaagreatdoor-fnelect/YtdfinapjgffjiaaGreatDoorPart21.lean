import Derived.Test.YtdfinapjgffjiaaGreatDoorRows
import Derived.Test.YtdfinapjgffjiaaGreatDoorPart1
import Derived.Test.YtdfinapjgffjiaaGreatDoorPart2
import Derived.Test.YtdfinapjgffjiaaGreatDoorPart3
import Derived.Test.YtdfinapjgffjiaaGreatDoorPart6
import Derived.Test.YtdfinapjgffjiaaGreatDoorPart14
import Derived.Test.YtdfinapjgffjiaaGreatDoorPart9
import Derived.Test.YtdfinapjgffjiaaGreatDoorPart20
import Derived.Test.YtdfinapjgffjiaaGreatDoorPart12
import Derived.Test.YtdfinapjgffjiaaGreatDoorPart19
import Derived.WalkKit
import Derived.WalkSpells
import Derived.KernelRfl
import Derived.Deep.RegionWith
import Derived.Deep.RegionHeld3
import Derived.Deep.MidRow
import Derived.Deep.CutRange
import Derived.Test.YtdfinapjgffjiaaGreatDoorPart10
import Derived.Test.YtdfinapjgffjiaaGreatDoorPart4
import Derived.Test.YtdfinapjgffjiaaGreatDoorPart13

/- Contract of spec.Elect; how great the answers of Elect and Release are. -/
namespace Go.Proofs.YtdfinapjgffjiaaGreatDoor
open Go.RowKit
set_option linter.unusedVariables false
set_option maxRecDepth 100000

/-- A right disk, or none. -/
def AnsOK (R : Ans) : Prop := (R.ss = [] ∧ R.xs = []) ∨ diskB R.ss R.xs = true
theorem elA_ok (ss : List ByteArray) (xs : List Wr) (h o g : Int) : AnsOK (elA ss xs h o g) := by
  by_cases e : leC ss xs h = 0
  · cases e1 : (inB o 0 3 && inB g 1 1000000) with
    | false => rw [elA_range e e1]; exact .inl ⟨rfl, rfl⟩
    | true =>
      obtain ⟨ed, ⟨h0, h3⟩, el⟩ := leC_eq e
      cases e2 : elMany ss xs h with
      | true => rw [elA_many e e1 e2]; exact .inr ed
      | false =>
        rw [elA_end e e1 e2]
        have k := elRun_ok 13 _ (elFrom_ok e e1 e2)
        have k' : ElOK h (elEnd (elFrom ss xs h o g)) := k
        unfold elLast
        split
        · exact .inr (w_right k'.d k'.l h0 h3 (by decide) (by decide) (by rw [encL_size]; decide))
        · exact .inr k'.d
  · rw [elA_room e]; exact .inl ⟨rfl, rfl⟩
theorem rsA_ok (ss : List ByteArray) (xs : List Wr) (h : Int) (X : Ld) : AnsOK (rsA ss xs h X) := by
  unfold rsA
  split
  · rename_i e
    obtain ⟨ed, ⟨h0, h3⟩, el⟩ := leC_eq e
    split
    · split
      · split
        · split
          · exact .inr ed
          · exact .inr (w_right ed el h0 h3 (by decide) (by decide) (by rw [encL_size]; decide))
        · exact .inr ed
      · exact .inr ed
    · exact .inl ⟨rfl, rfl⟩
  · exact .inl ⟨rfl, rfl⟩
theorem AnsOK.sizes {R : Ans} (h : AnsOK R) : ((∀ s ∈ R.ss, s.size ≤ maxLen) ∧ ∀ x ∈ R.xs, x.data.size ≤ maxLen) ∧ R.ss.length ≤ 2097152 ∧ R.xs.length ≤ 2097152 := by
  rcases h with ⟨h1, h2⟩ | h
  · rw [h1, h2]
    exact ⟨⟨fun s hs => absurd hs (by simp), fun s hs => absurd hs (by simp)⟩, by simp, by simp⟩
  · have := diskB_len h
    exact ⟨⟨rightS h, rightX h⟩, by omega, by omega⟩

set_option maxHeartbeats 1600000 in
theorem elect_spec (R : Ans) (ao bo : Option Addr) (ca cb : Nat) (ss : List ByteArray) (xs : List Wr) (h o g : Int) (w : World) (hR : elA ss xs h o g = R) (hl : ss.length ≤ maxLen) (hm : xs.length ≤ maxLen) (h1 : Ss w ao ss) (h2 : Ios w bo xs) :
    Calls Tryz.prog 9 #[.agg #[.slice ao ss.length ca, .slice bo xs.length cb], .int .i64 h, .int .i64 o, .int .i64 g] w fun e w' => Told w w' R e := by
  have HT := hide (tl_new3 w ao bo ca cb ss.length xs.length)
  have HL := hide hl
  have HM := hide hm
  have H1 := hide h1
  have H2 := hide h2
  have HRR := hide hR
  clear h1 h2 hl hm hR
  go_enter Tryz.func9, Tryz.ntmps9
  go_upto_region 1 with fail
  revert HT
  generalize (((w.alloc (.cells #[.slice ao ss.length ca, .slice bo xs.length cb] 26)).alloc (.cells #[.slice none 0 0, .slice none 0 0] 26)).alloc (.cells #[.int .i64 0, .int .i64 0, .int .i64 0] 30)) = W0
  intro HT
  have HO : Hid (w.heap.size ≤ w.heap.size + 1 ∧ w.heap.size ≤ w.heap.size + 1 + 1 ∧ w.heap.size + 1 ≠ w.heap.size + 1 + 1) := hide (by omega)
  generalize w.heap.size + 1 + 1 = B2 at *
  generalize w.heap.size + 1 = B1 at *
  have x3 : B1 ≠ B2 := (unhide HO).2.2
  have x3' : B2 ≠ B1 := Ne.symm (unhide HO).2.2
  obtain ⟨d0, d1⟩ := (unhide HT).d.cells
  go_wp2_with fail
  refine (l06Ask_any _ _ _ _ ss xs h _ (unhide HL) (unhide HM) ((unhide H1).below (unhide HT).below) ((unhide H2).below (unhide HT).below)).mono ?_
  rintro e w1 ⟨rfl, hb1⟩
  have HT1 := hide ((unhide HT).next hb1)
  clear hb1 d0 d1
  obtain ⟨c, HC⟩ : ∃ c, Hid (leC ss xs h = c) := ⟨_, hide rfl⟩
  rw [unhide HC]
  by_cases hc : c = 0
  · have hb : (c != 0) = false := by simp [hc]
    have HC0 : Hid (leC ss xs h = 0) := hide ((unhide HC).trans hc)
    clear hc
    have HZ : Hid ((inB o 0 3 && inB g 1 1000000) = false → R = ⟨[], [], ld0, 4⟩) := hide (fun hx => by rw [← unhide HRR]; exact elA_range (unhide HC0) hx)
    obtain ⟨b1, HB1⟩ : ∃ b, Hid (inB o 0 3 = b) := ⟨_, hide rfl⟩
    obtain ⟨b2, HB2⟩ : ∃ b, Hid (inB g 1 1000000 = b) := ⟨_, hide rfl⟩
    go_wp2_with fail
    refine (l04Host_any o _).mono ?_
    rintro e w2 ⟨rfl, hw⟩
    replace hw := hw.symm
    subst hw
    rw [unhide HB1]
    obtain ⟨r0, r1⟩ := (unhide HT1).r.cells
    have r2 := (unhide HT1).r.free 0
    have r3 := (unhide HT1).r.free 1
    obtain ⟨t0, t1, t2⟩ := (unhide HT1).t.cells
    obtain ⟨t3, t4, t5⟩ := (unhide HT1).t.free
    have HF := hide (fun a b x y z => below5 (unhide HT1).below (unhide HO).1 (unhide HO).2.1 a b x y z)
    cases b1 with
    | false =>
      have HQ := hide (unhide HZ (by rw [unhide HB1]; rfl))
      go_wp2
      exact bodyPost_ret (v := .tuple #[.agg #[.slice none 0 0, .slice none 0 0], lV ld0, .int .i64 4]) (by simp [results, Tryz.results9, go_sem, r0, r1, t0, t1, t2, ld0]) rfl (told_zero (unhide HQ) (unhide HF _ _ _ _ _))
    | true =>
      go_wp2_with fail
      refine (l01In_num g 1 1000000 _).mono ?_
      rintro e w2 ⟨rfl, hw⟩
      replace hw := hw.symm
      subst hw
      rw [unhide HB2]
      cases b2 with
      | false =>
        have HQ := hide (unhide HZ (by rw [unhide HB1, unhide HB2]; rfl))
        go_wp2
        exact bodyPost_ret (v := .tuple #[.agg #[.slice none 0 0, .slice none 0 0], lV ld0, .int .i64 4]) (by simp [results, Tryz.results9, go_sem, r0, r1, t0, t1, t2, ld0]) rfl (told_zero (unhide HQ) (unhide HF _ _ _ _ _))
      | true =>
        have HCE := hide (fun W (hW : Below w.heap.size w W) => l06Elect_any R ao bo ca cb ss xs h o g W (unhide HRR) (unhide HC0) (by rw [unhide HB1, unhide HB2]; rfl) ((unhide H1).below hW) ((unhide H2).below hW))
        have HSZ : Hid (R.ss.length ≤ 1048576 ∧ R.xs.length ≤ 1048576) := hide (by
          have k9 := elA_ok ss xs h o g
          rw [unhide HRR] at k9
          rcases k9 with ⟨a, b⟩ | k9
          · rw [a, b]; simp
          · have := diskB_len k9; omega)
        obtain ⟨d0, d1⟩ := (unhide HT1).d.cells
        clear r0 r1 r2 r3 t0 t1 t2 t3 t4 t5
        go_wp2_with fail
        refine (unhide HCE _ (unhide HT1).below).mono ?_
        rintro e w3 ⟨po, pa, qo, qa, rfl, hs3, hi3, hb3⟩
        have HA3 := hide (Joins.below_alloc2 w3 (.cells #[.slice po R.ss.length pa, .slice qo R.xs.length qa] 26) (.cells #[.int .i64 R.l.ver, .int .i64 R.l.own, .int .i64 R.l.gen] 30))
        have HT3 := hide (((unhide HT1).next hb3).next (unhide HA3))
        have HS3 := hide (And.intro (hs3.below (unhide HA3)) (hi3.below (unhide HA3)))
        have HV3 := hide ((VarD.new w3 (.slice po R.ss.length pa) (.slice qo R.xs.length qa)).below (Joins.below_alloc1 _ (.cells #[.int .i64 R.l.ver, .int .i64 R.l.own, .int .i64 R.l.gen] 30)))
        have HU3 := hide (varL_new w3 (.cells #[.slice po R.ss.length pa, .slice qo R.xs.length qa] 26) R.l.ver R.l.own R.l.gen)
        have HNN : Hid (B1 < w3.heap.size ∧ B2 < w3.heap.size) := hide ⟨((unhide HT1).next hb3).r.lt, ((unhide HT1).next hb3).t.lt⟩
        clear hs3 hi3 hb3 d0 d1 HA3
        go_wp2_with fail
        revert HT3 HS3 HV3 HU3 HNN
        generalize (w3.alloc (.cells #[.slice po R.ss.length pa, .slice qo R.xs.length qa] 26)).alloc (.cells #[.int .i64 R.l.ver, .int .i64 R.l.own, .int .i64 R.l.gen] 30) = W4
        intro HT3 HS3 HV3 HU3 HNN
        have y1 : B1 ≠ w3.heap.size := by have := unhide HNN; omega
        have y2 : B2 ≠ w3.heap.size := by have := unhide HNN; omega
        have y3 : B1 ≠ w3.heap.size + 1 := by have := unhide HNN; omega
        have y4 : B2 ≠ w3.heap.size + 1 := by have := unhide HNN; omega
        generalize w3.heap.size + 1 = C2 at *
        generalize w3.heap.size = C1 at *
        have y1' := y1.symm
        have y2' := y2.symm
        have y3' := y3.symm
        have y4' := y4.symm
        obtain ⟨d0, d1⟩ := (unhide HV3).cells
        obtain ⟨v0, v1, v2⟩ := (unhide HU3).cells
        have HOW := hide (fun W (hW : Below W4.heap.size W4 W) => l01Own_any po qo pa qa R.ss R.xs W (unhide HSZ).1 (unhide HSZ).2 ((unhide HS3).1.below hW) ((unhide HS3).2.below hW))
        go_region_held3 (fun w' => w'.cell? ⟨C1, 0, none⟩ = some (.slice po R.ss.length pa) ∧ w'.cell? ⟨C1, 1, none⟩ = some (.slice qo R.xs.length qa) ∧ w'.cell? ⟨C2, 0, none⟩ = some (.int .i64 R.l.ver) ∧ w'.cell? ⟨C2, 1, none⟩ = some (.int .i64 R.l.own) ∧ w'.cell? ⟨C2, 2, none⟩ = some (.int .i64 R.l.gen)) (go_keep)
          ((go_at_call 22; refine (unhide HOW _ (Below.refl _ W4).drew).mono ?_; rintro e wA ⟨po2, pa2, qo2, qa2, rfl, hoA, hbA⟩; have HBA := hide (fr (Below.refl _ W4).drew hbA); have HOA := hide (hoA.base (B' := w.heap.size) (unhide HT3).below.size); have HTA := hide ((unhide HT3).next (unhide HBA)); clear hoA hbA; obtain ⟨a0, a1⟩ := ((unhide HV3).below (unhide HBA)).cells; obtain ⟨a2, a3, a4⟩ := ((unhide HU3).below (unhide HBA)).cells; obtain ⟨r0, r1⟩ := (unhide HTA).r.cells; have r2 := (unhide HTA).r.free 0; have r3 := (unhide HTA).r.free 1; obtain ⟨u0, u1, u2⟩ := (unhide HTA).t.cells; obtain ⟨u3, u4, u5⟩ := (unhide HTA).t.free))
        all_goals
          have HFF := hide (fun a b x y z => (unhide HTA).out (unhide HOA) (unhide HO).1 (unhide HO).2.1 a b x y z)
          have HF2 := hide (fun a b x y z => (unhide HTA).out2 (unhide HOA) (unhide HO).1 (unhide HO).2.1 a b x y z)
          go_wp2
          refine bodyPost_ret (v := .tuple #[.agg #[.slice po2 R.ss.length pa2, .slice qo2 R.xs.length qa2], lV R.l, .int .i64 R.c]) (by simp [results, Tryz.results9, go_sem, r0, r1, u0, u1, u2]) rfl ?_
          first
            | exact told_end (s := ⟨R.ss, R.xs, p00, []⟩) rfl (unhide HFF _ _ _ _ _).1 (unhide HFF _ _ _ _ _).2
            | exact told_end (s := ⟨R.ss, R.xs, p00, []⟩) rfl (unhide HF2 _ _ _ _ _).1 (unhide HF2 _ _ _ _ _).2
            | exact told_end (s := ⟨R.ss, R.xs, p00, []⟩) rfl ((unhide HFF _ _ _ _ _).1.below (Below.refl _ _).drew) (unhide HFF _ _ _ _ _).2.drew
  · have hb : (c != 0) = true := by simp [hc]
    have HQ : Hid (R = ⟨[], [], ld0, c⟩) := hide (by rw [← unhide HRR, ← unhide HC]; exact elA_room (by rw [unhide HC]; exact hc))
    clear hc
    obtain ⟨r0, r1⟩ := (unhide HT1).r.cells
    have r2 := (unhide HT1).r.free 0
    have r3 := (unhide HT1).r.free 1
    obtain ⟨t0, t1, t2⟩ := (unhide HT1).t.cells
    obtain ⟨t3, t4, t5⟩ := (unhide HT1).t.free
    have HF := hide (fun a b x y z => below5 (unhide HT1).below (unhide HO).1 (unhide HO).2.1 a b x y z)
    go_wp2
    exact bodyPost_ret (v := .tuple #[.agg #[.slice none 0 0, .slice none 0 0], lV ld0, .int .i64 c]) (by simp [results, Tryz.results9, go_sem, r0, r1, t0, t1, t2, ld0]) rfl (told_zero (unhide HQ) (unhide HF _ _ _ _ _))

end Go.Proofs.YtdfinapjgffjiaaGreatDoor

/- Contract of spec.Release. -/
namespace Go.Proofs.YtdfinapjgffjiaaGreatDoor
open Go.RowKit
set_option linter.unusedVariables false
set_option maxRecDepth 100000

set_option maxHeartbeats 1600000 in
theorem release_spec (R : Ans) (ao bo : Option Addr) (ca cb : Nat) (ss : List ByteArray) (xs : List Wr) (h : Int) (X : Ld) (w : World) (hR : rsA ss xs h X = R) (hl : ss.length ≤ maxLen) (hm : xs.length ≤ maxLen) (h1 : Ss w ao ss) (h2 : Ios w bo xs) :
    Calls Tryz.prog 17 #[.agg #[.slice ao ss.length ca, .slice bo xs.length cb], .int .i64 h, lV X] w fun e w' => Told w w' R e := by
  have HN := hide (tl_new4 w ao bo ca cb ss.length xs.length X)
  have HL := hide hl
  have HM := hide hm
  have H1 := hide h1
  have H2 := hide h2
  have HRR := hide hR
  clear h1 h2 hl hm hR
  go_enter Tryz.func17, Tryz.ntmps17
  go_upto_region 1 with fail
  revert HN
  generalize ((((w.alloc (.cells #[.slice ao ss.length ca, .slice bo xs.length cb] 26)).alloc (.cells #[.int .i64 X.ver, .int .i64 X.own, .int .i64 X.gen] 30)).alloc (.cells #[.slice none 0 0, .slice none 0 0] 26)).alloc (.cells #[.int .i64 0, .int .i64 0, .int .i64 0] 30)) = W0
  intro HN
  have HO : Hid (w.heap.size ≤ w.heap.size + 1 + 1 ∧ w.heap.size ≤ w.heap.size + 1 + 1 + 1 ∧ w.heap.size + 1 + 1 ≠ w.heap.size + 1 + 1 + 1) := hide (by omega)
  have m1 : w.heap.size + 1 + 1 ≠ w.heap.size := by omega
  have m2 : w.heap.size + 1 + 1 + 1 ≠ w.heap.size := by omega
  have m3 : w.heap.size + 1 + 1 ≠ w.heap.size + 1 := by omega
  have m4 : w.heap.size + 1 + 1 + 1 ≠ w.heap.size + 1 := by omega
  generalize w.heap.size + 1 + 1 + 1 = B2 at *
  generalize w.heap.size + 1 + 1 = B1 at *
  generalize w.heap.size + 1 = BX at *
  have m1' := m1.symm
  have m2' := m2.symm
  have m3' := m3.symm
  have m4' := m4.symm
  have HT := hide (unhide HN).1
  have HX := hide (unhide HN).2
  clear HN
  obtain ⟨d0, d1⟩ := (unhide HT).d.cells
  go_wp2_with fail
  refine (l06Ask_any _ _ _ _ ss xs h _ (unhide HL) (unhide HM) ((unhide H1).below (unhide HT).below) ((unhide H2).below (unhide HT).below)).mono ?_
  rintro e w1 ⟨rfl, hb1⟩
  have HT1 := hide ((unhide HT).next hb1)
  have HX1 := hide ((unhide HX).below hb1)
  clear hb1 d0 d1
  obtain ⟨c, HC⟩ : ∃ c, Hid (leC ss xs h = c) := ⟨_, hide rfl⟩
  rw [unhide HC]
  have x3 : B1 ≠ B2 := (unhide HO).2.2
  have x3' : B2 ≠ B1 := Ne.symm (unhide HO).2.2
  by_cases hc : c = 0
  · have hb : (c != 0) = false := by simp [hc]
    have HC0 : Hid (leC ss xs h = 0) := hide ((unhide HC).trans hc)
    clear hc
    obtain ⟨t0, t1, t2⟩ := (unhide HX1).cells
    go_wp2_with fail
    refine (leaderOK_spec X _).mono ?_
    rintro e w2 ⟨rfl, hb2⟩
    have HT2 := hide ((unhide HT1).next hb2)
    have HX2 := hide ((unhide HX1).below hb2)
    clear hb2 t0 t1 t2
    by_cases hx : ldB X = true
    · have HLX := hide hx
      obtain ⟨L, HK⟩ : ∃ L, Hid (ldOf ss xs h = L) := ⟨_, hide rfl⟩
      have HD := hide (leC_eq (unhide HC0))
      have HLEN := hide (diskB_len (unhide HD).1)
      have HRD := hide (fun W (hW : Below w.heap.size w W) => l06Read_any ao bo ca cb ss xs h L W (unhide HK) (unhide HD).1 ((unhide H1).below hW) ((unhide H2).below hW))
      have HOW := hide (fun W (hW : Below w.heap.size w W) => l01Own_any ao bo ca cb ss xs W (by have := unhide HLEN; omega) (by have := unhide HLEN; omega) ((unhide H1).below hW) ((unhide H2).below hW))
      have HDO : Hid (R = ⟨(rlDo ⟨ss, xs, ⟨h, 0, 0, 0, 0, 0, 0, 0⟩, []⟩ L X).1.ss, (rlDo ⟨ss, xs, ⟨h, 0, 0, 0, 0, 0, 0, 0⟩, []⟩ L X).1.xs, (rlDo ⟨ss, xs, ⟨h, 0, 0, 0, 0, 0, 0, 0⟩, []⟩ L X).2.1, (rlDo ⟨ss, xs, ⟨h, 0, 0, 0, 0, 0, 0, 0⟩, []⟩ L X).2.2⟩) := hide (by rw [← unhide HRR, ← unhide HK]; exact rs_do _ rfl rfl rfl (unhide HC0) (unhide HLX))
      obtain ⟨r, HR⟩ : ∃ r, Hid (rlDo ⟨ss, xs, ⟨h, 0, 0, 0, 0, 0, 0, 0⟩, []⟩ L X = r) := ⟨_, hide rfl⟩
      rw [unhide HR] at HDO
      obtain ⟨d0, d1⟩ := (unhide HT2).d.cells
      obtain ⟨t0, t1, t2⟩ := (unhide HX2).cells
      go_upto_region 6 with fail
      clear hx
      go_cut [28] from 24 to 28 (fun q wx => ∃ b9 : Bool, q = .bool b9 ∧ Hid (b9 = !sameL L X) ∧ Hid (Below w2.heap.size w2 wx))
      case first =>
        rcases lead_cases L X with ⟨b1, hr⟩ | ⟨b1, b2, hr⟩ | ⟨b1, b2, b3, hr⟩ | ⟨b1, b2, b3, hr⟩
        all_goals
          replace hr := hide hr
          go_region_held3 (fun w' => w'.cell? ⟨w.heap.size, 0, none⟩ = some (.slice ao ss.length ca) ∧ w'.cell? ⟨w.heap.size, 1, none⟩ = some (.slice bo xs.length cb) ∧ w'.cell? ⟨BX, 0, none⟩ = some (.int .i64 X.ver) ∧ w'.cell? ⟨BX, 1, none⟩ = some (.int .i64 X.own) ∧ w'.cell? ⟨BX, 2, none⟩ = some (.int .i64 X.gen)) (go_keep)
            ((go_at_call 42; refine (unhide HRD _ (fr (unhide HT2).below (Below.refl _ w2).drew)).mono ?_; rintro e wA ⟨rfl, hbA⟩; have HBA := hide (fr (Below.refl _ w2).drew hbA); clear hbA; obtain ⟨a0, a1⟩ := ((unhide HT2).d.below (unhide HBA)).cells; obtain ⟨a2, a3, a4⟩ := ((unhide HX2).below (unhide HBA)).cells))
          all_goals
            go_wp2_with fail
            go_meet
            exact ⟨_, rfl, hide (by rw [unhide hr]; rfl), HBA⟩
      case rest =>
        obtain ⟨b9, rfl, HB9, HBA⟩ := hcut
        rename World => W3
        have HT3 := hide ((unhide HT2).next (unhide HBA))
        have HX3 := hide ((unhide HX2).below (unhide HBA))
        clear d0 d1 t0 t1 t2
        obtain ⟨d0, d1⟩ := (unhide HT3).d.cells
        obtain ⟨t0, t1, t2⟩ := (unhide HX3).cells
        by_cases hs : sameL L X = true
        · have HLXE : Hid (L = X) := hide (sameL_iff.1 hs)
          obtain rfl : b9 = false := by rw [unhide HB9, hs]; rfl
          clear HB9
          by_cases ho : X.own = h
          · have hob : (X.own != h) = false := by simp [ho]
            by_cases hv : X.ver = 1000000
            · have hvb : (X.ver == 1000000) = true := by simp [hv]
              have HQ : Hid (R = ⟨ss, xs, X, 6⟩) := hide (by rw [unhide HDO, ← unhide HR, rlDo, if_pos hs, if_pos (show X.own = _ from ho), if_pos hv]; rw [unhide HLXE])
              clear ho hv
              go_wp2_with fail
              go_region_held3 (fun w' => w'.cell? ⟨w.heap.size, 0, none⟩ = some (.slice ao ss.length ca) ∧ w'.cell? ⟨w.heap.size, 1, none⟩ = some (.slice bo xs.length cb) ∧ w'.cell? ⟨BX, 0, none⟩ = some (.int .i64 X.ver) ∧ w'.cell? ⟨BX, 1, none⟩ = some (.int .i64 X.own) ∧ w'.cell? ⟨BX, 2, none⟩ = some (.int .i64 X.gen)) (go_keep)
                ((go_at_call 22; refine (unhide HOW _ (fr (unhide HT3).below (Below.refl _ W3).drew)).mono ?_; rintro e wA ⟨po, pa, qo, qa, rfl, hoA, hbA⟩; have HBA := hide (fr (Below.refl _ W3).drew hbA); have HOA := hide (hoA.base (B' := w.heap.size) (unhide HT3).below.size); have HTA := hide ((unhide HT3).next (unhide HBA)); clear hoA hbA; obtain ⟨a0, a1⟩ := (unhide HTA).d.cells; obtain ⟨a2, a3, a4⟩ := ((unhide HX3).below (unhide HBA)).cells; obtain ⟨r0, r1⟩ := (unhide HTA).r.cells; have r2 := (unhide HTA).r.free 0; have r3 := (unhide HTA).r.free 1; obtain ⟨u0, u1, u2⟩ := (unhide HTA).t.cells; obtain ⟨u3, u4, u5⟩ := (unhide HTA).t.free))
              all_goals
                have HF := hide (fun a b x y z => (unhide HTA).out (unhide HOA) (unhide HO).1 (unhide HO).2.1 a b x y z)
                have HF2 := hide (fun a b x y z => (unhide HTA).out2 (unhide HOA) (unhide HO).1 (unhide HO).2.1 a b x y z)
                go_wp2
                refine bodyPost_ret (v := .tuple #[.agg #[.slice po ss.length pa, .slice qo xs.length qa], lV X, .int .i64 6]) (by simp [results, Tryz.results17, go_sem, r0, r1, u0, u1, u2]) rfl ?_
                first
                  | exact told_end (s := ⟨ss, xs, p00, []⟩) (unhide HQ) (unhide HF _ _ _ _ _).1 (unhide HF _ _ _ _ _).2
                  | exact told_end (s := ⟨ss, xs, p00, []⟩) (unhide HQ) (unhide HF2 _ _ _ _ _).1 (unhide HF2 _ _ _ _ _).2
                  | exact told_end (s := ⟨ss, xs, p00, []⟩) (unhide HQ) ((unhide HF _ _ _ _ _).1.below (Below.refl _ _).drew) (unhide HF _ _ _ _ _).2.drew
            · have hvb : (X.ver == 1000000) = false := by simp [hv]
              have HQ : Hid (R = ⟨wS ss xs h 0 (encL (ldN (X.ver + 1))), wX xs h 0 (encL (ldN (X.ver + 1))), ldN (X.ver + 1), 0⟩) := hide (by rw [unhide HDO, ← unhide HR, rlDo, if_pos hs, if_pos (show X.own = _ from ho), if_neg hv])
              have hvv := (ldB_lo (unhide HLX)).1
              have wr1 : IntKind.i64.wrap (X.ver + 1) = X.ver + 1 := by rw [IntKind.wrap_i64]; omega
              have HMB : Hid (ldB ⟨X.ver + 1, -1, 0⟩ = true) := hide (ldB_N _ (by omega) (by omega))
              obtain ⟨t, HTE⟩ : ∃ t, Hid (encL (ldN (X.ver + 1)) = t) := ⟨_, hide rfl⟩
              have HTS : Hid (t.size ≤ 80) := hide (by rw [← unhide HTE, encL_size]; decide)
              rw [unhide HTE] at HQ
              have HP : Hid (diskB ss (xs ++ [⟨h, 0, t⟩]) = true) := hide (diskB_snoc (unhide HD).1 (unhide HD).2.2 (w_io (unhide HD).2.1.1 (unhide HD).2.1.2 (by decide) (by decide) (unhide HTS)))
              have HXL : Hid (xs.length ≤ 1048576) := hide (by have := unhide HLEN; omega)
              have HRT := hide (w_right (unhide HD).1 (unhide HD).2.2 (unhide HD).2.1.1 (unhide HD).2.1.2 (show (0 : Int) ≤ 0 by decide) (by decide) (unhide HTS))
              have HNL := hide (wS_len ss xs h 0 t)
              obtain ⟨S, HSS⟩ : ∃ S, Hid (wS ss xs h 0 t = S) := ⟨_, hide rfl⟩
              obtain ⟨Y, HXX⟩ : ∃ Y, Hid (wX xs h 0 t = Y) := ⟨_, hide rfl⟩
              rw [unhide HSS] at HQ HRT HNL
              rw [unhide HXX] at HQ HRT
              have HQS := hide (rightS (unhide HRT))
              have HQX := hide (rightX (unhide HRT))
              have HK12 : Hid (S.length ≤ 1048576 ∧ Y.length ≤ 1048576) := hide (by have := diskB_len (unhide HRT); omega)
              have HA4 := hide (Joins.below_alloc1 W3 (.cells #[.int .i64 (X.ver + 1), .int .i64 (-1), .int .i64 0] 30))
              have HV4 := hide (VarT.new W3 30 (X.ver + 1) (-1) 0)
              have HT4 := hide ((unhide HT3).next (unhide HA4))
              have HLT := hide (And.intro (unhide HT3).r.lt (unhide HT3).t.lt)
              clear ho hv hvv
              go_wp2_with fail
              clear d0 d1 t0 t1 t2
              revert HV4 HT4 HLT
              clear HA4
              generalize W3.alloc (.cells #[.int .i64 (X.ver + 1), .int .i64 (-1), .int .i64 0] 30) = W4
              generalize W3.heap.size = C
              intro HV4 HT4 HLT
              have m5 : B1 ≠ C := by have := (unhide HLT).1; omega
              have m6 : B2 ≠ C := by have := (unhide HLT).2; omega
              have m5' := m5.symm
              have m6' := m6.symm
              obtain ⟨d0, d1⟩ := (unhide HT4).d.cells
              obtain ⟨t0, t1, t2⟩ := (unhide HV4).cells
              have HFL := hide (fun (gg cap B : Nat) (W : World) (hW : Below w.heap.size w W) hO => l01Flush_sure ao ca gg cap B ss xs h 0 t S Y W (unhide HSS) (unhide HXX) (unhide HP) ((unhide H1).below hW) hO)
              have HENC := hide (fun W => l06Encode_ld ⟨X.ver + 1, -1, 0⟩ W (unhide HMB))
              rw [show encL (⟨X.ver + 1, -1, 0⟩ : Ld) = t from unhide HTE] at HENC
              go_region_held3 (fun w' => w'.cell? ⟨w.heap.size, 0, none⟩ = some (.slice ao ss.length ca) ∧ w'.cell? ⟨w.heap.size, 1, none⟩ = some (.slice bo xs.length cb) ∧ w'.cell? ⟨C, 0, none⟩ = some (.int .i64 (X.ver + 1)) ∧ w'.cell? ⟨C, 1, none⟩ = some (.int .i64 (-1)) ∧ w'.cell? ⟨C, 2, none⟩ = some (.int .i64 0)) (go_keep)
                (first
                  | (go_at_call 45; refine (unhide HENC _).mono ?_; rintro e wA ⟨rfl, hbA⟩; have HBA := hide (fr (Below.refl _ W4).drew hbA); clear hbA; have HTA := hide ((unhide HT4).next (unhide HBA)); obtain ⟨a0, a1⟩ := (unhide HTA).d.cells; obtain ⟨a2, a3, a4⟩ := ((unhide HV4).below (unhide HBA)).cells)
                  | (go_at_call 44; refine (l01Write_hd ao bo ss.length ca cb xs h 0 t _ (unhide HXL) ((unhide H2).below (unhide HTA).below)).mono ?_; rintro e wB ⟨gg, cap, rfl, hoB, hbB⟩; have HOB := hide hoB; have HTB := hide ((unhide HTA).next hbB); have HBB := hide (fr (unhide HBA) hbB); clear hoB hbB; obtain ⟨b0, b1⟩ := (unhide HTB).d.cells; obtain ⟨b2, b3, b4⟩ := ((unhide HV4).below (unhide HBB)).cells)
                  | (go_at_call 43; refine (unhide HFL gg cap _ _ (unhide HTB).below (unhide HOB)).mono ?_; rintro e wC ⟨po, pa, qo, qa, rfl, hoC, hbC⟩; have HOC := hide hoC; have HTC := hide ((unhide HTB).next hbC); have HBC := hide (fr (unhide HBB) hbC); clear hoC hbC; obtain ⟨b5, b6⟩ := (unhide HTC).d.cells; obtain ⟨b7, b8, b9⟩ := ((unhide HV4).below (unhide HBC)).cells)
                  | (go_at_call 22; refine (l01Own_len po qo pa qa S Y ss.length Y.length _ (unhide HNL).symm rfl (unhide HK12).1 (unhide HK12).2 ((unhide HOC).ss (unhide HQS)) ((unhide HOC).ios (unhide HQX))).mono ?_; rintro e wD ⟨po2, pa2, qo2, qa2, rfl, hoD, hbD⟩; have HOD := hide (hoD.base (B' := w.heap.size) (unhide HTC).below.size); have HTD := hide ((unhide HTC).next hbD); have HBD := hide (fr (unhide HBC) hbD); clear hoD hbD; obtain ⟨g0, g1⟩ := (unhide HTD).d.cells; obtain ⟨g2, g3, g4⟩ := ((unhide HV4).below (unhide HBD)).cells; obtain ⟨r0, r1⟩ := (unhide HTD).r.cells; have r2 := (unhide HTD).r.free 0; have r3 := (unhide HTD).r.free 1; obtain ⟨u0, u1, u2⟩ := (unhide HTD).t.cells; obtain ⟨u3, u4, u5⟩ := (unhide HTD).t.free))
              all_goals
                have HF := hide (fun a b x y z => (unhide HTD).out (unhide HOD) (unhide HO).1 (unhide HO).2.1 a b x y z)
                have HF2 := hide (fun a b x y z => (unhide HTD).out2 (unhide HOD) (unhide HO).1 (unhide HO).2.1 a b x y z)
                go_wp2
                refine bodyPost_ret (v := .tuple #[.agg #[.slice po2 ss.length pa2, .slice qo2 Y.length qa2], lV (ldN (X.ver + 1)), .int .i64 0]) (by simp [results, Tryz.results17, go_sem, r0, r1, u0, u1, u2, ldN]) rfl ?_
                rw [← unhide HNL]
                first
                  | exact told_end (s := ⟨S, Y, p00, []⟩) (unhide HQ) (by rw [unhide HNL]; exact (unhide HF _ _ _ _ _).1) (unhide HF _ _ _ _ _).2
                  | exact told_end (s := ⟨S, Y, p00, []⟩) (unhide HQ) (by rw [unhide HNL]; exact (unhide HF2 _ _ _ _ _).1) (unhide HF2 _ _ _ _ _).2
          · have hob : (X.own != h) = true := by simp [ho]
            have HQ : Hid (R = ⟨ss, xs, X, 9⟩) := hide (by rw [unhide HDO, ← unhide HR, rlDo, if_pos hs, if_neg (show ¬ X.own = _ from ho)]; rw [unhide HLXE])
            clear ho
            go_wp2_with fail
            go_region_held3 (fun w' => w'.cell? ⟨w.heap.size, 0, none⟩ = some (.slice ao ss.length ca) ∧ w'.cell? ⟨w.heap.size, 1, none⟩ = some (.slice bo xs.length cb) ∧ w'.cell? ⟨BX, 0, none⟩ = some (.int .i64 X.ver) ∧ w'.cell? ⟨BX, 1, none⟩ = some (.int .i64 X.own) ∧ w'.cell? ⟨BX, 2, none⟩ = some (.int .i64 X.gen)) (go_keep)
              ((go_at_call 22; refine (unhide HOW _ (fr (unhide HT3).below (Below.refl _ W3).drew)).mono ?_; rintro e wA ⟨po, pa, qo, qa, rfl, hoA, hbA⟩; have HBA := hide (fr (Below.refl _ W3).drew hbA); have HOA := hide (hoA.base (B' := w.heap.size) (unhide HT3).below.size); have HTA := hide ((unhide HT3).next (unhide HBA)); clear hoA hbA; obtain ⟨a0, a1⟩ := (unhide HTA).d.cells; obtain ⟨a2, a3, a4⟩ := ((unhide HX3).below (unhide HBA)).cells; obtain ⟨r0, r1⟩ := (unhide HTA).r.cells; have r2 := (unhide HTA).r.free 0; have r3 := (unhide HTA).r.free 1; obtain ⟨u0, u1, u2⟩ := (unhide HTA).t.cells; obtain ⟨u3, u4, u5⟩ := (unhide HTA).t.free))
            all_goals
              have HF := hide (fun a b x y z => (unhide HTA).out (unhide HOA) (unhide HO).1 (unhide HO).2.1 a b x y z)
              have HF2 := hide (fun a b x y z => (unhide HTA).out2 (unhide HOA) (unhide HO).1 (unhide HO).2.1 a b x y z)
              go_wp2
              refine bodyPost_ret (v := .tuple #[.agg #[.slice po ss.length pa, .slice qo xs.length qa], lV X, .int .i64 9]) (by simp [results, Tryz.results17, go_sem, r0, r1, u0, u1, u2]) rfl ?_
              first
                | exact told_end (s := ⟨ss, xs, p00, []⟩) (unhide HQ) (unhide HF _ _ _ _ _).1 (unhide HF _ _ _ _ _).2
                | exact told_end (s := ⟨ss, xs, p00, []⟩) (unhide HQ) (unhide HF2 _ _ _ _ _).1 (unhide HF2 _ _ _ _ _).2
                | exact told_end (s := ⟨ss, xs, p00, []⟩) (unhide HQ) ((unhide HF _ _ _ _ _).1.below (Below.refl _ _).drew) (unhide HF _ _ _ _ _).2.drew
        · rw [Bool.not_eq_true] at hs
          obtain rfl : b9 = true := by rw [unhide HB9, hs]; rfl
          clear HB9
          have HQ : Hid (R = ⟨ss, xs, L, 13⟩) := hide (by rw [unhide HDO, ← unhide HR, rlDo, if_neg (by simp [hs])])
          go_wp2_with fail
          have HXX0 := hide (Below.refl W3.heap.size W3).drew
          have HTA := hide ((unhide HT3).next (unhide HXX0))
          have HBA := HXX0
          go_region_held3 (fun w' => w'.cell? ⟨w.heap.size, 0, none⟩ = some (.slice ao ss.length ca) ∧ w'.cell? ⟨w.heap.size, 1, none⟩ = some (.slice bo xs.length cb) ∧ w'.cell? ⟨BX, 0, none⟩ = some (.int .i64 X.ver) ∧ w'.cell? ⟨BX, 1, none⟩ = some (.int .i64 X.own) ∧ w'.cell? ⟨BX, 2, none⟩ = some (.int .i64 X.gen)) (go_keep)
            (first
              | (go_at_call 22; refine (unhide HOW _ (by exact (unhide HTA).below)).mono ?_; rintro e wA ⟨po, pa, qo, qa, rfl, hoA, hbA⟩; have HOA := hide (hoA.base (B' := w.heap.size) (unhide HTA).below.size); replace HTA := hide ((unhide HTA).next hbA); replace HBA := hide (fr (unhide HBA) hbA); clear hoA hbA; obtain ⟨a0, a1⟩ := (unhide HTA).d.cells; obtain ⟨a2, a3, a4⟩ := ((unhide HX3).below (unhide HBA)).cells; obtain ⟨r0, r1⟩ := (unhide HTA).r.cells; have r2 := (unhide HTA).r.free 0; have r3 := (unhide HTA).r.free 1; obtain ⟨u0, u1, u2⟩ := (unhide HTA).t.cells; obtain ⟨u3, u4, u5⟩ := (unhide HTA).t.free)
              | (go_at_call 42; refine (unhide HRD _ (by exact (unhide HTA).below)).mono ?_; rintro e wA ⟨rfl, hbA⟩; (try replace HOA := hide ((unhide HOA).below hbA)); replace HTA := hide ((unhide HTA).next hbA); replace HBA := hide (fr (unhide HBA) hbA); clear hbA; obtain ⟨a0, a1⟩ := (unhide HTA).d.cells; obtain ⟨a2, a3, a4⟩ := ((unhide HX3).below (unhide HBA)).cells; obtain ⟨r0, r1⟩ := (unhide HTA).r.cells; have r2 := (unhide HTA).r.free 0; have r3 := (unhide HTA).r.free 1; obtain ⟨u0, u1, u2⟩ := (unhide HTA).t.cells; obtain ⟨u3, u4, u5⟩ := (unhide HTA).t.free))
          all_goals
            have HF := hide (fun a b x y z => (unhide HTA).out (unhide HOA) (unhide HO).1 (unhide HO).2.1 a b x y z)
            have HF2 := hide (fun a b x y z => (unhide HTA).out2 (unhide HOA) (unhide HO).1 (unhide HO).2.1 a b x y z)
            go_wp2
            refine bodyPost_ret (v := .tuple #[.agg #[.slice po ss.length pa, .slice qo xs.length qa], lV L, .int .i64 13]) (by simp [results, Tryz.results17, go_sem, r0, r1, u0, u1, u2]) rfl ?_
            first
              | exact told_end (s := ⟨ss, xs, p00, []⟩) (unhide HQ) (unhide HF _ _ _ _ _).1 (unhide HF _ _ _ _ _).2
              | exact told_end (s := ⟨ss, xs, p00, []⟩) (unhide HQ) (unhide HF2 _ _ _ _ _).1 (unhide HF2 _ _ _ _ _).2
              | exact told_end (s := ⟨ss, xs, p00, []⟩) (unhide HQ) ((unhide HF _ _ _ _ _).1.below (Below.refl _ _).drew) (unhide HF _ _ _ _ _).2.drew
    · rw [Bool.not_eq_true] at hx
      have HQ : Hid (R = ⟨[], [], ld0, 1⟩) := hide (by rw [← unhide HRR]; exact rs_wrong (unhide HC0) hx)
      obtain ⟨r0, r1⟩ := (unhide HT2).r.cells
      have r2 := (unhide HT2).r.free 0
      have r3 := (unhide HT2).r.free 1
      obtain ⟨t0, t1, t2⟩ := (unhide HT2).t.cells
      obtain ⟨t3, t4, t5⟩ := (unhide HT2).t.free
      have HF := hide (fun a b x y z => below5 (unhide HT2).below (unhide HO).1 (unhide HO).2.1 a b x y z)
      go_wp2
      exact bodyPost_ret (v := .tuple #[.agg #[.slice none 0 0, .slice none 0 0], lV ld0, .int .i64 1]) (by simp [results, Tryz.results17, go_sem, r0, r1, t0, t1, t2, ld0]) rfl (told_zero (unhide HQ) (unhide HF _ _ _ _ _))
  · have hb : (c != 0) = true := by simp [hc]
    have HQ : Hid (R = ⟨[], [], ld0, c⟩) := hide (by rw [← unhide HRR, ← unhide HC]; exact rs_bad (by rw [unhide HC]; exact hc))
    clear hc
    obtain ⟨r0, r1⟩ := (unhide HT1).r.cells
    have r2 := (unhide HT1).r.free 0
    have r3 := (unhide HT1).r.free 1
    obtain ⟨t0, t1, t2⟩ := (unhide HT1).t.cells
    obtain ⟨t3, t4, t5⟩ := (unhide HT1).t.free
    have HF := hide (fun a b x y z => below5 (unhide HT1).below (unhide HO).1 (unhide HO).2.1 a b x y z)
    go_wp2
    exact bodyPost_ret (v := .tuple #[.agg #[.slice none 0 0, .slice none 0 0], lV ld0, .int .i64 c]) (by simp [results, Tryz.results17, go_sem, r0, r1, t0, t1, t2, ld0]) rfl (told_zero (unhide HQ) (unhide HF _ _ _ _ _))

end Go.Proofs.YtdfinapjgffjiaaGreatDoor

/- Calls of the program's leader at right disks without writes that wait; a law's world of leaders and disks. -/
namespace Go.Proofs.YtdfinapjgffjiaaGreatDoor
open Go.RowKit
set_option linter.unusedVariables false
set_option maxRecDepth 100000

theorem iosNil (w : World) (bo : Option Addr) : Ios w bo [] := fun i hi => absurd hi (Nat.not_lt_zero _)
theorem toldNil {w W : World} {R : Ans} {e : Ending} (hx : R.xs = []) (hd : diskB R.ss [] = true) (h : Told w W R e) : ∃ po pa qo qa, e = .returned (.tuple #[.agg #[.slice po R.ss.length pa, .slice qo 0 qa], lV R.l, .int .i64 R.c]) ∧ Ss W po R.ss ∧ Below w.heap.size w W := by
  obtain ⟨po, pa, qo, qa, he, ho, hb⟩ := h
  rw [hx] at he ho
  exact ⟨po, pa, qo, qa, he, ho.ss (right_sz hd).2.1, hb⟩
theorem elect_nil (R : Ans) (ao bo : Option Addr) (ca cb : Nat) (ss : List ByteArray) (h o g : Int) (w : World) (hR : elA ss [] h o g = R) (hx : R.xs = []) (hd : diskB R.ss [] = true) (hs : diskB ss [] = true) (h1 : Ss w ao ss) (hE : ErrW w) :
    Calls Tryz.prog 8 #[.agg #[.slice ao ss.length ca, .slice bo 0 cb], .int .i64 h, .int .i64 o, .int .i64 g] w fun e w' => ∃ po pa qo qa, e = .returned (.tuple #[.agg #[.slice po R.ss.length pa, .slice qo 0 qa], lV R.l, .int .i64 R.c]) ∧ Ss w' po R.ss ∧ Below w.heap.size w w' :=
  (elect_impl R ao bo ca cb ss [] h o g w hR (right_sz hs).1.1 (by simp) h1 (iosNil w bo) hE).mono fun e w' hT => toldNil hx hd hT
theorem elect_nilS (R : Ans) (ao bo : Option Addr) (ca cb : Nat) (ss : List ByteArray) (h o g : Int) (w : World) (hR : elA ss [] h o g = R) (hx : R.xs = []) (hd : diskB R.ss [] = true) (hs : diskB ss [] = true) (h1 : Ss w ao ss) :
    Calls Tryz.prog 9 #[.agg #[.slice ao ss.length ca, .slice bo 0 cb], .int .i64 h, .int .i64 o, .int .i64 g] w fun e w' => ∃ po pa qo qa, e = .returned (.tuple #[.agg #[.slice po R.ss.length pa, .slice qo 0 qa], lV R.l, .int .i64 R.c]) ∧ Ss w' po R.ss ∧ Below w.heap.size w w' :=
  (elect_spec R ao bo ca cb ss [] h o g w hR (right_sz hs).1.1 (by simp) h1 (iosNil w bo)).mono fun e w' hT => toldNil hx hd hT
theorem release_nil (R : Ans) (ao bo : Option Addr) (ca cb : Nat) (ss : List ByteArray) (h : Int) (X : Ld) (w : World) (hR : rsA ss [] h X = R) (hx : R.xs = []) (hd : diskB R.ss [] = true) (hs : diskB ss [] = true) (h1 : Ss w ao ss) (hE : ErrW w) :
    Calls Tryz.prog 16 #[.agg #[.slice ao ss.length ca, .slice bo 0 cb], .int .i64 h, lV X] w fun e w' => ∃ po pa qo qa, e = .returned (.tuple #[.agg #[.slice po R.ss.length pa, .slice qo 0 qa], lV R.l, .int .i64 R.c]) ∧ Ss w' po R.ss ∧ Below w.heap.size w w' :=
  (release_impl R ao bo ca cb ss [] h X w hR (right_sz hs).1.1 (by simp) h1 (iosNil w bo) hE).mono fun e w' hT => toldNil hx hd hT
theorem release_nilS (R : Ans) (ao bo : Option Addr) (ca cb : Nat) (ss : List ByteArray) (h : Int) (X : Ld) (w : World) (hR : rsA ss [] h X = R) (hx : R.xs = []) (hd : diskB R.ss [] = true) (hs : diskB ss [] = true) (h1 : Ss w ao ss) :
    Calls Tryz.prog 17 #[.agg #[.slice ao ss.length ca, .slice bo 0 cb], .int .i64 h, lV X] w fun e w' => ∃ po pa qo qa, e = .returned (.tuple #[.agg #[.slice po R.ss.length pa, .slice qo 0 qa], lV R.l, .int .i64 R.c]) ∧ Ss w' po R.ss ∧ Below w.heap.size w w' :=
  (release_spec R ao bo ca cb ss [] h X w hR (right_sz hs).1.1 (by simp) h1 (iosNil w bo)).mono fun e w' hT => toldNil hx hd hT
theorem read_nilL (ao bo : Option Addr) (ca cb : Nat) (ss : List ByteArray) (h : Int) (L : Ld) (w : World) (he : rlK ss [] h = L ∧ hostC ss [] h = 0) (hs : diskB ss [] = true) (h1 : Ss w ao ss) (hE : ErrW w) :
    Calls Tryz.prog 7 #[.agg #[.slice ao ss.length ca, .slice bo 0 cb], .int .i64 h] w fun e w' => e = .returned (.tuple #[lV L, .int .i64 0]) ∧ Below w.heap.size w w' := by
  have k := readLeader_impl ao bo ca cb ss [] h w (right_sz hs).1.1 (by simp) h1 (iosNil w bo) hE
  rw [he.1, he.2] at k
  exact k
theorem holds_nil (ao bo : Option Addr) (ca cb : Nat) (ss : List ByteArray) (h g : Int) (b : Bool) (w : World) (he : hlB ss [] h g = b ∧ hostC ss [] h = 0) (hs : diskB ss [] = true) (h1 : Ss w ao ss) (hE : ErrW w) :
    Calls Tryz.prog 11 #[.agg #[.slice ao ss.length ca, .slice bo 0 cb], .int .i64 h, .int .i64 g] w fun e w' => e = .returned (.tuple #[.bool b, .int .i64 0]) ∧ Below w.heap.size w w' := by
  have k := holds_impl ao bo ca cb ss [] h g w (right_sz hs).1.1 (by simp) h1 (iosNil w bo) hE
  rw [he.1, he.2] at k
  exact k

/-- The law's world: leaders and disks in variables. -/
structure Dm (w W : World) (T : List (Nat × Ld)) (D : List (Nat × List ByteArray)) : Prop where
  below : Below w.heap.size w W
  t : ∀ p ∈ T, VarT W p.1 30 p.2.ver p.2.own p.2.gen
  d : ∀ p ∈ D, ∃ ao ca bo cb, VarD W p.1 (.slice ao p.2.length ca) (.slice bo 0 cb) ∧ Ss W ao p.2
  e : ErrW W
theorem Dm.next {w W W' : World} {T : List (Nat × Ld)} {D : List (Nat × List ByteArray)} (h : Dm w W T D) (hb : Below W.heap.size W W') : Dm w W' T D :=
  ⟨fr h.below hb, fun p hp => (h.t p hp).below hb, fun p hp => by obtain ⟨ao, ca, bo, cb, h1, h2⟩ := h.d p hp; exact ⟨ao, ca, bo, cb, h1.below hb, h2.below hb⟩, h.e.below hb⟩
theorem Dm.addT {w W : World} {T : List (Nat × Ld)} {D : List (Nat × List ByteArray)} (h : Dm w W T D) (x : Ld) : Dm w (W.alloc (.cells #[.int .i64 x.ver, .int .i64 x.own, .int .i64 x.gen] 30)) ((W.heap.size, x) :: T) D := by
  have k := h.next (Joins.below_alloc1 W (.cells #[.int .i64 x.ver, .int .i64 x.own, .int .i64 x.gen] 30))
  refine ⟨k.below, fun p hp => ?_, k.d, k.e⟩
  rcases List.mem_cons.1 hp with rfl | hp
  · exact VarT.new W _ x.ver x.own x.gen
  · exact k.t p hp
theorem Dm.addD {w W : World} {T : List (Nat × Ld)} {D : List (Nat × List ByteArray)} {ss : List ByteArray} {po : Option Addr} (h : Dm w W T D) (hs : Ss W po ss) (pa : Nat) (qo : Option Addr) (qa : Nat) : Dm w (W.alloc (.cells #[.slice po ss.length pa, .slice qo 0 qa] 26)) T ((W.heap.size, ss) :: D) := by
  have hb := Joins.below_alloc1 W (.cells #[.slice po ss.length pa, .slice qo 0 qa] 26)
  have k := h.next hb
  refine ⟨k.below, k.t, fun p hp => ?_, k.e⟩
  rcases List.mem_cons.1 hp with rfl | hp
  · exact ⟨po, pa, qo, qa, VarD.new W _ _, hs.below hb⟩
  · exact k.d p hp
theorem Dm.both {w W : World} {T : List (Nat × Ld)} {D : List (Nat × List ByteArray)} {ss : List ByteArray} {po : Option Addr} (h : Dm w W T D) (hs : Ss W po ss) (pa : Nat) (qo : Option Addr) (qa : Nat) (x : Ld) : Dm w ((W.alloc (.cells #[.slice po ss.length pa, .slice qo 0 qa] 26)).alloc (.cells #[.int .i64 x.ver, .int .i64 x.own, .int .i64 x.gen] 30)) ((W.heap.size + 1, x) :: T) ((W.heap.size, ss) :: D) := by
  have k := (h.addD hs pa qo qa).addT x
  simp only [World.size_alloc] at k
  exact k

end Go.Proofs.YtdfinapjgffjiaaGreatDoor

/- The walk of laws.FnElect. -/
namespace Go.Proofs.YtdfinapjgffjiaaGreatDoor
open Go.RowKit
set_option linter.unusedVariables false
set_option maxRecDepth 100000

set_option maxHeartbeats 3200000 in
theorem lawFnElect (ao : Option Addr) (ca n : Nat) (bo : Option Addr) (cb l : Nat) (w : World) (hn : n ≤ maxLen) (hB : Bs w ao n) (hl : l ≤ maxLen) (hC : Bs w bo l) (hE : ErrW w) :
    Calls Tryz.prog 3 #[.slice ao n ca, .slice bo l cb] w fun e w' => e = .returned (.bool true) ∧ Below w.heap.size w w' := by
  have HE := hide hE
  have HBS := hide hB
  have HCS := hide hC
  clear hE hB hC
  unfold maxLen at hn hl
  by_cases h : 1048576 < n
  · go_enter Tryz.func3, Tryz.ntmps3
    go_wp2
    go_ret
    exact ⟨rfl, Below.refl _ _⟩
  by_cases h2 : 1048576 < l
  · go_enter Tryz.func3, Tryz.ntmps3
    go_wp2
    go_ret
    exact ⟨rfl, Below.refl _ _⟩
  have hn' : n ≤ 1048576 := by omega
  have hl' : l ≤ 1048576 := by omega
  go_enter Tryz.func3, Tryz.ntmps3
  go_wp2_with fail
  refine (leaseDisk_any ao n ca _ hn' (unhide HBS)).mono ?_
  rintro e w1 ⟨ss, po, pa, qo, qa, rfl, hd, _, hs1, hb1⟩
  have HD0 := hide hd
  have HL0 := hide (diskB_len hd).1
  have E0 : Hid (Dm w w1 [] []) := hide ⟨hb1, fun p hp => (by cases hp), fun p hp => (by cases hp), (unhide HE).below hb1⟩
  have E1 := hide ((unhide E0).addD hs1 pa qo qa)
  have HC1 := hide ((unhide HCS).below (fr hb1 (Joins.below_alloc1 w1 (.cells #[.slice po ss.length pa, .slice qo 0 qa] 26))))
  clear hd hs1 hb1 E0 HE HBS HCS
  go_wp2_with fail
  revert E1 HC1
  generalize w1.alloc (.cells #[.slice po ss.length pa, .slice qo 0 qa] 26) = W1
  generalize w1.heap.size = C0
  intro E1 HC1
  refine (at_any bo l cb 0 4 _ hl' (by omega) (by omega) (by omega) (by omega) (unhide HC1)).mono ?_
  rintro e w2 ⟨hh, rfl, hh0, hh1, hb2⟩
  have E2 := hide ((unhide E1).next hb2)
  clear hb2 E1 HC1
  have hh3 : hh ≤ 3 := by omega
  -- plain
  obtain ⟨L, HLO⟩ : ∃ L, Hid (ldOf ss [] hh = L) := ⟨_, hide rfl⟩
  have hLr : 0 ≤ L.ver ∧ L.ver ≤ 1000000 := by rw [← unhide HLO]; exact (ldB_lo (ld_right _)).1
  have wrL : IntKind.i64.wrap (L.ver + 1) = L.ver + 1 := by rw [IntKind.wrap_i64]; omega
  have HRL := hide (rl_nil (unhide HD0) hh0 hh3 (unhide HLO))
  obtain ⟨R, HR⟩ : ∃ R, Hid (elA ss [] hh hh 7 = R) := ⟨_, hide rfl⟩
  have HPL := hide (el_plain (unhide HR) (unhide HD0) hh0 hh3 (by simp [inB]; omega))
  rw [unhide HLO] at HPL
  obtain ⟨SS, HSS⟩ : ∃ S, Hid (R.ss = S) := ⟨_, hide rfl⟩
  obtain ⟨M, HM⟩ : ∃ M, Hid (R.l = M) := ⟨_, hide rfl⟩
  obtain ⟨c, HC⟩ : ∃ c, Hid (R.c = c) := ⟨_, hide rfl⟩
  have HDS : Hid (diskB SS [] = true) := hide (by rw [← unhide HSS]; exact (unhide HPL).2.2.1)
  have HLS : Hid (SS.length ≤ maxLen) := hide (right_sz (unhide HDS)).1.1
  have HEI : Hid (∀ (ao bo : Option Addr) (ca cb : Nat) (W : World), Ss W ao ss → ErrW W → Calls Tryz.prog 8 #[.agg #[.slice ao ss.length ca, .slice bo 0 cb], .int .i64 hh, .int .i64 hh, .int .i64 7] W fun e w' => ∃ po pa qo qa, e = .returned (.tuple #[.agg #[.slice po SS.length pa, .slice qo 0 qa], lV M, .int .i64 c]) ∧ Ss w' po SS ∧ Below W.heap.size W w') := hide (fun ao bo ca cb W h1 hE => by
    have k := elect_nil R ao bo ca cb ss hh hh 7 W (unhide HR) (unhide HPL).2.1 (unhide HPL).2.2.1 (unhide HD0) h1 hE
    rw [unhide HSS, unhide HM, unhide HC] at k
    exact k)
  have HES : Hid (∀ (ao bo : Option Addr) (ca cb : Nat) (W : World), Ss W ao ss → Calls Tryz.prog 9 #[.agg #[.slice ao ss.length ca, .slice bo 0 cb], .int .i64 hh, .int .i64 hh, .int .i64 7] W fun e w' => ∃ po pa qo qa, e = .returned (.tuple #[.agg #[.slice po SS.length pa, .slice qo 0 qa], lV M, .int .i64 c]) ∧ Ss w' po SS ∧ Below W.heap.size W w') := hide (fun ao bo ca cb W h1 => by
    have k := elect_nilS R ao bo ca cb ss hh hh 7 W (unhide HR) (unhide HPL).2.1 (unhide HPL).2.2.1 (unhide HD0) h1
    rw [unhide HSS, unhide HM, unhide HC] at k
    exact k)
  rw [unhide HSS, unhide HM, unhide HC] at HPL
  -- the leader that was
  obtain ⟨a0, ca0, b0, cb0, hv0, hs0⟩ := (unhide E2).d (C0, ss) (by simp)
  obtain ⟨d0, d1⟩ := hv0.cells
  have HS0 := hide hs0
  clear hv0 hs0
  go_wp2_with fail
  refine (read_nilL _ _ _ _ ss hh L _ (unhide HRL) (unhide HD0) (unhide HS0) (unhide E2).e).mono ?_
  rintro e w3 ⟨rfl, hb3⟩
  have E3 := hide (((unhide E2).next hb3).addT L)
  clear hb3 d0 d1 HS0 E2
  go_upto_region 6 with fail
  revert E3
  generalize w3.alloc (.cells #[.int .i64 L.ver, .int .i64 L.own, .int .i64 L.gen] 30) = W3
  generalize w3.heap.size = CO
  intro E3
  -- the program's election
  obtain ⟨a0, ca0, b0, cb0, hv0, hs0⟩ := (unhide E3).d (C0, ss) (by simp)
  obtain ⟨d0, d1⟩ := hv0.cells
  have HS0 := hide hs0
  clear hv0 hs0
  go_wp2_with fail
  refine (unhide HEI _ _ _ _ _ (unhide HS0) (unhide E3).e).mono ?_
  rintro e w4 ⟨p4, pa4, q4, qa4, rfl, hs4, hb4⟩
  have E4 := hide (((unhide E3).next hb4).both hs4 pa4 q4 qa4 M)
  clear hs4 hb4 d0 d1 HS0 E3
  go_upto_region 7 with fail
  revert E4
  generalize (w4.alloc (.cells #[.slice p4 SS.length pa4, .slice q4 0 qa4] 26)).alloc (.cells #[.int .i64 M.ver, .int .i64 M.own, .int .i64 M.gen] 30) = W4
  generalize w4.heap.size + 1 = CM
  generalize w4.heap.size = CX
  intro E4
  -- the model's
  obtain ⟨a0, ca0, b0, cb0, hv0, hs0⟩ := (unhide E4).d (C0, ss) (by simp)
  obtain ⟨d0, d1⟩ := hv0.cells
  have HS0 := hide hs0
  clear hv0 hs0
  go_wp2_with fail
  refine (unhide HES _ _ _ _ _ (unhide HS0)).mono ?_
  rintro e w5 ⟨p5, pa5, q5, qa5, rfl, hs5, hb5⟩
  have E5 := hide (((unhide E4).next hb5).both hs5 pa5 q5 qa5 M)
  clear hs5 hb5 d0 d1 HS0 E4
  go_upto_region 8 with fail
  revert E5
  generalize (w5.alloc (.cells #[.slice p5 SS.length pa5, .slice q5 0 qa5] 26)).alloc (.cells #[.int .i64 M.ver, .int .i64 M.own, .int .i64 M.gen] 30) = W5
  generalize w5.heap.size + 1 = CN
  generalize w5.heap.size = CY
  intro E5
  -- both are alike
  obtain ⟨a0, ca0, b0, cb0, hv0, hs0⟩ := (unhide E5).d (CX, SS) (by simp)
  obtain ⟨d0, d1⟩ := hv0.cells
  obtain ⟨a1, ca1, b1, cb1, hv1, hs1⟩ := (unhide E5).d (CY, SS) (by simp)
  obtain ⟨d2, d3⟩ := hv1.cells
  have HS0 := hide hs0
  have HS1 := hide hs1
  clear hv0 hs0 hv1 hs1
  have bcc : (c != c) = false := by simp
  go_wp2_with fail
  refine (sameDisk_same _ _ _ _ _ _ _ _ SS [] _ (unhide HLS) (by simp) (unhide HS0) (iosNil _ _) (unhide HS1) (iosNil _ _)).mono ?_
  rintro e w6 ⟨rfl, hb6⟩
  have E6 := hide ((unhide E5).next hb6)
  clear hb6 d0 d1 d2 d3 HS0 HS1 E5
  obtain ⟨t0, t1, t2⟩ := ((unhide E6).t (CM, M) (by simp)).cells
  obtain ⟨u0, u1, u2⟩ := ((unhide E6).t (CN, M) (by simp)).cells
  have x0 : (M.ver == M.ver) = true := by simp
  have x1 : (M.own == M.own) = true := by simp
  have x2 : (M.gen == M.gen) = true := by simp
  have hcc := (unhide HPL).1
  by_cases hc : c = 0
  · have hc0 : (c != 0) = false := by simp [hc]
    obtain ⟨y1, y2, y3, y4, y5⟩ := (unhide HPL).2.2.2 hc
    clear hc hcc
    have HY2 := hide y2
    have HV := hide y1
    obtain ⟨hp, HHP⟩ : ∃ hp, Hid (Int.tmod (hh + 1) 4 = hp ∧ 0 ≤ hp ∧ hp ≤ 3) := ⟨_, hide ⟨rfl, by rw [Int.tmod_eq_emod_of_nonneg (by omega)]; omega, by rw [Int.tmod_eq_emod_of_nonneg (by omega)]; omega⟩⟩
    obtain ⟨hq, HHQ⟩ : ∃ hq, Hid (Int.tmod (M.own + 1) 4 = hq ∧ (0 ≤ hq ∧ hq ≤ 3) ∧ M.own ≠ hq) := ⟨_, hide ⟨rfl, by rw [Int.tmod_eq_emod_of_nonneg (by omega)]; omega, by rw [Int.tmod_eq_emod_of_nonneg (by omega)]; omega⟩⟩
    have wa : IntKind.i64.wrap (hh + 1) = hh + 1 := by rw [IntKind.wrap_i64]; omega
    have wb : IntKind.i64.wrap (M.own + 1) = M.own + 1 := by rw [IntKind.wrap_i64]; omega
    have wc : IntKind.i64.wrap hp = hp := by have := unhide HHP; rw [IntKind.wrap_i64]; omega
    have wd : IntKind.i64.wrap hq = hq := by have := unhide HHQ; rw [IntKind.wrap_i64]; omega
    have we := (unhide HHP).1
    have wf := (unhide HHQ).1
    have HR1 := hide (rl_nil (h := hp) (unhide HDS) (unhide HHP).2.1 (unhide HHP).2.2 (y5 hp))
    have HH1 := hide (hl_yes (h := M.own) (unhide HDS) y3.1 y3.2 (y5 M.own) rfl)
    have HH2 := hide (hl_no (h := hq) (g := M.gen) (unhide HDS) (unhide HHQ).2.1.1 (unhide HHQ).2.1.2 (y5 hq) (unhide HHQ).2.2)
    have HEN : Hid (elR M = encL M ∧ elC M = 0) := hide ⟨if_pos y2, if_pos y2⟩
    have HDE := hide (lc_enc y2)
    clear y1 y2 y3 y4 y5
    obtain ⟨a0, ca0, b0, cb0, hv0, hs0⟩ := (unhide E6).d (CX, SS) (by simp)
    obtain ⟨d0, d1⟩ := hv0.cells
    have HS0 := hide hs0
    clear hv0 hs0
    go_wp2_with fail
    refine (read_nilL _ _ _ _ SS hp M _ (unhide HR1) (unhide HDS) (unhide HS0) (unhide E6).e).mono ?_
    rintro e w7 ⟨rfl, hb7⟩
    have E7 := hide (((unhide E6).next hb7).addT M)
    clear hb7 d0 d1 HS0 E6 t0 t1 t2 u0 u1 u2
    go_upto_region 13 with fail
    revert E7
    generalize w7.alloc (.cells #[.int .i64 M.ver, .int .i64 M.own, .int .i64 M.gen] 30) = W7
    generalize w7.heap.size = CS
    intro E7
    obtain ⟨a0, ca0, b0, cb0, hv0, hs0⟩ := (unhide E7).d (CX, SS) (by simp)
    obtain ⟨d0, d1⟩ := hv0.cells
    obtain ⟨t0, t1, t2⟩ := ((unhide E7).t (CM, M) (by simp)).cells
    have HS0 := hide hs0
    clear hv0 hs0
    go_wp2_with fail
    refine (holds_nil _ _ _ _ SS M.own M.gen true _ (unhide HH1) (unhide HDS) (unhide HS0) (unhide E7).e).mono ?_
    rintro e w8 ⟨rfl, hb8⟩
    have E8 := hide ((unhide E7).next hb8)
    clear hb8 d0 d1 HS0 E7 t0 t1 t2
    obtain ⟨a0, ca0, b0, cb0, hv0, hs0⟩ := (unhide E8).d (CX, SS) (by simp)
    obtain ⟨d0, d1⟩ := hv0.cells
    obtain ⟨t0, t1, t2⟩ := ((unhide E8).t (CM, M) (by simp)).cells
    have HS0 := hide hs0
    clear hv0 hs0
    go_wp2_with fail
    refine (holds_nil _ _ _ _ SS hq M.gen false _ (unhide HH2) (unhide HDS) (unhide HS0) (unhide E8).e).mono ?_
    rintro e w9 ⟨rfl, hb9⟩
    have E9 := hide ((unhide E8).next hb9)
    clear hb9 d0 d1 HS0 E8 t0 t1 t2
    obtain ⟨t0, t1, t2⟩ := ((unhide E9).t (CM, M) (by simp)).cells
    go_wp2_with fail
    refine (encodeLeader_impl M _).mono ?_
    rintro e wa ⟨rfl, hba⟩
    rw [(unhide HEN).1, (unhide HEN).2]
    have Ea := hide ((unhide E9).next hba)
    clear hba E9 t0 t1 t2
    go_wp2_with fail
    refine (decodeLeader_impl (encL M) _ (unhide Ea).e).mono ?_
    rintro e wb ⟨rfl, hbb⟩
    rw [(unhide HDE).1, (unhide HDE).2]
    have Eb := hide (((unhide Ea).next hbb).addT M)
    clear hbb Ea
    go_upto_region 17 with fail
    revert Eb
    generalize wb.alloc (.cells #[.int .i64 M.ver, .int .i64 M.own, .int .i64 M.gen] 30) = Wb
    generalize wb.heap.size = CB
    intro Eb
    obtain ⟨t0, t1, t2⟩ := ((unhide Eb).t (CM, M) (by simp)).cells
    obtain ⟨u0, u1, u2⟩ := ((unhide Eb).t (CS, M) (by simp)).cells
    obtain ⟨v0, v1, v2⟩ := ((unhide Eb).t (CB, M) (by simp)).cells
    obtain ⟨z0, z1, z2⟩ := ((unhide Eb).t (CO, L) (by simp)).cells
    have bv : (M.ver == L.ver + 1) = true := by rw [unhide HV]; simp
    go_wp2_with fail
    refine (leaderOK_impl M _).mono ?_
    rintro e wc ⟨rfl, hbc⟩
    rw [unhide HY2]
    have HK := hide (fr (unhide Eb).below hbc)
    clear hbc
    go_wp2
    go_ret
    exact ⟨rfl, unhide HK⟩
  · have hc0 : (c != 0) = true := by simp [hc]
    have hcd : (c == 19) = true ∨ ((c == 19) = false ∧ (c == 6) = true) := by
      rcases hcc with k | k | k
      · exact absurd k hc
      · exact .inr ⟨by simp [k], by simp [k]⟩
      · exact .inl (by simp [k])
    clear hc hcc
    have HK := hide (unhide E6).below
    rcases hcd with k1 | ⟨k1, k2⟩
    · go_wp2
      go_ret
      exact ⟨rfl, unhide HK⟩
    · go_wp2
      go_ret
      exact ⟨rfl, unhide HK⟩

end Go.Proofs.YtdfinapjgffjiaaGreatDoor
