import Derived.Test.YtdfinapjgffjiaaGreatDoorRows
import Derived.Test.YtdfinapjgffjiaaGreatDoorPart1
import Derived.Test.YtdfinapjgffjiaaGreatDoorPart2
import Derived.Test.YtdfinapjgffjiaaGreatDoorPart4
import Derived.Test.YtdfinapjgffjiaaGreatDoorPart11
import Derived.Test.YtdfinapjgffjiaaGreatDoorPart6
import Derived.Test.YtdfinapjgffjiaaGreatDoorPart12
import Derived.Test.YtdfinapjgffjiaaGreatDoorPart18
import Derived.Test.YtdfinapjgffjiaaGreatDoorPart8
import Derived.Test.YtdfinapjgffjiaaGreatDoorPart17
import Derived.WalkKit
import Derived.WalkSpells
import Derived.KernelRfl
import Derived.Deep.RegionWith
import Derived.Deep.RegionHeld3
import Derived.Deep.MidRow
import Derived.Deep.CutRange
import Derived.Test.YtdfinapjgffjiaaGreatDoorPart3
import Derived.Test.YtdfinapjgffjiaaGreatDoorPart9
import Derived.Test.YtdfinapjgffjiaaGreatDoorPart5
import Derived.Test.YtdfinapjgffjiaaGreatDoorPart10
import Derived.Test.YtdfinapjgffjiaaGreatDoorPart7

/- Contract of spec.Elect; how great the answers of Elect and Release are. -/
namespace Go.Proofs.YtdfinapjgffjiaaGreatDoor
open Go.RowKit
set_option linter.unusedVariables false
set_option maxRecDepth 100000

/-- A right disk, or none. -/
def AnsOK (R : Ans) : Prop := (R.ss = [] ∧ R.xs = []) ∨ diskB R.ss R.xs = true
theorem elA_ok (ss : List ByteArray) (xs : List Wr) (h o g : Int) : AnsOK (elA ss xs h o g) := by
  by_cases e : leC ss xs h = 0
  · cases e1 : (inB o 0 3 && inB g 1 1000000) with
    | false => rw [elA_range e e1]; exact .inl ⟨rfl, rfl⟩
    | true =>
      obtain ⟨ed, ⟨h0, h3⟩, el⟩ := leC_eq e
      cases e2 : elMany ss xs h with
      | true => rw [elA_many e e1 e2]; exact .inr ed
      | false =>
        rw [elA_end e e1 e2]
        have k := elRun_ok 13 _ (elFrom_ok e e1 e2)
        have k' : ElOK h (elEnd (elFrom ss xs h o g)) := k
        unfold elLast
        split
        · exact .inr (w_right k'.d k'.l h0 h3 (by decide) (by decide) (by rw [encL_size]; decide))
        · exact .inr k'.d
  · rw [elA_room e]; exact .inl ⟨rfl, rfl⟩
theorem rsA_ok (ss : List ByteArray) (xs : List Wr) (h : Int) (X : Ld) : AnsOK (rsA ss xs h X) := by
  unfold rsA
  split
  · rename_i e
    obtain ⟨ed, ⟨h0, h3⟩, el⟩ := leC_eq e
    split
    · split
      · split
        · split
          · exact .inr ed
          · exact .inr (w_right ed el h0 h3 (by decide) (by decide) (by rw [encL_size]; decide))
        · exact .inr ed
      · exact .inr ed
    · exact .inl ⟨rfl, rfl⟩
  · exact .inl ⟨rfl, rfl⟩
theorem AnsOK.sizes {R : Ans} (h : AnsOK R) : ((∀ s ∈ R.ss, s.size ≤ maxLen) ∧ ∀ x ∈ R.xs, x.data.size ≤ maxLen) ∧ R.ss.length ≤ 2097152 ∧ R.xs.length ≤ 2097152 := by
  rcases h with ⟨h1, h2⟩ | h
  · rw [h1, h2]
    exact ⟨⟨fun s hs => absurd hs (by simp), fun s hs => absurd hs (by simp)⟩, by simp, by simp⟩
  · have := diskB_len h
    exact ⟨⟨rightS h, rightX h⟩, by omega, by omega⟩

set_option maxHeartbeats 1600000 in
theorem elect_spec (R : Ans) (ao bo : Option Addr) (ca cb : Nat) (ss : List ByteArray) (xs : List Wr) (h o g : Int) (w : World) (hR : elA ss xs h o g = R) (hl : ss.length ≤ maxLen) (hm : xs.length ≤ maxLen) (h1 : Ss w ao ss) (h2 : Ios w bo xs) :
    Calls Tryz.prog 9 #[.agg #[.slice ao ss.length ca, .slice bo xs.length cb], .int .i64 h, .int .i64 o, .int .i64 g] w fun e w' => Told w w' R e := by
  have HT := hide (tl_new3 w ao bo ca cb ss.length xs.length)
  have HL := hide hl
  have HM := hide hm
  have H1 := hide h1
  have H2 := hide h2
  have HRR := hide hR
  clear h1 h2 hl hm hR
  go_enter Tryz.func9, Tryz.ntmps9
  go_upto_region 1 with fail
  revert HT
  generalize (((w.alloc (.cells #[.slice ao ss.length ca, .slice bo xs.length cb] 26)).alloc (.cells #[.slice none 0 0, .slice none 0 0] 26)).alloc (.cells #[.int .i64 0, .int .i64 0, .int .i64 0] 30)) = W0
  intro HT
  have HO : Hid (w.heap.size ≤ w.heap.size + 1 ∧ w.heap.size ≤ w.heap.size + 1 + 1 ∧ w.heap.size + 1 ≠ w.heap.size + 1 + 1) := hide (by omega)
  generalize w.heap.size + 1 + 1 = B2 at *
  generalize w.heap.size + 1 = B1 at *
  have x3 : B1 ≠ B2 := (unhide HO).2.2
  have x3' : B2 ≠ B1 := Ne.symm (unhide HO).2.2
  obtain ⟨d0, d1⟩ := (unhide HT).d.cells
  go_wp2_with fail
  refine (l06Ask_any _ _ _ _ ss xs h _ (unhide HL) (unhide HM) ((unhide H1).below (unhide HT).below) ((unhide H2).below (unhide HT).below)).mono ?_
  rintro e w1 ⟨rfl, hb1⟩
  have HT1 := hide ((unhide HT).next hb1)
  clear hb1 d0 d1
  obtain ⟨c, HC⟩ : ∃ c, Hid (leC ss xs h = c) := ⟨_, hide rfl⟩
  rw [unhide HC]
  by_cases hc : c = 0
  · have hb : (c != 0) = false := by simp [hc]
    have HC0 : Hid (leC ss xs h = 0) := hide ((unhide HC).trans hc)
    clear hc
    have HZ : Hid ((inB o 0 3 && inB g 1 1000000) = false → R = ⟨[], [], ld0, 4⟩) := hide (fun hx => by rw [← unhide HRR]; exact elA_range (unhide HC0) hx)
    obtain ⟨b1, HB1⟩ : ∃ b, Hid (inB o 0 3 = b) := ⟨_, hide rfl⟩
    obtain ⟨b2, HB2⟩ : ∃ b, Hid (inB g 1 1000000 = b) := ⟨_, hide rfl⟩
    go_wp2_with fail
    refine (l04Host_any o _).mono ?_
    rintro e w2 ⟨rfl, hw⟩
    replace hw := hw.symm
    subst hw
    rw [unhide HB1]
    obtain ⟨r0, r1⟩ := (unhide HT1).r.cells
    have r2 := (unhide HT1).r.free 0
    have r3 := (unhide HT1).r.free 1
    obtain ⟨t0, t1, t2⟩ := (unhide HT1).t.cells
    obtain ⟨t3, t4, t5⟩ := (unhide HT1).t.free
    have HF := hide (fun a b x y z => below5 (unhide HT1).below (unhide HO).1 (unhide HO).2.1 a b x y z)
    cases b1 with
    | false =>
      have HQ := hide (unhide HZ (by rw [unhide HB1]; rfl))
      go_wp2
      exact bodyPost_ret (v := .tuple #[.agg #[.slice none 0 0, .slice none 0 0], lV ld0, .int .i64 4]) (by simp [results, Tryz.results9, go_sem, r0, r1, t0, t1, t2, ld0]) rfl (told_zero (unhide HQ) (unhide HF _ _ _ _ _))
    | true =>
      go_wp2_with fail
      refine (l01In_num g 1 1000000 _).mono ?_
      rintro e w2 ⟨rfl, hw⟩
      replace hw := hw.symm
      subst hw
      rw [unhide HB2]
      cases b2 with
      | false =>
        have HQ := hide (unhide HZ (by rw [unhide HB1, unhide HB2]; rfl))
        go_wp2
        exact bodyPost_ret (v := .tuple #[.agg #[.slice none 0 0, .slice none 0 0], lV ld0, .int .i64 4]) (by simp [results, Tryz.results9, go_sem, r0, r1, t0, t1, t2, ld0]) rfl (told_zero (unhide HQ) (unhide HF _ _ _ _ _))
      | true =>
        have HCE := hide (fun W (hW : Below w.heap.size w W) => l06Elect_any R ao bo ca cb ss xs h o g W (unhide HRR) (unhide HC0) (by rw [unhide HB1, unhide HB2]; rfl) ((unhide H1).below hW) ((unhide H2).below hW))
        have HSZ : Hid (R.ss.length ≤ 1048576 ∧ R.xs.length ≤ 1048576) := hide (by
          have k9 := elA_ok ss xs h o g
          rw [unhide HRR] at k9
          rcases k9 with ⟨a, b⟩ | k9
          · rw [a, b]; simp
          · have := diskB_len k9; omega)
        obtain ⟨d0, d1⟩ := (unhide HT1).d.cells
        clear r0 r1 r2 r3 t0 t1 t2 t3 t4 t5
        go_wp2_with fail
        refine (unhide HCE _ (unhide HT1).below).mono ?_
        rintro e w3 ⟨po, pa, qo, qa, rfl, hs3, hi3, hb3⟩
        have HA3 := hide (Joins.below_alloc2 w3 (.cells #[.slice po R.ss.length pa, .slice qo R.xs.length qa] 26) (.cells #[.int .i64 R.l.ver, .int .i64 R.l.own, .int .i64 R.l.gen] 30))
        have HT3 := hide (((unhide HT1).next hb3).next (unhide HA3))
        have HS3 := hide (And.intro (hs3.below (unhide HA3)) (hi3.below (unhide HA3)))
        have HV3 := hide ((VarD.new w3 (.slice po R.ss.length pa) (.slice qo R.xs.length qa)).below (Joins.below_alloc1 _ (.cells #[.int .i64 R.l.ver, .int .i64 R.l.own, .int .i64 R.l.gen] 30)))
        have HU3 := hide (varL_new w3 (.cells #[.slice po R.ss.length pa, .slice qo R.xs.length qa] 26) R.l.ver R.l.own R.l.gen)
        have HNN : Hid (B1 < w3.heap.size ∧ B2 < w3.heap.size) := hide ⟨((unhide HT1).next hb3).r.lt, ((unhide HT1).next hb3).t.lt⟩
        clear hs3 hi3 hb3 d0 d1 HA3
        go_wp2_with fail
        revert HT3 HS3 HV3 HU3 HNN
        generalize (w3.alloc (.cells #[.slice po R.ss.length pa, .slice qo R.xs.length qa] 26)).alloc (.cells #[.int .i64 R.l.ver, .int .i64 R.l.own, .int .i64 R.l.gen] 30) = W4
        intro HT3 HS3 HV3 HU3 HNN
        have y1 : B1 ≠ w3.heap.size := by have := unhide HNN; omega
        have y2 : B2 ≠ w3.heap.size := by have := unhide HNN; omega
        have y3 : B1 ≠ w3.heap.size + 1 := by have := unhide HNN; omega
        have y4 : B2 ≠ w3.heap.size + 1 := by have := unhide HNN; omega
        generalize w3.heap.size + 1 = C2 at *
        generalize w3.heap.size = C1 at *
        have y1' := y1.symm
        have y2' := y2.symm
        have y3' := y3.symm
        have y4' := y4.symm
        obtain ⟨d0, d1⟩ := (unhide HV3).cells
        obtain ⟨v0, v1, v2⟩ := (unhide HU3).cells
        have HOW := hide (fun W (hW : Below W4.heap.size W4 W) => l01Own_any po qo pa qa R.ss R.xs W (unhide HSZ).1 (unhide HSZ).2 ((unhide HS3).1.below hW) ((unhide HS3).2.below hW))
        go_region_held3 (fun w' => w'.cell? ⟨C1, 0, none⟩ = some (.slice po R.ss.length pa) ∧ w'.cell? ⟨C1, 1, none⟩ = some (.slice qo R.xs.length qa) ∧ w'.cell? ⟨C2, 0, none⟩ = some (.int .i64 R.l.ver) ∧ w'.cell? ⟨C2, 1, none⟩ = some (.int .i64 R.l.own) ∧ w'.cell? ⟨C2, 2, none⟩ = some (.int .i64 R.l.gen)) (go_keep)
          ((go_at_call 22; refine (unhide HOW _ (Below.refl _ W4).drew).mono ?_; rintro e wA ⟨po2, pa2, qo2, qa2, rfl, hoA, hbA⟩; have HBA := hide (fr (Below.refl _ W4).drew hbA); have HOA := hide (hoA.base (B' := w.heap.size) (unhide HT3).below.size); have HTA := hide ((unhide HT3).next (unhide HBA)); clear hoA hbA; obtain ⟨a0, a1⟩ := ((unhide HV3).below (unhide HBA)).cells; obtain ⟨a2, a3, a4⟩ := ((unhide HU3).below (unhide HBA)).cells; obtain ⟨r0, r1⟩ := (unhide HTA).r.cells; have r2 := (unhide HTA).r.free 0; have r3 := (unhide HTA).r.free 1; obtain ⟨u0, u1, u2⟩ := (unhide HTA).t.cells; obtain ⟨u3, u4, u5⟩ := (unhide HTA).t.free))
        all_goals
          have HFF := hide (fun a b x y z => (unhide HTA).out (unhide HOA) (unhide HO).1 (unhide HO).2.1 a b x y z)
          have HF2 := hide (fun a b x y z => (unhide HTA).out2 (unhide HOA) (unhide HO).1 (unhide HO).2.1 a b x y z)
          go_wp2
          refine bodyPost_ret (v := .tuple #[.agg #[.slice po2 R.ss.length pa2, .slice qo2 R.xs.length qa2], lV R.l, .int .i64 R.c]) (by simp [results, Tryz.results9, go_sem, r0, r1, u0, u1, u2]) rfl ?_
          first
            | exact told_end (s := ⟨R.ss, R.xs, p00, []⟩) rfl (unhide HFF _ _ _ _ _).1 (unhide HFF _ _ _ _ _).2
            | exact told_end (s := ⟨R.ss, R.xs, p00, []⟩) rfl (unhide HF2 _ _ _ _ _).1 (unhide HF2 _ _ _ _ _).2
            | exact told_end (s := ⟨R.ss, R.xs, p00, []⟩) rfl ((unhide HFF _ _ _ _ _).1.below (Below.refl _ _).drew) (unhide HFF _ _ _ _ _).2.drew
  · have hb : (c != 0) = true := by simp [hc]
    have HQ : Hid (R = ⟨[], [], ld0, c⟩) := hide (by rw [← unhide HRR, ← unhide HC]; exact elA_room (by rw [unhide HC]; exact hc))
    clear hc
    obtain ⟨r0, r1⟩ := (unhide HT1).r.cells
    have r2 := (unhide HT1).r.free 0
    have r3 := (unhide HT1).r.free 1
    obtain ⟨t0, t1, t2⟩ := (unhide HT1).t.cells
    obtain ⟨t3, t4, t5⟩ := (unhide HT1).t.free
    have HF := hide (fun a b x y z => below5 (unhide HT1).below (unhide HO).1 (unhide HO).2.1 a b x y z)
    go_wp2
    exact bodyPost_ret (v := .tuple #[.agg #[.slice none 0 0, .slice none 0 0], lV ld0, .int .i64 c]) (by simp [results, Tryz.results9, go_sem, r0, r1, t0, t1, t2, ld0]) rfl (told_zero (unhide HQ) (unhide HF _ _ _ _ _))

end Go.Proofs.YtdfinapjgffjiaaGreatDoor

/- Contract of spec.Release. -/
namespace Go.Proofs.YtdfinapjgffjiaaGreatDoor
open Go.RowKit
set_option linter.unusedVariables false
set_option maxRecDepth 100000

set_option maxHeartbeats 1600000 in
theorem release_spec (R : Ans) (ao bo : Option Addr) (ca cb : Nat) (ss : List ByteArray) (xs : List Wr) (h : Int) (X : Ld) (w : World) (hR : rsA ss xs h X = R) (hl : ss.length ≤ maxLen) (hm : xs.length ≤ maxLen) (h1 : Ss w ao ss) (h2 : Ios w bo xs) :
    Calls Tryz.prog 17 #[.agg #[.slice ao ss.length ca, .slice bo xs.length cb], .int .i64 h, lV X] w fun e w' => Told w w' R e := by
  have HN := hide (tl_new4 w ao bo ca cb ss.length xs.length X)
  have HL := hide hl
  have HM := hide hm
  have H1 := hide h1
  have H2 := hide h2
  have HRR := hide hR
  clear h1 h2 hl hm hR
  go_enter Tryz.func17, Tryz.ntmps17
  go_upto_region 1 with fail
  revert HN
  generalize ((((w.alloc (.cells #[.slice ao ss.length ca, .slice bo xs.length cb] 26)).alloc (.cells #[.int .i64 X.ver, .int .i64 X.own, .int .i64 X.gen] 30)).alloc (.cells #[.slice none 0 0, .slice none 0 0] 26)).alloc (.cells #[.int .i64 0, .int .i64 0, .int .i64 0] 30)) = W0
  intro HN
  have HO : Hid (w.heap.size ≤ w.heap.size + 1 + 1 ∧ w.heap.size ≤ w.heap.size + 1 + 1 + 1 ∧ w.heap.size + 1 + 1 ≠ w.heap.size + 1 + 1 + 1) := hide (by omega)
  have m1 : w.heap.size + 1 + 1 ≠ w.heap.size := by omega
  have m2 : w.heap.size + 1 + 1 + 1 ≠ w.heap.size := by omega
  have m3 : w.heap.size + 1 + 1 ≠ w.heap.size + 1 := by omega
  have m4 : w.heap.size + 1 + 1 + 1 ≠ w.heap.size + 1 := by omega
  generalize w.heap.size + 1 + 1 + 1 = B2 at *
  generalize w.heap.size + 1 + 1 = B1 at *
  generalize w.heap.size + 1 = BX at *
  have m1' := m1.symm
  have m2' := m2.symm
  have m3' := m3.symm
  have m4' := m4.symm
  have HT := hide (unhide HN).1
  have HX := hide (unhide HN).2
  clear HN
  obtain ⟨d0, d1⟩ := (unhide HT).d.cells
  go_wp2_with fail
  refine (l06Ask_any _ _ _ _ ss xs h _ (unhide HL) (unhide HM) ((unhide H1).below (unhide HT).below) ((unhide H2).below (unhide HT).below)).mono ?_
  rintro e w1 ⟨rfl, hb1⟩
  have HT1 := hide ((unhide HT).next hb1)
  have HX1 := hide ((unhide HX).below hb1)
  clear hb1 d0 d1
  obtain ⟨c, HC⟩ : ∃ c, Hid (leC ss xs h = c) := ⟨_, hide rfl⟩
  rw [unhide HC]
  have x3 : B1 ≠ B2 := (unhide HO).2.2
  have x3' : B2 ≠ B1 := Ne.symm (unhide HO).2.2
  by_cases hc : c = 0
  · have hb : (c != 0) = false := by simp [hc]
    have HC0 : Hid (leC ss xs h = 0) := hide ((unhide HC).trans hc)
    clear hc
    obtain ⟨t0, t1, t2⟩ := (unhide HX1).cells
    go_wp2_with fail
    refine (leaderOK_spec X _).mono ?_
    rintro e w2 ⟨rfl, hb2⟩
    have HT2 := hide ((unhide HT1).next hb2)
    have HX2 := hide ((unhide HX1).below hb2)
    clear hb2 t0 t1 t2
    by_cases hx : ldB X = true
    · have HLX := hide hx
      obtain ⟨L, HK⟩ : ∃ L, Hid (ldOf ss xs h = L) := ⟨_, hide rfl⟩
      have HD := hide (leC_eq (unhide HC0))
      have HLEN := hide (diskB_len (unhide HD).1)
      have HRD := hide (fun W (hW : Below w.heap.size w W) => l06Read_any ao bo ca cb ss xs h L W (unhide HK) (unhide HD).1 ((unhide H1).below hW) ((unhide H2).below hW))
      have HOW := hide (fun W (hW : Below w.heap.size w W) => l01Own_any ao bo ca cb ss xs W (by have := unhide HLEN; omega) (by have := unhide HLEN; omega) ((unhide H1).below hW) ((unhide H2).below hW))
      have HDO : Hid (R = ⟨(rlDo ⟨ss, xs, ⟨h, 0, 0, 0, 0, 0, 0, 0⟩, []⟩ L X).1.ss, (rlDo ⟨ss, xs, ⟨h, 0, 0, 0, 0, 0, 0, 0⟩, []⟩ L X).1.xs, (rlDo ⟨ss, xs, ⟨h, 0, 0, 0, 0, 0, 0, 0⟩, []⟩ L X).2.1, (rlDo ⟨ss, xs, ⟨h, 0, 0, 0, 0, 0, 0, 0⟩, []⟩ L X).2.2⟩) := hide (by rw [← unhide HRR, ← unhide HK]; exact rs_do _ rfl rfl rfl (unhide HC0) (unhide HLX))
      obtain ⟨r, HR⟩ : ∃ r, Hid (rlDo ⟨ss, xs, ⟨h, 0, 0, 0, 0, 0, 0, 0⟩, []⟩ L X = r) := ⟨_, hide rfl⟩
      rw [unhide HR] at HDO
      obtain ⟨d0, d1⟩ := (unhide HT2).d.cells
      obtain ⟨t0, t1, t2⟩ := (unhide HX2).cells
      go_upto_region 6 with fail
      clear hx
      go_cut [28] from 24 to 28 (fun q wx => ∃ b9 : Bool, q = .bool b9 ∧ Hid (b9 = !sameL L X) ∧ Hid (Below w2.heap.size w2 wx))
      case first =>
        rcases lead_cases L X with ⟨b1, hr⟩ | ⟨b1, b2, hr⟩ | ⟨b1, b2, b3, hr⟩ | ⟨b1, b2, b3, hr⟩
        all_goals
          replace hr := hide hr
          go_region_held3 (fun w' => w'.cell? ⟨w.heap.size, 0, none⟩ = some (.slice ao ss.length ca) ∧ w'.cell? ⟨w.heap.size, 1, none⟩ = some (.slice bo xs.length cb) ∧ w'.cell? ⟨BX, 0, none⟩ = some (.int .i64 X.ver) ∧ w'.cell? ⟨BX, 1, none⟩ = some (.int .i64 X.own) ∧ w'.cell? ⟨BX, 2, none⟩ = some (.int .i64 X.gen)) (go_keep)
            ((go_at_call 42; refine (unhide HRD _ (fr (unhide HT2).below (Below.refl _ w2).drew)).mono ?_; rintro e wA ⟨rfl, hbA⟩; have HBA := hide (fr (Below.refl _ w2).drew hbA); clear hbA; obtain ⟨a0, a1⟩ := ((unhide HT2).d.below (unhide HBA)).cells; obtain ⟨a2, a3, a4⟩ := ((unhide HX2).below (unhide HBA)).cells))
          all_goals
            go_wp2_with fail
            go_meet
            exact ⟨_, rfl, hide (by rw [unhide hr]; rfl), HBA⟩
      case rest =>
        obtain ⟨b9, rfl, HB9, HBA⟩ := hcut
        rename World => W3
        have HT3 := hide ((unhide HT2).next (unhide HBA))
        have HX3 := hide ((unhide HX2).below (unhide HBA))
        clear d0 d1 t0 t1 t2
        obtain ⟨d0, d1⟩ := (unhide HT3).d.cells
        obtain ⟨t0, t1, t2⟩ := (unhide HX3).cells
        by_cases hs : sameL L X = true
        · have HLXE : Hid (L = X) := hide (sameL_iff.1 hs)
          obtain rfl : b9 = false := by rw [unhide HB9, hs]; rfl
          clear HB9
          by_cases ho : X.own = h
          · have hob : (X.own != h) = false := by simp [ho]
            by_cases hv : X.ver = 1000000
            · have hvb : (X.ver == 1000000) = true := by simp [hv]
              have HQ : Hid (R = ⟨ss, xs, X, 6⟩) := hide (by rw [unhide HDO, ← unhide HR, rlDo, if_pos hs, if_pos (show X.own = _ from ho), if_pos hv]; rw [unhide HLXE])
              clear ho hv
              go_wp2_with fail
              go_region_held3 (fun w' => w'.cell? ⟨w.heap.size, 0, none⟩ = some (.slice ao ss.length ca) ∧ w'.cell? ⟨w.heap.size, 1, none⟩ = some (.slice bo xs.length cb) ∧ w'.cell? ⟨BX, 0, none⟩ = some (.int .i64 X.ver) ∧ w'.cell? ⟨BX, 1, none⟩ = some (.int .i64 X.own) ∧ w'.cell? ⟨BX, 2, none⟩ = some (.int .i64 X.gen)) (go_keep)
                ((go_at_call 22; refine (unhide HOW _ (fr (unhide HT3).below (Below.refl _ W3).drew)).mono ?_; rintro e wA ⟨po, pa, qo, qa, rfl, hoA, hbA⟩; have HBA := hide (fr (Below.refl _ W3).drew hbA); have HOA := hide (hoA.base (B' := w.heap.size) (unhide HT3).below.size); have HTA := hide ((unhide HT3).next (unhide HBA)); clear hoA hbA; obtain ⟨a0, a1⟩ := (unhide HTA).d.cells; obtain ⟨a2, a3, a4⟩ := ((unhide HX3).below (unhide HBA)).cells; obtain ⟨r0, r1⟩ := (unhide HTA).r.cells; have r2 := (unhide HTA).r.free 0; have r3 := (unhide HTA).r.free 1; obtain ⟨u0, u1, u2⟩ := (unhide HTA).t.cells; obtain ⟨u3, u4, u5⟩ := (unhide HTA).t.free))
              all_goals
                have HF := hide (fun a b x y z => (unhide HTA).out (unhide HOA) (unhide HO).1 (unhide HO).2.1 a b x y z)
                have HF2 := hide (fun a b x y z => (unhide HTA).out2 (unhide HOA) (unhide HO).1 (unhide HO).2.1 a b x y z)
                go_wp2
                refine bodyPost_ret (v := .tuple #[.agg #[.slice po ss.length pa, .slice qo xs.length qa], lV X, .int .i64 6]) (by simp [results, Tryz.results17, go_sem, r0, r1, u0, u1, u2]) rfl ?_
                first
                  | exact told_end (s := ⟨ss, xs, p00, []⟩) (unhide HQ) (unhide HF _ _ _ _ _).1 (unhide HF _ _ _ _ _).2
                  | exact told_end (s := ⟨ss, xs, p00, []⟩) (unhide HQ) (unhide HF2 _ _ _ _ _).1 (unhide HF2 _ _ _ _ _).2
                  | exact told_end (s := ⟨ss, xs, p00, []⟩) (unhide HQ) ((unhide HF _ _ _ _ _).1.below (Below.refl _ _).drew) (unhide HF _ _ _ _ _).2.drew
            · have hvb : (X.ver == 1000000) = false := by simp [hv]
              have HQ : Hid (R = ⟨wS ss xs h 0 (encL (ldN (X.ver + 1))), wX xs h 0 (encL (ldN (X.ver + 1))), ldN (X.ver + 1), 0⟩) := hide (by rw [unhide HDO, ← unhide HR, rlDo, if_pos hs, if_pos (show X.own = _ from ho), if_neg hv])
              have hvv := (ldB_lo (unhide HLX)).1
              have wr1 : IntKind.i64.wrap (X.ver + 1) = X.ver + 1 := by rw [IntKind.wrap_i64]; omega
              have HMB : Hid (ldB ⟨X.ver + 1, -1, 0⟩ = true) := hide (ldB_N _ (by omega) (by omega))
              obtain ⟨t, HTE⟩ : ∃ t, Hid (encL (ldN (X.ver + 1)) = t) := ⟨_, hide rfl⟩
              have HTS : Hid (t.size ≤ 80) := hide (by rw [← unhide HTE, encL_size]; decide)
              rw [unhide HTE] at HQ
              have HP : Hid (diskB ss (xs ++ [⟨h, 0, t⟩]) = true) := hide (diskB_snoc (unhide HD).1 (unhide HD).2.2 (w_io (unhide HD).2.1.1 (unhide HD).2.1.2 (by decide) (by decide) (unhide HTS)))
              have HXL : Hid (xs.length ≤ 1048576) := hide (by have := unhide HLEN; omega)
              have HRT := hide (w_right (unhide HD).1 (unhide HD).2.2 (unhide HD).2.1.1 (unhide HD).2.1.2 (show (0 : Int) ≤ 0 by decide) (by decide) (unhide HTS))
              have HNL := hide (wS_len ss xs h 0 t)
              obtain ⟨S, HSS⟩ : ∃ S, Hid (wS ss xs h 0 t = S) := ⟨_, hide rfl⟩
              obtain ⟨Y, HXX⟩ : ∃ Y, Hid (wX xs h 0 t = Y) := ⟨_, hide rfl⟩
              rw [unhide HSS] at HQ HRT HNL
              rw [unhide HXX] at HQ HRT
              have HQS := hide (rightS (unhide HRT))
              have HQX := hide (rightX (unhide HRT))
              have HK12 : Hid (S.length ≤ 1048576 ∧ Y.length ≤ 1048576) := hide (by have := diskB_len (unhide HRT); omega)
              have HA4 := hide (Joins.below_alloc1 W3 (.cells #[.int .i64 (X.ver + 1), .int .i64 (-1), .int .i64 0] 30))
              have HV4 := hide (VarT.new W3 30 (X.ver + 1) (-1) 0)
              have HT4 := hide ((unhide HT3).next (unhide HA4))
              have HLT := hide (And.intro (unhide HT3).r.lt (unhide HT3).t.lt)
              clear ho hv hvv
              go_wp2_with fail
              clear d0 d1 t0 t1 t2
              revert HV4 HT4 HLT
              clear HA4
              generalize W3.alloc (.cells #[.int .i64 (X.ver + 1), .int .i64 (-1), .int .i64 0] 30) = W4
              generalize W3.heap.size = C
              intro HV4 HT4 HLT
              have m5 : B1 ≠ C := by have := (unhide HLT).1; omega
              have m6 : B2 ≠ C := by have := (unhide HLT).2; omega
              have m5' := m5.symm
              have m6' := m6.symm
              obtain ⟨d0, d1⟩ := (unhide HT4).d.cells
              obtain ⟨t0, t1, t2⟩ := (unhide HV4).cells
              have HFL := hide (fun (gg cap B : Nat) (W : World) (hW : Below w.heap.size w W) hO => l01Flush_sure ao ca gg cap B ss xs h 0 t S Y W (unhide HSS) (unhide HXX) (unhide HP) ((unhide H1).below hW) hO)
              have HENC := hide (fun W => l06Encode_ld ⟨X.ver + 1, -1, 0⟩ W (unhide HMB))
              rw [show encL (⟨X.ver + 1, -1, 0⟩ : Ld) = t from unhide HTE] at HENC
              go_region_held3 (fun w' => w'.cell? ⟨w.heap.size, 0, none⟩ = some (.slice ao ss.length ca) ∧ w'.cell? ⟨w.heap.size, 1, none⟩ = some (.slice bo xs.length cb) ∧ w'.cell? ⟨C, 0, none⟩ = some (.int .i64 (X.ver + 1)) ∧ w'.cell? ⟨C, 1, none⟩ = some (.int .i64 (-1)) ∧ w'.cell? ⟨C, 2, none⟩ = some (.int .i64 0)) (go_keep)
                (first
                  | (go_at_call 45; refine (unhide HENC _).mono ?_; rintro e wA ⟨rfl, hbA⟩; have HBA := hide (fr (Below.refl _ W4).drew hbA); clear hbA; have HTA := hide ((unhide HT4).next (unhide HBA)); obtain ⟨a0, a1⟩ := (unhide HTA).d.cells; obtain ⟨a2, a3, a4⟩ := ((unhide HV4).below (unhide HBA)).cells)
                  | (go_at_call 44; refine (l01Write_hd ao bo ss.length ca cb xs h 0 t _ (unhide HXL) ((unhide H2).below (unhide HTA).below)).mono ?_; rintro e wB ⟨gg, cap, rfl, hoB, hbB⟩; have HOB := hide hoB; have HTB := hide ((unhide HTA).next hbB); have HBB := hide (fr (unhide HBA) hbB); clear hoB hbB; obtain ⟨b0, b1⟩ := (unhide HTB).d.cells; obtain ⟨b2, b3, b4⟩ := ((unhide HV4).below (unhide HBB)).cells)
                  | (go_at_call 43; refine (unhide HFL gg cap _ _ (unhide HTB).below (unhide HOB)).mono ?_; rintro e wC ⟨po, pa, qo, qa, rfl, hoC, hbC⟩; have HOC := hide hoC; have HTC := hide ((unhide HTB).next hbC); have HBC := hide (fr (unhide HBB) hbC); clear hoC hbC; obtain ⟨b5, b6⟩ := (unhide HTC).d.cells; obtain ⟨b7, b8, b9⟩ := ((unhide HV4).below (unhide HBC)).cells)
                  | (go_at_call 22; refine (l01Own_len po qo pa qa S Y ss.length Y.length _ (unhide HNL).symm rfl (unhide HK12).1 (unhide HK12).2 ((unhide HOC).ss (unhide HQS)) ((unhide HOC).ios (unhide HQX))).mono ?_; rintro e wD ⟨po2, pa2, qo2, qa2, rfl, hoD, hbD⟩; have HOD := hide (hoD.base (B' := w.heap.size) (unhide HTC).below.size); have HTD := hide ((unhide HTC).next hbD); have HBD := hide (fr (unhide HBC) hbD); clear hoD hbD; obtain ⟨g0, g1⟩ := (unhide HTD).d.cells; obtain ⟨g2, g3, g4⟩ := ((unhide HV4).below (unhide HBD)).cells; obtain ⟨r0, r1⟩ := (unhide HTD).r.cells; have r2 := (unhide HTD).r.free 0; have r3 := (unhide HTD).r.free 1; obtain ⟨u0, u1, u2⟩ := (unhide HTD).t.cells; obtain ⟨u3, u4, u5⟩ := (unhide HTD).t.free))
              all_goals
                have HF := hide (fun a b x y z => (unhide HTD).out (unhide HOD) (unhide HO).1 (unhide HO).2.1 a b x y z)
                have HF2 := hide (fun a b x y z => (unhide HTD).out2 (unhide HOD) (unhide HO).1 (unhide HO).2.1 a b x y z)
                go_wp2
                refine bodyPost_ret (v := .tuple #[.agg #[.slice po2 ss.length pa2, .slice qo2 Y.length qa2], lV (ldN (X.ver + 1)), .int .i64 0]) (by simp [results, Tryz.results17, go_sem, r0, r1, u0, u1, u2, ldN]) rfl ?_
                rw [← unhide HNL]
                first
                  | exact told_end (s := ⟨S, Y, p00, []⟩) (unhide HQ) (by rw [unhide HNL]; exact (unhide HF _ _ _ _ _).1) (unhide HF _ _ _ _ _).2
                  | exact told_end (s := ⟨S, Y, p00, []⟩) (unhide HQ) (by rw [unhide HNL]; exact (unhide HF2 _ _ _ _ _).1) (unhide HF2 _ _ _ _ _).2
          · have hob : (X.own != h) = true := by simp [ho]
            have HQ : Hid (R = ⟨ss, xs, X, 9⟩) := hide (by rw [unhide HDO, ← unhide HR, rlDo, if_pos hs, if_neg (show ¬ X.own = _ from ho)]; rw [unhide HLXE])
            clear ho
            go_wp2_with fail
            go_region_held3 (fun w' => w'.cell? ⟨w.heap.size, 0, none⟩ = some (.slice ao ss.length ca) ∧ w'.cell? ⟨w.heap.size, 1, none⟩ = some (.slice bo xs.length cb) ∧ w'.cell? ⟨BX, 0, none⟩ = some (.int .i64 X.ver) ∧ w'.cell? ⟨BX, 1, none⟩ = some (.int .i64 X.own) ∧ w'.cell? ⟨BX, 2, none⟩ = some (.int .i64 X.gen)) (go_keep)
              ((go_at_call 22; refine (unhide HOW _ (fr (unhide HT3).below (Below.refl _ W3).drew)).mono ?_; rintro e wA ⟨po, pa, qo, qa, rfl, hoA, hbA⟩; have HBA := hide (fr (Below.refl _ W3).drew hbA); have HOA := hide (hoA.base (B' := w.heap.size) (unhide HT3).below.size); have HTA := hide ((unhide HT3).next (unhide HBA)); clear hoA hbA; obtain ⟨a0, a1⟩ := (unhide HTA).d.cells; obtain ⟨a2, a3, a4⟩ := ((unhide HX3).below (unhide HBA)).cells; obtain ⟨r0, r1⟩ := (unhide HTA).r.cells; have r2 := (unhide HTA).r.free 0; have r3 := (unhide HTA).r.free 1; obtain ⟨u0, u1, u2⟩ := (unhide HTA).t.cells; obtain ⟨u3, u4, u5⟩ := (unhide HTA).t.free))
            all_goals
              have HF := hide (fun a b x y z => (unhide HTA).out (unhide HOA) (unhide HO).1 (unhide HO).2.1 a b x y z)
              have HF2 := hide (fun a b x y z => (unhide HTA).out2 (unhide HOA) (unhide HO).1 (unhide HO).2.1 a b x y z)
              go_wp2
              refine bodyPost_ret (v := .tuple #[.agg #[.slice po ss.length pa, .slice qo xs.length qa], lV X, .int .i64 9]) (by simp [results, Tryz.results17, go_sem, r0, r1, u0, u1, u2]) rfl ?_
              first
                | exact told_end (s := ⟨ss, xs, p00, []⟩) (unhide HQ) (unhide HF _ _ _ _ _).1 (unhide HF _ _ _ _ _).2
                | exact told_end (s := ⟨ss, xs, p00, []⟩) (unhide HQ) (unhide HF2 _ _ _ _ _).1 (unhide HF2 _ _ _ _ _).2
                | exact told_end (s := ⟨ss, xs, p00, []⟩) (unhide HQ) ((unhide HF _ _ _ _ _).1.below (Below.refl _ _).drew) (unhide HF _ _ _ _ _).2.drew
        · rw [Bool.not_eq_true] at hs
          obtain rfl : b9 = true := by rw [unhide HB9, hs]; rfl
          clear HB9
          have HQ : Hid (R = ⟨ss, xs, L, 13⟩) := hide (by rw [unhide HDO, ← unhide HR, rlDo, if_neg (by simp [hs])])
          go_wp2_with fail
          have HXX0 := hide (Below.refl W3.heap.size W3).drew
          have HTA := hide ((unhide HT3).next (unhide HXX0))
          have HBA := HXX0
          go_region_held3 (fun w' => w'.cell? ⟨w.heap.size, 0, none⟩ = some (.slice ao ss.length ca) ∧ w'.cell? ⟨w.heap.size, 1, none⟩ = some (.slice bo xs.length cb) ∧ w'.cell? ⟨BX, 0, none⟩ = some (.int .i64 X.ver) ∧ w'.cell? ⟨BX, 1, none⟩ = some (.int .i64 X.own) ∧ w'.cell? ⟨BX, 2, none⟩ = some (.int .i64 X.gen)) (go_keep)
            (first
              | (go_at_call 22; refine (unhide HOW _ (by exact (unhide HTA).below)).mono ?_; rintro e wA ⟨po, pa, qo, qa, rfl, hoA, hbA⟩; have HOA := hide (hoA.base (B' := w.heap.size) (unhide HTA).below.size); replace HTA := hide ((unhide HTA).next hbA); replace HBA := hide (fr (unhide HBA) hbA); clear hoA hbA; obtain ⟨a0, a1⟩ := (unhide HTA).d.cells; obtain ⟨a2, a3, a4⟩ := ((unhide HX3).below (unhide HBA)).cells; obtain ⟨r0, r1⟩ := (unhide HTA).r.cells; have r2 := (unhide HTA).r.free 0; have r3 := (unhide HTA).r.free 1; obtain ⟨u0, u1, u2⟩ := (unhide HTA).t.cells; obtain ⟨u3, u4, u5⟩ := (unhide HTA).t.free)
              | (go_at_call 42; refine (unhide HRD _ (by exact (unhide HTA).below)).mono ?_; rintro e wA ⟨rfl, hbA⟩; (try replace HOA := hide ((unhide HOA).below hbA)); replace HTA := hide ((unhide HTA).next hbA); replace HBA := hide (fr (unhide HBA) hbA); clear hbA; obtain ⟨a0, a1⟩ := (unhide HTA).d.cells; obtain ⟨a2, a3, a4⟩ := ((unhide HX3).below (unhide HBA)).cells; obtain ⟨r0, r1⟩ := (unhide HTA).r.cells; have r2 := (unhide HTA).r.free 0; have r3 := (unhide HTA).r.free 1; obtain ⟨u0, u1, u2⟩ := (unhide HTA).t.cells; obtain ⟨u3, u4, u5⟩ := (unhide HTA).t.free))
          all_goals
            have HF := hide (fun a b x y z => (unhide HTA).out (unhide HOA) (unhide HO).1 (unhide HO).2.1 a b x y z)
            have HF2 := hide (fun a b x y z => (unhide HTA).out2 (unhide HOA) (unhide HO).1 (unhide HO).2.1 a b x y z)
            go_wp2
            refine bodyPost_ret (v := .tuple #[.agg #[.slice po ss.length pa, .slice qo xs.length qa], lV L, .int .i64 13]) (by simp [results, Tryz.results17, go_sem, r0, r1, u0, u1, u2]) rfl ?_
            first
              | exact told_end (s := ⟨ss, xs, p00, []⟩) (unhide HQ) (unhide HF _ _ _ _ _).1 (unhide HF _ _ _ _ _).2
              | exact told_end (s := ⟨ss, xs, p00, []⟩) (unhide HQ) (unhide HF2 _ _ _ _ _).1 (unhide HF2 _ _ _ _ _).2
              | exact told_end (s := ⟨ss, xs, p00, []⟩) (unhide HQ) ((unhide HF _ _ _ _ _).1.below (Below.refl _ _).drew) (unhide HF _ _ _ _ _).2.drew
    · rw [Bool.not_eq_true] at hx
      have HQ : Hid (R = ⟨[], [], ld0, 1⟩) := hide (by rw [← unhide HRR]; exact rs_wrong (unhide HC0) hx)
      obtain ⟨r0, r1⟩ := (unhide HT2).r.cells
      have r2 := (unhide HT2).r.free 0
      have r3 := (unhide HT2).r.free 1
      obtain ⟨t0, t1, t2⟩ := (unhide HT2).t.cells
      obtain ⟨t3, t4, t5⟩ := (unhide HT2).t.free
      have HF := hide (fun a b x y z => below5 (unhide HT2).below (unhide HO).1 (unhide HO).2.1 a b x y z)
      go_wp2
      exact bodyPost_ret (v := .tuple #[.agg #[.slice none 0 0, .slice none 0 0], lV ld0, .int .i64 1]) (by simp [results, Tryz.results17, go_sem, r0, r1, t0, t1, t2, ld0]) rfl (told_zero (unhide HQ) (unhide HF _ _ _ _ _))
  · have hb : (c != 0) = true := by simp [hc]
    have HQ : Hid (R = ⟨[], [], ld0, c⟩) := hide (by rw [← unhide HRR, ← unhide HC]; exact rs_bad (by rw [unhide HC]; exact hc))
    clear hc
    obtain ⟨r0, r1⟩ := (unhide HT1).r.cells
    have r2 := (unhide HT1).r.free 0
    have r3 := (unhide HT1).r.free 1
    obtain ⟨t0, t1, t2⟩ := (unhide HT1).t.cells
    obtain ⟨t3, t4, t5⟩ := (unhide HT1).t.free
    have HF := hide (fun a b x y z => below5 (unhide HT1).below (unhide HO).1 (unhide HO).2.1 a b x y z)
    go_wp2
    exact bodyPost_ret (v := .tuple #[.agg #[.slice none 0 0, .slice none 0 0], lV ld0, .int .i64 c]) (by simp [results, Tryz.results17, go_sem, r0, r1, t0, t1, t2, ld0]) rfl (told_zero (unhide HQ) (unhide HF _ _ _ _ _))

end Go.Proofs.YtdfinapjgffjiaaGreatDoor

/- Calls of the program's leader at right disks without writes that wait; a law's world of leaders and disks. -/
namespace Go.Proofs.YtdfinapjgffjiaaGreatDoor
open Go.RowKit
set_option linter.unusedVariables false
set_option maxRecDepth 100000

theorem iosNil (w : World) (bo : Option Addr) : Ios w bo [] := fun i hi => absurd hi (Nat.not_lt_zero _)
theorem toldNil {w W : World} {R : Ans} {e : Ending} (hx : R.xs = []) (hd : diskB R.ss [] = true) (h : Told w W R e) : ∃ po pa qo qa, e = .returned (.tuple #[.agg #[.slice po R.ss.length pa, .slice qo 0 qa], lV R.l, .int .i64 R.c]) ∧ Ss W po R.ss ∧ Below w.heap.size w W := by
  obtain ⟨po, pa, qo, qa, he, ho, hb⟩ := h
  rw [hx] at he ho
  exact ⟨po, pa, qo, qa, he, ho.ss (right_sz hd).2.1, hb⟩
theorem elect_nil (R : Ans) (ao bo : Option Addr) (ca cb : Nat) (ss : List ByteArray) (h o g : Int) (w : World) (hR : elA ss [] h o g = R) (hx : R.xs = []) (hd : diskB R.ss [] = true) (hs : diskB ss [] = true) (h1 : Ss w ao ss) (hE : ErrW w) :
    Calls Tryz.prog 8 #[.agg #[.slice ao ss.length ca, .slice bo 0 cb], .int .i64 h, .int .i64 o, .int .i64 g] w fun e w' => ∃ po pa qo qa, e = .returned (.tuple #[.agg #[.slice po R.ss.length pa, .slice qo 0 qa], lV R.l, .int .i64 R.c]) ∧ Ss w' po R.ss ∧ Below w.heap.size w w' :=
  (elect_impl R ao bo ca cb ss [] h o g w hR (right_sz hs).1.1 (by simp) h1 (iosNil w bo) hE).mono fun e w' hT => toldNil hx hd hT
theorem elect_nilS (R : Ans) (ao bo : Option Addr) (ca cb : Nat) (ss : List ByteArray) (h o g : Int) (w : World) (hR : elA ss [] h o g = R) (hx : R.xs = []) (hd : diskB R.ss [] = true) (hs : diskB ss [] = true) (h1 : Ss w ao ss) :
    Calls Tryz.prog 9 #[.agg #[.slice ao ss.length ca, .slice bo 0 cb], .int .i64 h, .int .i64 o, .int .i64 g] w fun e w' => ∃ po pa qo qa, e = .returned (.tuple #[.agg #[.slice po R.ss.length pa, .slice qo 0 qa], lV R.l, .int .i64 R.c]) ∧ Ss w' po R.ss ∧ Below w.heap.size w w' :=
  (elect_spec R ao bo ca cb ss [] h o g w hR (right_sz hs).1.1 (by simp) h1 (iosNil w bo)).mono fun e w' hT => toldNil hx hd hT
theorem release_nil (R : Ans) (ao bo : Option Addr) (ca cb : Nat) (ss : List ByteArray) (h : Int) (X : Ld) (w : World) (hR : rsA ss [] h X = R) (hx : R.xs = []) (hd : diskB R.ss [] = true) (hs : diskB ss [] = true) (h1 : Ss w ao ss) (hE : ErrW w) :
    Calls Tryz.prog 16 #[.agg #[.slice ao ss.length ca, .slice bo 0 cb], .int .i64 h, lV X] w fun e w' => ∃ po pa qo qa, e = .returned (.tuple #[.agg #[.slice po R.ss.length pa, .slice qo 0 qa], lV R.l, .int .i64 R.c]) ∧ Ss w' po R.ss ∧ Below w.heap.size w w' :=
  (release_impl R ao bo ca cb ss [] h X w hR (right_sz hs).1.1 (by simp) h1 (iosNil w bo) hE).mono fun e w' hT => toldNil hx hd hT
theorem release_nilS (R : Ans) (ao bo : Option Addr) (ca cb : Nat) (ss : List ByteArray) (h : Int) (X : Ld) (w : World) (hR : rsA ss [] h X = R) (hx : R.xs = []) (hd : diskB R.ss [] = true) (hs : diskB ss [] = true) (h1 : Ss w ao ss) :
    Calls Tryz.prog 17 #[.agg #[.slice ao ss.length ca, .slice bo 0 cb], .int .i64 h, lV X] w fun e w' => ∃ po pa qo qa, e = .returned (.tuple #[.agg #[.slice po R.ss.length pa, .slice qo 0 qa], lV R.l, .int .i64 R.c]) ∧ Ss w' po R.ss ∧ Below w.heap.size w w' :=
  (release_spec R ao bo ca cb ss [] h X w hR (right_sz hs).1.1 (by simp) h1 (iosNil w bo)).mono fun e w' hT => toldNil hx hd hT
theorem read_nilL (ao bo : Option Addr) (ca cb : Nat) (ss : List ByteArray) (h : Int) (L : Ld) (w : World) (he : rlK ss [] h = L ∧ hostC ss [] h = 0) (hs : diskB ss [] = true) (h1 : Ss w ao ss) (hE : ErrW w) :
    Calls Tryz.prog 7 #[.agg #[.slice ao ss.length ca, .slice bo 0 cb], .int .i64 h] w fun e w' => e = .returned (.tuple #[lV L, .int .i64 0]) ∧ Below w.heap.size w w' := by
  have k := readLeader_impl ao bo ca cb ss [] h w (right_sz hs).1.1 (by simp) h1 (iosNil w bo) hE
  rw [he.1, he.2] at k
  exact k
theorem holds_nil (ao bo : Option Addr) (ca cb : Nat) (ss : List ByteArray) (h g : Int) (b : Bool) (w : World) (he : hlB ss [] h g = b ∧ hostC ss [] h = 0) (hs : diskB ss [] = true) (h1 : Ss w ao ss) (hE : ErrW w) :
    Calls Tryz.prog 11 #[.agg #[.slice ao ss.length ca, .slice bo 0 cb], .int .i64 h, .int .i64 g] w fun e w' => e = .returned (.tuple #[.bool b, .int .i64 0]) ∧ Below w.heap.size w w' := by
  have k := holds_impl ao bo ca cb ss [] h g w (right_sz hs).1.1 (by simp) h1 (iosNil w bo) hE
  rw [he.1, he.2] at k
  exact k

/-- The law's world: leaders and disks in variables. -/
structure Dm (w W : World) (T : List (Nat × Ld)) (D : List (Nat × List ByteArray)) : Prop where
  below : Below w.heap.size w W
  t : ∀ p ∈ T, VarT W p.1 30 p.2.ver p.2.own p.2.gen
  d : ∀ p ∈ D, ∃ ao ca bo cb, VarD W p.1 (.slice ao p.2.length ca) (.slice bo 0 cb) ∧ Ss W ao p.2
  e : ErrW W
theorem Dm.next {w W W' : World} {T : List (Nat × Ld)} {D : List (Nat × List ByteArray)} (h : Dm w W T D) (hb : Below W.heap.size W W') : Dm w W' T D :=
  ⟨fr h.below hb, fun p hp => (h.t p hp).below hb, fun p hp => by obtain ⟨ao, ca, bo, cb, h1, h2⟩ := h.d p hp; exact ⟨ao, ca, bo, cb, h1.below hb, h2.below hb⟩, h.e.below hb⟩
theorem Dm.addT {w W : World} {T : List (Nat × Ld)} {D : List (Nat × List ByteArray)} (h : Dm w W T D) (x : Ld) : Dm w (W.alloc (.cells #[.int .i64 x.ver, .int .i64 x.own, .int .i64 x.gen] 30)) ((W.heap.size, x) :: T) D := by
  have k := h.next (Joins.below_alloc1 W (.cells #[.int .i64 x.ver, .int .i64 x.own, .int .i64 x.gen] 30))
  refine ⟨k.below, fun p hp => ?_, k.d, k.e⟩
  rcases List.mem_cons.1 hp with rfl | hp
  · exact VarT.new W _ x.ver x.own x.gen
  · exact k.t p hp
theorem Dm.addD {w W : World} {T : List (Nat × Ld)} {D : List (Nat × List ByteArray)} {ss : List ByteArray} {po : Option Addr} (h : Dm w W T D) (hs : Ss W po ss) (pa : Nat) (qo : Option Addr) (qa : Nat) : Dm w (W.alloc (.cells #[.slice po ss.length pa, .slice qo 0 qa] 26)) T ((W.heap.size, ss) :: D) := by
  have hb := Joins.below_alloc1 W (.cells #[.slice po ss.length pa, .slice qo 0 qa] 26)
  have k := h.next hb
  refine ⟨k.below, k.t, fun p hp => ?_, k.e⟩
  rcases List.mem_cons.1 hp with rfl | hp
  · exact ⟨po, pa, qo, qa, VarD.new W _ _, hs.below hb⟩
  · exact k.d p hp
theorem Dm.both {w W : World} {T : List (Nat × Ld)} {D : List (Nat × List ByteArray)} {ss : List ByteArray} {po : Option Addr} (h : Dm w W T D) (hs : Ss W po ss) (pa : Nat) (qo : Option Addr) (qa : Nat) (x : Ld) : Dm w ((W.alloc (.cells #[.slice po ss.length pa, .slice qo 0 qa] 26)).alloc (.cells #[.int .i64 x.ver, .int .i64 x.own, .int .i64 x.gen] 30)) ((W.heap.size + 1, x) :: T) ((W.heap.size, ss) :: D) := by
  have k := (h.addD hs pa qo qa).addT x
  simp only [World.size_alloc] at k
  exact k

end Go.Proofs.YtdfinapjgffjiaaGreatDoor

/- Plain: a host that elects among blocks of earlier versions is elected; what FnRelease asks. -/
namespace Go.Proofs.YtdfinapjgffjiaaGreatDoor
set_option linter.unusedVariables false

theorem bkOf_idem (b : Bk) (v : Int) : bkOf (bkOf b v) v = bkOf b v := by
  by_cases h : b.ver < v
  · have e : bkOf b v = ⟨v, 0, 0, 0⟩ := if_pos h
    rw [e]; exact if_neg (by show ¬ v < v; omega)
  · have e : bkOf b v = b := if_neg h
    rw [e, e]
def nrm (v : Int) (bs : List Bk) : List Bk := bs.map (fun b => bkOf b v)
theorem nrm_get {v : Int} {bs : List Bk} {k : Nat} (hk : k < bs.length) : bkOf ((nrm v bs).getD k bk0) v = bkOf (bs.getD k bk0) v := by
  have : (nrm v bs).getD k bk0 = bkOf (bs.getD k bk0) v := by simp [nrm, hk]
  rw [this, bkOf_idem]
theorem nrm_rd {p : Pxs} {bs : List Bk} (hp : pxB p = true) (h4 : bs.length = 4) : pxRd p (nrm p.ver bs) = pxRd p bs := by
  obtain ⟨hh, _, _, _, _, hn⟩ := px_parts hp
  unfold pxRd
  simp only
  have hs := skip_le (p := p) hh hn.1 hn.2
  split
  · rename_i hlt
    rw [nrm_get (show (skip p p.next).toNat < bs.length by omega)]
  · rfl
theorem nrm_own {p : Pxs} {bs : List Bk} (hp : pxB p = true) (h4 : bs.length = 4) : pxOwn p (nrm p.ver bs) = pxOwn p bs := by
  obtain ⟨hh, _⟩ := px_parts hp
  exact nrm_get (by omega)
theorem w2_ver (p : Pxs) (o : Bk) : (pxW2 p o).ver = p.ver := by unfold pxW2; split <;> rfl
theorem nrm_step {p : Pxs} {bs : List Bk} (hp : pxB p = true) (h4 : bs.length = 4) (h5 : p.phase < 5) : pxStepP p (nrm p.ver bs) = ((pxStepP p bs).1, nrm p.ver (pxStepP p bs).2) := by
  have h4' : (nrm p.ver bs).length = 4 := by simp [nrm, h4]
  rcases step_kinds (bs := bs) hp h5 with ⟨e, h⟩ | ⟨e, c, h⟩ | ⟨e, c, h⟩
  · rw [h, pxStepP_rd _ e, nrm_rd hp h4]
  · rw [h, pxStepP_no _ e (by rw [nrm_own hp h4]; exact c)]
  · rw [h, pxStepP_wr _ e (by rw [nrm_own hp h4]; exact c), nrm_own hp h4]
    have hy : bkOf (pxW2 p (pxOwn p bs)) p.ver = pxW2 p (pxOwn p bs) := if_neg (by rw [w2_ver]; omega)
    simp only [nrm, List.map_set, hy]
def pRun : Nat → Pxs → List Bk → Pxs × List Bk
  | 0, p, bs => (p, bs)
  | n + 1, p, bs => if p.phase < 5 then pRun n (pxStepP p bs).1 (pxStepP p bs).2 else (p, bs)
theorem run_p : ∀ (n : Nat) (s : Est), ((elRun n s).p, (elRun n s).bs) = pRun n s.p s.bs
  | 0, s => rfl
  | n + 1, s => by
    rw [elRun, pRun]
    split
    · rw [run_p n (elStep s), (step_p s).1, (step_p s).2]
    · rfl
theorem step_ver {p : Pxs} {bs : List Bk} (hp : pxB p = true) (h5 : p.phase < 5) : (pxStepP p bs).1.ver = p.ver := by
  rcases step_kinds (bs := bs) hp h5 with ⟨e, h⟩ | ⟨e, c, h⟩ | ⟨e, c, h⟩ <;> rw [h]
  · exact (pxRd_at _ _).2.2
  · exact (w1_at _ _).2.2
theorem pRun_nrm {v : Int} : ∀ (n : Nat) (p : Pxs) (bs : List Bk), pxB p = true → bksB bs = true → p.ver = v → (pRun n p (nrm v bs)).1 = (pRun n p bs).1
  | 0, _, _, _, _, _ => rfl
  | n + 1, p, bs, hp, hb, hv => by
    subst hv
    rw [pRun, pRun]
    split
    · rename_i h5
      rw [nrm_step hp (bksB_parts hb).1 h5]
      obtain ⟨q1, q2⟩ := px_right hp hb
      exact pRun_nrm n _ _ q1 q2 (step_ver hp h5)
    · rfl
theorem nrm_old {v : Int} {bs : List Bk} (h4 : bs.length = 4) (ho : ∀ i, i < 4 → (bs.getD i bk0).ver < v) : nrm v bs = [⟨v, 0, 0, 0⟩, ⟨v, 0, 0, 0⟩, ⟨v, 0, 0, 0⟩, ⟨v, 0, 0, 0⟩] := by
  obtain ⟨a, b, c, d, rfl⟩ : ∃ a b c d, bs = [a, b, c, d] := by
    match bs, h4 with
    | [a, b, c, d], _ => exact ⟨a, b, c, d, rfl⟩
  have h0 := ho 0 (by omega)
  have h1 := ho 1 (by omega)
  have h2 := ho 2 (by omega)
  have h3 := ho 3 (by omega)
  simp only [List.getD_cons_zero, List.getD_cons_succ] at h0 h1 h2 h3
  simp [nrm, bkOf, h0, h1, h2, h3]
theorem nx_old {v h : Int} {bs : List Bk} (h4 : bs.length = 4) (ho : ∀ i, i < 4 → (bs.getD i bk0).ver < v) : nxBal h v bs = 4 + h := by
  obtain ⟨a, b, c, d, rfl⟩ : ∃ a b c d, bs = [a, b, c, d] := by
    match bs, h4 with
    | [a, b, c, d], _ => exact ⟨a, b, c, d, rfl⟩
  have h0 := ho 0 (by omega)
  have h1 := ho 1 (by omega)
  have h2 := ho 2 (by omega)
  have h3 := ho 3 (by omega)
  simp only [List.getD_cons_zero, List.getD_cons_succ] at h0 h1 h2 h3
  simp [nxBal, nxMax, bkOf, h0, h1, h2, h3]
/-- It decides its own value. -/
theorem alone1 (x : Int) : ((pRun 13 ⟨0, 1, 1, 4, x, 0, 0, 0⟩ [⟨1, 0, 0, 0⟩, ⟨1, 0, 0, 0⟩, ⟨1, 0, 0, 0⟩, ⟨1, 0, 0, 0⟩]).1.phase = 5 ∧ (pRun 13 ⟨0, 1, 1, 4, x, 0, 0, 0⟩ [⟨1, 0, 0, 0⟩, ⟨1, 0, 0, 0⟩, ⟨1, 0, 0, 0⟩, ⟨1, 0, 0, 0⟩]).1.value = x) ∧ ((pRun 13 ⟨1, 1, 1, 5, x, 0, 0, 0⟩ [⟨1, 0, 0, 0⟩, ⟨1, 0, 0, 0⟩, ⟨1, 0, 0, 0⟩, ⟨1, 0, 0, 0⟩]).1.phase = 5 ∧ (pRun 13 ⟨1, 1, 1, 5, x, 0, 0, 0⟩ [⟨1, 0, 0, 0⟩, ⟨1, 0, 0, 0⟩, ⟨1, 0, 0, 0⟩, ⟨1, 0, 0, 0⟩]).1.value = x) ∧ ((pRun 13 ⟨2, 1, 1, 6, x, 0, 0, 0⟩ [⟨1, 0, 0, 0⟩, ⟨1, 0, 0, 0⟩, ⟨1, 0, 0, 0⟩, ⟨1, 0, 0, 0⟩]).1.phase = 5 ∧ (pRun 13 ⟨2, 1, 1, 6, x, 0, 0, 0⟩ [⟨1, 0, 0, 0⟩, ⟨1, 0, 0, 0⟩, ⟨1, 0, 0, 0⟩, ⟨1, 0, 0, 0⟩]).1.value = x) ∧ ((pRun 13 ⟨3, 1, 1, 7, x, 0, 0, 0⟩ [⟨1, 0, 0, 0⟩, ⟨1, 0, 0, 0⟩, ⟨1, 0, 0, 0⟩, ⟨1, 0, 0, 0⟩]).1.phase = 5 ∧ (pRun 13 ⟨3, 1, 1, 7, x, 0, 0, 0⟩ [⟨1, 0, 0, 0⟩, ⟨1, 0, 0, 0⟩, ⟨1, 0, 0, 0⟩, ⟨1, 0, 0, 0⟩]).1.value = x) :=
  ⟨⟨by kernel_rfl, by kernel_rfl⟩, ⟨by kernel_rfl, by kernel_rfl⟩, ⟨by kernel_rfl, by kernel_rfl⟩, ⟨by kernel_rfl, by kernel_rfl⟩⟩
theorem alone3 (x : Int) : ((pRun 13 ⟨0, 3, 1, 4, x, 0, 0, 0⟩ [⟨3, 0, 0, 0⟩, ⟨3, 0, 0, 0⟩, ⟨3, 0, 0, 0⟩, ⟨3, 0, 0, 0⟩]).1.phase = 5 ∧ (pRun 13 ⟨0, 3, 1, 4, x, 0, 0, 0⟩ [⟨3, 0, 0, 0⟩, ⟨3, 0, 0, 0⟩, ⟨3, 0, 0, 0⟩, ⟨3, 0, 0, 0⟩]).1.value = x) ∧ ((pRun 13 ⟨1, 3, 1, 5, x, 0, 0, 0⟩ [⟨3, 0, 0, 0⟩, ⟨3, 0, 0, 0⟩, ⟨3, 0, 0, 0⟩, ⟨3, 0, 0, 0⟩]).1.phase = 5 ∧ (pRun 13 ⟨1, 3, 1, 5, x, 0, 0, 0⟩ [⟨3, 0, 0, 0⟩, ⟨3, 0, 0, 0⟩, ⟨3, 0, 0, 0⟩, ⟨3, 0, 0, 0⟩]).1.value = x) ∧ ((pRun 13 ⟨2, 3, 1, 6, x, 0, 0, 0⟩ [⟨3, 0, 0, 0⟩, ⟨3, 0, 0, 0⟩, ⟨3, 0, 0, 0⟩, ⟨3, 0, 0, 0⟩]).1.phase = 5 ∧ (pRun 13 ⟨2, 3, 1, 6, x, 0, 0, 0⟩ [⟨3, 0, 0, 0⟩, ⟨3, 0, 0, 0⟩, ⟨3, 0, 0, 0⟩, ⟨3, 0, 0, 0⟩]).1.value = x) ∧ ((pRun 13 ⟨3, 3, 1, 7, x, 0, 0, 0⟩ [⟨3, 0, 0, 0⟩, ⟨3, 0, 0, 0⟩, ⟨3, 0, 0, 0⟩, ⟨3, 0, 0, 0⟩]).1.phase = 5 ∧ (pRun 13 ⟨3, 3, 1, 7, x, 0, 0, 0⟩ [⟨3, 0, 0, 0⟩, ⟨3, 0, 0, 0⟩, ⟨3, 0, 0, 0⟩, ⟨3, 0, 0, 0⟩]).1.value = x) :=
  ⟨⟨by kernel_rfl, by kernel_rfl⟩, ⟨by kernel_rfl, by kernel_rfl⟩, ⟨by kernel_rfl, by kernel_rfl⟩, ⟨by kernel_rfl, by kernel_rfl⟩⟩
theorem alone_any {v h x b : Int} (hv : v = 1 ∨ v = 3) (h0 : 0 ≤ h) (h3 : h ≤ 3) (hb : b = 4 + h) : (pRun 13 ⟨h, v, 1, b, x, 0, 0, 0⟩ [⟨v, 0, 0, 0⟩, ⟨v, 0, 0, 0⟩, ⟨v, 0, 0, 0⟩, ⟨v, 0, 0, 0⟩]).1.phase = 5 ∧ (pRun 13 ⟨h, v, 1, b, x, 0, 0, 0⟩ [⟨v, 0, 0, 0⟩, ⟨v, 0, 0, 0⟩, ⟨v, 0, 0, 0⟩, ⟨v, 0, 0, 0⟩]).1.value = x := by
  rcases (show (h = 0 ∧ b = 4) ∨ (h = 1 ∧ b = 5) ∨ (h = 2 ∧ b = 6) ∨ (h = 3 ∧ b = 7) by omega) with ⟨rfl, rfl⟩ | ⟨rfl, rfl⟩ | ⟨rfl, rfl⟩ | ⟨rfl, rfl⟩ <;> rcases hv with rfl | rfl
  · exact (alone1 x).1
  · exact (alone3 x).1
  · exact (alone1 x).2.1
  · exact (alone3 x).2.1
  · exact (alone1 x).2.2.1
  · exact (alone3 x).2.2.1
  · exact (alone1 x).2.2.2
  · exact (alone3 x).2.2.2
/-- Who is elected so. -/
theorem el_alone {ss : List ByteArray} {h o g v : Int} {R : Ans} (hR : elA ss [] h o g = R) (hd : diskB ss [] = true) (h0 : 0 ≤ h) (h3 : h ≤ 3) (o0 : 0 ≤ o) (o3 : o ≤ 3) (g1 : 1 ≤ g) (g2 : g ≤ 1000000) (hv : v = 1 ∨ v = 3) (hL : (ldOf ss [] h).ver + 1 = v) (ho : ∀ i, i < 4 → ((bksOf ss [] h).getD i bk0).ver < v) : R.c = 0 ∧ R.l = ⟨v, o, g⟩ := by
  have e1 : (inB o 0 3 && inB g 1 1000000) = true := by simp [inB]; omega
  have e := le_nil hd h0 h3
  have hn := nx_old (h := h) (v := v) (bs := bksOf ss [] h) rfl ho
  have e2 : elMany ss [] h = false := by
    rw [elMany, hL, hn, decide_eq_false (by omega), decide_eq_false (by omega)]; rfl
  subst hR
  rw [elA_end e e1 e2]
  have k := elFrom_ok (o := o) (g := g) e e1 e2
  have hq : elTry ss [] h o g = ⟨h, v, 1, 4 + h, 1024 * g + o, 0, 0, 0⟩ := by rw [elTry, hL, hn]
  have hr := congrArg Prod.fst (run_p 13 (elFrom ss [] h o g))
  have hr' : (elEnd (elFrom ss [] h o g)).p = (pRun 13 (elTry ss [] h o g) (bksOf ss [] h)).1 := hr
  have kp : pxB (elTry ss [] h o g) = true := k.p
  rw [hq] at hr' kp
  rw [← pRun_nrm (v := v) 13 _ (bksOf ss [] h) kp (bksOf_right ss [] h) rfl, nrm_old rfl ho] at hr'
  obtain ⟨a1, a2⟩ := alone_any (v := v) (h := h) (x := 1024 * g + o) (b := 4 + h) hv h0 h3 rfl
  rw [← hr'] at a1 a2
  have hl : leadOf ((ldOf ss [] h).ver + 1) (elEnd (elFrom ss [] h o g)).p.value = ⟨v, o, g⟩ := by
    rw [hL, a2, leadOf, Ld.eq_iff]
    refine ⟨rfl, ?_, ?_⟩
    · show (1024 * g + o) % 1024 = o; omega
    · show (1024 * g + o) / 1024 = g; omega
  have hb : ldB ⟨v, o, g⟩ = true := ldB_iff.2 ⟨⟨by show 0 ≤ v; omega, by show v ≤ 1000000; omega⟩, .inr ⟨by show 0 < v; omega, ⟨o0, o3⟩, g1, g2⟩⟩
  unfold elLast
  rw [hl, if_pos ⟨a1, hb⟩]
  exact ⟨rfl, rfl⟩

/-- Blocks of versions up to one. -/
theorem bk_enc {x : Bk} (hx : bkB x = true) : bdK (encB x) = x := by
  obtain ⟨h1, h2, h3, h4, _⟩ := bkB_iff.1 hx
  have ha : allB [x.ver, x.mbal, x.bal, x.inp] = true := by simp [allB, numB, inB]; omega
  have ho : openB (encB x) 5 = true := openB_in.2 ⟨rec_seal ⟨by omega, by omega⟩ ha (by simp), seal_kind ⟨by omega, by omega⟩ (by simp)⟩
  have hl : bdL (encB x) = [x.ver, x.mbal, x.bal, x.inp] := by rw [bdL, openL_yes ho, encB, body_seal, un_pack ha]
  have hb : bdB (encB x) = true := by rw [bdB_at ho hl]; exact hx
  rw [bd_yes hb hl]
def VB (v : Int) (ss : List ByteArray) : Prop := ss.length = 64 ∧ ∀ j : Nat, j < 4 → (bdK (ss.getD (1 + j) ⟨#[]⟩)).ver ≤ v
theorem VB.set {v : Int} {ss : List ByteArray} (k : VB v ss) (i : Nat) (t : ByteArray) (h : (1 ≤ i ∧ i ≤ 4) → (bdK t).ver ≤ v) : VB v (ss.set i t) := by
  refine ⟨by simp [k.1], fun j hj => ?_⟩
  by_cases e : i = 1 + j
  · subst e
    have : (ss.set (1 + j) t).getD (1 + j) ⟨#[]⟩ = t := by
      have := k.1
      simp [show 1 + j < ss.length by omega]
    rw [this]
    exact h (by omega)
  · have : (ss.set i t).getD (1 + j) ⟨#[]⟩ = ss.getD (1 + j) ⟨#[]⟩ := by simp [e]
    rw [this]
    exact k.2 j hj
theorem VB.step {v h : Int} {s : Est} (k : VB v s.ss) (kn : s.xs = []) (ko : ElOK h s) (hv : s.p.ver = v) (h5 : s.p.phase < 5) : VB v (elStep s).ss := by
  unfold elStep
  split
  · rename_i hw
    obtain ⟨hh, _⟩ := px_parts ko.p
    have q := px_right ko.p ko.b
    show VB v (wS s.ss s.xs s.p.host (1 + s.p.host) (encB (ownK s.p (pxStepP s.p s.bs).2)))
    rw [kn, wS_nil]
    refine k.set _ _ (fun _ => ?_)
    have hr : bkB (ownK s.p (pxStepP s.p s.bs).2) = true := own_right ko.p q.2
    rw [bk_enc hr]
    rcases step_kinds (bs := s.bs) ko.p h5 with ⟨e, hq⟩ | ⟨e, c, hq⟩ | ⟨e, c, hq⟩
    · rw [hq] at hw
      rcases e with e | e <;> simp [wroteB, e] at hw
    · rw [hq] at hw
      simp [wroteB] at hw
    · rw [hq]
      show (ownK s.p (s.bs.set s.p.host.toNat (pxW2 s.p (pxOwn s.p s.bs)))).ver ≤ v
      rw [own_set (bksB_parts ko.b).1 hh, w2_ver, hv]
      omega
  · exact k
theorem VB.run {v h : Int} : ∀ (n : Nat) (s : Est), VB v s.ss → s.xs = [] → ElOK h s → s.p.ver = v → VB v (elRun n s).ss
  | 0, _, k, _, _, _ => k
  | n + 1, s, k, kn, ko, hv => by
    rw [elRun]
    split
    · rename_i h5
      refine VB.run n _ (k.step kn ko hv h5) (step_nil kn) (ko.step h5) ?_
      rw [(step_p s).1, step_ver ko.p h5, hv]
    · exact k
theorem VB.elect {ss : List ByteArray} {h o g v : Int} {R : Ans} (hR : elA ss [] h o g = R) (k : VB 0 ss) (hd : diskB ss [] = true) (h0 : 0 ≤ h) (h3 : h ≤ 3) (e1 : (inB o 0 3 && inB g 1 1000000) = true) (hL : (ldOf ss [] h).ver + 1 = v) (hv : 0 ≤ v) (hc : R.c = 0) : VB v R.ss := by
  subst hR
  have e := le_nil hd h0 h3
  have k' : VB v ss := ⟨k.1, fun j hj => by have := k.2 j hj; omega⟩
  cases e2 : elMany ss [] h with
  | true => rw [elA_many e e1 e2]; exact k'
  | false =>
    rw [elA_end e e1 e2]
    have kr : VB v (elEnd (elFrom ss [] h o g)).ss := VB.run 13 _ k' rfl (elFrom_ok e e1 e2) hL
    have kn : (elEnd (elFrom ss [] h o g)).xs = [] := run_nil 13 _ rfl
    unfold elLast
    split
    · show VB v (wS _ _ h 0 _)
      rw [kn, wS_nil]
      exact kr.set _ _ (fun hq => by have : (0 : Int).toNat = 0 := rfl; omega)
    · exact kr
theorem VB.bks {v : Int} {ss : List ByteArray} (k : VB v ss) (h : Int) : ∀ i, i < 4 → ((bksOf ss [] h).getD i bk0).ver ≤ v := by
  intro i hi
  have := k.2 i hi
  rcases (show i = 0 ∨ i = 1 ∨ i = 2 ∨ i = 3 by omega) with rfl | rfl | rfl | rfl
  all_goals
    simp only [bksOf, List.getD_cons_zero, List.getD_cons_succ, read_nil]
    exact this
theorem no_open (k : Int) : openB (⟨#[]⟩ : ByteArray) k = false := openB_no (fun h => by have := h.1; revert this; decide)
theorem noSs_right : diskB noSs [] = true := diskB_parts.2 ⟨⟨noSs_len, fun s hs => by rw [List.eq_of_mem_replicate hs]; decide⟩, by simp, fun x hx => by cases hx⟩
theorem noSs_get (i : Nat) : noSs.getD i ⟨#[]⟩ = ⟨#[]⟩ := by
  rw [List.getD_eq_getElem?_getD, noSs, List.getElem?_replicate]
  split <;> rfl
theorem noSs_VB : VB 0 noSs := ⟨noSs_len, fun j hj => by rw [noSs_get, bd_no (bdB_open (no_open 5))]; decide⟩
theorem noSs_ld (h : Int) : ldOf noSs [] h = ldN 0 := by rw [ldOf, read_nil, noSs_get, ld_no (ldD_open (no_open 6))]

end Go.Proofs.YtdfinapjgffjiaaGreatDoor
