import Derived.Test.YtdfinapjgffjiabGreatDoorRows
import Derived.Test.YtdfinapjgffjiabGreatDoorPart1
import Derived.Test.YtdfinapjgffjiabGreatDoorPart3
import Derived.Test.YtdfinapjgffjiabGreatDoorPart4
import Derived.Test.YtdfinapjgffjiabGreatDoorPart6
import Derived.Test.YtdfinapjgffjiabGreatDoorPart18
import Derived.Test.YtdfinapjgffjiabGreatDoorPart9
import Derived.Test.YtdfinapjgffjiabGreatDoorPart17
import Derived.WalkKit
import Derived.WalkSpells
import Derived.KernelRfl
import Derived.Deep.RegionWith
import Derived.Deep.RegionHeld3
import Derived.Deep.MidRow
import Derived.Deep.CutRange
import Derived.Test.YtdfinapjgffjiabGreatDoorPart2

/- Contract of spec.Elect; how great the answers of Elect and Release are. -/
namespace Go.Proofs.YtdfinapjgffjiabGreatDoor
open Go.RowKit
set_option linter.unusedVariables false
set_option maxRecDepth 100000

/-- A right disk, or none. -/
def AnsOK (R : Ans) : Prop := (R.ss = [] ∧ R.xs = []) ∨ diskB R.ss R.xs = true
theorem elA_ok (ss : List ByteArray) (xs : List Wr) (h o g : Int) : AnsOK (elA ss xs h o g) := by
  by_cases e : leC ss xs h = 0
  · cases e1 : (inB o 0 3 && inB g 1 1000000) with
    | false => rw [elA_range e e1]; exact .inl ⟨rfl, rfl⟩
    | true =>
      obtain ⟨ed, ⟨h0, h3⟩, el⟩ := leC_eq e
      cases e2 : elMany ss xs h with
      | true => rw [elA_many e e1 e2]; exact .inr ed
      | false =>
        rw [elA_end e e1 e2]
        have k := elRun_ok 13 _ (elFrom_ok e e1 e2)
        have k' : ElOK h (elEnd (elFrom ss xs h o g)) := k
        unfold elLast
        split
        · exact .inr (w_right k'.d k'.l h0 h3 (by decide) (by decide) (by rw [encL_size]; decide))
        · exact .inr k'.d
  · rw [elA_room e]; exact .inl ⟨rfl, rfl⟩
theorem rsA_ok (ss : List ByteArray) (xs : List Wr) (h : Int) (X : Ld) : AnsOK (rsA ss xs h X) := by
  unfold rsA
  split
  · rename_i e
    obtain ⟨ed, ⟨h0, h3⟩, el⟩ := leC_eq e
    split
    · split
      · split
        · split
          · exact .inr ed
          · exact .inr (w_right ed el h0 h3 (by decide) (by decide) (by rw [encL_size]; decide))
        · exact .inr ed
      · exact .inr ed
    · exact .inl ⟨rfl, rfl⟩
  · exact .inl ⟨rfl, rfl⟩
theorem AnsOK.sizes {R : Ans} (h : AnsOK R) : ((∀ s ∈ R.ss, s.size ≤ maxLen) ∧ ∀ x ∈ R.xs, x.data.size ≤ maxLen) ∧ R.ss.length ≤ 2097152 ∧ R.xs.length ≤ 2097152 := by
  rcases h with ⟨h1, h2⟩ | h
  · rw [h1, h2]
    exact ⟨⟨fun s hs => absurd hs (by simp), fun s hs => absurd hs (by simp)⟩, by simp, by simp⟩
  · have := diskB_len h
    exact ⟨⟨rightS h, rightX h⟩, by omega, by omega⟩

set_option maxHeartbeats 1600000 in
theorem elect_spec (R : Ans) (ao bo : Option Addr) (ca cb : Nat) (ss : List ByteArray) (xs : List Wr) (h o g : Int) (w : World) (hR : elA ss xs h o g = R) (hl : ss.length ≤ maxLen) (hm : xs.length ≤ maxLen) (h1 : Ss w ao ss) (h2 : Ios w bo xs) :
    Calls Tryz.prog 6 #[.agg #[.slice ao ss.length ca, .slice bo xs.length cb], .int .i64 h, .int .i64 o, .int .i64 g] w fun e w' => Told w w' R e := by
  have HT := hide (tl_new3 w ao bo ca cb ss.length xs.length)
  have HL := hide hl
  have HM := hide hm
  have H1 := hide h1
  have H2 := hide h2
  have HRR := hide hR
  clear h1 h2 hl hm hR
  go_enter Tryz.func6, Tryz.ntmps6
  go_upto_region 1 with fail
  revert HT
  generalize (((w.alloc (.cells #[.slice ao ss.length ca, .slice bo xs.length cb] 29)).alloc (.cells #[.slice none 0 0, .slice none 0 0] 29)).alloc (.cells #[.int .i64 0, .int .i64 0, .int .i64 0] 31)) = W0
  intro HT
  have HO : Hid (w.heap.size ≤ w.heap.size + 1 ∧ w.heap.size ≤ w.heap.size + 1 + 1 ∧ w.heap.size + 1 ≠ w.heap.size + 1 + 1) := hide (by omega)
  generalize w.heap.size + 1 + 1 = B2 at *
  generalize w.heap.size + 1 = B1 at *
  have x3 : B1 ≠ B2 := (unhide HO).2.2
  have x3' : B2 ≠ B1 := Ne.symm (unhide HO).2.2
  obtain ⟨d0, d1⟩ := (unhide HT).d.cells
  go_wp2_with fail
  refine (l06Ask_any _ _ _ _ ss xs h _ (unhide HL) (unhide HM) ((unhide H1).below (unhide HT).below) ((unhide H2).below (unhide HT).below)).mono ?_
  rintro e w1 ⟨rfl, hb1⟩
  have HT1 := hide ((unhide HT).next hb1)
  clear hb1 d0 d1
  obtain ⟨c, HC⟩ : ∃ c, Hid (leC ss xs h = c) := ⟨_, hide rfl⟩
  rw [unhide HC]
  by_cases hc : c = 0
  · have hb : (c != 0) = false := by simp [hc]
    have HC0 : Hid (leC ss xs h = 0) := hide ((unhide HC).trans hc)
    clear hc
    have HZ : Hid ((inB o 0 3 && inB g 1 1000000) = false → R = ⟨[], [], ld0, 4⟩) := hide (fun hx => by rw [← unhide HRR]; exact elA_range (unhide HC0) hx)
    obtain ⟨b1, HB1⟩ : ∃ b, Hid (inB o 0 3 = b) := ⟨_, hide rfl⟩
    obtain ⟨b2, HB2⟩ : ∃ b, Hid (inB g 1 1000000 = b) := ⟨_, hide rfl⟩
    go_wp2_with fail
    refine (l04Host_any o _).mono ?_
    rintro e w2 ⟨rfl, hw⟩
    replace hw := hw.symm
    subst hw
    rw [unhide HB1]
    obtain ⟨r0, r1⟩ := (unhide HT1).r.cells
    have r2 := (unhide HT1).r.free 0
    have r3 := (unhide HT1).r.free 1
    obtain ⟨t0, t1, t2⟩ := (unhide HT1).t.cells
    obtain ⟨t3, t4, t5⟩ := (unhide HT1).t.free
    have HF := hide (fun a b x y z => below5 (unhide HT1).below (unhide HO).1 (unhide HO).2.1 a b x y z)
    cases b1 with
    | false =>
      have HQ := hide (unhide HZ (by rw [unhide HB1]; rfl))
      go_wp2
      exact bodyPost_ret (v := .tuple #[.agg #[.slice none 0 0, .slice none 0 0], lV ld0, .int .i64 4]) (by simp [results, Tryz.results6, go_sem, r0, r1, t0, t1, t2, ld0]) rfl (told_zero (unhide HQ) (unhide HF _ _ _ _ _))
    | true =>
      go_wp2_with fail
      refine (l01In_num g 1 1000000 _).mono ?_
      rintro e w2 ⟨rfl, hw⟩
      replace hw := hw.symm
      subst hw
      rw [unhide HB2]
      cases b2 with
      | false =>
        have HQ := hide (unhide HZ (by rw [unhide HB1, unhide HB2]; rfl))
        go_wp2
        exact bodyPost_ret (v := .tuple #[.agg #[.slice none 0 0, .slice none 0 0], lV ld0, .int .i64 4]) (by simp [results, Tryz.results6, go_sem, r0, r1, t0, t1, t2, ld0]) rfl (told_zero (unhide HQ) (unhide HF _ _ _ _ _))
      | true =>
        have HCE := hide (fun W (hW : Below w.heap.size w W) => l06Elect_any R ao bo ca cb ss xs h o g W (unhide HRR) (unhide HC0) (by rw [unhide HB1, unhide HB2]; rfl) ((unhide H1).below hW) ((unhide H2).below hW))
        have HSZ : Hid (R.ss.length ≤ 1048576 ∧ R.xs.length ≤ 1048576) := hide (by
          have k9 := elA_ok ss xs h o g
          rw [unhide HRR] at k9
          rcases k9 with ⟨a, b⟩ | k9
          · rw [a, b]; simp
          · have := diskB_len k9; omega)
        obtain ⟨d0, d1⟩ := (unhide HT1).d.cells
        clear r0 r1 r2 r3 t0 t1 t2 t3 t4 t5
        go_wp2_with fail
        refine (unhide HCE _ (unhide HT1).below).mono ?_
        rintro e w3 ⟨po, pa, qo, qa, rfl, hs3, hi3, hb3⟩
        have HA3 := hide (Joins.below_alloc2 w3 (.cells #[.slice po R.ss.length pa, .slice qo R.xs.length qa] 29) (.cells #[.int .i64 R.l.ver, .int .i64 R.l.own, .int .i64 R.l.gen] 31))
        have HT3 := hide (((unhide HT1).next hb3).next (unhide HA3))
        have HS3 := hide (And.intro (hs3.below (unhide HA3)) (hi3.below (unhide HA3)))
        have HV3 := hide ((VarD.new w3 (.slice po R.ss.length pa) (.slice qo R.xs.length qa)).below (Joins.below_alloc1 _ (.cells #[.int .i64 R.l.ver, .int .i64 R.l.own, .int .i64 R.l.gen] 31)))
        have HU3 := hide (varL_new w3 (.cells #[.slice po R.ss.length pa, .slice qo R.xs.length qa] 29) R.l.ver R.l.own R.l.gen)
        have HNN : Hid (B1 < w3.heap.size ∧ B2 < w3.heap.size) := hide ⟨((unhide HT1).next hb3).r.lt, ((unhide HT1).next hb3).t.lt⟩
        clear hs3 hi3 hb3 d0 d1 HA3
        go_wp2_with fail
        revert HT3 HS3 HV3 HU3 HNN
        generalize (w3.alloc (.cells #[.slice po R.ss.length pa, .slice qo R.xs.length qa] 29)).alloc (.cells #[.int .i64 R.l.ver, .int .i64 R.l.own, .int .i64 R.l.gen] 31) = W4
        intro HT3 HS3 HV3 HU3 HNN
        have y1 : B1 ≠ w3.heap.size := by have := unhide HNN; omega
        have y2 : B2 ≠ w3.heap.size := by have := unhide HNN; omega
        have y3 : B1 ≠ w3.heap.size + 1 := by have := unhide HNN; omega
        have y4 : B2 ≠ w3.heap.size + 1 := by have := unhide HNN; omega
        generalize w3.heap.size + 1 = C2 at *
        generalize w3.heap.size = C1 at *
        have y1' := y1.symm
        have y2' := y2.symm
        have y3' := y3.symm
        have y4' := y4.symm
        obtain ⟨d0, d1⟩ := (unhide HV3).cells
        obtain ⟨v0, v1, v2⟩ := (unhide HU3).cells
        have HOW := hide (fun W (hW : Below W4.heap.size W4 W) => l01Own_any po qo pa qa R.ss R.xs W (unhide HSZ).1 (unhide HSZ).2 ((unhide HS3).1.below hW) ((unhide HS3).2.below hW))
        go_region_held3 (fun w' => w'.cell? ⟨C1, 0, none⟩ = some (.slice po R.ss.length pa) ∧ w'.cell? ⟨C1, 1, none⟩ = some (.slice qo R.xs.length qa) ∧ w'.cell? ⟨C2, 0, none⟩ = some (.int .i64 R.l.ver) ∧ w'.cell? ⟨C2, 1, none⟩ = some (.int .i64 R.l.own) ∧ w'.cell? ⟨C2, 2, none⟩ = some (.int .i64 R.l.gen)) (go_keep)
          ((go_at_call 22; refine (unhide HOW _ (Below.refl _ W4).drew).mono ?_; rintro e wA ⟨po2, pa2, qo2, qa2, rfl, hoA, hbA⟩; have HBA := hide (fr (Below.refl _ W4).drew hbA); have HOA := hide (hoA.base (B' := w.heap.size) (unhide HT3).below.size); have HTA := hide ((unhide HT3).next (unhide HBA)); clear hoA hbA; obtain ⟨a0, a1⟩ := ((unhide HV3).below (unhide HBA)).cells; obtain ⟨a2, a3, a4⟩ := ((unhide HU3).below (unhide HBA)).cells; obtain ⟨r0, r1⟩ := (unhide HTA).r.cells; have r2 := (unhide HTA).r.free 0; have r3 := (unhide HTA).r.free 1; obtain ⟨u0, u1, u2⟩ := (unhide HTA).t.cells; obtain ⟨u3, u4, u5⟩ := (unhide HTA).t.free))
        all_goals
          have HFF := hide (fun a b x y z => (unhide HTA).out (unhide HOA) (unhide HO).1 (unhide HO).2.1 a b x y z)
          have HF2 := hide (fun a b x y z => (unhide HTA).out2 (unhide HOA) (unhide HO).1 (unhide HO).2.1 a b x y z)
          go_wp2
          refine bodyPost_ret (v := .tuple #[.agg #[.slice po2 R.ss.length pa2, .slice qo2 R.xs.length qa2], lV R.l, .int .i64 R.c]) (by simp [results, Tryz.results6, go_sem, r0, r1, u0, u1, u2]) rfl ?_
          first
            | exact told_end (s := ⟨R.ss, R.xs, p00, []⟩) rfl (unhide HFF _ _ _ _ _).1 (unhide HFF _ _ _ _ _).2
            | exact told_end (s := ⟨R.ss, R.xs, p00, []⟩) rfl (unhide HF2 _ _ _ _ _).1 (unhide HF2 _ _ _ _ _).2
            | exact told_end (s := ⟨R.ss, R.xs, p00, []⟩) rfl ((unhide HFF _ _ _ _ _).1.below (Below.refl _ _).drew) (unhide HFF _ _ _ _ _).2.drew
  · have hb : (c != 0) = true := by simp [hc]
    have HQ : Hid (R = ⟨[], [], ld0, c⟩) := hide (by rw [← unhide HRR, ← unhide HC]; exact elA_room (by rw [unhide HC]; exact hc))
    clear hc
    obtain ⟨r0, r1⟩ := (unhide HT1).r.cells
    have r2 := (unhide HT1).r.free 0
    have r3 := (unhide HT1).r.free 1
    obtain ⟨t0, t1, t2⟩ := (unhide HT1).t.cells
    obtain ⟨t3, t4, t5⟩ := (unhide HT1).t.free
    have HF := hide (fun a b x y z => below5 (unhide HT1).below (unhide HO).1 (unhide HO).2.1 a b x y z)
    go_wp2
    exact bodyPost_ret (v := .tuple #[.agg #[.slice none 0 0, .slice none 0 0], lV ld0, .int .i64 c]) (by simp [results, Tryz.results6, go_sem, r0, r1, t0, t1, t2, ld0]) rfl (told_zero (unhide HQ) (unhide HF _ _ _ _ _))

end Go.Proofs.YtdfinapjgffjiabGreatDoor

/- Contracts of laws.toLeader, laws.eqLeader. -/
namespace Go.Proofs.YtdfinapjgffjiabGreatDoor
open Go.RowKit
set_option linter.unusedVariables false
set_option maxRecDepth 100000

set_option maxHeartbeats 1600000 in
theorem toLeader_any (x : Ld) (w : World) : Calls Tryz.prog 14 #[lV x] w fun e w' => e = .returned (lV x) ∧ Below w.heap.size w w' := by
  go_enter Tryz.func14, Tryz.ntmps14
  go_wp2
  exact bodyPost_ret (v := lV x) (by simp [results, Tryz.results14, go_sem]) rfl ⟨rfl, fr (Joins.below_alloc2 _ _ _) (Joins.below_alloc1 _ _)⟩

set_option maxHeartbeats 1600000 in
theorem eqLeader_same (x : Ld) (w : World) : Calls Tryz.prog 10 #[lV x, lV x] w fun e w' => e = .returned (.bool true) ∧ Below w.heap.size w w' := by
  go_enter Tryz.func10, Tryz.ntmps10
  go_wp2
  go_ret
  exact ⟨rfl, Joins.below_alloc2 _ _ _⟩

end Go.Proofs.YtdfinapjgffjiabGreatDoor

/- The walk of laws.FnExactElect. -/
namespace Go.Proofs.YtdfinapjgffjiabGreatDoor
open Go.RowKit
set_option linter.unusedVariables false

theorem electS {RS : List ByteArray} {RX : List Wr} {RH RG RT RC : Int} (ao bo : Option Addr) (ca cb : Nat) (ss : List ByteArray) (xs : List Wr) (h o g : Int) (W : World) (e : elA ss xs h o g = ⟨RS, RX, ⟨RH, RG, RT⟩, RC⟩) (hl : ss.length ≤ maxLen) (hm : xs.length ≤ maxLen) (h1 : Ss W ao ss) (h2 : Ios W bo xs) :
    Calls Tryz.prog 6 #[.agg #[.slice ao ss.length ca, .slice bo xs.length cb], .int .i64 h, .int .i64 o, .int .i64 g] W fun e w' => ∃ po pa qo qa, e = .returned (.tuple #[.agg #[.slice po RS.length pa, .slice qo RX.length qa], dltV RH RG RT, .int .i64 RC]) ∧ OwnD w' W.heap.size po RS.length pa qo RX.length qa RS RX ∧ Below W.heap.size W w' :=
  elect_spec _ ao bo ca cb ss xs h o g W e hl hm h1 h2
theorem electI {RS : List ByteArray} {RX : List Wr} {RH RG RT RC : Int} (ao bo : Option Addr) (ca cb : Nat) (ss : List ByteArray) (xs : List Wr) (h o g : Int) (W : World) (e : elA ss xs h o g = ⟨RS, RX, ⟨RH, RG, RT⟩, RC⟩) (hl : ss.length ≤ maxLen) (hm : xs.length ≤ maxLen) (h1 : Ss W ao ss) (h2 : Ios W bo xs) (hE : ErrW W) :
    Calls Tryz.prog 8 #[.agg #[.slice ao ss.length ca, .slice bo xs.length cb], .int .i64 h, .int .i64 o, .int .i64 g] W fun e w' => ∃ po pa qo qa, e = .returned (.tuple #[.agg #[.slice po RS.length pa, .slice qo RX.length qa], dltV RH RG RT, .int .i64 RC]) ∧ OwnD w' W.heap.size po RS.length pa qo RX.length qa RS RX ∧ Below W.heap.size W w' :=
  elect_impl _ ao bo ca cb ss xs h o g W e hl hm h1 h2 hE
theorem eqL_same (a b c : Int) (w : World) : Calls Tryz.prog 10 #[dltV a b c, dltV a b c] w fun e w' => e = .returned (.bool true) ∧ Below w.heap.size w w' := eqLeader_same ⟨a, b, c⟩ w
theorem eqSameE (ao bo co do_ : Option Addr) (ca cb cc cd : Nat) (ss : List ByteArray) (xs : List Wr) (w : World) (hl : ss.length ≤ maxLen) (hm : xs.length ≤ maxLen) (h1 : Ss w ao ss) (h2 : Ios w bo xs) (h3 : Ss w co ss) (h4 : Ios w do_ xs) :
    Calls Tryz.prog 9 #[.agg #[.slice ao ss.length ca, .slice bo xs.length cb], .agg #[.slice co ss.length cc, .slice do_ xs.length cd]] w fun e w' => e = .returned (.bool true) ∧ Below w.heap.size w w' := by
  have h := eqDisk_any ao bo co do_ ca cb cc cd ss ss xs xs w hl hm h1 h2 h3 h4
  rw [eqB_self] at h
  exact h

set_option maxRecDepth 100000 in
set_option maxHeartbeats 3200000 in
theorem lawElect (ao bo : Option Addr) (ca cb : Nat) (ss : List ByteArray) (xs : List Wr) (h o g : Int) (w : World) (hl : ss.length ≤ maxLen) (hm : xs.length ≤ maxLen) (hc : Ss w ao ss) (hd : Ios w bo xs) (hE : ErrW w) :
    Calls Tryz.prog 3 #[.agg #[.slice ao ss.length ca, .slice bo xs.length cb], .int .i64 h, .int .i64 o, .int .i64 g] w fun e w' => e = .returned (.bool true) ∧ Below w.heap.size w w' := by
  have HA := hide (Joins.below_alloc1 w (.cells #[.slice ao ss.length ca, .slice bo xs.length cb] 25))
  have HC := hide (hc.below (unhide HA))
  have HD := hide (hd.below (unhide HA))
  have HL := hide hl
  have HM := hide hm
  have HER := hide hE
  clear hc hd hl hm hE
  have hcell : ∀ w', Below (w.alloc (.cells #[.slice ao ss.length ca, .slice bo xs.length cb] 25)).heap.size (w.alloc (.cells #[.slice ao ss.length ca, .slice bo xs.length cb] 25)) w' → w'.cell? ⟨w.heap.size, 0, none⟩ = some (.slice ao ss.length ca) ∧ w'.cell? ⟨w.heap.size, 1, none⟩ = some (.slice bo xs.length cb) :=
    fun w' h => ⟨(h.cell (by simp)).trans (by simp [go_sem]), (h.cell (by simp)).trans (by simp [go_sem])⟩
  have HCELL := hide hcell
  clear hcell
  go_enter Tryz.func3, Tryz.ntmps3
  go_wp2_with fail
  refine (szDisk_any ao bo ca cb ss xs 1048576 _ (unhide HL) (unhide HM) (unhide HC) (unhide HD) (by omega) (by omega)).mono ?_
  rintro e w1 ⟨r, rfl, hr0, hr1, hr2, hb1⟩
  have HB1 := hide hb1
  clear hb1
  by_cases hr : r < 0
  · go_wp2
    go_ret
    exact ⟨rfl, fr (unhide HA) (unhide HB1)⟩
  have hq := hr2 (by omega)
  have hls : ss.length ≤ 1048576 := by omega
  have hlx : xs.length ≤ 1048576 := by omega
  clear hr2 hq
  have HZS := hide (unhide HC).sizes
  have HZX := hide (unhide HD).sizes
  obtain ⟨RS, RX, RH, RG, RT, RC, HE⟩ : ∃ RS RX RH RG RT RC, Hid (elA ss xs h o g = ⟨RS, RX, ⟨RH, RG, RT⟩, RC⟩) := ⟨_, _, _, _, _, _, hide rfl⟩
  have HSZ : Hid (((∀ s ∈ RS, s.size ≤ maxLen) ∧ ∀ x ∈ RX, x.data.size ≤ maxLen) ∧ RS.length ≤ 2097152 ∧ RX.length ≤ 2097152) := hide (by
    have k9 := (elA_ok ss xs h o g).sizes
    rw [unhide HE] at k9
    exact k9)
  have HRS := hide (unhide HSZ).1.1
  have HRX := hide (unhide HSZ).1.2
  have HQS := hide (unhide HSZ).2.1
  have HQX := hide (unhide HSZ).2.2
  have HI' := hide (fun (ao bo : Option Addr) (ca cb : Nat) (W : World) (hb : Below w.heap.size w W) h1 h2 => electI ao bo ca cb ss xs h o g W (unhide HE) (unhide HL) (unhide HM) h1 h2 ((unhide HER).below hb))
  have HMS : Hid (RS.length ≤ maxLen) := hide (Nat.le_trans (unhide HQS) (by decide))
  have HMX : Hid (RX.length ≤ maxLen) := hide (Nat.le_trans (unhide HQX) (by decide))
  obtain ⟨hc0, hc1⟩ := unhide HCELL _ (unhide HB1)
  -- a copy, and the model's answer, in a variable
  go_wp2_with fail
  refine (toDisk_any ao bo ca cb ss xs _ hls hlx ((unhide HC).below (unhide HB1)) ((unhide HD).below (unhide HB1))).mono ?_
  rintro e w2 ⟨g2, k2, rfl, ho, hp, hb2⟩
  have HS2 := hide (ownS ho (unhide HZS))
  have HX2 := hide (ownI hp (unhide HZX))
  have HB2 := hide (fr (unhide HB1) hb2)
  clear ho hp hb2 hc0 hc1
  go_wp2_with fail
  refine (electS _ _ _ _ ss xs h o g _ (unhide HE) (unhide HL) (unhide HM) (unhide HS2) (unhide HX2)).mono ?_
  rintro e w3 ⟨p3, pa3, q3, qa3, rfl, ho3, hb3⟩
  have HA3 := hide (Joins.below_alloc2 w3 (.cells #[.slice p3 RS.length pa3, .slice q3 RX.length qa3] 29) (.cells #[.int .i64 RH, .int .i64 RG, .int .i64 RT] 31))
  have HW := hide (ho3.below (unhide HA3))
  have HV := hide ((VarD.new w3 (.slice p3 RS.length pa3) (.slice q3 RX.length qa3)).below (Joins.below_alloc1 _ (.cells #[.int .i64 RH, .int .i64 RG, .int .i64 RT] 31)))
  have HT : Hid (VarT ((w3.alloc (.cells #[.slice p3 RS.length pa3, .slice q3 RX.length qa3] 29)).alloc (.cells #[.int .i64 RH, .int .i64 RG, .int .i64 RT] 31)) (w3.heap.size + 1) 31 RH RG RT) := hide (by have := VarT.new (w3.alloc (.cells #[.slice p3 RS.length pa3, .slice q3 RX.length qa3] 29)) 31 RH RG RT; simp only [World.size_alloc] at this; exact this)
  have HB3 := hide (fr (fr (unhide HB2) hb3) (unhide HA3))
  have HB3' := hide (fr (unhide HB2) hb3)
  clear ho3 hb3
  obtain ⟨hc0, hc1⟩ := unhide HCELL _ (unhide HB3')
  have hlt3 : w.heap.size < w3.heap.size := World.block_lt_of_cell? _ _ hc0
  -- the copy that the program gets, in a variable
  go_wp2_with fail
  refine (toDisk_any ao bo ca cb ss xs _ hls hlx ((unhide HC).below (unhide HB3)) ((unhide HD).below (unhide HB3))).mono ?_
  rintro e w4 ⟨g4, k4, rfl, ho, hp, hb4⟩
  have HA4 := hide (Joins.below_alloc1 w4 (.cells #[.slice (some ⟨g4, 0, none⟩) ss.length ss.length, .slice (some ⟨k4, 0, none⟩) xs.length xs.length] 29))
  have HO4 : Hid (OwnD (w4.alloc (.cells #[.slice (some ⟨g4, 0, none⟩) ss.length ss.length, .slice (some ⟨k4, 0, none⟩) xs.length xs.length] 29)) ((w3.alloc (.cells #[.slice p3 RS.length pa3, .slice q3 RX.length qa3] 29)).alloc (.cells #[.int .i64 RH, .int .i64 RG, .int .i64 RT] 31)).heap.size (some ⟨g4, 0, none⟩) ss.length ss.length (some ⟨k4, 0, none⟩) xs.length xs.length ss xs) := hide (OwnD.below ⟨OwnR.of ho (fun e => ⟨_, by rw [e]⟩), OwnR.of hp (fun e => ⟨_, by rw [e]⟩)⟩ (unhide HA4))
  have HX4 := hide (VarD.new w4 (.slice (some ⟨g4, 0, none⟩) ss.length ss.length) (.slice (some ⟨k4, 0, none⟩) xs.length xs.length))
  have HD4 := hide (fr hb4 (unhide HA4))
  have HB4 := hide (fr (unhide HB3) (unhide HD4))
  clear ho hp hb4 hc0 hc1
  go_wp2_with fail
  refine (unhide HI' _ _ _ _ _ (fr (unhide HA) (unhide HB4)) ((unhide HO4).ss (unhide HZS)) ((unhide HO4).ios (unhide HZX))).mono ?_
  rintro e w5 ⟨p5, pa5, q5, qa5, rfl, ho5, hb5⟩
  have HA5 := hide (Joins.below_alloc2 w5 (.cells #[.slice p5 RS.length pa5, .slice q5 RX.length qa5] 29) (.cells #[.int .i64 RH, .int .i64 RG, .int .i64 RT] 31))
  have HG := hide (ho5.below (unhide HA5))
  have HY := hide ((VarD.new w5 (.slice p5 RS.length pa5) (.slice q5 RX.length qa5)).below (Joins.below_alloc1 _ (.cells #[.int .i64 RH, .int .i64 RG, .int .i64 RT] 31)))
  have HU : Hid (VarT ((w5.alloc (.cells #[.slice p5 RS.length pa5, .slice q5 RX.length qa5] 29)).alloc (.cells #[.int .i64 RH, .int .i64 RG, .int .i64 RT] 31)) (w5.heap.size + 1) 31 RH RG RT) := hide (by have := VarT.new (w5.alloc (.cells #[.slice p5 RS.length pa5, .slice q5 RX.length qa5] 29)) 31 RH RG RT; simp only [World.size_alloc] at this; exact this)
  have HO5 := hide (((unhide HO4).below hb5).below (unhide HA5))
  have HX5 := hide (((unhide HX4).below hb5).below (unhide HA5))
  have HD5 := hide (fr (fr (unhide HD4) hb5) (unhide HA5))
  have HB5 := hide (fr (fr (unhide HB4) hb5) (unhide HA5))
  have HW5 := hide ((unhide HW).below (unhide HD5))
  have hlt5 : w3.heap.size < w5.heap.size := ((unhide HV).below (fr (unhide HD4) hb5)).lt
  obtain ⟨hv0, hv1⟩ := ((unhide HV).below (fr (unhide HD4) hb5)).cells
  clear ho5 hb5
  -- both answers are alike
  go_wp2_with fail
  refine (eqSameE _ _ _ _ _ _ _ _ RS RX _ (unhide HMS) (unhide HMX) ((unhide HG).ss (unhide HRS)) ((unhide HG).ios (unhide HRX)) ((unhide HW5).ss (unhide HRS)) ((unhide HW5).ios (unhide HRX))).mono ?_
  rintro e w6a ⟨rfl, hb6a⟩
  obtain ⟨u0, u1, u2⟩ := ((unhide HU).below hb6a).cells
  obtain ⟨k0, k1, k2⟩ := ((unhide HT).below (fr (unhide HD5) hb6a)).cells
  clear hv0 hv1
  go_wp2_with fail
  refine (eqL_same _ _ _ _).mono ?_
  rintro e w6 ⟨rfl, hb6b⟩
  have hb6 := fr hb6a hb6b
  clear hb6a hb6b u0 u1 u2 k0 k1 k2
  have HU6 := hide ((unhide HU).below hb6)
  have HG6 := hide ((unhide HG).below hb6)
  have HY6 := hide ((unhide HY).below hb6)
  have HO6 := hide ((unhide HO5).below hb6)
  have HX6 := hide ((unhide HX5).below hb6)
  have HD6 := hide (fr (unhide HD5) hb6)
  have HB6 := hide (fr (unhide HB5) hb6)
  clear hb6
  obtain ⟨hc0, hc1⟩ := unhide HCELL _ (unhide HB6)
  obtain ⟨hx0, hx1⟩ := (unhide HX6).cells
  have hlt4 : w4.heap.size < w6.heap.size := (unhide HX6).lt
  have HCT := hide ((unhide HC).below (unhide HB6).drew)
  have HDT := hide ((unhide HD).below (unhide HB6).drew)
  have HST := hide (((unhide HO6).ss (unhide HZS)).below (Below.refl _ _).drew)
  have HXT := hide (((unhide HO6).ios (unhide HZX)).below (Below.refl _ _).drew)
  go_wp2
  go_region_with (first | (go_at_call 7; refine (toDisk_any ao bo ca cb ss xs _ hls hlx (unhide HCT) (unhide HDT)).mono ?_; rintro e w7 ⟨g7, k7, rfl, ho7, hp7, hb7⟩; have hy0 := (hb7.cell (p := ⟨w4.heap.size, 0, none⟩) hlt4).trans hx0; have hy1 := (hb7.cell (p := ⟨w4.heap.size, 1, none⟩) hlt4).trans hx1) | (go_at_call 9; refine (eqSameE _ _ _ _ _ _ _ _ ss xs _ (unhide HL) (unhide HM) (by exact (unhide HST).below hb7) (by exact (unhide HXT).below hb7) (by exact ownS ho7 (unhide HZS)) (by exact ownI hp7 (unhide HZX))).mono ?_; rintro e w8 ⟨rfl, hb8⟩))
  all_goals
    have H68 : Hid (Below w6.heap.size w6 w8) := hide (fr (a := w6) (b := w7) (Below.trans (Below.refl _ _).drew hb7) hb8)
    have HG8 := hide ((unhide HG6).below (unhide H68))
    have HY8 := hide ((unhide HY6).below (unhide H68))
    have HU8 := hide ((unhide HU6).below (unhide H68))
    have HO8 := hide ((unhide HO6).below (unhide H68))
    have HX8 := hide ((unhide HX6).below (unhide H68))
    have HD8 := hide (fr (unhide HD6) (unhide H68))
    have HB8 := hide (fr (unhide HB6) (unhide H68))
    clear hb7 hb8 ho7 hp7 hc0 hc1 hx0 hx1 hlt4
    obtain ⟨hx0, hx1⟩ := (unhide HX8).cells
    go_wp2_with fail
    refine (markDisk_one _ _ _ _ _ _ _ _ _ _ (by omega) (by omega) (unhide HO8)).mono ?_
    rintro e w9 ⟨rfl, ho9, hk9⟩
    have HG9 := hide ((unhide HG8).keep hk9 (fun j hj hx => Nat.lt_irrefl _ (Nat.lt_of_lt_of_le ((unhide HO4).ge j hx).2 ((unhide HG8).ge j hj).1)))
    have HY9 := hide ((unhide HY8).keep hk9 ((unhide HO8).other (unhide HY8) (by decide) (by decide)))
    have HU9 := hide ((unhide HU8).keep hk9 ((unhide HO8).other (unhide HU8) (by decide) (by decide)))
    have HD9 := hide ((unhide HD8).trans (hk9.below (B := ((w3.alloc (.cells #[.slice p3 RS.length pa3, .slice q3 RX.length qa3] 29)).alloc (.cells #[.int .i64 RH, .int .i64 RG, .int .i64 RT] 31)).heap.size) (unhide HD8).size (fun j hj => ((unhide HO8).ge j hj).1)))
    have HB9 := hide ((unhide HB8).trans (hk9.below (B := (w.alloc (.cells #[.slice ao ss.length ca, .slice bo xs.length cb] 25)).heap.size) (unhide HB8).size (fun j hj => Nat.le_trans (unhide HB3).size ((unhide HO8).ge j hj).1)))
    clear ho9 hk9 hx0 hx1
    have HW9 := hide ((unhide HW).below (unhide HD9))
    obtain ⟨hy0', hy1'⟩ := (unhide HY9).cells
    obtain ⟨hv0, hv1⟩ := ((unhide HV).below (unhide HD9)).cells
    go_wp2_with fail
    refine (eqSameE _ _ _ _ _ _ _ _ RS RX _ (unhide HMS) (unhide HMX) ((unhide HG9).ss (unhide HRS)) ((unhide HG9).ios (unhide HRX)) ((unhide HW9).ss (unhide HRS)) ((unhide HW9).ios (unhide HRX))).mono ?_
    rintro e w10a ⟨rfl, hb10a⟩
    obtain ⟨u0, u1, u2⟩ := ((unhide HU9).below hb10a).cells
    obtain ⟨k0, k1, k2⟩ := ((unhide HT).below (fr (unhide HD9) hb10a)).cells
    clear hy0' hy1' hv0 hv1
    go_wp2_with fail
    refine (eqL_same _ _ _ _).mono ?_
    rintro e w10 ⟨rfl, hb10b⟩
    have hb10 := fr hb10a hb10b
    clear hb10a hb10b u0 u1 u2 k0 k1 k2
    have HG10 := hide ((unhide HG9).below hb10)
    have HY10 := hide ((unhide HY9).below hb10)
    have HD10 := hide (fr (unhide HD9) hb10)
    have HB10 := hide (fr (unhide HB9) hb10)
    clear hb10
    obtain ⟨hy0', hy1'⟩ := (unhide HY10).cells
    go_wp2_with fail
    refine (markDisk_one _ _ _ _ _ _ _ _ _ _ (unhide HQS) (unhide HQX) (unhide HG10)).mono ?_
    rintro e w11 ⟨rfl, ho11, hk11⟩
    have HG11 := hide ho11
    have HY11 := hide ((unhide HY10).keep hk11 ((unhide HG10).other (unhide HY10) (by decide) (by decide)))
    have HD11 := hide ((unhide HD10).trans (hk11.below (B := ((w3.alloc (.cells #[.slice p3 RS.length pa3, .slice q3 RX.length qa3] 29)).alloc (.cells #[.int .i64 RH, .int .i64 RG, .int .i64 RT] 31)).heap.size) (unhide HD10).size (fun j hj => Nat.le_trans (unhide HD4).size ((unhide HG10).ge j hj).1)))
    have HB11 := hide ((unhide HB10).trans (hk11.below (B := (w.alloc (.cells #[.slice ao ss.length ca, .slice bo xs.length cb] 25)).heap.size) (unhide HB10).size (fun j hj => Nat.le_trans (unhide HB4).size ((unhide HG10).ge j hj).1)))
    clear ho11 hk11 hy0' hy1'
    obtain ⟨hy0', hy1'⟩ := (unhide HY11).cells
    go_wp2_with fail
    refine (heldDisk_one _ _ _ _ _ _ _ _ (unhide HQS) (unhide HQX) (unhide HG11)).mono ?_
    rintro e w12 ⟨rfl, hb12⟩
    have HG12 := hide ((unhide HG11).below hb12)
    have HY12 := hide ((unhide HY11).below hb12)
    have HD12 := hide (fr (unhide HD11) hb12)
    have HB12 := hide (fr (unhide HB11) hb12)
    clear hb12 hy0' hy1'
    obtain ⟨hc0, hc1⟩ := unhide HCELL _ (unhide HB12)
    go_wp2_with fail
    refine (toDisk_any ao bo ca cb ss xs _ hls hlx ((unhide HC).below (unhide HB12)) ((unhide HD).below (unhide HB12))).mono ?_
    rintro e w13 ⟨g13, k13, rfl, ho, hp, hb13⟩
    have HS13 := hide (ownS ho (unhide HZS))
    have HX13 := hide (ownI hp (unhide HZX))
    have HG13 := hide ((unhide HG12).below hb13)
    have HY13 := hide ((unhide HY12).below hb13)
    have HD13 := hide (fr (unhide HD12) hb13)
    have HB13 := hide (fr (unhide HB12) hb13)
    clear ho hp hb13 hc0 hc1
    go_wp2_with fail
    refine (unhide HI' _ _ _ _ _ (fr (unhide HA) (unhide HB13)) (unhide HS13) (unhide HX13)).mono ?_
    rintro e w14 ⟨p14, pa14, q14, qa14, rfl, ho14, hb14⟩
    have HA14 := hide (Joins.below_alloc2 w14 (.cells #[.slice p14 RS.length pa14, .slice q14 RX.length qa14] 29) (.cells #[.int .i64 RH, .int .i64 RG, .int .i64 RT] 31))
    have HM14 : Hid (VarT ((w14.alloc (.cells #[.slice p14 RS.length pa14, .slice q14 RX.length qa14] 29)).alloc (.cells #[.int .i64 RH, .int .i64 RG, .int .i64 RT] 31)) (w14.heap.size + 1) 31 RH RG RT) := hide (by have := VarT.new (w14.alloc (.cells #[.slice p14 RS.length pa14, .slice q14 RX.length qa14] 29)) 31 RH RG RT; simp only [World.size_alloc] at this; exact this)
    have HN14 := hide (ho14.below (unhide HA14))
    have HF14 := hide (fr hb14 (unhide HA14))
    have HG14 := hide ((unhide HG13).below (unhide HF14))
    have HY14 := hide ((unhide HY13).below (unhide HF14))
    have HD14 := hide (fr (unhide HD13) (unhide HF14))
    have HB14 := hide (fr (unhide HB13) (unhide HF14))
    have HW14 := hide ((unhide HW).below (unhide HD14))
    have hlt14 : w3.heap.size < w14.heap.size := ((unhide HV).below (fr (unhide HD13) hb14)).lt
    obtain ⟨hv0, hv1⟩ := ((unhide HV).below (fr (unhide HD13) hb14)).cells
    clear ho14 hb14
    go_wp2_with fail
    refine (eqSameE _ _ _ _ _ _ _ _ RS RX _ (unhide HMS) (unhide HMX) ((unhide HN14).ss (unhide HRS)) ((unhide HN14).ios (unhide HRX)) ((unhide HW14).ss (unhide HRS)) ((unhide HW14).ios (unhide HRX))).mono ?_
    rintro e w15a ⟨rfl, hb15a⟩
    obtain ⟨u0, u1, u2⟩ := ((unhide HM14).below hb15a).cells
    obtain ⟨k0, k1, k2⟩ := ((unhide HT).below (fr (unhide HD14) hb15a)).cells
    clear hv0 hv1
    go_wp2_with fail
    refine (eqL_same _ _ _ _).mono ?_
    rintro e w15 ⟨rfl, hb15b⟩
    have hb15 := fr hb15a hb15b
    clear hb15a hb15b u0 u1 u2 k0 k1 k2
    have HG15 := hide ((unhide HG14).below hb15)
    have HY15 := hide ((unhide HY14).below hb15)
    have HB15 := hide (fr (unhide HB14) hb15)
    clear hb15
    obtain ⟨hy0', hy1'⟩ := (unhide HY15).cells
    go_wp2_with fail
    refine (heldDisk_one _ _ _ _ _ _ _ _ (unhide HQS) (unhide HQX) (unhide HG15)).mono ?_
    rintro e w16 ⟨rfl, hb16⟩
    have HB16 := hide (fr (unhide HA) (fr (unhide HB15) hb16))
    clear hb16
    go_wp2
    go_ret
    exact ⟨rfl, unhide HB16⟩

end Go.Proofs.YtdfinapjgffjiabGreatDoor
