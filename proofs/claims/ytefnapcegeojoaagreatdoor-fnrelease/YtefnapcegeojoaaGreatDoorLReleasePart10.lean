import Derived.Test.YtefnapcegeojoaaGreatDoorRows
import Derived.Test.YtefnapcegeojoaaGreatDoorLReleasePart1
import Derived.Test.YtefnapcegeojoaaGreatDoorLReleasePart3
import Derived.Test.YtefnapcegeojoaaGreatDoorLReleasePart6
import Derived.Test.YtefnapcegeojoaaGreatDoorLReleasePart5
import Derived.Test.YtefnapcegeojoaaGreatDoorLReleasePart4
import Derived.Test.YtefnapcegeojoaaGreatDoorLReleasePart7
import Derived.Test.YtefnapcegeojoaaGreatDoorLReleasePart9
import Derived.WalkKit
import Derived.WalkSpells
import Derived.KernelRfl
import Derived.Deep.RegionWith
import Derived.Deep.MidRow
import Derived.Deep.CutRange
import Derived.Test.YtefnapcegeojoaaGreatDoorLReleasePart2
import Derived.WalkMore
import Derived.Deep.RegionHeld3
import Derived.Deep.LoopGhost

namespace Go.Proofs.YtefnapcegeojoaaGreatDoor
open Go.RowKit
set_option linter.unusedVariables false
set_option maxRecDepth 100000

theorem tl_new3 (w : World) (ao bo : Option Addr) (ca cb n m : Nat) :
    TlS w (((w.alloc (.cells #[.slice ao n ca, .slice bo m cb] 26)).alloc (.cells #[.slice none 0 0, .slice none 0 0] 26)).alloc (.cells #[.int .i64 0, .int .i64 0, .int .i64 0] 30)) w.heap.size (w.heap.size + 1) (w.heap.size + 1 + 1) (.slice ao n ca) (.slice bo m cb) := by
  have b1 := Joins.below_alloc1 w (.cells #[.slice ao n ca, .slice bo m cb] 26)
  have b3 := Joins.below_alloc1 (w.alloc (.cells #[.slice ao n ca, .slice bo m cb] 26)) (.cells #[.slice none 0 0, .slice none 0 0] 26)
  have b4 := Joins.below_alloc1 ((w.alloc (.cells #[.slice ao n ca, .slice bo m cb] 26)).alloc (.cells #[.slice none 0 0, .slice none 0 0] 26)) (.cells #[.int .i64 0, .int .i64 0, .int .i64 0] 30)
  refine ⟨fr (fr b1 b3) b4, (VarD.new w _ _).below (fr b3 b4), ?_, ?_⟩
  · have := (VarD.new (w.alloc (.cells #[.slice ao n ca, .slice bo m cb] 26)) (.slice none 0 0) (.slice none 0 0)).below b4
    simp only [World.size_alloc] at this
    exact this
  · have := VarT.new ((w.alloc (.cells #[.slice ao n ca, .slice bo m cb] 26)).alloc (.cells #[.slice none 0 0, .slice none 0 0] 26)) 30 0 0 0
    simp only [World.size_alloc] at this
    exact this

set_option maxHeartbeats 1600000 in
theorem elect_impl (R : Ans) (ao bo : Option Addr) (ca cb : Nat) (ss : List ByteArray) (xs : List Wr) (h o g : Int) (w : World) (hR : elA ss xs h o g = R) (hl : ss.length ≤ maxLen) (hm : xs.length ≤ maxLen) (h1 : Ss w ao ss) (h2 : Ios w bo xs) (hE : ErrW w) :
    Calls Tryz.prog 10 #[.agg #[.slice ao ss.length ca, .slice bo xs.length cb], .int .i64 h, .int .i64 o, .int .i64 g] w fun e w' => Told w w' R e := by
  have HN := hide (tl_new3 w ao bo ca cb ss.length xs.length)
  have HL := hide hl
  have HM := hide hm
  have H1 := hide h1
  have H2 := hide h2
  have HE := hide hE
  have HRR := hide hR
  clear h1 h2 hl hm hE hR
  go_enter Tryz.func10, Tryz.ntmps10
  go_upto_region 1 with fail
  revert HN
  generalize (((w.alloc (.cells #[.slice ao ss.length ca, .slice bo xs.length cb] 26)).alloc (.cells #[.slice none 0 0, .slice none 0 0] 26)).alloc (.cells #[.int .i64 0, .int .i64 0, .int .i64 0] 30)) = W0
  intro HT
  have HO : Hid (w.heap.size ≤ w.heap.size + 1 ∧ w.heap.size ≤ w.heap.size + 1 + 1 ∧ w.heap.size + 1 ≠ w.heap.size + 1 + 1) := hide (by omega)
  generalize w.heap.size + 1 + 1 = B2 at *
  generalize w.heap.size + 1 = B1 at *
  obtain ⟨d0, d1⟩ := (unhide HT).d.cells
  go_wp2_with fail
  refine (roomFault_any _ _ _ _ ss xs h _ (unhide HL) (unhide HM) ((unhide H1).below (unhide HT).below) ((unhide H2).below (unhide HT).below)).mono ?_
  rintro e w1 ⟨rfl, hb1⟩
  have HT1 := hide ((unhide HT).next hb1)
  clear hb1 d0 d1
  obtain ⟨c, HC⟩ : ∃ c, Hid (leC ss xs h = c) := ⟨_, hide rfl⟩
  rw [unhide HC]
  by_cases hc : c = 0
  · have hb : (c != 0) = false := by simp [hc]
    have HC0 : Hid (leC ss xs h = 0) := hide ((unhide HC).trans hc)
    clear hc
    go_wp2_with fail
    refine (ownerOK_any o g _).mono ?_
    rintro e w2 ⟨rfl, hw⟩
    replace hw := hw.symm
    subst hw
    have HT2 := HT1
    by_cases hx : (inB o 0 3 && inB g 1 1000000) = true
    · have HLX := hide hx
      obtain ⟨d0, d1⟩ := (unhide HT2).d.cells
      obtain ⟨L, HK⟩ : ∃ L, Hid (ldOf ss xs h = L) := ⟨_, hide rfl⟩
      have HD := hide (leC_eq (unhide HC0))
      go_wp2_with fail
      refine (openStore_any _ _ _ _ ss xs h L _ (unhide HK) (unhide HD).1 ((unhide H1).below (unhide HT2).below) ((unhide H2).below (unhide HT2).below) ((unhide HE).below (unhide HT2).below)).mono ?_
      rintro e w3 ⟨gb, po, pa, ro, ra, rfl, hob, hod, hb3⟩
      have HT3 := hide ((unhide HT2).next hb3)
      have HZ : Hid (w.heap.size ≤ w3.heap.size ∧ B1 < w3.heap.size ∧ B2 < w3.heap.size ∧ w.heap.size < w3.heap.size) := hide ⟨(unhide HT3).below.size, (unhide HT3).r.lt, (unhide HT3).t.lt, (unhide HT3).d.lt⟩
      have HS3 := hide (sto_new (h := h) (L := L) (hob.base (B' := w.heap.size) (unhide HT2).below.size) (hod.base (B' := w.heap.size) (unhide HT2).below.size) (unhide HZ).1)
      have HA3 := hide (Joins.below_alloc1 w3 (.cells #[.int .i64 h, .int .i64 0, .int .i64 0, .int .i64 0, .int .i64 0, .int .i64 0, .int .i64 0, .int .i64 0, .slice (some ⟨gb, 0, none⟩) 4 4, .slice po ss.length pa, .slice ro xs.length ra, .int .i64 L.ver, .int .i64 L.own, .int .i64 L.gen] 68))
      have HT4 := hide ((unhide HT3).next (unhide HA3))
      clear hob hod hb3 d0 d1 hx
      go_upto_region 7 with fail
      revert HS3 HT4 HZ
      clear HA3 HT3
      generalize w3.alloc (.cells #[.int .i64 h, .int .i64 0, .int .i64 0, .int .i64 0, .int .i64 0, .int .i64 0, .int .i64 0, .int .i64 0, .slice (some ⟨gb, 0, none⟩) 4 4, .slice po ss.length pa, .slice ro xs.length ra, .int .i64 L.ver, .int .i64 L.own, .int .i64 L.gen] 68) = W4
      generalize w3.heap.size = x
      intro HZ HS4 HT4
      have HCE := hide (elect_any R w.heap.size x ss xs h o g L _ _ _ _ _ _ _ (unhide HK) (unhide HRR) (unhide HC0) (unhide HLX) (unhide HS4))
      go_wp2_with fail
      refine (unhide HCE).mono ?_
      rintro e w5 ⟨rfl, ⟨p5, bs5, bo', ba', ao', ca', qo', cb', hst⟩, hk⟩
      have HS5 := hide hst
      have HT5 := hide ((unhide HT4).keep hk (unhide HZ).1 (unhide HZ).2.2.2 (unhide HZ).2.1 (unhide HZ).2.2.1)
      have x1 : x ≠ B1 := by have := unhide HZ; omega
      have x1' : B1 ≠ x := by have := unhide HZ; omega
      have x2 : x ≠ B2 := by have := unhide HZ; omega
      have x2' : B2 ≠ x := by have := unhide HZ; omega
      have x3 : B1 ≠ B2 := (unhide HO).2.2
      have x3' : B2 ≠ B1 := Ne.symm (unhide HO).2.2
      clear hst hk
      obtain ⟨_, c9, c10, c11, c12, c13⟩ := (unhide HS5).v.rest
      obtain ⟨r0, r1⟩ := (unhide HT5).r.cells
      have r2 := (unhide HT5).r.free 0
      have r3 := (unhide HT5).r.free 1
      obtain ⟨t0, t1, t2⟩ := (unhide HT5).t.cells
      obtain ⟨t3, t4, t5⟩ := (unhide HT5).t.free
      have HF := hide (fun a b x y z => (unhide HT5).out (unhide HS5).d (unhide HO).1 (unhide HO).2.1 a b x y z)
      have HF2 := hide (fun a b x y z => (unhide HT5).out2 (unhide HS5).d (unhide HO).1 (unhide HO).2.1 a b x y z)
      go_wp2
      go_region
      all_goals
        go_wp2
        refine bodyPost_ret (v := .tuple #[.agg #[.slice ao' R.ss.length ca', .slice qo' R.xs.length cb'], lV R.l, .int .i64 R.c]) (by simp [results, Tryz.results10, go_sem, r0, r1, t0, t1, t2]) rfl ?_
        first
          | exact told_end (s := ⟨R.ss, R.xs, p5, bs5⟩) rfl ((unhide HF _ _ _ _ _).1.below (Below.refl _ _).drew) (unhide HF _ _ _ _ _).2.drew
          | exact told_end (s := ⟨R.ss, R.xs, p5, bs5⟩) rfl ((unhide HF2 _ _ _ _ _).1.below (Below.refl _ _).drew) (unhide HF2 _ _ _ _ _).2.drew
          | exact told_end (s := ⟨R.ss, R.xs, p5, bs5⟩) rfl (unhide HF _ _ _ _ _).1 (unhide HF _ _ _ _ _).2
          | exact told_end (s := ⟨R.ss, R.xs, p5, bs5⟩) rfl (unhide HF2 _ _ _ _ _).1 (unhide HF2 _ _ _ _ _).2
    · rw [Bool.not_eq_true] at hx
      have HQ : Hid (R = ⟨[], [], ld0, 4⟩) := hide (by rw [← unhide HRR]; exact elA_range (unhide HC0) hx)
      obtain ⟨r0, r1⟩ := (unhide HT2).r.cells
      have r2 := (unhide HT2).r.free 0
      have r3 := (unhide HT2).r.free 1
      obtain ⟨t0, t1, t2⟩ := (unhide HT2).t.cells
      obtain ⟨t3, t4, t5⟩ := (unhide HT2).t.free
      have x3 : B1 ≠ B2 := (unhide HO).2.2
      have x3' : B2 ≠ B1 := Ne.symm (unhide HO).2.2
      have HF := hide (fun a b x y z => below5 (unhide HT2).below (unhide HO).1 (unhide HO).2.1 a b x y z)
      go_wp2
      exact bodyPost_ret (v := .tuple #[.agg #[.slice none 0 0, .slice none 0 0], lV ld0, .int .i64 4]) (by simp [results, Tryz.results10, go_sem, r0, r1, t0, t1, t2, ld0]) rfl (told_zero (unhide HQ) (unhide HF _ _ _ _ _))
  · have hb : (c != 0) = true := by simp [hc]
    have HQ : Hid (R = ⟨[], [], ld0, c⟩) := hide (by rw [← unhide HRR, ← unhide HC]; exact elA_room (by rw [unhide HC]; exact hc))
    clear hc
    obtain ⟨r0, r1⟩ := (unhide HT1).r.cells
    have r2 := (unhide HT1).r.free 0
    have r3 := (unhide HT1).r.free 1
    obtain ⟨t0, t1, t2⟩ := (unhide HT1).t.cells
    obtain ⟨t3, t4, t5⟩ := (unhide HT1).t.free
    have x3 : B1 ≠ B2 := (unhide HO).2.2
    have x3' : B2 ≠ B1 := Ne.symm (unhide HO).2.2
    have HF := hide (fun a b x y z => below5 (unhide HT1).below (unhide HO).1 (unhide HO).2.1 a b x y z)
    go_wp2
    exact bodyPost_ret (v := .tuple #[.agg #[.slice none 0 0, .slice none 0 0], lV ld0, .int .i64 c]) (by simp [results, Tryz.results10, go_sem, r0, r1, t0, t1, t2, ld0]) rfl (told_zero (unhide HQ) (unhide HF _ _ _ _ _))

end Go.Proofs.YtefnapcegeojoaaGreatDoor

namespace Go.Proofs.YtefnapcegeojoaaGreatDoor
open Go.RowKit
set_option linter.unusedVariables false
set_option maxRecDepth 100000

set_option maxHeartbeats 1600000 in
theorem l06Ask_any (ao bo : Option Addr) (ca cb : Nat) (ss : List ByteArray) (xs : List Wr) (h : Int) (w : World) (hl : ss.length ≤ maxLen) (hm : xs.length ≤ maxLen) (h1 : Ss w ao ss) (h2 : Ios w bo xs) :
    Calls Tryz.prog 38 #[.agg #[.slice ao ss.length ca, .slice bo xs.length cb], .int .i64 h] w fun e w' => e = .returned (.int .i64 (leC ss xs h)) ∧ Below w.heap.size w w' := by
  have HA := hide (Joins.below_alloc1 w (.cells #[.slice ao ss.length ca, .slice bo xs.length cb] 26))
  have H1 := hide (h1.below (unhide HA))
  have H2 := hide (h2.below (unhide HA))
  have HV := hide (VarD.new w (.slice ao ss.length ca) (.slice bo xs.length cb))
  have HL := hide hl
  have HM := hide hm
  clear h1 h2 hl hm
  go_enter Tryz.func38, Tryz.ntmps38
  go_wp2_with fail
  refine (l01Ask_any _ _ _ _ ss xs h 0 _ (unhide HL) (unhide HM) (unhide H1) (unhide H2)).mono ?_
  rintro e w1 ⟨rfl, hb1⟩
  have HB1 := hide (fr (unhide HA) hb1)
  obtain ⟨hc0, hc1⟩ := ((unhide HV).below hb1).cells
  clear hb1
  rw [ask_zero]
  by_cases e0 : hostC ss xs h = 0
  · have hb : (hostC ss xs h != 0) = false := by simp [e0]
    by_cases e2 : xs.length = 200
    · have HX := hide (leC_full e0 e2)
      have hfb : ((xs.length : Int) == 200) = true := by simp [e2]
      clear e2
      go_wp2
      go_ret
      exact ⟨ret_int (unhide HX).symm, unhide HB1⟩
    · have HX := hide (leC_ok e0 e2)
      have hfb : ((xs.length : Int) == 200) = false := by exact beq_eq_false_iff_ne.2 (by omega)
      clear e2
      go_wp2
      go_ret
      exact ⟨ret_int (unhide HX).symm, unhide HB1⟩
  · have hb : (hostC ss xs h != 0) = true := by simp [e0]
    have HX := hide (leC_host e0)
    go_wp2
    go_ret
    exact ⟨ret_int (unhide HX).symm, unhide HB1⟩

theorem l01Flush_sure (ao : Option Addr) (ca gg cap B : Nat) (ss : List ByteArray) (xs : List Wr) (h a : Int) (t : ByteArray) (S : List ByteArray) (Y : List Wr) (W : World) (hS : wS ss xs h a t = S) (hX : wX xs h a t = Y) (hP : diskB ss (xs ++ [⟨h, a, t⟩]) = true) (h1 : Ss W ao ss) (hO : W.ownsRow B 75 3 (.slice (some ⟨gg, 0, none⟩) (xs.length + 1) cap) (xs.length + 1) (ioV (xs ++ [⟨h, a, t⟩]))) :
    Calls Tryz.prog 52 #[.agg #[.slice ao ss.length ca, .slice (some ⟨gg, 0, none⟩) (xs.length + 1) cap], .int .i64 h] W fun e w' => ∃ po pa qo qa, e = .returned (.agg #[.slice po ss.length pa, .slice qo Y.length qa]) ∧ OwnD w' W.heap.size po ss.length pa qo Y.length qa S Y ∧ Below W.heap.size W w' := by
  have hn : (xs ++ [(⟨h, a, t⟩ : Wr)]).length = xs.length + 1 := by simp
  exact l01Flush_put ao (some ⟨gg, 0, none⟩) ca cap ss (xs ++ [⟨h, a, t⟩]) h ss.length (xs.length + 1) S Y W rfl hn (show putW ss (ofH h (xs ++ [⟨h, a, t⟩])) = S from hS) (show dropF h (xs ++ [⟨h, a, t⟩]) = Y from hX) hP h1 (ownI (e := 75) (B := B) (cap := cap) (xs := xs ++ [⟨h, a, t⟩]) (by rw [hn]; exact hO) (rightX hP))

end Go.Proofs.YtefnapcegeojoaaGreatDoor

namespace Go.Proofs.YtefnapcegeojoaaGreatDoor
open Go.RowKit
set_option linter.unusedVariables false
set_option maxRecDepth 100000

end Go.Proofs.YtefnapcegeojoaaGreatDoor

namespace Go.Proofs.YtefnapcegeojoaaGreatDoor
open Go.RowKit
set_option linter.unusedVariables false
set_option maxRecDepth 100000

end Go.Proofs.YtefnapcegeojoaaGreatDoor

namespace Go.Proofs.YtefnapcegeojoaaGreatDoor
open Go.RowKit
set_option linter.unusedVariables false
set_option maxRecDepth 100000

end Go.Proofs.YtefnapcegeojoaaGreatDoor

namespace Go.Proofs.YtefnapcegeojoaaGreatDoor
open Go.RowKit
set_option linter.unusedVariables false
set_option maxRecDepth 100000

set_option maxHeartbeats 1600000 in
theorem release_spec (R : Ans) (ao bo : Option Addr) (ca cb : Nat) (ss : List ByteArray) (xs : List Wr) (h : Int) (X : Ld) (w : World) (hR : rsA ss xs h X = R) (hl : ss.length ≤ maxLen) (hm : xs.length ≤ maxLen) (h1 : Ss w ao ss) (h2 : Ios w bo xs) :
    Calls Tryz.prog 19 #[.agg #[.slice ao ss.length ca, .slice bo xs.length cb], .int .i64 h, lV X] w fun e w' => Told w w' R e := by
  have HN := hide (tl_new4 w ao bo ca cb ss.length xs.length X)
  have HL := hide hl
  have HM := hide hm
  have H1 := hide h1
  have H2 := hide h2
  have HRR := hide hR
  clear h1 h2 hl hm hR
  go_enter Tryz.func19, Tryz.ntmps19
  go_upto_region 1 with fail
  revert HN
  generalize ((((w.alloc (.cells #[.slice ao ss.length ca, .slice bo xs.length cb] 26)).alloc (.cells #[.int .i64 X.ver, .int .i64 X.own, .int .i64 X.gen] 30)).alloc (.cells #[.slice none 0 0, .slice none 0 0] 26)).alloc (.cells #[.int .i64 0, .int .i64 0, .int .i64 0] 30)) = W0
  intro HN
  have HO : Hid (w.heap.size ≤ w.heap.size + 1 + 1 ∧ w.heap.size ≤ w.heap.size + 1 + 1 + 1 ∧ w.heap.size + 1 + 1 ≠ w.heap.size + 1 + 1 + 1) := hide (by omega)
  have m1 : w.heap.size + 1 + 1 ≠ w.heap.size := by omega
  have m2 : w.heap.size + 1 + 1 + 1 ≠ w.heap.size := by omega
  have m3 : w.heap.size + 1 + 1 ≠ w.heap.size + 1 := by omega
  have m4 : w.heap.size + 1 + 1 + 1 ≠ w.heap.size + 1 := by omega
  generalize w.heap.size + 1 + 1 + 1 = B2 at *
  generalize w.heap.size + 1 + 1 = B1 at *
  generalize w.heap.size + 1 = BX at *
  have m1' := m1.symm
  have m2' := m2.symm
  have m3' := m3.symm
  have m4' := m4.symm
  have HT := hide (unhide HN).1
  have HX := hide (unhide HN).2
  clear HN
  obtain ⟨d0, d1⟩ := (unhide HT).d.cells
  go_wp2_with fail
  refine (l06Ask_any _ _ _ _ ss xs h _ (unhide HL) (unhide HM) ((unhide H1).below (unhide HT).below) ((unhide H2).below (unhide HT).below)).mono ?_
  rintro e w1 ⟨rfl, hb1⟩
  have HT1 := hide ((unhide HT).next hb1)
  have HX1 := hide ((unhide HX).below hb1)
  clear hb1 d0 d1
  obtain ⟨c, HC⟩ : ∃ c, Hid (leC ss xs h = c) := ⟨_, hide rfl⟩
  rw [unhide HC]
  have x3 : B1 ≠ B2 := (unhide HO).2.2
  have x3' : B2 ≠ B1 := Ne.symm (unhide HO).2.2
  by_cases hc : c = 0
  · have hb : (c != 0) = false := by simp [hc]
    have HC0 : Hid (leC ss xs h = 0) := hide ((unhide HC).trans hc)
    clear hc
    obtain ⟨t0, t1, t2⟩ := (unhide HX1).cells
    go_wp2_with fail
    refine (leaderOK_spec X _).mono ?_
    rintro e w2 ⟨rfl, hb2⟩
    have HT2 := hide ((unhide HT1).next hb2)
    have HX2 := hide ((unhide HX1).below hb2)
    clear hb2 t0 t1 t2
    by_cases hx : ldB X = true
    · have HLX := hide hx
      obtain ⟨L, HK⟩ : ∃ L, Hid (ldOf ss xs h = L) := ⟨_, hide rfl⟩
      have HD := hide (leC_eq (unhide HC0))
      have HLEN := hide (diskB_len (unhide HD).1)
      have HRD := hide (fun W (hW : Below w.heap.size w W) => l06Read_any ao bo ca cb ss xs h L W (unhide HK) (unhide HD).1 ((unhide H1).below hW) ((unhide H2).below hW))
      have HOW := hide (fun W (hW : Below w.heap.size w W) => l01Own_any ao bo ca cb ss xs W (by have := unhide HLEN; omega) (by have := unhide HLEN; omega) ((unhide H1).below hW) ((unhide H2).below hW))
      have HDO : Hid (R = ⟨(rlDo ⟨ss, xs, ⟨h, 0, 0, 0, 0, 0, 0, 0⟩, []⟩ L X).1.ss, (rlDo ⟨ss, xs, ⟨h, 0, 0, 0, 0, 0, 0, 0⟩, []⟩ L X).1.xs, (rlDo ⟨ss, xs, ⟨h, 0, 0, 0, 0, 0, 0, 0⟩, []⟩ L X).2.1, (rlDo ⟨ss, xs, ⟨h, 0, 0, 0, 0, 0, 0, 0⟩, []⟩ L X).2.2⟩) := hide (by rw [← unhide HRR, ← unhide HK]; exact rs_do _ rfl rfl rfl (unhide HC0) (unhide HLX))
      obtain ⟨r, HR⟩ : ∃ r, Hid (rlDo ⟨ss, xs, ⟨h, 0, 0, 0, 0, 0, 0, 0⟩, []⟩ L X = r) := ⟨_, hide rfl⟩
      rw [unhide HR] at HDO
      obtain ⟨d0, d1⟩ := (unhide HT2).d.cells
      obtain ⟨t0, t1, t2⟩ := (unhide HX2).cells
      go_upto_region 6 with fail
      clear hx
      go_cut [28] from 24 to 28 (fun q wx => ∃ b9 : Bool, q = .bool b9 ∧ Hid (b9 = !sameL L X) ∧ Hid (Below w2.heap.size w2 wx))
      case first =>
        rcases lead_cases L X with ⟨b1, hr⟩ | ⟨b1, b2, hr⟩ | ⟨b1, b2, b3, hr⟩ | ⟨b1, b2, b3, hr⟩
        all_goals
          replace hr := hide hr
          go_region_held3 (fun w' => w'.cell? ⟨w.heap.size, 0, none⟩ = some (.slice ao ss.length ca) ∧ w'.cell? ⟨w.heap.size, 1, none⟩ = some (.slice bo xs.length cb) ∧ w'.cell? ⟨BX, 0, none⟩ = some (.int .i64 X.ver) ∧ w'.cell? ⟨BX, 1, none⟩ = some (.int .i64 X.own) ∧ w'.cell? ⟨BX, 2, none⟩ = some (.int .i64 X.gen)) (go_keep)
            ((go_at_call 51; refine (unhide HRD _ (fr (unhide HT2).below (Below.refl _ w2).drew)).mono ?_; rintro e wA ⟨rfl, hbA⟩; have HBA := hide (fr (Below.refl _ w2).drew hbA); clear hbA; obtain ⟨a0, a1⟩ := ((unhide HT2).d.below (unhide HBA)).cells; obtain ⟨a2, a3, a4⟩ := ((unhide HX2).below (unhide HBA)).cells))
          all_goals
            go_wp2_with fail
            go_meet
            exact ⟨_, rfl, hide (by rw [unhide hr]; rfl), HBA⟩
      case rest =>
        obtain ⟨b9, rfl, HB9, HBA⟩ := hcut
        rename World => W3
        have HT3 := hide ((unhide HT2).next (unhide HBA))
        have HX3 := hide ((unhide HX2).below (unhide HBA))
        clear d0 d1 t0 t1 t2
        obtain ⟨d0, d1⟩ := (unhide HT3).d.cells
        obtain ⟨t0, t1, t2⟩ := (unhide HX3).cells
        by_cases hs : sameL L X = true
        · have HLXE : Hid (L = X) := hide (sameL_iff.1 hs)
          obtain rfl : b9 = false := by rw [unhide HB9, hs]; rfl
          clear HB9
          by_cases ho : X.own = h
          · have hob : (X.own != h) = false := by simp [ho]
            by_cases hv : X.ver = 1000000
            · have hvb : (X.ver == 1000000) = true := by simp [hv]
              have HQ : Hid (R = ⟨ss, xs, X, 6⟩) := hide (by rw [unhide HDO, ← unhide HR, rlDo, if_pos hs, if_pos (show X.own = _ from ho), if_pos hv]; rw [unhide HLXE])
              clear ho hv
              go_wp2_with fail
              go_region_held3 (fun w' => w'.cell? ⟨w.heap.size, 0, none⟩ = some (.slice ao ss.length ca) ∧ w'.cell? ⟨w.heap.size, 1, none⟩ = some (.slice bo xs.length cb) ∧ w'.cell? ⟨BX, 0, none⟩ = some (.int .i64 X.ver) ∧ w'.cell? ⟨BX, 1, none⟩ = some (.int .i64 X.own) ∧ w'.cell? ⟨BX, 2, none⟩ = some (.int .i64 X.gen)) (go_keep)
                ((go_at_call 31; refine (unhide HOW _ (fr (unhide HT3).below (Below.refl _ W3).drew)).mono ?_; rintro e wA ⟨po, pa, qo, qa, rfl, hoA, hbA⟩; have HBA := hide (fr (Below.refl _ W3).drew hbA); have HOA := hide (hoA.base (B' := w.heap.size) (unhide HT3).below.size); have HTA := hide ((unhide HT3).next (unhide HBA)); clear hoA hbA; obtain ⟨a0, a1⟩ := (unhide HTA).d.cells; obtain ⟨a2, a3, a4⟩ := ((unhide HX3).below (unhide HBA)).cells; obtain ⟨r0, r1⟩ := (unhide HTA).r.cells; have r2 := (unhide HTA).r.free 0; have r3 := (unhide HTA).r.free 1; obtain ⟨u0, u1, u2⟩ := (unhide HTA).t.cells; obtain ⟨u3, u4, u5⟩ := (unhide HTA).t.free))
              all_goals
                have HF := hide (fun a b x y z => (unhide HTA).out (unhide HOA) (unhide HO).1 (unhide HO).2.1 a b x y z)
                have HF2 := hide (fun a b x y z => (unhide HTA).out2 (unhide HOA) (unhide HO).1 (unhide HO).2.1 a b x y z)
                go_wp2
                refine bodyPost_ret (v := .tuple #[.agg #[.slice po ss.length pa, .slice qo xs.length qa], lV X, .int .i64 6]) (by simp [results, Tryz.results19, go_sem, r0, r1, u0, u1, u2]) rfl ?_
                first
                  | exact told_end (s := ⟨ss, xs, p00, []⟩) (unhide HQ) (unhide HF _ _ _ _ _).1 (unhide HF _ _ _ _ _).2
                  | exact told_end (s := ⟨ss, xs, p00, []⟩) (unhide HQ) (unhide HF2 _ _ _ _ _).1 (unhide HF2 _ _ _ _ _).2
                  | exact told_end (s := ⟨ss, xs, p00, []⟩) (unhide HQ) ((unhide HF _ _ _ _ _).1.below (Below.refl _ _).drew) (unhide HF _ _ _ _ _).2.drew
            · have hvb : (X.ver == 1000000) = false := by simp [hv]
              have HQ : Hid (R = ⟨wS ss xs h 0 (encL (ldN (X.ver + 1))), wX xs h 0 (encL (ldN (X.ver + 1))), ldN (X.ver + 1), 0⟩) := hide (by rw [unhide HDO, ← unhide HR, rlDo, if_pos hs, if_pos (show X.own = _ from ho), if_neg hv])
              have hvv := (ldB_lo (unhide HLX)).1
              have wr1 : IntKind.i64.wrap (X.ver + 1) = X.ver + 1 := by rw [IntKind.wrap_i64]; omega
              have HMB : Hid (ldB ⟨X.ver + 1, -1, 0⟩ = true) := hide (ldB_N _ (by omega) (by omega))
              obtain ⟨t, HTE⟩ : ∃ t, Hid (encL (ldN (X.ver + 1)) = t) := ⟨_, hide rfl⟩
              have HTS : Hid (t.size ≤ 80) := hide (by rw [← unhide HTE, encL_size]; decide)
              rw [unhide HTE] at HQ
              have HP : Hid (diskB ss (xs ++ [⟨h, 0, t⟩]) = true) := hide (diskB_snoc (unhide HD).1 (unhide HD).2.2 (w_io (unhide HD).2.1.1 (unhide HD).2.1.2 (by decide) (by decide) (unhide HTS)))
              have HXL : Hid (xs.length ≤ 1048576) := hide (by have := unhide HLEN; omega)
              have HRT := hide (w_right (unhide HD).1 (unhide HD).2.2 (unhide HD).2.1.1 (unhide HD).2.1.2 (show (0 : Int) ≤ 0 by decide) (by decide) (unhide HTS))
              have HNL := hide (wS_len ss xs h 0 t)
              obtain ⟨S, HSS⟩ : ∃ S, Hid (wS ss xs h 0 t = S) := ⟨_, hide rfl⟩
              obtain ⟨Y, HXX⟩ : ∃ Y, Hid (wX xs h 0 t = Y) := ⟨_, hide rfl⟩
              rw [unhide HSS] at HQ HRT HNL
              rw [unhide HXX] at HQ HRT
              have HQS := hide (rightS (unhide HRT))
              have HQX := hide (rightX (unhide HRT))
              have HK12 : Hid (S.length ≤ 1048576 ∧ Y.length ≤ 1048576) := hide (by have := diskB_len (unhide HRT); omega)
              have HA4 := hide (Joins.below_alloc1 W3 (.cells #[.int .i64 (X.ver + 1), .int .i64 (-1), .int .i64 0] 30))
              have HV4 := hide (VarT.new W3 30 (X.ver + 1) (-1) 0)
              have HT4 := hide ((unhide HT3).next (unhide HA4))
              have HLT := hide (And.intro (unhide HT3).r.lt (unhide HT3).t.lt)
              clear ho hv hvv
              go_wp2_with fail
              clear d0 d1 t0 t1 t2
              revert HV4 HT4 HLT
              clear HA4
              generalize W3.alloc (.cells #[.int .i64 (X.ver + 1), .int .i64 (-1), .int .i64 0] 30) = W4
              generalize W3.heap.size = C
              intro HV4 HT4 HLT
              have m5 : B1 ≠ C := by have := (unhide HLT).1; omega
              have m6 : B2 ≠ C := by have := (unhide HLT).2; omega
              have m5' := m5.symm
              have m6' := m6.symm
              obtain ⟨d0, d1⟩ := (unhide HT4).d.cells
              obtain ⟨t0, t1, t2⟩ := (unhide HV4).cells
              have HFL := hide (fun (gg cap B : Nat) (W : World) (hW : Below w.heap.size w W) hO => l01Flush_sure ao ca gg cap B ss xs h 0 t S Y W (unhide HSS) (unhide HXX) (unhide HP) ((unhide H1).below hW) hO)
              have HENC := hide (fun W => l06Encode_ld ⟨X.ver + 1, -1, 0⟩ W (unhide HMB))
              rw [show encL (⟨X.ver + 1, -1, 0⟩ : Ld) = t from unhide HTE] at HENC
              go_region_held3 (fun w' => w'.cell? ⟨w.heap.size, 0, none⟩ = some (.slice ao ss.length ca) ∧ w'.cell? ⟨w.heap.size, 1, none⟩ = some (.slice bo xs.length cb) ∧ w'.cell? ⟨C, 0, none⟩ = some (.int .i64 (X.ver + 1)) ∧ w'.cell? ⟨C, 1, none⟩ = some (.int .i64 (-1)) ∧ w'.cell? ⟨C, 2, none⟩ = some (.int .i64 0)) (go_keep)
                (first
                  | (go_at_call 54; refine (unhide HENC _).mono ?_; rintro e wA ⟨rfl, hbA⟩; have HBA := hide (fr (Below.refl _ W4).drew hbA); clear hbA; have HTA := hide ((unhide HT4).next (unhide HBA)); obtain ⟨a0, a1⟩ := (unhide HTA).d.cells; obtain ⟨a2, a3, a4⟩ := ((unhide HV4).below (unhide HBA)).cells)
                  | (go_at_call 53; refine (l01Write_hd ao bo ss.length ca cb xs h 0 t _ (unhide HXL) ((unhide H2).below (unhide HTA).below)).mono ?_; rintro e wB ⟨gg, cap, rfl, hoB, hbB⟩; have HOB := hide hoB; have HTB := hide ((unhide HTA).next hbB); have HBB := hide (fr (unhide HBA) hbB); clear hoB hbB; obtain ⟨b0, b1⟩ := (unhide HTB).d.cells; obtain ⟨b2, b3, b4⟩ := ((unhide HV4).below (unhide HBB)).cells)
                  | (go_at_call 52; refine (unhide HFL gg cap _ _ (unhide HTB).below (unhide HOB)).mono ?_; rintro e wC ⟨po, pa, qo, qa, rfl, hoC, hbC⟩; have HOC := hide hoC; have HTC := hide ((unhide HTB).next hbC); have HBC := hide (fr (unhide HBB) hbC); clear hoC hbC; obtain ⟨b5, b6⟩ := (unhide HTC).d.cells; obtain ⟨b7, b8, b9⟩ := ((unhide HV4).below (unhide HBC)).cells)
                  | (go_at_call 31; refine (l01Own_len po qo pa qa S Y ss.length Y.length _ (unhide HNL).symm rfl (unhide HK12).1 (unhide HK12).2 ((unhide HOC).ss (unhide HQS)) ((unhide HOC).ios (unhide HQX))).mono ?_; rintro e wD ⟨po2, pa2, qo2, qa2, rfl, hoD, hbD⟩; have HOD := hide (hoD.base (B' := w.heap.size) (unhide HTC).below.size); have HTD := hide ((unhide HTC).next hbD); have HBD := hide (fr (unhide HBC) hbD); clear hoD hbD; obtain ⟨g0, g1⟩ := (unhide HTD).d.cells; obtain ⟨g2, g3, g4⟩ := ((unhide HV4).below (unhide HBD)).cells; obtain ⟨r0, r1⟩ := (unhide HTD).r.cells; have r2 := (unhide HTD).r.free 0; have r3 := (unhide HTD).r.free 1; obtain ⟨u0, u1, u2⟩ := (unhide HTD).t.cells; obtain ⟨u3, u4, u5⟩ := (unhide HTD).t.free))
              all_goals
                have HF := hide (fun a b x y z => (unhide HTD).out (unhide HOD) (unhide HO).1 (unhide HO).2.1 a b x y z)
                have HF2 := hide (fun a b x y z => (unhide HTD).out2 (unhide HOD) (unhide HO).1 (unhide HO).2.1 a b x y z)
                go_wp2
                refine bodyPost_ret (v := .tuple #[.agg #[.slice po2 ss.length pa2, .slice qo2 Y.length qa2], lV (ldN (X.ver + 1)), .int .i64 0]) (by simp [results, Tryz.results19, go_sem, r0, r1, u0, u1, u2, ldN]) rfl ?_
                rw [← unhide HNL]
                first
                  | exact told_end (s := ⟨S, Y, p00, []⟩) (unhide HQ) (by rw [unhide HNL]; exact (unhide HF _ _ _ _ _).1) (unhide HF _ _ _ _ _).2
                  | exact told_end (s := ⟨S, Y, p00, []⟩) (unhide HQ) (by rw [unhide HNL]; exact (unhide HF2 _ _ _ _ _).1) (unhide HF2 _ _ _ _ _).2
          · have hob : (X.own != h) = true := by simp [ho]
            have HQ : Hid (R = ⟨ss, xs, X, 9⟩) := hide (by rw [unhide HDO, ← unhide HR, rlDo, if_pos hs, if_neg (show ¬ X.own = _ from ho)]; rw [unhide HLXE])
            clear ho
            go_wp2_with fail
            go_region_held3 (fun w' => w'.cell? ⟨w.heap.size, 0, none⟩ = some (.slice ao ss.length ca) ∧ w'.cell? ⟨w.heap.size, 1, none⟩ = some (.slice bo xs.length cb) ∧ w'.cell? ⟨BX, 0, none⟩ = some (.int .i64 X.ver) ∧ w'.cell? ⟨BX, 1, none⟩ = some (.int .i64 X.own) ∧ w'.cell? ⟨BX, 2, none⟩ = some (.int .i64 X.gen)) (go_keep)
              ((go_at_call 31; refine (unhide HOW _ (fr (unhide HT3).below (Below.refl _ W3).drew)).mono ?_; rintro e wA ⟨po, pa, qo, qa, rfl, hoA, hbA⟩; have HBA := hide (fr (Below.refl _ W3).drew hbA); have HOA := hide (hoA.base (B' := w.heap.size) (unhide HT3).below.size); have HTA := hide ((unhide HT3).next (unhide HBA)); clear hoA hbA; obtain ⟨a0, a1⟩ := (unhide HTA).d.cells; obtain ⟨a2, a3, a4⟩ := ((unhide HX3).below (unhide HBA)).cells; obtain ⟨r0, r1⟩ := (unhide HTA).r.cells; have r2 := (unhide HTA).r.free 0; have r3 := (unhide HTA).r.free 1; obtain ⟨u0, u1, u2⟩ := (unhide HTA).t.cells; obtain ⟨u3, u4, u5⟩ := (unhide HTA).t.free))
            all_goals
              have HF := hide (fun a b x y z => (unhide HTA).out (unhide HOA) (unhide HO).1 (unhide HO).2.1 a b x y z)
              have HF2 := hide (fun a b x y z => (unhide HTA).out2 (unhide HOA) (unhide HO).1 (unhide HO).2.1 a b x y z)
              go_wp2
              refine bodyPost_ret (v := .tuple #[.agg #[.slice po ss.length pa, .slice qo xs.length qa], lV X, .int .i64 9]) (by simp [results, Tryz.results19, go_sem, r0, r1, u0, u1, u2]) rfl ?_
              first
                | exact told_end (s := ⟨ss, xs, p00, []⟩) (unhide HQ) (unhide HF _ _ _ _ _).1 (unhide HF _ _ _ _ _).2
                | exact told_end (s := ⟨ss, xs, p00, []⟩) (unhide HQ) (unhide HF2 _ _ _ _ _).1 (unhide HF2 _ _ _ _ _).2
                | exact told_end (s := ⟨ss, xs, p00, []⟩) (unhide HQ) ((unhide HF _ _ _ _ _).1.below (Below.refl _ _).drew) (unhide HF _ _ _ _ _).2.drew
        · rw [Bool.not_eq_true] at hs
          obtain rfl : b9 = true := by rw [unhide HB9, hs]; rfl
          clear HB9
          have HQ : Hid (R = ⟨ss, xs, L, 13⟩) := hide (by rw [unhide HDO, ← unhide HR, rlDo, if_neg (by simp [hs])])
          go_wp2_with fail
          have HXX0 := hide (Below.refl W3.heap.size W3).drew
          have HTA := hide ((unhide HT3).next (unhide HXX0))
          have HBA := HXX0
          go_region_held3 (fun w' => w'.cell? ⟨w.heap.size, 0, none⟩ = some (.slice ao ss.length ca) ∧ w'.cell? ⟨w.heap.size, 1, none⟩ = some (.slice bo xs.length cb) ∧ w'.cell? ⟨BX, 0, none⟩ = some (.int .i64 X.ver) ∧ w'.cell? ⟨BX, 1, none⟩ = some (.int .i64 X.own) ∧ w'.cell? ⟨BX, 2, none⟩ = some (.int .i64 X.gen)) (go_keep)
            (first
              | (go_at_call 31; refine (unhide HOW _ (by exact (unhide HTA).below)).mono ?_; rintro e wA ⟨po, pa, qo, qa, rfl, hoA, hbA⟩; have HOA := hide (hoA.base (B' := w.heap.size) (unhide HTA).below.size); replace HTA := hide ((unhide HTA).next hbA); replace HBA := hide (fr (unhide HBA) hbA); clear hoA hbA; obtain ⟨a0, a1⟩ := (unhide HTA).d.cells; obtain ⟨a2, a3, a4⟩ := ((unhide HX3).below (unhide HBA)).cells; obtain ⟨r0, r1⟩ := (unhide HTA).r.cells; have r2 := (unhide HTA).r.free 0; have r3 := (unhide HTA).r.free 1; obtain ⟨u0, u1, u2⟩ := (unhide HTA).t.cells; obtain ⟨u3, u4, u5⟩ := (unhide HTA).t.free)
              | (go_at_call 51; refine (unhide HRD _ (by exact (unhide HTA).below)).mono ?_; rintro e wA ⟨rfl, hbA⟩; (try replace HOA := hide ((unhide HOA).below hbA)); replace HTA := hide ((unhide HTA).next hbA); replace HBA := hide (fr (unhide HBA) hbA); clear hbA; obtain ⟨a0, a1⟩ := (unhide HTA).d.cells; obtain ⟨a2, a3, a4⟩ := ((unhide HX3).below (unhide HBA)).cells; obtain ⟨r0, r1⟩ := (unhide HTA).r.cells; have r2 := (unhide HTA).r.free 0; have r3 := (unhide HTA).r.free 1; obtain ⟨u0, u1, u2⟩ := (unhide HTA).t.cells; obtain ⟨u3, u4, u5⟩ := (unhide HTA).t.free))
          all_goals
            have HF := hide (fun a b x y z => (unhide HTA).out (unhide HOA) (unhide HO).1 (unhide HO).2.1 a b x y z)
            have HF2 := hide (fun a b x y z => (unhide HTA).out2 (unhide HOA) (unhide HO).1 (unhide HO).2.1 a b x y z)
            go_wp2
            refine bodyPost_ret (v := .tuple #[.agg #[.slice po ss.length pa, .slice qo xs.length qa], lV L, .int .i64 13]) (by simp [results, Tryz.results19, go_sem, r0, r1, u0, u1, u2]) rfl ?_
            first
              | exact told_end (s := ⟨ss, xs, p00, []⟩) (unhide HQ) (unhide HF _ _ _ _ _).1 (unhide HF _ _ _ _ _).2
              | exact told_end (s := ⟨ss, xs, p00, []⟩) (unhide HQ) (unhide HF2 _ _ _ _ _).1 (unhide HF2 _ _ _ _ _).2
              | exact told_end (s := ⟨ss, xs, p00, []⟩) (unhide HQ) ((unhide HF _ _ _ _ _).1.below (Below.refl _ _).drew) (unhide HF _ _ _ _ _).2.drew
    · rw [Bool.not_eq_true] at hx
      have HQ : Hid (R = ⟨[], [], ld0, 1⟩) := hide (by rw [← unhide HRR]; exact rs_wrong (unhide HC0) hx)
      obtain ⟨r0, r1⟩ := (unhide HT2).r.cells
      have r2 := (unhide HT2).r.free 0
      have r3 := (unhide HT2).r.free 1
      obtain ⟨t0, t1, t2⟩ := (unhide HT2).t.cells
      obtain ⟨t3, t4, t5⟩ := (unhide HT2).t.free
      have HF := hide (fun a b x y z => below5 (unhide HT2).below (unhide HO).1 (unhide HO).2.1 a b x y z)
      go_wp2
      exact bodyPost_ret (v := .tuple #[.agg #[.slice none 0 0, .slice none 0 0], lV ld0, .int .i64 1]) (by simp [results, Tryz.results19, go_sem, r0, r1, t0, t1, t2, ld0]) rfl (told_zero (unhide HQ) (unhide HF _ _ _ _ _))
  · have hb : (c != 0) = true := by simp [hc]
    have HQ : Hid (R = ⟨[], [], ld0, c⟩) := hide (by rw [← unhide HRR, ← unhide HC]; exact rs_bad (by rw [unhide HC]; exact hc))
    clear hc
    obtain ⟨r0, r1⟩ := (unhide HT1).r.cells
    have r2 := (unhide HT1).r.free 0
    have r3 := (unhide HT1).r.free 1
    obtain ⟨t0, t1, t2⟩ := (unhide HT1).t.cells
    obtain ⟨t3, t4, t5⟩ := (unhide HT1).t.free
    have HF := hide (fun a b x y z => below5 (unhide HT1).below (unhide HO).1 (unhide HO).2.1 a b x y z)
    go_wp2
    exact bodyPost_ret (v := .tuple #[.agg #[.slice none 0 0, .slice none 0 0], lV ld0, .int .i64 c]) (by simp [results, Tryz.results19, go_sem, r0, r1, t0, t1, t2, ld0]) rfl (told_zero (unhide HQ) (unhide HF _ _ _ _ _))

end Go.Proofs.YtefnapcegeojoaaGreatDoor

namespace Go.Proofs.YtefnapcegeojoaaGreatDoor
open Go.RowKit
set_option linter.unusedVariables false
set_option maxRecDepth 100000

theorem iosNil (w : World) (bo : Option Addr) : Ios w bo [] := fun i hi => absurd hi (Nat.not_lt_zero _)
theorem toldNil {w W : World} {R : Ans} {e : Ending} (hx : R.xs = []) (hd : diskB R.ss [] = true) (h : Told w W R e) : ∃ po pa qo qa, e = .returned (.tuple #[.agg #[.slice po R.ss.length pa, .slice qo 0 qa], lV R.l, .int .i64 R.c]) ∧ Ss W po R.ss ∧ Below w.heap.size w W := by
  obtain ⟨po, pa, qo, qa, he, ho, hb⟩ := h
  rw [hx] at he ho
  exact ⟨po, pa, qo, qa, he, ho.ss (right_sz hd).2.1, hb⟩
theorem elect_nil (R : Ans) (ao bo : Option Addr) (ca cb : Nat) (ss : List ByteArray) (h o g : Int) (w : World) (hR : elA ss [] h o g = R) (hx : R.xs = []) (hd : diskB R.ss [] = true) (hs : diskB ss [] = true) (h1 : Ss w ao ss) (hE : ErrW w) :
    Calls Tryz.prog 10 #[.agg #[.slice ao ss.length ca, .slice bo 0 cb], .int .i64 h, .int .i64 o, .int .i64 g] w fun e w' => ∃ po pa qo qa, e = .returned (.tuple #[.agg #[.slice po R.ss.length pa, .slice qo 0 qa], lV R.l, .int .i64 R.c]) ∧ Ss w' po R.ss ∧ Below w.heap.size w w' :=
  (elect_impl R ao bo ca cb ss [] h o g w hR (right_sz hs).1.1 (by simp) h1 (iosNil w bo) hE).mono fun e w' hT => toldNil hx hd hT
theorem release_nil (R : Ans) (ao bo : Option Addr) (ca cb : Nat) (ss : List ByteArray) (h : Int) (X : Ld) (w : World) (hR : rsA ss [] h X = R) (hx : R.xs = []) (hd : diskB R.ss [] = true) (hs : diskB ss [] = true) (h1 : Ss w ao ss) (hE : ErrW w) :
    Calls Tryz.prog 18 #[.agg #[.slice ao ss.length ca, .slice bo 0 cb], .int .i64 h, lV X] w fun e w' => ∃ po pa qo qa, e = .returned (.tuple #[.agg #[.slice po R.ss.length pa, .slice qo 0 qa], lV R.l, .int .i64 R.c]) ∧ Ss w' po R.ss ∧ Below w.heap.size w w' :=
  (release_impl R ao bo ca cb ss [] h X w hR (right_sz hs).1.1 (by simp) h1 (iosNil w bo) hE).mono fun e w' hT => toldNil hx hd hT
theorem release_nilS (R : Ans) (ao bo : Option Addr) (ca cb : Nat) (ss : List ByteArray) (h : Int) (X : Ld) (w : World) (hR : rsA ss [] h X = R) (hx : R.xs = []) (hd : diskB R.ss [] = true) (hs : diskB ss [] = true) (h1 : Ss w ao ss) :
    Calls Tryz.prog 19 #[.agg #[.slice ao ss.length ca, .slice bo 0 cb], .int .i64 h, lV X] w fun e w' => ∃ po pa qo qa, e = .returned (.tuple #[.agg #[.slice po R.ss.length pa, .slice qo 0 qa], lV R.l, .int .i64 R.c]) ∧ Ss w' po R.ss ∧ Below w.heap.size w w' :=
  (release_spec R ao bo ca cb ss [] h X w hR (right_sz hs).1.1 (by simp) h1 (iosNil w bo)).mono fun e w' hT => toldNil hx hd hT
theorem holds_nil (ao bo : Option Addr) (ca cb : Nat) (ss : List ByteArray) (h g : Int) (b : Bool) (w : World) (he : hlB ss [] h g = b ∧ hostC ss [] h = 0) (hs : diskB ss [] = true) (h1 : Ss w ao ss) (hE : ErrW w) :
    Calls Tryz.prog 13 #[.agg #[.slice ao ss.length ca, .slice bo 0 cb], .int .i64 h, .int .i64 g] w fun e w' => e = .returned (.tuple #[.bool b, .int .i64 0]) ∧ Below w.heap.size w w' := by
  have k := holds_impl ao bo ca cb ss [] h g w (right_sz hs).1.1 (by simp) h1 (iosNil w bo) hE
  rw [he.1, he.2] at k
  exact k

structure Dm (w W : World) (T : List (Nat × Ld)) (D : List (Nat × List ByteArray)) : Prop where
  below : Below w.heap.size w W
  t : ∀ p ∈ T, VarT W p.1 30 p.2.ver p.2.own p.2.gen
  d : ∀ p ∈ D, ∃ ao ca bo cb, VarD W p.1 (.slice ao p.2.length ca) (.slice bo 0 cb) ∧ Ss W ao p.2
  e : ErrW W
theorem Dm.next {w W W' : World} {T : List (Nat × Ld)} {D : List (Nat × List ByteArray)} (h : Dm w W T D) (hb : Below W.heap.size W W') : Dm w W' T D :=
  ⟨fr h.below hb, fun p hp => (h.t p hp).below hb, fun p hp => by obtain ⟨ao, ca, bo, cb, h1, h2⟩ := h.d p hp; exact ⟨ao, ca, bo, cb, h1.below hb, h2.below hb⟩, h.e.below hb⟩
theorem Dm.addT {w W : World} {T : List (Nat × Ld)} {D : List (Nat × List ByteArray)} (h : Dm w W T D) (x : Ld) : Dm w (W.alloc (.cells #[.int .i64 x.ver, .int .i64 x.own, .int .i64 x.gen] 30)) ((W.heap.size, x) :: T) D := by
  have k := h.next (Joins.below_alloc1 W (.cells #[.int .i64 x.ver, .int .i64 x.own, .int .i64 x.gen] 30))
  refine ⟨k.below, fun p hp => ?_, k.d, k.e⟩
  rcases List.mem_cons.1 hp with rfl | hp
  · exact VarT.new W _ x.ver x.own x.gen
  · exact k.t p hp
theorem Dm.addD {w W : World} {T : List (Nat × Ld)} {D : List (Nat × List ByteArray)} {ss : List ByteArray} {po : Option Addr} (h : Dm w W T D) (hs : Ss W po ss) (pa : Nat) (qo : Option Addr) (qa : Nat) : Dm w (W.alloc (.cells #[.slice po ss.length pa, .slice qo 0 qa] 26)) T ((W.heap.size, ss) :: D) := by
  have hb := Joins.below_alloc1 W (.cells #[.slice po ss.length pa, .slice qo 0 qa] 26)
  have k := h.next hb
  refine ⟨k.below, k.t, fun p hp => ?_, k.e⟩
  rcases List.mem_cons.1 hp with rfl | hp
  · exact ⟨po, pa, qo, qa, VarD.new W _ _, hs.below hb⟩
  · exact k.d p hp
theorem Dm.both {w W : World} {T : List (Nat × Ld)} {D : List (Nat × List ByteArray)} {ss : List ByteArray} {po : Option Addr} (h : Dm w W T D) (hs : Ss W po ss) (pa : Nat) (qo : Option Addr) (qa : Nat) (x : Ld) : Dm w ((W.alloc (.cells #[.slice po ss.length pa, .slice qo 0 qa] 26)).alloc (.cells #[.int .i64 x.ver, .int .i64 x.own, .int .i64 x.gen] 30)) ((W.heap.size + 1, x) :: T) ((W.heap.size, ss) :: D) := by
  have k := (h.addD hs pa qo qa).addT x
  simp only [World.size_alloc] at k
  exact k

end Go.Proofs.YtefnapcegeojoaaGreatDoor

namespace Go.Proofs.YtefnapcegeojoaaGreatDoor
set_option linter.unusedVariables false

theorem bkOf_idem (b : Bk) (v : Int) : bkOf (bkOf b v) v = bkOf b v := by
  by_cases h : b.ver < v
  · have e : bkOf b v = ⟨v, 0, 0, 0⟩ := if_pos h
    rw [e]; exact if_neg (by show ¬ v < v; omega)
  · have e : bkOf b v = b := if_neg h
    rw [e, e]
def nrm (v : Int) (bs : List Bk) : List Bk := bs.map (fun b => bkOf b v)
theorem nrm_get {v : Int} {bs : List Bk} {k : Nat} (hk : k < bs.length) : bkOf ((nrm v bs).getD k bk0) v = bkOf (bs.getD k bk0) v := by
  have : (nrm v bs).getD k bk0 = bkOf (bs.getD k bk0) v := by simp [nrm, hk]
  rw [this, bkOf_idem]
theorem nrm_rd {p : Pxs} {bs : List Bk} (hp : pxB p = true) (h4 : bs.length = 4) : pxRd p (nrm p.ver bs) = pxRd p bs := by
  obtain ⟨hh, _, _, _, _, hn⟩ := px_parts hp
  unfold pxRd
  simp only
  have hs := skip_le (p := p) hh hn.1 hn.2
  split
  · rename_i hlt
    rw [nrm_get (show (skip p p.next).toNat < bs.length by omega)]
  · rfl
theorem nrm_own {p : Pxs} {bs : List Bk} (hp : pxB p = true) (h4 : bs.length = 4) : pxOwn p (nrm p.ver bs) = pxOwn p bs := by
  obtain ⟨hh, _⟩ := px_parts hp
  exact nrm_get (by omega)
theorem w2_ver (p : Pxs) (o : Bk) : (pxW2 p o).ver = p.ver := by unfold pxW2; split <;> rfl
theorem nrm_step {p : Pxs} {bs : List Bk} (hp : pxB p = true) (h4 : bs.length = 4) (h5 : p.phase < 5) : pxStepP p (nrm p.ver bs) = ((pxStepP p bs).1, nrm p.ver (pxStepP p bs).2) := by
  have h4' : (nrm p.ver bs).length = 4 := by simp [nrm, h4]
  rcases step_kinds (bs := bs) hp h5 with ⟨e, h⟩ | ⟨e, c, h⟩ | ⟨e, c, h⟩
  · rw [h, pxStepP_rd _ e, nrm_rd hp h4]
  · rw [h, pxStepP_no _ e (by rw [nrm_own hp h4]; exact c)]
  · rw [h, pxStepP_wr _ e (by rw [nrm_own hp h4]; exact c), nrm_own hp h4]
    have hy : bkOf (pxW2 p (pxOwn p bs)) p.ver = pxW2 p (pxOwn p bs) := if_neg (by rw [w2_ver]; omega)
    simp only [nrm, List.map_set, hy]
def pRun : Nat → Pxs → List Bk → Pxs × List Bk
  | 0, p, bs => (p, bs)
  | n + 1, p, bs => if p.phase < 5 then pRun n (pxStepP p bs).1 (pxStepP p bs).2 else (p, bs)
theorem run_p : ∀ (n : Nat) (s : Est), ((elRun n s).p, (elRun n s).bs) = pRun n s.p s.bs
  | 0, s => rfl
  | n + 1, s => by
    rw [elRun, pRun]
    split
    · rw [run_p n (elStep s), (step_p s).1, (step_p s).2]
    · rfl
theorem step_ver {p : Pxs} {bs : List Bk} (hp : pxB p = true) (h5 : p.phase < 5) : (pxStepP p bs).1.ver = p.ver := by
  rcases step_kinds (bs := bs) hp h5 with ⟨e, h⟩ | ⟨e, c, h⟩ | ⟨e, c, h⟩ <;> rw [h]
  · exact (pxRd_at _ _).2.2
  · exact (w1_at _ _).2.2
theorem pRun_nrm {v : Int} : ∀ (n : Nat) (p : Pxs) (bs : List Bk), pxB p = true → bksB bs = true → p.ver = v → (pRun n p (nrm v bs)).1 = (pRun n p bs).1
  | 0, _, _, _, _, _ => rfl
  | n + 1, p, bs, hp, hb, hv => by
    subst hv
    rw [pRun, pRun]
    split
    · rename_i h5
      rw [nrm_step hp (bksB_parts hb).1 h5]
      obtain ⟨q1, q2⟩ := px_right hp hb
      exact pRun_nrm n _ _ q1 q2 (step_ver hp h5)
    · rfl
theorem nrm_old {v : Int} {bs : List Bk} (h4 : bs.length = 4) (ho : ∀ i, i < 4 → (bs.getD i bk0).ver < v) : nrm v bs = [⟨v, 0, 0, 0⟩, ⟨v, 0, 0, 0⟩, ⟨v, 0, 0, 0⟩, ⟨v, 0, 0, 0⟩] := by
  obtain ⟨a, b, c, d, rfl⟩ : ∃ a b c d, bs = [a, b, c, d] := by
    match bs, h4 with
    | [a, b, c, d], _ => exact ⟨a, b, c, d, rfl⟩
  have h0 := ho 0 (by omega)
  have h1 := ho 1 (by omega)
  have h2 := ho 2 (by omega)
  have h3 := ho 3 (by omega)
  simp only [List.getD_cons_zero, List.getD_cons_succ] at h0 h1 h2 h3
  simp [nrm, bkOf, h0, h1, h2, h3]
theorem nx_old {v h : Int} {bs : List Bk} (h4 : bs.length = 4) (ho : ∀ i, i < 4 → (bs.getD i bk0).ver < v) : nxBal h v bs = 4 + h := by
  obtain ⟨a, b, c, d, rfl⟩ : ∃ a b c d, bs = [a, b, c, d] := by
    match bs, h4 with
    | [a, b, c, d], _ => exact ⟨a, b, c, d, rfl⟩
  have h0 := ho 0 (by omega)
  have h1 := ho 1 (by omega)
  have h2 := ho 2 (by omega)
  have h3 := ho 3 (by omega)
  simp only [List.getD_cons_zero, List.getD_cons_succ] at h0 h1 h2 h3
  simp [nxBal, nxMax, bkOf, h0, h1, h2, h3]
theorem alone1 (x : Int) : ((pRun 13 ⟨0, 1, 1, 4, x, 0, 0, 0⟩ [⟨1, 0, 0, 0⟩, ⟨1, 0, 0, 0⟩, ⟨1, 0, 0, 0⟩, ⟨1, 0, 0, 0⟩]).1.phase = 5 ∧ (pRun 13 ⟨0, 1, 1, 4, x, 0, 0, 0⟩ [⟨1, 0, 0, 0⟩, ⟨1, 0, 0, 0⟩, ⟨1, 0, 0, 0⟩, ⟨1, 0, 0, 0⟩]).1.value = x) ∧ ((pRun 13 ⟨1, 1, 1, 5, x, 0, 0, 0⟩ [⟨1, 0, 0, 0⟩, ⟨1, 0, 0, 0⟩, ⟨1, 0, 0, 0⟩, ⟨1, 0, 0, 0⟩]).1.phase = 5 ∧ (pRun 13 ⟨1, 1, 1, 5, x, 0, 0, 0⟩ [⟨1, 0, 0, 0⟩, ⟨1, 0, 0, 0⟩, ⟨1, 0, 0, 0⟩, ⟨1, 0, 0, 0⟩]).1.value = x) ∧ ((pRun 13 ⟨2, 1, 1, 6, x, 0, 0, 0⟩ [⟨1, 0, 0, 0⟩, ⟨1, 0, 0, 0⟩, ⟨1, 0, 0, 0⟩, ⟨1, 0, 0, 0⟩]).1.phase = 5 ∧ (pRun 13 ⟨2, 1, 1, 6, x, 0, 0, 0⟩ [⟨1, 0, 0, 0⟩, ⟨1, 0, 0, 0⟩, ⟨1, 0, 0, 0⟩, ⟨1, 0, 0, 0⟩]).1.value = x) ∧ ((pRun 13 ⟨3, 1, 1, 7, x, 0, 0, 0⟩ [⟨1, 0, 0, 0⟩, ⟨1, 0, 0, 0⟩, ⟨1, 0, 0, 0⟩, ⟨1, 0, 0, 0⟩]).1.phase = 5 ∧ (pRun 13 ⟨3, 1, 1, 7, x, 0, 0, 0⟩ [⟨1, 0, 0, 0⟩, ⟨1, 0, 0, 0⟩, ⟨1, 0, 0, 0⟩, ⟨1, 0, 0, 0⟩]).1.value = x) :=
  ⟨⟨by kernel_rfl, by kernel_rfl⟩, ⟨by kernel_rfl, by kernel_rfl⟩, ⟨by kernel_rfl, by kernel_rfl⟩, ⟨by kernel_rfl, by kernel_rfl⟩⟩
theorem alone3 (x : Int) : ((pRun 13 ⟨0, 3, 1, 4, x, 0, 0, 0⟩ [⟨3, 0, 0, 0⟩, ⟨3, 0, 0, 0⟩, ⟨3, 0, 0, 0⟩, ⟨3, 0, 0, 0⟩]).1.phase = 5 ∧ (pRun 13 ⟨0, 3, 1, 4, x, 0, 0, 0⟩ [⟨3, 0, 0, 0⟩, ⟨3, 0, 0, 0⟩, ⟨3, 0, 0, 0⟩, ⟨3, 0, 0, 0⟩]).1.value = x) ∧ ((pRun 13 ⟨1, 3, 1, 5, x, 0, 0, 0⟩ [⟨3, 0, 0, 0⟩, ⟨3, 0, 0, 0⟩, ⟨3, 0, 0, 0⟩, ⟨3, 0, 0, 0⟩]).1.phase = 5 ∧ (pRun 13 ⟨1, 3, 1, 5, x, 0, 0, 0⟩ [⟨3, 0, 0, 0⟩, ⟨3, 0, 0, 0⟩, ⟨3, 0, 0, 0⟩, ⟨3, 0, 0, 0⟩]).1.value = x) ∧ ((pRun 13 ⟨2, 3, 1, 6, x, 0, 0, 0⟩ [⟨3, 0, 0, 0⟩, ⟨3, 0, 0, 0⟩, ⟨3, 0, 0, 0⟩, ⟨3, 0, 0, 0⟩]).1.phase = 5 ∧ (pRun 13 ⟨2, 3, 1, 6, x, 0, 0, 0⟩ [⟨3, 0, 0, 0⟩, ⟨3, 0, 0, 0⟩, ⟨3, 0, 0, 0⟩, ⟨3, 0, 0, 0⟩]).1.value = x) ∧ ((pRun 13 ⟨3, 3, 1, 7, x, 0, 0, 0⟩ [⟨3, 0, 0, 0⟩, ⟨3, 0, 0, 0⟩, ⟨3, 0, 0, 0⟩, ⟨3, 0, 0, 0⟩]).1.phase = 5 ∧ (pRun 13 ⟨3, 3, 1, 7, x, 0, 0, 0⟩ [⟨3, 0, 0, 0⟩, ⟨3, 0, 0, 0⟩, ⟨3, 0, 0, 0⟩, ⟨3, 0, 0, 0⟩]).1.value = x) :=
  ⟨⟨by kernel_rfl, by kernel_rfl⟩, ⟨by kernel_rfl, by kernel_rfl⟩, ⟨by kernel_rfl, by kernel_rfl⟩, ⟨by kernel_rfl, by kernel_rfl⟩⟩
theorem alone_any {v h x b : Int} (hv : v = 1 ∨ v = 3) (h0 : 0 ≤ h) (h3 : h ≤ 3) (hb : b = 4 + h) : (pRun 13 ⟨h, v, 1, b, x, 0, 0, 0⟩ [⟨v, 0, 0, 0⟩, ⟨v, 0, 0, 0⟩, ⟨v, 0, 0, 0⟩, ⟨v, 0, 0, 0⟩]).1.phase = 5 ∧ (pRun 13 ⟨h, v, 1, b, x, 0, 0, 0⟩ [⟨v, 0, 0, 0⟩, ⟨v, 0, 0, 0⟩, ⟨v, 0, 0, 0⟩, ⟨v, 0, 0, 0⟩]).1.value = x := by
  rcases (show (h = 0 ∧ b = 4) ∨ (h = 1 ∧ b = 5) ∨ (h = 2 ∧ b = 6) ∨ (h = 3 ∧ b = 7) by omega) with ⟨rfl, rfl⟩ | ⟨rfl, rfl⟩ | ⟨rfl, rfl⟩ | ⟨rfl, rfl⟩ <;> rcases hv with rfl | rfl
  · exact (alone1 x).1
  · exact (alone3 x).1
  · exact (alone1 x).2.1
  · exact (alone3 x).2.1
  · exact (alone1 x).2.2.1
  · exact (alone3 x).2.2.1
  · exact (alone1 x).2.2.2
  · exact (alone3 x).2.2.2
theorem el_alone {ss : List ByteArray} {h o g v : Int} {R : Ans} (hR : elA ss [] h o g = R) (hd : diskB ss [] = true) (h0 : 0 ≤ h) (h3 : h ≤ 3) (o0 : 0 ≤ o) (o3 : o ≤ 3) (g1 : 1 ≤ g) (g2 : g ≤ 1000000) (hv : v = 1 ∨ v = 3) (hL : (ldOf ss [] h).ver + 1 = v) (ho : ∀ i, i < 4 → ((bksOf ss [] h).getD i bk0).ver < v) : R.c = 0 ∧ R.l = ⟨v, o, g⟩ := by
  have e1 : (inB o 0 3 && inB g 1 1000000) = true := by simp [inB]; omega
  have e := le_nil hd h0 h3
  have hn := nx_old (h := h) (v := v) (bs := bksOf ss [] h) rfl ho
  have e2 : elMany ss [] h = false := by
    rw [elMany, hL, hn, decide_eq_false (by omega), decide_eq_false (by omega)]; rfl
  subst hR
  rw [elA_end e e1 e2]
  have k := elFrom_ok (o := o) (g := g) e e1 e2
  have hq : elTry ss [] h o g = ⟨h, v, 1, 4 + h, 1024 * g + o, 0, 0, 0⟩ := by rw [elTry, hL, hn]
  have hr := congrArg Prod.fst (run_p 13 (elFrom ss [] h o g))
  have hr' : (elEnd (elFrom ss [] h o g)).p = (pRun 13 (elTry ss [] h o g) (bksOf ss [] h)).1 := hr
  have kp : pxB (elTry ss [] h o g) = true := k.p
  rw [hq] at hr' kp
  rw [← pRun_nrm (v := v) 13 _ (bksOf ss [] h) kp (bksOf_right ss [] h) rfl, nrm_old rfl ho] at hr'
  obtain ⟨a1, a2⟩ := alone_any (v := v) (h := h) (x := 1024 * g + o) (b := 4 + h) hv h0 h3 rfl
  rw [← hr'] at a1 a2
  have hl : leadOf ((ldOf ss [] h).ver + 1) (elEnd (elFrom ss [] h o g)).p.value = ⟨v, o, g⟩ := by
    rw [hL, a2, leadOf, Ld.eq_iff]
    refine ⟨rfl, ?_, ?_⟩
    · show (1024 * g + o) % 1024 = o; omega
    · show (1024 * g + o) / 1024 = g; omega
  have hb : ldB ⟨v, o, g⟩ = true := ldB_iff.2 ⟨⟨by show 0 ≤ v; omega, by show v ≤ 1000000; omega⟩, .inr ⟨by show 0 < v; omega, ⟨o0, o3⟩, g1, g2⟩⟩
  unfold elLast
  rw [hl, if_pos ⟨a1, hb⟩]
  exact ⟨rfl, rfl⟩

theorem bk_enc {x : Bk} (hx : bkB x = true) : bdK (encB x) = x := by
  obtain ⟨h1, h2, h3, h4, _⟩ := bkB_iff.1 hx
  have ha : allB [x.ver, x.mbal, x.bal, x.inp] = true := by simp [allB, numB, inB]; omega
  have ho : openB (encB x) 5 = true := openB_in.2 ⟨rec_seal ⟨by omega, by omega⟩ ha (by simp), seal_kind ⟨by omega, by omega⟩ (by simp)⟩
  have hl : bdL (encB x) = [x.ver, x.mbal, x.bal, x.inp] := by rw [bdL, openL_yes ho, encB, body_seal, un_pack ha]
  have hb : bdB (encB x) = true := by rw [bdB_at ho hl]; exact hx
  rw [bd_yes hb hl]
def VB (v : Int) (ss : List ByteArray) : Prop := ss.length = 64 ∧ ∀ j : Nat, j < 4 → (bdK (ss.getD (1 + j) ⟨#[]⟩)).ver ≤ v
theorem VB.set {v : Int} {ss : List ByteArray} (k : VB v ss) (i : Nat) (t : ByteArray) (h : (1 ≤ i ∧ i ≤ 4) → (bdK t).ver ≤ v) : VB v (ss.set i t) := by
  refine ⟨by simp [k.1], fun j hj => ?_⟩
  by_cases e : i = 1 + j
  · subst e
    have : (ss.set (1 + j) t).getD (1 + j) ⟨#[]⟩ = t := by
      have := k.1
      simp [show 1 + j < ss.length by omega]
    rw [this]
    exact h (by omega)
  · have : (ss.set i t).getD (1 + j) ⟨#[]⟩ = ss.getD (1 + j) ⟨#[]⟩ := by simp [e]
    rw [this]
    exact k.2 j hj
theorem VB.step {v h : Int} {s : Est} (k : VB v s.ss) (kn : s.xs = []) (ko : ElOK h s) (hv : s.p.ver = v) (h5 : s.p.phase < 5) : VB v (elStep s).ss := by
  unfold elStep
  split
  · rename_i hw
    obtain ⟨hh, _⟩ := px_parts ko.p
    have q := px_right ko.p ko.b
    show VB v (wS s.ss s.xs s.p.host (1 + s.p.host) (encB (ownK s.p (pxStepP s.p s.bs).2)))
    rw [kn, wS_nil]
    refine k.set _ _ (fun _ => ?_)
    have hr : bkB (ownK s.p (pxStepP s.p s.bs).2) = true := own_right ko.p q.2
    rw [bk_enc hr]
    rcases step_kinds (bs := s.bs) ko.p h5 with ⟨e, hq⟩ | ⟨e, c, hq⟩ | ⟨e, c, hq⟩
    · rw [hq] at hw
      rcases e with e | e <;> simp [wroteB, e] at hw
    · rw [hq] at hw
      simp [wroteB] at hw
    · rw [hq]
      show (ownK s.p (s.bs.set s.p.host.toNat (pxW2 s.p (pxOwn s.p s.bs)))).ver ≤ v
      rw [own_set (bksB_parts ko.b).1 hh, w2_ver, hv]
      omega
  · exact k
theorem VB.run {v h : Int} : ∀ (n : Nat) (s : Est), VB v s.ss → s.xs = [] → ElOK h s → s.p.ver = v → VB v (elRun n s).ss
  | 0, _, k, _, _, _ => k
  | n + 1, s, k, kn, ko, hv => by
    rw [elRun]
    split
    · rename_i h5
      refine VB.run n _ (k.step kn ko hv h5) (step_nil kn) (ko.step h5) ?_
      rw [(step_p s).1, step_ver ko.p h5, hv]
    · exact k
theorem VB.elect {ss : List ByteArray} {h o g v : Int} {R : Ans} (hR : elA ss [] h o g = R) (k : VB 0 ss) (hd : diskB ss [] = true) (h0 : 0 ≤ h) (h3 : h ≤ 3) (e1 : (inB o 0 3 && inB g 1 1000000) = true) (hL : (ldOf ss [] h).ver + 1 = v) (hv : 0 ≤ v) (hc : R.c = 0) : VB v R.ss := by
  subst hR
  have e := le_nil hd h0 h3
  have k' : VB v ss := ⟨k.1, fun j hj => by have := k.2 j hj; omega⟩
  cases e2 : elMany ss [] h with
  | true => rw [elA_many e e1 e2]; exact k'
  | false =>
    rw [elA_end e e1 e2]
    have kr : VB v (elEnd (elFrom ss [] h o g)).ss := VB.run 13 _ k' rfl (elFrom_ok e e1 e2) hL
    have kn : (elEnd (elFrom ss [] h o g)).xs = [] := run_nil 13 _ rfl
    unfold elLast
    split
    · show VB v (wS _ _ h 0 _)
      rw [kn, wS_nil]
      exact kr.set _ _ (fun hq => by have : (0 : Int).toNat = 0 := rfl; omega)
    · exact kr
theorem VB.bks {v : Int} {ss : List ByteArray} (k : VB v ss) (h : Int) : ∀ i, i < 4 → ((bksOf ss [] h).getD i bk0).ver ≤ v := by
  intro i hi
  have := k.2 i hi
  rcases (show i = 0 ∨ i = 1 ∨ i = 2 ∨ i = 3 by omega) with rfl | rfl | rfl | rfl
  all_goals
    simp only [bksOf, List.getD_cons_zero, List.getD_cons_succ, read_nil]
    exact this
theorem no_open (k : Int) : openB (⟨#[]⟩ : ByteArray) k = false := openB_no (fun h => by have := h.1; revert this; decide)
theorem noSs_right : diskB noSs [] = true := diskB_parts.2 ⟨⟨noSs_len, fun s hs => by rw [List.eq_of_mem_replicate hs]; decide⟩, by simp, fun x hx => by cases hx⟩
theorem noSs_get (i : Nat) : noSs.getD i ⟨#[]⟩ = ⟨#[]⟩ := by
  rw [List.getD_eq_getElem?_getD, noSs, List.getElem?_replicate]
  split <;> rfl
theorem noSs_VB : VB 0 noSs := ⟨noSs_len, fun j hj => by rw [noSs_get, bd_no (bdB_open (no_open 5))]; decide⟩
theorem noSs_ld (h : Int) : ldOf noSs [] h = ldN 0 := by rw [ldOf, read_nil, noSs_get, ld_no (ldD_open (no_open 6))]

end Go.Proofs.YtefnapcegeojoaaGreatDoor

namespace Go.Proofs.YtefnapcegeojoaaGreatDoor
open Go.RowKit
set_option linter.unusedVariables false
set_option maxRecDepth 100000

theorem rs_held {ss : List ByteArray} {o : Int} {X : Ld} (hd : diskB ss [] = true) (o0 : 0 ≤ o) (o3 : o ≤ 3) (hX : ldB X = true) (hL : ldOf ss [] o = X) (hn : X.own ≠ o) : rsA ss [] o X = ⟨ss, [], X, 9⟩ := by
  rw [rsA, if_pos (le_nil hd o0 o3), if_pos hX, if_pos (sameL_iff.2 hL), if_neg hn]
theorem rs_gone {ss : List ByteArray} {h : Int} {X : Ld} (hd : diskB ss [] = true) (h0 : 0 ≤ h) (h3 : h ≤ 3) (hX : ldB X = true) (hL : ldOf ss [] h = X) (hn : X.own = h) (hv : X.ver ≠ 1000000) : rsA ss [] h X = ⟨wS ss [] h 0 (encL (ldN (X.ver + 1))), [], ldN (X.ver + 1), 0⟩ := by
  rw [rsA, if_pos (le_nil hd h0 h3), if_pos hX, if_pos (sameL_iff.2 hL), if_pos hn, if_neg hv, wX_nil]
theorem rs_stale {ss : List ByteArray} {h : Int} {X Y : Ld} (hd : diskB ss [] = true) (h0 : 0 ≤ h) (h3 : h ≤ 3) (hX : ldB X = true) (hL : ldOf ss [] h = Y) (hn : Y ≠ X) : rsA ss [] h X = ⟨ss, [], Y, 13⟩ := by
  rw [rsA, if_pos (le_nil hd h0 h3), if_pos hX, if_neg (fun k => hn (hL.symm.trans (sameL_iff.1 k))), hL]
theorem rel_plain {h o g : Int} (h0 : 0 ≤ h) (h3 : h ≤ 3) (o0 : 0 ≤ o) (o3 : o ≤ 3) (hn : h ≠ o) (g1 : 1 ≤ g) (g2 : g ≤ 9) : ∃ (S1 S2 S3 : List ByteArray) (M1 M2 M3 : Ld),
    (elA noSs [] h h g = ⟨S1, [], M1, 0⟩ ∧ rsA S1 [] o M1 = ⟨S1, [], M1, 9⟩ ∧ rsA S1 [] h M1 = ⟨S2, [], M2, 0⟩ ∧ rsA S2 [] h M1 = ⟨S2, [], M2, 13⟩ ∧ elA S2 [] o o 5 = ⟨S3, [], M3, 0⟩) ∧ (diskB S1 [] = true ∧ diskB S2 [] = true ∧ diskB S3 [] = true) ∧
    (M1.own = h ∧ M2.own = -1 ∧ M2.ver = M1.ver + 1 ∧ M3.own = o ∧ M3.ver = M1.ver + 2 ∧ M1.ver = 1) ∧ (hlB S2 [] h M1.gen = false ∧ hostC S2 [] h = 0) ∧ (hlB S3 [] o 5 = true ∧ hostC S3 [] o = 0) := by
  obtain ⟨R1, hR1⟩ : ∃ R, elA noSs [] h h g = R := ⟨_, rfl⟩
  have e1 : (inB h 0 3 && inB g 1 1000000) = true := by simp [inB]; omega
  obtain ⟨_, x1, d1, f1⟩ := el_plain hR1 noSs_right h0 h3 e1
  have hv1 : (ldOf noSs [] h).ver + 1 = 1 := by rw [noSs_ld]; rfl
  obtain ⟨c1, l1⟩ := el_alone hR1 noSs_right h0 h3 h0 h3 g1 (by omega) (.inl rfl) hv1 (fun i hi => by have := noSs_VB.bks h i hi; omega)
  obtain ⟨_, b1, _, _, r1⟩ := f1 c1
  have vb1 : VB 1 R1.ss := VB.elect hR1 noSs_VB noSs_right h0 h3 e1 hv1 (by decide) c1
  have hA1 : elA noSs [] h h g = ⟨R1.ss, [], R1.l, 0⟩ := by rw [hR1]; cases R1; simp only at x1 c1; rw [x1, c1]
  have o1 : R1.l.own = h := by rw [l1]
  have w1 : R1.l.ver = 1 := by rw [l1]
  have hB := rs_held d1 o0 o3 b1 (r1 o) (by rw [o1]; exact hn)
  have hC := rs_gone d1 h0 h3 b1 (r1 h) o1 (by rw [w1]; decide)
  have bN : ldB (ldN (R1.l.ver + 1)) = true := ldB_N _ (by omega) (by omega)
  obtain ⟨S2, hS2⟩ : ∃ S, wS R1.ss [] h 0 (encL (ldN (R1.l.ver + 1))) = S := ⟨_, rfl⟩
  have d2 : diskB S2 [] = true := by
    have := w_right (t := encL (ldN (R1.l.ver + 1))) (h := h) (a := 0) d1 (by simp) h0 h3 (by decide) (by decide) (by rw [encL_size]; decide)
    rw [hS2, wX_nil] at this
    exact this
  have r2 : ∀ k, ldOf S2 [] k = ldN (R1.l.ver + 1) := fun k => by rw [← hS2]; exact lead_read h k (diskB_len d1).1 bN
  have vb2 : VB 1 S2 := by
    rw [← hS2, wS_nil]
    exact vb1.set _ _ (fun hq => by have : (0 : Int).toNat = 0 := rfl; omega)
  rw [hS2] at hC
  have hD := rs_stale d2 h0 h3 b1 (r2 h) (fun k => by have := congrArg Ld.own k; rw [o1] at this; have e : (ldN (R1.l.ver + 1)).own = -1 := rfl; omega)
  obtain ⟨R3, hR3⟩ : ∃ R, elA S2 [] o o 5 = R := ⟨_, rfl⟩
  obtain ⟨_, x3, d3, f3⟩ := el_plain hR3 d2 o0 o3 (by simp [inB]; omega)
  obtain ⟨c3, l3⟩ := el_alone hR3 d2 o0 o3 o0 o3 (show (1 : Int) ≤ 5 by decide) (by decide) (.inr rfl) (by rw [r2 o]; show R1.l.ver + 1 + 1 = 3; omega) (fun i hi => by have := vb2.bks o i hi; omega)
  obtain ⟨_, _, _, _, r3⟩ := f3 c3
  have hA3 : elA S2 [] o o 5 = ⟨R3.ss, [], R3.l, 0⟩ := by rw [hR3]; cases R3; simp only at x3 c3; rw [x3, c3]
  have o3' : R3.l.own = o := by rw [l3]
  refine ⟨R1.ss, S2, R3.ss, R1.l, ldN (R1.l.ver + 1), R3.l, ⟨hA1, hB, hC, hD, hA3⟩, ⟨d1, d2, d3⟩, ⟨o1, rfl, rfl, o3', ?_, w1⟩, ?_, ?_⟩
  · rw [l3]; show (3 : Int) = R1.l.ver + 2; omega
  · exact hl_no d2 h0 h3 (r2 h) (by show (-1 : Int) ≠ h; omega)
  · have k := hl_yes d3 o0 o3 (r3 o) o3'
    have e : R3.l.gen = 5 := by rw [l3]
    rw [e] at k
    exact k

set_option maxHeartbeats 3200000 in
theorem lawFnRelease (ao : Option Addr) (ca n : Nat) (bo : Option Addr) (cb l : Nat) (w : World) (hn : n ≤ maxLen) (hB : Bs w ao n) (hl : l ≤ maxLen) (hC : Bs w bo l) (hE : ErrW w) :
    Calls Tryz.prog 4 #[.slice ao n ca, .slice bo l cb] w fun e w' => e = .returned (.bool true) ∧ Below w.heap.size w w' := by
  have HE := hide hE
  have HBS := hide hB
  have HCS := hide hC
  clear hE hB hC
  unfold maxLen at hn hl
  by_cases h : 1048576 < n
  · go_enter Tryz.func4, Tryz.ntmps4
    go_wp2
    go_ret
    exact ⟨rfl, Below.refl _ _⟩
  by_cases h2 : 1048576 < l
  · go_enter Tryz.func4, Tryz.ntmps4
    go_wp2
    go_ret
    exact ⟨rfl, Below.refl _ _⟩
  have hn' : n ≤ 1048576 := by omega
  have hl' : l ≤ 1048576 := by omega
  go_enter Tryz.func4, Tryz.ntmps4
  go_wp2_with fail
  refine (at_any ao n ca 0 4 _ hn' (by omega) (by omega) (by omega) (by omega) (unhide HBS)).mono ?_
  rintro e w1 ⟨hh, rfl, hh0, hh1, hb1⟩
  have HB1 := hide hb1
  clear hb1
  have wr0 : IntKind.i64.wrap (hh + 1) = hh + 1 := by rw [IntKind.wrap_i64]; omega
  go_wp2_with fail
  refine (at_any bo l cb 0 3 _ hl' (by omega) (by omega) (by omega) (by omega) ((unhide HCS).below (unhide HB1))).mono ?_
  rintro e w2 ⟨oo, rfl, oo0, oo1, hb2⟩
  have HB2 := hide (fr (unhide HB1) hb2)
  clear hb2
  have wr1 : IntKind.i64.wrap (hh + 1 + oo) = hh + 1 + oo := by rw [IntKind.wrap_i64]; omega
  obtain ⟨o, HO⟩ : ∃ o, Hid (Int.tmod (hh + 1 + oo) 4 = o ∧ (0 ≤ o ∧ o ≤ 3) ∧ hh ≠ o) := ⟨_, hide ⟨rfl, by rw [Int.tmod_eq_emod_of_nonneg (by omega)]; omega, by rw [Int.tmod_eq_emod_of_nonneg (by omega)]; omega⟩⟩
  have wm := (unhide HO).1
  have wo : IntKind.i64.wrap o = o := by have := unhide HO; rw [IntKind.wrap_i64]; omega
  go_wp2_with fail
  refine (newDisk_impl _).mono ?_
  rintro e w3 ⟨gd, rfl, hod, hb3⟩
  have HB3 := hide (fr (unhide HB2) hb3)
  have HS3 : Hid (Ss w3 (some ⟨gd, 0, none⟩) noSs) := hide (by
    have k : OwnD w3 w2.heap.size (some ⟨gd, 0, none⟩) 64 64 none 0 0 noSs [] := hod
    exact k.ss (right_sz noSs_right).2.1)
  clear hod hb3
  go_wp2_with fail
  refine (at_any bo l cb 1 9 _ hl' (by omega) (by omega) (by omega) (by omega) ((unhide HCS).below (unhide HB3))).mono ?_
  rintro e w4 ⟨gg, rfl, gg0, gg1, hb4⟩
  have HB4 := hide (fr (unhide HB3) hb4)
  have HS4 := hide ((unhide HS3).below hb4)
  have E4 : Hid (Dm w w4 [] []) := hide ⟨unhide HB4, fun p hp => (by cases hp), fun p hp => (by cases hp), (unhide HE).below (unhide HB4)⟩
  clear hb4
  have wr2 : IntKind.i64.wrap (1 + gg) = 1 + gg := by rw [IntKind.wrap_i64]; omega
  obtain ⟨S1, S2, S3, M1, M2, M3, ⟨p1, p2, p3, p4, p5⟩, ⟨d1, d2, d3⟩, ⟨f1, f2, f3, f4, f5, f6⟩, f7, f8⟩ := rel_plain (g := 1 + gg) hh0 (by omega) (unhide HO).2.1.1 (unhide HO).2.1.2 (unhide HO).2.2 (by omega) (by omega)
  have HC1 : Hid (∀ (W : World), Ss W (some ⟨gd, 0, none⟩) noSs → ErrW W → Calls Tryz.prog 10 #[.agg #[.slice (some ⟨gd, 0, none⟩) 64 64, .slice none 0 0], .int .i64 hh, .int .i64 hh, .int .i64 (1 + gg)] W fun e w' => ∃ po pa qo qa, e = .returned (.tuple #[.agg #[.slice po S1.length pa, .slice qo 0 qa], lV M1, .int .i64 0]) ∧ Ss w' po S1 ∧ Below W.heap.size W w') := hide (fun W h1 hE => by
    have k := elect_nil ⟨S1, [], M1, 0⟩ (some ⟨gd, 0, none⟩) none 64 0 noSs hh hh (1 + gg) W p1 rfl d1 noSs_right h1 hE
    rw [noSs_len] at k
    exact k)
  have HC2 := hide (fun (ao bo : Option Addr) (ca cb : Nat) (W : World) h1 hE => release_nil ⟨S1, [], M1, 9⟩ ao bo ca cb S1 o M1 W p2 rfl d1 d1 h1 hE)
  have HC3 := hide (fun (ao bo : Option Addr) (ca cb : Nat) (W : World) h1 hE => release_nil ⟨S2, [], M2, 0⟩ ao bo ca cb S1 hh M1 W p3 rfl d2 d1 h1 hE)
  have HC4 := hide (fun (ao bo : Option Addr) (ca cb : Nat) (W : World) h1 hE => release_nil ⟨S2, [], M2, 13⟩ ao bo ca cb S2 hh M1 W p4 rfl d2 d2 h1 hE)
  have HC5 := hide (fun (ao bo : Option Addr) (ca cb : Nat) (W : World) h1 hE => elect_nil ⟨S3, [], M3, 0⟩ ao bo ca cb S2 o o 5 W p5 rfl d3 d2 h1 hE)
  have HC6 := hide (fun (ao bo : Option Addr) (ca cb : Nat) (W : World) h1 => release_nilS ⟨S2, [], M2, 0⟩ ao bo ca cb S1 hh M1 W p3 rfl d2 d1 h1)
  have HC7 := hide (fun (ao bo : Option Addr) (ca cb : Nat) (W : World) h1 hE => holds_nil ao bo ca cb S2 hh M1.gen false W f7 d2 h1 hE)
  have HC8 := hide (fun (ao bo : Option Addr) (ca cb : Nat) (W : World) h1 hE => holds_nil ao bo ca cb S3 o 5 true W f8 d3 h1 hE)
  have HLS : Hid (S2.length ≤ maxLen) := hide (right_sz d2).1.1
  have z1 : (M1.own == hh) = true := by simp [f1]
  have z2 : (M2.own == -1) = true := by simp [f2]
  have z3 : (M2.ver == M1.ver + 1) = true := by simp [f3]
  have z4 : (M3.own == o) = true := by simp [f4]
  have z5 : (M3.ver == M1.ver + 2) = true := by simp [f5]
  have wr3 : IntKind.i64.wrap (M1.ver + 1) = M1.ver + 1 := by rw [IntKind.wrap_i64]; omega
  have wr4 : IntKind.i64.wrap (M1.ver + 2) = M1.ver + 2 := by rw [IntKind.wrap_i64]; omega
  clear p1 p2 p3 p4 p5 d1 d2 d3 f1 f2 f3 f4 f5 f6 f7 f8
  -- elected
  go_wp2_with fail
  refine (unhide HC1 _ (unhide HS4) (unhide E4).e).mono ?_
  rintro e w5 ⟨q5, qa5, r5, ra5, rfl, hs5, hb5⟩
  have E5 := hide (((unhide E4).next hb5).both hs5 qa5 r5 ra5 M1)
  clear hs5 hb5 E4 HS4 HS3 HB4 HB3 HB2 HB1
  go_upto_region 6 with fail
  revert E5
  generalize (w5.alloc (.cells #[.slice q5 S1.length qa5, .slice r5 0 ra5] 26)).alloc (.cells #[.int .i64 M1.ver, .int .i64 M1.own, .int .i64 M1.gen] 30) = W5
  generalize w5.heap.size + 1 = CM
  generalize w5.heap.size = CX
  intro E5
  obtain ⟨a0, ca0, b0, cb0, hv0, hs0⟩ := (unhide E5).d (CX, S1) (by simp)
  obtain ⟨d0, d1⟩ := hv0.cells
  have HS0 := hide hs0
  clear hv0 hs0
  obtain ⟨t0, t1, t2⟩ := ((unhide E5).t (CM, M1) (by simp)).cells
  go_wp2_with fail
  refine (unhide HC2 _ _ _ _ _ (unhide HS0) (unhide E5).e).mono ?_
  rintro e w6 ⟨q6, qa6, r6, ra6, rfl, hs6, hb6⟩
  have E6 := hide (((unhide E5).next hb6).both hs6 qa6 r6 ra6 M1)
  clear hs6 hb6 d0 d1 HS0 t0 t1 t2 E5
  go_upto_region 7 with fail
  revert E6
  generalize (w6.alloc (.cells #[.slice q6 S1.length qa6, .slice r6 0 ra6] 26)).alloc (.cells #[.int .i64 M1.ver, .int .i64 M1.own, .int .i64 M1.gen] 30) = W6
  generalize w6.heap.size + 1 = CB
  generalize w6.heap.size = CA
  intro E6
  obtain ⟨a0, ca0, b0, cb0, hv0, hs0⟩ := (unhide E6).d (CX, S1) (by simp)
  obtain ⟨d0, d1⟩ := hv0.cells
  have HS0 := hide hs0
  clear hv0 hs0
  obtain ⟨t0, t1, t2⟩ := ((unhide E6).t (CM, M1) (by simp)).cells
  go_wp2_with fail
  refine (unhide HC3 _ _ _ _ _ (unhide HS0) (unhide E6).e).mono ?_
  rintro e w7 ⟨q7, qa7, r7, ra7, rfl, hs7, hb7⟩
  have E7 := hide (((unhide E6).next hb7).both hs7 qa7 r7 ra7 M2)
  clear hs7 hb7 d0 d1 HS0 t0 t1 t2 E6
  go_upto_region 8 with fail
  revert E7
  generalize (w7.alloc (.cells #[.slice q7 S2.length qa7, .slice r7 0 ra7] 26)).alloc (.cells #[.int .i64 M2.ver, .int .i64 M2.own, .int .i64 M2.gen] 30) = W7
  generalize w7.heap.size + 1 = CF
  generalize w7.heap.size = CY
  intro E7
  obtain ⟨a0, ca0, b0, cb0, hv0, hs0⟩ := (unhide E7).d (CY, S2) (by simp)
  obtain ⟨d0, d1⟩ := hv0.cells
  have HS0 := hide hs0
  clear hv0 hs0
  obtain ⟨t0, t1, t2⟩ := ((unhide E7).t (CM, M1) (by simp)).cells
  go_wp2_with fail
  refine (unhide HC4 _ _ _ _ _ (unhide HS0) (unhide E7).e).mono ?_
  rintro e w8 ⟨q8, qa8, r8, ra8, rfl, hs8, hb8⟩
  have E8 := hide (((unhide E7).next hb8).both hs8 qa8 r8 ra8 M2)
  clear hs8 hb8 d0 d1 HS0 t0 t1 t2 E7
  go_upto_region 9 with fail
  revert E8
  generalize (w8.alloc (.cells #[.slice q8 S2.length qa8, .slice r8 0 ra8] 26)).alloc (.cells #[.int .i64 M2.ver, .int .i64 M2.own, .int .i64 M2.gen] 30) = W8
  generalize w8.heap.size + 1 = CD
  generalize w8.heap.size = CC
  intro E8
  obtain ⟨a0, ca0, b0, cb0, hv0, hs0⟩ := (unhide E8).d (CY, S2) (by simp)
  obtain ⟨d0, d1⟩ := hv0.cells
  have HS0 := hide hs0
  clear hv0 hs0
  go_wp2_with fail
  refine (unhide HC5 _ _ _ _ _ (unhide HS0) (unhide E8).e).mono ?_
  rintro e w9 ⟨q9, qa9, r9, ra9, rfl, hs9, hb9⟩
  have E9 := hide (((unhide E8).next hb9).both hs9 qa9 r9 ra9 M3)
  clear hs9 hb9 d0 d1 HS0 E8
  go_upto_region 10 with fail
  revert E9
  generalize (w9.alloc (.cells #[.slice q9 S3.length qa9, .slice r9 0 ra9] 26)).alloc (.cells #[.int .i64 M3.ver, .int .i64 M3.own, .int .i64 M3.gen] 30) = W9
  generalize w9.heap.size + 1 = CN
  generalize w9.heap.size = CZ
  intro E9
  obtain ⟨a0, ca0, b0, cb0, hv0, hs0⟩ := (unhide E9).d (CY, S2) (by simp)
  obtain ⟨d0, d1⟩ := hv0.cells
  have HS0 := hide hs0
  clear hv0 hs0
  obtain ⟨t0, t1, t2⟩ := ((unhide E9).t (CM, M1) (by simp)).cells
  go_wp2_with fail
  refine (unhide HC7 _ _ _ _ _ (unhide HS0) (unhide E9).e).mono ?_
  rintro e w10 ⟨rfl, hb10⟩
  have E10 := hide ((unhide E9).next hb10)
  clear hb10 d0 d1 HS0 t0 t1 t2 E9
  obtain ⟨a0, ca0, b0, cb0, hv0, hs0⟩ := (unhide E10).d (CZ, S3) (by simp)
  obtain ⟨d0, d1⟩ := hv0.cells
  have HS0 := hide hs0
  clear hv0 hs0
  go_wp2_with fail
  refine (unhide HC8 _ _ _ _ _ (unhide HS0) (unhide E10).e).mono ?_
  rintro e w11 ⟨rfl, hb11⟩
  have E11 := hide ((unhide E10).next hb11)
  clear hb11 d0 d1 HS0 E10
  obtain ⟨a0, ca0, b0, cb0, hv0, hs0⟩ := (unhide E11).d (CX, S1) (by simp)
  obtain ⟨d0, d1⟩ := hv0.cells
  have HS0 := hide hs0
  clear hv0 hs0
  obtain ⟨t0, t1, t2⟩ := ((unhide E11).t (CM, M1) (by simp)).cells
  go_wp2_with fail
  refine (unhide HC6 _ _ _ _ _ (unhide HS0)).mono ?_
  rintro e w12 ⟨q12, qa12, r12, ra12, rfl, hs12, hb12⟩
  have E12o := hide ((unhide E11).next hb12)
  have E12 := hide ((unhide E12o).both hs12 qa12 r12 ra12 M2)
  clear d0 d1 HS0 t0 t1 t2 E11
  have k1 := (unhide E12o).t (CM, M1) (by simp)
  have k2 := (unhide E12o).t (CF, M2) (by simp)
  have k3 := (unhide E12o).t (CN, M3) (by simp)
  obtain ⟨t0, t1, t2⟩ := k1.cells
  obtain ⟨u0, u1, u2⟩ := k2.cells
  obtain ⟨v0, v1, v2⟩ := k3.cells
  have l1 := k1.lt
  have l2 := k2.lt
  have l3 := k3.lt
  obtain ⟨a0, ca0, b0, cb0, hv0, hs0⟩ := (unhide E12o).d (CY, S2) (by simp)
  obtain ⟨d0, d1⟩ := hv0.cells
  have l4 := hv0.lt
  have HA12 := hide (Joins.below_alloc2 w12 (.cells #[.slice q12 S2.length qa12, .slice r12 0 ra12] 26) (.cells #[.int .i64 M2.ver, .int .i64 M2.own, .int .i64 M2.gen] 30))
  have HS0 := hide (hs0.below (unhide HA12))
  have HS1 := hide (hs12.below (unhide HA12))
  clear k1 k2 k3 hv0 hs0 hs12 hb12
  go_wp2_with fail
  refine (sameDisk_same _ _ _ _ _ _ _ _ S2 [] _ (unhide HLS) (by simp) (unhide HS0) (iosNil _ _) (unhide HS1) (iosNil _ _)).mono ?_
  rintro e wz ⟨rfl, hbz⟩
  have HK := hide (fr (unhide E12).below hbz)
  clear hbz
  go_wp2
  go_ret
  exact ⟨rfl, unhide HK⟩

end Go.Proofs.YtefnapcegeojoaaGreatDoor
