import Derived.Test.YtjmianalknnekabGreatDoorRows
import Derived.Test.YtjmianalknnekabGreatDoorPart1
import Derived.Test.YtjmianalknnekabGreatDoorPart8
import Derived.Test.YtjmianalknnekabGreatDoorPart3
import Derived.Test.YtjmianalknnekabGreatDoorPart4
import Derived.Test.YtjmianalknnekabGreatDoorPart12
import Derived.Test.YtjmianalknnekabGreatDoorPart17
import Derived.Test.YtjmianalknnekabGreatDoorPart6
import Derived.Test.YtjmianalknnekabGreatDoorPart9
import Derived.Test.YtjmianalknnekabGreatDoorPart13
import Derived.WalkKit
import Derived.WalkSpells
import Derived.KernelRfl
import Derived.Deep.MidRow
import Derived.WalkMore
import Derived.Test.YtjmianalknnekabGreatDoorPart14
import Derived.Deep.RegionWith
import Derived.Deep.RegionHeld3
import Derived.Deep.CutRange
import Derived.Test.YtjmianalknnekabGreatDoorPart2
import Derived.Test.YtjmianalknnekabGreatDoorPart16
import Derived.Test.YtjmianalknnekabGreatDoorPart10
import Derived.Lib.SmallJoins
import Derived.Test.YtjmianalknnekabGreatDoorPaxP

/- Contracts of spec's l06Ask, l06Blocks. -/
namespace Go.Proofs.YtjmianalknnekabGreatDoor
open Go.RowKit
set_option linter.unusedVariables false
set_option maxRecDepth 100000

set_option maxHeartbeats 1600000 in
theorem l06Ask_any (ao bo : Option Addr) (ca cb : Nat) (ss : List ByteArray) (xs : List Wr) (h : Int) (w : World) (hl : ss.length ≤ maxLen) (hm : xs.length ≤ maxLen) (h1 : Ss w ao ss) (h2 : Ios w bo xs) :
    Calls Tryz.prog 15 #[.agg #[.slice ao ss.length ca, .slice bo xs.length cb], .int .i64 h] w fun e w' => e = .returned (.int .i64 (leC ss xs h)) ∧ Below w.heap.size w w' := by
  have HA := hide (Joins.below_alloc1 w (.cells #[.slice ao ss.length ca, .slice bo xs.length cb] 31))
  have H1 := hide (h1.below (unhide HA))
  have H2 := hide (h2.below (unhide HA))
  have HV := hide (VarD.new w (.slice ao ss.length ca) (.slice bo xs.length cb))
  have HL := hide hl
  have HM := hide hm
  clear h1 h2 hl hm
  go_enter Tryz.func15, Tryz.ntmps15
  go_wp2_with fail
  refine (l01Ask_any _ _ _ _ ss xs h 0 _ (unhide HL) (unhide HM) (unhide H1) (unhide H2)).mono ?_
  rintro e w1 ⟨rfl, hb1⟩
  have HB1 := hide (fr (unhide HA) hb1)
  obtain ⟨hc0, hc1⟩ := ((unhide HV).below hb1).cells
  clear hb1
  rw [ask_zero]
  by_cases e0 : hostC ss xs h = 0
  · have hb : (hostC ss xs h != 0) = false := by simp [e0]
    by_cases e2 : xs.length = 200
    · have HX := hide (leC_full e0 e2)
      have hfb : ((xs.length : Int) == 200) = true := by simp [e2]
      clear e2
      go_wp2
      go_ret
      exact ⟨ret_int (unhide HX).symm, unhide HB1⟩
    · have HX := hide (leC_ok e0 e2)
      have hfb : ((xs.length : Int) == 200) = false := by exact beq_eq_false_iff_ne.2 (by omega)
      clear e2
      go_wp2
      go_ret
      exact ⟨ret_int (unhide HX).symm, unhide HB1⟩
  · have hb : (hostC ss xs h != 0) = true := by simp [e0]
    have HX := hide (leC_host e0)
    go_wp2
    go_ret
    exact ⟨ret_int (unhide HX).symm, unhide HB1⟩

theorem infoV : (Tryz.prog.info? 91).map (fun i => (i.zero, i.size, i.bytes)) = some (some (.agg #[.int .i64 0, .int .i64 0, .int .i64 0, .int .i64 0]), 4, 32) := by kernel_rfl
theorem news4 (w : World) (b : Bk) (t : TypeId) : ∀ j u, (bksV [b])[j]? = some u → (w.alloc (.cells #[.int .i64 b.ver, .int .i64 b.mbal, .int .i64 b.bal, .int .i64 b.inp] t)).cell? ((⟨w.heap.size, 0, none⟩ : Addr).add j) = some u := by
  intro j u hj
  have hl : j < 4 := by
    have := (List.getElem?_eq_some_iff.1 hj).1
    simpa [bksV] using this
  rcases (show j = 0 ∨ j = 1 ∨ j = 2 ∨ j = 3 by omega) with rfl | rfl | rfl | rfl <;> simp [bksV] at hj <;> subst hj <;> simp [go_sem, Addr.add]
theorem cell4 (b : Bk) : ∀ u ∈ bksV [b], u.oneCell' = true := by
  intro u hu
  simp [bksV] at hu
  rcases hu with rfl | rfl | rfl | rfl <;> rfl
theorem bksV_app (xs : List Bk) (b : Bk) : bksV (xs ++ [b]) = bksV xs ++ bksV [b] := by simp [bksV]
theorem bksOf_take (ss : List ByteArray) (xs : List Wr) (h : Int) {k : Nat} (hk : k < 4) : (bksOf ss xs h).take (k + 1) = (bksOf ss xs h).take k ++ [bdK (readV ss xs h (1 + (k : Int)))] := by
  rcases (show k = 0 ∨ k = 1 ∨ k = 2 ∨ k = 3 by omega) with rfl | rfl | rfl | rfl <;> rfl
/-- What is between two of its rounds. -/
structure SbI (w wr : World) (D : Nat) (dv dx v : Value) (k : Nat) (l : List Bk) : Prop where
  below : Below w.heap.size w wr
  d : VarD wr D dv dx
  o : OwnR wr w.heap.size 91 4 v k (bksV l)
theorem SbI.next {w wr w' : World} {D k : Nat} {dv dx v : Value} {l : List Bk} (i : SbI w wr D dv dx v k l) (hb : Below wr.heap.size wr w') : SbI w w' D dv dx v k l := ⟨fr i.below hb, i.d.below hb, i.o.below hb⟩
theorem SbI.more {w wr w' : World} {D k g cap : Nat} {dv dx v : Value} {l m : List Bk} (i : SbI w wr D dv dx v k l) (ho : w'.ownsRow w.heap.size 91 4 (.slice (some ⟨g, 0, none⟩) (k + 1) cap) (k + 1) (bksV m)) (hk : Keep (Own v) wr w') : SbI w w' D dv dx (.slice (some ⟨g, 0, none⟩) (k + 1) cap) (k + 1) m :=
  ⟨i.below.trans (hk.below (B := w.heap.size) i.below.size (fun j hj => (i.o.ge j hj).1)), i.d.keep hk (i.o.other i.d (by decide)), .inr ⟨by omega, ho⟩⟩

theorem l01Flush_sure (ao : Option Addr) (ca gg cap B : Nat) (ss : List ByteArray) (xs : List Wr) (h a : Int) (t : ByteArray) (S : List ByteArray) (Y : List Wr) (W : World) (hS : wS ss xs h a t = S) (hX : wX xs h a t = Y) (hP : diskB ss (xs ++ [⟨h, a, t⟩]) = true) (h1 : Ss W ao ss) (hO : W.ownsRow B 50 3 (.slice (some ⟨gg, 0, none⟩) (xs.length + 1) cap) (xs.length + 1) (ioV (xs ++ [⟨h, a, t⟩]))) :
    Calls Tryz.prog 19 #[.agg #[.slice ao ss.length ca, .slice (some ⟨gg, 0, none⟩) (xs.length + 1) cap], .int .i64 h] W fun e w' => ∃ po pa qo qa, e = .returned (.agg #[.slice po ss.length pa, .slice qo Y.length qa]) ∧ OwnD w' W.heap.size po ss.length pa qo Y.length qa S Y ∧ Below W.heap.size W w' := by
  have hn : (xs ++ [(⟨h, a, t⟩ : Wr)]).length = xs.length + 1 := by simp
  exact l01Flush_put ao (some ⟨gg, 0, none⟩) ca cap ss (xs ++ [⟨h, a, t⟩]) h ss.length (xs.length + 1) S Y W rfl hn (show putW ss (ofH h (xs ++ [⟨h, a, t⟩])) = S from hS) (show dropF h (xs ++ [⟨h, a, t⟩]) = Y from hX) hP h1 (ownI (e := 50) (B := B) (cap := cap) (xs := xs ++ [⟨h, a, t⟩]) (by rw [hn]; exact hO) (rightX hP))

end Go.Proofs.YtjmianalknnekabGreatDoor

/- Contract of spec.Release. -/
namespace Go.Proofs.YtjmianalknnekabGreatDoor
open Go.RowKit
set_option linter.unusedVariables false
set_option maxRecDepth 100000

set_option maxHeartbeats 1600000 in
theorem release_spec (R : Ans) (ao bo : Option Addr) (ca cb : Nat) (ss : List ByteArray) (xs : List Wr) (h : Int) (X : Ld) (w : World) (hR : rsA ss xs h X = R) (hl : ss.length ≤ maxLen) (hm : xs.length ≤ maxLen) (h1 : Ss w ao ss) (h2 : Ios w bo xs) :
    Calls Tryz.prog 5 #[.agg #[.slice ao ss.length ca, .slice bo xs.length cb], .int .i64 h, lV X] w fun e w' => Told w w' R e := by
  have HN := hide (tl_new4 w ao bo ca cb ss.length xs.length X)
  have HL := hide hl
  have HM := hide hm
  have H1 := hide h1
  have H2 := hide h2
  have HRR := hide hR
  clear h1 h2 hl hm hR
  go_enter Tryz.func5, Tryz.ntmps5
  go_upto_region 1 with fail
  revert HN
  generalize ((((w.alloc (.cells #[.slice ao ss.length ca, .slice bo xs.length cb] 31)).alloc (.cells #[.int .i64 X.ver, .int .i64 X.own, .int .i64 X.gen] 32)).alloc (.cells #[.slice none 0 0, .slice none 0 0] 31)).alloc (.cells #[.int .i64 0, .int .i64 0, .int .i64 0] 32)) = W0
  intro HN
  have HO : Hid (w.heap.size ≤ w.heap.size + 1 + 1 ∧ w.heap.size ≤ w.heap.size + 1 + 1 + 1 ∧ w.heap.size + 1 + 1 ≠ w.heap.size + 1 + 1 + 1) := hide (by omega)
  have m1 : w.heap.size + 1 + 1 ≠ w.heap.size := by omega
  have m2 : w.heap.size + 1 + 1 + 1 ≠ w.heap.size := by omega
  have m3 : w.heap.size + 1 + 1 ≠ w.heap.size + 1 := by omega
  have m4 : w.heap.size + 1 + 1 + 1 ≠ w.heap.size + 1 := by omega
  generalize w.heap.size + 1 + 1 + 1 = B2 at *
  generalize w.heap.size + 1 + 1 = B1 at *
  generalize w.heap.size + 1 = BX at *
  have m1' := m1.symm
  have m2' := m2.symm
  have m3' := m3.symm
  have m4' := m4.symm
  have HT := hide (unhide HN).1
  have HX := hide (unhide HN).2
  clear HN
  obtain ⟨d0, d1⟩ := (unhide HT).d.cells
  go_wp2_with fail
  refine (l06Ask_any _ _ _ _ ss xs h _ (unhide HL) (unhide HM) ((unhide H1).below (unhide HT).below) ((unhide H2).below (unhide HT).below)).mono ?_
  rintro e w1 ⟨rfl, hb1⟩
  have HT1 := hide ((unhide HT).next hb1)
  have HX1 := hide ((unhide HX).below hb1)
  clear hb1 d0 d1
  obtain ⟨c, HC⟩ : ∃ c, Hid (leC ss xs h = c) := ⟨_, hide rfl⟩
  rw [unhide HC]
  have x3 : B1 ≠ B2 := (unhide HO).2.2
  have x3' : B2 ≠ B1 := Ne.symm (unhide HO).2.2
  by_cases hc : c = 0
  · have hb : (c != 0) = false := by simp [hc]
    have HC0 : Hid (leC ss xs h = 0) := hide ((unhide HC).trans hc)
    clear hc
    obtain ⟨t0, t1, t2⟩ := (unhide HX1).cells
    go_wp2_with fail
    refine (leaderOK_spec X _).mono ?_
    rintro e w2 ⟨rfl, hb2⟩
    have HT2 := hide ((unhide HT1).next hb2)
    have HX2 := hide ((unhide HX1).below hb2)
    clear hb2 t0 t1 t2
    by_cases hx : ldB X = true
    · have HLX := hide hx
      obtain ⟨L, HK⟩ : ∃ L, Hid (ldOf ss xs h = L) := ⟨_, hide rfl⟩
      have HD := hide (leC_eq (unhide HC0))
      have HLEN := hide (diskB_len (unhide HD).1)
      have HRD := hide (fun W (hW : Below w.heap.size w W) => l06Read_any ao bo ca cb ss xs h L W (unhide HK) (unhide HD).1 ((unhide H1).below hW) ((unhide H2).below hW))
      have HOW := hide (fun W (hW : Below w.heap.size w W) => l01Own_any ao bo ca cb ss xs W (by have := unhide HLEN; omega) (by have := unhide HLEN; omega) ((unhide H1).below hW) ((unhide H2).below hW))
      have HDO : Hid (R = ⟨(rlDo ⟨ss, xs, ⟨h, 0, 0, 0, 0, 0, 0, 0⟩, []⟩ L X).1.ss, (rlDo ⟨ss, xs, ⟨h, 0, 0, 0, 0, 0, 0, 0⟩, []⟩ L X).1.xs, (rlDo ⟨ss, xs, ⟨h, 0, 0, 0, 0, 0, 0, 0⟩, []⟩ L X).2.1, (rlDo ⟨ss, xs, ⟨h, 0, 0, 0, 0, 0, 0, 0⟩, []⟩ L X).2.2⟩) := hide (by rw [← unhide HRR, ← unhide HK]; exact rs_do _ rfl rfl rfl (unhide HC0) (unhide HLX))
      obtain ⟨r, HR⟩ : ∃ r, Hid (rlDo ⟨ss, xs, ⟨h, 0, 0, 0, 0, 0, 0, 0⟩, []⟩ L X = r) := ⟨_, hide rfl⟩
      rw [unhide HR] at HDO
      obtain ⟨d0, d1⟩ := (unhide HT2).d.cells
      obtain ⟨t0, t1, t2⟩ := (unhide HX2).cells
      go_upto_region 6 with fail
      clear hx
      go_cut [28] from 24 to 28 (fun q wx => ∃ b9 : Bool, q = .bool b9 ∧ Hid (b9 = !sameL L X) ∧ Hid (Below w2.heap.size w2 wx))
      case first =>
        rcases lead_cases L X with ⟨b1, hr⟩ | ⟨b1, b2, hr⟩ | ⟨b1, b2, b3, hr⟩ | ⟨b1, b2, b3, hr⟩
        all_goals
          replace hr := hide hr
          go_region_held3 (fun w' => w'.cell? ⟨w.heap.size, 0, none⟩ = some (.slice ao ss.length ca) ∧ w'.cell? ⟨w.heap.size, 1, none⟩ = some (.slice bo xs.length cb) ∧ w'.cell? ⟨BX, 0, none⟩ = some (.int .i64 X.ver) ∧ w'.cell? ⟨BX, 1, none⟩ = some (.int .i64 X.own) ∧ w'.cell? ⟨BX, 2, none⟩ = some (.int .i64 X.gen)) (go_keep)
            ((go_at_call 17; refine (unhide HRD _ (fr (unhide HT2).below (Below.refl _ w2).drew)).mono ?_; rintro e wA ⟨rfl, hbA⟩; have HBA := hide (fr (Below.refl _ w2).drew hbA); clear hbA; obtain ⟨a0, a1⟩ := ((unhide HT2).d.below (unhide HBA)).cells; obtain ⟨a2, a3, a4⟩ := ((unhide HX2).below (unhide HBA)).cells))
          all_goals
            go_wp2_with fail
            go_meet
            exact ⟨_, rfl, hide (by rw [unhide hr]; rfl), HBA⟩
      case rest =>
        obtain ⟨b9, rfl, HB9, HBA⟩ := hcut
        rename World => W3
        have HT3 := hide ((unhide HT2).next (unhide HBA))
        have HX3 := hide ((unhide HX2).below (unhide HBA))
        clear d0 d1 t0 t1 t2
        obtain ⟨d0, d1⟩ := (unhide HT3).d.cells
        obtain ⟨t0, t1, t2⟩ := (unhide HX3).cells
        by_cases hs : sameL L X = true
        · have HLXE : Hid (L = X) := hide (sameL_iff.1 hs)
          obtain rfl : b9 = false := by rw [unhide HB9, hs]; rfl
          clear HB9
          by_cases ho : X.own = h
          · have hob : (X.own != h) = false := by simp [ho]
            by_cases hv : X.ver = 1000000
            · have hvb : (X.ver == 1000000) = true := by simp [hv]
              have HQ : Hid (R = ⟨ss, xs, X, 6⟩) := hide (by rw [unhide HDO, ← unhide HR, rlDo, if_pos hs, if_pos (show X.own = _ from ho), if_pos hv]; rw [unhide HLXE])
              clear ho hv
              go_wp2_with fail
              go_region_held3 (fun w' => w'.cell? ⟨w.heap.size, 0, none⟩ = some (.slice ao ss.length ca) ∧ w'.cell? ⟨w.heap.size, 1, none⟩ = some (.slice bo xs.length cb) ∧ w'.cell? ⟨BX, 0, none⟩ = some (.int .i64 X.ver) ∧ w'.cell? ⟨BX, 1, none⟩ = some (.int .i64 X.own) ∧ w'.cell? ⟨BX, 2, none⟩ = some (.int .i64 X.gen)) (go_keep)
                ((go_at_call 18; refine (unhide HOW _ (fr (unhide HT3).below (Below.refl _ W3).drew)).mono ?_; rintro e wA ⟨po, pa, qo, qa, rfl, hoA, hbA⟩; have HBA := hide (fr (Below.refl _ W3).drew hbA); have HOA := hide (hoA.base (B' := w.heap.size) (unhide HT3).below.size); have HTA := hide ((unhide HT3).next (unhide HBA)); clear hoA hbA; obtain ⟨a0, a1⟩ := (unhide HTA).d.cells; obtain ⟨a2, a3, a4⟩ := ((unhide HX3).below (unhide HBA)).cells; obtain ⟨r0, r1⟩ := (unhide HTA).r.cells; have r2 := (unhide HTA).r.free 0; have r3 := (unhide HTA).r.free 1; obtain ⟨u0, u1, u2⟩ := (unhide HTA).t.cells; obtain ⟨u3, u4, u5⟩ := (unhide HTA).t.free))
              all_goals
                have HF := hide (fun a b x y z => (unhide HTA).out (unhide HOA) (unhide HO).1 (unhide HO).2.1 a b x y z)
                have HF2 := hide (fun a b x y z => (unhide HTA).out2 (unhide HOA) (unhide HO).1 (unhide HO).2.1 a b x y z)
                go_wp2
                refine bodyPost_ret (v := .tuple #[.agg #[.slice po ss.length pa, .slice qo xs.length qa], lV X, .int .i64 6]) (by simp [results, Tryz.results5, go_sem, r0, r1, u0, u1, u2]) rfl ?_
                first
                  | exact told_end (s := ⟨ss, xs, p00, []⟩) (unhide HQ) (unhide HF _ _ _ _ _).1 (unhide HF _ _ _ _ _).2
                  | exact told_end (s := ⟨ss, xs, p00, []⟩) (unhide HQ) (unhide HF2 _ _ _ _ _).1 (unhide HF2 _ _ _ _ _).2
                  | exact told_end (s := ⟨ss, xs, p00, []⟩) (unhide HQ) ((unhide HF _ _ _ _ _).1.below (Below.refl _ _).drew) (unhide HF _ _ _ _ _).2.drew
            · have hvb : (X.ver == 1000000) = false := by simp [hv]
              have HQ : Hid (R = ⟨wS ss xs h 0 (encL (ldN (X.ver + 1))), wX xs h 0 (encL (ldN (X.ver + 1))), ldN (X.ver + 1), 0⟩) := hide (by rw [unhide HDO, ← unhide HR, rlDo, if_pos hs, if_pos (show X.own = _ from ho), if_neg hv])
              have hvv := (ldB_lo (unhide HLX)).1
              have wr1 : IntKind.i64.wrap (X.ver + 1) = X.ver + 1 := by rw [IntKind.wrap_i64]; omega
              have HMB : Hid (ldB ⟨X.ver + 1, -1, 0⟩ = true) := hide (ldB_N _ (by omega) (by omega))
              obtain ⟨t, HTE⟩ : ∃ t, Hid (encL (ldN (X.ver + 1)) = t) := ⟨_, hide rfl⟩
              have HTS : Hid (t.size ≤ 80) := hide (by rw [← unhide HTE, encL_size]; decide)
              rw [unhide HTE] at HQ
              have HP : Hid (diskB ss (xs ++ [⟨h, 0, t⟩]) = true) := hide (diskB_snoc (unhide HD).1 (unhide HD).2.2 (w_io (unhide HD).2.1.1 (unhide HD).2.1.2 (by decide) (by decide) (unhide HTS)))
              have HXL : Hid (xs.length ≤ 1048576) := hide (by have := unhide HLEN; omega)
              have HRT := hide (w_right (unhide HD).1 (unhide HD).2.2 (unhide HD).2.1.1 (unhide HD).2.1.2 (show (0 : Int) ≤ 0 by decide) (by decide) (unhide HTS))
              have HNL := hide (wS_len ss xs h 0 t)
              obtain ⟨S, HSS⟩ : ∃ S, Hid (wS ss xs h 0 t = S) := ⟨_, hide rfl⟩
              obtain ⟨Y, HXX⟩ : ∃ Y, Hid (wX xs h 0 t = Y) := ⟨_, hide rfl⟩
              rw [unhide HSS] at HQ HRT HNL
              rw [unhide HXX] at HQ HRT
              have HQS := hide (rightS (unhide HRT))
              have HQX := hide (rightX (unhide HRT))
              have HK12 : Hid (S.length ≤ 1048576 ∧ Y.length ≤ 1048576) := hide (by have := diskB_len (unhide HRT); omega)
              have HA4 := hide (Joins.below_alloc1 W3 (.cells #[.int .i64 (X.ver + 1), .int .i64 (-1), .int .i64 0] 32))
              have HV4 := hide (VarT.new W3 32 (X.ver + 1) (-1) 0)
              have HT4 := hide ((unhide HT3).next (unhide HA4))
              have HLT := hide (And.intro (unhide HT3).r.lt (unhide HT3).t.lt)
              clear ho hv hvv
              go_wp2_with fail
              clear d0 d1 t0 t1 t2
              revert HV4 HT4 HLT
              clear HA4
              generalize W3.alloc (.cells #[.int .i64 (X.ver + 1), .int .i64 (-1), .int .i64 0] 32) = W4
              generalize W3.heap.size = C
              intro HV4 HT4 HLT
              have m5 : B1 ≠ C := by have := (unhide HLT).1; omega
              have m6 : B2 ≠ C := by have := (unhide HLT).2; omega
              have m5' := m5.symm
              have m6' := m6.symm
              obtain ⟨d0, d1⟩ := (unhide HT4).d.cells
              obtain ⟨t0, t1, t2⟩ := (unhide HV4).cells
              have HFL := hide (fun (gg cap B : Nat) (W : World) (hW : Below w.heap.size w W) hO => l01Flush_sure ao ca gg cap B ss xs h 0 t S Y W (unhide HSS) (unhide HXX) (unhide HP) ((unhide H1).below hW) hO)
              have HENC := hide (fun W => l06Encode_ld ⟨X.ver + 1, -1, 0⟩ W (unhide HMB))
              rw [show encL (⟨X.ver + 1, -1, 0⟩ : Ld) = t from unhide HTE] at HENC
              go_region_held3 (fun w' => w'.cell? ⟨w.heap.size, 0, none⟩ = some (.slice ao ss.length ca) ∧ w'.cell? ⟨w.heap.size, 1, none⟩ = some (.slice bo xs.length cb) ∧ w'.cell? ⟨C, 0, none⟩ = some (.int .i64 (X.ver + 1)) ∧ w'.cell? ⟨C, 1, none⟩ = some (.int .i64 (-1)) ∧ w'.cell? ⟨C, 2, none⟩ = some (.int .i64 0)) (go_keep)
                (first
                  | (go_at_call 21; refine (unhide HENC _).mono ?_; rintro e wA ⟨rfl, hbA⟩; have HBA := hide (fr (Below.refl _ W4).drew hbA); clear hbA; have HTA := hide ((unhide HT4).next (unhide HBA)); obtain ⟨a0, a1⟩ := (unhide HTA).d.cells; obtain ⟨a2, a3, a4⟩ := ((unhide HV4).below (unhide HBA)).cells)
                  | (go_at_call 20; refine (l01Write_hd ao bo ss.length ca cb xs h 0 t _ (unhide HXL) ((unhide H2).below (unhide HTA).below)).mono ?_; rintro e wB ⟨gg, cap, rfl, hoB, hbB⟩; have HOB := hide hoB; have HTB := hide ((unhide HTA).next hbB); have HBB := hide (fr (unhide HBA) hbB); clear hoB hbB; obtain ⟨b0, b1⟩ := (unhide HTB).d.cells; obtain ⟨b2, b3, b4⟩ := ((unhide HV4).below (unhide HBB)).cells)
                  | (go_at_call 19; refine (unhide HFL gg cap _ _ (unhide HTB).below (unhide HOB)).mono ?_; rintro e wC ⟨po, pa, qo, qa, rfl, hoC, hbC⟩; have HOC := hide hoC; have HTC := hide ((unhide HTB).next hbC); have HBC := hide (fr (unhide HBB) hbC); clear hoC hbC; obtain ⟨b5, b6⟩ := (unhide HTC).d.cells; obtain ⟨b7, b8, b9⟩ := ((unhide HV4).below (unhide HBC)).cells)
                  | (go_at_call 18; refine (l01Own_len po qo pa qa S Y ss.length Y.length _ (unhide HNL).symm rfl (unhide HK12).1 (unhide HK12).2 ((unhide HOC).ss (unhide HQS)) ((unhide HOC).ios (unhide HQX))).mono ?_; rintro e wD ⟨po2, pa2, qo2, qa2, rfl, hoD, hbD⟩; have HOD := hide (hoD.base (B' := w.heap.size) (unhide HTC).below.size); have HTD := hide ((unhide HTC).next hbD); have HBD := hide (fr (unhide HBC) hbD); clear hoD hbD; obtain ⟨g0, g1⟩ := (unhide HTD).d.cells; obtain ⟨g2, g3, g4⟩ := ((unhide HV4).below (unhide HBD)).cells; obtain ⟨r0, r1⟩ := (unhide HTD).r.cells; have r2 := (unhide HTD).r.free 0; have r3 := (unhide HTD).r.free 1; obtain ⟨u0, u1, u2⟩ := (unhide HTD).t.cells; obtain ⟨u3, u4, u5⟩ := (unhide HTD).t.free))
              all_goals
                have HF := hide (fun a b x y z => (unhide HTD).out (unhide HOD) (unhide HO).1 (unhide HO).2.1 a b x y z)
                have HF2 := hide (fun a b x y z => (unhide HTD).out2 (unhide HOD) (unhide HO).1 (unhide HO).2.1 a b x y z)
                go_wp2
                refine bodyPost_ret (v := .tuple #[.agg #[.slice po2 ss.length pa2, .slice qo2 Y.length qa2], lV (ldN (X.ver + 1)), .int .i64 0]) (by simp [results, Tryz.results5, go_sem, r0, r1, u0, u1, u2, ldN]) rfl ?_
                rw [← unhide HNL]
                first
                  | exact told_end (s := ⟨S, Y, p00, []⟩) (unhide HQ) (by rw [unhide HNL]; exact (unhide HF _ _ _ _ _).1) (unhide HF _ _ _ _ _).2
                  | exact told_end (s := ⟨S, Y, p00, []⟩) (unhide HQ) (by rw [unhide HNL]; exact (unhide HF2 _ _ _ _ _).1) (unhide HF2 _ _ _ _ _).2
          · have hob : (X.own != h) = true := by simp [ho]
            have HQ : Hid (R = ⟨ss, xs, X, 9⟩) := hide (by rw [unhide HDO, ← unhide HR, rlDo, if_pos hs, if_neg (show ¬ X.own = _ from ho)]; rw [unhide HLXE])
            clear ho
            go_wp2_with fail
            go_region_held3 (fun w' => w'.cell? ⟨w.heap.size, 0, none⟩ = some (.slice ao ss.length ca) ∧ w'.cell? ⟨w.heap.size, 1, none⟩ = some (.slice bo xs.length cb) ∧ w'.cell? ⟨BX, 0, none⟩ = some (.int .i64 X.ver) ∧ w'.cell? ⟨BX, 1, none⟩ = some (.int .i64 X.own) ∧ w'.cell? ⟨BX, 2, none⟩ = some (.int .i64 X.gen)) (go_keep)
              ((go_at_call 18; refine (unhide HOW _ (fr (unhide HT3).below (Below.refl _ W3).drew)).mono ?_; rintro e wA ⟨po, pa, qo, qa, rfl, hoA, hbA⟩; have HBA := hide (fr (Below.refl _ W3).drew hbA); have HOA := hide (hoA.base (B' := w.heap.size) (unhide HT3).below.size); have HTA := hide ((unhide HT3).next (unhide HBA)); clear hoA hbA; obtain ⟨a0, a1⟩ := (unhide HTA).d.cells; obtain ⟨a2, a3, a4⟩ := ((unhide HX3).below (unhide HBA)).cells; obtain ⟨r0, r1⟩ := (unhide HTA).r.cells; have r2 := (unhide HTA).r.free 0; have r3 := (unhide HTA).r.free 1; obtain ⟨u0, u1, u2⟩ := (unhide HTA).t.cells; obtain ⟨u3, u4, u5⟩ := (unhide HTA).t.free))
            all_goals
              have HF := hide (fun a b x y z => (unhide HTA).out (unhide HOA) (unhide HO).1 (unhide HO).2.1 a b x y z)
              have HF2 := hide (fun a b x y z => (unhide HTA).out2 (unhide HOA) (unhide HO).1 (unhide HO).2.1 a b x y z)
              go_wp2
              refine bodyPost_ret (v := .tuple #[.agg #[.slice po ss.length pa, .slice qo xs.length qa], lV X, .int .i64 9]) (by simp [results, Tryz.results5, go_sem, r0, r1, u0, u1, u2]) rfl ?_
              first
                | exact told_end (s := ⟨ss, xs, p00, []⟩) (unhide HQ) (unhide HF _ _ _ _ _).1 (unhide HF _ _ _ _ _).2
                | exact told_end (s := ⟨ss, xs, p00, []⟩) (unhide HQ) (unhide HF2 _ _ _ _ _).1 (unhide HF2 _ _ _ _ _).2
                | exact told_end (s := ⟨ss, xs, p00, []⟩) (unhide HQ) ((unhide HF _ _ _ _ _).1.below (Below.refl _ _).drew) (unhide HF _ _ _ _ _).2.drew
        · rw [Bool.not_eq_true] at hs
          obtain rfl : b9 = true := by rw [unhide HB9, hs]; rfl
          clear HB9
          have HQ : Hid (R = ⟨ss, xs, L, 13⟩) := hide (by rw [unhide HDO, ← unhide HR, rlDo, if_neg (by simp [hs])])
          go_wp2_with fail
          have HXX0 := hide (Below.refl W3.heap.size W3).drew
          have HTA := hide ((unhide HT3).next (unhide HXX0))
          have HBA := HXX0
          go_region_held3 (fun w' => w'.cell? ⟨w.heap.size, 0, none⟩ = some (.slice ao ss.length ca) ∧ w'.cell? ⟨w.heap.size, 1, none⟩ = some (.slice bo xs.length cb) ∧ w'.cell? ⟨BX, 0, none⟩ = some (.int .i64 X.ver) ∧ w'.cell? ⟨BX, 1, none⟩ = some (.int .i64 X.own) ∧ w'.cell? ⟨BX, 2, none⟩ = some (.int .i64 X.gen)) (go_keep)
            (first
              | (go_at_call 18; refine (unhide HOW _ (by exact (unhide HTA).below)).mono ?_; rintro e wA ⟨po, pa, qo, qa, rfl, hoA, hbA⟩; have HOA := hide (hoA.base (B' := w.heap.size) (unhide HTA).below.size); replace HTA := hide ((unhide HTA).next hbA); replace HBA := hide (fr (unhide HBA) hbA); clear hoA hbA; obtain ⟨a0, a1⟩ := (unhide HTA).d.cells; obtain ⟨a2, a3, a4⟩ := ((unhide HX3).below (unhide HBA)).cells; obtain ⟨r0, r1⟩ := (unhide HTA).r.cells; have r2 := (unhide HTA).r.free 0; have r3 := (unhide HTA).r.free 1; obtain ⟨u0, u1, u2⟩ := (unhide HTA).t.cells; obtain ⟨u3, u4, u5⟩ := (unhide HTA).t.free)
              | (go_at_call 17; refine (unhide HRD _ (by exact (unhide HTA).below)).mono ?_; rintro e wA ⟨rfl, hbA⟩; (try replace HOA := hide ((unhide HOA).below hbA)); replace HTA := hide ((unhide HTA).next hbA); replace HBA := hide (fr (unhide HBA) hbA); clear hbA; obtain ⟨a0, a1⟩ := (unhide HTA).d.cells; obtain ⟨a2, a3, a4⟩ := ((unhide HX3).below (unhide HBA)).cells; obtain ⟨r0, r1⟩ := (unhide HTA).r.cells; have r2 := (unhide HTA).r.free 0; have r3 := (unhide HTA).r.free 1; obtain ⟨u0, u1, u2⟩ := (unhide HTA).t.cells; obtain ⟨u3, u4, u5⟩ := (unhide HTA).t.free))
          all_goals
            have HF := hide (fun a b x y z => (unhide HTA).out (unhide HOA) (unhide HO).1 (unhide HO).2.1 a b x y z)
            have HF2 := hide (fun a b x y z => (unhide HTA).out2 (unhide HOA) (unhide HO).1 (unhide HO).2.1 a b x y z)
            go_wp2
            refine bodyPost_ret (v := .tuple #[.agg #[.slice po ss.length pa, .slice qo xs.length qa], lV L, .int .i64 13]) (by simp [results, Tryz.results5, go_sem, r0, r1, u0, u1, u2]) rfl ?_
            first
              | exact told_end (s := ⟨ss, xs, p00, []⟩) (unhide HQ) (unhide HF _ _ _ _ _).1 (unhide HF _ _ _ _ _).2
              | exact told_end (s := ⟨ss, xs, p00, []⟩) (unhide HQ) (unhide HF2 _ _ _ _ _).1 (unhide HF2 _ _ _ _ _).2
              | exact told_end (s := ⟨ss, xs, p00, []⟩) (unhide HQ) ((unhide HF _ _ _ _ _).1.below (Below.refl _ _).drew) (unhide HF _ _ _ _ _).2.drew
    · rw [Bool.not_eq_true] at hx
      have HQ : Hid (R = ⟨[], [], ld0, 1⟩) := hide (by rw [← unhide HRR]; exact rs_wrong (unhide HC0) hx)
      obtain ⟨r0, r1⟩ := (unhide HT2).r.cells
      have r2 := (unhide HT2).r.free 0
      have r3 := (unhide HT2).r.free 1
      obtain ⟨t0, t1, t2⟩ := (unhide HT2).t.cells
      obtain ⟨t3, t4, t5⟩ := (unhide HT2).t.free
      have HF := hide (fun a b x y z => below5 (unhide HT2).below (unhide HO).1 (unhide HO).2.1 a b x y z)
      go_wp2
      exact bodyPost_ret (v := .tuple #[.agg #[.slice none 0 0, .slice none 0 0], lV ld0, .int .i64 1]) (by simp [results, Tryz.results5, go_sem, r0, r1, t0, t1, t2, ld0]) rfl (told_zero (unhide HQ) (unhide HF _ _ _ _ _))
  · have hb : (c != 0) = true := by simp [hc]
    have HQ : Hid (R = ⟨[], [], ld0, c⟩) := hide (by rw [← unhide HRR, ← unhide HC]; exact rs_bad (by rw [unhide HC]; exact hc))
    clear hc
    obtain ⟨r0, r1⟩ := (unhide HT1).r.cells
    have r2 := (unhide HT1).r.free 0
    have r3 := (unhide HT1).r.free 1
    obtain ⟨t0, t1, t2⟩ := (unhide HT1).t.cells
    obtain ⟨t3, t4, t5⟩ := (unhide HT1).t.free
    have HF := hide (fun a b x y z => below5 (unhide HT1).below (unhide HO).1 (unhide HO).2.1 a b x y z)
    go_wp2
    exact bodyPost_ret (v := .tuple #[.agg #[.slice none 0 0, .slice none 0 0], lV ld0, .int .i64 c]) (by simp [results, Tryz.results5, go_sem, r0, r1, t0, t1, t2, ld0]) rfl (told_zero (unhide HQ) (unhide HF _ _ _ _ _))

end Go.Proofs.YtjmianalknnekabGreatDoor

/- Contracts of loops over blocks: spec's l05Blocks, l05Next; the program's asOf, blocksFault, greatestBegun. -/
namespace Go.Proofs.YtjmianalknnekabGreatDoor
open Go.RowKit
set_option linter.unusedVariables false
set_option maxRecDepth 100000

theorem fieldB1 (x : Bk) (W : World) : (Instr.field 91 (bV x) 1).run Tryz.prog W = .ok (.int .i64 x.mbal) W := by kernel_rfl

end Go.Proofs.YtjmianalknnekabGreatDoor

/- Contracts of the next ballot: spec's l05Next, NextBallot; the program's asOf, blocksFault, greatestBegun, NextBallot. -/
namespace Go.Proofs.YtjmianalknnekabGreatDoor
open Go.RowKit
set_option linter.unusedVariables false
set_option maxRecDepth 100000

theorem max_le {n m : Int} (h : m ≤ n) : max n m = n := by omega
theorem max_gt {n m : Int} (h : ¬ m ≤ n) : max n m = m := by omega

theorem bks_mbal {xs : List Bk} (h : bksB xs = true) : ∀ i (hi : i < xs.length), xs[i].mbal ≤ 1000000000 := fun i hi => by
  have := (bksB_parts h).2 i hi
  have e : xs.getD i bk0 = xs[i] := by simp [hi]
  rw [e] at this
  have := (bkB_iff.1 this).2.1
  omega
theorem ret_ii {a b c d : Int} (h : a = b) (k : c = d) : Ending.returned (.tuple #[.int .i64 a, .int .i64 c]) = .returned (.tuple #[.int .i64 b, .int .i64 d]) := by rw [h, k]

end Go.Proofs.YtjmianalknnekabGreatDoor

/- Contracts of the program's ballotOK, PxOK, PxStart. -/
namespace Go.Proofs.YtjmianalknnekabGreatDoor
open Go.RowKit
set_option linter.unusedVariables false
set_option maxRecDepth 100000

end Go.Proofs.YtjmianalknnekabGreatDoor

/- Contracts of spec's PxOK, PxStart. -/
namespace Go.Proofs.YtjmianalknnekabGreatDoor
open Go.RowKit
set_option linter.unusedVariables false
set_option maxRecDepth 100000

end Go.Proofs.YtjmianalknnekabGreatDoor

/- Contracts of the program's small steps: isAhead, turned, pastOwn, heedAccepted, heedNothing, chooseValue, decideValue. -/
namespace Go.Proofs.YtjmianalknnekabGreatDoor
open Go.RowKit
set_option linter.unusedVariables false
set_option maxRecDepth 100000

def ahB (b : Bk) (p : Pxs) : Bool := decide (p.ver < b.ver) || decide (p.ballot < b.mbal)
def hdP (p : Pxs) (b : Bk) : Pxs := if p.bestBal < b.bal then { p with best := b.inp, bestBal := b.bal } else p
def chP (p : Pxs) : Pxs := if 0 < p.bestBal then { p with phase := 3, value := p.best } else { p with phase := 3 }

end Go.Proofs.YtjmianalknnekabGreatDoor
