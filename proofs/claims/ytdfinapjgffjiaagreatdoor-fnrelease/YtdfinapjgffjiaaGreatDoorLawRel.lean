/- The walk of laws.FnRelease. -/
import Derived.Test.YtdfinapjgffjiaaGreatDoorRows
import Derived.Test.YtdfinapjgffjiaaGreatDoorPart1
import Derived.Test.YtdfinapjgffjiaaGreatDoorPart2
import Derived.Test.YtdfinapjgffjiaaGreatDoorPart6
import Derived.Test.YtdfinapjgffjiaaGreatDoorPart10
import Derived.Test.YtdfinapjgffjiaaGreatDoorPart8
import Derived.Test.YtdfinapjgffjiaaGreatDoorPart12
import Derived.Test.YtdfinapjgffjiaaGreatDoorPart19
import Derived.WalkKit
import Derived.WalkSpells
import Derived.Deep.CutRange

namespace Go.Proofs.YtdfinapjgffjiaaGreatDoor
open Go.RowKit
set_option linter.unusedVariables false
set_option maxRecDepth 100000

theorem rs_held {ss : List ByteArray} {o : Int} {X : Ld} (hd : diskB ss [] = true) (o0 : 0 ≤ o) (o3 : o ≤ 3) (hX : ldB X = true) (hL : ldOf ss [] o = X) (hn : X.own ≠ o) : rsA ss [] o X = ⟨ss, [], X, 9⟩ := by
  rw [rsA, if_pos (le_nil hd o0 o3), if_pos hX, if_pos (sameL_iff.2 hL), if_neg hn]
theorem rs_gone {ss : List ByteArray} {h : Int} {X : Ld} (hd : diskB ss [] = true) (h0 : 0 ≤ h) (h3 : h ≤ 3) (hX : ldB X = true) (hL : ldOf ss [] h = X) (hn : X.own = h) (hv : X.ver ≠ 1000000) : rsA ss [] h X = ⟨wS ss [] h 0 (encL (ldN (X.ver + 1))), [], ldN (X.ver + 1), 0⟩ := by
  rw [rsA, if_pos (le_nil hd h0 h3), if_pos hX, if_pos (sameL_iff.2 hL), if_pos hn, if_neg hv, wX_nil]
theorem rs_stale {ss : List ByteArray} {h : Int} {X Y : Ld} (hd : diskB ss [] = true) (h0 : 0 ≤ h) (h3 : h ≤ 3) (hX : ldB X = true) (hL : ldOf ss [] h = Y) (hn : Y ≠ X) : rsA ss [] h X = ⟨ss, [], Y, 13⟩ := by
  rw [rsA, if_pos (le_nil hd h0 h3), if_pos hX, if_neg (fun k => hn (hL.symm.trans (sameL_iff.1 k))), hL]
/-- All that the law asks, plain. -/
theorem rel_plain {h o g : Int} (h0 : 0 ≤ h) (h3 : h ≤ 3) (o0 : 0 ≤ o) (o3 : o ≤ 3) (hn : h ≠ o) (g1 : 1 ≤ g) (g2 : g ≤ 9) : ∃ (S1 S2 S3 : List ByteArray) (M1 M2 M3 : Ld),
    (elA noSs [] h h g = ⟨S1, [], M1, 0⟩ ∧ rsA S1 [] o M1 = ⟨S1, [], M1, 9⟩ ∧ rsA S1 [] h M1 = ⟨S2, [], M2, 0⟩ ∧ rsA S2 [] h M1 = ⟨S2, [], M2, 13⟩ ∧ elA S2 [] o o 5 = ⟨S3, [], M3, 0⟩) ∧ (diskB S1 [] = true ∧ diskB S2 [] = true ∧ diskB S3 [] = true) ∧
    (M1.own = h ∧ M2.own = -1 ∧ M2.ver = M1.ver + 1 ∧ M3.own = o ∧ M3.ver = M1.ver + 2 ∧ M1.ver = 1) ∧ (hlB S2 [] h M1.gen = false ∧ hostC S2 [] h = 0) ∧ (hlB S3 [] o 5 = true ∧ hostC S3 [] o = 0) := by
  obtain ⟨R1, hR1⟩ : ∃ R, elA noSs [] h h g = R := ⟨_, rfl⟩
  have e1 : (inB h 0 3 && inB g 1 1000000) = true := by simp [inB]; omega
  obtain ⟨_, x1, d1, f1⟩ := el_plain hR1 noSs_right h0 h3 e1
  have hv1 : (ldOf noSs [] h).ver + 1 = 1 := by rw [noSs_ld]; rfl
  obtain ⟨c1, l1⟩ := el_alone hR1 noSs_right h0 h3 h0 h3 g1 (by omega) (.inl rfl) hv1 (fun i hi => by have := noSs_VB.bks h i hi; omega)
  obtain ⟨_, b1, _, _, r1⟩ := f1 c1
  have vb1 : VB 1 R1.ss := VB.elect hR1 noSs_VB noSs_right h0 h3 e1 hv1 (by decide) c1
  have hA1 : elA noSs [] h h g = ⟨R1.ss, [], R1.l, 0⟩ := by rw [hR1]; cases R1; simp only at x1 c1; rw [x1, c1]
  have o1 : R1.l.own = h := by rw [l1]
  have w1 : R1.l.ver = 1 := by rw [l1]
  have hB := rs_held d1 o0 o3 b1 (r1 o) (by rw [o1]; exact hn)
  have hC := rs_gone d1 h0 h3 b1 (r1 h) o1 (by rw [w1]; decide)
  have bN : ldB (ldN (R1.l.ver + 1)) = true := ldB_N _ (by omega) (by omega)
  obtain ⟨S2, hS2⟩ : ∃ S, wS R1.ss [] h 0 (encL (ldN (R1.l.ver + 1))) = S := ⟨_, rfl⟩
  have d2 : diskB S2 [] = true := by
    have := w_right (t := encL (ldN (R1.l.ver + 1))) (h := h) (a := 0) d1 (by simp) h0 h3 (by decide) (by decide) (by rw [encL_size]; decide)
    rw [hS2, wX_nil] at this
    exact this
  have r2 : ∀ k, ldOf S2 [] k = ldN (R1.l.ver + 1) := fun k => by rw [← hS2]; exact lead_read h k (diskB_len d1).1 bN
  have vb2 : VB 1 S2 := by
    rw [← hS2, wS_nil]
    exact vb1.set _ _ (fun hq => by have : (0 : Int).toNat = 0 := rfl; omega)
  rw [hS2] at hC
  have hD := rs_stale d2 h0 h3 b1 (r2 h) (fun k => by have := congrArg Ld.own k; rw [o1] at this; have e : (ldN (R1.l.ver + 1)).own = -1 := rfl; omega)
  obtain ⟨R3, hR3⟩ : ∃ R, elA S2 [] o o 5 = R := ⟨_, rfl⟩
  obtain ⟨_, x3, d3, f3⟩ := el_plain hR3 d2 o0 o3 (by simp [inB]; omega)
  obtain ⟨c3, l3⟩ := el_alone hR3 d2 o0 o3 o0 o3 (show (1 : Int) ≤ 5 by decide) (by decide) (.inr rfl) (by rw [r2 o]; show R1.l.ver + 1 + 1 = 3; omega) (fun i hi => by have := vb2.bks o i hi; omega)
  obtain ⟨_, _, _, _, r3⟩ := f3 c3
  have hA3 : elA S2 [] o o 5 = ⟨R3.ss, [], R3.l, 0⟩ := by rw [hR3]; cases R3; simp only at x3 c3; rw [x3, c3]
  have o3' : R3.l.own = o := by rw [l3]
  refine ⟨R1.ss, S2, R3.ss, R1.l, ldN (R1.l.ver + 1), R3.l, ⟨hA1, hB, hC, hD, hA3⟩, ⟨d1, d2, d3⟩, ⟨o1, rfl, rfl, o3', ?_, w1⟩, ?_, ?_⟩
  · rw [l3]; show (3 : Int) = R1.l.ver + 2; omega
  · exact hl_no d2 h0 h3 (r2 h) (by show (-1 : Int) ≠ h; omega)
  · have k := hl_yes d3 o0 o3 (r3 o) o3'
    have e : R3.l.gen = 5 := by rw [l3]
    rw [e] at k
    exact k

set_option maxHeartbeats 3200000 in
theorem lawFnRelease (ao : Option Addr) (ca n : Nat) (bo : Option Addr) (cb l : Nat) (w : World) (hn : n ≤ maxLen) (hB : Bs w ao n) (hl : l ≤ maxLen) (hC : Bs w bo l) (hE : ErrW w) :
    Calls Tryz.prog 4 #[.slice ao n ca, .slice bo l cb] w fun e w' => e = .returned (.bool true) ∧ Below w.heap.size w w' := by
  have HE := hide hE
  have HBS := hide hB
  have HCS := hide hC
  clear hE hB hC
  unfold maxLen at hn hl
  by_cases h : 1048576 < n
  · go_enter Tryz.func4, Tryz.ntmps4
    go_wp2
    go_ret
    exact ⟨rfl, Below.refl _ _⟩
  by_cases h2 : 1048576 < l
  · go_enter Tryz.func4, Tryz.ntmps4
    go_wp2
    go_ret
    exact ⟨rfl, Below.refl _ _⟩
  have hn' : n ≤ 1048576 := by omega
  have hl' : l ≤ 1048576 := by omega
  go_enter Tryz.func4, Tryz.ntmps4
  go_wp2_with fail
  refine (at_any ao n ca 0 4 _ hn' (by omega) (by omega) (by omega) (by omega) (unhide HBS)).mono ?_
  rintro e w1 ⟨hh, rfl, hh0, hh1, hb1⟩
  have HB1 := hide hb1
  clear hb1
  have wr0 : IntKind.i64.wrap (hh + 1) = hh + 1 := by rw [IntKind.wrap_i64]; omega
  go_wp2_with fail
  refine (at_any bo l cb 0 3 _ hl' (by omega) (by omega) (by omega) (by omega) ((unhide HCS).below (unhide HB1))).mono ?_
  rintro e w2 ⟨oo, rfl, oo0, oo1, hb2⟩
  have HB2 := hide (fr (unhide HB1) hb2)
  clear hb2
  have wr1 : IntKind.i64.wrap (hh + 1 + oo) = hh + 1 + oo := by rw [IntKind.wrap_i64]; omega
  obtain ⟨o, HO⟩ : ∃ o, Hid (Int.tmod (hh + 1 + oo) 4 = o ∧ (0 ≤ o ∧ o ≤ 3) ∧ hh ≠ o) := ⟨_, hide ⟨rfl, by rw [Int.tmod_eq_emod_of_nonneg (by omega)]; omega, by rw [Int.tmod_eq_emod_of_nonneg (by omega)]; omega⟩⟩
  have wm := (unhide HO).1
  have wo : IntKind.i64.wrap o = o := by have := unhide HO; rw [IntKind.wrap_i64]; omega
  go_wp2_with fail
  refine (newDisk_impl _).mono ?_
  rintro e w3 ⟨gd, rfl, hod, hb3⟩
  have HB3 := hide (fr (unhide HB2) hb3)
  have HS3 : Hid (Ss w3 (some ⟨gd, 0, none⟩) noSs) := hide (by
    have k : OwnD w3 w2.heap.size (some ⟨gd, 0, none⟩) 64 64 none 0 0 noSs [] := hod
    exact k.ss (right_sz noSs_right).2.1)
  clear hod hb3
  go_wp2_with fail
  refine (at_any bo l cb 1 9 _ hl' (by omega) (by omega) (by omega) (by omega) ((unhide HCS).below (unhide HB3))).mono ?_
  rintro e w4 ⟨gg, rfl, gg0, gg1, hb4⟩
  have HB4 := hide (fr (unhide HB3) hb4)
  have HS4 := hide ((unhide HS3).below hb4)
  have E4 : Hid (Dm w w4 [] []) := hide ⟨unhide HB4, fun p hp => (by cases hp), fun p hp => (by cases hp), (unhide HE).below (unhide HB4)⟩
  clear hb4
  have wr2 : IntKind.i64.wrap (1 + gg) = 1 + gg := by rw [IntKind.wrap_i64]; omega
  obtain ⟨S1, S2, S3, M1, M2, M3, ⟨p1, p2, p3, p4, p5⟩, ⟨d1, d2, d3⟩, ⟨f1, f2, f3, f4, f5, f6⟩, f7, f8⟩ := rel_plain (g := 1 + gg) hh0 (by omega) (unhide HO).2.1.1 (unhide HO).2.1.2 (unhide HO).2.2 (by omega) (by omega)
  have HC1 : Hid (∀ (W : World), Ss W (some ⟨gd, 0, none⟩) noSs → ErrW W → Calls Tryz.prog 8 #[.agg #[.slice (some ⟨gd, 0, none⟩) 64 64, .slice none 0 0], .int .i64 hh, .int .i64 hh, .int .i64 (1 + gg)] W fun e w' => ∃ po pa qo qa, e = .returned (.tuple #[.agg #[.slice po S1.length pa, .slice qo 0 qa], lV M1, .int .i64 0]) ∧ Ss w' po S1 ∧ Below W.heap.size W w') := hide (fun W h1 hE => by
    have k := elect_nil ⟨S1, [], M1, 0⟩ (some ⟨gd, 0, none⟩) none 64 0 noSs hh hh (1 + gg) W p1 rfl d1 noSs_right h1 hE
    rw [noSs_len] at k
    exact k)
  have HC2 := hide (fun (ao bo : Option Addr) (ca cb : Nat) (W : World) h1 hE => release_nil ⟨S1, [], M1, 9⟩ ao bo ca cb S1 o M1 W p2 rfl d1 d1 h1 hE)
  have HC3 := hide (fun (ao bo : Option Addr) (ca cb : Nat) (W : World) h1 hE => release_nil ⟨S2, [], M2, 0⟩ ao bo ca cb S1 hh M1 W p3 rfl d2 d1 h1 hE)
  have HC4 := hide (fun (ao bo : Option Addr) (ca cb : Nat) (W : World) h1 hE => release_nil ⟨S2, [], M2, 13⟩ ao bo ca cb S2 hh M1 W p4 rfl d2 d2 h1 hE)
  have HC5 := hide (fun (ao bo : Option Addr) (ca cb : Nat) (W : World) h1 hE => elect_nil ⟨S3, [], M3, 0⟩ ao bo ca cb S2 o o 5 W p5 rfl d3 d2 h1 hE)
  have HC6 := hide (fun (ao bo : Option Addr) (ca cb : Nat) (W : World) h1 => release_nilS ⟨S2, [], M2, 0⟩ ao bo ca cb S1 hh M1 W p3 rfl d2 d1 h1)
  have HC7 := hide (fun (ao bo : Option Addr) (ca cb : Nat) (W : World) h1 hE => holds_nil ao bo ca cb S2 hh M1.gen false W f7 d2 h1 hE)
  have HC8 := hide (fun (ao bo : Option Addr) (ca cb : Nat) (W : World) h1 hE => holds_nil ao bo ca cb S3 o 5 true W f8 d3 h1 hE)
  have HLS : Hid (S2.length ≤ maxLen) := hide (right_sz d2).1.1
  have z1 : (M1.own == hh) = true := by simp [f1]
  have z2 : (M2.own == -1) = true := by simp [f2]
  have z3 : (M2.ver == M1.ver + 1) = true := by simp [f3]
  have z4 : (M3.own == o) = true := by simp [f4]
  have z5 : (M3.ver == M1.ver + 2) = true := by simp [f5]
  have wr3 : IntKind.i64.wrap (M1.ver + 1) = M1.ver + 1 := by rw [IntKind.wrap_i64]; omega
  have wr4 : IntKind.i64.wrap (M1.ver + 2) = M1.ver + 2 := by rw [IntKind.wrap_i64]; omega
  clear p1 p2 p3 p4 p5 d1 d2 d3 f1 f2 f3 f4 f5 f6 f7 f8
  -- elected
  go_wp2_with fail
  refine (unhide HC1 _ (unhide HS4) (unhide E4).e).mono ?_
  rintro e w5 ⟨q5, qa5, r5, ra5, rfl, hs5, hb5⟩
  have E5 := hide (((unhide E4).next hb5).both hs5 qa5 r5 ra5 M1)
  clear hs5 hb5 E4 HS4 HS3 HB4 HB3 HB2 HB1
  go_upto_region 6 with fail
  revert E5
  generalize (w5.alloc (.cells #[.slice q5 S1.length qa5, .slice r5 0 ra5] 26)).alloc (.cells #[.int .i64 M1.ver, .int .i64 M1.own, .int .i64 M1.gen] 30) = W5
  generalize w5.heap.size + 1 = CM
  generalize w5.heap.size = CX
  intro E5
  obtain ⟨a0, ca0, b0, cb0, hv0, hs0⟩ := (unhide E5).d (CX, S1) (by simp)
  obtain ⟨d0, d1⟩ := hv0.cells
  have HS0 := hide hs0
  clear hv0 hs0
  obtain ⟨t0, t1, t2⟩ := ((unhide E5).t (CM, M1) (by simp)).cells
  go_wp2_with fail
  refine (unhide HC2 _ _ _ _ _ (unhide HS0) (unhide E5).e).mono ?_
  rintro e w6 ⟨q6, qa6, r6, ra6, rfl, hs6, hb6⟩
  have E6 := hide (((unhide E5).next hb6).both hs6 qa6 r6 ra6 M1)
  clear hs6 hb6 d0 d1 HS0 t0 t1 t2 E5
  go_upto_region 7 with fail
  revert E6
  generalize (w6.alloc (.cells #[.slice q6 S1.length qa6, .slice r6 0 ra6] 26)).alloc (.cells #[.int .i64 M1.ver, .int .i64 M1.own, .int .i64 M1.gen] 30) = W6
  generalize w6.heap.size + 1 = CB
  generalize w6.heap.size = CA
  intro E6
  obtain ⟨a0, ca0, b0, cb0, hv0, hs0⟩ := (unhide E6).d (CX, S1) (by simp)
  obtain ⟨d0, d1⟩ := hv0.cells
  have HS0 := hide hs0
  clear hv0 hs0
  obtain ⟨t0, t1, t2⟩ := ((unhide E6).t (CM, M1) (by simp)).cells
  go_wp2_with fail
  refine (unhide HC3 _ _ _ _ _ (unhide HS0) (unhide E6).e).mono ?_
  rintro e w7 ⟨q7, qa7, r7, ra7, rfl, hs7, hb7⟩
  have E7 := hide (((unhide E6).next hb7).both hs7 qa7 r7 ra7 M2)
  clear hs7 hb7 d0 d1 HS0 t0 t1 t2 E6
  go_upto_region 8 with fail
  revert E7
  generalize (w7.alloc (.cells #[.slice q7 S2.length qa7, .slice r7 0 ra7] 26)).alloc (.cells #[.int .i64 M2.ver, .int .i64 M2.own, .int .i64 M2.gen] 30) = W7
  generalize w7.heap.size + 1 = CF
  generalize w7.heap.size = CY
  intro E7
  obtain ⟨a0, ca0, b0, cb0, hv0, hs0⟩ := (unhide E7).d (CY, S2) (by simp)
  obtain ⟨d0, d1⟩ := hv0.cells
  have HS0 := hide hs0
  clear hv0 hs0
  obtain ⟨t0, t1, t2⟩ := ((unhide E7).t (CM, M1) (by simp)).cells
  go_wp2_with fail
  refine (unhide HC4 _ _ _ _ _ (unhide HS0) (unhide E7).e).mono ?_
  rintro e w8 ⟨q8, qa8, r8, ra8, rfl, hs8, hb8⟩
  have E8 := hide (((unhide E7).next hb8).both hs8 qa8 r8 ra8 M2)
  clear hs8 hb8 d0 d1 HS0 t0 t1 t2 E7
  go_upto_region 9 with fail
  revert E8
  generalize (w8.alloc (.cells #[.slice q8 S2.length qa8, .slice r8 0 ra8] 26)).alloc (.cells #[.int .i64 M2.ver, .int .i64 M2.own, .int .i64 M2.gen] 30) = W8
  generalize w8.heap.size + 1 = CD
  generalize w8.heap.size = CC
  intro E8
  obtain ⟨a0, ca0, b0, cb0, hv0, hs0⟩ := (unhide E8).d (CY, S2) (by simp)
  obtain ⟨d0, d1⟩ := hv0.cells
  have HS0 := hide hs0
  clear hv0 hs0
  go_wp2_with fail
  refine (unhide HC5 _ _ _ _ _ (unhide HS0) (unhide E8).e).mono ?_
  rintro e w9 ⟨q9, qa9, r9, ra9, rfl, hs9, hb9⟩
  have E9 := hide (((unhide E8).next hb9).both hs9 qa9 r9 ra9 M3)
  clear hs9 hb9 d0 d1 HS0 E8
  go_upto_region 10 with fail
  revert E9
  generalize (w9.alloc (.cells #[.slice q9 S3.length qa9, .slice r9 0 ra9] 26)).alloc (.cells #[.int .i64 M3.ver, .int .i64 M3.own, .int .i64 M3.gen] 30) = W9
  generalize w9.heap.size + 1 = CN
  generalize w9.heap.size = CZ
  intro E9
  obtain ⟨a0, ca0, b0, cb0, hv0, hs0⟩ := (unhide E9).d (CY, S2) (by simp)
  obtain ⟨d0, d1⟩ := hv0.cells
  have HS0 := hide hs0
  clear hv0 hs0
  obtain ⟨t0, t1, t2⟩ := ((unhide E9).t (CM, M1) (by simp)).cells
  go_wp2_with fail
  refine (unhide HC7 _ _ _ _ _ (unhide HS0) (unhide E9).e).mono ?_
  rintro e w10 ⟨rfl, hb10⟩
  have E10 := hide ((unhide E9).next hb10)
  clear hb10 d0 d1 HS0 t0 t1 t2 E9
  obtain ⟨a0, ca0, b0, cb0, hv0, hs0⟩ := (unhide E10).d (CZ, S3) (by simp)
  obtain ⟨d0, d1⟩ := hv0.cells
  have HS0 := hide hs0
  clear hv0 hs0
  go_wp2_with fail
  refine (unhide HC8 _ _ _ _ _ (unhide HS0) (unhide E10).e).mono ?_
  rintro e w11 ⟨rfl, hb11⟩
  have E11 := hide ((unhide E10).next hb11)
  clear hb11 d0 d1 HS0 E10
  obtain ⟨a0, ca0, b0, cb0, hv0, hs0⟩ := (unhide E11).d (CX, S1) (by simp)
  obtain ⟨d0, d1⟩ := hv0.cells
  have HS0 := hide hs0
  clear hv0 hs0
  obtain ⟨t0, t1, t2⟩ := ((unhide E11).t (CM, M1) (by simp)).cells
  go_wp2_with fail
  refine (unhide HC6 _ _ _ _ _ (unhide HS0)).mono ?_
  rintro e w12 ⟨q12, qa12, r12, ra12, rfl, hs12, hb12⟩
  have E12o := hide ((unhide E11).next hb12)
  have E12 := hide ((unhide E12o).both hs12 qa12 r12 ra12 M2)
  clear d0 d1 HS0 t0 t1 t2 E11
  have k1 := (unhide E12o).t (CM, M1) (by simp)
  have k2 := (unhide E12o).t (CF, M2) (by simp)
  have k3 := (unhide E12o).t (CN, M3) (by simp)
  obtain ⟨t0, t1, t2⟩ := k1.cells
  obtain ⟨u0, u1, u2⟩ := k2.cells
  obtain ⟨v0, v1, v2⟩ := k3.cells
  have l1 := k1.lt
  have l2 := k2.lt
  have l3 := k3.lt
  obtain ⟨a0, ca0, b0, cb0, hv0, hs0⟩ := (unhide E12o).d (CY, S2) (by simp)
  obtain ⟨d0, d1⟩ := hv0.cells
  have l4 := hv0.lt
  have HA12 := hide (Joins.below_alloc2 w12 (.cells #[.slice q12 S2.length qa12, .slice r12 0 ra12] 26) (.cells #[.int .i64 M2.ver, .int .i64 M2.own, .int .i64 M2.gen] 30))
  have HS0 := hide (hs0.below (unhide HA12))
  have HS1 := hide (hs12.below (unhide HA12))
  clear k1 k2 k3 hv0 hs0 hs12 hb12
  go_wp2_with fail
  refine (sameDisk_same _ _ _ _ _ _ _ _ S2 [] _ (unhide HLS) (by simp) (unhide HS0) (iosNil _ _) (unhide HS1) (iosNil _ _)).mono ?_
  rintro e wz ⟨rfl, hbz⟩
  have HK := hide (fr (unhide E12).below hbz)
  clear hbz
  go_wp2
  go_ret
  exact ⟨rfl, unhide HK⟩

end Go.Proofs.YtdfinapjgffjiaaGreatDoor
