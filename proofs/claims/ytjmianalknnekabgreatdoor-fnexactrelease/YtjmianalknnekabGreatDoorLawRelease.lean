/- The walk of laws.FnExactRelease. -/
import Derived.Test.YtjmianalknnekabGreatDoorRows
import Derived.Test.YtjmianalknnekabGreatDoorPart1
import Derived.Test.YtjmianalknnekabGreatDoorPart7
import Derived.Test.YtjmianalknnekabGreatDoorPart8
import Derived.Test.YtjmianalknnekabGreatDoorPart9
import Derived.Test.YtjmianalknnekabGreatDoorPart17
import Derived.Test.YtjmianalknnekabGreatDoorPart18
import Derived.Test.YtjmianalknnekabGreatDoorPart20
import Derived.WalkKit
import Derived.WalkSpells
import Derived.KernelRfl
import Derived.LoopN
import Derived.BigQuiet
import Derived.Deep.QuietTactic
import Derived.Deep.RegionWith
import Derived.Deep.RegionHeld3
import Derived.Deep.CutRange

namespace Go.Proofs.YtjmianalknnekabGreatDoor
open Go.RowKit
set_option linter.unusedVariables false

theorem eqL_same (a b c : Int) (w : World) : Calls Tryz.prog 10 #[dltV a b c, dltV a b c] w fun e w' => e = .returned (.bool true) ∧ Below w.heap.size w w' := eqLeader_same ⟨a, b, c⟩ w
theorem eqSameE (ao bo co do_ : Option Addr) (ca cb cc cd : Nat) (ss : List ByteArray) (xs : List Wr) (w : World) (hl : ss.length ≤ maxLen) (hm : xs.length ≤ maxLen) (h1 : Ss w ao ss) (h2 : Ios w bo xs) (h3 : Ss w co ss) (h4 : Ios w do_ xs) :
    Calls Tryz.prog 9 #[.agg #[.slice ao ss.length ca, .slice bo xs.length cb], .agg #[.slice co ss.length cc, .slice do_ xs.length cd]] w fun e w' => e = .returned (.bool true) ∧ Below w.heap.size w w' := by
  have h := eqDisk_any ao bo co do_ ca cb cc cd ss ss xs xs w hl hm h1 h2 h3 h4
  rw [eqB_self] at h
  exact h

theorem VarD_freeR {w : World} {x : Nat} {a b : Value} (k : VarD w x a b) : w.frozen? ⟨x, 0, none⟩ = false ∧ w.frozen? ⟨x, 1, none⟩ = false := ⟨Joins.unfrozen_of_block k 0, Joins.unfrozen_of_block k 1⟩

set_option maxRecDepth 100000 in
set_option maxHeartbeats 12800000 in
theorem lawRelease (ao bo : Option Addr) (ca cb : Nat) (ss : List ByteArray) (xs : List Wr) (h : Int) (X : Ld) (w : World) (hl : ss.length ≤ maxLen) (hm : xs.length ≤ maxLen) (hc : Ss w ao ss) (hd : Ios w bo xs) (hE : ErrW w) :
    Calls Tryz.prog 3 #[.agg #[.slice ao ss.length ca, .slice bo xs.length cb], .int .i64 h, lV X] w fun e w' => e = .returned (.bool true) ∧ Below w.heap.size w w' := by
  have HA := hide (Joins.below_alloc2 w (.cells #[.slice ao ss.length ca, .slice bo xs.length cb] 25) (.cells #[.int .i64 X.ver, .int .i64 X.own, .int .i64 X.gen] 27))
  have HC := hide (hc.below (unhide HA))
  have HD := hide (hd.below (unhide HA))
  have HL := hide hl
  have HM := hide hm
  have HER := hide hE
  have HNA : Hid (((w.alloc (.cells #[.slice ao ss.length ca, .slice bo xs.length cb] 25)).alloc (.cells #[.int .i64 X.ver, .int .i64 X.own, .int .i64 X.gen] 27)).heap[w.heap.size]? = some (.cells #[.slice ao ss.length ca, .slice bo xs.length cb] 25 (0, 0))) := hide (by rw [(Joins.below_alloc1 _ _).block _ (by simp)]; exact heap_alloc_new w _)
  have HNX : Hid (((w.alloc (.cells #[.slice ao ss.length ca, .slice bo xs.length cb] 25)).alloc (.cells #[.int .i64 X.ver, .int .i64 X.own, .int .i64 X.gen] 27)).heap[w.heap.size + 1]? = some (.cells #[.int .i64 X.ver, .int .i64 X.own, .int .i64 X.gen] 27 (0, 0))) := hide (heap_alloc2_new w _ _)
  clear hc hd hl hm hE
  go_enter Tryz.func3, Tryz.ntmps3
  go_upto_region 2 with fail
  revert HA HC HD HNA HNX
  generalize ((w.alloc _).alloc _) = W0
  intro HA HC HD HNA HNX
  have HADX : Hid (w.heap.size < W0.heap.size ∧ w.heap.size + 1 < W0.heap.size) := hide ⟨(Array.getElem?_eq_some_iff.1 (unhide HNA)).1, (Array.getElem?_eq_some_iff.1 (unhide HNX)).1⟩
  have HCELL : Hid (∀ W, Below W0.heap.size W0 W → W.cell? ⟨w.heap.size, 0, none⟩ = some (.slice ao ss.length ca) ∧ W.cell? ⟨w.heap.size, 1, none⟩ = some (.slice bo xs.length cb) ∧ W.cell? ⟨w.heap.size + 1, 0, none⟩ = some (.int .i64 X.ver) ∧ W.cell? ⟨w.heap.size + 1, 1, none⟩ = some (.int .i64 X.own) ∧ W.cell? ⟨w.heap.size + 1, 2, none⟩ = some (.int .i64 X.gen) ∧ w.heap.size < W.heap.size ∧ w.heap.size + 1 < W.heap.size) := hide (fun W hW => by
    have n1 := (hW.block w.heap.size (unhide HADX).1).trans (unhide HNA)
    have n2 := (hW.block (w.heap.size + 1) (unhide HADX).2).trans (unhide HNX)
    refine ⟨?_, ?_, ?_, ?_, ?_, (Array.getElem?_eq_some_iff.1 n1).1, (Array.getElem?_eq_some_iff.1 n2).1⟩
    · rw [Joins.cell_of_block n1]; rfl
    · rw [Joins.cell_of_block n1]; rfl
    · rw [Joins.cell_of_block n2]; rfl
    · rw [Joins.cell_of_block n2]; rfl
    · rw [Joins.cell_of_block n2]; rfl)
  clear HNA HNX HADX
  obtain ⟨c0, c1, c2, c3, c4, c5, c6⟩ := unhide HCELL _ (Below.refl _ W0)
  revert HCELL c0 c1 c2 c3 c4 c5 c6
  generalize hAD : w.heap.size = AD
  generalize hAX : AD + 1 = AX
  intro HCELL c0 c1 c2 c3 c4 c5 c6
  go_wp2_with fail
  refine (szDisk_any ao bo ca cb ss xs 1048576 _ (unhide HL) (unhide HM) (unhide HC) (unhide HD) (by omega) (by omega)).mono ?_
  rintro e w1 ⟨r, rfl, hr0, hr1, hr2, hb1⟩
  have HB1 := hide hb1
  clear hb1
  by_cases hr : r < 0
  · go_wp2
    go_ret
    exact ⟨rfl, by have := fr (unhide HA) (unhide HB1); exact this⟩
  have hq := hr2 (by omega)
  have hls : ss.length ≤ 1048576 := by omega
  have hlx : xs.length ≤ 1048576 := by omega
  clear hr2 hq c0 c1 c2 c3 c4 c5 c6
  have HZS := hide (unhide HC).sizes
  have HZX := hide (unhide HD).sizes
  obtain ⟨RS, RX, RV, RO, RG, RC, HE⟩ : ∃ RS RX RV RO RG RC, Hid (rsA ss xs h X = ⟨RS, RX, ⟨RV, RO, RG⟩, RC⟩) := ⟨_, _, _, _, _, _, hide rfl⟩
  have HSZ : Hid (((∀ s ∈ RS, s.size ≤ maxLen) ∧ ∀ x ∈ RX, x.data.size ≤ maxLen) ∧ RS.length ≤ 2097152 ∧ RX.length ≤ 2097152) := hide (by
    have k9 := (rsA_ok ss xs h X).sizes
    rw [unhide HE] at k9
    exact k9)
  have HRS := hide (unhide HSZ).1.1
  have HRX := hide (unhide HSZ).1.2
  have HQS := hide (unhide HSZ).2.1
  have HQX := hide (unhide HSZ).2.2
  have HMS : Hid (RS.length ≤ maxLen) := hide (Nat.le_trans (unhide HQS) (by decide))
  have HMX : Hid (RX.length ≤ maxLen) := hide (Nat.le_trans (unhide HQX) (by decide))
  have HA0 : Hid (Below w.heap.size w W0) := hide (by have := unhide HA; exact this)
  have HTD : Hid (∀ W, Below w1.heap.size w1 W → Calls Tryz.prog 6 #[.agg #[.slice ao ss.length ca, .slice bo xs.length cb]] W fun e w' => ∃ g k, e = .returned (.agg #[.slice (some ⟨g, 0, none⟩) ss.length ss.length, .slice (some ⟨k, 0, none⟩) xs.length xs.length]) ∧ DK w' g k ss xs ∧ Below W.heap.size W w') := hide (fun W hW => by
    refine (toDisk_any ao bo ca cb ss xs W hls hlx ((unhide HC).below (fr (unhide HB1) hW)) ((unhide HD).below (fr (unhide HB1) hW))).mono ?_
    rintro e w' ⟨g, k, rfl, ho, hp, hb⟩
    exact ⟨g, k, rfl, ⟨ownS ho (unhide HZS), ownI hp (unhide HZX)⟩, hb⟩)
  have HCL := hide (fun W (hW : Below w1.heap.size w1 W) => unhide HCELL W (fr (unhide HB1) hW))
  obtain ⟨c0, c1, c2, c3, c4, c5, c6⟩ := unhide HCL _ (Below.refl _ w1)
  have HSP : Hid (∀ W g k, Below w1.heap.size w1 W → DK W g k ss xs → Calls Tryz.prog 5 #[.agg #[.slice (some ⟨g, 0, none⟩) ss.length ss.length, .slice (some ⟨k, 0, none⟩) xs.length xs.length], .int .i64 h, lV X] W fun e w' => ∃ po pa qo qa, e = .returned (.tuple #[.agg #[.slice po RS.length pa, .slice qo RX.length qa], .agg #[.int .i64 RV, .int .i64 RO, .int .i64 RG], .int .i64 RC]) ∧ (OwnD w' W.heap.size po RS.length pa qo RX.length qa RS RX ∧ w1.heap.size ≤ W.heap.size) ∧ Below W.heap.size W w') := hide (fun W g k hW hS => by
    refine (release_spec _ (some ⟨g, 0, none⟩) (some ⟨k, 0, none⟩) ss.length xs.length ss xs h X W (unhide HE) (unhide HL) (unhide HM) hS.1 hS.2).mono ?_
    rintro e w' ⟨po, pa, qo, qa, rfl, ho, hb⟩
    exact ⟨po, pa, qo, qa, rfl, ⟨ho, hW.size⟩, hb⟩)
  go_upto_region 5 with fail
  go_cut [8, 9, 10] from 26 to 35 (fun c d q wx => ∃ C1 C2 : Nat, c = .pointer (some ⟨C1, 0, none⟩) ∧ d = .pointer (some ⟨C2, 0, none⟩) ∧ q = .int .i64 RC ∧ Hid (GotR w1 wx C1 C2 RS RX RV RO RG))
  case first =>
    have HX : Hid (Below w1.heap.size w1 w1.drew) := hide (Below.refl _ w1).drew
    go_region_held3 (fun w' => w'.cell? ⟨AD, 0, none⟩ = some (.slice ao ss.length ca) ∧ w'.cell? ⟨AD, 1, none⟩ = some (.slice bo xs.length cb) ∧ w'.cell? ⟨AX, 0, none⟩ = some (.int .i64 X.ver) ∧ w'.cell? ⟨AX, 1, none⟩ = some (.int .i64 X.own) ∧ w'.cell? ⟨AX, 2, none⟩ = some (.int .i64 X.gen)) (go_keep)
      (first
        | (go_at_call 6; refine (unhide HTD _ (by first | exact unhide HX | exact belowAl (unhide HX) _ | exact belowAl (belowAl (unhide HX) _) _)).mono ?_; rintro e w2 ⟨g2, k2, rfl, hdk, hb⟩; have HDK := hide hdk; clear hdk; (first | (have HA1 : Hid (HV1 w1 w2 w1.heap.size) := hide ((HV1.new (unhide HX)).below hb)) | (have HA1 : Hid (HV1 w1 w2 w1.heap.size) := hide (((HV1.new (unhide HX)).below (Joins.below_alloc1 _ (.cells #[.int .i64 0, .int .i64 0, .int .i64 0] 32))).below hb)) | (have HA1 : Hid (HV1 w1 w2 (w1.heap.size + 1)) := hide ((HV1.new2 (unhide HX) (.cells #[.int .i64 0, .int .i64 0, .int .i64 0] 32)).below hb)) | skip); (first | (have HA2 : Hid (HT1 w1 w2 w1.heap.size) := hide ((HT1.new (unhide HX)).below hb)) | (have HA2 : Hid (HT1 w1 w2 w1.heap.size) := hide (((HT1.new (unhide HX)).below (Joins.below_alloc1 _ (.cells #[.slice none 0 0, .slice none 0 0] 31))).below hb)) | (have HA2 : Hid (HT1 w1 w2 (w1.heap.size + 1)) := hide ((HT1.new2 (unhide HX) (.cells #[.slice none 0 0, .slice none 0 0] 31)).below hb)) | skip); (first | replace HX := hide (fr (unhide HX) hb) | replace HX := hide (fr (belowAl (unhide HX) _) hb) | replace HX := hide (fr (belowAl (belowAl (unhide HX) _) _) hb)); obtain ⟨m20, m21, m22, m23, m24, m25, m26⟩ := unhide HCL _ (unhide HX); clear hb)
        | (go_at_call 7; refine (toLeader_any X _).mono ?_; rintro e w3 ⟨rfl, hb⟩; (first | replace HA1 := hide ((unhide HA1).below hb) | replace HA1 := hide ((unhide HA1).below (fr (Joins.below_alloc1 _ (.cells #[.int .i64 0, .int .i64 0, .int .i64 0] 32)) hb)) | (have HA1 := hide ((HV1.new (unhide HX)).below hb)) | (have HA1 := hide (((HV1.new (unhide HX)).below (Joins.below_alloc1 _ (.cells #[.int .i64 0, .int .i64 0, .int .i64 0] 32))).below hb)) | (have HA1 := hide ((HV1.new2 (unhide HX) (.cells #[.int .i64 0, .int .i64 0, .int .i64 0] 32)).below hb)) | skip); (first | replace HA2 := hide ((unhide HA2).below hb) | replace HA2 := hide ((unhide HA2).below (fr (Joins.below_alloc1 _ (.cells #[.slice none 0 0, .slice none 0 0] 31)) hb)) | (have HA2 := hide ((HT1.new (unhide HX)).below hb)) | (have HA2 := hide (((HT1.new (unhide HX)).below (Joins.below_alloc1 _ (.cells #[.slice none 0 0, .slice none 0 0] 31))).below hb)) | (have HA2 := hide ((HT1.new2 (unhide HX) (.cells #[.slice none 0 0, .slice none 0 0] 31)).below hb)) | skip); (first | replace HDK := hide ((unhide HDK).below hb) | replace HDK := hide ((unhide HDK).below (fr (Joins.below_alloc1 _ _) hb)) | replace HDK := hide ((unhide HDK).below (fr (Joins.below_alloc2 _ _ _) hb)) | skip); (first | replace HX := hide (fr (unhide HX) hb) | replace HX := hide (fr (belowAl (unhide HX) _) hb) | replace HX := hide (fr (belowAl (belowAl (unhide HX) _) _) hb)); obtain ⟨m30, m31, m32, m33, m34, m35, m36⟩ := unhide HCL _ (unhide HX); clear hb)
        | (go_at_call 5; refine (unhide HSP _ _ _ (by first | exact unhide HX | exact belowAl (unhide HX) _ | exact belowAl (belowAl (unhide HX) _) _) (by first | exact unhide HDK | exact (unhide HDK).below (Joins.below_alloc1 _ _) | exact (unhide HDK).below (Joins.below_alloc2 _ _ _))).mono ?_; rintro e w4 ⟨po, pa, qo, qa, rfl, hr, hb⟩; have HR := hide hr; clear hr; (first | replace HA1 := hide ((unhide HA1).below hb) | replace HA1 := hide ((unhide HA1).below (fr (Joins.below_alloc1 _ (.cells #[.int .i64 0, .int .i64 0, .int .i64 0] 32)) hb)) | (have HA1 := hide ((HV1.new (unhide HX)).below hb)) | (have HA1 := hide (((HV1.new (unhide HX)).below (Joins.below_alloc1 _ (.cells #[.int .i64 0, .int .i64 0, .int .i64 0] 32))).below hb)) | (have HA1 := hide ((HV1.new2 (unhide HX) (.cells #[.int .i64 0, .int .i64 0, .int .i64 0] 32)).below hb)) | skip); (first | replace HA2 := hide ((unhide HA2).below hb) | replace HA2 := hide ((unhide HA2).below (fr (Joins.below_alloc1 _ (.cells #[.slice none 0 0, .slice none 0 0] 31)) hb)) | (have HA2 := hide ((HT1.new (unhide HX)).below hb)) | (have HA2 := hide (((HT1.new (unhide HX)).below (Joins.below_alloc1 _ (.cells #[.slice none 0 0, .slice none 0 0] 31))).below hb)) | (have HA2 := hide ((HT1.new2 (unhide HX) (.cells #[.slice none 0 0, .slice none 0 0] 31)).below hb)) | skip); (first | replace HX := hide (fr (unhide HX) hb) | replace HX := hide (fr (belowAl (unhide HX) _) hb) | replace HX := hide (fr (belowAl (belowAl (unhide HX) _) _) hb)); obtain ⟨m40, m41, m42, m43, m44, m45, m46⟩ := unhide HCL _ (unhide HX); (first | (obtain ⟨z40, z41⟩ := (unhide HA1).1.cells; obtain ⟨y40, y41⟩ := VarD_freeR (unhide HA1).1; have lt1 := (unhide HA1).1.lt; have ne1 := Nat.ne_of_lt lt1; have ne1s := Ne.symm ne1) | skip); (first | (obtain ⟨t40, t41, t42⟩ := (unhide HA2).1.cells; obtain ⟨f40, f41, f42⟩ := (unhide HA2).1.free; have lt2 := (unhide HA2).1.lt; have ne2 := Nat.ne_of_lt lt2; have ne2s := Ne.symm ne2) | skip); (first | (have ap := apart12 (unhide HA1).1 (unhide HA2).1; have aps := Ne.symm ap) | skip); (first | (have aa := Nat.ne_of_lt (Nat.lt_of_lt_of_le c5 (unhide HA1).2); have aas := Ne.symm aa; have ab := Nat.ne_of_lt (Nat.lt_of_lt_of_le c6 (unhide HA1).2); have abs := Ne.symm ab) | skip); (first | (have ba := Nat.ne_of_lt (Nat.lt_of_lt_of_le c5 (unhide HA2).2); have bas := Ne.symm ba; have bb := Nat.ne_of_lt (Nat.lt_of_lt_of_le c6 (unhide HA2).2); have bbs := Ne.symm bb) | skip); have na := Nat.ne_of_lt m45; have nas := Ne.symm na; have nb := Nat.ne_of_lt m46; have nbs := Ne.symm nb; have nc := Nat.ne_of_lt (Nat.lt_succ_of_lt m45); have ncs := Ne.symm nc; have nd := Nat.ne_of_lt (Nat.lt_succ_of_lt m46); have nds := Ne.symm nd; clear hb))
    all_goals
      go_wp2_with fail
      go_meet
      first
        | with_reducible exact ⟨_, _, rfl, rfl, rfl, hide (GotR.five (unhide HX) (unhide HA1) (unhide HA2) (unhide HR).1 (unhide HR).2)⟩
        | with_reducible exact ⟨_, _, rfl, rfl, rfl, hide (GotR.topT (unhide HX) (unhide HA1) (unhide HR).1 (unhide HR).2)⟩
        | with_reducible exact ⟨_, _, rfl, rfl, rfl, hide (GotR.topV (unhide HX) (unhide HA2) (unhide HR).1 (unhide HR).2)⟩
        | with_reducible exact ⟨_, _, rfl, rfl, rfl, hide (GotR.topVT (unhide HX) (unhide HR).1 (unhide HR).2)⟩
        | with_reducible exact ⟨_, _, rfl, rfl, rfl, hide (GotR.topTV (unhide HX) (unhide HR).1 (unhide HR).2)⟩
  case rest =>
    obtain ⟨C1, C2, rfl, rfl, rfl, HG0⟩ := hcut
    rename World => W3
    obtain ⟨p3, pa3, q3, qa3, ho, hv, ht⟩ := (unhide HG0).v
    have HW := hide ho
    have HV := hide hv
    have HT := hide ht
    have HB3 := hide (fr (unhide HB1) (unhide HG0).k)
    clear ho hv ht HG0 HSP HTD HCL c0 c1 c2 c3 c4 c5 c6
    obtain ⟨c0, c1, _, _, _, _, _⟩ := unhide HCELL _ (unhide HB3)
    -- the copy that the program gets, in a variable
    go_wp2_with fail
    refine (toDisk_any ao bo ca cb ss xs _ hls hlx ((unhide HC).below (unhide HB3)) ((unhide HD).below (unhide HB3))).mono ?_
    rintro e w4 ⟨g4, k4, rfl, ho, hp, hb4⟩
    have HA4 := hide (Joins.below_alloc1 w4 (.cells #[.slice (some ⟨g4, 0, none⟩) ss.length ss.length, .slice (some ⟨k4, 0, none⟩) xs.length xs.length] 31))
    have HO4 : Hid (OwnD (w4.alloc (.cells #[.slice (some ⟨g4, 0, none⟩) ss.length ss.length, .slice (some ⟨k4, 0, none⟩) xs.length xs.length] 31)) W3.heap.size (some ⟨g4, 0, none⟩) ss.length ss.length (some ⟨k4, 0, none⟩) xs.length xs.length ss xs) := hide (OwnD.below ⟨OwnR.of ho (fun e => ⟨_, by rw [e]⟩), OwnR.of hp (fun e => ⟨_, by rw [e]⟩)⟩ (unhide HA4))
    have HX4 := hide (VarD.new w4 (.slice (some ⟨g4, 0, none⟩) ss.length ss.length) (.slice (some ⟨k4, 0, none⟩) xs.length xs.length))
    have HD4 := hide (fr hb4 (unhide HA4))
    clear ho hp hb4 c0 c1
    go_upto_region 7 with fail
    revert HA4 HO4 HX4 HD4
    generalize (w4.alloc (.cells #[.slice (some ⟨g4, 0, none⟩) ss.length ss.length, .slice (some ⟨k4, 0, none⟩) xs.length xs.length] 31)) = W5
    intro HA4 HO4 HX4 HD4
    clear HA4
    generalize w4.heap.size = XB at *
    have HB4 := hide (fr (unhide HB3) (unhide HD4))
    have HDK5 : Hid (DK W5 g4 k4 ss xs) := hide ⟨(unhide HO4).ss (unhide HZS), (unhide HO4).ios (unhide HZX)⟩
    have HRL : Hid (∀ W g k, Below W5.heap.size W5 W → DK W g k ss xs → Calls Tryz.prog 8 #[.agg #[.slice (some ⟨g, 0, none⟩) ss.length ss.length, .slice (some ⟨k, 0, none⟩) xs.length xs.length], .int .i64 h, lV X] W fun e w' => ∃ po pa qo qa, e = .returned (.tuple #[.agg #[.slice po RS.length pa, .slice qo RX.length qa], .agg #[.int .i64 RV, .int .i64 RO, .int .i64 RG], .int .i64 RC]) ∧ (OwnD w' W.heap.size po RS.length pa qo RX.length qa RS RX ∧ W5.heap.size ≤ W.heap.size) ∧ Below W.heap.size W w') := hide (fun W g k hW hS => by
      refine (release_impl _ (some ⟨g, 0, none⟩) (some ⟨k, 0, none⟩) ss.length xs.length ss xs h X W (unhide HE) (unhide HL) (unhide HM) hS.1 hS.2 ((unhide HER).below (fr (unhide HA0) (fr (unhide HB4) hW)))).mono ?_
      rintro e w' ⟨po, pa, qo, qa, rfl, ho, hb⟩
      exact ⟨po, pa, qo, qa, rfl, ⟨ho, hW.size⟩, hb⟩)
    have HCL : Hid (∀ W, Below W5.heap.size W5 W → W.cell? ⟨XB, 0, none⟩ = some (.slice (some ⟨g4, 0, none⟩) ss.length ss.length) ∧ W.cell? ⟨XB, 1, none⟩ = some (.slice (some ⟨k4, 0, none⟩) xs.length xs.length) ∧ W.cell? ⟨AX, 0, none⟩ = some (.int .i64 X.ver) ∧ W.cell? ⟨AX, 1, none⟩ = some (.int .i64 X.own) ∧ W.cell? ⟨AX, 2, none⟩ = some (.int .i64 X.gen) ∧ XB < W.heap.size ∧ AX < W.heap.size) := hide (fun W hW => by
      have q := unhide HCELL W (fr (unhide HB4) hW)
      have v := (unhide HX4).below hW
      exact ⟨v.cells.1, v.cells.2, q.2.2.1, q.2.2.2.1, q.2.2.2.2.1, v.lt, q.2.2.2.2.2.2⟩)
    obtain ⟨c0, c1, c2, c3, c4, c5, c6⟩ := unhide HCL _ (Below.refl _ W5)
    go_cut [12, 13, 14] from 38 to 46 (fun c d q wx => ∃ C1 C2 : Nat, c = .pointer (some ⟨C1, 0, none⟩) ∧ d = .pointer (some ⟨C2, 0, none⟩) ∧ q = .int .i64 RC ∧ Hid (GotR W5 wx C1 C2 RS RX RV RO RG))
    case first =>
      have HX : Hid (Below W5.heap.size W5 W5.drew) := hide (Below.refl _ W5).drew
      have HDK : Hid (DK W5.drew g4 k4 ss xs) := hide ((unhide HDK5).below (Below.refl _ W5).drew)
      go_region_held3 (fun w' => w'.cell? ⟨XB, 0, none⟩ = some (.slice (some ⟨g4, 0, none⟩) ss.length ss.length) ∧ w'.cell? ⟨XB, 1, none⟩ = some (.slice (some ⟨k4, 0, none⟩) xs.length xs.length) ∧ w'.cell? ⟨AX, 0, none⟩ = some (.int .i64 X.ver) ∧ w'.cell? ⟨AX, 1, none⟩ = some (.int .i64 X.own) ∧ w'.cell? ⟨AX, 2, none⟩ = some (.int .i64 X.gen)) (go_keep)
        (first
          | (go_at_call 7; refine (toLeader_any X _).mono ?_; rintro e w3 ⟨rfl, hb⟩; (first | (have HA1 : Hid (HV1 W5 w3 W5.heap.size) := hide ((HV1.new (unhide HX)).below hb)) | (have HA1 : Hid (HV1 W5 w3 W5.heap.size) := hide (((HV1.new (unhide HX)).below (Joins.below_alloc1 _ (.cells #[.int .i64 0, .int .i64 0, .int .i64 0] 32))).below hb)) | (have HA1 : Hid (HV1 W5 w3 (W5.heap.size + 1)) := hide ((HV1.new2 (unhide HX) (.cells #[.int .i64 0, .int .i64 0, .int .i64 0] 32)).below hb)) | skip); (first | (have HA2 : Hid (HT1 W5 w3 W5.heap.size) := hide ((HT1.new (unhide HX)).below hb)) | (have HA2 : Hid (HT1 W5 w3 W5.heap.size) := hide (((HT1.new (unhide HX)).below (Joins.below_alloc1 _ (.cells #[.slice none 0 0, .slice none 0 0] 31))).below hb)) | (have HA2 : Hid (HT1 W5 w3 (W5.heap.size + 1)) := hide ((HT1.new2 (unhide HX) (.cells #[.slice none 0 0, .slice none 0 0] 31)).below hb)) | skip); (first | replace HDK := hide ((unhide HDK).below hb) | replace HDK := hide ((unhide HDK).below (fr (Joins.below_alloc1 _ _) hb)) | replace HDK := hide ((unhide HDK).below (fr (Joins.below_alloc2 _ _ _) hb)) | skip); (first | replace HX := hide (fr (unhide HX) hb) | replace HX := hide (fr (belowAl (unhide HX) _) hb) | replace HX := hide (fr (belowAl (belowAl (unhide HX) _) _) hb)); obtain ⟨m30, m31, m32, m33, m34, m35, m36⟩ := unhide HCL _ (unhide HX); clear hb)
          | (go_at_call 8; refine (unhide HRL _ _ _ (by first | exact unhide HX | exact belowAl (unhide HX) _ | exact belowAl (belowAl (unhide HX) _) _) (by first | exact unhide HDK | exact (unhide HDK).below (Joins.below_alloc1 _ _) | exact (unhide HDK).below (Joins.below_alloc2 _ _ _))).mono ?_; rintro e w4 ⟨po, pa, qo, qa, rfl, hr, hb⟩; have HR := hide hr; clear hr; (first | replace HA1 := hide ((unhide HA1).below hb) | replace HA1 := hide ((unhide HA1).below (fr (Joins.below_alloc1 _ (.cells #[.int .i64 0, .int .i64 0, .int .i64 0] 32)) hb)) | (have HA1 := hide ((HV1.new (unhide HX)).below hb)) | (have HA1 := hide (((HV1.new (unhide HX)).below (Joins.below_alloc1 _ (.cells #[.int .i64 0, .int .i64 0, .int .i64 0] 32))).below hb)) | (have HA1 := hide ((HV1.new2 (unhide HX) (.cells #[.int .i64 0, .int .i64 0, .int .i64 0] 32)).below hb)) | skip); (first | replace HA2 := hide ((unhide HA2).below hb) | replace HA2 := hide ((unhide HA2).below (fr (Joins.below_alloc1 _ (.cells #[.slice none 0 0, .slice none 0 0] 31)) hb)) | (have HA2 := hide ((HT1.new (unhide HX)).below hb)) | (have HA2 := hide (((HT1.new (unhide HX)).below (Joins.below_alloc1 _ (.cells #[.slice none 0 0, .slice none 0 0] 31))).below hb)) | (have HA2 := hide ((HT1.new2 (unhide HX) (.cells #[.slice none 0 0, .slice none 0 0] 31)).below hb)) | skip); (first | replace HX := hide (fr (unhide HX) hb) | replace HX := hide (fr (belowAl (unhide HX) _) hb) | replace HX := hide (fr (belowAl (belowAl (unhide HX) _) _) hb)); obtain ⟨m40, m41, m42, m43, m44, m45, m46⟩ := unhide HCL _ (unhide HX); (first | (obtain ⟨z40, z41⟩ := (unhide HA1).1.cells; obtain ⟨y40, y41⟩ := VarD_freeR (unhide HA1).1; have lt1 := (unhide HA1).1.lt; have ne1 := Nat.ne_of_lt lt1; have ne1s := Ne.symm ne1) | skip); (first | (obtain ⟨t40, t41, t42⟩ := (unhide HA2).1.cells; obtain ⟨f40, f41, f42⟩ := (unhide HA2).1.free; have lt2 := (unhide HA2).1.lt; have ne2 := Nat.ne_of_lt lt2; have ne2s := Ne.symm ne2) | skip); (first | (have ap := apart12 (unhide HA1).1 (unhide HA2).1; have aps := Ne.symm ap) | skip); (first | (have aa := Nat.ne_of_lt (Nat.lt_of_lt_of_le c5 (unhide HA1).2); have aas := Ne.symm aa; have ab := Nat.ne_of_lt (Nat.lt_of_lt_of_le c6 (unhide HA1).2); have abs := Ne.symm ab) | skip); (first | (have ba := Nat.ne_of_lt (Nat.lt_of_lt_of_le c5 (unhide HA2).2); have bas := Ne.symm ba; have bb := Nat.ne_of_lt (Nat.lt_of_lt_of_le c6 (unhide HA2).2); have bbs := Ne.symm bb) | skip); have na := Nat.ne_of_lt m45; have nas := Ne.symm na; have nb := Nat.ne_of_lt m46; have nbs := Ne.symm nb; have nc := Nat.ne_of_lt (Nat.lt_succ_of_lt m45); have ncs := Ne.symm nc; have nd := Nat.ne_of_lt (Nat.lt_succ_of_lt m46); have nds := Ne.symm nd; clear hb))
      all_goals
        go_wp2_with fail
        go_meet
        first
          | with_reducible exact ⟨_, _, rfl, rfl, rfl, hide (GotR.five (unhide HX) (unhide HA1) (unhide HA2) (unhide HR).1 (unhide HR).2)⟩
          | with_reducible exact ⟨_, _, rfl, rfl, rfl, hide (GotR.topT (unhide HX) (unhide HA1) (unhide HR).1 (unhide HR).2)⟩
          | with_reducible exact ⟨_, _, rfl, rfl, rfl, hide (GotR.topV (unhide HX) (unhide HA2) (unhide HR).1 (unhide HR).2)⟩
          | with_reducible exact ⟨_, _, rfl, rfl, rfl, hide (GotR.topVT (unhide HX) (unhide HR).1 (unhide HR).2)⟩
          | with_reducible exact ⟨_, _, rfl, rfl, rfl, hide (GotR.topTV (unhide HX) (unhide HR).1 (unhide HR).2)⟩
    case rest =>
      obtain ⟨C3, C4, rfl, rfl, rfl, HG0⟩ := hcut
      rename World => W6
      obtain ⟨p5, pa5, q5, qa5, ho, hv, ht⟩ := (unhide HG0).v
      have HG := hide ho
      have HY := hide hv
      have HU := hide ht
      have HK5 := hide (unhide HG0).k
      clear ho hv ht HG0 HRL HCL c0 c1 c2 c3 c4 c5 c6
      have HO5 := hide ((unhide HO4).below (unhide HK5))
      have HX5 := hide ((unhide HX4).below (unhide HK5))
      have HD5 := hide (fr (unhide HD4) (unhide HK5))
      have HB5 := hide (fr (unhide HB4) (unhide HK5))
      have HW5 := hide ((unhide HW).below (unhide HD5))
      obtain ⟨hv0, hv1⟩ := ((unhide HV).below (unhide HD5)).cells
      obtain ⟨hy0, hy1⟩ := (unhide HY).cells
      -- both answers are alike
      go_wp2_with fail
      refine (eqSameE _ _ _ _ _ _ _ _ RS RX _ (unhide HMS) (unhide HMX) ((unhide HG).ss (unhide HRS)) ((unhide HG).ios (unhide HRX)) ((unhide HW5).ss (unhide HRS)) ((unhide HW5).ios (unhide HRX))).mono ?_
      rintro e w6a ⟨rfl, hb6a⟩
      obtain ⟨u0, u1, u2⟩ := ((unhide HU).below hb6a).cells
      obtain ⟨k0, k1, k2⟩ := ((unhide HT).below (fr (unhide HD5) hb6a)).cells
      clear hv0 hv1 hy0 hy1
      go_wp2_with fail
      refine (eqL_same _ _ _ _).mono ?_
      rintro e w6 ⟨rfl, hb6b⟩
      have hb6 := fr hb6a hb6b
      clear hb6a hb6b u0 u1 u2 k0 k1 k2
      have HU6 := hide ((unhide HU).below hb6)
      have HG6 := hide ((unhide HG).below hb6)
      have HY6 := hide ((unhide HY).below hb6)
      have HO6 := hide ((unhide HO5).below hb6)
      have HX6 := hide ((unhide HX5).below hb6)
      have HD6 := hide (fr (unhide HD5) hb6)
      have HB6 := hide (fr (unhide HB5) hb6)
      clear hb6
      obtain ⟨hc0, hc1, _, _, _, hltA, _⟩ := unhide HCELL _ (unhide HB6)
      obtain ⟨hx0, hx1⟩ := (unhide HX6).cells
      have hlt4 : XB < w6.heap.size := (unhide HX6).lt
      have HCT := hide ((unhide HC).below (unhide HB6).drew)
      have HDT := hide ((unhide HD).below (unhide HB6).drew)
      have HST := hide (((unhide HO6).ss (unhide HZS)).below (Below.refl _ _).drew)
      have HXT := hide (((unhide HO6).ios (unhide HZX)).below (Below.refl _ _).drew)
      go_upto_region 10 with fail
      go_cut [66] from 62 to 65 (fun c wx => c = .bool false ∧ Hid (Below w6.heap.size w6 wx))
      case first =>
        go_region_with (first | (go_at_call 6; refine (toDisk_any ao bo ca cb ss xs _ hls hlx (unhide HCT) (unhide HDT)).mono ?_; rintro e w7 ⟨g7, k7, rfl, ho7, hp7, hb7⟩; have hy0 := (hb7.cell (p := ⟨XB, 0, none⟩) hlt4).trans hx0; have hy1 := (hb7.cell (p := ⟨XB, 1, none⟩) hlt4).trans hx1) | (go_at_call 9; refine (eqSameE _ _ _ _ _ _ _ _ ss xs _ (unhide HL) (unhide HM) (by exact (unhide HST).below hb7) (by exact (unhide HXT).below hb7) (by exact ownS ho7 (unhide HZS)) (by exact ownI hp7 (unhide HZX))).mono ?_; rintro e w8 ⟨rfl, hb8⟩))
        all_goals
          go_wp2_with fail
          go_meet
          exact ⟨rfl, hide (fr (a := w6) (b := w7) (Below.trans (Below.refl _ _).drew hb7) hb8)⟩
      case rest =>
        obtain ⟨rfl, H68⟩ := hcut
        rename World => w8
        have HG8 := hide ((unhide HG6).below (unhide H68))
        have HY8 := hide ((unhide HY6).below (unhide H68))
        have HU8 := hide ((unhide HU6).below (unhide H68))
        have HO8 := hide ((unhide HO6).below (unhide H68))
        have HX8 := hide ((unhide HX6).below (unhide H68))
        have HD8 := hide (fr (unhide HD6) (unhide H68))
        have HB8 := hide (fr (unhide HB6) (unhide H68))
        clear hc0 hc1 hx0 hx1 hlt4 hltA
        obtain ⟨hx0, hx1⟩ := (unhide HX8).cells
        go_wp2_with fail
        refine (markDisk_one _ _ _ _ _ _ _ _ _ _ (by omega) (by omega) (unhide HO8)).mono ?_
        rintro e w9 ⟨rfl, ho9, hk9⟩
        have HG9 := hide ((unhide HG8).keep hk9 (fun j hj hx => Nat.lt_irrefl _ (Nat.lt_of_lt_of_le ((unhide HO4).ge j hx).2 ((unhide HG8).ge j hj).1)))
        have HY9 := hide ((unhide HY8).keep hk9 ((unhide HO8).other (unhide HY8) (by decide) (by decide)))
        have HU9 := hide ((unhide HU8).keep hk9 ((unhide HO8).other (unhide HU8) (by decide) (by decide)))
        have HD9 := hide ((unhide HD8).trans (hk9.below (B := W3.heap.size) (unhide HD8).size (fun j hj => ((unhide HO8).ge j hj).1)))
        have HB9 := hide ((unhide HB8).trans (hk9.below (B := W0.heap.size) (unhide HB8).size (fun j hj => Nat.le_trans (unhide HB3).size ((unhide HO8).ge j hj).1)))
        clear ho9 hk9 hx0 hx1
        have HW9 := hide ((unhide HW).below (unhide HD9))
        obtain ⟨hy0', hy1'⟩ := (unhide HY9).cells
        obtain ⟨hv0, hv1⟩ := ((unhide HV).below (unhide HD9)).cells
        go_wp2_with fail
        refine (eqSameE _ _ _ _ _ _ _ _ RS RX _ (unhide HMS) (unhide HMX) ((unhide HG9).ss (unhide HRS)) ((unhide HG9).ios (unhide HRX)) ((unhide HW9).ss (unhide HRS)) ((unhide HW9).ios (unhide HRX))).mono ?_
        rintro e w10a ⟨rfl, hb10a⟩
        obtain ⟨u0, u1, u2⟩ := ((unhide HU9).below hb10a).cells
        obtain ⟨k0, k1, k2⟩ := ((unhide HT).below (fr (unhide HD9) hb10a)).cells
        clear hy0' hy1' hv0 hv1
        go_wp2_with fail
        refine (eqL_same _ _ _ _).mono ?_
        rintro e w10 ⟨rfl, hb10b⟩
        have hb10 := fr hb10a hb10b
        clear hb10a hb10b u0 u1 u2 k0 k1 k2
        have HG10 := hide ((unhide HG9).below hb10)
        have HY10 := hide ((unhide HY9).below hb10)
        have HD10 := hide (fr (unhide HD9) hb10)
        have HB10 := hide (fr (unhide HB9) hb10)
        clear hb10
        obtain ⟨hy0', hy1'⟩ := (unhide HY10).cells
        go_wp2_with fail
        refine (markDisk_one _ _ _ _ _ _ _ _ _ _ (unhide HQS) (unhide HQX) (unhide HG10)).mono ?_
        rintro e w11 ⟨rfl, ho11, hk11⟩
        have HG11 := hide ho11
        have HY11 := hide ((unhide HY10).keep hk11 ((unhide HG10).other (unhide HY10) (by decide) (by decide)))
        have HD11 := hide ((unhide HD10).trans (hk11.below (B := W3.heap.size) (unhide HD10).size (fun j hj => Nat.le_trans (unhide HD4).size ((unhide HG10).ge j hj).1)))
        have HB11 := hide ((unhide HB10).trans (hk11.below (B := W0.heap.size) (unhide HB10).size (fun j hj => Nat.le_trans (unhide HB4).size ((unhide HG10).ge j hj).1)))
        clear ho11 hk11 hy0' hy1'
        obtain ⟨hy0', hy1'⟩ := (unhide HY11).cells
        go_wp2_with fail
        refine (heldDisk_one _ _ _ _ _ _ _ _ (unhide HQS) (unhide HQX) (unhide HG11)).mono ?_
        rintro e w12 ⟨rfl, hb12⟩
        have HG12 := hide ((unhide HG11).below hb12)
        have HY12 := hide ((unhide HY11).below hb12)
        have HD12 := hide (fr (unhide HD11) hb12)
        have HB12 := hide (fr (unhide HB11) hb12)
        clear hb12 hy0' hy1'
        go_upto_region 24 with fail
        have HTD : Hid (∀ W, Below w12.heap.size w12 W → Calls Tryz.prog 6 #[.agg #[.slice ao ss.length ca, .slice bo xs.length cb]] W fun e w' => ∃ g k, e = .returned (.agg #[.slice (some ⟨g, 0, none⟩) ss.length ss.length, .slice (some ⟨k, 0, none⟩) xs.length xs.length]) ∧ DK w' g k ss xs ∧ Below W.heap.size W w') := hide (fun W hW => by
          refine (toDisk_any ao bo ca cb ss xs W hls hlx ((unhide HC).below (fr (unhide HB12) hW)) ((unhide HD).below (fr (unhide HB12) hW))).mono ?_
          rintro e w' ⟨g, k, rfl, ho, hp, hb⟩
          exact ⟨g, k, rfl, ⟨ownS ho (unhide HZS), ownI hp (unhide HZX)⟩, hb⟩)
        have HCL := hide (fun W (hW : Below w12.heap.size w12 W) => unhide HCELL W (fr (unhide HB12) hW))
        obtain ⟨c0, c1, c2, c3, c4, c5, c6⟩ := unhide HCL _ (Below.refl _ w12)
        have HRL : Hid (∀ W g k, Below w12.heap.size w12 W → DK W g k ss xs → Calls Tryz.prog 8 #[.agg #[.slice (some ⟨g, 0, none⟩) ss.length ss.length, .slice (some ⟨k, 0, none⟩) xs.length xs.length], .int .i64 h, lV X] W fun e w' => ∃ po pa qo qa, e = .returned (.tuple #[.agg #[.slice po RS.length pa, .slice qo RX.length qa], .agg #[.int .i64 RV, .int .i64 RO, .int .i64 RG], .int .i64 RC]) ∧ (OwnD w' W.heap.size po RS.length pa qo RX.length qa RS RX ∧ w12.heap.size ≤ W.heap.size) ∧ Below W.heap.size W w') := hide (fun W g k hW hS => by
          refine (release_impl _ (some ⟨g, 0, none⟩) (some ⟨k, 0, none⟩) ss.length xs.length ss xs h X W (unhide HE) (unhide HL) (unhide HM) hS.1 hS.2 ((unhide HER).below (fr (unhide HA0) (fr (unhide HB12) hW)))).mono ?_
          rintro e w' ⟨po, pa, qo, qa, rfl, ho, hb⟩
          exact ⟨po, pa, qo, qa, rfl, ⟨ho, hW.size⟩, hb⟩)
        go_cut [18, 19, 20] from 100 to 109 (fun c d q wx => ∃ C1 C2 : Nat, c = .pointer (some ⟨C1, 0, none⟩) ∧ d = .pointer (some ⟨C2, 0, none⟩) ∧ q = .int .i64 RC ∧ Hid (GotR w12 wx C1 C2 RS RX RV RO RG))
        case first =>
          have HX : Hid (Below w12.heap.size w12 w12.drew) := hide (Below.refl _ w12).drew
          go_region_held3 (fun w' => w'.cell? ⟨AD, 0, none⟩ = some (.slice ao ss.length ca) ∧ w'.cell? ⟨AD, 1, none⟩ = some (.slice bo xs.length cb) ∧ w'.cell? ⟨AX, 0, none⟩ = some (.int .i64 X.ver) ∧ w'.cell? ⟨AX, 1, none⟩ = some (.int .i64 X.own) ∧ w'.cell? ⟨AX, 2, none⟩ = some (.int .i64 X.gen)) (go_keep)
            (first
              | (go_at_call 6; refine (unhide HTD _ (by first | exact unhide HX | exact belowAl (unhide HX) _ | exact belowAl (belowAl (unhide HX) _) _)).mono ?_; rintro e w2 ⟨g2, k2, rfl, hdk, hb⟩; have HDK := hide hdk; clear hdk; (first | (have HA1 : Hid (HV1 w12 w2 w12.heap.size) := hide ((HV1.new (unhide HX)).below hb)) | (have HA1 : Hid (HV1 w12 w2 w12.heap.size) := hide (((HV1.new (unhide HX)).below (Joins.below_alloc1 _ (.cells #[.int .i64 0, .int .i64 0, .int .i64 0] 32))).below hb)) | (have HA1 : Hid (HV1 w12 w2 (w12.heap.size + 1)) := hide ((HV1.new2 (unhide HX) (.cells #[.int .i64 0, .int .i64 0, .int .i64 0] 32)).below hb)) | skip); (first | (have HA2 : Hid (HT1 w12 w2 w12.heap.size) := hide ((HT1.new (unhide HX)).below hb)) | (have HA2 : Hid (HT1 w12 w2 w12.heap.size) := hide (((HT1.new (unhide HX)).below (Joins.below_alloc1 _ (.cells #[.slice none 0 0, .slice none 0 0] 31))).below hb)) | (have HA2 : Hid (HT1 w12 w2 (w12.heap.size + 1)) := hide ((HT1.new2 (unhide HX) (.cells #[.slice none 0 0, .slice none 0 0] 31)).below hb)) | skip); (first | replace HX := hide (fr (unhide HX) hb) | replace HX := hide (fr (belowAl (unhide HX) _) hb) | replace HX := hide (fr (belowAl (belowAl (unhide HX) _) _) hb)); obtain ⟨m20, m21, m22, m23, m24, m25, m26⟩ := unhide HCL _ (unhide HX); clear hb)
              | (go_at_call 7; refine (toLeader_any X _).mono ?_; rintro e w3 ⟨rfl, hb⟩; (first | replace HA1 := hide ((unhide HA1).below hb) | replace HA1 := hide ((unhide HA1).below (fr (Joins.below_alloc1 _ (.cells #[.int .i64 0, .int .i64 0, .int .i64 0] 32)) hb)) | (have HA1 := hide ((HV1.new (unhide HX)).below hb)) | (have HA1 := hide (((HV1.new (unhide HX)).below (Joins.below_alloc1 _ (.cells #[.int .i64 0, .int .i64 0, .int .i64 0] 32))).below hb)) | (have HA1 := hide ((HV1.new2 (unhide HX) (.cells #[.int .i64 0, .int .i64 0, .int .i64 0] 32)).below hb)) | skip); (first | replace HA2 := hide ((unhide HA2).below hb) | replace HA2 := hide ((unhide HA2).below (fr (Joins.below_alloc1 _ (.cells #[.slice none 0 0, .slice none 0 0] 31)) hb)) | (have HA2 := hide ((HT1.new (unhide HX)).below hb)) | (have HA2 := hide (((HT1.new (unhide HX)).below (Joins.below_alloc1 _ (.cells #[.slice none 0 0, .slice none 0 0] 31))).below hb)) | (have HA2 := hide ((HT1.new2 (unhide HX) (.cells #[.slice none 0 0, .slice none 0 0] 31)).below hb)) | skip); (first | replace HDK := hide ((unhide HDK).below hb) | replace HDK := hide ((unhide HDK).below (fr (Joins.below_alloc1 _ _) hb)) | replace HDK := hide ((unhide HDK).below (fr (Joins.below_alloc2 _ _ _) hb)) | skip); (first | replace HX := hide (fr (unhide HX) hb) | replace HX := hide (fr (belowAl (unhide HX) _) hb) | replace HX := hide (fr (belowAl (belowAl (unhide HX) _) _) hb)); obtain ⟨m30, m31, m32, m33, m34, m35, m36⟩ := unhide HCL _ (unhide HX); clear hb)
              | (go_at_call 8; refine (unhide HRL _ _ _ (by first | exact unhide HX | exact belowAl (unhide HX) _ | exact belowAl (belowAl (unhide HX) _) _) (by first | exact unhide HDK | exact (unhide HDK).below (Joins.below_alloc1 _ _) | exact (unhide HDK).below (Joins.below_alloc2 _ _ _))).mono ?_; rintro e w4 ⟨po, pa, qo, qa, rfl, hr, hb⟩; have HR := hide hr; clear hr; (first | replace HA1 := hide ((unhide HA1).below hb) | replace HA1 := hide ((unhide HA1).below (fr (Joins.below_alloc1 _ (.cells #[.int .i64 0, .int .i64 0, .int .i64 0] 32)) hb)) | (have HA1 := hide ((HV1.new (unhide HX)).below hb)) | (have HA1 := hide (((HV1.new (unhide HX)).below (Joins.below_alloc1 _ (.cells #[.int .i64 0, .int .i64 0, .int .i64 0] 32))).below hb)) | (have HA1 := hide ((HV1.new2 (unhide HX) (.cells #[.int .i64 0, .int .i64 0, .int .i64 0] 32)).below hb)) | skip); (first | replace HA2 := hide ((unhide HA2).below hb) | replace HA2 := hide ((unhide HA2).below (fr (Joins.below_alloc1 _ (.cells #[.slice none 0 0, .slice none 0 0] 31)) hb)) | (have HA2 := hide ((HT1.new (unhide HX)).below hb)) | (have HA2 := hide (((HT1.new (unhide HX)).below (Joins.below_alloc1 _ (.cells #[.slice none 0 0, .slice none 0 0] 31))).below hb)) | (have HA2 := hide ((HT1.new2 (unhide HX) (.cells #[.slice none 0 0, .slice none 0 0] 31)).below hb)) | skip); (first | replace HX := hide (fr (unhide HX) hb) | replace HX := hide (fr (belowAl (unhide HX) _) hb) | replace HX := hide (fr (belowAl (belowAl (unhide HX) _) _) hb)); obtain ⟨m40, m41, m42, m43, m44, m45, m46⟩ := unhide HCL _ (unhide HX); (first | (obtain ⟨z40, z41⟩ := (unhide HA1).1.cells; obtain ⟨y40, y41⟩ := VarD_freeR (unhide HA1).1; have lt1 := (unhide HA1).1.lt; have ne1 := Nat.ne_of_lt lt1; have ne1s := Ne.symm ne1) | skip); (first | (obtain ⟨t40, t41, t42⟩ := (unhide HA2).1.cells; obtain ⟨f40, f41, f42⟩ := (unhide HA2).1.free; have lt2 := (unhide HA2).1.lt; have ne2 := Nat.ne_of_lt lt2; have ne2s := Ne.symm ne2) | skip); (first | (have ap := apart12 (unhide HA1).1 (unhide HA2).1; have aps := Ne.symm ap) | skip); (first | (have aa := Nat.ne_of_lt (Nat.lt_of_lt_of_le c5 (unhide HA1).2); have aas := Ne.symm aa; have ab := Nat.ne_of_lt (Nat.lt_of_lt_of_le c6 (unhide HA1).2); have abs := Ne.symm ab) | skip); (first | (have ba := Nat.ne_of_lt (Nat.lt_of_lt_of_le c5 (unhide HA2).2); have bas := Ne.symm ba; have bb := Nat.ne_of_lt (Nat.lt_of_lt_of_le c6 (unhide HA2).2); have bbs := Ne.symm bb) | skip); have na := Nat.ne_of_lt m45; have nas := Ne.symm na; have nb := Nat.ne_of_lt m46; have nbs := Ne.symm nb; have nc := Nat.ne_of_lt (Nat.lt_succ_of_lt m45); have ncs := Ne.symm nc; have nd := Nat.ne_of_lt (Nat.lt_succ_of_lt m46); have nds := Ne.symm nd; clear hb))
          all_goals
            go_wp2_with fail
            go_meet
            first
              | with_reducible exact ⟨_, _, rfl, rfl, rfl, hide (GotR.five (unhide HX) (unhide HA1) (unhide HA2) (unhide HR).1 (unhide HR).2)⟩
              | with_reducible exact ⟨_, _, rfl, rfl, rfl, hide (GotR.topT (unhide HX) (unhide HA1) (unhide HR).1 (unhide HR).2)⟩
              | with_reducible exact ⟨_, _, rfl, rfl, rfl, hide (GotR.topV (unhide HX) (unhide HA2) (unhide HR).1 (unhide HR).2)⟩
              | with_reducible exact ⟨_, _, rfl, rfl, rfl, hide (GotR.topVT (unhide HX) (unhide HR).1 (unhide HR).2)⟩
              | with_reducible exact ⟨_, _, rfl, rfl, rfl, hide (GotR.topTV (unhide HX) (unhide HR).1 (unhide HR).2)⟩
        case rest =>
          obtain ⟨C5, C6, rfl, rfl, rfl, HG0⟩ := hcut
          rename World => w14
          obtain ⟨p14, pa14, q14, qa14, ho, hv, ht⟩ := (unhide HG0).v
          have HN14 := hide ho
          have HP14 := hide hv
          have HM14 := hide ht
          have HF14 := hide (unhide HG0).k
          clear ho hv ht HG0 HRL HCL HTD c0 c1 c2 c3 c4 c5 c6
          have HG14 := hide ((unhide HG12).below (unhide HF14))
          have HY14 := hide ((unhide HY12).below (unhide HF14))
          have HD14 := hide (fr (unhide HD12) (unhide HF14))
          have HB14 := hide (fr (unhide HB12) (unhide HF14))
          have HW14 := hide ((unhide HW).below (unhide HD14))
          obtain ⟨hv0, hv1⟩ := ((unhide HV).below (unhide HD14)).cells
          obtain ⟨hy0, hy1⟩ := (unhide HP14).cells
          go_wp2_with fail
          refine (eqSameE _ _ _ _ _ _ _ _ RS RX _ (unhide HMS) (unhide HMX) ((unhide HN14).ss (unhide HRS)) ((unhide HN14).ios (unhide HRX)) ((unhide HW14).ss (unhide HRS)) ((unhide HW14).ios (unhide HRX))).mono ?_
          rintro e w15a ⟨rfl, hb15a⟩
          obtain ⟨u0, u1, u2⟩ := ((unhide HM14).below hb15a).cells
          obtain ⟨k0, k1, k2⟩ := ((unhide HT).below (fr (unhide HD14) hb15a)).cells
          clear hv0 hv1 hy0 hy1
          go_wp2_with fail
          refine (eqL_same _ _ _ _).mono ?_
          rintro e w15 ⟨rfl, hb15b⟩
          have hb15 := fr hb15a hb15b
          clear hb15a hb15b u0 u1 u2 k0 k1 k2
          have HG15 := hide ((unhide HG14).below hb15)
          have HY15 := hide ((unhide HY14).below hb15)
          have HB15 := hide (fr (unhide HB14) hb15)
          clear hb15
          obtain ⟨hy0', hy1'⟩ := (unhide HY15).cells
          go_wp2_with fail
          refine (heldDisk_one _ _ _ _ _ _ _ _ (unhide HQS) (unhide HQX) (unhide HG15)).mono ?_
          rintro e w16 ⟨rfl, hb16⟩
          have HB16 := hide (fr (unhide HA0) (fr (unhide HB15) hb16))
          clear hb16
          go_wp2
          go_ret
          exact ⟨rfl, by have := unhide HB16; exact this⟩

end Go.Proofs.YtjmianalknnekabGreatDoor
