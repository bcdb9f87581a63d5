/- The walk of laws.FnExactRunPaxos. -/
import Derived.Test.YtdigphemaccodabRows
import Derived.Test.YtdigphemaccodabPart1
import Derived.Test.YtdigphemaccodabPart3
import Derived.Test.YtdigphemaccodabPart4
import Derived.Test.YtdigphemaccodabPart9
import Derived.WalkKit
import Derived.WalkSpells
import Derived.KernelRfl
import Derived.Lib.SmallJoins

namespace Go.Proofs.Ytdigphemaccodab
open Go.RowKit
set_option linter.unusedVariables false
set_option maxRecDepth 100000

/-- What lies about: both answers, the lists that were handed in. -/
structure LQ (w W : World) (O : List Int) (L : List Bk) (B8 B9 B10 : Nat) (v5 v6 v8 v9 v10 v11 : Value) (n8 n9 : Nat) (a8 a9 a10 : List Int) (a11 : List Bk) : Prop where
  hb : Below w.heap.size w W
  o5 : OwnR W w.heap.size 3 1 v5 O.length (intV O)
  o6 : OwnR W w.heap.size 55 4 v6 L.length (bksV L)
  o8 : OwnR W B8 3 1 v8 n8 (intV a8)
  o9 : OwnR W B9 3 1 v9 n9 (intV a9)
  o10 : OwnR W B10 3 1 v10 O.length (intV a10)
  o11 : OwnR W B10 55 4 v11 L.length (bksV a11)
  s5 : ∀ j, Own v5 j → j < B8
  s6 : ∀ j, Own v6 j → j < B8
  s8 : ∀ j, Own v8 j → j < B9
  s9 : ∀ j, Own v9 j → j < B10
  s : w.heap.size ≤ B8 ∧ B8 ≤ B9 ∧ B9 ≤ B10
variable {w W W' : World} {O : List Int} {L : List Bk} {B8 B9 B10 : Nat} {v5 v6 v8 v9 v10 v11 : Value} {n8 n9 : Nat} {a8 a9 a10 : List Int} {a11 : List Bk}
theorem LQ.below (h : LQ w W O L B8 B9 B10 v5 v6 v8 v9 v10 v11 n8 n9 a8 a9 a10 a11) (hb : Below W.heap.size W W') : LQ w W' O L B8 B9 B10 v5 v6 v8 v9 v10 v11 n8 n9 a8 a9 a10 a11 :=
  ⟨fr h.hb hb, h.o5.below hb, h.o6.below hb, h.o8.below hb, h.o9.below hb, h.o10.below hb, h.o11.below hb, h.s5, h.s6, h.s8, h.s9, h.s⟩
theorem LQ.mark8 (h : LQ w W O L B8 B9 B10 v5 v6 v8 v9 v10 v11 n8 n9 a8 a9 a10 a11) {z : List Int} (ho : OwnR W' B8 3 1 v8 n8 (intV z)) (hk : Keep (Own v8) W W') : LQ w W' O L B8 B9 B10 v5 v6 v8 v9 v10 v11 n8 n9 z a9 a10 a11 :=
  ⟨h.hb.trans (hk.below h.hb.size (fun j hj => by have := (h.o8.ge j hj).1; have := h.s; omega)), h.o5.keep hk (fun j hj e => by have := h.s5 j hj; have := (h.o8.ge j e).1; omega), h.o6.keep hk (own_apart h.o6 h.o8 (by decide)), ho,
    h.o9.keep hk (fun j hj e => by have := h.s8 j e; have := (h.o9.ge j hj).1; omega), h.o10.keep hk (fun j hj e => by have := h.s8 j e; have := (h.o10.ge j hj).1; have := h.s; omega), h.o11.keep hk (own_apart h.o11 h.o8 (by decide)), h.s5, h.s6, h.s8, h.s9, h.s⟩
theorem LQ.mark9 (h : LQ w W O L B8 B9 B10 v5 v6 v8 v9 v10 v11 n8 n9 a8 a9 a10 a11) {z : List Int} (ho : OwnR W' B9 3 1 v9 n9 (intV z)) (hk : Keep (Own v9) W W') : LQ w W' O L B8 B9 B10 v5 v6 v8 v9 v10 v11 n8 n9 a8 z a10 a11 :=
  ⟨h.hb.trans (hk.below h.hb.size (fun j hj => by have := (h.o9.ge j hj).1; have := h.s; omega)), h.o5.keep hk (fun j hj e => by have := h.s5 j hj; have := (h.o9.ge j e).1; have := h.s; omega), h.o6.keep hk (own_apart h.o6 h.o9 (by decide)), h.o8.keep hk (fun j hj e => by have := h.s8 j hj; have := (h.o9.ge j e).1; omega), ho,
    h.o10.keep hk (fun j hj e => by have := h.s9 j e; have := (h.o10.ge j hj).1; omega), h.o11.keep hk (own_apart h.o11 h.o9 (by decide)), h.s5, h.s6, h.s8, h.s9, h.s⟩
theorem LQ.mark10 (h : LQ w W O L B8 B9 B10 v5 v6 v8 v9 v10 v11 n8 n9 a8 a9 a10 a11) {z : List Int} (ho : OwnR W' B10 3 1 v10 O.length (intV z)) (hk : Keep (Own v10) W W') : LQ w W' O L B8 B9 B10 v5 v6 v8 v9 v10 v11 n8 n9 a8 a9 z a11 :=
  ⟨h.hb.trans (hk.below h.hb.size (fun j hj => by have := (h.o10.ge j hj).1; have := h.s; omega)), h.o5.keep hk (fun j hj e => by have := h.s5 j hj; have := (h.o10.ge j e).1; have := h.s; omega), h.o6.keep hk (own_apart h.o6 h.o10 (by decide)), h.o8.keep hk (fun j hj e => by have := h.s8 j hj; have := (h.o10.ge j e).1; have := h.s; omega),
    h.o9.keep hk (fun j hj e => by have := h.s9 j hj; have := (h.o10.ge j e).1; omega), ho, h.o11.keep hk (own_apart h.o11 h.o10 (by decide)), h.s5, h.s6, h.s8, h.s9, h.s⟩
theorem LQ.mark11 (h : LQ w W O L B8 B9 B10 v5 v6 v8 v9 v10 v11 n8 n9 a8 a9 a10 a11) {z : List Bk} (ho : OwnR W' B10 55 4 v11 L.length (bksV z)) (hk : Keep (Own v11) W W') : LQ w W' O L B8 B9 B10 v5 v6 v8 v9 v10 v11 n8 n9 a8 a9 a10 z :=
  ⟨h.hb.trans (hk.below h.hb.size (fun j hj => by have := (h.o11.ge j hj).1; have := h.s; omega)), h.o5.keep hk (own_apart h.o5 h.o11 (by decide)), h.o6.keep hk (fun j hj e => by have := h.s6 j hj; have := (h.o11.ge j e).1; have := h.s; omega), h.o8.keep hk (own_apart h.o8 h.o11 (by decide)), h.o9.keep hk (own_apart h.o9 h.o11 (by decide)), h.o10.keep hk (own_apart h.o10 h.o11 (by decide)), ho, h.s5, h.s6, h.s8, h.s9, h.s⟩
theorem ownZ {W : World} {B t cap : Nat} {ao : Option Addr} {xs : List Bk} (h : OwnR W B t 4 (.slice ao xs.length cap) xs.length (bksV xs)) : Bks W ao xs := ownBks h
theorem ofInts {W : World} {B g : Nat} {xs : List Int} (h : W.ownsRow B 3 1 (.slice (some ⟨g, 0, none⟩) xs.length xs.length) xs.length (intV xs)) : OwnR W B 3 1 (.slice (some ⟨g, 0, none⟩) xs.length xs.length) xs.length (intV xs) := OwnR.of h (fun h0 => ⟨_, by rw [h0]⟩)

set_option maxHeartbeats 6400000 in
theorem lawRunPaxos (ao : Option Addr) (ca : Nat) (vs : List Int) (bo : Option Addr) (cb : Nat) (sc : List Int) (w : World) (hl : vs.length ≤ maxLen) (h1 : Is w ao vs) (hm : sc.length ≤ maxLen) (h2 : Is w bo sc) :
    Calls Try.prog 7 #[.slice ao vs.length ca, .slice bo sc.length cb] w fun e w' => e = .returned (.bool true) ∧ Below w.heap.size w w' := by
  have H1 := hide h1
  have H2 := hide h2
  unfold maxLen at hl hm
  clear h1 h2
  by_cases h : 1048576 < vs.length
  · go_enter Try.func7, Try.ntmps7
    go_wp2
    go_ret
    exact ⟨rfl, Below.refl _ _⟩
  by_cases h' : 1048576 < sc.length
  · go_enter Try.func7, Try.ntmps7
    go_wp2
    go_ret
    exact ⟨rfl, Below.refl _ _⟩
  have HL : Hid (vs.length ≤ 1048576) := hide (by omega)
  have HM : Hid (sc.length ≤ 1048576) := hide (by omega)
  clear hl hm
  have HSP := hide (fun a b ca cb W ha hb => runPaxos_spec a b ca cb vs sc W (unhide HL) (unhide HM) ha hb)
  have HIM := hide (fun a b ca cb W ha hb => runPaxos_impl a b ca cb vs sc W (unhide HL) (unhide HM) ha hb)
  unfold Ran at HSP HIM
  have HOL : Hid ((rnO vs sc).length ≤ 4) := hide (by
    unfold rnO
    split
    · rename_i hf; rw [told_len, (rn_len hf).1]; omega
    · simp)
  have HBL : Hid ((rnB vs sc).length ≤ 4) := hide (by
    unfold rnB
    split
    · rename_i hf; rw [(rn_len hf).2]; omega
    · simp)
  revert HSP HIM HOL HBL
  generalize rnO vs sc = O
  generalize rnB vs sc = L
  generalize rfC vs sc = C
  intro HSP HIM HOL HBL
  go_enter Try.func7, Try.ntmps7
  go_wp2_with fail
  refine (toIntS_any ao ca vs _ (unhide HL) (unhide H1)).mono ?_
  rintro e w1 ⟨g1, rfl, ho1, hb⟩
  have HB1 := hide hb
  have HO1 := hide (ofInts ho1)
  clear hb ho1
  go_wp2_with fail
  refine (toIntS_any bo cb sc _ (unhide HM) ((unhide H2).below (unhide HB1))).mono ?_
  rintro e w2 ⟨g2, rfl, ho2, hb⟩
  have HB2 := hide (fr (unhide HB1) hb)
  have HI1 := hide (ownRN ((unhide HO1).below hb))
  have HI2 := hide (ownRN (ofInts ho2))
  clear hb ho2 HO1 HB1
  go_wp2_with fail
  refine (unhide HSP _ _ _ _ _ (unhide HI1) (unhide HI2)).mono ?_
  rintro e w3 ⟨o5, q5, o6, q6, rfl, ho5, ho6, hb⟩
  have HB3 := hide (fr (unhide HB2) hb)
  have HO5 := hide (ho5.base (unhide HB2).size)
  have HO6 := hide (ho6.base (unhide HB2).size)
  clear hb ho5 ho6 HB2 HI1 HI2
  go_wp2_with fail
  refine (toIntS_any ao ca vs _ (unhide HL) ((unhide H1).below (unhide HB3))).mono ?_
  rintro e w4 ⟨g8, rfl, ho8, hb⟩
  have HB4 := hide (fr (unhide HB3) hb)
  have HP5 := hide ((unhide HO5).below hb)
  have HP6 := hide ((unhide HO6).below hb)
  have HP8 := hide (ofInts ho8)
  have HS5 : Hid (∀ j, Own (.slice o5 O.length q5) j → j < w3.heap.size) := hide (fun j hj => ((unhide HO5).ge j hj).2)
  have HS6 : Hid (∀ j, Own (.slice o6 L.length q6) j → j < w3.heap.size) := hide (fun j hj => ((unhide HO6).ge j hj).2)
  have HZ3 : Hid (w.heap.size ≤ w3.heap.size ∧ w3.heap.size ≤ w4.heap.size) := hide ⟨(unhide HB3).size, hb.size⟩
  clear hb ho8 HO5 HO6 HB3
  go_wp2_with fail
  refine (toIntS_any bo cb sc _ (unhide HM) ((unhide H2).below (unhide HB4))).mono ?_
  rintro e w5 ⟨g9, rfl, ho9, hb⟩
  have HB5 := hide (fr (unhide HB4) hb)
  have HQ5 := hide ((unhide HP5).below hb)
  have HQ6 := hide ((unhide HP6).below hb)
  have HQ8 := hide ((unhide HP8).below hb)
  have HQ9 := hide (ofInts ho9)
  have HS8 : Hid (∀ j, Own (.slice (some ⟨g8, 0, none⟩) vs.length vs.length) j → j < w4.heap.size) := hide (fun j hj => ((unhide HP8).ge j hj).2)
  have HZ4 : Hid (w.heap.size ≤ w3.heap.size ∧ w3.heap.size ≤ w4.heap.size ∧ w4.heap.size ≤ w5.heap.size) := hide ⟨(unhide HZ3).1, (unhide HZ3).2, hb.size⟩
  clear hb ho9 HP5 HP6 HP8 HB4 HZ3
  go_wp2_with fail
  refine (unhide HIM _ _ _ _ _ (ownRN (unhide HQ8)) (ownRN (unhide HQ9))).mono ?_
  rintro e w6 ⟨o10, q10, o11, q11, rfl, ho10, ho11, hb⟩
  have E6 : Hid (LQ w w6 O L w3.heap.size w4.heap.size w5.heap.size (.slice o5 O.length q5) (.slice o6 L.length q6) (.slice (some ⟨g8, 0, none⟩) vs.length vs.length) (.slice (some ⟨g9, 0, none⟩) sc.length sc.length) (.slice o10 O.length q10) (.slice o11 L.length q11) vs.length sc.length vs sc O L) :=
    hide ⟨fr (unhide HB5) hb, (unhide HQ5).below hb, (unhide HQ6).below hb, (unhide HQ8).below hb, (unhide HQ9).below hb, ho10, ho11, unhide HS5, unhide HS6, unhide HS8, fun j hj => ((unhide HQ9).ge j hj).2, unhide HZ4⟩
  clear hb ho10 ho11 HB5 HQ5 HQ6 HQ8 HQ9 HS5 HS6 HS8 HZ4
  revert E6
  generalize w3.heap.size = B8
  generalize w4.heap.size = B9
  generalize w5.heap.size = B10
  intro E6
  have heO := eqNB_self O
  have heV := eqNB_self vs
  have heS := eqNB_self sc
  go_wp2_with fail
  refine (eqIntS_any o10 o5 q10 q5 O O _ (by unfold maxLen; have := unhide HOL; omega) (ownRN (unhide E6).o10) (ownRN (unhide E6).o5)).mono ?_
  rw [heO]
  rintro e w7 ⟨rfl, hb⟩
  have E7 := hide ((unhide E6).below hb)
  clear hb E6
  go_wp2_with fail
  refine (eqBlockS_same o11 o6 q11 q6 L _ (by have := unhide HBL; omega) (ownZ (unhide E7).o11) (ownZ (unhide E7).o6)).mono ?_
  rintro e w8 ⟨rfl, hb⟩
  have E8 := hide ((unhide E7).below hb)
  clear hb E7
  go_wp2_with fail
  refine (toIntS_any ao ca vs _ (unhide HL) ((unhide H1).below (unhide E8).hb)).mono ?_
  rintro e w9 ⟨gg9, rfl, hog, hb⟩
  have E9 := hide ((unhide E8).below hb)
  have HT := hide (ownRN (ofInts hog))
  clear hb hog E8
  go_wp2_with fail
  refine (eqIntS_any _ _ _ _ vs vs _ (by unfold maxLen; have := unhide HL; omega) (ownRN (unhide E9).o8) (unhide HT)).mono ?_
  rw [heV]
  rintro e w10 ⟨rfl, hb⟩
  have E10 := hide ((unhide E9).below hb)
  clear hb E9 HT
  go_wp2_with fail
  refine (toIntS_any bo cb sc _ (unhide HM) ((unhide H2).below (unhide E10).hb)).mono ?_
  rintro e w11 ⟨gg11, rfl, hog, hb⟩
  have E11 := hide ((unhide E10).below hb)
  have HT := hide (ownRN (ofInts hog))
  clear hb hog E10
  go_wp2_with fail
  refine (eqIntS_any _ _ _ _ sc sc _ (by unfold maxLen; have := unhide HM; omega) (ownRN (unhide E11).o9) (unhide HT)).mono ?_
  rw [heS]
  rintro e w12 ⟨rfl, hb⟩
  have E12 := hide ((unhide E11).below hb)
  clear hb E11 HT
  go_wp2_with fail
  refine (markIntS_any _ vs.length 1 _ B8 _ (by have := unhide HL; have := unhide HM; have := unhide HOL; have := unhide HBL; omega) (by omega) (by have := unhide HL; have := unhide HM; have := unhide HOL; have := unhide HBL; omega) (unhide E12).o8).mono ?_
  rintro e w13 ⟨rfl, ho, hk⟩
  have E13 := hide ((unhide E12).mark8 ho hk)
  clear ho hk E12
  go_wp2_with fail
  refine (markIntS_any _ sc.length (1 + vs.length) _ B9 _ (by have := unhide HL; have := unhide HM; have := unhide HOL; have := unhide HBL; omega) (by omega) (by have := unhide HL; have := unhide HM; have := unhide HOL; have := unhide HBL; omega) (unhide E13).o9).mono ?_
  rintro e w14 ⟨rfl, ho, hk⟩
  have E14 := hide ((unhide E13).mark9 ho hk)
  clear ho hk E13
  have hk0 : ¬ (((1 + vs.length + sc.length : Nat) : Int) < 0) := by omega
  go_wp2_with fail
  refine (eqIntS_any o10 o5 q10 q5 O O _ (by unfold maxLen; have := unhide HOL; omega) (ownRN (unhide E14).o10) (ownRN (unhide E14).o5)).mono ?_
  rw [heO]
  rintro e w15 ⟨rfl, hb⟩
  have E15 := hide ((unhide E14).below hb)
  clear hb E14
  go_wp2_with fail
  refine (eqBlockS_same o11 o6 q11 q6 L _ (by have := unhide HBL; omega) (ownZ (unhide E15).o11) (ownZ (unhide E15).o6)).mono ?_
  rintro e w16 ⟨rfl, hb⟩
  have E16 := hide ((unhide E15).below hb)
  clear hb E15
  go_wp2_with fail
  refine (markIntS_any _ O.length 1 _ B10 _ (by have := unhide HL; have := unhide HM; have := unhide HOL; have := unhide HBL; omega) (by omega) (by have := unhide HL; have := unhide HM; have := unhide HOL; have := unhide HBL; omega) (unhide E16).o10).mono ?_
  rintro e w17 ⟨rfl, ho, hk⟩
  have E17 := hide ((unhide E16).mark10 ho hk)
  clear ho hk E16
  go_wp2_with fail
  refine (markBlockS_any _ L.length (1 + O.length) _ B10 _ (by have := unhide HL; have := unhide HM; have := unhide HOL; have := unhide HBL; omega) (by omega) (by have := unhide HL; have := unhide HM; have := unhide HOL; have := unhide HBL; omega) (unhide E17).o11).mono ?_
  rintro e w18 ⟨rfl, ho, hk⟩
  have E18 := hide ((unhide E17).mark11 ho hk)
  clear ho hk E17
  have hk1 : ¬ (((1 + O.length : Nat) : Int) < 0) := by omega
  have hk2 : ¬ (((1 + O.length + L.length * 4 : Nat) : Int) < 0) := by omega
  go_wp2_with fail
  refine (heldIntS_any _ O.length 1 B10 _ (by have := unhide HL; have := unhide HM; have := unhide HOL; have := unhide HBL; omega) (by omega) (by have := unhide HL; have := unhide HM; have := unhide HOL; have := unhide HBL; omega) (unhide E18).o10).mono ?_
  rintro e w19 ⟨rfl, hb⟩
  have E19 := hide ((unhide E18).below hb)
  clear hb E18
  go_wp2_with fail
  refine (heldBlockS_any _ L.length (1 + O.length) B10 _ (by have := unhide HL; have := unhide HM; have := unhide HOL; have := unhide HBL; omega) (by omega) (by have := unhide HL; have := unhide HM; have := unhide HOL; have := unhide HBL; omega) (unhide E19).o11).mono ?_
  rintro e w20 ⟨rfl, hb⟩
  have E20 := hide ((unhide E19).below hb)
  clear hb E19
  go_wp2_with fail
  refine (toIntS_any ao ca vs _ (unhide HL) ((unhide H1).below (unhide E20).hb)).mono ?_
  rintro e w21 ⟨gg21, rfl, hog, hb⟩
  have E21 := hide ((unhide E20).below hb)
  have HT1 := hide (ownRN (ofInts hog))
  clear hb hog E20
  go_wp2_with fail
  refine (toIntS_any bo cb sc _ (unhide HM) ((unhide H2).below (unhide E21).hb)).mono ?_
  rintro e w22 ⟨gg22, rfl, hog, hb⟩
  have E22 := hide ((unhide E21).below hb)
  have HU1 := hide ((unhide HT1).below hb)
  have HU2 := hide (ownRN (ofInts hog))
  clear hb hog E21 HT1
  go_wp2_with fail
  refine (unhide HIM _ _ _ _ _ (unhide HU1) (unhide HU2)).mono ?_
  rintro e w23 ⟨o13, q13, o14, q14, rfl, ho13, ho14, hb⟩
  have E23 := hide ((unhide E22).below hb)
  have HI13 := hide (ownRN ho13)
  have HI14 := hide (ownZ ho14)
  clear hb ho13 ho14 E22 HU1 HU2
  go_wp2_with fail
  refine (eqIntS_any o13 o5 q13 q5 O O _ (by unfold maxLen; have := unhide HOL; omega) (unhide HI13) (ownRN (unhide E23).o5)).mono ?_
  rw [heO]
  rintro e w24 ⟨rfl, hb⟩
  have E24 := hide ((unhide E23).below hb)
  have HJ14 := hide ((unhide HI14).below hb)
  clear hb E23 HI13 HI14
  go_wp2_with fail
  refine (eqBlockS_same o14 o6 q14 q6 L _ (by have := unhide HBL; omega) (unhide HJ14) (ownZ (unhide E24).o6)).mono ?_
  rintro e w25 ⟨rfl, hb⟩
  have E25 := hide ((unhide E24).below hb)
  clear hb E24 HJ14
  go_wp2_with fail
  refine (heldIntS_any _ O.length 1 B10 _ (by have := unhide HL; have := unhide HM; have := unhide HOL; have := unhide HBL; omega) (by omega) (by have := unhide HL; have := unhide HM; have := unhide HOL; have := unhide HBL; omega) (unhide E25).o10).mono ?_
  rintro e w26 ⟨rfl, hb⟩
  have E26 := hide ((unhide E25).below hb)
  clear hb E25
  go_wp2_with fail
  refine (heldBlockS_any _ L.length (1 + O.length) B10 _ (by have := unhide HL; have := unhide HM; have := unhide HOL; have := unhide HBL; omega) (by omega) (by have := unhide HL; have := unhide HM; have := unhide HOL; have := unhide HBL; omega) (unhide E26).o11).mono ?_
  rintro e w27 ⟨rfl, hb⟩
  have E27 := hide ((unhide E26).below hb)
  clear hb E26
  go_wp2
  go_ret
  exact ⟨rfl, (unhide E27).hb⟩

end Go.Proofs.Ytdigphemaccodab
