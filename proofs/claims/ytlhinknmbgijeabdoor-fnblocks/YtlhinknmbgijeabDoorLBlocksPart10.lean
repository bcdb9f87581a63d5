/- The walk of laws.FnBlocks. -/
import Derived.Test.YtlhinknmbgijeabDoorRows
import Derived.Test.YtlhinknmbgijeabDoorLBlocksPart1
import Derived.Test.YtlhinknmbgijeabDoorLBlocksPart3
import Derived.Test.YtlhinknmbgijeabDoorLBlocksPart4
import Derived.Test.YtlhinknmbgijeabDoorLBlocksPart5
import Derived.Test.YtlhinknmbgijeabDoorLBlocksPart9
import Derived.WalkKit
import Derived.WalkSpells

namespace Go.Proofs.YtlhinknmbgijeabDoor
open Go.RowKit
set_option linter.unusedVariables false
set_option maxRecDepth 100000

theorem bk_all {x : Bk} (h : bkB x = true) : allB [x.ver, x.mbal, x.bal, x.inp] = true := by
  obtain ⟨h1, h2, h3, h4, _⟩ := bkB_iff.1 h
  simp [allB, numB, inB]; omega
theorem bd_enc {x : Bk} (h : bkB x = true) : bdB (encB x) = true ∧ bdK (encB x) = x := by
  have ho : openB (encB x) 5 = true := openB_rec.2 ⟨rec_seal (by omega) (bk_all h) (by simp), seal_kind (by omega) (by simp)⟩
  have hl : bdL (encB x) = [x.ver, x.mbal, x.bal, x.inp] := by
    rw [bdL, openL_yes ho, encB, body_seal, un_pack (bk_all h)]
  have hb : bdB (encB x) = true := by rw [bdB_at ho hl]; exact h
  exact ⟨hb, bd_yes hb hl⟩
theorem bc_enc {x : Bk} (h : bkB x = true) : bcK (encB x) = x ∧ bcC (encB x) = 0 := by
  obtain ⟨h1, h2⟩ := bd_enc h
  obtain ⟨h3, h4⟩ := bc_yes (t := encB x) (by rw [encB_size]; omega) h1
  exact ⟨h3.trans h2, h4⟩
theorem bc_cut (x : Bk) {q : Nat} (hq : q < 20) : bcC ((encB x).extract 0 q) = 3 := by
  have hc := opC_cut (k := 5) (xs := [x.ver, x.mbal, x.bal, x.inp]) (q := q) (by omega) (by simp) (by simpa using hq)
  have hs : ¬ 65536 < ((encB x).extract 0 q).size := by rw [ByteArray.size_extract, encB_size]; omega
  refine (bc_no hs (bdB_open ?_)).2
  rw [Bool.eq_false_iff]
  intro ho
  obtain ⟨h1, h2⟩ := openB_rec.1 ho
  have : opC ((encB x).extract 0 q) 5 = 0 := opC_ok hs (kindB_of (by omega)) (recB_true h1) h2
  rw [show (encB x).extract 0 q = (sealS 5 [x.ver, x.mbal, x.bal, x.inp]).extract 0 q from rfl] at this
  rw [this] at hc
  exact absurd hc (by decide)

set_option maxHeartbeats 1600000 in
theorem blockOf_any (so : Option Addr) (n cap : Nat) (w : World) (hn : n ≤ 1048576) (hB : Bs w so n) :
    Calls Tryd.prog 15 #[.slice so n cap] w fun e w' => ∃ x : Bk, e = .returned (bV x) ∧ bkB x = true ∧ Below w.heap.size w w' := by
  have HV := hide (VarB.new0 w 42)
  have HA := hide (Joins.below_alloc1 w (.cells #[.int .i64 0, .int .i64 0, .int .i64 0, .int .i64 0] 42))
  have HBS := hide (hB.below (unhide HA))
  clear hB
  go_enter Tryd.func15, Tryd.ntmps15
  go_wp2_with fail
  refine (source_any so n cap _ hn (unhide HBS)).mono ?_
  rintro e w1 ⟨rfl, hs1, hb1, hz⟩
  have HB1 := hide (fr (unhide HA) hb1)
  have HV1 := hide ((unhide HV).below hb1)
  simp only [World.size_alloc] at hs1
  have HS1 := hide hs1
  have hz1 : w1.heap.size = w.heap.size + 2 := by rw [hz]; simp
  clear hs1 hb1 hz
  go_wp2_with fail
  refine (block_k _ so n cap 0 _ (by omega) hn (unhide HS1)).mono ?_
  rintro e w2 ⟨v, m, b, i, rfl, h1, h2, h3, h4, h5, hs2, hk⟩
  have HX : Hid (bkB ⟨v, m, b, i⟩ = true) := hide (bkB_iff.2 ⟨⟨h1.1, by show v ≤ 1000000; omega⟩, ⟨h2.1, by show m ≤ 1000000; omega⟩, ⟨h3.1, h3.2⟩, ⟨h4.1, by show i ≤ 2147483647; omega⟩, by show 0 < b ∨ i = 0; by_cases hb : b = 0; exact .inr (h5 hb); exact .inl (by omega)⟩)
  have HV2 := hide ((unhide HV1).keep hk (by simp))
  have HW2 := hide ((unhide HB1).trans (hk.below (B := w.heap.size) (by omega) (fun k hk => by rw [hk]; simp)))
  clear hk hs2 h1 h2 h3 h4 h5
  obtain ⟨c0, c1, c2, c3⟩ := (unhide HV2).cells
  obtain ⟨z0, z1, z2, z3⟩ := (unhide HV2).free
  go_wp2
  exact bodyPost_ret (v := bV ⟨v, m, b, i⟩) (by simp [results, Tryd.results15, go_sem, c0, c1, c2, c3]) rfl ⟨⟨v, m, b, i⟩, rfl, unhide HX, below4 (unhide HW2) (Nat.le_refl _) 0 1 2 3 _ _ _ _⟩

set_option maxHeartbeats 3200000 in
theorem lawBlocks (ao : Option Addr) (ca n : Nat) (bo : Option Addr) (cb l : Nat) (w : World) (hn : n ≤ maxLen) (hB : Bs w ao n) (hl : l ≤ maxLen) (hC : Bs w bo l) (hE : ErrW w) :
    Calls Tryd.prog 4 #[.slice ao n ca, .slice bo l cb] w fun e w' => e = .returned (.bool true) ∧ Below w.heap.size w w' := by
  have HE := hide hE
  have HBS := hide hB
  have HCS := hide hC
  clear hE hB hC
  unfold maxLen at hn hl
  by_cases h : 1048576 < n
  · go_enter Tryd.func4, Tryd.ntmps4
    go_wp2
    go_ret
    exact ⟨rfl, Below.refl _ _⟩
  by_cases h2 : 1048576 < l
  · go_enter Tryd.func4, Tryd.ntmps4
    go_wp2
    go_ret
    exact ⟨rfl, Below.refl _ _⟩
  have hn' : n ≤ 1048576 := by omega
  have hl' : l ≤ 1048576 := by omega
  go_enter Tryd.func4, Tryd.ntmps4
  go_wp2_with fail
  refine (blockOf_any ao n ca _ hn' (unhide HBS)).mono ?_
  rintro e w1 ⟨x, rfl, hx, hb⟩
  have HX := hide hx
  have HB1 := hide (fr hb (Joins.below_alloc1 w1 (.cells #[.int .i64 x.ver, .int .i64 x.mbal, .int .i64 x.bal, .int .i64 x.inp] 42)))
  have HV1 := hide (VarB.new w1 42 x)
  clear hb hx
  go_upto_region 4 with fail
  revert HB1 HV1
  generalize w1.alloc (.cells #[.int .i64 x.ver, .int .i64 x.mbal, .int .i64 x.bal, .int .i64 x.inp] 42) = W1
  generalize w1.heap.size = a
  intro HB1 HV1
  have HR : Hid (ebR x = encB x) := hide (if_pos (unhide HX))
  have HCC : Hid (ebC x = 0) := hide (if_pos (unhide HX))
  obtain ⟨c0, c1, c2, c3⟩ := (unhide HV1).cells
  go_wp2_with fail
  refine (encodeBlock_impl x _).mono ?_
  rw [unhide HR, unhide HCC]
  rintro e w2 ⟨rfl, hb⟩
  have HB2 := hide (fr (unhide HB1) hb)
  have HV2 := hide ((unhide HV1).below hb)
  clear hb c0 c1 c2 c3 HB1 HV1
  obtain ⟨c0, c1, c2, c3⟩ := (unhide HV2).cells
  go_wp2_with fail
  refine (encodeBlock_spec x _).mono ?_
  rw [unhide HR, unhide HCC]
  rintro e w3 ⟨rfl, hb⟩
  have HB3 := hide (fr (unhide HB2) hb)
  have HV3 := hide ((unhide HV2).below hb)
  clear hb c0 c1 c2 c3 HB2 HV2
  have HSZ := hide (encB_size x)
  have HCUT := hide (fun q (hq : q < 20) => bc_cut x (q := q) hq)
  have HDE := hide (bc_enc (unhide HX))
  have HDD := hide (fun W hW => decodeBlock_impl (encB x) W hW)
  rw [(unhide HDE).1, (unhide HDE).2] at HDD
  have HDC := hide (fun (q : Nat) W hW => decodeBlock_impl ((encB x).extract 0 q) W hW)
  revert HSZ HCUT HDD HDC
  clear HDE HR HCC
  generalize encB x = T
  intro HSZ HCUT HDD HDC
  go_wp2_with fail
  refine (unhide HDD _ ((unhide HE).below (unhide HB3))).mono ?_
  rintro e w4 ⟨rfl, hb⟩
  have HB4 := hide (fr (fr (unhide HB3) hb) (Joins.below_alloc1 w4 (.cells #[.int .i64 x.ver, .int .i64 x.mbal, .int .i64 x.bal, .int .i64 x.inp] 42)))
  have HV4 := hide (((unhide HV3).below hb).below (Joins.below_alloc1 w4 (.cells #[.int .i64 x.ver, .int .i64 x.mbal, .int .i64 x.bal, .int .i64 x.inp] 42)))
  have HU4 := hide (VarB.new w4 42 x)
  clear hb HB3 HV3
  go_upto_region 7 with fail
  revert HB4 HV4 HU4
  generalize w4.alloc (.cells #[.int .i64 x.ver, .int .i64 x.mbal, .int .i64 x.bal, .int .i64 x.inp] 42) = W4
  generalize w4.heap.size = b
  intro HB4 HV4 HU4
  obtain ⟨c0, c1, c2, c3⟩ := (unhide HV4).cells
  obtain ⟨d0, d1, d2, d3⟩ := (unhide HU4).cells
  have hx := unhide HX
  have hsz := unhide HSZ
  go_wp2_with fail
  refine (blockOK_impl x _).mono ?_
  rw [hx]
  rintro e w5 ⟨rfl, hb⟩
  have HB5 := hide (fr (unhide HB4) hb)
  clear hb c0 c1 c2 c3 d0 d1 d2 d3 HB4 HV4 HU4
  go_wp2_with fail
  refine (at_any bo l cb 0 20 _ hl' (by omega) (by omega) (by omega) (by omega) ((unhide HCS).below (unhide HB5))).mono ?_
  rintro e w6 ⟨q, rfl, hq0, hq1, hb⟩
  have HB6 := hide (fr (unhide HB5) hb)
  clear hb HB5
  obtain ⟨qn, rfl⟩ := Int.eq_ofNat_of_zero_le hq0
  have HCQ := hide (unhide HCUT qn (by omega))
  go_wp2_with fail
  refine (unhide HDC qn _ ((unhide HE).below (unhide HB6))).mono ?_
  rw [unhide HCQ]
  rintro e w7 ⟨rfl, hb⟩
  have HB7 := hide (fr (fr (unhide HB6) hb) (Joins.below_alloc1 w7 (.cells #[.int .i64 (bcK (T.extract 0 qn)).ver, .int .i64 (bcK (T.extract 0 qn)).mbal, .int .i64 (bcK (T.extract 0 qn)).bal, .int .i64 (bcK (T.extract 0 qn)).inp] 42)))
  clear hb HB6
  go_wp2
  go_ret
  exact ⟨rfl, unhide HB7⟩

end Go.Proofs.YtlhinknmbgijeabDoor
