/- The walk of laws.FnDisk. -/
import Derived.Test.YtoiclgeeaednnaaRows
import Derived.Test.YtoiclgeeaednnaaGen
import Derived.Test.YtoiclgeeaednnaaKeep
import Derived.Test.YtoiclgeeaednnaaDiskW
import Derived.Test.YtoiclgeeaednnaaPendI
import Derived.Test.YtoiclgeeaednnaaDrop
import Derived.Test.YtoiclgeeaednnaaLandP
import Derived.Test.YtoiclgeeaednnaaSrc
import Derived.Test.YtoiclgeeaednnaaSrcG
import Derived.Test.YtoiclgeeaednnaaAtN
import Derived.Test.YtoiclgeeaednnaaSrcE
import Derived.Test.YtoiclgeeaednnaaSrcF
import Derived.Test.YtoiclgeeaednnaaSrcI
import Derived.Test.YtoiclgeeaednnaaSameD
import Derived.Test.YtoiclgeeaednnaaLawDk
import Derived.WalkKit
import Derived.WalkSpells
import Derived.Deep.RegionHeld3
import Derived.Deep.RegionWith
namespace Go.Proofs.Ytoiclgeeaednnaa
open Go.RowKit
set_option linter.unusedVariables false

theorem of_snoc {xs : List Wr} {h a : Int} {t : ByteArray} : ofH h (xs ++ [⟨h, a, t⟩]) = ofH h xs ++ [⟨h, a, t⟩] := by simp [ofH]
theorem drop_drop (h : Int) (xs : List Wr) : dropF h (dropF h xs) = dropF h xs := by
  have := rem_all (h := h) 0 (dropF h xs) (by rw [of_drop]; exact Nat.le_refl _)
  rw [remH_zero] at this
  exact this.symm
/-- Flushed, a host's last write is what is sure there. -/
theorem sure_last {ss : List ByteArray} {xs : List Wr} {h a : Int} {t : ByteArray} (hl : ss.length = 64) (a0 : 0 ≤ a) (a1 : a ≤ 63) :
    readV (putW ss (ofH h (xs ++ [⟨h, a, t⟩]))) (dropF h (xs ++ [⟨h, a, t⟩])) h a = t := by
  rw [read_sure (of_drop h _), of_snoc, put_snoc]
  have hlen := put_len ss (ofH h xs)
  simp only [List.getD_eq_getElem?_getD]
  rw [List.getElem?_set_self (by omega)]
  rfl

set_option maxRecDepth 100000 in
set_option maxHeartbeats 3200000 in
theorem lawDisk (ao : Option Addr) (ca n1 : Nat) (bo : Option Addr) (cb n2 : Nat) (w : World) (hn : n1 ≤ maxLen) (hB : Bs w ao n1) (hm : n2 ≤ maxLen) (hD : Bs w bo n2) :
    Calls Try.prog 3 #[.slice ao n1 ca, .slice bo n2 cb] w fun e w' => e = .returned (.bool true) ∧ Below w.heap.size w w' := by
  unfold maxLen at hn hm
  have S0 : Hid (Se w w bo n2 []) := hide ⟨Below.refl _ _, hD, (fun p hp => by cases hp), (fun p hp => by cases hp)⟩
  have HB := hide hB
  clear hB hD
  by_cases h : 1048576 < n1
  · go_enter Try.func3, Try.ntmps3
    go_wp2
    go_ret
    exact ⟨rfl, Below.refl _ _⟩
  by_cases h' : 1048576 < n2
  · go_enter Try.func3, Try.ntmps3
    go_wp2
    go_ret
    exact ⟨rfl, Below.refl _ _⟩
  have hn' : n1 ≤ 1048576 := by omega
  have hm' : n2 ≤ 1048576 := by omega
  clear hn hm h h'
  go_enter Try.func3, Try.ntmps3
  go_wp2_with fail
  refine (diskOf_any ao n1 ca _ hn' (unhide HB)).mono ?_
  rintro e w1 ⟨ss, xs, po, pa, qo, qa, rfl, hd, hl, hs1, hi1, hb1⟩
  have S1 := hide (((unhide S0).next hb1).new (pa := pa) (qa := qa) hs1 hi1)
  have HD := hide hd
  have H64 := hide (diskB_len hd).1
  clear hd hs1 hi1 hb1 S0 HB
  go_wp2_with fail
  revert S1
  generalize w1.alloc (.cells #[.slice po ss.length pa, .slice qo xs.length qa] 26) = W1
  generalize w1.heap.size = C0
  intro S1
  refine (at_any bo n2 cb 0 4 _ hm' (by omega) (by omega) (by omega) (by omega) (unhide S1).b).mono ?_
  rintro e w2 ⟨h, rfl, h0, h4, hb⟩
  have S2 := hide ((unhide S1).next hb)
  clear hb S1
  go_wp2_with fail
  refine (at_any bo n2 cb 1 64 _ hm' (by omega) (by omega) (by omega) (by omega) (unhide S2).b).mono ?_
  rintro e w3 ⟨k, rfl, k0, k64, hb⟩
  have S3 := hide ((unhide S2).next hb)
  clear hb S2
  go_wp2_with fail
  refine (textOf_any bo n2 cb 6 _ (by omega) hm' (unhide S3).b).mono ?_
  rintro e w4 ⟨t, rfl, ht, hb⟩
  have S4 := hide ((unhide S3).next hb)
  have HT := hide ht
  clear hb S3 ht
  obtain ⟨xs1, hx1⟩ : ∃ y, xs ++ [(⟨h, k, t⟩ : Wr)] = y := ⟨_, rfl⟩
  have HX1 := hide hx1
  have HD1 : Hid (diskB ss xs1 = true) := hide (by rw [← hx1]; exact diskB_snoc (unhide HD) (by omega) (ioB_parts.2 ⟨⟨h0, by show h ≤ 3; omega⟩, ⟨k0, by show k ≤ 63; omega⟩, by show t.size ≤ 80; rw [unhide HT]; omega⟩))
  have HOwn : Hid (readV ss xs1 h k = t) := hide (by rw [← hx1]; exact read_own)
  obtain ⟨o, ho⟩ : ∃ o, (h + 1) % 4 = o := ⟨_, rfl⟩
  have o0 : 0 ≤ o := by omega
  have o3 : o ≤ 3 := by omega
  have hoh : o ≠ h := by omega
  obtain ⟨rv, hrv⟩ : ∃ y, readV ss xs o k = y := ⟨_, rfl⟩
  have HWas := hide hrv
  have HOther : Hid (readV ss xs1 o k = rv) := hide (by rw [← hx1, read_other hoh]; exact hrv)
  obtain ⟨SS, hSS⟩ : ∃ y, putW ss (ofH h xs1) = y := ⟨_, rfl⟩
  obtain ⟨XX, hXX⟩ : ∃ y, dropF h xs1 = y := ⟨_, rfl⟩
  have HSS := hide hSS
  have HXX := hide hXX
  have HD2 : Hid (diskB SS XX = true) := hide (by rw [← hSS, ← hXX]; exact diskB_put (unhide HD1) (fun x hx => of_mem hx) (fun x hx => drop_mem hx) (drop_le h xs1))
  have HO2 : Hid (ofH h XX = []) := hide (by rw [← hXX]; exact of_drop h xs1)
  have HDD : Hid (dropF h XX = XX) := hide (by rw [← hXX]; exact drop_drop h xs1)
  have HSure : Hid (readV SS XX h k = t) := hide (by rw [← hSS, ← hXX, ← hx1]; exact sure_last (unhide H64) k0 (by omega))
  have h3 : h ≤ 3 := by omega
  have k3 : k ≤ 63 := by omega
  clear hx1 hoh hrv hSS hXX
  obtain ⟨a0, c0, b0, d0, hdv⟩ := (unhide S4).dv (C0, ss, xs) (by simp)
  obtain ⟨v0, v1⟩ := hdv.var.cells
  go_wp2_with fail
  refine (write_in a0 b0 c0 d0 ss xs _ h k t xs1 (unhide HX1) (unhide HD) (by omega) (by rw [unhide HT]; omega) h0 h3 k0 k3 hdv.s hdv.i).mono ?_
  rintro e w5 ⟨po1, pa1, qo1, qa1, rfl, hs5, hi5, hb5⟩
  have S5 := hide (((unhide S4).next hb5).new (pa := pa1) (qa := qa1) hs5 hi5)
  have HS5 := hide (hs5.below (Joins.below_alloc1 w5 (.cells #[.slice po1 ss.length pa1, .slice qo1 xs1.length qa1] 26)))
  have HI5 := hide (hi5.below (Joins.below_alloc1 w5 (.cells #[.slice po1 ss.length pa1, .slice qo1 xs1.length qa1] 26)))
  clear hs5 hi5 hb5 S4 hdv v0 v1
  go_wp2_with fail
  revert S5 HS5 HI5
  generalize w5.alloc (.cells #[.slice po1 ss.length pa1, .slice qo1 xs1.length qa1] 26) = W5
  generalize w5.heap.size = C1
  intro S5 HS5 HI5
  refine (read_in po1 qo1 pa1 qa1 ss xs1 _ h k t (unhide HOwn) (unhide HD1) h0 h3 k0 k3 (unhide HS5) (unhide HI5)).mono ?_
  rintro e w6 ⟨rfl, hb⟩
  have S6 := hide ((unhide S5).next hb)
  clear hb S5 HS5 HI5
  obtain ⟨a1, c1, b1, d1, hdv⟩ := (unhide S6).dv (C1, ss, xs1) (by simp)
  obtain ⟨v0, v1⟩ := hdv.var.cells
  go_wp2_with fail
  refine (read_in a1 b1 c1 d1 ss xs1 _ o k rv (unhide HOther) (unhide HD1) o0 o3 k0 k3 hdv.s hdv.i).mono ?_
  rintro e w7 ⟨rfl, hb⟩
  have S7 := hide ((unhide S6).next hb)
  clear hb S6 hdv v0 v1
  obtain ⟨a2, c2, b2, d2, hdv⟩ := (unhide S7).dv (C0, ss, xs) (by simp)
  obtain ⟨v0, v1⟩ := hdv.var.cells
  go_wp2_with fail
  refine (read_in a2 b2 c2 d2 ss xs _ o k rv (unhide HWas) (unhide HD) o0 o3 k0 k3 hdv.s hdv.i).mono ?_
  rintro e w8 ⟨rfl, hb⟩
  have S8 := hide ((unhide S7).next hb)
  clear hb S7 hdv v0 v1
  obtain ⟨a3, c3, b3, d3, hdv⟩ := (unhide S8).dv (C1, ss, xs1) (by simp)
  obtain ⟨v0, v1⟩ := hdv.var.cells
  go_wp2_with fail
  refine (flush_in a3 b3 c3 d3 ss xs1 _ h SS XX (unhide HSS) (unhide HXX) (unhide HD1) h0 h3 hdv.s hdv.i).mono ?_
  rintro e w9 ⟨po2, pa2, qo2, qa2, rfl, hs9, hi9, hb9⟩
  have S9 := hide (((unhide S8).next hb9).new (pa := pa2) (qa := qa2) hs9 hi9)
  clear hs9 hi9 hb9 S8 hdv v0 v1
  go_wp2_with fail
  revert S9
  generalize w9.alloc (.cells #[.slice po2 SS.length pa2, .slice qo2 XX.length qa2] 26) = W9
  generalize w9.heap.size = C2
  intro S9
  obtain ⟨a4, c4, b4, d4, hdv⟩ := (unhide S9).dv (C2, SS, XX) (by simp)
  have HV := hide hdv
  obtain ⟨v0, v1⟩ := hdv.var.cells
  clear hdv
  have HLT : Hid (∀ p ∈ [(C2, SS, XX), (C1, ss, xs1), (C0, ss, xs)], p.1 < W9.heap.size) := hide (fun p hp => (unhide S9).lt p hp)
  have HN0 : W9.heap.size ≠ C2 := World.new_ne W9 ⟨C2, 0, none⟩ v0
  have HWH : Hid (w.heap.size ≤ W9.heap.size) := hide (unhide S9).below.size
  go_region_held3 (fun w' => w'.cell? ⟨C2, 0, none⟩ = some (.slice a4 SS.length c4) ∧ w'.cell? ⟨C2, 1, none⟩ = some (.slice b4 XX.length d4)) (go_keep)
    (first
      | (go_at_call 8; refine (at_any bo n2 cb 2 4 _ hm' (by omega) (by omega) (by omega) (by omega) ?_).mono ?_; (first | exact (unhide S9).b.below ((Below.refl _ _).drew) | exact ((unhide S9).b.below ((Below.refl _ _).drew)).below (Joins.below_alloc1 _ _)); rintro e wA ⟨kq, rfl, kq0, kq4, hbA⟩; have hWA : Below W9.heap.size W9 wA := (by first | exact fr ((Below.refl _ _).drew) hbA | exact fr (fr ((Below.refl _ _).drew) (Joins.below_alloc1 _ _)) hbA); (try (have hzA := hide (VarD.below (show VarD (W9.drew.alloc (.cells #[.slice none 0 0, .slice none 0 0] 26)) W9.heap.size (.slice none 0 0) (.slice none 0 0) from heap_alloc_new W9.drew _) hbA))); have VA := hide ((unhide HV).below hWA); obtain ⟨y0, y1⟩ := (unhide VA).var.cells; have HNA : wA.heap.size ≠ C2 := World.new_ne wA ⟨C2, 0, none⟩ y0; have SA := hide ((unhide S9).next hWA); have HZA := hide hWA.size; obtain ⟨kk, rfl⟩ := Int.eq_ofNat_of_zero_le kq0; clear hbA hWA)
      | (go_at_call 13; refine (lose_in a4 b4 c4 d4 SS XX _ h kk SS XX (by rw [unhide HO2]; simp [putW]) (unhide HDD) (by omega) (unhide HD2) h0 h3 ?_ ?_).mono ?_; (first | exact (unhide VA).s | exact (unhide VA).s.below (Joins.below_alloc1 _ _)); (first | exact (unhide VA).i | exact (unhide VA).i.below (Joins.below_alloc1 _ _)); rintro e wB ⟨po3, pa3, qo3, qa3, rfl, hsB, hiB, hbB⟩; have hWB : Below wA.heap.size wA wB := (by first | exact hbB | exact fr (Joins.below_alloc1 _ _) hbB); (first | (have hzB := hide ((unhide hzA).below hWB); obtain ⟨x0, x1⟩ := (unhide hzB).cells; have f0 := (unhide hzB).free 0; have f1 := (unhide hzB).free 1) | (have hzB := hide (VarD.below (show VarD (wA.alloc (.cells #[.slice none 0 0, .slice none 0 0] 26)) wA.heap.size (.slice none 0 0) (.slice none 0 0) from heap_alloc_new wA _) hbB); obtain ⟨x0, x1⟩ := (unhide hzB).cells; have f0 := (unhide hzB).free 0; have f1 := (unhide hzB).free 1) | skip); have VB := hide ((unhide VA).below hWB); obtain ⟨z0, z1⟩ := (unhide VB).var.cells; have SB := hide ((unhide SA).next hWB); have HSB := hide hsB; have HIB := hide hiB; have HN1 : wB.heap.size ≠ C2 := World.new_ne wB ⟨C2, 0, none⟩ z0; clear hsB hiB hbB hWB))
  have S10 := hide (((unhide SB).new (pa := pa3) (qa := qa3) (unhide HSB) (unhide HIB)).dropB)
  revert S10
  generalize wB.alloc (.cells #[.slice po3 SS.length pa3, .slice qo3 XX.length qa3] 26) = W10
  generalize wB.heap.size = C3
  intro S10
  rotate_left
  have S10 := hide ((unhide SB).zstore (pa := pa3) (qa := qa3) (unhide hzB) (unhide HWH) (unhide HZA) (unhide HLT) (unhide HSB) (unhide HIB))
  revert S10
  generalize (wB.setCell ⟨wA.heap.size, 0, none⟩ (.slice po3 SS.length pa3)).setCell ⟨wA.heap.size, 1, none⟩ (.slice qo3 XX.length qa3) = W10
  generalize wA.heap.size = C3
  intro S10
  rotate_left
  have S10 := hide ((unhide SB).zstore (pa := pa3) (qa := qa3) (unhide hzB) (unhide HWH) (Nat.le_refl _) (unhide HLT) (unhide HSB) (unhide HIB))
  revert S10
  generalize (wB.setCell ⟨W9.heap.size, 0, none⟩ (.slice po3 SS.length pa3)).setCell ⟨W9.heap.size, 1, none⟩ (.slice qo3 XX.length qa3) = W10
  generalize W9.heap.size = C3
  intro S10
  rotate_left
  all_goals
    clear v0 v1 HN0 y0 y1 z0 z1 HN1 HNA VA VB SA SB HSB HIB HZA HV
    (try clear hzB x0 x1 f0 f1)
    (try clear hzA)
    (try clear hHeld)
    obtain ⟨a5, c5, b5, d5, hdv⟩ := (unhide S10).dv (C3, SS, XX) (by simp)
    obtain ⟨v0, v1⟩ := hdv.var.cells
    go_wp2_with fail
    refine (read_in a5 b5 c5 d5 SS XX _ h k t (unhide HSure) (unhide HD2) h0 h3 k0 k3 hdv.s hdv.i).mono ?_
    rintro e w11 ⟨rfl, hb⟩
    have S11 := hide ((unhide S10).next hb)
    clear hb hdv v0 v1 S10
    obtain ⟨a6, c6, b6, d6, hdv⟩ := (unhide S11).dv (C1, ss, xs1) (by simp)
    obtain ⟨v0, v1⟩ := hdv.var.cells
    go_wp2_with fail
    refine (flushS_in a6 b6 c6 d6 ss xs1 _ h SS XX (unhide HSS) (unhide HXX) (unhide HD1) h0 h3 hdv.s hdv.i).mono ?_
    rintro e w12 ⟨po4, pa4, qo4, qa4, rfl, hs12, hi12, hb⟩
    have S12a := hide ((unhide S11).next hb)
    have S12 := hide ((unhide S12a).new (pa := pa4) (qa := qa4) hs12 hi12)
    clear hb hdv v0 v1 S11 hs12 hi12
    obtain ⟨a7, c7, b7, d7, hdv⟩ := (unhide S12).dv (C2, SS, XX) (by simp)
    obtain ⟨v0, v1⟩ := hdv.var.cells
    have HS7 := hide hdv.s
    have HI7 := hide hdv.i
    clear S12a hdv
    go_wp2_with fail
    clear v0 v1
    revert S12 HS7 HI7
    generalize w12.alloc (.cells #[.slice po4 SS.length pa4, .slice qo4 XX.length qa4] 26) = W12
    generalize w12.heap.size = C4
    intro S12 HS7 HI7
    refine (pend_in a7 b7 c7 d7 SS XX _ h 0 (by rw [unhide HO2]; rfl) (unhide HD2) h0 h3 (unhide HS7) (unhide HI7)).mono ?_
    rintro e w13 ⟨rfl, hb⟩
    have S13 := hide ((unhide S12).next hb)
    clear hb S12 HS7 HI7
    obtain ⟨a8, c8, b8, d8, hdv⟩ := (unhide S13).dv (C2, SS, XX) (by simp)
    obtain ⟨v0, v1⟩ := hdv.var.cells
    obtain ⟨a9, c9, b9, d9, hdw⟩ := (unhide S13).dv (C4, SS, XX) (by simp)
    obtain ⟨u0, u1⟩ := hdw.var.cells
    have ht1 : (t.toList == t.toList) = true := by simp
    have hr1 : (rv.toList == rv.toList) = true := by simp
    obtain ⟨l1, l2⟩ := len_in (unhide HD2)
    have HL1 := hide l1
    have HL2 := hide l2
    clear l1 l2
    go_wp2_with fail
    refine (sameDisk_same a8 b8 a9 b9 c8 d8 c9 d9 SS XX _ (unhide HL1) (unhide HL2) hdv.s hdv.i hdw.s hdw.i).mono ?_
    rintro e w14 ⟨rfl, hb⟩
    have S14 := hide ((unhide S13).next hb)
    clear hb S13 hdv hdw v0 v1 u0 u1
    obtain ⟨a10, c10, b10, d10, hdv⟩ := (unhide S14).dv (C3, SS, XX) (by simp)
    obtain ⟨v0, v1⟩ := hdv.var.cells
    go_wp2_with fail
    refine (ok_in a10 b10 c10 d10 SS XX _ (unhide HD2) hdv.s hdv.i).mono ?_
    rintro e w15 ⟨rfl, hb⟩
    have S15 := hide ((unhide S14).next hb).below
    clear hb S14 hdv v0 v1
    go_wp2
    go_ret
    exact ⟨rfl, unhide S15⟩

end Go.Proofs.Ytoiclgeeaednnaa
