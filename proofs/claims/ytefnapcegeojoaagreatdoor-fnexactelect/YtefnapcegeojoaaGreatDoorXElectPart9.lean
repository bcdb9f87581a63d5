import Derived.Test.YtefnapcegeojoaaGreatDoorRows
import Derived.Test.YtefnapcegeojoaaGreatDoorXElectPart1
import Derived.Test.YtefnapcegeojoaaGreatDoorXElectPart2
import Derived.Test.YtefnapcegeojoaaGreatDoorXElectPart3
import Derived.WalkKit
import Derived.WalkSpells
import Derived.Test.YtefnapcegeojoaaGreatDoorXElectPart4
import Derived.Test.YtefnapcegeojoaaGreatDoorXElectPart5
import Derived.KernelRfl
import Derived.Lib.SmallJoins
import Derived.Test.YtefnapcegeojoaaGreatDoorXElectPart6
import Derived.Deep.RegionWith
import Derived.Deep.MidRow
import Derived.Deep.CutRange
import Derived.Test.YtefnapcegeojoaaGreatDoorXElectPart7

namespace Go.Proofs.YtefnapcegeojoaaGreatDoor
open Go.RowKit
set_option linter.unusedVariables false

theorem wi_end {w w3 : World} {v g k cap n pa : Nat} {po : Option Addr} {ss : List ByteArray} {xs' : List Wr} {x y : Value} (hS : OwnR w3 (w.heap.size + 2) 9 1 (.slice po n pa) n (strV ss)) (hI : OwnR w3 (w.heap.size + 2) 75 3 (.slice (some ⟨g, 0, none⟩) k cap) k (ioV xs')) (hv : VarD w3 v x y) (hb : Below w.heap.size w w3) (hvw : w.heap.size ≤ v) (a b c : Value) :
    OwnD (((w3.setCell ⟨v, 1, none⟩ a).setCell ⟨w.heap.size + 1, 0, none⟩ b).setCell ⟨w.heap.size + 1, 1, none⟩ c) w.heap.size po n pa (some ⟨g, 0, none⟩) k cap ss xs' ∧ Below w.heap.size w (((w3.setCell ⟨v, 1, none⟩ a).setCell ⟨w.heap.size + 1, 0, none⟩ b).setCell ⟨w.heap.size + 1, 1, none⟩ c) := by
  have hk : Keep (fun j => j = v) w3 (w3.setCell ⟨v, 1, none⟩ a) := Keep.setCell (S := fun j => j = v) (Keep.refl _ _) (p := ⟨v, 1, none⟩) rfl a
  have h1 : OwnD (w3.setCell ⟨v, 1, none⟩ a) (w.heap.size + 2) po n pa (some ⟨g, 0, none⟩) k cap ss xs' := ⟨hS.keep hk (fun j hj e => hS.other hv (by decide) (e ▸ hj)), hI.keep hk (fun j hj e => hI.other hv (by decide) (e ▸ hj))⟩
  exact copyD_end h1 (hb.setCell (p := ⟨v, 1, none⟩) hvw a) b c

set_option maxRecDepth 100000 in
set_option maxHeartbeats 800000 in
theorem writeSector_impl_range (ao bo : Option Addr) (ca cb : Nat) (ss : List ByteArray) (xs : List Wr) (h a : Int) (d : ByteArray) (w : World) (hz : d.size ≤ maxLen) (hl : ss.length ≤ maxLen) (hm : xs.length ≤ maxLen) (h1 : Ss w ao ss) (h2 : Ios w bo xs) (hlong : ¬ 65536 < d.size) (hask : askC ss xs h a = 0) (hbig : 80 < d.size) :
    Calls Tryz.prog 158 #[.agg #[.slice ao ss.length ca, .slice bo xs.length cb], .int .i64 h, .int .i64 a, .string d] w fun e w' => ∃ po pa qo qa, e = .returned (.tuple #[.agg #[.slice po (wrS ss xs h a d).length pa, .slice qo (wrX ss xs h a d).length qa], .int .i64 (wrC ss xs h a d)]) ∧ OwnD w' w.heap.size po (wrS ss xs h a d).length pa qo (wrX ss xs h a d).length qa (wrS ss xs h a d) (wrX ss xs h a d) ∧ Below w.heap.size w w' := by
  have HA := hide (Joins.below_alloc2 w (.cells #[.slice ao ss.length ca, .slice bo xs.length cb] 26) (.cells #[.slice none 0 0, .slice none 0 0] 26))
  have H1 := hide (h1.below (unhide HA))
  have H2 := hide (h2.below (unhide HA))
  have HV := hide ((VarD.new w (.slice ao ss.length ca) (.slice bo xs.length cb)).below (Joins.below_alloc1 _ (.cells #[.slice none 0 0, .slice none 0 0] 26)))
  have HR : Hid (VarD ((w.alloc (.cells #[.slice ao ss.length ca, .slice bo xs.length cb] 26)).alloc (.cells #[.slice none 0 0, .slice none 0 0] 26)) (w.heap.size + 1) (.slice none 0 0) (.slice none 0 0)) := hide (by have := VarD.new (w.alloc (.cells #[.slice ao ss.length ca, .slice bo xs.length cb] 26)) (.slice none 0 0) (.slice none 0 0); simp only [World.size_alloc] at this; exact this)
  have HS0 := hide h1
  have HX0 := hide h2
  have HL := hide hl
  have HM := hide hm
  clear h1 h2 hl hm
  unfold maxLen at hz
  have hb : (askC ss xs h a != 0) = false := by simp [hask]
  obtain ⟨hh, ha0, ha1⟩ := askC_eq hask
  obtain ⟨hlen, hlx⟩ := diskB_len (hostC_eq hh).1
  have HLS : Hid (ss.length ≤ 1048576) := hide (by omega)
  have HLX : Hid (xs.length ≤ 1048576) := hide (by omega)
  have HASK := hide hask
  clear hask hh hlen
  have HW := hide (wr_range (h := h) (a := a) (d := d) hlong (unhide HASK) hbig)
  go_enter Tryz.func158, Tryz.ntmps158
  go_wp2_with fail
  refine (placeFault_any _ _ _ _ ss xs h a _ (unhide HL) (unhide HM) (unhide H1) (unhide H2)).mono ?_
  rintro e w1 ⟨rfl, hb1⟩
  have HV1 := hide ((unhide HV).below hb1)
  have HR1 := hide ((unhide HR).below hb1)
  have HB1 := hide (fr (unhide HA) hb1)
  have HS1 := hide ((unhide H1).below hb1)
  have HX1 := hide ((unhide H2).below hb1)
  have HZ1 := hide hb1.size
  clear hb1
  obtain ⟨hv0, hv1⟩ := (unhide HV1).cells
  go_wp2_with fail
  refine (copyDisk_any _ _ _ _ ss xs _ (unhide HLS) (unhide HLX) (unhide HS1) (unhide HX1)).mono ?_
  rintro e w2 ⟨po, pa, qo, qa, rfl, ho2, hb2⟩
  have HO2 := hide (ho2.base (B' := w.heap.size + 2) (by have z1 := unhide HZ1; simp at z1; omega))
  have HR2 := hide ((unhide HR1).below hb2)
  have HB2 := hide (fr (unhide HB1) hb2)
  have hlt2 : w.heap.size + 1 < w2.heap.size := (unhide HR2).lt
  clear ho2 hb2 hv0 hv1
  obtain ⟨hr0, hr1⟩ := (unhide HR2).cells
  have hr2 := (unhide HR2).free 0
  have hr3 := (unhide HR2).free 1
  have HE := hide (copyD_end (w := w) (wL := w2) (unhide HO2) (unhide HB2) (.slice po ss.length pa) (.slice qo xs.length qa))
  have HE1 := hide ((unhide HE).1.below (Joins.below_alloc1 _ (.cells #[.slice po ss.length pa, .slice qo xs.length qa] 26)))
  have HE2 := hide (fr (unhide HE).2 (Joins.below_alloc1 _ (.cells #[.slice po ss.length pa, .slice qo xs.length qa] 26)))
  go_wp2
  obtain ⟨e1, e2, e3⟩ := unhide HW
  rw [e1, e2, e3]
  exact bodyPost_ret (v := .tuple #[.agg #[.slice po ss.length pa, .slice qo xs.length qa], .int .i64 4]) (by simp [results, Tryz.results158, go_sem, hr0, hr1, hlt2]) rfl ⟨po, pa, qo, qa, rfl, unhide HE1, unhide HE2⟩

set_option maxRecDepth 100000 in
set_option maxHeartbeats 800000 in
theorem writeSector_impl_full (ao bo : Option Addr) (ca cb : Nat) (ss : List ByteArray) (xs : List Wr) (h a : Int) (d : ByteArray) (w : World) (hz : d.size ≤ maxLen) (hl : ss.length ≤ maxLen) (hm : xs.length ≤ maxLen) (h1 : Ss w ao ss) (h2 : Ios w bo xs) (hlong : ¬ 65536 < d.size) (hask : askC ss xs h a = 0) (hbig : ¬ 80 < d.size) (hfull : xs.length = 200) :
    Calls Tryz.prog 158 #[.agg #[.slice ao ss.length ca, .slice bo xs.length cb], .int .i64 h, .int .i64 a, .string d] w fun e w' => ∃ po pa qo qa, e = .returned (.tuple #[.agg #[.slice po (wrS ss xs h a d).length pa, .slice qo (wrX ss xs h a d).length qa], .int .i64 (wrC ss xs h a d)]) ∧ OwnD w' w.heap.size po (wrS ss xs h a d).length pa qo (wrX ss xs h a d).length qa (wrS ss xs h a d) (wrX ss xs h a d) ∧ Below w.heap.size w w' := by
  have HA := hide (Joins.below_alloc2 w (.cells #[.slice ao ss.length ca, .slice bo xs.length cb] 26) (.cells #[.slice none 0 0, .slice none 0 0] 26))
  have H1 := hide (h1.below (unhide HA))
  have H2 := hide (h2.below (unhide HA))
  have HV := hide ((VarD.new w (.slice ao ss.length ca) (.slice bo xs.length cb)).below (Joins.below_alloc1 _ (.cells #[.slice none 0 0, .slice none 0 0] 26)))
  have HR : Hid (VarD ((w.alloc (.cells #[.slice ao ss.length ca, .slice bo xs.length cb] 26)).alloc (.cells #[.slice none 0 0, .slice none 0 0] 26)) (w.heap.size + 1) (.slice none 0 0) (.slice none 0 0)) := hide (by have := VarD.new (w.alloc (.cells #[.slice ao ss.length ca, .slice bo xs.length cb] 26)) (.slice none 0 0) (.slice none 0 0); simp only [World.size_alloc] at this; exact this)
  have HS0 := hide h1
  have HX0 := hide h2
  have HL := hide hl
  have HM := hide hm
  clear h1 h2 hl hm
  unfold maxLen at hz
  have hb : (askC ss xs h a != 0) = false := by simp [hask]
  obtain ⟨hh, ha0, ha1⟩ := askC_eq hask
  obtain ⟨hlen, hlx⟩ := diskB_len (hostC_eq hh).1
  have HLS : Hid (ss.length ≤ 1048576) := hide (by omega)
  have HLX : Hid (xs.length ≤ 1048576) := hide (by omega)
  have HASK := hide hask
  clear hask hh hlen
  have HW := hide (wr_full (h := h) (a := a) (d := d) hlong (unhide HASK) hbig hfull)
  have hge : 200 ≤ xs.length := by omega
  clear hfull
  go_enter Tryz.func158, Tryz.ntmps158
  go_wp2_with fail
  refine (placeFault_any _ _ _ _ ss xs h a _ (unhide HL) (unhide HM) (unhide H1) (unhide H2)).mono ?_
  rintro e w1 ⟨rfl, hb1⟩
  have HV1 := hide ((unhide HV).below hb1)
  have HR1 := hide ((unhide HR).below hb1)
  have HB1 := hide (fr (unhide HA) hb1)
  have HS1 := hide ((unhide H1).below hb1)
  have HX1 := hide ((unhide H2).below hb1)
  have HZ1 := hide hb1.size
  clear hb1
  obtain ⟨hv0, hv1⟩ := (unhide HV1).cells
  go_wp2_with fail
  refine (copyDisk_any _ _ _ _ ss xs _ (unhide HLS) (unhide HLX) (unhide HS1) (unhide HX1)).mono ?_
  rintro e w2 ⟨po, pa, qo, qa, rfl, ho2, hb2⟩
  have HO2 := hide (ho2.base (B' := w.heap.size + 2) (by have z1 := unhide HZ1; simp at z1; omega))
  have HR2 := hide ((unhide HR1).below hb2)
  have HB2 := hide (fr (unhide HB1) hb2)
  have hlt2 : w.heap.size + 1 < w2.heap.size := (unhide HR2).lt
  clear ho2 hb2 hv0 hv1
  obtain ⟨hr0, hr1⟩ := (unhide HR2).cells
  have hr2 := (unhide HR2).free 0
  have hr3 := (unhide HR2).free 1
  have HE := hide (copyD_end (w := w) (wL := w2) (unhide HO2) (unhide HB2) (.slice po ss.length pa) (.slice qo xs.length qa))
  have HE1 := hide ((unhide HE).1.below (Joins.below_alloc1 _ (.cells #[.slice po ss.length pa, .slice qo xs.length qa] 26)))
  have HE2 := hide (fr (unhide HE).2 (Joins.below_alloc1 _ (.cells #[.slice po ss.length pa, .slice qo xs.length qa] 26)))
  go_wp2
  obtain ⟨e1, e2, e3⟩ := unhide HW
  rw [e1, e2, e3]
  exact bodyPost_ret (v := .tuple #[.agg #[.slice po ss.length pa, .slice qo xs.length qa], .int .i64 7]) (by simp [results, Tryz.results158, go_sem, hr0, hr1, hlt2]) rfl ⟨po, pa, qo, qa, rfl, unhide HE1, unhide HE2⟩

set_option maxRecDepth 100000 in
set_option maxHeartbeats 800000 in
theorem writeSector_impl_ok (ao bo : Option Addr) (ca cb : Nat) (ss : List ByteArray) (xs : List Wr) (h a : Int) (d : ByteArray) (w : World) (hz : d.size ≤ maxLen) (hl : ss.length ≤ maxLen) (hm : xs.length ≤ maxLen) (h1 : Ss w ao ss) (h2 : Ios w bo xs) (hlong : ¬ 65536 < d.size) (hask : askC ss xs h a = 0) (hbig : ¬ 80 < d.size) (hfull : ¬ xs.length = 200) :
    Calls Tryz.prog 158 #[.agg #[.slice ao ss.length ca, .slice bo xs.length cb], .int .i64 h, .int .i64 a, .string d] w fun e w' => ∃ po pa qo qa, e = .returned (.tuple #[.agg #[.slice po (wrS ss xs h a d).length pa, .slice qo (wrX ss xs h a d).length qa], .int .i64 (wrC ss xs h a d)]) ∧ OwnD w' w.heap.size po (wrS ss xs h a d).length pa qo (wrX ss xs h a d).length qa (wrS ss xs h a d) (wrX ss xs h a d) ∧ Below w.heap.size w w' := by
  have HA := hide (Joins.below_alloc2 w (.cells #[.slice ao ss.length ca, .slice bo xs.length cb] 26) (.cells #[.slice none 0 0, .slice none 0 0] 26))
  have H1 := hide (h1.below (unhide HA))
  have H2 := hide (h2.below (unhide HA))
  have HV := hide ((VarD.new w (.slice ao ss.length ca) (.slice bo xs.length cb)).below (Joins.below_alloc1 _ (.cells #[.slice none 0 0, .slice none 0 0] 26)))
  have HR : Hid (VarD ((w.alloc (.cells #[.slice ao ss.length ca, .slice bo xs.length cb] 26)).alloc (.cells #[.slice none 0 0, .slice none 0 0] 26)) (w.heap.size + 1) (.slice none 0 0) (.slice none 0 0)) := hide (by have := VarD.new (w.alloc (.cells #[.slice ao ss.length ca, .slice bo xs.length cb] 26)) (.slice none 0 0) (.slice none 0 0); simp only [World.size_alloc] at this; exact this)
  have HS0 := hide h1
  have HX0 := hide h2
  have HL := hide hl
  have HM := hide hm
  clear h1 h2 hl hm
  unfold maxLen at hz
  have hb : (askC ss xs h a != 0) = false := by simp [hask]
  obtain ⟨hh, ha0, ha1⟩ := askC_eq hask
  obtain ⟨hlen, hlx⟩ := diskB_len (hostC_eq hh).1
  have HLS : Hid (ss.length ≤ 1048576) := hide (by omega)
  have HLX : Hid (xs.length ≤ 1048576) := hide (by omega)
  have HASK := hide hask
  clear hask hh hlen
  have HW := hide (wr_ok (h := h) (a := a) (d := d) hlong (unhide HASK) hbig hfull)
  have HN := hide (show xs.length + 1 = (xs ++ [(⟨h, a, d⟩ : Wr)]).length by simp)
  have hge : xs.length < 200 := by omega
  obtain ⟨j0, hj, hy0, hy1, hy2⟩ := info_parts infoW
  clear hfull
  go_enter Tryz.func158, Tryz.ntmps158
  go_wp2_with fail
  refine (placeFault_any _ _ _ _ ss xs h a _ (unhide HL) (unhide HM) (unhide H1) (unhide H2)).mono ?_
  rintro e w1 ⟨rfl, hb1⟩
  have HV1 := hide ((unhide HV).below hb1)
  have HR1 := hide ((unhide HR).below hb1)
  have HB1 := hide (fr (unhide HA) hb1)
  have HS1 := hide ((unhide H1).below hb1)
  have HX1 := hide ((unhide H2).below hb1)
  have HZ1 := hide hb1.size
  clear hb1
  obtain ⟨hv0, hv1⟩ := (unhide HV1).cells
  go_wp2_with fail
  refine (copyDisk_any _ _ _ _ ss xs _ (unhide HLS) (unhide HLX) (unhide HS1) (unhide HX1)).mono ?_
  rintro e w2 ⟨po, pa, qo, qa, rfl, ho2, hb2⟩
  have HO2 := hide (ho2.base (B' := w.heap.size + 2) (by have z1 := unhide HZ1; simp at z1; omega))
  have HR2 := hide ((unhide HR1).below hb2)
  have HB2 := hide (fr (unhide HB1) hb2)
  have hlt2 : w.heap.size + 1 < w2.heap.size := (unhide HR2).lt
  clear ho2 hb2 hv0 hv1
  obtain ⟨hr0, hr1⟩ := (unhide HR2).cells
  have hr2 := (unhide HR2).free 0
  have hr3 := (unhide HR2).free 1
  have HA2 := hide (Joins.below_alloc2 w2 (.cells #[.slice po ss.length pa, .slice qo xs.length qa] 26) (.cells #[.int .i64 h, .int .i64 a, .string d] 75))
  have HO3 := hide ((unhide HO2).below (unhide HA2))
  have HR3 := hide ((unhide HR2).below (unhide HA2))
  have HV3 := hide ((VarD.new w2 (.slice po ss.length pa) (.slice qo xs.length qa)).below (Joins.below_alloc1 _ (.cells #[.int .i64 h, .int .i64 a, .string d] 75)))
  have HB3 := hide (fr (unhide HB2) (unhide HA2))
  have HI3 : Hid (VarI ((w2.alloc (.cells #[.slice po ss.length pa, .slice qo xs.length qa] 26)).alloc (.cells #[.int .i64 h, .int .i64 a, .string d] 75)) (w2.heap.size + 1) ⟨h, a, d⟩) := hide (VarI.top (x := ⟨h, a, d⟩) (by simp))
  go_wp2_with (at_builtin; refine wpList_append_one rfl _ _ 24 rfl (w.heap.size + 2) 75 j0 (.agg #[.int .i64 0, .int .i64 0, .string ⟨#[]⟩]) 3 32 Tryz.underlying24 hj hy0 hy1 hy2 rfl (by omega) qo xs.length qa (ioV xs) rfl (unhide HO3).i (by simp; omega) ⟨w2.heap.size + 1, 0, none⟩ _ (wrV ⟨h, a, d⟩) rfl rfl (unhide HI3).news (wrV_one _) (by unfold maxLen; omega) (by omega) ?_; intro g cap w3 ho3 hk3; have HV4 := hide ((unhide HV3).keep hk3 ((unhide HO3).i.other (unhide HV3) (by decide))); have HR4 := hide ((unhide HR3).keep hk3 ((unhide HO3).i.other (unhide HR3) (by decide))); have HW4 := hide (wi_end (w := w) (w3 := w3) (v := w2.heap.size) (g := g) (k := xs.length + 1) (cap := cap) (xs' := xs ++ [⟨h, a, d⟩]) ((unhide HO3).s.keep hk3 (own_apart (unhide HO3).s (unhide HO3).i (by decide))) (.inr ⟨Nat.succ_pos _, by rw [ioV_snoc]; exact ho3⟩) (unhide HV4) ((unhide HB3).trans (hk3.below (B := w.heap.size) (unhide HB3).size (fun j hj => Nat.le_trans (show w.heap.size ≤ w.heap.size + 2 from by omega) ((unhide HO3).i.ge j hj).1))) (by omega) (.slice (some ⟨g, 0, none⟩) (xs.length + 1) cap) (.slice po ss.length pa) (.slice (some ⟨g, 0, none⟩) (xs.length + 1) cap)); obtain ⟨q0, q1⟩ := (unhide HV4).cells; have q2 := (unhide HV4).free 1; obtain ⟨q3, q4⟩ := (unhide HR4).cells; have q5 := (unhide HR4).free 0; have q6 := (unhide HR4).free 1; clear ho3 hk3)
  obtain ⟨e1, e2, e3⟩ := unhide HW
  rw [e1, e2, e3, ← unhide HN]
  exact bodyPost_ret (v := .tuple #[.agg #[.slice po ss.length pa, .slice (some ⟨g, 0, none⟩) (xs.length + 1) cap], .int .i64 0]) (by simp [results, Tryz.results158, go_sem, q3, q4]) rfl ⟨po, pa, _, _, rfl, (unhide HW4).1, (unhide HW4).2⟩

set_option maxRecDepth 100000 in
set_option maxHeartbeats 1600000 in
theorem writeSector_impl (ao bo : Option Addr) (ca cb : Nat) (ss : List ByteArray) (xs : List Wr) (h a : Int) (d : ByteArray) (w : World) (hz : d.size ≤ maxLen) (hl : ss.length ≤ maxLen) (hm : xs.length ≤ maxLen) (h1 : Ss w ao ss) (h2 : Ios w bo xs) :
    Calls Tryz.prog 158 #[.agg #[.slice ao ss.length ca, .slice bo xs.length cb], .int .i64 h, .int .i64 a, .string d] w fun e w' => ∃ po pa qo qa, e = .returned (.tuple #[.agg #[.slice po (wrS ss xs h a d).length pa, .slice qo (wrX ss xs h a d).length qa], .int .i64 (wrC ss xs h a d)]) ∧ OwnD w' w.heap.size po (wrS ss xs h a d).length pa qo (wrX ss xs h a d).length qa (wrS ss xs h a d) (wrX ss xs h a d) ∧ Below w.heap.size w w' := by
  have HA := hide (Joins.below_alloc2 w (.cells #[.slice ao ss.length ca, .slice bo xs.length cb] 26) (.cells #[.slice none 0 0, .slice none 0 0] 26))
  have H1 := hide (h1.below (unhide HA))
  have H2 := hide (h2.below (unhide HA))
  have HV := hide ((VarD.new w (.slice ao ss.length ca) (.slice bo xs.length cb)).below (Joins.below_alloc1 _ (.cells #[.slice none 0 0, .slice none 0 0] 26)))
  have HR : Hid (VarD ((w.alloc (.cells #[.slice ao ss.length ca, .slice bo xs.length cb] 26)).alloc (.cells #[.slice none 0 0, .slice none 0 0] 26)) (w.heap.size + 1) (.slice none 0 0) (.slice none 0 0)) := hide (by have := VarD.new (w.alloc (.cells #[.slice ao ss.length ca, .slice bo xs.length cb] 26)) (.slice none 0 0) (.slice none 0 0); simp only [World.size_alloc] at this; exact this)
  have HS0 := hide h1
  have HX0 := hide h2
  have HL := hide hl
  have HM := hide hm
  clear h1 h2 hl hm
  unfold maxLen at hz
  by_cases hlong : 65536 < d.size
  · obtain ⟨e1, e2, e3⟩ := wr_long (ss := ss) (xs := xs) (h := h) (a := a) hlong
    rw [e1, e2, e3]
    clear e1 e2 e3
    go_enter Tryz.func158, Tryz.ntmps158
    go_wp2
    exact bodyPost_ret (v := .tuple #[.agg #[.slice none 0 0, .slice none 0 0], .int .i64 2]) (by simp [results, Tryz.results158, go_sem]) rfl ⟨none, 0, none, 0, rfl, zeroD_own, unhide HA⟩
  by_cases hask : askC ss xs h a = 0
  · by_cases hbig : 80 < d.size
    · exact writeSector_impl_range ao bo ca cb ss xs h a d w (by unfold maxLen; exact hz) (unhide HL) (unhide HM) (unhide HS0) (unhide HX0) hlong hask hbig
    · by_cases hfull : xs.length = 200
      · exact writeSector_impl_full ao bo ca cb ss xs h a d w (by unfold maxLen; exact hz) (unhide HL) (unhide HM) (unhide HS0) (unhide HX0) hlong hask hbig hfull
      · exact writeSector_impl_ok ao bo ca cb ss xs h a d w (by unfold maxLen; exact hz) (unhide HL) (unhide HM) (unhide HS0) (unhide HX0) hlong hask hbig hfull
  · have hb : (askC ss xs h a != 0) = true := by simp [hask]
    obtain ⟨e1, e2, e3⟩ := wr_ask (ss := ss) (xs := xs) (h := h) (a := a) hlong hask
    rw [e1, e2, e3]
    clear e1 e2 e3 hask
    go_enter Tryz.func158, Tryz.ntmps158
    go_wp2_with fail
    refine (placeFault_any _ _ _ _ ss xs h a _ (unhide HL) (unhide HM) (unhide H1) (unhide H2)).mono ?_
    rintro e w1 ⟨rfl, hb1⟩
    have HR1 := hide ((unhide HR).below hb1)
    have HB1 := hide (fr (unhide HA) hb1)
    clear hb1
    obtain ⟨hr0, hr1⟩ := (unhide HR1).cells
    have hr2 := (unhide HR1).free 0
    have hr3 := (unhide HR1).free 1
    have HE := hide (zero_end (w := w) (wL := w1) (unhide HB1) (.slice none 0 0) (.slice none 0 0))
    go_wp2
    exact bodyPost_ret (v := .tuple #[.agg #[.slice none 0 0, .slice none 0 0], .int .i64 (askC ss xs h a)]) (by simp [results, Tryz.results158, go_sem, hr0, hr1]) rfl ⟨none, 0, none, 0, rfl, zeroD_own, unhide HE⟩

end Go.Proofs.YtefnapcegeojoaaGreatDoor

namespace Go.Proofs.YtefnapcegeojoaaGreatDoor
open Go.RowKit
set_option linter.unusedVariables false
set_option maxRecDepth 100000

theorem codes_right {ss : List ByteArray} {xs : List Wr} {h a : Int} (hd : diskB ss xs = true) (h0 : 0 ≤ h) (h3 : h ≤ 3) (a0 : 0 ≤ a) (a1 : a ≤ 63) : hostC ss xs h = 0 ∧ askC ss xs h a = 0 := by
  have e := hostC_ok hd (show inB h 0 3 = true by simp [inB]; omega)
  exact ⟨e, askC_ok e (by simp [inB]; omega)⟩
theorem right_sz {ss : List ByteArray} {xs : List Wr} (hd : diskB ss xs = true) : (ss.length ≤ maxLen ∧ xs.length ≤ maxLen) ∧ (∀ s ∈ ss, s.size ≤ maxLen) ∧ ∀ x ∈ xs, x.data.size ≤ maxLen := by
  have hl := diskB_len hd
  refine ⟨by unfold maxLen; omega, fun s hs => Nat.le_trans ((diskB_parts.1 hd).1.2 s hs) (by decide), fun x hx => Nat.le_trans (ioB_parts.1 ((diskB_parts.1 hd).2.2 x hx)).2.2 (by decide)⟩

theorem write_own (ao bo : Option Addr) (ca cb : Nat) (ss : List ByteArray) (xs : List Wr) (h a : Int) (t : ByteArray) (X : List Wr) (w : World) (hX : xs ++ [⟨h, a, t⟩] = X) (hd : diskB ss xs = true) (hl : xs.length < 200) (ht : t.size ≤ 80) (h0 : 0 ≤ h) (h3 : h ≤ 3) (a0 : 0 ≤ a) (a1 : a ≤ 63) (h1 : Ss w ao ss) (h2 : Ios w bo xs) :
    Calls Tryz.prog 158 #[.agg #[.slice ao ss.length ca, .slice bo xs.length cb], .int .i64 h, .int .i64 a, .string t] w fun e w' => ∃ po pa qo qa, e = .returned (.tuple #[.agg #[.slice po ss.length pa, .slice qo X.length qa], .int .i64 0]) ∧ OwnD w' w.heap.size po ss.length pa qo X.length qa ss X ∧ Below w.heap.size w w' := by
  subst hX
  obtain ⟨⟨l1, l2⟩, _⟩ := right_sz hd
  obtain ⟨_, ha⟩ := codes_right (h := h) (a := a) hd h0 h3 a0 a1
  obtain ⟨e1, e2, e3⟩ := wr_ok (ss := ss) (xs := xs) (h := h) (a := a) (d := t) (by omega) ha (by omega) (by omega)
  refine (writeSector_impl ao bo ca cb ss xs h a t w (by unfold maxLen; omega) l1 l2 h1 h2).mono ?_
  rintro e w' ⟨po, pa, qo, qa, he, ho, hb⟩
  rw [e1, e2] at ho
  rw [e1, e2, e3] at he
  exact ⟨po, pa, qo, qa, he, ho, hb⟩
theorem flush_put {h : Int} {ss : List ByteArray} {xs : List Wr} (hd : diskB ss xs = true) (ha : hostC ss xs h = 0) : flS ss xs h = putW ss (ofH h xs) ∧ flX ss xs h = dropF h xs := by
  obtain ⟨e1, e2⟩ := fl_ok ha
  have hc : (ofH h xs).length ≤ 200 := Nat.le_trans (List.length_filter_le _ _) (diskB_len hd).2
  obtain ⟨p1, p2⟩ := landF_put h ss xs 200
  have p1' : (landF h false ss xs 200).1 = putW ss ((ofH h xs).take 200) := p1
  have p2' : (landF h false ss xs 200).2.1 = remH h 200 xs := p2
  rw [List.take_of_length_le hc] at p1'
  rw [rem_all 200 xs hc] at p2'
  exact ⟨e1.trans p1', e2.trans p2'⟩
theorem flush_own (ao bo : Option Addr) (ca cb : Nat) (ss : List ByteArray) (xs : List Wr) (h : Int) (S : List ByteArray) (X : List Wr) (w : World) (hS : putW ss (ofH h xs) = S) (hX : dropF h xs = X) (hd : diskB ss xs = true) (h0 : 0 ≤ h) (h3 : h ≤ 3) (h1 : Ss w ao ss) (h2 : Ios w bo xs) :
    Calls Tryz.prog 159 #[.agg #[.slice ao ss.length ca, .slice bo xs.length cb], .int .i64 h] w fun e w' => ∃ po pa qo qa, e = .returned (.tuple #[.agg #[.slice po S.length pa, .slice qo X.length qa], .int .i64 0]) ∧ OwnD w' w.heap.size po S.length pa qo X.length qa S X ∧ Below w.heap.size w w' := by
  subst hS hX
  obtain ⟨⟨l1, l2⟩, _⟩ := right_sz hd
  obtain ⟨ha, _⟩ := codes_right (h := h) (a := 0) hd h0 h3 (by omega) (by omega)
  obtain ⟨e1, e2⟩ := flush_put hd ha
  refine (flush_impl ao bo ca cb ss xs h w l1 l2 h1 h2).mono ?_
  rintro e w' ⟨po, pa, qo, qa, he, ho, hb⟩
  rw [e1, e2] at ho
  rw [e1, e2, ha] at he
  exact ⟨po, pa, qo, qa, he, ho, hb⟩

set_option maxHeartbeats 1600000 in
theorem writeSure_ok (ao bo : Option Addr) (ca cb : Nat) (ss : List ByteArray) (xs : List Wr) (h a : Int) (t : ByteArray) (S : List ByteArray) (X : List Wr) (w : World) (hS : putW ss (ofH h (xs ++ [⟨h, a, t⟩])) = S) (hX : dropF h (xs ++ [⟨h, a, t⟩]) = X) (hd : diskB ss xs = true) (hl : xs.length < 200) (ht : t.size ≤ 80) (h0 : 0 ≤ h) (h3 : h ≤ 3) (a0 : 0 ≤ a) (a1 : a ≤ 63) (h1 : Ss w ao ss) (h2 : Ios w bo xs) :
    Calls Tryz.prog 142 #[.agg #[.slice ao ss.length ca, .slice bo xs.length cb], .int .i64 h, .int .i64 a, .string t] w fun e w' => ∃ po pa qo qa, e = .returned (.tuple #[.agg #[.slice po S.length pa, .slice qo X.length qa], .int .i64 0]) ∧ OwnD w' w.heap.size po S.length pa qo X.length qa S X ∧ Below w.heap.size w w' := by
  have HA := hide (Joins.below_alloc2 w (.cells #[.slice ao ss.length ca, .slice bo xs.length cb] 26) (.cells #[.slice none 0 0, .slice none 0 0] 26))
  have H1 := hide (h1.below (unhide HA))
  have H2 := hide (h2.below (unhide HA))
  have HR : Hid (VarD ((w.alloc (.cells #[.slice ao ss.length ca, .slice bo xs.length cb] 26)).alloc (.cells #[.slice none 0 0, .slice none 0 0] 26)) (w.heap.size + 1) (.slice none 0 0) (.slice none 0 0)) := hide (by have := VarD.new (w.alloc (.cells #[.slice ao ss.length ca, .slice bo xs.length cb] 26)) (.slice none 0 0) (.slice none 0 0); simp only [World.size_alloc] at this; exact this)
  obtain ⟨Y, HY⟩ : ∃ Y, Hid (xs ++ [⟨h, a, t⟩] = Y) := ⟨_, hide rfl⟩
  have HYR : Hid (diskB ss Y = true) := hide (by rw [← unhide HY]; exact diskB_snoc hd hl (x := ⟨h, a, t⟩) (ioB_parts.2 ⟨⟨h0, h3⟩, ⟨a0, a1⟩, ht⟩))
  have HYS := hide (right_sz (unhide HYR)).2.1
  have HYX := hide (right_sz (unhide HYR)).2.2
  have HS : Hid (putW ss (ofH h Y) = S) := hide (by rw [← unhide HY]; exact hS)
  have HX : Hid (dropF h Y = X) := hide (by rw [← unhide HY]; exact hX)
  have HD := hide hd
  have HL := hide hl
  have HT := hide ht
  clear h1 h2 hS hX hd hl ht
  go_enter Tryz.func142, Tryz.ntmps142
  go_wp2_with fail
  refine (write_own _ _ _ _ ss xs h a t Y _ (unhide HY) (unhide HD) (unhide HL) (unhide HT) h0 h3 a0 a1 (unhide H1) (unhide H2)).mono ?_
  rintro e w1 ⟨po, pa, qo, qa, rfl, ho1, hb1⟩
  have HA1 := hide (Joins.below_alloc1 w1 (.cells #[.slice po ss.length pa, .slice qo Y.length qa] 26))
  have HO1 := hide (ho1.below (unhide HA1))
  have HB1 := hide (fr (fr (unhide HA) hb1) (unhide HA1))
  have HR1 := hide (((unhide HR).below hb1).below (unhide HA1))
  clear ho1 hb1
  go_wp2_with fail
  refine (flush_own _ _ _ _ ss Y h S X _ (unhide HS) (unhide HX) (unhide HYR) h0 h3 ((unhide HO1).ss (unhide HYS)) ((unhide HO1).ios (unhide HYX))).mono ?_
  rintro e w2 ⟨po2, pa2, qo2, qa2, rfl, ho2, hb2⟩
  have HB2 := hide (fr (unhide HB1) hb2)
  have HR2 := hide ((unhide HR1).below hb2)
  have z : w.heap.size + 1 < (w1.alloc (.cells #[.slice po ss.length pa, .slice qo Y.length qa] 26)).heap.size := (unhide HR1).lt
  have HO2 := hide ho2
  clear ho2 hb2
  obtain ⟨hr0, hr1⟩ := (unhide HR2).cells
  have hr2 := (unhide HR2).free 0
  have hr3 := (unhide HR2).free 1
  have HE := hide (show OwnD ((w2.setCell ⟨w.heap.size + 1, 0, none⟩ (.slice po2 S.length pa2)).setCell ⟨w.heap.size + 1, 1, none⟩ (.slice qo2 X.length qa2)) w.heap.size po2 S.length pa2 qo2 X.length qa2 S X ∧ Below w.heap.size w ((w2.setCell ⟨w.heap.size + 1, 0, none⟩ (.slice po2 S.length pa2)).setCell ⟨w.heap.size + 1, 1, none⟩ (.slice qo2 X.length qa2)) from
    ⟨(((unhide HO2).setCell (a := ⟨w.heap.size + 1, 0, none⟩) z _).setCell (a := ⟨w.heap.size + 1, 1, none⟩) z _).base (by omega), ((unhide HB2).setCell (p := ⟨w.heap.size + 1, 0, none⟩) (Nat.le_succ _) _).setCell (p := ⟨w.heap.size + 1, 1, none⟩) (Nat.le_succ _) _⟩)
  clear z
  go_wp2
  exact bodyPost_ret (v := .tuple #[.agg #[.slice po2 S.length pa2, .slice qo2 X.length qa2], .int .i64 0]) (by simp [results, Tryz.results142, go_sem, hr0, hr1]) rfl ⟨po2, pa2, qo2, qa2, rfl, (unhide HE).1, (unhide HE).2⟩

end Go.Proofs.YtefnapcegeojoaaGreatDoor

namespace Go.Proofs.YtefnapcegeojoaaGreatDoor
open Go.RowKit
set_option linter.unusedVariables false
set_option maxRecDepth 100000

set_option maxHeartbeats 1600000 in
theorem numbersB (x : Bk) (w : World) : Calls Tryz.prog 141 #[bV x] w fun e w' => ∃ ao, e = .returned (.slice ao 4 4) ∧ Is w' ao [x.ver, x.mbal, x.bal, x.inp] ∧ Below w.heap.size w w' := by
  go_enter Tryz.func141, Tryz.ntmps141
  go_wp2
  go_ret
  exact ⟨_, rfl, is4 _ _ _ _ _ _ _ (by simp), Joins.below_alloc2 _ _ _⟩

set_option maxHeartbeats 1600000 in
theorem encodeBlock_impl (x : Bk) (w : World) : Calls Tryz.prog 118 #[bV x] w fun e w' => e = .returned (.tuple #[.string (ebR x), .int .i64 (ebC x)]) ∧ Below w.heap.size w w' := by
  have HA := hide (Joins.below_alloc1 w (.cells #[.int .i64 x.ver, .int .i64 x.mbal, .int .i64 x.bal, .int .i64 x.inp] 96))
  have HV := hide (VarB.new w 96 x)
  go_enter Tryz.func118, Tryz.ntmps118
  go_wp2_with fail
  refine (blockOK_impl x _).mono ?_
  rintro e w1 ⟨rfl, hb⟩
  have HB := hide (fr (unhide HA) hb)
  obtain ⟨hc0, hc1, hc2, hc3⟩ := ((unhide HV).below hb).cells
  clear hb
  by_cases hd : bkB x = true
  · have HE : Hid (ebR x = encB x ∧ ebC x = 0) := hide ⟨if_pos hd, if_pos hd⟩
    have HD := hide (b4_seal hd)
    go_wp2_with fail
    refine (numbersB x _).mono ?_
    rintro e w2 ⟨ao, rfl, hi, hb⟩
    have HB2 := hide (fr (unhide HB) hb)
    have HI := hide hi
    clear hb hi hc0 hc1 hc2 hc3
    go_wp2_with fail
    refine (sealRecord_impl 5 ao 4 [x.ver, x.mbal, x.bal, x.inp] _ (by simp) (unhide HI)).mono ?_
    rintro e w3 ⟨rfl, hb⟩
    have HB3 := hide (fr (unhide HB2) hb)
    clear hb
    rw [(unhide HD).1, (unhide HD).2]
    go_wp2
    go_ret2
    exact ⟨ret_se (unhide HE).1.symm (unhide HE).2.symm, unhide HB3⟩
  · have HE : Hid (ebR x = ⟨#[]⟩ ∧ ebC x = 1) := hide ⟨if_neg hd, if_neg hd⟩
    rw [Bool.not_eq_true] at hd
    go_wp2
    go_ret2
    exact ⟨ret_se (unhide HE).1.symm (unhide HE).2.symm, unhide HB⟩

end Go.Proofs.YtefnapcegeojoaaGreatDoor

namespace Go.Proofs.YtefnapcegeojoaaGreatDoor
open Go.RowKit
set_option linter.unusedVariables false
set_option maxRecDepth 100000

set_option maxHeartbeats 1600000 in
theorem put_any (B x : Nat) (s : Est) (L : Ld) (bo ao qo : Option Addr) (ba ca cb : Nat) (a : Int) (t : ByteArray) (S : List ByteArray) (X : List Wr) (w : World) (hS : wS s.ss s.xs s.p.host a t = S) (hX : wX s.xs s.p.host a t = X) (hd : diskB s.ss s.xs = true) (hl : s.xs.length < 200) (ht : t.size ≤ 80) (hh : 0 ≤ s.p.host ∧ s.p.host ≤ 3) (a0 : 0 ≤ a) (a1 : a ≤ 63) (hs : Sto w B x s L bo ba ao ca qo cb) :
    Calls Tryz.prog 119 #[.pointer (some ⟨x, 0, none⟩), .int .i64 a, .string t] w fun e w' => e = .returned (.tuple #[]) ∧ StoE w' B x ⟨S, X, s.p, s.bs⟩ L ∧ Keep (fun j => j = x) w w' := by
  obtain ⟨_, z1, z2⟩ := right_sz hd
  have HC : Hid (∀ W, Below w.heap.size w W → Calls Tryz.prog 142 #[.agg #[.slice ao s.ss.length ca, .slice qo s.xs.length cb], .int .i64 s.p.host, .int .i64 a, .string t] W fun e w' => ∃ po pa ro ra, e = .returned (.tuple #[.agg #[.slice po S.length pa, .slice ro X.length ra], .int .i64 0]) ∧ OwnD w' W.heap.size po S.length pa ro X.length ra S X ∧ Below W.heap.size W w') :=
    hide (fun W hW => writeSure_ok ao qo ca cb s.ss s.xs s.p.host a t S X W hS hX hd hl ht hh.1 hh.2 a0 a1 ((hs.below hW).d.ss z1) ((hs.below hW).d.ios z2))
  have HS := hide hs
  obtain ⟨c0, _⟩ := hs.v.px
  obtain ⟨_, c9, c10, _⟩ := hs.v.rest
  clear hS hX hd hl ht hs z1 z2 hh
  go_enter Tryz.func119, Tryz.ntmps119
  go_wp2
  go_region_with (go_at_call 142; refine (unhide HC _ (Below.refl _ w).drew).mono ?_; rintro e wA ⟨po, pa, ro, ra, rfl, hoA, hbA⟩; have HBA := hide (fr (Below.refl _ w).drew hbA); have HOA := hide hoA; have HSA := hide ((unhide HS).below (unhide HBA)); obtain ⟨_, d9, d10, _⟩ := (unhide HSA).v.rest; have f9 := (unhide HSA).v.free 9; have f10 := (unhide HSA).v.free 10; clear hoA hbA)
  all_goals
    have HW := hide (Sto.write (unhide HS) (unhide HBA) (by exact unhide HOA))
    go_wp2
    go_end0
    exact ⟨rfl, ⟨_, _, _, _, _, _, (unhide HW).1⟩, (unhide HW).2⟩

set_option maxHeartbeats 1600000 in
theorem putBlock_any (B x : Nat) (s : Est) (L : Ld) (bo ao qo : Option Addr) (ba ca cb : Nat) (S : List ByteArray) (X : List Wr) (w : World) (hS : wS s.ss s.xs s.p.host (1 + s.p.host) (encB (ownK s.p s.bs)) = S) (hX : wX s.xs s.p.host (1 + s.p.host) (encB (ownK s.p s.bs)) = X) (hd : diskB s.ss s.xs = true) (hl : s.xs.length < 200) (hp : pxB s.p = true) (hb : bksB s.bs = true) (hs : Sto w B x s L bo ba ao ca qo cb) :
    Calls Tryz.prog 82 #[.pointer (some ⟨x, 0, none⟩)] w fun e w' => e = .returned (.tuple #[]) ∧ StoE w' B x ⟨S, X, s.p, s.bs⟩ L ∧ Keep (fun j => j = x) w w' := by
  obtain ⟨hh, _⟩ := px_parts hp
  have hr := own_right hp hb
  have h4 := (bksB_parts hb).1
  obtain ⟨y, hy⟩ : ∃ y, ownK s.p s.bs = y := ⟨_, rfl⟩
  rw [hy] at hS hX hr
  have HY := hide hy
  have HO := hide (fun W hW => own_any B x s L bo ao qo ba ca cb W h4 hh hW)
  rw [hy] at HO
  have HE : Hid (ebR y = encB y) := hide (if_pos hr)
  have HP := hide (fun W hW => put_any B x s L bo ao qo ba ca cb (1 + s.p.host) (encB y) S X W hS hX hd hl (by rw [encB_size]; decide) hh (by omega) (by omega) hW)
  have HS := hide hs
  have wr1 : IntKind.i64.wrap (1 + s.p.host) = 1 + s.p.host := by rw [IntKind.wrap_i64]; omega
  clear hS hX hd hl hp hb hs hh hr h4 hy
  go_enter Tryz.func82, Tryz.ntmps82
  go_wp2_with fail
  refine (unhide HO _ (unhide HS)).mono ?_
  rintro e w1 ⟨rfl, hb1⟩
  have HB1 := hide hb1
  clear hb1
  go_wp2_with fail
  refine (encodeBlock_impl y _).mono ?_
  rintro e w2 ⟨rfl, hb2⟩
  rw [unhide HE]
  have HB2 := hide (fr (unhide HB1) hb2)
  have HS2 := hide ((unhide HS).below (unhide HB2))
  obtain ⟨c0, _⟩ := (unhide HS2).v.px
  clear hb2
  go_wp2_with fail
  refine (unhide HP _ (unhide HS2)).mono ?_
  rintro e w3 ⟨rfl, hst, hk⟩
  have HST := hide hst
  have HK := hide ((Keep.of_below (unhide HB2)).trans hk)
  clear hst hk c0
  go_wp2
  go_end0
  exact ⟨rfl, unhide HST, unhide HK⟩

set_option maxHeartbeats 1600000 in
theorem putLeader_any (B x : Nat) (s : Est) (L M : Ld) (bo ao qo : Option Addr) (ba ca cb : Nat) (S : List ByteArray) (X : List Wr) (w : World) (hS : wS s.ss s.xs s.p.host 0 (encL M) = S) (hX : wX s.xs s.p.host 0 (encL M) = X) (hd : diskB s.ss s.xs = true) (hl : s.xs.length < 200) (hh : 0 ≤ s.p.host ∧ s.p.host ≤ 3) (hM : ldB M = true) (hs : Sto w B x s L bo ba ao ca qo cb) :
    Calls Tryz.prog 84 #[.pointer (some ⟨x, 0, none⟩), lV M] w fun e w' => e = .returned (.tuple #[]) ∧ StoE w' B x ⟨S, X, s.p, s.bs⟩ M ∧ Keep (fun j => j = x) w w' := by
  have HE : Hid (elR M = encL M) := hide (if_pos hM)
  have HP := hide (fun W hW => put_any B x s L bo ao qo ba ca cb 0 (encL M) S X W hS hX hd hl (by rw [encL_size]; decide) hh (by omega) (by omega) hW)
  have HA := hide (Joins.below_alloc1 w (.cells #[.int .i64 M.ver, .int .i64 M.own, .int .i64 M.gen] 30))
  have HS := hide (hs.below (unhide HA))
  have HV := hide (VarT.new w 30 M.ver M.own M.gen)
  have hlt := hs.v.lt
  have HN : Hid (¬ w.heap.size = x) := hide (by omega)
  clear hS hX hd hl hh hM hs hlt
  go_enter Tryz.func84, Tryz.ntmps84
  go_wp2_with fail
  refine (encodeLeader_impl M _).mono ?_
  rintro e w2 ⟨rfl, hb2⟩
  rw [unhide HE]
  have HB2 := hide (fr (unhide HA) hb2)
  have HS2 := hide ((unhide HS).below hb2)
  have HV2 := hide ((unhide HV).below hb2)
  clear hb2
  go_wp2_with fail
  refine (unhide HP _ (unhide HS2)).mono ?_
  rintro e w3 ⟨rfl, hst, hk⟩
  obtain ⟨bo', ba', ao', ca', qo', cb', hst⟩ := hst
  have HV3 := hide ((unhide HV2).keep hk (unhide HN))
  have HK := hide ((Keep.of_below (unhide HB2)).trans hk)
  have HL := hide (hst.leader M)
  have HST := hide hst
  obtain ⟨_, _, _, d11, d12, d13⟩ := hst.v.rest
  have f11 := hst.v.free 11
  have f12 := hst.v.free 12
  have f13 := hst.v.free 13
  obtain ⟨t0, t1, t2⟩ := (unhide HV3).cells
  clear hst hk
  go_wp2
  go_end0
  exact ⟨rfl, ⟨_, _, _, _, _, _, unhide HL⟩, (unhide HK).trans (keep_lead w3 x _ _ _)⟩

end Go.Proofs.YtefnapcegeojoaaGreatDoor

namespace Go.Proofs.YtefnapcegeojoaaGreatDoor
open Go.RowKit
set_option linter.unusedVariables false
set_option maxRecDepth 100000

set_option maxHeartbeats 1600000 in
theorem blockOK_spec (x : Bk) (w : World) : Calls Tryz.prog 143 #[bV x] w fun e w' => e = .returned (.bool (bkB x)) ∧ Below w.heap.size w w' := by
  go_enter Tryz.func143, Tryz.ntmps143
  go_wp2_with fail
  refine (l01In_num x.ver 0 1000000 _).mono ?_
  rintro e w1 ⟨rfl, rfl⟩
  by_cases h1 : inB x.ver 0 1000000 = false
  · have hr := hide (bkB_1 h1)
    go_wp2
    go_ret
    rw [unhide hr]
    exact ⟨rfl, Joins.below_alloc1 _ _⟩
  rw [Bool.not_eq_false] at h1
  go_wp2_with fail
  refine (l01In_num x.mbal 0 1000000 _).mono ?_
  rintro e w1 ⟨rfl, rfl⟩
  by_cases h2 : inB x.mbal 0 1000000 = false
  · have hr := hide (bkB_2 h2)
    go_wp2
    go_ret
    rw [unhide hr]
    exact ⟨rfl, Joins.below_alloc1 _ _⟩
  rw [Bool.not_eq_false] at h2
  go_wp2_with fail
  refine (l01In_num x.bal 0 x.mbal _).mono ?_
  rintro e w1 ⟨rfl, rfl⟩
  by_cases h3 : inB x.bal 0 x.mbal = false
  · have hr := hide (bkB_3 h3)
    go_wp2
    go_ret
    rw [unhide hr]
    exact ⟨rfl, Joins.below_alloc1 _ _⟩
  rw [Bool.not_eq_false] at h3
  go_wp2_with fail
  refine (l01In_num x.inp 0 2147483647 _).mono ?_
  rintro e w1 ⟨rfl, rfl⟩
  by_cases h4 : inB x.inp 0 2147483647 = false
  · have hr := hide (bkB_4 h4)
    go_wp2
    go_ret
    rw [unhide hr]
    exact ⟨rfl, Joins.below_alloc1 _ _⟩
  rw [Bool.not_eq_false] at h4
  have hr := hide (bkB_5 h1 h2 h3 h4)
  clear h1 h2 h3
  by_cases h5 : 0 < x.bal
  · have hv : Hid (bkB x = true) := hide (by rw [unhide hr]; simp [h5])
    go_wp2
    go_ret
    rw [unhide hv]
    exact ⟨rfl, Joins.below_alloc1 _ _⟩
  · have hv : Hid (bkB x = decide (x.inp = 0)) := hide (by rw [unhide hr]; simp [h5])
    go_wp2
    go_ret
    rw [unhide hv]
    exact ⟨ret_bool (by rw [Bool.eq_iff_iff]; simp <;> omega), Joins.below_alloc1 _ _⟩

set_option maxHeartbeats 1600000 in
theorem l05Encode_bk (x : Bk) (w : World) (hd : bkB x = true) : Calls Tryz.prog 68 #[bV x] w fun e w' => e = .returned (.string (encB x)) ∧ Below w.heap.size w w' := by
  have HD := hide (b4_nums hd)
  clear hd
  go_enter Tryz.func68, Tryz.ntmps68
  go_wp2_with fail
  refine (l02Seal_any 5 _ 4 [x.ver, x.mbal, x.bal, x.inp] _ (by decide) (by simp) (unhide HD) (is4 _ _ _ _ _ _ _ (by simp))).mono ?_
  rintro e w1 ⟨rfl, hb⟩
  have HB := hide hb
  clear hb
  go_wp2
  go_ret
  exact ⟨rfl, fr (Joins.below_alloc2 _ _ _) (unhide HB)⟩

set_option maxHeartbeats 1600000 in
theorem l05Decode_any (t : ByteArray) (w : World) (hs : t.size ≤ 65536) : Calls Tryz.prog 120 #[.string t] w fun e w' => e = .returned (.tuple #[bV (bdK t), .bool (bdB t)]) ∧ Below w.heap.size w w' := by
  have HA := hide (Joins.below_alloc1 w (.cells #[.int .i64 0, .int .i64 0, .int .i64 0, .int .i64 0] 96))
  have HV := hide (VarB.new0 w 96)
  go_enter Tryz.func120, Tryz.ntmps120
  go_wp2_with fail
  refine (l02Open_any t 5 _ hs).mono ?_
  rintro e w1 ⟨v, rfl, ⟨qo, qa, rfl, ho⟩, hb⟩
  have HB := hide (fr (unhide HA) hb)
  have HB1 := hide hb
  have HO := hide ho
  obtain ⟨hc0, hc1, hc2, hc3⟩ := ((unhide HV).below hb).cells
  obtain ⟨hf0, hf1, hf2, hf3⟩ := ((unhide HV).below hb).free
  have HR := hide (fun u v x y => below4 (unhide HB) (Nat.le_refl _) 0 1 2 3 u v x y)
  clear hb ho
  by_cases hb : openB t 5 = false
  · have HE := hide (bdB_open hb)
    go_wp2
    refine bodyPost_ret (v := .tuple #[bV bk0, .bool false]) (by simp [results, Tryz.results120, go_sem, hc0, hc1, hc2, hc3, bk0]) rfl ⟨?_, unhide HR _ _ _ _⟩
    exact ret_bb (bd_no (unhide HE)).symm (unhide HE).symm
  rw [Bool.not_eq_false] at hb
  by_cases h3 : (openL t 5).length = 4
  · obtain ⟨a, b, c, d, hl⟩ := fourK h3
    have HL := hide hl
    have hI := ownRN (unhide HO)
    rw [hl] at hI
    obtain ⟨g, off, rfl, hi0⟩ := hI 0 (by simp)
    obtain ⟨g', off', he, hi1⟩ := hI 1 (by simp)
    cases he
    obtain ⟨g', off', he, hi2⟩ := hI 2 (by simp)
    cases he
    obtain ⟨g', off', he, hi3⟩ := hI 3 (by simp)
    cases he
    simp only [List.getElem_cons_zero, List.getElem_cons_succ, Nat.add_zero] at hi0 hi1 hi2 hi3
    have hg := World.block_lt_of_cell? _ _ hi0
    clear hI
    go_wp2_with fail
    have HA2 := hide (Joins.below_alloc1 w1 (.cells #[.int .i64 a, .int .i64 b, .int .i64 c, .int .i64 d] 96)).drew
    have HV2 := hide (((unhide HV).below (unhide HB1)).below (unhide HA2))
    have HV3 : Hid (VarB (w1.alloc (.cells #[.int .i64 a, .int .i64 b, .int .i64 c, .int .i64 d] 96)).drew w1.heap.size 96 ⟨a, b, c, d⟩) := hide ((VarB.new w1 96 ⟨a, b, c, d⟩).below (Below.refl _ _).drew)
    have HB2 := hide (fr (unhide HB) (unhide HA2))
    clear hc0 hc1 hc2 hc3 hf0 hf1 hf2 hf3 HR
    go_region
    go_wp2_with fail
    refine (blockOK_spec ⟨a, b, c, d⟩ _).mono ?_
    rintro e w2 ⟨rfl, hb2⟩
    have HB3 := hide (fr (unhide HB2) hb2)
    obtain ⟨hc0, hc1, hc2, hc3⟩ := ((unhide HV2).below hb2).cells
    obtain ⟨hf0, hf1, hf2, hf3⟩ := ((unhide HV2).below hb2).free
    obtain ⟨hx0, hx1, hx2, hx3⟩ := ((unhide HV3).below hb2).cells
    have HR := hide (fun u v x y => below4 (unhide HB3) (Nat.le_refl _) 0 1 2 3 u v x y)
    have HE := hide (bdB_at hb (unhide HL))
    clear hb2 hi0 hi1 hi2 hi3
    by_cases hd : bkB ⟨a, b, c, d⟩ = true
    · go_wp2
      refine bodyPost_ret (v := .tuple #[bV ⟨a, b, c, d⟩, .bool true]) (by simp [results, Tryz.results120, go_sem, hc0, hc1, hc2, hc3]) rfl ⟨?_, unhide HR _ _ _ _⟩
      exact ret_bb (bd_yes (by rw [unhide HE]; exact hd) (unhide HL)).symm (by rw [unhide HE]; exact hd.symm)
    · rw [Bool.not_eq_true] at hd
      go_wp2
      refine bodyPost_ret (v := .tuple #[bV bk0, .bool false]) (by simp [results, Tryz.results120, go_sem, hc0, hc1, hc2, hc3, bk0]) rfl ⟨?_, unhide HR _ _ _ _⟩
      exact ret_bb (bd_no (by rw [unhide HE]; exact hd)).symm (by rw [unhide HE]; exact hd.symm)
  · have HE := hide (bdB_len h3)
    go_wp2
    refine bodyPost_ret (v := .tuple #[bV bk0, .bool false]) (by simp [results, Tryz.results120, go_sem, hc0, hc1, hc2, hc3, bk0]) rfl ⟨?_, unhide HR _ _ _ _⟩
    exact ret_bb (bd_no (unhide HE)).symm (unhide HE).symm

end Go.Proofs.YtefnapcegeojoaaGreatDoor

namespace Go.Proofs.YtefnapcegeojoaaGreatDoor
open Go.RowKit
set_option linter.unusedVariables false
set_option maxRecDepth 100000

theorem fieldB1 (x : Bk) (W : World) : (Instr.field 96 (bV x) 1).run Tryz.prog W = .ok (.int .i64 x.mbal) W := by kernel_rfl

end Go.Proofs.YtefnapcegeojoaaGreatDoor

namespace Go.Proofs.YtefnapcegeojoaaGreatDoor
open Go.RowKit
set_option linter.unusedVariables false
set_option maxRecDepth 100000

theorem max_le {n m : Int} (h : m ≤ n) : max n m = n := by omega
theorem max_gt {n m : Int} (h : ¬ m ≤ n) : max n m = m := by omega

set_option maxHeartbeats 1600000 in
theorem l05Next_any (h v : Int) (ao : Option Addr) (n cap : Nat) (xs : List Bk) (w : World) (hn : xs.length = n) (hl : n ≤ 1048576) (hh : 0 ≤ h ∧ h ≤ 3) (hm : ∀ i (hi : i < xs.length), xs[i].mbal ≤ 1000000000) (hc : Bks w ao xs) :
    Calls Tryz.prog 87 #[.int .i64 h, .int .i64 v, .slice ao n cap] w fun e w' => e = .returned (.int .i64 (nxBal h v xs)) ∧ Below w.heap.size w w' := by
  have HC := hide hc
  have HM := hide hm
  clear hc hm
  subst hn
  go_enter Tryz.func87, Tryz.ntmps87
  go_wp2
  go_loopw [7, 8] (fun c i wr => ∃ k : Nat, ∃ n : Int, k ≤ xs.length ∧ i = .int .i64 k ∧ c = .int .i64 n ∧ (0 ≤ n ∧ n ≤ 1000000000) ∧ Hid (nxMax v (xs.drop k) n = nxMax v xs 0) ∧ Hid (Below w.heap.size w wr)) (fun _ i _ => xs.length - (intOf i).toNat)
  case atStart => exact ⟨0, 0, Nat.zero_le _, rfl, rfl, by omega, hide rfl, hide (Below.refl _ _)⟩
  case round =>
    obtain ⟨k, n, hk, rfl, rfl, hn, HA, HB⟩ := hrel
    by_cases hlt : k < xs.length
    · obtain ⟨b, off, rfl, c0, c1, c2, c3⟩ := (unhide HC).below (unhide HB) k hlt
      have hf := fieldB1 (bkOf xs[k] v)
      have HN := hide ((nxMax_drop (v := v) hlt n).symm.trans (unhide HA))
      have hmb := bkOf_mbal xs[k] v
      have hm1 := unhide HM k hlt
      go_wp2_with fail
      refine (l05Of_any xs[k] v _).mono ?_
      rintro e w1 ⟨rfl, hb⟩
      have HB1 := hide (fr (unhide HB) hb)
      clear hb
      by_cases hx : (bkOf xs[k] v).mbal ≤ n
      · have HX : Hid (nxMax v (xs.drop (k + 1)) n = nxMax v xs 0) := hide (by rw [← unhide HN, max_le hx])
        go_wp2_with fail
        go_roundw
        case rel => exact ⟨k + 1, n, by omega, by go_num, by first | rfl | (rw [max_le hx]), hn, HX, HB1⟩
        case measure => simp [intOf]; omega
      · have HX : Hid (nxMax v (xs.drop (k + 1)) (bkOf xs[k] v).mbal = nxMax v xs 0) := hide (by rw [← unhide HN, max_gt hx])
        go_wp2_with fail
        go_roundw
        case rel => exact ⟨k + 1, (bkOf xs[k] v).mbal, by omega, by go_num, by first | rfl | (rw [max_gt hx]), by omega, HX, HB1⟩
        case measure => simp [intOf]; omega
    · have HF : Hid (nxBal h v xs = (Int.tdiv n 4 + 1) * 4 + h) := hide (by rw [nxBal, ← unhide HA, nxMax_done hlt])
      have hq : 0 ≤ Int.tdiv n 4 ∧ Int.tdiv n 4 ≤ 1000000000 := by rw [Int.tdiv_eq_ediv_of_nonneg hn.1]; omega
      have w1 : IntKind.i64.wrap (Int.tdiv n 4 + 1) = Int.tdiv n 4 + 1 := by rw [IntKind.wrap_i64]; omega
      have w2 : IntKind.i64.wrap ((Int.tdiv n 4 + 1) * 4) = (Int.tdiv n 4 + 1) * 4 := by rw [IntKind.wrap_i64]; omega
      have w3 : IntKind.i64.wrap ((Int.tdiv n 4 + 1) * 4 + h) = (Int.tdiv n 4 + 1) * 4 + h := by rw [IntKind.wrap_i64]; omega
      go_wp2
      go_ret
      exact ⟨ret_int (unhide HF).symm, unhide HB⟩

set_option maxHeartbeats 1600000 in
theorem asOf_any (x : Bk) (v : Int) (w : World) : Calls Tryz.prog 149 #[bV x, .int .i64 v] w fun e w' => e = .returned (bV (bkOf x v)) ∧ Below w.heap.size w w' := by
  by_cases h : x.ver < v
  · rw [show bkOf x v = ⟨v, 0, 0, 0⟩ from if_pos h]
    go_enter Tryz.func149, Tryz.ntmps149
    go_wp2
    exact bodyPost_ret (v := bV ⟨v, 0, 0, 0⟩) (by simp [results, Tryz.results149, go_sem]) rfl ⟨rfl, Joins.below_alloc2 _ _ _⟩
  · rw [show bkOf x v = x from if_neg h]
    go_enter Tryz.func149, Tryz.ntmps149
    go_wp2
    exact bodyPost_ret (v := bV x) (by simp [results, Tryz.results149, go_sem]) rfl ⟨rfl, Joins.below_alloc2 _ _ _⟩

set_option maxHeartbeats 1600000 in
theorem blocksFault_any (ao : Option Addr) (cap : Nat) (xs : List Bk) (w : World) (hl : xs.length ≤ 1048576) (hc : Bks w ao xs) :
    Calls Tryz.prog 135 #[.slice ao xs.length cap] w fun e w' => e = .returned (.int .i64 (bfC xs)) ∧ Below w.heap.size w w' := by
  have HC := hide hc
  clear hc
  by_cases h1 : 4096 < xs.length
  · have HE := hide (bfC_long h1)
    go_enter Tryz.func135, Tryz.ntmps135
    go_wp2
    go_ret
    exact ⟨ret_int (unhide HE).symm, Below.refl _ _⟩
  by_cases h4 : ¬ xs.length = 4
  · have HE := hide (bfC_bad h1 (bksB_false_len h4))
    have hb : ((xs.length : Int) != 4) = true := by simp; omega
    go_enter Tryz.func135, Tryz.ntmps135
    go_wp2
    go_ret
    exact ⟨ret_int (unhide HE).symm, Below.refl _ _⟩
  rw [Decidable.not_not] at h4
  have hb : ((xs.length : Int) != 4) = false := by simp; omega
  have H4 := hide h4
  clear h4
  go_enter Tryz.func135, Tryz.ntmps135
  go_wp2
  go_loopw [4, 13] (fun _ i wr => ∃ k : Nat, k ≤ xs.length ∧ i = .int .i64 k ∧ Hid (∀ j (h : j < xs.length), j < k → bkB xs[j] = true) ∧ Hid (Below w.heap.size w wr)) (fun _ i _ => xs.length - (intOf i).toNat)
  case atStart => exact ⟨0, Nat.zero_le _, rfl, hide (fun j _ h => by omega), hide (Below.refl _ _)⟩
  case round =>
    obtain ⟨k, hk, rfl, HA, HB⟩ := hrel
    by_cases hlt : k < xs.length
    · obtain ⟨b, off, rfl, c0, c1, c2, c3⟩ := (unhide HC).below (unhide HB) k hlt
      by_cases hn : bkB xs[k] = true
      · have HN := hide (all_succ (p := bkB) hlt (unhide HA) hn)
        go_wp2_with fail
        refine (blockOK_impl xs[k] _).mono ?_
        rintro e w1 ⟨rfl, hb⟩
        have HB1 := hide (fr (fr (unhide HB) (Joins.below_alloc1 _ _)) hb)
        clear hb
        go_wp2_with fail
        go_roundw
        case rel => exact ⟨k + 1, by omega, by go_num, HN, HB1⟩
        case measure => simp [intOf]; omega
      · have hn' : bkB xs[k] = false := by simpa using hn
        have HF := hide (bfC_bad h1 (bksB_false_at hlt hn'))
        clear hn
        go_wp2_with fail
        refine (blockOK_impl xs[k] _).mono ?_
        rintro e w1 ⟨rfl, hb⟩
        have HB1 := hide (fr (fr (unhide HB) (Joins.below_alloc1 _ _)) hb)
        clear hb
        go_wp2
        go_ret
        exact ⟨ret_int (unhide HF).symm, unhide HB1⟩
    · have HF := hide (bfC_ok h1 (bksB_true (unhide H4) (fun j h => unhide HA j h (by omega))))
      go_wp2
      go_ret
      exact ⟨ret_int (unhide HF).symm, unhide HB⟩

set_option maxHeartbeats 1600000 in
theorem greatestBegun_any (v : Int) (ao : Option Addr) (n cap : Nat) (xs : List Bk) (w : World) (hn : xs.length = n) (hl : n ≤ 1048576) (hm : ∀ i (hi : i < xs.length), xs[i].mbal ≤ 1000000000) (hc : Bks w ao xs) :
    Calls Tryz.prog 136 #[.slice ao n cap, .int .i64 v] w fun e w' => e = .returned (.int .i64 (nxMax v xs 0)) ∧ (0 ≤ nxMax v xs 0 ∧ nxMax v xs 0 ≤ 1000000000) ∧ Below w.heap.size w w' := by
  have HC := hide hc
  have HM := hide hm
  clear hc hm
  subst hn
  go_enter Tryz.func136, Tryz.ntmps136
  go_wp2
  go_loopw [5, 7, 10] (fun c _ i wr => ∃ k : Nat, ∃ n : Int, k ≤ xs.length ∧ i = .int .i64 k ∧ c = .int .i64 n ∧ (0 ≤ n ∧ n ≤ 1000000000) ∧ Hid (nxMax v (xs.drop k) n = nxMax v xs 0) ∧ Hid (Below w.heap.size w wr)) (fun _ _ i _ => xs.length - (intOf i).toNat)
  case atStart => exact ⟨0, 0, Nat.zero_le _, rfl, rfl, by omega, hide rfl, hide (Below.refl _ _)⟩
  case round =>
    obtain ⟨k, n, hk, rfl, rfl, hn, HA, HB⟩ := hrel
    by_cases hlt : k < xs.length
    · obtain ⟨b, off, rfl, c0, c1, c2, c3⟩ := (unhide HC).below (unhide HB) k hlt
      have hf := fieldB1 (bkOf xs[k] v)
      have HN := hide ((nxMax_drop (v := v) hlt n).symm.trans (unhide HA))
      have hmb := bkOf_mbal xs[k] v
      have hm1 := unhide HM k hlt
      go_wp2_with fail
      refine (asOf_any xs[k] v _).mono ?_
      rintro e w1 ⟨rfl, hb⟩
      have HB1 := hide (fr (fr (unhide HB) (Joins.below_alloc1 _ _)) hb)
      clear hb
      by_cases hx : (bkOf xs[k] v).mbal ≤ n
      · have HX : Hid (nxMax v (xs.drop (k + 1)) n = nxMax v xs 0) := hide (by rw [← unhide HN, max_le hx])
        go_wp2_with fail
        go_roundw
        case rel => exact ⟨k + 1, n, by omega, by go_num, by first | rfl | (rw [max_le hx]), hn, HX, HB1⟩
        case measure => simp [intOf]; omega
      · have HX : Hid (nxMax v (xs.drop (k + 1)) (bkOf xs[k] v).mbal = nxMax v xs 0) := hide (by rw [← unhide HN, max_gt hx])
        go_wp2_with fail
        go_roundw
        case rel => exact ⟨k + 1, (bkOf xs[k] v).mbal, by omega, by go_num, by first | rfl | (rw [max_gt hx]), by omega, HX, HB1⟩
        case measure => simp [intOf]; omega
    · have HF : Hid (nxMax v xs 0 = n) := hide (by rw [← unhide HA, nxMax_done hlt])
      go_wp2
      go_ret
      rw [unhide HF]
      exact ⟨rfl, hn, unhide HB⟩

theorem bks_mbal {xs : List Bk} (h : bksB xs = true) : ∀ i (hi : i < xs.length), xs[i].mbal ≤ 1000000000 := fun i hi => by
  have := (bksB_parts h).2 i hi
  have e : xs.getD i bk0 = xs[i] := by simp [hi]
  rw [e] at this
  have := (bkB_iff.1 this).2.1
  omega
theorem ret_ii {a b c d : Int} (h : a = b) (k : c = d) : Ending.returned (.tuple #[.int .i64 a, .int .i64 c]) = .returned (.tuple #[.int .i64 b, .int .i64 d]) := by rw [h, k]

set_option maxHeartbeats 3200000 in
theorem nextBallot_impl (h v : Int) (ao : Option Addr) (cap : Nat) (xs : List Bk) (w : World) (hl : xs.length ≤ 1048576) (hc : Bks w ao xs) :
    Calls Tryz.prog 114 #[.int .i64 h, .int .i64 v, .slice ao xs.length cap] w fun e w' => e = .returned (.tuple #[.int .i64 (nbN h v xs), .int .i64 (nbC h v xs)]) ∧ Below w.heap.size w w' := by
  have HC := hide hc
  clear hc
  go_enter Tryz.func114, Tryz.ntmps114
  go_wp2_with fail
  refine (blocksFault_any ao cap xs _ hl (unhide HC)).mono ?_
  rintro e w1 ⟨rfl, hb⟩
  have HB := hide hb
  clear hb
  by_cases h0 : ¬ bfC xs = 0
  · have HE := hide (nb_fault (h := h) (v := v) h0)
    have hb : (bfC xs != 0) = true := by simp [h0]
    go_wp2
    go_ret2
    exact ⟨ret_ii (unhide HE).1.symm (unhide HE).2.symm, unhide HB⟩
  rw [Decidable.not_not] at h0
  have hb : (bfC xs != 0) = false := by simp [h0]
  have H0 := hide h0
  clear h0
  go_wp2_with fail
  refine (hostOK_any h _).mono ?_
  rintro e w2 ⟨rfl, rfl⟩
  by_cases h1 : inB h 0 3 = false
  · have HE := hide (nb_range (h := h) (v := v) (unhide H0) (by rw [h1]; rfl))
    go_wp2
    go_ret2
    exact ⟨ret_ii (unhide HE).1.symm (unhide HE).2.symm, unhide HB⟩
  rw [Bool.not_eq_false] at h1
  go_wp2_with fail
  refine (verOK_any v _).mono ?_
  rintro e w2 ⟨rfl, rfl⟩
  by_cases h2 : inB v 0 1000000 = false
  · have HE := hide (nb_range (h := h) (v := v) (unhide H0) (by rw [h1, h2]; rfl))
    go_wp2
    go_ret2
    exact ⟨ret_ii (unhide HE).1.symm (unhide HE).2.symm, unhide HB⟩
  rw [Bool.not_eq_false] at h2
  go_wp2_with fail
  refine (greatestBegun_any v ao xs.length cap xs _ rfl hl (bks_mbal (bfC_zero (unhide H0))) ((unhide HC).below (unhide HB))).mono ?_
  rintro e w3 ⟨rfl, hn, hb3⟩
  have HB3 := hide (fr (unhide HB) hb3)
  clear hb3
  have HX : Hid (nxBal h v xs = (Int.tdiv (nxMax v xs 0) 4 + 1) * 4 + h) := hide rfl
  have hh : 0 ≤ h ∧ h ≤ 3 := by simpa [inB] using h1
  have HM := hide (fun e => nb_many (h := h) (v := v) (unhide H0) h1 h2 e)
  have HO := hide (fun e => nb_ok (h := h) (v := v) (unhide H0) h1 h2 e)
  revert HX hn
  generalize nxMax v xs 0 = n
  intro hn HX
  have hq : 0 ≤ Int.tdiv n 4 ∧ Int.tdiv n 4 ≤ 1000000000 := by rw [Int.tdiv_eq_ediv_of_nonneg hn.1]; omega
  have w1 : IntKind.i64.wrap (Int.tdiv n 4 + 1) = Int.tdiv n 4 + 1 := by rw [IntKind.wrap_i64]; omega
  have w2 : IntKind.i64.wrap ((Int.tdiv n 4 + 1) * 4) = (Int.tdiv n 4 + 1) * 4 := by rw [IntKind.wrap_i64]; omega
  have w3 : IntKind.i64.wrap ((Int.tdiv n 4 + 1) * 4 + h) = (Int.tdiv n 4 + 1) * 4 + h := by rw [IntKind.wrap_i64]; omega
  by_cases hm : 1000000 < (Int.tdiv n 4 + 1) * 4 + h
  · have HE := hide (unhide HM (by rw [unhide HX]; exact hm))
    go_wp2
    go_ret2
    exact ⟨ret_ii (unhide HE).1.symm (unhide HE).2.symm, unhide HB3⟩
  · have HE := hide (unhide HO (by rw [unhide HX]; exact hm))
    go_wp2
    go_ret2
    exact ⟨ret_ii ((unhide HX).symm.trans (unhide HE).1.symm) (unhide HE).2.symm, unhide HB3⟩

end Go.Proofs.YtefnapcegeojoaaGreatDoor

namespace Go.Proofs.YtefnapcegeojoaaGreatDoor
open Go.RowKit
set_option linter.unusedVariables false
set_option maxRecDepth 100000

set_option maxHeartbeats 3200000 in
theorem ballotOK_any (b h : Int) (w : World) : Calls Tryz.prog 150 #[.int .i64 b, .int .i64 h] w fun e w' => e = .returned (.bool (baB b h)) ∧ w' = w := by
  go_enter Tryz.func150, Tryz.ntmps150
  go_wp2_with fail
  refine (within_in b 1 1000000 _).mono ?_
  rintro e w1 ⟨rfl, rfl⟩
  by_cases h1 : inB b 1 1000000 = false
  · have hr : Hid (baB b h = false) := hide (by simp [baB, h1])
    go_wp2
    go_ret
    rw [unhide hr]
    exact ⟨rfl, rfl⟩
  rw [Bool.not_eq_false] at h1
  have hm := ball_mod h1
  have hr : Hid (baB b h = decide (b % 4 = h)) := hide (by simp [baB, h1])
  go_wp2
  go_ret
  rw [unhide hr]
  exact ⟨ret_bool (by rw [Bool.eq_iff_iff]; simp), rfl⟩

set_option maxHeartbeats 3200000 in
theorem pxOK_impl (p : Pxs) (w : World) : Calls Tryz.prog 137 #[pV p] w fun e w' => e = .returned (.bool (pxB p)) ∧ Below w.heap.size w w' := by
  go_enter Tryz.func137, Tryz.ntmps137
  go_wp2_with fail
  refine (hostOK_any p.host _).mono ?_
  rintro e w1 ⟨rfl, rfl⟩
  by_cases h1 : inB p.host 0 3 = false
  · have hr := hide (pxB_1 h1)
    go_wp2
    go_ret
    rw [unhide hr]
    exact ⟨rfl, Joins.below_alloc1 _ _⟩
  rw [Bool.not_eq_false] at h1
  go_wp2_with fail
  refine (verOK_any p.ver _).mono ?_
  rintro e w1 ⟨rfl, rfl⟩
  by_cases h2 : inB p.ver 0 1000000 = false
  · have hr := hide (pxB_2 h2)
    go_wp2
    go_ret
    rw [unhide hr]
    exact ⟨rfl, Joins.below_alloc1 _ _⟩
  rw [Bool.not_eq_false] at h2
  go_wp2_with fail
  refine (within_in p.phase 1 6 _).mono ?_
  rintro e w1 ⟨rfl, rfl⟩
  by_cases h3 : inB p.phase 1 6 = false
  · have hr := hide (pxB_3 h3)
    go_wp2
    go_ret
    rw [unhide hr]
    exact ⟨rfl, Joins.below_alloc1 _ _⟩
  rw [Bool.not_eq_false] at h3
  go_wp2_with fail
  refine (ballotOK_any p.ballot p.host _).mono ?_
  rintro e w1 ⟨rfl, rfl⟩
  by_cases h4 : baB p.ballot p.host = false
  · have hr := hide (pxB_ba h4)
    go_wp2
    go_ret
    rw [unhide hr]
    exact ⟨rfl, Joins.below_alloc1 _ _⟩
  rw [Bool.not_eq_false] at h4
  go_wp2_with fail
  refine (isNumber_any p.value _).mono ?_
  rintro e w1 ⟨rfl, rfl⟩
  by_cases h6 : numB p.value = false
  · have hr := hide (pxB_6 h6)
    go_wp2
    go_ret
    rw [unhide hr]
    exact ⟨rfl, Joins.below_alloc1 _ _⟩
  rw [Bool.not_eq_false] at h6
  go_wp2_with fail
  refine (within_in p.next 0 4 _).mono ?_
  rintro e w1 ⟨rfl, rfl⟩
  by_cases h7 : inB p.next 0 4 = false
  · have hr := hide (pxB_7 h7)
    go_wp2
    go_ret
    rw [unhide hr]
    exact ⟨rfl, Joins.below_alloc1 _ _⟩
  rw [Bool.not_eq_false] at h7
  go_wp2_with fail
  refine (isNumber_any p.best _).mono ?_
  rintro e w1 ⟨rfl, rfl⟩
  by_cases h8 : numB p.best = false
  · have hr := hide (pxB_8 h8)
    go_wp2
    go_ret
    rw [unhide hr]
    exact ⟨rfl, Joins.below_alloc1 _ _⟩
  rw [Bool.not_eq_false] at h8
  have hr := hide (pxB_9b h1 h2 h3 h4 h6 h7 h8)
  go_wp2_with fail
  refine (within_in p.bestBal 0 1000000 _).mono ?_
  rintro e w1 ⟨rfl, rfl⟩
  go_wp2
  go_ret
  rw [unhide hr]
  exact ⟨rfl, Joins.below_alloc1 _ _⟩

set_option maxHeartbeats 3200000 in
theorem pxStart_impl (h v b x : Int) (w : World) : Calls Tryz.prog 115 #[.int .i64 h, .int .i64 v, .int .i64 b, .int .i64 x] w fun e w' => e = .returned (.tuple #[pV (psP h v b x), .int .i64 (psC h v b x)]) ∧ Below w.heap.size w w' := by
  have HV := hide (VarP.new0 w 63)
  have HV2 : Hid (VarP ((w.alloc (.cells #[.int .i64 0, .int .i64 0, .int .i64 0, .int .i64 0, .int .i64 0, .int .i64 0, .int .i64 0, .int .i64 0] 63)).alloc (.cells #[.int .i64 h, .int .i64 v, .int .i64 1, .int .i64 b, .int .i64 x, .int .i64 0, .int .i64 0, .int .i64 0] 63)) (w.heap.size + 1) 63 (ps0 h v b x)) := hide (by
    have := VarP.new (w.alloc (.cells #[.int .i64 0, .int .i64 0, .int .i64 0, .int .i64 0, .int .i64 0, .int .i64 0, .int .i64 0, .int .i64 0] 63)) 63 (ps0 h v b x)
    simp only [World.size_alloc] at this
    exact this)
  have HB := hide (Joins.below_alloc2 w (.cells #[.int .i64 0, .int .i64 0, .int .i64 0, .int .i64 0, .int .i64 0, .int .i64 0, .int .i64 0, .int .i64 0] 63) (.cells #[.int .i64 h, .int .i64 v, .int .i64 1, .int .i64 b, .int .i64 x, .int .i64 0, .int .i64 0, .int .i64 0] 63))
  go_enter Tryz.func115, Tryz.ntmps115
  go_wp2_with fail
  refine (pxOK_impl (ps0 h v b x) _).mono ?_
  rintro e w1 ⟨rfl, hb⟩
  obtain ⟨c0, c1, c2, c3, c4, c5, c6, c7⟩ := ((unhide HV2).below hb).cells
  obtain ⟨d0, d1, d2, d3, d4, d5, d6, d7⟩ := (((unhide HV).below (Joins.below_alloc1 _ _)).below hb).cells
  obtain ⟨f0, f1, f2, f3, f4, f5, f6, f7⟩ := (((unhide HV).below (Joins.below_alloc1 _ _)).below hb).free
  have HB1 := hide (fun u0 u1 u2 u3 u4 u5 u6 u7 => below8 (fr (unhide HB) hb) (Nat.le_refl _) u0 u1 u2 u3 u4 u5 u6 u7)
  clear hb
  by_cases hd : pxB (ps0 h v b x) = true
  · have HE : Hid (psP h v b x = ps0 h v b x ∧ psC h v b x = 0) := hide ⟨if_pos hd, if_pos hd⟩
    go_wp2
    refine bodyPost_ret (v := .tuple #[pV (ps0 h v b x), .int .i64 0]) (by simp [results, Tryz.results115, go_sem, d0, d1, d2, d3, d4, d5, d6, d7, ps0]) rfl ⟨?_, unhide HB1 _ _ _ _ _ _ _ _⟩
    exact ret_pi (unhide HE).1.symm (unhide HE).2.symm
  · have HE : Hid (psP h v b x = p00 ∧ psC h v b x = 4) := hide ⟨if_neg hd, if_neg hd⟩
    rw [Bool.not_eq_true] at hd
    go_wp2
    refine bodyPost_ret (v := .tuple #[pV p00, .int .i64 4]) (by simp [results, Tryz.results115, go_sem, d0, d1, d2, d3, d4, d5, d6, d7, p00]) rfl ⟨?_, unhide HB1 _ _ _ _ _ _ _ _⟩
    exact ret_pi (unhide HE).1.symm (unhide HE).2.symm

end Go.Proofs.YtefnapcegeojoaaGreatDoor

namespace Go.Proofs.YtefnapcegeojoaaGreatDoor
open Go.RowKit
set_option linter.unusedVariables false
set_option maxRecDepth 100000

end Go.Proofs.YtefnapcegeojoaaGreatDoor

namespace Go.Proofs.YtefnapcegeojoaaGreatDoor
open Go.RowKit
set_option linter.unusedVariables false
set_option maxRecDepth 100000

def ahB (b : Bk) (p : Pxs) : Bool := decide (p.ver < b.ver) || decide (p.ballot < b.mbal)
def hdP (p : Pxs) (b : Bk) : Pxs := if p.bestBal < b.bal then { p with best := b.inp, bestBal := b.bal } else p
def chP (p : Pxs) : Pxs := if 0 < p.bestBal then { p with phase := 3, value := p.best } else { p with phase := 3 }

set_option maxHeartbeats 1600000 in
theorem isAhead_any (b : Bk) (p : Pxs) (w : World) : Calls Tryz.prog 162 #[bV b, pV p] w fun e w' => e = .returned (.bool (ahB b p)) ∧ Below w.heap.size w w' := by
  by_cases h1 : p.ver < b.ver
  · have HE : Hid (ahB b p = true) := hide (by simp [ahB, h1])
    go_enter Tryz.func162, Tryz.ntmps162
    go_wp2
    go_ret
    exact ⟨ret_bool (unhide HE).symm, Joins.below_alloc2 _ _ _⟩
  · have HE : Hid (ahB b p = decide (p.ballot < b.mbal)) := hide (by simp [ahB, h1])
    go_enter Tryz.func162, Tryz.ntmps162
    go_wp2
    go_ret
    exact ⟨ret_bool (by rw [unhide HE]), Joins.below_alloc2 _ _ _⟩

set_option maxHeartbeats 1600000 in
theorem turned_any (p : Pxs) (n : Int) (w : World) : Calls Tryz.prog 163 #[pV p, .int .i64 n] w fun e w' => e = .returned (pV { p with phase := n }) ∧ Below w.heap.size w w' := by
  go_enter Tryz.func163, Tryz.ntmps163
  go_wp2
  exact bodyPost_ret (v := pV { p with phase := n }) (by simp [results, Tryz.results163, go_sem]) rfl ⟨rfl, Joins.below_alloc2 _ _ _⟩

set_option maxHeartbeats 1600000 in
theorem pastOwn_any (p : Pxs) (w : World) (hx : 0 ≤ p.next ∧ p.next ≤ 4) : Calls Tryz.prog 165 #[pV p] w fun e w' => e = .returned (pV { p with next := skip p p.next }) ∧ Below w.heap.size w w' := by
  have wr1 : IntKind.i64.wrap (p.next + 1) = p.next + 1 := by rw [IntKind.wrap_i64]; omega
  by_cases h : p.next = p.host
  · have e' : (p.next == p.host) = true := by simp [h]
    rw [show skip p p.next = p.next + 1 from if_pos h]
    clear h
    go_enter Tryz.func165, Tryz.ntmps165
    go_wp2
    exact bodyPost_ret (v := pV { p with next := p.next + 1 }) (by simp [results, Tryz.results165, go_sem]) rfl ⟨rfl, Joins.below_alloc2 _ _ _⟩
  · have e' : (p.next == p.host) = false := by simp [h]
    rw [show skip p p.next = p.next from if_neg h]
    clear h
    go_enter Tryz.func165, Tryz.ntmps165
    go_wp2
    exact bodyPost_ret (v := pV p) (by simp [results, Tryz.results165, go_sem]) rfl ⟨rfl, Joins.below_alloc2 _ _ _⟩

set_option maxHeartbeats 1600000 in
theorem heedAccepted_any (p : Pxs) (b : Bk) (w : World) : Calls Tryz.prog 153 #[pV p, bV b] w fun e w' => e = .returned (pV (hdP p b)) ∧ Below w.heap.size w w' := by
  by_cases h : p.bestBal < b.bal
  · rw [show hdP p b = { p with best := b.inp, bestBal := b.bal } from if_pos h]
    go_enter Tryz.func153, Tryz.ntmps153
    go_wp2
    go_region
    go_wp2
    exact bodyPost_ret (v := pV { p with best := b.inp, bestBal := b.bal }) (by simp [results, Tryz.results153, go_sem]) rfl ⟨rfl, by first | exact fr (Joins.below_alloc2 _ _ _) (Joins.below_alloc1 _ _) | exact (fr (Joins.below_alloc2 _ _ _) (Joins.below_alloc1 _ _)).drew⟩
  · rw [show hdP p b = p from if_neg h]
    go_enter Tryz.func153, Tryz.ntmps153
    go_wp2
    exact bodyPost_ret (v := pV p) (by simp [results, Tryz.results153, go_sem]) rfl ⟨rfl, fr (Joins.below_alloc2 _ _ _) (Joins.below_alloc1 _ _)⟩

set_option maxHeartbeats 1600000 in
theorem heedNothing_any (p : Pxs) (b : Bk) (w : World) : Calls Tryz.prog 156 #[pV p, bV b] w fun e w' => e = .returned (pV p) ∧ Below w.heap.size w w' := by
  go_enter Tryz.func156, Tryz.ntmps156
  go_wp2
  exact bodyPost_ret (v := pV p) (by simp [results, Tryz.results156, go_sem]) rfl ⟨rfl, by first | exact fr (Joins.below_alloc2 _ _ _) (Joins.below_alloc1 _ _) | exact Joins.below_alloc2 _ _ _⟩

set_option maxHeartbeats 1600000 in
theorem decideValue_any (p : Pxs) (w : World) : Calls Tryz.prog 157 #[pV p] w fun e w' => e = .returned (pV { p with phase := 5 }) ∧ Below w.heap.size w w' := by
  have HV : Hid (VarP ((w.alloc (.cells #[.int .i64 p.host, .int .i64 p.ver, .int .i64 p.phase, .int .i64 p.ballot, .int .i64 p.value, .int .i64 p.next, .int .i64 p.best, .int .i64 p.bestBal] 63)).alloc (.cells #[.int .i64 0, .int .i64 0, .int .i64 0, .int .i64 0, .int .i64 0, .int .i64 0, .int .i64 0, .int .i64 0] 63)) (w.heap.size + 1) 63 p00) := hide (by
    have := VarP.new0 (w.alloc (.cells #[.int .i64 p.host, .int .i64 p.ver, .int .i64 p.phase, .int .i64 p.ballot, .int .i64 p.value, .int .i64 p.next, .int .i64 p.best, .int .i64 p.bestBal] 63)) 63
    simp only [World.size_alloc] at this
    exact this)
  go_enter Tryz.func157, Tryz.ntmps157
  go_wp2_with fail
  refine (turned_any p 5 _).mono ?_
  rintro e w1 ⟨rfl, hb⟩
  obtain ⟨d0, d1, d2, d3, d4, d5, d6, d7⟩ := ((unhide HV).below hb).cells
  obtain ⟨f0, f1, f2, f3, f4, f5, f6, f7⟩ := ((unhide HV).below hb).free
  have HB1 := hide (fun u0 u1 u2 u3 u4 u5 u6 u7 => below8 (fr (Joins.below_alloc2 w _ _) hb) (show w.heap.size ≤ w.heap.size + 1 by omega) u0 u1 u2 u3 u4 u5 u6 u7)
  clear hb
  go_wp2
  exact bodyPost_ret (v := pV { p with phase := 5 }) (by simp [results, Tryz.results157, go_sem, d0, d1, d2, d3, d4, d5, d6, d7]) rfl ⟨rfl, unhide HB1 _ _ _ _ _ _ _ _⟩

set_option maxHeartbeats 1600000 in
theorem chooseValue_any (p : Pxs) (w : World) : Calls Tryz.prog 154 #[pV p] w fun e w' => e = .returned (pV (chP p)) ∧ Below w.heap.size w w' := by
  have key : ∀ q : Pxs, Hid (VarP ((w.alloc (.cells #[.int .i64 q.host, .int .i64 q.ver, .int .i64 q.phase, .int .i64 q.ballot, .int .i64 q.value, .int .i64 q.next, .int .i64 q.best, .int .i64 q.bestBal] 63)).alloc (.cells #[.int .i64 0, .int .i64 0, .int .i64 0, .int .i64 0, .int .i64 0, .int .i64 0, .int .i64 0, .int .i64 0] 63)) (w.heap.size + 1) 63 p00) := fun q => hide (by
    have := VarP.new0 (w.alloc (.cells #[.int .i64 q.host, .int .i64 q.ver, .int .i64 q.phase, .int .i64 q.ballot, .int .i64 q.value, .int .i64 q.next, .int .i64 q.best, .int .i64 q.bestBal] 63)) 63
    simp only [World.size_alloc] at this
    exact this)
  have KEY := hide key
  clear key
  by_cases h : 0 < p.bestBal
  · rw [show chP p = { p with phase := 3, value := p.best } from if_pos h]
    go_enter Tryz.func154, Tryz.ntmps154
    go_wp2_with fail
    refine (turned_any { p with value := p.best } 3 _).mono ?_
    rintro e w1 ⟨rfl, hb⟩
    obtain ⟨d0, d1, d2, d3, d4, d5, d6, d7⟩ := ((unhide (unhide KEY { p with value := p.best })).below hb).cells
    obtain ⟨f0, f1, f2, f3, f4, f5, f6, f7⟩ := ((unhide (unhide KEY { p with value := p.best })).below hb).free
    have HB1 := hide (fun u0 u1 u2 u3 u4 u5 u6 u7 => below8 (fr (Joins.below_alloc2 w _ _) hb) (show w.heap.size ≤ w.heap.size + 1 by omega) u0 u1 u2 u3 u4 u5 u6 u7)
    clear hb
    go_wp2
    exact bodyPost_ret (v := pV { p with phase := 3, value := p.best }) (by simp [results, Tryz.results154, go_sem, d0, d1, d2, d3, d4, d5, d6, d7]) rfl ⟨rfl, unhide HB1 _ _ _ _ _ _ _ _⟩
  · rw [show chP p = { p with phase := 3 } from if_neg h]
    go_enter Tryz.func154, Tryz.ntmps154
    go_wp2_with fail
    refine (turned_any p 3 _).mono ?_
    rintro e w1 ⟨rfl, hb⟩
    obtain ⟨d0, d1, d2, d3, d4, d5, d6, d7⟩ := ((unhide (unhide KEY p)).below hb).cells
    obtain ⟨f0, f1, f2, f3, f4, f5, f6, f7⟩ := ((unhide (unhide KEY p)).below hb).free
    have HB1 := hide (fun u0 u1 u2 u3 u4 u5 u6 u7 => below8 (fr (Joins.below_alloc2 w _ _) hb) (show w.heap.size ≤ w.heap.size + 1 by omega) u0 u1 u2 u3 u4 u5 u6 u7)
    clear hb
    go_wp2
    exact bodyPost_ret (v := pV { p with phase := 3 }) (by simp [results, Tryz.results154, go_sem, d0, d1, d2, d3, d4, d5, d6, d7]) rfl ⟨rfl, unhide HB1 _ _ _ _ _ _ _ _⟩

end Go.Proofs.YtefnapcegeojoaaGreatDoor
