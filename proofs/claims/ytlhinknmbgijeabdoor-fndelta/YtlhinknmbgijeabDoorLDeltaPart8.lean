import Derived.Test.YtlhinknmbgijeabDoorRows
import Derived.Test.YtlhinknmbgijeabDoorLDeltaPart1
import Derived.Test.YtlhinknmbgijeabDoorLDeltaPart3
import Derived.Test.YtlhinknmbgijeabDoorLDeltaPart6
import Derived.Test.YtlhinknmbgijeabDoorLDeltaPart7
import Derived.WalkKit
import Derived.WalkSpells
import Derived.Test.YtlhinknmbgijeabDoorLDeltaPart4
import Derived.Test.YtlhinknmbgijeabDoorLDeltaPart5
import Derived.KernelRfl
import Derived.Deep.RegionHeld3

/- Contract of the program's WriteSector. -/
namespace Go.Proofs.YtlhinknmbgijeabDoor
open Go.RowKit
set_option linter.unusedVariables false

theorem wi_end {w w3 : World} {v g k cap n pa : Nat} {po : Option Addr} {ss : List ByteArray} {xs' : List Wr} {x y : Value} (hS : OwnR w3 (w.heap.size + 2) 9 1 (.slice po n pa) n (strV ss)) (hI : OwnR w3 (w.heap.size + 2) 94 3 (.slice (some ⟨g, 0, none⟩) k cap) k (ioV xs')) (hv : VarD w3 v x y) (hb : Below w.heap.size w w3) (hvw : w.heap.size ≤ v) (a b c : Value) :
    OwnD (((w3.setCell ⟨v, 1, none⟩ a).setCell ⟨w.heap.size + 1, 0, none⟩ b).setCell ⟨w.heap.size + 1, 1, none⟩ c) w.heap.size po n pa (some ⟨g, 0, none⟩) k cap ss xs' ∧ Below w.heap.size w (((w3.setCell ⟨v, 1, none⟩ a).setCell ⟨w.heap.size + 1, 0, none⟩ b).setCell ⟨w.heap.size + 1, 1, none⟩ c) := by
  have hk : Keep (fun j => j = v) w3 (w3.setCell ⟨v, 1, none⟩ a) := Keep.setCell (S := fun j => j = v) (Keep.refl _ _) (p := ⟨v, 1, none⟩) rfl a
  have h1 : OwnD (w3.setCell ⟨v, 1, none⟩ a) (w.heap.size + 2) po n pa (some ⟨g, 0, none⟩) k cap ss xs' := ⟨hS.keep hk (fun j hj e => hS.other hv (by decide) (e ▸ hj)), hI.keep hk (fun j hj e => hI.other hv (by decide) (e ▸ hj))⟩
  exact copyD_end h1 (hb.setCell (p := ⟨v, 1, none⟩) hvw a) b c

set_option maxRecDepth 100000 in
set_option maxHeartbeats 800000 in
theorem writeSector_impl_range (ao bo : Option Addr) (ca cb : Nat) (ss : List ByteArray) (xs : List Wr) (h a : Int) (d : ByteArray) (w : World) (hz : d.size ≤ maxLen) (hl : ss.length ≤ maxLen) (hm : xs.length ≤ maxLen) (h1 : Ss w ao ss) (h2 : Ios w bo xs) (hlong : ¬ 65536 < d.size) (hask : askC ss xs h a = 0) (hbig : 80 < d.size) :
    Calls Tryd.prog 92 #[.agg #[.slice ao ss.length ca, .slice bo xs.length cb], .int .i64 h, .int .i64 a, .string d] w fun e w' => ∃ po pa qo qa, e = .returned (.tuple #[.agg #[.slice po (wrS ss xs h a d).length pa, .slice qo (wrX ss xs h a d).length qa], .int .i64 (wrC ss xs h a d)]) ∧ OwnD w' w.heap.size po (wrS ss xs h a d).length pa qo (wrX ss xs h a d).length qa (wrS ss xs h a d) (wrX ss xs h a d) ∧ Below w.heap.size w w' := by
  have HA := hide (Joins.below_alloc2 w (.cells #[.slice ao ss.length ca, .slice bo xs.length cb] 26) (.cells #[.slice none 0 0, .slice none 0 0] 26))
  have H1 := hide (h1.below (unhide HA))
  have H2 := hide (h2.below (unhide HA))
  have HV := hide ((VarD.new w (.slice ao ss.length ca) (.slice bo xs.length cb)).below (Joins.below_alloc1 _ (.cells #[.slice none 0 0, .slice none 0 0] 26)))
  have HR : Hid (VarD ((w.alloc (.cells #[.slice ao ss.length ca, .slice bo xs.length cb] 26)).alloc (.cells #[.slice none 0 0, .slice none 0 0] 26)) (w.heap.size + 1) (.slice none 0 0) (.slice none 0 0)) := hide (by have := VarD.new (w.alloc (.cells #[.slice ao ss.length ca, .slice bo xs.length cb] 26)) (.slice none 0 0) (.slice none 0 0); simp only [World.size_alloc] at this; exact this)
  have HS0 := hide h1
  have HX0 := hide h2
  have HL := hide hl
  have HM := hide hm
  clear h1 h2 hl hm
  unfold maxLen at hz
  have hb : (askC ss xs h a != 0) = false := by simp [hask]
  obtain ⟨hh, ha0, ha1⟩ := askC_eq hask
  obtain ⟨hlen, hlx⟩ := diskB_len (hostC_eq hh).1
  have HLS : Hid (ss.length ≤ 1048576) := hide (by omega)
  have HLX : Hid (xs.length ≤ 1048576) := hide (by omega)
  have HASK := hide hask
  clear hask hh hlen
  have HW := hide (wr_range (h := h) (a := a) (d := d) hlong (unhide HASK) hbig)
  go_enter Tryd.func92, Tryd.ntmps92
  go_wp2_with fail
  refine (placeFault_any _ _ _ _ ss xs h a _ (unhide HL) (unhide HM) (unhide H1) (unhide H2)).mono ?_
  rintro e w1 ⟨rfl, hb1⟩
  have HV1 := hide ((unhide HV).below hb1)
  have HR1 := hide ((unhide HR).below hb1)
  have HB1 := hide (fr (unhide HA) hb1)
  have HS1 := hide ((unhide H1).below hb1)
  have HX1 := hide ((unhide H2).below hb1)
  have HZ1 := hide hb1.size
  clear hb1
  obtain ⟨hv0, hv1⟩ := (unhide HV1).cells
  go_wp2_with fail
  refine (copyDisk_any _ _ _ _ ss xs _ (unhide HLS) (unhide HLX) (unhide HS1) (unhide HX1)).mono ?_
  rintro e w2 ⟨po, pa, qo, qa, rfl, ho2, hb2⟩
  have HO2 := hide (ho2.base (B' := w.heap.size + 2) (by have z1 := unhide HZ1; simp at z1; omega))
  have HR2 := hide ((unhide HR1).below hb2)
  have HB2 := hide (fr (unhide HB1) hb2)
  have hlt2 : w.heap.size + 1 < w2.heap.size := (unhide HR2).lt
  clear ho2 hb2 hv0 hv1
  obtain ⟨hr0, hr1⟩ := (unhide HR2).cells
  have hr2 := (unhide HR2).free 0
  have hr3 := (unhide HR2).free 1
  have HE := hide (copyD_end (w := w) (wL := w2) (unhide HO2) (unhide HB2) (.slice po ss.length pa) (.slice qo xs.length qa))
  have HE1 := hide ((unhide HE).1.below (Joins.below_alloc1 _ (.cells #[.slice po ss.length pa, .slice qo xs.length qa] 26)))
  have HE2 := hide (fr (unhide HE).2 (Joins.below_alloc1 _ (.cells #[.slice po ss.length pa, .slice qo xs.length qa] 26)))
  go_wp2
  obtain ⟨e1, e2, e3⟩ := unhide HW
  rw [e1, e2, e3]
  exact bodyPost_ret (v := .tuple #[.agg #[.slice po ss.length pa, .slice qo xs.length qa], .int .i64 4]) (by simp [results, Tryd.results92, go_sem, hr0, hr1, hlt2]) rfl ⟨po, pa, qo, qa, rfl, unhide HE1, unhide HE2⟩

set_option maxRecDepth 100000 in
set_option maxHeartbeats 800000 in
theorem writeSector_impl_full (ao bo : Option Addr) (ca cb : Nat) (ss : List ByteArray) (xs : List Wr) (h a : Int) (d : ByteArray) (w : World) (hz : d.size ≤ maxLen) (hl : ss.length ≤ maxLen) (hm : xs.length ≤ maxLen) (h1 : Ss w ao ss) (h2 : Ios w bo xs) (hlong : ¬ 65536 < d.size) (hask : askC ss xs h a = 0) (hbig : ¬ 80 < d.size) (hfull : xs.length = 200) :
    Calls Tryd.prog 92 #[.agg #[.slice ao ss.length ca, .slice bo xs.length cb], .int .i64 h, .int .i64 a, .string d] w fun e w' => ∃ po pa qo qa, e = .returned (.tuple #[.agg #[.slice po (wrS ss xs h a d).length pa, .slice qo (wrX ss xs h a d).length qa], .int .i64 (wrC ss xs h a d)]) ∧ OwnD w' w.heap.size po (wrS ss xs h a d).length pa qo (wrX ss xs h a d).length qa (wrS ss xs h a d) (wrX ss xs h a d) ∧ Below w.heap.size w w' := by
  have HA := hide (Joins.below_alloc2 w (.cells #[.slice ao ss.length ca, .slice bo xs.length cb] 26) (.cells #[.slice none 0 0, .slice none 0 0] 26))
  have H1 := hide (h1.below (unhide HA))
  have H2 := hide (h2.below (unhide HA))
  have HV := hide ((VarD.new w (.slice ao ss.length ca) (.slice bo xs.length cb)).below (Joins.below_alloc1 _ (.cells #[.slice none 0 0, .slice none 0 0] 26)))
  have HR : Hid (VarD ((w.alloc (.cells #[.slice ao ss.length ca, .slice bo xs.length cb] 26)).alloc (.cells #[.slice none 0 0, .slice none 0 0] 26)) (w.heap.size + 1) (.slice none 0 0) (.slice none 0 0)) := hide (by have := VarD.new (w.alloc (.cells #[.slice ao ss.length ca, .slice bo xs.length cb] 26)) (.slice none 0 0) (.slice none 0 0); simp only [World.size_alloc] at this; exact this)
  have HS0 := hide h1
  have HX0 := hide h2
  have HL := hide hl
  have HM := hide hm
  clear h1 h2 hl hm
  unfold maxLen at hz
  have hb : (askC ss xs h a != 0) = false := by simp [hask]
  obtain ⟨hh, ha0, ha1⟩ := askC_eq hask
  obtain ⟨hlen, hlx⟩ := diskB_len (hostC_eq hh).1
  have HLS : Hid (ss.length ≤ 1048576) := hide (by omega)
  have HLX : Hid (xs.length ≤ 1048576) := hide (by omega)
  have HASK := hide hask
  clear hask hh hlen
  have HW := hide (wr_full (h := h) (a := a) (d := d) hlong (unhide HASK) hbig hfull)
  have hge : 200 ≤ xs.length := by omega
  clear hfull
  go_enter Tryd.func92, Tryd.ntmps92
  go_wp2_with fail
  refine (placeFault_any _ _ _ _ ss xs h a _ (unhide HL) (unhide HM) (unhide H1) (unhide H2)).mono ?_
  rintro e w1 ⟨rfl, hb1⟩
  have HV1 := hide ((unhide HV).below hb1)
  have HR1 := hide ((unhide HR).below hb1)
  have HB1 := hide (fr (unhide HA) hb1)
  have HS1 := hide ((unhide H1).below hb1)
  have HX1 := hide ((unhide H2).below hb1)
  have HZ1 := hide hb1.size
  clear hb1
  obtain ⟨hv0, hv1⟩ := (unhide HV1).cells
  go_wp2_with fail
  refine (copyDisk_any _ _ _ _ ss xs _ (unhide HLS) (unhide HLX) (unhide HS1) (unhide HX1)).mono ?_
  rintro e w2 ⟨po, pa, qo, qa, rfl, ho2, hb2⟩
  have HO2 := hide (ho2.base (B' := w.heap.size + 2) (by have z1 := unhide HZ1; simp at z1; omega))
  have HR2 := hide ((unhide HR1).below hb2)
  have HB2 := hide (fr (unhide HB1) hb2)
  have hlt2 : w.heap.size + 1 < w2.heap.size := (unhide HR2).lt
  clear ho2 hb2 hv0 hv1
  obtain ⟨hr0, hr1⟩ := (unhide HR2).cells
  have hr2 := (unhide HR2).free 0
  have hr3 := (unhide HR2).free 1
  have HE := hide (copyD_end (w := w) (wL := w2) (unhide HO2) (unhide HB2) (.slice po ss.length pa) (.slice qo xs.length qa))
  have HE1 := hide ((unhide HE).1.below (Joins.below_alloc1 _ (.cells #[.slice po ss.length pa, .slice qo xs.length qa] 26)))
  have HE2 := hide (fr (unhide HE).2 (Joins.below_alloc1 _ (.cells #[.slice po ss.length pa, .slice qo xs.length qa] 26)))
  go_wp2
  obtain ⟨e1, e2, e3⟩ := unhide HW
  rw [e1, e2, e3]
  exact bodyPost_ret (v := .tuple #[.agg #[.slice po ss.length pa, .slice qo xs.length qa], .int .i64 7]) (by simp [results, Tryd.results92, go_sem, hr0, hr1, hlt2]) rfl ⟨po, pa, qo, qa, rfl, unhide HE1, unhide HE2⟩

set_option maxRecDepth 100000 in
set_option maxHeartbeats 800000 in
theorem writeSector_impl_ok (ao bo : Option Addr) (ca cb : Nat) (ss : List ByteArray) (xs : List Wr) (h a : Int) (d : ByteArray) (w : World) (hz : d.size ≤ maxLen) (hl : ss.length ≤ maxLen) (hm : xs.length ≤ maxLen) (h1 : Ss w ao ss) (h2 : Ios w bo xs) (hlong : ¬ 65536 < d.size) (hask : askC ss xs h a = 0) (hbig : ¬ 80 < d.size) (hfull : ¬ xs.length = 200) :
    Calls Tryd.prog 92 #[.agg #[.slice ao ss.length ca, .slice bo xs.length cb], .int .i64 h, .int .i64 a, .string d] w fun e w' => ∃ po pa qo qa, e = .returned (.tuple #[.agg #[.slice po (wrS ss xs h a d).length pa, .slice qo (wrX ss xs h a d).length qa], .int .i64 (wrC ss xs h a d)]) ∧ OwnD w' w.heap.size po (wrS ss xs h a d).length pa qo (wrX ss xs h a d).length qa (wrS ss xs h a d) (wrX ss xs h a d) ∧ Below w.heap.size w w' := by
  have HA := hide (Joins.below_alloc2 w (.cells #[.slice ao ss.length ca, .slice bo xs.length cb] 26) (.cells #[.slice none 0 0, .slice none 0 0] 26))
  have H1 := hide (h1.below (unhide HA))
  have H2 := hide (h2.below (unhide HA))
  have HV := hide ((VarD.new w (.slice ao ss.length ca) (.slice bo xs.length cb)).below (Joins.below_alloc1 _ (.cells #[.slice none 0 0, .slice none 0 0] 26)))
  have HR : Hid (VarD ((w.alloc (.cells #[.slice ao ss.length ca, .slice bo xs.length cb] 26)).alloc (.cells #[.slice none 0 0, .slice none 0 0] 26)) (w.heap.size + 1) (.slice none 0 0) (.slice none 0 0)) := hide (by have := VarD.new (w.alloc (.cells #[.slice ao ss.length ca, .slice bo xs.length cb] 26)) (.slice none 0 0) (.slice none 0 0); simp only [World.size_alloc] at this; exact this)
  have HS0 := hide h1
  have HX0 := hide h2
  have HL := hide hl
  have HM := hide hm
  clear h1 h2 hl hm
  unfold maxLen at hz
  have hb : (askC ss xs h a != 0) = false := by simp [hask]
  obtain ⟨hh, ha0, ha1⟩ := askC_eq hask
  obtain ⟨hlen, hlx⟩ := diskB_len (hostC_eq hh).1
  have HLS : Hid (ss.length ≤ 1048576) := hide (by omega)
  have HLX : Hid (xs.length ≤ 1048576) := hide (by omega)
  have HASK := hide hask
  clear hask hh hlen
  have HW := hide (wr_ok (h := h) (a := a) (d := d) hlong (unhide HASK) hbig hfull)
  have HN := hide (show xs.length + 1 = (xs ++ [(⟨h, a, d⟩ : Wr)]).length by simp)
  have hge : xs.length < 200 := by omega
  obtain ⟨j0, hj, hy0, hy1, hy2⟩ := info_parts infoW
  clear hfull
  go_enter Tryd.func92, Tryd.ntmps92
  go_wp2_with fail
  refine (placeFault_any _ _ _ _ ss xs h a _ (unhide HL) (unhide HM) (unhide H1) (unhide H2)).mono ?_
  rintro e w1 ⟨rfl, hb1⟩
  have HV1 := hide ((unhide HV).below hb1)
  have HR1 := hide ((unhide HR).below hb1)
  have HB1 := hide (fr (unhide HA) hb1)
  have HS1 := hide ((unhide H1).below hb1)
  have HX1 := hide ((unhide H2).below hb1)
  have HZ1 := hide hb1.size
  clear hb1
  obtain ⟨hv0, hv1⟩ := (unhide HV1).cells
  go_wp2_with fail
  refine (copyDisk_any _ _ _ _ ss xs _ (unhide HLS) (unhide HLX) (unhide HS1) (unhide HX1)).mono ?_
  rintro e w2 ⟨po, pa, qo, qa, rfl, ho2, hb2⟩
  have HO2 := hide (ho2.base (B' := w.heap.size + 2) (by have z1 := unhide HZ1; simp at z1; omega))
  have HR2 := hide ((unhide HR1).below hb2)
  have HB2 := hide (fr (unhide HB1) hb2)
  have hlt2 : w.heap.size + 1 < w2.heap.size := (unhide HR2).lt
  clear ho2 hb2 hv0 hv1
  obtain ⟨hr0, hr1⟩ := (unhide HR2).cells
  have hr2 := (unhide HR2).free 0
  have hr3 := (unhide HR2).free 1
  have HA2 := hide (Joins.below_alloc2 w2 (.cells #[.slice po ss.length pa, .slice qo xs.length qa] 26) (.cells #[.int .i64 h, .int .i64 a, .string d] 94))
  have HO3 := hide ((unhide HO2).below (unhide HA2))
  have HR3 := hide ((unhide HR2).below (unhide HA2))
  have HV3 := hide ((VarD.new w2 (.slice po ss.length pa) (.slice qo xs.length qa)).below (Joins.below_alloc1 _ (.cells #[.int .i64 h, .int .i64 a, .string d] 94)))
  have HB3 := hide (fr (unhide HB2) (unhide HA2))
  have HI3 : Hid (VarI ((w2.alloc (.cells #[.slice po ss.length pa, .slice qo xs.length qa] 26)).alloc (.cells #[.int .i64 h, .int .i64 a, .string d] 94)) (w2.heap.size + 1) ⟨h, a, d⟩) := hide (VarI.top (x := ⟨h, a, d⟩) (by simp))
  go_wp2_with (at_builtin; refine wpList_append_one rfl _ _ 24 rfl (w.heap.size + 2) 94 j0 (.agg #[.int .i64 0, .int .i64 0, .string ⟨#[]⟩]) 3 32 Tryd.underlying24 hj hy0 hy1 hy2 rfl (by omega) qo xs.length qa (ioV xs) rfl (unhide HO3).i (by simp; omega) ⟨w2.heap.size + 1, 0, none⟩ _ (wrV ⟨h, a, d⟩) rfl rfl (unhide HI3).news (wrV_one _) (by unfold maxLen; omega) (by omega) ?_; intro g cap w3 ho3 hk3; have HV4 := hide ((unhide HV3).keep hk3 ((unhide HO3).i.other (unhide HV3) (by decide))); have HR4 := hide ((unhide HR3).keep hk3 ((unhide HO3).i.other (unhide HR3) (by decide))); have HW4 := hide (wi_end (w := w) (w3 := w3) (v := w2.heap.size) (g := g) (k := xs.length + 1) (cap := cap) (xs' := xs ++ [⟨h, a, d⟩]) ((unhide HO3).s.keep hk3 (own_apart (unhide HO3).s (unhide HO3).i (by decide))) (.inr ⟨Nat.succ_pos _, by rw [ioV_snoc]; exact ho3⟩) (unhide HV4) ((unhide HB3).trans (hk3.below (B := w.heap.size) (unhide HB3).size (fun j hj => Nat.le_trans (show w.heap.size ≤ w.heap.size + 2 from by omega) ((unhide HO3).i.ge j hj).1))) (by omega) (.slice (some ⟨g, 0, none⟩) (xs.length + 1) cap) (.slice po ss.length pa) (.slice (some ⟨g, 0, none⟩) (xs.length + 1) cap)); obtain ⟨q0, q1⟩ := (unhide HV4).cells; have q2 := (unhide HV4).free 1; obtain ⟨q3, q4⟩ := (unhide HR4).cells; have q5 := (unhide HR4).free 0; have q6 := (unhide HR4).free 1; clear ho3 hk3)
  obtain ⟨e1, e2, e3⟩ := unhide HW
  rw [e1, e2, e3, ← unhide HN]
  exact bodyPost_ret (v := .tuple #[.agg #[.slice po ss.length pa, .slice (some ⟨g, 0, none⟩) (xs.length + 1) cap], .int .i64 0]) (by simp [results, Tryd.results92, go_sem, q3, q4]) rfl ⟨po, pa, _, _, rfl, (unhide HW4).1, (unhide HW4).2⟩

set_option maxRecDepth 100000 in
set_option maxHeartbeats 1600000 in
theorem writeSector_impl (ao bo : Option Addr) (ca cb : Nat) (ss : List ByteArray) (xs : List Wr) (h a : Int) (d : ByteArray) (w : World) (hz : d.size ≤ maxLen) (hl : ss.length ≤ maxLen) (hm : xs.length ≤ maxLen) (h1 : Ss w ao ss) (h2 : Ios w bo xs) :
    Calls Tryd.prog 92 #[.agg #[.slice ao ss.length ca, .slice bo xs.length cb], .int .i64 h, .int .i64 a, .string d] w fun e w' => ∃ po pa qo qa, e = .returned (.tuple #[.agg #[.slice po (wrS ss xs h a d).length pa, .slice qo (wrX ss xs h a d).length qa], .int .i64 (wrC ss xs h a d)]) ∧ OwnD w' w.heap.size po (wrS ss xs h a d).length pa qo (wrX ss xs h a d).length qa (wrS ss xs h a d) (wrX ss xs h a d) ∧ Below w.heap.size w w' := by
  have HA := hide (Joins.below_alloc2 w (.cells #[.slice ao ss.length ca, .slice bo xs.length cb] 26) (.cells #[.slice none 0 0, .slice none 0 0] 26))
  have H1 := hide (h1.below (unhide HA))
  have H2 := hide (h2.below (unhide HA))
  have HV := hide ((VarD.new w (.slice ao ss.length ca) (.slice bo xs.length cb)).below (Joins.below_alloc1 _ (.cells #[.slice none 0 0, .slice none 0 0] 26)))
  have HR : Hid (VarD ((w.alloc (.cells #[.slice ao ss.length ca, .slice bo xs.length cb] 26)).alloc (.cells #[.slice none 0 0, .slice none 0 0] 26)) (w.heap.size + 1) (.slice none 0 0) (.slice none 0 0)) := hide (by have := VarD.new (w.alloc (.cells #[.slice ao ss.length ca, .slice bo xs.length cb] 26)) (.slice none 0 0) (.slice none 0 0); simp only [World.size_alloc] at this; exact this)
  have HS0 := hide h1
  have HX0 := hide h2
  have HL := hide hl
  have HM := hide hm
  clear h1 h2 hl hm
  unfold maxLen at hz
  by_cases hlong : 65536 < d.size
  · obtain ⟨e1, e2, e3⟩ := wr_long (ss := ss) (xs := xs) (h := h) (a := a) hlong
    rw [e1, e2, e3]
    clear e1 e2 e3
    go_enter Tryd.func92, Tryd.ntmps92
    go_wp2
    exact bodyPost_ret (v := .tuple #[.agg #[.slice none 0 0, .slice none 0 0], .int .i64 2]) (by simp [results, Tryd.results92, go_sem]) rfl ⟨none, 0, none, 0, rfl, zeroD_own, unhide HA⟩
  by_cases hask : askC ss xs h a = 0
  · by_cases hbig : 80 < d.size
    · exact writeSector_impl_range ao bo ca cb ss xs h a d w (by unfold maxLen; exact hz) (unhide HL) (unhide HM) (unhide HS0) (unhide HX0) hlong hask hbig
    · by_cases hfull : xs.length = 200
      · exact writeSector_impl_full ao bo ca cb ss xs h a d w (by unfold maxLen; exact hz) (unhide HL) (unhide HM) (unhide HS0) (unhide HX0) hlong hask hbig hfull
      · exact writeSector_impl_ok ao bo ca cb ss xs h a d w (by unfold maxLen; exact hz) (unhide HL) (unhide HM) (unhide HS0) (unhide HX0) hlong hask hbig hfull
  · have hb : (askC ss xs h a != 0) = true := by simp [hask]
    obtain ⟨e1, e2, e3⟩ := wr_ask (ss := ss) (xs := xs) (h := h) (a := a) hlong hask
    rw [e1, e2, e3]
    clear e1 e2 e3 hask
    go_enter Tryd.func92, Tryd.ntmps92
    go_wp2_with fail
    refine (placeFault_any _ _ _ _ ss xs h a _ (unhide HL) (unhide HM) (unhide H1) (unhide H2)).mono ?_
    rintro e w1 ⟨rfl, hb1⟩
    have HR1 := hide ((unhide HR).below hb1)
    have HB1 := hide (fr (unhide HA) hb1)
    clear hb1
    obtain ⟨hr0, hr1⟩ := (unhide HR1).cells
    have hr2 := (unhide HR1).free 0
    have hr3 := (unhide HR1).free 1
    have HE := hide (zero_end (w := w) (wL := w1) (unhide HB1) (.slice none 0 0) (.slice none 0 0))
    go_wp2
    exact bodyPost_ret (v := .tuple #[.agg #[.slice none 0 0, .slice none 0 0], .int .i64 (askC ss xs h a)]) (by simp [results, Tryd.results92, go_sem, hr0, hr1]) rfl ⟨none, 0, none, 0, rfl, zeroD_own, unhide HE⟩

end Go.Proofs.YtlhinknmbgijeabDoor

/- Contracts of the program's WriteSector and Flush at right arguments, what they answer owned; of impl.writeSure. -/
namespace Go.Proofs.YtlhinknmbgijeabDoor
open Go.RowKit
set_option linter.unusedVariables false
set_option maxRecDepth 100000

theorem codes_right {ss : List ByteArray} {xs : List Wr} {h a : Int} (hd : diskB ss xs = true) (h0 : 0 ≤ h) (h3 : h ≤ 3) (a0 : 0 ≤ a) (a1 : a ≤ 63) : hostC ss xs h = 0 ∧ askC ss xs h a = 0 := by
  have e := hostC_ok hd (show inB h 0 3 = true by simp [inB]; omega)
  exact ⟨e, askC_ok e (by simp [inB]; omega)⟩
theorem own_len {po qo : Option Addr} {n n' m m' pa qa : Nat} {c c' : Int} (h1 : n = n') (h2 : m = m') (h3 : c = c') : Ending.returned (.tuple #[.agg #[.slice po n pa, .slice qo m qa], .int .i64 c]) = Ending.returned (.tuple #[.agg #[.slice po n' pa, .slice qo m' qa], .int .i64 c']) := by rw [h1, h2, h3]
theorem right_sz {ss : List ByteArray} {xs : List Wr} (hd : diskB ss xs = true) : (ss.length ≤ maxLen ∧ xs.length ≤ maxLen) ∧ (∀ s ∈ ss, s.size ≤ maxLen) ∧ ∀ x ∈ xs, x.data.size ≤ maxLen := by
  have hl := diskB_len hd
  refine ⟨by unfold maxLen; omega, fun s hs => Nat.le_trans ((diskB_parts.1 hd).1.2 s hs) (by decide), fun x hx => Nat.le_trans (ioB_parts.1 ((diskB_parts.1 hd).2.2 x hx)).2.2 (by decide)⟩

theorem write_own (ao bo : Option Addr) (ca cb : Nat) (ss : List ByteArray) (xs : List Wr) (h a : Int) (t : ByteArray) (X : List Wr) (w : World) (hX : xs ++ [⟨h, a, t⟩] = X) (hd : diskB ss xs = true) (hl : xs.length < 200) (ht : t.size ≤ 80) (h0 : 0 ≤ h) (h3 : h ≤ 3) (a0 : 0 ≤ a) (a1 : a ≤ 63) (h1 : Ss w ao ss) (h2 : Ios w bo xs) :
    Calls Tryd.prog 92 #[.agg #[.slice ao ss.length ca, .slice bo xs.length cb], .int .i64 h, .int .i64 a, .string t] w fun e w' => ∃ po pa qo qa, e = .returned (.tuple #[.agg #[.slice po ss.length pa, .slice qo X.length qa], .int .i64 0]) ∧ OwnD w' w.heap.size po ss.length pa qo X.length qa ss X ∧ Below w.heap.size w w' := by
  subst hX
  obtain ⟨⟨l1, l2⟩, _⟩ := right_sz hd
  obtain ⟨_, ha⟩ := codes_right (h := h) (a := a) hd h0 h3 a0 a1
  obtain ⟨e1, e2, e3⟩ := wr_ok (ss := ss) (xs := xs) (h := h) (a := a) (d := t) (by omega) ha (by omega) (by omega)
  refine (writeSector_impl ao bo ca cb ss xs h a t w (by unfold maxLen; omega) l1 l2 h1 h2).mono ?_
  rintro e w' ⟨po, pa, qo, qa, he, ho, hb⟩
  rw [e1, e2] at ho
  rw [e1, e2, e3] at he
  exact ⟨po, pa, qo, qa, he, ho, hb⟩
theorem flush_put {h : Int} {ss : List ByteArray} {xs : List Wr} (hd : diskB ss xs = true) (ha : hostC ss xs h = 0) : flS ss xs h = putW ss (ofH h xs) ∧ flX ss xs h = dropF h xs := by
  obtain ⟨e1, e2⟩ := fl_ok ha
  have hc : (ofH h xs).length ≤ 200 := Nat.le_trans (List.length_filter_le _ _) (diskB_len hd).2
  obtain ⟨p1, p2⟩ := landF_put h ss xs 200
  have p1' : (landF h false ss xs 200).1 = putW ss ((ofH h xs).take 200) := p1
  have p2' : (landF h false ss xs 200).2.1 = remH h 200 xs := p2
  rw [List.take_of_length_le hc] at p1'
  rw [rem_all 200 xs hc] at p2'
  exact ⟨e1.trans p1', e2.trans p2'⟩
theorem flush_own (ao bo : Option Addr) (ca cb : Nat) (ss : List ByteArray) (xs : List Wr) (h : Int) (S : List ByteArray) (X : List Wr) (w : World) (hS : putW ss (ofH h xs) = S) (hX : dropF h xs = X) (hd : diskB ss xs = true) (h0 : 0 ≤ h) (h3 : h ≤ 3) (h1 : Ss w ao ss) (h2 : Ios w bo xs) :
    Calls Tryd.prog 93 #[.agg #[.slice ao ss.length ca, .slice bo xs.length cb], .int .i64 h] w fun e w' => ∃ po pa qo qa, e = .returned (.tuple #[.agg #[.slice po S.length pa, .slice qo X.length qa], .int .i64 0]) ∧ OwnD w' w.heap.size po S.length pa qo X.length qa S X ∧ Below w.heap.size w w' := by
  subst hS hX
  obtain ⟨⟨l1, l2⟩, _⟩ := right_sz hd
  obtain ⟨ha, _⟩ := codes_right (h := h) (a := 0) hd h0 h3 (by omega) (by omega)
  obtain ⟨e1, e2⟩ := flush_put hd ha
  refine (flush_impl ao bo ca cb ss xs h w l1 l2 h1 h2).mono ?_
  rintro e w' ⟨po, pa, qo, qa, he, ho, hb⟩
  rw [e1, e2] at ho
  rw [e1, e2, ha] at he
  exact ⟨po, pa, qo, qa, he, ho, hb⟩

set_option maxHeartbeats 1600000 in
theorem writeSure_ok (ao bo : Option Addr) (ca cb : Nat) (ss : List ByteArray) (xs : List Wr) (h a : Int) (t : ByteArray) (S : List ByteArray) (X : List Wr) (w : World) (hS : putW ss (ofH h (xs ++ [⟨h, a, t⟩])) = S) (hX : dropF h (xs ++ [⟨h, a, t⟩]) = X) (hd : diskB ss xs = true) (hl : xs.length < 200) (ht : t.size ≤ 80) (h0 : 0 ≤ h) (h3 : h ≤ 3) (a0 : 0 ≤ a) (a1 : a ≤ 63) (h1 : Ss w ao ss) (h2 : Ios w bo xs) :
    Calls Tryd.prog 70 #[.agg #[.slice ao ss.length ca, .slice bo xs.length cb], .int .i64 h, .int .i64 a, .string t] w fun e w' => ∃ po pa qo qa, e = .returned (.tuple #[.agg #[.slice po S.length pa, .slice qo X.length qa], .int .i64 0]) ∧ OwnD w' w.heap.size po S.length pa qo X.length qa S X ∧ Below w.heap.size w w' := by
  have HA := hide (Joins.below_alloc2 w (.cells #[.slice ao ss.length ca, .slice bo xs.length cb] 26) (.cells #[.slice none 0 0, .slice none 0 0] 26))
  have H1 := hide (h1.below (unhide HA))
  have H2 := hide (h2.below (unhide HA))
  have HR : Hid (VarD ((w.alloc (.cells #[.slice ao ss.length ca, .slice bo xs.length cb] 26)).alloc (.cells #[.slice none 0 0, .slice none 0 0] 26)) (w.heap.size + 1) (.slice none 0 0) (.slice none 0 0)) := hide (by have := VarD.new (w.alloc (.cells #[.slice ao ss.length ca, .slice bo xs.length cb] 26)) (.slice none 0 0) (.slice none 0 0); simp only [World.size_alloc] at this; exact this)
  obtain ⟨Y, HY⟩ : ∃ Y, Hid (xs ++ [⟨h, a, t⟩] = Y) := ⟨_, hide rfl⟩
  have HYR : Hid (diskB ss Y = true) := hide (by rw [← unhide HY]; exact diskB_snoc hd hl (x := ⟨h, a, t⟩) (ioB_parts.2 ⟨⟨h0, h3⟩, ⟨a0, a1⟩, ht⟩))
  have HYS := hide (right_sz (unhide HYR)).2.1
  have HYX := hide (right_sz (unhide HYR)).2.2
  have HS : Hid (putW ss (ofH h Y) = S) := hide (by rw [← unhide HY]; exact hS)
  have HX : Hid (dropF h Y = X) := hide (by rw [← unhide HY]; exact hX)
  have HD := hide hd
  have HL := hide hl
  have HT := hide ht
  clear h1 h2 hS hX hd hl ht
  go_enter Tryd.func70, Tryd.ntmps70
  go_wp2_with fail
  refine (write_own _ _ _ _ ss xs h a t Y _ (unhide HY) (unhide HD) (unhide HL) (unhide HT) h0 h3 a0 a1 (unhide H1) (unhide H2)).mono ?_
  rintro e w1 ⟨po, pa, qo, qa, rfl, ho1, hb1⟩
  have HA1 := hide (Joins.below_alloc1 w1 (.cells #[.slice po ss.length pa, .slice qo Y.length qa] 26))
  have HO1 := hide (ho1.below (unhide HA1))
  have HB1 := hide (fr (fr (unhide HA) hb1) (unhide HA1))
  have HR1 := hide (((unhide HR).below hb1).below (unhide HA1))
  clear ho1 hb1
  go_wp2_with fail
  refine (flush_own _ _ _ _ ss Y h S X _ (unhide HS) (unhide HX) (unhide HYR) h0 h3 ((unhide HO1).ss (unhide HYS)) ((unhide HO1).ios (unhide HYX))).mono ?_
  rintro e w2 ⟨po2, pa2, qo2, qa2, rfl, ho2, hb2⟩
  have HB2 := hide (fr (unhide HB1) hb2)
  have HR2 := hide ((unhide HR1).below hb2)
  have z : w.heap.size + 1 < (w1.alloc (.cells #[.slice po ss.length pa, .slice qo Y.length qa] 26)).heap.size := (unhide HR1).lt
  have HO2 := hide ho2
  clear ho2 hb2
  obtain ⟨hr0, hr1⟩ := (unhide HR2).cells
  have hr2 := (unhide HR2).free 0
  have hr3 := (unhide HR2).free 1
  have HE := hide (show OwnD ((w2.setCell ⟨w.heap.size + 1, 0, none⟩ (.slice po2 S.length pa2)).setCell ⟨w.heap.size + 1, 1, none⟩ (.slice qo2 X.length qa2)) w.heap.size po2 S.length pa2 qo2 X.length qa2 S X ∧ Below w.heap.size w ((w2.setCell ⟨w.heap.size + 1, 0, none⟩ (.slice po2 S.length pa2)).setCell ⟨w.heap.size + 1, 1, none⟩ (.slice qo2 X.length qa2)) from
    ⟨(((unhide HO2).setCell (a := ⟨w.heap.size + 1, 0, none⟩) z _).setCell (a := ⟨w.heap.size + 1, 1, none⟩) z _).base (by omega), ((unhide HB2).setCell (p := ⟨w.heap.size + 1, 0, none⟩) (Nat.le_succ _) _).setCell (p := ⟨w.heap.size + 1, 1, none⟩) (Nat.le_succ _) _⟩)
  clear z
  go_wp2
  exact bodyPost_ret (v := .tuple #[.agg #[.slice po2 S.length pa2, .slice qo2 X.length qa2], .int .i64 0]) (by simp [results, Tryd.results70, go_sem, hr0, hr1]) rfl ⟨po2, pa2, qo2, qa2, rfl, (unhide HE).1, (unhide HE).2⟩

end Go.Proofs.YtlhinknmbgijeabDoor

/- Contracts of the program's methods of a generation: place, stamped, writtenTo; of impl.ownDelta, impl.hourFault. -/
namespace Go.Proofs.YtlhinknmbgijeabDoor
open Go.RowKit
set_option linter.unusedVariables false
set_option maxRecDepth 100000

theorem placeD (h g s : Int) (w : World) (h0 : 0 ≤ h) (h3 : h ≤ 3) : Calls Tryd.prog 71 #[dltV h g s] w fun e w' => e = .returned (.int .i64 (5 + h)) ∧ Below w.heap.size w w' := by
  have wr5 : IntKind.i64.wrap (5 + h) = 5 + h := by rw [IntKind.wrap_i64]; omega
  go_enter Tryd.func71, Tryd.ntmps71
  go_wp2
  go_ret
  exact ⟨rfl, Joins.below_alloc1 _ _⟩
set_option maxHeartbeats 1600000 in
theorem stampedD (h g s n : Int) (w : World) : Calls Tryd.prog 37 #[dltV h g s, .int .i64 n] w fun e w' => e = .returned (dltV h g n) ∧ Below w.heap.size w w' := by
  go_enter Tryd.func37, Tryd.ntmps37
  go_wp2
  exact bodyPost_ret (v := dltV h g n) (by simp [results, Tryd.results37, go_sem]) rfl ⟨rfl, Joins.below_alloc2 _ _ _⟩

set_option maxHeartbeats 1600000 in
theorem ownDelta_any (ao bo : Option Addr) (ca cb : Nat) (ss : List ByteArray) (xs : List Wr) (h G T : Int) (w : World) (hG : redG ss xs h h = G) (hT : redS ss xs h h = T) (hd : diskB ss xs = true) (h0 : 0 ≤ h) (h3 : h ≤ 3) (h1 : Ss w ao ss) (h2 : Ios w bo xs) (hE : ErrW w) :
    Calls Tryd.prog 34 #[.agg #[.slice ao ss.length ca, .slice bo xs.length cb], .int .i64 h] w fun e w' => e = .returned (dltV (if redB ss xs h h = true then h else 0) G T) ∧ Below w.heap.size w w' := by
  have HA := hide (Joins.below_alloc2 w (.cells #[.slice ao ss.length ca, .slice bo xs.length cb] 26) (.cells #[.int .i64 0, .int .i64 0, .int .i64 0] 30))
  have H1 := hide (h1.below (unhide HA))
  have H2 := hide (h2.below (unhide HA))
  have HE := hide (hE.below (unhide HA))
  have HR : Hid (VarT ((w.alloc (.cells #[.slice ao ss.length ca, .slice bo xs.length cb] 26)).alloc (.cells #[.int .i64 0, .int .i64 0, .int .i64 0] 30)) (w.heap.size + 1) 30 0 0 0) := hide (by have := VarT.new (w.alloc (.cells #[.slice ao ss.length ca, .slice bo xs.length cb] 26)) 30 0 0 0; simp only [World.size_alloc] at this; exact this)
  obtain ⟨⟨l1, l2⟩, _⟩ := right_sz hd
  have HL := hide l1
  have HM := hide l2
  obtain ⟨Q, HQ⟩ : ∃ Q, Hid ((if redB ss xs h h = true then h else 0) = Q) := ⟨_, hide rfl⟩
  obtain ⟨C, HC⟩ : ∃ C, Hid (rdC ss xs h h = C) := ⟨_, hide rfl⟩
  have e0 := (codes_right (h := h) (a := 0) hd h0 h3 (by omega) (by omega)).1
  have e1 : inB h 0 3 = true := by simp [inB]; omega
  have HK : Hid (rdH ss xs h h = Q ∧ rdG ss xs h h = G ∧ rdT ss xs h h = T) := hide (by
    rw [← unhide HQ, ← hG, ← hT]
    by_cases e2 : redB ss xs h h = true
    · obtain ⟨y1, y2, y3, _⟩ := rd_yes (rdC_yes e0 e1 e2)
      rw [if_pos e2]; exact ⟨y1, y2, y3⟩
    · rw [Bool.not_eq_true] at e2
      obtain ⟨y1, y2, y3, _⟩ := rd_no (rdC_none e0 e1 e2) (by decide)
      obtain ⟨z1, z2⟩ := red_no e2
      rw [if_neg (by simp [e2]), z1, z2]; exact ⟨y1, y2, y3⟩)
  rw [unhide HQ]
  clear h1 h2 hE hG hT hd l1 l2 e0 e1
  go_enter Tryd.func34, Tryd.ntmps34
  go_wp2_with fail
  refine (readDelta_impl _ _ _ _ ss xs h h _ (unhide HL) (unhide HM) (unhide H1) (unhide H2) (unhide HE)).mono ?_
  rintro e w1 ⟨rfl, hb1⟩
  rw [(unhide HK).1, (unhide HK).2.1, (unhide HK).2.2, unhide HC]
  have HB1 := hide (fr (unhide HA) hb1)
  have HR1 := hide ((unhide HR).below hb1)
  clear hb1
  obtain ⟨c0, c1, c2⟩ := (unhide HR1).cells
  obtain ⟨f0, f1, f2⟩ := (unhide HR1).free
  have hlt := (unhide HR1).lt
  have HE3 := hide (fun u v x => below3 (g := w.heap.size + 1) (fr (unhide HB1) (Joins.below_alloc1 _ (.cells #[.int .i64 Q, .int .i64 G, .int .i64 T] 30))) (by omega) 0 1 2 u v x)
  go_wp2
  exact bodyPost_ret (v := dltV Q G T) (by simp [results, Tryd.results34, go_sem, c0, c1, c2, hlt]) rfl ⟨rfl, by first | exact unhide HE3 _ _ _ | exact fr (below3 (g := w.heap.size + 1) (unhide HB1) (by omega) 0 1 2 _ _ _) (Joins.below_alloc1 _ _)⟩

set_option maxHeartbeats 1600000 in
theorem hourFault_any (ao bo : Option Addr) (ca cb : Nat) (ss : List ByteArray) (xs : List Wr) (h now : Int) (w : World) (hl : ss.length ≤ maxLen) (hm : xs.length ≤ maxLen) (h1 : Ss w ao ss) (h2 : Ios w bo xs) :
    Calls Tryd.prog 33 #[.agg #[.slice ao ss.length ca, .slice bo xs.length cb], .int .i64 h, .int .i64 now] w fun e w' => e = .returned (.int .i64 (roomC ss xs h now)) ∧ Below w.heap.size w w' := by
  have HA := hide (Joins.below_alloc1 w (.cells #[.slice ao ss.length ca, .slice bo xs.length cb] 26))
  have H1 := hide (h1.below (unhide HA))
  have H2 := hide (h2.below (unhide HA))
  have HV := hide (VarD.new w (.slice ao ss.length ca) (.slice bo xs.length cb))
  have HL := hide hl
  have HM := hide hm
  clear h1 h2 hl hm
  go_enter Tryd.func33, Tryd.ntmps33
  go_wp2_with fail
  refine (hostFault_any _ _ _ _ ss xs h _ (unhide HL) (unhide HM) (unhide H1) (unhide H2)).mono ?_
  rintro e w1 ⟨rfl, hb1⟩
  have HB1 := hide (fr (unhide HA) hb1)
  obtain ⟨hc0, hc1⟩ := ((unhide HV).below hb1).cells
  clear hb1
  by_cases e0 : hostC ss xs h = 0
  · have hb : (hostC ss xs h != 0) = false := by simp [e0]
    have HX2 := hide (diskB_len (hostC_eq e0).1).2
    go_wp2_with fail
    refine (hourD_any now _).mono ?_
    rintro e w2 ⟨rfl, rfl⟩
    by_cases e1 : inB now 0 10000000 = true
    · by_cases e2 : xs.length = 200
      · have HX := hide (room_full e0 e1 e2)
        have hfb : 200 ≤ (xs.length : Int) := by omega
        clear e2
        go_wp2
        go_ret
        exact ⟨ret_i (unhide HX).symm, unhide HB1⟩
      · have HX := hide (room_ok e0 e1 e2)
        have hfb : ¬ 200 ≤ (xs.length : Int) := by have := unhide HX2; omega
        clear e2
        go_wp2
        go_ret
        exact ⟨ret_i (unhide HX).symm, unhide HB1⟩
    · rw [Bool.not_eq_true] at e1
      have HX := hide (room_now e0 e1)
      go_wp2
      go_ret
      exact ⟨ret_i (unhide HX).symm, unhide HB1⟩
  · have hb : (hostC ss xs h != 0) = true := by simp [e0]
    have HX := hide (room_ask (now := now) e0)
    go_wp2
    go_ret
    exact ⟨ret_i (unhide HX).symm, unhide HB1⟩

end Go.Proofs.YtlhinknmbgijeabDoor

/- Contract of the program's method writtenTo, at a right generation and a right disk with room. -/
namespace Go.Proofs.YtlhinknmbgijeabDoor
open Go.RowKit
set_option linter.unusedVariables false
set_option maxRecDepth 100000

/-- The world of such a call: its arguments, its answer's variables. -/
structure WtS (w W : World) (B0 B1 B2 B3 : Nat) (h g s : Int) (ao : Option Addr) (ca : Nat) (bo : Option Addr) (cb : Nat) (ss : List ByteArray) (xs : List Wr) : Prop where
  below : Below w.heap.size w W
  x : VarT W B0 30 h g s
  d : VarD W B1 (.slice ao ss.length ca) (.slice bo xs.length cb)
  r : VarD W B2 (.slice none 0 0) (.slice none 0 0)
  t : VarT W B3 30 0 0 0
  s : Ss W ao ss
  i : Ios W bo xs
theorem WtS.next {w W W' : World} {B0 B1 B2 B3 : Nat} {h g s : Int} {ao : Option Addr} {ca : Nat} {bo : Option Addr} {cb : Nat} {ss : List ByteArray} {xs : List Wr} (k : WtS w W B0 B1 B2 B3 h g s ao ca bo cb ss xs) (hb : Below W.heap.size W W') : WtS w W' B0 B1 B2 B3 h g s ao ca bo cb ss xs :=
  ⟨fr k.below hb, k.x.below hb, k.d.below hb, k.r.below hb, k.t.below hb, k.s.below hb, k.i.below hb⟩
theorem wt_new (w : World) (h g s : Int) (ao bo : Option Addr) (ca cb : Nat) (ss : List ByteArray) (xs : List Wr) (h1 : Ss w ao ss) (h2 : Ios w bo xs) :
    WtS w ((((w.alloc (.cells #[.int .i64 h, .int .i64 g, .int .i64 s] 30)).alloc (.cells #[.slice ao ss.length ca, .slice bo xs.length cb] 26)).alloc (.cells #[.slice none 0 0, .slice none 0 0] 26)).alloc (.cells #[.int .i64 0, .int .i64 0, .int .i64 0] 30)) w.heap.size (w.heap.size + 1) (w.heap.size + 1 + 1) (w.heap.size + 1 + 1 + 1) h g s ao ca bo cb ss xs := by
  have b1 := Joins.below_alloc1 w (.cells #[.int .i64 h, .int .i64 g, .int .i64 s] 30)
  have b2 := Joins.below_alloc1 (w.alloc (.cells #[.int .i64 h, .int .i64 g, .int .i64 s] 30)) (.cells #[.slice ao ss.length ca, .slice bo xs.length cb] 26)
  have b3 := Joins.below_alloc1 ((w.alloc (.cells #[.int .i64 h, .int .i64 g, .int .i64 s] 30)).alloc (.cells #[.slice ao ss.length ca, .slice bo xs.length cb] 26)) (.cells #[.slice none 0 0, .slice none 0 0] 26)
  have b4 := Joins.below_alloc1 (((w.alloc (.cells #[.int .i64 h, .int .i64 g, .int .i64 s] 30)).alloc (.cells #[.slice ao ss.length ca, .slice bo xs.length cb] 26)).alloc (.cells #[.slice none 0 0, .slice none 0 0] 26)) (.cells #[.int .i64 0, .int .i64 0, .int .i64 0] 30)
  have hA := fr (fr (fr b1 b2) b3) b4
  refine ⟨hA, (VarT.new w _ h g s).below (fr (fr b2 b3) b4), ?_, ?_, ?_, h1.below hA, h2.below hA⟩
  · have := (VarD.new (w.alloc (.cells #[.int .i64 h, .int .i64 g, .int .i64 s] 30)) (.slice ao ss.length ca) (.slice bo xs.length cb)).below (fr b3 b4)
    simp only [World.size_alloc] at this
    exact this
  · have := (VarD.new ((w.alloc (.cells #[.int .i64 h, .int .i64 g, .int .i64 s] 30)).alloc (.cells #[.slice ao ss.length ca, .slice bo xs.length cb] 26)) (.slice none 0 0) (.slice none 0 0)).below b4
    simp only [World.size_alloc] at this
    exact this
  · have := VarT.new (((w.alloc (.cells #[.int .i64 h, .int .i64 g, .int .i64 s] 30)).alloc (.cells #[.slice ao ss.length ca, .slice bo xs.length cb] 26)).alloc (.cells #[.slice none 0 0, .slice none 0 0] 26)) 30 0 0 0
    simp only [World.size_alloc] at this
    exact this
/-- And behind the write: the new disk lies in a variable. -/
structure WtE (w W : World) (B0 B2 B3 C K : Nat) (h g s : Int) (po : Option Addr) (pa : Nat) (qo : Option Addr) (qa : Nat) (S : List ByteArray) (X : List Wr) : Prop where
  below : Below w.heap.size w W
  x : VarT W B0 30 h g s
  r : VarD W B2 (.slice none 0 0) (.slice none 0 0)
  t : VarT W B3 30 0 0 0
  v : VarD W C (.slice po S.length pa) (.slice qo X.length qa)
  o : OwnD W K po S.length pa qo X.length qa S X
theorem WtS.last {w W : World} {B0 B1 B2 B3 B K : Nat} {h g s : Int} {ao bo po qo : Option Addr} {ca cb pa qa : Nat} {ss S : List ByteArray} {xs X : List Wr} (k : WtS w W B0 B1 B2 B3 h g s ao ca bo cb ss xs) (ho : OwnD W B po S.length pa qo X.length qa S X) (hK : K ≤ B) :
    WtE w (W.alloc (.cells #[.slice po S.length pa, .slice qo X.length qa] 26)) B0 B2 B3 W.heap.size K h g s po pa qo qa S X :=
  have hb := Joins.below_alloc1 W (.cells #[.slice po S.length pa, .slice qo X.length qa] 26)
  ⟨fr k.below hb, k.x.below hb, k.r.below hb, k.t.below hb, VarD.new _ _ _, (ho.below hb).base hK⟩
theorem WtS.early {w W : World} {B0 B1 B2 B3 B C K : Nat} {h g s : Int} {ao bo po qo : Option Addr} {ca cb pa qa : Nat} {ss S : List ByteArray} {xs X : List Wr} (k : WtS w W B0 B1 B2 B3 h g s ao ca bo cb ss xs) (hz : VarD W C (.slice none 0 0) (.slice none 0 0)) (ho : OwnD W B po S.length pa qo X.length qa S X) (hC : C < B) (hK : K ≤ C) (h0 : B0 < K) (h2 : B2 < K) (h3 : B3 < K) (hw : w.heap.size ≤ K) :
    WtE w ((W.setCell ⟨C, 0, none⟩ (.slice po S.length pa)).setCell ⟨C, 1, none⟩ (.slice qo X.length qa)) B0 B2 B3 C K h g s po pa qo qa S X := by
  have hk : Keep (fun j => j = C) W ((W.setCell ⟨C, 0, none⟩ (.slice po S.length pa)).setCell ⟨C, 1, none⟩ (.slice qo X.length qa)) := ((Keep.refl (fun j => j = C) W).setCell (p := ⟨C, 0, none⟩) rfl _).setCell (p := ⟨C, 1, none⟩) rfl _
  have hwc : w.heap.size ≤ C := by omega
  exact ⟨(k.below.setCell (p := ⟨C, 0, none⟩) hwc _).setCell (p := ⟨C, 1, none⟩) hwc _, k.x.keep hk (by omega), k.r.keep hk (by omega), k.t.keep hk (by omega), (hz.set0 _).set1 _, ((ho.setCell (a := ⟨C, 0, none⟩) hC _).setCell (a := ⟨C, 1, none⟩) hC _).base (by omega)⟩

set_option maxHeartbeats 3200000 in
theorem writtenTo_ok (ao bo : Option Addr) (ca cb : Nat) (ss : List ByteArray) (xs : List Wr) (h g s : Int) (S : List ByteArray) (X : List Wr) (w : World) (hS : pS ss xs h g s = S) (hX : pX xs h g s = X) (hd : diskB ss xs = true) (hl : xs.length < 200) (hx : dltB h g s = true) (h1 : Ss w ao ss) (h2 : Ios w bo xs) :
    Calls Tryd.prog 36 #[dltV h g s, .agg #[.slice ao ss.length ca, .slice bo xs.length cb]] w fun e w' => ∃ po pa qo qa, e = .returned (.tuple #[.agg #[.slice po S.length pa, .slice qo X.length qa], dltV h g s, .int .i64 0]) ∧ OwnD w' w.heap.size po S.length pa qo X.length qa S X ∧ Below w.heap.size w w' := by
  have HS0 := hide (wt_new w h g s ao bo ca cb ss xs h1 h2)
  obtain ⟨⟨h0, h3⟩, _⟩ := dltB_iff.1 hx
  have HQ : Hid (encR h g s = encD h g s ∧ encC h g s = 0) := hide ⟨if_pos hx, if_pos hx⟩
  have HD := hide hd
  have HL := hide hl
  have HSS : Hid (putW ss (ofH h (xs ++ [⟨h, 5 + h, encD h g s⟩])) = S) := hide hS
  have HXX : Hid (dropF h (xs ++ [⟨h, 5 + h, encD h g s⟩]) = X) := hide hX
  have HT : Hid ((encD h g s).size ≤ 80) := hide (by rw [encD_size]; decide)
  clear h1 h2 hS hX hd hl hx
  go_enter Tryd.func36, Tryd.ntmps36
  go_wp2_with fail
  refine (encodeDelta_impl h g s _).mono ?_
  rintro e w1 ⟨rfl, hb1⟩
  rw [(unhide HQ).1, (unhide HQ).2]
  have S1 := hide ((unhide HS0).next hb1)
  clear hb1 HS0
  have q0 := (unhide S1).x.lt
  have q1 := (unhide S1).d.lt
  have q2 := (unhide S1).r.lt
  have q3 := (unhide S1).t.lt
  have HK : Hid (w.heap.size < w1.heap.size ∧ w.heap.size + 1 + 1 < w1.heap.size ∧ w.heap.size + 1 + 1 + 1 < w1.heap.size ∧ w.heap.size ≤ w1.heap.size) := hide ⟨q0, q2, q3, by omega⟩
  have HBs : Hid (w.heap.size ≤ w.heap.size + 1 + 1 ∧ w.heap.size ≤ w.heap.size + 1 + 1 + 1) := hide (by omega)
  have m1 : w1.heap.size ≠ w.heap.size := by omega
  have m2 : w1.heap.size ≠ w.heap.size + 1 := by omega
  have m5 : w.heap.size + 1 + 1 ≠ w.heap.size + 1 + 1 + 1 := by omega
  have m6 : w.heap.size + 1 + 1 ≠ w.heap.size := by omega
  have m7 : w.heap.size + 1 + 1 + 1 ≠ w.heap.size := by omega
  clear q0 q1 q2 q3
  go_wp2_with fail
  generalize w.heap.size + 1 + 1 + 1 = B3 at *
  generalize w.heap.size + 1 + 1 = B2 at *
  generalize w.heap.size + 1 = B1 at *
  have m5' := m5.symm
  have m6' := m6.symm
  have m7' := m7.symm
  obtain ⟨d0, d1⟩ := (unhide S1).d.cells
  obtain ⟨x0, x1, x2⟩ := (unhide S1).x.cells
  go_region_held3 (fun w' => w'.cell? ⟨w.heap.size, 0, none⟩ = some (.int .i64 h) ∧ w'.cell? ⟨w.heap.size, 1, none⟩ = some (.int .i64 g) ∧ w'.cell? ⟨w.heap.size, 2, none⟩ = some (.int .i64 s) ∧ w'.cell? ⟨B1, 0, none⟩ = some (.slice ao ss.length ca) ∧ w'.cell? ⟨B1, 1, none⟩ = some (.slice bo xs.length cb)) (go_keep)
    (first
      | (go_at_call 71; refine (placeD h g s _ h0 h3).mono ?_; rintro e wA ⟨rfl, hbA⟩; have hWA : Below w1.heap.size w1 wA := (by first | exact fr ((Below.refl _ _).drew) hbA | exact fr (fr ((Below.refl _ _).drew) (Joins.below_alloc1 _ _)) hbA); (try (have hzA := hide (VarD.below (show VarD (w1.drew.alloc (.cells #[.slice none 0 0, .slice none 0 0] 26)) w1.heap.size (.slice none 0 0) (.slice none 0 0) from heap_alloc_new w1.drew _) hbA))); have SA := hide ((unhide S1).next hWA); obtain ⟨y0, y1⟩ := (unhide SA).d.cells; obtain ⟨y2, y3, y4⟩ := (unhide SA).x.cells; have HZA := hide hWA.size; have mA1 : wA.heap.size ≠ w.heap.size := World.new_ne wA ⟨w.heap.size, 0, none⟩ y2; have mA2 : wA.heap.size ≠ B1 := World.new_ne wA ⟨B1, 0, none⟩ y0; clear hbA hWA)
      | (go_at_call 70; refine (writeSure_ok ao bo ca cb ss xs h (5 + h) (encD h g s) S X _ (unhide HSS) (unhide HXX) (unhide HD) (unhide HL) (unhide HT) h0 h3 (by omega) (by omega) ?_ ?_).mono ?_; (first | exact (unhide SA).s | exact (unhide SA).s.below (Joins.below_alloc1 _ _)); (first | exact (unhide SA).i | exact (unhide SA).i.below (Joins.below_alloc1 _ _)); rintro e wB ⟨po, pa, qo, qa, rfl, hoB, hbB⟩; have hWB : Below wA.heap.size wA wB := (by first | exact hbB | exact fr (Joins.below_alloc1 _ _) hbB); (first | (have hzB := hide ((unhide hzA).below hWB); obtain ⟨z0, z1⟩ := (unhide hzB).cells; have f0 := (unhide hzB).free 0; have f1 := (unhide hzB).free 1) | (have hzB := hide (VarD.below (show VarD (wA.alloc (.cells #[.slice none 0 0, .slice none 0 0] 26)) wA.heap.size (.slice none 0 0) (.slice none 0 0) from heap_alloc_new wA _) hbB); obtain ⟨z0, z1⟩ := (unhide hzB).cells; have f0 := (unhide hzB).free 0; have f1 := (unhide hzB).free 1) | skip); have SB := hide ((unhide SA).next hWB); obtain ⟨u0, u1⟩ := (unhide SB).d.cells; obtain ⟨u2, u3, u4⟩ := (unhide SB).x.cells; have HOB := hide hoB; have mB1 : wB.heap.size ≠ w.heap.size := World.new_ne wB ⟨w.heap.size, 0, none⟩ u2; have mB2 : wB.heap.size ≠ B1 := World.new_ne wB ⟨B1, 0, none⟩ u0; clear hoB hbB hWB))
  have E5 := hide ((unhide SB).last (K := w1.heap.size) (unhide HOB) (unhide HZA))
  revert E5
  generalize wB.alloc (.cells #[.slice po S.length pa, .slice qo X.length qa] 26) = W5
  generalize wB.heap.size = C
  intro E5
  rotate_left
  have E5 := hide ((unhide SB).early (K := w1.heap.size) (unhide hzB) (unhide HOB) (by simp) (unhide HZA) (unhide HK).1 (unhide HK).2.1 (unhide HK).2.2.1 (unhide HK).2.2.2)
  revert E5
  generalize (wB.setCell ⟨wA.heap.size, 0, none⟩ (.slice po S.length pa)).setCell ⟨wA.heap.size, 1, none⟩ (.slice qo X.length qa) = W5
  generalize wA.heap.size = C
  intro E5
  rotate_left
  have E5 := hide ((unhide SB).early (K := w1.heap.size) (unhide hzB) (unhide HOB) (unhide hzA).lt (Nat.le_refl _) (unhide HK).1 (unhide HK).2.1 (unhide HK).2.2.1 (unhide HK).2.2.2)
  revert E5
  generalize (wB.setCell ⟨w1.heap.size, 0, none⟩ (.slice po S.length pa)).setCell ⟨w1.heap.size, 1, none⟩ (.slice qo X.length qa) = W5
  generalize hC : w1.heap.size = C at *
  replace hC := hide hC
  intro E5
  rotate_left
  all_goals
    clear d0 d1 x0 x1 x2 y0 y1 y2 y3 y4 u0 u1 u2 u3 u4 mA1 mA2 mB1 mB2 m1 m2 SA SB HOB HZA
    (try clear hzB z0 z1 f0 f1)
    (try clear hzA)
    (try clear hHeld)
    obtain ⟨x0, x1, x2⟩ := (unhide E5).x.cells
    obtain ⟨v0, v1⟩ := (unhide E5).v.cells
    obtain ⟨r0, r1⟩ := (unhide E5).r.cells
    have r2 := (unhide E5).r.free 0
    have r3 := (unhide E5).r.free 1
    obtain ⟨t0, t1, t2⟩ := (unhide E5).t.cells
    obtain ⟨t3, t4, t5⟩ := (unhide E5).t.free
    have HE := hide (fun a b x y t => And.intro ((own5 (unhide E5).o (B1 := B2) (B2 := B3) (unhide HK).2.1 (unhide HK).2.2.1 a b x y t).base (B' := w.heap.size) (unhide HK).2.2.2) (below5 (unhide E5).below (unhide HBs).1 (unhide HBs).2 a b x y t))
    go_wp2
    go_region
    go_wp2
    exact bodyPost_ret (v := .tuple #[.agg #[.slice po S.length pa, .slice qo X.length qa], dltV h g s, .int .i64 0]) (by simp [results, Tryd.results36, go_sem, r0, r1, t0, t1, t2]) rfl ⟨po, pa, qo, qa, rfl, (unhide HE _ _ _ _ _).1.below (Below.refl _ _).drew, (unhide HE _ _ _ _ _).2.drew⟩

end Go.Proofs.YtlhinknmbgijeabDoor

/- Contract of the program's TakeDelta. -/
namespace Go.Proofs.YtlhinknmbgijeabDoor
open Go.RowKit
set_option linter.unusedVariables false
set_option maxRecDepth 100000

theorem ret_tk {po qo : Option Addr} {n n' m m' pa qa : Nat} {a b c d a' b' c' d' : Int} (h1 : n = n') (h2 : m = m') (ha : a = a') (hb : b = b') (hc : c = c') (hd : d = d') : Ending.returned (.tuple #[.agg #[.slice po n pa, .slice qo m qa], dltV a b c, .int .i64 d]) = Ending.returned (.tuple #[.agg #[.slice po n' pa, .slice qo m' qa], dltV a' b' c', .int .i64 d']) := by rw [h1, h2, ha, hb, hc, hd]

set_option maxHeartbeats 1600000 in
theorem takeI_room (ao bo : Option Addr) (ca cb : Nat) (ss : List ByteArray) (xs : List Wr) (h now : Int) (w : World) (hl : ss.length ≤ maxLen) (hm : xs.length ≤ maxLen) (h1 : Ss w ao ss) (h2 : Ios w bo xs) (hr : roomC ss xs h now ≠ 0) :
    Calls Tryd.prog 9 #[.agg #[.slice ao ss.length ca, .slice bo xs.length cb], .int .i64 h, .int .i64 now] w fun e w' => e = .returned (.tuple #[.agg #[.slice none 0 0, .slice none 0 0], dltV 0 0 0, .int .i64 (roomC ss xs h now)]) ∧ Below w.heap.size w w' := by
  have HS := hide (tk_new w ao bo ca cb ss xs h1 h2)
  have HL := hide hl
  have HM := hide hm
  have hb : (roomC ss xs h now != 0) = true := by simp [hr]
  clear h1 h2 hl hm hr
  go_enter Tryd.func9, Tryd.ntmps9
  go_wp2_with fail
  refine (hourFault_any _ _ _ _ ss xs h now _ (unhide HL) (unhide HM) (unhide HS).s (unhide HS).i).mono ?_
  rintro e w1 ⟨rfl, hb1⟩
  have HS1 := hide ((unhide HS).next hb1)
  obtain ⟨r0, r1⟩ := (unhide HS1).r.cells
  have r2 := (unhide HS1).r.free 0
  have r3 := (unhide HS1).r.free 1
  obtain ⟨t0, t1, t2⟩ := (unhide HS1).t.cells
  obtain ⟨t3, t4, t5⟩ := (unhide HS1).t.free
  have HE := hide (fun a b x y z => below5 (unhide HS1).below (B1 := w.heap.size + 1) (B2 := w.heap.size + 1 + 1) (by omega) (by omega) a b x y z)
  clear hb1
  go_wp2
  exact bodyPost_ret (v := .tuple #[.agg #[.slice none 0 0, .slice none 0 0], dltV 0 0 0, .int .i64 (roomC ss xs h now)]) (by simp [results, Tryd.results9, go_sem, r0, r1, t0, t1, t2]) rfl ⟨rfl, unhide HE _ _ _ _ _⟩

set_option maxHeartbeats 1600000 in
theorem takeI_many (ao bo : Option Addr) (ca cb : Nat) (ss : List ByteArray) (xs : List Wr) (h now : Int) (w : World) (h1 : Ss w ao ss) (h2 : Ios w bo xs) (hr : roomC ss xs h now = 0) (hg : redG ss xs h h = 1000000) (hE : ErrW w) :
    Calls Tryd.prog 9 #[.agg #[.slice ao ss.length ca, .slice bo xs.length cb], .int .i64 h, .int .i64 now] w fun e w' => ∃ po pa qo qa, e = .returned (.tuple #[.agg #[.slice po ss.length pa, .slice qo xs.length qa], dltV 0 0 0, .int .i64 6]) ∧ OwnD w' w.heap.size po ss.length pa qo xs.length qa ss xs ∧ Below w.heap.size w w' := by
  have HS := hide (tk_new w ao bo ca cb ss xs h1 h2)
  have HE := hide hE
  have hb : (roomC ss xs h now != 0) = false := by simp [hr]
  obtain ⟨e0, en, el⟩ := room_eq hr
  obtain ⟨ed, eh0, eh3⟩ := hostC_eq e0
  obtain ⟨l1, l2⟩ := diskB_len ed
  have HL : Hid (ss.length ≤ maxLen) := hide (by unfold maxLen; omega)
  have HM : Hid (xs.length ≤ maxLen) := hide (by unfold maxLen; omega)
  have HL' : Hid (ss.length ≤ 1048576) := hide (by omega)
  have HM' : Hid (xs.length ≤ 1048576) := hide (by omega)
  have HD := hide ed
  have HG := hide hg
  obtain ⟨T, HT⟩ : ∃ T, Hid (redS ss xs h h = T) := ⟨_, hide rfl⟩
  obtain ⟨Q, HQ⟩ : ∃ Q, Hid ((if redB ss xs h h = true then h else 0) = Q) := ⟨_, hide rfl⟩
  clear h1 h2 hr e0 en el ed l1 l2 hg hE
  go_enter Tryd.func9, Tryd.ntmps9
  go_wp2_with fail
  refine (hourFault_any _ _ _ _ ss xs h now _ (unhide HL) (unhide HM) (unhide HS).s (unhide HS).i).mono ?_
  rintro e w1 ⟨rfl, hb1⟩
  have HS1 := hide ((unhide HS).next hb1)
  obtain ⟨d0, d1⟩ := (unhide HS1).d.cells
  clear hb1
  go_wp2_with fail
  refine (ownDelta_any _ _ _ _ ss xs h 1000000 T _ (unhide HG) (unhide HT) (unhide HD) eh0 eh3 (unhide HS1).s (unhide HS1).i ((unhide HE).below (unhide HS1).below)).mono ?_
  rintro e w2 ⟨rfl, hb2⟩
  rw [unhide HQ]
  have HS2 := hide ((unhide HS1).next hb2)
  have HA2 := hide (Joins.below_alloc1 w2 (.cells #[.int .i64 Q, .int .i64 1000000, .int .i64 T] 30))
  have HS3 := hide ((unhide HS2).next (unhide HA2))
  clear hb2 d0 d1
  obtain ⟨d0, d1⟩ := (unhide HS2).d.cells
  have hlt := (unhide HS2).d.lt
  go_wp2_with fail
  refine (copyDisk_any _ _ _ _ ss xs _ (unhide HL') (unhide HM') (unhide HS3).s (unhide HS3).i).mono ?_
  rintro e w3 ⟨po, pa, qo, qa, rfl, ho, hb3⟩
  have HS4 := hide ((unhide HS3).next hb3)
  have HO := hide ho
  have z : w.heap.size + 1 + 1 < (w2.alloc (.cells #[.int .i64 Q, .int .i64 1000000, .int .i64 T] 30)).heap.size := (unhide HS3).t.lt
  clear ho hb3 d0 d1 hlt
  obtain ⟨r0, r1⟩ := (unhide HS4).r.cells
  have r2 := (unhide HS4).r.free 0
  have r3 := (unhide HS4).r.free 1
  obtain ⟨t0, t1, t2⟩ := (unhide HS4).t.cells
  obtain ⟨t3, t4, t5⟩ := (unhide HS4).t.free
  have HEE := hide (fun a b x y t => And.intro ((own5 (unhide HO) (B1 := w.heap.size + 1) (B2 := w.heap.size + 1 + 1) (by omega) z a b x y t).base (B' := w.heap.size) (by omega)) (below5 (unhide HS4).below (B1 := w.heap.size + 1) (B2 := w.heap.size + 1 + 1) (by omega) (by omega) a b x y t))
  clear z
  go_wp2
  exact bodyPost_ret (v := .tuple #[.agg #[.slice po ss.length pa, .slice qo xs.length qa], dltV 0 0 0, .int .i64 6]) (by simp [results, Tryd.results9, go_sem, r0, r1, t0, t1, t2]) rfl ⟨po, pa, qo, qa, rfl, (unhide HEE _ _ _ _ _).1, (unhide HEE _ _ _ _ _).2⟩

set_option maxHeartbeats 1600000 in
theorem takeI_ok (ao bo : Option Addr) (ca cb : Nat) (ss : List ByteArray) (xs : List Wr) (h now G : Int) (S : List ByteArray) (X : List Wr) (w : World) (h1 : Ss w ao ss) (h2 : Ios w bo xs) (hr : roomC ss xs h now = 0) (hG : redG ss xs h h = G) (hg : G ≠ 1000000) (hS : pS ss xs h (G + 1) now = S) (hX : pX xs h (G + 1) now = X) (hE : ErrW w) :
    Calls Tryd.prog 9 #[.agg #[.slice ao ss.length ca, .slice bo xs.length cb], .int .i64 h, .int .i64 now] w fun e w' => ∃ po pa qo qa, e = .returned (.tuple #[.agg #[.slice po S.length pa, .slice qo X.length qa], dltV h (G + 1) now, .int .i64 0]) ∧ OwnD w' w.heap.size po S.length pa qo X.length qa S X ∧ Below w.heap.size w w' := by
  have HS := hide (tk_new w ao bo ca cb ss xs h1 h2)
  have HE := hide hE
  have hb : (roomC ss xs h now != 0) = false := by simp [hr]
  obtain ⟨e0, en, el⟩ := room_eq hr
  obtain ⟨ed, eh0, eh3⟩ := hostC_eq e0
  obtain ⟨l1, l2⟩ := diskB_len ed
  have HL : Hid (ss.length ≤ maxLen) := hide (by unfold maxLen; omega)
  have HM : Hid (xs.length ≤ maxLen) := hide (by unfold maxLen; omega)
  have HD := hide ed
  have HXL := hide el
  have hgi := red_in ss xs h h
  rw [hG] at hgi
  obtain ⟨g0, g1⟩ := hgi
  have hgb : (G == 1000000) = false := by simp [hg]
  have wrG : IntKind.i64.wrap (G + 1) = G + 1 := by rw [IntKind.wrap_i64]; omega
  have HDL : Hid (dltB h (G + 1) now = true) := hide (dltB_iff.2 ⟨⟨eh0, eh3⟩, by omega, en⟩)
  have HG := hide hG
  have HSS := hide hS
  have HXX := hide hX
  obtain ⟨T, HT⟩ : ∃ T, Hid (redS ss xs h h = T) := ⟨_, hide rfl⟩
  obtain ⟨Q, HQ⟩ : ∃ Q, Hid ((if redB ss xs h h = true then h else 0) = Q) := ⟨_, hide rfl⟩
  clear h1 h2 hr e0 en el ed l1 l2 hg hE hG hS hX
  go_enter Tryd.func9, Tryd.ntmps9
  go_wp2_with fail
  refine (hourFault_any _ _ _ _ ss xs h now _ (unhide HL) (unhide HM) (unhide HS).s (unhide HS).i).mono ?_
  rintro e w1 ⟨rfl, hb1⟩
  have HS1 := hide ((unhide HS).next hb1)
  obtain ⟨d0, d1⟩ := (unhide HS1).d.cells
  clear hb1
  go_wp2_with fail
  refine (ownDelta_any _ _ _ _ ss xs h G T _ (unhide HG) (unhide HT) (unhide HD) eh0 eh3 (unhide HS1).s (unhide HS1).i ((unhide HE).below (unhide HS1).below)).mono ?_
  rintro e w2 ⟨rfl, hb2⟩
  rw [unhide HQ]
  have HS2 := hide ((unhide HS1).next hb2)
  have HA2 := hide (Joins.below_alloc1 w2 (.cells #[.int .i64 Q, .int .i64 G, .int .i64 T] 30))
  have HS3 := hide ((unhide HS2).next (unhide HA2))
  clear hb2 d0 d1
  obtain ⟨d0, d1⟩ := (unhide HS2).d.cells
  have hlt := (unhide HS2).d.lt
  go_wp2_with fail
  refine (writtenTo_ok _ _ _ _ ss xs h (G + 1) now S X _ (unhide HSS) (unhide HXX) (unhide HD) (unhide HXL) (unhide HDL) (unhide HS3).s (unhide HS3).i).mono ?_
  rintro e w3 ⟨po, pa, qo, qa, rfl, ho, hb3⟩
  have HS4 := hide ((unhide HS3).next hb3)
  have HO := hide ho
  have z : w.heap.size + 1 + 1 < (w2.alloc (.cells #[.int .i64 Q, .int .i64 G, .int .i64 T] 30)).heap.size := (unhide HS3).t.lt
  clear ho hb3 d0 d1 hlt
  obtain ⟨r0, r1⟩ := (unhide HS4).r.cells
  have r2 := (unhide HS4).r.free 0
  have r3 := (unhide HS4).r.free 1
  obtain ⟨t0, t1, t2⟩ := (unhide HS4).t.cells
  obtain ⟨t3, t4, t5⟩ := (unhide HS4).t.free
  have HEE := hide (fun a b x y t => And.intro ((own5 (unhide HO) (B1 := w.heap.size + 1) (B2 := w.heap.size + 1 + 1) (by omega) z a b x y t).base (B' := w.heap.size) (by omega)) (below5 (unhide HS4).below (B1 := w.heap.size + 1) (B2 := w.heap.size + 1 + 1) (by omega) (by omega) a b x y t))
  clear z
  go_wp2
  exact bodyPost_ret (v := .tuple #[.agg #[.slice po S.length pa, .slice qo X.length qa], dltV h (G + 1) now, .int .i64 0]) (by simp [results, Tryd.results9, go_sem, r0, r1, t0, t1, t2]) rfl ⟨po, pa, qo, qa, rfl, (unhide HEE _ _ _ _ _).1, (unhide HEE _ _ _ _ _).2⟩

theorem takeDelta_impl (RS : List ByteArray) (RX : List Wr) (RH RG RT RC : Int) (ao bo : Option Addr) (ca cb : Nat) (ss : List ByteArray) (xs : List Wr) (h now : Int) (w : World) (e : tkS ss xs h now = RS ∧ tkX ss xs h now = RX ∧ (tkH ss xs h now = RH ∧ tkG ss xs h now = RG ∧ tkT ss xs h now = RT) ∧ tkC ss xs h now = RC) (hl : ss.length ≤ maxLen) (hm : xs.length ≤ maxLen) (h1 : Ss w ao ss) (h2 : Ios w bo xs) (hE : ErrW w) :
    Calls Tryd.prog 9 #[.agg #[.slice ao ss.length ca, .slice bo xs.length cb], .int .i64 h, .int .i64 now] w fun e w' => ∃ po pa qo qa, e = .returned (.tuple #[.agg #[.slice po RS.length pa, .slice qo RX.length qa], dltV RH RG RT, .int .i64 RC]) ∧ OwnD w' w.heap.size po RS.length pa qo RX.length qa RS RX ∧ Below w.heap.size w w' := by
  by_cases hr : roomC ss xs h now = 0
  · by_cases hg : redG ss xs h h = 1000000
    · obtain ⟨e1, e2, ⟨e3, e4, e5⟩, e6⟩ := tk_many hr hg
      rw [e1, e2, e3, e4, e5, e6] at e
      obtain ⟨rfl, rfl, ⟨rfl, rfl, rfl⟩, rfl⟩ := e
      exact takeI_many ao bo ca cb ss xs h now w h1 h2 hr hg hE
    · obtain ⟨e1, e2, ⟨e3, e4, e5⟩, e6⟩ := tk_ok hr hg
      rw [e1, e2, e3, e4, e5, e6] at e
      obtain ⟨rfl, rfl, ⟨rfl, rfl, rfl⟩, rfl⟩ := e
      exact takeI_ok ao bo ca cb ss xs h now _ _ _ w h1 h2 hr rfl hg rfl rfl hE
  · obtain ⟨e1, e2, ⟨e3, e4, e5⟩, e6⟩ := tk_room hr
    rw [e1, e2, e3, e4, e5, e6] at e
    obtain ⟨rfl, rfl, ⟨rfl, rfl, rfl⟩, rfl⟩ := e
    refine (takeI_room ao bo ca cb ss xs h now w hl hm h1 h2 hr).mono ?_
    rintro e w' ⟨he, hb⟩
    exact ⟨none, 0, none, 0, he, zeroD_own, hb⟩

end Go.Proofs.YtlhinknmbgijeabDoor
