import Derived.Test.YtefnapcegeojoaaDoorRows
import Derived.Test.YtefnapcegeojoaaDoorLAtomicPart1
import Derived.Test.YtefnapcegeojoaaDoorLAtomicPart2
import Derived.Test.YtefnapcegeojoaaDoorLAtomicPart4
import Derived.Test.YtefnapcegeojoaaDoorLAtomicPart3
import Derived.WalkKit
import Derived.WalkSpells
import Derived.Deep.RegionLawGrows
import Derived.Deep.RegionLaw
import Derived.Deep.AppendLies
import Derived.Deep.RegionWith
import Derived.BigQuiet
import Derived.Deep.QuietTactic
import Derived.Laws.StructEq
import Derived.KernelRfl
import Derived.Lib.SmallJoins
import Derived.Deep.RegionHeld3
import Derived.LoopN
import Derived.Deep.CutRange
import Derived.Laws.BytesArg
import Derived.Laws.CopyRow
import Derived.Laws.CopyOwn

namespace Go.Proofs.YtefnapcegeojoaaDoor
open Go.RowKit
set_option linter.unusedVariables false

theorem wi_end {w w3 : World} {v g k cap n pa : Nat} {po : Option Addr} {ss : List ByteArray} {xs' : List Wr} {x y : Value} (hS : OwnR w3 (w.heap.size + 2) 9 1 (.slice po n pa) n (strV ss)) (hI : OwnR w3 (w.heap.size + 2) 78 3 (.slice (some ⟨g, 0, none⟩) k cap) k (ioV xs')) (hv : VarD w3 v x y) (hb : Below w.heap.size w w3) (hvw : w.heap.size ≤ v) (a b c : Value) :
    OwnD (((w3.setCell ⟨v, 1, none⟩ a).setCell ⟨w.heap.size + 1, 0, none⟩ b).setCell ⟨w.heap.size + 1, 1, none⟩ c) w.heap.size po n pa (some ⟨g, 0, none⟩) k cap ss xs' ∧ Below w.heap.size w (((w3.setCell ⟨v, 1, none⟩ a).setCell ⟨w.heap.size + 1, 0, none⟩ b).setCell ⟨w.heap.size + 1, 1, none⟩ c) := by
  have hk : Keep (fun j => j = v) w3 (w3.setCell ⟨v, 1, none⟩ a) := Keep.setCell (S := fun j => j = v) (Keep.refl _ _) (p := ⟨v, 1, none⟩) rfl a
  have h1 : OwnD (w3.setCell ⟨v, 1, none⟩ a) (w.heap.size + 2) po n pa (some ⟨g, 0, none⟩) k cap ss xs' := ⟨hS.keep hk (fun j hj e => hS.other hv (by decide) (e ▸ hj)), hI.keep hk (fun j hj e => hI.other hv (by decide) (e ▸ hj))⟩
  exact copyD_end h1 (hb.setCell (p := ⟨v, 1, none⟩) hvw a) b c

set_option maxRecDepth 100000 in
set_option maxHeartbeats 800000 in
theorem writeSector_impl_range (ao bo : Option Addr) (ca cb : Nat) (ss : List ByteArray) (xs : List Wr) (h a : Int) (d : ByteArray) (w : World) (hz : d.size ≤ maxLen) (hl : ss.length ≤ maxLen) (hm : xs.length ≤ maxLen) (h1 : Ss w ao ss) (h2 : Ios w bo xs) (hlong : ¬ 65536 < d.size) (hask : askC ss xs h a = 0) (hbig : 80 < d.size) :
    Calls Tryd.prog 44 #[.agg #[.slice ao ss.length ca, .slice bo xs.length cb], .int .i64 h, .int .i64 a, .string d] w fun e w' => ∃ po pa qo qa, e = .returned (.tuple #[.agg #[.slice po (wrS ss xs h a d).length pa, .slice qo (wrX ss xs h a d).length qa], .int .i64 (wrC ss xs h a d)]) ∧ OwnD w' w.heap.size po (wrS ss xs h a d).length pa qo (wrX ss xs h a d).length qa (wrS ss xs h a d) (wrX ss xs h a d) ∧ Below w.heap.size w w' := by
  have HA := hide (Joins.below_alloc2 w (.cells #[.slice ao ss.length ca, .slice bo xs.length cb] 32) (.cells #[.slice none 0 0, .slice none 0 0] 32))
  have H1 := hide (h1.below (unhide HA))
  have H2 := hide (h2.below (unhide HA))
  have HV := hide ((VarD.new w (.slice ao ss.length ca) (.slice bo xs.length cb)).below (Joins.below_alloc1 _ (.cells #[.slice none 0 0, .slice none 0 0] 32)))
  have HR : Hid (VarD ((w.alloc (.cells #[.slice ao ss.length ca, .slice bo xs.length cb] 32)).alloc (.cells #[.slice none 0 0, .slice none 0 0] 32)) (w.heap.size + 1) (.slice none 0 0) (.slice none 0 0)) := hide (by have := VarD.new (w.alloc (.cells #[.slice ao ss.length ca, .slice bo xs.length cb] 32)) (.slice none 0 0) (.slice none 0 0); simp only [World.size_alloc] at this; exact this)
  have HS0 := hide h1
  have HX0 := hide h2
  have HL := hide hl
  have HM := hide hm
  clear h1 h2 hl hm
  unfold maxLen at hz
  have hb : (askC ss xs h a != 0) = false := by simp [hask]
  obtain ⟨hh, ha0, ha1⟩ := askC_eq hask
  obtain ⟨hlen, hlx⟩ := diskB_len (hostC_eq hh).1
  have HLS : Hid (ss.length ≤ 1048576) := hide (by omega)
  have HLX : Hid (xs.length ≤ 1048576) := hide (by omega)
  have HASK := hide hask
  clear hask hh hlen
  have HW := hide (wr_range (h := h) (a := a) (d := d) hlong (unhide HASK) hbig)
  go_enter Tryd.func44, Tryd.ntmps44
  go_wp2_with fail
  refine (placeFault_any _ _ _ _ ss xs h a _ (unhide HL) (unhide HM) (unhide H1) (unhide H2)).mono ?_
  rintro e w1 ⟨rfl, hb1⟩
  have HV1 := hide ((unhide HV).below hb1)
  have HR1 := hide ((unhide HR).below hb1)
  have HB1 := hide (fr (unhide HA) hb1)
  have HS1 := hide ((unhide H1).below hb1)
  have HX1 := hide ((unhide H2).below hb1)
  have HZ1 := hide hb1.size
  clear hb1
  obtain ⟨hv0, hv1⟩ := (unhide HV1).cells
  go_wp2_with fail
  refine (copyDisk_any _ _ _ _ ss xs _ (unhide HLS) (unhide HLX) (unhide HS1) (unhide HX1)).mono ?_
  rintro e w2 ⟨po, pa, qo, qa, rfl, ho2, hb2⟩
  have HO2 := hide (ho2.base (B' := w.heap.size + 2) (by have z1 := unhide HZ1; simp at z1; omega))
  have HR2 := hide ((unhide HR1).below hb2)
  have HB2 := hide (fr (unhide HB1) hb2)
  have hlt2 : w.heap.size + 1 < w2.heap.size := (unhide HR2).lt
  clear ho2 hb2 hv0 hv1
  obtain ⟨hr0, hr1⟩ := (unhide HR2).cells
  have hr2 := (unhide HR2).free 0
  have hr3 := (unhide HR2).free 1
  have HE := hide (copyD_end (w := w) (wL := w2) (unhide HO2) (unhide HB2) (.slice po ss.length pa) (.slice qo xs.length qa))
  have HE1 := hide ((unhide HE).1.below (Joins.below_alloc1 _ (.cells #[.slice po ss.length pa, .slice qo xs.length qa] 32)))
  have HE2 := hide (fr (unhide HE).2 (Joins.below_alloc1 _ (.cells #[.slice po ss.length pa, .slice qo xs.length qa] 32)))
  go_wp2
  obtain ⟨e1, e2, e3⟩ := unhide HW
  rw [e1, e2, e3]
  exact bodyPost_ret (v := .tuple #[.agg #[.slice po ss.length pa, .slice qo xs.length qa], .int .i64 4]) (by simp [results, Tryd.results44, go_sem, hr0, hr1, hlt2]) rfl ⟨po, pa, qo, qa, rfl, unhide HE1, unhide HE2⟩

set_option maxRecDepth 100000 in
set_option maxHeartbeats 800000 in
theorem writeSector_impl_full (ao bo : Option Addr) (ca cb : Nat) (ss : List ByteArray) (xs : List Wr) (h a : Int) (d : ByteArray) (w : World) (hz : d.size ≤ maxLen) (hl : ss.length ≤ maxLen) (hm : xs.length ≤ maxLen) (h1 : Ss w ao ss) (h2 : Ios w bo xs) (hlong : ¬ 65536 < d.size) (hask : askC ss xs h a = 0) (hbig : ¬ 80 < d.size) (hfull : xs.length = 200) :
    Calls Tryd.prog 44 #[.agg #[.slice ao ss.length ca, .slice bo xs.length cb], .int .i64 h, .int .i64 a, .string d] w fun e w' => ∃ po pa qo qa, e = .returned (.tuple #[.agg #[.slice po (wrS ss xs h a d).length pa, .slice qo (wrX ss xs h a d).length qa], .int .i64 (wrC ss xs h a d)]) ∧ OwnD w' w.heap.size po (wrS ss xs h a d).length pa qo (wrX ss xs h a d).length qa (wrS ss xs h a d) (wrX ss xs h a d) ∧ Below w.heap.size w w' := by
  have HA := hide (Joins.below_alloc2 w (.cells #[.slice ao ss.length ca, .slice bo xs.length cb] 32) (.cells #[.slice none 0 0, .slice none 0 0] 32))
  have H1 := hide (h1.below (unhide HA))
  have H2 := hide (h2.below (unhide HA))
  have HV := hide ((VarD.new w (.slice ao ss.length ca) (.slice bo xs.length cb)).below (Joins.below_alloc1 _ (.cells #[.slice none 0 0, .slice none 0 0] 32)))
  have HR : Hid (VarD ((w.alloc (.cells #[.slice ao ss.length ca, .slice bo xs.length cb] 32)).alloc (.cells #[.slice none 0 0, .slice none 0 0] 32)) (w.heap.size + 1) (.slice none 0 0) (.slice none 0 0)) := hide (by have := VarD.new (w.alloc (.cells #[.slice ao ss.length ca, .slice bo xs.length cb] 32)) (.slice none 0 0) (.slice none 0 0); simp only [World.size_alloc] at this; exact this)
  have HS0 := hide h1
  have HX0 := hide h2
  have HL := hide hl
  have HM := hide hm
  clear h1 h2 hl hm
  unfold maxLen at hz
  have hb : (askC ss xs h a != 0) = false := by simp [hask]
  obtain ⟨hh, ha0, ha1⟩ := askC_eq hask
  obtain ⟨hlen, hlx⟩ := diskB_len (hostC_eq hh).1
  have HLS : Hid (ss.length ≤ 1048576) := hide (by omega)
  have HLX : Hid (xs.length ≤ 1048576) := hide (by omega)
  have HASK := hide hask
  clear hask hh hlen
  have HW := hide (wr_full (h := h) (a := a) (d := d) hlong (unhide HASK) hbig hfull)
  have hge : 200 ≤ xs.length := by omega
  clear hfull
  go_enter Tryd.func44, Tryd.ntmps44
  go_wp2_with fail
  refine (placeFault_any _ _ _ _ ss xs h a _ (unhide HL) (unhide HM) (unhide H1) (unhide H2)).mono ?_
  rintro e w1 ⟨rfl, hb1⟩
  have HV1 := hide ((unhide HV).below hb1)
  have HR1 := hide ((unhide HR).below hb1)
  have HB1 := hide (fr (unhide HA) hb1)
  have HS1 := hide ((unhide H1).below hb1)
  have HX1 := hide ((unhide H2).below hb1)
  have HZ1 := hide hb1.size
  clear hb1
  obtain ⟨hv0, hv1⟩ := (unhide HV1).cells
  go_wp2_with fail
  refine (copyDisk_any _ _ _ _ ss xs _ (unhide HLS) (unhide HLX) (unhide HS1) (unhide HX1)).mono ?_
  rintro e w2 ⟨po, pa, qo, qa, rfl, ho2, hb2⟩
  have HO2 := hide (ho2.base (B' := w.heap.size + 2) (by have z1 := unhide HZ1; simp at z1; omega))
  have HR2 := hide ((unhide HR1).below hb2)
  have HB2 := hide (fr (unhide HB1) hb2)
  have hlt2 : w.heap.size + 1 < w2.heap.size := (unhide HR2).lt
  clear ho2 hb2 hv0 hv1
  obtain ⟨hr0, hr1⟩ := (unhide HR2).cells
  have hr2 := (unhide HR2).free 0
  have hr3 := (unhide HR2).free 1
  have HE := hide (copyD_end (w := w) (wL := w2) (unhide HO2) (unhide HB2) (.slice po ss.length pa) (.slice qo xs.length qa))
  have HE1 := hide ((unhide HE).1.below (Joins.below_alloc1 _ (.cells #[.slice po ss.length pa, .slice qo xs.length qa] 32)))
  have HE2 := hide (fr (unhide HE).2 (Joins.below_alloc1 _ (.cells #[.slice po ss.length pa, .slice qo xs.length qa] 32)))
  go_wp2
  obtain ⟨e1, e2, e3⟩ := unhide HW
  rw [e1, e2, e3]
  exact bodyPost_ret (v := .tuple #[.agg #[.slice po ss.length pa, .slice qo xs.length qa], .int .i64 7]) (by simp [results, Tryd.results44, go_sem, hr0, hr1, hlt2]) rfl ⟨po, pa, qo, qa, rfl, unhide HE1, unhide HE2⟩

set_option maxRecDepth 100000 in
set_option maxHeartbeats 800000 in
theorem writeSector_impl_ok (ao bo : Option Addr) (ca cb : Nat) (ss : List ByteArray) (xs : List Wr) (h a : Int) (d : ByteArray) (w : World) (hz : d.size ≤ maxLen) (hl : ss.length ≤ maxLen) (hm : xs.length ≤ maxLen) (h1 : Ss w ao ss) (h2 : Ios w bo xs) (hlong : ¬ 65536 < d.size) (hask : askC ss xs h a = 0) (hbig : ¬ 80 < d.size) (hfull : ¬ xs.length = 200) :
    Calls Tryd.prog 44 #[.agg #[.slice ao ss.length ca, .slice bo xs.length cb], .int .i64 h, .int .i64 a, .string d] w fun e w' => ∃ po pa qo qa, e = .returned (.tuple #[.agg #[.slice po (wrS ss xs h a d).length pa, .slice qo (wrX ss xs h a d).length qa], .int .i64 (wrC ss xs h a d)]) ∧ OwnD w' w.heap.size po (wrS ss xs h a d).length pa qo (wrX ss xs h a d).length qa (wrS ss xs h a d) (wrX ss xs h a d) ∧ Below w.heap.size w w' := by
  have HA := hide (Joins.below_alloc2 w (.cells #[.slice ao ss.length ca, .slice bo xs.length cb] 32) (.cells #[.slice none 0 0, .slice none 0 0] 32))
  have H1 := hide (h1.below (unhide HA))
  have H2 := hide (h2.below (unhide HA))
  have HV := hide ((VarD.new w (.slice ao ss.length ca) (.slice bo xs.length cb)).below (Joins.below_alloc1 _ (.cells #[.slice none 0 0, .slice none 0 0] 32)))
  have HR : Hid (VarD ((w.alloc (.cells #[.slice ao ss.length ca, .slice bo xs.length cb] 32)).alloc (.cells #[.slice none 0 0, .slice none 0 0] 32)) (w.heap.size + 1) (.slice none 0 0) (.slice none 0 0)) := hide (by have := VarD.new (w.alloc (.cells #[.slice ao ss.length ca, .slice bo xs.length cb] 32)) (.slice none 0 0) (.slice none 0 0); simp only [World.size_alloc] at this; exact this)
  have HS0 := hide h1
  have HX0 := hide h2
  have HL := hide hl
  have HM := hide hm
  clear h1 h2 hl hm
  unfold maxLen at hz
  have hb : (askC ss xs h a != 0) = false := by simp [hask]
  obtain ⟨hh, ha0, ha1⟩ := askC_eq hask
  obtain ⟨hlen, hlx⟩ := diskB_len (hostC_eq hh).1
  have HLS : Hid (ss.length ≤ 1048576) := hide (by omega)
  have HLX : Hid (xs.length ≤ 1048576) := hide (by omega)
  have HASK := hide hask
  clear hask hh hlen
  have HW := hide (wr_ok (h := h) (a := a) (d := d) hlong (unhide HASK) hbig hfull)
  have HN := hide (show xs.length + 1 = (xs ++ [(⟨h, a, d⟩ : Wr)]).length by simp)
  have hge : xs.length < 200 := by omega
  obtain ⟨j0, hj, hy0, hy1, hy2⟩ := info_parts infoW
  clear hfull
  go_enter Tryd.func44, Tryd.ntmps44
  go_wp2_with fail
  refine (placeFault_any _ _ _ _ ss xs h a _ (unhide HL) (unhide HM) (unhide H1) (unhide H2)).mono ?_
  rintro e w1 ⟨rfl, hb1⟩
  have HV1 := hide ((unhide HV).below hb1)
  have HR1 := hide ((unhide HR).below hb1)
  have HB1 := hide (fr (unhide HA) hb1)
  have HS1 := hide ((unhide H1).below hb1)
  have HX1 := hide ((unhide H2).below hb1)
  have HZ1 := hide hb1.size
  clear hb1
  obtain ⟨hv0, hv1⟩ := (unhide HV1).cells
  go_wp2_with fail
  refine (copyDisk_any _ _ _ _ ss xs _ (unhide HLS) (unhide HLX) (unhide HS1) (unhide HX1)).mono ?_
  rintro e w2 ⟨po, pa, qo, qa, rfl, ho2, hb2⟩
  have HO2 := hide (ho2.base (B' := w.heap.size + 2) (by have z1 := unhide HZ1; simp at z1; omega))
  have HR2 := hide ((unhide HR1).below hb2)
  have HB2 := hide (fr (unhide HB1) hb2)
  have hlt2 : w.heap.size + 1 < w2.heap.size := (unhide HR2).lt
  clear ho2 hb2 hv0 hv1
  obtain ⟨hr0, hr1⟩ := (unhide HR2).cells
  have hr2 := (unhide HR2).free 0
  have hr3 := (unhide HR2).free 1
  have HA2 := hide (Joins.below_alloc2 w2 (.cells #[.slice po ss.length pa, .slice qo xs.length qa] 32) (.cells #[.int .i64 h, .int .i64 a, .string d] 78))
  have HO3 := hide ((unhide HO2).below (unhide HA2))
  have HR3 := hide ((unhide HR2).below (unhide HA2))
  have HV3 := hide ((VarD.new w2 (.slice po ss.length pa) (.slice qo xs.length qa)).below (Joins.below_alloc1 _ (.cells #[.int .i64 h, .int .i64 a, .string d] 78)))
  have HB3 := hide (fr (unhide HB2) (unhide HA2))
  have HI3 : Hid (VarI ((w2.alloc (.cells #[.slice po ss.length pa, .slice qo xs.length qa] 32)).alloc (.cells #[.int .i64 h, .int .i64 a, .string d] 78)) (w2.heap.size + 1) ⟨h, a, d⟩) := hide (VarI.top (x := ⟨h, a, d⟩) (by simp))
  go_wp2_with (at_builtin; refine wpList_append_one rfl _ _ 30 rfl (w.heap.size + 2) 78 j0 (.agg #[.int .i64 0, .int .i64 0, .string ⟨#[]⟩]) 3 32 Tryd.underlying30 hj hy0 hy1 hy2 rfl (by omega) qo xs.length qa (ioV xs) rfl (unhide HO3).i (by simp; omega) ⟨w2.heap.size + 1, 0, none⟩ _ (wrV ⟨h, a, d⟩) rfl rfl (unhide HI3).news (wrV_one _) (by unfold maxLen; omega) (by omega) ?_; intro g cap w3 ho3 hk3; have HV4 := hide ((unhide HV3).keep hk3 ((unhide HO3).i.other (unhide HV3) (by decide))); have HR4 := hide ((unhide HR3).keep hk3 ((unhide HO3).i.other (unhide HR3) (by decide))); have HW4 := hide (wi_end (w := w) (w3 := w3) (v := w2.heap.size) (g := g) (k := xs.length + 1) (cap := cap) (xs' := xs ++ [⟨h, a, d⟩]) ((unhide HO3).s.keep hk3 (own_apart (unhide HO3).s (unhide HO3).i (by decide))) (.inr ⟨Nat.succ_pos _, by rw [ioV_snoc]; exact ho3⟩) (unhide HV4) ((unhide HB3).trans (hk3.below (B := w.heap.size) (unhide HB3).size (fun j hj => Nat.le_trans (show w.heap.size ≤ w.heap.size + 2 from by omega) ((unhide HO3).i.ge j hj).1))) (by omega) (.slice (some ⟨g, 0, none⟩) (xs.length + 1) cap) (.slice po ss.length pa) (.slice (some ⟨g, 0, none⟩) (xs.length + 1) cap)); obtain ⟨q0, q1⟩ := (unhide HV4).cells; have q2 := (unhide HV4).free 1; obtain ⟨q3, q4⟩ := (unhide HR4).cells; have q5 := (unhide HR4).free 0; have q6 := (unhide HR4).free 1; clear ho3 hk3)
  obtain ⟨e1, e2, e3⟩ := unhide HW
  rw [e1, e2, e3, ← unhide HN]
  exact bodyPost_ret (v := .tuple #[.agg #[.slice po ss.length pa, .slice (some ⟨g, 0, none⟩) (xs.length + 1) cap], .int .i64 0]) (by simp [results, Tryd.results44, go_sem, q3, q4]) rfl ⟨po, pa, _, _, rfl, (unhide HW4).1, (unhide HW4).2⟩

set_option maxRecDepth 100000 in
set_option maxHeartbeats 1600000 in
theorem writeSector_impl (ao bo : Option Addr) (ca cb : Nat) (ss : List ByteArray) (xs : List Wr) (h a : Int) (d : ByteArray) (w : World) (hz : d.size ≤ maxLen) (hl : ss.length ≤ maxLen) (hm : xs.length ≤ maxLen) (h1 : Ss w ao ss) (h2 : Ios w bo xs) :
    Calls Tryd.prog 44 #[.agg #[.slice ao ss.length ca, .slice bo xs.length cb], .int .i64 h, .int .i64 a, .string d] w fun e w' => ∃ po pa qo qa, e = .returned (.tuple #[.agg #[.slice po (wrS ss xs h a d).length pa, .slice qo (wrX ss xs h a d).length qa], .int .i64 (wrC ss xs h a d)]) ∧ OwnD w' w.heap.size po (wrS ss xs h a d).length pa qo (wrX ss xs h a d).length qa (wrS ss xs h a d) (wrX ss xs h a d) ∧ Below w.heap.size w w' := by
  have HA := hide (Joins.below_alloc2 w (.cells #[.slice ao ss.length ca, .slice bo xs.length cb] 32) (.cells #[.slice none 0 0, .slice none 0 0] 32))
  have H1 := hide (h1.below (unhide HA))
  have H2 := hide (h2.below (unhide HA))
  have HV := hide ((VarD.new w (.slice ao ss.length ca) (.slice bo xs.length cb)).below (Joins.below_alloc1 _ (.cells #[.slice none 0 0, .slice none 0 0] 32)))
  have HR : Hid (VarD ((w.alloc (.cells #[.slice ao ss.length ca, .slice bo xs.length cb] 32)).alloc (.cells #[.slice none 0 0, .slice none 0 0] 32)) (w.heap.size + 1) (.slice none 0 0) (.slice none 0 0)) := hide (by have := VarD.new (w.alloc (.cells #[.slice ao ss.length ca, .slice bo xs.length cb] 32)) (.slice none 0 0) (.slice none 0 0); simp only [World.size_alloc] at this; exact this)
  have HS0 := hide h1
  have HX0 := hide h2
  have HL := hide hl
  have HM := hide hm
  clear h1 h2 hl hm
  unfold maxLen at hz
  by_cases hlong : 65536 < d.size
  · obtain ⟨e1, e2, e3⟩ := wr_long (ss := ss) (xs := xs) (h := h) (a := a) hlong
    rw [e1, e2, e3]
    clear e1 e2 e3
    go_enter Tryd.func44, Tryd.ntmps44
    go_wp2
    exact bodyPost_ret (v := .tuple #[.agg #[.slice none 0 0, .slice none 0 0], .int .i64 2]) (by simp [results, Tryd.results44, go_sem]) rfl ⟨none, 0, none, 0, rfl, zeroD_own, unhide HA⟩
  by_cases hask : askC ss xs h a = 0
  · by_cases hbig : 80 < d.size
    · exact writeSector_impl_range ao bo ca cb ss xs h a d w (by unfold maxLen; exact hz) (unhide HL) (unhide HM) (unhide HS0) (unhide HX0) hlong hask hbig
    · by_cases hfull : xs.length = 200
      · exact writeSector_impl_full ao bo ca cb ss xs h a d w (by unfold maxLen; exact hz) (unhide HL) (unhide HM) (unhide HS0) (unhide HX0) hlong hask hbig hfull
      · exact writeSector_impl_ok ao bo ca cb ss xs h a d w (by unfold maxLen; exact hz) (unhide HL) (unhide HM) (unhide HS0) (unhide HX0) hlong hask hbig hfull
  · have hb : (askC ss xs h a != 0) = true := by simp [hask]
    obtain ⟨e1, e2, e3⟩ := wr_ask (ss := ss) (xs := xs) (h := h) (a := a) hlong hask
    rw [e1, e2, e3]
    clear e1 e2 e3 hask
    go_enter Tryd.func44, Tryd.ntmps44
    go_wp2_with fail
    refine (placeFault_any _ _ _ _ ss xs h a _ (unhide HL) (unhide HM) (unhide H1) (unhide H2)).mono ?_
    rintro e w1 ⟨rfl, hb1⟩
    have HR1 := hide ((unhide HR).below hb1)
    have HB1 := hide (fr (unhide HA) hb1)
    clear hb1
    obtain ⟨hr0, hr1⟩ := (unhide HR1).cells
    have hr2 := (unhide HR1).free 0
    have hr3 := (unhide HR1).free 1
    have HE := hide (zero_end (w := w) (wL := w1) (unhide HB1) (.slice none 0 0) (.slice none 0 0))
    go_wp2
    exact bodyPost_ret (v := .tuple #[.agg #[.slice none 0 0, .slice none 0 0], .int .i64 (askC ss xs h a)]) (by simp [results, Tryd.results44, go_sem, hr0, hr1]) rfl ⟨none, 0, none, 0, rfl, zeroD_own, unhide HE⟩

end Go.Proofs.YtefnapcegeojoaaDoor

namespace Go.Proofs.YtefnapcegeojoaaDoor
open Go.RowKit
set_option linter.unusedVariables false

end Go.Proofs.YtefnapcegeojoaaDoor

namespace Go.Proofs.YtefnapcegeojoaaDoor
open Go.RowKit
set_option linter.unusedVariables false
set_option maxRecDepth 100000

theorem keep_new {w w1 w2 : World} {b : Nat} {S : Nat → Prop} (h : Keep (fun k => k = b) w w1) (hk : Keep S w1 w2) (hs : ∀ k, S k → w.heap.size ≤ k ∨ k = b) : Keep (fun k => k = b) w w2 :=
  ⟨hk.os.trans h.os, hk.tape.trans h.tape, hk.output.trans h.output, Nat.le_trans h.size hk.size, fun k hl hn => (hk.block k (Nat.lt_of_lt_of_le hl h.size) (fun hS => by
    rcases hs k hS with h1 | h1
    · omega
    · exact hn h1)).trans (h.block k hl hn)⟩
theorem SrcK.other {w w1 w2 : World} {b : Nat} {ao : Option Addr} {n cap m m0 : Nat} {S : Nat → Prop} (h0 : SrcK w b ao n cap m0) (h : SrcK w1 b ao n cap m) (hw : Keep (fun k => k = b) w w2) (hk : Keep S w1 w2) (hs : ¬ S b) : SrcK w2 b ao n cap m := by
  obtain ⟨x0, y0, _, _, _, _, hblk0⟩ := h0.src
  obtain ⟨x, y, c0, c1, c2, c3, c4⟩ := h.src
  refine ⟨⟨x, y, c0, c1, c2, c3, ?_⟩, h0.bytes.keep hblk0 (fun z h => by cases h) hw⟩
  rw [hk.block b (Array.getElem?_eq_some_iff.1 c4).1 hs]; exact c4

theorem source_any (ao : Option Addr) (n cap : Nat) (w : World) (hn : n ≤ 1048576) (hB : Bs w ao n) :
    Calls Tryd.prog 15 #[.slice ao n cap] w fun e w' => e = .returned (.pointer (some ⟨w.heap.size, 0, none⟩)) ∧ SrcK w' w.heap.size ao n cap 0 ∧ Below w.heap.size w w' ∧ w'.heap.size = w.heap.size + 1 := by
  go_enter Tryd.func15, Tryd.ntmps15
  go_wp2
  go_ret
  exact ⟨rfl, ⟨⟨0, (n : Int) % 1000, by omega, by omega, by omega, by omega, heap_alloc_new w _⟩, hB.below (Joins.below_alloc1 _ _)⟩, Joins.below_alloc1 _ _, by simp⟩

theorem blk_keep {S : Nat → Prop} {w w' : World} {k : Nat} {o : Obj} (hk : Keep S w w') (hs : ¬ S k) (h : w.heap[k]? = some o) : w'.heap[k]? = some o := by
  rw [hk.block k (Array.getElem?_eq_some_iff.1 h).1 hs]; exact h
end Go.Proofs.YtefnapcegeojoaaDoor

namespace Go.Proofs.YtefnapcegeojoaaDoor
open Go.RowKit
set_option linter.unusedVariables false

end Go.Proofs.YtefnapcegeojoaaDoor

namespace Go.Proofs.YtefnapcegeojoaaDoor
open Go.RowKit
set_option linter.unusedVariables false

end Go.Proofs.YtefnapcegeojoaaDoor

namespace Go.Proofs.YtefnapcegeojoaaDoor
open Go.RowKit
set_option linter.unusedVariables false
set_option maxRecDepth 100000

theorem infoU : (Tryd.prog.info? 5).map (fun i => (i.zero, i.size, i.bytes)) = some (some (.int .u8 0), 1, 1) := by kernel_rfl
theorem keep_newT {w w1 w2 : World} {b : Nat} {S : Nat → Prop} (h : Keep (fun k => k = b) w w1) (hk : Keep S w1 w2) (hs : ∀ k, S k → w.heap.size ≤ k ∨ k = b) : Keep (fun k => k = b) w w2 :=
  ⟨hk.os.trans h.os, hk.tape.trans h.tape, hk.output.trans h.output, Nat.le_trans h.size hk.size, fun k hl hn => (hk.block k (Nat.lt_of_lt_of_le hl h.size) (fun hS => by
    rcases hs k hS with h1 | h1
    · omega
    · exact hn h1)).trans (h.block k hl hn)⟩
theorem SrcK.otherT {w w1 w2 : World} {b : Nat} {ao : Option Addr} {n cap m m0 : Nat} {S : Nat → Prop} (h0 : SrcK w b ao n cap m0) (h : SrcK w1 b ao n cap m) (hw : Keep (fun k => k = b) w w2) (hk : Keep S w1 w2) (hs : ¬ S b) : SrcK w2 b ao n cap m := by
  obtain ⟨x0, y0, _, _, _, _, hblk0⟩ := h0.src
  obtain ⟨x, y, c0, c1, c2, c3, c4⟩ := h.src
  refine ⟨⟨x, y, c0, c1, c2, c3, ?_⟩, h0.bytes.keep hblk0 (fun z h => by cases h) hw⟩
  rw [hk.block b (Array.getElem?_eq_some_iff.1 c4).1 hs]; exact c4

set_option maxHeartbeats 3200000 in
theorem some_k (b : Nat) (ao : Option Addr) (n cap m k : Nat) (w : World) (hk : k ≤ 100) (hm : m ≤ 700000) (hn : n ≤ 1048576) (hs : SrcK w b ao n cap m) :
    Calls Tryd.prog 56 #[.pointer (some ⟨b, 0, none⟩), .int .i64 k] w fun e w' => ∃ t : ByteArray, e = .returned (.string t) ∧ t.size = k ∧ SrcK w' b ao n cap (m + 3 * k) ∧ Keep (fun j => j = b) w w' := by
  have hbl := hs.lt
  have HS0 := hide hs
  clear hs
  obtain ⟨j0, hj, hy0, hy1, hy2⟩ := info_parts infoU
  have HSA := hide ((unhide HS0).below (Joins.below_alloc1 w (.cells #[] 5)))
  have HKA : Hid (Keep (fun j => j = b) w (w.alloc (.cells #[] 5))) := hide (Keep.of_below (Joins.below_alloc1 _ _))
  go_enter Tryd.func56, Tryd.ntmps56
  go_wp2
  go_loopw [5, 6] (fun o i wr => ∃ (j : Nat) (ns : List Int) (qo : Option Addr) (qa : Nat), j ≤ k ∧ ns.length = j ∧ i = .int .i64 j ∧ o = .slice qo j qa ∧ Hid (OwnR wr w.heap.size 5 1 (.slice qo j qa) j (byteV ns)) ∧ Hid (Keep (fun x => x = b) w wr) ∧ Hid (SrcK wr b ao n cap (m + 3 * j))) (fun _ i _ => k - (intOf i).toNat)
  case atStart => exact ⟨0, [], _, _, Nat.zero_le _, rfl, rfl, rfl, hide (.inl ⟨rfl, rfl, _, rfl⟩), HKA, HSA⟩
  case round =>
    obtain ⟨j, ns, qo, qa, hjk, hns, rfl, rfl, HO, HK, HS⟩ := hrel
    by_cases hlt : j < k
    · go_wp2_with fail
      refine (next_k b ao n cap _ 26 _ (by omega) (by omega) (by omega) hn (unhide HS)).mono ?_
      rintro e w2 ⟨r, rfl, hr0, hr1, hs2, hk2⟩
      have HO2 := hide ((unhide HO).keep hk2 (fun g hg e => by have := ((unhide HO).ge g hg).1; omega))
      have HK2 := hide ((unhide HK).trans hk2)
      have HS2 := hide hs2
      clear hs2 hk2
      have HOA := hide ((unhide HO2).below (Joins.below_alloc1 _ (.cells #[.int .u8 (97 + r)] 5)))
      have HKB := hide ((unhide HK2).trans (Keep.of_below (Joins.below_alloc1 _ (.cells #[.int .u8 (97 + r)] 5))))
      have HSB := hide ((unhide HS2).below (Joins.below_alloc1 _ (.cells #[.int .u8 (97 + r)] 5)))
      have HSZ := hide (unhide HK2).size
      go_wp2_with (at_builtin; refine wpList_append_one rfl _ _ 22 rfl w.heap.size 5 j0 (.int .u8 0) 1 1 Tryd.underlying22 hj hy0 hy1 hy2 rfl (by omega) qo j qa (byteV ns) rfl (unhide HOA) (by have := unhide HSZ; simp; omega) ⟨w2.heap.size, 0, none⟩ _ [.int .u8 (97 + r)] rfl rfl (byte_news w2 _ _) (byte_one _) (by unfold maxLen; omega) (by omega) ?_; intro g2 cap2 wA hoA hkA; have HSF := hide (And.intro hoA (keep_newT (unhide HKB) hkA (fun k hk => .inl ((unhide HOA).ge k hk).1))); have HSC := hide ((unhide HS0).otherT (unhide HSB) (unhide HSF).2 hkA (fun hk => by have := ((unhide HOA).ge _ hk).1; omega)); clear hoA hkA)
      go_roundw
      case rel => exact ⟨j + 1, ns ++ [97 + r], some ⟨g2, 0, none⟩, cap2, by omega, by simp [hns], by go_num, rfl, hide (.inr ⟨by omega, by rw [byteV_snoc]; exact (unhide HSF).1⟩), hide (unhide HSF).2, hide ((unhide HSC).more (by omega))⟩
      case measure => simp [intOf]; omega
    · have hcv := convert_own (P := Tryd.prog) Tryd.underlying22 Tryd.underlying5 Tryd.underlying9 (unhide HO)
      have HJK : Hid (j = k) := hide (by omega)
      have hlt' : ¬ (j : Int) < (k : Int) := by omega
      go_wp2
      go_ret
      exact ⟨strOfNums ns, rfl, by rw [strOfNums_size, hns]; exact unhide HJK, (unhide HS).more (by omega), unhide HK⟩

end Go.Proofs.YtefnapcegeojoaaDoor

namespace Go.Proofs.YtefnapcegeojoaaDoor
open Go.RowKit
set_option linter.unusedVariables false
set_option maxRecDepth 100000

end Go.Proofs.YtefnapcegeojoaaDoor

namespace Go.Proofs.YtefnapcegeojoaaDoor
open Go.RowKit
set_option linter.unusedVariables false
set_option maxRecDepth 100000

set_option maxHeartbeats 800000 in
theorem sameTexts_same (ao bo : Option Addr) (ca cb : Nat) (ss : List ByteArray) (w : World) (hl : ss.length ≤ maxLen) (hc : Ss w ao ss) (hd : Ss w bo ss) :
    Calls Tryd.prog 14 #[.slice ao ss.length ca, .slice bo ss.length cb] w fun e w' => e = .returned (.bool true) ∧ Below w.heap.size w w' := by
  have HC := hide hc
  have HD := hide hd
  clear hc hd
  unfold maxLen at hl
  have hb : ((ss.length : Int) != (ss.length : Int)) = false := by simp
  go_enter Tryd.func14, Tryd.ntmps14
  go_wp2
  go_loopw [5] (fun i wr => ∃ k : Nat, k ≤ ss.length ∧ i = .int .i64 k ∧ Hid (Below w.heap.size w wr)) (fun i _ => ss.length - (intOf i).toNat)
  case atStart => exact ⟨0, Nat.zero_le _, rfl, hide (Below.refl _ _)⟩
  case round =>
    obtain ⟨k, hk, rfl, HB⟩ := hrel
    by_cases hlt : k < ss.length
    · obtain ⟨b, off, rfl, hc, hz⟩ := (unhide HC).below (unhide HB) k hlt
      obtain ⟨b', off', rfl, hc', hz'⟩ := (unhide HD).below (unhide HB) k hlt
      clear hz hz'
      have be : (ss[k].toList == ss[k].toList) = true := by simp
      go_wp2
      go_quiet (fail)
      go_wp2
      go_roundw
      case rel => exact ⟨k + 1, by omega, by go_num, hide ((unhide HB).trans (Joins.below_draws _ _ _))⟩
      case measure => simp [intOf]; omega
    · go_wp2
      go_ret
      exact ⟨rfl, unhide HB⟩

end Go.Proofs.YtefnapcegeojoaaDoor

namespace Go.Proofs.YtefnapcegeojoaaDoor
open Go.RowKit
set_option linter.unusedVariables false

section
variable (ao bo : Option Addr) (ca cb : Nat) (ss : List ByteArray) (xs : List Wr) (w : World)
theorem len_in {ss : List ByteArray} {xs : List Wr} (hd : diskB ss xs = true) : ss.length ≤ maxLen ∧ xs.length ≤ maxLen := by
  have := diskB_len hd
  unfold maxLen
  omega
theorem lost {h : Int} {ss : List ByteArray} {xs : List Wr} {k : Nat} (hk : k ≤ 200) (hd : diskB ss xs = true) (ha : hostC ss xs h = 0) : loS ss xs h k = putW ss ((ofH h xs).take k) ∧ loX ss xs h k = dropF h xs ∧ loC ss xs h k = 0 ∧ diskB (putW ss ((ofH h xs).take k)) (dropF h xs) = true := by
  obtain ⟨e1, e2, e3⟩ := lo_ok (k := (k : Int)) ha (by simp [inB]; omega)
  obtain ⟨p1, p2⟩ := landF_gone h ss xs k
  exact ⟨e1.trans p1, e2.trans p2, e3, diskB_put hd (fun x hx => of_mem (List.mem_of_mem_take hx)) (fun x hx => drop_mem hx) (drop_le h xs)⟩
end

end Go.Proofs.YtefnapcegeojoaaDoor

namespace Go.Proofs.YtefnapcegeojoaaDoor
open Go.RowKit
set_option linter.unusedVariables false
set_option maxRecDepth 100000

theorem codes_right {ss : List ByteArray} {xs : List Wr} {h a : Int} (hd : diskB ss xs = true) (h0 : 0 ≤ h) (h3 : h ≤ 3) (a0 : 0 ≤ a) (a1 : a ≤ 63) : hostC ss xs h = 0 ∧ askC ss xs h a = 0 := by
  have e := hostC_ok hd (show inB h 0 3 = true by simp [inB]; omega)
  exact ⟨e, askC_ok e (by simp [inB]; omega)⟩
theorem right_sz {ss : List ByteArray} {xs : List Wr} (hd : diskB ss xs = true) : (ss.length ≤ maxLen ∧ xs.length ≤ maxLen) ∧ (∀ s ∈ ss, s.size ≤ maxLen) ∧ ∀ x ∈ xs, x.data.size ≤ maxLen := by
  have hl := diskB_len hd
  refine ⟨by unfold maxLen; omega, fun s hs => Nat.le_trans ((diskB_parts.1 hd).1.2 s hs) (by decide), fun x hx => Nat.le_trans (ioB_parts.1 ((diskB_parts.1 hd).2.2 x hx)).2.2 (by decide)⟩

theorem write_own (ao bo : Option Addr) (ca cb : Nat) (ss : List ByteArray) (xs : List Wr) (h a : Int) (t : ByteArray) (X : List Wr) (w : World) (hX : xs ++ [⟨h, a, t⟩] = X) (hd : diskB ss xs = true) (hl : xs.length < 200) (ht : t.size ≤ 80) (h0 : 0 ≤ h) (h3 : h ≤ 3) (a0 : 0 ≤ a) (a1 : a ≤ 63) (h1 : Ss w ao ss) (h2 : Ios w bo xs) :
    Calls Tryd.prog 44 #[.agg #[.slice ao ss.length ca, .slice bo xs.length cb], .int .i64 h, .int .i64 a, .string t] w fun e w' => ∃ po pa qo qa, e = .returned (.tuple #[.agg #[.slice po ss.length pa, .slice qo X.length qa], .int .i64 0]) ∧ OwnD w' w.heap.size po ss.length pa qo X.length qa ss X ∧ Below w.heap.size w w' := by
  subst hX
  obtain ⟨⟨l1, l2⟩, _⟩ := right_sz hd
  obtain ⟨_, ha⟩ := codes_right (h := h) (a := a) hd h0 h3 a0 a1
  obtain ⟨e1, e2, e3⟩ := wr_ok (ss := ss) (xs := xs) (h := h) (a := a) (d := t) (by omega) ha (by omega) (by omega)
  refine (writeSector_impl ao bo ca cb ss xs h a t w (by unfold maxLen; omega) l1 l2 h1 h2).mono ?_
  rintro e w' ⟨po, pa, qo, qa, he, ho, hb⟩
  rw [e1, e2] at ho
  rw [e1, e2, e3] at he
  exact ⟨po, pa, qo, qa, he, ho, hb⟩
theorem flush_put {h : Int} {ss : List ByteArray} {xs : List Wr} (hd : diskB ss xs = true) (ha : hostC ss xs h = 0) : flS ss xs h = putW ss (ofH h xs) ∧ flX ss xs h = dropF h xs := by
  obtain ⟨e1, e2⟩ := fl_ok ha
  have hc : (ofH h xs).length ≤ 200 := Nat.le_trans (List.length_filter_le _ _) (diskB_len hd).2
  obtain ⟨p1, p2⟩ := landF_put h ss xs 200
  have p1' : (landF h false ss xs 200).1 = putW ss ((ofH h xs).take 200) := p1
  have p2' : (landF h false ss xs 200).2.1 = remH h 200 xs := p2
  rw [List.take_of_length_le hc] at p1'
  rw [rem_all 200 xs hc] at p2'
  exact ⟨e1.trans p1', e2.trans p2'⟩
theorem flush_own (ao bo : Option Addr) (ca cb : Nat) (ss : List ByteArray) (xs : List Wr) (h : Int) (S : List ByteArray) (X : List Wr) (w : World) (hS : putW ss (ofH h xs) = S) (hX : dropF h xs = X) (hd : diskB ss xs = true) (h0 : 0 ≤ h) (h3 : h ≤ 3) (h1 : Ss w ao ss) (h2 : Ios w bo xs) :
    Calls Tryd.prog 43 #[.agg #[.slice ao ss.length ca, .slice bo xs.length cb], .int .i64 h] w fun e w' => ∃ po pa qo qa, e = .returned (.tuple #[.agg #[.slice po S.length pa, .slice qo X.length qa], .int .i64 0]) ∧ OwnD w' w.heap.size po S.length pa qo X.length qa S X ∧ Below w.heap.size w w' := by
  subst hS hX
  obtain ⟨⟨l1, l2⟩, _⟩ := right_sz hd
  obtain ⟨ha, _⟩ := codes_right (h := h) (a := 0) hd h0 h3 (by omega) (by omega)
  obtain ⟨e1, e2⟩ := flush_put hd ha
  refine (flush_impl ao bo ca cb ss xs h w l1 l2 h1 h2).mono ?_
  rintro e w' ⟨po, pa, qo, qa, he, ho, hb⟩
  rw [e1, e2] at ho
  rw [e1, e2, ha] at he
  exact ⟨po, pa, qo, qa, he, ho, hb⟩

end Go.Proofs.YtefnapcegeojoaaDoor

namespace Go.Proofs.YtefnapcegeojoaaDoor
open Go.RowKit
set_option linter.unusedVariables false
set_option maxRecDepth 100000

set_option maxHeartbeats 1600000 in
theorem l01Read_any (ao bo : Option Addr) (ca cb : Nat) (ss : List ByteArray) (xs : List Wr) (h : Int) (a : Nat) (w : World) (ha : a < ss.length) (hs : ss.length ≤ 1048576) (hm : xs.length ≤ maxLen) (h1 : Ss w ao ss) (h2 : Ios w bo xs) :
    Calls Tryd.prog 73 #[.agg #[.slice ao ss.length ca, .slice bo xs.length cb], .int .i64 h, .int .i64 a] w fun e w' => e = .returned (.string (readV ss xs h a)) ∧ Below w.heap.size w w' := by
  have HA := hide (Joins.below_alloc1 w (.cells #[.slice ao ss.length ca, .slice bo xs.length cb] 32))
  have H1 := hide (h1.below (unhide HA))
  have H2 := hide (h2.below (unhide HA))
  clear h1 h2
  unfold maxLen at hm
  go_enter Tryd.func73, Tryd.ntmps73
  go_wp2
  go_loop [7] (fun i => ∃ m : Int, i = .int .i64 m ∧ -1 ≤ m ∧ m < xs.length ∧ Hid (∀ j (hj : j < xs.length), m < j → ¬ mat xs[j] h a)) (fun i => (intOf i + 1).toNat)
  case atStart => exact ⟨_, rfl, by omega, by omega, hide (fun j hj hlt => by omega)⟩
  case round =>
    obtain ⟨m, rfl, hm0, hm1, HN⟩ := hrel
    by_cases hge : 0 ≤ m
    · obtain ⟨k, rfl⟩ := Int.eq_ofNat_of_zero_le hge
      have hk : k < xs.length := by omega
      obtain ⟨b, off, rfl, hc0, hc1, hc2, hz⟩ := unhide H2 k hk
      clear hz
      by_cases e0 : xs[k].host = h
      · have b0 : (xs[k].host == h) = true := by simp [e0]
        by_cases e1 : xs[k].at_ = a
        · have b1 : (xs[k].at_ == (a : Int)) = true := by simp [e1]
          have H := hide (readV_hit (ss := ss) hk ⟨e0, e1⟩ (fun j hj hlt => unhide HN j hj (by omega)))
          clear e0 e1
          go_wp2
          go_ret
          exact ⟨ret_rs (unhide H).symm, unhide HA⟩
        · have b1 : (xs[k].at_ == (a : Int)) = false := by simp [e1]
          have HX := hide (no_succ hk (unhide HN) (fun hx => e1 hx.2))
          clear e0 e1
          go_wp2
          go_round
          case rel => exact ⟨_, rfl, by omega, by omega, HX⟩
          case measure => simp [intOf]
      · have b0 : (xs[k].host == h) = false := by simp [e0]
        have HX := hide (no_succ hk (unhide HN) (fun hx => e0 hx.1))
        clear e0
        go_wp2
        go_round
        case rel => exact ⟨_, rfl, by omega, by omega, HX⟩
        case measure => simp [intOf]
    · obtain ⟨b, off, rfl, hc, hz⟩ := unhide H1 a ha
      clear hz
      have hg : ss.getD ((a : Int).toNat) ⟨#[]⟩ = ss[a] := by simp [List.getD, ha]
      have H := hide ((readV_none (ss := ss) (fun j hj => unhide HN j hj (by omega))).trans hg)
      clear hg
      go_wp2
      go_ret
      exact ⟨ret_rs (unhide H).symm, unhide HA⟩

end Go.Proofs.YtefnapcegeojoaaDoor

namespace Go.Proofs.YtefnapcegeojoaaDoor
open Go.RowKit
set_option linter.unusedVariables false
set_option maxRecDepth 100000

theorem l04Host_any (h : Int) (w : World) : Calls Tryd.prog 52 #[.int .i64 h] w fun e w' => e = .returned (.bool (inB h 0 3)) ∧ w' = w := by
  go_enter Tryd.func52, Tryd.ntmps52
  go_wp2_with fail
  refine (l01In_num h 0 3 _).mono ?_
  rintro e w1 ⟨rfl, rfl⟩
  go_wp2
  go_ret
  exact ⟨rfl, rfl⟩

end Go.Proofs.YtefnapcegeojoaaDoor

namespace Go.Proofs.YtefnapcegeojoaaDoor
open Go.RowKit
set_option linter.unusedVariables false
set_option maxRecDepth 100000

end Go.Proofs.YtefnapcegeojoaaDoor

namespace Go.Proofs.YtefnapcegeojoaaDoor
open Go.RowKit
set_option linter.unusedVariables false
set_option maxRecDepth 100000

abbrev wV (x : Wr) : Value := .agg #[.int .i64 x.host, .int .i64 x.at_, .string x.data]
end Go.Proofs.YtefnapcegeojoaaDoor

namespace Go.Proofs.YtefnapcegeojoaaDoor
open Go.RowKit
set_option linter.unusedVariables false
set_option maxRecDepth 100000

theorem md_end {w W : World} {R n m pa qa : Nat} {po qo : Option Addr} {SS : List ByteArray} {XX : List Wr} (hR : VarD W R (.slice none 0 0) (.slice none 0 0)) (hb : Below w.heap.size w W) (hr : w.heap.size ≤ R) (ho : OwnD W w.heap.size po n pa qo m qa SS XX) (u v : Value) :
    OwnD ((W.setCell ⟨R, 0, none⟩ u).setCell ⟨R, 1, none⟩ v) w.heap.size po n pa qo m qa SS XX ∧ Below w.heap.size w ((W.setCell ⟨R, 0, none⟩ u).setCell ⟨R, 1, none⟩ v) :=
  ⟨ho.keep (((Keep.refl (fun j => j = R) W).setCell (p := ⟨R, 0, none⟩) rfl u).setCell (p := ⟨R, 1, none⟩) rfl v) (fun g hg e => ho.other hR (by decide) (by decide) (e ▸ hg)), below2 hb hr 0 1 u v⟩

end Go.Proofs.YtefnapcegeojoaaDoor

namespace Go.Proofs.YtefnapcegeojoaaDoor
open Go.RowKit
set_option linter.unusedVariables false
set_option maxRecDepth 100000

set_option maxHeartbeats 1600000 in
theorem moveOK_any (m : Wr) (w : World) (hz : m.data.size ≤ maxLen) : Calls Tryd.prog 40 #[wV m] w fun e w' => e = .returned (.bool (mvB m)) ∧ Below w.heap.size w w' := by
  unfold maxLen at hz
  obtain ⟨k, a, d⟩ := m
  by_cases h1 : k = 1
  · subst h1
    have HE : Hid (mvB ⟨1, a, d⟩ = (inB a 0 63 && decide ((d.size : Int) ≤ 80))) := hide (by
      have e : decide (d.size ≤ 80) = decide ((d.size : Int) ≤ 80) := by rw [decide_eq_decide]; omega
      simp only [mvB, if_true]; rw [e])
    go_enter Tryd.func40, Tryd.ntmps40
    go_wp2_with fail
    refine (placeOK_any a _).mono ?_
    rintro e w1 ⟨rfl, rfl⟩
    by_cases h2 : inB a 0 63 = false
    · go_wp2
      go_ret
      rw [unhide HE, h2]
      exact ⟨rfl, Joins.below_alloc1 _ _⟩
    rw [Bool.not_eq_false] at h2
    go_wp2
    go_ret
    rw [unhide HE, h2]
    exact ⟨rfl, Joins.below_alloc1 _ _⟩
  · have h1b : (k == 1) = false := by simp [h1]
    by_cases h2 : k = 2
    · subst h2
      have HE : Hid (mvB ⟨2, a, d⟩ = (decide (a = 0) && decide (d.size = 0))) := hide (by simp [mvB])
      by_cases h3 : a = 0
      · subst h3
        by_cases h4 : d.size = 0
        · obtain rfl := bytes0 h4
          clear h4
          go_enter Tryd.func40, Tryd.ntmps40
          go_wp2
          go_ret
          rw [unhide HE]
          exact ⟨rfl, Joins.below_alloc1 _ _⟩
        · have h4b := text_full h4
          have HE2 : Hid (mvB ⟨2, 0, d⟩ = false) := hide (by rw [unhide HE, decide_eq_false h4]; simp)
          clear h4 HE
          go_enter Tryd.func40, Tryd.ntmps40
          go_wp2
          go_ret
          rw [unhide HE2]
          exact ⟨rfl, Joins.below_alloc1 _ _⟩
      · have h3b : (a == 0) = false := by simp [h3]
        have HE2 : Hid (mvB ⟨2, a, d⟩ = false) := hide (by rw [unhide HE, decide_eq_false h3]; simp)
        clear h3
        go_enter Tryd.func40, Tryd.ntmps40
        go_wp2
        all_goals
          go_ret
          rw [unhide HE2]
          exact ⟨rfl, Joins.below_alloc1 _ _⟩
    · have h2b : (k == 2) = false := by simp [h2]
      have HE : Hid (mvB ⟨k, a, d⟩ = false) := hide (by simp [mvB, h1, h2])
      clear h1 h2
      go_enter Tryd.func40, Tryd.ntmps40
      go_wp2
      all_goals
        go_ret
        rw [unhide HE]
        exact ⟨rfl, Joins.below_alloc1 _ _⟩

set_option maxHeartbeats 1600000 in
theorem movesOK_any (mo : Option Addr) (mc : Nat) (ms : List Wr) (w : World) (hn : ms.length ≤ 4096) (h3 : Ios w mo ms) : Calls Tryd.prog 21 #[.slice mo ms.length mc] w fun e w' => e = .returned (.bool (msB ms)) ∧ Below w.heap.size w w' := by
  have HM := hide h3
  clear h3
  go_enter Tryd.func21, Tryd.ntmps21
  go_wp2
  go_loopw [7] (fun i wr => ∃ (k : Nat), k ≤ ms.length ∧ i = .int .i64 k ∧ Hid (∀ j (h : j < ms.length), j < k → mvB ms[j] = true) ∧ Hid (Below w.heap.size w wr)) (fun i _ => ms.length - (intOf i).toNat)
  case atStart => exact ⟨0, Nat.zero_le _, rfl, hide (fun j h hj => by omega), hide (Below.refl _ _)⟩
  case round =>
    obtain ⟨k, hk, rfl, HP, HB⟩ := hrel
    by_cases hlt : k < ms.length
    · obtain ⟨b, off, rfl, hc0, hc1, hc2, hcz⟩ := (unhide HM).below (unhide HB) k hlt
      have HZk := hide hcz
      clear hcz
      go_wp2_with fail
      refine (moveOK_any ms[k] _ (unhide HZk)).mono ?_
      rintro e w2 ⟨rfl, hb⟩
      have HB2 := hide (fr (belowAl (unhide HB) _) hb)
      clear hb
      by_cases hp : mvB ms[k] = true
      · have HPP := hide (all_succ hlt (unhide HP) hp)
        go_wp2
        go_roundw
        case rel => exact ⟨k + 1, by omega, by go_num, HPP, HB2⟩
        case measure => simp [intOf]; omega
      · rw [Bool.not_eq_true] at hp
        have HF : Hid (msB ms = false) := hide (all_not hlt hp)
        go_wp2
        go_ret
        exact ⟨ret_bool (unhide HF).symm, unhide HB2⟩
    · have HF : Hid (msB ms = true) := hide (all_of (fun i hi _ => unhide HP i hi (by omega)))
      go_wp2
      go_ret
      exact ⟨ret_bool (unhide HF).symm, unhide HB⟩

set_option maxHeartbeats 3200000 in
theorem doneBy_any (m : Wr) (ao bo : Option Addr) (ca cb : Nat) (ss : List ByteArray) (xs : List Wr) (h : Int) (S : List ByteArray) (X : List Wr) (w : World) (hSX : dm1 h (ss, xs) m = (S, X)) (hh : 0 ≤ h ∧ h ≤ 3) (hd : diskB ss xs = true) (hl : xs.length < 200) (hm : mvB m = true) (h1 : Ss w ao ss) (h2 : Ios w bo xs) :
    Calls Tryd.prog 23 #[wV m, .agg #[.slice ao ss.length ca, .slice bo xs.length cb], .int .i64 h] w fun e w' => ∃ po pa qo qa, e = .returned (.agg #[.slice po S.length pa, .slice qo X.length qa]) ∧ OwnD w' w.heap.size po S.length pa qo X.length qa S X ∧ Below w.heap.size w w' := by
  obtain ⟨hh0, hh3⟩ := hh
  have HA := hide (Joins.below_alloc3 w (.cells #[.int .i64 m.host, .int .i64 m.at_, .string m.data] 57) (.cells #[.slice ao ss.length ca, .slice bo xs.length cb] 32) (.cells #[.slice none 0 0, .slice none 0 0] 32))
  have HV : Hid (VarD (((w.alloc (.cells #[.int .i64 m.host, .int .i64 m.at_, .string m.data] 57)).alloc (.cells #[.slice ao ss.length ca, .slice bo xs.length cb] 32)).alloc (.cells #[.slice none 0 0, .slice none 0 0] 32)) (w.heap.size + 1) (.slice ao ss.length ca) (.slice bo xs.length cb)) := hide (VarD.below (by have := VarD.new (w.alloc (.cells #[.int .i64 m.host, .int .i64 m.at_, .string m.data] 57)) (.slice ao ss.length ca) (.slice bo xs.length cb); simp only [World.size_alloc] at this; exact this) (Joins.below_alloc1 _ _))
  have HR : Hid (VarD (((w.alloc (.cells #[.int .i64 m.host, .int .i64 m.at_, .string m.data] 57)).alloc (.cells #[.slice ao ss.length ca, .slice bo xs.length cb] 32)).alloc (.cells #[.slice none 0 0, .slice none 0 0] 32)) (w.heap.size + 1 + 1) (.slice none 0 0) (.slice none 0 0)) := hide (by have := VarD.new ((w.alloc (.cells #[.int .i64 m.host, .int .i64 m.at_, .string m.data] 57)).alloc (.cells #[.slice ao ss.length ca, .slice bo xs.length cb] 32)) (.slice none 0 0) (.slice none 0 0); simp only [World.size_alloc] at this; exact this)
  have H1 := hide (h1.below (unhide HA))
  have H2 := hide (h2.below (unhide HA))
  have HD := hide hd
  have HMB := hide hm
  have HEND : Hid (∀ W po pa qo qa, OwnD W w.heap.size po S.length pa qo X.length qa S X → Below w.heap.size w W → VarD W (w.heap.size + 1) (.slice ao ss.length ca) (.slice bo xs.length cb) → VarD W (w.heap.size + 1 + 1) (.slice none 0 0) (.slice none 0 0) → ∀ a b c d, OwnD ((((W.setCell ⟨w.heap.size + 1, 0, none⟩ a).setCell ⟨w.heap.size + 1, 1, none⟩ b).setCell ⟨w.heap.size + 1 + 1, 0, none⟩ c).setCell ⟨w.heap.size + 1 + 1, 1, none⟩ d) w.heap.size po S.length pa qo X.length qa S X ∧ Below w.heap.size w ((((W.setCell ⟨w.heap.size + 1, 0, none⟩ a).setCell ⟨w.heap.size + 1, 1, none⟩ b).setCell ⟨w.heap.size + 1 + 1, 0, none⟩ c).setCell ⟨w.heap.size + 1 + 1, 1, none⟩ d)) := hide (fun W po pa qo qa ho hb hv hr a b c d =>
    ⟨ho.keep (((((Keep.refl (fun j => j = w.heap.size + 1 ∨ j = w.heap.size + 1 + 1) W).setCell (p := ⟨w.heap.size + 1, 0, none⟩) (.inl rfl) a).setCell (p := ⟨w.heap.size + 1, 1, none⟩) (.inl rfl) b).setCell (p := ⟨w.heap.size + 1 + 1, 0, none⟩) (.inr rfl) c).setCell (p := ⟨w.heap.size + 1 + 1, 1, none⟩) (.inr rfl) d) (fun g hg e => by
        rcases e with e | e
        · exact ho.other hv (by decide) (by decide) (e ▸ hg)
        · exact ho.other hr (by decide) (by decide) (e ▸ hg)),
      below2 (g := w.heap.size + 1 + 1) (below2 (g := w.heap.size + 1) hb (by omega) 0 1 a b) (by omega) 0 1 c d⟩)
  clear h1 h2 hd hm
  by_cases hf : m.host = 2
  · have hfb : (m.host == 2) = true := by simp [hf]
    have hst := dm1_flush (h := h) (S := ss) (X := xs) hf
    rw [hSX] at hst
    obtain ⟨eS, eX⟩ : putW ss (ofH h xs) = S ∧ dropF h xs = X := by cases hst; exact ⟨rfl, rfl⟩
    have HS := hide eS
    have HX := hide eX
    clear hst hSX hf eS eX
    go_enter Tryd.func23, Tryd.ntmps23
    go_wp2_with fail
    refine (flush_own ao bo ca cb ss xs h S X _ (unhide HS) (unhide HX) (unhide HD) hh0 hh3 (unhide H1) (unhide H2)).mono ?_
    rintro e w2 ⟨po, pa, qo, qa, rfl, ho, hb⟩
    have HB := hide (fr (unhide HA) hb)
    have HO := hide (ho.base (unhide HA).size)
    have HV2 := hide ((unhide HV).below hb)
    have HR2 := hide ((unhide HR).below hb)
    clear ho hb
    obtain ⟨v0, v1⟩ := (unhide HV2).cells
    have vf0 := (unhide HV2).free 0
    have vf1 := (unhide HV2).free 1
    obtain ⟨r0, r1⟩ := (unhide HR2).cells
    have rf0 := (unhide HR2).free 0
    have rf1 := (unhide HR2).free 1
    have HF := hide (unhide HEND w2 po pa qo qa (unhide HO) (unhide HB) (unhide HV2) (unhide HR2))
    go_wp2
    exact bodyPost_ret (v := .agg #[.slice po S.length pa, .slice qo X.length qa]) (by simp [results, Tryd.results23, go_sem, r0, r1]) rfl ⟨po, pa, qo, qa, rfl, unhide HF _ _ _ _⟩
  · have hfb : (m.host == 2) = false := by simp [hf]
    have hst := dm1_write (h := h) (S := ss) (X := xs) hf
    rw [hSX] at hst
    obtain ⟨eS, eX⟩ : ss = S ∧ xs ++ [(⟨h, m.at_, m.data⟩ : Wr)] = X := by cases hst; exact ⟨rfl, rfl⟩
    obtain ⟨p1, p2⟩ := mvB_write (unhide HMB) hf
    have HX := hide eX
    subst eS
    clear hst hSX hf eX
    go_enter Tryd.func23, Tryd.ntmps23
    go_wp2_with fail
    refine (write_own ao bo ca cb ss xs h m.at_ m.data X _ (unhide HX) (unhide HD) hl p2 hh0 hh3 p1.1 p1.2 (unhide H1) (unhide H2)).mono ?_
    rintro e w2 ⟨po, pa, qo, qa, rfl, ho, hb⟩
    have HB := hide (fr (unhide HA) hb)
    have HO := hide (ho.base (unhide HA).size)
    have HV2 := hide ((unhide HV).below hb)
    have HR2 := hide ((unhide HR).below hb)
    clear ho hb
    obtain ⟨v0, v1⟩ := (unhide HV2).cells
    have vf0 := (unhide HV2).free 0
    have vf1 := (unhide HV2).free 1
    obtain ⟨r0, r1⟩ := (unhide HR2).cells
    have rf0 := (unhide HR2).free 0
    have rf1 := (unhide HR2).free 1
    have HF := hide (unhide HEND w2 po pa qo qa (unhide HO) (unhide HB) (unhide HV2) (unhide HR2))
    go_wp2
    exact bodyPost_ret (v := .agg #[.slice po ss.length pa, .slice qo X.length qa]) (by simp [results, Tryd.results23, go_sem, r0, r1]) rfl ⟨po, pa, qo, qa, rfl, unhide HF _ _ _ _⟩

end Go.Proofs.YtefnapcegeojoaaDoor

namespace Go.Proofs.YtefnapcegeojoaaDoor
open Go.RowKit
set_option linter.unusedVariables false
set_option maxRecDepth 100000

theorem own_beside {W : World} {B n pa m qa x : Nat} {po qo : Option Addr} {SS : List ByteArray} {XX : List Wr} {a b : Value} (ho : OwnD W B po n pa qo m qa SS XX) (hv : VarD W x a b) (u v : Value) : OwnD ((W.setCell ⟨x, 0, none⟩ u).setCell ⟨x, 1, none⟩ v) B po n pa qo m qa SS XX :=
  ho.keep (((Keep.refl (fun j => j = x) W).setCell (p := ⟨x, 0, none⟩) rfl u).setCell (p := ⟨x, 1, none⟩) rfl v) (fun g hg e => ho.other hv (by decide) (by decide) (e ▸ hg))

set_option maxHeartbeats 3200000 in
theorem movesDo_impl (ao bo : Option Addr) (ca cb : Nat) (ss : List ByteArray) (xs : List Wr) (h : Int) (mo : Option Addr) (mc : Nat) (ms : List Wr) (w : World) (hl : ss.length ≤ 1048576) (hm : xs.length ≤ 1048576) (hn : ms.length ≤ 1048576) (h1 : Ss w ao ss) (h2 : Ios w bo xs) (h3 : Ios w mo ms) :
    Calls Tryd.prog 8 #[.agg #[.slice ao ss.length ca, .slice bo xs.length cb], .int .i64 h, .slice mo ms.length mc] w fun e w' => ∃ po pa qo qa, e = .returned (.tuple #[.agg #[.slice po (mdS ss xs h ms).length pa, .slice qo (mdX ss xs h ms).length qa], .int .i64 (mdC ss xs h ms)]) ∧ OwnD w' w.heap.size po (mdS ss xs h ms).length pa qo (mdX ss xs h ms).length qa (mdS ss xs h ms) (mdX ss xs h ms) ∧ Below w.heap.size w w' := by
  have HA := hide (Joins.below_alloc2 w (.cells #[.slice ao ss.length ca, .slice bo xs.length cb] 32) (.cells #[.slice none 0 0, .slice none 0 0] 32))
  have HR : Hid (VarD ((w.alloc (.cells #[.slice ao ss.length ca, .slice bo xs.length cb] 32)).alloc (.cells #[.slice none 0 0, .slice none 0 0] 32)) (w.heap.size + 1) (.slice none 0 0) (.slice none 0 0)) := hide (by have := VarD.new (w.alloc (.cells #[.slice ao ss.length ca, .slice bo xs.length cb] 32)) (.slice none 0 0) (.slice none 0 0); simp only [World.size_alloc] at this; exact this)
  have HV := hide ((VarD.new w (.slice ao ss.length ca) (.slice bo xs.length cb)).below (Joins.below_alloc1 _ (.cells #[.slice none 0 0, .slice none 0 0] 32)))
  have H1 := hide (h1.below (unhide HA))
  have H2 := hide (h2.below (unhide HA))
  have HM := hide h3
  have HL : Hid (ss.length ≤ maxLen) := hide (by unfold maxLen; omega)
  have HX : Hid (xs.length ≤ maxLen) := hide (by unfold maxLen; omega)
  have HZ : Hid (∀ c, (mdC ss xs h ms = c ∧ mdS ss xs h ms = [] ∧ mdX ss xs h ms = []) → ∀ W, VarD W (w.heap.size + 1) (.slice none 0 0) (.slice none 0 0) → Below w.heap.size w W → ∀ u v, ∃ po pa qo qa, Ending.returned (.tuple #[.agg #[.slice none 0 0, .slice none 0 0], .int .i64 c]) = .returned (.tuple #[.agg #[.slice po (mdS ss xs h ms).length pa, .slice qo (mdX ss xs h ms).length qa], .int .i64 (mdC ss xs h ms)]) ∧ OwnD ((W.setCell ⟨w.heap.size + 1, 0, none⟩ u).setCell ⟨w.heap.size + 1, 1, none⟩ v) w.heap.size po (mdS ss xs h ms).length pa qo (mdX ss xs h ms).length qa (mdS ss xs h ms) (mdX ss xs h ms) ∧ Below w.heap.size w ((W.setCell ⟨w.heap.size + 1, 0, none⟩ u).setCell ⟨w.heap.size + 1, 1, none⟩ v)) := hide (fun c ⟨e1, e2, e3⟩ W hR hb u v => by
    rw [e1, e2, e3]
    obtain ⟨o1, o2⟩ := md_end hR hb (Nat.le_succ _) (zeroD_own (w := W) (B := w.heap.size)) u v
    exact ⟨none, 0, none, 0, rfl, o1, o2⟩)
  clear h1 h2 h3
  obtain ⟨r0, r1⟩ := (unhide HR).cells
  have rf0 := (unhide HR).free 0
  have rf1 := (unhide HR).free 1
  by_cases hlong : 4096 < ms.length
  · have HE := hide (md_long (ss := ss) (xs := xs) (h := h) hlong)
    go_enter Tryd.func8, Tryd.ntmps8
    go_wp2
    refine bodyPost_ret (v := .tuple #[.agg #[.slice none 0 0, .slice none 0 0], .int .i64 2]) (by simp [results, Tryd.results8, go_sem, r0, r1]) rfl ?_
    first
      | exact unhide HZ 2 (unhide HE) _ (unhide HR) (unhide HA) _ _
      | (rw [(unhide HE).1, (unhide HE).2.1, (unhide HE).2.2]; exact ⟨none, 0, none, 0, rfl, zeroD_own, unhide HA⟩)
  clear r0 r1 rf0 rf1
  go_enter Tryd.func8, Tryd.ntmps8
  go_wp2_with fail
  refine (hostFault_any ao bo ca cb ss xs h _ (unhide HL) (unhide HX) (unhide H1) (unhide H2)).mono ?_
  rintro e W1 ⟨rfl, hb⟩
  have HB1 := hide (fr (unhide HA) hb)
  have HR1 := hide ((unhide HR).below hb)
  have HV1 := hide ((unhide HV).below hb)
  have H11 := hide ((unhide H1).below hb)
  have H21 := hide ((unhide H2).below hb)
  clear hb HR HV H1 H2
  by_cases e0 : hostC ss xs h = 0
  case neg =>
    have e0b : (hostC ss xs h != 0) = true := by simp [e0]
    have HE := hide (md_host (ms := ms) hlong e0)
    obtain ⟨r0, r1⟩ := (unhide HR1).cells
    have rf0 := (unhide HR1).free 0
    have rf1 := (unhide HR1).free 1
    clear e0
    go_wp2
    refine bodyPost_ret (v := .tuple #[.agg #[.slice none 0 0, .slice none 0 0], .int .i64 (hostC ss xs h)]) (by simp [results, Tryd.results8, go_sem, r0, r1]) rfl ?_
    exact unhide HZ _ (unhide HE) _ (unhide HR1) (unhide HB1) _ _
  have e0b : (hostC ss xs h != 0) = false := by simp [e0]
  obtain ⟨hd, hh0, hh3⟩ := hostC_eq e0
  obtain ⟨hd1, hd2⟩ := diskB_len hd
  have HD := hide hd
  have HE0 := hide e0
  clear hd hd1 e0
  have hms : ms.length ≤ 4096 := by omega
  go_wp2_with fail
  refine (movesOK_any mo mc ms _ hms ((unhide HM).below (unhide HB1))).mono ?_
  rintro e W2 ⟨rfl, hb⟩
  have HB2 := hide (fr (unhide HB1) hb)
  have HR2 := hide ((unhide HR1).below hb)
  have HV2 := hide ((unhide HV1).below hb)
  have H12 := hide ((unhide H11).below hb)
  have H22 := hide ((unhide H21).below hb)
  clear hb HR1 HV1 H11 H21
  by_cases hmb : msB ms = true
  case neg =>
    rw [Bool.not_eq_true] at hmb
    have HE := hide (md_bad (ss := ss) (xs := xs) hlong (unhide HE0) hmb)
    obtain ⟨r0, r1⟩ := (unhide HR2).cells
    have rf0 := (unhide HR2).free 0
    have rf1 := (unhide HR2).free 1
    rw [hmb]
    go_wp2
    refine bodyPost_ret (v := .tuple #[.agg #[.slice none 0 0, .slice none 0 0], .int .i64 1]) (by simp [results, Tryd.results8, go_sem, r0, r1]) rfl ?_
    exact unhide HZ _ (unhide HE) _ (unhide HR2) (unhide HB2) _ _
  have HMB := hide hmb
  rw [hmb]
  clear hmb
  obtain ⟨d0, d1⟩ := (unhide HV2).cells
  go_wp2_with fail
  refine (copyDisk_any ao bo ca cb ss xs _ hl hm (unhide H12) (unhide H22)).mono ?_
  rintro e W3 ⟨po, pa, qo, qa, rfl, ho, hb⟩
  have HA3 := hide (Joins.below_alloc1 W3 (.cells #[.slice po ss.length pa, .slice qo xs.length qa] 32))
  have HB3 := hide (fr (fr (unhide HB2) hb) (unhide HA3))
  have HO3 := hide ((ho.base (unhide HB2).size).below (unhide HA3))
  have HO4 := hide (VarD.new W3 (.slice po ss.length pa) (.slice qo xs.length qa))
  have HR3 := hide (((unhide HR2).below hb).below (unhide HA3))
  have HV3 := hide (((unhide HV2).below hb).below (unhide HA3))
  have hltV : w.heap.size < W3.heap.size := ((unhide HV2).below hb).lt
  have hltR : w.heap.size + 1 < W3.heap.size := ((unhide HR2).below hb).lt
  have hxv := ((unhide HV2).below hb).cells
  have HXV := hide hxv
  clear ho hb d0 d1 HR2 HV2 H12 H22 hxv
  have wr1 : IntKind.i64.wrap ((xs.length : Int) + (ms.length : Int)) = (xs.length : Int) + (ms.length : Int) := by rw [IntKind.wrap_i64]; omega
  obtain ⟨d0, d1⟩ := unhide HXV
  by_cases hfull : 200 < xs.length + ms.length
  · have HE := hide (md_full hlong (unhide HE0) (unhide HMB) hfull)
    have hfi : (xs.length : Int) + (ms.length : Int) > 200 := by omega
    have HO := hide (fun u v => md_end (unhide HR3) (unhide HB3) (Nat.le_succ _) (unhide HO3) u v)
    go_upto_region 10 with fail
    revert HR3 HO4 HV3 HO HO3 HB3
    generalize (W3.alloc (.cells #[.slice po ss.length pa, .slice qo xs.length qa] 32)) = W4
    intro HB3 HO3 HO4 HR3 HV3 HO
    obtain ⟨r0, r1⟩ := (unhide HR3).cells
    have rf0 := (unhide HR3).free 0
    have rf1 := (unhide HR3).free 1
    obtain ⟨q0, q1⟩ := (unhide HO4).cells
    go_wp2
    refine bodyPost_ret (v := .tuple #[.agg #[.slice po ss.length pa, .slice qo xs.length qa], .int .i64 7]) (by simp [results, Tryd.results8, go_sem, r0, r1]) rfl ?_
    rw [(unhide HE).1, (unhide HE).2.1, (unhide HE).2.2]
    exact ⟨po, pa, qo, qa, rfl, unhide HO _ _⟩
  have HE := hide (md_ok hlong (unhide HE0) (unhide HMB) hfull)
  have hfi : ¬ ((xs.length : Int) + (ms.length : Int) > 200) := by omega
  have HRT := hide (dmL_right (ms := ms) ⟨hh0, hh3⟩ (unhide HD) (unhide HMB) (by omega))
  have hOv : w.heap.size ≤ W3.heap.size := by omega
  go_wp2
  revert HR3 HO4 HV3 HO3 HB3
  generalize (W3.alloc (.cells #[.slice po ss.length pa, .slice qo xs.length qa] 32)) = W4
  intro HB3 HO3 HO4 HR3 HV3
  have hRO : w.heap.size + 1 ≠ W3.heap.size := by omega
  generalize W3.heap.size = V at *
  go_loopw [39] (fun i wr => ∃ (k : Nat) (SS : List ByteArray) (XX : List Wr) (po : Option Addr) (pa : Nat) (qo : Option Addr) (qa : Nat), k ≤ ms.length ∧ i = .int .i64 k ∧ Hid (dmL h ss xs (ms.take k) = (SS, XX)) ∧ Hid (VarD wr V (.slice po SS.length pa) (.slice qo XX.length qa)) ∧ Hid (OwnD wr w.heap.size po SS.length pa qo XX.length qa SS XX) ∧ Hid (VarD wr (w.heap.size + 1) (.slice none 0 0) (.slice none 0 0)) ∧ Hid (Below w.heap.size w wr)) (fun i _ => ms.length - (intOf i).toNat)
  case atStart => exact ⟨0, ss, xs, po, pa, qo, qa, Nat.zero_le _, rfl, hide rfl, HO4, HO3, HR3, HB3⟩
  case round =>
    obtain ⟨k, SS, XX, po, pa, qo, qa, hk, rfl, HEk, HVk, HOk, HRk, HBk⟩ := hrel
    have hr := unhide HRT k hk
    rw [unhide HEk] at hr
    obtain ⟨hr1, hr2⟩ := hr
    have HDB := hide hr1
    simp only at hr2
    by_cases hlt : k < ms.length
    · obtain ⟨b, off, rfl, hc0, hc1, hc2, hcz⟩ := (unhide HM).below (unhide HBk) k hlt
      have hXl : XX.length < 200 := by omega
      have HMk := hide (msB_at (unhide HMB) hlt)
      obtain ⟨S2, X2, HN⟩ : ∃ S2 X2, Hid (dm1 h (SS, XX) ms[k] = (S2, X2)) := ⟨_, _, hide rfl⟩
      have HNN : Hid (dmL h ss xs (ms.take (k + 1)) = (S2, X2)) := hide (by rw [dmL_succ hlt, unhide HEk]; exact unhide HN)
      have hbl := World.block_lt_of_cell? _ _ hc0
      have HAl := hide (Joins.below_alloc1 wr (.cells #[.int .i64 ms[k].host, .int .i64 ms[k].at_, .string ms[k].data] 57))
      have HVa := hide ((unhide HVk).below (unhide HAl))
      have HOa := hide ((unhide HOk).below (unhide HAl))
      have HRZ := hide (right_sz2 (unhide HDB))
      obtain ⟨q0, q1⟩ := (unhide HVk).cells
      have hVl := (unhide HVk).lt
      clear hr1 hr2 hcz
      go_wp2_with fail
      refine (doneBy_any ms[k] po qo pa qa SS XX h S2 X2 _ (unhide HN) ⟨hh0, hh3⟩ (unhide HDB) hXl (unhide HMk) ((unhide HOa).ss (unhide HRZ).1) ((unhide HOa).ios (unhide HRZ).2)).mono ?_
      rintro e w2 ⟨po2, pa2, qo2, qa2, rfl, ho, hb⟩
      have HB2x := hide (fr (fr (unhide HBk) (unhide HAl)) hb)
      have HV2x := hide ((unhide HVa).below hb)
      have HR2x := hide (((unhide HRk).below (unhide HAl)).below hb)
      have HO2x := hide (ho.base (Nat.le_trans (unhide HBk).size (unhide HAl).size))
      obtain ⟨t0, t1⟩ := (unhide HV2x).cells
      have tf0 := (unhide HV2x).free 0
      have tf1 := (unhide HV2x).free 1
      have HVn := hide ((unhide HV2x).put (.slice po2 S2.length pa2) (.slice qo2 X2.length qa2))
      have HOn := hide (own_beside (unhide HO2x) (unhide HV2x) (.slice po2 S2.length pa2) (.slice qo2 X2.length qa2))
      have HRn := hide (((unhide HR2x).apart (y := V) hRO 0 (.slice po2 S2.length pa2)).apart (y := V) hRO 1 (.slice qo2 X2.length qa2))
      have HBn := hide (below2 (g := V) (unhide HB2x) hOv 0 1 (.slice po2 S2.length pa2) (.slice qo2 X2.length qa2))
      clear ho hb q0 q1
      go_wp2
      go_roundw
      case rel => exact ⟨k + 1, S2, X2, po2, pa2, qo2, qa2, by omega, by go_num, HNN, HVn, HOn, HRn, HBn⟩
      case measure => simp [intOf]; omega
    · have hke : k = ms.length := by omega
      have HEE : Hid (dmL h ss xs ms = (SS, XX)) := hide (by have := unhide HEk; rwa [hke, List.take_of_length_le (Nat.le_refl _)] at this)
      obtain ⟨q0, q1⟩ := (unhide HVk).cells
      obtain ⟨r0, r1⟩ := (unhide HRk).cells
      have rf0 := (unhide HRk).free 0
      have rf1 := (unhide HRk).free 1
      have HO := hide (fun u v => md_end (unhide HRk) (unhide HBk) (Nat.le_succ _) (unhide HOk) u v)
      clear hke hr1 hr2
      go_wp2
      refine bodyPost_ret (v := .tuple #[.agg #[.slice po SS.length pa, .slice qo XX.length qa], .int .i64 0]) (by simp [results, Tryd.results8, go_sem, r0, r1]) rfl ?_
      rw [(unhide HE).1, (unhide HE).2.1, (unhide HE).2.2, unhide HEE]
      exact ⟨po, pa, qo, qa, rfl, unhide HO _ _⟩

end Go.Proofs.YtefnapcegeojoaaDoor

namespace Go.Proofs.YtefnapcegeojoaaDoor
open Go.RowKit
set_option linter.unusedVariables false
set_option maxRecDepth 100000

theorem hidB {p : Prop} (h : p) : Hid p := h
def betw (n low high : Int) : Bool := decide (low ≤ n) && decide (n ≤ high)
theorem betw_yes {n low high : Int} (h : low ≤ n) (h' : n ≤ high) : betw n low high = true := by simp [betw, h, h']
theorem betw_no {n low high : Int} (h : ¬ (low ≤ n ∧ n ≤ high)) : betw n low high = false := by simp only [betw, Bool.and_eq_false_iff, decide_eq_false_iff_not]; omega
set_option maxHeartbeats 800000 in
theorem within_any (n low high : Int) (w : World) : Calls Tryd.prog 57 #[.int .i64 n, .int .i64 low, .int .i64 high] w fun e w' => e = .returned (.bool (betw n low high)) ∧ w' = w := by
  by_cases h1 : low ≤ n
  · by_cases h2 : n ≤ high
    · have hr := hidB (betw_yes h1 h2)
      go_enter Tryd.func57, Tryd.ntmps57
      go_wp2
      go_ret
      rw [show betw n low high = true from hr]
      exact ⟨rfl, rfl⟩
    · have hr := hidB (betw_no (n := n) (low := low) (high := high) (by omega))
      go_enter Tryd.func57, Tryd.ntmps57
      go_wp2
      go_ret
      rw [show betw n low high = false from hr]
      exact ⟨rfl, rfl⟩
  · have hr := hidB (betw_no (n := n) (low := low) (high := high) (by omega))
    go_enter Tryd.func57, Tryd.ntmps57
    go_wp2
    go_ret
    rw [show betw n low high = false from hr]
    exact ⟨rfl, rfl⟩
end Go.Proofs.YtefnapcegeojoaaDoor

namespace Go.Proofs.YtefnapcegeojoaaDoor
open Go.RowKit
set_option linter.unusedVariables false
set_option maxRecDepth 100000

theorem block_alloc {w : World} {g : Nat} {c : Array Value} {t : TypeId} {f : Nat × Nat} (h : w.heap[g]? = some (.cells c t f)) (o : Obj) : (w.alloc o).heap[g]? = some (.cells c t f) := by
  rw [(Joins.below_alloc1 w o).block g (Array.getElem?_eq_some_iff.1 h).1]; exact h

def arrL (xs : List Int) (k : Nat) : List Value := byteV (packL (xs.take k)) ++ List.replicate (64 - k * 4) (.int .u8 0)
theorem arrL_zero (xs : List Int) : arrL xs 0 = List.replicate 64 (.int .u8 0) := by simp [arrL, packL, byteV]
theorem four_lit {n : Int} (h : 0 ≤ n) (h' : n ≤ 2147483647) : [Value.int .u8 (n % 256), .int .u8 (n / 256 % 256), .int .u8 (n / 65536 % 256), .int .u8 (n / 16777216)] = byteV (four n) := by
  have e : n / 16777216 = n / 16777216 % 256 := by omega
  have : byteV (four n) = [Value.int .u8 (n / (256 : Int) ^ 0 % 256), .int .u8 (n / (256 : Int) ^ 1 % 256), .int .u8 (n / (256 : Int) ^ 2 % 256), .int .u8 (n / (256 : Int) ^ 3 % 256)] := rfl
  rw [this, e]
  simp
theorem arrL_length {xs : List Int} {k : Nat} (hl : xs.length ≤ 16) (hk : k ≤ xs.length) : (arrL xs k).length = 64 := by
  rw [arrL, List.length_append, byteV_length, packL_length, List.length_replicate, List.length_take, Nat.min_eq_left hk]
  omega
theorem arrL_splice {xs : List Int} {k : Nat} (hl : xs.length ≤ 16) (hk : k < xs.length) : splice (arrL xs k) (k * 4) (byteV (four xs[k])) = arrL xs (k + 1) := by
  have h1 : (byteV (packL (xs.take k))).length = k * 4 := by rw [byteV_length, packL_length, List.length_take, Nat.min_eq_left (by omega)]
  have h4 : (byteV (four xs[k])).length = 4 := by rw [byteV_length, four, fourTo_length]
  unfold splice arrL
  rw [h4, List.take_append_of_le_length (by omega), List.take_of_length_le (by omega), List.drop_append, List.drop_of_length_le (by omega), List.nil_append, h1, packL_succ hk, List.drop_replicate]
  rw [show k * 4 + 4 - k * 4 = 4 by omega, show 64 - k * 4 - 4 = 64 - (k + 1) * 4 by omega]
  simp [byteV]
theorem arrL_cells {W : World} {g : Nat} {t : TypeId} {xs : List Int} (h : W.heap[g]? = some (.cells (arrL xs xs.length).toArray t (0, 0))) : ∀ i, i < xs.length * 4 → W.cell? ⟨g, 0 + i, none⟩ = some (.int .u8 ((packL xs).getD i 0)) := by
  intro i hi
  rw [Nat.zero_add, Joins.cell_of_block h]
  have hl : i < (packL xs).length := by rw [packL_length]; exact hi
  simp [arrL, byteV, List.getElem?_append_left, hl, List.getD]
theorem lit_one (a b c d : Int) : ∀ v ∈ [Value.int .u8 a, .int .u8 b, .int .u8 c, .int .u8 d], v.oneCell' = true := by
  intro v hv
  simp at hv
  rcases hv with rfl | rfl | rfl | rfl <;> rfl
theorem sizeB : (Tryd.prog.info? 5).map (·.size) = some 1 := by kernel_rfl
theorem runB (W : World) : (Go.sizeOf 5).run Tryd.prog W = .ok 1 W := by
  have h := sizeB
  cases hq : Tryd.prog.info? 5 with
  | none => simp [hq] at h
  | some i =>
    have hi : i.size = 1 := by simpa [hq] using h
    simp [Go.sizeOf, typeInfo, hq, hi]
theorem arr64 : Tryd.prog.arrayLen 129 = 64 := by kernel_rfl
theorem und64 : Tryd.prog.underlying 129 = some (.array (Tryd.prog.arrayLen 129) (Tryd.prog.elem 129)) := by kernel_rfl
theorem elem64 : Tryd.prog.elem 129 = 5 := by kernel_rfl
theorem wrap4 (k : Nat) (hk : k ≤ 16) : IntKind.i64.wrap ((k : Int) * 4) = ((k * 4 : Nat) : Int) := by
  rw [IntKind.wrap_i64]
  omega
theorem slice64 (W : World) (g k : Nat) (hk : k < 16) : (Instr.sliceAt 129 (.pointer (some ⟨g, 0, none⟩)) (some (.int .i64 (IntKind.i64.wrap ((k : Int) * 4)))) none none).run Tryd.prog W = .ok (.slice (some ⟨g, k * 4, none⟩) (64 - k * 4) (64 - k * 4)) W := by
  rw [wrap4 k (by omega), run_sliceAt_array_l W _ _ und64 .i64 _ (by omega) (by rw [arr64]; omega), elem64, runB, arr64]
  simp only [Result.andThen, slicedAt, Int.toNat_natCast, Nat.mul_one]
  rw [if_neg (by omega), show Addr.add ⟨g, 0, none⟩ (k * 4) = ⟨g, k * 4, none⟩ from by unfold Addr.add; split <;> simp_all]
theorem slice64h (W : World) (g k : Nat) (hk : k ≤ 16) : (Instr.sliceAt 129 (.pointer (some ⟨g, 0, none⟩)) none (some (.int .i64 ((k : Int) * 4))) none).run Tryd.prog W = .ok (.slice (some ⟨g, 0, none⟩) (k * 4) 64) W := by
  rw [run_sliceAt_array_h W _ _ und64 .i64 _ (by omega) (by rw [arr64]; omega), elem64, runB, arr64]
  simp only [Result.andThen, slicedAt, Nat.mul_one, Nat.sub_zero]
  rw [if_neg (by omega), show ((k : Int) * 4).toNat = k * 4 by omega]
  rfl

set_option maxHeartbeats 1600000 in
theorem packNumbers_any (ao : Option Addr) (cap : Nat) (xs : List Int) (w : World) (hl : xs.length ≤ 16) (hn : ∀ j (h : j < xs.length), 0 ≤ xs[j] ∧ xs[j] ≤ 2147483647) (hc : Is w ao xs) :
    Calls Tryd.prog 81 #[.slice ao xs.length cap] w fun e w' => e = .returned (.string (packS xs)) ∧ Below w.heap.size w w' := by
  have HC := hide hc
  have HN := hide hn
  clear hc hn
  go_enter Tryd.func81, Tryd.ntmps81
  go_wp2
  go_loopw [9] (fun i wr => ∃ k : Nat, k ≤ xs.length ∧ i = .int .i64 k ∧ Hid (wr.heap[w.heap.size]? = some (.cells (arrL xs k).toArray 129 (0, 0))) ∧ Hid (Below w.heap.size w wr)) (fun i _ => xs.length - (intOf i).toNat)
  case atStart => exact ⟨0, Nat.zero_le _, rfl, hide (by rw [arrL_zero]; exact heap_alloc_new w _), hide (Joins.below_alloc1 _ _)⟩
  case round =>
    obtain ⟨k, hk, rfl, HO, HB⟩ := hrel
    by_cases hlt : k < xs.length
    · obtain ⟨b, off, rfl, hc⟩ := (unhide HC).below (unhide HB) k hlt
      obtain ⟨h0, h1⟩ := unhide HN k hlt
      have HBA := hide (fr (unhide HB) (Joins.below_alloc1 _ (.cells #[.int .u8 (xs[k] % 256), .int .u8 (xs[k] / 256 % 256), .int .u8 (xs[k] / 65536 % 256), .int .u8 (xs[k] / 16777216)] 118)))
      have HOA := hide (block_alloc (unhide HO) (.cells #[.int .u8 (xs[k] % 256), .int .u8 (xs[k] / 256 % 256), .int .u8 (xs[k] / 65536 % 256), .int .u8 (xs[k] / 16777216)] 118))
      have HL := hide (arrL_length hl hk)
      have HNW := hide (World.news_of_block (cs := #[.int .u8 (xs[k] % 256), .int .u8 (xs[k] / 256 % 256), .int .u8 (xs[k] / 65536 % 256), .int .u8 (xs[k] / 16777216)]) (heap_alloc_new wr (.cells #[.int .u8 (xs[k] % 256), .int .u8 (xs[k] / 256 % 256), .int .u8 (xs[k] / 65536 % 256), .int .u8 (xs[k] / 16777216)] 118)))
      have HE := hide (four_lit h0 h1)
      have HSP := hide (arrL_splice hl hlt)
      have hsl := fun W => slice64 W w.heap.size k (by omega)
      go_wp2
      go_region_law (refine step_copy_splice ?_ (.tmp 28) (.tmp 29) 22 22 ?_ 5 Tryd.underlying22 sizeB (some ⟨w.heap.size, k * 4, none⟩) (some ⟨wr.heap.size, 0, none⟩) (64 - k * 4) (64 - k * 4) 4 4 ?_ ?_ w.heap.size (k * 4) (arrL xs k) 129 ?_ [.int .u8 (xs[k] % 256), .int .u8 (xs[k] / 256 % 256), .int .u8 (xs[k] / 65536 % 256), .int .u8 (xs[k] / 16777216)] ?_ ?_ ?_ (lit_one _ _ _ _) w.heap.size w ?_ (Nat.le_refl _) ?_
                     · rfl
                     · rfl
                     · rfl
                     · rfl
                     · exact unhide HOA
                     · simp only [List.length_cons, List.length_nil]; exact (Nat.min_eq_left (by omega)).symm
                     · exact fun _ => ⟨rfl, _, rfl, unhide HNW⟩
                     · rw [unhide HL]; simp only [List.length_cons, List.length_nil]; omega
                     · exact (unhide HBA).drew
                     intro w4 hg4 hb4)
      all_goals
        have HSF : Hid (w4.heap[w.heap.size]? = some (.cells (arrL xs (k + 1)).toArray 129 (0, 0))) := by rw [← unhide HSP, ← unhide HE]; exact hg4
        have HBF := hide hb4
        clear hg4 hb4 hsl
        go_wp2
        go_roundw
        case rel => exact ⟨k + 1, by omega, by go_num, HSF, HBF⟩
        case measure => simp [intOf]; omega
    · have hkn : k = xs.length := by omega
      subst hkn
      have hsl := slice64h wr w.heap.size xs.length hl
      have hcv := run_convert_bytes_arg (P := Tryd.prog) wr 22 5 Tryd.underlying22 Tryd.underlying5 w.heap.size 0 (xs.length * 4) 64 (packL xs) (packL_length xs) (arrL_cells (unhide HO)) 9 Tryd.underlying9
      go_wp2
      go_ret
      exact ⟨rfl, unhide HB⟩

end Go.Proofs.YtefnapcegeojoaaDoor
