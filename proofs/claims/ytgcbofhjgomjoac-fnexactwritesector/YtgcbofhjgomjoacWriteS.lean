/- Contracts of WriteSector, of the program and of its model. -/
import Derived.Test.YtgcbofhjgomjoacRows
import Derived.Test.YtgcbofhjgomjoacGen
import Derived.Test.YtgcbofhjgomjoacKeep
import Derived.Test.YtgcbofhjgomjoacAsk
import Derived.Test.YtgcbofhjgomjoacPlace
import Derived.Test.YtgcbofhjgomjoacDiskW
import Derived.Test.YtgcbofhjgomjoacCopy
import Derived.Test.YtgcbofhjgomjoacCopyD
import Derived.Test.YtgcbofhjgomjoacOwnF
import Derived.Test.YtgcbofhjgomjoacApp
import Derived.Test.YtgcbofhjgomjoacVars
import Derived.Test.YtgcbofhjgomjoacWrite1
import Derived.Test.YtgcbofhjgomjoacWrD
import Derived.WalkKit
import Derived.WalkSpells
namespace Go.Proofs.Ytgcbofhjgomjoac
open Go.RowKit
set_option linter.unusedVariables false

set_option maxRecDepth 100000 in
set_option maxHeartbeats 800000 in
theorem writeSector_spec_ok (ao bo : Option Addr) (ca cb : Nat) (ss : List ByteArray) (xs : List Wr) (h a : Int) (d : ByteArray) (w : World) (hz : d.size ≤ maxLen) (hl : ss.length ≤ maxLen) (hm : xs.length ≤ maxLen) (h1 : Ss w ao ss) (h2 : Ios w bo xs) (hlong : ¬ 65536 < d.size) (hask : askC ss xs h a = 0) (hbig : ¬ 80 < d.size) (hfull : ¬ xs.length = 200) :
    Calls Try.prog 10 #[.agg #[.slice ao ss.length ca, .slice bo xs.length cb], .int .i64 h, .int .i64 a, .string d] w fun e w' => ∃ po pa qo qa, e = .returned (.tuple #[.agg #[.slice po (wrS ss xs h a d).length pa, .slice qo (wrX ss xs h a d).length qa], .int .i64 (wrC ss xs h a d)]) ∧ OwnD w' w.heap.size po (wrS ss xs h a d).length pa qo (wrX ss xs h a d).length qa (wrS ss xs h a d) (wrX ss xs h a d) ∧ Below w.heap.size w w' := by
  have HA := hide (Joins.below_alloc2 w (.cells #[.slice ao ss.length ca, .slice bo xs.length cb] 29) (.cells #[.slice none 0 0, .slice none 0 0] 29))
  have H1 := hide (h1.below (unhide HA))
  have H2 := hide (h2.below (unhide HA))
  have HV := hide ((VarD.new w (.slice ao ss.length ca) (.slice bo xs.length cb)).below (Joins.below_alloc1 _ (.cells #[.slice none 0 0, .slice none 0 0] 29)))
  have HR : Hid (VarD ((w.alloc (.cells #[.slice ao ss.length ca, .slice bo xs.length cb] 29)).alloc (.cells #[.slice none 0 0, .slice none 0 0] 29)) (w.heap.size + 1) (.slice none 0 0) (.slice none 0 0)) := hide (by have := VarD.new (w.alloc (.cells #[.slice ao ss.length ca, .slice bo xs.length cb] 29)) (.slice none 0 0) (.slice none 0 0); simp only [World.size_alloc] at this; exact this)
  have HS0 := hide h1
  have HX0 := hide h2
  have HL := hide hl
  have HM := hide hm
  clear h1 h2 hl hm
  unfold maxLen at hz
  have hb : (askC ss xs h a != 0) = false := by simp [hask]
  obtain ⟨hh, ha0, ha1⟩ := askC_eq hask
  obtain ⟨hlen, hlx⟩ := diskB_len (hostC_eq hh).1
  have HLS : Hid (ss.length ≤ 1048576) := hide (by omega)
  have HLX : Hid (xs.length ≤ 1048576) := hide (by omega)
  have HASK := hide hask
  clear hask hh hlen
  have hfb : ((xs.length : Int) == 200) = false := by exact beq_eq_false_iff_ne.2 (by omega)
  have HW := hide (wr_ok (h := h) (a := a) (d := d) hlong (unhide HASK) hbig hfull)
  have HF : Hid (xs.length + 1 ≤ 1048576) := hide (by omega)
  clear hfull
  go_enter Try.func10, Try.ntmps10
  go_wp2_with fail
  refine (l01Ask_any _ _ _ _ ss xs h a _ (unhide HL) (unhide HM) (unhide H1) (unhide H2)).mono ?_
  rintro e w1 ⟨rfl, hb1⟩
  have HV1 := hide ((unhide HV).below hb1)
  have HR1 := hide ((unhide HR).below hb1)
  have HB1 := hide (fr (unhide HA) hb1)
  have HS1 := hide ((unhide H1).below hb1)
  have HX1 := hide ((unhide H2).below hb1)
  have HZ1 := hide hb1.size
  clear hb1
  obtain ⟨hv0, hv1⟩ := (unhide HV1).cells
  go_wp2_with fail
  refine (l01Write_hd ao bo ss.length ca cb xs h a d _ (unhide HLX) (unhide HX1)).mono ?_
  rintro e w2 ⟨g, cap, rfl, ho2, hb2⟩
  have HX2 : Hid (Ios w2 (some ⟨g, 0, none⟩) (xs ++ [⟨h, a, d⟩])) := hide (ownI (by simpa using ho2) (wr_sizes (unhide HX1).sizes hz))
  have HS2 := hide ((unhide HS1).below hb2)
  have HB2 := hide (fr (unhide HB1) hb2)
  have HR2 := hide ((unhide HR1).below hb2)
  have HZ2 := hide hb2.size
  have HN := hide (show xs.length + 1 = (xs ++ [(⟨h, a, d⟩ : Wr)]).length by simp)
  clear ho2 hb2 hv0 hv1
  go_wp2_with fail
  refine (l01Own_len ao (some ⟨g, 0, none⟩) ca cap ss (xs ++ [⟨h, a, d⟩]) ss.length (xs.length + 1) _ rfl (unhide HN) (unhide HLS) (by rw [← unhide HN]; exact unhide HF) (unhide HS2) (unhide HX2)).mono ?_
  rintro e w3 ⟨po, pa, qo, qa, rfl, ho3, hb3⟩
  obtain ⟨hr0, hr1⟩ := ((unhide HR2).below hb3).cells
  have hr2 := ((unhide HR2).below hb3).free 0
  have hr3 := ((unhide HR2).below hb3).free 1
  have HE := hide (copyD_end (w := w) (wL := w3) (ho3.base (by have z1 := unhide HZ1; have z2 := unhide HZ2; simp at z1; omega)) (fr (unhide HB2) hb3) (.slice po ss.length pa) (.slice qo (xs.length + 1) qa))
  clear ho3 hb3
  go_wp2
  obtain ⟨e1, e2, e3⟩ := unhide HW
  rw [e1, e2, e3, ← unhide HN]
  exact bodyPost_ret (v := .tuple #[.agg #[.slice po ss.length pa, .slice qo (xs.length + 1) qa], .int .i64 0]) (by simp [results, Try.results10, go_sem, hr0, hr1]) rfl ⟨po, pa, qo, qa, rfl, (unhide HE).1, (unhide HE).2⟩

set_option maxRecDepth 100000 in
set_option maxHeartbeats 1600000 in
theorem writeSector_spec (ao bo : Option Addr) (ca cb : Nat) (ss : List ByteArray) (xs : List Wr) (h a : Int) (d : ByteArray) (w : World) (hz : d.size ≤ maxLen) (hl : ss.length ≤ maxLen) (hm : xs.length ≤ maxLen) (h1 : Ss w ao ss) (h2 : Ios w bo xs) :
    Calls Try.prog 10 #[.agg #[.slice ao ss.length ca, .slice bo xs.length cb], .int .i64 h, .int .i64 a, .string d] w fun e w' => ∃ po pa qo qa, e = .returned (.tuple #[.agg #[.slice po (wrS ss xs h a d).length pa, .slice qo (wrX ss xs h a d).length qa], .int .i64 (wrC ss xs h a d)]) ∧ OwnD w' w.heap.size po (wrS ss xs h a d).length pa qo (wrX ss xs h a d).length qa (wrS ss xs h a d) (wrX ss xs h a d) ∧ Below w.heap.size w w' := by
  have HA := hide (Joins.below_alloc2 w (.cells #[.slice ao ss.length ca, .slice bo xs.length cb] 29) (.cells #[.slice none 0 0, .slice none 0 0] 29))
  have H1 := hide (h1.below (unhide HA))
  have H2 := hide (h2.below (unhide HA))
  have HV := hide ((VarD.new w (.slice ao ss.length ca) (.slice bo xs.length cb)).below (Joins.below_alloc1 _ (.cells #[.slice none 0 0, .slice none 0 0] 29)))
  have HR : Hid (VarD ((w.alloc (.cells #[.slice ao ss.length ca, .slice bo xs.length cb] 29)).alloc (.cells #[.slice none 0 0, .slice none 0 0] 29)) (w.heap.size + 1) (.slice none 0 0) (.slice none 0 0)) := hide (by have := VarD.new (w.alloc (.cells #[.slice ao ss.length ca, .slice bo xs.length cb] 29)) (.slice none 0 0) (.slice none 0 0); simp only [World.size_alloc] at this; exact this)
  have HS0 := hide h1
  have HX0 := hide h2
  have HL := hide hl
  have HM := hide hm
  clear h1 h2 hl hm
  unfold maxLen at hz
  by_cases hlong : 65536 < d.size
  · obtain ⟨e1, e2, e3⟩ := wr_long (ss := ss) (xs := xs) (h := h) (a := a) hlong
    rw [e1, e2, e3]
    clear e1 e2 e3
    go_enter Try.func10, Try.ntmps10
    go_wp2
    exact bodyPost_ret (v := .tuple #[.agg #[.slice none 0 0, .slice none 0 0], .int .i64 2]) (by simp [results, Try.results10, go_sem]) rfl ⟨none, 0, none, 0, rfl, zeroD_own, unhide HA⟩
  by_cases hask : askC ss xs h a = 0
  · have hb : (askC ss xs h a != 0) = false := by simp [hask]
    obtain ⟨hh, ha0, ha1⟩ := askC_eq hask
    obtain ⟨hlen, hlx⟩ := diskB_len (hostC_eq hh).1
    have HLS : Hid (ss.length ≤ 1048576) := hide (by omega)
    have HLX : Hid (xs.length ≤ 1048576) := hide (by omega)
    have HASK := hide hask
    clear hask hh hlen
    by_cases hbig : 80 < d.size
    · have HW := hide (wr_range (h := h) (a := a) (d := d) hlong (unhide HASK) hbig)
      go_enter Try.func10, Try.ntmps10
      go_wp2_with fail
      refine (l01Ask_any _ _ _ _ ss xs h a _ (unhide HL) (unhide HM) (unhide H1) (unhide H2)).mono ?_
      rintro e w1 ⟨rfl, hb1⟩
      have HV1 := hide ((unhide HV).below hb1)
      have HR1 := hide ((unhide HR).below hb1)
      have HB1 := hide (fr (unhide HA) hb1)
      have HS1 := hide ((unhide H1).below hb1)
      have HX1 := hide ((unhide H2).below hb1)
      have HZ1 := hide hb1.size
      clear hb1
      obtain ⟨hv0, hv1⟩ := (unhide HV1).cells
      go_wp2_with fail
      refine (l01Own_any _ _ _ _ ss xs _ (unhide HLS) (unhide HLX) (unhide HS1) (unhide HX1)).mono ?_
      rintro e w2 ⟨po, pa, qo, qa, rfl, ho2, hb2⟩
      obtain ⟨hr0, hr1⟩ := ((unhide HR1).below hb2).cells
      have hr2 := ((unhide HR1).below hb2).free 0
      have hr3 := ((unhide HR1).below hb2).free 1
      have HE := hide (copyD_end (w := w) (wL := w2) (ho2.base (by have := unhide HZ1; simp at this; omega)) (fr (unhide HB1) hb2) (.slice po ss.length pa) (.slice qo xs.length qa))
      clear ho2 hb2 hv0 hv1
      go_wp2
      obtain ⟨e1, e2, e3⟩ := unhide HW
      rw [e1, e2, e3]
      exact bodyPost_ret (v := .tuple #[.agg #[.slice po ss.length pa, .slice qo xs.length qa], .int .i64 4]) (by simp [results, Try.results10, go_sem, hr0, hr1]) rfl ⟨po, pa, qo, qa, rfl, (unhide HE).1, (unhide HE).2⟩
    · by_cases hfull : xs.length = 200
      · have hfb : ((xs.length : Int) == 200) = true := by simp [hfull]
        have HW := hide (wr_full (h := h) (a := a) (d := d) hlong (unhide HASK) hbig hfull)
        have HF := hide hfull
        clear hfull
        go_enter Try.func10, Try.ntmps10
        go_wp2_with fail
        refine (l01Ask_any _ _ _ _ ss xs h a _ (unhide HL) (unhide HM) (unhide H1) (unhide H2)).mono ?_
        rintro e w1 ⟨rfl, hb1⟩
        have HV1 := hide ((unhide HV).below hb1)
        have HR1 := hide ((unhide HR).below hb1)
        have HB1 := hide (fr (unhide HA) hb1)
        have HS1 := hide ((unhide H1).below hb1)
        have HX1 := hide ((unhide H2).below hb1)
        have HZ1 := hide hb1.size
        clear hb1
        obtain ⟨hv0, hv1⟩ := (unhide HV1).cells
        go_wp2_with fail
        refine (l01Own_any _ _ _ _ ss xs _ (unhide HLS) (unhide HLX) (unhide HS1) (unhide HX1)).mono ?_
        rintro e w2 ⟨po, pa, qo, qa, rfl, ho2, hb2⟩
        obtain ⟨hr0, hr1⟩ := ((unhide HR1).below hb2).cells
        have hr2 := ((unhide HR1).below hb2).free 0
        have hr3 := ((unhide HR1).below hb2).free 1
        have HE := hide (copyD_end (w := w) (wL := w2) (ho2.base (by have := unhide HZ1; simp at this; omega)) (fr (unhide HB1) hb2) (.slice po ss.length pa) (.slice qo xs.length qa))
        clear ho2 hb2 hv0 hv1
        go_wp2
        obtain ⟨e1, e2, e3⟩ := unhide HW
        rw [e1, e2, e3]
        exact bodyPost_ret (v := .tuple #[.agg #[.slice po ss.length pa, .slice qo xs.length qa], .int .i64 7]) (by simp [results, Try.results10, go_sem, hr0, hr1]) rfl ⟨po, pa, qo, qa, rfl, (unhide HE).1, (unhide HE).2⟩
      · exact writeSector_spec_ok ao bo ca cb ss xs h a d w (by unfold maxLen; exact hz) (unhide HL) (unhide HM) (unhide HS0) (unhide HX0) hlong (unhide HASK) hbig hfull
  · have hb : (askC ss xs h a != 0) = true := by simp [hask]
    obtain ⟨e1, e2, e3⟩ := wr_ask (ss := ss) (xs := xs) (h := h) (a := a) hlong hask
    rw [e1, e2, e3]
    clear e1 e2 e3 hask
    go_enter Try.func10, Try.ntmps10
    go_wp2_with fail
    refine (l01Ask_any _ _ _ _ ss xs h a _ (unhide HL) (unhide HM) (unhide H1) (unhide H2)).mono ?_
    rintro e w1 ⟨rfl, hb1⟩
    have HR1 := hide ((unhide HR).below hb1)
    have HB1 := hide (fr (unhide HA) hb1)
    clear hb1
    obtain ⟨hr0, hr1⟩ := (unhide HR1).cells
    have hr2 := (unhide HR1).free 0
    have hr3 := (unhide HR1).free 1
    have HE := hide (zero_end (w := w) (wL := w1) (unhide HB1) (.slice none 0 0) (.slice none 0 0))
    go_wp2
    exact bodyPost_ret (v := .tuple #[.agg #[.slice none 0 0, .slice none 0 0], .int .i64 (askC ss xs h a)]) (by simp [results, Try.results10, go_sem, hr0, hr1]) rfl ⟨none, 0, none, 0, rfl, zeroD_own, unhide HE⟩

end Go.Proofs.Ytgcbofhjgomjoac
