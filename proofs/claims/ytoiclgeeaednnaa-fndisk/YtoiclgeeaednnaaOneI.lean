/- Contract of impl.LandOne. -/
import Derived.Test.YtoiclgeeaednnaaRows
import Derived.Test.YtoiclgeeaednnaaGen
import Derived.Test.YtoiclgeeaednnaaKeep
import Derived.Test.YtoiclgeeaednnaaAsk
import Derived.Test.YtoiclgeeaednnaaDiskW
import Derived.Test.YtoiclgeeaednnaaCopyD
import Derived.Test.YtoiclgeeaednnaaOwnF
import Derived.Test.YtoiclgeeaednnaaVars
import Derived.Test.YtoiclgeeaednnaaLand
import Derived.Test.YtoiclgeeaednnaaLandS
import Derived.Test.YtoiclgeeaednnaaLandInv
import Derived.Test.YtoiclgeeaednnaaPendI
import Derived.WalkKit
import Derived.WalkSpells
namespace Go.Proofs.Ytoiclgeeaednnaa
open Go.RowKit
set_option linter.unusedVariables false

/-- What LandOne answers. -/
def onS (ss : List ByteArray) (xs : List Wr) (h : Int) : List ByteArray := if hostC ss xs h = 0 then (if cntW xs h = 0 then ss else (landF h false ss xs 1).1) else []
def onX (ss : List ByteArray) (xs : List Wr) (h : Int) : List Wr := if hostC ss xs h = 0 then (if cntW xs h = 0 then xs else (landF h false ss xs 1).2.1) else []
def onC (ss : List ByteArray) (xs : List Wr) (h : Int) : Int := if hostC ss xs h = 0 then (if cntW xs h = 0 then 5 else 0) else hostC ss xs h
theorem on_ok {ss : List ByteArray} {xs : List Wr} {h : Int} (h1 : hostC ss xs h = 0) (h2 : ¬ cntW xs h = 0) : onS ss xs h = (landF h false ss xs 1).1 ∧ onX ss xs h = (landF h false ss xs 1).2.1 ∧ onC ss xs h = 0 := by simp [onS, onX, onC, h1, h2]
theorem on_none {ss : List ByteArray} {xs : List Wr} {h : Int} (h1 : hostC ss xs h = 0) (h2 : cntW xs h = 0) : onS ss xs h = ss ∧ onX ss xs h = xs ∧ onC ss xs h = 5 := by simp [onS, onX, onC, h1, h2]
theorem on_bad {ss : List ByteArray} {xs : List Wr} {h : Int} (h1 : ¬ hostC ss xs h = 0) : onS ss xs h = [] ∧ onX ss xs h = [] ∧ onC ss xs h = hostC ss xs h := by simp [onS, onX, onC, h1]

set_option maxRecDepth 100000 in
set_option maxHeartbeats 1600000 in
theorem landOne_impl (ao bo : Option Addr) (ca cb : Nat) (ss : List ByteArray) (xs : List Wr) (h : Int) (w : World) (hl : ss.length ≤ maxLen) (hm : xs.length ≤ maxLen) (h1 : Ss w ao ss) (h2 : Ios w bo xs) :
    Calls Try.prog 19 #[.agg #[.slice ao ss.length ca, .slice bo xs.length cb], .int .i64 h] w fun e w' => ∃ po pa qo qa, e = .returned (.tuple #[.agg #[.slice po (onS ss xs h).length pa, .slice qo (onX ss xs h).length qa], .int .i64 (onC ss xs h)]) ∧ OwnD w' w.heap.size po (onS ss xs h).length pa qo (onX ss xs h).length qa (onS ss xs h) (onX ss xs h) ∧ Below w.heap.size w w' := by
  have HA := hide (Joins.below_alloc2 w (.cells #[.slice ao ss.length ca, .slice bo xs.length cb] 26) (.cells #[.slice none 0 0, .slice none 0 0] 26))
  have H1 := hide (h1.below (unhide HA))
  have H2 := hide (h2.below (unhide HA))
  have HV := hide ((VarD.new w (.slice ao ss.length ca) (.slice bo xs.length cb)).below (Joins.below_alloc1 _ (.cells #[.slice none 0 0, .slice none 0 0] 26)))
  have HR : Hid (VarD ((w.alloc (.cells #[.slice ao ss.length ca, .slice bo xs.length cb] 26)).alloc (.cells #[.slice none 0 0, .slice none 0 0] 26)) (w.heap.size + 1) (.slice none 0 0) (.slice none 0 0)) := hide (by have := VarD.new (w.alloc (.cells #[.slice ao ss.length ca, .slice bo xs.length cb] 26)) (.slice none 0 0) (.slice none 0 0); simp only [World.size_alloc] at this; exact this)
  have HL := hide hl
  have HM := hide hm
  have HQ := hide (ask_zero ss xs h)
  clear h1 h2 hl hm
  by_cases hc : hostC ss xs h = 0
  · have hb : (hostC ss xs h != 0) = false := by simp [hc]
    by_cases hp : cntW xs h = 0
    · have HD := hide (hostC_eq hc).1
      have HC := hide hc
      have HLS : Hid (ss.length ≤ 1048576) := hide (by have := (diskB_len (unhide HD)).1; omega)
      have HLX := hide (diskB_len (unhide HD)).2
      have HW := hide (on_none hc hp)
      have hq : ((cntW xs h : Int) == 0) = true := by simp [hp]
      clear hc hp
      go_enter Try.func19, Try.ntmps19
      go_wp2_with fail
      refine (hostFault_any _ _ _ _ ss xs h _ (unhide HL) (unhide HM) (unhide H1) (unhide H2)).mono ?_
      rintro e w1 ⟨rfl, hb1⟩
      have HV1 := hide ((unhide HV).below hb1)
      have HR1 := hide ((unhide HR).below hb1)
      have HB1 := hide (fr (unhide HA) hb1)
      have HS1 := hide ((unhide H1).below hb1)
      have HX1 := hide ((unhide H2).below hb1)
      have HZ1 := hide hb1.size
      clear hb1
      obtain ⟨hv0, hv1⟩ := (unhide HV1).cells
      go_wp2_with fail
      refine (countWrites_any _ _ _ _ ss xs h _ (Nat.le_trans (unhide HLX) (by decide)) (unhide HX1)).mono ?_
      rintro e w1' ⟨rfl, hb1'⟩
      have HV1' := hide ((unhide HV1).below hb1')
      have HR1' := hide ((unhide HR1).below hb1')
      have HB1' := hide (fr (unhide HB1) hb1')
      have HS1' := hide ((unhide HS1).below hb1')
      have HX1' := hide ((unhide HX1).below hb1')
      have HZ1' := hide (Nat.le_trans (unhide HZ1) hb1'.size)
      clear hb1' hv0 hv1
      obtain ⟨hv0, hv1⟩ := (unhide HV1').cells
      go_wp2_with fail
      refine (copyDisk_any ao bo ca cb ss xs _ (unhide HLS) (Nat.le_trans (unhide HLX) (by decide)) (unhide HS1') (unhide HX1')).mono ?_
      rintro e w2 ⟨po, pa, qo, qa, rfl, ho2, hb2⟩
      have HO2 := hide (ho2.base (B' := w.heap.size + 2) (by have z1 := unhide HZ1'; simp at z1; omega))
      have HR2 := hide ((unhide HR1').below hb2)
      have HB2 := hide (fr (unhide HB1') hb2)
      clear ho2 hb2 hv0 hv1
      obtain ⟨hr0, hr1⟩ := (unhide HR2).cells
      have hr2 := (unhide HR2).free 0
      have hr3 := (unhide HR2).free 1
      have HE := hide (land_end (w := w) (unhide HO2) (Nat.le_refl _) (unhide HB2) (.slice po ss.length pa) (.slice qo xs.length qa))
      go_wp2
      obtain ⟨e1, e2, e3⟩ := unhide HW
      rw [e1, e2, e3]
      exact bodyPost_ret (v := .tuple #[.agg #[.slice po ss.length pa, .slice qo xs.length qa], .int .i64 5]) (by simp [results, Try.results19, go_sem, hr0, hr1]) rfl ⟨po, pa, qo, qa, rfl, (unhide HE).1, (unhide HE).2⟩
    · have HD := hide (hostC_eq hc).1
      have HC := hide hc
      have HLS : Hid (ss.length ≤ 1048576) := hide (by have := (diskB_len (unhide HD)).1; omega)
      have HLX := hide (diskB_len (unhide HD)).2
      have HW := hide (on_ok hc hp)
      have hq : ((cntW xs h : Int) == 0) = false := beq_eq_false_iff_ne.2 (by omega)
      clear hc hp
      go_enter Try.func19, Try.ntmps19
      go_wp2_with fail
      refine (hostFault_any _ _ _ _ ss xs h _ (unhide HL) (unhide HM) (unhide H1) (unhide H2)).mono ?_
      rintro e w1 ⟨rfl, hb1⟩
      have HV1 := hide ((unhide HV).below hb1)
      have HR1 := hide ((unhide HR).below hb1)
      have HB1 := hide (fr (unhide HA) hb1)
      have HS1 := hide ((unhide H1).below hb1)
      have HX1 := hide ((unhide H2).below hb1)
      have HZ1 := hide hb1.size
      clear hb1
      obtain ⟨hv0, hv1⟩ := (unhide HV1).cells
      go_wp2_with fail
      refine (countWrites_any _ _ _ _ ss xs h _ (Nat.le_trans (unhide HLX) (by decide)) (unhide HX1)).mono ?_
      rintro e w1' ⟨rfl, hb1'⟩
      have HV1' := hide ((unhide HV1).below hb1')
      have HR1' := hide ((unhide HR1).below hb1')
      have HB1' := hide (fr (unhide HB1) hb1')
      have HS1' := hide ((unhide HS1).below hb1')
      have HX1' := hide ((unhide HX1).below hb1')
      have HZ1' := hide (Nat.le_trans (unhide HZ1) hb1'.size)
      clear hb1' hv0 hv1
      obtain ⟨hv0, hv1⟩ := (unhide HV1').cells
      go_wp2_with fail
      refine (landFirst_any ao bo ca cb ss xs h 1 _ (by omega) (by omega) (unhide HLS) (unhide HLX) (diskB_at (unhide HD)) (unhide HS1') (unhide HX1')).mono ?_
      rintro e w2 ⟨po, pa, qo, qa, rfl, ho2, hb2⟩
      have HO2 := hide (ho2.base (B' := w.heap.size + 2) (by have z1 := unhide HZ1'; simp at z1; omega))
      have HR2 := hide ((unhide HR1').below hb2)
      have HB2 := hide (fr (unhide HB1') hb2)
      clear ho2 hb2 hv0 hv1
      obtain ⟨hr0, hr1⟩ := (unhide HR2).cells
      have hr2 := (unhide HR2).free 0
      have hr3 := (unhide HR2).free 1
      obtain ⟨RX, HRX⟩ : ∃ RX, Hid ((landF h false ss xs 1).2.1 = RX) := ⟨_, hide rfl⟩
      rw [unhide HRX] at HO2 ⊢
      have HE := hide (land_end (w := w) (unhide HO2) (Nat.le_refl _) (unhide HB2) (.slice po ss.length pa) (.slice qo RX.length qa))
      go_wp2
      obtain ⟨e1, e2, e3⟩ := unhide HW
      rw [e1, e2, e3, landF_slen, unhide HRX]
      exact bodyPost_ret (v := .tuple #[.agg #[.slice po ss.length pa, .slice qo RX.length qa], .int .i64 0]) (by simp [results, Try.results19, go_sem, hr0, hr1]) rfl ⟨po, pa, qo, qa, rfl, (unhide HE).1, (unhide HE).2⟩
  · have hb : (hostC ss xs h != 0) = true := by simp [hc]
    obtain ⟨e1, e2, e3⟩ := on_bad hc
    rw [e1, e2, e3]
    clear e1 e2 e3 hc
    go_enter Try.func19, Try.ntmps19
    go_wp2_with fail
    refine (hostFault_any _ _ _ _ ss xs h _ (unhide HL) (unhide HM) (unhide H1) (unhide H2)).mono ?_
    rintro e w1 ⟨rfl, hb1⟩
    have HR1 := hide ((unhide HR).below hb1)
    have HB1 := hide (fr (unhide HA) hb1)
    clear hb1
    obtain ⟨hr0, hr1⟩ := (unhide HR1).cells
    have hr2 := (unhide HR1).free 0
    have hr3 := (unhide HR1).free 1
    have HE := hide (zero_end (w := w) (wL := w1) (unhide HB1) (.slice none 0 0) (.slice none 0 0))
    go_wp2
    exact bodyPost_ret (v := .tuple #[.agg #[.slice none 0 0, .slice none 0 0], .int .i64 (hostC ss xs h)]) (by simp [results, Try.results19, go_sem, hr0, hr1]) rfl ⟨none, 0, none, 0, rfl, zeroD_own, unhide HE⟩

end Go.Proofs.Ytoiclgeeaednnaa
