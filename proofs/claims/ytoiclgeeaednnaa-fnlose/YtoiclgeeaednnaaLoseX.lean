/- LoseHost: contracts of the model and of the program. -/
import Derived.Test.YtoiclgeeaednnaaRows
import Derived.Test.YtoiclgeeaednnaaGen
import Derived.Test.YtoiclgeeaednnaaKeep
import Derived.Test.YtoiclgeeaednnaaAsk
import Derived.Test.YtoiclgeeaednnaaDiskW
import Derived.Test.YtoiclgeeaednnaaCopyD
import Derived.Test.YtoiclgeeaednnaaOwnF
import Derived.Test.YtoiclgeeaednnaaLand
import Derived.Test.YtoiclgeeaednnaaLandS
import Derived.Test.YtoiclgeeaednnaaLandInv
import Derived.Test.YtoiclgeeaednnaaFlushX
import Derived.Test.YtoiclgeeaednnaaDrop
import Derived.Test.YtoiclgeeaednnaaVars
import Derived.WalkKit
import Derived.WalkSpells
namespace Go.Proofs.Ytoiclgeeaednnaa
open Go.RowKit
set_option linter.unusedVariables false

/-- What LoseHost answers. -/
def loS (ss : List ByteArray) (xs : List Wr) (h k : Int) : List ByteArray := if hostC ss xs h = 0 then (if inB k 0 200 = true then (landF h true ss xs k).1 else []) else []
def loX (ss : List ByteArray) (xs : List Wr) (h k : Int) : List Wr := if hostC ss xs h = 0 then (if inB k 0 200 = true then (landF h true ss xs k).2.1 else []) else []
def loC (ss : List ByteArray) (xs : List Wr) (h k : Int) : Int := if hostC ss xs h = 0 then (if inB k 0 200 = true then 0 else 4) else hostC ss xs h
theorem lo_ok {ss : List ByteArray} {xs : List Wr} {h k : Int} (h1 : hostC ss xs h = 0) (h2 : inB k 0 200 = true) : loS ss xs h k = (landF h true ss xs k).1 ∧ loX ss xs h k = (landF h true ss xs k).2.1 ∧ loC ss xs h k = 0 := by simp [loS, loX, loC, h1, h2]
theorem lo_range {ss : List ByteArray} {xs : List Wr} {h k : Int} (h1 : hostC ss xs h = 0) (h2 : inB k 0 200 = false) : loS ss xs h k = [] ∧ loX ss xs h k = [] ∧ loC ss xs h k = 4 := by simp [loS, loX, loC, h1, h2]
theorem lo_bad {ss : List ByteArray} {xs : List Wr} {h k : Int} (h1 : ¬ hostC ss xs h = 0) : loS ss xs h k = [] ∧ loX ss xs h k = [] ∧ loC ss xs h k = hostC ss xs h := by simp [loS, loX, loC, h1]
theorem inB_eq {k a b : Int} (h : inB k a b = true) : a ≤ k ∧ k ≤ b := by simpa [inB] using h
theorem inB_ne {k a b : Int} (h : inB k a b = false) (hk : ¬ k < a) : b < k := by
  simp [inB] at h
  omega

theorem dropWrites_len (ao bo : Option Addr) (ca cb : Nat) (ss : List ByteArray) (xs : List Wr) (n : Nat) (h : Int) (w : World) (hn : ss.length = n) (hl : ss.length ≤ 1048576) (hm : xs.length ≤ 200) (h1 : Ss w ao ss) (h2 : Ios w bo xs) :
    Calls Try.prog 38 #[.agg #[.slice ao n ca, .slice bo xs.length cb], .int .i64 h] w fun e w' => ∃ po pa qo qa, e = .returned (.agg #[.slice po n pa, .slice qo (dropF h xs).length qa]) ∧ OwnD w' w.heap.size po n pa qo (dropF h xs).length qa ss (dropF h xs) ∧ Below w.heap.size w w' := by
  subst hn
  exact dropWrites_any ao bo ca cb ss xs h w hl hm h1 h2

set_option maxRecDepth 100000 in
set_option maxHeartbeats 1600000 in
theorem loseHost_spec (ao bo : Option Addr) (ca cb : Nat) (ss : List ByteArray) (xs : List Wr) (h k : Int) (w : World) (hl : ss.length ≤ maxLen) (hm : xs.length ≤ maxLen) (h1 : Ss w ao ss) (h2 : Ios w bo xs) :
    Calls Try.prog 18 #[.agg #[.slice ao ss.length ca, .slice bo xs.length cb], .int .i64 h, .int .i64 k] w fun e w' => ∃ po pa qo qa, e = .returned (.tuple #[.agg #[.slice po (loS ss xs h k).length pa, .slice qo (loX ss xs h k).length qa], .int .i64 (loC ss xs h k)]) ∧ OwnD w' w.heap.size po (loS ss xs h k).length pa qo (loX ss xs h k).length qa (loS ss xs h k) (loX ss xs h k) ∧ Below w.heap.size w w' := by
  have HA := hide (Joins.below_alloc2 w (.cells #[.slice ao ss.length ca, .slice bo xs.length cb] 26) (.cells #[.slice none 0 0, .slice none 0 0] 26))
  have H1 := hide (h1.below (unhide HA))
  have H2 := hide (h2.below (unhide HA))
  have HV := hide ((VarD.new w (.slice ao ss.length ca) (.slice bo xs.length cb)).below (Joins.below_alloc1 _ (.cells #[.slice none 0 0, .slice none 0 0] 26)))
  have HR : Hid (VarD ((w.alloc (.cells #[.slice ao ss.length ca, .slice bo xs.length cb] 26)).alloc (.cells #[.slice none 0 0, .slice none 0 0] 26)) (w.heap.size + 1) (.slice none 0 0) (.slice none 0 0)) := hide (by have := VarD.new (w.alloc (.cells #[.slice ao ss.length ca, .slice bo xs.length cb] 26)) (.slice none 0 0) (.slice none 0 0); simp only [World.size_alloc] at this; exact this)
  have HL := hide hl
  have HM := hide hm
  have HQ := hide (ask_zero ss xs h)
  clear h1 h2 hl hm
  by_cases hc : hostC ss xs h = 0
  · have hb : (askC ss xs h 0 != 0) = false := by rw [unhide HQ]; simp [hc]
    cases hp : inB k 0 200
    · have HD := hide (hostC_eq hc).1
      have HC := hide hc
      have HLS : Hid (ss.length ≤ 1048576) := hide (by have := (diskB_len (unhide HD)).1; omega)
      have HLX := hide (diskB_len (unhide HD)).2
      have HW := hide (lo_range hc hp)
      clear hc
      go_enter Try.func18, Try.ntmps18
      go_wp2_with fail
      refine (l01Ask_any _ _ _ _ ss xs h 0 _ (unhide HL) (unhide HM) (unhide H1) (unhide H2)).mono ?_
      rintro e w1 ⟨rfl, hb1⟩
      have HV1 := hide ((unhide HV).below hb1)
      have HR1 := hide ((unhide HR).below hb1)
      have HB1 := hide (fr (unhide HA) hb1)
      have HS1 := hide ((unhide H1).below hb1)
      have HX1 := hide ((unhide H2).below hb1)
      have HZ1 := hide hb1.size
      clear hb1
      have HR2 := HR1
      obtain ⟨hr0, hr1⟩ := (unhide HR1).cells
      have hr2 := (unhide HR1).free 0
      have hr3 := (unhide HR1).free 1
      have HE := hide (zero_end (w := w) (wL := w1) (unhide HB1) (.slice none 0 0) (.slice none 0 0))
      go_wp2_with fail
      refine (l01In_any _ _ _ _).mono ?_
      rintro e w' ⟨rfl, rfl⟩
      go_wp2
      obtain ⟨e1, e2, e3⟩ := unhide HW
      rw [e1, e2, e3]
      exact bodyPost_ret (v := .tuple #[.agg #[.slice none 0 0, .slice none 0 0], .int .i64 4]) (by simp [results, Try.results18, go_sem, hr0, hr1]) rfl ⟨none, 0, none, 0, rfl, zeroD_own, unhide HE⟩
    · have HD := hide (hostC_eq hc).1
      have HC := hide hc
      have HLS : Hid (ss.length ≤ 1048576) := hide (by have := (diskB_len (unhide HD)).1; omega)
      have HLX := hide (diskB_len (unhide HD)).2
      have HW := hide (lo_ok hc hp)
      obtain ⟨hk0, hk1⟩ := inB_eq hp
      clear hc
      go_enter Try.func18, Try.ntmps18
      go_wp2_with fail
      refine (l01Ask_any _ _ _ _ ss xs h 0 _ (unhide HL) (unhide HM) (unhide H1) (unhide H2)).mono ?_
      rintro e w1 ⟨rfl, hb1⟩
      have HV1 := hide ((unhide HV).below hb1)
      have HR1 := hide ((unhide HR).below hb1)
      have HB1 := hide (fr (unhide HA) hb1)
      have HS1 := hide ((unhide H1).below hb1)
      have HX1 := hide ((unhide H2).below hb1)
      have HZ1 := hide hb1.size
      clear hb1
      obtain ⟨hv0, hv1⟩ := (unhide HV1).cells
      go_wp2_with fail
      refine (l01In_any _ _ _ _).mono ?_
      rintro e w' ⟨rfl, rfl⟩
      go_wp2_with fail
      refine (l01Land_any ao bo ca cb ss xs h k true _ hk0 (by omega) (unhide HLS) (unhide HLX) (diskB_at (unhide HD)) (unhide HS1) (unhide HX1)).mono ?_
      rintro e w2 ⟨po, pa, qo, qa, rfl, ho2, hb2⟩
      have HO2 := hide (ho2.base (B' := w.heap.size + 2) (by have z1 := unhide HZ1; simp at z1; omega))
      have HR2 := hide ((unhide HR1).below hb2)
      have HB2 := hide (fr (unhide HB1) hb2)
      clear ho2 hb2 hv0 hv1
      obtain ⟨hr0, hr1⟩ := (unhide HR2).cells
      have hr2 := (unhide HR2).free 0
      have hr3 := (unhide HR2).free 1
      obtain ⟨RX, HRX⟩ : ∃ RX, Hid ((landF h true ss xs k).2.1 = RX) := ⟨_, hide rfl⟩
      rw [unhide HRX] at HO2 ⊢
      have HE := hide (land_end (w := w) (unhide HO2) (Nat.le_refl _) (unhide HB2) (.slice po ss.length pa) (.slice qo RX.length qa))
      go_wp2
      obtain ⟨e1, e2, e3⟩ := unhide HW
      rw [e1, e2, e3, landF_slen, unhide HRX]
      exact bodyPost_ret (v := .tuple #[.agg #[.slice po ss.length pa, .slice qo RX.length qa], .int .i64 0]) (by simp [results, Try.results18, go_sem, hr0, hr1]) rfl ⟨po, pa, qo, qa, rfl, (unhide HE).1, (unhide HE).2⟩
  · have hb : (askC ss xs h 0 != 0) = true := by rw [unhide HQ]; simp [hc]
    obtain ⟨e1, e2, e3⟩ := lo_bad (k := k) hc
    rw [e1, e2, e3]
    clear e1 e2 e3 hc
    go_enter Try.func18, Try.ntmps18
    go_wp2_with fail
    refine (l01Ask_any _ _ _ _ ss xs h 0 _ (unhide HL) (unhide HM) (unhide H1) (unhide H2)).mono ?_
    rintro e w1 ⟨rfl, hb1⟩
    have HR1 := hide ((unhide HR).below hb1)
    have HB1 := hide (fr (unhide HA) hb1)
    clear hb1
    obtain ⟨hr0, hr1⟩ := (unhide HR1).cells
    have hr2 := (unhide HR1).free 0
    have hr3 := (unhide HR1).free 1
    have HE := hide (zero_end (w := w) (wL := w1) (unhide HB1) (.slice none 0 0) (.slice none 0 0))
    go_wp2
    exact bodyPost_ret (v := .tuple #[.agg #[.slice none 0 0, .slice none 0 0], .int .i64 (hostC ss xs h)]) (by simp [results, Try.results18, go_sem, hr0, hr1, unhide HQ]) rfl ⟨none, 0, none, 0, rfl, zeroD_own, unhide HE⟩

set_option maxRecDepth 100000 in
set_option maxHeartbeats 1600000 in
theorem loseHost_impl (ao bo : Option Addr) (ca cb : Nat) (ss : List ByteArray) (xs : List Wr) (h k : Int) (w : World) (hl : ss.length ≤ maxLen) (hm : xs.length ≤ maxLen) (h1 : Ss w ao ss) (h2 : Ios w bo xs) :
    Calls Try.prog 13 #[.agg #[.slice ao ss.length ca, .slice bo xs.length cb], .int .i64 h, .int .i64 k] w fun e w' => ∃ po pa qo qa, e = .returned (.tuple #[.agg #[.slice po (loS ss xs h k).length pa, .slice qo (loX ss xs h k).length qa], .int .i64 (loC ss xs h k)]) ∧ OwnD w' w.heap.size po (loS ss xs h k).length pa qo (loX ss xs h k).length qa (loS ss xs h k) (loX ss xs h k) ∧ Below w.heap.size w w' := by
  have HA := hide (Joins.below_alloc2 w (.cells #[.slice ao ss.length ca, .slice bo xs.length cb] 26) (.cells #[.slice none 0 0, .slice none 0 0] 26))
  have H1 := hide (h1.below (unhide HA))
  have H2 := hide (h2.below (unhide HA))
  have HV := hide ((VarD.new w (.slice ao ss.length ca) (.slice bo xs.length cb)).below (Joins.below_alloc1 _ (.cells #[.slice none 0 0, .slice none 0 0] 26)))
  have HR : Hid (VarD ((w.alloc (.cells #[.slice ao ss.length ca, .slice bo xs.length cb] 26)).alloc (.cells #[.slice none 0 0, .slice none 0 0] 26)) (w.heap.size + 1) (.slice none 0 0) (.slice none 0 0)) := hide (by have := VarD.new (w.alloc (.cells #[.slice ao ss.length ca, .slice bo xs.length cb] 26)) (.slice none 0 0) (.slice none 0 0); simp only [World.size_alloc] at this; exact this)
  have HSZ := hide h1.sizes
  have HXZ := hide h2.sizes
  have HL := hide hl
  have HM := hide hm
  have HQ := hide (ask_zero ss xs h)
  clear h1 h2 hl hm
  by_cases hc : hostC ss xs h = 0
  · have hb : (hostC ss xs h != 0) = false := by simp [hc]
    cases hp : inB k 0 200
    · by_cases hneg : k < 0
      · have HD := hide (hostC_eq hc).1
        have HC := hide hc
        have HLS : Hid (ss.length ≤ 1048576) := hide (by have := (diskB_len (unhide HD)).1; omega)
        have HLX := hide (diskB_len (unhide HD)).2
        have HW := hide (lo_range hc hp)
        clear hc
        go_enter Try.func13, Try.ntmps13
        go_wp2_with fail
        refine (hostFault_any _ _ _ _ ss xs h _ (unhide HL) (unhide HM) (unhide H1) (unhide H2)).mono ?_
        rintro e w1 ⟨rfl, hb1⟩
        have HV1 := hide ((unhide HV).below hb1)
        have HR1 := hide ((unhide HR).below hb1)
        have HB1 := hide (fr (unhide HA) hb1)
        have HS1 := hide ((unhide H1).below hb1)
        have HX1 := hide ((unhide H2).below hb1)
        have HZ1 := hide hb1.size
        clear hb1
        have HR2 := HR1
        obtain ⟨hr0, hr1⟩ := (unhide HR1).cells
        have hr2 := (unhide HR1).free 0
        have hr3 := (unhide HR1).free 1
        have HE := hide (zero_end (w := w) (wL := w1) (unhide HB1) (.slice none 0 0) (.slice none 0 0))
        go_wp2
        obtain ⟨e1, e2, e3⟩ := unhide HW
        rw [e1, e2, e3]
        exact bodyPost_ret (v := .tuple #[.agg #[.slice none 0 0, .slice none 0 0], .int .i64 4]) (by simp [results, Try.results13, go_sem, hr0, hr1]) rfl ⟨none, 0, none, 0, rfl, zeroD_own, unhide HE⟩
      · have hbig := inB_ne hp hneg
        have HD := hide (hostC_eq hc).1
        have HC := hide hc
        have HLS : Hid (ss.length ≤ 1048576) := hide (by have := (diskB_len (unhide HD)).1; omega)
        have HLX := hide (diskB_len (unhide HD)).2
        have HW := hide (lo_range hc hp)
        clear hc
        go_enter Try.func13, Try.ntmps13
        go_wp2_with fail
        refine (hostFault_any _ _ _ _ ss xs h _ (unhide HL) (unhide HM) (unhide H1) (unhide H2)).mono ?_
        rintro e w1 ⟨rfl, hb1⟩
        have HV1 := hide ((unhide HV).below hb1)
        have HR1 := hide ((unhide HR).below hb1)
        have HB1 := hide (fr (unhide HA) hb1)
        have HS1 := hide ((unhide H1).below hb1)
        have HX1 := hide ((unhide H2).below hb1)
        have HZ1 := hide hb1.size
        clear hb1
        have HR2 := HR1
        obtain ⟨hr0, hr1⟩ := (unhide HR1).cells
        have hr2 := (unhide HR1).free 0
        have hr3 := (unhide HR1).free 1
        have HE := hide (zero_end (w := w) (wL := w1) (unhide HB1) (.slice none 0 0) (.slice none 0 0))
        go_wp2
        obtain ⟨e1, e2, e3⟩ := unhide HW
        rw [e1, e2, e3]
        exact bodyPost_ret (v := .tuple #[.agg #[.slice none 0 0, .slice none 0 0], .int .i64 4]) (by simp [results, Try.results13, go_sem, hr0, hr1]) rfl ⟨none, 0, none, 0, rfl, zeroD_own, unhide HE⟩
    · have HD := hide (hostC_eq hc).1
      have HC := hide hc
      have HLS : Hid (ss.length ≤ 1048576) := hide (by have := (diskB_len (unhide HD)).1; omega)
      have HLX := hide (diskB_len (unhide HD)).2
      have HW := hide (lo_ok hc hp)
      obtain ⟨hk0, hk1⟩ := inB_eq hp
      clear hc
      go_enter Try.func13, Try.ntmps13
      go_wp2_with fail
      refine (hostFault_any _ _ _ _ ss xs h _ (unhide HL) (unhide HM) (unhide H1) (unhide H2)).mono ?_
      rintro e w1 ⟨rfl, hb1⟩
      have HV1 := hide ((unhide HV).below hb1)
      have HR1 := hide ((unhide HR).below hb1)
      have HB1 := hide (fr (unhide HA) hb1)
      have HS1 := hide ((unhide H1).below hb1)
      have HX1 := hide ((unhide H2).below hb1)
      have HZ1 := hide hb1.size
      clear hb1
      obtain ⟨hv0, hv1⟩ := (unhide HV1).cells
      go_wp2_with fail
      refine (landFirst_any ao bo ca cb ss xs h k _ hk0 (by omega) (unhide HLS) (unhide HLX) (diskB_at (unhide HD)) (unhide HS1) (unhide HX1)).mono ?_
      rintro e w2 ⟨po, pa, qo, qa, rfl, ho2, hb2⟩
      have HZ2 := hide hb2.size
      have HR2 := hide ((unhide HR1).below hb2)
      have HB2 := hide (fr (unhide HB1) hb2)
      obtain ⟨q1, q2, q3, q4⟩ := landF_inv (h := h) (n := k) (lost := false) (ss := ss) (xs := xs) (fun s => s.size ≤ maxLen) (unhide HSZ) (unhide HXZ)
      have HS2 := hide (ho2.ss q1)
      have HX2 := hide (ho2.ios q2)
      obtain ⟨LS, LX, HLF, HQ3, HQ4⟩ : ∃ LS LX, Hid ((landF h false ss xs k).1 = LS ∧ (landF h false ss xs k).2.1 = LX) ∧ Hid (LS.length = ss.length) ∧ Hid (LX.length ≤ 200) := ⟨_, _, hide ⟨rfl, rfl⟩, hide q3, hide (Nat.le_trans q4 (unhide HLX))⟩
      clear ho2 hb2 hv0 hv1 q1 q2 q3 q4
      rw [(unhide HLF).1] at HS2
      rw [(unhide HLF).2] at HX2 ⊢
      go_wp2_with fail
      refine (dropWrites_len po qo pa qa LS LX ss.length h _ (unhide HQ3) (by rw [unhide HQ3]; exact unhide HLS) (unhide HQ4) (unhide HS2) (unhide HX2)).mono ?_
      rintro e w3 ⟨p3, pa3, q3, qa3, rfl, ho3, hb3⟩
      have HO3 := hide (ho3.base (B' := w.heap.size + 2) (by have z1 := unhide HZ1; have z2 := unhide HZ2; simp at z1; omega))
      have HR3 := hide ((unhide HR2).below hb3)
      have HB3 := hide (fr (unhide HB2) hb3)
      clear ho3 hb3
      obtain ⟨hr0, hr1⟩ := (unhide HR3).cells
      have hr2 := (unhide HR3).free 0
      have hr3 := (unhide HR3).free 1
      obtain ⟨RX, HRX⟩ : ∃ RX, Hid (dropF h LX = RX) := ⟨_, hide rfl⟩
      rw [unhide HRX] at HO3 ⊢
      have HE := hide (land_end (w := w) (unhide HO3) (Nat.le_refl _) (unhide HB3) (.slice p3 ss.length pa3) (.slice q3 RX.length qa3))
      go_wp2
      obtain ⟨e1, e2, e3⟩ := unhide HW
      rw [e1, e2, e3, (landF_lost h k ss xs).1, (landF_lost h k ss xs).2, (unhide HLF).1, (unhide HLF).2, unhide HRX, unhide HQ3]
      exact bodyPost_ret (v := .tuple #[.agg #[.slice p3 ss.length pa3, .slice q3 RX.length qa3], .int .i64 0]) (by simp [results, Try.results13, go_sem, hr0, hr1]) rfl ⟨p3, pa3, q3, qa3, rfl, (unhide HE).1, (unhide HE).2⟩
  · have hb : (hostC ss xs h != 0) = true := by simp [hc]
    obtain ⟨e1, e2, e3⟩ := lo_bad (k := k) hc
    rw [e1, e2, e3]
    clear e1 e2 e3 hc
    go_enter Try.func13, Try.ntmps13
    go_wp2_with fail
    refine (hostFault_any _ _ _ _ ss xs h _ (unhide HL) (unhide HM) (unhide H1) (unhide H2)).mono ?_
    rintro e w1 ⟨rfl, hb1⟩
    have HR1 := hide ((unhide HR).below hb1)
    have HB1 := hide (fr (unhide HA) hb1)
    clear hb1
    obtain ⟨hr0, hr1⟩ := (unhide HR1).cells
    have hr2 := (unhide HR1).free 0
    have hr3 := (unhide HR1).free 1
    have HE := hide (zero_end (w := w) (wL := w1) (unhide HB1) (.slice none 0 0) (.slice none 0 0))
    go_wp2
    exact bodyPost_ret (v := .tuple #[.agg #[.slice none 0 0, .slice none 0 0], .int .i64 (hostC ss xs h)]) (by simp [results, Try.results13, go_sem, hr0, hr1]) rfl ⟨none, 0, none, 0, rfl, zeroD_own, unhide HE⟩

end Go.Proofs.Ytoiclgeeaednnaa
