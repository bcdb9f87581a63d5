import Derived.Test.YtllaoijjgkfgpaaGreatDoorPart7
import Derived.Test.YtllaoijjgkfgpaaGreatDoorPart6
import Derived.WalkKit
import Derived.WalkSpells
import Derived.KernelRfl
import Derived.Test.YtllaoijjgkfgpaaGreatDoorPart4
import Derived.Test.YtllaoijjgkfgpaaGreatDoorPart5

namespace Go.Proofs.YtllaoijjgkfgpaaGreatDoor
open Go.RowKit
set_option linter.unusedVariables false
set_option maxRecDepth 100000

theorem hlB_eq {ss : List ByteArray} {xs : List Wr} {h g : Int} (hc : hostC ss xs h = 0) : hlB ss xs h g = (decide ((ldOf ss xs h).own = h) && decide ((ldOf ss xs h).gen = g)) := by
  rw [hlB, decide_eq_true hc]; rfl
theorem wfC_zero (m : Wld) (h : Nat) (hc : hostC m.ss m.xs h = 0) : decide (wfC m h = 0) = (decide ((m.hs.getD h hst0).st = 1) && (decide (m.t - (m.hs.getD h hst0).ren < m.cf) && (decide ((ldOf m.ss m.xs h).own = h) && decide ((ldOf m.ss m.xs h).gen = (m.hs.getD h hst0).gen)))) := by
  unfold wfC
  rw [hlB_eq hc]
  by_cases k1 : (m.hs.getD h hst0).st = 1
  · by_cases k2 : (m.hs.getD h hst0).ren + m.cf ≤ m.t
    · rw [if_neg (fun k => k k1), if_pos k2, decide_eq_true k1, decide_eq_false (show ¬ m.t - (m.hs.getD h hst0).ren < m.cf by omega)]
      rfl
    · rw [if_neg (fun k => k k1), if_neg k2, decide_eq_true k1, decide_eq_true (show m.t - (m.hs.getD h hst0).ren < m.cf by omega)]
      cases (decide ((ldOf m.ss m.xs h).own = h) && decide ((ldOf m.ss m.xs h).gen = (m.hs.getD h hst0).gen)) <;> rfl
  · rw [if_pos k1, decide_eq_false k1]
    rfl

set_option maxHeartbeats 12800000 in
theorem l15May_any (a : Wl4) (m : Wld) (h : Nat) (w : World) (hR : WlR m) (hh : h ≤ 3) (hc : WlS w a m) :
    Calls Tryz.prog 18 #[wlV a m, .int .i64 h] w fun e w' => e = .returned (.bool (decide (wfC m h = 0))) ∧ Below w.heap.size w w' := by
  have HCZ : Hid (hostC m.ss m.xs h = 0) := hide (hostC_ok hR.d (by simp [inB]; omega))
  have HB0 := hide (Joins.below_alloc1 w (.cells (wlC a m) 50))
  have HV0 := hide (VarW.new w 50 a m)
  have HC0 := hide (hc.below (unhide HB0))
  have HD := hide hR.d
  have hl4 := hR.h4
  obtain ⟨y, hy⟩ : ∃ y, y = m.hs.getD h hst0 := ⟨_, rfl⟩
  have HREN : Hid (0 ≤ y.ren ∧ y.ren ≤ 1000000) := hide (by
    have := hR.hs h (by omega)
    have e : m.hs.getD h hst0 = m.hs[h]'(by omega) := by simp [hl4, show h < 4 by omega]
    rw [hy, e]; have := hR.t; omega)
  have HT := hide hR.t
  obtain ⟨R, HW⟩ : ∃ R, Hid (R = decide (wfC m h = 0)) := ⟨_, hide rfl⟩
  rw [← unhide HW]
  have HW1 := hide ((unhide HW).trans (wfC_zero m h (unhide HCZ)))
  rw [← hy] at HW1
  have HY := hide hy
  have hkl : (h : Int) < (m.hs.length : Int) := by omega
  have hk0 : (0 : Int) ≤ (h : Int) := by omega
  have HLH := hide (show h < m.hs.length by omega)
  clear hc hR HW hy hl4
  go_enter Tryz.func18, Tryz.ntmps18
  go_upto_region 1 with fail
  revert HB0 HV0 HC0
  generalize (w.alloc _) = W0
  intro HB0 HV0 HC0
  obtain ⟨b, off, hao, hbl, hn0, hn1, hn2⟩ := (unhide HC0).h.get h (unhide HLH)
  rw [← unhide HY] at hn0 hn1 hn2
  obtain ⟨c0, c1, c2, c3, c4, c5, c6, c7, c8, c9, c10, c11, c12, c13, c14⟩ := (unhide HV0).cells
  rw [hao] at c6
  have HBA := hide (Joins.below_alloc1 W0 (.cells #[.int .i64 y.st, .int .i64 y.gen, .int .i64 y.ren] 93))
  have HB1 := hide (fr (unhide HB0) (unhide HBA))
  have HX1 := hide (VarHs.new W0 y)
  have HV1 := hide ((unhide HV0).below (unhide HBA))
  have HC1 := hide ((unhide HC0).below (unhide HBA))
  clear HBA hao
  go_upto_region 2 with fail
  clear hbl hn0 hn1 hn2 c0 c1 c2 c3 c4 c5 c6 c7 c8 c9 c10 c11 c12 c13 c14 HB0 HV0 HC0 hkl hk0
  revert HB1 HX1 HV1 HC1
  generalize (W0.alloc _) = W1
  generalize W0.heap.size = px
  intro HB1 HX1 HV1 HC1
  obtain ⟨L, HK⟩ : ∃ L, Hid (ldOf m.ss m.xs h = L) := ⟨_, hide rfl⟩
  rw [unhide HK] at HW1
  obtain ⟨c0, c1, c2, c3, c4, c5, c6, c7, c8, c9, c10, c11, c12, c13, c14⟩ := (unhide HV1).cells
  go_wp2_with fail
  refine (l06Read_any a.ao a.bo a.ca a.cb m.ss m.xs h L _ (unhide HK) (unhide HD) (unhide HC1).s (unhide HC1).i).mono ?_
  rintro e w2 ⟨rfl, hb⟩
  have HBL := hide (Joins.below_alloc1 w2 (.cells #[.int .i64 L.ver, .int .i64 L.own, .int .i64 L.gen] 95))
  have HT2 := hide (VarT.new w2 95 L.ver L.own L.gen)
  have HB2 := hide (fr (fr (unhide HB1) hb) (unhide HBL))
  have HV2 := hide (((unhide HV1).below hb).below (unhide HBL))
  have HX2 := hide (((unhide HX1).below hb).below (unhide HBL))
  clear hb HB1 HV1 HX1 HC1 HBL c0 c1 c2 c3 c4 c5 c6 c7 c8 c9 c10 c11 c12 c13 c14
  go_upto_region 3 with fail
  revert HT2 HB2 HV2 HX2
  generalize (w2.alloc _) = W2
  generalize w2.heap.size = pl
  intro HT2 HB2 HV2 HX2
  obtain ⟨c0, c1, c2, c3, c4, c5, c6, c7, c8, c9, c10, c11, c12, c13, c14⟩ := (unhide HV2).cells
  obtain ⟨x0, x1, x2⟩ := (unhide HX2).cells
  obtain ⟨l0, l1, l2⟩ := (unhide HT2).cells
  have w1 : IntKind.i64.wrap (m.t - y.ren) = m.t - y.ren := wrapI (by have := unhide HREN; have := unhide HT; omega) (by have := unhide HREN; have := unhide HT; omega)
  have e1 : (y.st == 1) = decide (y.st = 1) := rfl
  have e2 : (L.own == (h : Int)) = decide (L.own = h) := rfl
  have e3 : (L.gen == y.gen) = decide (L.gen = y.gen) := rfl
  revert HW1
  rw [← e1, ← e2, ← e3]
  intro HW1
  cases b1 : (y.st == 1)
  · have HF : Hid (R = false) := hide (by rw [unhide HW1, b1]; rfl)
    clear e1 e2 e3
    go_wp2
    go_ret
    exact ⟨ret_bool (unhide HF).symm, unhide HB2⟩
  by_cases b2 : m.t - y.ren < m.cf
  rotate_left
  · have HF : Hid (R = false) := hide (by rw [unhide HW1, b1, decide_eq_false b2]; rfl)
    clear e1 e2 e3
    go_wp2
    go_ret
    exact ⟨ret_bool (unhide HF).symm, unhide HB2⟩
  cases b3 : (L.own == (h : Int))
  · have HF : Hid (R = false) := hide (by rw [unhide HW1, b1, decide_eq_true b2, b3]; rfl)
    clear e1 e2 e3
    go_wp2
    go_ret
    exact ⟨ret_bool (unhide HF).symm, unhide HB2⟩
  have HF : Hid (R = (L.gen == y.gen)) := hide (by rw [unhide HW1, b1, decide_eq_true b2, b3]; rfl)
  clear e1 e2 e3
  go_wp2
  go_ret
  exact ⟨ret_bool (unhide HF).symm, unhide HB2⟩

set_option maxHeartbeats 6400000 in
theorem mayWrite_spec (a : Wl4) (m : Wld) (h : Int) (w : World) (hL : WlL m) (hc : WlS w a m) :
    Calls Tryz.prog 6 #[wlV a m, .int .i64 h] w fun e w' => e = .returned (.tuple #[.bool (mwA m h).1, .int .i64 (mwA m h).2]) ∧ Below w.heap.size w w' := by
  have HB0 := hide (Joins.below_alloc1 w (.cells (wlC a m) 50))
  have HV0 := hide (VarW.new w 50 a m)
  have HC0 := hide (hc.below (unhide HB0))
  have HL := hide hL
  obtain ⟨R, HR⟩ : ∃ R, Hid (R = mwA m h) := ⟨_, hide rfl⟩
  rw [← unhide HR]
  clear hc hL
  go_enter Tryz.func6, Tryz.ntmps6
  go_upto_region 1 with fail
  revert HB0 HV0 HC0
  generalize (w.alloc _) = W0
  intro HB0 HV0 HC0
  obtain ⟨c0, c1, c2, c3, c4, c5, c6, c7, c8, c9, c10, c11, c12, c13, c14⟩ := (unhide HV0).cells
  go_wp2_with fail
  refine (worldOK_spec a m _ (unhide HL) (unhide HC0)).mono ?_
  rintro e w1 ⟨rfl, hb⟩
  have HB1 := hide (fr (unhide HB0) hb)
  have HV1 := hide ((unhide HV0).below hb)
  have HC1 := hide ((unhide HC0).below hb)
  clear hb HB0 HV0 HC0 c0 c1 c2 c3 c4 c5 c6 c7 c8 c9 c10 c11 c12 c13 c14
  cases hw : wokB m
  · have HF : Hid (R = (false, 1)) := hide ((unhide HR).trans (if_neg (by rw [hw]; decide)))
    clear hw
    go_wp2
    go_ret2
    exact ⟨ret_mw (unhide HF), unhide HB1⟩
  have HR1 : Hid (R = if inB h 0 3 = true then (decide (wfC m h.toNat = 0), 0) else (false, 4)) := hide ((unhide HR).trans (if_pos hw))
  have HWR := hide (wok_R hw)
  clear hw HR
  go_wp2_with fail
  refine (l04Host_any h _).mono ?_
  rintro e w2 ⟨rfl, hw⟩
  replace hw := hw.symm
  subst hw
  cases hh : inB h 0 3
  · have HF : Hid (R = (false, 4)) := hide ((unhide HR1).trans (if_neg (by rw [hh]; decide)))
    clear hh
    go_wp2
    go_ret2
    exact ⟨ret_mw (unhide HF), unhide HB1⟩
  have HR2 : Hid (R = (decide (wfC m h.toNat = 0), 0)) := hide ((unhide HR1).trans (if_pos hh))
  have h03 : 0 ≤ h ∧ h ≤ 3 := by simpa [inB] using hh
  clear hh HR1
  obtain ⟨n, rfl⟩ := Int.eq_ofNat_of_zero_le h03.1
  have HN : Hid (n ≤ 3) := hide (by omega)
  clear h03
  rw [Int.toNat_natCast] at HR2
  obtain ⟨c0, c1, c2, c3, c4, c5, c6, c7, c8, c9, c10, c11, c12, c13, c14⟩ := (unhide HV1).cells
  go_wp2_with fail
  refine (l15May_any a m n _ (unhide HWR) (unhide HN) (unhide HC1)).mono ?_
  rintro e w3 ⟨rfl, hb⟩
  have HB3 := hide (fr (unhide HB1) hb)
  clear hb c0 c1 c2 c3 c4 c5 c6 c7 c8 c9 c10 c11 c12 c13 c14
  go_wp2
  go_ret2
  exact ⟨ret_mw (unhide HR2), unhide HB3⟩

end Go.Proofs.YtllaoijjgkfgpaaGreatDoor

namespace Go.Proofs.YtllaoijjgkfgpaaGreatDoor
open Go.RowKit
set_option linter.unusedVariables false
set_option maxRecDepth 100000

theorem wkMayWrite (a : Wl4) (m : Wld) (h : Int) (w : World) (hL : WlL m) (hc : WlS w a m) (hE : ErrW w) :
    Calls Tryz.prog 3 #[wlV a m, .int .i64 h] w fun e w' => e = .returned (.bool true) ∧ Below w.heap.size w w' :=
  lawWoMayWrite a m h (mwA m h) w hL hc hE (fun b W hs => mayWrite_spec b m h W hL hs) (fun b W hs he => mayWrite_impl b m h W hL hs he)

end Go.Proofs.YtllaoijjgkfgpaaGreatDoor
