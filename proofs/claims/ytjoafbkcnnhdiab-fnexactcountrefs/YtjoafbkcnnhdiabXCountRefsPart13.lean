import Derived.Test.YtjoafbkcnnhdiabRows
import Derived.Test.YtjoafbkcnnhdiabXCountRefsPart1
import Derived.Test.YtjoafbkcnnhdiabXCountRefsPart2
import Derived.Test.YtjoafbkcnnhdiabXCountRefsPart11
import Derived.Test.YtjoafbkcnnhdiabXCountRefsPart3
import Derived.Test.YtjoafbkcnnhdiabXCountRefsPart4
import Derived.Test.YtjoafbkcnnhdiabXCountRefsPart6
import Derived.Test.YtjoafbkcnnhdiabXCountRefsPart5
import Derived.Test.YtjoafbkcnnhdiabXCountRefsPart12
import Derived.WalkKit
import Derived.WalkSpells
import Derived.KernelRfl
import Derived.LoopN
import Derived.BigQuiet
import Derived.Deep.QuietTactic
import Derived.Deep.RegionWith
import Derived.Test.YtjoafbkcnnhdiabXCountRefsPart7

/- Contracts of impl.countsFit, impl.imagePartsOK, impl.ImageOK. -/
namespace Go.Proofs.Ytjoafbkcnnhdiab
open Go.RowKit
set_option linter.unusedVariables false
set_option maxRecDepth 100000

/-- All but what a count of the tables would tell. -/
def partsB (m : Img) : Bool := ctB m.refs && datB m.data && snpsB m.snaps && tabsB (imTabs m)
/-- Counts and data fit the tables. -/
def fitB (m : Img) : Bool := decide (imCnt m = m.refs) && clearB m
theorem tabs_all {ts : List (List Int)} : tabsB ts = (ts.all tbB && ts.all onceB) := by
  unfold tabsB
  induction ts with
  | nil => rfl
  | cons t ts ih =>
    simp only [List.all_cons, ih]
    cases tbB t <;> cases onceB t <;> simp
theorem imB_parts (m : Img) : imB m = (partsB m && fitB m) := by
  have e : (imTabs m).all tbB = (tbB m.table && m.snaps.all (fun s => tbB s.table)) := by
    unfold imTabs
    rw [List.all_cons, List.all_map]; rfl
  have e2 : m.snaps.all (fun s => snmB s.name && tbB s.table) = (m.snaps.all (fun s => snmB s.name) && m.snaps.all (fun s => tbB s.table)) := by
    induction m.snaps with
    | nil => rfl
    | cons s ss ih =>
      simp only [List.all_cons, ih]
      cases snmB s.name <;> cases tbB s.table <;> simp
  unfold imB imFm partsB fitB datB snpsB
  rw [tabs_all, e, e2]
  cases ctB m.refs <;> cases tbB m.table <;> cases decide (m.snaps.length ≤ 3) <;> cases decide (m.data.length = 24) <;> cases m.snaps.all (fun s => snmB s.name) <;> cases m.snaps.all (fun s => tbB s.table) <;> cases namesB m.snaps <;> cases m.data.all numB <;> simp [Bool.and_assoc]
theorem parts_of {m : Img} (h : partsB m = true) : m.refs.length = 24 ∧ m.data.length = 24 ∧ m.snaps.length ≤ 3 ∧ ∀ t ∈ imTabs m, tbB t = true := by
  unfold partsB datB snpsB at h
  rw [tabs_all] at h
  simp only [Bool.and_eq_true, decide_eq_true_eq, List.all_eq_true] at h
  obtain ⟨⟨⟨h1, h2, _⟩, ⟨h3, _⟩, _⟩, h4, _⟩ := h
  exact ⟨ctB_len h1, h2, h3, h4⟩
theorem fit_cnt {m : Img} {i : Nat} (hl : m.refs.length = 24) (hi : i < 24) (h : ¬ m.refs.getD i 0 = (imCnt m).getD i 0) : fitB m = false := by
  have e : decide (imCnt m = m.refs) = false := decide_eq_false (fun e => h (by rw [e]))
  rw [fitB, e]; rfl
theorem fit_clear {m : Img} {i : Nat} (hi : i < 24) (he : m.refs.getD i 0 = (imCnt m).getD i 0) (hz : (imCnt m).getD i 0 = 0) (hd : ¬ m.data.getD i 0 = 0) : fitB m = false := by
  have e : clearB m = false := by
    unfold clearB
    cases hh : (List.range 24).all _ with
    | false => rfl
    | true =>
      rw [List.all_eq_true] at hh
      have := hh i (List.mem_range.2 hi)
      simp only [decide_eq_true_eq] at this
      exact absurd (this (he.trans hz)) hd
  rw [fitB, e]; simp
theorem fit_yes {m : Img} (hl : m.refs.length = 24) (h1 : ∀ i, i < 24 → m.refs.getD i 0 = (imCnt m).getD i 0) (h2 : ∀ i, i < 24 → (imCnt m).getD i 0 = 0 → m.data.getD i 0 = 0) : fitB m = true := by
  have e : imCnt m = m.refs := List.ext_getElem (by rw [imCnt_len, hl]) (fun i ha hb => by
    have := h1 i (by omega)
    simpa [List.getD, ha, hb] using this.symm)
  have e2 : clearB m = true := by
    unfold clearB
    rw [List.all_eq_true]
    intro i hi
    have hi' := List.mem_range.1 hi
    exact decide_eq_true (fun h => h2 i hi' (by rw [← h1 i hi']; exact h))
  rw [fitB, decide_eq_true e, e2]; rfl

set_option maxHeartbeats 3200000 in
theorem countsFit_any (a : Im4) (m : Img) (w : World) (hr : m.refs.length = 24) (hd : m.data.length = 24) (hs : m.snaps.length ≤ 3) (ht : ∀ t ∈ imTabs m, tbB t = true) (hc : ImS w a m) :
    Calls Try.prog 71 #[imV a m] w fun e w' => e = .returned (.bool (fitB m)) ∧ Below w.heap.size w w' := by
  have HA := hide (Joins.below_alloc1 w (.cells #[.slice a.ro m.refs.length a.rc, .slice a.tq m.table.length a.tc, .slice a.so m.snaps.length a.sc, .slice a.dq m.data.length a.dc] 29))
  have HV := hide (VarM.new w 29 (.slice a.ro m.refs.length a.rc) (.slice a.tq m.table.length a.tc) (.slice a.so m.snaps.length a.sc) (.slice a.dq m.data.length a.dc))
  have HC := hide (hc.below (unhide HA))
  have HR24 := hide hr
  have HD24 := hide hd
  have HTB := hide ht
  have HLT := hide (imTabs_len m)
  clear hc hr hd ht
  go_enter Try.func71, Try.ntmps71
  go_upto_region 1 with fail
  revert HA HV HC
  generalize (w.alloc _) = W0
  intro HA HV HC
  obtain ⟨c0, c1, c2, c3⟩ := (unhide HV).cells
  go_wp2_with fail
  refine (tablesOf_any a m _ hs (unhide HC)).mono ?_
  rintro e w1 ⟨qo, qa, rfl, hrow, hb⟩
  have HROW := hide hrow
  have HB1 := hide (fr (unhide HA) hb)
  have HC1 := hide ((unhide HC).below hb)
  have HV1 := hide ((unhide HV).below hb)
  clear hb hrow c0 c1 c2 c3 HA HV HC
  go_wp2_with fail
  refine (usesOf_any qo qa (imTabs m) _ (by rw [unhide HLT]; omega) (unhide HTB) (unhide HROW)).mono ?_
  rintro e w2 ⟨B, D, rfl, hBge, hmp, hct, hb⟩
  have HB2 := hide (fr (unhide HB1) hb)
  have HC2 := hide ((unhide HC1).below hb)
  have HV2 := hide ((unhide HV1).below hb)
  have HM : Hid (MpC w2 B 1000 D (imCnt m)) := hide hmp
  clear hb hmp hct hBge HB1 HC1 HV1 HROW
  go_wp2
  go_loopw [8] (fun i wr => ∃ k : Nat, k ≤ 24 ∧ i = .int .i64 k ∧ Hid (∀ j, j < k → m.refs.getD j 0 = (imCnt m).getD j 0) ∧ Hid (∀ j, j < k → (imCnt m).getD j 0 = 0 → m.data.getD j 0 = 0) ∧ Hid (Below w2.heap.size w2 wr)) (fun i _ => 24 - (intOf i).toNat)
  case atStart => exact ⟨0, by omega, rfl, hide (fun j h => by omega), hide (fun j h => by omega), hide (Below.refl _ _)⟩
  case round =>
    obtain ⟨k, hk, rfl, HE, HZ, HB⟩ := hrel
    by_cases hlt : k < 24
    · have hlti : (k : Int) < 24 := by omega
      have kr : k < m.refs.length := by rw [unhide HR24]; exact hlt
      have kd : k < m.data.length := by rw [unhide HD24]; exact hlt
      have kri : (k : Int) < (m.refs.length : Int) := by omega
      have kdi : (k : Int) < (m.data.length : Int) := by omega
      obtain ⟨c0, c1, c2, c3⟩ := ((unhide HV2).below (unhide HB)).cells
      have hlk : ∀ W : World, Below wr.heap.size wr W → (Instr.lookup 89 (.map (some B)) (.int .i64 (k : Int)) false).run Try.prog W = .ok (.int .i64 ((imCnt m).getD k 0)) W := fun W hW => ((unhide HM).below (fr (unhide HB) hW)).look hlt
      obtain ⟨b2, o2, e2, hx2⟩ := ((unhide HC2).r.below (unhide HB)) k kr
      obtain ⟨b3, o3, e3, hx3⟩ := ((unhide HC2).d.below (unhide HB)) k kd
      rw [e2] at c0
      rw [e3] at c3
      clear e2 e3 c1 c2
      have er : m.refs.getD k 0 = m.refs[k] := by simp [List.getD, kr]
      have ed : m.data.getD k 0 = m.data[k] := by simp [List.getD, kd]
      have HER : Hid (m.refs[k] = (imCnt m).getD k 0 → ∀ j, j < k + 1 → m.refs.getD j 0 = (imCnt m).getD j 0) := hide (fun h j hj => by
        by_cases e : j = k
        · subst e; rw [er]; exact h
        · exact unhide HE j (by omega))
      have HZR : Hid (((imCnt m).getD k 0 = 0 → m.data[k] = 0) → ∀ j, j < k + 1 → (imCnt m).getD j 0 = 0 → m.data.getD j 0 = 0) := hide (fun h j hj => by
        by_cases e : j = k
        · subst e; rw [ed]; exact h
        · exact unhide HZ j (by omega))
      have HF1 : Hid (¬ m.refs[k] = (imCnt m).getD k 0 → fitB m = false) := hide (fun h => fit_cnt (unhide HR24) hlt (by rw [er]; exact h))
      have HF2 : Hid (m.refs[k] = (imCnt m).getD k 0 → (imCnt m).getD k 0 = 0 → ¬ m.data[k] = 0 → fitB m = false) := hide (fun h0 h1 h2 => fit_clear hlt (by rw [er]; exact h0) h1 (by rw [ed]; exact h2))
      clear er ed
      generalize (imCnt m).getD k 0 = X at *
      generalize m.refs[k] = R at *
      generalize m.data[k] = DD at *
      have hl0 := fun (n : Nat) => hlk (wr.drewN n) (Joins.below_draws _ _ _)
      by_cases hne : R = X
      · by_cases hz : X = 0
        · by_cases hd : DD = 0
          · have HE' := hide (unhide HER hne)
            have HZ' := hide (unhide HZR (fun _ => hd))
            have b1' : (R != X) = false := by simp [hne]
            have b2' : (X == 0) = true := by simp [hz]
            have b3' : (DD != 0) = false := by simp [hd]
            clear hne hz hd
            go_wp2
            go_quiet (fail)
            go_wp2
            go_roundw
            case rel => exact ⟨k + 1, by omega, by go_num, HE', HZ', hide ((unhide HB).trans (Joins.below_draws _ _ _))⟩
            case measure => simp [intOf]; omega
          · have HF := hide (unhide HF2 hne hz hd)
            have b1' : (R != X) = false := by simp [hne]
            have b2' : (X == 0) = true := by simp [hz]
            have b3' : (DD != 0) = true := by simp [hd]
            clear hne hz hd
            go_wp2
            go_quiet (fail)
            go_wp2
            go_ret
            exact ⟨ret_bool (unhide HF).symm, fr (unhide HB2) ((unhide HB).trans (Joins.below_draws _ _ _))⟩
        · have HE' := hide (unhide HER hne)
          have HZ' := hide (unhide HZR (fun h => absurd h hz))
          have b1' : (R != X) = false := by simp [hne]
          have b2' : (X == 0) = false := by simp [hz]
          clear hne hz
          go_wp2
          go_quiet (fail)
          go_wp2
          go_roundw
          case rel => exact ⟨k + 1, by omega, by go_num, HE', HZ', hide ((unhide HB).trans (Joins.below_draws _ _ _))⟩
          case measure => simp [intOf]; omega
      · have HF := hide (unhide HF1 hne)
        have b1' : (R != X) = true := by simp [hne]
        clear hne
        go_wp2
        go_quiet (fail)
        go_wp2
        go_ret
        exact ⟨ret_bool (unhide HF).symm, fr (unhide HB2) ((unhide HB).trans (Joins.below_draws _ _ _))⟩
    · have HF := hide (fit_yes (unhide HR24) (fun i h => unhide HE i (by omega)) (fun i h => unhide HZ i (by omega)))
      go_wp2
      go_ret
      exact ⟨ret_bool (unhide HF).symm, fr (unhide HB2) (unhide HB)⟩

set_option maxHeartbeats 3200000 in
theorem imagePartsOK_any (a : Im4) (m : Img) (w : World) (hL : ImL m) (hc : ImS w a m) :
    Calls Try.prog 54 #[imV a m] w fun e w' => e = .returned (.bool (partsB m)) ∧ Below w.heap.size w w' := by
  have HA := hide (Joins.below_alloc1 w (.cells #[.slice a.ro m.refs.length a.rc, .slice a.tq m.table.length a.tc, .slice a.so m.snaps.length a.sc, .slice a.dq m.data.length a.dc] 29))
  have HV := hide (VarM.new w 29 (.slice a.ro m.refs.length a.rc) (.slice a.tq m.table.length a.tc) (.slice a.so m.snaps.length a.sc) (.slice a.dq m.data.length a.dc))
  have HC := hide (hc.below (unhide HA))
  have HL := hide hL
  have HLT := hide (imTabs_len m)
  have HZT : Hid (∀ t ∈ imTabs m, t.length ≤ maxLen) := hide (fun t ht => by
    unfold imTabs at ht
    rw [List.mem_cons, List.mem_map] at ht
    rcases ht with rfl | ⟨s, hs, rfl⟩
    · exact hL.t
    · obtain ⟨j, hj, rfl⟩ := List.mem_iff_getElem.1 hs
      obtain ⟨_, _, _, _, _, _, _, _, _, h⟩ := hc.s j hj
      exact h)
  clear hc hL
  go_enter Try.func54, Try.ntmps54
  go_upto_region 1 with fail
  revert HA HV HC
  generalize (w.alloc _) = W0
  intro HA HV HC
  obtain ⟨c0, c1, c2, c3⟩ := (unhide HV).cells
  go_wp2_with fail
  refine (refsOK_impl _ _ m.refs _ (unhide HL).r (unhide HC).r).mono ?_
  rintro e w1 ⟨rfl, hw⟩
  replace hw := hw.symm
  subst hw
  cases h1 : ctB m.refs
  · have HF : Hid (partsB m = false) := hide (by rw [partsB, h1]; rfl)
    go_wp2
    go_ret
    exact ⟨ret_bool (unhide HF).symm, unhide HA⟩
  go_wp2_with fail
  refine (dataOK_any _ _ m.data _ (unhide HL).d (unhide HC).d).mono ?_
  rintro e w1 ⟨rfl, hw⟩
  replace hw := hw.symm
  subst hw
  cases h2 : datB m.data
  · have HF : Hid (partsB m = false) := hide (by rw [partsB, h1, h2]; rfl)
    go_wp2
    go_ret
    exact ⟨ret_bool (unhide HF).symm, unhide HA⟩
  go_wp2_with fail
  refine (snapNamesOK_any _ _ m.snaps _ (unhide HL).s (unhide HC).s).mono ?_
  rintro e w2 ⟨rfl, hb⟩
  have HB2 := hide (fr (unhide HA) hb)
  have HC2 := hide ((unhide HC).below hb)
  have HV2 := hide ((unhide HV).below hb)
  clear hb c0 c1 c2 c3 HA HV HC
  cases h3 : snpsB m.snaps
  · have HF : Hid (partsB m = false) := hide (by rw [partsB, h1, h2, h3]; rfl)
    go_wp2
    go_ret
    exact ⟨ret_bool (unhide HF).symm, unhide HB2⟩
  have HF : Hid (partsB m = tabsB (imTabs m)) := hide (by rw [partsB, h1, h2, h3]; rfl)
  have hs3 : m.snaps.length ≤ 3 := by
    unfold snpsB at h3
    simp only [Bool.and_eq_true, decide_eq_true_eq] at h3
    exact h3.1.1
  clear h1 h2 h3
  obtain ⟨c0, c1, c2, c3⟩ := (unhide HV2).cells
  go_wp2_with fail
  refine (tablesOf_any a m _ hs3 (unhide HC2)).mono ?_
  rintro e w3 ⟨qo, qa, rfl, hrow, hb⟩
  have HROW := hide hrow
  have HB3 := hide (fr (unhide HB2) hb)
  clear hb hrow c0 c1 c2 c3
  go_wp2_with fail
  refine (tablesOK_any qo qa (imTabs m) _ (by rw [unhide HLT]; omega) (unhide HZT) (unhide HROW)).mono ?_
  rintro e w4 ⟨rfl, hb⟩
  have HB4 := hide (fr (unhide HB3) hb)
  clear hb
  generalize tabsB (imTabs m) = T at *
  go_wp2
  go_ret
  exact ⟨ret_bool (by rw [unhide HF]), unhide HB4⟩

set_option maxHeartbeats 3200000 in
theorem imageOK_impl (a : Im4) (m : Img) (w : World) (hL : ImL m) (hc : ImS w a m) :
    Calls Try.prog 50 #[imV a m] w fun e w' => e = .returned (.bool (imB m)) ∧ Below w.heap.size w w' := by
  have HA := hide (Joins.below_alloc1 w (.cells #[.slice a.ro m.refs.length a.rc, .slice a.tq m.table.length a.tc, .slice a.so m.snaps.length a.sc, .slice a.dq m.data.length a.dc] 29))
  have HV := hide (VarM.new w 29 (.slice a.ro m.refs.length a.rc) (.slice a.tq m.table.length a.tc) (.slice a.so m.snaps.length a.sc) (.slice a.dq m.data.length a.dc))
  have HC := hide (hc.below (unhide HA))
  have HL := hide hL
  have HP := hide (imB_parts m)
  clear hc hL
  go_enter Try.func50, Try.ntmps50
  go_upto_region 1 with fail
  revert HA HV HC
  generalize (w.alloc _) = W0
  intro HA HV HC
  obtain ⟨c0, c1, c2, c3⟩ := (unhide HV).cells
  go_wp2_with fail
  refine (imagePartsOK_any a m _ (unhide HL) (unhide HC)).mono ?_
  rintro e w1 ⟨rfl, hb⟩
  have HB1 := hide (fr (unhide HA) hb)
  have HC1 := hide ((unhide HC).below hb)
  have HV1 := hide ((unhide HV).below hb)
  clear hb c0 c1 c2 c3 HA HV HC
  cases hp : partsB m
  · have HF : Hid (imB m = false) := hide (by rw [unhide HP, hp]; rfl)
    go_wp2
    go_ret
    exact ⟨ret_bool (unhide HF).symm, unhide HB1⟩
  have HF : Hid (imB m = fitB m) := hide (by rw [unhide HP, hp]; rfl)
  have HX := hide (parts_of hp)
  clear hp
  obtain ⟨c0, c1, c2, c3⟩ := (unhide HV1).cells
  go_wp2_with fail
  refine (countsFit_any a m _ (unhide HX).1 (unhide HX).2.1 (unhide HX).2.2.1 (unhide HX).2.2.2 (unhide HC1)).mono ?_
  rintro e w2 ⟨rfl, hb⟩
  have HB2 := hide (fr (unhide HB1) hb)
  clear hb c0 c1 c2 c3
  generalize fitB m = F at *
  go_wp2
  go_ret
  exact ⟨ret_bool (by rw [unhide HF]), unhide HB2⟩

end Go.Proofs.Ytjoafbkcnnhdiab

/- Counts and data that follow the tables: imFit; the contract of impl.fitToTables. -/
namespace Go.Proofs.Ytjoafbkcnnhdiab
open Go.RowKit
set_option linter.unusedVariables false
set_option maxRecDepth 100000

/-- Counts and data as the tables have them. -/
def imFit (m : Img) : Img := { m with refs := imCnt m, data := (List.range 24).map fun i => if (imCnt m).getD i 0 = 0 then 0 else m.data.getD i 0 }
/-- .. of the first clusters. -/
def fitTo (m : Img) (cs : List Int) : Nat → Img
  | 0 => m
  | k + 1 => { fitTo m cs k with refs := (fitTo m cs k).refs.set k (cs.getD k 0), data := if cs.getD k 0 = 0 then (fitTo m cs k).data.set k 0 else (fitTo m cs k).data }
theorem fitTo_lens (m : Img) (cs : List Int) : ∀ k, (fitTo m cs k).refs.length = m.refs.length ∧ (fitTo m cs k).data.length = m.data.length ∧ (fitTo m cs k).table = m.table ∧ (fitTo m cs k).snaps = m.snaps
  | 0 => ⟨rfl, rfl, rfl, rfl⟩
  | k + 1 => by
    obtain ⟨h1, h2, h3, h4⟩ := fitTo_lens m cs k
    refine ⟨by simp [fitTo, h1], ?_, h3, h4⟩
    unfold fitTo
    simp only
    split
    · rw [List.length_set]; exact h2
    · exact h2
theorem fitTo_get (m : Img) (cs : List Int) (hr : m.refs.length = 24) (hd : m.data.length = 24) : ∀ k, k ≤ 24 → ∀ i, i < 24 → (fitTo m cs k).refs.getD i 0 = (if i < k then cs.getD i 0 else m.refs.getD i 0) ∧ (fitTo m cs k).data.getD i 0 = (if i < k ∧ cs.getD i 0 = 0 then 0 else m.data.getD i 0)
  | 0, _, i, _ => by simp [fitTo]
  | k + 1, hk, i, hi => by
    obtain ⟨h1, h2⟩ := fitTo_get m cs hr hd k (by omega) i hi
    obtain ⟨l1, l2, _, _⟩ := fitTo_lens m cs k
    constructor
    · have e : (fitTo m cs (k + 1)).refs = (fitTo m cs k).refs.set k (cs.getD k 0) := rfl
      rw [e]
      by_cases hik : i = k
      · subst hik
        rw [if_pos (by omega)]
        simp [List.getD, l1, hr, hi]
      · have : (i < k + 1) ↔ (i < k) := by omega
        simp only [this]
        rw [← h1]
        simp [List.getD, Ne.symm hik]
    · have e : (fitTo m cs (k + 1)).data = if cs.getD k 0 = 0 then (fitTo m cs k).data.set k 0 else (fitTo m cs k).data := rfl
      rw [e]
      by_cases hik : i = k
      · subst hik
        by_cases hz : cs.getD i 0 = 0
        · rw [if_pos hz, if_pos ⟨by omega, hz⟩]
          simp [List.getD, l2, hd, hi]
        · rw [if_neg hz, h2, if_neg (fun h => hz h.2), if_neg (fun h => hz h.2)]
      · have : (i < k + 1) ↔ (i < k) := by omega
        simp only [this]
        rw [← h2]
        split
        · simp [List.getD, Ne.symm hik]
        · rfl
theorem getD_ext {xs ys : List Int} (h1 : xs.length = 24) (h2 : ys.length = 24) (h : ∀ i, i < 24 → xs.getD i 0 = ys.getD i 0) : xs = ys :=
  List.ext_getElem (by rw [h1, h2]) (fun i ha hb => by
    have := h i (by omega)
    simpa [List.getD, ha, hb] using this)
theorem range_getD {f : Nat → Int} {i : Nat} (hi : i < 24) : ((List.range 24).map f).getD i 0 = f i := by simp [List.getD, hi]
theorem fitTo_all (m : Img) (hr : m.refs.length = 24) (hd : m.data.length = 24) : fitTo m (imCnt m) 24 = imFit m := by
  obtain ⟨l1, l2, l3, l4⟩ := fitTo_lens m (imCnt m) 24
  have e1 : (fitTo m (imCnt m) 24).refs = imCnt m := getD_ext (by rw [l1, hr]) (imCnt_len m) (fun i hi => by
    rw [(fitTo_get m (imCnt m) hr hd 24 (Nat.le_refl _) i hi).1, if_pos hi])
  have e2 : (fitTo m (imCnt m) 24).data = (List.range 24).map fun i => if (imCnt m).getD i 0 = 0 then 0 else m.data.getD i 0 := getD_ext (by rw [l2, hd]) (by simp) (fun i hi => by
    rw [(fitTo_get m (imCnt m) hr hd 24 (Nat.le_refl _) i hi).2, range_getD hi]
    simp [hi])
  have key : ∀ F : Img, F.refs = imCnt m → F.table = m.table → F.snaps = m.snaps → F.data = ((List.range 24).map fun i => if (imCnt m).getD i 0 = 0 then 0 else m.data.getD i 0) → F = imFit m := by
    rintro ⟨r, t, s, d⟩ h1 h2 h3 h4
    simp only at h1 h2 h3 h4
    subst h1 h2 h3 h4
    rfl
  exact key _ e1 l3 l4 e2
/-- Cells are no map. -/
theorem MpC.setCell {w : World} {B n : Nat} {D : DataW Unit} {ns : List Int} (h : MpC w B n D ns) {p : Addr} {u : Value} (hc : w.cell? p = some u) (v : Value) : MpC (w.setCell p v) B n D ns := by
  have hk : Keep (fun g => g = p.block) w (w.setCell p v) := (Keep.refl (fun g => g = p.block) w).setCell (p := p) rfl v
  refine h.keep hk (fun e => ?_)
  obtain ⟨⟨es, clock, hb, _⟩, _⟩ := h
  have e' : B = p.block := e
  rw [e'] at hb
  simp [World.cell?, hb] at hc
theorem ImB.lens {a : Im4} {m m' : Img} {ts : List Value} {g : Nat} (e1 : m'.refs.length = m.refs.length) (e2 : m'.table.length = m.table.length) (e3 : m'.snaps.length = m.snaps.length) (e4 : m'.data.length = m.data.length) (h : ImB a m' ts g) : ImB a m ts g := by
  unfold ImB at h ⊢
  rw [e1, e2, e3, e4] at h
  exact h

set_option maxHeartbeats 3200000 in
theorem fitToTables_any (a : Im4) (m : Img) (ts : List Value) (B p : Nat) (w : World) (hr : m.refs.length = 24) (hd : m.data.length = 24) (hs : m.snaps.length ≤ 3) (ht : ∀ t ∈ imTabs m, tbB t = true) (hz : ∀ s ∈ m.snaps, s.name.size ≤ maxLen ∧ s.table.length ≤ maxLen)
    (hv : VarM w p 29 (.slice a.ro m.refs.length a.rc) (.slice a.tq m.table.length a.tc) (.slice a.so m.snaps.length a.sc) (.slice a.dq m.data.length a.dc)) (ho : OwnIm w B a m ts) :
    Calls Try.prog 67 #[.pointer (some ⟨p, 0, none⟩)] w fun e w' => e = .returned (.tuple #[]) ∧ OwnIm w' B a (imFit m) ts ∧ Keep (ImB a m ts) w w' := by
  have HV := hide hv
  have HO := hide ho
  have HC := hide (ho.shows hz)
  have HR24 := hide hr
  have HD24 := hide hd
  have HTB := hide ht
  have HLT := hide (imTabs_len m)
  have HALL := hide (fitTo_all m hr hd)
  clear hv ho hr hd ht hz
  obtain ⟨c0, c1, c2, c3⟩ := (unhide HV).cells
  go_enter Try.func67, Try.ntmps67
  go_wp2_with fail
  refine (tablesOf_any a m _ hs (unhide HC)).mono ?_
  rintro e w1 ⟨qo, qa, rfl, hrow, hb⟩
  have HROW := hide hrow
  have HB1 := hide hb
  clear hb hrow c0 c1 c2 c3
  go_wp2_with fail
  refine (usesOf_any qo qa (imTabs m) _ (by rw [unhide HLT]; omega) (unhide HTB) (unhide HROW)).mono ?_
  rintro e w2 ⟨M, D, rfl, hBge, hmp, hct, hb⟩
  have HB2 := hide (fr (unhide HB1) hb)
  have HO2 := hide ((unhide HO).below (unhide HB2))
  have HV2 := hide ((unhide HV).below (unhide HB2))
  have HM : Hid (MpC w2 M 1000 D (imCnt m)) := hide hmp
  clear hb hmp hct hBge HB1 HROW HC HO HV
  generalize imCnt m = cs at *
  go_wp2
  go_loopw [9] (fun i wr => ∃ k : Nat, k ≤ 24 ∧ i = .int .i64 k ∧ Hid (OwnIm wr B a (fitTo m cs k) ts) ∧ Hid (VarM wr p 29 (.slice a.ro m.refs.length a.rc) (.slice a.tq m.table.length a.tc) (.slice a.so m.snaps.length a.sc) (.slice a.dq m.data.length a.dc)) ∧ Hid (MpC wr M 1000 D cs) ∧ Hid (Keep (ImB a m ts) w2 wr)) (fun i _ => 24 - (intOf i).toNat)
  case atStart => exact ⟨0, by omega, rfl, HO2, HV2, HM, hide (Keep.refl _ _)⟩
  case round =>
    clear HO2 HV2 HM
    obtain ⟨k, hk, rfl, HO, HV, HM, HK⟩ := hrel
    by_cases hlt : k < 24
    · have hlti : (k : Int) < 24 := by omega
      have HLS := hide (fitTo_lens m cs k)
      have HST : Hid (fitTo m cs (k + 1) = { fitTo m cs k with refs := (fitTo m cs k).refs.set k (cs.getD k 0), data := if cs.getD k 0 = 0 then (fitTo m cs k).data.set k 0 else (fitTo m cs k).data }) := hide rfl
      have kri : (k : Int) < (m.refs.length : Int) := by rw [unhide HR24]; omega
      have kdi : (k : Int) < (m.data.length : Int) := by rw [unhide HD24]; omega
      generalize fitTo m cs k = F at *
      have hlk := (unhide HM).look hlt
      have hlk2 : (Instr.lookup 89 (.map (some M)) (.int .i64 (k : Int)) false).run Try.prog wr.drew = .ok (.int .i64 (cs.getD k 0)) wr.drew := ((unhide HM).below (Below.refl _ _).drew).look hlt
      have HLK : Hid (∀ W, MpC W M 1000 D cs → (Instr.lookup 89 (.map (some M)) (.int .i64 (k : Int)) false).run Try.prog W = .ok (.int .i64 (cs.getD k 0)) W) := hide (fun W h => h.look hlt)
      generalize cs.getD k 0 = X at *
      obtain ⟨g1, e1, hg1, hf1, hi1, hs1⟩ := (unhide HO).setR (c := k) (by rw [(unhide HLS).1, unhide HR24]; exact hlt)
      have HO1 := hide ((hs1 X).below (Below.refl _ _).drew)
      have HI1 : Hid (ImB a m ts g1) := hide (ImB.lens (unhide HLS).1 (by rw [(unhide HLS).2.2.1]) (by rw [(unhide HLS).2.2.2]) (unhide HLS).2.1 hi1)
      have HK1 : Hid (Keep (ImB a m ts) w2 (wr.setCell ⟨g1, k, none⟩ (.int .i64 X)).drew) := hide (((unhide HK).setCell (p := ⟨g1, k, none⟩) (unhide HI1) _).trans (Keep.of_below (Below.refl _ _).drew))
      have HM1 := hide (((unhide HM).setCell hg1 (.int .i64 X)).below (Below.refl _ _).drew)
      have hpg : p ≠ g1 := fun e => (unhide HO).other (e ▸ unhide HV) hi1
      have HV1 := hide (((unhide HV).other (p := ⟨g1, k, none⟩) hpg (.int .i64 X)).below (Below.refl _ _).drew)
      obtain ⟨c0, c1, c2, c3⟩ := (unhide HV).cells
      rw [e1] at c0
      clear e1 hs1 hi1
      go_upto_region 4 with fail
      go_region
      revert HO1 HK1 HM1 HV1
      generalize (World.drew _) = W1
      intro HO1 HK1 HM1 HV1
      clear c0 c1 c2 c3 hg1 hf1 hlk hlk2 hpg
      have hlk3 := unhide HLK W1 (unhide HM1)
      obtain ⟨c0, c1, c2, c3⟩ := (unhide HV1).cells
      by_cases hz : X = 0
      · obtain ⟨g2, e2, hg2, hf2, hi2, hs2⟩ := (unhide HO1).setD (c := k) (by show k < F.data.length; rw [(unhide HLS).2.1, unhide HD24]; exact hlt)
        have HO2 : Hid (OwnIm (W1.setCell ⟨g2, k, none⟩ (.int .i64 0)) B a (fitTo m cs (k + 1)) ts) := hide (by rw [unhide HST, if_pos hz]; exact hs2 0)
        have HI2 : Hid (ImB a m ts g2) := hide (ImB.lens (m' := { F with refs := F.refs.set k X }) (by simp [(unhide HLS).1]) (by show F.table.length = _; rw [(unhide HLS).2.2.1]) (by show F.snaps.length = _; rw [(unhide HLS).2.2.2]) (unhide HLS).2.1 hi2)
        have HK2 := hide ((unhide HK1).setCell (p := ⟨g2, k, none⟩) (unhide HI2) (.int .i64 0))
        have HM2 := hide ((unhide HM1).setCell hg2 (.int .i64 0))
        have hpg : p ≠ g2 := fun e => (unhide HO1).other (e ▸ unhide HV1) hi2
        have HV2 := hide ((unhide HV1).other (p := ⟨g2, k, none⟩) hpg (.int .i64 0))
        have bz : (X == 0) = true := by simp [hz]
        rw [e2] at c3
        clear e2 hs2 hi2 hz
        go_wp2
        go_roundw
        case rel => exact ⟨k + 1, by omega, by go_num, HO2, HV2, HM2, HK2⟩
        case measure => simp [intOf]; omega
      · have HO2 : Hid (OwnIm W1 B a (fitTo m cs (k + 1)) ts) := hide (by rw [unhide HST, if_neg hz]; exact unhide HO1)
        have bz : (X == 0) = false := by simp [hz]
        clear hz
        go_wp2
        go_roundw
        case rel => exact ⟨k + 1, by omega, by go_num, HO2, HV1, HM1, HK1⟩
        case measure => simp [intOf]; omega
    · obtain rfl : k = 24 := by omega
      go_wp2
      go_end0
      exact ⟨rfl, by rw [← unhide HALL]; exact unhide HO, (Keep.of_below (unhide HB2)).trans (unhide HK)⟩

end Go.Proofs.Ytjoafbkcnnhdiab

/- Plain: counts that follow the tables are those that the model reckons. -/
namespace Go.Proofs.Ytjoafbkcnnhdiab
open Go.RowKit
set_option linter.unusedVariables false
set_option maxRecDepth 100000

/-- How often a table has a cluster. -/
def cN (t : List Int) (i : Nat) : Int := (t.count ((i : Int) + 2) : Int)
theorem cN_nn (t : List Int) (i : Nat) : 0 ≤ cN t i := by unfold cN; omega
theorem clA_count (t : List Int) (i : Nat) : ((clA t).count (i : Int) : Int) = cN t i := by
  unfold clA clTo cN
  rw [List.take_length]
  induction t with
  | nil => rfl
  | cons e t ih =>
    rw [List.filterMap_cons, List.count_cons]
    by_cases h : 2 ≤ e
    · rw [if_pos h]
      simp only [List.count_cons]
      by_cases h2 : e = (i : Int) + 2
      · have h3 : e - 2 = (i : Int) := by omega
        simp [h2]; omega
      · have h3 : ¬ (e - 2 = (i : Int)) := by omega
        simp [h2, h3]; omega
    · rw [if_neg h]
      have h2 : ¬ (e = (i : Int) + 2) := by omega
      simp [h2]; omega
/-- .. all tables together. -/
def sN (ts : List (List Int)) (i : Nat) : Int := (ts.map fun t => cN t i).sum
theorem sN_nn (ts : List (List Int)) (i : Nat) : 0 ≤ sN ts i := by
  unfold sN
  induction ts with
  | nil => exact Int.le_refl _
  | cons t ts ih => rw [List.map_cons, List.sum_cons]; have := cN_nn t i; omega
theorem fold_cnt (i : Nat) (hi : i < 24) : ∀ (ts : List (List Int)), (∀ t ∈ ts, tbB t = true) → ∀ ns : List Int, ns.length = 24 → (ts.foldl cnt1T ns).getD i 0 = ns.getD i 0 + sN ts i := by
  intro ts
  induction ts with
  | nil => intro _ ns _; simp [sN]
  | cons t ts ih =>
    intro ht ns hl
    rw [List.foldl_cons, ih (fun x hx => ht x (by simp [hx])) _ (by rw [cnt1T_len]; exact hl), cnt1T_get (ht t (by simp)) hl hi, clA_count]
    simp only [sN, List.map_cons, List.sum_cons]
    omega
theorem cnt_get {m : Img} (ht : ∀ t ∈ imTabs m, tbB t = true) {i : Nat} (hi : i < 24) : (imCnt m).getD i 0 = sN (imTabs m) i := by
  unfold imCnt
  rw [fold_cnt i hi _ ht _ rfl, zero24_get hi]; omega
theorem ImR.tabs {m : Img} (h : ImR m) : ∀ t ∈ imTabs m, tbB t = true := fun t ht => by
  unfold imTabs at ht
  rw [List.mem_cons, List.mem_map] at ht
  rcases ht with rfl | ⟨s, hs, rfl⟩
  · exact h.table
  · exact (h.snaps s hs).2
theorem ImR.cntA {m : Img} (h : ImR m) {i : Nat} (hi : i < 24) : m.refs.getD i 0 = sN (imTabs m) i := by rw [← h.cnt]; exact cnt_get h.tabs hi
theorem ImR.rl {m : Img} (h : ImR m) : m.refs.length = 24 := ctB_len h.refs
theorem sN_cons (t : List Int) (ts : List (List Int)) (i : Nat) : sN (t :: ts) i = cN t i + sN ts i := rfl
theorem sN_tabs (m : Img) (i : Nat) : sN (imTabs m) i = cN m.table i + sN (m.snaps.map (·.table)) i := rfl
/-- A right image is as its tables have it. -/
theorem fit_self {m : Img} (h : ImR m) : imFit m = m := by
  have e2 : ((List.range 24).map fun i => if (imCnt m).getD i 0 = 0 then 0 else m.data.getD i 0) = m.data := getD_ext (by simp) h.len (fun i hi => by
    rw [range_getD hi, h.cnt]
    split
    · rename_i hz; exact (h.clear i hi hz).symm
    · rfl)
  unfold imFit
  rw [e2, h.cnt]
theorem img_eq {m n : Img} (h1 : m.refs = n.refs) (h2 : m.table = n.table) (h3 : m.snaps = n.snaps) (h4 : m.data = n.data) : m = n := by
  cases m; cases n; simp only at h1 h2 h3 h4; subst h1 h2 h3 h4; rfl
/-- What fits, cluster by cluster. -/
theorem fit_eq {m1 n : Img} (ht : ∀ t ∈ imTabs m1, tbB t = true) (hr : n.refs.length = 24) (hd : n.data.length = 24) (h2 : m1.table = n.table) (h3 : m1.snaps = n.snaps) (hR : ∀ i, i < 24 → n.refs.getD i 0 = sN (imTabs m1) i) (hD : ∀ i, i < 24 → n.data.getD i 0 = if sN (imTabs m1) i = 0 then 0 else m1.data.getD i 0) : imFit m1 = n := by
  refine img_eq ?_ h2 h3 ?_
  · exact getD_ext (imCnt_len m1) hr (fun i hi => by rw [hR i hi]; exact cnt_get ht hi)
  · refine getD_ext (by simp [imFit]) hd (fun i hi => ?_)
    rw [hD i hi]
    unfold imFit
    simp only
    rw [range_getD hi, cnt_get ht hi]
/-- A cluster that a table has no more. -/
theorem drop_get {m : Img} (hr : m.refs.length = 24) (hd : m.data.length = 24) (e : Int) {i : Nat} (hi : i < 24) : (imDrop m e).refs.getD i 0 = m.refs.getD i 0 - (if e = (i : Int) + 2 then 1 else 0) ∧ (imDrop m e).data.getD i 0 = if e = (i : Int) + 2 ∧ m.refs.getD i 0 = 1 then 0 else m.data.getD i 0 := by
  by_cases h : e < 2
  · have e1 : imDrop m e = m := if_pos h
    rw [e1, if_neg (by omega), if_neg (by omega)]
    exact ⟨by omega, rfl⟩
  · unfold imDrop
    rw [if_neg h]
    simp only
    by_cases h2 : e = (i : Int) + 2
    · have h3 : (e - 2).toNat = i := by omega
      rw [h3]
      constructor
      · simp [List.getD, hr, hi, h2]
      · by_cases h4 : m.refs.getD i 0 = 1
        · rw [if_pos (by omega), if_pos ⟨h2, h4⟩]
          simp [List.getD, hd, hi]
        · rw [if_neg (by omega), if_neg (fun h => h4 h.2)]
    · have h3 : (e - 2).toNat ≠ i := by omega
      constructor
      · simp [List.getD, h3, h2]
      · have hR : (if e = (i : Int) + 2 ∧ m.refs.getD i 0 = 1 then 0 else m.data.getD i 0) = m.data.getD i 0 := if_neg (fun h => h2 h.1)
        rw [hR]
        split
        · simp [List.getD, h3]
        · rfl
theorem drops_lens (m : Img) : ∀ es : List Int, (imDrops m es).refs.length = m.refs.length ∧ (imDrops m es).data.length = m.data.length ∧ (imDrops m es).table = m.table ∧ (imDrops m es).snaps = m.snaps := by
  intro es
  unfold imDrops
  induction es generalizing m with
  | nil => exact ⟨rfl, rfl, rfl, rfl⟩
  | cons e es ih =>
    obtain ⟨h1, h2, h3, h4⟩ := ih (imDrop m e)
    rw [List.foldl_cons]
    exact ⟨h1.trans (imDrop_refs m e), h2.trans (imDrop_data m e), h3.trans (imDrop_table m e).1, h4.trans (imDrop_table m e).2⟩
theorem drops_get {i : Nat} (hi : i < 24) : ∀ (es : List Int) (m : Img), m.refs.length = 24 → m.data.length = 24 → (imDrops m es).refs.getD i 0 = m.refs.getD i 0 - cN es i ∧ (imDrops m es).data.getD i 0 = if 1 ≤ m.refs.getD i 0 ∧ m.refs.getD i 0 ≤ cN es i then 0 else m.data.getD i 0 := by
  intro es
  induction es with
  | nil =>
    intro m _ _
    refine ⟨by simp [imDrops, cN], ?_⟩
    rw [if_neg (by simp only [cN, List.count_nil]; omega)]; rfl
  | cons e es ih =>
    intro m hr hd
    obtain ⟨h1, h2⟩ := drop_get hr hd e hi
    obtain ⟨h3, h4⟩ := ih (imDrop m e) (by rw [imDrop_refs]; exact hr) (by rw [imDrop_data]; exact hd)
    have hf : imDrops m (e :: es) = imDrops (imDrop m e) es := rfl
    have hc : cN (e :: es) i = cN es i + (if e = (i : Int) + 2 then 1 else 0) := by
      unfold cN
      rw [List.count_cons]
      by_cases h : e = (i : Int) + 2
      · simp [h]
      · simp [h]
    have hn := cN_nn es i
    rw [hf, h3, h4, h1, h2, hc]
    by_cases h : e = (i : Int) + 2
    · simp only [h, if_true, true_and]
      refine ⟨by omega, ?_⟩
      by_cases hx : 1 ≤ m.refs.getD i 0 ∧ m.refs.getD i 0 ≤ cN es i + 1
      · rw [if_pos hx]
        split
        · rfl
        · rw [if_pos (by omega)]
      · rw [if_neg hx, if_neg (by omega), if_neg (by omega)]
    · simp only [h, if_false, false_and]
      exact ⟨by omega, by simp⟩
/-- A table of which one entry is set. -/
theorem cN_set {t : List Int} {g : Nat} (hg : g < t.length) (e : Int) (i : Nat) : cN (t.set g e) i = cN t i - (if t[g] = (i : Int) + 2 then 1 else 0) + (if e = (i : Int) + 2 then 1 else 0) := by
  unfold cN
  rw [List.count_set hg]
  have hp : t[g] = (i : Int) + 2 → 0 < t.count ((i : Int) + 2) := fun h => List.count_pos_iff.2 (h ▸ List.getElem_mem hg)
  by_cases h : t[g] = (i : Int) + 2
  · have := hp h
    by_cases h2 : e = (i : Int) + 2
    · simp [h, h2]; omega
    · simp [h, h2]; omega
  · by_cases h2 : e = (i : Int) + 2
    · simp [h, h2]
    · simp [h, h2]
theorem cN_pos {t : List Int} {g i : Nat} (hg : g < t.length) (h : t[g] = (i : Int) + 2) : 1 ≤ cN t i := by
  unfold cN
  have : 0 < t.count ((i : Int) + 2) := List.count_pos_iff.2 (h ▸ List.getElem_mem hg)
  omega
theorem tbB_set {t : List Int} (h : tbB t = true) (g : Nat) {e : Int} (h0 : 0 ≤ e) (h1 : e ≤ 25) : tbB (t.set g e) = true := by
  refine tbB_of (by rw [List.length_set]; exact tbB_len h) (fun i hi => ?_)
  rw [List.getElem_set]
  split
  · exact betw_iff.2 ⟨h0, h1⟩
  · exact betw_iff.2 (tbB_at h i (by simpa using hi))
theorem tabs_with {m : Img} (h : ImR m) {t : List Int} (ht : tbB t = true) (d : List Int) : ∀ x ∈ imTabs { m with table := t, data := d }, tbB x = true := fun x hx => by
  have hx' : x ∈ t :: m.snaps.map (·.table) := hx
  rw [List.mem_cons] at hx'
  rcases hx' with rfl | hx'
  · exact ht
  · exact h.tabs x (by unfold imTabs; exact List.mem_cons_of_mem _ hx')
theorem fit_zero {m : Img} (h : ImR m) {g : Nat} (hg : g < m.table.length) : imFit { m with table := m.table.set g 1 } = imZero m g := by
  have ht := tbB_set h.table g (e := 1) (by omega) (by omega)
  have hgd : m.table.getD g 0 = m.table[g] := by simp [List.getD, hg]
  have hcs : ∀ i, sN (imTabs { m with table := m.table.set g 1 }) i = sN (imTabs m) i - (if m.table[g] = (i : Int) + 2 then 1 else 0) := fun i => by
    have e : sN (imTabs { m with table := m.table.set g 1 }) i = cN (m.table.set g 1) i + sN (m.snaps.map (·.table)) i := rfl
    rw [e, cN_set hg, sN_tabs, if_neg (show ¬ (1 : Int) = (i : Int) + 2 by omega)]
    omega
  refine fit_eq (tabs_with h ht m.data) ?_ ?_ ?_ ?_ (fun i hi => ?_) (fun i hi => ?_)
  · show (imDrop m _).refs.length = 24; rw [imDrop_refs]; exact h.rl
  · show (imDrop m _).data.length = 24; rw [imDrop_data]; exact h.len
  · show m.table.set g 1 = (imDrop m _).table.set g 1; rw [(imDrop_table m _).1]
  · show m.snaps = (imDrop m _).snaps; rw [(imDrop_table m _).2]
  · show (imDrop m _).refs.getD i 0 = _
    rw [(drop_get h.rl h.len _ hi).1, hcs, h.cntA hi, hgd]
  · show (imDrop m _).data.getD i 0 = _
    rw [(drop_get h.rl h.len _ hi).2, hcs, ← h.cntA hi, hgd]
    by_cases h1 : m.table[g] = (i : Int) + 2
    · simp only [h1, true_and, if_true]
      by_cases h2 : m.refs.getD i 0 = 1
      · rw [if_pos h2, if_pos (by omega)]
      · rw [if_neg h2, if_neg (by omega)]
    · simp only [h1, false_and, if_false]
      by_cases h2 : m.refs.getD i 0 = 0
      · rw [if_pos (by omega), h.clear i hi h2]
      · rw [if_neg (by omega)]

/-- Written in place. -/
theorem fit_in {m : Img} (h : ImR m) {g c : Nat} (v : Int) (hg : g < m.table.length) (hc : m.table[g] = (c : Int) + 2) (h1 : m.refs.getD c 0 = 1) : imFit { m with table := m.table.set g (2 + (c : Int)), data := m.data.set c v } = { m with data := m.data.set c v } := by
  have hset : m.table.set g (2 + (c : Int)) = m.table := by
    rw [show (2 : Int) + (c : Int) = m.table[g] by omega]
    exact List.set_getElem_self hg
  have hb := tbB_at h.table g hg
  rw [hset]
  refine fit_eq (n := { m with data := m.data.set c v }) (tabs_with h h.table _) h.rl (by simp [h.len]) rfl rfl (fun i hi => h.cntA hi) (fun i hi => ?_)
  have e : sN (imTabs { m with data := m.data.set c v }) i = sN (imTabs m) i := rfl
  rw [e, ← h.cntA hi]
  by_cases hz : m.refs.getD i 0 = 0
  · rw [if_pos hz]
    have hne : c ≠ i := fun e => by rw [e, hz] at h1; cases h1
    have e2 : (m.data.set c v).getD i 0 = m.data.getD i 0 := by simp [List.getD, hne]
    exact e2.trans (h.clear i hi hz)
  · rw [if_neg hz]
theorem free_spec {xs : List Int} (h : frN xs < xs.length) : xs.getD (frN xs) 0 = 0 := by
  unfold frN at h ⊢
  have := List.findIdx_getElem (w := h)
  simpa [List.getD, h] using this
/-- Written into a free cluster. -/
theorem fit_out {m : Img} (h : ImR m) {g c : Nat} (v : Int) (hg : g < m.table.length) (hc : c < 24) (h0 : m.refs.getD c 0 = 0) : imFit { m with table := m.table.set g (2 + (c : Int)), data := m.data.set c v } = { imDrop m m.table[g] with refs := (imDrop m m.table[g]).refs.set c 1, data := (imDrop m m.table[g]).data.set c v, table := (imDrop m m.table[g]).table.set g (2 + (c : Int)) } := by
  have ht := tbB_set h.table g (e := 2 + (c : Int)) (by omega) (by omega)
  have hcs : ∀ i, sN (imTabs { m with table := m.table.set g (2 + (c : Int)), data := m.data.set c v }) i = sN (imTabs m) i - (if m.table[g] = (i : Int) + 2 then 1 else 0) + (if c = i then 1 else 0) := fun i => by
    have e : sN (imTabs { m with table := m.table.set g (2 + (c : Int)), data := m.data.set c v }) i = cN (m.table.set g (2 + (c : Int))) i + sN (m.snaps.map (·.table)) i := rfl
    rw [e, cN_set hg, sN_tabs]
    by_cases hci : c = i
    · rw [if_pos hci, if_pos (show (2 : Int) + (c : Int) = (i : Int) + 2 by omega)]; omega
    · rw [if_neg hci, if_neg (show ¬ (2 : Int) + (c : Int) = (i : Int) + 2 by omega)]; omega
  have hne : ¬ m.table[g] = (c : Int) + 2 := fun e => by
    have h1 := cN_pos hg e
    have h2 := h.cntA hc
    have h3 := sN_nn (m.snaps.map (·.table)) c
    rw [sN_tabs] at h2
    omega
  refine fit_eq (tabs_with h ht _) ?_ ?_ ?_ ?_ (fun i hi => ?_) (fun i hi => ?_)
  · show ((imDrop m _).refs.set c 1).length = 24; rw [List.length_set, imDrop_refs]; exact h.rl
  · show ((imDrop m _).data.set c v).length = 24; rw [List.length_set, imDrop_data]; exact h.len
  · show m.table.set g _ = (imDrop m _).table.set g _; rw [(imDrop_table m _).1]
  · show m.snaps = (imDrop m _).snaps; rw [(imDrop_table m _).2]
  · show ((imDrop m m.table[g]).refs.set c 1).getD i 0 = _
    rw [hcs]
    by_cases hci : c = i
    · subst hci
      rw [if_pos rfl, if_neg hne, ← h.cntA hc, h0]
      simp [List.getD, imDrop_refs, h.rl, hc]
    · have e : ((imDrop m m.table[g]).refs.set c 1).getD i 0 = (imDrop m m.table[g]).refs.getD i 0 := by simp [List.getD, hci]
      rw [e, (drop_get h.rl h.len _ hi).1, h.cntA hi, if_neg hci]; omega
  · show ((imDrop m m.table[g]).data.set c v).getD i 0 = if _ then 0 else (m.data.set c v).getD i 0
    rw [hcs]
    by_cases hci : c = i
    · subst hci
      rw [if_neg (show ¬ (sN (imTabs m) c - (if m.table[g] = (c : Int) + 2 then 1 else 0) + (if c = c then 1 else 0) = 0) by rw [if_pos rfl, if_neg hne, ← h.cntA hc, h0]; omega)]
      simp [List.getD, imDrop_data, h.len, hc]
    · have e : ((imDrop m m.table[g]).data.set c v).getD i 0 = (imDrop m m.table[g]).data.getD i 0 := by simp [List.getD, hci]
      have e2 : (m.data.set c v).getD i 0 = m.data.getD i 0 := by simp [List.getD, hci]
      rw [e, e2, (drop_get h.rl h.len _ hi).2, ← h.cntA hi, if_neg hci]
      by_cases h1 : m.table[g] = (i : Int) + 2
      · simp only [h1, true_and, if_true]
        by_cases h2 : m.refs.getD i 0 = 1
        · rw [if_pos h2, if_pos (by omega)]
        · rw [if_neg h2, if_neg (by omega)]
      · simp only [h1, false_and, if_false]
        by_cases h2 : m.refs.getD i 0 = 0
        · rw [if_pos (by omega), h.clear i hi h2]
        · rw [if_neg (by omega)]
theorem cN_append (s t : List Int) (i : Nat) : cN (s ++ t) i = cN s i + cN t i := by unfold cN; rw [List.count_append]; omega
theorem cN_rz (t : List Int) (i : Nat) : ∀ n, cN (rzTo t n) i = cN (t.take n) i := by
  intro n
  induction n with
  | zero => simp [rzTo]
  | succ n ih =>
    rw [rzTo_succ, cN_append, ih]
    by_cases hn : n < t.length
    · rw [List.take_succ_eq_append_getElem hn, cN_append]
      have : t.getD n 0 = t[n] := by simp [List.getD, hn]
      rw [this]
    · have h1 : t.getD n 0 = 0 := by simp [List.getD, hn]
      have h2 : t.take (n + 1) = t.take n := by rw [List.take_of_length_le (by omega), List.take_of_length_le (by omega)]
      rw [h1, h2]
      have : cN [0] i = 0 := by
        unfold cN
        rw [List.count_cons]
        simp; omega
      omega
theorem tbB_rz {t : List Int} (h : tbB t = true) {n : Nat} (hn : n ≤ 12) : tbB (rzTo t n) = true := by
  refine tbB_of (by rw [rzTo_len]; exact hn) (fun i hi => ?_)
  rw [rzTo_len] at hi
  have e : (rzTo t n)[i]'(by rw [rzTo_len]; exact hi) = t.getD i 0 := by simp [rzTo]
  rw [e]
  by_cases hit : i < t.length
  · have := tbB_at h i hit
    rw [show t.getD i 0 = t[i] by simp [List.getD, hit]]
    exact betw_iff.2 this
  · rw [show t.getD i 0 = 0 by simp [List.getD, hit]]
    exact betw_iff.2 ⟨by omega, by omega⟩
/-- Of a list of entries that one of the tables has no more. -/
theorem drops_fit {m : Img} (h : ImR m) (es : List Int) {i : Nat} (hi : i < 24) (hle : cN es i ≤ m.refs.getD i 0) : (imDrops m es).data.getD i 0 = if m.refs.getD i 0 - cN es i = 0 then 0 else m.data.getD i 0 := by
  rw [(drops_get hi es m h.rl h.len).2]
  have hn := cN_nn es i
  by_cases h1 : m.refs.getD i 0 - cN es i = 0
  · rw [if_pos h1]
    by_cases h2 : 1 ≤ m.refs.getD i 0
    · rw [if_pos ⟨h2, by omega⟩]
    · rw [if_neg (fun h => h2 h.1), h.clear i hi (by omega)]
  · rw [if_neg h1, if_neg (by omega)]
theorem fit_resize {m : Img} (h : ImR m) {n : Nat} (hn : n ≤ 12) : imFit { m with table := rzTo m.table n } = imResize m n := by
  have hcs : ∀ i, sN (imTabs { m with table := rzTo m.table n }) i = sN (imTabs m) i - cN (m.table.drop n) i := fun i => by
    have e : sN (imTabs { m with table := rzTo m.table n }) i = cN (rzTo m.table n) i + sN (m.snaps.map (·.table)) i := rfl
    have e2 : cN m.table i = cN (m.table.take n) i + cN (m.table.drop n) i := by rw [← cN_append, List.take_append_drop]
    rw [e, cN_rz, sN_tabs, e2]; omega
  obtain ⟨l1, l2, l3, l4⟩ := drops_lens m (m.table.drop n)
  have hle : ∀ i, i < 24 → cN (m.table.drop n) i ≤ m.refs.getD i 0 := fun i hi => by
    have e2 : cN m.table i = cN (m.table.take n) i + cN (m.table.drop n) i := by rw [← cN_append, List.take_append_drop]
    have := cN_nn (m.table.take n) i
    have := sN_nn (m.snaps.map (·.table)) i
    rw [h.cntA hi, sN_tabs]; omega
  refine fit_eq (tabs_with h (tbB_rz h.table hn) m.data) (l1.trans h.rl) (l2.trans h.len) rfl l4.symm (fun i hi => ?_) (fun i hi => ?_)
  · show (imDrops m _).refs.getD i 0 = _
    rw [(drops_get hi _ m h.rl h.len).1, hcs, h.cntA hi]
  · show (imDrops m _).data.getD i 0 = _
    rw [drops_fit h _ hi (hle i hi), hcs, h.cntA hi]

end Go.Proofs.Ytjoafbkcnnhdiab
