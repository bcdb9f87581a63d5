import Derived.Test.YtjoafbkcnnhdiaaRows
import Derived.Test.YtjoafbkcnnhdiaaXReadClusterPart1
import Derived.Test.YtjoafbkcnnhdiaaXReadClusterPart2
import Derived.Test.YtjoafbkcnnhdiaaXReadClusterPart11
import Derived.Test.YtjoafbkcnnhdiaaXReadClusterPart3
import Derived.Test.YtjoafbkcnnhdiaaXReadClusterPart4
import Derived.Test.YtjoafbkcnnhdiaaXReadClusterPart6
import Derived.Test.YtjoafbkcnnhdiaaXReadClusterPart5
import Derived.Test.YtjoafbkcnnhdiaaXReadClusterPart12
import Derived.WalkKit
import Derived.WalkSpells
import Derived.KernelRfl
import Derived.LoopN
import Derived.BigQuiet
import Derived.Deep.QuietTactic
import Derived.Deep.RegionWith
import Derived.Test.YtjoafbkcnnhdiaaXReadClusterPart7
import Derived.Test.YtjoafbkcnnhdiaaXReadClusterPart10

/- Contracts of impl.countsFit, impl.imagePartsOK, impl.ImageOK. -/
namespace Go.Proofs.Ytjoafbkcnnhdiaa
open Go.RowKit
set_option linter.unusedVariables false
set_option maxRecDepth 100000

/-- All but what a count of the tables would tell. -/
def partsB (m : Img) : Bool := ctB m.refs && datB m.data && snpsB m.snaps && tabsB (imTabs m)
/-- Counts and data fit the tables. -/
def fitB (m : Img) : Bool := decide (imCnt m = m.refs) && clearB m
theorem tabs_all {ts : List (List Int)} : tabsB ts = (ts.all tbB && ts.all onceB) := by
  unfold tabsB
  induction ts with
  | nil => rfl
  | cons t ts ih =>
    simp only [List.all_cons, ih]
    cases tbB t <;> cases onceB t <;> simp
theorem imB_parts (m : Img) : imB m = (partsB m && fitB m) := by
  have e : (imTabs m).all tbB = (tbB m.table && m.snaps.all (fun s => tbB s.table)) := by
    unfold imTabs
    rw [List.all_cons, List.all_map]; rfl
  have e2 : m.snaps.all (fun s => snmB s.name && tbB s.table) = (m.snaps.all (fun s => snmB s.name) && m.snaps.all (fun s => tbB s.table)) := by
    induction m.snaps with
    | nil => rfl
    | cons s ss ih =>
      simp only [List.all_cons, ih]
      cases snmB s.name <;> cases tbB s.table <;> simp
  unfold imB imFm partsB fitB datB snpsB
  rw [tabs_all, e, e2]
  cases ctB m.refs <;> cases tbB m.table <;> cases decide (m.snaps.length ≤ 3) <;> cases decide (m.data.length = 24) <;> cases m.snaps.all (fun s => snmB s.name) <;> cases m.snaps.all (fun s => tbB s.table) <;> cases namesB m.snaps <;> cases m.data.all numB <;> simp [Bool.and_assoc]
theorem parts_of {m : Img} (h : partsB m = true) : m.refs.length = 24 ∧ m.data.length = 24 ∧ m.snaps.length ≤ 3 ∧ ∀ t ∈ imTabs m, tbB t = true := by
  unfold partsB datB snpsB at h
  rw [tabs_all] at h
  simp only [Bool.and_eq_true, decide_eq_true_eq, List.all_eq_true] at h
  obtain ⟨⟨⟨h1, h2, _⟩, ⟨h3, _⟩, _⟩, h4, _⟩ := h
  exact ⟨ctB_len h1, h2, h3, h4⟩
theorem fit_cnt {m : Img} {i : Nat} (hl : m.refs.length = 24) (hi : i < 24) (h : ¬ m.refs.getD i 0 = (imCnt m).getD i 0) : fitB m = false := by
  have e : decide (imCnt m = m.refs) = false := decide_eq_false (fun e => h (by rw [e]))
  rw [fitB, e]; rfl
theorem fit_clear {m : Img} {i : Nat} (hi : i < 24) (he : m.refs.getD i 0 = (imCnt m).getD i 0) (hz : (imCnt m).getD i 0 = 0) (hd : ¬ m.data.getD i 0 = 0) : fitB m = false := by
  have e : clearB m = false := by
    unfold clearB
    cases hh : (List.range 24).all _ with
    | false => rfl
    | true =>
      rw [List.all_eq_true] at hh
      have := hh i (List.mem_range.2 hi)
      simp only [decide_eq_true_eq] at this
      exact absurd (this (he.trans hz)) hd
  rw [fitB, e]; simp
theorem fit_yes {m : Img} (hl : m.refs.length = 24) (h1 : ∀ i, i < 24 → m.refs.getD i 0 = (imCnt m).getD i 0) (h2 : ∀ i, i < 24 → (imCnt m).getD i 0 = 0 → m.data.getD i 0 = 0) : fitB m = true := by
  have e : imCnt m = m.refs := List.ext_getElem (by rw [imCnt_len, hl]) (fun i ha hb => by
    have := h1 i (by omega)
    simpa [List.getD, ha, hb] using this.symm)
  have e2 : clearB m = true := by
    unfold clearB
    rw [List.all_eq_true]
    intro i hi
    have hi' := List.mem_range.1 hi
    exact decide_eq_true (fun h => h2 i hi' (by rw [← h1 i hi']; exact h))
  rw [fitB, decide_eq_true e, e2]; rfl

set_option maxHeartbeats 3200000 in
theorem countsFit_any (a : Im4) (m : Img) (w : World) (hr : m.refs.length = 24) (hd : m.data.length = 24) (hs : m.snaps.length ≤ 3) (ht : ∀ t ∈ imTabs m, tbB t = true) (hc : ImS w a m) :
    Calls Try.prog 40 #[imV a m] w fun e w' => e = .returned (.bool (fitB m)) ∧ Below w.heap.size w w' := by
  have HA := hide (Joins.below_alloc1 w (.cells #[.slice a.ro m.refs.length a.rc, .slice a.tq m.table.length a.tc, .slice a.so m.snaps.length a.sc, .slice a.dq m.data.length a.dc] 35))
  have HV := hide (VarM.new w 35 (.slice a.ro m.refs.length a.rc) (.slice a.tq m.table.length a.tc) (.slice a.so m.snaps.length a.sc) (.slice a.dq m.data.length a.dc))
  have HC := hide (hc.below (unhide HA))
  have HR24 := hide hr
  have HD24 := hide hd
  have HTB := hide ht
  have HLT := hide (imTabs_len m)
  clear hc hr hd ht
  go_enter Try.func40, Try.ntmps40
  go_upto_region 1 with fail
  revert HA HV HC
  generalize (w.alloc _) = W0
  intro HA HV HC
  obtain ⟨c0, c1, c2, c3⟩ := (unhide HV).cells
  go_wp2_with fail
  refine (tablesOf_any a m _ hs (unhide HC)).mono ?_
  rintro e w1 ⟨qo, qa, rfl, hrow, hb⟩
  have HROW := hide hrow
  have HB1 := hide (fr (unhide HA) hb)
  have HC1 := hide ((unhide HC).below hb)
  have HV1 := hide ((unhide HV).below hb)
  clear hb hrow c0 c1 c2 c3 HA HV HC
  go_wp2_with fail
  refine (usesOf_any qo qa (imTabs m) _ (by rw [unhide HLT]; omega) (unhide HTB) (unhide HROW)).mono ?_
  rintro e w2 ⟨B, D, rfl, hBge, hmp, hct, hb⟩
  have HB2 := hide (fr (unhide HB1) hb)
  have HC2 := hide ((unhide HC1).below hb)
  have HV2 := hide ((unhide HV1).below hb)
  have HM : Hid (MpC w2 B 1000 D (imCnt m)) := hide hmp
  clear hb hmp hct hBge HB1 HC1 HV1 HROW
  go_wp2
  go_loopw [8] (fun i wr => ∃ k : Nat, k ≤ 24 ∧ i = .int .i64 k ∧ Hid (∀ j, j < k → m.refs.getD j 0 = (imCnt m).getD j 0) ∧ Hid (∀ j, j < k → (imCnt m).getD j 0 = 0 → m.data.getD j 0 = 0) ∧ Hid (Below w2.heap.size w2 wr)) (fun i _ => 24 - (intOf i).toNat)
  case atStart => exact ⟨0, by omega, rfl, hide (fun j h => by omega), hide (fun j h => by omega), hide (Below.refl _ _)⟩
  case round =>
    obtain ⟨k, hk, rfl, HE, HZ, HB⟩ := hrel
    by_cases hlt : k < 24
    · have hlti : (k : Int) < 24 := by omega
      have kr : k < m.refs.length := by rw [unhide HR24]; exact hlt
      have kd : k < m.data.length := by rw [unhide HD24]; exact hlt
      have kri : (k : Int) < (m.refs.length : Int) := by omega
      have kdi : (k : Int) < (m.data.length : Int) := by omega
      obtain ⟨c0, c1, c2, c3⟩ := ((unhide HV2).below (unhide HB)).cells
      have hlk : ∀ W : World, Below wr.heap.size wr W → (Instr.lookup 84 (.map (some B)) (.int .i64 (k : Int)) false).run Try.prog W = .ok (.int .i64 ((imCnt m).getD k 0)) W := fun W hW => ((unhide HM).below (fr (unhide HB) hW)).look hlt
      obtain ⟨b2, o2, e2, hx2⟩ := ((unhide HC2).r.below (unhide HB)) k kr
      obtain ⟨b3, o3, e3, hx3⟩ := ((unhide HC2).d.below (unhide HB)) k kd
      rw [e2] at c0
      rw [e3] at c3
      clear e2 e3 c1 c2
      have er : m.refs.getD k 0 = m.refs[k] := by simp [List.getD, kr]
      have ed : m.data.getD k 0 = m.data[k] := by simp [List.getD, kd]
      have HER : Hid (m.refs[k] = (imCnt m).getD k 0 → ∀ j, j < k + 1 → m.refs.getD j 0 = (imCnt m).getD j 0) := hide (fun h j hj => by
        by_cases e : j = k
        · subst e; rw [er]; exact h
        · exact unhide HE j (by omega))
      have HZR : Hid (((imCnt m).getD k 0 = 0 → m.data[k] = 0) → ∀ j, j < k + 1 → (imCnt m).getD j 0 = 0 → m.data.getD j 0 = 0) := hide (fun h j hj => by
        by_cases e : j = k
        · subst e; rw [ed]; exact h
        · exact unhide HZ j (by omega))
      have HF1 : Hid (¬ m.refs[k] = (imCnt m).getD k 0 → fitB m = false) := hide (fun h => fit_cnt (unhide HR24) hlt (by rw [er]; exact h))
      have HF2 : Hid (m.refs[k] = (imCnt m).getD k 0 → (imCnt m).getD k 0 = 0 → ¬ m.data[k] = 0 → fitB m = false) := hide (fun h0 h1 h2 => fit_clear hlt (by rw [er]; exact h0) h1 (by rw [ed]; exact h2))
      clear er ed
      generalize (imCnt m).getD k 0 = X at *
      generalize m.refs[k] = R at *
      generalize m.data[k] = DD at *
      have hl0 := fun (n : Nat) => hlk (wr.drewN n) (Joins.below_draws _ _ _)
      by_cases hne : R = X
      · by_cases hz : X = 0
        · by_cases hd : DD = 0
          · have HE' := hide (unhide HER hne)
            have HZ' := hide (unhide HZR (fun _ => hd))
            have b1' : (R != X) = false := by simp [hne]
            have b2' : (X == 0) = true := by simp [hz]
            have b3' : (DD != 0) = false := by simp [hd]
            clear hne hz hd
            go_wp2
            go_quiet (fail)
            go_wp2
            go_roundw
            case rel => exact ⟨k + 1, by omega, by go_num, HE', HZ', hide ((unhide HB).trans (Joins.below_draws _ _ _))⟩
            case measure => simp [intOf]; omega
          · have HF := hide (unhide HF2 hne hz hd)
            have b1' : (R != X) = false := by simp [hne]
            have b2' : (X == 0) = true := by simp [hz]
            have b3' : (DD != 0) = true := by simp [hd]
            clear hne hz hd
            go_wp2
            go_quiet (fail)
            go_wp2
            go_ret
            exact ⟨ret_bool (unhide HF).symm, fr (unhide HB2) ((unhide HB).trans (Joins.below_draws _ _ _))⟩
        · have HE' := hide (unhide HER hne)
          have HZ' := hide (unhide HZR (fun h => absurd h hz))
          have b1' : (R != X) = false := by simp [hne]
          have b2' : (X == 0) = false := by simp [hz]
          clear hne hz
          go_wp2
          go_quiet (fail)
          go_wp2
          go_roundw
          case rel => exact ⟨k + 1, by omega, by go_num, HE', HZ', hide ((unhide HB).trans (Joins.below_draws _ _ _))⟩
          case measure => simp [intOf]; omega
      · have HF := hide (unhide HF1 hne)
        have b1' : (R != X) = true := by simp [hne]
        clear hne
        go_wp2
        go_quiet (fail)
        go_wp2
        go_ret
        exact ⟨ret_bool (unhide HF).symm, fr (unhide HB2) ((unhide HB).trans (Joins.below_draws _ _ _))⟩
    · have HF := hide (fit_yes (unhide HR24) (fun i h => unhide HE i (by omega)) (fun i h => unhide HZ i (by omega)))
      go_wp2
      go_ret
      exact ⟨ret_bool (unhide HF).symm, fr (unhide HB2) (unhide HB)⟩

set_option maxHeartbeats 3200000 in
theorem imagePartsOK_any (a : Im4) (m : Img) (w : World) (hL : ImL m) (hc : ImS w a m) :
    Calls Try.prog 39 #[imV a m] w fun e w' => e = .returned (.bool (partsB m)) ∧ Below w.heap.size w w' := by
  have HA := hide (Joins.below_alloc1 w (.cells #[.slice a.ro m.refs.length a.rc, .slice a.tq m.table.length a.tc, .slice a.so m.snaps.length a.sc, .slice a.dq m.data.length a.dc] 35))
  have HV := hide (VarM.new w 35 (.slice a.ro m.refs.length a.rc) (.slice a.tq m.table.length a.tc) (.slice a.so m.snaps.length a.sc) (.slice a.dq m.data.length a.dc))
  have HC := hide (hc.below (unhide HA))
  have HL := hide hL
  have HLT := hide (imTabs_len m)
  have HZT : Hid (∀ t ∈ imTabs m, t.length ≤ maxLen) := hide (fun t ht => by
    unfold imTabs at ht
    rw [List.mem_cons, List.mem_map] at ht
    rcases ht with rfl | ⟨s, hs, rfl⟩
    · exact hL.t
    · obtain ⟨j, hj, rfl⟩ := List.mem_iff_getElem.1 hs
      obtain ⟨_, _, _, _, _, _, _, _, _, h⟩ := hc.s j hj
      exact h)
  clear hc hL
  go_enter Try.func39, Try.ntmps39
  go_upto_region 1 with fail
  revert HA HV HC
  generalize (w.alloc _) = W0
  intro HA HV HC
  obtain ⟨c0, c1, c2, c3⟩ := (unhide HV).cells
  go_wp2_with fail
  refine (refsOK_impl _ _ m.refs _ (unhide HL).r (unhide HC).r).mono ?_
  rintro e w1 ⟨rfl, hw⟩
  replace hw := hw.symm
  subst hw
  cases h1 : ctB m.refs
  · have HF : Hid (partsB m = false) := hide (by rw [partsB, h1]; rfl)
    go_wp2
    go_ret
    exact ⟨ret_bool (unhide HF).symm, unhide HA⟩
  go_wp2_with fail
  refine (dataOK_any _ _ m.data _ (unhide HL).d (unhide HC).d).mono ?_
  rintro e w1 ⟨rfl, hw⟩
  replace hw := hw.symm
  subst hw
  cases h2 : datB m.data
  · have HF : Hid (partsB m = false) := hide (by rw [partsB, h1, h2]; rfl)
    go_wp2
    go_ret
    exact ⟨ret_bool (unhide HF).symm, unhide HA⟩
  go_wp2_with fail
  refine (snapNamesOK_any _ _ m.snaps _ (unhide HL).s (unhide HC).s).mono ?_
  rintro e w2 ⟨rfl, hb⟩
  have HB2 := hide (fr (unhide HA) hb)
  have HC2 := hide ((unhide HC).below hb)
  have HV2 := hide ((unhide HV).below hb)
  clear hb c0 c1 c2 c3 HA HV HC
  cases h3 : snpsB m.snaps
  · have HF : Hid (partsB m = false) := hide (by rw [partsB, h1, h2, h3]; rfl)
    go_wp2
    go_ret
    exact ⟨ret_bool (unhide HF).symm, unhide HB2⟩
  have HF : Hid (partsB m = tabsB (imTabs m)) := hide (by rw [partsB, h1, h2, h3]; rfl)
  have hs3 : m.snaps.length ≤ 3 := by
    unfold snpsB at h3
    simp only [Bool.and_eq_true, decide_eq_true_eq] at h3
    exact h3.1.1
  clear h1 h2 h3
  obtain ⟨c0, c1, c2, c3⟩ := (unhide HV2).cells
  go_wp2_with fail
  refine (tablesOf_any a m _ hs3 (unhide HC2)).mono ?_
  rintro e w3 ⟨qo, qa, rfl, hrow, hb⟩
  have HROW := hide hrow
  have HB3 := hide (fr (unhide HB2) hb)
  clear hb hrow c0 c1 c2 c3
  go_wp2_with fail
  refine (tablesOK_any qo qa (imTabs m) _ (by rw [unhide HLT]; omega) (unhide HZT) (unhide HROW)).mono ?_
  rintro e w4 ⟨rfl, hb⟩
  have HB4 := hide (fr (unhide HB3) hb)
  clear hb
  generalize tabsB (imTabs m) = T at *
  go_wp2
  go_ret
  exact ⟨ret_bool (by rw [unhide HF]), unhide HB4⟩

set_option maxHeartbeats 3200000 in
theorem imageOK_impl (a : Im4) (m : Img) (w : World) (hL : ImL m) (hc : ImS w a m) :
    Calls Try.prog 17 #[imV a m] w fun e w' => e = .returned (.bool (imB m)) ∧ Below w.heap.size w w' := by
  have HA := hide (Joins.below_alloc1 w (.cells #[.slice a.ro m.refs.length a.rc, .slice a.tq m.table.length a.tc, .slice a.so m.snaps.length a.sc, .slice a.dq m.data.length a.dc] 35))
  have HV := hide (VarM.new w 35 (.slice a.ro m.refs.length a.rc) (.slice a.tq m.table.length a.tc) (.slice a.so m.snaps.length a.sc) (.slice a.dq m.data.length a.dc))
  have HC := hide (hc.below (unhide HA))
  have HL := hide hL
  have HP := hide (imB_parts m)
  clear hc hL
  go_enter Try.func17, Try.ntmps17
  go_upto_region 1 with fail
  revert HA HV HC
  generalize (w.alloc _) = W0
  intro HA HV HC
  obtain ⟨c0, c1, c2, c3⟩ := (unhide HV).cells
  go_wp2_with fail
  refine (imagePartsOK_any a m _ (unhide HL) (unhide HC)).mono ?_
  rintro e w1 ⟨rfl, hb⟩
  have HB1 := hide (fr (unhide HA) hb)
  have HC1 := hide ((unhide HC).below hb)
  have HV1 := hide ((unhide HV).below hb)
  clear hb c0 c1 c2 c3 HA HV HC
  cases hp : partsB m
  · have HF : Hid (imB m = false) := hide (by rw [unhide HP, hp]; rfl)
    go_wp2
    go_ret
    exact ⟨ret_bool (unhide HF).symm, unhide HB1⟩
  have HF : Hid (imB m = fitB m) := hide (by rw [unhide HP, hp]; rfl)
  have HX := hide (parts_of hp)
  clear hp
  obtain ⟨c0, c1, c2, c3⟩ := (unhide HV1).cells
  go_wp2_with fail
  refine (countsFit_any a m _ (unhide HX).1 (unhide HX).2.1 (unhide HX).2.2.1 (unhide HX).2.2.2 (unhide HC1)).mono ?_
  rintro e w2 ⟨rfl, hb⟩
  have HB2 := hide (fr (unhide HB1) hb)
  clear hb c0 c1 c2 c3
  generalize fitB m = F at *
  go_wp2
  go_ret
  exact ⟨ret_bool (by rw [unhide HF]), unhide HB2⟩

end Go.Proofs.Ytjoafbkcnnhdiaa

/- Contracts of impl.ReadCluster, impl.NewImage. -/
namespace Go.Proofs.Ytjoafbkcnnhdiaa
open Go.RowKit
set_option linter.unusedVariables false
set_option maxRecDepth 100000

set_option maxHeartbeats 1600000 in
theorem readCluster_impl (a : Im4) (m : Img) (g : Int) (w : World) (hL : ImL m) (hc : ImS w a m) :
    Calls Try.prog 20 #[imV a m, .int .i64 g] w fun e w' => e = .returned (.tuple #[.int .i64 (rcA m g).1, .int .i64 (rcA m g).2]) ∧ Below w.heap.size w w' := by
  have HA := hide (Joins.below_alloc1 w (.cells #[.slice a.ro m.refs.length a.rc, .slice a.tq m.table.length a.tc, .slice a.so m.snaps.length a.sc, .slice a.dq m.data.length a.dc] 35))
  have HV := hide (VarM.new w 35 (.slice a.ro m.refs.length a.rc) (.slice a.tq m.table.length a.tc) (.slice a.so m.snaps.length a.sc) (.slice a.dq m.data.length a.dc))
  have HC := hide (hc.below (unhide HA))
  have HL := hide hL
  obtain ⟨R, HR⟩ : ∃ R, Hid (R = rcA m g) := ⟨_, rfl⟩
  rw [← unhide HR]
  clear hc hL
  go_enter Try.func20, Try.ntmps20
  go_upto_region 1 with fail
  revert HA HV HC
  generalize (w.alloc _) = W0
  intro HA HV HC
  obtain ⟨c0, c1, c2, c3⟩ := (unhide HV).cells
  go_wp2_with fail
  refine (imageOK_impl a m _ (unhide HL) (unhide HC)).mono ?_
  rintro e w1 ⟨rfl, hb⟩
  have HB1 := hide (fr (unhide HA) hb)
  have HC1 := hide ((unhide HC).below hb)
  have HV1 := hide ((unhide HV).below hb)
  clear hb c0 c1 c2 c3 HA HV HC
  cases him : imB m
  · have HE : Hid (R = (0, 1)) := hide (by rw [unhide HR, rcA, him]; rfl)
    go_wp2
    go_ret2
    exact ⟨by rw [unhide HE]; rfl, unhide HB1⟩
  obtain ⟨c0, c1, c2, c3⟩ := (unhide HV1).cells
  have HM := hide (imB_iff.1 him)
  have HIM := hide him
  clear him
  go_wp2_with fail
  refine (entryOf_impl _ _ m.table g _ (unhide HL).t (unhide HC1).t).mono ?_
  rintro e w2 ⟨rfl, hb⟩
  have HB2 := hide (fr (unhide HB1) hb)
  have HC2 := hide ((unhide HC1).below hb)
  have HV2 := hide ((unhide HV1).below hb)
  clear hb c0 c1 c2 c3 HB1 HC1 HV1
  rcases en_cases m.table g with ⟨hf, _⟩ | ⟨hb, hg, e1, e2, e3⟩ | ⟨hb, q, rfl, hq, e1, e2, e3⟩
  · exact absurd (tbF_ok (unhide HM).table) hf
  · have HE : Hid (R = (0, 4)) := hide (by rw [unhide HR, rcA, if_pos (unhide HIM), hg]; rfl)
    rw [e1, e2, e3]
    clear e1 e2 e3 hg
    go_wp2
    go_ret2
    exact ⟨by rw [unhide HE]; rfl, unhide HB2⟩
  · have hr := tbB_at hb q hq
    have hgb : betw (q : Int) 0 ((m.table.length : Int) - 1) = true := betw_iff.2 ⟨by omega, by omega⟩
    have HE : Hid (R = (imVal m m.table[q], 0)) := hide (by rw [unhide HR, rcA, if_pos (unhide HIM), hgb]; simp [List.getD, hq])
    rw [e1, e2, e3]
    clear e1 e2 e3 hgb
    generalize m.table[q] = T at *
    by_cases hT : T < 2
    · have HE2 : Hid (R = (0, 0)) := hide (by rw [unhide HE, imVal, if_pos hT])
      have h1 : min T 2 = T := by omega
      have h2 : max 0 (T - 2) = 0 := by omega
      rw [h1, h2]
      have h3 : (T != 2) = true := by simp; omega
      clear h1 h2 hT
      go_wp2
      go_ret2
      exact ⟨by rw [unhide HE2]; rfl, unhide HB2⟩
    · obtain ⟨c, hcc⟩ := Int.eq_ofNat_of_zero_le (show 0 ≤ T - 2 by omega)
      have hd24 := (unhide HM).len
      have hcd : c < m.data.length := by omega
      have hcdi : (c : Int) < (m.data.length : Int) := by omega
      have HE2 : Hid (R = (m.data[c], 0)) := hide (by rw [unhide HE, imVal, if_neg hT, hcc, Int.toNat_natCast]; simp [List.getD, hcd])
      have h1 : min T 2 = 2 := by omega
      have h2 : max 0 (T - 2) = (c : Int) := by omega
      rw [h1, h2]
      obtain ⟨b3, o3, e3, hx3⟩ := (unhide HC2).d c hcd
      obtain ⟨c0, c1, c2, c3⟩ := (unhide HV2).cells
      rw [e3] at c3
      clear h1 h2 hT hcc hd24 e3
      go_wp2
      go_ret2
      exact ⟨by rw [unhide HE2]; rfl, unhide HB2⟩

section
variable (w : World) (r a b c : Obj)
theorem chI0 : ((((w.alloc r).alloc a).alloc b).alloc c).drew.heap[w.heap.size]? = some r := blk_belowI (blk_belowI (blk_belowI (blk_belowI (heap_alloc_new w r) (Joins.below_alloc1 _ _)) (Joins.below_alloc1 _ _)) (Joins.below_alloc1 _ _)) (Below.refl _ _).drew
theorem chI1 : ((((w.alloc r).alloc a).alloc b).alloc c).drew.heap[w.heap.size + 1]? = some a := by
  have h := heap_alloc_new (w.alloc r) a
  rw [World.size_alloc] at h
  exact blk_belowI (blk_belowI (blk_belowI h (Joins.below_alloc1 _ _)) (Joins.below_alloc1 _ _)) (Below.refl _ _).drew
theorem chI2 : ((((w.alloc r).alloc a).alloc b).alloc c).drew.heap[w.heap.size + 1 + 1]? = some b := by
  have h := heap_alloc_new ((w.alloc r).alloc a) b
  rw [World.size_alloc, World.size_alloc] at h
  exact blk_belowI (blk_belowI h (Joins.below_alloc1 _ _)) (Below.refl _ _).drew
theorem chI3 : ((((w.alloc r).alloc a).alloc b).alloc c).drew.heap[w.heap.size + 1 + 1 + 1]? = some c := by
  have h := heap_alloc_new (((w.alloc r).alloc a).alloc b) c
  rw [World.size_alloc, World.size_alloc, World.size_alloc] at h
  exact blk_belowI h (Below.refl _ _).drew
theorem chIB : Below w.heap.size w ((((w.alloc r).alloc a).alloc b).alloc c).drew := (fr (Joins.below_alloc3 w r a b) (Joins.below_alloc1 _ c)).drew
end
theorem new_leafI {w W : World} {n g0 g1 g3 : Nat} (hn : n ≤ 1000) (h0 : W.heap[g0]? = some (.cells (intV zero24).toArray 3 (0, 0))) (h1 : W.heap[g1]? = some (.cells (intV (List.replicate n 0)).toArray 3 (0, 0))) (h3 : W.heap[g3]? = some (.cells (intV zero24).toArray 3 (0, 0)))
    (n1 : g0 ≠ g1) (n2 : g0 ≠ g3) (n3 : g1 ≠ g3) (b0 : w.heap.size ≤ g0) (b1 : w.heap.size ≤ g1) (b3 : w.heap.size ≤ g3) (hb : Below w.heap.size w W) :
    AnsI w W (.returned (.tuple #[.agg #[.slice (some ⟨g0, 0, none⟩) 24 24, .slice (some ⟨g1, 0, none⟩) n n, .slice none 0 0, .slice (some ⟨g3, 0, none⟩) 24 24], .int .i64 0])) (imNew n, 0) := by
  have hl : (imNew n).table.length = n := by simp [imNew]
  refine ⟨⟨some ⟨g0, 0, none⟩, 24, some ⟨g1, 0, none⟩, n, none, 0, some ⟨g3, 0, none⟩, 24⟩, [], by simp only [imV, hl]; rfl, ⟨rfl, .inl ⟨rfl, rfl, _, _, rfl⟩, ?_⟩, hb⟩
  have o0 := own_made (B := w.heap.size) (n := 24) h0 b0 rfl (by omega)
  have o1 := own_made (B := w.heap.size) (n := n) h1 b1 (by simp) hn
  have o3 := own_made (B := w.heap.size) (n := 24) h3 b3 rfl (by omega)
  have e : imRows ⟨some ⟨g0, 0, none⟩, 24, some ⟨g1, 0, none⟩, n, none, 0, some ⟨g3, 0, none⟩, 24⟩ (imNew n) [] = [(.slice (some ⟨g0, 0, none⟩) 24 24, zero24), (.slice (some ⟨g1, 0, none⟩) n n, List.replicate n 0), (.slice (some ⟨g3, 0, none⟩) 24 24, zero24)] := by
    simp only [imRows, hl]; rfl
  rw [e]
  refine ⟨fun r hr => ?_, ?_⟩
  · simp only [List.mem_cons, List.not_mem_nil, or_false] at hr
    rcases hr with rfl | rfl | rfl
    · exact o0
    · exact o1
    · exact o3
  · simp only [List.pairwise_cons, List.mem_cons, List.not_mem_nil, or_false, forall_eq_or_imp, forall_eq, List.Pairwise.nil, and_true]
    exact ⟨⟨own_ne (v := undef) n1, own_ne (v := undef) n2⟩, own_ne (v := undef) n3, fun _ h => h.elim⟩

end Go.Proofs.Ytjoafbkcnnhdiaa

/- The walk of laws.FnExactReadCluster. -/
namespace Go.Proofs.Ytjoafbkcnnhdiaa
open Go.RowKit
set_option linter.unusedVariables false
set_option maxRecDepth 100000

theorem wkReadCluster (a : Im4) (m : Img) (g : Int) (w : World) (hl : m.refs.length ≤ maxLen ∧ m.table.length ≤ maxLen ∧ m.snaps.length ≤ maxLen ∧ m.data.length ≤ maxLen) (hc : ImS w a m) :
    Calls Try.prog 6 #[imV a m, .int .i64 g] w fun e w' => e = .returned (.bool true) ∧ Below w.heap.size w w' :=
  have hL : ImL m := ⟨hl.1, hl.2.1, hl.2.2.1, hl.2.2.2⟩
  lawImReadCluster a m g (rcA m g) w hL hc (fun s hs => by obtain ⟨j, hj, rfl⟩ := List.mem_iff_getElem.1 hs; obtain ⟨_, _, _, _, _, _, _, _, h1, h2⟩ := hc.s j hj; exact ⟨h1, h2⟩) (fun b W h => readCluster_spec b m g W hL h) (fun b W h => readCluster_impl b m g W hL h)

end Go.Proofs.Ytjoafbkcnnhdiaa
