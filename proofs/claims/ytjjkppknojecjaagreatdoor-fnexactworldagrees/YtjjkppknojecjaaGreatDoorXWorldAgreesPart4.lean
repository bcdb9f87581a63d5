import Derived.Test.YtjjkppknojecjaaGreatDoorRows
import Derived.Test.YtjjkppknojecjaaGreatDoorXWorldAgreesPart1
import Derived.Test.YtjjkppknojecjaaGreatDoorXWorldAgreesPart2
import Derived.Test.YtjjkppknojecjaaGreatDoorXWorldAgreesPart3
import Derived.WalkKit
import Derived.WalkSpells
import Derived.LoopN
import Derived.BigQuiet
import Derived.Deep.QuietTactic
import Derived.Deep.RegionWith
import Derived.Deep.RegionHeld3
import Derived.Laws.OwnMore
import Derived.ProofKit
import Derived.OpenShut
import Derived.Lib.SmallJoins
import Derived.Laws.StructEq
import Derived.ShutString
import Derived.SliceStrings
import Derived.ChangeSlices

namespace Go.Proofs.YtjjkppknojecjaaGreatDoor
open Go.RowKit
set_option linter.unusedVariables false
set_option maxRecDepth 100000

theorem fm_parts {m : Img} (h : imFm m = true) : ctB m.refs = true ∧ m.snaps.length ≤ 3 ∧ m.data.length = 24 ∧ (∀ t ∈ imTabs m, tbB t = true) := by
  simp only [imFm, Bool.and_eq_true, decide_eq_true_eq, List.all_eq_true] at h
  obtain ⟨⟨⟨⟨⟨⟨h1, h2⟩, h3⟩, h4⟩, h5⟩, h6⟩, h7⟩ := h
  refine ⟨h1, h3, h4, fun t ht => ?_⟩
  unfold imTabs at ht
  rw [List.mem_cons, List.mem_map] at ht
  rcases ht with rfl | ⟨s, hs, rfl⟩
  · exact h2
  · exact (h5 s hs).2
theorem im_fm {m : Img} (h : imFm m = false) : imB m = false := by simp [imB, h]
theorem im_once {m : Img} {t : List Int} (ht : t ∈ imTabs m) (h : onceB t = false) : imB m = false := by
  have e : (imTabs m).all onceB = false := by
    cases hh : (imTabs m).all onceB with
    | false => rfl
    | true => rw [List.all_eq_true] at hh; rw [hh t ht] at h; cases h
  simp only [imB, e, Bool.and_false, Bool.false_and]
theorem im_cnt {m : Img} {i : Nat} (h1 : i < (imCnt m).length) (h2 : i < m.refs.length) (h : (imCnt m)[i] ≠ m.refs[i]) : imB m = false := by
  have e : decide (imCnt m = m.refs) = false := decide_eq_false (fun e => h (by simp only [e]))
  simp only [imB, e, Bool.and_false, Bool.false_and]
theorem im_clear {m : Img} {i : Nat} (hi : i < 24) (h1 : i < m.refs.length) (h2 : i < m.data.length) (hr : m.refs[i] = 0) (hd : m.data[i] ≠ 0) : imB m = false := by
  have e : clearB m = false := by
    unfold clearB
    cases hh : (List.range 24).all _ with
    | false => rfl
    | true =>
      rw [List.all_eq_true] at hh
      have := hh i (List.mem_range.2 hi)
      simp only [List.getD, List.getElem?_eq_getElem h1, List.getElem?_eq_getElem h2, Option.getD_some, decide_eq_true_eq] at this
      exact absurd (this hr) hd
  simp only [imB, e, Bool.and_false]
theorem im_yes {m : Img} (hf : imFm m = true) (h1 : ∀ t ∈ imTabs m, onceB t = true) (h2 : ∀ i (ha : i < (imCnt m).length) (hb : i < m.refs.length), (imCnt m)[i] = m.refs[i]) (h3 : ∀ i, i < 24 → m.refs.getD i 0 = 0 → m.data.getD i 0 = 0) : imB m = true := by
  have hl := ctB_len (fm_parts hf).1
  have e2 : imCnt m = m.refs := List.ext_getElem (by rw [imCnt_len, hl]) h2
  have e1 : (imTabs m).all onceB = true := List.all_eq_true.2 h1
  have e3 : clearB m = true := by
    unfold clearB
    rw [List.all_eq_true]
    intro i hi
    exact decide_eq_true (h3 i (List.mem_range.1 hi))
  simp only [imB, hf, e1, e2, e3, decide_true, Bool.and_true]

set_option maxHeartbeats 3200000 in
theorem imageOK_spec (a : Im4) (m : Img) (w : World) (hL : ImL m) (hc : ImS w a m) :
    Calls Tryz.prog 45 #[imV a m] w fun e w' => e = .returned (.bool (imB m)) ∧ Below w.heap.size w w' := by
  have HA := hide (Joins.below_alloc1 w (.cells #[.slice a.ro m.refs.length a.rc, .slice a.tq m.table.length a.tc, .slice a.so m.snaps.length a.sc, .slice a.dq m.data.length a.dc] 61))
  have HV := hide (VarM.new w 61 (.slice a.ro m.refs.length a.rc) (.slice a.tq m.table.length a.tc) (.slice a.so m.snaps.length a.sc) (.slice a.dq m.data.length a.dc))
  have HC := hide (hc.below (unhide HA))
  have HL := hide hL
  clear hc hL
  cases hfm : imFm m
  · have HF := hide (im_fm hfm)
    go_enter Tryz.func45, Tryz.ntmps45
    go_upto_region 1 with fail
    revert HA HV HC
    generalize (w.alloc _) = W0
    intro HA HV HC
    obtain ⟨c0, c1, c2, c3⟩ := (unhide HV).cells
    go_wp2_with fail
    refine (l10Form_any a m _ (unhide HL) (unhide HC)).mono ?_
    rintro e w1 ⟨rfl, hb⟩
    rw [hfm]
    have HB := hide (fr (unhide HA) hb)
    clear hb c0 c1 c2 c3
    go_wp2
    go_ret
    exact ⟨ret_bool (unhide HF).symm, unhide HB⟩
  obtain ⟨p1, p2, p3, p4⟩ := fm_parts hfm
  have HFM := hide hfm
  have HR24 := hide (ctB_len p1)
  have HD24 := hide p3
  have HTB := hide p4
  have hs3 : m.snaps.length ≤ 3 := p2
  clear p1 p2 p3 p4 hfm
  go_enter Tryz.func45, Tryz.ntmps45
  go_upto_region 1 with fail
  revert HA HV HC
  generalize (w.alloc _) = W0
  intro HA HV HC
  obtain ⟨c0, c1, c2, c3⟩ := (unhide HV).cells
  go_wp2_with fail
  refine (l10Form_any a m _ (unhide HL) (unhide HC)).mono ?_
  rintro e w1 ⟨rfl, hb⟩
  rw [unhide HFM]
  have HB1 := hide (fr (unhide HA) hb)
  have HC1 := hide ((unhide HC).below hb)
  have HV1 := hide ((unhide HV).below hb)
  clear hb c0 c1 c2 c3 HA HV HC
  obtain ⟨c0, c1, c2, c3⟩ := (unhide HV1).cells
  go_wp2_with fail
  refine (l10Twice_any a.tq a.tc m.table _ (unhide HTB _ (by simp [imTabs])) (unhide HC1).t).mono ?_
  rintro e w2 ⟨rfl, hb⟩
  have HB2 := hide (fr (unhide HB1) hb)
  have HC2 := hide ((unhide HC1).below hb)
  have HV2 := hide ((unhide HV1).below hb)
  clear hb c0 c1 c2 c3 HB1 HC1 HV1
  cases hon : onceB m.table
  · have HF := hide (im_once (m := m) (t := m.table) (by simp [imTabs]) hon)
    go_wp2
    go_ret
    exact ⟨ret_bool (unhide HF).symm, unhide HB2⟩
  have HON := hide hon
  clear hon
  obtain ⟨c0, c1, c2, c3⟩ := (unhide HV2).cells
  go_wp2
  clear c0 c1 c2 c3
  go_loopw [3] (fun i wr => ∃ k : Nat, k ≤ m.snaps.length ∧ i = .int .i64 k ∧ Hid (∀ j (hj : j < m.snaps.length), j < k → onceB m.snaps[j].table = true) ∧ Hid (Below w2.heap.size w2 wr)) (fun i _ => m.snaps.length - (intOf i).toNat)
  case atStart => exact ⟨0, Nat.zero_le _, rfl, hide (fun j _ h => by omega), hide (Below.refl _ _)⟩
  case round =>
    obtain ⟨i, hi, rfl, HS, HB⟩ := hrel
    obtain ⟨c0, c1, c2, c3⟩ := ((unhide HV2).below (unhide HB)).cells
    by_cases hlt : i < m.snaps.length
    · obtain ⟨b, off, tq, tc, eb, hn0, ht0, hIs, hz, htl⟩ := ((unhide HC2).s.below (unhide HB)) i hlt
      rw [eb] at c2
      clear eb
      have hlti : (i : Int) < (m.snaps.length : Int) := by omega
      have HIS := hide hIs
      have HMT : Hid (m.snaps[i].table ∈ imTabs m) := hide (by unfold imTabs; exact List.mem_cons_of_mem _ (List.mem_map.2 ⟨_, List.getElem_mem hlt, rfl⟩))
      clear hIs hz htl
      go_wp2_with fail
      refine (l10Twice_any tq tc m.snaps[i].table _ (unhide HTB _ (unhide HMT)) (unhide HIS)).mono ?_
      rintro e w3 ⟨rfl, hb⟩
      have HB3 := hide (fr (unhide HB) hb)
      clear hb c0 c1 c2 c3 hn0 ht0
      cases hon : onceB m.snaps[i].table
      · have HF := hide (im_once (unhide HMT) hon)
        go_wp2
        go_ret
        exact ⟨ret_bool (unhide HF).symm, fr (unhide HB2) (unhide HB3)⟩
      · have HS' := hide (all_succ (p := fun s : Snp => onceB s.table) hlt (unhide HS) hon)
        go_wp2
        go_roundw
        case rel => exact ⟨i + 1, by omega, by go_num, HS', HB3⟩
        case measure => simp [intOf]; omega
    · have HALL : Hid (∀ t ∈ imTabs m, onceB t = true) := hide (fun t ht => by
        unfold imTabs at ht
        rw [List.mem_cons, List.mem_map] at ht
        rcases ht with rfl | ⟨s, hs, rfl⟩
        · exact unhide HON
        · obtain ⟨j, hj, rfl⟩ := List.mem_iff_getElem.1 hs
          exact unhide HS j hj (by omega))
      have HCr := hide ((unhide HC2).below (unhide HB))
      go_wp2_with fail
      refine (l10Count_any a m _ hs3 (unhide HTB) (unhide HCr)).mono ?_
      rintro e w3 ⟨v, rfl, ⟨no, na, rfl, ho⟩, hb⟩
      have HLN := hide (imCnt_len m)
      have HI3 := hide (ownRN ho)
      have HB3 := hide (fr (unhide HB) hb)
      have HYES := hide (fun h2 h3 => im_yes (m := m) (unhide HFM) (unhide HALL) h2 h3)
      have HCNT := hide (fun (i : Nat) (h1 : i < (imCnt m).length) (h2 : i < m.refs.length) (h : (imCnt m)[i] ≠ m.refs[i]) => im_cnt h1 h2 h)
      clear ho hb c0 c1 c2 c3 HB
      generalize imCnt m = L at *
      go_wp2
      go_loopw [5] (fun i wq => ∃ k : Nat, k ≤ 24 ∧ i = .int .i64 k ∧ Hid (∀ j (h1 : j < L.length) (h2 : j < m.refs.length), j < k → L[j] = m.refs[j]) ∧ Hid (∀ j, j < k → m.refs.getD j 0 = 0 → m.data.getD j 0 = 0) ∧ Hid (Below w3.heap.size w3 wq)) (fun i _ => 24 - (intOf i).toNat)
      case atStart => exact ⟨0, by omega, rfl, hide (fun j _ _ h => by omega), hide (fun j h => by omega), hide (Below.refl _ _)⟩
      case round =>
        obtain ⟨k, hk, rfl, HE, HZ, HB⟩ := hrel
        by_cases hlt : k < 24
        · have hlti : (k : Int) < 24 := by omega
          have kl : k < L.length := by rw [unhide HLN]; exact hlt
          have kr : k < m.refs.length := by rw [unhide HR24]; exact hlt
          have kd : k < m.data.length := by rw [unhide HD24]; exact hlt
          have kli : (k : Int) < (L.length : Int) := by omega
          have kri : (k : Int) < (m.refs.length : Int) := by omega
          have kdi : (k : Int) < (m.data.length : Int) := by omega
          obtain ⟨c0, c1, c2, c3⟩ := ((unhide HV2).below (fr (unhide HB3) (unhide HB))).cells
          obtain ⟨b1, o1, e1, hx1⟩ := ((unhide HI3).below (unhide HB)) k kl
          obtain ⟨b2, o2, e2, hx2⟩ := ((unhide HC2).r.below (fr (unhide HB3) (unhide HB))) k kr
          obtain ⟨b3, o3, e3, hx3⟩ := ((unhide HC2).d.below (fr (unhide HB3) (unhide HB))) k kd
          subst e1
          rw [e2] at c0
          rw [e3] at c3
          clear e2 e3 c1 c2
          have HER : Hid (L[k] = m.refs[k] → ∀ j (h1 : j < L.length) (h2 : j < m.refs.length), j < k + 1 → L[j] = m.refs[j]) := hide (fun h => eq_succ kl kr (unhide HE) h)
          have HZR : Hid ((m.refs[k] = 0 → m.data[k] = 0) → ∀ j, j < k + 1 → m.refs.getD j 0 = 0 → m.data.getD j 0 = 0) := hide (fun h j hj => by
            by_cases e : j = k
            · subst e; simpa [List.getD, kr, kd] using h
            · exact unhide HZ j (by omega))
          have HF1 := hide (unhide HCNT k kl kr)
          have HF2 : Hid (m.refs[k] = 0 → m.data[k] ≠ 0 → imB m = false) := hide (fun h1 h2 => im_clear hlt kr kd h1 h2)
          generalize L[k] = X at *
          generalize m.refs[k] = R at *
          generalize m.data[k] = D at *
          by_cases hne : X = R
          · by_cases hz : X = 0
            · by_cases hd : D = 0
              · have HE' := hide (unhide HER hne)
                have HZ' := hide (unhide HZR (fun _ => hd))
                have b1' : (X != R) = false := by simp [hne]
                have b2' : (X == 0) = true := by simp [hz]
                have b3' : (D != 0) = false := by simp [hd]
                clear hne hz hd
                go_wp2
                go_quiet (fail)
                go_wp2
                go_roundw
                case rel => exact ⟨k + 1, by omega, by go_num, HE', HZ', hide ((unhide HB).trans (Joins.below_draws _ _ _))⟩
                case measure => simp [intOf]; omega
              · have HF := hide (unhide HF2 (hne ▸ hz) hd)
                have b1' : (X != R) = false := by simp [hne]
                have b2' : (X == 0) = true := by simp [hz]
                have b3' : (D != 0) = true := by simp [hd]
                clear hne hz hd
                go_wp2
                go_quiet (fail)
                go_wp2
                go_ret
                exact ⟨ret_bool (unhide HF).symm, fr (unhide HB2) (fr (unhide HB3) ((unhide HB).trans (Joins.below_draws _ _ _)))⟩
            · have HE' := hide (unhide HER hne)
              have HZ' := hide (unhide HZR (fun h => absurd (hne.trans h) hz))
              have b1' : (X != R) = false := by simp [hne]
              have b2' : (X == 0) = false := by simp [hz]
              clear hne hz
              go_wp2
              go_quiet (fail)
              go_wp2
              go_roundw
              case rel => exact ⟨k + 1, by omega, by go_num, HE', HZ', hide ((unhide HB).trans (Joins.below_draws _ _ _))⟩
              case measure => simp [intOf]; omega
          · have HF := hide (unhide HF1 hne)
            have b1' : (X != R) = true := by simp [hne]
            clear hne
            go_wp2
            go_quiet (fail)
            go_wp2
            go_ret
            exact ⟨ret_bool (unhide HF).symm, fr (unhide HB2) (fr (unhide HB3) ((unhide HB).trans (Joins.below_draws _ _ _)))⟩
        · have HF := hide (unhide HYES (fun i h1 h2 => unhide HE i h1 h2 (by have := unhide HLN; omega)) (fun i h => unhide HZ i (by omega)))
          go_wp2
          go_ret
          exact ⟨ret_bool (unhide HF).symm, fr (unhide HB2) (fr (unhide HB3) (unhide HB))⟩

end Go.Proofs.YtjjkppknojecjaaGreatDoor

namespace Go.Proofs.YtjjkppknojecjaaGreatDoor
open Go.RowKit
set_option linter.unusedVariables false
set_option maxRecDepth 100000

theorem OwnN.spot {w : World} {B c n k : Nat} {ao : Option Addr} {xs : List Int} (h : OwnN w B (.slice ao n k) xs) (hn : n = xs.length) (hc : c < xs.length) : ∃ g, ao = some ⟨g, 0, none⟩ ∧ w.cell? ⟨g, c, none⟩ = some (.int .i64 xs[c]) ∧ w.frozen? ⟨g, c, none⟩ = false ∧ Own (.slice ao n k) g ∧ ∀ y, OwnN (w.setCell ⟨g, c, none⟩ (.int .i64 y)) B (.slice ao n k) (xs.set c y) := by
  subst hn
  have hr := h.row
  have hp : 0 < xs.length := by omega
  obtain ⟨g, cap, cur, e, _, _⟩ := own_form hp (hr.row hp)
  simp only [Value.slice.injEq, true_and] at e
  obtain ⟨rfl, rfl⟩ := e
  refine ⟨g, rfl, ?_, (hr.row hp).frozenAt c, own_of hp rfl, fun y => ?_⟩
  · have := (hr.row hp).cellAt c (by omega)
    rwa [intV_get hc] at this
  · exact OwnN.mk' (own_setI hr hp y) (by simp)
theorem OwnIm.setR {w : World} {B c : Nat} {a : Im4} {m : Img} {ts : List Value} (h : OwnIm w B a m ts) (hc : c < m.refs.length) : ∃ g, a.ro = some ⟨g, 0, none⟩ ∧ w.cell? ⟨g, c, none⟩ = some (.int .i64 m.refs[c]) ∧ w.frozen? ⟨g, c, none⟩ = false ∧ ImB a m ts g ∧ ∀ y, OwnIm (w.setCell ⟨g, c, none⟩ (.int .i64 y)) B a { m with refs := m.refs.set c y } ts := by
  obtain ⟨g, e, h1, h2, h3, h4⟩ := (h.rows.own (.slice a.ro m.refs.length a.rc, m.refs) (by simp [imRows])).spot rfl hc
  have hk : ∀ y, Keep (Own (.slice a.ro m.refs.length a.rc)) w (w.setCell ⟨g, c, none⟩ (.int .i64 y)) := fun y => (Keep.refl _ w).setCell (p := ⟨g, c, none⟩) h3 _
  refine ⟨g, e, h1, h2, .inl h3, fun y => ⟨h.len, h.s.keep (hk y) (own_apartT h.s (h.rows.own (.slice a.ro m.refs.length a.rc, m.refs) (by simp [imRows])).row (by decide)), ?_⟩⟩
  have := h.rows.turn (j := 0) rfl (hk y) (h4 y)
  simp only [imRows, List.length_set]
  exact this
theorem OwnIm.setD {w : World} {B c : Nat} {a : Im4} {m : Img} {ts : List Value} (h : OwnIm w B a m ts) (hc : c < m.data.length) : ∃ g, a.dq = some ⟨g, 0, none⟩ ∧ w.cell? ⟨g, c, none⟩ = some (.int .i64 m.data[c]) ∧ w.frozen? ⟨g, c, none⟩ = false ∧ ImB a m ts g ∧ ∀ y, OwnIm (w.setCell ⟨g, c, none⟩ (.int .i64 y)) B a { m with data := m.data.set c y } ts := by
  obtain ⟨g, e, h1, h2, h3, h4⟩ := (h.rows.own (.slice a.dq m.data.length a.dc, m.data) (by simp [imRows])).spot rfl hc
  have hk : ∀ y, Keep (Own (.slice a.dq m.data.length a.dc)) w (w.setCell ⟨g, c, none⟩ (.int .i64 y)) := fun y => (Keep.refl _ w).setCell (p := ⟨g, c, none⟩) h3 _
  refine ⟨g, e, h1, h2, .inr (.inr (.inl h3)), fun y => ⟨h.len, h.s.keep (hk y) (own_apartT h.s (h.rows.own (.slice a.dq m.data.length a.dc, m.data) (by simp [imRows])).row (by decide)), ?_⟩⟩
  have := h.rows.turn (j := 2) rfl (hk y) (h4 y)
  simp only [imRows, List.length_set]
  exact this
theorem OwnIm.other {w : World} {B x : Nat} {a : Im4} {m : Img} {ts : List Value} {v0 v1 v2 v3 : Value} (h : OwnIm w B a m ts) (hv : VarM w x 61 v0 v1 v2 v3) : ¬ ImB a m ts x := by
  intro hx
  rcases hx with h1 | h1 | h1 | h1 | ⟨t, ht, h1⟩
  · exact (h.rows.own (.slice a.ro m.refs.length a.rc, m.refs) (by simp [imRows])).row.other hv (by decide) h1
  · exact (h.rows.own (.slice a.tq m.table.length a.tc, m.table) (by simp [imRows])).row.other hv (by decide) h1
  · exact (h.rows.own (.slice a.dq m.data.length a.dc, m.data) (by simp [imRows])).row.other hv (by decide) h1
  · exact h.s.other hv (by decide) h1
  · have hm : t ∈ (ts.zip (m.snaps.map (·.table))).map Prod.fst := by rw [zip_fst _ _ (by rw [List.length_map, h.len])]; exact ht
    obtain ⟨p, hp, rfl⟩ := List.mem_map.1 hm
    exact (h.rows.own p (by simp [imRows, hp])).row.other hv (by decide) h1
theorem OwnIm.shows {w : World} {B : Nat} {a : Im4} {m : Img} {ts : List Value} (h : OwnIm w B a m ts) (hz : ∀ s ∈ m.snaps, s.name.size ≤ maxLen ∧ s.table.length ≤ maxLen) : ImS w a m := by
  refine ⟨ownRN (h.rows.own (.slice a.ro m.refs.length a.rc, m.refs) (by simp [imRows])).row, ownRN (h.rows.own (.slice a.tq m.table.length a.tc, m.table) (by simp [imRows])).row, fun i hi => ?_, ownRN (h.rows.own (.slice a.dq m.data.length a.dc, m.data) (by simp [imRows])).row⟩
  have hp : 0 < m.snaps.length := by omega
  have hit : i < ts.length := by rw [← h.len]; exact hi
  have hs := h.s.row hp
  obtain ⟨g, cap, cur, e, _, _⟩ := own_form hp hs
  rw [e] at hs
  simp only [Value.slice.injEq, true_and] at e
  obtain ⟨e1, e2⟩ := e
  have hgs := snC_get (List.getElem?_eq_getElem hi) (List.getElem?_eq_getElem hit)
  have hm : (ts[i], m.snaps[i].table) ∈ imRows a m ts := by
    have : (ts.zip (m.snaps.map (·.table)))[i]? = some (ts[i], m.snaps[i].table) := by
      rw [List.getElem?_zip_eq_some]
      exact ⟨List.getElem?_eq_getElem hit, by simp [hi]⟩
    simp [imRows, List.mem_of_getElem? this]
  obtain ⟨tq, tc, et, ho⟩ := h.rows.own _ hm
  simp only at et ho
  refine ⟨g, 0, tq, tc, e1, ?_, ?_, ownRN ho, (hz _ (List.getElem_mem hi)).1, (hz _ (List.getElem_mem hi)).2⟩
  · rw [Nat.zero_add]; exact (hs.cellAt (i * 2) (by omega)).trans hgs.1
  · rw [Nat.zero_add]; exact (hs.cellAt (i * 2 + 1) (by omega)).trans (by rw [hgs.2, et])

theorem l10Value_any (a : Im4) (m : Img) (e : Int) (w : World) (he0 : 0 ≤ e) (he1 : e - 2 < m.data.length) (hd : m.data.length ≤ 1000) (hc : Is w a.dq m.data) :
    Calls Tryz.prog 88 #[imV a m, .int .i64 e] w fun r w' => r = .returned (.int .i64 (imVal m e)) ∧ Below w.heap.size w w' := by
  have HA := hide (Joins.below_alloc1 w (.cells #[.slice a.ro m.refs.length a.rc, .slice a.tq m.table.length a.tc, .slice a.so m.snaps.length a.sc, .slice a.dq m.data.length a.dc] 61))
  have HV := hide (VarM.new w 61 (.slice a.ro m.refs.length a.rc) (.slice a.tq m.table.length a.tc) (.slice a.so m.snaps.length a.sc) (.slice a.dq m.data.length a.dc))
  have HC := hide (hc.below (unhide HA))
  clear hc
  by_cases h2 : e < 2
  · have HE : Hid (imVal m e = 0) := hide (if_pos h2)
    go_enter Tryz.func88, Tryz.ntmps88
    go_wp2
    go_ret
    exact ⟨ret_int (unhide HE).symm, unhide HA⟩
  · obtain ⟨c, hcc⟩ : ∃ c : Nat, e = (c : Int) + 2 := ⟨(e - 2).toNat, by omega⟩
    subst hcc
    have hcl : c < m.data.length := by omega
    have HE : Hid (imVal m ((c : Int) + 2) = m.data[c]) := hide (by
      rw [imVal, if_neg h2, show ((c : Int) + 2 - 2).toNat = c by omega]
      simp [List.getD, hcl])
    have hw2 : IntKind.i64.wrap ((c : Int) + 2 - 2) = (c : Int) := by rw [IntKind.wrap_i64]; omega
    have hcli : (c : Int) < (m.data.length : Int) := by omega
    go_enter Tryz.func88, Tryz.ntmps88
    go_upto_region 1 with fail
    revert HA HV HC
    generalize (w.alloc _) = W0
    intro HA HV HC
    obtain ⟨c0, c1, c2, c3⟩ := (unhide HV).cells
    obtain ⟨b, off, ed, hx⟩ := (unhide HC) c hcl
    rw [ed] at c3
    clear ed
    go_wp2
    go_ret
    exact ⟨ret_int (unhide HE).symm, unhide HA⟩

end Go.Proofs.YtjjkppknojecjaaGreatDoor

namespace Go.Proofs.YtjjkppknojecjaaGreatDoor
open Go.RowKit
set_option linter.unusedVariables false
set_option maxRecDepth 100000

structure Gs4 where
  vo : Option Addr
  vc : Nat
  so : Option Addr
  sc : Nat
abbrev gsV (a : Gs4) (g : Gst) : Value := .agg #[.slice a.vo g.vals.length a.vc, .slice a.so g.shots.length a.sc]
structure GsS (w : World) (a : Gs4) (g : Gst) : Prop where
  v : Is w a.vo g.vals
  s : Sns w a.so g.shots
theorem GsS.below {w w' : World} {a : Gs4} {g : Gst} (h : GsS w a g) (hb : Below w.heap.size w w') : GsS w' a g := ⟨h.v.below hb, h.s.below hb⟩
def gsSz (g : Gst) : Nat := g.vals.length + (g.shots.length + snSz g.shots)
def gsRows (a : Gs4) (g : Gst) (ts : List Value) : List (Value × List Int) := (.slice a.vo g.vals.length a.vc, g.vals) :: ts.zip (g.shots.map (·.table))
structure OwnGs (w : World) (B : Nat) (a : Gs4) (g : Gst) (ts : List Value) : Prop where
  len : g.shots.length = ts.length
  s : OwnS w B 99 2 (.slice a.so g.shots.length a.sc) g.shots.length (snC g.shots ts)
  rows : OwnA w B (gsRows a g ts)
theorem OwnGs.below {w w' : World} {B : Nat} {a : Gs4} {g : Gst} {ts : List Value} (h : OwnGs w B a g ts) (hb : Below w.heap.size w w') : OwnGs w' B a g ts := ⟨h.len, h.s.below hb, h.rows.below hb⟩
theorem OwnGs.base {w : World} {B B' : Nat} {a : Gs4} {g : Gst} {ts : List Value} (h : OwnGs w B a g ts) (hB : B' ≤ B) : OwnGs w B' a g ts := ⟨h.len, h.s.base hB, h.rows.base hB⟩
theorem OwnGs.zero (w : World) (B : Nat) : OwnGs w B ⟨none, 0, none, 0⟩ gs0 [] := ⟨rfl, .inl ⟨rfl, rfl, none, 0, rfl⟩, OwnA.one ⟨none, 0, rfl, .inl ⟨rfl, rfl, none, rfl⟩⟩⟩
theorem OwnGs.setCell {w : World} {B : Nat} {a : Gs4} {g : Gst} {ts : List Value} (h : OwnGs w B a g ts) {p : Addr} (hp : p.block < B) (u : Value) : OwnGs (w.setCell p u) B a g ts := ⟨h.len, h.s.setCell hp u, h.rows.setCell hp u⟩
theorem OwnGs.shows {w : World} {B : Nat} {a : Gs4} {g : Gst} {ts : List Value} (h : OwnGs w B a g ts) (hz : ∀ s ∈ g.shots, s.name.size ≤ maxLen ∧ s.table.length ≤ maxLen) : GsS w a g := by
  refine ⟨ownRN (h.rows.own (.slice a.vo g.vals.length a.vc, g.vals) (by simp [gsRows])).row, fun i hi => ?_⟩
  have hp : 0 < g.shots.length := by omega
  have hit : i < ts.length := by rw [← h.len]; exact hi
  have hs := h.s.row hp
  obtain ⟨b, cap, cur, e, _, _⟩ := own_form hp hs
  rw [e] at hs
  simp only [Value.slice.injEq, true_and] at e
  obtain ⟨e1, e2⟩ := e
  have hgs := snC_get (List.getElem?_eq_getElem hi) (List.getElem?_eq_getElem hit)
  have hm : (ts[i], g.shots[i].table) ∈ gsRows a g ts := by
    have : (ts.zip (g.shots.map (·.table)))[i]? = some (ts[i], g.shots[i].table) := by
      rw [List.getElem?_zip_eq_some]
      exact ⟨List.getElem?_eq_getElem hit, by simp [hi]⟩
    simp [gsRows, List.mem_of_getElem? this]
  obtain ⟨tq, tc, et, ho⟩ := h.rows.own _ hm
  simp only at et ho
  refine ⟨b, 0, tq, tc, e1, ?_, ?_, ownRN ho, (hz _ (List.getElem_mem hi)).1, (hz _ (List.getElem_mem hi)).2⟩
  · rw [Nat.zero_add]; exact (hs.cellAt (i * 2) (by omega)).trans hgs.1
  · rw [Nat.zero_add]; exact (hs.cellAt (i * 2 + 1) (by omega)).trans (by rw [hgs.2, et])
def VarG (w : World) (x : Nat) (t : TypeId) (v0 v1 : Value) : Prop := w.heap[x]? = some (.cells #[v0, v1] t (0, 0))
theorem VarG.lt {w : World} {x t : Nat} {v0 v1 : Value} (k : VarG w x t v0 v1) : x < w.heap.size := (Array.getElem?_eq_some_iff.1 k).1
theorem VarG.cells {w : World} {x t : Nat} {v0 v1 : Value} (k : VarG w x t v0 v1) : w.cell? ⟨x, 0, none⟩ = some v0 ∧ w.cell? ⟨x, 1, none⟩ = some v1 := ⟨by rw [Joins.cell_of_block k]; rfl, by rw [Joins.cell_of_block k]; rfl⟩
theorem VarG.free {w : World} {x t : Nat} {v0 v1 : Value} (k : VarG w x t v0 v1) : w.frozen? ⟨x, 0, none⟩ = false ∧ w.frozen? ⟨x, 1, none⟩ = false := ⟨Joins.unfrozen_of_block k 0, Joins.unfrozen_of_block k 1⟩
theorem VarG.below {w w' : World} {x t : Nat} {v0 v1 : Value} (k : VarG w x t v0 v1) (hb : Below w.heap.size w w') : VarG w' x t v0 v1 := by
  unfold VarG; rw [hb.block x k.lt]; exact k
theorem VarG.new (w : World) (t : TypeId) (v0 v1 : Value) : VarG (w.alloc (.cells #[v0, v1] t)) w.heap.size t v0 v1 := heap_alloc_new w _
theorem VarG.other {w : World} {x t : Nat} {v0 v1 : Value} (h : VarG w x t v0 v1) {p : Addr} (hp : x ≠ p.block) (u : Value) : VarG (w.setCell p u) x t v0 v1 := by
  unfold VarG; rw [Below.heap_setCell w p u x hp]; exact h
theorem VarG.set0 {w : World} {x t : Nat} {v0 v1 : Value} (h : VarG w x t v0 v1) (u : Value) : VarG (w.setCell ⟨x, 0, none⟩ u) x t u v1 := Joins.block_setCell (i := 0) h u
theorem VarG.set1 {w : World} {x t : Nat} {v0 v1 : Value} (h : VarG w x t v0 v1) (u : Value) : VarG (w.setCell ⟨x, 1, none⟩ u) x t v0 u := Joins.block_setCell (i := 1) h u
theorem VarG.at {w : World} {x y t : Nat} {v0 v1 : Value} (h : VarG w x t v0 v1) (e : x = y) : VarG w y t v0 v1 := e ▸ h
end Go.Proofs.YtjjkppknojecjaaGreatDoor

namespace Go.Proofs.YtjjkppknojecjaaGreatDoor
open Go.ChangeShapes Go.WideShapes Go.ChangeAt Go.RowKit Go.Deep
set_option linter.unusedVariables false
set_option maxRecDepth 100000

theorem cIntG : Tryz.prog.cellsOf 3 = 1 := by kernel_rfl
theorem cStrG : Tryz.prog.cellsOf 9 = 1 := by kernel_rfl
theorem cIntsG : Tryz.prog.cellsOf 29 = 1 := by kernel_rfl
theorem cShotG : Tryz.prog.cellsOf 124 = 2 := by kernel_rfl
theorem cGstG : Tryz.prog.cellsOf 32 = 2 := by kernel_rfl
end Go.Proofs.YtjjkppknojecjaaGreatDoor

namespace Go.Proofs.YtjjkppknojecjaaGreatDoor
open Go.RowKit
set_option linter.unusedVariables false

structure OwnD (w : World) (B : Nat) (ao : Option Addr) (n ca : Nat) (bo : Option Addr) (m cb : Nat) (ss : List ByteArray) (xs : List Wr) : Prop where
  s : OwnR w B 9 1 (.slice ao n ca) n (strV ss)
  i : OwnR w B 126 3 (.slice bo m cb) m (ioV xs)

theorem OwnD.below {w w' : World} {B n ca m cb : Nat} {ao bo : Option Addr} {ss : List ByteArray} {xs : List Wr} (h : OwnD w B ao n ca bo m cb ss xs) (hb : Below w.heap.size w w') : OwnD w' B ao n ca bo m cb ss xs := ⟨h.s.below hb, h.i.below hb⟩
theorem OwnD.base {w : World} {B B' n ca m cb : Nat} {ao bo : Option Addr} {ss : List ByteArray} {xs : List Wr} (h : OwnD w B ao n ca bo m cb ss xs) (hb : B' ≤ B) : OwnD w B' ao n ca bo m cb ss xs := ⟨h.s.base hb, h.i.base hb⟩
theorem OwnD.setCell {w : World} {B n ca m cb : Nat} {ao bo : Option Addr} {ss : List ByteArray} {xs : List Wr} (h : OwnD w B ao n ca bo m cb ss xs) {a : Addr} (ha : a.block < B) (u : Value) : OwnD (w.setCell a u) B ao n ca bo m cb ss xs := ⟨h.s.setCell ha u, h.i.setCell ha u⟩
theorem OwnD.len {w : World} {B n ca m cb : Nat} {ao bo : Option Addr} {ss : List ByteArray} {xs : List Wr} (h : OwnD w B ao n ca bo m cb ss xs) : ss.length = n ∧ xs.length = m := by
  have h1 := h.s.len
  have h2 := h.i.len
  rw [strV_length] at h1
  rw [ioV_length] at h2
  exact ⟨by omega, by omega⟩
theorem OwnD.ss {w : World} {B n ca m cb : Nat} {ao bo : Option Addr} {ss : List ByteArray} {xs : List Wr} (h : OwnD w B ao n ca bo m cb ss xs) (hz : ∀ s ∈ ss, s.size ≤ maxLen) : Ss w ao ss := by
  obtain ⟨rfl, rfl⟩ := h.len
  rcases h.s with ⟨h0, _⟩ | ⟨_, h'⟩
  · intro i hi; omega
  · exact ownS h' hz
theorem OwnD.ios {w : World} {B n ca m cb : Nat} {ao bo : Option Addr} {ss : List ByteArray} {xs : List Wr} (h : OwnD w B ao n ca bo m cb ss xs) (hz : ∀ x ∈ xs, x.data.size ≤ maxLen) : Ios w bo xs := by
  obtain ⟨rfl, rfl⟩ := h.len
  rcases h.i with ⟨h0, _⟩ | ⟨_, h'⟩
  · intro i hi; omega
  · exact ownI h' hz
def VarD (w : World) (x : Nat) (a b : Value) : Prop := w.heap[x]? = some (.cells #[a, b] 42 (0, 0))
theorem VarD.lt {w : World} {x : Nat} {a b : Value} (h : VarD w x a b) : x < w.heap.size := (Array.getElem?_eq_some_iff.1 h).1
theorem VarD.cells {w : World} {x : Nat} {a b : Value} (h : VarD w x a b) : w.cell? ⟨x, 0, none⟩ = some a ∧ w.cell? ⟨x, 1, none⟩ = some b := ⟨by rw [Joins.cell_of_block h]; rfl, by rw [Joins.cell_of_block h]; rfl⟩
theorem VarD.below {w w' : World} {x : Nat} {a b : Value} (h : VarD w x a b) (hb : Below w.heap.size w w') : VarD w' x a b := by
  unfold VarD; rw [hb.block x h.lt]; exact h
theorem VarD.new (w : World) (a b : Value) : VarD (w.alloc (.cells #[a, b] 42)) w.heap.size a b := heap_alloc_new w _

end Go.Proofs.YtjjkppknojecjaaGreatDoor

namespace Go.Proofs.YtjjkppknojecjaaGreatDoor
open Go.RowKit
set_option linter.unusedVariables false

structure Hst where
  st : Int
  gen : Int
  ren : Int
def hst0 : Hst := ⟨0, 0, 0⟩
abbrev hstV (x : Hst) : Value := .agg #[.int .i64 x.st, .int .i64 x.gen, .int .i64 x.ren]
def Hss (w : World) (ao : Option Addr) (xs : List Hst) : Prop := ∀ i (h : i < xs.length), ∃ b off, ao = some ⟨b, off, none⟩ ∧
  w.cell? ⟨b, off + i * 3, none⟩ = some (.int .i64 xs[i].st) ∧ w.cell? ⟨b, off + i * 3 + 1, none⟩ = some (.int .i64 xs[i].gen) ∧ w.cell? ⟨b, off + i * 3 + 2, none⟩ = some (.int .i64 xs[i].ren)
theorem Hss.below {w w' : World} {ao : Option Addr} {xs : List Hst} (h : Hss w ao xs) (hb : Below w.heap.size w w') : Hss w' ao xs := fun i hi => by
  obtain ⟨b, off, e, h0, h1, h2⟩ := h i hi
  exact ⟨b, off, e, (hb.cell (p := ⟨b, off + i * 3, none⟩) (World.block_lt_of_cell? _ _ h0)).trans h0, (hb.cell (p := ⟨b, off + i * 3 + 1, none⟩) (World.block_lt_of_cell? _ _ h1)).trans h1, (hb.cell (p := ⟨b, off + i * 3 + 2, none⟩) (World.block_lt_of_cell? _ _ h2)).trans h2⟩
def hssV (xs : List Hst) : List Value := xs.flatMap fun x => [.int .i64 x.st, .int .i64 x.gen, .int .i64 x.ren]
theorem hssV_cons (x : Hst) (xs : List Hst) : hssV (x :: xs) = [.int .i64 x.st, .int .i64 x.gen, .int .i64 x.ren] ++ hssV xs := rfl
theorem hssV_length (xs : List Hst) : (hssV xs).length = xs.length * 3 := by
  induction xs with
  | nil => rfl
  | cons x xs ih => simp only [hssV, List.flatMap_cons, List.length_append, List.length_cons, List.length_nil] at ih ⊢; omega
theorem hssV_get : ∀ {xs : List Hst} {i : Nat} (h : i < xs.length), (hssV xs)[i * 3]? = some (.int .i64 xs[i].st) ∧ (hssV xs)[i * 3 + 1]? = some (.int .i64 xs[i].gen) ∧ (hssV xs)[i * 3 + 2]? = some (.int .i64 xs[i].ren)
  | [], _, h => absurd h (Nat.not_lt_zero _)
  | x :: xs, 0, _ => by simp [hssV_cons]
  | x :: xs, i + 1, h => by
    have ih := hssV_get (xs := xs) (i := i) (by simpa using h)
    rw [hssV_cons, show (i + 1) * 3 = i * 3 + 3 by omega]
    refine ⟨?_, ?_, ?_⟩
    · rw [List.getElem?_append_right (by simp)]; simpa using ih.1
    · rw [List.getElem?_append_right (by simp)]; simpa [Nat.add_right_comm] using ih.2.1
    · rw [List.getElem?_append_right (by simp)]; simpa [Nat.add_right_comm] using ih.2.2
theorem ownHss {w : World} {B e cap : Nat} {ao : Option Addr} {xs : List Hst} (h : OwnR w B e 3 (.slice ao xs.length cap) xs.length (hssV xs)) : Hss w ao xs := by
  rcases h with ⟨h0, _, _⟩ | ⟨h0, h⟩
  · intro i hi; omega
  rcases h.2 with ⟨e0, h0'⟩ | ⟨g, cap, cur, e0, hb, hg, hnc, hcm, hcs, ht⟩
  · omega
  · simp only [Value.slice.injEq, true_and] at e0
    obtain ⟨rfl, rfl⟩ := e0
    have g4 := fun i (hi : i < xs.length) => hssV_get hi
    refine fun i hi => ⟨g, 0, rfl, ?_, ?_, ?_⟩
    · rw [Nat.zero_add, h.cellAt _ (by omega)]; exact (g4 i hi).1
    · rw [Nat.zero_add, h.cellAt _ (by omega)]; exact (g4 i hi).2.1
    · rw [Nat.zero_add, h.cellAt _ (by omega)]; exact (g4 i hi).2.2
end Go.Proofs.YtjjkppknojecjaaGreatDoor

namespace Go.Proofs.YtjjkppknojecjaaGreatDoor
open Go.RowKit
set_option linter.unusedVariables false
set_option maxRecDepth 100000

structure Rq where
  k : Int
  g : Int
  v : Int
  n : ByteArray
abbrev noB : ByteArray := ⟨#[]⟩
abbrev qV (q : Rq) : Value := .agg #[.int .i64 q.k, .int .i64 q.g, .int .i64 q.v, .string q.n]
def plR (q : Rq) : Rq :=
  if q.k = 1 then ⟨1, q.g, 0, noB⟩ else if q.k = 2 then ⟨2, q.g, q.v, noB⟩ else if q.k = 3 then ⟨3, q.g, 0, noB⟩ else if q.k = 4 then ⟨4, q.g, 0, noB⟩
  else if q.k = 5 then ⟨5, 0, 0, q.n⟩ else if q.k = 6 then ⟨6, 0, 0, q.n⟩ else if q.k = 7 then ⟨7, 0, 0, q.n⟩ else ⟨8, 0, 0, noB⟩
def noN (n : ByteArray) : Bool := n.toList.isEmpty
def useB (q : Rq) : Bool :=
  if q.k = 1 ∨ q.k = 3 ∨ q.k = 4 then q.v == 0 && noN q.n
  else if q.k = 2 then noN q.n
  else if q.k = 8 then q.g == 0 && q.v == 0 && noN q.n
  else q.g == 0 && q.v == 0
def rqB (q : Rq) : Bool := betw q.k 1 8 && decide (q.n.size ≤ 65536) && useB q
def eqR (a b : Rq) : Bool := a.k == b.k && (a.g == b.g && (a.v == b.v && a.n.toList == b.n.toList))
theorem rq_k (q : Rq) : q.k = 1 ∨ q.k = 2 ∨ q.k = 3 ∨ q.k = 4 ∨ q.k = 5 ∨ q.k = 6 ∨ q.k = 7 ∨ q.k = 8 ∨ (betw q.k 1 8 = false ∧ ¬ q.k = 1 ∧ ¬ q.k = 2 ∧ ¬ q.k = 3 ∧ ¬ q.k = 4 ∧ ¬ q.k = 5 ∧ ¬ q.k = 6 ∧ ¬ q.k = 7 ∧ ¬ q.k = 8) := by
  by_cases h : 1 ≤ q.k ∧ q.k ≤ 8
  · omega
  · refine .inr (.inr (.inr (.inr (.inr (.inr (.inr (.inr ⟨?_, by omega, by omega, by omega, by omega, by omega, by omega, by omega, by omega⟩)))))))
    cases hb : betw q.k 1 8 with
    | false => rfl
    | true => exact absurd (betw_iff.1 hb) h
theorem noB_list : noB.toList = [] := by rw [ByteArray.toList_eq]
theorem noN_eq (n : ByteArray) : (noB.toList == n.toList) = noN n := by
  unfold noN
  rw [noB_list]
  cases n.toList with
  | nil => rfl
  | cons a b => rfl
theorem zer_eq (x : Int) : ((0 : Int) == x) = (x == 0) := BEq.comm
theorem rq_plain1 (g v : Int) (n : ByteArray) (k : Int) (hk : k = 1 ∨ k = 3 ∨ k = 4) : eqR (plR ⟨k, g, v, n⟩) ⟨k, g, v, n⟩ = (v == 0 && noN n) := by
  rcases hk with rfl | rfl | rfl
  all_goals
    show (_ == _ && (g == g && (((0 : Int) == v) && (noB.toList == n.toList)))) = _
    rw [zer_eq, noN_eq, beq_self_eq_true]; rfl
theorem rq_plain5 (g v : Int) (n : ByteArray) (k : Int) (hk : k = 5 ∨ k = 6 ∨ k = 7) : eqR (plR ⟨k, g, v, n⟩) ⟨k, g, v, n⟩ = (g == 0 && v == 0) := by
  rcases hk with rfl | rfl | rfl
  all_goals
    show (_ == _ && (((0 : Int) == g) && (((0 : Int) == v) && (n.toList == n.toList)))) = _
    rw [zer_eq, zer_eq, beq_self_eq_true, Bool.and_true]; rfl
theorem rq_plain (q : Rq) : (decide (q.n.size ≤ 65536) && eqR (plR q) q) = rqB q := by
  obtain ⟨k, g, v, n⟩ := q
  unfold rqB
  show (decide (n.size ≤ 65536) && _) = (betw k 1 8 && decide (n.size ≤ 65536) && _)
  generalize decide (n.size ≤ 65536) = D
  rcases rq_k ⟨k, g, v, n⟩ with h | h | h | h | h | h | h | h | ⟨hb, h1, h2, h3, h4, h5, h6, h7, h8⟩
  · replace h : k = 1 := h
    rw [rq_plain1 g v n k (by omega)]; subst h; rfl
  · replace h : k = 2 := h
    subst h
    show (D && (_ == _ && (g == g && (v == v && (noB.toList == n.toList))))) = (_ && D && noN n)
    rw [noN_eq, beq_self_eq_true, beq_self_eq_true]; rfl
  · replace h : k = 3 := h
    rw [rq_plain1 g v n k (by omega)]; subst h; rfl
  · replace h : k = 4 := h
    rw [rq_plain1 g v n k (by omega)]; subst h; rfl
  · replace h : k = 5 := h
    rw [rq_plain5 g v n k (by omega)]; subst h; rfl
  · replace h : k = 6 := h
    rw [rq_plain5 g v n k (by omega)]; subst h; rfl
  · replace h : k = 7 := h
    rw [rq_plain5 g v n k (by omega)]; subst h; rfl
  · replace h : k = 8 := h
    subst h
    show (D && (_ == _ && (((0 : Int) == g) && (((0 : Int) == v) && (noB.toList == n.toList))))) = (_ && D && (g == 0 && v == 0 && noN n))
    rw [noN_eq, zer_eq, zer_eq, Bool.and_assoc, Bool.and_assoc (g == 0)]; rfl
  · replace hb : betw k 1 8 = false := hb
    rw [hb]
    have e : eqR (plR ⟨k, g, v, n⟩) ⟨k, g, v, n⟩ = false := by
      simp only [plR, if_neg h1, if_neg h2, if_neg h3, if_neg h4, if_neg h5, if_neg h6, if_neg h7, eqR]
      rw [beq_eq_false_iff_ne.2 (fun e => h8 e.symm)]; rfl
    rw [e]; cases D <;> rfl

end Go.Proofs.YtjjkppknojecjaaGreatDoor

namespace Go.Proofs.YtjjkppknojecjaaGreatDoor
open Go.RowKit
set_option linter.unusedVariables false
set_option maxRecDepth 100000

structure Wld where
  ss : List ByteArray
  xs : List Wr
  cf : Int
  cd : Int
  cl : Int
  cr : Int
  hs : List Hst
  t : Int
  g : Gst
  q : Rq
  ag : Bool
def rq0 : Rq := ⟨0, 0, 0, noB⟩
def wl0 : Wld := ⟨[], [], 0, 0, 0, 0, [], 0, gs0, rq0, false⟩
structure Wl4 where
  ao : Option Addr
  ca : Nat
  bo : Option Addr
  cb : Nat
  ho : Option Addr
  hc : Nat
  ga : Gs4
def wa0 : Wl4 := ⟨none, 0, none, 0, none, 0, ⟨none, 0, none, 0⟩⟩
abbrev wlV (a : Wl4) (m : Wld) : Value := .agg #[.slice a.ao m.ss.length a.ca, .slice a.bo m.xs.length a.cb, .int .i64 m.cf, .int .i64 m.cd, .int .i64 m.cl, .int .i64 m.cr, .slice a.ho m.hs.length a.hc, .int .i64 m.t, .slice a.ga.vo m.g.vals.length a.ga.vc, .slice a.ga.so m.g.shots.length a.ga.sc, .int .i64 m.q.k, .int .i64 m.q.g, .int .i64 m.q.v, .string m.q.n, .bool m.ag]
abbrev wlC (a : Wl4) (m : Wld) : Array Value := #[.slice a.ao m.ss.length a.ca, .slice a.bo m.xs.length a.cb, .int .i64 m.cf, .int .i64 m.cd, .int .i64 m.cl, .int .i64 m.cr, .slice a.ho m.hs.length a.hc, .int .i64 m.t, .slice a.ga.vo m.g.vals.length a.ga.vc, .slice a.ga.so m.g.shots.length a.ga.sc, .int .i64 m.q.k, .int .i64 m.q.g, .int .i64 m.q.v, .string m.q.n, .bool m.ag]
structure WlS (w : World) (a : Wl4) (m : Wld) : Prop where
  s : Ss w a.ao m.ss
  i : Ios w a.bo m.xs
  h : Hss w a.ho m.hs
  g : GsS w a.ga m.g
theorem WlS.below {w w' : World} {a : Wl4} {m : Wld} (h : WlS w a m) (hb : Below w.heap.size w w') : WlS w' a m := ⟨h.s.below hb, h.i.below hb, h.h.below hb, h.g.below hb⟩
structure WlL (m : Wld) : Prop where
  s : m.ss.length ≤ maxLen
  i : m.xs.length ≤ maxLen
  h : m.hs.length ≤ maxLen
  g : GsL m.g
  q : m.q.n.size ≤ maxLen
structure OwnWl (w : World) (B : Nat) (a : Wl4) (m : Wld) (ts : List Value) : Prop where
  d : OwnD w B a.ao m.ss.length a.ca a.bo m.xs.length a.cb m.ss m.xs
  h : OwnR w B 88 3 (.slice a.ho m.hs.length a.hc) m.hs.length (hssV m.hs)
  g : OwnGs w B a.ga m.g ts
theorem OwnWl.below {w w' : World} {B : Nat} {a : Wl4} {m : Wld} {ts : List Value} (h : OwnWl w B a m ts) (hb : Below w.heap.size w w') : OwnWl w' B a m ts := ⟨h.d.below hb, OwnR.below h.h hb, h.g.below hb⟩
theorem OwnWl.base {w : World} {B B' : Nat} {a : Wl4} {m : Wld} {ts : List Value} (h : OwnWl w B a m ts) (hB : B' ≤ B) : OwnWl w B' a m ts := ⟨h.d.base hB, OwnR.base h.h hB, h.g.base hB⟩
theorem OwnWl.shows {w : World} {B : Nat} {a : Wl4} {m : Wld} {ts : List Value} (h : OwnWl w B a m ts) (hs : ∀ s ∈ m.ss, s.size ≤ maxLen) (hx : ∀ x ∈ m.xs, x.data.size ≤ maxLen) (hz : ∀ s ∈ m.g.shots, s.name.size ≤ maxLen ∧ s.table.length ≤ maxLen) : WlS w a m :=
  ⟨h.d.ss hs, h.d.ios hx, ownHss h.h, h.g.shows hz⟩
theorem set_wl {w : World} {k t i : Nat} {a : Array Value} (h : w.heap[k]? = some (.cells a t (0, 0))) (v : Value) : (w.setCell ⟨k, i, none⟩ v).heap[k]? = some (.cells (a.setIfInBounds i v) t (0, 0)) := by
  obtain ⟨hk, hf⟩ := Array.getElem?_eq_some_iff.1 h
  unfold World.setCell
  simp [hk]
  rw [Array.getElem_modify]
  simp [hf]
def VarW (w : World) (x : Nat) (t : TypeId) (a : Wl4) (m : Wld) : Prop := w.heap[x]? = some (.cells (wlC a m) t (0, 0))
theorem VarW.lt {w : World} {x t : Nat} {a : Wl4} {m : Wld} (k : VarW w x t a m) : x < w.heap.size := (Array.getElem?_eq_some_iff.1 k).1
theorem VarW.cells {w : World} {x t : Nat} {a : Wl4} {m : Wld} (k : VarW w x t a m) : w.cell? ⟨x, 0, none⟩ = some (.slice a.ao m.ss.length a.ca) ∧ w.cell? ⟨x, 1, none⟩ = some (.slice a.bo m.xs.length a.cb) ∧ w.cell? ⟨x, 2, none⟩ = some (.int .i64 m.cf) ∧ w.cell? ⟨x, 3, none⟩ = some (.int .i64 m.cd) ∧ w.cell? ⟨x, 4, none⟩ = some (.int .i64 m.cl) ∧ w.cell? ⟨x, 5, none⟩ = some (.int .i64 m.cr) ∧ w.cell? ⟨x, 6, none⟩ = some (.slice a.ho m.hs.length a.hc) ∧ w.cell? ⟨x, 7, none⟩ = some (.int .i64 m.t) ∧ w.cell? ⟨x, 8, none⟩ = some (.slice a.ga.vo m.g.vals.length a.ga.vc) ∧ w.cell? ⟨x, 9, none⟩ = some (.slice a.ga.so m.g.shots.length a.ga.sc) ∧ w.cell? ⟨x, 10, none⟩ = some (.int .i64 m.q.k) ∧ w.cell? ⟨x, 11, none⟩ = some (.int .i64 m.q.g) ∧ w.cell? ⟨x, 12, none⟩ = some (.int .i64 m.q.v) ∧ w.cell? ⟨x, 13, none⟩ = some (.string m.q.n) ∧ w.cell? ⟨x, 14, none⟩ = some (.bool m.ag) := by
  refine ⟨?_, ?_, ?_, ?_, ?_, ?_, ?_, ?_, ?_, ?_, ?_, ?_, ?_, ?_, ?_⟩ <;> (rw [Joins.cell_of_block k]; rfl)
theorem VarW.free {w : World} {x t : Nat} {a : Wl4} {m : Wld} (k : VarW w x t a m) (i : Nat) : w.frozen? ⟨x, i, none⟩ = false := Joins.unfrozen_of_block k i
theorem VarW.below {w w' : World} {x t : Nat} {a : Wl4} {m : Wld} (k : VarW w x t a m) (hb : Below w.heap.size w w') : VarW w' x t a m := by
  unfold VarW; rw [hb.block x k.lt]; exact k
theorem VarW.new (w : World) (t : TypeId) (a : Wl4) (m : Wld) : VarW (w.alloc (.cells (wlC a m) t)) w.heap.size t a m := heap_alloc_new w _
theorem VarW.at {w : World} {x y t : Nat} {a : Wl4} {m : Wld} (h : VarW w x t a m) (e : x = y) : VarW w y t a m := e ▸ h
theorem VarW.other {w : World} {x t : Nat} {a : Wl4} {m : Wld} (h : VarW w x t a m) {p : Addr} (hp : x ≠ p.block) (u : Value) : VarW (w.setCell p u) x t a m := by
  unfold VarW; rw [Below.heap_setCell w p u x hp]; exact h
end Go.Proofs.YtjjkppknojecjaaGreatDoor

namespace Go.Proofs.YtjjkppknojecjaaGreatDoor
open Go.ChangeShapes Go.WideShapes Go.ChangeAt Go.RowKit Go.Deep
set_option linter.unusedVariables false
set_option maxRecDepth 100000

section
variable {H : Type} {enc : TypeId × Value → H} {P : Program} {w : World} {base : Nat} {spare : Nat → Bool} {held : Bool}
theorem open_Hss {t e ti : TypeId} {f0 f1 f2 : Field} {fuel : Nat} {v : Value} {x : DataW H × List MemPlace} (ht : P.underlying t = some (.slice e)) (he : P.underlying e = some (.struct #[f0, f1, f2]))
    (hi : P.underlying ti = some (.int .i64)) (e0 : f0.type = ti ∧ f0.offset = 0) (e1 : f1.type = ti ∧ f1.offset = 1) (e2 : f2.type = ti ∧ f2.offset = 2)
    (ci : P.cellsOf ti = 1) (ce : P.cellsOf e = 3)
    (h : DataW.trod enc P w base spare held fuel t [v] = some x) : ∃ ao cap xs, v = .slice ao xs.length cap ∧ xs.length ≤ maxLen ∧ Hss w ao xs := by
  rcases open_slice ht h with ⟨hcs, _⟩ | ⟨a, len, cap, m, n, D, Pl, hcs, _, hl, hmx, hm, _, hel⟩
  · simp only [List.cons.injEq, and_true] at hcs
    subst hcs
    exact ⟨none, 0, [], rfl, Nat.zero_le _, fun i hi => absurd hi (Nat.not_lt_zero _)⟩
  · simp only [List.cons.injEq, and_true] at hcs
    subst hcs
    have hlm : len ≤ m := by rw [hm]; split <;> omega
    have each : ∀ i, i < len → ∃ y : Hst, w.cell? ((a.add (i * 3)).add 0) = some (.int .i64 y.st) ∧ w.cell? ((a.add (i * 3)).add 1) = some (.int .i64 y.gen) ∧ w.cell? ((a.add (i * 3)).add 2) = some (.int .i64 y.ren) := by
      intro i hi'
      obtain ⟨cs', hc, hd⟩ := hel i (by omega)
      rw [ce] at hc
      obtain ⟨c0, c1, c2, rfl, k0, k1, k2⟩ := cells3 hc
      obtain ⟨y0, y1, y2, n', _, _, t0, t1, t2⟩ := trod_struct3 he hd
      rw [e0.1, e0.2, ci] at t0
      rw [e1.1, e1.2, ci] at t1
      rw [e2.1, e2.2, ci] at t2
      obtain ⟨z0, q0, _⟩ := DataW.trod_int hi t0
      obtain ⟨z1, q1, _⟩ := DataW.trod_int hi t1
      obtain ⟨z2, q2, _⟩ := DataW.trod_int hi t2
      simp at q0 q1 q2
      subst q0 q1 q2
      exact ⟨⟨z0, z1, z2⟩, k0, k1, k2⟩
    haveI : Inhabited Hst := ⟨hst0⟩
    obtain ⟨f, hf⟩ := choose_lt (α := Hst) each
    have htl : ((List.range len).map f).length = len := by simp
    refine ⟨some a, cap, (List.range len).map f, by rw [htl], by omega, fun i hi' => ?_⟩
    have hi2 : i < len := by omega
    have h0 : a.spot = none := by
      obtain ⟨g0, _⟩ := hf 0 (by omega)
      have := World.cell?_spot g0
      simpa [Addr.add] using this
    obtain ⟨g0, g1, g2⟩ := hf i hi2
    have hg : ((List.range len).map f)[i] = f i := by simp
    have hsp : (a.add (i * 3)).spot = none := by rw [add_form h0]
    rw [add_form hsp, add_form h0] at g0 g1 g2
    refine ⟨a.block, a.off, ?_, ?_, ?_, ?_⟩
    · cases a; simp_all
    · rw [hg]; exact g0
    · rw [hg]; exact g1
    · rw [hg]; exact g2
theorem trod_struct7 {t : TypeId} {f0 f1 f2 f3 f4 f5 f6 : Field} {fuel : Nat} {cs : List Value} {x : DataW H × List MemPlace} (ht : P.underlying t = some (.struct #[f0, f1, f2, f3, f4, f5, f6])) (h : DataW.trod enc P w base spare held fuel t cs = some x) :
    ∃ y0 y1 y2 y3 y4 y5 y6 n, DataW.trod enc P w base spare held n f0.type ((cs.drop f0.offset).take (P.cellsOf f0.type)) = some y0 ∧
      DataW.trod enc P w base spare held n f1.type ((cs.drop f1.offset).take (P.cellsOf f1.type)) = some y1 ∧ DataW.trod enc P w base spare held n f2.type ((cs.drop f2.offset).take (P.cellsOf f2.type)) = some y2 ∧
      DataW.trod enc P w base spare held n f3.type ((cs.drop f3.offset).take (P.cellsOf f3.type)) = some y3 ∧ DataW.trod enc P w base spare held n f4.type ((cs.drop f4.offset).take (P.cellsOf f4.type)) = some y4 ∧
      DataW.trod enc P w base spare held n f5.type ((cs.drop f5.offset).take (P.cellsOf f5.type)) = some y5 ∧ DataW.trod enc P w base spare held n f6.type ((cs.drop f6.offset).take (P.cellsOf f6.type)) = some y6 := by
  obtain ⟨xs, n, _, rfl, hl, hlen, hf⟩ := DataW.trod_struct ht h
  match xs, hlen with
  | [y0, y1, y2, y3, y4, y5, y6], _ => exact ⟨y0, y1, y2, y3, y4, y5, y6, n, by simpa using hf 0 f0 rfl, by simpa using hf 1 f1 rfl, by simpa using hf 2 f2 rfl, by simpa using hf 3 f3 rfl, by simpa using hf 4 f4 rfl, by simpa using hf 5 f5 rfl, by simpa using hf 6 f6 rfl⟩
end
theorem array15 {α : Type} {cs : Array α} (h : cs.size = 15) : ∃ c0 c1 c2 c3 c4 c5 c6 c7 c8 c9 c10 c11 c12 c13 c14, cs = #[c0, c1, c2, c3, c4, c5, c6, c7, c8, c9, c10, c11, c12, c13, c14] := by
  obtain ⟨l⟩ := cs
  match l, h with
  | [c0, c1, c2, c3, c4, c5, c6, c7, c8, c9, c10, c11, c12, c13, c14], _ => exact ⟨c0, c1, c2, c3, c4, c5, c6, c7, c8, c9, c10, c11, c12, c13, c14, rfl⟩
theorem cWldW : Tryz.prog.cellsOf 36 = 15 := by kernel_rfl
theorem cCfgW : Tryz.prog.cellsOf 27 = 4 := by kernel_rfl
theorem cReqW : Tryz.prog.cellsOf 34 = 4 := by kernel_rfl
theorem cBoolW : Tryz.prog.cellsOf 4 = 1 := by kernel_rfl
theorem cHostW : Tryz.prog.cellsOf 104 = 3 := by kernel_rfl
theorem cHostsW : Tryz.prog.cellsOf 28 = 1 := by kernel_rfl
theorem open_world {H : Type} {enc : TypeId × Value → H} {w : World} {base b0 : Nat} {r : Reach} {spare : Nat → Bool} {held : Bool} {v : Value} {d : DataW H} {p : List MemPlace}
    (hv : Value.okWide Tryz.prog w r b0 36 v) (h : DataW.Trod enc Tryz.prog w base spare held 36 v d p) :
    ∃ (a : Wl4) (m : Wld), v = wlV a m ∧ WlL m ∧ WlS w a m := by
  obtain ⟨cs, rfl, hsz⟩ := okWide_struct Tryz.underlying36 hv
  obtain ⟨c0, c1, c2, c3, c4, c5, c6, c7, c8, c9, c10, c11, c12, c13, c14, rfl⟩ := array15 (hsz.trans cWldW)
  obtain ⟨fuel, hf⟩ := h
  obtain ⟨y0, y1, y2, y3, y4, y5, y6, n, h0, h1, h2, h3, h4, h5, h6⟩ := trod_struct7 Tryz.underlying36 hf
  replace h0 : DataW.trod enc Tryz.prog w base spare held n 25 [c0, c1] = some y0 := by simpa [Value.cells, cDisk] using h0
  replace h1 : DataW.trod enc Tryz.prog w base spare held n 27 [c2, c3, c4, c5] = some y1 := by simpa [Value.cells, cCfgW] using h1
  replace h2 : DataW.trod enc Tryz.prog w base spare held n 28 [c6] = some y2 := by simpa [Value.cells, cHostsW] using h2
  replace h3 : DataW.trod enc Tryz.prog w base spare held n 3 [c7] = some y3 := by simpa [Value.cells, cInt] using h3
  replace h4 : DataW.trod enc Tryz.prog w base spare held n 32 [c8, c9] = some y4 := by simpa [Value.cells, cGstG] using h4
  replace h5 : DataW.trod enc Tryz.prog w base spare held n 34 [c10, c11, c12, c13] = some y5 := by simpa [Value.cells, cReqW] using h5
  replace h6 : DataW.trod enc Tryz.prog w base spare held n 4 [c14] = some y6 := by simpa [Value.cells, cBoolW] using h6
  obtain ⟨u0, u1, n0, _, _, t0, t1⟩ := trod_struct2 Tryz.underlying25 h0
  obtain ⟨u2, u3, u4, u5, n1, _, _, t2, t3, t4, t5⟩ := Joins.trod_struct4 Tryz.underlying27 h1
  obtain ⟨u8, u9, n4, _, _, t8, t9⟩ := trod_struct2 Tryz.underlying32 h4
  obtain ⟨u10, u11, u12, u13, n5, _, _, t10, t11, t12, t13⟩ := Joins.trod_struct4 Tryz.underlying34 h5
  have cSs : Tryz.prog.cellsOf 22 = 1 := by kernel_rfl
  have cIos : Tryz.prog.cellsOf 23 = 1 := by kernel_rfl
  have cShs : Tryz.prog.cellsOf 30 = 1 := by kernel_rfl
  replace t0 : DataW.trod enc Tryz.prog w base spare held n0 22 [c0] = some u0 := by simpa [cSs] using t0
  replace t1 : DataW.trod enc Tryz.prog w base spare held n0 23 [c1] = some u1 := by simpa [cIos] using t1
  replace t2 : DataW.trod enc Tryz.prog w base spare held n1 3 [c2] = some u2 := by simpa [cInt] using t2
  replace t3 : DataW.trod enc Tryz.prog w base spare held n1 3 [c3] = some u3 := by simpa [cInt] using t3
  replace t4 : DataW.trod enc Tryz.prog w base spare held n1 3 [c4] = some u4 := by simpa [cInt] using t4
  replace t5 : DataW.trod enc Tryz.prog w base spare held n1 3 [c5] = some u5 := by simpa [cInt] using t5
  replace t8 : DataW.trod enc Tryz.prog w base spare held n4 29 [c8] = some u8 := by simpa [cIntsG] using t8
  replace t9 : DataW.trod enc Tryz.prog w base spare held n4 30 [c9] = some u9 := by simpa [cShs] using t9
  replace t10 : DataW.trod enc Tryz.prog w base spare held n5 3 [c10] = some u10 := by simpa [cInt] using t10
  replace t11 : DataW.trod enc Tryz.prog w base spare held n5 3 [c11] = some u11 := by simpa [cInt] using t11
  replace t12 : DataW.trod enc Tryz.prog w base spare held n5 3 [c12] = some u12 := by simpa [cInt] using t12
  replace t13 : DataW.trod enc Tryz.prog w base spare held n5 9 [c13] = some u13 := by simpa [cStr] using t13
  obtain ⟨ao, ca, ss, rfl, hl, hs⟩ := open_Ss Tryz.underlying22 Tryz.underlying9 cStr t0
  obtain ⟨bo, cb, xs, rfl, hm, hx⟩ := open_Ios Tryz.underlying23 Tryz.underlying122 Tryz.underlying3 Tryz.underlying9 ⟨rfl, rfl⟩ ⟨rfl, rfl⟩ ⟨rfl, rfl⟩ cInt cStr cIo t1
  obtain ⟨z2, q2, _⟩ := DataW.trod_int Tryz.underlying3 t2
  obtain ⟨z3, q3, _⟩ := DataW.trod_int Tryz.underlying3 t3
  obtain ⟨z4, q4, _⟩ := DataW.trod_int Tryz.underlying3 t4
  obtain ⟨z5, q5, _⟩ := DataW.trod_int Tryz.underlying3 t5
  obtain ⟨ho, hcp, hh, rfl, hhl, hhs⟩ := open_Hss Tryz.underlying28 Tryz.underlying104 Tryz.underlying3 ⟨rfl, rfl⟩ ⟨rfl, rfl⟩ ⟨rfl, rfl⟩ cInt cHostW h2
  obtain ⟨z7, q7, _⟩ := DataW.trod_int Tryz.underlying3 h3
  obtain ⟨vo, vc, vs, rfl, lv, hvs⟩ := open_IsV Tryz.underlying29 Tryz.underlying3 cIntG t8
  obtain ⟨so, sc, sh, rfl, lsh, hsh⟩ := open_SnsV Tryz.underlying30 Tryz.underlying124 Tryz.underlying9 Tryz.underlying29 Tryz.underlying3 ⟨rfl, rfl⟩ ⟨rfl, rfl⟩ cStrG cIntsG cIntG cShotG t9
  obtain ⟨z10, q10, _⟩ := DataW.trod_int Tryz.underlying3 t10
  obtain ⟨z11, q11, _⟩ := DataW.trod_int Tryz.underlying3 t11
  obtain ⟨z12, q12, _⟩ := DataW.trod_int Tryz.underlying3 t12
  obtain ⟨z13, q13, _, hz⟩ := DataW.trod_string Tryz.underlying9 t13
  obtain ⟨z14, q14, _⟩ := DataW.trod_bool Tryz.underlying4 h6
  simp only [List.cons.injEq, and_true] at q2 q3 q4 q5 q7 q10 q11 q12 q13 q14
  subst q2 q3 q4 q5 q7 q10 q11 q12 q13 q14
  exact ⟨⟨ao, ca, bo, cb, ho, hcp, ⟨vo, vc, so, sc⟩⟩, ⟨ss, xs, z2, z3, z4, z5, hh, z7, ⟨vs, sh⟩, ⟨z10, z11, z12, z13⟩, z14⟩, rfl, ⟨hl, hm, hhl, ⟨lv, lsh⟩, hz⟩, ⟨hs, hx, hhs, ⟨hvs, hsh⟩⟩⟩

end Go.Proofs.YtjjkppknojecjaaGreatDoor

namespace Go.Proofs.YtjjkppknojecjaaGreatDoor
open Go.RowKit
set_option linter.unusedVariables false
set_option maxRecDepth 100000

theorem info9 : (Tryz.prog.info? 9).map (fun i => (i.zero, i.size, i.bytes)) = some (some (.string ⟨#[]⟩), 1, 16) := by kernel_rfl
theorem infoIo : (Tryz.prog.info? 126).map (fun i => (i.zero, i.size, i.bytes)) = some (some (.agg #[.int .i64 0, .int .i64 0, .string ⟨#[]⟩]), 3, 32) := by kernel_rfl

set_option maxHeartbeats 800000 in
theorem szStringS_any (ao : Option Addr) (cap : Nat) (ss : List ByteArray) (left : Int) (w : World) (hl : ss.length ≤ maxLen) (hc : Ss w ao ss) (h0 : 0 ≤ left) (h1 : left ≤ 1048576) :
    Calls Tryz.prog 30 #[.slice ao ss.length cap, .int .i64 left] w fun e w' => ∃ r : Int, e = .returned (.int .i64 r) ∧ -1 ≤ r ∧ r ≤ left ∧ (0 ≤ r → r + ss.length ≤ left) ∧ w' = w := by
  have HC := hide hc
  clear hc
  unfold maxLen at hl
  by_cases hle : left < ss.length
  · go_enter Tryz.func30, Tryz.ntmps30
    go_wp2
    go_ret
    exact ⟨-1, rfl, by omega, by omega, by omega, rfl⟩
  go_enter Tryz.func30, Tryz.ntmps30
  go_wp2
  go_loop [1, 5] (fun l i => ∃ (k : Nat) (r : Int), k ≤ ss.length ∧ i = .int .i64 k ∧ l = .int .i64 r ∧ 0 ≤ r ∧ r + ss.length ≤ left) (fun _ i => ss.length - (intOf i).toNat)
  case atStart => exact ⟨0, _, Nat.zero_le _, rfl, rfl, by omega, by omega⟩
  case round =>
    obtain ⟨k, r, hk, rfl, rfl, hr0, hr1⟩ := hrel
    by_cases hlt : k < ss.length
    · obtain ⟨b, off, rfl, hc, hz⟩ := unhide HC k hlt
      unfold maxLen at hz
      by_cases hb : r < ss[k].size
      · go_wp2
        go_ret
        exact ⟨-1, rfl, by omega, by omega, by omega, rfl⟩
      · go_wp2
        go_round
        case rel => exact ⟨k + 1, _, by omega, by go_num, rfl, by omega, by omega⟩
        case measure => simp [intOf]; omega
    · go_wp2
      go_ret
      exact ⟨r, rfl, by omega, by omega, by omega, rfl⟩

set_option maxHeartbeats 800000 in
theorem szIo_any (x : Wr) (left : Int) (w : World) (hz : x.data.size ≤ maxLen) (h0 : 0 ≤ left) (h1 : left ≤ 1048576) :
    Calls Tryz.prog 73 #[.agg #[.int .i64 x.host, .int .i64 x.at_, .string x.data], .int .i64 left] w fun e w' => ∃ r : Int, e = .returned (.int .i64 r) ∧ -1 ≤ r ∧ r ≤ left ∧ Below w.heap.size w w' := by
  unfold maxLen at hz
  by_cases hb : left < x.data.size
  · go_enter Tryz.func73, Tryz.ntmps73
    go_wp2
    go_ret
    exact ⟨-1, rfl, by omega, by omega, (Below.refl _ _).alloc (Nat.le_refl _) _⟩
  · go_enter Tryz.func73, Tryz.ntmps73
    go_wp2
    go_ret
    exact ⟨_, rfl, by omega, by omega, (Below.refl _ _).alloc (Nat.le_refl _) _⟩

set_option maxHeartbeats 800000 in
theorem szIoS_any (ao : Option Addr) (cap : Nat) (xs : List Wr) (left : Int) (w : World) (hl : xs.length ≤ maxLen) (hc : Ios w ao xs) (h0 : 0 ≤ left) (h1 : left ≤ 1048576) :
    Calls Tryz.prog 31 #[.slice ao xs.length cap, .int .i64 left] w fun e w' => ∃ r : Int, e = .returned (.int .i64 r) ∧ -1 ≤ r ∧ r ≤ left ∧ (0 ≤ r → r + xs.length ≤ left) ∧ Below w.heap.size w w' := by
  have HC := hide hc
  clear hc
  unfold maxLen at hl
  by_cases hle : left < xs.length
  · go_enter Tryz.func31, Tryz.ntmps31
    go_wp2
    go_ret
    exact ⟨-1, rfl, by omega, by omega, by omega, Below.refl _ _⟩
  go_enter Tryz.func31, Tryz.ntmps31
  go_wp2
  go_loopw [1, 5] (fun l i wr => ∃ (k : Nat) (r : Int), k ≤ xs.length ∧ i = .int .i64 k ∧ l = .int .i64 r ∧ 0 ≤ r ∧ r + xs.length ≤ left ∧ Hid (Below w.heap.size w wr)) (fun _ i _ => xs.length - (intOf i).toNat)
  case atStart => exact ⟨0, _, Nat.zero_le _, rfl, rfl, by omega, by omega, hide (Below.refl _ _)⟩
  case round =>
    obtain ⟨k, r, hk, rfl, rfl, hr0, hr1, HB⟩ := hrel
    by_cases hlt : k < xs.length
    · obtain ⟨b, off, rfl, hc0, hc1, hc2, hz⟩ := (unhide HC).below (unhide HB) k hlt
      have HZ := hide hz
      clear hz
      go_wp2_with fail
      refine (szIo_any xs[k] r _ (unhide HZ) (by omega) (by omega)).mono ?_
      rintro e w2 ⟨q, rfl, hq0, hq1, hb2⟩
      have HB2 := hide ((unhide HB).trans (hb2.mono (unhide HB).size))
      clear hb2
      by_cases hb : q < 0
      · go_wp2
        go_ret
        exact ⟨-1, rfl, by omega, by omega, by omega, unhide HB2⟩
      · go_wp2
        go_roundw
        case rel => exact ⟨k + 1, _, by omega, by go_num, rfl, by omega, by omega, HB2⟩
        case measure => simp [intOf]; omega
    · go_wp2
      go_ret
      exact ⟨r, rfl, by omega, by omega, by omega, unhide HB⟩

set_option maxHeartbeats 800000 in
theorem szDisk_any (ao bo : Option Addr) (ca cb : Nat) (ss : List ByteArray) (xs : List Wr) (left : Int) (w : World) (hl : ss.length ≤ maxLen) (hm : xs.length ≤ maxLen) (hc : Ss w ao ss) (hd : Ios w bo xs) (h0 : 0 ≤ left) (h1 : left ≤ 1048576) :
    Calls Tryz.prog 9 #[.agg #[.slice ao ss.length ca, .slice bo xs.length cb], .int .i64 left] w fun e w' => ∃ r : Int, e = .returned (.int .i64 r) ∧ -1 ≤ r ∧ r ≤ left ∧ (0 ≤ r → r + ss.length + xs.length ≤ left) ∧ Below w.heap.size w w' := by
  have HC := hide hc
  have HD := hide hd
  have HL := hide hl
  have HM := hide hm
  clear hc hd hl hm
  have hb0 : ∀ o, Below w.heap.size w (w.alloc o) := fun o => (Below.refl _ _).alloc (Nat.le_refl _) o
  have HB0 := hide hb0
  clear hb0
  go_enter Tryz.func9, Tryz.ntmps9
  go_wp2_with fail
  refine (szStringS_any ao ca ss left _ (unhide HL) ((unhide HC).below (unhide HB0 _)) (by omega) (by omega)).mono ?_
  rintro e w1 ⟨r, rfl, hr0, hr1, hr2, rfl⟩
  by_cases hb : r < 0
  · go_wp2
    go_ret
    exact ⟨-1, rfl, by omega, by omega, by omega, unhide HB0 _⟩
  · have hr3 : r + ss.length ≤ left := hr2 (by omega)
    clear hr2
    go_wp2_with fail
    refine (szIoS_any bo cb xs r _ (unhide HM) ((unhide HD).below (unhide HB0 _)) (by omega) (by omega)).mono ?_
    rintro e w2 ⟨q, rfl, hq0, hq1, hq2, hb2⟩
    have HB2 := hide ((unhide HB0 _).trans (hb2.mono (unhide HB0 _).size))
    clear hb2
    by_cases hb' : q < 0
    · go_wp2
      go_ret
      exact ⟨-1, rfl, by omega, by omega, by omega, unhide HB2⟩
    · have hq3 : q + xs.length ≤ r := hq2 (by omega)
      clear hq2
      go_wp2
      go_ret
      exact ⟨q, rfl, by omega, by omega, by omega, unhide HB2⟩

set_option maxHeartbeats 800000 in
theorem toStringS_any (ao : Option Addr) (cap : Nat) (ss : List ByteArray) (w : World) (hl : ss.length ≤ 1048576) (hc : Ss w ao ss) :
    Calls Tryz.prog 48 #[.slice ao ss.length cap] w fun e w' => ∃ g, e = .returned (.slice (some ⟨g, 0, none⟩) ss.length ss.length) ∧ w'.ownsRow w.heap.size 9 1 (.slice (some ⟨g, 0, none⟩) ss.length ss.length) ss.length (strV ss) ∧ Below w.heap.size w w' := by
  have HC := hide hc
  clear hc
  obtain ⟨i0, hi, hz0, hz1, hz2⟩ := info_parts info9
  go_enter Tryz.func48, Tryz.ntmps48
  go_wp2_with (first | (at_make; refine wpList_make_full _ rfl _ _ 22 rfl w.heap.size 9 i0 _ 1 Tryz.underlying22 hi hz0 hz1 _ _ _ _ ss.length rfl rfl rfl rfl ?c1 ?c2 ?c3 ?_))
  case c1 => rw [hz2]; omega
  case c2 => unfold maxLen; omega
  case c3 => exact Nat.le_refl _
  intro w1 hown hgrow
  have hB : Below w.heap.size w w1 := (Below.refl _ _).grown hgrow (Nat.le_refl _) (fun _ h => by cases h)
  have HO := hide hown
  have HB := hide hB
  clear hown hB hgrow
  go_wp2
  go_loopw [4] (fun i wr => ∃ (k : Nat) (xs : List Value), k ≤ ss.length ∧ i = .int .i64 k ∧ Hid (xs.length = ss.length) ∧ Hid (xs.take k = (strV ss).take k) ∧ Hid (wr.ownsRow w.heap.size 9 1 (.slice (some ⟨w.heap.size, 0, none⟩) ss.length ss.length) ss.length xs) ∧ Hid (Below w.heap.size w wr)) (fun i _ => ss.length - (intOf i).toNat)
  case atStart => exact ⟨0, _, Nat.zero_le _, rfl, hide (by rw [(unhide HO).1]; omega), hide (by simp), HO, HB⟩
  case round =>
    obtain ⟨k, xs, hk, rfl, HL, HT, HO, HB⟩ := hrel
    by_cases hlt : k < ss.length
    · obtain ⟨b, off, rfl, hc, hz⟩ := (unhide HC).below (unhide HB) k hlt
      have hfr := (unhide HO).frozenAt k
      obtain ⟨x0, hcx⟩ : ∃ x, wr.cell? ⟨w.heap.size, k, none⟩ = some x := ⟨_, ((unhide HO).cellAt k (by omega)).trans (List.getElem?_eq_getElem (by rw [unhide HL]; exact hlt))⟩
      have HST := hide ((unhide HO).stored k (.string ss[k]))
      go_wp2
      go_roundw
      case rel =>
        refine ⟨k + 1, xs.set k (.string ss[k]), by omega, by go_num, hide (by rw [List.length_set]; exact unhide HL), hide ?_, hide (unhide HST).1, hide ?_⟩
        · exact set_take' (by rw [unhide HL, strV_length]) (strV_get hlt) (unhide HT)
        · exact (unhide HB).grown (unhide HST).2 (unhide HB).size (fun k h => by cases h; exact Nat.le_refl _)
      case measure => simp [intOf]; omega
    · go_wp2
      go_ret
      have hkn : k = ss.length := by omega
      subst hkn
      have hxs : xs = strV ss := by
        have := unhide HT
        rwa [List.take_of_length_le (by rw [unhide HL]; exact Nat.le_refl _), List.take_of_length_le (by simp [strV])] at this
      subst hxs
      exact ⟨_, rfl, unhide HO, unhide HB⟩

set_option maxHeartbeats 800000 in
theorem toIo_any (h a : Int) (d : ByteArray) (w : World) :
    Calls Tryz.prog 89 #[.agg #[.int .i64 h, .int .i64 a, .string d]] w fun e w' => e = .returned (.agg #[.int .i64 h, .int .i64 a, .string d]) ∧ Below w.heap.size w w' := by
  go_enter Tryz.func89, Tryz.ntmps89
  go_wp2
  exact bodyPost_ret (v := .agg #[.int .i64 h, .int .i64 a, .string d]) (by simp [results, Tryz.results89, go_sem]) rfl ⟨rfl, (((Below.refl _ _).alloc (Nat.le_refl _) _).alloc (by simp) _).alloc (by simp; omega) _⟩

set_option maxHeartbeats 800000 in
theorem toIoS_any (ao : Option Addr) (cap : Nat) (xs : List Wr) (w : World) (hl : xs.length ≤ 1048576) (hc : Ios w ao xs) :
    Calls Tryz.prog 49 #[.slice ao xs.length cap] w fun e w' => ∃ g, e = .returned (.slice (some ⟨g, 0, none⟩) xs.length xs.length) ∧ w'.ownsRow w.heap.size 126 3 (.slice (some ⟨g, 0, none⟩) xs.length xs.length) xs.length (ioV xs) ∧ Below w.heap.size w w' := by
  have HC := hide hc
  clear hc
  obtain ⟨i0, hi, hz0, hz1, hz2⟩ := info_parts infoIo
  go_enter Tryz.func49, Tryz.ntmps49
  go_wp2_with (first | (at_make; refine wpList_make_full _ rfl _ _ 40 rfl w.heap.size 126 i0 _ 3 Tryz.underlying40 hi hz0 hz1 _ _ _ _ xs.length rfl rfl rfl rfl ?c1 ?c2 ?c3 ?_))
  case c1 => rw [hz2]; omega
  case c2 => unfold maxLen; omega
  case c3 => exact Nat.le_refl _
  intro w1 hown hgrow
  have hB : Below w.heap.size w w1 := (Below.refl _ _).grown hgrow (Nat.le_refl _) (fun _ h => by cases h)
  have HO := hide hown
  have HB := hide hB
  clear hown hB hgrow
  go_wp2
  go_loopw [4] (fun i wr => ∃ (k : Nat) (ys : List Value), k ≤ xs.length ∧ i = .int .i64 k ∧ Hid (ys.length = xs.length * 3) ∧ Hid (ys.take (k * 3) = (ioV xs).take (k * 3)) ∧ Hid (wr.ownsRow w.heap.size 126 3 (.slice (some ⟨w.heap.size, 0, none⟩) xs.length xs.length) xs.length ys) ∧ Hid (Below w.heap.size w wr)) (fun i _ => xs.length - (intOf i).toNat)
  case atStart => exact ⟨0, _, Nat.zero_le _, rfl, hide (by rw [(unhide HO).1]), hide (by simp), HO, HB⟩
  case round =>
    obtain ⟨k, ys, hk, rfl, HL, HT, HO, HB⟩ := hrel
    by_cases hlt : k < xs.length
    · obtain ⟨b, off, rfl, hc0, hc1, hc2, hz⟩ := (unhide HC).below (unhide HB) k hlt
      clear hz
      go_wp2_with fail
      refine (toIo_any _ _ _ _).mono ?_
      rintro e w2 ⟨rfl, hb2⟩
      have HO2 := hide (own_below (unhide HO) hb2)
      have HB2 := hide ((unhide HB).trans (hb2.mono (unhide HB).size))
      clear hb2
      have hf0 := (unhide HO2).frozenAt (k * 3)
      have hf1 := (unhide HO2).frozenAt (k * 3 + 1)
      have hf2 := (unhide HO2).frozenAt (k * 3 + 2)
      obtain ⟨x0, hx0⟩ : ∃ x, w2.cell? ⟨w.heap.size, k * 3, none⟩ = some x := ⟨_, ((unhide HO2).cellAt (k * 3) (by omega)).trans (List.getElem?_eq_getElem (by rw [unhide HL]; omega))⟩
      obtain ⟨x1, hx1⟩ : ∃ x, w2.cell? ⟨w.heap.size, k * 3 + 1, none⟩ = some x := ⟨_, ((unhide HO2).cellAt (k * 3 + 1) (by omega)).trans (List.getElem?_eq_getElem (by rw [unhide HL]; omega))⟩
      obtain ⟨x2, hx2⟩ : ∃ x, w2.cell? ⟨w.heap.size, k * 3 + 2, none⟩ = some x := ⟨_, ((unhide HO2).cellAt (k * 3 + 2) (by omega)).trans (List.getElem?_eq_getElem (by rw [unhide HL]; omega))⟩
      have HST := hide (stored3 (unhide HO2) (k * 3) (k * 3 + 1) (k * 3 + 2) (.int .i64 xs[k].host) (.int .i64 xs[k].at_) (.string xs[k].data))
      have HBT := hide (below3 (unhide HB2) (Nat.le_refl _) (k * 3) (k * 3 + 1) (k * 3 + 2) (.int .i64 xs[k].host) (.int .i64 xs[k].at_) (.string xs[k].data))
      go_wp2
      go_roundw
      case rel => exact ⟨k + 1, _, by omega, by go_num, hide (by rw [List.length_set, List.length_set, List.length_set]; exact unhide HL), hide (io_take hlt (unhide HL) (unhide HT)), HST, HBT⟩
      case measure => simp [intOf]; omega
    · go_wp2
      go_ret
      have hkn : k = xs.length := by omega
      subst hkn
      have hxs : ys = ioV xs := by
        have := unhide HT
        rwa [List.take_of_length_le (by rw [unhide HL]; exact Nat.le_refl _), List.take_of_length_le (by rw [ioV_length]; exact Nat.le_refl _)] at this
      subst hxs
      exact ⟨_, rfl, unhide HO, unhide HB⟩

set_option maxHeartbeats 800000 in
theorem toDisk_any (ao bo : Option Addr) (ca cb : Nat) (ss : List ByteArray) (xs : List Wr) (w : World) (hl : ss.length ≤ 1048576) (hm : xs.length ≤ 1048576) (hc : Ss w ao ss) (hd : Ios w bo xs) :
    Calls Tryz.prog 17 #[.agg #[.slice ao ss.length ca, .slice bo xs.length cb]] w fun e w' => ∃ g k, e = .returned (.agg #[.slice (some ⟨g, 0, none⟩) ss.length ss.length, .slice (some ⟨k, 0, none⟩) xs.length xs.length]) ∧
      w'.ownsRow w.heap.size 9 1 (.slice (some ⟨g, 0, none⟩) ss.length ss.length) ss.length (strV ss) ∧ w'.ownsRow w.heap.size 126 3 (.slice (some ⟨k, 0, none⟩) xs.length xs.length) xs.length (ioV xs) ∧ Below w.heap.size w w' := by
  have HC := hide hc
  have HD := hide hd
  clear hc hd
  go_enter Tryz.func17, Tryz.ntmps17
  have HA := hide (Joins.below_alloc3 w (.cells #[.slice ao ss.length ca, .slice bo xs.length cb] 25) (.cells #[.slice none 0 0, .slice none 0 0] 42) (.cells #[.slice none 0 0, .slice none 0 0] 42))
  go_wp2_with fail
  refine (toStringS_any ao ca ss _ hl ((unhide HC).below (unhide HA))).mono ?_
  rintro e w1 ⟨g, rfl, ho1, hb1⟩
  have hz1 : w.heap.size + 1 + 1 < w1.heap.size := by have := hb1.size; simp at this; omega
  have hc0 : w1.cell? ⟨w.heap.size, 1, none⟩ = some (.slice bo xs.length cb) := (hb1.cell (by simp; omega)).trans (by simp [go_sem])
  have hc1 : w1.cell? ⟨w.heap.size + 1 + 1, 0, none⟩ = some (.slice none 0 0) := (hb1.cell (by simp)).trans (by simp [go_sem])
  have hc2 : w1.cell? ⟨w.heap.size + 1 + 1, 1, none⟩ = some (.slice none 0 0) := (hb1.cell (by simp)).trans (by simp [go_sem])
  have hc3 : w1.cell? ⟨w.heap.size + 1, 0, none⟩ = some (.slice none 0 0) := (hb1.cell (by simp)).trans (by simp [go_sem])
  have hc4 : w1.cell? ⟨w.heap.size + 1, 1, none⟩ = some (.slice none 0 0) := (hb1.cell (by simp)).trans (by simp [go_sem])
  have hf0 : w1.frozen? ⟨w.heap.size + 1 + 1, 0, none⟩ = false := (hb1.frozen (by simp)).trans (by simp [go_sem])
  have hf1 : w1.frozen? ⟨w.heap.size + 1 + 1, 1, none⟩ = false := (hb1.frozen (by simp)).trans (by simp [go_sem])
  have hf2 : w1.frozen? ⟨w.heap.size + 1, 0, none⟩ = false := (hb1.frozen (by simp)).trans (by simp [go_sem])
  have hf3 : w1.frozen? ⟨w.heap.size + 1, 1, none⟩ = false := (hb1.frozen (by simp)).trans (by simp [go_sem])
  have HO1 := hide ho1
  have HB1 := hide hb1
  clear ho1 hb1
  have HBW := hide (((unhide HA).trans ((unhide HB1).mono (by simp; omega))).setCell (p := ⟨w.heap.size + 1 + 1, 0, none⟩) (by simp; omega) (.slice (some ⟨g, 0, none⟩) ss.length ss.length))
  have HO1' := hide (ownsRow_setCell_below (unhide HO1) (a := ⟨w.heap.size + 1 + 1, 0, none⟩) (by simp) (.slice (some ⟨g, 0, none⟩) ss.length ss.length))
  go_wp2_with fail
  refine (toIoS_any bo cb xs _ hm ((unhide HD).below (unhide HBW))).mono ?_
  rintro e w2 ⟨k, rfl, ho2, hb2⟩
  have hz2 : w.heap.size + 1 + 1 < w2.heap.size := by have := hb2.size; simp at this; omega
  have hd1 : w2.cell? ⟨w.heap.size + 1 + 1, 0, none⟩ = some (.slice (some ⟨g, 0, none⟩) ss.length ss.length) := (hb2.cell (by simp; omega)).trans (by simp [go_sem, hc1])
  have hd2 : w2.cell? ⟨w.heap.size + 1 + 1, 1, none⟩ = some (.slice none 0 0) := (hb2.cell (by simp; omega)).trans (by simp [go_sem, hc2])
  have hd3 : w2.cell? ⟨w.heap.size + 1, 0, none⟩ = some (.slice none 0 0) := (hb2.cell (by simp; omega)).trans (by simp [go_sem, hc3])
  have hd4 : w2.cell? ⟨w.heap.size + 1, 1, none⟩ = some (.slice none 0 0) := (hb2.cell (by simp; omega)).trans (by simp [go_sem, hc4])
  have hg1 : w2.frozen? ⟨w.heap.size + 1 + 1, 1, none⟩ = false := (hb2.frozen (by simp; omega)).trans (by simp [go_sem, hf1])
  have hg2 : w2.frozen? ⟨w.heap.size + 1, 0, none⟩ = false := (hb2.frozen (by simp; omega)).trans (by simp [go_sem, hf2])
  have hg3 : w2.frozen? ⟨w.heap.size + 1, 1, none⟩ = false := (hb2.frozen (by simp; omega)).trans (by simp [go_sem, hf3])
  have HOA := hide (own_below (unhide HO1') hb2)
  have HOB := hide ho2
  have HBA := hide ((unhide HBW).trans (hb2.mono (by simp; omega)))
  clear ho2 hb2 hc0 hc1 hc2 hc3 hc4 hf0 hf1 hf2 hf3
  have hz3 : w.heap.size ≤ w.heap.size + 1 + 1 := by omega
  have HOC := hide (own_base (ownsRow_setCell_below (ownsRow_setCell_below (ownsRow_setCell_below (unhide HOA) (a := ⟨w.heap.size + 1 + 1, 1, none⟩) (by simp) (.slice (some ⟨k, 0, none⟩) xs.length xs.length)) (a := ⟨w.heap.size + 1, 0, none⟩) (by simp) (.slice (some ⟨g, 0, none⟩) ss.length ss.length)) (a := ⟨w.heap.size + 1, 1, none⟩) (by simp) (.slice (some ⟨k, 0, none⟩) xs.length xs.length)) (B' := w.heap.size) (by simp; omega))
  have HOD := hide (own_base (ownsRow_setCell_below (ownsRow_setCell_below (ownsRow_setCell_below (unhide HOB) (a := ⟨w.heap.size + 1 + 1, 1, none⟩) (by simp; omega) (.slice (some ⟨k, 0, none⟩) xs.length xs.length)) (a := ⟨w.heap.size + 1, 0, none⟩) (by simp; omega) (.slice (some ⟨g, 0, none⟩) ss.length ss.length)) (a := ⟨w.heap.size + 1, 1, none⟩) (by simp; omega) (.slice (some ⟨k, 0, none⟩) xs.length xs.length)) (B' := w.heap.size) (by simp; omega))
  have HBC := hide ((((unhide HBA).setCell (p := ⟨w.heap.size + 1 + 1, 1, none⟩) (by simp; omega) (.slice (some ⟨k, 0, none⟩) xs.length xs.length)).setCell (p := ⟨w.heap.size + 1, 0, none⟩) (by simp) (.slice (some ⟨g, 0, none⟩) ss.length ss.length)).setCell (p := ⟨w.heap.size + 1, 1, none⟩) (by simp) (.slice (some ⟨k, 0, none⟩) xs.length xs.length))
  go_wp2
  exact bodyPost_ret (v := .agg #[.slice (some ⟨g, 0, none⟩) ss.length ss.length, .slice (some ⟨k, 0, none⟩) xs.length xs.length]) (by simp [results, Tryz.results17, go_sem, hd3, hd4]) rfl ⟨g, k, rfl, unhide HOC, unhide HOD, unhide HBC⟩

end Go.Proofs.YtjjkppknojecjaaGreatDoor
