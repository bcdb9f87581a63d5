import Derived.Test.YtbmkdbccdnbbjaaGreatDoorRows
import Derived.Test.YtbmkdbccdnbbjaaGreatDoorPart1
import Derived.Test.YtbmkdbccdnbbjaaGreatDoorPart2
import Derived.Test.YtbmkdbccdnbbjaaGreatDoorPart4
import Derived.Test.YtbmkdbccdnbbjaaGreatDoorPart5
import Derived.Test.YtbmkdbccdnbbjaaGreatDoorPart8
import Derived.WalkKit
import Derived.WalkSpells
import Derived.LoopN
import Derived.BigQuiet
import Derived.Deep.QuietTactic
import Derived.Deep.RegionWith
import Derived.Deep.RegionHeld3
import Derived.Deep.Quiet

namespace Go.Proofs.YtbmkdbccdnbbjaaGreatDoor
open Go.RowKit
set_option linter.unusedVariables false
set_option maxRecDepth 100000

theorem fm_parts {m : Img} (h : imFm m = true) : ctB m.refs = true ∧ m.snaps.length ≤ 3 ∧ m.data.length = 24 ∧ (∀ t ∈ imTabs m, tbB t = true) := by
  simp only [imFm, Bool.and_eq_true, decide_eq_true_eq, List.all_eq_true] at h
  obtain ⟨⟨⟨⟨⟨⟨h1, h2⟩, h3⟩, h4⟩, h5⟩, h6⟩, h7⟩ := h
  refine ⟨h1, h3, h4, fun t ht => ?_⟩
  unfold imTabs at ht
  rw [List.mem_cons, List.mem_map] at ht
  rcases ht with rfl | ⟨s, hs, rfl⟩
  · exact h2
  · exact (h5 s hs).2
theorem im_fm {m : Img} (h : imFm m = false) : imB m = false := by simp [imB, h]
theorem im_once {m : Img} {t : List Int} (ht : t ∈ imTabs m) (h : onceB t = false) : imB m = false := by
  have e : (imTabs m).all onceB = false := by
    cases hh : (imTabs m).all onceB with
    | false => rfl
    | true => rw [List.all_eq_true] at hh; rw [hh t ht] at h; cases h
  simp only [imB, e, Bool.and_false, Bool.false_and]
theorem im_cnt {m : Img} {i : Nat} (h1 : i < (imCnt m).length) (h2 : i < m.refs.length) (h : (imCnt m)[i] ≠ m.refs[i]) : imB m = false := by
  have e : decide (imCnt m = m.refs) = false := decide_eq_false (fun e => h (by simp only [e]))
  simp only [imB, e, Bool.and_false, Bool.false_and]
theorem im_clear {m : Img} {i : Nat} (hi : i < 24) (h1 : i < m.refs.length) (h2 : i < m.data.length) (hr : m.refs[i] = 0) (hd : m.data[i] ≠ 0) : imB m = false := by
  have e : clearB m = false := by
    unfold clearB
    cases hh : (List.range 24).all _ with
    | false => rfl
    | true =>
      rw [List.all_eq_true] at hh
      have := hh i (List.mem_range.2 hi)
      simp only [List.getD, List.getElem?_eq_getElem h1, List.getElem?_eq_getElem h2, Option.getD_some, decide_eq_true_eq] at this
      exact absurd (this hr) hd
  simp only [imB, e, Bool.and_false]
theorem im_yes {m : Img} (hf : imFm m = true) (h1 : ∀ t ∈ imTabs m, onceB t = true) (h2 : ∀ i (ha : i < (imCnt m).length) (hb : i < m.refs.length), (imCnt m)[i] = m.refs[i]) (h3 : ∀ i, i < 24 → m.refs.getD i 0 = 0 → m.data.getD i 0 = 0) : imB m = true := by
  have hl := ctB_len (fm_parts hf).1
  have e2 : imCnt m = m.refs := List.ext_getElem (by rw [imCnt_len, hl]) h2
  have e1 : (imTabs m).all onceB = true := List.all_eq_true.2 h1
  have e3 : clearB m = true := by
    unfold clearB
    rw [List.all_eq_true]
    intro i hi
    exact decide_eq_true (h3 i (List.mem_range.1 hi))
  simp only [imB, hf, e1, e2, e3, decide_true, Bool.and_true]

set_option maxHeartbeats 3200000 in
theorem imageOK_spec (a : Im4) (m : Img) (w : World) (hL : ImL m) (hc : ImS w a m) :
    Calls Tryz.prog 29 #[imV a m] w fun e w' => e = .returned (.bool (imB m)) ∧ Below w.heap.size w w' := by
  have HA := hide (Joins.below_alloc1 w (.cells #[.slice a.ro m.refs.length a.rc, .slice a.tq m.table.length a.tc, .slice a.so m.snaps.length a.sc, .slice a.dq m.data.length a.dc] 26))
  have HV := hide (VarM.new w 26 (.slice a.ro m.refs.length a.rc) (.slice a.tq m.table.length a.tc) (.slice a.so m.snaps.length a.sc) (.slice a.dq m.data.length a.dc))
  have HC := hide (hc.below (unhide HA))
  have HL := hide hL
  clear hc hL
  cases hfm : imFm m
  · have HF := hide (im_fm hfm)
    go_enter Tryz.func29, Tryz.ntmps29
    go_upto_region 1 with fail
    revert HA HV HC
    generalize (w.alloc _) = W0
    intro HA HV HC
    obtain ⟨c0, c1, c2, c3⟩ := (unhide HV).cells
    go_wp2_with fail
    refine (l10Form_any a m _ (unhide HL) (unhide HC)).mono ?_
    rintro e w1 ⟨rfl, hb⟩
    rw [hfm]
    have HB := hide (fr (unhide HA) hb)
    clear hb c0 c1 c2 c3
    go_wp2
    go_ret
    exact ⟨ret_bool (unhide HF).symm, unhide HB⟩
  obtain ⟨p1, p2, p3, p4⟩ := fm_parts hfm
  have HFM := hide hfm
  have HR24 := hide (ctB_len p1)
  have HD24 := hide p3
  have HTB := hide p4
  have hs3 : m.snaps.length ≤ 3 := p2
  clear p1 p2 p3 p4 hfm
  go_enter Tryz.func29, Tryz.ntmps29
  go_upto_region 1 with fail
  revert HA HV HC
  generalize (w.alloc _) = W0
  intro HA HV HC
  obtain ⟨c0, c1, c2, c3⟩ := (unhide HV).cells
  go_wp2_with fail
  refine (l10Form_any a m _ (unhide HL) (unhide HC)).mono ?_
  rintro e w1 ⟨rfl, hb⟩
  rw [unhide HFM]
  have HB1 := hide (fr (unhide HA) hb)
  have HC1 := hide ((unhide HC).below hb)
  have HV1 := hide ((unhide HV).below hb)
  clear hb c0 c1 c2 c3 HA HV HC
  obtain ⟨c0, c1, c2, c3⟩ := (unhide HV1).cells
  go_wp2_with fail
  refine (l10Twice_any a.tq a.tc m.table _ (unhide HTB _ (by simp [imTabs])) (unhide HC1).t).mono ?_
  rintro e w2 ⟨rfl, hb⟩
  have HB2 := hide (fr (unhide HB1) hb)
  have HC2 := hide ((unhide HC1).below hb)
  have HV2 := hide ((unhide HV1).below hb)
  clear hb c0 c1 c2 c3 HB1 HC1 HV1
  cases hon : onceB m.table
  · have HF := hide (im_once (m := m) (t := m.table) (by simp [imTabs]) hon)
    go_wp2
    go_ret
    exact ⟨ret_bool (unhide HF).symm, unhide HB2⟩
  have HON := hide hon
  clear hon
  obtain ⟨c0, c1, c2, c3⟩ := (unhide HV2).cells
  go_wp2
  clear c0 c1 c2 c3
  go_loopw [3] (fun i wr => ∃ k : Nat, k ≤ m.snaps.length ∧ i = .int .i64 k ∧ Hid (∀ j (hj : j < m.snaps.length), j < k → onceB m.snaps[j].table = true) ∧ Hid (Below w2.heap.size w2 wr)) (fun i _ => m.snaps.length - (intOf i).toNat)
  case atStart => exact ⟨0, Nat.zero_le _, rfl, hide (fun j _ h => by omega), hide (Below.refl _ _)⟩
  case round =>
    obtain ⟨i, hi, rfl, HS, HB⟩ := hrel
    obtain ⟨c0, c1, c2, c3⟩ := ((unhide HV2).below (unhide HB)).cells
    by_cases hlt : i < m.snaps.length
    · obtain ⟨b, off, tq, tc, eb, hn0, ht0, hIs, hz, htl⟩ := ((unhide HC2).s.below (unhide HB)) i hlt
      rw [eb] at c2
      clear eb
      have hlti : (i : Int) < (m.snaps.length : Int) := by omega
      have HIS := hide hIs
      have HMT : Hid (m.snaps[i].table ∈ imTabs m) := hide (by unfold imTabs; exact List.mem_cons_of_mem _ (List.mem_map.2 ⟨_, List.getElem_mem hlt, rfl⟩))
      clear hIs hz htl
      go_wp2_with fail
      refine (l10Twice_any tq tc m.snaps[i].table _ (unhide HTB _ (unhide HMT)) (unhide HIS)).mono ?_
      rintro e w3 ⟨rfl, hb⟩
      have HB3 := hide (fr (unhide HB) hb)
      clear hb c0 c1 c2 c3 hn0 ht0
      cases hon : onceB m.snaps[i].table
      · have HF := hide (im_once (unhide HMT) hon)
        go_wp2
        go_ret
        exact ⟨ret_bool (unhide HF).symm, fr (unhide HB2) (unhide HB3)⟩
      · have HS' := hide (all_succ (p := fun s : Snp => onceB s.table) hlt (unhide HS) hon)
        go_wp2
        go_roundw
        case rel => exact ⟨i + 1, by omega, by go_num, HS', HB3⟩
        case measure => simp [intOf]; omega
    · have HALL : Hid (∀ t ∈ imTabs m, onceB t = true) := hide (fun t ht => by
        unfold imTabs at ht
        rw [List.mem_cons, List.mem_map] at ht
        rcases ht with rfl | ⟨s, hs, rfl⟩
        · exact unhide HON
        · obtain ⟨j, hj, rfl⟩ := List.mem_iff_getElem.1 hs
          exact unhide HS j hj (by omega))
      have HCr := hide ((unhide HC2).below (unhide HB))
      go_wp2_with fail
      refine (l10Count_any a m _ hs3 (unhide HTB) (unhide HCr)).mono ?_
      rintro e w3 ⟨v, rfl, ⟨no, na, rfl, ho⟩, hb⟩
      have HLN := hide (imCnt_len m)
      have HI3 := hide (ownRN ho)
      have HB3 := hide (fr (unhide HB) hb)
      have HYES := hide (fun h2 h3 => im_yes (m := m) (unhide HFM) (unhide HALL) h2 h3)
      have HCNT := hide (fun (i : Nat) (h1 : i < (imCnt m).length) (h2 : i < m.refs.length) (h : (imCnt m)[i] ≠ m.refs[i]) => im_cnt h1 h2 h)
      clear ho hb c0 c1 c2 c3 HB
      generalize imCnt m = L at *
      go_wp2
      go_loopw [5] (fun i wq => ∃ k : Nat, k ≤ 24 ∧ i = .int .i64 k ∧ Hid (∀ j (h1 : j < L.length) (h2 : j < m.refs.length), j < k → L[j] = m.refs[j]) ∧ Hid (∀ j, j < k → m.refs.getD j 0 = 0 → m.data.getD j 0 = 0) ∧ Hid (Below w3.heap.size w3 wq)) (fun i _ => 24 - (intOf i).toNat)
      case atStart => exact ⟨0, by omega, rfl, hide (fun j _ _ h => by omega), hide (fun j h => by omega), hide (Below.refl _ _)⟩
      case round =>
        obtain ⟨k, hk, rfl, HE, HZ, HB⟩ := hrel
        by_cases hlt : k < 24
        · have hlti : (k : Int) < 24 := by omega
          have kl : k < L.length := by rw [unhide HLN]; exact hlt
          have kr : k < m.refs.length := by rw [unhide HR24]; exact hlt
          have kd : k < m.data.length := by rw [unhide HD24]; exact hlt
          have kli : (k : Int) < (L.length : Int) := by omega
          have kri : (k : Int) < (m.refs.length : Int) := by omega
          have kdi : (k : Int) < (m.data.length : Int) := by omega
          obtain ⟨c0, c1, c2, c3⟩ := ((unhide HV2).below (fr (unhide HB3) (unhide HB))).cells
          obtain ⟨b1, o1, e1, hx1⟩ := ((unhide HI3).below (unhide HB)) k kl
          obtain ⟨b2, o2, e2, hx2⟩ := ((unhide HC2).r.below (fr (unhide HB3) (unhide HB))) k kr
          obtain ⟨b3, o3, e3, hx3⟩ := ((unhide HC2).d.below (fr (unhide HB3) (unhide HB))) k kd
          subst e1
          rw [e2] at c0
          rw [e3] at c3
          clear e2 e3 c1 c2
          have HER : Hid (L[k] = m.refs[k] → ∀ j (h1 : j < L.length) (h2 : j < m.refs.length), j < k + 1 → L[j] = m.refs[j]) := hide (fun h => eq_succ kl kr (unhide HE) h)
          have HZR : Hid ((m.refs[k] = 0 → m.data[k] = 0) → ∀ j, j < k + 1 → m.refs.getD j 0 = 0 → m.data.getD j 0 = 0) := hide (fun h j hj => by
            by_cases e : j = k
            · subst e; simpa [List.getD, kr, kd] using h
            · exact unhide HZ j (by omega))
          have HF1 := hide (unhide HCNT k kl kr)
          have HF2 : Hid (m.refs[k] = 0 → m.data[k] ≠ 0 → imB m = false) := hide (fun h1 h2 => im_clear hlt kr kd h1 h2)
          generalize L[k] = X at *
          generalize m.refs[k] = R at *
          generalize m.data[k] = D at *
          by_cases hne : X = R
          · by_cases hz : X = 0
            · by_cases hd : D = 0
              · have HE' := hide (unhide HER hne)
                have HZ' := hide (unhide HZR (fun _ => hd))
                have b1' : (X != R) = false := by simp [hne]
                have b2' : (X == 0) = true := by simp [hz]
                have b3' : (D != 0) = false := by simp [hd]
                clear hne hz hd
                go_wp2
                go_quiet (fail)
                go_wp2
                go_roundw
                case rel => exact ⟨k + 1, by omega, by go_num, HE', HZ', hide ((unhide HB).trans (Joins.below_draws _ _ _))⟩
                case measure => simp [intOf]; omega
              · have HF := hide (unhide HF2 (hne ▸ hz) hd)
                have b1' : (X != R) = false := by simp [hne]
                have b2' : (X == 0) = true := by simp [hz]
                have b3' : (D != 0) = true := by simp [hd]
                clear hne hz hd
                go_wp2
                go_quiet (fail)
                go_wp2
                go_ret
                exact ⟨ret_bool (unhide HF).symm, fr (unhide HB2) (fr (unhide HB3) ((unhide HB).trans (Joins.below_draws _ _ _)))⟩
            · have HE' := hide (unhide HER hne)
              have HZ' := hide (unhide HZR (fun h => absurd (hne.trans h) hz))
              have b1' : (X != R) = false := by simp [hne]
              have b2' : (X == 0) = false := by simp [hz]
              clear hne hz
              go_wp2
              go_quiet (fail)
              go_wp2
              go_roundw
              case rel => exact ⟨k + 1, by omega, by go_num, HE', HZ', hide ((unhide HB).trans (Joins.below_draws _ _ _))⟩
              case measure => simp [intOf]; omega
          · have HF := hide (unhide HF1 hne)
            have b1' : (X != R) = true := by simp [hne]
            clear hne
            go_wp2
            go_quiet (fail)
            go_wp2
            go_ret
            exact ⟨ret_bool (unhide HF).symm, fr (unhide HB2) (fr (unhide HB3) ((unhide HB).trans (Joins.below_draws _ _ _)))⟩
        · have HF := hide (unhide HYES (fun i h1 h2 => unhide HE i h1 h2 (by have := unhide HLN; omega)) (fun i h => unhide HZ i (by omega)))
          go_wp2
          go_ret
          exact ⟨ret_bool (unhide HF).symm, fr (unhide HB2) (fr (unhide HB3) (unhide HB))⟩

end Go.Proofs.YtbmkdbccdnbbjaaGreatDoor

namespace Go.Proofs.YtbmkdbccdnbbjaaGreatDoor
open Go.RowKit
set_option linter.unusedVariables false
set_option maxRecDepth 100000

theorem OwnN.spot {w : World} {B c n k : Nat} {ao : Option Addr} {xs : List Int} (h : OwnN w B (.slice ao n k) xs) (hn : n = xs.length) (hc : c < xs.length) : ∃ g, ao = some ⟨g, 0, none⟩ ∧ w.cell? ⟨g, c, none⟩ = some (.int .i64 xs[c]) ∧ w.frozen? ⟨g, c, none⟩ = false ∧ Own (.slice ao n k) g ∧ ∀ y, OwnN (w.setCell ⟨g, c, none⟩ (.int .i64 y)) B (.slice ao n k) (xs.set c y) := by
  subst hn
  have hr := h.row
  have hp : 0 < xs.length := by omega
  obtain ⟨g, cap, cur, e, _, _⟩ := own_form hp (hr.row hp)
  simp only [Value.slice.injEq, true_and] at e
  obtain ⟨rfl, rfl⟩ := e
  refine ⟨g, rfl, ?_, (hr.row hp).frozenAt c, own_of hp rfl, fun y => ?_⟩
  · have := (hr.row hp).cellAt c (by omega)
    rwa [intV_get hc] at this
  · exact OwnN.mk' (own_setI hr hp y) (by simp)
theorem OwnIm.setR {w : World} {B c : Nat} {a : Im4} {m : Img} {ts : List Value} (h : OwnIm w B a m ts) (hc : c < m.refs.length) : ∃ g, a.ro = some ⟨g, 0, none⟩ ∧ w.cell? ⟨g, c, none⟩ = some (.int .i64 m.refs[c]) ∧ w.frozen? ⟨g, c, none⟩ = false ∧ ImB a m ts g ∧ ∀ y, OwnIm (w.setCell ⟨g, c, none⟩ (.int .i64 y)) B a { m with refs := m.refs.set c y } ts := by
  obtain ⟨g, e, h1, h2, h3, h4⟩ := (h.rows.own (.slice a.ro m.refs.length a.rc, m.refs) (by simp [imRows])).spot rfl hc
  have hk : ∀ y, Keep (Own (.slice a.ro m.refs.length a.rc)) w (w.setCell ⟨g, c, none⟩ (.int .i64 y)) := fun y => (Keep.refl _ w).setCell (p := ⟨g, c, none⟩) h3 _
  refine ⟨g, e, h1, h2, .inl h3, fun y => ⟨h.len, h.s.keep (hk y) (own_apartT h.s (h.rows.own (.slice a.ro m.refs.length a.rc, m.refs) (by simp [imRows])).row (by decide)), ?_⟩⟩
  have := h.rows.turn (j := 0) rfl (hk y) (h4 y)
  simp only [imRows, List.length_set]
  exact this
theorem OwnIm.setT {w : World} {B c : Nat} {a : Im4} {m : Img} {ts : List Value} (h : OwnIm w B a m ts) (hc : c < m.table.length) : ∃ g, a.tq = some ⟨g, 0, none⟩ ∧ w.cell? ⟨g, c, none⟩ = some (.int .i64 m.table[c]) ∧ w.frozen? ⟨g, c, none⟩ = false ∧ ImB a m ts g ∧ ∀ y, OwnIm (w.setCell ⟨g, c, none⟩ (.int .i64 y)) B a { m with table := m.table.set c y } ts := by
  obtain ⟨g, e, h1, h2, h3, h4⟩ := (h.rows.own (.slice a.tq m.table.length a.tc, m.table) (by simp [imRows])).spot rfl hc
  have hk : ∀ y, Keep (Own (.slice a.tq m.table.length a.tc)) w (w.setCell ⟨g, c, none⟩ (.int .i64 y)) := fun y => (Keep.refl _ w).setCell (p := ⟨g, c, none⟩) h3 _
  refine ⟨g, e, h1, h2, .inr (.inl h3), fun y => ⟨h.len, h.s.keep (hk y) (own_apartT h.s (h.rows.own (.slice a.tq m.table.length a.tc, m.table) (by simp [imRows])).row (by decide)), ?_⟩⟩
  have := h.rows.turn (j := 1) rfl (hk y) (h4 y)
  simp only [imRows, List.length_set]
  exact this
theorem OwnIm.setD {w : World} {B c : Nat} {a : Im4} {m : Img} {ts : List Value} (h : OwnIm w B a m ts) (hc : c < m.data.length) : ∃ g, a.dq = some ⟨g, 0, none⟩ ∧ w.cell? ⟨g, c, none⟩ = some (.int .i64 m.data[c]) ∧ w.frozen? ⟨g, c, none⟩ = false ∧ ImB a m ts g ∧ ∀ y, OwnIm (w.setCell ⟨g, c, none⟩ (.int .i64 y)) B a { m with data := m.data.set c y } ts := by
  obtain ⟨g, e, h1, h2, h3, h4⟩ := (h.rows.own (.slice a.dq m.data.length a.dc, m.data) (by simp [imRows])).spot rfl hc
  have hk : ∀ y, Keep (Own (.slice a.dq m.data.length a.dc)) w (w.setCell ⟨g, c, none⟩ (.int .i64 y)) := fun y => (Keep.refl _ w).setCell (p := ⟨g, c, none⟩) h3 _
  refine ⟨g, e, h1, h2, .inr (.inr (.inl h3)), fun y => ⟨h.len, h.s.keep (hk y) (own_apartT h.s (h.rows.own (.slice a.dq m.data.length a.dc, m.data) (by simp [imRows])).row (by decide)), ?_⟩⟩
  have := h.rows.turn (j := 2) rfl (hk y) (h4 y)
  simp only [imRows, List.length_set]
  exact this
theorem OwnIm.other {w : World} {B x : Nat} {a : Im4} {m : Img} {ts : List Value} {v0 v1 v2 v3 : Value} (h : OwnIm w B a m ts) (hv : VarM w x 26 v0 v1 v2 v3) : ¬ ImB a m ts x := by
  intro hx
  rcases hx with h1 | h1 | h1 | h1 | ⟨t, ht, h1⟩
  · exact (h.rows.own (.slice a.ro m.refs.length a.rc, m.refs) (by simp [imRows])).row.other hv (by decide) h1
  · exact (h.rows.own (.slice a.tq m.table.length a.tc, m.table) (by simp [imRows])).row.other hv (by decide) h1
  · exact (h.rows.own (.slice a.dq m.data.length a.dc, m.data) (by simp [imRows])).row.other hv (by decide) h1
  · exact h.s.other hv (by decide) h1
  · have hm : t ∈ (ts.zip (m.snaps.map (·.table))).map Prod.fst := by rw [zip_fst _ _ (by rw [List.length_map, h.len])]; exact ht
    obtain ⟨p, hp, rfl⟩ := List.mem_map.1 hm
    exact (h.rows.own p (by simp [imRows, hp])).row.other hv (by decide) h1
theorem VarM.keepIm {w w' : World} {B x : Nat} {a : Im4} {m : Img} {ts : List Value} {v0 v1 v2 v3 : Value} (hv : VarM w x 26 v0 v1 v2 v3) (h : OwnIm w B a m ts) (hk : Keep (ImB a m ts) w w') : VarM w' x 26 v0 v1 v2 v3 := (hk.block x hv.lt (h.other hv)).trans hv
theorem OwnIm.shows {w : World} {B : Nat} {a : Im4} {m : Img} {ts : List Value} (h : OwnIm w B a m ts) (hz : ∀ s ∈ m.snaps, s.name.size ≤ maxLen ∧ s.table.length ≤ maxLen) : ImS w a m := by
  refine ⟨ownRN (h.rows.own (.slice a.ro m.refs.length a.rc, m.refs) (by simp [imRows])).row, ownRN (h.rows.own (.slice a.tq m.table.length a.tc, m.table) (by simp [imRows])).row, fun i hi => ?_, ownRN (h.rows.own (.slice a.dq m.data.length a.dc, m.data) (by simp [imRows])).row⟩
  have hp : 0 < m.snaps.length := by omega
  have hit : i < ts.length := by rw [← h.len]; exact hi
  have hs := h.s.row hp
  obtain ⟨g, cap, cur, e, _, _⟩ := own_form hp hs
  rw [e] at hs
  simp only [Value.slice.injEq, true_and] at e
  obtain ⟨e1, e2⟩ := e
  have hgs := snC_get (List.getElem?_eq_getElem hi) (List.getElem?_eq_getElem hit)
  have hm : (ts[i], m.snaps[i].table) ∈ imRows a m ts := by
    have : (ts.zip (m.snaps.map (·.table)))[i]? = some (ts[i], m.snaps[i].table) := by
      rw [List.getElem?_zip_eq_some]
      exact ⟨List.getElem?_eq_getElem hit, by simp [hi]⟩
    simp [imRows, List.mem_of_getElem? this]
  obtain ⟨tq, tc, et, ho⟩ := h.rows.own _ hm
  simp only at et ho
  refine ⟨g, 0, tq, tc, e1, ?_, ?_, ownRN ho, (hz _ (List.getElem_mem hi)).1, (hz _ (List.getElem_mem hi)).2⟩
  · rw [Nat.zero_add]; exact (hs.cellAt (i * 2) (by omega)).trans hgs.1
  · rw [Nat.zero_add]; exact (hs.cellAt (i * 2 + 1) (by omega)).trans (by rw [hgs.2, et])

theorem l10Value_any (a : Im4) (m : Img) (e : Int) (w : World) (he0 : 0 ≤ e) (he1 : e - 2 < m.data.length) (hd : m.data.length ≤ 1000) (hc : Is w a.dq m.data) :
    Calls Tryz.prog 104 #[imV a m, .int .i64 e] w fun r w' => r = .returned (.int .i64 (imVal m e)) ∧ Below w.heap.size w w' := by
  have HA := hide (Joins.below_alloc1 w (.cells #[.slice a.ro m.refs.length a.rc, .slice a.tq m.table.length a.tc, .slice a.so m.snaps.length a.sc, .slice a.dq m.data.length a.dc] 26))
  have HV := hide (VarM.new w 26 (.slice a.ro m.refs.length a.rc) (.slice a.tq m.table.length a.tc) (.slice a.so m.snaps.length a.sc) (.slice a.dq m.data.length a.dc))
  have HC := hide (hc.below (unhide HA))
  clear hc
  by_cases h2 : e < 2
  · have HE : Hid (imVal m e = 0) := hide (if_pos h2)
    go_enter Tryz.func104, Tryz.ntmps104
    go_wp2
    go_ret
    exact ⟨ret_int (unhide HE).symm, unhide HA⟩
  · obtain ⟨c, hcc⟩ : ∃ c : Nat, e = (c : Int) + 2 := ⟨(e - 2).toNat, by omega⟩
    subst hcc
    have hcl : c < m.data.length := by omega
    have HE : Hid (imVal m ((c : Int) + 2) = m.data[c]) := hide (by
      rw [imVal, if_neg h2, show ((c : Int) + 2 - 2).toNat = c by omega]
      simp [List.getD, hcl])
    have hw2 : IntKind.i64.wrap ((c : Int) + 2 - 2) = (c : Int) := by rw [IntKind.wrap_i64]; omega
    have hcli : (c : Int) < (m.data.length : Int) := by omega
    go_enter Tryz.func104, Tryz.ntmps104
    go_upto_region 1 with fail
    revert HA HV HC
    generalize (w.alloc _) = W0
    intro HA HV HC
    obtain ⟨c0, c1, c2, c3⟩ := (unhide HV).cells
    obtain ⟨b, off, ed, hx⟩ := (unhide HC) c hcl
    rw [ed] at c3
    clear ed
    go_wp2
    go_ret
    exact ⟨ret_int (unhide HE).symm, unhide HA⟩

theorem drop_at {m : Img} {c : Nat} (hr : c < m.refs.length) (hd : c < m.data.length) : (m.refs[c] - 1 = 0 → imDrop m ((c : Int) + 2) = { m with refs := m.refs.set c (m.refs[c] - 1), data := m.data.set c 0 }) ∧ (¬ m.refs[c] - 1 = 0 → imDrop m ((c : Int) + 2) = { m with refs := m.refs.set c (m.refs[c] - 1) }) := by
  have e : ((c : Int) + 2 - 2).toNat = c := by omega
  have g : m.refs.getD c 0 = m.refs[c] := by simp [List.getD, hr]
  unfold imDrop
  rw [if_neg (by omega)]
  simp only [e, g]
  exact ⟨fun h => by rw [if_pos h], fun h => by rw [if_neg h]⟩
theorem keep_im {w w' : World} {a : Im4} {m : Img} {ts : List Value} (h : Keep (fun g => ImB a m ts g ∨ w.heap.size ≤ g) w w') (hg : ∀ g, ImB a m ts g → g < w.heap.size) : Keep (ImB a m ts) w w' :=
  ⟨h.os, h.tape, h.output, h.size, fun k hk hn => h.block k hk (fun hS => by
    rcases hS with hS | hS
    · exact hn hS
    · omega)⟩

set_option maxHeartbeats 1600000 in
theorem l10Drop_any (a : Im4) (m : Img) (ts : List Value) (B : Nat) (e : Int) (w : World) (he0 : -1000 ≤ e) (he1 : e ≤ 1000) (hr : e - 2 < m.refs.length) (hd : e - 2 < m.data.length) (hl : m.refs.length ≤ 1000 ∧ m.data.length ≤ 1000) (hv : ∀ c (h : c < m.refs.length), -1000 ≤ m.refs[c] ∧ m.refs[c] ≤ 1000) (ho : OwnIm w B a m ts) :
    Calls Tryz.prog 136 #[imV a m, .int .i64 e] w fun r w' => r = .returned (imV a m) ∧ OwnIm w' B a (imDrop m e) ts ∧ Keep (ImB a m ts) w w' := by
  have HA := hide (Joins.below_alloc2 w (.cells #[.slice a.ro m.refs.length a.rc, .slice a.tq m.table.length a.tc, .slice a.so m.snaps.length a.sc, .slice a.dq m.data.length a.dc] 26) (.cells #[.slice none 0 0, .slice none 0 0, .slice none 0 0, .slice none 0 0] 26))
  have HO := hide (ho.below (unhide HA))
  have HV := hide ((VarM.new w 26 (.slice a.ro m.refs.length a.rc) (.slice a.tq m.table.length a.tc) (.slice a.so m.snaps.length a.sc) (.slice a.dq m.data.length a.dc)).below (Joins.below_alloc1 _ (.cells #[.slice none 0 0, .slice none 0 0, .slice none 0 0, .slice none 0 0] 26)))
  have HR := hide ((VarM.new (w.alloc (.cells #[.slice a.ro m.refs.length a.rc, .slice a.tq m.table.length a.tc, .slice a.so m.snaps.length a.sc, .slice a.dq m.data.length a.dc] 26)) 26 (.slice none 0 0) (.slice none 0 0) (.slice none 0 0) (.slice none 0 0)).at (y := w.heap.size + 1) (by simp))
  have HGE : Hid (∀ g, ImB a m ts g → g < w.heap.size) := hide (fun g hg => (ho.ge g hg).2)
  clear ho
  by_cases h2 : e < 2
  · have HE : Hid (imDrop m e = m) := hide (if_pos h2)
    go_enter Tryz.func136, Tryz.ntmps136
    go_upto_region 1 with fail
    revert HA HO HV HR
    generalize ((w.alloc _).alloc _) = W0
    intro HA HO HV HR
    obtain ⟨c0, c1, c2, c3⟩ := (unhide HV).cells
    obtain ⟨r0, r1, r2, r3⟩ := (unhide HR).cells
    obtain ⟨z0, z1, z2, z3⟩ := (unhide HR).free
    have HK : Hid (Keep (fun g => ImB a m ts g ∨ w.heap.size ≤ g) w ((((W0.setCell ⟨w.heap.size + 1, 0, none⟩ (.slice a.ro m.refs.length a.rc)).setCell ⟨w.heap.size + 1, 1, none⟩ (.slice a.tq m.table.length a.tc)).setCell ⟨w.heap.size + 1, 2, none⟩ (.slice a.so m.snaps.length a.sc)).setCell ⟨w.heap.size + 1, 3, none⟩ (.slice a.dq m.data.length a.dc))) := hide (by
      have k0 : Keep (fun g => ImB a m ts g ∨ w.heap.size ≤ g) w W0 := Keep.of_below (unhide HA)
      exact (((k0.setCell (p := ⟨w.heap.size + 1, 0, none⟩) (.inr (Nat.le_succ _)) _).setCell (p := ⟨w.heap.size + 1, 1, none⟩) (.inr (Nat.le_succ _)) _).setCell (p := ⟨w.heap.size + 1, 2, none⟩) (.inr (Nat.le_succ _)) _).setCell (p := ⟨w.heap.size + 1, 3, none⟩) (.inr (Nat.le_succ _)) _)
    have HVN := hide ((((unhide HR).set0 (.slice a.ro m.refs.length a.rc)).set1 (.slice a.tq m.table.length a.tc)).set2 (.slice a.so m.snaps.length a.sc) |>.set3 (.slice a.dq m.data.length a.dc))
    have HON := hide ((unhide HO).keep (S := fun g => g = w.heap.size + 1) (((((Keep.refl (fun g => g = w.heap.size + 1) W0).setCell (p := ⟨w.heap.size + 1, 0, none⟩) rfl (.slice a.ro m.refs.length a.rc)).setCell (p := ⟨w.heap.size + 1, 1, none⟩) rfl (.slice a.tq m.table.length a.tc)).setCell (p := ⟨w.heap.size + 1, 2, none⟩) rfl (.slice a.so m.snaps.length a.sc)).setCell (p := ⟨w.heap.size + 1, 3, none⟩) rfl (.slice a.dq m.data.length a.dc)) (fun g hg he => by have := unhide HGE g hg; omega))
    go_wp2
    refine bodyPost_ret (res_im Tryz.results136 rfl (unhide HVN)) rfl ⟨rfl, ?_, ?_⟩
    · rw [unhide HE]; exact unhide HON
    · exact keep_im (unhide HK) (unhide HGE)
  · obtain ⟨c, hcc⟩ : ∃ c : Nat, e = (c : Int) + 2 := ⟨(e - 2).toNat, by omega⟩
    subst hcc
    have hcr : c < m.refs.length := by omega
    have hcd : c < m.data.length := by omega
    have hcri : (c : Int) < (m.refs.length : Int) := by omega
    have hcdi : (c : Int) < (m.data.length : Int) := by omega
    have hw2 : IntKind.i64.wrap ((c : Int) + 2 - 2) = (c : Int) := by rw [IntKind.wrap_i64]; omega
    obtain ⟨v0, v1⟩ := hv c hcr
    have HDR := hide (drop_at (m := m) hcr hcd)
    go_enter Tryz.func136, Tryz.ntmps136
    go_upto_region 1 with fail
    revert HA HO HV HR
    generalize ((w.alloc _).alloc _) = W0
    intro HA HO HV HR
    obtain ⟨g, eg, hcg, hfg, hig, hst⟩ := (unhide HO).setR hcr
    have HO1 := hide (hst (m.refs[c] - 1))
    have HK1 : Hid (Keep (ImB a m ts) W0 (W0.setCell ⟨g, c, none⟩ (.int .i64 (m.refs[c] - 1)))) := hide ((Keep.refl _ W0).setCell (p := ⟨g, c, none⟩) hig _)
    have HV1 := hide ((unhide HV).keepIm (unhide HO) (unhide HK1))
    have HR1 := hide ((unhide HR).keepIm (unhide HO) (unhide HK1))
    have hsame : (W0.setCell ⟨g, c, none⟩ (.int .i64 (m.refs[c] - 1))).cell? ⟨g, c, none⟩ = some (.int .i64 (m.refs[c] - 1)) := World.cell?_setCell_same _ _ _ hcg
    have HSM := hide hsame
    obtain ⟨c0, c1, c2, c3⟩ := (unhide HV).cells
    rw [eg] at c0
    have hw3 : IntKind.i64.wrap (m.refs[c] - 1) = m.refs[c] - 1 := by rw [IntKind.wrap_i64]; omega
    have EG := hide eg
    clear eg hst hig hsame c1 c2 c3
    have HDR' := HDR
    generalize m.refs[c] = R at *
    go_upto_region 5 with fail
    revert HO1 HK1 HV1 HR1 HSM
    generalize (W0.setCell _ _) = W1
    intro HO1 HK1 HV1 HR1 HSM
    clear c0 hcg hfg
    have hs := unhide HSM
    obtain ⟨c0, c1, c2, c3⟩ := (unhide HV1).cells
    rw [unhide EG] at c0
    have HKW : Hid (Keep (fun g => ImB a m ts g ∨ w.heap.size ≤ g) w W1) := hide ((Keep.of_below (unhide HA)).trans ((unhide HK1).mono (fun g h => .inl h)))
    by_cases hz : R - 1 = 0
    · have bz : (R - 1 == 0) = true := by simp [hz]
      obtain ⟨g2, eg2, hcg2, hfg2, hig2, hst2⟩ := (unhide HO1).setD (c := c) (by simpa using hcd)
      have HO2 := hide (hst2 0)
      have HE : Hid ({ ({ m with refs := m.refs.set c (R - 1) } : Img) with data := m.data.set c 0 } = imDrop m ((c : Int) + 2)) := hide ((unhide HDR).1 hz).symm
      have hig2' : ImB a m ts g2 := by simpa only [ImB, List.length_set] using hig2
      have HK2 : Hid (Keep (ImB a m ts) W1 (W1.setCell ⟨g2, c, none⟩ (.int .i64 0))) := hide ((Keep.refl _ W1).setCell (p := ⟨g2, c, none⟩) hig2' _)
      have hne1 : w.heap.size ≠ g2 := by have := unhide HGE g2 hig2'; omega
      have hne2 : w.heap.size + 1 ≠ g2 := by have := unhide HGE g2 hig2'; omega
      have HV2 := hide (VarM.other (unhide HV1) (p := ⟨g2, c, none⟩) hne1 (.int .i64 0))
      have HR2 := hide (VarM.other (unhide HR1) (p := ⟨g2, c, none⟩) hne2 (.int .i64 0))
      rw [eg2] at c3
      clear eg2 hst2 hig2 hz hne1 hne2
      go_upto_region 7 with fail
      revert HO2 HK2 HV2 HR2
      generalize (W1.setCell _ _) = W2
      intro HO2 HK2 HV2 HR2
      clear c0 c1 c2 c3 hs hcg2 hfg2
      obtain ⟨c0, c1, c2, c3⟩ := (unhide HV2).cells
      obtain ⟨r0, r1, r2, r3⟩ := (unhide HR2).cells
      obtain ⟨z0, z1, z2, z3⟩ := (unhide HR2).free
      have HK : Hid (Keep (fun g => ImB a m ts g ∨ w.heap.size ≤ g) w ((((W2.setCell ⟨w.heap.size + 1, 0, none⟩ (.slice a.ro m.refs.length a.rc)).setCell ⟨w.heap.size + 1, 1, none⟩ (.slice a.tq m.table.length a.tc)).setCell ⟨w.heap.size + 1, 2, none⟩ (.slice a.so m.snaps.length a.sc)).setCell ⟨w.heap.size + 1, 3, none⟩ (.slice a.dq m.data.length a.dc))) := hide (by
        have k0 := (unhide HKW).trans ((unhide HK2).mono (fun g h => .inl h))
        exact (((k0.setCell (p := ⟨w.heap.size + 1, 0, none⟩) (.inr (Nat.le_succ _)) _).setCell (p := ⟨w.heap.size + 1, 1, none⟩) (.inr (Nat.le_succ _)) _).setCell (p := ⟨w.heap.size + 1, 2, none⟩) (.inr (Nat.le_succ _)) _).setCell (p := ⟨w.heap.size + 1, 3, none⟩) (.inr (Nat.le_succ _)) _)
      have HVN := hide ((((unhide HR2).set0 (.slice a.ro m.refs.length a.rc)).set1 (.slice a.tq m.table.length a.tc)).set2 (.slice a.so m.snaps.length a.sc) |>.set3 (.slice a.dq m.data.length a.dc))
      have HON := hide ((unhide HO2).keep (S := fun g => g = w.heap.size + 1) (((((Keep.refl (fun g => g = w.heap.size + 1) W2).setCell (p := ⟨w.heap.size + 1, 0, none⟩) rfl (.slice a.ro m.refs.length a.rc)).setCell (p := ⟨w.heap.size + 1, 1, none⟩) rfl (.slice a.tq m.table.length a.tc)).setCell (p := ⟨w.heap.size + 1, 2, none⟩) rfl (.slice a.so m.snaps.length a.sc)).setCell (p := ⟨w.heap.size + 1, 3, none⟩) rfl (.slice a.dq m.data.length a.dc)) (fun g hg he => by have := unhide HGE g (by simpa only [ImB, List.length_set] using hg); omega))
      go_wp2
      refine bodyPost_ret (res_im Tryz.results136 rfl (unhide HVN)) rfl ⟨rfl, ?_, ?_⟩
      · rw [← unhide HE]; exact unhide HON
      · exact keep_im (unhide HK) (unhide HGE)
    · have bz : (R - 1 == 0) = false := by simpa using hz
      have HE : Hid (({ m with refs := m.refs.set c (R - 1) } : Img) = imDrop m ((c : Int) + 2)) := hide ((unhide HDR).2 hz).symm
      obtain ⟨r0, r1, r2, r3⟩ := (unhide HR1).cells
      obtain ⟨z0, z1, z2, z3⟩ := (unhide HR1).free
      clear hz
      go_upto_region 7 with fail
      clear c0 hs
      obtain ⟨c0, _, _, _⟩ := (unhide HV1).cells
      have HK : Hid (Keep (fun g => ImB a m ts g ∨ w.heap.size ≤ g) w ((((W1.setCell ⟨w.heap.size + 1, 0, none⟩ (.slice a.ro m.refs.length a.rc)).setCell ⟨w.heap.size + 1, 1, none⟩ (.slice a.tq m.table.length a.tc)).setCell ⟨w.heap.size + 1, 2, none⟩ (.slice a.so m.snaps.length a.sc)).setCell ⟨w.heap.size + 1, 3, none⟩ (.slice a.dq m.data.length a.dc))) := hide (by
        have k0 := unhide HKW
        exact (((k0.setCell (p := ⟨w.heap.size + 1, 0, none⟩) (.inr (Nat.le_succ _)) _).setCell (p := ⟨w.heap.size + 1, 1, none⟩) (.inr (Nat.le_succ _)) _).setCell (p := ⟨w.heap.size + 1, 2, none⟩) (.inr (Nat.le_succ _)) _).setCell (p := ⟨w.heap.size + 1, 3, none⟩) (.inr (Nat.le_succ _)) _)
      have HVN := hide ((((unhide HR1).set0 (.slice a.ro m.refs.length a.rc)).set1 (.slice a.tq m.table.length a.tc)).set2 (.slice a.so m.snaps.length a.sc) |>.set3 (.slice a.dq m.data.length a.dc))
      have HON := hide ((unhide HO1).keep (S := fun g => g = w.heap.size + 1) (((((Keep.refl (fun g => g = w.heap.size + 1) W1).setCell (p := ⟨w.heap.size + 1, 0, none⟩) rfl (.slice a.ro m.refs.length a.rc)).setCell (p := ⟨w.heap.size + 1, 1, none⟩) rfl (.slice a.tq m.table.length a.tc)).setCell (p := ⟨w.heap.size + 1, 2, none⟩) rfl (.slice a.so m.snaps.length a.sc)).setCell (p := ⟨w.heap.size + 1, 3, none⟩) rfl (.slice a.dq m.data.length a.dc)) (fun g hg he => by have := unhide HGE g (by simpa only [ImB, List.length_set] using hg); omega))
      go_wp2
      refine bodyPost_ret (res_im Tryz.results136 rfl (unhide HVN)) rfl ⟨rfl, ?_, ?_⟩
      · rw [← unhide HE]; exact unhide HON
      · exact keep_im (unhide HK) (unhide HGE)

end Go.Proofs.YtbmkdbccdnbbjaaGreatDoor

namespace Go.Proofs.YtbmkdbccdnbbjaaGreatDoor
open Go.RowKit
set_option linter.unusedVariables false
set_option maxRecDepth 100000

structure ImQ (w W : World) (B : Nat) (a : Im4) (m0 m : Img) (ts : List Value) : Prop where
  v : VarM W w.heap.size 26 (.slice a.ro m0.refs.length a.rc) (.slice a.tq m0.table.length a.tc) (.slice a.so m0.snaps.length a.sc) (.slice a.dq m0.data.length a.dc)
  r : VarM W (w.heap.size + 1) 26 (.slice none 0 0) (.slice none 0 0) (.slice none 0 0) (.slice none 0 0)
  o : OwnIm W B a m ts
  b : Below w.heap.size w W
  hB : w.heap.size + 2 ≤ B
  e1 : m.refs.length = m0.refs.length
  e2 : m.table.length = m0.table.length
  e3 : m.snaps.length = m0.snaps.length
  e4 : m.data.length = m0.data.length
theorem ImQ.val {w W : World} {B : Nat} {a : Im4} {m0 m : Img} {ts : List Value} (h : ImQ w W B a m0 m ts) : imV a m0 = imV a m := by rw [imV, imV, h.e1, h.e2, h.e3, h.e4]

abbrev putI (W : World) (x : Nat) (a : Im4) (m : Img) : World := (((W.setCell ⟨x, 0, none⟩ (.slice a.ro m.refs.length a.rc)).setCell ⟨x, 1, none⟩ (.slice a.tq m.table.length a.tc)).setCell ⟨x, 2, none⟩ (.slice a.so m.snaps.length a.sc)).setCell ⟨x, 3, none⟩ (.slice a.dq m.data.length a.dc)
theorem ImQ.put {w W : World} {B : Nat} {v0 v1 v2 v3 : Value} {a : Im4} {m0 m : Img} {ts : List Value} (hv : VarM W w.heap.size 26 v0 v1 v2 v3) (hr : VarM W (w.heap.size + 1) 26 (.slice none 0 0) (.slice none 0 0) (.slice none 0 0) (.slice none 0 0)) (ho : OwnIm W B a m ts) (hb : Below w.heap.size w W) (hB : w.heap.size + 2 ≤ B) (e1 : m.refs.length = m0.refs.length) (e2 : m.table.length = m0.table.length) (e3 : m.snaps.length = m0.snaps.length) (e4 : m.data.length = m0.data.length) : ImQ w (putI W w.heap.size a m0) B a m0 m ts := by
  obtain ⟨h1, h2, h3⟩ := ImSt.put hv ho hb (Nat.le_refl _) (by omega) a m0
  exact ⟨h1, (((hr.other (p := ⟨w.heap.size, 0, none⟩) (by simp) _).other (p := ⟨w.heap.size, 1, none⟩) (by simp) _).other (p := ⟨w.heap.size, 2, none⟩) (by simp) _).other (p := ⟨w.heap.size, 3, none⟩) (by simp) _, h2, h3, hB, e1, e2, e3, e4⟩
theorem ImQ.again {w W : World} {B : Nat} {a : Im4} {m0 m : Img} {ts : List Value} (h : ImQ w W B a m0 m ts) : ImQ w (putI W w.heap.size a m0) B a m0 m ts := ImQ.put h.v h.r h.o h.b h.hB h.e1 h.e2 h.e3 h.e4
theorem ImQ.fin {w W : World} {B : Nat} {a : Im4} {m0 m : Img} {ts : List Value} (h : ImQ w W B a m0 m ts) : VarM (putI W (w.heap.size + 1) a m0) (w.heap.size + 1) 26 (.slice a.ro m0.refs.length a.rc) (.slice a.tq m0.table.length a.tc) (.slice a.so m0.snaps.length a.sc) (.slice a.dq m0.data.length a.dc) ∧ OwnIm (putI W (w.heap.size + 1) a m0) w.heap.size a m ts ∧ Below w.heap.size w (putI W (w.heap.size + 1) a m0) := by
  obtain ⟨h1, h2, h3⟩ := ImSt.put h.r h.o h.b (Nat.le_succ _) (by have := h.hB; omega) a m0
  exact ⟨h1, h2.base (by have := h.hB; omega), h3⟩
theorem ImQ.turn {w W W' : World} {B : Nat} {a : Im4} {m0 m m' : Img} {ts : List Value} (h : ImQ w W B a m0 m ts) (hk : Keep (ImB a m ts) W W') (ho : OwnIm W' B a m' ts) (e1 : m'.refs.length = m.refs.length) (e2 : m'.table.length = m.table.length) (e3 : m'.snaps.length = m.snaps.length) (e4 : m'.data.length = m.data.length) : ImQ w W' B a m0 m' ts :=
  ⟨h.v.keepIm h.o hk, h.r.keepIm h.o hk, ho, h.b.trans (hk.below h.b.size (fun g hg => by have := (h.o.ge g hg).1; have := h.hB; omega)), h.hB, e1.trans h.e1, e2.trans h.e2, e3.trans h.e3, e4.trans h.e4⟩
theorem ImQ.setR {w W : World} {B c : Nat} {a : Im4} {m0 m : Img} {ts : List Value} (h : ImQ w W B a m0 m ts) (hc : c < m.refs.length) : ∃ g, a.ro = some ⟨g, 0, none⟩ ∧ W.cell? ⟨g, c, none⟩ = some (.int .i64 m.refs[c]) ∧ W.frozen? ⟨g, c, none⟩ = false ∧ ∀ y, ImQ w (W.setCell ⟨g, c, none⟩ (.int .i64 y)) B a m0 { m with refs := m.refs.set c y } ts := by
  obtain ⟨g, e, h1, h2, h3, h4⟩ := h.o.setR hc
  exact ⟨g, e, h1, h2, fun y => h.turn ((Keep.refl _ W).setCell (p := ⟨g, c, none⟩) h3 _) (h4 y) (by simp) rfl rfl rfl⟩
theorem ImQ.setT {w W : World} {B c : Nat} {a : Im4} {m0 m : Img} {ts : List Value} (h : ImQ w W B a m0 m ts) (hc : c < m.table.length) : ∃ g, a.tq = some ⟨g, 0, none⟩ ∧ W.cell? ⟨g, c, none⟩ = some (.int .i64 m.table[c]) ∧ W.frozen? ⟨g, c, none⟩ = false ∧ ∀ y, ImQ w (W.setCell ⟨g, c, none⟩ (.int .i64 y)) B a m0 { m with table := m.table.set c y } ts := by
  obtain ⟨g, e, h1, h2, h3, h4⟩ := h.o.setT hc
  exact ⟨g, e, h1, h2, fun y => h.turn ((Keep.refl _ W).setCell (p := ⟨g, c, none⟩) h3 _) (h4 y) rfl (by simp) rfl rfl⟩
theorem ImQ.setD {w W : World} {B c : Nat} {a : Im4} {m0 m : Img} {ts : List Value} (h : ImQ w W B a m0 m ts) (hc : c < m.data.length) : ∃ g, a.dq = some ⟨g, 0, none⟩ ∧ W.cell? ⟨g, c, none⟩ = some (.int .i64 m.data[c]) ∧ W.frozen? ⟨g, c, none⟩ = false ∧ ∀ y, ImQ w (W.setCell ⟨g, c, none⟩ (.int .i64 y)) B a m0 { m with data := m.data.set c y } ts := by
  obtain ⟨g, e, h1, h2, h3, h4⟩ := h.o.setD hc
  exact ⟨g, e, h1, h2, fun y => h.turn ((Keep.refl _ W).setCell (p := ⟨g, c, none⟩) h3 _) (h4 y) rfl rfl rfl (by simp)⟩
theorem imDrop_lens (m : Img) (e : Int) : (imDrop m e).refs.length = m.refs.length ∧ (imDrop m e).table.length = m.table.length ∧ (imDrop m e).snaps.length = m.snaps.length ∧ (imDrop m e).data.length = m.data.length := ⟨imDrop_refs m e, by rw [(imDrop_table m e).1], by rw [(imDrop_table m e).2], imDrop_data m e⟩

structure ImM (m : Img) : Prop where
  r : m.refs.length = 24
  d : m.data.length = 24
  t : m.table.length ≤ 12
  s : m.snaps.length ≤ 3
  st : ∀ s ∈ m.snaps, s.table.length ≤ 12 ∧ s.name.size ≤ 6
  tv : ∀ i (h : i < m.table.length), 0 ≤ m.table[i] ∧ m.table[i] ≤ 25
  sv : ∀ s ∈ m.snaps, ∀ i (h : i < s.table.length), 0 ≤ s.table[i] ∧ s.table[i] ≤ 25
  rv : ∀ c (h : c < m.refs.length), 0 ≤ m.refs[c] ∧ m.refs[c] ≤ 15
theorem ImR.M {m : Img} (h : ImR m) : ImM m := by
  refine ⟨ctB_len h.refs, h.len, tbB_len h.table, h.few, fun s hs => ⟨tbB_len (h.snaps s hs).2, ?_⟩, tbB_at h.table, fun s hs => tbB_at (h.snaps s hs).2, ctB_at h.refs⟩
  have := (h.snaps s hs).1
  simp only [snmB, Bool.and_eq_true] at this
  have := betw_iff.1 this.2
  omega
theorem ImM.L {m : Img} (h : ImM m) : ImL m := ⟨by rw [h.r]; unfold maxLen; omega, by have := h.t; unfold maxLen; omega, by have := h.s; unfold maxLen; omega, by rw [h.d]; unfold maxLen; omega⟩
theorem ImM.zs {m : Img} (h : ImM m) : ∀ s ∈ m.snaps, s.name.size ≤ maxLen ∧ s.table.length ≤ maxLen := fun s hs => by have := h.st s hs; unfold maxLen; omega
theorem l10Own_M (a : Im4) (m : Img) (w : World) (hM : ImM m) (hc : ImS w a m) :
    Calls Tryz.prog 45 #[imV a m] w fun e w' => ∃ a' ts, e = .returned (imV a' m) ∧ OwnIm w' w.heap.size a' m ts ∧ Below w.heap.size w w' :=
  l10Own_any a m w ⟨by rw [hM.r]; omega, by have := hM.t; omega, by rw [hM.d]; omega⟩ (fun s hs => by have := (hM.st s hs).1; omega) (by have := hM.s; omega) hc
theorem l10Own_F (a : Im4) (m : Img) (w : World) (hM : ImM m) (hc : ImS w a m) :
    Calls Tryz.prog 45 #[imV a m] w fun e w' => ∃ a' ts, e = .returned (imV a' m) ∧ OwnF w' w.heap.size a' m ts ∧ Below w.heap.size w w' :=
  l10Own_full a m w ⟨by rw [hM.r]; omega, by have := hM.t; omega, by rw [hM.d]; omega⟩ (fun s hs => by have := (hM.st s hs).1; omega) (by have := hM.s; omega) hc
theorem l10Drop_M (a : Im4) (m : Img) (ts : List Value) (B : Nat) (e : Int) (w : World) (he0 : 0 ≤ e) (he1 : e ≤ 25) (hr : m.refs.length = 24) (hd : m.data.length = 24) (hv : ∀ c (h : c < m.refs.length), -1000 ≤ m.refs[c] ∧ m.refs[c] ≤ 1000) (ho : OwnIm w B a m ts) :
    Calls Tryz.prog 136 #[imV a m, .int .i64 e] w fun r w' => r = .returned (imV a m) ∧ OwnIm w' B a (imDrop m e) ts ∧ Keep (ImB a m ts) w w' :=
  l10Drop_any a m ts B e w (by omega) (by omega) (by rw [hr]; omega) (by rw [hd]; omega) ⟨by omega, by omega⟩ hv ho

theorem imWrite_in {m : Img} {g c : Nat} {v : Int} (hg : g < m.table.length) (hc : m.table[g] = (c : Int) + 2) (hr : c < m.refs.length) (h1 : m.refs[c] = 1) : imWrite m g v = ({ m with data := m.data.set c v }, 0) := by
  have e : m.table.getD g 0 = (c : Int) + 2 := by simp [List.getD, hg, hc]
  have e2 : ((c : Int) + 2 - 2).toNat = c := by omega
  have e3 : m.refs.getD c 0 = 1 := by simp [List.getD, hr, h1]
  unfold imWrite
  simp only [e, e2, e3]
  rw [if_pos ⟨by omega, trivial⟩]
theorem imWrite_out {m : Img} {g : Nat} {v : Int} (hg : g < m.table.length) (hn : ¬ (2 ≤ m.table[g] ∧ m.refs.getD (m.table[g] - 2).toNat 0 = 1)) : imWrite m g v = if frN m.refs < m.refs.length then ({ imDrop m m.table[g] with refs := (imDrop m m.table[g]).refs.set (frN m.refs) 1, data := (imDrop m m.table[g]).data.set (frN m.refs) v, table := (imDrop m m.table[g]).table.set g (2 + (frN m.refs : Int)) }, 0) else (m, 7) := by
  have e : m.table.getD g 0 = m.table[g] := by simp [List.getD, hg]
  unfold imWrite
  simp only [e]
  rw [if_neg hn]

set_option maxHeartbeats 1600000 in
theorem l10Write_R (a : Im4) (m : Img) (g : Nat) (v : Int) (R : Img × Int) (w : World) (hR : R = imWrite m g v) (hM : ImM m) (hg : g < m.table.length) (hc : ImS w a m) :
    Calls Tryz.prog 73 #[imV a m, .int .i64 g, .int .i64 v] w fun e w' => ∃ a' ts, e = .returned (.tuple #[imV a' R.1, .int .i64 R.2]) ∧ OwnIm w' w.heap.size a' R.1 ts ∧ Below w.heap.size w w' := by
  have HA := hide (Joins.below_alloc2 w (.cells #[.slice a.ro m.refs.length a.rc, .slice a.tq m.table.length a.tc, .slice a.so m.snaps.length a.sc, .slice a.dq m.data.length a.dc] 26) (.cells #[.slice none 0 0, .slice none 0 0, .slice none 0 0, .slice none 0 0] 26))
  have HC := hide (hc.below (unhide HA))
  have HV := hide ((VarM.new w 26 (.slice a.ro m.refs.length a.rc) (.slice a.tq m.table.length a.tc) (.slice a.so m.snaps.length a.sc) (.slice a.dq m.data.length a.dc)).below (Joins.below_alloc1 _ (.cells #[.slice none 0 0, .slice none 0 0, .slice none 0 0, .slice none 0 0] 26)))
  have HR := hide ((VarM.new (w.alloc (.cells #[.slice a.ro m.refs.length a.rc, .slice a.tq m.table.length a.tc, .slice a.so m.snaps.length a.sc, .slice a.dq m.data.length a.dc] 26)) 26 (.slice none 0 0) (.slice none 0 0) (.slice none 0 0) (.slice none 0 0)).at (y := w.heap.size + 1) (by simp))
  have HM := hide hM
  have hgi : (g : Int) < (m.table.length : Int) := by omega
  have HT12 := hide hM.t
  have HWI : Hid (∀ c (hr : c < m.refs.length), m.table[g] = (c : Int) + 2 → m.refs[c] = 1 → R = ({ m with data := m.data.set c v }, 0)) := hide (fun c hr e h1 => hR.trans (imWrite_in hg e hr h1))
  have HWO := hide (fun hin => hR.trans (imWrite_out (v := v) hg hin))
  clear hc hM hR
  go_enter Tryz.func73, Tryz.ntmps73
  go_upto_region 1 with fail
  revert HA HC HV HR
  generalize ((w.alloc _).alloc _) = W0
  intro HA HC HV HR
  obtain ⟨c0, c1, c2, c3⟩ := (unhide HV).cells
  go_wp2_with fail
  refine (l10Own_M a m _ (unhide HM) (unhide HC)).mono ?_
  rintro e w1 ⟨b, ts, rfl, ho, hb⟩
  have HQ := hide (ImQ.put (w := w) ((unhide HV).below hb) ((unhide HR).below hb) ho (fr (unhide HA) hb) (by have := (unhide HR).lt; omega) (m0 := m) rfl rfl rfl rfl)
  unfold putI at HQ
  obtain ⟨x0, x1, x2, x3⟩ := ((unhide HV).below hb).cells
  obtain ⟨z0, z1, z2, z3⟩ := ((unhide HV).below hb).free
  clear c0 c1 c2 c3 ho hb HV HR HC HA
  go_upto_region 2 with fail
  clear x0 x1 x2 x3 z0 z1 z2 z3
  revert HQ
  generalize (((w1.setCell _ _).setCell _ _).setCell _ _).setCell _ _ = W1
  intro HQ
  obtain ⟨c0, c1, c2, c3⟩ := (unhide HQ).v.cells
  obtain ⟨gt, et, hct, hft, hst⟩ := (unhide HQ).setT hg
  rw [et] at c1
  have ET := hide et
  clear et hst
  obtain ⟨t0, t1⟩ := (unhide HM).tv g hg
  have HTG : Hid (∃ T, T = m.table[g]) := hide ⟨_, rfl⟩
  by_cases hin : 2 ≤ m.table[g] ∧ m.refs.getD (m.table[g] - 2).toNat 0 = 1
  · obtain ⟨c, hcc⟩ : ∃ c : Nat, m.table[g] = (c : Int) + 2 := ⟨(m.table[g] - 2).toNat, by omega⟩
    have hcr : c < m.refs.length := by rw [(unhide HM).r]; omega
    have hcd : c < m.data.length := by rw [(unhide HM).d]; omega
    have hcri : (c : Int) < (m.refs.length : Int) := by omega
    have hcdi : (c : Int) < (m.data.length : Int) := by omega
    have h1 : m.refs[c] = 1 := by
      have := hin.2
      rw [hcc, show ((c : Int) + 2 - 2).toNat = c by omega] at this
      simpa [List.getD, hcr] using this
    have HWR := hide (unhide HWI c hcr hcc h1)
    obtain ⟨gr, er, hcr', hfr, _⟩ := (unhide HQ).setR hcr
    obtain ⟨gd, ed, hcd', hfd, hsd⟩ := (unhide HQ).setD hcd
    rw [h1] at hcr'
    rw [hcc] at hct
    rw [er] at c0
    rw [ed] at c3
    have HQ2 := hide (hsd v)
    have hcb : (c : Int) ≤ 23 := by omega
    have hwc : IntKind.i64.wrap (c : Int) = (c : Int) := by rw [IntKind.wrap_i64]; omega
    have hge : (2 : Int) ≤ (c : Int) + 2 := by omega
    clear hin hcc h1 er ed hsd c2 t0 t1
    go_upto_region 5 with fail
    revert HQ2
    generalize (W1.setCell _ _) = W2
    intro HQ2
    clear c0 c1 c3 hct hft hcr' hfr hcd' hfd
    have HF := hide (unhide HQ2).fin
    obtain ⟨c0, c1, c2, c3⟩ := (unhide HQ2).v.cells
    obtain ⟨r0, r1, r2, r3⟩ := (unhide HQ2).r.cells
    obtain ⟨z0, z1, z2, z3⟩ := (unhide HQ2).r.free
    go_wp2
    refine bodyPost_ret (res_ic Tryz.results73 rfl rfl (unhide HF).1) rfl ?_
    rw [unhide HWR]
    first | exact ⟨b, ts, ret_mi (unhide HQ2).val rfl, (unhide HF).2.1, (unhide HF).2.2⟩ | exact ⟨b, ret_mi (unhide HQ2).val rfl, ⟨ts, (unhide HF).2.1⟩, (unhide HF).2.2⟩
  · have HWR := hide (unhide HWO hin)
    have HRI := hide (ownRN ((unhide HQ).o.rows.own (.slice b.ro m.refs.length b.rc, m.refs) (by simp [imRows])).row)
    have HRM := hide (unhide HM).L.r
    have HTV : Hid (0 ≤ m.table[g] ∧ m.table[g] ≤ 25) := hide ⟨t0, t1⟩
    by_cases hge : 2 ≤ m.table[g]
    obtain ⟨c, hcc⟩ : ∃ c : Nat, m.table[g] = (c : Int) + 2 := ⟨(m.table[g] - 2).toNat, by omega⟩
    have hcr : c < m.refs.length := by rw [(unhide HM).r]; omega
    have hcri : (c : Int) < (m.refs.length : Int) := by omega
    have be : (m.refs[c] == 1) = false := by
      rw [beq_eq_false_iff_ne]
      intro h1
      refine hin ⟨hge, ?_⟩
      rw [hcc, show ((c : Int) + 2 - 2).toNat = c by omega]
      simpa [List.getD, hcr] using h1
    obtain ⟨gr, er, hcr', hfr, _⟩ := (unhide HQ).setR hcr
    have HCC := hide hcc
    rw [hcc] at hct
    rw [er] at c0
    have hcb : (c : Int) ≤ 23 := by omega
    have hwc : IntKind.i64.wrap (c : Int) = (c : Int) := by rw [IntKind.wrap_i64]; omega
    have hge' : (2 : Int) ≤ (c : Int) + 2 := by omega
    clear hin er t0 t1 hge hcc
    generalize m.refs[c] = R at *
    go_upto_region 6 with fail
    rw [← unhide HCC]
    clear c0 c1 c2 c3 hct hft hcr' hfr be hcb hwc hge' hcri hcr HCC
    rotate_left
    generalize hTT : m.table[g] = T at *
    have HTT := hide hTT
    clear hTT
    go_upto_region 6 with fail
    rw [← unhide HTT]
    rw [← unhide HTT] at HTV HWR
    clear c0 c1 c2 c3 hct hft HTT hge
    all_goals
      obtain ⟨c0, c1, c2, c3⟩ := (unhide HQ).v.cells
      by_cases hf : frN m.refs < m.refs.length
      · have HFR : Hid (frI m.refs = (frN m.refs : Int)) := hide (if_pos hf)
        rw [if_pos hf] at HWR
        have HF24 : Hid (frN m.refs < 24) := hide (by have := (unhide HM).r; omega)
        generalize frN m.refs = q at *
        have hq24 := unhide HF24
        go_wp2_with (first | (go_at_call 138; refine (l08Free_any b.ro b.rc m.refs _ (unhide HRM) (unhide HRI)).mono ?_; rintro e w' ⟨rfl, hw⟩; replace hw := hw.symm; subst hw; rw [unhide HFR]) | fail)
        refine (l10Drop_M b m ts _ m.table[g] _ (unhide HTV).1 (unhide HTV).2 (unhide HM).r (unhide HM).d (fun c h => by have := (unhide HM).rv c h; omega) (unhide HQ).o).mono ?_
        rintro e w3 ⟨rfl, ho3, hk3⟩
        have HQ3 := hide ((unhide HQ).turn hk3 ho3 (imDrop_lens _ _).1 (imDrop_lens _ _).2.1 (imDrop_lens _ _).2.2.1 (imDrop_lens _ _).2.2.2)
        have HD24 : Hid ((imDrop m m.table[g]).refs.length = 24 ∧ (imDrop m m.table[g]).data.length = 24 ∧ g < (imDrop m m.table[g]).table.length) := hide ⟨(imDrop_lens _ _).1.trans (unhide HM).r, (imDrop_lens _ _).2.2.2.trans (unhide HM).d, by rw [(imDrop_lens _ _).2.1]; exact hg⟩
        clear ho3 hk3 c0 c1 c2 c3 HRI
        generalize imDrop m m.table[g] = D at *
        have HQ4 := hide (unhide HQ3).again
        unfold putI at HQ4
        obtain ⟨c0, c1, c2, c3⟩ := (unhide HQ3).v.cells
        obtain ⟨z0, z1, z2, z3⟩ := (unhide HQ3).v.free
        have HR24 := hide (unhide HM).r
        have HD24' := hide (unhide HM).d
        go_upto_region 10 with fail
        clear c0 c1 c2 c3 z0 z1 z2 z3
        revert HQ4
        generalize (((w3.setCell _ _).setCell _ _).setCell _ _).setCell _ _ = W4
        intro HQ4
        obtain ⟨c0, c1, c2, c3⟩ := (unhide HQ4).v.cells
        have hqr : (q : Int) < (m.refs.length : Int) := by have := unhide HR24; omega
        have hqd : (q : Int) < (m.data.length : Int) := by have := unhide HD24'; omega
        obtain ⟨g1, e1, hc1, hf1, hs1⟩ := (unhide HQ4).setR (c := q) (by rw [(unhide HD24).1]; omega)
        have HQ5 := hide (hs1 1)
        rw [e1] at c0
        clear e1 hs1
        go_upto_region 11 with fail
        clear c0 c1 c2 c3 hc1 hf1
        revert HQ5
        generalize (W4.setCell _ _) = W5
        intro HQ5
        obtain ⟨c0, c1, c2, c3⟩ := (unhide HQ5).v.cells
        obtain ⟨g2, e2, hc2, hf2, hs2⟩ := (unhide HQ5).setD (c := q) (by show q < D.data.length; rw [(unhide HD24).2.1]; omega)
        have HQ6 := hide (hs2 v)
        rw [e2] at c3
        clear e2 hs2
        go_upto_region 12 with fail
        clear c0 c1 c2 c3 hc2 hf2
        revert HQ6
        generalize (W5.setCell _ _) = W6
        intro HQ6
        obtain ⟨c0, c1, c2, c3⟩ := (unhide HQ6).v.cells
        obtain ⟨g3, e3, hc3, hf3, hs3⟩ := (unhide HQ6).setT (c := g) (unhide HD24).2.2
        have HQ7 := hide (hs3 (2 + (q : Int)))
        rw [e3] at c1
        have hw9 : IntKind.i64.wrap (2 + (q : Int)) = 2 + (q : Int) := by rw [IntKind.wrap_i64]; omega
        clear e3 hs3
        go_upto_region 13 with fail
        clear c0 c1 c2 c3 hc3 hf3
        revert HQ7
        generalize (W6.setCell _ _) = W7
        intro HQ7
        have HF := hide (unhide HQ7).fin
        obtain ⟨c0, c1, c2, c3⟩ := (unhide HQ7).v.cells
        obtain ⟨r0, r1, r2, r3⟩ := (unhide HQ7).r.cells
        obtain ⟨z0, z1, z2, z3⟩ := (unhide HQ7).r.free
        go_wp2
        refine bodyPost_ret (res_ic Tryz.results73 rfl rfl (unhide HF).1) rfl ?_
        rw [unhide HWR]
        first | exact ⟨b, ts, ret_mi (unhide HQ7).val rfl, (unhide HF).2.1, (unhide HF).2.2⟩ | exact ⟨b, ret_mi (unhide HQ7).val rfl, ⟨ts, (unhide HF).2.1⟩, (unhide HF).2.2⟩
      · have HFR : Hid (frI m.refs = -1) := hide (if_neg hf)
        rw [if_neg hf] at HWR
        have HF := hide (unhide HQ).fin
        obtain ⟨r0, r1, r2, r3⟩ := (unhide HQ).r.cells
        obtain ⟨z0, z1, z2, z3⟩ := (unhide HQ).r.free
        go_wp2_with (go_at_call 138; refine (l08Free_any b.ro b.rc m.refs _ (unhide HRM) (unhide HRI)).mono ?_; rintro e w' ⟨rfl, hw⟩; replace hw := hw.symm; subst hw; rw [unhide HFR])
        refine bodyPost_ret (res_ic Tryz.results73 rfl rfl (unhide HF).1) rfl ?_
        rw [unhide HWR]
        first | exact ⟨b, ts, rfl, (unhide HF).2.1, (unhide HF).2.2⟩ | exact ⟨b, rfl, ⟨ts, (unhide HF).2.1⟩, (unhide HF).2.2⟩

end Go.Proofs.YtbmkdbccdnbbjaaGreatDoor

namespace Go.Proofs.YtbmkdbccdnbbjaaGreatDoor
open Go.RowKit
set_option linter.unusedVariables false

section
variable {P : Program} {ops : Array Oper}
end

end Go.Proofs.YtbmkdbccdnbbjaaGreatDoor

namespace Go.Proofs.YtbmkdbccdnbbjaaGreatDoor
open Go.RowKit
set_option linter.unusedVariables false
set_option maxRecDepth 100000

structure ImE (w W : World) (a : Im4) (m : Img) : Prop where
  v : VarM W w.heap.size 26 (.slice a.ro m.refs.length a.rc) (.slice a.tq m.table.length a.tc) (.slice a.so m.snaps.length a.sc) (.slice a.dq m.data.length a.dc)
  r : VarM W (w.heap.size + 1) 26 (.slice none 0 0) (.slice none 0 0) (.slice none 0 0) (.slice none 0 0)
  s : ImS W a m
  b : Below w.heap.size w W
theorem ImE.new (w : World) (a : Im4) (m : Img) (h : ImS w a m) : ImE w ((w.alloc (.cells #[.slice a.ro m.refs.length a.rc, .slice a.tq m.table.length a.tc, .slice a.so m.snaps.length a.sc, .slice a.dq m.data.length a.dc] 26)).alloc (.cells #[.slice none 0 0, .slice none 0 0, .slice none 0 0, .slice none 0 0] 26)) a m :=
  ⟨(VarM.new w _ _ _ _ _).below (Joins.below_alloc1 _ _), (VarM.new (w.alloc _) _ _ _ _ _).at (by simp), h.below (Joins.below_alloc2 _ _ _), Joins.below_alloc2 _ _ _⟩
def AnsI (w w' : World) (e : Ending) (R : Img × Int) : Prop := ∃ a ts, e = .returned (.tuple #[imV a R.1, .int .i64 R.2]) ∧ OwnIm w' w.heap.size a R.1 ts ∧ Below w.heap.size w w'
theorem AnsI.of {w w' : World} {v : Value} {c : Int} {R : Img × Int} {a : Im4} {ts : List Value} (hv : v = imV a R.1) (hc : c = R.2) (ho : OwnIm w' w.heap.size a R.1 ts) (hb : Below w.heap.size w w') : AnsI w w' (.returned (.tuple #[v, .int .i64 c])) R := ⟨a, ts, by rw [hv, hc], ho, hb⟩
theorem AnsI.bad {w w' : World} (c : Int) (hb : Below w.heap.size w w') : AnsI w w' (.returned (.tuple #[.agg #[.slice none 0 0, .slice none 0 0, .slice none 0 0, .slice none 0 0], .int .i64 c])) (im0, c) := ⟨⟨none, 0, none, 0, none, 0, none, 0⟩, [], rfl, OwnIm.zero _ _, hb⟩

end Go.Proofs.YtbmkdbccdnbbjaaGreatDoor
