import Derived.Test.YtjjkppknojecjaaGreatDoorRows
import Derived.Test.YtjjkppknojecjaaGreatDoorXWorldAgreesPart1
import Derived.Test.YtjjkppknojecjaaGreatDoorXWorldAgreesPart2
import Derived.Test.YtjjkppknojecjaaGreatDoorXWorldAgreesPart4
import Derived.Test.YtjjkppknojecjaaGreatDoorXWorldAgreesPart15
import Derived.WalkKit
import Derived.WalkSpells
import Derived.KernelRfl
import Derived.LoopN
import Derived.BigQuiet
import Derived.Deep.QuietTactic
import Derived.Deep.RegionWith
import Derived.Test.YtjjkppknojecjaaGreatDoorXWorldAgreesPart16
import Derived.Test.YtjjkppknojecjaaGreatDoorXWorldAgreesPart14
import Derived.Test.YtjjkppknojecjaaGreatDoorXWorldAgreesPart9
import Derived.Test.YtjjkppknojecjaaGreatDoorXWorldAgreesPart6
import Derived.Test.YtjjkppknojecjaaGreatDoorXWorldAgreesPart7

namespace Go.Proofs.YtjjkppknojecjaaGreatDoor
open Go.RowKit
set_option linter.unusedVariables false
set_option maxRecDepth 100000

set_option maxHeartbeats 800000 in
theorem l14Same_draws (ao bo : Option Addr) (ca cb : Nat) (ss tt : List Int) (w : World) (hl : ss.length ≤ maxLen) (hc : Is w ao ss) (hd : Is w bo tt) :
    Calls Tryz.prog 46 #[.slice ao ss.length ca, .slice bo tt.length cb] w fun e w' => e = .returned (.bool (eqNB ss tt)) ∧ ∃ m, w' = w.drewN m := by
  have HC := hide hc
  have HD := hide hd
  clear hc hd
  unfold maxLen at hl
  by_cases hle : ss.length = tt.length
  · have hb : ((ss.length : Int) != (tt.length : Int)) = false := by simp [hle]
    have HLE := hide hle
    clear hle
    go_enter Tryz.func46, Tryz.ntmps46
    go_wp2
    go_loopw [5] (fun i wr => ∃ (k n : Nat), k ≤ ss.length ∧ i = .int .i64 k ∧ Hid (∀ j (h : j < ss.length) (h' : j < tt.length), j < k → ss[j] = tt[j]) ∧ wr = w.drewN n) (fun i _ => ss.length - (intOf i).toNat)
    case atStart => exact ⟨0, 0, Nat.zero_le _, rfl, hide (fun j _ _ h => by omega), rfl⟩
    case round =>
      obtain ⟨k, n, hk, rfl, HA, rfl⟩ := hrel
      by_cases hlt : k < ss.length
      · have hlt' : k < tt.length := by rw [← unhide HLE]; exact hlt
        obtain ⟨b, off, rfl, hc⟩ := (unhide HC) k hlt
        obtain ⟨b', off', rfl, hc'⟩ := (unhide HD) k hlt'
        by_cases he : ss[k] = tt[k]
        · have HN := hide (eq_succ hlt hlt' (unhide HA) he)
          have be : (ss[k] != tt[k]) = false := by simp [he]
          clear he
          go_wp2
          go_quiet (fail)
          go_wp2
          go_roundw
          case rel => exact ⟨k + 1, _, by omega, by go_num, HN, rfl⟩
          case measure => simp [intOf]; omega
        · have H := hide (eqNB_false hlt hlt' he)
          have be : (ss[k] != tt[k]) = true := by simp [he]
          clear he
          go_wp2
          go_quiet (fail)
          go_wp2
          go_ret
          exact ⟨ret_bool (unhide H).symm, n + nq, by simp⟩
      · have H := hide (eqNB_true (unhide HLE) (fun j h h' => unhide HA j h h' (by omega)))
        go_wp2
        go_ret
        exact ⟨ret_bool (unhide H).symm, n, rfl⟩
  · have hb : ((ss.length : Int) != (tt.length : Int)) = true := by simp; omega
    have H := hide (eqNB_false_len hle)
    clear hle
    go_enter Tryz.func46, Tryz.ntmps46
    go_wp2
    go_ret
    exact ⟨ret_bool (unhide H).symm, 0, rfl⟩

set_option maxHeartbeats 3200000 in
theorem sameGuest_spec (a b : Gs4) (g h : Gst) (w : World) (hg : GsL g) (hh : GsL h) (h1 : GsS w a g) (h2 : GsS w b h) :
    Calls Tryz.prog 15 #[gsV a g, gsV b h] w fun e w' => e = .returned (.bool (gsEq g h)) ∧ Below w.heap.size w w' := by
  have HA := hide (Joins.below_alloc2 w (.cells #[.slice a.vo g.vals.length a.vc, .slice a.so g.shots.length a.sc] 47) (.cells #[.slice b.vo h.vals.length b.vc, .slice b.so h.shots.length b.sc] 47))
  have HV := hide ((VarG.new w 47 (.slice a.vo g.vals.length a.vc) (.slice a.so g.shots.length a.sc)).below (Joins.below_alloc1 _ (.cells #[.slice b.vo h.vals.length b.vc, .slice b.so h.shots.length b.sc] 47)))
  have HU := hide ((VarG.new (w.alloc (.cells #[.slice a.vo g.vals.length a.vc, .slice a.so g.shots.length a.sc] 47)) 47 (.slice b.vo h.vals.length b.vc) (.slice b.so h.shots.length b.sc)).at (show _ = w.heap.size + 1 by simp))
  have H1 := hide (h1.below (unhide HA))
  have H2 := hide (h2.below (unhide HA))
  have HG := hide hg
  have HH := hide hh
  obtain ⟨R, HR⟩ : ∃ R, Hid (R = gsEq g h) := ⟨_, hide rfl⟩
  rw [← unhide HR]
  clear h1 h2 hg hh
  go_enter Tryz.func15, Tryz.ntmps15
  go_upto_region 1 with fail
  revert HA HV HU H1 H2
  generalize ((w.alloc _).alloc _) = W0
  intro HA HV HU H1 H2
  obtain ⟨c0, c1⟩ := (unhide HV).cells
  obtain ⟨d0, d1⟩ := (unhide HU).cells
  go_wp2_with fail
  refine (l14Same_draws a.vo b.vo a.vc b.vc g.vals h.vals _ (unhide HG).v (unhide H1).v (unhide H2).v).mono ?_
  rintro e w1 ⟨rfl, m, hm⟩
  have HB1 : Hid (Below W0.heap.size W0 w1) := hide (by rw [hm]; exact Joins.below_draws _ _ _)
  clear hm c0 c1 d0 d1
  obtain ⟨c0, c1⟩ := ((unhide HV).below (unhide HB1)).cells
  obtain ⟨d0, d1⟩ := ((unhide HU).below (unhide HB1)).cells
  cases hv : eqNB g.vals h.vals
  · have HF : Hid (R = false) := hide (by rw [unhide HR, gsEq, hv]; rfl)
    clear HR
    go_wp2
    go_ret
    exact ⟨ret_bool (unhide HF).symm, fr (unhide HA) (unhide HB1)⟩
  have HR2 : Hid (R = eqShB g.shots h.shots) := hide (by rw [unhide HR, gsEq, hv]; rfl)
  clear HR hv
  have hsm := (unhide HG).s
  unfold maxLen at hsm
  by_cases hle : g.shots.length = h.shots.length
  rotate_left
  · have hb : ((g.shots.length : Int) != (h.shots.length : Int)) = true := by simp; omega
    have HF : Hid (R = false) := hide (by rw [unhide HR2, eqShB_len hle])
    clear HR2 hle
    go_wp2
    go_ret
    exact ⟨ret_bool (unhide HF).symm, fr (unhide HA) (unhide HB1)⟩
  have hb : ((g.shots.length : Int) != (h.shots.length : Int)) = false := by simp [hle]
  have HLE := hide hle
  clear hle
  go_wp2
  clear c0 c1 d0 d1 hb
  go_loopw [5] (fun i wr => ∃ k : Nat, k ≤ g.shots.length ∧ i = .int .i64 k ∧ Hid (∀ j (p : j < g.shots.length) (p' : j < h.shots.length), j < k → eqS1 g.shots[j] h.shots[j] = true) ∧ Hid (Below W0.heap.size W0 wr)) (fun i _ => g.shots.length - (intOf i).toNat)
  case atStart => exact ⟨0, Nat.zero_le _, rfl, hide (fun j _ _ h => by omega), HB1⟩
  case round =>
    clear HB1
    obtain ⟨k, hk, rfl, HE, HB⟩ := hrel
    obtain ⟨c0, c1⟩ := ((unhide HV).below (unhide HB)).cells
    obtain ⟨d0, d1⟩ := ((unhide HU).below (unhide HB)).cells
    by_cases hlt : k < g.shots.length
    · have hlt' : k < h.shots.length := by rw [← unhide HLE]; exact hlt
      obtain ⟨b1, o1, q1, p1, e1, hn1, ht1, i1, _, hm1⟩ := ((unhide H1).below (unhide HB)).s k hlt
      obtain ⟨b2, o2, q2, p2, e2, hn2, ht2, i2, _, hm2⟩ := ((unhide H2).below (unhide HB)).s k hlt'
      have hki : (k : Int) < (g.shots.length : Int) := by omega
      have hki' : (k : Int) < (h.shots.length : Int) := by omega
      have HI1 := hide i1
      have HI2 := hide i2
      have HML := hide hm1
      rw [e1] at c1
      rw [e2] at d1
      clear e1 e2 i1 i2 hm1 hm2
      by_cases hnm : g.shots[k].name = h.shots[k].name
      rotate_left
      · have hne : (g.shots[k].name.toList == h.shots[k].name.toList) = false := str_beq_false hnm
        have HF : Hid (R = false) := hide (by rw [unhide HR2, eqShB_at hlt hlt' (by rw [eqS1, decide_eq_false hnm]; rfl)])
        clear hnm
        go_upto_region 6 with fail
        go_quiet (fail)
        go_wp2
        go_ret
        exact ⟨ret_bool (unhide HF).symm, fr (unhide HA) ((unhide HB).trans (Joins.below_draws _ _ _))⟩
      have hne : (g.shots[k].name.toList == h.shots[k].name.toList) = true := by rw [hnm]; simp
      have HNM := hide hnm
      clear hnm
      have HCALL : Hid (∀ n, Calls Tryz.prog 46 #[.slice q1 g.shots[k].table.length p1, .slice q2 h.shots[k].table.length p2] (wr.drewN n) fun e w' => e = .returned (.bool (eqNB g.shots[k].table h.shots[k].table)) ∧ ∃ m, w' = (wr.drewN n).drewN m) := hide (fun n => l14Same_draws q1 q2 p1 p2 g.shots[k].table h.shots[k].table (wr.drewN n) (unhide HML) ((unhide HI1).below (Joins.below_draws _ _ _)) ((unhide HI2).below (Joins.below_draws _ _ _)))
      cases ht : eqNB g.shots[k].table h.shots[k].table
      · have HF : Hid (R = false) := hide (by rw [unhide HR2, eqShB_at hlt hlt' (by rw [eqS1, ht, Bool.and_false])])
        rw [ht] at HCALL
        clear ht
        go_upto_region 6 with fail
        go_quiet ((go_at_call 46; refine Calls.quiet_of (unhide HCALL _)))
        go_wp2
        go_ret
        exact ⟨ret_bool (unhide HF).symm, fr (unhide HA) ((unhide HB).trans (Joins.below_draws _ _ _))⟩
      · have HE' := hide (eqS1_succ hlt hlt' (unhide HE) (by rw [eqS1, ht, decide_eq_true (unhide HNM)]; rfl))
        rw [ht] at HCALL
        clear ht
        go_upto_region 6 with fail
        go_quiet ((go_at_call 46; refine Calls.quiet_of (unhide HCALL _)))
        have HB5 : Hid (Below W0.heap.size W0 (wr.drewN nq)) := hide ((unhide HB).trans (Joins.below_draws _ _ _))
        clear c0 c1 d0 d1 hn1 ht1 hn2 ht2 HCALL
        go_wp2
        go_roundw
        case rel => exact ⟨k + 1, by omega, by go_num, HE', HB5⟩
        case measure => simp [intOf]; omega
    · have HT : Hid (R = true) := hide (by rw [unhide HR2, eqShB_yes (unhide HLE) (fun j p p' => unhide HE j p p' (by omega))])
      go_wp2
      go_ret
      exact ⟨ret_bool (unhide HT).symm, fr (unhide HA) (unhide HB)⟩

end Go.Proofs.YtjjkppknojecjaaGreatDoor

namespace Go.Proofs.YtjjkppknojecjaaGreatDoor
open Go.RowKit
set_option linter.unusedVariables false
set_option maxRecDepth 100000

theorem eqS1_comm (s t : Snp) : eqS1 s t = eqS1 t s := by
  unfold eqS1 eqNB
  rw [decide_eq_decide.2 (show s.name = t.name ↔ t.name = s.name from eq_comm), decide_eq_decide.2 (show s.table = t.table ↔ t.table = s.table from eq_comm)]
theorem eqShB_comm : ∀ (ss tt : List Snp), eqShB ss tt = eqShB tt ss
  | [], [] => rfl
  | [], t :: tt => rfl
  | s :: ss, [] => rfl
  | s :: ss, t :: tt => by simp only [eqShB]; rw [eqS1_comm s t, eqShB_comm ss tt]
theorem gsEq_comm (g h : Gst) : gsEq g h = gsEq h g := by
  unfold gsEq
  rw [eqShB_comm g.shots h.shots]
  unfold eqNB
  rw [decide_eq_decide.2 (show g.vals = h.vals ↔ h.vals = g.vals from eq_comm)]
theorem wok_kind {m : Wld} (h : wokB m = true) : (eqR m.q rq0 = true → m.q.k ≤ 0) ∧ (eqR m.q rq0 = false → 0 < m.q.k) := by
  refine ⟨fun e => ?_, fun e => ?_⟩
  · unfold eqR at e
    simp only [Bool.and_eq_true, beq_iff_eq] at e
    have := e.1
    rw [this]; decide
  · have hq : maybB m.q = true := by
      unfold wokB at h
      simp only [Bool.and_eq_true] at h
      exact h.2.2.2.2.2.2
    unfold maybB at hq
    rw [Bool.or_eq_true] at hq
    rcases hq with hq | hq
    · rw [show eqR m.q rq0 = true from hq] at e; cases e
    · unfold rqB at hq
      simp only [Bool.and_eq_true] at hq
      have := betw_iff.1 hq.1.1
      omega
theorem srM_R {sec : Nat → ByteArray} (h : srB sec = true) : ImR (srM sec) := by
  unfold srB at h
  rw [Bool.and_eq_true] at h
  exact imB_iff.1 h.2

set_option maxHeartbeats 12800000 in
theorem worldAgrees_spec (a : Wl4) (m : Wld) (w : World) (hL : WlL m) (hc : WlS w a m) :
    Calls Tryz.prog 5 #[wlV a m] w fun e w' => e = .returned (.tuple #[.bool (waA m).1, .int .i64 (waA m).2]) ∧ Below w.heap.size w w' := by
  have HB0 := hide (Joins.below_alloc1 w (.cells (wlC a m) 50))
  have HV0 := hide (VarW.new w 50 a m)
  have HC0 := hide (hc.below (unhide HB0))
  have HL := hide hL
  obtain ⟨R, HR⟩ : ∃ R, Hid (R = waA m) := ⟨_, hide rfl⟩
  rw [← unhide HR]
  clear hc hL
  go_enter Tryz.func5, Tryz.ntmps5
  go_upto_region 1 with fail
  revert HB0 HV0 HC0
  generalize (w.alloc _) = W0
  intro HB0 HV0 HC0
  obtain ⟨c0, c1, c2, c3, c4, c5, c6, c7, c8, c9, c10, c11, c12, c13, c14⟩ := (unhide HV0).cells
  go_wp2_with fail
  refine (worldOK_spec a m _ (unhide HL) (unhide HC0)).mono ?_
  rintro e w1 ⟨rfl, hb⟩
  have HB1 := hide (fr (unhide HB0) hb)
  have HV1 := hide ((unhide HV0).below hb)
  have HC1 := hide ((unhide HC0).below hb)
  clear hb HB0 HV0 HC0 c0 c1 c2 c3 c4 c5 c6 c7 c8 c9 c10 c11 c12 c13 c14
  cases hw : wokB m
  · have HF : Hid (R = (false, 1)) := hide ((unhide HR).trans (if_neg (by rw [hw]; decide)))
    clear hw
    go_wp2
    go_ret2
    exact ⟨ret_mw (unhide HF), unhide HB1⟩
  have HR1 : Hid (R = if eqR m.q rq0 = true then (decide ((rdA m.ss m.xs 0).2 = 0) && (m.ag && gsEq m.g (gsOf (rdA m.ss m.xs 0).1)), 0) else (m.ag, 0)) := hide ((unhide HR).trans (if_pos hw))
  have HWR := hide (wok_R hw)
  have HKD := hide (wok_kind hw)
  clear hw HR
  obtain ⟨c0, c1, c2, c3, c4, c5, c6, c7, c8, c9, c10, c11, c12, c13, c14⟩ := (unhide HV1).cells
  cases hq : eqR m.q rq0
  · have hk : m.q.k > 0 := (unhide HKD).2 hq
    have HF : Hid (R = (m.ag, 0)) := hide ((unhide HR1).trans (if_neg (by rw [hq]; decide)))
    clear hq
    go_wp2
    go_ret2
    exact ⟨ret_mw (unhide HF), unhide HB1⟩
  have hk : ¬ m.q.k > 0 := by have := (unhide HKD).1 hq; omega
  have HCZ : Hid (hostC m.ss m.xs 0 = 0) := hide (hostC_ok (unhide HWR).d (by simp [inB]))
  have HR2 : Hid (R = (srB (secV m.ss m.xs 0) && (m.ag && gsEq m.g (gsOf (srM (secV m.ss m.xs 0)))), 0)) := hide (by
    rw [unhide HR1, if_pos hq, rdA, if_pos (unhide HCZ)]
    cases hs : srB (secV m.ss m.xs 0)
    · rfl
    · rfl)
  have HLR := hide (l11Read_any a.ao a.bo a.ca a.cb m.ss m.xs 0)
  have HSR := hide (@srM_R (secV m.ss m.xs 0))
  clear hq HR1 HKD
  go_wp2_with fail
  refine (unhide HLR _ (unhide HWR).d (unhide HC1).s (unhide HC1).i).mono ?_
  rintro e w2 ⟨b2, I, ts2, rfl, ho2, hm2, hb⟩
  have HMM := hide hm2
  revert HR2 HSR HMM
  generalize secV m.ss m.xs 0 = sec
  intro HR2 HSR HMM
  have HBL := hide (Joins.below_alloc1 w2 (.cells #[.slice b2.ro I.refs.length b2.rc, .slice b2.tq I.table.length b2.tc, .slice b2.so I.snaps.length b2.sc, .slice b2.dq I.data.length b2.dc] 61))
  have HX2 := hide (VarM.new w2 61 (.slice b2.ro I.refs.length b2.rc) (.slice b2.tq I.table.length b2.tc) (.slice b2.so I.snaps.length b2.sc) (.slice b2.dq I.data.length b2.dc))
  have HB2 := hide (fr (fr (unhide HB1) hb) (unhide HBL))
  have HV2 := hide (((unhide HV1).below hb).below (unhide HBL))
  have HC2 := hide (((unhide HC1).below hb).below (unhide HBL))
  have HO2 := hide (ho2.below (unhide HBL))
  clear hb ho2 hm2 HBL HB1 HV1 HC1 HLR c0 c1 c2 c3 c4 c5 c6 c7 c8 c9 c10 c11 c12 c13 c14
  generalize srB sec = B at *
  go_upto_region 6 with fail
  revert HX2 HB2 HV2 HC2 HO2
  generalize (w2.alloc _) = W2
  generalize w2.heap.size = pm
  intro HX2 HB2 HV2 HC2 HO2
  obtain hag | hag : m.ag = false ∨ m.ag = true := by
    cases m.ag
    · exact .inl rfl
    · exact .inr rfl
  · have HF : Hid (R = (false, 0)) := hide (by rw [unhide HR2, hag, Bool.false_and, Bool.and_false])
    obtain ⟨c0, c1, c2, c3, c4, c5, c6, c7, c8, c9, c10, c11, c12, c13, c14⟩ := (unhide HV2).cells
    rw [hag] at c14
    clear HR2 c0 c1 c2 c3 c4 c5 c6 c7 c8 c9 c10 c11 c12 c13 hag
    go_quiet (fail)
    all_goals
      go_wp2
      go_ret2
      exact ⟨ret_mw (unhide HF), (unhide HB2).trans (Joins.below_draws _ _ _)⟩
  cases B
  · have HF : Hid (R = (false, 0)) := HR2
    obtain ⟨c0, c1, c2, c3, c4, c5, c6, c7, c8, c9, c10, c11, c12, c13, c14⟩ := (unhide HV2).cells
    rw [hag] at c14
    clear HR2 c0 c1 c2 c3 c4 c5 c6 c7 c8 c9 c10 c11 c12 c13 hag
    go_quiet (fail)
    all_goals
      go_wp2
      go_ret2
      exact ⟨ret_mw (unhide HF), (unhide HB2).trans (Joins.below_draws _ _ _)⟩
  have hS0 : VarW W2.drew w.heap.size 50 a m ∧ VarM W2.drew pm 61 (.slice b2.ro I.refs.length b2.rc) (.slice b2.tq I.table.length b2.tc) (.slice b2.so I.snaps.length b2.sc) (.slice b2.dq I.data.length b2.dc) := ⟨(unhide HV2).below (Below.refl _ _).drew, (unhide HX2).below (Below.refl _ _).drew⟩
  have HB2d := hide (fr (unhide HB2) (Below.refl _ _).drew)
  have HC2d := hide ((unhide HC2).below (Below.refl _ _).drew)
  have HO2d := hide ((unhide HO2).below (Below.refl _ _).drew)
  clear HX2 HB2 HV2 HC2 HO2
  have HF : Hid (R = (gsEq m.g (gsOf (srM sec)), 0)) := hide (by rw [unhide HR2, hag, Bool.true_and, Bool.true_and])
  have HIR := hide (unhide HSR rfl)
  rw [← unhide HMM rfl] at HF HIR
  clear HR2 HMM HSR
  refine wp_region_ord (fun w' => VarW w' w.heap.size 50 a m ∧ VarM w' pm 61 (.slice b2.ro I.refs.length b2.rc) (.slice b2.tq I.table.length b2.tc) (.slice b2.so I.snaps.length b2.sc) (.slice b2.dq I.data.length b2.dc)) [0, 1, 2, 3, 4, 5, 6, 7, 8, 9, 10, 11, 12, 13] [(0, 0), (1, 0), (2, 0), (3, 0), (4, 0), (5, 0), (6, 0), (8, 0), (9, 0), (7, 2), (10, 2), (11, 0), (12, 0), (13, 0)] (by kernel_rfl) (by kernel_rfl) rfl (by kernel_rfl) ?_
  refine ord_read (.pointer (some ⟨w.heap.size, 14, none⟩)) rfl rfl hS0 (fun W hW => by go_simp) ?_
  refine ord_read (.bool true) rfl rfl hS0 (fun W hW => by obtain ⟨c0, c1, c2, c3, c4, c5, c6, c7, c8, c9, c10, c11, c12, c13, c14⟩ := hW.1.cells; go_simp) ?_
  refine ord_read (.bool true) rfl rfl hS0 (fun W hW => by go_simp) ?_
  refine ordG_read (.bool true) rfl (by kernel_rfl) hS0 (fun W hW => by go_simp) ?_
  refine ord_read (.bool true) rfl rfl hS0 (fun W hW => by go_simp) ?_
  refine ord_read (.bool true) rfl rfl hS0 (fun W hW => by go_simp) ?_
  refine ordG_read (imV b2 I) rfl (by kernel_rfl) hS0 (fun W hW => by obtain ⟨x0, x1, x2, x3⟩ := hW.2.cells; go_simp) ?_
  refine ordG_read (.pointer (some ⟨w.heap.size, 8, none⟩)) rfl (by kernel_rfl) hS0 (fun W hW => by go_simp) ?_
  refine ordG_read (gsV a.ga m.g) rfl (by kernel_rfl) hS0 (fun W hW => by obtain ⟨c0, c1, c2, c3, c4, c5, c6, c7, c8, c9, c10, c11, c12, c13, c14⟩ := hW.1.cells; go_simp) ?_
  refine ordG_held rfl (by kernel_rfl) ?_
  intro K hK
  unfold Oper.wp
  go_simp
  refine (l14Of_any b2 I _ (unhide HIR) ((unhide HO2d).shows (unhide HIR).M.zs)).mono ?_
  rintro e w3 ⟨b3, ts3, rfl, ho3, hb⟩
  have HB3 := hide (fr (unhide HB2d) hb)
  have HC3 := hide ((unhide HC2d).below hb)
  have HG3 := hide (ho3.shows (GsBd.R (gsOf_bd (unhide HIR))).zs)
  have hS3 := And.intro (hS0.1.below hb) (hS0.2.below hb)
  refine hK _ _ hS3 ?_
  clear hK K hb ho3 hS0 HB2d HC2d HO2d
  refine ordG_held rfl (by kernel_rfl) ?_
  intro K hK
  unfold Oper.wp
  go_simp
  refine (sameGuest_spec b3 a.ga (gsOf I) m.g _ (GsBd.R (gsOf_bd (unhide HIR))).L (unhide HL).g (unhide HG3) (unhide HC3).g).mono ?_
  rintro e w4 ⟨rfl, hb⟩
  have HB4 := hide (fr (unhide HB3) hb)
  have hS4 := And.intro (hS3.1.below hb) (hS3.2.below hb)
  refine hK _ _ hS4 ?_
  clear hK K hb hS3 HB3 HC3 HG3
  have HF2 : Hid (R = (gsEq (gsOf I) m.g, 0)) := hide (by rw [unhide HF, gsEq_comm])
  refine ord_read (.bool (gsEq (gsOf I) m.g)) rfl rfl hS4 (fun W hW => by go_simp) ?_
  refine ord_read (.bool (gsEq (gsOf I) m.g)) rfl rfl hS4 (fun W hW => by go_simp) ?_
  refine ord_read (.int .i64 0) rfl rfl hS4 (fun W hW => by go_simp) ?_
  refine ord_done ?_
  clear hS4
  go_wp2
  go_ret2
  exact ⟨ret_mw (unhide HF2), unhide HB4⟩

end Go.Proofs.YtjjkppknojecjaaGreatDoor

namespace Go.Proofs.YtjjkppknojecjaaGreatDoor
open Go.RowKit
set_option linter.unusedVariables false
set_option maxRecDepth 100000

theorem wkWorldAgrees (a : Wl4) (m : Wld) (w : World) (hL : WlL m) (hc : WlS w a m) (hE : ErrW w) :
    Calls Tryz.prog 3 #[wlV a m] w fun e w' => e = .returned (.bool true) ∧ Below w.heap.size w w' :=
  lawWoWorldAgrees a m (waA m) w hL hc hE (fun b W hs => worldAgrees_spec b m W hL hs) (fun b W hs he => worldAgrees_impl b m W hL hs he)

end Go.Proofs.YtjjkppknojecjaaGreatDoor
