import Derived.Test.YtpdpnepnfhbonaaGreatRows
import Derived.Test.YtpdpnepnfhbonaaGreatXReqDoPart1
import Derived.Test.YtpdpnepnfhbonaaGreatXReqDoPart2
import Derived.WalkKit
import Derived.WalkSpells
import Derived.WalkLawsBesides
import Derived.KernelRfl
import Derived.Test.YtpdpnepnfhbonaaGreatXReqDoPart6
import Derived.Test.YtpdpnepnfhbonaaGreatXReqDoPart8
import Derived.Test.YtpdpnepnfhbonaaGreatXReqDoPart12
import Derived.Test.YtpdpnepnfhbonaaGreatXReqDoPart14
import Derived.Test.YtpdpnepnfhbonaaGreatXReqDoPart13
import Derived.Test.YtpdpnepnfhbonaaGreatXReqDoPart5
import Derived.Test.YtpdpnepnfhbonaaGreatXReqDoPart4
import Derived.Test.YtpdpnepnfhbonaaGreatXReqDoPart10
import Derived.BigQuiet
import Derived.Deep.QuietTactic
import Derived.Deep.RegionWith
import Derived.LoopN
import Derived.Test.YtpdpnepnfhbonaaGreatXReqDoPart9
import Derived.Test.YtpdpnepnfhbonaaGreatXReqDoPart11

namespace Go.Proofs.YtpdpnepnfhbonaaGreat
open Go.RowKit
set_option linter.unusedVariables false
set_option maxRecDepth 100000

theorem useB_1 {q : Rq} (h : q.k = 1 ∨ q.k = 3 ∨ q.k = 4) : useB q = (q.v == 0 && q.n.toList.isEmpty) := by unfold useB; rw [if_pos h]; rfl
theorem useB_2 {q : Rq} (h : q.k = 2) : useB q = q.n.toList.isEmpty := by unfold useB; rw [if_neg (by omega), if_pos h]; rfl
theorem useB_5 {q : Rq} (h : q.k = 5 ∨ q.k = 6 ∨ q.k = 7) : useB q = (q.g == 0 && q.v == 0) := by unfold useB; rw [if_neg (by omega), if_neg (by omega), if_neg (by omega)]
theorem useB_8 {q : Rq} (h : q.k = 8) : useB q = (q.g == 0 && q.v == 0 && q.n.toList.isEmpty) := by unfold useB; rw [if_neg (by omega), if_neg (by omega), if_pos h]; rfl
theorem rq_out {q : Rq} (h : betw q.k 1 8 = false) : rqB q = false := by rw [rqB, h]; rfl
theorem rq_long {q : Rq} (h : ¬ q.n.size ≤ 65536) : rqB q = false := by rw [rqB, decide_eq_false h]; simp
theorem rq_in {q : Rq} (h1 : 1 ≤ q.k ∧ q.k ≤ 8) (h : q.n.size ≤ 65536) : rqB q = useB q := by rw [rqB, decide_eq_true h, betw_iff.2 h1]; rfl

set_option maxHeartbeats 6400000 in
theorem reqOK_spec (q : Rq) (w : World) (hz : q.n.size ≤ maxLen) : Calls Tryz.prog 41 #[qV q] w fun e w' => e = .returned (.bool (rqB q)) ∧ Below w.heap.size w w' := by
  have HA := hide (Joins.below_alloc1 w (.cells #[.int .i64 q.k, .int .i64 q.g, .int .i64 q.v, .string q.n] 49))
  have HV := hide (VarM.new w 49 (.int .i64 q.k) (.int .i64 q.g) (.int .i64 q.v) (.string q.n))
  obtain ⟨R, HR⟩ : ∃ R, Hid (R = rqB q) := ⟨_, hide rfl⟩
  rw [← unhide HR]
  unfold maxLen at hz
  go_enter Tryz.func41, Tryz.ntmps41
  go_upto_region 1 with fail
  revert HA HV
  generalize (w.alloc _) = W0
  intro HA HV
  obtain ⟨c0, c1, c2, c3⟩ := (unhide HV).cells
  by_cases hin : 1 ≤ q.k ∧ q.k ≤ 8
  case neg =>
    have hb : betw q.k 1 8 = false := by
      cases hb : betw q.k 1 8 with
      | false => rfl
      | true => exact absurd (betw_iff.1 hb) hin
    have HX := hide ((unhide HR).trans (rq_out hb))
    clear HR hin
    go_wp2_with (go_at_call 71; refine (in_any _ _ _ _).mono ?_; rintro e w' ⟨rfl, hw⟩; replace hw := hw.symm; subst hw; rw [hb])
    go_ret
    exact ⟨ret_bool (unhide HX).symm, unhide HA⟩
  have hb : betw q.k 1 8 = true := betw_iff.2 hin
  by_cases hl : q.n.size ≤ 65536
  case neg =>
    have HX := hide ((unhide HR).trans (rq_long hl))
    have hl' : (65536 : Int) < (q.n.size : Int) := by omega
    clear HR hl hin
    go_wp2_with (go_at_call 71; refine (in_any _ _ _ _).mono ?_; rintro e w' ⟨rfl, hw⟩; replace hw := hw.symm; subst hw; rw [hb])
    go_ret
    exact ⟨ret_bool (unhide HX).symm, unhide HA⟩
  have HX := hide ((unhide HR).trans (rq_in hin hl))
  have hl' : ¬ (65536 : Int) < (q.n.size : Int) := by omega
  clear HR hl
  have hk : q.k = 1 ∨ q.k = 2 ∨ q.k = 3 ∨ q.k = 4 ∨ q.k = 5 ∨ q.k = 6 ∨ q.k = 7 ∨ q.k = 8 := by omega
  clear hin
  rcases hk with h | h | h | h | h | h | h | h
  · have HY := hide ((unhide HX).trans (useB_1 (.inl h)))
    rw [h] at c0 hb
    clear HX h
    cases ev : (q.v == 0)
    · skip
      cases en : (q.n.toList.isEmpty)
      · skip
        have HF := unhide HY
        rw [ev, en] at HF
        have HG := hide HF
        clear HF
        go_wp2_with (go_at_call 71; refine (in_any _ _ _ _).mono ?_; rintro e w' ⟨rfl, hw⟩; replace hw := hw.symm; subst hw; rw [hb])
        go_ret
        exact ⟨ret_bool (unhide HG).symm, unhide HA⟩
      · skip
        have HF := unhide HY
        rw [ev, en] at HF
        have HG := hide HF
        clear HF
        go_wp2_with (go_at_call 71; refine (in_any _ _ _ _).mono ?_; rintro e w' ⟨rfl, hw⟩; replace hw := hw.symm; subst hw; rw [hb])
        go_ret
        exact ⟨ret_bool (unhide HG).symm, unhide HA⟩
    · skip
      cases en : (q.n.toList.isEmpty)
      · skip
        have HF := unhide HY
        rw [ev, en] at HF
        have HG := hide HF
        clear HF
        go_wp2_with (go_at_call 71; refine (in_any _ _ _ _).mono ?_; rintro e w' ⟨rfl, hw⟩; replace hw := hw.symm; subst hw; rw [hb])
        go_ret
        exact ⟨ret_bool (unhide HG).symm, unhide HA⟩
      · skip
        have HF := unhide HY
        rw [ev, en] at HF
        have HG := hide HF
        clear HF
        go_wp2_with (go_at_call 71; refine (in_any _ _ _ _).mono ?_; rintro e w' ⟨rfl, hw⟩; replace hw := hw.symm; subst hw; rw [hb])
        go_ret
        exact ⟨ret_bool (unhide HG).symm, unhide HA⟩
  · have HY := hide ((unhide HX).trans (useB_2 h))
    rw [h] at c0 hb
    clear HX h
    cases en : (q.n.toList.isEmpty)
    · skip
      have HF := unhide HY
      rw [en] at HF
      have HG := hide HF
      clear HF
      go_wp2_with (go_at_call 71; refine (in_any _ _ _ _).mono ?_; rintro e w' ⟨rfl, hw⟩; replace hw := hw.symm; subst hw; rw [hb])
      go_ret
      exact ⟨ret_bool (unhide HG).symm, unhide HA⟩
    · skip
      have HF := unhide HY
      rw [en] at HF
      have HG := hide HF
      clear HF
      go_wp2_with (go_at_call 71; refine (in_any _ _ _ _).mono ?_; rintro e w' ⟨rfl, hw⟩; replace hw := hw.symm; subst hw; rw [hb])
      go_ret
      exact ⟨ret_bool (unhide HG).symm, unhide HA⟩
  · have HY := hide ((unhide HX).trans (useB_1 (.inr (.inl h))))
    rw [h] at c0 hb
    clear HX h
    cases ev : (q.v == 0)
    · skip
      cases en : (q.n.toList.isEmpty)
      · skip
        have HF := unhide HY
        rw [ev, en] at HF
        have HG := hide HF
        clear HF
        go_wp2_with (go_at_call 71; refine (in_any _ _ _ _).mono ?_; rintro e w' ⟨rfl, hw⟩; replace hw := hw.symm; subst hw; rw [hb])
        go_ret
        exact ⟨ret_bool (unhide HG).symm, unhide HA⟩
      · skip
        have HF := unhide HY
        rw [ev, en] at HF
        have HG := hide HF
        clear HF
        go_wp2_with (go_at_call 71; refine (in_any _ _ _ _).mono ?_; rintro e w' ⟨rfl, hw⟩; replace hw := hw.symm; subst hw; rw [hb])
        go_ret
        exact ⟨ret_bool (unhide HG).symm, unhide HA⟩
    · skip
      cases en : (q.n.toList.isEmpty)
      · skip
        have HF := unhide HY
        rw [ev, en] at HF
        have HG := hide HF
        clear HF
        go_wp2_with (go_at_call 71; refine (in_any _ _ _ _).mono ?_; rintro e w' ⟨rfl, hw⟩; replace hw := hw.symm; subst hw; rw [hb])
        go_ret
        exact ⟨ret_bool (unhide HG).symm, unhide HA⟩
      · skip
        have HF := unhide HY
        rw [ev, en] at HF
        have HG := hide HF
        clear HF
        go_wp2_with (go_at_call 71; refine (in_any _ _ _ _).mono ?_; rintro e w' ⟨rfl, hw⟩; replace hw := hw.symm; subst hw; rw [hb])
        go_ret
        exact ⟨ret_bool (unhide HG).symm, unhide HA⟩
  · have HY := hide ((unhide HX).trans (useB_1 (.inr (.inr h))))
    rw [h] at c0 hb
    clear HX h
    cases ev : (q.v == 0)
    · skip
      cases en : (q.n.toList.isEmpty)
      · skip
        have HF := unhide HY
        rw [ev, en] at HF
        have HG := hide HF
        clear HF
        go_wp2_with (go_at_call 71; refine (in_any _ _ _ _).mono ?_; rintro e w' ⟨rfl, hw⟩; replace hw := hw.symm; subst hw; rw [hb])
        go_ret
        exact ⟨ret_bool (unhide HG).symm, unhide HA⟩
      · skip
        have HF := unhide HY
        rw [ev, en] at HF
        have HG := hide HF
        clear HF
        go_wp2_with (go_at_call 71; refine (in_any _ _ _ _).mono ?_; rintro e w' ⟨rfl, hw⟩; replace hw := hw.symm; subst hw; rw [hb])
        go_ret
        exact ⟨ret_bool (unhide HG).symm, unhide HA⟩
    · skip
      cases en : (q.n.toList.isEmpty)
      · skip
        have HF := unhide HY
        rw [ev, en] at HF
        have HG := hide HF
        clear HF
        go_wp2_with (go_at_call 71; refine (in_any _ _ _ _).mono ?_; rintro e w' ⟨rfl, hw⟩; replace hw := hw.symm; subst hw; rw [hb])
        go_ret
        exact ⟨ret_bool (unhide HG).symm, unhide HA⟩
      · skip
        have HF := unhide HY
        rw [ev, en] at HF
        have HG := hide HF
        clear HF
        go_wp2_with (go_at_call 71; refine (in_any _ _ _ _).mono ?_; rintro e w' ⟨rfl, hw⟩; replace hw := hw.symm; subst hw; rw [hb])
        go_ret
        exact ⟨ret_bool (unhide HG).symm, unhide HA⟩
  · have HY := hide ((unhide HX).trans (useB_5 (.inl h)))
    rw [h] at c0 hb
    clear HX h
    cases eg : (q.g == 0)
    · skip
      cases ev : (q.v == 0)
      · skip
        have HF := unhide HY
        rw [eg, ev] at HF
        have HG := hide HF
        clear HF
        go_wp2_with (go_at_call 71; refine (in_any _ _ _ _).mono ?_; rintro e w' ⟨rfl, hw⟩; replace hw := hw.symm; subst hw; rw [hb])
        go_ret
        exact ⟨ret_bool (unhide HG).symm, unhide HA⟩
      · skip
        have HF := unhide HY
        rw [eg, ev] at HF
        have HG := hide HF
        clear HF
        go_wp2_with (go_at_call 71; refine (in_any _ _ _ _).mono ?_; rintro e w' ⟨rfl, hw⟩; replace hw := hw.symm; subst hw; rw [hb])
        go_ret
        exact ⟨ret_bool (unhide HG).symm, unhide HA⟩
    · skip
      cases ev : (q.v == 0)
      · skip
        have HF := unhide HY
        rw [eg, ev] at HF
        have HG := hide HF
        clear HF
        go_wp2_with (go_at_call 71; refine (in_any _ _ _ _).mono ?_; rintro e w' ⟨rfl, hw⟩; replace hw := hw.symm; subst hw; rw [hb])
        go_ret
        exact ⟨ret_bool (unhide HG).symm, unhide HA⟩
      · skip
        have HF := unhide HY
        rw [eg, ev] at HF
        have HG := hide HF
        clear HF
        go_wp2_with (go_at_call 71; refine (in_any _ _ _ _).mono ?_; rintro e w' ⟨rfl, hw⟩; replace hw := hw.symm; subst hw; rw [hb])
        go_ret
        exact ⟨ret_bool (unhide HG).symm, unhide HA⟩
  · have HY := hide ((unhide HX).trans (useB_5 (.inr (.inl h))))
    rw [h] at c0 hb
    clear HX h
    cases eg : (q.g == 0)
    · skip
      cases ev : (q.v == 0)
      · skip
        have HF := unhide HY
        rw [eg, ev] at HF
        have HG := hide HF
        clear HF
        go_wp2_with (go_at_call 71; refine (in_any _ _ _ _).mono ?_; rintro e w' ⟨rfl, hw⟩; replace hw := hw.symm; subst hw; rw [hb])
        go_ret
        exact ⟨ret_bool (unhide HG).symm, unhide HA⟩
      · skip
        have HF := unhide HY
        rw [eg, ev] at HF
        have HG := hide HF
        clear HF
        go_wp2_with (go_at_call 71; refine (in_any _ _ _ _).mono ?_; rintro e w' ⟨rfl, hw⟩; replace hw := hw.symm; subst hw; rw [hb])
        go_ret
        exact ⟨ret_bool (unhide HG).symm, unhide HA⟩
    · skip
      cases ev : (q.v == 0)
      · skip
        have HF := unhide HY
        rw [eg, ev] at HF
        have HG := hide HF
        clear HF
        go_wp2_with (go_at_call 71; refine (in_any _ _ _ _).mono ?_; rintro e w' ⟨rfl, hw⟩; replace hw := hw.symm; subst hw; rw [hb])
        go_ret
        exact ⟨ret_bool (unhide HG).symm, unhide HA⟩
      · skip
        have HF := unhide HY
        rw [eg, ev] at HF
        have HG := hide HF
        clear HF
        go_wp2_with (go_at_call 71; refine (in_any _ _ _ _).mono ?_; rintro e w' ⟨rfl, hw⟩; replace hw := hw.symm; subst hw; rw [hb])
        go_ret
        exact ⟨ret_bool (unhide HG).symm, unhide HA⟩
  · have HY := hide ((unhide HX).trans (useB_5 (.inr (.inr h))))
    rw [h] at c0 hb
    clear HX h
    cases eg : (q.g == 0)
    · skip
      cases ev : (q.v == 0)
      · skip
        have HF := unhide HY
        rw [eg, ev] at HF
        have HG := hide HF
        clear HF
        go_wp2_with (go_at_call 71; refine (in_any _ _ _ _).mono ?_; rintro e w' ⟨rfl, hw⟩; replace hw := hw.symm; subst hw; rw [hb])
        go_ret
        exact ⟨ret_bool (unhide HG).symm, unhide HA⟩
      · skip
        have HF := unhide HY
        rw [eg, ev] at HF
        have HG := hide HF
        clear HF
        go_wp2_with (go_at_call 71; refine (in_any _ _ _ _).mono ?_; rintro e w' ⟨rfl, hw⟩; replace hw := hw.symm; subst hw; rw [hb])
        go_ret
        exact ⟨ret_bool (unhide HG).symm, unhide HA⟩
    · skip
      cases ev : (q.v == 0)
      · skip
        have HF := unhide HY
        rw [eg, ev] at HF
        have HG := hide HF
        clear HF
        go_wp2_with (go_at_call 71; refine (in_any _ _ _ _).mono ?_; rintro e w' ⟨rfl, hw⟩; replace hw := hw.symm; subst hw; rw [hb])
        go_ret
        exact ⟨ret_bool (unhide HG).symm, unhide HA⟩
      · skip
        have HF := unhide HY
        rw [eg, ev] at HF
        have HG := hide HF
        clear HF
        go_wp2_with (go_at_call 71; refine (in_any _ _ _ _).mono ?_; rintro e w' ⟨rfl, hw⟩; replace hw := hw.symm; subst hw; rw [hb])
        go_ret
        exact ⟨ret_bool (unhide HG).symm, unhide HA⟩
  · have HY := hide ((unhide HX).trans (useB_8 h))
    rw [h] at c0 hb
    clear HX h
    cases eg : (q.g == 0)
    · skip
      cases ev : (q.v == 0)
      · skip
        cases en : (q.n.toList.isEmpty)
        · skip
          have HF := unhide HY
          rw [eg, ev, en] at HF
          have HG := hide HF
          clear HF
          go_wp2_with (go_at_call 71; refine (in_any _ _ _ _).mono ?_; rintro e w' ⟨rfl, hw⟩; replace hw := hw.symm; subst hw; rw [hb])
          go_ret
          exact ⟨ret_bool (unhide HG).symm, unhide HA⟩
        · skip
          have HF := unhide HY
          rw [eg, ev, en] at HF
          have HG := hide HF
          clear HF
          go_wp2_with (go_at_call 71; refine (in_any _ _ _ _).mono ?_; rintro e w' ⟨rfl, hw⟩; replace hw := hw.symm; subst hw; rw [hb])
          go_ret
          exact ⟨ret_bool (unhide HG).symm, unhide HA⟩
      · skip
        cases en : (q.n.toList.isEmpty)
        · skip
          have HF := unhide HY
          rw [eg, ev, en] at HF
          have HG := hide HF
          clear HF
          go_wp2_with (go_at_call 71; refine (in_any _ _ _ _).mono ?_; rintro e w' ⟨rfl, hw⟩; replace hw := hw.symm; subst hw; rw [hb])
          go_ret
          exact ⟨ret_bool (unhide HG).symm, unhide HA⟩
        · skip
          have HF := unhide HY
          rw [eg, ev, en] at HF
          have HG := hide HF
          clear HF
          go_wp2_with (go_at_call 71; refine (in_any _ _ _ _).mono ?_; rintro e w' ⟨rfl, hw⟩; replace hw := hw.symm; subst hw; rw [hb])
          go_ret
          exact ⟨ret_bool (unhide HG).symm, unhide HA⟩
    · skip
      cases ev : (q.v == 0)
      · skip
        cases en : (q.n.toList.isEmpty)
        · skip
          have HF := unhide HY
          rw [eg, ev, en] at HF
          have HG := hide HF
          clear HF
          go_wp2_with (go_at_call 71; refine (in_any _ _ _ _).mono ?_; rintro e w' ⟨rfl, hw⟩; replace hw := hw.symm; subst hw; rw [hb])
          go_ret
          exact ⟨ret_bool (unhide HG).symm, unhide HA⟩
        · skip
          have HF := unhide HY
          rw [eg, ev, en] at HF
          have HG := hide HF
          clear HF
          go_wp2_with (go_at_call 71; refine (in_any _ _ _ _).mono ?_; rintro e w' ⟨rfl, hw⟩; replace hw := hw.symm; subst hw; rw [hb])
          go_ret
          exact ⟨ret_bool (unhide HG).symm, unhide HA⟩
      · skip
        cases en : (q.n.toList.isEmpty)
        · skip
          have HF := unhide HY
          rw [eg, ev, en] at HF
          have HG := hide HF
          clear HF
          go_wp2_with (go_at_call 71; refine (in_any _ _ _ _).mono ?_; rintro e w' ⟨rfl, hw⟩; replace hw := hw.symm; subst hw; rw [hb])
          go_ret
          exact ⟨ret_bool (unhide HG).symm, unhide HA⟩
        · skip
          have HF := unhide HY
          rw [eg, ev, en] at HF
          have HG := hide HF
          clear HF
          go_wp2_with (go_at_call 71; refine (in_any _ _ _ _).mono ?_; rintro e w' ⟨rfl, hw⟩; replace hw := hw.symm; subst hw; rw [hb])
          go_ret
          exact ⟨ret_bool (unhide HG).symm, unhide HA⟩

end Go.Proofs.YtpdpnepnfhbonaaGreat

namespace Go.Proofs.YtpdpnepnfhbonaaGreat
open Go.RowKit
set_option linter.unusedVariables false
set_option maxRecDepth 100000

end Go.Proofs.YtpdpnepnfhbonaaGreat

namespace Go.Proofs.YtpdpnepnfhbonaaGreat
open Go.RowKit
set_option linter.unusedVariables false
set_option maxRecDepth 100000

structure ZrJ (w0 W0 : World) (a : Im4) (m : Img) (g b off : Nat) (T : Int) (d : Nat → Bool) (w : World) (s5 s6 s7 s8 s9 s10 s11 s12 : Value) : Prop where
  bw : d 8 = false → Below W0.heap.size W0 w
  p1 : d 1 = true → d 7 = false → ∃ a1 ts, s6 = imV a1 m ∧ OwnIm w W0.heap.size a1 m ts
  p7 : d 7 = true → d 8 = false → ∃ a1 ts, s12 = imV a1 m ∧ OwnIm w W0.heap.size a1 (imDrop m T) ts
  p8 : d 8 = true → ∃ a1 ts, ImQ w0 w W0.heap.size a1 m (imDrop m T) ts
  f0 : d 0 = true → s5 = .agg #[.slice a.ro m.refs.length a.rc, .slice (some ⟨b, off, none⟩) m.table.length a.tc, .slice a.so m.snaps.length a.sc, .slice a.dq m.data.length a.dc]
  f2 : d 2 = true → s7 = .pointer (some ⟨w0.heap.size, 1, none⟩)
  f3 : d 3 = true → s8 = .slice (some ⟨b, off, none⟩) m.table.length a.tc
  f4 : d 4 = true → s9 = .int .i64 g
  f5 : d 5 = true → s10 = .pointer (some ⟨b, off + g, none⟩)
  f6 : d 6 = true → s11 = .int .i64 T

theorem ZrJ.s0 {w0 W0 : World} {a : Im4} {m : Img} {g b off : Nat} {T : Int} {d : Nat → Bool} {w : World} {s5 s6 s7 s8 s9 s10 s11 s12 v : Value} (I : ZrJ w0 W0 a m g b off T d w s5 s6 s7 s8 s9 s10 s11 s12) (hd : d 0 = false) (hv : v = .agg #[.slice a.ro m.refs.length a.rc, .slice (some ⟨b, off, none⟩) m.table.length a.tc, .slice a.so m.snaps.length a.sc, .slice a.dq m.data.length a.dc]) : ZrJ w0 W0 a m g b off T (updD d 0) w v s6 s7 s8 s9 s10 s11 s12 where
  bw := fun h => I.bw (upd_nf h)
  p1 := fun h h' => I.p1 (upd_ne (by decide) h) (upd_nf h')
  p7 := fun h h' => I.p7 (upd_ne (by decide) h) (upd_nf h')
  p8 := fun h => I.p8 (upd_ne (by decide) h)
  f0 := fun _ => hv
  f2 := fun h => I.f2 (upd_ne (by decide) h)
  f3 := fun h => I.f3 (upd_ne (by decide) h)
  f4 := fun h => I.f4 (upd_ne (by decide) h)
  f5 := fun h => I.f5 (upd_ne (by decide) h)
  f6 := fun h => I.f6 (upd_ne (by decide) h)

theorem ZrJ.s1 {w0 W0 : World} {a : Im4} {m : Img} {g b off : Nat} {T : Int} {d : Nat → Bool} {w w2 : World} {s5 s6 s7 s8 s9 s10 s11 s12 v : Value} (I : ZrJ w0 W0 a m g b off T d w s5 s6 s7 s8 s9 s10 s11 s12) (hd : d 1 = false) (h7 : d 7 = false) (h8 : d 8 = false) (hb : Below w.heap.size w w2) {a1 : Im4} {ts : List Value} (hv : v = imV a1 m) (ho : OwnIm w2 W0.heap.size a1 m ts) : ZrJ w0 W0 a m g b off T (updD d 1) w2 s5 v s7 s8 s9 s10 s11 s12 where
  bw := fun _ => fr (I.bw h8) hb
  p1 := fun _ _ => ⟨a1, ts, hv, ho⟩
  p7 := fun h _ => no_d (upd_ne (by decide) h) h7
  p8 := fun h => no_d (upd_ne (by decide) h) h8
  f0 := fun h => I.f0 (upd_ne (by decide) h)
  f2 := fun h => I.f2 (upd_ne (by decide) h)
  f3 := fun h => I.f3 (upd_ne (by decide) h)
  f4 := fun h => I.f4 (upd_ne (by decide) h)
  f5 := fun h => I.f5 (upd_ne (by decide) h)
  f6 := fun h => I.f6 (upd_ne (by decide) h)

theorem ZrJ.s2 {w0 W0 : World} {a : Im4} {m : Img} {g b off : Nat} {T : Int} {d : Nat → Bool} {w : World} {s5 s6 s7 s8 s9 s10 s11 s12 v : Value} (I : ZrJ w0 W0 a m g b off T d w s5 s6 s7 s8 s9 s10 s11 s12) (hd : d 2 = false) (hv : v = .pointer (some ⟨w0.heap.size, 1, none⟩)) : ZrJ w0 W0 a m g b off T (updD d 2) w s5 s6 v s8 s9 s10 s11 s12 where
  bw := fun h => I.bw (upd_nf h)
  p1 := fun h h' => I.p1 (upd_ne (by decide) h) (upd_nf h')
  p7 := fun h h' => I.p7 (upd_ne (by decide) h) (upd_nf h')
  p8 := fun h => I.p8 (upd_ne (by decide) h)
  f0 := fun h => I.f0 (upd_ne (by decide) h)
  f2 := fun _ => hv
  f3 := fun h => I.f3 (upd_ne (by decide) h)
  f4 := fun h => I.f4 (upd_ne (by decide) h)
  f5 := fun h => I.f5 (upd_ne (by decide) h)
  f6 := fun h => I.f6 (upd_ne (by decide) h)

theorem ZrJ.s3 {w0 W0 : World} {a : Im4} {m : Img} {g b off : Nat} {T : Int} {d : Nat → Bool} {w : World} {s5 s6 s7 s8 s9 s10 s11 s12 v : Value} (I : ZrJ w0 W0 a m g b off T d w s5 s6 s7 s8 s9 s10 s11 s12) (hd : d 3 = false) (hv : v = .slice (some ⟨b, off, none⟩) m.table.length a.tc) : ZrJ w0 W0 a m g b off T (updD d 3) w s5 s6 s7 v s9 s10 s11 s12 where
  bw := fun h => I.bw (upd_nf h)
  p1 := fun h h' => I.p1 (upd_ne (by decide) h) (upd_nf h')
  p7 := fun h h' => I.p7 (upd_ne (by decide) h) (upd_nf h')
  p8 := fun h => I.p8 (upd_ne (by decide) h)
  f0 := fun h => I.f0 (upd_ne (by decide) h)
  f2 := fun h => I.f2 (upd_ne (by decide) h)
  f3 := fun _ => hv
  f4 := fun h => I.f4 (upd_ne (by decide) h)
  f5 := fun h => I.f5 (upd_ne (by decide) h)
  f6 := fun h => I.f6 (upd_ne (by decide) h)

theorem ZrJ.s4 {w0 W0 : World} {a : Im4} {m : Img} {g b off : Nat} {T : Int} {d : Nat → Bool} {w : World} {s5 s6 s7 s8 s9 s10 s11 s12 v : Value} (I : ZrJ w0 W0 a m g b off T d w s5 s6 s7 s8 s9 s10 s11 s12) (hd : d 4 = false) (hv : v = .int .i64 g) : ZrJ w0 W0 a m g b off T (updD d 4) w s5 s6 s7 s8 v s10 s11 s12 where
  bw := fun h => I.bw (upd_nf h)
  p1 := fun h h' => I.p1 (upd_ne (by decide) h) (upd_nf h')
  p7 := fun h h' => I.p7 (upd_ne (by decide) h) (upd_nf h')
  p8 := fun h => I.p8 (upd_ne (by decide) h)
  f0 := fun h => I.f0 (upd_ne (by decide) h)
  f2 := fun h => I.f2 (upd_ne (by decide) h)
  f3 := fun h => I.f3 (upd_ne (by decide) h)
  f4 := fun _ => hv
  f5 := fun h => I.f5 (upd_ne (by decide) h)
  f6 := fun h => I.f6 (upd_ne (by decide) h)

theorem ZrJ.s5 {w0 W0 : World} {a : Im4} {m : Img} {g b off : Nat} {T : Int} {d : Nat → Bool} {w : World} {s5 s6 s7 s8 s9 s10 s11 s12 v : Value} (I : ZrJ w0 W0 a m g b off T d w s5 s6 s7 s8 s9 s10 s11 s12) (hd : d 5 = false) (hv : v = .pointer (some ⟨b, off + g, none⟩)) : ZrJ w0 W0 a m g b off T (updD d 5) w s5 s6 s7 s8 s9 v s11 s12 where
  bw := fun h => I.bw (upd_nf h)
  p1 := fun h h' => I.p1 (upd_ne (by decide) h) (upd_nf h')
  p7 := fun h h' => I.p7 (upd_ne (by decide) h) (upd_nf h')
  p8 := fun h => I.p8 (upd_ne (by decide) h)
  f0 := fun h => I.f0 (upd_ne (by decide) h)
  f2 := fun h => I.f2 (upd_ne (by decide) h)
  f3 := fun h => I.f3 (upd_ne (by decide) h)
  f4 := fun h => I.f4 (upd_ne (by decide) h)
  f5 := fun _ => hv
  f6 := fun h => I.f6 (upd_ne (by decide) h)

theorem ZrJ.s6 {w0 W0 : World} {a : Im4} {m : Img} {g b off : Nat} {T : Int} {d : Nat → Bool} {w : World} {s5 s6 s7 s8 s9 s10 s11 s12 v : Value} (I : ZrJ w0 W0 a m g b off T d w s5 s6 s7 s8 s9 s10 s11 s12) (hd : d 6 = false) (hv : v = .int .i64 T) : ZrJ w0 W0 a m g b off T (updD d 6) w s5 s6 s7 s8 s9 s10 v s12 where
  bw := fun h => I.bw (upd_nf h)
  p1 := fun h h' => I.p1 (upd_ne (by decide) h) (upd_nf h')
  p7 := fun h h' => I.p7 (upd_ne (by decide) h) (upd_nf h')
  p8 := fun h => I.p8 (upd_ne (by decide) h)
  f0 := fun h => I.f0 (upd_ne (by decide) h)
  f2 := fun h => I.f2 (upd_ne (by decide) h)
  f3 := fun h => I.f3 (upd_ne (by decide) h)
  f4 := fun h => I.f4 (upd_ne (by decide) h)
  f5 := fun h => I.f5 (upd_ne (by decide) h)
  f6 := fun _ => hv

theorem ZrJ.s7 {w0 W0 : World} {a : Im4} {m : Img} {g b off : Nat} {T : Int} {d : Nat → Bool} {w w2 : World} {s5 s6 s7 s8 s9 s10 s11 s12 v : Value} (I : ZrJ w0 W0 a m g b off T d w s5 s6 s7 s8 s9 s10 s11 s12) (hd : d 7 = false) (h8 : d 8 = false) (hb : Below W0.heap.size W0 w2) {a1 : Im4} {ts : List Value} (hv : v = imV a1 m) (ho : OwnIm w2 W0.heap.size a1 (imDrop m T) ts) : ZrJ w0 W0 a m g b off T (updD d 7) w2 s5 s6 s7 s8 s9 s10 s11 v where
  bw := fun _ => hb
  p1 := fun _ h' => no_d (k := 7) upd_at h'
  p7 := fun _ _ => ⟨a1, ts, hv, ho⟩
  p8 := fun h => no_d (upd_ne (by decide) h) h8
  f0 := fun h => I.f0 (upd_ne (by decide) h)
  f2 := fun h => I.f2 (upd_ne (by decide) h)
  f3 := fun h => I.f3 (upd_ne (by decide) h)
  f4 := fun h => I.f4 (upd_ne (by decide) h)
  f5 := fun h => I.f5 (upd_ne (by decide) h)
  f6 := fun h => I.f6 (upd_ne (by decide) h)

theorem ZrJ.s8 {w0 W0 : World} {a : Im4} {m : Img} {g b off : Nat} {T : Int} {d : Nat → Bool} {w w2 : World} {s5 s6 s7 s8 s9 s10 s11 s12 v : Value} (I : ZrJ w0 W0 a m g b off T d w s5 s6 s7 s8 s9 s10 s11 s12) (hd : d 8 = false) (p7' : d 7 = true) {a1 : Im4} {ts : List Value} (hq : ImQ w0 w2 W0.heap.size a1 m (imDrop m T) ts) : ZrJ w0 W0 a m g b off T (updD d 8) w2 s5 s6 s7 s8 s9 s10 s11 s12 where
  bw := fun h => no_d (k := 8) upd_at h
  p1 := fun _ h' => no_d p7' (upd_nf h')
  p7 := fun _ h' => no_d (k := 8) upd_at h'
  p8 := fun _ => ⟨a1, ts, hq⟩
  f0 := fun h => I.f0 (upd_ne (by decide) h)
  f2 := fun h => I.f2 (upd_ne (by decide) h)
  f3 := fun h => I.f3 (upd_ne (by decide) h)
  f4 := fun h => I.f4 (upd_ne (by decide) h)
  f5 := fun h => I.f5 (upd_ne (by decide) h)
  f6 := fun h => I.f6 (upd_ne (by decide) h)

theorem imZero_at {m : Img} {g : Nat} (hg : g < m.table.length) : imZero m g = { imDrop m m.table[g] with table := (imDrop m m.table[g]).table.set g 1 } := by
  have e : m.table.getD g 0 = m.table[g] := by simp [List.getD, hg]
  unfold imZero
  simp only [e]

set_option maxHeartbeats 1600000 in
theorem l10Zero_R (a : Im4) (m : Img) (g : Nat) (R : Img) (w : World) (hR : R = imZero m g) (hM : ImM m) (hg : g < m.table.length) (hc : ImS w a m) :
    Calls Tryz.prog 111 #[imV a m, .int .i64 g] w fun e w' => ∃ a' ts, e = .returned (imV a' R) ∧ OwnIm w' w.heap.size a' R ts ∧ Below w.heap.size w w' := by
  have HE := hide (ImE.new w a m hc)
  have HM := hide hM
  have hgi : (g : Int) < (m.table.length : Int) := by omega
  have HR := hide (hR.trans (imZero_at hg))
  have HTV := hide (hM.tv g hg)
  have ht12 := hM.t
  clear hc hM hR
  go_enter Tryz.func111, Tryz.ntmps111
  go_upto_region 1 with fail
  revert HE
  generalize ((w.alloc _).alloc _) = W0
  intro HE
  obtain ⟨b, off, et, hct⟩ := (unhide HE).s.t g hg
  have hbl := World.block_lt_of_cell? _ _ hct
  have HAV : Hid (imV a m = .agg #[.slice a.ro m.refs.length a.rc, .slice (some ⟨b, off, none⟩) m.table.length a.tc, .slice a.so m.snaps.length a.sc, .slice a.dq m.data.length a.dc]) := hide (by rw [imV, et])
  have HCELL : Hid (∀ W, Below W0.heap.size W0 W → W.cell? ⟨w.heap.size, 0, none⟩ = some (.slice a.ro m.refs.length a.rc) ∧ W.cell? ⟨w.heap.size, 1, none⟩ = some (.slice (some ⟨b, off, none⟩) m.table.length a.tc) ∧ W.cell? ⟨w.heap.size, 2, none⟩ = some (.slice a.so m.snaps.length a.sc) ∧ W.cell? ⟨w.heap.size, 3, none⟩ = some (.slice a.dq m.data.length a.dc) ∧ W.cell? ⟨b, off + g, none⟩ = some (.int .i64 m.table[g])) := hide (fun W hW => by
    obtain ⟨k0, k1, k2, k3⟩ := ((unhide HE).v.below hW).cells
    rw [et] at k1
    exact ⟨k0, k1, k2, k3, (hW.cell (p := ⟨b, off + g, none⟩) hbl).trans hct⟩)
  have HOWN : Hid (∀ W, Below W0.heap.size W0 W → Calls Tryz.prog 43 #[.agg #[.slice a.ro m.refs.length a.rc, .slice (some ⟨b, off, none⟩) m.table.length a.tc, .slice a.so m.snaps.length a.sc, .slice a.dq m.data.length a.dc]] W fun e w' => ∃ a' ts, e = .returned (imV a' m) ∧ OwnIm w' W.heap.size a' m ts ∧ Below W.heap.size W w') := hide (fun W hW => by rw [← unhide HAV]; exact l10Own_M a m W (unhide HM) ((unhide HE).s.below hW))
  clear et hct
  generalize hTT : m.table[g] = T at *
  clear hTT
  refine wp_region_inv2 (fun d f wz => ∃ s5 s6 s7 s8 s9 s10 s11 s12, f = (⟨#[imV a m, .int .i64 g, .pointer (some ⟨w.heap.size, 0, none⟩), undef, .pointer (some ⟨w.heap.size + 1, 0, none⟩), s5, s6, s7, s8, s9, s10, s11, s12, undef, undef, undef, undef, undef], []⟩ : Act) ∧ ZrJ w W0 a m g b off T d wz s5 s6 s7 s8 s9 s10 s11 s12) (by kernel_rfl) (by kernel_rfl) (noG_spec (by kernel_rfl)) ⟨undef, undef, undef, undef, undef, undef, undef, undef, rfl, ⟨fun _ => (Below.refl _ W0).drew, fun h => (by cases h), fun h => (by cases h), fun h => (by cases h), fun h => (by cases h), fun h => (by cases h), fun h => (by cases h), fun h => (by cases h), fun h => (by cases h), fun h => (by cases h)⟩⟩ ?hs ?he
  case hs =>
    intro d f wz i o hc hI ho hd hp K hK
    obtain ⟨s5, s6, s7, s8, s9, s10, s11, s12, rfl, I⟩ := hI
    have hi : i < 9 := (List.getElem?_eq_some_iff.1 ho).1
    rcases (show i = 0 ∨ i = 1 ∨ i = 2 ∨ i = 3 ∨ i = 4 ∨ i = 5 ∨ i = 6 ∨ i = 7 ∨ i = 8 by omega) with rfl | rfl | rfl | rfl | rfl | rfl | rfl | rfl | rfl
    · cases ho
      have h8 := not_yet hc 9 (j := 8) (i := 0) (by kernel_rfl) hd
      obtain ⟨k0, k1, k2, k3, k4⟩ := unhide HCELL wz (I.bw h8)
      unfold Oper.wp
      go_simp
      exact hK _ _ ⟨_, _, _, _, _, _, _, _, rfl, I.s0 hd rfl⟩
    · cases ho
      have h8 := not_yet hc 9 (j := 8) (i := 1) (by kernel_rfl) hd
      have h7 := not_yet hc 9 (j := 7) (i := 1) (by kernel_rfl) hd
      have p := hp ⟨0, .data⟩ (by simp) rfl
      have e1 := I.f0 p
      subst e1
      unfold Oper.wp
      go_simp
      refine (unhide HOWN wz (I.bw h8)).mono ?_
      rintro e w2 ⟨a1, ts, rfl, ho1, hb1⟩
      exact hK _ _ ⟨_, _, _, _, _, _, _, _, rfl, I.s1 hd h7 h8 hb1 rfl (ho1.base (I.bw h8).size)⟩
    · cases ho
      unfold Oper.wp
      go_simp
      exact hK _ _ ⟨_, _, _, _, _, _, _, _, rfl, I.s2 hd rfl⟩
    · cases ho
      have h8 := not_yet hc 9 (j := 8) (i := 3) (by kernel_rfl) hd
      have p := hp ⟨2, .data⟩ (by simp) rfl
      have e1 := I.f2 p
      subst e1
      obtain ⟨k0, k1, k2, k3, k4⟩ := unhide HCELL wz (I.bw h8)
      unfold Oper.wp
      go_simp
      exact hK _ _ ⟨_, _, _, _, _, _, _, _, rfl, I.s3 hd rfl⟩
    · cases ho
      unfold Oper.wp
      go_simp
      exact hK _ _ ⟨_, _, _, _, _, _, _, _, rfl, I.s4 hd rfl⟩
    · cases ho
      have p := hp ⟨3, .data⟩ (by simp) rfl
      have e1 := I.f3 p
      subst e1
      have p2 := hp ⟨4, .data⟩ (by simp) rfl
      have e2 := I.f4 p2
      subst e2
      unfold Oper.wp
      go_simp
      exact hK _ _ ⟨_, _, _, _, _, _, _, _, rfl, I.s5 hd (by first | rfl | simp)⟩
    · cases ho
      have h8 := not_yet hc 9 (j := 8) (i := 6) (by kernel_rfl) hd
      have p := hp ⟨5, .data⟩ (by simp) rfl
      have e1 := I.f5 p
      subst e1
      obtain ⟨k0, k1, k2, k3, k4⟩ := unhide HCELL wz (I.bw h8)
      unfold Oper.wp
      go_simp
      exact hK _ _ ⟨_, _, _, _, _, _, _, _, rfl, I.s6 hd rfl⟩
    · cases ho
      have h8 := not_yet hc 9 (j := 8) (i := 7) (by kernel_rfl) hd
      have p1 := hp ⟨1, .data⟩ (by simp) rfl
      have p6 := hp ⟨6, .data⟩ (by simp) rfl
      obtain ⟨a1, ts, e6, ho1⟩ := I.p1 p1 hd
      subst e6
      have e1 := I.f6 p6
      subst e1
      unfold Oper.wp
      go_simp
      refine (l10Drop_M a1 m ts _ T _ (unhide HTV).1 (unhide HTV).2 (unhide HM).r (unhide HM).d (fun c h => by have := (unhide HM).rv c h; omega) ho1).mono ?_
      rintro e w2 ⟨rfl, ho2, hk2⟩
      exact hK _ _ ⟨_, _, _, _, _, _, _, _, rfl, I.s7 hd h8 ((I.bw h8).trans (hk2.below (I.bw h8).size (fun g hg => (ho1.ge g hg).1))) rfl ho2⟩
    · cases ho
      have p7 := hp ⟨7, .data⟩ (by simp) rfl
      obtain ⟨a1, ts, e12, ho1⟩ := I.p7 p7 hd
      subst e12
      have hv := (unhide HE).v.below (I.bw hd)
      have hr := (unhide HE).r.below (I.bw hd)
      obtain ⟨x0, x1, x2, x3⟩ := hv.cells
      obtain ⟨z0, z1, z2, z3⟩ := hv.free
      have hq := ImQ.put (w := w) hv hr ho1 (fr (unhide HE).b (I.bw hd)) (by have := (unhide HE).r.lt; omega) (m0 := m) (imDrop_lens _ _).1 (imDrop_lens _ _).2.1 (imDrop_lens _ _).2.2.1 (imDrop_lens _ _).2.2.2
      unfold Oper.wp
      go_simp
      exact hK _ _ ⟨_, _, _, _, _, _, _, _, rfl, I.s8 (v := undef) hd p7 hq⟩
  case he =>
    intro d f wz hI hall
    obtain ⟨s5, s6, s7, s8, s9, s10, s11, s12, rfl, I⟩ := hI
    obtain ⟨a1, ts, hq⟩ := I.p8 (hall 8 (by decide))
    have HQ := hide hq
    clear I hall hq HCELL HOWN HAV
    generalize imDrop m T = D at *
    have hgD : g < D.table.length := by rw [(unhide HQ).e2]; exact hg
    obtain ⟨c0, c1, c2, c3⟩ := (unhide HQ).v.cells
    obtain ⟨g3, e3, hc3, hf3, hs3⟩ := (unhide HQ).setT (c := g) hgD
    have HQ7 := hide (hs3 1)
    rw [e3] at c1
    clear e3 hs3
    go_upto_region 3 with fail
    clear c0 c1 c2 c3 hc3 hf3
    revert HQ7
    generalize (wz.setCell _ _) = W7
    intro HQ7
    have HF := hide (unhide HQ7).fin
    obtain ⟨c0, c1, c2, c3⟩ := (unhide HQ7).v.cells
    obtain ⟨r0, r1, r2, r3⟩ := (unhide HQ7).r.cells
    obtain ⟨z0, z1, z2, z3⟩ := (unhide HQ7).r.free
    go_wp2
    refine bodyPost_ret (res_im Tryz.results111 rfl (unhide HF).1) rfl ?_
    rw [unhide HR]
    first | exact ⟨a1, ts, by rw [← (unhide HQ7).val], (unhide HF).2.1, (unhide HF).2.2⟩ | exact ⟨a1, by rw [← (unhide HQ7).val], ⟨ts, (unhide HF).2.1⟩, (unhide HF).2.2⟩

set_option maxHeartbeats 1600000 in
theorem zeroCluster_spec (a : Im4) (m : Img) (g : Int) (w : World) (hL : ImL m) (hc : ImS w a m) :
    Calls Tryz.prog 74 #[imV a m, .int .i64 g] w fun e w' => AnsI w w' e (zcA m g) := by
  have HE := hide (ImE.new w a m hc)
  have HL := hide hL
  have ht64 : m.table.length ≤ 9223372036854775807 := hL.t
  obtain ⟨R, HR⟩ : ∃ R, Hid (R = zcA m g) := ⟨_, rfl⟩
  rw [← unhide HR]
  clear hc hL
  go_enter Tryz.func74, Tryz.ntmps74
  go_upto_region 1 with fail
  revert HE
  generalize ((w.alloc _).alloc _) = W0
  intro HE
  obtain ⟨c0, c1, c2, c3⟩ := (unhide HE).v.cells
  go_wp2_with fail
  refine (imageOK_spec a m _ (unhide HL) (unhide HE).s).mono ?_
  rintro e w1 ⟨rfl, hb⟩
  have HE1 := hide ((unhide HE).below hb)
  clear hb c0 c1 c2 c3 HE
  obtain ⟨c0, c1, c2, c3⟩ := (unhide HE1).v.cells
  obtain ⟨r0, r1, r2, r3⟩ := (unhide HE1).r.cells
  obtain ⟨z0, z1, z2, z3⟩ := (unhide HE1).r.free
  cases him : imB m
  · have HX : Hid (R = (im0, 1)) := hide (by rw [unhide HR, zcA, him]; rfl)
    have HZ := hide (unhide HE1).zero
    go_wp2
    refine bodyPost_ret (res_ic Tryz.results74 rfl rfl (unhide HZ).1) rfl ?_
    rw [unhide HX]
    exact AnsI.bad 1 (unhide HZ).2
  have HM := hide (imB_iff.1 him).M
  have hws : IntKind.i64.wrap ((m.table.length : Int) - 1) = (m.table.length : Int) - 1 := by rw [IntKind.wrap_i64]; omega
  cases hg : betw g 0 ((m.table.length : Int) - 1)
  · have HX : Hid (R = (m, 4)) := hide (by rw [unhide HR, zcA, if_pos him, hg]; rfl)
    clear him HR
    go_wp2_with (first | (go_at_call 71; refine (in_any _ _ _ _).mono ?_; rintro e w' ⟨rfl, hw⟩; replace hw := hw.symm; subst hw; rw [hg]) | fail)
    refine (l10Own_M a m _ (unhide HM) (unhide HE1).s).mono ?_
    rintro e w2 ⟨b, ts, rfl, ho, hb⟩
    have HP := hide ((unhide HE1).put hb ho)
    have HE2 := hide ((unhide HE1).below hb)
    clear ho hb c0 c1 c2 c3 r0 r1 r2 r3 z0 z1 z2 z3
    obtain ⟨r0, r1, r2, r3⟩ := (unhide HE2).r.cells
    obtain ⟨z0, z1, z2, z3⟩ := (unhide HE2).r.free
    go_wp2
    refine bodyPost_ret (res_ic Tryz.results74 rfl rfl (unhide HP).1) rfl ?_
    rw [unhide HX]
    exact AnsI.of (R := (m, 4)) rfl rfl (unhide HP).2.1 (unhide HP).2.2
  · have HX : Hid (R = (imZero m g.toNat, 0)) := hide (by rw [unhide HR, zcA, if_pos him, if_pos hg])
    obtain ⟨l0, l1⟩ := betw_iff.1 hg
    obtain ⟨q, rfl⟩ := Int.eq_ofNat_of_zero_le l0
    rw [Int.toNat_natCast] at HX
    have hq : q < m.table.length := by omega
    obtain ⟨R1, HR1⟩ : ∃ R1, Hid (R1 = imZero m q) := ⟨_, rfl⟩
    rw [← unhide HR1] at HX
    clear him l0 l1 HR
    go_wp2_with (go_at_call 71; refine (in_any _ _ _ _).mono ?_; rintro e w' ⟨rfl, hw⟩; replace hw := hw.symm; subst hw; rw [hg])
    refine (l10Zero_R a m q R1 _ (unhide HR1) (unhide HM) hq (unhide HE1).s).mono ?_
    rintro e w2 ⟨b, ts, rfl, ho, hb⟩
    have HP := hide ((unhide HE1).put hb ho)
    have HE2 := hide ((unhide HE1).below hb)
    clear ho hb c0 c1 c2 c3 r0 r1 r2 r3 z0 z1 z2 z3 HR1
    obtain ⟨r0, r1, r2, r3⟩ := (unhide HE2).r.cells
    obtain ⟨z0, z1, z2, z3⟩ := (unhide HE2).r.free
    go_wp2
    refine bodyPost_ret (res_ic Tryz.results74 rfl rfl (unhide HP).1) rfl ?_
    rw [unhide HX]
    exact AnsI.of (R := (R1, 0)) rfl rfl (unhide HP).2.1 (unhide HP).2.2

end Go.Proofs.YtpdpnepnfhbonaaGreat

namespace Go.Proofs.YtpdpnepnfhbonaaGreat
open Go.RowKit
set_option linter.unusedVariables false
set_option maxRecDepth 100000

end Go.Proofs.YtpdpnepnfhbonaaGreat

namespace Go.Proofs.YtpdpnepnfhbonaaGreat
open Go.RowKit
set_option linter.unusedVariables false
set_option maxRecDepth 100000

end Go.Proofs.YtpdpnepnfhbonaaGreat

namespace Go.Proofs.YtpdpnepnfhbonaaGreat
open Go.RowKit
set_option linter.unusedVariables false
set_option maxRecDepth 100000

end Go.Proofs.YtpdpnepnfhbonaaGreat

namespace Go.Proofs.YtpdpnepnfhbonaaGreat
open Go.RowKit
set_option linter.unusedVariables false
set_option maxRecDepth 100000

theorem ImR.L {m : Img} (h : ImR m) : ImL m := h.M.L
theorem OwnIm.showsR {w : World} {B : Nat} {a : Im4} {m : Img} {ts : List Value} (h : OwnIm w B a m ts) (hi : ImR m) : ImS w a m := h.shows hi.M.zs

end Go.Proofs.YtpdpnepnfhbonaaGreat
