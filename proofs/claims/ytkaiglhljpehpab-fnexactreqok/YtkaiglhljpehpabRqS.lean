/- Contract of the model's ReqOK. (Written by gens/reqs.py.) -/
import Derived.Test.YtkaiglhljpehpabRows
import Derived.Test.YtkaiglhljpehpabGen
import Derived.Test.YtkaiglhljpehpabKeep
import Derived.Test.YtkaiglhljpehpabInts
import Derived.Test.YtkaiglhljpehpabClkB
import Derived.Test.YtkaiglhljpehpabToIg
import Derived.Test.YtkaiglhljpehpabRqP
import Derived.WalkKit
import Derived.WalkSpells
import Derived.WalkLawsBesides
import Derived.KernelRfl
namespace Go.Proofs.Ytkaiglhljpehpab
open Go.RowKit
set_option linter.unusedVariables false
set_option maxRecDepth 100000

theorem useB_1 {q : Rq} (h : q.k = 1 ∨ q.k = 3 ∨ q.k = 4) : useB q = (q.v == 0 && q.n.toList.isEmpty) := by unfold useB; rw [if_pos h]; rfl
theorem useB_2 {q : Rq} (h : q.k = 2) : useB q = q.n.toList.isEmpty := by unfold useB; rw [if_neg (by omega), if_pos h]; rfl
theorem useB_5 {q : Rq} (h : q.k = 5 ∨ q.k = 6 ∨ q.k = 7) : useB q = (q.g == 0 && q.v == 0) := by unfold useB; rw [if_neg (by omega), if_neg (by omega), if_neg (by omega)]
theorem useB_8 {q : Rq} (h : q.k = 8) : useB q = (q.g == 0 && q.v == 0 && q.n.toList.isEmpty) := by unfold useB; rw [if_neg (by omega), if_neg (by omega), if_pos h]; rfl
theorem rq_out {q : Rq} (h : betw q.k 1 8 = false) : rqB q = false := by rw [rqB, h]; rfl
theorem rq_long {q : Rq} (h : ¬ q.n.size ≤ 65536) : rqB q = false := by rw [rqB, decide_eq_false h]; simp
theorem rq_in {q : Rq} (h1 : 1 ≤ q.k ∧ q.k ≤ 8) (h : q.n.size ≤ 65536) : rqB q = useB q := by rw [rqB, decide_eq_true h, betw_iff.2 h1]; rfl

set_option maxHeartbeats 6400000 in
theorem reqOK_spec (q : Rq) (w : World) (hz : q.n.size ≤ maxLen) : Calls Try.prog 25 #[qV q] w fun e w' => e = .returned (.bool (rqB q)) ∧ Below w.heap.size w w' := by
  have HA := hide (Joins.below_alloc1 w (.cells #[.int .i64 q.k, .int .i64 q.g, .int .i64 q.v, .string q.n] 44))
  have HV := hide (VarM.new w 44 (.int .i64 q.k) (.int .i64 q.g) (.int .i64 q.v) (.string q.n))
  obtain ⟨R, HR⟩ : ∃ R, Hid (R = rqB q) := ⟨_, hide rfl⟩
  rw [← unhide HR]
  unfold maxLen at hz
  go_enter Try.func25, Try.ntmps25
  go_upto_region 1 with fail
  revert HA HV
  generalize (w.alloc _) = W0
  intro HA HV
  obtain ⟨c0, c1, c2, c3⟩ := (unhide HV).cells
  by_cases hin : 1 ≤ q.k ∧ q.k ≤ 8
  case neg =>
    have hb : betw q.k 1 8 = false := by
      cases hb : betw q.k 1 8 with
      | false => rfl
      | true => exact absurd (betw_iff.1 hb) hin
    have HX := hide ((unhide HR).trans (rq_out hb))
    clear HR hin
    go_wp2_with (go_at_call 46; refine (in_any _ _ _ _).mono ?_; rintro e w' ⟨rfl, hw⟩; replace hw := hw.symm; subst hw; rw [hb])
    go_ret
    exact ⟨ret_bool (unhide HX).symm, unhide HA⟩
  have hb : betw q.k 1 8 = true := betw_iff.2 hin
  by_cases hl : q.n.size ≤ 65536
  case neg =>
    have HX := hide ((unhide HR).trans (rq_long hl))
    have hl' : (65536 : Int) < (q.n.size : Int) := by omega
    clear HR hl hin
    go_wp2_with (go_at_call 46; refine (in_any _ _ _ _).mono ?_; rintro e w' ⟨rfl, hw⟩; replace hw := hw.symm; subst hw; rw [hb])
    go_ret
    exact ⟨ret_bool (unhide HX).symm, unhide HA⟩
  have HX := hide ((unhide HR).trans (rq_in hin hl))
  have hl' : ¬ (65536 : Int) < (q.n.size : Int) := by omega
  clear HR hl
  have hk : q.k = 1 ∨ q.k = 2 ∨ q.k = 3 ∨ q.k = 4 ∨ q.k = 5 ∨ q.k = 6 ∨ q.k = 7 ∨ q.k = 8 := by omega
  clear hin
  rcases hk with h | h | h | h | h | h | h | h
  · have HY := hide ((unhide HX).trans (useB_1 (.inl h)))
    rw [h] at c0 hb
    clear HX h
    cases ev : (q.v == 0)
    · skip
      cases en : (q.n.toList.isEmpty)
      · skip
        have HF := unhide HY
        rw [ev, en] at HF
        have HG := hide HF
        clear HF
        go_wp2_with (go_at_call 46; refine (in_any _ _ _ _).mono ?_; rintro e w' ⟨rfl, hw⟩; replace hw := hw.symm; subst hw; rw [hb])
        go_ret
        exact ⟨ret_bool (unhide HG).symm, unhide HA⟩
      · skip
        have HF := unhide HY
        rw [ev, en] at HF
        have HG := hide HF
        clear HF
        go_wp2_with (go_at_call 46; refine (in_any _ _ _ _).mono ?_; rintro e w' ⟨rfl, hw⟩; replace hw := hw.symm; subst hw; rw [hb])
        go_ret
        exact ⟨ret_bool (unhide HG).symm, unhide HA⟩
    · skip
      cases en : (q.n.toList.isEmpty)
      · skip
        have HF := unhide HY
        rw [ev, en] at HF
        have HG := hide HF
        clear HF
        go_wp2_with (go_at_call 46; refine (in_any _ _ _ _).mono ?_; rintro e w' ⟨rfl, hw⟩; replace hw := hw.symm; subst hw; rw [hb])
        go_ret
        exact ⟨ret_bool (unhide HG).symm, unhide HA⟩
      · skip
        have HF := unhide HY
        rw [ev, en] at HF
        have HG := hide HF
        clear HF
        go_wp2_with (go_at_call 46; refine (in_any _ _ _ _).mono ?_; rintro e w' ⟨rfl, hw⟩; replace hw := hw.symm; subst hw; rw [hb])
        go_ret
        exact ⟨ret_bool (unhide HG).symm, unhide HA⟩
  · have HY := hide ((unhide HX).trans (useB_2 h))
    rw [h] at c0 hb
    clear HX h
    cases en : (q.n.toList.isEmpty)
    · skip
      have HF := unhide HY
      rw [en] at HF
      have HG := hide HF
      clear HF
      go_wp2_with (go_at_call 46; refine (in_any _ _ _ _).mono ?_; rintro e w' ⟨rfl, hw⟩; replace hw := hw.symm; subst hw; rw [hb])
      go_ret
      exact ⟨ret_bool (unhide HG).symm, unhide HA⟩
    · skip
      have HF := unhide HY
      rw [en] at HF
      have HG := hide HF
      clear HF
      go_wp2_with (go_at_call 46; refine (in_any _ _ _ _).mono ?_; rintro e w' ⟨rfl, hw⟩; replace hw := hw.symm; subst hw; rw [hb])
      go_ret
      exact ⟨ret_bool (unhide HG).symm, unhide HA⟩
  · have HY := hide ((unhide HX).trans (useB_1 (.inr (.inl h))))
    rw [h] at c0 hb
    clear HX h
    cases ev : (q.v == 0)
    · skip
      cases en : (q.n.toList.isEmpty)
      · skip
        have HF := unhide HY
        rw [ev, en] at HF
        have HG := hide HF
        clear HF
        go_wp2_with (go_at_call 46; refine (in_any _ _ _ _).mono ?_; rintro e w' ⟨rfl, hw⟩; replace hw := hw.symm; subst hw; rw [hb])
        go_ret
        exact ⟨ret_bool (unhide HG).symm, unhide HA⟩
      · skip
        have HF := unhide HY
        rw [ev, en] at HF
        have HG := hide HF
        clear HF
        go_wp2_with (go_at_call 46; refine (in_any _ _ _ _).mono ?_; rintro e w' ⟨rfl, hw⟩; replace hw := hw.symm; subst hw; rw [hb])
        go_ret
        exact ⟨ret_bool (unhide HG).symm, unhide HA⟩
    · skip
      cases en : (q.n.toList.isEmpty)
      · skip
        have HF := unhide HY
        rw [ev, en] at HF
        have HG := hide HF
        clear HF
        go_wp2_with (go_at_call 46; refine (in_any _ _ _ _).mono ?_; rintro e w' ⟨rfl, hw⟩; replace hw := hw.symm; subst hw; rw [hb])
        go_ret
        exact ⟨ret_bool (unhide HG).symm, unhide HA⟩
      · skip
        have HF := unhide HY
        rw [ev, en] at HF
        have HG := hide HF
        clear HF
        go_wp2_with (go_at_call 46; refine (in_any _ _ _ _).mono ?_; rintro e w' ⟨rfl, hw⟩; replace hw := hw.symm; subst hw; rw [hb])
        go_ret
        exact ⟨ret_bool (unhide HG).symm, unhide HA⟩
  · have HY := hide ((unhide HX).trans (useB_1 (.inr (.inr h))))
    rw [h] at c0 hb
    clear HX h
    cases ev : (q.v == 0)
    · skip
      cases en : (q.n.toList.isEmpty)
      · skip
        have HF := unhide HY
        rw [ev, en] at HF
        have HG := hide HF
        clear HF
        go_wp2_with (go_at_call 46; refine (in_any _ _ _ _).mono ?_; rintro e w' ⟨rfl, hw⟩; replace hw := hw.symm; subst hw; rw [hb])
        go_ret
        exact ⟨ret_bool (unhide HG).symm, unhide HA⟩
      · skip
        have HF := unhide HY
        rw [ev, en] at HF
        have HG := hide HF
        clear HF
        go_wp2_with (go_at_call 46; refine (in_any _ _ _ _).mono ?_; rintro e w' ⟨rfl, hw⟩; replace hw := hw.symm; subst hw; rw [hb])
        go_ret
        exact ⟨ret_bool (unhide HG).symm, unhide HA⟩
    · skip
      cases en : (q.n.toList.isEmpty)
      · skip
        have HF := unhide HY
        rw [ev, en] at HF
        have HG := hide HF
        clear HF
        go_wp2_with (go_at_call 46; refine (in_any _ _ _ _).mono ?_; rintro e w' ⟨rfl, hw⟩; replace hw := hw.symm; subst hw; rw [hb])
        go_ret
        exact ⟨ret_bool (unhide HG).symm, unhide HA⟩
      · skip
        have HF := unhide HY
        rw [ev, en] at HF
        have HG := hide HF
        clear HF
        go_wp2_with (go_at_call 46; refine (in_any _ _ _ _).mono ?_; rintro e w' ⟨rfl, hw⟩; replace hw := hw.symm; subst hw; rw [hb])
        go_ret
        exact ⟨ret_bool (unhide HG).symm, unhide HA⟩
  · have HY := hide ((unhide HX).trans (useB_5 (.inl h)))
    rw [h] at c0 hb
    clear HX h
    cases eg : (q.g == 0)
    · skip
      cases ev : (q.v == 0)
      · skip
        have HF := unhide HY
        rw [eg, ev] at HF
        have HG := hide HF
        clear HF
        go_wp2_with (go_at_call 46; refine (in_any _ _ _ _).mono ?_; rintro e w' ⟨rfl, hw⟩; replace hw := hw.symm; subst hw; rw [hb])
        go_ret
        exact ⟨ret_bool (unhide HG).symm, unhide HA⟩
      · skip
        have HF := unhide HY
        rw [eg, ev] at HF
        have HG := hide HF
        clear HF
        go_wp2_with (go_at_call 46; refine (in_any _ _ _ _).mono ?_; rintro e w' ⟨rfl, hw⟩; replace hw := hw.symm; subst hw; rw [hb])
        go_ret
        exact ⟨ret_bool (unhide HG).symm, unhide HA⟩
    · skip
      cases ev : (q.v == 0)
      · skip
        have HF := unhide HY
        rw [eg, ev] at HF
        have HG := hide HF
        clear HF
        go_wp2_with (go_at_call 46; refine (in_any _ _ _ _).mono ?_; rintro e w' ⟨rfl, hw⟩; replace hw := hw.symm; subst hw; rw [hb])
        go_ret
        exact ⟨ret_bool (unhide HG).symm, unhide HA⟩
      · skip
        have HF := unhide HY
        rw [eg, ev] at HF
        have HG := hide HF
        clear HF
        go_wp2_with (go_at_call 46; refine (in_any _ _ _ _).mono ?_; rintro e w' ⟨rfl, hw⟩; replace hw := hw.symm; subst hw; rw [hb])
        go_ret
        exact ⟨ret_bool (unhide HG).symm, unhide HA⟩
  · have HY := hide ((unhide HX).trans (useB_5 (.inr (.inl h))))
    rw [h] at c0 hb
    clear HX h
    cases eg : (q.g == 0)
    · skip
      cases ev : (q.v == 0)
      · skip
        have HF := unhide HY
        rw [eg, ev] at HF
        have HG := hide HF
        clear HF
        go_wp2_with (go_at_call 46; refine (in_any _ _ _ _).mono ?_; rintro e w' ⟨rfl, hw⟩; replace hw := hw.symm; subst hw; rw [hb])
        go_ret
        exact ⟨ret_bool (unhide HG).symm, unhide HA⟩
      · skip
        have HF := unhide HY
        rw [eg, ev] at HF
        have HG := hide HF
        clear HF
        go_wp2_with (go_at_call 46; refine (in_any _ _ _ _).mono ?_; rintro e w' ⟨rfl, hw⟩; replace hw := hw.symm; subst hw; rw [hb])
        go_ret
        exact ⟨ret_bool (unhide HG).symm, unhide HA⟩
    · skip
      cases ev : (q.v == 0)
      · skip
        have HF := unhide HY
        rw [eg, ev] at HF
        have HG := hide HF
        clear HF
        go_wp2_with (go_at_call 46; refine (in_any _ _ _ _).mono ?_; rintro e w' ⟨rfl, hw⟩; replace hw := hw.symm; subst hw; rw [hb])
        go_ret
        exact ⟨ret_bool (unhide HG).symm, unhide HA⟩
      · skip
        have HF := unhide HY
        rw [eg, ev] at HF
        have HG := hide HF
        clear HF
        go_wp2_with (go_at_call 46; refine (in_any _ _ _ _).mono ?_; rintro e w' ⟨rfl, hw⟩; replace hw := hw.symm; subst hw; rw [hb])
        go_ret
        exact ⟨ret_bool (unhide HG).symm, unhide HA⟩
  · have HY := hide ((unhide HX).trans (useB_5 (.inr (.inr h))))
    rw [h] at c0 hb
    clear HX h
    cases eg : (q.g == 0)
    · skip
      cases ev : (q.v == 0)
      · skip
        have HF := unhide HY
        rw [eg, ev] at HF
        have HG := hide HF
        clear HF
        go_wp2_with (go_at_call 46; refine (in_any _ _ _ _).mono ?_; rintro e w' ⟨rfl, hw⟩; replace hw := hw.symm; subst hw; rw [hb])
        go_ret
        exact ⟨ret_bool (unhide HG).symm, unhide HA⟩
      · skip
        have HF := unhide HY
        rw [eg, ev] at HF
        have HG := hide HF
        clear HF
        go_wp2_with (go_at_call 46; refine (in_any _ _ _ _).mono ?_; rintro e w' ⟨rfl, hw⟩; replace hw := hw.symm; subst hw; rw [hb])
        go_ret
        exact ⟨ret_bool (unhide HG).symm, unhide HA⟩
    · skip
      cases ev : (q.v == 0)
      · skip
        have HF := unhide HY
        rw [eg, ev] at HF
        have HG := hide HF
        clear HF
        go_wp2_with (go_at_call 46; refine (in_any _ _ _ _).mono ?_; rintro e w' ⟨rfl, hw⟩; replace hw := hw.symm; subst hw; rw [hb])
        go_ret
        exact ⟨ret_bool (unhide HG).symm, unhide HA⟩
      · skip
        have HF := unhide HY
        rw [eg, ev] at HF
        have HG := hide HF
        clear HF
        go_wp2_with (go_at_call 46; refine (in_any _ _ _ _).mono ?_; rintro e w' ⟨rfl, hw⟩; replace hw := hw.symm; subst hw; rw [hb])
        go_ret
        exact ⟨ret_bool (unhide HG).symm, unhide HA⟩
  · have HY := hide ((unhide HX).trans (useB_8 h))
    rw [h] at c0 hb
    clear HX h
    cases eg : (q.g == 0)
    · skip
      cases ev : (q.v == 0)
      · skip
        cases en : (q.n.toList.isEmpty)
        · skip
          have HF := unhide HY
          rw [eg, ev, en] at HF
          have HG := hide HF
          clear HF
          go_wp2_with (go_at_call 46; refine (in_any _ _ _ _).mono ?_; rintro e w' ⟨rfl, hw⟩; replace hw := hw.symm; subst hw; rw [hb])
          go_ret
          exact ⟨ret_bool (unhide HG).symm, unhide HA⟩
        · skip
          have HF := unhide HY
          rw [eg, ev, en] at HF
          have HG := hide HF
          clear HF
          go_wp2_with (go_at_call 46; refine (in_any _ _ _ _).mono ?_; rintro e w' ⟨rfl, hw⟩; replace hw := hw.symm; subst hw; rw [hb])
          go_ret
          exact ⟨ret_bool (unhide HG).symm, unhide HA⟩
      · skip
        cases en : (q.n.toList.isEmpty)
        · skip
          have HF := unhide HY
          rw [eg, ev, en] at HF
          have HG := hide HF
          clear HF
          go_wp2_with (go_at_call 46; refine (in_any _ _ _ _).mono ?_; rintro e w' ⟨rfl, hw⟩; replace hw := hw.symm; subst hw; rw [hb])
          go_ret
          exact ⟨ret_bool (unhide HG).symm, unhide HA⟩
        · skip
          have HF := unhide HY
          rw [eg, ev, en] at HF
          have HG := hide HF
          clear HF
          go_wp2_with (go_at_call 46; refine (in_any _ _ _ _).mono ?_; rintro e w' ⟨rfl, hw⟩; replace hw := hw.symm; subst hw; rw [hb])
          go_ret
          exact ⟨ret_bool (unhide HG).symm, unhide HA⟩
    · skip
      cases ev : (q.v == 0)
      · skip
        cases en : (q.n.toList.isEmpty)
        · skip
          have HF := unhide HY
          rw [eg, ev, en] at HF
          have HG := hide HF
          clear HF
          go_wp2_with (go_at_call 46; refine (in_any _ _ _ _).mono ?_; rintro e w' ⟨rfl, hw⟩; replace hw := hw.symm; subst hw; rw [hb])
          go_ret
          exact ⟨ret_bool (unhide HG).symm, unhide HA⟩
        · skip
          have HF := unhide HY
          rw [eg, ev, en] at HF
          have HG := hide HF
          clear HF
          go_wp2_with (go_at_call 46; refine (in_any _ _ _ _).mono ?_; rintro e w' ⟨rfl, hw⟩; replace hw := hw.symm; subst hw; rw [hb])
          go_ret
          exact ⟨ret_bool (unhide HG).symm, unhide HA⟩
      · skip
        cases en : (q.n.toList.isEmpty)
        · skip
          have HF := unhide HY
          rw [eg, ev, en] at HF
          have HG := hide HF
          clear HF
          go_wp2_with (go_at_call 46; refine (in_any _ _ _ _).mono ?_; rintro e w' ⟨rfl, hw⟩; replace hw := hw.symm; subst hw; rw [hb])
          go_ret
          exact ⟨ret_bool (unhide HG).symm, unhide HA⟩
        · skip
          have HF := unhide HY
          rw [eg, ev, en] at HF
          have HG := hide HF
          clear HF
          go_wp2_with (go_at_call 46; refine (in_any _ _ _ _).mono ?_; rintro e w' ⟨rfl, hw⟩; replace hw := hw.symm; subst hw; rw [hb])
          go_ret
          exact ⟨ret_bool (unhide HG).symm, unhide HA⟩

end Go.Proofs.Ytkaiglhljpehpab
