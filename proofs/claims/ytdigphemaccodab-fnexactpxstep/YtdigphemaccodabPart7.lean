import Derived.Test.YtdigphemaccodabRows
import Derived.Test.YtdigphemaccodabPart1
import Derived.Test.YtdigphemaccodabPart2
import Derived.Test.YtdigphemaccodabPart3
import Derived.Test.YtdigphemaccodabPart4
import Derived.Test.YtdigphemaccodabPart5
import Derived.Test.YtdigphemaccodabPart6
import Derived.WalkKit
import Derived.WalkSpells
import Derived.KernelRfl
import Derived.Deep.CutRange
import Derived.BigQuiet
import Derived.Deep.QuietTactic
import Derived.Deep.RegionWith
import Derived.LoopN
import Derived.Lib.SmallJoins

/- The program's PxStep. -/
namespace Go.Proofs.Ytdigphemaccodab
open Go.RowKit
set_option linter.unusedVariables false
set_option maxRecDepth 100000

theorem stepped_end {w W : World} {p p' : Pxs} {xs bs' : List Bk} {c : Int} {qo : Option Addr} {qa : Nat} (h : stP p xs = p' ∧ stL p xs = bs' ∧ stC p xs = stEnd p) (hx : bs'.length = 4) (hc : stEnd p = c)
    (hO : OwnR W w.heap.size 55 4 (.slice qo 4 qa) 4 (bksV bs') ∧ Below w.heap.size w W) : Stepped w W p xs (.returned (.tuple #[pV p', .slice qo 4 qa, .int .i64 c])) := by
  unfold Stepped
  rw [h.1, h.2.1, h.2.2, hx, hc]
  exact ⟨qo, qa, rfl, hO.1, hO.2⟩
theorem st_fault {p : Pxs} {xs : List Bk} (h : ¬ bfC xs = 0) : stP p xs = p00 ∧ stL p xs = [] ∧ stC p xs = bfC xs := by
  by_cases hl : 4096 < xs.length
  · have := st_long (p := p) hl
    rw [bfC_long hl]; exact this
  · by_cases hb : bksB xs = true
    · exact absurd (bfC_ok hl hb) h
    · rw [Bool.not_eq_true] at hb
      rw [bfC_bad hl hb]
      exact st_bad hl (by rw [hb]; simp)

set_option maxHeartbeats 3200000 in
theorem pxStep_impl (p : Pxs) (ao : Option Addr) (ca : Nat) (xs : List Bk) (w : World) (hl : xs.length ≤ 1048576) (hc : Bks w ao xs) : Calls Try.prog 17 #[pV p, .slice ao xs.length ca] w fun e w' => Stepped w w' p xs e := by
  have HC := hide hc
  clear hc
  have H0 := hide (pxAt0 w p)
  go_enter Try.func17, Try.ntmps17
  go_wp2_with fail
  refine (blocksFault_any ao ca xs _ hl ((unhide HC).below (unhide H0).k)).mono ?_
  rintro e W1 ⟨rfl, hb⟩
  have E1 := hide ((unhide H0).below hb)
  clear hb H0
  by_cases hf : ¬ bfC xs = 0
  · have HE : Hid (stP p xs = p00 ∧ stL p xs = [] ∧ stC p xs = bfC xs) := hide (st_fault hf)
    have hb : (bfC xs != 0) = true := by simp [hf]
    clear hf
    revert HE hb
    generalize bfC xs = c9
    intro HE hb
    obtain ⟨r0, r1, r2, r3, r4, r5, r6, r7⟩ := (unhide E1).r.cells
    obtain ⟨s0, s1, s2, s3, s4, s5, s6, s7⟩ := (unhide E1).r.free
    have HK := hide (fun u0 u1 u2 u3 u4 u5 u6 u7 => below8 (unhide E1).k (show w.heap.size ≤ w.heap.size + 1 by omega) u0 u1 u2 u3 u4 u5 u6 u7)
    go_wp2
    exact bodyPost_ret (v := .tuple #[pV p00, .slice none 0 0, .int .i64 c9]) (by simp [results, Try.results17, go_sem, r0, r1, r2, r3, r4, r5, r6, r7, p00]) rfl (stepped_none _ (unhide HE) (unhide HK _ _ _ _ _ _ _ _))
  rw [Decidable.not_not] at hf
  have hlong : ¬ 4096 < xs.length := fun h => by rw [bfC_long h] at hf; exact absurd hf (by decide)
  have h2 := bfC_zero hf
  have hb0 : (bfC xs != 0) = false := by simp [hf]
  clear hf
  revert hb0
  generalize bfC xs = c9
  intro hb0
  obtain ⟨c0, c1, c2, c3, c4, c5, c6, c7⟩ := (unhide E1).v.cells
  go_wp2_with fail
  refine (pxOK_impl p _).mono ?_
  rintro e W2 ⟨rfl, hb⟩
  have E2 := hide ((unhide E1).below hb)
  clear hb E1 c0 c1 c2 c3 c4 c5 c6 c7
  by_cases h1 : pxB p = false
  · have HE := hide (st_bad (p := p) (xs := xs) hlong (by rw [h1]; rfl))
    obtain ⟨r0, r1, r2, r3, r4, r5, r6, r7⟩ := (unhide E2).r.cells
    obtain ⟨s0, s1, s2, s3, s4, s5, s6, s7⟩ := (unhide E2).r.free
    have HK := hide (fun u0 u1 u2 u3 u4 u5 u6 u7 => below8 (unhide E2).k (show w.heap.size ≤ w.heap.size + 1 by omega) u0 u1 u2 u3 u4 u5 u6 u7)
    go_wp2
    exact bodyPost_ret (v := .tuple #[pV p00, .slice none 0 0, .int .i64 1]) (by simp [results, Try.results17, go_sem, r0, r1, r2, r3, r4, r5, r6, r7, p00]) rfl (stepped_none _ (unhide HE) (unhide HK _ _ _ _ _ _ _ _))
  rw [Bool.not_eq_false] at h1
  have HE := hide (st_ok hlong h1 h2)
  have HX := hide (bksB_parts h2).1
  have hp := pxB_iff.1 h1
  have HH : Hid (0 ≤ p.host ∧ p.host ≤ 3) := hide hp.1
  have HN : Hid (0 ≤ p.next ∧ p.next ≤ 4) := hide hp.2.2.2.2.2.2.1
  have HP : Hid (1 ≤ p.phase ∧ p.phase ≤ 6) := hide hp.2.2.1
  clear hp h2 hlong
  go_wp2_with fail
  refine (copyK_any ao ca xs _ hl (by have := unhide HX; omega) ((unhide HC).below (unhide E2).k)).mono ?_
  rintro e W3 ⟨rfl, ho, hb⟩
  have E3 : Hid (StAt w W3 w.heap.size p (some ⟨W2.heap.size, 0, none⟩) xs.length xs) := hide ⟨(unhide E2).below hb, .inr ⟨by omega, by have h4 := unhide HX; have h5 := own_base ho (B' := w.heap.size + 2) (by have := (unhide E2).r.lt; omega); rw [h4] at h5 ⊢; exact h5⟩⟩
  have hx4 := unhide HX
  rw [hx4] at E3 ⊢
  clear hb ho E2 hx4
  revert E3
  generalize W2.heap.size = g
  intro E3
  obtain ⟨c0, c1, c2, c3, c4, c5, c6, c7⟩ := (unhide E3).a.v.cells
  rcases (show p.phase = 1 ∨ p.phase = 2 ∨ p.phase = 3 ∨ p.phase = 4 ∨ (p.phase = 5 ∨ p.phase = 6) by have := unhide HP; omega) with hp | hp | hp | hp | hp
  · have HSE : Hid (stEnd p = 0) := hide (if_neg (by rw [hp]; decide))
    have HPS : Hid ((pxStepP p xs).2.length = 4) := hide ((pxStep_len p xs).trans (unhide HX))
    have HPH := hide hp
    clear hp
    go_wp2_with fail
    refine (phaseOf_1 p.phase _ (unhide HPH)).mono ?_
    rintro e W4 ⟨rfl, hw⟩
    replace hw := hw.symm
    subst hw
    go_wp2_with fail
    refine (beginBallot_any p g 4 (w.heap.size + 2) xs _ (unhide HPH) (unhide HX) (unhide HH) (unhide E3).row).mono ?_
    rintro e W6 ⟨rfl, ho, hk⟩
    have E6 := hide ((unhide E3).did ho hk)
    clear ho hk
    clear c0 c1 c2 c3 c4 c5 c6 c7
    generalize (pxStepP p xs).1 = P1 at *
    generalize (pxStepP p xs).2 = B1 at *
    obtain ⟨c0, c1, c2, c3, c4, c5, c6, c7⟩ := (unhide E6).a.v.cells
    obtain ⟨f0, f1, f2, f3, f4, f5, f6, f7⟩ := (unhide E6).a.v.free
    have E7 := hide ((unhide E6).all P1)
    go_upto_region 11 with fail
    clear c0 c1 c2 c3 c4 c5 c6 c7 f0 f1 f2 f3 f4 f5 f6 f7 E6
    revert E7
    generalize (((((((W6.setCell ⟨w.heap.size, 0, none⟩ (.int .i64 P1.host)).setCell ⟨w.heap.size, 1, none⟩ (.int .i64 P1.ver)).setCell ⟨w.heap.size, 2, none⟩ (.int .i64 P1.phase)).setCell ⟨w.heap.size, 3, none⟩ (.int .i64 P1.ballot)).setCell ⟨w.heap.size, 4, none⟩ (.int .i64 P1.value)).setCell ⟨w.heap.size, 5, none⟩ (.int .i64 P1.next)).setCell ⟨w.heap.size, 6, none⟩ (.int .i64 P1.best)).setCell ⟨w.heap.size, 7, none⟩ (.int .i64 P1.bestBal) = W7
    intro E7
    obtain ⟨c0, c1, c2, c3, c4, c5, c6, c7⟩ := (unhide E7).a.v.cells
    obtain ⟨r0, r1, r2, r3, r4, r5, r6, r7⟩ := (unhide E7).a.r.cells
    obtain ⟨s0, s1, s2, s3, s4, s5, s6, s7⟩ := (unhide E7).a.r.free
    have HK := hide (fun u0 u1 u2 u3 u4 u5 u6 u7 => (unhide E7).out u0 u1 u2 u3 u4 u5 u6 u7)
    go_wp2
    exact bodyPost_ret (v := .tuple #[pV P1, .slice (some ⟨g, 0, none⟩) 4 4, .int .i64 0]) (by simp [results, Try.results17, go_sem, r0, r1, r2, r3, r4, r5, r6, r7]) rfl (stepped_end (unhide HE) (unhide HPS) (unhide HSE) (unhide HK _ _ _ _ _ _ _ _))
  · have HSE : Hid (stEnd p = 0) := hide (if_neg (by rw [hp]; decide))
    have HPS : Hid ((pxStepP p xs).2.length = 4) := hide ((pxStep_len p xs).trans (unhide HX))
    have HRD : Hid (pxStepP p xs = (pxRd p xs, xs)) := hide (pxStepP_rd xs (by rw [hp]; decide))
    have HPH := hide hp
    clear hp
    go_wp2_with fail
    refine (phaseOf_2 p.phase _ (unhide HPH)).mono ?_
    rintro e W4 ⟨a, b, rfl, ha, hb', hb⟩
    have HA := hide ha
    have HB := hide hb'
    have E4 := hide ((unhide E3).below hb)
    clear ha hb' hb E3 c0 c1 c2 c3 c4 c5 c6 c7
    obtain ⟨c0, c1, c2, c3, c4, c5, c6, c7⟩ := (unhide E4).a.v.cells
    go_wp2_with fail
    refine (readBallot1_any _ _ _ _ 2 heed2 p (some ⟨g, 0, none⟩) 4 4 a b xs _ (unhide HX) rfl (unhide HPH) (unhide HH) (unhide HN) ((unhide E4).bks (unhide HX)) (unhide HA) (unhide HB)).mono ?_
    rintro e W6 ⟨rfl, hb⟩
    have E5 := hide ((unhide E4).below hb)
    have E6 : Hid (StAt w W6 w.heap.size p (some ⟨g, 0, none⟩) 4 (pxStepP p xs).2) := hide (by rw [unhide HRD]; exact unhide E5)
    rw [show pxRd p xs = (pxStepP p xs).1 from by rw [unhide HRD]]
    clear hb E5 HRD
    clear c0 c1 c2 c3 c4 c5 c6 c7
    generalize (pxStepP p xs).1 = P1 at *
    generalize (pxStepP p xs).2 = B1 at *
    obtain ⟨c0, c1, c2, c3, c4, c5, c6, c7⟩ := (unhide E6).a.v.cells
    obtain ⟨f0, f1, f2, f3, f4, f5, f6, f7⟩ := (unhide E6).a.v.free
    have E7 := hide ((unhide E6).all P1)
    go_upto_region 11 with fail
    clear c0 c1 c2 c3 c4 c5 c6 c7 f0 f1 f2 f3 f4 f5 f6 f7 E6
    revert E7
    generalize (((((((W6.setCell ⟨w.heap.size, 0, none⟩ (.int .i64 P1.host)).setCell ⟨w.heap.size, 1, none⟩ (.int .i64 P1.ver)).setCell ⟨w.heap.size, 2, none⟩ (.int .i64 P1.phase)).setCell ⟨w.heap.size, 3, none⟩ (.int .i64 P1.ballot)).setCell ⟨w.heap.size, 4, none⟩ (.int .i64 P1.value)).setCell ⟨w.heap.size, 5, none⟩ (.int .i64 P1.next)).setCell ⟨w.heap.size, 6, none⟩ (.int .i64 P1.best)).setCell ⟨w.heap.size, 7, none⟩ (.int .i64 P1.bestBal) = W7
    intro E7
    obtain ⟨c0, c1, c2, c3, c4, c5, c6, c7⟩ := (unhide E7).a.v.cells
    obtain ⟨r0, r1, r2, r3, r4, r5, r6, r7⟩ := (unhide E7).a.r.cells
    obtain ⟨s0, s1, s2, s3, s4, s5, s6, s7⟩ := (unhide E7).a.r.free
    have HK := hide (fun u0 u1 u2 u3 u4 u5 u6 u7 => (unhide E7).out u0 u1 u2 u3 u4 u5 u6 u7)
    go_wp2
    exact bodyPost_ret (v := .tuple #[pV P1, .slice (some ⟨g, 0, none⟩) 4 4, .int .i64 0]) (by simp [results, Try.results17, go_sem, r0, r1, r2, r3, r4, r5, r6, r7]) rfl (stepped_end (unhide HE) (unhide HPS) (unhide HSE) (unhide HK _ _ _ _ _ _ _ _))
  · have HSE : Hid (stEnd p = 0) := hide (if_neg (by rw [hp]; decide))
    have HPS : Hid ((pxStepP p xs).2.length = 4) := hide ((pxStep_len p xs).trans (unhide HX))
    have HPH := hide hp
    clear hp
    go_wp2_with fail
    refine (phaseOf_3 p.phase _ (unhide HPH)).mono ?_
    rintro e W4 ⟨rfl, hw⟩
    replace hw := hw.symm
    subst hw
    go_wp2_with fail
    refine (acceptValue_any p g 4 (w.heap.size + 2) xs _ (unhide HPH) (unhide HX) (unhide HH) (unhide E3).row).mono ?_
    rintro e W6 ⟨rfl, ho, hk⟩
    have E6 := hide ((unhide E3).did ho hk)
    clear ho hk
    clear c0 c1 c2 c3 c4 c5 c6 c7
    generalize (pxStepP p xs).1 = P1 at *
    generalize (pxStepP p xs).2 = B1 at *
    obtain ⟨c0, c1, c2, c3, c4, c5, c6, c7⟩ := (unhide E6).a.v.cells
    obtain ⟨f0, f1, f2, f3, f4, f5, f6, f7⟩ := (unhide E6).a.v.free
    have E7 := hide ((unhide E6).all P1)
    go_upto_region 11 with fail
    clear c0 c1 c2 c3 c4 c5 c6 c7 f0 f1 f2 f3 f4 f5 f6 f7 E6
    revert E7
    generalize (((((((W6.setCell ⟨w.heap.size, 0, none⟩ (.int .i64 P1.host)).setCell ⟨w.heap.size, 1, none⟩ (.int .i64 P1.ver)).setCell ⟨w.heap.size, 2, none⟩ (.int .i64 P1.phase)).setCell ⟨w.heap.size, 3, none⟩ (.int .i64 P1.ballot)).setCell ⟨w.heap.size, 4, none⟩ (.int .i64 P1.value)).setCell ⟨w.heap.size, 5, none⟩ (.int .i64 P1.next)).setCell ⟨w.heap.size, 6, none⟩ (.int .i64 P1.best)).setCell ⟨w.heap.size, 7, none⟩ (.int .i64 P1.bestBal) = W7
    intro E7
    obtain ⟨c0, c1, c2, c3, c4, c5, c6, c7⟩ := (unhide E7).a.v.cells
    obtain ⟨r0, r1, r2, r3, r4, r5, r6, r7⟩ := (unhide E7).a.r.cells
    obtain ⟨s0, s1, s2, s3, s4, s5, s6, s7⟩ := (unhide E7).a.r.free
    have HK := hide (fun u0 u1 u2 u3 u4 u5 u6 u7 => (unhide E7).out u0 u1 u2 u3 u4 u5 u6 u7)
    go_wp2
    exact bodyPost_ret (v := .tuple #[pV P1, .slice (some ⟨g, 0, none⟩) 4 4, .int .i64 0]) (by simp [results, Try.results17, go_sem, r0, r1, r2, r3, r4, r5, r6, r7]) rfl (stepped_end (unhide HE) (unhide HPS) (unhide HSE) (unhide HK _ _ _ _ _ _ _ _))
  · have HSE : Hid (stEnd p = 0) := hide (if_neg (by rw [hp]; decide))
    have HPS : Hid ((pxStepP p xs).2.length = 4) := hide ((pxStep_len p xs).trans (unhide HX))
    have HRD : Hid (pxStepP p xs = (pxRd p xs, xs)) := hide (pxStepP_rd xs (by rw [hp]; decide))
    have HPH := hide hp
    clear hp
    go_wp2_with fail
    refine (phaseOf_4 p.phase _ (unhide HPH)).mono ?_
    rintro e W4 ⟨a, b, rfl, ha, hb', hb⟩
    have HA := hide ha
    have HB := hide hb'
    have E4 := hide ((unhide E3).below hb)
    clear ha hb' hb E3 c0 c1 c2 c3 c4 c5 c6 c7
    obtain ⟨c0, c1, c2, c3, c4, c5, c6, c7⟩ := (unhide E4).a.v.cells
    go_wp2_with fail
    refine (readBallot1_any _ _ _ _ 4 heed4 p (some ⟨g, 0, none⟩) 4 4 a b xs _ (unhide HX) rfl (unhide HPH) (unhide HH) (unhide HN) ((unhide E4).bks (unhide HX)) (unhide HA) (unhide HB)).mono ?_
    rintro e W6 ⟨rfl, hb⟩
    have E5 := hide ((unhide E4).below hb)
    have E6 : Hid (StAt w W6 w.heap.size p (some ⟨g, 0, none⟩) 4 (pxStepP p xs).2) := hide (by rw [unhide HRD]; exact unhide E5)
    rw [show pxRd p xs = (pxStepP p xs).1 from by rw [unhide HRD]]
    clear hb E5 HRD
    clear c0 c1 c2 c3 c4 c5 c6 c7
    generalize (pxStepP p xs).1 = P1 at *
    generalize (pxStepP p xs).2 = B1 at *
    obtain ⟨c0, c1, c2, c3, c4, c5, c6, c7⟩ := (unhide E6).a.v.cells
    obtain ⟨f0, f1, f2, f3, f4, f5, f6, f7⟩ := (unhide E6).a.v.free
    have E7 := hide ((unhide E6).all P1)
    go_upto_region 11 with fail
    clear c0 c1 c2 c3 c4 c5 c6 c7 f0 f1 f2 f3 f4 f5 f6 f7 E6
    revert E7
    generalize (((((((W6.setCell ⟨w.heap.size, 0, none⟩ (.int .i64 P1.host)).setCell ⟨w.heap.size, 1, none⟩ (.int .i64 P1.ver)).setCell ⟨w.heap.size, 2, none⟩ (.int .i64 P1.phase)).setCell ⟨w.heap.size, 3, none⟩ (.int .i64 P1.ballot)).setCell ⟨w.heap.size, 4, none⟩ (.int .i64 P1.value)).setCell ⟨w.heap.size, 5, none⟩ (.int .i64 P1.next)).setCell ⟨w.heap.size, 6, none⟩ (.int .i64 P1.best)).setCell ⟨w.heap.size, 7, none⟩ (.int .i64 P1.bestBal) = W7
    intro E7
    obtain ⟨c0, c1, c2, c3, c4, c5, c6, c7⟩ := (unhide E7).a.v.cells
    obtain ⟨r0, r1, r2, r3, r4, r5, r6, r7⟩ := (unhide E7).a.r.cells
    obtain ⟨s0, s1, s2, s3, s4, s5, s6, s7⟩ := (unhide E7).a.r.free
    have HK := hide (fun u0 u1 u2 u3 u4 u5 u6 u7 => (unhide E7).out u0 u1 u2 u3 u4 u5 u6 u7)
    go_wp2
    exact bodyPost_ret (v := .tuple #[pV P1, .slice (some ⟨g, 0, none⟩) 4 4, .int .i64 0]) (by simp [results, Try.results17, go_sem, r0, r1, r2, r3, r4, r5, r6, r7]) rfl (stepped_end (unhide HE) (unhide HPS) (unhide HSE) (unhide HK _ _ _ _ _ _ _ _))
  · have HSE : Hid (stEnd p = 15) := hide (if_pos hp)
    have HPS : Hid (pxStepP p xs = (p, xs)) := hide (pxStepP_end xs hp)
    have HPH := hide hp
    clear hp
    go_wp2_with fail
    refine (phaseOf_5 p.phase _ (unhide HPH)).mono ?_
    rintro e W4 ⟨rfl, hw⟩
    replace hw := hw.symm
    subst hw
    obtain ⟨r0, r1, r2, r3, r4, r5, r6, r7⟩ := (unhide E3).a.r.cells
    obtain ⟨s0, s1, s2, s3, s4, s5, s6, s7⟩ := (unhide E3).a.r.free
    have HK := hide (fun u0 u1 u2 u3 u4 u5 u6 u7 => (unhide E3).out u0 u1 u2 u3 u4 u5 u6 u7)
    go_wp2
    exact bodyPost_ret (v := .tuple #[pV p, .slice (some ⟨g, 0, none⟩) 4 4, .int .i64 15]) (by simp [results, Try.results17, go_sem, r0, r1, r2, r3, r4, r5, r6, r7]) rfl (stepped_done (unhide HE) (unhide HX) (unhide HPS) (unhide HSE) (unhide HK _ _ _ _ _ _ _ _))
end Go.Proofs.Ytdigphemaccodab

/- Contracts of laws.toBlock, laws.eqBlock, laws.toPx, laws.eqPx. -/
namespace Go.Proofs.Ytdigphemaccodab
open Go.RowKit
set_option linter.unusedVariables false
set_option maxRecDepth 100000

set_option maxHeartbeats 1600000 in
theorem toBlock_any (x : Bk) (w : World) : Calls Try.prog 39 #[bV x] w fun e w' => e = .returned (bV x) ∧ Below w.heap.size w w' := by
  go_enter Try.func39, Try.ntmps39
  go_wp2
  exact bodyPost_ret (v := bV x) (by simp [results, Try.results39, go_sem]) rfl ⟨rfl, fr (Joins.below_alloc2 _ _ _) (Joins.below_alloc1 _ _)⟩

set_option maxHeartbeats 1600000 in
theorem eqBlock_same (x : Bk) (w : World) : Calls Try.prog 43 #[bV x, bV x] w fun e w' => e = .returned (.bool true) ∧ Below w.heap.size w w' := by
  go_enter Try.func43, Try.ntmps43
  go_wp2
  go_ret
  exact ⟨rfl, Joins.below_alloc2 _ _ _⟩

set_option maxHeartbeats 1600000 in
theorem toPx_any (x : Pxs) (w : World) : Calls Try.prog 9 #[pV x] w fun e w' => e = .returned (pV x) ∧ Below w.heap.size w w' := by
  go_enter Try.func9, Try.ntmps9
  go_wp2
  exact bodyPost_ret (v := pV x) (by simp [results, Try.results9, go_sem]) rfl ⟨rfl, fr (Joins.below_alloc2 _ _ _) (Joins.below_alloc1 _ _)⟩

set_option maxHeartbeats 1600000 in
theorem eqPx_same (x : Pxs) (w : World) : Calls Try.prog 13 #[pV x, pV x] w fun e w' => e = .returned (.bool true) ∧ Below w.heap.size w w' := by
  go_enter Try.func13, Try.ntmps13
  go_wp2
  go_ret
  exact ⟨rfl, Joins.below_alloc2 _ _ _⟩

end Go.Proofs.Ytdigphemaccodab

/- Contracts of the laws' own hands on lists of blocks: toBlockS, eqBlockS, szBlockS, markBlockS, heldBlockS. -/
namespace Go.Proofs.Ytdigphemaccodab
open Go.RowKit
set_option linter.unusedVariables false
set_option maxRecDepth 100000

theorem infoT : (Try.prog.info? 55).map (fun i => (i.zero, i.size, i.bytes)) = some (some (.agg #[.int .i64 0, .int .i64 0, .int .i64 0, .int .i64 0]), 4, 32) := by kernel_rfl
theorem stored4 {w : World} {B e size g n cap : Nat} {xs : List Value} (h : w.ownsRow B e size (.slice (some ⟨g, 0, none⟩) n cap) n xs) (i j k l : Nat) (u v x y : Value) :
    ((((w.setCell ⟨g, i, none⟩ u).setCell ⟨g, j, none⟩ v).setCell ⟨g, k, none⟩ x).setCell ⟨g, l, none⟩ y).ownsRow B e size (.slice (some ⟨g, 0, none⟩) n cap) n ((((xs.set i u).set j v).set k x).set l y) :=
  ((stored3 h i j k u v x).stored l y).1
theorem bks_take {ys : List Value} {xs : List Bk} {k : Nat} (hk : k < xs.length) (hl : ys.length = xs.length * 4) (h : ys.take (k * 4) = (bksV xs).take (k * 4)) :
    ((((ys.set (k * 4) (.int .i64 xs[k].ver)).set (k * 4 + 1) (.int .i64 xs[k].mbal)).set (k * 4 + 2) (.int .i64 xs[k].bal)).set (k * 4 + 3) (.int .i64 xs[k].inp)).take ((k + 1) * 4) = (bksV xs).take ((k + 1) * 4) := by
  obtain ⟨h0, h1, h2, h3⟩ := bksV_get hk
  have e0 := set_take' (by rw [hl, bksV_length]) h0 h
  have e1 := set_take' (by rw [List.length_set, hl, bksV_length]) h1 e0
  have e2 := set_take' (by rw [List.length_set, List.length_set, hl, bksV_length]) h2 e1
  have e3 := set_take' (by rw [List.length_set, List.length_set, List.length_set, hl, bksV_length]) h3 e2
  rw [show (k + 1) * 4 = k * 4 + 3 + 1 by omega]
  exact e3

set_option maxHeartbeats 1600000 in
theorem toBlockS_any (ao : Option Addr) (cap : Nat) (xs : List Bk) (w : World) (hl : xs.length ≤ 1048576) (hc : Bks w ao xs) :
    Calls Try.prog 16 #[.slice ao xs.length cap] w fun e w' => ∃ g, e = .returned (.slice (some ⟨g, 0, none⟩) xs.length xs.length) ∧ w'.ownsRow w.heap.size 55 4 (.slice (some ⟨g, 0, none⟩) xs.length xs.length) xs.length (bksV xs) ∧ Below w.heap.size w w' := by
  have HC := hide hc
  clear hc
  obtain ⟨i0, hi, hz0, hz1, hz2⟩ := info_parts infoT
  go_enter Try.func16, Try.ntmps16
  go_wp2_with (first | (at_make; refine wpList_make_full _ rfl _ _ 34 rfl w.heap.size 55 i0 _ 4 Try.underlying34 hi hz0 hz1 _ _ _ _ xs.length rfl rfl rfl rfl ?c1 ?c2 ?c3 ?_))
  case c1 => rw [hz2]; omega
  case c2 => unfold maxLen; omega
  case c3 => exact Nat.le_refl _
  intro w1 hown hgrow
  have hB : Below w.heap.size w w1 := (Below.refl _ _).grown hgrow (Nat.le_refl _) (fun _ h => by cases h)
  have HO := hide hown
  have HB := hide hB
  clear hown hB hgrow
  go_wp2
  go_loopw [4] (fun i wr => ∃ (k : Nat) (ys : List Value), k ≤ xs.length ∧ i = .int .i64 k ∧ Hid (ys.length = xs.length * 4) ∧ Hid (ys.take (k * 4) = (bksV xs).take (k * 4)) ∧ Hid (wr.ownsRow w.heap.size 55 4 (.slice (some ⟨w.heap.size, 0, none⟩) xs.length xs.length) xs.length ys) ∧ Hid (Below w.heap.size w wr)) (fun i _ => xs.length - (intOf i).toNat)
  case atStart => exact ⟨0, _, Nat.zero_le _, rfl, hide (by rw [(unhide HO).1]), hide (by simp), HO, HB⟩
  case round =>
    obtain ⟨k, ys, hk, rfl, HL, HT, HO, HB⟩ := hrel
    by_cases hlt : k < xs.length
    · obtain ⟨b, off, rfl, hc0, hc1, hc2, hc3⟩ := (unhide HC).below (unhide HB) k hlt
      go_wp2_with fail
      refine (toBlock_any xs[k] _).mono ?_
      rintro e w2 ⟨rfl, hb2⟩
      have HO2 := hide (own_below (unhide HO) hb2)
      have HB2 := hide ((unhide HB).trans (hb2.mono (unhide HB).size))
      clear hb2
      have hf0 := (unhide HO2).frozenAt (k * 4)
      have hf1 := (unhide HO2).frozenAt (k * 4 + 1)
      have hf2 := (unhide HO2).frozenAt (k * 4 + 2)
      have hf3 := (unhide HO2).frozenAt (k * 4 + 3)
      obtain ⟨x0, hx0⟩ : ∃ x, w2.cell? ⟨w.heap.size, k * 4, none⟩ = some x := ⟨_, ((unhide HO2).cellAt (k * 4) (by omega)).trans (List.getElem?_eq_getElem (by rw [unhide HL]; omega))⟩
      obtain ⟨x1, hx1⟩ : ∃ x, w2.cell? ⟨w.heap.size, k * 4 + 1, none⟩ = some x := ⟨_, ((unhide HO2).cellAt (k * 4 + 1) (by omega)).trans (List.getElem?_eq_getElem (by rw [unhide HL]; omega))⟩
      obtain ⟨x2, hx2⟩ : ∃ x, w2.cell? ⟨w.heap.size, k * 4 + 2, none⟩ = some x := ⟨_, ((unhide HO2).cellAt (k * 4 + 2) (by omega)).trans (List.getElem?_eq_getElem (by rw [unhide HL]; omega))⟩
      obtain ⟨x3, hx3⟩ : ∃ x, w2.cell? ⟨w.heap.size, k * 4 + 3, none⟩ = some x := ⟨_, ((unhide HO2).cellAt (k * 4 + 3) (by omega)).trans (List.getElem?_eq_getElem (by rw [unhide HL]; omega))⟩
      have HST := hide (stored4 (unhide HO2) (k * 4) (k * 4 + 1) (k * 4 + 2) (k * 4 + 3) (.int .i64 xs[k].ver) (.int .i64 xs[k].mbal) (.int .i64 xs[k].bal) (.int .i64 xs[k].inp))
      have HBT := hide (below4 (unhide HB2) (Nat.le_refl _) (k * 4) (k * 4 + 1) (k * 4 + 2) (k * 4 + 3) (.int .i64 xs[k].ver) (.int .i64 xs[k].mbal) (.int .i64 xs[k].bal) (.int .i64 xs[k].inp))
      go_wp2
      go_roundw
      case rel => exact ⟨k + 1, _, by omega, by go_num, hide (by rw [List.length_set, List.length_set, List.length_set, List.length_set]; exact unhide HL), hide (bks_take hlt (unhide HL) (unhide HT)), HST, HBT⟩
      case measure => simp [intOf]; omega
    · go_wp2
      go_ret
      have hkn : k = xs.length := by omega
      subst hkn
      have hxs : ys = bksV xs := by
        have := unhide HT
        rwa [List.take_of_length_le (by rw [unhide HL]; exact Nat.le_refl _), List.take_of_length_le (by rw [bksV_length]; exact Nat.le_refl _)] at this
      subst hxs
      exact ⟨_, rfl, unhide HO, unhide HB⟩

set_option maxHeartbeats 1600000 in
theorem eqBlockS_same (ao bo : Option Addr) (ca cb : Nat) (xs : List Bk) (w : World) (hl : xs.length ≤ 1048576) (hc : Bks w ao xs) (hd : Bks w bo xs) :
    Calls Try.prog 18 #[.slice ao xs.length ca, .slice bo xs.length cb] w fun e w' => e = .returned (.bool true) ∧ Below w.heap.size w w' := by
  have HC := hide hc
  have HD := hide hd
  clear hc hd
  go_enter Try.func18, Try.ntmps18
  go_wp2
  go_loopw [5] (fun i wr => ∃ k : Nat, k ≤ xs.length ∧ i = .int .i64 k ∧ Hid (Below w.heap.size w wr)) (fun i _ => xs.length - (intOf i).toNat)
  case atStart => exact ⟨0, Nat.zero_le _, rfl, hide (Below.refl _ _)⟩
  case round =>
    obtain ⟨k, hk, rfl, HB⟩ := hrel
    by_cases hlt : k < xs.length
    · obtain ⟨b, off, rfl, hc0, hc1, hc2, hc3⟩ := (unhide HC).below (unhide HB) k hlt
      obtain ⟨b', off', rfl, hd0, hd1, hd2, hd3⟩ := (unhide HD).below (unhide HB) k hlt
      go_wp2
      go_region_with (go_at_call 43; refine (eqBlock_same _ _).mono ?_; rintro e w2 ⟨rfl, hb2⟩)
      all_goals
        have HB2 : Hid (Below w.heap.size w w2) := hide (Below.trans (by repeat (first | exact unhide HB | apply Below.drew)) (hb2.mono (unhide HB).size))
        clear hb2
        go_wp2
        go_roundw
        case rel => exact ⟨k + 1, by omega, by go_num, HB2⟩
        case measure => simp [intOf]; omega
    · go_wp2
      go_ret
      exact ⟨rfl, unhide HB⟩

set_option maxHeartbeats 1600000 in
theorem szBlockS_any (ao : Option Addr) (n cap : Nat) (left : Int) (w : World) (h1 : left = 1048576) (hl : n ≤ 9223372036854775807) :
    Calls Try.prog 14 #[.slice ao n cap, .int .i64 left] w fun e w' => e = .returned (.int .i64 (if n ≤ 1048576 then 1048576 - n else -1)) ∧ Below w.heap.size w w' := by
  subst h1
  have wr1 : IntKind.i64.wrap (1048576 - (n : Int)) = 1048576 - (n : Int) := by rw [IntKind.wrap_i64]; omega
  by_cases h : n ≤ 1048576
  · have hb : ¬ (1048576 - (n : Int) < 0) := by omega
    rw [if_pos h]
    clear h
    go_enter Try.func14, Try.ntmps14
    go_wp2
    go_ret
    exact ⟨rfl, Below.refl _ _⟩
  · have hb : (1048576 - (n : Int) < 0) := by omega
    rw [if_neg h]
    clear h
    go_enter Try.func14, Try.ntmps14
    go_wp2
    go_ret
    exact ⟨rfl, Below.refl _ _⟩

/-- The marks of a row of blocks. -/
def mkB (k n : Nat) : List Bk := (List.range n).map fun i => ⟨((k + i * 4 : Nat) : Int), ((k + i * 4 + 1 : Nat) : Int), ((k + i * 4 + 2 : Nat) : Int), ((k + i * 4 + 3 : Nat) : Int)⟩
theorem mkB_length (k n : Nat) : (mkB k n).length = n := by simp [mkB]
theorem mkB_at {k n j : Nat} (h : j < (mkB k n).length) : (mkB k n)[j] = ⟨((k + j * 4 : Nat) : Int), ((k + j * 4 + 1 : Nat) : Int), ((k + j * 4 + 2 : Nat) : Int), ((k + j * 4 + 3 : Nat) : Int)⟩ := by simp [mkB]

set_option maxHeartbeats 1600000 in
theorem markBlockS_any (v : Value) (n k : Nat) (xs : List Value) (B : Nat) (w : World) (hn : n ≤ 4194304) (hk0 : 0 < k) (hk1 : k ≤ 268435456) (ho : OwnR w B 55 4 v n xs) :
    Calls Try.prog 19 #[v, .int .i64 k] w fun e w' => e = .returned (.int .i64 ((k + n * 4 : Nat) : Int)) ∧ OwnR w' B 55 4 v n (bksV (mkB k n)) ∧ Keep (Own v) w w' := by
  rcases ho with ⟨rfl, rfl, ao, rfl⟩ | ⟨hpos, ho'⟩
  · go_enter Try.func19, Try.ntmps19
    go_wp2
    refine wp_loop_rounds 1 ?_
    rw [rounds_succ]
    go_wp2
    go_ret
    refine ⟨ret_int (by simp), .inl ⟨rfl, rfl, ao, rfl⟩, Keep.refl _ _⟩
  · obtain ⟨g, cap, cur, rfl, _, _⟩ := own_form hpos ho'
    have HO := hide ho'
    clear ho'
    go_enter Try.func19, Try.ntmps19
    go_wp2
    go_loopw [1, 5] (fun kk i wr => ∃ (j : Nat) (ys : List Value), j ≤ n ∧ i = .int .i64 j ∧ kk = .int .i64 ((k + j * 4 : Nat) : Int) ∧ Hid (ys.length = n * 4) ∧ Hid (ys.take (j * 4) = (bksV (mkB k n)).take (j * 4)) ∧ Hid (wr.ownsRow B 55 4 (.slice (some ⟨g, 0, none⟩) n cap) n ys) ∧ Hid (Keep (Own (.slice (some ⟨g, 0, none⟩) n cap)) w wr)) (fun _ i _ => n - (intOf i).toNat)
    case atStart => exact ⟨0, xs, Nat.zero_le _, rfl, by simp, hide (by rw [(unhide HO).1]), hide (by simp), HO, hide (Keep.refl _ _)⟩
    case round =>
      obtain ⟨j, ys, hj, rfl, rfl, HL, HT, HO, HK⟩ := hrel
      by_cases hlt : j < n
      · have hf := fun i => (unhide HO).frozenAt i
        have hf0 := hf (j * 4)
        have hf1 := hf (j * 4 + 1)
        have hf2 := hf (j * 4 + 2)
        have hf3 := hf (j * 4 + 3)
        clear hf
        obtain ⟨x0, hx0⟩ : ∃ x, wr.cell? ⟨g, j * 4, none⟩ = some x := ⟨_, ((unhide HO).cellAt (j * 4) (by omega)).trans (List.getElem?_eq_getElem (by rw [unhide HL]; omega))⟩
        obtain ⟨x1, hx1⟩ : ∃ x, wr.cell? ⟨g, j * 4 + 1, none⟩ = some x := ⟨_, ((unhide HO).cellAt (j * 4 + 1) (by omega)).trans (List.getElem?_eq_getElem (by rw [unhide HL]; omega))⟩
        obtain ⟨x2, hx2⟩ : ∃ x, wr.cell? ⟨g, j * 4 + 2, none⟩ = some x := ⟨_, ((unhide HO).cellAt (j * 4 + 2) (by omega)).trans (List.getElem?_eq_getElem (by rw [unhide HL]; omega))⟩
        obtain ⟨x3, hx3⟩ : ∃ x, wr.cell? ⟨g, j * 4 + 3, none⟩ = some x := ⟨_, ((unhide HO).cellAt (j * 4 + 3) (by omega)).trans (List.getElem?_eq_getElem (by rw [unhide HL]; omega))⟩
        have HST := hide (stored4 (unhide HO) (j * 4) (j * 4 + 1) (j * 4 + 2) (j * 4 + 3) (.int .i64 ((k + j * 4 : Nat) : Int)) (.int .i64 ((k + j * 4 + 1 : Nat) : Int)) (.int .i64 ((k + j * 4 + 2 : Nat) : Int)) (.int .i64 ((k + j * 4 + 3 : Nat) : Int)))
        have HKS := hide (((((unhide HK).setCell (p := ⟨g, j * 4, none⟩) (own_of hpos rfl) (.int .i64 ((k + j * 4 : Nat) : Int))).setCell (p := ⟨g, j * 4 + 1, none⟩) (own_of hpos rfl) (.int .i64 ((k + j * 4 + 1 : Nat) : Int))).setCell (p := ⟨g, j * 4 + 2, none⟩) (own_of hpos rfl) (.int .i64 ((k + j * 4 + 2 : Nat) : Int))).setCell (p := ⟨g, j * 4 + 3, none⟩) (own_of hpos rfl) (.int .i64 ((k + j * 4 + 3 : Nat) : Int)))
        have HTT := hide (bks_take (xs := mkB k n) (k := j) (by rw [mkB_length]; exact hlt) (by rw [mkB_length]; exact unhide HL) (unhide HT))
        rw [mkB_at] at HTT
        go_wp2
        go_roundw
        case rel => exact ⟨j + 1, _, by omega, by go_num, by go_num, hide (by rw [List.length_set, List.length_set, List.length_set, List.length_set]; exact unhide HL), HTT, HST, HKS⟩
        case measure => simp [intOf]; omega
      · go_wp2
        go_ret
        have hjn : j = n := by omega
        subst hjn
        have hxs : ys = bksV (mkB k j) := by
          have := unhide HT
          rwa [List.take_of_length_le (by rw [unhide HL]; exact Nat.le_refl _), List.take_of_length_le (by rw [bksV_length, mkB_length]; exact Nat.le_refl _)] at this
        subst hxs
        exact ⟨rfl, .inr ⟨hpos, unhide HO⟩, unhide HK⟩

set_option maxHeartbeats 1600000 in
theorem heldBlockS_any (v : Value) (n k : Nat) (B : Nat) (w : World) (hn : n ≤ 4194304) (hk0 : 0 < k) (hk1 : k ≤ 268435456) (ho : OwnR w B 55 4 v n (bksV (mkB k n))) :
    Calls Try.prog 20 #[v, .int .i64 k] w fun e w' => e = .returned (.int .i64 ((k + n * 4 : Nat) : Int)) ∧ Below w.heap.size w w' := by
  rcases ho with ⟨rfl, _, ao, rfl⟩ | ⟨hpos, ho'⟩
  · go_enter Try.func20, Try.ntmps20
    go_wp2
    refine wp_loop_rounds 1 ?_
    rw [rounds_succ]
    go_wp2
    go_ret
    exact ⟨ret_int (by simp), Below.refl _ _⟩
  · obtain ⟨g, cap, cur, rfl, _, _⟩ := own_form hpos ho'
    have HO := hide ho'
    clear ho'
    go_enter Try.func20, Try.ntmps20
    go_wp2
    go_loopw [1, 5] (fun kk i wr => ∃ (j : Nat), j ≤ n ∧ i = .int .i64 j ∧ kk = .int .i64 ((k + j * 4 : Nat) : Int) ∧ Hid (Below w.heap.size w wr)) (fun _ i _ => n - (intOf i).toNat)
    case atStart => exact ⟨0, Nat.zero_le _, rfl, by simp, hide (Below.refl _ _)⟩
    case round =>
      obtain ⟨j, hj, rfl, rfl, HB⟩ := hrel
      by_cases hlt : j < n
      · obtain ⟨q0, q1, q2, q3⟩ := bksV_get (xs := mkB k n) (i := j) (by rw [mkB_length]; exact hlt)
        rw [mkB_at] at q0 q1 q2 q3
        have hx0 : wr.cell? ⟨g, j * 4, none⟩ = some (.int .i64 ((k + j * 4 : Nat) : Int)) := ((own_below (unhide HO) (unhide HB)).cellAt (j * 4) (by omega)).trans q0
        have hx1 : wr.cell? ⟨g, j * 4 + 1, none⟩ = some (.int .i64 ((k + j * 4 + 1 : Nat) : Int)) := ((own_below (unhide HO) (unhide HB)).cellAt (j * 4 + 1) (by omega)).trans q1
        have hx2 : wr.cell? ⟨g, j * 4 + 2, none⟩ = some (.int .i64 ((k + j * 4 + 2 : Nat) : Int)) := ((own_below (unhide HO) (unhide HB)).cellAt (j * 4 + 2) (by omega)).trans q2
        have hx3 : wr.cell? ⟨g, j * 4 + 3, none⟩ = some (.int .i64 ((k + j * 4 + 3 : Nat) : Int)) := ((own_below (unhide HO) (unhide HB)).cellAt (j * 4 + 3) (by omega)).trans q3
        clear q0 q1 q2 q3
        go_wp2
        go_roundw
        case rel => exact ⟨j + 1, by omega, by go_num, by go_num, HB⟩
        case measure => simp [intOf]; omega
      · go_wp2
        go_ret
        have hjn : j = n := by omega
        subst hjn
        exact ⟨rfl, unhide HB⟩

end Go.Proofs.Ytdigphemaccodab

/- The walk of laws.FnExactPxStep. -/
namespace Go.Proofs.Ytdigphemaccodab
open Go.RowKit
set_option linter.unusedVariables false
set_option maxRecDepth 100000

/-- What lies about: the argument, both answers, the list that was handed in. -/
structure LP (w W : World) (p P : Pxs) (L : List Bk) (a b B9 B11 : Nat) (v7 v9 v11 : Value) (n : Nat) (ys ms : List Bk) : Prop where
  va : VarP W w.heap.size 23 p
  hb : Below w.heap.size w W
  v6 : VarP W a 25 P
  o7 : OwnR W w.heap.size 55 4 v7 L.length (bksV L)
  o9 : OwnR W B9 55 4 v9 n (bksV ys)
  v10 : VarP W b 25 P
  o11 : OwnR W B11 55 4 v11 L.length (bksV ms)
  s7 : ∀ j, Own v7 j → j < B9
  s9 : ∀ j, Own v9 j → j < B11
  s1 : w.heap.size ≤ B9 ∧ B9 ≤ B11
theorem LP.below {w W W' : World} {p P : Pxs} {L ys ms : List Bk} {a b B9 B11 n : Nat} {v7 v9 v11 : Value} (h : LP w W p P L a b B9 B11 v7 v9 v11 n ys ms) (hb : Below W.heap.size W W') : LP w W' p P L a b B9 B11 v7 v9 v11 n ys ms :=
  ⟨h.va.below hb, fr h.hb hb, h.v6.below hb, h.o7.below hb, h.o9.below hb, h.v10.below hb, h.o11.below hb, h.s7, h.s9, h.s1⟩
theorem LP.mark9 {w W W' : World} {p P : Pxs} {L ys ms : List Bk} {a b B9 B11 n : Nat} {v7 v9 v11 : Value} (h : LP w W p P L a b B9 B11 v7 v9 v11 n ys ms) {zs : List Bk} (ho : OwnR W' B9 55 4 v9 n (bksV zs)) (hk : Keep (Own v9) W W') : LP w W' p P L a b B9 B11 v7 v9 v11 n zs ms :=
  ⟨h.va.keep hk (h.o9.other h.va (by decide)), h.hb.trans (hk.below h.hb.size (fun j hj => by have := (h.o9.ge j hj).1; have := h.s1; omega)), h.v6.keep hk (h.o9.other h.v6 (by decide)),
    h.o7.keep hk (fun j hj hj' => by have := h.s7 j hj; have := (h.o9.ge j hj').1; omega), ho, h.v10.keep hk (h.o9.other h.v10 (by decide)),
    h.o11.keep hk (fun j hj hj' => by have := h.s9 j hj'; have := (h.o11.ge j hj).1; omega), h.s7, h.s9, h.s1⟩
theorem LP.mark11 {w W W' : World} {p P : Pxs} {L ys ms : List Bk} {a b B9 B11 n : Nat} {v7 v9 v11 : Value} (h : LP w W p P L a b B9 B11 v7 v9 v11 n ys ms) {zs : List Bk} (ho : OwnR W' B11 55 4 v11 L.length (bksV zs)) (hk : Keep (Own v11) W W') : LP w W' p P L a b B9 B11 v7 v9 v11 n ys zs :=
  ⟨h.va.keep hk (h.o11.other h.va (by decide)), h.hb.trans (hk.below h.hb.size (fun j hj => by have := (h.o11.ge j hj).1; have := h.s1; omega)), h.v6.keep hk (h.o11.other h.v6 (by decide)),
    h.o7.keep hk (fun j hj hj' => by have := h.s7 j hj; have := (h.o11.ge j hj').1; have := h.s1; omega), h.o9.keep hk (fun j hj hj' => by have := h.s9 j hj; have := (h.o11.ge j hj').1; omega),
    h.v10.keep hk (h.o11.other h.v10 (by decide)), ho, h.s7, h.s9, h.s1⟩
theorem ownQ {W : World} {B t cap : Nat} {ao : Option Addr} {xs : List Bk} (h : OwnR W B t 4 (.slice ao xs.length cap) xs.length (bksV xs)) : Bks W ao xs := ownBks h

set_option maxHeartbeats 6400000 in
theorem lawPxStep (p : Pxs) (ao : Option Addr) (ca : Nat) (xs : List Bk) (w : World) (hl : xs.length ≤ maxLen) (hc : Bks w ao xs) : Calls Try.prog 5 #[pV p, .slice ao xs.length ca] w fun e w' => e = .returned (.bool true) ∧ Below w.heap.size w w' := by
  have HC := hide hc
  clear hc
  have HZ : Hid (xs.length ≤ 9223372036854775807) := hide (by unfold maxLen at hl; omega)
  clear hl
  have HV0 := hide (VarP.new w 23 p)
  have HA0 := hide (Joins.below_alloc1 w (.cells #[.int .i64 p.host, .int .i64 p.ver, .int .i64 p.phase, .int .i64 p.ballot, .int .i64 p.value, .int .i64 p.next, .int .i64 p.best, .int .i64 p.bestBal] 23))
  by_cases hs : ¬ xs.length ≤ 1048576
  · go_enter Try.func5, Try.ntmps5
    go_wp2_with fail
    refine (szBlockS_any ao xs.length ca 1048576 _ rfl (unhide HZ)).mono ?_
    rintro e w1 ⟨rfl, hb⟩
    have HB := hide (fr (unhide HA0) hb)
    clear hb
    rw [if_neg hs]
    go_wp2
    go_ret
    exact ⟨rfl, unhide HB⟩
  rw [Decidable.not_not] at hs
  have HS := hide hs
  have hs2 : ¬ (1048576 - (xs.length : Int) < 0) := by omega
  have HSP := hide (fun ao ca W hx => pxStep_spec p ao ca xs W (unhide HS) hx)
  have HIM := hide (fun ao ca W hx => pxStep_impl p ao ca xs W (unhide HS) hx)
  unfold Stepped at HSP HIM
  have HLL : Hid ((stL p xs).length ≤ 4) := hide (by
    unfold stL
    split
    · rename_i h
      rw [pxStep_len]
      have : bksB xs = true := by simp only [stOK, Bool.and_eq_true] at h; exact h.2.2
      rw [(bksB_parts this).1]
      omega
    · simp)
  revert HSP HIM HLL
  generalize stP p xs = P
  generalize stL p xs = L
  generalize stC p xs = C
  intro HSP HIM HLL
  go_enter Try.func5, Try.ntmps5
  go_wp2_with fail
  refine (szBlockS_any ao xs.length ca 1048576 _ rfl (unhide HZ)).mono ?_
  rintro e w1 ⟨rfl, hb⟩
  have HB1 := hide (fr (unhide HA0) hb)
  have HV1 := hide ((unhide HV0).below hb)
  clear hb HV0 HA0
  rw [if_pos hs]
  clear hs
  obtain ⟨c0, c1, c2, c3, c4, c5, c6, c7⟩ := (unhide HV1).cells
  go_wp2_with fail
  refine (toPx_any p _).mono ?_
  rintro e w2 ⟨rfl, hb⟩
  have HB2 := hide (fr (unhide HB1) hb)
  have HV2 := hide ((unhide HV1).below hb)
  clear hb HB1 HV1 c0 c1 c2 c3 c4 c5 c6 c7
  go_wp2_with fail
  refine (toBlockS_any ao ca xs _ (unhide HS) ((unhide HC).below (unhide HB2))).mono ?_
  rintro e w3 ⟨g1, rfl, ho1, hb⟩
  have HB3 := hide (fr (unhide HB2) hb)
  have HV3 := hide ((unhide HV2).below hb)
  have HX3 := hide (ownQ (OwnR.of ho1 (fun h => ⟨_, by rw [h]⟩)))
  clear hb ho1 HB2 HV2
  go_wp2_with fail
  refine (unhide HSP (some ⟨g1, 0, none⟩) xs.length _ (unhide HX3)).mono ?_
  rintro e w4 ⟨o7, q7, rfl, ho, hb⟩
  have HB4 := hide (fr (fr (unhide HB3) hb) (Joins.below_alloc1 w4 (.cells #[.int .i64 P.host, .int .i64 P.ver, .int .i64 P.phase, .int .i64 P.ballot, .int .i64 P.value, .int .i64 P.next, .int .i64 P.best, .int .i64 P.bestBal] 25)))
  have HV4 := hide (((unhide HV3).below hb).below (Joins.below_alloc1 w4 (.cells #[.int .i64 P.host, .int .i64 P.ver, .int .i64 P.phase, .int .i64 P.ballot, .int .i64 P.value, .int .i64 P.next, .int .i64 P.best, .int .i64 P.bestBal] 25)))
  have HW4 := hide (VarP.new w4 25 P)
  have HO4 := hide ((ho.base (unhide HB3).size).below (Joins.below_alloc1 w4 (.cells #[.int .i64 P.host, .int .i64 P.ver, .int .i64 P.phase, .int .i64 P.ballot, .int .i64 P.value, .int .i64 P.next, .int .i64 P.best, .int .i64 P.bestBal] 25)))
  clear hb ho HB3 HV3 HX3
  go_upto_region 6 with fail
  revert HB4 HV4 HW4 HO4
  generalize w4.alloc (.cells #[.int .i64 P.host, .int .i64 P.ver, .int .i64 P.phase, .int .i64 P.ballot, .int .i64 P.value, .int .i64 P.next, .int .i64 P.best, .int .i64 P.bestBal] 25) = W4
  generalize w4.heap.size = a
  intro HB4 HV4 HW4 HO4
  go_wp2_with fail
  refine (toBlockS_any ao ca xs _ (unhide HS) ((unhide HC).below (unhide HB4))).mono ?_
  rintro e w5 ⟨g9, rfl, ho9, hb⟩
  have HB5 := hide (fr (unhide HB4) hb)
  have HV5 := hide ((unhide HV4).below hb)
  have HW5 := hide ((unhide HW4).below hb)
  have HO5 := hide ((unhide HO4).below hb)
  have HQ5 : Hid (OwnR w5 W4.heap.size 55 4 (.slice (some ⟨g9, 0, none⟩) xs.length xs.length) xs.length (bksV xs)) := hide (OwnR.of ho9 (fun h => ⟨_, by rw [h]⟩))
  have HS7 : Hid (∀ j, Own (.slice o7 L.length q7) j → j < W4.heap.size) := hide (fun j hj => ((unhide HO4).ge j hj).2)
  have HSZ : Hid (w.heap.size ≤ W4.heap.size ∧ W4.heap.size ≤ w5.heap.size) := hide ⟨(unhide HB4).size, hb.size⟩
  clear hb ho9 HB4 HV4 HW4 HO4
  obtain ⟨c0, c1, c2, c3, c4, c5, c6, c7⟩ := (unhide HV5).cells
  go_wp2_with fail
  refine (toPx_any p _).mono ?_
  rintro e w6 ⟨rfl, hb⟩
  have HB6 := hide (fr (unhide HB5) hb)
  have HV6 := hide ((unhide HV5).below hb)
  have HW6 := hide ((unhide HW5).below hb)
  have HO6 := hide ((unhide HO5).below hb)
  have HQ6 := hide ((unhide HQ5).below hb)
  have HSY : Hid (w.heap.size ≤ W4.heap.size ∧ W4.heap.size ≤ w6.heap.size) := hide ⟨(unhide HSZ).1, Nat.le_trans (unhide HSZ).2 hb.size⟩
  clear hb HB5 HV5 HW5 HO5 HQ5 c0 c1 c2 c3 c4 c5 c6 c7
  go_wp2_with fail
  refine (unhide HIM (some ⟨g9, 0, none⟩) xs.length _ (ownQ (unhide HQ6))).mono ?_
  rintro e w7 ⟨o11, q11, rfl, ho, hb⟩
  have hb2 := fr hb (Joins.below_alloc1 w7 (.cells #[.int .i64 P.host, .int .i64 P.ver, .int .i64 P.phase, .int .i64 P.ballot, .int .i64 P.value, .int .i64 P.next, .int .i64 P.best, .int .i64 P.bestBal] 25))
  have E7 : Hid (LP w (w7.alloc (.cells #[.int .i64 P.host, .int .i64 P.ver, .int .i64 P.phase, .int .i64 P.ballot, .int .i64 P.value, .int .i64 P.next, .int .i64 P.best, .int .i64 P.bestBal] 25)) p P L a w7.heap.size W4.heap.size w6.heap.size (.slice o7 L.length q7) (.slice (some ⟨g9, 0, none⟩) xs.length xs.length) (.slice o11 L.length q11) xs.length xs L) :=
    hide ⟨(unhide HV6).below hb2, fr (unhide HB6) hb2, (unhide HW6).below hb2, (unhide HO6).below hb2, (unhide HQ6).below hb2, VarP.new w7 _ P, ho.below (Joins.below_alloc1 _ _), unhide HS7, fun j hj => ((unhide HQ6).ge j hj).2, unhide HSY⟩
  clear hb hb2 ho HB6 HV6 HW6 HO6 HQ6 HS7 HSZ HSY
  go_upto_region 8 with fail
  revert E7
  generalize w7.alloc (.cells #[.int .i64 P.host, .int .i64 P.ver, .int .i64 P.phase, .int .i64 P.ballot, .int .i64 P.value, .int .i64 P.next, .int .i64 P.best, .int .i64 P.bestBal] 25) = W7
  generalize w7.heap.size = b
  generalize W4.heap.size = B9
  generalize w6.heap.size = B11
  intro E7
  obtain ⟨c0, c1, c2, c3, c4, c5, c6, c7⟩ := (unhide E7).v10.cells
  obtain ⟨d0, d1, d2, d3, d4, d5, d6, d7⟩ := (unhide E7).v6.cells
  go_wp2_with fail
  refine (eqPx_same P _).mono ?_
  rintro e W8 ⟨rfl, hb⟩
  have E8 := hide ((unhide E7).below hb)
  clear hb E7 c0 c1 c2 c3 c4 c5 c6 c7 d0 d1 d2 d3 d4 d5 d6 d7
  go_wp2_with fail
  refine (eqBlockS_same o11 o7 q11 q7 L _ (by have := unhide HLL; omega) (ownQ (unhide E8).o11) (ownQ (unhide E8).o7)).mono ?_
  rintro e W9 ⟨rfl, hb⟩
  have E9 := hide ((unhide E8).below hb)
  clear hb E8
  go_wp2_with fail
  refine (toBlockS_any ao ca xs _ (unhide HS) ((unhide HC).below (unhide E9).hb)).mono ?_
  rintro e W10 ⟨g10, rfl, ho10, hb⟩
  have E10 := hide ((unhide E9).below hb)
  have HX10 := hide (ownQ (OwnR.of ho10 (fun h => ⟨_, by rw [h]⟩)))
  clear hb E9 ho10
  go_wp2_with fail
  refine (eqBlockS_same _ _ _ _ xs _ (unhide HS) (ownQ (unhide E10).o9) (unhide HX10)).mono ?_
  rintro e W11 ⟨rfl, hb⟩
  have E11 := hide ((unhide E10).below hb)
  clear hb E10 HX10
  go_wp2_with fail
  refine (markBlockS_any _ xs.length 1 _ B9 _ (by have := unhide HS; omega) (by omega) (by omega) (unhide E11).o9).mono ?_
  rintro e W12 ⟨rfl, ho, hk⟩
  have E12 := hide ((unhide E11).mark9 ho hk)
  clear ho hk E11
  have hk0 : ¬ (((1 + xs.length * 4 : Nat) : Int) < 0) := by omega
  obtain ⟨c0, c1, c2, c3, c4, c5, c6, c7⟩ := (unhide E12).v10.cells
  obtain ⟨d0, d1, d2, d3, d4, d5, d6, d7⟩ := (unhide E12).v6.cells
  go_wp2_with fail
  refine (eqPx_same P _).mono ?_
  rintro e W13 ⟨rfl, hb⟩
  have E13 := hide ((unhide E12).below hb)
  clear hb E12 c0 c1 c2 c3 c4 c5 c6 c7 d0 d1 d2 d3 d4 d5 d6 d7
  go_wp2_with fail
  refine (eqBlockS_same o11 o7 q11 q7 L _ (by have := unhide HLL; omega) (ownQ (unhide E13).o11) (ownQ (unhide E13).o7)).mono ?_
  rintro e W14 ⟨rfl, hb⟩
  have E14 := hide ((unhide E13).below hb)
  clear hb E13
  go_wp2_with fail
  refine (markBlockS_any _ L.length 1 _ B11 _ (by have := unhide HLL; omega) (by omega) (by omega) (unhide E14).o11).mono ?_
  rintro e W15 ⟨rfl, ho, hk⟩
  have E15 := hide ((unhide E14).mark11 ho hk)
  clear ho hk E14 hk0
  go_wp2_with fail
  refine (heldBlockS_any _ L.length 1 B11 _ (by have := unhide HLL; omega) (by omega) (by omega) (unhide E15).o11).mono ?_
  rintro e W16 ⟨rfl, hb⟩
  have E16 := hide ((unhide E15).below hb)
  clear hb E15
  have hk1 : ¬ (((1 + L.length * 4 : Nat) : Int) < 0) := by omega
  obtain ⟨c0, c1, c2, c3, c4, c5, c6, c7⟩ := (unhide E16).va.cells
  go_wp2_with fail
  refine (toPx_any p _).mono ?_
  rintro e W17 ⟨rfl, hb⟩
  have E17 := hide ((unhide E16).below hb)
  clear hb E16 c0 c1 c2 c3 c4 c5 c6 c7
  go_wp2_with fail
  refine (toBlockS_any ao ca xs _ (unhide HS) ((unhide HC).below (unhide E17).hb)).mono ?_
  rintro e W18 ⟨g18, rfl, ho18, hb⟩
  have E18 := hide ((unhide E17).below hb)
  have HX18 := hide (ownQ (OwnR.of ho18 (fun h => ⟨_, by rw [h]⟩)))
  clear hb E17 ho18
  go_wp2_with fail
  refine (unhide HIM (some ⟨g18, 0, none⟩) xs.length _ (unhide HX18)).mono ?_
  rintro e W19 ⟨o17, q17, rfl, ho, hb⟩
  have hb2 := fr hb (Joins.below_alloc1 W19 (.cells #[.int .i64 P.host, .int .i64 P.ver, .int .i64 P.phase, .int .i64 P.ballot, .int .i64 P.value, .int .i64 P.next, .int .i64 P.best, .int .i64 P.bestBal] 25))
  have E19 := hide ((unhide E18).below hb2)
  have HX19 := hide (ownQ (ho.below (Joins.below_alloc1 W19 (.cells #[.int .i64 P.host, .int .i64 P.ver, .int .i64 P.phase, .int .i64 P.ballot, .int .i64 P.value, .int .i64 P.next, .int .i64 P.best, .int .i64 P.bestBal] 25))))
  have HV19 := hide (VarP.new W19 25 P)
  clear hb hb2 ho E18 HX18
  go_upto_region 25 with fail
  revert E19 HX19 HV19
  generalize W19.alloc (.cells #[.int .i64 P.host, .int .i64 P.ver, .int .i64 P.phase, .int .i64 P.ballot, .int .i64 P.value, .int .i64 P.next, .int .i64 P.best, .int .i64 P.bestBal] 25) = W20
  generalize W19.heap.size = c
  intro E20 HX20 HV20
  obtain ⟨c0, c1, c2, c3, c4, c5, c6, c7⟩ := (unhide HV20).cells
  obtain ⟨d0, d1, d2, d3, d4, d5, d6, d7⟩ := (unhide E20).v6.cells
  go_wp2_with fail
  refine (eqPx_same P _).mono ?_
  rintro e W21 ⟨rfl, hb⟩
  have E21 := hide ((unhide E20).below hb)
  have HX21 := hide ((unhide HX20).below hb)
  clear hb E20 HX20 HV20 c0 c1 c2 c3 c4 c5 c6 c7 d0 d1 d2 d3 d4 d5 d6 d7
  go_wp2_with fail
  refine (eqBlockS_same o17 o7 q17 q7 L _ (by have := unhide HLL; omega) (unhide HX21) (ownQ (unhide E21).o7)).mono ?_
  rintro e W22 ⟨rfl, hb⟩
  have E22 := hide ((unhide E21).below hb)
  clear hb E21 HX21
  go_wp2_with fail
  refine (heldBlockS_any _ L.length 1 B11 _ (by have := unhide HLL; omega) (by omega) (by omega) (unhide E22).o11).mono ?_
  rintro e W23 ⟨rfl, hb⟩
  have E23 := hide ((unhide E22).below hb)
  clear hb E22
  go_wp2
  go_ret
  exact ⟨rfl, (unhide E23).hb⟩

end Go.Proofs.Ytdigphemaccodab
