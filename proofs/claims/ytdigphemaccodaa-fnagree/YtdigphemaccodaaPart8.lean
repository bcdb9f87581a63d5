import Derived.Test.YtdigphemaccodaaRows
import Derived.Test.YtdigphemaccodaaPart1
import Derived.Test.YtdigphemaccodaaPart3
import Derived.Test.YtdigphemaccodaaPart4
import Derived.Test.YtdigphemaccodaaPart5
import Derived.Test.YtdigphemaccodaaPart6
import Derived.Test.YtdigphemaccodaaPart7
import Derived.WalkKit
import Derived.WalkSpells
import Derived.KernelRfl
import Derived.Deep.CutRange
import Derived.Test.YtdigphemaccodaaPart2
import Derived.Deep.WholeRow
import Derived.Deep.MidRow

/- The program's PxStep. -/
namespace Go.Proofs.Ytdigphemaccodaa
open Go.RowKit
set_option linter.unusedVariables false
set_option maxRecDepth 100000

theorem stepped_end {w W : World} {p p' : Pxs} {xs bs' : List Bk} {c : Int} {qo : Option Addr} {qa : Nat} (h : stP p xs = p' ∧ stL p xs = bs' ∧ stC p xs = stEnd p) (hx : bs'.length = 4) (hc : stEnd p = c)
    (hO : OwnR W w.heap.size 42 4 (.slice qo 4 qa) 4 (bksV bs') ∧ Below w.heap.size w W) : Stepped w W p xs (.returned (.tuple #[pV p', .slice qo 4 qa, .int .i64 c])) := by
  unfold Stepped
  rw [h.1, h.2.1, h.2.2, hx, hc]
  exact ⟨qo, qa, rfl, hO.1, hO.2⟩
theorem st_fault {p : Pxs} {xs : List Bk} (h : ¬ bfC xs = 0) : stP p xs = p00 ∧ stL p xs = [] ∧ stC p xs = bfC xs := by
  by_cases hl : 4096 < xs.length
  · have := st_long (p := p) hl
    rw [bfC_long hl]; exact this
  · by_cases hb : bksB xs = true
    · exact absurd (bfC_ok hl hb) h
    · rw [Bool.not_eq_true] at hb
      rw [bfC_bad hl hb]
      exact st_bad hl (by rw [hb]; simp)

set_option maxHeartbeats 3200000 in
theorem pxStep_impl (p : Pxs) (ao : Option Addr) (ca : Nat) (xs : List Bk) (w : World) (hl : xs.length ≤ 1048576) (hc : Bks w ao xs) : Calls Try.prog 17 #[pV p, .slice ao xs.length ca] w fun e w' => Stepped w w' p xs e := by
  have HC := hide hc
  clear hc
  have H0 := hide (pxAt0 w p)
  go_enter Try.func17, Try.ntmps17
  go_wp2_with fail
  refine (blocksFault_any ao ca xs _ hl ((unhide HC).below (unhide H0).k)).mono ?_
  rintro e W1 ⟨rfl, hb⟩
  have E1 := hide ((unhide H0).below hb)
  clear hb H0
  by_cases hf : ¬ bfC xs = 0
  · have HE : Hid (stP p xs = p00 ∧ stL p xs = [] ∧ stC p xs = bfC xs) := hide (st_fault hf)
    have hb : (bfC xs != 0) = true := by simp [hf]
    clear hf
    revert HE hb
    generalize bfC xs = c9
    intro HE hb
    obtain ⟨r0, r1, r2, r3, r4, r5, r6, r7⟩ := (unhide E1).r.cells
    obtain ⟨s0, s1, s2, s3, s4, s5, s6, s7⟩ := (unhide E1).r.free
    have HK := hide (fun u0 u1 u2 u3 u4 u5 u6 u7 => below8 (unhide E1).k (show w.heap.size ≤ w.heap.size + 1 by omega) u0 u1 u2 u3 u4 u5 u6 u7)
    go_wp2
    exact bodyPost_ret (v := .tuple #[pV p00, .slice none 0 0, .int .i64 c9]) (by simp [results, Try.results17, go_sem, r0, r1, r2, r3, r4, r5, r6, r7, p00]) rfl (stepped_none _ (unhide HE) (unhide HK _ _ _ _ _ _ _ _))
  rw [Decidable.not_not] at hf
  have hlong : ¬ 4096 < xs.length := fun h => by rw [bfC_long h] at hf; exact absurd hf (by decide)
  have h2 := bfC_zero hf
  have hb0 : (bfC xs != 0) = false := by simp [hf]
  clear hf
  revert hb0
  generalize bfC xs = c9
  intro hb0
  obtain ⟨c0, c1, c2, c3, c4, c5, c6, c7⟩ := (unhide E1).v.cells
  go_wp2_with fail
  refine (pxOK_impl p _).mono ?_
  rintro e W2 ⟨rfl, hb⟩
  have E2 := hide ((unhide E1).below hb)
  clear hb E1 c0 c1 c2 c3 c4 c5 c6 c7
  by_cases h1 : pxB p = false
  · have HE := hide (st_bad (p := p) (xs := xs) hlong (by rw [h1]; rfl))
    obtain ⟨r0, r1, r2, r3, r4, r5, r6, r7⟩ := (unhide E2).r.cells
    obtain ⟨s0, s1, s2, s3, s4, s5, s6, s7⟩ := (unhide E2).r.free
    have HK := hide (fun u0 u1 u2 u3 u4 u5 u6 u7 => below8 (unhide E2).k (show w.heap.size ≤ w.heap.size + 1 by omega) u0 u1 u2 u3 u4 u5 u6 u7)
    go_wp2
    exact bodyPost_ret (v := .tuple #[pV p00, .slice none 0 0, .int .i64 1]) (by simp [results, Try.results17, go_sem, r0, r1, r2, r3, r4, r5, r6, r7, p00]) rfl (stepped_none _ (unhide HE) (unhide HK _ _ _ _ _ _ _ _))
  rw [Bool.not_eq_false] at h1
  have HE := hide (st_ok hlong h1 h2)
  have HX := hide (bksB_parts h2).1
  have hp := pxB_iff.1 h1
  have HH : Hid (0 ≤ p.host ∧ p.host ≤ 3) := hide hp.1
  have HN : Hid (0 ≤ p.next ∧ p.next ≤ 4) := hide hp.2.2.2.2.2.2.1
  have HP : Hid (1 ≤ p.phase ∧ p.phase ≤ 6) := hide hp.2.2.1
  clear hp h2 hlong
  go_wp2_with fail
  refine (copyK_any ao ca xs _ hl (by have := unhide HX; omega) ((unhide HC).below (unhide E2).k)).mono ?_
  rintro e W3 ⟨rfl, ho, hb⟩
  have E3 : Hid (StAt w W3 w.heap.size p (some ⟨W2.heap.size, 0, none⟩) xs.length xs) := hide ⟨(unhide E2).below hb, .inr ⟨by omega, by have h4 := unhide HX; have h5 := own_base ho (B' := w.heap.size + 2) (by have := (unhide E2).r.lt; omega); rw [h4] at h5 ⊢; exact h5⟩⟩
  have hx4 := unhide HX
  rw [hx4] at E3 ⊢
  clear hb ho E2 hx4
  revert E3
  generalize W2.heap.size = g
  intro E3
  obtain ⟨c0, c1, c2, c3, c4, c5, c6, c7⟩ := (unhide E3).a.v.cells
  rcases (show p.phase = 1 ∨ p.phase = 2 ∨ p.phase = 3 ∨ p.phase = 4 ∨ (p.phase = 5 ∨ p.phase = 6) by have := unhide HP; omega) with hp | hp | hp | hp | hp
  · have HSE : Hid (stEnd p = 0) := hide (if_neg (by rw [hp]; decide))
    have HPS : Hid ((pxStepP p xs).2.length = 4) := hide ((pxStep_len p xs).trans (unhide HX))
    have HPH := hide hp
    clear hp
    go_wp2_with fail
    refine (phaseOf_1 p.phase _ (unhide HPH)).mono ?_
    rintro e W4 ⟨rfl, hw⟩
    replace hw := hw.symm
    subst hw
    go_wp2_with fail
    refine (beginBallot_any p g 4 (w.heap.size + 2) xs _ (unhide HPH) (unhide HX) (unhide HH) (unhide E3).row).mono ?_
    rintro e W6 ⟨rfl, ho, hk⟩
    have E6 := hide ((unhide E3).did ho hk)
    clear ho hk
    clear c0 c1 c2 c3 c4 c5 c6 c7
    generalize (pxStepP p xs).1 = P1 at *
    generalize (pxStepP p xs).2 = B1 at *
    obtain ⟨c0, c1, c2, c3, c4, c5, c6, c7⟩ := (unhide E6).a.v.cells
    obtain ⟨f0, f1, f2, f3, f4, f5, f6, f7⟩ := (unhide E6).a.v.free
    have E7 := hide ((unhide E6).all P1)
    go_upto_region 11 with fail
    clear c0 c1 c2 c3 c4 c5 c6 c7 f0 f1 f2 f3 f4 f5 f6 f7 E6
    revert E7
    generalize (((((((W6.setCell ⟨w.heap.size, 0, none⟩ (.int .i64 P1.host)).setCell ⟨w.heap.size, 1, none⟩ (.int .i64 P1.ver)).setCell ⟨w.heap.size, 2, none⟩ (.int .i64 P1.phase)).setCell ⟨w.heap.size, 3, none⟩ (.int .i64 P1.ballot)).setCell ⟨w.heap.size, 4, none⟩ (.int .i64 P1.value)).setCell ⟨w.heap.size, 5, none⟩ (.int .i64 P1.next)).setCell ⟨w.heap.size, 6, none⟩ (.int .i64 P1.best)).setCell ⟨w.heap.size, 7, none⟩ (.int .i64 P1.bestBal) = W7
    intro E7
    obtain ⟨c0, c1, c2, c3, c4, c5, c6, c7⟩ := (unhide E7).a.v.cells
    obtain ⟨r0, r1, r2, r3, r4, r5, r6, r7⟩ := (unhide E7).a.r.cells
    obtain ⟨s0, s1, s2, s3, s4, s5, s6, s7⟩ := (unhide E7).a.r.free
    have HK := hide (fun u0 u1 u2 u3 u4 u5 u6 u7 => (unhide E7).out u0 u1 u2 u3 u4 u5 u6 u7)
    go_wp2
    exact bodyPost_ret (v := .tuple #[pV P1, .slice (some ⟨g, 0, none⟩) 4 4, .int .i64 0]) (by simp [results, Try.results17, go_sem, r0, r1, r2, r3, r4, r5, r6, r7]) rfl (stepped_end (unhide HE) (unhide HPS) (unhide HSE) (unhide HK _ _ _ _ _ _ _ _))
  · have HSE : Hid (stEnd p = 0) := hide (if_neg (by rw [hp]; decide))
    have HPS : Hid ((pxStepP p xs).2.length = 4) := hide ((pxStep_len p xs).trans (unhide HX))
    have HRD : Hid (pxStepP p xs = (pxRd p xs, xs)) := hide (pxStepP_rd xs (by rw [hp]; decide))
    have HPH := hide hp
    clear hp
    go_wp2_with fail
    refine (phaseOf_2 p.phase _ (unhide HPH)).mono ?_
    rintro e W4 ⟨a, b, rfl, ha, hb', hb⟩
    have HA := hide ha
    have HB := hide hb'
    have E4 := hide ((unhide E3).below hb)
    clear ha hb' hb E3 c0 c1 c2 c3 c4 c5 c6 c7
    obtain ⟨c0, c1, c2, c3, c4, c5, c6, c7⟩ := (unhide E4).a.v.cells
    go_wp2_with fail
    refine (readBallot1_any _ _ _ _ 2 heed2 p (some ⟨g, 0, none⟩) 4 4 a b xs _ (unhide HX) rfl (unhide HPH) (unhide HH) (unhide HN) ((unhide E4).bks (unhide HX)) (unhide HA) (unhide HB)).mono ?_
    rintro e W6 ⟨rfl, hb⟩
    have E5 := hide ((unhide E4).below hb)
    have E6 : Hid (StAt w W6 w.heap.size p (some ⟨g, 0, none⟩) 4 (pxStepP p xs).2) := hide (by rw [unhide HRD]; exact unhide E5)
    rw [show pxRd p xs = (pxStepP p xs).1 from by rw [unhide HRD]]
    clear hb E5 HRD
    clear c0 c1 c2 c3 c4 c5 c6 c7
    generalize (pxStepP p xs).1 = P1 at *
    generalize (pxStepP p xs).2 = B1 at *
    obtain ⟨c0, c1, c2, c3, c4, c5, c6, c7⟩ := (unhide E6).a.v.cells
    obtain ⟨f0, f1, f2, f3, f4, f5, f6, f7⟩ := (unhide E6).a.v.free
    have E7 := hide ((unhide E6).all P1)
    go_upto_region 11 with fail
    clear c0 c1 c2 c3 c4 c5 c6 c7 f0 f1 f2 f3 f4 f5 f6 f7 E6
    revert E7
    generalize (((((((W6.setCell ⟨w.heap.size, 0, none⟩ (.int .i64 P1.host)).setCell ⟨w.heap.size, 1, none⟩ (.int .i64 P1.ver)).setCell ⟨w.heap.size, 2, none⟩ (.int .i64 P1.phase)).setCell ⟨w.heap.size, 3, none⟩ (.int .i64 P1.ballot)).setCell ⟨w.heap.size, 4, none⟩ (.int .i64 P1.value)).setCell ⟨w.heap.size, 5, none⟩ (.int .i64 P1.next)).setCell ⟨w.heap.size, 6, none⟩ (.int .i64 P1.best)).setCell ⟨w.heap.size, 7, none⟩ (.int .i64 P1.bestBal) = W7
    intro E7
    obtain ⟨c0, c1, c2, c3, c4, c5, c6, c7⟩ := (unhide E7).a.v.cells
    obtain ⟨r0, r1, r2, r3, r4, r5, r6, r7⟩ := (unhide E7).a.r.cells
    obtain ⟨s0, s1, s2, s3, s4, s5, s6, s7⟩ := (unhide E7).a.r.free
    have HK := hide (fun u0 u1 u2 u3 u4 u5 u6 u7 => (unhide E7).out u0 u1 u2 u3 u4 u5 u6 u7)
    go_wp2
    exact bodyPost_ret (v := .tuple #[pV P1, .slice (some ⟨g, 0, none⟩) 4 4, .int .i64 0]) (by simp [results, Try.results17, go_sem, r0, r1, r2, r3, r4, r5, r6, r7]) rfl (stepped_end (unhide HE) (unhide HPS) (unhide HSE) (unhide HK _ _ _ _ _ _ _ _))
  · have HSE : Hid (stEnd p = 0) := hide (if_neg (by rw [hp]; decide))
    have HPS : Hid ((pxStepP p xs).2.length = 4) := hide ((pxStep_len p xs).trans (unhide HX))
    have HPH := hide hp
    clear hp
    go_wp2_with fail
    refine (phaseOf_3 p.phase _ (unhide HPH)).mono ?_
    rintro e W4 ⟨rfl, hw⟩
    replace hw := hw.symm
    subst hw
    go_wp2_with fail
    refine (acceptValue_any p g 4 (w.heap.size + 2) xs _ (unhide HPH) (unhide HX) (unhide HH) (unhide E3).row).mono ?_
    rintro e W6 ⟨rfl, ho, hk⟩
    have E6 := hide ((unhide E3).did ho hk)
    clear ho hk
    clear c0 c1 c2 c3 c4 c5 c6 c7
    generalize (pxStepP p xs).1 = P1 at *
    generalize (pxStepP p xs).2 = B1 at *
    obtain ⟨c0, c1, c2, c3, c4, c5, c6, c7⟩ := (unhide E6).a.v.cells
    obtain ⟨f0, f1, f2, f3, f4, f5, f6, f7⟩ := (unhide E6).a.v.free
    have E7 := hide ((unhide E6).all P1)
    go_upto_region 11 with fail
    clear c0 c1 c2 c3 c4 c5 c6 c7 f0 f1 f2 f3 f4 f5 f6 f7 E6
    revert E7
    generalize (((((((W6.setCell ⟨w.heap.size, 0, none⟩ (.int .i64 P1.host)).setCell ⟨w.heap.size, 1, none⟩ (.int .i64 P1.ver)).setCell ⟨w.heap.size, 2, none⟩ (.int .i64 P1.phase)).setCell ⟨w.heap.size, 3, none⟩ (.int .i64 P1.ballot)).setCell ⟨w.heap.size, 4, none⟩ (.int .i64 P1.value)).setCell ⟨w.heap.size, 5, none⟩ (.int .i64 P1.next)).setCell ⟨w.heap.size, 6, none⟩ (.int .i64 P1.best)).setCell ⟨w.heap.size, 7, none⟩ (.int .i64 P1.bestBal) = W7
    intro E7
    obtain ⟨c0, c1, c2, c3, c4, c5, c6, c7⟩ := (unhide E7).a.v.cells
    obtain ⟨r0, r1, r2, r3, r4, r5, r6, r7⟩ := (unhide E7).a.r.cells
    obtain ⟨s0, s1, s2, s3, s4, s5, s6, s7⟩ := (unhide E7).a.r.free
    have HK := hide (fun u0 u1 u2 u3 u4 u5 u6 u7 => (unhide E7).out u0 u1 u2 u3 u4 u5 u6 u7)
    go_wp2
    exact bodyPost_ret (v := .tuple #[pV P1, .slice (some ⟨g, 0, none⟩) 4 4, .int .i64 0]) (by simp [results, Try.results17, go_sem, r0, r1, r2, r3, r4, r5, r6, r7]) rfl (stepped_end (unhide HE) (unhide HPS) (unhide HSE) (unhide HK _ _ _ _ _ _ _ _))
  · have HSE : Hid (stEnd p = 0) := hide (if_neg (by rw [hp]; decide))
    have HPS : Hid ((pxStepP p xs).2.length = 4) := hide ((pxStep_len p xs).trans (unhide HX))
    have HRD : Hid (pxStepP p xs = (pxRd p xs, xs)) := hide (pxStepP_rd xs (by rw [hp]; decide))
    have HPH := hide hp
    clear hp
    go_wp2_with fail
    refine (phaseOf_4 p.phase _ (unhide HPH)).mono ?_
    rintro e W4 ⟨a, b, rfl, ha, hb', hb⟩
    have HA := hide ha
    have HB := hide hb'
    have E4 := hide ((unhide E3).below hb)
    clear ha hb' hb E3 c0 c1 c2 c3 c4 c5 c6 c7
    obtain ⟨c0, c1, c2, c3, c4, c5, c6, c7⟩ := (unhide E4).a.v.cells
    go_wp2_with fail
    refine (readBallot1_any _ _ _ _ 4 heed4 p (some ⟨g, 0, none⟩) 4 4 a b xs _ (unhide HX) rfl (unhide HPH) (unhide HH) (unhide HN) ((unhide E4).bks (unhide HX)) (unhide HA) (unhide HB)).mono ?_
    rintro e W6 ⟨rfl, hb⟩
    have E5 := hide ((unhide E4).below hb)
    have E6 : Hid (StAt w W6 w.heap.size p (some ⟨g, 0, none⟩) 4 (pxStepP p xs).2) := hide (by rw [unhide HRD]; exact unhide E5)
    rw [show pxRd p xs = (pxStepP p xs).1 from by rw [unhide HRD]]
    clear hb E5 HRD
    clear c0 c1 c2 c3 c4 c5 c6 c7
    generalize (pxStepP p xs).1 = P1 at *
    generalize (pxStepP p xs).2 = B1 at *
    obtain ⟨c0, c1, c2, c3, c4, c5, c6, c7⟩ := (unhide E6).a.v.cells
    obtain ⟨f0, f1, f2, f3, f4, f5, f6, f7⟩ := (unhide E6).a.v.free
    have E7 := hide ((unhide E6).all P1)
    go_upto_region 11 with fail
    clear c0 c1 c2 c3 c4 c5 c6 c7 f0 f1 f2 f3 f4 f5 f6 f7 E6
    revert E7
    generalize (((((((W6.setCell ⟨w.heap.size, 0, none⟩ (.int .i64 P1.host)).setCell ⟨w.heap.size, 1, none⟩ (.int .i64 P1.ver)).setCell ⟨w.heap.size, 2, none⟩ (.int .i64 P1.phase)).setCell ⟨w.heap.size, 3, none⟩ (.int .i64 P1.ballot)).setCell ⟨w.heap.size, 4, none⟩ (.int .i64 P1.value)).setCell ⟨w.heap.size, 5, none⟩ (.int .i64 P1.next)).setCell ⟨w.heap.size, 6, none⟩ (.int .i64 P1.best)).setCell ⟨w.heap.size, 7, none⟩ (.int .i64 P1.bestBal) = W7
    intro E7
    obtain ⟨c0, c1, c2, c3, c4, c5, c6, c7⟩ := (unhide E7).a.v.cells
    obtain ⟨r0, r1, r2, r3, r4, r5, r6, r7⟩ := (unhide E7).a.r.cells
    obtain ⟨s0, s1, s2, s3, s4, s5, s6, s7⟩ := (unhide E7).a.r.free
    have HK := hide (fun u0 u1 u2 u3 u4 u5 u6 u7 => (unhide E7).out u0 u1 u2 u3 u4 u5 u6 u7)
    go_wp2
    exact bodyPost_ret (v := .tuple #[pV P1, .slice (some ⟨g, 0, none⟩) 4 4, .int .i64 0]) (by simp [results, Try.results17, go_sem, r0, r1, r2, r3, r4, r5, r6, r7]) rfl (stepped_end (unhide HE) (unhide HPS) (unhide HSE) (unhide HK _ _ _ _ _ _ _ _))
  · have HSE : Hid (stEnd p = 15) := hide (if_pos hp)
    have HPS : Hid (pxStepP p xs = (p, xs)) := hide (pxStepP_end xs hp)
    have HPH := hide hp
    clear hp
    go_wp2_with fail
    refine (phaseOf_5 p.phase _ (unhide HPH)).mono ?_
    rintro e W4 ⟨rfl, hw⟩
    replace hw := hw.symm
    subst hw
    obtain ⟨r0, r1, r2, r3, r4, r5, r6, r7⟩ := (unhide E3).a.r.cells
    obtain ⟨s0, s1, s2, s3, s4, s5, s6, s7⟩ := (unhide E3).a.r.free
    have HK := hide (fun u0 u1 u2 u3 u4 u5 u6 u7 => (unhide E3).out u0 u1 u2 u3 u4 u5 u6 u7)
    go_wp2
    exact bodyPost_ret (v := .tuple #[pV p, .slice (some ⟨g, 0, none⟩) 4 4, .int .i64 15]) (by simp [results, Try.results17, go_sem, r0, r1, r2, r3, r4, r5, r6, r7]) rfl (stepped_done (unhide HE) (unhide HX) (unhide HPS) (unhide HSE) (unhide HK _ _ _ _ _ _ _ _))
end Go.Proofs.Ytdigphemaccodaa

/- Plain: rows of ballots, eight cells each; an array of them in a variable. -/
namespace Go.Proofs.Ytdigphemaccodaa
open Go.RowKit
set_option linter.unusedVariables false

def pxsV (xs : List Pxs) : List Value := xs.flatMap fun x => [.int .i64 x.host, .int .i64 x.ver, .int .i64 x.phase, .int .i64 x.ballot, .int .i64 x.value, .int .i64 x.next, .int .i64 x.best, .int .i64 x.bestBal]
theorem pxsV_cons (x : Pxs) (xs : List Pxs) : pxsV (x :: xs) = [.int .i64 x.host, .int .i64 x.ver, .int .i64 x.phase, .int .i64 x.ballot, .int .i64 x.value, .int .i64 x.next, .int .i64 x.best, .int .i64 x.bestBal] ++ pxsV xs := rfl
theorem pxsV_append (xs ys : List Pxs) : pxsV (xs ++ ys) = pxsV xs ++ pxsV ys := by simp [pxsV]
theorem pxsV_length (xs : List Pxs) : (pxsV xs).length = xs.length * 8 := by
  induction xs with
  | nil => rfl
  | cons x xs ih => simp only [pxsV, List.flatMap_cons, List.length_append, List.length_cons, List.length_nil] at ih ⊢; omega
theorem pxsV_get : ∀ {xs : List Pxs} {i : Nat} (h : i < xs.length), (pxsV xs)[i * 8]? = some (.int .i64 xs[i].host) ∧ (pxsV xs)[i * 8 + 1]? = some (.int .i64 xs[i].ver) ∧ (pxsV xs)[i * 8 + 2]? = some (.int .i64 xs[i].phase) ∧ (pxsV xs)[i * 8 + 3]? = some (.int .i64 xs[i].ballot) ∧ (pxsV xs)[i * 8 + 4]? = some (.int .i64 xs[i].value) ∧ (pxsV xs)[i * 8 + 5]? = some (.int .i64 xs[i].next) ∧ (pxsV xs)[i * 8 + 6]? = some (.int .i64 xs[i].best) ∧ (pxsV xs)[i * 8 + 7]? = some (.int .i64 xs[i].bestBal)
  | [], _, h => absurd h (Nat.not_lt_zero _)
  | x :: xs, 0, _ => by simp [pxsV_cons]
  | x :: xs, i + 1, h => by
    have ih := pxsV_get (xs := xs) (i := i) (by simpa using h)
    rw [pxsV_cons, show (i + 1) * 8 = i * 8 + 8 by omega]
    refine ⟨?_, ?_, ?_, ?_, ?_, ?_, ?_, ?_⟩
    · rw [List.getElem?_append_right (by simp)]; simpa using ih.1
    · rw [List.getElem?_append_right (by simp)]; simpa [Nat.add_right_comm] using ih.2.1
    · rw [List.getElem?_append_right (by simp)]; simpa [Nat.add_right_comm] using ih.2.2.1
    · rw [List.getElem?_append_right (by simp)]; simpa [Nat.add_right_comm] using ih.2.2.2.1
    · rw [List.getElem?_append_right (by simp)]; simpa [Nat.add_right_comm] using ih.2.2.2.2.1
    · rw [List.getElem?_append_right (by simp)]; simpa [Nat.add_right_comm] using ih.2.2.2.2.2.1
    · rw [List.getElem?_append_right (by simp)]; simpa [Nat.add_right_comm] using ih.2.2.2.2.2.2.1
    · rw [List.getElem?_append_right (by simp)]; simpa [Nat.add_right_comm] using ih.2.2.2.2.2.2.2
theorem pxsV_set : ∀ {xs : List Pxs} {i : Nat} (h : i < xs.length) (y : Pxs), (((((((((pxsV xs).set (i * 8) (.int .i64 y.host)).set (i * 8 + 1) (.int .i64 y.ver)).set (i * 8 + 2) (.int .i64 y.phase)).set (i * 8 + 3) (.int .i64 y.ballot)).set (i * 8 + 4) (.int .i64 y.value)).set (i * 8 + 5) (.int .i64 y.next)).set (i * 8 + 6) (.int .i64 y.best)).set (i * 8 + 7) (.int .i64 y.bestBal)) = pxsV (xs.set i y)
  | [], _, h, _ => absurd h (Nat.not_lt_zero _)
  | x :: xs, 0, _, y => by simp [pxsV_cons]
  | x :: xs, i + 1, h, y => by
    have ih := pxsV_set (xs := xs) (i := i) (by simpa using h) y
    rw [pxsV_cons, List.set_cons_succ, pxsV_cons, ← ih, show (i + 1) * 8 = i * 8 + 8 by omega]
    simp [List.set_cons_succ]
/-- An array of ballots in a variable. -/
def VarA (w : World) (x : Nat) (t : TypeId) (ps : List Pxs) : Prop := w.heap[x]? = some (.cells (pxsV ps).toArray t (0, 0))
theorem VarA.lt {w : World} {x t : Nat} {ps : List Pxs} (k : VarA w x t ps) : x < w.heap.size := (Array.getElem?_eq_some_iff.1 k).1
theorem VarA.below {w w' : World} {x t : Nat} {ps : List Pxs} (k : VarA w x t ps) (hb : Below w.heap.size w w') : VarA w' x t ps := by
  unfold VarA; rw [hb.block x k.lt]; exact k
theorem VarA.keep {S : Nat → Prop} {w w' : World} {x t : Nat} {ps : List Pxs} (k : VarA w x t ps) (hk : Keep S w w') (hs : ¬ S x) : VarA w' x t ps := by
  unfold VarA; rw [hk.block x k.lt hs]; exact k
theorem VarA.free {w : World} {x t : Nat} {ps : List Pxs} (k : VarA w x t ps) (i : Nat) : w.frozen? ⟨x, i, none⟩ = false := Joins.unfrozen_of_block k i
theorem VarA.get {w : World} {x t : Nat} {ps : List Pxs} (k : VarA w x t ps) {i : Nat} (h : i < ps.length) : w.cell? ⟨x, i * 8, none⟩ = some (.int .i64 ps[i].host) ∧ w.cell? ⟨x, i * 8 + 1, none⟩ = some (.int .i64 ps[i].ver) ∧ w.cell? ⟨x, i * 8 + 2, none⟩ = some (.int .i64 ps[i].phase) ∧ w.cell? ⟨x, i * 8 + 3, none⟩ = some (.int .i64 ps[i].ballot) ∧ w.cell? ⟨x, i * 8 + 4, none⟩ = some (.int .i64 ps[i].value) ∧ w.cell? ⟨x, i * 8 + 5, none⟩ = some (.int .i64 ps[i].next) ∧ w.cell? ⟨x, i * 8 + 6, none⟩ = some (.int .i64 ps[i].best) ∧ w.cell? ⟨x, i * 8 + 7, none⟩ = some (.int .i64 ps[i].bestBal) := by
  obtain ⟨g0, g1, g2, g3, g4, g5, g6, g7⟩ := pxsV_get h
  refine ⟨?_, ?_, ?_, ?_, ?_, ?_, ?_, ?_⟩
  · rw [Joins.cell_of_block k]; simpa using g0
  · rw [Joins.cell_of_block k]; simpa using g1
  · rw [Joins.cell_of_block k]; simpa using g2
  · rw [Joins.cell_of_block k]; simpa using g3
  · rw [Joins.cell_of_block k]; simpa using g4
  · rw [Joins.cell_of_block k]; simpa using g5
  · rw [Joins.cell_of_block k]; simpa using g6
  · rw [Joins.cell_of_block k]; simpa using g7
theorem VarA.put {w : World} {x t : Nat} {ps : List Pxs} (k : VarA w x t ps) {i : Nat} (h : i < ps.length) (y : Pxs) : VarA ((((((((w.setCell ⟨x, i * 8, none⟩ (.int .i64 y.host)).setCell ⟨x, i * 8 + 1, none⟩ (.int .i64 y.ver)).setCell ⟨x, i * 8 + 2, none⟩ (.int .i64 y.phase)).setCell ⟨x, i * 8 + 3, none⟩ (.int .i64 y.ballot)).setCell ⟨x, i * 8 + 4, none⟩ (.int .i64 y.value)).setCell ⟨x, i * 8 + 5, none⟩ (.int .i64 y.next)).setCell ⟨x, i * 8 + 6, none⟩ (.int .i64 y.best)).setCell ⟨x, i * 8 + 7, none⟩ (.int .i64 y.bestBal)) x t (ps.set i y) := by
  have e := set_heap (i := i * 8 + 7) (set_heap (i := i * 8 + 6) (set_heap (i := i * 8 + 5) (set_heap (i := i * 8 + 4) (set_heap (i := i * 8 + 3) (set_heap (i := i * 8 + 2) (set_heap (i := i * 8 + 1) (set_heap (i := i * 8) (k) (.int .i64 y.host)) (.int .i64 y.ver)) (.int .i64 y.phase)) (.int .i64 y.ballot)) (.int .i64 y.value)) (.int .i64 y.next)) (.int .i64 y.best)) (.int .i64 y.bestBal)
  unfold VarA
  rw [e]
  simp only [List.setIfInBounds_toArray]
  rw [pxsV_set h y]
theorem keepA {S : Nat → Prop} {w0 w : World} {x : Nat} (h : Keep S w0 w) (hx : S x) (i : Nat) (y : Pxs) : Keep S w0 ((((((((w.setCell ⟨x, i * 8, none⟩ (.int .i64 y.host)).setCell ⟨x, i * 8 + 1, none⟩ (.int .i64 y.ver)).setCell ⟨x, i * 8 + 2, none⟩ (.int .i64 y.phase)).setCell ⟨x, i * 8 + 3, none⟩ (.int .i64 y.ballot)).setCell ⟨x, i * 8 + 4, none⟩ (.int .i64 y.value)).setCell ⟨x, i * 8 + 5, none⟩ (.int .i64 y.next)).setCell ⟨x, i * 8 + 6, none⟩ (.int .i64 y.best)).setCell ⟨x, i * 8 + 7, none⟩ (.int .i64 y.bestBal)) :=
  ((((((((h.setCell (p := ⟨x, i * 8, none⟩) hx (.int .i64 y.host)).setCell (p := ⟨x, i * 8 + 1, none⟩) hx (.int .i64 y.ver)).setCell (p := ⟨x, i * 8 + 2, none⟩) hx (.int .i64 y.phase)).setCell (p := ⟨x, i * 8 + 3, none⟩) hx (.int .i64 y.ballot)).setCell (p := ⟨x, i * 8 + 4, none⟩) hx (.int .i64 y.value)).setCell (p := ⟨x, i * 8 + 5, none⟩) hx (.int .i64 y.next)).setCell (p := ⟨x, i * 8 + 6, none⟩) hx (.int .i64 y.best)).setCell (p := ⟨x, i * 8 + 7, none⟩) hx (.int .i64 y.bestBal))
theorem belowA {B : Nat} {w0 w : World} {x : Nat} (h : Below B w0 w) (hx : B ≤ x) (i : Nat) (y : Pxs) : Below B w0 ((((((((w.setCell ⟨x, i * 8, none⟩ (.int .i64 y.host)).setCell ⟨x, i * 8 + 1, none⟩ (.int .i64 y.ver)).setCell ⟨x, i * 8 + 2, none⟩ (.int .i64 y.phase)).setCell ⟨x, i * 8 + 3, none⟩ (.int .i64 y.ballot)).setCell ⟨x, i * 8 + 4, none⟩ (.int .i64 y.value)).setCell ⟨x, i * 8 + 5, none⟩ (.int .i64 y.next)).setCell ⟨x, i * 8 + 6, none⟩ (.int .i64 y.best)).setCell ⟨x, i * 8 + 7, none⟩ (.int .i64 y.bestBal)) :=
  ((((((((h.setCell (p := ⟨x, i * 8, none⟩) hx (.int .i64 y.host)).setCell (p := ⟨x, i * 8 + 1, none⟩) hx (.int .i64 y.ver)).setCell (p := ⟨x, i * 8 + 2, none⟩) hx (.int .i64 y.phase)).setCell (p := ⟨x, i * 8 + 3, none⟩) hx (.int .i64 y.ballot)).setCell (p := ⟨x, i * 8 + 4, none⟩) hx (.int .i64 y.value)).setCell (p := ⟨x, i * 8 + 5, none⟩) hx (.int .i64 y.next)).setCell (p := ⟨x, i * 8 + 6, none⟩) hx (.int .i64 y.best)).setCell (p := ⟨x, i * 8 + 7, none⟩) hx (.int .i64 y.bestBal))
theorem pxs_one (xs : List Pxs) : ∀ v ∈ pxsV xs, v.oneCell' = true := by
  intro v hv
  simp only [pxsV, List.mem_flatMap] at hv
  obtain ⟨x, _, hv⟩ := hv
  simp at hv
  rcases hv with rfl | rfl | rfl | rfl | rfl | rfl | rfl | rfl <;> rfl
end Go.Proofs.Ytdigphemaccodaa

/- The program's runFault, freshTry, decisions. -/
namespace Go.Proofs.Ytdigphemaccodaa
open Go.RowKit
set_option linter.unusedVariables false
set_option maxRecDepth 100000

set_option maxHeartbeats 1600000 in
theorem runFault_any (ao bo : Option Addr) (ca cb : Nat) (vs sc : List Int) (w : World) (hl : vs.length ≤ 1048576) (hm : sc.length ≤ 1048576) (h1 : Is w ao vs) (h2 : Is w bo sc) :
    Calls Try.prog 28 #[.slice ao vs.length ca, .slice bo sc.length cb] w fun e w' => e = .returned (.int .i64 (rfC vs sc)) ∧ w' = w := by
  have H1 := hide h1
  have H2 := hide h2
  clear h1 h2
  by_cases hv : 4096 < vs.length
  · have HE := hide (rf_long (sc := sc) (.inl hv))
    go_enter Try.func28, Try.ntmps28
    go_wp2
    go_ret
    exact ⟨ret_int (unhide HE).symm, rfl⟩
  by_cases hs : 4096 < sc.length
  · have HE := hide (rf_long (vs := vs) (.inr hs))
    go_enter Try.func28, Try.ntmps28
    go_wp2
    go_ret
    exact ⟨ret_int (unhide HE).symm, rfl⟩
  have HN : Hid (¬ (4096 < vs.length ∨ 4096 < sc.length)) := hide (by omega)
  by_cases h4 : ¬ vs.length = 4
  · have HE := hide (rf_bad (unhide HN) (by simp [h4]))
    have hb : ((vs.length : Int) != 4) = true := by simp; omega
    go_enter Try.func28, Try.ntmps28
    go_wp2
    go_ret
    exact ⟨ret_int (unhide HE).symm, rfl⟩
  rw [Decidable.not_not] at h4
  have hb : ((vs.length : Int) != 4) = false := by simp; omega
  have H4 := hide h4
  clear h4
  go_enter Try.func28, Try.ntmps28
  go_wp2
  go_loop [6, 22] (fun _ i => ∃ k : Nat, k ≤ vs.length ∧ i = .int .i64 k ∧ Hid (∀ j (h : j < vs.length), j < k → numB vs[j] = true)) (fun _ i => vs.length - (intOf i).toNat)
  case atStart => exact ⟨0, Nat.zero_le _, rfl, hide (fun j _ h => by omega)⟩
  case round =>
    obtain ⟨k, hk, rfl, HA⟩ := hrel
    by_cases hlt : k < vs.length
    · obtain ⟨b, off, rfl, hc⟩ := unhide H1 k hlt
      by_cases hn : numB vs[k] = true
      · have HNX := hide (all_succ (p := numB) hlt (unhide HA) hn)
        go_wp2_with (go_at_call 47; refine (isNumber_any _ _).mono ?_; rintro e w' ⟨rfl, rfl⟩)
        go_round
        case rel => exact ⟨k + 1, by omega, by go_num, HNX⟩
        case measure => simp [intOf]; omega
      · have hn' : numB vs[k] = false := by simpa using hn
        have HE := hide (rf_bad (unhide HN) (by rw [allB_false hlt hn']; simp))
        clear hn
        go_wp2_with (go_at_call 47; refine (isNumber_any _ _).mono ?_; rintro e w' ⟨rfl, rfl⟩)
        go_ret
        exact ⟨ret_int (unhide HE).symm, rfl⟩
    · have HV : Hid ((decide (vs.length = 4) && allB vs) = true) := hide (by rw [decide_eq_true (unhide H4), allB_true (fun j h => unhide HA j h (by omega))]; rfl)
      clear HA
      go_wp2
      go_loop [8, 32] (fun _ i => ∃ k : Nat, k ≤ sc.length ∧ i = .int .i64 k ∧ Hid (∀ j (h : j < sc.length), j < k → hostB sc[j] = true)) (fun _ i => sc.length - (intOf i).toNat)
      case atStart => exact ⟨0, Nat.zero_le _, rfl, hide (fun j _ h => by omega)⟩
      case round =>
        obtain ⟨k', hk', rfl, HA⟩ := hrel
        by_cases hlt' : k' < sc.length
        · obtain ⟨b, off, rfl, hc⟩ := unhide H2 k' hlt'
          by_cases hn : hostB sc[k'] = true
          · have HNX := hide (all_succ (p := hostB) hlt' (unhide HA) hn)
            have hn2 : inB sc[k'] 0 3 = true := hn
            clear hn
            go_wp2_with (go_at_call 38; refine (hostOK_any _ _).mono ?_; rintro e w' ⟨rfl, rfl⟩)
            go_round
            case rel => exact ⟨k' + 1, by omega, by go_num, HNX⟩
            case measure => simp [intOf]; omega
          · have hn' : hostB sc[k'] = false := by simpa using hn
            have HE := hide (rf_range (unhide HN) (unhide HV) (all_not (p := hostB) hlt' hn'))
            have hn2 : inB sc[k'] 0 3 = false := hn'
            clear hn hn'
            go_wp2_with (go_at_call 38; refine (hostOK_any _ _).mono ?_; rintro e w' ⟨rfl, rfl⟩)
            go_ret
            exact ⟨ret_int (unhide HE).symm, rfl⟩
        · have HE := hide (rf_ok (unhide HN) (unhide HV) (all_of (p := hostB) (fun j h _ => unhide HA j h (by omega))))
          go_wp2
          go_ret
          exact ⟨ret_int (unhide HE).symm, rfl⟩

set_option maxHeartbeats 1600000 in
theorem freshTry_any (h v : Int) (ao : Option Addr) (n ca : Nat) (bs : List Bk) (w : World) (hn : bs.length = n) (h4 : n = 4) (hc : Bks w ao bs) (hb' : bksB bs = true) (hp : pxB (ps0 h 0 (nxBal h 0 bs) v) = true) (hm : nxBal h 0 bs ≤ 1000000) :
    Calls Try.prog 29 #[.int .i64 h, .int .i64 v, .slice ao n ca] w fun e w' => e = .returned (pV (ps0 h 0 (nxBal h 0 bs) v)) ∧ Below w.heap.size w w' := by
  have hh : inB h 0 3 = true := by have := (pxB_iff.1 hp).1; simpa [inB, ps0] using this
  have e1 : bfC bs = 0 := bfC_ok (by omega) hb'
  have e2 : inB 0 0 1000000 = true := by simp [inB]
  have e3 : ¬ 1000000 < nxBal h 0 bs := by omega
  have HNB : Hid (nbN h 0 bs = nxBal h 0 bs ∧ nbC h 0 bs = 0) := hide (nb_ok e1 hh e2 e3)
  clear e1 e2 e3
  have HPS : Hid (psP h 0 (nxBal h 0 bs) v = ps0 h 0 (nxBal h 0 bs) v ∧ psC h 0 (nxBal h 0 bs) v = 0) := hide ⟨if_pos hp, if_pos hp⟩
  have HV := hide (VarP.new0 w 33)
  have HA := hide (Joins.below_alloc1 w (.cells #[.int .i64 0, .int .i64 0, .int .i64 0, .int .i64 0, .int .i64 0, .int .i64 0, .int .i64 0, .int .i64 0] 33))
  have HC := hide (hc.below (unhide HA))
  have HCN := hide (fun W hx => nextBallot_impl h 0 ao ca bs W (by omega) hx)
  rw [(unhide HNB).1, (unhide HNB).2] at HCN
  have HCS := hide (fun W => pxStart_impl h 0 (nxBal h 0 bs) v W)
  rw [(unhide HPS).1, (unhide HPS).2] at HCS
  clear hc hb' hp hm hh HNB HPS h4
  subst hn
  revert HCN HCS
  generalize ps0 h 0 (nxBal h 0 bs) v = q
  generalize nxBal h 0 bs = N1
  intro HCN HCS
  go_enter Try.func29, Try.ntmps29
  go_wp2_with fail
  refine (unhide HCN _ (unhide HC)).mono ?_
  rintro e w1 ⟨rfl, hb⟩
  have HB1 := hide (fr (unhide HA) hb)
  have HV1 := hide ((unhide HV).below hb)
  clear hb
  go_wp2_with fail
  refine (unhide HCS _).mono ?_
  rintro e w2 ⟨rfl, hb⟩
  have hb2 := fr hb (Joins.below_alloc1 w2 (.cells #[.int .i64 q.host, .int .i64 q.ver, .int .i64 q.phase, .int .i64 q.ballot, .int .i64 q.value, .int .i64 q.next, .int .i64 q.best, .int .i64 q.bestBal] 33))
  have HB2 := hide (fr (unhide HB1) hb2)
  have HV2 := hide ((unhide HV1).below hb2)
  have HQ2 := hide (VarP.new w2 33 q)
  clear hb hb2
  go_upto_region 3 with fail
  revert HB2 HV2 HQ2
  generalize w2.alloc (.cells #[.int .i64 q.host, .int .i64 q.ver, .int .i64 q.phase, .int .i64 q.ballot, .int .i64 q.value, .int .i64 q.next, .int .i64 q.best, .int .i64 q.bestBal] 33) = W2
  generalize w2.heap.size = b
  intro HB2 HV2 HQ2
  obtain ⟨c0, c1, c2, c3, c4, c5, c6, c7⟩ := (unhide HQ2).cells
  obtain ⟨r0, r1, r2, r3, r4, r5, r6, r7⟩ := (unhide HV2).cells
  obtain ⟨s0, s1, s2, s3, s4, s5, s6, s7⟩ := (unhide HV2).free
  have HK := hide (fun u0 u1 u2 u3 u4 u5 u6 u7 => below8 (unhide HB2) (Nat.le_refl _) u0 u1 u2 u3 u4 u5 u6 u7)
  go_wp2
  exact bodyPost_ret (v := pV q) (by simp [results, Try.results29, go_sem, r0, r1, r2, r3, r4, r5, r6, r7]) rfl ⟨rfl, unhide HK _ _ _ _ _ _ _ _⟩

end Go.Proofs.Ytdigphemaccodaa

/- The program's decisions. -/
namespace Go.Proofs.Ytdigphemaccodaa
open Go.RowKit
set_option linter.unusedVariables false
set_option maxRecDepth 100000

abbrev qaV (q0 q1 q2 q3 : Pxs) : Value := .agg #[.int .i64 q0.host, .int .i64 q0.ver, .int .i64 q0.phase, .int .i64 q0.ballot, .int .i64 q0.value, .int .i64 q0.next, .int .i64 q0.best, .int .i64 q0.bestBal, .int .i64 q1.host, .int .i64 q1.ver, .int .i64 q1.phase, .int .i64 q1.ballot, .int .i64 q1.value, .int .i64 q1.next, .int .i64 q1.best, .int .i64 q1.bestBal, .int .i64 q2.host, .int .i64 q2.ver, .int .i64 q2.phase, .int .i64 q2.ballot, .int .i64 q2.value, .int .i64 q2.next, .int .i64 q2.best, .int .i64 q2.bestBal, .int .i64 q3.host, .int .i64 q3.ver, .int .i64 q3.phase, .int .i64 q3.ballot, .int .i64 q3.value, .int .i64 q3.next, .int .i64 q3.best, .int .i64 q3.bestBal]
abbrev qaO (q0 q1 q2 q3 : Pxs) : Obj := .cells #[.int .i64 q0.host, .int .i64 q0.ver, .int .i64 q0.phase, .int .i64 q0.ballot, .int .i64 q0.value, .int .i64 q0.next, .int .i64 q0.best, .int .i64 q0.bestBal, .int .i64 q1.host, .int .i64 q1.ver, .int .i64 q1.phase, .int .i64 q1.ballot, .int .i64 q1.value, .int .i64 q1.next, .int .i64 q1.best, .int .i64 q1.bestBal, .int .i64 q2.host, .int .i64 q2.ver, .int .i64 q2.phase, .int .i64 q2.ballot, .int .i64 q2.value, .int .i64 q2.next, .int .i64 q2.best, .int .i64 q2.bestBal, .int .i64 q3.host, .int .i64 q3.ver, .int .i64 q3.phase, .int .i64 q3.ballot, .int .i64 q3.value, .int .i64 q3.next, .int .i64 q3.best, .int .i64 q3.bestBal] 55
theorem infoI : (Try.prog.info? 3).map (fun i => (i.zero, i.size, i.bytes)) = some (some (.int .i64 0), 1, 8) := by kernel_rfl
theorem infoA : (Try.prog.info? 55).map (·.size) = some 32 := by kernel_rfl
theorem infoP8 : (Try.prog.info? 33).map (fun i => i.size) = some 8 := by kernel_rfl
theorem idx0 (q0 q1 q2 q3 : Pxs) (W : World) : (Instr.index 55 (qaV q0 q1 q2 q3) (.int .i64 0)).run Try.prog W = .ok (pV q0) W := by
  have hq := infoP8
  cases hi : Try.prog.info? 33 with
  | none => rw [hi] at hq; cases hq
  | some i =>
    have hs : i.size = 8 := by rw [hi] at hq; simpa using hq
    simp [Instr.index, run_underlying Try.underlying55, asIntOf, go_sem, sizeOf, typeInfo, hi, hs]
theorem idx1 (q0 q1 q2 q3 : Pxs) (W : World) : (Instr.index 55 (qaV q0 q1 q2 q3) (.int .i64 1)).run Try.prog W = .ok (pV q1) W := by
  have hq := infoP8
  cases hi : Try.prog.info? 33 with
  | none => rw [hi] at hq; cases hq
  | some i =>
    have hs : i.size = 8 := by rw [hi] at hq; simpa using hq
    simp [Instr.index, run_underlying Try.underlying55, asIntOf, go_sem, sizeOf, typeInfo, hi, hs]
theorem idx2 (q0 q1 q2 q3 : Pxs) (W : World) : (Instr.index 55 (qaV q0 q1 q2 q3) (.int .i64 2)).run Try.prog W = .ok (pV q2) W := by
  have hq := infoP8
  cases hi : Try.prog.info? 33 with
  | none => rw [hi] at hq; cases hq
  | some i =>
    have hs : i.size = 8 := by rw [hi] at hq; simpa using hq
    simp [Instr.index, run_underlying Try.underlying55, asIntOf, go_sem, sizeOf, typeInfo, hi, hs]
theorem idx3 (q0 q1 q2 q3 : Pxs) (W : World) : (Instr.index 55 (qaV q0 q1 q2 q3) (.int .i64 3)).run Try.prog W = .ok (pV q3) W := by
  have hq := infoP8
  cases hi : Try.prog.info? 33 with
  | none => rw [hi] at hq; cases hq
  | some i =>
    have hs : i.size = 8 := by rw [hi] at hq; simpa using hq
    simp [Instr.index, run_underlying Try.underlying55, asIntOf, go_sem, sizeOf, typeInfo, hi, hs]

/-- One more number is told. -/
theorem told_more {wr wA w : World} {qo : Option Addr} {k qa g cap : Nat} {ts : List Int} {r : Int} {o1 o2 : Obj} (hb : Below w.heap.size w wr) (ho : OwnR wr w.heap.size 3 1 (.slice qo k qa) k (intV ts))
    (hoA : wA.ownsRow w.heap.size 3 1 (.slice (some ⟨g, 0, none⟩) (k + 1) cap) (k + 1) (intV ts ++ [.int .i64 r])) (hkA : Keep (Own (.slice qo k qa)) ((wr.alloc o1).alloc o2) wA) :
    OwnR wA w.heap.size 3 1 (.slice (some ⟨g, 0, none⟩) (k + 1) cap) (k + 1) (intV (ts ++ [r])) ∧ Below w.heap.size w wA := by
  have hb2 := fr hb (Joins.below_alloc2 wr o1 o2)
  refine ⟨by rw [intV_snoc]; exact .inr ⟨by omega, hoA⟩, hb2.trans (hkA.below hb2.size (fun j hj => ((ho.below (Joins.below_alloc2 wr o1 o2)).ge j hj).1))⟩

set_option maxHeartbeats 3200000 in
theorem decisions_any (q0 q1 q2 q3 : Pxs) (c : List Value) (w : World) (hc : c = [.int .i64 q0.host, .int .i64 q0.ver, .int .i64 q0.phase, .int .i64 q0.ballot, .int .i64 q0.value, .int .i64 q0.next, .int .i64 q0.best, .int .i64 q0.bestBal, .int .i64 q1.host, .int .i64 q1.ver, .int .i64 q1.phase, .int .i64 q1.ballot, .int .i64 q1.value, .int .i64 q1.next, .int .i64 q1.best, .int .i64 q1.bestBal, .int .i64 q2.host, .int .i64 q2.ver, .int .i64 q2.phase, .int .i64 q2.ballot, .int .i64 q2.value, .int .i64 q2.next, .int .i64 q2.best, .int .i64 q2.bestBal, .int .i64 q3.host, .int .i64 q3.ver, .int .i64 q3.phase, .int .i64 q3.ballot, .int .i64 q3.value, .int .i64 q3.next, .int .i64 q3.best, .int .i64 q3.bestBal]) :
    Calls Try.prog 30 #[.agg c.toArray] w fun e w' => ∃ qo qa, e = .returned (.slice qo 4 qa) ∧ OwnR w' w.heap.size 3 1 (.slice qo 4 qa) 4 (intV (told [q0, q1, q2, q3])) ∧ Below w.heap.size w w' := by
  obtain ⟨j0, hj, hy0, hy1, hy2⟩ := info_parts infoI
  have HA := hide (Joins.below_alloc1 w (.cells c.toArray 55))
  have i0 : ∀ W : World, (Instr.index 55 (.agg c.toArray) (.int .i64 0)).run Try.prog W = .ok (pV q0) W := fun W => by rw [hc]; exact idx0 q0 q1 q2 q3 W
  have i1 : ∀ W : World, (Instr.index 55 (.agg c.toArray) (.int .i64 1)).run Try.prog W = .ok (pV q1) W := fun W => by rw [hc]; exact idx1 q0 q1 q2 q3 W
  have i2 : ∀ W : World, (Instr.index 55 (.agg c.toArray) (.int .i64 2)).run Try.prog W = .ok (pV q2) W := fun W => by rw [hc]; exact idx2 q0 q1 q2 q3 W
  have i3 : ∀ W : World, (Instr.index 55 (.agg c.toArray) (.int .i64 3)).run Try.prog W = .ok (pV q3) W := fun W => by rw [hc]; exact idx3 q0 q1 q2 q3 W
  have hrg : (w.alloc (.cells c.toArray 55)).rangeAt w.heap.size 0 c := fun j v hv => by rw [Nat.zero_add, Joins.cell_of_block (heap_alloc_new w _)]; simpa using hv
  have hif : (Try.prog.info? 55).map (·.size) = some c.length := by rw [hc]; exact infoA
  have HRG := hide hrg
  have HIF := hide hif
  clear hc hrg hif
  go_enter Try.func30, Try.ntmps30
  go_upto_region 2 with fail
  go_wp2_with (refine wpList_load_mid rfl 55 _ rfl w.heap.size 0 rfl c _ (unhide HRG) Try.underlying55 rfl (unhide HIF) ?_)
  clear HRG HIF
  revert HA
  generalize w.alloc (.cells c.toArray 55) = W1
  intro HA
  go_loopw [3, 5, 7] (fun o _ i wr => ∃ (k : Nat) (qo : Option Addr) (qa : Nat), k ≤ 4 ∧ i = .int .i64 k ∧ o = .slice qo k qa ∧ Hid (OwnR wr w.heap.size 3 1 (.slice qo k qa) k (intV ((told [q0, q1, q2, q3]).take k))) ∧ Hid (Below w.heap.size w wr)) (fun _ _ i _ => 4 - (intOf i).toNat)
  case atStart => exact ⟨0, none, 0, by omega, rfl, rfl, hide (.inl ⟨rfl, rfl, none, rfl⟩), HA⟩
  case round =>
    obtain ⟨k, qo, qa, hk, rfl, rfl, HO, HB⟩ := hrel
    rcases (show k = 0 ∨ k = 1 ∨ k = 2 ∨ k = 3 ∨ k = 4 by omega) with rfl | rfl | rfl | rfl | rfl
    · by_cases h5 : q0.phase = 5
      · have b5 : (q0.phase == 5) = true := by simp [h5]
        have HT : Hid ((told [q0, q1, q2, q3]).take 1 = (told [q0, q1, q2, q3]).take 0 ++ [q0.value]) := hide (by rw [told_at (ps := [q0, q1, q2, q3]) (k := 0) (by simp)]; simp [h5])
        clear h5 hk
        have HOA := hide ((unhide HO).below (Joins.below_alloc2 wr (.cells #[.int .i64 q0.host, .int .i64 q0.ver, .int .i64 q0.phase, .int .i64 q0.ballot, .int .i64 q0.value, .int .i64 q0.next, .int .i64 q0.best, .int .i64 q0.bestBal] 33) (.cells #[.int .i64 q0.value] 3)))
        have HSZ := hide (unhide HB).size
        have HI : Hid (∀ j u, [Value.int .i64 q0.value][j]? = some u → ((wr.alloc (.cells #[.int .i64 q0.host, .int .i64 q0.ver, .int .i64 q0.phase, .int .i64 q0.ballot, .int .i64 q0.value, .int .i64 q0.next, .int .i64 q0.best, .int .i64 q0.bestBal] 33)).alloc (.cells #[.int .i64 q0.value] 3)).cell? ((⟨wr.heap.size + 1, 0, none⟩ : Addr).add j) = some u) := hide (by have := byte_news (wr.alloc (.cells #[.int .i64 q0.host, .int .i64 q0.ver, .int .i64 q0.phase, .int .i64 q0.ballot, .int .i64 q0.value, .int .i64 q0.next, .int .i64 q0.best, .int .i64 q0.bestBal] 33)) (.int .i64 q0.value) 3; simp only [World.size_alloc] at this; exact this)
        go_wp2_with (at_builtin; refine wpList_append_one rfl _ _ 24 rfl w.heap.size 3 j0 (.int .i64 0) 1 8 Try.underlying24 hj hy0 hy1 hy2 rfl (by omega) qo 0 qa _ rfl (unhide HOA) (by have := unhide HSZ; simp; omega) ⟨wr.heap.size + 1, 0, none⟩ _ [.int .i64 q0.value] rfl rfl (unhide HI) (int_one _) (by unfold maxLen; omega) (by omega) ?_; intro g2 cap2 wA hoA hkA; have HSF := hide (told_more (unhide HB) (unhide HO) hoA hkA); clear hoA hkA)
        go_roundw
        case rel => exact ⟨1, some ⟨g2, 0, none⟩, cap2, by omega, rfl, rfl, hide (by rw [unhide HT]; exact (unhide HSF).1), hide (unhide HSF).2⟩
        case measure => simp [intOf]
      · have b5 : (q0.phase == 5) = false := by simp [h5]
        have HT : Hid ((told [q0, q1, q2, q3]).take 1 = (told [q0, q1, q2, q3]).take 0 ++ [(-1)]) := hide (by rw [told_at (ps := [q0, q1, q2, q3]) (k := 0) (by simp)]; simp [h5])
        clear h5 hk
        have HOA := hide ((unhide HO).below (Joins.below_alloc2 wr (.cells #[.int .i64 q0.host, .int .i64 q0.ver, .int .i64 q0.phase, .int .i64 q0.ballot, .int .i64 q0.value, .int .i64 q0.next, .int .i64 q0.best, .int .i64 q0.bestBal] 33) (.cells #[.int .i64 (-1)] 3)))
        have HSZ := hide (unhide HB).size
        have HI : Hid (∀ j u, [Value.int .i64 (-1)][j]? = some u → ((wr.alloc (.cells #[.int .i64 q0.host, .int .i64 q0.ver, .int .i64 q0.phase, .int .i64 q0.ballot, .int .i64 q0.value, .int .i64 q0.next, .int .i64 q0.best, .int .i64 q0.bestBal] 33)).alloc (.cells #[.int .i64 (-1)] 3)).cell? ((⟨wr.heap.size + 1, 0, none⟩ : Addr).add j) = some u) := hide (by have := byte_news (wr.alloc (.cells #[.int .i64 q0.host, .int .i64 q0.ver, .int .i64 q0.phase, .int .i64 q0.ballot, .int .i64 q0.value, .int .i64 q0.next, .int .i64 q0.best, .int .i64 q0.bestBal] 33)) (.int .i64 (-1)) 3; simp only [World.size_alloc] at this; exact this)
        go_wp2_with (at_builtin; refine wpList_append_one rfl _ _ 24 rfl w.heap.size 3 j0 (.int .i64 0) 1 8 Try.underlying24 hj hy0 hy1 hy2 rfl (by omega) qo 0 qa _ rfl (unhide HOA) (by have := unhide HSZ; simp; omega) ⟨wr.heap.size + 1, 0, none⟩ _ [.int .i64 (-1)] rfl rfl (unhide HI) (int_one _) (by unfold maxLen; omega) (by omega) ?_; intro g2 cap2 wA hoA hkA; have HSF := hide (told_more (unhide HB) (unhide HO) hoA hkA); clear hoA hkA)
        go_roundw
        case rel => exact ⟨1, some ⟨g2, 0, none⟩, cap2, by omega, rfl, rfl, hide (by rw [unhide HT]; exact (unhide HSF).1), hide (unhide HSF).2⟩
        case measure => simp [intOf]
    · by_cases h5 : q1.phase = 5
      · have b5 : (q1.phase == 5) = true := by simp [h5]
        have HT : Hid ((told [q0, q1, q2, q3]).take 2 = (told [q0, q1, q2, q3]).take 1 ++ [q1.value]) := hide (by rw [told_at (ps := [q0, q1, q2, q3]) (k := 1) (by simp)]; simp [h5])
        clear h5 hk
        have HOA := hide ((unhide HO).below (Joins.below_alloc2 wr (.cells #[.int .i64 q1.host, .int .i64 q1.ver, .int .i64 q1.phase, .int .i64 q1.ballot, .int .i64 q1.value, .int .i64 q1.next, .int .i64 q1.best, .int .i64 q1.bestBal] 33) (.cells #[.int .i64 q1.value] 3)))
        have HSZ := hide (unhide HB).size
        have HI : Hid (∀ j u, [Value.int .i64 q1.value][j]? = some u → ((wr.alloc (.cells #[.int .i64 q1.host, .int .i64 q1.ver, .int .i64 q1.phase, .int .i64 q1.ballot, .int .i64 q1.value, .int .i64 q1.next, .int .i64 q1.best, .int .i64 q1.bestBal] 33)).alloc (.cells #[.int .i64 q1.value] 3)).cell? ((⟨wr.heap.size + 1, 0, none⟩ : Addr).add j) = some u) := hide (by have := byte_news (wr.alloc (.cells #[.int .i64 q1.host, .int .i64 q1.ver, .int .i64 q1.phase, .int .i64 q1.ballot, .int .i64 q1.value, .int .i64 q1.next, .int .i64 q1.best, .int .i64 q1.bestBal] 33)) (.int .i64 q1.value) 3; simp only [World.size_alloc] at this; exact this)
        go_wp2_with (at_builtin; refine wpList_append_one rfl _ _ 24 rfl w.heap.size 3 j0 (.int .i64 0) 1 8 Try.underlying24 hj hy0 hy1 hy2 rfl (by omega) qo 1 qa _ rfl (unhide HOA) (by have := unhide HSZ; simp; omega) ⟨wr.heap.size + 1, 0, none⟩ _ [.int .i64 q1.value] rfl rfl (unhide HI) (int_one _) (by unfold maxLen; omega) (by omega) ?_; intro g2 cap2 wA hoA hkA; have HSF := hide (told_more (unhide HB) (unhide HO) hoA hkA); clear hoA hkA)
        go_roundw
        case rel => exact ⟨2, some ⟨g2, 0, none⟩, cap2, by omega, rfl, rfl, hide (by rw [unhide HT]; exact (unhide HSF).1), hide (unhide HSF).2⟩
        case measure => simp [intOf]
      · have b5 : (q1.phase == 5) = false := by simp [h5]
        have HT : Hid ((told [q0, q1, q2, q3]).take 2 = (told [q0, q1, q2, q3]).take 1 ++ [(-1)]) := hide (by rw [told_at (ps := [q0, q1, q2, q3]) (k := 1) (by simp)]; simp [h5])
        clear h5 hk
        have HOA := hide ((unhide HO).below (Joins.below_alloc2 wr (.cells #[.int .i64 q1.host, .int .i64 q1.ver, .int .i64 q1.phase, .int .i64 q1.ballot, .int .i64 q1.value, .int .i64 q1.next, .int .i64 q1.best, .int .i64 q1.bestBal] 33) (.cells #[.int .i64 (-1)] 3)))
        have HSZ := hide (unhide HB).size
        have HI : Hid (∀ j u, [Value.int .i64 (-1)][j]? = some u → ((wr.alloc (.cells #[.int .i64 q1.host, .int .i64 q1.ver, .int .i64 q1.phase, .int .i64 q1.ballot, .int .i64 q1.value, .int .i64 q1.next, .int .i64 q1.best, .int .i64 q1.bestBal] 33)).alloc (.cells #[.int .i64 (-1)] 3)).cell? ((⟨wr.heap.size + 1, 0, none⟩ : Addr).add j) = some u) := hide (by have := byte_news (wr.alloc (.cells #[.int .i64 q1.host, .int .i64 q1.ver, .int .i64 q1.phase, .int .i64 q1.ballot, .int .i64 q1.value, .int .i64 q1.next, .int .i64 q1.best, .int .i64 q1.bestBal] 33)) (.int .i64 (-1)) 3; simp only [World.size_alloc] at this; exact this)
        go_wp2_with (at_builtin; refine wpList_append_one rfl _ _ 24 rfl w.heap.size 3 j0 (.int .i64 0) 1 8 Try.underlying24 hj hy0 hy1 hy2 rfl (by omega) qo 1 qa _ rfl (unhide HOA) (by have := unhide HSZ; simp; omega) ⟨wr.heap.size + 1, 0, none⟩ _ [.int .i64 (-1)] rfl rfl (unhide HI) (int_one _) (by unfold maxLen; omega) (by omega) ?_; intro g2 cap2 wA hoA hkA; have HSF := hide (told_more (unhide HB) (unhide HO) hoA hkA); clear hoA hkA)
        go_roundw
        case rel => exact ⟨2, some ⟨g2, 0, none⟩, cap2, by omega, rfl, rfl, hide (by rw [unhide HT]; exact (unhide HSF).1), hide (unhide HSF).2⟩
        case measure => simp [intOf]
    · by_cases h5 : q2.phase = 5
      · have b5 : (q2.phase == 5) = true := by simp [h5]
        have HT : Hid ((told [q0, q1, q2, q3]).take 3 = (told [q0, q1, q2, q3]).take 2 ++ [q2.value]) := hide (by rw [told_at (ps := [q0, q1, q2, q3]) (k := 2) (by simp)]; simp [h5])
        clear h5 hk
        have HOA := hide ((unhide HO).below (Joins.below_alloc2 wr (.cells #[.int .i64 q2.host, .int .i64 q2.ver, .int .i64 q2.phase, .int .i64 q2.ballot, .int .i64 q2.value, .int .i64 q2.next, .int .i64 q2.best, .int .i64 q2.bestBal] 33) (.cells #[.int .i64 q2.value] 3)))
        have HSZ := hide (unhide HB).size
        have HI : Hid (∀ j u, [Value.int .i64 q2.value][j]? = some u → ((wr.alloc (.cells #[.int .i64 q2.host, .int .i64 q2.ver, .int .i64 q2.phase, .int .i64 q2.ballot, .int .i64 q2.value, .int .i64 q2.next, .int .i64 q2.best, .int .i64 q2.bestBal] 33)).alloc (.cells #[.int .i64 q2.value] 3)).cell? ((⟨wr.heap.size + 1, 0, none⟩ : Addr).add j) = some u) := hide (by have := byte_news (wr.alloc (.cells #[.int .i64 q2.host, .int .i64 q2.ver, .int .i64 q2.phase, .int .i64 q2.ballot, .int .i64 q2.value, .int .i64 q2.next, .int .i64 q2.best, .int .i64 q2.bestBal] 33)) (.int .i64 q2.value) 3; simp only [World.size_alloc] at this; exact this)
        go_wp2_with (at_builtin; refine wpList_append_one rfl _ _ 24 rfl w.heap.size 3 j0 (.int .i64 0) 1 8 Try.underlying24 hj hy0 hy1 hy2 rfl (by omega) qo 2 qa _ rfl (unhide HOA) (by have := unhide HSZ; simp; omega) ⟨wr.heap.size + 1, 0, none⟩ _ [.int .i64 q2.value] rfl rfl (unhide HI) (int_one _) (by unfold maxLen; omega) (by omega) ?_; intro g2 cap2 wA hoA hkA; have HSF := hide (told_more (unhide HB) (unhide HO) hoA hkA); clear hoA hkA)
        go_roundw
        case rel => exact ⟨3, some ⟨g2, 0, none⟩, cap2, by omega, rfl, rfl, hide (by rw [unhide HT]; exact (unhide HSF).1), hide (unhide HSF).2⟩
        case measure => simp [intOf]
      · have b5 : (q2.phase == 5) = false := by simp [h5]
        have HT : Hid ((told [q0, q1, q2, q3]).take 3 = (told [q0, q1, q2, q3]).take 2 ++ [(-1)]) := hide (by rw [told_at (ps := [q0, q1, q2, q3]) (k := 2) (by simp)]; simp [h5])
        clear h5 hk
        have HOA := hide ((unhide HO).below (Joins.below_alloc2 wr (.cells #[.int .i64 q2.host, .int .i64 q2.ver, .int .i64 q2.phase, .int .i64 q2.ballot, .int .i64 q2.value, .int .i64 q2.next, .int .i64 q2.best, .int .i64 q2.bestBal] 33) (.cells #[.int .i64 (-1)] 3)))
        have HSZ := hide (unhide HB).size
        have HI : Hid (∀ j u, [Value.int .i64 (-1)][j]? = some u → ((wr.alloc (.cells #[.int .i64 q2.host, .int .i64 q2.ver, .int .i64 q2.phase, .int .i64 q2.ballot, .int .i64 q2.value, .int .i64 q2.next, .int .i64 q2.best, .int .i64 q2.bestBal] 33)).alloc (.cells #[.int .i64 (-1)] 3)).cell? ((⟨wr.heap.size + 1, 0, none⟩ : Addr).add j) = some u) := hide (by have := byte_news (wr.alloc (.cells #[.int .i64 q2.host, .int .i64 q2.ver, .int .i64 q2.phase, .int .i64 q2.ballot, .int .i64 q2.value, .int .i64 q2.next, .int .i64 q2.best, .int .i64 q2.bestBal] 33)) (.int .i64 (-1)) 3; simp only [World.size_alloc] at this; exact this)
        go_wp2_with (at_builtin; refine wpList_append_one rfl _ _ 24 rfl w.heap.size 3 j0 (.int .i64 0) 1 8 Try.underlying24 hj hy0 hy1 hy2 rfl (by omega) qo 2 qa _ rfl (unhide HOA) (by have := unhide HSZ; simp; omega) ⟨wr.heap.size + 1, 0, none⟩ _ [.int .i64 (-1)] rfl rfl (unhide HI) (int_one _) (by unfold maxLen; omega) (by omega) ?_; intro g2 cap2 wA hoA hkA; have HSF := hide (told_more (unhide HB) (unhide HO) hoA hkA); clear hoA hkA)
        go_roundw
        case rel => exact ⟨3, some ⟨g2, 0, none⟩, cap2, by omega, rfl, rfl, hide (by rw [unhide HT]; exact (unhide HSF).1), hide (unhide HSF).2⟩
        case measure => simp [intOf]
    · by_cases h5 : q3.phase = 5
      · have b5 : (q3.phase == 5) = true := by simp [h5]
        have HT : Hid ((told [q0, q1, q2, q3]).take 4 = (told [q0, q1, q2, q3]).take 3 ++ [q3.value]) := hide (by rw [told_at (ps := [q0, q1, q2, q3]) (k := 3) (by simp)]; simp [h5])
        clear h5 hk
        have HOA := hide ((unhide HO).below (Joins.below_alloc2 wr (.cells #[.int .i64 q3.host, .int .i64 q3.ver, .int .i64 q3.phase, .int .i64 q3.ballot, .int .i64 q3.value, .int .i64 q3.next, .int .i64 q3.best, .int .i64 q3.bestBal] 33) (.cells #[.int .i64 q3.value] 3)))
        have HSZ := hide (unhide HB).size
        have HI : Hid (∀ j u, [Value.int .i64 q3.value][j]? = some u → ((wr.alloc (.cells #[.int .i64 q3.host, .int .i64 q3.ver, .int .i64 q3.phase, .int .i64 q3.ballot, .int .i64 q3.value, .int .i64 q3.next, .int .i64 q3.best, .int .i64 q3.bestBal] 33)).alloc (.cells #[.int .i64 q3.value] 3)).cell? ((⟨wr.heap.size + 1, 0, none⟩ : Addr).add j) = some u) := hide (by have := byte_news (wr.alloc (.cells #[.int .i64 q3.host, .int .i64 q3.ver, .int .i64 q3.phase, .int .i64 q3.ballot, .int .i64 q3.value, .int .i64 q3.next, .int .i64 q3.best, .int .i64 q3.bestBal] 33)) (.int .i64 q3.value) 3; simp only [World.size_alloc] at this; exact this)
        go_wp2_with (at_builtin; refine wpList_append_one rfl _ _ 24 rfl w.heap.size 3 j0 (.int .i64 0) 1 8 Try.underlying24 hj hy0 hy1 hy2 rfl (by omega) qo 3 qa _ rfl (unhide HOA) (by have := unhide HSZ; simp; omega) ⟨wr.heap.size + 1, 0, none⟩ _ [.int .i64 q3.value] rfl rfl (unhide HI) (int_one _) (by unfold maxLen; omega) (by omega) ?_; intro g2 cap2 wA hoA hkA; have HSF := hide (told_more (unhide HB) (unhide HO) hoA hkA); clear hoA hkA)
        go_roundw
        case rel => exact ⟨4, some ⟨g2, 0, none⟩, cap2, by omega, rfl, rfl, hide (by rw [unhide HT]; exact (unhide HSF).1), hide (unhide HSF).2⟩
        case measure => simp [intOf]
      · have b5 : (q3.phase == 5) = false := by simp [h5]
        have HT : Hid ((told [q0, q1, q2, q3]).take 4 = (told [q0, q1, q2, q3]).take 3 ++ [(-1)]) := hide (by rw [told_at (ps := [q0, q1, q2, q3]) (k := 3) (by simp)]; simp [h5])
        clear h5 hk
        have HOA := hide ((unhide HO).below (Joins.below_alloc2 wr (.cells #[.int .i64 q3.host, .int .i64 q3.ver, .int .i64 q3.phase, .int .i64 q3.ballot, .int .i64 q3.value, .int .i64 q3.next, .int .i64 q3.best, .int .i64 q3.bestBal] 33) (.cells #[.int .i64 (-1)] 3)))
        have HSZ := hide (unhide HB).size
        have HI : Hid (∀ j u, [Value.int .i64 (-1)][j]? = some u → ((wr.alloc (.cells #[.int .i64 q3.host, .int .i64 q3.ver, .int .i64 q3.phase, .int .i64 q3.ballot, .int .i64 q3.value, .int .i64 q3.next, .int .i64 q3.best, .int .i64 q3.bestBal] 33)).alloc (.cells #[.int .i64 (-1)] 3)).cell? ((⟨wr.heap.size + 1, 0, none⟩ : Addr).add j) = some u) := hide (by have := byte_news (wr.alloc (.cells #[.int .i64 q3.host, .int .i64 q3.ver, .int .i64 q3.phase, .int .i64 q3.ballot, .int .i64 q3.value, .int .i64 q3.next, .int .i64 q3.best, .int .i64 q3.bestBal] 33)) (.int .i64 (-1)) 3; simp only [World.size_alloc] at this; exact this)
        go_wp2_with (at_builtin; refine wpList_append_one rfl _ _ 24 rfl w.heap.size 3 j0 (.int .i64 0) 1 8 Try.underlying24 hj hy0 hy1 hy2 rfl (by omega) qo 3 qa _ rfl (unhide HOA) (by have := unhide HSZ; simp; omega) ⟨wr.heap.size + 1, 0, none⟩ _ [.int .i64 (-1)] rfl rfl (unhide HI) (int_one _) (by unfold maxLen; omega) (by omega) ?_; intro g2 cap2 wA hoA hkA; have HSF := hide (told_more (unhide HB) (unhide HO) hoA hkA); clear hoA hkA)
        go_roundw
        case rel => exact ⟨4, some ⟨g2, 0, none⟩, cap2, by omega, rfl, rfl, hide (by rw [unhide HT]; exact (unhide HSF).1), hide (unhide HSF).2⟩
        case measure => simp [intOf]
    · go_wp2
      go_ret
      exact ⟨qo, qa, rfl, unhide HO, unhide HB⟩
end Go.Proofs.Ytdigphemaccodaa
