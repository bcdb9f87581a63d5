import Derived.Test.YtdfinapjgffjiaaRows
import Derived.Test.YtdfinapjgffjiaaPart1
import Derived.Test.YtdfinapjgffjiaaPart3
import Derived.Test.YtdfinapjgffjiaaPart4
import Derived.Test.YtdfinapjgffjiaaPart5
import Derived.Test.YtdfinapjgffjiaaPart6
import Derived.Test.YtdfinapjgffjiaaPart7
import Derived.WalkKit
import Derived.WalkSpells
import Derived.KernelRfl
import Derived.Deep.CutRange
import Derived.BigQuiet
import Derived.Deep.QuietTactic
import Derived.Deep.RegionWith
import Derived.Outline
import Derived.Deep.RegionLawGrows
import Derived.Deep.RegionHeld3
import Derived.Deep.AppendLies
import Derived.Test.YtdfinapjgffjiaaPart2

/- The program's PxStep. -/
namespace Go.Proofs.Ytdfinapjgffjiaa
open Go.RowKit
set_option linter.unusedVariables false
set_option maxRecDepth 100000

theorem stepped_end {w W : World} {p p' : Pxs} {xs bs' : List Bk} {c : Int} {qo : Option Addr} {qa : Nat} (h : stP p xs = p' ∧ stL p xs = bs' ∧ stC p xs = stEnd p) (hx : bs'.length = 4) (hc : stEnd p = c)
    (hO : OwnR W w.heap.size 35 4 (.slice qo 4 qa) 4 (bksV bs') ∧ Below w.heap.size w W) : Stepped w W p xs (.returned (.tuple #[pV p', .slice qo 4 qa, .int .i64 c])) := by
  unfold Stepped
  rw [h.1, h.2.1, h.2.2, hx, hc]
  exact ⟨qo, qa, rfl, hO.1, hO.2⟩
theorem st_fault {p : Pxs} {xs : List Bk} (h : ¬ bfC xs = 0) : stP p xs = p00 ∧ stL p xs = [] ∧ stC p xs = bfC xs := by
  by_cases hl : 4096 < xs.length
  · have := st_long (p := p) hl
    rw [bfC_long hl]; exact this
  · by_cases hb : bksB xs = true
    · exact absurd (bfC_ok hl hb) h
    · rw [Bool.not_eq_true] at hb
      rw [bfC_bad hl hb]
      exact st_bad hl (by rw [hb]; simp)

set_option maxHeartbeats 3200000 in
theorem pxStep_impl (p : Pxs) (ao : Option Addr) (ca : Nat) (xs : List Bk) (w : World) (hl : xs.length ≤ 1048576) (hc : Bks w ao xs) : Calls Try.prog 9 #[pV p, .slice ao xs.length ca] w fun e w' => Stepped w w' p xs e := by
  have HC := hide hc
  clear hc
  have H0 := hide (pxAt0 w p)
  go_enter Try.func9, Try.ntmps9
  go_wp2_with fail
  refine (blocksFault_any ao ca xs _ hl ((unhide HC).below (unhide H0).k)).mono ?_
  rintro e W1 ⟨rfl, hb⟩
  have E1 := hide ((unhide H0).below hb)
  clear hb H0
  by_cases hf : ¬ bfC xs = 0
  · have HE : Hid (stP p xs = p00 ∧ stL p xs = [] ∧ stC p xs = bfC xs) := hide (st_fault hf)
    have hb : (bfC xs != 0) = true := by simp [hf]
    clear hf
    revert HE hb
    generalize bfC xs = c9
    intro HE hb
    obtain ⟨r0, r1, r2, r3, r4, r5, r6, r7⟩ := (unhide E1).r.cells
    obtain ⟨s0, s1, s2, s3, s4, s5, s6, s7⟩ := (unhide E1).r.free
    have HK := hide (fun u0 u1 u2 u3 u4 u5 u6 u7 => below8 (unhide E1).k (show w.heap.size ≤ w.heap.size + 1 by omega) u0 u1 u2 u3 u4 u5 u6 u7)
    go_wp2
    exact bodyPost_ret (v := .tuple #[pV p00, .slice none 0 0, .int .i64 c9]) (by simp [results, Try.results9, go_sem, r0, r1, r2, r3, r4, r5, r6, r7, p00]) rfl (stepped_none _ (unhide HE) (unhide HK _ _ _ _ _ _ _ _))
  rw [Decidable.not_not] at hf
  have hlong : ¬ 4096 < xs.length := fun h => by rw [bfC_long h] at hf; exact absurd hf (by decide)
  have h2 := bfC_zero hf
  have hb0 : (bfC xs != 0) = false := by simp [hf]
  clear hf
  revert hb0
  generalize bfC xs = c9
  intro hb0
  obtain ⟨c0, c1, c2, c3, c4, c5, c6, c7⟩ := (unhide E1).v.cells
  go_wp2_with fail
  refine (pxOK_impl p _).mono ?_
  rintro e W2 ⟨rfl, hb⟩
  have E2 := hide ((unhide E1).below hb)
  clear hb E1 c0 c1 c2 c3 c4 c5 c6 c7
  by_cases h1 : pxB p = false
  · have HE := hide (st_bad (p := p) (xs := xs) hlong (by rw [h1]; rfl))
    obtain ⟨r0, r1, r2, r3, r4, r5, r6, r7⟩ := (unhide E2).r.cells
    obtain ⟨s0, s1, s2, s3, s4, s5, s6, s7⟩ := (unhide E2).r.free
    have HK := hide (fun u0 u1 u2 u3 u4 u5 u6 u7 => below8 (unhide E2).k (show w.heap.size ≤ w.heap.size + 1 by omega) u0 u1 u2 u3 u4 u5 u6 u7)
    go_wp2
    exact bodyPost_ret (v := .tuple #[pV p00, .slice none 0 0, .int .i64 1]) (by simp [results, Try.results9, go_sem, r0, r1, r2, r3, r4, r5, r6, r7, p00]) rfl (stepped_none _ (unhide HE) (unhide HK _ _ _ _ _ _ _ _))
  rw [Bool.not_eq_false] at h1
  have HE := hide (st_ok hlong h1 h2)
  have HX := hide (bksB_parts h2).1
  have hp := pxB_iff.1 h1
  have HH : Hid (0 ≤ p.host ∧ p.host ≤ 3) := hide hp.1
  have HN : Hid (0 ≤ p.next ∧ p.next ≤ 4) := hide hp.2.2.2.2.2.2.1
  have HP : Hid (1 ≤ p.phase ∧ p.phase ≤ 6) := hide hp.2.2.1
  clear hp h2 hlong
  go_wp2_with fail
  refine (copyK_any ao ca xs _ hl (by have := unhide HX; omega) ((unhide HC).below (unhide E2).k)).mono ?_
  rintro e W3 ⟨rfl, ho, hb⟩
  have E3 : Hid (StAt w W3 w.heap.size p (some ⟨W2.heap.size, 0, none⟩) xs.length xs) := hide ⟨(unhide E2).below hb, .inr ⟨by omega, by have h4 := unhide HX; have h5 := own_base ho (B' := w.heap.size + 2) (by have := (unhide E2).r.lt; omega); rw [h4] at h5 ⊢; exact h5⟩⟩
  have hx4 := unhide HX
  rw [hx4] at E3 ⊢
  clear hb ho E2 hx4
  revert E3
  generalize W2.heap.size = g
  intro E3
  obtain ⟨c0, c1, c2, c3, c4, c5, c6, c7⟩ := (unhide E3).a.v.cells
  rcases (show p.phase = 1 ∨ p.phase = 2 ∨ p.phase = 3 ∨ p.phase = 4 ∨ (p.phase = 5 ∨ p.phase = 6) by have := unhide HP; omega) with hp | hp | hp | hp | hp
  · have HSE : Hid (stEnd p = 0) := hide (if_neg (by rw [hp]; decide))
    have HPS : Hid ((pxStepP p xs).2.length = 4) := hide ((pxStep_len p xs).trans (unhide HX))
    have HPH := hide hp
    clear hp
    go_wp2_with fail
    refine (phaseOf_1 p.phase _ (unhide HPH)).mono ?_
    rintro e W4 ⟨rfl, hw⟩
    replace hw := hw.symm
    subst hw
    go_wp2_with fail
    refine (beginBallot_any p g 4 (w.heap.size + 2) xs _ (unhide HPH) (unhide HX) (unhide HH) (unhide E3).row).mono ?_
    rintro e W6 ⟨rfl, ho, hk⟩
    have E6 := hide ((unhide E3).did ho hk)
    clear ho hk
    clear c0 c1 c2 c3 c4 c5 c6 c7
    generalize (pxStepP p xs).1 = P1 at *
    generalize (pxStepP p xs).2 = B1 at *
    obtain ⟨c0, c1, c2, c3, c4, c5, c6, c7⟩ := (unhide E6).a.v.cells
    obtain ⟨f0, f1, f2, f3, f4, f5, f6, f7⟩ := (unhide E6).a.v.free
    have E7 := hide ((unhide E6).all P1)
    go_upto_region 11 with fail
    clear c0 c1 c2 c3 c4 c5 c6 c7 f0 f1 f2 f3 f4 f5 f6 f7 E6
    revert E7
    generalize (((((((W6.setCell ⟨w.heap.size, 0, none⟩ (.int .i64 P1.host)).setCell ⟨w.heap.size, 1, none⟩ (.int .i64 P1.ver)).setCell ⟨w.heap.size, 2, none⟩ (.int .i64 P1.phase)).setCell ⟨w.heap.size, 3, none⟩ (.int .i64 P1.ballot)).setCell ⟨w.heap.size, 4, none⟩ (.int .i64 P1.value)).setCell ⟨w.heap.size, 5, none⟩ (.int .i64 P1.next)).setCell ⟨w.heap.size, 6, none⟩ (.int .i64 P1.best)).setCell ⟨w.heap.size, 7, none⟩ (.int .i64 P1.bestBal) = W7
    intro E7
    obtain ⟨c0, c1, c2, c3, c4, c5, c6, c7⟩ := (unhide E7).a.v.cells
    obtain ⟨r0, r1, r2, r3, r4, r5, r6, r7⟩ := (unhide E7).a.r.cells
    obtain ⟨s0, s1, s2, s3, s4, s5, s6, s7⟩ := (unhide E7).a.r.free
    have HK := hide (fun u0 u1 u2 u3 u4 u5 u6 u7 => (unhide E7).out u0 u1 u2 u3 u4 u5 u6 u7)
    go_wp2
    exact bodyPost_ret (v := .tuple #[pV P1, .slice (some ⟨g, 0, none⟩) 4 4, .int .i64 0]) (by simp [results, Try.results9, go_sem, r0, r1, r2, r3, r4, r5, r6, r7]) rfl (stepped_end (unhide HE) (unhide HPS) (unhide HSE) (unhide HK _ _ _ _ _ _ _ _))
  · have HSE : Hid (stEnd p = 0) := hide (if_neg (by rw [hp]; decide))
    have HPS : Hid ((pxStepP p xs).2.length = 4) := hide ((pxStep_len p xs).trans (unhide HX))
    have HRD : Hid (pxStepP p xs = (pxRd p xs, xs)) := hide (pxStepP_rd xs (by rw [hp]; decide))
    have HPH := hide hp
    clear hp
    go_wp2_with fail
    refine (phaseOf_2 p.phase _ (unhide HPH)).mono ?_
    rintro e W4 ⟨a, b, rfl, ha, hb', hb⟩
    have HA := hide ha
    have HB := hide hb'
    have E4 := hide ((unhide E3).below hb)
    clear ha hb' hb E3 c0 c1 c2 c3 c4 c5 c6 c7
    obtain ⟨c0, c1, c2, c3, c4, c5, c6, c7⟩ := (unhide E4).a.v.cells
    go_wp2_with fail
    refine (readBallot1_any _ _ _ _ 2 heed2 p (some ⟨g, 0, none⟩) 4 4 a b xs _ (unhide HX) rfl (unhide HPH) (unhide HH) (unhide HN) ((unhide E4).bks (unhide HX)) (unhide HA) (unhide HB)).mono ?_
    rintro e W6 ⟨rfl, hb⟩
    have E5 := hide ((unhide E4).below hb)
    have E6 : Hid (StAt w W6 w.heap.size p (some ⟨g, 0, none⟩) 4 (pxStepP p xs).2) := hide (by rw [unhide HRD]; exact unhide E5)
    rw [show pxRd p xs = (pxStepP p xs).1 from by rw [unhide HRD]]
    clear hb E5 HRD
    clear c0 c1 c2 c3 c4 c5 c6 c7
    generalize (pxStepP p xs).1 = P1 at *
    generalize (pxStepP p xs).2 = B1 at *
    obtain ⟨c0, c1, c2, c3, c4, c5, c6, c7⟩ := (unhide E6).a.v.cells
    obtain ⟨f0, f1, f2, f3, f4, f5, f6, f7⟩ := (unhide E6).a.v.free
    have E7 := hide ((unhide E6).all P1)
    go_upto_region 11 with fail
    clear c0 c1 c2 c3 c4 c5 c6 c7 f0 f1 f2 f3 f4 f5 f6 f7 E6
    revert E7
    generalize (((((((W6.setCell ⟨w.heap.size, 0, none⟩ (.int .i64 P1.host)).setCell ⟨w.heap.size, 1, none⟩ (.int .i64 P1.ver)).setCell ⟨w.heap.size, 2, none⟩ (.int .i64 P1.phase)).setCell ⟨w.heap.size, 3, none⟩ (.int .i64 P1.ballot)).setCell ⟨w.heap.size, 4, none⟩ (.int .i64 P1.value)).setCell ⟨w.heap.size, 5, none⟩ (.int .i64 P1.next)).setCell ⟨w.heap.size, 6, none⟩ (.int .i64 P1.best)).setCell ⟨w.heap.size, 7, none⟩ (.int .i64 P1.bestBal) = W7
    intro E7
    obtain ⟨c0, c1, c2, c3, c4, c5, c6, c7⟩ := (unhide E7).a.v.cells
    obtain ⟨r0, r1, r2, r3, r4, r5, r6, r7⟩ := (unhide E7).a.r.cells
    obtain ⟨s0, s1, s2, s3, s4, s5, s6, s7⟩ := (unhide E7).a.r.free
    have HK := hide (fun u0 u1 u2 u3 u4 u5 u6 u7 => (unhide E7).out u0 u1 u2 u3 u4 u5 u6 u7)
    go_wp2
    exact bodyPost_ret (v := .tuple #[pV P1, .slice (some ⟨g, 0, none⟩) 4 4, .int .i64 0]) (by simp [results, Try.results9, go_sem, r0, r1, r2, r3, r4, r5, r6, r7]) rfl (stepped_end (unhide HE) (unhide HPS) (unhide HSE) (unhide HK _ _ _ _ _ _ _ _))
  · have HSE : Hid (stEnd p = 0) := hide (if_neg (by rw [hp]; decide))
    have HPS : Hid ((pxStepP p xs).2.length = 4) := hide ((pxStep_len p xs).trans (unhide HX))
    have HPH := hide hp
    clear hp
    go_wp2_with fail
    refine (phaseOf_3 p.phase _ (unhide HPH)).mono ?_
    rintro e W4 ⟨rfl, hw⟩
    replace hw := hw.symm
    subst hw
    go_wp2_with fail
    refine (acceptValue_any p g 4 (w.heap.size + 2) xs _ (unhide HPH) (unhide HX) (unhide HH) (unhide E3).row).mono ?_
    rintro e W6 ⟨rfl, ho, hk⟩
    have E6 := hide ((unhide E3).did ho hk)
    clear ho hk
    clear c0 c1 c2 c3 c4 c5 c6 c7
    generalize (pxStepP p xs).1 = P1 at *
    generalize (pxStepP p xs).2 = B1 at *
    obtain ⟨c0, c1, c2, c3, c4, c5, c6, c7⟩ := (unhide E6).a.v.cells
    obtain ⟨f0, f1, f2, f3, f4, f5, f6, f7⟩ := (unhide E6).a.v.free
    have E7 := hide ((unhide E6).all P1)
    go_upto_region 11 with fail
    clear c0 c1 c2 c3 c4 c5 c6 c7 f0 f1 f2 f3 f4 f5 f6 f7 E6
    revert E7
    generalize (((((((W6.setCell ⟨w.heap.size, 0, none⟩ (.int .i64 P1.host)).setCell ⟨w.heap.size, 1, none⟩ (.int .i64 P1.ver)).setCell ⟨w.heap.size, 2, none⟩ (.int .i64 P1.phase)).setCell ⟨w.heap.size, 3, none⟩ (.int .i64 P1.ballot)).setCell ⟨w.heap.size, 4, none⟩ (.int .i64 P1.value)).setCell ⟨w.heap.size, 5, none⟩ (.int .i64 P1.next)).setCell ⟨w.heap.size, 6, none⟩ (.int .i64 P1.best)).setCell ⟨w.heap.size, 7, none⟩ (.int .i64 P1.bestBal) = W7
    intro E7
    obtain ⟨c0, c1, c2, c3, c4, c5, c6, c7⟩ := (unhide E7).a.v.cells
    obtain ⟨r0, r1, r2, r3, r4, r5, r6, r7⟩ := (unhide E7).a.r.cells
    obtain ⟨s0, s1, s2, s3, s4, s5, s6, s7⟩ := (unhide E7).a.r.free
    have HK := hide (fun u0 u1 u2 u3 u4 u5 u6 u7 => (unhide E7).out u0 u1 u2 u3 u4 u5 u6 u7)
    go_wp2
    exact bodyPost_ret (v := .tuple #[pV P1, .slice (some ⟨g, 0, none⟩) 4 4, .int .i64 0]) (by simp [results, Try.results9, go_sem, r0, r1, r2, r3, r4, r5, r6, r7]) rfl (stepped_end (unhide HE) (unhide HPS) (unhide HSE) (unhide HK _ _ _ _ _ _ _ _))
  · have HSE : Hid (stEnd p = 0) := hide (if_neg (by rw [hp]; decide))
    have HPS : Hid ((pxStepP p xs).2.length = 4) := hide ((pxStep_len p xs).trans (unhide HX))
    have HRD : Hid (pxStepP p xs = (pxRd p xs, xs)) := hide (pxStepP_rd xs (by rw [hp]; decide))
    have HPH := hide hp
    clear hp
    go_wp2_with fail
    refine (phaseOf_4 p.phase _ (unhide HPH)).mono ?_
    rintro e W4 ⟨a, b, rfl, ha, hb', hb⟩
    have HA := hide ha
    have HB := hide hb'
    have E4 := hide ((unhide E3).below hb)
    clear ha hb' hb E3 c0 c1 c2 c3 c4 c5 c6 c7
    obtain ⟨c0, c1, c2, c3, c4, c5, c6, c7⟩ := (unhide E4).a.v.cells
    go_wp2_with fail
    refine (readBallot1_any _ _ _ _ 4 heed4 p (some ⟨g, 0, none⟩) 4 4 a b xs _ (unhide HX) rfl (unhide HPH) (unhide HH) (unhide HN) ((unhide E4).bks (unhide HX)) (unhide HA) (unhide HB)).mono ?_
    rintro e W6 ⟨rfl, hb⟩
    have E5 := hide ((unhide E4).below hb)
    have E6 : Hid (StAt w W6 w.heap.size p (some ⟨g, 0, none⟩) 4 (pxStepP p xs).2) := hide (by rw [unhide HRD]; exact unhide E5)
    rw [show pxRd p xs = (pxStepP p xs).1 from by rw [unhide HRD]]
    clear hb E5 HRD
    clear c0 c1 c2 c3 c4 c5 c6 c7
    generalize (pxStepP p xs).1 = P1 at *
    generalize (pxStepP p xs).2 = B1 at *
    obtain ⟨c0, c1, c2, c3, c4, c5, c6, c7⟩ := (unhide E6).a.v.cells
    obtain ⟨f0, f1, f2, f3, f4, f5, f6, f7⟩ := (unhide E6).a.v.free
    have E7 := hide ((unhide E6).all P1)
    go_upto_region 11 with fail
    clear c0 c1 c2 c3 c4 c5 c6 c7 f0 f1 f2 f3 f4 f5 f6 f7 E6
    revert E7
    generalize (((((((W6.setCell ⟨w.heap.size, 0, none⟩ (.int .i64 P1.host)).setCell ⟨w.heap.size, 1, none⟩ (.int .i64 P1.ver)).setCell ⟨w.heap.size, 2, none⟩ (.int .i64 P1.phase)).setCell ⟨w.heap.size, 3, none⟩ (.int .i64 P1.ballot)).setCell ⟨w.heap.size, 4, none⟩ (.int .i64 P1.value)).setCell ⟨w.heap.size, 5, none⟩ (.int .i64 P1.next)).setCell ⟨w.heap.size, 6, none⟩ (.int .i64 P1.best)).setCell ⟨w.heap.size, 7, none⟩ (.int .i64 P1.bestBal) = W7
    intro E7
    obtain ⟨c0, c1, c2, c3, c4, c5, c6, c7⟩ := (unhide E7).a.v.cells
    obtain ⟨r0, r1, r2, r3, r4, r5, r6, r7⟩ := (unhide E7).a.r.cells
    obtain ⟨s0, s1, s2, s3, s4, s5, s6, s7⟩ := (unhide E7).a.r.free
    have HK := hide (fun u0 u1 u2 u3 u4 u5 u6 u7 => (unhide E7).out u0 u1 u2 u3 u4 u5 u6 u7)
    go_wp2
    exact bodyPost_ret (v := .tuple #[pV P1, .slice (some ⟨g, 0, none⟩) 4 4, .int .i64 0]) (by simp [results, Try.results9, go_sem, r0, r1, r2, r3, r4, r5, r6, r7]) rfl (stepped_end (unhide HE) (unhide HPS) (unhide HSE) (unhide HK _ _ _ _ _ _ _ _))
  · have HSE : Hid (stEnd p = 15) := hide (if_pos hp)
    have HPS : Hid (pxStepP p xs = (p, xs)) := hide (pxStepP_end xs hp)
    have HPH := hide hp
    clear hp
    go_wp2_with fail
    refine (phaseOf_5 p.phase _ (unhide HPH)).mono ?_
    rintro e W4 ⟨rfl, hw⟩
    replace hw := hw.symm
    subst hw
    obtain ⟨r0, r1, r2, r3, r4, r5, r6, r7⟩ := (unhide E3).a.r.cells
    obtain ⟨s0, s1, s2, s3, s4, s5, s6, s7⟩ := (unhide E3).a.r.free
    have HK := hide (fun u0 u1 u2 u3 u4 u5 u6 u7 => (unhide E3).out u0 u1 u2 u3 u4 u5 u6 u7)
    go_wp2
    exact bodyPost_ret (v := .tuple #[pV p, .slice (some ⟨g, 0, none⟩) 4 4, .int .i64 15]) (by simp [results, Try.results9, go_sem, r0, r1, r2, r3, r4, r5, r6, r7]) rfl (stepped_done (unhide HE) (unhide HX) (unhide HPS) (unhide HSE) (unhide HK _ _ _ _ _ _ _ _))
end Go.Proofs.Ytdfinapjgffjiaa

/- The laws' own look at two lists of blocks that are the same. -/
namespace Go.Proofs.Ytdfinapjgffjiaa
open Go.RowKit
set_option linter.unusedVariables false
set_option maxRecDepth 100000

set_option maxHeartbeats 1600000 in
theorem sameBlocks_same (ao bo : Option Addr) (ca cb n : Nat) (xs : List Bk) (w : World) (hn : xs.length = n) (hl : n ≤ 1048576) (hc : Bks w ao xs) (hd : Bks w bo xs) :
    Calls Try.prog 11 #[.slice ao n ca, .slice bo n cb] w fun e w' => e = .returned (.bool true) ∧ Below w.heap.size w w' := by
  subst hn
  have HC := hide hc
  have HD := hide hd
  clear hc hd
  have hb : ((xs.length : Int) != (xs.length : Int)) = false := by simp
  go_enter Try.func11, Try.ntmps11
  go_wp2
  go_loopw [5] (fun i wr => ∃ k : Nat, k ≤ xs.length ∧ i = .int .i64 k ∧ Hid (Below w.heap.size w wr)) (fun i _ => xs.length - (intOf i).toNat)
  case atStart => exact ⟨0, Nat.zero_le _, rfl, hide (Below.refl _ _)⟩
  case round =>
    obtain ⟨k, hk, rfl, HB⟩ := hrel
    by_cases hlt : k < xs.length
    · obtain ⟨b, off, rfl, hc0, hc1, hc2, hc3⟩ := (unhide HC).below (unhide HB) k hlt
      obtain ⟨b', off', rfl, hd0, hd1, hd2, hd3⟩ := (unhide HD).below (unhide HB) k hlt
      go_wp2
      go_quiet (fail)
      go_wp2
      go_roundw
      case rel => exact ⟨k + 1, by omega, by go_num, hide ((unhide HB).trans (Joins.below_draws _ _ _))⟩
      case measure => simp [intOf]; omega
    · go_wp2
      go_ret
      exact ⟨rfl, unhide HB⟩
end Go.Proofs.Ytdfinapjgffjiaa

/- What stays beside a source of choices; contract of spec.l00Source. -/
namespace Go.Proofs.Ytdfinapjgffjiaa
open Go.RowKit
set_option linter.unusedVariables false
set_option maxRecDepth 100000

theorem keep_cell {S : Nat → Prop} {w w' : World} {a : Addr} {v : Value} (hk : Keep S w w') (ha : ¬ S a.block) (h : w.cell? a = some v) : w'.cell? a = some v := by
  have hl := World.block_lt_of_cell? _ _ h
  rw [← h]
  unfold World.cell?
  simp only [hk.block a.block hl ha]
theorem keep_new {w w1 w2 : World} {b : Nat} {S : Nat → Prop} (h : Keep (fun k => k = b) w w1) (hk : Keep S w1 w2) (hs : ∀ k, S k → w.heap.size ≤ k ∨ k = b) : Keep (fun k => k = b) w w2 :=
  ⟨hk.os.trans h.os, hk.tape.trans h.tape, hk.output.trans h.output, Nat.le_trans h.size hk.size, fun k hl hn => (hk.block k (Nat.lt_of_lt_of_le hl h.size) (fun hS => by
    rcases hs k hS with h1 | h1
    · omega
    · exact hn h1)).trans (h.block k hl hn)⟩
theorem SrcK.other {w w1 w2 : World} {b : Nat} {ao : Option Addr} {n cap m m0 : Nat} {S : Nat → Prop} (h0 : SrcK w b ao n cap m0) (h : SrcK w1 b ao n cap m) (hw : Keep (fun k => k = b) w w2) (hk : Keep S w1 w2) (hs : ¬ S b) : SrcK w2 b ao n cap m := by
  obtain ⟨x0, y0, _, _, _, _, hblk0⟩ := h0.src
  obtain ⟨x, y, c0, c1, c2, c3, c4⟩ := h.src
  refine ⟨⟨x, y, c0, c1, c2, c3, ?_⟩, h0.bytes.keep hblk0 (fun z h => by cases h) hw⟩
  rw [hk.block b (Array.getElem?_eq_some_iff.1 c4).1 hs]; exact c4

theorem source_any (ao : Option Addr) (n cap : Nat) (w : World) (hn : n ≤ 1048576) (hB : Bs w ao n) :
    Calls Try.prog 20 #[.slice ao n cap] w fun e w' => e = .returned (.pointer (some ⟨w.heap.size, 0, none⟩)) ∧ SrcK w' w.heap.size ao n cap 0 ∧ Below w.heap.size w w' ∧ w'.heap.size = w.heap.size + 1 := by
  go_enter Try.func20, Try.ntmps20
  go_wp2
  go_ret
  exact ⟨rfl, ⟨⟨0, (n : Int) % 1000, by omega, by omega, by omega, by omega, heap_alloc_new w _⟩, hB.below (Joins.below_alloc1 _ _)⟩, Joins.below_alloc1 _ _, by simp⟩

theorem keep_drop {w w' : World} {b : Nat} (h : Keep (fun k => k = b ∨ w.heap.size ≤ k) w w') : Keep (fun k => k = b) w w' :=
  ⟨h.os, h.tape, h.output, h.size, fun k hl hn => h.block k hl (fun e => by
    rcases e with e | e
    · exact hn e
    · omega)⟩
theorem blk_keep {S : Nat → Prop} {w w' : World} {k : Nat} {o : Obj} (hk : Keep S w w') (hs : ¬ S k) (h : w.heap[k]? = some o) : w'.heap[k]? = some o := by
  rw [hk.block k (Array.getElem?_eq_some_iff.1 h).1 hs]; exact h
theorem blk_below {w w' : World} {k : Nat} {o : Obj} (hk : Below w.heap.size w w') (h : w.heap[k]? = some o) : w'.heap[k]? = some o := by
  rw [hk.block k (Array.getElem?_eq_some_iff.1 h).1]; exact h
theorem blk_lt {w : World} {k : Nat} {o : Obj} (h : w.heap[k]? = some o) : k < w.heap.size := (Array.getElem?_eq_some_iff.1 h).1

end Go.Proofs.Ytdfinapjgffjiaa

/- The model's source of choices, told outright: what byte and next answer, as functions of the code, the place and the seed. -/
namespace Go.Proofs.Ytdfinapjgffjiaa
open Go.RowKit
set_option linter.unusedVariables false

/-- The byte that comes next, and the seed behind it. -/
def srcV (cd : Nat → Int) (n a : Nat) (seed : Int) : Int := if a < n then cd a else if 3000 < a + 1 then 0 else (seed * 1103515245 + 12345) % 2147483648 / 65536 % 256
def srcN (cd : Nat → Int) (n a : Nat) (seed : Int) : Int := if a < n then (seed * 31 + cd a + 7) % 2147483648 else if 3000 < a + 1 then seed else (seed * 1103515245 + 12345) % 2147483648
/-- A slice shows just these bytes. -/
def Bx (w : World) (ao : Option Addr) (n : Nat) (cd : Nat → Int) : Prop := ∀ i, i < n → ∃ b off, ao = some ⟨b, off, none⟩ ∧ w.cell? ⟨b, off + i, none⟩ = some (.int .u8 (cd i)) ∧ 0 ≤ cd i ∧ cd i ≤ 255
theorem Bx.below {w w' : World} {ao : Option Addr} {n : Nat} {cd : Nat → Int} (h : Bx w ao n cd) (hb : Below w.heap.size w w') : Bx w' ao n cd := fun i hi => by
  obtain ⟨b, off, e, hc, h0, h1⟩ := h i hi
  exact ⟨b, off, e, (hb.cell (p := ⟨b, off + i, none⟩) (World.block_lt_of_cell? _ _ hc)).trans hc, h0, h1⟩
theorem Bx.keep {w w' : World} {b : Nat} {ao : Option Addr} {n : Nat} {cd : Nat → Int} {v : Value} {x y : Int} (hB : Bx w ao n cd) (h : w.heap[b]? = some (.cells #[v, .int .i64 x, .int .i64 y] 68 (0, 0))) (hv : ∀ z, v ≠ .int .u8 z) (hk : Keep (fun k => k = b) w w') : Bx w' ao n cd := fun i hi => by
  obtain ⟨b', off, e, hc, h0, h1⟩ := hB i hi
  refine ⟨b', off, e, ?_, h0, h1⟩
  have hne : b' ≠ b := by
    rintro rfl
    rw [Joins.cell_of_block h] at hc
    match hoff : off + i, hc with
    | 0, hc => exact hv _ (by simpa using hc)
    | 1, hc => simp at hc
    | 2, hc => simp at hc
    | k + 3, hc => simp at hc
  have hl := World.block_lt_of_cell? _ _ hc
  rw [← hc]
  unfold World.cell?
  simp only [hk.block b' hl hne]
theorem Bs.told {w : World} {ao : Option Addr} {n : Nat} (h : Bs w ao n) : ∃ cd, Bx w ao n cd := by
  have h' : ∀ i, ∃ x : Int, i < n → ∃ b off, ao = some ⟨b, off, none⟩ ∧ w.cell? ⟨b, off + i, none⟩ = some (.int .u8 x) ∧ 0 ≤ x ∧ x ≤ 255 := by
    intro i
    by_cases hi : i < n
    · obtain ⟨b, off, x, e, hc, h0, h1⟩ := h i hi
      exact ⟨x, fun _ => ⟨b, off, e, hc, h0, h1⟩⟩
    · exact ⟨0, fun k => absurd k hi⟩
  exact ⟨fun i => (h' i).choose, fun i hi => (h' i).choose_spec hi⟩
theorem Bx.some {w : World} {ao : Option Addr} {n : Nat} {cd : Nat → Int} (h : Bx w ao n cd) : Bs w ao n := fun i hi => by
  obtain ⟨b, off, e, hc, h0, h1⟩ := h i hi
  exact ⟨b, off, _, e, hc, h0, h1⟩
structure SrcX (w : World) (b : Nat) (ao : Option Addr) (n cap : Nat) (cd : Nat → Int) (a : Nat) (seed : Int) : Prop where
  blk : w.heap[b]? = some (.cells #[.slice ao n cap, .int .i64 a, .int .i64 seed] 68 (0, 0))
  bytes : Bx w ao n cd
  s0 : 0 ≤ seed
  s1 : seed < 2147483648
theorem SrcX.below {w w' : World} {b : Nat} {ao : Option Addr} {n cap a : Nat} {cd : Nat → Int} {seed : Int} (h : SrcX w b ao n cap cd a seed) (hb : Below w.heap.size w w') : SrcX w' b ao n cap cd a seed :=
  ⟨by rw [hb.block b (Array.getElem?_eq_some_iff.1 h.blk).1]; exact h.blk, h.bytes.below hb, h.s0, h.s1⟩
theorem SrcX.k {w : World} {b : Nat} {ao : Option Addr} {n cap a m : Nat} {cd : Nat → Int} {seed : Int} (h : SrcX w b ao n cap cd a seed) (hm : a ≤ m) : SrcK w b ao n cap m :=
  ⟨⟨a, seed, by omega, by omega, h.s0, h.s1, h.blk⟩, h.bytes.some⟩
theorem SrcK.x {w : World} {b : Nat} {ao : Option Addr} {n cap m : Nat} (h : SrcK w b ao n cap m) : ∃ cd a seed, a ≤ m ∧ SrcX w b ao n cap cd a seed := by
  obtain ⟨⟨x, y, c0, c1, c2, c3, c4⟩, hB⟩ := h
  obtain ⟨a, rfl⟩ := Int.eq_ofNat_of_zero_le c0
  obtain ⟨cd, hx⟩ := hB.told
  exact ⟨cd, a, y, by omega, c4, hx, c2, c3⟩
theorem SrcX.lt {w : World} {b : Nat} {ao : Option Addr} {n cap a : Nat} {cd : Nat → Int} {seed : Int} (h : SrcX w b ao n cap cd a seed) : b < w.heap.size := (Array.getElem?_eq_some_iff.1 h.blk).1

set_option maxHeartbeats 6400000 in
theorem byteX_in (b : Nat) (ao : Option Addr) (n cap a : Nat) (cd : Nat → Int) (seed : Int) (w : World) (ha' : a ≤ 1000000) (hn : n ≤ 1048576) (hlt : a < n) (hs : SrcX w b ao n cap cd a seed) :
    Calls Try.prog 62 #[.pointer (some ⟨b, 0, none⟩)] w fun e w' => e = .returned (.int .i64 (cd a)) ∧ SrcX w' b ao n cap cd (a + 1) ((seed * 31 + cd a + 7) % 2147483648) ∧ Keep (fun k => k = b) w w' := by
  obtain ⟨hblk, hB, h0, h1⟩ := hs
  obtain ⟨hc0, hc1, hc2, hf1, hf2⟩ := src_cells hblk
  have HBL := hide (set_block (i := 1) hblk (.int .i64 ((a : Int) + 1)))
  have HK := hide (Keep.setCell (S := fun k => k = b) (Keep.refl _ w) (p := ⟨b, 1, none⟩) rfl (.int .i64 ((a : Int) + 1)))
  have HB := hide (hB.keep hblk (fun z h => by cases h) (unhide HK))
  have hle : (a : Int) + 1 ≤ n := by omega
  generalize hx : cd a = x
  have HX := hide hx
  clear hx
  go_enter Try.func62, Try.ntmps62
  go_wp2
  clear hc0 hc1 hc2 hf1 hf2 hblk hB
  revert HBL HK HB
  generalize w.setCell ⟨b, 1, none⟩ (.int .i64 ((a : Int) + 1)) = W1
  intro HBL HK HB
  obtain ⟨hc0, hc1, hc2, hf1, hf2⟩ := src_cells (unhide HBL)
  obtain ⟨b', off, rfl, hcx, hx0, hx1⟩ := unhide HB a hlt
  rw [unhide HX] at hcx hx0 hx1
  go_quiet (fail)
  have hw1 : IntKind.i64.wrap ((a : Int) + 1 - 1) = (a : Int) := by rw [wrapI (by omega) (by omega)]; omega
  have hw2 : IntKind.i64.wrap (seed * 31) = seed * 31 := wrapI (by omega) (by omega)
  have hw3 : IntKind.i64.wrap x = x := wrapI (by omega) (by omega)
  have hw4 : IntKind.i64.wrap (seed * 31 + x) = seed * 31 + x := wrapI (by omega) (by omega)
  have hw5 : IntKind.i64.wrap (seed * 31 + x + 7) = seed * 31 + x + 7 := wrapI (by omega) (by omega)
  go_wp2
  have hs0 : 0 ≤ (seed * 31 + x + 7) % 2147483648 := by omega
  have hs1 : (seed * 31 + x + 7) % 2147483648 < 2147483648 := by omega
  go_region
  clear hc0 hc1 hc2 hf1 hf2
  have HBL2 : Hid (((W1.drewN (nq + 1)).setCell ⟨b, 2, none⟩ (.int .i64 ((seed * 31 + x + 7) % 2147483648))).heap[b]? = some (.cells #[.slice (some ⟨b', off, none⟩) n cap, .int .i64 ((a : Int) + 1), .int .i64 ((seed * 31 + x + 7) % 2147483648)] 68 (0, 0))) := hide (set_block (w := W1.drewN (nq + 1)) (i := 2) (unhide HBL) _)
  have HK2 : Hid (Keep (fun k => k = b) W1 ((W1.drewN (nq + 1)).setCell ⟨b, 2, none⟩ (.int .i64 ((seed * 31 + x + 7) % 2147483648)))) := hide (Keep.setCell (S := fun k => k = b) ((Keep.refl _ W1).drewN _) (p := ⟨b, 2, none⟩) rfl _)
  have HB2 := hide ((unhide HB).keep (unhide HBL) (fun z h => by cases h) (unhide HK2))
  revert HBL2 HK2 HB2
  generalize (W1.drewN (nq + 1)).setCell ⟨b, 2, none⟩ (.int .i64 ((seed * 31 + x + 7) % 2147483648)) = W2
  intro HBL2 HK2 HB2
  have HKK := hide ((unhide HK).trans (unhide HK2))
  clear HBL HB HK HK2 hcx
  obtain ⟨hc0, hc1, hc2, hf1, hf2⟩ := src_cells (unhide HBL2)
  obtain ⟨b2, off2, he2, hcx, hy0, hy1⟩ := unhide HB2 a hlt
  simp only [Option.some.injEq, Addr.mk.injEq, and_true] at he2
  obtain ⟨rfl, rfl⟩ := he2
  rw [unhide HX] at hcx
  go_wp2
  go_quiet (fail)
  go_wp2
  go_ret
  exact ⟨rfl, ⟨unhide HBL2, unhide HB2, hs0, hs1⟩, (unhide HKK).drewN _⟩

set_option maxRecDepth 100000 in
set_option maxHeartbeats 6400000 in
theorem byteX_out (b : Nat) (ao : Option Addr) (n cap a : Nat) (cd : Nat → Int) (seed : Int) (w : World) (ha' : a ≤ 1000000) (hn : n ≤ 1048576) (hlt : ¬ a < n) (hs : SrcX w b ao n cap cd a seed) :
    Calls Try.prog 62 #[.pointer (some ⟨b, 0, none⟩)] w fun e w' => e = .returned (.int .i64 (if 3000 < a + 1 then 0 else (seed * 1103515245 + 12345) % 2147483648 / 65536 % 256)) ∧ SrcX w' b ao n cap cd (a + 1) (if 3000 < a + 1 then seed else (seed * 1103515245 + 12345) % 2147483648) ∧ Keep (fun k => k = b) w w' := by
  obtain ⟨hblk, hB, h0, h1⟩ := hs
  obtain ⟨hc0, hc1, hc2, hf1, hf2⟩ := src_cells hblk
  have HBL := hide (set_block (i := 1) hblk (.int .i64 ((a : Int) + 1)))
  have HK := hide (Keep.setCell (S := fun k => k = b) (Keep.refl _ w) (p := ⟨b, 1, none⟩) rfl (.int .i64 ((a : Int) + 1)))
  have HB0 := hide hB
  have HB := hide (hB.keep hblk (fun z h => by cases h) (unhide HK))
  have HBK := hide hblk
  clear hB
  have hle : ¬ (a : Int) + 1 ≤ n := by omega
  have hw2 : IntKind.i64.wrap (seed * 1103515245) = seed * 1103515245 := wrapI (by omega) (by omega)
  have hw4 : IntKind.i64.wrap (seed * 1103515245 + 12345) = seed * 1103515245 + 12345 := wrapI (by omega) (by omega)
  have hs0 : 0 ≤ (seed * 1103515245 + 12345) % 2147483648 := by omega
  have hs1 : (seed * 1103515245 + 12345) % 2147483648 < 2147483648 := by omega
  by_cases h3 : 3000 < a + 1
  · rw [if_pos h3, if_pos h3]
    have h3i : (3000 : Int) < (a : Int) + 1 := by omega
    go_enter Try.func62, Try.ntmps62
    go_wp2
    clear hc0 hc1 hc2 hf1 hf2 hblk
    revert HBL HK HB
    generalize w.setCell ⟨b, 1, none⟩ (.int .i64 ((a : Int) + 1)) = W1
    intro HBL HK HB
    obtain ⟨hc0, hc1, hc2, hf1, hf2⟩ := src_cells (unhide HBL)
    go_quiet (fail)
    go_wp2
    go_ret
    exact ⟨rfl, ⟨unhide HBL, unhide HB, h0, h1⟩, (unhide HK).drewN _⟩
  · rw [if_neg h3, if_neg h3]
    have h3i : ¬ (3000 : Int) < (a : Int) + 1 := by omega
    go_enter Try.func62, Try.ntmps62
    go_wp2
    clear hc0 hc1 hc2 hf1 hf2 hblk
    revert HBL HK HB
    generalize w.setCell ⟨b, 1, none⟩ (.int .i64 ((a : Int) + 1)) = W1
    intro HBL HK HB
    obtain ⟨hc0, hc1, hc2, hf1, hf2⟩ := src_cells (unhide HBL)
    go_quiet (fail)
    have HS2 := hide (set_block (w := W1.drewN nq) (i := 2) (unhide HBL) (.int .i64 ((seed * 1103515245 + 12345) % 2147483648)))
    have HK2 := hide (Keep.setCell (S := fun k => k = b) ((unhide HK).drewN nq) (p := ⟨b, 2, none⟩) rfl (.int .i64 ((seed * 1103515245 + 12345) % 2147483648)))
    have HB2 := hide ((unhide HB0).keep (unhide HBK) (fun z h => by cases h) (unhide HK2))
    go_wp2
    go_ret
    exact ⟨rfl, ⟨unhide HS2, unhide HB2, hs0, hs1⟩, unhide HK2⟩

theorem byte_x (b : Nat) (ao : Option Addr) (n cap a : Nat) (cd : Nat → Int) (seed : Int) (w : World) (ha' : a ≤ 1000000) (hn : n ≤ 1048576) (hs : SrcX w b ao n cap cd a seed) :
    Calls Try.prog 62 #[.pointer (some ⟨b, 0, none⟩)] w fun e w' => e = .returned (.int .i64 (srcV cd n a seed)) ∧ SrcX w' b ao n cap cd (a + 1) (srcN cd n a seed) ∧ Keep (fun k => k = b) w w' := by
  by_cases hlt : a < n
  · rw [srcV, srcN, if_pos hlt, if_pos hlt]; exact byteX_in b ao n cap a cd seed w ha' hn hlt hs
  · rw [srcV, srcN, if_neg hlt, if_neg hlt]; exact byteX_out b ao n cap a cd seed w ha' hn hlt hs

set_option maxHeartbeats 1600000 in
/-- next of at most 256. -/
theorem next_x (b : Nat) (ao : Option Addr) (n cap a : Nat) (cd : Nat → Int) (seed k : Int) (w : World) (hk0 : 2 ≤ k) (hk1 : k ≤ 256) (ha' : a ≤ 1000000) (hn : n ≤ 1048576) (hs : SrcX w b ao n cap cd a seed) :
    Calls Try.prog 41 #[.pointer (some ⟨b, 0, none⟩), .int .i64 k] w fun e w' => e = .returned (.int .i64 (srcV cd n a seed % k)) ∧ SrcX w' b ao n cap cd (a + 1) (srcN cd n a seed) ∧ Keep (fun k => k = b) w w' := by
  have HS := hide hs
  have hv : Hid (0 ≤ srcV cd n a seed) := hide (by
    unfold srcV
    by_cases hlt : a < n
    · rw [if_pos hlt]; obtain ⟨_, _, _, _, h0, _⟩ := hs.bytes a hlt; exact h0
    · rw [if_neg hlt]; split <;> omega)
  clear hs
  have h1 : ¬ k ≤ 1 := by omega
  have hv0 := unhide hv
  obtain ⟨r, HR⟩ : ∃ r, Hid (srcV cd n a seed = r) := ⟨_, hide rfl⟩
  rw [unhide HR] at hv0 ⊢
  go_enter Try.func41, Try.ntmps41
  go_wp2_with fail
  refine (byte_x b ao n cap a cd seed _ ha' hn (unhide HS)).mono ?_
  rintro e w1 ⟨rfl, hs1, hk⟩
  have HS1 := hide hs1
  have HK1 := hide hk
  clear hs1 hk
  rw [unhide HR]
  go_wp2
  go_ret
  exact ⟨rfl, unhide HS1, unhide HK1⟩
theorem srcV_mod {cd : Nat → Int} {n a : Nat} {seed k : Int} (hk : 0 < k) : 0 ≤ srcV cd n a seed % k ∧ srcV cd n a seed % k < k := ⟨Int.emod_nonneg _ (by omega), Int.emod_lt_of_pos _ hk⟩

end Go.Proofs.Ytdfinapjgffjiaa

/- Contracts of the disk's codes and of ReadSector, of the program and of its model. -/
namespace Go.Proofs.Ytdfinapjgffjiaa
open Go.RowKit
set_option linter.unusedVariables false
set_option maxRecDepth 100000

end Go.Proofs.Ytdfinapjgffjiaa

/- Contract of impl.PendingOf. -/
namespace Go.Proofs.Ytdfinapjgffjiaa
open Go.RowKit
set_option linter.unusedVariables false
set_option maxRecDepth 100000

/-- How many writes a host has. -/
def cntW (xs : List Wr) (h : Int) : Nat := (xs.filter fun x => x.host == h).length
theorem cntW_le (xs : List Wr) (h : Int) : cntW xs h ≤ xs.length := List.length_filter_le _ _
theorem cnt_hit {xs : List Wr} {h : Int} {k : Nat} (hk : k < xs.length) (he : xs[k].host = h) : cntW (xs.take (k + 1)) h = cntW (xs.take k) h + 1 := by
  rw [cntW, cntW, List.take_succ_eq_append_getElem hk, List.filter_append, List.length_append]; simp [he]
theorem cnt_miss {xs : List Wr} {h : Int} {k : Nat} (hk : k < xs.length) (he : ¬ xs[k].host = h) : cntW (xs.take (k + 1)) h = cntW (xs.take k) h := by
  rw [cntW, cntW, List.take_succ_eq_append_getElem hk, List.filter_append, List.length_append]; simp [he]
theorem askC_zero (ss : List ByteArray) (xs : List Wr) (h : Int) : askC ss xs h 0 = hostC ss xs h := by
  unfold askC
  split
  · rename_i e; rw [e]; rfl
  · rfl
def cntC (ss : List ByteArray) (xs : List Wr) (h : Int) : Int := if hostC ss xs h = 0 then (cntW xs h : Int) else 0
theorem ret_two {a b c d : Int} (h : a = b) (k : c = d) : Ending.returned (.tuple #[.int .i64 a, .int .i64 c]) = .returned (.tuple #[.int .i64 b, .int .i64 d]) := by rw [h, k]

end Go.Proofs.Ytdfinapjgffjiaa

/- A disk in rows of the call's own; variables that hold a disk. -/
namespace Go.Proofs.Ytdfinapjgffjiaa
open Go.RowKit
set_option linter.unusedVariables false

def OwnB (ao : Option Addr) (n ca : Nat) (bo : Option Addr) (m cb : Nat) (k : Nat) : Prop := Own (.slice ao n ca) k ∨ Own (.slice bo m cb) k

end Go.Proofs.Ytdfinapjgffjiaa

/- Contract of impl.copyDisk: the disk as it was, in new memory. -/
namespace Go.Proofs.Ytdfinapjgffjiaa
open Go.RowKit
set_option linter.unusedVariables false
set_option maxRecDepth 100000

end Go.Proofs.Ytdfinapjgffjiaa

/- Contract of spec.l01Own: the disk as it was, in new memory. -/
namespace Go.Proofs.Ytdfinapjgffjiaa
open Go.RowKit
set_option linter.unusedVariables false
set_option maxRecDepth 100000

/-- The cells of a slice's texts, of its writes, for an append. -/
theorem Ss.src {w : World} {ao : Option Addr} {ss : List ByteArray} (h : Ss w ao ss) : 0 < ss.length → ∃ ad, ao = some ad ∧ ∀ j u, (strV ss)[j]? = some u → w.cell? (ad.add j) = some u := fun hp => by
  obtain ⟨b, off, rfl, hc⟩ := h.at hp
  exact ⟨_, rfl, hc⟩
theorem Ios.src {w : World} {ao : Option Addr} {xs : List Wr} (h : Ios w ao xs) : 0 < xs.length → ∃ ad, ao = some ad ∧ ∀ j u, (ioV xs)[j]? = some u → w.cell? (ad.add j) = some u := fun hp => by
  obtain ⟨b, off, rfl, hc⟩ := h.at hp
  exact ⟨_, rfl, hc⟩


end Go.Proofs.Ytdfinapjgffjiaa

/- Variables that hold a write; ends of calls that answer with a disk. -/
namespace Go.Proofs.Ytdfinapjgffjiaa
open Go.RowKit
set_option linter.unusedVariables false

def wrV (x : Wr) : List Value := [.int .i64 x.host, .int .i64 x.at_, .string x.data]
theorem wrV_one (x : Wr) : ∀ u ∈ wrV x, u.oneCell' = true := by
  intro u hu
  simp [wrV] at hu
  rcases hu with rfl | rfl | rfl <;> rfl
theorem ioV_snoc (xs : List Wr) (x : Wr) : ioV (xs ++ [x]) = ioV xs ++ wrV x := by simp [ioV, wrV]

theorem belowKp {W0 W W' : World} {S : Nat → Prop} (h : Below W0.heap.size W0 W) (hk : Keep S W W') (hs : ∀ j, S j → W0.heap.size ≤ j) : Below W0.heap.size W0 W' := h.trans (hk.below h.size hs)
theorem zero_end {w wL : World} (hb : Below w.heap.size w wL) (a b : Value) : Below w.heap.size w ((wL.setCell ⟨w.heap.size + 1, 0, none⟩ a).setCell ⟨w.heap.size + 1, 1, none⟩ b) :=
  (hb.setCell (p := ⟨w.heap.size + 1, 0, none⟩) (by simp) a).setCell (p := ⟨w.heap.size + 1, 1, none⟩) (by simp) b

theorem ask_zero (ss : List ByteArray) (xs : List Wr) (h : Int) : askC ss xs h 0 = hostC ss xs h := by
  unfold askC
  split
  · rename_i e; rw [e]; rfl
  · rfl
end Go.Proofs.Ytdfinapjgffjiaa

/- Contract of impl.landFirst: of a host's writes the first ones are sure. -/
namespace Go.Proofs.Ytdfinapjgffjiaa
open Go.RowKit
set_option linter.unusedVariables false

/-- One write of a disk's, as a host's writes land: the sectors, what is left, how many may still land. -/
def stepF (h : Int) (lost : Bool) (st : List ByteArray × List Wr × Int) (x : Wr) : List ByteArray × List Wr × Int :=
  if x.host = h then (if 0 < st.2.2 then (st.1.set x.at_.toNat x.data, st.2.1, st.2.2 - 1) else if lost = true then st else (st.1, st.2.1 ++ [x], st.2.2)) else (st.1, st.2.1 ++ [x], st.2.2)
def landF (h : Int) (lost : Bool) (ss : List ByteArray) (xs : List Wr) (n : Int) : List ByteArray × List Wr × Int := xs.foldl (stepF h lost) (ss, [], n)
theorem landF_succ {h : Int} {lost : Bool} {ss : List ByteArray} {xs : List Wr} {n : Int} {k : Nat} (hk : k < xs.length) : landF h lost ss (xs.take (k + 1)) n = stepF h lost (landF h lost ss (xs.take k) n) xs[k] := by
  unfold landF
  rw [List.take_succ_eq_append_getElem hk, List.foldl_append]
  rfl
theorem step_other {h : Int} {lost : Bool} {x : Wr} (ha : x.host ≠ h) (SS : List ByteArray) (LX : List Wr) (N : Int) : stepF h lost (SS, LX, N) x = (SS, LX ++ [x], N) := by simp [stepF, ha]
theorem step_land {h : Int} {lost : Bool} {x : Wr} (ha : x.host = h) (SS : List ByteArray) (LX : List Wr) {N : Int} (hn : 0 < N) : stepF h lost (SS, LX, N) x = (SS.set x.at_.toNat x.data, LX, N - 1) := by simp [stepF, ha, hn]
theorem step_keep {h : Int} {x : Wr} (ha : x.host = h) (SS : List ByteArray) (LX : List Wr) {N : Int} (hn : ¬ 0 < N) : stepF h false (SS, LX, N) x = (SS, LX ++ [x], N) := by simp [stepF, ha, hn]

theorem strV_set (SS : List ByteArray) (j : Nat) (d : ByteArray) : (strV SS).set j (.string d) = strV (SS.set j d) := by simp [strV, List.map_set]

end Go.Proofs.Ytdfinapjgffjiaa

/- Contract of spec.l01Land: of a host's writes the first ones are sure, the others stay or are lost. -/
namespace Go.Proofs.Ytdfinapjgffjiaa
open Go.RowKit
set_option linter.unusedVariables false

theorem step_drop {h : Int} {x : Wr} (ha : x.host = h) (SS : List ByteArray) (LX : List Wr) {N : Int} (hn : ¬ 0 < N) : stepF h true (SS, LX, N) x = (SS, LX, N) := by simp [stepF, ha, hn]

end Go.Proofs.Ytdfinapjgffjiaa

/- What lands comes out of what was there; the bounds of a right disk. -/
namespace Go.Proofs.Ytdfinapjgffjiaa
open Go.RowKit
set_option linter.unusedVariables false

/-- What lands comes out of what was there. -/
theorem land_inv (h : Int) (lost : Bool) (P : ByteArray → Prop) : ∀ (xs : List Wr) (SS : List ByteArray) (LX : List Wr) (N : Int), (∀ s ∈ SS, P s) → (∀ x ∈ xs, P x.data) → (∀ x ∈ LX, P x.data) →
    (∀ s ∈ (xs.foldl (stepF h lost) (SS, LX, N)).1, P s) ∧ (∀ x ∈ (xs.foldl (stepF h lost) (SS, LX, N)).2.1, P x.data) ∧ (xs.foldl (stepF h lost) (SS, LX, N)).1.length = SS.length ∧ (xs.foldl (stepF h lost) (SS, LX, N)).2.1.length ≤ LX.length + xs.length
  | [], SS, LX, N, h1, _, h3 => ⟨h1, h3, rfl, Nat.le_refl _⟩
  | x :: xs, SS, LX, N, h1, h2, h3 => by
    have hx := h2 x (List.mem_cons_self ..)
    have hr : ∀ y ∈ xs, P y.data := fun y hy => h2 y (List.mem_cons_of_mem _ hy)
    have happ : ∀ y ∈ LX ++ [x], P y.data := by
      intro y hy
      rcases List.mem_append.1 hy with h | h
      · exact h3 y h
      · simp at h; subst h; exact hx
    have hset : ∀ s ∈ SS.set x.at_.toNat x.data, P s := by
      intro s hs
      rcases List.mem_or_eq_of_mem_set hs with h | h
      · exact h1 s h
      · rw [h]; exact hx
    rw [List.foldl_cons]
    by_cases ha : x.host = h
    · by_cases hn : 0 < N
      · rw [step_land ha SS LX hn]
        obtain ⟨q1, q2, q3, q4⟩ := land_inv h lost P xs (SS.set x.at_.toNat x.data) LX (N - 1) hset hr h3
        exact ⟨q1, q2, by rw [q3, List.length_set], by simp only [List.length_cons]; omega⟩
      · cases lost
        · rw [step_keep ha SS LX hn]
          obtain ⟨q1, q2, q3, q4⟩ := land_inv h false P xs SS (LX ++ [x]) N h1 hr happ
          exact ⟨q1, q2, q3, by simp only [List.length_cons, List.length_append, List.length_nil] at q4 ⊢; omega⟩
        · rw [step_drop ha SS LX hn]
          obtain ⟨q1, q2, q3, q4⟩ := land_inv h true P xs SS LX N h1 hr h3
          exact ⟨q1, q2, q3, by simp only [List.length_cons]; omega⟩
    · rw [step_other ha SS LX N]
      obtain ⟨q1, q2, q3, q4⟩ := land_inv h lost P xs SS (LX ++ [x]) N h1 hr happ
      exact ⟨q1, q2, q3, by simp only [List.length_cons, List.length_append, List.length_nil] at q4 ⊢; omega⟩
theorem landF_inv {h n : Int} {lost : Bool} {ss : List ByteArray} {xs : List Wr} (P : ByteArray → Prop) (h1 : ∀ s ∈ ss, P s) (h2 : ∀ x ∈ xs, P x.data) :
    (∀ s ∈ (landF h lost ss xs n).1, P s) ∧ (∀ x ∈ (landF h lost ss xs n).2.1, P x.data) ∧ (landF h lost ss xs n).1.length = ss.length ∧ (landF h lost ss xs n).2.1.length ≤ xs.length := by
  have := land_inv h lost P xs ss [] n h1 h2 (fun _ h => by cases h)
  simpa [landF] using this

theorem diskB_at {ss : List ByteArray} {xs : List Wr} (h : diskB ss xs = true) : ∀ i (hi : i < xs.length), 0 ≤ xs[i].at_ ∧ xs[i].at_ < ss.length := by
  intro i hi
  have hl := (diskB_len h).1
  simp only [diskB, penB, Bool.and_eq_true, List.all_eq_true] at h
  have := h.2.2 xs[i] (List.getElem_mem hi)
  simp only [ioB, Bool.and_eq_true, decide_eq_true_eq] at this
  omega

/-- What Flush answers. -/
def flS (ss : List ByteArray) (xs : List Wr) (h : Int) : List ByteArray := if hostC ss xs h = 0 then (landF h false ss xs 200).1 else []
def flX (ss : List ByteArray) (xs : List Wr) (h : Int) : List Wr := if hostC ss xs h = 0 then (landF h false ss xs 200).2.1 else []
theorem fl_ok {ss : List ByteArray} {xs : List Wr} {h : Int} (h1 : hostC ss xs h = 0) : flS ss xs h = (landF h false ss xs 200).1 ∧ flX ss xs h = (landF h false ss xs 200).2.1 := by simp [flS, flX, h1]
theorem fl_bad {ss : List ByteArray} {xs : List Wr} {h : Int} (h1 : ¬ hostC ss xs h = 0) : flS ss xs h = [] ∧ flX ss xs h = [] := by simp [flS, flX, h1]
theorem landF_slen {h n : Int} {lost : Bool} {ss : List ByteArray} {xs : List Wr} : (landF h lost ss xs n).1.length = ss.length := (landF_inv (fun _ => True) (fun _ _ => trivial) (fun _ _ => trivial)).2.2.1

end Go.Proofs.Ytdfinapjgffjiaa

/- Contract of impl.dropWrites: a host's writes are gone; and that what lands with the others lost is what lands, the host's writes dropped. -/
namespace Go.Proofs.Ytdfinapjgffjiaa
open Go.RowKit
set_option linter.unusedVariables false

/-- The writes of other hosts. -/
def dropF (h : Int) (xs : List Wr) : List Wr := xs.filter fun x => x.host != h
theorem dropF_succ_hit {h : Int} {xs : List Wr} {k : Nat} (hk : k < xs.length) (he : xs[k].host = h) : dropF h (xs.take (k + 1)) = dropF h (xs.take k) := by
  rw [dropF, dropF, List.take_succ_eq_append_getElem hk, List.filter_append]; simp [he]
theorem dropF_succ_miss {h : Int} {xs : List Wr} {k : Nat} (hk : k < xs.length) (he : ¬ xs[k].host = h) : dropF h (xs.take (k + 1)) = dropF h (xs.take k) ++ [xs[k]] := by
  rw [dropF, dropF, List.take_succ_eq_append_getElem hk, List.filter_append]; simp [he]
theorem land_drop (h : Int) : ∀ (xs : List Wr) (SS : List ByteArray) (LX : List Wr) (N : Int), xs.foldl (stepF h true) (SS, dropF h LX, N) = ((xs.foldl (stepF h false) (SS, LX, N)).1, dropF h (xs.foldl (stepF h false) (SS, LX, N)).2.1, (xs.foldl (stepF h false) (SS, LX, N)).2.2)
  | [], SS, LX, N => rfl
  | x :: xs, SS, LX, N => by
    rw [List.foldl_cons, List.foldl_cons]
    by_cases ha : x.host = h
    · by_cases hn : 0 < N
      · rw [step_land ha SS LX hn, step_land ha SS (dropF h LX) hn]
        exact land_drop h xs _ _ _
      · rw [step_keep ha SS LX hn, step_drop ha SS (dropF h LX) hn]
        have : dropF h LX = dropF h (LX ++ [x]) := by simp [dropF, ha]
        rw [this]
        exact land_drop h xs _ _ _
    · rw [step_other ha SS LX N, step_other ha SS (dropF h LX) N]
      have : dropF h LX ++ [x] = dropF h (LX ++ [x]) := by simp [dropF, ha]
      rw [this]
      exact land_drop h xs _ _ _
theorem landF_lost (h n : Int) (ss : List ByteArray) (xs : List Wr) : (landF h true ss xs n).1 = (landF h false ss xs n).1 ∧ (landF h true ss xs n).2.1 = dropF h (landF h false ss xs n).2.1 := by
  have := land_drop h xs ss [] n
  have e : landF h true ss xs n = xs.foldl (stepF h true) (ss, dropF h [], n) := rfl
  rw [e, this]
  exact ⟨rfl, rfl⟩

end Go.Proofs.Ytdfinapjgffjiaa

/- Flush: contracts of the model and of the program. -/
namespace Go.Proofs.Ytdfinapjgffjiaa
open Go.RowKit
set_option linter.unusedVariables false

end Go.Proofs.Ytdfinapjgffjiaa

/- LoseHost: contracts of the model and of the program. -/
namespace Go.Proofs.Ytdfinapjgffjiaa
open Go.RowKit
set_option linter.unusedVariables false

/-- What LoseHost answers. -/
def loS (ss : List ByteArray) (xs : List Wr) (h k : Int) : List ByteArray := if hostC ss xs h = 0 then (if inB k 0 200 = true then (landF h true ss xs k).1 else []) else []
def loX (ss : List ByteArray) (xs : List Wr) (h k : Int) : List Wr := if hostC ss xs h = 0 then (if inB k 0 200 = true then (landF h true ss xs k).2.1 else []) else []
def loC (ss : List ByteArray) (xs : List Wr) (h k : Int) : Int := if hostC ss xs h = 0 then (if inB k 0 200 = true then 0 else 4) else hostC ss xs h
theorem lo_ok {ss : List ByteArray} {xs : List Wr} {h k : Int} (h1 : hostC ss xs h = 0) (h2 : inB k 0 200 = true) : loS ss xs h k = (landF h true ss xs k).1 ∧ loX ss xs h k = (landF h true ss xs k).2.1 ∧ loC ss xs h k = 0 := by simp [loS, loX, loC, h1, h2]
theorem lo_range {ss : List ByteArray} {xs : List Wr} {h k : Int} (h1 : hostC ss xs h = 0) (h2 : inB k 0 200 = false) : loS ss xs h k = [] ∧ loX ss xs h k = [] ∧ loC ss xs h k = 4 := by simp [loS, loX, loC, h1, h2]
theorem lo_bad {ss : List ByteArray} {xs : List Wr} {h k : Int} (h1 : ¬ hostC ss xs h = 0) : loS ss xs h k = [] ∧ loX ss xs h k = [] ∧ loC ss xs h k = hostC ss xs h := by simp [loS, loX, loC, h1]
theorem inB_eq {k a b : Int} (h : inB k a b = true) : a ≤ k ∧ k ≤ b := by simpa [inB] using h
theorem inB_ne {k a b : Int} (h : inB k a b = false) (hk : ¬ k < a) : b < k := by
  simp [inB] at h
  omega

end Go.Proofs.Ytdfinapjgffjiaa
