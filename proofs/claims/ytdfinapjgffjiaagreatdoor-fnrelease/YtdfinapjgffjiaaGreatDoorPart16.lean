import Derived.Test.YtdfinapjgffjiaaGreatDoorRows
import Derived.Test.YtdfinapjgffjiaaGreatDoorPart1
import Derived.Test.YtdfinapjgffjiaaGreatDoorPart4
import Derived.Test.YtdfinapjgffjiaaGreatDoorPart7
import Derived.Test.YtdfinapjgffjiaaGreatDoorPart8
import Derived.Test.YtdfinapjgffjiaaGreatDoorPart14
import Derived.Test.YtdfinapjgffjiaaGreatDoorPart13
import Derived.Test.YtdfinapjgffjiaaGreatDoorPart15
import Derived.WalkKit
import Derived.WalkSpells
import Derived.KernelRfl
import Derived.Laws.CopyRow
import Derived.Laws.CopyOwn
import Derived.Deep.CutRange
import Derived.Test.YtdfinapjgffjiaaGreatDoorPart2
import Derived.Test.YtdfinapjgffjiaaGreatDoorPart12
import Derived.Deep.RegionWith
import Derived.Deep.MidRow

/- The program's phases as values, a copy of blocks, and PxStep; spec's PxStep. -/
namespace Go.Proofs.YtdfinapjgffjiaaGreatDoor
open Go.RowKit
set_option linter.unusedVariables false
set_option maxRecDepth 100000

theorem sizeK : (Tryz.prog.info? 80).map (·.size) = some 4 := by kernel_rfl
set_option maxHeartbeats 1600000 in
theorem copyK_any (ao : Option Addr) (cap : Nat) (ss : List Bk) (w : World) (hl : ss.length ≤ 1048576) (h0 : 0 < ss.length) (hc : Bks w ao ss) :
    Calls Tryz.prog 115 #[.slice ao ss.length cap] w fun e w' => e = .returned (.slice (some ⟨w.heap.size, 0, none⟩) ss.length ss.length) ∧ w'.ownsRow w.heap.size 80 4 (.slice (some ⟨w.heap.size, 0, none⟩) ss.length ss.length) ss.length (bksV ss) ∧ Below w.heap.size w w' := by
  have hb : ((ss.length : Int) == 0) = false := beq_eq_false_iff_ne.2 (by omega)
  obtain ⟨b, off, rfl, hbl, hcs⟩ := hc.at h0
  have HCS := hide hcs
  have HP := hide h0
  clear hc hcs h0
  obtain ⟨i0, hi, hz0, hz1, hz2⟩ := info_parts infoK
  go_enter Tryz.func115, Tryz.ntmps115
  go_wp2_with (first | (at_make; refine wpList_make_full _ rfl _ _ 54 rfl w.heap.size 80 i0 _ 4 Tryz.underlying54 hi hz0 hz1 _ _ _ _ ss.length rfl rfl rfl rfl ?c1 ?c2 ?c3 ?_))
  case c1 => rw [hz2]; omega
  case c2 => unfold maxLen; omega
  case c3 => exact Nat.le_refl _
  intro w1 hown hgrow
  have hB : Below w.heap.size w w1 := (Below.refl _ _).grown hgrow (Nat.le_refl _) (fun _ h => by cases h)
  have HO := hide hown
  have HB := hide hB
  have HC1 : Hid (∀ j v, (bksV ss)[j]? = some v → w1.cell? (Addr.add ⟨b, off, none⟩ j) = some v) := hide (fun j v hv => ((unhide HB).cell (by unfold Addr.add; split <;> exact hbl)).trans (unhide HCS j v hv))
  clear hown hgrow hB
  go_wp2_with (refine wpList_copy_whole rfl _ _ 54 54 rfl 80 4 Tryz.underlying54 sizeK w.heap.size w.heap.size ss.length ⟨b, off, none⟩ _ rfl rfl _ (unhide HO) (bksV ss) (by rw [bksV_length]) (unhide HC1) (bksV_one ss) ?_; intro w2 ho2 hg2)
  have HB2 := hide ((unhide HB).grown hg2 (unhide HB).size (fun k h => by cases h; exact Nat.le_refl _))
  have HO2 := hide ho2
  clear ho2 hg2
  go_ret
  exact ⟨rfl, unhide HO2, unhide HB2⟩

/-- What is handed out as a phase. -/
abbrev fV (f : Nat) : Value := .func (.func f) #[] #[]
set_option maxHeartbeats 1600000 in
theorem readBallot_any (a b : Nat) (w : World) : Calls Tryz.prog 128 #[fV a, fV b] w fun e w' => e = .returned (.func (.func 140) #[] #[.pointer (some ⟨w.heap.size, 0, none⟩), .pointer (some ⟨w.heap.size + 1, 0, none⟩)]) ∧ w'.cell? ⟨w.heap.size, 0, none⟩ = some (fV a) ∧ w'.cell? ⟨w.heap.size + 1, 0, none⟩ = some (fV b) ∧ Below w.heap.size w w' := by
  have hmf : ∀ (fn : Fn) (first cap : Array Value) (w : World), (Instr.makeFunc fn first cap).run Tryz.prog w = .ok (.func fn first cap) w := fun _ _ _ _ => rfl
  go_enter Tryz.func128, Tryz.ntmps128
  go_wp2
  go_ret
  exact ⟨rfl, by simp [go_sem], by simp [go_sem], Joins.below_alloc2 _ _ _⟩

theorem phaseOf_1 (n : Int) (w : World) (h : n = 1) : Calls Tryz.prog 116 #[.int .i64 n] w fun e w' => e = .returned (.tuple #[fV 127, .bool true]) ∧ w' = w := by
  subst h
  go_enter Tryz.func116, Tryz.ntmps116
  go_wp2
  go_ret2
  exact ⟨rfl, rfl⟩
theorem phaseOf_3 (n : Int) (w : World) (h : n = 3) : Calls Tryz.prog 116 #[.int .i64 n] w fun e w' => e = .returned (.tuple #[fV 131, .bool true]) ∧ w' = w := by
  subst h
  go_enter Tryz.func116, Tryz.ntmps116
  go_wp2
  go_ret2
  exact ⟨rfl, rfl⟩
theorem phaseOf_5 (n : Int) (w : World) (h : n = 5 ∨ n = 6) : Calls Tryz.prog 116 #[.int .i64 n] w fun e w' => e = .returned (.tuple #[.nilFunc, .bool false]) ∧ w' = w := by
  rcases h with rfl | rfl
  · go_enter Tryz.func116, Tryz.ntmps116
    go_wp2
    go_ret2
    exact ⟨rfl, rfl⟩
  · go_enter Tryz.func116, Tryz.ntmps116
    go_wp2
    go_ret2
    exact ⟨rfl, rfl⟩
abbrev clV (a b : Nat) : Value := .func (.func 140) #[] #[.pointer (some ⟨a, 0, none⟩), .pointer (some ⟨b, 0, none⟩)]
theorem phaseOf_2 (n : Int) (w : World) (h : n = 2) : Calls Tryz.prog 116 #[.int .i64 n] w fun e w' => ∃ a b, e = .returned (.tuple #[clV a b, .bool true]) ∧ w'.cell? ⟨a, 0, none⟩ = some (fV 129) ∧ w'.cell? ⟨b, 0, none⟩ = some (fV 130) ∧ Below w.heap.size w w' := by
  subst h
  go_enter Tryz.func116, Tryz.ntmps116
  go_wp2_with fail
  refine (readBallot_any 129 130 _).mono ?_
  rintro e w1 ⟨rfl, h1, h2, hb⟩
  have HH := hide (And.intro h1 (And.intro h2 hb))
  clear h1 h2 hb
  go_wp2
  go_ret2
  exact ⟨_, _, rfl, (unhide HH).1, (unhide HH).2.1, (unhide HH).2.2⟩
theorem phaseOf_4 (n : Int) (w : World) (h : n = 4) : Calls Tryz.prog 116 #[.int .i64 n] w fun e w' => ∃ a b, e = .returned (.tuple #[clV a b, .bool true]) ∧ w'.cell? ⟨a, 0, none⟩ = some (fV 132) ∧ w'.cell? ⟨b, 0, none⟩ = some (fV 133) ∧ Below w.heap.size w w' := by
  subst h
  go_enter Tryz.func116, Tryz.ntmps116
  go_wp2_with fail
  refine (readBallot_any 132 133 _).mono ?_
  rintro e w1 ⟨rfl, h1, h2, hb⟩
  have HH := hide (And.intro h1 (And.intro h2 hb))
  clear h1 h2 hb
  go_wp2
  go_ret2
  exact ⟨_, _, rfl, (unhide HH).1, (unhide HH).2.1, (unhide HH).2.2⟩

theorem pxStep_len (p : Pxs) (bs : List Bk) : (pxStepP p bs).2.length = bs.length := by
  unfold pxStepP
  split
  · rfl
  · split
    · rfl
    · split
      · rfl
      · simp
theorem StAt.all {w W : World} {x : Nat} {p : Pxs} {qo : Option Addr} {qa : Nat} {bs : List Bk} (h : StAt w W x p qo qa bs) (q : Pxs) : StAt w ((((((((W.setCell ⟨x, 0, none⟩ (.int .i64 q.host)).setCell ⟨x, 1, none⟩ (.int .i64 q.ver)).setCell ⟨x, 2, none⟩ (.int .i64 q.phase)).setCell ⟨x, 3, none⟩ (.int .i64 q.ballot)).setCell ⟨x, 4, none⟩ (.int .i64 q.value)).setCell ⟨x, 5, none⟩ (.int .i64 q.next)).setCell ⟨x, 6, none⟩ (.int .i64 q.best)).setCell ⟨x, 7, none⟩ (.int .i64 q.bestBal)) x q qo qa bs :=
  ⟨h.a.all q, (((((((h.o.setCell (a := ⟨x, 0, none⟩) (by simp) _).setCell (a := ⟨x, 1, none⟩) (by simp) _).setCell (a := ⟨x, 2, none⟩) (by simp) _).setCell (a := ⟨x, 3, none⟩) (by simp) _).setCell (a := ⟨x, 4, none⟩) (by simp) _).setCell (a := ⟨x, 5, none⟩) (by simp) _).setCell (a := ⟨x, 6, none⟩) (by simp) _).setCell (a := ⟨x, 7, none⟩) (by simp) _⟩
/-- A phase has written into the row. -/
theorem StAt.did {w W W' : World} {x : Nat} {p : Pxs} {g qa : Nat} {bs bs' : List Bk} (h : StAt w W x p (some ⟨g, 0, none⟩) qa bs) (ho : W'.ownsRow (x + 2) 80 4 (.slice (some ⟨g, 0, none⟩) 4 qa) 4 (bksV bs')) (hk : Keep (fun j => j = g) W W') : StAt w W' x p (some ⟨g, 0, none⟩) qa bs' := by
  have hg := (h.o.ge g (own_of (by omega) rfl)).1
  have hx := h.a.ge
  have hl : x < W.heap.size := h.a.v.lt
  refine ⟨⟨h.a.v.keep hk (by show ¬ x = g; omega), h.a.r.keep hk (by show ¬ x + 1 = g; omega), ?_, h.a.ge⟩, .inr ⟨by omega, ho⟩⟩
  have hb := hk.below (B := w.heap.size) h.a.k.size (fun j hj => by omega)
  exact h.a.k.trans hb
theorem StAt.row {w W : World} {x : Nat} {p : Pxs} {g qa : Nat} {bs : List Bk} (h : StAt w W x p (some ⟨g, 0, none⟩) qa bs) : W.ownsRow (x + 2) 80 4 (.slice (some ⟨g, 0, none⟩) 4 qa) 4 (bksV bs) := by
  rcases h.o with ⟨h0, _, _⟩ | ⟨_, ho⟩
  · omega
  · exact ho
/-- What PxStep leaves. -/
def Stepped (w W : World) (p : Pxs) (xs : List Bk) (e : Ending) : Prop := ∃ qo qa, e = .returned (.tuple #[pV (stP p xs), .slice qo (stL p xs).length qa, .int .i64 (stC p xs)]) ∧ OwnR W w.heap.size 80 4 (.slice qo (stL p xs).length qa) (stL p xs).length (bksV (stL p xs)) ∧ Below w.heap.size w W
theorem stepped_none {w W : World} {p : Pxs} {xs : List Bk} {c : Int} (ao : Option Addr) (h : stP p xs = p00 ∧ stL p xs = [] ∧ stC p xs = c) (hb : Below w.heap.size w W) : Stepped w W p xs (.returned (.tuple #[pV p00, .slice ao 0 0, .int .i64 c])) := by
  unfold Stepped
  rw [h.1, h.2.1, h.2.2]
  exact ⟨ao, 0, rfl, .inl ⟨rfl, rfl, ao, rfl⟩, hb⟩
theorem stepped_done {w W : World} {p p' : Pxs} {xs bs' : List Bk} {c : Int} {qo : Option Addr} {qa : Nat} (h : stP p xs = (pxStepP p xs).1 ∧ stL p xs = (pxStepP p xs).2 ∧ stC p xs = stEnd p) (hx : xs.length = 4) (hE : pxStepP p xs = (p', bs')) (hc : stEnd p = c)
    (hO : OwnR W w.heap.size 80 4 (.slice qo 4 qa) 4 (bksV bs') ∧ Below w.heap.size w W) : Stepped w W p xs (.returned (.tuple #[pV p', .slice qo 4 qa, .int .i64 c])) := by
  unfold Stepped
  have hl := pxStep_len p xs
  rw [hx] at hl
  rw [h.1, h.2.1, h.2.2, hl, hc]
  rw [hE] at *
  exact ⟨qo, qa, rfl, hO.1, hO.2⟩

theorem pxAt0 (w : World) (p : Pxs) : PxAt w ((w.alloc (.cells #[.int .i64 p.host, .int .i64 p.ver, .int .i64 p.phase, .int .i64 p.ballot, .int .i64 p.value, .int .i64 p.next, .int .i64 p.best, .int .i64 p.bestBal] 53)).alloc (.cells #[.int .i64 0, .int .i64 0, .int .i64 0, .int .i64 0, .int .i64 0, .int .i64 0, .int .i64 0, .int .i64 0] 53)) w.heap.size p :=
  ⟨(VarP.new w _ p).below (Joins.below_alloc1 _ _), by
    have := VarP.new0 (w.alloc (.cells #[.int .i64 p.host, .int .i64 p.ver, .int .i64 p.phase, .int .i64 p.ballot, .int .i64 p.value, .int .i64 p.next, .int .i64 p.best, .int .i64 p.bestBal] 53)) 53
    simp only [World.size_alloc] at this
    exact this, Joins.below_alloc2 _ _ _, Nat.le_refl _⟩

end Go.Proofs.YtdfinapjgffjiaaGreatDoor

/- The program's PxStep. -/
namespace Go.Proofs.YtdfinapjgffjiaaGreatDoor
open Go.RowKit
set_option linter.unusedVariables false
set_option maxRecDepth 100000

theorem stepped_end {w W : World} {p p' : Pxs} {xs bs' : List Bk} {c : Int} {qo : Option Addr} {qa : Nat} (h : stP p xs = p' ∧ stL p xs = bs' ∧ stC p xs = stEnd p) (hx : bs'.length = 4) (hc : stEnd p = c)
    (hO : OwnR W w.heap.size 80 4 (.slice qo 4 qa) 4 (bksV bs') ∧ Below w.heap.size w W) : Stepped w W p xs (.returned (.tuple #[pV p', .slice qo 4 qa, .int .i64 c])) := by
  unfold Stepped
  rw [h.1, h.2.1, h.2.2, hx, hc]
  exact ⟨qo, qa, rfl, hO.1, hO.2⟩
theorem st_fault {p : Pxs} {xs : List Bk} (h : ¬ bfC xs = 0) : stP p xs = p00 ∧ stL p xs = [] ∧ stC p xs = bfC xs := by
  by_cases hl : 4096 < xs.length
  · have := st_long (p := p) hl
    rw [bfC_long hl]; exact this
  · by_cases hb : bksB xs = true
    · exact absurd (bfC_ok hl hb) h
    · rw [Bool.not_eq_true] at hb
      rw [bfC_bad hl hb]
      exact st_bad hl (by rw [hb]; simp)

set_option maxHeartbeats 3200000 in
theorem pxStep_impl (p : Pxs) (ao : Option Addr) (ca : Nat) (xs : List Bk) (w : World) (hl : xs.length ≤ 1048576) (hc : Bks w ao xs) : Calls Tryz.prog 94 #[pV p, .slice ao xs.length ca] w fun e w' => Stepped w w' p xs e := by
  have HC := hide hc
  clear hc
  have H0 := hide (pxAt0 w p)
  go_enter Tryz.func94, Tryz.ntmps94
  go_wp2_with fail
  refine (blocksFault_any ao ca xs _ hl ((unhide HC).below (unhide H0).k)).mono ?_
  rintro e W1 ⟨rfl, hb⟩
  have E1 := hide ((unhide H0).below hb)
  clear hb H0
  by_cases hf : ¬ bfC xs = 0
  · have HE : Hid (stP p xs = p00 ∧ stL p xs = [] ∧ stC p xs = bfC xs) := hide (st_fault hf)
    have hb : (bfC xs != 0) = true := by simp [hf]
    clear hf
    revert HE hb
    generalize bfC xs = c9
    intro HE hb
    obtain ⟨r0, r1, r2, r3, r4, r5, r6, r7⟩ := (unhide E1).r.cells
    obtain ⟨s0, s1, s2, s3, s4, s5, s6, s7⟩ := (unhide E1).r.free
    have HK := hide (fun u0 u1 u2 u3 u4 u5 u6 u7 => below8 (unhide E1).k (show w.heap.size ≤ w.heap.size + 1 by omega) u0 u1 u2 u3 u4 u5 u6 u7)
    go_wp2
    exact bodyPost_ret (v := .tuple #[pV p00, .slice none 0 0, .int .i64 c9]) (by simp [results, Tryz.results94, go_sem, r0, r1, r2, r3, r4, r5, r6, r7, p00]) rfl (stepped_none _ (unhide HE) (unhide HK _ _ _ _ _ _ _ _))
  rw [Decidable.not_not] at hf
  have hlong : ¬ 4096 < xs.length := fun h => by rw [bfC_long h] at hf; exact absurd hf (by decide)
  have h2 := bfC_zero hf
  have hb0 : (bfC xs != 0) = false := by simp [hf]
  clear hf
  revert hb0
  generalize bfC xs = c9
  intro hb0
  obtain ⟨c0, c1, c2, c3, c4, c5, c6, c7⟩ := (unhide E1).v.cells
  go_wp2_with fail
  refine (pxOK_impl p _).mono ?_
  rintro e W2 ⟨rfl, hb⟩
  have E2 := hide ((unhide E1).below hb)
  clear hb E1 c0 c1 c2 c3 c4 c5 c6 c7
  by_cases h1 : pxB p = false
  · have HE := hide (st_bad (p := p) (xs := xs) hlong (by rw [h1]; rfl))
    obtain ⟨r0, r1, r2, r3, r4, r5, r6, r7⟩ := (unhide E2).r.cells
    obtain ⟨s0, s1, s2, s3, s4, s5, s6, s7⟩ := (unhide E2).r.free
    have HK := hide (fun u0 u1 u2 u3 u4 u5 u6 u7 => below8 (unhide E2).k (show w.heap.size ≤ w.heap.size + 1 by omega) u0 u1 u2 u3 u4 u5 u6 u7)
    go_wp2
    exact bodyPost_ret (v := .tuple #[pV p00, .slice none 0 0, .int .i64 1]) (by simp [results, Tryz.results94, go_sem, r0, r1, r2, r3, r4, r5, r6, r7, p00]) rfl (stepped_none _ (unhide HE) (unhide HK _ _ _ _ _ _ _ _))
  rw [Bool.not_eq_false] at h1
  have HE := hide (st_ok hlong h1 h2)
  have HX := hide (bksB_parts h2).1
  have hp := pxB_iff.1 h1
  have HH : Hid (0 ≤ p.host ∧ p.host ≤ 3) := hide hp.1
  have HN : Hid (0 ≤ p.next ∧ p.next ≤ 4) := hide hp.2.2.2.2.2.2.1
  have HP : Hid (1 ≤ p.phase ∧ p.phase ≤ 6) := hide hp.2.2.1
  clear hp h2 hlong
  go_wp2_with fail
  refine (copyK_any ao ca xs _ hl (by have := unhide HX; omega) ((unhide HC).below (unhide E2).k)).mono ?_
  rintro e W3 ⟨rfl, ho, hb⟩
  have E3 : Hid (StAt w W3 w.heap.size p (some ⟨W2.heap.size, 0, none⟩) xs.length xs) := hide ⟨(unhide E2).below hb, .inr ⟨by omega, by have h4 := unhide HX; have h5 := own_base ho (B' := w.heap.size + 2) (by have := (unhide E2).r.lt; omega); rw [h4] at h5 ⊢; exact h5⟩⟩
  have hx4 := unhide HX
  rw [hx4] at E3 ⊢
  clear hb ho E2 hx4
  revert E3
  generalize W2.heap.size = g
  intro E3
  obtain ⟨c0, c1, c2, c3, c4, c5, c6, c7⟩ := (unhide E3).a.v.cells
  rcases (show p.phase = 1 ∨ p.phase = 2 ∨ p.phase = 3 ∨ p.phase = 4 ∨ (p.phase = 5 ∨ p.phase = 6) by have := unhide HP; omega) with hp | hp | hp | hp | hp
  · have HSE : Hid (stEnd p = 0) := hide (if_neg (by rw [hp]; decide))
    have HPS : Hid ((pxStepP p xs).2.length = 4) := hide ((pxStep_len p xs).trans (unhide HX))
    have HPH := hide hp
    clear hp
    go_wp2_with fail
    refine (phaseOf_1 p.phase _ (unhide HPH)).mono ?_
    rintro e W4 ⟨rfl, hw⟩
    replace hw := hw.symm
    subst hw
    go_wp2_with fail
    refine (beginBallot_any p g 4 (w.heap.size + 2) xs _ (unhide HPH) (unhide HX) (unhide HH) (unhide E3).row).mono ?_
    rintro e W6 ⟨rfl, ho, hk⟩
    have E6 := hide ((unhide E3).did ho hk)
    clear ho hk
    clear c0 c1 c2 c3 c4 c5 c6 c7
    generalize (pxStepP p xs).1 = P1 at *
    generalize (pxStepP p xs).2 = B1 at *
    obtain ⟨c0, c1, c2, c3, c4, c5, c6, c7⟩ := (unhide E6).a.v.cells
    obtain ⟨f0, f1, f2, f3, f4, f5, f6, f7⟩ := (unhide E6).a.v.free
    have E7 := hide ((unhide E6).all P1)
    go_upto_region 11 with fail
    clear c0 c1 c2 c3 c4 c5 c6 c7 f0 f1 f2 f3 f4 f5 f6 f7 E6
    revert E7
    generalize (((((((W6.setCell ⟨w.heap.size, 0, none⟩ (.int .i64 P1.host)).setCell ⟨w.heap.size, 1, none⟩ (.int .i64 P1.ver)).setCell ⟨w.heap.size, 2, none⟩ (.int .i64 P1.phase)).setCell ⟨w.heap.size, 3, none⟩ (.int .i64 P1.ballot)).setCell ⟨w.heap.size, 4, none⟩ (.int .i64 P1.value)).setCell ⟨w.heap.size, 5, none⟩ (.int .i64 P1.next)).setCell ⟨w.heap.size, 6, none⟩ (.int .i64 P1.best)).setCell ⟨w.heap.size, 7, none⟩ (.int .i64 P1.bestBal) = W7
    intro E7
    obtain ⟨c0, c1, c2, c3, c4, c5, c6, c7⟩ := (unhide E7).a.v.cells
    obtain ⟨r0, r1, r2, r3, r4, r5, r6, r7⟩ := (unhide E7).a.r.cells
    obtain ⟨s0, s1, s2, s3, s4, s5, s6, s7⟩ := (unhide E7).a.r.free
    have HK := hide (fun u0 u1 u2 u3 u4 u5 u6 u7 => (unhide E7).out u0 u1 u2 u3 u4 u5 u6 u7)
    go_wp2
    exact bodyPost_ret (v := .tuple #[pV P1, .slice (some ⟨g, 0, none⟩) 4 4, .int .i64 0]) (by simp [results, Tryz.results94, go_sem, r0, r1, r2, r3, r4, r5, r6, r7]) rfl (stepped_end (unhide HE) (unhide HPS) (unhide HSE) (unhide HK _ _ _ _ _ _ _ _))
  · have HSE : Hid (stEnd p = 0) := hide (if_neg (by rw [hp]; decide))
    have HPS : Hid ((pxStepP p xs).2.length = 4) := hide ((pxStep_len p xs).trans (unhide HX))
    have HRD : Hid (pxStepP p xs = (pxRd p xs, xs)) := hide (pxStepP_rd xs (by rw [hp]; decide))
    have HPH := hide hp
    clear hp
    go_wp2_with fail
    refine (phaseOf_2 p.phase _ (unhide HPH)).mono ?_
    rintro e W4 ⟨a, b, rfl, ha, hb', hb⟩
    have HA := hide ha
    have HB := hide hb'
    have E4 := hide ((unhide E3).below hb)
    clear ha hb' hb E3 c0 c1 c2 c3 c4 c5 c6 c7
    obtain ⟨c0, c1, c2, c3, c4, c5, c6, c7⟩ := (unhide E4).a.v.cells
    go_wp2_with fail
    refine (readBallot1_any _ _ _ _ 2 heed2 p (some ⟨g, 0, none⟩) 4 4 a b xs _ (unhide HX) rfl (unhide HPH) (unhide HH) (unhide HN) ((unhide E4).bks (unhide HX)) (unhide HA) (unhide HB)).mono ?_
    rintro e W6 ⟨rfl, hb⟩
    have E5 := hide ((unhide E4).below hb)
    have E6 : Hid (StAt w W6 w.heap.size p (some ⟨g, 0, none⟩) 4 (pxStepP p xs).2) := hide (by rw [unhide HRD]; exact unhide E5)
    rw [show pxRd p xs = (pxStepP p xs).1 from by rw [unhide HRD]]
    clear hb E5 HRD
    clear c0 c1 c2 c3 c4 c5 c6 c7
    generalize (pxStepP p xs).1 = P1 at *
    generalize (pxStepP p xs).2 = B1 at *
    obtain ⟨c0, c1, c2, c3, c4, c5, c6, c7⟩ := (unhide E6).a.v.cells
    obtain ⟨f0, f1, f2, f3, f4, f5, f6, f7⟩ := (unhide E6).a.v.free
    have E7 := hide ((unhide E6).all P1)
    go_upto_region 11 with fail
    clear c0 c1 c2 c3 c4 c5 c6 c7 f0 f1 f2 f3 f4 f5 f6 f7 E6
    revert E7
    generalize (((((((W6.setCell ⟨w.heap.size, 0, none⟩ (.int .i64 P1.host)).setCell ⟨w.heap.size, 1, none⟩ (.int .i64 P1.ver)).setCell ⟨w.heap.size, 2, none⟩ (.int .i64 P1.phase)).setCell ⟨w.heap.size, 3, none⟩ (.int .i64 P1.ballot)).setCell ⟨w.heap.size, 4, none⟩ (.int .i64 P1.value)).setCell ⟨w.heap.size, 5, none⟩ (.int .i64 P1.next)).setCell ⟨w.heap.size, 6, none⟩ (.int .i64 P1.best)).setCell ⟨w.heap.size, 7, none⟩ (.int .i64 P1.bestBal) = W7
    intro E7
    obtain ⟨c0, c1, c2, c3, c4, c5, c6, c7⟩ := (unhide E7).a.v.cells
    obtain ⟨r0, r1, r2, r3, r4, r5, r6, r7⟩ := (unhide E7).a.r.cells
    obtain ⟨s0, s1, s2, s3, s4, s5, s6, s7⟩ := (unhide E7).a.r.free
    have HK := hide (fun u0 u1 u2 u3 u4 u5 u6 u7 => (unhide E7).out u0 u1 u2 u3 u4 u5 u6 u7)
    go_wp2
    exact bodyPost_ret (v := .tuple #[pV P1, .slice (some ⟨g, 0, none⟩) 4 4, .int .i64 0]) (by simp [results, Tryz.results94, go_sem, r0, r1, r2, r3, r4, r5, r6, r7]) rfl (stepped_end (unhide HE) (unhide HPS) (unhide HSE) (unhide HK _ _ _ _ _ _ _ _))
  · have HSE : Hid (stEnd p = 0) := hide (if_neg (by rw [hp]; decide))
    have HPS : Hid ((pxStepP p xs).2.length = 4) := hide ((pxStep_len p xs).trans (unhide HX))
    have HPH := hide hp
    clear hp
    go_wp2_with fail
    refine (phaseOf_3 p.phase _ (unhide HPH)).mono ?_
    rintro e W4 ⟨rfl, hw⟩
    replace hw := hw.symm
    subst hw
    go_wp2_with fail
    refine (acceptValue_any p g 4 (w.heap.size + 2) xs _ (unhide HPH) (unhide HX) (unhide HH) (unhide E3).row).mono ?_
    rintro e W6 ⟨rfl, ho, hk⟩
    have E6 := hide ((unhide E3).did ho hk)
    clear ho hk
    clear c0 c1 c2 c3 c4 c5 c6 c7
    generalize (pxStepP p xs).1 = P1 at *
    generalize (pxStepP p xs).2 = B1 at *
    obtain ⟨c0, c1, c2, c3, c4, c5, c6, c7⟩ := (unhide E6).a.v.cells
    obtain ⟨f0, f1, f2, f3, f4, f5, f6, f7⟩ := (unhide E6).a.v.free
    have E7 := hide ((unhide E6).all P1)
    go_upto_region 11 with fail
    clear c0 c1 c2 c3 c4 c5 c6 c7 f0 f1 f2 f3 f4 f5 f6 f7 E6
    revert E7
    generalize (((((((W6.setCell ⟨w.heap.size, 0, none⟩ (.int .i64 P1.host)).setCell ⟨w.heap.size, 1, none⟩ (.int .i64 P1.ver)).setCell ⟨w.heap.size, 2, none⟩ (.int .i64 P1.phase)).setCell ⟨w.heap.size, 3, none⟩ (.int .i64 P1.ballot)).setCell ⟨w.heap.size, 4, none⟩ (.int .i64 P1.value)).setCell ⟨w.heap.size, 5, none⟩ (.int .i64 P1.next)).setCell ⟨w.heap.size, 6, none⟩ (.int .i64 P1.best)).setCell ⟨w.heap.size, 7, none⟩ (.int .i64 P1.bestBal) = W7
    intro E7
    obtain ⟨c0, c1, c2, c3, c4, c5, c6, c7⟩ := (unhide E7).a.v.cells
    obtain ⟨r0, r1, r2, r3, r4, r5, r6, r7⟩ := (unhide E7).a.r.cells
    obtain ⟨s0, s1, s2, s3, s4, s5, s6, s7⟩ := (unhide E7).a.r.free
    have HK := hide (fun u0 u1 u2 u3 u4 u5 u6 u7 => (unhide E7).out u0 u1 u2 u3 u4 u5 u6 u7)
    go_wp2
    exact bodyPost_ret (v := .tuple #[pV P1, .slice (some ⟨g, 0, none⟩) 4 4, .int .i64 0]) (by simp [results, Tryz.results94, go_sem, r0, r1, r2, r3, r4, r5, r6, r7]) rfl (stepped_end (unhide HE) (unhide HPS) (unhide HSE) (unhide HK _ _ _ _ _ _ _ _))
  · have HSE : Hid (stEnd p = 0) := hide (if_neg (by rw [hp]; decide))
    have HPS : Hid ((pxStepP p xs).2.length = 4) := hide ((pxStep_len p xs).trans (unhide HX))
    have HRD : Hid (pxStepP p xs = (pxRd p xs, xs)) := hide (pxStepP_rd xs (by rw [hp]; decide))
    have HPH := hide hp
    clear hp
    go_wp2_with fail
    refine (phaseOf_4 p.phase _ (unhide HPH)).mono ?_
    rintro e W4 ⟨a, b, rfl, ha, hb', hb⟩
    have HA := hide ha
    have HB := hide hb'
    have E4 := hide ((unhide E3).below hb)
    clear ha hb' hb E3 c0 c1 c2 c3 c4 c5 c6 c7
    obtain ⟨c0, c1, c2, c3, c4, c5, c6, c7⟩ := (unhide E4).a.v.cells
    go_wp2_with fail
    refine (readBallot1_any _ _ _ _ 4 heed4 p (some ⟨g, 0, none⟩) 4 4 a b xs _ (unhide HX) rfl (unhide HPH) (unhide HH) (unhide HN) ((unhide E4).bks (unhide HX)) (unhide HA) (unhide HB)).mono ?_
    rintro e W6 ⟨rfl, hb⟩
    have E5 := hide ((unhide E4).below hb)
    have E6 : Hid (StAt w W6 w.heap.size p (some ⟨g, 0, none⟩) 4 (pxStepP p xs).2) := hide (by rw [unhide HRD]; exact unhide E5)
    rw [show pxRd p xs = (pxStepP p xs).1 from by rw [unhide HRD]]
    clear hb E5 HRD
    clear c0 c1 c2 c3 c4 c5 c6 c7
    generalize (pxStepP p xs).1 = P1 at *
    generalize (pxStepP p xs).2 = B1 at *
    obtain ⟨c0, c1, c2, c3, c4, c5, c6, c7⟩ := (unhide E6).a.v.cells
    obtain ⟨f0, f1, f2, f3, f4, f5, f6, f7⟩ := (unhide E6).a.v.free
    have E7 := hide ((unhide E6).all P1)
    go_upto_region 11 with fail
    clear c0 c1 c2 c3 c4 c5 c6 c7 f0 f1 f2 f3 f4 f5 f6 f7 E6
    revert E7
    generalize (((((((W6.setCell ⟨w.heap.size, 0, none⟩ (.int .i64 P1.host)).setCell ⟨w.heap.size, 1, none⟩ (.int .i64 P1.ver)).setCell ⟨w.heap.size, 2, none⟩ (.int .i64 P1.phase)).setCell ⟨w.heap.size, 3, none⟩ (.int .i64 P1.ballot)).setCell ⟨w.heap.size, 4, none⟩ (.int .i64 P1.value)).setCell ⟨w.heap.size, 5, none⟩ (.int .i64 P1.next)).setCell ⟨w.heap.size, 6, none⟩ (.int .i64 P1.best)).setCell ⟨w.heap.size, 7, none⟩ (.int .i64 P1.bestBal) = W7
    intro E7
    obtain ⟨c0, c1, c2, c3, c4, c5, c6, c7⟩ := (unhide E7).a.v.cells
    obtain ⟨r0, r1, r2, r3, r4, r5, r6, r7⟩ := (unhide E7).a.r.cells
    obtain ⟨s0, s1, s2, s3, s4, s5, s6, s7⟩ := (unhide E7).a.r.free
    have HK := hide (fun u0 u1 u2 u3 u4 u5 u6 u7 => (unhide E7).out u0 u1 u2 u3 u4 u5 u6 u7)
    go_wp2
    exact bodyPost_ret (v := .tuple #[pV P1, .slice (some ⟨g, 0, none⟩) 4 4, .int .i64 0]) (by simp [results, Tryz.results94, go_sem, r0, r1, r2, r3, r4, r5, r6, r7]) rfl (stepped_end (unhide HE) (unhide HPS) (unhide HSE) (unhide HK _ _ _ _ _ _ _ _))
  · have HSE : Hid (stEnd p = 15) := hide (if_pos hp)
    have HPS : Hid (pxStepP p xs = (p, xs)) := hide (pxStepP_end xs hp)
    have HPH := hide hp
    clear hp
    go_wp2_with fail
    refine (phaseOf_5 p.phase _ (unhide HPH)).mono ?_
    rintro e W4 ⟨rfl, hw⟩
    replace hw := hw.symm
    subst hw
    obtain ⟨r0, r1, r2, r3, r4, r5, r6, r7⟩ := (unhide E3).a.r.cells
    obtain ⟨s0, s1, s2, s3, s4, s5, s6, s7⟩ := (unhide E3).a.r.free
    have HK := hide (fun u0 u1 u2 u3 u4 u5 u6 u7 => (unhide E3).out u0 u1 u2 u3 u4 u5 u6 u7)
    go_wp2
    exact bodyPost_ret (v := .tuple #[pV p, .slice (some ⟨g, 0, none⟩) 4 4, .int .i64 15]) (by simp [results, Tryz.results94, go_sem, r0, r1, r2, r3, r4, r5, r6, r7]) rfl (stepped_done (unhide HE) (unhide HX) (unhide HPS) (unhide HSE) (unhide HK _ _ _ _ _ _ _ _))
end Go.Proofs.YtdfinapjgffjiaaGreatDoor

/- Contracts of the methods of the program's ballots: begin, step. -/
namespace Go.Proofs.YtdfinapjgffjiaaGreatDoor
open Go.RowKit
set_option linter.unusedVariables false
set_option maxRecDepth 100000

set_option maxHeartbeats 1600000 in
theorem begin_many (B x : Nat) (s : Est) (L : Ld) (bo ao qo : Option Addr) (ba ca cb : Nat) (v u : Int) (w : World) (hh : 0 ≤ s.p.host ∧ s.p.host ≤ 3) (hv : 0 ≤ v ∧ v ≤ 1000000) (hb : bksB s.bs = true) (hm : 1000000 < nxBal s.p.host v s.bs) (hs : Sto w B x s L bo ba ao ca qo cb) :
    Calls Tryz.prog 59 #[.pointer (some ⟨x, 0, none⟩), .int .i64 v, .int .i64 u] w fun e w' => e = .returned (.int .i64 6) ∧ Below w.heap.size w w' := by
  have h4 := (bksB_parts hb).1
  obtain ⟨e1, e2⟩ := nb_many (bfC_ok (by omega) hb) (show inB s.p.host 0 3 = true by simp [inB]; omega) (show inB v 0 1000000 = true by simp [inB]; omega) hm
  have HC : Hid (∀ W, Below w.heap.size w W → Calls Tryz.prog 91 #[.int .i64 s.p.host, .int .i64 v, .slice bo 4 ba] W fun e w' => e = .returned (.tuple #[.int .i64 0, .int .i64 6]) ∧ Below W.heap.size W w') := hide (fun W hW => by
    have := nextBallot_impl s.p.host v bo ba s.bs W (by omega) ((hs.below hW).bks h4)
    rw [e1, e2, h4] at this
    exact this)
  obtain ⟨c0, _⟩ := hs.v.px
  obtain ⟨c8, _⟩ := hs.v.rest
  clear hs hb hm h4 e1 e2 hh hv
  go_enter Tryz.func59, Tryz.ntmps59
  go_wp2
  go_region_with (go_at_call 91; refine (unhide HC _ (Below.refl _ w).drew).mono ?_; rintro e wA ⟨rfl, hbA⟩; have HBA := hide (fr (Below.refl _ w).drew hbA); clear hbA)
  all_goals
    go_wp2
    go_ret
    exact ⟨rfl, unhide HBA⟩

set_option maxHeartbeats 1600000 in
theorem begin_ok (B x : Nat) (s : Est) (L : Ld) (bo ao qo : Option Addr) (ba ca cb : Nat) (v u : Int) (q : Pxs) (w : World) (hh : 0 ≤ s.p.host ∧ s.p.host ≤ 3) (hv : 0 ≤ v ∧ v ≤ 1000000) (hb : bksB s.bs = true) (hm : ¬ 1000000 < nxBal s.p.host v s.bs) (hq : q = ⟨s.p.host, v, 1, nxBal s.p.host v s.bs, u, 0, 0, 0⟩) (hqb : pxB q = true) (hs : Sto w B x s L bo ba ao ca qo cb) :
    Calls Tryz.prog 59 #[.pointer (some ⟨x, 0, none⟩), .int .i64 v, .int .i64 u] w fun e w' => e = .returned (.int .i64 0) ∧ Sto w' B x ⟨s.ss, s.xs, q, s.bs⟩ L bo ba ao ca qo cb ∧ Keep (fun j => j = x) w w' := by
  have h4 := (bksB_parts hb).1
  obtain ⟨e1, e2⟩ := nb_ok (bfC_ok (by omega) hb) (show inB s.p.host 0 3 = true by simp [inB]; omega) (show inB v 0 1000000 = true by simp [inB]; omega) hm
  obtain ⟨n, hn⟩ : ∃ n, nxBal s.p.host v s.bs = n := ⟨_, rfl⟩
  rw [hn] at e1 hq
  have HC : Hid (∀ W, Below w.heap.size w W → Calls Tryz.prog 91 #[.int .i64 s.p.host, .int .i64 v, .slice bo 4 ba] W fun e w' => e = .returned (.tuple #[.int .i64 n, .int .i64 0]) ∧ Below W.heap.size W w') := hide (fun W hW => by
    have := nextBallot_impl s.p.host v bo ba s.bs W (by omega) ((hs.below hW).bks h4)
    rw [e1, e2, h4] at this
    exact this)
  have HP : Hid (∀ W, Calls Tryz.prog 92 #[.int .i64 s.p.host, .int .i64 v, .int .i64 n, .int .i64 u] W fun e w' => e = .returned (.tuple #[pV q, .int .i64 0]) ∧ Below W.heap.size W w') := hide (fun W => by
    have k := pxStart_impl s.p.host v n u W
    have k1 : psP s.p.host v n u = q := by rw [hq] at hqb ⊢; exact if_pos hqb
    have k2 : psC s.p.host v n u = 0 := by rw [hq] at hqb; exact if_pos hqb
    rw [k1, k2] at k
    exact k)
  have HS := hide hs
  obtain ⟨c0, _⟩ := hs.v.px
  obtain ⟨c8, _⟩ := hs.v.rest
  clear hs hb hm h4 e1 e2 hh hv hq hqb hn
  go_enter Tryz.func59, Tryz.ntmps59
  go_wp2
  go_region_with (go_at_call 91; refine (unhide HC _ (Below.refl _ w).drew).mono ?_; rintro e wA ⟨rfl, hbA⟩; have HBA := hide (fr (Below.refl _ w).drew hbA); clear hbA)
  all_goals
    have HSA := hide ((unhide HS).below (unhide HBA))
    clear c0 c8
    obtain ⟨c0, _⟩ := (unhide HSA).v.px
    go_wp2_with fail
    refine (unhide HP _).mono ?_
    rintro e wB ⟨rfl, hbB⟩
    have HBB := hide (fr (unhide HBA) hbB)
    have HSB := hide ((unhide HS).below (unhide HBB))
    clear hbB c0
    obtain ⟨c0, c1, c2, c3, c4, c5, c6, c7⟩ := (unhide HSB).v.px
    have f0 := (unhide HSB).v.free 0
    have f1 := (unhide HSB).v.free 1
    have f2 := (unhide HSB).v.free 2
    have f3 := (unhide HSB).v.free 3
    have f4 := (unhide HSB).v.free 4
    have f5 := (unhide HSB).v.free 5
    have f6 := (unhide HSB).v.free 6
    have f7 := (unhide HSB).v.free 7
    have HF := hide (And.intro ((unhide HSB).try q) ((Keep.of_below (S := fun j => j = x) (unhide HBB)).trans (keep_set8 wB x q)))
    go_wp2
    go_ret
    exact ⟨rfl, (unhide HF).1, (unhide HF).2⟩

end Go.Proofs.YtdfinapjgffjiaaGreatDoor

/- Contract of the method step of the program's ballots. -/
namespace Go.Proofs.YtdfinapjgffjiaaGreatDoor
open Go.RowKit
set_option linter.unusedVariables false
set_option maxRecDepth 100000

theorem pxStep_sto (p : Pxs) (ao : Option Addr) (ca : Nat) (bs : List Bk) (w : World) (h4 : bs.length = 4) (hp : pxB p = true) (hb : bksB bs = true) (hc : Bks w ao bs) :
    Calls Tryz.prog 94 #[pV p, .slice ao 4 ca] w fun e w' => ∃ qo qa c, e = .returned (.tuple #[pV (pxStepP p bs).1, .slice qo 4 qa, .int .i64 c]) ∧ OwnR w' w.heap.size 80 4 (.slice qo 4 qa) 4 (bksV (pxStepP p bs).2) ∧ Below w.heap.size w w' := by
  have k := pxStep_impl p ao ca bs w (by omega) hc
  rw [h4] at k
  refine k.mono ?_
  rintro e w' ⟨qo, qa, he, ho, hk⟩
  obtain ⟨h1, h2, h3⟩ := st_ok (p := p) (xs := bs) (by omega) hp hb
  have hl := pxStep_len p bs
  rw [h4] at hl
  rw [h1, h2, hl] at he
  rw [h2, hl] at ho
  exact ⟨qo, qa, _, he, ho, hk⟩
/-- Behind the step: the store, the block that was. -/
structure StA (w W : World) (B x C : Nat) (s : Est) (L : Ld) (y : Bk) (ro : Option Addr) (ra : Nat) (ao : Option Addr) (ca : Nat) (qo : Option Addr) (cb : Nat) : Prop where
  s : Sto W B x s L ro ra ao ca qo cb
  v : VarB W C 80 y
  k : Keep (fun j => j = x) w W
def difB (a b : Bk) : Bool := !(a.ver == b.ver && (a.mbal == b.mbal && (a.bal == b.bal && a.inp == b.inp)))
theorem difB_ne {a b : Bk} (h : a ≠ b) : difB a b = true := by
  by_cases e1 : a.ver = b.ver
  · by_cases e2 : a.mbal = b.mbal
    · by_cases e3 : a.bal = b.bal
      · by_cases e4 : a.inp = b.inp
        · exact absurd (by cases a; cases b; simp_all) h
        · simp [difB, e4]
      · simp [difB, e3]
    · simp [difB, e2]
  · simp [difB, e1]
theorem field_cases (a b : Bk) : ((a.ver == b.ver) = false ∧ difB a b = true) ∨ ((a.ver == b.ver) = true ∧ (a.mbal == b.mbal) = false ∧ difB a b = true) ∨ ((a.ver == b.ver) = true ∧ (a.mbal == b.mbal) = true ∧ (a.bal == b.bal) = false ∧ difB a b = true) ∨ ((a.ver == b.ver) = true ∧ (a.mbal == b.mbal) = true ∧ (a.bal == b.bal) = true ∧ (a.inp == b.inp) = false ∧ difB a b = true) ∨ ((a.ver == b.ver) = true ∧ (a.mbal == b.mbal) = true ∧ (a.bal == b.bal) = true ∧ (a.inp == b.inp) = true ∧ difB a b = false) := by
  unfold difB
  cases a.ver == b.ver <;> cases a.mbal == b.mbal <;> cases a.bal == b.bal <;> cases a.inp == b.inp <;> simp
theorem difB_eq {a b : Bk} (h : a = b) : difB a b = false := by
  subst h; simp [difB]

set_option maxHeartbeats 1600000 in
theorem step_any (B x : Nat) (s : Est) (L : Ld) (bo ao qo : Option Addr) (ba ca cb : Nat) (w : World) (hp : pxB s.p = true) (hb : bksB s.bs = true) (hs : Sto w B x s L bo ba ao ca qo cb) :
    Calls Tryz.prog 62 #[.pointer (some ⟨x, 0, none⟩)] w fun e w' => e = .returned (.bool (difB (ownK s.p (pxStepP s.p s.bs).2) (ownK s.p s.bs))) ∧ (∃ ro ra, Sto w' B x ⟨s.ss, s.xs, (pxStepP s.p s.bs).1, (pxStepP s.p s.bs).2⟩ L ro ra ao ca qo cb) ∧ Keep (fun j => j = x) w w' := by
  obtain ⟨hh, _⟩ := px_parts hp
  have h4 := (bksB_parts hb).1
  have h4' : (pxStepP s.p s.bs).2.length = 4 := by rw [pxStep_len]; exact h4
  have hho : (pxStepP s.p s.bs).1.host = s.p.host := by
    by_cases h5 : s.p.phase < 5
    · rcases step_kinds (bs := s.bs) hp h5 with ⟨e, hq⟩ | ⟨e, _, hq⟩ | ⟨e, _, hq⟩ <;> rw [hq]
      · exact (pxRd_at _ _).1
      · exact (w1_at _ _).1
    · rw [pxStepP_end s.bs (by obtain ⟨_, _, ⟨h1, h6⟩, _⟩ := px_parts hp; omega)]
  have HC := hide (fun W hW => pxStep_sto s.p bo ba s.bs W h4 hp hb hW)
  obtain ⟨q, hq⟩ : ∃ q, (pxStepP s.p s.bs).1 = q := ⟨_, rfl⟩
  obtain ⟨cs, hcs⟩ : ∃ cs, (pxStepP s.p s.bs).2 = cs := ⟨_, rfl⟩
  rw [hq] at HC hho ⊢
  rw [hcs] at HC h4' ⊢
  obtain ⟨y, hy⟩ : ∃ y, ownK s.p s.bs = y := ⟨_, rfl⟩
  obtain ⟨z, hz⟩ : ∃ z, ownK s.p cs = z := ⟨_, rfl⟩
  have HO1 := hide (fun W hW => own_any B x s L bo ao qo ba ca cb W h4 hh hW)
  have HO2 : Hid (∀ (ro : Option Addr) (ra : Nat) (W : World), Sto W B x ⟨s.ss, s.xs, q, cs⟩ L ro ra ao ca qo cb → Calls Tryz.prog 93 #[.pointer (some ⟨x, 0, none⟩)] W fun e w' => e = .returned (bV z) ∧ Below W.heap.size W w') := hide (fun ro ra W hW => by
    have k := own_any B x ⟨s.ss, s.xs, q, cs⟩ L ro ao qo ra ca cb W h4' (by show 0 ≤ q.host ∧ q.host ≤ 3; rw [hho]; exact hh) hW
    rw [show ownK q cs = z by rw [← hz]; unfold ownK; rw [hho]] at k
    exact k)
  rw [hy] at HO1 ⊢
  rw [hz]
  obtain ⟨r, HR⟩ : ∃ r, Hid (difB z y = r) := ⟨_, hide rfl⟩
  rw [unhide HR]
  have HS := hide hs
  have H4 := hide h4
  clear hs hp hb h4 h4' hh hho hq hcs hy hz
  go_enter Tryz.func62, Tryz.ntmps62
  go_wp2_with fail
  refine (unhide HO1 _ (unhide HS)).mono ?_
  rintro e w1 ⟨rfl, hb1⟩
  have HA := hide (fr hb1 (Joins.below_alloc1 w1 (.cells #[.int .i64 y.ver, .int .i64 y.mbal, .int .i64 y.bal, .int .i64 y.inp] 80)))
  have HV := hide (VarB.new w1 80 y)
  have HN : Hid (¬ w1.heap.size = x) := hide (by have h1 := (unhide HS).v.lt; have h2 := hb1.size; omega)
  clear hb1
  go_upto_region 2 with fail
  revert HA HV HN
  generalize w1.alloc (.cells #[.int .i64 y.ver, .int .i64 y.mbal, .int .i64 y.bal, .int .i64 y.inp] 80) = W1
  generalize w1.heap.size = C
  intro HA HV HN
  go_cut [2] from 6 to 24 (fun c wx => c = .bool false ∧ ∃ ro ra, Hid (StA w wx B x C ⟨s.ss, s.xs, q, cs⟩ L y ro ra ao ca qo cb))
  case first =>
    have HS1 := hide ((unhide HS).below (unhide HA))
    obtain ⟨c0, c1, c2, c3, c4, c5, c6, c7⟩ := (unhide HS1).v.px
    obtain ⟨c8, _⟩ := (unhide HS1).v.rest
    have HBK := hide (((unhide HS1).bks (unhide H4)).below (Below.refl _ W1).drew)
    go_region_with (go_at_call 94; refine (unhide HC _ (unhide HBK)).mono ?_; rintro e wA ⟨ro, ra, cc, rfl, hoA, hbA⟩; have HBA := hide (fr (Below.refl _ W1).drew hbA); have HOA := hide hoA; have HSA := hide ((unhide HS1).below (unhide HBA)); clear hoA hbA c0 c1 c2 c3 c4 c5 c6 c7 c8; obtain ⟨c0, c1, c2, c3, c4, c5, c6, c7⟩ := (unhide HSA).v.px; obtain ⟨c8, _⟩ := (unhide HSA).v.rest; have f0 := (unhide HSA).v.free 0; have f1 := (unhide HSA).v.free 1; have f2 := (unhide HSA).v.free 2; have f3 := (unhide HSA).v.free 3; have f4 := (unhide HSA).v.free 4; have f5 := (unhide HSA).v.free 5; have f6 := (unhide HSA).v.free 6; have f7 := (unhide HSA).v.free 7; have f8 := (unhide HSA).v.free 8)
    all_goals
      have HW := hide (Sto.step (unhide HS1) (unhide HBA) (by exact unhide HOA) q)
      have HV1 := hide (((unhide HV).keep (unhide HW).2 (unhide HN)))
      have HK1 := hide ((Keep.of_below (S := fun j => j = x) (unhide HA)).trans (unhide HW).2)
      go_wp2_with fail
      go_meet
      exact ⟨rfl, ro, ra, hide ⟨(unhide HW).1, unhide HV1, unhide HK1⟩⟩
  case rest =>
    obtain ⟨rfl, ro, ra, HX⟩ := hcut
    rename World => W2
    obtain ⟨v0, v1, v2, v3⟩ := (unhide HX).v.cells
    rcases field_cases z y with ⟨b1, hr⟩ | ⟨b1, b2, hr⟩ | ⟨b1, b2, b3, hr⟩ | ⟨b1, b2, b3, b4, hr⟩ | ⟨b1, b2, b3, b4, hr⟩
    all_goals
      replace hr := hide (hr.symm.trans (unhide HR))
      go_wp2
      go_region_with (go_at_call 93; refine (unhide HO2 ro ra _ ((unhide HX).s.below (Below.refl _ W2).drew)).mono ?_; rintro e wB ⟨rfl, hbB⟩; have HBB := hide (fr (Below.refl _ W2).drew hbB); clear hbB v0 v1 v2 v3; obtain ⟨v0, v1, v2, v3⟩ := ((unhide HX).v.below (unhide HBB)).cells)
      all_goals
        have HF := hide (And.intro ((unhide HX).s.below (unhide HBB)) ((unhide HX).k.trans (Keep.of_below (unhide HBB))))
        go_wp2
        go_ret
        exact ⟨ret_bool (unhide hr), ⟨ro, ra, (unhide HF).1⟩, (unhide HF).2⟩

end Go.Proofs.YtdfinapjgffjiaaGreatDoor
