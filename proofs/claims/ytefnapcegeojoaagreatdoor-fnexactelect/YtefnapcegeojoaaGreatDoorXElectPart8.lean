import Derived.Test.YtefnapcegeojoaaGreatDoorRows
import Derived.Test.YtefnapcegeojoaaGreatDoorXElectPart1
import Derived.Test.YtefnapcegeojoaaGreatDoorXElectPart5
import Derived.Test.YtefnapcegeojoaaGreatDoorXElectPart7
import Derived.WalkKit
import Derived.WalkSpells
import Derived.KernelRfl
import Derived.BigQuiet
import Derived.Deep.QuietTactic
import Derived.Deep.RegionWith
import Derived.Deep.RegionHeld3
import Derived.Deep.CutRange
import Derived.Test.YtefnapcegeojoaaGreatDoorXElectPart3
import Derived.Test.YtefnapcegeojoaaGreatDoorXElectPart6
import Derived.Defers
import Derived.Recover
import Derived.Test.YtefnapcegeojoaaGreatDoorXElectPart2
import Derived.Test.YtefnapcegeojoaaGreatDoorXElectPart4
import Derived.Deep.MidRow
import Derived.WalkMore

namespace Go.Proofs.YtefnapcegeojoaaGreatDoor
open Go.RowKit
set_option linter.unusedVariables false
set_option maxRecDepth 100000

theorem infoK : (Tryz.prog.info? 96).map (fun i => (i.zero, i.size, i.bytes)) = some (some (.agg #[.int .i64 0, .int .i64 0, .int .i64 0, .int .i64 0]), 4, 32) := by kernel_rfl

structure StAt (w W : World) (x : Nat) (p : Pxs) (qo : Option Addr) (qa : Nat) (bs : List Bk) : Prop where
  a : PxAt w W x p
  o : OwnR W (x + 2) 96 4 (.slice qo 4 qa) 4 (bksV bs)
theorem StAt.below {w W W' : World} {x : Nat} {p : Pxs} {qo : Option Addr} {qa : Nat} {bs : List Bk} (h : StAt w W x p qo qa bs) (hb : Below W.heap.size W W') : StAt w W' x p qo qa bs := ⟨h.a.below hb, h.o.below hb⟩
theorem StAt.out {w W : World} {x : Nat} {p : Pxs} {qo : Option Addr} {qa : Nat} {bs : List Bk} (h : StAt w W x p qo qa bs) (u0 u1 u2 u3 u4 u5 u6 u7 : Value) :
    OwnR ((((((((W.setCell ⟨x + 1, 0, none⟩ u0).setCell ⟨x + 1, 1, none⟩ u1).setCell ⟨x + 1, 2, none⟩ u2).setCell ⟨x + 1, 3, none⟩ u3).setCell ⟨x + 1, 4, none⟩ u4).setCell ⟨x + 1, 5, none⟩ u5).setCell ⟨x + 1, 6, none⟩ u6).setCell ⟨x + 1, 7, none⟩ u7) w.heap.size 96 4 (.slice qo 4 qa) 4 (bksV bs) ∧
    Below w.heap.size w ((((((((W.setCell ⟨x + 1, 0, none⟩ u0).setCell ⟨x + 1, 1, none⟩ u1).setCell ⟨x + 1, 2, none⟩ u2).setCell ⟨x + 1, 3, none⟩ u3).setCell ⟨x + 1, 4, none⟩ u4).setCell ⟨x + 1, 5, none⟩ u5).setCell ⟨x + 1, 6, none⟩ u6).setCell ⟨x + 1, 7, none⟩ u7) := by
  have hg := h.a.ge
  refine ⟨?_, below8 h.a.k (by omega) _ _ _ _ _ _ _ _⟩
  exact OwnR.base ((((((((h.o.setCell (a := ⟨x + 1, 0, none⟩) (by simp) u0).setCell (a := ⟨x + 1, 1, none⟩) (by simp) u1).setCell (a := ⟨x + 1, 2, none⟩) (by simp) u2).setCell (a := ⟨x + 1, 3, none⟩) (by simp) u3).setCell (a := ⟨x + 1, 4, none⟩) (by simp) u4).setCell (a := ⟨x + 1, 5, none⟩) (by simp) u5).setCell (a := ⟨x + 1, 6, none⟩) (by simp) u6).setCell (a := ⟨x + 1, 7, none⟩) (by simp) u7) (by omega)
theorem StAt.ph {w W : World} {x : Nat} {p : Pxs} {qo : Option Addr} {qa : Nat} {bs : List Bk} (h : StAt w W x p qo qa bs) (n : Int) : StAt w (W.setCell ⟨x, 2, none⟩ (.int .i64 n)) x { p with phase := n } qo qa bs :=
  ⟨h.a.set 2 _ _ (h.a.v.set2 n), h.o.setCell (a := ⟨x, 2, none⟩) (by simp) _⟩
theorem StAt.bks {w W : World} {x : Nat} {p : Pxs} {qo : Option Addr} {qa : Nat} {bs : List Bk} (h : StAt w W x p qo qa bs) (h4 : bs.length = 4) : Bks W qo bs := by
  exact ownBks (B := x + 2) (e := 96) (cap := qa) (by rw [h4]; exact h.o)
theorem own_put {w : World} {B t n cap g : Nat} {bs : List Bk} (h : w.ownsRow B t 4 (.slice (some ⟨g, 0, none⟩) n cap) n (bksV bs)) {k : Nat} (hk : k < bs.length) (y : Bk) :
    ((((w.setCell ⟨g, k * 4, none⟩ (.int .i64 y.ver)).setCell ⟨g, k * 4 + 1, none⟩ (.int .i64 y.mbal)).setCell ⟨g, k * 4 + 2, none⟩ (.int .i64 y.bal)).setCell ⟨g, k * 4 + 3, none⟩ (.int .i64 y.inp)).ownsRow B t 4 (.slice (some ⟨g, 0, none⟩) n cap) n (bksV (bs.set k y)) := by
  rw [← bksV_set hk y]
  have h3 := stored3 h (k * 4) (k * 4 + 1) (k * 4 + 2) (.int .i64 y.ver) (.int .i64 y.mbal) (.int .i64 y.bal)
  exact (h3.stored (k * 4 + 3) (.int .i64 y.inp)).1

theorem StAt.put {w W : World} {x : Nat} {p : Pxs} {g qa : Nat} {bs : List Bk} (h : StAt w W x p (some ⟨g, 0, none⟩) qa bs) {k : Nat} (hk : k < bs.length) (y : Bk) :
    StAt w ((((W.setCell ⟨g, k * 4, none⟩ (.int .i64 y.ver)).setCell ⟨g, k * 4 + 1, none⟩ (.int .i64 y.mbal)).setCell ⟨g, k * 4 + 2, none⟩ (.int .i64 y.bal)).setCell ⟨g, k * 4 + 3, none⟩ (.int .i64 y.inp)) x p (some ⟨g, 0, none⟩) qa (bs.set k y) := by
  have hg := (h.o.ge g (own_of (by omega) rfl)).1
  have hx := h.a.ge
  have kk : Keep (fun j => j = g) W ((((W.setCell ⟨g, k * 4, none⟩ (.int .i64 y.ver)).setCell ⟨g, k * 4 + 1, none⟩ (.int .i64 y.mbal)).setCell ⟨g, k * 4 + 2, none⟩ (.int .i64 y.bal)).setCell ⟨g, k * 4 + 3, none⟩ (.int .i64 y.inp)) :=
    ((((Keep.refl (fun j => j = g) W).setCell (p := ⟨g, k * 4, none⟩) rfl _).setCell (p := ⟨g, k * 4 + 1, none⟩) rfl _).setCell (p := ⟨g, k * 4 + 2, none⟩) rfl _).setCell (p := ⟨g, k * 4 + 3, none⟩) rfl _
  refine ⟨⟨h.a.v.keep kk (by show ¬ x = g; omega), h.a.r.keep kk (by show ¬ x + 1 = g; omega), ?_, h.a.ge⟩, ?_⟩
  · exact below4 h.a.k (by omega) _ _ _ _ _ _ _ _
  · rcases h.o with ⟨h0, _, _⟩ | ⟨h0, ho⟩
    · omega
    · exact .inr ⟨h0, own_put ho hk y⟩
theorem StAt.at {w W : World} {x : Nat} {p : Pxs} {qo : Option Addr} {qa : Nat} {bs : List Bk} (h : StAt w W x p qo qa bs) : ∃ g, qo = some ⟨g, 0, none⟩ ∧ x + 2 ≤ g ∧ g < W.heap.size := by
  rcases h.o with ⟨h0, _, _⟩ | ⟨h0, ho⟩
  · omega
  · obtain ⟨g, cap, cur, e, hB, hg⟩ := own_form h0 ho
    simp only [Value.slice.injEq, true_and] at e
    exact ⟨g, e.1, hB, (Array.getElem?_eq_some_iff.1 hg).1⟩

theorem row_free {W : World} {B t n cap g : Nat} {xs : List Value} (h : OwnR W B t 4 (.slice (some ⟨g, 0, none⟩) (n + 1) cap) (n + 1) xs) : (∀ i, W.frozen? ⟨g, i, none⟩ = false) ∧ True ∧ True ∧ True := by
  rcases h with ⟨h0, _, _⟩ | ⟨h0, ho⟩
  · omega
  · obtain ⟨g', cap', cur, e, hB, hg⟩ := own_form h0 ho
    simp only [Value.slice.injEq, Option.some.injEq, Addr.mk.injEq, and_true] at e
    obtain ⟨rfl, _⟩ := e
    exact ⟨fun i => Joins.unfrozen_of_block hg i, trivial, trivial, trivial⟩
theorem step_fin {w W' : World} {p p' : Pxs} {bs bs' : List Bk} {c : Int} {qo : Option Addr} {qa : Nat} (hE : pxStepP p bs = (p', bs')) (hC : stEnd p = c) (hO : OwnR W' w.heap.size 96 4 (.slice qo 4 qa) 4 (bksV bs') ∧ Below w.heap.size w W') :
    ∃ qo' qa', Ending.returned (.tuple #[pV p', .slice qo 4 qa, .int .i64 c]) = .returned (.tuple #[pV (pxStepP p bs).1, .slice qo' 4 qa', .int .i64 (stEnd p)]) ∧ OwnR W' w.heap.size 96 4 (.slice qo' 4 qa') 4 (bksV (pxStepP p bs).2) ∧ Below w.heap.size w W' :=
  ⟨qo, qa, by rw [hE, hC], by rw [hE]; exact hO.1, hO.2⟩

set_option maxHeartbeats 6400000 in
theorem l05Step_any (p : Pxs) (ao : Option Addr) (n cap : Nat) (bs : List Bk) (w : World) (hn : bs.length = n) (h4 : n = 4) (hh : 0 ≤ p.host ∧ p.host ≤ 3) (hx : 0 ≤ p.next ∧ p.next ≤ 4) (hr : Bks w ao bs) :
    Calls Tryz.prog 88 #[pV p, .slice ao n cap] w fun e w' => ∃ qo qa, e = .returned (.tuple #[pV (pxStepP p bs).1, .slice qo 4 qa, .int .i64 (stEnd p)]) ∧ OwnR w' w.heap.size 96 4 (.slice qo 4 qa) 4 (bksV (pxStepP p bs).2) ∧ Below w.heap.size w w' := by
  have H0 : Hid (PxAt w ((w.alloc (.cells #[.int .i64 p.host, .int .i64 p.ver, .int .i64 p.phase, .int .i64 p.ballot, .int .i64 p.value, .int .i64 p.next, .int .i64 p.best, .int .i64 p.bestBal] 63)).alloc (.cells #[.int .i64 0, .int .i64 0, .int .i64 0, .int .i64 0, .int .i64 0, .int .i64 0, .int .i64 0, .int .i64 0] 63)) w.heap.size p) :=
    hide ⟨(VarP.new w _ p).below (Joins.below_alloc1 _ _), by
      have := VarP.new0 (w.alloc (.cells #[.int .i64 p.host, .int .i64 p.ver, .int .i64 p.phase, .int .i64 p.ballot, .int .i64 p.value, .int .i64 p.next, .int .i64 p.best, .int .i64 p.bestBal] 63)) 63
      simp only [World.size_alloc] at this
      exact this, Joins.below_alloc2 _ _ _, Nat.le_refl _⟩
  have HR := hide hr
  clear hr
  subst h4
  have HN := hide hn
  clear hn
  obtain ⟨i0, hi, hz0, hz1, hz2⟩ := info_parts infoK
  go_enter Tryz.func88, Tryz.ntmps88
  go_upto_region 1 with fail
  have hs0 : Hid (((w.alloc (.cells #[.int .i64 p.host, .int .i64 p.ver, .int .i64 p.phase, .int .i64 p.ballot, .int .i64 p.value, .int .i64 p.next, .int .i64 p.best, .int .i64 p.bestBal] 63)).alloc (.cells #[.int .i64 0, .int .i64 0, .int .i64 0, .int .i64 0, .int .i64 0, .int .i64 0, .int .i64 0, .int .i64 0] 63)).heap.size = w.heap.size + 2) := hide (by simp)
  revert H0 hs0
  generalize (w.alloc (.cells #[.int .i64 p.host, .int .i64 p.ver, .int .i64 p.phase, .int .i64 p.ballot, .int .i64 p.value, .int .i64 p.next, .int .i64 p.best, .int .i64 p.bestBal] 63)).alloc (.cells #[.int .i64 0, .int .i64 0, .int .i64 0, .int .i64 0, .int .i64 0, .int .i64 0, .int .i64 0, .int .i64 0] 63) = W0
  intro H0 hs0
  go_upto_region 2 with (at_builtin; refine wpList_append_fresh rfl _ _ 64 rfl 96 i0 (.agg #[.int .i64 0, .int .i64 0, .int .i64 0, .int .i64 0]) 4 32 Tryz.underlying64 hi hz0 hz1 hz2 rfl (by omega) rfl ao 4 cap (bksV bs) rfl (by rw [bksV_length, unhide HN]) (fun _ => Bks.src ((unhide HR).below (by repeat (first | exact (unhide H0).k | refine belowAl ?_ _))) (by rw [unhide HN]; omega)) (by unfold maxLen; omega) (by omega) ?_; intro qo qa W1 ho hg)
  have E1 : Hid (StAt w W1 w.heap.size p qo qa bs) := hide ⟨(unhide H0).below (belowGr (belowAl (Below.refl _ _) _) hg), ho.base (by have := unhide hs0; simp; omega)⟩
  clear ho hg H0 hs0 HR
  obtain ⟨g, rfl, hg2, hgl⟩ := (unhide E1).at
  obtain ⟨c0, c1, c2, c3, c4, c5, c6, c7⟩ := (unhide E1).a.v.cells
  obtain ⟨f0, f1, f2, f3, f4, f5, f6, f7⟩ := (unhide E1).a.v.free
  obtain ⟨r0, r1, r2, r3, r4, r5, r6, r7⟩ := (unhide E1).a.r.cells
  obtain ⟨s0, s1, s2, s3, s4, s5, s6, s7⟩ := (unhide E1).a.r.free
  by_cases h56 : p.phase = 5 ∨ p.phase = 6
  · have HE : Hid (pxStepP p bs = (p, bs) ∧ stEnd p = 15) := hide ⟨pxStepP_end bs h56, if_pos h56⟩
    have HO := hide (fun u0 u1 u2 u3 u4 u5 u6 u7 => (unhide E1).out u0 u1 u2 u3 u4 u5 u6 u7)
    rcases h56 with h5 | h6
    · have b5 : (p.phase == 5) = true := by simp [h5]
      clear h5
      go_wp2
      exact bodyPost_ret (v := .tuple #[pV p, .slice (some ⟨g, 0, none⟩) 4 qa, .int .i64 15]) (by simp [results, Tryz.results88, go_sem, r0, r1, r2, r3, r4, r5, r6, r7]) rfl (step_fin (unhide HE).1 (unhide HE).2 (unhide HO _ _ _ _ _ _ _ _))
    · have b5 : (p.phase == 5) = false := by simp [h6]
      have b6 : (p.phase == 6) = true := by simp [h6]
      clear h6
      go_wp2
      exact bodyPost_ret (v := .tuple #[pV p, .slice (some ⟨g, 0, none⟩) 4 qa, .int .i64 15]) (by simp [results, Tryz.results88, go_sem, r0, r1, r2, r3, r4, r5, r6, r7]) rfl (step_fin (unhide HE).1 (unhide HE).2 (unhide HO _ _ _ _ _ _ _ _))
  have HE0 : Hid (stEnd p = 0) := hide (if_neg h56)
  have n5 : (p.phase == 5) = false := by simp; exact fun h => h56 (.inl h)
  have n6 : (p.phase == 6) = false := by simp; exact fun h => h56 (.inr h)
  by_cases h24 : p.phase = 2 ∨ p.phase = 4
  · have HE : Hid (pxStepP p bs = (pxRd p bs, bs)) := hide (pxStepP_rd bs h24)
    clear h56
    have HB := hide ((unhide E1).bks (unhide HN))
    rcases h24 with h2 | h4
    · have b2 : (p.phase == 2) = true := by simp [h2]
      clear h2
      go_wp2_with fail
      refine (l05Read_any p (some ⟨g, 0, none⟩) 4 qa bs _ (unhide HN) rfl hh hx (unhide HB)).mono ?_
      rintro e W2 ⟨rfl, hb⟩
      have E2 := hide ((unhide E1).below hb)
      clear hb c0 c1 c2 c3 c4 c5 c6 c7 f0 f1 f2 f3 f4 f5 f6 f7 r0 r1 r2 r3 r4 r5 r6 r7 s0 s1 s2 s3 s4 s5 s6 s7
      obtain ⟨r0, r1, r2, r3, r4, r5, r6, r7⟩ := (unhide E2).a.r.cells
      obtain ⟨s0, s1, s2, s3, s4, s5, s6, s7⟩ := (unhide E2).a.r.free
      have HO := hide (fun u0 u1 u2 u3 u4 u5 u6 u7 => (unhide E2).out u0 u1 u2 u3 u4 u5 u6 u7)
      go_wp2
      exact bodyPost_ret (v := .tuple #[pV (pxRd p bs), .slice (some ⟨g, 0, none⟩) 4 qa, .int .i64 0]) (by simp [results, Tryz.results88, go_sem, r0, r1, r2, r3, r4, r5, r6, r7]) rfl (step_fin (unhide HE) (unhide HE0) (unhide HO _ _ _ _ _ _ _ _))
    · have b2 : (p.phase == 2) = false := by simp [h4]
      have b4 : (p.phase == 4) = true := by simp [h4]
      clear h4
      go_wp2_with fail
      refine (l05Read_any p (some ⟨g, 0, none⟩) 4 qa bs _ (unhide HN) rfl hh hx (unhide HB)).mono ?_
      rintro e W2 ⟨rfl, hb⟩
      have E2 := hide ((unhide E1).below hb)
      clear hb c0 c1 c2 c3 c4 c5 c6 c7 f0 f1 f2 f3 f4 f5 f6 f7 r0 r1 r2 r3 r4 r5 r6 r7 s0 s1 s2 s3 s4 s5 s6 s7
      obtain ⟨r0, r1, r2, r3, r4, r5, r6, r7⟩ := (unhide E2).a.r.cells
      obtain ⟨s0, s1, s2, s3, s4, s5, s6, s7⟩ := (unhide E2).a.r.free
      have HO := hide (fun u0 u1 u2 u3 u4 u5 u6 u7 => (unhide E2).out u0 u1 u2 u3 u4 u5 u6 u7)
      go_wp2
      exact bodyPost_ret (v := .tuple #[pV (pxRd p bs), .slice (some ⟨g, 0, none⟩) 4 qa, .int .i64 0]) (by simp [results, Tryz.results88, go_sem, r0, r1, r2, r3, r4, r5, r6, r7]) rfl (step_fin (unhide HE) (unhide HE0) (unhide HO _ _ _ _ _ _ _ _))
  have n2 : (p.phase == 2) = false := by simp; exact fun h => h24 (.inl h)
  have n4 : (p.phase == 4) = false := by simp; exact fun h => h24 (.inr h)
  have HE : Hid (pxStepP p bs = (if pxNo p (pxOwn p bs) then ({ p with phase := 6 }, bs) else (pxW1 p (pxOwn p bs), bs.set p.host.toNat (pxW2 p (pxOwn p bs))))) := hide (by unfold pxStepP; rw [if_neg h56, if_neg h24])
  clear h56 h24
  obtain ⟨k, hk⟩ : ∃ k : Nat, p.host = k := ⟨p.host.toNat, by omega⟩
  have hk4 : k < 4 := by omega
  have hk5 : (k : Int) < 4 := by omega
  have hk6 : (0 : Int) ≤ (k : Int) := by omega
  have hkl : k < bs.length := by have := unhide HN; omega
  rw [show p.host.toNat = k by omega] at HE
  have HOW : Hid (pxOwn p bs = bkOf (bs.getD k bk0) p.ver) := hide (by unfold pxOwn; rw [show p.host.toNat = k by omega])
  obtain ⟨b', off', eb, _, g0, g1, g2, g3⟩ := ((unhide E1).bks (unhide HN)).get k hkl
  simp only [Option.some.injEq, Addr.mk.injEq, and_true] at eb
  obtain ⟨rfl, rfl⟩ := eb
  simp only [Nat.zero_add] at g0 g1 g2 g3
  rw [hk] at c0
  revert HOW g0 g1 g2 g3
  generalize bs.getD k bk0 = y
  intro HOW g0 g1 g2 g3
  have hxl : w.heap.size < W1.heap.size := (unhide E1).a.v.lt
  have hxl1 : w.heap.size + 1 < W1.heap.size := (unhide E1).a.r.lt
  have hxn : w.heap.size ≠ W1.heap.size := by omega
  have hxn' : W1.heap.size ≠ w.heap.size := by omega
  have hgn : g ≠ W1.heap.size := by omega
  have hgn' : W1.heap.size ≠ g := by omega
  clear hkl
  go_upto_region 9 with fail
  go_cut [8] from 14 to 35 (fun c wx => ∃ C : Nat, c = .pointer (some ⟨C, 0, none⟩) ∧ Hid (Got W1 wx C 96 (bkOf y p.ver)))
  case first =>
    go_region_held3 (fun w' => w'.cell? ⟨w.heap.size, 0, none⟩ = some (.int .i64 (k : Int)) ∧ w'.cell? ⟨w.heap.size, 1, none⟩ = some (.int .i64 p.ver) ∧ w'.cell? ⟨g, k * 4, none⟩ = some (.int .i64 y.ver) ∧ w'.cell? ⟨g, k * 4 + 1, none⟩ = some (.int .i64 y.mbal) ∧ w'.cell? ⟨g, k * 4 + 2, none⟩ = some (.int .i64 y.bal) ∧ w'.cell? ⟨g, k * 4 + 3, none⟩ = some (.int .i64 y.inp)) (go_keep)
      ((go_at_call 121; refine (l05Of_any y p.ver _).mono ?_; rintro e w2 ⟨rfl, hb2⟩; (first | (have hv2 : VarB w2 W1.heap.size 96 bk0 := (by exact ((VarB.new0 W1 _).below ((Below.refl _ _).drew)).below hb2); obtain ⟨x0, x1, x2, x3⟩ := hv2.cells; obtain ⟨y0, y1, y2, y3⟩ := hv2.free; have HB2 : Hid (Below W1.heap.size W1 w2) := (by exact hide (fr (Joins.below_alloc1 W1 _).drew hb2)); have HV2 := hide hv2; clear hv2 hb2) | (have HB2 : Hid (Below W1.heap.size W1 w2) := (by exact hide (fr ((Below.refl _ W1).drew) hb2)); clear hb2)); have m0 := ((unhide HB2).cell (p := ⟨w.heap.size, 0, none⟩) hxl).trans c0; have m1 := ((unhide HB2).cell (p := ⟨w.heap.size, 1, none⟩) hxl).trans c1; have m2 := ((unhide HB2).cell (p := ⟨g, k * 4, none⟩) hgl).trans g0; have m3 := ((unhide HB2).cell (p := ⟨g, k * 4 + 1, none⟩) hgl).trans g1; have m4 := ((unhide HB2).cell (p := ⟨g, k * 4 + 2, none⟩) hgl).trans g2; have m5 := ((unhide HB2).cell (p := ⟨g, k * 4 + 3, none⟩) hgl).trans g3))
    all_goals
      go_wp2_with fail
      go_meet
      first
        | exact ⟨_, rfl, hide (Got.set bk0 (unhide HB2) (unhide HV2) (Nat.le_refl _))⟩
        | exact ⟨_, rfl, hide (Got.top _ _ (unhide HB2))⟩
  case rest =>
    obtain ⟨C, rfl, HG⟩ := hcut
    rename World => W2
    have E2 := hide ((unhide E1).below (unhide HG).k)
    have hCg : W1.heap.size ≤ C := (unhide HG).gt
    have hC0 : C ≠ w.heap.size := by omega
    have hC0' : w.heap.size ≠ C := by omega
    have hC1 : C ≠ w.heap.size + 1 := by omega
    have hC1' : w.heap.size + 1 ≠ C := by omega
    clear c0 c1 c2 c3 c4 c5 c6 c7 f0 f1 f2 f3 f4 f5 f6 f7 r0 r1 r2 r3 r4 r5 r6 r7 s0 s1 s2 s3 s4 s5 s6 s7 g0 g1 g2 g3 hxn hxn' hgn hgn' hk4
    obtain ⟨c0, c1, c2, c3, c4, c5, c6, c7⟩ := (unhide E2).a.v.cells
    obtain ⟨f0, f1, f2, f3, f4, f5, f6, f7⟩ := (unhide E2).a.v.free
    obtain ⟨r0, r1, r2, r3, r4, r5, r6, r7⟩ := (unhide E2).a.r.cells
    obtain ⟨s0, s1, s2, s3, s4, s5, s6, s7⟩ := (unhide E2).a.r.free
    obtain ⟨v0, v1, v2, v3⟩ := (unhide HG).v.cells
    rw [unhide HOW] at HE
    have HG2 := HG
    revert HE v0 v1 v2 v3 HG2
    clear HG HOW
    generalize bkOf y p.ver = z
    intro HE v0 v1 v2 v3 HG2
    have HK := hide hk
    by_cases ha : pxNo p z
    · have HEE : Hid (pxStepP p bs = ({ p with phase := 6 }, bs)) := hide ((unhide HE).trans (if_pos ha))
      have HO := hide (fun u0 u1 u2 u3 u4 u5 u6 u7 => ((unhide E2).ph 6).out u0 u1 u2 u3 u4 u5 u6 u7)
      clear hk
      by_cases q1 : p.ver < z.ver
      · clear ha
        go_wp2
        exact bodyPost_ret (v := .tuple #[pV { p with phase := 6 }, .slice (some ⟨g, 0, none⟩) 4 qa, .int .i64 0]) (by simp [results, Tryz.results88, go_sem, r0, r1, r2, r3, r4, r5, r6, r7]) rfl (step_fin (unhide HEE) (unhide HE0) (unhide HO _ _ _ _ _ _ _ _))
      by_cases q2 : p.ballot < z.mbal
      · clear ha
        go_wp2
        exact bodyPost_ret (v := .tuple #[pV { p with phase := 6 }, .slice (some ⟨g, 0, none⟩) 4 qa, .int .i64 0]) (by simp [results, Tryz.results88, go_sem, r0, r1, r2, r3, r4, r5, r6, r7]) rfl (step_fin (unhide HEE) (unhide HE0) (unhide HO _ _ _ _ _ _ _ _))
      by_cases q3 : p.phase = 1
      · have q4 : z.mbal = p.ballot := by
          rcases ha with h | h | h | h
          · exact absurd h q1
          · exact absurd h q2
          · exact h.2
          · rw [q3] at h; exact absurd h.1 (by decide)
        have q4b : (z.mbal == p.ballot) = true := by simp [q4]
        have q3b : (p.phase == 1) = true := by simp [q3]
        clear ha q4 q3
        go_wp2
        exact bodyPost_ret (v := .tuple #[pV { p with phase := 6 }, .slice (some ⟨g, 0, none⟩) 4 qa, .int .i64 0]) (by simp [results, Tryz.results88, go_sem, r0, r1, r2, r3, r4, r5, r6, r7]) rfl (step_fin (unhide HEE) (unhide HE0) (unhide HO _ _ _ _ _ _ _ _))
      · have q5 : p.phase = 3 ∧ z.mbal ≠ p.ballot := by
          rcases ha with h | h | h | h
          · exact absurd h q1
          · exact absurd h q2
          · exact absurd h.1 q3
          · exact h
        obtain ⟨q5, q6⟩ := q5
        have q6b : (z.mbal == p.ballot) = false := by simp [q6]
        have q6c : (z.mbal != p.ballot) = true := by simp [q6]
        have q3b : (p.phase == 1) = false := by simp [q3]
        have q5b : (p.phase == 3) = true := by simp [q5]
        clear ha q6 q3 q5
        go_wp2
        exact bodyPost_ret (v := .tuple #[pV { p with phase := 6 }, .slice (some ⟨g, 0, none⟩) 4 qa, .int .i64 0]) (by simp [results, Tryz.results88, go_sem, r0, r1, r2, r3, r4, r5, r6, r7]) rfl (step_fin (unhide HEE) (unhide HE0) (unhide HO _ _ _ _ _ _ _ _))
    · have HEE : Hid (pxStepP p bs = (pxW1 p z, bs.set k (pxW2 p z))) := hide ((unhide HE).trans (if_neg ha))
      clear HE hk
      have q1 : ¬ p.ver < z.ver := fun h => ha (.inl h)
      have q2 : ¬ p.ballot < z.mbal := fun h => ha (.inr (.inl h))
      have q3 : ¬ (p.phase = 1 ∧ z.mbal = p.ballot) := fun h => ha (.inr (.inr (.inl h)))
      have q4 : ¬ (p.phase = 3 ∧ z.mbal ≠ p.ballot) := fun h => ha (.inr (.inr (.inr h)))
      clear ha
      by_cases t1 : p.phase = 1
      · have u1 : (p.phase == 1) = true := by simp [t1]
        have u2 : (z.mbal == p.ballot) = false := by simp; exact fun h => q3 ⟨t1, h⟩
        have u3 : (p.phase == 3) = false := by simp [t1]
        clear q3 q4 t1
        go_wp2_with fail
        refine (l05Write_any p z _).mono ?_
        rintro e W3 ⟨rfl, hb⟩
        have E3 := hide ((unhide E2).below hb)
        have HB3 := hide hb
        clear hb c0 c1 c2 c3 c4 c5 c6 c7 f0 f1 f2 f3 f4 f5 f6 f7 r0 r1 r2 r3 r4 r5 r6 r7 s0 s1 s2 s3 s4 s5 s6 s7 v0 v1 v2 v3
        generalize pxW1 p z = P1 at *
        generalize pxW2 p z = B1 at *
        have E4 := hide ((unhide E3).below (Joins.below_alloc2 W3 (.cells #[.int .i64 P1.host, .int .i64 P1.ver, .int .i64 P1.phase, .int .i64 P1.ballot, .int .i64 P1.value, .int .i64 P1.next, .int .i64 P1.best, .int .i64 P1.bestBal] 63) (.cells #[.int .i64 B1.ver, .int .i64 B1.mbal, .int .i64 B1.bal, .int .i64 B1.inp] 96)))
        have VP : Hid (VarP ((W3.alloc (.cells #[.int .i64 P1.host, .int .i64 P1.ver, .int .i64 P1.phase, .int .i64 P1.ballot, .int .i64 P1.value, .int .i64 P1.next, .int .i64 P1.best, .int .i64 P1.bestBal] 63)).alloc (.cells #[.int .i64 B1.ver, .int .i64 B1.mbal, .int .i64 B1.bal, .int .i64 B1.inp] 96)) W3.heap.size 63 P1) := hide ((VarP.new W3 _ P1).below (Joins.below_alloc1 _ _))
        have VB : Hid (VarB ((W3.alloc (.cells #[.int .i64 P1.host, .int .i64 P1.ver, .int .i64 P1.phase, .int .i64 P1.ballot, .int .i64 P1.value, .int .i64 P1.next, .int .i64 P1.best, .int .i64 P1.bestBal] 63)).alloc (.cells #[.int .i64 B1.ver, .int .i64 B1.mbal, .int .i64 B1.bal, .int .i64 B1.inp] 96)) (W3.heap.size + 1) 96 B1) := hide (by
          have := VarB.new (W3.alloc (.cells #[.int .i64 P1.host, .int .i64 P1.ver, .int .i64 P1.phase, .int .i64 P1.ballot, .int .i64 P1.value, .int .i64 P1.next, .int .i64 P1.best, .int .i64 P1.bestBal] 63)) 96 B1
          simp only [World.size_alloc] at this
          exact this)
        go_upto_region 14 with fail
        revert E4 VP VB
        generalize (W3.alloc (.cells #[.int .i64 P1.host, .int .i64 P1.ver, .int .i64 P1.phase, .int .i64 P1.ballot, .int .i64 P1.value, .int .i64 P1.next, .int .i64 P1.best, .int .i64 P1.bestBal] 63)).alloc (.cells #[.int .i64 B1.ver, .int .i64 B1.mbal, .int .i64 B1.bal, .int .i64 B1.inp] 96) = W4
        have hD : W1.heap.size ≤ W3.heap.size := Nat.le_trans (unhide HG2).k.size (unhide HB3).size
        revert hD
        generalize W3.heap.size = D
        intro hD E4 VP VB
        have hg4 := (unhide E4).o.ge g (own_of (by omega) rfl)
        obtain ⟨c0, c1, c2, c3, c4, c5, c6, c7⟩ := (unhide E4).a.v.cells
        rw [unhide HK] at c0
        obtain ⟨x0, x1, x2, x3⟩ := (unhide VB).cells
        obtain ⟨y0, y1, y2, y3, y4, y5, y6, y7⟩ := (unhide VP).cells
        obtain ⟨b', off', eb, _, g0, g1, g2, g3⟩ := ((unhide E4).bks (unhide HN)).get k (by have := unhide HN; omega)
        simp only [Option.some.injEq, Addr.mk.injEq, and_true] at eb
        obtain ⟨rfl, rfl⟩ := eb
        simp only [Nat.zero_add] at g0 g1 g2 g3
        obtain ⟨z0, z1, z2, z3⟩ := row_free (unhide E4).o
        have E5 := hide ((unhide E4).put (k := k) (by have := unhide HN; omega) B1)
        obtain ⟨r0, r1, r2, r3, r4, r5, r6, r7⟩ := (unhide E5).a.r.cells
        obtain ⟨s0, s1, s2, s3, s4, s5, s6, s7⟩ := (unhide E5).a.r.free
        have nD : D ≠ g := by omega
        have nD' : g ≠ D := by omega
        go_upto_region 15 with fail
        have VP5 := hide ((unhide VP).keep (((((Keep.refl (fun j => j = g) W4).setCell (p := ⟨g, k * 4, none⟩) rfl (.int .i64 B1.ver)).setCell (p := ⟨g, k * 4 + 1, none⟩) rfl (.int .i64 B1.mbal)).setCell (p := ⟨g, k * 4 + 2, none⟩) rfl (.int .i64 B1.bal)).setCell (p := ⟨g, k * 4 + 3, none⟩) rfl (.int .i64 B1.inp)) (show ¬ D = g from nD))
        clear c0 c1 c2 c3 c4 c5 c6 c7 x0 x1 x2 x3 y0 y1 y2 y3 y4 y5 y6 y7 g0 g1 g2 g3 z0 z1 z2 z3 r0 r1 r2 r3 r4 r5 r6 r7 s0 s1 s2 s3 s4 s5 s6 s7
        revert E5 VP5
        generalize (((W4.setCell ⟨g, k * 4, none⟩ (.int .i64 B1.ver)).setCell ⟨g, k * 4 + 1, none⟩ (.int .i64 B1.mbal)).setCell ⟨g, k * 4 + 2, none⟩ (.int .i64 B1.bal)).setCell ⟨g, k * 4 + 3, none⟩ (.int .i64 B1.inp) = W5
        intro E5 VP5
        obtain ⟨r0, r1, r2, r3, r4, r5, r6, r7⟩ := (unhide E5).a.r.cells
        obtain ⟨s0, s1, s2, s3, s4, s5, s6, s7⟩ := (unhide E5).a.r.free
        obtain ⟨y0, y1, y2, y3, y4, y5, y6, y7⟩ := (unhide VP5).cells
        have HO := hide (fun u0 u1 u2 u3 u4 u5 u6 u7 => (unhide E5).out u0 u1 u2 u3 u4 u5 u6 u7)
        go_wp2
        exact bodyPost_ret (v := .tuple #[pV P1, .slice (some ⟨g, 0, none⟩) 4 qa, .int .i64 0]) (by simp [results, Tryz.results88, go_sem, r0, r1, r2, r3, r4, r5, r6, r7]) rfl (step_fin (unhide HEE) (unhide HE0) (unhide HO _ _ _ _ _ _ _ _))
      · by_cases t3 : p.phase = 3
        · have u1 : (p.phase == 1) = false := by simp [t1]
          have u2 : (z.mbal == p.ballot) = true := by simp; exact Decidable.not_not.1 (fun h => q4 ⟨t3, h⟩)
          have u2' : (z.mbal != p.ballot) = false := by simp; exact Decidable.not_not.1 (fun h => q4 ⟨t3, h⟩)
          have u3 : (p.phase == 3) = true := by simp [t3]
          clear q3 q4 t1 t3
          go_wp2_with fail
          refine (l05Write_any p z _).mono ?_
          rintro e W3 ⟨rfl, hb⟩
          have E3 := hide ((unhide E2).below hb)
          have HB3 := hide hb
          clear hb c0 c1 c2 c3 c4 c5 c6 c7 f0 f1 f2 f3 f4 f5 f6 f7 r0 r1 r2 r3 r4 r5 r6 r7 s0 s1 s2 s3 s4 s5 s6 s7 v0 v1 v2 v3
          generalize pxW1 p z = P1 at *
          generalize pxW2 p z = B1 at *
          have E4 := hide ((unhide E3).below (Joins.below_alloc2 W3 (.cells #[.int .i64 P1.host, .int .i64 P1.ver, .int .i64 P1.phase, .int .i64 P1.ballot, .int .i64 P1.value, .int .i64 P1.next, .int .i64 P1.best, .int .i64 P1.bestBal] 63) (.cells #[.int .i64 B1.ver, .int .i64 B1.mbal, .int .i64 B1.bal, .int .i64 B1.inp] 96)))
          have VP : Hid (VarP ((W3.alloc (.cells #[.int .i64 P1.host, .int .i64 P1.ver, .int .i64 P1.phase, .int .i64 P1.ballot, .int .i64 P1.value, .int .i64 P1.next, .int .i64 P1.best, .int .i64 P1.bestBal] 63)).alloc (.cells #[.int .i64 B1.ver, .int .i64 B1.mbal, .int .i64 B1.bal, .int .i64 B1.inp] 96)) W3.heap.size 63 P1) := hide ((VarP.new W3 _ P1).below (Joins.below_alloc1 _ _))
          have VB : Hid (VarB ((W3.alloc (.cells #[.int .i64 P1.host, .int .i64 P1.ver, .int .i64 P1.phase, .int .i64 P1.ballot, .int .i64 P1.value, .int .i64 P1.next, .int .i64 P1.best, .int .i64 P1.bestBal] 63)).alloc (.cells #[.int .i64 B1.ver, .int .i64 B1.mbal, .int .i64 B1.bal, .int .i64 B1.inp] 96)) (W3.heap.size + 1) 96 B1) := hide (by
            have := VarB.new (W3.alloc (.cells #[.int .i64 P1.host, .int .i64 P1.ver, .int .i64 P1.phase, .int .i64 P1.ballot, .int .i64 P1.value, .int .i64 P1.next, .int .i64 P1.best, .int .i64 P1.bestBal] 63)) 96 B1
            simp only [World.size_alloc] at this
            exact this)
          go_upto_region 14 with fail
          revert E4 VP VB
          generalize (W3.alloc (.cells #[.int .i64 P1.host, .int .i64 P1.ver, .int .i64 P1.phase, .int .i64 P1.ballot, .int .i64 P1.value, .int .i64 P1.next, .int .i64 P1.best, .int .i64 P1.bestBal] 63)).alloc (.cells #[.int .i64 B1.ver, .int .i64 B1.mbal, .int .i64 B1.bal, .int .i64 B1.inp] 96) = W4
          have hD : W1.heap.size ≤ W3.heap.size := Nat.le_trans (unhide HG2).k.size (unhide HB3).size
          revert hD
          generalize W3.heap.size = D
          intro hD E4 VP VB
          have hg4 := (unhide E4).o.ge g (own_of (by omega) rfl)
          obtain ⟨c0, c1, c2, c3, c4, c5, c6, c7⟩ := (unhide E4).a.v.cells
          rw [unhide HK] at c0
          obtain ⟨x0, x1, x2, x3⟩ := (unhide VB).cells
          obtain ⟨y0, y1, y2, y3, y4, y5, y6, y7⟩ := (unhide VP).cells
          obtain ⟨b', off', eb, _, g0, g1, g2, g3⟩ := ((unhide E4).bks (unhide HN)).get k (by have := unhide HN; omega)
          simp only [Option.some.injEq, Addr.mk.injEq, and_true] at eb
          obtain ⟨rfl, rfl⟩ := eb
          simp only [Nat.zero_add] at g0 g1 g2 g3
          obtain ⟨z0, z1, z2, z3⟩ := row_free (unhide E4).o
          have E5 := hide ((unhide E4).put (k := k) (by have := unhide HN; omega) B1)
          obtain ⟨r0, r1, r2, r3, r4, r5, r6, r7⟩ := (unhide E5).a.r.cells
          obtain ⟨s0, s1, s2, s3, s4, s5, s6, s7⟩ := (unhide E5).a.r.free
          have nD : D ≠ g := by omega
          have nD' : g ≠ D := by omega
          go_upto_region 15 with fail
          have VP5 := hide ((unhide VP).keep (((((Keep.refl (fun j => j = g) W4).setCell (p := ⟨g, k * 4, none⟩) rfl (.int .i64 B1.ver)).setCell (p := ⟨g, k * 4 + 1, none⟩) rfl (.int .i64 B1.mbal)).setCell (p := ⟨g, k * 4 + 2, none⟩) rfl (.int .i64 B1.bal)).setCell (p := ⟨g, k * 4 + 3, none⟩) rfl (.int .i64 B1.inp)) (show ¬ D = g from nD))
          clear c0 c1 c2 c3 c4 c5 c6 c7 x0 x1 x2 x3 y0 y1 y2 y3 y4 y5 y6 y7 g0 g1 g2 g3 z0 z1 z2 z3 r0 r1 r2 r3 r4 r5 r6 r7 s0 s1 s2 s3 s4 s5 s6 s7
          revert E5 VP5
          generalize (((W4.setCell ⟨g, k * 4, none⟩ (.int .i64 B1.ver)).setCell ⟨g, k * 4 + 1, none⟩ (.int .i64 B1.mbal)).setCell ⟨g, k * 4 + 2, none⟩ (.int .i64 B1.bal)).setCell ⟨g, k * 4 + 3, none⟩ (.int .i64 B1.inp) = W5
          intro E5 VP5
          obtain ⟨r0, r1, r2, r3, r4, r5, r6, r7⟩ := (unhide E5).a.r.cells
          obtain ⟨s0, s1, s2, s3, s4, s5, s6, s7⟩ := (unhide E5).a.r.free
          obtain ⟨y0, y1, y2, y3, y4, y5, y6, y7⟩ := (unhide VP5).cells
          have HO := hide (fun u0 u1 u2 u3 u4 u5 u6 u7 => (unhide E5).out u0 u1 u2 u3 u4 u5 u6 u7)
          go_wp2
          exact bodyPost_ret (v := .tuple #[pV P1, .slice (some ⟨g, 0, none⟩) 4 qa, .int .i64 0]) (by simp [results, Tryz.results88, go_sem, r0, r1, r2, r3, r4, r5, r6, r7]) rfl (step_fin (unhide HEE) (unhide HE0) (unhide HO _ _ _ _ _ _ _ _))
        · have u1 : (p.phase == 1) = false := by simp [t1]
          have u3 : (p.phase == 3) = false := by simp [t3]
          clear q3 q4 t1 t3
          go_wp2_with fail
          refine (l05Write_any p z _).mono ?_
          rintro e W3 ⟨rfl, hb⟩
          have E3 := hide ((unhide E2).below hb)
          have HB3 := hide hb
          clear hb c0 c1 c2 c3 c4 c5 c6 c7 f0 f1 f2 f3 f4 f5 f6 f7 r0 r1 r2 r3 r4 r5 r6 r7 s0 s1 s2 s3 s4 s5 s6 s7 v0 v1 v2 v3
          generalize pxW1 p z = P1 at *
          generalize pxW2 p z = B1 at *
          have E4 := hide ((unhide E3).below (Joins.below_alloc2 W3 (.cells #[.int .i64 P1.host, .int .i64 P1.ver, .int .i64 P1.phase, .int .i64 P1.ballot, .int .i64 P1.value, .int .i64 P1.next, .int .i64 P1.best, .int .i64 P1.bestBal] 63) (.cells #[.int .i64 B1.ver, .int .i64 B1.mbal, .int .i64 B1.bal, .int .i64 B1.inp] 96)))
          have VP : Hid (VarP ((W3.alloc (.cells #[.int .i64 P1.host, .int .i64 P1.ver, .int .i64 P1.phase, .int .i64 P1.ballot, .int .i64 P1.value, .int .i64 P1.next, .int .i64 P1.best, .int .i64 P1.bestBal] 63)).alloc (.cells #[.int .i64 B1.ver, .int .i64 B1.mbal, .int .i64 B1.bal, .int .i64 B1.inp] 96)) W3.heap.size 63 P1) := hide ((VarP.new W3 _ P1).below (Joins.below_alloc1 _ _))
          have VB : Hid (VarB ((W3.alloc (.cells #[.int .i64 P1.host, .int .i64 P1.ver, .int .i64 P1.phase, .int .i64 P1.ballot, .int .i64 P1.value, .int .i64 P1.next, .int .i64 P1.best, .int .i64 P1.bestBal] 63)).alloc (.cells #[.int .i64 B1.ver, .int .i64 B1.mbal, .int .i64 B1.bal, .int .i64 B1.inp] 96)) (W3.heap.size + 1) 96 B1) := hide (by
            have := VarB.new (W3.alloc (.cells #[.int .i64 P1.host, .int .i64 P1.ver, .int .i64 P1.phase, .int .i64 P1.ballot, .int .i64 P1.value, .int .i64 P1.next, .int .i64 P1.best, .int .i64 P1.bestBal] 63)) 96 B1
            simp only [World.size_alloc] at this
            exact this)
          go_upto_region 14 with fail
          revert E4 VP VB
          generalize (W3.alloc (.cells #[.int .i64 P1.host, .int .i64 P1.ver, .int .i64 P1.phase, .int .i64 P1.ballot, .int .i64 P1.value, .int .i64 P1.next, .int .i64 P1.best, .int .i64 P1.bestBal] 63)).alloc (.cells #[.int .i64 B1.ver, .int .i64 B1.mbal, .int .i64 B1.bal, .int .i64 B1.inp] 96) = W4
          have hD : W1.heap.size ≤ W3.heap.size := Nat.le_trans (unhide HG2).k.size (unhide HB3).size
          revert hD
          generalize W3.heap.size = D
          intro hD E4 VP VB
          have hg4 := (unhide E4).o.ge g (own_of (by omega) rfl)
          obtain ⟨c0, c1, c2, c3, c4, c5, c6, c7⟩ := (unhide E4).a.v.cells
          rw [unhide HK] at c0
          obtain ⟨x0, x1, x2, x3⟩ := (unhide VB).cells
          obtain ⟨y0, y1, y2, y3, y4, y5, y6, y7⟩ := (unhide VP).cells
          obtain ⟨b', off', eb, _, g0, g1, g2, g3⟩ := ((unhide E4).bks (unhide HN)).get k (by have := unhide HN; omega)
          simp only [Option.some.injEq, Addr.mk.injEq, and_true] at eb
          obtain ⟨rfl, rfl⟩ := eb
          simp only [Nat.zero_add] at g0 g1 g2 g3
          obtain ⟨z0, z1, z2, z3⟩ := row_free (unhide E4).o
          have E5 := hide ((unhide E4).put (k := k) (by have := unhide HN; omega) B1)
          obtain ⟨r0, r1, r2, r3, r4, r5, r6, r7⟩ := (unhide E5).a.r.cells
          obtain ⟨s0, s1, s2, s3, s4, s5, s6, s7⟩ := (unhide E5).a.r.free
          have nD : D ≠ g := by omega
          have nD' : g ≠ D := by omega
          go_upto_region 15 with fail
          have VP5 := hide ((unhide VP).keep (((((Keep.refl (fun j => j = g) W4).setCell (p := ⟨g, k * 4, none⟩) rfl (.int .i64 B1.ver)).setCell (p := ⟨g, k * 4 + 1, none⟩) rfl (.int .i64 B1.mbal)).setCell (p := ⟨g, k * 4 + 2, none⟩) rfl (.int .i64 B1.bal)).setCell (p := ⟨g, k * 4 + 3, none⟩) rfl (.int .i64 B1.inp)) (show ¬ D = g from nD))
          clear c0 c1 c2 c3 c4 c5 c6 c7 x0 x1 x2 x3 y0 y1 y2 y3 y4 y5 y6 y7 g0 g1 g2 g3 z0 z1 z2 z3 r0 r1 r2 r3 r4 r5 r6 r7 s0 s1 s2 s3 s4 s5 s6 s7
          revert E5 VP5
          generalize (((W4.setCell ⟨g, k * 4, none⟩ (.int .i64 B1.ver)).setCell ⟨g, k * 4 + 1, none⟩ (.int .i64 B1.mbal)).setCell ⟨g, k * 4 + 2, none⟩ (.int .i64 B1.bal)).setCell ⟨g, k * 4 + 3, none⟩ (.int .i64 B1.inp) = W5
          intro E5 VP5
          obtain ⟨r0, r1, r2, r3, r4, r5, r6, r7⟩ := (unhide E5).a.r.cells
          obtain ⟨s0, s1, s2, s3, s4, s5, s6, s7⟩ := (unhide E5).a.r.free
          obtain ⟨y0, y1, y2, y3, y4, y5, y6, y7⟩ := (unhide VP5).cells
          have HO := hide (fun u0 u1 u2 u3 u4 u5 u6 u7 => (unhide E5).out u0 u1 u2 u3 u4 u5 u6 u7)
          go_wp2
          exact bodyPost_ret (v := .tuple #[pV P1, .slice (some ⟨g, 0, none⟩) 4 qa, .int .i64 0]) (by simp [results, Tryz.results88, go_sem, r0, r1, r2, r3, r4, r5, r6, r7]) rfl (step_fin (unhide HEE) (unhide HE0) (unhide HO _ _ _ _ _ _ _ _))

end Go.Proofs.YtefnapcegeojoaaGreatDoor

namespace Go.Proofs.YtefnapcegeojoaaGreatDoor
open Go.RowKit
set_option linter.unusedVariables false
set_option maxRecDepth 100000

theorem openB_rec {t : ByteArray} {k : Int} : openB t k = true ↔ RecP t ∧ byteAt t 0 = k := by
  simp only [openB, Bool.and_eq_true, decide_eq_true_eq, recB_iff]
theorem bd_open {t : ByteArray} (h : bdB t = true) : (RecP t ∧ byteAt t 0 = 5) ∧ ∃ a b c d, unL (bodyT t) = [a, b, c, d] ∧ bkB ⟨a, b, c, d⟩ = true ∧ bdK t = ⟨a, b, c, d⟩ := by
  have h' := h
  simp only [bdB, Bool.and_eq_true, decide_eq_true_eq] at h'
  obtain ⟨ho, hl, hd⟩ := h'
  obtain ⟨a, b, c, d, e⟩ := fourK hl
  rw [e] at hd
  refine ⟨openB_rec.1 ho, a, b, c, d, ?_, hd, bd_yes h e⟩
  rw [← e, bdL, openL_yes ho]
theorem bd_shut {t : ByteArray} (h : bdB t = false) (ho : RecP t ∧ byteAt t 0 = 5) (hl : (unL (bodyT t)).length = 4) : ∃ a b c d, unL (bodyT t) = [a, b, c, d] ∧ bkB ⟨a, b, c, d⟩ = false := by
  have ho' := openB_rec.2 ho
  obtain ⟨a, b, c, d, e⟩ := fourK hl
  refine ⟨a, b, c, d, e, ?_⟩
  have e' : bdL t = [a, b, c, d] := by rw [← e, bdL, openL_yes ho']
  rw [← bdB_at ho' e']; exact h

set_option maxHeartbeats 1600000 in
theorem readBlock_yes (t : ByteArray) (w : World) (hs : t.size ≤ 65536) (hd : bdB t = true) :
    Calls Tryz.prog 134 #[.string t] w fun e w' => e = .returned (bV (bdK t)) ∧ Below w.heap.size w w' := by
  obtain ⟨⟨hr, hk⟩, a, b, c, d, hl, hdd, e1⟩ := bd_open hd
  rw [e1]
  have HL := hide hl
  have HDD := hide hdd
  have HR := hide hr
  have HK := hide hk
  clear hl hdd e1 hr hk hd
  have HA := hide (Joins.below_alloc1 w (.cells #[.int .i64 0, .int .i64 0, .int .i64 0, .int .i64 0] 96))
  have HV := hide (VarB.new0 w 96)
  go_enter Tryz.func134, Tryz.ntmps134
  go_wp2_with fail
  refine (readKind_yes t 5 _ hs (unhide HR) (unhide HK)).mono ?_
  rintro e w1 ⟨v, rfl, ⟨qo, qa, rfl, ho⟩, hb⟩
  have HB := hide (fr (unhide HA) hb)
  have HB1 := hide hb
  have hI := ownRN ho
  rw [unhide HL] at hI ⊢
  obtain ⟨g, off, rfl, hi0⟩ := hI 0 (by simp)
  obtain ⟨g', off', he, hi1⟩ := hI 1 (by simp)
  cases he
  obtain ⟨g', off', he, hi2⟩ := hI 2 (by simp)
  cases he
  obtain ⟨g', off', he, hi3⟩ := hI 3 (by simp)
  cases he
  simp only [List.getElem_cons_zero, List.getElem_cons_succ, Nat.add_zero] at hi0 hi1 hi2 hi3
  have hg := World.block_lt_of_cell? _ _ hi0
  clear hI ho hb
  simp only [List.length_cons, List.length_nil, Nat.zero_add, Nat.reduceAdd]
  go_wp2_with (go_at_call 95; refine (demand_true _).mono ?_; rintro e w' ⟨rfl, hw⟩; replace hw := hw.symm; subst hw)
  have HA2 := hide (Joins.below_alloc1 w1 (.cells #[.int .i64 a, .int .i64 b, .int .i64 c, .int .i64 d] 96)).drew
  have HV2 := hide (((unhide HV).below (unhide HB1)).below (unhide HA2))
  have HV3 : Hid (VarB (w1.alloc (.cells #[.int .i64 a, .int .i64 b, .int .i64 c, .int .i64 d] 96)).drew w1.heap.size 96 ⟨a, b, c, d⟩) := hide ((VarB.new w1 96 ⟨a, b, c, d⟩).below (Below.refl _ _).drew)
  have HB2 := hide (fr (unhide HB) (unhide HA2))
  go_region
  go_wp2_with fail
  refine (blockOK_impl ⟨a, b, c, d⟩ _).mono ?_
  rintro e w2 ⟨rfl, hb2⟩
  rw [unhide HDD]
  have HB3 := hide (fr (unhide HB2) hb2)
  obtain ⟨hc0, hc1, hc2, hc3⟩ := ((unhide HV2).below hb2).cells
  obtain ⟨hf0, hf1, hf2, hf3⟩ := ((unhide HV2).below hb2).free
  obtain ⟨hx0, hx1, hx2, hx3⟩ := ((unhide HV3).below hb2).cells
  have HR3 := hide (fun u v x y => below4 (unhide HB3) (Nat.le_refl _) 0 1 2 3 u v x y)
  clear hb2 hi0 hi1 hi2 hi3
  go_wp2_with (go_at_call 95; refine (demand_true _).mono ?_; rintro e w' ⟨rfl, hw⟩; replace hw := hw.symm; subst hw)
  exact bodyPost_ret (v := bV ⟨a, b, c, d⟩) (by simp [results, Tryz.results134, go_sem, hc0, hc1, hc2, hc3]) rfl ⟨rfl, unhide HR3 _ _ _ _⟩

set_option maxHeartbeats 1600000 in
theorem readBlock_no (t : ByteArray) (w : World) (hs : t.size ≤ 65536) (hd : bdB t = false) (hE : ErrW w) :
    Calls Tryz.prog 134 #[.string t] w fun e w' => (∃ u pv, e = .panicked [{ v := .iface u pv, recovered := false }]) ∧ Below w.heap.size w w' := by
  have HA := hide (Joins.below_alloc1 w (.cells #[.int .i64 0, .int .i64 0, .int .i64 0, .int .i64 0] 96))
  have HE := hide (hE.below (unhide HA))
  clear hE
  by_cases hr : RecP t ∧ byteAt t 0 = 5
  · obtain ⟨hr1, hr2⟩ := hr
    by_cases hl : (unL (bodyT t)).length = 4
    · obtain ⟨a, b, c, d, hl, hdd⟩ := bd_shut hd ⟨hr1, hr2⟩ hl
      have HL := hide hl
      have HDD := hide hdd
      have HR := hide hr1
      have HK := hide hr2
      clear hl hdd hr1 hr2 hd
      go_enter Tryz.func134, Tryz.ntmps134
      go_wp2_with fail
      refine (readKind_yes t 5 _ hs (unhide HR) (unhide HK)).mono ?_
      rintro e w1 ⟨v, rfl, ⟨qo, qa, rfl, ho⟩, hb⟩
      have HB := hide (fr (unhide HA) hb)
      have HE1 := hide ((unhide HE).below hb)
      have hI := ownRN ho
      rw [unhide HL] at hI ⊢
      obtain ⟨g, off, rfl, hi0⟩ := hI 0 (by simp)
      obtain ⟨g', off', he, hi1⟩ := hI 1 (by simp)
      cases he
      obtain ⟨g', off', he, hi2⟩ := hI 2 (by simp)
      cases he
      obtain ⟨g', off', he, hi3⟩ := hI 3 (by simp)
      cases he
      simp only [List.getElem_cons_zero, List.getElem_cons_succ, Nat.add_zero] at hi0 hi1 hi2 hi3
      have hg := World.block_lt_of_cell? _ _ hi0
      clear hI ho hb
      simp only [List.length_cons, List.length_nil, Nat.zero_add, Nat.reduceAdd]
      go_wp2_with (go_at_call 95; refine (demand_true _).mono ?_; rintro e w' ⟨rfl, hw⟩; replace hw := hw.symm; subst hw)
      have HA2 := hide (Joins.below_alloc1 w1 (.cells #[.int .i64 a, .int .i64 b, .int .i64 c, .int .i64 d] 96)).drew
      have HV3 : Hid (VarB (w1.alloc (.cells #[.int .i64 a, .int .i64 b, .int .i64 c, .int .i64 d] 96)).drew w1.heap.size 96 ⟨a, b, c, d⟩) := hide ((VarB.new w1 96 ⟨a, b, c, d⟩).below (Below.refl _ _).drew)
      have HB2 := hide (fr (unhide HB) (unhide HA2))
      go_region
      go_wp2_with fail
      refine (blockOK_impl ⟨a, b, c, d⟩ _).mono ?_
      rintro e w2 ⟨rfl, hb2⟩
      rw [unhide HDD]
      have HB3 := hide (fr (unhide HB2) hb2)
      have HE2 := hide (((unhide HE1).below (unhide HA2)).below hb2)
      clear hb2 hi0 hi1 hi2 hi3
      go_wp2_with (go_at_call 95; refine (demand_false _ (unhide HE2)).mono ?_; rintro e w' ⟨⟨u, pv, rfl⟩, hw⟩; replace hw := hw.symm; subst hw)
      exact ⟨rfl, ⟨_, _, rfl⟩, unhide HB3⟩
    · have hl3 : ((((unL (bodyT t)).length : Nat) : Int) == 4) = false := by rw [beq_eq_false_iff_ne]; omega
      have HR := hide hr1
      have HK := hide hr2
      clear hl hr1 hr2 hd
      go_enter Tryz.func134, Tryz.ntmps134
      go_wp2_with fail
      refine (readKind_yes t 5 _ hs (unhide HR) (unhide HK)).mono ?_
      rintro e w1 ⟨v, rfl, ⟨qo, qa, rfl, ho⟩, hb⟩
      have HB := hide (fr (unhide HA) hb)
      have HE1 := hide ((unhide HE).below hb)
      clear ho hb
      go_wp2_with (go_at_call 95; refine (demand_false _ (unhide HE1)).mono ?_; rintro e w' ⟨⟨u, pv, rfl⟩, hw⟩; replace hw := hw.symm; subst hw)
      exact ⟨rfl, ⟨_, _, rfl⟩, unhide HB⟩
  · go_enter Tryz.func134, Tryz.ntmps134
    go_wp2_with fail
    refine (readKind_no t 5 _ hs hr (unhide HE)).mono ?_
    rintro e w1 ⟨⟨u, pv, rfl⟩, hb⟩
    have HB := hide (fr (unhide HA) hb)
    clear hb
    go_wp2
    exact ⟨rfl, ⟨_, _, rfl⟩, unhide HB⟩

theorem catchB_panicking (p : Addr) (x : Int) (u : TypeId) (pv : Value) (older : List PanicEntry) (w : World) (hc : w.cell? p = some (.int .i64 x)) (hz : w.frozen? p = false) :
    CallsD Tryz.prog 148 #[.pointer (some p)] (.panicking ({ v := .iface u pv, recovered := false } :: older)) w fun e u' w' =>
      e = .returned (.tuple #[]) ∧ u' = .panicking ({ v := .iface u pv, recovered := true } :: older) ∧ w' = w.setCell p (.int .i64 3) := by
  refine callsD_of_wpS Tryz.func148 rfl fun c₀ cs hu => ?_
  apply wpS_seq
  apply wpS_region
  simp [wpOpsS, go_sem, recoverD, hu, Tryz.ntmps148, Exit.thenS]
  refine wpS_cond (t := true) (by simp [Act.eval, Array.replicate]) ?_
  simp only [if_true]
  apply wpS_region
  simp [wpOpsS, go_sem, hc, hz, bodyPostS, results, Tryz.results148]

theorem catchB_idle (p : Addr) (w : World) :
    CallsD Tryz.prog 148 #[.pointer (some p)] .returning w fun e u' w' => e = .returned (.tuple #[]) ∧ u' = .returning ∧ w' = w := by
  refine callsD_of_wpS Tryz.func148 rfl fun c₀ cs hu => ?_
  apply wpS_seq
  apply wpS_region
  simp [wpOpsS, go_sem, recoverD, hu, Tryz.ntmps148, Exit.thenS]
  refine wpS_cond (t := false) (by simp [Act.eval, Array.replicate]) ?_
  simp only [Bool.false_eq_true, if_false]
  refine wpS_of_wp (wp_skip ?_)
  cases c₀
  simp_all [bodyPostS, results, Tryz.results148]

end Go.Proofs.YtefnapcegeojoaaGreatDoor

namespace Go.Proofs.YtefnapcegeojoaaGreatDoor
open Go.RowKit
set_option linter.unusedVariables false
set_option maxRecDepth 100000

theorem two_newB {w w1 : World} (hb : Below ((w.alloc (.cells #[.int .i64 0, .int .i64 0, .int .i64 0, .int .i64 0] 96)).alloc (.cells #[.int .i64 0] 3)).heap.size ((w.alloc (.cells #[.int .i64 0, .int .i64 0, .int .i64 0, .int .i64 0] 96)).alloc (.cells #[.int .i64 0] 3)) w1) : VarB w1 w.heap.size 96 bk0 ∧ w1.heap[w.heap.size + 1]? = some (.cells #[.int .i64 0] 3 (0, 0)) := by
  constructor
  · exact ((VarB.new0 w _).below (Joins.below_alloc1 _ _)).below hb
  · rw [hb.block _ (by simp)]
    have := heap_alloc_new (w.alloc (.cells #[.int .i64 0, .int .i64 0, .int .i64 0, .int .i64 0] 96)) (.cells #[.int .i64 0] 3)
    simp only [World.size_alloc] at this
    exact this

set_option maxHeartbeats 1600000 in
theorem readTextB_yes (s : ByteArray) (w : World) (hs : s.size ≤ 65536) (hd : bdB s = true) :
    Calls Tryz.prog 133 #[.string s, .func (.func 134) #[] #[]] w fun e w' => e = .returned (.tuple #[bV (bdK s), .int .i64 0]) ∧ Below w.heap.size w w' := by
  have hmf : ∀ (fn : Fn) (first cap : Array Value) (w : World), (Instr.makeFunc fn first cap).run Tryz.prog w = .ok (.func fn first cap) w := fun _ _ _ _ => rfl
  have HD := hide hd
  clear hd
  go_enter_defers Tryz.func133, Tryz.ntmps133
  go_wp2_with fail
  refine (readBlock_yes s _ hs (unhide HD)).mono ?_
  rintro e w1 ⟨rfl, hb1⟩
  obtain ⟨hv, hblk⟩ := two_newB hb1
  obtain ⟨v0, v1, v2, v3⟩ := hv.cells
  obtain ⟨f0, f1, f2, f3⟩ := hv.free
  have hc0 := Joins.cell_of_block hblk 0
  have hf0 := Joins.unfrozen_of_block hblk 0
  simp only [List.size_toArray, List.length_cons, List.length_nil, Nat.zero_add, Nat.lt_add_one, getElem?_pos, List.getElem_toArray, List.getElem_cons_zero] at hc0
  have HB := hide (fr (Joins.below_alloc2 w _ _) hb1)
  clear hb1 hblk hv
  go_wp2
  refine leaves_cons (f := 148) (args := #[.pointer (some ⟨w.heap.size + 1, 0, none⟩)]) (by simp) (by simp [go_sem]) ?_
  refine (catchB_idle ⟨w.heap.size + 1, 0, none⟩ _).mono ?_
  rintro e u' w'' ⟨rfl, rfl, rfl⟩
  simp [Leaves, settle, results, Tryz.results133, go_sem, v0, v1, v2, v3, hc0, bk0]
  exact (below4 (unhide HB) (Nat.le_refl _) 0 1 2 3 _ _ _ _).setCell (p := ⟨w.heap.size + 1, 0, none⟩) (Nat.le_succ _) _

set_option maxHeartbeats 1600000 in
theorem readTextB_no (s : ByteArray) (w : World) (hs : s.size ≤ 65536) (hd : bdB s = false) (hE : ErrW w) :
    Calls Tryz.prog 133 #[.string s, .func (.func 134) #[] #[]] w fun e w' => e = .returned (.tuple #[bV bk0, .int .i64 3]) ∧ Below w.heap.size w w' := by
  have hmf : ∀ (fn : Fn) (first cap : Array Value) (w : World), (Instr.makeFunc fn first cap).run Tryz.prog w = .ok (.func fn first cap) w := fun _ _ _ _ => rfl
  have HD := hide hd
  have HE := hide (hE.below (Joins.below_alloc2 w (.cells #[.int .i64 0, .int .i64 0, .int .i64 0, .int .i64 0] 96) (.cells #[.int .i64 0] 3)))
  clear hd hE
  go_enter_defers Tryz.func133, Tryz.ntmps133
  go_wp2_with fail
  refine (readBlock_no s _ hs (unhide HD) (unhide HE)).mono ?_
  rintro e w1 ⟨⟨u, pv, rfl⟩, hb1⟩
  obtain ⟨hv, hblk⟩ := two_newB hb1
  obtain ⟨v0, v1, v2, v3⟩ := hv.cells
  have hc0 := Joins.cell_of_block hblk 0
  have hf0 := Joins.unfrozen_of_block hblk 0
  simp only [List.size_toArray, List.length_cons, List.length_nil, Nat.zero_add, Nat.lt_add_one, getElem?_pos, List.getElem_toArray, List.getElem_cons_zero] at hc0
  have HB := hide (fr (Joins.below_alloc2 w _ _) hb1)
  clear hb1 hblk hv
  go_wp2
  refine leaves_cons (f := 148) (args := #[.pointer (some ⟨w.heap.size + 1, 0, none⟩)]) (by simp) (by simp [go_sem]) ?_
  refine (catchB_panicking ⟨w.heap.size + 1, 0, none⟩ 0 u pv [] _ hc0 hf0).mono ?_
  rintro e u' w'' ⟨rfl, rfl, rfl⟩
  simp [Leaves, settle, results, Tryz.results133, go_sem, v0, v1, v2, v3, hc0, bk0]
  exact (unhide HB).setCell (p := ⟨w.heap.size + 1, 0, none⟩) (Nat.le_succ _) _

theorem readTextB_long (s : ByteArray) (w : World) (hs : 65536 < s.size) (f : Value) :
    Calls Tryz.prog 133 #[.string s, f] w fun e w' => e = .returned (.tuple #[bV bk0, .int .i64 2]) ∧ Below w.heap.size w w' := by
  go_enter_defers Tryz.func133, Tryz.ntmps133
  go_wp2
  simp [bodyPostD, Leaves, results, Tryz.results133, go_sem, bk0]
  exact Joins.below_alloc2 _ _ _

set_option maxHeartbeats 1600000 in
theorem decodeBlock_impl (t : ByteArray) (w : World) (hE : ErrW w) : Calls Tryz.prog 111 #[.string t] w fun e w' => e = .returned (.tuple #[bV (bcK t), .int .i64 (bcC t)]) ∧ Below w.heap.size w w' := by
  have hmf : ∀ (fn : Fn) (first cap : Array Value) (w : World), (Instr.makeFunc fn first cap).run Tryz.prog w = .ok (.func fn first cap) w := fun _ _ _ _ => rfl
  have HA := hide (Joins.below_alloc1 w (.cells #[.int .i64 0, .int .i64 0, .int .i64 0, .int .i64 0] 96))
  have HE := hide (hE.below (unhide HA))
  have HV := hide (VarB.new0 w 96)
  clear hE
  obtain ⟨K, HK⟩ : ∃ K : Prop, Hid K := ⟨True, trivial⟩
  have key : ∀ (K1 : Bk) (d : Int), (bcK t = K1 ∧ bcC t = d) → (∀ W, ErrW W → Calls Tryz.prog 133 #[.string t, .func (.func 134) #[] #[]] W fun e w' => e = .returned (.tuple #[bV K1, .int .i64 d]) ∧ Below W.heap.size W w') →
      Calls Tryz.prog 111 #[.string t] w fun e w' => e = .returned (.tuple #[bV (bcK t), .int .i64 (bcC t)]) ∧ Below w.heap.size w w' := by
    intro K1 d hq hc
    have HQ := hide hq
    have HC := hide hc
    clear hq hc
    go_enter Tryz.func111, Tryz.ntmps111
    go_wp2_with fail
    refine (unhide HC _ (unhide HE)).mono ?_
    rintro e w1 ⟨rfl, hb⟩
    have HV1 := hide ((unhide HV).below hb)
    obtain ⟨hc0, hc1, hc2, hc3⟩ := (unhide HV1).cells
    obtain ⟨hf0, hf1, hf2, hf3⟩ := (unhide HV1).free
    have HB := hide (fun u v x y => below4 (fr (unhide HA) hb) (Nat.le_refl _) 0 1 2 3 u v x y)
    clear hb
    go_wp2
    refine bodyPost_ret (v := .tuple #[bV K1, .int .i64 d]) (by simp [results, Tryz.results111, go_sem, hc0, hc1, hc2, hc3]) rfl ⟨?_, unhide HB _ _ _ _⟩
    exact ret_bi (unhide HQ).1.symm (unhide HQ).2.symm
  by_cases h1 : 65536 < t.size
  · exact key _ _ (bc_long h1) (fun W _ => readTextB_long t W h1 _)
  · by_cases hd : bdB t = true
    · exact key _ _ (bc_yes h1 hd) (fun W _ => readTextB_yes t W (by omega) hd)
    · rw [Bool.not_eq_true] at hd
      exact key _ _ (bc_no h1 hd) (fun W hW => readTextB_no t W (by omega) hd hW)

end Go.Proofs.YtefnapcegeojoaaGreatDoor

namespace Go.Proofs.YtefnapcegeojoaaGreatDoor
open Go.RowKit
set_option linter.unusedVariables false
set_option maxRecDepth 100000

theorem infoL : (Tryz.prog.info? 96).map (fun i => (i.zero, i.size, i.bytes)) = some (some (.agg #[.int .i64 0, .int .i64 0, .int .i64 0, .int .i64 0]), 4, 32) := by kernel_rfl
theorem made4 : (madeCells #[Value.int .i64 0, Value.int .i64 0, Value.int .i64 0, Value.int .i64 0] 16).toList = bksV [bk0, bk0, bk0, bk0] := by
  first
    | rfl
    | (simp [madeCells, bksV, bk0]; rfl)
theorem bksOf_at (ss : List ByteArray) (xs : List Wr) (h : Int) {k : Nat} (hk : k < 4) : (bksOf ss xs h).getD k bk0 = bdK (readV ss xs h (1 + (k : Int))) := by
  rcases (show k = 0 ∨ k = 1 ∨ k = 2 ∨ k = 3 by omega) with rfl | rfl | rfl | rfl <;> rfl
theorem list4 {l m : List Bk} (hl : l.length = 4) (hm : m.length = 4) (h : ∀ j, j < 4 → l.getD j bk0 = m.getD j bk0) : l = m := by
  apply List.ext_getElem (hl.trans hm.symm)
  intro i h1 h2
  have := h i (by omega)
  simpa [h1, h2] using this
theorem bcK_right {T : ByteArray} (h : T.size ≤ 80) : bcK T = bdK T := if_neg (by omega)
structure SeI (w wr : World) (D : Nat) (dv dx : Value) (g : Nat) (l : List Bk) : Prop where
  below : Below w.heap.size w wr
  d : VarD wr D dv dx
  o : wr.ownsRow (D + 1) 96 4 (.slice (some ⟨g, 0, none⟩) 4 4) 4 (bksV l)
  n : l.length = 4
  g : D + 1 ≤ g
theorem SeI.next {w wr w' : World} {D : Nat} {dv dx : Value} {g : Nat} {l : List Bk} (k : SeI w wr D dv dx g l) (hb : Below wr.heap.size wr w') : SeI w w' D dv dx g l := ⟨fr k.below hb, k.d.below hb, own_below k.o hb, k.n, k.g⟩
theorem SeI.put {w wr : World} {D : Nat} {dv dx : Value} {g : Nat} {l : List Bk} (h : SeI w wr D dv dx g l) (hw : w.heap.size ≤ D) {k : Nat} (hk : k < 4) (y : Bk) :
    SeI w ((((wr.setCell ⟨g, k * 4, none⟩ (.int .i64 y.ver)).setCell ⟨g, k * 4 + 1, none⟩ (.int .i64 y.mbal)).setCell ⟨g, k * 4 + 2, none⟩ (.int .i64 y.bal)).setCell ⟨g, k * 4 + 3, none⟩ (.int .i64 y.inp)) D dv dx g (l.set k y) := by
  have hgw : w.heap.size ≤ g := by have := h.g; omega
  have hk' : Keep (fun j => j = g) wr ((((wr.setCell ⟨g, k * 4, none⟩ (.int .i64 y.ver)).setCell ⟨g, k * 4 + 1, none⟩ (.int .i64 y.mbal)).setCell ⟨g, k * 4 + 2, none⟩ (.int .i64 y.bal)).setCell ⟨g, k * 4 + 3, none⟩ (.int .i64 y.inp)) :=
    ((((Keep.refl (fun j => j = g) wr).setCell (p := ⟨g, k * 4, none⟩) rfl _).setCell (p := ⟨g, k * 4 + 1, none⟩) rfl _).setCell (p := ⟨g, k * 4 + 2, none⟩) rfl _).setCell (p := ⟨g, k * 4 + 3, none⟩) rfl _
  exact ⟨below4 h.below hgw _ _ _ _ _ _ _ _, h.d.keep hk' (by have := h.g; omega), own_put h.o (by rw [h.n]; exact hk) y, by simp [h.n], h.g⟩

set_option maxHeartbeats 3200000 in
theorem blocksSeen_any (ao bo : Option Addr) (ca cb : Nat) (ss : List ByteArray) (xs : List Wr) (h : Int) (w : World) (hd : diskB ss xs = true) (h1 : Ss w ao ss) (h2 : Ios w bo xs) (hE : ErrW w) :
    Calls Tryz.prog 76 #[.agg #[.slice ao ss.length ca, .slice bo xs.length cb], .int .i64 h] w fun e w' => ∃ g, e = .returned (.slice (some ⟨g, 0, none⟩) 4 4) ∧ OwnR w' w.heap.size 96 4 (.slice (some ⟨g, 0, none⟩) 4 4) 4 (bksV (bksOf ss xs h)) ∧ Below w.heap.size w w' := by
  have H1 := hide h1
  have H2 := hide h2
  have HE := hide hE
  have HD := hide hd
  have HA := hide (Joins.below_alloc1 w (.cells #[.slice ao ss.length ca, .slice bo xs.length cb] 26))
  have HV := hide (VarD.new w (.slice ao ss.length ca) (.slice bo xs.length cb))
  clear h1 h2 hE hd
  obtain ⟨i0, hi, hz0, hz1, hz2⟩ := info_parts infoL
  go_enter Tryz.func76, Tryz.ntmps76
  go_wp2_with (first | (at_make; refine wpList_make_full _ rfl _ _ 64 rfl (w.heap.size + 1) 96 i0 _ 4 Tryz.underlying64 hi hz0 hz1 _ _ _ _ 4 rfl rfl rfl rfl ?c1 ?c2 ?c3 ?_))
  case c1 => rw [hz2]; omega
  case c2 => unfold maxLen; omega
  case c3 => simp
  intro w1 hown hgrow
  replace hown : w1.ownsRow (w.heap.size + 1) 96 4 (.slice (some ⟨w.heap.size + 1, 0, none⟩) 4 4) 4 (bksV [bk0, bk0, bk0, bk0]) := by rw [show bksV [bk0, bk0, bk0, bk0] = (madeCells #[Value.int .i64 0, Value.int .i64 0, Value.int .i64 0, Value.int .i64 0] 16).toList from made4.symm]; simpa using hown
  have hB : Below (w.alloc (.cells #[.slice ao ss.length ca, .slice bo xs.length cb] 26)).heap.size (w.alloc (.cells #[.slice ao ss.length ca, .slice bo xs.length cb] 26)) w1 := (Below.refl _ _).grown hgrow (Nat.le_refl _) (fun _ h => by cases h)
  have E1 : Hid (SeI w w1 w.heap.size (.slice ao ss.length ca) (.slice bo xs.length cb) (w.heap.size + 1) [bk0, bk0, bk0, bk0]) := hide ⟨fr (unhide HA) hB, (unhide HV).below hB, hown, rfl, Nat.le_refl _⟩
  clear hown hB hgrow HA HV
  revert E1
  generalize hG : w.heap.size + 1 = G
  replace hG := hide hG
  intro E1
  go_wp2
  go_loopw [6, 10] (fun _ i wr => ∃ (k : Nat) (l : List Bk), k ≤ 4 ∧ i = .int .i64 k ∧ Hid (SeI w wr w.heap.size (.slice ao ss.length ca) (.slice bo xs.length cb) G l) ∧ Hid (∀ j, j < k → l.getD j bk0 = (bksOf ss xs h).getD j bk0)) (fun _ i _ => 4 - (intOf i).toNat)
  case atStart => exact ⟨0, _, Nat.zero_le _, rfl, E1, hide (fun j hj => absurd hj (Nat.not_lt_zero _))⟩
  case round =>
    obtain ⟨k, l, hk, rfl, ER, HP⟩ := hrel
    by_cases hlt : k < 4
    · have hki : (k : Int) < 4 := by omega
      obtain ⟨T, HT⟩ : ∃ T, Hid (readV ss xs h (1 + (k : Int)) = T) := ⟨_, hide rfl⟩
      have HTZ : Hid (T.size ≤ 80) := hide (by rw [← unhide HT]; exact readV_size (unhide HD) h _)
      obtain ⟨d0, d1⟩ := (unhide ER).d.cells
      have wr1 : IntKind.i64.wrap (1 + (k : Int)) = 1 + (k : Int) := by rw [IntKind.wrap_i64]; omega
      go_wp2_with fail
      refine (seenAt ao bo ca cb ss xs h (1 + (k : Int)) T _ (unhide HD) (by omega) (by omega) (unhide HT) ((unhide H1).below (unhide ER).below) ((unhide H2).below (unhide ER).below)).mono ?_
      rintro e w2 ⟨rfl, hb2⟩
      have E2 := hide ((unhide ER).next hb2)
      clear hb2 d0 d1
      go_wp2_with fail
      refine (decodeBlock_impl T _ ((unhide HE).below (unhide E2).below)).mono ?_
      rintro e w3 ⟨rfl, hb3⟩
      rw [bcK_right (unhide HTZ)]
      have E3 := hide ((unhide E2).next hb3)
      have HB : Hid (bdK T = (bksOf ss xs h).getD k bk0) := hide (by rw [bksOf_at ss xs h hlt, unhide HT])
      clear hb3
      revert HB
      generalize bdK T = y
      intro HB
      have E4 := hide ((unhide E3).put (Nat.le_refl _) hlt y)
      have hkl : k < l.length := by rw [(unhide E3).n]; exact hlt
      obtain ⟨b', off', eb, _, g0, g1, g2, g3⟩ := (ownBks (B := w.heap.size + 1) (e := 96) (cap := 4) (xs := l) (by rw [(unhide E3).n]; exact .inr ⟨by omega, (unhide E3).o⟩)).get k hkl
      simp only [Option.some.injEq, Addr.mk.injEq, and_true] at eb
      obtain ⟨rfl, rfl⟩ := eb
      simp only [Nat.zero_add] at g0 g1 g2 g3
      have fz := (row_free (n := 3) (.inr ⟨by omega, (unhide E3).o⟩)).1
      have hnn : l.length = 4 := (unhide E3).n
      have HPP : Hid (∀ j, j < k + 1 → (l.set k y).getD j bk0 = (bksOf ss xs h).getD j bk0) := hide (fun j hj => by
        by_cases e : j = k
        · subst e; rw [← unhide HB]; simp [hkl]
        · rw [← unhide HP j (by omega)]; simp [Ne.symm e])
      clear hkl hnn
      have f0 := fz (k * 4)
      have f1 := fz (k * 4 + 1)
      have f2 := fz (k * 4 + 2)
      have f3 := fz (k * 4 + 3)
      clear fz
      go_wp2
      go_roundw
      case rel => exact ⟨k + 1, l.set k y, by omega, by go_num, E4, HPP⟩
      case measure => simp [intOf]; omega
    · have hk4 : k = 4 := by omega
      have HL : Hid (l = bksOf ss xs h) := hide (list4 (unhide ER).n rfl (fun j hj => unhide HP j (by omega)))
      have hki : ¬ (k : Int) < 4 := by omega
      clear hk4
      go_wp2
      go_ret
      refine ⟨_, rfl, ?_, (unhide ER).below⟩
      rw [← unhide HL]
      exact .inr ⟨by omega, own_base (unhide ER).o (Nat.le_succ _)⟩
end Go.Proofs.YtefnapcegeojoaaGreatDoor

namespace Go.Proofs.YtefnapcegeojoaaGreatDoor
open Go.RowKit
set_option linter.unusedVariables false
set_option maxRecDepth 100000

abbrev set14 (w : World) (x : Nat) (q : Pxs) (b s d : Value) (L : Ld) : World := ((((((set8 w x q).setCell ⟨x, 8, none⟩ b).setCell ⟨x, 9, none⟩ s).setCell ⟨x, 10, none⟩ d).setCell ⟨x, 11, none⟩ (.int .i64 L.ver)).setCell ⟨x, 12, none⟩ (.int .i64 L.own)).setCell ⟨x, 13, none⟩ (.int .i64 L.gen)
theorem keep14 (W : World) (x : Nat) (q : Pxs) (b s d : Value) (L : Ld) : Keep (fun j => j = x) W (set14 W x q b s d L) :=
  (((keep_set8 W x q).trans (keep_row _ x b)).trans (keep_disk _ x s d)).trans (keep_lead _ x _ _ _)
structure OpI (w W : World) (D : Nat) (dv dx : Value) : Prop where
  below : Below w.heap.size w W
  d : VarD W D dv dx
  r : VarS W (D + 1) p00 (.slice none 0 0) (.slice none 0 0) (.slice none 0 0) ld0
  k : w.heap.size ≤ D
theorem OpI.next {w W W' : World} {D : Nat} {dv dx : Value} (h : OpI w W D dv dx) (hb : Below W.heap.size W W') : OpI w W' D dv dx := ⟨fr h.below hb, h.d.below hb, h.r.below hb, h.k⟩
theorem OpI.last {w W : World} {D n m ca cb ba : Nat} {dv dx : Value} {bo ao qo : Option Addr} {bs : List Bk} {ss : List ByteArray} {xs : List Wr} (h : OpI w W D dv dx) (ho : OwnR W w.heap.size 96 4 (.slice bo 4 ba) 4 (bksV bs)) (hd : OwnD W w.heap.size ao n ca qo m cb ss xs) (q : Pxs) (b s d : Value) (L : Ld) :
    OwnR (set14 W (D + 1) q b s d L) w.heap.size 96 4 (.slice bo 4 ba) 4 (bksV bs) ∧ OwnD (set14 W (D + 1) q b s d L) w.heap.size ao n ca qo m cb ss xs ∧ Below w.heap.size w (set14 W (D + 1) q b s d L) :=
  have hk := keep14 W (D + 1) q b s d L
  ⟨rowX h.r ho hk, diskX h.r hd hk, h.below.trans (hk.below (B := w.heap.size) h.below.size (fun j e => by have e' : j = D + 1 := e; have := h.k; omega))⟩

set_option maxHeartbeats 1600000 in
theorem openStore_any (ao bo : Option Addr) (ca cb : Nat) (ss : List ByteArray) (xs : List Wr) (h : Int) (L : Ld) (w : World) (hL : ldOf ss xs h = L) (hd : diskB ss xs = true) (h1 : Ss w ao ss) (h2 : Ios w bo xs) (hE : ErrW w) :
    Calls Tryz.prog 36 #[.agg #[.slice ao ss.length ca, .slice bo xs.length cb], .int .i64 h] w fun e w' => ∃ g po pa ro ra, e = .returned (.agg #[.int .i64 h, .int .i64 0, .int .i64 0, .int .i64 0, .int .i64 0, .int .i64 0, .int .i64 0, .int .i64 0, .slice (some ⟨g, 0, none⟩) 4 4, .slice po ss.length pa, .slice ro xs.length ra, .int .i64 L.ver, .int .i64 L.own, .int .i64 L.gen]) ∧ OwnR w' w.heap.size 96 4 (.slice (some ⟨g, 0, none⟩) 4 4) 4 (bksV (bksOf ss xs h)) ∧ OwnD w' w.heap.size po ss.length pa ro xs.length ra ss xs ∧ Below w.heap.size w w' := by
  obtain ⟨l1, l2⟩ := diskB_len hd
  have HC1 := hide (fun W (hW : Below w.heap.size w W) => blocksSeen_any ao bo ca cb ss xs h W hd (h1.below hW) (h2.below hW) (hE.below hW))
  have HC2 := hide (fun W (hW : Below w.heap.size w W) => copyDisk_any ao bo ca cb ss xs W (by omega) (by omega) (h1.below hW) (h2.below hW))
  have HC3 := hide (fun W (hW : Below w.heap.size w W) => leaderSeen_any ao bo ca cb ss xs h L W hL hd (h1.below hW) (h2.below hW) (hE.below hW))
  have HA := hide (Joins.below_alloc2 w (.cells #[.slice ao ss.length ca, .slice bo xs.length cb] 26) (.cells #[.int .i64 0, .int .i64 0, .int .i64 0, .int .i64 0, .int .i64 0, .int .i64 0, .int .i64 0, .int .i64 0, .slice none 0 0, .slice none 0 0, .slice none 0 0, .int .i64 0, .int .i64 0, .int .i64 0] 68))
  have HS : Hid (OpI w ((w.alloc (.cells #[.slice ao ss.length ca, .slice bo xs.length cb] 26)).alloc (.cells #[.int .i64 0, .int .i64 0, .int .i64 0, .int .i64 0, .int .i64 0, .int .i64 0, .int .i64 0, .int .i64 0, .slice none 0 0, .slice none 0 0, .slice none 0 0, .int .i64 0, .int .i64 0, .int .i64 0] 68)) w.heap.size (.slice ao ss.length ca) (.slice bo xs.length cb)) :=
    hide ⟨unhide HA, (VarD.new w _ _).below (Joins.below_alloc1 _ _), by
      have := VarS.new (w.alloc (.cells #[.slice ao ss.length ca, .slice bo xs.length cb] 26)) p00 (.slice none 0 0) (.slice none 0 0) (.slice none 0 0) ld0
      simp only [World.size_alloc] at this
      exact this, Nat.le_refl _⟩
  clear hd h1 h2 hE hL l1 l2
  go_enter Tryz.func36, Tryz.ntmps36
  go_upto_region 1 with fail
  revert HS
  clear HA
  generalize (w.alloc (.cells #[.slice ao ss.length ca, .slice bo xs.length cb] 26)).alloc (.cells #[.int .i64 0, .int .i64 0, .int .i64 0, .int .i64 0, .int .i64 0, .int .i64 0, .int .i64 0, .int .i64 0, .slice none 0 0, .slice none 0 0, .slice none 0 0, .int .i64 0, .int .i64 0, .int .i64 0] 68) = W0
  intro HS
  obtain ⟨d0, d1⟩ := (unhide HS).d.cells
  replace HS := hide ((unhide HS).next (Below.refl _ W0).drew)
  go_region_held3 (fun w' => w'.cell? ⟨w.heap.size, 0, none⟩ = some (.slice ao ss.length ca) ∧ w'.cell? ⟨w.heap.size, 1, none⟩ = some (.slice bo xs.length cb)) (go_keep) (first
    | (go_at_call 76; refine (unhide HC1 _ (by exact (unhide HS).below)).mono ?_; rintro e wA ⟨g, rfl, ho, hb⟩; (try replace HO1 := hide ((unhide HO1).below hb)); (try replace HO2 := hide ((unhide HO2).below hb)); have HO1 := hide (ho.base (B' := w.heap.size) (unhide HS).below.size); replace HS := hide ((unhide HS).next hb); clear ho; clear hb; (try clear d0 d1); (first | (have u1 := HO1; have u2 := HO2; have u3 := HO3; clear u1 u2 u3; obtain ⟨r0, r1, r2, r3, r4, r5, r6, r7⟩ := (unhide HS).r.px; obtain ⟨r8, r9, r10, r11, r12, r13⟩ := (unhide HS).r.rest; have f0 := (unhide HS).r.free 0; have f1 := (unhide HS).r.free 1; have f2 := (unhide HS).r.free 2; have f3 := (unhide HS).r.free 3; have f4 := (unhide HS).r.free 4; have f5 := (unhide HS).r.free 5; have f6 := (unhide HS).r.free 6; have f7 := (unhide HS).r.free 7; have f8 := (unhide HS).r.free 8; have f9 := (unhide HS).r.free 9; have f10 := (unhide HS).r.free 10; have f11 := (unhide HS).r.free 11; have f12 := (unhide HS).r.free 12; have f13 := (unhide HS).r.free 13) | skip); obtain ⟨d0, d1⟩ := (unhide HS).d.cells)
    | (go_at_call 77; refine (unhide HC2 _ (by exact (unhide HS).below)).mono ?_; rintro e wA ⟨po, pa, ro, ra, rfl, ho, hb⟩; (try replace HO1 := hide ((unhide HO1).below hb)); (try replace HO2 := hide ((unhide HO2).below hb)); have HO2 := hide (ho.base (B' := w.heap.size) (unhide HS).below.size); replace HS := hide ((unhide HS).next hb); clear ho; clear hb; (try clear d0 d1); (first | (have u1 := HO1; have u2 := HO2; have u3 := HO3; clear u1 u2 u3; obtain ⟨r0, r1, r2, r3, r4, r5, r6, r7⟩ := (unhide HS).r.px; obtain ⟨r8, r9, r10, r11, r12, r13⟩ := (unhide HS).r.rest; have f0 := (unhide HS).r.free 0; have f1 := (unhide HS).r.free 1; have f2 := (unhide HS).r.free 2; have f3 := (unhide HS).r.free 3; have f4 := (unhide HS).r.free 4; have f5 := (unhide HS).r.free 5; have f6 := (unhide HS).r.free 6; have f7 := (unhide HS).r.free 7; have f8 := (unhide HS).r.free 8; have f9 := (unhide HS).r.free 9; have f10 := (unhide HS).r.free 10; have f11 := (unhide HS).r.free 11; have f12 := (unhide HS).r.free 12; have f13 := (unhide HS).r.free 13) | skip); obtain ⟨d0, d1⟩ := (unhide HS).d.cells)
    | (go_at_call 33; refine (unhide HC3 _ (by exact (unhide HS).below)).mono ?_; rintro e wA ⟨rfl, hb⟩; (try replace HO1 := hide ((unhide HO1).below hb)); (try replace HO2 := hide ((unhide HO2).below hb)); have HO3 : Hid True := hide trivial; replace HS := hide ((unhide HS).next hb); clear hb; (try clear d0 d1); (first | (have u1 := HO1; have u2 := HO2; have u3 := HO3; clear u1 u2 u3; obtain ⟨r0, r1, r2, r3, r4, r5, r6, r7⟩ := (unhide HS).r.px; obtain ⟨r8, r9, r10, r11, r12, r13⟩ := (unhide HS).r.rest; have f0 := (unhide HS).r.free 0; have f1 := (unhide HS).r.free 1; have f2 := (unhide HS).r.free 2; have f3 := (unhide HS).r.free 3; have f4 := (unhide HS).r.free 4; have f5 := (unhide HS).r.free 5; have f6 := (unhide HS).r.free 6; have f7 := (unhide HS).r.free 7; have f8 := (unhide HS).r.free 8; have f9 := (unhide HS).r.free 9; have f10 := (unhide HS).r.free 10; have f11 := (unhide HS).r.free 11; have f12 := (unhide HS).r.free 12; have f13 := (unhide HS).r.free 13) | skip); obtain ⟨d0, d1⟩ := (unhide HS).d.cells))
  all_goals
    have HF := hide (OpI.last (unhide HS) (unhide HO1) (unhide HO2) ⟨h, 0, 0, 0, 0, 0, 0, 0⟩ (.slice (some ⟨g, 0, none⟩) 4 4) (.slice po ss.length pa) (.slice ro xs.length ra) L)
    go_wp2
    exact bodyPost_ret (v := .agg #[.int .i64 h, .int .i64 0, .int .i64 0, .int .i64 0, .int .i64 0, .int .i64 0, .int .i64 0, .int .i64 0, .slice (some ⟨g, 0, none⟩) 4 4, .slice po ss.length pa, .slice ro xs.length ra, .int .i64 L.ver, .int .i64 L.own, .int .i64 L.gen]) (by simp [results, Tryz.results36, go_sem, r0, r1, r2, r3, r4, r5, r6, r7, r8, r9, r10, r11, r12, r13]) rfl ⟨g, po, pa, ro, ra, rfl, (unhide HF).1, (unhide HF).2.1, (unhide HF).2.2⟩

end Go.Proofs.YtefnapcegeojoaaGreatDoor
