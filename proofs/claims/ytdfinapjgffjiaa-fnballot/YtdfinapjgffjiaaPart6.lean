import Derived.Test.YtdfinapjgffjiaaRows
import Derived.Test.YtdfinapjgffjiaaPart1
import Derived.Test.YtdfinapjgffjiaaPart3
import Derived.Test.YtdfinapjgffjiaaPart4
import Derived.Test.YtdfinapjgffjiaaPart5
import Derived.WalkKit
import Derived.WalkSpells
import Derived.KernelRfl
import Derived.BigQuiet
import Derived.Deep.QuietTactic
import Derived.Deep.RegionWith
import Derived.Deep.RegionHeld3
import Derived.Deep.CutRange

/- Contract of spec's l05Step. -/
namespace Go.Proofs.Ytdfinapjgffjiaa
open Go.RowKit
set_option linter.unusedVariables false
set_option maxRecDepth 100000

theorem infoK : (Try.prog.info? 35).map (fun i => (i.zero, i.size, i.bytes)) = some (some (.agg #[.int .i64 0, .int .i64 0, .int .i64 0, .int .i64 0]), 4, 32) := by kernel_rfl

/-- The new row, a ballot's variable, the answer's. -/
structure StAt (w W : World) (x : Nat) (p : Pxs) (qo : Option Addr) (qa : Nat) (bs : List Bk) : Prop where
  a : PxAt w W x p
  o : OwnR W (x + 2) 35 4 (.slice qo 4 qa) 4 (bksV bs)
theorem StAt.below {w W W' : World} {x : Nat} {p : Pxs} {qo : Option Addr} {qa : Nat} {bs : List Bk} (h : StAt w W x p qo qa bs) (hb : Below W.heap.size W W') : StAt w W' x p qo qa bs := ⟨h.a.below hb, h.o.below hb⟩
/-- The answer is stored. -/
theorem StAt.out {w W : World} {x : Nat} {p : Pxs} {qo : Option Addr} {qa : Nat} {bs : List Bk} (h : StAt w W x p qo qa bs) (u0 u1 u2 u3 u4 u5 u6 u7 : Value) :
    OwnR ((((((((W.setCell ⟨x + 1, 0, none⟩ u0).setCell ⟨x + 1, 1, none⟩ u1).setCell ⟨x + 1, 2, none⟩ u2).setCell ⟨x + 1, 3, none⟩ u3).setCell ⟨x + 1, 4, none⟩ u4).setCell ⟨x + 1, 5, none⟩ u5).setCell ⟨x + 1, 6, none⟩ u6).setCell ⟨x + 1, 7, none⟩ u7) w.heap.size 35 4 (.slice qo 4 qa) 4 (bksV bs) ∧
    Below w.heap.size w ((((((((W.setCell ⟨x + 1, 0, none⟩ u0).setCell ⟨x + 1, 1, none⟩ u1).setCell ⟨x + 1, 2, none⟩ u2).setCell ⟨x + 1, 3, none⟩ u3).setCell ⟨x + 1, 4, none⟩ u4).setCell ⟨x + 1, 5, none⟩ u5).setCell ⟨x + 1, 6, none⟩ u6).setCell ⟨x + 1, 7, none⟩ u7) := by
  have hg := h.a.ge
  refine ⟨?_, below8 h.a.k (by omega) _ _ _ _ _ _ _ _⟩
  exact OwnR.base ((((((((h.o.setCell (a := ⟨x + 1, 0, none⟩) (by simp) u0).setCell (a := ⟨x + 1, 1, none⟩) (by simp) u1).setCell (a := ⟨x + 1, 2, none⟩) (by simp) u2).setCell (a := ⟨x + 1, 3, none⟩) (by simp) u3).setCell (a := ⟨x + 1, 4, none⟩) (by simp) u4).setCell (a := ⟨x + 1, 5, none⟩) (by simp) u5).setCell (a := ⟨x + 1, 6, none⟩) (by simp) u6).setCell (a := ⟨x + 1, 7, none⟩) (by simp) u7) (by omega)
theorem StAt.ph {w W : World} {x : Nat} {p : Pxs} {qo : Option Addr} {qa : Nat} {bs : List Bk} (h : StAt w W x p qo qa bs) (n : Int) : StAt w (W.setCell ⟨x, 2, none⟩ (.int .i64 n)) x { p with phase := n } qo qa bs :=
  ⟨h.a.set 2 _ _ (h.a.v.set2 n), h.o.setCell (a := ⟨x, 2, none⟩) (by simp) _⟩
theorem StAt.bks {w W : World} {x : Nat} {p : Pxs} {qo : Option Addr} {qa : Nat} {bs : List Bk} (h : StAt w W x p qo qa bs) (h4 : bs.length = 4) : Bks W qo bs := by
  exact ownBks (B := x + 2) (e := 35) (cap := qa) (by rw [h4]; exact h.o)
/-- A block is stored into the row. -/
theorem own_put {w : World} {B t n cap g : Nat} {bs : List Bk} (h : w.ownsRow B t 4 (.slice (some ⟨g, 0, none⟩) n cap) n (bksV bs)) {k : Nat} (hk : k < bs.length) (y : Bk) :
    ((((w.setCell ⟨g, k * 4, none⟩ (.int .i64 y.ver)).setCell ⟨g, k * 4 + 1, none⟩ (.int .i64 y.mbal)).setCell ⟨g, k * 4 + 2, none⟩ (.int .i64 y.bal)).setCell ⟨g, k * 4 + 3, none⟩ (.int .i64 y.inp)).ownsRow B t 4 (.slice (some ⟨g, 0, none⟩) n cap) n (bksV (bs.set k y)) := by
  rw [← bksV_set hk y]
  have h3 := stored3 h (k * 4) (k * 4 + 1) (k * 4 + 2) (.int .i64 y.ver) (.int .i64 y.mbal) (.int .i64 y.bal)
  exact (h3.stored (k * 4 + 3) (.int .i64 y.inp)).1

theorem StAt.put {w W : World} {x : Nat} {p : Pxs} {g qa : Nat} {bs : List Bk} (h : StAt w W x p (some ⟨g, 0, none⟩) qa bs) {k : Nat} (hk : k < bs.length) (y : Bk) :
    StAt w ((((W.setCell ⟨g, k * 4, none⟩ (.int .i64 y.ver)).setCell ⟨g, k * 4 + 1, none⟩ (.int .i64 y.mbal)).setCell ⟨g, k * 4 + 2, none⟩ (.int .i64 y.bal)).setCell ⟨g, k * 4 + 3, none⟩ (.int .i64 y.inp)) x p (some ⟨g, 0, none⟩) qa (bs.set k y) := by
  have hg := (h.o.ge g (own_of (by omega) rfl)).1
  have hx := h.a.ge
  have kk : Keep (fun j => j = g) W ((((W.setCell ⟨g, k * 4, none⟩ (.int .i64 y.ver)).setCell ⟨g, k * 4 + 1, none⟩ (.int .i64 y.mbal)).setCell ⟨g, k * 4 + 2, none⟩ (.int .i64 y.bal)).setCell ⟨g, k * 4 + 3, none⟩ (.int .i64 y.inp)) :=
    ((((Keep.refl (fun j => j = g) W).setCell (p := ⟨g, k * 4, none⟩) rfl _).setCell (p := ⟨g, k * 4 + 1, none⟩) rfl _).setCell (p := ⟨g, k * 4 + 2, none⟩) rfl _).setCell (p := ⟨g, k * 4 + 3, none⟩) rfl _
  refine ⟨⟨h.a.v.keep kk (by show ¬ x = g; omega), h.a.r.keep kk (by show ¬ x + 1 = g; omega), ?_, h.a.ge⟩, ?_⟩
  · exact below4 h.a.k (by omega) _ _ _ _ _ _ _ _
  · rcases h.o with ⟨h0, _, _⟩ | ⟨h0, ho⟩
    · omega
    · exact .inr ⟨h0, own_put ho hk y⟩
theorem StAt.at {w W : World} {x : Nat} {p : Pxs} {qo : Option Addr} {qa : Nat} {bs : List Bk} (h : StAt w W x p qo qa bs) : ∃ g, qo = some ⟨g, 0, none⟩ ∧ x + 2 ≤ g ∧ g < W.heap.size := by
  rcases h.o with ⟨h0, _, _⟩ | ⟨h0, ho⟩
  · omega
  · obtain ⟨g, cap, cur, e, hB, hg⟩ := own_form h0 ho
    simp only [Value.slice.injEq, true_and] at e
    exact ⟨g, e.1, hB, (Array.getElem?_eq_some_iff.1 hg).1⟩

theorem row_free {W : World} {B t n cap g : Nat} {xs : List Value} (h : OwnR W B t 4 (.slice (some ⟨g, 0, none⟩) (n + 1) cap) (n + 1) xs) : (∀ i, W.frozen? ⟨g, i, none⟩ = false) ∧ True ∧ True ∧ True := by
  rcases h with ⟨h0, _, _⟩ | ⟨h0, ho⟩
  · omega
  · obtain ⟨g', cap', cur, e, hB, hg⟩ := own_form h0 ho
    simp only [Value.slice.injEq, Option.some.injEq, Addr.mk.injEq, and_true] at e
    obtain ⟨rfl, _⟩ := e
    exact ⟨fun i => Joins.unfrozen_of_block hg i, trivial, trivial, trivial⟩
theorem step_fin {w W' : World} {p p' : Pxs} {bs bs' : List Bk} {c : Int} {qo : Option Addr} {qa : Nat} (hE : pxStepP p bs = (p', bs')) (hC : stEnd p = c) (hO : OwnR W' w.heap.size 35 4 (.slice qo 4 qa) 4 (bksV bs') ∧ Below w.heap.size w W') :
    ∃ qo' qa', Ending.returned (.tuple #[pV p', .slice qo 4 qa, .int .i64 c]) = .returned (.tuple #[pV (pxStepP p bs).1, .slice qo' 4 qa', .int .i64 (stEnd p)]) ∧ OwnR W' w.heap.size 35 4 (.slice qo' 4 qa') 4 (bksV (pxStepP p bs).2) ∧ Below w.heap.size w W' :=
  ⟨qo, qa, by rw [hE, hC], by rw [hE]; exact hO.1, hO.2⟩

set_option maxHeartbeats 6400000 in
theorem l05Step_any (p : Pxs) (ao : Option Addr) (n cap : Nat) (bs : List Bk) (w : World) (hn : bs.length = n) (h4 : n = 4) (hh : 0 ≤ p.host ∧ p.host ≤ 3) (hx : 0 ≤ p.next ∧ p.next ≤ 4) (hr : Bks w ao bs) :
    Calls Try.prog 31 #[pV p, .slice ao n cap] w fun e w' => ∃ qo qa, e = .returned (.tuple #[pV (pxStepP p bs).1, .slice qo 4 qa, .int .i64 (stEnd p)]) ∧ OwnR w' w.heap.size 35 4 (.slice qo 4 qa) 4 (bksV (pxStepP p bs).2) ∧ Below w.heap.size w w' := by
  have H0 : Hid (PxAt w ((w.alloc (.cells #[.int .i64 p.host, .int .i64 p.ver, .int .i64 p.phase, .int .i64 p.ballot, .int .i64 p.value, .int .i64 p.next, .int .i64 p.best, .int .i64 p.bestBal] 24)).alloc (.cells #[.int .i64 0, .int .i64 0, .int .i64 0, .int .i64 0, .int .i64 0, .int .i64 0, .int .i64 0, .int .i64 0] 24)) w.heap.size p) :=
    hide ⟨(VarP.new w _ p).below (Joins.below_alloc1 _ _), by
      have := VarP.new0 (w.alloc (.cells #[.int .i64 p.host, .int .i64 p.ver, .int .i64 p.phase, .int .i64 p.ballot, .int .i64 p.value, .int .i64 p.next, .int .i64 p.best, .int .i64 p.bestBal] 24)) 24
      simp only [World.size_alloc] at this
      exact this, Joins.below_alloc2 _ _ _, Nat.le_refl _⟩
  have HR := hide hr
  clear hr
  subst h4
  have HN := hide hn
  clear hn
  obtain ⟨i0, hi, hz0, hz1, hz2⟩ := info_parts infoK
  go_enter Try.func31, Try.ntmps31
  go_upto_region 1 with fail
  have hs0 : Hid (((w.alloc (.cells #[.int .i64 p.host, .int .i64 p.ver, .int .i64 p.phase, .int .i64 p.ballot, .int .i64 p.value, .int .i64 p.next, .int .i64 p.best, .int .i64 p.bestBal] 24)).alloc (.cells #[.int .i64 0, .int .i64 0, .int .i64 0, .int .i64 0, .int .i64 0, .int .i64 0, .int .i64 0, .int .i64 0] 24)).heap.size = w.heap.size + 2) := hide (by simp)
  revert H0 hs0
  generalize (w.alloc (.cells #[.int .i64 p.host, .int .i64 p.ver, .int .i64 p.phase, .int .i64 p.ballot, .int .i64 p.value, .int .i64 p.next, .int .i64 p.best, .int .i64 p.bestBal] 24)).alloc (.cells #[.int .i64 0, .int .i64 0, .int .i64 0, .int .i64 0, .int .i64 0, .int .i64 0, .int .i64 0, .int .i64 0] 24) = W0
  intro H0 hs0
  go_upto_region 2 with (at_builtin; refine wpList_append_fresh rfl _ _ 26 rfl 35 i0 (.agg #[.int .i64 0, .int .i64 0, .int .i64 0, .int .i64 0]) 4 32 Try.underlying26 hi hz0 hz1 hz2 rfl (by omega) rfl ao 4 cap (bksV bs) rfl (by rw [bksV_length, unhide HN]) (fun _ => Bks.src ((unhide HR).below (by repeat (first | exact (unhide H0).k | refine belowAl ?_ _))) (by rw [unhide HN]; omega)) (by unfold maxLen; omega) (by omega) ?_; intro qo qa W1 ho hg)
  have E1 : Hid (StAt w W1 w.heap.size p qo qa bs) := hide ⟨(unhide H0).below (belowGr (belowAl (Below.refl _ _) _) hg), ho.base (by have := unhide hs0; simp; omega)⟩
  clear ho hg H0 hs0 HR
  obtain ⟨g, rfl, hg2, hgl⟩ := (unhide E1).at
  obtain ⟨c0, c1, c2, c3, c4, c5, c6, c7⟩ := (unhide E1).a.v.cells
  obtain ⟨f0, f1, f2, f3, f4, f5, f6, f7⟩ := (unhide E1).a.v.free
  obtain ⟨r0, r1, r2, r3, r4, r5, r6, r7⟩ := (unhide E1).a.r.cells
  obtain ⟨s0, s1, s2, s3, s4, s5, s6, s7⟩ := (unhide E1).a.r.free
  by_cases h56 : p.phase = 5 ∨ p.phase = 6
  · have HE : Hid (pxStepP p bs = (p, bs) ∧ stEnd p = 15) := hide ⟨pxStepP_end bs h56, if_pos h56⟩
    have HO := hide (fun u0 u1 u2 u3 u4 u5 u6 u7 => (unhide E1).out u0 u1 u2 u3 u4 u5 u6 u7)
    rcases h56 with h5 | h6
    · have b5 : (p.phase == 5) = true := by simp [h5]
      clear h5
      go_wp2
      exact bodyPost_ret (v := .tuple #[pV p, .slice (some ⟨g, 0, none⟩) 4 qa, .int .i64 15]) (by simp [results, Try.results31, go_sem, r0, r1, r2, r3, r4, r5, r6, r7]) rfl (step_fin (unhide HE).1 (unhide HE).2 (unhide HO _ _ _ _ _ _ _ _))
    · have b5 : (p.phase == 5) = false := by simp [h6]
      have b6 : (p.phase == 6) = true := by simp [h6]
      clear h6
      go_wp2
      exact bodyPost_ret (v := .tuple #[pV p, .slice (some ⟨g, 0, none⟩) 4 qa, .int .i64 15]) (by simp [results, Try.results31, go_sem, r0, r1, r2, r3, r4, r5, r6, r7]) rfl (step_fin (unhide HE).1 (unhide HE).2 (unhide HO _ _ _ _ _ _ _ _))
  have HE0 : Hid (stEnd p = 0) := hide (if_neg h56)
  have n5 : (p.phase == 5) = false := by simp; exact fun h => h56 (.inl h)
  have n6 : (p.phase == 6) = false := by simp; exact fun h => h56 (.inr h)
  by_cases h24 : p.phase = 2 ∨ p.phase = 4
  · have HE : Hid (pxStepP p bs = (pxRd p bs, bs)) := hide (pxStepP_rd bs h24)
    clear h56
    have HB := hide ((unhide E1).bks (unhide HN))
    rcases h24 with h2 | h4
    · have b2 : (p.phase == 2) = true := by simp [h2]
      clear h2
      go_wp2_with fail
      refine (l05Read_any p (some ⟨g, 0, none⟩) 4 qa bs _ (unhide HN) rfl hh hx (unhide HB)).mono ?_
      rintro e W2 ⟨rfl, hb⟩
      have E2 := hide ((unhide E1).below hb)
      clear hb c0 c1 c2 c3 c4 c5 c6 c7 f0 f1 f2 f3 f4 f5 f6 f7 r0 r1 r2 r3 r4 r5 r6 r7 s0 s1 s2 s3 s4 s5 s6 s7
      obtain ⟨r0, r1, r2, r3, r4, r5, r6, r7⟩ := (unhide E2).a.r.cells
      obtain ⟨s0, s1, s2, s3, s4, s5, s6, s7⟩ := (unhide E2).a.r.free
      have HO := hide (fun u0 u1 u2 u3 u4 u5 u6 u7 => (unhide E2).out u0 u1 u2 u3 u4 u5 u6 u7)
      go_wp2
      exact bodyPost_ret (v := .tuple #[pV (pxRd p bs), .slice (some ⟨g, 0, none⟩) 4 qa, .int .i64 0]) (by simp [results, Try.results31, go_sem, r0, r1, r2, r3, r4, r5, r6, r7]) rfl (step_fin (unhide HE) (unhide HE0) (unhide HO _ _ _ _ _ _ _ _))
    · have b2 : (p.phase == 2) = false := by simp [h4]
      have b4 : (p.phase == 4) = true := by simp [h4]
      clear h4
      go_wp2_with fail
      refine (l05Read_any p (some ⟨g, 0, none⟩) 4 qa bs _ (unhide HN) rfl hh hx (unhide HB)).mono ?_
      rintro e W2 ⟨rfl, hb⟩
      have E2 := hide ((unhide E1).below hb)
      clear hb c0 c1 c2 c3 c4 c5 c6 c7 f0 f1 f2 f3 f4 f5 f6 f7 r0 r1 r2 r3 r4 r5 r6 r7 s0 s1 s2 s3 s4 s5 s6 s7
      obtain ⟨r0, r1, r2, r3, r4, r5, r6, r7⟩ := (unhide E2).a.r.cells
      obtain ⟨s0, s1, s2, s3, s4, s5, s6, s7⟩ := (unhide E2).a.r.free
      have HO := hide (fun u0 u1 u2 u3 u4 u5 u6 u7 => (unhide E2).out u0 u1 u2 u3 u4 u5 u6 u7)
      go_wp2
      exact bodyPost_ret (v := .tuple #[pV (pxRd p bs), .slice (some ⟨g, 0, none⟩) 4 qa, .int .i64 0]) (by simp [results, Try.results31, go_sem, r0, r1, r2, r3, r4, r5, r6, r7]) rfl (step_fin (unhide HE) (unhide HE0) (unhide HO _ _ _ _ _ _ _ _))
  have n2 : (p.phase == 2) = false := by simp; exact fun h => h24 (.inl h)
  have n4 : (p.phase == 4) = false := by simp; exact fun h => h24 (.inr h)
  have HE : Hid (pxStepP p bs = (if pxNo p (pxOwn p bs) then ({ p with phase := 6 }, bs) else (pxW1 p (pxOwn p bs), bs.set p.host.toNat (pxW2 p (pxOwn p bs))))) := hide (by unfold pxStepP; rw [if_neg h56, if_neg h24])
  clear h56 h24
  obtain ⟨k, hk⟩ : ∃ k : Nat, p.host = k := ⟨p.host.toNat, by omega⟩
  have hk4 : k < 4 := by omega
  have hk5 : (k : Int) < 4 := by omega
  have hk6 : (0 : Int) ≤ (k : Int) := by omega
  have hkl : k < bs.length := by have := unhide HN; omega
  rw [show p.host.toNat = k by omega] at HE
  have HOW : Hid (pxOwn p bs = bkOf (bs.getD k bk0) p.ver) := hide (by unfold pxOwn; rw [show p.host.toNat = k by omega])
  obtain ⟨b', off', eb, _, g0, g1, g2, g3⟩ := ((unhide E1).bks (unhide HN)).get k hkl
  simp only [Option.some.injEq, Addr.mk.injEq, and_true] at eb
  obtain ⟨rfl, rfl⟩ := eb
  simp only [Nat.zero_add] at g0 g1 g2 g3
  rw [hk] at c0
  revert HOW g0 g1 g2 g3
  generalize bs.getD k bk0 = y
  intro HOW g0 g1 g2 g3
  have hxl : w.heap.size < W1.heap.size := (unhide E1).a.v.lt
  have hxl1 : w.heap.size + 1 < W1.heap.size := (unhide E1).a.r.lt
  have hxn : w.heap.size ≠ W1.heap.size := by omega
  have hxn' : W1.heap.size ≠ w.heap.size := by omega
  have hgn : g ≠ W1.heap.size := by omega
  have hgn' : W1.heap.size ≠ g := by omega
  clear hkl
  go_upto_region 9 with fail
  go_cut [8] from 14 to 35 (fun c wx => ∃ C : Nat, c = .pointer (some ⟨C, 0, none⟩) ∧ Hid (Got W1 wx C 35 (bkOf y p.ver)))
  case first =>
    go_region_held3 (fun w' => w'.cell? ⟨w.heap.size, 0, none⟩ = some (.int .i64 (k : Int)) ∧ w'.cell? ⟨w.heap.size, 1, none⟩ = some (.int .i64 p.ver) ∧ w'.cell? ⟨g, k * 4, none⟩ = some (.int .i64 y.ver) ∧ w'.cell? ⟨g, k * 4 + 1, none⟩ = some (.int .i64 y.mbal) ∧ w'.cell? ⟨g, k * 4 + 2, none⟩ = some (.int .i64 y.bal) ∧ w'.cell? ⟨g, k * 4 + 3, none⟩ = some (.int .i64 y.inp)) (go_keep)
      ((go_at_call 54; refine (l05Of_any y p.ver _).mono ?_; rintro e w2 ⟨rfl, hb2⟩; (first | (have hv2 : VarB w2 W1.heap.size 35 bk0 := (by exact ((VarB.new0 W1 _).below ((Below.refl _ _).drew)).below hb2); obtain ⟨x0, x1, x2, x3⟩ := hv2.cells; obtain ⟨y0, y1, y2, y3⟩ := hv2.free; have HB2 : Hid (Below W1.heap.size W1 w2) := (by exact hide (fr (Joins.below_alloc1 W1 _).drew hb2)); have HV2 := hide hv2; clear hv2 hb2) | (have HB2 : Hid (Below W1.heap.size W1 w2) := (by exact hide (fr ((Below.refl _ W1).drew) hb2)); clear hb2)); have m0 := ((unhide HB2).cell (p := ⟨w.heap.size, 0, none⟩) hxl).trans c0; have m1 := ((unhide HB2).cell (p := ⟨w.heap.size, 1, none⟩) hxl).trans c1; have m2 := ((unhide HB2).cell (p := ⟨g, k * 4, none⟩) hgl).trans g0; have m3 := ((unhide HB2).cell (p := ⟨g, k * 4 + 1, none⟩) hgl).trans g1; have m4 := ((unhide HB2).cell (p := ⟨g, k * 4 + 2, none⟩) hgl).trans g2; have m5 := ((unhide HB2).cell (p := ⟨g, k * 4 + 3, none⟩) hgl).trans g3))
    all_goals
      go_wp2_with fail
      go_meet
      first
        | exact ⟨_, rfl, hide (Got.set bk0 (unhide HB2) (unhide HV2) (Nat.le_refl _))⟩
        | exact ⟨_, rfl, hide (Got.top _ _ (unhide HB2))⟩
  case rest =>
    obtain ⟨C, rfl, HG⟩ := hcut
    rename World => W2
    have E2 := hide ((unhide E1).below (unhide HG).k)
    have hCg : W1.heap.size ≤ C := (unhide HG).gt
    have hC0 : C ≠ w.heap.size := by omega
    have hC0' : w.heap.size ≠ C := by omega
    have hC1 : C ≠ w.heap.size + 1 := by omega
    have hC1' : w.heap.size + 1 ≠ C := by omega
    clear c0 c1 c2 c3 c4 c5 c6 c7 f0 f1 f2 f3 f4 f5 f6 f7 r0 r1 r2 r3 r4 r5 r6 r7 s0 s1 s2 s3 s4 s5 s6 s7 g0 g1 g2 g3 hxn hxn' hgn hgn' hk4
    obtain ⟨c0, c1, c2, c3, c4, c5, c6, c7⟩ := (unhide E2).a.v.cells
    obtain ⟨f0, f1, f2, f3, f4, f5, f6, f7⟩ := (unhide E2).a.v.free
    obtain ⟨r0, r1, r2, r3, r4, r5, r6, r7⟩ := (unhide E2).a.r.cells
    obtain ⟨s0, s1, s2, s3, s4, s5, s6, s7⟩ := (unhide E2).a.r.free
    obtain ⟨v0, v1, v2, v3⟩ := (unhide HG).v.cells
    rw [unhide HOW] at HE
    have HG2 := HG
    revert HE v0 v1 v2 v3 HG2
    clear HG HOW
    generalize bkOf y p.ver = z
    intro HE v0 v1 v2 v3 HG2
    have HK := hide hk
    by_cases ha : pxNo p z
    · have HEE : Hid (pxStepP p bs = ({ p with phase := 6 }, bs)) := hide ((unhide HE).trans (if_pos ha))
      have HO := hide (fun u0 u1 u2 u3 u4 u5 u6 u7 => ((unhide E2).ph 6).out u0 u1 u2 u3 u4 u5 u6 u7)
      clear hk
      by_cases q1 : p.ver < z.ver
      · clear ha
        go_wp2
        exact bodyPost_ret (v := .tuple #[pV { p with phase := 6 }, .slice (some ⟨g, 0, none⟩) 4 qa, .int .i64 0]) (by simp [results, Try.results31, go_sem, r0, r1, r2, r3, r4, r5, r6, r7]) rfl (step_fin (unhide HEE) (unhide HE0) (unhide HO _ _ _ _ _ _ _ _))
      by_cases q2 : p.ballot < z.mbal
      · clear ha
        go_wp2
        exact bodyPost_ret (v := .tuple #[pV { p with phase := 6 }, .slice (some ⟨g, 0, none⟩) 4 qa, .int .i64 0]) (by simp [results, Try.results31, go_sem, r0, r1, r2, r3, r4, r5, r6, r7]) rfl (step_fin (unhide HEE) (unhide HE0) (unhide HO _ _ _ _ _ _ _ _))
      by_cases q3 : p.phase = 1
      · have q4 : z.mbal = p.ballot := by
          rcases ha with h | h | h | h
          · exact absurd h q1
          · exact absurd h q2
          · exact h.2
          · rw [q3] at h; exact absurd h.1 (by decide)
        have q4b : (z.mbal == p.ballot) = true := by simp [q4]
        have q3b : (p.phase == 1) = true := by simp [q3]
        clear ha q4 q3
        go_wp2
        exact bodyPost_ret (v := .tuple #[pV { p with phase := 6 }, .slice (some ⟨g, 0, none⟩) 4 qa, .int .i64 0]) (by simp [results, Try.results31, go_sem, r0, r1, r2, r3, r4, r5, r6, r7]) rfl (step_fin (unhide HEE) (unhide HE0) (unhide HO _ _ _ _ _ _ _ _))
      · have q5 : p.phase = 3 ∧ z.mbal ≠ p.ballot := by
          rcases ha with h | h | h | h
          · exact absurd h q1
          · exact absurd h q2
          · exact absurd h.1 q3
          · exact h
        obtain ⟨q5, q6⟩ := q5
        have q6b : (z.mbal == p.ballot) = false := by simp [q6]
        have q6c : (z.mbal != p.ballot) = true := by simp [q6]
        have q3b : (p.phase == 1) = false := by simp [q3]
        have q5b : (p.phase == 3) = true := by simp [q5]
        clear ha q6 q3 q5
        go_wp2
        exact bodyPost_ret (v := .tuple #[pV { p with phase := 6 }, .slice (some ⟨g, 0, none⟩) 4 qa, .int .i64 0]) (by simp [results, Try.results31, go_sem, r0, r1, r2, r3, r4, r5, r6, r7]) rfl (step_fin (unhide HEE) (unhide HE0) (unhide HO _ _ _ _ _ _ _ _))
    · have HEE : Hid (pxStepP p bs = (pxW1 p z, bs.set k (pxW2 p z))) := hide ((unhide HE).trans (if_neg ha))
      clear HE hk
      have q1 : ¬ p.ver < z.ver := fun h => ha (.inl h)
      have q2 : ¬ p.ballot < z.mbal := fun h => ha (.inr (.inl h))
      have q3 : ¬ (p.phase = 1 ∧ z.mbal = p.ballot) := fun h => ha (.inr (.inr (.inl h)))
      have q4 : ¬ (p.phase = 3 ∧ z.mbal ≠ p.ballot) := fun h => ha (.inr (.inr (.inr h)))
      clear ha
      by_cases t1 : p.phase = 1
      · have u1 : (p.phase == 1) = true := by simp [t1]
        have u2 : (z.mbal == p.ballot) = false := by simp; exact fun h => q3 ⟨t1, h⟩
        have u3 : (p.phase == 3) = false := by simp [t1]
        clear q3 q4 t1
        go_wp2_with fail
        refine (l05Write_any p z _).mono ?_
        rintro e W3 ⟨rfl, hb⟩
        have E3 := hide ((unhide E2).below hb)
        have HB3 := hide hb
        clear hb c0 c1 c2 c3 c4 c5 c6 c7 f0 f1 f2 f3 f4 f5 f6 f7 r0 r1 r2 r3 r4 r5 r6 r7 s0 s1 s2 s3 s4 s5 s6 s7 v0 v1 v2 v3
        generalize pxW1 p z = P1 at *
        generalize pxW2 p z = B1 at *
        have E4 := hide ((unhide E3).below (Joins.below_alloc2 W3 (.cells #[.int .i64 P1.host, .int .i64 P1.ver, .int .i64 P1.phase, .int .i64 P1.ballot, .int .i64 P1.value, .int .i64 P1.next, .int .i64 P1.best, .int .i64 P1.bestBal] 24) (.cells #[.int .i64 B1.ver, .int .i64 B1.mbal, .int .i64 B1.bal, .int .i64 B1.inp] 35)))
        have VP : Hid (VarP ((W3.alloc (.cells #[.int .i64 P1.host, .int .i64 P1.ver, .int .i64 P1.phase, .int .i64 P1.ballot, .int .i64 P1.value, .int .i64 P1.next, .int .i64 P1.best, .int .i64 P1.bestBal] 24)).alloc (.cells #[.int .i64 B1.ver, .int .i64 B1.mbal, .int .i64 B1.bal, .int .i64 B1.inp] 35)) W3.heap.size 24 P1) := hide ((VarP.new W3 _ P1).below (Joins.below_alloc1 _ _))
        have VB : Hid (VarB ((W3.alloc (.cells #[.int .i64 P1.host, .int .i64 P1.ver, .int .i64 P1.phase, .int .i64 P1.ballot, .int .i64 P1.value, .int .i64 P1.next, .int .i64 P1.best, .int .i64 P1.bestBal] 24)).alloc (.cells #[.int .i64 B1.ver, .int .i64 B1.mbal, .int .i64 B1.bal, .int .i64 B1.inp] 35)) (W3.heap.size + 1) 35 B1) := hide (by
          have := VarB.new (W3.alloc (.cells #[.int .i64 P1.host, .int .i64 P1.ver, .int .i64 P1.phase, .int .i64 P1.ballot, .int .i64 P1.value, .int .i64 P1.next, .int .i64 P1.best, .int .i64 P1.bestBal] 24)) 35 B1
          simp only [World.size_alloc] at this
          exact this)
        go_upto_region 14 with fail
        revert E4 VP VB
        generalize (W3.alloc (.cells #[.int .i64 P1.host, .int .i64 P1.ver, .int .i64 P1.phase, .int .i64 P1.ballot, .int .i64 P1.value, .int .i64 P1.next, .int .i64 P1.best, .int .i64 P1.bestBal] 24)).alloc (.cells #[.int .i64 B1.ver, .int .i64 B1.mbal, .int .i64 B1.bal, .int .i64 B1.inp] 35) = W4
        have hD : W1.heap.size ≤ W3.heap.size := Nat.le_trans (unhide HG2).k.size (unhide HB3).size
        revert hD
        generalize W3.heap.size = D
        intro hD E4 VP VB
        have hg4 := (unhide E4).o.ge g (own_of (by omega) rfl)
        obtain ⟨c0, c1, c2, c3, c4, c5, c6, c7⟩ := (unhide E4).a.v.cells
        rw [unhide HK] at c0
        obtain ⟨x0, x1, x2, x3⟩ := (unhide VB).cells
        obtain ⟨y0, y1, y2, y3, y4, y5, y6, y7⟩ := (unhide VP).cells
        obtain ⟨b', off', eb, _, g0, g1, g2, g3⟩ := ((unhide E4).bks (unhide HN)).get k (by have := unhide HN; omega)
        simp only [Option.some.injEq, Addr.mk.injEq, and_true] at eb
        obtain ⟨rfl, rfl⟩ := eb
        simp only [Nat.zero_add] at g0 g1 g2 g3
        obtain ⟨z0, z1, z2, z3⟩ := row_free (unhide E4).o
        have E5 := hide ((unhide E4).put (k := k) (by have := unhide HN; omega) B1)
        obtain ⟨r0, r1, r2, r3, r4, r5, r6, r7⟩ := (unhide E5).a.r.cells
        obtain ⟨s0, s1, s2, s3, s4, s5, s6, s7⟩ := (unhide E5).a.r.free
        have nD : D ≠ g := by omega
        have nD' : g ≠ D := by omega
        go_upto_region 15 with fail
        have VP5 := hide ((unhide VP).keep (((((Keep.refl (fun j => j = g) W4).setCell (p := ⟨g, k * 4, none⟩) rfl (.int .i64 B1.ver)).setCell (p := ⟨g, k * 4 + 1, none⟩) rfl (.int .i64 B1.mbal)).setCell (p := ⟨g, k * 4 + 2, none⟩) rfl (.int .i64 B1.bal)).setCell (p := ⟨g, k * 4 + 3, none⟩) rfl (.int .i64 B1.inp)) (show ¬ D = g from nD))
        clear c0 c1 c2 c3 c4 c5 c6 c7 x0 x1 x2 x3 y0 y1 y2 y3 y4 y5 y6 y7 g0 g1 g2 g3 z0 z1 z2 z3 r0 r1 r2 r3 r4 r5 r6 r7 s0 s1 s2 s3 s4 s5 s6 s7
        revert E5 VP5
        generalize (((W4.setCell ⟨g, k * 4, none⟩ (.int .i64 B1.ver)).setCell ⟨g, k * 4 + 1, none⟩ (.int .i64 B1.mbal)).setCell ⟨g, k * 4 + 2, none⟩ (.int .i64 B1.bal)).setCell ⟨g, k * 4 + 3, none⟩ (.int .i64 B1.inp) = W5
        intro E5 VP5
        obtain ⟨r0, r1, r2, r3, r4, r5, r6, r7⟩ := (unhide E5).a.r.cells
        obtain ⟨s0, s1, s2, s3, s4, s5, s6, s7⟩ := (unhide E5).a.r.free
        obtain ⟨y0, y1, y2, y3, y4, y5, y6, y7⟩ := (unhide VP5).cells
        have HO := hide (fun u0 u1 u2 u3 u4 u5 u6 u7 => (unhide E5).out u0 u1 u2 u3 u4 u5 u6 u7)
        go_wp2
        exact bodyPost_ret (v := .tuple #[pV P1, .slice (some ⟨g, 0, none⟩) 4 qa, .int .i64 0]) (by simp [results, Try.results31, go_sem, r0, r1, r2, r3, r4, r5, r6, r7]) rfl (step_fin (unhide HEE) (unhide HE0) (unhide HO _ _ _ _ _ _ _ _))
      · by_cases t3 : p.phase = 3
        · have u1 : (p.phase == 1) = false := by simp [t1]
          have u2 : (z.mbal == p.ballot) = true := by simp; exact Decidable.not_not.1 (fun h => q4 ⟨t3, h⟩)
          have u2' : (z.mbal != p.ballot) = false := by simp; exact Decidable.not_not.1 (fun h => q4 ⟨t3, h⟩)
          have u3 : (p.phase == 3) = true := by simp [t3]
          clear q3 q4 t1 t3
          go_wp2_with fail
          refine (l05Write_any p z _).mono ?_
          rintro e W3 ⟨rfl, hb⟩
          have E3 := hide ((unhide E2).below hb)
          have HB3 := hide hb
          clear hb c0 c1 c2 c3 c4 c5 c6 c7 f0 f1 f2 f3 f4 f5 f6 f7 r0 r1 r2 r3 r4 r5 r6 r7 s0 s1 s2 s3 s4 s5 s6 s7 v0 v1 v2 v3
          generalize pxW1 p z = P1 at *
          generalize pxW2 p z = B1 at *
          have E4 := hide ((unhide E3).below (Joins.below_alloc2 W3 (.cells #[.int .i64 P1.host, .int .i64 P1.ver, .int .i64 P1.phase, .int .i64 P1.ballot, .int .i64 P1.value, .int .i64 P1.next, .int .i64 P1.best, .int .i64 P1.bestBal] 24) (.cells #[.int .i64 B1.ver, .int .i64 B1.mbal, .int .i64 B1.bal, .int .i64 B1.inp] 35)))
          have VP : Hid (VarP ((W3.alloc (.cells #[.int .i64 P1.host, .int .i64 P1.ver, .int .i64 P1.phase, .int .i64 P1.ballot, .int .i64 P1.value, .int .i64 P1.next, .int .i64 P1.best, .int .i64 P1.bestBal] 24)).alloc (.cells #[.int .i64 B1.ver, .int .i64 B1.mbal, .int .i64 B1.bal, .int .i64 B1.inp] 35)) W3.heap.size 24 P1) := hide ((VarP.new W3 _ P1).below (Joins.below_alloc1 _ _))
          have VB : Hid (VarB ((W3.alloc (.cells #[.int .i64 P1.host, .int .i64 P1.ver, .int .i64 P1.phase, .int .i64 P1.ballot, .int .i64 P1.value, .int .i64 P1.next, .int .i64 P1.best, .int .i64 P1.bestBal] 24)).alloc (.cells #[.int .i64 B1.ver, .int .i64 B1.mbal, .int .i64 B1.bal, .int .i64 B1.inp] 35)) (W3.heap.size + 1) 35 B1) := hide (by
            have := VarB.new (W3.alloc (.cells #[.int .i64 P1.host, .int .i64 P1.ver, .int .i64 P1.phase, .int .i64 P1.ballot, .int .i64 P1.value, .int .i64 P1.next, .int .i64 P1.best, .int .i64 P1.bestBal] 24)) 35 B1
            simp only [World.size_alloc] at this
            exact this)
          go_upto_region 14 with fail
          revert E4 VP VB
          generalize (W3.alloc (.cells #[.int .i64 P1.host, .int .i64 P1.ver, .int .i64 P1.phase, .int .i64 P1.ballot, .int .i64 P1.value, .int .i64 P1.next, .int .i64 P1.best, .int .i64 P1.bestBal] 24)).alloc (.cells #[.int .i64 B1.ver, .int .i64 B1.mbal, .int .i64 B1.bal, .int .i64 B1.inp] 35) = W4
          have hD : W1.heap.size ≤ W3.heap.size := Nat.le_trans (unhide HG2).k.size (unhide HB3).size
          revert hD
          generalize W3.heap.size = D
          intro hD E4 VP VB
          have hg4 := (unhide E4).o.ge g (own_of (by omega) rfl)
          obtain ⟨c0, c1, c2, c3, c4, c5, c6, c7⟩ := (unhide E4).a.v.cells
          rw [unhide HK] at c0
          obtain ⟨x0, x1, x2, x3⟩ := (unhide VB).cells
          obtain ⟨y0, y1, y2, y3, y4, y5, y6, y7⟩ := (unhide VP).cells
          obtain ⟨b', off', eb, _, g0, g1, g2, g3⟩ := ((unhide E4).bks (unhide HN)).get k (by have := unhide HN; omega)
          simp only [Option.some.injEq, Addr.mk.injEq, and_true] at eb
          obtain ⟨rfl, rfl⟩ := eb
          simp only [Nat.zero_add] at g0 g1 g2 g3
          obtain ⟨z0, z1, z2, z3⟩ := row_free (unhide E4).o
          have E5 := hide ((unhide E4).put (k := k) (by have := unhide HN; omega) B1)
          obtain ⟨r0, r1, r2, r3, r4, r5, r6, r7⟩ := (unhide E5).a.r.cells
          obtain ⟨s0, s1, s2, s3, s4, s5, s6, s7⟩ := (unhide E5).a.r.free
          have nD : D ≠ g := by omega
          have nD' : g ≠ D := by omega
          go_upto_region 15 with fail
          have VP5 := hide ((unhide VP).keep (((((Keep.refl (fun j => j = g) W4).setCell (p := ⟨g, k * 4, none⟩) rfl (.int .i64 B1.ver)).setCell (p := ⟨g, k * 4 + 1, none⟩) rfl (.int .i64 B1.mbal)).setCell (p := ⟨g, k * 4 + 2, none⟩) rfl (.int .i64 B1.bal)).setCell (p := ⟨g, k * 4 + 3, none⟩) rfl (.int .i64 B1.inp)) (show ¬ D = g from nD))
          clear c0 c1 c2 c3 c4 c5 c6 c7 x0 x1 x2 x3 y0 y1 y2 y3 y4 y5 y6 y7 g0 g1 g2 g3 z0 z1 z2 z3 r0 r1 r2 r3 r4 r5 r6 r7 s0 s1 s2 s3 s4 s5 s6 s7
          revert E5 VP5
          generalize (((W4.setCell ⟨g, k * 4, none⟩ (.int .i64 B1.ver)).setCell ⟨g, k * 4 + 1, none⟩ (.int .i64 B1.mbal)).setCell ⟨g, k * 4 + 2, none⟩ (.int .i64 B1.bal)).setCell ⟨g, k * 4 + 3, none⟩ (.int .i64 B1.inp) = W5
          intro E5 VP5
          obtain ⟨r0, r1, r2, r3, r4, r5, r6, r7⟩ := (unhide E5).a.r.cells
          obtain ⟨s0, s1, s2, s3, s4, s5, s6, s7⟩ := (unhide E5).a.r.free
          obtain ⟨y0, y1, y2, y3, y4, y5, y6, y7⟩ := (unhide VP5).cells
          have HO := hide (fun u0 u1 u2 u3 u4 u5 u6 u7 => (unhide E5).out u0 u1 u2 u3 u4 u5 u6 u7)
          go_wp2
          exact bodyPost_ret (v := .tuple #[pV P1, .slice (some ⟨g, 0, none⟩) 4 qa, .int .i64 0]) (by simp [results, Try.results31, go_sem, r0, r1, r2, r3, r4, r5, r6, r7]) rfl (step_fin (unhide HEE) (unhide HE0) (unhide HO _ _ _ _ _ _ _ _))
        · have u1 : (p.phase == 1) = false := by simp [t1]
          have u3 : (p.phase == 3) = false := by simp [t3]
          clear q3 q4 t1 t3
          go_wp2_with fail
          refine (l05Write_any p z _).mono ?_
          rintro e W3 ⟨rfl, hb⟩
          have E3 := hide ((unhide E2).below hb)
          have HB3 := hide hb
          clear hb c0 c1 c2 c3 c4 c5 c6 c7 f0 f1 f2 f3 f4 f5 f6 f7 r0 r1 r2 r3 r4 r5 r6 r7 s0 s1 s2 s3 s4 s5 s6 s7 v0 v1 v2 v3
          generalize pxW1 p z = P1 at *
          generalize pxW2 p z = B1 at *
          have E4 := hide ((unhide E3).below (Joins.below_alloc2 W3 (.cells #[.int .i64 P1.host, .int .i64 P1.ver, .int .i64 P1.phase, .int .i64 P1.ballot, .int .i64 P1.value, .int .i64 P1.next, .int .i64 P1.best, .int .i64 P1.bestBal] 24) (.cells #[.int .i64 B1.ver, .int .i64 B1.mbal, .int .i64 B1.bal, .int .i64 B1.inp] 35)))
          have VP : Hid (VarP ((W3.alloc (.cells #[.int .i64 P1.host, .int .i64 P1.ver, .int .i64 P1.phase, .int .i64 P1.ballot, .int .i64 P1.value, .int .i64 P1.next, .int .i64 P1.best, .int .i64 P1.bestBal] 24)).alloc (.cells #[.int .i64 B1.ver, .int .i64 B1.mbal, .int .i64 B1.bal, .int .i64 B1.inp] 35)) W3.heap.size 24 P1) := hide ((VarP.new W3 _ P1).below (Joins.below_alloc1 _ _))
          have VB : Hid (VarB ((W3.alloc (.cells #[.int .i64 P1.host, .int .i64 P1.ver, .int .i64 P1.phase, .int .i64 P1.ballot, .int .i64 P1.value, .int .i64 P1.next, .int .i64 P1.best, .int .i64 P1.bestBal] 24)).alloc (.cells #[.int .i64 B1.ver, .int .i64 B1.mbal, .int .i64 B1.bal, .int .i64 B1.inp] 35)) (W3.heap.size + 1) 35 B1) := hide (by
            have := VarB.new (W3.alloc (.cells #[.int .i64 P1.host, .int .i64 P1.ver, .int .i64 P1.phase, .int .i64 P1.ballot, .int .i64 P1.value, .int .i64 P1.next, .int .i64 P1.best, .int .i64 P1.bestBal] 24)) 35 B1
            simp only [World.size_alloc] at this
            exact this)
          go_upto_region 14 with fail
          revert E4 VP VB
          generalize (W3.alloc (.cells #[.int .i64 P1.host, .int .i64 P1.ver, .int .i64 P1.phase, .int .i64 P1.ballot, .int .i64 P1.value, .int .i64 P1.next, .int .i64 P1.best, .int .i64 P1.bestBal] 24)).alloc (.cells #[.int .i64 B1.ver, .int .i64 B1.mbal, .int .i64 B1.bal, .int .i64 B1.inp] 35) = W4
          have hD : W1.heap.size ≤ W3.heap.size := Nat.le_trans (unhide HG2).k.size (unhide HB3).size
          revert hD
          generalize W3.heap.size = D
          intro hD E4 VP VB
          have hg4 := (unhide E4).o.ge g (own_of (by omega) rfl)
          obtain ⟨c0, c1, c2, c3, c4, c5, c6, c7⟩ := (unhide E4).a.v.cells
          rw [unhide HK] at c0
          obtain ⟨x0, x1, x2, x3⟩ := (unhide VB).cells
          obtain ⟨y0, y1, y2, y3, y4, y5, y6, y7⟩ := (unhide VP).cells
          obtain ⟨b', off', eb, _, g0, g1, g2, g3⟩ := ((unhide E4).bks (unhide HN)).get k (by have := unhide HN; omega)
          simp only [Option.some.injEq, Addr.mk.injEq, and_true] at eb
          obtain ⟨rfl, rfl⟩ := eb
          simp only [Nat.zero_add] at g0 g1 g2 g3
          obtain ⟨z0, z1, z2, z3⟩ := row_free (unhide E4).o
          have E5 := hide ((unhide E4).put (k := k) (by have := unhide HN; omega) B1)
          obtain ⟨r0, r1, r2, r3, r4, r5, r6, r7⟩ := (unhide E5).a.r.cells
          obtain ⟨s0, s1, s2, s3, s4, s5, s6, s7⟩ := (unhide E5).a.r.free
          have nD : D ≠ g := by omega
          have nD' : g ≠ D := by omega
          go_upto_region 15 with fail
          have VP5 := hide ((unhide VP).keep (((((Keep.refl (fun j => j = g) W4).setCell (p := ⟨g, k * 4, none⟩) rfl (.int .i64 B1.ver)).setCell (p := ⟨g, k * 4 + 1, none⟩) rfl (.int .i64 B1.mbal)).setCell (p := ⟨g, k * 4 + 2, none⟩) rfl (.int .i64 B1.bal)).setCell (p := ⟨g, k * 4 + 3, none⟩) rfl (.int .i64 B1.inp)) (show ¬ D = g from nD))
          clear c0 c1 c2 c3 c4 c5 c6 c7 x0 x1 x2 x3 y0 y1 y2 y3 y4 y5 y6 y7 g0 g1 g2 g3 z0 z1 z2 z3 r0 r1 r2 r3 r4 r5 r6 r7 s0 s1 s2 s3 s4 s5 s6 s7
          revert E5 VP5
          generalize (((W4.setCell ⟨g, k * 4, none⟩ (.int .i64 B1.ver)).setCell ⟨g, k * 4 + 1, none⟩ (.int .i64 B1.mbal)).setCell ⟨g, k * 4 + 2, none⟩ (.int .i64 B1.bal)).setCell ⟨g, k * 4 + 3, none⟩ (.int .i64 B1.inp) = W5
          intro E5 VP5
          obtain ⟨r0, r1, r2, r3, r4, r5, r6, r7⟩ := (unhide E5).a.r.cells
          obtain ⟨s0, s1, s2, s3, s4, s5, s6, s7⟩ := (unhide E5).a.r.free
          obtain ⟨y0, y1, y2, y3, y4, y5, y6, y7⟩ := (unhide VP5).cells
          have HO := hide (fun u0 u1 u2 u3 u4 u5 u6 u7 => (unhide E5).out u0 u1 u2 u3 u4 u5 u6 u7)
          go_wp2
          exact bodyPost_ret (v := .tuple #[pV P1, .slice (some ⟨g, 0, none⟩) 4 qa, .int .i64 0]) (by simp [results, Try.results31, go_sem, r0, r1, r2, r3, r4, r5, r6, r7]) rfl (step_fin (unhide HEE) (unhide HE0) (unhide HO _ _ _ _ _ _ _ _))

end Go.Proofs.Ytdfinapjgffjiaa

/- Contracts of the program's small steps: isAhead, turned, pastOwn, heedAccepted, heedNothing, chooseValue, decideValue. -/
namespace Go.Proofs.Ytdfinapjgffjiaa
open Go.RowKit
set_option linter.unusedVariables false
set_option maxRecDepth 100000

def ahB (b : Bk) (p : Pxs) : Bool := decide (p.ver < b.ver) || decide (p.ballot < b.mbal)
def hdP (p : Pxs) (b : Bk) : Pxs := if p.bestBal < b.bal then { p with best := b.inp, bestBal := b.bal } else p
def chP (p : Pxs) : Pxs := if 0 < p.bestBal then { p with phase := 3, value := p.best } else { p with phase := 3 }

set_option maxHeartbeats 1600000 in
theorem isAhead_any (b : Bk) (p : Pxs) (w : World) : Calls Try.prog 63 #[bV b, pV p] w fun e w' => e = .returned (.bool (ahB b p)) ∧ Below w.heap.size w w' := by
  by_cases h1 : p.ver < b.ver
  · have HE : Hid (ahB b p = true) := hide (by simp [ahB, h1])
    go_enter Try.func63, Try.ntmps63
    go_wp2
    go_ret
    exact ⟨ret_bool (unhide HE).symm, Joins.below_alloc2 _ _ _⟩
  · have HE : Hid (ahB b p = decide (p.ballot < b.mbal)) := hide (by simp [ahB, h1])
    go_enter Try.func63, Try.ntmps63
    go_wp2
    go_ret
    exact ⟨ret_bool (by rw [unhide HE]), Joins.below_alloc2 _ _ _⟩

set_option maxHeartbeats 1600000 in
theorem turned_any (p : Pxs) (n : Int) (w : World) : Calls Try.prog 64 #[pV p, .int .i64 n] w fun e w' => e = .returned (pV { p with phase := n }) ∧ Below w.heap.size w w' := by
  go_enter Try.func64, Try.ntmps64
  go_wp2
  exact bodyPost_ret (v := pV { p with phase := n }) (by simp [results, Try.results64, go_sem]) rfl ⟨rfl, Joins.below_alloc2 _ _ _⟩

set_option maxHeartbeats 1600000 in
theorem pastOwn_any (p : Pxs) (w : World) (hx : 0 ≤ p.next ∧ p.next ≤ 4) : Calls Try.prog 66 #[pV p] w fun e w' => e = .returned (pV { p with next := skip p p.next }) ∧ Below w.heap.size w w' := by
  have wr1 : IntKind.i64.wrap (p.next + 1) = p.next + 1 := by rw [IntKind.wrap_i64]; omega
  by_cases h : p.next = p.host
  · have e' : (p.next == p.host) = true := by simp [h]
    rw [show skip p p.next = p.next + 1 from if_pos h]
    clear h
    go_enter Try.func66, Try.ntmps66
    go_wp2
    exact bodyPost_ret (v := pV { p with next := p.next + 1 }) (by simp [results, Try.results66, go_sem]) rfl ⟨rfl, Joins.below_alloc2 _ _ _⟩
  · have e' : (p.next == p.host) = false := by simp [h]
    rw [show skip p p.next = p.next from if_neg h]
    clear h
    go_enter Try.func66, Try.ntmps66
    go_wp2
    exact bodyPost_ret (v := pV p) (by simp [results, Try.results66, go_sem]) rfl ⟨rfl, Joins.below_alloc2 _ _ _⟩

set_option maxHeartbeats 1600000 in
theorem heedAccepted_any (p : Pxs) (b : Bk) (w : World) : Calls Try.prog 46 #[pV p, bV b] w fun e w' => e = .returned (pV (hdP p b)) ∧ Below w.heap.size w w' := by
  by_cases h : p.bestBal < b.bal
  · rw [show hdP p b = { p with best := b.inp, bestBal := b.bal } from if_pos h]
    go_enter Try.func46, Try.ntmps46
    go_wp2
    go_region
    go_wp2
    exact bodyPost_ret (v := pV { p with best := b.inp, bestBal := b.bal }) (by simp [results, Try.results46, go_sem]) rfl ⟨rfl, by first | exact fr (Joins.below_alloc2 _ _ _) (Joins.below_alloc1 _ _) | exact (fr (Joins.below_alloc2 _ _ _) (Joins.below_alloc1 _ _)).drew⟩
  · rw [show hdP p b = p from if_neg h]
    go_enter Try.func46, Try.ntmps46
    go_wp2
    exact bodyPost_ret (v := pV p) (by simp [results, Try.results46, go_sem]) rfl ⟨rfl, fr (Joins.below_alloc2 _ _ _) (Joins.below_alloc1 _ _)⟩

set_option maxHeartbeats 1600000 in
theorem heedNothing_any (p : Pxs) (b : Bk) (w : World) : Calls Try.prog 49 #[pV p, bV b] w fun e w' => e = .returned (pV p) ∧ Below w.heap.size w w' := by
  go_enter Try.func49, Try.ntmps49
  go_wp2
  exact bodyPost_ret (v := pV p) (by simp [results, Try.results49, go_sem]) rfl ⟨rfl, by first | exact fr (Joins.below_alloc2 _ _ _) (Joins.below_alloc1 _ _) | exact Joins.below_alloc2 _ _ _⟩

set_option maxHeartbeats 1600000 in
theorem decideValue_any (p : Pxs) (w : World) : Calls Try.prog 50 #[pV p] w fun e w' => e = .returned (pV { p with phase := 5 }) ∧ Below w.heap.size w w' := by
  have HV : Hid (VarP ((w.alloc (.cells #[.int .i64 p.host, .int .i64 p.ver, .int .i64 p.phase, .int .i64 p.ballot, .int .i64 p.value, .int .i64 p.next, .int .i64 p.best, .int .i64 p.bestBal] 24)).alloc (.cells #[.int .i64 0, .int .i64 0, .int .i64 0, .int .i64 0, .int .i64 0, .int .i64 0, .int .i64 0, .int .i64 0] 24)) (w.heap.size + 1) 24 p00) := hide (by
    have := VarP.new0 (w.alloc (.cells #[.int .i64 p.host, .int .i64 p.ver, .int .i64 p.phase, .int .i64 p.ballot, .int .i64 p.value, .int .i64 p.next, .int .i64 p.best, .int .i64 p.bestBal] 24)) 24
    simp only [World.size_alloc] at this
    exact this)
  go_enter Try.func50, Try.ntmps50
  go_wp2_with fail
  refine (turned_any p 5 _).mono ?_
  rintro e w1 ⟨rfl, hb⟩
  obtain ⟨d0, d1, d2, d3, d4, d5, d6, d7⟩ := ((unhide HV).below hb).cells
  obtain ⟨f0, f1, f2, f3, f4, f5, f6, f7⟩ := ((unhide HV).below hb).free
  have HB1 := hide (fun u0 u1 u2 u3 u4 u5 u6 u7 => below8 (fr (Joins.below_alloc2 w _ _) hb) (show w.heap.size ≤ w.heap.size + 1 by omega) u0 u1 u2 u3 u4 u5 u6 u7)
  clear hb
  go_wp2
  exact bodyPost_ret (v := pV { p with phase := 5 }) (by simp [results, Try.results50, go_sem, d0, d1, d2, d3, d4, d5, d6, d7]) rfl ⟨rfl, unhide HB1 _ _ _ _ _ _ _ _⟩

set_option maxHeartbeats 1600000 in
theorem chooseValue_any (p : Pxs) (w : World) : Calls Try.prog 47 #[pV p] w fun e w' => e = .returned (pV (chP p)) ∧ Below w.heap.size w w' := by
  have key : ∀ q : Pxs, Hid (VarP ((w.alloc (.cells #[.int .i64 q.host, .int .i64 q.ver, .int .i64 q.phase, .int .i64 q.ballot, .int .i64 q.value, .int .i64 q.next, .int .i64 q.best, .int .i64 q.bestBal] 24)).alloc (.cells #[.int .i64 0, .int .i64 0, .int .i64 0, .int .i64 0, .int .i64 0, .int .i64 0, .int .i64 0, .int .i64 0] 24)) (w.heap.size + 1) 24 p00) := fun q => hide (by
    have := VarP.new0 (w.alloc (.cells #[.int .i64 q.host, .int .i64 q.ver, .int .i64 q.phase, .int .i64 q.ballot, .int .i64 q.value, .int .i64 q.next, .int .i64 q.best, .int .i64 q.bestBal] 24)) 24
    simp only [World.size_alloc] at this
    exact this)
  have KEY := hide key
  clear key
  by_cases h : 0 < p.bestBal
  · rw [show chP p = { p with phase := 3, value := p.best } from if_pos h]
    go_enter Try.func47, Try.ntmps47
    go_wp2_with fail
    refine (turned_any { p with value := p.best } 3 _).mono ?_
    rintro e w1 ⟨rfl, hb⟩
    obtain ⟨d0, d1, d2, d3, d4, d5, d6, d7⟩ := ((unhide (unhide KEY { p with value := p.best })).below hb).cells
    obtain ⟨f0, f1, f2, f3, f4, f5, f6, f7⟩ := ((unhide (unhide KEY { p with value := p.best })).below hb).free
    have HB1 := hide (fun u0 u1 u2 u3 u4 u5 u6 u7 => below8 (fr (Joins.below_alloc2 w _ _) hb) (show w.heap.size ≤ w.heap.size + 1 by omega) u0 u1 u2 u3 u4 u5 u6 u7)
    clear hb
    go_wp2
    exact bodyPost_ret (v := pV { p with phase := 3, value := p.best }) (by simp [results, Try.results47, go_sem, d0, d1, d2, d3, d4, d5, d6, d7]) rfl ⟨rfl, unhide HB1 _ _ _ _ _ _ _ _⟩
  · rw [show chP p = { p with phase := 3 } from if_neg h]
    go_enter Try.func47, Try.ntmps47
    go_wp2_with fail
    refine (turned_any p 3 _).mono ?_
    rintro e w1 ⟨rfl, hb⟩
    obtain ⟨d0, d1, d2, d3, d4, d5, d6, d7⟩ := ((unhide (unhide KEY p)).below hb).cells
    obtain ⟨f0, f1, f2, f3, f4, f5, f6, f7⟩ := ((unhide (unhide KEY p)).below hb).free
    have HB1 := hide (fun u0 u1 u2 u3 u4 u5 u6 u7 => below8 (fr (Joins.below_alloc2 w _ _) hb) (show w.heap.size ≤ w.heap.size + 1 by omega) u0 u1 u2 u3 u4 u5 u6 u7)
    clear hb
    go_wp2
    exact bodyPost_ret (v := pV { p with phase := 3 }) (by simp [results, Try.results47, go_sem, d0, d1, d2, d3, d4, d5, d6, d7]) rfl ⟨rfl, unhide HB1 _ _ _ _ _ _ _ _⟩

end Go.Proofs.Ytdfinapjgffjiaa

/- Worlds of the program's phases: a ballot in a variable, the answer's, a block in a variable, a row of blocks that is handed in to be written. -/
namespace Go.Proofs.Ytdfinapjgffjiaa
open Go.RowKit
set_option linter.unusedVariables false
set_option maxRecDepth 100000

theorem row_put {w : World} {B t n cap g : Nat} {bs : List Bk} (h : w.ownsRow B t 4 (.slice (some ⟨g, 0, none⟩) n cap) n (bksV bs)) {k : Nat} (hk : k < bs.length) (y : Bk) :
    ((((w.setCell ⟨g, k * 4, none⟩ (.int .i64 y.ver)).setCell ⟨g, k * 4 + 1, none⟩ (.int .i64 y.mbal)).setCell ⟨g, k * 4 + 2, none⟩ (.int .i64 y.bal)).setCell ⟨g, k * 4 + 3, none⟩ (.int .i64 y.inp)).ownsRow B t 4 (.slice (some ⟨g, 0, none⟩) n cap) n (bksV (bs.set k y)) := by
  rw [← bksV_set hk y]
  have h3 := stored3 h (k * 4) (k * 4 + 1) (k * 4 + 2) (.int .i64 y.ver) (.int .i64 y.mbal) (.int .i64 y.bal)
  exact (h3.stored (k * 4 + 3) (.int .i64 y.inp)).1
theorem row_block {w : World} {B t n cap g : Nat} {xs : List Value} (h : w.ownsRow B t 4 (.slice (some ⟨g, 0, none⟩) (n + 1) cap) (n + 1) xs) : g < w.heap.size ∧ ∀ i, w.frozen? ⟨g, i, none⟩ = false := by
  obtain ⟨g', cap', cur, e, hB, hg⟩ := own_form (by omega) h
  simp only [Value.slice.injEq, Option.some.injEq, Addr.mk.injEq, and_true] at e
  obtain ⟨rfl, _⟩ := e
  exact ⟨(Array.getElem?_eq_some_iff.1 hg).1, fun i => Joins.unfrozen_of_block hg i⟩
theorem row_keep {S : Nat → Prop} {w w' : World} {B t n cap g : Nat} {xs : List Value} (h : w.ownsRow B t 4 (.slice (some ⟨g, 0, none⟩) (n + 1) cap) (n + 1) xs) (hk : Keep S w w') (hs : ¬ S g) : w'.ownsRow B t 4 (.slice (some ⟨g, 0, none⟩) (n + 1) cap) (n + 1) xs := by
  have := OwnR.keep (.inr ⟨by omega, h⟩ : OwnR w B t 4 (.slice (some ⟨g, 0, none⟩) (n + 1) cap) (n + 1) xs) hk (fun j hj => by cases own_elim hj; exact hs)
  rcases this with ⟨h0, _⟩ | ⟨_, h⟩
  · omega
  · exact h

/-- A ballot's variable, the answer's, the row. -/
structure BgAt (w W : World) (p : Pxs) (B g qa : Nat) (bs : List Bk) : Prop where
  v : VarP W w.heap.size 24 p
  r : VarP W (w.heap.size + 1) 24 p00
  o : W.ownsRow B 35 4 (.slice (some ⟨g, 0, none⟩) 4 qa) 4 (bksV bs)
  k : Keep (fun j => j = g) w W
  hg : g < w.heap.size
theorem BgAt.start {w : World} (p : Pxs) {B g qa : Nat} {bs : List Bk} (ho : w.ownsRow B 35 4 (.slice (some ⟨g, 0, none⟩) 4 qa) 4 (bksV bs)) :
    BgAt w ((w.alloc (.cells #[.int .i64 p.host, .int .i64 p.ver, .int .i64 p.phase, .int .i64 p.ballot, .int .i64 p.value, .int .i64 p.next, .int .i64 p.best, .int .i64 p.bestBal] 24)).alloc (.cells #[.int .i64 0, .int .i64 0, .int .i64 0, .int .i64 0, .int .i64 0, .int .i64 0, .int .i64 0, .int .i64 0] 24)) p B g qa bs := by
  refine ⟨(VarP.new w _ p).below (Joins.below_alloc1 _ _), ?_, own_below ho (Joins.below_alloc2 _ _ _), Keep.of_below (Joins.below_alloc2 _ _ _), (row_block ho).1⟩
  have := VarP.new0 (w.alloc (.cells #[.int .i64 p.host, .int .i64 p.ver, .int .i64 p.phase, .int .i64 p.ballot, .int .i64 p.value, .int .i64 p.next, .int .i64 p.best, .int .i64 p.bestBal] 24)) 24
  simp only [World.size_alloc] at this
  exact this
theorem BgAt.below {w W W' : World} {p : Pxs} {B g qa : Nat} {bs : List Bk} (h : BgAt w W p B g qa bs) (hb : Below W.heap.size W W') : BgAt w W' p B g qa bs := ⟨h.v.below hb, h.r.below hb, own_below h.o hb, h.k.trans (Keep.of_below hb), h.hg⟩
theorem BgAt.bks {w W : World} {p : Pxs} {B g qa : Nat} {bs : List Bk} (h : BgAt w W p B g qa bs) (h4 : bs.length = 4) : Bks W (some ⟨g, 0, none⟩) bs :=
  ownBks (B := B) (e := 35) (cap := qa) (by rw [h4]; exact .inr ⟨by omega, h.o⟩)
theorem BgAt.set {w W : World} {p : Pxs} {B g qa : Nat} {bs : List Bk} (h : BgAt w W p B g qa bs) (i : Nat) (u : Value) (q : Pxs) (hv : VarP (W.setCell ⟨w.heap.size, i, none⟩ u) w.heap.size 24 q) : BgAt w (W.setCell ⟨w.heap.size, i, none⟩ u) q B g qa bs := by
  have hk : Keep (fun j => j = w.heap.size) W (W.setCell ⟨w.heap.size, i, none⟩ u) := (Keep.refl (fun j => j = w.heap.size) W).setCell (p := ⟨w.heap.size, i, none⟩) rfl u
  have := h.hg
  exact ⟨hv, h.r.keep hk (by show ¬ w.heap.size + 1 = w.heap.size; omega), row_keep h.o hk (by show ¬ g = w.heap.size; omega), keepN h.k hk (fun j hj => .inr (by omega)), h.hg⟩
theorem BgAt.bg3 {w W : World} {p : Pxs} {B g qa : Nat} {bs : List Bk} (h : BgAt w W p B g qa bs) (a b c : Int) : BgAt w (((W.setCell ⟨w.heap.size, 6, none⟩ (.int .i64 a)).setCell ⟨w.heap.size, 7, none⟩ (.int .i64 b)).setCell ⟨w.heap.size, 5, none⟩ (.int .i64 c)).drew { p with best := a, bestBal := b, next := c } B g qa bs := by
  have h1 := h.set 6 (.int .i64 a) _ (h.v.set6 a)
  have h2 := h1.set 7 (.int .i64 b) _ (h1.v.set7 b)
  exact (h2.set 5 (.int .i64 c) _ (h2.v.set5 c)).below ((Below.refl _ _).drew)
/-- All of the ballot's variable is written. -/
theorem BgAt.all {w W : World} {p : Pxs} {B g qa : Nat} {bs : List Bk} (h : BgAt w W p B g qa bs) (q : Pxs) : BgAt w ((((((((W.setCell ⟨w.heap.size, 0, none⟩ (.int .i64 q.host)).setCell ⟨w.heap.size, 1, none⟩ (.int .i64 q.ver)).setCell ⟨w.heap.size, 2, none⟩ (.int .i64 q.phase)).setCell ⟨w.heap.size, 3, none⟩ (.int .i64 q.ballot)).setCell ⟨w.heap.size, 4, none⟩ (.int .i64 q.value)).setCell ⟨w.heap.size, 5, none⟩ (.int .i64 q.next)).setCell ⟨w.heap.size, 6, none⟩ (.int .i64 q.best)).setCell ⟨w.heap.size, 7, none⟩ (.int .i64 q.bestBal)) q B g qa bs := by
  have hk := keep8 (Keep.refl (fun j => j = w.heap.size) W) (g := w.heap.size) rfl (.int .i64 q.host) (.int .i64 q.ver) (.int .i64 q.phase) (.int .i64 q.ballot) (.int .i64 q.value) (.int .i64 q.next) (.int .i64 q.best) (.int .i64 q.bestBal)
  have := h.hg
  exact ⟨h.v.put q, h.r.keep hk (by show ¬ w.heap.size + 1 = w.heap.size; omega), row_keep h.o hk (by show ¬ g = w.heap.size; omega), keepN h.k hk (fun j hj => .inr (by omega)), h.hg⟩
theorem BgAt.put {w W : World} {p : Pxs} {B g qa : Nat} {bs : List Bk} (h : BgAt w W p B g qa bs) {k : Nat} (hk : k < bs.length) (y : Bk) :
    BgAt w ((((W.setCell ⟨g, k * 4, none⟩ (.int .i64 y.ver)).setCell ⟨g, k * 4 + 1, none⟩ (.int .i64 y.mbal)).setCell ⟨g, k * 4 + 2, none⟩ (.int .i64 y.bal)).setCell ⟨g, k * 4 + 3, none⟩ (.int .i64 y.inp)) p B g qa (bs.set k y) := by
  have hg := h.hg
  have kk : Keep (fun j => j = g) W ((((W.setCell ⟨g, k * 4, none⟩ (.int .i64 y.ver)).setCell ⟨g, k * 4 + 1, none⟩ (.int .i64 y.mbal)).setCell ⟨g, k * 4 + 2, none⟩ (.int .i64 y.bal)).setCell ⟨g, k * 4 + 3, none⟩ (.int .i64 y.inp)) :=
    ((((Keep.refl (fun j => j = g) W).setCell (p := ⟨g, k * 4, none⟩) rfl _).setCell (p := ⟨g, k * 4 + 1, none⟩) rfl _).setCell (p := ⟨g, k * 4 + 2, none⟩) rfl _).setCell (p := ⟨g, k * 4 + 3, none⟩) rfl _
  exact ⟨h.v.keep kk (by show ¬ w.heap.size = g; omega), h.r.keep kk (by show ¬ w.heap.size + 1 = g; omega), row_put h.o hk y, h.k.trans kk, h.hg⟩
/-- The answer is stored. -/
theorem BgAt.out {w W : World} {p : Pxs} {B g qa : Nat} {bs : List Bk} (h : BgAt w W p B g qa bs) (u0 u1 u2 u3 u4 u5 u6 u7 : Value) :
    ((((((((W.setCell ⟨w.heap.size + 1, 0, none⟩ u0).setCell ⟨w.heap.size + 1, 1, none⟩ u1).setCell ⟨w.heap.size + 1, 2, none⟩ u2).setCell ⟨w.heap.size + 1, 3, none⟩ u3).setCell ⟨w.heap.size + 1, 4, none⟩ u4).setCell ⟨w.heap.size + 1, 5, none⟩ u5).setCell ⟨w.heap.size + 1, 6, none⟩ u6).setCell ⟨w.heap.size + 1, 7, none⟩ u7).ownsRow B 35 4 (.slice (some ⟨g, 0, none⟩) 4 qa) 4 (bksV bs) ∧
    Keep (fun j => j = g) w ((((((((W.setCell ⟨w.heap.size + 1, 0, none⟩ u0).setCell ⟨w.heap.size + 1, 1, none⟩ u1).setCell ⟨w.heap.size + 1, 2, none⟩ u2).setCell ⟨w.heap.size + 1, 3, none⟩ u3).setCell ⟨w.heap.size + 1, 4, none⟩ u4).setCell ⟨w.heap.size + 1, 5, none⟩ u5).setCell ⟨w.heap.size + 1, 6, none⟩ u6).setCell ⟨w.heap.size + 1, 7, none⟩ u7) := by
  have hk := keep8 (Keep.refl (fun j => j = w.heap.size + 1) W) (g := w.heap.size + 1) rfl u0 u1 u2 u3 u4 u5 u6 u7
  have := h.hg
  exact ⟨row_keep h.o hk (by show ¬ g = w.heap.size + 1; omega), keepN h.k hk (fun j hj => .inr (by omega))⟩
/-- Beside it a block in a variable. -/
structure BkAt (w W : World) (p : Pxs) (B g qa : Nat) (bs : List Bk) (C : Nat) (z : Bk) : Prop where
  a : BgAt w W p B g qa bs
  b : VarB W C 35 z
  gt : w.heap.size + 2 ≤ C
theorem BgAt.got {w W W' : World} {p : Pxs} {B g qa C : Nat} {bs : List Bk} {z : Bk} (h : BgAt w W p B g qa bs) (hg : Got W W' C 35 z) : BkAt w W' p B g qa bs C z :=
  ⟨h.below hg.k, hg.v, by have := h.r.lt; have := hg.gt; omega⟩
theorem BkAt.below {w W W' : World} {p : Pxs} {B g qa C : Nat} {bs : List Bk} {z : Bk} (h : BkAt w W p B g qa bs C z) (hb : Below W.heap.size W W') : BkAt w W' p B g qa bs C z := ⟨h.a.below hb, h.b.below hb, h.gt⟩
theorem BkAt.mb {w W : World} {p : Pxs} {B g qa C : Nat} {bs : List Bk} {z : Bk} (h : BkAt w W p B g qa bs C z) (n : Int) : BkAt w (W.setCell ⟨C, 1, none⟩ (.int .i64 n)) p B g qa bs C { z with mbal := n } := by
  have hk : Keep (fun j => j = C) W (W.setCell ⟨C, 1, none⟩ (.int .i64 n)) := (Keep.refl (fun j => j = C) W).setCell (p := ⟨C, 1, none⟩) rfl _
  have h1 := h.a.hg
  have h2 := h.gt
  exact ⟨⟨h.a.v.keep hk (by show ¬ w.heap.size = C; omega), h.a.r.keep hk (by show ¬ w.heap.size + 1 = C; omega), row_keep h.a.o hk (by show ¬ g = C; omega), keepN h.a.k hk (fun j hj => .inr (by omega)), h1⟩, set_heap (i := 1) h.b _, h2⟩
theorem BkAt.put {w W : World} {p : Pxs} {B g qa C : Nat} {bs : List Bk} {z : Bk} (h : BkAt w W p B g qa bs C z) {k : Nat} (hk : k < bs.length) (y : Bk) :
    BkAt w ((((W.setCell ⟨g, k * 4, none⟩ (.int .i64 y.ver)).setCell ⟨g, k * 4 + 1, none⟩ (.int .i64 y.mbal)).setCell ⟨g, k * 4 + 2, none⟩ (.int .i64 y.bal)).setCell ⟨g, k * 4 + 3, none⟩ (.int .i64 y.inp)) p B g qa (bs.set k y) C z := by
  have h1 := h.a.hg
  have h2 := h.gt
  have kk : Keep (fun j => j = g) W ((((W.setCell ⟨g, k * 4, none⟩ (.int .i64 y.ver)).setCell ⟨g, k * 4 + 1, none⟩ (.int .i64 y.mbal)).setCell ⟨g, k * 4 + 2, none⟩ (.int .i64 y.bal)).setCell ⟨g, k * 4 + 3, none⟩ (.int .i64 y.inp)) :=
    ((((Keep.refl (fun j => j = g) W).setCell (p := ⟨g, k * 4, none⟩) rfl _).setCell (p := ⟨g, k * 4 + 1, none⟩) rfl _).setCell (p := ⟨g, k * 4 + 2, none⟩) rfl _).setCell (p := ⟨g, k * 4 + 3, none⟩) rfl _
  exact ⟨h.a.put hk y, h.b.keep kk (by show ¬ C = g; omega), h2⟩
theorem bg_fin {w W' : World} {p p' : Pxs} {bs bs' : List Bk} {B g qa : Nat} (hE : pxStepP p bs = (p', bs')) (hO : W'.ownsRow B 35 4 (.slice (some ⟨g, 0, none⟩) 4 qa) 4 (bksV bs') ∧ Keep (fun j => j = g) w W') :
    Ending.returned (pV p') = .returned (pV (pxStepP p bs).1) ∧ W'.ownsRow B 35 4 (.slice (some ⟨g, 0, none⟩) 4 qa) 4 (bksV (pxStepP p bs).2) ∧ Keep (fun j => j = g) w W' :=
  ⟨by rw [hE], by rw [hE]; exact hO.1, hO.2⟩
theorem ah_no {p : Pxs} {z : Bk} (h1 : p.phase = 1) (ha : ahB z p = true ∨ z.mbal = p.ballot) : pxNo p z := by
  rcases ha with h | h
  · simp only [ahB, Bool.or_eq_true, decide_eq_true_eq] at h
    rcases h with h | h
    · exact .inl h
    · exact .inr (.inl h)
  · exact .inr (.inr (.inl ⟨h1, h⟩))
theorem ah_yes1 {p : Pxs} {z : Bk} (h1 : p.phase = 1) (ha : ¬ (ahB z p = true ∨ z.mbal = p.ballot)) : ¬ pxNo p z := by
  rintro (h | h | h | h)
  · exact ha (.inl (by simp [ahB, h]))
  · exact ha (.inl (by simp [ahB, h]))
  · exact ha (.inr h.2)
  · rw [h1] at h; exact absurd h.1 (by decide)
theorem ah_no3 {p : Pxs} {z : Bk} (h1 : p.phase = 3) (ha : ahB z p = true ∨ z.mbal ≠ p.ballot) : pxNo p z := by
  rcases ha with h | h
  · simp only [ahB, Bool.or_eq_true, decide_eq_true_eq] at h
    rcases h with h | h
    · exact .inl h
    · exact .inr (.inl h)
  · exact .inr (.inr (.inr ⟨h1, h⟩))
theorem ah_yes3 {p : Pxs} {z : Bk} (h1 : p.phase = 3) (ha : ¬ (ahB z p = true ∨ z.mbal ≠ p.ballot)) : ¬ pxNo p z := by
  rintro (h | h | h | h)
  · exact ha (.inl (by simp [ahB, h]))
  · exact ha (.inl (by simp [ahB, h]))
  · rw [h1] at h; exact absurd h.1 (by decide)
  · exact ha (.inr h.2)
theorem own_ver {p : Pxs} {bs : List Bk} {z : Bk} (hz : pxOwn p bs = z) (ha : ahB z p = false) : z.ver = p.ver := by
  have h1 : ¬ p.ver < z.ver := by intro h; simp [ahB, h] at ha
  have h2 : p.ver ≤ z.ver := by
    rw [← hz]; unfold pxOwn bkOf; split
    · exact Int.le_refl _
    · omega
  omega
end Go.Proofs.Ytdfinapjgffjiaa
