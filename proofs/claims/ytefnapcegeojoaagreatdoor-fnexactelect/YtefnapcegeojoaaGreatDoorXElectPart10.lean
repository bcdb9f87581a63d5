import Derived.Test.YtefnapcegeojoaaGreatDoorRows
import Derived.Test.YtefnapcegeojoaaGreatDoorXElectPart1
import Derived.Test.YtefnapcegeojoaaGreatDoorXElectPart5
import Derived.Test.YtefnapcegeojoaaGreatDoorXElectPart9
import Derived.WalkKit
import Derived.Test.YtefnapcegeojoaaGreatDoorXElectPart7
import Derived.WalkSpells
import Derived.KernelRfl
import Derived.BigQuiet
import Derived.Deep.QuietTactic
import Derived.Deep.RegionWith
import Derived.Deep.RegionHeld3
import Derived.Deep.CutRange
import Derived.Test.YtefnapcegeojoaaGreatDoorXElectPart3
import Derived.Test.YtefnapcegeojoaaGreatDoorXElectPart8
import Derived.Laws.CopyRow
import Derived.Laws.CopyOwn

namespace Go.Proofs.YtefnapcegeojoaaGreatDoor
open Go.RowKit
set_option linter.unusedVariables false
set_option maxRecDepth 100000

theorem row_put {w : World} {B t n cap g : Nat} {bs : List Bk} (h : w.ownsRow B t 4 (.slice (some ⟨g, 0, none⟩) n cap) n (bksV bs)) {k : Nat} (hk : k < bs.length) (y : Bk) :
    ((((w.setCell ⟨g, k * 4, none⟩ (.int .i64 y.ver)).setCell ⟨g, k * 4 + 1, none⟩ (.int .i64 y.mbal)).setCell ⟨g, k * 4 + 2, none⟩ (.int .i64 y.bal)).setCell ⟨g, k * 4 + 3, none⟩ (.int .i64 y.inp)).ownsRow B t 4 (.slice (some ⟨g, 0, none⟩) n cap) n (bksV (bs.set k y)) := by
  rw [← bksV_set hk y]
  have h3 := stored3 h (k * 4) (k * 4 + 1) (k * 4 + 2) (.int .i64 y.ver) (.int .i64 y.mbal) (.int .i64 y.bal)
  exact (h3.stored (k * 4 + 3) (.int .i64 y.inp)).1
theorem row_block {w : World} {B t n cap g : Nat} {xs : List Value} (h : w.ownsRow B t 4 (.slice (some ⟨g, 0, none⟩) (n + 1) cap) (n + 1) xs) : g < w.heap.size ∧ ∀ i, w.frozen? ⟨g, i, none⟩ = false := by
  obtain ⟨g', cap', cur, e, hB, hg⟩ := own_form (by omega) h
  simp only [Value.slice.injEq, Option.some.injEq, Addr.mk.injEq, and_true] at e
  obtain ⟨rfl, _⟩ := e
  exact ⟨(Array.getElem?_eq_some_iff.1 hg).1, fun i => Joins.unfrozen_of_block hg i⟩
theorem row_keep {S : Nat → Prop} {w w' : World} {B t n cap g : Nat} {xs : List Value} (h : w.ownsRow B t 4 (.slice (some ⟨g, 0, none⟩) (n + 1) cap) (n + 1) xs) (hk : Keep S w w') (hs : ¬ S g) : w'.ownsRow B t 4 (.slice (some ⟨g, 0, none⟩) (n + 1) cap) (n + 1) xs := by
  have := OwnR.keep (.inr ⟨by omega, h⟩ : OwnR w B t 4 (.slice (some ⟨g, 0, none⟩) (n + 1) cap) (n + 1) xs) hk (fun j hj => by cases own_elim hj; exact hs)
  rcases this with ⟨h0, _⟩ | ⟨_, h⟩
  · omega
  · exact h

structure BgAt (w W : World) (p : Pxs) (B g qa : Nat) (bs : List Bk) : Prop where
  v : VarP W w.heap.size 63 p
  r : VarP W (w.heap.size + 1) 63 p00
  o : W.ownsRow B 96 4 (.slice (some ⟨g, 0, none⟩) 4 qa) 4 (bksV bs)
  k : Keep (fun j => j = g) w W
  hg : g < w.heap.size
theorem BgAt.start {w : World} (p : Pxs) {B g qa : Nat} {bs : List Bk} (ho : w.ownsRow B 96 4 (.slice (some ⟨g, 0, none⟩) 4 qa) 4 (bksV bs)) :
    BgAt w ((w.alloc (.cells #[.int .i64 p.host, .int .i64 p.ver, .int .i64 p.phase, .int .i64 p.ballot, .int .i64 p.value, .int .i64 p.next, .int .i64 p.best, .int .i64 p.bestBal] 63)).alloc (.cells #[.int .i64 0, .int .i64 0, .int .i64 0, .int .i64 0, .int .i64 0, .int .i64 0, .int .i64 0, .int .i64 0] 63)) p B g qa bs := by
  refine ⟨(VarP.new w _ p).below (Joins.below_alloc1 _ _), ?_, own_below ho (Joins.below_alloc2 _ _ _), Keep.of_below (Joins.below_alloc2 _ _ _), (row_block ho).1⟩
  have := VarP.new0 (w.alloc (.cells #[.int .i64 p.host, .int .i64 p.ver, .int .i64 p.phase, .int .i64 p.ballot, .int .i64 p.value, .int .i64 p.next, .int .i64 p.best, .int .i64 p.bestBal] 63)) 63
  simp only [World.size_alloc] at this
  exact this
theorem BgAt.below {w W W' : World} {p : Pxs} {B g qa : Nat} {bs : List Bk} (h : BgAt w W p B g qa bs) (hb : Below W.heap.size W W') : BgAt w W' p B g qa bs := ⟨h.v.below hb, h.r.below hb, own_below h.o hb, h.k.trans (Keep.of_below hb), h.hg⟩
theorem BgAt.bks {w W : World} {p : Pxs} {B g qa : Nat} {bs : List Bk} (h : BgAt w W p B g qa bs) (h4 : bs.length = 4) : Bks W (some ⟨g, 0, none⟩) bs :=
  ownBks (B := B) (e := 96) (cap := qa) (by rw [h4]; exact .inr ⟨by omega, h.o⟩)
theorem BgAt.set {w W : World} {p : Pxs} {B g qa : Nat} {bs : List Bk} (h : BgAt w W p B g qa bs) (i : Nat) (u : Value) (q : Pxs) (hv : VarP (W.setCell ⟨w.heap.size, i, none⟩ u) w.heap.size 63 q) : BgAt w (W.setCell ⟨w.heap.size, i, none⟩ u) q B g qa bs := by
  have hk : Keep (fun j => j = w.heap.size) W (W.setCell ⟨w.heap.size, i, none⟩ u) := (Keep.refl (fun j => j = w.heap.size) W).setCell (p := ⟨w.heap.size, i, none⟩) rfl u
  have := h.hg
  exact ⟨hv, h.r.keep hk (by show ¬ w.heap.size + 1 = w.heap.size; omega), row_keep h.o hk (by show ¬ g = w.heap.size; omega), keepN h.k hk (fun j hj => .inr (by omega)), h.hg⟩
theorem BgAt.bg3 {w W : World} {p : Pxs} {B g qa : Nat} {bs : List Bk} (h : BgAt w W p B g qa bs) (a b c : Int) : BgAt w (((W.setCell ⟨w.heap.size, 6, none⟩ (.int .i64 a)).setCell ⟨w.heap.size, 7, none⟩ (.int .i64 b)).setCell ⟨w.heap.size, 5, none⟩ (.int .i64 c)).drew { p with best := a, bestBal := b, next := c } B g qa bs := by
  have h1 := h.set 6 (.int .i64 a) _ (h.v.set6 a)
  have h2 := h1.set 7 (.int .i64 b) _ (h1.v.set7 b)
  exact (h2.set 5 (.int .i64 c) _ (h2.v.set5 c)).below ((Below.refl _ _).drew)
theorem BgAt.put {w W : World} {p : Pxs} {B g qa : Nat} {bs : List Bk} (h : BgAt w W p B g qa bs) {k : Nat} (hk : k < bs.length) (y : Bk) :
    BgAt w ((((W.setCell ⟨g, k * 4, none⟩ (.int .i64 y.ver)).setCell ⟨g, k * 4 + 1, none⟩ (.int .i64 y.mbal)).setCell ⟨g, k * 4 + 2, none⟩ (.int .i64 y.bal)).setCell ⟨g, k * 4 + 3, none⟩ (.int .i64 y.inp)) p B g qa (bs.set k y) := by
  have hg := h.hg
  have kk : Keep (fun j => j = g) W ((((W.setCell ⟨g, k * 4, none⟩ (.int .i64 y.ver)).setCell ⟨g, k * 4 + 1, none⟩ (.int .i64 y.mbal)).setCell ⟨g, k * 4 + 2, none⟩ (.int .i64 y.bal)).setCell ⟨g, k * 4 + 3, none⟩ (.int .i64 y.inp)) :=
    ((((Keep.refl (fun j => j = g) W).setCell (p := ⟨g, k * 4, none⟩) rfl _).setCell (p := ⟨g, k * 4 + 1, none⟩) rfl _).setCell (p := ⟨g, k * 4 + 2, none⟩) rfl _).setCell (p := ⟨g, k * 4 + 3, none⟩) rfl _
  exact ⟨h.v.keep kk (by show ¬ w.heap.size = g; omega), h.r.keep kk (by show ¬ w.heap.size + 1 = g; omega), row_put h.o hk y, h.k.trans kk, h.hg⟩
theorem BgAt.out {w W : World} {p : Pxs} {B g qa : Nat} {bs : List Bk} (h : BgAt w W p B g qa bs) (u0 u1 u2 u3 u4 u5 u6 u7 : Value) :
    ((((((((W.setCell ⟨w.heap.size + 1, 0, none⟩ u0).setCell ⟨w.heap.size + 1, 1, none⟩ u1).setCell ⟨w.heap.size + 1, 2, none⟩ u2).setCell ⟨w.heap.size + 1, 3, none⟩ u3).setCell ⟨w.heap.size + 1, 4, none⟩ u4).setCell ⟨w.heap.size + 1, 5, none⟩ u5).setCell ⟨w.heap.size + 1, 6, none⟩ u6).setCell ⟨w.heap.size + 1, 7, none⟩ u7).ownsRow B 96 4 (.slice (some ⟨g, 0, none⟩) 4 qa) 4 (bksV bs) ∧
    Keep (fun j => j = g) w ((((((((W.setCell ⟨w.heap.size + 1, 0, none⟩ u0).setCell ⟨w.heap.size + 1, 1, none⟩ u1).setCell ⟨w.heap.size + 1, 2, none⟩ u2).setCell ⟨w.heap.size + 1, 3, none⟩ u3).setCell ⟨w.heap.size + 1, 4, none⟩ u4).setCell ⟨w.heap.size + 1, 5, none⟩ u5).setCell ⟨w.heap.size + 1, 6, none⟩ u6).setCell ⟨w.heap.size + 1, 7, none⟩ u7) := by
  have hk := keep8 (Keep.refl (fun j => j = w.heap.size + 1) W) (g := w.heap.size + 1) rfl u0 u1 u2 u3 u4 u5 u6 u7
  have := h.hg
  exact ⟨row_keep h.o hk (by show ¬ g = w.heap.size + 1; omega), keepN h.k hk (fun j hj => .inr (by omega))⟩
structure BkAt (w W : World) (p : Pxs) (B g qa : Nat) (bs : List Bk) (C : Nat) (z : Bk) : Prop where
  a : BgAt w W p B g qa bs
  b : VarB W C 96 z
  gt : w.heap.size + 2 ≤ C
theorem BgAt.got {w W W' : World} {p : Pxs} {B g qa C : Nat} {bs : List Bk} {z : Bk} (h : BgAt w W p B g qa bs) (hg : Got W W' C 96 z) : BkAt w W' p B g qa bs C z :=
  ⟨h.below hg.k, hg.v, by have := h.r.lt; have := hg.gt; omega⟩
theorem BkAt.below {w W W' : World} {p : Pxs} {B g qa C : Nat} {bs : List Bk} {z : Bk} (h : BkAt w W p B g qa bs C z) (hb : Below W.heap.size W W') : BkAt w W' p B g qa bs C z := ⟨h.a.below hb, h.b.below hb, h.gt⟩
theorem BkAt.mb {w W : World} {p : Pxs} {B g qa C : Nat} {bs : List Bk} {z : Bk} (h : BkAt w W p B g qa bs C z) (n : Int) : BkAt w (W.setCell ⟨C, 1, none⟩ (.int .i64 n)) p B g qa bs C { z with mbal := n } := by
  have hk : Keep (fun j => j = C) W (W.setCell ⟨C, 1, none⟩ (.int .i64 n)) := (Keep.refl (fun j => j = C) W).setCell (p := ⟨C, 1, none⟩) rfl _
  have h1 := h.a.hg
  have h2 := h.gt
  exact ⟨⟨h.a.v.keep hk (by show ¬ w.heap.size = C; omega), h.a.r.keep hk (by show ¬ w.heap.size + 1 = C; omega), row_keep h.a.o hk (by show ¬ g = C; omega), keepN h.a.k hk (fun j hj => .inr (by omega)), h1⟩, set_heap (i := 1) h.b _, h2⟩
theorem BkAt.put {w W : World} {p : Pxs} {B g qa C : Nat} {bs : List Bk} {z : Bk} (h : BkAt w W p B g qa bs C z) {k : Nat} (hk : k < bs.length) (y : Bk) :
    BkAt w ((((W.setCell ⟨g, k * 4, none⟩ (.int .i64 y.ver)).setCell ⟨g, k * 4 + 1, none⟩ (.int .i64 y.mbal)).setCell ⟨g, k * 4 + 2, none⟩ (.int .i64 y.bal)).setCell ⟨g, k * 4 + 3, none⟩ (.int .i64 y.inp)) p B g qa (bs.set k y) C z := by
  have h1 := h.a.hg
  have h2 := h.gt
  have kk : Keep (fun j => j = g) W ((((W.setCell ⟨g, k * 4, none⟩ (.int .i64 y.ver)).setCell ⟨g, k * 4 + 1, none⟩ (.int .i64 y.mbal)).setCell ⟨g, k * 4 + 2, none⟩ (.int .i64 y.bal)).setCell ⟨g, k * 4 + 3, none⟩ (.int .i64 y.inp)) :=
    ((((Keep.refl (fun j => j = g) W).setCell (p := ⟨g, k * 4, none⟩) rfl _).setCell (p := ⟨g, k * 4 + 1, none⟩) rfl _).setCell (p := ⟨g, k * 4 + 2, none⟩) rfl _).setCell (p := ⟨g, k * 4 + 3, none⟩) rfl _
  exact ⟨h.a.put hk y, h.b.keep kk (by show ¬ C = g; omega), h2⟩
theorem bg_fin {w W' : World} {p p' : Pxs} {bs bs' : List Bk} {B g qa : Nat} (hE : pxStepP p bs = (p', bs')) (hO : W'.ownsRow B 96 4 (.slice (some ⟨g, 0, none⟩) 4 qa) 4 (bksV bs') ∧ Keep (fun j => j = g) w W') :
    Ending.returned (pV p') = .returned (pV (pxStepP p bs).1) ∧ W'.ownsRow B 96 4 (.slice (some ⟨g, 0, none⟩) 4 qa) 4 (bksV (pxStepP p bs).2) ∧ Keep (fun j => j = g) w W' :=
  ⟨by rw [hE], by rw [hE]; exact hO.1, hO.2⟩
theorem ah_no {p : Pxs} {z : Bk} (h1 : p.phase = 1) (ha : ahB z p = true ∨ z.mbal = p.ballot) : pxNo p z := by
  rcases ha with h | h
  · simp only [ahB, Bool.or_eq_true, decide_eq_true_eq] at h
    rcases h with h | h
    · exact .inl h
    · exact .inr (.inl h)
  · exact .inr (.inr (.inl ⟨h1, h⟩))
theorem ah_yes1 {p : Pxs} {z : Bk} (h1 : p.phase = 1) (ha : ¬ (ahB z p = true ∨ z.mbal = p.ballot)) : ¬ pxNo p z := by
  rintro (h | h | h | h)
  · exact ha (.inl (by simp [ahB, h]))
  · exact ha (.inl (by simp [ahB, h]))
  · exact ha (.inr h.2)
  · rw [h1] at h; exact absurd h.1 (by decide)
theorem ah_no3 {p : Pxs} {z : Bk} (h1 : p.phase = 3) (ha : ahB z p = true ∨ z.mbal ≠ p.ballot) : pxNo p z := by
  rcases ha with h | h
  · simp only [ahB, Bool.or_eq_true, decide_eq_true_eq] at h
    rcases h with h | h
    · exact .inl h
    · exact .inr (.inl h)
  · exact .inr (.inr (.inr ⟨h1, h⟩))
theorem ah_yes3 {p : Pxs} {z : Bk} (h1 : p.phase = 3) (ha : ¬ (ahB z p = true ∨ z.mbal ≠ p.ballot)) : ¬ pxNo p z := by
  rintro (h | h | h | h)
  · exact ha (.inl (by simp [ahB, h]))
  · exact ha (.inl (by simp [ahB, h]))
  · rw [h1] at h; exact absurd h.1 (by decide)
  · exact ha (.inr h.2)
theorem own_ver {p : Pxs} {bs : List Bk} {z : Bk} (hz : pxOwn p bs = z) (ha : ahB z p = false) : z.ver = p.ver := by
  have h1 : ¬ p.ver < z.ver := by intro h; simp [ahB, h] at ha
  have h2 : p.ver ≤ z.ver := by
    rw [← hz]; unfold pxOwn bkOf; split
    · exact Int.le_refl _
    · omega
  omega
end Go.Proofs.YtefnapcegeojoaaGreatDoor

namespace Go.Proofs.YtefnapcegeojoaaGreatDoor
open Go.RowKit
set_option linter.unusedVariables false
set_option maxRecDepth 100000

set_option maxHeartbeats 3200000 in
theorem beginBallot_any (p : Pxs) (g qa B : Nat) (bs : List Bk) (w : World) (h1 : p.phase = 1) (hn : bs.length = 4) (hh : 0 ≤ p.host ∧ p.host ≤ 3) (ho : w.ownsRow B 96 4 (.slice (some ⟨g, 0, none⟩) 4 qa) 4 (bksV bs)) :
    Calls Tryz.prog 151 #[pV p, .slice (some ⟨g, 0, none⟩) 4 qa] w fun e w' => e = .returned (pV (pxStepP p bs).1) ∧ w'.ownsRow B 96 4 (.slice (some ⟨g, 0, none⟩) 4 qa) 4 (bksV (pxStepP p bs).2) ∧ Keep (fun j => j = g) w w' := by
  have HN := hide hn
  have H1 := hide h1
  clear hn h1
  have E0 := hide (BgAt.start p ho)
  clear ho
  go_enter Tryz.func151, Tryz.ntmps151
  go_upto_region 1 with fail
  revert E0
  generalize (w.alloc (.cells #[.int .i64 p.host, .int .i64 p.ver, .int .i64 p.phase, .int .i64 p.ballot, .int .i64 p.value, .int .i64 p.next, .int .i64 p.best, .int .i64 p.bestBal] 63)).alloc (.cells #[.int .i64 0, .int .i64 0, .int .i64 0, .int .i64 0, .int .i64 0, .int .i64 0, .int .i64 0, .int .i64 0] 63) = W1
  intro E1
  obtain ⟨c0, c1, c2, c3, c4, c5, c6, c7⟩ := (unhide E1).v.cells
  obtain ⟨k, hk⟩ : ∃ k : Nat, p.host = k := ⟨p.host.toNat, by omega⟩
  have hk4 : k < 4 := by omega
  have hk5 : (k : Int) < 4 := by omega
  have hk6 : (0 : Int) ≤ (k : Int) := by omega
  have HOW : Hid (pxOwn p bs = bkOf (bs.getD k bk0) p.ver) := hide (by unfold pxOwn; rw [show p.host.toNat = k by omega])
  obtain ⟨b', off', eb, _, g0, g1, g2, g3⟩ := ((unhide E1).bks (unhide HN)).get k (by have := unhide HN; omega)
  simp only [Option.some.injEq, Addr.mk.injEq, and_true] at eb
  obtain ⟨rfl, rfl⟩ := eb
  simp only [Nat.zero_add] at g0 g1 g2 g3
  rw [hk] at c0
  have HK : Hid (p.host = k) := hide hk
  clear hk
  revert HOW g0 g1 g2 g3
  generalize bs.getD k bk0 = y
  intro HOW g0 g1 g2 g3
  have hgw := (unhide E1).hg
  have hxl : w.heap.size < W1.heap.size := (unhide E1).v.lt
  have hgl : g < W1.heap.size := by omega
  have hxl1 : w.heap.size + 1 < W1.heap.size := (unhide E1).r.lt
  have hxn : w.heap.size ≠ W1.heap.size := by omega
  have hxn' : W1.heap.size ≠ w.heap.size := by omega
  have hgn : g ≠ W1.heap.size := by omega
  have hgn' : W1.heap.size ≠ g := by omega
  go_cut [5] from 6 to 13 (fun c wx => ∃ C : Nat, c = .pointer (some ⟨C, 0, none⟩) ∧ Hid (Got W1 wx C 96 (bkOf y p.ver)))
  case first =>
    go_region_held3 (fun w' => w'.cell? ⟨w.heap.size, 0, none⟩ = some (.int .i64 (k : Int)) ∧ w'.cell? ⟨w.heap.size, 1, none⟩ = some (.int .i64 p.ver) ∧ w'.cell? ⟨g, k * 4, none⟩ = some (.int .i64 y.ver) ∧ w'.cell? ⟨g, k * 4 + 1, none⟩ = some (.int .i64 y.mbal) ∧ w'.cell? ⟨g, k * 4 + 2, none⟩ = some (.int .i64 y.bal) ∧ w'.cell? ⟨g, k * 4 + 3, none⟩ = some (.int .i64 y.inp)) (go_keep)
      ((go_at_call 149; refine (asOf_any y p.ver _).mono ?_; rintro e w2 ⟨rfl, hb2⟩; (first | (have hv2 : VarB w2 W1.heap.size 96 bk0 := (by exact ((VarB.new0 W1 _).below ((Below.refl _ _).drew)).below hb2); obtain ⟨x0, x1, x2, x3⟩ := hv2.cells; obtain ⟨y0, y1, y2, y3⟩ := hv2.free; have HB2 : Hid (Below W1.heap.size W1 w2) := (by exact hide (fr (Joins.below_alloc1 W1 _).drew hb2)); have HV2 := hide hv2; clear hv2 hb2) | (have HB2 : Hid (Below W1.heap.size W1 w2) := (by exact hide (fr ((Below.refl _ W1).drew) hb2)); clear hb2)); have m0 := ((unhide HB2).cell (p := ⟨w.heap.size, 0, none⟩) hxl).trans c0; have m1 := ((unhide HB2).cell (p := ⟨w.heap.size, 1, none⟩) hxl).trans c1; have m2 := ((unhide HB2).cell (p := ⟨g, k * 4, none⟩) hgl).trans g0; have m3 := ((unhide HB2).cell (p := ⟨g, k * 4 + 1, none⟩) hgl).trans g1; have m4 := ((unhide HB2).cell (p := ⟨g, k * 4 + 2, none⟩) hgl).trans g2; have m5 := ((unhide HB2).cell (p := ⟨g, k * 4 + 3, none⟩) hgl).trans g3))
    all_goals
      go_wp2_with fail
      go_meet
      first
        | exact ⟨_, rfl, hide (Got.set bk0 (unhide HB2) (unhide HV2) (Nat.le_refl _))⟩
        | exact ⟨_, rfl, hide (Got.top _ _ (unhide HB2))⟩
  case rest =>
    obtain ⟨C, rfl, HG⟩ := hcut
    rename World => W2
    have E2 := hide ((unhide E1).got (unhide HG))
    clear c0 c1 c2 c3 c4 c5 c6 c7 g0 g1 g2 g3 hxn hxn' hgn hgn' hk4 hxl hxl1 hgl HG E1
    rw [← unhide HOW] at E2
    clear HOW
    have HZ : Hid ((bkOf (bs.getD p.host.toNat bk0) p.ver) = pxOwn p bs) := hide rfl
    revert E2
    generalize hz : pxOwn p bs = z
    intro E2
    have HZZ := hide hz
    clear hz HZ
    obtain ⟨c0, c1, c2, c3, c4, c5, c6, c7⟩ := (unhide E2).a.v.cells
    obtain ⟨v0, v1, v2, v3⟩ := (unhide E2).b.cells
    go_wp2_with fail
    refine (isAhead_any z p _).mono ?_
    rintro e W3 ⟨rfl, hb⟩
    have E3 := hide ((unhide E2).below hb)
    clear hb E2 c0 c1 c2 c3 c4 c5 c6 c7 v0 v1 v2 v3
    obtain ⟨c0, c1, c2, c3, c4, c5, c6, c7⟩ := (unhide E3).a.v.cells
    obtain ⟨v0, v1, v2, v3⟩ := (unhide E3).b.cells
    by_cases ha : ahB z p = true ∨ z.mbal = p.ballot
    · have HE : Hid (pxStepP p bs = ({ p with phase := 6 }, bs)) := hide (pxStepP_no bs (.inl (unhide H1)) (by rw [unhide HZZ]; exact ah_no (unhide H1) ha))
      by_cases hb1 : ahB z p = true
      · clear ha
        go_wp2_with fail
        refine (turned_any p 6 _).mono ?_
        rintro e W4 ⟨rfl, hb⟩
        have E4 := hide ((unhide E3).below hb)
        clear hb E3 c0 c1 c2 c3 c4 c5 c6 c7 v0 v1 v2 v3
        obtain ⟨r0, r1, r2, r3, r4, r5, r6, r7⟩ := (unhide E4).a.r.cells
        obtain ⟨s0, s1, s2, s3, s4, s5, s6, s7⟩ := (unhide E4).a.r.free
        have HO := hide (fun u0 u1 u2 u3 u4 u5 u6 u7 => (unhide E4).a.out u0 u1 u2 u3 u4 u5 u6 u7)
        go_wp2
        exact bodyPost_ret (v := pV { p with phase := 6 }) (by simp [results, Tryz.results151, go_sem, r0, r1, r2, r3, r4, r5, r6, r7]) rfl (bg_fin (unhide HE) (unhide HO _ _ _ _ _ _ _ _))
      · have hm : (z.mbal == p.ballot) = true := by rcases ha with h | h; exact absurd h hb1; simp [h]
        have hb2 : ahB z p = false := by simpa using hb1
        clear ha hb1
        go_wp2_with fail
        refine (turned_any p 6 _).mono ?_
        rintro e W4 ⟨rfl, hb⟩
        have E4 := hide ((unhide E3).below hb)
        clear hb E3 c0 c1 c2 c3 c4 c5 c6 c7 v0 v1 v2 v3
        obtain ⟨r0, r1, r2, r3, r4, r5, r6, r7⟩ := (unhide E4).a.r.cells
        obtain ⟨s0, s1, s2, s3, s4, s5, s6, s7⟩ := (unhide E4).a.r.free
        have HO := hide (fun u0 u1 u2 u3 u4 u5 u6 u7 => (unhide E4).a.out u0 u1 u2 u3 u4 u5 u6 u7)
        go_wp2
        exact bodyPost_ret (v := pV { p with phase := 6 }) (by simp [results, Tryz.results151, go_sem, r0, r1, r2, r3, r4, r5, r6, r7]) rfl (bg_fin (unhide HE) (unhide HO _ _ _ _ _ _ _ _))
    · have hb2 : ahB z p = false := by simpa using fun h => ha (.inl h)
      have hm : (z.mbal == p.ballot) = false := by simp; exact fun h => ha (.inr h)
      have HE : Hid (pxStepP p bs = ({ p with phase := 2, next := 0, best := z.inp, bestBal := z.bal }, bs.set k ⟨p.ver, p.ballot, z.bal, z.inp⟩)) := hide (by
        rw [pxStepP_wr bs (.inl (unhide H1)) (by rw [unhide HZZ]; exact ah_yes1 (unhide H1) ha), unhide HZZ, show p.host.toNat = k by have := unhide HK; omega, pxW1, if_pos (unhide H1), pxW2, if_pos (unhide H1)])
      have HV : Hid (z.ver = p.ver) := hide (own_ver (unhide HZZ) hb2)
      clear ha
      obtain ⟨f0, f1, f2, f3⟩ := (unhide E3).b.free
      obtain ⟨b', off', eb, _, g0, g1, g2, g3⟩ := ((unhide E3).a.bks (unhide HN)).get k (by have := unhide HN; omega)
      simp only [Option.some.injEq, Addr.mk.injEq, and_true] at eb
      obtain ⟨rfl, rfl⟩ := eb
      simp only [Nat.zero_add] at g0 g1 g2 g3
      have zf := (row_block (unhide E3).a.o).2
      rw [unhide HK] at c0
      have hC := (unhide E3).gt
      have nC0 : C ≠ w.heap.size := by omega
      have nC0' : w.heap.size ≠ C := by omega
      have nCg : C ≠ g := by omega
      have nCg' : g ≠ C := by omega
      have ngx : g ≠ w.heap.size := by omega
      have ngx' : w.heap.size ≠ g := by omega
      have E5 := hide (((unhide E3).mb p.ballot).put (k := k) (by have := unhide HN; omega) ⟨z.ver, p.ballot, z.bal, z.inp⟩)
      go_upto_region 6 with fail
      clear c0 c1 c2 c3 c4 c5 c6 c7 v0 v1 v2 v3 f0 f1 f2 f3 g0 g1 g2 g3 zf E3
      revert E5
      generalize ((((W3.setCell ⟨C, 1, none⟩ (.int .i64 p.ballot)).setCell ⟨g, k * 4, none⟩ (.int .i64 z.ver)).setCell ⟨g, k * 4 + 1, none⟩ (.int .i64 p.ballot)).setCell ⟨g, k * 4 + 2, none⟩ (.int .i64 z.bal)).setCell ⟨g, k * 4 + 3, none⟩ (.int .i64 z.inp) = W5
      intro E5
      obtain ⟨c0, c1, c2, c3, c4, c5, c6, c7⟩ := (unhide E5).a.v.cells
      obtain ⟨f0, f1, f2, f3, f4, f5, f6, f7⟩ := (unhide E5).a.v.free
      obtain ⟨v0, v1, v2, v3⟩ := (unhide E5).b.cells
      have E7 := hide ((unhide E5).a.bg3 z.inp z.bal 0)
      go_region
      clear c0 c1 c2 c3 c4 c5 c6 c7 v0 v1 v2 v3 f0 f1 f2 f3 f4 f5 f6 f7
      go_upto_region 7 with fail
      revert E7
      generalize (((W5.setCell ⟨w.heap.size, 6, none⟩ (.int .i64 z.inp)).setCell ⟨w.heap.size, 7, none⟩ (.int .i64 z.bal)).setCell ⟨w.heap.size, 5, none⟩ (.int .i64 0)).drew = W7
      intro E7
      obtain ⟨c0, c1, c2, c3, c4, c5, c6, c7⟩ := (unhide E7).v.cells
      go_wp2_with fail
      refine (turned_any { p with best := z.inp, bestBal := z.bal, next := 0 } 2 _).mono ?_
      rintro e W8 ⟨rfl, hb⟩
      have E8 := hide ((unhide E7).below hb)
      clear hb c0 c1 c2 c3 c4 c5 c6 c7
      obtain ⟨r0, r1, r2, r3, r4, r5, r6, r7⟩ := (unhide E8).r.cells
      obtain ⟨s0, s1, s2, s3, s4, s5, s6, s7⟩ := (unhide E8).r.free
      have HO := hide (fun u0 u1 u2 u3 u4 u5 u6 u7 => (unhide E8).out u0 u1 u2 u3 u4 u5 u6 u7)
      rw [unhide HV] at HO
      go_wp2
      exact bodyPost_ret (v := pV { p with phase := 2, next := 0, best := z.inp, bestBal := z.bal }) (by simp [results, Tryz.results151, go_sem, r0, r1, r2, r3, r4, r5, r6, r7]) rfl (bg_fin (unhide HE) (unhide HO _ _ _ _ _ _ _ _))

set_option maxHeartbeats 3200000 in
theorem acceptValue_any (p : Pxs) (g qa B : Nat) (bs : List Bk) (w : World) (h1 : p.phase = 3) (hn : bs.length = 4) (hh : 0 ≤ p.host ∧ p.host ≤ 3) (ho : w.ownsRow B 96 4 (.slice (some ⟨g, 0, none⟩) 4 qa) 4 (bksV bs)) :
    Calls Tryz.prog 155 #[pV p, .slice (some ⟨g, 0, none⟩) 4 qa] w fun e w' => e = .returned (pV (pxStepP p bs).1) ∧ w'.ownsRow B 96 4 (.slice (some ⟨g, 0, none⟩) 4 qa) 4 (bksV (pxStepP p bs).2) ∧ Keep (fun j => j = g) w w' := by
  have HN := hide hn
  have H1 := hide h1
  clear hn h1
  have E0 := hide (BgAt.start p ho)
  clear ho
  go_enter Tryz.func155, Tryz.ntmps155
  go_upto_region 1 with fail
  revert E0
  generalize (w.alloc (.cells #[.int .i64 p.host, .int .i64 p.ver, .int .i64 p.phase, .int .i64 p.ballot, .int .i64 p.value, .int .i64 p.next, .int .i64 p.best, .int .i64 p.bestBal] 63)).alloc (.cells #[.int .i64 0, .int .i64 0, .int .i64 0, .int .i64 0, .int .i64 0, .int .i64 0, .int .i64 0, .int .i64 0] 63) = W1
  intro E1
  obtain ⟨c0, c1, c2, c3, c4, c5, c6, c7⟩ := (unhide E1).v.cells
  obtain ⟨k, hk⟩ : ∃ k : Nat, p.host = k := ⟨p.host.toNat, by omega⟩
  have hk4 : k < 4 := by omega
  have hk5 : (k : Int) < 4 := by omega
  have hk6 : (0 : Int) ≤ (k : Int) := by omega
  have HOW : Hid (pxOwn p bs = bkOf (bs.getD k bk0) p.ver) := hide (by unfold pxOwn; rw [show p.host.toNat = k by omega])
  obtain ⟨b', off', eb, _, g0, g1, g2, g3⟩ := ((unhide E1).bks (unhide HN)).get k (by have := unhide HN; omega)
  simp only [Option.some.injEq, Addr.mk.injEq, and_true] at eb
  obtain ⟨rfl, rfl⟩ := eb
  simp only [Nat.zero_add] at g0 g1 g2 g3
  rw [hk] at c0
  have HK : Hid (p.host = k) := hide hk
  clear hk
  revert HOW g0 g1 g2 g3
  generalize bs.getD k bk0 = y
  intro HOW g0 g1 g2 g3
  have hgw := (unhide E1).hg
  have hxl : w.heap.size < W1.heap.size := (unhide E1).v.lt
  have hgl : g < W1.heap.size := by omega
  have hxl1 : w.heap.size + 1 < W1.heap.size := (unhide E1).r.lt
  have hxn : w.heap.size ≠ W1.heap.size := by omega
  have hxn' : W1.heap.size ≠ w.heap.size := by omega
  have hgn : g ≠ W1.heap.size := by omega
  have hgn' : W1.heap.size ≠ g := by omega
  go_cut [5] from 6 to 13 (fun c wx => ∃ C : Nat, c = .pointer (some ⟨C, 0, none⟩) ∧ Hid (Got W1 wx C 96 (bkOf y p.ver)))
  case first =>
    go_region_held3 (fun w' => w'.cell? ⟨w.heap.size, 0, none⟩ = some (.int .i64 (k : Int)) ∧ w'.cell? ⟨w.heap.size, 1, none⟩ = some (.int .i64 p.ver) ∧ w'.cell? ⟨g, k * 4, none⟩ = some (.int .i64 y.ver) ∧ w'.cell? ⟨g, k * 4 + 1, none⟩ = some (.int .i64 y.mbal) ∧ w'.cell? ⟨g, k * 4 + 2, none⟩ = some (.int .i64 y.bal) ∧ w'.cell? ⟨g, k * 4 + 3, none⟩ = some (.int .i64 y.inp)) (go_keep)
      ((go_at_call 149; refine (asOf_any y p.ver _).mono ?_; rintro e w2 ⟨rfl, hb2⟩; (first | (have hv2 : VarB w2 W1.heap.size 96 bk0 := (by exact ((VarB.new0 W1 _).below ((Below.refl _ _).drew)).below hb2); obtain ⟨x0, x1, x2, x3⟩ := hv2.cells; obtain ⟨y0, y1, y2, y3⟩ := hv2.free; have HB2 : Hid (Below W1.heap.size W1 w2) := (by exact hide (fr (Joins.below_alloc1 W1 _).drew hb2)); have HV2 := hide hv2; clear hv2 hb2) | (have HB2 : Hid (Below W1.heap.size W1 w2) := (by exact hide (fr ((Below.refl _ W1).drew) hb2)); clear hb2)); have m0 := ((unhide HB2).cell (p := ⟨w.heap.size, 0, none⟩) hxl).trans c0; have m1 := ((unhide HB2).cell (p := ⟨w.heap.size, 1, none⟩) hxl).trans c1; have m2 := ((unhide HB2).cell (p := ⟨g, k * 4, none⟩) hgl).trans g0; have m3 := ((unhide HB2).cell (p := ⟨g, k * 4 + 1, none⟩) hgl).trans g1; have m4 := ((unhide HB2).cell (p := ⟨g, k * 4 + 2, none⟩) hgl).trans g2; have m5 := ((unhide HB2).cell (p := ⟨g, k * 4 + 3, none⟩) hgl).trans g3))
    all_goals
      go_wp2_with fail
      go_meet
      first
        | exact ⟨_, rfl, hide (Got.set bk0 (unhide HB2) (unhide HV2) (Nat.le_refl _))⟩
        | exact ⟨_, rfl, hide (Got.top _ _ (unhide HB2))⟩
  case rest =>
    obtain ⟨C, rfl, HG⟩ := hcut
    rename World => W2
    have E2 := hide ((unhide E1).got (unhide HG))
    clear c0 c1 c2 c3 c4 c5 c6 c7 g0 g1 g2 g3 hxn hxn' hgn hgn' hk4 hxl hxl1 hgl HG E1
    rw [← unhide HOW] at E2
    clear HOW
    have HZ : Hid ((bkOf (bs.getD p.host.toNat bk0) p.ver) = pxOwn p bs) := hide rfl
    revert E2
    generalize hz : pxOwn p bs = z
    intro E2
    have HZZ := hide hz
    clear hz HZ
    obtain ⟨c0, c1, c2, c3, c4, c5, c6, c7⟩ := (unhide E2).a.v.cells
    obtain ⟨v0, v1, v2, v3⟩ := (unhide E2).b.cells
    go_wp2_with fail
    refine (isAhead_any z p _).mono ?_
    rintro e W3 ⟨rfl, hb⟩
    have E3 := hide ((unhide E2).below hb)
    clear hb E2 c0 c1 c2 c3 c4 c5 c6 c7 v0 v1 v2 v3
    obtain ⟨c0, c1, c2, c3, c4, c5, c6, c7⟩ := (unhide E3).a.v.cells
    obtain ⟨v0, v1, v2, v3⟩ := (unhide E3).b.cells
    by_cases ha : ahB z p = true ∨ z.mbal ≠ p.ballot
    · have HE : Hid (pxStepP p bs = ({ p with phase := 6 }, bs)) := hide (pxStepP_no bs (.inr (unhide H1)) (by rw [unhide HZZ]; exact ah_no3 (unhide H1) ha))
      by_cases hb1 : ahB z p = true
      · clear ha
        go_wp2_with fail
        refine (turned_any p 6 _).mono ?_
        rintro e W4 ⟨rfl, hb⟩
        have E4 := hide ((unhide E3).below hb)
        clear hb E3 c0 c1 c2 c3 c4 c5 c6 c7 v0 v1 v2 v3
        obtain ⟨r0, r1, r2, r3, r4, r5, r6, r7⟩ := (unhide E4).a.r.cells
        obtain ⟨s0, s1, s2, s3, s4, s5, s6, s7⟩ := (unhide E4).a.r.free
        have HO := hide (fun u0 u1 u2 u3 u4 u5 u6 u7 => (unhide E4).a.out u0 u1 u2 u3 u4 u5 u6 u7)
        go_wp2
        exact bodyPost_ret (v := pV { p with phase := 6 }) (by simp [results, Tryz.results155, go_sem, r0, r1, r2, r3, r4, r5, r6, r7]) rfl (bg_fin (unhide HE) (unhide HO _ _ _ _ _ _ _ _))
      · have hm : (z.mbal != p.ballot) = true := by rcases ha with h | h; exact absurd h hb1; simp [h]
        have hb2 : ahB z p = false := by simpa using hb1
        clear ha hb1
        go_wp2_with fail
        refine (turned_any p 6 _).mono ?_
        rintro e W4 ⟨rfl, hb⟩
        have E4 := hide ((unhide E3).below hb)
        clear hb E3 c0 c1 c2 c3 c4 c5 c6 c7 v0 v1 v2 v3
        obtain ⟨r0, r1, r2, r3, r4, r5, r6, r7⟩ := (unhide E4).a.r.cells
        obtain ⟨s0, s1, s2, s3, s4, s5, s6, s7⟩ := (unhide E4).a.r.free
        have HO := hide (fun u0 u1 u2 u3 u4 u5 u6 u7 => (unhide E4).a.out u0 u1 u2 u3 u4 u5 u6 u7)
        go_wp2
        exact bodyPost_ret (v := pV { p with phase := 6 }) (by simp [results, Tryz.results155, go_sem, r0, r1, r2, r3, r4, r5, r6, r7]) rfl (bg_fin (unhide HE) (unhide HO _ _ _ _ _ _ _ _))
    · have hb2 : ahB z p = false := by simpa using fun h => ha (.inl h)
      have hm : (z.mbal != p.ballot) = false := by simp; exact Decidable.not_not.1 (fun h => ha (.inr h))
      have HE : Hid (pxStepP p bs = ({ p with phase := 4, next := 0 }, bs.set k ⟨p.ver, p.ballot, p.ballot, p.value⟩)) := hide (by
        rw [pxStepP_wr bs (.inr (unhide H1)) (by rw [unhide HZZ]; exact ah_yes3 (unhide H1) ha), unhide HZZ, show p.host.toNat = k by have := unhide HK; omega, pxW1, if_neg (by rw [unhide H1]; decide), pxW2, if_neg (by rw [unhide H1]; decide)])
      clear ha
      obtain ⟨b', off', eb, _, g0, g1, g2, g3⟩ := ((unhide E3).a.bks (unhide HN)).get k (by have := unhide HN; omega)
      simp only [Option.some.injEq, Addr.mk.injEq, and_true] at eb
      obtain ⟨rfl, rfl⟩ := eb
      simp only [Nat.zero_add] at g0 g1 g2 g3
      have zf := (row_block (unhide E3).a.o).2
      rw [unhide HK] at c0
      have hC := (unhide E3).gt
      have nC0 : C ≠ w.heap.size := by omega
      have nC0' : w.heap.size ≠ C := by omega
      have nCg : C ≠ g := by omega
      have nCg' : g ≠ C := by omega
      have ngx : g ≠ w.heap.size := by omega
      have ngx' : w.heap.size ≠ g := by omega
      have E5 := hide ((unhide E3).a.put (k := k) (by have := unhide HN; omega) ⟨p.ver, p.ballot, p.ballot, p.value⟩)
      go_upto_region 5 with fail
      clear c0 c1 c2 c3 c4 c5 c6 c7 v0 v1 v2 v3 g0 g1 g2 g3 zf E3
      revert E5
      generalize (((W3.setCell ⟨g, k * 4, none⟩ (.int .i64 p.ver)).setCell ⟨g, k * 4 + 1, none⟩ (.int .i64 p.ballot)).setCell ⟨g, k * 4 + 2, none⟩ (.int .i64 p.ballot)).setCell ⟨g, k * 4 + 3, none⟩ (.int .i64 p.value) = W5
      intro E5
      obtain ⟨c0, c1, c2, c3, c4, c5, c6, c7⟩ := (unhide E5).v.cells
      obtain ⟨f0, f1, f2, f3, f4, f5, f6, f7⟩ := (unhide E5).v.free
      have E7 := hide ((unhide E5).set 5 (.int .i64 0) _ ((unhide E5).v.set5 _))
      go_upto_region 6 with fail
      clear c0 c1 c2 c3 c4 c5 c6 c7 f0 f1 f2 f3 f4 f5 f6 f7
      revert E7
      generalize W5.setCell ⟨w.heap.size, 5, none⟩ (.int .i64 0) = W7
      intro E7
      obtain ⟨c0, c1, c2, c3, c4, c5, c6, c7⟩ := (unhide E7).v.cells
      go_wp2_with fail
      refine (turned_any { p with next := 0 } 4 _).mono ?_
      rintro e W8 ⟨rfl, hb⟩
      have E8 := hide ((unhide E7).below hb)
      clear hb c0 c1 c2 c3 c4 c5 c6 c7
      obtain ⟨r0, r1, r2, r3, r4, r5, r6, r7⟩ := (unhide E8).r.cells
      obtain ⟨s0, s1, s2, s3, s4, s5, s6, s7⟩ := (unhide E8).r.free
      have HO := hide (fun u0 u1 u2 u3 u4 u5 u6 u7 => (unhide E8).out u0 u1 u2 u3 u4 u5 u6 u7)
      go_wp2
      exact bodyPost_ret (v := pV { p with phase := 4, next := 0 }) (by simp [results, Tryz.results155, go_sem, r0, r1, r2, r3, r4, r5, r6, r7]) rfl (bg_fin (unhide HE) (unhide HO _ _ _ _ _ _ _ _))

end Go.Proofs.YtefnapcegeojoaaGreatDoor

namespace Go.Proofs.YtefnapcegeojoaaGreatDoor
open Go.RowKit
set_option linter.unusedVariables false
set_option maxRecDepth 100000

theorem PxAt.all {w W : World} {x : Nat} {p : Pxs} (h : PxAt w W x p) (q : Pxs) : PxAt w ((((((((W.setCell ⟨x, 0, none⟩ (.int .i64 q.host)).setCell ⟨x, 1, none⟩ (.int .i64 q.ver)).setCell ⟨x, 2, none⟩ (.int .i64 q.phase)).setCell ⟨x, 3, none⟩ (.int .i64 q.ballot)).setCell ⟨x, 4, none⟩ (.int .i64 q.value)).setCell ⟨x, 5, none⟩ (.int .i64 q.next)).setCell ⟨x, 6, none⟩ (.int .i64 q.best)).setCell ⟨x, 7, none⟩ (.int .i64 q.bestBal)) x q := by
  have hk := keep8 (Keep.refl (fun j => j = x) W) (g := x) rfl (.int .i64 q.host) (.int .i64 q.ver) (.int .i64 q.phase) (.int .i64 q.ballot) (.int .i64 q.value) (.int .i64 q.next) (.int .i64 q.best) (.int .i64 q.bestBal)
  exact ⟨h.v.put q, h.r.keep hk (by show ¬ x + 1 = x; omega), below8 h.k h.ge _ _ _ _ _ _ _ _, h.ge⟩
structure Heed (fh fe : Nat) (hd : Pxs → Bk → Pxs) (en : Pxs → Pxs) (n : Int) : Prop where
  c1 : ∀ (q : Pxs) (z : Bk) (W : World), Calls Tryz.prog fh #[pV q, bV z] W fun e w' => e = .returned (pV (hd q z)) ∧ Below W.heap.size W w'
  c2 : ∀ (q : Pxs) (W : World), Calls Tryz.prog fe #[pV q] W fun e w' => e = .returned (pV (en q)) ∧ Below W.heap.size W w'
  r1 : ∀ (args : Array Value) (W : World), (callFunc fh args).run Tryz.prog W = .ok (.enter fh args) W
  r2 : ∀ (args : Array Value) (W : World), (callFunc fe args).run Tryz.prog W = .ok (.enter fe args) W
  look : ∀ (q : Pxs) (z : Bk), q.phase = n → { hd q z with next := skip { hd q z with next := (hd q z).next + 1 } ((hd q z).next + 1) } = pxLook q z
  next : ∀ (q : Pxs) (z : Bk), (hd q z).next = q.next ∧ (hd q z).host = q.host
  stay : ∀ (q : Pxs) (z : Bk), (pxLook q z).phase = q.phase
  fin : ∀ (q : Pxs), q.phase = n → ¬ q.next < 4 → en q = pxEnd q
theorem heed2 : Heed 153 154 hdP chP 2 := by
  refine ⟨heedAccepted_any, chooseValue_any, fun _ _ => rfl, fun _ _ => rfl, ?_, ?_, fun _ _ => rfl, ?_⟩
  · intro q z hq
    unfold hdP pxLook
    by_cases h : q.bestBal < z.bal
    · simp [h, hq, skip]
    · simp [h, skip]
  · intro q z
    unfold hdP
    split <;> exact ⟨rfl, rfl⟩
  · intro q hq h4
    rw [pxEnd_2 h4 hq]
    unfold chP
    split <;> simp [*]
theorem heed4 : Heed 156 157 (fun q _ => q) (fun q => { q with phase := 5 }) 4 := by
  refine ⟨heedNothing_any, decideValue_any, fun _ _ => rfl, fun _ _ => rfl, ?_, fun _ _ => ⟨rfl, rfl⟩, fun _ _ => rfl, ?_⟩
  · intro q z hq
    simp [pxLook, hq, skip]
  · intro q hq h4
    rw [pxEnd_4 h4 hq]

set_option maxHeartbeats 6400000 in
theorem readBallot1_any (fh fe : Nat) (hd : Pxs → Bk → Pxs) (en : Pxs → Pxs) (n : Int) (hf : Heed fh fe hd en n) (p : Pxs) (ao : Option Addr) (m cap H E : Nat) (bs : List Bk) (w : World) (hn : bs.length = m) (hm : m = 4) (hp : p.phase = n) (hh : 0 ≤ p.host ∧ p.host ≤ 3) (hx : 0 ≤ p.next ∧ p.next ≤ 4) (hr : Bks w ao bs)
    (h1 : w.cell? ⟨H, 0, none⟩ = some (.func (.func fh) #[] #[])) (h2 : w.cell? ⟨E, 0, none⟩ = some (.func (.func fe) #[] #[])) :
    Calls Tryz.prog 164 #[pV p, .slice ao m cap, .pointer (some ⟨H, 0, none⟩), .pointer (some ⟨E, 0, none⟩)] w fun e w' => e = .returned (pV (pxRd p bs)) ∧ Below w.heap.size w w' := by
  have H0 : Hid (PxAt w ((w.alloc (.cells #[.int .i64 p.host, .int .i64 p.ver, .int .i64 p.phase, .int .i64 p.ballot, .int .i64 p.value, .int .i64 p.next, .int .i64 p.best, .int .i64 p.bestBal] 63)).alloc (.cells #[.int .i64 0, .int .i64 0, .int .i64 0, .int .i64 0, .int .i64 0, .int .i64 0, .int .i64 0, .int .i64 0] 63)) w.heap.size p) :=
    hide ⟨(VarP.new w _ p).below (Joins.below_alloc1 _ _), by
      have := VarP.new0 (w.alloc (.cells #[.int .i64 p.host, .int .i64 p.ver, .int .i64 p.phase, .int .i64 p.ballot, .int .i64 p.value, .int .i64 p.next, .int .i64 p.best, .int .i64 p.bestBal] 63)) 63
      simp only [World.size_alloc] at this
      exact this, Joins.below_alloc2 _ _ _, Nat.le_refl _⟩
  have HR := hide hr
  have HF := hide hf
  have HP := hide hp
  have HN := hide hn
  have hHl := World.block_lt_of_cell? _ _ h1
  have hEl := World.block_lt_of_cell? _ _ h2
  have HH := hide h1
  have HE := hide h2
  clear hr hf hp hn h1 h2
  subst hm
  go_enter Tryz.func164, Tryz.ntmps164
  go_wp2_with fail
  refine (pastOwn_any p _ hx).mono ?_
  rintro e W1 ⟨rfl, hb⟩
  have E1 := hide ((unhide H0).below hb)
  clear hb H0
  have HQ : Hid (pxRd p bs = pxRd1 { p with next := skip p p.next } bs) := hide rfl
  have hq0 : 0 ≤ ({ p with next := skip p p.next } : Pxs).next ∧ ({ p with next := skip p p.next } : Pxs).next ≤ 4 := by show 0 ≤ skip p p.next ∧ skip p p.next ≤ 4; unfold skip; split <;> omega
  have hq1 : 0 ≤ ({ p with next := skip p p.next } : Pxs).host ∧ ({ p with next := skip p p.next } : Pxs).host ≤ 3 := hh
  have HPQ : Hid (({ p with next := skip p p.next } : Pxs).phase = n) := HP
  revert HQ hq0 hq1 HPQ
  generalize ({ p with next := skip p p.next } : Pxs) = q
  intro HQ hq0 hq1 HPQ
  obtain ⟨f0, f1, f2, f3, f4, f5, f6, f7⟩ := (unhide E1).v.free
  obtain ⟨c0, c1, c2, c3, c4, c5, c6, c7⟩ := (unhide E1).v.cells
  have E2 := hide ((unhide E1).all q)
  go_upto_region 2 with fail
  clear c0 c1 c2 c3 c4 c5 c6 c7 f0 f1 f2 f3 f4 f5 f6 f7 E1
  revert E2
  generalize (((((((W1.setCell ⟨w.heap.size, 0, none⟩ (.int .i64 q.host)).setCell ⟨w.heap.size, 1, none⟩ (.int .i64 q.ver)).setCell ⟨w.heap.size, 2, none⟩ (.int .i64 q.phase)).setCell ⟨w.heap.size, 3, none⟩ (.int .i64 q.ballot)).setCell ⟨w.heap.size, 4, none⟩ (.int .i64 q.value)).setCell ⟨w.heap.size, 5, none⟩ (.int .i64 q.next)).setCell ⟨w.heap.size, 6, none⟩ (.int .i64 q.best)).setCell ⟨w.heap.size, 7, none⟩ (.int .i64 q.bestBal) = W2
  intro E2
  clear hh hx
  obtain ⟨c0, c1, c2, c3, c4, c5, c6, c7⟩ := (unhide E2).v.cells
  go_upto_if 12 with fail
  go_cut [] from 8 to 35 (fun wx => ∃ z : Pxs, Hid (PxAt w wx w.heap.size z) ∧ Hid (pxRd p bs = pxEnd z) ∧ (0 ≤ z.next ∧ z.next ≤ 4) ∧ Hid (z.phase = n))
  case first =>
    by_cases h4 : q.next < 4
    · have hd1 : Hid (pxRd p bs = (if q.ver < (bkOf (bs.getD q.next.toNat bk0) q.ver).ver ∨ q.ballot < (bkOf (bs.getD q.next.toNat bk0) q.ver).mbal then { q with phase := 6 } else pxEnd (pxLook q (bkOf (bs.getD q.next.toNat bk0) q.ver)))) := hide ((unhide HQ).trans (if_pos h4))
      clear HQ
      obtain ⟨k, hk⟩ : ∃ k : Nat, q.next = k := ⟨q.next.toNat, by omega⟩
      have hkl : k < bs.length := by have := unhide HN; omega
      rw [show q.next.toNat = k by omega] at hd1
      obtain ⟨b, off, rfl, hb, g0, g1, g2, g3⟩ := ((unhide HR).below (unhide E2).k).get k hkl
      revert hd1 g0 g1 g2 g3
      generalize bs.getD k bk0 = y
      intro hd1 g0 g1 g2 g3
      have hk4 : k < 4 := by omega
      have hk5 : (k : Int) < 4 := by omega
      have hk6 : (0 : Int) ≤ (k : Int) := by omega
      have hxl : w.heap.size < W2.heap.size := (unhide E2).v.lt
      have hxl1 : w.heap.size + 1 < W2.heap.size := (unhide E2).r.lt
      have hbn : b ≠ W2.heap.size := by omega
      have hbn' : W2.heap.size ≠ b := by omega
      have hxn : w.heap.size ≠ W2.heap.size := by omega
      have hxn' : W2.heap.size ≠ w.heap.size := by omega
      rw [hk] at c5
      clear hkl
      go_upto_region 3 with fail
      go_cut [7] from 8 to 20 (fun c wx => ∃ C : Nat, c = .pointer (some ⟨C, 0, none⟩) ∧ Hid (Got W2 wx C 96 (bkOf y q.ver)))
      case first =>
        go_region_held3 (fun w' => w'.cell? ⟨w.heap.size, 5, none⟩ = some (.int .i64 (k : Int)) ∧ w'.cell? ⟨w.heap.size, 1, none⟩ = some (.int .i64 q.ver) ∧ w'.cell? ⟨b, off + k * 4, none⟩ = some (.int .i64 y.ver) ∧ w'.cell? ⟨b, off + k * 4 + 1, none⟩ = some (.int .i64 y.mbal) ∧ w'.cell? ⟨b, off + k * 4 + 2, none⟩ = some (.int .i64 y.bal) ∧ w'.cell? ⟨b, off + k * 4 + 3, none⟩ = some (.int .i64 y.inp)) (go_keep)
          ((go_at_call 149; refine (asOf_any y q.ver _).mono ?_; rintro e w2 ⟨rfl, hb2⟩; (first | (have hv2 : VarB w2 W2.heap.size 96 bk0 := (by exact ((VarB.new0 W2 _).below ((Below.refl _ _).drew)).below hb2); obtain ⟨x0, x1, x2, x3⟩ := hv2.cells; obtain ⟨y0, y1, y2, y3⟩ := hv2.free; have HB2 : Hid (Below W2.heap.size W2 w2) := (by exact hide (fr (Joins.below_alloc1 W2 _).drew hb2)); have HV2 := hide hv2; clear hv2 hb2) | (have HB2 : Hid (Below W2.heap.size W2 w2) := (by exact hide (fr ((Below.refl _ W2).drew) hb2)); clear hb2)); have m0 := ((unhide HB2).cell (p := ⟨w.heap.size, 5, none⟩) hxl).trans c5; have m1 := ((unhide HB2).cell (p := ⟨w.heap.size, 1, none⟩) hxl).trans c1; have m2 := ((unhide HB2).cell (p := ⟨b, off + k * 4, none⟩) hb).trans g0; have m3 := ((unhide HB2).cell (p := ⟨b, off + k * 4 + 1, none⟩) hb).trans g1; have m4 := ((unhide HB2).cell (p := ⟨b, off + k * 4 + 2, none⟩) hb).trans g2; have m5 := ((unhide HB2).cell (p := ⟨b, off + k * 4 + 3, none⟩) hb).trans g3))
        all_goals
          go_wp2_with fail
          go_meet
          first
            | exact ⟨_, rfl, hide (Got.set bk0 (unhide HB2) (unhide HV2) (Nat.le_refl _))⟩
            | exact ⟨_, rfl, hide (Got.top _ _ (unhide HB2))⟩
      case rest =>
        obtain ⟨C, rfl, HG⟩ := hcut
        rename World => W3
        have E3 := hide ((unhide E2).below (unhide HG).k)
        have hCl : C ≠ w.heap.size := by have := (unhide HG).gt; omega
        have hCr : C ≠ w.heap.size + 1 := by have := (unhide HG).gt; omega
        clear c0 c1 c2 c3 c4 c5 c6 c7 g0 g1 g2 g3 hb hbn hbn' hxn hxn' hxl hxl1 hk hk4 hk5 hk6 HR E2
        obtain ⟨c0, c1, c2, c3, c4, c5, c6, c7⟩ := (unhide E3).v.cells
        have VB3 := hide (unhide HG).v
        clear HG
        revert hd1 VB3
        generalize bkOf y q.ver = z
        intro hd1 VB3
        obtain ⟨v0, v1, v2, v3⟩ := (unhide VB3).cells
        go_wp2_with fail
        refine (isAhead_any z q _).mono ?_
        rintro e W4 ⟨rfl, hb⟩
        have E4 := hide ((unhide E3).below hb)
        have VB4 := hide ((unhide VB3).below hb)
        clear hb E3 VB3 c0 c1 c2 c3 c4 c5 c6 c7 v0 v1 v2 v3
        obtain ⟨c0, c1, c2, c3, c4, c5, c6, c7⟩ := (unhide E4).v.cells
        obtain ⟨v0, v1, v2, v3⟩ := (unhide VB4).cells
        by_cases ha : ahB z q = true
        · have HEE : Hid (pxRd p bs = { q with phase := 6 }) := hide ((unhide hd1).trans (if_pos (by simpa [ahB] using ha)))
          go_wp2_with fail
          refine (turned_any q 6 _).mono ?_
          rintro e W5 ⟨rfl, hb⟩
          have E5 := hide ((unhide E4).below hb)
          clear hb E4 c0 c1 c2 c3 c4 c5 c6 c7 v0 v1 v2 v3
          obtain ⟨r0, r1, r2, r3, r4, r5, r6, r7⟩ := (unhide E5).r.cells
          obtain ⟨s0, s1, s2, s3, s4, s5, s6, s7⟩ := (unhide E5).r.free
          have HK := hide (fun u0 u1 u2 u3 u4 u5 u6 u7 => below8 (unhide E5).k (show w.heap.size ≤ w.heap.size + 1 by omega) u0 u1 u2 u3 u4 u5 u6 u7)
          go_wp2
          exact bodyPost_ret (v := pV { q with phase := 6 }) (by simp [results, Tryz.results164, go_sem, r0, r1, r2, r3, r4, r5, r6, r7]) rfl ⟨by rw [unhide HEE], unhide HK _ _ _ _ _ _ _ _⟩
        · have HEE : Hid (pxRd p bs = pxEnd (pxLook q z)) := hide ((unhide hd1).trans (if_neg (by simpa [ahB] using ha)))
          rw [Bool.not_eq_true] at ha
          clear hd1
          have e1 := ((unhide E4).k.cell (p := ⟨H, 0, none⟩) hHl).trans (unhide HH)
          have hL := (unhide HF).look q z (unhide HPQ)
          have hN := (unhide HF).next q z
          have hcf := (unhide HF).r1
          go_wp2_with fail
          refine ((unhide HF).c1 q z _).mono ?_
          rintro e W5 ⟨rfl, hb⟩
          have E5 := hide ((unhide E4).below hb)
          have HL := hide hL
          have HNX := hide hN
          clear hb E4 c0 c1 c2 c3 c4 c5 c6 c7 v0 v1 v2 v3 e1 hL hN hcf
          revert HL HNX
          generalize hd q z = q2
          intro HL HNX
          obtain ⟨f0, f1, f2, f3, f4, f5, f6, f7⟩ := (unhide E5).v.free
          obtain ⟨c0, c1, c2, c3, c4, c5, c6, c7⟩ := (unhide E5).v.cells
          have E6 := hide ((unhide E5).all q2)
          go_upto_region 7 with fail
          clear c0 c1 c2 c3 c4 c5 c6 c7 f0 f1 f2 f3 f4 f5 f6 f7 E5
          revert E6
          generalize (((((((W5.setCell ⟨w.heap.size, 0, none⟩ (.int .i64 q2.host)).setCell ⟨w.heap.size, 1, none⟩ (.int .i64 q2.ver)).setCell ⟨w.heap.size, 2, none⟩ (.int .i64 q2.phase)).setCell ⟨w.heap.size, 3, none⟩ (.int .i64 q2.ballot)).setCell ⟨w.heap.size, 4, none⟩ (.int .i64 q2.value)).setCell ⟨w.heap.size, 5, none⟩ (.int .i64 q2.next)).setCell ⟨w.heap.size, 6, none⟩ (.int .i64 q2.best)).setCell ⟨w.heap.size, 7, none⟩ (.int .i64 q2.bestBal) = W6
          intro E6
          have hq2n : 0 ≤ q2.next ∧ q2.next < 4 := by rw [(unhide HNX).1]; omega
          have hq2h : 0 ≤ q2.host ∧ q2.host ≤ 3 := by rw [(unhide HNX).2]; exact hq1
          have wr1 : IntKind.i64.wrap (q2.next + 1) = q2.next + 1 := by rw [IntKind.wrap_i64]; omega
          obtain ⟨c0, c1, c2, c3, c4, c5, c6, c7⟩ := (unhide E6).v.cells
          obtain ⟨f0, f1, f2, f3, f4, f5, f6, f7⟩ := (unhide E6).v.free
          have E7 := hide ((unhide E6).set 5 (.int .i64 (q2.next + 1)) _ ((unhide E6).v.set5 _))
          go_upto_region 8 with fail
          clear c0 c1 c2 c3 c4 c5 c6 c7 f0 f1 f2 f3 f4 f5 f6 f7 E6 wr1
          have hq3 : 0 ≤ ({ q2 with next := q2.next + 1 } : Pxs).next ∧ ({ q2 with next := q2.next + 1 } : Pxs).next ≤ 4 := by show 0 ≤ q2.next + 1 ∧ q2.next + 1 ≤ 4; omega
          have hq4 : 0 ≤ skip { q2 with next := q2.next + 1 } (q2.next + 1) ∧ skip { q2 with next := q2.next + 1 } (q2.next + 1) ≤ 4 := by unfold skip; split <;> (simp at *; omega)
          have HL2 : Hid ({ ({ q2 with next := q2.next + 1 } : Pxs) with next := skip { q2 with next := q2.next + 1 } ({ q2 with next := q2.next + 1 } : Pxs).next } = pxLook q z) := hide (by rw [← unhide HL])
          revert E7
          generalize W6.setCell ⟨w.heap.size, 5, none⟩ (.int .i64 (q2.next + 1)) = W7
          intro E7
          have HQ4 : Hid (0 ≤ (pxLook q z).next ∧ (pxLook q z).next ≤ 4) := hide (by rw [← unhide HL]; exact hq4)
          revert HL2 hq3 E7
          clear hq4 HL
          generalize ({ q2 with next := q2.next + 1 } : Pxs) = q3
          intro hq3 HL2 E7
          obtain ⟨c0, c1, c2, c3, c4, c5, c6, c7⟩ := (unhide E7).v.cells
          go_wp2_with fail
          refine (pastOwn_any q3 _ hq3).mono ?_
          rintro e W8 ⟨rfl, hb⟩
          have E8 := hide ((unhide E7).below hb)
          clear hb E7 c0 c1 c2 c3 c4 c5 c6 c7
          rw [unhide HL2]
          have HST := hide ((unhide HF).stay q z)
          revert HEE HQ4 HST
          clear HL2
          generalize pxLook q z = q4
          intro HEE HQ4 HST
          obtain ⟨f0, f1, f2, f3, f4, f5, f6, f7⟩ := (unhide E8).v.free
          obtain ⟨c0, c1, c2, c3, c4, c5, c6, c7⟩ := (unhide E8).v.cells
          have E9 := hide ((unhide E8).all q4)
          go_wp2_with fail
          go_meet
          exact ⟨q4, E9, HEE, unhide HQ4, hide ((unhide HST).trans (unhide HPQ))⟩
    · have hd1 : Hid (pxRd p bs = pxEnd q) := hide ((unhide HQ).trans (if_neg h4))
      clear HQ
      go_wp2_with fail
      go_meet
      exact ⟨q, E2, hd1, hq0, HPQ⟩
  case rest =>
    obtain ⟨z, HZ, HEE, hz4, HPZ⟩ := hcut
    rename World => W9
    clear c0 c1 c2 c3 c4 c5 c6 c7 HQ HR hq0 hq1 HPQ
    obtain ⟨c0, c1, c2, c3, c4, c5, c6, c7⟩ := (unhide HZ).v.cells
    by_cases h4 : z.next = 4
    · have EE : Hid (pxRd p bs = en z) := hide ((unhide HEE).trans ((unhide HF).fin z (unhide HPZ) (by omega)).symm)
      have e2 := ((unhide HZ).k.cell (p := ⟨E, 0, none⟩) hEl).trans (unhide HE)
      have hb4 : (z.next == 4) = true := by simp [h4]
      have hcf := (unhide HF).r2
      clear h4
      go_wp2_with fail
      refine ((unhide HF).c2 z _).mono ?_
      rintro e WA ⟨rfl, hb⟩
      have EA := hide ((unhide HZ).below hb)
      clear hb HZ c0 c1 c2 c3 c4 c5 c6 c7 hcf
      revert EE
      generalize en z = z2
      intro EE
      obtain ⟨r0, r1, r2, r3, r4, r5, r6, r7⟩ := (unhide EA).r.cells
      obtain ⟨s0, s1, s2, s3, s4, s5, s6, s7⟩ := (unhide EA).r.free
      have HK := hide (fun u0 u1 u2 u3 u4 u5 u6 u7 => below8 (unhide EA).k (show w.heap.size ≤ w.heap.size + 1 by omega) u0 u1 u2 u3 u4 u5 u6 u7)
      go_wp2
      exact bodyPost_ret (v := pV z2) (by simp [results, Tryz.results164, go_sem, r0, r1, r2, r3, r4, r5, r6, r7]) rfl ⟨by rw [unhide EE], unhide HK _ _ _ _ _ _ _ _⟩
    · have EE : Hid (pxRd p bs = z) := hide ((unhide HEE).trans (pxEnd_lt (by omega)))
      have hb4 : (z.next == 4) = false := by simp [h4]
      obtain ⟨r0, r1, r2, r3, r4, r5, r6, r7⟩ := (unhide HZ).r.cells
      obtain ⟨s0, s1, s2, s3, s4, s5, s6, s7⟩ := (unhide HZ).r.free
      have HK := hide (fun u0 u1 u2 u3 u4 u5 u6 u7 => below8 (unhide HZ).k (show w.heap.size ≤ w.heap.size + 1 by omega) u0 u1 u2 u3 u4 u5 u6 u7)
      go_wp2
      exact bodyPost_ret (v := pV z) (by simp [results, Tryz.results164, go_sem, r0, r1, r2, r3, r4, r5, r6, r7]) rfl ⟨by rw [unhide EE], unhide HK _ _ _ _ _ _ _ _⟩

end Go.Proofs.YtefnapcegeojoaaGreatDoor

namespace Go.Proofs.YtefnapcegeojoaaGreatDoor
open Go.RowKit
set_option linter.unusedVariables false
set_option maxRecDepth 100000

theorem sizeK : (Tryz.prog.info? 96).map (·.size) = some 4 := by kernel_rfl
set_option maxHeartbeats 1600000 in
theorem copyK_any (ao : Option Addr) (cap : Nat) (ss : List Bk) (w : World) (hl : ss.length ≤ 1048576) (h0 : 0 < ss.length) (hc : Bks w ao ss) :
    Calls Tryz.prog 138 #[.slice ao ss.length cap] w fun e w' => e = .returned (.slice (some ⟨w.heap.size, 0, none⟩) ss.length ss.length) ∧ w'.ownsRow w.heap.size 96 4 (.slice (some ⟨w.heap.size, 0, none⟩) ss.length ss.length) ss.length (bksV ss) ∧ Below w.heap.size w w' := by
  have hb : ((ss.length : Int) == 0) = false := beq_eq_false_iff_ne.2 (by omega)
  obtain ⟨b, off, rfl, hbl, hcs⟩ := hc.at h0
  have HCS := hide hcs
  have HP := hide h0
  clear hc hcs h0
  obtain ⟨i0, hi, hz0, hz1, hz2⟩ := info_parts infoK
  go_enter Tryz.func138, Tryz.ntmps138
  go_wp2_with (first | (at_make; refine wpList_make_full _ rfl _ _ 64 rfl w.heap.size 96 i0 _ 4 Tryz.underlying64 hi hz0 hz1 _ _ _ _ ss.length rfl rfl rfl rfl ?c1 ?c2 ?c3 ?_))
  case c1 => rw [hz2]; omega
  case c2 => unfold maxLen; omega
  case c3 => exact Nat.le_refl _
  intro w1 hown hgrow
  have hB : Below w.heap.size w w1 := (Below.refl _ _).grown hgrow (Nat.le_refl _) (fun _ h => by cases h)
  have HO := hide hown
  have HB := hide hB
  have HC1 : Hid (∀ j v, (bksV ss)[j]? = some v → w1.cell? (Addr.add ⟨b, off, none⟩ j) = some v) := hide (fun j v hv => ((unhide HB).cell (by unfold Addr.add; split <;> exact hbl)).trans (unhide HCS j v hv))
  clear hown hgrow hB
  go_wp2_with (refine wpList_copy_whole rfl _ _ 64 64 rfl 96 4 Tryz.underlying64 sizeK w.heap.size w.heap.size ss.length ⟨b, off, none⟩ _ rfl rfl _ (unhide HO) (bksV ss) (by rw [bksV_length]) (unhide HC1) (bksV_one ss) ?_; intro w2 ho2 hg2)
  have HB2 := hide ((unhide HB).grown hg2 (unhide HB).size (fun k h => by cases h; exact Nat.le_refl _))
  have HO2 := hide ho2
  clear ho2 hg2
  go_ret
  exact ⟨rfl, unhide HO2, unhide HB2⟩

abbrev fV (f : Nat) : Value := .func (.func f) #[] #[]
set_option maxHeartbeats 1600000 in
theorem readBallot_any (a b : Nat) (w : World) : Calls Tryz.prog 152 #[fV a, fV b] w fun e w' => e = .returned (.func (.func 164) #[] #[.pointer (some ⟨w.heap.size, 0, none⟩), .pointer (some ⟨w.heap.size + 1, 0, none⟩)]) ∧ w'.cell? ⟨w.heap.size, 0, none⟩ = some (fV a) ∧ w'.cell? ⟨w.heap.size + 1, 0, none⟩ = some (fV b) ∧ Below w.heap.size w w' := by
  have hmf : ∀ (fn : Fn) (first cap : Array Value) (w : World), (Instr.makeFunc fn first cap).run Tryz.prog w = .ok (.func fn first cap) w := fun _ _ _ _ => rfl
  go_enter Tryz.func152, Tryz.ntmps152
  go_wp2
  go_ret
  exact ⟨rfl, by simp [go_sem], by simp [go_sem], Joins.below_alloc2 _ _ _⟩

theorem phaseOf_1 (n : Int) (w : World) (h : n = 1) : Calls Tryz.prog 139 #[.int .i64 n] w fun e w' => e = .returned (.tuple #[fV 151, .bool true]) ∧ w' = w := by
  subst h
  go_enter Tryz.func139, Tryz.ntmps139
  go_wp2
  go_ret2
  exact ⟨rfl, rfl⟩
theorem phaseOf_3 (n : Int) (w : World) (h : n = 3) : Calls Tryz.prog 139 #[.int .i64 n] w fun e w' => e = .returned (.tuple #[fV 155, .bool true]) ∧ w' = w := by
  subst h
  go_enter Tryz.func139, Tryz.ntmps139
  go_wp2
  go_ret2
  exact ⟨rfl, rfl⟩
theorem phaseOf_5 (n : Int) (w : World) (h : n = 5 ∨ n = 6) : Calls Tryz.prog 139 #[.int .i64 n] w fun e w' => e = .returned (.tuple #[.nilFunc, .bool false]) ∧ w' = w := by
  rcases h with rfl | rfl
  · go_enter Tryz.func139, Tryz.ntmps139
    go_wp2
    go_ret2
    exact ⟨rfl, rfl⟩
  · go_enter Tryz.func139, Tryz.ntmps139
    go_wp2
    go_ret2
    exact ⟨rfl, rfl⟩
abbrev clV (a b : Nat) : Value := .func (.func 164) #[] #[.pointer (some ⟨a, 0, none⟩), .pointer (some ⟨b, 0, none⟩)]
theorem phaseOf_2 (n : Int) (w : World) (h : n = 2) : Calls Tryz.prog 139 #[.int .i64 n] w fun e w' => ∃ a b, e = .returned (.tuple #[clV a b, .bool true]) ∧ w'.cell? ⟨a, 0, none⟩ = some (fV 153) ∧ w'.cell? ⟨b, 0, none⟩ = some (fV 154) ∧ Below w.heap.size w w' := by
  subst h
  go_enter Tryz.func139, Tryz.ntmps139
  go_wp2_with fail
  refine (readBallot_any 153 154 _).mono ?_
  rintro e w1 ⟨rfl, h1, h2, hb⟩
  have HH := hide (And.intro h1 (And.intro h2 hb))
  clear h1 h2 hb
  go_wp2
  go_ret2
  exact ⟨_, _, rfl, (unhide HH).1, (unhide HH).2.1, (unhide HH).2.2⟩
theorem phaseOf_4 (n : Int) (w : World) (h : n = 4) : Calls Tryz.prog 139 #[.int .i64 n] w fun e w' => ∃ a b, e = .returned (.tuple #[clV a b, .bool true]) ∧ w'.cell? ⟨a, 0, none⟩ = some (fV 156) ∧ w'.cell? ⟨b, 0, none⟩ = some (fV 157) ∧ Below w.heap.size w w' := by
  subst h
  go_enter Tryz.func139, Tryz.ntmps139
  go_wp2_with fail
  refine (readBallot_any 156 157 _).mono ?_
  rintro e w1 ⟨rfl, h1, h2, hb⟩
  have HH := hide (And.intro h1 (And.intro h2 hb))
  clear h1 h2 hb
  go_wp2
  go_ret2
  exact ⟨_, _, rfl, (unhide HH).1, (unhide HH).2.1, (unhide HH).2.2⟩

theorem pxStep_len (p : Pxs) (bs : List Bk) : (pxStepP p bs).2.length = bs.length := by
  unfold pxStepP
  split
  · rfl
  · split
    · rfl
    · split
      · rfl
      · simp
theorem StAt.all {w W : World} {x : Nat} {p : Pxs} {qo : Option Addr} {qa : Nat} {bs : List Bk} (h : StAt w W x p qo qa bs) (q : Pxs) : StAt w ((((((((W.setCell ⟨x, 0, none⟩ (.int .i64 q.host)).setCell ⟨x, 1, none⟩ (.int .i64 q.ver)).setCell ⟨x, 2, none⟩ (.int .i64 q.phase)).setCell ⟨x, 3, none⟩ (.int .i64 q.ballot)).setCell ⟨x, 4, none⟩ (.int .i64 q.value)).setCell ⟨x, 5, none⟩ (.int .i64 q.next)).setCell ⟨x, 6, none⟩ (.int .i64 q.best)).setCell ⟨x, 7, none⟩ (.int .i64 q.bestBal)) x q qo qa bs :=
  ⟨h.a.all q, (((((((h.o.setCell (a := ⟨x, 0, none⟩) (by simp) _).setCell (a := ⟨x, 1, none⟩) (by simp) _).setCell (a := ⟨x, 2, none⟩) (by simp) _).setCell (a := ⟨x, 3, none⟩) (by simp) _).setCell (a := ⟨x, 4, none⟩) (by simp) _).setCell (a := ⟨x, 5, none⟩) (by simp) _).setCell (a := ⟨x, 6, none⟩) (by simp) _).setCell (a := ⟨x, 7, none⟩) (by simp) _⟩
theorem StAt.did {w W W' : World} {x : Nat} {p : Pxs} {g qa : Nat} {bs bs' : List Bk} (h : StAt w W x p (some ⟨g, 0, none⟩) qa bs) (ho : W'.ownsRow (x + 2) 96 4 (.slice (some ⟨g, 0, none⟩) 4 qa) 4 (bksV bs')) (hk : Keep (fun j => j = g) W W') : StAt w W' x p (some ⟨g, 0, none⟩) qa bs' := by
  have hg := (h.o.ge g (own_of (by omega) rfl)).1
  have hx := h.a.ge
  have hl : x < W.heap.size := h.a.v.lt
  refine ⟨⟨h.a.v.keep hk (by show ¬ x = g; omega), h.a.r.keep hk (by show ¬ x + 1 = g; omega), ?_, h.a.ge⟩, .inr ⟨by omega, ho⟩⟩
  have hb := hk.below (B := w.heap.size) h.a.k.size (fun j hj => by omega)
  exact h.a.k.trans hb
theorem StAt.row {w W : World} {x : Nat} {p : Pxs} {g qa : Nat} {bs : List Bk} (h : StAt w W x p (some ⟨g, 0, none⟩) qa bs) : W.ownsRow (x + 2) 96 4 (.slice (some ⟨g, 0, none⟩) 4 qa) 4 (bksV bs) := by
  rcases h.o with ⟨h0, _, _⟩ | ⟨_, ho⟩
  · omega
  · exact ho
def Stepped (w W : World) (p : Pxs) (xs : List Bk) (e : Ending) : Prop := ∃ qo qa, e = .returned (.tuple #[pV (stP p xs), .slice qo (stL p xs).length qa, .int .i64 (stC p xs)]) ∧ OwnR W w.heap.size 96 4 (.slice qo (stL p xs).length qa) (stL p xs).length (bksV (stL p xs)) ∧ Below w.heap.size w W
theorem stepped_none {w W : World} {p : Pxs} {xs : List Bk} {c : Int} (ao : Option Addr) (h : stP p xs = p00 ∧ stL p xs = [] ∧ stC p xs = c) (hb : Below w.heap.size w W) : Stepped w W p xs (.returned (.tuple #[pV p00, .slice ao 0 0, .int .i64 c])) := by
  unfold Stepped
  rw [h.1, h.2.1, h.2.2]
  exact ⟨ao, 0, rfl, .inl ⟨rfl, rfl, ao, rfl⟩, hb⟩
theorem stepped_done {w W : World} {p p' : Pxs} {xs bs' : List Bk} {c : Int} {qo : Option Addr} {qa : Nat} (h : stP p xs = (pxStepP p xs).1 ∧ stL p xs = (pxStepP p xs).2 ∧ stC p xs = stEnd p) (hx : xs.length = 4) (hE : pxStepP p xs = (p', bs')) (hc : stEnd p = c)
    (hO : OwnR W w.heap.size 96 4 (.slice qo 4 qa) 4 (bksV bs') ∧ Below w.heap.size w W) : Stepped w W p xs (.returned (.tuple #[pV p', .slice qo 4 qa, .int .i64 c])) := by
  unfold Stepped
  have hl := pxStep_len p xs
  rw [hx] at hl
  rw [h.1, h.2.1, h.2.2, hl, hc]
  rw [hE] at *
  exact ⟨qo, qa, rfl, hO.1, hO.2⟩

theorem pxAt0 (w : World) (p : Pxs) : PxAt w ((w.alloc (.cells #[.int .i64 p.host, .int .i64 p.ver, .int .i64 p.phase, .int .i64 p.ballot, .int .i64 p.value, .int .i64 p.next, .int .i64 p.best, .int .i64 p.bestBal] 63)).alloc (.cells #[.int .i64 0, .int .i64 0, .int .i64 0, .int .i64 0, .int .i64 0, .int .i64 0, .int .i64 0, .int .i64 0] 63)) w.heap.size p :=
  ⟨(VarP.new w _ p).below (Joins.below_alloc1 _ _), by
    have := VarP.new0 (w.alloc (.cells #[.int .i64 p.host, .int .i64 p.ver, .int .i64 p.phase, .int .i64 p.ballot, .int .i64 p.value, .int .i64 p.next, .int .i64 p.best, .int .i64 p.bestBal] 63)) 63
    simp only [World.size_alloc] at this
    exact this, Joins.below_alloc2 _ _ _, Nat.le_refl _⟩

end Go.Proofs.YtefnapcegeojoaaGreatDoor

namespace Go.Proofs.YtefnapcegeojoaaGreatDoor
open Go.RowKit
set_option linter.unusedVariables false
set_option maxRecDepth 100000

theorem stepped_end {w W : World} {p p' : Pxs} {xs bs' : List Bk} {c : Int} {qo : Option Addr} {qa : Nat} (h : stP p xs = p' ∧ stL p xs = bs' ∧ stC p xs = stEnd p) (hx : bs'.length = 4) (hc : stEnd p = c)
    (hO : OwnR W w.heap.size 96 4 (.slice qo 4 qa) 4 (bksV bs') ∧ Below w.heap.size w W) : Stepped w W p xs (.returned (.tuple #[pV p', .slice qo 4 qa, .int .i64 c])) := by
  unfold Stepped
  rw [h.1, h.2.1, h.2.2, hx, hc]
  exact ⟨qo, qa, rfl, hO.1, hO.2⟩
theorem st_fault {p : Pxs} {xs : List Bk} (h : ¬ bfC xs = 0) : stP p xs = p00 ∧ stL p xs = [] ∧ stC p xs = bfC xs := by
  by_cases hl : 4096 < xs.length
  · have := st_long (p := p) hl
    rw [bfC_long hl]; exact this
  · by_cases hb : bksB xs = true
    · exact absurd (bfC_ok hl hb) h
    · rw [Bool.not_eq_true] at hb
      rw [bfC_bad hl hb]
      exact st_bad hl (by rw [hb]; simp)

set_option maxHeartbeats 3200000 in
theorem pxStep_impl (p : Pxs) (ao : Option Addr) (ca : Nat) (xs : List Bk) (w : World) (hl : xs.length ≤ 1048576) (hc : Bks w ao xs) : Calls Tryz.prog 117 #[pV p, .slice ao xs.length ca] w fun e w' => Stepped w w' p xs e := by
  have HC := hide hc
  clear hc
  have H0 := hide (pxAt0 w p)
  go_enter Tryz.func117, Tryz.ntmps117
  go_wp2_with fail
  refine (blocksFault_any ao ca xs _ hl ((unhide HC).below (unhide H0).k)).mono ?_
  rintro e W1 ⟨rfl, hb⟩
  have E1 := hide ((unhide H0).below hb)
  clear hb H0
  by_cases hf : ¬ bfC xs = 0
  · have HE : Hid (stP p xs = p00 ∧ stL p xs = [] ∧ stC p xs = bfC xs) := hide (st_fault hf)
    have hb : (bfC xs != 0) = true := by simp [hf]
    clear hf
    revert HE hb
    generalize bfC xs = c9
    intro HE hb
    obtain ⟨r0, r1, r2, r3, r4, r5, r6, r7⟩ := (unhide E1).r.cells
    obtain ⟨s0, s1, s2, s3, s4, s5, s6, s7⟩ := (unhide E1).r.free
    have HK := hide (fun u0 u1 u2 u3 u4 u5 u6 u7 => below8 (unhide E1).k (show w.heap.size ≤ w.heap.size + 1 by omega) u0 u1 u2 u3 u4 u5 u6 u7)
    go_wp2
    exact bodyPost_ret (v := .tuple #[pV p00, .slice none 0 0, .int .i64 c9]) (by simp [results, Tryz.results117, go_sem, r0, r1, r2, r3, r4, r5, r6, r7, p00]) rfl (stepped_none _ (unhide HE) (unhide HK _ _ _ _ _ _ _ _))
  rw [Decidable.not_not] at hf
  have hlong : ¬ 4096 < xs.length := fun h => by rw [bfC_long h] at hf; exact absurd hf (by decide)
  have h2 := bfC_zero hf
  have hb0 : (bfC xs != 0) = false := by simp [hf]
  clear hf
  revert hb0
  generalize bfC xs = c9
  intro hb0
  obtain ⟨c0, c1, c2, c3, c4, c5, c6, c7⟩ := (unhide E1).v.cells
  go_wp2_with fail
  refine (pxOK_impl p _).mono ?_
  rintro e W2 ⟨rfl, hb⟩
  have E2 := hide ((unhide E1).below hb)
  clear hb E1 c0 c1 c2 c3 c4 c5 c6 c7
  by_cases h1 : pxB p = false
  · have HE := hide (st_bad (p := p) (xs := xs) hlong (by rw [h1]; rfl))
    obtain ⟨r0, r1, r2, r3, r4, r5, r6, r7⟩ := (unhide E2).r.cells
    obtain ⟨s0, s1, s2, s3, s4, s5, s6, s7⟩ := (unhide E2).r.free
    have HK := hide (fun u0 u1 u2 u3 u4 u5 u6 u7 => below8 (unhide E2).k (show w.heap.size ≤ w.heap.size + 1 by omega) u0 u1 u2 u3 u4 u5 u6 u7)
    go_wp2
    exact bodyPost_ret (v := .tuple #[pV p00, .slice none 0 0, .int .i64 1]) (by simp [results, Tryz.results117, go_sem, r0, r1, r2, r3, r4, r5, r6, r7, p00]) rfl (stepped_none _ (unhide HE) (unhide HK _ _ _ _ _ _ _ _))
  rw [Bool.not_eq_false] at h1
  have HE := hide (st_ok hlong h1 h2)
  have HX := hide (bksB_parts h2).1
  have hp := pxB_iff.1 h1
  have HH : Hid (0 ≤ p.host ∧ p.host ≤ 3) := hide hp.1
  have HN : Hid (0 ≤ p.next ∧ p.next ≤ 4) := hide hp.2.2.2.2.2.2.1
  have HP : Hid (1 ≤ p.phase ∧ p.phase ≤ 6) := hide hp.2.2.1
  clear hp h2 hlong
  go_wp2_with fail
  refine (copyK_any ao ca xs _ hl (by have := unhide HX; omega) ((unhide HC).below (unhide E2).k)).mono ?_
  rintro e W3 ⟨rfl, ho, hb⟩
  have E3 : Hid (StAt w W3 w.heap.size p (some ⟨W2.heap.size, 0, none⟩) xs.length xs) := hide ⟨(unhide E2).below hb, .inr ⟨by omega, by have h4 := unhide HX; have h5 := own_base ho (B' := w.heap.size + 2) (by have := (unhide E2).r.lt; omega); rw [h4] at h5 ⊢; exact h5⟩⟩
  have hx4 := unhide HX
  rw [hx4] at E3 ⊢
  clear hb ho E2 hx4
  revert E3
  generalize W2.heap.size = g
  intro E3
  obtain ⟨c0, c1, c2, c3, c4, c5, c6, c7⟩ := (unhide E3).a.v.cells
  rcases (show p.phase = 1 ∨ p.phase = 2 ∨ p.phase = 3 ∨ p.phase = 4 ∨ (p.phase = 5 ∨ p.phase = 6) by have := unhide HP; omega) with hp | hp | hp | hp | hp
  · have HSE : Hid (stEnd p = 0) := hide (if_neg (by rw [hp]; decide))
    have HPS : Hid ((pxStepP p xs).2.length = 4) := hide ((pxStep_len p xs).trans (unhide HX))
    have HPH := hide hp
    clear hp
    go_wp2_with fail
    refine (phaseOf_1 p.phase _ (unhide HPH)).mono ?_
    rintro e W4 ⟨rfl, hw⟩
    replace hw := hw.symm
    subst hw
    go_wp2_with fail
    refine (beginBallot_any p g 4 (w.heap.size + 2) xs _ (unhide HPH) (unhide HX) (unhide HH) (unhide E3).row).mono ?_
    rintro e W6 ⟨rfl, ho, hk⟩
    have E6 := hide ((unhide E3).did ho hk)
    clear ho hk
    clear c0 c1 c2 c3 c4 c5 c6 c7
    generalize (pxStepP p xs).1 = P1 at *
    generalize (pxStepP p xs).2 = B1 at *
    obtain ⟨c0, c1, c2, c3, c4, c5, c6, c7⟩ := (unhide E6).a.v.cells
    obtain ⟨f0, f1, f2, f3, f4, f5, f6, f7⟩ := (unhide E6).a.v.free
    have E7 := hide ((unhide E6).all P1)
    go_upto_region 11 with fail
    clear c0 c1 c2 c3 c4 c5 c6 c7 f0 f1 f2 f3 f4 f5 f6 f7 E6
    revert E7
    generalize (((((((W6.setCell ⟨w.heap.size, 0, none⟩ (.int .i64 P1.host)).setCell ⟨w.heap.size, 1, none⟩ (.int .i64 P1.ver)).setCell ⟨w.heap.size, 2, none⟩ (.int .i64 P1.phase)).setCell ⟨w.heap.size, 3, none⟩ (.int .i64 P1.ballot)).setCell ⟨w.heap.size, 4, none⟩ (.int .i64 P1.value)).setCell ⟨w.heap.size, 5, none⟩ (.int .i64 P1.next)).setCell ⟨w.heap.size, 6, none⟩ (.int .i64 P1.best)).setCell ⟨w.heap.size, 7, none⟩ (.int .i64 P1.bestBal) = W7
    intro E7
    obtain ⟨c0, c1, c2, c3, c4, c5, c6, c7⟩ := (unhide E7).a.v.cells
    obtain ⟨r0, r1, r2, r3, r4, r5, r6, r7⟩ := (unhide E7).a.r.cells
    obtain ⟨s0, s1, s2, s3, s4, s5, s6, s7⟩ := (unhide E7).a.r.free
    have HK := hide (fun u0 u1 u2 u3 u4 u5 u6 u7 => (unhide E7).out u0 u1 u2 u3 u4 u5 u6 u7)
    go_wp2
    exact bodyPost_ret (v := .tuple #[pV P1, .slice (some ⟨g, 0, none⟩) 4 4, .int .i64 0]) (by simp [results, Tryz.results117, go_sem, r0, r1, r2, r3, r4, r5, r6, r7]) rfl (stepped_end (unhide HE) (unhide HPS) (unhide HSE) (unhide HK _ _ _ _ _ _ _ _))
  · have HSE : Hid (stEnd p = 0) := hide (if_neg (by rw [hp]; decide))
    have HPS : Hid ((pxStepP p xs).2.length = 4) := hide ((pxStep_len p xs).trans (unhide HX))
    have HRD : Hid (pxStepP p xs = (pxRd p xs, xs)) := hide (pxStepP_rd xs (by rw [hp]; decide))
    have HPH := hide hp
    clear hp
    go_wp2_with fail
    refine (phaseOf_2 p.phase _ (unhide HPH)).mono ?_
    rintro e W4 ⟨a, b, rfl, ha, hb', hb⟩
    have HA := hide ha
    have HB := hide hb'
    have E4 := hide ((unhide E3).below hb)
    clear ha hb' hb E3 c0 c1 c2 c3 c4 c5 c6 c7
    obtain ⟨c0, c1, c2, c3, c4, c5, c6, c7⟩ := (unhide E4).a.v.cells
    go_wp2_with fail
    refine (readBallot1_any _ _ _ _ 2 heed2 p (some ⟨g, 0, none⟩) 4 4 a b xs _ (unhide HX) rfl (unhide HPH) (unhide HH) (unhide HN) ((unhide E4).bks (unhide HX)) (unhide HA) (unhide HB)).mono ?_
    rintro e W6 ⟨rfl, hb⟩
    have E5 := hide ((unhide E4).below hb)
    have E6 : Hid (StAt w W6 w.heap.size p (some ⟨g, 0, none⟩) 4 (pxStepP p xs).2) := hide (by rw [unhide HRD]; exact unhide E5)
    rw [show pxRd p xs = (pxStepP p xs).1 from by rw [unhide HRD]]
    clear hb E5 HRD
    clear c0 c1 c2 c3 c4 c5 c6 c7
    generalize (pxStepP p xs).1 = P1 at *
    generalize (pxStepP p xs).2 = B1 at *
    obtain ⟨c0, c1, c2, c3, c4, c5, c6, c7⟩ := (unhide E6).a.v.cells
    obtain ⟨f0, f1, f2, f3, f4, f5, f6, f7⟩ := (unhide E6).a.v.free
    have E7 := hide ((unhide E6).all P1)
    go_upto_region 11 with fail
    clear c0 c1 c2 c3 c4 c5 c6 c7 f0 f1 f2 f3 f4 f5 f6 f7 E6
    revert E7
    generalize (((((((W6.setCell ⟨w.heap.size, 0, none⟩ (.int .i64 P1.host)).setCell ⟨w.heap.size, 1, none⟩ (.int .i64 P1.ver)).setCell ⟨w.heap.size, 2, none⟩ (.int .i64 P1.phase)).setCell ⟨w.heap.size, 3, none⟩ (.int .i64 P1.ballot)).setCell ⟨w.heap.size, 4, none⟩ (.int .i64 P1.value)).setCell ⟨w.heap.size, 5, none⟩ (.int .i64 P1.next)).setCell ⟨w.heap.size, 6, none⟩ (.int .i64 P1.best)).setCell ⟨w.heap.size, 7, none⟩ (.int .i64 P1.bestBal) = W7
    intro E7
    obtain ⟨c0, c1, c2, c3, c4, c5, c6, c7⟩ := (unhide E7).a.v.cells
    obtain ⟨r0, r1, r2, r3, r4, r5, r6, r7⟩ := (unhide E7).a.r.cells
    obtain ⟨s0, s1, s2, s3, s4, s5, s6, s7⟩ := (unhide E7).a.r.free
    have HK := hide (fun u0 u1 u2 u3 u4 u5 u6 u7 => (unhide E7).out u0 u1 u2 u3 u4 u5 u6 u7)
    go_wp2
    exact bodyPost_ret (v := .tuple #[pV P1, .slice (some ⟨g, 0, none⟩) 4 4, .int .i64 0]) (by simp [results, Tryz.results117, go_sem, r0, r1, r2, r3, r4, r5, r6, r7]) rfl (stepped_end (unhide HE) (unhide HPS) (unhide HSE) (unhide HK _ _ _ _ _ _ _ _))
  · have HSE : Hid (stEnd p = 0) := hide (if_neg (by rw [hp]; decide))
    have HPS : Hid ((pxStepP p xs).2.length = 4) := hide ((pxStep_len p xs).trans (unhide HX))
    have HPH := hide hp
    clear hp
    go_wp2_with fail
    refine (phaseOf_3 p.phase _ (unhide HPH)).mono ?_
    rintro e W4 ⟨rfl, hw⟩
    replace hw := hw.symm
    subst hw
    go_wp2_with fail
    refine (acceptValue_any p g 4 (w.heap.size + 2) xs _ (unhide HPH) (unhide HX) (unhide HH) (unhide E3).row).mono ?_
    rintro e W6 ⟨rfl, ho, hk⟩
    have E6 := hide ((unhide E3).did ho hk)
    clear ho hk
    clear c0 c1 c2 c3 c4 c5 c6 c7
    generalize (pxStepP p xs).1 = P1 at *
    generalize (pxStepP p xs).2 = B1 at *
    obtain ⟨c0, c1, c2, c3, c4, c5, c6, c7⟩ := (unhide E6).a.v.cells
    obtain ⟨f0, f1, f2, f3, f4, f5, f6, f7⟩ := (unhide E6).a.v.free
    have E7 := hide ((unhide E6).all P1)
    go_upto_region 11 with fail
    clear c0 c1 c2 c3 c4 c5 c6 c7 f0 f1 f2 f3 f4 f5 f6 f7 E6
    revert E7
    generalize (((((((W6.setCell ⟨w.heap.size, 0, none⟩ (.int .i64 P1.host)).setCell ⟨w.heap.size, 1, none⟩ (.int .i64 P1.ver)).setCell ⟨w.heap.size, 2, none⟩ (.int .i64 P1.phase)).setCell ⟨w.heap.size, 3, none⟩ (.int .i64 P1.ballot)).setCell ⟨w.heap.size, 4, none⟩ (.int .i64 P1.value)).setCell ⟨w.heap.size, 5, none⟩ (.int .i64 P1.next)).setCell ⟨w.heap.size, 6, none⟩ (.int .i64 P1.best)).setCell ⟨w.heap.size, 7, none⟩ (.int .i64 P1.bestBal) = W7
    intro E7
    obtain ⟨c0, c1, c2, c3, c4, c5, c6, c7⟩ := (unhide E7).a.v.cells
    obtain ⟨r0, r1, r2, r3, r4, r5, r6, r7⟩ := (unhide E7).a.r.cells
    obtain ⟨s0, s1, s2, s3, s4, s5, s6, s7⟩ := (unhide E7).a.r.free
    have HK := hide (fun u0 u1 u2 u3 u4 u5 u6 u7 => (unhide E7).out u0 u1 u2 u3 u4 u5 u6 u7)
    go_wp2
    exact bodyPost_ret (v := .tuple #[pV P1, .slice (some ⟨g, 0, none⟩) 4 4, .int .i64 0]) (by simp [results, Tryz.results117, go_sem, r0, r1, r2, r3, r4, r5, r6, r7]) rfl (stepped_end (unhide HE) (unhide HPS) (unhide HSE) (unhide HK _ _ _ _ _ _ _ _))
  · have HSE : Hid (stEnd p = 0) := hide (if_neg (by rw [hp]; decide))
    have HPS : Hid ((pxStepP p xs).2.length = 4) := hide ((pxStep_len p xs).trans (unhide HX))
    have HRD : Hid (pxStepP p xs = (pxRd p xs, xs)) := hide (pxStepP_rd xs (by rw [hp]; decide))
    have HPH := hide hp
    clear hp
    go_wp2_with fail
    refine (phaseOf_4 p.phase _ (unhide HPH)).mono ?_
    rintro e W4 ⟨a, b, rfl, ha, hb', hb⟩
    have HA := hide ha
    have HB := hide hb'
    have E4 := hide ((unhide E3).below hb)
    clear ha hb' hb E3 c0 c1 c2 c3 c4 c5 c6 c7
    obtain ⟨c0, c1, c2, c3, c4, c5, c6, c7⟩ := (unhide E4).a.v.cells
    go_wp2_with fail
    refine (readBallot1_any _ _ _ _ 4 heed4 p (some ⟨g, 0, none⟩) 4 4 a b xs _ (unhide HX) rfl (unhide HPH) (unhide HH) (unhide HN) ((unhide E4).bks (unhide HX)) (unhide HA) (unhide HB)).mono ?_
    rintro e W6 ⟨rfl, hb⟩
    have E5 := hide ((unhide E4).below hb)
    have E6 : Hid (StAt w W6 w.heap.size p (some ⟨g, 0, none⟩) 4 (pxStepP p xs).2) := hide (by rw [unhide HRD]; exact unhide E5)
    rw [show pxRd p xs = (pxStepP p xs).1 from by rw [unhide HRD]]
    clear hb E5 HRD
    clear c0 c1 c2 c3 c4 c5 c6 c7
    generalize (pxStepP p xs).1 = P1 at *
    generalize (pxStepP p xs).2 = B1 at *
    obtain ⟨c0, c1, c2, c3, c4, c5, c6, c7⟩ := (unhide E6).a.v.cells
    obtain ⟨f0, f1, f2, f3, f4, f5, f6, f7⟩ := (unhide E6).a.v.free
    have E7 := hide ((unhide E6).all P1)
    go_upto_region 11 with fail
    clear c0 c1 c2 c3 c4 c5 c6 c7 f0 f1 f2 f3 f4 f5 f6 f7 E6
    revert E7
    generalize (((((((W6.setCell ⟨w.heap.size, 0, none⟩ (.int .i64 P1.host)).setCell ⟨w.heap.size, 1, none⟩ (.int .i64 P1.ver)).setCell ⟨w.heap.size, 2, none⟩ (.int .i64 P1.phase)).setCell ⟨w.heap.size, 3, none⟩ (.int .i64 P1.ballot)).setCell ⟨w.heap.size, 4, none⟩ (.int .i64 P1.value)).setCell ⟨w.heap.size, 5, none⟩ (.int .i64 P1.next)).setCell ⟨w.heap.size, 6, none⟩ (.int .i64 P1.best)).setCell ⟨w.heap.size, 7, none⟩ (.int .i64 P1.bestBal) = W7
    intro E7
    obtain ⟨c0, c1, c2, c3, c4, c5, c6, c7⟩ := (unhide E7).a.v.cells
    obtain ⟨r0, r1, r2, r3, r4, r5, r6, r7⟩ := (unhide E7).a.r.cells
    obtain ⟨s0, s1, s2, s3, s4, s5, s6, s7⟩ := (unhide E7).a.r.free
    have HK := hide (fun u0 u1 u2 u3 u4 u5 u6 u7 => (unhide E7).out u0 u1 u2 u3 u4 u5 u6 u7)
    go_wp2
    exact bodyPost_ret (v := .tuple #[pV P1, .slice (some ⟨g, 0, none⟩) 4 4, .int .i64 0]) (by simp [results, Tryz.results117, go_sem, r0, r1, r2, r3, r4, r5, r6, r7]) rfl (stepped_end (unhide HE) (unhide HPS) (unhide HSE) (unhide HK _ _ _ _ _ _ _ _))
  · have HSE : Hid (stEnd p = 15) := hide (if_pos hp)
    have HPS : Hid (pxStepP p xs = (p, xs)) := hide (pxStepP_end xs hp)
    have HPH := hide hp
    clear hp
    go_wp2_with fail
    refine (phaseOf_5 p.phase _ (unhide HPH)).mono ?_
    rintro e W4 ⟨rfl, hw⟩
    replace hw := hw.symm
    subst hw
    obtain ⟨r0, r1, r2, r3, r4, r5, r6, r7⟩ := (unhide E3).a.r.cells
    obtain ⟨s0, s1, s2, s3, s4, s5, s6, s7⟩ := (unhide E3).a.r.free
    have HK := hide (fun u0 u1 u2 u3 u4 u5 u6 u7 => (unhide E3).out u0 u1 u2 u3 u4 u5 u6 u7)
    go_wp2
    exact bodyPost_ret (v := .tuple #[pV p, .slice (some ⟨g, 0, none⟩) 4 4, .int .i64 15]) (by simp [results, Tryz.results117, go_sem, r0, r1, r2, r3, r4, r5, r6, r7]) rfl (stepped_done (unhide HE) (unhide HX) (unhide HPS) (unhide HSE) (unhide HK _ _ _ _ _ _ _ _))
end Go.Proofs.YtefnapcegeojoaaGreatDoor
