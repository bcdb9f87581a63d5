import Derived.Test.YtjmianalknnekabGreatDoorRows
import Derived.Test.YtjmianalknnekabGreatDoorPart1
import Derived.Test.YtjmianalknnekabGreatDoorPaxP
import Derived.Test.YtjmianalknnekabGreatDoorPart12
import Derived.Test.YtjmianalknnekabGreatDoorPart18
import Derived.WalkKit
import Derived.Test.YtjmianalknnekabGreatDoorPart15
import Derived.WalkSpells
import Derived.KernelRfl
import Derived.BigQuiet
import Derived.Deep.QuietTactic
import Derived.Deep.RegionWith
import Derived.Deep.RegionHeld3
import Derived.Deep.CutRange
import Derived.Test.YtjmianalknnekabGreatDoorPart16
import Derived.Test.YtjmianalknnekabGreatDoorPart4
import Derived.Laws.CopyRow
import Derived.Laws.CopyOwn
import Derived.Test.YtjmianalknnekabGreatDoorPart13
import Derived.Test.YtjmianalknnekabGreatDoorPart14
import Derived.Deep.MidRow
import Derived.Test.YtjmianalknnekabGreatDoorPart6
import Derived.Test.YtjmianalknnekabGreatDoorPart17
import Derived.Deep.LoopGhost
import Derived.Test.YtjmianalknnekabGreatDoorPart2
import Derived.Test.YtjmianalknnekabGreatDoorPart9

/- Worlds of the program's phases: a ballot in a variable, the answer's, a block in a variable, a row of blocks that is handed in to be written. -/
namespace Go.Proofs.YtjmianalknnekabGreatDoor
open Go.RowKit
set_option linter.unusedVariables false
set_option maxRecDepth 100000

theorem row_put {w : World} {B t n cap g : Nat} {bs : List Bk} (h : w.ownsRow B t 4 (.slice (some ⟨g, 0, none⟩) n cap) n (bksV bs)) {k : Nat} (hk : k < bs.length) (y : Bk) :
    ((((w.setCell ⟨g, k * 4, none⟩ (.int .i64 y.ver)).setCell ⟨g, k * 4 + 1, none⟩ (.int .i64 y.mbal)).setCell ⟨g, k * 4 + 2, none⟩ (.int .i64 y.bal)).setCell ⟨g, k * 4 + 3, none⟩ (.int .i64 y.inp)).ownsRow B t 4 (.slice (some ⟨g, 0, none⟩) n cap) n (bksV (bs.set k y)) := by
  rw [← bksV_set hk y]
  have h3 := stored3 h (k * 4) (k * 4 + 1) (k * 4 + 2) (.int .i64 y.ver) (.int .i64 y.mbal) (.int .i64 y.bal)
  exact (h3.stored (k * 4 + 3) (.int .i64 y.inp)).1
theorem row_block {w : World} {B t n cap g : Nat} {xs : List Value} (h : w.ownsRow B t 4 (.slice (some ⟨g, 0, none⟩) (n + 1) cap) (n + 1) xs) : g < w.heap.size ∧ ∀ i, w.frozen? ⟨g, i, none⟩ = false := by
  obtain ⟨g', cap', cur, e, hB, hg⟩ := own_form (by omega) h
  simp only [Value.slice.injEq, Option.some.injEq, Addr.mk.injEq, and_true] at e
  obtain ⟨rfl, _⟩ := e
  exact ⟨(Array.getElem?_eq_some_iff.1 hg).1, fun i => Joins.unfrozen_of_block hg i⟩
theorem row_keep {S : Nat → Prop} {w w' : World} {B t n cap g : Nat} {xs : List Value} (h : w.ownsRow B t 4 (.slice (some ⟨g, 0, none⟩) (n + 1) cap) (n + 1) xs) (hk : Keep S w w') (hs : ¬ S g) : w'.ownsRow B t 4 (.slice (some ⟨g, 0, none⟩) (n + 1) cap) (n + 1) xs := by
  have := OwnR.keep (.inr ⟨by omega, h⟩ : OwnR w B t 4 (.slice (some ⟨g, 0, none⟩) (n + 1) cap) (n + 1) xs) hk (fun j hj => by cases own_elim hj; exact hs)
  rcases this with ⟨h0, _⟩ | ⟨_, h⟩
  · omega
  · exact h

/-- A ballot's variable, the answer's, the row. -/
structure BgAt (w W : World) (p : Pxs) (B g qa : Nat) (bs : List Bk) : Prop where
  v : VarP W w.heap.size 54 p
  r : VarP W (w.heap.size + 1) 54 p00
  o : W.ownsRow B 91 4 (.slice (some ⟨g, 0, none⟩) 4 qa) 4 (bksV bs)
  k : Keep (fun j => j = g) w W
  hg : g < w.heap.size
theorem BgAt.start {w : World} (p : Pxs) {B g qa : Nat} {bs : List Bk} (ho : w.ownsRow B 91 4 (.slice (some ⟨g, 0, none⟩) 4 qa) 4 (bksV bs)) :
    BgAt w ((w.alloc (.cells #[.int .i64 p.host, .int .i64 p.ver, .int .i64 p.phase, .int .i64 p.ballot, .int .i64 p.value, .int .i64 p.next, .int .i64 p.best, .int .i64 p.bestBal] 54)).alloc (.cells #[.int .i64 0, .int .i64 0, .int .i64 0, .int .i64 0, .int .i64 0, .int .i64 0, .int .i64 0, .int .i64 0] 54)) p B g qa bs := by
  refine ⟨(VarP.new w _ p).below (Joins.below_alloc1 _ _), ?_, own_below ho (Joins.below_alloc2 _ _ _), Keep.of_below (Joins.below_alloc2 _ _ _), (row_block ho).1⟩
  have := VarP.new0 (w.alloc (.cells #[.int .i64 p.host, .int .i64 p.ver, .int .i64 p.phase, .int .i64 p.ballot, .int .i64 p.value, .int .i64 p.next, .int .i64 p.best, .int .i64 p.bestBal] 54)) 54
  simp only [World.size_alloc] at this
  exact this
theorem BgAt.below {w W W' : World} {p : Pxs} {B g qa : Nat} {bs : List Bk} (h : BgAt w W p B g qa bs) (hb : Below W.heap.size W W') : BgAt w W' p B g qa bs := ⟨h.v.below hb, h.r.below hb, own_below h.o hb, h.k.trans (Keep.of_below hb), h.hg⟩
theorem BgAt.bks {w W : World} {p : Pxs} {B g qa : Nat} {bs : List Bk} (h : BgAt w W p B g qa bs) (h4 : bs.length = 4) : Bks W (some ⟨g, 0, none⟩) bs :=
  ownBks (B := B) (e := 91) (cap := qa) (by rw [h4]; exact .inr ⟨by omega, h.o⟩)
theorem BgAt.set {w W : World} {p : Pxs} {B g qa : Nat} {bs : List Bk} (h : BgAt w W p B g qa bs) (i : Nat) (u : Value) (q : Pxs) (hv : VarP (W.setCell ⟨w.heap.size, i, none⟩ u) w.heap.size 54 q) : BgAt w (W.setCell ⟨w.heap.size, i, none⟩ u) q B g qa bs := by
  have hk : Keep (fun j => j = w.heap.size) W (W.setCell ⟨w.heap.size, i, none⟩ u) := (Keep.refl (fun j => j = w.heap.size) W).setCell (p := ⟨w.heap.size, i, none⟩) rfl u
  have := h.hg
  exact ⟨hv, h.r.keep hk (by show ¬ w.heap.size + 1 = w.heap.size; omega), row_keep h.o hk (by show ¬ g = w.heap.size; omega), keepN h.k hk (fun j hj => .inr (by omega)), h.hg⟩
theorem BgAt.bg3 {w W : World} {p : Pxs} {B g qa : Nat} {bs : List Bk} (h : BgAt w W p B g qa bs) (a b c : Int) : BgAt w (((W.setCell ⟨w.heap.size, 6, none⟩ (.int .i64 a)).setCell ⟨w.heap.size, 7, none⟩ (.int .i64 b)).setCell ⟨w.heap.size, 5, none⟩ (.int .i64 c)).drew { p with best := a, bestBal := b, next := c } B g qa bs := by
  have h1 := h.set 6 (.int .i64 a) _ (h.v.set6 a)
  have h2 := h1.set 7 (.int .i64 b) _ (h1.v.set7 b)
  exact (h2.set 5 (.int .i64 c) _ (h2.v.set5 c)).below ((Below.refl _ _).drew)
/-- All of the ballot's variable is written. -/
theorem BgAt.all {w W : World} {p : Pxs} {B g qa : Nat} {bs : List Bk} (h : BgAt w W p B g qa bs) (q : Pxs) : BgAt w ((((((((W.setCell ⟨w.heap.size, 0, none⟩ (.int .i64 q.host)).setCell ⟨w.heap.size, 1, none⟩ (.int .i64 q.ver)).setCell ⟨w.heap.size, 2, none⟩ (.int .i64 q.phase)).setCell ⟨w.heap.size, 3, none⟩ (.int .i64 q.ballot)).setCell ⟨w.heap.size, 4, none⟩ (.int .i64 q.value)).setCell ⟨w.heap.size, 5, none⟩ (.int .i64 q.next)).setCell ⟨w.heap.size, 6, none⟩ (.int .i64 q.best)).setCell ⟨w.heap.size, 7, none⟩ (.int .i64 q.bestBal)) q B g qa bs := by
  have hk := keep8 (Keep.refl (fun j => j = w.heap.size) W) (g := w.heap.size) rfl (.int .i64 q.host) (.int .i64 q.ver) (.int .i64 q.phase) (.int .i64 q.ballot) (.int .i64 q.value) (.int .i64 q.next) (.int .i64 q.best) (.int .i64 q.bestBal)
  have := h.hg
  exact ⟨h.v.put q, h.r.keep hk (by show ¬ w.heap.size + 1 = w.heap.size; omega), row_keep h.o hk (by show ¬ g = w.heap.size; omega), keepN h.k hk (fun j hj => .inr (by omega)), h.hg⟩
theorem BgAt.put {w W : World} {p : Pxs} {B g qa : Nat} {bs : List Bk} (h : BgAt w W p B g qa bs) {k : Nat} (hk : k < bs.length) (y : Bk) :
    BgAt w ((((W.setCell ⟨g, k * 4, none⟩ (.int .i64 y.ver)).setCell ⟨g, k * 4 + 1, none⟩ (.int .i64 y.mbal)).setCell ⟨g, k * 4 + 2, none⟩ (.int .i64 y.bal)).setCell ⟨g, k * 4 + 3, none⟩ (.int .i64 y.inp)) p B g qa (bs.set k y) := by
  have hg := h.hg
  have kk : Keep (fun j => j = g) W ((((W.setCell ⟨g, k * 4, none⟩ (.int .i64 y.ver)).setCell ⟨g, k * 4 + 1, none⟩ (.int .i64 y.mbal)).setCell ⟨g, k * 4 + 2, none⟩ (.int .i64 y.bal)).setCell ⟨g, k * 4 + 3, none⟩ (.int .i64 y.inp)) :=
    ((((Keep.refl (fun j => j = g) W).setCell (p := ⟨g, k * 4, none⟩) rfl _).setCell (p := ⟨g, k * 4 + 1, none⟩) rfl _).setCell (p := ⟨g, k * 4 + 2, none⟩) rfl _).setCell (p := ⟨g, k * 4 + 3, none⟩) rfl _
  exact ⟨h.v.keep kk (by show ¬ w.heap.size = g; omega), h.r.keep kk (by show ¬ w.heap.size + 1 = g; omega), row_put h.o hk y, h.k.trans kk, h.hg⟩
/-- The answer is stored. -/
theorem BgAt.out {w W : World} {p : Pxs} {B g qa : Nat} {bs : List Bk} (h : BgAt w W p B g qa bs) (u0 u1 u2 u3 u4 u5 u6 u7 : Value) :
    ((((((((W.setCell ⟨w.heap.size + 1, 0, none⟩ u0).setCell ⟨w.heap.size + 1, 1, none⟩ u1).setCell ⟨w.heap.size + 1, 2, none⟩ u2).setCell ⟨w.heap.size + 1, 3, none⟩ u3).setCell ⟨w.heap.size + 1, 4, none⟩ u4).setCell ⟨w.heap.size + 1, 5, none⟩ u5).setCell ⟨w.heap.size + 1, 6, none⟩ u6).setCell ⟨w.heap.size + 1, 7, none⟩ u7).ownsRow B 91 4 (.slice (some ⟨g, 0, none⟩) 4 qa) 4 (bksV bs) ∧
    Keep (fun j => j = g) w ((((((((W.setCell ⟨w.heap.size + 1, 0, none⟩ u0).setCell ⟨w.heap.size + 1, 1, none⟩ u1).setCell ⟨w.heap.size + 1, 2, none⟩ u2).setCell ⟨w.heap.size + 1, 3, none⟩ u3).setCell ⟨w.heap.size + 1, 4, none⟩ u4).setCell ⟨w.heap.size + 1, 5, none⟩ u5).setCell ⟨w.heap.size + 1, 6, none⟩ u6).setCell ⟨w.heap.size + 1, 7, none⟩ u7) := by
  have hk := keep8 (Keep.refl (fun j => j = w.heap.size + 1) W) (g := w.heap.size + 1) rfl u0 u1 u2 u3 u4 u5 u6 u7
  have := h.hg
  exact ⟨row_keep h.o hk (by show ¬ g = w.heap.size + 1; omega), keepN h.k hk (fun j hj => .inr (by omega))⟩
/-- Beside it a block in a variable. -/
structure BkAt (w W : World) (p : Pxs) (B g qa : Nat) (bs : List Bk) (C : Nat) (z : Bk) : Prop where
  a : BgAt w W p B g qa bs
  b : VarB W C 91 z
  gt : w.heap.size + 2 ≤ C
theorem BgAt.got {w W W' : World} {p : Pxs} {B g qa C : Nat} {bs : List Bk} {z : Bk} (h : BgAt w W p B g qa bs) (hg : Got W W' C 91 z) : BkAt w W' p B g qa bs C z :=
  ⟨h.below hg.k, hg.v, by have := h.r.lt; have := hg.gt; omega⟩
theorem BkAt.below {w W W' : World} {p : Pxs} {B g qa C : Nat} {bs : List Bk} {z : Bk} (h : BkAt w W p B g qa bs C z) (hb : Below W.heap.size W W') : BkAt w W' p B g qa bs C z := ⟨h.a.below hb, h.b.below hb, h.gt⟩
theorem BkAt.mb {w W : World} {p : Pxs} {B g qa C : Nat} {bs : List Bk} {z : Bk} (h : BkAt w W p B g qa bs C z) (n : Int) : BkAt w (W.setCell ⟨C, 1, none⟩ (.int .i64 n)) p B g qa bs C { z with mbal := n } := by
  have hk : Keep (fun j => j = C) W (W.setCell ⟨C, 1, none⟩ (.int .i64 n)) := (Keep.refl (fun j => j = C) W).setCell (p := ⟨C, 1, none⟩) rfl _
  have h1 := h.a.hg
  have h2 := h.gt
  exact ⟨⟨h.a.v.keep hk (by show ¬ w.heap.size = C; omega), h.a.r.keep hk (by show ¬ w.heap.size + 1 = C; omega), row_keep h.a.o hk (by show ¬ g = C; omega), keepN h.a.k hk (fun j hj => .inr (by omega)), h1⟩, set_heap (i := 1) h.b _, h2⟩
theorem BkAt.put {w W : World} {p : Pxs} {B g qa C : Nat} {bs : List Bk} {z : Bk} (h : BkAt w W p B g qa bs C z) {k : Nat} (hk : k < bs.length) (y : Bk) :
    BkAt w ((((W.setCell ⟨g, k * 4, none⟩ (.int .i64 y.ver)).setCell ⟨g, k * 4 + 1, none⟩ (.int .i64 y.mbal)).setCell ⟨g, k * 4 + 2, none⟩ (.int .i64 y.bal)).setCell ⟨g, k * 4 + 3, none⟩ (.int .i64 y.inp)) p B g qa (bs.set k y) C z := by
  have h1 := h.a.hg
  have h2 := h.gt
  have kk : Keep (fun j => j = g) W ((((W.setCell ⟨g, k * 4, none⟩ (.int .i64 y.ver)).setCell ⟨g, k * 4 + 1, none⟩ (.int .i64 y.mbal)).setCell ⟨g, k * 4 + 2, none⟩ (.int .i64 y.bal)).setCell ⟨g, k * 4 + 3, none⟩ (.int .i64 y.inp)) :=
    ((((Keep.refl (fun j => j = g) W).setCell (p := ⟨g, k * 4, none⟩) rfl _).setCell (p := ⟨g, k * 4 + 1, none⟩) rfl _).setCell (p := ⟨g, k * 4 + 2, none⟩) rfl _).setCell (p := ⟨g, k * 4 + 3, none⟩) rfl _
  exact ⟨h.a.put hk y, h.b.keep kk (by show ¬ C = g; omega), h2⟩
theorem bg_fin {w W' : World} {p p' : Pxs} {bs bs' : List Bk} {B g qa : Nat} (hE : pxStepP p bs = (p', bs')) (hO : W'.ownsRow B 91 4 (.slice (some ⟨g, 0, none⟩) 4 qa) 4 (bksV bs') ∧ Keep (fun j => j = g) w W') :
    Ending.returned (pV p') = .returned (pV (pxStepP p bs).1) ∧ W'.ownsRow B 91 4 (.slice (some ⟨g, 0, none⟩) 4 qa) 4 (bksV (pxStepP p bs).2) ∧ Keep (fun j => j = g) w W' :=
  ⟨by rw [hE], by rw [hE]; exact hO.1, hO.2⟩
theorem ah_no {p : Pxs} {z : Bk} (h1 : p.phase = 1) (ha : ahB z p = true ∨ z.mbal = p.ballot) : pxNo p z := by
  rcases ha with h | h
  · simp only [ahB, Bool.or_eq_true, decide_eq_true_eq] at h
    rcases h with h | h
    · exact .inl h
    · exact .inr (.inl h)
  · exact .inr (.inr (.inl ⟨h1, h⟩))
theorem ah_yes1 {p : Pxs} {z : Bk} (h1 : p.phase = 1) (ha : ¬ (ahB z p = true ∨ z.mbal = p.ballot)) : ¬ pxNo p z := by
  rintro (h | h | h | h)
  · exact ha (.inl (by simp [ahB, h]))
  · exact ha (.inl (by simp [ahB, h]))
  · exact ha (.inr h.2)
  · rw [h1] at h; exact absurd h.1 (by decide)
theorem ah_no3 {p : Pxs} {z : Bk} (h1 : p.phase = 3) (ha : ahB z p = true ∨ z.mbal ≠ p.ballot) : pxNo p z := by
  rcases ha with h | h
  · simp only [ahB, Bool.or_eq_true, decide_eq_true_eq] at h
    rcases h with h | h
    · exact .inl h
    · exact .inr (.inl h)
  · exact .inr (.inr (.inr ⟨h1, h⟩))
theorem ah_yes3 {p : Pxs} {z : Bk} (h1 : p.phase = 3) (ha : ¬ (ahB z p = true ∨ z.mbal ≠ p.ballot)) : ¬ pxNo p z := by
  rintro (h | h | h | h)
  · exact ha (.inl (by simp [ahB, h]))
  · exact ha (.inl (by simp [ahB, h]))
  · rw [h1] at h; exact absurd h.1 (by decide)
  · exact ha (.inr h.2)
theorem own_ver {p : Pxs} {bs : List Bk} {z : Bk} (hz : pxOwn p bs = z) (ha : ahB z p = false) : z.ver = p.ver := by
  have h1 : ¬ p.ver < z.ver := by intro h; simp [ahB, h] at ha
  have h2 : p.ver ≤ z.ver := by
    rw [← hz]; unfold pxOwn bkOf; split
    · exact Int.le_refl _
    · omega
  omega
end Go.Proofs.YtjmianalknnekabGreatDoor

/- The program's beginBallot and acceptValue. -/
namespace Go.Proofs.YtjmianalknnekabGreatDoor
open Go.RowKit
set_option linter.unusedVariables false
set_option maxRecDepth 100000

end Go.Proofs.YtjmianalknnekabGreatDoor

/- The program's reading phases: the closure of readBallot. -/
namespace Go.Proofs.YtjmianalknnekabGreatDoor
open Go.RowKit
set_option linter.unusedVariables false
set_option maxRecDepth 100000

theorem PxAt.all {w W : World} {x : Nat} {p : Pxs} (h : PxAt w W x p) (q : Pxs) : PxAt w ((((((((W.setCell ⟨x, 0, none⟩ (.int .i64 q.host)).setCell ⟨x, 1, none⟩ (.int .i64 q.ver)).setCell ⟨x, 2, none⟩ (.int .i64 q.phase)).setCell ⟨x, 3, none⟩ (.int .i64 q.ballot)).setCell ⟨x, 4, none⟩ (.int .i64 q.value)).setCell ⟨x, 5, none⟩ (.int .i64 q.next)).setCell ⟨x, 6, none⟩ (.int .i64 q.best)).setCell ⟨x, 7, none⟩ (.int .i64 q.bestBal)) x q := by
  have hk := keep8 (Keep.refl (fun j => j = x) W) (g := x) rfl (.int .i64 q.host) (.int .i64 q.ver) (.int .i64 q.phase) (.int .i64 q.ballot) (.int .i64 q.value) (.int .i64 q.next) (.int .i64 q.best) (.int .i64 q.bestBal)
  exact ⟨h.v.put q, h.r.keep hk (by show ¬ x + 1 = x; omega), below8 h.k h.ge _ _ _ _ _ _ _ _, h.ge⟩
/-- What a phase heeds, how it ends. -/
structure Heed (fh fe : Nat) (hd : Pxs → Bk → Pxs) (en : Pxs → Pxs) (n : Int) : Prop where
  c1 : ∀ (q : Pxs) (z : Bk) (W : World), Calls Tryz.prog fh #[pV q, bV z] W fun e w' => e = .returned (pV (hd q z)) ∧ Below W.heap.size W w'
  c2 : ∀ (q : Pxs) (W : World), Calls Tryz.prog fe #[pV q] W fun e w' => e = .returned (pV (en q)) ∧ Below W.heap.size W w'
  r1 : ∀ (args : Array Value) (W : World), (callFunc fh args).run Tryz.prog W = .ok (.enter fh args) W
  r2 : ∀ (args : Array Value) (W : World), (callFunc fe args).run Tryz.prog W = .ok (.enter fe args) W
  look : ∀ (q : Pxs) (z : Bk), q.phase = n → { hd q z with next := skip { hd q z with next := (hd q z).next + 1 } ((hd q z).next + 1) } = pxLook q z
  next : ∀ (q : Pxs) (z : Bk), (hd q z).next = q.next ∧ (hd q z).host = q.host
  stay : ∀ (q : Pxs) (z : Bk), (pxLook q z).phase = q.phase
  fin : ∀ (q : Pxs), q.phase = n → ¬ q.next < 4 → en q = pxEnd q
end Go.Proofs.YtjmianalknnekabGreatDoor

/- The program's phases as values, a copy of blocks, and PxStep; spec's PxStep. -/
namespace Go.Proofs.YtjmianalknnekabGreatDoor
open Go.RowKit
set_option linter.unusedVariables false
set_option maxRecDepth 100000

theorem sizeK : (Tryz.prog.info? 91).map (·.size) = some 4 := by kernel_rfl
/-- What is handed out as a phase. -/
abbrev fV (f : Nat) : Value := .func (.func f) #[] #[]
theorem pxStep_len (p : Pxs) (bs : List Bk) : (pxStepP p bs).2.length = bs.length := by
  unfold pxStepP
  split
  · rfl
  · split
    · rfl
    · split
      · rfl
      · simp
theorem StAt.all {w W : World} {x : Nat} {p : Pxs} {qo : Option Addr} {qa : Nat} {bs : List Bk} (h : StAt w W x p qo qa bs) (q : Pxs) : StAt w ((((((((W.setCell ⟨x, 0, none⟩ (.int .i64 q.host)).setCell ⟨x, 1, none⟩ (.int .i64 q.ver)).setCell ⟨x, 2, none⟩ (.int .i64 q.phase)).setCell ⟨x, 3, none⟩ (.int .i64 q.ballot)).setCell ⟨x, 4, none⟩ (.int .i64 q.value)).setCell ⟨x, 5, none⟩ (.int .i64 q.next)).setCell ⟨x, 6, none⟩ (.int .i64 q.best)).setCell ⟨x, 7, none⟩ (.int .i64 q.bestBal)) x q qo qa bs :=
  ⟨h.a.all q, (((((((h.o.setCell (a := ⟨x, 0, none⟩) (by simp) _).setCell (a := ⟨x, 1, none⟩) (by simp) _).setCell (a := ⟨x, 2, none⟩) (by simp) _).setCell (a := ⟨x, 3, none⟩) (by simp) _).setCell (a := ⟨x, 4, none⟩) (by simp) _).setCell (a := ⟨x, 5, none⟩) (by simp) _).setCell (a := ⟨x, 6, none⟩) (by simp) _).setCell (a := ⟨x, 7, none⟩) (by simp) _⟩
/-- A phase has written into the row. -/
theorem StAt.did {w W W' : World} {x : Nat} {p : Pxs} {g qa : Nat} {bs bs' : List Bk} (h : StAt w W x p (some ⟨g, 0, none⟩) qa bs) (ho : W'.ownsRow (x + 2) 91 4 (.slice (some ⟨g, 0, none⟩) 4 qa) 4 (bksV bs')) (hk : Keep (fun j => j = g) W W') : StAt w W' x p (some ⟨g, 0, none⟩) qa bs' := by
  have hg := (h.o.ge g (own_of (by omega) rfl)).1
  have hx := h.a.ge
  have hl : x < W.heap.size := h.a.v.lt
  refine ⟨⟨h.a.v.keep hk (by show ¬ x = g; omega), h.a.r.keep hk (by show ¬ x + 1 = g; omega), ?_, h.a.ge⟩, .inr ⟨by omega, ho⟩⟩
  have hb := hk.below (B := w.heap.size) h.a.k.size (fun j hj => by omega)
  exact h.a.k.trans hb
theorem StAt.row {w W : World} {x : Nat} {p : Pxs} {g qa : Nat} {bs : List Bk} (h : StAt w W x p (some ⟨g, 0, none⟩) qa bs) : W.ownsRow (x + 2) 91 4 (.slice (some ⟨g, 0, none⟩) 4 qa) 4 (bksV bs) := by
  rcases h.o with ⟨h0, _, _⟩ | ⟨_, ho⟩
  · omega
  · exact ho
/-- What PxStep leaves. -/
def Stepped (w W : World) (p : Pxs) (xs : List Bk) (e : Ending) : Prop := ∃ qo qa, e = .returned (.tuple #[pV (stP p xs), .slice qo (stL p xs).length qa, .int .i64 (stC p xs)]) ∧ OwnR W w.heap.size 91 4 (.slice qo (stL p xs).length qa) (stL p xs).length (bksV (stL p xs)) ∧ Below w.heap.size w W
theorem stepped_none {w W : World} {p : Pxs} {xs : List Bk} {c : Int} (ao : Option Addr) (h : stP p xs = p00 ∧ stL p xs = [] ∧ stC p xs = c) (hb : Below w.heap.size w W) : Stepped w W p xs (.returned (.tuple #[pV p00, .slice ao 0 0, .int .i64 c])) := by
  unfold Stepped
  rw [h.1, h.2.1, h.2.2]
  exact ⟨ao, 0, rfl, .inl ⟨rfl, rfl, ao, rfl⟩, hb⟩
theorem stepped_done {w W : World} {p p' : Pxs} {xs bs' : List Bk} {c : Int} {qo : Option Addr} {qa : Nat} (h : stP p xs = (pxStepP p xs).1 ∧ stL p xs = (pxStepP p xs).2 ∧ stC p xs = stEnd p) (hx : xs.length = 4) (hE : pxStepP p xs = (p', bs')) (hc : stEnd p = c)
    (hO : OwnR W w.heap.size 91 4 (.slice qo 4 qa) 4 (bksV bs') ∧ Below w.heap.size w W) : Stepped w W p xs (.returned (.tuple #[pV p', .slice qo 4 qa, .int .i64 c])) := by
  unfold Stepped
  have hl := pxStep_len p xs
  rw [hx] at hl
  rw [h.1, h.2.1, h.2.2, hl, hc]
  rw [hE] at *
  exact ⟨qo, qa, rfl, hO.1, hO.2⟩

theorem pxAt0 (w : World) (p : Pxs) : PxAt w ((w.alloc (.cells #[.int .i64 p.host, .int .i64 p.ver, .int .i64 p.phase, .int .i64 p.ballot, .int .i64 p.value, .int .i64 p.next, .int .i64 p.best, .int .i64 p.bestBal] 54)).alloc (.cells #[.int .i64 0, .int .i64 0, .int .i64 0, .int .i64 0, .int .i64 0, .int .i64 0, .int .i64 0, .int .i64 0] 54)) w.heap.size p :=
  ⟨(VarP.new w _ p).below (Joins.below_alloc1 _ _), by
    have := VarP.new0 (w.alloc (.cells #[.int .i64 p.host, .int .i64 p.ver, .int .i64 p.phase, .int .i64 p.ballot, .int .i64 p.value, .int .i64 p.next, .int .i64 p.best, .int .i64 p.bestBal] 54)) 54
    simp only [World.size_alloc] at this
    exact this, Joins.below_alloc2 _ _ _, Nat.le_refl _⟩

end Go.Proofs.YtjmianalknnekabGreatDoor

/- The program's PxStep. -/
namespace Go.Proofs.YtjmianalknnekabGreatDoor
open Go.RowKit
set_option linter.unusedVariables false
set_option maxRecDepth 100000

theorem stepped_end {w W : World} {p p' : Pxs} {xs bs' : List Bk} {c : Int} {qo : Option Addr} {qa : Nat} (h : stP p xs = p' ∧ stL p xs = bs' ∧ stC p xs = stEnd p) (hx : bs'.length = 4) (hc : stEnd p = c)
    (hO : OwnR W w.heap.size 91 4 (.slice qo 4 qa) 4 (bksV bs') ∧ Below w.heap.size w W) : Stepped w W p xs (.returned (.tuple #[pV p', .slice qo 4 qa, .int .i64 c])) := by
  unfold Stepped
  rw [h.1, h.2.1, h.2.2, hx, hc]
  exact ⟨qo, qa, rfl, hO.1, hO.2⟩
theorem st_fault {p : Pxs} {xs : List Bk} (h : ¬ bfC xs = 0) : stP p xs = p00 ∧ stL p xs = [] ∧ stC p xs = bfC xs := by
  by_cases hl : 4096 < xs.length
  · have := st_long (p := p) hl
    rw [bfC_long hl]; exact this
  · by_cases hb : bksB xs = true
    · exact absurd (bfC_ok hl hb) h
    · rw [Bool.not_eq_true] at hb
      rw [bfC_bad hl hb]
      exact st_bad hl (by rw [hb]; simp)

end Go.Proofs.YtjmianalknnekabGreatDoor

/- Contracts of the methods of the program's ballots: begin, step. -/
namespace Go.Proofs.YtjmianalknnekabGreatDoor
open Go.RowKit
set_option linter.unusedVariables false
set_option maxRecDepth 100000

end Go.Proofs.YtjmianalknnekabGreatDoor

/- Contract of the method step of the program's ballots. -/
namespace Go.Proofs.YtjmianalknnekabGreatDoor
open Go.RowKit
set_option linter.unusedVariables false
set_option maxRecDepth 100000

/-- Behind the step: the store, the block that was. -/
structure StA (w W : World) (B x C : Nat) (s : Est) (L : Ld) (y : Bk) (ro : Option Addr) (ra : Nat) (ao : Option Addr) (ca : Nat) (qo : Option Addr) (cb : Nat) : Prop where
  s : Sto W B x s L ro ra ao ca qo cb
  v : VarB W C 91 y
  k : Keep (fun j => j = x) w W
def difB (a b : Bk) : Bool := !(a.ver == b.ver && (a.mbal == b.mbal && (a.bal == b.bal && a.inp == b.inp)))
theorem difB_ne {a b : Bk} (h : a ≠ b) : difB a b = true := by
  by_cases e1 : a.ver = b.ver
  · by_cases e2 : a.mbal = b.mbal
    · by_cases e3 : a.bal = b.bal
      · by_cases e4 : a.inp = b.inp
        · exact absurd (by cases a; cases b; simp_all) h
        · simp [difB, e4]
      · simp [difB, e3]
    · simp [difB, e2]
  · simp [difB, e1]
theorem field_cases (a b : Bk) : ((a.ver == b.ver) = false ∧ difB a b = true) ∨ ((a.ver == b.ver) = true ∧ (a.mbal == b.mbal) = false ∧ difB a b = true) ∨ ((a.ver == b.ver) = true ∧ (a.mbal == b.mbal) = true ∧ (a.bal == b.bal) = false ∧ difB a b = true) ∨ ((a.ver == b.ver) = true ∧ (a.mbal == b.mbal) = true ∧ (a.bal == b.bal) = true ∧ (a.inp == b.inp) = false ∧ difB a b = true) ∨ ((a.ver == b.ver) = true ∧ (a.mbal == b.mbal) = true ∧ (a.bal == b.bal) = true ∧ (a.inp == b.inp) = true ∧ difB a b = false) := by
  unfold difB
  cases a.ver == b.ver <;> cases a.mbal == b.mbal <;> cases a.bal == b.bal <;> cases a.inp == b.inp <;> simp
theorem difB_eq {a b : Bk} (h : a = b) : difB a b = false := by
  subst h; simp [difB]

end Go.Proofs.YtjmianalknnekabGreatDoor

/- Contract of the method elect of the program's store. -/
namespace Go.Proofs.YtjmianalknnekabGreatDoor
open Go.RowKit
set_option linter.unusedVariables false
set_option maxRecDepth 100000

/-- A leader's variable, new. -/
structure GotL (W0 W : World) (C : Nat) (y : Ld) : Prop where
  k : Below W0.heap.size W0 W
  v : VarT W C 32 y.ver y.own y.gen
theorem GotL.top {W0 W : World} (y : Ld) (h : Below W0.heap.size W0 W) : GotL W0 (W.alloc (.cells #[.int .i64 y.ver, .int .i64 y.own, .int .i64 y.gen] 32)) W.heap.size y := ⟨fr h (Joins.below_alloc1 _ _), VarT.new W _ _ _ _⟩
theorem VarT.put {w : World} {x t : Nat} {a b c : Int} (k : VarT w x t a b c) (y : Ld) : VarT (((w.setCell ⟨x, 0, none⟩ (.int .i64 y.ver)).setCell ⟨x, 1, none⟩ (.int .i64 y.own)).setCell ⟨x, 2, none⟩ (.int .i64 y.gen)) x t y.ver y.own y.gen := set_heap (i := 2) (set_heap (i := 1) (set_heap (i := 0) k (.int .i64 y.ver)) (.int .i64 y.own)) (.int .i64 y.gen)
theorem GotL.set {W0 W : World} {y : Ld} {C : Nat} {a b c : Int} (h : Below W0.heap.size W0 W) (hv : VarT W C 32 a b c) (hC : W0.heap.size ≤ C) : GotL W0 (((W.setCell ⟨C, 0, none⟩ (.int .i64 y.ver)).setCell ⟨C, 1, none⟩ (.int .i64 y.own)).setCell ⟨C, 2, none⟩ (.int .i64 y.gen)) C y := ⟨below3 h hC 0 1 2 _ _ _, hv.put y⟩
/-- What is between two rounds. -/
structure ElI (w wr : World) (B x C : Nat) (h : Int) (L y : Ld) (E s : Est) (bo : Option Addr) (ba : Nat) (ao : Option Addr) (ca : Nat) (qo : Option Addr) (cb : Nat) : Prop where
  st : Sto wr B x s L bo ba ao ca qo cb
  v : VarT wr C 32 y.ver y.own y.gen
  k : Keep (fun j => j = x) w wr
  o : ElOK h s
  e : elEnd s = E
  n : ¬ C = x
theorem ElI.below {w wr w' : World} {B x C : Nat} {h : Int} {L y : Ld} {E s : Est} {bo ao qo : Option Addr} {ba ca cb : Nat} (i : ElI w wr B x C h L y E s bo ba ao ca qo cb) (hb : Below wr.heap.size wr w') : ElI w w' B x C h L y E s bo ba ao ca qo cb := ⟨i.st.below hb, i.v.below hb, i.k.trans (Keep.of_below hb), i.o, i.e, i.n⟩
theorem wrote_dif {s : Est} {h : Int} (k : ElOK h s) (h5 : s.p.phase < 5) : difB (ownK s.p (pxStepP s.p s.bs).2) (ownK s.p s.bs) = wroteB s.p.phase (pxStepP s.p s.bs).1.phase := by
  rcases wrote_iff k.p k.b h5 k.j with ⟨a, b⟩ | ⟨a, b⟩
  · rw [a]; exact difB_ne b
  · rw [a]; exact difB_eq b
theorem step_no {s : Est} (hw : wroteB s.p.phase (pxStepP s.p s.bs).1.phase = false) : elStep s = ⟨s.ss, s.xs, (pxStepP s.p s.bs).1, (pxStepP s.p s.bs).2⟩ := by unfold elStep; rw [if_neg (by simp [hw])]
theorem step_wr {s : Est} {h : Int} (k : ElOK h s) (h5 : s.p.phase < 5) (hw : wroteB s.p.phase (pxStepP s.p s.bs).1.phase = true) :
    elStep s = ⟨wS s.ss s.xs (pxStepP s.p s.bs).1.host (1 + (pxStepP s.p s.bs).1.host) (encB (ownK (pxStepP s.p s.bs).1 (pxStepP s.p s.bs).2)), wX s.xs (pxStepP s.p s.bs).1.host (1 + (pxStepP s.p s.bs).1.host) (encB (ownK (pxStepP s.p s.bs).1 (pxStepP s.p s.bs).2)), (pxStepP s.p s.bs).1, (pxStepP s.p s.bs).2⟩ := by
  have e : (pxStepP s.p s.bs).1.host = s.p.host := by
    have := (k.step h5).o
    rw [(step_p s).1] at this
    rw [this, k.o]
  have eo : ownK (pxStepP s.p s.bs).1 (pxStepP s.p s.bs).2 = ownK s.p (pxStepP s.p s.bs).2 := by unfold ownK; rw [e]
  rw [e, eo]
  unfold elStep; rw [if_pos hw]

end Go.Proofs.YtjmianalknnekabGreatDoor

/- Contract of the program's Elect. -/
namespace Go.Proofs.YtjmianalknnekabGreatDoor
open Go.RowKit
set_option linter.unusedVariables false
set_option maxRecDepth 100000

/-- A call's start: a disk as an argument; a disk and a leader as its answer. -/
theorem tl_new3 (w : World) (ao bo : Option Addr) (ca cb n m : Nat) :
    TlS w (((w.alloc (.cells #[.slice ao n ca, .slice bo m cb] 31)).alloc (.cells #[.slice none 0 0, .slice none 0 0] 31)).alloc (.cells #[.int .i64 0, .int .i64 0, .int .i64 0] 32)) w.heap.size (w.heap.size + 1) (w.heap.size + 1 + 1) (.slice ao n ca) (.slice bo m cb) := by
  have b1 := Joins.below_alloc1 w (.cells #[.slice ao n ca, .slice bo m cb] 31)
  have b3 := Joins.below_alloc1 (w.alloc (.cells #[.slice ao n ca, .slice bo m cb] 31)) (.cells #[.slice none 0 0, .slice none 0 0] 31)
  have b4 := Joins.below_alloc1 ((w.alloc (.cells #[.slice ao n ca, .slice bo m cb] 31)).alloc (.cells #[.slice none 0 0, .slice none 0 0] 31)) (.cells #[.int .i64 0, .int .i64 0, .int .i64 0] 32)
  refine ⟨fr (fr b1 b3) b4, (VarD.new w _ _).below (fr b3 b4), ?_, ?_⟩
  · have := (VarD.new (w.alloc (.cells #[.slice ao n ca, .slice bo m cb] 31)) (.slice none 0 0) (.slice none 0 0)).below b4
    simp only [World.size_alloc] at this
    exact this
  · have := VarT.new ((w.alloc (.cells #[.slice ao n ca, .slice bo m cb] 31)).alloc (.cells #[.slice none 0 0, .slice none 0 0] 31)) 32 0 0 0
    simp only [World.size_alloc] at this
    exact this

end Go.Proofs.YtjmianalknnekabGreatDoor
