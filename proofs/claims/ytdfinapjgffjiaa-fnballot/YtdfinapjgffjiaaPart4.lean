import Derived.Test.YtdfinapjgffjiaaPart1
import Derived.WalkKit
import Derived.Test.YtdfinapjgffjiaaPart3
import Derived.Test.YtdfinapjgffjiaaRows
import Derived.Test.YtdfinapjgffjiaaPart2
import Derived.WalkSpells
import Derived.KernelRfl
import Derived.Lib.SmallJoins
import Derived.BigQuiet
import Derived.Deep.QuietTactic
import Derived.Deep.RegionWith
import Derived.Deep.CutRange

/- Plain words of a host's ballot: what a right one is; one in a variable; rows of blocks. -/
namespace Go.Proofs.Ytdfinapjgffjiaa
open Go.RowKit
set_option linter.unusedVariables false

abbrev pV (p : Pxs) : Value := .agg #[.int .i64 p.host, .int .i64 p.ver, .int .i64 p.phase, .int .i64 p.ballot, .int .i64 p.value, .int .i64 p.next, .int .i64 p.best, .int .i64 p.bestBal]
def pxB (p : Pxs) : Bool := inB p.host 0 3 && (inB p.ver 0 1000000 && (inB p.phase 1 6 && (inB p.ballot 1 1000000 && (decide (p.ballot % 4 = p.host) && (numB p.value && (inB p.next 0 4 && (numB p.best && inB p.bestBal 0 1000000)))))))
theorem pxB_iff {p : Pxs} : pxB p = true ↔ (0 ≤ p.host ∧ p.host ≤ 3) ∧ (0 ≤ p.ver ∧ p.ver ≤ 1000000) ∧ (1 ≤ p.phase ∧ p.phase ≤ 6) ∧ (1 ≤ p.ballot ∧ p.ballot ≤ 1000000) ∧ p.ballot % 4 = p.host ∧ (0 ≤ p.value ∧ p.value ≤ 2147483647) ∧ (0 ≤ p.next ∧ p.next ≤ 4) ∧ (0 ≤ p.best ∧ p.best ≤ 2147483647) ∧ 0 ≤ p.bestBal ∧ p.bestBal ≤ 1000000 := by
  simp only [pxB, numB, inB, Bool.and_eq_true, decide_eq_true_eq]
def p00 : Pxs := ⟨0, 0, 0, 0, 0, 0, 0, 0⟩

def VarP (w : World) (x : Nat) (t : TypeId) (p : Pxs) : Prop := w.heap[x]? = some (.cells #[.int .i64 p.host, .int .i64 p.ver, .int .i64 p.phase, .int .i64 p.ballot, .int .i64 p.value, .int .i64 p.next, .int .i64 p.best, .int .i64 p.bestBal] t (0, 0))
theorem VarP.lt {w : World} {x t : Nat} {p : Pxs} (k : VarP w x t p) : x < w.heap.size := (Array.getElem?_eq_some_iff.1 k).1
theorem VarP.cells {w : World} {x t : Nat} {p : Pxs} (k : VarP w x t p) : w.cell? ⟨x, 0, none⟩ = some (.int .i64 p.host) ∧ w.cell? ⟨x, 1, none⟩ = some (.int .i64 p.ver) ∧ w.cell? ⟨x, 2, none⟩ = some (.int .i64 p.phase) ∧ w.cell? ⟨x, 3, none⟩ = some (.int .i64 p.ballot) ∧ w.cell? ⟨x, 4, none⟩ = some (.int .i64 p.value) ∧ w.cell? ⟨x, 5, none⟩ = some (.int .i64 p.next) ∧ w.cell? ⟨x, 6, none⟩ = some (.int .i64 p.best) ∧ w.cell? ⟨x, 7, none⟩ = some (.int .i64 p.bestBal) := ⟨by rw [Joins.cell_of_block k]; rfl, by rw [Joins.cell_of_block k]; rfl, by rw [Joins.cell_of_block k]; rfl, by rw [Joins.cell_of_block k]; rfl, by rw [Joins.cell_of_block k]; rfl, by rw [Joins.cell_of_block k]; rfl, by rw [Joins.cell_of_block k]; rfl, by rw [Joins.cell_of_block k]; rfl⟩
theorem VarP.free {w : World} {x t : Nat} {p : Pxs} (k : VarP w x t p) : w.frozen? ⟨x, 0, none⟩ = false ∧ w.frozen? ⟨x, 1, none⟩ = false ∧ w.frozen? ⟨x, 2, none⟩ = false ∧ w.frozen? ⟨x, 3, none⟩ = false ∧ w.frozen? ⟨x, 4, none⟩ = false ∧ w.frozen? ⟨x, 5, none⟩ = false ∧ w.frozen? ⟨x, 6, none⟩ = false ∧ w.frozen? ⟨x, 7, none⟩ = false := ⟨Joins.unfrozen_of_block k 0, Joins.unfrozen_of_block k 1, Joins.unfrozen_of_block k 2, Joins.unfrozen_of_block k 3, Joins.unfrozen_of_block k 4, Joins.unfrozen_of_block k 5, Joins.unfrozen_of_block k 6, Joins.unfrozen_of_block k 7⟩
theorem VarP.below {w w' : World} {x t : Nat} {p : Pxs} (k : VarP w x t p) (hb : Below w.heap.size w w') : VarP w' x t p := by
  unfold VarP; rw [hb.block x k.lt]; exact k
theorem VarP.keep {S : Nat → Prop} {w w' : World} {x t : Nat} {p : Pxs} (k : VarP w x t p) (hk : Keep S w w') (hs : ¬ S x) : VarP w' x t p := by
  unfold VarP; rw [hk.block x k.lt hs]; exact k
theorem VarP.new (w : World) (t : TypeId) (p : Pxs) : VarP (w.alloc (.cells #[.int .i64 p.host, .int .i64 p.ver, .int .i64 p.phase, .int .i64 p.ballot, .int .i64 p.value, .int .i64 p.next, .int .i64 p.best, .int .i64 p.bestBal] t)) w.heap.size t p := heap_alloc_new w _
theorem VarP.new0 (w : World) (t : TypeId) : VarP (w.alloc (.cells #[.int .i64 0, .int .i64 0, .int .i64 0, .int .i64 0, .int .i64 0, .int .i64 0, .int .i64 0, .int .i64 0] t)) w.heap.size t p00 := heap_alloc_new w _
theorem set_heap {w : World} {k t i : Nat} {a : Array Value} (h : w.heap[k]? = some (.cells a t (0, 0))) (v : Value) : (w.setCell ⟨k, i, none⟩ v).heap[k]? = some (.cells (a.setIfInBounds i v) t (0, 0)) := by
  obtain ⟨hk, hf⟩ := Array.getElem?_eq_some_iff.1 h
  unfold World.setCell
  simp [hk]
  rw [Array.getElem_modify]
  simp [hf]
theorem VarP.set0 {w : World} {x t : Nat} {p : Pxs} (k : VarP w x t p) (n : Int) : VarP (w.setCell ⟨x, 0, none⟩ (.int .i64 n)) x t { p with host := n } := set_heap (i := 0) k _
theorem VarP.set1 {w : World} {x t : Nat} {p : Pxs} (k : VarP w x t p) (n : Int) : VarP (w.setCell ⟨x, 1, none⟩ (.int .i64 n)) x t { p with ver := n } := set_heap (i := 1) k _
theorem VarP.set2 {w : World} {x t : Nat} {p : Pxs} (k : VarP w x t p) (n : Int) : VarP (w.setCell ⟨x, 2, none⟩ (.int .i64 n)) x t { p with phase := n } := set_heap (i := 2) k _
theorem VarP.set3 {w : World} {x t : Nat} {p : Pxs} (k : VarP w x t p) (n : Int) : VarP (w.setCell ⟨x, 3, none⟩ (.int .i64 n)) x t { p with ballot := n } := set_heap (i := 3) k _
theorem VarP.set4 {w : World} {x t : Nat} {p : Pxs} (k : VarP w x t p) (n : Int) : VarP (w.setCell ⟨x, 4, none⟩ (.int .i64 n)) x t { p with value := n } := set_heap (i := 4) k _
theorem VarP.set5 {w : World} {x t : Nat} {p : Pxs} (k : VarP w x t p) (n : Int) : VarP (w.setCell ⟨x, 5, none⟩ (.int .i64 n)) x t { p with next := n } := set_heap (i := 5) k _
theorem VarP.set6 {w : World} {x t : Nat} {p : Pxs} (k : VarP w x t p) (n : Int) : VarP (w.setCell ⟨x, 6, none⟩ (.int .i64 n)) x t { p with best := n } := set_heap (i := 6) k _
theorem VarP.set7 {w : World} {x t : Nat} {p : Pxs} (k : VarP w x t p) (n : Int) : VarP (w.setCell ⟨x, 7, none⟩ (.int .i64 n)) x t { p with bestBal := n } := set_heap (i := 7) k _
theorem VarP.put {w : World} {x t : Nat} {p : Pxs} (k : VarP w x t p) (q : Pxs) : VarP ((((((((w.setCell ⟨x, 0, none⟩ (.int .i64 q.host)).setCell ⟨x, 1, none⟩ (.int .i64 q.ver)).setCell ⟨x, 2, none⟩ (.int .i64 q.phase)).setCell ⟨x, 3, none⟩ (.int .i64 q.ballot)).setCell ⟨x, 4, none⟩ (.int .i64 q.value)).setCell ⟨x, 5, none⟩ (.int .i64 q.next)).setCell ⟨x, 6, none⟩ (.int .i64 q.best)).setCell ⟨x, 7, none⟩ (.int .i64 q.bestBal)) x t q := (((((((k.set0 q.host).set1 q.ver).set2 q.phase).set3 q.ballot).set4 q.value).set5 q.next).set6 q.best).set7 q.bestBal

theorem below8 {w0 w : World} {B g : Nat} (h : Below B w0 w) (hg : B ≤ g) (u0 u1 u2 u3 u4 u5 u6 u7 : Value) : Below B w0 ((((((((w.setCell ⟨g, 0, none⟩ u0).setCell ⟨g, 1, none⟩ u1).setCell ⟨g, 2, none⟩ u2).setCell ⟨g, 3, none⟩ u3).setCell ⟨g, 4, none⟩ u4).setCell ⟨g, 5, none⟩ u5).setCell ⟨g, 6, none⟩ u6).setCell ⟨g, 7, none⟩ u7) :=
  (((((((h.setCell (p := ⟨g, 0, none⟩) hg u0).setCell (p := ⟨g, 1, none⟩) hg u1).setCell (p := ⟨g, 2, none⟩) hg u2).setCell (p := ⟨g, 3, none⟩) hg u3).setCell (p := ⟨g, 4, none⟩) hg u4).setCell (p := ⟨g, 5, none⟩) hg u5).setCell (p := ⟨g, 6, none⟩) hg u6).setCell (p := ⟨g, 7, none⟩) hg u7
theorem keep8 {S : Nat → Prop} {w0 w : World} {g : Nat} (h : Keep S w0 w) (hg : S g) (u0 u1 u2 u3 u4 u5 u6 u7 : Value) : Keep S w0 ((((((((w.setCell ⟨g, 0, none⟩ u0).setCell ⟨g, 1, none⟩ u1).setCell ⟨g, 2, none⟩ u2).setCell ⟨g, 3, none⟩ u3).setCell ⟨g, 4, none⟩ u4).setCell ⟨g, 5, none⟩ u5).setCell ⟨g, 6, none⟩ u6).setCell ⟨g, 7, none⟩ u7) :=
  (((((((h.setCell (p := ⟨g, 0, none⟩) hg u0).setCell (p := ⟨g, 1, none⟩) hg u1).setCell (p := ⟨g, 2, none⟩) hg u2).setCell (p := ⟨g, 3, none⟩) hg u3).setCell (p := ⟨g, 4, none⟩) hg u4).setCell (p := ⟨g, 5, none⟩) hg u5).setCell (p := ⟨g, 6, none⟩) hg u6).setCell (p := ⟨g, 7, none⟩) hg u7

/-- Of what was there only blocks of S have turned; what is new may. -/
theorem keepN {S : Nat → Prop} {a b c : World} (h : Keep S a b) {T : Nat → Prop} (k : Keep T b c) (hT : ∀ i, T i → S i ∨ a.heap.size ≤ i) : Keep S a c :=
  ⟨k.os.trans h.os, k.tape.trans h.tape, k.output.trans h.output, Nat.le_trans h.size k.size, fun i hi hs => (k.block i (Nat.lt_of_lt_of_le hi h.size) (fun ht => by rcases hT i ht with h1 | h1; exact hs h1; omega)).trans (h.block i hi hs)⟩

/-- A slice shows these blocks, four cells each. -/
def Bks (w : World) (ao : Option Addr) (xs : List Bk) : Prop := ∀ i (h : i < xs.length), ∃ b off, ao = some ⟨b, off, none⟩ ∧
  w.cell? ⟨b, off + i * 4, none⟩ = some (.int .i64 xs[i].ver) ∧ w.cell? ⟨b, off + i * 4 + 1, none⟩ = some (.int .i64 xs[i].mbal) ∧ w.cell? ⟨b, off + i * 4 + 2, none⟩ = some (.int .i64 xs[i].bal) ∧ w.cell? ⟨b, off + i * 4 + 3, none⟩ = some (.int .i64 xs[i].inp)
theorem Bks.below {w w' : World} {ao : Option Addr} {xs : List Bk} (h : Bks w ao xs) (hb : Below w.heap.size w w') : Bks w' ao xs := fun i hi => by
  obtain ⟨b, off, e, h0, h1, h2, h3⟩ := h i hi
  exact ⟨b, off, e, (hb.cell (p := ⟨b, off + i * 4, none⟩) (World.block_lt_of_cell? _ _ h0)).trans h0, (hb.cell (p := ⟨b, off + i * 4 + 1, none⟩) (World.block_lt_of_cell? _ _ h1)).trans h1, (hb.cell (p := ⟨b, off + i * 4 + 2, none⟩) (World.block_lt_of_cell? _ _ h2)).trans h2, (hb.cell (p := ⟨b, off + i * 4 + 3, none⟩) (World.block_lt_of_cell? _ _ h3)).trans h3⟩
def bksV (xs : List Bk) : List Value := xs.flatMap fun x => [.int .i64 x.ver, .int .i64 x.mbal, .int .i64 x.bal, .int .i64 x.inp]
theorem bksV_cons (x : Bk) (xs : List Bk) : bksV (x :: xs) = [.int .i64 x.ver, .int .i64 x.mbal, .int .i64 x.bal, .int .i64 x.inp] ++ bksV xs := rfl
theorem bksV_append (xs ys : List Bk) : bksV (xs ++ ys) = bksV xs ++ bksV ys := by simp [bksV]
theorem bksV_length (xs : List Bk) : (bksV xs).length = xs.length * 4 := by
  induction xs with
  | nil => rfl
  | cons x xs ih => simp only [bksV, List.flatMap_cons, List.length_append, List.length_cons, List.length_nil] at ih ⊢; omega
theorem bksV_get : ∀ {xs : List Bk} {i : Nat} (h : i < xs.length), (bksV xs)[i * 4]? = some (.int .i64 xs[i].ver) ∧ (bksV xs)[i * 4 + 1]? = some (.int .i64 xs[i].mbal) ∧ (bksV xs)[i * 4 + 2]? = some (.int .i64 xs[i].bal) ∧ (bksV xs)[i * 4 + 3]? = some (.int .i64 xs[i].inp)
  | [], _, h => absurd h (Nat.not_lt_zero _)
  | x :: xs, 0, _ => by simp [bksV_cons]
  | x :: xs, i + 1, h => by
    have ih := bksV_get (xs := xs) (i := i) (by simpa using h)
    rw [bksV_cons, show (i + 1) * 4 = i * 4 + 4 by omega]
    refine ⟨?_, ?_, ?_, ?_⟩
    · rw [List.getElem?_append_right (by simp)]; simpa using ih.1
    · rw [List.getElem?_append_right (by simp)]; simpa [Nat.add_right_comm] using ih.2.1
    · rw [List.getElem?_append_right (by simp)]; simpa [Nat.add_right_comm] using ih.2.2.1
    · rw [List.getElem?_append_right (by simp)]; simpa [Nat.add_right_comm] using ih.2.2.2
theorem bksV_set : ∀ {xs : List Bk} {i : Nat} (h : i < xs.length) (y : Bk), ((((bksV xs).set (i * 4) (.int .i64 y.ver)).set (i * 4 + 1) (.int .i64 y.mbal)).set (i * 4 + 2) (.int .i64 y.bal)).set (i * 4 + 3) (.int .i64 y.inp) = bksV (xs.set i y)
  | [], _, h, _ => absurd h (Nat.not_lt_zero _)
  | x :: xs, 0, _, y => by simp [bksV_cons]
  | x :: xs, i + 1, h, y => by
    have ih := bksV_set (xs := xs) (i := i) (by simpa using h) y
    rw [bksV_cons, List.set_cons_succ, bksV_cons, ← ih, show (i + 1) * 4 = i * 4 + 4 by omega]
    simp [List.set_cons_succ]
theorem bksV_one (xs : List Bk) : ∀ v ∈ bksV xs, v.oneCell' = true := by
  intro v hv
  simp only [bksV, List.mem_flatMap] at hv
  obtain ⟨x, _, hv⟩ := hv
  simp at hv
  rcases hv with rfl | rfl | rfl | rfl <;> rfl
theorem ownBks {w : World} {B e cap : Nat} {ao : Option Addr} {xs : List Bk} (h : OwnR w B e 4 (.slice ao xs.length cap) xs.length (bksV xs)) : Bks w ao xs := by
  rcases h with ⟨h0, _, _⟩ | ⟨h0, h⟩
  · intro i hi; omega
  rcases h.2 with ⟨e0, h0'⟩ | ⟨g, cap, cur, e0, hb, hg, hnc, hcm, hcs, ht⟩
  · omega
  · simp only [Value.slice.injEq, true_and] at e0
    obtain ⟨rfl, rfl⟩ := e0
    have g4 := fun i (hi : i < xs.length) => bksV_get hi
    refine fun i hi => ⟨g, 0, rfl, ?_, ?_, ?_, ?_⟩
    · rw [Nat.zero_add, h.cellAt _ (by omega)]; exact (g4 i hi).1
    · rw [Nat.zero_add, h.cellAt _ (by omega)]; exact (g4 i hi).2.1
    · rw [Nat.zero_add, h.cellAt _ (by omega)]; exact (g4 i hi).2.2.1
    · rw [Nat.zero_add, h.cellAt _ (by omega)]; exact (g4 i hi).2.2.2
theorem Bks.at {w : World} {ao : Option Addr} {xs : List Bk} (h : Bks w ao xs) (hp : 0 < xs.length) : ∃ b off, ao = some ⟨b, off, none⟩ ∧ b < w.heap.size ∧ ∀ j v, (bksV xs)[j]? = some v → w.cell? (Addr.add ⟨b, off, none⟩ j) = some v := by
  obtain ⟨b, off, rfl, h0, _⟩ := h 0 hp
  refine ⟨b, off, rfl, World.block_lt_of_cell? _ _ h0, fun j v hv => ?_⟩
  have hj : j < xs.length * 4 := by have := (List.getElem?_eq_some_iff.1 hv).1; rwa [bksV_length] at this
  obtain ⟨b', off', e, c0, c1, c2, c3⟩ := h (j / 4) (by omega)
  simp only [Option.some.injEq, Addr.mk.injEq, and_true] at e
  obtain ⟨rfl, rfl⟩ := e
  obtain ⟨g0, g1, g2, g3⟩ := bksV_get (xs := xs) (i := j / 4) (by omega)
  rw [show Addr.add ⟨b, off, none⟩ j = ⟨b, off + j, none⟩ from by unfold Addr.add; split <;> simp_all]
  rcases (show j = j / 4 * 4 ∨ j = j / 4 * 4 + 1 ∨ j = j / 4 * 4 + 2 ∨ j = j / 4 * 4 + 3 by omega) with e | e | e | e
  · rw [e] at hv ⊢; rw [g0] at hv; cases hv; exact c0
  · rw [e] at hv ⊢; rw [g1] at hv; cases hv; exact c1
  · rw [e] at hv ⊢; rw [g2] at hv; cases hv; exact c2
  · rw [e] at hv ⊢; rw [g3] at hv; cases hv; exact c3
theorem Bks.src {w : World} {ao : Option Addr} {xs : List Bk} (h : Bks w ao xs) : 0 < xs.length → ∃ ad, ao = some ad ∧ ∀ j u, (bksV xs)[j]? = some u → w.cell? (ad.add j) = some u := fun hp => by
  obtain ⟨b, off, rfl, _, hc⟩ := h.at hp
  exact ⟨_, rfl, hc⟩
/-- The element at a place, its address and its cells. -/
theorem Bks.get {w : World} {ao : Option Addr} {xs : List Bk} (h : Bks w ao xs) (i : Nat) (hi : i < xs.length) : ∃ b off, ao = some ⟨b, off, none⟩ ∧ b < w.heap.size ∧ w.cell? ⟨b, off + i * 4, none⟩ = some (.int .i64 (xs.getD i bk0).ver) ∧ w.cell? ⟨b, off + i * 4 + 1, none⟩ = some (.int .i64 (xs.getD i bk0).mbal) ∧ w.cell? ⟨b, off + i * 4 + 2, none⟩ = some (.int .i64 (xs.getD i bk0).bal) ∧ w.cell? ⟨b, off + i * 4 + 3, none⟩ = some (.int .i64 (xs.getD i bk0).inp) := by
  obtain ⟨b, off, e, h0, h1, h2, h3⟩ := h i hi
  have : xs.getD i bk0 = xs[i] := by simp [hi]
  rw [this]
  exact ⟨b, off, e, World.block_lt_of_cell? _ _ h0, h0, h1, h2, h3⟩

/-- What a call on a block has brought, in a variable. -/
structure Got (W0 W : World) (C : Nat) (t : TypeId) (b : Bk) : Prop where
  k : Below W0.heap.size W0 W
  v : VarB W C t b
  gt : W0.heap.size ≤ C
theorem Got.top {W0 W : World} (t : TypeId) (b : Bk) (h : Below W0.heap.size W0 W) : Got W0 (W.alloc (.cells #[.int .i64 b.ver, .int .i64 b.mbal, .int .i64 b.bal, .int .i64 b.inp] t)) W.heap.size t b :=
  ⟨fr h (Joins.below_alloc1 _ _), VarB.new _ _ _, h.size⟩
theorem VarB.put {w : World} {x t : Nat} {b : Bk} (k : VarB w x t b) (q : Bk) : VarB ((((w.setCell ⟨x, 0, none⟩ (.int .i64 q.ver)).setCell ⟨x, 1, none⟩ (.int .i64 q.mbal)).setCell ⟨x, 2, none⟩ (.int .i64 q.bal)).setCell ⟨x, 3, none⟩ (.int .i64 q.inp)) x t q := set_heap (i := 3) (set_heap (i := 2) (set_heap (i := 1) (set_heap (i := 0) k _) _) _) _
theorem Got.set {W0 W : World} {t : TypeId} {b : Bk} {C : Nat} (b0 : Bk) (h : Below W0.heap.size W0 W) (hv : VarB W C t b0) (hC : W0.heap.size ≤ C) : Got W0 ((((W.setCell ⟨C, 0, none⟩ (.int .i64 b.ver)).setCell ⟨C, 1, none⟩ (.int .i64 b.mbal)).setCell ⟨C, 2, none⟩ (.int .i64 b.bal)).setCell ⟨C, 3, none⟩ (.int .i64 b.inp)) C t b :=
  ⟨below4 h hC 0 1 2 3 _ _ _ _, hv.put b, hC⟩

end Go.Proofs.Ytdfinapjgffjiaa

/- Plain: what is right of a ballot, limb by limb. -/
namespace Go.Proofs.Ytdfinapjgffjiaa
set_option linter.unusedVariables false
theorem pxB_1 {p : Pxs} (e : inB p.host 0 3 = false) : pxB p = false := by simp [pxB, e]
theorem pxB_2 {p : Pxs} (e : inB p.ver 0 1000000 = false) : pxB p = false := by simp [pxB, e]
theorem pxB_3 {p : Pxs} (e : inB p.phase 1 6 = false) : pxB p = false := by simp [pxB, e]
theorem pxB_4 {p : Pxs} (e : inB p.ballot 1 1000000 = false) : pxB p = false := by simp [pxB, e]
theorem pxB_5 {p : Pxs} (e : ¬ p.ballot % 4 = p.host) : pxB p = false := by simp [pxB, e]
theorem pxB_6 {p : Pxs} (e : numB p.value = false) : pxB p = false := by simp [pxB, e]
theorem pxB_7 {p : Pxs} (e : inB p.next 0 4 = false) : pxB p = false := by simp [pxB, e]
theorem pxB_8 {p : Pxs} (e : numB p.best = false) : pxB p = false := by simp [pxB, e]
theorem pxB_9 {p : Pxs} (e1 : inB p.host 0 3 = true) (e2 : inB p.ver 0 1000000 = true) (e3 : inB p.phase 1 6 = true) (e4 : inB p.ballot 1 1000000 = true) (e5 : p.ballot % 4 = p.host) (e6 : numB p.value = true) (e7 : inB p.next 0 4 = true) (e8 : numB p.best = true) : pxB p = inB p.bestBal 0 1000000 := by simp [pxB, e1, e2, e3, e4, e5, e6, e7, e8]
def baB (b h : Int) : Bool := inB b 1 1000000 && decide (b % 4 = h)
theorem pxB_ba {p : Pxs} (e : baB p.ballot p.host = false) : pxB p = false := by
  simp only [baB, Bool.and_eq_false_iff] at e
  rcases e with e | e
  · exact pxB_4 e
  · exact pxB_5 (by simpa using e)
theorem pxB_9b {p : Pxs} (e1 : inB p.host 0 3 = true) (e2 : inB p.ver 0 1000000 = true) (e3 : inB p.phase 1 6 = true) (e4 : baB p.ballot p.host = true) (e6 : numB p.value = true) (e7 : inB p.next 0 4 = true) (e8 : numB p.best = true) : pxB p = inB p.bestBal 0 1000000 := by
  simp only [baB, Bool.and_eq_true, decide_eq_true_eq] at e4
  exact pxB_9 e1 e2 e3 e4.1 e4.2 e6 e7 e8
theorem ball_mod {b : Int} (h : inB b 1 1000000 = true) : Int.tmod b 4 = b % 4 := by
  simp only [inB, Bool.and_eq_true, decide_eq_true_eq] at h
  exact Int.tmod_eq_emod_of_nonneg (by omega)
theorem ret_pi {a b : Pxs} {x y : Int} (h : a = b) (k : x = y) : Go.Ending.returned (.tuple #[pV a, .int .i64 x]) = .returned (.tuple #[pV b, .int .i64 y]) := by rw [h, k]
/-- What PxStart answers. -/
def ps0 (h v b x : Int) : Pxs := ⟨h, v, 1, b, x, 0, 0, 0⟩
def psP (h v b x : Int) : Pxs := if pxB (ps0 h v b x) = true then ps0 h v b x else p00
def psC (h v b x : Int) : Int := if pxB (ps0 h v b x) = true then 0 else 4
end Go.Proofs.Ytdfinapjgffjiaa

/- Plain: lists of blocks that are right; what a step and the next ballot answer. -/
namespace Go.Proofs.Ytdfinapjgffjiaa
set_option linter.unusedVariables false
def bksB (xs : List Bk) : Bool := decide (xs.length = 4) && xs.all bkB
theorem bksB_true {xs : List Bk} (h : xs.length = 4) (ha : ∀ j (h : j < xs.length), bkB xs[j] = true) : bksB xs = true := by
  unfold bksB
  rw [all_of (p := bkB) (fun i hi _ => ha i hi)]
  simp [h]
theorem bksB_len {xs : List Bk} (ha : ∀ j (h : j < xs.length), bkB xs[j] = true) : bksB xs = decide (xs.length = 4) := by
  unfold bksB
  rw [all_of (p := bkB) (fun i hi _ => ha i hi)]
  simp
theorem bksB_false_len {xs : List Bk} (h : ¬ xs.length = 4) : bksB xs = false := by simp [bksB, h]
theorem bksB_false_at {xs : List Bk} {k : Nat} (hk : k < xs.length) (h : bkB xs[k] = false) : bksB xs = false := by
  unfold bksB
  rw [all_not (p := bkB) hk h]
  simp
theorem bksB_parts {xs : List Bk} (h : bksB xs = true) : xs.length = 4 ∧ ∀ i, i < xs.length → bkB (xs.getD i bk0) = true := by
  unfold bksB at h
  simp only [Bool.and_eq_true, decide_eq_true_eq, List.all_eq_true] at h
  refine ⟨h.1, fun i hi => ?_⟩
  have : xs.getD i bk0 = xs[i] := by simp [hi]
  rw [this]
  exact h.2 _ (List.getElem_mem hi)
/-- The fault of blocks. -/
def bfC (xs : List Bk) : Int := if 4096 < xs.length then 2 else if bksB xs = true then 0 else 1
theorem bfC_long {xs : List Bk} (h : 4096 < xs.length) : bfC xs = 2 := if_pos h
theorem bfC_ok {xs : List Bk} (h : ¬ 4096 < xs.length) (hb : bksB xs = true) : bfC xs = 0 := by rw [bfC, if_neg h, if_pos hb]
theorem bfC_bad {xs : List Bk} (h : ¬ 4096 < xs.length) (hb : bksB xs = false) : bfC xs = 1 := by rw [bfC, if_neg h, if_neg (by simp [hb])]
/-- What PxStep answers. -/
def stOK (p : Pxs) (xs : List Bk) : Bool := decide (¬ 4096 < xs.length) && (pxB p && bksB xs)
def stEnd (p : Pxs) : Int := if p.phase = 5 ∨ p.phase = 6 then 15 else 0
def stC (p : Pxs) (xs : List Bk) : Int := if 4096 < xs.length then 2 else if (pxB p && bksB xs) = true then stEnd p else 1
def stP (p : Pxs) (xs : List Bk) : Pxs := if stOK p xs = true then (pxStepP p xs).1 else p00
def stL (p : Pxs) (xs : List Bk) : List Bk := if stOK p xs = true then (pxStepP p xs).2 else []
theorem st_long {p : Pxs} {xs : List Bk} (h : 4096 < xs.length) : stP p xs = p00 ∧ stL p xs = [] ∧ stC p xs = 2 := by
  have e : stOK p xs = false := by simp [stOK]; intro h'; omega
  exact ⟨if_neg (by simp [e]), if_neg (by simp [e]), if_pos h⟩
theorem st_bad {p : Pxs} {xs : List Bk} (h : ¬ 4096 < xs.length) (hb : (pxB p && bksB xs) = false) : stP p xs = p00 ∧ stL p xs = [] ∧ stC p xs = 1 := by
  have e : stOK p xs = false := by rw [stOK, hb]; simp
  exact ⟨if_neg (by simp [e]), if_neg (by simp [e]), by rw [stC, if_neg h, if_neg (by simp [hb])]⟩
theorem st_ok {p : Pxs} {xs : List Bk} (h : ¬ 4096 < xs.length) (h1 : pxB p = true) (h2 : bksB xs = true) : stP p xs = (pxStepP p xs).1 ∧ stL p xs = (pxStepP p xs).2 ∧ stC p xs = stEnd p := by
  have e : stOK p xs = true := by simp [stOK, h1, h2]; omega
  exact ⟨if_pos e, if_pos e, by rw [stC, if_neg h, if_pos (by rw [h1, h2]; rfl)]⟩
/-- What NextBallot answers. -/
def nbC (h v : Int) (xs : List Bk) : Int := if bfC xs ≠ 0 then bfC xs else if (inB h 0 3 && inB v 0 1000000) = true then (if 1000000 < nxBal h v xs then 6 else 0) else 4
def nbN (h v : Int) (xs : List Bk) : Int := if nbC h v xs = 0 then nxBal h v xs else 0
theorem nb_fault {h v : Int} {xs : List Bk} (e : bfC xs ≠ 0) : nbN h v xs = 0 ∧ nbC h v xs = bfC xs := by
  have hc : nbC h v xs = bfC xs := if_pos e
  exact ⟨by rw [nbN, if_neg (by rw [hc]; exact e)], hc⟩
theorem nb_range {h v : Int} {xs : List Bk} (e : bfC xs = 0) (hr : (inB h 0 3 && inB v 0 1000000) = false) : nbN h v xs = 0 ∧ nbC h v xs = 4 := by
  have hc : nbC h v xs = 4 := by rw [nbC, if_neg (by simp [e]), if_neg (by simp [hr])]
  exact ⟨by rw [nbN, if_neg (by rw [hc]; decide)], hc⟩
theorem nb_many {h v : Int} {xs : List Bk} (e : bfC xs = 0) (h1 : inB h 0 3 = true) (h2 : inB v 0 1000000 = true) (hm : 1000000 < nxBal h v xs) : nbN h v xs = 0 ∧ nbC h v xs = 6 := by
  have hc : nbC h v xs = 6 := by rw [nbC, if_neg (by simp [e]), if_pos (by rw [h1, h2]; rfl), if_pos hm]
  exact ⟨by rw [nbN, if_neg (by rw [hc]; decide)], hc⟩
theorem nb_ok {h v : Int} {xs : List Bk} (e : bfC xs = 0) (h1 : inB h 0 3 = true) (h2 : inB v 0 1000000 = true) (hm : ¬ 1000000 < nxBal h v xs) : nbN h v xs = nxBal h v xs ∧ nbC h v xs = 0 := by
  have hc : nbC h v xs = 0 := by rw [nbC, if_neg (by simp [e]), if_pos (by rw [h1, h2]; rfl), if_neg hm]
  exact ⟨if_pos hc, hc⟩
theorem bfC_zero {xs : List Bk} (h : bfC xs = 0) : bksB xs = true := by
  unfold bfC at h
  split at h
  · cases h
  · split at h
    · assumption
    · cases h
theorem bkOf_mbal (b : Bk) (v : Int) : (bkOf b v).mbal = 0 ∨ (bkOf b v).mbal = b.mbal := by
  unfold bkOf; split
  · exact .inl rfl
  · exact .inr rfl
/-- The greatest one, place by place. -/
theorem nxMax_drop {v : Int} {xs : List Bk} {k : Nat} (hk : k < xs.length) (n : Int) : nxMax v (xs.drop k) n = nxMax v (xs.drop (k + 1)) (max n (bkOf xs[k] v).mbal) := by
  rw [List.drop_eq_getElem_cons hk]; rfl
theorem nxMax_done {v : Int} {xs : List Bk} {k : Nat} (hk : ¬ k < xs.length) (n : Int) : nxMax v (xs.drop k) n = n := by
  rw [List.drop_of_length_le (by omega)]; rfl
theorem nx_form (n h : Int) (hn : 0 ≤ n) : (Int.tdiv n 4 + 1) * 4 + h = (n / 4 + 1) * 4 + h := by rw [Int.tdiv_eq_ediv_of_nonneg hn]
end Go.Proofs.Ytdfinapjgffjiaa

/- Plain: steps and runs keep ballots and blocks right; how a run's state is kept by the program, which has zeroes for hosts that have not begun. -/
namespace Go.Proofs.Ytdfinapjgffjiaa
set_option linter.unusedVariables false
theorem bkOf_right {b : Bk} {v : Int} (h : bkB b = true) (hv : 0 ≤ v ∧ v ≤ 1000000) : bkB (bkOf b v) = true := by
  unfold bkOf
  split
  · exact bkB_iff.2 ⟨hv, (by decide : (0 : Int) ≤ 0 ∧ (0 : Int) ≤ 1000000), (by decide : (0 : Int) ≤ 0 ∧ (0 : Int) ≤ 0), (by decide : (0 : Int) ≤ 0 ∧ (0 : Int) ≤ 2147483647), .inr rfl⟩
  · exact h
theorem skip_le {p : Pxs} {n : Int} (hh : 0 ≤ p.host ∧ p.host ≤ 3) (h0 : 0 ≤ n) (h4 : n ≤ 4) : 0 ≤ skip p n ∧ skip p n ≤ 4 := by unfold skip; split <;> omega
theorem look_right {p : Pxs} {b : Bk} (hp : pxB p = true) (hn : p.next < 4) (hb : bkB b = true) : pxB (pxLook p b) = true := by
  obtain ⟨h1, h2, h3, h4, h5, h6, h7, h8, h9⟩ := pxB_iff.1 hp
  obtain ⟨_, b2, b3, b4, _⟩ := bkB_iff.1 hb
  refine pxB_iff.2 ⟨h1, h2, h3, h4, h5, h6, skip_le h1 (by omega) (by omega), ?_, ?_⟩
  · show 0 ≤ (if p.phase = 2 ∧ p.bestBal < b.bal then b.inp else p.best) ∧ (if p.phase = 2 ∧ p.bestBal < b.bal then b.inp else p.best) ≤ 2147483647
    split
    · exact b4
    · exact h8
  · show 0 ≤ (if p.phase = 2 ∧ p.bestBal < b.bal then b.bal else p.bestBal) ∧ (if p.phase = 2 ∧ p.bestBal < b.bal then b.bal else p.bestBal) ≤ 1000000
    split
    · omega
    · exact h9
theorem end_right {p : Pxs} (hp : pxB p = true) : pxB (pxEnd p) = true := by
  obtain ⟨h1, h2, h3, h4, h5, h6, h7, h8, h9⟩ := pxB_iff.1 hp
  unfold pxEnd
  split
  · exact hp
  · split
    · exact pxB_iff.2 ⟨h1, h2, (by decide : (1 : Int) ≤ 5 ∧ (5 : Int) ≤ 6), h4, h5, h6, h7, h8, h9⟩
    · refine pxB_iff.2 ⟨h1, h2, (by decide : (1 : Int) ≤ 3 ∧ (3 : Int) ≤ 6), h4, h5, ?_, h7, h8, h9⟩
      show 0 ≤ (if 0 < p.bestBal then p.best else p.value) ∧ (if 0 < p.bestBal then p.best else p.value) ≤ 2147483647
      split
      · exact h8
      · exact h6
theorem rd_right {p : Pxs} {bs : List Bk} (hp : pxB p = true) (hb : bksB bs = true) : pxB (pxRd p bs) = true := by
  obtain ⟨h1, h2, h3, h4, h5, h6, h7, h8, h9⟩ := pxB_iff.1 hp
  obtain ⟨hl, hr⟩ := bksB_parts hb
  have hs := skip_le h1 h7.1 h7.2
  have hq : pxB { p with next := skip p p.next } = true := pxB_iff.2 ⟨h1, h2, h3, h4, h5, h6, hs, h8, h9⟩
  have e : pxRd p bs = (if skip p p.next < 4 then (if p.ver < (bkOf (bs.getD (skip p p.next).toNat bk0) p.ver).ver ∨ p.ballot < (bkOf (bs.getD (skip p p.next).toNat bk0) p.ver).mbal then { p with next := skip p p.next, phase := 6 } else pxEnd (pxLook { p with next := skip p p.next } (bkOf (bs.getD (skip p p.next).toNat bk0) p.ver))) else pxEnd { p with next := skip p p.next }) := rfl
  rw [e]
  by_cases hn : skip p p.next < 4
  · rw [if_pos hn]
    have hbk : bkB (bkOf (bs.getD (skip p p.next).toNat bk0) p.ver) = true := bkOf_right (hr _ (by omega)) h2
    by_cases ha : p.ver < (bkOf (bs.getD (skip p p.next).toNat bk0) p.ver).ver ∨ p.ballot < (bkOf (bs.getD (skip p p.next).toNat bk0) p.ver).mbal
    · rw [if_pos ha]
      exact pxB_iff.2 ⟨h1, h2, (by decide : (1 : Int) ≤ 6 ∧ (6 : Int) ≤ 6), h4, h5, h6, hs, h8, h9⟩
    · rw [if_neg ha]
      exact end_right (look_right hq hn hbk)
  · rw [if_neg hn]
    exact end_right hq
theorem set_right {bs : List Bk} {k : Nat} {y : Bk} (hb : bksB bs = true) (hy : bkB y = true) : bksB (bs.set k y) = true := by
  unfold bksB at hb ⊢
  simp only [Bool.and_eq_true, decide_eq_true_eq, List.all_eq_true] at hb ⊢
  refine ⟨by rw [List.length_set]; exact hb.1, fun x hx => ?_⟩
  rcases List.mem_or_eq_of_mem_set hx with h | h
  · exact hb.2 x h
  · rw [h]; exact hy
/-- A step of a right ballot on right blocks leaves them right. -/
theorem px_right {p : Pxs} {bs : List Bk} (hp : pxB p = true) (hb : bksB bs = true) : pxB (pxStepP p bs).1 = true ∧ bksB (pxStepP p bs).2 = true := by
  obtain ⟨h1, h2, h3, h4, h5, h6, h7, h8, h9⟩ := pxB_iff.1 hp
  obtain ⟨hl, hr⟩ := bksB_parts hb
  unfold pxStepP
  split
  · exact ⟨hp, hb⟩
  · split
    · exact ⟨rd_right hp hb, hb⟩
    · have ho : bkB (pxOwn p bs) = true := bkOf_right (hr _ (by omega)) h2
      obtain ⟨b1, b2, b3, b4, b5⟩ := bkB_iff.1 ho
      split
      · exact ⟨pxB_iff.2 ⟨h1, h2, (by decide : (1 : Int) ≤ 6 ∧ (6 : Int) ≤ 6), h4, h5, h6, h7, h8, h9⟩, hb⟩
      · rename_i hno
        refine ⟨?_, set_right hb ?_⟩
        · show pxB (pxW1 p (pxOwn p bs)) = true
          unfold pxW1
          split
          · exact pxB_iff.2 ⟨h1, h2, (by decide : (1 : Int) ≤ 2 ∧ (2 : Int) ≤ 6), h4, h5, h6, (by decide : (0 : Int) ≤ 0 ∧ (0 : Int) ≤ 4), b4, by show 0 ≤ (pxOwn p bs).bal ∧ (pxOwn p bs).bal ≤ 1000000; omega⟩
          · exact pxB_iff.2 ⟨h1, h2, (by decide : (1 : Int) ≤ 4 ∧ (4 : Int) ≤ 6), h4, h5, h6, (by decide : (0 : Int) ≤ 0 ∧ (0 : Int) ≤ 4), h8, h9⟩
        · unfold pxW2
          split
          · refine bkB_iff.2 ⟨h2, by show 0 ≤ p.ballot ∧ p.ballot ≤ 1000000; omega, ?_, b4, b5⟩
            show 0 ≤ (pxOwn p bs).bal ∧ (pxOwn p bs).bal ≤ p.ballot
            have : ¬ p.ballot < (pxOwn p bs).mbal := fun h => hno (.inr (.inl h))
            omega
          · exact bkB_iff.2 ⟨h2, by show 0 ≤ p.ballot ∧ p.ballot ≤ 1000000; omega, by show 0 ≤ p.ballot ∧ p.ballot ≤ p.ballot; omega, h6, .inl (by show 0 < p.ballot; omega)⟩

/-- What holds in a run of right values. -/
structure RunR (vs : List Int) (m : Int) (st : List Pxs × List Bk) : Prop where
  g : Good vs m st
  b : bksB st.2 = true
  h : ∀ q, q < 4 → (hsOf st.1 q).phase = 6 ∨ pxB (hsOf st.1 q) = true
def vsB (vs : List Int) : Prop := ∀ q, q < 4 → 0 ≤ vs.getD q 0 ∧ vs.getD q 0 ≤ 2147483647
theorem runR0 (vs : List Int) : RunR vs 0 (run0 vs) := by
  refine ⟨good0 vs, by rfl, fun q hq => .inl ?_⟩
  rcases (show q = 0 ∨ q = 1 ∨ q = 2 ∨ q = 3 by omega) with rfl | rfl | rfl | rfl <;> rfl
theorem RunR.mb {vs : List Int} {m : Int} {st : List Pxs × List Bk} (r : RunR vs m st) (i : Nat) (hi : i < st.2.length) : (bkOf (st.2.getD i bk0) 0).mbal ≤ max m 0 := by
  have := r.g.mb i (by rw [← r.g.lb]; exact hi)
  rcases bkOf_mbal (st.2.getD i bk0) 0 with e | e
  · rw [e]; omega
  · rw [e]; have h2 : (st.2.getD i bk0).mbal ≤ m := this; omega
/-- The ballot that a host begins with. -/
theorem RunR.fresh {vs : List Int} {m : Int} {st : List Pxs × List Bk} (r : RunR vs m st) (hv : vsB vs) (h0 : 0 ≤ m) (hm : m ≤ 900000) {h : Nat} (hh : h < 4) : pxB (ps0 h 0 (nxBal h 0 st.2) (vs.getD h 0)) = true ∧ nxBal h 0 st.2 ≤ 1000000 := by
  have h1 := nxBal_le hh 0 m h0 (bs := st.2) (fun i hi => by have := r.mb i hi; omega)
  have h2 := nxBal_mod st.2 hh 0
  have h3 : 0 < nxBal h 0 st.2 := by
    have := nxMax_ge 0 st.2 0
    unfold nxBal
    have e : Int.tdiv (nxMax 0 st.2 0) 4 = nxMax 0 st.2 0 / 4 := Int.tdiv_eq_ediv_of_nonneg this
    omega
  have := hv h hh
  exact ⟨pxB_iff.2 ⟨by show (0 : Int) ≤ h ∧ (h : Int) ≤ 3; omega, (by decide : (0 : Int) ≤ 0 ∧ (0 : Int) ≤ 1000000), (by decide : (1 : Int) ≤ 1 ∧ (1 : Int) ≤ 6), by show 1 ≤ nxBal h 0 st.2 ∧ nxBal h 0 st.2 ≤ 1000000; omega, h2, this, (by decide : (0 : Int) ≤ 0 ∧ (0 : Int) ≤ 4), (by decide : (0 : Int) ≤ 0 ∧ (0 : Int) ≤ 2147483647), (by decide : (0 : Int) ≤ 0 ∧ (0 : Int) ≤ 1000000)⟩, by omega⟩
/-- What the host of a turn steps with. -/
def stepWith (vs : List Int) (st : List Pxs × List Bk) (h : Nat) : Pxs := if (hsOf st.1 h).phase = 6 then ps0 h 0 (nxBal h 0 st.2) (vs.getD h 0) else hsOf st.1 h
theorem runAt_eq (vs : List Int) (st : List Pxs × List Bk) (h : Nat) : runAt vs st h = (st.1.set h (pxStepP (stepWith vs st h) st.2).1, (pxStepP (stepWith vs st h) st.2).2) := rfl
theorem RunR.with {vs : List Int} {m : Int} {st : List Pxs × List Bk} (r : RunR vs m st) (hv : vsB vs) (h0 : 0 ≤ m) (hm : m ≤ 900000) {h : Nat} (hh : h < 4) : pxB (stepWith vs st h) = true := by
  unfold stepWith
  split
  · exact (r.fresh hv h0 hm hh).1
  · rename_i hn
    rcases r.h h hh with e | e
    · exact absurd e hn
    · exact e
theorem RunR.step {vs : List Int} {m : Int} {st : List Pxs × List Bk} (r : RunR vs m st) (hv : vsB vs) (h0 : 0 ≤ m) (hm : m ≤ 900000) {h : Nat} (hh : h < 4) : RunR vs (m + 7) (runAt vs st h) := by
  obtain ⟨p1, p2⟩ := px_right (r.with hv h0 hm hh) r.b
  refine ⟨r.g.step hh, ?_, fun q hq => ?_⟩
  · rw [runAt_eq]; exact p2
  · rw [runAt_eq, hsOf_set _ (by rw [r.g.lh]; exact hh)]
    by_cases e : q = h
    · subst e; rw [upd_same]; exact .inr p1
    · rw [upd_other _ _ e]; exact r.h q hq
theorem run_app (vs : List Int) : ∀ (l r : List Nat) (st : List Pxs × List Bk), run vs (l ++ r) st = run vs r (run vs l st)
  | [], r, st => rfl
  | h :: l, r, st => run_app vs l r (runAt vs st h)
/-- A schedule's first hosts, as numbers. -/
def hostsN (sc : List Int) (k : Nat) : List Nat := (sc.take k).map Int.toNat
theorem hostsN_succ {sc : List Int} {k : Nat} (hk : k < sc.length) : hostsN sc (k + 1) = hostsN sc k ++ [sc[k].toNat] := by
  unfold hostsN
  rw [List.take_add_one, List.map_append]
  simp [hk]
theorem run_succ {vs sc : List Int} {k : Nat} (hk : k < sc.length) (st : List Pxs × List Bk) : run vs (hostsN sc (k + 1)) st = runAt vs (run vs (hostsN sc k) st) sc[k].toNat := by
  rw [hostsN_succ hk, run_app]; rfl
theorem runR_all {vs sc : List Int} (hv : vsB vs) (hs : ∀ j (hj : j < sc.length), 0 ≤ sc[j] ∧ sc[j] ≤ 3) (hl : sc.length ≤ 4096) : ∀ k, k ≤ sc.length → RunR vs (7 * k) (run vs (hostsN sc k) (run0 vs))
  | 0, _ => runR0 vs
  | k + 1, hk => by
    rw [run_succ (by omega)]
    have := (runR_all hv hs hl k (by omega)).step hv (by omega) (by omega) (h := sc[k].toNat) (by have := hs k (by omega); omega)
    have e : (7 : Int) * ((k + 1 : Nat) : Int) = 7 * (k : Int) + 7 := by omega
    rw [e]; exact this
/-- How the program keeps hosts: zeroes for who has not begun. -/
def Alike (qs ps : List Pxs) : Prop := qs.length = 4 ∧ ∀ i, i < 4 → hsOf qs i = hsOf ps i ∨ ((hsOf qs i).phase = 0 ∧ (hsOf ps i).phase = 6)
theorem alike0 (vs : List Int) : Alike [p00, p00, p00, p00] (run0 vs).1 := by
  refine ⟨rfl, fun i hi => .inr ?_⟩
  rcases (show i = 0 ∨ i = 1 ∨ i = 2 ∨ i = 3 by omega) with rfl | rfl | rfl | rfl <;> exact ⟨rfl, rfl⟩
theorem Alike.set {qs ps : List Pxs} (h : Alike qs ps) (hl : ps.length = 4) {k : Nat} (hk : k < 4) (x : Pxs) : Alike (qs.set k x) (ps.set k x) := by
  refine ⟨by rw [List.length_set]; exact h.1, fun i hi => ?_⟩
  rw [hsOf_set _ (by rw [h.1]; exact hk), hsOf_set _ (by rw [hl]; exact hk)]
  by_cases e : i = k
  · subst e; rw [upd_same, upd_same]; exact .inl rfl
  · rw [upd_other _ _ e, upd_other _ _ e]; exact h.2 i hi
theorem Alike.told {qs ps : List Pxs} (h : Alike qs ps) (hl : ps.length = 4) : told qs = told ps := by
  apply List.ext_getElem
  · simp [Go.Proofs.Ytdfinapjgffjiaa.told, h.1, hl]
  · intro i h1 h2
    have hi : i < 4 := by simpa [Go.Proofs.Ytdfinapjgffjiaa.told, h.1] using h1
    have e1 : hsOf qs i = qs[i]'(by rw [h.1]; exact hi) := by simp [hsOf, h.1, hi]
    have e2 : hsOf ps i = ps[i]'(by rw [hl]; exact hi) := by simp [hsOf, hl, hi]
    simp only [Go.Proofs.Ytdfinapjgffjiaa.told, List.getElem_map]
    rw [← e1, ← e2]
    rcases h.2 i hi with e | ⟨e, f⟩
    · rw [e]
    · rw [e, f]; simp
end Go.Proofs.Ytdfinapjgffjiaa

/- Contracts of spec's blocks: BlockOK, l05Encode, EncodeBlock, l05Decode, DecodeBlock, l05Of. -/
namespace Go.Proofs.Ytdfinapjgffjiaa
open Go.RowKit
set_option linter.unusedVariables false
set_option maxRecDepth 100000

set_option maxHeartbeats 1600000 in
theorem blockOK_spec (x : Bk) (w : World) : Calls Try.prog 52 #[bV x] w fun e w' => e = .returned (.bool (bkB x)) ∧ Below w.heap.size w w' := by
  go_enter Try.func52, Try.ntmps52
  go_wp2_with fail
  refine (l01In_num x.ver 0 1000000 _).mono ?_
  rintro e w1 ⟨rfl, rfl⟩
  by_cases h1 : inB x.ver 0 1000000 = false
  · have hr := hide (bkB_1 h1)
    go_wp2
    go_ret
    rw [unhide hr]
    exact ⟨rfl, Joins.below_alloc1 _ _⟩
  rw [Bool.not_eq_false] at h1
  go_wp2_with fail
  refine (l01In_num x.mbal 0 1000000 _).mono ?_
  rintro e w1 ⟨rfl, rfl⟩
  by_cases h2 : inB x.mbal 0 1000000 = false
  · have hr := hide (bkB_2 h2)
    go_wp2
    go_ret
    rw [unhide hr]
    exact ⟨rfl, Joins.below_alloc1 _ _⟩
  rw [Bool.not_eq_false] at h2
  go_wp2_with fail
  refine (l01In_num x.bal 0 x.mbal _).mono ?_
  rintro e w1 ⟨rfl, rfl⟩
  by_cases h3 : inB x.bal 0 x.mbal = false
  · have hr := hide (bkB_3 h3)
    go_wp2
    go_ret
    rw [unhide hr]
    exact ⟨rfl, Joins.below_alloc1 _ _⟩
  rw [Bool.not_eq_false] at h3
  go_wp2_with fail
  refine (l01In_num x.inp 0 2147483647 _).mono ?_
  rintro e w1 ⟨rfl, rfl⟩
  by_cases h4 : inB x.inp 0 2147483647 = false
  · have hr := hide (bkB_4 h4)
    go_wp2
    go_ret
    rw [unhide hr]
    exact ⟨rfl, Joins.below_alloc1 _ _⟩
  rw [Bool.not_eq_false] at h4
  have hr := hide (bkB_5 h1 h2 h3 h4)
  clear h1 h2 h3
  by_cases h5 : 0 < x.bal
  · have hv : Hid (bkB x = true) := hide (by rw [unhide hr]; simp [h5])
    go_wp2
    go_ret
    rw [unhide hv]
    exact ⟨rfl, Joins.below_alloc1 _ _⟩
  · have hv : Hid (bkB x = decide (x.inp = 0)) := hide (by rw [unhide hr]; simp [h5])
    go_wp2
    go_ret
    rw [unhide hv]
    exact ⟨ret_bool (by rw [Bool.eq_iff_iff]; simp <;> omega), Joins.below_alloc1 _ _⟩

end Go.Proofs.Ytdfinapjgffjiaa

/- Plain: worlds in which some memory is new. -/
namespace Go.Proofs.Ytdfinapjgffjiaa
open Go.RowKit
set_option linter.unusedVariables false
theorem below_w (w : World) (a b c d : Obj) : Below w.heap.size w ((((w.alloc a).alloc b).alloc c).alloc d) := fr (Joins.below_alloc2 _ _ _) (Joins.below_alloc2 _ _ _)
end Go.Proofs.Ytdfinapjgffjiaa

/- Contracts of spec's ballots: l04Host, PxOK, PxStart, l05Of, l05Write. -/
namespace Go.Proofs.Ytdfinapjgffjiaa
open Go.RowKit
set_option linter.unusedVariables false
set_option maxRecDepth 100000

theorem l04Host_px (h : Int) (w : World) : Calls Try.prog 36 #[.int .i64 h] w fun e w' => e = .returned (.bool (inB h 0 3)) ∧ w' = w := by
  go_enter Try.func36, Try.ntmps36
  go_wp2_with fail
  refine (l01In_num h 0 3 _).mono ?_
  rintro e w1 ⟨rfl, rfl⟩
  go_wp2
  go_ret
  exact ⟨rfl, rfl⟩

set_option maxHeartbeats 1600000 in
theorem l05Of_any (x : Bk) (v : Int) (w : World) : Calls Try.prog 54 #[bV x, .int .i64 v] w fun e w' => e = .returned (bV (bkOf x v)) ∧ Below w.heap.size w w' := by
  by_cases h : x.ver < v
  · rw [show bkOf x v = ⟨v, 0, 0, 0⟩ from if_pos h]
    go_enter Try.func54, Try.ntmps54
    go_wp2
    exact bodyPost_ret (v := bV ⟨v, 0, 0, 0⟩) (by simp [results, Try.results54, go_sem]) rfl ⟨rfl, Joins.below_alloc2 _ _ _⟩
  · rw [show bkOf x v = x from if_neg h]
    go_enter Try.func54, Try.ntmps54
    go_wp2
    exact bodyPost_ret (v := bV x) (by simp [results, Try.results54, go_sem]) rfl ⟨rfl, Joins.below_alloc2 _ _ _⟩

set_option maxHeartbeats 3200000 in
theorem l05Write_any (p : Pxs) (own : Bk) (w : World) : Calls Try.prog 55 #[pV p, bV own] w fun e w' => e = .returned (.tuple #[pV (pxW1 p own), bV (pxW2 p own)]) ∧ Below w.heap.size w w' := by
  by_cases h : p.phase = 1
  · rw [show pxW1 p own = { p with phase := 2, next := 0, best := own.inp, bestBal := own.bal } from if_pos h, show pxW2 p own = ⟨p.ver, p.ballot, own.bal, own.inp⟩ from if_pos h]
    go_enter Try.func55, Try.ntmps55
    go_wp2
    go_region
    go_wp2
    exact bodyPost_ret (v := .tuple #[pV { p with phase := 2, next := 0, best := own.inp, bestBal := own.bal }, bV ⟨p.ver, p.ballot, own.bal, own.inp⟩]) (by simp [results, Try.results55, go_sem]) rfl ⟨rfl, by first | exact below_w _ _ _ _ _ | exact (below_w _ _ _ _ _).drew⟩
  · rw [show pxW1 p own = { p with phase := 4, next := 0 } from if_neg h, show pxW2 p own = ⟨p.ver, p.ballot, p.ballot, p.value⟩ from if_neg h]
    go_enter Try.func55, Try.ntmps55
    go_wp2
    go_region
    go_wp2
    exact bodyPost_ret (v := .tuple #[pV { p with phase := 4, next := 0 }, bV ⟨p.ver, p.ballot, p.ballot, p.value⟩]) (by simp [results, Try.results55, go_sem]) rfl ⟨rfl, by first | exact below_w _ _ _ _ _ | exact (below_w _ _ _ _ _).drew⟩

end Go.Proofs.Ytdfinapjgffjiaa

/- Contracts of loops over blocks: spec's l05Blocks, l05Next; the program's asOf, blocksFault, greatestBegun. -/
namespace Go.Proofs.Ytdfinapjgffjiaa
open Go.RowKit
set_option linter.unusedVariables false
set_option maxRecDepth 100000

theorem fieldB1 (x : Bk) (W : World) : (Instr.field 35 (bV x) 1).run Try.prog W = .ok (.int .i64 x.mbal) W := by kernel_rfl

set_option maxHeartbeats 1600000 in
theorem l05Blocks_any (ao : Option Addr) (cap : Nat) (xs : List Bk) (w : World) (hl : xs.length ≤ 1048576) (hc : Bks w ao xs) :
    Calls Try.prog 30 #[.slice ao xs.length cap] w fun e w' => e = .returned (.bool (bksB xs)) ∧ Below w.heap.size w w' := by
  have HC := hide hc
  clear hc
  go_enter Try.func30, Try.ntmps30
  go_wp2
  go_loopw [3] (fun i wr => ∃ k : Nat, k ≤ xs.length ∧ i = .int .i64 k ∧ Hid (∀ j (h : j < xs.length), j < k → bkB xs[j] = true) ∧ Hid (Below w.heap.size w wr)) (fun i _ => xs.length - (intOf i).toNat)
  case atStart => exact ⟨0, Nat.zero_le _, rfl, hide (fun j _ h => by omega), hide (Below.refl _ _)⟩
  case round =>
    obtain ⟨k, hk, rfl, HA, HB⟩ := hrel
    by_cases hlt : k < xs.length
    · obtain ⟨b, off, rfl, c0, c1, c2, c3⟩ := (unhide HC).below (unhide HB) k hlt
      by_cases hn : bkB xs[k] = true
      · have HN := hide (all_succ (p := bkB) hlt (unhide HA) hn)
        go_wp2_with fail
        refine (blockOK_spec xs[k] _).mono ?_
        rintro e w1 ⟨rfl, hb⟩
        have HB1 := hide (fr (unhide HB) hb)
        clear hb
        go_wp2_with fail
        go_roundw
        case rel => exact ⟨k + 1, by omega, by go_num, HN, HB1⟩
        case measure => simp [intOf]; omega
      · have hn' : bkB xs[k] = false := by simpa using hn
        have HF := hide (bksB_false_at hlt hn')
        clear hn
        go_wp2_with fail
        refine (blockOK_spec xs[k] _).mono ?_
        rintro e w1 ⟨rfl, hb⟩
        have HB1 := hide (fr (unhide HB) hb)
        clear hb
        go_wp2
        go_ret
        exact ⟨ret_bool (unhide HF).symm, unhide HB1⟩
    · have HF := hide (bksB_len (xs := xs) (fun j h => unhide HA j h (by omega)))
      go_wp2
      go_ret
      exact ⟨ret_bool (by rw [unhide HF, Bool.eq_iff_iff]; simp; omega), unhide HB⟩

end Go.Proofs.Ytdfinapjgffjiaa

/- Contracts of the next ballot: spec's l05Next, NextBallot; the program's asOf, blocksFault, greatestBegun, NextBallot. -/
namespace Go.Proofs.Ytdfinapjgffjiaa
open Go.RowKit
set_option linter.unusedVariables false
set_option maxRecDepth 100000

theorem max_le {n m : Int} (h : m ≤ n) : max n m = n := by omega
theorem max_gt {n m : Int} (h : ¬ m ≤ n) : max n m = m := by omega

set_option maxHeartbeats 1600000 in
theorem asOf_any (x : Bk) (v : Int) (w : World) : Calls Try.prog 43 #[bV x, .int .i64 v] w fun e w' => e = .returned (bV (bkOf x v)) ∧ Below w.heap.size w w' := by
  by_cases h : x.ver < v
  · rw [show bkOf x v = ⟨v, 0, 0, 0⟩ from if_pos h]
    go_enter Try.func43, Try.ntmps43
    go_wp2
    exact bodyPost_ret (v := bV ⟨v, 0, 0, 0⟩) (by simp [results, Try.results43, go_sem]) rfl ⟨rfl, Joins.below_alloc2 _ _ _⟩
  · rw [show bkOf x v = x from if_neg h]
    go_enter Try.func43, Try.ntmps43
    go_wp2
    exact bodyPost_ret (v := bV x) (by simp [results, Try.results43, go_sem]) rfl ⟨rfl, Joins.below_alloc2 _ _ _⟩

set_option maxHeartbeats 1600000 in
theorem blocksFault_any (ao : Option Addr) (cap : Nat) (xs : List Bk) (w : World) (hl : xs.length ≤ 1048576) (hc : Bks w ao xs) :
    Calls Try.prog 23 #[.slice ao xs.length cap] w fun e w' => e = .returned (.int .i64 (bfC xs)) ∧ Below w.heap.size w w' := by
  have HC := hide hc
  clear hc
  by_cases h1 : 4096 < xs.length
  · have HE := hide (bfC_long h1)
    go_enter Try.func23, Try.ntmps23
    go_wp2
    go_ret
    exact ⟨ret_int (unhide HE).symm, Below.refl _ _⟩
  by_cases h4 : ¬ xs.length = 4
  · have HE := hide (bfC_bad h1 (bksB_false_len h4))
    have hb : ((xs.length : Int) != 4) = true := by simp; omega
    go_enter Try.func23, Try.ntmps23
    go_wp2
    go_ret
    exact ⟨ret_int (unhide HE).symm, Below.refl _ _⟩
  rw [Decidable.not_not] at h4
  have hb : ((xs.length : Int) != 4) = false := by simp; omega
  have H4 := hide h4
  clear h4
  go_enter Try.func23, Try.ntmps23
  go_wp2
  go_loopw [4, 13] (fun _ i wr => ∃ k : Nat, k ≤ xs.length ∧ i = .int .i64 k ∧ Hid (∀ j (h : j < xs.length), j < k → bkB xs[j] = true) ∧ Hid (Below w.heap.size w wr)) (fun _ i _ => xs.length - (intOf i).toNat)
  case atStart => exact ⟨0, Nat.zero_le _, rfl, hide (fun j _ h => by omega), hide (Below.refl _ _)⟩
  case round =>
    obtain ⟨k, hk, rfl, HA, HB⟩ := hrel
    by_cases hlt : k < xs.length
    · obtain ⟨b, off, rfl, c0, c1, c2, c3⟩ := (unhide HC).below (unhide HB) k hlt
      by_cases hn : bkB xs[k] = true
      · have HN := hide (all_succ (p := bkB) hlt (unhide HA) hn)
        go_wp2_with fail
        refine (blockOK_impl xs[k] _).mono ?_
        rintro e w1 ⟨rfl, hb⟩
        have HB1 := hide (fr (fr (unhide HB) (Joins.below_alloc1 _ _)) hb)
        clear hb
        go_wp2_with fail
        go_roundw
        case rel => exact ⟨k + 1, by omega, by go_num, HN, HB1⟩
        case measure => simp [intOf]; omega
      · have hn' : bkB xs[k] = false := by simpa using hn
        have HF := hide (bfC_bad h1 (bksB_false_at hlt hn'))
        clear hn
        go_wp2_with fail
        refine (blockOK_impl xs[k] _).mono ?_
        rintro e w1 ⟨rfl, hb⟩
        have HB1 := hide (fr (fr (unhide HB) (Joins.below_alloc1 _ _)) hb)
        clear hb
        go_wp2
        go_ret
        exact ⟨ret_int (unhide HF).symm, unhide HB1⟩
    · have HF := hide (bfC_ok h1 (bksB_true (unhide H4) (fun j h => unhide HA j h (by omega))))
      go_wp2
      go_ret
      exact ⟨ret_int (unhide HF).symm, unhide HB⟩

set_option maxHeartbeats 1600000 in
theorem greatestBegun_any (v : Int) (ao : Option Addr) (n cap : Nat) (xs : List Bk) (w : World) (hn : xs.length = n) (hl : n ≤ 1048576) (hm : ∀ i (hi : i < xs.length), xs[i].mbal ≤ 1000000000) (hc : Bks w ao xs) :
    Calls Try.prog 26 #[.slice ao n cap, .int .i64 v] w fun e w' => e = .returned (.int .i64 (nxMax v xs 0)) ∧ (0 ≤ nxMax v xs 0 ∧ nxMax v xs 0 ≤ 1000000000) ∧ Below w.heap.size w w' := by
  have HC := hide hc
  have HM := hide hm
  clear hc hm
  subst hn
  go_enter Try.func26, Try.ntmps26
  go_wp2
  go_loopw [5, 7, 10] (fun c _ i wr => ∃ k : Nat, ∃ n : Int, k ≤ xs.length ∧ i = .int .i64 k ∧ c = .int .i64 n ∧ (0 ≤ n ∧ n ≤ 1000000000) ∧ Hid (nxMax v (xs.drop k) n = nxMax v xs 0) ∧ Hid (Below w.heap.size w wr)) (fun _ _ i _ => xs.length - (intOf i).toNat)
  case atStart => exact ⟨0, 0, Nat.zero_le _, rfl, rfl, by omega, hide rfl, hide (Below.refl _ _)⟩
  case round =>
    obtain ⟨k, n, hk, rfl, rfl, hn, HA, HB⟩ := hrel
    by_cases hlt : k < xs.length
    · obtain ⟨b, off, rfl, c0, c1, c2, c3⟩ := (unhide HC).below (unhide HB) k hlt
      have hf := fieldB1 (bkOf xs[k] v)
      have HN := hide ((nxMax_drop (v := v) hlt n).symm.trans (unhide HA))
      have hmb := bkOf_mbal xs[k] v
      have hm1 := unhide HM k hlt
      go_wp2_with fail
      refine (asOf_any xs[k] v _).mono ?_
      rintro e w1 ⟨rfl, hb⟩
      have HB1 := hide (fr (fr (unhide HB) (Joins.below_alloc1 _ _)) hb)
      clear hb
      by_cases hx : (bkOf xs[k] v).mbal ≤ n
      · have HX : Hid (nxMax v (xs.drop (k + 1)) n = nxMax v xs 0) := hide (by rw [← unhide HN, max_le hx])
        go_wp2_with fail
        go_roundw
        case rel => exact ⟨k + 1, n, by omega, by go_num, by first | rfl | (rw [max_le hx]), hn, HX, HB1⟩
        case measure => simp [intOf]; omega
      · have HX : Hid (nxMax v (xs.drop (k + 1)) (bkOf xs[k] v).mbal = nxMax v xs 0) := hide (by rw [← unhide HN, max_gt hx])
        go_wp2_with fail
        go_roundw
        case rel => exact ⟨k + 1, (bkOf xs[k] v).mbal, by omega, by go_num, by first | rfl | (rw [max_gt hx]), by omega, HX, HB1⟩
        case measure => simp [intOf]; omega
    · have HF : Hid (nxMax v xs 0 = n) := hide (by rw [← unhide HA, nxMax_done hlt])
      go_wp2
      go_ret
      rw [unhide HF]
      exact ⟨rfl, hn, unhide HB⟩

theorem bks_mbal {xs : List Bk} (h : bksB xs = true) : ∀ i (hi : i < xs.length), xs[i].mbal ≤ 1000000000 := fun i hi => by
  have := (bksB_parts h).2 i hi
  have e : xs.getD i bk0 = xs[i] := by simp [hi]
  rw [e] at this
  have := (bkB_iff.1 this).2.1
  omega
theorem ret_ii {a b c d : Int} (h : a = b) (k : c = d) : Ending.returned (.tuple #[.int .i64 a, .int .i64 c]) = .returned (.tuple #[.int .i64 b, .int .i64 d]) := by rw [h, k]

set_option maxHeartbeats 3200000 in
theorem nextBallot_impl (h v : Int) (ao : Option Addr) (cap : Nat) (xs : List Bk) (w : World) (hl : xs.length ≤ 1048576) (hc : Bks w ao xs) :
    Calls Try.prog 8 #[.int .i64 h, .int .i64 v, .slice ao xs.length cap] w fun e w' => e = .returned (.tuple #[.int .i64 (nbN h v xs), .int .i64 (nbC h v xs)]) ∧ Below w.heap.size w w' := by
  have HC := hide hc
  clear hc
  go_enter Try.func8, Try.ntmps8
  go_wp2_with fail
  refine (blocksFault_any ao cap xs _ hl (unhide HC)).mono ?_
  rintro e w1 ⟨rfl, hb⟩
  have HB := hide hb
  clear hb
  by_cases h0 : ¬ bfC xs = 0
  · have HE := hide (nb_fault (h := h) (v := v) h0)
    have hb : (bfC xs != 0) = true := by simp [h0]
    go_wp2
    go_ret2
    exact ⟨ret_ii (unhide HE).1.symm (unhide HE).2.symm, unhide HB⟩
  rw [Decidable.not_not] at h0
  have hb : (bfC xs != 0) = false := by simp [h0]
  have H0 := hide h0
  clear h0
  go_wp2_with fail
  refine (hostOK_any h _).mono ?_
  rintro e w2 ⟨rfl, rfl⟩
  by_cases h1 : inB h 0 3 = false
  · have HE := hide (nb_range (h := h) (v := v) (unhide H0) (by rw [h1]; rfl))
    go_wp2
    go_ret2
    exact ⟨ret_ii (unhide HE).1.symm (unhide HE).2.symm, unhide HB⟩
  rw [Bool.not_eq_false] at h1
  go_wp2_with fail
  refine (verOK_any v _).mono ?_
  rintro e w2 ⟨rfl, rfl⟩
  by_cases h2 : inB v 0 1000000 = false
  · have HE := hide (nb_range (h := h) (v := v) (unhide H0) (by rw [h1, h2]; rfl))
    go_wp2
    go_ret2
    exact ⟨ret_ii (unhide HE).1.symm (unhide HE).2.symm, unhide HB⟩
  rw [Bool.not_eq_false] at h2
  go_wp2_with fail
  refine (greatestBegun_any v ao xs.length cap xs _ rfl hl (bks_mbal (bfC_zero (unhide H0))) ((unhide HC).below (unhide HB))).mono ?_
  rintro e w3 ⟨rfl, hn, hb3⟩
  have HB3 := hide (fr (unhide HB) hb3)
  clear hb3
  have HX : Hid (nxBal h v xs = (Int.tdiv (nxMax v xs 0) 4 + 1) * 4 + h) := hide rfl
  have hh : 0 ≤ h ∧ h ≤ 3 := by simpa [inB] using h1
  have HM := hide (fun e => nb_many (h := h) (v := v) (unhide H0) h1 h2 e)
  have HO := hide (fun e => nb_ok (h := h) (v := v) (unhide H0) h1 h2 e)
  revert HX hn
  generalize nxMax v xs 0 = n
  intro hn HX
  have hq : 0 ≤ Int.tdiv n 4 ∧ Int.tdiv n 4 ≤ 1000000000 := by rw [Int.tdiv_eq_ediv_of_nonneg hn.1]; omega
  have w1 : IntKind.i64.wrap (Int.tdiv n 4 + 1) = Int.tdiv n 4 + 1 := by rw [IntKind.wrap_i64]; omega
  have w2 : IntKind.i64.wrap ((Int.tdiv n 4 + 1) * 4) = (Int.tdiv n 4 + 1) * 4 := by rw [IntKind.wrap_i64]; omega
  have w3 : IntKind.i64.wrap ((Int.tdiv n 4 + 1) * 4 + h) = (Int.tdiv n 4 + 1) * 4 + h := by rw [IntKind.wrap_i64]; omega
  by_cases hm : 1000000 < (Int.tdiv n 4 + 1) * 4 + h
  · have HE := hide (unhide HM (by rw [unhide HX]; exact hm))
    go_wp2
    go_ret2
    exact ⟨ret_ii (unhide HE).1.symm (unhide HE).2.symm, unhide HB3⟩
  · have HE := hide (unhide HO (by rw [unhide HX]; exact hm))
    go_wp2
    go_ret2
    exact ⟨ret_ii ((unhide HX).symm.trans (unhide HE).1.symm) (unhide HE).2.symm, unhide HB3⟩

end Go.Proofs.Ytdfinapjgffjiaa
