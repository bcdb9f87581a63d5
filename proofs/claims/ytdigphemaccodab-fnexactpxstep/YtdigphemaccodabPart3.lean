import Derived.Test.YtdigphemaccodabPart1
import Derived.WalkKit
import Derived.Test.YtdigphemaccodabPart2
import Derived.Test.YtdigphemaccodabRows
import Derived.ProofKit
import Derived.OpenShut
import Derived.Lib.SmallJoins
import Derived.SliceStrings
import Derived.WalkSpells
import Derived.Laws.CopyRow
import Derived.Laws.CopyOwn
import Derived.BigQuiet
import Derived.Deep.QuietTactic
import Derived.Deep.RegionWith
import Derived.Deep.CutRange
import Derived.KernelRfl

/- Plain words of the ballots' blocks: what a right one is, its text, what a text says; rows of blocks. -/
namespace Go.Proofs.Ytdigphemaccodab
open Go.RowKit
set_option linter.unusedVariables false

abbrev bV (x : Bk) : Value := .agg #[.int .i64 x.ver, .int .i64 x.mbal, .int .i64 x.bal, .int .i64 x.inp]
def bkB (x : Bk) : Bool := inB x.ver 0 1000000 && (inB x.mbal 0 1000000 && (inB x.bal 0 x.mbal && (numB x.inp && (decide (0 < x.bal) || decide (x.inp = 0)))))
theorem bkB_iff {x : Bk} : bkB x = true ↔ (0 ≤ x.ver ∧ x.ver ≤ 1000000) ∧ (0 ≤ x.mbal ∧ x.mbal ≤ 1000000) ∧ (0 ≤ x.bal ∧ x.bal ≤ x.mbal) ∧ (0 ≤ x.inp ∧ x.inp ≤ 2147483647) ∧ (0 < x.bal ∨ x.inp = 0) := by
  simp only [bkB, numB, inB, Bool.and_eq_true, Bool.or_eq_true, decide_eq_true_eq]
theorem bkB_1 {x : Bk} (e : inB x.ver 0 1000000 = false) : bkB x = false := by simp [bkB, e]
theorem bkB_2 {x : Bk} (e : inB x.mbal 0 1000000 = false) : bkB x = false := by simp [bkB, e]
theorem bkB_3 {x : Bk} (e : inB x.bal 0 x.mbal = false) : bkB x = false := by simp [bkB, e]
theorem bkB_4 {x : Bk} (e : numB x.inp = false) : bkB x = false := by simp [bkB, e]
theorem bkB_5 {x : Bk} (e1 : inB x.ver 0 1000000 = true) (e2 : inB x.mbal 0 1000000 = true) (e3 : inB x.bal 0 x.mbal = true) (e4 : numB x.inp = true) : bkB x = (decide (0 < x.bal) || decide (x.inp = 0)) := by simp [bkB, e1, e2, e3, e4]
/-- Its text. -/
def encB (x : Bk) : ByteArray := sealS 5 [x.ver, x.mbal, x.bal, x.inp]
theorem encB_size (x : Bk) : (encB x).size = 20 := by rw [encB, sealS_size]; rfl
def ebC (x : Bk) : Int := if bkB x = true then 0 else 1
def ebR (x : Bk) : ByteArray := if bkB x = true then encB x else ⟨#[]⟩
theorem ret_se {a b : ByteArray} {c d : Int} (h : a = b) (k : c = d) : Ending.returned (.tuple #[.string a, .int .i64 c]) = .returned (.tuple #[.string b, .int .i64 d]) := by rw [h, k]
/-- What a text says. -/
def bdL (t : ByteArray) : List Int := openL t 5
def bk4 (l : List Int) : Bk := ⟨l.getD 0 0, l.getD 1 0, l.getD 2 0, l.getD 3 0⟩
def bdB (t : ByteArray) : Bool := openB t 5 && (decide ((bdL t).length = 4) && bkB (bk4 (bdL t)))
def bdK (t : ByteArray) : Bk := if bdB t = true then bk4 (bdL t) else bk0
theorem bdB_open {t : ByteArray} (h : openB t 5 = false) : bdB t = false := by simp [bdB, h]
theorem bdB_len {t : ByteArray} (h : ¬ (bdL t).length = 4) : bdB t = false := by simp [bdB, h]
theorem bdB_at {t : ByteArray} {a b c d : Int} (h : openB t 5 = true) (hl : bdL t = [a, b, c, d]) : bdB t = bkB ⟨a, b, c, d⟩ := by
  have e : bk4 (bdL t) = ⟨a, b, c, d⟩ := by rw [hl]; rfl
  simp [bdB, h, e]
  rw [hl]; simp
theorem bd_no {t : ByteArray} (h : bdB t = false) : bdK t = bk0 := by simp [bdK, h]
theorem bd_yes {t : ByteArray} {a b c d : Int} (h : bdB t = true) (hl : bdL t = [a, b, c, d]) : bdK t = ⟨a, b, c, d⟩ := by rw [bdK, if_pos h, hl]; rfl
theorem fourK {l : List Int} (h : l.length = 4) : ∃ a b c d, l = [a, b, c, d] := by
  match l, h with
  | [a, b, c, d], _ => exact ⟨a, b, c, d, rfl⟩
theorem bd_right {t : ByteArray} (h : bdB t = true) : bkB (bdK t) = true := by
  have h' := h
  simp only [bdB, Bool.and_eq_true, decide_eq_true_eq] at h'
  rw [bdK, if_pos h]; exact h'.2.2
/-- What DecodeBlock answers. -/
def bcC (t : ByteArray) : Int := if 65536 < t.size then 2 else if bdB t = true then 0 else 3
def bcK (t : ByteArray) : Bk := if 65536 < t.size then bk0 else bdK t
theorem bc_long {t : ByteArray} (h : 65536 < t.size) : bcK t = bk0 ∧ bcC t = 2 := ⟨if_pos h, if_pos h⟩
theorem bc_no {t : ByteArray} (h : ¬ 65536 < t.size) (hd : bdB t = false) : bcK t = bk0 ∧ bcC t = 3 := ⟨(if_neg h).trans (bd_no hd), (if_neg h).trans (if_neg (by simp [hd]))⟩
theorem bc_yes {t : ByteArray} (h : ¬ 65536 < t.size) (hd : bdB t = true) : bcK t = bdK t ∧ bcC t = 0 := ⟨if_neg h, (if_neg h).trans (if_pos hd)⟩
theorem ret_bi {a b : Bk} {x y : Int} (h : a = b) (k : x = y) : Ending.returned (.tuple #[bV a, .int .i64 x]) = .returned (.tuple #[bV b, .int .i64 y]) := by rw [h, k]
theorem ret_bb {a b : Bk} {x y : Bool} (h : a = b) (k : x = y) : Ending.returned (.tuple #[bV a, .bool x]) = .returned (.tuple #[bV b, .bool y]) := by rw [h, k]

/-- One in a variable. -/
def VarB (w : World) (x : Nat) (t : TypeId) (b : Bk) : Prop := w.heap[x]? = some (.cells #[.int .i64 b.ver, .int .i64 b.mbal, .int .i64 b.bal, .int .i64 b.inp] t (0, 0))
theorem VarB.lt {w : World} {x t : Nat} {b : Bk} (k : VarB w x t b) : x < w.heap.size := (Array.getElem?_eq_some_iff.1 k).1
theorem VarB.cells {w : World} {x t : Nat} {b : Bk} (k : VarB w x t b) : w.cell? ⟨x, 0, none⟩ = some (.int .i64 b.ver) ∧ w.cell? ⟨x, 1, none⟩ = some (.int .i64 b.mbal) ∧ w.cell? ⟨x, 2, none⟩ = some (.int .i64 b.bal) ∧ w.cell? ⟨x, 3, none⟩ = some (.int .i64 b.inp) := ⟨by rw [Joins.cell_of_block k]; rfl, by rw [Joins.cell_of_block k]; rfl, by rw [Joins.cell_of_block k]; rfl, by rw [Joins.cell_of_block k]; rfl⟩
theorem VarB.free {w : World} {x t : Nat} {b : Bk} (k : VarB w x t b) : w.frozen? ⟨x, 0, none⟩ = false ∧ w.frozen? ⟨x, 1, none⟩ = false ∧ w.frozen? ⟨x, 2, none⟩ = false ∧ w.frozen? ⟨x, 3, none⟩ = false := ⟨Joins.unfrozen_of_block k 0, Joins.unfrozen_of_block k 1, Joins.unfrozen_of_block k 2, Joins.unfrozen_of_block k 3⟩
theorem VarB.below {w w' : World} {x t : Nat} {b : Bk} (k : VarB w x t b) (hb : Below w.heap.size w w') : VarB w' x t b := by
  unfold VarB; rw [hb.block x k.lt]; exact k
theorem VarB.keep {S : Nat → Prop} {w w' : World} {x t : Nat} {b : Bk} (k : VarB w x t b) (hk : Keep S w w') (hs : ¬ S x) : VarB w' x t b := by
  unfold VarB; rw [hk.block x k.lt hs]; exact k
theorem VarB.new (w : World) (t : TypeId) (b : Bk) : VarB (w.alloc (.cells #[.int .i64 b.ver, .int .i64 b.mbal, .int .i64 b.bal, .int .i64 b.inp] t)) w.heap.size t b := heap_alloc_new w _
theorem VarB.new0 (w : World) (t : TypeId) : VarB (w.alloc (.cells #[.int .i64 0, .int .i64 0, .int .i64 0, .int .i64 0] t)) w.heap.size t bk0 := heap_alloc_new w _
theorem below4 {w0 w : World} {B g : Nat} (h : Below B w0 w) (hg : B ≤ g) (i j k l : Nat) (u v x y : Value) : Below B w0 ((((w.setCell ⟨g, i, none⟩ u).setCell ⟨g, j, none⟩ v).setCell ⟨g, k, none⟩ x).setCell ⟨g, l, none⟩ y) :=
  (below3 h hg i j k u v x).setCell (p := ⟨g, l, none⟩) hg y
theorem is4 (w : World) (n : Nat) (t : TypeId) (a b c d : Int) (hn : w.heap.size = n) : Is (w.alloc (.cells #[.int .i64 a, .int .i64 b, .int .i64 c, .int .i64 d] t)) (some ⟨n, 0, none⟩) [a, b, c, d] := by
  subst hn
  intro i hi
  have hi' : i < 4 := hi
  refine ⟨w.heap.size, 0, rfl, ?_⟩
  rcases (show i = 0 ∨ i = 1 ∨ i = 2 ∨ i = 3 by omega) with rfl | rfl | rfl | rfl <;> simp [go_sem]
theorem b4_nums {x : Bk} (hd : bkB x = true) : ∀ j (hj : j < [x.ver, x.mbal, x.bal, x.inp].length), 0 ≤ [x.ver, x.mbal, x.bal, x.inp][j] ∧ [x.ver, x.mbal, x.bal, x.inp][j] ≤ 2147483647 := by
  obtain ⟨h1, h2, h3, h4, _⟩ := bkB_iff.1 hd
  intro j hj
  have hj' : j < 4 := hj
  rcases (show j = 0 ∨ j = 1 ∨ j = 2 ∨ j = 3 by omega) with rfl | rfl | rfl | rfl <;> simp <;> omega
theorem b4_ints {x : Bk} (hd : bkB x = true) : intsB [x.ver, x.mbal, x.bal, x.inp] = true := by
  obtain ⟨h1, h2, h3, h4, _⟩ := bkB_iff.1 hd
  rw [intsB_len]
  · rfl
  · intro j hj
    have hj' : j < 4 := hj
    rcases (show j = 0 ∨ j = 1 ∨ j = 2 ∨ j = 3 by omega) with rfl | rfl | rfl | rfl <;> simp [numB, inB] <;> omega
theorem b4_seal {x : Bk} (hd : bkB x = true) : sealC 5 [x.ver, x.mbal, x.bal, x.inp] = 0 ∧ sealT 5 [x.ver, x.mbal, x.bal, x.inp] = encB x := by
  have hc : sealC 5 [x.ver, x.mbal, x.bal, x.inp] = 0 := sealC_ok (listC_ok (by simp) (b4_ints hd)) rfl
  exact ⟨hc, sealT_ok hc⟩

end Go.Proofs.Ytdigphemaccodab

/- Plain words of a host's ballot: what a right one is; one in a variable; rows of blocks. -/
namespace Go.Proofs.Ytdigphemaccodab
open Go.RowKit
set_option linter.unusedVariables false

abbrev pV (p : Pxs) : Value := .agg #[.int .i64 p.host, .int .i64 p.ver, .int .i64 p.phase, .int .i64 p.ballot, .int .i64 p.value, .int .i64 p.next, .int .i64 p.best, .int .i64 p.bestBal]
def pxB (p : Pxs) : Bool := inB p.host 0 3 && (inB p.ver 0 1000000 && (inB p.phase 1 6 && (inB p.ballot 1 1000000 && (decide (p.ballot % 4 = p.host) && (numB p.value && (inB p.next 0 4 && (numB p.best && inB p.bestBal 0 1000000)))))))
theorem pxB_iff {p : Pxs} : pxB p = true ↔ (0 ≤ p.host ∧ p.host ≤ 3) ∧ (0 ≤ p.ver ∧ p.ver ≤ 1000000) ∧ (1 ≤ p.phase ∧ p.phase ≤ 6) ∧ (1 ≤ p.ballot ∧ p.ballot ≤ 1000000) ∧ p.ballot % 4 = p.host ∧ (0 ≤ p.value ∧ p.value ≤ 2147483647) ∧ (0 ≤ p.next ∧ p.next ≤ 4) ∧ (0 ≤ p.best ∧ p.best ≤ 2147483647) ∧ 0 ≤ p.bestBal ∧ p.bestBal ≤ 1000000 := by
  simp only [pxB, numB, inB, Bool.and_eq_true, decide_eq_true_eq]
def p00 : Pxs := ⟨0, 0, 0, 0, 0, 0, 0, 0⟩

def VarP (w : World) (x : Nat) (t : TypeId) (p : Pxs) : Prop := w.heap[x]? = some (.cells #[.int .i64 p.host, .int .i64 p.ver, .int .i64 p.phase, .int .i64 p.ballot, .int .i64 p.value, .int .i64 p.next, .int .i64 p.best, .int .i64 p.bestBal] t (0, 0))
theorem VarP.lt {w : World} {x t : Nat} {p : Pxs} (k : VarP w x t p) : x < w.heap.size := (Array.getElem?_eq_some_iff.1 k).1
theorem VarP.cells {w : World} {x t : Nat} {p : Pxs} (k : VarP w x t p) : w.cell? ⟨x, 0, none⟩ = some (.int .i64 p.host) ∧ w.cell? ⟨x, 1, none⟩ = some (.int .i64 p.ver) ∧ w.cell? ⟨x, 2, none⟩ = some (.int .i64 p.phase) ∧ w.cell? ⟨x, 3, none⟩ = some (.int .i64 p.ballot) ∧ w.cell? ⟨x, 4, none⟩ = some (.int .i64 p.value) ∧ w.cell? ⟨x, 5, none⟩ = some (.int .i64 p.next) ∧ w.cell? ⟨x, 6, none⟩ = some (.int .i64 p.best) ∧ w.cell? ⟨x, 7, none⟩ = some (.int .i64 p.bestBal) := ⟨by rw [Joins.cell_of_block k]; rfl, by rw [Joins.cell_of_block k]; rfl, by rw [Joins.cell_of_block k]; rfl, by rw [Joins.cell_of_block k]; rfl, by rw [Joins.cell_of_block k]; rfl, by rw [Joins.cell_of_block k]; rfl, by rw [Joins.cell_of_block k]; rfl, by rw [Joins.cell_of_block k]; rfl⟩
theorem VarP.free {w : World} {x t : Nat} {p : Pxs} (k : VarP w x t p) : w.frozen? ⟨x, 0, none⟩ = false ∧ w.frozen? ⟨x, 1, none⟩ = false ∧ w.frozen? ⟨x, 2, none⟩ = false ∧ w.frozen? ⟨x, 3, none⟩ = false ∧ w.frozen? ⟨x, 4, none⟩ = false ∧ w.frozen? ⟨x, 5, none⟩ = false ∧ w.frozen? ⟨x, 6, none⟩ = false ∧ w.frozen? ⟨x, 7, none⟩ = false := ⟨Joins.unfrozen_of_block k 0, Joins.unfrozen_of_block k 1, Joins.unfrozen_of_block k 2, Joins.unfrozen_of_block k 3, Joins.unfrozen_of_block k 4, Joins.unfrozen_of_block k 5, Joins.unfrozen_of_block k 6, Joins.unfrozen_of_block k 7⟩
theorem VarP.below {w w' : World} {x t : Nat} {p : Pxs} (k : VarP w x t p) (hb : Below w.heap.size w w') : VarP w' x t p := by
  unfold VarP; rw [hb.block x k.lt]; exact k
theorem VarP.keep {S : Nat → Prop} {w w' : World} {x t : Nat} {p : Pxs} (k : VarP w x t p) (hk : Keep S w w') (hs : ¬ S x) : VarP w' x t p := by
  unfold VarP; rw [hk.block x k.lt hs]; exact k
theorem VarP.new (w : World) (t : TypeId) (p : Pxs) : VarP (w.alloc (.cells #[.int .i64 p.host, .int .i64 p.ver, .int .i64 p.phase, .int .i64 p.ballot, .int .i64 p.value, .int .i64 p.next, .int .i64 p.best, .int .i64 p.bestBal] t)) w.heap.size t p := heap_alloc_new w _
theorem VarP.new0 (w : World) (t : TypeId) : VarP (w.alloc (.cells #[.int .i64 0, .int .i64 0, .int .i64 0, .int .i64 0, .int .i64 0, .int .i64 0, .int .i64 0, .int .i64 0] t)) w.heap.size t p00 := heap_alloc_new w _
theorem set_heap {w : World} {k t i : Nat} {a : Array Value} (h : w.heap[k]? = some (.cells a t (0, 0))) (v : Value) : (w.setCell ⟨k, i, none⟩ v).heap[k]? = some (.cells (a.setIfInBounds i v) t (0, 0)) := by
  obtain ⟨hk, hf⟩ := Array.getElem?_eq_some_iff.1 h
  unfold World.setCell
  simp [hk]
  rw [Array.getElem_modify]
  simp [hf]
theorem VarP.set0 {w : World} {x t : Nat} {p : Pxs} (k : VarP w x t p) (n : Int) : VarP (w.setCell ⟨x, 0, none⟩ (.int .i64 n)) x t { p with host := n } := set_heap (i := 0) k _
theorem VarP.set1 {w : World} {x t : Nat} {p : Pxs} (k : VarP w x t p) (n : Int) : VarP (w.setCell ⟨x, 1, none⟩ (.int .i64 n)) x t { p with ver := n } := set_heap (i := 1) k _
theorem VarP.set2 {w : World} {x t : Nat} {p : Pxs} (k : VarP w x t p) (n : Int) : VarP (w.setCell ⟨x, 2, none⟩ (.int .i64 n)) x t { p with phase := n } := set_heap (i := 2) k _
theorem VarP.set3 {w : World} {x t : Nat} {p : Pxs} (k : VarP w x t p) (n : Int) : VarP (w.setCell ⟨x, 3, none⟩ (.int .i64 n)) x t { p with ballot := n } := set_heap (i := 3) k _
theorem VarP.set4 {w : World} {x t : Nat} {p : Pxs} (k : VarP w x t p) (n : Int) : VarP (w.setCell ⟨x, 4, none⟩ (.int .i64 n)) x t { p with value := n } := set_heap (i := 4) k _
theorem VarP.set5 {w : World} {x t : Nat} {p : Pxs} (k : VarP w x t p) (n : Int) : VarP (w.setCell ⟨x, 5, none⟩ (.int .i64 n)) x t { p with next := n } := set_heap (i := 5) k _
theorem VarP.set6 {w : World} {x t : Nat} {p : Pxs} (k : VarP w x t p) (n : Int) : VarP (w.setCell ⟨x, 6, none⟩ (.int .i64 n)) x t { p with best := n } := set_heap (i := 6) k _
theorem VarP.set7 {w : World} {x t : Nat} {p : Pxs} (k : VarP w x t p) (n : Int) : VarP (w.setCell ⟨x, 7, none⟩ (.int .i64 n)) x t { p with bestBal := n } := set_heap (i := 7) k _
theorem VarP.put {w : World} {x t : Nat} {p : Pxs} (k : VarP w x t p) (q : Pxs) : VarP ((((((((w.setCell ⟨x, 0, none⟩ (.int .i64 q.host)).setCell ⟨x, 1, none⟩ (.int .i64 q.ver)).setCell ⟨x, 2, none⟩ (.int .i64 q.phase)).setCell ⟨x, 3, none⟩ (.int .i64 q.ballot)).setCell ⟨x, 4, none⟩ (.int .i64 q.value)).setCell ⟨x, 5, none⟩ (.int .i64 q.next)).setCell ⟨x, 6, none⟩ (.int .i64 q.best)).setCell ⟨x, 7, none⟩ (.int .i64 q.bestBal)) x t q := (((((((k.set0 q.host).set1 q.ver).set2 q.phase).set3 q.ballot).set4 q.value).set5 q.next).set6 q.best).set7 q.bestBal

theorem below8 {w0 w : World} {B g : Nat} (h : Below B w0 w) (hg : B ≤ g) (u0 u1 u2 u3 u4 u5 u6 u7 : Value) : Below B w0 ((((((((w.setCell ⟨g, 0, none⟩ u0).setCell ⟨g, 1, none⟩ u1).setCell ⟨g, 2, none⟩ u2).setCell ⟨g, 3, none⟩ u3).setCell ⟨g, 4, none⟩ u4).setCell ⟨g, 5, none⟩ u5).setCell ⟨g, 6, none⟩ u6).setCell ⟨g, 7, none⟩ u7) :=
  (((((((h.setCell (p := ⟨g, 0, none⟩) hg u0).setCell (p := ⟨g, 1, none⟩) hg u1).setCell (p := ⟨g, 2, none⟩) hg u2).setCell (p := ⟨g, 3, none⟩) hg u3).setCell (p := ⟨g, 4, none⟩) hg u4).setCell (p := ⟨g, 5, none⟩) hg u5).setCell (p := ⟨g, 6, none⟩) hg u6).setCell (p := ⟨g, 7, none⟩) hg u7
theorem keep8 {S : Nat → Prop} {w0 w : World} {g : Nat} (h : Keep S w0 w) (hg : S g) (u0 u1 u2 u3 u4 u5 u6 u7 : Value) : Keep S w0 ((((((((w.setCell ⟨g, 0, none⟩ u0).setCell ⟨g, 1, none⟩ u1).setCell ⟨g, 2, none⟩ u2).setCell ⟨g, 3, none⟩ u3).setCell ⟨g, 4, none⟩ u4).setCell ⟨g, 5, none⟩ u5).setCell ⟨g, 6, none⟩ u6).setCell ⟨g, 7, none⟩ u7) :=
  (((((((h.setCell (p := ⟨g, 0, none⟩) hg u0).setCell (p := ⟨g, 1, none⟩) hg u1).setCell (p := ⟨g, 2, none⟩) hg u2).setCell (p := ⟨g, 3, none⟩) hg u3).setCell (p := ⟨g, 4, none⟩) hg u4).setCell (p := ⟨g, 5, none⟩) hg u5).setCell (p := ⟨g, 6, none⟩) hg u6).setCell (p := ⟨g, 7, none⟩) hg u7

/-- Of what was there only blocks of S have turned; what is new may. -/
theorem keepN {S : Nat → Prop} {a b c : World} (h : Keep S a b) {T : Nat → Prop} (k : Keep T b c) (hT : ∀ i, T i → S i ∨ a.heap.size ≤ i) : Keep S a c :=
  ⟨k.os.trans h.os, k.tape.trans h.tape, k.output.trans h.output, Nat.le_trans h.size k.size, fun i hi hs => (k.block i (Nat.lt_of_lt_of_le hi h.size) (fun ht => by rcases hT i ht with h1 | h1; exact hs h1; omega)).trans (h.block i hi hs)⟩

/-- A slice shows these blocks, four cells each. -/
def Bks (w : World) (ao : Option Addr) (xs : List Bk) : Prop := ∀ i (h : i < xs.length), ∃ b off, ao = some ⟨b, off, none⟩ ∧
  w.cell? ⟨b, off + i * 4, none⟩ = some (.int .i64 xs[i].ver) ∧ w.cell? ⟨b, off + i * 4 + 1, none⟩ = some (.int .i64 xs[i].mbal) ∧ w.cell? ⟨b, off + i * 4 + 2, none⟩ = some (.int .i64 xs[i].bal) ∧ w.cell? ⟨b, off + i * 4 + 3, none⟩ = some (.int .i64 xs[i].inp)
theorem Bks.below {w w' : World} {ao : Option Addr} {xs : List Bk} (h : Bks w ao xs) (hb : Below w.heap.size w w') : Bks w' ao xs := fun i hi => by
  obtain ⟨b, off, e, h0, h1, h2, h3⟩ := h i hi
  exact ⟨b, off, e, (hb.cell (p := ⟨b, off + i * 4, none⟩) (World.block_lt_of_cell? _ _ h0)).trans h0, (hb.cell (p := ⟨b, off + i * 4 + 1, none⟩) (World.block_lt_of_cell? _ _ h1)).trans h1, (hb.cell (p := ⟨b, off + i * 4 + 2, none⟩) (World.block_lt_of_cell? _ _ h2)).trans h2, (hb.cell (p := ⟨b, off + i * 4 + 3, none⟩) (World.block_lt_of_cell? _ _ h3)).trans h3⟩
def bksV (xs : List Bk) : List Value := xs.flatMap fun x => [.int .i64 x.ver, .int .i64 x.mbal, .int .i64 x.bal, .int .i64 x.inp]
theorem bksV_cons (x : Bk) (xs : List Bk) : bksV (x :: xs) = [.int .i64 x.ver, .int .i64 x.mbal, .int .i64 x.bal, .int .i64 x.inp] ++ bksV xs := rfl
theorem bksV_append (xs ys : List Bk) : bksV (xs ++ ys) = bksV xs ++ bksV ys := by simp [bksV]
theorem bksV_length (xs : List Bk) : (bksV xs).length = xs.length * 4 := by
  induction xs with
  | nil => rfl
  | cons x xs ih => simp only [bksV, List.flatMap_cons, List.length_append, List.length_cons, List.length_nil] at ih ⊢; omega
theorem bksV_get : ∀ {xs : List Bk} {i : Nat} (h : i < xs.length), (bksV xs)[i * 4]? = some (.int .i64 xs[i].ver) ∧ (bksV xs)[i * 4 + 1]? = some (.int .i64 xs[i].mbal) ∧ (bksV xs)[i * 4 + 2]? = some (.int .i64 xs[i].bal) ∧ (bksV xs)[i * 4 + 3]? = some (.int .i64 xs[i].inp)
  | [], _, h => absurd h (Nat.not_lt_zero _)
  | x :: xs, 0, _ => by simp [bksV_cons]
  | x :: xs, i + 1, h => by
    have ih := bksV_get (xs := xs) (i := i) (by simpa using h)
    rw [bksV_cons, show (i + 1) * 4 = i * 4 + 4 by omega]
    refine ⟨?_, ?_, ?_, ?_⟩
    · rw [List.getElem?_append_right (by simp)]; simpa using ih.1
    · rw [List.getElem?_append_right (by simp)]; simpa [Nat.add_right_comm] using ih.2.1
    · rw [List.getElem?_append_right (by simp)]; simpa [Nat.add_right_comm] using ih.2.2.1
    · rw [List.getElem?_append_right (by simp)]; simpa [Nat.add_right_comm] using ih.2.2.2
theorem bksV_set : ∀ {xs : List Bk} {i : Nat} (h : i < xs.length) (y : Bk), ((((bksV xs).set (i * 4) (.int .i64 y.ver)).set (i * 4 + 1) (.int .i64 y.mbal)).set (i * 4 + 2) (.int .i64 y.bal)).set (i * 4 + 3) (.int .i64 y.inp) = bksV (xs.set i y)
  | [], _, h, _ => absurd h (Nat.not_lt_zero _)
  | x :: xs, 0, _, y => by simp [bksV_cons]
  | x :: xs, i + 1, h, y => by
    have ih := bksV_set (xs := xs) (i := i) (by simpa using h) y
    rw [bksV_cons, List.set_cons_succ, bksV_cons, ← ih, show (i + 1) * 4 = i * 4 + 4 by omega]
    simp [List.set_cons_succ]
theorem bksV_one (xs : List Bk) : ∀ v ∈ bksV xs, v.oneCell' = true := by
  intro v hv
  simp only [bksV, List.mem_flatMap] at hv
  obtain ⟨x, _, hv⟩ := hv
  simp at hv
  rcases hv with rfl | rfl | rfl | rfl <;> rfl
theorem ownBks {w : World} {B e cap : Nat} {ao : Option Addr} {xs : List Bk} (h : OwnR w B e 4 (.slice ao xs.length cap) xs.length (bksV xs)) : Bks w ao xs := by
  rcases h with ⟨h0, _, _⟩ | ⟨h0, h⟩
  · intro i hi; omega
  rcases h.2 with ⟨e0, h0'⟩ | ⟨g, cap, cur, e0, hb, hg, hnc, hcm, hcs, ht⟩
  · omega
  · simp only [Value.slice.injEq, true_and] at e0
    obtain ⟨rfl, rfl⟩ := e0
    have g4 := fun i (hi : i < xs.length) => bksV_get hi
    refine fun i hi => ⟨g, 0, rfl, ?_, ?_, ?_, ?_⟩
    · rw [Nat.zero_add, h.cellAt _ (by omega)]; exact (g4 i hi).1
    · rw [Nat.zero_add, h.cellAt _ (by omega)]; exact (g4 i hi).2.1
    · rw [Nat.zero_add, h.cellAt _ (by omega)]; exact (g4 i hi).2.2.1
    · rw [Nat.zero_add, h.cellAt _ (by omega)]; exact (g4 i hi).2.2.2
theorem Bks.at {w : World} {ao : Option Addr} {xs : List Bk} (h : Bks w ao xs) (hp : 0 < xs.length) : ∃ b off, ao = some ⟨b, off, none⟩ ∧ b < w.heap.size ∧ ∀ j v, (bksV xs)[j]? = some v → w.cell? (Addr.add ⟨b, off, none⟩ j) = some v := by
  obtain ⟨b, off, rfl, h0, _⟩ := h 0 hp
  refine ⟨b, off, rfl, World.block_lt_of_cell? _ _ h0, fun j v hv => ?_⟩
  have hj : j < xs.length * 4 := by have := (List.getElem?_eq_some_iff.1 hv).1; rwa [bksV_length] at this
  obtain ⟨b', off', e, c0, c1, c2, c3⟩ := h (j / 4) (by omega)
  simp only [Option.some.injEq, Addr.mk.injEq, and_true] at e
  obtain ⟨rfl, rfl⟩ := e
  obtain ⟨g0, g1, g2, g3⟩ := bksV_get (xs := xs) (i := j / 4) (by omega)
  rw [show Addr.add ⟨b, off, none⟩ j = ⟨b, off + j, none⟩ from by unfold Addr.add; split <;> simp_all]
  rcases (show j = j / 4 * 4 ∨ j = j / 4 * 4 + 1 ∨ j = j / 4 * 4 + 2 ∨ j = j / 4 * 4 + 3 by omega) with e | e | e | e
  · rw [e] at hv ⊢; rw [g0] at hv; cases hv; exact c0
  · rw [e] at hv ⊢; rw [g1] at hv; cases hv; exact c1
  · rw [e] at hv ⊢; rw [g2] at hv; cases hv; exact c2
  · rw [e] at hv ⊢; rw [g3] at hv; cases hv; exact c3
theorem Bks.src {w : World} {ao : Option Addr} {xs : List Bk} (h : Bks w ao xs) : 0 < xs.length → ∃ ad, ao = some ad ∧ ∀ j u, (bksV xs)[j]? = some u → w.cell? (ad.add j) = some u := fun hp => by
  obtain ⟨b, off, rfl, _, hc⟩ := h.at hp
  exact ⟨_, rfl, hc⟩
/-- The element at a place, its address and its cells. -/
theorem Bks.get {w : World} {ao : Option Addr} {xs : List Bk} (h : Bks w ao xs) (i : Nat) (hi : i < xs.length) : ∃ b off, ao = some ⟨b, off, none⟩ ∧ b < w.heap.size ∧ w.cell? ⟨b, off + i * 4, none⟩ = some (.int .i64 (xs.getD i bk0).ver) ∧ w.cell? ⟨b, off + i * 4 + 1, none⟩ = some (.int .i64 (xs.getD i bk0).mbal) ∧ w.cell? ⟨b, off + i * 4 + 2, none⟩ = some (.int .i64 (xs.getD i bk0).bal) ∧ w.cell? ⟨b, off + i * 4 + 3, none⟩ = some (.int .i64 (xs.getD i bk0).inp) := by
  obtain ⟨b, off, e, h0, h1, h2, h3⟩ := h i hi
  have : xs.getD i bk0 = xs[i] := by simp [hi]
  rw [this]
  exact ⟨b, off, e, World.block_lt_of_cell? _ _ h0, h0, h1, h2, h3⟩

/-- What a call on a block has brought, in a variable. -/
structure Got (W0 W : World) (C : Nat) (t : TypeId) (b : Bk) : Prop where
  k : Below W0.heap.size W0 W
  v : VarB W C t b
  gt : W0.heap.size ≤ C
theorem Got.top {W0 W : World} (t : TypeId) (b : Bk) (h : Below W0.heap.size W0 W) : Got W0 (W.alloc (.cells #[.int .i64 b.ver, .int .i64 b.mbal, .int .i64 b.bal, .int .i64 b.inp] t)) W.heap.size t b :=
  ⟨fr h (Joins.below_alloc1 _ _), VarB.new _ _ _, h.size⟩
theorem VarB.put {w : World} {x t : Nat} {b : Bk} (k : VarB w x t b) (q : Bk) : VarB ((((w.setCell ⟨x, 0, none⟩ (.int .i64 q.ver)).setCell ⟨x, 1, none⟩ (.int .i64 q.mbal)).setCell ⟨x, 2, none⟩ (.int .i64 q.bal)).setCell ⟨x, 3, none⟩ (.int .i64 q.inp)) x t q := set_heap (i := 3) (set_heap (i := 2) (set_heap (i := 1) (set_heap (i := 0) k _) _) _) _
theorem Got.set {W0 W : World} {t : TypeId} {b : Bk} {C : Nat} (b0 : Bk) (h : Below W0.heap.size W0 W) (hv : VarB W C t b0) (hC : W0.heap.size ≤ C) : Got W0 ((((W.setCell ⟨C, 0, none⟩ (.int .i64 b.ver)).setCell ⟨C, 1, none⟩ (.int .i64 b.mbal)).setCell ⟨C, 2, none⟩ (.int .i64 b.bal)).setCell ⟨C, 3, none⟩ (.int .i64 b.inp)) C t b :=
  ⟨below4 h hC 0 1 2 3 _ _ _ _, hv.put b, hC⟩

end Go.Proofs.Ytdigphemaccodab

/- Blocks and ballots that came in, opened. -/
namespace Go.Proofs.Ytdigphemaccodab
open Go.ChangeShapes Go.WideShapes Go.ChangeAt Go.RowKit Go.Deep
set_option linter.unusedVariables false
set_option maxRecDepth 100000
theorem open_blk {H : Type} {enc : TypeId × Value → H} {w : World} {base b0 : Nat} {r : Reach} {spare : Nat → Bool} {held : Bool} {v : Value} {d : DataW H} {p : List MemPlace}
    (hv : Value.okWide Try.prog w r b0 57 v) (h : DataW.Trod enc Try.prog w base spare held 57 v d p) : ∃ x : Bk, v = bV x := by
  obtain ⟨c0, c1, c2, c3, y0, y1, y2, y3, n, rfl, _, _, t0, t1, t2, t3⟩ := Joins.open_agg4 Try.underlying57 (by kernel_rfl) (by kernel_rfl) hv h
  obtain ⟨z0, q0, _⟩ := DataW.trod_int Try.underlying3 t0
  obtain ⟨z1, q1, _⟩ := DataW.trod_int Try.underlying3 t1
  obtain ⟨z2, q2, _⟩ := DataW.trod_int Try.underlying3 t2
  obtain ⟨z3, q3, _⟩ := DataW.trod_int Try.underlying3 t3
  simp only [List.cons.injEq, and_true] at q0 q1 q2 q3
  subst q0 q1 q2 q3
  exact ⟨⟨z0, z1, z2, z3⟩, rfl⟩
theorem array8 {α : Type} {cs : Array α} (h : cs.size = 8) : ∃ c0 c1 c2 c3 c4 c5 c6 c7, cs = #[c0, c1, c2, c3, c4, c5, c6, c7] := by
  obtain ⟨l⟩ := cs
  match l, h with
  | [c0, c1, c2, c3, c4, c5, c6, c7], _ => exact ⟨c0, c1, c2, c3, c4, c5, c6, c7, rfl⟩
theorem int_field {H : Type} {enc : TypeId × Value → H} {P : Program} {w : World} {base : Nat} {spare : Nat → Bool} {held : Bool} {fs : Array Field} {cs : List Value} {n : Nat} {xs : List (DataW H × List MemPlace)} (hone : oneCellFields P fs = true)
    (hi : ∀ (i : Nat) (f : Field), fs[i]? = some f → P.underlying f.type = some (.int .i64)) (hlen : xs.length = fs.size) (hf : ∀ (i : Nat) (f : Field), fs[i]? = some f → DataW.trod enc P w base spare held n f.type ((cs.drop f.offset).take (P.cellsOf f.type)) = xs[i]?)
    (i : Nat) (v : Value) (hv : cs[i]? = some v) (hs : i < fs.size) : ∃ z : Int, v = .int .i64 z := by
  obtain ⟨f, hfi⟩ : ∃ f, fs[i]? = some f := ⟨fs[i], by simp [hs]⟩
  obtain ⟨o0, k0⟩ := hone_of hone i f hfi
  have t := hf i f hfi
  have hx : i < xs.length := by omega
  rw [o0, k0, List.getElem?_eq_getElem hx] at t
  have hc : (cs.drop i).take 1 = [v] := by
    obtain ⟨hl, rfl⟩ := List.getElem?_eq_some_iff.1 hv
    rw [List.take_one, List.head?_drop]; simp [hl]
  rw [hc] at t
  obtain ⟨z, q, _⟩ := DataW.trod_int (hi i f hfi) t
  simp only [List.cons.injEq, and_true] at q
  exact ⟨z, q⟩
theorem open_px {H : Type} {enc : TypeId × Value → H} {w : World} {base b0 : Nat} {r : Reach} {spare : Nat → Bool} {held : Bool} {v : Value} {d : DataW H} {p : List MemPlace}
    (hv : Value.okWide Try.prog w r b0 23 v) (h : DataW.Trod enc Try.prog w base spare held 23 v d p) : ∃ x : Pxs, v = pV x := by
  have hC : Try.prog.cellsOf 23 = 8 := by kernel_rfl
  obtain ⟨cs, rfl, hsz⟩ := okWide_struct Try.underlying23 hv
  obtain ⟨c0, c1, c2, c3, c4, c5, c6, c7, rfl⟩ := array8 (hsz.trans hC)
  obtain ⟨fuel, hf⟩ := h
  obtain ⟨xs, n, _, _, _, hlen, hf⟩ := DataW.trod_struct Try.underlying23 hf
  have g := fun i v hv hs => int_field (cs := [c0, c1, c2, c3, c4, c5, c6, c7]) (by kernel_rfl) (fun i f hf => by
    have hi : i < 8 := (Array.getElem?_eq_some_iff.1 hf).1
    rcases (show i = 0 ∨ i = 1 ∨ i = 2 ∨ i = 3 ∨ i = 4 ∨ i = 5 ∨ i = 6 ∨ i = 7 by omega) with rfl | rfl | rfl | rfl | rfl | rfl | rfl | rfl <;> (cases hf; exact Try.underlying3)) hlen hf i v hv hs
  obtain ⟨z0, rfl⟩ := g 0 c0 rfl (by decide)
  obtain ⟨z1, rfl⟩ := g 1 c1 rfl (by decide)
  obtain ⟨z2, rfl⟩ := g 2 c2 rfl (by decide)
  obtain ⟨z3, rfl⟩ := g 3 c3 rfl (by decide)
  obtain ⟨z4, rfl⟩ := g 4 c4 rfl (by decide)
  obtain ⟨z5, rfl⟩ := g 5 c5 rfl (by decide)
  obtain ⟨z6, rfl⟩ := g 6 c6 rfl (by decide)
  obtain ⟨z7, rfl⟩ := g 7 c7 rfl (by decide)
  exact ⟨⟨z0, z1, z2, z3, z4, z5, z6, z7⟩, rfl⟩
end Go.Proofs.Ytdigphemaccodab

/- A list of blocks that came in, opened. -/
namespace Go.Proofs.Ytdigphemaccodab
open Go.ChangeShapes Go.WideShapes Go.ChangeAt Go.RowKit Go.Deep
set_option linter.unusedVariables false
set_option maxRecDepth 100000
section
variable {H : Type} {enc : TypeId × Value → H} {P : Program} {w : World} {base : Nat} {spare : Nat → Bool} {held : Bool}
theorem addK {a : Addr} {i : Nat} (h : a.spot = none) : a.add i = ⟨a.block, a.off + i, none⟩ := by
  unfold Addr.add
  by_cases hi : i = 0
  · subst hi; cases a; simp_all
  · simp [hi]
theorem cells4 {a : Addr} {cs : List Value} (h : w.cells? base a 4 = some cs) : ∃ c0 c1 c2 c3, cs = [c0, c1, c2, c3] ∧ w.cell? (a.add 0) = some c0 ∧ w.cell? (a.add 1) = some c1 ∧ w.cell? (a.add 2) = some c2 ∧ w.cell? (a.add 3) = some c3 := by
  unfold World.cells? at h
  split at h
  · simp only [List.range, List.range.loop, List.mapM_cons, List.mapM_nil, Option.bind_eq_bind, Option.pure_def, Option.bind_eq_some_iff, Option.some.injEq] at h
    obtain ⟨c0, h0, r0, ⟨c1, h1, r1, ⟨c2, h2, r2, ⟨c3, h3, r3, hr3, rfl⟩, rfl⟩, rfl⟩, rfl⟩ := h
    subst hr3
    exact ⟨c0, c1, c2, c3, rfl, h0, h1, h2, h3⟩
  · cases h
theorem open_Bks {t e ti : TypeId} {f0 f1 f2 f3 : Field} {fuel : Nat} {v : Value} {x : DataW H × List MemPlace} (ht : P.underlying t = some (.slice e)) (he : P.underlying e = some (.struct #[f0, f1, f2, f3]))
    (hi : P.underlying ti = some (.int .i64)) (e0 : f0.type = ti ∧ f0.offset = 0) (e1 : f1.type = ti ∧ f1.offset = 1) (e2 : f2.type = ti ∧ f2.offset = 2) (e3 : f3.type = ti ∧ f3.offset = 3)
    (ci : P.cellsOf ti = 1) (ce : P.cellsOf e = 4)
    (h : DataW.trod enc P w base spare held fuel t [v] = some x) : ∃ ao cap xs, v = .slice ao xs.length cap ∧ xs.length ≤ maxLen ∧ Bks w ao xs := by
  rcases open_slice ht h with ⟨hcs, _⟩ | ⟨a, len, cap, m, n, D, Pl, hcs, _, hl, hmx, hm, _, hel⟩
  · simp only [List.cons.injEq, and_true] at hcs
    subst hcs
    exact ⟨none, 0, [], rfl, Nat.zero_le _, fun i hi => absurd hi (Nat.not_lt_zero _)⟩
  · simp only [List.cons.injEq, and_true] at hcs
    subst hcs
    have hlm : len ≤ m := by rw [hm]; split <;> omega
    have each : ∀ i, i < len → ∃ y : Bk, w.cell? ((a.add (i * 4)).add 0) = some (.int .i64 y.ver) ∧ w.cell? ((a.add (i * 4)).add 1) = some (.int .i64 y.mbal) ∧ w.cell? ((a.add (i * 4)).add 2) = some (.int .i64 y.bal) ∧ w.cell? ((a.add (i * 4)).add 3) = some (.int .i64 y.inp) := by
      intro i hi'
      obtain ⟨cs', hc, hd⟩ := hel i (by omega)
      rw [ce] at hc
      obtain ⟨c0, c1, c2, c3, rfl, k0, k1, k2, k3⟩ := cells4 hc
      obtain ⟨y0, y1, y2, y3, n', _, _, t0, t1, t2, t3⟩ := Joins.trod_struct4 he hd
      rw [e0.1, e0.2, ci] at t0
      rw [e1.1, e1.2, ci] at t1
      rw [e2.1, e2.2, ci] at t2
      rw [e3.1, e3.2, ci] at t3
      obtain ⟨z0, q0, _⟩ := DataW.trod_int hi t0
      obtain ⟨z1, q1, _⟩ := DataW.trod_int hi t1
      obtain ⟨z2, q2, _⟩ := DataW.trod_int hi t2
      obtain ⟨z3, q3, _⟩ := DataW.trod_int hi t3
      simp at q0 q1 q2 q3
      subst q0 q1 q2 q3
      exact ⟨⟨z0, z1, z2, z3⟩, k0, k1, k2, k3⟩
    haveI : Inhabited Bk := ⟨bk0⟩
    obtain ⟨f, hf⟩ := choose_lt (α := Bk) each
    have htl : ((List.range len).map f).length = len := by simp
    refine ⟨some a, cap, (List.range len).map f, by rw [htl], by omega, fun i hi' => ?_⟩
    have hi2 : i < len := by omega
    have h0 : a.spot = none := by
      obtain ⟨g0, _⟩ := hf 0 (by omega)
      have := World.cell?_spot g0
      simpa [Addr.add] using this
    obtain ⟨g0, g1, g2, g3⟩ := hf i hi2
    have hg : ((List.range len).map f)[i] = f i := by simp
    have hsp : (a.add (i * 4)).spot = none := by rw [addK h0]
    rw [addK hsp, addK h0] at g0 g1 g2 g3
    refine ⟨a.block, a.off, ?_, ?_, ?_, ?_, ?_⟩
    · cases a; simp_all
    · rw [hg]; exact g0
    · rw [hg]; exact g1
    · rw [hg]; exact g2
    · rw [hg]; exact g3
end
theorem open_blocks {H : Type} {enc : TypeId × Value → H} {w : World} {base b0 : Nat} {r : Reach} {spare : Nat → Bool} {held : Bool} {v : Value} {d : DataW H} {p : List MemPlace}
    (hv : Value.okWide Try.prog w r b0 32 v) (h : DataW.Trod enc Try.prog w base spare held 32 v d p) : ∃ ao ca xs, v = .slice ao xs.length ca ∧ xs.length ≤ maxLen ∧ Bks w ao xs := by
  obtain ⟨a, l, c, rfl⟩ := okWide_slice Try.underlying32 hv
  obtain ⟨fuel, hf⟩ := h
  exact open_Bks Try.underlying32 Try.underlying57 Try.underlying3 ⟨rfl, rfl⟩ ⟨rfl, rfl⟩ ⟨rfl, rfl⟩ ⟨rfl, rfl⟩ (by kernel_rfl) (by kernel_rfl) (by simpa [Value.cells] using hf)
end Go.Proofs.Ytdigphemaccodab

/- Plain: what is right of a ballot, limb by limb. -/
namespace Go.Proofs.Ytdigphemaccodab
set_option linter.unusedVariables false
theorem pxB_1 {p : Pxs} (e : inB p.host 0 3 = false) : pxB p = false := by simp [pxB, e]
theorem pxB_2 {p : Pxs} (e : inB p.ver 0 1000000 = false) : pxB p = false := by simp [pxB, e]
theorem pxB_3 {p : Pxs} (e : inB p.phase 1 6 = false) : pxB p = false := by simp [pxB, e]
theorem pxB_4 {p : Pxs} (e : inB p.ballot 1 1000000 = false) : pxB p = false := by simp [pxB, e]
theorem pxB_5 {p : Pxs} (e : ¬ p.ballot % 4 = p.host) : pxB p = false := by simp [pxB, e]
theorem pxB_6 {p : Pxs} (e : numB p.value = false) : pxB p = false := by simp [pxB, e]
theorem pxB_7 {p : Pxs} (e : inB p.next 0 4 = false) : pxB p = false := by simp [pxB, e]
theorem pxB_8 {p : Pxs} (e : numB p.best = false) : pxB p = false := by simp [pxB, e]
theorem pxB_9 {p : Pxs} (e1 : inB p.host 0 3 = true) (e2 : inB p.ver 0 1000000 = true) (e3 : inB p.phase 1 6 = true) (e4 : inB p.ballot 1 1000000 = true) (e5 : p.ballot % 4 = p.host) (e6 : numB p.value = true) (e7 : inB p.next 0 4 = true) (e8 : numB p.best = true) : pxB p = inB p.bestBal 0 1000000 := by simp [pxB, e1, e2, e3, e4, e5, e6, e7, e8]
def baB (b h : Int) : Bool := inB b 1 1000000 && decide (b % 4 = h)
theorem pxB_ba {p : Pxs} (e : baB p.ballot p.host = false) : pxB p = false := by
  simp only [baB, Bool.and_eq_false_iff] at e
  rcases e with e | e
  · exact pxB_4 e
  · exact pxB_5 (by simpa using e)
theorem pxB_9b {p : Pxs} (e1 : inB p.host 0 3 = true) (e2 : inB p.ver 0 1000000 = true) (e3 : inB p.phase 1 6 = true) (e4 : baB p.ballot p.host = true) (e6 : numB p.value = true) (e7 : inB p.next 0 4 = true) (e8 : numB p.best = true) : pxB p = inB p.bestBal 0 1000000 := by
  simp only [baB, Bool.and_eq_true, decide_eq_true_eq] at e4
  exact pxB_9 e1 e2 e3 e4.1 e4.2 e6 e7 e8
theorem ball_mod {b : Int} (h : inB b 1 1000000 = true) : Int.tmod b 4 = b % 4 := by
  simp only [inB, Bool.and_eq_true, decide_eq_true_eq] at h
  exact Int.tmod_eq_emod_of_nonneg (by omega)
theorem ret_pi {a b : Pxs} {x y : Int} (h : a = b) (k : x = y) : Go.Ending.returned (.tuple #[pV a, .int .i64 x]) = .returned (.tuple #[pV b, .int .i64 y]) := by rw [h, k]
/-- What PxStart answers. -/
def ps0 (h v b x : Int) : Pxs := ⟨h, v, 1, b, x, 0, 0, 0⟩
def psP (h v b x : Int) : Pxs := if pxB (ps0 h v b x) = true then ps0 h v b x else p00
def psC (h v b x : Int) : Int := if pxB (ps0 h v b x) = true then 0 else 4
end Go.Proofs.Ytdigphemaccodab

/- Plain: lists of blocks that are right; what a step and the next ballot answer. -/
namespace Go.Proofs.Ytdigphemaccodab
set_option linter.unusedVariables false
def bksB (xs : List Bk) : Bool := decide (xs.length = 4) && xs.all bkB
theorem bksB_true {xs : List Bk} (h : xs.length = 4) (ha : ∀ j (h : j < xs.length), bkB xs[j] = true) : bksB xs = true := by
  unfold bksB
  rw [all_of (p := bkB) (fun i hi _ => ha i hi)]
  simp [h]
theorem bksB_len {xs : List Bk} (ha : ∀ j (h : j < xs.length), bkB xs[j] = true) : bksB xs = decide (xs.length = 4) := by
  unfold bksB
  rw [all_of (p := bkB) (fun i hi _ => ha i hi)]
  simp
theorem bksB_false_len {xs : List Bk} (h : ¬ xs.length = 4) : bksB xs = false := by simp [bksB, h]
theorem bksB_false_at {xs : List Bk} {k : Nat} (hk : k < xs.length) (h : bkB xs[k] = false) : bksB xs = false := by
  unfold bksB
  rw [all_not (p := bkB) hk h]
  simp
theorem bksB_parts {xs : List Bk} (h : bksB xs = true) : xs.length = 4 ∧ ∀ i, i < xs.length → bkB (xs.getD i bk0) = true := by
  unfold bksB at h
  simp only [Bool.and_eq_true, decide_eq_true_eq, List.all_eq_true] at h
  refine ⟨h.1, fun i hi => ?_⟩
  have : xs.getD i bk0 = xs[i] := by simp [hi]
  rw [this]
  exact h.2 _ (List.getElem_mem hi)
/-- The fault of blocks. -/
def bfC (xs : List Bk) : Int := if 4096 < xs.length then 2 else if bksB xs = true then 0 else 1
theorem bfC_long {xs : List Bk} (h : 4096 < xs.length) : bfC xs = 2 := if_pos h
theorem bfC_ok {xs : List Bk} (h : ¬ 4096 < xs.length) (hb : bksB xs = true) : bfC xs = 0 := by rw [bfC, if_neg h, if_pos hb]
theorem bfC_bad {xs : List Bk} (h : ¬ 4096 < xs.length) (hb : bksB xs = false) : bfC xs = 1 := by rw [bfC, if_neg h, if_neg (by simp [hb])]
/-- What PxStep answers. -/
def stOK (p : Pxs) (xs : List Bk) : Bool := decide (¬ 4096 < xs.length) && (pxB p && bksB xs)
def stEnd (p : Pxs) : Int := if p.phase = 5 ∨ p.phase = 6 then 15 else 0
def stC (p : Pxs) (xs : List Bk) : Int := if 4096 < xs.length then 2 else if (pxB p && bksB xs) = true then stEnd p else 1
def stP (p : Pxs) (xs : List Bk) : Pxs := if stOK p xs = true then (pxStepP p xs).1 else p00
def stL (p : Pxs) (xs : List Bk) : List Bk := if stOK p xs = true then (pxStepP p xs).2 else []
theorem st_long {p : Pxs} {xs : List Bk} (h : 4096 < xs.length) : stP p xs = p00 ∧ stL p xs = [] ∧ stC p xs = 2 := by
  have e : stOK p xs = false := by simp [stOK]; intro h'; omega
  exact ⟨if_neg (by simp [e]), if_neg (by simp [e]), if_pos h⟩
theorem st_bad {p : Pxs} {xs : List Bk} (h : ¬ 4096 < xs.length) (hb : (pxB p && bksB xs) = false) : stP p xs = p00 ∧ stL p xs = [] ∧ stC p xs = 1 := by
  have e : stOK p xs = false := by rw [stOK, hb]; simp
  exact ⟨if_neg (by simp [e]), if_neg (by simp [e]), by rw [stC, if_neg h, if_neg (by simp [hb])]⟩
theorem st_ok {p : Pxs} {xs : List Bk} (h : ¬ 4096 < xs.length) (h1 : pxB p = true) (h2 : bksB xs = true) : stP p xs = (pxStepP p xs).1 ∧ stL p xs = (pxStepP p xs).2 ∧ stC p xs = stEnd p := by
  have e : stOK p xs = true := by simp [stOK, h1, h2]; omega
  exact ⟨if_pos e, if_pos e, by rw [stC, if_neg h, if_pos (by rw [h1, h2]; rfl)]⟩
/-- What NextBallot answers. -/
def nbC (h v : Int) (xs : List Bk) : Int := if bfC xs ≠ 0 then bfC xs else if (inB h 0 3 && inB v 0 1000000) = true then (if 1000000 < nxBal h v xs then 6 else 0) else 4
def nbN (h v : Int) (xs : List Bk) : Int := if nbC h v xs = 0 then nxBal h v xs else 0
theorem nb_fault {h v : Int} {xs : List Bk} (e : bfC xs ≠ 0) : nbN h v xs = 0 ∧ nbC h v xs = bfC xs := by
  have hc : nbC h v xs = bfC xs := if_pos e
  exact ⟨by rw [nbN, if_neg (by rw [hc]; exact e)], hc⟩
theorem nb_range {h v : Int} {xs : List Bk} (e : bfC xs = 0) (hr : (inB h 0 3 && inB v 0 1000000) = false) : nbN h v xs = 0 ∧ nbC h v xs = 4 := by
  have hc : nbC h v xs = 4 := by rw [nbC, if_neg (by simp [e]), if_neg (by simp [hr])]
  exact ⟨by rw [nbN, if_neg (by rw [hc]; decide)], hc⟩
theorem nb_many {h v : Int} {xs : List Bk} (e : bfC xs = 0) (h1 : inB h 0 3 = true) (h2 : inB v 0 1000000 = true) (hm : 1000000 < nxBal h v xs) : nbN h v xs = 0 ∧ nbC h v xs = 6 := by
  have hc : nbC h v xs = 6 := by rw [nbC, if_neg (by simp [e]), if_pos (by rw [h1, h2]; rfl), if_pos hm]
  exact ⟨by rw [nbN, if_neg (by rw [hc]; decide)], hc⟩
theorem nb_ok {h v : Int} {xs : List Bk} (e : bfC xs = 0) (h1 : inB h 0 3 = true) (h2 : inB v 0 1000000 = true) (hm : ¬ 1000000 < nxBal h v xs) : nbN h v xs = nxBal h v xs ∧ nbC h v xs = 0 := by
  have hc : nbC h v xs = 0 := by rw [nbC, if_neg (by simp [e]), if_pos (by rw [h1, h2]; rfl), if_neg hm]
  exact ⟨if_pos hc, hc⟩
theorem bfC_zero {xs : List Bk} (h : bfC xs = 0) : bksB xs = true := by
  unfold bfC at h
  split at h
  · cases h
  · split at h
    · assumption
    · cases h
theorem bkOf_mbal (b : Bk) (v : Int) : (bkOf b v).mbal = 0 ∨ (bkOf b v).mbal = b.mbal := by
  unfold bkOf; split
  · exact .inl rfl
  · exact .inr rfl
/-- The greatest one, place by place. -/
theorem nxMax_drop {v : Int} {xs : List Bk} {k : Nat} (hk : k < xs.length) (n : Int) : nxMax v (xs.drop k) n = nxMax v (xs.drop (k + 1)) (max n (bkOf xs[k] v).mbal) := by
  rw [List.drop_eq_getElem_cons hk]; rfl
theorem nxMax_done {v : Int} {xs : List Bk} {k : Nat} (hk : ¬ k < xs.length) (n : Int) : nxMax v (xs.drop k) n = n := by
  rw [List.drop_of_length_le (by omega)]; rfl
theorem nx_form (n h : Int) (hn : 0 ≤ n) : (Int.tdiv n 4 + 1) * 4 + h = (n / 4 + 1) * 4 + h := by rw [Int.tdiv_eq_ediv_of_nonneg hn]
end Go.Proofs.Ytdigphemaccodab

/- Contracts of copyList, at texts and at writes: what was there, in new memory. -/
namespace Go.Proofs.Ytdigphemaccodab
open Go.RowKit
set_option linter.unusedVariables false
set_option maxRecDepth 100000

section
variable {P : Program}

/-- 'copy(out, src)', both of n elements of some cells each. -/
theorem run_copy_whole (w : World) (dT sT ty elem : TypeId) (size g n dCap : Nat) (a : Addr) (sCap : Nat) (cur : Array Value) (t : TypeId) (cs : List Value)
    (hu : P.underlying dT = some (.slice elem)) (hs : (P.info? elem).map (·.size) = some size)
    (hg : w.heap[g]? = some (.cells cur t (0, 0))) (hl : n * size = cs.length)
    (hsrc : ∀ j v, cs[j]? = some v → w.cell? (a.add j) = some v) (hfit : cs.length ≤ cur.size) (h1 : ∀ v ∈ cs, v.oneCell' = true) :
    (Builtin.copy_ #[dT, sT] ty #[.slice (some ⟨g, 0, none⟩) n dCap, .slice (some a) n sCap]).run P w = .ok (goInt n) (w.setRow g (cs ++ cur.toList.drop cs.length).toArray) := by
  have hld := run_loadCells_list (P := P) w a cs hsrc
  have hst := run_storeCells_at P g 0 t cs 0 cur w hg (by simpa using hfit) h1
  cases hq : P.info? elem with
  | none => simp [hq] at hs
  | some i =>
    have hi : i.size = size := by simpa [hq] using hs
    simp [Builtin.copy_, run_underlying hu, Builtin.lenOf, Builtin.firstCells, sizeOf, typeInfo, hq, hi, hl, hld, hst]

theorem wpList_copy_whole {w : World} {ops : Array Oper} {rest : List Oper} {o : Oper} {a : Act} {Q : Exit → Act → World → Prop} (hgd : o.guard = none) (d s : Operand) (dT sT : TypeId)
    (ho : o.op = .call { callee := .builtin .copy, args := #[d, s], argTypes := #[dT, sT] }) (elem : TypeId) (size : Nat) (hu : P.underlying dT = some (.slice elem)) (hsz : (P.info? elem).map (·.size) = some size)
    (B g n : Nat) (ad : Addr) (sCap : Nat) (hd : a.eval d = .slice (some ⟨g, 0, none⟩) n n) (hs : a.eval s = .slice (some ad) n sCap)
    (xs : List Value) (hown : w.ownsRow B elem size (.slice (some ⟨g, 0, none⟩) n n) n xs) (cs : List Value) (hn : cs.length = n * size)
    (hsrc : ∀ j v, cs[j]? = some v → w.cell? (ad.add j) = some v) (h1 : ∀ v ∈ cs, v.oneCell' = true)
    (h : ∀ w', w'.ownsRow B elem size (.slice (some ⟨g, 0, none⟩) n n) n cs → w.grownBy w' (some g) → wpList P ops Q rest (a.put o.dst (goInt n)) w') : wpList P ops Q (o :: rest) a w := by
  refine wpList_plain hgd fun K hK => ?_
  rcases hown.2 with ⟨e, _⟩ | ⟨g', cap', cur, e, hB, hg, hnc, hcm, hcs, ht⟩
  · simp at e
  · simp only [Value.slice.injEq, Option.some.injEq, Addr.mk.injEq, and_true, true_and] at e
    obtain ⟨rfl, rfl⟩ := e
    have hrun := run_copy_whole (P := P) w dT sT o.type elem size g n n ad sCap cur elem cs hu hsz hg hn.symm hsrc (by omega) h1
    unfold Oper.wp
    simp [execOp, ho, resolve, invoke, builtin, hd, hs, hrun, Result.andThen]
    refine hK _ _ (h _ ⟨hn, .inr ⟨g, n, _, rfl, hB, setRow_heap w g _ _ elem _ hg, hnc, hcm, ?_, ?_⟩⟩ ⟨rfl, rfl, rfl, by simp, fun k _ hk => setRow_other w g k _ (fun e => hk (by simp [e]))⟩)
    · simp; omega
    · rw [← hn]; simp
end

theorem infoS : (Try.prog.info? 9).map (fun i => (i.zero, i.size, i.bytes)) = some (some (.string ⟨#[]⟩), 1, 16) := by kernel_rfl
theorem sizeS : (Try.prog.info? 9).map (·.size) = some 1 := by kernel_rfl
theorem strV_one (ss : List ByteArray) : ∀ v ∈ strV ss, v.oneCell' = true := by
  intro v hv
  simp only [strV, List.mem_map] at hv
  obtain ⟨s, _, rfl⟩ := hv
  rfl
theorem ioV_one (xs : List Wr) : ∀ v ∈ ioV xs, v.oneCell' = true := by
  intro v hv
  simp only [ioV, List.mem_flatMap] at hv
  obtain ⟨x, _, hv⟩ := hv
  simp at hv
  rcases hv with rfl | rfl | rfl <;> rfl
/-- A slice that is not empty has an address at which its cells lie. -/
theorem Ss.at {w : World} {ao : Option Addr} {ss : List ByteArray} (h : Ss w ao ss) (hp : 0 < ss.length) : ∃ b off, ao = some ⟨b, off, none⟩ ∧ ∀ j v, (strV ss)[j]? = some v → w.cell? (Addr.add ⟨b, off, none⟩ j) = some v := by
  obtain ⟨b, off, rfl, _⟩ := h 0 hp
  refine ⟨b, off, rfl, fun j v hv => ?_⟩
  have hj : j < ss.length := by have := (List.getElem?_eq_some_iff.1 hv).1; rwa [strV_length] at this
  obtain ⟨b', off', e, hc, _⟩ := h j hj
  simp only [Option.some.injEq, Addr.mk.injEq, and_true] at e
  obtain ⟨rfl, rfl⟩ := e
  rw [strV_get hj] at hv
  cases hv
  rw [show Addr.add ⟨b, off, none⟩ j = ⟨b, off + j, none⟩ from by unfold Addr.add; split <;> simp_all]
  exact hc
theorem ioV_at {xs : List Wr} {j : Nat} {v : Value} (h : (ioV xs)[j]? = some v) : ∃ i r, ∃ hi : i < xs.length, j = i * 3 + r ∧ ((r = 0 ∧ v = .int .i64 xs[i].host) ∨ (r = 1 ∧ v = .int .i64 xs[i].at_) ∨ (r = 2 ∧ v = .string xs[i].data)) := by
  have hj : j < xs.length * 3 := by have := (List.getElem?_eq_some_iff.1 h).1; rwa [ioV_length] at this
  have hi : j / 3 < xs.length := by omega
  obtain ⟨g0, g1, g2⟩ := ioV_get hi
  rcases (show j % 3 = 0 ∨ j % 3 = 1 ∨ j % 3 = 2 by omega) with e | e | e
  · rw [show j = j / 3 * 3 by omega, g0] at h; cases h
    exact ⟨j / 3, 0, hi, by omega, .inl ⟨rfl, rfl⟩⟩
  · rw [show j = j / 3 * 3 + 1 by omega, g1] at h; cases h
    exact ⟨j / 3, 1, hi, by omega, .inr (.inl ⟨rfl, rfl⟩)⟩
  · rw [show j = j / 3 * 3 + 2 by omega, g2] at h; cases h
    exact ⟨j / 3, 2, hi, by omega, .inr (.inr ⟨rfl, rfl⟩)⟩
theorem Ios.at {w : World} {ao : Option Addr} {xs : List Wr} (h : Ios w ao xs) (hp : 0 < xs.length) : ∃ b off, ao = some ⟨b, off, none⟩ ∧ ∀ j v, (ioV xs)[j]? = some v → w.cell? (Addr.add ⟨b, off, none⟩ j) = some v := by
  obtain ⟨b, off, rfl, _⟩ := h 0 hp
  refine ⟨b, off, rfl, fun j v hv => ?_⟩
  obtain ⟨i, r, hi, rfl, hr⟩ := ioV_at hv
  obtain ⟨b', off', e, h0, h1, h2, _⟩ := h i hi
  simp only [Option.some.injEq, Addr.mk.injEq, and_true] at e
  obtain ⟨rfl, rfl⟩ := e
  rw [show Addr.add ⟨b, off, none⟩ (i * 3 + r) = ⟨b, off + i * 3 + r, none⟩ from by unfold Addr.add; split <;> simp_all [Nat.add_assoc]]
  rcases hr with ⟨rfl, rfl⟩ | ⟨rfl, rfl⟩ | ⟨rfl, rfl⟩
  · exact h0
  · exact h1
  · exact h2

end Go.Proofs.Ytdigphemaccodab

/- Plain: worlds in which some memory is new. -/
namespace Go.Proofs.Ytdigphemaccodab
open Go.RowKit
set_option linter.unusedVariables false
theorem below_w (w : World) (a b c d : Obj) : Below w.heap.size w ((((w.alloc a).alloc b).alloc c).alloc d) := fr (Joins.below_alloc2 _ _ _) (Joins.below_alloc2 _ _ _)
end Go.Proofs.Ytdigphemaccodab

/- Contracts of spec's ballots: l04Host, PxOK, PxStart, l05Of, l05Write. -/
namespace Go.Proofs.Ytdigphemaccodab
open Go.RowKit
set_option linter.unusedVariables false
set_option maxRecDepth 100000

theorem l04Host_px (h : Int) (w : World) : Calls Try.prog 29 #[.int .i64 h] w fun e w' => e = .returned (.bool (inB h 0 3)) ∧ w' = w := by
  go_enter Try.func29, Try.ntmps29
  go_wp2_with fail
  refine (l01In_num h 0 3 _).mono ?_
  rintro e w1 ⟨rfl, rfl⟩
  go_wp2
  go_ret
  exact ⟨rfl, rfl⟩

set_option maxHeartbeats 1600000 in
theorem l05Of_any (x : Bk) (v : Int) (w : World) : Calls Try.prog 52 #[bV x, .int .i64 v] w fun e w' => e = .returned (bV (bkOf x v)) ∧ Below w.heap.size w w' := by
  by_cases h : x.ver < v
  · rw [show bkOf x v = ⟨v, 0, 0, 0⟩ from if_pos h]
    go_enter Try.func52, Try.ntmps52
    go_wp2
    exact bodyPost_ret (v := bV ⟨v, 0, 0, 0⟩) (by simp [results, Try.results52, go_sem]) rfl ⟨rfl, Joins.below_alloc2 _ _ _⟩
  · rw [show bkOf x v = x from if_neg h]
    go_enter Try.func52, Try.ntmps52
    go_wp2
    exact bodyPost_ret (v := bV x) (by simp [results, Try.results52, go_sem]) rfl ⟨rfl, Joins.below_alloc2 _ _ _⟩

set_option maxHeartbeats 3200000 in
theorem l05Write_any (p : Pxs) (own : Bk) (w : World) : Calls Try.prog 53 #[pV p, bV own] w fun e w' => e = .returned (.tuple #[pV (pxW1 p own), bV (pxW2 p own)]) ∧ Below w.heap.size w w' := by
  by_cases h : p.phase = 1
  · rw [show pxW1 p own = { p with phase := 2, next := 0, best := own.inp, bestBal := own.bal } from if_pos h, show pxW2 p own = ⟨p.ver, p.ballot, own.bal, own.inp⟩ from if_pos h]
    go_enter Try.func53, Try.ntmps53
    go_wp2
    go_region
    go_wp2
    exact bodyPost_ret (v := .tuple #[pV { p with phase := 2, next := 0, best := own.inp, bestBal := own.bal }, bV ⟨p.ver, p.ballot, own.bal, own.inp⟩]) (by simp [results, Try.results53, go_sem]) rfl ⟨rfl, by first | exact below_w _ _ _ _ _ | exact (below_w _ _ _ _ _).drew⟩
  · rw [show pxW1 p own = { p with phase := 4, next := 0 } from if_neg h, show pxW2 p own = ⟨p.ver, p.ballot, p.ballot, p.value⟩ from if_neg h]
    go_enter Try.func53, Try.ntmps53
    go_wp2
    go_region
    go_wp2
    exact bodyPost_ret (v := .tuple #[pV { p with phase := 4, next := 0 }, bV ⟨p.ver, p.ballot, p.ballot, p.value⟩]) (by simp [results, Try.results53, go_sem]) rfl ⟨rfl, by first | exact below_w _ _ _ _ _ | exact (below_w _ _ _ _ _).drew⟩

end Go.Proofs.Ytdigphemaccodab

/- Contracts of spec's PxOK, PxStart. -/
namespace Go.Proofs.Ytdigphemaccodab
open Go.RowKit
set_option linter.unusedVariables false
set_option maxRecDepth 100000

set_option maxHeartbeats 3200000 in
theorem pxOK_spec (p : Pxs) (w : World) : Calls Try.prog 8 #[pV p] w fun e w' => e = .returned (.bool (pxB p)) ∧ Below w.heap.size w w' := by
  go_enter Try.func8, Try.ntmps8
  go_wp2_with fail
  refine (l04Host_px p.host _).mono ?_
  rintro e w1 ⟨rfl, rfl⟩
  by_cases h1 : inB p.host 0 3 = false
  · have hr := hide (pxB_1 h1)
    go_wp2
    go_ret
    rw [unhide hr]
    exact ⟨rfl, Joins.below_alloc1 _ _⟩
  rw [Bool.not_eq_false] at h1
  go_wp2_with fail
  refine (l01In_num p.ver 0 1000000 _).mono ?_
  rintro e w1 ⟨rfl, rfl⟩
  by_cases h2 : inB p.ver 0 1000000 = false
  · have hr := hide (pxB_2 h2)
    go_wp2
    go_ret
    rw [unhide hr]
    exact ⟨rfl, Joins.below_alloc1 _ _⟩
  rw [Bool.not_eq_false] at h2
  go_wp2_with fail
  refine (l01In_num p.phase 1 6 _).mono ?_
  rintro e w1 ⟨rfl, rfl⟩
  by_cases h3 : inB p.phase 1 6 = false
  · have hr := hide (pxB_3 h3)
    go_wp2
    go_ret
    rw [unhide hr]
    exact ⟨rfl, Joins.below_alloc1 _ _⟩
  rw [Bool.not_eq_false] at h3
  go_wp2_with fail
  refine (l01In_num p.ballot 1 1000000 _).mono ?_
  rintro e w1 ⟨rfl, rfl⟩
  by_cases h4 : inB p.ballot 1 1000000 = false
  · have hr := hide (pxB_4 h4)
    go_wp2
    go_ret
    rw [unhide hr]
    exact ⟨rfl, Joins.below_alloc1 _ _⟩
  rw [Bool.not_eq_false] at h4
  have hm := ball_mod h4
  by_cases h5 : ¬ p.ballot % 4 = p.host
  · have hr := hide (pxB_5 h5)
    have h5b : (p.ballot % 4 == p.host) = false := by simp [h5]
    go_wp2
    go_ret
    rw [unhide hr]
    exact ⟨rfl, Joins.below_alloc1 _ _⟩
  rw [Decidable.not_not] at h5
  have h5b : (p.ballot % 4 == p.host) = true := by simp [h5]
  have H5 := hide h5
  clear h5
  go_wp2_with fail
  refine (l02Int_any p.value _).mono ?_
  rintro e w1 ⟨rfl, rfl⟩
  by_cases h6 : numB p.value = false
  · have hr := hide (pxB_6 h6)
    go_wp2
    go_ret
    rw [unhide hr]
    exact ⟨rfl, Joins.below_alloc1 _ _⟩
  rw [Bool.not_eq_false] at h6
  go_wp2_with fail
  refine (l01In_num p.next 0 4 _).mono ?_
  rintro e w1 ⟨rfl, rfl⟩
  by_cases h7 : inB p.next 0 4 = false
  · have hr := hide (pxB_7 h7)
    go_wp2
    go_ret
    rw [unhide hr]
    exact ⟨rfl, Joins.below_alloc1 _ _⟩
  rw [Bool.not_eq_false] at h7
  go_wp2_with fail
  refine (l02Int_any p.best _).mono ?_
  rintro e w1 ⟨rfl, rfl⟩
  by_cases h8 : numB p.best = false
  · have hr := hide (pxB_8 h8)
    go_wp2
    go_ret
    rw [unhide hr]
    exact ⟨rfl, Joins.below_alloc1 _ _⟩
  rw [Bool.not_eq_false] at h8
  have hr := hide (pxB_9 h1 h2 h3 h4 (unhide H5) h6 h7 h8)
  go_wp2_with fail
  refine (l01In_num p.bestBal 0 1000000 _).mono ?_
  rintro e w1 ⟨rfl, rfl⟩
  go_wp2
  go_ret
  rw [unhide hr]
  exact ⟨rfl, Joins.below_alloc1 _ _⟩

set_option maxHeartbeats 3200000 in
theorem pxStart_spec (h v b x : Int) (w : World) : Calls Try.prog 11 #[.int .i64 h, .int .i64 v, .int .i64 b, .int .i64 x] w fun e w' => e = .returned (.tuple #[pV (psP h v b x), .int .i64 (psC h v b x)]) ∧ Below w.heap.size w w' := by
  have HV := hide (VarP.new0 w 25)
  have HV2 : Hid (VarP ((w.alloc (.cells #[.int .i64 0, .int .i64 0, .int .i64 0, .int .i64 0, .int .i64 0, .int .i64 0, .int .i64 0, .int .i64 0] 25)).alloc (.cells #[.int .i64 h, .int .i64 v, .int .i64 1, .int .i64 b, .int .i64 x, .int .i64 0, .int .i64 0, .int .i64 0] 25)) (w.heap.size + 1) 25 (ps0 h v b x)) := hide (by
    have := VarP.new (w.alloc (.cells #[.int .i64 0, .int .i64 0, .int .i64 0, .int .i64 0, .int .i64 0, .int .i64 0, .int .i64 0, .int .i64 0] 25)) 25 (ps0 h v b x)
    simp only [World.size_alloc] at this
    exact this)
  have HB := hide (Joins.below_alloc2 w (.cells #[.int .i64 0, .int .i64 0, .int .i64 0, .int .i64 0, .int .i64 0, .int .i64 0, .int .i64 0, .int .i64 0] 25) (.cells #[.int .i64 h, .int .i64 v, .int .i64 1, .int .i64 b, .int .i64 x, .int .i64 0, .int .i64 0, .int .i64 0] 25))
  go_enter Try.func11, Try.ntmps11
  go_wp2_with fail
  refine (pxOK_spec (ps0 h v b x) _).mono ?_
  rintro e w1 ⟨rfl, hb⟩
  obtain ⟨c0, c1, c2, c3, c4, c5, c6, c7⟩ := ((unhide HV2).below hb).cells
  obtain ⟨d0, d1, d2, d3, d4, d5, d6, d7⟩ := (((unhide HV).below (Joins.below_alloc1 _ _)).below hb).cells
  obtain ⟨f0, f1, f2, f3, f4, f5, f6, f7⟩ := (((unhide HV).below (Joins.below_alloc1 _ _)).below hb).free
  have HB1 := hide (fun u0 u1 u2 u3 u4 u5 u6 u7 => below8 (fr (unhide HB) hb) (Nat.le_refl _) u0 u1 u2 u3 u4 u5 u6 u7)
  clear hb
  by_cases hd : pxB (ps0 h v b x) = true
  · have HE : Hid (psP h v b x = ps0 h v b x ∧ psC h v b x = 0) := hide ⟨if_pos hd, if_pos hd⟩
    go_wp2
    refine bodyPost_ret (v := .tuple #[pV (ps0 h v b x), .int .i64 0]) (by simp [results, Try.results11, go_sem, d0, d1, d2, d3, d4, d5, d6, d7, ps0]) rfl ⟨?_, unhide HB1 _ _ _ _ _ _ _ _⟩
    exact ret_pi (unhide HE).1.symm (unhide HE).2.symm
  · have HE : Hid (psP h v b x = p00 ∧ psC h v b x = 4) := hide ⟨if_neg hd, if_neg hd⟩
    rw [Bool.not_eq_true] at hd
    go_wp2
    refine bodyPost_ret (v := .tuple #[pV p00, .int .i64 4]) (by simp [results, Try.results11, go_sem, d0, d1, d2, d3, d4, d5, d6, d7, p00]) rfl ⟨?_, unhide HB1 _ _ _ _ _ _ _ _⟩
    exact ret_pi (unhide HE).1.symm (unhide HE).2.symm

end Go.Proofs.Ytdigphemaccodab

/- Contracts of DiskOK, of the program and of its model: both answer one plain function of the disk. -/
namespace Go.Proofs.Ytdigphemaccodab
open Go.RowKit
set_option linter.unusedVariables false
set_option maxRecDepth 100000

theorem l01In_any (n low high : Int) (w : World) : Calls Try.prog 30 #[.int .i64 n, .int .i64 low, .int .i64 high] w fun e w' => e = .returned (.bool (inB n low high)) ∧ w' = w := by
  go_enter Try.func30, Try.ntmps30
  go_wp2
  all_goals
    go_ret
    exact ⟨ret_bool (by rw [Bool.eq_iff_iff]; simp [inB]; omega), rfl⟩

theorem hostOK_any (n : Int) (w : World) : Calls Try.prog 32 #[.int .i64 n] w fun e w' => e = .returned (.bool (inB n 0 3)) ∧ w' = w := by
  go_enter Try.func32, Try.ntmps32
  go_wp2
  all_goals
    go_ret
    exact ⟨ret_bool (by rw [Bool.eq_iff_iff]; simp [inB]; omega), rfl⟩

end Go.Proofs.Ytdigphemaccodab
