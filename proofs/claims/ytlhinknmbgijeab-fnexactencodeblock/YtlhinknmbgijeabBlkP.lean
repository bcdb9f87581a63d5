/- Plain words of the ballots' blocks: what a right one is, its text, what a text says; rows of blocks. -/
import Derived.Test.YtlhinknmbgijeabGen
import Derived.Test.YtlhinknmbgijeabKeep
import Derived.WalkKit
import Derived.Test.YtlhinknmbgijeabInts
import Derived.Test.YtlhinknmbgijeabSealP
import Derived.Test.YtlhinknmbgijeabUnP
import Derived.Test.YtlhinknmbgijeabRecM
import Derived.Test.YtlhinknmbgijeabOpenS
import Derived.Test.YtlhinknmbgijeabPaxP
namespace Go.Proofs.Ytlhinknmbgijeab
open Go.RowKit
set_option linter.unusedVariables false

abbrev bV (x : Bk) : Value := .agg #[.int .i64 x.ver, .int .i64 x.mbal, .int .i64 x.bal, .int .i64 x.inp]
def bkB (x : Bk) : Bool := inB x.ver 0 1000000 && (inB x.mbal 0 1000000 && (inB x.bal 0 x.mbal && (numB x.inp && (decide (0 < x.bal) || decide (x.inp = 0)))))
theorem bkB_iff {x : Bk} : bkB x = true ↔ (0 ≤ x.ver ∧ x.ver ≤ 1000000) ∧ (0 ≤ x.mbal ∧ x.mbal ≤ 1000000) ∧ (0 ≤ x.bal ∧ x.bal ≤ x.mbal) ∧ (0 ≤ x.inp ∧ x.inp ≤ 2147483647) ∧ (0 < x.bal ∨ x.inp = 0) := by
  simp only [bkB, numB, inB, Bool.and_eq_true, Bool.or_eq_true, decide_eq_true_eq]
theorem bkB_1 {x : Bk} (e : inB x.ver 0 1000000 = false) : bkB x = false := by simp [bkB, e]
theorem bkB_2 {x : Bk} (e : inB x.mbal 0 1000000 = false) : bkB x = false := by simp [bkB, e]
theorem bkB_3 {x : Bk} (e : inB x.bal 0 x.mbal = false) : bkB x = false := by simp [bkB, e]
theorem bkB_4 {x : Bk} (e : numB x.inp = false) : bkB x = false := by simp [bkB, e]
theorem bkB_5 {x : Bk} (e1 : inB x.ver 0 1000000 = true) (e2 : inB x.mbal 0 1000000 = true) (e3 : inB x.bal 0 x.mbal = true) (e4 : numB x.inp = true) : bkB x = (decide (0 < x.bal) || decide (x.inp = 0)) := by simp [bkB, e1, e2, e3, e4]
/-- Its text. -/
def encB (x : Bk) : ByteArray := sealS 5 [x.ver, x.mbal, x.bal, x.inp]
theorem encB_size (x : Bk) : (encB x).size = 20 := by rw [encB, sealS_size]; rfl
def ebC (x : Bk) : Int := if bkB x = true then 0 else 1
def ebR (x : Bk) : ByteArray := if bkB x = true then encB x else ⟨#[]⟩
theorem ret_se {a b : ByteArray} {c d : Int} (h : a = b) (k : c = d) : Ending.returned (.tuple #[.string a, .int .i64 c]) = .returned (.tuple #[.string b, .int .i64 d]) := by rw [h, k]
/-- What a text says. -/
def bdL (t : ByteArray) : List Int := openL t 5
def bk4 (l : List Int) : Bk := ⟨l.getD 0 0, l.getD 1 0, l.getD 2 0, l.getD 3 0⟩
def bdB (t : ByteArray) : Bool := openB t 5 && (decide ((bdL t).length = 4) && bkB (bk4 (bdL t)))
def bdK (t : ByteArray) : Bk := if bdB t = true then bk4 (bdL t) else bk0
theorem bdB_open {t : ByteArray} (h : openB t 5 = false) : bdB t = false := by simp [bdB, h]
theorem bdB_len {t : ByteArray} (h : ¬ (bdL t).length = 4) : bdB t = false := by simp [bdB, h]
theorem bdB_at {t : ByteArray} {a b c d : Int} (h : openB t 5 = true) (hl : bdL t = [a, b, c, d]) : bdB t = bkB ⟨a, b, c, d⟩ := by
  have e : bk4 (bdL t) = ⟨a, b, c, d⟩ := by rw [hl]; rfl
  simp [bdB, h, e]
  rw [hl]; simp
theorem bd_no {t : ByteArray} (h : bdB t = false) : bdK t = bk0 := by simp [bdK, h]
theorem bd_yes {t : ByteArray} {a b c d : Int} (h : bdB t = true) (hl : bdL t = [a, b, c, d]) : bdK t = ⟨a, b, c, d⟩ := by rw [bdK, if_pos h, hl]; rfl
theorem fourK {l : List Int} (h : l.length = 4) : ∃ a b c d, l = [a, b, c, d] := by
  match l, h with
  | [a, b, c, d], _ => exact ⟨a, b, c, d, rfl⟩
theorem bd_right {t : ByteArray} (h : bdB t = true) : bkB (bdK t) = true := by
  have h' := h
  simp only [bdB, Bool.and_eq_true, decide_eq_true_eq] at h'
  rw [bdK, if_pos h]; exact h'.2.2
/-- What DecodeBlock answers. -/
def bcC (t : ByteArray) : Int := if 65536 < t.size then 2 else if bdB t = true then 0 else 3
def bcK (t : ByteArray) : Bk := if 65536 < t.size then bk0 else bdK t
theorem bc_long {t : ByteArray} (h : 65536 < t.size) : bcK t = bk0 ∧ bcC t = 2 := ⟨if_pos h, if_pos h⟩
theorem bc_no {t : ByteArray} (h : ¬ 65536 < t.size) (hd : bdB t = false) : bcK t = bk0 ∧ bcC t = 3 := ⟨(if_neg h).trans (bd_no hd), (if_neg h).trans (if_neg (by simp [hd]))⟩
theorem bc_yes {t : ByteArray} (h : ¬ 65536 < t.size) (hd : bdB t = true) : bcK t = bdK t ∧ bcC t = 0 := ⟨if_neg h, (if_neg h).trans (if_pos hd)⟩
theorem ret_bi {a b : Bk} {x y : Int} (h : a = b) (k : x = y) : Ending.returned (.tuple #[bV a, .int .i64 x]) = .returned (.tuple #[bV b, .int .i64 y]) := by rw [h, k]
theorem ret_bb {a b : Bk} {x y : Bool} (h : a = b) (k : x = y) : Ending.returned (.tuple #[bV a, .bool x]) = .returned (.tuple #[bV b, .bool y]) := by rw [h, k]

/-- One in a variable. -/
def VarB (w : World) (x : Nat) (t : TypeId) (b : Bk) : Prop := w.heap[x]? = some (.cells #[.int .i64 b.ver, .int .i64 b.mbal, .int .i64 b.bal, .int .i64 b.inp] t (0, 0))
theorem VarB.lt {w : World} {x t : Nat} {b : Bk} (k : VarB w x t b) : x < w.heap.size := (Array.getElem?_eq_some_iff.1 k).1
theorem VarB.cells {w : World} {x t : Nat} {b : Bk} (k : VarB w x t b) : w.cell? ⟨x, 0, none⟩ = some (.int .i64 b.ver) ∧ w.cell? ⟨x, 1, none⟩ = some (.int .i64 b.mbal) ∧ w.cell? ⟨x, 2, none⟩ = some (.int .i64 b.bal) ∧ w.cell? ⟨x, 3, none⟩ = some (.int .i64 b.inp) := ⟨by rw [Joins.cell_of_block k]; rfl, by rw [Joins.cell_of_block k]; rfl, by rw [Joins.cell_of_block k]; rfl, by rw [Joins.cell_of_block k]; rfl⟩
theorem VarB.free {w : World} {x t : Nat} {b : Bk} (k : VarB w x t b) : w.frozen? ⟨x, 0, none⟩ = false ∧ w.frozen? ⟨x, 1, none⟩ = false ∧ w.frozen? ⟨x, 2, none⟩ = false ∧ w.frozen? ⟨x, 3, none⟩ = false := ⟨Joins.unfrozen_of_block k 0, Joins.unfrozen_of_block k 1, Joins.unfrozen_of_block k 2, Joins.unfrozen_of_block k 3⟩
theorem VarB.below {w w' : World} {x t : Nat} {b : Bk} (k : VarB w x t b) (hb : Below w.heap.size w w') : VarB w' x t b := by
  unfold VarB; rw [hb.block x k.lt]; exact k
theorem VarB.keep {S : Nat → Prop} {w w' : World} {x t : Nat} {b : Bk} (k : VarB w x t b) (hk : Keep S w w') (hs : ¬ S x) : VarB w' x t b := by
  unfold VarB; rw [hk.block x k.lt hs]; exact k
theorem VarB.new (w : World) (t : TypeId) (b : Bk) : VarB (w.alloc (.cells #[.int .i64 b.ver, .int .i64 b.mbal, .int .i64 b.bal, .int .i64 b.inp] t)) w.heap.size t b := heap_alloc_new w _
theorem VarB.new0 (w : World) (t : TypeId) : VarB (w.alloc (.cells #[.int .i64 0, .int .i64 0, .int .i64 0, .int .i64 0] t)) w.heap.size t bk0 := heap_alloc_new w _
theorem below4 {w0 w : World} {B g : Nat} (h : Below B w0 w) (hg : B ≤ g) (i j k l : Nat) (u v x y : Value) : Below B w0 ((((w.setCell ⟨g, i, none⟩ u).setCell ⟨g, j, none⟩ v).setCell ⟨g, k, none⟩ x).setCell ⟨g, l, none⟩ y) :=
  (below3 h hg i j k u v x).setCell (p := ⟨g, l, none⟩) hg y
theorem is4 (w : World) (n : Nat) (t : TypeId) (a b c d : Int) (hn : w.heap.size = n) : Is (w.alloc (.cells #[.int .i64 a, .int .i64 b, .int .i64 c, .int .i64 d] t)) (some ⟨n, 0, none⟩) [a, b, c, d] := by
  subst hn
  intro i hi
  have hi' : i < 4 := hi
  refine ⟨w.heap.size, 0, rfl, ?_⟩
  rcases (show i = 0 ∨ i = 1 ∨ i = 2 ∨ i = 3 by omega) with rfl | rfl | rfl | rfl <;> simp [go_sem]
theorem b4_nums {x : Bk} (hd : bkB x = true) : ∀ j (hj : j < [x.ver, x.mbal, x.bal, x.inp].length), 0 ≤ [x.ver, x.mbal, x.bal, x.inp][j] ∧ [x.ver, x.mbal, x.bal, x.inp][j] ≤ 2147483647 := by
  obtain ⟨h1, h2, h3, h4, _⟩ := bkB_iff.1 hd
  intro j hj
  have hj' : j < 4 := hj
  rcases (show j = 0 ∨ j = 1 ∨ j = 2 ∨ j = 3 by omega) with rfl | rfl | rfl | rfl <;> simp <;> omega
theorem b4_ints {x : Bk} (hd : bkB x = true) : intsB [x.ver, x.mbal, x.bal, x.inp] = true := by
  obtain ⟨h1, h2, h3, h4, _⟩ := bkB_iff.1 hd
  rw [intsB_len]
  · rfl
  · intro j hj
    have hj' : j < 4 := hj
    rcases (show j = 0 ∨ j = 1 ∨ j = 2 ∨ j = 3 by omega) with rfl | rfl | rfl | rfl <;> simp [numB, inB] <;> omega
theorem b4_seal {x : Bk} (hd : bkB x = true) : sealC 5 [x.ver, x.mbal, x.bal, x.inp] = 0 ∧ sealT 5 [x.ver, x.mbal, x.bal, x.inp] = encB x := by
  have hc : sealC 5 [x.ver, x.mbal, x.bal, x.inp] = 0 := sealC_ok (listC_ok (by simp) (b4_ints hd)) rfl
  exact ⟨hc, sealT_ok hc⟩

end Go.Proofs.Ytlhinknmbgijeab
