/- Variables that hold a write; ends of calls that answer with a disk. -/
import Derived.Test.YtoiclgeeaednnaaRows
import Derived.Test.YtoiclgeeaednnaaGen
import Derived.Test.YtoiclgeeaednnaaAsk
import Derived.Test.YtoiclgeeaednnaaKeep
import Derived.Test.YtoiclgeeaednnaaDiskW
import Derived.Test.YtoiclgeeaednnaaCopyD
import Derived.Test.YtoiclgeeaednnaaOwnF
import Derived.WalkKit
import Derived.WalkSpells
import Derived.Deep.RegionLawGrows
import Derived.Deep.AppendLies
namespace Go.Proofs.Ytoiclgeeaednnaa
open Go.RowKit
set_option linter.unusedVariables false

def wrV (x : Wr) : List Value := [.int .i64 x.host, .int .i64 x.at_, .string x.data]
theorem wrV_one (x : Wr) : ∀ u ∈ wrV x, u.oneCell' = true := by
  intro u hu
  simp [wrV] at hu
  rcases hu with rfl | rfl | rfl <;> rfl
/-- A variable that holds a write. -/
def VarI (w : World) (y : Nat) (x : Wr) : Prop := w.heap[y]? = some (.cells #[.int .i64 x.host, .int .i64 x.at_, .string x.data] 59 (0, 0))
theorem VarI.lt {w : World} {y : Nat} {x : Wr} (h : VarI w y x) : y < w.heap.size := (Array.getElem?_eq_some_iff.1 h).1
theorem VarI.cells {w : World} {y : Nat} {x : Wr} (h : VarI w y x) : w.cell? ⟨y, 0, none⟩ = some (.int .i64 x.host) ∧ w.cell? ⟨y, 1, none⟩ = some (.int .i64 x.at_) ∧ w.cell? ⟨y, 2, none⟩ = some (.string x.data) := ⟨by rw [Joins.cell_of_block h]; rfl, by rw [Joins.cell_of_block h]; rfl, by rw [Joins.cell_of_block h]; rfl⟩
theorem VarI.below {w w' : World} {y : Nat} {x : Wr} (h : VarI w y x) (hb : Below w.heap.size w w') : VarI w' y x := by
  unfold VarI; rw [hb.block y h.lt]; exact h
theorem VarI.new (w : World) (x : Wr) : VarI (w.alloc (.cells #[.int .i64 x.host, .int .i64 x.at_, .string x.data] 59)) w.heap.size x := heap_alloc_new w _
theorem VarI.news {w : World} {y : Nat} {x : Wr} (h : VarI w y x) : ∀ j u, (wrV x)[j]? = some u → w.cell? ((⟨y, 0, none⟩ : Addr).add j) = some u := World.news_of_block (cs := #[.int .i64 x.host, .int .i64 x.at_, .string x.data]) h
theorem VarI.top {W : World} {y : Nat} {x : Wr} (h : W.heap.size = y) : VarI (W.alloc (.cells #[.int .i64 x.host, .int .i64 x.at_, .string x.data] 59)) y x := by rw [← h]; exact VarI.new W x
theorem VarI.under {W : World} {y : Nat} {x : Wr} (h : VarI W y x) (o : Obj) : VarI (W.alloc o) y x := h.below (Joins.below_alloc1 _ _)
theorem VarI.drew {W : World} {y : Nat} {x : Wr} (h : VarI W y x) : VarI W.drew y x := h
theorem VarI.grown {W W' : World} {y : Nat} {x : Wr} (h : VarI W y x) (hg : W.grownBy W' none) : VarI W' y x := by
  unfold VarI; rw [hg.block y h.lt (by simp)]; exact h
theorem ioV_snoc (xs : List Wr) (x : Wr) : ioV (xs ++ [x]) = ioV xs ++ wrV x := by simp [ioV, wrV]

theorem belowKp {W0 W W' : World} {S : Nat → Prop} (h : Below W0.heap.size W0 W) (hk : Keep S W W') (hs : ∀ j, S j → W0.heap.size ≤ j) : Below W0.heap.size W0 W' := h.trans (hk.below h.size hs)
theorem zeroD_own {w : World} {B : Nat} : OwnD w B none 0 0 none 0 0 [] [] := ⟨.inl ⟨rfl, rfl, none, rfl⟩, .inl ⟨rfl, rfl, none, rfl⟩⟩
theorem zero_end {w wL : World} (hb : Below w.heap.size w wL) (a b : Value) : Below w.heap.size w ((wL.setCell ⟨w.heap.size + 1, 0, none⟩ a).setCell ⟨w.heap.size + 1, 1, none⟩ b) :=
  (hb.setCell (p := ⟨w.heap.size + 1, 0, none⟩) (by simp) a).setCell (p := ⟨w.heap.size + 1, 1, none⟩) (by simp) b

theorem ask_zero (ss : List ByteArray) (xs : List Wr) (h : Int) : askC ss xs h 0 = hostC ss xs h := by
  unfold askC
  split
  · rename_i e; rw [e]; rfl
  · rfl
/-- A disk's answer through the cell of the result. -/
theorem land_end {w wL : World} {po qo : Option Addr} {n pa m qa : Nat} {ss : List ByteArray} {xs : List Wr} {B : Nat} (ho : OwnD wL B po n pa qo m qa ss xs) (hB : w.heap.size + 2 ≤ B) (hb : Below w.heap.size w wL) (a b : Value) :
    OwnD ((wL.setCell ⟨w.heap.size + 1, 0, none⟩ a).setCell ⟨w.heap.size + 1, 1, none⟩ b) w.heap.size po n pa qo m qa ss xs ∧ Below w.heap.size w ((wL.setCell ⟨w.heap.size + 1, 0, none⟩ a).setCell ⟨w.heap.size + 1, 1, none⟩ b) :=
  copyD_end (ho.base hB) hb a b

end Go.Proofs.Ytoiclgeeaednnaa
