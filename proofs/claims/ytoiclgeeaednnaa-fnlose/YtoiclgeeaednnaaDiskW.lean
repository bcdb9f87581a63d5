/- A disk in rows of the call's own; variables that hold a disk. -/
import Derived.Test.YtoiclgeeaednnaaRows
import Derived.Test.YtoiclgeeaednnaaGen
import Derived.Test.YtoiclgeeaednnaaKeep
import Derived.WalkKit
import Derived.WalkSpells
namespace Go.Proofs.Ytoiclgeeaednnaa
open Go.RowKit
set_option linter.unusedVariables false

/-- A disk in rows of the call's own, at blocks from B on. -/
structure OwnD (w : World) (B : Nat) (ao : Option Addr) (n ca : Nat) (bo : Option Addr) (m cb : Nat) (ss : List ByteArray) (xs : List Wr) : Prop where
  s : OwnR w B 9 1 (.slice ao n ca) n (strV ss)
  i : OwnR w B 59 3 (.slice bo m cb) m (ioV xs)

def OwnB (ao : Option Addr) (n ca : Nat) (bo : Option Addr) (m cb : Nat) (k : Nat) : Prop := Own (.slice ao n ca) k ∨ Own (.slice bo m cb) k

theorem OwnD.below {w w' : World} {B n ca m cb : Nat} {ao bo : Option Addr} {ss : List ByteArray} {xs : List Wr} (h : OwnD w B ao n ca bo m cb ss xs) (hb : Below w.heap.size w w') : OwnD w' B ao n ca bo m cb ss xs := ⟨h.s.below hb, h.i.below hb⟩
theorem OwnD.base {w : World} {B B' n ca m cb : Nat} {ao bo : Option Addr} {ss : List ByteArray} {xs : List Wr} (h : OwnD w B ao n ca bo m cb ss xs) (hb : B' ≤ B) : OwnD w B' ao n ca bo m cb ss xs := ⟨h.s.base hb, h.i.base hb⟩
theorem OwnD.keep {S : Nat → Prop} {w w' : World} {B n ca m cb : Nat} {ao bo : Option Addr} {ss : List ByteArray} {xs : List Wr} (h : OwnD w B ao n ca bo m cb ss xs) (hk : Keep S w w') (hs : ∀ g, OwnB ao n ca bo m cb g → ¬ S g) : OwnD w' B ao n ca bo m cb ss xs :=
  ⟨h.s.keep hk (fun g hg => hs g (.inl hg)), h.i.keep hk (fun g hg => hs g (.inr hg))⟩
theorem OwnD.setCell {w : World} {B n ca m cb : Nat} {ao bo : Option Addr} {ss : List ByteArray} {xs : List Wr} (h : OwnD w B ao n ca bo m cb ss xs) {a : Addr} (ha : a.block < B) (u : Value) : OwnD (w.setCell a u) B ao n ca bo m cb ss xs := ⟨h.s.setCell ha u, h.i.setCell ha u⟩
theorem OwnD.ge {w : World} {B n ca m cb : Nat} {ao bo : Option Addr} {ss : List ByteArray} {xs : List Wr} (h : OwnD w B ao n ca bo m cb ss xs) : ∀ k, OwnB ao n ca bo m cb k → B ≤ k ∧ k < w.heap.size := by
  rintro k (hk | hk)
  · exact h.s.ge k hk
  · exact h.i.ge k hk
theorem OwnD.len {w : World} {B n ca m cb : Nat} {ao bo : Option Addr} {ss : List ByteArray} {xs : List Wr} (h : OwnD w B ao n ca bo m cb ss xs) : ss.length = n ∧ xs.length = m := by
  have h1 := h.s.len
  have h2 := h.i.len
  rw [strV_length] at h1
  rw [ioV_length] at h2
  exact ⟨by omega, by omega⟩
theorem OwnD.ss {w : World} {B n ca m cb : Nat} {ao bo : Option Addr} {ss : List ByteArray} {xs : List Wr} (h : OwnD w B ao n ca bo m cb ss xs) (hz : ∀ s ∈ ss, s.size ≤ maxLen) : Ss w ao ss := by
  obtain ⟨rfl, rfl⟩ := h.len
  rcases h.s with ⟨h0, _⟩ | ⟨_, h'⟩
  · intro i hi; omega
  · exact ownS h' hz
theorem OwnD.ios {w : World} {B n ca m cb : Nat} {ao bo : Option Addr} {ss : List ByteArray} {xs : List Wr} (h : OwnD w B ao n ca bo m cb ss xs) (hz : ∀ x ∈ xs, x.data.size ≤ maxLen) : Ios w bo xs := by
  obtain ⟨rfl, rfl⟩ := h.len
  rcases h.i with ⟨h0, _⟩ | ⟨_, h'⟩
  · intro i hi; omega
  · exact ownI h' hz
/-- A block of another type of cells is none of a disk's rows. -/
theorem OwnD.other {w : World} {B n ca m cb : Nat} {ao bo : Option Addr} {ss : List ByteArray} {xs : List Wr} (h : OwnD w B ao n ca bo m cb ss xs) {x t : Nat} {c : Array Value} {f : Nat × Nat} (hx : w.heap[x]? = some (.cells c t f)) (h1 : t ≠ 9) (h2 : t ≠ 59) : ¬ OwnB ao n ca bo m cb x := by
  rintro (hk | hk)
  · exact h.s.other hx h1 hk
  · exact h.i.other hx h2 hk

/-- A variable that holds a disk. -/
def VarD (w : World) (x : Nat) (a b : Value) : Prop := w.heap[x]? = some (.cells #[a, b] 26 (0, 0))
theorem VarD.lt {w : World} {x : Nat} {a b : Value} (h : VarD w x a b) : x < w.heap.size := (Array.getElem?_eq_some_iff.1 h).1
theorem VarD.cells {w : World} {x : Nat} {a b : Value} (h : VarD w x a b) : w.cell? ⟨x, 0, none⟩ = some a ∧ w.cell? ⟨x, 1, none⟩ = some b := ⟨by rw [Joins.cell_of_block h]; rfl, by rw [Joins.cell_of_block h]; rfl⟩
theorem VarD.below {w w' : World} {x : Nat} {a b : Value} (h : VarD w x a b) (hb : Below w.heap.size w w') : VarD w' x a b := by
  unfold VarD; rw [hb.block x h.lt]; exact h
theorem VarD.keep {S : Nat → Prop} {w w' : World} {x : Nat} {a b : Value} (h : VarD w x a b) (hk : Keep S w w') (hs : ¬ S x) : VarD w' x a b := by
  unfold VarD; rw [hk.block x h.lt hs]; exact h
theorem VarD.new (w : World) (a b : Value) : VarD (w.alloc (.cells #[a, b] 26)) w.heap.size a b := heap_alloc_new w _

end Go.Proofs.Ytoiclgeeaednnaa
