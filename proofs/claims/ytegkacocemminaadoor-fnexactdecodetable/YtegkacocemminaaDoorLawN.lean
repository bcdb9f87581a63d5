/- What the laws of answers with a list of numbers share: rows that stay apart. -/
import Derived.Test.YtegkacocemminaaDoorRows
import Derived.Test.YtegkacocemminaaDoorGen
import Derived.Test.YtegkacocemminaaDoorKeep
import Derived.Test.YtegkacocemminaaDoorInts
import Derived.Test.YtegkacocemminaaDoorEqN
import Derived.Test.YtegkacocemminaaDoorMarkN
import Derived.Test.YtegkacocemminaaDoorOwnN
import Derived.Test.YtegkacocemminaaDoorUnI
import Derived.WalkKit
import Derived.WalkSpells
namespace Go.Proofs.YtegkacocemminaaDoor
open Go.RowKit
set_option linter.unusedVariables false

theorem ErrW.keep {S : Nat → Prop} {w w' : World} (h : ErrW w) (hk : Keep S w w') (hs : ∀ k, S k → w.heap.size ≤ k ∨ 0 < k) : ErrW w' := by
  obtain ⟨u, pv, hc⟩ := h
  have hl := World.block_lt_of_cell? _ _ hc
  refine ⟨u, pv, ?_⟩
  have hb := hk.block 0 hl (fun h => by
    rcases hs _ h with h | h
    · exact absurd hl (by simp; omega)
    · exact absurd h (Nat.lt_irrefl _))
  rw [← hc]
  unfold World.cell?
  simp only [hb]
theorem ErrW.pos {w : World} (h : ErrW w) : 0 < w.heap.size := by
  obtain ⟨u, pv, hc⟩ := h
  exact World.block_lt_of_cell? _ _ hc

end Go.Proofs.YtegkacocemminaaDoor
