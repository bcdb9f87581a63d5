/- What the laws of answers with a list of numbers share: rows that stay apart. -/
import Derived.Test.YtjmianalknnekaaDoorRows
import Derived.Test.YtjmianalknnekaaDoorGen
import Derived.Test.YtjmianalknnekaaDoorKeep
import Derived.Test.YtjmianalknnekaaDoorInts
import Derived.Test.YtjmianalknnekaaDoorEqN
import Derived.Test.YtjmianalknnekaaDoorMarkN
import Derived.Test.YtjmianalknnekaaDoorOwnN
import Derived.Test.YtjmianalknnekaaDoorUnI
import Derived.WalkKit
import Derived.WalkSpells
namespace Go.Proofs.YtjmianalknnekaaDoor
open Go.RowKit
set_option linter.unusedVariables false

theorem ErrW.keep {S : Nat → Prop} {w w' : World} (h : ErrW w) (hk : Keep S w w') (hs : ∀ k, S k → w.heap.size ≤ k ∨ 1 < k) : ErrW w' := by
  obtain ⟨u, pv, hc⟩ := h
  have hl := World.block_lt_of_cell? _ _ hc
  refine ⟨u, pv, ?_⟩
  have hb := hk.block 1 hl (fun h => by
    rcases hs _ h with h | h
    · exact absurd hl (by simp; omega)
    · exact absurd h (Nat.lt_irrefl _))
  rw [← hc]
  unfold World.cell?
  simp only [hb]
theorem ErrW.pos {w : World} (h : ErrW w) : 1 < w.heap.size := by
  obtain ⟨u, pv, hc⟩ := h
  exact World.block_lt_of_cell? _ _ hc

end Go.Proofs.YtjmianalknnekaaDoor
