/- Contracts of the model's source of choices: byte, next. -/
import Derived.Test.YtjoafbkcnnhdiaaRows
import Derived.Test.YtjoafbkcnnhdiaaGen
import Derived.Test.YtjoafbkcnnhdiaaKeep
import Derived.WalkKit
import Derived.WalkSpells
import Derived.BigQuiet
import Derived.Deep.QuietTactic
import Derived.Deep.RegionWith
namespace Go.Proofs.Ytjoafbkcnnhdiaa
open Go.RowKit
set_option linter.unusedVariables false

/-- A slice shows these bytes. -/
def Bs (w : World) (ao : Option Addr) (n : Nat) : Prop := ∀ i, i < n → ∃ b off x, ao = some ⟨b, off, none⟩ ∧ w.cell? ⟨b, off + i, none⟩ = some (.int .u8 x) ∧ 0 ≤ x ∧ x ≤ 255
theorem Bs.below {w w' : World} {ao : Option Addr} {n : Nat} (h : Bs w ao n) (hb : Below w.heap.size w w') : Bs w' ao n := fun i hi => by
  obtain ⟨b, off, x, e, hc, h0, h1⟩ := h i hi
  exact ⟨b, off, x, e, (hb.cell (p := ⟨b, off + i, none⟩) (World.block_lt_of_cell? _ _ hc)).trans hc, h0, h1⟩
theorem set_block {w : World} {b i : Nat} {c : Array Value} {t : TypeId} (h : w.heap[b]? = some (.cells c t (0, 0))) (v : Value) : (w.setCell ⟨b, i, none⟩ v).heap[b]? = some (.cells (c.setIfInBounds i v) t (0, 0)) := by
  have hb : b < w.heap.size := (Array.getElem?_eq_some_iff.1 h).1
  have hg : w.heap[b] = .cells c t (0, 0) := by rw [Array.getElem?_eq_getElem hb] at h; simpa using h
  have hm : b < (w.setCell ⟨b, i, none⟩ v).heap.size := by simpa using hb
  rw [Array.getElem?_eq_getElem hm]
  congr 1
  unfold World.setCell
  simp only [Array.getElem_modify, if_true, hg]
  simp
theorem wrapI {x : Int} (h : -9223372036854775808 ≤ x) (h' : x ≤ 9223372036854775807) : IntKind.i64.wrap x = x := by rw [IntKind.wrap_i64]; omega

theorem Keep.drewN {S : Nat → Prop} {a b : World} (h : Keep S a b) (n : Nat) : Keep S a (b.drewN n) := ⟨h.os, h.tape, h.output, h.size, h.block⟩
theorem Keep.drew {S : Nat → Prop} {a b : World} (h : Keep S a b) : Keep S a b.drew := ⟨h.os, h.tape, h.output, h.size, h.block⟩

end Go.Proofs.Ytjoafbkcnnhdiaa
