/- Contract of laws.toClock. -/
import Derived.Test.YtgcbofhjgomjoaeRows
import Derived.Test.YtgcbofhjgomjoaeClkB
import Derived.WalkKit
import Derived.WalkSpells
import Derived.KernelRfl
import Derived.Lib.SmallJoins
namespace Go.Proofs.Ytgcbofhjgomjoae
open Go.RowKit
set_option linter.unusedVariables false

set_option maxHeartbeats 1600000 in
theorem toClk_any (o r : Int) (w : World) : Calls Try.prog 9 #[clkV o r] w fun e w' => e = .returned (clkV o r) ∧ Below w.heap.size w w' := by
  go_enter Try.func9, Try.ntmps9
  go_wp2
  exact bodyPost_ret (v := clkV o r) (by simp [results, Try.results9, go_sem]) rfl ⟨rfl, (((Below.refl _ _).alloc (Nat.le_refl _) _).alloc (by simp) _).alloc (by simp; omega) _⟩

/-- A law's world: its argument lies in a variable. -/
structure StK (w W : World) (b : Nat) (o r : Int) : Prop where
  c0 : W.cell? ⟨b, 0, none⟩ = some (.int .i64 o)
  c1 : W.cell? ⟨b, 1, none⟩ = some (.int .i64 r)
  below : Below w.heap.size w W
theorem StK.next {w W W' : World} {b : Nat} {o r : Int} (h : StK w W b o r) (hb : Below W.heap.size W W') : StK w W' b o r := ⟨(hb.cell (World.block_lt_of_cell? _ _ h.c0)).trans h.c0, (hb.cell (World.block_lt_of_cell? _ _ h.c1)).trans h.c1, frB h.below hb⟩
end Go.Proofs.Ytgcbofhjgomjoae
