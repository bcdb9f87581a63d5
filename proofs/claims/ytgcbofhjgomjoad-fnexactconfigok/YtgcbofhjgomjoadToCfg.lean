/- Contract of laws.toConfig; a configuration that a law keeps in a variable. -/
import Derived.Test.YtgcbofhjgomjoadRows
import Derived.Test.YtgcbofhjgomjoadClkB
import Derived.WalkKit
import Derived.WalkSpells
import Derived.KernelRfl
import Derived.Lib.SmallJoins
namespace Go.Proofs.Ytgcbofhjgomjoad
open Go.RowKit
set_option linter.unusedVariables false

set_option maxHeartbeats 1600000 in
theorem toCfg_any (f d l r : Int) (w : World) : Calls Try.prog 13 #[cfgV f d l r] w fun e w' => e = .returned (cfgV f d l r) ∧ Below w.heap.size w w' := by
  go_enter Try.func13, Try.ntmps13
  go_wp2
  exact bodyPost_ret (v := cfgV f d l r) (by simp [results, Try.results13, go_sem]) rfl ⟨rfl, (((Below.refl _ _).alloc (Nat.le_refl _) _).alloc (by simp) _).alloc (by simp; omega) _⟩

/-- A law's world: its argument lies in a variable. -/
structure StC (w W : World) (b : Nat) (f d l r : Int) : Prop where
  four : Four W b f d l r
  below : Below w.heap.size w W
theorem StC.next {w W W' : World} {b : Nat} {f d l r : Int} (h : StC w W b f d l r) (hb : Below W.heap.size W W') : StC w W' b f d l r := ⟨h.four.below hb, frB h.below hb⟩

end Go.Proofs.Ytgcbofhjgomjoad
