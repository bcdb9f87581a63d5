/- A slice of numbers that came in, opened: what it shows. -/
import Derived.Test.YtlhinknmbgijeaaRows
import Derived.Test.YtlhinknmbgijeaaGen
import Derived.Test.YtlhinknmbgijeaaOwn
import Derived.Test.YtlhinknmbgijeaaOpenN
import Derived.Test.YtlhinknmbgijeaaInts
import Derived.WalkKit
import Derived.ProofKit
import Derived.OpenShut
import Derived.ShutString
namespace Go.Proofs.Ytlhinknmbgijeaa
open Go.ChangeShapes Go.WideShapes Go.ChangeAt Go.RowKit
set_option linter.unusedVariables false
set_option maxRecDepth 100000

theorem cellsInt : Try.prog.cellsOf 3 = 1 := by kernel_rfl

theorem open_numbers {H : Type} {enc : TypeId × Value → H} {w : World} {base b0 : Nat} {r : Reach} {spare : Nat → Bool} {held : Bool} {v : Value} {d : DataW H} {p : List MemPlace}
    (hv : Value.okWide Try.prog w r b0 22 v) (h : DataW.Trod enc Try.prog w base spare held 22 v d p) : ∃ ao cap, ∃ xs : List Int, v = .slice ao xs.length cap ∧ xs.length ≤ maxLen ∧ Is w ao xs := by
  obtain ⟨ao, cap, xs, hv, hl, hx⟩ := open_Ns Try.underlying22 Try.underlying3 cellsInt hv h
  refine ⟨ao, cap, xs, hv, hl, fun i hi => ?_⟩
  obtain ⟨b, off, e, hc, _⟩ := hx i hi
  exact ⟨b, off, e, hc⟩

end Go.Proofs.Ytlhinknmbgijeaa
