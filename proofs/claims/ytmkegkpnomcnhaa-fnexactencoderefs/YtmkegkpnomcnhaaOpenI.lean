/- A slice of numbers that came in, opened: what it shows. -/
import Derived.Test.YtmkegkpnomcnhaaRows
import Derived.Test.YtmkegkpnomcnhaaGen
import Derived.Test.YtmkegkpnomcnhaaOwn
import Derived.Test.YtmkegkpnomcnhaaOpenN
import Derived.Test.YtmkegkpnomcnhaaInts
import Derived.WalkKit
import Derived.ProofKit
import Derived.OpenShut
import Derived.ShutString
namespace Go.Proofs.Ytmkegkpnomcnhaa
open Go.ChangeShapes Go.WideShapes Go.ChangeAt Go.RowKit
set_option linter.unusedVariables false
set_option maxRecDepth 100000

theorem cellsInt : Try.prog.cellsOf 3 = 1 := by kernel_rfl

theorem open_numbers {H : Type} {enc : TypeId × Value → H} {w : World} {base b0 : Nat} {r : Reach} {spare : Nat → Bool} {held : Bool} {v : Value} {d : DataW H} {p : List MemPlace}
    (hv : Value.okWide Try.prog w r b0 23 v) (h : DataW.Trod enc Try.prog w base spare held 23 v d p) : ∃ ao cap, ∃ xs : List Int, v = .slice ao xs.length cap ∧ xs.length ≤ maxLen ∧ Is w ao xs := by
  obtain ⟨ao, cap, xs, hv, hl, hx⟩ := open_Ns Try.underlying23 Try.underlying3 cellsInt hv h
  refine ⟨ao, cap, xs, hv, hl, fun i hi => ?_⟩
  obtain ⟨b, off, e, hc, _⟩ := hx i hi
  exact ⟨b, off, e, hc⟩

end Go.Proofs.Ytmkegkpnomcnhaa
