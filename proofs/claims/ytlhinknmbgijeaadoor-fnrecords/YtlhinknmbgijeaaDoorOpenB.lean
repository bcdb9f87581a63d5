/- A slice of bytes that came in, opened: what it shows. -/
import Derived.Test.YtlhinknmbgijeaaDoorRows
import Derived.Test.YtlhinknmbgijeaaDoorGen
import Derived.Test.YtlhinknmbgijeaaDoorOwn
import Derived.Test.YtlhinknmbgijeaaDoorOpenN
import Derived.Test.YtlhinknmbgijeaaDoorSrc
import Derived.WalkKit
import Derived.ProofKit
import Derived.OpenShut
import Derived.ShutString
namespace Go.Proofs.YtlhinknmbgijeaaDoor
open Go.ChangeShapes Go.WideShapes Go.ChangeAt Go.RowKit
set_option linter.unusedVariables false
set_option maxRecDepth 100000

theorem cellsByte : Tryd.prog.cellsOf 5 = 1 := by kernel_rfl

theorem open_bytes {H : Type} {enc : TypeId × Value → H} {w : World} {base b0 : Nat} {r : Reach} {spare : Nat → Bool} {held : Bool} {v : Value} {d : DataW H} {p : List MemPlace}
    (hv : Value.okWide Tryd.prog w r b0 22 v) (h : DataW.Trod enc Tryd.prog w base spare held 22 v d p) : ∃ ao cap n, v = .slice ao n cap ∧ n ≤ maxLen ∧ Bs w ao n := by
  obtain ⟨ao, cap, xs, hv, hl, hx⟩ := open_Ns Tryd.underlying22 Tryd.underlying5 cellsByte hv h
  refine ⟨ao, cap, xs.length, hv, hl, fun i hi => ?_⟩
  obtain ⟨b, off, e, hc, hw⟩ := hx i hi
  have : 0 ≤ xs[i] ∧ xs[i] ≤ 255 := by simpa [Lit.wf, IntKind.min, IntKind.max, IntKind.signed, IntKind.bits] using hw
  exact ⟨b, off, xs[i], e, hc, this.1, this.2⟩

end Go.Proofs.YtlhinknmbgijeaaDoor
