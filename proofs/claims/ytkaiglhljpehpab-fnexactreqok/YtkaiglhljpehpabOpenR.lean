/- A request that came in, opened. -/
import Derived.Test.YtkaiglhljpehpabOwn
import Derived.Test.YtkaiglhljpehpabRqP
import Derived.Lib.SmallJoins
import Derived.ProofKit
import Derived.ShutString
namespace Go.Proofs.Ytkaiglhljpehpab
open Go.ChangeShapes Go.WideShapes Go.ChangeAt Go.RowKit Go.Deep
set_option linter.unusedVariables false
set_option maxRecDepth 100000
theorem open_req {H : Type} {enc : TypeId × Value → H} {w : World} {base b0 : Nat} {r : Reach} {spare : Nat → Bool} {held : Bool} {v : Value} {d : DataW H} {p : List MemPlace}
    (hv : Value.okWide Try.prog w r b0 41 v) (h : DataW.Trod enc Try.prog w base spare held 41 v d p) : ∃ q : Rq, v = qV q ∧ q.n.size ≤ maxLen := by
  obtain ⟨c0, c1, c2, c3, y0, y1, y2, y3, n, rfl, _, _, t0, t1, t2, t3⟩ := Joins.open_agg4 Try.underlying41 (by kernel_rfl) (by kernel_rfl) hv h
  obtain ⟨z0, q0, _⟩ := DataW.trod_int Try.underlying3 t0
  obtain ⟨z1, q1, _⟩ := DataW.trod_int Try.underlying3 t1
  obtain ⟨z2, q2, _⟩ := DataW.trod_int Try.underlying3 t2
  obtain ⟨z3, q3, _, hz⟩ := DataW.trod_string Try.underlying9 t3
  simp only [List.cons.injEq, and_true] at q0 q1 q2 q3
  subst q0 q1 q2 q3
  exact ⟨⟨z0, z1, z2, z3⟩, rfl, hz⟩

end Go.Proofs.Ytkaiglhljpehpab
