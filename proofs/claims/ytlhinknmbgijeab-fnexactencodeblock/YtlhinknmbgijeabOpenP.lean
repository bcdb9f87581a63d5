/- Blocks and ballots that came in, opened. -/
import Derived.Test.YtlhinknmbgijeabRows
import Derived.Test.YtlhinknmbgijeabOwn
import Derived.Test.YtlhinknmbgijeabBlkP
import Derived.Test.YtlhinknmbgijeabPxP
import Derived.WalkKit
import Derived.ProofKit
import Derived.OpenShut
import Derived.Lib.SmallJoins
namespace Go.Proofs.Ytlhinknmbgijeab
open Go.ChangeShapes Go.WideShapes Go.ChangeAt Go.RowKit Go.Deep
set_option linter.unusedVariables false
set_option maxRecDepth 100000
theorem open_blk {H : Type} {enc : TypeId × Value → H} {w : World} {base b0 : Nat} {r : Reach} {spare : Nat → Bool} {held : Bool} {v : Value} {d : DataW H} {p : List MemPlace}
    (hv : Value.okWide Try.prog w r b0 23 v) (h : DataW.Trod enc Try.prog w base spare held 23 v d p) : ∃ x : Bk, v = bV x := by
  obtain ⟨c0, c1, c2, c3, y0, y1, y2, y3, n, rfl, _, _, t0, t1, t2, t3⟩ := Joins.open_agg4 Try.underlying23 (by kernel_rfl) (by kernel_rfl) hv h
  obtain ⟨z0, q0, _⟩ := DataW.trod_int Try.underlying3 t0
  obtain ⟨z1, q1, _⟩ := DataW.trod_int Try.underlying3 t1
  obtain ⟨z2, q2, _⟩ := DataW.trod_int Try.underlying3 t2
  obtain ⟨z3, q3, _⟩ := DataW.trod_int Try.underlying3 t3
  simp only [List.cons.injEq, and_true] at q0 q1 q2 q3
  subst q0 q1 q2 q3
  exact ⟨⟨z0, z1, z2, z3⟩, rfl⟩
theorem array8 {α : Type} {cs : Array α} (h : cs.size = 8) : ∃ c0 c1 c2 c3 c4 c5 c6 c7, cs = #[c0, c1, c2, c3, c4, c5, c6, c7] := by
  obtain ⟨l⟩ := cs
  match l, h with
  | [c0, c1, c2, c3, c4, c5, c6, c7], _ => exact ⟨c0, c1, c2, c3, c4, c5, c6, c7, rfl⟩
theorem int_field {H : Type} {enc : TypeId × Value → H} {P : Program} {w : World} {base : Nat} {spare : Nat → Bool} {held : Bool} {fs : Array Field} {cs : List Value} {n : Nat} {xs : List (DataW H × List MemPlace)} (hone : oneCellFields P fs = true)
    (hi : ∀ (i : Nat) (f : Field), fs[i]? = some f → P.underlying f.type = some (.int .i64)) (hlen : xs.length = fs.size) (hf : ∀ (i : Nat) (f : Field), fs[i]? = some f → DataW.trod enc P w base spare held n f.type ((cs.drop f.offset).take (P.cellsOf f.type)) = xs[i]?)
    (i : Nat) (v : Value) (hv : cs[i]? = some v) (hs : i < fs.size) : ∃ z : Int, v = .int .i64 z := by
  obtain ⟨f, hfi⟩ : ∃ f, fs[i]? = some f := ⟨fs[i], by simp [hs]⟩
  obtain ⟨o0, k0⟩ := hone_of hone i f hfi
  have t := hf i f hfi
  have hx : i < xs.length := by omega
  rw [o0, k0, List.getElem?_eq_getElem hx] at t
  have hc : (cs.drop i).take 1 = [v] := by
    obtain ⟨hl, rfl⟩ := List.getElem?_eq_some_iff.1 hv
    rw [List.take_one, List.head?_drop]; simp [hl]
  rw [hc] at t
  obtain ⟨z, q, _⟩ := DataW.trod_int (hi i f hfi) t
  simp only [List.cons.injEq, and_true] at q
  exact ⟨z, q⟩
end Go.Proofs.Ytlhinknmbgijeab
