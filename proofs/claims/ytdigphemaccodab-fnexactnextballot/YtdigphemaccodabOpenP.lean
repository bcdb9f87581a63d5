/- Blocks and ballots that came in, opened. -/
import Derived.Test.YtdigphemaccodabRows
import Derived.Test.YtdigphemaccodabOwn
import Derived.Test.YtdigphemaccodabBlkP
import Derived.Test.YtdigphemaccodabPxP
import Derived.WalkKit
import Derived.ProofKit
import Derived.OpenShut
import Derived.Lib.SmallJoins
namespace Go.Proofs.Ytdigphemaccodab
open Go.ChangeShapes Go.WideShapes Go.ChangeAt Go.RowKit Go.Deep
set_option linter.unusedVariables false
set_option maxRecDepth 100000
theorem open_blk {H : Type} {enc : TypeId × Value → H} {w : World} {base b0 : Nat} {r : Reach} {spare : Nat → Bool} {held : Bool} {v : Value} {d : DataW H} {p : List MemPlace}
    (hv : Value.okWide Try.prog w r b0 57 v) (h : DataW.Trod enc Try.prog w base spare held 57 v d p) : ∃ x : Bk, v = bV x := by
  obtain ⟨c0, c1, c2, c3, y0, y1, y2, y3, n, rfl, _, _, t0, t1, t2, t3⟩ := Joins.open_agg4 Try.underlying57 (by kernel_rfl) (by kernel_rfl) hv h
  obtain ⟨z0, q0, _⟩ := DataW.trod_int Try.underlying3 t0
  obtain ⟨z1, q1, _⟩ := DataW.trod_int Try.underlying3 t1
  obtain ⟨z2, q2, _⟩ := DataW.trod_int Try.underlying3 t2
  obtain ⟨z3, q3, _⟩ := DataW.trod_int Try.underlying3 t3
  simp only [List.cons.injEq, and_true] at q0 q1 q2 q3
  subst q0 q1 q2 q3
  exact ⟨⟨z0, z1, z2, z3⟩, rfl⟩
theorem array8 {α : Type} {cs : Array α} (h : cs.size = 8) : ∃ c0 c1 c2 c3 c4 c5 c6 c7, cs = #[c0, c1, c2, c3, c4, c5, c6, c7] := by
  obtain ⟨l⟩ := cs
  match l, h with
  | [c0, c1, c2, c3, c4, c5, c6, c7], _ => exact ⟨c0, c1, c2, c3, c4, c5, c6, c7, rfl⟩
theorem int_field {H : Type} {enc : TypeId × Value → H} {P : Program} {w : World} {base : Nat} {spare : Nat → Bool} {held : Bool} {fs : Array Field} {cs : List Value} {n : Nat} {xs : List (DataW H × List MemPlace)} (hone : oneCellFields P fs = true)
    (hi : ∀ (i : Nat) (f : Field), fs[i]? = some f → P.underlying f.type = some (.int .i64)) (hlen : xs.length = fs.size) (hf : ∀ (i : Nat) (f : Field), fs[i]? = some f → DataW.trod enc P w base spare held n f.type ((cs.drop f.offset).take (P.cellsOf f.type)) = xs[i]?)
    (i : Nat) (v : Value) (hv : cs[i]? = some v) (hs : i < fs.size) : ∃ z : Int, v = .int .i64 z := by
  obtain ⟨f, hfi⟩ : ∃ f, fs[i]? = some f := ⟨fs[i], by simp [hs]⟩
  obtain ⟨o0, k0⟩ := hone_of hone i f hfi
  have t := hf i f hfi
  have hx : i < xs.length := by omega
  rw [o0, k0, List.getElem?_eq_getElem hx] at t
  have hc : (cs.drop i).take 1 = [v] := by
    obtain ⟨hl, rfl⟩ := List.getElem?_eq_some_iff.1 hv
    rw [List.take_one, List.head?_drop]; simp [hl]
  rw [hc] at t
  obtain ⟨z, q, _⟩ := DataW.trod_int (hi i f hfi) t
  simp only [List.cons.injEq, and_true] at q
  exact ⟨z, q⟩
theorem open_px {H : Type} {enc : TypeId × Value → H} {w : World} {base b0 : Nat} {r : Reach} {spare : Nat → Bool} {held : Bool} {v : Value} {d : DataW H} {p : List MemPlace}
    (hv : Value.okWide Try.prog w r b0 23 v) (h : DataW.Trod enc Try.prog w base spare held 23 v d p) : ∃ x : Pxs, v = pV x := by
  have hC : Try.prog.cellsOf 23 = 8 := by kernel_rfl
  obtain ⟨cs, rfl, hsz⟩ := okWide_struct Try.underlying23 hv
  obtain ⟨c0, c1, c2, c3, c4, c5, c6, c7, rfl⟩ := array8 (hsz.trans hC)
  obtain ⟨fuel, hf⟩ := h
  obtain ⟨xs, n, _, _, _, hlen, hf⟩ := DataW.trod_struct Try.underlying23 hf
  have g := fun i v hv hs => int_field (cs := [c0, c1, c2, c3, c4, c5, c6, c7]) (by kernel_rfl) (fun i f hf => by
    have hi : i < 8 := (Array.getElem?_eq_some_iff.1 hf).1
    rcases (show i = 0 ∨ i = 1 ∨ i = 2 ∨ i = 3 ∨ i = 4 ∨ i = 5 ∨ i = 6 ∨ i = 7 by omega) with rfl | rfl | rfl | rfl | rfl | rfl | rfl | rfl <;> (cases hf; exact Try.underlying3)) hlen hf i v hv hs
  obtain ⟨z0, rfl⟩ := g 0 c0 rfl (by decide)
  obtain ⟨z1, rfl⟩ := g 1 c1 rfl (by decide)
  obtain ⟨z2, rfl⟩ := g 2 c2 rfl (by decide)
  obtain ⟨z3, rfl⟩ := g 3 c3 rfl (by decide)
  obtain ⟨z4, rfl⟩ := g 4 c4 rfl (by decide)
  obtain ⟨z5, rfl⟩ := g 5 c5 rfl (by decide)
  obtain ⟨z6, rfl⟩ := g 6 c6 rfl (by decide)
  obtain ⟨z7, rfl⟩ := g 7 c7 rfl (by decide)
  exact ⟨⟨z0, z1, z2, z3, z4, z5, z6, z7⟩, rfl⟩
end Go.Proofs.Ytdigphemaccodab
