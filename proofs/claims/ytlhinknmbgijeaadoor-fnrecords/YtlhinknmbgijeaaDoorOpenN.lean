/- A slice of numbers of any kind that came in, opened: its cells. -/
import Derived.Test.YtlhinknmbgijeaaDoorRows
import Derived.Test.YtlhinknmbgijeaaDoorGen
import Derived.Test.YtlhinknmbgijeaaDoorOwn
import Derived.WalkKit
import Derived.ProofKit
import Derived.OpenShut
import Derived.ShutString
import Derived.ChangeSlices
namespace Go.Proofs.YtlhinknmbgijeaaDoor
open Go.ChangeShapes Go.WideShapes Go.ChangeAt Go.RowKit
set_option linter.unusedVariables false
set_option maxRecDepth 100000

theorem add_plain {a : Addr} {i : Nat} (h : a.spot = none) : a.add i = ⟨a.block, a.off + i, none⟩ := by
  unfold Addr.add
  by_cases hi : i = 0
  · subst hi; cases a; simp_all
  · simp [hi]

section
variable {H : Type} {enc : TypeId × Value → H} {P : Program} {w : World} {base b0 : Nat} {r : Reach} {spare : Nat → Bool} {held : Bool}
/-- A slice of numbers of any kind: its cells. -/
theorem open_Ns {t e : TypeId} {k : IntKind} {v : Value} {d : DataW H} {p : List MemPlace} (ht : P.underlying t = some (.slice e)) (he : P.underlying e = some (.int k)) (hc : P.cellsOf e = 1)
    (hv : Value.okWide P w r b0 t v) (h : DataW.Trod enc P w base spare held t v d p) :
    ∃ ao cap, ∃ xs : List Int, v = .slice ao xs.length cap ∧ xs.length ≤ maxLen ∧ (∀ i (h : i < xs.length), ∃ b off, ao = some ⟨b, off, none⟩ ∧ w.cell? ⟨b, off + i, none⟩ = some (.int k xs[i]) ∧ (Lit.int k xs[i]).wf = true) := by
  obtain ⟨ao, len, cap, rfl⟩ := okWide_slice ht hv
  obtain ⟨m, hm⟩ := h
  have hm' : DataW.trod enc P w base spare held m t [.slice ao len cap] = some (d, p) := hm
  rcases open_ints ht he hc hm' with ⟨hcs, _⟩ | ⟨a, len', cap', zs, hcs, _, hl, hcm, hz, _, hcell, hws⟩
  · simp only [List.cons.injEq, Value.slice.injEq, and_true] at hcs
    obtain ⟨rfl, rfl, rfl⟩ := hcs
    exact ⟨none, 0, [], rfl, Nat.zero_le _, fun i hi => absurd hi (Nat.not_lt_zero _)⟩
  · simp only [List.cons.injEq, Value.slice.injEq, and_true] at hcs
    obtain ⟨rfl, rfl, rfl⟩ := hcs
    have hlen : len ≤ zs.length := by rw [hz]; split <;> omega
    have htl : (zs.take len).length = len := by simp; omega
    refine ⟨some a, cap, zs.take len, by rw [htl], by omega, fun i hi => ?_⟩
    have hi' : i < len := by omega
    have h0 : a.spot = none := by
      have := World.cell?_spot (hcell 0 (by omega))
      simpa [Addr.add] using this
    have hci := hcell i (by omega)
    rw [add_plain h0] at hci
    have hg : (zs.take len)[i] = zs.getD i 0 := by
      rw [List.getElem_take]; simp [List.getD, show i < zs.length by omega]
    refine ⟨a.block, a.off, ?_, ?_, ?_⟩
    · cases a; simp_all
    · rw [hci, hg]
    · rw [hg]
      exact hws _ (by simp [List.getD, show i < zs.length by omega])
end

end Go.Proofs.YtlhinknmbgijeaaDoor
