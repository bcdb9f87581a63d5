/- Contract of spec.l01New. -/
import Derived.Test.YtoiclgeeaednnaaRows
import Derived.Test.YtoiclgeeaednnaaGen
import Derived.Test.YtoiclgeeaednnaaKeep
import Derived.Test.YtoiclgeeaednnaaDiskW
import Derived.WalkKit
import Derived.WalkSpells
namespace Go.Proofs.Ytoiclgeeaednnaa
open Go.RowKit
set_option linter.unusedVariables false
set_option maxRecDepth 100000

def noSs : List ByteArray := List.replicate 64 ⟨#[]⟩
theorem noSs_cells : (madeCells #[Value.string ⟨#[]⟩] 64).toList = strV noSs := by rw [toList_madeCells_one]; simp [strV, noSs]
theorem noSs_len : noSs.length = 64 := by simp [noSs]
theorem info9' : (Try.prog.info? 9).map (fun i => (i.zero, i.size, i.bytes)) = some (some (.string ⟨#[]⟩), 1, 16) := by kernel_rfl

theorem noSs_own {w : World} {B g : Nat} (h : w.ownsRow B 9 1 (.slice (some ⟨g, 0, none⟩) 64 64) 64 (madeCells #[Value.string ⟨#[]⟩] 64).toList) : w.ownsRow B 9 1 (.slice (some ⟨g, 0, none⟩) 64 64) 64 (strV noSs) := by
  rw [noSs_cells] at h; exact h

set_option maxHeartbeats 1600000 in
theorem l01New_any (w : World) : Calls Try.prog 59 #[] w fun e w' => ∃ g k, e = .returned (.agg #[.slice (some ⟨g, 0, none⟩) 64 64, .slice (some ⟨k, 0, none⟩) 0 0]) ∧ OwnD w' w.heap.size (some ⟨g, 0, none⟩) 64 64 (some ⟨k, 0, none⟩) 0 0 noSs [] ∧ Below w.heap.size w w' := by
  obtain ⟨i0, hi, hz0, hz1, hz2⟩ := info_parts info9'
  go_enter Try.func59, Try.ntmps59
  go_wp2_with (first | (at_make; refine wpList_make_full _ rfl _ _ 23 rfl (w.heap.size + 1) 9 i0 _ 1 Try.underlying23 hi hz0 hz1 _ _ _ _ 64 rfl rfl rfl rfl ?c1 ?c2 ?c3 ?_))
  case c1 => rw [hz2]; omega
  case c2 => unfold maxLen; omega
  case c3 => simp
  intro w1 hown hgrow
  have hB : Below (w.heap.size + 1) (w.alloc (.cells #[.slice none 0 0, .slice none 0 0] 26)) w1 := (Below.refl _ _).grown hgrow (by simp) (fun _ h => by cases h)
  have hsz : w.heap.size < w1.heap.size := by have := hB.size; simp at this; omega
  have hc0 : w1.cell? ⟨w.heap.size, 0, none⟩ = some (.slice none 0 0) := (hB.cell (by simp)).trans (by simp [go_sem])
  have hc1 : w1.cell? ⟨w.heap.size, 1, none⟩ = some (.slice none 0 0) := (hB.cell (by simp)).trans (by simp [go_sem])
  have hf0 : w1.frozen? ⟨w.heap.size, 0, none⟩ = false := (hB.frozen (by simp)).trans (by simp [go_sem])
  have hf1 : w1.frozen? ⟨w.heap.size, 1, none⟩ = false := (hB.frozen (by simp)).trans (by simp [go_sem])
  have HO := hide (noSs_own hown)
  have HB := hide ((Joins.below_alloc1 w (.cells #[.slice none 0 0, .slice none 0 0] 26)).trans (hB.mono (by omega)))
  clear hown hgrow hB
  have HO2 := hide (own_below (own_base (ownsRow_setCell_below (ownsRow_setCell_below (unhide HO) (a := ⟨w.heap.size, 0, none⟩) (by simp) (.slice (some ⟨w.heap.size + 1, 0, none⟩) 64 64)) (a := ⟨w.heap.size, 1, none⟩) (by simp) (.slice (some ⟨w1.heap.size, 0, none⟩) 0 0)) (B' := w.heap.size) (by omega)) (Joins.below_alloc1 _ (.cells #[] 59)))
  have HB2 := hide ((((unhide HB).setCell (p := ⟨w.heap.size, 0, none⟩) (Nat.le_refl _) (.slice (some ⟨w.heap.size + 1, 0, none⟩) 64 64)).setCell (p := ⟨w.heap.size, 1, none⟩) (Nat.le_refl _) (.slice (some ⟨w1.heap.size, 0, none⟩) 0 0)).alloc (by simp; omega) (.cells #[] 59))
  go_wp2
  exact bodyPost_ret (v := .agg #[.slice (some ⟨w.heap.size + 1, 0, none⟩) 64 64, .slice (some ⟨w1.heap.size, 0, none⟩) 0 0]) (by simp [results, Try.results59, go_sem, hc0, hc1, hsz]) rfl ⟨_, _, rfl, ⟨OwnR.of (unhide HO2) (fun h => by cases h), .inl ⟨rfl, rfl, _, rfl⟩⟩, unhide HB2⟩

end Go.Proofs.Ytoiclgeeaednnaa
