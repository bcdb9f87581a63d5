/- Contracts of NewDisk, of the program and of its model. -/
import Derived.Test.YtgcbofhjgomjoabRows
import Derived.Test.YtgcbofhjgomjoabGen
import Derived.Test.YtgcbofhjgomjoabKeep
import Derived.Test.YtgcbofhjgomjoabDiskW
import Derived.Test.YtgcbofhjgomjoabNewS
import Derived.WalkKit
import Derived.WalkSpells
namespace Go.Proofs.Ytgcbofhjgomjoab
open Go.RowKit
set_option linter.unusedVariables false

set_option maxHeartbeats 1600000 in
theorem newDisk_impl (w : World) : Calls Try.prog 15 #[] w fun e w' => ∃ g, e = .returned (.agg #[.slice (some ⟨g, 0, none⟩) 64 64, .slice none 0 0]) ∧ OwnD w' w.heap.size (some ⟨g, 0, none⟩) 64 64 none 0 0 noSs [] ∧ Below w.heap.size w w' := by
  obtain ⟨i0, hi, hz0, hz1, hz2⟩ := info_parts info9'
  go_enter Try.func15, Try.ntmps15
  go_wp2_with (first | (at_make; refine wpList_make_full _ rfl _ _ 23 rfl (w.heap.size + 1) 9 i0 _ 1 Try.underlying23 hi hz0 hz1 _ _ _ _ 64 rfl rfl rfl rfl ?c1 ?c2 ?c3 ?_))
  case c1 => rw [hz2]; omega
  case c2 => unfold maxLen; omega
  case c3 => simp
  intro w1 hown hgrow
  have hB : Below (w.heap.size + 1) (w.alloc (.cells #[.slice none 0 0, .slice none 0 0] 31)) w1 := (Below.refl _ _).grown hgrow (by simp) (fun _ h => by cases h)
  have hc0 : w1.cell? ⟨w.heap.size, 0, none⟩ = some (.slice none 0 0) := (hB.cell (by simp)).trans (by simp [go_sem])
  have hc1 : w1.cell? ⟨w.heap.size, 1, none⟩ = some (.slice none 0 0) := (hB.cell (by simp)).trans (by simp [go_sem])
  have hf0 : w1.frozen? ⟨w.heap.size, 0, none⟩ = false := (hB.frozen (by simp)).trans (by simp [go_sem])
  have hf1 : w1.frozen? ⟨w.heap.size, 1, none⟩ = false := (hB.frozen (by simp)).trans (by simp [go_sem])
  have HO := hide (own_base (ownsRow_setCell_below (ownsRow_setCell_below (noSs_own hown) (a := ⟨w.heap.size, 0, none⟩) (by simp) (.slice (some ⟨w.heap.size + 1, 0, none⟩) 64 64)) (a := ⟨w.heap.size, 1, none⟩) (by simp) (.slice none 0 0)) (B' := w.heap.size) (by omega))
  have HB := hide ((((Joins.below_alloc1 w (.cells #[.slice none 0 0, .slice none 0 0] 31)).trans (hB.mono (by omega))).setCell (p := ⟨w.heap.size, 0, none⟩) (Nat.le_refl _) (.slice (some ⟨w.heap.size + 1, 0, none⟩) 64 64)).setCell (p := ⟨w.heap.size, 1, none⟩) (Nat.le_refl _) (.slice none 0 0))
  clear hown hgrow hB
  go_wp2
  exact bodyPost_ret (v := .agg #[.slice (some ⟨w.heap.size + 1, 0, none⟩) 64 64, .slice none 0 0]) (by simp [results, Try.results15, go_sem, hc0, hc1]) rfl ⟨_, rfl, ⟨OwnR.of (unhide HO) (fun h => by cases h), .inl ⟨rfl, rfl, none, rfl⟩⟩, unhide HB⟩

set_option maxHeartbeats 1600000 in
theorem newDisk_spec (w : World) : Calls Try.prog 14 #[] w fun e w' => ∃ g k, e = .returned (.agg #[.slice (some ⟨g, 0, none⟩) 64 64, .slice (some ⟨k, 0, none⟩) 0 0]) ∧ OwnD w' w.heap.size (some ⟨g, 0, none⟩) 64 64 (some ⟨k, 0, none⟩) 0 0 noSs [] ∧ Below w.heap.size w w' := by
  have HA := hide (Joins.below_alloc1 w (.cells #[.slice none 0 0, .slice none 0 0] 31))
  go_enter Try.func14, Try.ntmps14
  go_wp2_with fail
  refine (l01New_any _).mono ?_
  rintro e w1 ⟨g, k, rfl, ho, hb⟩
  have hc0 : w1.cell? ⟨w.heap.size, 0, none⟩ = some (.slice none 0 0) := (hb.cell (by simp)).trans (by simp [go_sem])
  have hc1 : w1.cell? ⟨w.heap.size, 1, none⟩ = some (.slice none 0 0) := (hb.cell (by simp)).trans (by simp [go_sem])
  have hf0 : w1.frozen? ⟨w.heap.size, 0, none⟩ = false := (hb.frozen (by simp)).trans (by simp [go_sem])
  have hf1 : w1.frozen? ⟨w.heap.size, 1, none⟩ = false := (hb.frozen (by simp)).trans (by simp [go_sem])
  have HS := hide (((ho.setCell (a := ⟨w.heap.size, 0, none⟩) (by simp) (.slice (some ⟨g, 0, none⟩) 64 64)).setCell (a := ⟨w.heap.size, 1, none⟩) (by simp) (.slice (some ⟨k, 0, none⟩) 0 0)).base (B' := w.heap.size) (by simp))
  have HB := hide (((fr (unhide HA) hb).setCell (p := ⟨w.heap.size, 0, none⟩) (Nat.le_refl _) (.slice (some ⟨g, 0, none⟩) 64 64)).setCell (p := ⟨w.heap.size, 1, none⟩) (Nat.le_refl _) (.slice (some ⟨k, 0, none⟩) 0 0))
  clear ho hb
  go_wp2
  exact bodyPost_ret (v := .agg #[.slice (some ⟨g, 0, none⟩) 64 64, .slice (some ⟨k, 0, none⟩) 0 0]) (by simp [results, Try.results14, go_sem, hc0, hc1]) rfl ⟨_, _, rfl, unhide HS, unhide HB⟩

end Go.Proofs.Ytgcbofhjgomjoab
