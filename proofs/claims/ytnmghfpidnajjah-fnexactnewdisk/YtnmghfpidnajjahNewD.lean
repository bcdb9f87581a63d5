/- Contracts of NewDisk, of the program and of its model. -/
import Derived.Test.YtnmghfpidnajjahRows
import Derived.Test.YtnmghfpidnajjahGen
import Derived.Test.YtnmghfpidnajjahKeep
import Derived.Test.YtnmghfpidnajjahMarkD
import Derived.WalkKit
import Derived.WalkSpells
namespace Go.Proofs.Ytnmghfpidnajjah
open Go.RowKit
set_option linter.unusedVariables false

def noSs : List ByteArray := List.replicate 64 ⟨#[]⟩
theorem noSs_cells : (madeCells #[Value.string ⟨#[]⟩] 64).toList = strV noSs := by rw [toList_madeCells_one]; simp [strV, noSs]
theorem noSs_len : noSs.length = 64 := by simp [noSs]
theorem info9' : (Try.prog.info? 9).map (fun i => (i.zero, i.size, i.bytes)) = some (some (.string ⟨#[]⟩), 1, 16) := by kernel_rfl

theorem noSs_own {w : World} {B g : Nat} (h : w.ownsRow B 9 1 (.slice (some ⟨g, 0, none⟩) 64 64) 64 (madeCells #[Value.string ⟨#[]⟩] 64).toList) : w.ownsRow B 9 1 (.slice (some ⟨g, 0, none⟩) 64 64) 64 (strV noSs) := by
  rw [noSs_cells] at h; exact h

set_option maxHeartbeats 1600000 in
theorem newDisk_impl (w : World) : Calls Try.prog 15 #[] w fun e w' => ∃ g, e = .returned (.agg #[.slice (some ⟨g, 0, none⟩) 64 64, .slice none 0 0]) ∧ OwnD w' w.heap.size (some ⟨g, 0, none⟩) 64 64 none 0 0 noSs [] ∧ Below w.heap.size w w' := by
  obtain ⟨i0, hi, hz0, hz1, hz2⟩ := info_parts info9'
  go_enter Try.func15, Try.ntmps15
  go_wp2_with (first | (at_make; refine wpList_make_full _ rfl _ _ 22 rfl (w.heap.size + 1) 9 i0 _ 1 Try.underlying22 hi hz0 hz1 _ _ _ _ 64 rfl rfl rfl rfl ?c1 ?c2 ?c3 ?_))
  case c1 => rw [hz2]; omega
  case c2 => unfold maxLen; omega
  case c3 => simp
  intro w1 hown hgrow
  have hB : Below (w.heap.size + 1) (w.alloc (.cells #[.slice none 0 0, .slice none 0 0] 30)) w1 := (Below.refl _ _).grown hgrow (by simp) (fun _ h => by cases h)
  have hc0 : w1.cell? ⟨w.heap.size, 0, none⟩ = some (.slice none 0 0) := (hB.cell (by simp)).trans (by simp [go_sem])
  have hc1 : w1.cell? ⟨w.heap.size, 1, none⟩ = some (.slice none 0 0) := (hB.cell (by simp)).trans (by simp [go_sem])
  have hf0 : w1.frozen? ⟨w.heap.size, 0, none⟩ = false := (hB.frozen (by simp)).trans (by simp [go_sem])
  have hf1 : w1.frozen? ⟨w.heap.size, 1, none⟩ = false := (hB.frozen (by simp)).trans (by simp [go_sem])
  have HO := hide (own_base (ownsRow_setCell_below (ownsRow_setCell_below (noSs_own hown) (a := ⟨w.heap.size, 0, none⟩) (by simp) (.slice (some ⟨w.heap.size + 1, 0, none⟩) 64 64)) (a := ⟨w.heap.size, 1, none⟩) (by simp) (.slice none 0 0)) (B' := w.heap.size) (by omega))
  have HB := hide ((((Joins.below_alloc1 w (.cells #[.slice none 0 0, .slice none 0 0] 30)).trans (hB.mono (by omega))).setCell (p := ⟨w.heap.size, 0, none⟩) (Nat.le_refl _) (.slice (some ⟨w.heap.size + 1, 0, none⟩) 64 64)).setCell (p := ⟨w.heap.size, 1, none⟩) (Nat.le_refl _) (.slice none 0 0))
  clear hown hgrow hB
  go_wp2
  exact bodyPost_ret (v := .agg #[.slice (some ⟨w.heap.size + 1, 0, none⟩) 64 64, .slice none 0 0]) (by simp [results, Try.results15, go_sem, hc0, hc1]) rfl ⟨_, rfl, ⟨unhide HO, ⟨rfl, .inl ⟨rfl, rfl⟩⟩⟩, unhide HB⟩

set_option maxHeartbeats 1600000 in
theorem l01New_any (w : World) : Calls Try.prog 35 #[] w fun e w' => ∃ g k, e = .returned (.agg #[.slice (some ⟨g, 0, none⟩) 64 64, .slice (some ⟨k, 0, none⟩) 0 0]) ∧ OwnD w' w.heap.size (some ⟨g, 0, none⟩) 64 64 (some ⟨k, 0, none⟩) 0 0 noSs [] ∧ Below w.heap.size w w' := by
  obtain ⟨i0, hi, hz0, hz1, hz2⟩ := info_parts info9'
  go_enter Try.func35, Try.ntmps35
  go_wp2_with (first | (at_make; refine wpList_make_full _ rfl _ _ 22 rfl (w.heap.size + 1) 9 i0 _ 1 Try.underlying22 hi hz0 hz1 _ _ _ _ 64 rfl rfl rfl rfl ?c1 ?c2 ?c3 ?_))
  case c1 => rw [hz2]; omega
  case c2 => unfold maxLen; omega
  case c3 => simp
  intro w1 hown hgrow
  have hB : Below (w.heap.size + 1) (w.alloc (.cells #[.slice none 0 0, .slice none 0 0] 30)) w1 := (Below.refl _ _).grown hgrow (by simp) (fun _ h => by cases h)
  have hsz : w.heap.size < w1.heap.size := by have := hB.size; simp at this; omega
  have hc0 : w1.cell? ⟨w.heap.size, 0, none⟩ = some (.slice none 0 0) := (hB.cell (by simp)).trans (by simp [go_sem])
  have hc1 : w1.cell? ⟨w.heap.size, 1, none⟩ = some (.slice none 0 0) := (hB.cell (by simp)).trans (by simp [go_sem])
  have hf0 : w1.frozen? ⟨w.heap.size, 0, none⟩ = false := (hB.frozen (by simp)).trans (by simp [go_sem])
  have hf1 : w1.frozen? ⟨w.heap.size, 1, none⟩ = false := (hB.frozen (by simp)).trans (by simp [go_sem])
  have HO := hide (noSs_own hown)
  have HB := hide ((Joins.below_alloc1 w (.cells #[.slice none 0 0, .slice none 0 0] 30)).trans (hB.mono (by omega)))
  clear hown hgrow hB
  have HO2 := hide (own_below (own_base (ownsRow_setCell_below (ownsRow_setCell_below (unhide HO) (a := ⟨w.heap.size, 0, none⟩) (by simp) (.slice (some ⟨w.heap.size + 1, 0, none⟩) 64 64)) (a := ⟨w.heap.size, 1, none⟩) (by simp) (.slice (some ⟨w1.heap.size, 0, none⟩) 0 0)) (B' := w.heap.size) (by omega)) (Joins.below_alloc1 _ (.cells #[] 50)))
  have hI := World.ownsRow_lit (e := 50) (size := 3) (base := w.heap.size) ((w1.setCell ⟨w.heap.size, 0, none⟩ (.slice (some ⟨w.heap.size + 1, 0, none⟩) 64 64)).setCell ⟨w.heap.size, 1, none⟩ (.slice (some ⟨w1.heap.size, 0, none⟩) 0 0)) #[] 0 (by simp; omega) (Nat.zero_le _) rfl
  simp only [World.size_setCell] at hI
  have HI := hide hI
  have HB2 := hide ((((unhide HB).setCell (p := ⟨w.heap.size, 0, none⟩) (Nat.le_refl _) (.slice (some ⟨w.heap.size + 1, 0, none⟩) 64 64)).setCell (p := ⟨w.heap.size, 1, none⟩) (Nat.le_refl _) (.slice (some ⟨w1.heap.size, 0, none⟩) 0 0)).alloc (by simp; omega) (.cells #[] 50))
  clear hI
  go_wp2
  exact bodyPost_ret (v := .agg #[.slice (some ⟨w.heap.size + 1, 0, none⟩) 64 64, .slice (some ⟨w1.heap.size, 0, none⟩) 0 0]) (by simp [results, Try.results35, go_sem, hc0, hc1, hsz]) rfl ⟨_, _, rfl, ⟨unhide HO2, unhide HI⟩, unhide HB2⟩

set_option maxHeartbeats 1600000 in
theorem newDisk_spec (w : World) : Calls Try.prog 14 #[] w fun e w' => ∃ g k, e = .returned (.agg #[.slice (some ⟨g, 0, none⟩) 64 64, .slice (some ⟨k, 0, none⟩) 0 0]) ∧ OwnD w' w.heap.size (some ⟨g, 0, none⟩) 64 64 (some ⟨k, 0, none⟩) 0 0 noSs [] ∧ Below w.heap.size w w' := by
  have HA := hide (Joins.below_alloc1 w (.cells #[.slice none 0 0, .slice none 0 0] 30))
  go_enter Try.func14, Try.ntmps14
  go_wp2_with fail
  refine (l01New_any _).mono ?_
  rintro e w1 ⟨g, k, rfl, ho, hb⟩
  have hc0 : w1.cell? ⟨w.heap.size, 0, none⟩ = some (.slice none 0 0) := (hb.cell (by simp)).trans (by simp [go_sem])
  have hc1 : w1.cell? ⟨w.heap.size, 1, none⟩ = some (.slice none 0 0) := (hb.cell (by simp)).trans (by simp [go_sem])
  have hf0 : w1.frozen? ⟨w.heap.size, 0, none⟩ = false := (hb.frozen (by simp)).trans (by simp [go_sem])
  have hf1 : w1.frozen? ⟨w.heap.size, 1, none⟩ = false := (hb.frozen (by simp)).trans (by simp [go_sem])
  have HS := hide (own_base (ownsRow_setCell_below (ownsRow_setCell_below ho.s (a := ⟨w.heap.size, 0, none⟩) (by simp) (.slice (some ⟨g, 0, none⟩) 64 64)) (a := ⟨w.heap.size, 1, none⟩) (by simp) (.slice (some ⟨k, 0, none⟩) 0 0)) (B' := w.heap.size) (by simp))
  have HI := hide (own_base (ownsRow_setCell_below (ownsRow_setCell_below ho.i (a := ⟨w.heap.size, 0, none⟩) (by simp) (.slice (some ⟨g, 0, none⟩) 64 64)) (a := ⟨w.heap.size, 1, none⟩) (by simp) (.slice (some ⟨k, 0, none⟩) 0 0)) (B' := w.heap.size) (by simp))
  have HB := hide (((fr (unhide HA) hb).setCell (p := ⟨w.heap.size, 0, none⟩) (Nat.le_refl _) (.slice (some ⟨g, 0, none⟩) 64 64)).setCell (p := ⟨w.heap.size, 1, none⟩) (Nat.le_refl _) (.slice (some ⟨k, 0, none⟩) 0 0))
  clear ho hb
  go_wp2
  exact bodyPost_ret (v := .agg #[.slice (some ⟨g, 0, none⟩) 64 64, .slice (some ⟨k, 0, none⟩) 0 0]) (by simp [results, Try.results14, go_sem, hc0, hc1]) rfl ⟨_, _, rfl, ⟨unhide HS, unhide HI⟩, unhide HB⟩

end Go.Proofs.Ytnmghfpidnajjah
