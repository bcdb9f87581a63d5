/- The walk of laws.FnExactNewDisk. -/
import Derived.Test.YtgcbofhjgomjoabRows
import Derived.Test.YtgcbofhjgomjoabGen
import Derived.Test.YtgcbofhjgomjoabEq
import Derived.Test.YtgcbofhjgomjoabKeep
import Derived.Test.YtgcbofhjgomjoabMarkD
import Derived.Test.YtgcbofhjgomjoabNewD
import Derived.WalkKit
import Derived.WalkSpells
namespace Go.Proofs.Ytgcbofhjgomjoab
open Go.RowKit
set_option linter.unusedVariables false

theorem noSs_sizes : ∀ s ∈ noSs, s.size ≤ maxLen := by
  intro s hs
  rw [List.eq_of_mem_replicate hs]
  exact Nat.zero_le _
theorem no_sizes : ∀ x ∈ ([] : List Wr), x.data.size ≤ maxLen := fun x hx => by cases hx

theorem eqDisk_new (ao bo co do_ : Option Addr) (ca cb cc cd : Nat) (w : World) (h1 : Ss w ao noSs) (h2 : Ios w bo []) (h3 : Ss w co noSs) (h4 : Ios w do_ []) :
    Calls Try.prog 13 #[.agg #[.slice ao 64 ca, .slice bo 0 cb], .agg #[.slice co 64 cc, .slice do_ 0 cd]] w fun e w' => e = .returned (.bool true) ∧ Below w.heap.size w w' := by
  have h := eqDisk_any ao bo co do_ ca cb cc cd noSs noSs [] [] w (by rw [noSs_len]; decide) (Nat.zero_le _) h1 h2 h3 h4
  rw [noSs_len, eqB_self] at h
  exact h

set_option maxHeartbeats 3200000 in
theorem lawNewDisk (w : World) : Calls Try.prog 5 #[] w fun e w' => e = .returned (.bool true) ∧ Below w.heap.size w w' := by
  go_enter Try.func5, Try.ntmps5
  go_wp2_with fail
  refine (newDisk_spec _).mono ?_
  rintro e w1 ⟨g, k, rfl, ho1, hb1⟩
  -- the model's disk lies in the variable at w1's end
  have HA1 := hide (Joins.below_alloc1 w1 (.cells #[.slice (some ⟨g, 0, none⟩) 64 64, .slice (some ⟨k, 0, none⟩) 0 0] 31))
  have HW := hide (ho1.below (unhide HA1))
  have HV := hide (VarD.new w1 (.slice (some ⟨g, 0, none⟩) 64 64) (.slice (some ⟨k, 0, none⟩) 0 0))
  have HB := hide (fr hb1 (unhide HA1))
  clear ho1 hb1
  go_wp2_with fail
  refine (newDisk_impl _).mono ?_
  rintro e w2 ⟨g2, rfl, ho2, hb2⟩
  have HA2 := hide (Joins.below_alloc1 w2 (.cells #[.slice (some ⟨g2, 0, none⟩) 64 64, .slice none 0 0] 31))
  have HG := hide (ho2.below (unhide HA2))
  have HX := hide (VarD.new w2 (.slice (some ⟨g2, 0, none⟩) 64 64) (.slice none 0 0))
  have HC2 := hide (fr hb2 (unhide HA2))
  have HW2 := hide ((unhide HW).below (unhide HC2))
  have HV2 := hide ((unhide HV).below (unhide HC2))
  have hlt : w1.heap.size < w2.heap.size := ((unhide HV).below hb2).lt
  obtain ⟨hv0, hv1⟩ := ((unhide HV).below hb2).cells
  clear ho2 hb2
  go_wp2_with fail
  refine (eqDisk_new _ _ _ _ _ _ _ _ _ ((unhide HG).ss noSs_sizes) ((unhide HG).ios no_sizes) ((unhide HW2).ss noSs_sizes) ((unhide HW2).ios no_sizes)).mono ?_
  rintro e w3 ⟨rfl, hb3⟩
  have HG3 := hide ((unhide HG).below hb3)
  have HX3 := hide ((unhide HX).below hb3)
  have HC3 := hide (fr (unhide HC2) hb3)
  obtain ⟨hx0, hx1⟩ := (unhide HX3).cells
  clear hb3 hv0 hv1
  -- the program's disk is marked, and holds its marks
  go_wp2_with fail
  refine (markDisk_one _ _ _ _ _ _ _ _ _ _ (by omega) (by omega) (unhide HG3)).mono ?_
  rintro e w4 ⟨rfl, ho4, hk4⟩
  have HX4 := hide ((unhide HX3).keep hk4 ((unhide HG3).other (unhide HX3) (by decide) (by decide)))
  have HC4 := hide ((unhide HC3).trans (hk4.below (B := (w1.alloc (.cells #[.slice (some ⟨g, 0, none⟩) 64 64, .slice (some ⟨k, 0, none⟩) 0 0] 31)).heap.size) (unhide HC3).size (fun j hj => ((unhide HG3).ge j hj).1)))
  have HG4 := hide ho4
  clear ho4 hk4 hx0 hx1
  obtain ⟨hx0, hx1⟩ := (unhide HX4).cells
  go_wp2_with fail
  refine (heldDisk_one _ _ _ _ _ _ _ _ (by omega) (by omega) (unhide HG4)).mono ?_
  rintro e w5 ⟨rfl, hb5⟩
  have HG5 := hide ((unhide HG4).below hb5)
  have HX5 := hide ((unhide HX4).below hb5)
  have HC5 := hide (fr (unhide HC4) hb5)
  clear hb5 hx0 hx1
  -- another disk, and the first still holds its marks
  go_wp2_with fail
  refine (newDisk_impl _).mono ?_
  rintro e w6 ⟨g6, rfl, ho6, hb6⟩
  have HA6 := hide (Joins.below_alloc1 w6 (.cells #[.slice (some ⟨g6, 0, none⟩) 64 64, .slice none 0 0] 31))
  have HD6 := hide (fr hb6 (unhide HA6))
  have HN6 := hide (ho6.below (unhide HA6))
  have HG6 := hide ((unhide HG5).below (unhide HD6))
  have HX6 := hide ((unhide HX5).below (unhide HD6))
  have HC6 := hide (fr (unhide HC5) (unhide HD6))
  have HW6 := hide ((unhide HW).below (unhide HC6))
  have hlt6 : w1.heap.size < w6.heap.size := ((unhide HV).below (fr (unhide HC5) hb6)).lt
  obtain ⟨hv0, hv1⟩ := ((unhide HV).below (fr (unhide HC5) hb6)).cells
  clear ho6 hb6
  go_wp2_with fail
  refine (eqDisk_new _ _ _ _ _ _ _ _ _ ((unhide HN6).ss noSs_sizes) ((unhide HN6).ios no_sizes) ((unhide HW6).ss noSs_sizes) ((unhide HW6).ios no_sizes)).mono ?_
  rintro e w7 ⟨rfl, hb7⟩
  have HG7 := hide ((unhide HG6).below hb7)
  have HX7 := hide ((unhide HX6).below hb7)
  have HC7 := hide (fr (unhide HC6) hb7)
  clear hb7 hv0 hv1
  obtain ⟨hx0, hx1⟩ := (unhide HX7).cells
  go_wp2_with fail
  refine (heldDisk_one _ _ _ _ _ _ _ _ (by omega) (by omega) (unhide HG7)).mono ?_
  rintro e w8 ⟨rfl, hb8⟩
  have HB8 := hide (fr (unhide HB) (fr (unhide HC7) hb8))
  clear hb8
  go_wp2
  go_ret
  exact ⟨rfl, unhide HB8⟩

end Go.Proofs.Ytgcbofhjgomjoab
