/- Contract of spec.OpenRecord. -/
import Derived.Test.YtoiclgeeaednnadDoorRows
import Derived.Test.YtoiclgeeaednnadDoorGen
import Derived.Test.YtoiclgeeaednnadDoorInts
import Derived.Test.YtoiclgeeaednnadDoorNums
import Derived.Test.YtoiclgeeaednnadDoorUnP
import Derived.Test.YtoiclgeeaednnadDoorUnS
import Derived.Test.YtoiclgeeaednnadDoorSealP
import Derived.Test.YtoiclgeeaednnadDoorSealS
import Derived.Test.YtoiclgeeaednnadDoorRecM
import Derived.Test.YtoiclgeeaednnadDoorOpenS
import Derived.WalkKit
import Derived.WalkSpells
namespace Go.Proofs.YtoiclgeeaednnadDoor
open Go.RowKit
set_option linter.unusedVariables false
set_option maxRecDepth 100000

set_option maxHeartbeats 800000 in
theorem openRecord_spec (s : ByteArray) (k : Int) (w : World) : Calls Tryd.prog 11 #[.string s, .int .i64 k] w fun e w' => ∃ v, e = .returned (.tuple #[v, .int .i64 (opC s k)]) ∧ OwnN w' w.heap.size v (opR s k) ∧ Below w.heap.size w w' := by
  by_cases h1 : 65536 < s.size
  · have HF := hide (opC_long (k := k) h1)
    have HR := hide (opR_no (s := s) (k := k) (by rw [unhide HF]; decide))
    go_enter Tryd.func11, Tryd.ntmps11
    go_wp2
    go_ret2
    exact ⟨.slice (some ⟨w.heap.size, 0, none⟩) 0 0, ret_ni rfl (unhide HF).symm, by rw [unhide HR]; exact OwnN.nil _ _ _, Joins.below_alloc1 _ _⟩
  have h2 : s.size ≤ 65536 := by omega
  cases hkk : kindB k with
  | false =>
    have HF := hide (opC_kind h1 hkk)
    have HR := hide (opR_no (s := s) (k := k) (by rw [unhide HF]; decide))
    go_enter Tryd.func11, Tryd.ntmps11
    go_wp2_with (go_at_call 18; refine (l02Kind_any _ _).mono ?_; rintro e w' ⟨rfl, hw⟩; replace hw := hw.symm; subst hw)
    go_ret2
    exact ⟨.slice (some ⟨w.heap.size, 0, none⟩) 0 0, ret_ni rfl (unhide HF).symm, by rw [unhide HR]; exact OwnN.nil _ _ _, Joins.below_alloc1 _ _⟩
  | true =>
    cases hob : openB s k with
    | true =>
      have HF : Hid (opC s k = 0) := hide (by
        simp only [openB, Bool.and_eq_true, decide_eq_true_eq] at hob
        exact opC_ok h1 hkk hob.1 hob.2)
      have HR := hide (opR_ok (unhide HF))
      have HL0 := hide (openL_yes hob)
      go_enter Tryd.func11, Tryd.ntmps11
      go_wp2_with (first | (go_at_call 18; refine (l02Kind_any _ _).mono ?_; rintro e w' ⟨rfl, hw⟩; replace hw := hw.symm; subst hw) | (go_at_call 19; refine (l02Open_any s k _ h2).mono ?_; rintro e w1 ⟨v, rfl, ho, hb⟩; have HO := hide ho; have HB := hide hb; clear ho hb))
      go_ret2
      exact ⟨v, ret_ni rfl (unhide HF).symm, by rw [unhide HR, ← unhide HL0]; exact unhide HO, unhide HB⟩
    | false =>
      have HF : Hid (opC s k = 3) := hide (opC_no h1 hkk (fun h => by
        rw [openB, h.1, decide_eq_true h.2] at hob
        cases hob))
      have HR := hide (opR_no (s := s) (k := k) (by rw [unhide HF]; decide))
      go_enter Tryd.func11, Tryd.ntmps11
      go_wp2_with (first | (go_at_call 18; refine (l02Kind_any _ _).mono ?_; rintro e w' ⟨rfl, hw⟩; replace hw := hw.symm; subst hw) | (go_at_call 19; refine (l02Open_any s k _ h2).mono ?_; rintro e w1 ⟨v, rfl, ho, hb⟩; have HB := hide hb; clear ho hb))
      go_ret2
      exact ⟨.slice (some ⟨w1.heap.size, 0, none⟩) 0 0, ret_ni rfl (unhide HF).symm, by rw [unhide HR]; exact OwnN.nil _ _ _, fr (unhide HB) (Joins.below_alloc1 _ _)⟩

end Go.Proofs.YtoiclgeeaednnadDoor
