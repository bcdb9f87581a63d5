/- Contract of spec.UnpackInts. -/
import Derived.Test.YtgcbofhjgomjoadDoorRows
import Derived.Test.YtgcbofhjgomjoadDoorGen
import Derived.Test.YtgcbofhjgomjoadDoorInts
import Derived.Test.YtgcbofhjgomjoadDoorUnP
import Derived.Test.YtgcbofhjgomjoadDoorUnS
import Derived.WalkKit
import Derived.WalkSpells
namespace Go.Proofs.YtgcbofhjgomjoadDoor
open Go.RowKit
set_option linter.unusedVariables false

theorem listU_ok {s : ByteArray} (h : okU s = true) : listU s = unL s := by
  by_cases h4 : s.size % 4 = 0
  · exact if_pos h4
  · rw [okU_rest h4] at h; cases h

set_option maxHeartbeats 800000 in
theorem unpackInts_spec (s : ByteArray) (w : World) : Calls Tryd.prog 6 #[.string s] w fun e w' => ∃ v, e = .returned (.tuple #[v, .int .i64 (unC s)]) ∧ OwnN w' w.heap.size v (unR s) ∧ Below w.heap.size w w' := by
  by_cases h1 : 65536 < s.size
  · have HF := hide (unC_long h1)
    have HR := hide (unR_no (s := s) (by rw [unhide HF]; decide))
    go_enter Tryd.func6, Tryd.ntmps6
    go_wp2
    go_ret2
    exact ⟨.slice (some ⟨w.heap.size, 0, none⟩) 0 0, ret_ni rfl (unhide HF).symm, by rw [unhide HR]; exact OwnN.nil _ _ _, Joins.below_alloc1 _ _⟩
  have h2 : s.size ≤ 65536 := by omega
  cases hok : okU s with
  | true =>
    have HF := hide (unC_ok h1 hok)
    have HR := hide (unR_ok (unhide HF))
    have HL := hide (listU_ok hok)
    go_enter Tryd.func6, Tryd.ntmps6
    go_wp2_with fail
    refine (l02Unpack_any s _ h2).mono ?_
    rintro e w1 ⟨v, rfl, ho, hb⟩
    have HO := hide ho
    have HB := hide hb
    clear ho hb
    go_wp2
    go_ret2
    exact ⟨v, ret_ni rfl (unhide HF).symm, by rw [unhide HR, ← unhide HL]; exact unhide HO, unhide HB⟩
  | false =>
    have HF := hide (unC_bad h1 hok)
    have HR := hide (unR_no (s := s) (by rw [unhide HF]; decide))
    go_enter Tryd.func6, Tryd.ntmps6
    go_wp2_with fail
    refine (l02Unpack_any s _ h2).mono ?_
    rintro e w1 ⟨v, rfl, ho, hb⟩
    have HB := hide hb
    clear ho hb
    go_wp2
    go_ret2
    exact ⟨.slice (some ⟨w1.heap.size, 0, none⟩) 0 0, ret_ni rfl (unhide HF).symm, by rw [unhide HR]; exact OwnN.nil _ _ _, fr (unhide HB) (Joins.below_alloc1 _ _)⟩

end Go.Proofs.YtgcbofhjgomjoadDoor
