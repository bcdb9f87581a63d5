/- Contract of spec.KindOf. -/
import Derived.Test.YtgcbofhjgomjoadDoorRows
import Derived.Test.YtgcbofhjgomjoadDoorGen
import Derived.Test.YtgcbofhjgomjoadDoorInts
import Derived.Test.YtgcbofhjgomjoadDoorUnP
import Derived.Test.YtgcbofhjgomjoadDoorUnS
import Derived.Test.YtgcbofhjgomjoadDoorOwnN
import Derived.Test.YtgcbofhjgomjoadDoorRecM
import Derived.Test.YtgcbofhjgomjoadDoorOpenS
import Derived.WalkKit
import Derived.WalkSpells
namespace Go.Proofs.YtgcbofhjgomjoadDoor
open Go.RowKit
set_option linter.unusedVariables false

set_option maxHeartbeats 800000 in
theorem kindOf_spec (s : ByteArray) (w : World) : Calls Tryd.prog 13 #[.string s] w fun e w' => e = .returned (.tuple #[.int .i64 (kdR s), .int .i64 (kdC s)]) ∧ Below w.heap.size w w' := by
  by_cases h1 : 65536 < s.size
  · have HF := hide (kdC_long h1)
    have HR := hide (kdR_no (s := s) (by rw [unhide HF]; decide))
    go_enter Tryd.func13, Tryd.ntmps13
    go_wp2
    go_ret2
    exact ⟨ret_two2 (unhide HR).symm (unhide HF).symm, Below.refl _ _⟩
  have h2 : s.size ≤ 65536 := by omega
  by_cases h0 : s.size = 0
  · have HF := hide (kdC_no h1 (recB_false (s := s) (fun h => by have := h.1; omega)))
    have HR := hide (kdR_no (s := s) (by rw [unhide HF]; decide))
    have he : (s.toList == []) = true := by
      have : s.toList = [] := by rw [ByteArray.toList_eq]; apply List.eq_nil_of_length_eq_zero; simpa using h0
      rw [this]; rfl
    go_enter Tryd.func13, Tryd.ntmps13
    go_wp2
    go_ret2
    exact ⟨ret_two2 (unhide HR).symm (unhide HF).symm, Below.refl _ _⟩
  have hp : 0 < s.size := by omega
  have hwb := wrap_byte s[0]
  have hbg := byteAt_get (s := s) (k := 0) hp
  have HBG := hide hbg
  have he : (s.toList == []) = false := by
    rw [beq_eq_false_iff_ne]
    intro e
    rw [ByteArray.toList_eq] at e
    have h3 := congrArg List.length e
    rw [size_list, List.length_nil] at h3
    omega
  clear hbg
  cases hrb : recB s with
  | true =>
    have HF := hide (kdC_ok h1 hrb)
    have HR := hide (kdR_ok (unhide HF))
    have hob : openB s (s[0].toNat : Int) = true := openB_yes (recB_iff.1 hrb) (unhide HBG)
    go_enter Tryd.func13, Tryd.ntmps13
    go_wp2_with (go_at_call 19; refine (l02Open_any s _ _ h2).mono ?_; rintro e w1 ⟨v, rfl, ho, hb⟩; have HB := hide hb; clear ho hb)
    go_ret2
    exact ⟨ret_two2 (by rw [unhide HR, unhide HBG]; exact hwb) (unhide HF).symm, unhide HB⟩
  | false =>
    have HF := hide (kdC_no h1 hrb)
    have HR := hide (kdR_no (s := s) (by rw [unhide HF]; decide))
    have hob : openB s (s[0].toNat : Int) = false := openB_no (fun h => by rw [recB_true h] at hrb; cases hrb)
    go_enter Tryd.func13, Tryd.ntmps13
    go_wp2_with (go_at_call 19; refine (l02Open_any s _ _ h2).mono ?_; rintro e w1 ⟨v, rfl, ho, hb⟩; have HB := hide hb; clear ho hb)
    go_ret2
    exact ⟨ret_two2 (unhide HR).symm (unhide HF).symm, unhide HB⟩

end Go.Proofs.YtgcbofhjgomjoadDoor
