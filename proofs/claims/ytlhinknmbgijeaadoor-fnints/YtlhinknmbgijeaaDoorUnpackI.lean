/- Contract of impl.UnpackInts. -/
import Derived.Test.YtlhinknmbgijeaaDoorRows
import Derived.Test.YtlhinknmbgijeaaDoorGen
import Derived.Test.YtlhinknmbgijeaaDoorUnP
import Derived.Test.YtlhinknmbgijeaaDoorOwnN
import Derived.Test.YtlhinknmbgijeaaDoorUnI
import Derived.Test.YtlhinknmbgijeaaDoorText
import Derived.WalkKit
import Derived.WalkSpells
namespace Go.Proofs.YtlhinknmbgijeaaDoor
open Go.RowKit
set_option linter.unusedVariables false
set_option maxRecDepth 100000

set_option maxHeartbeats 800000 in
theorem unpackInts_impl (s : ByteArray) (w : World) (hE : ErrW w) : Calls Tryd.prog 9 #[.string s] w fun e w' => ∃ v, e = .returned (.tuple #[v, .int .i64 (unC s)]) ∧ OwnN w' w.heap.size v (unR s) ∧ Below w.heap.size w w' := by
  have HE := hide hE
  clear hE
  by_cases h1 : 65536 < s.size
  · have HF := hide (unC_long h1)
    have HR := hide (unR_no (s := s) (by rw [unhide HF]; decide))
    go_enter Tryd.func9, Tryd.ntmps9
    go_wp2_with fail
    refine (readText_long s _ h1 _).mono ?_
    rintro e w1 ⟨rfl, hb⟩
    have HB := hide hb
    clear hb
    go_wp2
    go_ret2
    exact ⟨.slice none 0 0, ret_ni rfl (unhide HF).symm, by rw [unhide HR]; exact OwnN.nil _ _ _, unhide HB⟩
  have h2 : s.size ≤ 65536 := by omega
  cases hok : okU s with
  | true =>
    have HF := hide (unC_ok h1 hok)
    have HR := hide (unR_ok (unhide HF))
    go_enter Tryd.func9, Tryd.ntmps9
    go_wp2_with fail
    refine (readText_yes s _ h2 hok).mono ?_
    rintro e w1 ⟨v, rfl, ho, hb⟩
    have HO := hide ho
    have HB := hide hb
    clear ho hb
    go_wp2
    go_ret2
    exact ⟨v, ret_ni rfl (unhide HF).symm, by rw [unhide HR]; exact unhide HO, unhide HB⟩
  | false =>
    have HF := hide (unC_bad h1 hok)
    have HR := hide (unR_no (s := s) (by rw [unhide HF]; decide))
    go_enter Tryd.func9, Tryd.ntmps9
    go_wp2_with fail
    refine (readText_no s _ h2 hok (unhide HE)).mono ?_
    rintro e w1 ⟨rfl, hb⟩
    have HB := hide hb
    clear hb
    go_wp2
    go_ret2
    exact ⟨.slice none 0 0, ret_ni rfl (unhide HF).symm, by rw [unhide HR]; exact OwnN.nil _ _ _, unhide HB⟩

end Go.Proofs.YtlhinknmbgijeaaDoor
