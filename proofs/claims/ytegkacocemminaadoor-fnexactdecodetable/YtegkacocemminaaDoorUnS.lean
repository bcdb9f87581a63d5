/- Contract of spec.l02Unpack. -/
import Derived.Test.YtegkacocemminaaDoorRows
import Derived.Test.YtegkacocemminaaDoorGen
import Derived.Test.YtegkacocemminaaDoorKeep
import Derived.Test.YtegkacocemminaaDoorApp
import Derived.Test.YtegkacocemminaaDoorInts
import Derived.Test.YtegkacocemminaaDoorNums
import Derived.Test.YtegkacocemminaaDoorUnP
import Derived.Test.YtegkacocemminaaDoorOwnN
import Derived.WalkKit
import Derived.WalkSpells
namespace Go.Proofs.YtegkacocemminaaDoor
open Go.RowKit
set_option linter.unusedVariables false
set_option maxRecDepth 100000

set_option maxHeartbeats 1600000 in
theorem l02Unpack_any (s : ByteArray) (w : World) (hs : s.size ≤ 65536) : Calls Tryd.prog 19 #[.string s] w fun e w' => ∃ v, e = .returned (.tuple #[v, .bool (okU s)]) ∧ OwnN w' w.heap.size v (listU s) ∧ Below w.heap.size w w' := by
  obtain ⟨j0, hj, hy0, hy1, hy2⟩ := info_parts infoM
  by_cases h4 : s.size % 4 = 0
  · have hb4 : ((s.size : Int) % 4 != 0) = false := by simp; omega
    have HU : Hid (listU s = unL s) := hide (if_pos h4)
    have HOK := hide (okU_even h4)
    go_enter Tryd.func19, Tryd.ntmps19
    go_wp2
    go_loopw [4, 5] (fun o i wr => ∃ (k : Nat) (qo : Option Addr) (qa : Nat), k ≤ s.size / 4 ∧ i = .int .i64 ((k : Int) * 4) ∧ o = .slice qo k qa ∧ Hid (OwnR wr w.heap.size 3 1 (.slice qo k qa) k (intV ((unL s).take k))) ∧ Hid (Below w.heap.size w wr)) (fun _ i _ => s.size - (intOf i).toNat)
    case atStart => exact ⟨0, _, _, Nat.zero_le _, rfl, rfl, hide (.inl ⟨rfl, rfl, _, rfl⟩), hide (by first | exact Below.refl _ _ | exact Joins.below_alloc1 _ _)⟩
    case round =>
      obtain ⟨k, qo, qa, hk, rfl, rfl, HO, HB⟩ := hrel
      by_cases hlt : k < s.size / 4
      · have hlt' : (k : Int) * 4 < (s.size : Int) := by omega
        go_wp2
        go_loopw [6, 7] (fun n j wq => ∃ m : Nat, m ≤ 4 ∧ j = .int .i64 (3 - (m : Int)) ∧ n = .int .i64 (hi s (k * 4) m) ∧ Hid (OwnR wq w.heap.size 3 1 (.slice qo k qa) k (intV ((unL s).take k))) ∧ Hid (Below w.heap.size w wq)) (fun _ j _ => (intOf j + 1).toNat)
        case atStart => exact ⟨0, by omega, rfl, rfl, HO, HB⟩
        case round =>
          clear HO HB
          obtain ⟨m, hm, rfl, rfl, HO, HB⟩ := hrel
          by_cases hm3 : m ≤ 3
          · obtain ⟨hh0, hh1⟩ := hi_in s (k * 4) m hm3
            have HS := hide (hi_step s (k * 4) m hm3 (by omega))
            have HW := hide (wrap_byte s[k * 4 + (3 - m)])
            go_wp2
            go_roundw
            case rel => exact ⟨m + 1, by omega, by go_num, by rw [← unhide HS, unhide HW], HO, HB⟩
            case measure => simp [intOf]; omega
          · have HE : Hid (hi s (k * 4) m = numAt s (k * 4)) := hide (by rw [show m = 4 by omega, hi_four])
            have HOA := hide ((unhide HO).below (Joins.below_alloc1 _ (.cells #[.int .i64 (hi s (k * 4) m)] 3)))
            have HBA := hide (fr (unhide HB) (Joins.below_alloc1 _ (.cells #[.int .i64 (hi s (k * 4) m)] 3)))
            have HSZ := hide (unhide HB).size
            go_wp2_with (at_builtin; refine wpList_append_one rfl _ _ 22 rfl w.heap.size 3 j0 (.int .i64 0) 1 8 Tryd.underlying22 hj hy0 hy1 hy2 rfl (by omega) qo k qa (intV ((unL s).take k)) rfl (unhide HOA) (by have := unhide HSZ; simp; omega) ⟨wr.heap.size, 0, none⟩ _ [.int .i64 (hi s (k * 4) m)] rfl rfl (byte_news wr _ _) (int_one _) (by unfold maxLen; omega) (by omega) ?_; intro g2 cap2 wA hoA hkA; have HSF := hide (And.intro hoA (keep_below (unhide HBA) (unhide HOA) (Nat.le_refl _) hkA)); clear hoA hkA)
            go_roundw
            case rel => exact ⟨k + 1, _, _, by omega, by go_num, rfl, hide (.inr ⟨by omega, by rw [unL_succ hlt, intV_snoc, ← unhide HE]; exact (unhide HSF).1⟩), hide (unhide HSF).2⟩
            case measure => simp [intOf]; omega
      · have hke : k = (unL s).length := by rw [unL_length]; omega
        have HT : Hid ((unL s).take k = unL s) := hide (List.take_of_length_le (by omega))
        have HON : Hid (OwnR wr w.heap.size 3 1 (.slice qo (unL s).length qa) (unL s).length (intV (unL s))) := hide (by have := unhide HO; rw [unhide HT, hke] at this; exact this)
        have HL := hide (unL_length s)
        have hlen : (unL s).length ≤ 1048576 := by rw [unhide HL]; omega
        subst hke
        go_wp2_with (go_at_call 24; refine (l02Ints_any _ _ (unL s) _ hlen (ownRN (unhide HON))).mono ?_; rintro e w' ⟨rfl, rfl⟩)
        go_ret2
        exact ⟨.slice qo (unL s).length qa, ret_nb rfl (unhide HOK).symm, by rw [unhide HU]; exact ⟨qo, qa, rfl, unhide HON⟩, unhide HB⟩
  · have hb4 : ((s.size : Int) % 4 != 0) = true := by simp; omega
    have HU : Hid (listU s = []) := hide (if_neg h4)
    have HOK := hide (okU_rest h4)
    go_enter Tryd.func19, Tryd.ntmps19
    go_wp2
    go_ret2
    exact ⟨.slice (some ⟨w.heap.size, 0, none⟩) 0 0, ret_nb rfl (unhide HOK).symm, by rw [unhide HU]; exact OwnN.nil _ _ _, by first | exact Below.refl _ _ | exact Joins.below_alloc1 _ _⟩

end Go.Proofs.YtegkacocemminaaDoor
