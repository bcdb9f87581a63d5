/- Contracts of the model's tables: TableOK, EncodeTable, DecodeTable, EntryOf, ResizeTable, ClustersOf. -/
import Derived.Test.YtegkacocemminaaDoorRows
import Derived.Test.YtegkacocemminaaDoorGen
import Derived.Test.YtegkacocemminaaDoorKeep
import Derived.Test.YtegkacocemminaaDoorApp
import Derived.Test.YtegkacocemminaaDoorInts
import Derived.Test.YtegkacocemminaaDoorOwnN
import Derived.Test.YtegkacocemminaaDoorPackC
import Derived.Test.YtegkacocemminaaDoorClkB
import Derived.Test.YtegkacocemminaaDoorSealS
import Derived.Test.YtegkacocemminaaDoorOpenS
import Derived.Test.YtegkacocemminaaDoorTbP
import Derived.WalkKit
import Derived.WalkSpells
import Derived.KernelRfl
import Derived.LoopN
import Derived.Deep.RegionWith
namespace Go.Proofs.YtegkacocemminaaDoor
open Go.RowKit
set_option linter.unusedVariables false
set_option maxRecDepth 100000

set_option maxHeartbeats 800000 in
theorem tableOK_spec (ao : Option Addr) (cap : Nat) (xs : List Int) (w : World) (hl : xs.length ≤ maxLen) (hc : Is w ao xs) :
    Calls Tryd.prog 13 #[.slice ao xs.length cap] w fun e w' => e = .returned (.bool (tbB xs)) ∧ w' = w := by
  have HC := hide hc
  clear hc
  unfold maxLen at hl
  by_cases hlong : 4096 < xs.length
  · have HF := hide (tbB_nolen (xs := xs) (by omega))
    go_enter Tryd.func13, Tryd.ntmps13
    go_wp2
    go_ret
    exact ⟨ret_bool (unhide HF).symm, rfl⟩
  go_enter Tryd.func13, Tryd.ntmps13
  go_wp2
  go_loop [3] (fun i => ∃ k : Nat, k ≤ xs.length ∧ i = .int .i64 k ∧ Hid (∀ j (h : j < xs.length), j < k → ent1 xs[j] = true)) (fun i => xs.length - (intOf i).toNat)
  case atStart => exact ⟨0, Nat.zero_le _, rfl, hide (fun j _ h => by omega)⟩
  case round =>
    obtain ⟨k, hk, rfl, HA⟩ := hrel
    by_cases hlt : k < xs.length
    · obtain ⟨b, off, rfl, hc⟩ := unhide HC k hlt
      by_cases hn : ent1 xs[k] = true
      · have HN := hide (all_succ hlt (unhide HA) hn)
        have hn' : betw xs[k] 0 25 = true := hn
        clear hn
        go_wp2_with (go_at_call 21; refine (in_any _ _ _ _).mono ?_; rintro e w' ⟨rfl, rfl⟩)
        go_round
        case rel => exact ⟨k + 1, by omega, by go_num, HN⟩
        case measure => simp [intOf]; omega
      · have hn0 : ent1 xs[k] = false := by simpa using hn
        have hn' : betw xs[k] 0 25 = false := hn0
        have HF := hide (tbB_noat hlt hn0)
        clear hn hn0
        go_wp2_with (go_at_call 21; refine (in_any _ _ _ _).mono ?_; rintro e w' ⟨rfl, rfl⟩)
        go_ret
        exact ⟨ret_bool (unhide HF).symm, rfl⟩
    · have HF := hide (tbB_all (fun j h => unhide HA j h (by omega)))
      go_wp2
      go_ret
      exact ⟨ret_bool (by rw [unhide HF, Bool.eq_iff_iff]; simp; omega), rfl⟩

def tdO (s : ByteArray) : List Int := if tdB s = true then openL s 3 else []
set_option maxHeartbeats 1600000 in
theorem l09Decode_any (s : ByteArray) (w : World) (hs : s.size ≤ 65536) :
    Calls Tryd.prog 9 #[.string s] w fun e w' => ∃ v, e = .returned (.tuple #[v, .bool (tdB s)]) ∧ OwnN w' w.heap.size v (tdO s) ∧ Below w.heap.size w w' := by
  have HOL : Hid ((openL s 3).length ≤ maxLen) := hide (by
    have h1 := unL_length (bodyT s)
    have h2 := bodyT_size s
    unfold openL maxLen
    split
    · rw [h1]; omega
    · simp)
  go_enter Tryd.func9, Tryd.ntmps9
  go_wp2_with fail
  refine (l02Open_any s 3 _ hs).mono ?_
  rintro e w1 ⟨v, rfl, ⟨qo, qa, rfl, ho⟩, hb1⟩
  have HB1 := hide hb1
  have HI := hide (ownRN ho)
  have HO := hide ho
  clear ho hb1
  cases hop : openB s 3
  · have HE : Hid (tdB s = false ∧ tdO s = []) := hide ⟨by rw [tdB, hop]; rfl, by rw [tdO, tdB, hop]; rfl⟩
    clear hop
    go_wp2
    go_ret2
    exact ⟨.slice (some ⟨w1.heap.size, 0, none⟩) 0 0, ret_nb rfl (unhide HE).1.symm, by rw [(unhide HE).2]; exact OwnN.nil _ _ _, fr (unhide HB1) (Joins.below_alloc1 _ _)⟩
  · cases hb : tbB (openL s 3)
    · have HE : Hid (tdB s = false ∧ tdO s = []) := hide ⟨by rw [tdB, hop, hb]; rfl, by rw [tdO, tdB, hop, hb]; rfl⟩
      clear hop
      generalize openL s 3 = xs at *
      go_wp2_with (go_at_call 13; refine (tableOK_spec _ _ xs _ (unhide HOL) (unhide HI)).mono ?_; rintro e w' ⟨rfl, hw⟩; replace hw := hw.symm; subst hw; rw [hb])
      go_ret2
      exact ⟨.slice (some ⟨w1.heap.size, 0, none⟩) 0 0, ret_nb rfl (unhide HE).1.symm, by rw [(unhide HE).2]; exact OwnN.nil _ _ _, fr (unhide HB1) (Joins.below_alloc1 _ _)⟩
    · have HE : Hid (tdB s = true ∧ tdO s = openL s 3) := hide ⟨by rw [tdB, hop, hb]; rfl, by rw [tdO, tdB, hop, hb]; rfl⟩
      clear hop
      generalize openL s 3 = xs at *
      go_wp2_with (go_at_call 13; refine (tableOK_spec _ _ xs _ (unhide HOL) (unhide HI)).mono ?_; rintro e w' ⟨rfl, hw⟩; replace hw := hw.symm; subst hw; rw [hb])
      go_ret2
      exact ⟨.slice qo xs.length qa, ret_nb rfl (unhide HE).1.symm, by rw [(unhide HE).2]; exact ⟨qo, qa, rfl, unhide HO⟩, unhide HB1⟩

set_option maxHeartbeats 1600000 in
theorem decodeTable_spec (s : ByteArray) (w : World) :
    Calls Tryd.prog 4 #[.string s] w fun e w' => ∃ v, e = .returned (.tuple #[v, .int .i64 (tdC s)]) ∧ OwnN w' w.heap.size v (tdR s) ∧ Below w.heap.size w w' := by
  by_cases h : 65536 < s.size
  · have HE := hide (td_long h)
    go_enter Tryd.func4, Tryd.ntmps4
    go_wp2
    go_ret2
    exact ⟨.slice (some ⟨w.heap.size, 0, none⟩) 0 0, ret_ni rfl (unhide HE).1.symm, by rw [(unhide HE).2]; exact OwnN.nil _ _ _, Joins.below_alloc1 _ _⟩
  · have hs : s.size ≤ 65536 := by omega
    cases hb : tdB s
    · have HE := hide (td_no h hb)
      have HBB := hide hb
      clear hb
      go_enter Tryd.func4, Tryd.ntmps4
      go_wp2_with fail
      refine (l09Decode_any s _ hs).mono ?_
      rintro e w1 ⟨v, rfl, ho, hb1⟩
      rw [unhide HBB]
      have HB := hide (fr hb1 (Joins.below_alloc1 _ (.cells #[] 3)))
      clear ho hb1
      go_wp2
      go_ret2
      exact ⟨.slice (some ⟨w1.heap.size, 0, none⟩) 0 0, ret_ni rfl (unhide HE).1.symm, by rw [(unhide HE).2]; exact OwnN.nil _ _ _, unhide HB⟩
    · have HE := hide (td_ok h hb)
      have HCO : Hid (tdO s = openL s 3) := hide (if_pos hb)
      have HBB := hide hb
      clear hb
      go_enter Tryd.func4, Tryd.ntmps4
      go_wp2_with fail
      refine (l09Decode_any s _ hs).mono ?_
      rintro e w1 ⟨v, rfl, ho, hb1⟩
      rw [unhide HBB]
      have HB := hide hb1
      have HO := hide ho
      clear ho hb1
      go_wp2
      go_ret2
      exact ⟨v, ret_ni rfl (unhide HE).1.symm, by rw [(unhide HE).2, ← unhide HCO]; exact unhide HO, unhide HB⟩

end Go.Proofs.YtegkacocemminaaDoor
