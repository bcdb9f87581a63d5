/- Contracts of the model's readers of records: l02Open, OpenRecord, KindOf. -/
import Derived.Test.YtegkacocemminaaDoorRows
import Derived.Test.YtegkacocemminaaDoorGen
import Derived.Test.YtegkacocemminaaDoorInts
import Derived.Test.YtegkacocemminaaDoorNums
import Derived.Test.YtegkacocemminaaDoorUnP
import Derived.Test.YtegkacocemminaaDoorUnS
import Derived.Test.YtegkacocemminaaDoorSealP
import Derived.Test.YtegkacocemminaaDoorSealS
import Derived.Test.YtegkacocemminaaDoorRecM
import Derived.WalkKit
import Derived.WalkSpells
namespace Go.Proofs.YtegkacocemminaaDoor
open Go.RowKit
set_option linter.unusedVariables false
set_option maxRecDepth 100000

/-- What l02Open answers. -/
def openB (s : ByteArray) (k : Int) : Bool := recB s && decide (byteAt s 0 = k)
def openL (s : ByteArray) (k : Int) : List Int := if openB s k = true then unL (bodyT s) else []
theorem openB_no {s : ByteArray} {k : Int} (h : ¬ RecP s) : openB s k = false := by rw [openB, recB_false h]; rfl
theorem openB_kind {s : ByteArray} {k : Int} (h : byteAt s 0 ≠ k) : openB s k = false := by rw [openB, decide_eq_false h]; simp
theorem openB_yes {s : ByteArray} {k : Int} (h : RecP s) (hk : byteAt s 0 = k) : openB s k = true := by rw [openB, recB_true h, decide_eq_true hk]; rfl
theorem openL_no {s : ByteArray} {k : Int} (h : openB s k = false) : openL s k = [] := if_neg (by simp [h])
theorem openL_yes {s : ByteArray} {k : Int} (h : openB s k = true) : openL s k = unL (bodyT s) := if_pos h

set_option maxHeartbeats 1600000 in
theorem l02Open_any (s : ByteArray) (k : Int) (w : World) (hs : s.size ≤ 65536) : Calls Tryd.prog 12 #[.string s, .int .i64 k] w fun e w' => ∃ v, e = .returned (.tuple #[v, .bool (openB s k)]) ∧ OwnN w' w.heap.size v (openL s k) ∧ Below w.heap.size w w' := by
  by_cases h4 : s.size < 4
  · have HB0 := hide (openB_no (s := s) (k := k) (fun h => by have := h.1; omega))
    have HL0 := hide (openL_no (unhide HB0))
    have h4i : (s.size : Int) < 4 := by omega
    go_enter Tryd.func12, Tryd.ntmps12
    go_wp2
    go_ret2
    exact ⟨.slice (some ⟨w.heap.size, 0, none⟩) 0 0, ret_nb rfl (unhide HB0).symm, by rw [unhide HL0]; exact OwnN.nil _ _ _, Joins.below_alloc1 _ _⟩
  have h4' : 4 ≤ s.size := by omega
  have h4i : ¬ (s.size : Int) < 4 := by omega
  have h0 : 0 < s.size := by omega
  have HG := hide (byteAt_get (s := s) (k := 0) h0)
  have hwb := wrap_byte s[0]
  by_cases hk : byteAt s 0 = k
  · have hkb : ((s[0].toNat : Int) != k) = false := by rw [← unhide HG, hk]; simp
    have HK := hide hk
    clear hk
    cases hkk : kindB k with
    | true =>
      have hkin := kindB_in hkk
      cases hok : okU (bodyT s) with
      | true =>
        have HP := hide (okU_parts hok)
        have HI := hide (seal_iff h4' (by rw [unhide HK]; exact hkk) hok)
        have HLU : Hid (listU (bodyT s) = unL (bodyT s)) := hide (if_pos (unhide HP).1)
        have HIN := hide (intsB_parts (unhide HP).2.2)
        have hbs : (bodyT s).size ≤ 65536 := by rw [bodyT_size]; omega
        by_cases hr : RecP s
        · have HB0 := hide (openB_yes hr (unhide HK))
          have HL0 := hide (openL_yes (unhide HB0))
          have hse : ((sealS k (unL (bodyT s))).toList == s.toList) = true := by
            have := (unhide HI).2 hr
            rw [unhide HK] at this
            rw [this]; simp
          clear hr
          go_enter Tryd.func12, Tryd.ntmps12
          go_wp2_with (go_at_call 18; refine (l02Kind_any _ _).mono ?_; rintro e w' ⟨rfl, hw⟩; replace hw := hw.symm; subst hw)
          refine (l02Unpack_any (bodyT s) _ hbs).mono ?_
          rintro e w1 ⟨v, rfl, ho, hb⟩
          rw [unhide HLU] at ho
          obtain ⟨qo, qa, rfl, ho⟩ := ho
          have HO := hide ho
          have HB := hide hb
          clear ho hb
          go_wp2_with (go_at_call 20; refine (l02Seal_any k _ _ (unL (bodyT s)) _ hkin (unhide HIN).2 (unhide HIN).1 (ownRN (unhide HO))).mono ?_; rintro e w2 ⟨rfl, hb2⟩; have HB2 := hide (fr (unhide HB) hb2); have HO2 := hide ((unhide HO).below hb2); clear hb2)
          go_ret2
          exact ⟨.slice qo (unL (bodyT s)).length qa, ret_nb rfl (unhide HB0).symm, by rw [unhide HL0]; exact ⟨qo, qa, rfl, unhide HO2⟩, unhide HB2⟩
        · have HB0 := hide (openB_no (k := k) hr)
          have HL0 := hide (openL_no (unhide HB0))
          have hse : ((sealS k (unL (bodyT s))).toList == s.toList) = false := str_beq_false (fun e => hr ((unhide HI).1 (by rw [unhide HK]; exact e)))
          clear hr
          go_enter Tryd.func12, Tryd.ntmps12
          go_wp2_with (go_at_call 18; refine (l02Kind_any _ _).mono ?_; rintro e w' ⟨rfl, hw⟩; replace hw := hw.symm; subst hw)
          refine (l02Unpack_any (bodyT s) _ hbs).mono ?_
          rintro e w1 ⟨v, rfl, ho, hb⟩
          rw [unhide HLU] at ho
          obtain ⟨qo, qa, rfl, ho⟩ := ho
          have HO := hide ho
          have HB := hide hb
          clear ho hb
          go_wp2_with (go_at_call 20; refine (l02Seal_any k _ _ (unL (bodyT s)) _ hkin (unhide HIN).2 (unhide HIN).1 (ownRN (unhide HO))).mono ?_; rintro e w2 ⟨rfl, hb2⟩; have HB2 := hide (fr (unhide HB) hb2); clear hb2)
          go_ret2
          exact ⟨.slice (some ⟨w2.heap.size, 0, none⟩) 0 0, ret_nb rfl (unhide HB0).symm, by rw [unhide HL0]; exact OwnN.nil _ _ _, fr (unhide HB2) (Joins.below_alloc1 _ _)⟩
      | false =>
        have HB0 := hide (openB_no (s := s) (k := k) (fun h => by have := h.2.2.2.2.2; rw [hok] at this; cases this))
        have HL0 := hide (openL_no (unhide HB0))
        have hbs : (bodyT s).size ≤ 65536 := by rw [bodyT_size]; omega
        go_enter Tryd.func12, Tryd.ntmps12
        go_wp2_with (go_at_call 18; refine (l02Kind_any _ _).mono ?_; rintro e w' ⟨rfl, hw⟩; replace hw := hw.symm; subst hw)
        refine (l02Unpack_any (bodyT s) _ hbs).mono ?_
        rintro e w1 ⟨v, rfl, ho, hb⟩
        have HB := hide hb
        clear ho hb
        go_wp2
        go_ret2
        exact ⟨.slice (some ⟨w1.heap.size, 0, none⟩) 0 0, ret_nb rfl (unhide HB0).symm, by rw [unhide HL0]; exact OwnN.nil _ _ _, fr (unhide HB) (Joins.below_alloc1 _ _)⟩
    | false =>
      have HB0 := hide (openB_no (s := s) (k := k) (fun h => by have := h.2.1; rw [unhide HK, hkk] at this; cases this))
      have HL0 := hide (openL_no (unhide HB0))
      go_enter Tryd.func12, Tryd.ntmps12
      go_wp2_with (go_at_call 18; refine (l02Kind_any _ _).mono ?_; rintro e w' ⟨rfl, hw⟩; replace hw := hw.symm; subst hw)
      go_ret2
      exact ⟨.slice (some ⟨w.heap.size, 0, none⟩) 0 0, ret_nb rfl (unhide HB0).symm, by rw [unhide HL0]; exact OwnN.nil _ _ _, Joins.below_alloc1 _ _⟩
  · have hkb : ((s[0].toNat : Int) != k) = true := by rw [← unhide HG]; simp [hk]
    have HB0 := hide (openB_kind hk)
    have HL0 := hide (openL_no (unhide HB0))
    clear hk
    go_enter Tryd.func12, Tryd.ntmps12
    go_wp2
    go_ret2
    exact ⟨.slice (some ⟨w.heap.size, 0, none⟩) 0 0, ret_nb rfl (unhide HB0).symm, by rw [unhide HL0]; exact OwnN.nil _ _ _, Joins.below_alloc1 _ _⟩

end Go.Proofs.YtegkacocemminaaDoor
