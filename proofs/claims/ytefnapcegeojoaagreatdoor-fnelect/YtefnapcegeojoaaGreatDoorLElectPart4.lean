import Derived.Test.YtefnapcegeojoaaGreatDoorLElectPart1
import Derived.Test.YtefnapcegeojoaaGreatDoorLElectPart3
import Derived.WalkKit
import Derived.Laws.BytesArg
import Derived.Test.YtefnapcegeojoaaGreatDoorRows
import Derived.WalkSpells
import Derived.Deep.RegionWith
import Derived.Test.YtefnapcegeojoaaGreatDoorLElectPart2
import Derived.KernelRfl
import Derived.Lib.SmallJoins
import Derived.Deep.RegionHeld3

namespace Go.Proofs.YtefnapcegeojoaaGreatDoor
open Go.RowKit
set_option linter.unusedVariables false

theorem byteAt_list (s : ByteArray) (k : Nat) : byteAt s k = ((s.data.toList[k]?.getD 0).toNat : Int) := by simp [byteAt]
theorem list_eq {a b : ByteArray} (h : a.data.toList = b.data.toList) : a = b := by
  cases a; cases b
  simpa using Array.toList_inj.1 h
theorem size_list (s : ByteArray) : s.data.toList.length = s.size := by simp
theorem bytes_eq {a b : ByteArray} (hs : a.size = b.size) (h : ∀ k, k < a.size → byteAt a k = byteAt b k) : a = b := by
  apply list_eq
  apply List.ext_getElem
  · rw [size_list, size_list, hs]
  · intro i h1 h2
    rw [size_list] at h1
    have := h i h1
    rw [byteAt_list, byteAt_list, List.getElem?_eq_getElem (by rw [size_list]; exact h1), List.getElem?_eq_getElem h2] at this
    simp only [Option.getD_some] at this
    exact UInt8.toNat_inj.1 (by omega)
theorem byteAt_nums {ns : List Int} {k : Nat} (h : k < ns.length) (h0 : 0 ≤ ns[k]) (h1 : ns[k] ≤ 255) : byteAt (strOfNums ns) k = ns[k] := by
  rw [byteAt_list, strOfNums_data, List.getElem?_map, List.getElem?_eq_getElem h]
  simp only [Option.map_some, Option.getD_some]
  have : ns[k].toNat < 256 := by omega
  rw [UInt8.toNat_ofNat_of_lt' (by simpa using this)]
  omega
theorem byteAt_left {a b : ByteArray} {k : Nat} (h : k < a.size) : byteAt (a ++ b) k = byteAt a k := by
  have e : (a ++ b).data.toList = a.data.toList ++ b.data.toList := by simp
  rw [byteAt_list, byteAt_list, e, List.getElem?_append_left (by rw [size_list]; exact h)]
theorem byteAt_right {a b : ByteArray} {k : Nat} (h : a.size ≤ k) : byteAt (a ++ b) k = byteAt b (k - a.size) := by
  have e : (a ++ b).data.toList = a.data.toList ++ b.data.toList := by simp
  rw [byteAt_list, byteAt_list, e, List.getElem?_append_right (by rw [size_list]; exact h), size_list]
theorem byteAt_cut {u : ByteArray} {a b j : Nat} (hb : b ≤ u.size) (h : a + j < b) : byteAt (u.extract a b) j = byteAt u (a + j) := by
  have e : (u.extract a b).data = u.data.extract a b := by simp
  unfold byteAt
  have : j < min b u.data.size - a := by have : b ≤ u.data.size := hb; omega
  rw [e, Array.getElem?_extract, if_pos this]

def bodyT (s : ByteArray) : ByteArray := s.extract 4 s.size
def headT (s : ByteArray) : ByteArray := s.extract 0 2
theorem bodyT_size (s : ByteArray) : (bodyT s).size = s.size - 4 := by simp [bodyT]
theorem headT_size {s : ByteArray} (h : 4 ≤ s.size) : (headT s).size = 2 := by simp [headT]; omega
theorem headT_eq {s : ByteArray} (h : 4 ≤ s.size) : headT s = strOfNums [byteAt s 0, byteAt s 1] := by
  have h0 := byteAt_in s 0
  have h1 := byteAt_in s 1
  apply bytes_eq
  · rw [headT_size h, strOfNums_size]; rfl
  · intro k hk
    rw [headT_size h] at hk
    rw [headT, byteAt_cut (by omega) (by omega)]
    rcases (show k = 0 ∨ k = 1 by omega) with rfl | rfl
    · rw [byteAt_nums (by simp) (by simp; omega) (by simp; omega)]; simp
    · rw [byteAt_nums (by simp) (by simp; omega) (by simp; omega)]; simp
theorem bodyT_byte {s : ByteArray} {k : Nat} (h : 4 + k < s.size) : byteAt (bodyT s) k = byteAt s (4 + k) := by rw [bodyT, byteAt_cut (Nat.le_refl _) h]

theorem four_num (s : ByteArray) (i j : Nat) (hj : j < 4) : byteN (numAt s i) j = byteAt s (i + j) := by
  have h0 := byteAt_in s i
  have h1 := byteAt_in s (i + 1)
  have h2 := byteAt_in s (i + 2)
  have h3 := byteAt_in s (i + 3)
  unfold byteN numAt
  rcases (show j = 0 ∨ j = 1 ∨ j = 2 ∨ j = 3 by omega) with rfl | rfl | rfl | rfl
  · simp only [Nat.add_zero]; omega
  · show (byteAt s i + byteAt s (i + 1) * 256 + byteAt s (i + 2) * 65536 + byteAt s (i + 3) * 16777216) / 256 % 256 = _; omega
  · show (byteAt s i + byteAt s (i + 1) * 256 + byteAt s (i + 2) * 65536 + byteAt s (i + 3) * 16777216) / 65536 % 256 = _; omega
  · show (byteAt s i + byteAt s (i + 1) * 256 + byteAt s (i + 2) * 65536 + byteAt s (i + 3) * 16777216) / 16777216 % 256 = _; omega
theorem packL_at : ∀ (xs : List Int) (i j : Nat) (hi : i < xs.length) (hj : j < 4), (packL xs)[i * 4 + j]? = some (byteN xs[i] j)
  | [], i, _, hi, _ => absurd hi (Nat.not_lt_zero _)
  | x :: xs, 0, j, _, hj => by
    show (four x ++ packL xs)[0 * 4 + j]? = _
    rw [List.getElem?_append_left (by rw [four, fourTo_length]; omega)]
    simp [four, fourTo, hj]
  | x :: xs, i + 1, j, hi, hj => by
    show (four x ++ packL xs)[(i + 1) * 4 + j]? = _
    rw [List.getElem?_append_right (by rw [four, fourTo_length]; omega), four, fourTo_length, show (i + 1) * 4 + j - 4 = i * 4 + j by omega]
    have := packL_at xs i j (by simpa using hi) hj
    simpa using this
theorem pack_un {s : ByteArray} (h4 : s.size % 4 = 0) : packS (unL s) = s := by
  apply bytes_eq
  · rw [packS_size, unL_length]; omega
  · intro k hk
    rw [packS_size, unL_length] at hk
    have hq : k / 4 < (unL s).length := by rw [unL_length]; omega
    have h1 := packL_at (unL s) (k / 4) (k % 4) hq (by omega)
    rw [show k / 4 * 4 + k % 4 = k by omega, unL_get hq, four_num s _ _ (by omega), show k / 4 * 4 + k % 4 = k by omega] at h1
    obtain ⟨hkl, h2⟩ := List.getElem?_eq_some_iff.1 h1
    have hb := byteAt_in s k
    rw [packS, byteAt_nums hkl (by rw [h2]; omega) (by rw [h2]; omega), h2]

def RecP (s : ByteArray) : Prop := 4 ≤ s.size ∧ kindB (byteAt s 0) = true ∧ byteAt s 3 = 0 ∧ ((bodyT s).size : Int) = byteAt s 1 * 4 ∧ byteAt s 2 = sumS (headT s ++ bodyT s) ∧ okU (bodyT s) = true
def recB (s : ByteArray) : Bool := decide (4 ≤ s.size) && (kindB (byteAt s 0) && (decide (byteAt s 3 = 0) && (decide (((bodyT s).size : Int) = byteAt s 1 * 4) && (decide (byteAt s 2 = sumS (headT s ++ bodyT s)) && okU (bodyT s)))))
theorem recB_iff {s : ByteArray} : recB s = true ↔ RecP s := by simp only [recB, RecP, Bool.and_eq_true, decide_eq_true_eq]
theorem recB_true {s : ByteArray} (h : RecP s) : recB s = true := recB_iff.2 h
theorem recB_false {s : ByteArray} (h : ¬ RecP s) : recB s = false := by
  rw [← Bool.not_eq_true]
  exact fun e => h (recB_iff.1 e)

theorem okU_parts {s : ByteArray} (h : okU s = true) : s.size % 4 = 0 ∧ s.size ≤ 64 ∧ intsB (unL s) = true := by
  by_cases h4 : s.size % 4 = 0
  · by_cases hl : 64 < s.size
    · rw [okU_long hl] at h; cases h
    · rw [okU_even h4] at h; exact ⟨h4, by omega, h⟩
  · rw [okU_rest h4] at h; cases h

theorem seal_iff {s : ByteArray} (hs : 4 ≤ s.size) (hk : kindB (byteAt s 0) = true) (hu : okU (bodyT s) = true) : sealS (byteAt s 0) (unL (bodyT s)) = s ↔ RecP s := by
  obtain ⟨h4, h64, hints⟩ := okU_parts hu
  have hp := pack_un h4
  have hl := unL_length (bodyT s)
  have hbs := bodyT_size s
  have hk' := kindB_in hk
  have hr := sumR_in (byteAt s 0) (unL (bodyT s))
  have hz := sealS_size (byteAt s 0) (unL (bodyT s))
  have b1 := byteAt_in s 1
  have hhs : (strOfNums (headR (byteAt s 0) (unL (bodyT s)))).size = 4 := strOfNums_size _
  have hhead : ∀ j (hj : j < 4), byteAt (sealS (byteAt s 0) (unL (bodyT s))) j = (headR (byteAt s 0) (unL (bodyT s)))[j]'(by simpa [headR] using hj) := by
    intro j hj
    rw [sealS, byteAt_left (by rw [hhs]; exact hj), byteAt_nums]
    · rcases (show j = 0 ∨ j = 1 ∨ j = 2 ∨ j = 3 by omega) with rfl | rfl | rfl | rfl <;> simp [headR] <;> omega
    · rcases (show j = 0 ∨ j = 1 ∨ j = 2 ∨ j = 3 by omega) with rfl | rfl | rfl | rfl <;> simp [headR] <;> omega
  have hrest : ∀ j, 4 ≤ j → byteAt (sealS (byteAt s 0) (unL (bodyT s))) j = byteAt (bodyT s) (j - 4) := by
    intro j hj
    rw [sealS, byteAt_right (by rw [hhs]; exact hj), hhs, hp]
  constructor
  · intro e
    have e1 := hhead 1 (by omega)
    have e2 := hhead 2 (by omega)
    have e3 := hhead 3 (by omega)
    rw [e] at e1 e2 e3
    simp only [headR, List.getElem_cons_succ, List.getElem_cons_zero] at e1 e2 e3
    refine ⟨hs, hk, e3, by omega, ?_, hu⟩
    rw [e2, sumR, sumT, hp, headT_eq hs, e1]
  · rintro ⟨_, _, h3, hcnt, hsum, _⟩
    have hlen : (((unL (bodyT s)).length : Nat) : Int) = byteAt s 1 := by omega
    have hsr : sumR (byteAt s 0) (unL (bodyT s)) = byteAt s 2 := by rw [sumR, sumT, hp, hlen, ← headT_eq hs, hsum]
    apply bytes_eq
    · rw [hz]; omega
    · intro k hk2
      rw [hz] at hk2
      by_cases hk4 : k < 4
      · rw [hhead k hk4]
        rcases (show k = 0 ∨ k = 1 ∨ k = 2 ∨ k = 3 by omega) with rfl | rfl | rfl | rfl
        · simp [headR]
        · simp [headR, hlen]
        · simp [headR, hsr]
        · simp [headR, h3]
      · rw [hrest k (by omega), bodyT_byte (by omega), show 4 + (k - 4) = k by omega]

end Go.Proofs.YtefnapcegeojoaaGreatDoor

namespace Go.Proofs.YtefnapcegeojoaaGreatDoor
open Go.RowKit
set_option linter.unusedVariables false

theorem infoM : (Tryz.prog.info? 3).map (fun i => (i.zero, i.size, i.bytes)) = some (some (.int .i64 0), 1, 8) := by kernel_rfl
theorem int_one (n : Int) : ∀ u ∈ [Value.int .i64 n], u.oneCell' = true := by
  intro u hu
  simp at hu
  subst hu
  rfl

def OwnN (w : World) (B : Nat) (v : Value) (xs : List Int) : Prop := ∃ qo qa, v = .slice qo xs.length qa ∧ OwnR w B 3 1 (.slice qo xs.length qa) xs.length (intV xs)
theorem OwnN.nil (w : World) (B : Nat) (ao : Option Addr) : OwnN w B (.slice ao 0 0) [] := ⟨ao, 0, rfl, .inl ⟨rfl, rfl, ao, rfl⟩⟩

theorem ret_nb {v u : Value} {a b : Bool} (h : v = u) (k : a = b) : Ending.returned (.tuple #[v, .bool a]) = .returned (.tuple #[u, .bool b]) := by rw [h, k]
end Go.Proofs.YtefnapcegeojoaaGreatDoor

namespace Go.Proofs.YtefnapcegeojoaaGreatDoor
open Go.RowKit
set_option linter.unusedVariables false
set_option maxRecDepth 100000

set_option maxHeartbeats 1600000 in
theorem l02Unpack_any (s : ByteArray) (w : World) (hs : s.size ≤ 65536) : Calls Tryz.prog 147 #[.string s] w fun e w' => ∃ v, e = .returned (.tuple #[v, .bool (okU s)]) ∧ OwnN w' w.heap.size v (listU s) ∧ Below w.heap.size w w' := by
  obtain ⟨j0, hj, hy0, hy1, hy2⟩ := info_parts infoM
  by_cases h4 : s.size % 4 = 0
  · have hb4 : ((s.size : Int) % 4 != 0) = false := by simp; omega
    have HU : Hid (listU s = unL s) := hide (if_pos h4)
    have HOK := hide (okU_even h4)
    go_enter Tryz.func147, Tryz.ntmps147
    go_wp2
    go_loopw [4, 5] (fun o i wr => ∃ (k : Nat) (qo : Option Addr) (qa : Nat), k ≤ s.size / 4 ∧ i = .int .i64 ((k : Int) * 4) ∧ o = .slice qo k qa ∧ Hid (OwnR wr w.heap.size 3 1 (.slice qo k qa) k (intV ((unL s).take k))) ∧ Hid (Below w.heap.size w wr)) (fun _ i _ => s.size - (intOf i).toNat)
    case atStart => exact ⟨0, _, _, Nat.zero_le _, rfl, rfl, hide (.inl ⟨rfl, rfl, _, rfl⟩), hide (by first | exact Below.refl _ _ | exact Joins.below_alloc1 _ _)⟩
    case round =>
      obtain ⟨k, qo, qa, hk, rfl, rfl, HO, HB⟩ := hrel
      by_cases hlt : k < s.size / 4
      · have hlt' : (k : Int) * 4 < (s.size : Int) := by omega
        go_wp2
        go_loopw [6, 7] (fun n j wq => ∃ m : Nat, m ≤ 4 ∧ j = .int .i64 (3 - (m : Int)) ∧ n = .int .i64 (hi s (k * 4) m) ∧ Hid (OwnR wq w.heap.size 3 1 (.slice qo k qa) k (intV ((unL s).take k))) ∧ Hid (Below w.heap.size w wq)) (fun _ j _ => (intOf j + 1).toNat)
        case atStart => exact ⟨0, by omega, rfl, rfl, HO, HB⟩
        case round =>
          clear HO HB
          obtain ⟨m, hm, rfl, rfl, HO, HB⟩ := hrel
          by_cases hm3 : m ≤ 3
          · obtain ⟨hh0, hh1⟩ := hi_in s (k * 4) m hm3
            have HS := hide (hi_step s (k * 4) m hm3 (by omega))
            have HW := hide (wrap_byte s[k * 4 + (3 - m)])
            go_wp2
            go_roundw
            case rel => exact ⟨m + 1, by omega, by go_num, by rw [← unhide HS, unhide HW], HO, HB⟩
            case measure => simp [intOf]; omega
          · have HE : Hid (hi s (k * 4) m = numAt s (k * 4)) := hide (by rw [show m = 4 by omega, hi_four])
            have HOA := hide ((unhide HO).below (Joins.below_alloc1 _ (.cells #[.int .i64 (hi s (k * 4) m)] 3)))
            have HBA := hide (fr (unhide HB) (Joins.below_alloc1 _ (.cells #[.int .i64 (hi s (k * 4) m)] 3)))
            have HSZ := hide (unhide HB).size
            go_wp2_with (at_builtin; refine wpList_append_one rfl _ _ 77 rfl w.heap.size 3 j0 (.int .i64 0) 1 8 Tryz.underlying77 hj hy0 hy1 hy2 rfl (by omega) qo k qa (intV ((unL s).take k)) rfl (unhide HOA) (by have := unhide HSZ; simp; omega) ⟨wr.heap.size, 0, none⟩ _ [.int .i64 (hi s (k * 4) m)] rfl rfl (byte_news wr _ _) (int_one _) (by unfold maxLen; omega) (by omega) ?_; intro g2 cap2 wA hoA hkA; have HSF := hide (And.intro hoA (keep_below (unhide HBA) (unhide HOA) (Nat.le_refl _) hkA)); clear hoA hkA)
            go_roundw
            case rel => exact ⟨k + 1, _, _, by omega, by go_num, rfl, hide (.inr ⟨by omega, by rw [unL_succ hlt, intV_snoc, ← unhide HE]; exact (unhide HSF).1⟩), hide (unhide HSF).2⟩
            case measure => simp [intOf]; omega
      · have hke : k = (unL s).length := by rw [unL_length]; omega
        have HT : Hid ((unL s).take k = unL s) := hide (List.take_of_length_le (by omega))
        have HON : Hid (OwnR wr w.heap.size 3 1 (.slice qo (unL s).length qa) (unL s).length (intV (unL s))) := hide (by have := unhide HO; rw [unhide HT, hke] at this; exact this)
        have HL := hide (unL_length s)
        have hlen : (unL s).length ≤ 1048576 := by rw [unhide HL]; omega
        subst hke
        go_wp2_with (go_at_call 161; refine (l02Ints_any _ _ (unL s) _ hlen (ownRN (unhide HON))).mono ?_; rintro e w' ⟨rfl, rfl⟩)
        go_ret2
        exact ⟨.slice qo (unL s).length qa, ret_nb rfl (unhide HOK).symm, by rw [unhide HU]; exact ⟨qo, qa, rfl, unhide HON⟩, unhide HB⟩
  · have hb4 : ((s.size : Int) % 4 != 0) = true := by simp; omega
    have HU : Hid (listU s = []) := hide (if_neg h4)
    have HOK := hide (okU_rest h4)
    go_enter Tryz.func147, Tryz.ntmps147
    go_wp2
    go_ret2
    exact ⟨.slice (some ⟨w.heap.size, 0, none⟩) 0 0, ret_nb rfl (unhide HOK).symm, by rw [unhide HU]; exact OwnN.nil _ _ _, by first | exact Below.refl _ _ | exact Joins.below_alloc1 _ _⟩

end Go.Proofs.YtefnapcegeojoaaGreatDoor

namespace Go.Proofs.YtefnapcegeojoaaGreatDoor
open Go.RowKit
set_option linter.unusedVariables false
set_option maxRecDepth 100000

theorem l02Sum_any (s : ByteArray) (w : World) (hs : s.size ≤ 1048576) :
    Calls Tryz.prog 128 #[.string s] w fun e w' => e = .returned (.int .i64 (sumS s)) ∧ w' = w := by
  go_enter Tryz.func128, Tryz.ntmps128
  go_wp2
  go_loop [3, 4] (fun n i => ∃ k : Nat, k ≤ s.size ∧ i = .int .i64 k ∧ n = .int .i64 (sumTo s k)) (fun _ i => s.size - (intOf i).toNat)
  case atStart => exact ⟨0, Nat.zero_le _, rfl, rfl⟩
  case round =>
    obtain ⟨k, hk, rfl, rfl⟩ := hrel
    by_cases hlt : k < s.size
    · have HN := hide (sumTo_walk hlt (by omega))
      go_wp2
      go_round
      case rel => exact ⟨k + 1, by omega, by go_num, by rw [← unhide HN]⟩
      case measure => simp [intOf]; omega
    · go_wp2
      go_ret
      exact ⟨ret_int (by rw [sumS, show k = s.size by omega]), rfl⟩

theorem sumOf_impl (s : ByteArray) (w : World) (hs : s.size ≤ 1048576) :
    Calls Tryz.prog 92 #[.string s] w fun e w' => e = .returned (.int .i64 (sumC s)) ∧ w' = w := by
  by_cases h1 : 65536 < s.size
  · have HF := hide (sumC_long h1)
    go_enter Tryz.func92, Tryz.ntmps92
    go_wp2
    go_ret
    exact ⟨ret_int (unhide HF).symm, rfl⟩
  have HF := hide (sumC_short (s := s) (by omega))
  go_enter Tryz.func92, Tryz.ntmps92
  go_wp2
  go_loop [3, 4] (fun n i => ∃ k : Nat, k ≤ s.size ∧ i = .int .i64 k ∧ n = .int .i64 (sumTo s k)) (fun _ i => s.size - (intOf i).toNat)
  case atStart => exact ⟨0, Nat.zero_le _, rfl, rfl⟩
  case round =>
    obtain ⟨k, hk, rfl, rfl⟩ := hrel
    by_cases hlt : k < s.size
    · have HN := hide (sumTo_walk hlt (by omega))
      go_wp2
      go_round
      case rel => exact ⟨k + 1, by omega, by go_num, by rw [← unhide HN]⟩
      case measure => simp [intOf]; omega
    · go_wp2
      go_ret
      exact ⟨ret_int (by rw [unhide HF, sumS, show k = s.size by omega]), rfl⟩

end Go.Proofs.YtefnapcegeojoaaGreatDoor

namespace Go.Proofs.YtefnapcegeojoaaGreatDoor
open Go.RowKit
set_option linter.unusedVariables false

theorem infoB : (Tryz.prog.info? 5).map (fun i => (i.zero, i.size, i.bytes)) = some (some (.int .u8 0), 1, 1) := by kernel_rfl

theorem ret_str {a b : ByteArray} (h : a = b) : Ending.returned (.string a) = .returned (.string b) := by rw [h]

set_option maxRecDepth 100000 in
set_option maxHeartbeats 1600000 in
theorem l02Pack_any (ao : Option Addr) (cap : Nat) (xs : List Int) (w : World) (hl : xs.length ≤ 4096) (hn : ∀ j (h : j < xs.length), 0 ≤ xs[j] ∧ xs[j] ≤ 2147483647) (hc : Is w ao xs) :
    Calls Tryz.prog 127 #[.slice ao xs.length cap] w fun e w' => e = .returned (.string (packS xs)) ∧ Below w.heap.size w w' := by
  have HC := hide hc
  have HN := hide hn
  clear hc hn
  obtain ⟨j0, hj, hy0, hy1, hy2⟩ := info_parts infoB
  go_enter Tryz.func127, Tryz.ntmps127
  go_wp2
  go_loopw [3, 4] (fun o i wr => ∃ (k : Nat) (qo : Option Addr) (qa : Nat), k ≤ xs.length ∧ i = .int .i64 k ∧ o = .slice qo (k * 4) qa ∧ Hid (OwnR wr w.heap.size 5 1 (.slice qo (k * 4) qa) (k * 4) (byteV (packL (xs.take k)))) ∧ Hid (Below w.heap.size w wr)) (fun _ i _ => xs.length - (intOf i).toNat)
  case atStart => exact ⟨0, _, _, Nat.zero_le _, rfl, rfl, hide (.inl ⟨rfl, rfl, _, rfl⟩), hide (by first | exact Below.refl _ _ | exact Joins.below_alloc1 _ _)⟩
  case round =>
    obtain ⟨k, qo, qa, hk, rfl, rfl, HO, HB⟩ := hrel
    by_cases hlt : k < xs.length
    · obtain ⟨b, off, rfl, hc⟩ := (unhide HC).below (unhide HB) k hlt
      obtain ⟨h0, h1⟩ := unhide HN k hlt
      go_wp2
      go_loopw [3, 5, 6] (fun o m i wq => ∃ (j : Nat) (qo : Option Addr) (qa : Nat), j ≤ 4 ∧ i = .int .i64 j ∧ m = .int .i64 (shN xs[k] j) ∧ o = .slice qo (k * 4 + j) qa ∧ Hid (OwnR wq w.heap.size 5 1 (.slice qo (k * 4 + j) qa) (k * 4 + j) (byteV (packL (xs.take k) ++ fourTo xs[k] j))) ∧ Hid (Below w.heap.size w wq)) (fun _ _ i _ => 4 - (intOf i).toNat)
      case atStart => exact ⟨0, qo, qa, by omega, rfl, by simp [shN], rfl, hide (by simpa [fourTo] using unhide HO), HB⟩
      case round =>
        clear HO HB
        obtain ⟨j, qo, qa, hj4, rfl, rfl, rfl, HO, HB⟩ := hrel
        obtain ⟨hs0, hs1⟩ := shN_in h0 h1 j
        by_cases hj4 : j < 4
        · have HOA := hide ((unhide HO).below (Joins.below_alloc1 _ (.cells #[.int .u8 (shN xs[k] j % 256)] 5)))
          have HBA := hide (fr (unhide HB) (Joins.below_alloc1 _ (.cells #[.int .u8 (shN xs[k] j % 256)] 5)))
          have HSZ := hide (unhide HB).size
          have HSH := hide (shN_succ xs[k] j)
          go_wp2_with (at_builtin; refine wpList_append_one rfl _ _ 22 rfl w.heap.size 5 j0 (.int .u8 0) 1 1 Tryz.underlying22 hj hy0 hy1 hy2 rfl (by omega) qo (k * 4 + j) qa (byteV (packL (xs.take k) ++ fourTo xs[k] j)) rfl (unhide HOA) (by have := unhide HSZ; simp; omega) ⟨wr.heap.size, 0, none⟩ _ [.int .u8 (shN xs[k] j % 256)] rfl rfl (byte_news wr _ _) (byte_one _) (by unfold maxLen; omega) (by omega) ?_; intro g2 cap2 wA hoA hkA; have HSF := hide (And.intro hoA (keep_below (unhide HBA) (unhide HOA) (Nat.le_refl _) hkA)); clear hoA hkA)
          go_roundw
          case rel => exact ⟨j + 1, _, _, by omega, by go_num, by rw [unhide HSH], rfl, hide (.inr ⟨by omega, by rw [fourTo_succ, ← List.append_assoc, byteV_snoc, ← shN_byte]; exact (unhide HSF).1⟩), hide (unhide HSF).2⟩
          case measure => simp [intOf]; omega
        · have HE : Hid (j = 4) := hide (by omega)
          go_wp2
          go_roundw
          case rel => exact ⟨k + 1, qo, qa, by omega, by go_num, by rw [unhide HE, show (k + 1) * 4 = k * 4 + 4 by omega], hide (by have := unhide HO; rw [unhide HE] at this; rw [packL_succ hlt, show (k + 1) * 4 = k * 4 + 4 by omega]; exact this), HB⟩
          case measure => simp [intOf]; omega
    · have HE : Hid (xs.take k = xs) := hide (List.take_of_length_le (by omega))
      have hcv := convert_own (P := Tryz.prog) Tryz.underlying22 Tryz.underlying5 Tryz.underlying9 (unhide HO)
      go_wp2
      go_ret
      exact ⟨ret_str (by rw [unhide HE]; rfl), unhide HB⟩

end Go.Proofs.YtefnapcegeojoaaGreatDoor

namespace Go.Proofs.YtefnapcegeojoaaGreatDoor
open Go.RowKit
set_option linter.unusedVariables false
set_option maxRecDepth 100000

theorem l02Kind_any (n : Int) (w : World) : Calls Tryz.prog 146 #[.int .i64 n] w fun e w' => e = .returned (.bool (kindB n)) ∧ w' = w := by
  go_enter Tryz.func146, Tryz.ntmps146
  go_wp2_with (go_at_call 40; refine (l01In_num _ _ _ _).mono ?_; rintro e w' ⟨rfl, rfl⟩)
  go_ret
  exact ⟨rfl, rfl⟩
theorem lit2 (W : World) (g : Nat) (a b : Int) (h : W.heap.size = g) : (convert 22 9 (.slice (some ⟨g, 0, none⟩) 2 2)).run Tryz.prog (W.alloc (.cells #[.int .u8 a, .int .u8 b] 5)) = .ok (.string (strOfNums [a, b])) (W.alloc (.cells #[.int .u8 a, .int .u8 b] 5)) := by
  subst h
  refine run_convert_bytes_arg _ 22 5 Tryz.underlying22 Tryz.underlying5 W.heap.size 0 2 2 [a, b] rfl ?_ 9 Tryz.underlying9
  intro i hi
  rcases (show i = 0 ∨ i = 1 by omega) with rfl | rfl <;> simp [go_sem, List.getD]

theorem sum_spec (k : Int) (xs : List Int) (w : World) (hl : xs.length ≤ 16) : Calls Tryz.prog 128 #[.string (strOfNums [k, (xs.length : Int)] ++ packS xs)] w fun e w' => e = .returned (.int .i64 (sumR k xs)) ∧ w' = w :=
  l02Sum_any (sumT k xs) w (by rw [sumT_size]; omega)
set_option maxHeartbeats 1600000 in
theorem l02Seal_any (k : Int) (ao : Option Addr) (cap : Nat) (xs : List Int) (w : World) (hk : 1 ≤ k ∧ k ≤ 9) (hl : xs.length ≤ 16) (hn : ∀ j (h : j < xs.length), 0 ≤ xs[j] ∧ xs[j] ≤ 2147483647) (hc : Is w ao xs) :
    Calls Tryz.prog 99 #[.int .i64 k, .slice ao xs.length cap] w fun e w' => e = .returned (.string (sealS k xs)) ∧ Below w.heap.size w w' := by
  have HC := hide hc
  have HN := hide hn
  clear hc hn
  have hp := packS_size xs
  have hs2 : (strOfNums [k, (xs.length : Int)]).size = 2 := strOfNums_size _
  go_enter Tryz.func99, Tryz.ntmps99
  go_wp2_with fail
  refine (l02Pack_any _ _ xs _ (by omega) (unhide HN) (unhide HC)).mono ?_
  rintro e w1 ⟨rfl, hb1⟩
  have HB1 := hide hb1
  have hc1 := lit2 w1 w1.heap.size k xs.length rfl
  clear hb1
  go_wp2_with fail
  refine (sum_spec k xs _ hl).mono ?_
  rintro e w2 ⟨rfl, rfl⟩
  obtain ⟨hr0, hr1⟩ := sumR_in k xs
  have hc2 := lit2 (w1.alloc (.cells #[.int .u8 k, .int .u8 xs.length] 5)) (w1.heap.size + 1) (sumR k xs) 0 (by simp)
  have hs3 : (strOfNums [sumR k xs, 0]).size = 2 := strOfNums_size _
  have hs4 : (strOfNums [k, (xs.length : Int)] ++ strOfNums [sumR k xs, 0]).size = 4 := by rw [ByteArray.size_append, hs2, hs3]
  have HE := hide (sealS_parts k xs)
  go_wp2
  go_ret
  exact ⟨ret_str (unhide HE), fr (unhide HB1) (Joins.below_alloc2 _ _ _)⟩

end Go.Proofs.YtefnapcegeojoaaGreatDoor

namespace Go.Proofs.YtefnapcegeojoaaGreatDoor
open Go.RowKit
set_option linter.unusedVariables false
set_option maxRecDepth 100000

def openB (s : ByteArray) (k : Int) : Bool := recB s && decide (byteAt s 0 = k)
def openL (s : ByteArray) (k : Int) : List Int := if openB s k = true then unL (bodyT s) else []
theorem openB_no {s : ByteArray} {k : Int} (h : ¬ RecP s) : openB s k = false := by rw [openB, recB_false h]; rfl
theorem openB_kind {s : ByteArray} {k : Int} (h : byteAt s 0 ≠ k) : openB s k = false := by rw [openB, decide_eq_false h]; simp
theorem openB_yes {s : ByteArray} {k : Int} (h : RecP s) (hk : byteAt s 0 = k) : openB s k = true := by rw [openB, recB_true h, decide_eq_true hk]; rfl
theorem openL_no {s : ByteArray} {k : Int} (h : openB s k = false) : openL s k = [] := if_neg (by simp [h])
theorem openL_yes {s : ByteArray} {k : Int} (h : openB s k = true) : openL s k = unL (bodyT s) := if_pos h

set_option maxHeartbeats 1600000 in
theorem l02Open_any (s : ByteArray) (k : Int) (w : World) (hs : s.size ≤ 65536) : Calls Tryz.prog 126 #[.string s, .int .i64 k] w fun e w' => ∃ v, e = .returned (.tuple #[v, .bool (openB s k)]) ∧ OwnN w' w.heap.size v (openL s k) ∧ Below w.heap.size w w' := by
  by_cases h4 : s.size < 4
  · have HB0 := hide (openB_no (s := s) (k := k) (fun h => by have := h.1; omega))
    have HL0 := hide (openL_no (unhide HB0))
    have h4i : (s.size : Int) < 4 := by omega
    go_enter Tryz.func126, Tryz.ntmps126
    go_wp2
    go_ret2
    exact ⟨.slice (some ⟨w.heap.size, 0, none⟩) 0 0, ret_nb rfl (unhide HB0).symm, by rw [unhide HL0]; exact OwnN.nil _ _ _, Joins.below_alloc1 _ _⟩
  have h4' : 4 ≤ s.size := by omega
  have h4i : ¬ (s.size : Int) < 4 := by omega
  have h0 : 0 < s.size := by omega
  have HG := hide (byteAt_get (s := s) (k := 0) h0)
  have hwb := wrap_byte s[0]
  by_cases hk : byteAt s 0 = k
  · have hkb : ((s[0].toNat : Int) != k) = false := by rw [← unhide HG, hk]; simp
    have HK := hide hk
    clear hk
    cases hkk : kindB k with
    | true =>
      have hkin := kindB_in hkk
      cases hok : okU (bodyT s) with
      | true =>
        have HP := hide (okU_parts hok)
        have HI := hide (seal_iff h4' (by rw [unhide HK]; exact hkk) hok)
        have HLU : Hid (listU (bodyT s) = unL (bodyT s)) := hide (if_pos (unhide HP).1)
        have HIN := hide (intsB_parts (unhide HP).2.2)
        have hbs : (bodyT s).size ≤ 65536 := by rw [bodyT_size]; omega
        by_cases hr : RecP s
        · have HB0 := hide (openB_yes hr (unhide HK))
          have HL0 := hide (openL_yes (unhide HB0))
          have hse : ((sealS k (unL (bodyT s))).toList == s.toList) = true := by
            have := (unhide HI).2 hr
            rw [unhide HK] at this
            rw [this]; simp
          clear hr
          go_enter Tryz.func126, Tryz.ntmps126
          go_wp2_with (go_at_call 146; refine (l02Kind_any _ _).mono ?_; rintro e w' ⟨rfl, hw⟩; replace hw := hw.symm; subst hw)
          refine (l02Unpack_any (bodyT s) _ hbs).mono ?_
          rintro e w1 ⟨v, rfl, ho, hb⟩
          rw [unhide HLU] at ho
          obtain ⟨qo, qa, rfl, ho⟩ := ho
          have HO := hide ho
          have HB := hide hb
          clear ho hb
          go_wp2_with (go_at_call 99; refine (l02Seal_any k _ _ (unL (bodyT s)) _ hkin (unhide HIN).2 (unhide HIN).1 (ownRN (unhide HO))).mono ?_; rintro e w2 ⟨rfl, hb2⟩; have HB2 := hide (fr (unhide HB) hb2); have HO2 := hide ((unhide HO).below hb2); clear hb2)
          go_ret2
          exact ⟨.slice qo (unL (bodyT s)).length qa, ret_nb rfl (unhide HB0).symm, by rw [unhide HL0]; exact ⟨qo, qa, rfl, unhide HO2⟩, unhide HB2⟩
        · have HB0 := hide (openB_no (k := k) hr)
          have HL0 := hide (openL_no (unhide HB0))
          have hse : ((sealS k (unL (bodyT s))).toList == s.toList) = false := str_beq_false (fun e => hr ((unhide HI).1 (by rw [unhide HK]; exact e)))
          clear hr
          go_enter Tryz.func126, Tryz.ntmps126
          go_wp2_with (go_at_call 146; refine (l02Kind_any _ _).mono ?_; rintro e w' ⟨rfl, hw⟩; replace hw := hw.symm; subst hw)
          refine (l02Unpack_any (bodyT s) _ hbs).mono ?_
          rintro e w1 ⟨v, rfl, ho, hb⟩
          rw [unhide HLU] at ho
          obtain ⟨qo, qa, rfl, ho⟩ := ho
          have HO := hide ho
          have HB := hide hb
          clear ho hb
          go_wp2_with (go_at_call 99; refine (l02Seal_any k _ _ (unL (bodyT s)) _ hkin (unhide HIN).2 (unhide HIN).1 (ownRN (unhide HO))).mono ?_; rintro e w2 ⟨rfl, hb2⟩; have HB2 := hide (fr (unhide HB) hb2); clear hb2)
          go_ret2
          exact ⟨.slice (some ⟨w2.heap.size, 0, none⟩) 0 0, ret_nb rfl (unhide HB0).symm, by rw [unhide HL0]; exact OwnN.nil _ _ _, fr (unhide HB2) (Joins.below_alloc1 _ _)⟩
      | false =>
        have HB0 := hide (openB_no (s := s) (k := k) (fun h => by have := h.2.2.2.2.2; rw [hok] at this; cases this))
        have HL0 := hide (openL_no (unhide HB0))
        have hbs : (bodyT s).size ≤ 65536 := by rw [bodyT_size]; omega
        go_enter Tryz.func126, Tryz.ntmps126
        go_wp2_with (go_at_call 146; refine (l02Kind_any _ _).mono ?_; rintro e w' ⟨rfl, hw⟩; replace hw := hw.symm; subst hw)
        refine (l02Unpack_any (bodyT s) _ hbs).mono ?_
        rintro e w1 ⟨v, rfl, ho, hb⟩
        have HB := hide hb
        clear ho hb
        go_wp2
        go_ret2
        exact ⟨.slice (some ⟨w1.heap.size, 0, none⟩) 0 0, ret_nb rfl (unhide HB0).symm, by rw [unhide HL0]; exact OwnN.nil _ _ _, fr (unhide HB) (Joins.below_alloc1 _ _)⟩
    | false =>
      have HB0 := hide (openB_no (s := s) (k := k) (fun h => by have := h.2.1; rw [unhide HK, hkk] at this; cases this))
      have HL0 := hide (openL_no (unhide HB0))
      go_enter Tryz.func126, Tryz.ntmps126
      go_wp2_with (go_at_call 146; refine (l02Kind_any _ _).mono ?_; rintro e w' ⟨rfl, hw⟩; replace hw := hw.symm; subst hw)
      go_ret2
      exact ⟨.slice (some ⟨w.heap.size, 0, none⟩) 0 0, ret_nb rfl (unhide HB0).symm, by rw [unhide HL0]; exact OwnN.nil _ _ _, Joins.below_alloc1 _ _⟩
  · have hkb : ((s[0].toNat : Int) != k) = true := by rw [← unhide HG]; simp [hk]
    have HB0 := hide (openB_kind hk)
    have HL0 := hide (openL_no (unhide HB0))
    clear hk
    go_enter Tryz.func126, Tryz.ntmps126
    go_wp2
    go_ret2
    exact ⟨.slice (some ⟨w.heap.size, 0, none⟩) 0 0, ret_nb rfl (unhide HB0).symm, by rw [unhide HL0]; exact OwnN.nil _ _ _, Joins.below_alloc1 _ _⟩

end Go.Proofs.YtefnapcegeojoaaGreatDoor

namespace Go.Proofs.YtefnapcegeojoaaGreatDoor
open Go.RowKit
set_option linter.unusedVariables false

abbrev dltV (h g s : Int) : Value := .agg #[.int .i64 h, .int .i64 g, .int .i64 s]
def dltB (h g s : Int) : Bool := inB h 0 3 && (inB g 1 1000000 && inB s 0 10000000)
theorem dltB_iff {h g s : Int} : dltB h g s = true ↔ (0 ≤ h ∧ h ≤ 3) ∧ (1 ≤ g ∧ g ≤ 1000000) ∧ 0 ≤ s ∧ s ≤ 10000000 := by
  simp only [dltB, inB, Bool.and_eq_true, decide_eq_true_eq]
def encD (h g s : Int) : ByteArray := sealS 9 [h, g, s]
theorem encD_size (h g s : Int) : (encD h g s).size = 16 := by rw [encD, sealS_size]; rfl
theorem three {l : List Int} (h : l.length = 3) : ∃ a b c, l = [a, b, c] := by
  match l, h with
  | [a, b, c], _ => exact ⟨a, b, c, rfl⟩
def VarT (w : World) (x : Nat) (t : TypeId) (h g s : Int) : Prop := w.heap[x]? = some (.cells #[.int .i64 h, .int .i64 g, .int .i64 s] t (0, 0))
theorem VarT.lt {w : World} {x t : Nat} {h g s : Int} (k : VarT w x t h g s) : x < w.heap.size := (Array.getElem?_eq_some_iff.1 k).1
theorem VarT.cells {w : World} {x t : Nat} {h g s : Int} (k : VarT w x t h g s) : w.cell? ⟨x, 0, none⟩ = some (.int .i64 h) ∧ w.cell? ⟨x, 1, none⟩ = some (.int .i64 g) ∧ w.cell? ⟨x, 2, none⟩ = some (.int .i64 s) := ⟨by rw [Joins.cell_of_block k]; rfl, by rw [Joins.cell_of_block k]; rfl, by rw [Joins.cell_of_block k]; rfl⟩
theorem VarT.free {w : World} {x t : Nat} {h g s : Int} (k : VarT w x t h g s) : w.frozen? ⟨x, 0, none⟩ = false ∧ w.frozen? ⟨x, 1, none⟩ = false ∧ w.frozen? ⟨x, 2, none⟩ = false := ⟨Joins.unfrozen_of_block k 0, Joins.unfrozen_of_block k 1, Joins.unfrozen_of_block k 2⟩
theorem VarT.below {w w' : World} {x t : Nat} {h g s : Int} (k : VarT w x t h g s) (hb : Below w.heap.size w w') : VarT w' x t h g s := by
  unfold VarT; rw [hb.block x k.lt]; exact k
theorem VarT.keep {S : Nat → Prop} {w w' : World} {x t : Nat} {h g s : Int} (k : VarT w x t h g s) (hk : Keep S w w') (hs : ¬ S x) : VarT w' x t h g s := by
  unfold VarT; rw [hk.block x k.lt hs]; exact k
theorem VarT.new (w : World) (t : TypeId) (h g s : Int) : VarT (w.alloc (.cells #[.int .i64 h, .int .i64 g, .int .i64 s] t)) w.heap.size t h g s := heap_alloc_new w _

theorem readV_size {ss : List ByteArray} {xs : List Wr} (hd : diskB ss xs = true) (h a : Int) : (readV ss xs h a).size ≤ 80 := by
  obtain ⟨⟨a1, a2⟩, a3, a4⟩ := diskB_parts.1 hd
  unfold readV
  cases hf : xs.reverse.find? (fun x => x.host == h && x.at_ == a) with
  | some x => exact (ioB_parts.1 (a4 x (List.mem_reverse.1 (List.mem_of_find?_eq_some hf)))).2.2
  | none =>
    simp only [Option.map_none, Option.getD_none]
    rw [List.getD_eq_getElem?_getD]
    cases hg : ss[a.toNat]? with
    | some s => exact a2 s (List.mem_of_getElem? hg)
    | none => exact Nat.zero_le _

end Go.Proofs.YtefnapcegeojoaaGreatDoor

namespace Go.Proofs.YtefnapcegeojoaaGreatDoor
open Go.RowKit
set_option linter.unusedVariables false
set_option maxRecDepth 100000

set_option maxHeartbeats 1600000 in
theorem placeFault_any (ao bo : Option Addr) (ca cb : Nat) (ss : List ByteArray) (xs : List Wr) (h a : Int) (w : World) (hl : ss.length ≤ maxLen) (hm : xs.length ≤ maxLen) (h1 : Ss w ao ss) (h2 : Ios w bo xs) :
    Calls Tryz.prog 166 #[.agg #[.slice ao ss.length ca, .slice bo xs.length cb], .int .i64 h, .int .i64 a] w fun e w' => e = .returned (.int .i64 (askC ss xs h a)) ∧ Below w.heap.size w w' := by
  have HA := hide (Joins.below_alloc1 w (.cells #[.slice ao ss.length ca, .slice bo xs.length cb] 26))
  have H1 := hide (h1.below (unhide HA))
  have H2 := hide (h2.below (unhide HA))
  have HL := hide hl
  have HM := hide hm
  clear h1 h2 hl hm
  by_cases hc : hostC ss xs h = 0
  · have hb : (hostC ss xs h != 0) = false := by simp [hc]
    cases hh : inB a 0 63
    · have H := hide (askC_place hc hh)
      clear hc
      go_enter Tryz.func166, Tryz.ntmps166
      go_wp2_with fail
      refine (hostFault_any _ _ _ _ ss xs h _ (unhide HL) (unhide HM) (unhide H1) (unhide H2)).mono ?_
      rintro e w1 ⟨rfl, hb⟩
      have HB := hide (fr (unhide HA) hb)
      clear hb
      go_wp2_with (go_at_call 132; refine (placeOK_any _ _).mono ?_; rintro e w' ⟨rfl, rfl⟩)
      go_ret
      exact ⟨ret_int (unhide H).symm, unhide HB⟩
    · have H := hide (askC_ok hc hh)
      clear hc
      go_enter Tryz.func166, Tryz.ntmps166
      go_wp2_with fail
      refine (hostFault_any _ _ _ _ ss xs h _ (unhide HL) (unhide HM) (unhide H1) (unhide H2)).mono ?_
      rintro e w1 ⟨rfl, hb⟩
      have HB := hide (fr (unhide HA) hb)
      clear hb
      go_wp2_with (go_at_call 132; refine (placeOK_any _ _).mono ?_; rintro e w' ⟨rfl, rfl⟩)
      go_ret
      exact ⟨ret_int (unhide H).symm, unhide HB⟩
  · have H := hide (askC_host (a := a) hc)
    have hb : (hostC ss xs h != 0) = true := by simp [hc]
    clear hc
    go_enter Tryz.func166, Tryz.ntmps166
    go_wp2_with fail
    refine (hostFault_any _ _ _ _ ss xs h _ (unhide HL) (unhide HM) (unhide H1) (unhide H2)).mono ?_
    rintro e w1 ⟨rfl, hb⟩
    have HB := hide (fr (unhide HA) hb)
    clear hb
    go_wp2
    go_ret
    exact ⟨ret_int (unhide H).symm, unhide HB⟩

end Go.Proofs.YtefnapcegeojoaaGreatDoor

namespace Go.Proofs.YtefnapcegeojoaaGreatDoor
open Go.RowKit
set_option linter.unusedVariables false
set_option maxRecDepth 100000

theorem ret_rs {a b : ByteArray} (h : a = b) : Ending.returned (.string a) = .returned (.string b) := by rw [h]
theorem no_succ {xs : List Wr} {h a : Int} {k : Nat} (hk : k < xs.length) (hn : ∀ j (hj : j < xs.length), (k : Int) < j → ¬ mat xs[j] h a) (hx : ¬ mat xs[k] h a) : ∀ j (hj : j < xs.length), (k : Int) - 1 < j → ¬ mat xs[j] h a := by
  intro j hj hlt
  by_cases e : j = k
  · subst e; exact hx
  · exact hn j hj (by omega)

set_option maxHeartbeats 1600000 in
theorem seenBy_any (ao bo : Option Addr) (ca cb : Nat) (ss : List ByteArray) (xs : List Wr) (h : Int) (n : Nat) (w : World) (hlx : xs.length ≤ 200) (hn : n < ss.length) (hq : ss.length ≤ 1048576) (h1 : Ss w ao ss) (h2 : Ios w bo xs) :
    Calls Tryz.prog 73 #[.agg #[.slice ao ss.length ca, .slice bo xs.length cb], .int .i64 h, .int .i64 n] w fun e w' => e = .returned (.string (readV ss xs h n)) ∧ Below w.heap.size w w' := by
  have HA := hide (Joins.below_alloc1 w (.cells #[.slice ao ss.length ca, .slice bo xs.length cb] 26))
  have H1' := hide (h1.below (unhide HA))
  have H2' := hide (h2.below (unhide HA))
  have hc0 : (w.alloc (.cells #[.slice ao ss.length ca, .slice bo xs.length cb] 26)).cell? ⟨w.heap.size, 0, none⟩ = some (.slice ao ss.length ca) := by simp [go_sem]
  have hc1 : (w.alloc (.cells #[.slice ao ss.length ca, .slice bo xs.length cb] 26)).cell? ⟨w.heap.size, 1, none⟩ = some (.slice bo xs.length cb) := by simp [go_sem]
  have HC0 := hide hc0
  have HC1 := hide hc1
  have hlt : w.heap.size < (w.alloc (.cells #[.slice ao ss.length ca, .slice bo xs.length cb] 26)).heap.size := by simp
  clear h1 h2 hc0 hc1
  go_enter Tryz.func73, Tryz.ntmps73
  go_wp2
  revert HA H1' H2' HC0 HC1 hlt
  generalize w.alloc (.cells #[.slice ao ss.length ca, .slice bo xs.length cb] 26) = w1
  intro HA H1' H2' HC0 HC1 hlt
  go_loopw [7, 8] (fun i _ wr => ∃ m : Int, i = .int .i64 m ∧ -1 ≤ m ∧ m < xs.length ∧ Hid (∀ j (hj : j < xs.length), m < j → ¬ mat xs[j] h n) ∧ Hid (Below w1.heap.size w1 wr)) (fun i _ _ => (intOf i + 1).toNat)
  case atStart => exact ⟨_, rfl, by omega, by omega, hide (fun j hj hlt => by omega), hide (Below.refl _ _)⟩
  case round =>
    obtain ⟨m, rfl, hm0, hm1, HN, HB⟩ := hrel
    have hc0 : wr.cell? ⟨w.heap.size, 0, none⟩ = some (.slice ao ss.length ca) := ((unhide HB).cell (World.block_lt_of_cell? _ _ (unhide HC0))).trans (unhide HC0)
    have hc1 : wr.cell? ⟨w.heap.size, 1, none⟩ = some (.slice bo xs.length cb) := ((unhide HB).cell (World.block_lt_of_cell? _ _ (unhide HC1))).trans (unhide HC1)
    by_cases hge : 0 ≤ m
    · obtain ⟨k, rfl⟩ := Int.eq_ofNat_of_zero_le hge
      have hk : k < xs.length := by omega
      obtain ⟨b, off, rfl, hd0, hd1, hd2, hz⟩ := (unhide H2').below (unhide HB) k hk
      clear hz
      have HBA := hide (fun o => (unhide HB).alloc (unhide HB).size o)
      by_cases e0 : xs[k].host = h
      · have b0 : (xs[k].host == h) = true := by simp [e0]
        by_cases e1 : xs[k].at_ = n
        · have b1 : (xs[k].at_ == (n : Int)) = true := by simp [e1]
          have H := hide (readV_hit (ss := ss) hk ⟨e0, e1⟩ (fun j hj hlt => unhide HN j hj (by omega)))
          clear e0 e1
          go_wp2
          go_ret
          exact ⟨ret_rs (unhide H).symm, fr (unhide HA) (unhide HBA _)⟩
        · have b1 : (xs[k].at_ == (n : Int)) = false := by simp [e1]
          have HX := hide (no_succ hk (unhide HN) (fun hx => e1 hx.2))
          clear e0 e1
          go_wp2
          go_roundw
          case rel => exact ⟨_, rfl, by omega, by omega, HX, hide (unhide HBA _)⟩
          case measure => simp [intOf]
      · have b0 : (xs[k].host == h) = false := by simp [e0]
        have HX := hide (no_succ hk (unhide HN) (fun hx => e0 hx.1))
        clear e0
        go_wp2
        go_roundw
        case rel => exact ⟨_, rfl, by omega, by omega, HX, hide (unhide HBA _)⟩
        case measure => simp [intOf]
    · obtain ⟨b, off, rfl, hc, hz⟩ := (unhide H1').below (unhide HB) n hn
      clear hz
      have hg : ss.getD ((n : Int).toNat) ⟨#[]⟩ = ss[n] := by simp [List.getD, hn]
      have H := hide ((readV_none (ss := ss) (fun j hj => unhide HN j hj (by omega))).trans hg)
      clear hg
      go_wp2
      go_ret
      exact ⟨ret_rs (unhide H).symm, fr (unhide HA) (unhide HB)⟩

end Go.Proofs.YtefnapcegeojoaaGreatDoor

namespace Go.Proofs.YtefnapcegeojoaaGreatDoor
open Go.RowKit
set_option linter.unusedVariables false
set_option maxRecDepth 100000

set_option maxHeartbeats 1600000 in
theorem l01Read_any (ao bo : Option Addr) (ca cb : Nat) (ss : List ByteArray) (xs : List Wr) (h : Int) (a : Nat) (w : World) (ha : a < ss.length) (hs : ss.length ≤ 1048576) (hm : xs.length ≤ maxLen) (h1 : Ss w ao ss) (h2 : Ios w bo xs) :
    Calls Tryz.prog 97 #[.agg #[.slice ao ss.length ca, .slice bo xs.length cb], .int .i64 h, .int .i64 a] w fun e w' => e = .returned (.string (readV ss xs h a)) ∧ Below w.heap.size w w' := by
  have HA := hide (Joins.below_alloc1 w (.cells #[.slice ao ss.length ca, .slice bo xs.length cb] 26))
  have H1 := hide (h1.below (unhide HA))
  have H2 := hide (h2.below (unhide HA))
  clear h1 h2
  unfold maxLen at hm
  go_enter Tryz.func97, Tryz.ntmps97
  go_wp2
  go_loop [7] (fun i => ∃ m : Int, i = .int .i64 m ∧ -1 ≤ m ∧ m < xs.length ∧ Hid (∀ j (hj : j < xs.length), m < j → ¬ mat xs[j] h a)) (fun i => (intOf i + 1).toNat)
  case atStart => exact ⟨_, rfl, by omega, by omega, hide (fun j hj hlt => by omega)⟩
  case round =>
    obtain ⟨m, rfl, hm0, hm1, HN⟩ := hrel
    by_cases hge : 0 ≤ m
    · obtain ⟨k, rfl⟩ := Int.eq_ofNat_of_zero_le hge
      have hk : k < xs.length := by omega
      obtain ⟨b, off, rfl, hc0, hc1, hc2, hz⟩ := unhide H2 k hk
      clear hz
      by_cases e0 : xs[k].host = h
      · have b0 : (xs[k].host == h) = true := by simp [e0]
        by_cases e1 : xs[k].at_ = a
        · have b1 : (xs[k].at_ == (a : Int)) = true := by simp [e1]
          have H := hide (readV_hit (ss := ss) hk ⟨e0, e1⟩ (fun j hj hlt => unhide HN j hj (by omega)))
          clear e0 e1
          go_wp2
          go_ret
          exact ⟨ret_rs (unhide H).symm, unhide HA⟩
        · have b1 : (xs[k].at_ == (a : Int)) = false := by simp [e1]
          have HX := hide (no_succ hk (unhide HN) (fun hx => e1 hx.2))
          clear e0 e1
          go_wp2
          go_round
          case rel => exact ⟨_, rfl, by omega, by omega, HX⟩
          case measure => simp [intOf]
      · have b0 : (xs[k].host == h) = false := by simp [e0]
        have HX := hide (no_succ hk (unhide HN) (fun hx => e0 hx.1))
        clear e0
        go_wp2
        go_round
        case rel => exact ⟨_, rfl, by omega, by omega, HX⟩
        case measure => simp [intOf]
    · obtain ⟨b, off, rfl, hc, hz⟩ := unhide H1 a ha
      clear hz
      have hg : ss.getD ((a : Int).toNat) ⟨#[]⟩ = ss[a] := by simp [List.getD, ha]
      have H := hide ((readV_none (ss := ss) (fun j hj => unhide HN j hj (by omega))).trans hg)
      clear hg
      go_wp2
      go_ret
      exact ⟨ret_rs (unhide H).symm, unhide HA⟩

end Go.Proofs.YtefnapcegeojoaaGreatDoor

namespace Go.Proofs.YtefnapcegeojoaaGreatDoor
open Go.RowKit
set_option linter.unusedVariables false

def wrC (ss : List ByteArray) (xs : List Wr) (h a : Int) (d : ByteArray) : Int := if 65536 < d.size then 2 else if askC ss xs h a = 0 then (if 80 < d.size then 4 else if xs.length = 200 then 7 else 0) else askC ss xs h a
def wrS (ss : List ByteArray) (xs : List Wr) (h a : Int) (d : ByteArray) : List ByteArray := if 65536 < d.size then [] else if askC ss xs h a = 0 then ss else []
def wrX (ss : List ByteArray) (xs : List Wr) (h a : Int) (d : ByteArray) : List Wr := if 65536 < d.size then [] else if askC ss xs h a = 0 then (if 80 < d.size then xs else if xs.length = 200 then xs else xs ++ [⟨h, a, d⟩]) else []
theorem wr_long {ss : List ByteArray} {xs : List Wr} {h a : Int} {d : ByteArray} (h1 : 65536 < d.size) : wrS ss xs h a d = [] ∧ wrX ss xs h a d = [] ∧ wrC ss xs h a d = 2 := by simp [wrS, wrX, wrC, h1]
theorem wr_ask {ss : List ByteArray} {xs : List Wr} {h a : Int} {d : ByteArray} (h1 : ¬ 65536 < d.size) (h2 : askC ss xs h a ≠ 0) : wrS ss xs h a d = [] ∧ wrX ss xs h a d = [] ∧ wrC ss xs h a d = askC ss xs h a := by simp [wrS, wrX, wrC, h1, h2]
theorem wr_range {ss : List ByteArray} {xs : List Wr} {h a : Int} {d : ByteArray} (h1 : ¬ 65536 < d.size) (h2 : askC ss xs h a = 0) (h3 : 80 < d.size) : wrS ss xs h a d = ss ∧ wrX ss xs h a d = xs ∧ wrC ss xs h a d = 4 := by simp [wrS, wrX, wrC, h1, h2, h3]
theorem wr_full {ss : List ByteArray} {xs : List Wr} {h a : Int} {d : ByteArray} (h1 : ¬ 65536 < d.size) (h2 : askC ss xs h a = 0) (h3 : ¬ 80 < d.size) (h4 : xs.length = 200) : wrS ss xs h a d = ss ∧ wrX ss xs h a d = xs ∧ wrC ss xs h a d = 7 := by simp [wrS, wrX, wrC, h1, h2, h3, h4]
theorem wr_ok {ss : List ByteArray} {xs : List Wr} {h a : Int} {d : ByteArray} (h1 : ¬ 65536 < d.size) (h2 : askC ss xs h a = 0) (h3 : ¬ 80 < d.size) (h4 : ¬ xs.length = 200) : wrS ss xs h a d = ss ∧ wrX ss xs h a d = xs ++ [⟨h, a, d⟩] ∧ wrC ss xs h a d = 0 := by simp [wrS, wrX, wrC, h1, h2, h3, h4]
end Go.Proofs.YtefnapcegeojoaaGreatDoor

namespace Go.Proofs.YtefnapcegeojoaaGreatDoor
open Go.RowKit
set_option linter.unusedVariables false
set_option maxRecDepth 100000

theorem l04Host_any (h : Int) (w : World) : Calls Tryz.prog 39 #[.int .i64 h] w fun e w' => e = .returned (.bool (inB h 0 3)) ∧ w' = w := by
  go_enter Tryz.func39, Tryz.ntmps39
  go_wp2_with fail
  refine (l01In_num h 0 3 _).mono ?_
  rintro e w1 ⟨rfl, rfl⟩
  go_wp2
  go_ret
  exact ⟨rfl, rfl⟩

theorem d3_nums {h g s : Int} (hd : dltB h g s = true) : ∀ j (hj : j < [h, g, s].length), 0 ≤ [h, g, s][j] ∧ [h, g, s][j] ≤ 2147483647 := by
  obtain ⟨h1, h2, h3⟩ := dltB_iff.1 hd
  intro j hj
  have hj' : j < 3 := hj
  rcases (show j = 0 ∨ j = 1 ∨ j = 2 by omega) with rfl | rfl | rfl <;> simp <;> omega
theorem is3 (w : World) (n : Nat) (t : TypeId) (a b c : Int) (hn : w.heap.size = n) : Is (w.alloc (.cells #[.int .i64 a, .int .i64 b, .int .i64 c] t)) (some ⟨n, 0, none⟩) [a, b, c] := by
  subst hn
  intro i hi
  have hi' : i < 3 := hi
  refine ⟨w.heap.size, 0, rfl, ?_⟩
  rcases (show i = 0 ∨ i = 1 ∨ i = 2 by omega) with rfl | rfl | rfl <;> simp [go_sem]

set_option maxHeartbeats 1600000 in
theorem l04Encode_any (h g s : Int) (w : World) (hd : dltB h g s = true) : Calls Tryz.prog 131 #[dltV h g s] w fun e w' => e = .returned (.string (encD h g s)) ∧ Below w.heap.size w w' := by
  have HD := hide (d3_nums hd)
  clear hd
  go_enter Tryz.func131, Tryz.ntmps131
  go_wp2_with fail
  refine (l02Seal_any 9 _ 3 [h, g, s] _ (by decide) (by simp) (unhide HD) (is3 _ _ _ _ _ _ (by simp))).mono ?_
  rintro e w1 ⟨rfl, hb⟩
  have HB := hide hb
  clear hb
  go_wp2
  go_ret
  exact ⟨rfl, fr (Joins.below_alloc2 _ _ _) (unhide HB)⟩

end Go.Proofs.YtefnapcegeojoaaGreatDoor

namespace Go.Proofs.YtefnapcegeojoaaGreatDoor
open Go.RowKit
set_option linter.unusedVariables false
set_option maxRecDepth 100000

def dwr (h g s : Int) : Wr := ⟨h, 5 + h, encD h g s⟩
def pS (ss : List ByteArray) (xs : List Wr) (h g s : Int) : List ByteArray := putW ss (ofH h (xs ++ [dwr h g s]))
def pX (xs : List Wr) (h g s : Int) : List Wr := dropF h (xs ++ [dwr h g s])
theorem dwr_io {h g s : Int} (h0 : 0 ≤ h) (h3 : h ≤ 3) : ioB (dwr h g s) = true := ioB_parts.2 ⟨⟨h0, h3⟩, ⟨by show 0 ≤ 5 + h; omega, by show 5 + h ≤ 63; omega⟩, by show (encD h g s).size ≤ 80; rw [encD_size]; decide⟩
theorem put_right {ss : List ByteArray} {xs : List Wr} {h g s : Int} (hd : diskB ss xs = true) (hl : xs.length < 200) (h0 : 0 ≤ h) (h3 : h ≤ 3) : diskB ss (xs ++ [dwr h g s]) = true := diskB_snoc hd hl (dwr_io h0 h3)
theorem put_land {ss : List ByteArray} {xs : List Wr} {h : Int} (hl : xs.length ≤ 200) : (landF h false ss xs 200).1 = putW ss (ofH h xs) ∧ (landF h false ss xs 200).2.1 = dropF h xs := by
  have hc : (ofH h xs).length ≤ 200 := Nat.le_trans (List.length_filter_le _ _) hl
  obtain ⟨p1, p2⟩ := landF_put h ss xs 200
  have p1' : (landF h false ss xs 200).1 = putW ss ((ofH h xs).take 200) := p1
  have p2' : (landF h false ss xs 200).2.1 = remH h 200 xs := p2
  rw [List.take_of_length_le hc] at p1'
  rw [rem_all 200 xs hc] at p2'
  exact ⟨p1', p2'⟩
theorem pS_right {ss : List ByteArray} {xs : List Wr} {h g s : Int} (hd : diskB ss xs = true) (hl : xs.length < 200) (h0 : 0 ≤ h) (h3 : h ≤ 3) : diskB (pS ss xs h g s) (pX xs h g s) = true :=
  diskB_put (put_right (g := g) (s := s) hd hl h0 h3) (fun x hx => of_mem hx) (fun x hx => drop_mem hx) (drop_le h _)
theorem pS_len (ss : List ByteArray) (xs : List Wr) (h g s : Int) : (pS ss xs h g s).length = ss.length := put_len _ _

theorem rightX {ss : List ByteArray} {xs : List Wr} (hd : diskB ss xs = true) : ∀ x ∈ xs, x.data.size ≤ maxLen := fun x hx => Nat.le_trans (ioB_parts.1 ((diskB_parts.1 hd).2.2 x hx)).2.2 (by decide)
theorem l01Flush_put (ao bo : Option Addr) (ca cb : Nat) (ss : List ByteArray) (xs : List Wr) (h : Int) (n m : Nat) (S : List ByteArray) (X : List Wr) (w : World) (hn : ss.length = n) (hm : xs.length = m) (hS : putW ss (ofH h xs) = S) (hX : dropF h xs = X) (hd : diskB ss xs = true) (h1 : Ss w ao ss) (h2 : Ios w bo xs) :
    Calls Tryz.prog 52 #[.agg #[.slice ao n ca, .slice bo m cb], .int .i64 h] w fun e w' => ∃ po pa qo qa, e = .returned (.agg #[.slice po n pa, .slice qo X.length qa]) ∧ OwnD w' w.heap.size po n pa qo X.length qa S X ∧ Below w.heap.size w w' := by
  subst hn hm hS hX
  obtain ⟨l1, l2⟩ := diskB_len hd
  obtain ⟨e1, e2⟩ := put_land (ss := ss) (h := h) l2
  have k := l01Flush_any ao bo ca cb ss xs h 200 w rfl (by decide) (by omega) l2 (diskB_at hd) h1 h2
  rw [e1, e2] at k
  exact k

set_option maxHeartbeats 3200000 in
theorem l04Put_any (ao bo : Option Addr) (ca cb : Nat) (ss : List ByteArray) (xs : List Wr) (h g s : Int) (w : World) (hd : diskB ss xs = true) (hl : xs.length < 200) (hx : dltB h g s = true) (h1 : Ss w ao ss) (h2 : Ios w bo xs) :
    Calls Tryz.prog 106 #[.agg #[.slice ao ss.length ca, .slice bo xs.length cb], dltV h g s] w fun e w' => ∃ po pa qo qa, e = .returned (.agg #[.slice po ss.length pa, .slice qo (pX xs h g s).length qa]) ∧ OwnD w' w.heap.size po ss.length pa qo (pX xs h g s).length qa (pS ss xs h g s) (pX xs h g s) ∧ Below w.heap.size w w' := by
  obtain ⟨⟨d0, d3⟩, _⟩ := dltB_iff.1 hx
  have HP := hide (put_right (g := g) (s := s) hd hl d0 d3)
  have HX := hide hx
  have HXL : Hid (xs.length ≤ 1048576) := hide (by omega)
  have HXN : Hid ((xs ++ [dwr h g s]).length = xs.length + 1) := hide (by simp)
  have HZ : Hid (∀ x ∈ xs ++ [dwr h g s], x.data.size ≤ maxLen) := hide (rightX (unhide HP))
  obtain ⟨S, HS⟩ : ∃ S, Hid (pS ss xs h g s = S) := ⟨_, hide rfl⟩
  obtain ⟨X, HXX⟩ : ∃ X, Hid (pX xs h g s = X) := ⟨_, hide rfl⟩
  rw [unhide HS, unhide HXX]
  have HA := hide (fr (Joins.below_alloc2 w (.cells #[.slice ao ss.length ca, .slice bo xs.length cb] 26) (.cells #[.int .i64 h, .int .i64 g, .int .i64 s] 129)) (Joins.below_alloc1 _ (.cells #[.slice none 0 0, .slice none 0 0] 26)))
  have HV := hide ((VarD.new w (.slice ao ss.length ca) (.slice bo xs.length cb)).below (fr (Joins.below_alloc1 _ (.cells #[.int .i64 h, .int .i64 g, .int .i64 s] 129)) (Joins.below_alloc1 _ (.cells #[.slice none 0 0, .slice none 0 0] 26))))
  have HT : Hid (VarT (((w.alloc (.cells #[.slice ao ss.length ca, .slice bo xs.length cb] 26)).alloc (.cells #[.int .i64 h, .int .i64 g, .int .i64 s] 129)).alloc (.cells #[.slice none 0 0, .slice none 0 0] 26)) (w.heap.size + 1) 129 h g s) := hide (by have := (VarT.new (w.alloc (.cells #[.slice ao ss.length ca, .slice bo xs.length cb] 26)) 129 h g s).below (Joins.below_alloc1 _ (.cells #[.slice none 0 0, .slice none 0 0] 26)); simp only [World.size_alloc] at this; exact this)
  have HR : Hid (VarD (((w.alloc (.cells #[.slice ao ss.length ca, .slice bo xs.length cb] 26)).alloc (.cells #[.int .i64 h, .int .i64 g, .int .i64 s] 129)).alloc (.cells #[.slice none 0 0, .slice none 0 0] 26)) (w.heap.size + 1 + 1) (.slice none 0 0) (.slice none 0 0)) := hide (by have := VarD.new ((w.alloc (.cells #[.slice ao ss.length ca, .slice bo xs.length cb] 26)).alloc (.cells #[.int .i64 h, .int .i64 g, .int .i64 s] 129)) (.slice none 0 0) (.slice none 0 0); simp only [World.size_alloc] at this; exact this)
  have HS0 := hide (h1.below (unhide HA))
  have HX0 := hide (h2.below (unhide HA))
  have HW : Hid (w.heap.size + 3 ≤ (((w.alloc (.cells #[.slice ao ss.length ca, .slice bo xs.length cb] 26)).alloc (.cells #[.int .i64 h, .int .i64 g, .int .i64 s] 129)).alloc (.cells #[.slice none 0 0, .slice none 0 0] 26)).heap.size) := hide (by simp)
  have wr5 : IntKind.i64.wrap (5 + h) = 5 + h := by rw [IntKind.wrap_i64]; omega
  clear h1 h2 hx hd
  go_enter Tryz.func106, Tryz.ntmps106
  go_wp2_with fail
  revert HA HV HT HR HS0 HX0 HW
  generalize (((w.alloc (.cells #[.slice ao ss.length ca, .slice bo xs.length cb] 26)).alloc (.cells #[.int .i64 h, .int .i64 g, .int .i64 s] 129)).alloc (.cells #[.slice none 0 0, .slice none 0 0] 26)) = W0
  intro HA HV HT HR HS0 HX0 HW
  have HQ : Hid (w.heap.size + 1 + 1 < w.heap.size + 3) := hide (by omega)
  generalize hB2 : w.heap.size + 1 + 1 = B2 at *
  generalize hB1 : w.heap.size + 1 = B1 at *
  have n1 : B2 ≠ w.heap.size := by omega
  have n2 : B2 ≠ B1 := by omega
  have HB2 : Hid (w.heap.size ≤ B2) := hide (by omega)
  have n1' := n1.symm
  have n2' := n2.symm
  replace hB1 := hide hB1
  replace hB2 := hide hB2
  obtain ⟨v0, v1⟩ := (unhide HV).cells
  obtain ⟨t0, t1, t2⟩ := (unhide HT).cells
  go_region_held3 (fun w' => w'.cell? ⟨w.heap.size, 0, none⟩ = some (.slice ao ss.length ca) ∧ w'.cell? ⟨w.heap.size, 1, none⟩ = some (.slice bo xs.length cb) ∧ w'.cell? ⟨B1, 0, none⟩ = some (.int .i64 h) ∧ w'.cell? ⟨B1, 1, none⟩ = some (.int .i64 g) ∧ w'.cell? ⟨B1, 2, none⟩ = some (.int .i64 s)) (go_keep)
    (first
      | (go_at_call 131; refine (l04Encode_any h g s _ (unhide HX)).mono ?_; rintro e wA ⟨rfl, hbA⟩; have HBA := hide (fr (Below.refl _ W0).drew hbA); obtain ⟨a0, a1⟩ := ((unhide HV).below (unhide HBA)).cells; obtain ⟨a2, a3, a4⟩ := ((unhide HT).below (unhide HBA)).cells; clear hbA)
      | (go_at_call 53; refine (l01Write_hd ao bo ss.length ca cb xs h (5 + h) (encD h g s) _ (unhide HXL) ((unhide HX0).below (unhide HBA))).mono ?_; rintro e wB ⟨gg, cap, rfl, hoB, hbB⟩; have HOB := hide hoB; have HBB := hide (fr (unhide HBA) hbB); obtain ⟨b0, b1⟩ := ((unhide HV).below (unhide HBB)).cells; obtain ⟨b2, b3, b4⟩ := ((unhide HT).below (unhide HBB)).cells; clear hoB hbB)
      | (go_at_call 52; refine (l01Flush_put ao (some ⟨gg, 0, none⟩) ca cap ss (xs ++ [dwr h g s]) h ss.length (xs.length + 1) S X _ rfl (unhide HXN) (unhide HS) (unhide HXX) (unhide HP) ((unhide HS0).below (unhide HBB)) (ownI (xs := xs ++ [dwr h g s]) (by rw [unhide HXN]; exact unhide HOB) (unhide HZ))).mono ?_; rintro e wC ⟨po, pa, qo, qa, rfl, hoC, hbC⟩; have HOC := hide hoC; have HBC := hide (fr (unhide HBB) hbC); obtain ⟨c0, c1⟩ := ((unhide HV).below (unhide HBC)).cells; obtain ⟨c2, c3, c4⟩ := ((unhide HT).below (unhide HBC)).cells; obtain ⟨r0, r1⟩ := ((unhide HR).below (unhide HBC)).cells; have r2 := ((unhide HR).below (unhide HBC)).free 0; have r3 := ((unhide HR).below (unhide HBC)).free 1; clear hoC hbC))
  have z : B2 < wB.heap.size := by have z0 := unhide HW; have z1 := unhide HQ; have z2 := (unhide HBB).size; omega
  have HE := hide (show OwnD ((wC.setCell ⟨B2, 0, none⟩ (.slice po ss.length pa)).setCell ⟨B2, 1, none⟩ (.slice qo X.length qa)) w.heap.size po ss.length pa qo X.length qa S X ∧ Below w.heap.size w ((wC.setCell ⟨B2, 0, none⟩ (.slice po ss.length pa)).setCell ⟨B2, 1, none⟩ (.slice qo X.length qa)) from
    ⟨(((unhide HOC).setCell (a := ⟨B2, 0, none⟩) z _).setCell (a := ⟨B2, 1, none⟩) z _).base (by have := unhide HB2; omega), ((fr (unhide HA) (unhide HBC)).setCell (p := ⟨B2, 0, none⟩) (unhide HB2) _).setCell (p := ⟨B2, 1, none⟩) (unhide HB2) _⟩)
  clear a0 a1 a2 a3 a4 b0 b1 b2 b3 b4 c0 c1 c2 c3 c4 v0 v1 t0 t1 t2
  go_wp2
  exact bodyPost_ret (v := .agg #[.slice po ss.length pa, .slice qo X.length qa]) (by simp [results, Tryz.results106, go_sem, r0, r1]) rfl ⟨po, pa, qo, qa, rfl, (unhide HE).1, (unhide HE).2⟩

end Go.Proofs.YtefnapcegeojoaaGreatDoor

namespace Go.Proofs.YtefnapcegeojoaaGreatDoor
open Go.RowKit
set_option linter.unusedVariables false

theorem allB_in {xs : List Int} (h : allB xs = true) : ∀ j (hj : j < xs.length), 0 ≤ xs[j] ∧ xs[j] ≤ 2147483647 := by
  intro j hj
  rw [allB, List.all_eq_true] at h
  have := h _ (List.getElem_mem hj)
  simpa [numB, inB] using this
theorem pack_byte {xs : List Int} {i j : Nat} (hi : i < xs.length) (hj : j < 4) : byteAt (packS xs) (i * 4 + j) = byteN xs[i] j := by
  obtain ⟨hk, he⟩ := List.getElem?_eq_some_iff.1 (packL_at xs i j hi hj)
  have hb := byteN_in xs[i] j
  rw [packS, byteAt_nums hk (by rw [he]; omega) (by rw [he]; omega), he]
theorem num_of_bytes {n : Int} (h0 : 0 ≤ n) (h1 : n ≤ 2147483647) : byteN n 0 + byteN n 1 * 256 + byteN n 2 * 65536 + byteN n 3 * 16777216 = n := by
  show n / 1 % 256 + n / 256 % 256 * 256 + n / 65536 % 256 * 65536 + n / 16777216 % 256 * 16777216 = n
  omega
theorem un_pack {xs : List Int} (h : allB xs = true) : unL (packS xs) = xs := by
  apply List.ext_getElem
  · rw [unL_length, packS_size]; omega
  · intro i h1 h2
    rw [unL_get h1]
    have hin := allB_in h i h2
    unfold numAt
    have e0 := pack_byte h2 (show 0 < 4 by omega)
    rw [Nat.add_zero] at e0
    rw [e0, pack_byte h2 (show 1 < 4 by omega), pack_byte h2 (show 2 < 4 by omega), pack_byte h2 (show 3 < 4 by omega)]
    exact num_of_bytes hin.1 hin.2
theorem okU_pack {xs : List Int} (h : allB xs = true) (hl : xs.length ≤ 16) : okU (packS xs) = true := by
  rw [okU_even (by rw [packS_size]; omega), un_pack h, intsB, h, decide_eq_true hl]; rfl
theorem kindB_of {k : Int} (hk : 1 ≤ k ∧ k ≤ 9) : kindB k = true := by simp [kindB, inB]; omega
theorem seal_byte {k : Int} {xs : List Int} (hk : 1 ≤ k ∧ k ≤ 9) (hl : xs.length ≤ 16) {j : Nat} (hj : j < 4) : byteAt (sealS k xs) j = (headR k xs)[j]'(by simpa [headR] using hj) := by
  have hr := sumR_in k xs
  rw [sealS, byteAt_left (by rw [strOfNums_size]; simpa [headR] using hj), byteAt_nums]
  · rcases (show j = 0 ∨ j = 1 ∨ j = 2 ∨ j = 3 by omega) with rfl | rfl | rfl | rfl <;> simp [headR] <;> omega
  · rcases (show j = 0 ∨ j = 1 ∨ j = 2 ∨ j = 3 by omega) with rfl | rfl | rfl | rfl <;> simp [headR] <;> omega
theorem body_seal {k : Int} {xs : List Int} : bodyT (sealS k xs) = packS xs := by
  apply bytes_eq
  · rw [bodyT_size, sealS_size, packS_size]; omega
  · intro j hj
    rw [bodyT_size, sealS_size] at hj
    rw [bodyT_byte (by rw [sealS_size]; omega), sealS, byteAt_right (by rw [strOfNums_size]; simp [headR]), strOfNums_size]
    congr 1
    simp [headR]
theorem rec_seal {k : Int} {xs : List Int} (hk : 1 ≤ k ∧ k ≤ 9) (h : allB xs = true) (hl : xs.length ≤ 16) : RecP (sealS k xs) := by
  have e0 := seal_byte hk hl (show 0 < 4 by omega)
  have hkb : kindB (byteAt (sealS k xs) 0) = true := by rw [e0]; exact kindB_of hk
  refine (seal_iff (by rw [sealS_size]; omega) hkb (by rw [body_seal]; exact okU_pack h hl)).1 ?_
  rw [body_seal, un_pack h, e0]
  simp [headR]
theorem seal_kind {k : Int} {xs : List Int} (hk : 1 ≤ k ∧ k ≤ 9) (hl : xs.length ≤ 16) : byteAt (sealS k xs) 0 = k := by rw [seal_byte hk hl (show 0 < 4 by omega)]; simp [headR]
end Go.Proofs.YtefnapcegeojoaaGreatDoor

namespace Go.Proofs.YtefnapcegeojoaaGreatDoor
open Go.RowKit
set_option linter.unusedVariables false

def Drw (t : ByteArray) : Prop := t.size ≤ 4 ∨ 80 < t.size ∨ ∃ (k : Int) (xs : List Int), t = sealS k xs ∧ (1 ≤ k ∧ k ≤ 9) ∧ xs.length ≤ 16 ∧ ∀ x ∈ xs, 0 ≤ x ∧ x ≤ 20
theorem openB_in {t : ByteArray} {k : Int} : openB t k = true ↔ RecP t ∧ byteAt t 0 = k := by
  simp only [openB, Bool.and_eq_true, decide_eq_true_eq, recB_iff]
theorem read_nil (ss : List ByteArray) (o a : Int) : readV ss [] o a = ss.getD a.toNat ⟨#[]⟩ := readV_none (fun j hj => absurd hj (Nat.not_lt_zero _))
end Go.Proofs.YtefnapcegeojoaaGreatDoor

namespace Go.Proofs.YtefnapcegeojoaaGreatDoor
open Go.RowKit
set_option linter.unusedVariables false
set_option maxRecDepth 100000

structure DkO (w W : World) (b : Nat) (so : Option Addr) (n cap m C : Nat) (po : Option Addr) (pa : Nat) (qo : Option Addr) (qa : Nat) (ss : List ByteArray) (xs : List Wr) : Prop where
  var : VarD W C (.slice po ss.length pa) (.slice qo xs.length qa)
  o : OwnD W (w.heap.size + 1) po ss.length pa qo xs.length qa ss xs
  r : VarD W w.heap.size (.slice none 0 0) (.slice none 0 0)
  k : Keep (fun k => k = b ∨ w.heap.size ≤ k) w W
  s : SrcK W b so n cap m
  c : w.heap.size < C
theorem DkO.below {w W W' : World} {b n cap m C pa qa : Nat} {so po qo : Option Addr} {ss : List ByteArray} {xs : List Wr} (h : DkO w W b so n cap m C po pa qo qa ss xs) (hb : Below W.heap.size W W') : DkO w W' b so n cap m C po pa qo qa ss xs :=
  ⟨h.var.below hb, h.o.below hb, h.r.below hb, h.k.trans (Keep.of_below hb), h.s.below hb, h.c⟩
theorem SrcK.blk {w : World} {b : Nat} {so : Option Addr} {n cap m : Nat} (h : SrcK w b so n cap m) : ∃ c, w.heap[b]? = some (.cells c 92 (0, 0)) := by
  obtain ⟨x, y, _, _, _, _, hblk⟩ := h.src
  exact ⟨_, hblk⟩
theorem DkO.src {w W W' : World} {b n cap m m' C pa qa : Nat} {so po qo : Option Addr} {ss : List ByteArray} {xs : List Wr} (h : DkO w W b so n cap m C po pa qo qa ss xs) (hb : b < w.heap.size) (hs : SrcK W' b so n cap m') (hk : Keep (fun j => j = b) W W') : DkO w W' b so n cap m' C po pa qo qa ss xs := by
  obtain ⟨c, hblk⟩ := h.s.blk
  exact ⟨h.var.keep hk (by have := h.c; omega), h.o.keep hk (fun g hg e => h.o.other hblk (by decide) (by decide) (e ▸ hg)), h.r.keep hk (by omega), h.k.trans (hk.mono (fun k e => .inl e)), hs, h.c⟩
theorem DkO.more {w W : World} {b n cap m m' C pa qa : Nat} {so po qo : Option Addr} {ss : List ByteArray} {xs : List Wr} (h : DkO w W b so n cap m C po pa qo qa ss xs) (hm : m ≤ m') : DkO w W b so n cap m' C po pa qo qa ss xs := ⟨h.var, h.o, h.r, h.k, h.s.more hm, h.c⟩
theorem DkO.other {w W W' : World} {b n cap m m0 C pa qa y : Nat} {so po qo : Option Addr} {ss : List ByteArray} {xs : List Wr} (h : DkO w W b so n cap m C po pa qo qa ss xs) (h0 : SrcK w b so n cap m0) (hy : w.heap.size < y) (hk : Keep (fun j => j = y) W W') :
    VarD W' w.heap.size (.slice none 0 0) (.slice none 0 0) ∧ Keep (fun k => k = b ∨ w.heap.size ≤ k) w W' ∧ SrcK W' b so n cap m := by
  have hb := h0.lt
  have hK : Keep (fun k => k = b ∨ w.heap.size ≤ k) w W' := h.k.trans (hk.mono (fun k e => .inr (by omega)))
  exact ⟨h.r.keep hk (by omega), hK, h0.other h.s (keep_drop hK) hk (by omega)⟩
theorem DkO.store {w W : World} {b n cap m m0 C pa qa pa' qa' : Nat} {so po qo po' qo' : Option Addr} {ss ss' : List ByteArray} {xs xs' : List Wr} (h : DkO w W b so n cap m C po pa qo qa ss xs) (h0 : SrcK w b so n cap m0) (ho : OwnD W (w.heap.size + 1) po' ss'.length pa' qo' xs'.length qa' ss' xs') :
    DkO w ((W.setCell ⟨C, 0, none⟩ (.slice po' ss'.length pa')).setCell ⟨C, 1, none⟩ (.slice qo' xs'.length qa')) b so n cap m C po' pa' qo' qa' ss' xs' := by
  have hk : Keep (fun j => j = C) W ((W.setCell ⟨C, 0, none⟩ (.slice po' ss'.length pa')).setCell ⟨C, 1, none⟩ (.slice qo' xs'.length qa')) := ((Keep.refl (fun j => j = C) W).setCell (p := ⟨C, 0, none⟩) rfl _).setCell (p := ⟨C, 1, none⟩) rfl _
  obtain ⟨h1, h2, h3⟩ := h.other h0 h.c hk
  exact ⟨(h.var.set0 _).set1 _, ho.keep hk (fun g hg e => ho.other h.var (by decide) (by decide) (e ▸ hg)), h1, h2, h3, h.c⟩

structure LsD (W : World) (B : Nat) (po : Option Addr) (pa : Nat) (qo : Option Addr) (qa : Nat) (ss : List ByteArray) (xs : List Wr) : Prop where
  s : Ss W po ss
  i : Ios W qo xs
  t : AllT Drw ss xs
  o : ss.length = 64 → OwnD W B po ss.length pa qo xs.length qa ss xs
  l : ss.length ≤ 64 ∧ xs.length ≤ 30
theorem drw_short {t : ByteArray} (h : t.size ≤ 4) : Drw t := .inl h
theorem drw_delta {h g s : Int} (h1 : 0 ≤ h ∧ h ≤ 3) (h2 : 1 ≤ g ∧ g ≤ 3) (h3 : 0 ≤ s ∧ s ≤ 19) : Drw (encD h g s) := .inr (.inr ⟨9, [h, g, s], rfl, by omega, by simp, by simp; omega⟩)
theorem pX_drop (xs : List Wr) (h g s : Int) : pX xs h g s = dropF h xs := by simp [pX, dropF, dwr]
theorem pX_le (xs : List Wr) (h g s : Int) : (pX xs h g s).length ≤ xs.length := by rw [pX_drop]; exact drop_le h xs
theorem AllT.pS {P : ByteArray → Prop} {ss : List ByteArray} {xs : List Wr} (k : AllT P ss xs) (h g s : Int) (he : P (encD h g s)) : AllT P (pS ss xs h g s) (pX xs h g s) :=
  (k.snoc (x := dwr h g s) he).put (fun x hx => of_mem hx) (fun x hx => drop_mem hx)
theorem AllT.sizes {P : ByteArray → Prop} {ss : List ByteArray} {xs : List Wr} (k : AllT P ss xs) (hp : ∀ t, P t → t.size ≤ maxLen) : (∀ s ∈ ss, s.size ≤ maxLen) ∧ ∀ x ∈ xs, x.data.size ≤ maxLen := ⟨fun s hs => hp s (k.1 s hs), fun x hx => hp _ (k.2 x hx)⟩
theorem DkO.ret {w W : World} {b n cap m m0 C pa qa : Nat} {so po qo : Option Addr} {ss : List ByteArray} {xs : List Wr} (h : DkO w W b so n cap m C po pa qo qa ss xs) (h0 : SrcK w b so n cap m0) (u v : Value) :
    SrcK ((W.setCell ⟨w.heap.size, 0, none⟩ u).setCell ⟨w.heap.size, 1, none⟩ v) b so n cap m ∧ Keep (fun j => j = b) w ((W.setCell ⟨w.heap.size, 0, none⟩ u).setCell ⟨w.heap.size, 1, none⟩ v) ∧ OwnD ((W.setCell ⟨w.heap.size, 0, none⟩ u).setCell ⟨w.heap.size, 1, none⟩ v) (w.heap.size + 1) po ss.length pa qo xs.length qa ss xs := by
  have hb := h0.lt
  have hk : Keep (fun j => j = w.heap.size) W ((W.setCell ⟨w.heap.size, 0, none⟩ u).setCell ⟨w.heap.size, 1, none⟩ v) := ((Keep.refl (fun j => j = w.heap.size) W).setCell (p := ⟨w.heap.size, 0, none⟩) rfl _).setCell (p := ⟨w.heap.size, 1, none⟩) rfl _
  have hK : Keep (fun k => k = b ∨ w.heap.size ≤ k) w ((W.setCell ⟨w.heap.size, 0, none⟩ u).setCell ⟨w.heap.size, 1, none⟩ v) := h.k.trans (hk.mono (fun k e => .inr (by omega)))
  exact ⟨h0.other h.s (keep_drop hK) hk (by omega), keep_drop hK, (h.o.setCell (a := ⟨w.heap.size, 0, none⟩) (Nat.lt_succ_self _) _).setCell (a := ⟨w.heap.size, 1, none⟩) (Nat.lt_succ_self _) _⟩
theorem LsD.of {W : World} {B pa qa : Nat} {po qo : Option Addr} {ss : List ByteArray} {xs : List Wr} (ho : OwnD W B po ss.length pa qo xs.length qa ss xs) (ht : AllT Drw ss xs) (hz : (∀ s ∈ ss, s.size ≤ maxLen) ∧ ∀ x ∈ xs, x.data.size ≤ maxLen) (hl : ss.length ≤ 64 ∧ xs.length ≤ 30) : LsD W B po pa qo qa ss xs :=
  ⟨ho.ss hz.1, ho.ios hz.2, ht, fun _ => ho, hl⟩

end Go.Proofs.YtefnapcegeojoaaGreatDoor

namespace Go.Proofs.YtefnapcegeojoaaGreatDoor
open Go.RowKit
set_option linter.unusedVariables false
set_option maxRecDepth 100000

set_option maxHeartbeats 1600000 in
theorem chance_k (b : Nat) (ao : Option Addr) (n cap m : Nat) (k : Int) (w : World) (hk0 : 1 ≤ k) (hk1 : k ≤ 1000000) (hm : m ≤ 900000) (hn : n ≤ 1048576) (hs : SrcK w b ao n cap m) :
    Calls Tryz.prog 66 #[.pointer (some ⟨b, 0, none⟩), .int .i64 k] w fun e w' => ∃ q : Bool, e = .returned (.bool q) ∧ SrcK w' b ao n cap (m + 3) ∧ Keep (fun j => j = b) w w' := by
  go_enter Tryz.func66, Tryz.ntmps66
  go_wp2_with fail
  refine (next_k b ao n cap m k _ hk0 hk1 hm hn hs).mono ?_
  rintro e w1 ⟨q, rfl, q0, q1, hs1, hk1'⟩
  have HS := hide hs1
  have HK := hide hk1'
  clear hs1 hk1' hs
  go_wp2
  go_ret
  exact ⟨_, rfl, unhide HS, unhide HK⟩

structure DrS (w W : World) (b : Nat) (ao : Option Addr) (n cap m : Nat) (o : Obj) : Prop where
  s : SrcK W b ao n cap m
  k : Keep (fun k => k = b) w W
  r : W.heap[w.heap.size]? = some o
theorem DrS.new {w : World} {b : Nat} {ao : Option Addr} {n cap m : Nat} (hs : SrcK w b ao n cap m) (c : Array Value) (t : TypeId) : DrS w (w.alloc (.cells c t)) b ao n cap m (.cells c t (0, 0)) :=
  ⟨hs.below (Joins.below_alloc1 _ _), Keep.of_below (Joins.below_alloc1 _ _), heap_alloc_new w _⟩
theorem DrS.src {w W W' : World} {b : Nat} {ao : Option Addr} {n cap m m' : Nat} {o : Obj} (h : DrS w W b ao n cap m o) (hb : b < w.heap.size) (hs : SrcK W' b ao n cap m') (hk : Keep (fun k => k = b) W W') : DrS w W' b ao n cap m' o :=
  ⟨hs, h.k.trans hk, blk_keep hk (by omega) h.r⟩
theorem DrS.end3 {w W : World} {b : Nat} {ao : Option Addr} {n cap m : Nat} {o : Obj} (h : DrS w W b ao n cap m o) (h0 : SrcK w b ao n cap 0 ∨ True) (hb : b < w.heap.size) (hm0 : ∃ m0, SrcK w b ao n cap m0) (u v x : Value) :
    SrcK (((W.setCell ⟨w.heap.size, 0, none⟩ u).setCell ⟨w.heap.size, 1, none⟩ v).setCell ⟨w.heap.size, 2, none⟩ x) b ao n cap m ∧ Keep (fun k => k = b) w (((W.setCell ⟨w.heap.size, 0, none⟩ u).setCell ⟨w.heap.size, 1, none⟩ v).setCell ⟨w.heap.size, 2, none⟩ x) := by
  obtain ⟨m0, h1⟩ := hm0
  have hk : Keep (fun k => k = w.heap.size) W (((W.setCell ⟨w.heap.size, 0, none⟩ u).setCell ⟨w.heap.size, 1, none⟩ v).setCell ⟨w.heap.size, 2, none⟩ x) := (((Keep.refl (fun k => k = w.heap.size) W).setCell (p := ⟨w.heap.size, 0, none⟩) rfl _).setCell (p := ⟨w.heap.size, 1, none⟩) rfl _).setCell (p := ⟨w.heap.size, 2, none⟩) rfl _
  have hw := keep_new h.k hk (fun k e => .inl (by omega))
  exact ⟨h1.other h.s hw hk (by omega), hw⟩

set_option maxHeartbeats 1600000 in
theorem delta_k (b : Nat) (ao : Option Addr) (n cap m : Nat) (w : World) (hm : m ≤ 800000) (hn : n ≤ 1048576) (hs : SrcK w b ao n cap m) :
    Calls Tryz.prog 107 #[.pointer (some ⟨b, 0, none⟩)] w fun e w' => ∃ h g s : Int, e = .returned (dltV h g s) ∧ (0 ≤ h ∧ h ≤ 3) ∧ (1 ≤ g ∧ g ≤ 3) ∧ (0 ≤ s ∧ s ≤ 19) ∧ SrcK w' b ao n cap (m + 9) ∧ Keep (fun j => j = b) w w' := by
  have hlt := hs.lt
  have HS := hide hs
  have D0 := hide (DrS.new hs #[.int .i64 0, .int .i64 0, .int .i64 0] 129)
  clear hs
  go_enter Tryz.func107, Tryz.ntmps107
  go_wp2_with fail
  refine (next_k b ao n cap m 4 _ (by omega) (by omega) (by omega) hn (unhide D0).s).mono ?_
  rintro e w1 ⟨q1, rfl, q10, q11, hs1, hk1⟩
  have D1 := hide ((unhide D0).src hlt hs1 hk1)
  clear hs1 hk1
  go_wp2_with fail
  refine (next_k b ao n cap (m + 3) 3 _ (by omega) (by omega) (by omega) hn (unhide D1).s).mono ?_
  rintro e w2 ⟨q2, rfl, q20, q21, hs1, hk1⟩
  have D2 := hide ((unhide D1).src hlt hs1 hk1)
  clear hs1 hk1
  go_wp2_with fail
  refine (next_k b ao n cap (m + 3 + 3) 20 _ (by omega) (by omega) (by omega) hn (unhide D2).s).mono ?_
  rintro e w3 ⟨q3, rfl, q30, q31, hs1, hk1⟩
  have D3 := hide ((unhide D2).src hlt hs1 hk1)
  clear hs1 hk1
  have HV : Hid (VarT w3 w.heap.size 129 0 0 0) := hide (unhide D3).r
  obtain ⟨c0, c1, c2⟩ := (unhide HV).cells
  obtain ⟨f0, f1, f2⟩ := (unhide HV).free
  have HE := hide (fun u v x => DrS.end3 (unhide D3) (.inr trivial) hlt ⟨m, unhide HS⟩ u v x)
  go_wp2
  exact bodyPost_ret (v := dltV q1 (1 + q2) q3) (by simp [results, Tryz.results107, go_sem, c0, c1, c2]) rfl ⟨q1, 1 + q2, q3, rfl, by omega, by omega, by omega, (unhide HE _ _ _).1, (unhide HE _ _ _).2⟩

end Go.Proofs.YtefnapcegeojoaaGreatDoor
