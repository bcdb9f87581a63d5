import Derived.Test.YtjmianalknnekaaDoorRows
import Derived.Test.YtjmianalknnekaaDoorPart1
import Derived.Test.YtjmianalknnekaaDoorPart3
import Derived.Test.YtjmianalknnekaaDoorPart5
import Derived.Test.YtjmianalknnekaaDoorPart2
import Derived.WalkKit
import Derived.WalkSpells
import Derived.Laws.BytesArg
import Derived.Deep.RegionWith
import Derived.Outline
import Derived.Deep.RegionLawGrows
import Derived.Deep.RegionHeld3
import Derived.Deep.AppendLies

/- Contracts of the model's l02Kind, l02Seal. -/
namespace Go.Proofs.YtjmianalknnekaaDoor
open Go.RowKit
set_option linter.unusedVariables false
set_option maxRecDepth 100000

theorem l02Kind_any (n : Int) (w : World) : Calls Tryd.prog 54 #[.int .i64 n] w fun e w' => e = .returned (.bool (kindB n)) ∧ w' = w := by
  go_enter Tryd.func54, Tryd.ntmps54
  go_wp2_with (go_at_call 38; refine (l01In_num _ _ _ _).mono ?_; rintro e w' ⟨rfl, rfl⟩)
  go_ret
  exact ⟨rfl, rfl⟩
/-- 'string([]byte{a, b})'. -/
theorem lit2 (W : World) (g : Nat) (a b : Int) (h : W.heap.size = g) : (convert 22 9 (.slice (some ⟨g, 0, none⟩) 2 2)).run Tryd.prog (W.alloc (.cells #[.int .u8 a, .int .u8 b] 5)) = .ok (.string (strOfNums [a, b])) (W.alloc (.cells #[.int .u8 a, .int .u8 b] 5)) := by
  subst h
  refine run_convert_bytes_arg _ 22 5 Tryd.underlying22 Tryd.underlying5 W.heap.size 0 2 2 [a, b] rfl ?_ 9 Tryd.underlying9
  intro i hi
  rcases (show i = 0 ∨ i = 1 by omega) with rfl | rfl <;> simp [go_sem, List.getD]

theorem sum_spec (k : Int) (xs : List Int) (w : World) (hl : xs.length ≤ 16) : Calls Tryd.prog 52 #[.string (strOfNums [k, (xs.length : Int)] ++ packS xs)] w fun e w' => e = .returned (.int .i64 (sumR k xs)) ∧ w' = w :=
  l02Sum_any (sumT k xs) w (by rw [sumT_size]; omega)
set_option maxHeartbeats 1600000 in
theorem l02Seal_any (k : Int) (ao : Option Addr) (cap : Nat) (xs : List Int) (w : World) (hk : 1 ≤ k ∧ k ≤ 9) (hl : xs.length ≤ 16) (hn : ∀ j (h : j < xs.length), 0 ≤ xs[j] ∧ xs[j] ≤ 2147483647) (hc : Is w ao xs) :
    Calls Tryd.prog 39 #[.int .i64 k, .slice ao xs.length cap] w fun e w' => e = .returned (.string (sealS k xs)) ∧ Below w.heap.size w w' := by
  have HC := hide hc
  have HN := hide hn
  clear hc hn
  have hp := packS_size xs
  have hs2 : (strOfNums [k, (xs.length : Int)]).size = 2 := strOfNums_size _
  go_enter Tryd.func39, Tryd.ntmps39
  go_wp2_with fail
  refine (l02Pack_any _ _ xs _ (by omega) (unhide HN) (unhide HC)).mono ?_
  rintro e w1 ⟨rfl, hb1⟩
  have HB1 := hide hb1
  have hc1 := lit2 w1 w1.heap.size k xs.length rfl
  clear hb1
  go_wp2_with fail
  refine (sum_spec k xs _ hl).mono ?_
  rintro e w2 ⟨rfl, rfl⟩
  obtain ⟨hr0, hr1⟩ := sumR_in k xs
  have hc2 := lit2 (w1.alloc (.cells #[.int .u8 k, .int .u8 xs.length] 5)) (w1.heap.size + 1) (sumR k xs) 0 (by simp)
  have hs3 : (strOfNums [sumR k xs, 0]).size = 2 := strOfNums_size _
  have hs4 : (strOfNums [k, (xs.length : Int)] ++ strOfNums [sumR k xs, 0]).size = 4 := by rw [ByteArray.size_append, hs2, hs3]
  have HE := hide (sealS_parts k xs)
  go_wp2
  go_ret
  exact ⟨ret_str (unhide HE), fr (unhide HB1) (Joins.below_alloc2 _ _ _)⟩

end Go.Proofs.YtjmianalknnekaaDoor

/- Plain facts on records, of no program: when a text is just one. -/
namespace Go.Proofs.YtjmianalknnekaaDoor
open Go.RowKit
set_option linter.unusedVariables false

theorem byteAt_list (s : ByteArray) (k : Nat) : byteAt s k = ((s.data.toList[k]?.getD 0).toNat : Int) := by simp [byteAt]
theorem list_eq {a b : ByteArray} (h : a.data.toList = b.data.toList) : a = b := by
  cases a; cases b
  simpa using Array.toList_inj.1 h
theorem size_list (s : ByteArray) : s.data.toList.length = s.size := by simp
/-- Two texts of one length with alike bytes are one. -/
theorem bytes_eq {a b : ByteArray} (hs : a.size = b.size) (h : ∀ k, k < a.size → byteAt a k = byteAt b k) : a = b := by
  apply list_eq
  apply List.ext_getElem
  · rw [size_list, size_list, hs]
  · intro i h1 h2
    rw [size_list] at h1
    have := h i h1
    rw [byteAt_list, byteAt_list, List.getElem?_eq_getElem (by rw [size_list]; exact h1), List.getElem?_eq_getElem h2] at this
    simp only [Option.getD_some] at this
    exact UInt8.toNat_inj.1 (by omega)
theorem byteAt_nums {ns : List Int} {k : Nat} (h : k < ns.length) (h0 : 0 ≤ ns[k]) (h1 : ns[k] ≤ 255) : byteAt (strOfNums ns) k = ns[k] := by
  rw [byteAt_list, strOfNums_data, List.getElem?_map, List.getElem?_eq_getElem h]
  simp only [Option.map_some, Option.getD_some]
  have : ns[k].toNat < 256 := by omega
  rw [UInt8.toNat_ofNat_of_lt' (by simpa using this)]
  omega
theorem byteAt_left {a b : ByteArray} {k : Nat} (h : k < a.size) : byteAt (a ++ b) k = byteAt a k := by
  have e : (a ++ b).data.toList = a.data.toList ++ b.data.toList := by simp
  rw [byteAt_list, byteAt_list, e, List.getElem?_append_left (by rw [size_list]; exact h)]
theorem byteAt_right {a b : ByteArray} {k : Nat} (h : a.size ≤ k) : byteAt (a ++ b) k = byteAt b (k - a.size) := by
  have e : (a ++ b).data.toList = a.data.toList ++ b.data.toList := by simp
  rw [byteAt_list, byteAt_list, e, List.getElem?_append_right (by rw [size_list]; exact h), size_list]
theorem byteAt_cut {u : ByteArray} {a b j : Nat} (hb : b ≤ u.size) (h : a + j < b) : byteAt (u.extract a b) j = byteAt u (a + j) := by
  have e : (u.extract a b).data = u.data.extract a b := by simp
  unfold byteAt
  have : j < min b u.data.size - a := by have : b ≤ u.data.size := hb; omega
  rw [e, Array.getElem?_extract, if_pos this]

/-- The head and the body of a text. -/
def bodyT (s : ByteArray) : ByteArray := s.extract 4 s.size
def headT (s : ByteArray) : ByteArray := s.extract 0 2
theorem bodyT_size (s : ByteArray) : (bodyT s).size = s.size - 4 := by simp [bodyT]
theorem headT_size {s : ByteArray} (h : 4 ≤ s.size) : (headT s).size = 2 := by simp [headT]; omega
theorem headT_eq {s : ByteArray} (h : 4 ≤ s.size) : headT s = strOfNums [byteAt s 0, byteAt s 1] := by
  have h0 := byteAt_in s 0
  have h1 := byteAt_in s 1
  apply bytes_eq
  · rw [headT_size h, strOfNums_size]; rfl
  · intro k hk
    rw [headT_size h] at hk
    rw [headT, byteAt_cut (by omega) (by omega)]
    rcases (show k = 0 ∨ k = 1 by omega) with rfl | rfl
    · rw [byteAt_nums (by simp) (by simp; omega) (by simp; omega)]; simp
    · rw [byteAt_nums (by simp) (by simp; omega) (by simp; omega)]; simp
theorem bodyT_byte {s : ByteArray} {k : Nat} (h : 4 + k < s.size) : byteAt (bodyT s) k = byteAt s (4 + k) := by rw [bodyT, byteAt_cut (Nat.le_refl _) h]

/-- Numbers that are read are packed as they were. -/
theorem four_num (s : ByteArray) (i j : Nat) (hj : j < 4) : byteN (numAt s i) j = byteAt s (i + j) := by
  have h0 := byteAt_in s i
  have h1 := byteAt_in s (i + 1)
  have h2 := byteAt_in s (i + 2)
  have h3 := byteAt_in s (i + 3)
  unfold byteN numAt
  rcases (show j = 0 ∨ j = 1 ∨ j = 2 ∨ j = 3 by omega) with rfl | rfl | rfl | rfl
  · simp only [Nat.add_zero]; omega
  · show (byteAt s i + byteAt s (i + 1) * 256 + byteAt s (i + 2) * 65536 + byteAt s (i + 3) * 16777216) / 256 % 256 = _; omega
  · show (byteAt s i + byteAt s (i + 1) * 256 + byteAt s (i + 2) * 65536 + byteAt s (i + 3) * 16777216) / 65536 % 256 = _; omega
  · show (byteAt s i + byteAt s (i + 1) * 256 + byteAt s (i + 2) * 65536 + byteAt s (i + 3) * 16777216) / 16777216 % 256 = _; omega
theorem packL_at : ∀ (xs : List Int) (i j : Nat) (hi : i < xs.length) (hj : j < 4), (packL xs)[i * 4 + j]? = some (byteN xs[i] j)
  | [], i, _, hi, _ => absurd hi (Nat.not_lt_zero _)
  | x :: xs, 0, j, _, hj => by
    show (four x ++ packL xs)[0 * 4 + j]? = _
    rw [List.getElem?_append_left (by rw [four, fourTo_length]; omega)]
    simp [four, fourTo, hj]
  | x :: xs, i + 1, j, hi, hj => by
    show (four x ++ packL xs)[(i + 1) * 4 + j]? = _
    rw [List.getElem?_append_right (by rw [four, fourTo_length]; omega), four, fourTo_length, show (i + 1) * 4 + j - 4 = i * 4 + j by omega]
    have := packL_at xs i j (by simpa using hi) hj
    simpa using this
theorem pack_un {s : ByteArray} (h4 : s.size % 4 = 0) : packS (unL s) = s := by
  apply bytes_eq
  · rw [packS_size, unL_length]; omega
  · intro k hk
    rw [packS_size, unL_length] at hk
    have hq : k / 4 < (unL s).length := by rw [unL_length]; omega
    have h1 := packL_at (unL s) (k / 4) (k % 4) hq (by omega)
    rw [show k / 4 * 4 + k % 4 = k by omega, unL_get hq, four_num s _ _ (by omega), show k / 4 * 4 + k % 4 = k by omega] at h1
    obtain ⟨hkl, h2⟩ := List.getElem?_eq_some_iff.1 h1
    have hb := byteAt_in s k
    rw [packS, byteAt_nums hkl (by rw [h2]; omega) (by rw [h2]; omega), h2]

/-- A text is just one record. -/
def RecP (s : ByteArray) : Prop := 4 ≤ s.size ∧ kindB (byteAt s 0) = true ∧ byteAt s 3 = 0 ∧ ((bodyT s).size : Int) = byteAt s 1 * 4 ∧ byteAt s 2 = sumS (headT s ++ bodyT s) ∧ okU (bodyT s) = true
def recB (s : ByteArray) : Bool := decide (4 ≤ s.size) && (kindB (byteAt s 0) && (decide (byteAt s 3 = 0) && (decide (((bodyT s).size : Int) = byteAt s 1 * 4) && (decide (byteAt s 2 = sumS (headT s ++ bodyT s)) && okU (bodyT s)))))
theorem recB_iff {s : ByteArray} : recB s = true ↔ RecP s := by simp only [recB, RecP, Bool.and_eq_true, decide_eq_true_eq]
theorem recB_true {s : ByteArray} (h : RecP s) : recB s = true := recB_iff.2 h
theorem recB_false {s : ByteArray} (h : ¬ RecP s) : recB s = false := by
  rw [← Bool.not_eq_true]
  exact fun e => h (recB_iff.1 e)

theorem okU_parts {s : ByteArray} (h : okU s = true) : s.size % 4 = 0 ∧ s.size ≤ 64 ∧ intsB (unL s) = true := by
  by_cases h4 : s.size % 4 = 0
  · by_cases hl : 64 < s.size
    · rw [okU_long hl] at h; cases h
    · rw [okU_even h4] at h; exact ⟨h4, by omega, h⟩
  · rw [okU_rest h4] at h; cases h

/-- The model's test: what comes of the numbers is the text. -/
theorem seal_iff {s : ByteArray} (hs : 4 ≤ s.size) (hk : kindB (byteAt s 0) = true) (hu : okU (bodyT s) = true) : sealS (byteAt s 0) (unL (bodyT s)) = s ↔ RecP s := by
  obtain ⟨h4, h64, hints⟩ := okU_parts hu
  have hp := pack_un h4
  have hl := unL_length (bodyT s)
  have hbs := bodyT_size s
  have hk' := kindB_in hk
  have hr := sumR_in (byteAt s 0) (unL (bodyT s))
  have hz := sealS_size (byteAt s 0) (unL (bodyT s))
  have b1 := byteAt_in s 1
  have hhs : (strOfNums (headR (byteAt s 0) (unL (bodyT s)))).size = 4 := strOfNums_size _
  have hhead : ∀ j (hj : j < 4), byteAt (sealS (byteAt s 0) (unL (bodyT s))) j = (headR (byteAt s 0) (unL (bodyT s)))[j]'(by simpa [headR] using hj) := by
    intro j hj
    rw [sealS, byteAt_left (by rw [hhs]; exact hj), byteAt_nums]
    · rcases (show j = 0 ∨ j = 1 ∨ j = 2 ∨ j = 3 by omega) with rfl | rfl | rfl | rfl <;> simp [headR] <;> omega
    · rcases (show j = 0 ∨ j = 1 ∨ j = 2 ∨ j = 3 by omega) with rfl | rfl | rfl | rfl <;> simp [headR] <;> omega
  have hrest : ∀ j, 4 ≤ j → byteAt (sealS (byteAt s 0) (unL (bodyT s))) j = byteAt (bodyT s) (j - 4) := by
    intro j hj
    rw [sealS, byteAt_right (by rw [hhs]; exact hj), hhs, hp]
  constructor
  · intro e
    have e1 := hhead 1 (by omega)
    have e2 := hhead 2 (by omega)
    have e3 := hhead 3 (by omega)
    rw [e] at e1 e2 e3
    simp only [headR, List.getElem_cons_succ, List.getElem_cons_zero] at e1 e2 e3
    refine ⟨hs, hk, e3, by omega, ?_, hu⟩
    rw [e2, sumR, sumT, hp, headT_eq hs, e1]
  · rintro ⟨_, _, h3, hcnt, hsum, _⟩
    have hlen : (((unL (bodyT s)).length : Nat) : Int) = byteAt s 1 := by omega
    have hsr : sumR (byteAt s 0) (unL (bodyT s)) = byteAt s 2 := by rw [sumR, sumT, hp, hlen, ← headT_eq hs, hsum]
    apply bytes_eq
    · rw [hz]; omega
    · intro k hk2
      rw [hz] at hk2
      by_cases hk4 : k < 4
      · rw [hhead k hk4]
        rcases (show k = 0 ∨ k = 1 ∨ k = 2 ∨ k = 3 by omega) with rfl | rfl | rfl | rfl
        · simp [headR]
        · simp [headR, hlen]
        · simp [headR, hsr]
        · simp [headR, h3]
      · rw [hrest k (by omega), bodyT_byte (by omega), show 4 + (k - 4) = k by omega]

/-- The codes and what comes of records. -/
def opC (s : ByteArray) (k : Int) : Int := if 65536 < s.size then 2 else if kindB k = true then (if recB s = true ∧ byteAt s 0 = k then 0 else 3) else 4
def opR (s : ByteArray) (k : Int) : List Int := if opC s k = 0 then unL (bodyT s) else []
def kdC (s : ByteArray) : Int := if 65536 < s.size then 2 else if recB s = true then 0 else 3
def kdR (s : ByteArray) : Int := if kdC s = 0 then byteAt s 0 else 0
theorem opC_long {s : ByteArray} {k : Int} (h : 65536 < s.size) : opC s k = 2 := if_pos h
theorem opC_kind {s : ByteArray} {k : Int} (h : ¬ 65536 < s.size) (hk : kindB k = false) : opC s k = 4 := by rw [opC, if_neg h, if_neg (by simp [hk])]
theorem opC_ok {s : ByteArray} {k : Int} (h : ¬ 65536 < s.size) (hk : kindB k = true) (hr : recB s = true) (he : byteAt s 0 = k) : opC s k = 0 := by rw [opC, if_neg h, if_pos hk, if_pos ⟨hr, he⟩]
theorem opC_no {s : ByteArray} {k : Int} (h : ¬ 65536 < s.size) (hk : kindB k = true) (hr : ¬ (recB s = true ∧ byteAt s 0 = k)) : opC s k = 3 := by rw [opC, if_neg h, if_pos hk, if_neg hr]
theorem opR_ok {s : ByteArray} {k : Int} (h : opC s k = 0) : opR s k = unL (bodyT s) := if_pos h
theorem opR_no {s : ByteArray} {k : Int} (h : opC s k ≠ 0) : opR s k = [] := if_neg h
theorem kdC_long {s : ByteArray} (h : 65536 < s.size) : kdC s = 2 := if_pos h
theorem kdC_ok {s : ByteArray} (h : ¬ 65536 < s.size) (hr : recB s = true) : kdC s = 0 := by rw [kdC, if_neg h, if_pos hr]
theorem kdC_no {s : ByteArray} (h : ¬ 65536 < s.size) (hr : recB s = false) : kdC s = 3 := by rw [kdC, if_neg h, if_neg (by simp [hr])]
theorem kdR_ok {s : ByteArray} (h : kdC s = 0) : kdR s = byteAt s 0 := if_pos h
theorem kdR_no {s : ByteArray} (h : kdC s ≠ 0) : kdR s = 0 := if_neg h

end Go.Proofs.YtjmianalknnekaaDoor

/- Contract of spec.l02Unpack. -/
namespace Go.Proofs.YtjmianalknnekaaDoor
open Go.RowKit
set_option linter.unusedVariables false
set_option maxRecDepth 100000

set_option maxHeartbeats 1600000 in
theorem l02Unpack_any (s : ByteArray) (w : World) (hs : s.size ≤ 65536) : Calls Tryd.prog 55 #[.string s] w fun e w' => ∃ v, e = .returned (.tuple #[v, .bool (okU s)]) ∧ OwnN w' w.heap.size v (listU s) ∧ Below w.heap.size w w' := by
  obtain ⟨j0, hj, hy0, hy1, hy2⟩ := info_parts infoM
  by_cases h4 : s.size % 4 = 0
  · have hb4 : ((s.size : Int) % 4 != 0) = false := by simp; omega
    have HU : Hid (listU s = unL s) := hide (if_pos h4)
    have HOK := hide (okU_even h4)
    go_enter Tryd.func55, Tryd.ntmps55
    go_wp2
    go_loopw [4, 5] (fun o i wr => ∃ (k : Nat) (qo : Option Addr) (qa : Nat), k ≤ s.size / 4 ∧ i = .int .i64 ((k : Int) * 4) ∧ o = .slice qo k qa ∧ Hid (OwnR wr w.heap.size 3 1 (.slice qo k qa) k (intV ((unL s).take k))) ∧ Hid (Below w.heap.size w wr)) (fun _ i _ => s.size - (intOf i).toNat)
    case atStart => exact ⟨0, _, _, Nat.zero_le _, rfl, rfl, hide (.inl ⟨rfl, rfl, _, rfl⟩), hide (by first | exact Below.refl _ _ | exact Joins.below_alloc1 _ _)⟩
    case round =>
      obtain ⟨k, qo, qa, hk, rfl, rfl, HO, HB⟩ := hrel
      by_cases hlt : k < s.size / 4
      · have hlt' : (k : Int) * 4 < (s.size : Int) := by omega
        go_wp2
        go_loopw [6, 7] (fun n j wq => ∃ m : Nat, m ≤ 4 ∧ j = .int .i64 (3 - (m : Int)) ∧ n = .int .i64 (hi s (k * 4) m) ∧ Hid (OwnR wq w.heap.size 3 1 (.slice qo k qa) k (intV ((unL s).take k))) ∧ Hid (Below w.heap.size w wq)) (fun _ j _ => (intOf j + 1).toNat)
        case atStart => exact ⟨0, by omega, rfl, rfl, HO, HB⟩
        case round =>
          clear HO HB
          obtain ⟨m, hm, rfl, rfl, HO, HB⟩ := hrel
          by_cases hm3 : m ≤ 3
          · obtain ⟨hh0, hh1⟩ := hi_in s (k * 4) m hm3
            have HS := hide (hi_step s (k * 4) m hm3 (by omega))
            have HW := hide (wrap_byte s[k * 4 + (3 - m)])
            go_wp2
            go_roundw
            case rel => exact ⟨m + 1, by omega, by go_num, by rw [← unhide HS, unhide HW], HO, HB⟩
            case measure => simp [intOf]; omega
          · have HE : Hid (hi s (k * 4) m = numAt s (k * 4)) := hide (by rw [show m = 4 by omega, hi_four])
            have HOA := hide ((unhide HO).below (Joins.below_alloc1 _ (.cells #[.int .i64 (hi s (k * 4) m)] 3)))
            have HBA := hide (fr (unhide HB) (Joins.below_alloc1 _ (.cells #[.int .i64 (hi s (k * 4) m)] 3)))
            have HSZ := hide (unhide HB).size
            go_wp2_with (at_builtin; refine wpList_append_one rfl _ _ 23 rfl w.heap.size 3 j0 (.int .i64 0) 1 8 Tryd.underlying23 hj hy0 hy1 hy2 rfl (by omega) qo k qa (intV ((unL s).take k)) rfl (unhide HOA) (by have := unhide HSZ; simp; omega) ⟨wr.heap.size, 0, none⟩ _ [.int .i64 (hi s (k * 4) m)] rfl rfl (byte_news wr _ _) (int_one _) (by unfold maxLen; omega) (by omega) ?_; intro g2 cap2 wA hoA hkA; have HSF := hide (And.intro hoA (keep_below (unhide HBA) (unhide HOA) (Nat.le_refl _) hkA)); clear hoA hkA)
            go_roundw
            case rel => exact ⟨k + 1, _, _, by omega, by go_num, rfl, hide (.inr ⟨by omega, by rw [unL_succ hlt, intV_snoc, ← unhide HE]; exact (unhide HSF).1⟩), hide (unhide HSF).2⟩
            case measure => simp [intOf]; omega
      · have hke : k = (unL s).length := by rw [unL_length]; omega
        have HT : Hid ((unL s).take k = unL s) := hide (List.take_of_length_le (by omega))
        have HON : Hid (OwnR wr w.heap.size 3 1 (.slice qo (unL s).length qa) (unL s).length (intV (unL s))) := hide (by have := unhide HO; rw [unhide HT, hke] at this; exact this)
        have HL := hide (unL_length s)
        have hlen : (unL s).length ≤ 1048576 := by rw [unhide HL]; omega
        subst hke
        go_wp2_with (go_at_call 58; refine (l02Ints_any _ _ (unL s) _ hlen (ownRN (unhide HON))).mono ?_; rintro e w' ⟨rfl, rfl⟩)
        go_ret2
        exact ⟨.slice qo (unL s).length qa, ret_nb rfl (unhide HOK).symm, by rw [unhide HU]; exact ⟨qo, qa, rfl, unhide HON⟩, unhide HB⟩
  · have hb4 : ((s.size : Int) % 4 != 0) = true := by simp; omega
    have HU : Hid (listU s = []) := hide (if_neg h4)
    have HOK := hide (okU_rest h4)
    go_enter Tryd.func55, Tryd.ntmps55
    go_wp2
    go_ret2
    exact ⟨.slice (some ⟨w.heap.size, 0, none⟩) 0 0, ret_nb rfl (unhide HOK).symm, by rw [unhide HU]; exact OwnN.nil _ _ _, by first | exact Below.refl _ _ | exact Joins.below_alloc1 _ _⟩

end Go.Proofs.YtjmianalknnekaaDoor

/- Contracts of the model's readers of records: l02Open, OpenRecord, KindOf. -/
namespace Go.Proofs.YtjmianalknnekaaDoor
open Go.RowKit
set_option linter.unusedVariables false
set_option maxRecDepth 100000

/-- What l02Open answers. -/
def openB (s : ByteArray) (k : Int) : Bool := recB s && decide (byteAt s 0 = k)
def openL (s : ByteArray) (k : Int) : List Int := if openB s k = true then unL (bodyT s) else []
theorem openB_no {s : ByteArray} {k : Int} (h : ¬ RecP s) : openB s k = false := by rw [openB, recB_false h]; rfl
theorem openB_kind {s : ByteArray} {k : Int} (h : byteAt s 0 ≠ k) : openB s k = false := by rw [openB, decide_eq_false h]; simp
theorem openB_yes {s : ByteArray} {k : Int} (h : RecP s) (hk : byteAt s 0 = k) : openB s k = true := by rw [openB, recB_true h, decide_eq_true hk]; rfl
theorem openL_no {s : ByteArray} {k : Int} (h : openB s k = false) : openL s k = [] := if_neg (by simp [h])
theorem openL_yes {s : ByteArray} {k : Int} (h : openB s k = true) : openL s k = unL (bodyT s) := if_pos h

set_option maxHeartbeats 1600000 in
theorem l02Open_any (s : ByteArray) (k : Int) (w : World) (hs : s.size ≤ 65536) : Calls Tryd.prog 45 #[.string s, .int .i64 k] w fun e w' => ∃ v, e = .returned (.tuple #[v, .bool (openB s k)]) ∧ OwnN w' w.heap.size v (openL s k) ∧ Below w.heap.size w w' := by
  by_cases h4 : s.size < 4
  · have HB0 := hide (openB_no (s := s) (k := k) (fun h => by have := h.1; omega))
    have HL0 := hide (openL_no (unhide HB0))
    have h4i : (s.size : Int) < 4 := by omega
    go_enter Tryd.func45, Tryd.ntmps45
    go_wp2
    go_ret2
    exact ⟨.slice (some ⟨w.heap.size, 0, none⟩) 0 0, ret_nb rfl (unhide HB0).symm, by rw [unhide HL0]; exact OwnN.nil _ _ _, Joins.below_alloc1 _ _⟩
  have h4' : 4 ≤ s.size := by omega
  have h4i : ¬ (s.size : Int) < 4 := by omega
  have h0 : 0 < s.size := by omega
  have HG := hide (byteAt_get (s := s) (k := 0) h0)
  have hwb := wrap_byte s[0]
  by_cases hk : byteAt s 0 = k
  · have hkb : ((s[0].toNat : Int) != k) = false := by rw [← unhide HG, hk]; simp
    have HK := hide hk
    clear hk
    cases hkk : kindB k with
    | true =>
      have hkin := kindB_in hkk
      cases hok : okU (bodyT s) with
      | true =>
        have HP := hide (okU_parts hok)
        have HI := hide (seal_iff h4' (by rw [unhide HK]; exact hkk) hok)
        have HLU : Hid (listU (bodyT s) = unL (bodyT s)) := hide (if_pos (unhide HP).1)
        have HIN := hide (intsB_parts (unhide HP).2.2)
        have hbs : (bodyT s).size ≤ 65536 := by rw [bodyT_size]; omega
        by_cases hr : RecP s
        · have HB0 := hide (openB_yes hr (unhide HK))
          have HL0 := hide (openL_yes (unhide HB0))
          have hse : ((sealS k (unL (bodyT s))).toList == s.toList) = true := by
            have := (unhide HI).2 hr
            rw [unhide HK] at this
            rw [this]; simp
          clear hr
          go_enter Tryd.func45, Tryd.ntmps45
          go_wp2_with (go_at_call 54; refine (l02Kind_any _ _).mono ?_; rintro e w' ⟨rfl, hw⟩; replace hw := hw.symm; subst hw)
          refine (l02Unpack_any (bodyT s) _ hbs).mono ?_
          rintro e w1 ⟨v, rfl, ho, hb⟩
          rw [unhide HLU] at ho
          obtain ⟨qo, qa, rfl, ho⟩ := ho
          have HO := hide ho
          have HB := hide hb
          clear ho hb
          go_wp2_with (go_at_call 39; refine (l02Seal_any k _ _ (unL (bodyT s)) _ hkin (unhide HIN).2 (unhide HIN).1 (ownRN (unhide HO))).mono ?_; rintro e w2 ⟨rfl, hb2⟩; have HB2 := hide (fr (unhide HB) hb2); have HO2 := hide ((unhide HO).below hb2); clear hb2)
          go_ret2
          exact ⟨.slice qo (unL (bodyT s)).length qa, ret_nb rfl (unhide HB0).symm, by rw [unhide HL0]; exact ⟨qo, qa, rfl, unhide HO2⟩, unhide HB2⟩
        · have HB0 := hide (openB_no (k := k) hr)
          have HL0 := hide (openL_no (unhide HB0))
          have hse : ((sealS k (unL (bodyT s))).toList == s.toList) = false := str_beq_false (fun e => hr ((unhide HI).1 (by rw [unhide HK]; exact e)))
          clear hr
          go_enter Tryd.func45, Tryd.ntmps45
          go_wp2_with (go_at_call 54; refine (l02Kind_any _ _).mono ?_; rintro e w' ⟨rfl, hw⟩; replace hw := hw.symm; subst hw)
          refine (l02Unpack_any (bodyT s) _ hbs).mono ?_
          rintro e w1 ⟨v, rfl, ho, hb⟩
          rw [unhide HLU] at ho
          obtain ⟨qo, qa, rfl, ho⟩ := ho
          have HO := hide ho
          have HB := hide hb
          clear ho hb
          go_wp2_with (go_at_call 39; refine (l02Seal_any k _ _ (unL (bodyT s)) _ hkin (unhide HIN).2 (unhide HIN).1 (ownRN (unhide HO))).mono ?_; rintro e w2 ⟨rfl, hb2⟩; have HB2 := hide (fr (unhide HB) hb2); clear hb2)
          go_ret2
          exact ⟨.slice (some ⟨w2.heap.size, 0, none⟩) 0 0, ret_nb rfl (unhide HB0).symm, by rw [unhide HL0]; exact OwnN.nil _ _ _, fr (unhide HB2) (Joins.below_alloc1 _ _)⟩
      | false =>
        have HB0 := hide (openB_no (s := s) (k := k) (fun h => by have := h.2.2.2.2.2; rw [hok] at this; cases this))
        have HL0 := hide (openL_no (unhide HB0))
        have hbs : (bodyT s).size ≤ 65536 := by rw [bodyT_size]; omega
        go_enter Tryd.func45, Tryd.ntmps45
        go_wp2_with (go_at_call 54; refine (l02Kind_any _ _).mono ?_; rintro e w' ⟨rfl, hw⟩; replace hw := hw.symm; subst hw)
        refine (l02Unpack_any (bodyT s) _ hbs).mono ?_
        rintro e w1 ⟨v, rfl, ho, hb⟩
        have HB := hide hb
        clear ho hb
        go_wp2
        go_ret2
        exact ⟨.slice (some ⟨w1.heap.size, 0, none⟩) 0 0, ret_nb rfl (unhide HB0).symm, by rw [unhide HL0]; exact OwnN.nil _ _ _, fr (unhide HB) (Joins.below_alloc1 _ _)⟩
    | false =>
      have HB0 := hide (openB_no (s := s) (k := k) (fun h => by have := h.2.1; rw [unhide HK, hkk] at this; cases this))
      have HL0 := hide (openL_no (unhide HB0))
      go_enter Tryd.func45, Tryd.ntmps45
      go_wp2_with (go_at_call 54; refine (l02Kind_any _ _).mono ?_; rintro e w' ⟨rfl, hw⟩; replace hw := hw.symm; subst hw)
      go_ret2
      exact ⟨.slice (some ⟨w.heap.size, 0, none⟩) 0 0, ret_nb rfl (unhide HB0).symm, by rw [unhide HL0]; exact OwnN.nil _ _ _, Joins.below_alloc1 _ _⟩
  · have hkb : ((s[0].toNat : Int) != k) = true := by rw [← unhide HG]; simp [hk]
    have HB0 := hide (openB_kind hk)
    have HL0 := hide (openL_no (unhide HB0))
    clear hk
    go_enter Tryd.func45, Tryd.ntmps45
    go_wp2
    go_ret2
    exact ⟨.slice (some ⟨w.heap.size, 0, none⟩) 0 0, ret_nb rfl (unhide HB0).symm, by rw [unhide HL0]; exact OwnN.nil _ _ _, Joins.below_alloc1 _ _⟩

end Go.Proofs.YtjmianalknnekaaDoor

/- Contracts of DiskOK, of the program and of its model: both answer one plain function of the disk. -/
namespace Go.Proofs.YtjmianalknnekaaDoor
open Go.RowKit
set_option linter.unusedVariables false
set_option maxRecDepth 100000

theorem l01In_any (n low high : Int) (w : World) : Calls Tryd.prog 38 #[.int .i64 n, .int .i64 low, .int .i64 high] w fun e w' => e = .returned (.bool (inB n low high)) ∧ w' = w := by
  go_enter Tryd.func38, Tryd.ntmps38
  go_wp2
  all_goals
    go_ret
    exact ⟨ret_bool (by rw [Bool.eq_iff_iff]; simp [inB]; omega), rfl⟩

end Go.Proofs.YtjmianalknnekaaDoor

/- Contracts of the disk's codes and of ReadSector, of the program and of its model. -/
namespace Go.Proofs.YtjmianalknnekaaDoor
open Go.RowKit
set_option linter.unusedVariables false
set_option maxRecDepth 100000

end Go.Proofs.YtjmianalknnekaaDoor

/- Contract of impl.PendingOf. -/
namespace Go.Proofs.YtjmianalknnekaaDoor
open Go.RowKit
set_option linter.unusedVariables false
set_option maxRecDepth 100000

/-- How many writes a host has. -/
def cntW (xs : List Wr) (h : Int) : Nat := (xs.filter fun x => x.host == h).length
theorem cntW_le (xs : List Wr) (h : Int) : cntW xs h ≤ xs.length := List.length_filter_le _ _
theorem cnt_hit {xs : List Wr} {h : Int} {k : Nat} (hk : k < xs.length) (he : xs[k].host = h) : cntW (xs.take (k + 1)) h = cntW (xs.take k) h + 1 := by
  rw [cntW, cntW, List.take_succ_eq_append_getElem hk, List.filter_append, List.length_append]; simp [he]
theorem cnt_miss {xs : List Wr} {h : Int} {k : Nat} (hk : k < xs.length) (he : ¬ xs[k].host = h) : cntW (xs.take (k + 1)) h = cntW (xs.take k) h := by
  rw [cntW, cntW, List.take_succ_eq_append_getElem hk, List.filter_append, List.length_append]; simp [he]
theorem askC_zero (ss : List ByteArray) (xs : List Wr) (h : Int) : askC ss xs h 0 = hostC ss xs h := by
  unfold askC
  split
  · rename_i e; rw [e]; rfl
  · rfl
def cntC (ss : List ByteArray) (xs : List Wr) (h : Int) : Int := if hostC ss xs h = 0 then (cntW xs h : Int) else 0
theorem ret_two {a b c d : Int} (h : a = b) (k : c = d) : Ending.returned (.tuple #[.int .i64 a, .int .i64 c]) = .returned (.tuple #[.int .i64 b, .int .i64 d]) := by rw [h, k]

end Go.Proofs.YtjmianalknnekaaDoor

/- A disk in rows of the call's own; variables that hold a disk. -/
namespace Go.Proofs.YtjmianalknnekaaDoor
open Go.RowKit
set_option linter.unusedVariables false

def OwnB (ao : Option Addr) (n ca : Nat) (bo : Option Addr) (m cb : Nat) (k : Nat) : Prop := Own (.slice ao n ca) k ∨ Own (.slice bo m cb) k

end Go.Proofs.YtjmianalknnekaaDoor

/- Contract of impl.copyDisk: the disk as it was, in new memory. -/
namespace Go.Proofs.YtjmianalknnekaaDoor
open Go.RowKit
set_option linter.unusedVariables false
set_option maxRecDepth 100000

end Go.Proofs.YtjmianalknnekaaDoor

/- Laws on append onto an empty literal, of no program's own. -/
namespace Go.Proofs.YtjmianalknnekaaDoor
open Go.RowKit
set_option linter.unusedVariables false
set_option maxRecDepth 100000

section
variable {P : Program}
theorem run_append_nothing (w : World) (t ty e : TypeId) (i : TypeInfo) (ht : P.underlying t = some (.slice e)) (hi : P.info? e = some i) (d so : Option Addr) (cap c : Nat) :
    (Builtin.append_ #[t, t] ty #[.slice d 0 cap, .slice so 0 c]).run P w = .ok (.slice d 0 cap) w := by
  have hl : ∀ (x : Addr), (loadCells x 0).run P w = .ok #[] w := fun x => by simpa using run_loadCells_list (P := P) w x [] (by simp)
  cases d <;> cases so <;> simp [Builtin.append_, run_underlying ht, sizeOf, typeInfo, hi, Builtin.lenOf, Builtin.firstCells, storeCells, hl]

theorem run_append_fresh (w : World) (t ty e : TypeId) (i : TypeInfo) (z : Value) (size bytes : Nat) (ht : P.underlying t = some (.slice e)) (hi : P.info? e = some i) (hz : i.zero = some z)
    (hsize : i.size = size) (hby : i.bytes = bytes) (hzs : z.cells.size = size) (hsz : 0 < size)
    (d : Addr) (so : Option Addr) (m c : Nat) (news : List Value) (hn : news.length = m * size) (hc : 0 < m → ∃ ad, so = some ad ∧ ∀ j u, news[j]? = some u → w.cell? (ad.add j) = some u)
    (b1 : m ≤ maxLen) (b2 : m * bytes ≤ 140737488355328) :
    ∃ ao cap w', (Builtin.append_ #[t, t] ty #[.slice (some d) 0 0, .slice so m c]).run P w = .ok (.slice ao m cap) w' ∧ OwnR w' w.heap.size e size (.slice ao m cap) m news ∧ w.grownBy w' none := by
  rcases Nat.eq_zero_or_pos m with h0 | h0
  · subst h0
    exact ⟨some d, 0, w, run_append_nothing w t ty e i ht hi _ _ _ _, .inl ⟨rfl, List.eq_nil_of_length_eq_zero (by simpa using hn), _, rfl⟩, World.grownBy.refl w none⟩
  · obtain ⟨ad, rfl, hcs⟩ := hc h0
    obtain ⟨v', w', hrun, r1, r2⟩ := run_append_arg_grows (P := P) w t ty e i z size bytes ht hi hz hsize hby hzs hsz d 0 0 [] (by simp) (by simp) ad m c news hn hcs (by omega) (by simpa using b1) (by simpa using b2)
    simp only [Nat.zero_add, List.nil_append] at r1
    obtain ⟨g, cap, cur, rfl, _, _⟩ := own_form h0 r1
    exact ⟨_, _, w', hrun, .inr ⟨h0, r1⟩, r2⟩

def isFresh : Value → Bool
  | .slice (some _) 0 0 => true
  | _ => false
theorem isFresh_form {v : Value} (h : isFresh v = true) : ∃ d, v = .slice (some d) 0 0 := by
  unfold isFresh at h
  split at h
  · exact ⟨_, rfl⟩
  · cases h

theorem step_append_fresh {ops : Array Oper} {o : Oper} {a : Act} {w : World} {K : Act → World → Prop} {Q : Exit → Act → World → Prop} {E : Prop}
    (hg : o.guard = none) (s x : Operand) (t : TypeId) (hop : o.op = Op.call { callee := Callee.builtin Builtin.append, args := #[s, x], argTypes := #[t, t] })
    (e : TypeId) (i : TypeInfo) (z : Value) (size bytes : Nat) (h1 : P.underlying t = some (.slice e)) (h2 : P.info? e = some i) (h3 : i.zero = some z) (h4 : i.size = size) (h5 : i.bytes = bytes) (h6 : z.cells.size = size) (h7 : 0 < size)
    (hs0 : isFresh (a.eval s) = true) (so : Option Addr) (m c : Nat) (news : List Value) (hx : a.eval x = .slice so m c) (hn : news.length = m * size)
    (hc : 0 < m → ∃ ad, so = some ad ∧ ∀ j u, news[j]? = some u → w.cell? (ad.add j) = some u) (b1 : m ≤ maxLen) (b2 : m * bytes ≤ 140737488355328)
    (hK : ∀ ao cap w', OwnR w' w.heap.size e size (.slice ao m cap) m news → w.grownBy w' none → K (a.put o.dst (.slice ao m cap)) w') :
    if Region.wanted o (yielded ops a.tmps) = true then Oper.wp P o a w K Q else E := by
  have hw : Region.wanted o (yielded ops a.tmps) = true := by simp [Region.wanted, hg]
  rw [if_pos hw]
  obtain ⟨d, hs⟩ := isFresh_form hs0
  obtain ⟨ao, cap, w', hrun, r1, r2⟩ := run_append_fresh (P := P) w t o.type e i z size bytes h1 h2 h3 h4 h5 h6 h7 d so m c news hn hc b1 b2
  unfold Oper.wp
  simp [execOp, hop, resolve, invoke, builtin, hs, hx, hrun, Result.andThen]
  exact hK _ _ _ r1 r2
end


theorem belowAl {W0 W : World} (h : Below W0.heap.size W0 W) (o : Obj) : Below W0.heap.size W0 (W.alloc o) := h.alloc h.size o
theorem belowGr {W0 W W' : World} (h : Below W0.heap.size W0 W) (hg : W.grownBy W' none) : Below W0.heap.size W0 W' := h.grown hg h.size (fun _ h => by cases h)
end Go.Proofs.YtjmianalknnekaaDoor

/- Contract of spec.l01Own: the disk as it was, in new memory. -/
namespace Go.Proofs.YtjmianalknnekaaDoor
open Go.RowKit
set_option linter.unusedVariables false
set_option maxRecDepth 100000

/-- The cells of a slice's texts, of its writes, for an append. -/
theorem Ss.src {w : World} {ao : Option Addr} {ss : List ByteArray} (h : Ss w ao ss) : 0 < ss.length → ∃ ad, ao = some ad ∧ ∀ j u, (strV ss)[j]? = some u → w.cell? (ad.add j) = some u := fun hp => by
  obtain ⟨b, off, rfl, hc⟩ := h.at hp
  exact ⟨_, rfl, hc⟩
theorem Ios.src {w : World} {ao : Option Addr} {xs : List Wr} (h : Ios w ao xs) : 0 < xs.length → ∃ ad, ao = some ad ∧ ∀ j u, (ioV xs)[j]? = some u → w.cell? (ad.add j) = some u := fun hp => by
  obtain ⟨b, off, rfl, hc⟩ := h.at hp
  exact ⟨_, rfl, hc⟩


end Go.Proofs.YtjmianalknnekaaDoor

/- Variables that hold a write; ends of calls that answer with a disk. -/
namespace Go.Proofs.YtjmianalknnekaaDoor
open Go.RowKit
set_option linter.unusedVariables false

def wrV (x : Wr) : List Value := [.int .i64 x.host, .int .i64 x.at_, .string x.data]
theorem wrV_one (x : Wr) : ∀ u ∈ wrV x, u.oneCell' = true := by
  intro u hu
  simp [wrV] at hu
  rcases hu with rfl | rfl | rfl <;> rfl
theorem ioV_snoc (xs : List Wr) (x : Wr) : ioV (xs ++ [x]) = ioV xs ++ wrV x := by simp [ioV, wrV]

theorem belowKp {W0 W W' : World} {S : Nat → Prop} (h : Below W0.heap.size W0 W) (hk : Keep S W W') (hs : ∀ j, S j → W0.heap.size ≤ j) : Below W0.heap.size W0 W' := h.trans (hk.below h.size hs)
theorem zero_end {w wL : World} (hb : Below w.heap.size w wL) (a b : Value) : Below w.heap.size w ((wL.setCell ⟨w.heap.size + 1, 0, none⟩ a).setCell ⟨w.heap.size + 1, 1, none⟩ b) :=
  (hb.setCell (p := ⟨w.heap.size + 1, 0, none⟩) (by simp) a).setCell (p := ⟨w.heap.size + 1, 1, none⟩) (by simp) b

theorem ask_zero (ss : List ByteArray) (xs : List Wr) (h : Int) : askC ss xs h 0 = hostC ss xs h := by
  unfold askC
  split
  · rename_i e; rw [e]; rfl
  · rfl
end Go.Proofs.YtjmianalknnekaaDoor

/- Contract of impl.landFirst: of a host's writes the first ones are sure. -/
namespace Go.Proofs.YtjmianalknnekaaDoor
open Go.RowKit
set_option linter.unusedVariables false

/-- One write of a disk's, as a host's writes land: the sectors, what is left, how many may still land. -/
def stepF (h : Int) (lost : Bool) (st : List ByteArray × List Wr × Int) (x : Wr) : List ByteArray × List Wr × Int :=
  if x.host = h then (if 0 < st.2.2 then (st.1.set x.at_.toNat x.data, st.2.1, st.2.2 - 1) else if lost = true then st else (st.1, st.2.1 ++ [x], st.2.2)) else (st.1, st.2.1 ++ [x], st.2.2)
def landF (h : Int) (lost : Bool) (ss : List ByteArray) (xs : List Wr) (n : Int) : List ByteArray × List Wr × Int := xs.foldl (stepF h lost) (ss, [], n)
theorem landF_succ {h : Int} {lost : Bool} {ss : List ByteArray} {xs : List Wr} {n : Int} {k : Nat} (hk : k < xs.length) : landF h lost ss (xs.take (k + 1)) n = stepF h lost (landF h lost ss (xs.take k) n) xs[k] := by
  unfold landF
  rw [List.take_succ_eq_append_getElem hk, List.foldl_append]
  rfl
theorem step_other {h : Int} {lost : Bool} {x : Wr} (ha : x.host ≠ h) (SS : List ByteArray) (LX : List Wr) (N : Int) : stepF h lost (SS, LX, N) x = (SS, LX ++ [x], N) := by simp [stepF, ha]
theorem step_land {h : Int} {lost : Bool} {x : Wr} (ha : x.host = h) (SS : List ByteArray) (LX : List Wr) {N : Int} (hn : 0 < N) : stepF h lost (SS, LX, N) x = (SS.set x.at_.toNat x.data, LX, N - 1) := by simp [stepF, ha, hn]
theorem step_keep {h : Int} {x : Wr} (ha : x.host = h) (SS : List ByteArray) (LX : List Wr) {N : Int} (hn : ¬ 0 < N) : stepF h false (SS, LX, N) x = (SS, LX ++ [x], N) := by simp [stepF, ha, hn]

theorem strV_set (SS : List ByteArray) (j : Nat) (d : ByteArray) : (strV SS).set j (.string d) = strV (SS.set j d) := by simp [strV, List.map_set]

end Go.Proofs.YtjmianalknnekaaDoor

/- Contract of spec.l01Land: of a host's writes the first ones are sure, the others stay or are lost. -/
namespace Go.Proofs.YtjmianalknnekaaDoor
open Go.RowKit
set_option linter.unusedVariables false

theorem step_drop {h : Int} {x : Wr} (ha : x.host = h) (SS : List ByteArray) (LX : List Wr) {N : Int} (hn : ¬ 0 < N) : stepF h true (SS, LX, N) x = (SS, LX, N) := by simp [stepF, ha, hn]

end Go.Proofs.YtjmianalknnekaaDoor
