import Derived.Test.YtefnapcegeojoabXJournalPlanPart1
import Derived.WalkKit
import Derived.Laws.BytesArg
import Derived.Test.YtefnapcegeojoabRows
import Derived.WalkSpells
import Derived.Deep.RegionLawGrows
import Derived.Deep.RegionWith
import Derived.ProofKit
import Derived.OpenShut
import Derived.ShutString
import Derived.SliceStrings
import Derived.Lib.SmallJoins
import Derived.BigQuiet
import Derived.Deep.QuietTactic

/- Plain facts on records, of no program: when a text is just one. -/
namespace Go.Proofs.Ytefnapcegeojoab
open Go.RowKit
set_option linter.unusedVariables false

theorem byteAt_list (s : ByteArray) (k : Nat) : byteAt s k = ((s.data.toList[k]?.getD 0).toNat : Int) := by simp [byteAt]
theorem list_eq {a b : ByteArray} (h : a.data.toList = b.data.toList) : a = b := by
  cases a; cases b
  simpa using Array.toList_inj.1 h
theorem size_list (s : ByteArray) : s.data.toList.length = s.size := by simp
/-- Two texts of one length with alike bytes are one. -/
theorem bytes_eq {a b : ByteArray} (hs : a.size = b.size) (h : ∀ k, k < a.size → byteAt a k = byteAt b k) : a = b := by
  apply list_eq
  apply List.ext_getElem
  · rw [size_list, size_list, hs]
  · intro i h1 h2
    rw [size_list] at h1
    have := h i h1
    rw [byteAt_list, byteAt_list, List.getElem?_eq_getElem (by rw [size_list]; exact h1), List.getElem?_eq_getElem h2] at this
    simp only [Option.getD_some] at this
    exact UInt8.toNat_inj.1 (by omega)
theorem byteAt_nums {ns : List Int} {k : Nat} (h : k < ns.length) (h0 : 0 ≤ ns[k]) (h1 : ns[k] ≤ 255) : byteAt (strOfNums ns) k = ns[k] := by
  rw [byteAt_list, strOfNums_data, List.getElem?_map, List.getElem?_eq_getElem h]
  simp only [Option.map_some, Option.getD_some]
  have : ns[k].toNat < 256 := by omega
  rw [UInt8.toNat_ofNat_of_lt' (by simpa using this)]
  omega
theorem byteAt_left {a b : ByteArray} {k : Nat} (h : k < a.size) : byteAt (a ++ b) k = byteAt a k := by
  have e : (a ++ b).data.toList = a.data.toList ++ b.data.toList := by simp
  rw [byteAt_list, byteAt_list, e, List.getElem?_append_left (by rw [size_list]; exact h)]
theorem byteAt_right {a b : ByteArray} {k : Nat} (h : a.size ≤ k) : byteAt (a ++ b) k = byteAt b (k - a.size) := by
  have e : (a ++ b).data.toList = a.data.toList ++ b.data.toList := by simp
  rw [byteAt_list, byteAt_list, e, List.getElem?_append_right (by rw [size_list]; exact h), size_list]
theorem byteAt_cut {u : ByteArray} {a b j : Nat} (hb : b ≤ u.size) (h : a + j < b) : byteAt (u.extract a b) j = byteAt u (a + j) := by
  have e : (u.extract a b).data = u.data.extract a b := by simp
  unfold byteAt
  have : j < min b u.data.size - a := by have : b ≤ u.data.size := hb; omega
  rw [e, Array.getElem?_extract, if_pos this]

/-- The head and the body of a text. -/
def bodyT (s : ByteArray) : ByteArray := s.extract 4 s.size
def headT (s : ByteArray) : ByteArray := s.extract 0 2
theorem bodyT_size (s : ByteArray) : (bodyT s).size = s.size - 4 := by simp [bodyT]
theorem headT_size {s : ByteArray} (h : 4 ≤ s.size) : (headT s).size = 2 := by simp [headT]; omega
theorem headT_eq {s : ByteArray} (h : 4 ≤ s.size) : headT s = strOfNums [byteAt s 0, byteAt s 1] := by
  have h0 := byteAt_in s 0
  have h1 := byteAt_in s 1
  apply bytes_eq
  · rw [headT_size h, strOfNums_size]; rfl
  · intro k hk
    rw [headT_size h] at hk
    rw [headT, byteAt_cut (by omega) (by omega)]
    rcases (show k = 0 ∨ k = 1 by omega) with rfl | rfl
    · rw [byteAt_nums (by simp) (by simp; omega) (by simp; omega)]; simp
    · rw [byteAt_nums (by simp) (by simp; omega) (by simp; omega)]; simp
theorem bodyT_byte {s : ByteArray} {k : Nat} (h : 4 + k < s.size) : byteAt (bodyT s) k = byteAt s (4 + k) := by rw [bodyT, byteAt_cut (Nat.le_refl _) h]

/-- Numbers that are read are packed as they were. -/
theorem four_num (s : ByteArray) (i j : Nat) (hj : j < 4) : byteN (numAt s i) j = byteAt s (i + j) := by
  have h0 := byteAt_in s i
  have h1 := byteAt_in s (i + 1)
  have h2 := byteAt_in s (i + 2)
  have h3 := byteAt_in s (i + 3)
  unfold byteN numAt
  rcases (show j = 0 ∨ j = 1 ∨ j = 2 ∨ j = 3 by omega) with rfl | rfl | rfl | rfl
  · simp only [Nat.add_zero]; omega
  · show (byteAt s i + byteAt s (i + 1) * 256 + byteAt s (i + 2) * 65536 + byteAt s (i + 3) * 16777216) / 256 % 256 = _; omega
  · show (byteAt s i + byteAt s (i + 1) * 256 + byteAt s (i + 2) * 65536 + byteAt s (i + 3) * 16777216) / 65536 % 256 = _; omega
  · show (byteAt s i + byteAt s (i + 1) * 256 + byteAt s (i + 2) * 65536 + byteAt s (i + 3) * 16777216) / 16777216 % 256 = _; omega
theorem packL_at : ∀ (xs : List Int) (i j : Nat) (hi : i < xs.length) (hj : j < 4), (packL xs)[i * 4 + j]? = some (byteN xs[i] j)
  | [], i, _, hi, _ => absurd hi (Nat.not_lt_zero _)
  | x :: xs, 0, j, _, hj => by
    show (four x ++ packL xs)[0 * 4 + j]? = _
    rw [List.getElem?_append_left (by rw [four, fourTo_length]; omega)]
    simp [four, fourTo, hj]
  | x :: xs, i + 1, j, hi, hj => by
    show (four x ++ packL xs)[(i + 1) * 4 + j]? = _
    rw [List.getElem?_append_right (by rw [four, fourTo_length]; omega), four, fourTo_length, show (i + 1) * 4 + j - 4 = i * 4 + j by omega]
    have := packL_at xs i j (by simpa using hi) hj
    simpa using this
theorem pack_un {s : ByteArray} (h4 : s.size % 4 = 0) : packS (unL s) = s := by
  apply bytes_eq
  · rw [packS_size, unL_length]; omega
  · intro k hk
    rw [packS_size, unL_length] at hk
    have hq : k / 4 < (unL s).length := by rw [unL_length]; omega
    have h1 := packL_at (unL s) (k / 4) (k % 4) hq (by omega)
    rw [show k / 4 * 4 + k % 4 = k by omega, unL_get hq, four_num s _ _ (by omega), show k / 4 * 4 + k % 4 = k by omega] at h1
    obtain ⟨hkl, h2⟩ := List.getElem?_eq_some_iff.1 h1
    have hb := byteAt_in s k
    rw [packS, byteAt_nums hkl (by rw [h2]; omega) (by rw [h2]; omega), h2]

/-- A text is just one record. -/
def RecP (s : ByteArray) : Prop := 4 ≤ s.size ∧ kindB (byteAt s 0) = true ∧ byteAt s 3 = 0 ∧ ((bodyT s).size : Int) = byteAt s 1 * 4 ∧ byteAt s 2 = sumS (headT s ++ bodyT s) ∧ okU (bodyT s) = true
def recB (s : ByteArray) : Bool := decide (4 ≤ s.size) && (kindB (byteAt s 0) && (decide (byteAt s 3 = 0) && (decide (((bodyT s).size : Int) = byteAt s 1 * 4) && (decide (byteAt s 2 = sumS (headT s ++ bodyT s)) && okU (bodyT s)))))
theorem recB_iff {s : ByteArray} : recB s = true ↔ RecP s := by simp only [recB, RecP, Bool.and_eq_true, decide_eq_true_eq]
theorem recB_true {s : ByteArray} (h : RecP s) : recB s = true := recB_iff.2 h
theorem recB_false {s : ByteArray} (h : ¬ RecP s) : recB s = false := by
  rw [← Bool.not_eq_true]
  exact fun e => h (recB_iff.1 e)

theorem okU_parts {s : ByteArray} (h : okU s = true) : s.size % 4 = 0 ∧ s.size ≤ 64 ∧ intsB (unL s) = true := by
  by_cases h4 : s.size % 4 = 0
  · by_cases hl : 64 < s.size
    · rw [okU_long hl] at h; cases h
    · rw [okU_even h4] at h; exact ⟨h4, by omega, h⟩
  · rw [okU_rest h4] at h; cases h

/-- The model's test: what comes of the numbers is the text. -/
theorem seal_iff {s : ByteArray} (hs : 4 ≤ s.size) (hk : kindB (byteAt s 0) = true) (hu : okU (bodyT s) = true) : sealS (byteAt s 0) (unL (bodyT s)) = s ↔ RecP s := by
  obtain ⟨h4, h64, hints⟩ := okU_parts hu
  have hp := pack_un h4
  have hl := unL_length (bodyT s)
  have hbs := bodyT_size s
  have hk' := kindB_in hk
  have hr := sumR_in (byteAt s 0) (unL (bodyT s))
  have hz := sealS_size (byteAt s 0) (unL (bodyT s))
  have b1 := byteAt_in s 1
  have hhs : (strOfNums (headR (byteAt s 0) (unL (bodyT s)))).size = 4 := strOfNums_size _
  have hhead : ∀ j (hj : j < 4), byteAt (sealS (byteAt s 0) (unL (bodyT s))) j = (headR (byteAt s 0) (unL (bodyT s)))[j]'(by simpa [headR] using hj) := by
    intro j hj
    rw [sealS, byteAt_left (by rw [hhs]; exact hj), byteAt_nums]
    · rcases (show j = 0 ∨ j = 1 ∨ j = 2 ∨ j = 3 by omega) with rfl | rfl | rfl | rfl <;> simp [headR] <;> omega
    · rcases (show j = 0 ∨ j = 1 ∨ j = 2 ∨ j = 3 by omega) with rfl | rfl | rfl | rfl <;> simp [headR] <;> omega
  have hrest : ∀ j, 4 ≤ j → byteAt (sealS (byteAt s 0) (unL (bodyT s))) j = byteAt (bodyT s) (j - 4) := by
    intro j hj
    rw [sealS, byteAt_right (by rw [hhs]; exact hj), hhs, hp]
  constructor
  · intro e
    have e1 := hhead 1 (by omega)
    have e2 := hhead 2 (by omega)
    have e3 := hhead 3 (by omega)
    rw [e] at e1 e2 e3
    simp only [headR, List.getElem_cons_succ, List.getElem_cons_zero] at e1 e2 e3
    refine ⟨hs, hk, e3, by omega, ?_, hu⟩
    rw [e2, sumR, sumT, hp, headT_eq hs, e1]
  · rintro ⟨_, _, h3, hcnt, hsum, _⟩
    have hlen : (((unL (bodyT s)).length : Nat) : Int) = byteAt s 1 := by omega
    have hsr : sumR (byteAt s 0) (unL (bodyT s)) = byteAt s 2 := by rw [sumR, sumT, hp, hlen, ← headT_eq hs, hsum]
    apply bytes_eq
    · rw [hz]; omega
    · intro k hk2
      rw [hz] at hk2
      by_cases hk4 : k < 4
      · rw [hhead k hk4]
        rcases (show k = 0 ∨ k = 1 ∨ k = 2 ∨ k = 3 by omega) with rfl | rfl | rfl | rfl
        · simp [headR]
        · simp [headR, hlen]
        · simp [headR, hsr]
        · simp [headR, h3]
      · rw [hrest k (by omega), bodyT_byte (by omega), show 4 + (k - 4) = k by omega]

/-- The codes and what comes of records. -/
def opC (s : ByteArray) (k : Int) : Int := if 65536 < s.size then 2 else if kindB k = true then (if recB s = true ∧ byteAt s 0 = k then 0 else 3) else 4
def opR (s : ByteArray) (k : Int) : List Int := if opC s k = 0 then unL (bodyT s) else []
def kdC (s : ByteArray) : Int := if 65536 < s.size then 2 else if recB s = true then 0 else 3
def kdR (s : ByteArray) : Int := if kdC s = 0 then byteAt s 0 else 0
theorem opC_long {s : ByteArray} {k : Int} (h : 65536 < s.size) : opC s k = 2 := if_pos h
theorem opC_kind {s : ByteArray} {k : Int} (h : ¬ 65536 < s.size) (hk : kindB k = false) : opC s k = 4 := by rw [opC, if_neg h, if_neg (by simp [hk])]
theorem opC_ok {s : ByteArray} {k : Int} (h : ¬ 65536 < s.size) (hk : kindB k = true) (hr : recB s = true) (he : byteAt s 0 = k) : opC s k = 0 := by rw [opC, if_neg h, if_pos hk, if_pos ⟨hr, he⟩]
theorem opC_no {s : ByteArray} {k : Int} (h : ¬ 65536 < s.size) (hk : kindB k = true) (hr : ¬ (recB s = true ∧ byteAt s 0 = k)) : opC s k = 3 := by rw [opC, if_neg h, if_pos hk, if_neg hr]
theorem opR_ok {s : ByteArray} {k : Int} (h : opC s k = 0) : opR s k = unL (bodyT s) := if_pos h
theorem opR_no {s : ByteArray} {k : Int} (h : opC s k ≠ 0) : opR s k = [] := if_neg h
theorem kdC_long {s : ByteArray} (h : 65536 < s.size) : kdC s = 2 := if_pos h
theorem kdC_ok {s : ByteArray} (h : ¬ 65536 < s.size) (hr : recB s = true) : kdC s = 0 := by rw [kdC, if_neg h, if_pos hr]
theorem kdC_no {s : ByteArray} (h : ¬ 65536 < s.size) (hr : recB s = false) : kdC s = 3 := by rw [kdC, if_neg h, if_neg (by simp [hr])]
theorem kdR_ok {s : ByteArray} (h : kdC s = 0) : kdR s = byteAt s 0 := if_pos h
theorem kdR_no {s : ByteArray} (h : kdC s ≠ 0) : kdR s = 0 := if_neg h

end Go.Proofs.Ytefnapcegeojoab

/- Contracts of what asks whether numbers are right: the program's and its model's. -/
namespace Go.Proofs.Ytefnapcegeojoab
open Go.RowKit
set_option linter.unusedVariables false
set_option maxRecDepth 100000

theorem l01In_num (n low high : Int) (w : World) : Calls Try.prog 25 #[.int .i64 n, .int .i64 low, .int .i64 high] w fun e w' => e = .returned (.bool (inB n low high)) ∧ w' = w := by
  go_enter Try.func25, Try.ntmps25
  go_wp2
  all_goals
    go_ret
    exact ⟨ret_bool (by rw [Bool.eq_iff_iff]; simp [inB]; omega), rfl⟩
theorem l02Int_any (n : Int) (w : World) : Calls Try.prog 15 #[.int .i64 n] w fun e w' => e = .returned (.bool (numB n)) ∧ w' = w := by
  go_enter Try.func15, Try.ntmps15
  go_wp2_with (go_at_call 25; refine (l01In_num _ _ _ _).mono ?_; rintro e w' ⟨rfl, rfl⟩)
  go_ret
  exact ⟨rfl, rfl⟩
theorem isNumber_any (n : Int) (w : World) : Calls Try.prog 32 #[.int .i64 n] w fun e w' => e = .returned (.bool (numB n)) ∧ w' = w := by
  go_enter Try.func32, Try.ntmps32
  go_wp2
  all_goals
    go_ret
    exact ⟨ret_bool (by rw [Bool.eq_iff_iff]; simp [numB, inB]; omega), rfl⟩

end Go.Proofs.Ytefnapcegeojoab

/- A law on append: one element more at the end of a row of the call's own. -/
namespace Go.Proofs.Ytefnapcegeojoab
open Go.RowKit
set_option linter.unusedVariables false
section
variable {P : Program}

theorem keep_grown {S : Nat → Prop} {w w' : World} {row : Option Nat} (h : w.grownBy w' row) (hs : ∀ k, row = some k → S k) : Keep S w w' :=
  ⟨h.os, h.tape, h.output, h.size, fun k hk hn => h.block k hk (fun e => hn (hs k e.symm))⟩

theorem run_append_one (w : World) (B : Nat) (t ty e : TypeId) (i : TypeInfo) (z : Value) (size bytes : Nat) (ht : P.underlying t = some (.slice e)) (hi : P.info? e = some i) (hz : i.zero = some z)
    (hsize : i.size = size) (hby : i.bytes = bytes) (hzs : z.cells.size = size) (hsz : 0 < size)
    (qo : Option Addr) (n cap : Nat) (xs : List Value) (h : OwnR w B e size (.slice qo n cap) n xs) (hB : B ≤ w.heap.size)
    (ad : Addr) (c : Nat) (news : List Value) (hl : news.length = size) (hnews : ∀ j u, news[j]? = some u → w.cell? (ad.add j) = some u) (h1 : ∀ u ∈ news, u.oneCell' = true)
    (b1 : n + 1 ≤ maxLen) (b2 : (n + 1) * bytes ≤ 140737488355328) :
    ∃ g cap' w', (Builtin.append_ #[t, t] ty #[.slice qo n cap, .slice (some ad) 1 c]).run P w = .ok (.slice (some ⟨g, 0, none⟩) (n + 1) cap') w' ∧
      w'.ownsRow B e size (.slice (some ⟨g, 0, none⟩) (n + 1) cap') (n + 1) (xs ++ news) ∧ Keep (Own (.slice qo n cap)) w w' := by
  rcases h with ⟨rfl, rfl, ao, hv⟩ | ⟨h0, h⟩
  · simp only [Value.slice.injEq, true_and] at hv
    obtain ⟨rfl, rfl⟩ := hv
    cases qo with
    | none =>
      obtain ⟨v', w', hrun, r1, r2, _⟩ := run_append_own (P := P) w B t ty e i z size bytes ht hi hz hsize hby hzs hsz (.slice none 0 0) 0 [] (World.ownsRow_nil w _ e size) ad 1 c news (by omega) hnews h1 b1 b2 hB
      obtain ⟨g, cap, cur, rfl, _, _⟩ := own_form (by omega) r1
      exact ⟨g, cap, w', hrun, r1, keep_grown r2 (fun k hk => by cases hk)⟩
    | some d =>
      obtain ⟨v', w', hrun, r1, r2⟩ := run_append_arg_grows (P := P) w t ty e i z size bytes ht hi hz hsize hby hzs hsz d 0 0 [] (by simp) (by simp) ad 1 c news (by omega) hnews (by omega) b1 b2
      obtain ⟨g, cap, cur, rfl, _, _⟩ := own_form (by omega) r1
      exact ⟨g, cap, w', hrun, own_base r1 hB, keep_grown r2 (fun k hk => by cases hk)⟩
  · obtain ⟨g0, cap0, cur0, e0, _, _⟩ := own_form h0 h
    rw [e0] at h
    obtain ⟨v', w', hrun, r1, r2, _⟩ := run_append_own (P := P) w B t ty e i z size bytes ht hi hz hsize hby hzs hsz _ n xs h ad 1 c news (by omega) hnews h1 b1 b2 hB
    obtain ⟨g, cap, cur, rfl, _, _⟩ := own_form (by omega) r1
    rw [e0]
    exact ⟨g, cap, w', hrun, r1, keep_grown r2 (fun k hk => by cases hk; exact own_of h0 rfl)⟩

theorem wpList_append_one {w : World} {ops : Array Oper} {rest : List Oper} {o : Oper} {a : Act} {Q : Exit → Act → World → Prop} (hgd : o.guard = none) (s x : Operand) (t : TypeId)
    (ho : o.op = .call { callee := .builtin .append, args := #[s, x], argTypes := #[t, t] })
    (B : Nat) (e : TypeId) (i : TypeInfo) (z : Value) (size bytes : Nat) (ht : P.underlying t = some (.slice e)) (hi : P.info? e = some i) (hz : i.zero = some z)
    (hsize : i.size = size) (hby : i.bytes = bytes) (hzs : z.cells.size = size) (hsz : 0 < size)
    (qo : Option Addr) (n cap : Nat) (xs : List Value) (hs : a.eval s = .slice qo n cap) (h : OwnR w B e size (.slice qo n cap) n xs) (hB : B ≤ w.heap.size)
    (ad : Addr) (c : Nat) (news : List Value) (hx : a.eval x = .slice (some ad) 1 c) (hl : news.length = size) (hnews : ∀ j u, news[j]? = some u → w.cell? (ad.add j) = some u) (h1 : ∀ u ∈ news, u.oneCell' = true)
    (b1 : n + 1 ≤ maxLen) (b2 : (n + 1) * bytes ≤ 140737488355328)
    (hK : ∀ g cap' w', w'.ownsRow B e size (.slice (some ⟨g, 0, none⟩) (n + 1) cap') (n + 1) (xs ++ news) → Keep (Own (.slice qo n cap)) w w' → wpList P ops Q rest (a.put o.dst (.slice (some ⟨g, 0, none⟩) (n + 1) cap')) w') : wpList P ops Q (o :: rest) a w := by
  refine wpList_plain hgd fun K hK' => ?_
  obtain ⟨g, cap', w', hrun, r1, r2⟩ := run_append_one (P := P) w B t o.type e i z size bytes ht hi hz hsize hby hzs hsz qo n cap xs h hB ad c news hl hnews h1 b1 b2
  unfold Oper.wp
  simp [execOp, ho, resolve, invoke, builtin, hs, hx, hrun, Result.andThen]
  exact hK' _ _ (hK _ _ _ r1 r2)

theorem step_append_one {w : World} {ops : Array Oper} {o : Oper} {a : Act} {K : Act → World → Prop} {Q : Exit → Act → World → Prop} {E : Prop} (hgd : o.guard = none) (s x : Operand) (t : TypeId)
    (ho : o.op = .call { callee := .builtin .append, args := #[s, x], argTypes := #[t, t] })
    (B : Nat) (e : TypeId) (i : TypeInfo) (z : Value) (size bytes : Nat) (ht : P.underlying t = some (.slice e)) (hi : P.info? e = some i) (hz : i.zero = some z)
    (hsize : i.size = size) (hby : i.bytes = bytes) (hzs : z.cells.size = size) (hsz : 0 < size)
    (qo : Option Addr) (n cap : Nat) (xs : List Value) (hs : a.eval s = .slice qo n cap) (h : OwnR w B e size (.slice qo n cap) n xs) (hB : B ≤ w.heap.size)
    (ad : Addr) (c : Nat) (news : List Value) (hx : a.eval x = .slice (some ad) 1 c) (hl : news.length = size) (hnews : ∀ j u, news[j]? = some u → w.cell? (ad.add j) = some u) (h1 : ∀ u ∈ news, u.oneCell' = true)
    (b1 : n + 1 ≤ maxLen) (b2 : (n + 1) * bytes ≤ 140737488355328)
    (hK : ∀ g cap' w', w'.ownsRow B e size (.slice (some ⟨g, 0, none⟩) (n + 1) cap') (n + 1) (xs ++ news) → Keep (Own (.slice qo n cap)) w w' → K (a.put o.dst (.slice (some ⟨g, 0, none⟩) (n + 1) cap')) w') :
    if Region.wanted o (yielded ops a.tmps) = true then Oper.wp P o a w K Q else E := by
  have hw : Region.wanted o (yielded ops a.tmps) = true := by simp [Region.wanted, hgd]
  rw [if_pos hw]
  obtain ⟨g, cap', w', hrun, r1, r2⟩ := run_append_one (P := P) w B t o.type e i z size bytes ht hi hz hsize hby hzs hsz qo n cap xs h hB ad c news hl hnews h1 b1 b2
  unfold Oper.wp
  simp [execOp, ho, resolve, invoke, builtin, hs, hx, hrun, Result.andThen]
  exact hK _ _ _ r1 r2
theorem step_append_at {w : World} {ops : Array Oper} {o : Oper} {a : Act} {K : Act → World → Prop} {Q : Exit → Act → World → Prop} {E : Prop} (hgd : o.guard = none) (s x : Operand) (t : TypeId)
    (ho : o.op = .call { callee := .builtin .append, args := #[s, x], argTypes := #[t, t] })
    (B : Nat) (e : TypeId) (i : TypeInfo) (z : Value) (size bytes : Nat) (ht : P.underlying t = some (.slice e)) (hi : P.info? e = some i) (hz : i.zero = some z)
    (hsize : i.size = size) (hby : i.bytes = bytes) (hzs : z.cells.size = size) (hsz : 0 < size)
    (qo : Option Addr) (n cap : Nat) (xs : List Value) (hs : a.eval s = .slice qo n cap) (h : OwnR w B e size (.slice qo n cap) n xs) (hB : B ≤ w.heap.size)
    (news : List Value) (hx : ∃ y c, a.eval x = .slice (some ⟨y, 0, none⟩) 1 c ∧ ∀ j u, news[j]? = some u → w.cell? ((⟨y, 0, none⟩ : Addr).add j) = some u) (hl : news.length = size) (h1 : ∀ u ∈ news, u.oneCell' = true)
    (b1 : n + 1 ≤ maxLen) (b2 : (n + 1) * bytes ≤ 140737488355328)
    (hK : ∀ g cap' w', w'.ownsRow B e size (.slice (some ⟨g, 0, none⟩) (n + 1) cap') (n + 1) (xs ++ news) → Keep (Own (.slice qo n cap)) w w' → K (a.put o.dst (.slice (some ⟨g, 0, none⟩) (n + 1) cap')) w') :
    if Region.wanted o (yielded ops a.tmps) = true then Oper.wp P o a w K Q else E := by
  obtain ⟨y, c, hx, hnews⟩ := hx
  exact step_append_one hgd s x t ho B e i z size bytes ht hi hz hsize hby hzs hsz qo n cap xs hs h hB ⟨y, 0, none⟩ c news hx hl hnews h1 b1 b2 hK
end
end Go.Proofs.Ytefnapcegeojoab

/- Rows of numbers that a call made; ends of calls. -/
namespace Go.Proofs.Ytefnapcegeojoab
open Go.RowKit
set_option linter.unusedVariables false

theorem infoM : (Try.prog.info? 3).map (fun i => (i.zero, i.size, i.bytes)) = some (some (.int .i64 0), 1, 8) := by kernel_rfl
theorem int_one (n : Int) : ∀ u ∈ [Value.int .i64 n], u.oneCell' = true := by
  intro u hu
  simp at hu
  subst hu
  rfl

/-- A row of numbers that the call made. -/
def OwnN (w : World) (B : Nat) (v : Value) (xs : List Int) : Prop := ∃ qo qa, v = .slice qo xs.length qa ∧ OwnR w B 3 1 (.slice qo xs.length qa) xs.length (intV xs)
theorem OwnN.below {w w' : World} {B : Nat} {v : Value} {xs : List Int} (h : OwnN w B v xs) (hb : Below w.heap.size w w') : OwnN w' B v xs := by
  obtain ⟨qo, qa, e, ho⟩ := h
  exact ⟨qo, qa, e, ho.below hb⟩
theorem OwnN.base {w : World} {B B' : Nat} {v : Value} {xs : List Int} (h : OwnN w B v xs) (hB : B' ≤ B) : OwnN w B' v xs := by
  obtain ⟨qo, qa, e, ho⟩ := h
  exact ⟨qo, qa, e, ho.base hB⟩
theorem OwnN.nil (w : World) (B : Nat) (ao : Option Addr) : OwnN w B (.slice ao 0 0) [] := ⟨ao, 0, rfl, .inl ⟨rfl, rfl, ao, rfl⟩⟩

theorem ret_nb {v u : Value} {a b : Bool} (h : v = u) (k : a = b) : Ending.returned (.tuple #[v, .bool a]) = .returned (.tuple #[u, .bool b]) := by rw [h, k]
theorem ret_ni {v u : Value} {a b : Int} (h : v = u) (k : a = b) : Ending.returned (.tuple #[v, .int .i64 a]) = .returned (.tuple #[u, .int .i64 b]) := by rw [h, k]

theorem ret_two2 {a b c d : Int} (h : a = b) (k : c = d) : Ending.returned (.tuple #[.int .i64 a, .int .i64 c]) = .returned (.tuple #[.int .i64 b, .int .i64 d]) := by rw [h, k]

theorem OwnN.setCell {w : World} {B : Nat} {v : Value} {xs : List Int} (h : OwnN w B v xs) {a : Addr} (ha : a.block < B) (u : Value) : OwnN (w.setCell a u) B v xs := by
  obtain ⟨qo, qa, e, ho⟩ := h
  exact ⟨qo, qa, e, ho.setCell ha u⟩

end Go.Proofs.Ytefnapcegeojoab

/- Contract of spec.l02Unpack. -/
namespace Go.Proofs.Ytefnapcegeojoab
open Go.RowKit
set_option linter.unusedVariables false
set_option maxRecDepth 100000

end Go.Proofs.Ytefnapcegeojoab

/- Contracts of SumOf, of the program and of its model. -/
namespace Go.Proofs.Ytefnapcegeojoab
open Go.RowKit
set_option linter.unusedVariables false
set_option maxRecDepth 100000

theorem l02Sum_any (s : ByteArray) (w : World) (hs : s.size ≤ 1048576) :
    Calls Try.prog 48 #[.string s] w fun e w' => e = .returned (.int .i64 (sumS s)) ∧ w' = w := by
  go_enter Try.func48, Try.ntmps48
  go_wp2
  go_loop [3, 4] (fun n i => ∃ k : Nat, k ≤ s.size ∧ i = .int .i64 k ∧ n = .int .i64 (sumTo s k)) (fun _ i => s.size - (intOf i).toNat)
  case atStart => exact ⟨0, Nat.zero_le _, rfl, rfl⟩
  case round =>
    obtain ⟨k, hk, rfl, rfl⟩ := hrel
    by_cases hlt : k < s.size
    · have HN := hide (sumTo_walk hlt (by omega))
      go_wp2
      go_round
      case rel => exact ⟨k + 1, by omega, by go_num, by rw [← unhide HN]⟩
      case measure => simp [intOf]; omega
    · go_wp2
      go_ret
      exact ⟨ret_int (by rw [sumS, show k = s.size by omega]), rfl⟩

theorem sumOf_impl (s : ByteArray) (w : World) (hs : s.size ≤ 1048576) :
    Calls Try.prog 53 #[.string s] w fun e w' => e = .returned (.int .i64 (sumC s)) ∧ w' = w := by
  by_cases h1 : 65536 < s.size
  · have HF := hide (sumC_long h1)
    go_enter Try.func53, Try.ntmps53
    go_wp2
    go_ret
    exact ⟨ret_int (unhide HF).symm, rfl⟩
  have HF := hide (sumC_short (s := s) (by omega))
  go_enter Try.func53, Try.ntmps53
  go_wp2
  go_loop [3, 4] (fun n i => ∃ k : Nat, k ≤ s.size ∧ i = .int .i64 k ∧ n = .int .i64 (sumTo s k)) (fun _ i => s.size - (intOf i).toNat)
  case atStart => exact ⟨0, Nat.zero_le _, rfl, rfl⟩
  case round =>
    obtain ⟨k, hk, rfl, rfl⟩ := hrel
    by_cases hlt : k < s.size
    · have HN := hide (sumTo_walk hlt (by omega))
      go_wp2
      go_round
      case rel => exact ⟨k + 1, by omega, by go_num, by rw [← unhide HN]⟩
      case measure => simp [intOf]; omega
    · go_wp2
      go_ret
      exact ⟨ret_int (by rw [unhide HF, sumS, show k = s.size by omega]), rfl⟩

end Go.Proofs.Ytefnapcegeojoab

/- Contracts of spec.l02Pack and impl.packNumbers. -/
namespace Go.Proofs.Ytefnapcegeojoab
open Go.RowKit
set_option linter.unusedVariables false

theorem infoB : (Try.prog.info? 5).map (fun i => (i.zero, i.size, i.bytes)) = some (some (.int .u8 0), 1, 1) := by kernel_rfl

theorem ret_str {a b : ByteArray} (h : a = b) : Ending.returned (.string a) = .returned (.string b) := by rw [h]

set_option maxRecDepth 100000 in
set_option maxHeartbeats 1600000 in
theorem l02Pack_any (ao : Option Addr) (cap : Nat) (xs : List Int) (w : World) (hl : xs.length ≤ 4096) (hn : ∀ j (h : j < xs.length), 0 ≤ xs[j] ∧ xs[j] ≤ 2147483647) (hc : Is w ao xs) :
    Calls Try.prog 47 #[.slice ao xs.length cap] w fun e w' => e = .returned (.string (packS xs)) ∧ Below w.heap.size w w' := by
  have HC := hide hc
  have HN := hide hn
  clear hc hn
  obtain ⟨j0, hj, hy0, hy1, hy2⟩ := info_parts infoB
  go_enter Try.func47, Try.ntmps47
  go_wp2
  go_loopw [3, 4] (fun o i wr => ∃ (k : Nat) (qo : Option Addr) (qa : Nat), k ≤ xs.length ∧ i = .int .i64 k ∧ o = .slice qo (k * 4) qa ∧ Hid (OwnR wr w.heap.size 5 1 (.slice qo (k * 4) qa) (k * 4) (byteV (packL (xs.take k)))) ∧ Hid (Below w.heap.size w wr)) (fun _ i _ => xs.length - (intOf i).toNat)
  case atStart => exact ⟨0, _, _, Nat.zero_le _, rfl, rfl, hide (.inl ⟨rfl, rfl, _, rfl⟩), hide (by first | exact Below.refl _ _ | exact Joins.below_alloc1 _ _)⟩
  case round =>
    obtain ⟨k, qo, qa, hk, rfl, rfl, HO, HB⟩ := hrel
    by_cases hlt : k < xs.length
    · obtain ⟨b, off, rfl, hc⟩ := (unhide HC).below (unhide HB) k hlt
      obtain ⟨h0, h1⟩ := unhide HN k hlt
      go_wp2
      go_loopw [3, 5, 6] (fun o m i wq => ∃ (j : Nat) (qo : Option Addr) (qa : Nat), j ≤ 4 ∧ i = .int .i64 j ∧ m = .int .i64 (shN xs[k] j) ∧ o = .slice qo (k * 4 + j) qa ∧ Hid (OwnR wq w.heap.size 5 1 (.slice qo (k * 4 + j) qa) (k * 4 + j) (byteV (packL (xs.take k) ++ fourTo xs[k] j))) ∧ Hid (Below w.heap.size w wq)) (fun _ _ i _ => 4 - (intOf i).toNat)
      case atStart => exact ⟨0, qo, qa, by omega, rfl, by simp [shN], rfl, hide (by simpa [fourTo] using unhide HO), HB⟩
      case round =>
        clear HO HB
        obtain ⟨j, qo, qa, hj4, rfl, rfl, rfl, HO, HB⟩ := hrel
        obtain ⟨hs0, hs1⟩ := shN_in h0 h1 j
        by_cases hj4 : j < 4
        · have HOA := hide ((unhide HO).below (Joins.below_alloc1 _ (.cells #[.int .u8 (shN xs[k] j % 256)] 5)))
          have HBA := hide (fr (unhide HB) (Joins.below_alloc1 _ (.cells #[.int .u8 (shN xs[k] j % 256)] 5)))
          have HSZ := hide (unhide HB).size
          have HSH := hide (shN_succ xs[k] j)
          go_wp2_with (at_builtin; refine wpList_append_one rfl _ _ 60 rfl w.heap.size 5 j0 (.int .u8 0) 1 1 Try.underlying60 hj hy0 hy1 hy2 rfl (by omega) qo (k * 4 + j) qa (byteV (packL (xs.take k) ++ fourTo xs[k] j)) rfl (unhide HOA) (by have := unhide HSZ; simp; omega) ⟨wr.heap.size, 0, none⟩ _ [.int .u8 (shN xs[k] j % 256)] rfl rfl (byte_news wr _ _) (byte_one _) (by unfold maxLen; omega) (by omega) ?_; intro g2 cap2 wA hoA hkA; have HSF := hide (And.intro hoA (keep_below (unhide HBA) (unhide HOA) (Nat.le_refl _) hkA)); clear hoA hkA)
          go_roundw
          case rel => exact ⟨j + 1, _, _, by omega, by go_num, by rw [unhide HSH], rfl, hide (.inr ⟨by omega, by rw [fourTo_succ, ← List.append_assoc, byteV_snoc, ← shN_byte]; exact (unhide HSF).1⟩), hide (unhide HSF).2⟩
          case measure => simp [intOf]; omega
        · have HE : Hid (j = 4) := hide (by omega)
          go_wp2
          go_roundw
          case rel => exact ⟨k + 1, qo, qa, by omega, by go_num, by rw [unhide HE, show (k + 1) * 4 = k * 4 + 4 by omega], hide (by have := unhide HO; rw [unhide HE] at this; rw [packL_succ hlt, show (k + 1) * 4 = k * 4 + 4 by omega]; exact this), HB⟩
          case measure => simp [intOf]; omega
    · have HE : Hid (xs.take k = xs) := hide (List.take_of_length_le (by omega))
      have hcv := convert_own (P := Try.prog) Try.underlying60 Try.underlying5 Try.underlying9 (unhide HO)
      go_wp2
      go_ret
      exact ⟨ret_str (by rw [unhide HE]; rfl), unhide HB⟩

end Go.Proofs.Ytefnapcegeojoab

/- Contracts of the model's l02Kind, l02Seal. -/
namespace Go.Proofs.Ytefnapcegeojoab
open Go.RowKit
set_option linter.unusedVariables false
set_option maxRecDepth 100000

/-- 'string([]byte{a, b})'. -/
theorem lit2 (W : World) (g : Nat) (a b : Int) (h : W.heap.size = g) : (convert 60 9 (.slice (some ⟨g, 0, none⟩) 2 2)).run Try.prog (W.alloc (.cells #[.int .u8 a, .int .u8 b] 5)) = .ok (.string (strOfNums [a, b])) (W.alloc (.cells #[.int .u8 a, .int .u8 b] 5)) := by
  subst h
  refine run_convert_bytes_arg _ 60 5 Try.underlying60 Try.underlying5 W.heap.size 0 2 2 [a, b] rfl ?_ 9 Try.underlying9
  intro i hi
  rcases (show i = 0 ∨ i = 1 by omega) with rfl | rfl <;> simp [go_sem, List.getD]

theorem sum_spec (k : Int) (xs : List Int) (w : World) (hl : xs.length ≤ 16) : Calls Try.prog 48 #[.string (strOfNums [k, (xs.length : Int)] ++ packS xs)] w fun e w' => e = .returned (.int .i64 (sumR k xs)) ∧ w' = w :=
  l02Sum_any (sumT k xs) w (by rw [sumT_size]; omega)
set_option maxHeartbeats 1600000 in
theorem l02Seal_any (k : Int) (ao : Option Addr) (cap : Nat) (xs : List Int) (w : World) (hk : 1 ≤ k ∧ k ≤ 9) (hl : xs.length ≤ 16) (hn : ∀ j (h : j < xs.length), 0 ≤ xs[j] ∧ xs[j] ≤ 2147483647) (hc : Is w ao xs) :
    Calls Try.prog 39 #[.int .i64 k, .slice ao xs.length cap] w fun e w' => e = .returned (.string (sealS k xs)) ∧ Below w.heap.size w w' := by
  have HC := hide hc
  have HN := hide hn
  clear hc hn
  have hp := packS_size xs
  have hs2 : (strOfNums [k, (xs.length : Int)]).size = 2 := strOfNums_size _
  go_enter Try.func39, Try.ntmps39
  go_wp2_with fail
  refine (l02Pack_any _ _ xs _ (by omega) (unhide HN) (unhide HC)).mono ?_
  rintro e w1 ⟨rfl, hb1⟩
  have HB1 := hide hb1
  have hc1 := lit2 w1 w1.heap.size k xs.length rfl
  clear hb1
  go_wp2_with fail
  refine (sum_spec k xs _ hl).mono ?_
  rintro e w2 ⟨rfl, rfl⟩
  obtain ⟨hr0, hr1⟩ := sumR_in k xs
  have hc2 := lit2 (w1.alloc (.cells #[.int .u8 k, .int .u8 xs.length] 5)) (w1.heap.size + 1) (sumR k xs) 0 (by simp)
  have hs3 : (strOfNums [sumR k xs, 0]).size = 2 := strOfNums_size _
  have hs4 : (strOfNums [k, (xs.length : Int)] ++ strOfNums [sumR k xs, 0]).size = 4 := by rw [ByteArray.size_append, hs2, hs3]
  have HE := hide (sealS_parts k xs)
  go_wp2
  go_ret
  exact ⟨ret_str (unhide HE), fr (unhide HB1) (Joins.below_alloc2 _ _ _)⟩

end Go.Proofs.Ytefnapcegeojoab

/- Contracts of the model's readers of records: l02Open, OpenRecord, KindOf. -/
namespace Go.Proofs.Ytefnapcegeojoab
open Go.RowKit
set_option linter.unusedVariables false
set_option maxRecDepth 100000

/-- What l02Open answers. -/
def openB (s : ByteArray) (k : Int) : Bool := recB s && decide (byteAt s 0 = k)
def openL (s : ByteArray) (k : Int) : List Int := if openB s k = true then unL (bodyT s) else []
theorem openB_no {s : ByteArray} {k : Int} (h : ¬ RecP s) : openB s k = false := by rw [openB, recB_false h]; rfl
theorem openB_kind {s : ByteArray} {k : Int} (h : byteAt s 0 ≠ k) : openB s k = false := by rw [openB, decide_eq_false h]; simp
theorem openB_yes {s : ByteArray} {k : Int} (h : RecP s) (hk : byteAt s 0 = k) : openB s k = true := by rw [openB, recB_true h, decide_eq_true hk]; rfl
theorem openL_no {s : ByteArray} {k : Int} (h : openB s k = false) : openL s k = [] := if_neg (by simp [h])
theorem openL_yes {s : ByteArray} {k : Int} (h : openB s k = true) : openL s k = unL (bodyT s) := if_pos h

end Go.Proofs.Ytefnapcegeojoab

/- Plain words of journals: updates, their texts, slots, moves. -/
namespace Go.Proofs.Ytefnapcegeojoab
open Go.RowKit
set_option linter.unusedVariables false

structure Up where
  at_ : Int
  data : ByteArray
theorem Up.eq_iff {x y : Up} : x = y ↔ x.at_ = y.at_ ∧ x.data = y.data := by
  cases x; cases y; simp
abbrev uV (u : Up) : Value := .agg #[.int .i64 u.at_, .string u.data]
def up0 : Up := ⟨0, ⟨#[]⟩⟩
def upB (u : Up) : Bool := inB u.at_ 9 38 && decide (u.data.size ≤ 72)
theorem upB_iff {u : Up} : upB u = true ↔ (9 ≤ u.at_ ∧ u.at_ ≤ 38) ∧ u.data.size ≤ 72 := by
  simp only [upB, inB, Bool.and_eq_true, decide_eq_true_eq]
/-- Its text. -/
def encU (u : Up) : ByteArray := sealS 8 [u.at_] ++ u.data
theorem encU_size (u : Up) : (encU u).size = 8 + u.data.size := by rw [encU, ByteArray.size_append, sealS_size]; rfl
def euC (u : Up) : Int := if upB u = true then 0 else 1
def euR (u : Up) : ByteArray := if upB u = true then encU u else ⟨#[]⟩
/-- What a text says. -/
abbrev duH (t : ByteArray) : ByteArray := t.extract 0 8
abbrev duT (t : ByteArray) : ByteArray := t.extract 8 t.size
def duL (t : ByteArray) : List Int := openL (duH t) 8
def duX (t : ByteArray) : Up := ⟨(duL t).getD 0 0, duT t⟩
def duB (t : ByteArray) : Bool := decide (8 ≤ t.size) && (openB (duH t) 8 && upB (duX t))
def duU (t : ByteArray) : Up := if duB t = true then duX t else up0
theorem duH_size {t : ByteArray} (h : 8 ≤ t.size) : (duH t).size = 8 := by simp [duH]; omega
theorem duT_size (t : ByteArray) : (duT t).size = t.size - 8 := by simp [duT]
theorem duB_short {t : ByteArray} (h : t.size < 8) : duB t = false := by simp [duB]; omega
theorem duB_open {t : ByteArray} (h : openB (duH t) 8 = false) : duB t = false := by simp [duB, h]
theorem duL_one {t : ByteArray} (h : 8 ≤ t.size) (ho : openB (duH t) 8 = true) : (duL t).length = 1 := by
  rw [duL, openL_yes ho, unL_length, bodyT_size, duH_size h]
theorem duL_eq {t : ByteArray} (h : 8 ≤ t.size) (ho : openB (duH t) 8 = true) : duL t = [(duX t).at_] := by
  have := duL_one h ho
  show duL t = [(duL t).getD 0 0]
  match hq : duL t, this with
  | [a], _ => rfl
theorem duX_at {t : ByteArray} {a : Int} (h : duL t = [a]) : duX t = ⟨a, duT t⟩ := by rw [duX, h]; rfl
theorem duB_at {t : ByteArray} (h : 8 ≤ t.size) (ho : openB (duH t) 8 = true) : duB t = upB (duX t) := by simp [duB, ho, h]
theorem du_no {t : ByteArray} (h : duB t = false) : duU t = up0 := by simp [duU, h]
theorem du_yes {t : ByteArray} (h : duB t = true) : duU t = duX t := if_pos h
theorem duB_parts {t : ByteArray} (h : duB t = true) : 8 ≤ t.size ∧ openB (duH t) 8 = true ∧ upB (duX t) = true := by
  simpa [duB, and_assoc] using h
theorem du_right {t : ByteArray} (h : duB t = true) : upB (duU t) = true := by rw [du_yes h]; exact (duB_parts h).2.2
/-- What DecodeUpdate answers. -/
def dkC (t : ByteArray) : Int := if 65536 < t.size then 2 else if duB t = true then 0 else 3
def dkU (t : ByteArray) : Up := if 65536 < t.size then up0 else duU t
theorem dk_long {t : ByteArray} (h : 65536 < t.size) : dkU t = up0 ∧ dkC t = 2 := ⟨if_pos h, if_pos h⟩
theorem dk_no {t : ByteArray} (h : ¬ 65536 < t.size) (hd : duB t = false) : dkU t = up0 ∧ dkC t = 3 := ⟨(if_neg h).trans (du_no hd), (if_neg h).trans (if_neg (by simp [hd]))⟩
theorem dk_yes {t : ByteArray} (h : ¬ 65536 < t.size) (hd : duB t = true) : dkU t = duU t ∧ dkC t = 0 := ⟨if_neg h, (if_neg h).trans (if_pos hd)⟩
theorem ret_ui {a b : Up} {x y : Int} (h : a = b) (k : x = y) : Ending.returned (.tuple #[uV a, .int .i64 x]) = .returned (.tuple #[uV b, .int .i64 y]) := by rw [h, k]
theorem ret_ub {a b : Up} {x y : Bool} (h : a = b) (k : x = y) : Ending.returned (.tuple #[uV a, .bool x]) = .returned (.tuple #[uV b, .bool y]) := by rw [h, k]
theorem ret_su {a b : ByteArray} {c d : Int} (h : a = b) (k : c = d) : Ending.returned (.tuple #[.string a, .int .i64 c]) = .returned (.tuple #[.string b, .int .i64 d]) := by rw [h, k]
/-- One in a variable. -/
def VarU (w : World) (x : Nat) (t : TypeId) (u : Up) : Prop := w.heap[x]? = some (.cells #[.int .i64 u.at_, .string u.data] t (0, 0))
theorem VarU.lt {w : World} {x t : Nat} {u : Up} (k : VarU w x t u) : x < w.heap.size := (Array.getElem?_eq_some_iff.1 k).1
theorem VarU.cells {w : World} {x t : Nat} {u : Up} (k : VarU w x t u) : w.cell? ⟨x, 0, none⟩ = some (.int .i64 u.at_) ∧ w.cell? ⟨x, 1, none⟩ = some (.string u.data) := ⟨by rw [Joins.cell_of_block k]; rfl, by rw [Joins.cell_of_block k]; rfl⟩
theorem VarU.free {w : World} {x t : Nat} {u : Up} (k : VarU w x t u) : w.frozen? ⟨x, 0, none⟩ = false ∧ w.frozen? ⟨x, 1, none⟩ = false := ⟨Joins.unfrozen_of_block k 0, Joins.unfrozen_of_block k 1⟩
theorem VarU.below {w w' : World} {x t : Nat} {u : Up} (k : VarU w x t u) (hb : Below w.heap.size w w') : VarU w' x t u := by
  unfold VarU; rw [hb.block x k.lt]; exact k
theorem VarU.new (w : World) (t : TypeId) (u : Up) : VarU (w.alloc (.cells #[.int .i64 u.at_, .string u.data] t)) w.heap.size t u := heap_alloc_new w _
theorem below2 {w0 w : World} {B g : Nat} (h : Below B w0 w) (hg : B ≤ g) (i j : Nat) (u v : Value) : Below B w0 ((w.setCell ⟨g, i, none⟩ u).setCell ⟨g, j, none⟩ v) :=
  (h.setCell (p := ⟨g, i, none⟩) hg u).setCell (p := ⟨g, j, none⟩) hg v

theorem u1_nums {u : Up} (hd : upB u = true) : ∀ j (hj : j < [u.at_].length), 0 ≤ [u.at_][j] ∧ [u.at_][j] ≤ 2147483647 := by
  obtain ⟨h1, h2⟩ := upB_iff.1 hd
  intro j hj
  have hj' : j < 1 := hj
  rcases (show j = 0 by omega) with rfl
  simp; omega
theorem u1_ints {u : Up} (hd : upB u = true) : intsB [u.at_] = true := by
  obtain ⟨h1, h2⟩ := upB_iff.1 hd
  rw [intsB_len]
  · rfl
  · intro j hj
    have hj' : j < 1 := hj
    rcases (show j = 0 by omega) with rfl
    simp [numB, inB]; omega
theorem u1_seal {u : Up} (hd : upB u = true) : sealC 8 [u.at_] = 0 ∧ sealT 8 [u.at_] = sealS 8 [u.at_] := by
  have hc : sealC 8 [u.at_] = 0 := sealC_ok (listC_ok (by simp) (u1_ints hd)) rfl
  exact ⟨hc, sealT_ok hc⟩
/-- A slot's place. -/
def slN (h : Int) : Int := 39 + 6 * h
def slC (h : Int) : Int := if inB h 0 3 = true then 0 else 4
def slR (h : Int) : Int := if inB h 0 3 = true then slN h else 0
theorem is1 (w : World) (n : Nat) (t : TypeId) (a : Int) (hn : w.heap.size = n) : Is (w.alloc (.cells #[.int .i64 a] t)) (some ⟨n, 0, none⟩) [a] := by
  subst hn
  intro i hi
  have hi' : i < 1 := hi
  rcases (show i = 0 by omega) with rfl
  exact ⟨w.heap.size, 0, rfl, by simp [go_sem]⟩
theorem is2 (w : World) (n : Nat) (t : TypeId) (a b : Int) (hn : w.heap.size = n) : Is (w.alloc (.cells #[.int .i64 a, .int .i64 b] t)) (some ⟨n, 0, none⟩) [a, b] := by
  subst hn
  intro i hi
  have hi' : i < 2 := hi
  rcases (show i = 0 ∨ i = 1 by omega) with rfl | rfl
  · exact ⟨w.heap.size, 0, rfl, by simp [go_sem]⟩
  · exact ⟨w.heap.size, 0, rfl, by simp [go_sem]⟩
end Go.Proofs.Ytefnapcegeojoab

/- Plain: rows of updates, two cells each. -/
namespace Go.Proofs.Ytefnapcegeojoab
open Go.RowKit
set_option linter.unusedVariables false

def Ups (w : World) (ao : Option Addr) (xs : List Up) : Prop := ∀ i (h : i < xs.length), ∃ b off, ao = some ⟨b, off, none⟩ ∧
  w.cell? ⟨b, off + i * 2, none⟩ = some (.int .i64 xs[i].at_) ∧ w.cell? ⟨b, off + i * 2 + 1, none⟩ = some (.string xs[i].data) ∧ xs[i].data.size ≤ maxLen
theorem Ups.below {w w' : World} {ao : Option Addr} {xs : List Up} (h : Ups w ao xs) (hb : Below w.heap.size w w') : Ups w' ao xs := fun i hi => by
  obtain ⟨b, off, e, h0, h1, hz⟩ := h i hi
  exact ⟨b, off, e, (hb.cell (p := ⟨b, off + i * 2, none⟩) (World.block_lt_of_cell? _ _ h0)).trans h0, (hb.cell (p := ⟨b, off + i * 2 + 1, none⟩) (World.block_lt_of_cell? _ _ h1)).trans h1, hz⟩
theorem Ups.sizes {w : World} {ao : Option Addr} {xs : List Up} (h : Ups w ao xs) : ∀ x ∈ xs, x.data.size ≤ maxLen := fun x hx => by
  obtain ⟨i, hi, rfl⟩ := List.mem_iff_getElem.1 hx
  obtain ⟨_, _, _, _, _, hz⟩ := h i hi
  exact hz
theorem Ups.nil (w : World) (ao : Option Addr) : Ups w ao [] := fun i hi => absurd hi (Nat.not_lt_zero _)
def upsV (xs : List Up) : List Value := xs.flatMap fun x => [.int .i64 x.at_, .string x.data]
theorem upsV_length (xs : List Up) : (upsV xs).length = xs.length * 2 := by
  induction xs with
  | nil => rfl
  | cons x xs ih => simp only [upsV, List.flatMap_cons, List.length_append, List.length_cons, List.length_nil] at ih ⊢; omega
theorem upsV_cons (x : Up) (xs : List Up) : upsV (x :: xs) = [.int .i64 x.at_, .string x.data] ++ upsV xs := rfl
theorem upsV_append (xs ys : List Up) : upsV (xs ++ ys) = upsV xs ++ upsV ys := by simp [upsV]
theorem upsV_get : ∀ {xs : List Up} {i : Nat} (h : i < xs.length), (upsV xs)[i * 2]? = some (.int .i64 xs[i].at_) ∧ (upsV xs)[i * 2 + 1]? = some (.string xs[i].data)
  | [], _, h => absurd h (Nat.not_lt_zero _)
  | x :: xs, 0, _ => by simp [upsV_cons]
  | x :: xs, i + 1, h => by
    have ih := upsV_get (xs := xs) (i := i) (by simpa using h)
    rw [upsV_cons, show (i + 1) * 2 = i * 2 + 2 by omega]
    refine ⟨?_, ?_⟩
    · rw [List.getElem?_append_right (by simp)]; simpa using ih.1
    · rw [List.getElem?_append_right (by simp)]; simpa [Nat.add_right_comm] using ih.2
theorem ownUps {w : World} {B e cap : Nat} {ao : Option Addr} {xs : List Up} (h : OwnR w B e 2 (.slice ao xs.length cap) xs.length (upsV xs)) (hz : ∀ x ∈ xs, x.data.size ≤ maxLen) : Ups w ao xs := by
  rcases h with ⟨h0, _⟩ | ⟨hp, h⟩
  · intro i hi; omega
  · obtain ⟨g, cap', cur, e0, _, _⟩ := own_form hp h
    simp only [Value.slice.injEq, true_and] at e0
    obtain ⟨rfl, rfl⟩ := e0
    intro i hi
    obtain ⟨g0, g1⟩ := upsV_get hi
    refine ⟨g, 0, rfl, ?_, ?_, hz _ (List.getElem_mem hi)⟩
    · rw [Nat.zero_add, h.cellAt _ (by omega)]; exact g0
    · rw [Nat.zero_add, h.cellAt _ (by omega)]; exact g1
theorem ownMv {w : World} {B e cap : Nat} {ao : Option Addr} {xs : List Wr} (h : OwnR w B e 3 (.slice ao xs.length cap) xs.length (ioV xs)) (hz : ∀ x ∈ xs, x.data.size ≤ maxLen) : Ios w ao xs := by
  rcases h with ⟨h0, _⟩ | ⟨hp, h⟩
  · intro i hi; omega
  · exact ownI h hz
theorem stored2 {w : World} {B e size g n cap : Nat} {xs : List Value} (h : w.ownsRow B e size (.slice (some ⟨g, 0, none⟩) n cap) n xs) (i j : Nat) (u v : Value) :
    ((w.setCell ⟨g, i, none⟩ u).setCell ⟨g, j, none⟩ v).ownsRow B e size (.slice (some ⟨g, 0, none⟩) n cap) n ((xs.set i u).set j v) :=
  ((h.stored i u).1.stored j v).1
theorem ups_take {ys : List Value} {xs : List Up} {k : Nat} (hk : k < xs.length) (hl : ys.length = xs.length * 2) (h : ys.take (k * 2) = (upsV xs).take (k * 2)) :
    ((ys.set (k * 2) (.int .i64 xs[k].at_)).set (k * 2 + 1) (.string xs[k].data)).take ((k + 1) * 2) = (upsV xs).take ((k + 1) * 2) := by
  obtain ⟨h0, h1⟩ := upsV_get hk
  have e0 := set_take' (by rw [hl, upsV_length]) h0 h
  have e1 := set_take' (by rw [List.length_set, hl, upsV_length]) h1 e0
  rw [show (k + 1) * 2 = k * 2 + 1 + 1 by omega]
  exact e1
theorem Ups.at {w : World} {ao : Option Addr} {xs : List Up} (h : Ups w ao xs) (hp : 0 < xs.length) : ∃ b off, ao = some ⟨b, off, none⟩ ∧ b < w.heap.size ∧ ∀ j v, (upsV xs)[j]? = some v → w.cell? (Addr.add ⟨b, off, none⟩ j) = some v := by
  obtain ⟨b, off, rfl, c0, _, _⟩ := h 0 hp
  refine ⟨b, off, rfl, World.block_lt_of_cell? _ _ c0, fun j v hj => ?_⟩
  have hj' : j < xs.length * 2 := by have := (List.getElem?_eq_some_iff.1 hj).1; rwa [upsV_length] at this
  obtain ⟨b', off', e, k0, k1, _⟩ := h (j / 2) (by omega)
  cases e
  obtain ⟨g0, g1⟩ := upsV_get (xs := xs) (i := j / 2) (by omega)
  have ha : (⟨b, off, none⟩ : Addr).add j = ⟨b, off + j, none⟩ := by unfold Addr.add; by_cases hz : j = 0 <;> simp [hz]
  rw [ha]
  rcases (show j = j / 2 * 2 ∨ j = j / 2 * 2 + 1 by omega) with hm | hm
  · rw [hm] at hj ⊢; rw [g0] at hj; cases hj; exact k0
  · rw [hm] at hj ⊢; rw [g1] at hj; cases hj; exact k1
theorem Ups.src {w : World} {ao : Option Addr} {xs : List Up} (h : Ups w ao xs) : 0 < xs.length → ∃ ad, ao = some ad ∧ ∀ j u, (upsV xs)[j]? = some u → w.cell? (ad.add j) = some u := fun hp => by
  obtain ⟨b, off, rfl, _, hc⟩ := h.at hp
  exact ⟨_, rfl, hc⟩
/-- Alike ones. -/
def decUp (x y : Up) : Decidable (x = y) := decidable_of_iff (x.at_ = y.at_ ∧ x.data = y.data) Up.eq_iff.symm
end Go.Proofs.Ytefnapcegeojoab

/- An update that came in, opened; a list of updates; a list of moves. -/
namespace Go.Proofs.Ytefnapcegeojoab
open Go.ChangeShapes Go.WideShapes Go.ChangeAt Go.RowKit Go.Deep
set_option linter.unusedVariables false
set_option maxRecDepth 100000
theorem open_up {H : Type} {enc : TypeId × Value → H} {w : World} {base b0 : Nat} {r : Reach} {spare : Nat → Bool} {held : Bool} {v : Value} {d : DataW H} {p : List MemPlace}
    (hv : Value.okWide Try.prog w r b0 36 v) (h : DataW.Trod enc Try.prog w base spare held 36 v d p) : ∃ x : Up, v = uV x ∧ x.data.size ≤ maxLen := by
  obtain ⟨c0, c1, y0, y1, n, rfl, _, _, t0, t1⟩ := Joins.open_agg2 Try.underlying36 (by kernel_rfl) (by kernel_rfl) hv h
  obtain ⟨z0, q0, _⟩ := DataW.trod_int Try.underlying3 t0
  obtain ⟨z1, q1, _, hz⟩ := DataW.trod_string Try.underlying9 t1
  simp only [List.cons.injEq, and_true] at q0 q1
  subst q0 q1
  exact ⟨⟨z0, z1⟩, rfl, hz⟩
section
variable {H : Type} {enc : TypeId × Value → H} {P : Program} {w : World} {base : Nat} {spare : Nat → Bool} {held : Bool}
theorem cells2 {a : Addr} {cs : List Value} (h : w.cells? base a 2 = some cs) : ∃ c0 c1, cs = [c0, c1] ∧ w.cell? (a.add 0) = some c0 ∧ w.cell? (a.add 1) = some c1 := by
  unfold World.cells? at h
  split at h
  · simp only [List.range, List.range.loop, List.mapM_cons, List.mapM_nil, Option.bind_eq_bind, Option.pure_def, Option.bind_eq_some_iff, Option.some.injEq] at h
    obtain ⟨c0, h0, r0, ⟨c1, h1, r1, hr1, rfl⟩, rfl⟩ := h
    subst hr1
    exact ⟨c0, c1, rfl, h0, h1⟩
  · cases h
theorem open_Ups {t e ti ts : TypeId} {f0 f1 : Field} {fuel : Nat} {v : Value} {x : DataW H × List MemPlace} (ht : P.underlying t = some (.slice e)) (he : P.underlying e = some (.struct #[f0, f1]))
    (hi : P.underlying ti = some (.int .i64)) (hs : P.underlying ts = some .string) (e0 : f0.type = ti ∧ f0.offset = 0) (e1 : f1.type = ts ∧ f1.offset = 1)
    (ci : P.cellsOf ti = 1) (cs : P.cellsOf ts = 1) (ce : P.cellsOf e = 2)
    (h : DataW.trod enc P w base spare held fuel t [v] = some x) : ∃ ao cap xs, v = .slice ao xs.length cap ∧ xs.length ≤ maxLen ∧ Ups w ao xs := by
  rcases open_slice ht h with ⟨hcs, _⟩ | ⟨a, len, cap, m, n, D, Pl, hcs, _, hl, hmx, hm, _, hel⟩
  · simp only [List.cons.injEq, and_true] at hcs
    subst hcs
    exact ⟨none, 0, [], rfl, Nat.zero_le _, fun i hi => absurd hi (Nat.not_lt_zero _)⟩
  · simp only [List.cons.injEq, and_true] at hcs
    subst hcs
    have hlm : len ≤ m := by rw [hm]; split <;> omega
    have each : ∀ i, i < len → ∃ y : Up, w.cell? ((a.add (i * 2)).add 0) = some (.int .i64 y.at_) ∧ w.cell? ((a.add (i * 2)).add 1) = some (.string y.data) ∧ y.data.size ≤ maxLen := by
      intro i hi'
      obtain ⟨cs', hc, hd⟩ := hel i (by omega)
      rw [ce] at hc
      obtain ⟨c0, c1, rfl, k0, k1⟩ := cells2 hc
      obtain ⟨y0, y1, n', _, _, t0, t1⟩ := trod_struct2 he hd
      rw [e0.1, e0.2, ci] at t0
      rw [e1.1, e1.2, cs] at t1
      obtain ⟨z0, q0, _⟩ := DataW.trod_int hi t0
      obtain ⟨z1, q1, _, hz⟩ := DataW.trod_string hs t1
      simp at q0 q1
      subst q0 q1
      exact ⟨⟨z0, z1⟩, k0, k1, hz⟩
    haveI : Inhabited Up := ⟨up0⟩
    obtain ⟨f, hf⟩ := choose_lt (α := Up) each
    have htl : ((List.range len).map f).length = len := by simp
    refine ⟨some a, cap, (List.range len).map f, by rw [htl], by omega, fun i hi' => ?_⟩
    have hi2 : i < len := by omega
    have h0 : a.spot = none := by
      obtain ⟨g0, _⟩ := hf 0 (by omega)
      have := World.cell?_spot g0
      simpa [Addr.add] using this
    obtain ⟨g0, g1, gz⟩ := hf i hi2
    have hg : ((List.range len).map f)[i] = f i := by simp
    have hsp : (a.add (i * 2)).spot = none := by rw [add_form h0]
    rw [add_form hsp, add_form h0] at g0 g1
    refine ⟨a.block, a.off, ?_, ?_, ?_, ?_⟩
    · cases a; simp_all
    · rw [hg]; exact g0
    · rw [hg]; exact g1
    · rw [hg]; exact gz
end
theorem cUp : Try.prog.cellsOf 36 = 2 := by kernel_rfl
theorem open_updates {H : Type} {enc : TypeId × Value → H} {w : World} {base b0 : Nat} {r : Reach} {spare : Nat → Bool} {held : Bool} {v : Value} {d : DataW H} {p : List MemPlace}
    (hv : Value.okWide Try.prog w r b0 22 v) (h : DataW.Trod enc Try.prog w base spare held 22 v d p) : ∃ ao ca xs, v = .slice ao xs.length ca ∧ xs.length ≤ maxLen ∧ Ups w ao xs := by
  obtain ⟨a, l, c, rfl⟩ := okWide_slice Try.underlying22 hv
  obtain ⟨fuel, hf⟩ := h
  exact open_Ups Try.underlying22 Try.underlying36 Try.underlying3 Try.underlying9 ⟨rfl, rfl⟩ ⟨rfl, rfl⟩ cInt cStr cUp (by simpa [Value.cells] using hf)
end Go.Proofs.Ytefnapcegeojoab

/- Contracts of the laws' marks: markText, markDisk, heldDisk. -/
namespace Go.Proofs.Ytefnapcegeojoab
open Go.RowKit
set_option linter.unusedVariables false
set_option maxRecDepth 100000

/-- The decimal digits of a number, as bytes; none of 0. -/
def digsF : Nat → Nat → List UInt8
  | 0, _ => []
  | f + 1, n => if n = 0 then [] else digsF f (n / 10) ++ [UInt8.ofNat (48 + n % 10)]
theorem digsF_more : ∀ (f n g : Nat), n ≤ f → n ≤ g → digsF f n = digsF g n
  | 0, n, g, h, _ => by
    have : n = 0 := by omega
    subst this
    cases g <;> simp [digsF]
  | f + 1, n, 0, _, h => by
    have : n = 0 := by omega
    subst this
    simp [digsF]
  | f + 1, n, g + 1, h1, h2 => by
    by_cases h : n = 0
    · subst h; simp [digsF]
    · rw [digsF, digsF, if_neg h, if_neg h, digsF_more f (n / 10) g (by omega) (by omega)]
def digs (n : Nat) : List UInt8 := digsF n n
theorem digs_zero : digs 0 = [] := rfl
theorem digs_pos {n : Nat} (h : n ≠ 0) : digs n = digs (n / 10) ++ [UInt8.ofNat (48 + n % 10)] := by
  obtain ⟨m, rfl⟩ : ∃ m, n = m + 1 := ⟨n - 1, by omega⟩
  rw [digs, digsF, if_neg h, digs, digsF_more m ((m + 1) / 10) ((m + 1) / 10) (by omega) (Nat.le_refl _)]
theorem ret_str1 {a b : ByteArray} (h : a = b) : Ending.returned (.string a) = .returned (.string b) := by rw [h]
def mtB (k : Nat) : ByteArray := ⟨(109 :: digs k).toArray⟩

set_option maxHeartbeats 1600000 in
theorem markText_any (k : Nat) (w : World) (h0 : 0 < k) (h1 : k ≤ 1073741824) :
    Calls Try.prog 24 #[.int .i64 k] w fun e w' => e = .returned (.string (mtB k)) ∧ Below w.heap.size w w' := by
  go_enter Try.func24, Try.ntmps24
  go_wp2
  go_loopw [0, 3] (fun n o wr => ∃ (m : Nat) (s : ByteArray), n = .int .i64 m ∧ o = .string s ∧ m ≤ k ∧ s.size + m ≤ k ∧ Hid (digs m ++ s.data.toList = digs k) ∧ Hid (Below w.heap.size w wr)) (fun n _ _ => (intOf n).toNat)
  case atStart => exact ⟨k, ⟨#[]⟩, rfl, rfl, Nat.le_refl _, by show 0 + k ≤ k; omega, hide (by simp), hide (Below.refl _ _)⟩
  case round =>
    obtain ⟨m, s, rfl, rfl, hm, hs, HD, HB⟩ := hrel
    by_cases hp : 0 < m
    · obtain ⟨d1, Hd1, hsz, hcv⟩ : ∃ d1 : ByteArray, Hid (d1.data.toList = [UInt8.ofNat (48 + m % 10)]) ∧ d1.size = 1 ∧ (convert 60 9 (.slice (some ⟨wr.heap.size, 0, none⟩) 1 1)).run Try.prog (wr.alloc (.cells #[.int .u8 (48 + (m : Int) % 10)] 5)) = .ok (.string d1) (wr.alloc (.cells #[.int .u8 (48 + (m : Int) % 10)] 5)) := by
        refine ⟨_, ?_, ?_, run_convert_bytes_arg _ 60 5 Try.underlying60 Try.underlying5 wr.heap.size 0 1 1 [48 + (m : Int) % 10] rfl ?_ 9 Try.underlying9⟩
        · have e : (48 + (m : Int) % 10).toNat = 48 + m % 10 := by omega
          exact hide (by simp [strOfNums, e])
        · simp [strOfNums, ByteArray.size]
        · intro i hi
          have : i = 0 := by omega
          subst this
          simp [go_sem]
      have HBA := hide (fun o => (unhide HB).alloc (unhide HB).size o)
      have hsum : (d1 ++ s).size = 1 + s.size := by rw [ByteArray.size_append, hsz]
      have hlist : (d1 ++ s).data.toList = d1.data.toList ++ s.data.toList := by simp
      have HSUM := hide hsum
      have HLIST := hide hlist
      clear hsum hlist
      go_wp2
      go_roundw
      case rel =>
        refine ⟨m / 10, d1 ++ s, ?_, rfl, by omega, by rw [unhide HSUM]; omega, hide ?_, hide (unhide HBA _)⟩
        · go_num
        · rw [unhide HLIST, unhide Hd1, ← List.append_assoc, ← digs_pos (by omega)]
          exact unhide HD
      case measure => simp [intOf]; omega
    · have H : Hid (({ data := #[109] } : ByteArray) ++ s = mtB k) := by
        have hm0 : m = 0 := by omega
        subst hm0
        have := unhide HD
        rw [digs_zero, List.nil_append] at this
        refine hide ?_
        unfold mtB
        rw [← this]
        apply ByteArray.ext
        simp
      go_wp2
      go_ret
      exact ⟨ret_str1 (unhide H), unhide HB⟩

/-- The marks of a row of texts, of a row of writes. -/
def mkS (k n : Nat) : List ByteArray := (List.range n).map fun i => mtB (k + i)
def mkI (k n : Nat) : List Wr := (List.range n).map fun i => ⟨(k + 3 * i : Nat), (k + 3 * i + 1 : Nat), mtB (k + 3 * i + 2)⟩
theorem mkS_length (k n : Nat) : (mkS k n).length = n := by simp [mkS]
theorem mkI_length (k n : Nat) : (mkI k n).length = n := by simp [mkI]
theorem mkS_get {k n j : Nat} (h : j < n) : (strV (mkS k n))[j]? = some (.string (mtB (k + j))) := by simp [strV, mkS, h]
theorem mkI_get {k n j : Nat} (h : j < (mkI k n).length) : (mkI k n)[j] = ⟨(k + 3 * j : Nat), (k + 3 * j + 1 : Nat), mtB (k + 3 * j + 2)⟩ := by simp [mkI]

theorem mk_take {ys : List Value} {k n j : Nat} (hj : j < n) (hl : ys.length = n * 3) (h : ys.take (j * 3) = (ioV (mkI k n)).take (j * 3)) :
    (((ys.set (j * 3) (.int .i64 ((k : Int) + 3 * (j : Int)))).set (j * 3 + 1) (.int .i64 ((k : Int) + 3 * (j : Int) + 1))).set (j * 3 + 2) (.string (mtB (k + 3 * j + 2)))).take ((j + 1) * 3) = (ioV (mkI k n)).take ((j + 1) * 3) := by
  have hj' : j < (mkI k n).length := by rw [mkI_length]; exact hj
  have e := io_take hj' (by rw [mkI_length]; exact hl) h
  have e0 : (mkI k n)[j].host = (k : Int) + 3 * (j : Int) := by rw [mkI_get hj']; simp
  have e1 : (mkI k n)[j].at_ = (k : Int) + 3 * (j : Int) + 1 := by rw [mkI_get hj']; simp
  have e2 : (mkI k n)[j].data = mtB (k + 3 * j + 2) := by rw [mkI_get hj']
  rw [e0, e1, e2] at e
  exact e

theorem mkI_cells {k n j : Nat} (hj : j < n) : (ioV (mkI k n))[j * 3]? = some (.int .i64 ((k : Int) + 3 * (j : Int))) ∧ (ioV (mkI k n))[j * 3 + 1]? = some (.int .i64 ((k : Int) + 3 * (j : Int) + 1)) ∧ (ioV (mkI k n))[j * 3 + 2]? = some (.string (mtB (k + 3 * j + 2))) := by
  have hj' : j < (mkI k n).length := by rw [mkI_length]; exact hj
  have e := ioV_get hj'
  have e0 : (mkI k n)[j].host = (k : Int) + 3 * (j : Int) := by rw [mkI_get hj']; simp
  have e1 : (mkI k n)[j].at_ = (k : Int) + 3 * (j : Int) + 1 := by rw [mkI_get hj']; simp
  have e2 : (mkI k n)[j].data = mtB (k + 3 * j + 2) := by rw [mkI_get hj']
  rw [e0, e1, e2] at e
  exact e

end Go.Proofs.Ytefnapcegeojoab

/- Contracts of DiskOK, of the program and of its model: both answer one plain function of the disk. -/
namespace Go.Proofs.Ytefnapcegeojoab
open Go.RowKit
set_option linter.unusedVariables false
set_option maxRecDepth 100000

theorem l01In_any (n low high : Int) (w : World) : Calls Try.prog 25 #[.int .i64 n, .int .i64 low, .int .i64 high] w fun e w' => e = .returned (.bool (inB n low high)) ∧ w' = w := by
  go_enter Try.func25, Try.ntmps25
  go_wp2
  all_goals
    go_ret
    exact ⟨ret_bool (by rw [Bool.eq_iff_iff]; simp [inB]; omega), rfl⟩

theorem hostOK_any (n : Int) (w : World) : Calls Try.prog 31 #[.int .i64 n] w fun e w' => e = .returned (.bool (inB n 0 3)) ∧ w' = w := by
  go_enter Try.func31, Try.ntmps31
  go_wp2
  all_goals
    go_ret
    exact ⟨ret_bool (by rw [Bool.eq_iff_iff]; simp [inB]; omega), rfl⟩

end Go.Proofs.Ytefnapcegeojoab

/- Contracts of the disk's codes and of ReadSector, of the program and of its model. -/
namespace Go.Proofs.Ytefnapcegeojoab
open Go.RowKit
set_option linter.unusedVariables false
set_option maxRecDepth 100000

end Go.Proofs.Ytefnapcegeojoab
