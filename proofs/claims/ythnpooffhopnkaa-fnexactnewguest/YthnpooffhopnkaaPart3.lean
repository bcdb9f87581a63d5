import Derived.Test.YthnpooffhopnkaaRows
import Derived.Test.YthnpooffhopnkaaPart1
import Derived.WalkKit
import Derived.Test.YthnpooffhopnkaaPart2
import Derived.WalkSpells
import Derived.Laws.BytesArg
import Derived.Deep.RegionWith
import Derived.Laws.OwnMore

/- Rows of numbers that a call made; ends of calls. -/
namespace Go.Proofs.Ythnpooffhopnkaa
open Go.RowKit
set_option linter.unusedVariables false

theorem infoM : (Try.prog.info? 3).map (fun i => (i.zero, i.size, i.bytes)) = some (some (.int .i64 0), 1, 8) := by kernel_rfl
theorem int_one (n : Int) : ∀ u ∈ [Value.int .i64 n], u.oneCell' = true := by
  intro u hu
  simp at hu
  subst hu
  rfl

/-- A row of numbers that the call made. -/
def OwnN (w : World) (B : Nat) (v : Value) (xs : List Int) : Prop := ∃ qo qa, v = .slice qo xs.length qa ∧ OwnR w B 3 1 (.slice qo xs.length qa) xs.length (intV xs)
theorem OwnN.below {w w' : World} {B : Nat} {v : Value} {xs : List Int} (h : OwnN w B v xs) (hb : Below w.heap.size w w') : OwnN w' B v xs := by
  obtain ⟨qo, qa, e, ho⟩ := h
  exact ⟨qo, qa, e, ho.below hb⟩
theorem OwnN.base {w : World} {B B' : Nat} {v : Value} {xs : List Int} (h : OwnN w B v xs) (hB : B' ≤ B) : OwnN w B' v xs := by
  obtain ⟨qo, qa, e, ho⟩ := h
  exact ⟨qo, qa, e, ho.base hB⟩
theorem OwnN.nil (w : World) (B : Nat) (ao : Option Addr) : OwnN w B (.slice ao 0 0) [] := ⟨ao, 0, rfl, .inl ⟨rfl, rfl, ao, rfl⟩⟩

theorem ret_nb {v u : Value} {a b : Bool} (h : v = u) (k : a = b) : Ending.returned (.tuple #[v, .bool a]) = .returned (.tuple #[u, .bool b]) := by rw [h, k]
theorem ret_ni {v u : Value} {a b : Int} (h : v = u) (k : a = b) : Ending.returned (.tuple #[v, .int .i64 a]) = .returned (.tuple #[u, .int .i64 b]) := by rw [h, k]

theorem ret_two2 {a b c d : Int} (h : a = b) (k : c = d) : Ending.returned (.tuple #[.int .i64 a, .int .i64 c]) = .returned (.tuple #[.int .i64 b, .int .i64 d]) := by rw [h, k]

theorem OwnN.setCell {w : World} {B : Nat} {v : Value} {xs : List Int} (h : OwnN w B v xs) {a : Addr} (ha : a.block < B) (u : Value) : OwnN (w.setCell a u) B v xs := by
  obtain ⟨qo, qa, e, ho⟩ := h
  exact ⟨qo, qa, e, ho.setCell ha u⟩

end Go.Proofs.Ythnpooffhopnkaa

/- Contract of spec.l02Unpack. -/
namespace Go.Proofs.Ythnpooffhopnkaa
open Go.RowKit
set_option linter.unusedVariables false
set_option maxRecDepth 100000

end Go.Proofs.Ythnpooffhopnkaa

/- Contracts of SumOf, of the program and of its model. -/
namespace Go.Proofs.Ythnpooffhopnkaa
open Go.RowKit
set_option linter.unusedVariables false
set_option maxRecDepth 100000

end Go.Proofs.Ythnpooffhopnkaa

/- Contracts of spec.l02Pack and impl.packNumbers. -/
namespace Go.Proofs.Ythnpooffhopnkaa
open Go.RowKit
set_option linter.unusedVariables false

theorem infoB : (Try.prog.info? 5).map (fun i => (i.zero, i.size, i.bytes)) = some (some (.int .u8 0), 1, 1) := by kernel_rfl

theorem ret_str {a b : ByteArray} (h : a = b) : Ending.returned (.string a) = .returned (.string b) := by rw [h]

end Go.Proofs.Ythnpooffhopnkaa

/- Contracts of the model's l02Kind, l02Seal. -/
namespace Go.Proofs.Ythnpooffhopnkaa
open Go.RowKit
set_option linter.unusedVariables false
set_option maxRecDepth 100000

/-- 'string([]byte{a, b})'. -/
theorem lit2 (W : World) (g : Nat) (a b : Int) (h : W.heap.size = g) : (convert 138 9 (.slice (some ⟨g, 0, none⟩) 2 2)).run Try.prog (W.alloc (.cells #[.int .u8 a, .int .u8 b] 5)) = .ok (.string (strOfNums [a, b])) (W.alloc (.cells #[.int .u8 a, .int .u8 b] 5)) := by
  subst h
  refine run_convert_bytes_arg _ 138 5 Try.underlying138 Try.underlying5 W.heap.size 0 2 2 [a, b] rfl ?_ 9 Try.underlying9
  intro i hi
  rcases (show i = 0 ∨ i = 1 by omega) with rfl | rfl <;> simp [go_sem, List.getD]

end Go.Proofs.Ythnpooffhopnkaa

/- Contracts of the model's readers of records: l02Open, OpenRecord, KindOf. -/
namespace Go.Proofs.Ythnpooffhopnkaa
open Go.RowKit
set_option linter.unusedVariables false
set_option maxRecDepth 100000

/-- What l02Open answers. -/
def openB (s : ByteArray) (k : Int) : Bool := recB s && decide (byteAt s 0 = k)
def openL (s : ByteArray) (k : Int) : List Int := if openB s k = true then unL (bodyT s) else []
theorem openB_no {s : ByteArray} {k : Int} (h : ¬ RecP s) : openB s k = false := by rw [openB, recB_false h]; rfl
theorem openB_kind {s : ByteArray} {k : Int} (h : byteAt s 0 ≠ k) : openB s k = false := by rw [openB, decide_eq_false h]; simp
theorem openB_yes {s : ByteArray} {k : Int} (h : RecP s) (hk : byteAt s 0 = k) : openB s k = true := by rw [openB, recB_true h, decide_eq_true hk]; rfl
theorem openL_no {s : ByteArray} {k : Int} (h : openB s k = false) : openL s k = [] := if_neg (by simp [h])
theorem openL_yes {s : ByteArray} {k : Int} (h : openB s k = true) : openL s k = unL (bodyT s) := if_pos h

end Go.Proofs.Ythnpooffhopnkaa

/- Plain facts on records, of no program: what is packed is read back, what is sealed is opened. -/
namespace Go.Proofs.Ythnpooffhopnkaa
open Go.RowKit
set_option linter.unusedVariables false

theorem allB_in {xs : List Int} (h : allB xs = true) : ∀ j (hj : j < xs.length), 0 ≤ xs[j] ∧ xs[j] ≤ 2147483647 := by
  intro j hj
  rw [allB, List.all_eq_true] at h
  have := h _ (List.getElem_mem hj)
  simpa [numB, inB] using this
theorem pack_byte {xs : List Int} {i j : Nat} (hi : i < xs.length) (hj : j < 4) : byteAt (packS xs) (i * 4 + j) = byteN xs[i] j := by
  obtain ⟨hk, he⟩ := List.getElem?_eq_some_iff.1 (packL_at xs i j hi hj)
  have hb := byteN_in xs[i] j
  rw [packS, byteAt_nums hk (by rw [he]; omega) (by rw [he]; omega), he]
theorem num_of_bytes {n : Int} (h0 : 0 ≤ n) (h1 : n ≤ 2147483647) : byteN n 0 + byteN n 1 * 256 + byteN n 2 * 65536 + byteN n 3 * 16777216 = n := by
  show n / 1 % 256 + n / 256 % 256 * 256 + n / 65536 % 256 * 65536 + n / 16777216 % 256 * 16777216 = n
  omega
theorem un_pack {xs : List Int} (h : allB xs = true) : unL (packS xs) = xs := by
  apply List.ext_getElem
  · rw [unL_length, packS_size]; omega
  · intro i h1 h2
    rw [unL_get h1]
    have hin := allB_in h i h2
    unfold numAt
    have e0 := pack_byte h2 (show 0 < 4 by omega)
    rw [Nat.add_zero] at e0
    rw [e0, pack_byte h2 (show 1 < 4 by omega), pack_byte h2 (show 2 < 4 by omega), pack_byte h2 (show 3 < 4 by omega)]
    exact num_of_bytes hin.1 hin.2
theorem okU_pack {xs : List Int} (h : allB xs = true) (hl : xs.length ≤ 16) : okU (packS xs) = true := by
  rw [okU_even (by rw [packS_size]; omega), un_pack h, intsB, h, decide_eq_true hl]; rfl
theorem intsB_small {xs : List Int} (h : allB xs = true) (hl : xs.length ≤ 16) : intsB xs = true := by rw [intsB, h, decide_eq_true hl]; rfl
theorem unC_pack {xs : List Int} (h : allB xs = true) (hl : xs.length ≤ 16) : unC (packS xs) = 0 := unC_ok (by rw [packS_size]; omega) (okU_pack h hl)
theorem unR_pack {xs : List Int} (h : allB xs = true) (hl : xs.length ≤ 16) : unR (packS xs) = xs := by rw [unR_ok (unC_pack h hl), un_pack h]
theorem unC_long_by {s : ByteArray} (h : ¬ s.size % 4 = 0) (hl : s.size ≤ 65536) : unC s = 3 := unC_bad (by omega) (okU_rest h)

theorem kindB_of {k : Int} (hk : 1 ≤ k ∧ k ≤ 9) : kindB k = true := by simp [kindB, inB]; omega
theorem seal_byte {k : Int} {xs : List Int} (hk : 1 ≤ k ∧ k ≤ 9) (hl : xs.length ≤ 16) {j : Nat} (hj : j < 4) : byteAt (sealS k xs) j = (headR k xs)[j]'(by simpa [headR] using hj) := by
  have hr := sumR_in k xs
  rw [sealS, byteAt_left (by rw [strOfNums_size]; simpa [headR] using hj), byteAt_nums]
  · rcases (show j = 0 ∨ j = 1 ∨ j = 2 ∨ j = 3 by omega) with rfl | rfl | rfl | rfl <;> simp [headR] <;> omega
  · rcases (show j = 0 ∨ j = 1 ∨ j = 2 ∨ j = 3 by omega) with rfl | rfl | rfl | rfl <;> simp [headR] <;> omega
theorem body_seal {k : Int} {xs : List Int} : bodyT (sealS k xs) = packS xs := by
  apply bytes_eq
  · rw [bodyT_size, sealS_size, packS_size]; omega
  · intro j hj
    rw [bodyT_size, sealS_size] at hj
    rw [bodyT_byte (by rw [sealS_size]; omega), sealS, byteAt_right (by rw [strOfNums_size]; simp [headR]), strOfNums_size]
    congr 1
    simp [headR]
theorem rec_seal {k : Int} {xs : List Int} (hk : 1 ≤ k ∧ k ≤ 9) (h : allB xs = true) (hl : xs.length ≤ 16) : RecP (sealS k xs) := by
  have e0 := seal_byte hk hl (show 0 < 4 by omega)
  have hkb : kindB (byteAt (sealS k xs) 0) = true := by rw [e0]; exact kindB_of hk
  refine (seal_iff (by rw [sealS_size]; omega) hkb (by rw [body_seal]; exact okU_pack h hl)).1 ?_
  rw [body_seal, un_pack h, e0]
  simp [headR]
theorem seal_kind {k : Int} {xs : List Int} (hk : 1 ≤ k ∧ k ≤ 9) (hl : xs.length ≤ 16) : byteAt (sealS k xs) 0 = k := by rw [seal_byte hk hl (show 0 < 4 by omega)]; simp [headR]
theorem seal_count {k : Int} {xs : List Int} (hk : 1 ≤ k ∧ k ≤ 9) (hl : xs.length ≤ 16) : byteAt (sealS k xs) 1 = xs.length := by rw [seal_byte hk hl (show 1 < 4 by omega)]; simp [headR]
theorem opC_seal {k : Int} {xs : List Int} (hk : 1 ≤ k ∧ k ≤ 9) (h : allB xs = true) (hl : xs.length ≤ 16) : opC (sealS k xs) k = 0 :=
  opC_ok (by rw [sealS_size]; omega) (kindB_of hk) (recB_true (rec_seal hk h hl)) (seal_kind hk hl)
theorem opR_seal {k : Int} {xs : List Int} (hk : 1 ≤ k ∧ k ≤ 9) (h : allB xs = true) (hl : xs.length ≤ 16) : opR (sealS k xs) k = xs := by rw [opR_ok (opC_seal hk h hl), body_seal, un_pack h]
theorem opC_other {k k' : Int} {xs : List Int} (hk : 1 ≤ k ∧ k ≤ 9) (hk' : 1 ≤ k' ∧ k' ≤ 9) (hne : k ≠ k') (hl : xs.length ≤ 16) : opC (sealS k xs) k' = 3 :=
  opC_no (by rw [sealS_size]; omega) (kindB_of hk') (fun h => hne (by rw [← seal_kind hk hl]; exact h.2))
theorem kdC_seal {k : Int} {xs : List Int} (hk : 1 ≤ k ∧ k ≤ 9) (h : allB xs = true) (hl : xs.length ≤ 16) : kdC (sealS k xs) = 0 := kdC_ok (by rw [sealS_size]; omega) (recB_true (rec_seal hk h hl))
theorem kdR_seal {k : Int} {xs : List Int} (hk : 1 ≤ k ∧ k ≤ 9) (h : allB xs = true) (hl : xs.length ≤ 16) : kdR (sealS k xs) = k := by rw [kdR_ok (kdC_seal hk h hl), seal_kind hk hl]
/-- A text whose length is not what its second byte says is none. -/
theorem opC_size {s : ByteArray} {k : Int} (hk : 1 ≤ k ∧ k ≤ 9) (hs : s.size ≤ 65536) (h : 4 ≤ s.size → (s.size : Int) ≠ 4 + byteAt s 1 * 4) : opC s k = 3 :=
  opC_no (by omega) (kindB_of hk) (fun hh => by
    obtain ⟨h4, _, _, hc, _, _⟩ := recB_iff.1 hh.1
    rw [bodyT_size] at hc
    exact h h4 (by omega))
theorem opC_cut {k : Int} {xs : List Int} {q : Nat} (hk : 1 ≤ k ∧ k ≤ 9) (hl : xs.length ≤ 16) (hq : q < 4 + xs.length * 4) : opC ((sealS k xs).extract 0 q) k = 3 := by
  have hz := sealS_size k xs
  have hsz : ((sealS k xs).extract 0 q).size = q := by simp [hz]; omega
  refine opC_size hk (by omega) (fun h4 => ?_)
  rw [byteAt_cut (by rw [hz]; omega) (by omega), Nat.zero_add, seal_count hk hl]
  omega
theorem opC_drawn {k : Int} {xs : List Int} {t : ByteArray} (ht : t.size = 1) (hk : 1 ≤ k ∧ k ≤ 9) (hl : xs.length ≤ 16) : opC (sealS k xs ++ t) k = 3 := by
  have hz := sealS_size k xs
  refine opC_size hk (by rw [ByteArray.size_append]; omega) (fun h4 => ?_)
  rw [byteAt_left (by omega), seal_count hk hl, ByteArray.size_append]
  omega

end Go.Proofs.Ythnpooffhopnkaa

/- Tables, plainly: when they are right, what is answered of them, what a text says of them. -/
namespace Go.Proofs.Ythnpooffhopnkaa
open Go.RowKit
set_option linter.unusedVariables false
set_option maxRecDepth 100000

def ent1 (n : Int) : Bool := betw n 0 25
/-- A table that is right. -/
def tbB (xs : List Int) : Bool := decide (xs.length ≤ 12) && xs.all ent1
/-- The code of a table. -/
def tbF (xs : List Int) : Int := if 4096 < xs.length then 2 else if tbB xs = true then 0 else 1
theorem tbB_len {xs : List Int} (h : tbB xs = true) : xs.length ≤ 12 := by
  simp only [tbB, Bool.and_eq_true, decide_eq_true_eq] at h; exact h.1
theorem tbB_at {xs : List Int} (h : tbB xs = true) : ∀ i (hi : i < xs.length), 0 ≤ xs[i] ∧ xs[i] ≤ 25 := by
  intro i hi
  simp only [tbB, Bool.and_eq_true, decide_eq_true_eq, List.all_eq_true] at h
  exact betw_iff.1 (h.2 xs[i] (List.getElem_mem hi))
theorem tbB_of {xs : List Int} (hl : xs.length ≤ 12) (h : ∀ i (hi : i < xs.length), ent1 xs[i] = true) : tbB xs = true := by
  rw [tbB, decide_eq_true hl, all_of (p := ent1) (fun i hi _ => h i hi)]; rfl
theorem tbB_nolen {xs : List Int} (hl : ¬ xs.length ≤ 12) : tbB xs = false := by rw [tbB, decide_eq_false hl]; rfl
theorem tbB_noat {xs : List Int} {k : Nat} (hk : k < xs.length) (h : ent1 xs[k] = false) : tbB xs = false := by rw [tbB, all_not (p := ent1) hk h]; simp
theorem tbB_all {xs : List Int} (h : ∀ i (hi : i < xs.length), ent1 xs[i] = true) : tbB xs = decide (xs.length ≤ 12) := by
  rw [tbB, all_of (p := ent1) (fun i hi _ => h i hi)]; simp
theorem tbF_long {xs : List Int} (h : 4096 < xs.length) : tbF xs = 2 := if_pos h
theorem tbF_bad {xs : List Int} (h : ¬ 4096 < xs.length) (hb : tbB xs = false) : tbF xs = 1 := by rw [tbF, if_neg h, if_neg (by simp [hb])]
theorem tbF_ok {xs : List Int} (hb : tbB xs = true) : tbF xs = 0 := by
  have := tbB_len hb
  rw [tbF, if_neg (by omega), if_pos hb]
theorem tbF_cases (xs : List Int) : (4096 < xs.length ∧ tbF xs = 2) ∨ (¬ 4096 < xs.length ∧ tbB xs = false ∧ tbF xs = 1) ∨ (tbB xs = true ∧ tbF xs = 0) := by
  by_cases h : 4096 < xs.length
  · exact .inl ⟨h, tbF_long h⟩
  · cases hb : tbB xs
    · exact .inr (.inl ⟨h, rfl, tbF_bad h hb⟩)
    · exact .inr (.inr ⟨rfl, tbF_ok hb⟩)
theorem tbF_zero {xs : List Int} (h0 : tbF xs = 0) : tbB xs = true := by
  rcases tbF_cases xs with ⟨_, h⟩ | ⟨_, _, h⟩ | ⟨h, _⟩
  · rw [h0] at h; cases h
  · rw [h0] at h; cases h
  · exact h
/-- Its record. -/
def encTb (xs : List Int) : ByteArray := sealS 3 xs
def etR (xs : List Int) : ByteArray := if tbF xs = 0 then encTb xs else ⟨#[]⟩
theorem tb_all {xs : List Int} (h : tbB xs = true) : allB xs = true := allB_true (fun j hj => by have := tbB_at h j hj; simp [numB, inB]; omega)
theorem tb_seal {xs : List Int} (h : tbB xs = true) : sealC 3 xs = 0 ∧ sealT 3 xs = encTb xs := by
  have hl := tbB_len h
  have hc : sealC 3 xs = 0 := sealC_ok (listC_ok (by omega) (intsB_small (tb_all h) (by omega))) rfl
  exact ⟨hc, sealT_ok hc⟩
/-- What a text says of a table. -/
def tdB (s : ByteArray) : Bool := openB s 3 && tbB (openL s 3)
def tdC (s : ByteArray) : Int := if 65536 < s.size then 2 else if tdB s = true then 0 else 3
def tdR (s : ByteArray) : List Int := if tdC s = 0 then openL s 3 else []
theorem td_long {s : ByteArray} (h : 65536 < s.size) : tdC s = 2 ∧ tdR s = [] := by
  have e : tdC s = 2 := if_pos h
  exact ⟨e, by rw [tdR, e]; rfl⟩
theorem td_no {s : ByteArray} (h : ¬ 65536 < s.size) (hb : tdB s = false) : tdC s = 3 ∧ tdR s = [] := by
  have e : tdC s = 3 := by rw [tdC, if_neg h, hb]; rfl
  exact ⟨e, by rw [tdR, e]; rfl⟩
theorem td_ok {s : ByteArray} (h : ¬ 65536 < s.size) (hb : tdB s = true) : tdC s = 0 ∧ tdR s = openL s 3 := by
  have e : tdC s = 0 := by rw [tdC, if_neg h, hb]; rfl
  exact ⟨e, by rw [tdR, e]; rfl⟩
theorem tdB_parts {s : ByteArray} (h : tdB s = true) : openB s 3 = true ∧ tbB (openL s 3) = true := by
  simp only [tdB, Bool.and_eq_true] at h; exact h
theorem tdR_len (s : ByteArray) : (tdR s).length ≤ 12 := by
  by_cases h : 65536 < s.size
  · rw [(td_long h).2]; exact Nat.zero_le _
  · cases hb : tdB s
    · rw [(td_no h hb).2]; exact Nat.zero_le _
    · rw [(td_ok h hb).2]; exact tbB_len (tdB_parts hb).2
/-- A table that was encoded is decoded. -/
theorem enc_td {xs : List Int} (h : tbB xs = true) : tdC (encTb xs) = 0 ∧ tdR (encTb xs) = xs := by
  have hl := tbB_len h
  have hz : (encTb xs).size = 4 + xs.length * 4 := sealS_size 3 xs
  have ho : openB (encTb xs) 3 = true := openB_yes (rec_seal (by decide) (tb_all h) (by omega)) (seal_kind (by decide) (by omega))
  have hL : openL (encTb xs) 3 = xs := by rw [openL_yes ho, encTb, body_seal, un_pack (tb_all h)]
  have hB : tdB (encTb xs) = true := by rw [tdB, ho, hL, h]; rfl
  obtain ⟨c1, c2⟩ := td_ok (by omega) hB
  exact ⟨c1, c2.trans hL⟩
/-- What EntryOf answers. -/
def enF (xs : List Int) (g : Int) : Int := if tbF xs = 0 then (if betw g 0 ((xs.length : Int) - 1) = true then 0 else 4) else tbF xs
def enK (xs : List Int) (g : Int) : Int := if enF xs g = 0 then min (xs.getD g.toNat 0) 2 else 0
def enC (xs : List Int) (g : Int) : Int := if enF xs g = 0 then max 0 (xs.getD g.toNat 0 - 2) else 0
theorem en_cases (xs : List Int) (g : Int) : (tbF xs ≠ 0 ∧ enF xs g = tbF xs ∧ enK xs g = 0 ∧ enC xs g = 0) ∨ (tbB xs = true ∧ betw g 0 ((xs.length : Int) - 1) = false ∧ enF xs g = 4 ∧ enK xs g = 0 ∧ enC xs g = 0) ∨ (tbB xs = true ∧ ∃ q : Nat, g = (q : Int) ∧ ∃ hq : q < xs.length, enF xs g = 0 ∧ enK xs g = min xs[q] 2 ∧ enC xs g = max 0 (xs[q] - 2)) := by
  by_cases h : tbF xs = 0
  · have hb := tbF_zero h
    by_cases hg : betw g 0 ((xs.length : Int) - 1) = true
    · obtain ⟨g0, g1⟩ := betw_iff.1 hg
      have e : enF xs g = 0 := by rw [enF, if_pos h, if_pos hg]
      have hq : g.toNat < xs.length := by omega
      refine .inr (.inr ⟨hb, g.toNat, by omega, hq, e, ?_, ?_⟩)
      · rw [enK, if_pos e]; simp [List.getD, hq]
      · rw [enC, if_pos e]; simp [List.getD, hq]
    · rw [Bool.not_eq_true] at hg
      have e : enF xs g = 4 := by rw [enF, if_pos h, hg]; rfl
      exact .inr (.inl ⟨hb, hg, e, by rw [enK, e]; rfl, by rw [enC, e]; rfl⟩)
  · have e : enF xs g = tbF xs := by rw [enF, if_neg h]
    exact .inl ⟨h, e, by rw [enK, e, if_neg h], by rw [enC, e, if_neg h]⟩
/-- What ResizeTable answers. -/
def rzF (xs : List Int) (n : Int) : Int := if tbF xs = 0 then (if betw n 0 12 = true then 0 else 4) else tbF xs
def rzTo (xs : List Int) (n : Nat) : List Int := (List.range n).map fun i => xs.getD i 0
def rzL (xs : List Int) (n : Int) : List Int := if rzF xs n = 0 then rzTo xs n.toNat else []
theorem rzTo_len (xs : List Int) (n : Nat) : (rzTo xs n).length = n := by simp [rzTo]
theorem rzTo_succ (xs : List Int) (n : Nat) : rzTo xs (n + 1) = rzTo xs n ++ [xs.getD n 0] := by simp [rzTo, List.range_succ]
theorem rz_cases (xs : List Int) (n : Int) : (tbF xs ≠ 0 ∧ rzF xs n = tbF xs ∧ rzL xs n = []) ∨ (tbB xs = true ∧ betw n 0 12 = false ∧ rzF xs n = 4 ∧ rzL xs n = []) ∨ (tbB xs = true ∧ ∃ q : Nat, n = (q : Int) ∧ q ≤ 12 ∧ rzF xs n = 0 ∧ rzL xs n = rzTo xs q) := by
  by_cases h : tbF xs = 0
  · have hb := tbF_zero h
    by_cases hg : betw n 0 12 = true
    · obtain ⟨g0, g1⟩ := betw_iff.1 hg
      have e : rzF xs n = 0 := by rw [rzF, if_pos h, if_pos hg]
      exact .inr (.inr ⟨hb, n.toNat, by omega, by omega, e, by rw [rzL, if_pos e]⟩)
    · rw [Bool.not_eq_true] at hg
      have e : rzF xs n = 4 := by rw [rzF, if_pos h, hg]; rfl
      exact .inr (.inl ⟨hb, hg, e, by rw [rzL, e]; rfl⟩)
  · have e : rzF xs n = tbF xs := by rw [rzF, if_neg h]
    exact .inl ⟨h, e, by rw [rzL, e, if_neg h]⟩
theorem rzL_len (xs : List Int) (n : Int) : (rzL xs n).length ≤ 12 := by
  rcases rz_cases xs n with ⟨_, _, h⟩ | ⟨_, _, _, h⟩ | ⟨_, q, _, hq, _, h⟩
  · rw [h]; exact Nat.zero_le _
  · rw [h]; exact Nat.zero_le _
  · rw [h, rzTo_len]; exact hq
/-- The clusters of a table's data. -/
def clTo (xs : List Int) (k : Nat) : List Int := (xs.take k).filterMap fun e => if 2 ≤ e then some (e - 2) else none
def clA (xs : List Int) : List Int := clTo xs xs.length
def clL (xs : List Int) : List Int := if tbF xs = 0 then clA xs else []
theorem clTo_data {xs : List Int} {k : Nat} (hk : k < xs.length) (h : 2 ≤ xs[k]) : clTo xs (k + 1) = clTo xs k ++ [xs[k] - 2] := by
  unfold clTo
  rw [List.take_succ_eq_append_getElem hk, List.filterMap_append]; simp [h]
theorem clTo_none {xs : List Int} {k : Nat} (hk : k < xs.length) (h : ¬ 2 ≤ xs[k]) : clTo xs (k + 1) = clTo xs k := by
  unfold clTo
  rw [List.take_succ_eq_append_getElem hk, List.filterMap_append]; simp [h]
theorem clTo_len (xs : List Int) (k : Nat) : (clTo xs k).length ≤ k := by
  unfold clTo
  refine Nat.le_trans (List.length_filterMap_le _ _) ?_
  rw [List.length_take]; omega
theorem clL_len (xs : List Int) : (clL xs).length ≤ 12 := by
  unfold clL
  split
  · rename_i h
    have := tbB_len (tbF_zero h)
    have := clTo_len xs xs.length
    unfold clA
    omega
  · exact Nat.zero_le _

end Go.Proofs.Ythnpooffhopnkaa

/- Images, plainly: when they are right, and what is done to them. (Made ahead of stage 10.) -/
namespace Go.Proofs.Ythnpooffhopnkaa
open Go.RowKit
set_option linter.unusedVariables false
set_option maxRecDepth 100000

structure Snp where
  name : ByteArray
  table : List Int
structure Img where
  refs : List Int
  table : List Int
  snaps : List Snp
  data : List Int

/-- A snapshot's name. -/
def nm1 (b : UInt8) : Bool := decide (97 ≤ b.toNat) && decide (b.toNat ≤ 122)
def snmB (t : ByteArray) : Bool := t.data.toList.all nm1 && betw (t.size : Int) 1 6
/-- How many tables have each cluster. -/
def incr (ns : List Int) (c : Int) : List Int := ns.set c.toNat (ns.getD c.toNat 0 + 1)
def cnt1T (ns : List Int) (t : List Int) : List Int := (clA t).foldl incr ns
def imTabs (m : Img) : List (List Int) := m.table :: m.snaps.map (·.table)
def imCnt (m : Img) : List Int := (imTabs m).foldl cnt1T zero24
theorem incr_len (ns : List Int) (c : Int) : (incr ns c).length = ns.length := by simp [incr]
theorem cnt1T_len (t : List Int) : ∀ ns : List Int, (cnt1T ns t).length = ns.length := by
  unfold cnt1T
  induction clA t with
  | nil => intro ns; rfl
  | cons c cs ih => intro ns; rw [List.foldl_cons, ih, incr_len]
theorem imCnt_len (m : Img) : (imCnt m).length = 24 := by
  unfold imCnt
  have h : ∀ (ts : List (List Int)) (ns : List Int), (ts.foldl cnt1T ns).length = ns.length := by
    intro ts
    induction ts with
    | nil => intro ns; rfl
    | cons t ts ih => intro ns; rw [List.foldl_cons, ih, cnt1T_len]
  rw [h]; rfl
/-- No two snapshots have one name. -/
def namesB (ss : List Snp) : Bool := decide ((ss.map (·.name)).Nodup)
/-- All but whether counts are right. -/
def imFm (m : Img) : Bool := ctB m.refs && tbB m.table && decide (m.snaps.length ≤ 3) && decide (m.data.length = 24) && m.snaps.all (fun s => snmB s.name && tbB s.table) && namesB m.snaps && m.data.all numB
/-- A table has no cluster twice. -/
def onceB (t : List Int) : Bool := decide (clA t).Nodup
/-- Clusters that none has are 0. -/
def clearB (m : Img) : Bool := (List.range 24).all fun i => decide (m.refs.getD i 0 = 0 → m.data.getD i 0 = 0)
def imB (m : Img) : Bool := imFm m && (imTabs m).all onceB && decide (imCnt m = m.refs) && clearB m

structure ImR (m : Img) : Prop where
  refs : ctB m.refs = true
  table : tbB m.table = true
  few : m.snaps.length ≤ 3
  len : m.data.length = 24
  snaps : ∀ s ∈ m.snaps, snmB s.name = true ∧ tbB s.table = true
  names : (m.snaps.map (·.name)).Nodup
  nums : ∀ n ∈ m.data, numB n = true
  once : ∀ t ∈ imTabs m, (clA t).Nodup
  cnt : imCnt m = m.refs
  clear : ∀ i, i < 24 → m.refs.getD i 0 = 0 → m.data.getD i 0 = 0
theorem imB_iff {m : Img} : imB m = true ↔ ImR m := by
  constructor
  · intro h
    simp only [imB, imFm, namesB, onceB, clearB, Bool.and_eq_true, decide_eq_true_eq, List.all_eq_true, List.mem_range] at h
    obtain ⟨⟨⟨⟨⟨⟨⟨⟨⟨h1, h2⟩, h3⟩, h4⟩, h5⟩, h6⟩, h7⟩, h8⟩, h9⟩, h10⟩ := h
    exact ⟨h1, h2, h3, h4, h5, h6, h7, h8, h9, h10⟩
  · intro h
    simp only [imB, imFm, namesB, onceB, clearB, Bool.and_eq_true, decide_eq_true_eq, List.all_eq_true, List.mem_range]
    exact ⟨⟨⟨⟨⟨⟨⟨⟨⟨h.refs, h.table⟩, h.few⟩, h.len⟩, h.snaps⟩, h.names⟩, h.nums⟩, h.once⟩, h.cnt⟩, h.clear⟩

/-- A table has a cluster no more; the last one's data go. -/
def imDrop (m : Img) (e : Int) : Img :=
  if e < 2 then m else
    let c := (e - 2).toNat
    let r := m.refs.set c (m.refs.getD c 0 - 1)
    { m with refs := r, data := if m.refs.getD c 0 - 1 = 0 then m.data.set c 0 else m.data }
def imDrops (m : Img) (es : List Int) : Img := es.foldl imDrop m
theorem imDrop_refs (m : Img) (e : Int) : (imDrop m e).refs.length = m.refs.length := by unfold imDrop; split <;> simp
theorem imDrop_data (m : Img) (e : Int) : (imDrop m e).data.length = m.data.length := by
  unfold imDrop
  split
  · rfl
  · simp only; split <;> simp
theorem imDrop_table (m : Img) (e : Int) : (imDrop m e).table = m.table ∧ (imDrop m e).snaps = m.snaps := by unfold imDrop; split <;> exact ⟨rfl, rfl⟩
/-- A value is written: in place, or into a free cluster. -/
def imWrite (m : Img) (g : Nat) (v : Int) : Img × Int :=
  let e := m.table.getD g 0
  if 2 ≤ e ∧ m.refs.getD (e - 2).toNat 0 = 1 then ({ m with data := m.data.set (e - 2).toNat v }, 0)
  else if frN m.refs < m.refs.length then
    let c := frN m.refs
    let d := imDrop m e
    ({ d with refs := d.refs.set c 1, data := d.data.set c v, table := d.table.set g (2 + c) }, 0)
  else (m, 7)
def imZero (m : Img) (g : Nat) : Img := let d := imDrop m (m.table.getD g 0); { d with table := d.table.set g 1 }
def imResize (m : Img) (n : Nat) : Img := let d := imDrops m (m.table.drop n); { d with table := rzTo m.table n }
def imRaise (m : Img) (t : List Int) : Img := { m with refs := (clA t).foldl incr m.refs }
def imFind (m : Img) (name : ByteArray) : Nat := m.snaps.findIdx (fun s => decide (s.name = name))
def imCreate (m : Img) (name : ByteArray) : Img × Int :=
  if snmB name = true then
    (if imFind m name < m.snaps.length then (m, 8)
    else if m.snaps.length = 3 then (m, 6)
    else ({ imRaise m m.table with snaps := m.snaps ++ [⟨name, m.table⟩] }, 0))
  else (m, 12)
def imDelete (m : Img) (name : ByteArray) : Img × Int :=
  if imFind m name < m.snaps.length then ({ imDrops m ((m.snaps[imFind m name]?).elim [] (·.table)) with snaps := m.snaps.eraseIdx (imFind m name) }, 0)
  else (m, 5)
def imRevert (m : Img) (name : ByteArray) : Img × Int :=
  if imFind m name < m.snaps.length then
    let t := (m.snaps[imFind m name]?).elim [] (·.table)
    ({ imDrops (imRaise m t) m.table with table := t }, 0)
  else (m, 5)
/-- What a guest reads. -/
def imVal (m : Img) (e : Int) : Int := if e < 2 then 0 else m.data.getD (e - 2).toNat 0

end Go.Proofs.Ythnpooffhopnkaa

/- Images in memory, as slices show them. (Made ahead of stage 10.) -/
namespace Go.Proofs.Ythnpooffhopnkaa
open Go.RowKit
set_option linter.unusedVariables false
set_option maxRecDepth 100000

/-- A row of snapshots. -/
def Sns (w : World) (ao : Option Addr) (ss : List Snp) : Prop := ∀ i (h : i < ss.length), ∃ b off tq tc, ao = some ⟨b, off, none⟩ ∧ w.cell? ⟨b, off + i * 2, none⟩ = some (.string ss[i].name) ∧ w.cell? ⟨b, off + i * 2 + 1, none⟩ = some (.slice tq ss[i].table.length tc) ∧ Is w tq ss[i].table ∧ ss[i].name.size ≤ maxLen ∧ ss[i].table.length ≤ maxLen
theorem Sns.below {w w' : World} {ao : Option Addr} {ss : List Snp} (h : Sns w ao ss) (hb : Below w.heap.size w w') : Sns w' ao ss := fun i hi => by
  obtain ⟨b, off, tq, tc, e, h0, h1, h2, h3, h4⟩ := h i hi
  have hl := World.block_lt_of_cell? _ _ h0
  exact ⟨b, off, tq, tc, e, (hb.cell (p := ⟨b, off + i * 2, none⟩) hl).trans h0, (hb.cell (p := ⟨b, off + i * 2 + 1, none⟩) hl).trans h1, h2.below hb, h3, h4⟩
/-- Where an image's four lists lie. -/
structure Im4 where
  ro : Option Addr
  rc : Nat
  tq : Option Addr
  tc : Nat
  so : Option Addr
  sc : Nat
  dq : Option Addr
  dc : Nat
abbrev imV (a : Im4) (m : Img) : Value := .agg #[.slice a.ro m.refs.length a.rc, .slice a.tq m.table.length a.tc, .slice a.so m.snaps.length a.sc, .slice a.dq m.data.length a.dc]
abbrev snV (s : Snp) (tq : Option Addr) (tc : Nat) : Value := .agg #[.string s.name, .slice tq s.table.length tc]
/-- An image is shown. -/
structure ImS (w : World) (a : Im4) (m : Img) : Prop where
  r : Is w a.ro m.refs
  t : Is w a.tq m.table
  s : Sns w a.so m.snaps
  d : Is w a.dq m.data
theorem ImS.below {w w' : World} {a : Im4} {m : Img} (h : ImS w a m) (hb : Below w.heap.size w w') : ImS w' a m := ⟨h.r.below hb, h.t.below hb, h.s.below hb, h.d.below hb⟩
/-- How great an image is. -/
def sn1 (s : Snp) : Nat := s.name.size + s.table.length
def snSz (ss : List Snp) : Nat := (ss.map sn1).sum
def imSz (m : Img) : Nat := m.refs.length + m.table.length + (m.snaps.length + snSz m.snaps) + m.data.length
theorem snSz_take {ss : List Snp} {k : Nat} (h : k < ss.length) : snSz (ss.take (k + 1)) = snSz (ss.take k) + sn1 ss[k] := by
  unfold snSz
  rw [List.take_succ_eq_append_getElem h, List.map_append, List.sum_append]; simp
theorem sn_le {ss : List Snp} {k : Nat} (h : k < ss.length) : sn1 ss[k] ≤ snSz ss := by
  have e := snSz_take h
  have : ∀ (xs : List Snp) (n : Nat), snSz (xs.take n) ≤ snSz xs := by
    intro xs n
    have h2 : snSz xs = snSz (xs.take n) + snSz (xs.drop n) := by
      unfold snSz
      rw [← List.sum_append, ← List.map_append, List.take_append_drop]
    omega
  have := this ss (k + 1)
  omega

end Go.Proofs.Ythnpooffhopnkaa

/- Images that are owned: their rows of numbers lie apart from each other. (Made ahead of stage 10.) -/
namespace Go.Proofs.Ythnpooffhopnkaa
open Go.RowKit
set_option linter.unusedVariables false
set_option maxRecDepth 100000

/-- Rows of numbers of the call's own, none of which lies in another's block. -/
structure OwnA (w : World) (B : Nat) (rs : List (Value × List Int)) : Prop where
  own : ∀ r ∈ rs, OwnN w B r.1 r.2
  apart : rs.Pairwise (fun a b => ∀ g, Own a.1 g → ¬ Own b.1 g)
theorem OwnN.ge {w : World} {B : Nat} {v : Value} {xs : List Int} (h : OwnN w B v xs) : ∀ k, Own v k → B ≤ k ∧ k < w.heap.size := by
  obtain ⟨ao, cap, rfl, ho⟩ := h
  exact ho.ge
theorem OwnN.keep {S : Nat → Prop} {w w' : World} {B : Nat} {v : Value} {xs : List Int} (h : OwnN w B v xs) (hk : Keep S w w') (hs : ∀ g, Own v g → ¬ S g) : OwnN w' B v xs := by
  obtain ⟨ao, cap, rfl, ho⟩ := h
  exact ⟨ao, cap, rfl, ho.keep hk hs⟩
theorem OwnA.below {w w' : World} {B : Nat} {rs : List (Value × List Int)} (h : OwnA w B rs) (hb : Below w.heap.size w w') : OwnA w' B rs := ⟨fun r hr => (h.own r hr).below hb, h.apart⟩
theorem OwnA.keep {S : Nat → Prop} {w w' : World} {B : Nat} {rs : List (Value × List Int)} (h : OwnA w B rs) (hk : Keep S w w') (hs : ∀ r ∈ rs, ∀ g, Own r.1 g → ¬ S g) : OwnA w' B rs := ⟨fun r hr => (h.own r hr).keep hk (hs r hr), h.apart⟩
theorem OwnA.base {w : World} {B B' : Nat} {rs : List (Value × List Int)} (h : OwnA w B rs) (hB : B' ≤ B) : OwnA w B' rs := ⟨fun r hr => (h.own r hr).base hB, h.apart⟩
theorem OwnA.nil (w : World) (B : Nat) : OwnA w B [] := ⟨fun _ h => (by cases h), List.Pairwise.nil⟩
/-- A row that was made later lies apart from all. -/
theorem OwnA.snoc {w w' : World} {B : Nat} {rs : List (Value × List Int)} {v : Value} {xs : List Int} (h : OwnA w B rs) (hb : Below w.heap.size w w') (hv : OwnN w' w.heap.size v xs) (hB : B ≤ w.heap.size) : OwnA w' B (rs ++ [(v, xs)]) := by
  refine ⟨fun r hr => ?_, ?_⟩
  · rcases List.mem_append.1 hr with h1 | h1
    · exact (h.own r h1).below hb
    · rw [List.mem_singleton] at h1
      subst h1
      exact hv.base hB
  · rw [List.pairwise_append]
    refine ⟨h.apart, List.pairwise_singleton _ _, fun a ha b hb' g hg hg' => ?_⟩
    rw [List.mem_singleton] at hb'
    subst hb'
    have h1 := ((h.own a ha).ge g hg).2
    have h2 := (hv.ge g hg').1
    omega
/-- The cells of a row of snapshots, its tables' slices given. -/
def snC : List Snp → List Value → List Value
  | s :: ss, t :: ts => .string s.name :: t :: snC ss ts
  | _, _ => []
theorem snC_length : ∀ (ss : List Snp) (ts : List Value), ss.length = ts.length → (snC ss ts).length = ss.length * 2
  | [], [], _ => rfl
  | s :: ss, t :: ts, h => by
    have := snC_length ss ts (by simpa using h)
    simp only [snC, List.length_cons, this]; omega
theorem snC_snoc : ∀ (ss : List Snp) (ts : List Value) (s : Snp) (t : Value), ss.length = ts.length → snC (ss ++ [s]) (ts ++ [t]) = snC ss ts ++ [.string s.name, t]
  | [], [], s, t, _ => rfl
  | a :: ss, b :: ts, s, t, h => by
    have := snC_snoc ss ts s t (by simpa using h)
    simp only [List.cons_append, snC, this]
/-- Its rows. -/
def imRows (a : Im4) (m : Img) (ts : List Value) : List (Value × List Int) := (.slice a.ro m.refs.length a.rc, m.refs) :: (.slice a.tq m.table.length a.tc, m.table) :: (.slice a.dq m.data.length a.dc, m.data) :: ts.zip (m.snaps.map (·.table))
/-- A row as OwnR's, but that one of no element may have room. -/
def OwnS (w : World) (B e size : Nat) (v : Value) (n : Nat) (xs : List Value) : Prop := (n = 0 ∧ xs = [] ∧ ∃ ao c, v = .slice ao 0 c) ∨ (0 < n ∧ w.ownsRow B e size v n xs)
theorem OwnR.toS {w : World} {B e size n : Nat} {v : Value} {xs : List Value} (h : OwnR w B e size v n xs) : OwnS w B e size v n xs := h.imp (fun ⟨h1, h2, ao, h3⟩ => ⟨h1, h2, ao, 0, h3⟩) id
theorem OwnS.toR {w : World} {B e size n c : Nat} {ao : Option Addr} {xs : List Value} (h : OwnS w B e size (.slice ao n c) n xs) (hc : n = 0 → c = 0) : OwnR w B e size (.slice ao n c) n xs := h.imp (fun ⟨h1, h2, _⟩ => ⟨h1, h2, ao, by rw [h1, hc h1]⟩) id
/-- What holds of OwnR's rows, whatever room one of no element has. -/
theorem OwnS.as {w : World} {B e size n : Nat} {v : Value} {xs : List Value} (h : OwnS w B e size v n xs) : ∃ v', OwnR w B e size v' n xs ∧ (∀ k, Own v k ↔ Own v' k) := by
  rcases h with ⟨h1, h2, ao, c, rfl⟩ | h
  · exact ⟨.slice ao 0 0, .inl ⟨h1, h2, ao, rfl⟩, fun k => ⟨fun hk => absurd hk own_no, fun hk => absurd hk own_no⟩⟩
  · exact ⟨v, .inr h, fun _ => Iff.rfl⟩
theorem OwnS.keep {S : Nat → Prop} {w w' : World} {B e size n : Nat} {v : Value} {xs : List Value} (h : OwnS w B e size v n xs) (hk : Keep S w w') (hs : ∀ g, Own v g → ¬ S g) : OwnS w' B e size v n xs := by
  rcases h with h | h
  · exact .inl h
  · exact (OwnR.keep (.inr h) hk hs).toS
theorem OwnS.below {w w' : World} {B e size n : Nat} {v : Value} {xs : List Value} (h : OwnS w B e size v n xs) (hb : Below w.heap.size w w') : OwnS w' B e size v n xs :=
  h.keep (S := fun _ => False) (Keep.of_below hb) (fun _ _ h => h)
theorem OwnS.base {w : World} {B B' e size n : Nat} {v : Value} {xs : List Value} (h : OwnS w B e size v n xs) (hB : B' ≤ B) : OwnS w B' e size v n xs := by
  rcases h with h | h
  · exact .inl h
  · exact (OwnR.base (.inr h) hB).toS
theorem OwnS.ge {w : World} {B e size n : Nat} {v : Value} {xs : List Value} (h : OwnS w B e size v n xs) : ∀ k, Own v k → B ≤ k ∧ k < w.heap.size := fun k hk => by
  obtain ⟨v', h1, h2⟩ := h.as
  exact h1.ge k ((h2 k).1 hk)
theorem OwnS.other {w : World} {B e size n : Nat} {v : Value} {xs : List Value} (h : OwnS w B e size v n xs) {x t : Nat} {c : Array Value} {f : Nat × Nat} (hx : w.heap[x]? = some (.cells c t f)) (he : t ≠ e) : ¬ Own v x := fun hk => by
  obtain ⟨v', h1, h2⟩ := h.as
  exact h1.other hx he ((h2 x).1 hk)
theorem OwnS.setCell {w : World} {B e size n : Nat} {v : Value} {xs : List Value} (h : OwnS w B e size v n xs) {a : Addr} (ha : a.block < B) (u : Value) : OwnS (w.setCell a u) B e size v n xs := by
  rcases h with h | h
  · exact .inl h
  · exact (OwnR.setCell (.inr h) ha u).toS
theorem OwnS.row {w : World} {B e size n : Nat} {v : Value} {xs : List Value} (h : OwnS w B e size v n xs) (h0 : 0 < n) : w.ownsRow B e size v n xs := by
  rcases h with ⟨h1, _⟩ | h
  · omega
  · exact h.2
theorem own_apartS {w : World} {B B' e e' size size' n n' : Nat} {v v' : Value} {xs xs' : List Value} (h : OwnR w B e size v n xs) (h' : OwnS w B' e' size' v' n' xs') (he : e ≠ e') : ∀ g, Own v g → ¬ Own v' g := fun g hg hg' => by
  obtain ⟨v2, h1, h2⟩ := h'.as
  exact own_apart h h1 he g hg ((h2 g).1 hg')
theorem own_apartT {w : World} {B B' e e' size size' n n' : Nat} {v v' : Value} {xs xs' : List Value} (h : OwnS w B e size v n xs) (h' : OwnR w B' e' size' v' n' xs') (he : e ≠ e') : ∀ g, Own v g → ¬ Own v' g := fun g hg hg' => by
  obtain ⟨v2, h1, h2⟩ := h.as
  exact own_apart h1 h' he g ((h2 g).1 hg) hg'
/-- An image of the call's own. -/
structure OwnIm (w : World) (B : Nat) (a : Im4) (m : Img) (ts : List Value) : Prop where
  len : m.snaps.length = ts.length
  s : OwnS w B 83 2 (.slice a.so m.snaps.length a.sc) m.snaps.length (snC m.snaps ts)
  rows : OwnA w B (imRows a m ts)
/-- .. whose row of snapshots has no room where it has no element. -/
def OwnF (w : World) (B : Nat) (a : Im4) (m : Img) (ts : List Value) : Prop := OwnIm w B a m ts ∧ (m.snaps.length = 0 → a.sc = 0)
theorem OwnR.cap0 {w : World} {B e size n c : Nat} {ao : Option Addr} {xs : List Value} (h : OwnR w B e size (.slice ao n c) n xs) (h0 : n = 0) : c = 0 := by
  rcases h with ⟨_, _, ao', e0⟩ | ⟨hp, _⟩
  · simp only [Value.slice.injEq] at e0
    exact e0.2.2
  · omega
theorem OwnIm.below {w w' : World} {B : Nat} {a : Im4} {m : Img} {ts : List Value} (h : OwnIm w B a m ts) (hb : Below w.heap.size w w') : OwnIm w' B a m ts := ⟨h.len, h.s.below hb, h.rows.below hb⟩

end Go.Proofs.Ythnpooffhopnkaa
