import Derived.Test.YthnpooffhopnkacGreatDoorRows
import Derived.Test.YthnpooffhopnkacGreatDoorPart1
import Derived.Test.YthnpooffhopnkacGreatDoorPart2
import Derived.WalkKit
import Derived.WalkSpells
import Derived.BigQuiet
import Derived.Deep.QuietTactic
import Derived.Deep.RegionWith
import Derived.Laws.BytesArg

/- What stays beside a source of choices; contract of spec.l00Source. -/
namespace Go.Proofs.YthnpooffhopnkacGreatDoor
open Go.RowKit
set_option linter.unusedVariables false
set_option maxRecDepth 100000

theorem keep_cell {S : Nat → Prop} {w w' : World} {a : Addr} {v : Value} (hk : Keep S w w') (ha : ¬ S a.block) (h : w.cell? a = some v) : w'.cell? a = some v := by
  have hl := World.block_lt_of_cell? _ _ h
  rw [← h]
  unfold World.cell?
  simp only [hk.block a.block hl ha]
theorem keep_new {w w1 w2 : World} {b : Nat} {S : Nat → Prop} (h : Keep (fun k => k = b) w w1) (hk : Keep S w1 w2) (hs : ∀ k, S k → w.heap.size ≤ k ∨ k = b) : Keep (fun k => k = b) w w2 :=
  ⟨hk.os.trans h.os, hk.tape.trans h.tape, hk.output.trans h.output, Nat.le_trans h.size hk.size, fun k hl hn => (hk.block k (Nat.lt_of_lt_of_le hl h.size) (fun hS => by
    rcases hs k hS with h1 | h1
    · omega
    · exact hn h1)).trans (h.block k hl hn)⟩
theorem SrcK.other {w w1 w2 : World} {b : Nat} {ao : Option Addr} {n cap m m0 : Nat} {S : Nat → Prop} (h0 : SrcK w b ao n cap m0) (h : SrcK w1 b ao n cap m) (hw : Keep (fun k => k = b) w w2) (hk : Keep S w1 w2) (hs : ¬ S b) : SrcK w2 b ao n cap m := by
  obtain ⟨x0, y0, _, _, _, _, hblk0⟩ := h0.src
  obtain ⟨x, y, c0, c1, c2, c3, c4⟩ := h.src
  refine ⟨⟨x, y, c0, c1, c2, c3, ?_⟩, h0.bytes.keep hblk0 (fun z h => by cases h) hw⟩
  rw [hk.block b (Array.getElem?_eq_some_iff.1 c4).1 hs]; exact c4

theorem source_any (ao : Option Addr) (n cap : Nat) (w : World) (hn : n ≤ 1048576) (hB : Bs w ao n) :
    Calls Tryz.prog 18 #[.slice ao n cap] w fun e w' => e = .returned (.pointer (some ⟨w.heap.size, 0, none⟩)) ∧ SrcK w' w.heap.size ao n cap 0 ∧ Below w.heap.size w w' ∧ w'.heap.size = w.heap.size + 1 := by
  go_enter Tryz.func18, Tryz.ntmps18
  go_wp2
  go_ret
  exact ⟨rfl, ⟨⟨0, (n : Int) % 1000, by omega, by omega, by omega, by omega, heap_alloc_new w _⟩, hB.below (Joins.below_alloc1 _ _)⟩, Joins.below_alloc1 _ _, by simp⟩

theorem keep_drop {w w' : World} {b : Nat} (h : Keep (fun k => k = b ∨ w.heap.size ≤ k) w w') : Keep (fun k => k = b) w w' :=
  ⟨h.os, h.tape, h.output, h.size, fun k hl hn => h.block k hl (fun e => by
    rcases e with e | e
    · exact hn e
    · omega)⟩
theorem blk_keep {S : Nat → Prop} {w w' : World} {k : Nat} {o : Obj} (hk : Keep S w w') (hs : ¬ S k) (h : w.heap[k]? = some o) : w'.heap[k]? = some o := by
  rw [hk.block k (Array.getElem?_eq_some_iff.1 h).1 hs]; exact h
theorem blk_below {w w' : World} {k : Nat} {o : Obj} (hk : Below w.heap.size w w') (h : w.heap[k]? = some o) : w'.heap[k]? = some o := by
  rw [hk.block k (Array.getElem?_eq_some_iff.1 h).1]; exact h
theorem blk_lt {w : World} {k : Nat} {o : Obj} (h : w.heap[k]? = some o) : k < w.heap.size := (Array.getElem?_eq_some_iff.1 h).1

end Go.Proofs.YthnpooffhopnkacGreatDoor

/- Rows of numbers that a call made; ends of calls. -/
namespace Go.Proofs.YthnpooffhopnkacGreatDoor
open Go.RowKit
set_option linter.unusedVariables false

theorem infoM : (Tryz.prog.info? 3).map (fun i => (i.zero, i.size, i.bytes)) = some (some (.int .i64 0), 1, 8) := by kernel_rfl
theorem int_one (n : Int) : ∀ u ∈ [Value.int .i64 n], u.oneCell' = true := by
  intro u hu
  simp at hu
  subst hu
  rfl

/-- A row of numbers that the call made. -/
def OwnN (w : World) (B : Nat) (v : Value) (xs : List Int) : Prop := ∃ qo qa, v = .slice qo xs.length qa ∧ OwnR w B 3 1 (.slice qo xs.length qa) xs.length (intV xs)
theorem OwnN.below {w w' : World} {B : Nat} {v : Value} {xs : List Int} (h : OwnN w B v xs) (hb : Below w.heap.size w w') : OwnN w' B v xs := by
  obtain ⟨qo, qa, e, ho⟩ := h
  exact ⟨qo, qa, e, ho.below hb⟩
theorem OwnN.base {w : World} {B B' : Nat} {v : Value} {xs : List Int} (h : OwnN w B v xs) (hB : B' ≤ B) : OwnN w B' v xs := by
  obtain ⟨qo, qa, e, ho⟩ := h
  exact ⟨qo, qa, e, ho.base hB⟩
theorem OwnN.nil (w : World) (B : Nat) (ao : Option Addr) : OwnN w B (.slice ao 0 0) [] := ⟨ao, 0, rfl, .inl ⟨rfl, rfl, ao, rfl⟩⟩

theorem ret_nb {v u : Value} {a b : Bool} (h : v = u) (k : a = b) : Ending.returned (.tuple #[v, .bool a]) = .returned (.tuple #[u, .bool b]) := by rw [h, k]
theorem ret_ni {v u : Value} {a b : Int} (h : v = u) (k : a = b) : Ending.returned (.tuple #[v, .int .i64 a]) = .returned (.tuple #[u, .int .i64 b]) := by rw [h, k]

theorem ret_two2 {a b c d : Int} (h : a = b) (k : c = d) : Ending.returned (.tuple #[.int .i64 a, .int .i64 c]) = .returned (.tuple #[.int .i64 b, .int .i64 d]) := by rw [h, k]

theorem OwnN.setCell {w : World} {B : Nat} {v : Value} {xs : List Int} (h : OwnN w B v xs) {a : Addr} (ha : a.block < B) (u : Value) : OwnN (w.setCell a u) B v xs := by
  obtain ⟨qo, qa, e, ho⟩ := h
  exact ⟨qo, qa, e, ho.setCell ha u⟩

end Go.Proofs.YthnpooffhopnkacGreatDoor

/- Contracts of the model's drawn numbers: number, numbers, NumbersOf. -/
namespace Go.Proofs.YthnpooffhopnkacGreatDoor
open Go.RowKit
set_option linter.unusedVariables false
set_option maxRecDepth 100000

set_option maxHeartbeats 1600000 in
theorem number_k (b : Nat) (ao : Option Addr) (n cap m : Nat) (w : World) (hm : m ≤ 800000) (hn : n ≤ 1048576) (hs : SrcK w b ao n cap m) :
    Calls Tryz.prog 53 #[.pointer (some ⟨b, 0, none⟩)] w fun e w' => ∃ r : Int, e = .returned (.int .i64 r) ∧ 0 ≤ r ∧ r ≤ 2147483647 ∧ SrcK w' b ao n cap (m + 9) ∧ Keep (fun k => k = b) w w' := by
  have HS := hide hs
  clear hs
  go_enter Tryz.func53, Tryz.ntmps53
  go_wp2_with fail
  refine (next_k b ao n cap m 9 _ (by omega) (by omega) (by omega) hn (unhide HS)).mono ?_
  rintro e w1 ⟨r1, rfl, hr10, hr11, hs1, hk1⟩
  have HS1 := hide hs1
  have HK1 := hide hk1
  clear hs1 hk1
  go_wp2_with fail
  refine (next_k b ao n cap (m + 3) 70000 _ (by omega) (by omega) (by omega) hn (unhide HS1)).mono ?_
  rintro e w2 ⟨r2, rfl, hr20, hr21, hs2, hk2⟩
  have HS2 := hide (hs2.below (Joins.below_alloc1 _ (.cells #[.int .i64 r1, .int .i64 r2, .int .i64 2147483647] 3)))
  have HK2 := hide (((unhide HK1).trans hk2).trans (Keep.of_below (Joins.below_alloc1 _ (.cells #[.int .i64 r1, .int .i64 r2, .int .i64 2147483647] 3))))
  have hbl := hs2.lt
  clear hs2 hk2
  go_wp2_with fail
  refine (next_k b ao n cap (m + 3 + 3) 9 _ (by omega) (by omega) (by omega) hn (unhide HS2)).mono ?_
  rintro e w3 ⟨r3, rfl, hr30, hr31, hs3, hk3⟩
  have hcA := keep_cell (a := ⟨w2.heap.size, 0, none⟩) (v := .int .i64 r1) hk3 (by simp; omega) (by simp [go_sem])
  have hcB := keep_cell (a := ⟨w2.heap.size, 1, none⟩) (v := .int .i64 r2) hk3 (by simp; omega) (by simp [go_sem])
  have hcC := keep_cell (a := ⟨w2.heap.size, 2, none⟩) (v := .int .i64 2147483647) hk3 (by simp; omega) (by simp [go_sem])
  have HS3 := hide (hs3.more (m' := m + 9) (by omega))
  have HK3 := hide ((unhide HK2).trans hk3)
  clear hs3 hk3
  have hq : r3 / 4 = 0 ∨ r3 / 4 = 1 ∨ r3 / 4 = 2 := by omega
  rcases hq with hq | hq | hq
  · go_wp2
    go_ret
    exact ⟨r1, rfl, by omega, by omega, unhide HS3, unhide HK3⟩
  · go_wp2
    go_ret
    exact ⟨r2, rfl, by omega, by omega, unhide HS3, unhide HK3⟩
  · go_wp2
    go_ret
    exact ⟨2147483647, rfl, by omega, by omega, unhide HS3, unhide HK3⟩

end Go.Proofs.YthnpooffhopnkacGreatDoor

/- Plain facts on records, of no program: kinds, the text of a record. -/
namespace Go.Proofs.YthnpooffhopnkacGreatDoor
open Go.RowKit

theorem nums_append (a b : List Int) : strOfNums (a ++ b) = strOfNums a ++ strOfNums b := by
  apply ByteArray.ext
  simp [strOfNums]

def kindB (k : Int) : Bool := inB k 1 9
theorem kindB_in {k : Int} (h : kindB k = true) : 1 ≤ k ∧ k ≤ 9 := by simpa [kindB, inB] using h
theorem kindB_out {k : Int} (h : kindB k = false) : ¬ (1 ≤ k ∧ k ≤ 9) := by simpa [kindB, inB] using h
/-- What a record's sum is taken of, its sum, its text. -/
def sumT (k : Int) (xs : List Int) : ByteArray := strOfNums [k, xs.length] ++ packS xs
def sumR (k : Int) (xs : List Int) : Int := sumS (sumT k xs)
def headR (k : Int) (xs : List Int) : List Int := [k, xs.length, sumR k xs, 0]
def sealS (k : Int) (xs : List Int) : ByteArray := strOfNums (headR k xs) ++ packS xs
theorem sumT_size (k : Int) (xs : List Int) : (sumT k xs).size = 2 + xs.length * 4 := by rw [sumT, ByteArray.size_append, strOfNums_size, packS_size]; rfl
theorem sealS_size (k : Int) (xs : List Int) : (sealS k xs).size = 4 + xs.length * 4 := by rw [sealS, ByteArray.size_append, strOfNums_size, packS_size]; rfl
theorem sumR_in (k : Int) (xs : List Int) : 0 ≤ sumR k xs ∧ sumR k xs ≤ 250 := sumTo_in _ _
theorem sealS_parts (k : Int) (xs : List Int) : strOfNums [k, (xs.length : Int)] ++ strOfNums [sumR k xs, 0] ++ packS xs = sealS k xs := by
  rw [← nums_append]; rfl

/-- The code of a record that is to be sealed, its text. -/
def sealC (k : Int) (xs : List Int) : Int := if listC xs = 0 then (if kindB k = true then 0 else 4) else listC xs
def sealT (k : Int) (xs : List Int) : ByteArray := if sealC k xs = 0 then sealS k xs else ⟨#[]⟩
theorem sealC_list {k : Int} {xs : List Int} (h : listC xs ≠ 0) : sealC k xs = listC xs := if_neg h
theorem sealC_kind {k : Int} {xs : List Int} (h : listC xs = 0) (hk : kindB k = false) : sealC k xs = 4 := by rw [sealC, if_pos h, if_neg (by simp [hk])]
theorem sealC_ok {k : Int} {xs : List Int} (h : listC xs = 0) (hk : kindB k = true) : sealC k xs = 0 := by rw [sealC, if_pos h, if_pos hk]
theorem sealT_ok {k : Int} {xs : List Int} (h : sealC k xs = 0) : sealT k xs = sealS k xs := if_pos h
theorem sealT_no {k : Int} {xs : List Int} (h : sealC k xs ≠ 0) : sealT k xs = ⟨#[]⟩ := if_neg h

end Go.Proofs.YthnpooffhopnkacGreatDoor

/- Contracts of SumOf, of the program and of its model. -/
namespace Go.Proofs.YthnpooffhopnkacGreatDoor
open Go.RowKit
set_option linter.unusedVariables false
set_option maxRecDepth 100000

theorem l02Sum_any (s : ByteArray) (w : World) (hs : s.size ≤ 1048576) :
    Calls Tryz.prog 116 #[.string s] w fun e w' => e = .returned (.int .i64 (sumS s)) ∧ w' = w := by
  go_enter Tryz.func116, Tryz.ntmps116
  go_wp2
  go_loop [3, 4] (fun n i => ∃ k : Nat, k ≤ s.size ∧ i = .int .i64 k ∧ n = .int .i64 (sumTo s k)) (fun _ i => s.size - (intOf i).toNat)
  case atStart => exact ⟨0, Nat.zero_le _, rfl, rfl⟩
  case round =>
    obtain ⟨k, hk, rfl, rfl⟩ := hrel
    by_cases hlt : k < s.size
    · have HN := hide (sumTo_walk hlt (by omega))
      go_wp2
      go_round
      case rel => exact ⟨k + 1, by omega, by go_num, by rw [← unhide HN]⟩
      case measure => simp [intOf]; omega
    · go_wp2
      go_ret
      exact ⟨ret_int (by rw [sumS, show k = s.size by omega]), rfl⟩

theorem sumOf_impl (s : ByteArray) (w : World) (hs : s.size ≤ 1048576) :
    Calls Tryz.prog 134 #[.string s] w fun e w' => e = .returned (.int .i64 (sumC s)) ∧ w' = w := by
  by_cases h1 : 65536 < s.size
  · have HF := hide (sumC_long h1)
    go_enter Tryz.func134, Tryz.ntmps134
    go_wp2
    go_ret
    exact ⟨ret_int (unhide HF).symm, rfl⟩
  have HF := hide (sumC_short (s := s) (by omega))
  go_enter Tryz.func134, Tryz.ntmps134
  go_wp2
  go_loop [3, 4] (fun n i => ∃ k : Nat, k ≤ s.size ∧ i = .int .i64 k ∧ n = .int .i64 (sumTo s k)) (fun _ i => s.size - (intOf i).toNat)
  case atStart => exact ⟨0, Nat.zero_le _, rfl, rfl⟩
  case round =>
    obtain ⟨k, hk, rfl, rfl⟩ := hrel
    by_cases hlt : k < s.size
    · have HN := hide (sumTo_walk hlt (by omega))
      go_wp2
      go_round
      case rel => exact ⟨k + 1, by omega, by go_num, by rw [← unhide HN]⟩
      case measure => simp [intOf]; omega
    · go_wp2
      go_ret
      exact ⟨ret_int (by rw [unhide HF, sumS, show k = s.size by omega]), rfl⟩

end Go.Proofs.YthnpooffhopnkacGreatDoor

/- Contracts of spec.l02Pack and impl.packNumbers. -/
namespace Go.Proofs.YthnpooffhopnkacGreatDoor
open Go.RowKit
set_option linter.unusedVariables false

theorem infoB : (Tryz.prog.info? 5).map (fun i => (i.zero, i.size, i.bytes)) = some (some (.int .u8 0), 1, 1) := by kernel_rfl

theorem ret_str {a b : ByteArray} (h : a = b) : Ending.returned (.string a) = .returned (.string b) := by rw [h]

set_option maxRecDepth 100000 in
set_option maxHeartbeats 1600000 in
theorem l02Pack_any (ao : Option Addr) (cap : Nat) (xs : List Int) (w : World) (hl : xs.length ≤ 4096) (hn : ∀ j (h : j < xs.length), 0 ≤ xs[j] ∧ xs[j] ≤ 2147483647) (hc : Is w ao xs) :
    Calls Tryz.prog 115 #[.slice ao xs.length cap] w fun e w' => e = .returned (.string (packS xs)) ∧ Below w.heap.size w w' := by
  have HC := hide hc
  have HN := hide hn
  clear hc hn
  obtain ⟨j0, hj, hy0, hy1, hy2⟩ := info_parts infoB
  go_enter Tryz.func115, Tryz.ntmps115
  go_wp2
  go_loopw [3, 4] (fun o i wr => ∃ (k : Nat) (qo : Option Addr) (qa : Nat), k ≤ xs.length ∧ i = .int .i64 k ∧ o = .slice qo (k * 4) qa ∧ Hid (OwnR wr w.heap.size 5 1 (.slice qo (k * 4) qa) (k * 4) (byteV (packL (xs.take k)))) ∧ Hid (Below w.heap.size w wr)) (fun _ i _ => xs.length - (intOf i).toNat)
  case atStart => exact ⟨0, _, _, Nat.zero_le _, rfl, rfl, hide (.inl ⟨rfl, rfl, _, rfl⟩), hide (by first | exact Below.refl _ _ | exact Joins.below_alloc1 _ _)⟩
  case round =>
    obtain ⟨k, qo, qa, hk, rfl, rfl, HO, HB⟩ := hrel
    by_cases hlt : k < xs.length
    · obtain ⟨b, off, rfl, hc⟩ := (unhide HC).below (unhide HB) k hlt
      obtain ⟨h0, h1⟩ := unhide HN k hlt
      go_wp2
      go_loopw [3, 5, 6] (fun o m i wq => ∃ (j : Nat) (qo : Option Addr) (qa : Nat), j ≤ 4 ∧ i = .int .i64 j ∧ m = .int .i64 (shN xs[k] j) ∧ o = .slice qo (k * 4 + j) qa ∧ Hid (OwnR wq w.heap.size 5 1 (.slice qo (k * 4 + j) qa) (k * 4 + j) (byteV (packL (xs.take k) ++ fourTo xs[k] j))) ∧ Hid (Below w.heap.size w wq)) (fun _ _ i _ => 4 - (intOf i).toNat)
      case atStart => exact ⟨0, qo, qa, by omega, rfl, by simp [shN], rfl, hide (by simpa [fourTo] using unhide HO), HB⟩
      case round =>
        clear HO HB
        obtain ⟨j, qo, qa, hj4, rfl, rfl, rfl, HO, HB⟩ := hrel
        obtain ⟨hs0, hs1⟩ := shN_in h0 h1 j
        by_cases hj4 : j < 4
        · have HOA := hide ((unhide HO).below (Joins.below_alloc1 _ (.cells #[.int .u8 (shN xs[k] j % 256)] 5)))
          have HBA := hide (fr (unhide HB) (Joins.below_alloc1 _ (.cells #[.int .u8 (shN xs[k] j % 256)] 5)))
          have HSZ := hide (unhide HB).size
          have HSH := hide (shN_succ xs[k] j)
          go_wp2_with (at_builtin; refine wpList_append_one rfl _ _ 22 rfl w.heap.size 5 j0 (.int .u8 0) 1 1 Tryz.underlying22 hj hy0 hy1 hy2 rfl (by omega) qo (k * 4 + j) qa (byteV (packL (xs.take k) ++ fourTo xs[k] j)) rfl (unhide HOA) (by have := unhide HSZ; simp; omega) ⟨wr.heap.size, 0, none⟩ _ [.int .u8 (shN xs[k] j % 256)] rfl rfl (byte_news wr _ _) (byte_one _) (by unfold maxLen; omega) (by omega) ?_; intro g2 cap2 wA hoA hkA; have HSF := hide (And.intro hoA (keep_below (unhide HBA) (unhide HOA) (Nat.le_refl _) hkA)); clear hoA hkA)
          go_roundw
          case rel => exact ⟨j + 1, _, _, by omega, by go_num, by rw [unhide HSH], rfl, hide (.inr ⟨by omega, by rw [fourTo_succ, ← List.append_assoc, byteV_snoc, ← shN_byte]; exact (unhide HSF).1⟩), hide (unhide HSF).2⟩
          case measure => simp [intOf]; omega
        · have HE : Hid (j = 4) := hide (by omega)
          go_wp2
          go_roundw
          case rel => exact ⟨k + 1, qo, qa, by omega, by go_num, by rw [unhide HE, show (k + 1) * 4 = k * 4 + 4 by omega], hide (by have := unhide HO; rw [unhide HE] at this; rw [packL_succ hlt, show (k + 1) * 4 = k * 4 + 4 by omega]; exact this), HB⟩
          case measure => simp [intOf]; omega
    · have HE : Hid (xs.take k = xs) := hide (List.take_of_length_le (by omega))
      have hcv := convert_own (P := Tryz.prog) Tryz.underlying22 Tryz.underlying5 Tryz.underlying9 (unhide HO)
      go_wp2
      go_ret
      exact ⟨ret_str (by rw [unhide HE]; rfl), unhide HB⟩

end Go.Proofs.YthnpooffhopnkacGreatDoor

/- Contracts of the model's l02Kind, l02Seal. -/
namespace Go.Proofs.YthnpooffhopnkacGreatDoor
open Go.RowKit
set_option linter.unusedVariables false
set_option maxRecDepth 100000

/-- 'string([]byte{a, b})'. -/
theorem lit2 (W : World) (g : Nat) (a b : Int) (h : W.heap.size = g) : (convert 22 9 (.slice (some ⟨g, 0, none⟩) 2 2)).run Tryz.prog (W.alloc (.cells #[.int .u8 a, .int .u8 b] 5)) = .ok (.string (strOfNums [a, b])) (W.alloc (.cells #[.int .u8 a, .int .u8 b] 5)) := by
  subst h
  refine run_convert_bytes_arg _ 22 5 Tryz.underlying22 Tryz.underlying5 W.heap.size 0 2 2 [a, b] rfl ?_ 9 Tryz.underlying9
  intro i hi
  rcases (show i = 0 ∨ i = 1 by omega) with rfl | rfl <;> simp [go_sem, List.getD]

theorem sum_spec (k : Int) (xs : List Int) (w : World) (hl : xs.length ≤ 16) : Calls Tryz.prog 116 #[.string (strOfNums [k, (xs.length : Int)] ++ packS xs)] w fun e w' => e = .returned (.int .i64 (sumR k xs)) ∧ w' = w :=
  l02Sum_any (sumT k xs) w (by rw [sumT_size]; omega)
set_option maxHeartbeats 1600000 in
theorem l02Seal_any (k : Int) (ao : Option Addr) (cap : Nat) (xs : List Int) (w : World) (hk : 1 ≤ k ∧ k ≤ 9) (hl : xs.length ≤ 16) (hn : ∀ j (h : j < xs.length), 0 ≤ xs[j] ∧ xs[j] ≤ 2147483647) (hc : Is w ao xs) :
    Calls Tryz.prog 69 #[.int .i64 k, .slice ao xs.length cap] w fun e w' => e = .returned (.string (sealS k xs)) ∧ Below w.heap.size w w' := by
  have HC := hide hc
  have HN := hide hn
  clear hc hn
  have hp := packS_size xs
  have hs2 : (strOfNums [k, (xs.length : Int)]).size = 2 := strOfNums_size _
  go_enter Tryz.func69, Tryz.ntmps69
  go_wp2_with fail
  refine (l02Pack_any _ _ xs _ (by omega) (unhide HN) (unhide HC)).mono ?_
  rintro e w1 ⟨rfl, hb1⟩
  have HB1 := hide hb1
  have hc1 := lit2 w1 w1.heap.size k xs.length rfl
  clear hb1
  go_wp2_with fail
  refine (sum_spec k xs _ hl).mono ?_
  rintro e w2 ⟨rfl, rfl⟩
  obtain ⟨hr0, hr1⟩ := sumR_in k xs
  have hc2 := lit2 (w1.alloc (.cells #[.int .u8 k, .int .u8 xs.length] 5)) (w1.heap.size + 1) (sumR k xs) 0 (by simp)
  have hs3 : (strOfNums [sumR k xs, 0]).size = 2 := strOfNums_size _
  have hs4 : (strOfNums [k, (xs.length : Int)] ++ strOfNums [sumR k xs, 0]).size = 4 := by rw [ByteArray.size_append, hs2, hs3]
  have HE := hide (sealS_parts k xs)
  go_wp2
  go_ret
  exact ⟨ret_str (unhide HE), fr (unhide HB1) (Joins.below_alloc2 _ _ _)⟩

end Go.Proofs.YthnpooffhopnkacGreatDoor

/- Plain facts on records, of no program: when a text is just one. -/
namespace Go.Proofs.YthnpooffhopnkacGreatDoor
open Go.RowKit
set_option linter.unusedVariables false

theorem byteAt_list (s : ByteArray) (k : Nat) : byteAt s k = ((s.data.toList[k]?.getD 0).toNat : Int) := by simp [byteAt]
theorem list_eq {a b : ByteArray} (h : a.data.toList = b.data.toList) : a = b := by
  cases a; cases b
  simpa using Array.toList_inj.1 h
theorem size_list (s : ByteArray) : s.data.toList.length = s.size := by simp
/-- Two texts of one length with alike bytes are one. -/
theorem bytes_eq {a b : ByteArray} (hs : a.size = b.size) (h : ∀ k, k < a.size → byteAt a k = byteAt b k) : a = b := by
  apply list_eq
  apply List.ext_getElem
  · rw [size_list, size_list, hs]
  · intro i h1 h2
    rw [size_list] at h1
    have := h i h1
    rw [byteAt_list, byteAt_list, List.getElem?_eq_getElem (by rw [size_list]; exact h1), List.getElem?_eq_getElem h2] at this
    simp only [Option.getD_some] at this
    exact UInt8.toNat_inj.1 (by omega)
theorem byteAt_nums {ns : List Int} {k : Nat} (h : k < ns.length) (h0 : 0 ≤ ns[k]) (h1 : ns[k] ≤ 255) : byteAt (strOfNums ns) k = ns[k] := by
  rw [byteAt_list, strOfNums_data, List.getElem?_map, List.getElem?_eq_getElem h]
  simp only [Option.map_some, Option.getD_some]
  have : ns[k].toNat < 256 := by omega
  rw [UInt8.toNat_ofNat_of_lt' (by simpa using this)]
  omega
theorem byteAt_left {a b : ByteArray} {k : Nat} (h : k < a.size) : byteAt (a ++ b) k = byteAt a k := by
  have e : (a ++ b).data.toList = a.data.toList ++ b.data.toList := by simp
  rw [byteAt_list, byteAt_list, e, List.getElem?_append_left (by rw [size_list]; exact h)]
theorem byteAt_right {a b : ByteArray} {k : Nat} (h : a.size ≤ k) : byteAt (a ++ b) k = byteAt b (k - a.size) := by
  have e : (a ++ b).data.toList = a.data.toList ++ b.data.toList := by simp
  rw [byteAt_list, byteAt_list, e, List.getElem?_append_right (by rw [size_list]; exact h), size_list]
theorem byteAt_cut {u : ByteArray} {a b j : Nat} (hb : b ≤ u.size) (h : a + j < b) : byteAt (u.extract a b) j = byteAt u (a + j) := by
  have e : (u.extract a b).data = u.data.extract a b := by simp
  unfold byteAt
  have : j < min b u.data.size - a := by have : b ≤ u.data.size := hb; omega
  rw [e, Array.getElem?_extract, if_pos this]

/-- The head and the body of a text. -/
def bodyT (s : ByteArray) : ByteArray := s.extract 4 s.size
def headT (s : ByteArray) : ByteArray := s.extract 0 2
theorem bodyT_size (s : ByteArray) : (bodyT s).size = s.size - 4 := by simp [bodyT]
theorem headT_size {s : ByteArray} (h : 4 ≤ s.size) : (headT s).size = 2 := by simp [headT]; omega
theorem headT_eq {s : ByteArray} (h : 4 ≤ s.size) : headT s = strOfNums [byteAt s 0, byteAt s 1] := by
  have h0 := byteAt_in s 0
  have h1 := byteAt_in s 1
  apply bytes_eq
  · rw [headT_size h, strOfNums_size]; rfl
  · intro k hk
    rw [headT_size h] at hk
    rw [headT, byteAt_cut (by omega) (by omega)]
    rcases (show k = 0 ∨ k = 1 by omega) with rfl | rfl
    · rw [byteAt_nums (by simp) (by simp; omega) (by simp; omega)]; simp
    · rw [byteAt_nums (by simp) (by simp; omega) (by simp; omega)]; simp
theorem bodyT_byte {s : ByteArray} {k : Nat} (h : 4 + k < s.size) : byteAt (bodyT s) k = byteAt s (4 + k) := by rw [bodyT, byteAt_cut (Nat.le_refl _) h]

/-- Numbers that are read are packed as they were. -/
theorem four_num (s : ByteArray) (i j : Nat) (hj : j < 4) : byteN (numAt s i) j = byteAt s (i + j) := by
  have h0 := byteAt_in s i
  have h1 := byteAt_in s (i + 1)
  have h2 := byteAt_in s (i + 2)
  have h3 := byteAt_in s (i + 3)
  unfold byteN numAt
  rcases (show j = 0 ∨ j = 1 ∨ j = 2 ∨ j = 3 by omega) with rfl | rfl | rfl | rfl
  · simp only [Nat.add_zero]; omega
  · show (byteAt s i + byteAt s (i + 1) * 256 + byteAt s (i + 2) * 65536 + byteAt s (i + 3) * 16777216) / 256 % 256 = _; omega
  · show (byteAt s i + byteAt s (i + 1) * 256 + byteAt s (i + 2) * 65536 + byteAt s (i + 3) * 16777216) / 65536 % 256 = _; omega
  · show (byteAt s i + byteAt s (i + 1) * 256 + byteAt s (i + 2) * 65536 + byteAt s (i + 3) * 16777216) / 16777216 % 256 = _; omega
theorem packL_at : ∀ (xs : List Int) (i j : Nat) (hi : i < xs.length) (hj : j < 4), (packL xs)[i * 4 + j]? = some (byteN xs[i] j)
  | [], i, _, hi, _ => absurd hi (Nat.not_lt_zero _)
  | x :: xs, 0, j, _, hj => by
    show (four x ++ packL xs)[0 * 4 + j]? = _
    rw [List.getElem?_append_left (by rw [four, fourTo_length]; omega)]
    simp [four, fourTo, hj]
  | x :: xs, i + 1, j, hi, hj => by
    show (four x ++ packL xs)[(i + 1) * 4 + j]? = _
    rw [List.getElem?_append_right (by rw [four, fourTo_length]; omega), four, fourTo_length, show (i + 1) * 4 + j - 4 = i * 4 + j by omega]
    have := packL_at xs i j (by simpa using hi) hj
    simpa using this
theorem pack_un {s : ByteArray} (h4 : s.size % 4 = 0) : packS (unL s) = s := by
  apply bytes_eq
  · rw [packS_size, unL_length]; omega
  · intro k hk
    rw [packS_size, unL_length] at hk
    have hq : k / 4 < (unL s).length := by rw [unL_length]; omega
    have h1 := packL_at (unL s) (k / 4) (k % 4) hq (by omega)
    rw [show k / 4 * 4 + k % 4 = k by omega, unL_get hq, four_num s _ _ (by omega), show k / 4 * 4 + k % 4 = k by omega] at h1
    obtain ⟨hkl, h2⟩ := List.getElem?_eq_some_iff.1 h1
    have hb := byteAt_in s k
    rw [packS, byteAt_nums hkl (by rw [h2]; omega) (by rw [h2]; omega), h2]

/-- A text is just one record. -/
def RecP (s : ByteArray) : Prop := 4 ≤ s.size ∧ kindB (byteAt s 0) = true ∧ byteAt s 3 = 0 ∧ ((bodyT s).size : Int) = byteAt s 1 * 4 ∧ byteAt s 2 = sumS (headT s ++ bodyT s) ∧ okU (bodyT s) = true
def recB (s : ByteArray) : Bool := decide (4 ≤ s.size) && (kindB (byteAt s 0) && (decide (byteAt s 3 = 0) && (decide (((bodyT s).size : Int) = byteAt s 1 * 4) && (decide (byteAt s 2 = sumS (headT s ++ bodyT s)) && okU (bodyT s)))))
theorem recB_iff {s : ByteArray} : recB s = true ↔ RecP s := by simp only [recB, RecP, Bool.and_eq_true, decide_eq_true_eq]
theorem recB_true {s : ByteArray} (h : RecP s) : recB s = true := recB_iff.2 h
theorem recB_false {s : ByteArray} (h : ¬ RecP s) : recB s = false := by
  rw [← Bool.not_eq_true]
  exact fun e => h (recB_iff.1 e)

theorem okU_parts {s : ByteArray} (h : okU s = true) : s.size % 4 = 0 ∧ s.size ≤ 64 ∧ intsB (unL s) = true := by
  by_cases h4 : s.size % 4 = 0
  · by_cases hl : 64 < s.size
    · rw [okU_long hl] at h; cases h
    · rw [okU_even h4] at h; exact ⟨h4, by omega, h⟩
  · rw [okU_rest h4] at h; cases h

/-- The model's test: what comes of the numbers is the text. -/
theorem seal_iff {s : ByteArray} (hs : 4 ≤ s.size) (hk : kindB (byteAt s 0) = true) (hu : okU (bodyT s) = true) : sealS (byteAt s 0) (unL (bodyT s)) = s ↔ RecP s := by
  obtain ⟨h4, h64, hints⟩ := okU_parts hu
  have hp := pack_un h4
  have hl := unL_length (bodyT s)
  have hbs := bodyT_size s
  have hk' := kindB_in hk
  have hr := sumR_in (byteAt s 0) (unL (bodyT s))
  have hz := sealS_size (byteAt s 0) (unL (bodyT s))
  have b1 := byteAt_in s 1
  have hhs : (strOfNums (headR (byteAt s 0) (unL (bodyT s)))).size = 4 := strOfNums_size _
  have hhead : ∀ j (hj : j < 4), byteAt (sealS (byteAt s 0) (unL (bodyT s))) j = (headR (byteAt s 0) (unL (bodyT s)))[j]'(by simpa [headR] using hj) := by
    intro j hj
    rw [sealS, byteAt_left (by rw [hhs]; exact hj), byteAt_nums]
    · rcases (show j = 0 ∨ j = 1 ∨ j = 2 ∨ j = 3 by omega) with rfl | rfl | rfl | rfl <;> simp [headR] <;> omega
    · rcases (show j = 0 ∨ j = 1 ∨ j = 2 ∨ j = 3 by omega) with rfl | rfl | rfl | rfl <;> simp [headR] <;> omega
  have hrest : ∀ j, 4 ≤ j → byteAt (sealS (byteAt s 0) (unL (bodyT s))) j = byteAt (bodyT s) (j - 4) := by
    intro j hj
    rw [sealS, byteAt_right (by rw [hhs]; exact hj), hhs, hp]
  constructor
  · intro e
    have e1 := hhead 1 (by omega)
    have e2 := hhead 2 (by omega)
    have e3 := hhead 3 (by omega)
    rw [e] at e1 e2 e3
    simp only [headR, List.getElem_cons_succ, List.getElem_cons_zero] at e1 e2 e3
    refine ⟨hs, hk, e3, by omega, ?_, hu⟩
    rw [e2, sumR, sumT, hp, headT_eq hs, e1]
  · rintro ⟨_, _, h3, hcnt, hsum, _⟩
    have hlen : (((unL (bodyT s)).length : Nat) : Int) = byteAt s 1 := by omega
    have hsr : sumR (byteAt s 0) (unL (bodyT s)) = byteAt s 2 := by rw [sumR, sumT, hp, hlen, ← headT_eq hs, hsum]
    apply bytes_eq
    · rw [hz]; omega
    · intro k hk2
      rw [hz] at hk2
      by_cases hk4 : k < 4
      · rw [hhead k hk4]
        rcases (show k = 0 ∨ k = 1 ∨ k = 2 ∨ k = 3 by omega) with rfl | rfl | rfl | rfl
        · simp [headR]
        · simp [headR, hlen]
        · simp [headR, hsr]
        · simp [headR, h3]
      · rw [hrest k (by omega), bodyT_byte (by omega), show 4 + (k - 4) = k by omega]

/-- The codes and what comes of records. -/
def opC (s : ByteArray) (k : Int) : Int := if 65536 < s.size then 2 else if kindB k = true then (if recB s = true ∧ byteAt s 0 = k then 0 else 3) else 4
def opR (s : ByteArray) (k : Int) : List Int := if opC s k = 0 then unL (bodyT s) else []
def kdC (s : ByteArray) : Int := if 65536 < s.size then 2 else if recB s = true then 0 else 3
def kdR (s : ByteArray) : Int := if kdC s = 0 then byteAt s 0 else 0
theorem opC_long {s : ByteArray} {k : Int} (h : 65536 < s.size) : opC s k = 2 := if_pos h
theorem opC_kind {s : ByteArray} {k : Int} (h : ¬ 65536 < s.size) (hk : kindB k = false) : opC s k = 4 := by rw [opC, if_neg h, if_neg (by simp [hk])]
theorem opC_ok {s : ByteArray} {k : Int} (h : ¬ 65536 < s.size) (hk : kindB k = true) (hr : recB s = true) (he : byteAt s 0 = k) : opC s k = 0 := by rw [opC, if_neg h, if_pos hk, if_pos ⟨hr, he⟩]
theorem opC_no {s : ByteArray} {k : Int} (h : ¬ 65536 < s.size) (hk : kindB k = true) (hr : ¬ (recB s = true ∧ byteAt s 0 = k)) : opC s k = 3 := by rw [opC, if_neg h, if_pos hk, if_neg hr]
theorem opR_ok {s : ByteArray} {k : Int} (h : opC s k = 0) : opR s k = unL (bodyT s) := if_pos h
theorem opR_no {s : ByteArray} {k : Int} (h : opC s k ≠ 0) : opR s k = [] := if_neg h
theorem kdC_long {s : ByteArray} (h : 65536 < s.size) : kdC s = 2 := if_pos h
theorem kdC_ok {s : ByteArray} (h : ¬ 65536 < s.size) (hr : recB s = true) : kdC s = 0 := by rw [kdC, if_neg h, if_pos hr]
theorem kdC_no {s : ByteArray} (h : ¬ 65536 < s.size) (hr : recB s = false) : kdC s = 3 := by rw [kdC, if_neg h, if_neg (by simp [hr])]
theorem kdR_ok {s : ByteArray} (h : kdC s = 0) : kdR s = byteAt s 0 := if_pos h
theorem kdR_no {s : ByteArray} (h : kdC s ≠ 0) : kdR s = 0 := if_neg h

end Go.Proofs.YthnpooffhopnkacGreatDoor

/- Contract of spec.l02Unpack. -/
namespace Go.Proofs.YthnpooffhopnkacGreatDoor
open Go.RowKit
set_option linter.unusedVariables false
set_option maxRecDepth 100000

end Go.Proofs.YthnpooffhopnkacGreatDoor

/- Contracts of the model's readers of records: l02Open, OpenRecord, KindOf. -/
namespace Go.Proofs.YthnpooffhopnkacGreatDoor
open Go.RowKit
set_option linter.unusedVariables false
set_option maxRecDepth 100000

/-- What l02Open answers. -/
def openB (s : ByteArray) (k : Int) : Bool := recB s && decide (byteAt s 0 = k)
def openL (s : ByteArray) (k : Int) : List Int := if openB s k = true then unL (bodyT s) else []
theorem openB_no {s : ByteArray} {k : Int} (h : ¬ RecP s) : openB s k = false := by rw [openB, recB_false h]; rfl
theorem openB_kind {s : ByteArray} {k : Int} (h : byteAt s 0 ≠ k) : openB s k = false := by rw [openB, decide_eq_false h]; simp
theorem openB_yes {s : ByteArray} {k : Int} (h : RecP s) (hk : byteAt s 0 = k) : openB s k = true := by rw [openB, recB_true h, decide_eq_true hk]; rfl
theorem openL_no {s : ByteArray} {k : Int} (h : openB s k = false) : openL s k = [] := if_neg (by simp [h])
theorem openL_yes {s : ByteArray} {k : Int} (h : openB s k = true) : openL s k = unL (bodyT s) := if_pos h

end Go.Proofs.YthnpooffhopnkacGreatDoor

/- Contracts of DiskOK, of the program and of its model: both answer one plain function of the disk. -/
namespace Go.Proofs.YthnpooffhopnkacGreatDoor
open Go.RowKit
set_option linter.unusedVariables false
set_option maxRecDepth 100000

theorem l01In_any (n low high : Int) (w : World) : Calls Tryz.prog 85 #[.int .i64 n, .int .i64 low, .int .i64 high] w fun e w' => e = .returned (.bool (inB n low high)) ∧ w' = w := by
  go_enter Tryz.func85, Tryz.ntmps85
  go_wp2
  all_goals
    go_ret
    exact ⟨ret_bool (by rw [Bool.eq_iff_iff]; simp [inB]; omega), rfl⟩

theorem hostOK_any (n : Int) (w : World) : Calls Tryz.prog 71 #[.int .i64 n] w fun e w' => e = .returned (.bool (inB n 0 3)) ∧ w' = w := by
  go_enter Tryz.func71, Tryz.ntmps71
  go_wp2
  all_goals
    go_ret
    exact ⟨ret_bool (by rw [Bool.eq_iff_iff]; simp [inB]; omega), rfl⟩

theorem placeOK_any (n : Int) (w : World) : Calls Tryz.prog 119 #[.int .i64 n] w fun e w' => e = .returned (.bool (inB n 0 63)) ∧ w' = w := by
  go_enter Tryz.func119, Tryz.ntmps119
  go_wp2
  all_goals
    go_ret
    exact ⟨ret_bool (by rw [Bool.eq_iff_iff]; simp [inB]; omega), rfl⟩

set_option maxHeartbeats 800000 in
theorem sectorsOK_any (ao : Option Addr) (cap : Nat) (ss : List ByteArray) (w : World) (hl : ss.length ≤ maxLen) (hc : Ss w ao ss) :
    Calls Tryz.prog 117 #[.slice ao ss.length cap] w fun e w' => e = .returned (.bool (secB ss)) ∧ w' = w := by
  have HC := hide hc
  clear hc
  unfold maxLen at hl
  by_cases hle : ss.length = 64
  · have hb : ((ss.length : Int) != 64) = false := by simp; omega
    have HLE := hide hle
    clear hle
    go_enter Tryz.func117, Tryz.ntmps117
    go_wp2
    go_loop [4, 10] (fun _ i => ∃ k : Nat, k ≤ ss.length ∧ i = .int .i64 k ∧ Hid (∀ j (h : j < ss.length), j < k → decide (ss[j].size ≤ 80) = true)) (fun _ i => ss.length - (intOf i).toNat)
    case atStart => exact ⟨0, Nat.zero_le _, rfl, hide (fun j _ h => by omega)⟩
    case round =>
      obtain ⟨k, hk, rfl, HA⟩ := hrel
      by_cases hlt : k < ss.length
      · obtain ⟨b, off, rfl, hc, hz⟩ := unhide HC k hlt
        unfold maxLen at hz
        by_cases hs : 80 < ss[k].size
        · have H := hide (secB_false_at hlt hs)
          go_wp2
          go_ret
          exact ⟨ret_bool (unhide H).symm, rfl⟩
        · have HN := hide (all_succ (p := fun s : ByteArray => decide (s.size ≤ 80)) hlt (unhide HA) (by simp; omega))
          go_wp2
          go_round
          case rel => exact ⟨k + 1, by omega, by go_num, HN⟩
          case measure => simp [intOf]; omega
      · have H := hide (secB_true (unhide HLE) (fun j h => unhide HA j h (by omega)))
        go_wp2
        go_ret
        exact ⟨ret_bool (unhide H).symm, rfl⟩
  · have hb : ((ss.length : Int) != 64) = true := by simp; omega
    have H := hide (secB_false_len hle)
    clear hle
    go_enter Tryz.func117, Tryz.ntmps117
    go_wp2
    go_ret
    exact ⟨ret_bool (unhide H).symm, rfl⟩

set_option maxHeartbeats 1600000 in
theorem pendingOK_any (ao : Option Addr) (cap : Nat) (xs : List Wr) (w : World) (hl : xs.length ≤ maxLen) (hc : Ios w ao xs) :
    Calls Tryz.prog 118 #[.slice ao xs.length cap] w fun e w' => e = .returned (.bool (penB xs)) ∧ Below w.heap.size w w' := by
  have HC := hide hc
  clear hc
  unfold maxLen at hl
  by_cases hle : 200 < xs.length
  · have H := hide (penB_false_len (xs := xs) (by omega))
    go_enter Tryz.func118, Tryz.ntmps118
    go_wp2
    go_ret
    exact ⟨ret_bool (unhide H).symm, Below.refl _ _⟩
  go_enter Tryz.func118, Tryz.ntmps118
  go_wp2
  go_loopw [4, 10] (fun _ i wr => ∃ k : Nat, k ≤ xs.length ∧ i = .int .i64 k ∧ Hid (∀ j (h : j < xs.length), j < k → ioB xs[j] = true) ∧ Hid (Below w.heap.size w wr)) (fun _ i _ => xs.length - (intOf i).toNat)
  case atStart => exact ⟨0, Nat.zero_le _, rfl, hide (fun j _ h => by omega), hide (Below.refl _ _)⟩
  case round =>
    obtain ⟨k, hk, rfl, HA, HB⟩ := hrel
    by_cases hlt : k < xs.length
    · obtain ⟨b, off, rfl, hc0, hc1, hc2, hz⟩ := (unhide HC).below (unhide HB) k hlt
      unfold maxLen at hz
      have HE := hide (ioB_eq xs[k])
      have HBA := hide (fun o => (unhide HB).alloc (unhide HB).size o)
      cases h0 : inB xs[k].host 0 3
      · have H := hide (penB_false_at hlt (by rw [unhide HE, h0]; rfl))
        go_wp2_with (first | (go_at_call 71; refine (hostOK_any _ _).mono ?_; rintro e w' ⟨rfl, rfl⟩) | (go_at_call 119; refine (placeOK_any _ _).mono ?_; rintro e w' ⟨rfl, rfl⟩))
        go_ret
        exact ⟨ret_bool (unhide H).symm, unhide HBA _⟩
      · cases h1 : inB xs[k].at_ 0 63
        · have H := hide (penB_false_at hlt (by rw [unhide HE, h0, h1]; rfl))
          go_wp2_with (first | (go_at_call 71; refine (hostOK_any _ _).mono ?_; rintro e w' ⟨rfl, rfl⟩) | (go_at_call 119; refine (placeOK_any _ _).mono ?_; rintro e w' ⟨rfl, rfl⟩))
          go_ret
          exact ⟨ret_bool (unhide H).symm, unhide HBA _⟩
        · by_cases hs : 80 < xs[k].data.size
          · have H := hide (penB_false_at hlt (by rw [unhide HE, h0, h1]; simp; omega))
            go_wp2_with (first | (go_at_call 71; refine (hostOK_any _ _).mono ?_; rintro e w' ⟨rfl, rfl⟩) | (go_at_call 119; refine (placeOK_any _ _).mono ?_; rintro e w' ⟨rfl, rfl⟩))
            go_ret
            exact ⟨ret_bool (unhide H).symm, unhide HBA _⟩
          · have HN := hide (all_succ (p := ioB) hlt (unhide HA) (by rw [unhide HE, h0, h1]; simp; omega))
            go_wp2_with (first | (go_at_call 71; refine (hostOK_any _ _).mono ?_; rintro e w' ⟨rfl, rfl⟩) | (go_at_call 119; refine (placeOK_any _ _).mono ?_; rintro e w' ⟨rfl, rfl⟩))
            go_roundw
            case rel => exact ⟨k + 1, by omega, by go_num, HN, hide (unhide HBA _)⟩
            case measure => simp [intOf]; omega
    · have H := hide (penB_true (xs := xs) (by omega) (fun j h => unhide HA j h (by omega)))
      go_wp2
      go_ret
      exact ⟨ret_bool (unhide H).symm, unhide HB⟩

set_option maxHeartbeats 800000 in
theorem diskOK_impl (ao bo : Option Addr) (ca cb : Nat) (ss : List ByteArray) (xs : List Wr) (w : World) (hl : ss.length ≤ maxLen) (hm : xs.length ≤ maxLen) (h1 : Ss w ao ss) (h2 : Ios w bo xs) :
    Calls Tryz.prog 70 #[.agg #[.slice ao ss.length ca, .slice bo xs.length cb]] w fun e w' => e = .returned (.bool (diskB ss xs)) ∧ Below w.heap.size w w' := by
  have H1 := hide h1
  have H2 := hide h2
  have HL := hide hl
  have HM := hide hm
  clear h1 h2 hl hm
  have HA := hide (Joins.below_alloc1 w (.cells #[.slice ao ss.length ca, .slice bo xs.length cb] 34))
  cases h : secB ss
  · go_enter Tryz.func70, Tryz.ntmps70
    go_wp2_with fail
    refine (sectorsOK_any ao ca ss _ (unhide HL) ((unhide H1).below (unhide HA))).mono ?_
    rintro e w1 ⟨rfl, rfl⟩
    go_wp2
    go_ret
    exact ⟨ret_bool (by rw [diskB, h]; rfl), unhide HA⟩
  · go_enter Tryz.func70, Tryz.ntmps70
    go_wp2_with fail
    refine (sectorsOK_any ao ca ss _ (unhide HL) ((unhide H1).below (unhide HA))).mono ?_
    rintro e w1 ⟨rfl, rfl⟩
    go_wp2_with fail
    refine (pendingOK_any bo cb xs _ (unhide HM) ((unhide H2).below (unhide HA))).mono ?_
    rintro e w2 ⟨rfl, hb2⟩
    have HB := hide ((unhide HA).trans (hb2.mono (by simp)))
    clear hb2
    go_wp2
    go_ret
    exact ⟨ret_bool (by rw [diskB, h]; rfl), unhide HB⟩

end Go.Proofs.YthnpooffhopnkacGreatDoor

/- Contracts of the disk's codes and of ReadSector, of the program and of its model. -/
namespace Go.Proofs.YthnpooffhopnkacGreatDoor
open Go.RowKit
set_option linter.unusedVariables false
set_option maxRecDepth 100000

set_option maxHeartbeats 1600000 in
theorem hostFault_any (ao bo : Option Addr) (ca cb : Nat) (ss : List ByteArray) (xs : List Wr) (h : Int) (w : World) (hl : ss.length ≤ maxLen) (hm : xs.length ≤ maxLen) (h1 : Ss w ao ss) (h2 : Ios w bo xs) :
    Calls Tryz.prog 25 #[.agg #[.slice ao ss.length ca, .slice bo xs.length cb], .int .i64 h] w fun e w' => e = .returned (.int .i64 (hostC ss xs h)) ∧ Below w.heap.size w w' := by
  have HA := hide (Joins.below_alloc1 w (.cells #[.slice ao ss.length ca, .slice bo xs.length cb] 34))
  have H1 := hide (h1.below (unhide HA))
  have H2 := hide (h2.below (unhide HA))
  have HL := hide hl
  have HM := hide hm
  clear h1 h2 hl hm
  cases hd : diskB ss xs
  · have H := hide (hostC_bad (h := h) hd)
    go_enter Tryz.func25, Tryz.ntmps25
    go_wp2_with fail
    refine (diskOK_impl _ _ _ _ ss xs _ (unhide HL) (unhide HM) (unhide H1) (unhide H2)).mono ?_
    rintro e w1 ⟨rfl, hb⟩
    have HB := hide (fr (unhide HA) hb)
    clear hb
    go_wp2
    go_ret
    exact ⟨ret_int (unhide H).symm, unhide HB⟩
  · cases hh : inB h 0 3
    · have H := hide (hostC_range hd hh)
      go_enter Tryz.func25, Tryz.ntmps25
      go_wp2_with fail
      refine (diskOK_impl _ _ _ _ ss xs _ (unhide HL) (unhide HM) (unhide H1) (unhide H2)).mono ?_
      rintro e w1 ⟨rfl, hb⟩
      have HB := hide (fr (unhide HA) hb)
      clear hb
      go_wp2_with (go_at_call 71; refine (hostOK_any _ _).mono ?_; rintro e w' ⟨rfl, rfl⟩)
      go_ret
      exact ⟨ret_int (unhide H).symm, unhide HB⟩
    · have H := hide (hostC_ok hd hh)
      go_enter Tryz.func25, Tryz.ntmps25
      go_wp2_with fail
      refine (diskOK_impl _ _ _ _ ss xs _ (unhide HL) (unhide HM) (unhide H1) (unhide H2)).mono ?_
      rintro e w1 ⟨rfl, hb⟩
      have HB := hide (fr (unhide HA) hb)
      clear hb
      go_wp2_with (go_at_call 71; refine (hostOK_any _ _).mono ?_; rintro e w' ⟨rfl, rfl⟩)
      go_ret
      exact ⟨ret_int (unhide H).symm, unhide HB⟩

end Go.Proofs.YthnpooffhopnkacGreatDoor
