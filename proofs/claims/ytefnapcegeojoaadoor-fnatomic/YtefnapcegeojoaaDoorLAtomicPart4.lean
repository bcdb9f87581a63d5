import Derived.Test.YtefnapcegeojoaaDoorLAtomicPart1
import Derived.Test.YtefnapcegeojoaaDoorLAtomicPart3
import Derived.Test.YtefnapcegeojoaaDoorLAtomicPart2
import Derived.WalkKit
import Derived.Test.YtefnapcegeojoaaDoorRows
import Derived.WalkSpells

namespace Go.Proofs.YtefnapcegeojoaaDoor
open Go.RowKit
set_option linter.unusedVariables false

theorem bytes0 {t : ByteArray} (h : t.size = 0) : t = ⟨#[]⟩ := by
  cases t with
  | mk a => cases a with
    | mk l => cases l with
      | nil => rfl
      | cons x xs => simp [ByteArray.size] at h
theorem text_full {t : ByteArray} (h : t.size ≠ 0) : t.toList.isEmpty = false := by
  rw [ByteArray.toList_eq]
  cases t with
  | mk a => cases a with
    | mk l => cases l with
      | nil => exact absurd rfl h
      | cons x xs => rfl
def sdL (t : ByteArray) : List Int := openL t 7
def sdB (t : ByteArray) : Bool := decide (t.size = 0) || (openB t 7 && (decide ((sdL t).length = 2) && decide ((sdL t).getD 0 0 ≤ 5)))
def sdN (t : ByteArray) : Nat := if t.size = 0 then 0 else ((sdL t).getD 0 0).toNat
def sdS (t : ByteArray) : Int := if t.size = 0 then 0 else (sdL t).getD 1 0
theorem two_ofJ {l : List Int} (h : l.length = 2) : ∃ a b, l = [a, b] := by
  match l, h with
  | [a, b], _ => exact ⟨a, b, rfl⟩
theorem open_numsJ {t : ByteArray} {k : Int} (h : openB t k = true) : ∀ x ∈ openL t k, 0 ≤ x ∧ x ≤ 2147483647 := by
  intro x hx
  rw [openL_yes h] at hx
  simp only [openB, Bool.and_eq_true] at h
  obtain ⟨_, _, _, _, _, hu⟩ := recB_iff.1 h.1
  obtain ⟨j, hj, rfl⟩ := List.mem_iff_getElem.1 hx
  exact (intsB_parts (okU_parts hu).2.2).1 j hj
theorem sd_empty {t : ByteArray} (h : t.size = 0) : sdB t = true ∧ sdN t = 0 ∧ sdS t = 0 := by simp [sdB, sdN, sdS, h]
theorem sd_shut {t : ByteArray} (h : t.size ≠ 0) (ho : openB t 7 = false) : sdB t = false := by simp [sdB, h, ho]
theorem sd_len {t : ByteArray} (h : t.size ≠ 0) (hl : ¬ (sdL t).length = 2) : sdB t = false := by simp [sdB, h, hl]
theorem sd_many {t : ByteArray} {a b : Int} (h : t.size ≠ 0) (hl : sdL t = [a, b]) (ha : ¬ a ≤ 5) : sdB t = false := by simp [sdB, h, hl, ha]
theorem sd_yes {t : ByteArray} {a b : Int} (h : t.size ≠ 0) (ho : openB t 7 = true) (hl : sdL t = [a, b]) (ha : a ≤ 5) : sdB t = true ∧ (sdN t : Int) = a ∧ sdN t ≤ 5 ∧ sdS t = b ∧ numB b = true := by
  have h0 := open_numsJ ho a (by rw [show openL t 7 = [a, b] from hl]; simp)
  have h1 := open_numsJ ho b (by rw [show openL t 7 = [a, b] from hl]; simp)
  have e : sdN t = a.toNat := by rw [sdN, if_neg h, hl]; rfl
  refine ⟨by simp [sdB, h, ho, hl, ha], ?_, ?_, ?_, ?_⟩
  · rw [e]; omega
  · rw [e]; omega
  · rw [sdS, if_neg h, hl]; rfl
  · simp [numB, inB]; omega
theorem sd_seq {t : ByteArray} (h : sdB t = true) (hn : sdN t ≠ 0) : numB (sdS t) = true ∧ sdN t ≤ 5 := by
  by_cases h0 : t.size = 0
  · exact absurd (sd_empty h0).2.1 hn
  · by_cases ho : openB t 7 = false
    · rw [sd_shut h0 ho] at h; cases h
    rw [Bool.not_eq_false] at ho
    by_cases hl : (sdL t).length = 2
    · obtain ⟨a, b, e⟩ := two_ofJ hl
      by_cases ha : a ≤ 5
      · obtain ⟨_, _, h3, h4, h5⟩ := sd_yes h0 ho e ha
        rw [h4]; exact ⟨h5, h3⟩
      · rw [sd_many h0 e ha] at h; cases h
    · rw [sd_len h0 hl] at h; cases h
theorem sdN_le {t : ByteArray} (h : sdB t = true) : sdN t ≤ 5 := by
  by_cases hn : sdN t = 0
  · omega
  · exact (sd_seq h hn).2
def fuL (F : Nat → ByteArray) (n : Nat) : List Up := (List.range n).map fun i => duU (F i)
def fuB (F : Nat → ByteArray) (n : Nat) : Bool := (List.range n).all fun i => duB (F i)
theorem fuL_length (F : Nat → ByteArray) (n : Nat) : (fuL F n).length = n := by simp [fuL]
theorem fuL_take {F : Nat → ByteArray} {n k : Nat} (h : k < n) : (fuL F n).take (k + 1) = (fuL F n).take k ++ [duU (F k)] := by
  rw [List.take_succ_eq_append_getElem (by rw [fuL_length]; exact h)]; simp [fuL]
theorem fuL_done {F : Nat → ByteArray} {n k : Nat} (h : n ≤ k) : (fuL F n).take k = fuL F n := List.take_of_length_le (by rw [fuL_length]; exact h)
theorem fuB_yes {F : Nat → ByteArray} {n : Nat} (h : ∀ i, i < n → duB (F i) = true) : fuB F n = true := by
  simp only [fuB, List.all_eq_true, List.mem_range]; exact h
theorem fuB_no {F : Nat → ByteArray} {n k : Nat} (hk : k < n) (h : duB (F k) = false) : fuB F n = false := by
  cases hb : fuB F n with
  | false => rfl
  | true =>
    simp only [fuB, List.all_eq_true, List.mem_range] at hb
    rw [hb k hk] at h; cases h
theorem fuB_at {F : Nat → ByteArray} {n : Nat} (h : fuB F n = true) : ∀ i, i < n → duB (F i) = true := by
  simp only [fuB, List.all_eq_true, List.mem_range] at h; exact h
theorem fu_right {F : Nat → ByteArray} {n : Nat} (h : fuB F n = true) : upsB (fuL F n) = true := by
  simp only [upsB, fuL, List.all_map, List.all_eq_true, List.mem_range, Function.comp_apply]
  exact fun i hi => du_right (fuB_at h i hi)
def joF (ss : List ByteArray) (xs : List Wr) (h o : Int) : Nat → ByteArray := fun i => readV ss xs h (slN o + 1 + (i : Int))
def joH (ss : List ByteArray) (xs : List Wr) (h o : Int) : ByteArray := readV ss xs h (slN o)
def jkB (T : ByteArray) (F : Nat → ByteArray) : Bool := sdB T && fuB F (sdN T)
def jkL (T : ByteArray) (F : Nat → ByteArray) : List Up := if jkB T F = true then fuL F (sdN T) else []
def jkS (T : ByteArray) (F : Nat → ByteArray) : Int := if jkB T F = true then sdS T else 0
theorem jk_shut {T : ByteArray} {F : Nat → ByteArray} (h : sdB T = false) : jkB T F = false ∧ jkL T F = [] ∧ jkS T F = 0 := by
  have e : jkB T F = false := by simp [jkB, h]
  exact ⟨e, if_neg (by simp [e]), if_neg (by simp [e])⟩
theorem jk_bad {T : ByteArray} {F : Nat → ByteArray} (h : fuB F (sdN T) = false) : jkB T F = false ∧ jkL T F = [] ∧ jkS T F = 0 := by
  have e : jkB T F = false := by simp [jkB, h]
  exact ⟨e, if_neg (by simp [e]), if_neg (by simp [e])⟩
theorem jk_yes {T : ByteArray} {F : Nat → ByteArray} (h : sdB T = true) (hf : fuB F (sdN T) = true) : jkB T F = true ∧ jkL T F = fuL F (sdN T) ∧ jkS T F = sdS T := by
  have e : jkB T F = true := by simp [jkB, h, hf]
  exact ⟨e, if_pos e, if_pos e⟩
theorem jk_right (T : ByteArray) (F : Nat → ByteArray) : upsB (jkL T F) = true ∧ (jkL T F).length ≤ 5 ∧ ((jkL T F).length ≠ 0 → numB (jkS T F) = true) := by
  by_cases h : jkB T F = true
  · have h' := h
    simp only [jkB, Bool.and_eq_true] at h'
    obtain ⟨_, e1, e2⟩ := jk_yes h'.1 h'.2
    rw [e1, e2, fuL_length]
    exact ⟨fu_right h'.2, sdN_le h'.1, fun hn => (sd_seq h'.1 hn).1⟩
  · have e1 : jkL T F = [] := if_neg h
    rw [e1]
    exact ⟨rfl, by simp, fun h => absurd rfl h⟩
def joC (ss : List ByteArray) (xs : List Wr) (h o : Int) : Int := if hostC ss xs h = 0 then (if inB o 0 3 = true then (if jkB (joH ss xs h o) (joF ss xs h o) = true then 0 else 18) else 4) else hostC ss xs h
def joL (ss : List ByteArray) (xs : List Wr) (h o : Int) : List Up := if joC ss xs h o = 0 then jkL (joH ss xs h o) (joF ss xs h o) else []
def joS (ss : List ByteArray) (xs : List Wr) (h o : Int) : Int := if joC ss xs h o = 0 then jkS (joH ss xs h o) (joF ss xs h o) else 0
def joM (ss : List ByteArray) (xs : List Wr) (h o : Int) : List Wr := rpL (slN o) (joS ss xs h o) (joL ss xs h o)
theorem joC_host {ss : List ByteArray} {xs : List Wr} {h o : Int} (e : hostC ss xs h ≠ 0) : joC ss xs h o = hostC ss xs h := if_neg e
theorem joC_range {ss : List ByteArray} {xs : List Wr} {h o : Int} (e : hostC ss xs h = 0) (e1 : inB o 0 3 = false) : joC ss xs h o = 4 := by rw [joC, if_pos e, if_neg (by simp [e1])]
theorem joC_broken {ss : List ByteArray} {xs : List Wr} {h o : Int} (e : hostC ss xs h = 0) (e1 : inB o 0 3 = true) (e2 : jkB (joH ss xs h o) (joF ss xs h o) = false) : joC ss xs h o = 18 := by rw [joC, if_pos e, if_pos e1, if_neg (by simp [e2])]
theorem joC_ok {ss : List ByteArray} {xs : List Wr} {h o : Int} (e : hostC ss xs h = 0) (e1 : inB o 0 3 = true) (e2 : jkB (joH ss xs h o) (joF ss xs h o) = true) : joC ss xs h o = 0 := by rw [joC, if_pos e, if_pos e1, if_pos e2]
theorem jo_no {ss : List ByteArray} {xs : List Wr} {h o : Int} (e : joC ss xs h o ≠ 0) : joL ss xs h o = [] ∧ joS ss xs h o = 0 ∧ joM ss xs h o = [] := by
  have e1 : joL ss xs h o = [] := if_neg e
  exact ⟨e1, if_neg e, by rw [joM, e1]; rfl⟩
theorem jo_yes {ss : List ByteArray} {xs : List Wr} {h o : Int} (e : joC ss xs h o = 0) : joL ss xs h o = jkL (joH ss xs h o) (joF ss xs h o) ∧ joS ss xs h o = jkS (joH ss xs h o) (joF ss xs h o) := ⟨if_pos e, if_pos e⟩
theorem jo_right (ss : List ByteArray) (xs : List Wr) (h o : Int) : upsB (joL ss xs h o) = true ∧ (joL ss xs h o).length ≤ 5 ∧ ((joL ss xs h o).length ≠ 0 → numB (joS ss xs h o) = true) := by
  by_cases e : joC ss xs h o = 0
  · rw [(jo_yes e).1, (jo_yes e).2]; exact jk_right _ _
  · rw [(jo_no e).1]; exact ⟨rfl, by simp, fun h => absurd rfl h⟩
theorem upB_size {us : List Up} (h : upsB us = true) : ∀ x ∈ us, x.data.size ≤ maxLen := fun x hx => by
  have := (upB_iff.1 (List.all_eq_true.1 h x hx)).2
  unfold maxLen; omega
structure UpS (w W : World) (qo : Option Addr) (n qa : Nat) (us : List Up) : Prop where
  o : OwnR W w.heap.size 42 2 (.slice qo n qa) n (upsV us)
  k : Below w.heap.size w W
theorem UpS.next {w W W' : World} {qo : Option Addr} {n qa : Nat} {us : List Up} (h : UpS w W qo n qa us) (hb : Below W.heap.size W W') : UpS w W' qo n qa us := ⟨h.o.below hb, fr h.k hb⟩
def upV (x : Up) : List Value := [.int .i64 x.at_, .string x.data]
theorem upV_one (x : Up) : ∀ u ∈ upV x, u.oneCell' = true := by
  intro u hu
  simp [upV] at hu
  rcases hu with rfl | rfl <;> rfl
theorem UpS.one {w W W' : World} {qo : Option Addr} {n qa g cap : Nat} {us : List Up} {x : Up} (h : UpS w W qo n qa us)
    (ho : W'.ownsRow w.heap.size 42 2 (.slice (some ⟨g, 0, none⟩) (n + 1) cap) (n + 1) (upsV us ++ upV x)) (hk : Keep (Own (.slice qo n qa)) W W') : UpS w W' (some ⟨g, 0, none⟩) (n + 1) cap (us ++ [x]) := by
  refine ⟨.inr ⟨by omega, ?_⟩, belowKp h.k hk (fun j hj => (h.o.ge j hj).1)⟩
  rw [upsV_append]; exact ho
theorem UpS.sz {w W : World} {qo : Option Addr} {n qa : Nat} {us : List Up} (h : UpS w W qo n qa us) : w.heap.size ≤ W.heap.size := h.k.size
theorem UpS.len {w W : World} {qo : Option Addr} {n qa : Nat} {us : List Up} (h : UpS w W qo n qa us) : n = us.length := by
  have := h.o.len; rw [upsV_length] at this; omega
theorem UpS.ups {w W : World} {qo : Option Addr} {n qa : Nat} {us : List Up} (h : UpS w W qo n qa us) (hz : upsB us = true) : Ups W qo us := by
  have e := h.len
  subst e
  exact ownUps h.o (upB_size hz)
theorem news2_at (w : World) (n : Nat) (x : Up) (t : TypeId) (hn : w.heap.size = n) : ∀ j u, (upV x)[j]? = some u → (w.alloc (.cells #[.int .i64 x.at_, .string x.data] t)).cell? ((⟨n, 0, none⟩ : Addr).add j) = some u := by
  subst hn
  exact World.news_of_block (cs := #[.int .i64 x.at_, .string x.data]) (heap_alloc_new w _)
structure GotU (W0 W : World) (C : Nat) (t : TypeId) (u : Up) : Prop where
  k : Below W0.heap.size W0 W
  v : VarU W C t u
  c : W0.heap.size ≤ C
theorem GotU.top {W0 W : World} (t : TypeId) (u : Up) (h : Below W0.heap.size W0 W) : GotU W0 (W.alloc (.cells #[.int .i64 u.at_, .string u.data] t)) W.heap.size t u := ⟨belowAl h _, VarU.new W t u, h.size⟩
theorem GotU.set {W0 W : World} {t : TypeId} {u u0 : Up} {C : Nat} (h : Below W0.heap.size W0 W) (hv : VarU W C t u0) (hC : W0.heap.size ≤ C) : GotU W0 ((W.setCell ⟨C, 0, none⟩ (.int .i64 u.at_)).setCell ⟨C, 1, none⟩ (.string u.data)) C t u :=
  ⟨below2 h hC 0 1 _ _, Joins.block_setCell (i := 1) (Joins.block_setCell (i := 0) hv _) _, hC⟩
end Go.Proofs.YtefnapcegeojoaaDoor

namespace Go.Proofs.YtefnapcegeojoaaDoor
open Go.RowKit
set_option linter.unusedVariables false
set_option maxRecDepth 100000

def noSs : List ByteArray := List.replicate 64 ⟨#[]⟩
theorem noSs_cells : (madeCells #[Value.string ⟨#[]⟩] 64).toList = strV noSs := by rw [toList_madeCells_one]; simp [strV, noSs]
theorem info9' : (Tryd.prog.info? 9).map (fun i => (i.zero, i.size, i.bytes)) = some (some (.string ⟨#[]⟩), 1, 16) := by kernel_rfl

theorem noSs_own {w : World} {B g : Nat} (h : w.ownsRow B 9 1 (.slice (some ⟨g, 0, none⟩) 64 64) 64 (madeCells #[Value.string ⟨#[]⟩] 64).toList) : w.ownsRow B 9 1 (.slice (some ⟨g, 0, none⟩) 64 64) 64 (strV noSs) := by
  rw [noSs_cells] at h; exact h

end Go.Proofs.YtefnapcegeojoaaDoor

namespace Go.Proofs.YtefnapcegeojoaaDoor
open Go.RowKit
set_option linter.unusedVariables false

theorem allB_in {xs : List Int} (h : allB xs = true) : ∀ j (hj : j < xs.length), 0 ≤ xs[j] ∧ xs[j] ≤ 2147483647 := by
  intro j hj
  rw [allB, List.all_eq_true] at h
  have := h _ (List.getElem_mem hj)
  simpa [numB, inB] using this
theorem pack_byte {xs : List Int} {i j : Nat} (hi : i < xs.length) (hj : j < 4) : byteAt (packS xs) (i * 4 + j) = byteN xs[i] j := by
  obtain ⟨hk, he⟩ := List.getElem?_eq_some_iff.1 (packL_at xs i j hi hj)
  have hb := byteN_in xs[i] j
  rw [packS, byteAt_nums hk (by rw [he]; omega) (by rw [he]; omega), he]
theorem num_of_bytes {n : Int} (h0 : 0 ≤ n) (h1 : n ≤ 2147483647) : byteN n 0 + byteN n 1 * 256 + byteN n 2 * 65536 + byteN n 3 * 16777216 = n := by
  show n / 1 % 256 + n / 256 % 256 * 256 + n / 65536 % 256 * 65536 + n / 16777216 % 256 * 16777216 = n
  omega
theorem un_pack {xs : List Int} (h : allB xs = true) : unL (packS xs) = xs := by
  apply List.ext_getElem
  · rw [unL_length, packS_size]; omega
  · intro i h1 h2
    rw [unL_get h1]
    have hin := allB_in h i h2
    unfold numAt
    have e0 := pack_byte h2 (show 0 < 4 by omega)
    rw [Nat.add_zero] at e0
    rw [e0, pack_byte h2 (show 1 < 4 by omega), pack_byte h2 (show 2 < 4 by omega), pack_byte h2 (show 3 < 4 by omega)]
    exact num_of_bytes hin.1 hin.2
theorem okU_pack {xs : List Int} (h : allB xs = true) (hl : xs.length ≤ 16) : okU (packS xs) = true := by
  rw [okU_even (by rw [packS_size]; omega), un_pack h, intsB, h, decide_eq_true hl]; rfl
theorem kindB_of {k : Int} (hk : 1 ≤ k ∧ k ≤ 9) : kindB k = true := by simp [kindB, inB]; omega
theorem seal_byte {k : Int} {xs : List Int} (hk : 1 ≤ k ∧ k ≤ 9) (hl : xs.length ≤ 16) {j : Nat} (hj : j < 4) : byteAt (sealS k xs) j = (headR k xs)[j]'(by simpa [headR] using hj) := by
  have hr := sumR_in k xs
  rw [sealS, byteAt_left (by rw [strOfNums_size]; simpa [headR] using hj), byteAt_nums]
  · rcases (show j = 0 ∨ j = 1 ∨ j = 2 ∨ j = 3 by omega) with rfl | rfl | rfl | rfl <;> simp [headR] <;> omega
  · rcases (show j = 0 ∨ j = 1 ∨ j = 2 ∨ j = 3 by omega) with rfl | rfl | rfl | rfl <;> simp [headR] <;> omega
theorem body_seal {k : Int} {xs : List Int} : bodyT (sealS k xs) = packS xs := by
  apply bytes_eq
  · rw [bodyT_size, sealS_size, packS_size]; omega
  · intro j hj
    rw [bodyT_size, sealS_size] at hj
    rw [bodyT_byte (by rw [sealS_size]; omega), sealS, byteAt_right (by rw [strOfNums_size]; simp [headR]), strOfNums_size]
    congr 1
    simp [headR]
theorem rec_seal {k : Int} {xs : List Int} (hk : 1 ≤ k ∧ k ≤ 9) (h : allB xs = true) (hl : xs.length ≤ 16) : RecP (sealS k xs) := by
  have e0 := seal_byte hk hl (show 0 < 4 by omega)
  have hkb : kindB (byteAt (sealS k xs) 0) = true := by rw [e0]; exact kindB_of hk
  refine (seal_iff (by rw [sealS_size]; omega) hkb (by rw [body_seal]; exact okU_pack h hl)).1 ?_
  rw [body_seal, un_pack h, e0]
  simp [headR]
theorem seal_kind {k : Int} {xs : List Int} (hk : 1 ≤ k ∧ k ≤ 9) (hl : xs.length ≤ 16) : byteAt (sealS k xs) 0 = k := by rw [seal_byte hk hl (show 0 < 4 by omega)]; simp [headR]
end Go.Proofs.YtefnapcegeojoaaDoor

namespace Go.Proofs.YtefnapcegeojoaaDoor
open Go.RowKit
set_option linter.unusedVariables false
theorem cut_left (a b : ByteArray) : (a ++ b).extract 0 a.size = a := by
  apply ByteArray.ext
  simp
theorem cut_right (a b : ByteArray) : (a ++ b).extract a.size (a ++ b).size = b := by
  exact ByteArray.extract_append_eq_right rfl (ByteArray.size_append)
theorem enc_dec {u : Up} (h : upB u = true) : duB (encU u) = true ∧ duU (encU u) = u := by
  obtain ⟨h1, h2⟩ := upB_iff.1 h
  have hs : (sealS 8 [u.at_]).size = 8 := sealS_size 8 [u.at_]
  have hH : duH (encU u) = sealS 8 [u.at_] := by
    have := cut_left (sealS 8 [u.at_]) u.data
    rw [hs] at this; exact this
  have hT : duT (encU u) = u.data := by
    have := cut_right (sealS 8 [u.at_]) u.data
    rw [hs] at this; exact this
  have hall : allB [u.at_] = true := by simp [allB, numB, inB]; omega
  have ho : openB (duH (encU u)) 8 = true := by
    rw [hH]
    exact openB_yes (rec_seal (by decide) hall (by simp)) (seal_kind (by decide) (by simp))
  have hL : duL (encU u) = [u.at_] := by
    rw [duL, openL_yes ho, hH, body_seal, un_pack hall]
  have hX : duX (encU u) = u := by rw [duX_at hL, hT]
  have hB : duB (encU u) = true := by rw [duB_at (by rw [encU_size]; omega) ho, hX]; exact h
  exact ⟨hB, by rw [du_yes hB, hX]⟩

end Go.Proofs.YtefnapcegeojoaaDoor

namespace Go.Proofs.YtefnapcegeojoaaDoor
open Go.RowKit
set_option linter.unusedVariables false

def mvB (m : Wr) : Bool := if m.host = 1 then (inB m.at_ 0 63 && decide (m.data.size ≤ 80)) else (decide (m.host = 2) && (decide (m.at_ = 0) && decide (m.data.size = 0)))
def msB (ms : List Wr) : Bool := ms.all mvB
theorem msB_at {ms : List Wr} (h : msB ms = true) {k : Nat} (hk : k < ms.length) : mvB ms[k] = true := List.all_eq_true.1 h _ (List.getElem_mem hk)
theorem mvB_write {m : Wr} (h : mvB m = true) (hn : m.host ≠ 2) : (0 ≤ m.at_ ∧ m.at_ ≤ 63) ∧ m.data.size ≤ 80 := by
  unfold mvB at h
  split at h
  · simpa [inB] using h
  · simp [hn] at h
def dm1 (h : Int) (st : List ByteArray × List Wr) (m : Wr) : List ByteArray × List Wr := if m.host = 2 then (putW st.1 (ofH h st.2), dropF h st.2) else (st.1, st.2 ++ [⟨h, m.at_, m.data⟩])
def dmL (h : Int) (ss : List ByteArray) (xs : List Wr) (ms : List Wr) : List ByteArray × List Wr := ms.foldl (dm1 h) (ss, xs)
theorem dmL_succ {h : Int} {ss : List ByteArray} {xs ms : List Wr} {k : Nat} (hk : k < ms.length) : dmL h ss xs (ms.take (k + 1)) = dm1 h (dmL h ss xs (ms.take k)) ms[k] := by
  unfold dmL
  rw [List.take_succ_eq_append_getElem hk, List.foldl_append]; rfl
theorem dm1_flush {h : Int} {S : List ByteArray} {X : List Wr} {m : Wr} (hm : m.host = 2) : dm1 h (S, X) m = (putW S (ofH h X), dropF h X) := if_pos hm
theorem dm1_write {h : Int} {S : List ByteArray} {X : List Wr} {m : Wr} (hm : m.host ≠ 2) : dm1 h (S, X) m = (S, X ++ [⟨h, m.at_, m.data⟩]) := if_neg hm
theorem dm1_right {h : Int} {S : List ByteArray} {X : List Wr} {m : Wr} (hh : 0 ≤ h ∧ h ≤ 3) (hd : diskB S X = true) (hl : X.length < 200) (hm : mvB m = true) : diskB (dm1 h (S, X) m).1 (dm1 h (S, X) m).2 = true ∧ (dm1 h (S, X) m).2.length ≤ X.length + 1 := by
  by_cases h2 : m.host = 2
  · rw [dm1_flush h2]
    exact ⟨diskB_put hd (fun x hx => of_mem hx) (fun x hx => drop_mem hx) (drop_le h X), by have := drop_le h X; show (dropF h X).length ≤ X.length + 1; omega⟩
  · rw [dm1_write h2]
    obtain ⟨p1, p2⟩ := mvB_write hm h2
    exact ⟨diskB_snoc hd hl (ioB_parts.2 ⟨hh, p1, p2⟩), by simp⟩
theorem dmL_right {h : Int} {ss : List ByteArray} {xs ms : List Wr} (hh : 0 ≤ h ∧ h ≤ 3) (hd : diskB ss xs = true) (hm : msB ms = true) (hl : xs.length + ms.length ≤ 200) : ∀ k, k ≤ ms.length → diskB (dmL h ss xs (ms.take k)).1 (dmL h ss xs (ms.take k)).2 = true ∧ (dmL h ss xs (ms.take k)).2.length ≤ xs.length + k := by
  intro k
  induction k with
  | zero => intro _; exact ⟨by simpa [dmL] using hd, by simp [dmL]⟩
  | succ k ih =>
    intro hk
    obtain ⟨i1, i2⟩ := ih (by omega)
    rw [dmL_succ (show k < ms.length by omega)]
    obtain ⟨r1, r2⟩ := dm1_right (S := (dmL h ss xs (ms.take k)).1) (X := (dmL h ss xs (ms.take k)).2) hh i1 (by omega) (msB_at hm (show k < ms.length by omega))
    exact ⟨r1, Nat.le_trans r2 (by omega)⟩
def mdC (ss : List ByteArray) (xs : List Wr) (h : Int) (ms : List Wr) : Int := if 4096 < ms.length then 2 else if hostC ss xs h = 0 then (if msB ms = true then (if 200 < xs.length + ms.length then 7 else 0) else 1) else hostC ss xs h
def mdS (ss : List ByteArray) (xs : List Wr) (h : Int) (ms : List Wr) : List ByteArray := if mdC ss xs h ms = 0 then (dmL h ss xs ms).1 else if mdC ss xs h ms = 7 then ss else []
def mdX (ss : List ByteArray) (xs : List Wr) (h : Int) (ms : List Wr) : List Wr := if mdC ss xs h ms = 0 then (dmL h ss xs ms).2 else if mdC ss xs h ms = 7 then xs else []
theorem md_long {ss : List ByteArray} {xs : List Wr} {h : Int} {ms : List Wr} (h1 : 4096 < ms.length) : mdC ss xs h ms = 2 ∧ mdS ss xs h ms = [] ∧ mdX ss xs h ms = [] := by
  have e : mdC ss xs h ms = 2 := if_pos h1
  exact ⟨e, by simp [mdS, e], by simp [mdX, e]⟩
theorem hostC_cases (ss : List ByteArray) (xs : List Wr) (h : Int) : hostC ss xs h = 0 ∨ hostC ss xs h = 1 ∨ hostC ss xs h = 4 := by
  unfold hostC; split
  · split
    · exact .inl rfl
    · exact .inr (.inr rfl)
  · exact .inr (.inl rfl)
theorem md_host {ss : List ByteArray} {xs : List Wr} {h : Int} {ms : List Wr} (h1 : ¬ 4096 < ms.length) (h2 : hostC ss xs h ≠ 0) : mdC ss xs h ms = hostC ss xs h ∧ mdS ss xs h ms = [] ∧ mdX ss xs h ms = [] := by
  have e : mdC ss xs h ms = hostC ss xs h := by rw [mdC, if_neg h1, if_neg h2]
  have h7 : hostC ss xs h ≠ 7 := by rcases hostC_cases ss xs h with e | e | e <;> rw [e] <;> decide
  exact ⟨e, by simp [mdS, e, h2, h7], by simp [mdX, e, h2, h7]⟩
theorem md_bad {ss : List ByteArray} {xs : List Wr} {h : Int} {ms : List Wr} (h1 : ¬ 4096 < ms.length) (h2 : hostC ss xs h = 0) (h3 : msB ms = false) : mdC ss xs h ms = 1 ∧ mdS ss xs h ms = [] ∧ mdX ss xs h ms = [] := by
  have e : mdC ss xs h ms = 1 := by rw [mdC, if_neg h1, if_pos h2, if_neg (by simp [h3])]
  exact ⟨e, by simp [mdS, e], by simp [mdX, e]⟩
theorem md_full {ss : List ByteArray} {xs : List Wr} {h : Int} {ms : List Wr} (h1 : ¬ 4096 < ms.length) (h2 : hostC ss xs h = 0) (h3 : msB ms = true) (h4 : 200 < xs.length + ms.length) : mdC ss xs h ms = 7 ∧ mdS ss xs h ms = ss ∧ mdX ss xs h ms = xs := by
  have e : mdC ss xs h ms = 7 := by rw [mdC, if_neg h1, if_pos h2, if_pos h3, if_pos h4]
  exact ⟨e, by simp [mdS, e], by simp [mdX, e]⟩
theorem md_ok {ss : List ByteArray} {xs : List Wr} {h : Int} {ms : List Wr} (h1 : ¬ 4096 < ms.length) (h2 : hostC ss xs h = 0) (h3 : msB ms = true) (h4 : ¬ 200 < xs.length + ms.length) : mdC ss xs h ms = 0 ∧ mdS ss xs h ms = (dmL h ss xs ms).1 ∧ mdX ss xs h ms = (dmL h ss xs ms).2 := by
  have e : mdC ss xs h ms = 0 := by rw [mdC, if_neg h1, if_pos h2, if_pos h3, if_neg h4]
  exact ⟨e, by simp [mdS, e], by simp [mdX, e]⟩
theorem cell_apart {w : World} {x b j : Nat} {u v c : Value} (hv : VarD w x u v) (h : w.cell? ⟨b, j, none⟩ = some c) (h1 : c ≠ u) (h2 : c ≠ v) : b ≠ x := by
  rintro rfl
  rw [Joins.cell_of_block hv] at h
  match j, h with
  | 0, h => simp at h; exact h1 h.symm
  | 1, h => simp at h; exact h2 h.symm
  | j + 2, h => simp at h
theorem Ss.setX {w : World} {x : Nat} {po qo ao : Option Addr} {n pa m qa : Nat} {ss : List ByteArray} (h : Ss w ao ss) (hv : VarD w x (.slice po n pa) (.slice qo m qa)) (i : Nat) (v : Value) : Ss (w.setCell ⟨x, i, none⟩ v) ao ss := fun j hj => by
  obtain ⟨b, off, e, hc, hz⟩ := h j hj
  have hne : b ≠ x := cell_apart hv hc (by simp) (by simp)
  exact ⟨b, off, e, (World.cell?_of_block (w := w) (Below.heap_setCell w ⟨x, i, none⟩ v b hne)).trans hc, hz⟩
theorem Ios.setX {w : World} {x : Nat} {po qo ao : Option Addr} {n pa m qa : Nat} {xs : List Wr} (h : Ios w ao xs) (hv : VarD w x (.slice po n pa) (.slice qo m qa)) (i : Nat) (v : Value) : Ios (w.setCell ⟨x, i, none⟩ v) ao xs := fun j hj => by
  obtain ⟨b, off, e, h0, h1, h2, hz⟩ := h j hj
  have hne : b ≠ x := cell_apart hv h0 (by simp) (by simp)
  have hb := Below.heap_setCell w ⟨x, i, none⟩ v b hne
  exact ⟨b, off, e, (World.cell?_of_block (w := w) hb).trans h0, (World.cell?_of_block (w := w) hb).trans h1, (World.cell?_of_block (w := w) hb).trans h2, hz⟩
theorem right_sz2 {S : List ByteArray} {X : List Wr} (hd : diskB S X = true) : (∀ s ∈ S, s.size ≤ maxLen) ∧ ∀ x ∈ X, x.data.size ≤ maxLen := by
  obtain ⟨⟨_, q2⟩, _, q4⟩ := diskB_parts.1 hd
  exact ⟨fun s h => (by have := q2 s h; unfold maxLen; omega), fun x h => (by have := (ioB_parts.1 (q4 x h)).2.2; unfold maxLen; omega)⟩
theorem VarD.put {w : World} {x : Nat} {a b : Value} (h : VarD w x a b) (u v : Value) : VarD ((w.setCell ⟨x, 0, none⟩ u).setCell ⟨x, 1, none⟩ v) x u v := Joins.block_setCell (i := 1) (Joins.block_setCell (i := 0) h u) v
theorem VarD.apart {w : World} {x y : Nat} {a b : Value} (h : VarD w x a b) (hne : x ≠ y) (i : Nat) (u : Value) : VarD (w.setCell ⟨y, i, none⟩ u) x a b := by
  unfold VarD; rw [Below.heap_setCell w ⟨y, i, none⟩ u x hne]; exact h
structure DkA (w W : World) (x : Nat) (po : Option Addr) (pa : Nat) (qo : Option Addr) (qa : Nat) (SS : List ByteArray) (XX : List Wr) : Prop where
  v : VarD W x (.slice po SS.length pa) (.slice qo XX.length qa)
  s : Ss W po SS
  i : Ios W qo XX
  k : Below w.heap.size w W
theorem DkA.put {w W : World} {x pa qa pa' qa' n m : Nat} {po qo po' qo' : Option Addr} {SS SS' : List ByteArray} {XX XX' : List Wr} (h : DkA w W x po pa qo qa SS XX) (hx : w.heap.size ≤ x) (hn : n = SS'.length) (hm : m = XX'.length) (h1 : Ss W po' SS') (h2 : Ios W qo' XX') :
    DkA w ((W.setCell ⟨x, 0, none⟩ (.slice po' n pa')).setCell ⟨x, 1, none⟩ (.slice qo' m qa')) x po' pa' qo' qa' SS' XX' := by
  subst hn hm
  have hv0 : VarD (W.setCell ⟨x, 0, none⟩ (.slice po' SS'.length pa')) x (.slice po' SS'.length pa') (.slice qo XX.length qa) := Joins.block_setCell (i := 0) h.v _
  exact ⟨h.v.put _ _, (h1.setX h.v 0 _).setX hv0 1 _, (h2.setX h.v 0 _).setX hv0 1 _, below2 h.k hx 0 1 _ _⟩
end Go.Proofs.YtefnapcegeojoaaDoor

namespace Go.Proofs.YtefnapcegeojoaaDoor
open Go.RowKit
set_option linter.unusedVariables false

def e64 : List ByteArray := List.replicate 64 ⟨#[]⟩
theorem e64_length : e64.length = 64 := by simp [e64]
theorem e64_get (a : Nat) : e64.getD a ⟨#[]⟩ = ⟨#[]⟩ := by
  simp only [e64, List.getD_eq_getElem?_getD, List.getElem?_replicate]
  split <;> rfl
theorem put_app (ss : List ByteArray) (a b : List Wr) : putW ss (a ++ b) = putW (putW ss a) b := by simp [putW]
theorem put_cons (ss : List ByteArray) (x : Wr) (fs : List Wr) : putW ss (x :: fs) = putW (ss.set x.at_.toNat x.data) fs := rfl
def reH (h : Int) (m : Wr) : Wr := ⟨h, m.at_, m.data⟩
theorem put_host (h : Int) : ∀ (fs : List Wr) (ss : List ByteArray), putW ss (fs.map (reH h)) = putW ss fs
  | [], ss => rfl
  | x :: fs, ss => by rw [List.map_cons, put_cons, put_cons]; exact put_host h fs _
theorem put_miss {a : Nat} : ∀ (fs : List Wr) (ss : List ByteArray), (∀ x ∈ fs, x.at_.toNat ≠ a) → (putW ss fs).getD a ⟨#[]⟩ = ss.getD a ⟨#[]⟩
  | [], ss, _ => rfl
  | x :: fs, ss, h => by
    rw [put_cons, put_miss fs _ (fun y hy => h y (List.mem_cons_of_mem _ hy))]
    have := h x List.mem_cons_self
    simp [List.getD_eq_getElem?_getD, List.getElem?_set_ne this]
theorem put_alike {a : Nat} : ∀ (fs : List Wr) (S S' : List ByteArray), S.length = S'.length → (S.getD a ⟨#[]⟩ = S'.getD a ⟨#[]⟩ ∨ ∃ x ∈ fs, x.at_.toNat = a) → (putW S fs).getD a ⟨#[]⟩ = (putW S' fs).getD a ⟨#[]⟩
  | [], S, S', _, h => by
    rcases h with h | ⟨x, hx, _⟩
    · exact h
    · cases hx
  | x :: fs, S, S', hl, h => by
    rw [put_cons, put_cons]
    refine put_alike fs _ _ (by simp [hl]) ?_
    by_cases hx : x.at_.toNat = a
    · left
      simp [List.getD_eq_getElem?_getD, List.getElem?_set, hl, hx]
    · rcases h with h | ⟨y, hy, hya⟩
      · left
        simp only [List.getD_eq_getElem?_getD, List.getElem?_set_ne hx] at h ⊢
        exact h
      · rcases List.mem_cons.1 hy with rfl | hy'
        · exact absurd hya hx
        · exact .inr ⟨y, hy', hya⟩
theorem put_last (ss : List ByteArray) (fs : List Wr) (x : Wr) (h : x.at_.toNat < ss.length) : (putW ss (fs ++ [x])).getD x.at_.toNat ⟨#[]⟩ = x.data := by
  rw [put_snoc]
  simp [List.getD_eq_getElem?_getD, put_len, h]
def wrs (ms : List Wr) : List Wr := ms.filter fun m => !decide (m.host = 2)
theorem wrs_app (a b : List Wr) : wrs (a ++ b) = wrs a ++ wrs b := by simp [wrs]
theorem wrs_hit {m : Wr} (ms : List Wr) (h : m.host ≠ 2) : wrs (m :: ms) = m :: wrs ms := by simp [wrs, h]
theorem wrs_miss {m : Wr} (ms : List Wr) (h : m.host = 2) : wrs (m :: ms) = wrs ms := by simp [wrs, h]
theorem wrs_all {ms : List Wr} (h : ∀ x ∈ ms, x.host = 1) : wrs ms = ms := List.filter_eq_self.2 (fun x hx => by simp [h x hx])
theorem wrs_take (ms : List Wr) (k : Nat) : ∃ j, wrs (ms.take k) = (wrs ms).take j :=
  ⟨_, List.prefix_iff_eq_take.1 ((List.take_prefix k ms).filter _)⟩
theorem of_re (h : Int) (Y : List Wr) : ofH h (Y.map (reH h)) = Y.map (reH h) := List.filter_eq_self.2 (fun x hx => by
  obtain ⟨y, _, rfl⟩ := List.mem_map.1 hx
  simp [reH])
theorem drop_re (h : Int) (Y : List Wr) : dropF h (Y.map (reH h)) = [] := by
  have h1 := drop_len h (Y.map (reH h))
  rw [of_re] at h1
  exact List.length_eq_zero_iff.1 (by omega)
theorem dm_cut (h : Int) : ∀ (ms : List Wr) (S : List ByteArray) (Y : List Wr), ∃ c, dmL h S (Y.map (reH h)) ms = (putW S ((Y ++ wrs ms).take c), ((Y ++ wrs ms).drop c).map (reH h))
  | [], S, Y => ⟨0, by simp [dmL, wrs, putW]⟩
  | m :: ms, S, Y => by
    by_cases hm : m.host = 2
    · obtain ⟨c, e⟩ := dm_cut h ms (putW S Y) []
      refine ⟨Y.length + c, ?_⟩
      show dmL h (dm1 h (S, Y.map (reH h)) m).1 (dm1 h (S, Y.map (reH h)) m).2 ms = _
      rw [dm1_flush hm, of_re, drop_re, put_host]
      show dmL h (putW S Y) [] ms = _
      rw [wrs_miss ms hm, List.take_length_add_append, List.drop_length_add_append, put_app]
      exact e
    · obtain ⟨c, e⟩ := dm_cut h ms S (Y ++ [m])
      refine ⟨c, ?_⟩
      show dmL h (dm1 h (S, Y.map (reH h)) m).1 (dm1 h (S, Y.map (reH h)) m).2 ms = _
      rw [dm1_write hm, wrs_hit ms hm]
      rw [List.map_append, List.append_assoc] at e
      exact e
theorem dm_full (h : Int) (ms : List Wr) (S : List ByteArray) : dmL h S [] (ms ++ [mvF]) = (putW S (wrs (ms ++ [mvF])), []) := by
  obtain ⟨c, e⟩ := dm_cut h ms S []
  have e' : dmL h S [] ms = _ := e
  have : dmL h S [] (ms ++ [mvF]) = dm1 h (dmL h S [] ms) mvF := by simp [dmL]
  rw [this, e', dm1_flush rfl, of_re, drop_re, put_host, ← put_app, List.nil_append, List.take_append_drop, wrs_app]
  rw [wrs_miss (m := mvF) [] rfl]
  simp [wrs]
theorem dm_crash (h : Int) (ms : List Wr) (S : List ByteArray) (k n : Nat) : ∃ j, putW (dmL h S [] (ms.take k)).1 ((ofH h (dmL h S [] (ms.take k)).2).take n) = putW S ((wrs ms).take j) ∧ dropF h (dmL h S [] (ms.take k)).2 = [] := by
  obtain ⟨c, e⟩ := dm_cut h (ms.take k) S []
  obtain ⟨d, ed⟩ := wrs_take ms k
  have e' : dmL h S [] (ms.take k) = _ := e
  rw [e', List.nil_append, ed]
  refine ⟨min (c + n) d, ?_, drop_re h _⟩
  simp only [of_re]
  rw [← List.map_take, put_host, ← put_app, ← List.take_add, List.take_take]
def apW (slot seq : Int) (us : List Up) : List Wr := chL us ++ [mvH slot 0 seq]
def bgW (slot seq : Int) (us : List Up) : List Wr := txL slot us ++ [mvH slot us.length seq]
theorem ch_one (us : List Up) : ∀ x ∈ chL us, x.host = 1 := fun x hx => by
  simp only [chL, List.mem_map] at hx
  obtain ⟨u, _, rfl⟩ := hx; rfl
theorem tx_one (slot : Int) (us : List Up) : ∀ x ∈ txL slot us, x.host = 1 := fun x hx => by
  obtain ⟨i, hi, rfl⟩ := List.mem_iff_getElem.1 hx
  simp [txL, mvT]
theorem wrs_F : wrs [mvF] = [] := by simp [wrs, mvF]
theorem wrs_H (slot n seq : Int) : wrs [mvH slot n seq] = [mvH slot n seq] := by simp [wrs, mvH]
theorem wrs_ap (slot seq : Int) (us : List Up) : wrs (apL slot seq us) = apW slot seq us := by
  simp only [apL, wrs_app, wrs_F, wrs_H, wrs_all (ch_one us), apW, List.append_nil]
theorem wrs_bg (slot seq : Int) (us : List Up) : wrs (bgL slot seq us) = bgW slot seq us := by
  simp only [bgL, wrs_app, wrs_F, wrs_H, wrs_all (tx_one slot us), bgW, List.append_nil]
theorem wrs_pl {slot seq : Int} {us : List Up} (h : us.length ≠ 0) : wrs (plL slot seq us) = bgW slot seq us ++ apW slot seq us := by
  rw [plL, if_neg h, wrs_app, wrs_bg, wrs_ap]
theorem ap_do (o slot seq : Int) (us : List Up) (S : List ByteArray) : dmL o S [] (apL slot seq us) = (putW S (apW slot seq us), []) := by
  have := dm_full o (chL us ++ [mvF] ++ [mvH slot 0 seq]) S
  rw [← wrs_ap]
  exact this
theorem ch_place {us : List Up} (h : upsB us = true) : ∀ x ∈ chL us, 9 ≤ x.at_.toNat ∧ x.at_.toNat ≤ 38 := fun x hx => by
  simp only [chL, List.mem_map] at hx
  obtain ⟨u, hu, rfl⟩ := hx
  have := (upB_iff.1 (List.all_eq_true.1 h u hu)).1
  show 9 ≤ u.at_.toNat ∧ u.at_.toNat ≤ 38
  omega
theorem tx_place {slot : Int} (us : List Up) (hs : 39 ≤ slot) : ∀ x ∈ txL slot us, slot.toNat < x.at_.toNat := fun x hx => by
  obtain ⟨i, hi, rfl⟩ := List.mem_iff_getElem.1 hx
  simp only [txL, List.getElem_mapIdx, mvT]
  omega
theorem tx_read {slot : Int} {us : List Up} (hs : 39 ≤ slot ∧ slot ≤ 57) (h5 : us.length ≤ 5) {S : List ByteArray} (hS : S.length = 64) : ∀ k, k ≤ us.length → ∀ i (hi : i < us.length), i < k → (putW S ((txL slot us).take k)).getD (slot + 1 + i).toNat ⟨#[]⟩ = encU us[i] := by
  intro k
  induction k with
  | zero => intro _ i hi h; exact absurd h (Nat.not_lt_zero _)
  | succ k ih =>
    intro hk i hi hik
    have hk' : k < us.length := by omega
    rw [txL_take hk']
    by_cases e : i = k
    · subst e
      exact put_last S _ (mvT slot i us[i]) (by rw [hS]; simp only [mvT]; omega)
    · rw [put_snoc]
      have hne : (mvT slot k us[k]).at_.toNat ≠ (slot + 1 + i).toNat := by simp only [mvT]; omega
      rw [List.getD_eq_getElem?_getD, List.getElem?_set_ne hne, ← List.getD_eq_getElem?_getD]
      exact ih (by omega) i hi (by omega)
structure Jf (S : List ByteArray) (slot seq : Int) (us : List Up) : Prop where
  hd : S.getD slot.toNat ⟨#[]⟩ = hdT us.length seq
  tx : ∀ i (hi : i < us.length), S.getD (slot + 1 + i).toNat ⟨#[]⟩ = encU us[i]
def Je (S : List ByteArray) (slot : Int) : Prop := S.getD slot.toNat ⟨#[]⟩ = ⟨#[]⟩ ∨ ∃ seq, numB seq = true ∧ S.getD slot.toNat ⟨#[]⟩ = hdT 0 seq
def due (us : List Up) : List ByteArray := putW e64 (chL us)
theorem bg_jf {slot seq : Int} {us : List Up} (hs : 39 ≤ slot ∧ slot ≤ 57) (h5 : us.length ≤ 5) : Jf (putW e64 (bgW slot seq us)) slot seq us := by
  constructor
  · exact put_last e64 _ (mvH slot us.length seq) (by rw [e64_length]; simp only [mvH]; omega)
  · intro i hi
    rw [bgW, put_snoc]
    have hne : (mvH slot us.length seq).at_.toNat ≠ (slot + 1 + i).toNat := by simp only [mvH]; omega
    rw [List.getD_eq_getElem?_getD, List.getElem?_set_ne hne, ← List.getD_eq_getElem?_getD]
    have := tx_read hs h5 (us := us) e64_length us.length (Nat.le_refl _) i hi hi
    rwa [txL_done (Nat.le_refl _)] at this
theorem jf_ch {S : List ByteArray} {slot seq : Int} {us : List Up} (h : Jf S slot seq us) (hs : 39 ≤ slot) (fs : List Wr) (hf : ∀ x ∈ fs, x.at_.toNat ≤ 38) : Jf (putW S fs) slot seq us := by
  constructor
  · rw [put_miss fs S (fun x hx => by have := hf x hx; omega)]; exact h.hd
  · intro i hi
    rw [put_miss fs S (fun x hx => by have := hf x hx; omega)]; exact h.tx i hi
theorem ap_je {S : List ByteArray} {slot seq : Int} {us : List Up} (hs : 39 ≤ slot ∧ slot ≤ 57) (hq : numB seq = true) (hS : S.length = 64) : Je (putW S (apW slot seq us)) slot :=
  .inr ⟨seq, hq, put_last S _ (mvH slot 0 seq) (by rw [hS]; simp only [mvH]; omega)⟩
theorem ap_due {S : List ByteArray} {slot seq : Int} {us : List Up} (hs : 39 ≤ slot) (hS : S.length = 64) (h : ∀ a, 9 ≤ a → a < 39 → S.getD a ⟨#[]⟩ = ⟨#[]⟩ ∨ ∃ x ∈ chL us, x.at_.toNat = a) : ∀ a, 9 ≤ a → a < 39 → (putW S (apW slot seq us)).getD a ⟨#[]⟩ = (due us).getD a ⟨#[]⟩ := by
  intro a a0 a1
  rw [apW, put_app, put_miss [mvH slot 0 seq] _ (fun x hx => by simp at hx; subst hx; simp only [mvH]; omega)]
  refine put_alike _ _ _ (by rw [hS, e64_length]) ?_
  rw [e64_get]
  exact h a a0 a1
theorem bg_none {slot seq : Int} {us : List Up} (hs : 39 ≤ slot) : ∀ a, a < 39 → (putW e64 (bgW slot seq us)).getD a ⟨#[]⟩ = ⟨#[]⟩ := by
  intro a ha
  rw [put_miss _ _ (fun x hx => ?_), e64_get]
  rcases List.mem_append.1 hx with h | h
  · have := tx_place us hs x h; omega
  · simp at h; subst h; simp only [mvH]; omega
theorem jr_crash {slot seq : Int} {us : List Up} (hs : 39 ≤ slot ∧ slot ≤ 57) (hq : numB seq = true) (hu : upsB us = true) (h5 : us.length ≤ 5) (j : Nat) :
    let S := putW e64 ((wrs (plL slot seq us)).take j)
    (Je S slot ∧ ∀ a, 9 ≤ a → a < 39 → S.getD a ⟨#[]⟩ = ⟨#[]⟩) ∨ (Jf S slot seq us ∧ us.length ≠ 0 ∧ ∀ a, 9 ≤ a → a < 39 → S.getD a ⟨#[]⟩ = ⟨#[]⟩ ∨ ∃ x ∈ chL us, x.at_.toNat = a) ∨ (Je S slot ∧ ∀ a, 9 ≤ a → a < 39 → S.getD a ⟨#[]⟩ = (due us).getD a ⟨#[]⟩) := by
  intro S
  by_cases h0 : us.length = 0
  · have : S = e64 := by show putW e64 ((wrs (plL slot seq us)).take j) = e64; rw [plL, if_pos h0]; simp [wrs, putW]
    rw [this]
    exact .inl ⟨.inl (e64_get _), fun a _ _ => e64_get a⟩
  have hS : S = putW e64 ((bgW slot seq us ++ apW slot seq us).take j) := by rw [← wrs_pl h0]
  have hbl : (bgW slot seq us).length = us.length + 1 := by simp [bgW, txL_length]
  by_cases h1 : j ≤ us.length
  · have e : (bgW slot seq us ++ apW slot seq us).take j = (txL slot us).take j := by
      rw [List.take_append_of_le_length (by omega), bgW, List.take_append_of_le_length (by rw [txL_length]; exact h1)]
    rw [hS, e]
    have hm : ∀ a, a ≤ slot.toNat → (putW e64 ((txL slot us).take j)).getD a ⟨#[]⟩ = ⟨#[]⟩ := fun a ha => by
      rw [put_miss _ _ (fun x hx => by have := tx_place us hs.1 x (List.mem_of_mem_take hx); omega), e64_get]
    exact .inl ⟨.inl (hm _ (Nat.le_refl _)), fun a _ h => hm a (by omega)⟩
  obtain ⟨m, rfl⟩ : ∃ m, j = (us.length + 1) + m := ⟨j - (us.length + 1), by omega⟩
  have e : (bgW slot seq us ++ apW slot seq us).take ((us.length + 1) + m) = bgW slot seq us ++ (apW slot seq us).take m := by
    rw [← hbl, List.take_length_add_append]
  rw [hS, e]
  by_cases h2 : m ≤ us.length
  · have e2 : (apW slot seq us).take m = (chL us).take m := by rw [apW, List.take_append_of_le_length (by rw [chL_length]; exact h2)]
    rw [e2, put_app]
    refine .inr (.inl ⟨jf_ch (bg_jf hs h5) hs.1 _ (fun x hx => (ch_place hu x (List.mem_of_mem_take hx)).2), h0, fun a a0 a1 => ?_⟩)
    by_cases hx : ∃ x ∈ chL us, x.at_.toNat = a
    · exact .inr hx
    · left
      rw [put_miss _ _ (fun x hx' e => hx ⟨x, List.mem_of_mem_take hx', e⟩)]
      exact bg_none hs.1 a a1
  · have e2 : (apW slot seq us).take m = apW slot seq us := List.take_of_length_le (by simp [apW, chL_length]; omega)
    rw [e2, put_app]
    exact .inr (.inr ⟨ap_je hs hq (by rw [put_len, e64_length]), ap_due hs.1 (by rw [put_len, e64_length]) (fun a _ a1 => .inl (bg_none hs.1 a a1))⟩)
theorem hd_sd {n seq : Int} (h : 0 ≤ n ∧ n ≤ 5) (hq : numB seq = true) : sdB (hdT n seq) = true ∧ sdN (hdT n seq) = n.toNat ∧ sdS (hdT n seq) = seq := by
  have h2 : 0 ≤ seq ∧ seq ≤ 2147483647 := by simpa [numB, inB] using hq
  have hall : allB [n, seq] = true := by simp [allB, numB, inB]; omega
  have h0 : (hdT n seq).size ≠ 0 := by rw [hdT_size]; omega
  have ho : openB (hdT n seq) 7 = true := openB_yes (rec_seal (by decide) hall (by simp)) (seal_kind (by decide) (by simp))
  have hL : sdL (hdT n seq) = [n, seq] := by
    show openL (hdT n seq) 7 = _
    rw [openL_yes ho, hdT, body_seal, un_pack hall]
  obtain ⟨r1, r2, _, r4, _⟩ := sd_yes h0 ho hL h.2
  exact ⟨r1, by omega, r4⟩
theorem read_free (S : List ByteArray) (o a : Int) : readV S [] o a = S.getD a.toNat ⟨#[]⟩ := rfl
theorem je_read {S : List ByteArray} {o h : Int} (hd : diskB S [] = true) (ho : 0 ≤ o ∧ o ≤ 3) (hh : 0 ≤ h ∧ h ≤ 3) (he : Je S (slN h)) : joC S [] o h = 0 ∧ joL S [] o h = [] ∧ joM S [] o h = [] := by
  have hz : sdB (joH S [] o h) = true ∧ sdN (joH S [] o h) = 0 := by
    rw [joH, read_free]
    rcases he with e | ⟨q, hq, e⟩
    · rw [e]; exact ⟨(sd_empty rfl).1, (sd_empty rfl).2.1⟩
    · rw [e]; exact ⟨(hd_sd (by omega) hq).1, (hd_sd (n := 0) (by omega) hq).2.1⟩
  have hf : fuB (joF S [] o h) (sdN (joH S [] o h)) = true := by rw [hz.2]; rfl
  obtain ⟨k1, k2, _⟩ := jk_yes hz.1 hf
  have hc : joC S [] o h = 0 := joC_ok (hostC_ok hd (by simp [inB]; omega)) (by simp [inB]; omega) k1
  have hl : joL S [] o h = [] := by rw [(jo_yes hc).1, k2, hz.2]; rfl
  exact ⟨hc, hl, by rw [joM, hl]; rfl⟩
theorem jf_read {S : List ByteArray} {o h seq : Int} {us : List Up} (hd : diskB S [] = true) (ho : 0 ≤ o ∧ o ≤ 3) (hh : 0 ≤ h ∧ h ≤ 3) (hq : numB seq = true) (hu : upsB us = true) (h5 : us.length ≤ 5) (h0 : us.length ≠ 0) (he : Jf S (slN h) seq us) : joC S [] o h = 0 ∧ joL S [] o h = us ∧ joM S [] o h = apL (slN h) seq us := by
  obtain ⟨z1, z2, z3⟩ := hd_sd (n := us.length) (by omega) hq
  have hH : joH S [] o h = hdT us.length seq := by rw [joH, read_free]; exact he.hd
  have hN : sdN (joH S [] o h) = us.length := by rw [hH, z2]; simp
  have hF : ∀ i (hi : i < us.length), joF S [] o h i = encU us[i] := fun i hi => by rw [joF, read_free]; exact he.tx i hi
  have hf : fuB (joF S [] o h) (sdN (joH S [] o h)) = true := by
    rw [hN]
    exact fuB_yes (fun i hi => by rw [hF i hi]; exact (enc_dec (upsB_at hu hi)).1)
  obtain ⟨k1, k2, k3⟩ := jk_yes (T := joH S [] o h) (by rw [hH]; exact z1) hf
  have hc : joC S [] o h = 0 := joC_ok (hostC_ok hd (by simp [inB]; omega)) (by simp [inB]; omega) k1
  have hl : joL S [] o h = us := by
    rw [(jo_yes hc).1, k2, hN]
    refine List.ext_getElem (by rw [fuL_length]) (fun i h1 h2 => ?_)
    simp only [fuL, List.getElem_map, List.getElem_range]
    rw [hF i h2, (enc_dec (upsB_at hu h2)).2]
  have hsq : joS S [] o h = seq := by rw [(jo_yes hc).2, k3, hH, z3]
  exact ⟨hc, hl, by rw [joM, hl, hsq, rpL, if_neg h0]⟩
def mid (S : List ByteArray) : List ByteArray := (S.drop 9).take 30
theorem mid_eq {S T : List ByteArray} (hS : S.length = 64) (hT : T.length = 64) (h : ∀ a, 9 ≤ a → a < 39 → S.getD a ⟨#[]⟩ = T.getD a ⟨#[]⟩) : mid S = mid T := by
  refine List.ext_getElem (by simp [mid, hS, hT]) (fun i h1 h2 => ?_)
  simp only [mid, List.getElem_take, List.getElem_drop]
  have hi : i < 30 := by simp [mid, hS] at h1; omega
  have := h (9 + i) (by omega) (by omega)
  rw [List.getD_eq_getElem?_getD, List.getD_eq_getElem?_getD, List.getElem?_eq_getElem (by omega), List.getElem?_eq_getElem (by omega)] at this
  exact this
end Go.Proofs.YtefnapcegeojoaaDoor

namespace Go.Proofs.YtefnapcegeojoaaDoor
open Go.RowKit
set_option linter.unusedVariables false

theorem e64_disk : diskB e64 [] = true :=
  diskB_parts.2 ⟨⟨e64_length, fun s hs => by rw [List.eq_of_mem_replicate hs]; decide⟩, by simp, fun x hx => by cases hx⟩
theorem put_disk {S : List ByteArray} {fs : List Wr} (hd : diskB S [] = true) (hf : ∀ x ∈ fs, x.data.size ≤ 80) : diskB (putW S fs) [] = true := by
  obtain ⟨⟨h1, h2⟩, h3, h4⟩ := diskB_parts.1 hd
  exact diskB_parts.2 ⟨⟨by rw [put_len]; exact h1, put_mem (P := fun s => s.size ≤ 80) fs S h2 hf⟩, h3, h4⟩
theorem ms_app {a b : List Wr} (h : msB a = true) (k : msB b = true) : msB (a ++ b) = true := by simp only [msB, List.all_append, Bool.and_eq_true]; exact ⟨h, k⟩
theorem ms_take {a : List Wr} (h : msB a = true) (k : Nat) : msB (a.take k) = true := List.all_eq_true.2 (fun x hx => List.all_eq_true.1 h x (List.mem_of_mem_take hx))
theorem ms_F : msB [mvF] = true := by decide
theorem ms_H {slot : Int} (n seq : Int) (h : 0 ≤ slot ∧ slot ≤ 63) : msB [mvH slot n seq] = true := by
  simp [msB, mvB, mvH, inB, hdT_size]; omega
theorem ms_ch {us : List Up} (hu : upsB us = true) : msB (chL us) = true := List.all_eq_true.2 (fun x hx => by
  simp only [chL, List.mem_map] at hx
  obtain ⟨u, hu', rfl⟩ := hx
  have := upB_iff.1 (List.all_eq_true.1 hu u hu')
  have e : mvB (mvW u) = (inB u.at_ 0 63 && decide (u.data.size ≤ 80)) := if_pos rfl
  rw [e, show inB u.at_ 0 63 = true by simp [inB]; omega, show decide (u.data.size ≤ 80) = true by simp; omega]
  rfl)
theorem ms_tx {slot : Int} {us : List Up} (hs : 39 ≤ slot ∧ slot ≤ 57) (hu : upsB us = true) (h5 : us.length ≤ 5) : msB (txL slot us) = true := List.all_eq_true.2 (fun x hx => by
  obtain ⟨i, hi, rfl⟩ := List.mem_iff_getElem.1 hx
  have hi' : i < us.length := by rwa [txL_length] at hi
  have := (upB_iff.1 (upsB_at hu hi')).2
  simp [txL, mvT, mvB, inB, encU_size]; omega)
theorem ms_ap {slot : Int} (seq : Int) {us : List Up} (hs : 39 ≤ slot ∧ slot ≤ 57) (hu : upsB us = true) : msB (apL slot seq us) = true := ms_app (ms_app (ms_app (ms_ch hu) ms_F) (ms_H _ _ (by omega))) ms_F
theorem ms_bg {slot : Int} (seq : Int) {us : List Up} (hs : 39 ≤ slot ∧ slot ≤ 57) (hu : upsB us = true) (h5 : us.length ≤ 5) : msB (bgL slot seq us) = true := ms_app (ms_app (ms_app (ms_tx hs hu h5) ms_F) (ms_H _ _ (by omega))) ms_F
theorem ms_pl {slot : Int} (seq : Int) {us : List Up} (hs : 39 ≤ slot ∧ slot ≤ 57) (hu : upsB us = true) (h5 : us.length ≤ 5) : msB (plL slot seq us) = true := by
  unfold plL; split
  · rfl
  · exact ms_app (ms_bg seq hs hu h5) (ms_ap seq hs hu)
theorem pl_len (slot seq : Int) (us : List Up) (h5 : us.length ≤ 5) : (plL slot seq us).length ≤ 16 := by
  unfold plL; split
  · simp
  · rw [List.length_append, bgL_length, apL_length]; omega
theorem md_free {S : List ByteArray} {o : Int} {ms : List Wr} (hd : diskB S [] = true) (ho : 0 ≤ o ∧ o ≤ 3) (hm : msB ms = true) (hl : ms.length ≤ 200) : mdC S [] o ms = 0 ∧ mdS S [] o ms = (dmL o S [] ms).1 ∧ mdX S [] o ms = (dmL o S [] ms).2 :=
  md_ok (by omega) (hostC_ok hd (by simp [inB]; omega)) hm (by simp; omega)
theorem slN_lo {h : Int} (hh : 0 ≤ h ∧ h ≤ 3) : 39 ≤ slN h ∧ slN h ≤ 57 := by unfold slN; omega
theorem jp_yes {h q : Int} {us : List Up} (hh : 0 ≤ h ∧ h ≤ 3) (hq : numB q = true) (hu : upsB us = true) (h5 : us.length ≤ 5) : jpC h q us = 0 ∧ jpL h q us = plL (slN h) q us := by
  have e : jpC h q us = 0 := by rw [jpC_list (by omega) (by simp [inB]; omega) hq, fuC_ok (by omega) hu]
  exact ⟨e, jpL_yes e⟩
theorem short_of {ms : List Wr} (h : short ms) : ∀ x ∈ wrs ms, x.data.size ≤ 80 := fun x hx => h x (List.mem_filter.1 hx).1
theorem own_64 {w : World} {B n pa : Nat} {po : Option Addr} {ss : List ByteArray} (h : OwnR w B 9 1 (.slice po n pa) n (strV ss)) (hn : n = 64) : ∃ g, po = some ⟨g, 0, none⟩ ∧ 64 ≤ pa ∧ B ≤ g ∧ g < w.heap.size := by
  subst hn
  rcases h with ⟨h0, _⟩ | ⟨h0, h⟩
  · cases h0
  · rcases h.2 with ⟨e, h1⟩ | ⟨g, cap, cur, e, hB, hg, hc, _⟩
    · cases h1
    · simp only [Value.slice.injEq, true_and] at e
      obtain ⟨rfl, rfl⟩ := e
      exact ⟨g, rfl, hc, hB, (Array.getElem?_eq_some_iff.1 hg).1⟩
theorem ss_mid {w : World} {g : Nat} {S : List ByteArray} (h : Ss w (some ⟨g, 0, none⟩) S) (hS : S.length = 64) : Ss w (some ⟨g, 9, none⟩) (mid S) := fun i hi => by
  have hi' : i < 30 := by simp [mid, hS] at hi; omega
  obtain ⟨b, off, e, hc, hz⟩ := h (9 + i) (by omega)
  simp only [Option.some.injEq, Addr.mk.injEq, and_true] at e
  obtain ⟨rfl, rfl⟩ := e
  refine ⟨g, 9, rfl, ?_, ?_⟩
  · simp only [mid, List.getElem_take, List.getElem_drop]
    rw [Nat.zero_add] at hc; exact hc
  · simp only [mid, List.getElem_take, List.getElem_drop]; exact hz
theorem mid_len {S : List ByteArray} (hS : S.length = 64) : (mid S).length = 30 := by simp [mid, hS]
theorem due_take {us : List Up} {k : Nat} (hk : k < us.length) : putW e64 ((chL us).take (k + 1)) = (putW e64 ((chL us).take k)).set us[k].at_.toNat us[k].data := by
  rw [chL_take hk, put_snoc]; rfl
end Go.Proofs.YtefnapcegeojoaaDoor

namespace Go.Proofs.YtefnapcegeojoaaDoor
open Go.RowKit
set_option linter.unusedVariables false

structure Rpl (S : List ByteArray) (o h : Int) (R : List Wr) (Z : List ByteArray) : Prop where
  c : joC S [] o h = 0
  m : joM S [] o h = R
  l : R.length ≤ 8
  s : short R
  dc : mdC S [] o R = 0
  ds : mdS S [] o R = Z
  dx : mdX S [] o R = []
  d : diskB Z [] = true
  e : Je Z (slN h)
theorem rpl_none {S : List ByteArray} {o h : Int} (hd : diskB S [] = true) (ho : 0 ≤ o ∧ o ≤ 3) (hh : 0 ≤ h ∧ h ≤ 3) (he : Je S (slN h)) : Rpl S o h [] S := by
  obtain ⟨k1, _, k3⟩ := je_read hd ho hh he
  obtain ⟨m1, m2, m3⟩ := md_free (ms := []) hd ho rfl (by simp)
  exact ⟨k1, k3, by simp, short_nil, m1, m2, m3, hd, he⟩
theorem rpl_some {S : List ByteArray} {o h q : Int} {us : List Up} (hd : diskB S [] = true) (ho : 0 ≤ o ∧ o ≤ 3) (hh : 0 ≤ h ∧ h ≤ 3) (hq : numB q = true) (hu : upsB us = true) (h5 : us.length ≤ 5) (h0 : us.length ≠ 0) (he : Jf S (slN h) q us) :
    Rpl S o h (apL (slN h) q us) (putW S (apW (slN h) q us)) := by
  have hs := slN_lo hh
  obtain ⟨k1, _, k3⟩ := jf_read hd ho hh hq hu h5 h0 he
  have hl : (apL (slN h) q us).length ≤ 8 := by rw [apL_length]; omega
  obtain ⟨m1, m2, m3⟩ := md_free (o := o) (ms := apL (slN h) q us) hd ho (ms_ap q hs hu) (by omega)
  rw [ap_do] at m2 m3
  exact ⟨k1, k3, hl, short_ap hu, m1, m2, m3, put_disk hd (fun x hx => by rw [← wrs_ap] at hx; exact short_of (short_ap hu) x hx), ap_je hs hq (diskB_len hd).1⟩
structure Crs (S : List ByteArray) (h : Int) (ms : List Wr) (n : Nat) (X1 : List ByteArray) (X2 : List Wr) (T : List ByteArray) : Prop where
  dc : mdC S [] h ms = 0
  ds : mdS S [] h ms = X1
  dx : mdX S [] h ms = X2
  d : diskB X1 X2 = true
  t : putW X1 ((ofH h X2).take n) = T
  x : dropF h X2 = []
  dt : diskB T [] = true
theorem crs {S : List ByteArray} {h : Int} {ms : List Wr} (hd : diskB S [] = true) (hh : 0 ≤ h ∧ h ≤ 3) (hm : msB ms = true) (hl : ms.length ≤ 200) (hs : short ms) (k n : Nat) : ∃ X1 X2 j, Crs S h (ms.take k) n X1 X2 (putW S ((wrs ms).take j)) := by
  have hl' : (ms.take k).length ≤ 200 := by rw [List.length_take]; omega
  obtain ⟨m1, m2, m3⟩ := md_free hd hh (ms_take hm k) hl'
  obtain ⟨j, e1, e2⟩ := dm_crash h ms S k n
  have hr := (dmL_right hh hd (ms_take hm k) (by simp only [List.length_nil]; omega) (ms.take k).length (Nat.le_refl _)).1
  rw [List.take_of_length_le (Nat.le_refl _)] at hr
  exact ⟨_, _, j, m1, m2, m3, hr, e1, e2, put_disk hd (fun x hx => short_of hs x (List.mem_of_mem_take hx))⟩
theorem jr_atomic {h o q : Int} {us : List Up} (hh : 0 ≤ h ∧ h ≤ 3) (ho : 0 ≤ o ∧ o ≤ 3) (hq : numB q = true) (hu : upsB us = true) (h5 : us.length ≤ 5) (k n : Nat) :
    ∃ X1 X2 S R Z, Crs e64 h ((plL (slN h) q us).take k) n X1 X2 S ∧ Rpl S o h R Z ∧ (mid Z = mid e64 ∨ mid Z = mid (due us)) := by
  have hs := slN_lo hh
  have hD : (due us).length = 64 := by rw [due, put_len, e64_length]
  obtain ⟨X1, X2, j, hc⟩ := crs e64_disk hh (ms_pl q hs hu h5) (Nat.le_trans (pl_len (slN h) q us h5) (by omega)) (short_pl hu) k n
  have hl := (diskB_len hc.dt).1
  rcases jr_crash (seq := q) hs hq hu h5 j with ⟨a1, a2⟩ | ⟨b1, b2, b3⟩ | ⟨c1, c2⟩
  · exact ⟨X1, X2, _, _, _, hc, rpl_none hc.dt ho hh a1, .inl (mid_eq hl e64_length (fun a x y => by rw [a2 a x y, e64_get]))⟩
  · exact ⟨X1, X2, _, _, _, hc, rpl_some hc.dt ho hh hq hu h5 b2 b1, .inr (mid_eq (by rw [put_len]; exact hl) hD (ap_due hs.1 hl b3))⟩
  · exact ⟨X1, X2, _, _, _, hc, rpl_none hc.dt ho hh c1, .inr (mid_eq hl hD c2)⟩
end Go.Proofs.YtefnapcegeojoaaDoor

namespace Go.Proofs.YtefnapcegeojoaaDoor
open Go.RowKit
set_option linter.unusedVariables false
set_option maxRecDepth 100000

set_option maxHeartbeats 1600000 in
theorem placeFault_any (ao bo : Option Addr) (ca cb : Nat) (ss : List ByteArray) (xs : List Wr) (h a : Int) (w : World) (hl : ss.length ≤ maxLen) (hm : xs.length ≤ maxLen) (h1 : Ss w ao ss) (h2 : Ios w bo xs) :
    Calls Tryd.prog 65 #[.agg #[.slice ao ss.length ca, .slice bo xs.length cb], .int .i64 h, .int .i64 a] w fun e w' => e = .returned (.int .i64 (askC ss xs h a)) ∧ Below w.heap.size w w' := by
  have HA := hide (Joins.below_alloc1 w (.cells #[.slice ao ss.length ca, .slice bo xs.length cb] 32))
  have H1 := hide (h1.below (unhide HA))
  have H2 := hide (h2.below (unhide HA))
  have HL := hide hl
  have HM := hide hm
  clear h1 h2 hl hm
  by_cases hc : hostC ss xs h = 0
  · have hb : (hostC ss xs h != 0) = false := by simp [hc]
    cases hh : inB a 0 63
    · have H := hide (askC_place hc hh)
      clear hc
      go_enter Tryd.func65, Tryd.ntmps65
      go_wp2_with fail
      refine (hostFault_any _ _ _ _ ss xs h _ (unhide HL) (unhide HM) (unhide H1) (unhide H2)).mono ?_
      rintro e w1 ⟨rfl, hb⟩
      have HB := hide (fr (unhide HA) hb)
      clear hb
      go_wp2_with (go_at_call 64; refine (placeOK_any _ _).mono ?_; rintro e w' ⟨rfl, rfl⟩)
      go_ret
      exact ⟨ret_int (unhide H).symm, unhide HB⟩
    · have H := hide (askC_ok hc hh)
      clear hc
      go_enter Tryd.func65, Tryd.ntmps65
      go_wp2_with fail
      refine (hostFault_any _ _ _ _ ss xs h _ (unhide HL) (unhide HM) (unhide H1) (unhide H2)).mono ?_
      rintro e w1 ⟨rfl, hb⟩
      have HB := hide (fr (unhide HA) hb)
      clear hb
      go_wp2_with (go_at_call 64; refine (placeOK_any _ _).mono ?_; rintro e w' ⟨rfl, rfl⟩)
      go_ret
      exact ⟨ret_int (unhide H).symm, unhide HB⟩
  · have H := hide (askC_host (a := a) hc)
    have hb : (hostC ss xs h != 0) = true := by simp [hc]
    clear hc
    go_enter Tryd.func65, Tryd.ntmps65
    go_wp2_with fail
    refine (hostFault_any _ _ _ _ ss xs h _ (unhide HL) (unhide HM) (unhide H1) (unhide H2)).mono ?_
    rintro e w1 ⟨rfl, hb⟩
    have HB := hide (fr (unhide HA) hb)
    clear hb
    go_wp2
    go_ret
    exact ⟨ret_int (unhide H).symm, unhide HB⟩

end Go.Proofs.YtefnapcegeojoaaDoor

namespace Go.Proofs.YtefnapcegeojoaaDoor
open Go.RowKit
set_option linter.unusedVariables false
set_option maxRecDepth 100000

theorem ret_rs {a b : ByteArray} (h : a = b) : Ending.returned (.string a) = .returned (.string b) := by rw [h]
theorem no_succ {xs : List Wr} {h a : Int} {k : Nat} (hk : k < xs.length) (hn : ∀ j (hj : j < xs.length), (k : Int) < j → ¬ mat xs[j] h a) (hx : ¬ mat xs[k] h a) : ∀ j (hj : j < xs.length), (k : Int) - 1 < j → ¬ mat xs[j] h a := by
  intro j hj hlt
  by_cases e : j = k
  · subst e; exact hx
  · exact hn j hj (by omega)

set_option maxHeartbeats 1600000 in
theorem seenBy_any (ao bo : Option Addr) (ca cb : Nat) (ss : List ByteArray) (xs : List Wr) (h : Int) (n : Nat) (w : World) (hlx : xs.length ≤ 200) (hn : n < ss.length) (hq : ss.length ≤ 1048576) (h1 : Ss w ao ss) (h2 : Ios w bo xs) :
    Calls Tryd.prog 46 #[.agg #[.slice ao ss.length ca, .slice bo xs.length cb], .int .i64 h, .int .i64 n] w fun e w' => e = .returned (.string (readV ss xs h n)) ∧ Below w.heap.size w w' := by
  have HA := hide (Joins.below_alloc1 w (.cells #[.slice ao ss.length ca, .slice bo xs.length cb] 32))
  have H1' := hide (h1.below (unhide HA))
  have H2' := hide (h2.below (unhide HA))
  have hc0 : (w.alloc (.cells #[.slice ao ss.length ca, .slice bo xs.length cb] 32)).cell? ⟨w.heap.size, 0, none⟩ = some (.slice ao ss.length ca) := by simp [go_sem]
  have hc1 : (w.alloc (.cells #[.slice ao ss.length ca, .slice bo xs.length cb] 32)).cell? ⟨w.heap.size, 1, none⟩ = some (.slice bo xs.length cb) := by simp [go_sem]
  have HC0 := hide hc0
  have HC1 := hide hc1
  have hlt : w.heap.size < (w.alloc (.cells #[.slice ao ss.length ca, .slice bo xs.length cb] 32)).heap.size := by simp
  clear h1 h2 hc0 hc1
  go_enter Tryd.func46, Tryd.ntmps46
  go_wp2
  revert HA H1' H2' HC0 HC1 hlt
  generalize w.alloc (.cells #[.slice ao ss.length ca, .slice bo xs.length cb] 32) = w1
  intro HA H1' H2' HC0 HC1 hlt
  go_loopw [7, 8] (fun i _ wr => ∃ m : Int, i = .int .i64 m ∧ -1 ≤ m ∧ m < xs.length ∧ Hid (∀ j (hj : j < xs.length), m < j → ¬ mat xs[j] h n) ∧ Hid (Below w1.heap.size w1 wr)) (fun i _ _ => (intOf i + 1).toNat)
  case atStart => exact ⟨_, rfl, by omega, by omega, hide (fun j hj hlt => by omega), hide (Below.refl _ _)⟩
  case round =>
    obtain ⟨m, rfl, hm0, hm1, HN, HB⟩ := hrel
    have hc0 : wr.cell? ⟨w.heap.size, 0, none⟩ = some (.slice ao ss.length ca) := ((unhide HB).cell (World.block_lt_of_cell? _ _ (unhide HC0))).trans (unhide HC0)
    have hc1 : wr.cell? ⟨w.heap.size, 1, none⟩ = some (.slice bo xs.length cb) := ((unhide HB).cell (World.block_lt_of_cell? _ _ (unhide HC1))).trans (unhide HC1)
    by_cases hge : 0 ≤ m
    · obtain ⟨k, rfl⟩ := Int.eq_ofNat_of_zero_le hge
      have hk : k < xs.length := by omega
      obtain ⟨b, off, rfl, hd0, hd1, hd2, hz⟩ := (unhide H2').below (unhide HB) k hk
      clear hz
      have HBA := hide (fun o => (unhide HB).alloc (unhide HB).size o)
      by_cases e0 : xs[k].host = h
      · have b0 : (xs[k].host == h) = true := by simp [e0]
        by_cases e1 : xs[k].at_ = n
        · have b1 : (xs[k].at_ == (n : Int)) = true := by simp [e1]
          have H := hide (readV_hit (ss := ss) hk ⟨e0, e1⟩ (fun j hj hlt => unhide HN j hj (by omega)))
          clear e0 e1
          go_wp2
          go_ret
          exact ⟨ret_rs (unhide H).symm, fr (unhide HA) (unhide HBA _)⟩
        · have b1 : (xs[k].at_ == (n : Int)) = false := by simp [e1]
          have HX := hide (no_succ hk (unhide HN) (fun hx => e1 hx.2))
          clear e0 e1
          go_wp2
          go_roundw
          case rel => exact ⟨_, rfl, by omega, by omega, HX, hide (unhide HBA _)⟩
          case measure => simp [intOf]
      · have b0 : (xs[k].host == h) = false := by simp [e0]
        have HX := hide (no_succ hk (unhide HN) (fun hx => e0 hx.1))
        clear e0
        go_wp2
        go_roundw
        case rel => exact ⟨_, rfl, by omega, by omega, HX, hide (unhide HBA _)⟩
        case measure => simp [intOf]
    · obtain ⟨b, off, rfl, hc, hz⟩ := (unhide H1').below (unhide HB) n hn
      clear hz
      have hg : ss.getD ((n : Int).toNat) ⟨#[]⟩ = ss[n] := by simp [List.getD, hn]
      have H := hide ((readV_none (ss := ss) (fun j hj => unhide HN j hj (by omega))).trans hg)
      clear hg
      go_wp2
      go_ret
      exact ⟨ret_rs (unhide H).symm, fr (unhide HA) (unhide HB)⟩

end Go.Proofs.YtefnapcegeojoaaDoor

namespace Go.Proofs.YtefnapcegeojoaaDoor
open Go.RowKit
set_option linter.unusedVariables false

def wrC (ss : List ByteArray) (xs : List Wr) (h a : Int) (d : ByteArray) : Int := if 65536 < d.size then 2 else if askC ss xs h a = 0 then (if 80 < d.size then 4 else if xs.length = 200 then 7 else 0) else askC ss xs h a
def wrS (ss : List ByteArray) (xs : List Wr) (h a : Int) (d : ByteArray) : List ByteArray := if 65536 < d.size then [] else if askC ss xs h a = 0 then ss else []
def wrX (ss : List ByteArray) (xs : List Wr) (h a : Int) (d : ByteArray) : List Wr := if 65536 < d.size then [] else if askC ss xs h a = 0 then (if 80 < d.size then xs else if xs.length = 200 then xs else xs ++ [⟨h, a, d⟩]) else []
theorem wr_long {ss : List ByteArray} {xs : List Wr} {h a : Int} {d : ByteArray} (h1 : 65536 < d.size) : wrS ss xs h a d = [] ∧ wrX ss xs h a d = [] ∧ wrC ss xs h a d = 2 := by simp [wrS, wrX, wrC, h1]
theorem wr_ask {ss : List ByteArray} {xs : List Wr} {h a : Int} {d : ByteArray} (h1 : ¬ 65536 < d.size) (h2 : askC ss xs h a ≠ 0) : wrS ss xs h a d = [] ∧ wrX ss xs h a d = [] ∧ wrC ss xs h a d = askC ss xs h a := by simp [wrS, wrX, wrC, h1, h2]
theorem wr_range {ss : List ByteArray} {xs : List Wr} {h a : Int} {d : ByteArray} (h1 : ¬ 65536 < d.size) (h2 : askC ss xs h a = 0) (h3 : 80 < d.size) : wrS ss xs h a d = ss ∧ wrX ss xs h a d = xs ∧ wrC ss xs h a d = 4 := by simp [wrS, wrX, wrC, h1, h2, h3]
theorem wr_full {ss : List ByteArray} {xs : List Wr} {h a : Int} {d : ByteArray} (h1 : ¬ 65536 < d.size) (h2 : askC ss xs h a = 0) (h3 : ¬ 80 < d.size) (h4 : xs.length = 200) : wrS ss xs h a d = ss ∧ wrX ss xs h a d = xs ∧ wrC ss xs h a d = 7 := by simp [wrS, wrX, wrC, h1, h2, h3, h4]
theorem wr_ok {ss : List ByteArray} {xs : List Wr} {h a : Int} {d : ByteArray} (h1 : ¬ 65536 < d.size) (h2 : askC ss xs h a = 0) (h3 : ¬ 80 < d.size) (h4 : ¬ xs.length = 200) : wrS ss xs h a d = ss ∧ wrX ss xs h a d = xs ++ [⟨h, a, d⟩] ∧ wrC ss xs h a d = 0 := by simp [wrS, wrX, wrC, h1, h2, h3, h4]
end Go.Proofs.YtefnapcegeojoaaDoor
