import Derived.Test.YtjmianalknnekabDoorPart1
import Derived.Test.YtjmianalknnekabDoorPart5
import Derived.Test.YtjmianalknnekabDoorPart7
import Derived.Test.YtjmianalknnekabDoorPart4
import Derived.WalkKit
import Derived.Test.YtjmianalknnekabDoorRows
import Derived.WalkSpells
import Derived.Test.YtjmianalknnekabDoorPart2
import Derived.Test.YtjmianalknnekabDoorPart3

/- Plain: what waits in a slot, as a host reads it. -/
namespace Go.Proofs.YtjmianalknnekabDoor
open Go.RowKit
set_option linter.unusedVariables false

theorem bytes0 {t : ByteArray} (h : t.size = 0) : t = ⟨#[]⟩ := by
  cases t with
  | mk a => cases a with
    | mk l => cases l with
      | nil => rfl
      | cons x xs => simp [ByteArray.size] at h
theorem text_full {t : ByteArray} (h : t.size ≠ 0) : t.toList.isEmpty = false := by
  rw [ByteArray.toList_eq]
  cases t with
  | mk a => cases a with
    | mk l => cases l with
      | nil => exact absurd rfl h
      | cons x xs => rfl
/-- What a slot's head says. -/
def sdL (t : ByteArray) : List Int := openL t 7
def sdB (t : ByteArray) : Bool := decide (t.size = 0) || (openB t 7 && (decide ((sdL t).length = 2) && decide ((sdL t).getD 0 0 ≤ 5)))
def sdN (t : ByteArray) : Nat := if t.size = 0 then 0 else ((sdL t).getD 0 0).toNat
def sdS (t : ByteArray) : Int := if t.size = 0 then 0 else (sdL t).getD 1 0
theorem two_ofJ {l : List Int} (h : l.length = 2) : ∃ a b, l = [a, b] := by
  match l, h with
  | [a, b], _ => exact ⟨a, b, rfl⟩
theorem open_numsJ {t : ByteArray} {k : Int} (h : openB t k = true) : ∀ x ∈ openL t k, 0 ≤ x ∧ x ≤ 2147483647 := by
  intro x hx
  rw [openL_yes h] at hx
  simp only [openB, Bool.and_eq_true] at h
  obtain ⟨_, _, _, _, _, hu⟩ := recB_iff.1 h.1
  obtain ⟨j, hj, rfl⟩ := List.mem_iff_getElem.1 hx
  exact (intsB_parts (okU_parts hu).2.2).1 j hj
theorem sd_empty {t : ByteArray} (h : t.size = 0) : sdB t = true ∧ sdN t = 0 ∧ sdS t = 0 := by simp [sdB, sdN, sdS, h]
theorem sd_shut {t : ByteArray} (h : t.size ≠ 0) (ho : openB t 7 = false) : sdB t = false := by simp [sdB, h, ho]
theorem sd_len {t : ByteArray} (h : t.size ≠ 0) (hl : ¬ (sdL t).length = 2) : sdB t = false := by simp [sdB, h, hl]
theorem sd_many {t : ByteArray} {a b : Int} (h : t.size ≠ 0) (hl : sdL t = [a, b]) (ha : ¬ a ≤ 5) : sdB t = false := by simp [sdB, h, hl, ha]
theorem sd_yes {t : ByteArray} {a b : Int} (h : t.size ≠ 0) (ho : openB t 7 = true) (hl : sdL t = [a, b]) (ha : a ≤ 5) : sdB t = true ∧ (sdN t : Int) = a ∧ sdN t ≤ 5 ∧ sdS t = b ∧ numB b = true := by
  have h0 := open_numsJ ho a (by rw [show openL t 7 = [a, b] from hl]; simp)
  have h1 := open_numsJ ho b (by rw [show openL t 7 = [a, b] from hl]; simp)
  have e : sdN t = a.toNat := by rw [sdN, if_neg h, hl]; rfl
  refine ⟨by simp [sdB, h, ho, hl, ha], ?_, ?_, ?_, ?_⟩
  · rw [e]; omega
  · rw [e]; omega
  · rw [sdS, if_neg h, hl]; rfl
  · simp [numB, inB]; omega
theorem sd_seq {t : ByteArray} (h : sdB t = true) (hn : sdN t ≠ 0) : numB (sdS t) = true ∧ sdN t ≤ 5 := by
  by_cases h0 : t.size = 0
  · exact absurd (sd_empty h0).2.1 hn
  · by_cases ho : openB t 7 = false
    · rw [sd_shut h0 ho] at h; cases h
    rw [Bool.not_eq_false] at ho
    by_cases hl : (sdL t).length = 2
    · obtain ⟨a, b, e⟩ := two_ofJ hl
      by_cases ha : a ≤ 5
      · obtain ⟨_, _, h3, h4, h5⟩ := sd_yes h0 ho e ha
        rw [h4]; exact ⟨h5, h3⟩
      · rw [sd_many h0 e ha] at h; cases h
    · rw [sd_len h0 hl] at h; cases h
theorem sdN_le {t : ByteArray} (h : sdB t = true) : sdN t ≤ 5 := by
  by_cases hn : sdN t = 0
  · omega
  · exact (sd_seq h hn).2
/-- The updates that wait, text by text. -/
def fuL (F : Nat → ByteArray) (n : Nat) : List Up := (List.range n).map fun i => duU (F i)
def fuB (F : Nat → ByteArray) (n : Nat) : Bool := (List.range n).all fun i => duB (F i)
theorem fuL_length (F : Nat → ByteArray) (n : Nat) : (fuL F n).length = n := by simp [fuL]
theorem fuL_take {F : Nat → ByteArray} {n k : Nat} (h : k < n) : (fuL F n).take (k + 1) = (fuL F n).take k ++ [duU (F k)] := by
  rw [List.take_succ_eq_append_getElem (by rw [fuL_length]; exact h)]; simp [fuL]
theorem fuL_done {F : Nat → ByteArray} {n k : Nat} (h : n ≤ k) : (fuL F n).take k = fuL F n := List.take_of_length_le (by rw [fuL_length]; exact h)
theorem fuB_yes {F : Nat → ByteArray} {n : Nat} (h : ∀ i, i < n → duB (F i) = true) : fuB F n = true := by
  simp only [fuB, List.all_eq_true, List.mem_range]; exact h
theorem fuB_no {F : Nat → ByteArray} {n k : Nat} (hk : k < n) (h : duB (F k) = false) : fuB F n = false := by
  cases hb : fuB F n with
  | false => rfl
  | true =>
    simp only [fuB, List.all_eq_true, List.mem_range] at hb
    rw [hb k hk] at h; cases h
theorem fuB_at {F : Nat → ByteArray} {n : Nat} (h : fuB F n = true) : ∀ i, i < n → duB (F i) = true := by
  simp only [fuB, List.all_eq_true, List.mem_range] at h; exact h
theorem fu_right {F : Nat → ByteArray} {n : Nat} (h : fuB F n = true) : upsB (fuL F n) = true := by
  simp only [upsB, fuL, List.all_map, List.all_eq_true, List.mem_range, Function.comp_apply]
  exact fun i hi => du_right (fuB_at h i hi)
def joF (ss : List ByteArray) (xs : List Wr) (h o : Int) : Nat → ByteArray := fun i => readV ss xs h (slN o + 1 + (i : Int))
def joH (ss : List ByteArray) (xs : List Wr) (h o : Int) : ByteArray := readV ss xs h (slN o)
/-- .. of a head's text T and the updates' texts F. -/
def jkB (T : ByteArray) (F : Nat → ByteArray) : Bool := sdB T && fuB F (sdN T)
def jkL (T : ByteArray) (F : Nat → ByteArray) : List Up := if jkB T F = true then fuL F (sdN T) else []
def jkS (T : ByteArray) (F : Nat → ByteArray) : Int := if jkB T F = true then sdS T else 0
theorem jk_shut {T : ByteArray} {F : Nat → ByteArray} (h : sdB T = false) : jkB T F = false ∧ jkL T F = [] ∧ jkS T F = 0 := by
  have e : jkB T F = false := by simp [jkB, h]
  exact ⟨e, if_neg (by simp [e]), if_neg (by simp [e])⟩
theorem jk_bad {T : ByteArray} {F : Nat → ByteArray} (h : fuB F (sdN T) = false) : jkB T F = false ∧ jkL T F = [] ∧ jkS T F = 0 := by
  have e : jkB T F = false := by simp [jkB, h]
  exact ⟨e, if_neg (by simp [e]), if_neg (by simp [e])⟩
theorem jk_yes {T : ByteArray} {F : Nat → ByteArray} (h : sdB T = true) (hf : fuB F (sdN T) = true) : jkB T F = true ∧ jkL T F = fuL F (sdN T) ∧ jkS T F = sdS T := by
  have e : jkB T F = true := by simp [jkB, h, hf]
  exact ⟨e, if_pos e, if_pos e⟩
theorem jk_right (T : ByteArray) (F : Nat → ByteArray) : upsB (jkL T F) = true ∧ (jkL T F).length ≤ 5 ∧ ((jkL T F).length ≠ 0 → numB (jkS T F) = true) := by
  by_cases h : jkB T F = true
  · have h' := h
    simp only [jkB, Bool.and_eq_true] at h'
    obtain ⟨_, e1, e2⟩ := jk_yes h'.1 h'.2
    rw [e1, e2, fuL_length]
    exact ⟨fu_right h'.2, sdN_le h'.1, fun hn => (sd_seq h'.1 hn).1⟩
  · have e1 : jkL T F = [] := if_neg h
    rw [e1]
    exact ⟨rfl, by simp, fun h => absurd rfl h⟩
/-- What JournalOf and ReplayPlan answer. -/
def joC (ss : List ByteArray) (xs : List Wr) (h o : Int) : Int := if hostC ss xs h = 0 then (if inB o 0 3 = true then (if jkB (joH ss xs h o) (joF ss xs h o) = true then 0 else 18) else 4) else hostC ss xs h
def joL (ss : List ByteArray) (xs : List Wr) (h o : Int) : List Up := if joC ss xs h o = 0 then jkL (joH ss xs h o) (joF ss xs h o) else []
def joS (ss : List ByteArray) (xs : List Wr) (h o : Int) : Int := if joC ss xs h o = 0 then jkS (joH ss xs h o) (joF ss xs h o) else 0
def joM (ss : List ByteArray) (xs : List Wr) (h o : Int) : List Wr := rpL (slN o) (joS ss xs h o) (joL ss xs h o)
theorem joC_host {ss : List ByteArray} {xs : List Wr} {h o : Int} (e : hostC ss xs h ≠ 0) : joC ss xs h o = hostC ss xs h := if_neg e
theorem joC_range {ss : List ByteArray} {xs : List Wr} {h o : Int} (e : hostC ss xs h = 0) (e1 : inB o 0 3 = false) : joC ss xs h o = 4 := by rw [joC, if_pos e, if_neg (by simp [e1])]
theorem joC_broken {ss : List ByteArray} {xs : List Wr} {h o : Int} (e : hostC ss xs h = 0) (e1 : inB o 0 3 = true) (e2 : jkB (joH ss xs h o) (joF ss xs h o) = false) : joC ss xs h o = 18 := by rw [joC, if_pos e, if_pos e1, if_neg (by simp [e2])]
theorem joC_ok {ss : List ByteArray} {xs : List Wr} {h o : Int} (e : hostC ss xs h = 0) (e1 : inB o 0 3 = true) (e2 : jkB (joH ss xs h o) (joF ss xs h o) = true) : joC ss xs h o = 0 := by rw [joC, if_pos e, if_pos e1, if_pos e2]
theorem jo_no {ss : List ByteArray} {xs : List Wr} {h o : Int} (e : joC ss xs h o ≠ 0) : joL ss xs h o = [] ∧ joS ss xs h o = 0 ∧ joM ss xs h o = [] := by
  have e1 : joL ss xs h o = [] := if_neg e
  exact ⟨e1, if_neg e, by rw [joM, e1]; rfl⟩
theorem jo_yes {ss : List ByteArray} {xs : List Wr} {h o : Int} (e : joC ss xs h o = 0) : joL ss xs h o = jkL (joH ss xs h o) (joF ss xs h o) ∧ joS ss xs h o = jkS (joH ss xs h o) (joF ss xs h o) := ⟨if_pos e, if_pos e⟩
theorem jo_right (ss : List ByteArray) (xs : List Wr) (h o : Int) : upsB (joL ss xs h o) = true ∧ (joL ss xs h o).length ≤ 5 ∧ ((joL ss xs h o).length ≠ 0 → numB (joS ss xs h o) = true) := by
  by_cases e : joC ss xs h o = 0
  · rw [(jo_yes e).1, (jo_yes e).2]; exact jk_right _ _
  · rw [(jo_no e).1]; exact ⟨rfl, by simp, fun h => absurd rfl h⟩
theorem upB_size {us : List Up} (h : upsB us = true) : ∀ x ∈ us, x.data.size ≤ maxLen := fun x hx => by
  have := (upB_iff.1 (List.all_eq_true.1 h x hx)).2
  unfold maxLen; omega
/-- A row of updates that grows, of the call's own. -/
structure UpS (w W : World) (qo : Option Addr) (n qa : Nat) (us : List Up) : Prop where
  o : OwnR W w.heap.size 49 2 (.slice qo n qa) n (upsV us)
  k : Below w.heap.size w W
theorem UpS.next {w W W' : World} {qo : Option Addr} {n qa : Nat} {us : List Up} (h : UpS w W qo n qa us) (hb : Below W.heap.size W W') : UpS w W' qo n qa us := ⟨h.o.below hb, fr h.k hb⟩
def upV (x : Up) : List Value := [.int .i64 x.at_, .string x.data]
theorem upV_one (x : Up) : ∀ u ∈ upV x, u.oneCell' = true := by
  intro u hu
  simp [upV] at hu
  rcases hu with rfl | rfl <;> rfl
theorem UpS.one {w W W' : World} {qo : Option Addr} {n qa g cap : Nat} {us : List Up} {x : Up} (h : UpS w W qo n qa us)
    (ho : W'.ownsRow w.heap.size 49 2 (.slice (some ⟨g, 0, none⟩) (n + 1) cap) (n + 1) (upsV us ++ upV x)) (hk : Keep (Own (.slice qo n qa)) W W') : UpS w W' (some ⟨g, 0, none⟩) (n + 1) cap (us ++ [x]) := by
  refine ⟨.inr ⟨by omega, ?_⟩, belowKp h.k hk (fun j hj => (h.o.ge j hj).1)⟩
  rw [upsV_append]; exact ho
theorem UpS.sz {w W : World} {qo : Option Addr} {n qa : Nat} {us : List Up} (h : UpS w W qo n qa us) : w.heap.size ≤ W.heap.size := h.k.size
theorem UpS.len {w W : World} {qo : Option Addr} {n qa : Nat} {us : List Up} (h : UpS w W qo n qa us) : n = us.length := by
  have := h.o.len; rw [upsV_length] at this; omega
theorem UpS.ups {w W : World} {qo : Option Addr} {n qa : Nat} {us : List Up} (h : UpS w W qo n qa us) (hz : upsB us = true) : Ups W qo us := by
  have e := h.len
  subst e
  exact ownUps h.o (upB_size hz)
theorem news2_at (w : World) (n : Nat) (x : Up) (t : TypeId) (hn : w.heap.size = n) : ∀ j u, (upV x)[j]? = some u → (w.alloc (.cells #[.int .i64 x.at_, .string x.data] t)).cell? ((⟨n, 0, none⟩ : Addr).add j) = some u := by
  subst hn
  exact World.news_of_block (cs := #[.int .i64 x.at_, .string x.data]) (heap_alloc_new w _)
/-- An update that a statement lays into a new variable. -/
structure GotU (W0 W : World) (C : Nat) (t : TypeId) (u : Up) : Prop where
  k : Below W0.heap.size W0 W
  v : VarU W C t u
  c : W0.heap.size ≤ C
theorem GotU.top {W0 W : World} (t : TypeId) (u : Up) (h : Below W0.heap.size W0 W) : GotU W0 (W.alloc (.cells #[.int .i64 u.at_, .string u.data] t)) W.heap.size t u := ⟨belowAl h _, VarU.new W t u, h.size⟩
theorem GotU.set {W0 W : World} {t : TypeId} {u u0 : Up} {C : Nat} (h : Below W0.heap.size W0 W) (hv : VarU W C t u0) (hC : W0.heap.size ≤ C) : GotU W0 ((W.setCell ⟨C, 0, none⟩ (.int .i64 u.at_)).setCell ⟨C, 1, none⟩ (.string u.data)) C t u :=
  ⟨below2 h hC 0 1 _ _, Joins.block_setCell (i := 1) (Joins.block_setCell (i := 0) hv _) _, hC⟩
end Go.Proofs.YtjmianalknnekabDoor

/- Contract of spec.l01New. -/
namespace Go.Proofs.YtjmianalknnekabDoor
open Go.RowKit
set_option linter.unusedVariables false
set_option maxRecDepth 100000

def noSs : List ByteArray := List.replicate 64 ⟨#[]⟩
theorem noSs_cells : (madeCells #[Value.string ⟨#[]⟩] 64).toList = strV noSs := by rw [toList_madeCells_one]; simp [strV, noSs]
theorem noSs_len : noSs.length = 64 := by simp [noSs]
theorem info9' : (Tryd.prog.info? 9).map (fun i => (i.zero, i.size, i.bytes)) = some (some (.string ⟨#[]⟩), 1, 16) := by kernel_rfl

theorem noSs_own {w : World} {B g : Nat} (h : w.ownsRow B 9 1 (.slice (some ⟨g, 0, none⟩) 64 64) 64 (madeCells #[Value.string ⟨#[]⟩] 64).toList) : w.ownsRow B 9 1 (.slice (some ⟨g, 0, none⟩) 64 64) 64 (strV noSs) := by
  rw [noSs_cells] at h; exact h

end Go.Proofs.YtjmianalknnekabDoor

/- Plain facts on records, of no program: what is packed is read back, what is sealed is opened. -/
namespace Go.Proofs.YtjmianalknnekabDoor
open Go.RowKit
set_option linter.unusedVariables false

theorem allB_in {xs : List Int} (h : allB xs = true) : ∀ j (hj : j < xs.length), 0 ≤ xs[j] ∧ xs[j] ≤ 2147483647 := by
  intro j hj
  rw [allB, List.all_eq_true] at h
  have := h _ (List.getElem_mem hj)
  simpa [numB, inB] using this
theorem pack_byte {xs : List Int} {i j : Nat} (hi : i < xs.length) (hj : j < 4) : byteAt (packS xs) (i * 4 + j) = byteN xs[i] j := by
  obtain ⟨hk, he⟩ := List.getElem?_eq_some_iff.1 (packL_at xs i j hi hj)
  have hb := byteN_in xs[i] j
  rw [packS, byteAt_nums hk (by rw [he]; omega) (by rw [he]; omega), he]
theorem num_of_bytes {n : Int} (h0 : 0 ≤ n) (h1 : n ≤ 2147483647) : byteN n 0 + byteN n 1 * 256 + byteN n 2 * 65536 + byteN n 3 * 16777216 = n := by
  show n / 1 % 256 + n / 256 % 256 * 256 + n / 65536 % 256 * 65536 + n / 16777216 % 256 * 16777216 = n
  omega
theorem un_pack {xs : List Int} (h : allB xs = true) : unL (packS xs) = xs := by
  apply List.ext_getElem
  · rw [unL_length, packS_size]; omega
  · intro i h1 h2
    rw [unL_get h1]
    have hin := allB_in h i h2
    unfold numAt
    have e0 := pack_byte h2 (show 0 < 4 by omega)
    rw [Nat.add_zero] at e0
    rw [e0, pack_byte h2 (show 1 < 4 by omega), pack_byte h2 (show 2 < 4 by omega), pack_byte h2 (show 3 < 4 by omega)]
    exact num_of_bytes hin.1 hin.2
theorem okU_pack {xs : List Int} (h : allB xs = true) (hl : xs.length ≤ 16) : okU (packS xs) = true := by
  rw [okU_even (by rw [packS_size]; omega), un_pack h, intsB, h, decide_eq_true hl]; rfl
theorem intsB_small {xs : List Int} (h : allB xs = true) (hl : xs.length ≤ 16) : intsB xs = true := by rw [intsB, h, decide_eq_true hl]; rfl
theorem unC_pack {xs : List Int} (h : allB xs = true) (hl : xs.length ≤ 16) : unC (packS xs) = 0 := unC_ok (by rw [packS_size]; omega) (okU_pack h hl)
theorem unR_pack {xs : List Int} (h : allB xs = true) (hl : xs.length ≤ 16) : unR (packS xs) = xs := by rw [unR_ok (unC_pack h hl), un_pack h]
theorem unC_long_by {s : ByteArray} (h : ¬ s.size % 4 = 0) (hl : s.size ≤ 65536) : unC s = 3 := unC_bad (by omega) (okU_rest h)

theorem kindB_of {k : Int} (hk : 1 ≤ k ∧ k ≤ 9) : kindB k = true := by simp [kindB, inB]; omega
theorem seal_byte {k : Int} {xs : List Int} (hk : 1 ≤ k ∧ k ≤ 9) (hl : xs.length ≤ 16) {j : Nat} (hj : j < 4) : byteAt (sealS k xs) j = (headR k xs)[j]'(by simpa [headR] using hj) := by
  have hr := sumR_in k xs
  rw [sealS, byteAt_left (by rw [strOfNums_size]; simpa [headR] using hj), byteAt_nums]
  · rcases (show j = 0 ∨ j = 1 ∨ j = 2 ∨ j = 3 by omega) with rfl | rfl | rfl | rfl <;> simp [headR] <;> omega
  · rcases (show j = 0 ∨ j = 1 ∨ j = 2 ∨ j = 3 by omega) with rfl | rfl | rfl | rfl <;> simp [headR] <;> omega
theorem body_seal {k : Int} {xs : List Int} : bodyT (sealS k xs) = packS xs := by
  apply bytes_eq
  · rw [bodyT_size, sealS_size, packS_size]; omega
  · intro j hj
    rw [bodyT_size, sealS_size] at hj
    rw [bodyT_byte (by rw [sealS_size]; omega), sealS, byteAt_right (by rw [strOfNums_size]; simp [headR]), strOfNums_size]
    congr 1
    simp [headR]
theorem rec_seal {k : Int} {xs : List Int} (hk : 1 ≤ k ∧ k ≤ 9) (h : allB xs = true) (hl : xs.length ≤ 16) : RecP (sealS k xs) := by
  have e0 := seal_byte hk hl (show 0 < 4 by omega)
  have hkb : kindB (byteAt (sealS k xs) 0) = true := by rw [e0]; exact kindB_of hk
  refine (seal_iff (by rw [sealS_size]; omega) hkb (by rw [body_seal]; exact okU_pack h hl)).1 ?_
  rw [body_seal, un_pack h, e0]
  simp [headR]
theorem seal_kind {k : Int} {xs : List Int} (hk : 1 ≤ k ∧ k ≤ 9) (hl : xs.length ≤ 16) : byteAt (sealS k xs) 0 = k := by rw [seal_byte hk hl (show 0 < 4 by omega)]; simp [headR]
theorem seal_count {k : Int} {xs : List Int} (hk : 1 ≤ k ∧ k ≤ 9) (hl : xs.length ≤ 16) : byteAt (sealS k xs) 1 = xs.length := by rw [seal_byte hk hl (show 1 < 4 by omega)]; simp [headR]
theorem opC_seal {k : Int} {xs : List Int} (hk : 1 ≤ k ∧ k ≤ 9) (h : allB xs = true) (hl : xs.length ≤ 16) : opC (sealS k xs) k = 0 :=
  opC_ok (by rw [sealS_size]; omega) (kindB_of hk) (recB_true (rec_seal hk h hl)) (seal_kind hk hl)
theorem opR_seal {k : Int} {xs : List Int} (hk : 1 ≤ k ∧ k ≤ 9) (h : allB xs = true) (hl : xs.length ≤ 16) : opR (sealS k xs) k = xs := by rw [opR_ok (opC_seal hk h hl), body_seal, un_pack h]
theorem opC_other {k k' : Int} {xs : List Int} (hk : 1 ≤ k ∧ k ≤ 9) (hk' : 1 ≤ k' ∧ k' ≤ 9) (hne : k ≠ k') (hl : xs.length ≤ 16) : opC (sealS k xs) k' = 3 :=
  opC_no (by rw [sealS_size]; omega) (kindB_of hk') (fun h => hne (by rw [← seal_kind hk hl]; exact h.2))
theorem kdC_seal {k : Int} {xs : List Int} (hk : 1 ≤ k ∧ k ≤ 9) (h : allB xs = true) (hl : xs.length ≤ 16) : kdC (sealS k xs) = 0 := kdC_ok (by rw [sealS_size]; omega) (recB_true (rec_seal hk h hl))
theorem kdR_seal {k : Int} {xs : List Int} (hk : 1 ≤ k ∧ k ≤ 9) (h : allB xs = true) (hl : xs.length ≤ 16) : kdR (sealS k xs) = k := by rw [kdR_ok (kdC_seal hk h hl), seal_kind hk hl]
/-- A text whose length is not what its second byte says is none. -/
theorem opC_size {s : ByteArray} {k : Int} (hk : 1 ≤ k ∧ k ≤ 9) (hs : s.size ≤ 65536) (h : 4 ≤ s.size → (s.size : Int) ≠ 4 + byteAt s 1 * 4) : opC s k = 3 :=
  opC_no (by omega) (kindB_of hk) (fun hh => by
    obtain ⟨h4, _, _, hc, _, _⟩ := recB_iff.1 hh.1
    rw [bodyT_size] at hc
    exact h h4 (by omega))
theorem opC_cut {k : Int} {xs : List Int} {q : Nat} (hk : 1 ≤ k ∧ k ≤ 9) (hl : xs.length ≤ 16) (hq : q < 4 + xs.length * 4) : opC ((sealS k xs).extract 0 q) k = 3 := by
  have hz := sealS_size k xs
  have hsz : ((sealS k xs).extract 0 q).size = q := by simp [hz]; omega
  refine opC_size hk (by omega) (fun h4 => ?_)
  rw [byteAt_cut (by rw [hz]; omega) (by omega), Nat.zero_add, seal_count hk hl]
  omega
theorem opC_drawn {k : Int} {xs : List Int} {t : ByteArray} (ht : t.size = 1) (hk : 1 ≤ k ∧ k ≤ 9) (hl : xs.length ≤ 16) : opC (sealS k xs ++ t) k = 3 := by
  have hz := sealS_size k xs
  refine opC_size hk (by rw [ByteArray.size_append]; omega) (fun h4 => ?_)
  rw [byteAt_left (by omega), seal_count hk hl, ByteArray.size_append]
  omega

end Go.Proofs.YtjmianalknnekabDoor

/- Plain: what was encoded is decoded. -/
namespace Go.Proofs.YtjmianalknnekabDoor
open Go.RowKit
set_option linter.unusedVariables false
theorem below_drewN {B : Nat} {a w : World} (h : Below B a w) (n : Nat) : Below B a (w.drewN n) := ⟨h.os, h.tape, h.output, h.size, h.block⟩
theorem cut_left (a b : ByteArray) : (a ++ b).extract 0 a.size = a := by
  apply ByteArray.ext
  simp
theorem cut_right (a b : ByteArray) : (a ++ b).extract a.size (a ++ b).size = b := by
  exact ByteArray.extract_append_eq_right rfl (ByteArray.size_append)
/-- What was encoded is decoded. -/
theorem enc_dec {u : Up} (h : upB u = true) : duB (encU u) = true ∧ duU (encU u) = u := by
  obtain ⟨h1, h2⟩ := upB_iff.1 h
  have hs : (sealS 8 [u.at_]).size = 8 := sealS_size 8 [u.at_]
  have hH : duH (encU u) = sealS 8 [u.at_] := by
    have := cut_left (sealS 8 [u.at_]) u.data
    rw [hs] at this; exact this
  have hT : duT (encU u) = u.data := by
    have := cut_right (sealS 8 [u.at_]) u.data
    rw [hs] at this; exact this
  have hall : allB [u.at_] = true := by simp [allB, numB, inB]; omega
  have ho : openB (duH (encU u)) 8 = true := by
    rw [hH]
    exact openB_yes (rec_seal (by decide) hall (by simp)) (seal_kind (by decide) (by simp))
  have hL : duL (encU u) = [u.at_] := by
    rw [duL, openL_yes ho, hH, body_seal, un_pack hall]
  have hX : duX (encU u) = u := by rw [duX_at hL, hT]
  have hB : duB (encU u) = true := by rw [duB_at (by rw [encU_size]; omega) ho, hX]; exact h
  exact ⟨hB, by rw [du_yes hB, hX]⟩

end Go.Proofs.YtjmianalknnekabDoor

/- Plain: moves that are right, what they do to a disk, what MovesDo answers. -/
namespace Go.Proofs.YtjmianalknnekabDoor
open Go.RowKit
set_option linter.unusedVariables false

def mvB (m : Wr) : Bool := if m.host = 1 then (inB m.at_ 0 63 && decide (m.data.size ≤ 80)) else (decide (m.host = 2) && (decide (m.at_ = 0) && decide (m.data.size = 0)))
def msB (ms : List Wr) : Bool := ms.all mvB
theorem msB_at {ms : List Wr} (h : msB ms = true) {k : Nat} (hk : k < ms.length) : mvB ms[k] = true := List.all_eq_true.1 h _ (List.getElem_mem hk)
theorem mvB_write {m : Wr} (h : mvB m = true) (hn : m.host ≠ 2) : (0 ≤ m.at_ ∧ m.at_ ≤ 63) ∧ m.data.size ≤ 80 := by
  unfold mvB at h
  split at h
  · simpa [inB] using h
  · simp [hn] at h
/-- What one move does. -/
def dm1 (h : Int) (st : List ByteArray × List Wr) (m : Wr) : List ByteArray × List Wr := if m.host = 2 then (putW st.1 (ofH h st.2), dropF h st.2) else (st.1, st.2 ++ [⟨h, m.at_, m.data⟩])
def dmL (h : Int) (ss : List ByteArray) (xs : List Wr) (ms : List Wr) : List ByteArray × List Wr := ms.foldl (dm1 h) (ss, xs)
theorem dmL_succ {h : Int} {ss : List ByteArray} {xs ms : List Wr} {k : Nat} (hk : k < ms.length) : dmL h ss xs (ms.take (k + 1)) = dm1 h (dmL h ss xs (ms.take k)) ms[k] := by
  unfold dmL
  rw [List.take_succ_eq_append_getElem hk, List.foldl_append]; rfl
theorem dm1_flush {h : Int} {S : List ByteArray} {X : List Wr} {m : Wr} (hm : m.host = 2) : dm1 h (S, X) m = (putW S (ofH h X), dropF h X) := if_pos hm
theorem dm1_write {h : Int} {S : List ByteArray} {X : List Wr} {m : Wr} (hm : m.host ≠ 2) : dm1 h (S, X) m = (S, X ++ [⟨h, m.at_, m.data⟩]) := if_neg hm
theorem dm1_right {h : Int} {S : List ByteArray} {X : List Wr} {m : Wr} (hh : 0 ≤ h ∧ h ≤ 3) (hd : diskB S X = true) (hl : X.length < 200) (hm : mvB m = true) : diskB (dm1 h (S, X) m).1 (dm1 h (S, X) m).2 = true ∧ (dm1 h (S, X) m).2.length ≤ X.length + 1 := by
  by_cases h2 : m.host = 2
  · rw [dm1_flush h2]
    exact ⟨diskB_put hd (fun x hx => of_mem hx) (fun x hx => drop_mem hx) (drop_le h X), by have := drop_le h X; show (dropF h X).length ≤ X.length + 1; omega⟩
  · rw [dm1_write h2]
    obtain ⟨p1, p2⟩ := mvB_write hm h2
    exact ⟨diskB_snoc hd hl (ioB_parts.2 ⟨hh, p1, p2⟩), by simp⟩
theorem dmL_right {h : Int} {ss : List ByteArray} {xs ms : List Wr} (hh : 0 ≤ h ∧ h ≤ 3) (hd : diskB ss xs = true) (hm : msB ms = true) (hl : xs.length + ms.length ≤ 200) : ∀ k, k ≤ ms.length → diskB (dmL h ss xs (ms.take k)).1 (dmL h ss xs (ms.take k)).2 = true ∧ (dmL h ss xs (ms.take k)).2.length ≤ xs.length + k := by
  intro k
  induction k with
  | zero => intro _; exact ⟨by simpa [dmL] using hd, by simp [dmL]⟩
  | succ k ih =>
    intro hk
    obtain ⟨i1, i2⟩ := ih (by omega)
    rw [dmL_succ (show k < ms.length by omega)]
    obtain ⟨r1, r2⟩ := dm1_right (S := (dmL h ss xs (ms.take k)).1) (X := (dmL h ss xs (ms.take k)).2) hh i1 (by omega) (msB_at hm (show k < ms.length by omega))
    exact ⟨r1, Nat.le_trans r2 (by omega)⟩
/-- What MovesDo answers. -/
def mdC (ss : List ByteArray) (xs : List Wr) (h : Int) (ms : List Wr) : Int := if 4096 < ms.length then 2 else if hostC ss xs h = 0 then (if msB ms = true then (if 200 < xs.length + ms.length then 7 else 0) else 1) else hostC ss xs h
def mdS (ss : List ByteArray) (xs : List Wr) (h : Int) (ms : List Wr) : List ByteArray := if mdC ss xs h ms = 0 then (dmL h ss xs ms).1 else if mdC ss xs h ms = 7 then ss else []
def mdX (ss : List ByteArray) (xs : List Wr) (h : Int) (ms : List Wr) : List Wr := if mdC ss xs h ms = 0 then (dmL h ss xs ms).2 else if mdC ss xs h ms = 7 then xs else []
theorem md_long {ss : List ByteArray} {xs : List Wr} {h : Int} {ms : List Wr} (h1 : 4096 < ms.length) : mdC ss xs h ms = 2 ∧ mdS ss xs h ms = [] ∧ mdX ss xs h ms = [] := by
  have e : mdC ss xs h ms = 2 := if_pos h1
  exact ⟨e, by simp [mdS, e], by simp [mdX, e]⟩
theorem hostC_cases (ss : List ByteArray) (xs : List Wr) (h : Int) : hostC ss xs h = 0 ∨ hostC ss xs h = 1 ∨ hostC ss xs h = 4 := by
  unfold hostC; split
  · split
    · exact .inl rfl
    · exact .inr (.inr rfl)
  · exact .inr (.inl rfl)
theorem md_host {ss : List ByteArray} {xs : List Wr} {h : Int} {ms : List Wr} (h1 : ¬ 4096 < ms.length) (h2 : hostC ss xs h ≠ 0) : mdC ss xs h ms = hostC ss xs h ∧ mdS ss xs h ms = [] ∧ mdX ss xs h ms = [] := by
  have e : mdC ss xs h ms = hostC ss xs h := by rw [mdC, if_neg h1, if_neg h2]
  have h7 : hostC ss xs h ≠ 7 := by rcases hostC_cases ss xs h with e | e | e <;> rw [e] <;> decide
  exact ⟨e, by simp [mdS, e, h2, h7], by simp [mdX, e, h2, h7]⟩
theorem md_bad {ss : List ByteArray} {xs : List Wr} {h : Int} {ms : List Wr} (h1 : ¬ 4096 < ms.length) (h2 : hostC ss xs h = 0) (h3 : msB ms = false) : mdC ss xs h ms = 1 ∧ mdS ss xs h ms = [] ∧ mdX ss xs h ms = [] := by
  have e : mdC ss xs h ms = 1 := by rw [mdC, if_neg h1, if_pos h2, if_neg (by simp [h3])]
  exact ⟨e, by simp [mdS, e], by simp [mdX, e]⟩
theorem md_full {ss : List ByteArray} {xs : List Wr} {h : Int} {ms : List Wr} (h1 : ¬ 4096 < ms.length) (h2 : hostC ss xs h = 0) (h3 : msB ms = true) (h4 : 200 < xs.length + ms.length) : mdC ss xs h ms = 7 ∧ mdS ss xs h ms = ss ∧ mdX ss xs h ms = xs := by
  have e : mdC ss xs h ms = 7 := by rw [mdC, if_neg h1, if_pos h2, if_pos h3, if_pos h4]
  exact ⟨e, by simp [mdS, e], by simp [mdX, e]⟩
theorem md_ok {ss : List ByteArray} {xs : List Wr} {h : Int} {ms : List Wr} (h1 : ¬ 4096 < ms.length) (h2 : hostC ss xs h = 0) (h3 : msB ms = true) (h4 : ¬ 200 < xs.length + ms.length) : mdC ss xs h ms = 0 ∧ mdS ss xs h ms = (dmL h ss xs ms).1 ∧ mdX ss xs h ms = (dmL h ss xs ms).2 := by
  have e : mdC ss xs h ms = 0 := by rw [mdC, if_neg h1, if_pos h2, if_pos h3, if_neg h4]
  exact ⟨e, by simp [mdS, e], by simp [mdX, e]⟩
/-- What MovesDo answers is no greater than what it was given. -/
theorem md_right {ss : List ByteArray} {xs : List Wr} {h : Int} {ms : List Wr} (hs : ∀ s ∈ ss, s.size ≤ maxLen) (hx : ∀ x ∈ xs, x.data.size ≤ maxLen) : (∀ s ∈ mdS ss xs h ms, s.size ≤ maxLen) ∧ (∀ x ∈ mdX ss xs h ms, x.data.size ≤ maxLen) ∧ (mdS ss xs h ms).length ≤ max ss.length 64 ∧ (mdX ss xs h ms).length ≤ max xs.length 200 := by
  by_cases h1 : 4096 < ms.length
  · obtain ⟨_, e1, e2⟩ := md_long (ss := ss) (xs := xs) (h := h) h1
    rw [e1, e2]; exact ⟨fun _ h => (by cases h), fun _ h => (by cases h), by simp, by simp⟩
  by_cases h2 : hostC ss xs h = 0
  case neg =>
    obtain ⟨_, e1, e2⟩ := md_host (ms := ms) h1 h2
    rw [e1, e2]; exact ⟨fun _ h => (by cases h), fun _ h => (by cases h), by simp, by simp⟩
  by_cases h3 : msB ms = true
  case neg =>
    rw [Bool.not_eq_true] at h3
    obtain ⟨_, e1, e2⟩ := md_bad (ss := ss) (xs := xs) h1 h2 h3
    rw [e1, e2]; exact ⟨fun _ h => (by cases h), fun _ h => (by cases h), by simp, by simp⟩
  by_cases h4 : 200 < xs.length + ms.length
  · obtain ⟨_, e1, e2⟩ := md_full h1 h2 h3 h4
    rw [e1, e2]; exact ⟨hs, hx, Nat.le_max_left _ _, Nat.le_max_left _ _⟩
  · obtain ⟨_, e1, e2⟩ := md_ok h1 h2 h3 h4
    obtain ⟨hd, h0, h5⟩ := hostC_eq h2
    obtain ⟨r1, r2⟩ := dmL_right (ms := ms) ⟨h0, h5⟩ hd h3 (by omega) ms.length (Nat.le_refl _)
    rw [List.take_of_length_le (Nat.le_refl _)] at r1 r2
    obtain ⟨⟨q1, q2⟩, q3, q4⟩ := diskB_parts.1 r1
    rw [e1, e2]
    refine ⟨fun s h => (by have := q2 s h; unfold maxLen; omega), fun x h => (by have := (ioB_parts.1 (q4 x h)).2.2; unfold maxLen; omega), by rw [q1]; exact Nat.le_max_right _ _, Nat.le_trans q3 (Nat.le_max_right _ _)⟩
/-- A row's texts lie apart from a variable that holds a disk. -/
theorem cell_apart {w : World} {x b j : Nat} {u v c : Value} (hv : VarD w x u v) (h : w.cell? ⟨b, j, none⟩ = some c) (h1 : c ≠ u) (h2 : c ≠ v) : b ≠ x := by
  rintro rfl
  rw [Joins.cell_of_block hv] at h
  match j, h with
  | 0, h => simp at h; exact h1 h.symm
  | 1, h => simp at h; exact h2 h.symm
  | j + 2, h => simp at h
theorem Ss.setX {w : World} {x : Nat} {po qo ao : Option Addr} {n pa m qa : Nat} {ss : List ByteArray} (h : Ss w ao ss) (hv : VarD w x (.slice po n pa) (.slice qo m qa)) (i : Nat) (v : Value) : Ss (w.setCell ⟨x, i, none⟩ v) ao ss := fun j hj => by
  obtain ⟨b, off, e, hc, hz⟩ := h j hj
  have hne : b ≠ x := cell_apart hv hc (by simp) (by simp)
  exact ⟨b, off, e, (World.cell?_of_block (w := w) (Below.heap_setCell w ⟨x, i, none⟩ v b hne)).trans hc, hz⟩
theorem Ios.setX {w : World} {x : Nat} {po qo ao : Option Addr} {n pa m qa : Nat} {xs : List Wr} (h : Ios w ao xs) (hv : VarD w x (.slice po n pa) (.slice qo m qa)) (i : Nat) (v : Value) : Ios (w.setCell ⟨x, i, none⟩ v) ao xs := fun j hj => by
  obtain ⟨b, off, e, h0, h1, h2, hz⟩ := h j hj
  have hne : b ≠ x := cell_apart hv h0 (by simp) (by simp)
  have hb := Below.heap_setCell w ⟨x, i, none⟩ v b hne
  exact ⟨b, off, e, (World.cell?_of_block (w := w) hb).trans h0, (World.cell?_of_block (w := w) hb).trans h1, (World.cell?_of_block (w := w) hb).trans h2, hz⟩
theorem right_sz2 {S : List ByteArray} {X : List Wr} (hd : diskB S X = true) : (∀ s ∈ S, s.size ≤ maxLen) ∧ ∀ x ∈ X, x.data.size ≤ maxLen := by
  obtain ⟨⟨_, q2⟩, _, q4⟩ := diskB_parts.1 hd
  exact ⟨fun s h => (by have := q2 s h; unfold maxLen; omega), fun x h => (by have := (ioB_parts.1 (q4 x h)).2.2; unfold maxLen; omega)⟩
theorem VarD.put {w : World} {x : Nat} {a b : Value} (h : VarD w x a b) (u v : Value) : VarD ((w.setCell ⟨x, 0, none⟩ u).setCell ⟨x, 1, none⟩ v) x u v := Joins.block_setCell (i := 1) (Joins.block_setCell (i := 0) h u) v
theorem VarD.apart {w : World} {x y : Nat} {a b : Value} (h : VarD w x a b) (hne : x ≠ y) (i : Nat) (u : Value) : VarD (w.setCell ⟨y, i, none⟩ u) x a b := by
  unfold VarD; rw [Below.heap_setCell w ⟨y, i, none⟩ u x hne]; exact h
/-- A disk in a variable, as a call shows it. -/
structure DkA (w W : World) (x : Nat) (po : Option Addr) (pa : Nat) (qo : Option Addr) (qa : Nat) (SS : List ByteArray) (XX : List Wr) : Prop where
  v : VarD W x (.slice po SS.length pa) (.slice qo XX.length qa)
  s : Ss W po SS
  i : Ios W qo XX
  k : Below w.heap.size w W
theorem DkA.next {w W W' : World} {x pa qa : Nat} {po qo : Option Addr} {SS : List ByteArray} {XX : List Wr} (h : DkA w W x po pa qo qa SS XX) (hb : Below W.heap.size W W') : DkA w W' x po pa qo qa SS XX := ⟨h.v.below hb, h.s.below hb, h.i.below hb, fr h.k hb⟩
theorem DkA.put {w W : World} {x pa qa pa' qa' n m : Nat} {po qo po' qo' : Option Addr} {SS SS' : List ByteArray} {XX XX' : List Wr} (h : DkA w W x po pa qo qa SS XX) (hx : w.heap.size ≤ x) (hn : n = SS'.length) (hm : m = XX'.length) (h1 : Ss W po' SS') (h2 : Ios W qo' XX') :
    DkA w ((W.setCell ⟨x, 0, none⟩ (.slice po' n pa')).setCell ⟨x, 1, none⟩ (.slice qo' m qa')) x po' pa' qo' qa' SS' XX' := by
  subst hn hm
  have hv0 : VarD (W.setCell ⟨x, 0, none⟩ (.slice po' SS'.length pa')) x (.slice po' SS'.length pa') (.slice qo XX.length qa) := Joins.block_setCell (i := 0) h.v _
  exact ⟨h.v.put _ _, (h1.setX h.v 0 _).setX hv0 1 _, (h2.setX h.v 0 _).setX hv0 1 _, below2 h.k hx 0 1 _ _⟩
end Go.Proofs.YtjmianalknnekabDoor
