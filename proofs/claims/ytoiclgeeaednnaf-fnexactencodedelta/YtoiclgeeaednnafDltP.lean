/- Plain words of the generations: what a right one is, its text, what a text says. -/
import Derived.Test.YtoiclgeeaednnafGen
import Derived.Test.YtoiclgeeaednnafKeep
import Derived.WalkKit
import Derived.Test.YtoiclgeeaednnafInts
import Derived.Test.YtoiclgeeaednnafSealP
import Derived.Test.YtoiclgeeaednnafUnP
import Derived.Test.YtoiclgeeaednnafRecM
import Derived.Test.YtoiclgeeaednnafOpenS
import Derived.Test.YtoiclgeeaednnafLandP
namespace Go.Proofs.Ytoiclgeeaednnaf
open Go.RowKit
set_option linter.unusedVariables false

abbrev dltV (h g s : Int) : Value := .agg #[.int .i64 h, .int .i64 g, .int .i64 s]
def dltB (h g s : Int) : Bool := inB h 0 3 && (inB g 1 1000000 && inB s 0 10000000)
theorem dltB_iff {h g s : Int} : dltB h g s = true ↔ (0 ≤ h ∧ h ≤ 3) ∧ (1 ≤ g ∧ g ≤ 1000000) ∧ 0 ≤ s ∧ s ≤ 10000000 := by
  simp only [dltB, inB, Bool.and_eq_true, decide_eq_true_eq]
theorem dltB_1 {h g s : Int} (e : inB h 0 3 = false) : dltB h g s = false := by simp [dltB, e]
theorem dltB_2 {h g s : Int} (e : inB g 1 1000000 = false) : dltB h g s = false := by simp [dltB, e]
theorem dltB_3 {h g s : Int} (e1 : inB h 0 3 = true) (e2 : inB g 1 1000000 = true) : dltB h g s = inB s 0 10000000 := by simp [dltB, e1, e2]
/-- Its text. -/
def encD (h g s : Int) : ByteArray := sealS 9 [h, g, s]
theorem encD_size (h g s : Int) : (encD h g s).size = 16 := by rw [encD, sealS_size]; rfl
/-- What a text says. -/
def decL (t : ByteArray) : List Int := openL t 9
def decB (t : ByteArray) : Bool := openB t 9 && (decide ((decL t).length = 3) && dltB ((decL t).getD 0 0) ((decL t).getD 1 0) ((decL t).getD 2 0))
def decH (t : ByteArray) : Int := if decB t = true then (decL t).getD 0 0 else 0
def decG (t : ByteArray) : Int := if decB t = true then (decL t).getD 1 0 else 0
def decS (t : ByteArray) : Int := if decB t = true then (decL t).getD 2 0 else 0
theorem decB_open {t : ByteArray} (h : openB t 9 = false) : decB t = false := by simp [decB, h]
theorem decB_len {t : ByteArray} (h : ¬ (decL t).length = 3) : decB t = false := by simp [decB, h]
theorem decB_at {t : ByteArray} {a b c : Int} (h : openB t 9 = true) (hl : decL t = [a, b, c]) : decB t = dltB a b c := by simp [decB, h, hl]
theorem dec_no {t : ByteArray} (h : decB t = false) : decH t = 0 ∧ decG t = 0 ∧ decS t = 0 := by simp [decH, decG, decS, h]
theorem dec_yes {t : ByteArray} {a b c : Int} (h : decB t = true) (hl : decL t = [a, b, c]) : decH t = a ∧ decG t = b ∧ decS t = c := by simp [decH, decG, decS, h, hl]
theorem three {l : List Int} (h : l.length = 3) : ∃ a b c, l = [a, b, c] := by
  match l, h with
  | [a, b, c], _ => exact ⟨a, b, c, rfl⟩
theorem dec_right {t : ByteArray} (h : decB t = true) : dltB (decH t) (decG t) (decS t) = true := by
  by_cases hl : (decL t).length = 3
  · obtain ⟨a, b, c, e⟩ := three hl
    by_cases ho : openB t 9 = true
    · rw [decB_at ho e] at h
      have h' : decB t = true := by rw [decB_at ho e]; exact h
      obtain ⟨e1, e2, e3⟩ := dec_yes h' e
      rw [e1, e2, e3]; exact h
    · rw [Bool.not_eq_true] at ho
      rw [decB_open ho] at h; cases h
  · rw [decB_len hl] at h; cases h

/-- One in a variable. -/
def VarT (w : World) (x : Nat) (t : TypeId) (h g s : Int) : Prop := w.heap[x]? = some (.cells #[.int .i64 h, .int .i64 g, .int .i64 s] t (0, 0))
theorem VarT.lt {w : World} {x t : Nat} {h g s : Int} (k : VarT w x t h g s) : x < w.heap.size := (Array.getElem?_eq_some_iff.1 k).1
theorem VarT.cells {w : World} {x t : Nat} {h g s : Int} (k : VarT w x t h g s) : w.cell? ⟨x, 0, none⟩ = some (.int .i64 h) ∧ w.cell? ⟨x, 1, none⟩ = some (.int .i64 g) ∧ w.cell? ⟨x, 2, none⟩ = some (.int .i64 s) := ⟨by rw [Joins.cell_of_block k]; rfl, by rw [Joins.cell_of_block k]; rfl, by rw [Joins.cell_of_block k]; rfl⟩
theorem VarT.free {w : World} {x t : Nat} {h g s : Int} (k : VarT w x t h g s) : w.frozen? ⟨x, 0, none⟩ = false ∧ w.frozen? ⟨x, 1, none⟩ = false ∧ w.frozen? ⟨x, 2, none⟩ = false := ⟨Joins.unfrozen_of_block k 0, Joins.unfrozen_of_block k 1, Joins.unfrozen_of_block k 2⟩
theorem VarT.below {w w' : World} {x t : Nat} {h g s : Int} (k : VarT w x t h g s) (hb : Below w.heap.size w w') : VarT w' x t h g s := by
  unfold VarT; rw [hb.block x k.lt]; exact k
theorem VarT.keep {S : Nat → Prop} {w w' : World} {x t : Nat} {h g s : Int} (k : VarT w x t h g s) (hk : Keep S w w') (hs : ¬ S x) : VarT w' x t h g s := by
  unfold VarT; rw [hk.block x k.lt hs]; exact k
theorem VarT.new (w : World) (t : TypeId) (h g s : Int) : VarT (w.alloc (.cells #[.int .i64 h, .int .i64 g, .int .i64 s] t)) w.heap.size t h g s := heap_alloc_new w _

/-- What a host reads of another one's. -/
def redB (ss : List ByteArray) (xs : List Wr) (h o : Int) : Bool := decB (readV ss xs h (5 + o)) && decide (decH (readV ss xs h (5 + o)) = o)
def redG (ss : List ByteArray) (xs : List Wr) (h o : Int) : Int := if redB ss xs h o = true then decG (readV ss xs h (5 + o)) else 0
def redS (ss : List ByteArray) (xs : List Wr) (h o : Int) : Int := if redB ss xs h o = true then decS (readV ss xs h (5 + o)) else 0
theorem red_yes {ss : List ByteArray} {xs : List Wr} {h o : Int} (hb : decB (readV ss xs h (5 + o)) = true) (ho : decH (readV ss xs h (5 + o)) = o) : redB ss xs h o = true ∧ redG ss xs h o = decG (readV ss xs h (5 + o)) ∧ redS ss xs h o = decS (readV ss xs h (5 + o)) := by
  have e : redB ss xs h o = true := by simp [redB, hb, ho]
  exact ⟨e, if_pos e, if_pos e⟩
theorem red_no {ss : List ByteArray} {xs : List Wr} {h o : Int} (e : redB ss xs h o = false) : redG ss xs h o = 0 ∧ redS ss xs h o = 0 := ⟨if_neg (by simp [e]), if_neg (by simp [e])⟩
theorem red_none {ss : List ByteArray} {xs : List Wr} {h o : Int} (hb : decB (readV ss xs h (5 + o)) = false) : redB ss xs h o = false := by simp [redB, hb]
theorem red_other {ss : List ByteArray} {xs : List Wr} {h o : Int} (ho : decH (readV ss xs h (5 + o)) ≠ o) : redB ss xs h o = false := by simp [redB, ho]
theorem readV_size {ss : List ByteArray} {xs : List Wr} (hd : diskB ss xs = true) (h a : Int) : (readV ss xs h a).size ≤ 80 := by
  obtain ⟨⟨a1, a2⟩, a3, a4⟩ := diskB_parts.1 hd
  unfold readV
  cases hf : xs.reverse.find? (fun x => x.host == h && x.at_ == a) with
  | some x => exact (ioB_parts.1 (a4 x (List.mem_reverse.1 (List.mem_of_find?_eq_some hf)))).2.2
  | none =>
    simp only [Option.map_none, Option.getD_none]
    rw [List.getD_eq_getElem?_getD]
    cases hg : ss[a.toNat]? with
    | some s => exact a2 s (List.mem_of_getElem? hg)
    | none => exact Nat.zero_le _

def encC (h g s : Int) : Int := if dltB h g s = true then 0 else 1
def encR (h g s : Int) : ByteArray := if dltB h g s = true then encD h g s else ⟨#[]⟩
theorem ret_sd {a b : ByteArray} {c d : Int} (h : a = b) (k : c = d) : Ending.returned (.tuple #[.string a, .int .i64 c]) = .returned (.tuple #[.string b, .int .i64 d]) := by rw [h, k]

theorem ret_di {a b c a' b' c' : Int} {x y : Int} (h1 : a = a') (h2 : b = b') (h3 : c = c') (k : x = y) : Ending.returned (.tuple #[dltV a b c, .int .i64 x]) = .returned (.tuple #[dltV a' b' c', .int .i64 y]) := by rw [h1, h2, h3, k]

/-- What DecodeDelta answers. -/
def dcC (t : ByteArray) : Int := if 65536 < t.size then 2 else if decB t = true then 0 else 3
def dcH (t : ByteArray) : Int := if 65536 < t.size then 0 else decH t
def dcG (t : ByteArray) : Int := if 65536 < t.size then 0 else decG t
def dcS (t : ByteArray) : Int := if 65536 < t.size then 0 else decS t
theorem dc_long {t : ByteArray} (h : 65536 < t.size) : dcH t = 0 ∧ dcG t = 0 ∧ dcS t = 0 ∧ dcC t = 2 := ⟨if_pos h, if_pos h, if_pos h, if_pos h⟩
theorem dc_no {t : ByteArray} (h : ¬ 65536 < t.size) (hd : decB t = false) : dcH t = 0 ∧ dcG t = 0 ∧ dcS t = 0 ∧ dcC t = 3 := by
  obtain ⟨e1, e2, e3⟩ := dec_no hd
  exact ⟨(if_neg h).trans e1, (if_neg h).trans e2, (if_neg h).trans e3, (if_neg h).trans (if_neg (by simp [hd]))⟩
theorem dc_yes {t : ByteArray} (h : ¬ 65536 < t.size) (hd : decB t = true) : dcH t = decH t ∧ dcG t = decG t ∧ dcS t = decS t ∧ dcC t = 0 := ⟨if_neg h, if_neg h, if_neg h, (if_neg h).trans (if_pos hd)⟩


end Go.Proofs.Ytoiclgeeaednnaf
