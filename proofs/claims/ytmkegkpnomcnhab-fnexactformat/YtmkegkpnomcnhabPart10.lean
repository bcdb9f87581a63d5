import Derived.Test.YtmkegkpnomcnhabPart1
import Derived.Test.YtmkegkpnomcnhabPart2
import Derived.WalkKit
import Derived.Test.YtmkegkpnomcnhabPart7
import Derived.Test.YtmkegkpnomcnhabPart8
import Derived.Test.YtmkegkpnomcnhabRows
import Derived.WalkSpells
import Derived.KernelRfl
import Derived.Lib.SmallJoins
import Derived.Test.YtmkegkpnomcnhabPart4
import Derived.Test.YtmkegkpnomcnhabPart3
import Derived.Test.YtmkegkpnomcnhabPart9
import Derived.Test.YtmkegkpnomcnhabPart6
import Derived.Deep.RegionHeld3
import Derived.Test.YtmkegkpnomcnhabPart5
import Derived.LoopN
import Derived.BigQuiet
import Derived.Deep.QuietTactic
import Derived.Deep.CutRange
import Derived.Deep.RegionWith

/- Plain words of the generations: what a right one is, its text, what a text says. -/
namespace Go.Proofs.Ytmkegkpnomcnhab
open Go.RowKit
set_option linter.unusedVariables false

abbrev dltV (h g s : Int) : Value := .agg #[.int .i64 h, .int .i64 g, .int .i64 s]
def dltB (h g s : Int) : Bool := inB h 0 3 && (inB g 1 1000000 && inB s 0 10000000)
theorem dltB_iff {h g s : Int} : dltB h g s = true ↔ (0 ≤ h ∧ h ≤ 3) ∧ (1 ≤ g ∧ g ≤ 1000000) ∧ 0 ≤ s ∧ s ≤ 10000000 := by
  simp only [dltB, inB, Bool.and_eq_true, decide_eq_true_eq]
theorem dltB_1 {h g s : Int} (e : inB h 0 3 = false) : dltB h g s = false := by simp [dltB, e]
theorem dltB_2 {h g s : Int} (e : inB g 1 1000000 = false) : dltB h g s = false := by simp [dltB, e]
theorem dltB_3 {h g s : Int} (e1 : inB h 0 3 = true) (e2 : inB g 1 1000000 = true) : dltB h g s = inB s 0 10000000 := by simp [dltB, e1, e2]
/-- Its text. -/
def encD (h g s : Int) : ByteArray := sealS 9 [h, g, s]
theorem encD_size (h g s : Int) : (encD h g s).size = 16 := by rw [encD, sealS_size]; rfl
/-- What a text says. -/
def decL (t : ByteArray) : List Int := openL t 9
def decB (t : ByteArray) : Bool := openB t 9 && (decide ((decL t).length = 3) && dltB ((decL t).getD 0 0) ((decL t).getD 1 0) ((decL t).getD 2 0))
def decH (t : ByteArray) : Int := if decB t = true then (decL t).getD 0 0 else 0
def decG (t : ByteArray) : Int := if decB t = true then (decL t).getD 1 0 else 0
def decS (t : ByteArray) : Int := if decB t = true then (decL t).getD 2 0 else 0
theorem decB_open {t : ByteArray} (h : openB t 9 = false) : decB t = false := by simp [decB, h]
theorem decB_len {t : ByteArray} (h : ¬ (decL t).length = 3) : decB t = false := by simp [decB, h]
theorem decB_at {t : ByteArray} {a b c : Int} (h : openB t 9 = true) (hl : decL t = [a, b, c]) : decB t = dltB a b c := by simp [decB, h, hl]
theorem dec_no {t : ByteArray} (h : decB t = false) : decH t = 0 ∧ decG t = 0 ∧ decS t = 0 := by simp [decH, decG, decS, h]
theorem dec_yes {t : ByteArray} {a b c : Int} (h : decB t = true) (hl : decL t = [a, b, c]) : decH t = a ∧ decG t = b ∧ decS t = c := by simp [decH, decG, decS, h, hl]
theorem three {l : List Int} (h : l.length = 3) : ∃ a b c, l = [a, b, c] := by
  match l, h with
  | [a, b, c], _ => exact ⟨a, b, c, rfl⟩
theorem dec_right {t : ByteArray} (h : decB t = true) : dltB (decH t) (decG t) (decS t) = true := by
  by_cases hl : (decL t).length = 3
  · obtain ⟨a, b, c, e⟩ := three hl
    by_cases ho : openB t 9 = true
    · rw [decB_at ho e] at h
      have h' : decB t = true := by rw [decB_at ho e]; exact h
      obtain ⟨e1, e2, e3⟩ := dec_yes h' e
      rw [e1, e2, e3]; exact h
    · rw [Bool.not_eq_true] at ho
      rw [decB_open ho] at h; cases h
  · rw [decB_len hl] at h; cases h

/-- One in a variable. -/
def VarT (w : World) (x : Nat) (t : TypeId) (h g s : Int) : Prop := w.heap[x]? = some (.cells #[.int .i64 h, .int .i64 g, .int .i64 s] t (0, 0))
theorem VarT.lt {w : World} {x t : Nat} {h g s : Int} (k : VarT w x t h g s) : x < w.heap.size := (Array.getElem?_eq_some_iff.1 k).1
theorem VarT.cells {w : World} {x t : Nat} {h g s : Int} (k : VarT w x t h g s) : w.cell? ⟨x, 0, none⟩ = some (.int .i64 h) ∧ w.cell? ⟨x, 1, none⟩ = some (.int .i64 g) ∧ w.cell? ⟨x, 2, none⟩ = some (.int .i64 s) := ⟨by rw [Joins.cell_of_block k]; rfl, by rw [Joins.cell_of_block k]; rfl, by rw [Joins.cell_of_block k]; rfl⟩
theorem VarT.free {w : World} {x t : Nat} {h g s : Int} (k : VarT w x t h g s) : w.frozen? ⟨x, 0, none⟩ = false ∧ w.frozen? ⟨x, 1, none⟩ = false ∧ w.frozen? ⟨x, 2, none⟩ = false := ⟨Joins.unfrozen_of_block k 0, Joins.unfrozen_of_block k 1, Joins.unfrozen_of_block k 2⟩
theorem VarT.below {w w' : World} {x t : Nat} {h g s : Int} (k : VarT w x t h g s) (hb : Below w.heap.size w w') : VarT w' x t h g s := by
  unfold VarT; rw [hb.block x k.lt]; exact k
theorem VarT.keep {S : Nat → Prop} {w w' : World} {x t : Nat} {h g s : Int} (k : VarT w x t h g s) (hk : Keep S w w') (hs : ¬ S x) : VarT w' x t h g s := by
  unfold VarT; rw [hk.block x k.lt hs]; exact k
theorem VarT.new (w : World) (t : TypeId) (h g s : Int) : VarT (w.alloc (.cells #[.int .i64 h, .int .i64 g, .int .i64 s] t)) w.heap.size t h g s := heap_alloc_new w _

/-- What a host reads of another one's. -/
def redB (ss : List ByteArray) (xs : List Wr) (h o : Int) : Bool := decB (readV ss xs h (5 + o)) && decide (decH (readV ss xs h (5 + o)) = o)
def redG (ss : List ByteArray) (xs : List Wr) (h o : Int) : Int := if redB ss xs h o = true then decG (readV ss xs h (5 + o)) else 0
def redS (ss : List ByteArray) (xs : List Wr) (h o : Int) : Int := if redB ss xs h o = true then decS (readV ss xs h (5 + o)) else 0
theorem red_yes {ss : List ByteArray} {xs : List Wr} {h o : Int} (hb : decB (readV ss xs h (5 + o)) = true) (ho : decH (readV ss xs h (5 + o)) = o) : redB ss xs h o = true ∧ redG ss xs h o = decG (readV ss xs h (5 + o)) ∧ redS ss xs h o = decS (readV ss xs h (5 + o)) := by
  have e : redB ss xs h o = true := by simp [redB, hb, ho]
  exact ⟨e, if_pos e, if_pos e⟩
theorem red_no {ss : List ByteArray} {xs : List Wr} {h o : Int} (e : redB ss xs h o = false) : redG ss xs h o = 0 ∧ redS ss xs h o = 0 := ⟨if_neg (by simp [e]), if_neg (by simp [e])⟩
theorem red_none {ss : List ByteArray} {xs : List Wr} {h o : Int} (hb : decB (readV ss xs h (5 + o)) = false) : redB ss xs h o = false := by simp [redB, hb]
theorem red_other {ss : List ByteArray} {xs : List Wr} {h o : Int} (ho : decH (readV ss xs h (5 + o)) ≠ o) : redB ss xs h o = false := by simp [redB, ho]
theorem readV_size {ss : List ByteArray} {xs : List Wr} (hd : diskB ss xs = true) (h a : Int) : (readV ss xs h a).size ≤ 80 := by
  obtain ⟨⟨a1, a2⟩, a3, a4⟩ := diskB_parts.1 hd
  unfold readV
  cases hf : xs.reverse.find? (fun x => x.host == h && x.at_ == a) with
  | some x => exact (ioB_parts.1 (a4 x (List.mem_reverse.1 (List.mem_of_find?_eq_some hf)))).2.2
  | none =>
    simp only [Option.map_none, Option.getD_none]
    rw [List.getD_eq_getElem?_getD]
    cases hg : ss[a.toNat]? with
    | some s => exact a2 s (List.mem_of_getElem? hg)
    | none => exact Nat.zero_le _

def encC (h g s : Int) : Int := if dltB h g s = true then 0 else 1
def encR (h g s : Int) : ByteArray := if dltB h g s = true then encD h g s else ⟨#[]⟩
theorem ret_sd {a b : ByteArray} {c d : Int} (h : a = b) (k : c = d) : Ending.returned (.tuple #[.string a, .int .i64 c]) = .returned (.tuple #[.string b, .int .i64 d]) := by rw [h, k]

theorem ret_di {a b c a' b' c' : Int} {x y : Int} (h1 : a = a') (h2 : b = b') (h3 : c = c') (k : x = y) : Ending.returned (.tuple #[dltV a b c, .int .i64 x]) = .returned (.tuple #[dltV a' b' c', .int .i64 y]) := by rw [h1, h2, h3, k]

/-- What DecodeDelta answers. -/
def dcC (t : ByteArray) : Int := if 65536 < t.size then 2 else if decB t = true then 0 else 3
def dcH (t : ByteArray) : Int := if 65536 < t.size then 0 else decH t
def dcG (t : ByteArray) : Int := if 65536 < t.size then 0 else decG t
def dcS (t : ByteArray) : Int := if 65536 < t.size then 0 else decS t
theorem dc_long {t : ByteArray} (h : 65536 < t.size) : dcH t = 0 ∧ dcG t = 0 ∧ dcS t = 0 ∧ dcC t = 2 := ⟨if_pos h, if_pos h, if_pos h, if_pos h⟩
theorem dc_no {t : ByteArray} (h : ¬ 65536 < t.size) (hd : decB t = false) : dcH t = 0 ∧ dcG t = 0 ∧ dcS t = 0 ∧ dcC t = 3 := by
  obtain ⟨e1, e2, e3⟩ := dec_no hd
  exact ⟨(if_neg h).trans e1, (if_neg h).trans e2, (if_neg h).trans e3, (if_neg h).trans (if_neg (by simp [hd]))⟩
theorem dc_yes {t : ByteArray} (h : ¬ 65536 < t.size) (hd : decB t = true) : dcH t = decH t ∧ dcG t = decG t ∧ dcS t = decS t ∧ dcC t = 0 := ⟨if_neg h, if_neg h, if_neg h, (if_neg h).trans (if_pos hd)⟩


end Go.Proofs.Ytmkegkpnomcnhab

/- Contracts of spec's generations, the plain ones: l04Host, DeltaOK, l04Encode, l04Decode. -/
namespace Go.Proofs.Ytmkegkpnomcnhab
open Go.RowKit
set_option linter.unusedVariables false
set_option maxRecDepth 100000

theorem d3_nums {h g s : Int} (hd : dltB h g s = true) : ∀ j (hj : j < [h, g, s].length), 0 ≤ [h, g, s][j] ∧ [h, g, s][j] ≤ 2147483647 := by
  obtain ⟨h1, h2, h3⟩ := dltB_iff.1 hd
  intro j hj
  have hj' : j < 3 := hj
  rcases (show j = 0 ∨ j = 1 ∨ j = 2 by omega) with rfl | rfl | rfl <;> simp <;> omega
theorem is3 (w : World) (n : Nat) (t : TypeId) (a b c : Int) (hn : w.heap.size = n) : Is (w.alloc (.cells #[.int .i64 a, .int .i64 b, .int .i64 c] t)) (some ⟨n, 0, none⟩) [a, b, c] := by
  subst hn
  intro i hi
  have hi' : i < 3 := hi
  refine ⟨w.heap.size, 0, rfl, ?_⟩
  rcases (show i = 0 ∨ i = 1 ∨ i = 2 by omega) with rfl | rfl | rfl <;> simp [go_sem]

theorem ret_db {a b c a' b' c' : Int} {x y : Bool} (h1 : a = a') (h2 : b = b') (h3 : c = c') (k : x = y) : Ending.returned (.tuple #[dltV a b c, .bool x]) = .returned (.tuple #[dltV a' b' c', .bool y]) := by rw [h1, h2, h3, k]
end Go.Proofs.Ytmkegkpnomcnhab

/- Contracts of spec's generations on a disk: l04Read, l04Room, l04Put. -/
namespace Go.Proofs.Ytmkegkpnomcnhab
open Go.RowKit
set_option linter.unusedVariables false
set_option maxRecDepth 100000

theorem ret_dd {a b c a' b' c' : Int} (h1 : a = a') (h2 : b = b') (h3 : c = c') : Ending.returned (dltV a b c) = .returned (dltV a' b' c') := by rw [h1, h2, h3]

/-- What l04Room answers. -/
def roomC (ss : List ByteArray) (xs : List Wr) (h now : Int) : Int := if hostC ss xs h = 0 then (if inB now 0 10000000 = true then (if xs.length = 200 then 7 else 0) else 4) else hostC ss xs h
theorem room_ask {ss : List ByteArray} {xs : List Wr} {h now : Int} (e : hostC ss xs h ≠ 0) : roomC ss xs h now = hostC ss xs h := if_neg e
theorem room_now {ss : List ByteArray} {xs : List Wr} {h now : Int} (e : hostC ss xs h = 0) (e1 : inB now 0 10000000 = false) : roomC ss xs h now = 4 := by simp [roomC, e, e1]
theorem room_full {ss : List ByteArray} {xs : List Wr} {h now : Int} (e : hostC ss xs h = 0) (e1 : inB now 0 10000000 = true) (e2 : xs.length = 200) : roomC ss xs h now = 7 := by simp [roomC, e, e1, e2]
theorem room_ok {ss : List ByteArray} {xs : List Wr} {h now : Int} (e : hostC ss xs h = 0) (e1 : inB now 0 10000000 = true) (e2 : ¬ xs.length = 200) : roomC ss xs h now = 0 := by simp [roomC, e, e1, e2]
theorem room_eq {ss : List ByteArray} {xs : List Wr} {h now : Int} (e : roomC ss xs h now = 0) : hostC ss xs h = 0 ∧ (0 ≤ now ∧ now ≤ 10000000) ∧ xs.length < 200 := by
  by_cases e0 : hostC ss xs h = 0
  · by_cases e1 : inB now 0 10000000 = true
    · by_cases e2 : xs.length = 200
      · rw [room_full e0 e1 e2] at e; cases e
      · have := (diskB_len (hostC_eq e0).1).2
        refine ⟨e0, by simpa [inB] using e1, by omega⟩
    · rw [Bool.not_eq_true] at e1
      rw [room_now e0 e1] at e; cases e
  · rw [room_ask e0] at e; exact absurd e e0
theorem ret_i {a b : Int} (h : a = b) : Ending.returned (.int .i64 a) = .returned (.int .i64 b) := by rw [h]

/-- The disk behind a write of a generation that is sure. -/
def dwr (h g s : Int) : Wr := ⟨h, 5 + h, encD h g s⟩
def pS (ss : List ByteArray) (xs : List Wr) (h g s : Int) : List ByteArray := putW ss (ofH h (xs ++ [dwr h g s]))
def pX (xs : List Wr) (h g s : Int) : List Wr := dropF h (xs ++ [dwr h g s])
theorem dwr_io {h g s : Int} (h0 : 0 ≤ h) (h3 : h ≤ 3) : ioB (dwr h g s) = true := ioB_parts.2 ⟨⟨h0, h3⟩, ⟨by show 0 ≤ 5 + h; omega, by show 5 + h ≤ 63; omega⟩, by show (encD h g s).size ≤ 80; rw [encD_size]; decide⟩
theorem put_right {ss : List ByteArray} {xs : List Wr} {h g s : Int} (hd : diskB ss xs = true) (hl : xs.length < 200) (h0 : 0 ≤ h) (h3 : h ≤ 3) : diskB ss (xs ++ [dwr h g s]) = true := diskB_snoc hd hl (dwr_io h0 h3)
theorem put_land {ss : List ByteArray} {xs : List Wr} {h : Int} (hl : xs.length ≤ 200) : (landF h false ss xs 200).1 = putW ss (ofH h xs) ∧ (landF h false ss xs 200).2.1 = dropF h xs := by
  have hc : (ofH h xs).length ≤ 200 := Nat.le_trans (List.length_filter_le _ _) hl
  obtain ⟨p1, p2⟩ := landF_put h ss xs 200
  have p1' : (landF h false ss xs 200).1 = putW ss ((ofH h xs).take 200) := p1
  have p2' : (landF h false ss xs 200).2.1 = remH h 200 xs := p2
  rw [List.take_of_length_le hc] at p1'
  rw [rem_all 200 xs hc] at p2'
  exact ⟨p1', p2'⟩
theorem pS_right {ss : List ByteArray} {xs : List Wr} {h g s : Int} (hd : diskB ss xs = true) (hl : xs.length < 200) (h0 : 0 ≤ h) (h3 : h ≤ 3) : diskB (pS ss xs h g s) (pX xs h g s) = true :=
  diskB_put (put_right (g := g) (s := s) hd hl h0 h3) (fun x hx => of_mem hx) (fun x hx => drop_mem hx) (drop_le h _)
theorem pS_len (ss : List ByteArray) (xs : List Wr) (h g s : Int) : (pS ss xs h g s).length = ss.length := put_len _ _

theorem rightX {ss : List ByteArray} {xs : List Wr} (hd : diskB ss xs = true) : ∀ x ∈ xs, x.data.size ≤ maxLen := fun x hx => Nat.le_trans (ioB_parts.1 ((diskB_parts.1 hd).2.2 x hx)).2.2 (by decide)
theorem l01Flush_put (ao bo : Option Addr) (ca cb : Nat) (ss : List ByteArray) (xs : List Wr) (h : Int) (n m : Nat) (S : List ByteArray) (X : List Wr) (w : World) (hn : ss.length = n) (hm : xs.length = m) (hS : putW ss (ofH h xs) = S) (hX : dropF h xs = X) (hd : diskB ss xs = true) (h1 : Ss w ao ss) (h2 : Ios w bo xs) :
    Calls Try.prog 37 #[.agg #[.slice ao n ca, .slice bo m cb], .int .i64 h] w fun e w' => ∃ po pa qo qa, e = .returned (.agg #[.slice po n pa, .slice qo X.length qa]) ∧ OwnD w' w.heap.size po n pa qo X.length qa S X ∧ Below w.heap.size w w' := by
  subst hn hm hS hX
  obtain ⟨l1, l2⟩ := diskB_len hd
  obtain ⟨e1, e2⟩ := put_land (ss := ss) (h := h) l2
  have k := l01Flush_any ao bo ca cb ss xs h 200 w rfl (by decide) (by omega) l2 (diskB_at hd) h1 h2
  rw [e1, e2] at k
  exact k

end Go.Proofs.Ytmkegkpnomcnhab

/- Plain: what waits in a slot, as a host reads it. -/
namespace Go.Proofs.Ytmkegkpnomcnhab
open Go.RowKit
set_option linter.unusedVariables false

theorem bytes0 {t : ByteArray} (h : t.size = 0) : t = ⟨#[]⟩ := by
  cases t with
  | mk a => cases a with
    | mk l => cases l with
      | nil => rfl
      | cons x xs => simp [ByteArray.size] at h
theorem text_full {t : ByteArray} (h : t.size ≠ 0) : t.toList.isEmpty = false := by
  rw [ByteArray.toList_eq]
  cases t with
  | mk a => cases a with
    | mk l => cases l with
      | nil => exact absurd rfl h
      | cons x xs => rfl
/-- What a slot's head says. -/
def sdL (t : ByteArray) : List Int := openL t 7
def sdB (t : ByteArray) : Bool := decide (t.size = 0) || (openB t 7 && (decide ((sdL t).length = 2) && decide ((sdL t).getD 0 0 ≤ 5)))
def sdN (t : ByteArray) : Nat := if t.size = 0 then 0 else ((sdL t).getD 0 0).toNat
def sdS (t : ByteArray) : Int := if t.size = 0 then 0 else (sdL t).getD 1 0
theorem two_ofJ {l : List Int} (h : l.length = 2) : ∃ a b, l = [a, b] := by
  match l, h with
  | [a, b], _ => exact ⟨a, b, rfl⟩
theorem open_numsJ {t : ByteArray} {k : Int} (h : openB t k = true) : ∀ x ∈ openL t k, 0 ≤ x ∧ x ≤ 2147483647 := by
  intro x hx
  rw [openL_yes h] at hx
  simp only [openB, Bool.and_eq_true] at h
  obtain ⟨_, _, _, _, _, hu⟩ := recB_iff.1 h.1
  obtain ⟨j, hj, rfl⟩ := List.mem_iff_getElem.1 hx
  exact (intsB_parts (okU_parts hu).2.2).1 j hj
theorem sd_empty {t : ByteArray} (h : t.size = 0) : sdB t = true ∧ sdN t = 0 ∧ sdS t = 0 := by simp [sdB, sdN, sdS, h]
theorem sd_shut {t : ByteArray} (h : t.size ≠ 0) (ho : openB t 7 = false) : sdB t = false := by simp [sdB, h, ho]
theorem sd_len {t : ByteArray} (h : t.size ≠ 0) (hl : ¬ (sdL t).length = 2) : sdB t = false := by simp [sdB, h, hl]
theorem sd_many {t : ByteArray} {a b : Int} (h : t.size ≠ 0) (hl : sdL t = [a, b]) (ha : ¬ a ≤ 5) : sdB t = false := by simp [sdB, h, hl, ha]
theorem sd_yes {t : ByteArray} {a b : Int} (h : t.size ≠ 0) (ho : openB t 7 = true) (hl : sdL t = [a, b]) (ha : a ≤ 5) : sdB t = true ∧ (sdN t : Int) = a ∧ sdN t ≤ 5 ∧ sdS t = b ∧ numB b = true := by
  have h0 := open_numsJ ho a (by rw [show openL t 7 = [a, b] from hl]; simp)
  have h1 := open_numsJ ho b (by rw [show openL t 7 = [a, b] from hl]; simp)
  have e : sdN t = a.toNat := by rw [sdN, if_neg h, hl]; rfl
  refine ⟨by simp [sdB, h, ho, hl, ha], ?_, ?_, ?_, ?_⟩
  · rw [e]; omega
  · rw [e]; omega
  · rw [sdS, if_neg h, hl]; rfl
  · simp [numB, inB]; omega
theorem sd_seq {t : ByteArray} (h : sdB t = true) (hn : sdN t ≠ 0) : numB (sdS t) = true ∧ sdN t ≤ 5 := by
  by_cases h0 : t.size = 0
  · exact absurd (sd_empty h0).2.1 hn
  · by_cases ho : openB t 7 = false
    · rw [sd_shut h0 ho] at h; cases h
    rw [Bool.not_eq_false] at ho
    by_cases hl : (sdL t).length = 2
    · obtain ⟨a, b, e⟩ := two_ofJ hl
      by_cases ha : a ≤ 5
      · obtain ⟨_, _, h3, h4, h5⟩ := sd_yes h0 ho e ha
        rw [h4]; exact ⟨h5, h3⟩
      · rw [sd_many h0 e ha] at h; cases h
    · rw [sd_len h0 hl] at h; cases h
theorem sdN_le {t : ByteArray} (h : sdB t = true) : sdN t ≤ 5 := by
  by_cases hn : sdN t = 0
  · omega
  · exact (sd_seq h hn).2
/-- The updates that wait, text by text. -/
def fuL (F : Nat → ByteArray) (n : Nat) : List Up := (List.range n).map fun i => duU (F i)
def fuB (F : Nat → ByteArray) (n : Nat) : Bool := (List.range n).all fun i => duB (F i)
theorem fuL_length (F : Nat → ByteArray) (n : Nat) : (fuL F n).length = n := by simp [fuL]
theorem fuL_take {F : Nat → ByteArray} {n k : Nat} (h : k < n) : (fuL F n).take (k + 1) = (fuL F n).take k ++ [duU (F k)] := by
  rw [List.take_succ_eq_append_getElem (by rw [fuL_length]; exact h)]; simp [fuL]
theorem fuL_done {F : Nat → ByteArray} {n k : Nat} (h : n ≤ k) : (fuL F n).take k = fuL F n := List.take_of_length_le (by rw [fuL_length]; exact h)
theorem fuB_yes {F : Nat → ByteArray} {n : Nat} (h : ∀ i, i < n → duB (F i) = true) : fuB F n = true := by
  simp only [fuB, List.all_eq_true, List.mem_range]; exact h
theorem fuB_no {F : Nat → ByteArray} {n k : Nat} (hk : k < n) (h : duB (F k) = false) : fuB F n = false := by
  cases hb : fuB F n with
  | false => rfl
  | true =>
    simp only [fuB, List.all_eq_true, List.mem_range] at hb
    rw [hb k hk] at h; cases h
theorem fuB_at {F : Nat → ByteArray} {n : Nat} (h : fuB F n = true) : ∀ i, i < n → duB (F i) = true := by
  simp only [fuB, List.all_eq_true, List.mem_range] at h; exact h
theorem fu_right {F : Nat → ByteArray} {n : Nat} (h : fuB F n = true) : upsB (fuL F n) = true := by
  simp only [upsB, fuL, List.all_map, List.all_eq_true, List.mem_range, Function.comp_apply]
  exact fun i hi => du_right (fuB_at h i hi)
def joF (ss : List ByteArray) (xs : List Wr) (h o : Int) : Nat → ByteArray := fun i => readV ss xs h (slN o + 1 + (i : Int))
def joH (ss : List ByteArray) (xs : List Wr) (h o : Int) : ByteArray := readV ss xs h (slN o)
/-- .. of a head's text T and the updates' texts F. -/
def jkB (T : ByteArray) (F : Nat → ByteArray) : Bool := sdB T && fuB F (sdN T)
def jkL (T : ByteArray) (F : Nat → ByteArray) : List Up := if jkB T F = true then fuL F (sdN T) else []
def jkS (T : ByteArray) (F : Nat → ByteArray) : Int := if jkB T F = true then sdS T else 0
theorem jk_shut {T : ByteArray} {F : Nat → ByteArray} (h : sdB T = false) : jkB T F = false ∧ jkL T F = [] ∧ jkS T F = 0 := by
  have e : jkB T F = false := by simp [jkB, h]
  exact ⟨e, if_neg (by simp [e]), if_neg (by simp [e])⟩
theorem jk_bad {T : ByteArray} {F : Nat → ByteArray} (h : fuB F (sdN T) = false) : jkB T F = false ∧ jkL T F = [] ∧ jkS T F = 0 := by
  have e : jkB T F = false := by simp [jkB, h]
  exact ⟨e, if_neg (by simp [e]), if_neg (by simp [e])⟩
theorem jk_yes {T : ByteArray} {F : Nat → ByteArray} (h : sdB T = true) (hf : fuB F (sdN T) = true) : jkB T F = true ∧ jkL T F = fuL F (sdN T) ∧ jkS T F = sdS T := by
  have e : jkB T F = true := by simp [jkB, h, hf]
  exact ⟨e, if_pos e, if_pos e⟩
theorem jk_right (T : ByteArray) (F : Nat → ByteArray) : upsB (jkL T F) = true ∧ (jkL T F).length ≤ 5 ∧ ((jkL T F).length ≠ 0 → numB (jkS T F) = true) := by
  by_cases h : jkB T F = true
  · have h' := h
    simp only [jkB, Bool.and_eq_true] at h'
    obtain ⟨_, e1, e2⟩ := jk_yes h'.1 h'.2
    rw [e1, e2, fuL_length]
    exact ⟨fu_right h'.2, sdN_le h'.1, fun hn => (sd_seq h'.1 hn).1⟩
  · have e1 : jkL T F = [] := if_neg h
    rw [e1]
    exact ⟨rfl, by simp, fun h => absurd rfl h⟩
/-- What JournalOf and ReplayPlan answer. -/
def joC (ss : List ByteArray) (xs : List Wr) (h o : Int) : Int := if hostC ss xs h = 0 then (if inB o 0 3 = true then (if jkB (joH ss xs h o) (joF ss xs h o) = true then 0 else 18) else 4) else hostC ss xs h
def joL (ss : List ByteArray) (xs : List Wr) (h o : Int) : List Up := if joC ss xs h o = 0 then jkL (joH ss xs h o) (joF ss xs h o) else []
def joS (ss : List ByteArray) (xs : List Wr) (h o : Int) : Int := if joC ss xs h o = 0 then jkS (joH ss xs h o) (joF ss xs h o) else 0
def joM (ss : List ByteArray) (xs : List Wr) (h o : Int) : List Wr := rpL (slN o) (joS ss xs h o) (joL ss xs h o)
theorem joC_host {ss : List ByteArray} {xs : List Wr} {h o : Int} (e : hostC ss xs h ≠ 0) : joC ss xs h o = hostC ss xs h := if_neg e
theorem joC_range {ss : List ByteArray} {xs : List Wr} {h o : Int} (e : hostC ss xs h = 0) (e1 : inB o 0 3 = false) : joC ss xs h o = 4 := by rw [joC, if_pos e, if_neg (by simp [e1])]
theorem joC_broken {ss : List ByteArray} {xs : List Wr} {h o : Int} (e : hostC ss xs h = 0) (e1 : inB o 0 3 = true) (e2 : jkB (joH ss xs h o) (joF ss xs h o) = false) : joC ss xs h o = 18 := by rw [joC, if_pos e, if_pos e1, if_neg (by simp [e2])]
theorem joC_ok {ss : List ByteArray} {xs : List Wr} {h o : Int} (e : hostC ss xs h = 0) (e1 : inB o 0 3 = true) (e2 : jkB (joH ss xs h o) (joF ss xs h o) = true) : joC ss xs h o = 0 := by rw [joC, if_pos e, if_pos e1, if_pos e2]
theorem jo_no {ss : List ByteArray} {xs : List Wr} {h o : Int} (e : joC ss xs h o ≠ 0) : joL ss xs h o = [] ∧ joS ss xs h o = 0 ∧ joM ss xs h o = [] := by
  have e1 : joL ss xs h o = [] := if_neg e
  exact ⟨e1, if_neg e, by rw [joM, e1]; rfl⟩
theorem jo_yes {ss : List ByteArray} {xs : List Wr} {h o : Int} (e : joC ss xs h o = 0) : joL ss xs h o = jkL (joH ss xs h o) (joF ss xs h o) ∧ joS ss xs h o = jkS (joH ss xs h o) (joF ss xs h o) := ⟨if_pos e, if_pos e⟩
theorem jo_right (ss : List ByteArray) (xs : List Wr) (h o : Int) : upsB (joL ss xs h o) = true ∧ (joL ss xs h o).length ≤ 5 ∧ ((joL ss xs h o).length ≠ 0 → numB (joS ss xs h o) = true) := by
  by_cases e : joC ss xs h o = 0
  · rw [(jo_yes e).1, (jo_yes e).2]; exact jk_right _ _
  · rw [(jo_no e).1]; exact ⟨rfl, by simp, fun h => absurd rfl h⟩
theorem upB_size {us : List Up} (h : upsB us = true) : ∀ x ∈ us, x.data.size ≤ maxLen := fun x hx => by
  have := (upB_iff.1 (List.all_eq_true.1 h x hx)).2
  unfold maxLen; omega
/-- A row of updates that grows, of the call's own. -/
structure UpS (w W : World) (qo : Option Addr) (n qa : Nat) (us : List Up) : Prop where
  o : OwnR W w.heap.size 55 2 (.slice qo n qa) n (upsV us)
  k : Below w.heap.size w W
theorem UpS.next {w W W' : World} {qo : Option Addr} {n qa : Nat} {us : List Up} (h : UpS w W qo n qa us) (hb : Below W.heap.size W W') : UpS w W' qo n qa us := ⟨h.o.below hb, fr h.k hb⟩
def upV (x : Up) : List Value := [.int .i64 x.at_, .string x.data]
theorem upV_one (x : Up) : ∀ u ∈ upV x, u.oneCell' = true := by
  intro u hu
  simp [upV] at hu
  rcases hu with rfl | rfl <;> rfl
theorem UpS.one {w W W' : World} {qo : Option Addr} {n qa g cap : Nat} {us : List Up} {x : Up} (h : UpS w W qo n qa us)
    (ho : W'.ownsRow w.heap.size 55 2 (.slice (some ⟨g, 0, none⟩) (n + 1) cap) (n + 1) (upsV us ++ upV x)) (hk : Keep (Own (.slice qo n qa)) W W') : UpS w W' (some ⟨g, 0, none⟩) (n + 1) cap (us ++ [x]) := by
  refine ⟨.inr ⟨by omega, ?_⟩, belowKp h.k hk (fun j hj => (h.o.ge j hj).1)⟩
  rw [upsV_append]; exact ho
theorem UpS.sz {w W : World} {qo : Option Addr} {n qa : Nat} {us : List Up} (h : UpS w W qo n qa us) : w.heap.size ≤ W.heap.size := h.k.size
theorem UpS.len {w W : World} {qo : Option Addr} {n qa : Nat} {us : List Up} (h : UpS w W qo n qa us) : n = us.length := by
  have := h.o.len; rw [upsV_length] at this; omega
theorem UpS.ups {w W : World} {qo : Option Addr} {n qa : Nat} {us : List Up} (h : UpS w W qo n qa us) (hz : upsB us = true) : Ups W qo us := by
  have e := h.len
  subst e
  exact ownUps h.o (upB_size hz)
theorem news2_at (w : World) (n : Nat) (x : Up) (t : TypeId) (hn : w.heap.size = n) : ∀ j u, (upV x)[j]? = some u → (w.alloc (.cells #[.int .i64 x.at_, .string x.data] t)).cell? ((⟨n, 0, none⟩ : Addr).add j) = some u := by
  subst hn
  exact World.news_of_block (cs := #[.int .i64 x.at_, .string x.data]) (heap_alloc_new w _)
/-- An update that a statement lays into a new variable. -/
structure GotU (W0 W : World) (C : Nat) (t : TypeId) (u : Up) : Prop where
  k : Below W0.heap.size W0 W
  v : VarU W C t u
  c : W0.heap.size ≤ C
theorem GotU.top {W0 W : World} (t : TypeId) (u : Up) (h : Below W0.heap.size W0 W) : GotU W0 (W.alloc (.cells #[.int .i64 u.at_, .string u.data] t)) W.heap.size t u := ⟨belowAl h _, VarU.new W t u, h.size⟩
theorem GotU.set {W0 W : World} {t : TypeId} {u u0 : Up} {C : Nat} (h : Below W0.heap.size W0 W) (hv : VarU W C t u0) (hC : W0.heap.size ≤ C) : GotU W0 ((W.setCell ⟨C, 0, none⟩ (.int .i64 u.at_)).setCell ⟨C, 1, none⟩ (.string u.data)) C t u :=
  ⟨below2 h hC 0 1 _ _, Joins.block_setCell (i := 1) (Joins.block_setCell (i := 0) hv _) _, hC⟩
end Go.Proofs.Ytmkegkpnomcnhab

/- Contracts of spec's moves: l07Move, l07Do, MovesDo. -/
namespace Go.Proofs.Ytmkegkpnomcnhab
open Go.RowKit
set_option linter.unusedVariables false
set_option maxRecDepth 100000

abbrev wV (x : Wr) : Value := .agg #[.int .i64 x.host, .int .i64 x.at_, .string x.data]
theorem text_none {t : ByteArray} : t.toList.isEmpty = decide (t.size = 0) := by
  by_cases h : t.size = 0
  · obtain rfl := bytes0 h; rw [ByteArray.toList_eq]; rfl
  · rw [text_full h, decide_eq_false h]

theorem l01Write_len (ao bo : Option Addr) (n m ca cb : Nat) (xs : List Wr) (x : Wr) (w : World) (hm' : m = xs.length) (hm : xs.length ≤ 1048576) (h2 : Ios w bo xs) (hz : ∀ y ∈ xs ++ [x], y.data.size ≤ maxLen) :
    Calls Try.prog 36 #[.agg #[.slice ao n ca, .slice bo m cb], wV x] w fun e w' => ∃ g cap, e = .returned (.agg #[.slice ao n ca, .slice (some ⟨g, 0, none⟩) (m + 1) cap]) ∧ Ios w' (some ⟨g, 0, none⟩) (xs ++ [x]) ∧ Below w.heap.size w w' := by
  subst hm'
  refine (l01Write_any ao bo n ca cb xs x w hm h2).mono ?_
  rintro e w' ⟨g, cap, rfl, ho, hb⟩
  exact ⟨g, cap, rfl, ownI (xs := xs ++ [x]) (by rw [List.length_append]; exact ho) hz, hb⟩

end Go.Proofs.Ytmkegkpnomcnhab

/- Contract of spec's MovesDo. -/
namespace Go.Proofs.Ytmkegkpnomcnhab
open Go.RowKit
set_option linter.unusedVariables false
set_option maxRecDepth 100000

theorem ret_md {po qo : Option Addr} {n n' m m' pa qa : Nat} {c c' : Int} (h1 : n = n') (h2 : m = m') (h3 : c = c') : Ending.returned (.tuple #[.agg #[.slice po n pa, .slice qo m qa], .int .i64 c]) = Ending.returned (.tuple #[.agg #[.slice po n' pa, .slice qo m' qa], .int .i64 c']) := by rw [h1, h2, h3]
/-- The end of a call that lays its answer into the variable R. -/
theorem md_end {w W : World} {R n m pa qa : Nat} {po qo : Option Addr} {SS : List ByteArray} {XX : List Wr} (hR : VarD W R (.slice none 0 0) (.slice none 0 0)) (hb : Below w.heap.size w W) (hr : w.heap.size ≤ R) (ho : OwnD W w.heap.size po n pa qo m qa SS XX) (u v : Value) :
    OwnD ((W.setCell ⟨R, 0, none⟩ u).setCell ⟨R, 1, none⟩ v) w.heap.size po n pa qo m qa SS XX ∧ Below w.heap.size w ((W.setCell ⟨R, 0, none⟩ u).setCell ⟨R, 1, none⟩ v) :=
  ⟨ho.keep (((Keep.refl (fun j => j = R) W).setCell (p := ⟨R, 0, none⟩) rfl u).setCell (p := ⟨R, 1, none⟩) rfl v) (fun g hg e => ho.other hR (by decide) (by decide) (e ▸ hg)), below2 hb hr 0 1 u v⟩

end Go.Proofs.Ytmkegkpnomcnhab

/- Plain words of the clocks, and contracts of their tests: within, hourOK, configInBounds, l01In, l03Bounds. -/
namespace Go.Proofs.Ytmkegkpnomcnhab
open Go.RowKit
set_option linter.unusedVariables false
set_option maxRecDepth 100000

theorem hidB {p : Prop} (h : p) : Hid p := h
theorem frB {a b c : World} (h : Below a.heap.size a b) (k : Below b.heap.size b c) : Below a.heap.size a c := h.trans (k.mono h.size)
/-- A number within bounds. -/
def betw (n low high : Int) : Bool := decide (low ≤ n) && decide (n ≤ high)
theorem betw_yes {n low high : Int} (h : low ≤ n) (h' : n ≤ high) : betw n low high = true := by simp [betw, h, h']
theorem betw_no {n low high : Int} (h : ¬ (low ≤ n ∧ n ≤ high)) : betw n low high = false := by simp only [betw, Bool.and_eq_false_iff, decide_eq_false_iff_not]; omega
theorem betw_iff {n low high : Int} : betw n low high = true ↔ low ≤ n ∧ n ≤ high := by simp [betw]
/-- A configuration within its bounds. -/
def cfgB (f d l r : Int) : Bool := betw f 1 10000 && betw d 1 100000 && betw l 0 1000 && betw r 0 500
theorem cfgB_iff {f d l r : Int} : cfgB f d l r = true ↔ (1 ≤ f ∧ f ≤ 10000) ∧ (1 ≤ d ∧ d ≤ 100000) ∧ (0 ≤ l ∧ l ≤ 1000) ∧ 0 ≤ r ∧ r ≤ 500 := by
  simp only [cfgB, Bool.and_eq_true, betw_iff, and_assoc]
/-- The bounds of true time. -/
def latQ (r x : Int) : Int := ((x + 1) * 1000 + 999 - r) / (1000 - r)
def earQ (r x : Int) : Int := (x - 1) * 1000 / (1000 + r)
def locQ (o r t : Int) : Int := o + t * (1000 + r) / 1000
abbrev cfgV (f d l r : Int) : Value := .agg #[.int .i64 f, .int .i64 d, .int .i64 l, .int .i64 r]
abbrev clkV (o r : Int) : Value := .agg #[.int .i64 o, .int .i64 r]

/-- A configuration in a variable. -/
abbrev Four (w : World) (b : Nat) (f d l r : Int) : Prop := w.cell? ⟨b, 0, none⟩ = some (.int .i64 f) ∧ w.cell? ⟨b, 1, none⟩ = some (.int .i64 d) ∧ w.cell? ⟨b, 2, none⟩ = some (.int .i64 l) ∧ w.cell? ⟨b, 3, none⟩ = some (.int .i64 r)
theorem Four.below {w w' : World} {b : Nat} {f d l r : Int} (h : Four w b f d l r) (hb : Below w.heap.size w w') : Four w' b f d l r :=
  ⟨(hb.cell (World.block_lt_of_cell? _ _ h.1)).trans h.1, (hb.cell (World.block_lt_of_cell? _ _ h.2.1)).trans h.2.1, (hb.cell (World.block_lt_of_cell? _ _ h.2.2.1)).trans h.2.2.1, (hb.cell (World.block_lt_of_cell? _ _ h.2.2.2)).trans h.2.2.2⟩
set_option maxHeartbeats 800000 in
theorem within_any (n low high : Int) (w : World) : Calls Try.prog 41 #[.int .i64 n, .int .i64 low, .int .i64 high] w fun e w' => e = .returned (.bool (betw n low high)) ∧ w' = w := by
  by_cases h1 : low ≤ n
  · by_cases h2 : n ≤ high
    · have hr := hidB (betw_yes h1 h2)
      go_enter Try.func41, Try.ntmps41
      go_wp2
      go_ret
      rw [show betw n low high = true from hr]
      exact ⟨rfl, rfl⟩
    · have hr := hidB (betw_no (n := n) (low := low) (high := high) (by omega))
      go_enter Try.func41, Try.ntmps41
      go_wp2
      go_ret
      rw [show betw n low high = false from hr]
      exact ⟨rfl, rfl⟩
  · have hr := hidB (betw_no (n := n) (low := low) (high := high) (by omega))
    go_enter Try.func41, Try.ntmps41
    go_wp2
    go_ret
    rw [show betw n low high = false from hr]
    exact ⟨rfl, rfl⟩
set_option maxHeartbeats 800000 in
theorem in_any (n low high : Int) (w : World) : Calls Try.prog 14 #[.int .i64 n, .int .i64 low, .int .i64 high] w fun e w' => e = .returned (.bool (betw n low high)) ∧ w' = w := by
  by_cases h1 : low ≤ n
  · by_cases h2 : n ≤ high
    · have hr := hidB (betw_yes h1 h2)
      go_enter Try.func14, Try.ntmps14
      go_wp2
      go_ret
      rw [show betw n low high = true from hr]
      exact ⟨rfl, rfl⟩
    · have hr := hidB (betw_no (n := n) (low := low) (high := high) (by omega))
      go_enter Try.func14, Try.ntmps14
      go_wp2
      go_ret
      rw [show betw n low high = false from hr]
      exact ⟨rfl, rfl⟩
  · have hr := hidB (betw_no (n := n) (low := low) (high := high) (by omega))
    go_enter Try.func14, Try.ntmps14
    go_wp2
    go_ret
    rw [show betw n low high = false from hr]
    exact ⟨rfl, rfl⟩

theorem cfg_1 {f d l r : Int} (h : betw f 1 10000 = false) : cfgB f d l r = false := by simp [cfgB, h]
theorem cfg_2 {f d l r : Int} (h : betw d 1 100000 = false) : cfgB f d l r = false := by simp [cfgB, h]
theorem cfg_3 {f d l r : Int} (h : betw l 0 1000 = false) : cfgB f d l r = false := by simp [cfgB, h]
theorem cfg_4 {f d l r : Int} (h1 : betw f 1 10000 = true) (h2 : betw d 1 100000 = true) (h3 : betw l 0 1000 = true) : cfgB f d l r = betw r 0 500 := by simp [cfgB, h1, h2, h3]

end Go.Proofs.Ytmkegkpnomcnhab
