import Derived.Test.YtlhinknmbgijeabDoorLBlocksPart1
import Derived.Test.YtlhinknmbgijeabDoorLBlocksPart6
import Derived.Test.YtlhinknmbgijeabDoorLBlocksPart7
import Derived.WalkKit
import Derived.Test.YtlhinknmbgijeabDoorLBlocksPart2
import Derived.Test.YtlhinknmbgijeabDoorRows
import Derived.Test.YtlhinknmbgijeabDoorLBlocksPart4
import Derived.WalkSpells
import Derived.Deep.RegionLawGrows
import Derived.Deep.RegionLaw
import Derived.Deep.AppendLies
import Derived.KernelRfl
import Derived.Lib.SmallJoins
import Derived.Deep.RegionHeld3

/- Plain: what landing and losing leave of a disk, written out. -/
namespace Go.Proofs.YtlhinknmbgijeabDoor
set_option linter.unusedVariables false

/-- A host's writes; sectors behind writes; what is left of writes without a host's first ones. -/
def ofH (h : Int) (xs : List Wr) : List Wr := xs.filter fun x => x.host == h
def putW (ss : List ByteArray) (fs : List Wr) : List ByteArray := fs.foldl (fun s x => s.set x.at_.toNat x.data) ss
def remH (h : Int) : Nat → List Wr → List Wr
  | _, [] => []
  | 0, x :: xs => x :: remH h 0 xs
  | n + 1, x :: xs => if x.host = h then remH h n xs else x :: remH h (n + 1) xs

theorem remH_zero (h : Int) : ∀ xs : List Wr, remH h 0 xs = xs
  | [] => rfl
  | x :: xs => by rw [remH, remH_zero h xs]
theorem ofH_cons_hit {h : Int} {x : Wr} (xs : List Wr) (hx : x.host = h) : ofH h (x :: xs) = x :: ofH h xs := by simp [ofH, hx]
theorem ofH_cons_miss {h : Int} {x : Wr} (xs : List Wr) (hx : ¬ x.host = h) : ofH h (x :: xs) = ofH h xs := by simp [ofH, hx]
theorem remH_hit {h : Int} {x : Wr} (n : Nat) (xs : List Wr) (hx : x.host = h) : remH h (n + 1) (x :: xs) = remH h n xs := by rw [remH, if_pos hx]
theorem remH_miss {h : Int} {x : Wr} (n : Nat) (xs : List Wr) (hx : ¬ x.host = h) : remH h n (x :: xs) = x :: remH h n xs := by
  cases n with
  | zero => rw [remH]
  | succ n => rw [remH, if_neg hx]

theorem fold_land (h : Int) : ∀ (xs : List Wr) (SS : List ByteArray) (LX : List Wr) (n : Nat),
    xs.foldl (stepF h false) (SS, LX, (n : Int)) = (putW SS ((ofH h xs).take n), LX ++ remH h n xs, ((n - (ofH h xs).length : Nat) : Int))
  | [], SS, LX, n => by simp [ofH, putW, remH]
  | x :: xs, SS, LX, n => by
    rw [List.foldl_cons]
    by_cases hx : x.host = h
    · cases n with
      | zero =>
        rw [step_keep hx SS LX (by simp), show ((0 : Nat) : Int) = ((0 : Nat) : Int) from rfl, fold_land h xs, remH_zero, remH_zero]
        simp [putW]
      | succ n =>
        rw [step_land hx SS LX (by omega), show ((n + 1 : Nat) : Int) - 1 = (n : Int) by omega, fold_land h xs, ofH_cons_hit xs hx, remH_hit n xs hx]
        rw [List.take_succ_cons, List.length_cons, show n + 1 - ((ofH h xs).length + 1) = n - (ofH h xs).length by omega]
        rfl
    · rw [step_other hx, fold_land h xs, ofH_cons_miss xs hx, remH_miss n xs hx]
      simp
theorem landF_put (h : Int) (ss : List ByteArray) (xs : List Wr) (n : Nat) : (landF h false ss xs (n : Int)).1 = putW ss ((ofH h xs).take n) ∧ (landF h false ss xs (n : Int)).2.1 = remH h n xs := by
  unfold landF
  rw [fold_land]
  exact ⟨rfl, by simp⟩

theorem cntW_of (xs : List Wr) (h : Int) : cntW xs h = (ofH h xs).length := rfl
theorem drop_rem (h : Int) : ∀ (n : Nat) (xs : List Wr), dropF h (remH h n xs) = dropF h xs
  | _, [] => by cases ‹Nat› <;> rfl
  | 0, x :: xs => by rw [remH_zero]
  | n + 1, x :: xs => by
    by_cases hx : x.host = h
    · rw [remH_hit n xs hx, drop_rem h n xs]; simp [dropF, hx]
    · rw [remH_miss _ xs hx]
      have := drop_rem h (n + 1) xs
      simp only [dropF, List.filter_cons] at this ⊢
      simp [hx, this]
theorem of_rem (h : Int) : ∀ (n : Nat) (xs : List Wr), ofH h (remH h n xs) = (ofH h xs).drop n
  | _, [] => by cases ‹Nat› <;> simp [remH, ofH]
  | 0, x :: xs => by rw [remH_zero]; rfl
  | n + 1, x :: xs => by
    by_cases hx : x.host = h
    · rw [remH_hit n xs hx, of_rem h n xs, ofH_cons_hit xs hx]; rfl
    · rw [remH_miss _ xs hx, ofH_cons_miss _ hx, ofH_cons_miss _ hx, of_rem h (n + 1) xs]
theorem rem_rem (h : Int) : ∀ (n : Nat) (xs : List Wr), remH h 1 (remH h n xs) = remH h (n + 1) xs
  | _, [] => by cases ‹Nat› <;> rfl
  | 0, x :: xs => by rw [remH_zero]
  | n + 1, x :: xs => by
    by_cases hx : x.host = h
    · rw [remH_hit n xs hx, rem_rem h n xs, remH_hit (n + 1) xs hx]
    · rw [remH_miss _ xs hx, remH_miss _ _ hx, rem_rem h (n + 1) xs, remH_miss _ xs hx]
theorem rem_none {h : Int} : ∀ (n : Nat) {xs : List Wr}, ofH h xs = [] → remH h n xs = xs
  | _, [], _ => by cases ‹Nat› <;> rfl
  | n, x :: xs, e => by
    have hx : ¬ x.host = h := fun hx => by rw [ofH_cons_hit xs hx] at e; cases e
    rw [ofH_cons_miss xs hx] at e
    rw [remH_miss n xs hx, rem_none n e]
theorem rem_all {h : Int} : ∀ (n : Nat) (xs : List Wr), (ofH h xs).length ≤ n → remH h n xs = dropF h xs
  | _, [], _ => by cases ‹Nat› <;> rfl
  | n, x :: xs, e => by
    by_cases hx : x.host = h
    · rw [ofH_cons_hit xs hx] at e
      cases n with
      | zero => simp at e
      | succ n =>
        rw [remH_hit n xs hx, rem_all n xs (by simpa using e)]; simp [dropF, hx]
    · rw [ofH_cons_miss xs hx] at e
      rw [remH_miss n xs hx, rem_all n xs e]; simp [dropF, hx]
theorem of_drop (h : Int) (xs : List Wr) : ofH h (dropF h xs) = [] := by
  simp [ofH, dropF, List.filter_filter]
theorem drop_len (h : Int) : ∀ xs : List Wr, (dropF h xs).length + (ofH h xs).length = xs.length
  | [] => rfl
  | x :: xs => by
    have := drop_len h xs
    by_cases hx : x.host = h
    · rw [ofH_cons_hit xs hx]; simp only [dropF, List.filter_cons] at this ⊢; simp [hx]; omega
    · rw [ofH_cons_miss xs hx]; simp only [dropF, List.filter_cons] at this ⊢; simp [hx]; omega

/-- Losing a host: the first writes are sure, the others gone. -/
theorem landF_gone (h : Int) (ss : List ByteArray) (xs : List Wr) (n : Nat) : (landF h true ss xs (n : Int)).1 = putW ss ((ofH h xs).take n) ∧ (landF h true ss xs (n : Int)).2.1 = dropF h xs := by
  obtain ⟨e1, e2⟩ := landF_lost h (n : Int) ss xs
  obtain ⟨p1, p2⟩ := landF_put h ss xs n
  rw [e1, e2, p1, p2, drop_rem]
  exact ⟨rfl, rfl⟩
theorem put_snoc (ss : List ByteArray) (fs : List Wr) (x : Wr) : putW ss (fs ++ [x]) = (putW ss fs).set x.at_.toNat x.data := by simp [putW]
theorem put_len (ss : List ByteArray) : ∀ fs : List Wr, (putW ss fs).length = ss.length := fun fs => by
  induction fs generalizing ss with
  | nil => rfl
  | cons x fs ih => simp only [putW, List.foldl_cons] at ih ⊢; rw [ih]; simp
theorem put_more (ss : List ByteArray) (fs : List Wr) (n : Nat) : putW (putW ss (fs.take n)) ((fs.drop n).take 1) = putW ss (fs.take (n + 1)) := by
  rw [List.take_add]
  simp [putW]

theorem diskB_parts {ss : List ByteArray} {xs : List Wr} : diskB ss xs = true ↔ (ss.length = 64 ∧ ∀ s ∈ ss, s.size ≤ 80) ∧ xs.length ≤ 200 ∧ ∀ x ∈ xs, ioB x = true := by
  simp only [diskB, secB, penB, Bool.and_eq_true, decide_eq_true_eq, List.all_eq_true]
theorem ioB_parts {x : Wr} : ioB x = true ↔ (0 ≤ x.host ∧ x.host ≤ 3) ∧ (0 ≤ x.at_ ∧ x.at_ ≤ 63) ∧ x.data.size ≤ 80 := by
  simp only [ioB, Bool.and_eq_true, decide_eq_true_eq]
  omega
theorem put_mem {P : ByteArray → Prop} : ∀ (fs : List Wr) (ss : List ByteArray), (∀ s ∈ ss, P s) → (∀ x ∈ fs, P x.data) → ∀ s ∈ putW ss fs, P s
  | [], ss, h1, _ => h1
  | x :: fs, ss, h1, h2 => by
    have := put_mem fs (ss.set x.at_.toNat x.data) (fun s hs => by
      rcases List.mem_or_eq_of_mem_set hs with h | h
      · exact h1 s h
      · rw [h]; exact h2 x (List.mem_cons_self ..)) (fun y hy => h2 y (List.mem_cons_of_mem _ hy))
    simpa [putW] using this
theorem of_mem {h : Int} {xs : List Wr} {x : Wr} (hx : x ∈ ofH h xs) : x ∈ xs := (List.mem_filter.1 hx).1
theorem drop_mem {h : Int} {xs : List Wr} {x : Wr} (hx : x ∈ dropF h xs) : x ∈ xs := (List.mem_filter.1 hx).1
theorem rem_mem {h : Int} : ∀ (n : Nat) {xs : List Wr} {x : Wr}, x ∈ remH h n xs → x ∈ xs
  | n, [], x, hx => by cases n <;> exact hx
  | 0, y :: ys, x, hx => by rwa [remH_zero] at hx
  | n + 1, y :: ys, x, hx => by
    by_cases hy : y.host = h
    · rw [remH_hit n ys hy] at hx; exact List.mem_cons_of_mem _ (rem_mem n hx)
    · rw [remH_miss _ ys hy] at hx
      rcases List.mem_cons.1 hx with rfl | hx
      · exact List.mem_cons_self ..
      · exact List.mem_cons_of_mem _ (rem_mem (n + 1) hx)
theorem rem_len {h : Int} (n : Nat) (xs : List Wr) : (remH h n xs).length ≤ xs.length := by
  induction xs generalizing n with
  | nil => cases n <;> exact Nat.le_refl _
  | cons x xs ih =>
    cases n with
    | zero => rw [remH_zero]; exact Nat.le_refl _
    | succ n =>
      by_cases hx : x.host = h
      · rw [remH_hit n xs hx]; have := ih n; simp; omega
      · rw [remH_miss _ xs hx]; have := ih (n + 1); simp; omega
/-- A right disk stays right where writes land, or are gone. -/
theorem diskB_put {ss : List ByteArray} {xs ys fs : List Wr} (hd : diskB ss xs = true) (hf : ∀ x ∈ fs, x ∈ xs) (hy : ∀ x ∈ ys, x ∈ xs) (hl : ys.length ≤ xs.length) : diskB (putW ss fs) ys = true := by
  obtain ⟨⟨a1, a2⟩, a3, a4⟩ := diskB_parts.1 hd
  refine diskB_parts.2 ⟨⟨by rw [put_len]; exact a1, put_mem fs ss a2 (fun x hx => (ioB_parts.1 (a4 x (hf x hx))).2.2)⟩, by omega, fun x hx => a4 x (hy x hx)⟩
theorem diskB_snoc {ss : List ByteArray} {xs : List Wr} {x : Wr} (hd : diskB ss xs = true) (hl : xs.length < 200) (hx : ioB x = true) : diskB ss (xs ++ [x]) = true := by
  obtain ⟨⟨a1, a2⟩, a3, a4⟩ := diskB_parts.1 hd
  refine diskB_parts.2 ⟨⟨a1, a2⟩, by simp; omega, fun y hy => ?_⟩
  rcases List.mem_append.1 hy with h | h
  · exact a4 y h
  · simp at h; subst h; exact hx
theorem drop_le (h : Int) (xs : List Wr) : (dropF h xs).length ≤ xs.length := by have := drop_len h xs; omega
theorem askC_right {ss : List ByteArray} {xs : List Wr} {h a : Int} (hd : diskB ss xs = true) (h0 : 0 ≤ h) (h1 : h ≤ 3) (a0 : 0 ≤ a) (a1 : a ≤ 63) : hostC ss xs h = 0 ∧ askC ss xs h a = 0 := by
  have e := hostC_ok (h := h) hd (by simp [inB]; omega)
  exact ⟨e, askC_ok e (by simp [inB]; omega)⟩

/-- What a host reads behind its own write, and what another one reads. -/
theorem read_own {ss : List ByteArray} {xs : List Wr} {h a : Int} {t : ByteArray} : readV ss (xs ++ [⟨h, a, t⟩]) h a = t := by
  have hk : xs.length < (xs ++ [(⟨h, a, t⟩ : Wr)]).length := by simp
  rw [readV_hit (k := xs.length) hk (by simp) (fun j hj hlt => by simp at hj; omega)]
  simp
theorem read_sure {ss : List ByteArray} {xs : List Wr} {h a : Int} (hn : ofH h xs = []) : readV ss xs h a = ss.getD a.toNat ⟨#[]⟩ := by
  refine readV_none fun j hj hm => ?_
  have : xs[j] ∈ ofH h xs := List.mem_filter.2 ⟨List.getElem_mem hj, by simp [hm.1]⟩
  rw [hn] at this
  cases this
theorem read_other {ss : List ByteArray} {xs : List Wr} {h o a b : Int} {t : ByteArray} (ho : o ≠ h) : readV ss (xs ++ [⟨h, a, t⟩]) o b = readV ss xs o b := by
  by_cases e : ∃ k, IsLast xs o b k
  · obtain ⟨k, ⟨hk, hm⟩, hn⟩ := e
    have hk' : k < (xs ++ [(⟨h, a, t⟩ : Wr)]).length := by simp; omega
    have hg : (xs ++ [(⟨h, a, t⟩ : Wr)])[k] = xs[k] := List.getElem_append_left hk
    rw [readV_hit hk hm hn, readV_hit hk' (by rw [hg]; exact hm) (fun j hj hlt => ?_), hg]
    by_cases hj' : j < xs.length
    · rw [List.getElem_append_left hj']; exact hn j hj' hlt
    · have : j = xs.length := by simp at hj; omega
      subst this
      simp only [mat]
      rw [List.getElem_append_right (Nat.le_refl _)]
      simp
      intro e2
      exact absurd e2.symm ho
  · have hn : ∀ j (hj : j < xs.length), ¬ mat xs[j] o b := by
      intro j hj hm
      -- the greatest such place
      have : ∀ d j, (hj : j < xs.length) → xs.length - j = d → mat xs[j] o b → ∃ k, IsLast xs o b k := by
        intro d
        induction d using Nat.strongRecOn with
        | ind d ih =>
          intro j hj hd hm
          by_cases more : ∃ i, ∃ hi : i < xs.length, j < i ∧ mat xs[i] o b
          · obtain ⟨i, hi, hlt, hmi⟩ := more
            exact ih (xs.length - i) (by omega) i hi rfl hmi
          · exact ⟨j, ⟨hj, hm⟩, fun i hi hlt hmi => more ⟨i, hi, hlt, hmi⟩⟩
      exact e (this _ j hj rfl hm)
    rw [readV_none hn, readV_none]
    intro j hj hm
    by_cases hj' : j < xs.length
    · rw [List.getElem_append_left hj'] at hm; exact hn j hj' hm
    · have : j = xs.length := by simp at hj; omega
      subst this
      simp only [mat] at hm
      rw [List.getElem_append_right (Nat.le_refl _)] at hm
      simp at hm
      exact ho hm.1.symm

end Go.Proofs.YtlhinknmbgijeabDoor

/- Plain words of the generations: what a right one is, its text, what a text says. -/
namespace Go.Proofs.YtlhinknmbgijeabDoor
open Go.RowKit
set_option linter.unusedVariables false

abbrev dltV (h g s : Int) : Value := .agg #[.int .i64 h, .int .i64 g, .int .i64 s]
def dltB (h g s : Int) : Bool := inB h 0 3 && (inB g 1 1000000 && inB s 0 10000000)
theorem dltB_iff {h g s : Int} : dltB h g s = true ↔ (0 ≤ h ∧ h ≤ 3) ∧ (1 ≤ g ∧ g ≤ 1000000) ∧ 0 ≤ s ∧ s ≤ 10000000 := by
  simp only [dltB, inB, Bool.and_eq_true, decide_eq_true_eq]
theorem dltB_1 {h g s : Int} (e : inB h 0 3 = false) : dltB h g s = false := by simp [dltB, e]
theorem dltB_2 {h g s : Int} (e : inB g 1 1000000 = false) : dltB h g s = false := by simp [dltB, e]
theorem dltB_3 {h g s : Int} (e1 : inB h 0 3 = true) (e2 : inB g 1 1000000 = true) : dltB h g s = inB s 0 10000000 := by simp [dltB, e1, e2]
/-- Its text. -/
def encD (h g s : Int) : ByteArray := sealS 9 [h, g, s]
theorem encD_size (h g s : Int) : (encD h g s).size = 16 := by rw [encD, sealS_size]; rfl
/-- What a text says. -/
def decL (t : ByteArray) : List Int := openL t 9
def decB (t : ByteArray) : Bool := openB t 9 && (decide ((decL t).length = 3) && dltB ((decL t).getD 0 0) ((decL t).getD 1 0) ((decL t).getD 2 0))
def decH (t : ByteArray) : Int := if decB t = true then (decL t).getD 0 0 else 0
def decG (t : ByteArray) : Int := if decB t = true then (decL t).getD 1 0 else 0
def decS (t : ByteArray) : Int := if decB t = true then (decL t).getD 2 0 else 0
theorem decB_open {t : ByteArray} (h : openB t 9 = false) : decB t = false := by simp [decB, h]
theorem decB_len {t : ByteArray} (h : ¬ (decL t).length = 3) : decB t = false := by simp [decB, h]
theorem decB_at {t : ByteArray} {a b c : Int} (h : openB t 9 = true) (hl : decL t = [a, b, c]) : decB t = dltB a b c := by simp [decB, h, hl]
theorem dec_no {t : ByteArray} (h : decB t = false) : decH t = 0 ∧ decG t = 0 ∧ decS t = 0 := by simp [decH, decG, decS, h]
theorem dec_yes {t : ByteArray} {a b c : Int} (h : decB t = true) (hl : decL t = [a, b, c]) : decH t = a ∧ decG t = b ∧ decS t = c := by simp [decH, decG, decS, h, hl]
theorem three {l : List Int} (h : l.length = 3) : ∃ a b c, l = [a, b, c] := by
  match l, h with
  | [a, b, c], _ => exact ⟨a, b, c, rfl⟩
theorem dec_right {t : ByteArray} (h : decB t = true) : dltB (decH t) (decG t) (decS t) = true := by
  by_cases hl : (decL t).length = 3
  · obtain ⟨a, b, c, e⟩ := three hl
    by_cases ho : openB t 9 = true
    · rw [decB_at ho e] at h
      have h' : decB t = true := by rw [decB_at ho e]; exact h
      obtain ⟨e1, e2, e3⟩ := dec_yes h' e
      rw [e1, e2, e3]; exact h
    · rw [Bool.not_eq_true] at ho
      rw [decB_open ho] at h; cases h
  · rw [decB_len hl] at h; cases h

/-- One in a variable. -/
def VarT (w : World) (x : Nat) (t : TypeId) (h g s : Int) : Prop := w.heap[x]? = some (.cells #[.int .i64 h, .int .i64 g, .int .i64 s] t (0, 0))
theorem VarT.lt {w : World} {x t : Nat} {h g s : Int} (k : VarT w x t h g s) : x < w.heap.size := (Array.getElem?_eq_some_iff.1 k).1
theorem VarT.cells {w : World} {x t : Nat} {h g s : Int} (k : VarT w x t h g s) : w.cell? ⟨x, 0, none⟩ = some (.int .i64 h) ∧ w.cell? ⟨x, 1, none⟩ = some (.int .i64 g) ∧ w.cell? ⟨x, 2, none⟩ = some (.int .i64 s) := ⟨by rw [Joins.cell_of_block k]; rfl, by rw [Joins.cell_of_block k]; rfl, by rw [Joins.cell_of_block k]; rfl⟩
theorem VarT.free {w : World} {x t : Nat} {h g s : Int} (k : VarT w x t h g s) : w.frozen? ⟨x, 0, none⟩ = false ∧ w.frozen? ⟨x, 1, none⟩ = false ∧ w.frozen? ⟨x, 2, none⟩ = false := ⟨Joins.unfrozen_of_block k 0, Joins.unfrozen_of_block k 1, Joins.unfrozen_of_block k 2⟩
theorem VarT.below {w w' : World} {x t : Nat} {h g s : Int} (k : VarT w x t h g s) (hb : Below w.heap.size w w') : VarT w' x t h g s := by
  unfold VarT; rw [hb.block x k.lt]; exact k
theorem VarT.keep {S : Nat → Prop} {w w' : World} {x t : Nat} {h g s : Int} (k : VarT w x t h g s) (hk : Keep S w w') (hs : ¬ S x) : VarT w' x t h g s := by
  unfold VarT; rw [hk.block x k.lt hs]; exact k
theorem VarT.new (w : World) (t : TypeId) (h g s : Int) : VarT (w.alloc (.cells #[.int .i64 h, .int .i64 g, .int .i64 s] t)) w.heap.size t h g s := heap_alloc_new w _

/-- What a host reads of another one's. -/
def redB (ss : List ByteArray) (xs : List Wr) (h o : Int) : Bool := decB (readV ss xs h (5 + o)) && decide (decH (readV ss xs h (5 + o)) = o)
def redG (ss : List ByteArray) (xs : List Wr) (h o : Int) : Int := if redB ss xs h o = true then decG (readV ss xs h (5 + o)) else 0
def redS (ss : List ByteArray) (xs : List Wr) (h o : Int) : Int := if redB ss xs h o = true then decS (readV ss xs h (5 + o)) else 0
theorem red_yes {ss : List ByteArray} {xs : List Wr} {h o : Int} (hb : decB (readV ss xs h (5 + o)) = true) (ho : decH (readV ss xs h (5 + o)) = o) : redB ss xs h o = true ∧ redG ss xs h o = decG (readV ss xs h (5 + o)) ∧ redS ss xs h o = decS (readV ss xs h (5 + o)) := by
  have e : redB ss xs h o = true := by simp [redB, hb, ho]
  exact ⟨e, if_pos e, if_pos e⟩
theorem red_no {ss : List ByteArray} {xs : List Wr} {h o : Int} (e : redB ss xs h o = false) : redG ss xs h o = 0 ∧ redS ss xs h o = 0 := ⟨if_neg (by simp [e]), if_neg (by simp [e])⟩
theorem red_none {ss : List ByteArray} {xs : List Wr} {h o : Int} (hb : decB (readV ss xs h (5 + o)) = false) : redB ss xs h o = false := by simp [redB, hb]
theorem red_other {ss : List ByteArray} {xs : List Wr} {h o : Int} (ho : decH (readV ss xs h (5 + o)) ≠ o) : redB ss xs h o = false := by simp [redB, ho]
theorem readV_size {ss : List ByteArray} {xs : List Wr} (hd : diskB ss xs = true) (h a : Int) : (readV ss xs h a).size ≤ 80 := by
  obtain ⟨⟨a1, a2⟩, a3, a4⟩ := diskB_parts.1 hd
  unfold readV
  cases hf : xs.reverse.find? (fun x => x.host == h && x.at_ == a) with
  | some x => exact (ioB_parts.1 (a4 x (List.mem_reverse.1 (List.mem_of_find?_eq_some hf)))).2.2
  | none =>
    simp only [Option.map_none, Option.getD_none]
    rw [List.getD_eq_getElem?_getD]
    cases hg : ss[a.toNat]? with
    | some s => exact a2 s (List.mem_of_getElem? hg)
    | none => exact Nat.zero_le _

def encC (h g s : Int) : Int := if dltB h g s = true then 0 else 1
def encR (h g s : Int) : ByteArray := if dltB h g s = true then encD h g s else ⟨#[]⟩
theorem ret_sd {a b : ByteArray} {c d : Int} (h : a = b) (k : c = d) : Ending.returned (.tuple #[.string a, .int .i64 c]) = .returned (.tuple #[.string b, .int .i64 d]) := by rw [h, k]

theorem ret_di {a b c a' b' c' : Int} {x y : Int} (h1 : a = a') (h2 : b = b') (h3 : c = c') (k : x = y) : Ending.returned (.tuple #[dltV a b c, .int .i64 x]) = .returned (.tuple #[dltV a' b' c', .int .i64 y]) := by rw [h1, h2, h3, k]

/-- What DecodeDelta answers. -/
def dcC (t : ByteArray) : Int := if 65536 < t.size then 2 else if decB t = true then 0 else 3
def dcH (t : ByteArray) : Int := if 65536 < t.size then 0 else decH t
def dcG (t : ByteArray) : Int := if 65536 < t.size then 0 else decG t
def dcS (t : ByteArray) : Int := if 65536 < t.size then 0 else decS t
theorem dc_long {t : ByteArray} (h : 65536 < t.size) : dcH t = 0 ∧ dcG t = 0 ∧ dcS t = 0 ∧ dcC t = 2 := ⟨if_pos h, if_pos h, if_pos h, if_pos h⟩
theorem dc_no {t : ByteArray} (h : ¬ 65536 < t.size) (hd : decB t = false) : dcH t = 0 ∧ dcG t = 0 ∧ dcS t = 0 ∧ dcC t = 3 := by
  obtain ⟨e1, e2, e3⟩ := dec_no hd
  exact ⟨(if_neg h).trans e1, (if_neg h).trans e2, (if_neg h).trans e3, (if_neg h).trans (if_neg (by simp [hd]))⟩
theorem dc_yes {t : ByteArray} (h : ¬ 65536 < t.size) (hd : decB t = true) : dcH t = decH t ∧ dcG t = decG t ∧ dcS t = decS t ∧ dcC t = 0 := ⟨if_neg h, if_neg h, if_neg h, (if_neg h).trans (if_pos hd)⟩


end Go.Proofs.YtlhinknmbgijeabDoor

/- Contracts of the program's code of a place. -/
namespace Go.Proofs.YtlhinknmbgijeabDoor
open Go.RowKit
set_option linter.unusedVariables false
set_option maxRecDepth 100000

set_option maxHeartbeats 1600000 in
theorem placeFault_any (ao bo : Option Addr) (ca cb : Nat) (ss : List ByteArray) (xs : List Wr) (h a : Int) (w : World) (hl : ss.length ≤ maxLen) (hm : xs.length ≤ maxLen) (h1 : Ss w ao ss) (h2 : Ios w bo xs) :
    Calls Tryd.prog 103 #[.agg #[.slice ao ss.length ca, .slice bo xs.length cb], .int .i64 h, .int .i64 a] w fun e w' => e = .returned (.int .i64 (askC ss xs h a)) ∧ Below w.heap.size w w' := by
  have HA := hide (Joins.below_alloc1 w (.cells #[.slice ao ss.length ca, .slice bo xs.length cb] 26))
  have H1 := hide (h1.below (unhide HA))
  have H2 := hide (h2.below (unhide HA))
  have HL := hide hl
  have HM := hide hm
  clear h1 h2 hl hm
  by_cases hc : hostC ss xs h = 0
  · have hb : (hostC ss xs h != 0) = false := by simp [hc]
    cases hh : inB a 0 63
    · have H := hide (askC_place hc hh)
      clear hc
      go_enter Tryd.func103, Tryd.ntmps103
      go_wp2_with fail
      refine (hostFault_any _ _ _ _ ss xs h _ (unhide HL) (unhide HM) (unhide H1) (unhide H2)).mono ?_
      rintro e w1 ⟨rfl, hb⟩
      have HB := hide (fr (unhide HA) hb)
      clear hb
      go_wp2_with (go_at_call 102; refine (placeOK_any _ _).mono ?_; rintro e w' ⟨rfl, rfl⟩)
      go_ret
      exact ⟨ret_int (unhide H).symm, unhide HB⟩
    · have H := hide (askC_ok hc hh)
      clear hc
      go_enter Tryd.func103, Tryd.ntmps103
      go_wp2_with fail
      refine (hostFault_any _ _ _ _ ss xs h _ (unhide HL) (unhide HM) (unhide H1) (unhide H2)).mono ?_
      rintro e w1 ⟨rfl, hb⟩
      have HB := hide (fr (unhide HA) hb)
      clear hb
      go_wp2_with (go_at_call 102; refine (placeOK_any _ _).mono ?_; rintro e w' ⟨rfl, rfl⟩)
      go_ret
      exact ⟨ret_int (unhide H).symm, unhide HB⟩
  · have H := hide (askC_host (a := a) hc)
    have hb : (hostC ss xs h != 0) = true := by simp [hc]
    clear hc
    go_enter Tryd.func103, Tryd.ntmps103
    go_wp2_with fail
    refine (hostFault_any _ _ _ _ ss xs h _ (unhide HL) (unhide HM) (unhide H1) (unhide H2)).mono ?_
    rintro e w1 ⟨rfl, hb⟩
    have HB := hide (fr (unhide HA) hb)
    clear hb
    go_wp2
    go_ret
    exact ⟨ret_int (unhide H).symm, unhide HB⟩

end Go.Proofs.YtlhinknmbgijeabDoor

/- Contracts of impl.seenBy, impl.ReadSector. -/
namespace Go.Proofs.YtlhinknmbgijeabDoor
open Go.RowKit
set_option linter.unusedVariables false
set_option maxRecDepth 100000

theorem ret_rs {a b : ByteArray} (h : a = b) : Ending.returned (.string a) = .returned (.string b) := by rw [h]
theorem ret_rd {a b : ByteArray} {c d : Int} (h : a = b) (k : c = d) : Ending.returned (.tuple #[.string a, .int .i64 c]) = .returned (.tuple #[.string b, .int .i64 d]) := by rw [h, k]
theorem no_succ {xs : List Wr} {h a : Int} {k : Nat} (hk : k < xs.length) (hn : ∀ j (hj : j < xs.length), (k : Int) < j → ¬ mat xs[j] h a) (hx : ¬ mat xs[k] h a) : ∀ j (hj : j < xs.length), (k : Int) - 1 < j → ¬ mat xs[j] h a := by
  intro j hj hlt
  by_cases e : j = k
  · subst e; exact hx
  · exact hn j hj (by omega)

set_option maxHeartbeats 1600000 in
theorem seenBy_any (ao bo : Option Addr) (ca cb : Nat) (ss : List ByteArray) (xs : List Wr) (h : Int) (n : Nat) (w : World) (hlx : xs.length ≤ 200) (hn : n < ss.length) (hq : ss.length ≤ 1048576) (h1 : Ss w ao ss) (h2 : Ios w bo xs) :
    Calls Tryd.prog 32 #[.agg #[.slice ao ss.length ca, .slice bo xs.length cb], .int .i64 h, .int .i64 n] w fun e w' => e = .returned (.string (readV ss xs h n)) ∧ Below w.heap.size w w' := by
  have HA := hide (Joins.below_alloc1 w (.cells #[.slice ao ss.length ca, .slice bo xs.length cb] 26))
  have H1' := hide (h1.below (unhide HA))
  have H2' := hide (h2.below (unhide HA))
  have hc0 : (w.alloc (.cells #[.slice ao ss.length ca, .slice bo xs.length cb] 26)).cell? ⟨w.heap.size, 0, none⟩ = some (.slice ao ss.length ca) := by simp [go_sem]
  have hc1 : (w.alloc (.cells #[.slice ao ss.length ca, .slice bo xs.length cb] 26)).cell? ⟨w.heap.size, 1, none⟩ = some (.slice bo xs.length cb) := by simp [go_sem]
  have HC0 := hide hc0
  have HC1 := hide hc1
  have hlt : w.heap.size < (w.alloc (.cells #[.slice ao ss.length ca, .slice bo xs.length cb] 26)).heap.size := by simp
  clear h1 h2 hc0 hc1
  go_enter Tryd.func32, Tryd.ntmps32
  go_wp2
  revert HA H1' H2' HC0 HC1 hlt
  generalize w.alloc (.cells #[.slice ao ss.length ca, .slice bo xs.length cb] 26) = w1
  intro HA H1' H2' HC0 HC1 hlt
  go_loopw [7, 8] (fun i _ wr => ∃ m : Int, i = .int .i64 m ∧ -1 ≤ m ∧ m < xs.length ∧ Hid (∀ j (hj : j < xs.length), m < j → ¬ mat xs[j] h n) ∧ Hid (Below w1.heap.size w1 wr)) (fun i _ _ => (intOf i + 1).toNat)
  case atStart => exact ⟨_, rfl, by omega, by omega, hide (fun j hj hlt => by omega), hide (Below.refl _ _)⟩
  case round =>
    obtain ⟨m, rfl, hm0, hm1, HN, HB⟩ := hrel
    have hc0 : wr.cell? ⟨w.heap.size, 0, none⟩ = some (.slice ao ss.length ca) := ((unhide HB).cell (World.block_lt_of_cell? _ _ (unhide HC0))).trans (unhide HC0)
    have hc1 : wr.cell? ⟨w.heap.size, 1, none⟩ = some (.slice bo xs.length cb) := ((unhide HB).cell (World.block_lt_of_cell? _ _ (unhide HC1))).trans (unhide HC1)
    by_cases hge : 0 ≤ m
    · obtain ⟨k, rfl⟩ := Int.eq_ofNat_of_zero_le hge
      have hk : k < xs.length := by omega
      obtain ⟨b, off, rfl, hd0, hd1, hd2, hz⟩ := (unhide H2').below (unhide HB) k hk
      clear hz
      have HBA := hide (fun o => (unhide HB).alloc (unhide HB).size o)
      by_cases e0 : xs[k].host = h
      · have b0 : (xs[k].host == h) = true := by simp [e0]
        by_cases e1 : xs[k].at_ = n
        · have b1 : (xs[k].at_ == (n : Int)) = true := by simp [e1]
          have H := hide (readV_hit (ss := ss) hk ⟨e0, e1⟩ (fun j hj hlt => unhide HN j hj (by omega)))
          clear e0 e1
          go_wp2
          go_ret
          exact ⟨ret_rs (unhide H).symm, fr (unhide HA) (unhide HBA _)⟩
        · have b1 : (xs[k].at_ == (n : Int)) = false := by simp [e1]
          have HX := hide (no_succ hk (unhide HN) (fun hx => e1 hx.2))
          clear e0 e1
          go_wp2
          go_roundw
          case rel => exact ⟨_, rfl, by omega, by omega, HX, hide (unhide HBA _)⟩
          case measure => simp [intOf]
      · have b0 : (xs[k].host == h) = false := by simp [e0]
        have HX := hide (no_succ hk (unhide HN) (fun hx => e0 hx.1))
        clear e0
        go_wp2
        go_roundw
        case rel => exact ⟨_, rfl, by omega, by omega, HX, hide (unhide HBA _)⟩
        case measure => simp [intOf]
    · obtain ⟨b, off, rfl, hc, hz⟩ := (unhide H1').below (unhide HB) n hn
      clear hz
      have hg : ss.getD ((n : Int).toNat) ⟨#[]⟩ = ss[n] := by simp [List.getD, hn]
      have H := hide ((readV_none (ss := ss) (fun j hj => unhide HN j hj (by omega))).trans hg)
      clear hg
      go_wp2
      go_ret
      exact ⟨ret_rs (unhide H).symm, fr (unhide HA) (unhide HB)⟩

end Go.Proofs.YtlhinknmbgijeabDoor

/- Contracts of ReadSector, of the program and of its model. -/
namespace Go.Proofs.YtlhinknmbgijeabDoor
open Go.RowKit
set_option linter.unusedVariables false
set_option maxRecDepth 100000

end Go.Proofs.YtlhinknmbgijeabDoor

/- Contract of spec.l01Write: the disk with one write more, whose row of writes is new. -/
namespace Go.Proofs.YtlhinknmbgijeabDoor
open Go.RowKit
set_option linter.unusedVariables false

theorem write_end {w wL : World} {g k cap : Nat} {cs : List Value} (ho : wL.ownsRow (w.heap.size + 1 + 1 + 1) 94 3 (.slice (some ⟨g, 0, none⟩) k cap) k cs) (hb : Below w.heap.size w wL) (a b c : Value) :
    (((wL.setCell ⟨w.heap.size, 1, none⟩ a).setCell ⟨w.heap.size + 1 + 1, 0, none⟩ b).setCell ⟨w.heap.size + 1 + 1, 1, none⟩ c).ownsRow w.heap.size 94 3 (.slice (some ⟨g, 0, none⟩) k cap) k cs ∧ Below w.heap.size w (((wL.setCell ⟨w.heap.size, 1, none⟩ a).setCell ⟨w.heap.size + 1 + 1, 0, none⟩ b).setCell ⟨w.heap.size + 1 + 1, 1, none⟩ c) :=
  ⟨own_base (ownsRow_setCell_below (ownsRow_setCell_below (ownsRow_setCell_below ho (a := ⟨w.heap.size, 1, none⟩) (by simp; omega) a) (a := ⟨w.heap.size + 1 + 1, 0, none⟩) (by simp) b) (a := ⟨w.heap.size + 1 + 1, 1, none⟩) (by simp) c) (by omega),
    ((hb.setCell (p := ⟨w.heap.size, 1, none⟩) (by simp) a).setCell (p := ⟨w.heap.size + 1 + 1, 0, none⟩) (by simp; omega) b).setCell (p := ⟨w.heap.size + 1 + 1, 1, none⟩) (by simp; omega) c⟩


set_option maxRecDepth 100000 in
set_option maxHeartbeats 6400000 in
theorem l01Write_any (ao bo : Option Addr) (n ca cb : Nat) (xs : List Wr) (x : Wr) (w : World) (hm : xs.length ≤ 1048576) (h2 : Ios w bo xs) :
    Calls Tryd.prog 101 #[.agg #[.slice ao n ca, .slice bo xs.length cb], .agg #[.int .i64 x.host, .int .i64 x.at_, .string x.data]] w fun e w' => ∃ g cap, e = .returned (.agg #[.slice ao n ca, .slice (some ⟨g, 0, none⟩) (xs.length + 1) cap]) ∧ w'.ownsRow w.heap.size 94 3 (.slice (some ⟨g, 0, none⟩) (xs.length + 1) cap) (xs.length + 1) (ioV (xs ++ [x])) ∧ Below w.heap.size w w' := by
  have HA := hide (Joins.below_alloc3 w (.cells #[.slice ao n ca, .slice bo xs.length cb] 26) (.cells #[.int .i64 x.host, .int .i64 x.at_, .string x.data] 94) (.cells #[.slice none 0 0, .slice none 0 0] 26))
  have HX := hide (h2.below (unhide HA))
  have HV := hide ((VarD.new w (.slice ao n ca) (.slice bo xs.length cb)).below (Joins.below_alloc2 _ (.cells #[.int .i64 x.host, .int .i64 x.at_, .string x.data] 94) (.cells #[.slice none 0 0, .slice none 0 0] 26)))
  have HR : Hid (VarD (((w.alloc (.cells #[.slice ao n ca, .slice bo xs.length cb] 26)).alloc (.cells #[.int .i64 x.host, .int .i64 x.at_, .string x.data] 94)).alloc (.cells #[.slice none 0 0, .slice none 0 0] 26)) (w.heap.size + 1 + 1) (.slice none 0 0) (.slice none 0 0)) := hide (by have := VarD.new ((w.alloc (.cells #[.slice ao n ca, .slice bo xs.length cb] 26)).alloc (.cells #[.int .i64 x.host, .int .i64 x.at_, .string x.data] 94)) (.slice none 0 0) (.slice none 0 0); simp only [World.size_alloc] at this; exact this)
  have HI : Hid (VarI (((w.alloc (.cells #[.slice ao n ca, .slice bo xs.length cb] 26)).alloc (.cells #[.int .i64 x.host, .int .i64 x.at_, .string x.data] 94)).alloc (.cells #[.slice none 0 0, .slice none 0 0] 26)) (w.heap.size + 1) x) := hide (VarI.below (by have := VarI.new (w.alloc (.cells #[.slice ao n ca, .slice bo xs.length cb] 26)) x; simp only [World.size_alloc] at this; exact this) (Joins.below_alloc1 _ _))
  clear h2
  obtain ⟨j0, hj, hy0, hy1, hy2⟩ := info_parts infoW
  go_enter Tryd.func101, Tryd.ntmps101
  go_wp2
  go_region_law
    (first
      | (refine (step_append_fresh ?_ (.tmp 5) (.tmp 7) 24 ?_ 94 j0 (.agg #[.int .i64 0, .int .i64 0, .string ⟨#[]⟩]) 3 32 Tryd.underlying24 hj hy0 hy1 hy2 ?_ ?_ ?_ bo xs.length cb (ioV xs) ?_ ?_ ?_ ?_ ?_ ?_)
         · rfl
         · rfl
         · rfl
         · omega
         · rfl
         · rfl
         · rw [ioV_length]
         · refine Ios.src ((unhide HX).below ?_)
           repeat (first | exact Below.refl _ _ | exact hbA | refine Below.drew ?_ | refine belowAl ?_ _)
         · unfold maxLen; omega
         · omega
         intro qo qa wA hoA hgA
         have hbA : Below (((w.alloc (.cells #[.slice ao n ca, .slice bo xs.length cb] 26)).alloc (.cells #[.int .i64 x.host, .int .i64 x.at_, .string x.data] 94)).alloc (.cells #[.slice none 0 0, .slice none 0 0] 26)).heap.size (((w.alloc (.cells #[.slice ao n ca, .slice bo xs.length cb] 26)).alloc (.cells #[.int .i64 x.host, .int .i64 x.at_, .string x.data] 94)).alloc (.cells #[.slice none 0 0, .slice none 0 0] 26)) wA := belowGr (by repeat (first | exact Below.refl _ _ | exact hbA | refine Below.drew ?_ | refine belowAl ?_ _)) hgA
         obtain ⟨hA0, hA1⟩ := ((unhide HV).below hbA).cells
         obtain ⟨hA2, hA3, hA4⟩ := ((unhide HI).below hbA).cells)
      | (refine (step_append_at ?_ (.tmp 8) (.tmp 10) 24 ?_ (w.heap.size + 1 + 1 + 1) 94 j0 (.agg #[.int .i64 0, .int .i64 0, .string ⟨#[]⟩]) 3 32 Tryd.underlying24 hj hy0 hy1 hy2 ?_ ?_ qo xs.length qa (ioV xs) ?_ ?_ ?_ (wrV x) ?_ ?_ ?_ ?_ ?_ ?_)
         · rfl
         · rfl
         · rfl
         · omega
         · rfl
         · refine OwnR.base (OwnR.below hoA ?_) ?_
           · repeat (first | exact Below.refl _ _ | refine Below.drew ?_ | refine belowAl ?_ _)
           · first | omega | (simp <;> omega)
         · have := hbA.size
           simp at this ⊢
           omega
         · refine ⟨_, _, rfl, VarI.news ?_⟩
           first | exact VarI.new _ _ | (refine VarI.grown ?_ hgA; refine VarI.drew ?_; refine VarI.top ?_; simp) | (refine VarI.grown ?_ hgA; refine VarI.drew ?_; refine VarI.under ?_ _; refine VarI.top ?_; simp)
         · rfl
         · exact wrV_one x
         · unfold maxLen; omega
         · omega
         intro g cap wB hoB hkB
         have hkA := hkB
         have hbB : Below (((w.alloc (.cells #[.slice ao n ca, .slice bo xs.length cb] 26)).alloc (.cells #[.int .i64 x.host, .int .i64 x.at_, .string x.data] 94)).alloc (.cells #[.slice none 0 0, .slice none 0 0] 26)).heap.size (((w.alloc (.cells #[.slice ao n ca, .slice bo xs.length cb] 26)).alloc (.cells #[.int .i64 x.host, .int .i64 x.at_, .string x.data] 94)).alloc (.cells #[.slice none 0 0, .slice none 0 0] 26)) wB := belowKp (by repeat (first | exact hbA | refine Below.drew ?_ | refine belowAl ?_ _)) hkB (fun j hj => Nat.le_trans (by first | (simp; done) | (simp; omega)) (hoA.ge j hj).1)
         obtain ⟨hB0, hB1⟩ := ((unhide HV).below hbB).cells
         have hB6 := ((unhide HV).below hbB).free 1
         obtain ⟨hB2, hB3⟩ := ((unhide HR).below hbB).cells
         have hB4 := ((unhide HR).below hbB).free 0
         have hB5 := ((unhide HR).below hbB).free 1
         obtain ⟨hB7, hB8, hB9⟩ := ((unhide HI).below hbB).cells))
  all_goals
    have HL := hide (write_end (w := w) (wL := wB) hoB (fr (unhide HA) hbB) (.slice (some ⟨g, 0, none⟩) (xs.length + 1) cap) (.slice ao n ca) (.slice (some ⟨g, 0, none⟩) (xs.length + 1) cap))
    clear hoA hoB hgA hkA hkB hbA hbB hA0 hA1 hA2 hA3 hA4 hB7 hB8 hB9
    go_wp2
    exact bodyPost_ret (v := .agg #[.slice ao n ca, .slice (some ⟨g, 0, none⟩) (xs.length + 1) cap]) (by simp [results, Tryd.results101, go_sem, hB2, hB3]) rfl ⟨_, _, rfl, by rw [ioV_snoc]; exact (unhide HL).1, (unhide HL).2⟩

theorem l01Write_hd (ao bo : Option Addr) (n ca cb : Nat) (xs : List Wr) (h a : Int) (d : ByteArray) (w : World) (hm : xs.length ≤ 1048576) (h2 : Ios w bo xs) :
    Calls Tryd.prog 101 #[.agg #[.slice ao n ca, .slice bo xs.length cb], .agg #[.int .i64 h, .int .i64 a, .string d]] w fun e w' => ∃ g cap, e = .returned (.agg #[.slice ao n ca, .slice (some ⟨g, 0, none⟩) (xs.length + 1) cap]) ∧ w'.ownsRow w.heap.size 94 3 (.slice (some ⟨g, 0, none⟩) (xs.length + 1) cap) (xs.length + 1) (ioV (xs ++ [⟨h, a, d⟩])) ∧ Below w.heap.size w w' :=
  l01Write_any ao bo n ca cb xs ⟨h, a, d⟩ w hm h2

end Go.Proofs.YtlhinknmbgijeabDoor

/- What WriteSector answers. -/
namespace Go.Proofs.YtlhinknmbgijeabDoor
open Go.RowKit
set_option linter.unusedVariables false

/-- What WriteSector answers. -/
def wrC (ss : List ByteArray) (xs : List Wr) (h a : Int) (d : ByteArray) : Int := if 65536 < d.size then 2 else if askC ss xs h a = 0 then (if 80 < d.size then 4 else if xs.length = 200 then 7 else 0) else askC ss xs h a
def wrS (ss : List ByteArray) (xs : List Wr) (h a : Int) (d : ByteArray) : List ByteArray := if 65536 < d.size then [] else if askC ss xs h a = 0 then ss else []
def wrX (ss : List ByteArray) (xs : List Wr) (h a : Int) (d : ByteArray) : List Wr := if 65536 < d.size then [] else if askC ss xs h a = 0 then (if 80 < d.size then xs else if xs.length = 200 then xs else xs ++ [⟨h, a, d⟩]) else []
theorem wr_long {ss : List ByteArray} {xs : List Wr} {h a : Int} {d : ByteArray} (h1 : 65536 < d.size) : wrS ss xs h a d = [] ∧ wrX ss xs h a d = [] ∧ wrC ss xs h a d = 2 := by simp [wrS, wrX, wrC, h1]
theorem wr_ask {ss : List ByteArray} {xs : List Wr} {h a : Int} {d : ByteArray} (h1 : ¬ 65536 < d.size) (h2 : askC ss xs h a ≠ 0) : wrS ss xs h a d = [] ∧ wrX ss xs h a d = [] ∧ wrC ss xs h a d = askC ss xs h a := by simp [wrS, wrX, wrC, h1, h2]
theorem wr_range {ss : List ByteArray} {xs : List Wr} {h a : Int} {d : ByteArray} (h1 : ¬ 65536 < d.size) (h2 : askC ss xs h a = 0) (h3 : 80 < d.size) : wrS ss xs h a d = ss ∧ wrX ss xs h a d = xs ∧ wrC ss xs h a d = 4 := by simp [wrS, wrX, wrC, h1, h2, h3]
theorem wr_full {ss : List ByteArray} {xs : List Wr} {h a : Int} {d : ByteArray} (h1 : ¬ 65536 < d.size) (h2 : askC ss xs h a = 0) (h3 : ¬ 80 < d.size) (h4 : xs.length = 200) : wrS ss xs h a d = ss ∧ wrX ss xs h a d = xs ∧ wrC ss xs h a d = 7 := by simp [wrS, wrX, wrC, h1, h2, h3, h4]
theorem wr_ok {ss : List ByteArray} {xs : List Wr} {h a : Int} {d : ByteArray} (h1 : ¬ 65536 < d.size) (h2 : askC ss xs h a = 0) (h3 : ¬ 80 < d.size) (h4 : ¬ xs.length = 200) : wrS ss xs h a d = ss ∧ wrX ss xs h a d = xs ++ [⟨h, a, d⟩] ∧ wrC ss xs h a d = 0 := by simp [wrS, wrX, wrC, h1, h2, h3, h4]
theorem wr_sizes {xs : List Wr} {h a : Int} {d : ByteArray} (hx : ∀ x ∈ xs, x.data.size ≤ maxLen) (hd : d.size ≤ 2 ^ 63 - 1) : ∀ x ∈ xs ++ [(⟨h, a, d⟩ : Wr)], x.data.size ≤ maxLen := by
  intro x hxm
  rcases List.mem_append.1 hxm with h1 | h1
  · exact hx x h1
  · simp at h1; subst h1; exact hd
theorem l01Own_len (ao bo : Option Addr) (ca cb : Nat) (ss : List ByteArray) (xs : List Wr) (n m : Nat) (w : World) (hn : n = ss.length) (hm' : m = xs.length) (hl : ss.length ≤ 1048576) (hm : xs.length ≤ 1048576) (h1 : Ss w ao ss) (h2 : Ios w bo xs) :
    Calls Tryd.prog 29 #[.agg #[.slice ao n ca, .slice bo m cb]] w fun e w' => ∃ po pa qo qa, e = .returned (.agg #[.slice po n pa, .slice qo m qa]) ∧ OwnD w' w.heap.size po n pa qo m qa ss xs ∧ Below w.heap.size w w' := by
  subst hn hm'
  exact l01Own_any ao bo ca cb ss xs w hl hm h1 h2

end Go.Proofs.YtlhinknmbgijeabDoor

/- Contracts of spec's generations, the plain ones: l04Host, DeltaOK, l04Encode, l04Decode. -/
namespace Go.Proofs.YtlhinknmbgijeabDoor
open Go.RowKit
set_option linter.unusedVariables false
set_option maxRecDepth 100000

theorem l04Host_any (h : Int) (w : World) : Calls Tryd.prog 79 #[.int .i64 h] w fun e w' => e = .returned (.bool (inB h 0 3)) ∧ w' = w := by
  go_enter Tryd.func79, Tryd.ntmps79
  go_wp2_with fail
  refine (l01In_num h 0 3 _).mono ?_
  rintro e w1 ⟨rfl, rfl⟩
  go_wp2
  go_ret
  exact ⟨rfl, rfl⟩

set_option maxHeartbeats 1600000 in
theorem deltaOK_spec (h g s : Int) (w : World) : Calls Tryd.prog 42 #[dltV h g s] w fun e w' => e = .returned (.bool (dltB h g s)) ∧ Below w.heap.size w w' := by
  go_enter Tryd.func42, Tryd.ntmps42
  go_wp2_with fail
  refine (l04Host_any h _).mono ?_
  rintro e w1 ⟨rfl, rfl⟩
  by_cases h1 : inB h 0 3 = false
  · have hr := hide (dltB_1 (g := g) (s := s) h1)
    go_wp2
    go_ret
    rw [unhide hr]
    exact ⟨rfl, Joins.below_alloc1 _ _⟩
  rw [Bool.not_eq_false] at h1
  go_wp2_with fail
  refine (l01In_num g 1 1000000 _).mono ?_
  rintro e w1 ⟨rfl, rfl⟩
  by_cases h2 : inB g 1 1000000 = false
  · have hr := hide (dltB_2 (h := h) (s := s) h2)
    go_wp2
    go_ret
    rw [unhide hr]
    exact ⟨rfl, Joins.below_alloc1 _ _⟩
  rw [Bool.not_eq_false] at h2
  have hr := hide (dltB_3 (s := s) h1 h2)
  go_wp2_with fail
  refine (l01In_num s 0 10000000 _).mono ?_
  rintro e w1 ⟨rfl, rfl⟩
  go_wp2
  go_ret
  rw [unhide hr]
  exact ⟨rfl, Joins.below_alloc1 _ _⟩

theorem d3_nums {h g s : Int} (hd : dltB h g s = true) : ∀ j (hj : j < [h, g, s].length), 0 ≤ [h, g, s][j] ∧ [h, g, s][j] ≤ 2147483647 := by
  obtain ⟨h1, h2, h3⟩ := dltB_iff.1 hd
  intro j hj
  have hj' : j < 3 := hj
  rcases (show j = 0 ∨ j = 1 ∨ j = 2 by omega) with rfl | rfl | rfl <;> simp <;> omega
theorem is3 (w : World) (n : Nat) (t : TypeId) (a b c : Int) (hn : w.heap.size = n) : Is (w.alloc (.cells #[.int .i64 a, .int .i64 b, .int .i64 c] t)) (some ⟨n, 0, none⟩) [a, b, c] := by
  subst hn
  intro i hi
  have hi' : i < 3 := hi
  refine ⟨w.heap.size, 0, rfl, ?_⟩
  rcases (show i = 0 ∨ i = 1 ∨ i = 2 by omega) with rfl | rfl | rfl <;> simp [go_sem]

set_option maxHeartbeats 1600000 in
theorem l04Encode_any (h g s : Int) (w : World) (hd : dltB h g s = true) : Calls Tryd.prog 43 #[dltV h g s] w fun e w' => e = .returned (.string (encD h g s)) ∧ Below w.heap.size w w' := by
  have HD := hide (d3_nums hd)
  clear hd
  go_enter Tryd.func43, Tryd.ntmps43
  go_wp2_with fail
  refine (l02Seal_any 9 _ 3 [h, g, s] _ (by decide) (by simp) (unhide HD) (is3 _ _ _ _ _ _ (by simp))).mono ?_
  rintro e w1 ⟨rfl, hb⟩
  have HB := hide hb
  clear hb
  go_wp2
  go_ret
  exact ⟨rfl, fr (Joins.below_alloc2 _ _ _) (unhide HB)⟩

set_option maxHeartbeats 1600000 in
theorem encodeDelta_spec (h g s : Int) (w : World) : Calls Tryd.prog 13 #[dltV h g s] w fun e w' => e = .returned (.tuple #[.string (encR h g s), .int .i64 (encC h g s)]) ∧ Below w.heap.size w w' := by
  go_enter Tryd.func13, Tryd.ntmps13
  go_wp2_with fail
  refine (deltaOK_spec h g s _).mono ?_
  rintro e w1 ⟨rfl, hb⟩
  have HB := hide hb
  obtain ⟨hc0, hc1, hc2⟩ := ((VarT.new w 30 h g s).below hb).cells
  clear hb
  by_cases hd : dltB h g s = true
  · have HE : Hid (encR h g s = encD h g s ∧ encC h g s = 0) := hide ⟨if_pos hd, if_pos hd⟩
    have HD := hide hd
    go_wp2_with fail
    refine (l04Encode_any h g s _ (unhide HD)).mono ?_
    rintro e w2 ⟨rfl, hb⟩
    have HB2 := hide hb
    clear hb
    go_wp2
    go_ret2
    exact ⟨ret_sd (unhide HE).1.symm (unhide HE).2.symm, fr (fr (Joins.below_alloc1 _ _) (unhide HB)) (unhide HB2)⟩
  · have HE : Hid (encR h g s = ⟨#[]⟩ ∧ encC h g s = 1) := hide ⟨if_neg hd, if_neg hd⟩
    rw [Bool.not_eq_true] at hd
    go_wp2
    go_ret2
    exact ⟨ret_sd (unhide HE).1.symm (unhide HE).2.symm, fr (Joins.below_alloc1 _ _) (unhide HB)⟩

theorem ret_db {a b c a' b' c' : Int} {x y : Bool} (h1 : a = a') (h2 : b = b') (h3 : c = c') (k : x = y) : Ending.returned (.tuple #[dltV a b c, .bool x]) = .returned (.tuple #[dltV a' b' c', .bool y]) := by rw [h1, h2, h3, k]
end Go.Proofs.YtlhinknmbgijeabDoor

/- Contracts of spec's generations on a disk: l04Read, l04Room, l04Put. -/
namespace Go.Proofs.YtlhinknmbgijeabDoor
open Go.RowKit
set_option linter.unusedVariables false
set_option maxRecDepth 100000

theorem ret_dd {a b c a' b' c' : Int} (h1 : a = a') (h2 : b = b') (h3 : c = c') : Ending.returned (dltV a b c) = .returned (dltV a' b' c') := by rw [h1, h2, h3]

/-- What l04Room answers. -/
def roomC (ss : List ByteArray) (xs : List Wr) (h now : Int) : Int := if hostC ss xs h = 0 then (if inB now 0 10000000 = true then (if xs.length = 200 then 7 else 0) else 4) else hostC ss xs h
theorem room_ask {ss : List ByteArray} {xs : List Wr} {h now : Int} (e : hostC ss xs h ≠ 0) : roomC ss xs h now = hostC ss xs h := if_neg e
theorem room_now {ss : List ByteArray} {xs : List Wr} {h now : Int} (e : hostC ss xs h = 0) (e1 : inB now 0 10000000 = false) : roomC ss xs h now = 4 := by simp [roomC, e, e1]
theorem room_full {ss : List ByteArray} {xs : List Wr} {h now : Int} (e : hostC ss xs h = 0) (e1 : inB now 0 10000000 = true) (e2 : xs.length = 200) : roomC ss xs h now = 7 := by simp [roomC, e, e1, e2]
theorem room_ok {ss : List ByteArray} {xs : List Wr} {h now : Int} (e : hostC ss xs h = 0) (e1 : inB now 0 10000000 = true) (e2 : ¬ xs.length = 200) : roomC ss xs h now = 0 := by simp [roomC, e, e1, e2]
theorem room_eq {ss : List ByteArray} {xs : List Wr} {h now : Int} (e : roomC ss xs h now = 0) : hostC ss xs h = 0 ∧ (0 ≤ now ∧ now ≤ 10000000) ∧ xs.length < 200 := by
  by_cases e0 : hostC ss xs h = 0
  · by_cases e1 : inB now 0 10000000 = true
    · by_cases e2 : xs.length = 200
      · rw [room_full e0 e1 e2] at e; cases e
      · have := (diskB_len (hostC_eq e0).1).2
        refine ⟨e0, by simpa [inB] using e1, by omega⟩
    · rw [Bool.not_eq_true] at e1
      rw [room_now e0 e1] at e; cases e
  · rw [room_ask e0] at e; exact absurd e e0
theorem ret_i {a b : Int} (h : a = b) : Ending.returned (.int .i64 a) = .returned (.int .i64 b) := by rw [h]

/-- The disk behind a write of a generation that is sure. -/
def dwr (h g s : Int) : Wr := ⟨h, 5 + h, encD h g s⟩
def pS (ss : List ByteArray) (xs : List Wr) (h g s : Int) : List ByteArray := putW ss (ofH h (xs ++ [dwr h g s]))
def pX (xs : List Wr) (h g s : Int) : List Wr := dropF h (xs ++ [dwr h g s])
theorem dwr_io {h g s : Int} (h0 : 0 ≤ h) (h3 : h ≤ 3) : ioB (dwr h g s) = true := ioB_parts.2 ⟨⟨h0, h3⟩, ⟨by show 0 ≤ 5 + h; omega, by show 5 + h ≤ 63; omega⟩, by show (encD h g s).size ≤ 80; rw [encD_size]; decide⟩
theorem put_right {ss : List ByteArray} {xs : List Wr} {h g s : Int} (hd : diskB ss xs = true) (hl : xs.length < 200) (h0 : 0 ≤ h) (h3 : h ≤ 3) : diskB ss (xs ++ [dwr h g s]) = true := diskB_snoc hd hl (dwr_io h0 h3)
theorem put_land {ss : List ByteArray} {xs : List Wr} {h : Int} (hl : xs.length ≤ 200) : (landF h false ss xs 200).1 = putW ss (ofH h xs) ∧ (landF h false ss xs 200).2.1 = dropF h xs := by
  have hc : (ofH h xs).length ≤ 200 := Nat.le_trans (List.length_filter_le _ _) hl
  obtain ⟨p1, p2⟩ := landF_put h ss xs 200
  have p1' : (landF h false ss xs 200).1 = putW ss ((ofH h xs).take 200) := p1
  have p2' : (landF h false ss xs 200).2.1 = remH h 200 xs := p2
  rw [List.take_of_length_le hc] at p1'
  rw [rem_all 200 xs hc] at p2'
  exact ⟨p1', p2'⟩
theorem pS_right {ss : List ByteArray} {xs : List Wr} {h g s : Int} (hd : diskB ss xs = true) (hl : xs.length < 200) (h0 : 0 ≤ h) (h3 : h ≤ 3) : diskB (pS ss xs h g s) (pX xs h g s) = true :=
  diskB_put (put_right (g := g) (s := s) hd hl h0 h3) (fun x hx => of_mem hx) (fun x hx => drop_mem hx) (drop_le h _)
theorem pS_len (ss : List ByteArray) (xs : List Wr) (h g s : Int) : (pS ss xs h g s).length = ss.length := put_len _ _

theorem rightX {ss : List ByteArray} {xs : List Wr} (hd : diskB ss xs = true) : ∀ x ∈ xs, x.data.size ≤ maxLen := fun x hx => Nat.le_trans (ioB_parts.1 ((diskB_parts.1 hd).2.2 x hx)).2.2 (by decide)
theorem l01Flush_put (ao bo : Option Addr) (ca cb : Nat) (ss : List ByteArray) (xs : List Wr) (h : Int) (n m : Nat) (S : List ByteArray) (X : List Wr) (w : World) (hn : ss.length = n) (hm : xs.length = m) (hS : putW ss (ofH h xs) = S) (hX : dropF h xs = X) (hd : diskB ss xs = true) (h1 : Ss w ao ss) (h2 : Ios w bo xs) :
    Calls Tryd.prog 100 #[.agg #[.slice ao n ca, .slice bo m cb], .int .i64 h] w fun e w' => ∃ po pa qo qa, e = .returned (.agg #[.slice po n pa, .slice qo X.length qa]) ∧ OwnD w' w.heap.size po n pa qo X.length qa S X ∧ Below w.heap.size w w' := by
  subst hn hm hS hX
  obtain ⟨l1, l2⟩ := diskB_len hd
  obtain ⟨e1, e2⟩ := put_land (ss := ss) (h := h) l2
  have k := l01Flush_any ao bo ca cb ss xs h 200 w rfl (by decide) (by omega) l2 (diskB_at hd) h1 h2
  rw [e1, e2] at k
  exact k

set_option maxHeartbeats 3200000 in
theorem l04Put_any (ao bo : Option Addr) (ca cb : Nat) (ss : List ByteArray) (xs : List Wr) (h g s : Int) (w : World) (hd : diskB ss xs = true) (hl : xs.length < 200) (hx : dltB h g s = true) (h1 : Ss w ao ss) (h2 : Ios w bo xs) :
    Calls Tryd.prog 87 #[.agg #[.slice ao ss.length ca, .slice bo xs.length cb], dltV h g s] w fun e w' => ∃ po pa qo qa, e = .returned (.agg #[.slice po ss.length pa, .slice qo (pX xs h g s).length qa]) ∧ OwnD w' w.heap.size po ss.length pa qo (pX xs h g s).length qa (pS ss xs h g s) (pX xs h g s) ∧ Below w.heap.size w w' := by
  obtain ⟨⟨d0, d3⟩, _⟩ := dltB_iff.1 hx
  have HP := hide (put_right (g := g) (s := s) hd hl d0 d3)
  have HX := hide hx
  have HXL : Hid (xs.length ≤ 1048576) := hide (by omega)
  have HXN : Hid ((xs ++ [dwr h g s]).length = xs.length + 1) := hide (by simp)
  have HZ : Hid (∀ x ∈ xs ++ [dwr h g s], x.data.size ≤ maxLen) := hide (rightX (unhide HP))
  obtain ⟨S, HS⟩ : ∃ S, Hid (pS ss xs h g s = S) := ⟨_, hide rfl⟩
  obtain ⟨X, HXX⟩ : ∃ X, Hid (pX xs h g s = X) := ⟨_, hide rfl⟩
  rw [unhide HS, unhide HXX]
  have HA := hide (fr (Joins.below_alloc2 w (.cells #[.slice ao ss.length ca, .slice bo xs.length cb] 26) (.cells #[.int .i64 h, .int .i64 g, .int .i64 s] 30)) (Joins.below_alloc1 _ (.cells #[.slice none 0 0, .slice none 0 0] 26)))
  have HV := hide ((VarD.new w (.slice ao ss.length ca) (.slice bo xs.length cb)).below (fr (Joins.below_alloc1 _ (.cells #[.int .i64 h, .int .i64 g, .int .i64 s] 30)) (Joins.below_alloc1 _ (.cells #[.slice none 0 0, .slice none 0 0] 26))))
  have HT : Hid (VarT (((w.alloc (.cells #[.slice ao ss.length ca, .slice bo xs.length cb] 26)).alloc (.cells #[.int .i64 h, .int .i64 g, .int .i64 s] 30)).alloc (.cells #[.slice none 0 0, .slice none 0 0] 26)) (w.heap.size + 1) 30 h g s) := hide (by have := (VarT.new (w.alloc (.cells #[.slice ao ss.length ca, .slice bo xs.length cb] 26)) 30 h g s).below (Joins.below_alloc1 _ (.cells #[.slice none 0 0, .slice none 0 0] 26)); simp only [World.size_alloc] at this; exact this)
  have HR : Hid (VarD (((w.alloc (.cells #[.slice ao ss.length ca, .slice bo xs.length cb] 26)).alloc (.cells #[.int .i64 h, .int .i64 g, .int .i64 s] 30)).alloc (.cells #[.slice none 0 0, .slice none 0 0] 26)) (w.heap.size + 1 + 1) (.slice none 0 0) (.slice none 0 0)) := hide (by have := VarD.new ((w.alloc (.cells #[.slice ao ss.length ca, .slice bo xs.length cb] 26)).alloc (.cells #[.int .i64 h, .int .i64 g, .int .i64 s] 30)) (.slice none 0 0) (.slice none 0 0); simp only [World.size_alloc] at this; exact this)
  have HS0 := hide (h1.below (unhide HA))
  have HX0 := hide (h2.below (unhide HA))
  have HW : Hid (w.heap.size + 3 ≤ (((w.alloc (.cells #[.slice ao ss.length ca, .slice bo xs.length cb] 26)).alloc (.cells #[.int .i64 h, .int .i64 g, .int .i64 s] 30)).alloc (.cells #[.slice none 0 0, .slice none 0 0] 26)).heap.size) := hide (by simp)
  have wr5 : IntKind.i64.wrap (5 + h) = 5 + h := by rw [IntKind.wrap_i64]; omega
  clear h1 h2 hx hd
  go_enter Tryd.func87, Tryd.ntmps87
  go_wp2_with fail
  revert HA HV HT HR HS0 HX0 HW
  generalize (((w.alloc (.cells #[.slice ao ss.length ca, .slice bo xs.length cb] 26)).alloc (.cells #[.int .i64 h, .int .i64 g, .int .i64 s] 30)).alloc (.cells #[.slice none 0 0, .slice none 0 0] 26)) = W0
  intro HA HV HT HR HS0 HX0 HW
  have HQ : Hid (w.heap.size + 1 + 1 < w.heap.size + 3) := hide (by omega)
  generalize hB2 : w.heap.size + 1 + 1 = B2 at *
  generalize hB1 : w.heap.size + 1 = B1 at *
  have n1 : B2 ≠ w.heap.size := by omega
  have n2 : B2 ≠ B1 := by omega
  have HB2 : Hid (w.heap.size ≤ B2) := hide (by omega)
  have n1' := n1.symm
  have n2' := n2.symm
  replace hB1 := hide hB1
  replace hB2 := hide hB2
  obtain ⟨v0, v1⟩ := (unhide HV).cells
  obtain ⟨t0, t1, t2⟩ := (unhide HT).cells
  go_region_held3 (fun w' => w'.cell? ⟨w.heap.size, 0, none⟩ = some (.slice ao ss.length ca) ∧ w'.cell? ⟨w.heap.size, 1, none⟩ = some (.slice bo xs.length cb) ∧ w'.cell? ⟨B1, 0, none⟩ = some (.int .i64 h) ∧ w'.cell? ⟨B1, 1, none⟩ = some (.int .i64 g) ∧ w'.cell? ⟨B1, 2, none⟩ = some (.int .i64 s)) (go_keep)
    (first
      | (go_at_call 43; refine (l04Encode_any h g s _ (unhide HX)).mono ?_; rintro e wA ⟨rfl, hbA⟩; have HBA := hide (fr (Below.refl _ W0).drew hbA); obtain ⟨a0, a1⟩ := ((unhide HV).below (unhide HBA)).cells; obtain ⟨a2, a3, a4⟩ := ((unhide HT).below (unhide HBA)).cells; clear hbA)
      | (go_at_call 101; refine (l01Write_hd ao bo ss.length ca cb xs h (5 + h) (encD h g s) _ (unhide HXL) ((unhide HX0).below (unhide HBA))).mono ?_; rintro e wB ⟨gg, cap, rfl, hoB, hbB⟩; have HOB := hide hoB; have HBB := hide (fr (unhide HBA) hbB); obtain ⟨b0, b1⟩ := ((unhide HV).below (unhide HBB)).cells; obtain ⟨b2, b3, b4⟩ := ((unhide HT).below (unhide HBB)).cells; clear hoB hbB)
      | (go_at_call 100; refine (l01Flush_put ao (some ⟨gg, 0, none⟩) ca cap ss (xs ++ [dwr h g s]) h ss.length (xs.length + 1) S X _ rfl (unhide HXN) (unhide HS) (unhide HXX) (unhide HP) ((unhide HS0).below (unhide HBB)) (ownI (xs := xs ++ [dwr h g s]) (by rw [unhide HXN]; exact unhide HOB) (unhide HZ))).mono ?_; rintro e wC ⟨po, pa, qo, qa, rfl, hoC, hbC⟩; have HOC := hide hoC; have HBC := hide (fr (unhide HBB) hbC); obtain ⟨c0, c1⟩ := ((unhide HV).below (unhide HBC)).cells; obtain ⟨c2, c3, c4⟩ := ((unhide HT).below (unhide HBC)).cells; obtain ⟨r0, r1⟩ := ((unhide HR).below (unhide HBC)).cells; have r2 := ((unhide HR).below (unhide HBC)).free 0; have r3 := ((unhide HR).below (unhide HBC)).free 1; clear hoC hbC))
  have z : B2 < wB.heap.size := by have z0 := unhide HW; have z1 := unhide HQ; have z2 := (unhide HBB).size; omega
  have HE := hide (show OwnD ((wC.setCell ⟨B2, 0, none⟩ (.slice po ss.length pa)).setCell ⟨B2, 1, none⟩ (.slice qo X.length qa)) w.heap.size po ss.length pa qo X.length qa S X ∧ Below w.heap.size w ((wC.setCell ⟨B2, 0, none⟩ (.slice po ss.length pa)).setCell ⟨B2, 1, none⟩ (.slice qo X.length qa)) from
    ⟨(((unhide HOC).setCell (a := ⟨B2, 0, none⟩) z _).setCell (a := ⟨B2, 1, none⟩) z _).base (by have := unhide HB2; omega), ((fr (unhide HA) (unhide HBC)).setCell (p := ⟨B2, 0, none⟩) (unhide HB2) _).setCell (p := ⟨B2, 1, none⟩) (unhide HB2) _⟩)
  clear a0 a1 a2 a3 a4 b0 b1 b2 b3 b4 c0 c1 c2 c3 c4 v0 v1 t0 t1 t2
  go_wp2
  exact bodyPost_ret (v := .agg #[.slice po ss.length pa, .slice qo X.length qa]) (by simp [results, Tryd.results87, go_sem, r0, r1]) rfl ⟨po, pa, qo, qa, rfl, (unhide HE).1, (unhide HE).2⟩

end Go.Proofs.YtlhinknmbgijeabDoor
