import Derived.Test.YtlhinknmbgijeabDoorLDeltaPart1
import Derived.Test.YtlhinknmbgijeabDoorLDeltaPart3
import Derived.Test.YtlhinknmbgijeabDoorLDeltaPart4
import Derived.WalkKit
import Derived.Test.YtlhinknmbgijeabDoorLDeltaPart2
import Derived.Test.YtlhinknmbgijeabDoorRows
import Derived.WalkSpells
import Derived.KernelRfl
import Derived.Lib.SmallJoins
import Derived.Laws.BytesArg
import Derived.Laws.CopyRow
import Derived.Laws.CopyOwn
import Derived.Deep.RegionLaw
import Derived.Deep.AppendLies
import Derived.Deep.RegionWith

/- Plain: what landing and losing leave of a disk, written out. -/
namespace Go.Proofs.YtlhinknmbgijeabDoor
set_option linter.unusedVariables false

/-- A host's writes; sectors behind writes; what is left of writes without a host's first ones. -/
def ofH (h : Int) (xs : List Wr) : List Wr := xs.filter fun x => x.host == h
def putW (ss : List ByteArray) (fs : List Wr) : List ByteArray := fs.foldl (fun s x => s.set x.at_.toNat x.data) ss
def remH (h : Int) : Nat → List Wr → List Wr
  | _, [] => []
  | 0, x :: xs => x :: remH h 0 xs
  | n + 1, x :: xs => if x.host = h then remH h n xs else x :: remH h (n + 1) xs

theorem remH_zero (h : Int) : ∀ xs : List Wr, remH h 0 xs = xs
  | [] => rfl
  | x :: xs => by rw [remH, remH_zero h xs]
theorem ofH_cons_hit {h : Int} {x : Wr} (xs : List Wr) (hx : x.host = h) : ofH h (x :: xs) = x :: ofH h xs := by simp [ofH, hx]
theorem ofH_cons_miss {h : Int} {x : Wr} (xs : List Wr) (hx : ¬ x.host = h) : ofH h (x :: xs) = ofH h xs := by simp [ofH, hx]
theorem remH_hit {h : Int} {x : Wr} (n : Nat) (xs : List Wr) (hx : x.host = h) : remH h (n + 1) (x :: xs) = remH h n xs := by rw [remH, if_pos hx]
theorem remH_miss {h : Int} {x : Wr} (n : Nat) (xs : List Wr) (hx : ¬ x.host = h) : remH h n (x :: xs) = x :: remH h n xs := by
  cases n with
  | zero => rw [remH]
  | succ n => rw [remH, if_neg hx]

theorem fold_land (h : Int) : ∀ (xs : List Wr) (SS : List ByteArray) (LX : List Wr) (n : Nat),
    xs.foldl (stepF h false) (SS, LX, (n : Int)) = (putW SS ((ofH h xs).take n), LX ++ remH h n xs, ((n - (ofH h xs).length : Nat) : Int))
  | [], SS, LX, n => by simp [ofH, putW, remH]
  | x :: xs, SS, LX, n => by
    rw [List.foldl_cons]
    by_cases hx : x.host = h
    · cases n with
      | zero =>
        rw [step_keep hx SS LX (by simp), show ((0 : Nat) : Int) = ((0 : Nat) : Int) from rfl, fold_land h xs, remH_zero, remH_zero]
        simp [putW]
      | succ n =>
        rw [step_land hx SS LX (by omega), show ((n + 1 : Nat) : Int) - 1 = (n : Int) by omega, fold_land h xs, ofH_cons_hit xs hx, remH_hit n xs hx]
        rw [List.take_succ_cons, List.length_cons, show n + 1 - ((ofH h xs).length + 1) = n - (ofH h xs).length by omega]
        rfl
    · rw [step_other hx, fold_land h xs, ofH_cons_miss xs hx, remH_miss n xs hx]
      simp
theorem landF_put (h : Int) (ss : List ByteArray) (xs : List Wr) (n : Nat) : (landF h false ss xs (n : Int)).1 = putW ss ((ofH h xs).take n) ∧ (landF h false ss xs (n : Int)).2.1 = remH h n xs := by
  unfold landF
  rw [fold_land]
  exact ⟨rfl, by simp⟩

theorem cntW_of (xs : List Wr) (h : Int) : cntW xs h = (ofH h xs).length := rfl
theorem drop_rem (h : Int) : ∀ (n : Nat) (xs : List Wr), dropF h (remH h n xs) = dropF h xs
  | _, [] => by cases ‹Nat› <;> rfl
  | 0, x :: xs => by rw [remH_zero]
  | n + 1, x :: xs => by
    by_cases hx : x.host = h
    · rw [remH_hit n xs hx, drop_rem h n xs]; simp [dropF, hx]
    · rw [remH_miss _ xs hx]
      have := drop_rem h (n + 1) xs
      simp only [dropF, List.filter_cons] at this ⊢
      simp [hx, this]
theorem of_rem (h : Int) : ∀ (n : Nat) (xs : List Wr), ofH h (remH h n xs) = (ofH h xs).drop n
  | _, [] => by cases ‹Nat› <;> simp [remH, ofH]
  | 0, x :: xs => by rw [remH_zero]; rfl
  | n + 1, x :: xs => by
    by_cases hx : x.host = h
    · rw [remH_hit n xs hx, of_rem h n xs, ofH_cons_hit xs hx]; rfl
    · rw [remH_miss _ xs hx, ofH_cons_miss _ hx, ofH_cons_miss _ hx, of_rem h (n + 1) xs]
theorem rem_rem (h : Int) : ∀ (n : Nat) (xs : List Wr), remH h 1 (remH h n xs) = remH h (n + 1) xs
  | _, [] => by cases ‹Nat› <;> rfl
  | 0, x :: xs => by rw [remH_zero]
  | n + 1, x :: xs => by
    by_cases hx : x.host = h
    · rw [remH_hit n xs hx, rem_rem h n xs, remH_hit (n + 1) xs hx]
    · rw [remH_miss _ xs hx, remH_miss _ _ hx, rem_rem h (n + 1) xs, remH_miss _ xs hx]
theorem rem_none {h : Int} : ∀ (n : Nat) {xs : List Wr}, ofH h xs = [] → remH h n xs = xs
  | _, [], _ => by cases ‹Nat› <;> rfl
  | n, x :: xs, e => by
    have hx : ¬ x.host = h := fun hx => by rw [ofH_cons_hit xs hx] at e; cases e
    rw [ofH_cons_miss xs hx] at e
    rw [remH_miss n xs hx, rem_none n e]
theorem rem_all {h : Int} : ∀ (n : Nat) (xs : List Wr), (ofH h xs).length ≤ n → remH h n xs = dropF h xs
  | _, [], _ => by cases ‹Nat› <;> rfl
  | n, x :: xs, e => by
    by_cases hx : x.host = h
    · rw [ofH_cons_hit xs hx] at e
      cases n with
      | zero => simp at e
      | succ n =>
        rw [remH_hit n xs hx, rem_all n xs (by simpa using e)]; simp [dropF, hx]
    · rw [ofH_cons_miss xs hx] at e
      rw [remH_miss n xs hx, rem_all n xs e]; simp [dropF, hx]
theorem of_drop (h : Int) (xs : List Wr) : ofH h (dropF h xs) = [] := by
  simp [ofH, dropF, List.filter_filter]
theorem drop_len (h : Int) : ∀ xs : List Wr, (dropF h xs).length + (ofH h xs).length = xs.length
  | [] => rfl
  | x :: xs => by
    have := drop_len h xs
    by_cases hx : x.host = h
    · rw [ofH_cons_hit xs hx]; simp only [dropF, List.filter_cons] at this ⊢; simp [hx]; omega
    · rw [ofH_cons_miss xs hx]; simp only [dropF, List.filter_cons] at this ⊢; simp [hx]; omega

/-- Losing a host: the first writes are sure, the others gone. -/
theorem landF_gone (h : Int) (ss : List ByteArray) (xs : List Wr) (n : Nat) : (landF h true ss xs (n : Int)).1 = putW ss ((ofH h xs).take n) ∧ (landF h true ss xs (n : Int)).2.1 = dropF h xs := by
  obtain ⟨e1, e2⟩ := landF_lost h (n : Int) ss xs
  obtain ⟨p1, p2⟩ := landF_put h ss xs n
  rw [e1, e2, p1, p2, drop_rem]
  exact ⟨rfl, rfl⟩
theorem put_snoc (ss : List ByteArray) (fs : List Wr) (x : Wr) : putW ss (fs ++ [x]) = (putW ss fs).set x.at_.toNat x.data := by simp [putW]
theorem put_len (ss : List ByteArray) : ∀ fs : List Wr, (putW ss fs).length = ss.length := fun fs => by
  induction fs generalizing ss with
  | nil => rfl
  | cons x fs ih => simp only [putW, List.foldl_cons] at ih ⊢; rw [ih]; simp
theorem put_more (ss : List ByteArray) (fs : List Wr) (n : Nat) : putW (putW ss (fs.take n)) ((fs.drop n).take 1) = putW ss (fs.take (n + 1)) := by
  rw [List.take_add]
  simp [putW]

theorem diskB_parts {ss : List ByteArray} {xs : List Wr} : diskB ss xs = true ↔ (ss.length = 64 ∧ ∀ s ∈ ss, s.size ≤ 80) ∧ xs.length ≤ 200 ∧ ∀ x ∈ xs, ioB x = true := by
  simp only [diskB, secB, penB, Bool.and_eq_true, decide_eq_true_eq, List.all_eq_true]
theorem ioB_parts {x : Wr} : ioB x = true ↔ (0 ≤ x.host ∧ x.host ≤ 3) ∧ (0 ≤ x.at_ ∧ x.at_ ≤ 63) ∧ x.data.size ≤ 80 := by
  simp only [ioB, Bool.and_eq_true, decide_eq_true_eq]
  omega
theorem put_mem {P : ByteArray → Prop} : ∀ (fs : List Wr) (ss : List ByteArray), (∀ s ∈ ss, P s) → (∀ x ∈ fs, P x.data) → ∀ s ∈ putW ss fs, P s
  | [], ss, h1, _ => h1
  | x :: fs, ss, h1, h2 => by
    have := put_mem fs (ss.set x.at_.toNat x.data) (fun s hs => by
      rcases List.mem_or_eq_of_mem_set hs with h | h
      · exact h1 s h
      · rw [h]; exact h2 x (List.mem_cons_self ..)) (fun y hy => h2 y (List.mem_cons_of_mem _ hy))
    simpa [putW] using this
theorem of_mem {h : Int} {xs : List Wr} {x : Wr} (hx : x ∈ ofH h xs) : x ∈ xs := (List.mem_filter.1 hx).1
theorem drop_mem {h : Int} {xs : List Wr} {x : Wr} (hx : x ∈ dropF h xs) : x ∈ xs := (List.mem_filter.1 hx).1
theorem rem_mem {h : Int} : ∀ (n : Nat) {xs : List Wr} {x : Wr}, x ∈ remH h n xs → x ∈ xs
  | n, [], x, hx => by cases n <;> exact hx
  | 0, y :: ys, x, hx => by rwa [remH_zero] at hx
  | n + 1, y :: ys, x, hx => by
    by_cases hy : y.host = h
    · rw [remH_hit n ys hy] at hx; exact List.mem_cons_of_mem _ (rem_mem n hx)
    · rw [remH_miss _ ys hy] at hx
      rcases List.mem_cons.1 hx with rfl | hx
      · exact List.mem_cons_self ..
      · exact List.mem_cons_of_mem _ (rem_mem (n + 1) hx)
theorem rem_len {h : Int} (n : Nat) (xs : List Wr) : (remH h n xs).length ≤ xs.length := by
  induction xs generalizing n with
  | nil => cases n <;> exact Nat.le_refl _
  | cons x xs ih =>
    cases n with
    | zero => rw [remH_zero]; exact Nat.le_refl _
    | succ n =>
      by_cases hx : x.host = h
      · rw [remH_hit n xs hx]; have := ih n; simp; omega
      · rw [remH_miss _ xs hx]; have := ih (n + 1); simp; omega
/-- A right disk stays right where writes land, or are gone. -/
theorem diskB_put {ss : List ByteArray} {xs ys fs : List Wr} (hd : diskB ss xs = true) (hf : ∀ x ∈ fs, x ∈ xs) (hy : ∀ x ∈ ys, x ∈ xs) (hl : ys.length ≤ xs.length) : diskB (putW ss fs) ys = true := by
  obtain ⟨⟨a1, a2⟩, a3, a4⟩ := diskB_parts.1 hd
  refine diskB_parts.2 ⟨⟨by rw [put_len]; exact a1, put_mem fs ss a2 (fun x hx => (ioB_parts.1 (a4 x (hf x hx))).2.2)⟩, by omega, fun x hx => a4 x (hy x hx)⟩
theorem diskB_snoc {ss : List ByteArray} {xs : List Wr} {x : Wr} (hd : diskB ss xs = true) (hl : xs.length < 200) (hx : ioB x = true) : diskB ss (xs ++ [x]) = true := by
  obtain ⟨⟨a1, a2⟩, a3, a4⟩ := diskB_parts.1 hd
  refine diskB_parts.2 ⟨⟨a1, a2⟩, by simp; omega, fun y hy => ?_⟩
  rcases List.mem_append.1 hy with h | h
  · exact a4 y h
  · simp at h; subst h; exact hx
theorem drop_le (h : Int) (xs : List Wr) : (dropF h xs).length ≤ xs.length := by have := drop_len h xs; omega
theorem askC_right {ss : List ByteArray} {xs : List Wr} {h a : Int} (hd : diskB ss xs = true) (h0 : 0 ≤ h) (h1 : h ≤ 3) (a0 : 0 ≤ a) (a1 : a ≤ 63) : hostC ss xs h = 0 ∧ askC ss xs h a = 0 := by
  have e := hostC_ok (h := h) hd (by simp [inB]; omega)
  exact ⟨e, askC_ok e (by simp [inB]; omega)⟩

/-- What a host reads behind its own write, and what another one reads. -/
theorem read_own {ss : List ByteArray} {xs : List Wr} {h a : Int} {t : ByteArray} : readV ss (xs ++ [⟨h, a, t⟩]) h a = t := by
  have hk : xs.length < (xs ++ [(⟨h, a, t⟩ : Wr)]).length := by simp
  rw [readV_hit (k := xs.length) hk (by simp) (fun j hj hlt => by simp at hj; omega)]
  simp
theorem read_sure {ss : List ByteArray} {xs : List Wr} {h a : Int} (hn : ofH h xs = []) : readV ss xs h a = ss.getD a.toNat ⟨#[]⟩ := by
  refine readV_none fun j hj hm => ?_
  have : xs[j] ∈ ofH h xs := List.mem_filter.2 ⟨List.getElem_mem hj, by simp [hm.1]⟩
  rw [hn] at this
  cases this
theorem read_other {ss : List ByteArray} {xs : List Wr} {h o a b : Int} {t : ByteArray} (ho : o ≠ h) : readV ss (xs ++ [⟨h, a, t⟩]) o b = readV ss xs o b := by
  by_cases e : ∃ k, IsLast xs o b k
  · obtain ⟨k, ⟨hk, hm⟩, hn⟩ := e
    have hk' : k < (xs ++ [(⟨h, a, t⟩ : Wr)]).length := by simp; omega
    have hg : (xs ++ [(⟨h, a, t⟩ : Wr)])[k] = xs[k] := List.getElem_append_left hk
    rw [readV_hit hk hm hn, readV_hit hk' (by rw [hg]; exact hm) (fun j hj hlt => ?_), hg]
    by_cases hj' : j < xs.length
    · rw [List.getElem_append_left hj']; exact hn j hj' hlt
    · have : j = xs.length := by simp at hj; omega
      subst this
      simp only [mat]
      rw [List.getElem_append_right (Nat.le_refl _)]
      simp
      intro e2
      exact absurd e2.symm ho
  · have hn : ∀ j (hj : j < xs.length), ¬ mat xs[j] o b := by
      intro j hj hm
      -- the greatest such place
      have : ∀ d j, (hj : j < xs.length) → xs.length - j = d → mat xs[j] o b → ∃ k, IsLast xs o b k := by
        intro d
        induction d using Nat.strongRecOn with
        | ind d ih =>
          intro j hj hd hm
          by_cases more : ∃ i, ∃ hi : i < xs.length, j < i ∧ mat xs[i] o b
          · obtain ⟨i, hi, hlt, hmi⟩ := more
            exact ih (xs.length - i) (by omega) i hi rfl hmi
          · exact ⟨j, ⟨hj, hm⟩, fun i hi hlt hmi => more ⟨i, hi, hlt, hmi⟩⟩
      exact e (this _ j hj rfl hm)
    rw [readV_none hn, readV_none]
    intro j hj hm
    by_cases hj' : j < xs.length
    · rw [List.getElem_append_left hj'] at hm; exact hn j hj' hm
    · have : j = xs.length := by simp at hj; omega
      subst this
      simp only [mat] at hm
      rw [List.getElem_append_right (Nat.le_refl _)] at hm
      simp at hm
      exact ho hm.1.symm

end Go.Proofs.YtlhinknmbgijeabDoor

/- Plain words of the generations: what a right one is, its text, what a text says. -/
namespace Go.Proofs.YtlhinknmbgijeabDoor
open Go.RowKit
set_option linter.unusedVariables false

abbrev dltV (h g s : Int) : Value := .agg #[.int .i64 h, .int .i64 g, .int .i64 s]
def dltB (h g s : Int) : Bool := inB h 0 3 && (inB g 1 1000000 && inB s 0 10000000)
theorem dltB_iff {h g s : Int} : dltB h g s = true ↔ (0 ≤ h ∧ h ≤ 3) ∧ (1 ≤ g ∧ g ≤ 1000000) ∧ 0 ≤ s ∧ s ≤ 10000000 := by
  simp only [dltB, inB, Bool.and_eq_true, decide_eq_true_eq]
theorem dltB_1 {h g s : Int} (e : inB h 0 3 = false) : dltB h g s = false := by simp [dltB, e]
theorem dltB_2 {h g s : Int} (e : inB g 1 1000000 = false) : dltB h g s = false := by simp [dltB, e]
theorem dltB_3 {h g s : Int} (e1 : inB h 0 3 = true) (e2 : inB g 1 1000000 = true) : dltB h g s = inB s 0 10000000 := by simp [dltB, e1, e2]
/-- Its text. -/
def encD (h g s : Int) : ByteArray := sealS 9 [h, g, s]
theorem encD_size (h g s : Int) : (encD h g s).size = 16 := by rw [encD, sealS_size]; rfl
/-- What a text says. -/
def decL (t : ByteArray) : List Int := openL t 9
def decB (t : ByteArray) : Bool := openB t 9 && (decide ((decL t).length = 3) && dltB ((decL t).getD 0 0) ((decL t).getD 1 0) ((decL t).getD 2 0))
def decH (t : ByteArray) : Int := if decB t = true then (decL t).getD 0 0 else 0
def decG (t : ByteArray) : Int := if decB t = true then (decL t).getD 1 0 else 0
def decS (t : ByteArray) : Int := if decB t = true then (decL t).getD 2 0 else 0
theorem decB_open {t : ByteArray} (h : openB t 9 = false) : decB t = false := by simp [decB, h]
theorem decB_len {t : ByteArray} (h : ¬ (decL t).length = 3) : decB t = false := by simp [decB, h]
theorem decB_at {t : ByteArray} {a b c : Int} (h : openB t 9 = true) (hl : decL t = [a, b, c]) : decB t = dltB a b c := by simp [decB, h, hl]
theorem dec_no {t : ByteArray} (h : decB t = false) : decH t = 0 ∧ decG t = 0 ∧ decS t = 0 := by simp [decH, decG, decS, h]
theorem dec_yes {t : ByteArray} {a b c : Int} (h : decB t = true) (hl : decL t = [a, b, c]) : decH t = a ∧ decG t = b ∧ decS t = c := by simp [decH, decG, decS, h, hl]
theorem three {l : List Int} (h : l.length = 3) : ∃ a b c, l = [a, b, c] := by
  match l, h with
  | [a, b, c], _ => exact ⟨a, b, c, rfl⟩
theorem dec_right {t : ByteArray} (h : decB t = true) : dltB (decH t) (decG t) (decS t) = true := by
  by_cases hl : (decL t).length = 3
  · obtain ⟨a, b, c, e⟩ := three hl
    by_cases ho : openB t 9 = true
    · rw [decB_at ho e] at h
      have h' : decB t = true := by rw [decB_at ho e]; exact h
      obtain ⟨e1, e2, e3⟩ := dec_yes h' e
      rw [e1, e2, e3]; exact h
    · rw [Bool.not_eq_true] at ho
      rw [decB_open ho] at h; cases h
  · rw [decB_len hl] at h; cases h

/-- One in a variable. -/
def VarT (w : World) (x : Nat) (t : TypeId) (h g s : Int) : Prop := w.heap[x]? = some (.cells #[.int .i64 h, .int .i64 g, .int .i64 s] t (0, 0))
theorem VarT.lt {w : World} {x t : Nat} {h g s : Int} (k : VarT w x t h g s) : x < w.heap.size := (Array.getElem?_eq_some_iff.1 k).1
theorem VarT.cells {w : World} {x t : Nat} {h g s : Int} (k : VarT w x t h g s) : w.cell? ⟨x, 0, none⟩ = some (.int .i64 h) ∧ w.cell? ⟨x, 1, none⟩ = some (.int .i64 g) ∧ w.cell? ⟨x, 2, none⟩ = some (.int .i64 s) := ⟨by rw [Joins.cell_of_block k]; rfl, by rw [Joins.cell_of_block k]; rfl, by rw [Joins.cell_of_block k]; rfl⟩
theorem VarT.free {w : World} {x t : Nat} {h g s : Int} (k : VarT w x t h g s) : w.frozen? ⟨x, 0, none⟩ = false ∧ w.frozen? ⟨x, 1, none⟩ = false ∧ w.frozen? ⟨x, 2, none⟩ = false := ⟨Joins.unfrozen_of_block k 0, Joins.unfrozen_of_block k 1, Joins.unfrozen_of_block k 2⟩
theorem VarT.below {w w' : World} {x t : Nat} {h g s : Int} (k : VarT w x t h g s) (hb : Below w.heap.size w w') : VarT w' x t h g s := by
  unfold VarT; rw [hb.block x k.lt]; exact k
theorem VarT.keep {S : Nat → Prop} {w w' : World} {x t : Nat} {h g s : Int} (k : VarT w x t h g s) (hk : Keep S w w') (hs : ¬ S x) : VarT w' x t h g s := by
  unfold VarT; rw [hk.block x k.lt hs]; exact k
theorem VarT.new (w : World) (t : TypeId) (h g s : Int) : VarT (w.alloc (.cells #[.int .i64 h, .int .i64 g, .int .i64 s] t)) w.heap.size t h g s := heap_alloc_new w _

/-- What a host reads of another one's. -/
def redB (ss : List ByteArray) (xs : List Wr) (h o : Int) : Bool := decB (readV ss xs h (5 + o)) && decide (decH (readV ss xs h (5 + o)) = o)
def redG (ss : List ByteArray) (xs : List Wr) (h o : Int) : Int := if redB ss xs h o = true then decG (readV ss xs h (5 + o)) else 0
def redS (ss : List ByteArray) (xs : List Wr) (h o : Int) : Int := if redB ss xs h o = true then decS (readV ss xs h (5 + o)) else 0
theorem red_yes {ss : List ByteArray} {xs : List Wr} {h o : Int} (hb : decB (readV ss xs h (5 + o)) = true) (ho : decH (readV ss xs h (5 + o)) = o) : redB ss xs h o = true ∧ redG ss xs h o = decG (readV ss xs h (5 + o)) ∧ redS ss xs h o = decS (readV ss xs h (5 + o)) := by
  have e : redB ss xs h o = true := by simp [redB, hb, ho]
  exact ⟨e, if_pos e, if_pos e⟩
theorem red_no {ss : List ByteArray} {xs : List Wr} {h o : Int} (e : redB ss xs h o = false) : redG ss xs h o = 0 ∧ redS ss xs h o = 0 := ⟨if_neg (by simp [e]), if_neg (by simp [e])⟩
theorem red_none {ss : List ByteArray} {xs : List Wr} {h o : Int} (hb : decB (readV ss xs h (5 + o)) = false) : redB ss xs h o = false := by simp [redB, hb]
theorem red_other {ss : List ByteArray} {xs : List Wr} {h o : Int} (ho : decH (readV ss xs h (5 + o)) ≠ o) : redB ss xs h o = false := by simp [redB, ho]
theorem readV_size {ss : List ByteArray} {xs : List Wr} (hd : diskB ss xs = true) (h a : Int) : (readV ss xs h a).size ≤ 80 := by
  obtain ⟨⟨a1, a2⟩, a3, a4⟩ := diskB_parts.1 hd
  unfold readV
  cases hf : xs.reverse.find? (fun x => x.host == h && x.at_ == a) with
  | some x => exact (ioB_parts.1 (a4 x (List.mem_reverse.1 (List.mem_of_find?_eq_some hf)))).2.2
  | none =>
    simp only [Option.map_none, Option.getD_none]
    rw [List.getD_eq_getElem?_getD]
    cases hg : ss[a.toNat]? with
    | some s => exact a2 s (List.mem_of_getElem? hg)
    | none => exact Nat.zero_le _

def encC (h g s : Int) : Int := if dltB h g s = true then 0 else 1
def encR (h g s : Int) : ByteArray := if dltB h g s = true then encD h g s else ⟨#[]⟩
theorem ret_sd {a b : ByteArray} {c d : Int} (h : a = b) (k : c = d) : Ending.returned (.tuple #[.string a, .int .i64 c]) = .returned (.tuple #[.string b, .int .i64 d]) := by rw [h, k]

theorem ret_di {a b c a' b' c' : Int} {x y : Int} (h1 : a = a') (h2 : b = b') (h3 : c = c') (k : x = y) : Ending.returned (.tuple #[dltV a b c, .int .i64 x]) = .returned (.tuple #[dltV a' b' c', .int .i64 y]) := by rw [h1, h2, h3, k]

/-- What DecodeDelta answers. -/
def dcC (t : ByteArray) : Int := if 65536 < t.size then 2 else if decB t = true then 0 else 3
def dcH (t : ByteArray) : Int := if 65536 < t.size then 0 else decH t
def dcG (t : ByteArray) : Int := if 65536 < t.size then 0 else decG t
def dcS (t : ByteArray) : Int := if 65536 < t.size then 0 else decS t
theorem dc_long {t : ByteArray} (h : 65536 < t.size) : dcH t = 0 ∧ dcG t = 0 ∧ dcS t = 0 ∧ dcC t = 2 := ⟨if_pos h, if_pos h, if_pos h, if_pos h⟩
theorem dc_no {t : ByteArray} (h : ¬ 65536 < t.size) (hd : decB t = false) : dcH t = 0 ∧ dcG t = 0 ∧ dcS t = 0 ∧ dcC t = 3 := by
  obtain ⟨e1, e2, e3⟩ := dec_no hd
  exact ⟨(if_neg h).trans e1, (if_neg h).trans e2, (if_neg h).trans e3, (if_neg h).trans (if_neg (by simp [hd]))⟩
theorem dc_yes {t : ByteArray} (h : ¬ 65536 < t.size) (hd : decB t = true) : dcH t = decH t ∧ dcG t = decG t ∧ dcS t = decS t ∧ dcC t = 0 := ⟨if_neg h, if_neg h, if_neg h, (if_neg h).trans (if_pos hd)⟩


end Go.Proofs.YtlhinknmbgijeabDoor

/- Contracts of spec's generations, the plain ones: l04Host, DeltaOK, l04Encode, l04Decode. -/
namespace Go.Proofs.YtlhinknmbgijeabDoor
open Go.RowKit
set_option linter.unusedVariables false
set_option maxRecDepth 100000

theorem l04Host_any (h : Int) (w : World) : Calls Tryd.prog 79 #[.int .i64 h] w fun e w' => e = .returned (.bool (inB h 0 3)) ∧ w' = w := by
  go_enter Tryd.func79, Tryd.ntmps79
  go_wp2_with fail
  refine (l01In_num h 0 3 _).mono ?_
  rintro e w1 ⟨rfl, rfl⟩
  go_wp2
  go_ret
  exact ⟨rfl, rfl⟩

set_option maxHeartbeats 1600000 in
theorem deltaOK_spec (h g s : Int) (w : World) : Calls Tryd.prog 42 #[dltV h g s] w fun e w' => e = .returned (.bool (dltB h g s)) ∧ Below w.heap.size w w' := by
  go_enter Tryd.func42, Tryd.ntmps42
  go_wp2_with fail
  refine (l04Host_any h _).mono ?_
  rintro e w1 ⟨rfl, rfl⟩
  by_cases h1 : inB h 0 3 = false
  · have hr := hide (dltB_1 (g := g) (s := s) h1)
    go_wp2
    go_ret
    rw [unhide hr]
    exact ⟨rfl, Joins.below_alloc1 _ _⟩
  rw [Bool.not_eq_false] at h1
  go_wp2_with fail
  refine (l01In_num g 1 1000000 _).mono ?_
  rintro e w1 ⟨rfl, rfl⟩
  by_cases h2 : inB g 1 1000000 = false
  · have hr := hide (dltB_2 (h := h) (s := s) h2)
    go_wp2
    go_ret
    rw [unhide hr]
    exact ⟨rfl, Joins.below_alloc1 _ _⟩
  rw [Bool.not_eq_false] at h2
  have hr := hide (dltB_3 (s := s) h1 h2)
  go_wp2_with fail
  refine (l01In_num s 0 10000000 _).mono ?_
  rintro e w1 ⟨rfl, rfl⟩
  go_wp2
  go_ret
  rw [unhide hr]
  exact ⟨rfl, Joins.below_alloc1 _ _⟩

theorem d3_nums {h g s : Int} (hd : dltB h g s = true) : ∀ j (hj : j < [h, g, s].length), 0 ≤ [h, g, s][j] ∧ [h, g, s][j] ≤ 2147483647 := by
  obtain ⟨h1, h2, h3⟩ := dltB_iff.1 hd
  intro j hj
  have hj' : j < 3 := hj
  rcases (show j = 0 ∨ j = 1 ∨ j = 2 by omega) with rfl | rfl | rfl <;> simp <;> omega
theorem is3 (w : World) (n : Nat) (t : TypeId) (a b c : Int) (hn : w.heap.size = n) : Is (w.alloc (.cells #[.int .i64 a, .int .i64 b, .int .i64 c] t)) (some ⟨n, 0, none⟩) [a, b, c] := by
  subst hn
  intro i hi
  have hi' : i < 3 := hi
  refine ⟨w.heap.size, 0, rfl, ?_⟩
  rcases (show i = 0 ∨ i = 1 ∨ i = 2 by omega) with rfl | rfl | rfl <;> simp [go_sem]

set_option maxHeartbeats 1600000 in
theorem l04Encode_any (h g s : Int) (w : World) (hd : dltB h g s = true) : Calls Tryd.prog 43 #[dltV h g s] w fun e w' => e = .returned (.string (encD h g s)) ∧ Below w.heap.size w w' := by
  have HD := hide (d3_nums hd)
  clear hd
  go_enter Tryd.func43, Tryd.ntmps43
  go_wp2_with fail
  refine (l02Seal_any 9 _ 3 [h, g, s] _ (by decide) (by simp) (unhide HD) (is3 _ _ _ _ _ _ (by simp))).mono ?_
  rintro e w1 ⟨rfl, hb⟩
  have HB := hide hb
  clear hb
  go_wp2
  go_ret
  exact ⟨rfl, fr (Joins.below_alloc2 _ _ _) (unhide HB)⟩

set_option maxHeartbeats 1600000 in
theorem encodeDelta_spec (h g s : Int) (w : World) : Calls Tryd.prog 13 #[dltV h g s] w fun e w' => e = .returned (.tuple #[.string (encR h g s), .int .i64 (encC h g s)]) ∧ Below w.heap.size w w' := by
  go_enter Tryd.func13, Tryd.ntmps13
  go_wp2_with fail
  refine (deltaOK_spec h g s _).mono ?_
  rintro e w1 ⟨rfl, hb⟩
  have HB := hide hb
  obtain ⟨hc0, hc1, hc2⟩ := ((VarT.new w 30 h g s).below hb).cells
  clear hb
  by_cases hd : dltB h g s = true
  · have HE : Hid (encR h g s = encD h g s ∧ encC h g s = 0) := hide ⟨if_pos hd, if_pos hd⟩
    have HD := hide hd
    go_wp2_with fail
    refine (l04Encode_any h g s _ (unhide HD)).mono ?_
    rintro e w2 ⟨rfl, hb⟩
    have HB2 := hide hb
    clear hb
    go_wp2
    go_ret2
    exact ⟨ret_sd (unhide HE).1.symm (unhide HE).2.symm, fr (fr (Joins.below_alloc1 _ _) (unhide HB)) (unhide HB2)⟩
  · have HE : Hid (encR h g s = ⟨#[]⟩ ∧ encC h g s = 1) := hide ⟨if_neg hd, if_neg hd⟩
    rw [Bool.not_eq_true] at hd
    go_wp2
    go_ret2
    exact ⟨ret_sd (unhide HE).1.symm (unhide HE).2.symm, fr (Joins.below_alloc1 _ _) (unhide HB)⟩

theorem ret_db {a b c a' b' c' : Int} {x y : Bool} (h1 : a = a') (h2 : b = b') (h3 : c = c') (k : x = y) : Ending.returned (.tuple #[dltV a b c, .bool x]) = .returned (.tuple #[dltV a' b' c', .bool y]) := by rw [h1, h2, h3, k]
end Go.Proofs.YtlhinknmbgijeabDoor

/- Plain words of the clocks, and contracts of their tests: within, hourOK, configInBounds, l01In, l03Bounds. -/
namespace Go.Proofs.YtlhinknmbgijeabDoor
open Go.RowKit
set_option linter.unusedVariables false
set_option maxRecDepth 100000

theorem hidB {p : Prop} (h : p) : Hid p := h
theorem frB {a b c : World} (h : Below a.heap.size a b) (k : Below b.heap.size b c) : Below a.heap.size a c := h.trans (k.mono h.size)
/-- A number within bounds. -/
def betw (n low high : Int) : Bool := decide (low ≤ n) && decide (n ≤ high)
theorem betw_yes {n low high : Int} (h : low ≤ n) (h' : n ≤ high) : betw n low high = true := by simp [betw, h, h']
theorem betw_no {n low high : Int} (h : ¬ (low ≤ n ∧ n ≤ high)) : betw n low high = false := by simp only [betw, Bool.and_eq_false_iff, decide_eq_false_iff_not]; omega
theorem betw_iff {n low high : Int} : betw n low high = true ↔ low ≤ n ∧ n ≤ high := by simp [betw]
/-- A configuration within its bounds. -/
def cfgB (f d l r : Int) : Bool := betw f 1 10000 && betw d 1 100000 && betw l 0 1000 && betw r 0 500
theorem cfgB_iff {f d l r : Int} : cfgB f d l r = true ↔ (1 ≤ f ∧ f ≤ 10000) ∧ (1 ≤ d ∧ d ≤ 100000) ∧ (0 ≤ l ∧ l ≤ 1000) ∧ 0 ≤ r ∧ r ≤ 500 := by
  simp only [cfgB, Bool.and_eq_true, betw_iff, and_assoc]
/-- The bounds of true time. -/
def latQ (r x : Int) : Int := ((x + 1) * 1000 + 999 - r) / (1000 - r)
def earQ (r x : Int) : Int := (x - 1) * 1000 / (1000 + r)
def locQ (o r t : Int) : Int := o + t * (1000 + r) / 1000
abbrev cfgV (f d l r : Int) : Value := .agg #[.int .i64 f, .int .i64 d, .int .i64 l, .int .i64 r]
abbrev clkV (o r : Int) : Value := .agg #[.int .i64 o, .int .i64 r]

/-- A configuration in a variable. -/
abbrev Four (w : World) (b : Nat) (f d l r : Int) : Prop := w.cell? ⟨b, 0, none⟩ = some (.int .i64 f) ∧ w.cell? ⟨b, 1, none⟩ = some (.int .i64 d) ∧ w.cell? ⟨b, 2, none⟩ = some (.int .i64 l) ∧ w.cell? ⟨b, 3, none⟩ = some (.int .i64 r)
theorem Four.below {w w' : World} {b : Nat} {f d l r : Int} (h : Four w b f d l r) (hb : Below w.heap.size w w') : Four w' b f d l r :=
  ⟨(hb.cell (World.block_lt_of_cell? _ _ h.1)).trans h.1, (hb.cell (World.block_lt_of_cell? _ _ h.2.1)).trans h.2.1, (hb.cell (World.block_lt_of_cell? _ _ h.2.2.1)).trans h.2.2.1, (hb.cell (World.block_lt_of_cell? _ _ h.2.2.2)).trans h.2.2.2⟩
set_option maxHeartbeats 800000 in
theorem within_any (n low high : Int) (w : World) : Calls Tryd.prog 53 #[.int .i64 n, .int .i64 low, .int .i64 high] w fun e w' => e = .returned (.bool (betw n low high)) ∧ w' = w := by
  by_cases h1 : low ≤ n
  · by_cases h2 : n ≤ high
    · have hr := hidB (betw_yes h1 h2)
      go_enter Tryd.func53, Tryd.ntmps53
      go_wp2
      go_ret
      rw [show betw n low high = true from hr]
      exact ⟨rfl, rfl⟩
    · have hr := hidB (betw_no (n := n) (low := low) (high := high) (by omega))
      go_enter Tryd.func53, Tryd.ntmps53
      go_wp2
      go_ret
      rw [show betw n low high = false from hr]
      exact ⟨rfl, rfl⟩
  · have hr := hidB (betw_no (n := n) (low := low) (high := high) (by omega))
    go_enter Tryd.func53, Tryd.ntmps53
    go_wp2
    go_ret
    rw [show betw n low high = false from hr]
    exact ⟨rfl, rfl⟩
set_option maxHeartbeats 800000 in
theorem in_any (n low high : Int) (w : World) : Calls Tryd.prog 80 #[.int .i64 n, .int .i64 low, .int .i64 high] w fun e w' => e = .returned (.bool (betw n low high)) ∧ w' = w := by
  by_cases h1 : low ≤ n
  · by_cases h2 : n ≤ high
    · have hr := hidB (betw_yes h1 h2)
      go_enter Tryd.func80, Tryd.ntmps80
      go_wp2
      go_ret
      rw [show betw n low high = true from hr]
      exact ⟨rfl, rfl⟩
    · have hr := hidB (betw_no (n := n) (low := low) (high := high) (by omega))
      go_enter Tryd.func80, Tryd.ntmps80
      go_wp2
      go_ret
      rw [show betw n low high = false from hr]
      exact ⟨rfl, rfl⟩
  · have hr := hidB (betw_no (n := n) (low := low) (high := high) (by omega))
    go_enter Tryd.func80, Tryd.ntmps80
    go_wp2
    go_ret
    rw [show betw n low high = false from hr]
    exact ⟨rfl, rfl⟩

theorem cfg_1 {f d l r : Int} (h : betw f 1 10000 = false) : cfgB f d l r = false := by simp [cfgB, h]
theorem cfg_2 {f d l r : Int} (h : betw d 1 100000 = false) : cfgB f d l r = false := by simp [cfgB, h]
theorem cfg_3 {f d l r : Int} (h : betw l 0 1000 = false) : cfgB f d l r = false := by simp [cfgB, h]
theorem cfg_4 {f d l r : Int} (h1 : betw f 1 10000 = true) (h2 : betw d 1 100000 = true) (h3 : betw l 0 1000 = true) : cfgB f d l r = betw r 0 500 := by simp [cfgB, h1, h2, h3]

end Go.Proofs.YtlhinknmbgijeabDoor

/- Contract of impl.packNumbers. -/
namespace Go.Proofs.YtlhinknmbgijeabDoor
open Go.RowKit
set_option linter.unusedVariables false
set_option maxRecDepth 100000

theorem block_alloc {w : World} {g : Nat} {c : Array Value} {t : TypeId} {f : Nat × Nat} (h : w.heap[g]? = some (.cells c t f)) (o : Obj) : (w.alloc o).heap[g]? = some (.cells c t f) := by
  rw [(Joins.below_alloc1 w o).block g (Array.getElem?_eq_some_iff.1 h).1]; exact h

/-- The bytes that stand in the array when k numbers are in it. -/
def arrL (xs : List Int) (k : Nat) : List Value := byteV (packL (xs.take k)) ++ List.replicate (64 - k * 4) (.int .u8 0)
theorem arrL_zero (xs : List Int) : arrL xs 0 = List.replicate 64 (.int .u8 0) := by simp [arrL, packL, byteV]
theorem four_lit {n : Int} (h : 0 ≤ n) (h' : n ≤ 2147483647) : [Value.int .u8 (n % 256), .int .u8 (n / 256 % 256), .int .u8 (n / 65536 % 256), .int .u8 (n / 16777216)] = byteV (four n) := by
  have e : n / 16777216 = n / 16777216 % 256 := by omega
  have : byteV (four n) = [Value.int .u8 (n / (256 : Int) ^ 0 % 256), .int .u8 (n / (256 : Int) ^ 1 % 256), .int .u8 (n / (256 : Int) ^ 2 % 256), .int .u8 (n / (256 : Int) ^ 3 % 256)] := rfl
  rw [this, e]
  simp
theorem arrL_length {xs : List Int} {k : Nat} (hl : xs.length ≤ 16) (hk : k ≤ xs.length) : (arrL xs k).length = 64 := by
  rw [arrL, List.length_append, byteV_length, packL_length, List.length_replicate, List.length_take, Nat.min_eq_left hk]
  omega
theorem arrL_splice {xs : List Int} {k : Nat} (hl : xs.length ≤ 16) (hk : k < xs.length) : splice (arrL xs k) (k * 4) (byteV (four xs[k])) = arrL xs (k + 1) := by
  have h1 : (byteV (packL (xs.take k))).length = k * 4 := by rw [byteV_length, packL_length, List.length_take, Nat.min_eq_left (by omega)]
  have h4 : (byteV (four xs[k])).length = 4 := by rw [byteV_length, four, fourTo_length]
  unfold splice arrL
  rw [h4, List.take_append_of_le_length (by omega), List.take_of_length_le (by omega), List.drop_append, List.drop_of_length_le (by omega), List.nil_append, h1, packL_succ hk, List.drop_replicate]
  rw [show k * 4 + 4 - k * 4 = 4 by omega, show 64 - k * 4 - 4 = 64 - (k + 1) * 4 by omega]
  simp [byteV]
theorem arrL_cells {W : World} {g : Nat} {t : TypeId} {xs : List Int} (h : W.heap[g]? = some (.cells (arrL xs xs.length).toArray t (0, 0))) : ∀ i, i < xs.length * 4 → W.cell? ⟨g, 0 + i, none⟩ = some (.int .u8 ((packL xs).getD i 0)) := by
  intro i hi
  rw [Nat.zero_add, Joins.cell_of_block h]
  have hl : i < (packL xs).length := by rw [packL_length]; exact hi
  simp [arrL, byteV, List.getElem?_append_left, hl, List.getD]
theorem byteV_one (ns : List Int) : ∀ v ∈ byteV ns, v.oneCell' = true := by
  intro v hv
  simp only [byteV, List.mem_map] at hv
  obtain ⟨s, _, rfl⟩ := hv
  rfl
theorem lit_one (a b c d : Int) : ∀ v ∈ [Value.int .u8 a, .int .u8 b, .int .u8 c, .int .u8 d], v.oneCell' = true := by
  intro v hv
  simp at hv
  rcases hv with rfl | rfl | rfl | rfl <;> rfl
theorem sizeB : (Tryd.prog.info? 5).map (·.size) = some 1 := by kernel_rfl
theorem runB (W : World) : (Go.sizeOf 5).run Tryd.prog W = .ok 1 W := by
  have h := sizeB
  cases hq : Tryd.prog.info? 5 with
  | none => simp [hq] at h
  | some i =>
    have hi : i.size = 1 := by simpa [hq] using h
    simp [Go.sizeOf, typeInfo, hq, hi]
theorem arr64 : Tryd.prog.arrayLen 115 = 64 := by kernel_rfl
theorem und64 : Tryd.prog.underlying 115 = some (.array (Tryd.prog.arrayLen 115) (Tryd.prog.elem 115)) := by kernel_rfl
theorem elem64 : Tryd.prog.elem 115 = 5 := by kernel_rfl
theorem wrap4 (k : Nat) (hk : k ≤ 16) : IntKind.i64.wrap ((k : Int) * 4) = ((k * 4 : Nat) : Int) := by
  rw [IntKind.wrap_i64]
  omega
theorem slice64 (W : World) (g k : Nat) (hk : k < 16) : (Instr.sliceAt 115 (.pointer (some ⟨g, 0, none⟩)) (some (.int .i64 (IntKind.i64.wrap ((k : Int) * 4)))) none none).run Tryd.prog W = .ok (.slice (some ⟨g, k * 4, none⟩) (64 - k * 4) (64 - k * 4)) W := by
  rw [wrap4 k (by omega), run_sliceAt_array_l W _ _ und64 .i64 _ (by omega) (by rw [arr64]; omega), elem64, runB, arr64]
  simp only [Result.andThen, slicedAt, Int.toNat_natCast, Nat.mul_one]
  rw [if_neg (by omega), show Addr.add ⟨g, 0, none⟩ (k * 4) = ⟨g, k * 4, none⟩ from by unfold Addr.add; split <;> simp_all]
theorem slice64h (W : World) (g k : Nat) (hk : k ≤ 16) : (Instr.sliceAt 115 (.pointer (some ⟨g, 0, none⟩)) none (some (.int .i64 ((k : Int) * 4))) none).run Tryd.prog W = .ok (.slice (some ⟨g, 0, none⟩) (k * 4) 64) W := by
  rw [run_sliceAt_array_h W _ _ und64 .i64 _ (by omega) (by rw [arr64]; omega), elem64, runB, arr64]
  simp only [Result.andThen, slicedAt, Nat.mul_one, Nat.sub_zero]
  rw [if_neg (by omega), show ((k : Int) * 4).toNat = k * 4 by omega]
  rfl

set_option maxHeartbeats 1600000 in
theorem packNumbers_any (ao : Option Addr) (cap : Nat) (xs : List Int) (w : World) (hl : xs.length ≤ 16) (hn : ∀ j (h : j < xs.length), 0 ≤ xs[j] ∧ xs[j] ≤ 2147483647) (hc : Is w ao xs) :
    Calls Tryd.prog 74 #[.slice ao xs.length cap] w fun e w' => e = .returned (.string (packS xs)) ∧ Below w.heap.size w w' := by
  have HC := hide hc
  have HN := hide hn
  clear hc hn
  go_enter Tryd.func74, Tryd.ntmps74
  go_wp2
  go_loopw [9] (fun i wr => ∃ k : Nat, k ≤ xs.length ∧ i = .int .i64 k ∧ Hid (wr.heap[w.heap.size]? = some (.cells (arrL xs k).toArray 115 (0, 0))) ∧ Hid (Below w.heap.size w wr)) (fun i _ => xs.length - (intOf i).toNat)
  case atStart => exact ⟨0, Nat.zero_le _, rfl, hide (by rw [arrL_zero]; exact heap_alloc_new w _), hide (Joins.below_alloc1 _ _)⟩
  case round =>
    obtain ⟨k, hk, rfl, HO, HB⟩ := hrel
    by_cases hlt : k < xs.length
    · obtain ⟨b, off, rfl, hc⟩ := (unhide HC).below (unhide HB) k hlt
      obtain ⟨h0, h1⟩ := unhide HN k hlt
      have HBA := hide (fr (unhide HB) (Joins.below_alloc1 _ (.cells #[.int .u8 (xs[k] % 256), .int .u8 (xs[k] / 256 % 256), .int .u8 (xs[k] / 65536 % 256), .int .u8 (xs[k] / 16777216)] 102)))
      have HOA := hide (block_alloc (unhide HO) (.cells #[.int .u8 (xs[k] % 256), .int .u8 (xs[k] / 256 % 256), .int .u8 (xs[k] / 65536 % 256), .int .u8 (xs[k] / 16777216)] 102))
      have HL := hide (arrL_length hl hk)
      have HNW := hide (World.news_of_block (cs := #[.int .u8 (xs[k] % 256), .int .u8 (xs[k] / 256 % 256), .int .u8 (xs[k] / 65536 % 256), .int .u8 (xs[k] / 16777216)]) (heap_alloc_new wr (.cells #[.int .u8 (xs[k] % 256), .int .u8 (xs[k] / 256 % 256), .int .u8 (xs[k] / 65536 % 256), .int .u8 (xs[k] / 16777216)] 102)))
      have HE := hide (four_lit h0 h1)
      have HSP := hide (arrL_splice hl hlt)
      have hsl := fun W => slice64 W w.heap.size k (by omega)
      go_wp2
      go_region_law (refine step_copy_splice ?_ (.tmp 28) (.tmp 29) 22 22 ?_ 5 Tryd.underlying22 sizeB (some ⟨w.heap.size, k * 4, none⟩) (some ⟨wr.heap.size, 0, none⟩) (64 - k * 4) (64 - k * 4) 4 4 ?_ ?_ w.heap.size (k * 4) (arrL xs k) 115 ?_ [.int .u8 (xs[k] % 256), .int .u8 (xs[k] / 256 % 256), .int .u8 (xs[k] / 65536 % 256), .int .u8 (xs[k] / 16777216)] ?_ ?_ ?_ (lit_one _ _ _ _) w.heap.size w ?_ (Nat.le_refl _) ?_
                     · rfl
                     · rfl
                     · rfl
                     · rfl
                     · exact unhide HOA
                     · simp only [List.length_cons, List.length_nil]; exact (Nat.min_eq_left (by omega)).symm
                     · exact fun _ => ⟨rfl, _, rfl, unhide HNW⟩
                     · rw [unhide HL]; simp only [List.length_cons, List.length_nil]; omega
                     · exact (unhide HBA).drew
                     intro w4 hg4 hb4)
      all_goals
        have HSF : Hid (w4.heap[w.heap.size]? = some (.cells (arrL xs (k + 1)).toArray 115 (0, 0))) := by rw [← unhide HSP, ← unhide HE]; exact hg4
        have HBF := hide hb4
        clear hg4 hb4 hsl
        go_wp2
        go_roundw
        case rel => exact ⟨k + 1, by omega, by go_num, HSF, HBF⟩
        case measure => simp [intOf]; omega
    · have hkn : k = xs.length := by omega
      subst hkn
      have hsl := slice64h wr w.heap.size xs.length hl
      have hcv := run_convert_bytes_arg (P := Tryd.prog) wr 22 5 Tryd.underlying22 Tryd.underlying5 w.heap.size 0 (xs.length * 4) 64 (packL xs) (packL_length xs) (arrL_cells (unhide HO)) 9 Tryd.underlying9
      go_wp2
      go_ret
      exact ⟨rfl, unhide HB⟩

end Go.Proofs.YtlhinknmbgijeabDoor

/- Contract of impl.areNumbers. -/
namespace Go.Proofs.YtlhinknmbgijeabDoor
open Go.RowKit
set_option linter.unusedVariables false
set_option maxRecDepth 100000

theorem nums_no {xs : List Int} {k : Nat} (hk : k < xs.length) (h : numB xs[k] = false) : xs.all numB = false := all_not (p := numB) hk h
theorem nums_all {xs : List Int} (h : ∀ j (hj : j < xs.length), numB xs[j] = true) : xs.all numB = true := all_of (p := numB) (fun i hi _ => h i hi)

set_option maxHeartbeats 800000 in
theorem areNumbers_any (ao : Option Addr) (cap : Nat) (xs : List Int) (w : World) (hl : xs.length ≤ maxLen) (hc : Is w ao xs) :
    Calls Tryd.prog 94 #[.slice ao xs.length cap] w fun e w' => e = .returned (.bool (xs.all numB)) ∧ w' = w := by
  have HC := hide hc
  clear hc
  unfold maxLen at hl
  obtain ⟨R, HR⟩ : ∃ R, Hid (R = xs.all numB) := ⟨_, hide rfl⟩
  rw [← unhide HR]
  go_enter Tryd.func94, Tryd.ntmps94
  go_wp2
  go_loop [7] (fun i => ∃ k : Nat, k ≤ xs.length ∧ i = .int .i64 k ∧ Hid (∀ j (h : j < xs.length), j < k → numB xs[j] = true)) (fun i => xs.length - (intOf i).toNat)
  case atStart => exact ⟨0, Nat.zero_le _, rfl, hide (fun j _ h => by omega)⟩
  case round =>
    obtain ⟨k, hk, rfl, HA⟩ := hrel
    by_cases hlt : k < xs.length
    · obtain ⟨b, off, rfl, hc⟩ := unhide HC k hlt
      cases hn : numB xs[k]
      · have HF := hide (nums_no hlt hn)
        go_wp2_with (go_at_call 54; refine (isNumber_any _ _).mono ?_; rintro e w' ⟨rfl, hw⟩; replace hw := hw.symm; subst hw; rw [hn])
        go_ret
        exact ⟨ret_bool (by rw [unhide HR, unhide HF]), rfl⟩
      · have HN := hide (all_succ hlt (unhide HA) hn)
        go_wp2_with (go_at_call 54; refine (isNumber_any _ _).mono ?_; rintro e w' ⟨rfl, hw⟩; replace hw := hw.symm; subst hw; rw [hn])
        go_round
        case rel => exact ⟨k + 1, by omega, by go_num, HN⟩
        case measure => simp [intOf]; omega
    · have HF := hide (nums_all (fun j h => unhide HA j h (by omega)))
      go_wp2
      go_ret
      exact ⟨ret_bool (by rw [unhide HR, unhide HF]), rfl⟩

end Go.Proofs.YtlhinknmbgijeabDoor

/- Contract of impl.listFault (of the code since 38f1bd19e5ed: it calls areNumbers). -/
namespace Go.Proofs.YtlhinknmbgijeabDoor
open Go.RowKit
set_option linter.unusedVariables false
set_option maxRecDepth 100000

theorem intsB_all_no {xs : List Int} (h : xs.all numB = false) : intsB xs = false := by rw [intsB, allB, h]; rfl
theorem intsB_all {xs : List Int} (hl : xs.length ≤ 16) (h : xs.all numB = true) : intsB xs = true := by rw [intsB, allB, h, decide_eq_true hl]; rfl

set_option maxHeartbeats 800000 in
theorem listFault_any (ao : Option Addr) (cap : Nat) (xs : List Int) (w : World) (hl : xs.length ≤ 1048576) (hc : Is w ao xs) :
    Calls Tryd.prog 72 #[.slice ao xs.length cap] w fun e w' => e = .returned (.int .i64 (listC xs)) ∧ w' = w := by
  have HC := hide hc
  clear hc
  by_cases h1 : 4096 < xs.length
  · have HF := hide (listC_long h1)
    go_enter Tryd.func72, Tryd.ntmps72
    go_wp2
    go_ret
    exact ⟨ret_int (unhide HF).symm, rfl⟩
  by_cases h2 : 16 < xs.length
  · have HF := hide (listC_bad h1 (intsB_long h2))
    go_enter Tryd.func72, Tryd.ntmps72
    go_wp2
    go_ret
    exact ⟨ret_int (unhide HF).symm, rfl⟩
  cases hn : xs.all numB
  · have HF := hide (listC_bad h1 (intsB_all_no hn))
    go_enter Tryd.func72, Tryd.ntmps72
    go_wp2_with (go_at_call 94; refine (areNumbers_any _ _ _ _ (by unfold maxLen; omega) (unhide HC)).mono ?_; rintro e w' ⟨rfl, hw⟩; replace hw := hw.symm; subst hw; rw [hn])
    go_ret
    exact ⟨ret_int (unhide HF).symm, rfl⟩
  · have HF := hide (listC_ok (xs := xs) h1 (intsB_all (by omega) hn))
    go_enter Tryd.func72, Tryd.ntmps72
    go_wp2_with (go_at_call 94; refine (areNumbers_any _ _ _ _ (by unfold maxLen; omega) (unhide HC)).mono ?_; rintro e w' ⟨rfl, hw⟩; replace hw := hw.symm; subst hw; rw [hn])
    go_ret
    exact ⟨ret_int (unhide HF).symm, rfl⟩

end Go.Proofs.YtlhinknmbgijeabDoor

/- What PackInts answers, plain. -/
namespace Go.Proofs.YtlhinknmbgijeabDoor
set_option linter.unusedVariables false

/-- The answer's text. -/
def packT (xs : List Int) : ByteArray := if listC xs = 0 then packS xs else ⟨#[]⟩
theorem packT_ok {xs : List Int} (h : listC xs = 0) : packT xs = packS xs := if_pos h
theorem packT_no {xs : List Int} (h : listC xs ≠ 0) : packT xs = ⟨#[]⟩ := if_neg h
theorem ret_si {a b : ByteArray} {c d : Int} (h : a = b) (k : c = d) : Ending.returned (.tuple #[.string a, .int .i64 c]) = .returned (.tuple #[.string b, .int .i64 d]) := by rw [h, k]

end Go.Proofs.YtlhinknmbgijeabDoor

/- Contract of impl.kindOK. -/
namespace Go.Proofs.YtlhinknmbgijeabDoor
open Go.RowKit
set_option linter.unusedVariables false
set_option maxRecDepth 100000

theorem kindOK_any (n : Int) (w : World) : Calls Tryd.prog 73 #[.int .i64 n] w fun e w' => e = .returned (.bool (kindB n)) ∧ w' = w := by
  go_enter Tryd.func73, Tryd.ntmps73
  go_wp2
  all_goals
    go_ret
    exact ⟨ret_bool (by rw [Bool.eq_iff_iff]; simp [kindB, inB]; omega), rfl⟩

end Go.Proofs.YtlhinknmbgijeabDoor

/- Contracts of SealRecord, of the program and of its model. -/
namespace Go.Proofs.YtlhinknmbgijeabDoor
open Go.RowKit
set_option linter.unusedVariables false
set_option maxRecDepth 100000

/-- 'string(head[:2])', 'string(head[:])', head an array of four bytes. -/
theorem arr2 (W : World) (g : Nat) (a b c d : Int) (h : W.heap.size = g) : (convert 22 9 (.slice (some ⟨g, 0, none⟩) 2 4)).run Tryd.prog (W.alloc (.cells #[.int .u8 a, .int .u8 b, .int .u8 c, .int .u8 d] 102)) = .ok (.string (strOfNums [a, b])) (W.alloc (.cells #[.int .u8 a, .int .u8 b, .int .u8 c, .int .u8 d] 102)) := by
  subst h
  refine run_convert_bytes_arg _ 22 5 Tryd.underlying22 Tryd.underlying5 W.heap.size 0 2 4 [a, b] rfl ?_ 9 Tryd.underlying9
  intro i hi
  rcases (show i = 0 ∨ i = 1 by omega) with rfl | rfl <;> simp [go_sem, List.getD]
theorem arr4 (W : World) (g : Nat) (a b c d : Int) (h : W.heap.size = g) : (convert 22 9 (.slice (some ⟨g, 0, none⟩) 4 4)).run Tryd.prog (W.alloc (.cells #[.int .u8 a, .int .u8 b, .int .u8 c, .int .u8 d] 102)) = .ok (.string (strOfNums [a, b, c, d])) (W.alloc (.cells #[.int .u8 a, .int .u8 b, .int .u8 c, .int .u8 d] 102)) := by
  subst h
  refine run_convert_bytes_arg _ 22 5 Tryd.underlying22 Tryd.underlying5 W.heap.size 0 4 4 [a, b, c, d] rfl ?_ 9 Tryd.underlying9
  intro i hi
  rcases (show i = 0 ∨ i = 1 ∨ i = 2 ∨ i = 3 by omega) with rfl | rfl | rfl | rfl <;> simp [go_sem, List.getD]
theorem sum_impl (k : Int) (xs : List Int) (w : World) (hl : xs.length ≤ 16) : Calls Tryd.prog 75 #[.string (strOfNums [k, (xs.length : Int)] ++ packS xs)] w fun e w' => e = .returned (.int .i64 (sumR k xs)) ∧ w' = w := by
  have h := sumOf_impl (sumT k xs) w (by rw [sumT_size]; omega)
  rw [sumC_short (by rw [sumT_size]; omega)] at h
  exact h

set_option maxHeartbeats 1600000 in
theorem sealRecord_impl (k : Int) (ao : Option Addr) (cap : Nat) (xs : List Int) (w : World) (hl : xs.length ≤ 1048576) (hc : Is w ao xs) :
    Calls Tryd.prog 38 #[.int .i64 k, .slice ao xs.length cap] w fun e w' => e = .returned (.tuple #[.string (sealT k xs), .int .i64 (sealC k xs)]) ∧ Below w.heap.size w w' := by
  have HC := hide hc
  clear hc
  by_cases h2 : listC xs = 0
  · have HL := hide h2
    have hb : (listC xs != 0) = false := by simp [h2]
    have HP := hide (intsB_parts (listC_zero h2))
    clear h2
    by_cases h3 : kindB k = true
    · have HF := hide (sealC_ok (unhide HL) h3)
      obtain ⟨hk0, hk1⟩ := kindB_in h3
      have hl16 := (unhide HP).2
      have hp := packS_size xs
      have hs2 : (strOfNums [k, (xs.length : Int)]).size = 2 := strOfNums_size _
      have hs4 : (strOfNums [k, (xs.length : Int), sumR k xs, 0]).size = 4 := strOfNums_size _
      obtain ⟨hr0, hr1⟩ := sumR_in k xs
      go_enter Tryd.func38, Tryd.ntmps38
      go_wp2_with (first | (go_at_call 72; refine (listFault_any _ _ xs _ hl (unhide HC)).mono ?_; rintro e w' ⟨rfl, rfl⟩) | (go_at_call 73; refine (kindOK_any _ _).mono ?_; rintro e w' ⟨rfl, rfl⟩) | (go_at_call 74; refine (packNumbers_any _ _ xs _ (unhide HP).2 (unhide HP).1 (unhide HC)).mono ?_; rintro e w1 ⟨rfl, hb1⟩; have HB1 := hide hb1; clear hb1; have hc2 := arr2 w1 w1.heap.size k xs.length 0 0 rfl) | (go_at_call 75; refine (sum_impl k xs _ hl16).mono ?_; rintro e w' ⟨rfl, rfl⟩; have hc4 := arr4 w1 w1.heap.size k xs.length (sumR k xs) 0 rfl))
      go_ret2
      exact ⟨ret_si (sealT_ok (unhide HF)).symm (unhide HF).symm, fr (unhide HB1) (Joins.below_alloc1 _ _)⟩
    · have h4 : kindB k = false := by simpa using h3
      have HF := hide (sealC_kind (unhide HL) h4)
      clear h3
      go_enter Tryd.func38, Tryd.ntmps38
      go_wp2_with (first | (go_at_call 72; refine (listFault_any _ _ xs _ hl (unhide HC)).mono ?_; rintro e w' ⟨rfl, rfl⟩) | (go_at_call 73; refine (kindOK_any _ _).mono ?_; rintro e w' ⟨rfl, rfl⟩))
      go_ret2
      exact ⟨ret_si (sealT_no (by rw [unhide HF]; decide)).symm (unhide HF).symm, Below.refl _ _⟩
  · have HF := hide (sealC_list (k := k) h2)
    have HNE := hide h2
    have hb : (listC xs != 0) = true := by simp [h2]
    clear h2
    go_enter Tryd.func38, Tryd.ntmps38
    go_wp2_with (go_at_call 72; refine (listFault_any _ _ xs _ hl (unhide HC)).mono ?_; rintro e w' ⟨rfl, rfl⟩)
    go_ret2
    exact ⟨ret_si (sealT_no (by rw [unhide HF]; exact unhide HNE)).symm (unhide HF).symm, Below.refl _ _⟩

end Go.Proofs.YtlhinknmbgijeabDoor

/- Contracts of the program's generations, the plain ones: genOK, DeltaOK, numbers, EncodeDelta. -/
namespace Go.Proofs.YtlhinknmbgijeabDoor
open Go.RowKit
set_option linter.unusedVariables false
set_option maxRecDepth 100000

theorem genOK_any (n : Int) (w : World) : Calls Tryd.prog 44 #[.int .i64 n] w fun e w' => e = .returned (.bool (inB n 1 1000000)) ∧ w' = w := by
  go_enter Tryd.func44, Tryd.ntmps44
  go_wp2_with fail
  refine (within_any n 1 1000000 _).mono ?_
  rintro e w1 ⟨rfl, rfl⟩
  go_wp2
  go_ret
  exact ⟨rfl, rfl⟩
theorem hourD_any (n : Int) (w : World) : Calls Tryd.prog 45 #[.int .i64 n] w fun e w' => e = .returned (.bool (inB n 0 10000000)) ∧ w' = w := by
  go_enter Tryd.func45, Tryd.ntmps45
  go_wp2_with fail
  refine (within_any n 0 10000000 _).mono ?_
  rintro e w1 ⟨rfl, rfl⟩
  go_wp2
  go_ret
  exact ⟨rfl, rfl⟩

set_option maxHeartbeats 1600000 in
theorem deltaOK_impl (h g s : Int) (w : World) : Calls Tryd.prog 14 #[dltV h g s] w fun e w' => e = .returned (.bool (dltB h g s)) ∧ Below w.heap.size w w' := by
  go_enter Tryd.func14, Tryd.ntmps14
  go_wp2_with fail
  refine (hostOK_any h _).mono ?_
  rintro e w1 ⟨rfl, rfl⟩
  by_cases h1 : inB h 0 3 = false
  · have hr := hide (dltB_1 (g := g) (s := s) h1)
    go_wp2
    go_ret
    rw [unhide hr]
    exact ⟨rfl, Joins.below_alloc1 _ _⟩
  rw [Bool.not_eq_false] at h1
  go_wp2_with fail
  refine (genOK_any g _).mono ?_
  rintro e w1 ⟨rfl, rfl⟩
  by_cases h2 : inB g 1 1000000 = false
  · have hr := hide (dltB_2 (h := h) (s := s) h2)
    go_wp2
    go_ret
    rw [unhide hr]
    exact ⟨rfl, Joins.below_alloc1 _ _⟩
  rw [Bool.not_eq_false] at h2
  have hr := hide (dltB_3 (s := s) h1 h2)
  go_wp2_with fail
  refine (hourD_any s _).mono ?_
  rintro e w1 ⟨rfl, rfl⟩
  go_wp2
  go_ret
  rw [unhide hr]
  exact ⟨rfl, Joins.below_alloc1 _ _⟩

theorem is3i (w : World) (n : Nat) (t : TypeId) (a b c : Int) (hn : w.heap.size = n) : Is (w.alloc (.cells #[.int .i64 a, .int .i64 b, .int .i64 c] t)) (some ⟨n, 0, none⟩) [a, b, c] := by
  subst hn
  intro i hi
  have hi' : i < 3 := hi
  refine ⟨w.heap.size, 0, rfl, ?_⟩
  rcases (show i = 0 ∨ i = 1 ∨ i = 2 by omega) with rfl | rfl | rfl <;> simp [go_sem]

set_option maxHeartbeats 1600000 in
theorem numbersD (h g s : Int) (w : World) : Calls Tryd.prog 39 #[dltV h g s] w fun e w' => ∃ ao, e = .returned (.slice ao 3 3) ∧ Is w' ao [h, g, s] ∧ Below w.heap.size w w' := by
  go_enter Tryd.func39, Tryd.ntmps39
  go_wp2
  go_ret
  exact ⟨_, rfl, is3i _ _ _ _ _ _ (by simp), Joins.below_alloc2 _ _ _⟩

theorem d3_ints {h g s : Int} (hd : dltB h g s = true) : intsB [h, g, s] = true := by
  obtain ⟨h1, h2, h3⟩ := dltB_iff.1 hd
  rw [intsB_len]
  · rfl
  · intro j hj
    have hj' : j < 3 := hj
    rcases (show j = 0 ∨ j = 1 ∨ j = 2 by omega) with rfl | rfl | rfl <;> simp [numB, inB] <;> omega
theorem d3_seal {h g s : Int} (hd : dltB h g s = true) : sealC 9 [h, g, s] = 0 ∧ sealT 9 [h, g, s] = encD h g s := by
  have hc : sealC 9 [h, g, s] = 0 := sealC_ok (listC_ok (by simp) (d3_ints hd)) rfl
  exact ⟨hc, sealT_ok hc⟩

set_option maxHeartbeats 1600000 in
theorem encodeDelta_impl (h g s : Int) (w : World) : Calls Tryd.prog 11 #[dltV h g s] w fun e w' => e = .returned (.tuple #[.string (encR h g s), .int .i64 (encC h g s)]) ∧ Below w.heap.size w w' := by
  have HA := hide (Joins.below_alloc1 w (.cells #[.int .i64 h, .int .i64 g, .int .i64 s] 30))
  have HV := hide (VarT.new w 30 h g s)
  go_enter Tryd.func11, Tryd.ntmps11
  go_wp2_with fail
  refine (deltaOK_impl h g s _).mono ?_
  rintro e w1 ⟨rfl, hb⟩
  have HB := hide (fr (unhide HA) hb)
  obtain ⟨hc0, hc1, hc2⟩ := ((unhide HV).below hb).cells
  clear hb
  by_cases hd : dltB h g s = true
  · have HE : Hid (encR h g s = encD h g s ∧ encC h g s = 0) := hide ⟨if_pos hd, if_pos hd⟩
    have HD := hide (d3_seal hd)
    go_wp2_with fail
    refine (numbersD h g s _).mono ?_
    rintro e w2 ⟨ao, rfl, hi, hb⟩
    have HB2 := hide (fr (unhide HB) hb)
    have HI := hide hi
    clear hb hi hc0 hc1 hc2
    go_wp2_with fail
    refine (sealRecord_impl 9 ao 3 [h, g, s] _ (by simp) (unhide HI)).mono ?_
    rintro e w3 ⟨rfl, hb⟩
    have HB3 := hide (fr (unhide HB2) hb)
    clear hb
    rw [(unhide HD).1, (unhide HD).2]
    go_wp2
    go_ret2
    exact ⟨ret_sd (unhide HE).1.symm (unhide HE).2.symm, unhide HB3⟩
  · have HE : Hid (encR h g s = ⟨#[]⟩ ∧ encC h g s = 1) := hide ⟨if_neg hd, if_neg hd⟩
    rw [Bool.not_eq_true] at hd
    go_wp2
    go_ret2
    exact ⟨ret_sd (unhide HE).1.symm (unhide HE).2.symm, unhide HB⟩

end Go.Proofs.YtlhinknmbgijeabDoor
