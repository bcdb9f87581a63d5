/- Plain: what landing and losing leave of a disk, written out. -/
import Derived.Test.YtoiclgeeaednnaaGen
import Derived.Test.YtoiclgeeaednnaaPendI
import Derived.Test.YtoiclgeeaednnaaLand
import Derived.Test.YtoiclgeeaednnaaLandS
import Derived.Test.YtoiclgeeaednnaaLandInv
import Derived.Test.YtoiclgeeaednnaaDrop
import Derived.Test.YtoiclgeeaednnaaLoseX
namespace Go.Proofs.Ytoiclgeeaednnaa
set_option linter.unusedVariables false

/-- A host's writes; sectors behind writes; what is left of writes without a host's first ones. -/
def ofH (h : Int) (xs : List Wr) : List Wr := xs.filter fun x => x.host == h
def putW (ss : List ByteArray) (fs : List Wr) : List ByteArray := fs.foldl (fun s x => s.set x.at_.toNat x.data) ss
def remH (h : Int) : Nat → List Wr → List Wr
  | _, [] => []
  | 0, x :: xs => x :: remH h 0 xs
  | n + 1, x :: xs => if x.host = h then remH h n xs else x :: remH h (n + 1) xs

theorem remH_zero (h : Int) : ∀ xs : List Wr, remH h 0 xs = xs
  | [] => rfl
  | x :: xs => by rw [remH, remH_zero h xs]
theorem ofH_cons_hit {h : Int} {x : Wr} (xs : List Wr) (hx : x.host = h) : ofH h (x :: xs) = x :: ofH h xs := by simp [ofH, hx]
theorem ofH_cons_miss {h : Int} {x : Wr} (xs : List Wr) (hx : ¬ x.host = h) : ofH h (x :: xs) = ofH h xs := by simp [ofH, hx]
theorem remH_hit {h : Int} {x : Wr} (n : Nat) (xs : List Wr) (hx : x.host = h) : remH h (n + 1) (x :: xs) = remH h n xs := by rw [remH, if_pos hx]
theorem remH_miss {h : Int} {x : Wr} (n : Nat) (xs : List Wr) (hx : ¬ x.host = h) : remH h n (x :: xs) = x :: remH h n xs := by
  cases n with
  | zero => rw [remH]
  | succ n => rw [remH, if_neg hx]

theorem fold_land (h : Int) : ∀ (xs : List Wr) (SS : List ByteArray) (LX : List Wr) (n : Nat),
    xs.foldl (stepF h false) (SS, LX, (n : Int)) = (putW SS ((ofH h xs).take n), LX ++ remH h n xs, ((n - (ofH h xs).length : Nat) : Int))
  | [], SS, LX, n => by simp [ofH, putW, remH]
  | x :: xs, SS, LX, n => by
    rw [List.foldl_cons]
    by_cases hx : x.host = h
    · cases n with
      | zero =>
        rw [step_keep hx SS LX (by simp), show ((0 : Nat) : Int) = ((0 : Nat) : Int) from rfl, fold_land h xs, remH_zero, remH_zero]
        simp [putW]
      | succ n =>
        rw [step_land hx SS LX (by omega), show ((n + 1 : Nat) : Int) - 1 = (n : Int) by omega, fold_land h xs, ofH_cons_hit xs hx, remH_hit n xs hx]
        rw [List.take_succ_cons, List.length_cons, show n + 1 - ((ofH h xs).length + 1) = n - (ofH h xs).length by omega]
        rfl
    · rw [step_other hx, fold_land h xs, ofH_cons_miss xs hx, remH_miss n xs hx]
      simp
theorem landF_put (h : Int) (ss : List ByteArray) (xs : List Wr) (n : Nat) : (landF h false ss xs (n : Int)).1 = putW ss ((ofH h xs).take n) ∧ (landF h false ss xs (n : Int)).2.1 = remH h n xs := by
  unfold landF
  rw [fold_land]
  exact ⟨rfl, by simp⟩

theorem cntW_of (xs : List Wr) (h : Int) : cntW xs h = (ofH h xs).length := rfl
theorem drop_rem (h : Int) : ∀ (n : Nat) (xs : List Wr), dropF h (remH h n xs) = dropF h xs
  | _, [] => by cases ‹Nat› <;> rfl
  | 0, x :: xs => by rw [remH_zero]
  | n + 1, x :: xs => by
    by_cases hx : x.host = h
    · rw [remH_hit n xs hx, drop_rem h n xs]; simp [dropF, hx]
    · rw [remH_miss _ xs hx]
      have := drop_rem h (n + 1) xs
      simp only [dropF, List.filter_cons] at this ⊢
      simp [hx, this]
theorem of_rem (h : Int) : ∀ (n : Nat) (xs : List Wr), ofH h (remH h n xs) = (ofH h xs).drop n
  | _, [] => by cases ‹Nat› <;> simp [remH, ofH]
  | 0, x :: xs => by rw [remH_zero]; rfl
  | n + 1, x :: xs => by
    by_cases hx : x.host = h
    · rw [remH_hit n xs hx, of_rem h n xs, ofH_cons_hit xs hx]; rfl
    · rw [remH_miss _ xs hx, ofH_cons_miss _ hx, ofH_cons_miss _ hx, of_rem h (n + 1) xs]
theorem rem_rem (h : Int) : ∀ (n : Nat) (xs : List Wr), remH h 1 (remH h n xs) = remH h (n + 1) xs
  | _, [] => by cases ‹Nat› <;> rfl
  | 0, x :: xs => by rw [remH_zero]
  | n + 1, x :: xs => by
    by_cases hx : x.host = h
    · rw [remH_hit n xs hx, rem_rem h n xs, remH_hit (n + 1) xs hx]
    · rw [remH_miss _ xs hx, remH_miss _ _ hx, rem_rem h (n + 1) xs, remH_miss _ xs hx]
theorem rem_none {h : Int} : ∀ (n : Nat) {xs : List Wr}, ofH h xs = [] → remH h n xs = xs
  | _, [], _ => by cases ‹Nat› <;> rfl
  | n, x :: xs, e => by
    have hx : ¬ x.host = h := fun hx => by rw [ofH_cons_hit xs hx] at e; cases e
    rw [ofH_cons_miss xs hx] at e
    rw [remH_miss n xs hx, rem_none n e]
theorem rem_all {h : Int} : ∀ (n : Nat) (xs : List Wr), (ofH h xs).length ≤ n → remH h n xs = dropF h xs
  | _, [], _ => by cases ‹Nat› <;> rfl
  | n, x :: xs, e => by
    by_cases hx : x.host = h
    · rw [ofH_cons_hit xs hx] at e
      cases n with
      | zero => simp at e
      | succ n =>
        rw [remH_hit n xs hx, rem_all n xs (by simpa using e)]; simp [dropF, hx]
    · rw [ofH_cons_miss xs hx] at e
      rw [remH_miss n xs hx, rem_all n xs e]; simp [dropF, hx]
theorem of_drop (h : Int) (xs : List Wr) : ofH h (dropF h xs) = [] := by
  simp [ofH, dropF, List.filter_filter]
theorem drop_len (h : Int) : ∀ xs : List Wr, (dropF h xs).length + (ofH h xs).length = xs.length
  | [] => rfl
  | x :: xs => by
    have := drop_len h xs
    by_cases hx : x.host = h
    · rw [ofH_cons_hit xs hx]; simp only [dropF, List.filter_cons] at this ⊢; simp [hx]; omega
    · rw [ofH_cons_miss xs hx]; simp only [dropF, List.filter_cons] at this ⊢; simp [hx]; omega

/-- Losing a host: the first writes are sure, the others gone. -/
theorem landF_gone (h : Int) (ss : List ByteArray) (xs : List Wr) (n : Nat) : (landF h true ss xs (n : Int)).1 = putW ss ((ofH h xs).take n) ∧ (landF h true ss xs (n : Int)).2.1 = dropF h xs := by
  obtain ⟨e1, e2⟩ := landF_lost h (n : Int) ss xs
  obtain ⟨p1, p2⟩ := landF_put h ss xs n
  rw [e1, e2, p1, p2, drop_rem]
  exact ⟨rfl, rfl⟩
theorem put_snoc (ss : List ByteArray) (fs : List Wr) (x : Wr) : putW ss (fs ++ [x]) = (putW ss fs).set x.at_.toNat x.data := by simp [putW]
theorem put_len (ss : List ByteArray) : ∀ fs : List Wr, (putW ss fs).length = ss.length := fun fs => by
  induction fs generalizing ss with
  | nil => rfl
  | cons x fs ih => simp only [putW, List.foldl_cons] at ih ⊢; rw [ih]; simp
theorem put_more (ss : List ByteArray) (fs : List Wr) (n : Nat) : putW (putW ss (fs.take n)) ((fs.drop n).take 1) = putW ss (fs.take (n + 1)) := by
  rw [List.take_add]
  simp [putW]

theorem diskB_parts {ss : List ByteArray} {xs : List Wr} : diskB ss xs = true ↔ (ss.length = 64 ∧ ∀ s ∈ ss, s.size ≤ 80) ∧ xs.length ≤ 200 ∧ ∀ x ∈ xs, ioB x = true := by
  simp only [diskB, secB, penB, Bool.and_eq_true, decide_eq_true_eq, List.all_eq_true]
theorem ioB_parts {x : Wr} : ioB x = true ↔ (0 ≤ x.host ∧ x.host ≤ 3) ∧ (0 ≤ x.at_ ∧ x.at_ ≤ 63) ∧ x.data.size ≤ 80 := by
  simp only [ioB, Bool.and_eq_true, decide_eq_true_eq]
  omega
theorem put_mem {P : ByteArray → Prop} : ∀ (fs : List Wr) (ss : List ByteArray), (∀ s ∈ ss, P s) → (∀ x ∈ fs, P x.data) → ∀ s ∈ putW ss fs, P s
  | [], ss, h1, _ => h1
  | x :: fs, ss, h1, h2 => by
    have := put_mem fs (ss.set x.at_.toNat x.data) (fun s hs => by
      rcases List.mem_or_eq_of_mem_set hs with h | h
      · exact h1 s h
      · rw [h]; exact h2 x (List.mem_cons_self ..)) (fun y hy => h2 y (List.mem_cons_of_mem _ hy))
    simpa [putW] using this
theorem of_mem {h : Int} {xs : List Wr} {x : Wr} (hx : x ∈ ofH h xs) : x ∈ xs := (List.mem_filter.1 hx).1
theorem drop_mem {h : Int} {xs : List Wr} {x : Wr} (hx : x ∈ dropF h xs) : x ∈ xs := (List.mem_filter.1 hx).1
theorem rem_mem {h : Int} : ∀ (n : Nat) {xs : List Wr} {x : Wr}, x ∈ remH h n xs → x ∈ xs
  | n, [], x, hx => by cases n <;> exact hx
  | 0, y :: ys, x, hx => by rwa [remH_zero] at hx
  | n + 1, y :: ys, x, hx => by
    by_cases hy : y.host = h
    · rw [remH_hit n ys hy] at hx; exact List.mem_cons_of_mem _ (rem_mem n hx)
    · rw [remH_miss _ ys hy] at hx
      rcases List.mem_cons.1 hx with rfl | hx
      · exact List.mem_cons_self ..
      · exact List.mem_cons_of_mem _ (rem_mem (n + 1) hx)
theorem rem_len {h : Int} (n : Nat) (xs : List Wr) : (remH h n xs).length ≤ xs.length := by
  induction xs generalizing n with
  | nil => cases n <;> exact Nat.le_refl _
  | cons x xs ih =>
    cases n with
    | zero => rw [remH_zero]; exact Nat.le_refl _
    | succ n =>
      by_cases hx : x.host = h
      · rw [remH_hit n xs hx]; have := ih n; simp; omega
      · rw [remH_miss _ xs hx]; have := ih (n + 1); simp; omega
/-- A right disk stays right where writes land, or are gone. -/
theorem diskB_put {ss : List ByteArray} {xs ys fs : List Wr} (hd : diskB ss xs = true) (hf : ∀ x ∈ fs, x ∈ xs) (hy : ∀ x ∈ ys, x ∈ xs) (hl : ys.length ≤ xs.length) : diskB (putW ss fs) ys = true := by
  obtain ⟨⟨a1, a2⟩, a3, a4⟩ := diskB_parts.1 hd
  refine diskB_parts.2 ⟨⟨by rw [put_len]; exact a1, put_mem fs ss a2 (fun x hx => (ioB_parts.1 (a4 x (hf x hx))).2.2)⟩, by omega, fun x hx => a4 x (hy x hx)⟩
theorem diskB_snoc {ss : List ByteArray} {xs : List Wr} {x : Wr} (hd : diskB ss xs = true) (hl : xs.length < 200) (hx : ioB x = true) : diskB ss (xs ++ [x]) = true := by
  obtain ⟨⟨a1, a2⟩, a3, a4⟩ := diskB_parts.1 hd
  refine diskB_parts.2 ⟨⟨a1, a2⟩, by simp; omega, fun y hy => ?_⟩
  rcases List.mem_append.1 hy with h | h
  · exact a4 y h
  · simp at h; subst h; exact hx
theorem drop_le (h : Int) (xs : List Wr) : (dropF h xs).length ≤ xs.length := by have := drop_len h xs; omega
theorem askC_right {ss : List ByteArray} {xs : List Wr} {h a : Int} (hd : diskB ss xs = true) (h0 : 0 ≤ h) (h1 : h ≤ 3) (a0 : 0 ≤ a) (a1 : a ≤ 63) : hostC ss xs h = 0 ∧ askC ss xs h a = 0 := by
  have e := hostC_ok (h := h) hd (by simp [inB]; omega)
  exact ⟨e, askC_ok e (by simp [inB]; omega)⟩

/-- What a host reads behind its own write, and what another one reads. -/
theorem read_own {ss : List ByteArray} {xs : List Wr} {h a : Int} {t : ByteArray} : readV ss (xs ++ [⟨h, a, t⟩]) h a = t := by
  have hk : xs.length < (xs ++ [(⟨h, a, t⟩ : Wr)]).length := by simp
  rw [readV_hit (k := xs.length) hk (by simp) (fun j hj hlt => by simp at hj; omega)]
  simp
theorem read_sure {ss : List ByteArray} {xs : List Wr} {h a : Int} (hn : ofH h xs = []) : readV ss xs h a = ss.getD a.toNat ⟨#[]⟩ := by
  refine readV_none fun j hj hm => ?_
  have : xs[j] ∈ ofH h xs := List.mem_filter.2 ⟨List.getElem_mem hj, by simp [hm.1]⟩
  rw [hn] at this
  cases this
theorem read_other {ss : List ByteArray} {xs : List Wr} {h o a b : Int} {t : ByteArray} (ho : o ≠ h) : readV ss (xs ++ [⟨h, a, t⟩]) o b = readV ss xs o b := by
  by_cases e : ∃ k, IsLast xs o b k
  · obtain ⟨k, ⟨hk, hm⟩, hn⟩ := e
    have hk' : k < (xs ++ [(⟨h, a, t⟩ : Wr)]).length := by simp; omega
    have hg : (xs ++ [(⟨h, a, t⟩ : Wr)])[k] = xs[k] := List.getElem_append_left hk
    rw [readV_hit hk hm hn, readV_hit hk' (by rw [hg]; exact hm) (fun j hj hlt => ?_), hg]
    by_cases hj' : j < xs.length
    · rw [List.getElem_append_left hj']; exact hn j hj' hlt
    · have : j = xs.length := by simp at hj; omega
      subst this
      simp only [mat]
      rw [List.getElem_append_right (Nat.le_refl _)]
      simp
      intro e2
      exact absurd e2.symm ho
  · have hn : ∀ j (hj : j < xs.length), ¬ mat xs[j] o b := by
      intro j hj hm
      -- the greatest such place
      have : ∀ d j, (hj : j < xs.length) → xs.length - j = d → mat xs[j] o b → ∃ k, IsLast xs o b k := by
        intro d
        induction d using Nat.strongRecOn with
        | ind d ih =>
          intro j hj hd hm
          by_cases more : ∃ i, ∃ hi : i < xs.length, j < i ∧ mat xs[i] o b
          · obtain ⟨i, hi, hlt, hmi⟩ := more
            exact ih (xs.length - i) (by omega) i hi rfl hmi
          · exact ⟨j, ⟨hj, hm⟩, fun i hi hlt hmi => more ⟨i, hi, hlt, hmi⟩⟩
      exact e (this _ j hj rfl hm)
    rw [readV_none hn, readV_none]
    intro j hj hm
    by_cases hj' : j < xs.length
    · rw [List.getElem_append_left hj'] at hm; exact hn j hj' hm
    · have : j = xs.length := by simp at hj; omega
      subst this
      simp only [mat] at hm
      rw [List.getElem_append_right (Nat.le_refl _)] at hm
      simp at hm
      exact ho hm.1.symm

end Go.Proofs.Ytoiclgeeaednnaa
