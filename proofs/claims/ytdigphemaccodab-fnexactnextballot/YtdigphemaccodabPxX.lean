/- Plain: lists of blocks that are right; what a step and the next ballot answer. -/
import Derived.Test.YtdigphemaccodabPxP
import Derived.Test.YtdigphemaccodabPxQ
namespace Go.Proofs.Ytdigphemaccodab
set_option linter.unusedVariables false
def bksB (xs : List Bk) : Bool := decide (xs.length = 4) && xs.all bkB
theorem bksB_true {xs : List Bk} (h : xs.length = 4) (ha : ∀ j (h : j < xs.length), bkB xs[j] = true) : bksB xs = true := by
  unfold bksB
  rw [all_of (p := bkB) (fun i hi _ => ha i hi)]
  simp [h]
theorem bksB_len {xs : List Bk} (ha : ∀ j (h : j < xs.length), bkB xs[j] = true) : bksB xs = decide (xs.length = 4) := by
  unfold bksB
  rw [all_of (p := bkB) (fun i hi _ => ha i hi)]
  simp
theorem bksB_false_len {xs : List Bk} (h : ¬ xs.length = 4) : bksB xs = false := by simp [bksB, h]
theorem bksB_false_at {xs : List Bk} {k : Nat} (hk : k < xs.length) (h : bkB xs[k] = false) : bksB xs = false := by
  unfold bksB
  rw [all_not (p := bkB) hk h]
  simp
theorem bksB_parts {xs : List Bk} (h : bksB xs = true) : xs.length = 4 ∧ ∀ i, i < xs.length → bkB (xs.getD i bk0) = true := by
  unfold bksB at h
  simp only [Bool.and_eq_true, decide_eq_true_eq, List.all_eq_true] at h
  refine ⟨h.1, fun i hi => ?_⟩
  have : xs.getD i bk0 = xs[i] := by simp [hi]
  rw [this]
  exact h.2 _ (List.getElem_mem hi)
/-- The fault of blocks. -/
def bfC (xs : List Bk) : Int := if 4096 < xs.length then 2 else if bksB xs = true then 0 else 1
theorem bfC_long {xs : List Bk} (h : 4096 < xs.length) : bfC xs = 2 := if_pos h
theorem bfC_ok {xs : List Bk} (h : ¬ 4096 < xs.length) (hb : bksB xs = true) : bfC xs = 0 := by rw [bfC, if_neg h, if_pos hb]
theorem bfC_bad {xs : List Bk} (h : ¬ 4096 < xs.length) (hb : bksB xs = false) : bfC xs = 1 := by rw [bfC, if_neg h, if_neg (by simp [hb])]
/-- What PxStep answers. -/
def stOK (p : Pxs) (xs : List Bk) : Bool := decide (¬ 4096 < xs.length) && (pxB p && bksB xs)
def stEnd (p : Pxs) : Int := if p.phase = 5 ∨ p.phase = 6 then 15 else 0
def stC (p : Pxs) (xs : List Bk) : Int := if 4096 < xs.length then 2 else if (pxB p && bksB xs) = true then stEnd p else 1
def stP (p : Pxs) (xs : List Bk) : Pxs := if stOK p xs = true then (pxStepP p xs).1 else p00
def stL (p : Pxs) (xs : List Bk) : List Bk := if stOK p xs = true then (pxStepP p xs).2 else []
theorem st_long {p : Pxs} {xs : List Bk} (h : 4096 < xs.length) : stP p xs = p00 ∧ stL p xs = [] ∧ stC p xs = 2 := by
  have e : stOK p xs = false := by simp [stOK]; intro h'; omega
  exact ⟨if_neg (by simp [e]), if_neg (by simp [e]), if_pos h⟩
theorem st_bad {p : Pxs} {xs : List Bk} (h : ¬ 4096 < xs.length) (hb : (pxB p && bksB xs) = false) : stP p xs = p00 ∧ stL p xs = [] ∧ stC p xs = 1 := by
  have e : stOK p xs = false := by rw [stOK, hb]; simp
  exact ⟨if_neg (by simp [e]), if_neg (by simp [e]), by rw [stC, if_neg h, if_neg (by simp [hb])]⟩
theorem st_ok {p : Pxs} {xs : List Bk} (h : ¬ 4096 < xs.length) (h1 : pxB p = true) (h2 : bksB xs = true) : stP p xs = (pxStepP p xs).1 ∧ stL p xs = (pxStepP p xs).2 ∧ stC p xs = stEnd p := by
  have e : stOK p xs = true := by simp [stOK, h1, h2]; omega
  exact ⟨if_pos e, if_pos e, by rw [stC, if_neg h, if_pos (by rw [h1, h2]; rfl)]⟩
/-- What NextBallot answers. -/
def nbC (h v : Int) (xs : List Bk) : Int := if bfC xs ≠ 0 then bfC xs else if (inB h 0 3 && inB v 0 1000000) = true then (if 1000000 < nxBal h v xs then 6 else 0) else 4
def nbN (h v : Int) (xs : List Bk) : Int := if nbC h v xs = 0 then nxBal h v xs else 0
theorem nb_fault {h v : Int} {xs : List Bk} (e : bfC xs ≠ 0) : nbN h v xs = 0 ∧ nbC h v xs = bfC xs := by
  have hc : nbC h v xs = bfC xs := if_pos e
  exact ⟨by rw [nbN, if_neg (by rw [hc]; exact e)], hc⟩
theorem nb_range {h v : Int} {xs : List Bk} (e : bfC xs = 0) (hr : (inB h 0 3 && inB v 0 1000000) = false) : nbN h v xs = 0 ∧ nbC h v xs = 4 := by
  have hc : nbC h v xs = 4 := by rw [nbC, if_neg (by simp [e]), if_neg (by simp [hr])]
  exact ⟨by rw [nbN, if_neg (by rw [hc]; decide)], hc⟩
theorem nb_many {h v : Int} {xs : List Bk} (e : bfC xs = 0) (h1 : inB h 0 3 = true) (h2 : inB v 0 1000000 = true) (hm : 1000000 < nxBal h v xs) : nbN h v xs = 0 ∧ nbC h v xs = 6 := by
  have hc : nbC h v xs = 6 := by rw [nbC, if_neg (by simp [e]), if_pos (by rw [h1, h2]; rfl), if_pos hm]
  exact ⟨by rw [nbN, if_neg (by rw [hc]; decide)], hc⟩
theorem nb_ok {h v : Int} {xs : List Bk} (e : bfC xs = 0) (h1 : inB h 0 3 = true) (h2 : inB v 0 1000000 = true) (hm : ¬ 1000000 < nxBal h v xs) : nbN h v xs = nxBal h v xs ∧ nbC h v xs = 0 := by
  have hc : nbC h v xs = 0 := by rw [nbC, if_neg (by simp [e]), if_pos (by rw [h1, h2]; rfl), if_neg hm]
  exact ⟨if_pos hc, hc⟩
theorem bfC_zero {xs : List Bk} (h : bfC xs = 0) : bksB xs = true := by
  unfold bfC at h
  split at h
  · cases h
  · split at h
    · assumption
    · cases h
theorem bkOf_mbal (b : Bk) (v : Int) : (bkOf b v).mbal = 0 ∨ (bkOf b v).mbal = b.mbal := by
  unfold bkOf; split
  · exact .inl rfl
  · exact .inr rfl
/-- The greatest one, place by place. -/
theorem nxMax_drop {v : Int} {xs : List Bk} {k : Nat} (hk : k < xs.length) (n : Int) : nxMax v (xs.drop k) n = nxMax v (xs.drop (k + 1)) (max n (bkOf xs[k] v).mbal) := by
  rw [List.drop_eq_getElem_cons hk]; rfl
theorem nxMax_done {v : Int} {xs : List Bk} {k : Nat} (hk : ¬ k < xs.length) (n : Int) : nxMax v (xs.drop k) n = n := by
  rw [List.drop_of_length_le (by omega)]; rfl
theorem nx_form (n h : Int) (hn : 0 ≤ n) : (Int.tdiv n 4 + 1) * 4 + h = (n / 4 + 1) * 4 + h := by rw [Int.tdiv_eq_ediv_of_nonneg hn]
end Go.Proofs.Ytdigphemaccodab
