import Derived.Test.YtkndabnngdjcgaaDoorXReqTextPart1
import Derived.Test.YtkndabnngdjcgaaDoorXReqTextPart2
import Derived.WalkKit
import Derived.WalkSpells
import Derived.OrdersHeld
import Derived.Deep.RegionHeld3
import Derived.Deep.Quiet
import Derived.Test.YtkndabnngdjcgaaDoorXReqTextPart4
import Derived.KernelRfl

/- A region that draws its order, walked in ONE order of the prover's choice: an operation that reads under a condition on the world may be taken first; any other is taken where it stands alone. -/
namespace Go.Proofs.YtkndabnngdjcgaaDoor
open Go.RowKit
set_option linter.unusedVariables false

section
variable {P : Program} {Q : Exit → Act → World → Prop} {S S' : World → Prop} {C : Act → World → Prop} {l : List Oper} {hl : List Nat}

/-- Whatever order is picked from here on; behind the operations of 'hl' S holds. -/
def wpAnyR (P : Program) (l : List Oper) (Q : Exit → Act → World → Prop) (S : World → Prop) (hl : List Nat) : Nat → Array Bool → Act → World → Prop
  | 0, listed, a, w => Region.ready .any l.toArray listed = [] ∧ Q .normal a w
  | fuel + 1, listed, a, w =>
    (Region.ready .any l.toArray listed = [] → Q .normal a w) ∧
    ∀ i ∈ Region.ready .any l.toArray listed, wpOp P l.toArray Q i (fun a' w' => (i ∈ hl → S w') ∧ wpAnyR P l Q S hl fuel (listed.setIfInBounds i true) a' w') a w
theorem wpAny_of_R : ∀ (fuel : Nat) (listed : Array Bool) (a : Act) (w : World), wpAnyR P l Q S hl fuel listed a w → wpAny P .any l.toArray Q fuel listed a w
  | 0, _, _, _, h => h
  | fuel + 1, _, _, _, h => ⟨h.1, fun i hi => wpOp_mono (fun a' w' h' => wpAny_of_R fuel _ a' w' h'.2) (h.2 i hi)⟩

abbrev lsD (listed : Array Bool) : Nat → Bool := fun j => listed.getD j false
theorem closed_set {listed : Array Bool} {i : Nat} (hc : Closed l (lsD listed)) (hi : i ∈ Region.ready .any l.toArray listed) : Closed l (lsD (listed.setIfInBounds i true)) := by
  intro j o ho hd e he hb
  by_cases hji : j = i
  · subst hji
    obtain ⟨_, o', ho', hp⟩ := mem_ready.1 hi
    have h2 : l.toArray[j]? = l[j]? := by simp
    rw [h2, ho] at ho'
    cases ho'
    exact getD_set_true (hp e he hb)
  · have : lsD listed j = true := by
      have hd' : (listed.setIfInBounds i true).getD j false = true := hd
      rwa [getD_set_ne false (Ne.symm hji)] at hd'
    exact getD_set_true (hc j o ho this e he hb)
/-- The second has come up where the first has. -/
def Anc (l : List Oper) (j i : Nat) : Prop := ∀ d : Nat → Bool, Closed l d → d j = true → d i = true
theorem rg_unlisted {listed : Array Bool} {i : Nat} (h : listed.getD i true = false) : i < listed.size ∧ listed.getD i false = false := by
  rw [Array.getD_eq_getD_getElem?] at h ⊢
  by_cases hi : i < listed.size
  · rw [Array.getElem?_eq_getElem hi] at h ⊢
    exact ⟨hi, by simpa using h⟩
  · rw [Array.getElem?_eq_none (Nat.le_of_not_lt hi)] at h
    simp at h
theorem ready_anc {listed : Array Bool} {i j : Nat} (hc : Closed l (lsD listed)) (hj : j ∈ Region.ready .any l.toArray listed) (hr : Anc l j i) (hne : j ≠ i) (hi : listed.getD i true = false) : False := by
  have h1 := (mem_ready.1 hj).1
  have h2 := hr _ (closed_set hc hj) (by
    show (listed.setIfInBounds j true).getD j false = true
    have := (rg_unlisted h1).1
    simp [Array.getD_eq_getD_getElem?, this])
  have h3 : (listed.setIfInBounds j true).getD i false = true := h2
  rw [getD_set_ne false hne, (rg_unlisted hi).2] at h3
  cases h3

theorem wpAnyR_first {i : Nat} {oi : Oper} {v : Value} (hi : l.toArray[i]? = some oi) (hsel : ∀ (j : Nat) (o : Oper) cs b, l.toArray[j]? = some o → o.op ≠ .select cs b)
    (hQ : ∀ c a w, Q (.panic c) (a.put oi.dst v) w → Q (.panic c) a w) (hSS : ∀ w, S w → S' w) (hst : ∀ j, j < l.length → j ∉ hl → j ≠ i → Anc l j i ∨ ((∀ w, S' w) ∧ i ∉ hl)) :
    ∀ (fuel : Nat) (listed : Array Bool) (a : Act) (w : World), Closed l (lsD listed) →
      (∀ j oj, l.toArray[j]? = some oj → j ≠ i → listed.getD j true = false → (∀ e ∈ oj.after, Region.binds .any e = true → e.on ≠ i) → oi.apart l.toArray oj = true) →
      i ∈ Region.ready .any l.toArray listed → YieldsIf P l.toArray S' oi v a → S' w → (i ∈ hl → S w) →
      wpAnyR P l Q S hl fuel (listed.setIfInBounds i true) (a.put oi.dst v) w → wpAnyR P l Q S hl (fuel + 1) listed a w := by
  intro fuel
  induction fuel with
  | zero =>
    intro listed a w hc _ hr hy hS hSw H
    refine ⟨fun h => (by rw [h] at hr; cases hr), fun j hj => ?_⟩
    by_cases hji : j = i
    · subst hji; exact hy.wpOp hi hS ⟨hSw, H⟩
    · have := ready_mono hj hji
      rw [H.1] at this
      cases this
  | succ fuel ih =>
    intro listed a w hc hfree hr hy hS hSw H
    refine ⟨fun h => (by rw [h] at hr; cases hr), fun j hj => ?_⟩
    by_cases hji : j = i
    · subst hji; exact hy.wpOp hi hS ⟨hSw, H⟩
    · have h1 := H.2 j (ready_mono hj hji)
      obtain ⟨hjun, oj, hoj, hall⟩ := mem_ready.1 hj
      have hiun := (mem_ready.1 hr).1
      have hnot : ∀ e ∈ oj.after, Region.binds .any e = true → e.on ≠ i := fun e he hb heq => by
        have h1 := hall e he hb
        rw [heq, (rg_unlisted hiun).2] at h1
        cases h1
      have h2 := wpOp_putIf hoj (hfree j oj hoj hji hjun hnot) (fun cs b => hsel i oi cs b hi) (fun cs b => hsel j oj cs b hoj) hQ hy h1
      have hfree' : ∀ k ok, l.toArray[k]? = some ok → k ≠ i → (listed.setIfInBounds j true).getD k true = false →
          (∀ e ∈ ok.after, Region.binds .any e = true → e.on ≠ i) → oi.apart l.toArray ok = true := fun k ok hk hki hun hno => by
        refine hfree k ok hk hki ?_ hno
        by_cases hjk : j = k
        · subst hjk; exact hjun
        · rw [getD_set_ne true hjk] at hun; exact hun
      have hjl : j < l.length := by have := (Array.getElem?_eq_some_iff.1 hoj).1; simpa using this
      have hkey : ∀ w', (j ∈ hl → S w') → S' w' ∧ (i ∈ hl → S w') := fun w' h => by
        by_cases hjh : j ∈ hl
        · exact ⟨hSS _ (h hjh), fun _ => h hjh⟩
        · rcases hst j hjl hjh hji with h5 | h5
          · exact (ready_anc hc hj h5 hji hiun).elim
          · exact ⟨h5.1 _, fun h6 => absurd h6 h5.2⟩
      refine wpOp_mono (fun a' w' h3 => ⟨h3.2.1, ih (listed.setIfInBounds j true) a' w' (closed_set hc hj) hfree' (ready_mono hr (Ne.symm hji)) h3.1 (hkey w' h3.2.1).1 (hkey w' h3.2.1).2 ?_⟩) h2
      rw [Array.setIfInBounds_comm _ _ hji]
      exact h3.2.2

/-- Who must have come up ahead of whom. -/
def ancGo : List Oper → List (List Nat) → List (List Nat)
  | [], acc => acc
  | o :: r, acc => ancGo r (acc ++ [(o.after.toList.flatMap fun e => if Region.binds .any e then e.on :: acc.getD e.on [] else []).eraseDups])
def ancs (l : List Oper) : List (List Nat) := ancGo l []
theorem ancGo_spec (L : List Oper) : ∀ (r : List Oper) (acc : List (List Nat)), (∀ k, r[k]? = L[acc.length + k]?) → (∀ j, ∀ i ∈ acc.getD j [], Anc L j i) → ∀ j, ∀ i ∈ (ancGo r acc).getD j [], Anc L j i
  | [], acc, _, h => h
  | o :: r, acc, hr, h => by
    unfold ancGo
    refine ancGo_spec L r _ (fun k => ?_) (fun j i hi => ?_)
    · have := hr (k + 1)
      rw [List.length_append, List.length_singleton, Nat.add_assoc, Nat.add_comm 1 k]
      simpa using this
    · by_cases hj : j < acc.length
      · rw [List.getD_eq_getElem?_getD, List.getElem?_append_left hj, ← List.getD_eq_getElem?_getD] at hi
        exact h j i hi
      · by_cases hj2 : j = acc.length
        · subst hj2
          rw [List.getD_eq_getElem?_getD, List.getElem?_append_right (Nat.le_refl _), Nat.sub_self] at hi
          simp only [List.getElem?_cons_zero, Option.getD_some, List.mem_eraseDups, List.mem_flatMap] at hi
          obtain ⟨e, he, hie⟩ := hi
          have ho : L[acc.length]? = some o := by have := hr 0; simpa using this.symm
          intro d hc hd
          by_cases hb : Region.binds .any e = true
          · rw [if_pos hb] at hie
            have h1 := hc _ o ho hd e (by simpa using he) hb
            rcases List.mem_cons.1 hie with rfl | hie
            · exact h1
            · exact h e.on i hie d hc h1
          · rw [if_neg hb] at hie
            cases hie
        · rw [List.getD_eq_getElem?_getD, List.getElem?_eq_none (by rw [List.length_append, List.length_singleton]; omega)] at hi
          simp at hi
theorem ancs_spec {l : List Oper} {j i : Nat} (h : ((ancs l).getD j []).contains i = true) : Anc l j i :=
  ancGo_spec l l [] (fun k => by simp) (fun j i hi => by simp at hi) j i (by simpa [ancs] using h)

/-- May number 'i' be taken first? -/
def rgFrB (l : List Oper) (listed : Array Bool) (i : Nat) : Bool := (Region.ready .any l.toArray listed).contains i && Region.free .any l.toArray listed i
/-- Does it come up ahead of all behind which S need not hold? -/
def rgStB (l : List Oper) (hl : List Nat) (i : Nat) : Bool := (List.range l.length).all fun j => hl.contains j || j == i || ((ancs l).getD j []).contains i
/-- Is this order one that serves? Kinds: 0 reads under S · 2 stands alone, S holds behind it · 3 stands alone · 4 yields in whatever world · 5 is not wanted, S stands · else: is not wanted. -/
def rgOrdB (l : List Oper) (hl : List Nat) : List (Nat × Nat) → Array Bool → Bool
  | [], _ => true
  | (i, k) :: r, listed => (match k with
      | 0 => rgFrB l listed i && rgStB l hl i
      | 2 => hl.contains i && (Region.ready .any l.toArray listed == [i])
      | 3 => !hl.contains i && (Region.ready .any l.toArray listed == [i])
      | 4 => !hl.contains i && rgFrB l listed i
      | 5 => rgFrB l listed i && rgStB l hl i
      | _ => !hl.contains i && rgFrB l listed i) && rgOrdB l hl r (listed.setIfInBounds i true)
/-- What has come up behind these. -/
def rgSet : List (Nat × Nat) → Array Bool → Array Bool
  | [], listed => listed
  | (i, _) :: r, listed => rgSet r (listed.setIfInBounds i true)
/-- The walk. -/
def wpOrd (P : Program) (l : List Oper) (Q : Exit → Act → World → Prop) (S : World → Prop) (C : Act → World → Prop) : List (Nat × Nat) → Act → World → Prop
  | [], a, w => C a w
  | (i, k) :: r, a, w => ∀ o, l[i]? = some o → match k with
      | 0 => Region.wanted o (yielded l.toArray a.tmps) = true ∧ S w ∧ ∃ v, (∀ w', S w' → (execOp a.eval o).run P w' = .ok (.value v) w') ∧ wpOrd P l Q S C r (a.put o.dst v) w
      | 2 => Region.wanted o (yielded l.toArray a.tmps) = true ∧ o.wp P a w (fun a' w' => S w' ∧ wpOrd P l Q S C r a' w') Q
      | 3 => Region.wanted o (yielded l.toArray a.tmps) = true ∧ o.wp P a w (wpOrd P l Q S C r) Q
      | 4 => Region.wanted o (yielded l.toArray a.tmps) = true ∧ ∃ v, (∀ w', (execOp a.eval o).run P w' = .ok (.value v) w') ∧ wpOrd P l Q S C r (a.put o.dst v) w
      | 5 => Region.wanted o (yielded l.toArray a.tmps) = false ∧ S w ∧ wpOrd P l Q S C r (a.put o.dst undef) w
      | _ => Region.wanted o (yielded l.toArray a.tmps) = false ∧ wpOrd P l Q S C r (a.put o.dst undef) w
theorem rgSt_spec {i : Nat} (h : rgStB l hl i = true) : ∀ j, j < l.length → j ∉ hl → j ≠ i → Anc l j i := fun j hj hh hne => by
  have := List.all_eq_true.1 h j (List.mem_range.2 hj)
  simp only [Bool.or_eq_true, List.contains_iff_mem, beq_iff_eq] at this
  rcases this with (h1 | h1) | h1
  · exact absurd h1 hh
  · exact absurd h1 hne
  · exact ancs_spec (by simpa using h1)
theorem anyR_of_ord (hs : Region.noSelect l.toArray = true) (hQ : ∀ c a w, Q (.panic c) a w → False) (fuel : Nat) : ∀ (ord : List (Nat × Nat)) (listed : Array Bool) (a : Act) (w : World), Closed l (lsD listed) → rgOrdB l hl ord listed = true → wpOrd P l Q S (fun a w => Closed l (lsD (rgSet ord listed)) → wpAnyR P l Q S hl fuel (rgSet ord listed) a w) ord a w → wpAnyR P l Q S hl (ord.length + fuel) listed a w
  | [], listed, a, w, hc, hB, h => by simpa [rgSet] using h hc
  | (i, k) :: r, listed, a, w, hc, hB, h => by
    rw [show ((i, k) :: r).length + fuel = (r.length + fuel) + 1 by simp only [List.length_cons]; omega]
    have hrs : rgSet ((i, k) :: r) listed = rgSet r (listed.setIfInBounds i true) := rfl
    rw [hrs] at h
    obtain ⟨C, hC⟩ : ∃ C, C = (fun a w => Closed l (lsD (rgSet r (listed.setIfInBounds i true))) → wpAnyR P l Q S hl fuel (rgSet r (listed.setIfInBounds i true)) a w) := ⟨_, rfl⟩
    rw [← hC] at h
    unfold rgOrdB at hB
    rw [Bool.and_eq_true] at hB
    obtain ⟨hB1, hB2⟩ := hB
    have hone : ∀ (hrd : Region.ready .any l.toArray listed = [i]) (hw : ∀ o, l[i]? = some o → Region.wanted o (yielded l.toArray a.tmps) = true ∧ o.wp P a w (fun a' w' => (i ∈ hl → S w') ∧ wpOrd P l Q S C r a' w') Q), wpAnyR P l Q S hl (r.length + fuel + 1) listed a w := by
      intro hrd hw
      refine ⟨fun h0 => (by rw [hrd] at h0; cases h0), fun j hj => ?_⟩
      have hji : j = i := by rw [hrd] at hj; simpa using hj
      subst hji
      obtain ⟨_, o, ho, _⟩ := mem_ready.1 hj
      have ho' : l[j]? = some o := by simpa using ho
      obtain ⟨h1, h2⟩ := hw o ho'
      unfold wpOp
      simp only [ho]
      rw [if_pos h1]
      exact .inl (Oper.wp_mono (fun a' w' h3 => ⟨h3.1, anyR_of_ord hs hQ fuel r _ a' w' (closed_set hc hj) hB2 (hC ▸ h3.2)⟩) h2)
    have hfirst : ∀ (v : Value) (S' : World → Prop) (hf : rgFrB l listed i = true) (hSS : ∀ w, S w → S' w) (hst : ∀ j, j < l.length → j ∉ hl → j ≠ i → Anc l j i ∨ ((∀ w, S' w) ∧ i ∉ hl)) (hS' : S' w) (hSw : i ∈ hl → S w)
        (hy : ∀ o, l[i]? = some o → YieldsIf P l.toArray S' o v a ∧ wpOrd P l Q S C r (a.put o.dst v) w), wpAnyR P l Q S hl (r.length + fuel + 1) listed a w := by
      intro v S' hf hSS hst hS' hSw hy
      unfold rgFrB at hf
      rw [Bool.and_eq_true] at hf
      have hir : i ∈ Region.ready .any l.toArray listed := by simpa using hf.1
      obtain ⟨_, o, ho, _⟩ := mem_ready.1 hir
      have ho' : l[i]? = some o := by simpa using ho
      obtain ⟨h1, h2⟩ := hy o ho'
      exact wpAnyR_first ho (Region.noSelect_spec hs) (fun c a w h => (hQ _ _ _ h).elim) hSS hst (r.length + fuel) listed a w hc (Region.free_spec ho hf.2) hir h1 hS' hSw (anyR_of_ord hs hQ fuel r _ _ _ (closed_set hc hir) hB2 (hC ▸ h2))
    match k, hB1, h with
    | 0, hB1, h =>
      simp only [Bool.and_eq_true] at hB1
      have hir : i ∈ Region.ready .any l.toArray listed := by have := hB1.1; unfold rgFrB at this; rw [Bool.and_eq_true] at this; simpa using this.1
      obtain ⟨_, o, ho, _⟩ := mem_ready.1 hir
      have ho' : l[i]? = some o := by simpa using ho
      obtain ⟨h1, h2, v, h3, h4⟩ := h o ho'
      exact hfirst v S hB1.1 (fun _ h => h) (fun j a b c => .inl (rgSt_spec hB1.2 j a b c)) h2 (fun _ => h2) (fun o2 ho2 => by
        rw [ho'] at ho2
        cases ho2
        exact ⟨.inl ⟨h1, h3⟩, h4⟩)
    | 1, hB1, h =>
      simp only [Bool.and_eq_true, Bool.not_eq_true'] at hB1
      exact hfirst undef (fun _ => True) hB1.2 (fun _ _ => trivial) (fun _ _ _ _ => .inr ⟨fun _ => trivial, by simpa using hB1.1⟩) trivial (fun h6 => absurd h6 (by simpa using hB1.1)) (fun o ho => ⟨.inr ⟨(h o ho).1, rfl⟩, (h o ho).2⟩)
    | 2, hB1, h =>
      simp only [Bool.and_eq_true, beq_iff_eq] at hB1
      exact hone hB1.2 (fun o ho => ⟨(h o ho).1, Oper.wp_mono (fun a' w' h3 => ⟨fun _ => h3.1, h3.2⟩) (h o ho).2⟩)
    | 3, hB1, h =>
      simp only [Bool.and_eq_true, beq_iff_eq, Bool.not_eq_true'] at hB1
      exact hone hB1.2 (fun o ho => ⟨(h o ho).1, Oper.wp_mono (fun a' w' h3 => ⟨fun h6 => absurd h6 (by simpa using hB1.1), h3⟩) (h o ho).2⟩)
    | 4, hB1, h =>
      simp only [Bool.and_eq_true, Bool.not_eq_true'] at hB1
      have hir : i ∈ Region.ready .any l.toArray listed := by have := hB1.2; unfold rgFrB at this; rw [Bool.and_eq_true] at this; simpa using this.1
      obtain ⟨_, o, ho, _⟩ := mem_ready.1 hir
      have ho' : l[i]? = some o := by simpa using ho
      obtain ⟨h1, v, h3, h4⟩ := h o ho'
      exact hfirst v (fun _ => True) hB1.2 (fun _ _ => trivial) (fun _ _ _ _ => .inr ⟨fun _ => trivial, by simpa using hB1.1⟩) trivial (fun h6 => absurd h6 (by simpa using hB1.1)) (fun o2 ho2 => by
        rw [ho'] at ho2
        cases ho2
        exact ⟨.inl ⟨h1, fun w' _ => h3 w'⟩, h4⟩)
    | 5, hB1, h =>
      simp only [Bool.and_eq_true] at hB1
      have hir : i ∈ Region.ready .any l.toArray listed := by have := hB1.1; unfold rgFrB at this; rw [Bool.and_eq_true] at this; simpa using this.1
      obtain ⟨_, o, ho, _⟩ := mem_ready.1 hir
      have ho' : l[i]? = some o := by simpa using ho
      obtain ⟨h1, h2, h4⟩ := h o ho'
      exact hfirst undef S hB1.1 (fun _ h => h) (fun j a b c => .inl (rgSt_spec hB1.2 j a b c)) h2 (fun _ => h2) (fun o2 ho2 => by
        rw [ho'] at ho2
        cases ho2
        exact ⟨.inr ⟨h1, rfl⟩, h4⟩)
    | n + 6, hB1, h =>
      simp only [Bool.and_eq_true, Bool.not_eq_true'] at hB1
      exact hfirst undef (fun _ => True) hB1.2 (fun _ _ => trivial) (fun _ _ _ _ => .inr ⟨fun _ => trivial, by simpa using hB1.1⟩) trivial (fun h6 => absurd h6 (by simpa using hB1.1)) (fun o ho => ⟨.inr ⟨(h o ho).1, rfl⟩, (h o ho).2⟩)

theorem closed_none (n : Nat) : Closed l (lsD (Array.replicate n false)) := fun j o _ hd => by
  have hd' : (Array.replicate n false).getD j false = true := hd
  rw [Array.getD_eq_getD_getElem?, Array.getElem?_replicate] at hd'
  split at hd' <;> simp at hd'
theorem ord_imp {C' : Act → World → Prop} (hC : ∀ a w, C a w → C' a w) : ∀ (ord : List (Nat × Nat)) (a : Act) (w : World), wpOrd P l Q S C ord a w → wpOrd P l Q S C' ord a w
  | [], a, w, h => hC a w h
  | (i, k) :: r, a, w, h => fun o ho => by
    have h1 := h o ho
    match k, h1 with
    | 0, h1 => exact ⟨h1.1, h1.2.1, h1.2.2.imp fun v hv => ⟨hv.1, ord_imp hC r _ _ hv.2⟩⟩
    | 1, h1 => exact ⟨h1.1, ord_imp hC r _ _ h1.2⟩
    | 2, h1 => exact ⟨h1.1, Oper.wp_mono (fun a' w' h3 => ⟨h3.1, ord_imp hC r _ _ h3.2⟩) h1.2⟩
    | 3, h1 => exact ⟨h1.1, Oper.wp_mono (fun a' w' h3 => ord_imp hC r _ _ h3) h1.2⟩
    | 4, h1 => exact ⟨h1.1, h1.2.imp fun v hv => ⟨hv.1, ord_imp hC r _ _ hv.2⟩⟩
    | 5, h1 => exact ⟨h1.1, h1.2.1, ord_imp hC r _ _ h1.2.2⟩
    | n + 6, h1 => exact ⟨h1.1, ord_imp hC r _ _ h1.2⟩
/-- **A region that draws its order, in one order of the prover's choice.** -/
theorem wp_region_ord {id : Nat} {a : Act} {w : World} (S : World → Prop) (hl : List Nat) (ord : List (Nat × Nat)) (hm : P.follows .mixedOrders = true) (hs : Region.noSelect l.toArray = true) (hn : ord.length = l.length) (hB : (rgOrdB l hl ord (Array.replicate l.length false) && (Region.ready .any l.toArray (rgSet ord (Array.replicate l.length false))).isEmpty) = true)
    (h : wpOrd P l (NoPanic Q) S (fun a w => NoPanic Q .normal a w) ord a w.drew) : (Code.region id l.toArray true).wp P Q a w := by
  refine wp_region_noPanic (wp_region_any hm (wpAny_of_R (S := S) (hl := hl) _ _ _ _ ?_))
  rw [Bool.and_eq_true] at hB
  have := anyR_of_ord (P := P) (Q := NoPanic Q) (S := S) (hl := hl) hs (fun _ _ _ h => h) 0 ord _ a w.drew (closed_none _) hB.1 (ord_imp (fun a w h _ => ⟨by simpa using hB.2, h⟩) ord _ _ h)
  rw [Nat.add_zero, hn] at this
  simpa using this
/-- .. as a tree of orders: where several stand that none may be taken first of, the walk parts. -/
def wpT (P : Program) (l : List Oper) (Q : Exit → Act → World → Prop) (S : World → Prop) (hl : List Nat) (fuel : Nat) (listed : Array Bool) (a : Act) (w : World) : Prop := Closed l (lsD listed) → wpAnyR P l Q S hl fuel listed a w
theorem wp_region_tree {id : Nat} {a : Act} {w : World} (S : World → Prop) (hl : List Nat) (hm : P.follows .mixedOrders = true) (h : wpT P l (NoPanic Q) S hl l.length (Array.replicate l.length false) a w.drew) : (Code.region id l.toArray true).wp P Q a w :=
  wp_region_noPanic (wp_region_any hm (wpAny_of_R (S := S) (hl := hl) _ _ _ _ (by simpa using h (closed_none _))))
/-- A stretch of one order. -/
theorem tree_seg {fuel n : Nat} {listed : Array Bool} {a : Act} {w : World} (ord : List (Nat × Nat)) (hs : Region.noSelect l.toArray = true) (hn : fuel = ord.length + n) (hB : rgOrdB l hl ord listed = true)
    (h : wpOrd P l (NoPanic Q) S (fun a w => wpT P l (NoPanic Q) S hl n (rgSet ord listed) a w) ord a w) : wpT P l (NoPanic Q) S hl fuel listed a w := fun hc => by
  rw [hn]
  exact anyR_of_ord hs (fun _ _ _ h => h) n ord listed a w hc hB h
/-- Two may come up. -/
theorem tree_two {fuel i j : Nat} {oi oj : Oper} {listed : Array Bool} {a : Act} {w : World} (hi : l[i]? = some oi) (hj : l[j]? = some oj) (gi : oi.guard = none) (gj : oj.guard = none) (hB : (Region.ready .any l.toArray listed == [i, j]) = true)
    (h1 : ∀ K : Act → World → Prop, (∀ a' w', (i ∈ hl → S w') → wpT P l Q S hl fuel (listed.setIfInBounds i true) a' w' → K a' w') → oi.wp P a w K Q)
    (h2 : ∀ K : Act → World → Prop, (∀ a' w', (j ∈ hl → S w') → wpT P l Q S hl fuel (listed.setIfInBounds j true) a' w' → K a' w') → oj.wp P a w K Q) : wpT P l Q S hl (fuel + 1) listed a w := fun hc => by
  have hr : Region.ready .any l.toArray listed = [i, j] := by simpa using hB
  refine ⟨fun h0 => (by rw [hr] at h0; cases h0), fun k hk => ?_⟩
  have hk' : k = i ∨ k = j := by rw [hr] at hk; simpa using hk
  rcases hk' with rfl | rfl
  · unfold wpOp
    have e : l.toArray[k]? = some oi := by simpa using hi
    simp only [e]
    rw [if_pos (by simp [Region.wanted, gi])]
    exact .inl (h1 _ (fun a' w' hS h3 => ⟨hS, h3 (closed_set hc hk)⟩))
  · unfold wpOp
    have e : l.toArray[k]? = some oj := by simpa using hj
    simp only [e]
    rw [if_pos (by simp [Region.wanted, gj])]
    exact .inl (h2 _ (fun a' w' hS h3 => ⟨hS, h3 (closed_set hc hk)⟩))
theorem tree_done {fuel : Nat} {listed : Array Bool} {a : Act} {w : World} (hB : (Region.ready .any l.toArray listed).isEmpty = true) (h : Q .normal a w) : wpT P l (NoPanic Q) S hl fuel listed a w := fun _ => by
  have hr : Region.ready .any l.toArray listed = [] := by simpa using hB
  cases fuel with
  | zero => exact ⟨hr, h⟩
  | succ n => exact ⟨fun _ => h, by rw [hr]; simp⟩

/-! The moves. -/
theorem ord_read {i : Nat} {o : Oper} {r : List (Nat × Nat)} {a : Act} {w : World} (v : Value) (ho : l[i]? = some o) (hg : o.guard = none) (hS : S w) (hv : ∀ w', S w' → (execOp a.eval o).run P w' = .ok (.value v) w') (h : wpOrd P l Q S C r (a.put o.dst v) w) : wpOrd P l Q S C ((i, 0) :: r) a w := by
  intro o2 ho2
  rw [ho] at ho2
  cases ho2
  exact ⟨by simp [Region.wanted, hg], hS, v, hv, h⟩
theorem ord_val {i : Nat} {o : Oper} {r : List (Nat × Nat)} {a : Act} {w : World} (v : Value) (ho : l[i]? = some o) (hg : o.guard = none) (hv : ∀ w', (execOp a.eval o).run P w' = .ok (.value v) w') (h : wpOrd P l Q S C r (a.put o.dst v) w) : wpOrd P l Q S C ((i, 4) :: r) a w := by
  intro o2 ho2
  rw [ho] at ho2
  cases ho2
  exact ⟨by simp [Region.wanted, hg], v, hv, h⟩
theorem ord_held {i : Nat} {o : Oper} {r : List (Nat × Nat)} {a : Act} {w : World} (ho : l[i]? = some o) (hg : o.guard = none) (h : ∀ K : Act → World → Prop, (∀ a' w', S w' → wpOrd P l Q S C r a' w' → K a' w') → o.wp P a w K Q) : wpOrd P l Q S C ((i, 2) :: r) a w := by
  intro o2 ho2
  rw [ho] at ho2
  cases ho2
  exact ⟨by simp [Region.wanted, hg], h _ (fun a' w' h1 h2 => ⟨h1, h2⟩)⟩
theorem ord_alone {i : Nat} {o : Oper} {r : List (Nat × Nat)} {a : Act} {w : World} (ho : l[i]? = some o) (hg : o.guard = none) (h : ∀ K : Act → World → Prop, (∀ a' w', wpOrd P l Q S C r a' w' → K a' w') → o.wp P a w K Q) : wpOrd P l Q S C ((i, 3) :: r) a w := by
  intro o2 ho2
  rw [ho] at ho2
  cases ho2
  exact ⟨by simp [Region.wanted, hg], h _ (fun a' w' h2 => h2)⟩
theorem ord_done {a : Act} {w : World} (h : Q .normal a w) : wpOrd P l (NoPanic Q) S (fun a w => NoPanic Q .normal a w) [] a w := h
theorem ord_end {a : Act} {w : World} (h : C a w) : wpOrd P l Q S C [] a w := h
/-! The same under guards. -/
theorem ordG_read {i : Nat} {o : Oper} {r : List (Nat × Nat)} {a : Act} {w : World} (v : Value) (ho : l[i]? = some o) (hg : Region.wanted o (yielded l.toArray a.tmps) = true) (hS : S w) (hv : ∀ w', S w' → (execOp a.eval o).run P w' = .ok (.value v) w') (h : wpOrd P l Q S C r (a.put o.dst v) w) : wpOrd P l Q S C ((i, 0) :: r) a w := by
  intro o2 ho2
  rw [ho] at ho2
  cases ho2
  exact ⟨hg, hS, v, hv, h⟩
theorem ordG_held {i : Nat} {o : Oper} {r : List (Nat × Nat)} {a : Act} {w : World} (ho : l[i]? = some o) (hg : Region.wanted o (yielded l.toArray a.tmps) = true) (h : ∀ K : Act → World → Prop, (∀ a' w', S w' → wpOrd P l Q S C r a' w' → K a' w') → o.wp P a w K Q) : wpOrd P l Q S C ((i, 2) :: r) a w := by
  intro o2 ho2
  rw [ho] at ho2
  cases ho2
  exact ⟨hg, h _ (fun a' w' h1 h2 => ⟨h1, h2⟩)⟩
theorem ordG_skip {i : Nat} {o : Oper} {r : List (Nat × Nat)} {a : Act} {w : World} (ho : l[i]? = some o) (hg : Region.wanted o (yielded l.toArray a.tmps) = false) (hS : S w) (h : wpOrd P l Q S C r (a.put o.dst undef) w) : wpOrd P l Q S C ((i, 5) :: r) a w := by
  intro o2 ho2
  rw [ho] at ho2
  cases ho2
  exact ⟨hg, hS, h⟩
end

end Go.Proofs.YtkndabnngdjcgaaDoor

/- A region that draws its order, whose operations only read, and whose callees may lay memory of their own: one walk in the order of the text, at the class of worlds behind a given one. -/
namespace Go.Proofs.YtkndabnngdjcgaaDoor
open Go.RowKit
set_option linter.unusedVariables false

section
variable {P : Program} {ops : Array Oper}
abbrev CB (W : World) : World → Prop := fun w => Below W.heap.size W w
theorem quiet_val {W : World} {Q : Act → Prop} {a : Act} {o : Oper} {rest : List Oper} (v : Value) (hg : o.guard = none) (hv : ∀ w, Below W.heap.size W w → (execOp a.eval o).run P w = .ok (.value v) w) (h : wpQuiet P ops (CB W) Q rest (a.put o.dst v)) : wpQuiet P ops (CB W) Q (o :: rest) a := by
  refine wpQuiet_step fun K hK => ?_
  rw [if_pos (by simp [Region.wanted, hg])]
  refine ⟨v, fun w hw => ?_, hK _ h⟩
  unfold Oper.quietAt
  rw [hv w hw]
  exact ⟨rfl, rfl⟩
theorem quiet_call {W : World} {Q : Act → Prop} {a : Act} {o : Oper} {rest : List Oper} (v : Value) (f : FuncId) (args : Array Value) (hg : o.guard = none) (hv : ∀ w, (execOp a.eval o).run P w = .ok (.enter f args) w) (hc : ∀ w, Below W.heap.size W w → Calls P f args w fun e w' => e = .returned v ∧ Below w.heap.size w w') (h : wpQuiet P ops (CB W) Q rest (a.put o.dst v)) : wpQuiet P ops (CB W) Q (o :: rest) a := by
  refine wpQuiet_step fun K hK => ?_
  rw [if_pos (by simp [Region.wanted, hg])]
  refine ⟨v, fun w hw => ?_, hK _ h⟩
  unfold Oper.quietAt
  rw [hv w]
  exact ⟨rfl, (hc w hw).mono fun e w' ⟨he, hb⟩ => ⟨he, fr hw hb⟩⟩
theorem wp_region_cb {id : Nat} {Q : Exit → Act → World → Prop} {a : Act} {w : World} {l : List Oper} (hm : P.follows .mixedOrders = true) (hB : Region.lexB .any l.toArray = true)
    (h : wpQuiet P l.toArray (CB w) (fun a' => ∀ w', Below w.heap.size w w' → Q .normal a' w') l a) : (Code.region id l.toArray true).wp P Q a w :=
  wp_region_quiet (C := CB w) hm hB (Below.refl _ w).drew (by simpa using h)
end

end Go.Proofs.YtkndabnngdjcgaaDoor

/- Contracts of the model's l13Words, l13Text. (Written by gens/rtx.py.) -/
namespace Go.Proofs.YtkndabnngdjcgaaDoor
open Go.RowKit
set_option linter.unusedVariables false
set_option maxRecDepth 100000

def spB : ByteArray := ⟨#[32]⟩
/-- The words of the kinds. -/
def rqW (k : Int) : ByteArray := if k = 1 then ⟨#[114, 101, 97, 100]⟩ else if k = 2 then ⟨#[119, 114, 105, 116, 101]⟩ else if k = 3 then ⟨#[122, 101, 114, 111]⟩ else if k = 4 then ⟨#[114, 101, 115, 105, 122, 101]⟩ else if k = 5 then ⟨#[99, 114, 101, 97, 116, 101]⟩ else if k = 6 then ⟨#[100, 101, 108, 101, 116, 101]⟩ else if k = 7 then ⟨#[114, 101, 118, 101, 114, 116]⟩ else if k = 8 then ⟨#[108, 105, 115, 116]⟩ else ⟨#[]⟩
/-- A request's text. -/
def rtS (q : Rq) : ByteArray := if q.k = 1 ∨ q.k = 3 ∨ q.k = 4 then rqW q.k ++ spB ++ dgS q.g.toNat else if q.k = 2 then rqW q.k ++ spB ++ dgS q.g.toNat ++ spB ++ dgS q.v.toNat else if q.k = 8 then rqW q.k else rqW q.k ++ spB ++ q.n
abbrev rqWs : Array Value := #[.string ⟨#[]⟩, .string ⟨#[114, 101, 97, 100]⟩, .string ⟨#[119, 114, 105, 116, 101]⟩, .string ⟨#[122, 101, 114, 111]⟩, .string ⟨#[114, 101, 115, 105, 122, 101]⟩, .string ⟨#[99, 114, 101, 97, 116, 101]⟩, .string ⟨#[100, 101, 108, 101, 116, 101]⟩, .string ⟨#[114, 101, 118, 101, 114, 116]⟩, .string ⟨#[108, 105, 115, 116]⟩]
theorem l13Words_any (w : World) : Calls Tryd.prog 82 #[] w fun e w' => ∃ g, e = .returned (.slice (some ⟨g, 0, none⟩) 9 9) ∧ w'.heap[g]? = some (.cells rqWs 9 (0, 0)) ∧ Below w.heap.size w w' := by
  go_enter Tryd.func82, Tryd.ntmps82
  go_wp2
  go_ret
  exact ⟨_, rfl, heap_alloc_new w _, Joins.below_alloc1 _ _⟩
theorem rq_sz {a b : ByteArray} {m n : Nat} (h1 : a.size ≤ m) (h2 : b.size ≤ n) : (a ++ b).size ≤ m + n := by rw [ByteArray.size_append]; omega

set_option maxHeartbeats 3200000 in
theorem l13Text_1 (q : Rq) (w : World) (hk : q.k = 1) (hg : 0 ≤ q.g ∧ q.g ≤ 2147483647) (hv : 0 ≤ q.v ∧ q.v ≤ 2147483647) (hn : q.n.size ≤ 65536) :
    Calls Tryd.prog 41 #[qV q] w fun e w' => e = .returned (.string (rtS q)) ∧ Below w.heap.size w w' := by
  obtain ⟨k, g, v, n⟩ := q
  simp only at hk hg hv hn
  subst hk
  obtain ⟨g, rfl⟩ := Int.eq_ofNat_of_zero_le hg.1
  obtain ⟨v, rfl⟩ := Int.eq_ofNat_of_zero_le hv.1
  have HB0 := hide (Joins.below_alloc1 w (.cells #[.int .i64 1, .int .i64 g, .int .i64 v, .string n] 27))
  have HV0 : Hid (VarR (w.alloc (.cells #[.int .i64 1, .int .i64 g, .int .i64 v, .string n] 27)) w.heap.size ⟨1, g, v, n⟩) := hide (VarM.new w 27 _ _ _ _)
  have HDG := hide (fun W => l00Digits_any g (by omega) W)
  have HDV := hide (fun W => l00Digits_any v (by omega) W)
  have zg := dgS_size g
  have zv := dgS_size v
  have HF : Hid (rtS ⟨1, g, v, n⟩ = ⟨#[114, 101, 97, 100]⟩ ++ spB ++ dgS g) := hide rfl
  rw [unhide HF]
  generalize dgS g = DG at *
  generalize dgS v = DV at *
  clear HF
  go_enter Tryd.func41, Tryd.ntmps41
  go_upto_region 1 with fail
  revert HB0 HV0
  generalize (w.alloc _) = W0
  intro HB0 HV0
  have hS0 : VarR W0.drew w.heap.size ⟨1, g, v, n⟩ := (unhide HV0).below (Below.refl _ _).drew
  refine wp_region_ord (fun w' => VarR w' w.heap.size ⟨1, g, v, n⟩) [0, 1, 2] [(1, 0), (2, 0), (0, 2), (3, 3), (4, 3), (5, 3)] (by kernel_rfl) (by kernel_rfl) rfl (by kernel_rfl) ?_
  refine ord_read (.pointer (some ⟨w.heap.size, 0, none⟩)) rfl rfl hS0 (fun W hW => by go_simp) ?_
  refine ord_read (.int .i64 1) rfl rfl hS0 (fun W hW => by obtain ⟨k0, k1, k2, k3⟩ := hW.cells; go_simp) ?_
  refine ord_held rfl rfl ?_
  intro K hK
  unfold Oper.wp
  go_simp
  refine (l13Words_any _).mono ?_
  rintro e w1 ⟨gw, rfl, hgw, hb⟩
  have hS1 := hS0.below hb
  have HB1 := hide (fr (fr (unhide HB0) (Below.refl _ _).drew) hb)
  have cw : w1.cell? ⟨gw, 1, none⟩ = some (.string ⟨#[114, 101, 97, 100]⟩) := by rw [Joins.cell_of_block hgw]; rfl
  refine hK _ _ hS1 ?_
  clear hK K hb hS0 HB0 HV0
  refine ord_alone rfl rfl ?_
  intro K hK
  unfold Oper.wp
  go_simp
  refine hK _ _ ?_
  clear hK K
  refine ord_alone rfl rfl ?_
  intro K hK
  unfold Oper.wp
  go_simp
  refine hK _ _ ?_
  clear hK K
  refine ord_alone rfl rfl ?_
  intro K hK
  unfold Oper.wp
  go_simp
  refine hK _ _ ?_
  clear hK K
  refine ord_done ?_
  obtain ⟨k0, k1, k2, k3⟩ := hS1.cells
  have s1 : (⟨#[114, 101, 97, 100]⟩ ++ (⟨#[32]⟩ : ByteArray)).size = 5 := by decide
  have s2 : (⟨#[114, 101, 97, 100]⟩ ++ (⟨#[32]⟩ : ByteArray) ++ DG).size ≤ 2147483700 := by rw [ByteArray.size_append, s1]; omega
  go_wp2_with fail
  refine (unhide HDG _).mono ?_
  rintro e w2 ⟨rfl, hb⟩
  have HB2 := hide (fr (unhide HB1) hb)
  clear hb
  go_wp2
  go_ret
  exact ⟨rfl, unhide HB2⟩

set_option maxHeartbeats 3200000 in
theorem l13Text_2 (q : Rq) (w : World) (hk : q.k = 2) (hg : 0 ≤ q.g ∧ q.g ≤ 2147483647) (hv : 0 ≤ q.v ∧ q.v ≤ 2147483647) (hn : q.n.size ≤ 65536) :
    Calls Tryd.prog 41 #[qV q] w fun e w' => e = .returned (.string (rtS q)) ∧ Below w.heap.size w w' := by
  obtain ⟨k, g, v, n⟩ := q
  simp only at hk hg hv hn
  subst hk
  obtain ⟨g, rfl⟩ := Int.eq_ofNat_of_zero_le hg.1
  obtain ⟨v, rfl⟩ := Int.eq_ofNat_of_zero_le hv.1
  have HB0 := hide (Joins.below_alloc1 w (.cells #[.int .i64 2, .int .i64 g, .int .i64 v, .string n] 27))
  have HV0 : Hid (VarR (w.alloc (.cells #[.int .i64 2, .int .i64 g, .int .i64 v, .string n] 27)) w.heap.size ⟨2, g, v, n⟩) := hide (VarM.new w 27 _ _ _ _)
  have HDG := hide (fun W => l00Digits_any g (by omega) W)
  have HDV := hide (fun W => l00Digits_any v (by omega) W)
  have zg := dgS_size g
  have zv := dgS_size v
  have HF : Hid (rtS ⟨2, g, v, n⟩ = ⟨#[119, 114, 105, 116, 101]⟩ ++ spB ++ dgS g ++ spB ++ dgS v) := hide rfl
  rw [unhide HF]
  generalize dgS g = DG at *
  generalize dgS v = DV at *
  clear HF
  go_enter Tryd.func41, Tryd.ntmps41
  go_upto_region 1 with fail
  revert HB0 HV0
  generalize (w.alloc _) = W0
  intro HB0 HV0
  have hS0 : VarR W0.drew w.heap.size ⟨2, g, v, n⟩ := (unhide HV0).below (Below.refl _ _).drew
  refine wp_region_ord (fun w' => VarR w' w.heap.size ⟨2, g, v, n⟩) [0, 1, 2] [(1, 0), (2, 0), (0, 2), (3, 3), (4, 3), (5, 3)] (by kernel_rfl) (by kernel_rfl) rfl (by kernel_rfl) ?_
  refine ord_read (.pointer (some ⟨w.heap.size, 0, none⟩)) rfl rfl hS0 (fun W hW => by go_simp) ?_
  refine ord_read (.int .i64 2) rfl rfl hS0 (fun W hW => by obtain ⟨k0, k1, k2, k3⟩ := hW.cells; go_simp) ?_
  refine ord_held rfl rfl ?_
  intro K hK
  unfold Oper.wp
  go_simp
  refine (l13Words_any _).mono ?_
  rintro e w1 ⟨gw, rfl, hgw, hb⟩
  have hS1 := hS0.below hb
  have HB1 := hide (fr (fr (unhide HB0) (Below.refl _ _).drew) hb)
  have cw : w1.cell? ⟨gw, 2, none⟩ = some (.string ⟨#[119, 114, 105, 116, 101]⟩) := by rw [Joins.cell_of_block hgw]; rfl
  refine hK _ _ hS1 ?_
  clear hK K hb hS0 HB0 HV0
  refine ord_alone rfl rfl ?_
  intro K hK
  unfold Oper.wp
  go_simp
  refine hK _ _ ?_
  clear hK K
  refine ord_alone rfl rfl ?_
  intro K hK
  unfold Oper.wp
  go_simp
  refine hK _ _ ?_
  clear hK K
  refine ord_alone rfl rfl ?_
  intro K hK
  unfold Oper.wp
  go_simp
  refine hK _ _ ?_
  clear hK K
  refine ord_done ?_
  obtain ⟨k0, k1, k2, k3⟩ := hS1.cells
  have s1 : ((⟨#[119, 114, 105, 116, 101]⟩ : ByteArray) ++ (⟨#[32]⟩ : ByteArray)).size = 6 := by decide
  have s2 : ((⟨#[119, 114, 105, 116, 101]⟩ : ByteArray) ++ (⟨#[32]⟩ : ByteArray) ++ DG).size ≤ 2147483700 := by rw [ByteArray.size_append, s1]; omega
  have s3 : ((⟨#[119, 114, 105, 116, 101]⟩ : ByteArray) ++ (⟨#[32]⟩ : ByteArray) ++ DG ++ (⟨#[32]⟩ : ByteArray)).size ≤ 2147483701 := by rw [ByteArray.size_append]; have : (⟨#[32]⟩ : ByteArray).size = 1 := rfl; omega
  have s4 : (⟨#[32]⟩ : ByteArray).size = 1 := rfl
  have u1 : ¬ 9223372036854775807 < ((⟨#[119, 114, 105, 116, 101]⟩ : ByteArray) ++ (⟨#[32]⟩ : ByteArray)).size + DG.size := by omega
  have u2 : ¬ 9223372036854775807 < ((⟨#[119, 114, 105, 116, 101]⟩ : ByteArray) ++ (⟨#[32]⟩ : ByteArray) ++ DG).size + (⟨#[32]⟩ : ByteArray).size := by omega
  have u3 : ¬ 9223372036854775807 < ((⟨#[119, 114, 105, 116, 101]⟩ : ByteArray) ++ (⟨#[32]⟩ : ByteArray) ++ DG ++ (⟨#[32]⟩ : ByteArray)).size + DV.size := by omega
  clear s1 s2 s3 s4
  go_upto_region 8 with fail
  refine wp_region_cb (by kernel_rfl) (by kernel_rfl) ?_
  refine quiet_val (.string (⟨#[119, 114, 105, 116, 101]⟩ : ByteArray)) rfl (fun W hW => by go_simp) ?_
  refine quiet_val (.string ((⟨#[119, 114, 105, 116, 101]⟩ : ByteArray) ++ ⟨#[32]⟩)) rfl (fun W hW => by go_simp) ?_
  refine quiet_val (.pointer (some ⟨w.heap.size, 1, none⟩)) rfl (fun W hW => by go_simp) ?_
  refine quiet_val (.int .i64 g) rfl (fun W hW => by obtain ⟨l0, l1, l2, l3⟩ := (hS1.below hW).cells; go_simp) ?_
  refine quiet_call (.string DG) 83 #[.int .i64 g] rfl (fun W => by go_simp) (fun W hW => unhide HDG W) ?_
  refine quiet_val (.string ((⟨#[119, 114, 105, 116, 101]⟩ : ByteArray) ++ ⟨#[32]⟩ ++ DG)) rfl (fun W hW => by go_simp; omega) ?_
  refine quiet_val (.string ((⟨#[119, 114, 105, 116, 101]⟩ : ByteArray) ++ ⟨#[32]⟩ ++ DG ++ ⟨#[32]⟩)) rfl (fun W hW => by go_simp; omega) ?_
  refine quiet_val (.pointer (some ⟨w.heap.size, 2, none⟩)) rfl (fun W hW => by go_simp) ?_
  refine quiet_val (.int .i64 v) rfl (fun W hW => by obtain ⟨l0, l1, l2, l3⟩ := (hS1.below hW).cells; go_simp) ?_
  refine quiet_call (.string DV) 83 #[.int .i64 v] rfl (fun W => by go_simp) (fun W hW => unhide HDV W) ?_
  refine quiet_val (.string ((⟨#[119, 114, 105, 116, 101]⟩ : ByteArray) ++ ⟨#[32]⟩ ++ DG ++ ⟨#[32]⟩ ++ DV)) rfl (fun W hW => by go_simp; omega) ?_
  refine quiet_val (.string ((⟨#[119, 114, 105, 116, 101]⟩ : ByteArray) ++ ⟨#[32]⟩ ++ DG ++ ⟨#[32]⟩ ++ DV)) rfl (fun W hW => by go_simp) ?_
  refine wpQuiet_nil fun w2 hb2 => ?_
  have HB2 := hide (fr (unhide HB1) hb2)
  clear hb2
  go_wp2
  go_ret
  exact ⟨rfl, unhide HB2⟩

set_option maxHeartbeats 3200000 in
theorem l13Text_3 (q : Rq) (w : World) (hk : q.k = 3) (hg : 0 ≤ q.g ∧ q.g ≤ 2147483647) (hv : 0 ≤ q.v ∧ q.v ≤ 2147483647) (hn : q.n.size ≤ 65536) :
    Calls Tryd.prog 41 #[qV q] w fun e w' => e = .returned (.string (rtS q)) ∧ Below w.heap.size w w' := by
  obtain ⟨k, g, v, n⟩ := q
  simp only at hk hg hv hn
  subst hk
  obtain ⟨g, rfl⟩ := Int.eq_ofNat_of_zero_le hg.1
  obtain ⟨v, rfl⟩ := Int.eq_ofNat_of_zero_le hv.1
  have HB0 := hide (Joins.below_alloc1 w (.cells #[.int .i64 3, .int .i64 g, .int .i64 v, .string n] 27))
  have HV0 : Hid (VarR (w.alloc (.cells #[.int .i64 3, .int .i64 g, .int .i64 v, .string n] 27)) w.heap.size ⟨3, g, v, n⟩) := hide (VarM.new w 27 _ _ _ _)
  have HDG := hide (fun W => l00Digits_any g (by omega) W)
  have HDV := hide (fun W => l00Digits_any v (by omega) W)
  have zg := dgS_size g
  have zv := dgS_size v
  have HF : Hid (rtS ⟨3, g, v, n⟩ = ⟨#[122, 101, 114, 111]⟩ ++ spB ++ dgS g) := hide rfl
  rw [unhide HF]
  generalize dgS g = DG at *
  generalize dgS v = DV at *
  clear HF
  go_enter Tryd.func41, Tryd.ntmps41
  go_upto_region 1 with fail
  revert HB0 HV0
  generalize (w.alloc _) = W0
  intro HB0 HV0
  have hS0 : VarR W0.drew w.heap.size ⟨3, g, v, n⟩ := (unhide HV0).below (Below.refl _ _).drew
  refine wp_region_ord (fun w' => VarR w' w.heap.size ⟨3, g, v, n⟩) [0, 1, 2] [(1, 0), (2, 0), (0, 2), (3, 3), (4, 3), (5, 3)] (by kernel_rfl) (by kernel_rfl) rfl (by kernel_rfl) ?_
  refine ord_read (.pointer (some ⟨w.heap.size, 0, none⟩)) rfl rfl hS0 (fun W hW => by go_simp) ?_
  refine ord_read (.int .i64 3) rfl rfl hS0 (fun W hW => by obtain ⟨k0, k1, k2, k3⟩ := hW.cells; go_simp) ?_
  refine ord_held rfl rfl ?_
  intro K hK
  unfold Oper.wp
  go_simp
  refine (l13Words_any _).mono ?_
  rintro e w1 ⟨gw, rfl, hgw, hb⟩
  have hS1 := hS0.below hb
  have HB1 := hide (fr (fr (unhide HB0) (Below.refl _ _).drew) hb)
  have cw : w1.cell? ⟨gw, 3, none⟩ = some (.string ⟨#[122, 101, 114, 111]⟩) := by rw [Joins.cell_of_block hgw]; rfl
  refine hK _ _ hS1 ?_
  clear hK K hb hS0 HB0 HV0
  refine ord_alone rfl rfl ?_
  intro K hK
  unfold Oper.wp
  go_simp
  refine hK _ _ ?_
  clear hK K
  refine ord_alone rfl rfl ?_
  intro K hK
  unfold Oper.wp
  go_simp
  refine hK _ _ ?_
  clear hK K
  refine ord_alone rfl rfl ?_
  intro K hK
  unfold Oper.wp
  go_simp
  refine hK _ _ ?_
  clear hK K
  refine ord_done ?_
  obtain ⟨k0, k1, k2, k3⟩ := hS1.cells
  have s1 : (⟨#[122, 101, 114, 111]⟩ ++ (⟨#[32]⟩ : ByteArray)).size = 5 := by decide
  have s2 : (⟨#[122, 101, 114, 111]⟩ ++ (⟨#[32]⟩ : ByteArray) ++ DG).size ≤ 2147483700 := by rw [ByteArray.size_append, s1]; omega
  go_wp2_with fail
  refine (unhide HDG _).mono ?_
  rintro e w2 ⟨rfl, hb⟩
  have HB2 := hide (fr (unhide HB1) hb)
  clear hb
  go_wp2
  go_ret
  exact ⟨rfl, unhide HB2⟩

set_option maxHeartbeats 3200000 in
theorem l13Text_4 (q : Rq) (w : World) (hk : q.k = 4) (hg : 0 ≤ q.g ∧ q.g ≤ 2147483647) (hv : 0 ≤ q.v ∧ q.v ≤ 2147483647) (hn : q.n.size ≤ 65536) :
    Calls Tryd.prog 41 #[qV q] w fun e w' => e = .returned (.string (rtS q)) ∧ Below w.heap.size w w' := by
  obtain ⟨k, g, v, n⟩ := q
  simp only at hk hg hv hn
  subst hk
  obtain ⟨g, rfl⟩ := Int.eq_ofNat_of_zero_le hg.1
  obtain ⟨v, rfl⟩ := Int.eq_ofNat_of_zero_le hv.1
  have HB0 := hide (Joins.below_alloc1 w (.cells #[.int .i64 4, .int .i64 g, .int .i64 v, .string n] 27))
  have HV0 : Hid (VarR (w.alloc (.cells #[.int .i64 4, .int .i64 g, .int .i64 v, .string n] 27)) w.heap.size ⟨4, g, v, n⟩) := hide (VarM.new w 27 _ _ _ _)
  have HDG := hide (fun W => l00Digits_any g (by omega) W)
  have HDV := hide (fun W => l00Digits_any v (by omega) W)
  have zg := dgS_size g
  have zv := dgS_size v
  have HF : Hid (rtS ⟨4, g, v, n⟩ = ⟨#[114, 101, 115, 105, 122, 101]⟩ ++ spB ++ dgS g) := hide rfl
  rw [unhide HF]
  generalize dgS g = DG at *
  generalize dgS v = DV at *
  clear HF
  go_enter Tryd.func41, Tryd.ntmps41
  go_upto_region 1 with fail
  revert HB0 HV0
  generalize (w.alloc _) = W0
  intro HB0 HV0
  have hS0 : VarR W0.drew w.heap.size ⟨4, g, v, n⟩ := (unhide HV0).below (Below.refl _ _).drew
  refine wp_region_ord (fun w' => VarR w' w.heap.size ⟨4, g, v, n⟩) [0, 1, 2] [(1, 0), (2, 0), (0, 2), (3, 3), (4, 3), (5, 3)] (by kernel_rfl) (by kernel_rfl) rfl (by kernel_rfl) ?_
  refine ord_read (.pointer (some ⟨w.heap.size, 0, none⟩)) rfl rfl hS0 (fun W hW => by go_simp) ?_
  refine ord_read (.int .i64 4) rfl rfl hS0 (fun W hW => by obtain ⟨k0, k1, k2, k3⟩ := hW.cells; go_simp) ?_
  refine ord_held rfl rfl ?_
  intro K hK
  unfold Oper.wp
  go_simp
  refine (l13Words_any _).mono ?_
  rintro e w1 ⟨gw, rfl, hgw, hb⟩
  have hS1 := hS0.below hb
  have HB1 := hide (fr (fr (unhide HB0) (Below.refl _ _).drew) hb)
  have cw : w1.cell? ⟨gw, 4, none⟩ = some (.string ⟨#[114, 101, 115, 105, 122, 101]⟩) := by rw [Joins.cell_of_block hgw]; rfl
  refine hK _ _ hS1 ?_
  clear hK K hb hS0 HB0 HV0
  refine ord_alone rfl rfl ?_
  intro K hK
  unfold Oper.wp
  go_simp
  refine hK _ _ ?_
  clear hK K
  refine ord_alone rfl rfl ?_
  intro K hK
  unfold Oper.wp
  go_simp
  refine hK _ _ ?_
  clear hK K
  refine ord_alone rfl rfl ?_
  intro K hK
  unfold Oper.wp
  go_simp
  refine hK _ _ ?_
  clear hK K
  refine ord_done ?_
  obtain ⟨k0, k1, k2, k3⟩ := hS1.cells
  have s1 : (⟨#[114, 101, 115, 105, 122, 101]⟩ ++ (⟨#[32]⟩ : ByteArray)).size = 7 := by decide
  have s2 : (⟨#[114, 101, 115, 105, 122, 101]⟩ ++ (⟨#[32]⟩ : ByteArray) ++ DG).size ≤ 2147483700 := by rw [ByteArray.size_append, s1]; omega
  go_wp2_with fail
  refine (unhide HDG _).mono ?_
  rintro e w2 ⟨rfl, hb⟩
  have HB2 := hide (fr (unhide HB1) hb)
  clear hb
  go_wp2
  go_ret
  exact ⟨rfl, unhide HB2⟩

set_option maxHeartbeats 3200000 in
theorem l13Text_5 (q : Rq) (w : World) (hk : q.k = 5) (hg : 0 ≤ q.g ∧ q.g ≤ 2147483647) (hv : 0 ≤ q.v ∧ q.v ≤ 2147483647) (hn : q.n.size ≤ 65536) :
    Calls Tryd.prog 41 #[qV q] w fun e w' => e = .returned (.string (rtS q)) ∧ Below w.heap.size w w' := by
  obtain ⟨k, g, v, n⟩ := q
  simp only at hk hg hv hn
  subst hk
  obtain ⟨g, rfl⟩ := Int.eq_ofNat_of_zero_le hg.1
  obtain ⟨v, rfl⟩ := Int.eq_ofNat_of_zero_le hv.1
  have HB0 := hide (Joins.below_alloc1 w (.cells #[.int .i64 5, .int .i64 g, .int .i64 v, .string n] 27))
  have HV0 : Hid (VarR (w.alloc (.cells #[.int .i64 5, .int .i64 g, .int .i64 v, .string n] 27)) w.heap.size ⟨5, g, v, n⟩) := hide (VarM.new w 27 _ _ _ _)
  have HDG := hide (fun W => l00Digits_any g (by omega) W)
  have HDV := hide (fun W => l00Digits_any v (by omega) W)
  have zg := dgS_size g
  have zv := dgS_size v
  have HF : Hid (rtS ⟨5, g, v, n⟩ = ⟨#[99, 114, 101, 97, 116, 101]⟩ ++ spB ++ n) := hide rfl
  rw [unhide HF]
  generalize dgS g = DG at *
  generalize dgS v = DV at *
  clear HF
  go_enter Tryd.func41, Tryd.ntmps41
  go_upto_region 1 with fail
  revert HB0 HV0
  generalize (w.alloc _) = W0
  intro HB0 HV0
  have hS0 : VarR W0.drew w.heap.size ⟨5, g, v, n⟩ := (unhide HV0).below (Below.refl _ _).drew
  refine wp_region_ord (fun w' => VarR w' w.heap.size ⟨5, g, v, n⟩) [0, 1, 2] [(1, 0), (2, 0), (0, 2), (3, 3), (4, 3), (5, 3)] (by kernel_rfl) (by kernel_rfl) rfl (by kernel_rfl) ?_
  refine ord_read (.pointer (some ⟨w.heap.size, 0, none⟩)) rfl rfl hS0 (fun W hW => by go_simp) ?_
  refine ord_read (.int .i64 5) rfl rfl hS0 (fun W hW => by obtain ⟨k0, k1, k2, k3⟩ := hW.cells; go_simp) ?_
  refine ord_held rfl rfl ?_
  intro K hK
  unfold Oper.wp
  go_simp
  refine (l13Words_any _).mono ?_
  rintro e w1 ⟨gw, rfl, hgw, hb⟩
  have hS1 := hS0.below hb
  have HB1 := hide (fr (fr (unhide HB0) (Below.refl _ _).drew) hb)
  have cw : w1.cell? ⟨gw, 5, none⟩ = some (.string ⟨#[99, 114, 101, 97, 116, 101]⟩) := by rw [Joins.cell_of_block hgw]; rfl
  refine hK _ _ hS1 ?_
  clear hK K hb hS0 HB0 HV0
  refine ord_alone rfl rfl ?_
  intro K hK
  unfold Oper.wp
  go_simp
  refine hK _ _ ?_
  clear hK K
  refine ord_alone rfl rfl ?_
  intro K hK
  unfold Oper.wp
  go_simp
  refine hK _ _ ?_
  clear hK K
  refine ord_alone rfl rfl ?_
  intro K hK
  unfold Oper.wp
  go_simp
  refine hK _ _ ?_
  clear hK K
  refine ord_done ?_
  obtain ⟨k0, k1, k2, k3⟩ := hS1.cells
  have s1 : (⟨#[99, 114, 101, 97, 116, 101]⟩ ++ (⟨#[32]⟩ : ByteArray)).size = 7 := by decide
  go_wp2
  go_ret
  exact ⟨rfl, unhide HB1⟩

set_option maxHeartbeats 3200000 in
theorem l13Text_6 (q : Rq) (w : World) (hk : q.k = 6) (hg : 0 ≤ q.g ∧ q.g ≤ 2147483647) (hv : 0 ≤ q.v ∧ q.v ≤ 2147483647) (hn : q.n.size ≤ 65536) :
    Calls Tryd.prog 41 #[qV q] w fun e w' => e = .returned (.string (rtS q)) ∧ Below w.heap.size w w' := by
  obtain ⟨k, g, v, n⟩ := q
  simp only at hk hg hv hn
  subst hk
  obtain ⟨g, rfl⟩ := Int.eq_ofNat_of_zero_le hg.1
  obtain ⟨v, rfl⟩ := Int.eq_ofNat_of_zero_le hv.1
  have HB0 := hide (Joins.below_alloc1 w (.cells #[.int .i64 6, .int .i64 g, .int .i64 v, .string n] 27))
  have HV0 : Hid (VarR (w.alloc (.cells #[.int .i64 6, .int .i64 g, .int .i64 v, .string n] 27)) w.heap.size ⟨6, g, v, n⟩) := hide (VarM.new w 27 _ _ _ _)
  have HDG := hide (fun W => l00Digits_any g (by omega) W)
  have HDV := hide (fun W => l00Digits_any v (by omega) W)
  have zg := dgS_size g
  have zv := dgS_size v
  have HF : Hid (rtS ⟨6, g, v, n⟩ = ⟨#[100, 101, 108, 101, 116, 101]⟩ ++ spB ++ n) := hide rfl
  rw [unhide HF]
  generalize dgS g = DG at *
  generalize dgS v = DV at *
  clear HF
  go_enter Tryd.func41, Tryd.ntmps41
  go_upto_region 1 with fail
  revert HB0 HV0
  generalize (w.alloc _) = W0
  intro HB0 HV0
  have hS0 : VarR W0.drew w.heap.size ⟨6, g, v, n⟩ := (unhide HV0).below (Below.refl _ _).drew
  refine wp_region_ord (fun w' => VarR w' w.heap.size ⟨6, g, v, n⟩) [0, 1, 2] [(1, 0), (2, 0), (0, 2), (3, 3), (4, 3), (5, 3)] (by kernel_rfl) (by kernel_rfl) rfl (by kernel_rfl) ?_
  refine ord_read (.pointer (some ⟨w.heap.size, 0, none⟩)) rfl rfl hS0 (fun W hW => by go_simp) ?_
  refine ord_read (.int .i64 6) rfl rfl hS0 (fun W hW => by obtain ⟨k0, k1, k2, k3⟩ := hW.cells; go_simp) ?_
  refine ord_held rfl rfl ?_
  intro K hK
  unfold Oper.wp
  go_simp
  refine (l13Words_any _).mono ?_
  rintro e w1 ⟨gw, rfl, hgw, hb⟩
  have hS1 := hS0.below hb
  have HB1 := hide (fr (fr (unhide HB0) (Below.refl _ _).drew) hb)
  have cw : w1.cell? ⟨gw, 6, none⟩ = some (.string ⟨#[100, 101, 108, 101, 116, 101]⟩) := by rw [Joins.cell_of_block hgw]; rfl
  refine hK _ _ hS1 ?_
  clear hK K hb hS0 HB0 HV0
  refine ord_alone rfl rfl ?_
  intro K hK
  unfold Oper.wp
  go_simp
  refine hK _ _ ?_
  clear hK K
  refine ord_alone rfl rfl ?_
  intro K hK
  unfold Oper.wp
  go_simp
  refine hK _ _ ?_
  clear hK K
  refine ord_alone rfl rfl ?_
  intro K hK
  unfold Oper.wp
  go_simp
  refine hK _ _ ?_
  clear hK K
  refine ord_done ?_
  obtain ⟨k0, k1, k2, k3⟩ := hS1.cells
  have s1 : (⟨#[100, 101, 108, 101, 116, 101]⟩ ++ (⟨#[32]⟩ : ByteArray)).size = 7 := by decide
  go_wp2
  go_ret
  exact ⟨rfl, unhide HB1⟩

set_option maxHeartbeats 3200000 in
theorem l13Text_7 (q : Rq) (w : World) (hk : q.k = 7) (hg : 0 ≤ q.g ∧ q.g ≤ 2147483647) (hv : 0 ≤ q.v ∧ q.v ≤ 2147483647) (hn : q.n.size ≤ 65536) :
    Calls Tryd.prog 41 #[qV q] w fun e w' => e = .returned (.string (rtS q)) ∧ Below w.heap.size w w' := by
  obtain ⟨k, g, v, n⟩ := q
  simp only at hk hg hv hn
  subst hk
  obtain ⟨g, rfl⟩ := Int.eq_ofNat_of_zero_le hg.1
  obtain ⟨v, rfl⟩ := Int.eq_ofNat_of_zero_le hv.1
  have HB0 := hide (Joins.below_alloc1 w (.cells #[.int .i64 7, .int .i64 g, .int .i64 v, .string n] 27))
  have HV0 : Hid (VarR (w.alloc (.cells #[.int .i64 7, .int .i64 g, .int .i64 v, .string n] 27)) w.heap.size ⟨7, g, v, n⟩) := hide (VarM.new w 27 _ _ _ _)
  have HDG := hide (fun W => l00Digits_any g (by omega) W)
  have HDV := hide (fun W => l00Digits_any v (by omega) W)
  have zg := dgS_size g
  have zv := dgS_size v
  have HF : Hid (rtS ⟨7, g, v, n⟩ = ⟨#[114, 101, 118, 101, 114, 116]⟩ ++ spB ++ n) := hide rfl
  rw [unhide HF]
  generalize dgS g = DG at *
  generalize dgS v = DV at *
  clear HF
  go_enter Tryd.func41, Tryd.ntmps41
  go_upto_region 1 with fail
  revert HB0 HV0
  generalize (w.alloc _) = W0
  intro HB0 HV0
  have hS0 : VarR W0.drew w.heap.size ⟨7, g, v, n⟩ := (unhide HV0).below (Below.refl _ _).drew
  refine wp_region_ord (fun w' => VarR w' w.heap.size ⟨7, g, v, n⟩) [0, 1, 2] [(1, 0), (2, 0), (0, 2), (3, 3), (4, 3), (5, 3)] (by kernel_rfl) (by kernel_rfl) rfl (by kernel_rfl) ?_
  refine ord_read (.pointer (some ⟨w.heap.size, 0, none⟩)) rfl rfl hS0 (fun W hW => by go_simp) ?_
  refine ord_read (.int .i64 7) rfl rfl hS0 (fun W hW => by obtain ⟨k0, k1, k2, k3⟩ := hW.cells; go_simp) ?_
  refine ord_held rfl rfl ?_
  intro K hK
  unfold Oper.wp
  go_simp
  refine (l13Words_any _).mono ?_
  rintro e w1 ⟨gw, rfl, hgw, hb⟩
  have hS1 := hS0.below hb
  have HB1 := hide (fr (fr (unhide HB0) (Below.refl _ _).drew) hb)
  have cw : w1.cell? ⟨gw, 7, none⟩ = some (.string ⟨#[114, 101, 118, 101, 114, 116]⟩) := by rw [Joins.cell_of_block hgw]; rfl
  refine hK _ _ hS1 ?_
  clear hK K hb hS0 HB0 HV0
  refine ord_alone rfl rfl ?_
  intro K hK
  unfold Oper.wp
  go_simp
  refine hK _ _ ?_
  clear hK K
  refine ord_alone rfl rfl ?_
  intro K hK
  unfold Oper.wp
  go_simp
  refine hK _ _ ?_
  clear hK K
  refine ord_alone rfl rfl ?_
  intro K hK
  unfold Oper.wp
  go_simp
  refine hK _ _ ?_
  clear hK K
  refine ord_done ?_
  obtain ⟨k0, k1, k2, k3⟩ := hS1.cells
  have s1 : (⟨#[114, 101, 118, 101, 114, 116]⟩ ++ (⟨#[32]⟩ : ByteArray)).size = 7 := by decide
  go_wp2
  go_ret
  exact ⟨rfl, unhide HB1⟩

set_option maxHeartbeats 3200000 in
theorem l13Text_8 (q : Rq) (w : World) (hk : q.k = 8) (hg : 0 ≤ q.g ∧ q.g ≤ 2147483647) (hv : 0 ≤ q.v ∧ q.v ≤ 2147483647) (hn : q.n.size ≤ 65536) :
    Calls Tryd.prog 41 #[qV q] w fun e w' => e = .returned (.string (rtS q)) ∧ Below w.heap.size w w' := by
  obtain ⟨k, g, v, n⟩ := q
  simp only at hk hg hv hn
  subst hk
  obtain ⟨g, rfl⟩ := Int.eq_ofNat_of_zero_le hg.1
  obtain ⟨v, rfl⟩ := Int.eq_ofNat_of_zero_le hv.1
  have HB0 := hide (Joins.below_alloc1 w (.cells #[.int .i64 8, .int .i64 g, .int .i64 v, .string n] 27))
  have HV0 : Hid (VarR (w.alloc (.cells #[.int .i64 8, .int .i64 g, .int .i64 v, .string n] 27)) w.heap.size ⟨8, g, v, n⟩) := hide (VarM.new w 27 _ _ _ _)
  have HDG := hide (fun W => l00Digits_any g (by omega) W)
  have HDV := hide (fun W => l00Digits_any v (by omega) W)
  have zg := dgS_size g
  have zv := dgS_size v
  have HF : Hid (rtS ⟨8, g, v, n⟩ = ⟨#[108, 105, 115, 116]⟩) := hide rfl
  rw [unhide HF]
  generalize dgS g = DG at *
  generalize dgS v = DV at *
  clear HF
  go_enter Tryd.func41, Tryd.ntmps41
  go_upto_region 1 with fail
  revert HB0 HV0
  generalize (w.alloc _) = W0
  intro HB0 HV0
  have hS0 : VarR W0.drew w.heap.size ⟨8, g, v, n⟩ := (unhide HV0).below (Below.refl _ _).drew
  refine wp_region_ord (fun w' => VarR w' w.heap.size ⟨8, g, v, n⟩) [0, 1, 2] [(1, 0), (2, 0), (0, 2), (3, 3), (4, 3), (5, 3)] (by kernel_rfl) (by kernel_rfl) rfl (by kernel_rfl) ?_
  refine ord_read (.pointer (some ⟨w.heap.size, 0, none⟩)) rfl rfl hS0 (fun W hW => by go_simp) ?_
  refine ord_read (.int .i64 8) rfl rfl hS0 (fun W hW => by obtain ⟨k0, k1, k2, k3⟩ := hW.cells; go_simp) ?_
  refine ord_held rfl rfl ?_
  intro K hK
  unfold Oper.wp
  go_simp
  refine (l13Words_any _).mono ?_
  rintro e w1 ⟨gw, rfl, hgw, hb⟩
  have hS1 := hS0.below hb
  have HB1 := hide (fr (fr (unhide HB0) (Below.refl _ _).drew) hb)
  have cw : w1.cell? ⟨gw, 8, none⟩ = some (.string ⟨#[108, 105, 115, 116]⟩) := by rw [Joins.cell_of_block hgw]; rfl
  refine hK _ _ hS1 ?_
  clear hK K hb hS0 HB0 HV0
  refine ord_alone rfl rfl ?_
  intro K hK
  unfold Oper.wp
  go_simp
  refine hK _ _ ?_
  clear hK K
  refine ord_alone rfl rfl ?_
  intro K hK
  unfold Oper.wp
  go_simp
  refine hK _ _ ?_
  clear hK K
  refine ord_alone rfl rfl ?_
  intro K hK
  unfold Oper.wp
  go_simp
  refine hK _ _ ?_
  clear hK K
  refine ord_done ?_
  obtain ⟨k0, k1, k2, k3⟩ := hS1.cells
  go_wp2
  go_ret
  exact ⟨rfl, unhide HB1⟩

theorem l13Text_any (q : Rq) (w : World) (hk : 1 ≤ q.k ∧ q.k ≤ 8) (hg : 0 ≤ q.g ∧ q.g ≤ 2147483647) (hv : 0 ≤ q.v ∧ q.v ≤ 2147483647) (hn : q.n.size ≤ 65536) :
    Calls Tryd.prog 41 #[qV q] w fun e w' => e = .returned (.string (rtS q)) ∧ Below w.heap.size w w' := by
  rcases (show q.k = 1 ∨ q.k = 2 ∨ q.k = 3 ∨ q.k = 4 ∨ q.k = 5 ∨ q.k = 6 ∨ q.k = 7 ∨ q.k = 8 by omega) with h | h | h | h | h | h | h | h
  · exact l13Text_1 q w h hg hv hn
  · exact l13Text_2 q w h hg hv hn
  · exact l13Text_3 q w h hg hv hn
  · exact l13Text_4 q w h hg hv hn
  · exact l13Text_5 q w h hg hv hn
  · exact l13Text_6 q w h hg hv hn
  · exact l13Text_7 q w h hg hv hn
  · exact l13Text_8 q w h hg hv hn

end Go.Proofs.YtkndabnngdjcgaaDoor
