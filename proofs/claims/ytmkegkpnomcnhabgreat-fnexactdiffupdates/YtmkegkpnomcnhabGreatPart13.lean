import Derived.Test.YtmkegkpnomcnhabGreatPart1
import Derived.Test.YtmkegkpnomcnhabGreatPart9
import Derived.WalkKit
import Derived.WalkSpells
import Derived.OrdersHeld
import Derived.Deep.RegionHeld3
import Derived.Test.YtmkegkpnomcnhabGreatPart2
import Derived.Test.YtmkegkpnomcnhabGreatPart3
import Derived.ProofKit
import Derived.OpenShut
import Derived.ShutString
import Derived.SliceStrings
import Derived.Lib.SmallJoins
import Derived.Test.YtmkegkpnomcnhabGreatRows
import Derived.KernelRfl

/- A region that draws its order, walked in ONE order of the prover's choice: an operation that reads under a condition on the world may be taken first; any other is taken where it stands alone. -/
namespace Go.Proofs.YtmkegkpnomcnhabGreat
open Go.RowKit
set_option linter.unusedVariables false

section
variable {P : Program} {Q : Exit → Act → World → Prop} {S S' : World → Prop} {C : Act → World → Prop} {l : List Oper} {hl : List Nat}

/-- Whatever order is picked from here on; behind the operations of 'hl' S holds. -/
def wpAnyR (P : Program) (l : List Oper) (Q : Exit → Act → World → Prop) (S : World → Prop) (hl : List Nat) : Nat → Array Bool → Act → World → Prop
  | 0, listed, a, w => Region.ready .any l.toArray listed = [] ∧ Q .normal a w
  | fuel + 1, listed, a, w =>
    (Region.ready .any l.toArray listed = [] → Q .normal a w) ∧
    ∀ i ∈ Region.ready .any l.toArray listed, wpOp P l.toArray Q i (fun a' w' => (i ∈ hl → S w') ∧ wpAnyR P l Q S hl fuel (listed.setIfInBounds i true) a' w') a w
theorem wpAny_of_R : ∀ (fuel : Nat) (listed : Array Bool) (a : Act) (w : World), wpAnyR P l Q S hl fuel listed a w → wpAny P .any l.toArray Q fuel listed a w
  | 0, _, _, _, h => h
  | fuel + 1, _, _, _, h => ⟨h.1, fun i hi => wpOp_mono (fun a' w' h' => wpAny_of_R fuel _ a' w' h'.2) (h.2 i hi)⟩

abbrev lsD (listed : Array Bool) : Nat → Bool := fun j => listed.getD j false
theorem closed_set {listed : Array Bool} {i : Nat} (hc : Closed l (lsD listed)) (hi : i ∈ Region.ready .any l.toArray listed) : Closed l (lsD (listed.setIfInBounds i true)) := by
  intro j o ho hd e he hb
  by_cases hji : j = i
  · subst hji
    obtain ⟨_, o', ho', hp⟩ := mem_ready.1 hi
    have h2 : l.toArray[j]? = l[j]? := by simp
    rw [h2, ho] at ho'
    cases ho'
    exact getD_set_true (hp e he hb)
  · have : lsD listed j = true := by
      have hd' : (listed.setIfInBounds i true).getD j false = true := hd
      rwa [getD_set_ne false (Ne.symm hji)] at hd'
    exact getD_set_true (hc j o ho this e he hb)
/-- The second has come up where the first has. -/
def Anc (l : List Oper) (j i : Nat) : Prop := ∀ d : Nat → Bool, Closed l d → d j = true → d i = true
theorem rg_unlisted {listed : Array Bool} {i : Nat} (h : listed.getD i true = false) : i < listed.size ∧ listed.getD i false = false := by
  rw [Array.getD_eq_getD_getElem?] at h ⊢
  by_cases hi : i < listed.size
  · rw [Array.getElem?_eq_getElem hi] at h ⊢
    exact ⟨hi, by simpa using h⟩
  · rw [Array.getElem?_eq_none (Nat.le_of_not_lt hi)] at h
    simp at h
theorem ready_anc {listed : Array Bool} {i j : Nat} (hc : Closed l (lsD listed)) (hj : j ∈ Region.ready .any l.toArray listed) (hr : Anc l j i) (hne : j ≠ i) (hi : listed.getD i true = false) : False := by
  have h1 := (mem_ready.1 hj).1
  have h2 := hr _ (closed_set hc hj) (by
    show (listed.setIfInBounds j true).getD j false = true
    have := (rg_unlisted h1).1
    simp [Array.getD_eq_getD_getElem?, this])
  have h3 : (listed.setIfInBounds j true).getD i false = true := h2
  rw [getD_set_ne false hne, (rg_unlisted hi).2] at h3
  cases h3

theorem wpAnyR_first {i : Nat} {oi : Oper} {v : Value} (hi : l.toArray[i]? = some oi) (hsel : ∀ (j : Nat) (o : Oper) cs b, l.toArray[j]? = some o → o.op ≠ .select cs b)
    (hQ : ∀ c a w, Q (.panic c) (a.put oi.dst v) w → Q (.panic c) a w) (hSS : ∀ w, S w → S' w) (hst : ∀ j, j < l.length → j ∉ hl → j ≠ i → Anc l j i ∨ ((∀ w, S' w) ∧ i ∉ hl)) :
    ∀ (fuel : Nat) (listed : Array Bool) (a : Act) (w : World), Closed l (lsD listed) →
      (∀ j oj, l.toArray[j]? = some oj → j ≠ i → listed.getD j true = false → (∀ e ∈ oj.after, Region.binds .any e = true → e.on ≠ i) → oi.apart l.toArray oj = true) →
      i ∈ Region.ready .any l.toArray listed → YieldsIf P l.toArray S' oi v a → S' w → (i ∈ hl → S w) →
      wpAnyR P l Q S hl fuel (listed.setIfInBounds i true) (a.put oi.dst v) w → wpAnyR P l Q S hl (fuel + 1) listed a w := by
  intro fuel
  induction fuel with
  | zero =>
    intro listed a w hc _ hr hy hS hSw H
    refine ⟨fun h => (by rw [h] at hr; cases hr), fun j hj => ?_⟩
    by_cases hji : j = i
    · subst hji; exact hy.wpOp hi hS ⟨hSw, H⟩
    · have := ready_mono hj hji
      rw [H.1] at this
      cases this
  | succ fuel ih =>
    intro listed a w hc hfree hr hy hS hSw H
    refine ⟨fun h => (by rw [h] at hr; cases hr), fun j hj => ?_⟩
    by_cases hji : j = i
    · subst hji; exact hy.wpOp hi hS ⟨hSw, H⟩
    · have h1 := H.2 j (ready_mono hj hji)
      obtain ⟨hjun, oj, hoj, hall⟩ := mem_ready.1 hj
      have hiun := (mem_ready.1 hr).1
      have hnot : ∀ e ∈ oj.after, Region.binds .any e = true → e.on ≠ i := fun e he hb heq => by
        have h1 := hall e he hb
        rw [heq, (rg_unlisted hiun).2] at h1
        cases h1
      have h2 := wpOp_putIf hoj (hfree j oj hoj hji hjun hnot) (fun cs b => hsel i oi cs b hi) (fun cs b => hsel j oj cs b hoj) hQ hy h1
      have hfree' : ∀ k ok, l.toArray[k]? = some ok → k ≠ i → (listed.setIfInBounds j true).getD k true = false →
          (∀ e ∈ ok.after, Region.binds .any e = true → e.on ≠ i) → oi.apart l.toArray ok = true := fun k ok hk hki hun hno => by
        refine hfree k ok hk hki ?_ hno
        by_cases hjk : j = k
        · subst hjk; exact hjun
        · rw [getD_set_ne true hjk] at hun; exact hun
      have hjl : j < l.length := by have := (Array.getElem?_eq_some_iff.1 hoj).1; simpa using this
      have hkey : ∀ w', (j ∈ hl → S w') → S' w' ∧ (i ∈ hl → S w') := fun w' h => by
        by_cases hjh : j ∈ hl
        · exact ⟨hSS _ (h hjh), fun _ => h hjh⟩
        · rcases hst j hjl hjh hji with h5 | h5
          · exact (ready_anc hc hj h5 hji hiun).elim
          · exact ⟨h5.1 _, fun h6 => absurd h6 h5.2⟩
      refine wpOp_mono (fun a' w' h3 => ⟨h3.2.1, ih (listed.setIfInBounds j true) a' w' (closed_set hc hj) hfree' (ready_mono hr (Ne.symm hji)) h3.1 (hkey w' h3.2.1).1 (hkey w' h3.2.1).2 ?_⟩) h2
      rw [Array.setIfInBounds_comm _ _ hji]
      exact h3.2.2

/-- Who must have come up ahead of whom. -/
def ancGo : List Oper → List (List Nat) → List (List Nat)
  | [], acc => acc
  | o :: r, acc => ancGo r (acc ++ [(o.after.toList.flatMap fun e => if Region.binds .any e then e.on :: acc.getD e.on [] else []).eraseDups])
def ancs (l : List Oper) : List (List Nat) := ancGo l []
theorem ancGo_spec (L : List Oper) : ∀ (r : List Oper) (acc : List (List Nat)), (∀ k, r[k]? = L[acc.length + k]?) → (∀ j, ∀ i ∈ acc.getD j [], Anc L j i) → ∀ j, ∀ i ∈ (ancGo r acc).getD j [], Anc L j i
  | [], acc, _, h => h
  | o :: r, acc, hr, h => by
    unfold ancGo
    refine ancGo_spec L r _ (fun k => ?_) (fun j i hi => ?_)
    · have := hr (k + 1)
      rw [List.length_append, List.length_singleton, Nat.add_assoc, Nat.add_comm 1 k]
      simpa using this
    · by_cases hj : j < acc.length
      · rw [List.getD_eq_getElem?_getD, List.getElem?_append_left hj, ← List.getD_eq_getElem?_getD] at hi
        exact h j i hi
      · by_cases hj2 : j = acc.length
        · subst hj2
          rw [List.getD_eq_getElem?_getD, List.getElem?_append_right (Nat.le_refl _), Nat.sub_self] at hi
          simp only [List.getElem?_cons_zero, Option.getD_some, List.mem_eraseDups, List.mem_flatMap] at hi
          obtain ⟨e, he, hie⟩ := hi
          have ho : L[acc.length]? = some o := by have := hr 0; simpa using this.symm
          intro d hc hd
          by_cases hb : Region.binds .any e = true
          · rw [if_pos hb] at hie
            have h1 := hc _ o ho hd e (by simpa using he) hb
            rcases List.mem_cons.1 hie with rfl | hie
            · exact h1
            · exact h e.on i hie d hc h1
          · rw [if_neg hb] at hie
            cases hie
        · rw [List.getD_eq_getElem?_getD, List.getElem?_eq_none (by rw [List.length_append, List.length_singleton]; omega)] at hi
          simp at hi
theorem ancs_spec {l : List Oper} {j i : Nat} (h : ((ancs l).getD j []).contains i = true) : Anc l j i :=
  ancGo_spec l l [] (fun k => by simp) (fun j i hi => by simp at hi) j i (by simpa [ancs] using h)

/-- May number 'i' be taken first? -/
def rgFrB (l : List Oper) (listed : Array Bool) (i : Nat) : Bool := (Region.ready .any l.toArray listed).contains i && Region.free .any l.toArray listed i
/-- Does it come up ahead of all behind which S need not hold? -/
def rgStB (l : List Oper) (hl : List Nat) (i : Nat) : Bool := (List.range l.length).all fun j => hl.contains j || j == i || ((ancs l).getD j []).contains i
/-- Is this order one that serves? Kinds: 0 reads under S · 2 stands alone, S holds behind it · 3 stands alone · 4 yields in whatever world · 5 is not wanted, S stands · else: is not wanted. -/
def rgOrdB (l : List Oper) (hl : List Nat) : List (Nat × Nat) → Array Bool → Bool
  | [], _ => true
  | (i, k) :: r, listed => (match k with
      | 0 => rgFrB l listed i && rgStB l hl i
      | 2 => hl.contains i && (Region.ready .any l.toArray listed == [i])
      | 3 => !hl.contains i && (Region.ready .any l.toArray listed == [i])
      | 4 => !hl.contains i && rgFrB l listed i
      | 5 => rgFrB l listed i && rgStB l hl i
      | _ => !hl.contains i && rgFrB l listed i) && rgOrdB l hl r (listed.setIfInBounds i true)
/-- What has come up behind these. -/
def rgSet : List (Nat × Nat) → Array Bool → Array Bool
  | [], listed => listed
  | (i, _) :: r, listed => rgSet r (listed.setIfInBounds i true)
/-- The walk. -/
def wpOrd (P : Program) (l : List Oper) (Q : Exit → Act → World → Prop) (S : World → Prop) (C : Act → World → Prop) : List (Nat × Nat) → Act → World → Prop
  | [], a, w => C a w
  | (i, k) :: r, a, w => ∀ o, l[i]? = some o → match k with
      | 0 => Region.wanted o (yielded l.toArray a.tmps) = true ∧ S w ∧ ∃ v, (∀ w', S w' → (execOp a.eval o).run P w' = .ok (.value v) w') ∧ wpOrd P l Q S C r (a.put o.dst v) w
      | 2 => Region.wanted o (yielded l.toArray a.tmps) = true ∧ o.wp P a w (fun a' w' => S w' ∧ wpOrd P l Q S C r a' w') Q
      | 3 => Region.wanted o (yielded l.toArray a.tmps) = true ∧ o.wp P a w (wpOrd P l Q S C r) Q
      | 4 => Region.wanted o (yielded l.toArray a.tmps) = true ∧ ∃ v, (∀ w', (execOp a.eval o).run P w' = .ok (.value v) w') ∧ wpOrd P l Q S C r (a.put o.dst v) w
      | 5 => Region.wanted o (yielded l.toArray a.tmps) = false ∧ S w ∧ wpOrd P l Q S C r (a.put o.dst undef) w
      | _ => Region.wanted o (yielded l.toArray a.tmps) = false ∧ wpOrd P l Q S C r (a.put o.dst undef) w
theorem rgSt_spec {i : Nat} (h : rgStB l hl i = true) : ∀ j, j < l.length → j ∉ hl → j ≠ i → Anc l j i := fun j hj hh hne => by
  have := List.all_eq_true.1 h j (List.mem_range.2 hj)
  simp only [Bool.or_eq_true, List.contains_iff_mem, beq_iff_eq] at this
  rcases this with (h1 | h1) | h1
  · exact absurd h1 hh
  · exact absurd h1 hne
  · exact ancs_spec (by simpa using h1)
theorem anyR_of_ord (hs : Region.noSelect l.toArray = true) (hQ : ∀ c a w, Q (.panic c) a w → False) (fuel : Nat) : ∀ (ord : List (Nat × Nat)) (listed : Array Bool) (a : Act) (w : World), Closed l (lsD listed) → rgOrdB l hl ord listed = true → wpOrd P l Q S (fun a w => Closed l (lsD (rgSet ord listed)) → wpAnyR P l Q S hl fuel (rgSet ord listed) a w) ord a w → wpAnyR P l Q S hl (ord.length + fuel) listed a w
  | [], listed, a, w, hc, hB, h => by simpa [rgSet] using h hc
  | (i, k) :: r, listed, a, w, hc, hB, h => by
    rw [show ((i, k) :: r).length + fuel = (r.length + fuel) + 1 by simp only [List.length_cons]; omega]
    have hrs : rgSet ((i, k) :: r) listed = rgSet r (listed.setIfInBounds i true) := rfl
    rw [hrs] at h
    obtain ⟨C, hC⟩ : ∃ C, C = (fun a w => Closed l (lsD (rgSet r (listed.setIfInBounds i true))) → wpAnyR P l Q S hl fuel (rgSet r (listed.setIfInBounds i true)) a w) := ⟨_, rfl⟩
    rw [← hC] at h
    unfold rgOrdB at hB
    rw [Bool.and_eq_true] at hB
    obtain ⟨hB1, hB2⟩ := hB
    have hone : ∀ (hrd : Region.ready .any l.toArray listed = [i]) (hw : ∀ o, l[i]? = some o → Region.wanted o (yielded l.toArray a.tmps) = true ∧ o.wp P a w (fun a' w' => (i ∈ hl → S w') ∧ wpOrd P l Q S C r a' w') Q), wpAnyR P l Q S hl (r.length + fuel + 1) listed a w := by
      intro hrd hw
      refine ⟨fun h0 => (by rw [hrd] at h0; cases h0), fun j hj => ?_⟩
      have hji : j = i := by rw [hrd] at hj; simpa using hj
      subst hji
      obtain ⟨_, o, ho, _⟩ := mem_ready.1 hj
      have ho' : l[j]? = some o := by simpa using ho
      obtain ⟨h1, h2⟩ := hw o ho'
      unfold wpOp
      simp only [ho]
      rw [if_pos h1]
      exact .inl (Oper.wp_mono (fun a' w' h3 => ⟨h3.1, anyR_of_ord hs hQ fuel r _ a' w' (closed_set hc hj) hB2 (hC ▸ h3.2)⟩) h2)
    have hfirst : ∀ (v : Value) (S' : World → Prop) (hf : rgFrB l listed i = true) (hSS : ∀ w, S w → S' w) (hst : ∀ j, j < l.length → j ∉ hl → j ≠ i → Anc l j i ∨ ((∀ w, S' w) ∧ i ∉ hl)) (hS' : S' w) (hSw : i ∈ hl → S w)
        (hy : ∀ o, l[i]? = some o → YieldsIf P l.toArray S' o v a ∧ wpOrd P l Q S C r (a.put o.dst v) w), wpAnyR P l Q S hl (r.length + fuel + 1) listed a w := by
      intro v S' hf hSS hst hS' hSw hy
      unfold rgFrB at hf
      rw [Bool.and_eq_true] at hf
      have hir : i ∈ Region.ready .any l.toArray listed := by simpa using hf.1
      obtain ⟨_, o, ho, _⟩ := mem_ready.1 hir
      have ho' : l[i]? = some o := by simpa using ho
      obtain ⟨h1, h2⟩ := hy o ho'
      exact wpAnyR_first ho (Region.noSelect_spec hs) (fun c a w h => (hQ _ _ _ h).elim) hSS hst (r.length + fuel) listed a w hc (Region.free_spec ho hf.2) hir h1 hS' hSw (anyR_of_ord hs hQ fuel r _ _ _ (closed_set hc hir) hB2 (hC ▸ h2))
    match k, hB1, h with
    | 0, hB1, h =>
      simp only [Bool.and_eq_true] at hB1
      have hir : i ∈ Region.ready .any l.toArray listed := by have := hB1.1; unfold rgFrB at this; rw [Bool.and_eq_true] at this; simpa using this.1
      obtain ⟨_, o, ho, _⟩ := mem_ready.1 hir
      have ho' : l[i]? = some o := by simpa using ho
      obtain ⟨h1, h2, v, h3, h4⟩ := h o ho'
      exact hfirst v S hB1.1 (fun _ h => h) (fun j a b c => .inl (rgSt_spec hB1.2 j a b c)) h2 (fun _ => h2) (fun o2 ho2 => by
        rw [ho'] at ho2
        cases ho2
        exact ⟨.inl ⟨h1, h3⟩, h4⟩)
    | 1, hB1, h =>
      simp only [Bool.and_eq_true, Bool.not_eq_true'] at hB1
      exact hfirst undef (fun _ => True) hB1.2 (fun _ _ => trivial) (fun _ _ _ _ => .inr ⟨fun _ => trivial, by simpa using hB1.1⟩) trivial (fun h6 => absurd h6 (by simpa using hB1.1)) (fun o ho => ⟨.inr ⟨(h o ho).1, rfl⟩, (h o ho).2⟩)
    | 2, hB1, h =>
      simp only [Bool.and_eq_true, beq_iff_eq] at hB1
      exact hone hB1.2 (fun o ho => ⟨(h o ho).1, Oper.wp_mono (fun a' w' h3 => ⟨fun _ => h3.1, h3.2⟩) (h o ho).2⟩)
    | 3, hB1, h =>
      simp only [Bool.and_eq_true, beq_iff_eq, Bool.not_eq_true'] at hB1
      exact hone hB1.2 (fun o ho => ⟨(h o ho).1, Oper.wp_mono (fun a' w' h3 => ⟨fun h6 => absurd h6 (by simpa using hB1.1), h3⟩) (h o ho).2⟩)
    | 4, hB1, h =>
      simp only [Bool.and_eq_true, Bool.not_eq_true'] at hB1
      have hir : i ∈ Region.ready .any l.toArray listed := by have := hB1.2; unfold rgFrB at this; rw [Bool.and_eq_true] at this; simpa using this.1
      obtain ⟨_, o, ho, _⟩ := mem_ready.1 hir
      have ho' : l[i]? = some o := by simpa using ho
      obtain ⟨h1, v, h3, h4⟩ := h o ho'
      exact hfirst v (fun _ => True) hB1.2 (fun _ _ => trivial) (fun _ _ _ _ => .inr ⟨fun _ => trivial, by simpa using hB1.1⟩) trivial (fun h6 => absurd h6 (by simpa using hB1.1)) (fun o2 ho2 => by
        rw [ho'] at ho2
        cases ho2
        exact ⟨.inl ⟨h1, fun w' _ => h3 w'⟩, h4⟩)
    | 5, hB1, h =>
      simp only [Bool.and_eq_true] at hB1
      have hir : i ∈ Region.ready .any l.toArray listed := by have := hB1.1; unfold rgFrB at this; rw [Bool.and_eq_true] at this; simpa using this.1
      obtain ⟨_, o, ho, _⟩ := mem_ready.1 hir
      have ho' : l[i]? = some o := by simpa using ho
      obtain ⟨h1, h2, h4⟩ := h o ho'
      exact hfirst undef S hB1.1 (fun _ h => h) (fun j a b c => .inl (rgSt_spec hB1.2 j a b c)) h2 (fun _ => h2) (fun o2 ho2 => by
        rw [ho'] at ho2
        cases ho2
        exact ⟨.inr ⟨h1, rfl⟩, h4⟩)
    | n + 6, hB1, h =>
      simp only [Bool.and_eq_true, Bool.not_eq_true'] at hB1
      exact hfirst undef (fun _ => True) hB1.2 (fun _ _ => trivial) (fun _ _ _ _ => .inr ⟨fun _ => trivial, by simpa using hB1.1⟩) trivial (fun h6 => absurd h6 (by simpa using hB1.1)) (fun o ho => ⟨.inr ⟨(h o ho).1, rfl⟩, (h o ho).2⟩)

theorem closed_none (n : Nat) : Closed l (lsD (Array.replicate n false)) := fun j o _ hd => by
  have hd' : (Array.replicate n false).getD j false = true := hd
  rw [Array.getD_eq_getD_getElem?, Array.getElem?_replicate] at hd'
  split at hd' <;> simp at hd'
theorem ord_imp {C' : Act → World → Prop} (hC : ∀ a w, C a w → C' a w) : ∀ (ord : List (Nat × Nat)) (a : Act) (w : World), wpOrd P l Q S C ord a w → wpOrd P l Q S C' ord a w
  | [], a, w, h => hC a w h
  | (i, k) :: r, a, w, h => fun o ho => by
    have h1 := h o ho
    match k, h1 with
    | 0, h1 => exact ⟨h1.1, h1.2.1, h1.2.2.imp fun v hv => ⟨hv.1, ord_imp hC r _ _ hv.2⟩⟩
    | 1, h1 => exact ⟨h1.1, ord_imp hC r _ _ h1.2⟩
    | 2, h1 => exact ⟨h1.1, Oper.wp_mono (fun a' w' h3 => ⟨h3.1, ord_imp hC r _ _ h3.2⟩) h1.2⟩
    | 3, h1 => exact ⟨h1.1, Oper.wp_mono (fun a' w' h3 => ord_imp hC r _ _ h3) h1.2⟩
    | 4, h1 => exact ⟨h1.1, h1.2.imp fun v hv => ⟨hv.1, ord_imp hC r _ _ hv.2⟩⟩
    | 5, h1 => exact ⟨h1.1, h1.2.1, ord_imp hC r _ _ h1.2.2⟩
    | n + 6, h1 => exact ⟨h1.1, ord_imp hC r _ _ h1.2⟩
/-- **A region that draws its order, in one order of the prover's choice.** -/
theorem wp_region_ord {id : Nat} {a : Act} {w : World} (S : World → Prop) (hl : List Nat) (ord : List (Nat × Nat)) (hm : P.follows .mixedOrders = true) (hs : Region.noSelect l.toArray = true) (hn : ord.length = l.length) (hB : (rgOrdB l hl ord (Array.replicate l.length false) && (Region.ready .any l.toArray (rgSet ord (Array.replicate l.length false))).isEmpty) = true)
    (h : wpOrd P l (NoPanic Q) S (fun a w => NoPanic Q .normal a w) ord a w.drew) : (Code.region id l.toArray true).wp P Q a w := by
  refine wp_region_noPanic (wp_region_any hm (wpAny_of_R (S := S) (hl := hl) _ _ _ _ ?_))
  rw [Bool.and_eq_true] at hB
  have := anyR_of_ord (P := P) (Q := NoPanic Q) (S := S) (hl := hl) hs (fun _ _ _ h => h) 0 ord _ a w.drew (closed_none _) hB.1 (ord_imp (fun a w h _ => ⟨by simpa using hB.2, h⟩) ord _ _ h)
  rw [Nat.add_zero, hn] at this
  simpa using this
/-- .. as a tree of orders: where several stand that none may be taken first of, the walk parts. -/
def wpT (P : Program) (l : List Oper) (Q : Exit → Act → World → Prop) (S : World → Prop) (hl : List Nat) (fuel : Nat) (listed : Array Bool) (a : Act) (w : World) : Prop := Closed l (lsD listed) → wpAnyR P l Q S hl fuel listed a w
theorem wp_region_tree {id : Nat} {a : Act} {w : World} (S : World → Prop) (hl : List Nat) (hm : P.follows .mixedOrders = true) (h : wpT P l (NoPanic Q) S hl l.length (Array.replicate l.length false) a w.drew) : (Code.region id l.toArray true).wp P Q a w :=
  wp_region_noPanic (wp_region_any hm (wpAny_of_R (S := S) (hl := hl) _ _ _ _ (by simpa using h (closed_none _))))
/-- A stretch of one order. -/
theorem tree_seg {fuel n : Nat} {listed : Array Bool} {a : Act} {w : World} (ord : List (Nat × Nat)) (hs : Region.noSelect l.toArray = true) (hn : fuel = ord.length + n) (hB : rgOrdB l hl ord listed = true)
    (h : wpOrd P l (NoPanic Q) S (fun a w => wpT P l (NoPanic Q) S hl n (rgSet ord listed) a w) ord a w) : wpT P l (NoPanic Q) S hl fuel listed a w := fun hc => by
  rw [hn]
  exact anyR_of_ord hs (fun _ _ _ h => h) n ord listed a w hc hB h
/-- Two may come up. -/
theorem tree_two {fuel i j : Nat} {oi oj : Oper} {listed : Array Bool} {a : Act} {w : World} (hi : l[i]? = some oi) (hj : l[j]? = some oj) (gi : oi.guard = none) (gj : oj.guard = none) (hB : (Region.ready .any l.toArray listed == [i, j]) = true)
    (h1 : ∀ K : Act → World → Prop, (∀ a' w', (i ∈ hl → S w') → wpT P l Q S hl fuel (listed.setIfInBounds i true) a' w' → K a' w') → oi.wp P a w K Q)
    (h2 : ∀ K : Act → World → Prop, (∀ a' w', (j ∈ hl → S w') → wpT P l Q S hl fuel (listed.setIfInBounds j true) a' w' → K a' w') → oj.wp P a w K Q) : wpT P l Q S hl (fuel + 1) listed a w := fun hc => by
  have hr : Region.ready .any l.toArray listed = [i, j] := by simpa using hB
  refine ⟨fun h0 => (by rw [hr] at h0; cases h0), fun k hk => ?_⟩
  have hk' : k = i ∨ k = j := by rw [hr] at hk; simpa using hk
  rcases hk' with rfl | rfl
  · unfold wpOp
    have e : l.toArray[k]? = some oi := by simpa using hi
    simp only [e]
    rw [if_pos (by simp [Region.wanted, gi])]
    exact .inl (h1 _ (fun a' w' hS h3 => ⟨hS, h3 (closed_set hc hk)⟩))
  · unfold wpOp
    have e : l.toArray[k]? = some oj := by simpa using hj
    simp only [e]
    rw [if_pos (by simp [Region.wanted, gj])]
    exact .inl (h2 _ (fun a' w' hS h3 => ⟨hS, h3 (closed_set hc hk)⟩))
theorem tree_done {fuel : Nat} {listed : Array Bool} {a : Act} {w : World} (hB : (Region.ready .any l.toArray listed).isEmpty = true) (h : Q .normal a w) : wpT P l (NoPanic Q) S hl fuel listed a w := fun _ => by
  have hr : Region.ready .any l.toArray listed = [] := by simpa using hB
  cases fuel with
  | zero => exact ⟨hr, h⟩
  | succ n => exact ⟨fun _ => h, by rw [hr]; simp⟩

/-! The moves. -/
theorem ord_read {i : Nat} {o : Oper} {r : List (Nat × Nat)} {a : Act} {w : World} (v : Value) (ho : l[i]? = some o) (hg : o.guard = none) (hS : S w) (hv : ∀ w', S w' → (execOp a.eval o).run P w' = .ok (.value v) w') (h : wpOrd P l Q S C r (a.put o.dst v) w) : wpOrd P l Q S C ((i, 0) :: r) a w := by
  intro o2 ho2
  rw [ho] at ho2
  cases ho2
  exact ⟨by simp [Region.wanted, hg], hS, v, hv, h⟩
theorem ord_val {i : Nat} {o : Oper} {r : List (Nat × Nat)} {a : Act} {w : World} (v : Value) (ho : l[i]? = some o) (hg : o.guard = none) (hv : ∀ w', (execOp a.eval o).run P w' = .ok (.value v) w') (h : wpOrd P l Q S C r (a.put o.dst v) w) : wpOrd P l Q S C ((i, 4) :: r) a w := by
  intro o2 ho2
  rw [ho] at ho2
  cases ho2
  exact ⟨by simp [Region.wanted, hg], v, hv, h⟩
theorem ord_held {i : Nat} {o : Oper} {r : List (Nat × Nat)} {a : Act} {w : World} (ho : l[i]? = some o) (hg : o.guard = none) (h : ∀ K : Act → World → Prop, (∀ a' w', S w' → wpOrd P l Q S C r a' w' → K a' w') → o.wp P a w K Q) : wpOrd P l Q S C ((i, 2) :: r) a w := by
  intro o2 ho2
  rw [ho] at ho2
  cases ho2
  exact ⟨by simp [Region.wanted, hg], h _ (fun a' w' h1 h2 => ⟨h1, h2⟩)⟩
theorem ord_alone {i : Nat} {o : Oper} {r : List (Nat × Nat)} {a : Act} {w : World} (ho : l[i]? = some o) (hg : o.guard = none) (h : ∀ K : Act → World → Prop, (∀ a' w', wpOrd P l Q S C r a' w' → K a' w') → o.wp P a w K Q) : wpOrd P l Q S C ((i, 3) :: r) a w := by
  intro o2 ho2
  rw [ho] at ho2
  cases ho2
  exact ⟨by simp [Region.wanted, hg], h _ (fun a' w' h2 => h2)⟩
theorem ord_done {a : Act} {w : World} (h : Q .normal a w) : wpOrd P l (NoPanic Q) S (fun a w => NoPanic Q .normal a w) [] a w := h
theorem ord_end {a : Act} {w : World} (h : C a w) : wpOrd P l Q S C [] a w := h
/-! The same under guards. -/
theorem ordG_read {i : Nat} {o : Oper} {r : List (Nat × Nat)} {a : Act} {w : World} (v : Value) (ho : l[i]? = some o) (hg : Region.wanted o (yielded l.toArray a.tmps) = true) (hS : S w) (hv : ∀ w', S w' → (execOp a.eval o).run P w' = .ok (.value v) w') (h : wpOrd P l Q S C r (a.put o.dst v) w) : wpOrd P l Q S C ((i, 0) :: r) a w := by
  intro o2 ho2
  rw [ho] at ho2
  cases ho2
  exact ⟨hg, hS, v, hv, h⟩
theorem ordG_held {i : Nat} {o : Oper} {r : List (Nat × Nat)} {a : Act} {w : World} (ho : l[i]? = some o) (hg : Region.wanted o (yielded l.toArray a.tmps) = true) (h : ∀ K : Act → World → Prop, (∀ a' w', S w' → wpOrd P l Q S C r a' w' → K a' w') → o.wp P a w K Q) : wpOrd P l Q S C ((i, 2) :: r) a w := by
  intro o2 ho2
  rw [ho] at ho2
  cases ho2
  exact ⟨hg, h _ (fun a' w' h1 h2 => ⟨h1, h2⟩)⟩
theorem ordG_skip {i : Nat} {o : Oper} {r : List (Nat × Nat)} {a : Act} {w : World} (ho : l[i]? = some o) (hg : Region.wanted o (yielded l.toArray a.tmps) = false) (hS : S w) (h : wpOrd P l Q S C r (a.put o.dst undef) w) : wpOrd P l Q S C ((i, 5) :: r) a w := by
  intro o2 ho2
  rw [ho] at ho2
  cases ho2
  exact ⟨hg, hS, h⟩
end

end Go.Proofs.YtmkegkpnomcnhabGreat

/- Plain words of journals: updates, their texts, slots, moves. -/
namespace Go.Proofs.YtmkegkpnomcnhabGreat
open Go.RowKit
set_option linter.unusedVariables false

structure Up where
  at_ : Int
  data : ByteArray
theorem Up.eq_iff {x y : Up} : x = y ↔ x.at_ = y.at_ ∧ x.data = y.data := by
  cases x; cases y; simp
abbrev uV (u : Up) : Value := .agg #[.int .i64 u.at_, .string u.data]
def up0 : Up := ⟨0, ⟨#[]⟩⟩
def upB (u : Up) : Bool := inB u.at_ 9 38 && decide (u.data.size ≤ 72)
theorem upB_iff {u : Up} : upB u = true ↔ (9 ≤ u.at_ ∧ u.at_ ≤ 38) ∧ u.data.size ≤ 72 := by
  simp only [upB, inB, Bool.and_eq_true, decide_eq_true_eq]
/-- Its text. -/
def encU (u : Up) : ByteArray := sealS 8 [u.at_] ++ u.data
theorem encU_size (u : Up) : (encU u).size = 8 + u.data.size := by rw [encU, ByteArray.size_append, sealS_size]; rfl
def euC (u : Up) : Int := if upB u = true then 0 else 1
def euR (u : Up) : ByteArray := if upB u = true then encU u else ⟨#[]⟩
/-- What a text says. -/
abbrev duH (t : ByteArray) : ByteArray := t.extract 0 8
abbrev duT (t : ByteArray) : ByteArray := t.extract 8 t.size
def duL (t : ByteArray) : List Int := openL (duH t) 8
def duX (t : ByteArray) : Up := ⟨(duL t).getD 0 0, duT t⟩
def duB (t : ByteArray) : Bool := decide (8 ≤ t.size) && (openB (duH t) 8 && upB (duX t))
def duU (t : ByteArray) : Up := if duB t = true then duX t else up0
theorem duH_size {t : ByteArray} (h : 8 ≤ t.size) : (duH t).size = 8 := by simp [duH]; omega
theorem duT_size (t : ByteArray) : (duT t).size = t.size - 8 := by simp [duT]
theorem duB_short {t : ByteArray} (h : t.size < 8) : duB t = false := by simp [duB]; omega
theorem duB_open {t : ByteArray} (h : openB (duH t) 8 = false) : duB t = false := by simp [duB, h]
theorem duL_one {t : ByteArray} (h : 8 ≤ t.size) (ho : openB (duH t) 8 = true) : (duL t).length = 1 := by
  rw [duL, openL_yes ho, unL_length, bodyT_size, duH_size h]
theorem duL_eq {t : ByteArray} (h : 8 ≤ t.size) (ho : openB (duH t) 8 = true) : duL t = [(duX t).at_] := by
  have := duL_one h ho
  show duL t = [(duL t).getD 0 0]
  match hq : duL t, this with
  | [a], _ => rfl
theorem duX_at {t : ByteArray} {a : Int} (h : duL t = [a]) : duX t = ⟨a, duT t⟩ := by rw [duX, h]; rfl
theorem duB_at {t : ByteArray} (h : 8 ≤ t.size) (ho : openB (duH t) 8 = true) : duB t = upB (duX t) := by simp [duB, ho, h]
theorem du_no {t : ByteArray} (h : duB t = false) : duU t = up0 := by simp [duU, h]
theorem du_yes {t : ByteArray} (h : duB t = true) : duU t = duX t := if_pos h
theorem duB_parts {t : ByteArray} (h : duB t = true) : 8 ≤ t.size ∧ openB (duH t) 8 = true ∧ upB (duX t) = true := by
  simpa [duB, and_assoc] using h
theorem du_right {t : ByteArray} (h : duB t = true) : upB (duU t) = true := by rw [du_yes h]; exact (duB_parts h).2.2
/-- What DecodeUpdate answers. -/
def dkC (t : ByteArray) : Int := if 65536 < t.size then 2 else if duB t = true then 0 else 3
def dkU (t : ByteArray) : Up := if 65536 < t.size then up0 else duU t
theorem dk_long {t : ByteArray} (h : 65536 < t.size) : dkU t = up0 ∧ dkC t = 2 := ⟨if_pos h, if_pos h⟩
theorem dk_no {t : ByteArray} (h : ¬ 65536 < t.size) (hd : duB t = false) : dkU t = up0 ∧ dkC t = 3 := ⟨(if_neg h).trans (du_no hd), (if_neg h).trans (if_neg (by simp [hd]))⟩
theorem dk_yes {t : ByteArray} (h : ¬ 65536 < t.size) (hd : duB t = true) : dkU t = duU t ∧ dkC t = 0 := ⟨if_neg h, (if_neg h).trans (if_pos hd)⟩
theorem ret_ui {a b : Up} {x y : Int} (h : a = b) (k : x = y) : Ending.returned (.tuple #[uV a, .int .i64 x]) = .returned (.tuple #[uV b, .int .i64 y]) := by rw [h, k]
theorem ret_ub {a b : Up} {x y : Bool} (h : a = b) (k : x = y) : Ending.returned (.tuple #[uV a, .bool x]) = .returned (.tuple #[uV b, .bool y]) := by rw [h, k]
theorem ret_su {a b : ByteArray} {c d : Int} (h : a = b) (k : c = d) : Ending.returned (.tuple #[.string a, .int .i64 c]) = .returned (.tuple #[.string b, .int .i64 d]) := by rw [h, k]
/-- One in a variable. -/
def VarU (w : World) (x : Nat) (t : TypeId) (u : Up) : Prop := w.heap[x]? = some (.cells #[.int .i64 u.at_, .string u.data] t (0, 0))
theorem VarU.lt {w : World} {x t : Nat} {u : Up} (k : VarU w x t u) : x < w.heap.size := (Array.getElem?_eq_some_iff.1 k).1
theorem VarU.cells {w : World} {x t : Nat} {u : Up} (k : VarU w x t u) : w.cell? ⟨x, 0, none⟩ = some (.int .i64 u.at_) ∧ w.cell? ⟨x, 1, none⟩ = some (.string u.data) := ⟨by rw [Joins.cell_of_block k]; rfl, by rw [Joins.cell_of_block k]; rfl⟩
theorem VarU.free {w : World} {x t : Nat} {u : Up} (k : VarU w x t u) : w.frozen? ⟨x, 0, none⟩ = false ∧ w.frozen? ⟨x, 1, none⟩ = false := ⟨Joins.unfrozen_of_block k 0, Joins.unfrozen_of_block k 1⟩
theorem VarU.below {w w' : World} {x t : Nat} {u : Up} (k : VarU w x t u) (hb : Below w.heap.size w w') : VarU w' x t u := by
  unfold VarU; rw [hb.block x k.lt]; exact k
theorem VarU.new (w : World) (t : TypeId) (u : Up) : VarU (w.alloc (.cells #[.int .i64 u.at_, .string u.data] t)) w.heap.size t u := heap_alloc_new w _
theorem below2 {w0 w : World} {B g : Nat} (h : Below B w0 w) (hg : B ≤ g) (i j : Nat) (u v : Value) : Below B w0 ((w.setCell ⟨g, i, none⟩ u).setCell ⟨g, j, none⟩ v) :=
  (h.setCell (p := ⟨g, i, none⟩) hg u).setCell (p := ⟨g, j, none⟩) hg v

theorem u1_nums {u : Up} (hd : upB u = true) : ∀ j (hj : j < [u.at_].length), 0 ≤ [u.at_][j] ∧ [u.at_][j] ≤ 2147483647 := by
  obtain ⟨h1, h2⟩ := upB_iff.1 hd
  intro j hj
  have hj' : j < 1 := hj
  rcases (show j = 0 by omega) with rfl
  simp; omega
theorem u1_ints {u : Up} (hd : upB u = true) : intsB [u.at_] = true := by
  obtain ⟨h1, h2⟩ := upB_iff.1 hd
  rw [intsB_len]
  · rfl
  · intro j hj
    have hj' : j < 1 := hj
    rcases (show j = 0 by omega) with rfl
    simp [numB, inB]; omega
theorem u1_seal {u : Up} (hd : upB u = true) : sealC 8 [u.at_] = 0 ∧ sealT 8 [u.at_] = sealS 8 [u.at_] := by
  have hc : sealC 8 [u.at_] = 0 := sealC_ok (listC_ok (by simp) (u1_ints hd)) rfl
  exact ⟨hc, sealT_ok hc⟩
/-- A slot's place. -/
def slN (h : Int) : Int := 39 + 6 * h
def slC (h : Int) : Int := if inB h 0 3 = true then 0 else 4
def slR (h : Int) : Int := if inB h 0 3 = true then slN h else 0
theorem is1 (w : World) (n : Nat) (t : TypeId) (a : Int) (hn : w.heap.size = n) : Is (w.alloc (.cells #[.int .i64 a] t)) (some ⟨n, 0, none⟩) [a] := by
  subst hn
  intro i hi
  have hi' : i < 1 := hi
  rcases (show i = 0 by omega) with rfl
  exact ⟨w.heap.size, 0, rfl, by simp [go_sem]⟩
theorem is2 (w : World) (n : Nat) (t : TypeId) (a b : Int) (hn : w.heap.size = n) : Is (w.alloc (.cells #[.int .i64 a, .int .i64 b] t)) (some ⟨n, 0, none⟩) [a, b] := by
  subst hn
  intro i hi
  have hi' : i < 2 := hi
  rcases (show i = 0 ∨ i = 1 by omega) with rfl | rfl
  · exact ⟨w.heap.size, 0, rfl, by simp [go_sem]⟩
  · exact ⟨w.heap.size, 0, rfl, by simp [go_sem]⟩
end Go.Proofs.YtmkegkpnomcnhabGreat

/- Plain: rows of updates, two cells each. -/
namespace Go.Proofs.YtmkegkpnomcnhabGreat
open Go.RowKit
set_option linter.unusedVariables false

def Ups (w : World) (ao : Option Addr) (xs : List Up) : Prop := ∀ i (h : i < xs.length), ∃ b off, ao = some ⟨b, off, none⟩ ∧
  w.cell? ⟨b, off + i * 2, none⟩ = some (.int .i64 xs[i].at_) ∧ w.cell? ⟨b, off + i * 2 + 1, none⟩ = some (.string xs[i].data) ∧ xs[i].data.size ≤ maxLen
theorem Ups.below {w w' : World} {ao : Option Addr} {xs : List Up} (h : Ups w ao xs) (hb : Below w.heap.size w w') : Ups w' ao xs := fun i hi => by
  obtain ⟨b, off, e, h0, h1, hz⟩ := h i hi
  exact ⟨b, off, e, (hb.cell (p := ⟨b, off + i * 2, none⟩) (World.block_lt_of_cell? _ _ h0)).trans h0, (hb.cell (p := ⟨b, off + i * 2 + 1, none⟩) (World.block_lt_of_cell? _ _ h1)).trans h1, hz⟩
theorem Ups.sizes {w : World} {ao : Option Addr} {xs : List Up} (h : Ups w ao xs) : ∀ x ∈ xs, x.data.size ≤ maxLen := fun x hx => by
  obtain ⟨i, hi, rfl⟩ := List.mem_iff_getElem.1 hx
  obtain ⟨_, _, _, _, _, hz⟩ := h i hi
  exact hz
theorem Ups.nil (w : World) (ao : Option Addr) : Ups w ao [] := fun i hi => absurd hi (Nat.not_lt_zero _)
def upsV (xs : List Up) : List Value := xs.flatMap fun x => [.int .i64 x.at_, .string x.data]
theorem upsV_length (xs : List Up) : (upsV xs).length = xs.length * 2 := by
  induction xs with
  | nil => rfl
  | cons x xs ih => simp only [upsV, List.flatMap_cons, List.length_append, List.length_cons, List.length_nil] at ih ⊢; omega
theorem upsV_cons (x : Up) (xs : List Up) : upsV (x :: xs) = [.int .i64 x.at_, .string x.data] ++ upsV xs := rfl
theorem upsV_append (xs ys : List Up) : upsV (xs ++ ys) = upsV xs ++ upsV ys := by simp [upsV]
theorem upsV_get : ∀ {xs : List Up} {i : Nat} (h : i < xs.length), (upsV xs)[i * 2]? = some (.int .i64 xs[i].at_) ∧ (upsV xs)[i * 2 + 1]? = some (.string xs[i].data)
  | [], _, h => absurd h (Nat.not_lt_zero _)
  | x :: xs, 0, _ => by simp [upsV_cons]
  | x :: xs, i + 1, h => by
    have ih := upsV_get (xs := xs) (i := i) (by simpa using h)
    rw [upsV_cons, show (i + 1) * 2 = i * 2 + 2 by omega]
    refine ⟨?_, ?_⟩
    · rw [List.getElem?_append_right (by simp)]; simpa using ih.1
    · rw [List.getElem?_append_right (by simp)]; simpa [Nat.add_right_comm] using ih.2
theorem ownUps {w : World} {B e cap : Nat} {ao : Option Addr} {xs : List Up} (h : OwnR w B e 2 (.slice ao xs.length cap) xs.length (upsV xs)) (hz : ∀ x ∈ xs, x.data.size ≤ maxLen) : Ups w ao xs := by
  rcases h with ⟨h0, _⟩ | ⟨hp, h⟩
  · intro i hi; omega
  · obtain ⟨g, cap', cur, e0, _, _⟩ := own_form hp h
    simp only [Value.slice.injEq, true_and] at e0
    obtain ⟨rfl, rfl⟩ := e0
    intro i hi
    obtain ⟨g0, g1⟩ := upsV_get hi
    refine ⟨g, 0, rfl, ?_, ?_, hz _ (List.getElem_mem hi)⟩
    · rw [Nat.zero_add, h.cellAt _ (by omega)]; exact g0
    · rw [Nat.zero_add, h.cellAt _ (by omega)]; exact g1
theorem ownMv {w : World} {B e cap : Nat} {ao : Option Addr} {xs : List Wr} (h : OwnR w B e 3 (.slice ao xs.length cap) xs.length (ioV xs)) (hz : ∀ x ∈ xs, x.data.size ≤ maxLen) : Ios w ao xs := by
  rcases h with ⟨h0, _⟩ | ⟨hp, h⟩
  · intro i hi; omega
  · exact ownI h hz
theorem stored2 {w : World} {B e size g n cap : Nat} {xs : List Value} (h : w.ownsRow B e size (.slice (some ⟨g, 0, none⟩) n cap) n xs) (i j : Nat) (u v : Value) :
    ((w.setCell ⟨g, i, none⟩ u).setCell ⟨g, j, none⟩ v).ownsRow B e size (.slice (some ⟨g, 0, none⟩) n cap) n ((xs.set i u).set j v) :=
  ((h.stored i u).1.stored j v).1
theorem ups_take {ys : List Value} {xs : List Up} {k : Nat} (hk : k < xs.length) (hl : ys.length = xs.length * 2) (h : ys.take (k * 2) = (upsV xs).take (k * 2)) :
    ((ys.set (k * 2) (.int .i64 xs[k].at_)).set (k * 2 + 1) (.string xs[k].data)).take ((k + 1) * 2) = (upsV xs).take ((k + 1) * 2) := by
  obtain ⟨h0, h1⟩ := upsV_get hk
  have e0 := set_take' (by rw [hl, upsV_length]) h0 h
  have e1 := set_take' (by rw [List.length_set, hl, upsV_length]) h1 e0
  rw [show (k + 1) * 2 = k * 2 + 1 + 1 by omega]
  exact e1
theorem Ups.at {w : World} {ao : Option Addr} {xs : List Up} (h : Ups w ao xs) (hp : 0 < xs.length) : ∃ b off, ao = some ⟨b, off, none⟩ ∧ b < w.heap.size ∧ ∀ j v, (upsV xs)[j]? = some v → w.cell? (Addr.add ⟨b, off, none⟩ j) = some v := by
  obtain ⟨b, off, rfl, c0, _, _⟩ := h 0 hp
  refine ⟨b, off, rfl, World.block_lt_of_cell? _ _ c0, fun j v hj => ?_⟩
  have hj' : j < xs.length * 2 := by have := (List.getElem?_eq_some_iff.1 hj).1; rwa [upsV_length] at this
  obtain ⟨b', off', e, k0, k1, _⟩ := h (j / 2) (by omega)
  cases e
  obtain ⟨g0, g1⟩ := upsV_get (xs := xs) (i := j / 2) (by omega)
  have ha : (⟨b, off, none⟩ : Addr).add j = ⟨b, off + j, none⟩ := by unfold Addr.add; by_cases hz : j = 0 <;> simp [hz]
  rw [ha]
  rcases (show j = j / 2 * 2 ∨ j = j / 2 * 2 + 1 by omega) with hm | hm
  · rw [hm] at hj ⊢; rw [g0] at hj; cases hj; exact k0
  · rw [hm] at hj ⊢; rw [g1] at hj; cases hj; exact k1
theorem Ups.src {w : World} {ao : Option Addr} {xs : List Up} (h : Ups w ao xs) : 0 < xs.length → ∃ ad, ao = some ad ∧ ∀ j u, (upsV xs)[j]? = some u → w.cell? (ad.add j) = some u := fun hp => by
  obtain ⟨b, off, rfl, _, hc⟩ := h.at hp
  exact ⟨_, rfl, hc⟩
/-- Alike ones. -/
def decUp (x y : Up) : Decidable (x = y) := decidable_of_iff (x.at_ = y.at_ ∧ x.data = y.data) Up.eq_iff.symm
end Go.Proofs.YtmkegkpnomcnhabGreat

/- Contracts of laws.toUpdate, eqUpdate, szUpdate. -/
namespace Go.Proofs.YtmkegkpnomcnhabGreat
open Go.RowKit
set_option linter.unusedVariables false
set_option maxRecDepth 100000

set_option maxHeartbeats 1600000 in
theorem eqUpdate_same (x : Up) (w : World) : Calls Tryz.prog 25 #[uV x, uV x] w fun e w' => e = .returned (.bool true) ∧ Below w.heap.size w w' := by
  go_enter Tryz.func25, Tryz.ntmps25
  go_wp2
  go_ret
  exact ⟨rfl, Joins.below_alloc2 _ _ _⟩

end Go.Proofs.YtmkegkpnomcnhabGreat
