import Derived.Test.YtpdpnepnfhbonaaGreatDoorXReadImagePart1
import Derived.Test.YtpdpnepnfhbonaaGreatDoorXReadImagePart4
import Derived.WalkKit
import Derived.WalkSpells
import Derived.OrdersHeld
import Derived.Deep.RegionHeld3
import Derived.Test.YtpdpnepnfhbonaaGreatDoorRows
import Derived.Test.YtpdpnepnfhbonaaGreatDoorXReadImagePart5
import Derived.Test.YtpdpnepnfhbonaaGreatDoorXReadImagePart6
import Derived.KernelRfl
import Derived.LoopN
import Derived.Laws.BytesArg
import Derived.Test.YtpdpnepnfhbonaaGreatDoorXReadImagePart2
import Derived.Test.YtpdpnepnfhbonaaGreatDoorXReadImagePart3
import Derived.Laws.MakeOwn
import Derived.Laws.OwnMore
import Derived.Sort.Grow
import Derived.Shelf.SlSortCmp.QuietGrown

namespace Go.Proofs.YtpdpnepnfhbonaaGreatDoor
open Go.RowKit
set_option linter.unusedVariables false

section
variable {P : Program} {Q : Exit → Act → World → Prop} {S S' : World → Prop} {C : Act → World → Prop} {l : List Oper} {hl : List Nat}

def wpAnyR (P : Program) (l : List Oper) (Q : Exit → Act → World → Prop) (S : World → Prop) (hl : List Nat) : Nat → Array Bool → Act → World → Prop
  | 0, listed, a, w => Region.ready .any l.toArray listed = [] ∧ Q .normal a w
  | fuel + 1, listed, a, w =>
    (Region.ready .any l.toArray listed = [] → Q .normal a w) ∧
    ∀ i ∈ Region.ready .any l.toArray listed, wpOp P l.toArray Q i (fun a' w' => (i ∈ hl → S w') ∧ wpAnyR P l Q S hl fuel (listed.setIfInBounds i true) a' w') a w
theorem wpAny_of_R : ∀ (fuel : Nat) (listed : Array Bool) (a : Act) (w : World), wpAnyR P l Q S hl fuel listed a w → wpAny P .any l.toArray Q fuel listed a w
  | 0, _, _, _, h => h
  | fuel + 1, _, _, _, h => ⟨h.1, fun i hi => wpOp_mono (fun a' w' h' => wpAny_of_R fuel _ a' w' h'.2) (h.2 i hi)⟩

abbrev lsD (listed : Array Bool) : Nat → Bool := fun j => listed.getD j false
theorem closed_set {listed : Array Bool} {i : Nat} (hc : Closed l (lsD listed)) (hi : i ∈ Region.ready .any l.toArray listed) : Closed l (lsD (listed.setIfInBounds i true)) := by
  intro j o ho hd e he hb
  by_cases hji : j = i
  · subst hji
    obtain ⟨_, o', ho', hp⟩ := mem_ready.1 hi
    have h2 : l.toArray[j]? = l[j]? := by simp
    rw [h2, ho] at ho'
    cases ho'
    exact getD_set_true (hp e he hb)
  · have : lsD listed j = true := by
      have hd' : (listed.setIfInBounds i true).getD j false = true := hd
      rwa [getD_set_ne false (Ne.symm hji)] at hd'
    exact getD_set_true (hc j o ho this e he hb)
def Anc (l : List Oper) (j i : Nat) : Prop := ∀ d : Nat → Bool, Closed l d → d j = true → d i = true
theorem rg_unlisted {listed : Array Bool} {i : Nat} (h : listed.getD i true = false) : i < listed.size ∧ listed.getD i false = false := by
  rw [Array.getD_eq_getD_getElem?] at h ⊢
  by_cases hi : i < listed.size
  · rw [Array.getElem?_eq_getElem hi] at h ⊢
    exact ⟨hi, by simpa using h⟩
  · rw [Array.getElem?_eq_none (Nat.le_of_not_lt hi)] at h
    simp at h
theorem ready_anc {listed : Array Bool} {i j : Nat} (hc : Closed l (lsD listed)) (hj : j ∈ Region.ready .any l.toArray listed) (hr : Anc l j i) (hne : j ≠ i) (hi : listed.getD i true = false) : False := by
  have h1 := (mem_ready.1 hj).1
  have h2 := hr _ (closed_set hc hj) (by
    show (listed.setIfInBounds j true).getD j false = true
    have := (rg_unlisted h1).1
    simp [Array.getD_eq_getD_getElem?, this])
  have h3 : (listed.setIfInBounds j true).getD i false = true := h2
  rw [getD_set_ne false hne, (rg_unlisted hi).2] at h3
  cases h3

theorem wpAnyR_first {i : Nat} {oi : Oper} {v : Value} (hi : l.toArray[i]? = some oi) (hsel : ∀ (j : Nat) (o : Oper) cs b, l.toArray[j]? = some o → o.op ≠ .select cs b)
    (hQ : ∀ c a w, Q (.panic c) (a.put oi.dst v) w → Q (.panic c) a w) (hSS : ∀ w, S w → S' w) (hst : ∀ j, j < l.length → j ∉ hl → j ≠ i → Anc l j i ∨ ((∀ w, S' w) ∧ i ∉ hl)) :
    ∀ (fuel : Nat) (listed : Array Bool) (a : Act) (w : World), Closed l (lsD listed) →
      (∀ j oj, l.toArray[j]? = some oj → j ≠ i → listed.getD j true = false → (∀ e ∈ oj.after, Region.binds .any e = true → e.on ≠ i) → oi.apart l.toArray oj = true) →
      i ∈ Region.ready .any l.toArray listed → YieldsIf P l.toArray S' oi v a → S' w → (i ∈ hl → S w) →
      wpAnyR P l Q S hl fuel (listed.setIfInBounds i true) (a.put oi.dst v) w → wpAnyR P l Q S hl (fuel + 1) listed a w := by
  intro fuel
  induction fuel with
  | zero =>
    intro listed a w hc _ hr hy hS hSw H
    refine ⟨fun h => (by rw [h] at hr; cases hr), fun j hj => ?_⟩
    by_cases hji : j = i
    · subst hji; exact hy.wpOp hi hS ⟨hSw, H⟩
    · have := ready_mono hj hji
      rw [H.1] at this
      cases this
  | succ fuel ih =>
    intro listed a w hc hfree hr hy hS hSw H
    refine ⟨fun h => (by rw [h] at hr; cases hr), fun j hj => ?_⟩
    by_cases hji : j = i
    · subst hji; exact hy.wpOp hi hS ⟨hSw, H⟩
    · have h1 := H.2 j (ready_mono hj hji)
      obtain ⟨hjun, oj, hoj, hall⟩ := mem_ready.1 hj
      have hiun := (mem_ready.1 hr).1
      have hnot : ∀ e ∈ oj.after, Region.binds .any e = true → e.on ≠ i := fun e he hb heq => by
        have h1 := hall e he hb
        rw [heq, (rg_unlisted hiun).2] at h1
        cases h1
      have h2 := wpOp_putIf hoj (hfree j oj hoj hji hjun hnot) (fun cs b => hsel i oi cs b hi) (fun cs b => hsel j oj cs b hoj) hQ hy h1
      have hfree' : ∀ k ok, l.toArray[k]? = some ok → k ≠ i → (listed.setIfInBounds j true).getD k true = false →
          (∀ e ∈ ok.after, Region.binds .any e = true → e.on ≠ i) → oi.apart l.toArray ok = true := fun k ok hk hki hun hno => by
        refine hfree k ok hk hki ?_ hno
        by_cases hjk : j = k
        · subst hjk; exact hjun
        · rw [getD_set_ne true hjk] at hun; exact hun
      have hjl : j < l.length := by have := (Array.getElem?_eq_some_iff.1 hoj).1; simpa using this
      have hkey : ∀ w', (j ∈ hl → S w') → S' w' ∧ (i ∈ hl → S w') := fun w' h => by
        by_cases hjh : j ∈ hl
        · exact ⟨hSS _ (h hjh), fun _ => h hjh⟩
        · rcases hst j hjl hjh hji with h5 | h5
          · exact (ready_anc hc hj h5 hji hiun).elim
          · exact ⟨h5.1 _, fun h6 => absurd h6 h5.2⟩
      refine wpOp_mono (fun a' w' h3 => ⟨h3.2.1, ih (listed.setIfInBounds j true) a' w' (closed_set hc hj) hfree' (ready_mono hr (Ne.symm hji)) h3.1 (hkey w' h3.2.1).1 (hkey w' h3.2.1).2 ?_⟩) h2
      rw [Array.setIfInBounds_comm _ _ hji]
      exact h3.2.2

def ancGo : List Oper → List (List Nat) → List (List Nat)
  | [], acc => acc
  | o :: r, acc => ancGo r (acc ++ [(o.after.toList.flatMap fun e => if Region.binds .any e then e.on :: acc.getD e.on [] else []).eraseDups])
def ancs (l : List Oper) : List (List Nat) := ancGo l []
theorem ancGo_spec (L : List Oper) : ∀ (r : List Oper) (acc : List (List Nat)), (∀ k, r[k]? = L[acc.length + k]?) → (∀ j, ∀ i ∈ acc.getD j [], Anc L j i) → ∀ j, ∀ i ∈ (ancGo r acc).getD j [], Anc L j i
  | [], acc, _, h => h
  | o :: r, acc, hr, h => by
    unfold ancGo
    refine ancGo_spec L r _ (fun k => ?_) (fun j i hi => ?_)
    · have := hr (k + 1)
      rw [List.length_append, List.length_singleton, Nat.add_assoc, Nat.add_comm 1 k]
      simpa using this
    · by_cases hj : j < acc.length
      · rw [List.getD_eq_getElem?_getD, List.getElem?_append_left hj, ← List.getD_eq_getElem?_getD] at hi
        exact h j i hi
      · by_cases hj2 : j = acc.length
        · subst hj2
          rw [List.getD_eq_getElem?_getD, List.getElem?_append_right (Nat.le_refl _), Nat.sub_self] at hi
          simp only [List.getElem?_cons_zero, Option.getD_some, List.mem_eraseDups, List.mem_flatMap] at hi
          obtain ⟨e, he, hie⟩ := hi
          have ho : L[acc.length]? = some o := by have := hr 0; simpa using this.symm
          intro d hc hd
          by_cases hb : Region.binds .any e = true
          · rw [if_pos hb] at hie
            have h1 := hc _ o ho hd e (by simpa using he) hb
            rcases List.mem_cons.1 hie with rfl | hie
            · exact h1
            · exact h e.on i hie d hc h1
          · rw [if_neg hb] at hie
            cases hie
        · rw [List.getD_eq_getElem?_getD, List.getElem?_eq_none (by rw [List.length_append, List.length_singleton]; omega)] at hi
          simp at hi
theorem ancs_spec {l : List Oper} {j i : Nat} (h : ((ancs l).getD j []).contains i = true) : Anc l j i :=
  ancGo_spec l l [] (fun k => by simp) (fun j i hi => by simp at hi) j i (by simpa [ancs] using h)

def rgFrB (l : List Oper) (listed : Array Bool) (i : Nat) : Bool := (Region.ready .any l.toArray listed).contains i && Region.free .any l.toArray listed i
def rgStB (l : List Oper) (hl : List Nat) (i : Nat) : Bool := (List.range l.length).all fun j => hl.contains j || j == i || ((ancs l).getD j []).contains i
def rgOrdB (l : List Oper) (hl : List Nat) : List (Nat × Nat) → Array Bool → Bool
  | [], _ => true
  | (i, k) :: r, listed => (match k with
      | 0 => rgFrB l listed i && rgStB l hl i
      | 2 => hl.contains i && (Region.ready .any l.toArray listed == [i])
      | 3 => !hl.contains i && (Region.ready .any l.toArray listed == [i])
      | 4 => !hl.contains i && rgFrB l listed i
      | 5 => rgFrB l listed i && rgStB l hl i
      | _ => !hl.contains i && rgFrB l listed i) && rgOrdB l hl r (listed.setIfInBounds i true)
def rgSet : List (Nat × Nat) → Array Bool → Array Bool
  | [], listed => listed
  | (i, _) :: r, listed => rgSet r (listed.setIfInBounds i true)
def wpOrd (P : Program) (l : List Oper) (Q : Exit → Act → World → Prop) (S : World → Prop) (C : Act → World → Prop) : List (Nat × Nat) → Act → World → Prop
  | [], a, w => C a w
  | (i, k) :: r, a, w => ∀ o, l[i]? = some o → match k with
      | 0 => Region.wanted o (yielded l.toArray a.tmps) = true ∧ S w ∧ ∃ v, (∀ w', S w' → (execOp a.eval o).run P w' = .ok (.value v) w') ∧ wpOrd P l Q S C r (a.put o.dst v) w
      | 2 => Region.wanted o (yielded l.toArray a.tmps) = true ∧ o.wp P a w (fun a' w' => S w' ∧ wpOrd P l Q S C r a' w') Q
      | 3 => Region.wanted o (yielded l.toArray a.tmps) = true ∧ o.wp P a w (wpOrd P l Q S C r) Q
      | 4 => Region.wanted o (yielded l.toArray a.tmps) = true ∧ ∃ v, (∀ w', (execOp a.eval o).run P w' = .ok (.value v) w') ∧ wpOrd P l Q S C r (a.put o.dst v) w
      | 5 => Region.wanted o (yielded l.toArray a.tmps) = false ∧ S w ∧ wpOrd P l Q S C r (a.put o.dst undef) w
      | _ => Region.wanted o (yielded l.toArray a.tmps) = false ∧ wpOrd P l Q S C r (a.put o.dst undef) w
theorem rgSt_spec {i : Nat} (h : rgStB l hl i = true) : ∀ j, j < l.length → j ∉ hl → j ≠ i → Anc l j i := fun j hj hh hne => by
  have := List.all_eq_true.1 h j (List.mem_range.2 hj)
  simp only [Bool.or_eq_true, List.contains_iff_mem, beq_iff_eq] at this
  rcases this with (h1 | h1) | h1
  · exact absurd h1 hh
  · exact absurd h1 hne
  · exact ancs_spec (by simpa using h1)
theorem anyR_of_ord (hs : Region.noSelect l.toArray = true) (hQ : ∀ c a w, Q (.panic c) a w → False) (fuel : Nat) : ∀ (ord : List (Nat × Nat)) (listed : Array Bool) (a : Act) (w : World), Closed l (lsD listed) → rgOrdB l hl ord listed = true → wpOrd P l Q S (fun a w => Closed l (lsD (rgSet ord listed)) → wpAnyR P l Q S hl fuel (rgSet ord listed) a w) ord a w → wpAnyR P l Q S hl (ord.length + fuel) listed a w
  | [], listed, a, w, hc, hB, h => by simpa [rgSet] using h hc
  | (i, k) :: r, listed, a, w, hc, hB, h => by
    rw [show ((i, k) :: r).length + fuel = (r.length + fuel) + 1 by simp only [List.length_cons]; omega]
    have hrs : rgSet ((i, k) :: r) listed = rgSet r (listed.setIfInBounds i true) := rfl
    rw [hrs] at h
    obtain ⟨C, hC⟩ : ∃ C, C = (fun a w => Closed l (lsD (rgSet r (listed.setIfInBounds i true))) → wpAnyR P l Q S hl fuel (rgSet r (listed.setIfInBounds i true)) a w) := ⟨_, rfl⟩
    rw [← hC] at h
    unfold rgOrdB at hB
    rw [Bool.and_eq_true] at hB
    obtain ⟨hB1, hB2⟩ := hB
    have hone : ∀ (hrd : Region.ready .any l.toArray listed = [i]) (hw : ∀ o, l[i]? = some o → Region.wanted o (yielded l.toArray a.tmps) = true ∧ o.wp P a w (fun a' w' => (i ∈ hl → S w') ∧ wpOrd P l Q S C r a' w') Q), wpAnyR P l Q S hl (r.length + fuel + 1) listed a w := by
      intro hrd hw
      refine ⟨fun h0 => (by rw [hrd] at h0; cases h0), fun j hj => ?_⟩
      have hji : j = i := by rw [hrd] at hj; simpa using hj
      subst hji
      obtain ⟨_, o, ho, _⟩ := mem_ready.1 hj
      have ho' : l[j]? = some o := by simpa using ho
      obtain ⟨h1, h2⟩ := hw o ho'
      unfold wpOp
      simp only [ho]
      rw [if_pos h1]
      exact .inl (Oper.wp_mono (fun a' w' h3 => ⟨h3.1, anyR_of_ord hs hQ fuel r _ a' w' (closed_set hc hj) hB2 (hC ▸ h3.2)⟩) h2)
    have hfirst : ∀ (v : Value) (S' : World → Prop) (hf : rgFrB l listed i = true) (hSS : ∀ w, S w → S' w) (hst : ∀ j, j < l.length → j ∉ hl → j ≠ i → Anc l j i ∨ ((∀ w, S' w) ∧ i ∉ hl)) (hS' : S' w) (hSw : i ∈ hl → S w)
        (hy : ∀ o, l[i]? = some o → YieldsIf P l.toArray S' o v a ∧ wpOrd P l Q S C r (a.put o.dst v) w), wpAnyR P l Q S hl (r.length + fuel + 1) listed a w := by
      intro v S' hf hSS hst hS' hSw hy
      unfold rgFrB at hf
      rw [Bool.and_eq_true] at hf
      have hir : i ∈ Region.ready .any l.toArray listed := by simpa using hf.1
      obtain ⟨_, o, ho, _⟩ := mem_ready.1 hir
      have ho' : l[i]? = some o := by simpa using ho
      obtain ⟨h1, h2⟩ := hy o ho'
      exact wpAnyR_first ho (Region.noSelect_spec hs) (fun c a w h => (hQ _ _ _ h).elim) hSS hst (r.length + fuel) listed a w hc (Region.free_spec ho hf.2) hir h1 hS' hSw (anyR_of_ord hs hQ fuel r _ _ _ (closed_set hc hir) hB2 (hC ▸ h2))
    match k, hB1, h with
    | 0, hB1, h =>
      simp only [Bool.and_eq_true] at hB1
      have hir : i ∈ Region.ready .any l.toArray listed := by have := hB1.1; unfold rgFrB at this; rw [Bool.and_eq_true] at this; simpa using this.1
      obtain ⟨_, o, ho, _⟩ := mem_ready.1 hir
      have ho' : l[i]? = some o := by simpa using ho
      obtain ⟨h1, h2, v, h3, h4⟩ := h o ho'
      exact hfirst v S hB1.1 (fun _ h => h) (fun j a b c => .inl (rgSt_spec hB1.2 j a b c)) h2 (fun _ => h2) (fun o2 ho2 => by
        rw [ho'] at ho2
        cases ho2
        exact ⟨.inl ⟨h1, h3⟩, h4⟩)
    | 1, hB1, h =>
      simp only [Bool.and_eq_true, Bool.not_eq_true'] at hB1
      exact hfirst undef (fun _ => True) hB1.2 (fun _ _ => trivial) (fun _ _ _ _ => .inr ⟨fun _ => trivial, by simpa using hB1.1⟩) trivial (fun h6 => absurd h6 (by simpa using hB1.1)) (fun o ho => ⟨.inr ⟨(h o ho).1, rfl⟩, (h o ho).2⟩)
    | 2, hB1, h =>
      simp only [Bool.and_eq_true, beq_iff_eq] at hB1
      exact hone hB1.2 (fun o ho => ⟨(h o ho).1, Oper.wp_mono (fun a' w' h3 => ⟨fun _ => h3.1, h3.2⟩) (h o ho).2⟩)
    | 3, hB1, h =>
      simp only [Bool.and_eq_true, beq_iff_eq, Bool.not_eq_true'] at hB1
      exact hone hB1.2 (fun o ho => ⟨(h o ho).1, Oper.wp_mono (fun a' w' h3 => ⟨fun h6 => absurd h6 (by simpa using hB1.1), h3⟩) (h o ho).2⟩)
    | 4, hB1, h =>
      simp only [Bool.and_eq_true, Bool.not_eq_true'] at hB1
      have hir : i ∈ Region.ready .any l.toArray listed := by have := hB1.2; unfold rgFrB at this; rw [Bool.and_eq_true] at this; simpa using this.1
      obtain ⟨_, o, ho, _⟩ := mem_ready.1 hir
      have ho' : l[i]? = some o := by simpa using ho
      obtain ⟨h1, v, h3, h4⟩ := h o ho'
      exact hfirst v (fun _ => True) hB1.2 (fun _ _ => trivial) (fun _ _ _ _ => .inr ⟨fun _ => trivial, by simpa using hB1.1⟩) trivial (fun h6 => absurd h6 (by simpa using hB1.1)) (fun o2 ho2 => by
        rw [ho'] at ho2
        cases ho2
        exact ⟨.inl ⟨h1, fun w' _ => h3 w'⟩, h4⟩)
    | 5, hB1, h =>
      simp only [Bool.and_eq_true] at hB1
      have hir : i ∈ Region.ready .any l.toArray listed := by have := hB1.1; unfold rgFrB at this; rw [Bool.and_eq_true] at this; simpa using this.1
      obtain ⟨_, o, ho, _⟩ := mem_ready.1 hir
      have ho' : l[i]? = some o := by simpa using ho
      obtain ⟨h1, h2, h4⟩ := h o ho'
      exact hfirst undef S hB1.1 (fun _ h => h) (fun j a b c => .inl (rgSt_spec hB1.2 j a b c)) h2 (fun _ => h2) (fun o2 ho2 => by
        rw [ho'] at ho2
        cases ho2
        exact ⟨.inr ⟨h1, rfl⟩, h4⟩)
    | n + 6, hB1, h =>
      simp only [Bool.and_eq_true, Bool.not_eq_true'] at hB1
      exact hfirst undef (fun _ => True) hB1.2 (fun _ _ => trivial) (fun _ _ _ _ => .inr ⟨fun _ => trivial, by simpa using hB1.1⟩) trivial (fun h6 => absurd h6 (by simpa using hB1.1)) (fun o ho => ⟨.inr ⟨(h o ho).1, rfl⟩, (h o ho).2⟩)

theorem closed_none (n : Nat) : Closed l (lsD (Array.replicate n false)) := fun j o _ hd => by
  have hd' : (Array.replicate n false).getD j false = true := hd
  rw [Array.getD_eq_getD_getElem?, Array.getElem?_replicate] at hd'
  split at hd' <;> simp at hd'
theorem ord_imp {C' : Act → World → Prop} (hC : ∀ a w, C a w → C' a w) : ∀ (ord : List (Nat × Nat)) (a : Act) (w : World), wpOrd P l Q S C ord a w → wpOrd P l Q S C' ord a w
  | [], a, w, h => hC a w h
  | (i, k) :: r, a, w, h => fun o ho => by
    have h1 := h o ho
    match k, h1 with
    | 0, h1 => exact ⟨h1.1, h1.2.1, h1.2.2.imp fun v hv => ⟨hv.1, ord_imp hC r _ _ hv.2⟩⟩
    | 1, h1 => exact ⟨h1.1, ord_imp hC r _ _ h1.2⟩
    | 2, h1 => exact ⟨h1.1, Oper.wp_mono (fun a' w' h3 => ⟨h3.1, ord_imp hC r _ _ h3.2⟩) h1.2⟩
    | 3, h1 => exact ⟨h1.1, Oper.wp_mono (fun a' w' h3 => ord_imp hC r _ _ h3) h1.2⟩
    | 4, h1 => exact ⟨h1.1, h1.2.imp fun v hv => ⟨hv.1, ord_imp hC r _ _ hv.2⟩⟩
    | 5, h1 => exact ⟨h1.1, h1.2.1, ord_imp hC r _ _ h1.2.2⟩
    | n + 6, h1 => exact ⟨h1.1, ord_imp hC r _ _ h1.2⟩
theorem wp_region_ord {id : Nat} {a : Act} {w : World} (S : World → Prop) (hl : List Nat) (ord : List (Nat × Nat)) (hm : P.follows .mixedOrders = true) (hs : Region.noSelect l.toArray = true) (hn : ord.length = l.length) (hB : (rgOrdB l hl ord (Array.replicate l.length false) && (Region.ready .any l.toArray (rgSet ord (Array.replicate l.length false))).isEmpty) = true)
    (h : wpOrd P l (NoPanic Q) S (fun a w => NoPanic Q .normal a w) ord a w.drew) : (Code.region id l.toArray true).wp P Q a w := by
  refine wp_region_noPanic (wp_region_any hm (wpAny_of_R (S := S) (hl := hl) _ _ _ _ ?_))
  rw [Bool.and_eq_true] at hB
  have := anyR_of_ord (P := P) (Q := NoPanic Q) (S := S) (hl := hl) hs (fun _ _ _ h => h) 0 ord _ a w.drew (closed_none _) hB.1 (ord_imp (fun a w h _ => ⟨by simpa using hB.2, h⟩) ord _ _ h)
  rw [Nat.add_zero, hn] at this
  simpa using this
def wpT (P : Program) (l : List Oper) (Q : Exit → Act → World → Prop) (S : World → Prop) (hl : List Nat) (fuel : Nat) (listed : Array Bool) (a : Act) (w : World) : Prop := Closed l (lsD listed) → wpAnyR P l Q S hl fuel listed a w
theorem tree_two {fuel i j : Nat} {oi oj : Oper} {listed : Array Bool} {a : Act} {w : World} (hi : l[i]? = some oi) (hj : l[j]? = some oj) (gi : oi.guard = none) (gj : oj.guard = none) (hB : (Region.ready .any l.toArray listed == [i, j]) = true)
    (h1 : ∀ K : Act → World → Prop, (∀ a' w', (i ∈ hl → S w') → wpT P l Q S hl fuel (listed.setIfInBounds i true) a' w' → K a' w') → oi.wp P a w K Q)
    (h2 : ∀ K : Act → World → Prop, (∀ a' w', (j ∈ hl → S w') → wpT P l Q S hl fuel (listed.setIfInBounds j true) a' w' → K a' w') → oj.wp P a w K Q) : wpT P l Q S hl (fuel + 1) listed a w := fun hc => by
  have hr : Region.ready .any l.toArray listed = [i, j] := by simpa using hB
  refine ⟨fun h0 => (by rw [hr] at h0; cases h0), fun k hk => ?_⟩
  have hk' : k = i ∨ k = j := by rw [hr] at hk; simpa using hk
  rcases hk' with rfl | rfl
  · unfold wpOp
    have e : l.toArray[k]? = some oi := by simpa using hi
    simp only [e]
    rw [if_pos (by simp [Region.wanted, gi])]
    exact .inl (h1 _ (fun a' w' hS h3 => ⟨hS, h3 (closed_set hc hk)⟩))
  · unfold wpOp
    have e : l.toArray[k]? = some oj := by simpa using hj
    simp only [e]
    rw [if_pos (by simp [Region.wanted, gj])]
    exact .inl (h2 _ (fun a' w' hS h3 => ⟨hS, h3 (closed_set hc hk)⟩))
theorem ord_read {i : Nat} {o : Oper} {r : List (Nat × Nat)} {a : Act} {w : World} (v : Value) (ho : l[i]? = some o) (hg : o.guard = none) (hS : S w) (hv : ∀ w', S w' → (execOp a.eval o).run P w' = .ok (.value v) w') (h : wpOrd P l Q S C r (a.put o.dst v) w) : wpOrd P l Q S C ((i, 0) :: r) a w := by
  intro o2 ho2
  rw [ho] at ho2
  cases ho2
  exact ⟨by simp [Region.wanted, hg], hS, v, hv, h⟩
theorem ord_val {i : Nat} {o : Oper} {r : List (Nat × Nat)} {a : Act} {w : World} (v : Value) (ho : l[i]? = some o) (hg : o.guard = none) (hv : ∀ w', (execOp a.eval o).run P w' = .ok (.value v) w') (h : wpOrd P l Q S C r (a.put o.dst v) w) : wpOrd P l Q S C ((i, 4) :: r) a w := by
  intro o2 ho2
  rw [ho] at ho2
  cases ho2
  exact ⟨by simp [Region.wanted, hg], v, hv, h⟩
theorem ord_held {i : Nat} {o : Oper} {r : List (Nat × Nat)} {a : Act} {w : World} (ho : l[i]? = some o) (hg : o.guard = none) (h : ∀ K : Act → World → Prop, (∀ a' w', S w' → wpOrd P l Q S C r a' w' → K a' w') → o.wp P a w K Q) : wpOrd P l Q S C ((i, 2) :: r) a w := by
  intro o2 ho2
  rw [ho] at ho2
  cases ho2
  exact ⟨by simp [Region.wanted, hg], h _ (fun a' w' h1 h2 => ⟨h1, h2⟩)⟩
theorem ord_alone {i : Nat} {o : Oper} {r : List (Nat × Nat)} {a : Act} {w : World} (ho : l[i]? = some o) (hg : o.guard = none) (h : ∀ K : Act → World → Prop, (∀ a' w', wpOrd P l Q S C r a' w' → K a' w') → o.wp P a w K Q) : wpOrd P l Q S C ((i, 3) :: r) a w := by
  intro o2 ho2
  rw [ho] at ho2
  cases ho2
  exact ⟨by simp [Region.wanted, hg], h _ (fun a' w' h2 => h2)⟩
theorem ord_done {a : Act} {w : World} (h : Q .normal a w) : wpOrd P l (NoPanic Q) S (fun a w => NoPanic Q .normal a w) [] a w := h
theorem ord_end {a : Act} {w : World} (h : C a w) : wpOrd P l Q S C [] a w := h
end

end Go.Proofs.YtpdpnepnfhbonaaGreatDoor

namespace Go.Proofs.YtpdpnepnfhbonaaGreatDoor
open Go.RowKit
set_option linter.unusedVariables false
set_option maxRecDepth 100000

theorem OwnIm.addS {w w3 w4 : World} {B g2 cap2 : Nat} {a : Im4} {m : Img} {ts : List Value} {name : ByteArray} {t : Value} {tbl : List Int} (h : OwnIm w B a m ts) (hB : B ≤ w.heap.size) (hb : Below w.heap.size w w3) (ht : OwnN w3 w.heap.size t tbl)
    (ho : w4.ownsRow B 72 2 (.slice (some ⟨g2, 0, none⟩) (m.snaps.length + 1) cap2) (m.snaps.length + 1) (snC m.snaps ts ++ [.string name, t])) (hk : Keep (Own (.slice a.so m.snaps.length a.sc)) w3 w4) :
    OwnIm w4 B { a with so := some ⟨g2, 0, none⟩, sc := cap2 } { m with snaps := m.snaps ++ [⟨name, tbl⟩] } (ts ++ [t]) := by
  have hs := h.s.below hb
  have hr := h.rows.below hb
  refine ⟨by simp [h.len], ?_, ?_⟩
  · rw [snC_snoc _ _ _ _ h.len]
    simp only [List.length_append, List.length_singleton]
    exact .inr ⟨by omega, ho⟩
  · have h1 := hr.keep hk (fun r hr' g hg hS => own_apartS (hr.own r hr').row hs (by decide) g hg hS)
    have ht4 : OwnN w4 w.heap.size t tbl := ht.keep hk (fun g hg hS => own_apartS ht.row hs (by decide) g hg hS)
    have e : imRows { a with so := some ⟨g2, 0, none⟩, sc := cap2 } { m with snaps := m.snaps ++ [⟨name, tbl⟩] } (ts ++ [t]) = imRows a m ts ++ [(t, tbl)] := by
      simp only [imRows, List.map_append, List.map_cons, List.map_nil]
      rw [List.zip_append (by rw [List.length_map, h.len])]
      rfl
    rw [e]
    exact h1.add (fun r hr' g hg => ((h.rows.own r hr').ge g hg).2) ht4 hB

end Go.Proofs.YtpdpnepnfhbonaaGreatDoor

namespace Go.Proofs.YtpdpnepnfhbonaaGreatDoor
open Go.RowKit
set_option linter.unusedVariables false
set_option maxRecDepth 100000

def nmK (t : ByteArray) (k : Nat) : Int := (t.data.toList.take k).foldl ch1 0
theorem nmK_succ {t : ByteArray} {k : Nat} (hk : k < t.size) : nmK t (k + 1) = ch1 (nmK t k) t.data.toList[k] := by
  unfold nmK
  rw [List.take_succ_eq_append_getElem (by simpa using hk), List.foldl_append]; rfl
theorem nmK_all (t : ByteArray) : nmK t t.size = nmN t := by
  unfold nmK nmN
  rw [List.take_of_length_le (by simp)]
theorem ch1_le {n : Int} {b : UInt8} (h0 : 0 ≤ n) : 0 ≤ ch1 n b ∧ ch1 n b ≤ 27 * n + 256 := by
  unfold ch1
  have h1 := Int.emod_nonneg ((b.toNat : Int) - 97) (show (256 : Int) ≠ 0 by decide)
  have h2 := Int.emod_lt_of_pos ((b.toNat : Int) - 97) (show (0 : Int) < 256 by decide)
  omega
theorem tl_lt {t : ByteArray} {k : Nat} (h : k + 1 ≤ t.size) : k < t.data.toList.length := by
  have : t.data.toList.length = t.size := by simp
  omega
def bd27 : Nat → Int
  | 0 => 0
  | k + 1 => 27 * bd27 k + 256
theorem nmK_le (t : ByteArray) : ∀ k, k ≤ t.size → 0 ≤ nmK t k ∧ nmK t k ≤ bd27 k
  | 0, _ => by simp [nmK, bd27]
  | k + 1, h => by
    have h1 := nmK_le t k (by omega)
    rw [nmK_succ (by omega)]
    have h2 := ch1_le (n := nmK t k) (b := t.data.toList[k]'(tl_lt h)) h1.1
    refine ⟨h2.1, Int.le_trans h2.2 ?_⟩
    rw [bd27]
    omega

theorem bd27_le : ∀ k, k ≤ 8 → 0 ≤ bd27 k ∧ bd27 k ≤ 10000000000000 := by
  intro k hk
  rcases (show k = 0 ∨ k = 1 ∨ k = 2 ∨ k = 3 ∨ k = 4 ∨ k = 5 ∨ k = 6 ∨ k = 7 ∨ k = 8 by omega) with rfl | rfl | rfl | rfl | rfl | rfl | rfl | rfl | rfl <;> decide

set_option maxHeartbeats 800000 in
theorem l11Name_any (t : ByteArray) (w : World) (hz : t.size ≤ 8) :
    Calls Tryz.prog 43 #[.string t] w fun e w' => e = .returned (.int .i64 (nmN t)) ∧ w' = w := by
  go_enter Tryz.func43, Tryz.ntmps43
  go_wp2
  go_loop [3, 4] (fun n i => ∃ k : Nat, k ≤ t.size ∧ i = .int .i64 k ∧ n = .int .i64 (nmK t k)) (fun _ i => t.size - (intOf i).toNat)
  case atStart => exact ⟨0, Nat.zero_le _, rfl, rfl⟩
  case round =>
    obtain ⟨k, hk, rfl, rfl⟩ := hrel
    by_cases hlt : k < t.size
    · have hlti : (k : Int) < (t.size : Int) := by omega
      have HS : Hid (nmK t (k + 1) = 27 * nmK t k + ((t[k].toNat : Int) - 97) % 256 + 1) := hide (by
        rw [nmK_succ hlt]
        have e : t.data.toList[k]'(by simpa using hlt) = t[k] := by have := snm_get hlt; rw [List.getElem?_eq_getElem (by simpa using hlt)] at this; exact Option.some.inj this
        rw [e]; rfl)
      obtain ⟨b0, b1⟩ := nmK_le t k hk
      obtain ⟨d0, d1⟩ := bd27_le k (by omega)
      have h1 := Int.emod_nonneg ((t[k].toNat : Int) - 97) (show (256 : Int) ≠ 0 by decide)
      have h2 := Int.emod_lt_of_pos ((t[k].toNat : Int) - 97) (show (0 : Int) < 256 by decide)
      have hu : IntKind.u8.wrap ((t[k].toNat : Int) - 97) = ((t[k].toNat : Int) - 97) % 256 := by simp [IntKind.wrap, IntKind.bits, IntKind.signed]
      generalize nmK t k = X at *
      generalize ((t[k].toNat : Int) - 97) % 256 = D at *
      have w1 : IntKind.i64.wrap (27 * X) = 27 * X := by rw [IntKind.wrap_i64]; omega
      have w2 : IntKind.i64.wrap D = D := by rw [IntKind.wrap_i64]; omega
      have w3 : IntKind.i64.wrap (27 * X + D) = 27 * X + D := by rw [IntKind.wrap_i64]; omega
      have w4 : IntKind.i64.wrap (27 * X + D + 1) = 27 * X + D + 1 := by rw [IntKind.wrap_i64]; omega
      go_wp2
      go_round
      case rel => exact ⟨k + 1, by omega, by go_num, by rw [unhide HS]⟩
      case measure => simp [intOf]; omega
    · obtain rfl : k = t.size := by omega
      have HF := hide (nmK_all t)
      go_wp2
      go_ret
      exact ⟨ret_int (unhide HF), rfl⟩

end Go.Proofs.YtpdpnepnfhbonaaGreatDoor

namespace Go.Proofs.YtpdpnepnfhbonaaGreatDoor
open Go.RowKit
set_option linter.unusedVariables false
set_option maxRecDepth 100000

theorem lit1 (W : World) (a : Int) : (convert 89 9 (.slice (some ⟨W.heap.size, 0, none⟩) 1 1)).run Tryz.prog (W.alloc (.cells #[.int .u8 a] 5)) = .ok (.string (strOfNums [a])) (W.alloc (.cells #[.int .u8 a] 5)) := by
  refine run_convert_bytes_arg _ 89 5 Tryz.underlying89 Tryz.underlying5 W.heap.size 0 1 1 [a] rfl ?_ 9 Tryz.underlying9
  intro i hi
  obtain rfl : i = 0 := by omega
  simp [go_sem, List.getD]
theorem lit1H {w W : World} (_ : Hid (Below w.heap.size w W)) (a : Int) : (convert 89 9 (.slice (some ⟨W.heap.size, 0, none⟩) 1 1)).run Tryz.prog (W.alloc (.cells #[.int .u8 a] 5)) = .ok (.string (strOfNums [a])) (W.alloc (.cells #[.int .u8 a] 5)) := lit1 W a
structure UnJ (N m : Nat) (s : ByteArray) : Prop where
  h : ∃ f, f + s.size ≤ 8 ∧ m < 27 ^ f ∧ ltL 8 N = ltL f m ++ s.data.toList
theorem UnJ.start {N : Nat} (h : N ≤ 2147483647) : UnJ N N ByteArray.empty := ⟨8, by decide, by omega, by simp⟩
theorem UnJ.small {N m : Nat} {s : ByteArray} (J : UnJ N m s) : m < 282429536481 ∧ s.size ≤ 8 := by
  obtain ⟨f, h1, h2, _⟩ := J.h
  exact ⟨Nat.lt_of_lt_of_le h2 (Nat.le_trans (Nat.pow_le_pow_right (by decide) (show f ≤ 8 by omega)) (by decide)), by omega⟩
theorem UnJ.step {N m : Nat} {s : ByteArray} (J : UnJ N m s) (hm : 0 < m) : UnJ N (m / 27) (strOfNums [97 + ((m : Int) + 26) % 27] ++ s) ∧ (strOfNums [97 + ((m : Int) + 26) % 27] ++ s).size = 1 + s.size := by
  obtain ⟨f, h1, h2, h3⟩ := J.h
  have hsz : (strOfNums [97 + ((m : Int) + 26) % 27] ++ s).size = 1 + s.size := by rw [ByteArray.size_append, strOfNums_size]; rfl
  refine ⟨?_, hsz⟩
  cases f with
  | zero => simp at h2; omega
  | succ f =>
    refine ⟨f, by omega, by rw [Nat.pow_succ] at h2; omega, ?_⟩
    rw [h3, ltL, if_neg (by omega)]
    have e : (strOfNums [97 + ((m : Int) + 26) % 27]).data.toList = [lt1 m] := by
      show [UInt8.ofNat (97 + ((m : Int) + 26) % 27).toNat] = [lt1 m]
      rw [show (97 + ((m : Int) + 26) % 27).toNat = 97 + (m + 26) % 27 by omega]
      rfl
    rw [ByteArray.data_append, Array.toList_append, e]
    simp
theorem UnJ.stop {N : Nat} {s : ByteArray} (J : UnJ N 0 s) : s = unT (N : Int) := by
  obtain ⟨f, h1, h2, h3⟩ := J.h
  rw [ltL_zero, List.nil_append] at h3
  rw [unT, Int.toNat_natCast, h3]

set_option maxHeartbeats 800000 in
theorem l11Unname_any (N : Nat) (w : World) (hz : N ≤ 2147483647) :
    Calls Tryz.prog 44 #[.int .i64 N] w fun e w' => e = .returned (.string (unT N)) ∧ Below w.heap.size w w' := by
  have HJ0 := hide (UnJ.start hz)
  clear hz
  go_enter Tryz.func44, Tryz.ntmps44
  go_wp2
  go_loopw [0, 3] (fun n o wr => ∃ (m : Nat) (s : ByteArray), n = .int .i64 m ∧ o = .string s ∧ Hid (UnJ N m s) ∧ Hid (Below w.heap.size w wr)) (fun n _ _ => (intOf n).toNat)
  case atStart => exact ⟨N, _, rfl, rfl, HJ0, hide (Below.refl _ _)⟩
  case round =>
    obtain ⟨m, s, rfl, rfl, HJ, HB⟩ := hrel
    obtain ⟨b1, b2⟩ := (unhide HJ).small
    by_cases hlt : 0 < m
    · have hlti : (0 : Int) < (m : Int) := by omega
      obtain ⟨hj, hsz⟩ := (unhide HJ).step hlt
      have HJ2 := hide hj
      clear hj
      have hcv := lit1H HB (97 + ((m : Int) + 26) % 27)
      have w1 : IntKind.i64.wrap ((m : Int) + 26) = (m : Int) + 26 := by rw [IntKind.wrap_i64]; omega
      have hs1 : (strOfNums [97 + ((m : Int) + 26) % 27]).size = 1 := strOfNums_size _
      clear hsz
      have h1 := Int.emod_nonneg ((m : Int) + 26) (show (27 : Int) ≠ 0 by decide)
      have h2 := Int.emod_lt_of_pos ((m : Int) + 26) (show (0 : Int) < 27 by decide)
      go_wp2
      go_roundw
      case rel => exact ⟨m / 27, _, by go_num, rfl, HJ2, hide (fr (unhide HB) (Joins.below_alloc1 _ _))⟩
      case measure => simp [intOf]; omega
    · obtain rfl : m = 0 := by omega
      have HF := hide (unhide HJ).stop
      go_wp2
      go_ret
      exact ⟨ret_str (unhide HF), unhide HB⟩

end Go.Proofs.YtpdpnepnfhbonaaGreatDoor

namespace Go.Proofs.YtpdpnepnfhbonaaGreatDoor
open Go.RowKit
set_option linter.unusedVariables false
set_option maxRecDepth 100000

theorem sr_P {sec : Nat → ByteArray} (h : srP sec = false) : srB sec = false := by rw [srB, h]; rfl
theorem sr_sup {sec : Nat → ByteArray} (h : supB sec = false) : srB sec = false := sr_P (by rw [srP, h]; rfl)
theorem sr_cd {sec : Nat → ByteArray} (h : cdB (sec 10) = false) : srB sec = false := sr_P (by rw [srP, h]; simp)
theorem sr_td {sec : Nat → ByteArray} (h : tdB (sec 11) = false) : srB sec = false := sr_P (by rw [srP, h]; simp)
theorem sr_sn {sec : Nat → ByteArray} {k : Nat} (hk : k < srN sec) (h : snB1 sec k = false) : srB sec = false := sr_P (by
  have : (List.range (srN sec)).all (snB1 sec) = false := by
    rw [← Bool.not_eq_true, List.all_eq_true]
    intro h2
    have := h2 k (List.mem_range.2 hk)
    rw [h] at this; cases this
  rw [srP, this]; simp)
theorem sr_da {sec : Nat → ByteArray} {c : Nat} (hc : c < 24) (h : daB1 sec c = false) : srB sec = false := sr_P (by
  have : (List.range 24).all (daB1 sec) = false := by
    rw [← Bool.not_eq_true, List.all_eq_true]
    intro h2
    have := h2 c (List.mem_range.2 hc)
    rw [h] at this; cases this
  rw [srP, this]; simp)
theorem sr_fin {sec : Nat → ByteArray} (h1 : supB sec = true) (h2 : cdB (sec 10) = true) (h3 : tdB (sec 11) = true) (h4 : ∀ i, i < srN sec → snB1 sec i = true) (h5 : ∀ c, c < 24 → daB1 sec c = true) : srB sec = imB (srM sec) := by
  have e4 : (List.range (srN sec)).all (snB1 sec) = true := List.all_eq_true.2 (fun i hi => h4 i (List.mem_range.1 hi))
  have e5 : (List.range 24).all (daB1 sec) = true := List.all_eq_true.2 (fun c hc => h5 c (List.mem_range.1 hc))
  rw [srB, srP, h1, h2, h3, e4, e5]; rfl
theorem srSn_succ (sec : Nat → ByteArray) (k : Nat) : srSn sec (k + 1) = srSn sec k ++ [snR1 sec k] := by
  unfold srSn
  rw [List.range_succ, List.map_append]; rfl
def srD (sec : Nat → ByteArray) (k : Nat) : List Int := (List.range 24).map (fun c => if c < k then daR1 sec c else 0)
theorem srD_len (sec : Nat → ByteArray) (k : Nat) : (srD sec k).length = 24 := by simp [srD]
theorem srD_zero (sec : Nat → ByteArray) : srD sec 0 = List.replicate 24 0 := by
  unfold srD
  simp only [Nat.not_lt_zero, if_false]
  decide
theorem srD_set (sec : Nat → ByteArray) {c : Nat} (hc : c < 24) : (srD sec c).set c (daR1 sec c) = srD sec (c + 1) := by
  apply List.ext_getElem
  · simp [srD]
  · intro j h1 h2
    simp only [srD, List.getElem_set, List.getElem_map, List.getElem_range]
    by_cases e : c = j
    · subst e; simp
    · rw [if_neg e]
      by_cases h3 : j < c
      · rw [if_pos h3, if_pos (by omega)]
      · rw [if_neg h3, if_neg (by omega)]
theorem srD_skip (sec : Nat → ByteArray) {c : Nat} (h : (srR sec).getD c 0 = 0) : srD sec c = srD sec (c + 1) := by
  unfold srD
  apply List.map_congr_left
  intro j _
  by_cases h3 : j < c
  · rw [if_pos h3, if_pos (by omega)]
  · by_cases e : j = c
    · subst e; rw [if_neg h3, if_pos (by omega), daR1, if_pos h]
    · rw [if_neg h3, if_neg (by omega)]
theorem srD_all (sec : Nat → ByteArray) : srD sec 24 = (List.range 24).map (daR1 sec) := by
  unfold srD
  apply List.map_congr_left
  intro j hj
  rw [if_pos (List.mem_range.1 hj)]
theorem ltL_len : ∀ (f n : Nat), (ltL f n).length ≤ f
  | 0, _ => by simp [ltL]
  | f + 1, n => by
    rw [ltL]
    split
    · simp
    · have := ltL_len f (n / 27)
      simp only [List.length_append, List.length_singleton]; omega
theorem unT_short (x : Int) : (unT x).size ≤ 8 := by
  have := ltL_len 8 x.toNat
  show (ltL 8 x.toNat).toArray.size ≤ 8
  simpa using this
structure RdK (w W : World) (x : Nat) (da db : Value) (a : Im4) (M : Img) (ts : List Value) : Prop where
  k : Below w.heap.size w W
  d : VarD W w.heap.size da db
  r : VarM W (w.heap.size + 1) 30 (.slice none 0 0) (.slice none 0 0) (.slice none 0 0) (.slice none 0 0)
  v : VarM W x 30 (.slice a.ro M.refs.length a.rc) (.slice a.tq M.table.length a.tc) (.slice a.so M.snaps.length a.sc) (.slice a.dq M.data.length a.dc)
  o : OwnIm W w.heap.size a M ts
  hx : w.heap.size + 1 < x
  f : M.snaps.length = 0 → a.sc = 0
theorem RdK.below {w W W' : World} {x : Nat} {da db : Value} {a : Im4} {M : Img} {ts : List Value} (J : RdK w W x da db a M ts) (hb : Below W.heap.size W W') : RdK w W' x da db a M ts :=
  ⟨fr J.k hb, J.d.below hb, J.r.below hb, J.v.below hb, J.o.below hb, J.hx, J.f⟩
theorem own_setK {W : World} {B x : Nat} {a : Im4} {M : Img} {ts : List Value} {v0 v1 v2 v3 : Value} (h : OwnIm W B a M ts) (hv : VarM W x 30 v0 v1 v2 v3) (i : Nat) (u : Value) : OwnIm (W.setCell ⟨x, i, none⟩ u) B a M ts :=
  h.keep ((Keep.refl (fun g => g = x) W).setCell (p := ⟨x, i, none⟩) rfl u) (fun g hg e => h.other hv (e ▸ hg))
theorem row_setK {W : World} {B x : Nat} {v : Value} {xs : List Int} {v0 v1 v2 v3 : Value} (h : OwnN W B v xs) (hv : VarM W x 30 v0 v1 v2 v3) (i : Nat) (u : Value) : OwnN (W.setCell ⟨x, i, none⟩ u) B v xs :=
  h.keep ((Keep.refl (fun g => g = x) W).setCell (p := ⟨x, i, none⟩) rfl u) (fun g hg e => h.row.other hv (by decide) (e ▸ hg))
theorem RdK.addS {w W w3 w4 : World} {x g2 cap2 : Nat} {da db : Value} {a : Im4} {M : Img} {ts : List Value} {name : ByteArray} {t : Value} {tbl : List Int} {sv : Value} {SL : List Int} (J : RdK w W x da db a M ts) (hU : OwnN W w.heap.size sv SL) (hb : Below W.heap.size W w3) (ht : OwnN w3 W.heap.size t tbl)
    (ho : w4.ownsRow w.heap.size 72 2 (.slice (some ⟨g2, 0, none⟩) (M.snaps.length + 1) cap2) (M.snaps.length + 1) (snC M.snaps ts ++ [.string name, t])) (hk : Keep (Own (.slice a.so M.snaps.length a.sc)) w3 w4) :
    RdK w (w4.setCell ⟨x, 2, none⟩ (.slice (some ⟨g2, 0, none⟩) (M.snaps.length + 1) cap2)) x da db { a with so := some ⟨g2, 0, none⟩, sc := cap2 } { M with snaps := M.snaps ++ [⟨name, tbl⟩] } (ts ++ [t]) ∧ OwnN (w4.setCell ⟨x, 2, none⟩ (.slice (some ⟨g2, 0, none⟩) (M.snaps.length + 1) cap2)) w.heap.size sv SL ∧ VarM w4 x 30 (.slice a.ro M.refs.length a.rc) (.slice a.tq M.table.length a.tc) (.slice a.so M.snaps.length a.sc) (.slice a.dq M.data.length a.dc) := by
  have J3 := J.below hb
  have hv4 : VarM w4 x 30 (.slice a.ro M.refs.length a.rc) (.slice a.tq M.table.length a.tc) (.slice a.so M.snaps.length a.sc) (.slice a.dq M.data.length a.dc) := (hk.block _ J3.v.lt (J3.o.s.other J3.v (by decide))).trans J3.v
  have hr4 : VarM w4 (w.heap.size + 1) 30 (.slice none 0 0) (.slice none 0 0) (.slice none 0 0) (.slice none 0 0) := (hk.block _ J3.r.lt (J3.o.s.other J3.r (by decide))).trans J3.r
  have hc4 : VarD w4 w.heap.size da db := (hk.block _ J3.d.lt (J3.o.s.other J3.d (by decide))).trans J3.d
  have ho4 := OwnIm.addS J.o J.k.size hb ht ho hk
  have hu4 : OwnN w4 w.heap.size sv SL := (hU.below hb).keep hk (fun g hg hS => own_apartS (hU.below hb).row J3.o.s (by decide) g hg hS)
  have hb4 : Below w.heap.size w w4 := J3.k.trans (hk.below J3.k.size (fun g hg => (J3.o.s.ge g hg).1))
  have hx := J.hx
  refine ⟨⟨hb4.setCell (p := ⟨x, 2, none⟩) (show w.heap.size ≤ x by omega) _, hc4.setOther (p := ⟨x, 2, none⟩) (show x ≠ w.heap.size by omega) _, hr4.other (p := ⟨x, 2, none⟩) (show w.heap.size + 1 ≠ x by omega) _, ?_, own_setK ho4 hv4 2 _, J.hx, fun h => by simp at h⟩, row_setK hu4 hv4 2 _, hv4⟩
  simp only [List.length_append, List.length_singleton]
  exact hv4.set2 _
theorem RdK.setD {w W : World} {x c : Nat} {da db : Value} {a : Im4} {M : Img} {ts : List Value} (J : RdK w W x da db a M ts) (hc : c < M.data.length) : ∃ g, a.dq = some ⟨g, 0, none⟩ ∧ W.cell? ⟨g, c, none⟩ = some (.int .i64 M.data[c]) ∧ W.frozen? ⟨g, c, none⟩ = false ∧ ∀ W' n, Below W.heap.size W W' → RdK w (W'.setCell ⟨g, c, none⟩ (.int .i64 n)) x da db a { M with data := M.data.set c n } ts := by
  obtain ⟨g, e, h1, h2, h3, _⟩ := J.o.setD hc
  refine ⟨g, e, h1, h2, fun W' n hb => ?_⟩
  have J' := J.below hb
  obtain ⟨g', e', h1', h2', h3', h4'⟩ := J'.o.setD hc
  rw [e] at e'
  cases e'
  have hgv : x ≠ g := fun hh => J'.o.other J'.v (hh ▸ h3')
  have hgr : w.heap.size + 1 ≠ g := fun hh => J'.o.other J'.r (hh ▸ h3')
  have hgc : g ≠ w.heap.size := fun hh => by
    subst hh
    rcases h3' with q | q | q | q | ⟨t, ht, q⟩
    · exact (J'.o.rows.own (.slice a.ro M.refs.length a.rc, M.refs) (by simp [imRows])).row.other J'.d (by decide) q
    · exact (J'.o.rows.own (.slice a.tq M.table.length a.tc, M.table) (by simp [imRows])).row.other J'.d (by decide) q
    · exact (J'.o.rows.own (.slice a.dq M.data.length a.dc, M.data) (by simp [imRows])).row.other J'.d (by decide) q
    · exact J'.o.s.other J'.d (by decide) q
    · have hm : t ∈ (ts.zip (M.snaps.map (·.table))).map Prod.fst := by rw [zip_fst _ _ (by rw [List.length_map, J'.o.len])]; exact ht
      obtain ⟨p, hp, rfl⟩ := List.mem_map.1 hm
      exact (J'.o.rows.own p (by simp [imRows, hp])).row.other J'.d (by decide) q
  refine ⟨J'.k.setCell (p := ⟨g, c, none⟩) (J'.o.ge g h3').1 _, J'.d.setOther (p := ⟨g, c, none⟩) hgc _, J'.r.other (p := ⟨g, c, none⟩) hgr _, ?_, h4' n, J.hx, J.f⟩
  simp only [List.length_set]
  exact J'.v.other (p := ⟨g, c, none⟩) hgv _
theorem RdK.fin {w W : World} {x : Nat} {da db : Value} {a : Im4} {M : Img} {ts : List Value} (J : RdK w W x da db a M ts) : VarM (putI W (w.heap.size + 1) a M) (w.heap.size + 1) 30 (.slice a.ro M.refs.length a.rc) (.slice a.tq M.table.length a.tc) (.slice a.so M.snaps.length a.sc) (.slice a.dq M.data.length a.dc) ∧ OwnIm (putI W (w.heap.size + 1) a M) w.heap.size a M ts ∧ Below w.heap.size w (putI W (w.heap.size + 1) a M) := by
  have v1 := J.r.set0 (.slice a.ro M.refs.length a.rc)
  have v2 := v1.set1 (.slice a.tq M.table.length a.tc)
  have v3 := v2.set2 (.slice a.so M.snaps.length a.sc)
  exact ⟨v3.set3 _, own_setK (own_setK (own_setK (own_setK J.o J.r 0 _) v1 1 _) v2 2 _) v3 3 _, (((J.k.setCell (p := ⟨w.heap.size + 1, 0, none⟩) (Nat.le_succ _) _).setCell (p := ⟨w.heap.size + 1, 1, none⟩) (Nat.le_succ _) _).setCell (p := ⟨w.heap.size + 1, 2, none⟩) (Nat.le_succ _) _).setCell (p := ⟨w.heap.size + 1, 3, none⟩) (Nat.le_succ _) _⟩
structure RdP (w W : World) (x : Nat) (da db v2 v3 : Value) (rs : List (Value × List Int)) : Prop where
  k : Below w.heap.size w W
  d : VarD W w.heap.size da db
  r : VarM W (w.heap.size + 1) 30 (.slice none 0 0) (.slice none 0 0) (.slice none 0 0) (.slice none 0 0)
  v : VarM W x 30 (.slice none 0 0) (.slice none 0 0) v2 v3
  a : OwnA W w.heap.size rs
  hx : w.heap.size + 1 < x
theorem RdP.below {w W W' : World} {x : Nat} {da db v2 v3 : Value} {rs : List (Value × List Int)} (J : RdP w W x da db v2 v3 rs) (hb : Below W.heap.size W W') : RdP w W' x da db v2 v3 rs :=
  ⟨fr J.k hb, J.d.below hb, J.r.below hb, J.v.below hb, J.a.below hb, J.hx⟩
theorem RdP.snoc {w W W' : World} {x : Nat} {da db v2 v3 v : Value} {xs : List Int} {rs : List (Value × List Int)} (J : RdP w W x da db v2 v3 rs) (hb : Below W.heap.size W W') (hv : OwnN W' W.heap.size v xs) : RdP w W' x da db v2 v3 (rs ++ [(v, xs)]) :=
  ⟨fr J.k hb, J.d.below hb, J.r.below hb, J.v.below hb, J.a.snoc hb hv J.k.size, J.hx⟩
theorem RdP.put {w W : World} {x zc rc tc sc : Nat} {da db : Value} {zq ro tq so qo : Option Addr} {ZS SL CS TB : List Int} (J : RdP w W x da db (.slice so 0 0) (.slice zq ZS.length zc) [(.slice zq ZS.length zc, ZS), (.slice qo SL.length sc, SL), (.slice ro CS.length rc, CS), (.slice tq TB.length tc, TB)]) :
    RdK w ((W.setCell ⟨x, 0, none⟩ (.slice ro CS.length rc)).setCell ⟨x, 1, none⟩ (.slice tq TB.length tc)) x da db ⟨ro, rc, tq, tc, so, 0, zq, zc⟩ ⟨CS, TB, [], ZS⟩ [] ∧ OwnN ((W.setCell ⟨x, 0, none⟩ (.slice ro CS.length rc)).setCell ⟨x, 1, none⟩ (.slice tq TB.length tc)) w.heap.size (.slice qo SL.length sc) SL := by
  have hx := J.hx
  have v1 := J.v.set0 (.slice ro CS.length rc)
  have v2 := v1.set1 (.slice tq TB.length tc)
  have o0 : OwnIm W w.heap.size ⟨ro, rc, tq, tc, so, 0, zq, zc⟩ ⟨CS, TB, [], ZS⟩ [] := ⟨rfl, .inl ⟨rfl, rfl, so, 0, rfl⟩, by
    have e : imRows ⟨ro, rc, tq, tc, so, 0, zq, zc⟩ ⟨CS, TB, [], ZS⟩ [] = [(.slice ro CS.length rc, CS), (.slice tq TB.length tc, TB), (.slice zq ZS.length zc, ZS)] := by
      simp [imRows]
    rw [e]
    have h3 : OwnA W w.heap.size [(.slice zq ZS.length zc, ZS), (.slice ro CS.length rc, CS), (.slice tq TB.length tc, TB)] := ⟨fun r hr => J.a.own r (by simp only [List.mem_cons, List.not_mem_nil, or_false] at hr ⊢; rcases hr with h | h | h <;> simp [h]), J.a.apart.sublist (List.Sublist.cons_cons _ (List.Sublist.cons _ (List.Sublist.refl _)))⟩
    exact h3.perm ((List.Perm.swap _ _ _).trans (List.Perm.cons _ (List.Perm.swap _ _ _)))⟩
  have hu : OwnN W w.heap.size (.slice qo SL.length sc) SL := J.a.own (.slice qo SL.length sc, SL) (by simp)
  refine ⟨⟨(J.k.setCell (p := ⟨x, 0, none⟩) (show w.heap.size ≤ x by omega) _).setCell (p := ⟨x, 1, none⟩) (show w.heap.size ≤ x by omega) _, (J.d.setOther (p := ⟨x, 0, none⟩) (show x ≠ w.heap.size by omega) _).setOther (p := ⟨x, 1, none⟩) (show x ≠ w.heap.size by omega) _, (J.r.other (p := ⟨x, 0, none⟩) (show w.heap.size + 1 ≠ x by omega) _).other (p := ⟨x, 1, none⟩) (show w.heap.size + 1 ≠ x by omega) _, v2, own_setK (own_setK o0 J.v 0 _) v1 1 _, hx, fun _ => rfl⟩, row_setK (row_setK hu J.v 0 _) v1 1 _⟩
theorem zeros_row (ZS : List Int) (hz : ZS.length = 24) (w : World) : OwnN (w.alloc (.cells (intV ZS).toArray 3)) w.heap.size (.slice (some ⟨w.heap.size, 0, none⟩) 24 24) ZS :=
  OwnN.mk' (.inr ⟨by omega, by have := World.ownsRow_lit (base := w.heap.size) (e := 3) (size := 1) w (intV ZS).toArray 24 (Nat.le_refl _) (by unfold maxLen; omega) (by rw [intV_size, hz]); simpa using this⟩) hz
theorem RdP.new {w W0 : World} (da db : Value) (ZS : List Int) (hz : ZS.length = 24) (hA : Below w.heap.size w W0) (hV : VarD W0 w.heap.size da db) (hR : VarM W0 (w.heap.size + 1) 30 (.slice none 0 0) (.slice none 0 0) (.slice none 0 0) (.slice none 0 0)) :
    RdP w (((W0.alloc (.cells #[] 72)).alloc (.cells (intV ZS).toArray 3)).alloc (.cells #[.slice none 0 0, .slice none 0 0, .slice (some ⟨W0.heap.size, 0, none⟩) 0 0, .slice (some ⟨W0.heap.size + 1, 0, none⟩) 24 24] 30)) (W0.heap.size + 1 + 1) da db (.slice (some ⟨W0.heap.size, 0, none⟩) 0 0) (.slice (some ⟨W0.heap.size + 1, 0, none⟩) ZS.length 24) [(.slice (some ⟨W0.heap.size + 1, 0, none⟩) ZS.length 24, ZS)] := by
  have b1 := Joins.below_alloc1 W0 (.cells #[] 72)
  have b2 := Joins.below_alloc1 (W0.alloc (.cells #[] 72)) (.cells (intV ZS).toArray 3)
  have b3 := Joins.below_alloc1 ((W0.alloc (.cells #[] 72)).alloc (.cells (intV ZS).toArray 3)) (.cells #[.slice none 0 0, .slice none 0 0, .slice (some ⟨W0.heap.size, 0, none⟩) 0 0, .slice (some ⟨W0.heap.size + 1, 0, none⟩) 24 24] 30)
  have hlt := hR.lt
  have hz1 : OwnN ((W0.alloc (.cells #[] 72)).alloc (.cells (intV ZS).toArray 3)) (W0.heap.size + 1) (.slice (some ⟨W0.heap.size + 1, 0, none⟩) 24 24) ZS := by
    have := zeros_row ZS hz (W0.alloc (.cells #[] 72))
    simpa using this
  have hv3 : VarM (((W0.alloc (.cells #[] 72)).alloc (.cells (intV ZS).toArray 3)).alloc (.cells #[.slice none 0 0, .slice none 0 0, .slice (some ⟨W0.heap.size, 0, none⟩) 0 0, .slice (some ⟨W0.heap.size + 1, 0, none⟩) 24 24] 30)) (W0.heap.size + 1 + 1) 30 (.slice none 0 0) (.slice none 0 0) (.slice (some ⟨W0.heap.size, 0, none⟩) 0 0) (.slice (some ⟨W0.heap.size + 1, 0, none⟩) 24 24) := by
    have := VarM.new ((W0.alloc (.cells #[] 72)).alloc (.cells (intV ZS).toArray 3)) 30 (.slice none 0 0) (.slice none 0 0) (.slice (some ⟨W0.heap.size, 0, none⟩) 0 0) (.slice (some ⟨W0.heap.size + 1, 0, none⟩) 24 24)
    simpa using this
  rw [hz]
  exact ⟨fr (fr (fr hA b1) b2) b3, ((hV.below b1).below b2).below b3, ((hR.below b1).below b2).below b3, hv3, OwnA.one ((hz1.below b3).base (by omega)), by omega⟩
theorem AnsR.bad {w w' : World} {sec : Nat → ByteArray} (h : srB sec = false) (hb : Below w.heap.size w w') : AnsR w w' (.returned (.tuple #[.agg #[.slice none 0 0, .slice none 0 0, .slice none 0 0, .slice none 0 0], .bool false])) sec :=
  ⟨⟨none, 0, none, 0, none, 0, none, 0⟩, im0, [], by rw [h]; rfl, OwnIm.zero _ _, fun hh => (by rw [h] at hh; cases hh), hb⟩
def setZ (W : World) (y : Nat) : World := (((W.setCell ⟨y, 0, none⟩ (.slice none 0 0)).setCell ⟨y, 1, none⟩ (.slice none 0 0)).setCell ⟨y, 2, none⟩ (.slice none 0 0)).setCell ⟨y, 3, none⟩ (.slice none 0 0)
theorem setZ_var {w W : World} (hV : VarM W (w.heap.size + 1) 30 (.slice none 0 0) (.slice none 0 0) (.slice none 0 0) (.slice none 0 0)) (hB : Below w.heap.size w W) : VarM (setZ W (w.heap.size + 1)) (w.heap.size + 1) 30 (.slice none 0 0) (.slice none 0 0) (.slice none 0 0) (.slice none 0 0) ∧ Below w.heap.size w (setZ W (w.heap.size + 1)) :=
  ⟨(((hV.set0 _).set1 _).set2 _).set3 _, (((hB.setCell (p := ⟨w.heap.size + 1, 0, none⟩) (Nat.le_succ _) _).setCell (p := ⟨w.heap.size + 1, 1, none⟩) (Nat.le_succ _) _).setCell (p := ⟨w.heap.size + 1, 2, none⟩) (Nat.le_succ _) _).setCell (p := ⟨w.heap.size + 1, 3, none⟩) (Nat.le_succ _) _⟩
theorem OwnN.at {w : World} {B i n k g : Nat} {xs : List Int} (h : OwnN w B (.slice (some ⟨g, 0, none⟩) n k) xs) (hn : n = xs.length) (hi : i < xs.length) : w.cell? ⟨g, i, none⟩ = some (.int .i64 xs[i]) := by
  obtain ⟨g', e, h1, _⟩ := h.spot hn hi
  cases e
  exact h1
theorem OwnN.form {w : World} {B : Nat} {v : Value} {xs : List Int} (h : OwnN w B v xs) (hp : 0 < xs.length) : ∃ g k, v = .slice (some ⟨g, 0, none⟩) xs.length k := by
  obtain ⟨qo, qa, rfl, h2⟩ := h
  obtain ⟨g, e, _⟩ := OwnN.spot (c := 0) (n := xs.length) (k := qa) (ao := qo) ⟨qo, qa, rfl, h2⟩ rfl hp
  exact ⟨g, qa, by rw [e]⟩

section
variable {P : Program} {ops : Array Oper}
end

end Go.Proofs.YtpdpnepnfhbonaaGreatDoor

namespace Go.Proofs.YtpdpnepnfhbonaaGreatDoor
open Go.RowKit
set_option linter.unusedVariables false
set_option maxRecDepth 100000

theorem ev_eq {a : Act} {i n : Nat} {v : Value} (hs : a.tmps.size = n) (h : i < n) : (a.put (some i) v).eval (.tmp i) = v := by
  show (a.tmps.setIfInBounds i v).getD i undef = v
  rw [Array.getD_eq_getD_getElem?, Array.getElem?_setIfInBounds, if_pos rfl, if_pos (by omega)]; rfl
theorem sz_put {a : Act} {i n : Nat} {v : Value} (hs : a.tmps.size = n) : (a.put (some i) v).tmps.size = n := by
  show (a.tmps.setIfInBounds i v).size = n
  rw [Array.size_setIfInBounds]; exact hs
theorem tm_ne {a A' : Act} {i j : Nat} {v u : Value} (hA : A' = a.put (some i) v) (h : ∀ hh, a.tmps[j]'hh = u) (ne : i ≠ j) : ∀ hh, A'.tmps[j]'hh = u := by
  subst hA
  intro hh
  have hq : j < (a.tmps.setIfInBounds i v).size := hh
  have hh' : j < a.tmps.size := by rwa [Array.size_setIfInBounds] at hq
  show (a.tmps.setIfInBounds i v)[j]'hq = u
  rw [Array.getElem_setIfInBounds hh', if_neg ne]
  exact h hh'
theorem tm_eq {a A' : Act} {i : Nat} {v : Value} (hA : A' = a.put (some i) v) : ∀ hh, A'.tmps[i]'hh = v := by
  subst hA
  intro hh
  have hq : i < (a.tmps.setIfInBounds i v).size := hh
  have hh' : i < a.tmps.size := by rwa [Array.size_setIfInBounds] at hq
  show (a.tmps.setIfInBounds i v)[i]'hq = v
  rw [Array.getElem_setIfInBounds hh', if_pos rfl]
theorem tm_sz {a A' : Act} {i n : Nat} {v : Value} (hA : A' = a.put (some i) v) (hs : a.tmps.size = n) : A'.tmps.size = n := by
  subst hA; exact sz_put hs
theorem tm_ev {a : Act} {j n : Nat} {v : Value} (h : ∀ hh, a.tmps[j]'hh = v) (hs : a.tmps.size = n) (hj : j < n) : a.eval (.tmp j) = v := by
  show a.tmps.getD j undef = v
  have hj' : j < a.tmps.size := by omega
  rw [Array.getD_eq_getD_getElem?, Array.getElem?_eq_getElem hj']
  exact h hj'
theorem put_swap (a : Act) {i j : Nat} (v u : Value) (h : i ≠ j) : (a.put (some i) v).put (some j) u = (a.put (some j) u).put (some i) v := by
  show (⟨(a.tmps.setIfInBounds i v).setIfInBounds j u, a.defers⟩ : Act) = ⟨(a.tmps.setIfInBounds j u).setIfInBounds i v, a.defers⟩
  rw [Array.setIfInBounds_comm _ _ h]
def putsA (a : Act) : Nat → List Value → Act
  | _, [] => a
  | b, v :: vs => putsA (a.put (some b) v) (b + 1) vs
theorem puts_out : ∀ (vs : List Value) (a : Act) (b n : Nat), a.tmps.size = n → b + vs.length ≤ n → putsA a b vs = ⟨(a.tmps.toList.take b ++ (vs ++ a.tmps.toList.drop (b + vs.length))).toArray, a.defers⟩
  | [], a, b, n, hs, h => by
    show a = _
    simp
  | v :: vs, a, b, n, hs, h => by
    rw [List.length_cons] at h
    rw [putsA, puts_out vs _ (b + 1) n (sz_put hs) (by omega)]
    have e : (a.put (some b) v).tmps.toList = a.tmps.toList.set b v := by
      show (a.tmps.setIfInBounds b v).toList = _
      simp
    have hl : a.tmps.toList.length = n := by simpa using hs
    have hd : (a.put (some b) v).defers = a.defers := rfl
    rw [e, hd]
    congr 1
    have e1 : (a.tmps.toList.set b v).take (b + 1) = a.tmps.toList.take b ++ [v] := by
      apply List.ext_getElem
      · simp [hl]; omega
      · intro j h1 h2
        rw [List.getElem_take, List.getElem_set]
        by_cases hj : j < b
        · rw [if_neg (by omega), List.getElem_append_left (by simp [hl]; omega), List.getElem_take]
        · have : j = b := by simp [hl] at h1; omega
          subst this
          rw [if_pos rfl, List.getElem_append_right (by simp [hl]; omega)]
          simp
    have e2 : (a.tmps.toList.set b v).drop (b + 1 + vs.length) = a.tmps.toList.drop (b + (vs.length + 1)) := by
      rw [List.drop_set_of_lt (by omega), show b + 1 + vs.length = b + (vs.length + 1) by omega]
    rw [e1, e2, List.length_cons]
    simp
section
variable {P : Program} {w : World} {ρ : Operand → Value} {o : Oper}
end

section
variable {P : Program} {Q : Exit → Act → World → Prop} {S : World → Prop} {C : Act → World → Prop} {l : List Oper}
theorem ord_readL {i : Nat} {o : Oper} {r : List (Nat × Nat)} {a : Act} {w : World} (v : Value) (ho : l[i]? = some o) (hg : o.guard = none) (hS : S w) (hv : ∀ w', S w' → (execOp a.eval o).run P w' = .ok (.value v) w') (h : ∀ A', A' = a.put o.dst v → wpOrd P l Q S C r A' w) : wpOrd P l Q S C ((i, 0) :: r) a w :=
  ord_read v ho hg hS hv (h _ rfl)
theorem ord_valL {i : Nat} {o : Oper} {r : List (Nat × Nat)} {a : Act} {w : World} (v : Value) (ho : l[i]? = some o) (hg : o.guard = none) (hv : ∀ w', (execOp a.eval o).run P w' = .ok (.value v) w') (h : ∀ A', A' = a.put o.dst v → wpOrd P l Q S C r A' w) : wpOrd P l Q S C ((i, 4) :: r) a w :=
  ord_val v ho hg hv (h _ rfl)
end

end Go.Proofs.YtpdpnepnfhbonaaGreatDoor

namespace Go.Proofs.YtpdpnepnfhbonaaGreatDoor
open Go.RowKit Go.Sort
set_option linter.unusedVariables false
set_option maxRecDepth 100000

theorem lit1K {w W : World} (_ : Hid (∃ os, W = grow w os)) (a : Int) : (convert 89 9 (.slice (some ⟨W.heap.size, 0, none⟩) 1 1)).run Tryz.prog (W.alloc (.cells #[.int .u8 a] 5)) = .ok (.string (strOfNums [a])) (W.alloc (.cells #[.int .u8 a] 5)) := lit1 W a
theorem grown_alloc {w W : World} (h : ∃ os, W = grow w os) (o : Obj) : ∃ os, W.alloc o = grow w os := by
  obtain ⟨os, rfl⟩ := h
  exact ⟨os ++ #[o], by rw [alloc_eq_grow, grow_grow]⟩
theorem grown_below {w : World} (n : Nat) (os : Array Obj) : Below w.heap.size w (grow (w.drewN n) os) := by
  have h1 : Below w.heap.size w (w.drewN n) := ⟨rfl, rfl, rfl, Nat.le_refl _, fun _ _ => rfl⟩
  refine h1.trans ?_
  exact ⟨rfl, rfl, rfl, by simp [grow], fun k hk => heap_grow_old _ _ (by exact hk)⟩

set_option maxHeartbeats 800000 in
theorem l11Unname_grown (N : Nat) (w : World) (hz : N ≤ 2147483647) :
    Calls Tryz.prog 44 #[.int .i64 N] w fun e w' => e = .returned (.string (unT N)) ∧ ∃ os, w' = grow w os := by
  have HJ0 := hide (UnJ.start hz)
  clear hz
  go_enter Tryz.func44, Tryz.ntmps44
  go_wp2
  go_loopw [0, 3] (fun n o wr => ∃ (m : Nat) (s : ByteArray), n = .int .i64 m ∧ o = .string s ∧ Hid (UnJ N m s) ∧ Hid (∃ os, wr = grow w os)) (fun n _ _ => (intOf n).toNat)
  case atStart => exact ⟨N, _, rfl, rfl, HJ0, hide ⟨#[], (grow_empty _).symm⟩⟩
  case round =>
    obtain ⟨m, s, rfl, rfl, HJ, HB⟩ := hrel
    obtain ⟨b1, b2⟩ := (unhide HJ).small
    by_cases hlt : 0 < m
    · have hlti : (0 : Int) < (m : Int) := by omega
      obtain ⟨hj, hsz⟩ := (unhide HJ).step hlt
      have HJ2 := hide hj
      clear hj
      have hcv := lit1K HB (97 + ((m : Int) + 26) % 27)
      have w1 : IntKind.i64.wrap ((m : Int) + 26) = (m : Int) + 26 := by rw [IntKind.wrap_i64]; omega
      have hs1 : (strOfNums [97 + ((m : Int) + 26) % 27]).size = 1 := strOfNums_size _
      clear hsz
      have h1 := Int.emod_nonneg ((m : Int) + 26) (show (27 : Int) ≠ 0 by decide)
      have h2 := Int.emod_lt_of_pos ((m : Int) + 26) (show (0 : Int) < 27 by decide)
      go_wp2
      go_roundw
      case rel => exact ⟨m / 27, _, by go_num, rfl, HJ2, hide (grown_alloc (unhide HB) _)⟩
      case measure => simp [intOf]; omega
    · obtain rfl : m = 0 := by omega
      have HF := hide (unhide HJ).stop
      go_wp2
      go_ret
      exact ⟨ret_str (unhide HF), unhide HB⟩

theorem unname_g (V : Nat) (hz : V ≤ 2147483647) (w : World) (n : Nat) (os : Array Obj) : Calls Tryz.prog 44 #[.int .i64 V] (grow (w.drewN n) os) fun e w'' => e = .returned (.string (unT V)) ∧ ∃ p : GrownBy, w'' = grow (w.drewN p.n) p.os :=
  Calls.grown_of ((l11Unname_grown V _ hz).mono (fun e w' h => by
    obtain ⟨h1, os', h2⟩ := h
    exact ⟨h1, 0, os', h2⟩))
theorem name_g (t : ByteArray) (hz : t.size ≤ 8) (w : World) (n : Nat) (os : Array Obj) : Calls Tryz.prog 43 #[.string t] (grow (w.drewN n) os) fun e w'' => e = .returned (.int .i64 (nmN t)) ∧ ∃ p : GrownBy, w'' = grow (w.drewN p.n) p.os :=
  Calls.grown_of ((l11Name_any t _ hz).mono (fun e w' h => ⟨h.1, 0, #[], by rw [h.2, World.drewN_zero, grow_empty]⟩))

end Go.Proofs.YtpdpnepnfhbonaaGreatDoor
