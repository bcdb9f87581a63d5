/- A region that draws its order, met by an invariant: one step law an operation, whatever order is drawn. -/
import Derived.Test.YtkaiglhljpehpabGen
import Derived.WalkKit
import Derived.WalkSpells
import Derived.Orders
import Derived.Still
namespace Go.Proofs.Ytkaiglhljpehpab
open Go.RowKit
set_option linter.unusedVariables false

section
variable {P : Program}
/-- Every operation waits for earlier ones alone. -/
def linB (l : List Oper) : Bool := (List.range l.length).all fun i => ((l[i]?).map fun o => o.after.all fun e => decide (e.on < i)).getD true
theorem linB_spec {l : List Oper} (h : linB l = true) {i : Nat} {o : Oper} (hi : l[i]? = some o) {e : Edge} (he : e ∈ o.after) : e.on < i := by
  have hl := (List.getElem?_eq_some_iff.1 hi).1
  have := List.all_eq_true.1 h i (List.mem_range.2 hl)
  rw [hi] at this
  simp only [Option.map_some, Option.getD_some] at this
  have := Array.all_eq_true_iff_forall_mem.1 this e he
  exact of_decide_eq_true this

/-- No operation is guarded. -/
def noG (l : List Oper) : Bool := l.all fun o => o.guard.isNone
theorem noG_spec {l : List Oper} (h : noG l = true) (i : Nat) (o : Oper) (hi : l[i]? = some o) : o.guard = none := by
  have := List.all_eq_true.1 h o (List.mem_of_getElem? hi)
  simpa using this
/-- What has been done, and one more. -/
def updD (d : Nat → Bool) (i : Nat) : Nat → Bool := fun j => d j || decide (j = i)

theorem wp_region_inv {id : Nat} {Q : Exit → Act → World → Prop} {a : Act} {w : World} {l : List Oper} (I : (Nat → Bool) → Act → World → Prop) (hm : P.follows .mixedOrders = true) (hl : linB l = true)
    (hg : ∀ (i : Nat) (o : Oper), l[i]? = some o → o.guard = none)
    (h0 : I (fun _ => false) a { w with drawn := w.drawn + 1 })
    (hs : ∀ (d : Nat → Bool) (a : Act) (w : World) (i : Nat) (o : Oper), I d a w → l[i]? = some o → d i = false → (∀ e ∈ o.after, Region.binds .any e = true → d e.on = true) → ∀ K : Act → World → Prop, (∀ a' w', I (updD d i) a' w' → K a' w') → o.wp P a w K Q)
    (he : ∀ (d : Nat → Bool) (a : Act) (w : World), I d a w → (∀ i, i < l.length → d i = true) → Q .normal a w) : (Code.region id l.toArray true).wp P Q a w := by
  refine wp_region_any hm ?_
  have key : ∀ (fuel : Nat) (listed : Array Bool) (a : Act) (w : World), listed.size = l.length → ((List.range l.length).filter fun i => !listed.getD i true).length ≤ fuel → I (fun j => listed.getD j true && decide (j < l.length)) a w → wpAny P .any l.toArray Q fuel listed a w := by
    intro fuel
    induction fuel with
    | zero =>
      intro listed a w hsz hn hI
      have hall : ∀ i, i < l.length → listed.getD i true = true := fun i hi => by
        cases h : listed.getD i true with
        | true => rfl
        | false =>
          have : i ∈ (List.range l.length).filter fun i => !listed.getD i true := List.mem_filter.2 ⟨List.mem_range.2 hi, by rw [h]; rfl⟩
          have := List.length_pos_of_mem this
          omega
      refine ⟨?_, he _ _ _ hI (fun i hi => by rw [hall i hi]; simp [hi])⟩
      rw [List.eq_nil_iff_forall_not_mem]
      intro i hi
      obtain ⟨h1, o, ho, _⟩ := mem_ready.1 hi
      have hil : i < l.length := by have := (Array.getElem?_eq_some_iff.1 ho).1; simpa using this
      rw [hall i hil] at h1
      cases h1
    | succ fuel ih =>
      intro listed a w hsz hn hI
      refine ⟨fun hr => he _ _ _ hI ?_, fun i hi => ?_⟩
      · have : ∀ n, ∀ i, i < n → i < l.length → listed.getD i true = true := by
          intro n
          induction n with
          | zero => intro i hi; omega
          | succ n ihn =>
            intro i hi hil
            by_cases hin : i < n
            · exact ihn i hin hil
            obtain rfl : i = n := by omega
            cases h : listed.getD i true with
            | true => rfl
            | false =>
              have hm' : i ∈ Region.ready .any l.toArray listed := mem_ready.2 ⟨h, l[i], by simp [hil], fun e he hb => by
                have hlt := linB_spec hl (List.getElem?_eq_getElem hil) he
                have h1 := ihn e.on hlt (by omega)
                have hz : e.on < listed.size := by omega
                rw [Array.getD_eq_getD_getElem?, Array.getElem?_eq_getElem hz] at h1 ⊢
                simpa only [Option.getD_some] using h1⟩
              rw [hr] at hm'
              cases hm'
        intro i hil
        rw [this (i + 1) i (by omega) hil]
        simp [hil]
      · obtain ⟨h1, o, ho, hp⟩ := mem_ready.1 hi
        have hil : i < l.length := by have := (Array.getElem?_eq_some_iff.1 ho).1; simpa using this
        have hoL : l[i]? = some o := by simpa using ho
        unfold wpOp
        simp only [ho]
        have hw : Region.wanted o (yielded l.toArray a.tmps) = true := by simp [Region.wanted, hg i o hoL]
        rw [if_pos hw]
        refine .inl (hs _ a w i o hI hoL (by rw [h1]; rfl) (fun e he hb => ?_) _ (fun a' w' hI' => ?_))
        · have h2 := hp e he hb
          have hlt := linB_spec hl hoL he
          have : e.on < listed.size := by omega
          rw [Array.getD_eq_getD_getElem?, Array.getElem?_eq_getElem this] at h2 ⊢
          simp only [Option.getD_some] at h2 ⊢
          rw [h2]
          simp
          omega
        · refine ih _ a' w' (by simpa using hsz) ?_ ?_
          · have hlt : ((List.range l.length).filter fun j => !(listed.setIfInBounds i true).getD j true).length < ((List.range l.length).filter fun j => !listed.getD j true).length := by
              have hsub : ((List.range l.length).filter fun j => !(listed.setIfInBounds i true).getD j true) = ((List.range l.length).filter fun j => !listed.getD j true).filter fun j => decide (j ≠ i) := by
                rw [List.filter_filter]
                congr 1
                funext j
                by_cases hji : j = i
                · subst hji
                  simp [Array.getD_eq_getD_getElem?, hsz, hil]
                · have : i ≠ j := fun e => hji e.symm
                  simp [Array.getD_eq_getD_getElem?, this, hji]
              rw [hsub]
              refine Nat.lt_of_le_of_ne (List.length_filter_le _ _) (fun e => ?_)
              have := List.length_filter_eq_length_iff.1 e i (List.mem_filter.2 ⟨List.mem_range.2 hil, by rw [h1]; rfl⟩)
              simp at this
            omega
          · have e : (fun j => (listed.setIfInBounds i true).getD j true && decide (j < l.length)) = updD (fun j => listed.getD j true && decide (j < l.length)) i := by
              funext j
              unfold updD
              by_cases hji : j = i
              · subst hji
                simp [Array.getD_eq_getD_getElem?, hsz, hil]
              · have : i ≠ j := fun e => hji e.symm
                simp [Array.getD_eq_getD_getElem?, this, hji]
            rw [e]
            exact hI'
  refine key _ _ _ _ (by simp) ?_ ?_
  · refine Nat.le_trans (List.length_filter_le _ _) ?_
    simp
  · have e : (fun j => (Array.replicate l.toArray.size false).getD j true && decide (j < l.length)) = fun _ => false := by
      funext j
      by_cases hj : j < l.length
      · simp [Array.getD_eq_getD_getElem?, hj]
      · simp [hj]
    rw [e]
    exact h0
/-- What has been done is closed: whatever an operation waits for has been done before it. -/
def Closed (l : List Oper) (d : Nat → Bool) : Prop := ∀ (j : Nat) (o : Oper), l[j]? = some o → d j = true → ∀ e ∈ o.after, Region.binds .any e = true → d e.on = true
/-- The second has been done where the first has. -/
def reachB (l : List Oper) : Nat → Nat → Nat → Bool
  | 0, j, i => decide (j = i)
  | f + 1, j, i => decide (j = i) || ((l[j]?).map fun o => o.after.any fun e => Region.binds .any e && reachB l f e.on i).getD false
theorem reach_done {l : List Oper} {d : Nat → Bool} (hc : Closed l d) : ∀ {f j i : Nat}, reachB l f j i = true → d j = true → d i = true
  | 0, j, i, h, hj => by
    simp only [reachB, decide_eq_true_eq] at h
    rwa [← h]
  | f + 1, j, i, h, hj => by
    simp only [reachB, Bool.or_eq_true, decide_eq_true_eq] at h
    rcases h with h | h
    · rwa [← h]
    · cases ho : l[j]? with
      | none => rw [ho] at h; simp at h
      | some o =>
        rw [ho] at h
        simp only [Option.map_some, Option.getD_some] at h
        rw [Array.any_eq_true] at h
        obtain ⟨n, hn, he⟩ := h
        rw [Bool.and_eq_true] at he
        exact reach_done hc he.2 (hc j o ho hj o.after[n] (Array.getElem_mem hn) he.1)
theorem not_yet {l : List Oper} {d : Nat → Bool} (hc : Closed l d) (f : Nat) {j i : Nat} (hr : reachB l f j i = true) (hi : d i = false) : d j = false := by
  cases h : d j with
  | false => rfl
  | true => rw [reach_done hc hr h] at hi; cases hi
theorem wp_region_inv2 {id : Nat} {Q : Exit → Act → World → Prop} {a : Act} {w : World} {l : List Oper} (I : (Nat → Bool) → Act → World → Prop) (hm : P.follows .mixedOrders = true) (hl : linB l = true)
    (hg : ∀ (i : Nat) (o : Oper), l[i]? = some o → o.guard = none)
    (h0 : I (fun _ => false) a { w with drawn := w.drawn + 1 })
    (hs : ∀ (d : Nat → Bool) (a : Act) (w : World) (i : Nat) (o : Oper), Closed l d → I d a w → l[i]? = some o → d i = false → (∀ e ∈ o.after, Region.binds .any e = true → d e.on = true) → ∀ K : Act → World → Prop, (∀ a' w', I (updD d i) a' w' → K a' w') → o.wp P a w K Q)
    (he : ∀ (d : Nat → Bool) (a : Act) (w : World), I d a w → (∀ i, i < l.length → d i = true) → Q .normal a w) : (Code.region id l.toArray true).wp P Q a w := by
  refine wp_region_inv (fun d a w => Closed l d ∧ I d a w) hm hl hg ⟨fun j o _ h => (by cases h), h0⟩ (fun d a w i o hI ho hd hp K hK => ?_) (fun d a w hI hall => he d a w hI.2 hall)
  refine hs d a w i o hI.1 hI.2 ho hd hp K (fun a' w' hI' => hK a' w' ⟨fun j oj hj hd' e he' hb => ?_, hI'⟩)
  simp only [updD, Bool.or_eq_true, decide_eq_true_eq] at hd' ⊢
  rcases hd' with hd' | rfl
  · exact .inl (hI.1 j oj hj hd' e he' hb)
  · rw [ho] at hj
    cases hj
    exact .inl (hp e he' hb)
end

end Go.Proofs.Ytkaiglhljpehpab
