/- What stays where only some blocks are written; rows of the call's own that are marked. -/
import Derived.Test.YtlhinknmbgijeabGen
import Derived.WalkKit
import Derived.Laws.OwnMore
namespace Go.Proofs.Ytlhinknmbgijeab
open Go.RowKit
set_option linter.unusedVariables false

/-- Of what was there only blocks of S have turned. -/
structure Keep (S : Nat → Prop) (w w' : World) : Prop where
  os : w'.os = w.os
  tape : w'.tape = w.tape
  output : w'.output = w.output
  size : w.heap.size ≤ w'.heap.size
  block : ∀ k, k < w.heap.size → ¬ S k → w'.heap[k]? = w.heap[k]?

theorem Keep.refl (S : Nat → Prop) (w : World) : Keep S w w := ⟨rfl, rfl, rfl, Nat.le_refl _, fun _ _ _ => rfl⟩
theorem Keep.trans {S : Nat → Prop} {a b c : World} (h : Keep S a b) (k : Keep S b c) : Keep S a c :=
  ⟨k.os.trans h.os, k.tape.trans h.tape, k.output.trans h.output, Nat.le_trans h.size k.size, fun i hi hs => (k.block i (Nat.lt_of_lt_of_le hi h.size) hs).trans (h.block i hi hs)⟩
theorem Keep.mono {S T : Nat → Prop} {a b : World} (h : Keep S a b) (hs : ∀ k, S k → T k) : Keep T a b :=
  ⟨h.os, h.tape, h.output, h.size, fun i hi ht => h.block i hi (fun hk => ht (hs i hk))⟩
theorem Keep.of_below {S : Nat → Prop} {a b : World} (h : Below a.heap.size a b) : Keep S a b := ⟨h.os, h.tape, h.output, h.size, fun i hi _ => h.block i hi⟩
theorem Keep.below {S : Nat → Prop} {a b : World} {B : Nat} (h : Keep S a b) (hB : B ≤ a.heap.size) (hs : ∀ k, S k → B ≤ k) : Below B a b :=
  ⟨h.os, h.tape, h.output, h.size, fun i hi => h.block i (by omega) (fun hk => by have := hs i hk; omega)⟩
theorem Keep.setCell {S : Nat → Prop} {a b : World} (h : Keep S a b) {p : Addr} (hp : S p.block) (v : Value) : Keep S a (b.setCell p v) :=
  ⟨h.os, h.tape, h.output, by simpa using h.size, fun i hi hs => by
    rw [Below.heap_setCell b p v i (fun e => hs (e ▸ hp))]; exact h.block i hi hs⟩

/-- A row of the call's own; of one that is empty nothing is said of where it lies. -/
def OwnR (w : World) (B e size : Nat) (v : Value) (n : Nat) (xs : List Value) : Prop := (n = 0 ∧ xs = [] ∧ ∃ ao, v = .slice ao 0 0) ∨ (0 < n ∧ w.ownsRow B e size v n xs)
/-- The block of a row that is not empty. -/
def Own (v : Value) (k : Nat) : Prop := ∃ a n c, v = .slice (some a) (n + 1) c ∧ a.block = k

theorem OwnR.of {w : World} {B e size n : Nat} {v : Value} {xs : List Value} (h : w.ownsRow B e size v n xs) (hv : n = 0 → ∃ ao, v = .slice ao 0 0) : OwnR w B e size v n xs := by
  rcases Nat.eq_zero_or_pos n with h0 | h0
  · have hx : xs = [] := List.eq_nil_of_length_eq_zero (by have := h.1; rw [h0] at this; omega)
    exact .inl ⟨h0, hx, hv h0⟩
  · exact .inr ⟨h0, h⟩
theorem OwnR.len {w : World} {B e size n : Nat} {v : Value} {xs : List Value} (h : OwnR w B e size v n xs) : xs.length = n * size := by
  rcases h with ⟨rfl, rfl, _⟩ | ⟨_, h⟩
  · simp
  · exact h.1
theorem own_form {w : World} {B e size n : Nat} {v : Value} {xs : List Value} (h0 : 0 < n) (h : w.ownsRow B e size v n xs) : ∃ g cap cur, v = .slice (some ⟨g, 0, none⟩) n cap ∧ B ≤ g ∧ w.heap[g]? = some (.cells cur e (0, 0)) := by
  rcases h.2 with ⟨rfl, e0⟩ | ⟨g, cap, cur, e0, hB, hg, _⟩
  · omega
  · exact ⟨g, cap, cur, e0, hB, hg⟩
theorem own_of {g n cap k : Nat} (h0 : 0 < n) (h : g = k) : Own (.slice (some ⟨g, 0, none⟩) n cap) k := ⟨⟨g, 0, none⟩, n - 1, cap, by rw [show n - 1 + 1 = n by omega], h⟩
theorem own_elim {g n cap k : Nat} (h : Own (.slice (some ⟨g, 0, none⟩) n cap) k) : g = k := by
  obtain ⟨a, m, c, e, hk⟩ := h
  simp only [Value.slice.injEq, Option.some.injEq] at e
  rw [← e.1] at hk; exact hk
theorem own_no {ao : Option Addr} {cap k : Nat} : ¬ Own (.slice ao 0 cap) k := by
  rintro ⟨a, m, c, e, _⟩
  simp at e
theorem OwnR.keep {S : Nat → Prop} {w w' : World} {B e size n : Nat} {v : Value} {xs : List Value} (h : OwnR w B e size v n xs) (hk : Keep S w w') (hs : ∀ g, Own v g → ¬ S g) : OwnR w' B e size v n xs := by
  rcases h with h | ⟨h0, h⟩
  · exact .inl h
  · refine .inr ⟨h0, h.1, ?_⟩
    rcases h.2 with ⟨rfl, e0⟩ | ⟨g, cap, cur, rfl, hB, hg, hnc, hcm, hcs, ht⟩
    · omega
    · refine .inr ⟨g, cap, cur, rfl, hB, ?_, hnc, hcm, hcs, ht⟩
      rw [hk.block g (Array.getElem?_eq_some_iff.1 hg).1 (hs g (own_of h0 rfl))]; exact hg
theorem OwnR.below {w w' : World} {B e size n : Nat} {v : Value} {xs : List Value} (h : OwnR w B e size v n xs) (hb : Below w.heap.size w w') : OwnR w' B e size v n xs :=
  h.keep (S := fun _ => False) (Keep.of_below hb) (fun _ _ h => h)
theorem OwnR.base {w : World} {B B' e size n : Nat} {v : Value} {xs : List Value} (h : OwnR w B e size v n xs) (hB : B' ≤ B) : OwnR w B' e size v n xs := by
  rcases h with h | ⟨h0, h⟩
  · exact .inl h
  · exact .inr ⟨h0, own_base h hB⟩
theorem OwnR.ge {w : World} {B e size n : Nat} {v : Value} {xs : List Value} (h : OwnR w B e size v n xs) : ∀ k, Own v k → B ≤ k ∧ k < w.heap.size := by
  intro k hk
  rcases h with ⟨_, _, ao, rfl⟩ | ⟨h0, h⟩
  · exact absurd hk own_no
  · obtain ⟨g, cap, cur, rfl, hB, hg⟩ := own_form h0 h
    cases own_elim hk
    exact ⟨hB, (Array.getElem?_eq_some_iff.1 hg).1⟩
/-- The block of a row has its elements' type. -/
theorem OwnR.other {w : World} {B e size n : Nat} {v : Value} {xs : List Value} (h : OwnR w B e size v n xs) {x t : Nat} {c : Array Value} {f : Nat × Nat} (hx : w.heap[x]? = some (.cells c t f)) (he : t ≠ e) : ¬ Own v x := by
  intro hk
  rcases h with ⟨_, _, ao, rfl⟩ | ⟨h0, h⟩
  · exact own_no hk
  · obtain ⟨g, cap, cur, rfl, hB, hg⟩ := own_form h0 h
    cases own_elim hk
    rw [hx] at hg; simp at hg; exact he hg.2.1
/-- Rows of elements of two types lie in two blocks. -/
theorem own_apart {w : World} {B B' e e' size size' n n' : Nat} {v v' : Value} {xs xs' : List Value} (h : OwnR w B e size v n xs) (h' : OwnR w B' e' size' v' n' xs') (he : e ≠ e') : ∀ g, Own v g → ¬ Own v' g := by
  intro g hg hg'
  rcases h with ⟨_, _, ao, rfl⟩ | ⟨h0, h⟩
  · exact own_no hg
  · obtain ⟨g1, cap, cur, rfl, hB, hh⟩ := own_form h0 h
    cases own_elim hg
    exact h'.other hh he hg'
theorem OwnR.setCell {w : World} {B e size n : Nat} {v : Value} {xs : List Value} (h : OwnR w B e size v n xs) {a : Addr} (ha : a.block < B) (u : Value) : OwnR (w.setCell a u) B e size v n xs := by
  rcases h with h | ⟨h0, h⟩
  · exact .inl h
  · exact .inr ⟨h0, ownsRow_setCell_below h ha u⟩

end Go.Proofs.Ytlhinknmbgijeab
