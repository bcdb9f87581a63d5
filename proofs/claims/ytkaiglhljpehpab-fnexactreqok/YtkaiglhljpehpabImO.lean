/- Images that are owned: their rows of numbers lie apart from each other. (Made ahead of stage 10.) -/
import Derived.Test.YtkaiglhljpehpabGen
import Derived.Test.YtkaiglhljpehpabKeep
import Derived.Test.YtkaiglhljpehpabInts
import Derived.Test.YtkaiglhljpehpabOwnN
import Derived.Test.YtkaiglhljpehpabImP
import Derived.Test.YtkaiglhljpehpabImV
import Derived.WalkKit
import Derived.Laws.OwnMore
namespace Go.Proofs.Ytkaiglhljpehpab
open Go.RowKit
set_option linter.unusedVariables false
set_option maxRecDepth 100000

/-- Rows of numbers of the call's own, none of which lies in another's block. -/
structure OwnA (w : World) (B : Nat) (rs : List (Value × List Int)) : Prop where
  own : ∀ r ∈ rs, OwnN w B r.1 r.2
  apart : rs.Pairwise (fun a b => ∀ g, Own a.1 g → ¬ Own b.1 g)
theorem OwnN.ge {w : World} {B : Nat} {v : Value} {xs : List Int} (h : OwnN w B v xs) : ∀ k, Own v k → B ≤ k ∧ k < w.heap.size := by
  obtain ⟨ao, cap, rfl, ho⟩ := h
  exact ho.ge
theorem OwnN.keep {S : Nat → Prop} {w w' : World} {B : Nat} {v : Value} {xs : List Int} (h : OwnN w B v xs) (hk : Keep S w w') (hs : ∀ g, Own v g → ¬ S g) : OwnN w' B v xs := by
  obtain ⟨ao, cap, rfl, ho⟩ := h
  exact ⟨ao, cap, rfl, ho.keep hk hs⟩
theorem OwnA.below {w w' : World} {B : Nat} {rs : List (Value × List Int)} (h : OwnA w B rs) (hb : Below w.heap.size w w') : OwnA w' B rs := ⟨fun r hr => (h.own r hr).below hb, h.apart⟩
theorem OwnA.keep {S : Nat → Prop} {w w' : World} {B : Nat} {rs : List (Value × List Int)} (h : OwnA w B rs) (hk : Keep S w w') (hs : ∀ r ∈ rs, ∀ g, Own r.1 g → ¬ S g) : OwnA w' B rs := ⟨fun r hr => (h.own r hr).keep hk (hs r hr), h.apart⟩
theorem OwnA.base {w : World} {B B' : Nat} {rs : List (Value × List Int)} (h : OwnA w B rs) (hB : B' ≤ B) : OwnA w B' rs := ⟨fun r hr => (h.own r hr).base hB, h.apart⟩
theorem OwnA.nil (w : World) (B : Nat) : OwnA w B [] := ⟨fun _ h => (by cases h), List.Pairwise.nil⟩
/-- A row that was made later lies apart from all. -/
theorem OwnA.snoc {w w' : World} {B : Nat} {rs : List (Value × List Int)} {v : Value} {xs : List Int} (h : OwnA w B rs) (hb : Below w.heap.size w w') (hv : OwnN w' w.heap.size v xs) (hB : B ≤ w.heap.size) : OwnA w' B (rs ++ [(v, xs)]) := by
  refine ⟨fun r hr => ?_, ?_⟩
  · rcases List.mem_append.1 hr with h1 | h1
    · exact (h.own r h1).below hb
    · rw [List.mem_singleton] at h1
      subst h1
      exact hv.base hB
  · rw [List.pairwise_append]
    refine ⟨h.apart, List.pairwise_singleton _ _, fun a ha b hb' g hg hg' => ?_⟩
    rw [List.mem_singleton] at hb'
    subst hb'
    have h1 := ((h.own a ha).ge g hg).2
    have h2 := (hv.ge g hg').1
    omega
/-- The cells of a row of snapshots, its tables' slices given. -/
def snC : List Snp → List Value → List Value
  | s :: ss, t :: ts => .string s.name :: t :: snC ss ts
  | _, _ => []
theorem snC_length : ∀ (ss : List Snp) (ts : List Value), ss.length = ts.length → (snC ss ts).length = ss.length * 2
  | [], [], _ => rfl
  | s :: ss, t :: ts, h => by
    have := snC_length ss ts (by simpa using h)
    simp only [snC, List.length_cons, this]; omega
theorem snC_snoc : ∀ (ss : List Snp) (ts : List Value) (s : Snp) (t : Value), ss.length = ts.length → snC (ss ++ [s]) (ts ++ [t]) = snC ss ts ++ [.string s.name, t]
  | [], [], s, t, _ => rfl
  | a :: ss, b :: ts, s, t, h => by
    have := snC_snoc ss ts s t (by simpa using h)
    simp only [List.cons_append, snC, this]
/-- Its rows. -/
def imRows (a : Im4) (m : Img) (ts : List Value) : List (Value × List Int) := (.slice a.ro m.refs.length a.rc, m.refs) :: (.slice a.tq m.table.length a.tc, m.table) :: (.slice a.dq m.data.length a.dc, m.data) :: ts.zip (m.snaps.map (·.table))
/-- A row as OwnR's, but that one of no element may have room. -/
def OwnS (w : World) (B e size : Nat) (v : Value) (n : Nat) (xs : List Value) : Prop := (n = 0 ∧ xs = [] ∧ ∃ ao c, v = .slice ao 0 c) ∨ (0 < n ∧ w.ownsRow B e size v n xs)
theorem OwnR.toS {w : World} {B e size n : Nat} {v : Value} {xs : List Value} (h : OwnR w B e size v n xs) : OwnS w B e size v n xs := h.imp (fun ⟨h1, h2, ao, h3⟩ => ⟨h1, h2, ao, 0, h3⟩) id
theorem OwnS.toR {w : World} {B e size n c : Nat} {ao : Option Addr} {xs : List Value} (h : OwnS w B e size (.slice ao n c) n xs) (hc : n = 0 → c = 0) : OwnR w B e size (.slice ao n c) n xs := h.imp (fun ⟨h1, h2, _⟩ => ⟨h1, h2, ao, by rw [h1, hc h1]⟩) id
/-- What holds of OwnR's rows, whatever room one of no element has. -/
theorem OwnS.as {w : World} {B e size n : Nat} {v : Value} {xs : List Value} (h : OwnS w B e size v n xs) : ∃ v', OwnR w B e size v' n xs ∧ (∀ k, Own v k ↔ Own v' k) := by
  rcases h with ⟨h1, h2, ao, c, rfl⟩ | h
  · exact ⟨.slice ao 0 0, .inl ⟨h1, h2, ao, rfl⟩, fun k => ⟨fun hk => absurd hk own_no, fun hk => absurd hk own_no⟩⟩
  · exact ⟨v, .inr h, fun _ => Iff.rfl⟩
theorem OwnS.keep {S : Nat → Prop} {w w' : World} {B e size n : Nat} {v : Value} {xs : List Value} (h : OwnS w B e size v n xs) (hk : Keep S w w') (hs : ∀ g, Own v g → ¬ S g) : OwnS w' B e size v n xs := by
  rcases h with h | h
  · exact .inl h
  · exact (OwnR.keep (.inr h) hk hs).toS
theorem OwnS.below {w w' : World} {B e size n : Nat} {v : Value} {xs : List Value} (h : OwnS w B e size v n xs) (hb : Below w.heap.size w w') : OwnS w' B e size v n xs :=
  h.keep (S := fun _ => False) (Keep.of_below hb) (fun _ _ h => h)
theorem OwnS.base {w : World} {B B' e size n : Nat} {v : Value} {xs : List Value} (h : OwnS w B e size v n xs) (hB : B' ≤ B) : OwnS w B' e size v n xs := by
  rcases h with h | h
  · exact .inl h
  · exact (OwnR.base (.inr h) hB).toS
theorem OwnS.ge {w : World} {B e size n : Nat} {v : Value} {xs : List Value} (h : OwnS w B e size v n xs) : ∀ k, Own v k → B ≤ k ∧ k < w.heap.size := fun k hk => by
  obtain ⟨v', h1, h2⟩ := h.as
  exact h1.ge k ((h2 k).1 hk)
theorem OwnS.other {w : World} {B e size n : Nat} {v : Value} {xs : List Value} (h : OwnS w B e size v n xs) {x t : Nat} {c : Array Value} {f : Nat × Nat} (hx : w.heap[x]? = some (.cells c t f)) (he : t ≠ e) : ¬ Own v x := fun hk => by
  obtain ⟨v', h1, h2⟩ := h.as
  exact h1.other hx he ((h2 x).1 hk)
theorem OwnS.setCell {w : World} {B e size n : Nat} {v : Value} {xs : List Value} (h : OwnS w B e size v n xs) {a : Addr} (ha : a.block < B) (u : Value) : OwnS (w.setCell a u) B e size v n xs := by
  rcases h with h | h
  · exact .inl h
  · exact (OwnR.setCell (.inr h) ha u).toS
theorem OwnS.row {w : World} {B e size n : Nat} {v : Value} {xs : List Value} (h : OwnS w B e size v n xs) (h0 : 0 < n) : w.ownsRow B e size v n xs := by
  rcases h with ⟨h1, _⟩ | h
  · omega
  · exact h.2
theorem own_apartS {w : World} {B B' e e' size size' n n' : Nat} {v v' : Value} {xs xs' : List Value} (h : OwnR w B e size v n xs) (h' : OwnS w B' e' size' v' n' xs') (he : e ≠ e') : ∀ g, Own v g → ¬ Own v' g := fun g hg hg' => by
  obtain ⟨v2, h1, h2⟩ := h'.as
  exact own_apart h h1 he g hg ((h2 g).1 hg')
theorem own_apartT {w : World} {B B' e e' size size' n n' : Nat} {v v' : Value} {xs xs' : List Value} (h : OwnS w B e size v n xs) (h' : OwnR w B' e' size' v' n' xs') (he : e ≠ e') : ∀ g, Own v g → ¬ Own v' g := fun g hg hg' => by
  obtain ⟨v2, h1, h2⟩ := h.as
  exact own_apart h1 h' he g ((h2 g).1 hg) hg'
/-- An image of the call's own. -/
structure OwnIm (w : World) (B : Nat) (a : Im4) (m : Img) (ts : List Value) : Prop where
  len : m.snaps.length = ts.length
  s : OwnS w B 71 2 (.slice a.so m.snaps.length a.sc) m.snaps.length (snC m.snaps ts)
  rows : OwnA w B (imRows a m ts)
/-- .. whose row of snapshots has no room where it has no element. -/
def OwnF (w : World) (B : Nat) (a : Im4) (m : Img) (ts : List Value) : Prop := OwnIm w B a m ts ∧ (m.snaps.length = 0 → a.sc = 0)
theorem OwnR.cap0 {w : World} {B e size n c : Nat} {ao : Option Addr} {xs : List Value} (h : OwnR w B e size (.slice ao n c) n xs) (h0 : n = 0) : c = 0 := by
  rcases h with ⟨_, _, ao', e0⟩ | ⟨hp, _⟩
  · simp only [Value.slice.injEq] at e0
    exact e0.2.2
  · omega
theorem OwnIm.below {w w' : World} {B : Nat} {a : Im4} {m : Img} {ts : List Value} (h : OwnIm w B a m ts) (hb : Below w.heap.size w w') : OwnIm w' B a m ts := ⟨h.len, h.s.below hb, h.rows.below hb⟩

end Go.Proofs.Ytkaiglhljpehpab
