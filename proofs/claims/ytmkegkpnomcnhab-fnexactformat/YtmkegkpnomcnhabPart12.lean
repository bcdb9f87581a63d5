import Derived.Test.YtmkegkpnomcnhabRows
import Derived.Test.YtmkegkpnomcnhabPart1
import Derived.Test.YtmkegkpnomcnhabPart7
import Derived.Test.YtmkegkpnomcnhabPart11
import Derived.WalkKit
import Derived.WalkSpells
import Derived.BigQuiet
import Derived.Deep.QuietTactic
import Derived.Deep.RegionWith
import Derived.Test.YtmkegkpnomcnhabPart2
import Derived.Test.YtmkegkpnomcnhabPart8
import Derived.Laws.OwnMore
import Derived.KernelRfl
import Derived.LoopN
import Derived.Deep.CutRange
import Derived.Test.YtmkegkpnomcnhabPart3
import Derived.Test.YtmkegkpnomcnhabPart5
import Derived.Deep.MidRow
import Derived.Test.YtmkegkpnomcnhabPart4
import Derived.Deep.RegionLawGrows
import Derived.Test.YtmkegkpnomcnhabPart10

/- Contract of the laws' own copies of lists of numbers (toIntS). -/
namespace Go.Proofs.Ytmkegkpnomcnhab
open Go.RowKit
set_option linter.unusedVariables false
set_option maxRecDepth 100000

theorem infoN : (Try.prog.info? 3).map (fun i => (i.zero, i.size, i.bytes)) = some (some (.int .i64 0), 1, 8) := by kernel_rfl

end Go.Proofs.Ytmkegkpnomcnhab

/- Images that are owned: their rows of numbers lie apart from each other. (Made ahead of stage 10.) -/
namespace Go.Proofs.Ytmkegkpnomcnhab
open Go.RowKit
set_option linter.unusedVariables false
set_option maxRecDepth 100000

/-- Rows of numbers of the call's own, none of which lies in another's block. -/
structure OwnA (w : World) (B : Nat) (rs : List (Value × List Int)) : Prop where
  own : ∀ r ∈ rs, OwnN w B r.1 r.2
  apart : rs.Pairwise (fun a b => ∀ g, Own a.1 g → ¬ Own b.1 g)
theorem OwnN.ge {w : World} {B : Nat} {v : Value} {xs : List Int} (h : OwnN w B v xs) : ∀ k, Own v k → B ≤ k ∧ k < w.heap.size := by
  obtain ⟨ao, cap, rfl, ho⟩ := h
  exact ho.ge
theorem OwnN.keep {S : Nat → Prop} {w w' : World} {B : Nat} {v : Value} {xs : List Int} (h : OwnN w B v xs) (hk : Keep S w w') (hs : ∀ g, Own v g → ¬ S g) : OwnN w' B v xs := by
  obtain ⟨ao, cap, rfl, ho⟩ := h
  exact ⟨ao, cap, rfl, ho.keep hk hs⟩
theorem OwnA.below {w w' : World} {B : Nat} {rs : List (Value × List Int)} (h : OwnA w B rs) (hb : Below w.heap.size w w') : OwnA w' B rs := ⟨fun r hr => (h.own r hr).below hb, h.apart⟩
theorem OwnA.keep {S : Nat → Prop} {w w' : World} {B : Nat} {rs : List (Value × List Int)} (h : OwnA w B rs) (hk : Keep S w w') (hs : ∀ r ∈ rs, ∀ g, Own r.1 g → ¬ S g) : OwnA w' B rs := ⟨fun r hr => (h.own r hr).keep hk (hs r hr), h.apart⟩
theorem OwnA.base {w : World} {B B' : Nat} {rs : List (Value × List Int)} (h : OwnA w B rs) (hB : B' ≤ B) : OwnA w B' rs := ⟨fun r hr => (h.own r hr).base hB, h.apart⟩
theorem OwnA.nil (w : World) (B : Nat) : OwnA w B [] := ⟨fun _ h => (by cases h), List.Pairwise.nil⟩
/-- A row that was made later lies apart from all. -/
theorem OwnA.snoc {w w' : World} {B : Nat} {rs : List (Value × List Int)} {v : Value} {xs : List Int} (h : OwnA w B rs) (hb : Below w.heap.size w w') (hv : OwnN w' w.heap.size v xs) (hB : B ≤ w.heap.size) : OwnA w' B (rs ++ [(v, xs)]) := by
  refine ⟨fun r hr => ?_, ?_⟩
  · rcases List.mem_append.1 hr with h1 | h1
    · exact (h.own r h1).below hb
    · rw [List.mem_singleton] at h1
      subst h1
      exact hv.base hB
  · rw [List.pairwise_append]
    refine ⟨h.apart, List.pairwise_singleton _ _, fun a ha b hb' g hg hg' => ?_⟩
    rw [List.mem_singleton] at hb'
    subst hb'
    have h1 := ((h.own a ha).ge g hg).2
    have h2 := (hv.ge g hg').1
    omega
/-- The cells of a row of snapshots, its tables' slices given. -/
def snC : List Snp → List Value → List Value
  | s :: ss, t :: ts => .string s.name :: t :: snC ss ts
  | _, _ => []
theorem snC_length : ∀ (ss : List Snp) (ts : List Value), ss.length = ts.length → (snC ss ts).length = ss.length * 2
  | [], [], _ => rfl
  | s :: ss, t :: ts, h => by
    have := snC_length ss ts (by simpa using h)
    simp only [snC, List.length_cons, this]; omega
theorem snC_snoc : ∀ (ss : List Snp) (ts : List Value) (s : Snp) (t : Value), ss.length = ts.length → snC (ss ++ [s]) (ts ++ [t]) = snC ss ts ++ [.string s.name, t]
  | [], [], s, t, _ => rfl
  | a :: ss, b :: ts, s, t, h => by
    have := snC_snoc ss ts s t (by simpa using h)
    simp only [List.cons_append, snC, this]
/-- Its rows. -/
def imRows (a : Im4) (m : Img) (ts : List Value) : List (Value × List Int) := (.slice a.ro m.refs.length a.rc, m.refs) :: (.slice a.tq m.table.length a.tc, m.table) :: (.slice a.dq m.data.length a.dc, m.data) :: ts.zip (m.snaps.map (·.table))
/-- A row as OwnR's, but that one of no element may have room. -/
def OwnS (w : World) (B e size : Nat) (v : Value) (n : Nat) (xs : List Value) : Prop := (n = 0 ∧ xs = [] ∧ ∃ ao c, v = .slice ao 0 c) ∨ (0 < n ∧ w.ownsRow B e size v n xs)
theorem OwnR.toS {w : World} {B e size n : Nat} {v : Value} {xs : List Value} (h : OwnR w B e size v n xs) : OwnS w B e size v n xs := h.imp (fun ⟨h1, h2, ao, h3⟩ => ⟨h1, h2, ao, 0, h3⟩) id
theorem OwnS.toR {w : World} {B e size n c : Nat} {ao : Option Addr} {xs : List Value} (h : OwnS w B e size (.slice ao n c) n xs) (hc : n = 0 → c = 0) : OwnR w B e size (.slice ao n c) n xs := h.imp (fun ⟨h1, h2, _⟩ => ⟨h1, h2, ao, by rw [h1, hc h1]⟩) id
/-- What holds of OwnR's rows, whatever room one of no element has. -/
theorem OwnS.as {w : World} {B e size n : Nat} {v : Value} {xs : List Value} (h : OwnS w B e size v n xs) : ∃ v', OwnR w B e size v' n xs ∧ (∀ k, Own v k ↔ Own v' k) := by
  rcases h with ⟨h1, h2, ao, c, rfl⟩ | h
  · exact ⟨.slice ao 0 0, .inl ⟨h1, h2, ao, rfl⟩, fun k => ⟨fun hk => absurd hk own_no, fun hk => absurd hk own_no⟩⟩
  · exact ⟨v, .inr h, fun _ => Iff.rfl⟩
theorem OwnS.keep {S : Nat → Prop} {w w' : World} {B e size n : Nat} {v : Value} {xs : List Value} (h : OwnS w B e size v n xs) (hk : Keep S w w') (hs : ∀ g, Own v g → ¬ S g) : OwnS w' B e size v n xs := by
  rcases h with h | h
  · exact .inl h
  · exact (OwnR.keep (.inr h) hk hs).toS
theorem OwnS.below {w w' : World} {B e size n : Nat} {v : Value} {xs : List Value} (h : OwnS w B e size v n xs) (hb : Below w.heap.size w w') : OwnS w' B e size v n xs :=
  h.keep (S := fun _ => False) (Keep.of_below hb) (fun _ _ h => h)
theorem OwnS.base {w : World} {B B' e size n : Nat} {v : Value} {xs : List Value} (h : OwnS w B e size v n xs) (hB : B' ≤ B) : OwnS w B' e size v n xs := by
  rcases h with h | h
  · exact .inl h
  · exact (OwnR.base (.inr h) hB).toS
theorem OwnS.ge {w : World} {B e size n : Nat} {v : Value} {xs : List Value} (h : OwnS w B e size v n xs) : ∀ k, Own v k → B ≤ k ∧ k < w.heap.size := fun k hk => by
  obtain ⟨v', h1, h2⟩ := h.as
  exact h1.ge k ((h2 k).1 hk)
theorem OwnS.other {w : World} {B e size n : Nat} {v : Value} {xs : List Value} (h : OwnS w B e size v n xs) {x t : Nat} {c : Array Value} {f : Nat × Nat} (hx : w.heap[x]? = some (.cells c t f)) (he : t ≠ e) : ¬ Own v x := fun hk => by
  obtain ⟨v', h1, h2⟩ := h.as
  exact h1.other hx he ((h2 x).1 hk)
theorem OwnS.setCell {w : World} {B e size n : Nat} {v : Value} {xs : List Value} (h : OwnS w B e size v n xs) {a : Addr} (ha : a.block < B) (u : Value) : OwnS (w.setCell a u) B e size v n xs := by
  rcases h with h | h
  · exact .inl h
  · exact (OwnR.setCell (.inr h) ha u).toS
theorem OwnS.row {w : World} {B e size n : Nat} {v : Value} {xs : List Value} (h : OwnS w B e size v n xs) (h0 : 0 < n) : w.ownsRow B e size v n xs := by
  rcases h with ⟨h1, _⟩ | h
  · omega
  · exact h.2
theorem own_apartS {w : World} {B B' e e' size size' n n' : Nat} {v v' : Value} {xs xs' : List Value} (h : OwnR w B e size v n xs) (h' : OwnS w B' e' size' v' n' xs') (he : e ≠ e') : ∀ g, Own v g → ¬ Own v' g := fun g hg hg' => by
  obtain ⟨v2, h1, h2⟩ := h'.as
  exact own_apart h h1 he g hg ((h2 g).1 hg')
theorem own_apartT {w : World} {B B' e e' size size' n n' : Nat} {v v' : Value} {xs xs' : List Value} (h : OwnS w B e size v n xs) (h' : OwnR w B' e' size' v' n' xs') (he : e ≠ e') : ∀ g, Own v g → ¬ Own v' g := fun g hg hg' => by
  obtain ⟨v2, h1, h2⟩ := h.as
  exact own_apart h1 h' he g ((h2 g).1 hg) hg'
/-- An image of the call's own. -/
structure OwnIm (w : World) (B : Nat) (a : Im4) (m : Img) (ts : List Value) : Prop where
  len : m.snaps.length = ts.length
  s : OwnS w B 93 2 (.slice a.so m.snaps.length a.sc) m.snaps.length (snC m.snaps ts)
  rows : OwnA w B (imRows a m ts)
/-- .. whose row of snapshots has no room where it has no element. -/
def OwnF (w : World) (B : Nat) (a : Im4) (m : Img) (ts : List Value) : Prop := OwnIm w B a m ts ∧ (m.snaps.length = 0 → a.sc = 0)
theorem OwnR.cap0 {w : World} {B e size n c : Nat} {ao : Option Addr} {xs : List Value} (h : OwnR w B e size (.slice ao n c) n xs) (h0 : n = 0) : c = 0 := by
  rcases h with ⟨_, _, ao', e0⟩ | ⟨hp, _⟩
  · simp only [Value.slice.injEq] at e0
    exact e0.2.2
  · omega
theorem OwnIm.below {w w' : World} {B : Nat} {a : Im4} {m : Img} {ts : List Value} (h : OwnIm w B a m ts) (hb : Below w.heap.size w w') : OwnIm w' B a m ts := ⟨h.len, h.s.below hb, h.rows.below hb⟩

end Go.Proofs.Ytmkegkpnomcnhab

/- Contracts of the laws' own copies of images: toSnap. (Made ahead of stage 10.) -/
namespace Go.Proofs.Ytmkegkpnomcnhab
open Go.RowKit
set_option linter.unusedVariables false
set_option maxRecDepth 100000

end Go.Proofs.Ytmkegkpnomcnhab

/- Contracts of the laws' own copies of images: toSnapS. (Made ahead of stage 10.) -/
namespace Go.Proofs.Ytmkegkpnomcnhab
open Go.RowKit
set_option linter.unusedVariables false
set_option maxRecDepth 100000

theorem infoSn : (Try.prog.info? 93).map (fun i => (i.zero, i.size, i.bytes)) = some (some (.agg #[.string ⟨#[]⟩, .slice none 0 0]), 2, 40) := by kernel_rfl
theorem sn_put2 {w : World} {B e size g n cap : Nat} {xs : List Value} (h : w.ownsRow B e size (.slice (some ⟨g, 0, none⟩) n cap) n xs) (i j : Nat) (u v : Value) :
    ((w.setCell ⟨g, i, none⟩ u).setCell ⟨g, j, none⟩ v).ownsRow B e size (.slice (some ⟨g, 0, none⟩) n cap) n ((xs.set i u).set j v) :=
  ((h.stored i u).1.stored j v).1
theorem sn_below2 {w0 w : World} {B g : Nat} (h : Below B w0 w) (hg : B ≤ g) (i j : Nat) (u v : Value) : Below B w0 ((w.setCell ⟨g, i, none⟩ u).setCell ⟨g, j, none⟩ v) :=
  (h.setCell (p := ⟨g, i, none⟩) hg u).setCell (p := ⟨g, j, none⟩) hg v
theorem OwnA.setCell {w : World} {B : Nat} {rs : List (Value × List Int)} (h : OwnA w B rs) {a : Addr} (ha : a.block < B) (u : Value) : OwnA (w.setCell a u) B rs := ⟨fun r hr => (h.own r hr).setCell ha u, h.apart⟩
theorem sn_take {ys : List Value} {ss : List Snp} {ts : List Value} {k : Nat} (hk : k < ss.length) (hl : ys.length = ss.length * 2) (ht : ts.length = k) (h : ys.take (k * 2) = snC (ss.take k) ts) (v : Value) :
    ((ys.set (k * 2) (.string ss[k].name)).set (k * 2 + 1) v).take ((k + 1) * 2) = snC (ss.take (k + 1)) (ts ++ [v]) := by
  rw [List.take_succ_eq_append_getElem hk, snC_snoc _ _ _ _ (by rw [List.length_take, ht]; omega), ← h]
  rw [show (k + 1) * 2 = k * 2 + 1 + 1 by omega, List.take_succ_eq_append_getElem (by rw [List.length_set, List.length_set]; omega), List.getElem_set_self, List.take_set_of_le (Nat.le_refl _), List.take_succ_eq_append_getElem (by rw [List.length_set]; omega), List.getElem_set_self, List.take_set_of_le (Nat.le_refl _), List.append_assoc]
  rfl
theorem sn_zip {ss : List Snp} {ts : List Value} {k : Nat} (hk : k < ss.length) (ht : ts.length = k) (v : Value) :
    (ts ++ [v]).zip ((ss.take (k + 1)).map (·.table)) = ts.zip ((ss.take k).map (·.table)) ++ [(v, ss[k].table)] := by
  rw [List.take_succ_eq_append_getElem hk, List.map_append, List.zip_append (by rw [List.length_map, List.length_take, ht]; omega)]
  rfl

end Go.Proofs.Ytmkegkpnomcnhab

/- Contracts of the laws' own copies of images: toImage. (Made ahead of stage 10.) -/
namespace Go.Proofs.Ytmkegkpnomcnhab
open Go.RowKit
set_option linter.unusedVariables false
set_option maxRecDepth 100000

/-- Rows that were made later lie apart from all. -/
theorem OwnA.append {w w' : World} {B : Nat} {rs qs : List (Value × List Int)} (h : OwnA w B rs) (hb : Below w.heap.size w w') (hv : OwnA w' w.heap.size qs) (hB : B ≤ w.heap.size) : OwnA w' B (rs ++ qs) := by
  refine ⟨fun r hr => ?_, ?_⟩
  · rcases List.mem_append.1 hr with h1 | h1
    · exact (h.own r h1).below hb
    · exact (hv.own r h1).base hB
  · rw [List.pairwise_append]
    refine ⟨h.apart, hv.apart, fun a ha b hb' g hg hg' => ?_⟩
    have h1 := ((h.own a ha).ge g hg).2
    have h2 := ((hv.own b hb').ge g hg').1
    omega
theorem OwnA.perm {w : World} {B : Nat} {rs qs : List (Value × List Int)} (h : OwnA w B rs) (hp : rs.Perm qs) : OwnA w B qs :=
  ⟨fun r hr => h.own r (hp.mem_iff.2 hr), (hp.pairwise_iff (fun {a b} hab g hb ha => hab g ha hb)).1 h.apart⟩
theorem OwnA.one {w : World} {B : Nat} {v : Value} {xs : List Int} (h : OwnN w B v xs) : OwnA w B [(v, xs)] := ⟨fun r hr => by rw [List.mem_singleton] at hr; subst hr; exact h, List.pairwise_singleton _ _⟩
/-- A variable of four lists. -/
def VarM (w : World) (x : Nat) (t : TypeId) (v0 v1 v2 v3 : Value) : Prop := w.heap[x]? = some (.cells #[v0, v1, v2, v3] t (0, 0))
theorem VarM.lt {w : World} {x t : Nat} {v0 v1 v2 v3 : Value} (k : VarM w x t v0 v1 v2 v3) : x < w.heap.size := (Array.getElem?_eq_some_iff.1 k).1
theorem VarM.cells {w : World} {x t : Nat} {v0 v1 v2 v3 : Value} (k : VarM w x t v0 v1 v2 v3) : w.cell? ⟨x, 0, none⟩ = some v0 ∧ w.cell? ⟨x, 1, none⟩ = some v1 ∧ w.cell? ⟨x, 2, none⟩ = some v2 ∧ w.cell? ⟨x, 3, none⟩ = some v3 := ⟨by rw [Joins.cell_of_block k]; rfl, by rw [Joins.cell_of_block k]; rfl, by rw [Joins.cell_of_block k]; rfl, by rw [Joins.cell_of_block k]; rfl⟩
theorem VarM.free {w : World} {x t : Nat} {v0 v1 v2 v3 : Value} (k : VarM w x t v0 v1 v2 v3) : w.frozen? ⟨x, 0, none⟩ = false ∧ w.frozen? ⟨x, 1, none⟩ = false ∧ w.frozen? ⟨x, 2, none⟩ = false ∧ w.frozen? ⟨x, 3, none⟩ = false := ⟨Joins.unfrozen_of_block k 0, Joins.unfrozen_of_block k 1, Joins.unfrozen_of_block k 2, Joins.unfrozen_of_block k 3⟩
theorem VarM.below {w w' : World} {x t : Nat} {v0 v1 v2 v3 : Value} (k : VarM w x t v0 v1 v2 v3) (hb : Below w.heap.size w w') : VarM w' x t v0 v1 v2 v3 := by
  unfold VarM; rw [hb.block x k.lt]; exact k
theorem VarM.new (w : World) (t : TypeId) (v0 v1 v2 v3 : Value) : VarM (w.alloc (.cells #[v0, v1, v2, v3] t)) w.heap.size t v0 v1 v2 v3 := heap_alloc_new w _
theorem VarM.other {w : World} {x t : Nat} {v0 v1 v2 v3 : Value} (h : VarM w x t v0 v1 v2 v3) {p : Addr} (hp : x ≠ p.block) (u : Value) : VarM (w.setCell p u) x t v0 v1 v2 v3 := by
  unfold VarM; rw [Below.heap_setCell w p u x hp]; exact h
theorem VarM.set0 {w : World} {x t : Nat} {v0 v1 v2 v3 : Value} (h : VarM w x t v0 v1 v2 v3) (u : Value) : VarM (w.setCell ⟨x, 0, none⟩ u) x t u v1 v2 v3 := Joins.block_setCell (i := 0) h u
theorem VarM.set1 {w : World} {x t : Nat} {v0 v1 v2 v3 : Value} (h : VarM w x t v0 v1 v2 v3) (u : Value) : VarM (w.setCell ⟨x, 1, none⟩ u) x t v0 u v2 v3 := Joins.block_setCell (i := 1) h u
theorem VarM.set2 {w : World} {x t : Nat} {v0 v1 v2 v3 : Value} (h : VarM w x t v0 v1 v2 v3) (u : Value) : VarM (w.setCell ⟨x, 2, none⟩ u) x t v0 v1 u v3 := Joins.block_setCell (i := 2) h u
theorem VarM.set3 {w : World} {x t : Nat} {v0 v1 v2 v3 : Value} (h : VarM w x t v0 v1 v2 v3) (u : Value) : VarM (w.setCell ⟨x, 3, none⟩ u) x t v0 v1 v2 u := Joins.block_setCell (i := 3) h u
theorem VarM.at {w : World} {x y t : Nat} {v0 v1 v2 v3 : Value} (h : VarM w x t v0 v1 v2 v3) (e : x = y) : VarM w y t v0 v1 v2 v3 := e ▸ h
end Go.Proofs.Ytmkegkpnomcnhab

/- Contracts of the laws' marks on lists of numbers: markIntS, heldIntS. -/
namespace Go.Proofs.Ytmkegkpnomcnhab
open Go.RowKit
set_option linter.unusedVariables false
set_option maxRecDepth 100000

/-- The marks of a row of numbers. -/
def mkN (k n : Nat) : List Int := (List.range n).map fun i => ((k + i : Nat) : Int)
theorem mkN_length (k n : Nat) : (mkN k n).length = n := by simp [mkN]
theorem mkN_get {k n j : Nat} (h : j < n) : (intV (mkN k n))[j]? = some (.int .i64 ((k + j : Nat) : Int)) := by simp [intV, mkN, h]

end Go.Proofs.Ytmkegkpnomcnhab

/- The laws' marks on images: what they are, plainly. (Made ahead of stage 10.) -/
namespace Go.Proofs.Ytmkegkpnomcnhab
open Go.RowKit
set_option linter.unusedVariables false
set_option maxRecDepth 100000

/-- How many marks a row of snapshots takes. -/
def snK (ss : List Snp) : Nat := (ss.map (fun s => 1 + s.table.length)).sum
theorem snK_take {ss : List Snp} {k : Nat} (h : k < ss.length) : snK (ss.take (k + 1)) = snK (ss.take k) + (1 + ss[k].table.length) := by
  unfold snK
  rw [List.take_succ_eq_append_getElem h, List.map_append, List.sum_append]; simp
theorem snK_le (ss : List Snp) (n : Nat) : snK (ss.take n) ≤ snK ss := by
  have h2 : snK ss = snK (ss.take n) + snK (ss.drop n) := by
    unfold snK
    rw [← List.sum_append, ← List.map_append, List.take_append_drop]
  omega
/-- The marks of one, and of a row. -/
def mk1 (k : Nat) (s : Snp) : Snp := ⟨mtB k, mkN (k + 1) s.table.length⟩
def mkSn : Nat → List Snp → List Snp
  | _, [] => []
  | k, s :: ss => mk1 k s :: mkSn (k + (1 + s.table.length)) ss
theorem mkSn_length : ∀ (k : Nat) (ss : List Snp), (mkSn k ss).length = ss.length
  | _, [] => rfl
  | k, s :: ss => by rw [mkSn, List.length_cons, mkSn_length, List.length_cons]
theorem mkSn_snoc : ∀ (k : Nat) (ss : List Snp) (s : Snp), mkSn k (ss ++ [s]) = mkSn k ss ++ [mk1 (k + snK ss) s]
  | k, [], s => rfl
  | k, x :: ss, s => by
    rw [List.cons_append, mkSn, mkSn_snoc, mkSn, List.cons_append]
    congr 4
    simp only [snK, List.map_cons, List.sum_cons]; omega
/-- As far as its first ones have been marked. -/
def snMid (k : Nat) (ss : List Snp) (j : Nat) : List Snp := mkSn k (ss.take j) ++ ss.drop j
theorem snMid_zero (k : Nat) (ss : List Snp) : snMid k ss 0 = ss := by simp [snMid, mkSn]
theorem snMid_all (k : Nat) (ss : List Snp) : snMid k ss ss.length = mkSn k ss := by simp [snMid]
theorem snMid_length (k : Nat) (ss : List Snp) (j : Nat) : (snMid k ss j).length = ss.length := by
  rw [snMid, List.length_append, mkSn_length, List.length_take, List.length_drop]; omega
theorem snMid_get {k : Nat} {ss : List Snp} {j : Nat} (h : j < ss.length) : (snMid k ss j)[j]? = some ss[j] := by
  rw [snMid, List.getElem?_append_right (by rw [mkSn_length, List.length_take]; omega), mkSn_length, List.length_take, Nat.min_eq_left (by omega), Nat.sub_self, List.getElem?_drop, Nat.add_zero, List.getElem?_eq_getElem h]
theorem snMid_succ {k : Nat} {ss : List Snp} {j : Nat} (h : j < ss.length) : (snMid k ss j).set j (mk1 (k + snK (ss.take j)) ss[j]) = snMid k ss (j + 1) := by
  rw [snMid, snMid, List.take_succ_eq_append_getElem h, mkSn_snoc, List.set_append_right _ _ (by rw [mkSn_length, List.length_take]; omega), mkSn_length, List.length_take, Nat.min_eq_left (by omega), Nat.sub_self, List.drop_eq_getElem_cons h, List.set_cons_zero, List.append_assoc]
  rfl
theorem snC_get : ∀ {cs : List Snp} {ts : List Value} {j : Nat} {s : Snp} {t : Value}, cs[j]? = some s → ts[j]? = some t → (snC cs ts)[j * 2]? = some (.string s.name) ∧ (snC cs ts)[j * 2 + 1]? = some t
  | [], _, _, _, _, h, _ => by simp at h
  | _ :: _, [], _, _, _, _, h => by simp at h
  | c :: cs, b :: ts, 0, s, t, h, h' => by
    simp at h h'
    subst h; subst h'
    exact ⟨rfl, rfl⟩
  | c :: cs, b :: ts, j + 1, s, t, h, h' => by
    rw [List.getElem?_cons_succ] at h h'
    have := snC_get h h'
    rw [show (j + 1) * 2 = j * 2 + 1 + 1 by omega]
    exact this
theorem snC_set : ∀ (cs : List Snp) (ts : List Value) (j : Nat) (s : Snp), j < ts.length → snC (cs.set j s) ts = (snC cs ts).set (j * 2) (.string s.name)
  | [], [], _, _, _ => rfl
  | [], _ :: _, _, _, _ => rfl
  | c :: cs, [], j, s, h => by simp at h
  | c :: cs, b :: ts, 0, s, _ => rfl
  | c :: cs, b :: ts, j + 1, s, h => by
    rw [List.set_cons_succ, snC, snC, snC_set cs ts j s (by simpa using h), show (j + 1) * 2 = j * 2 + 1 + 1 by omega]
    rfl
theorem zip_set1 : ∀ (ts : List Value) (cs : List Snp) (j : Nat) (s : Snp) (t : Value), ts[j]? = some t → ts.zip ((cs.set j s).map (·.table)) = (ts.zip (cs.map (·.table))).set j (t, s.table)
  | [], cs, j, s, t, h => by simp at h
  | b :: ts, [], j, s, t, h => by simp
  | b :: ts, c :: cs, 0, s, t, h => by
    simp at h
    subst h
    rfl
  | b :: ts, c :: cs, j + 1, s, t, h => by
    rw [List.getElem?_cons_succ] at h
    have := zip_set1 ts cs j s t h
    rw [List.set_cons_succ, List.map_cons, List.zip_cons_cons, this]
    rfl
theorem OwnA.turn {w w' : World} {B : Nat} {rs : List (Value × List Int)} {j : Nat} {v : Value} {xs ys : List Int} (h : OwnA w B rs) (hj : rs[j]? = some (v, xs)) (hk : Keep (Own v) w w') (hn : OwnN w' B v ys) : OwnA w' B (rs.set j (v, ys)) := by
  obtain ⟨hjl, hje⟩ := List.getElem?_eq_some_iff.1 hj
  refine ⟨fun r hr => ?_, ?_⟩
  · obtain ⟨i, hi, rfl⟩ := List.mem_iff_getElem.1 hr
    rw [List.length_set] at hi
    rw [List.getElem_set]
    split
    · exact hn
    · rename_i hne
      refine (h.own _ (List.getElem_mem hi)).keep hk (fun g hg hv => ?_)
      have hp := List.pairwise_iff_getElem.1 h.apart
      rcases Nat.lt_or_gt_of_ne hne with hlt | hlt
      · exact hp j i hjl hi hlt g (by rw [hje]; exact hv) hg
      · exact hp i j hi hjl hlt g hg (by rw [hje]; exact hv)
  · have e : (rs.set j (v, ys)).map Prod.fst = rs.map Prod.fst := by
      rw [List.map_set]
      have : (rs.map Prod.fst)[j]'(by simpa using hjl) = v := by rw [List.getElem_map, hje]
      conv => lhs; rw [show (v, ys).1 = (rs.map Prod.fst)[j]'(by simpa using hjl) from this.symm]
      rw [List.set_getElem_self]
    have hp := List.pairwise_map (f := Prod.fst) (R := fun a b => ∀ g, Own a g → ¬ Own b g) |>.2 h.apart
    rw [← e] at hp
    exact List.pairwise_map.1 hp
theorem OwnR.row {w : World} {B e size n : Nat} {v : Value} {xs : List Value} (h : OwnR w B e size v n xs) (hp : 0 < n) : w.ownsRow B e size v n xs := by
  rcases h with ⟨h0, _⟩ | ⟨_, h⟩
  · omega
  · exact h

end Go.Proofs.Ytmkegkpnomcnhab

/- Contract of the model's l10Count. (Made ahead of stage 10.) -/
namespace Go.Proofs.Ytmkegkpnomcnhab
open Go.RowKit
set_option linter.unusedVariables false
set_option maxRecDepth 100000

theorem infoTb : (Try.prog.info? 44).map (fun i => (i.zero, i.size, i.bytes)) = some (some (.slice none 0 0), 1, 24) := by kernel_rfl
theorem infoIn : (Try.prog.info? 3).map (fun i => (i.zero, i.size, i.bytes)) = some (some (.int .i64 0), 1, 8) := by kernel_rfl
theorem slice_one (ao : Option Addr) (n c : Nat) : ∀ u ∈ [Value.slice ao n c], u.oneCell' = true := by
  intro u hu
  simp at hu
  subst hu
  rfl
/-- Tables as values. -/
def TabV (w : World) (vs : List Value) (ts : List (List Int)) : Prop := vs.length = ts.length ∧ ∀ j (h : j < ts.length), ∃ tq tc, vs[j]? = some (.slice tq ts[j].length tc) ∧ Is w tq ts[j]
theorem TabV.snoc {w : World} {vs : List Value} {ts : List (List Int)} {t : List Int} {tq : Option Addr} {tc : Nat} (h : TabV w vs ts) (ht : Is w tq t) : TabV w (vs ++ [.slice tq t.length tc]) (ts ++ [t]) := by
  refine ⟨by simp [h.1], fun j hj => ?_⟩
  rw [List.length_append, List.length_singleton] at hj
  by_cases e : j < ts.length
  · obtain ⟨a, b, h1, h2⟩ := h.2 j e
    refine ⟨a, b, ?_, ?_⟩
    · rw [List.getElem?_append_left (by rw [h.1]; exact e), List.getElem_append_left e]; exact h1
    · rw [List.getElem_append_left e]; exact h2
  · obtain rfl : j = ts.length := by omega
    refine ⟨tq, tc, ?_, ?_⟩
    · rw [List.getElem?_append_right (by rw [h.1]; exact Nat.le_refl _), h.1]; simp
    · simpa using ht
theorem TabV.below {w w' : World} {vs : List Value} {ts : List (List Int)} (h : TabV w vs ts) (hb : Below w.heap.size w w') : TabV w' vs ts := ⟨h.1, fun j hj => by
  obtain ⟨a, b, h1, h2⟩ := h.2 j hj
  exact ⟨a, b, h1, h2.below hb⟩⟩
theorem imTabs_len (m : Img) : (imTabs m).length = m.snaps.length + 1 := by simp [imTabs]
theorem imTabs_take {m : Img} {k : Nat} (h : k < m.snaps.length) : (imTabs m).take (k + 1 + 1) = (imTabs m).take (k + 1) ++ [m.snaps[k].table] := by
  rw [List.take_succ_eq_append_getElem (by rw [imTabs_len]; omega)]
  simp [imTabs]
/-- Clusters of a right table. -/
theorem clA_in {t : List Int} (h : tbB t = true) : ∀ j (hj : j < (clA t).length), 0 ≤ (clA t)[j] ∧ (clA t)[j] ≤ 23 := by
  intro j hj
  have hm := List.getElem_mem hj
  unfold clA clTo at hm
  rw [List.mem_filterMap] at hm
  obtain ⟨e, he, h2⟩ := hm
  rw [List.take_length] at he
  obtain ⟨i, hi, rfl⟩ := List.mem_iff_getElem.1 he
  have := tbB_at h i hi
  by_cases h3 : 2 ≤ t[i]
  · rw [if_pos h3] at h2
    have e : (clA t)[j] = t[i] - 2 := by unfold clA clTo; exact (Option.some.inj h2).symm
    omega
  · rw [if_neg h3] at h2; cases h2
theorem clA_len {t : List Int} (h : tbB t = true) : (clA t).length ≤ 12 := by
  have := clTo_len t t.length
  have := tbB_len h
  unfold clA
  omega
/-- Counts within bounds. -/
def CtI (ns : List Int) (b : Int) : Prop := ns.length = 24 ∧ ∀ i (h : i < ns.length), 0 ≤ ns[i] ∧ ns[i] ≤ b
theorem incr_set (ns : List Int) (c : Nat) : incr ns (c : Int) = ns.set c (ns.getD c 0 + 1) := by unfold incr; rw [Int.toNat_natCast]
theorem CtI.up {ns : List Int} {b : Int} {c : Nat} (h : CtI ns b) (hc : c < 24) : CtI (incr ns c) (b + 1) := by
  rw [incr_set]
  refine ⟨by rw [List.length_set]; exact h.1, fun i hi => ?_⟩
  rw [List.length_set] at hi
  have hb := h.2 i hi
  rw [List.getElem_set]
  by_cases e : c = i
  · have h2 : ns.getD c 0 = ns[i] := by simp [List.getD, e, hi]
    rw [if_pos e, h2]
    omega
  · rw [if_neg e]
    omega
theorem made_rep (q : Nat) (v : Value) : (madeCells #[v] q).toList = List.replicate q v := by
  apply List.ext_getElem?
  intro i
  simp [madeCells, List.getElem?_replicate, Nat.mod_one]
  by_cases hi : i < q <;> simp [hi]
theorem CtI.mono {ns : List Int} {b b' : Int} (h : CtI ns b) (hb : b ≤ b') : CtI ns b' := ⟨h.1, fun i hi => ⟨(h.2 i hi).1, by have := (h.2 i hi).2; omega⟩⟩
theorem CtI.zero : CtI zero24 0 := ⟨rfl, by decide⟩
theorem incr_take {L : List Int} {k : Nat} (h : k < L.length) (ns : List Int) : (L.take (k + 1)).foldl incr ns = incr ((L.take k).foldl incr ns) L[k] := by
  rw [List.take_succ_eq_append_getElem h, List.foldl_append]; rfl
theorem cntT_take {ts : List (List Int)} {k : Nat} (h : k < ts.length) (ns : List Int) : (ts.take (k + 1)).foldl cnt1T ns = cnt1T ((ts.take k).foldl cnt1T ns) ts[k] := by
  rw [List.take_succ_eq_append_getElem h, List.foldl_append]; rfl
/-- A row of numbers of the call's own, one of them set. -/
theorem own_setI {w : World} {B n cap g j : Nat} {xs : List Int} (h : OwnR w B 3 1 (.slice (some ⟨g, 0, none⟩) n cap) n (intV xs)) (hp : 0 < n) (y : Int) : OwnR (w.setCell ⟨g, j, none⟩ (.int .i64 y)) B 3 1 (.slice (some ⟨g, 0, none⟩) n cap) n (intV (xs.set j y)) := by
  refine .inr ⟨hp, ?_⟩
  have := ((h.row hp).stored j (.int .i64 y)).1
  rwa [show (intV xs).set j (.int .i64 y) = intV (xs.set j y) by simp [intV, List.map_set]] at this

end Go.Proofs.Ytmkegkpnomcnhab

/- Contracts of the model's source of choices: byte, next. -/
namespace Go.Proofs.Ytmkegkpnomcnhab
open Go.RowKit
set_option linter.unusedVariables false

/-- A slice shows these bytes. -/
def Bs (w : World) (ao : Option Addr) (n : Nat) : Prop := ∀ i, i < n → ∃ b off x, ao = some ⟨b, off, none⟩ ∧ w.cell? ⟨b, off + i, none⟩ = some (.int .u8 x) ∧ 0 ≤ x ∧ x ≤ 255
theorem Bs.below {w w' : World} {ao : Option Addr} {n : Nat} (h : Bs w ao n) (hb : Below w.heap.size w w') : Bs w' ao n := fun i hi => by
  obtain ⟨b, off, x, e, hc, h0, h1⟩ := h i hi
  exact ⟨b, off, x, e, (hb.cell (p := ⟨b, off + i, none⟩) (World.block_lt_of_cell? _ _ hc)).trans hc, h0, h1⟩
theorem set_block {w : World} {b i : Nat} {c : Array Value} {t : TypeId} (h : w.heap[b]? = some (.cells c t (0, 0))) (v : Value) : (w.setCell ⟨b, i, none⟩ v).heap[b]? = some (.cells (c.setIfInBounds i v) t (0, 0)) := by
  have hb : b < w.heap.size := (Array.getElem?_eq_some_iff.1 h).1
  have hg : w.heap[b] = .cells c t (0, 0) := by rw [Array.getElem?_eq_getElem hb] at h; simpa using h
  have hm : b < (w.setCell ⟨b, i, none⟩ v).heap.size := by simpa using hb
  rw [Array.getElem?_eq_getElem hm]
  congr 1
  unfold World.setCell
  simp only [Array.getElem_modify, if_true, hg]
  simp
theorem wrapI {x : Int} (h : -9223372036854775808 ≤ x) (h' : x ≤ 9223372036854775807) : IntKind.i64.wrap x = x := by rw [IntKind.wrap_i64]; omega

theorem Keep.drewN {S : Nat → Prop} {a b : World} (h : Keep S a b) (n : Nat) : Keep S a (b.drewN n) := ⟨h.os, h.tape, h.output, h.size, h.block⟩
theorem Keep.drew {S : Nat → Prop} {a b : World} (h : Keep S a b) : Keep S a b.drew := ⟨h.os, h.tape, h.output, h.size, h.block⟩

end Go.Proofs.Ytmkegkpnomcnhab

/- Arrays of numbers in variables: whole loads and stores. -/
namespace Go.Proofs.Ytmkegkpnomcnhab
open Go.RowKit
set_option linter.unusedVariables false
set_option maxRecDepth 100000

section
variable {P : Program}
theorem wpList_store_arr {ops : Array Oper} {rest : List Oper} {op : Oper} {a : Act} {w : World} {Q : Exit → Act → World → Prop} (hgd : op.guard = none) (ty : TypeId) (x y : Operand) (ho : op.op = .store ty x y)
    (g : Nat) (hx : a.eval x = .pointer (some ⟨g, 0, none⟩)) (c' : Array Value) (hy : a.eval y = .agg c') (c : Array Value) (t : TypeId) (hb : w.heap[g]? = some (.cells c t (0, 0)))
    (hi : (P.info? ty).map (·.size) = some c'.size) (hs : c.size = c'.size) (h1 : c'.all (·.oneCell') = true)
    (h : ∀ w', w'.heap[g]? = some (.cells c' t (0, 0)) → Keep (fun k => k = g) w w' → w'.heap.size = w.heap.size → wpList P ops Q rest (a.put op.dst undef) w') : wpList P ops Q (op :: rest) a w :=
  wpList_plain hgd fun _ hK => by
    unfold Oper.wp execOp
    simp only [ho, hx, hy, Instr.storeAt, Instr.sureAddr, Sem.run_bind, Sem.run_pure, Result.andThen_ok, run_storeVar_row w g t ty c c' hb hi hs h1]
    exact hK _ _ (h _ (setRow_heap w g c c' t (0, 0) hb) ⟨rfl, rfl, rfl, by simp, fun k _ hk => setRow_other w g k c' hk⟩ (setRow_size w g c'))
theorem wpList_load_arr {ops : Array Oper} {rest : List Oper} {op : Oper} {a : Act} {w : World} {Q : Exit → Act → World → Prop} (hgd : op.guard = none) (ty : TypeId) (x : Operand) (ho : op.op = .load ty x)
    (g : Nat) (hx : a.eval x = .pointer (some ⟨g, 0, none⟩)) (c : Array Value) (t : TypeId) (d : TypeDesc) (hb : w.heap[g]? = some (.cells c t (0, 0)))
    (hu : P.underlying ty = some d) (hd : (match d with | .struct _ | .array _ _ => true | _ => false) = true) (hi : (P.info? ty).map (·.size) = some c.size)
    (h : wpList P ops Q rest (a.put op.dst (.agg c)) w) : wpList P ops Q (op :: rest) a w :=
  wpList_plain hgd fun _ hK => by
    unfold Oper.wp execOp
    simp only [ho, hx, Instr.loadAt, Instr.sureAddr, Sem.run_bind, Sem.run_pure, Result.andThen_ok, run_loadVar_row w g t ty c (0, 0) d hb hu hd hi]
    exact hK _ _ h
end

theorem intV_one (xs : List Int) : (intV xs).toArray.all (·.oneCell') = true := by
  apply all_oneCell_toArray
  intro v hv
  simp only [intV, List.mem_map] at hv
  obtain ⟨n, _, rfl⟩ := hv
  rfl
theorem intV_size (xs : List Int) : (intV xs).toArray.size = xs.length := by simp [intV]
theorem Is.range {w : World} {ao : Option Addr} {xs : List Int} (h : Is w ao xs) (h0 : 0 < xs.length) : ∃ b off, ao = some ⟨b, off, none⟩ ∧ w.rangeAt b off (intV xs) := by
  obtain ⟨b, off, rfl, _⟩ := h 0 h0
  refine ⟨b, off, rfl, fun j v hv => ?_⟩
  have hj : j < xs.length := by have := (List.getElem?_eq_some_iff.1 hv).1; rw [intV_length] at this; exact this
  obtain ⟨b', off', e, hc⟩ := h j hj
  rw [intV_get hj] at hv
  cases e
  rw [hc]; exact hv
theorem Is.of_block {w : World} {g : Nat} {t : TypeId} {xs : List Int} (h : w.heap[g]? = some (.cells (intV xs).toArray t (0, 0))) : Is w (some ⟨g, 0, none⟩) xs := fun i hi => by
  refine ⟨g, 0, rfl, ?_⟩
  rw [Nat.zero_add, Joins.cell_of_block h]
  simpa using intV_get hi
theorem arr_cell {w : World} {g : Nat} {t : TypeId} {xs : List Int} (h : w.heap[g]? = some (.cells (intV xs).toArray t (0, 0))) {k : Nat} (hk : k < xs.length) : w.cell? ⟨g, k, none⟩ = some (.int .i64 xs[k]) := by
  rw [Joins.cell_of_block h]; simpa using intV_get hk
theorem intV_set (xs : List Int) (k : Nat) (n : Int) : (intV xs).toArray.setIfInBounds k (.int .i64 n) = (intV (xs.set k n)).toArray := by simp [intV, List.map_set]
theorem arr_set {w : World} {g : Nat} {t : TypeId} {xs : List Int} (h : w.heap[g]? = some (.cells (intV xs).toArray t (0, 0))) (k : Nat) (n : Int) : (w.setCell ⟨g, k, none⟩ (.int .i64 n)).heap[g]? = some (.cells (intV (xs.set k n)).toArray t (0, 0)) := by
  rw [set_block (i := k) h (.int .i64 n), intV_set]
theorem block_of_below {w w' : World} {g : Nat} {o : Obj} (h : w.heap[g]? = some o) (hb : Below w.heap.size w w') : w'.heap[g]? = some o := by
  rw [hb.block g (Array.getElem?_eq_some_iff.1 h).1]; exact h
theorem keep_one {w0 w w' : World} {g : Nat} (h : Below w0.heap.size w0 w) (hk : Keep (fun k => k = g) w w') (hg : w0.heap.size ≤ g) : Below w0.heap.size w0 w' :=
  h.trans (hk.below h.size (fun k e => by omega))

end Go.Proofs.Ytmkegkpnomcnhab

/- A law on append: a row behind an empty one, at a step that does not draw. -/
namespace Go.Proofs.Ytmkegkpnomcnhab
open Go.RowKit
set_option linter.unusedVariables false
section
variable {P : Program}
theorem wpList_append_fresh {w : World} {ops : Array Oper} {rest : List Oper} {o : Oper} {a : Act} {Q : Exit → Act → World → Prop} (hgd : o.guard = none) (s x : Operand) (t : TypeId)
    (ho : o.op = .call { callee := .builtin .append, args := #[s, x], argTypes := #[t, t] })
    (e : TypeId) (i : TypeInfo) (z : Value) (size bytes : Nat) (ht : P.underlying t = some (.slice e)) (hi : P.info? e = some i) (hz : i.zero = some z)
    (hsize : i.size = size) (hby : i.bytes = bytes) (hzs : z.cells.size = size) (hsz : 0 < size)
    (hs0 : isFresh (a.eval s) = true) (so : Option Addr) (m c : Nat) (news : List Value) (hx : a.eval x = .slice so m c) (hn : news.length = m * size)
    (hc : 0 < m → ∃ ad, so = some ad ∧ ∀ j u, news[j]? = some u → w.cell? (ad.add j) = some u) (b1 : m ≤ maxLen) (b2 : m * bytes ≤ 140737488355328)
    (hK : ∀ ao cap w', OwnR w' w.heap.size e size (.slice ao m cap) m news → w.grownBy w' none → wpList P ops Q rest (a.put o.dst (.slice ao m cap)) w') : wpList P ops Q (o :: rest) a w := by
  refine wpList_plain hgd fun K hK' => ?_
  obtain ⟨d, hs⟩ := isFresh_form hs0
  obtain ⟨ao, cap, w', hrun, r1, r2⟩ := run_append_fresh (P := P) w t o.type e i z size bytes ht hi hz hsize hby hzs hsz d so m c news hn hc b1 b2
  unfold Oper.wp
  simp [execOp, ho, resolve, invoke, builtin, hs, hx, hrun, Result.andThen]
  exact hK' _ _ (hK _ _ _ r1 r2)
end
end Go.Proofs.Ytmkegkpnomcnhab

/- Contracts of the model's counts: RefsOK, l08Ask, l08Add, RefUp, RefDown. -/
namespace Go.Proofs.Ytmkegkpnomcnhab
open Go.RowKit
set_option linter.unusedVariables false
set_option maxRecDepth 100000

end Go.Proofs.Ytmkegkpnomcnhab

/- Contracts of the model's images: l10Name, l10Twice. (Made ahead of stage 10.) -/
namespace Go.Proofs.Ytmkegkpnomcnhab
open Go.RowKit
set_option linter.unusedVariables false
set_option maxRecDepth 100000

theorem snm_get {t : ByteArray} {k : Nat} (h : k < t.size) : t.data.toList[k]? = some t[k] := by
  rw [Array.getElem?_toList]; exact Array.getElem?_eq_getElem h
theorem snm_bad {t : ByteArray} {k : Nat} (h : k < t.size) (hb : nm1 t[k] = false) : snmB t = false := by
  have h2 : k < t.data.toList.length := by simpa using h
  have e : t.data.toList[k] = t[k] := by have := snm_get h; rw [List.getElem?_eq_getElem h2] at this; exact Option.some.inj this
  rw [snmB, all_not (p := nm1) h2 (by rw [e]; exact hb)]; rfl
theorem snm_all {t : ByteArray} (h : ∀ j (h : j < t.size), nm1 t[j] = true) : snmB t = betw (t.size : Int) 1 6 := by
  rw [snmB, all_of (p := nm1) (fun i hi _ => ?_)]
  · simp
  · have h1 : i < t.size := by simpa using hi
    have e : t.data.toList[i] = t[i] := by have := snm_get h1; rw [List.getElem?_eq_getElem hi] at this; exact Option.some.inj this
    rw [e]; exact h i h1

theorem nodup_snoc {α : Type} {xs : List α} {k : Nat} (hk : k < xs.length) (h : (xs.take k).Nodup) (hn : ∀ j (hj : j < xs.length), j < k → xs[j] ≠ xs[k]) : (xs.take (k + 1)).Nodup := by
  rw [List.take_succ_eq_append_getElem hk, List.nodup_append]
  refine ⟨h, by simp, ?_⟩
  intro a ha b hb
  rw [List.mem_singleton] at hb
  subst hb
  obtain ⟨j, hj, rfl⟩ := List.mem_iff_getElem.1 ha
  rw [List.length_take] at hj
  rw [List.getElem_take]
  exact hn j (by omega) (by omega)
theorem not_nodup {α : Type} {xs : List α} {i k : Nat} (hi : i < xs.length) (hk : k < i) (he : xs[i] = xs[k]) : ¬ xs.Nodup := by
  intro h
  exact (List.pairwise_iff_getElem.1 h) k i (by omega) hi hk he.symm

end Go.Proofs.Ytmkegkpnomcnhab

/- Contracts of the laws' marks on images: markSnapS, heldSnapS. (Made ahead of stage 10.) -/
namespace Go.Proofs.Ytmkegkpnomcnhab
open Go.RowKit
set_option linter.unusedVariables false
set_option maxRecDepth 100000

theorem mkSn_get : ∀ {k : Nat} {ss : List Snp} {j : Nat} (h : j < ss.length), (mkSn k ss)[j]? = some (mk1 (k + snK (ss.take j)) ss[j])
  | k, [], j, h => by simp at h
  | k, s :: ss, 0, h => by simp [mkSn, snK]
  | k, s :: ss, j + 1, h => by
    rw [mkSn, List.getElem?_cons_succ, mkSn_get (by simpa using h)]
    simp only [List.take_succ_cons, List.getElem_cons_succ, snK, List.map_cons, List.sum_cons, Nat.add_assoc]

end Go.Proofs.Ytmkegkpnomcnhab
