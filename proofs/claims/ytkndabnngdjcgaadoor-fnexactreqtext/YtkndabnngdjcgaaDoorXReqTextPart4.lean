import Derived.Test.YtkndabnngdjcgaaDoorXReqTextPart1
import Derived.Test.YtkndabnngdjcgaaDoorXReqTextPart2
import Derived.Test.YtkndabnngdjcgaaDoorXReqTextPart3
import Derived.WalkKit
import Derived.Laws.OwnMore
import Derived.Test.YtkndabnngdjcgaaDoorRows
import Derived.WalkSpells
import Derived.KernelRfl
import Derived.LoopN
import Derived.BigQuiet
import Derived.Deep.QuietTactic
import Derived.Deep.CutRange
import Derived.Deep.RegionWith
import Derived.Laws.StructEq
import Derived.WalkLawsBesides
import Derived.Deep.RegionHeld3

/- Images that are owned: their rows of numbers lie apart from each other. (Made ahead of stage 10.) -/
namespace Go.Proofs.YtkndabnngdjcgaaDoor
open Go.RowKit
set_option linter.unusedVariables false
set_option maxRecDepth 100000

/-- Rows of numbers of the call's own, none of which lies in another's block. -/
structure OwnA (w : World) (B : Nat) (rs : List (Value × List Int)) : Prop where
  own : ∀ r ∈ rs, OwnN w B r.1 r.2
  apart : rs.Pairwise (fun a b => ∀ g, Own a.1 g → ¬ Own b.1 g)
theorem OwnN.ge {w : World} {B : Nat} {v : Value} {xs : List Int} (h : OwnN w B v xs) : ∀ k, Own v k → B ≤ k ∧ k < w.heap.size := by
  obtain ⟨ao, cap, rfl, ho⟩ := h
  exact ho.ge
theorem OwnN.keep {S : Nat → Prop} {w w' : World} {B : Nat} {v : Value} {xs : List Int} (h : OwnN w B v xs) (hk : Keep S w w') (hs : ∀ g, Own v g → ¬ S g) : OwnN w' B v xs := by
  obtain ⟨ao, cap, rfl, ho⟩ := h
  exact ⟨ao, cap, rfl, ho.keep hk hs⟩
theorem OwnA.below {w w' : World} {B : Nat} {rs : List (Value × List Int)} (h : OwnA w B rs) (hb : Below w.heap.size w w') : OwnA w' B rs := ⟨fun r hr => (h.own r hr).below hb, h.apart⟩
theorem OwnA.keep {S : Nat → Prop} {w w' : World} {B : Nat} {rs : List (Value × List Int)} (h : OwnA w B rs) (hk : Keep S w w') (hs : ∀ r ∈ rs, ∀ g, Own r.1 g → ¬ S g) : OwnA w' B rs := ⟨fun r hr => (h.own r hr).keep hk (hs r hr), h.apart⟩
theorem OwnA.base {w : World} {B B' : Nat} {rs : List (Value × List Int)} (h : OwnA w B rs) (hB : B' ≤ B) : OwnA w B' rs := ⟨fun r hr => (h.own r hr).base hB, h.apart⟩
theorem OwnA.nil (w : World) (B : Nat) : OwnA w B [] := ⟨fun _ h => (by cases h), List.Pairwise.nil⟩
/-- A row that was made later lies apart from all. -/
theorem OwnA.snoc {w w' : World} {B : Nat} {rs : List (Value × List Int)} {v : Value} {xs : List Int} (h : OwnA w B rs) (hb : Below w.heap.size w w') (hv : OwnN w' w.heap.size v xs) (hB : B ≤ w.heap.size) : OwnA w' B (rs ++ [(v, xs)]) := by
  refine ⟨fun r hr => ?_, ?_⟩
  · rcases List.mem_append.1 hr with h1 | h1
    · exact (h.own r h1).below hb
    · rw [List.mem_singleton] at h1
      subst h1
      exact hv.base hB
  · rw [List.pairwise_append]
    refine ⟨h.apart, List.pairwise_singleton _ _, fun a ha b hb' g hg hg' => ?_⟩
    rw [List.mem_singleton] at hb'
    subst hb'
    have h1 := ((h.own a ha).ge g hg).2
    have h2 := (hv.ge g hg').1
    omega
/-- The cells of a row of snapshots, its tables' slices given. -/
def snC : List Snp → List Value → List Value
  | s :: ss, t :: ts => .string s.name :: t :: snC ss ts
  | _, _ => []
theorem snC_length : ∀ (ss : List Snp) (ts : List Value), ss.length = ts.length → (snC ss ts).length = ss.length * 2
  | [], [], _ => rfl
  | s :: ss, t :: ts, h => by
    have := snC_length ss ts (by simpa using h)
    simp only [snC, List.length_cons, this]; omega
theorem snC_snoc : ∀ (ss : List Snp) (ts : List Value) (s : Snp) (t : Value), ss.length = ts.length → snC (ss ++ [s]) (ts ++ [t]) = snC ss ts ++ [.string s.name, t]
  | [], [], s, t, _ => rfl
  | a :: ss, b :: ts, s, t, h => by
    have := snC_snoc ss ts s t (by simpa using h)
    simp only [List.cons_append, snC, this]
/-- Its rows. -/
def imRows (a : Im4) (m : Img) (ts : List Value) : List (Value × List Int) := (.slice a.ro m.refs.length a.rc, m.refs) :: (.slice a.tq m.table.length a.tc, m.table) :: (.slice a.dq m.data.length a.dc, m.data) :: ts.zip (m.snaps.map (·.table))
/-- A row as OwnR's, but that one of no element may have room. -/
def OwnS (w : World) (B e size : Nat) (v : Value) (n : Nat) (xs : List Value) : Prop := (n = 0 ∧ xs = [] ∧ ∃ ao c, v = .slice ao 0 c) ∨ (0 < n ∧ w.ownsRow B e size v n xs)
theorem OwnR.toS {w : World} {B e size n : Nat} {v : Value} {xs : List Value} (h : OwnR w B e size v n xs) : OwnS w B e size v n xs := h.imp (fun ⟨h1, h2, ao, h3⟩ => ⟨h1, h2, ao, 0, h3⟩) id
theorem OwnS.toR {w : World} {B e size n c : Nat} {ao : Option Addr} {xs : List Value} (h : OwnS w B e size (.slice ao n c) n xs) (hc : n = 0 → c = 0) : OwnR w B e size (.slice ao n c) n xs := h.imp (fun ⟨h1, h2, _⟩ => ⟨h1, h2, ao, by rw [h1, hc h1]⟩) id
/-- What holds of OwnR's rows, whatever room one of no element has. -/
theorem OwnS.as {w : World} {B e size n : Nat} {v : Value} {xs : List Value} (h : OwnS w B e size v n xs) : ∃ v', OwnR w B e size v' n xs ∧ (∀ k, Own v k ↔ Own v' k) := by
  rcases h with ⟨h1, h2, ao, c, rfl⟩ | h
  · exact ⟨.slice ao 0 0, .inl ⟨h1, h2, ao, rfl⟩, fun k => ⟨fun hk => absurd hk own_no, fun hk => absurd hk own_no⟩⟩
  · exact ⟨v, .inr h, fun _ => Iff.rfl⟩
theorem OwnS.keep {S : Nat → Prop} {w w' : World} {B e size n : Nat} {v : Value} {xs : List Value} (h : OwnS w B e size v n xs) (hk : Keep S w w') (hs : ∀ g, Own v g → ¬ S g) : OwnS w' B e size v n xs := by
  rcases h with h | h
  · exact .inl h
  · exact (OwnR.keep (.inr h) hk hs).toS
theorem OwnS.below {w w' : World} {B e size n : Nat} {v : Value} {xs : List Value} (h : OwnS w B e size v n xs) (hb : Below w.heap.size w w') : OwnS w' B e size v n xs :=
  h.keep (S := fun _ => False) (Keep.of_below hb) (fun _ _ h => h)
theorem OwnS.base {w : World} {B B' e size n : Nat} {v : Value} {xs : List Value} (h : OwnS w B e size v n xs) (hB : B' ≤ B) : OwnS w B' e size v n xs := by
  rcases h with h | h
  · exact .inl h
  · exact (OwnR.base (.inr h) hB).toS
theorem OwnS.ge {w : World} {B e size n : Nat} {v : Value} {xs : List Value} (h : OwnS w B e size v n xs) : ∀ k, Own v k → B ≤ k ∧ k < w.heap.size := fun k hk => by
  obtain ⟨v', h1, h2⟩ := h.as
  exact h1.ge k ((h2 k).1 hk)
theorem OwnS.other {w : World} {B e size n : Nat} {v : Value} {xs : List Value} (h : OwnS w B e size v n xs) {x t : Nat} {c : Array Value} {f : Nat × Nat} (hx : w.heap[x]? = some (.cells c t f)) (he : t ≠ e) : ¬ Own v x := fun hk => by
  obtain ⟨v', h1, h2⟩ := h.as
  exact h1.other hx he ((h2 x).1 hk)
theorem OwnS.setCell {w : World} {B e size n : Nat} {v : Value} {xs : List Value} (h : OwnS w B e size v n xs) {a : Addr} (ha : a.block < B) (u : Value) : OwnS (w.setCell a u) B e size v n xs := by
  rcases h with h | h
  · exact .inl h
  · exact (OwnR.setCell (.inr h) ha u).toS
theorem OwnS.row {w : World} {B e size n : Nat} {v : Value} {xs : List Value} (h : OwnS w B e size v n xs) (h0 : 0 < n) : w.ownsRow B e size v n xs := by
  rcases h with ⟨h1, _⟩ | h
  · omega
  · exact h.2
theorem own_apartS {w : World} {B B' e e' size size' n n' : Nat} {v v' : Value} {xs xs' : List Value} (h : OwnR w B e size v n xs) (h' : OwnS w B' e' size' v' n' xs') (he : e ≠ e') : ∀ g, Own v g → ¬ Own v' g := fun g hg hg' => by
  obtain ⟨v2, h1, h2⟩ := h'.as
  exact own_apart h h1 he g hg ((h2 g).1 hg')
theorem own_apartT {w : World} {B B' e e' size size' n n' : Nat} {v v' : Value} {xs xs' : List Value} (h : OwnS w B e size v n xs) (h' : OwnR w B' e' size' v' n' xs') (he : e ≠ e') : ∀ g, Own v g → ¬ Own v' g := fun g hg hg' => by
  obtain ⟨v2, h1, h2⟩ := h.as
  exact own_apart h1 h' he g ((h2 g).1 hg) hg'
/-- An image of the call's own. -/
structure OwnIm (w : World) (B : Nat) (a : Im4) (m : Img) (ts : List Value) : Prop where
  len : m.snaps.length = ts.length
  s : OwnS w B 107 2 (.slice a.so m.snaps.length a.sc) m.snaps.length (snC m.snaps ts)
  rows : OwnA w B (imRows a m ts)
/-- .. whose row of snapshots has no room where it has no element. -/
def OwnF (w : World) (B : Nat) (a : Im4) (m : Img) (ts : List Value) : Prop := OwnIm w B a m ts ∧ (m.snaps.length = 0 → a.sc = 0)
theorem OwnR.cap0 {w : World} {B e size n c : Nat} {ao : Option Addr} {xs : List Value} (h : OwnR w B e size (.slice ao n c) n xs) (h0 : n = 0) : c = 0 := by
  rcases h with ⟨_, _, ao', e0⟩ | ⟨hp, _⟩
  · simp only [Value.slice.injEq] at e0
    exact e0.2.2
  · omega
theorem OwnIm.below {w w' : World} {B : Nat} {a : Im4} {m : Img} {ts : List Value} (h : OwnIm w B a m ts) (hb : Below w.heap.size w w') : OwnIm w' B a m ts := ⟨h.len, h.s.below hb, h.rows.below hb⟩

end Go.Proofs.YtkndabnngdjcgaaDoor

/- Contracts of the laws' own copies of images: toSnap. (Made ahead of stage 10.) -/
namespace Go.Proofs.YtkndabnngdjcgaaDoor
open Go.RowKit
set_option linter.unusedVariables false
set_option maxRecDepth 100000

end Go.Proofs.YtkndabnngdjcgaaDoor

/- Contracts of the laws' own copies of images: toSnapS. (Made ahead of stage 10.) -/
namespace Go.Proofs.YtkndabnngdjcgaaDoor
open Go.RowKit
set_option linter.unusedVariables false
set_option maxRecDepth 100000

theorem infoSn : (Tryd.prog.info? 107).map (fun i => (i.zero, i.size, i.bytes)) = some (some (.agg #[.string ⟨#[]⟩, .slice none 0 0]), 2, 40) := by kernel_rfl
theorem sn_put2 {w : World} {B e size g n cap : Nat} {xs : List Value} (h : w.ownsRow B e size (.slice (some ⟨g, 0, none⟩) n cap) n xs) (i j : Nat) (u v : Value) :
    ((w.setCell ⟨g, i, none⟩ u).setCell ⟨g, j, none⟩ v).ownsRow B e size (.slice (some ⟨g, 0, none⟩) n cap) n ((xs.set i u).set j v) :=
  ((h.stored i u).1.stored j v).1
theorem sn_below2 {w0 w : World} {B g : Nat} (h : Below B w0 w) (hg : B ≤ g) (i j : Nat) (u v : Value) : Below B w0 ((w.setCell ⟨g, i, none⟩ u).setCell ⟨g, j, none⟩ v) :=
  (h.setCell (p := ⟨g, i, none⟩) hg u).setCell (p := ⟨g, j, none⟩) hg v
theorem OwnA.setCell {w : World} {B : Nat} {rs : List (Value × List Int)} (h : OwnA w B rs) {a : Addr} (ha : a.block < B) (u : Value) : OwnA (w.setCell a u) B rs := ⟨fun r hr => (h.own r hr).setCell ha u, h.apart⟩
theorem sn_take {ys : List Value} {ss : List Snp} {ts : List Value} {k : Nat} (hk : k < ss.length) (hl : ys.length = ss.length * 2) (ht : ts.length = k) (h : ys.take (k * 2) = snC (ss.take k) ts) (v : Value) :
    ((ys.set (k * 2) (.string ss[k].name)).set (k * 2 + 1) v).take ((k + 1) * 2) = snC (ss.take (k + 1)) (ts ++ [v]) := by
  rw [List.take_succ_eq_append_getElem hk, snC_snoc _ _ _ _ (by rw [List.length_take, ht]; omega), ← h]
  rw [show (k + 1) * 2 = k * 2 + 1 + 1 by omega, List.take_succ_eq_append_getElem (by rw [List.length_set, List.length_set]; omega), List.getElem_set_self, List.take_set_of_le (Nat.le_refl _), List.take_succ_eq_append_getElem (by rw [List.length_set]; omega), List.getElem_set_self, List.take_set_of_le (Nat.le_refl _), List.append_assoc]
  rfl
theorem sn_zip {ss : List Snp} {ts : List Value} {k : Nat} (hk : k < ss.length) (ht : ts.length = k) (v : Value) :
    (ts ++ [v]).zip ((ss.take (k + 1)).map (·.table)) = ts.zip ((ss.take k).map (·.table)) ++ [(v, ss[k].table)] := by
  rw [List.take_succ_eq_append_getElem hk, List.map_append, List.zip_append (by rw [List.length_map, List.length_take, ht]; omega)]
  rfl

end Go.Proofs.YtkndabnngdjcgaaDoor

/- Contracts of the laws' own copies of images: toImage. (Made ahead of stage 10.) -/
namespace Go.Proofs.YtkndabnngdjcgaaDoor
open Go.RowKit
set_option linter.unusedVariables false
set_option maxRecDepth 100000

/-- Rows that were made later lie apart from all. -/
theorem OwnA.append {w w' : World} {B : Nat} {rs qs : List (Value × List Int)} (h : OwnA w B rs) (hb : Below w.heap.size w w') (hv : OwnA w' w.heap.size qs) (hB : B ≤ w.heap.size) : OwnA w' B (rs ++ qs) := by
  refine ⟨fun r hr => ?_, ?_⟩
  · rcases List.mem_append.1 hr with h1 | h1
    · exact (h.own r h1).below hb
    · exact (hv.own r h1).base hB
  · rw [List.pairwise_append]
    refine ⟨h.apart, hv.apart, fun a ha b hb' g hg hg' => ?_⟩
    have h1 := ((h.own a ha).ge g hg).2
    have h2 := ((hv.own b hb').ge g hg').1
    omega
theorem OwnA.perm {w : World} {B : Nat} {rs qs : List (Value × List Int)} (h : OwnA w B rs) (hp : rs.Perm qs) : OwnA w B qs :=
  ⟨fun r hr => h.own r (hp.mem_iff.2 hr), (hp.pairwise_iff (fun {a b} hab g hb ha => hab g ha hb)).1 h.apart⟩
theorem OwnA.one {w : World} {B : Nat} {v : Value} {xs : List Int} (h : OwnN w B v xs) : OwnA w B [(v, xs)] := ⟨fun r hr => by rw [List.mem_singleton] at hr; subst hr; exact h, List.pairwise_singleton _ _⟩
/-- A variable of four lists. -/
def VarM (w : World) (x : Nat) (t : TypeId) (v0 v1 v2 v3 : Value) : Prop := w.heap[x]? = some (.cells #[v0, v1, v2, v3] t (0, 0))
theorem VarM.lt {w : World} {x t : Nat} {v0 v1 v2 v3 : Value} (k : VarM w x t v0 v1 v2 v3) : x < w.heap.size := (Array.getElem?_eq_some_iff.1 k).1
theorem VarM.cells {w : World} {x t : Nat} {v0 v1 v2 v3 : Value} (k : VarM w x t v0 v1 v2 v3) : w.cell? ⟨x, 0, none⟩ = some v0 ∧ w.cell? ⟨x, 1, none⟩ = some v1 ∧ w.cell? ⟨x, 2, none⟩ = some v2 ∧ w.cell? ⟨x, 3, none⟩ = some v3 := ⟨by rw [Joins.cell_of_block k]; rfl, by rw [Joins.cell_of_block k]; rfl, by rw [Joins.cell_of_block k]; rfl, by rw [Joins.cell_of_block k]; rfl⟩
theorem VarM.free {w : World} {x t : Nat} {v0 v1 v2 v3 : Value} (k : VarM w x t v0 v1 v2 v3) : w.frozen? ⟨x, 0, none⟩ = false ∧ w.frozen? ⟨x, 1, none⟩ = false ∧ w.frozen? ⟨x, 2, none⟩ = false ∧ w.frozen? ⟨x, 3, none⟩ = false := ⟨Joins.unfrozen_of_block k 0, Joins.unfrozen_of_block k 1, Joins.unfrozen_of_block k 2, Joins.unfrozen_of_block k 3⟩
theorem VarM.below {w w' : World} {x t : Nat} {v0 v1 v2 v3 : Value} (k : VarM w x t v0 v1 v2 v3) (hb : Below w.heap.size w w') : VarM w' x t v0 v1 v2 v3 := by
  unfold VarM; rw [hb.block x k.lt]; exact k
theorem VarM.new (w : World) (t : TypeId) (v0 v1 v2 v3 : Value) : VarM (w.alloc (.cells #[v0, v1, v2, v3] t)) w.heap.size t v0 v1 v2 v3 := heap_alloc_new w _
theorem VarM.other {w : World} {x t : Nat} {v0 v1 v2 v3 : Value} (h : VarM w x t v0 v1 v2 v3) {p : Addr} (hp : x ≠ p.block) (u : Value) : VarM (w.setCell p u) x t v0 v1 v2 v3 := by
  unfold VarM; rw [Below.heap_setCell w p u x hp]; exact h
theorem VarM.set0 {w : World} {x t : Nat} {v0 v1 v2 v3 : Value} (h : VarM w x t v0 v1 v2 v3) (u : Value) : VarM (w.setCell ⟨x, 0, none⟩ u) x t u v1 v2 v3 := Joins.block_setCell (i := 0) h u
theorem VarM.set1 {w : World} {x t : Nat} {v0 v1 v2 v3 : Value} (h : VarM w x t v0 v1 v2 v3) (u : Value) : VarM (w.setCell ⟨x, 1, none⟩ u) x t v0 u v2 v3 := Joins.block_setCell (i := 1) h u
theorem VarM.set2 {w : World} {x t : Nat} {v0 v1 v2 v3 : Value} (h : VarM w x t v0 v1 v2 v3) (u : Value) : VarM (w.setCell ⟨x, 2, none⟩ u) x t v0 v1 u v3 := Joins.block_setCell (i := 2) h u
theorem VarM.set3 {w : World} {x t : Nat} {v0 v1 v2 v3 : Value} (h : VarM w x t v0 v1 v2 v3) (u : Value) : VarM (w.setCell ⟨x, 3, none⟩ u) x t v0 v1 v2 u := Joins.block_setCell (i := 3) h u
theorem VarM.at {w : World} {x y t : Nat} {v0 v1 v2 v3 : Value} (h : VarM w x t v0 v1 v2 v3) (e : x = y) : VarM w y t v0 v1 v2 v3 := e ▸ h
end Go.Proofs.YtkndabnngdjcgaaDoor

/- Requests, plainly: what is right, what use each is of, what stands in memory. -/
namespace Go.Proofs.YtkndabnngdjcgaaDoor
open Go.RowKit
set_option linter.unusedVariables false
set_option maxRecDepth 100000

structure Rq where
  k : Int
  g : Int
  v : Int
  n : ByteArray
abbrev noB : ByteArray := ⟨#[]⟩
abbrev qV (q : Rq) : Value := .agg #[.int .i64 q.k, .int .i64 q.g, .int .i64 q.v, .string q.n]
/-- What is left of a request when what it has no use for is gone. -/
def plR (q : Rq) : Rq :=
  if q.k = 1 then ⟨1, q.g, 0, noB⟩ else if q.k = 2 then ⟨2, q.g, q.v, noB⟩ else if q.k = 3 then ⟨3, q.g, 0, noB⟩ else if q.k = 4 then ⟨4, q.g, 0, noB⟩
  else if q.k = 5 then ⟨5, 0, 0, q.n⟩ else if q.k = 6 then ⟨6, 0, 0, q.n⟩ else if q.k = 7 then ⟨7, 0, 0, q.n⟩ else ⟨8, 0, 0, noB⟩
def noN (n : ByteArray) : Bool := n.toList.isEmpty
/-- The fields that must be nothing are. -/
def useB (q : Rq) : Bool :=
  if q.k = 1 ∨ q.k = 3 ∨ q.k = 4 then q.v == 0 && noN q.n
  else if q.k = 2 then noN q.n
  else if q.k = 8 then q.g == 0 && q.v == 0 && noN q.n
  else q.g == 0 && q.v == 0
def rqB (q : Rq) : Bool := betw q.k 1 8 && decide (q.n.size ≤ 65536) && useB q
def eqR (a b : Rq) : Bool := a.k == b.k && (a.g == b.g && (a.v == b.v && a.n.toList == b.n.toList))
theorem rq_k (q : Rq) : q.k = 1 ∨ q.k = 2 ∨ q.k = 3 ∨ q.k = 4 ∨ q.k = 5 ∨ q.k = 6 ∨ q.k = 7 ∨ q.k = 8 ∨ (betw q.k 1 8 = false ∧ ¬ q.k = 1 ∧ ¬ q.k = 2 ∧ ¬ q.k = 3 ∧ ¬ q.k = 4 ∧ ¬ q.k = 5 ∧ ¬ q.k = 6 ∧ ¬ q.k = 7 ∧ ¬ q.k = 8) := by
  by_cases h : 1 ≤ q.k ∧ q.k ≤ 8
  · omega
  · refine .inr (.inr (.inr (.inr (.inr (.inr (.inr (.inr ⟨?_, by omega, by omega, by omega, by omega, by omega, by omega, by omega, by omega⟩)))))))
    cases hb : betw q.k 1 8 with
    | false => rfl
    | true => exact absurd (betw_iff.1 hb) h
theorem noB_list : noB.toList = [] := by rw [ByteArray.toList_eq]
theorem noN_eq (n : ByteArray) : (noB.toList == n.toList) = noN n := by
  unfold noN
  rw [noB_list]
  cases n.toList with
  | nil => rfl
  | cons a b => rfl
theorem zer_eq (x : Int) : ((0 : Int) == x) = (x == 0) := BEq.comm
theorem rq_plain1 (g v : Int) (n : ByteArray) (k : Int) (hk : k = 1 ∨ k = 3 ∨ k = 4) : eqR (plR ⟨k, g, v, n⟩) ⟨k, g, v, n⟩ = (v == 0 && noN n) := by
  rcases hk with rfl | rfl | rfl
  all_goals
    show (_ == _ && (g == g && (((0 : Int) == v) && (noB.toList == n.toList)))) = _
    rw [zer_eq, noN_eq, beq_self_eq_true]; rfl
theorem rq_plain5 (g v : Int) (n : ByteArray) (k : Int) (hk : k = 5 ∨ k = 6 ∨ k = 7) : eqR (plR ⟨k, g, v, n⟩) ⟨k, g, v, n⟩ = (g == 0 && v == 0) := by
  rcases hk with rfl | rfl | rfl
  all_goals
    show (_ == _ && (((0 : Int) == g) && (((0 : Int) == v) && (n.toList == n.toList)))) = _
    rw [zer_eq, zer_eq, beq_self_eq_true, Bool.and_true]; rfl
theorem rq_plain (q : Rq) : (decide (q.n.size ≤ 65536) && eqR (plR q) q) = rqB q := by
  obtain ⟨k, g, v, n⟩ := q
  unfold rqB
  show (decide (n.size ≤ 65536) && _) = (betw k 1 8 && decide (n.size ≤ 65536) && _)
  generalize decide (n.size ≤ 65536) = D
  rcases rq_k ⟨k, g, v, n⟩ with h | h | h | h | h | h | h | h | ⟨hb, h1, h2, h3, h4, h5, h6, h7, h8⟩
  · replace h : k = 1 := h
    rw [rq_plain1 g v n k (by omega)]; subst h; rfl
  · replace h : k = 2 := h
    subst h
    show (D && (_ == _ && (g == g && (v == v && (noB.toList == n.toList))))) = (_ && D && noN n)
    rw [noN_eq, beq_self_eq_true, beq_self_eq_true]; rfl
  · replace h : k = 3 := h
    rw [rq_plain1 g v n k (by omega)]; subst h; rfl
  · replace h : k = 4 := h
    rw [rq_plain1 g v n k (by omega)]; subst h; rfl
  · replace h : k = 5 := h
    rw [rq_plain5 g v n k (by omega)]; subst h; rfl
  · replace h : k = 6 := h
    rw [rq_plain5 g v n k (by omega)]; subst h; rfl
  · replace h : k = 7 := h
    rw [rq_plain5 g v n k (by omega)]; subst h; rfl
  · replace h : k = 8 := h
    subst h
    show (D && (_ == _ && (((0 : Int) == g) && (((0 : Int) == v) && (noB.toList == n.toList))))) = (_ && D && (g == 0 && v == 0 && noN n))
    rw [noN_eq, zer_eq, zer_eq, Bool.and_assoc, Bool.and_assoc (g == 0)]; rfl
  · replace hb : betw k 1 8 = false := hb
    rw [hb]
    have e : eqR (plR ⟨k, g, v, n⟩) ⟨k, g, v, n⟩ = false := by
      simp only [plR, if_neg h1, if_neg h2, if_neg h3, if_neg h4, if_neg h5, if_neg h6, if_neg h7, eqR]
      rw [beq_eq_false_iff_ne.2 (fun e => h8 e.symm)]; rfl
    rw [e]; cases D <;> rfl

end Go.Proofs.YtkndabnngdjcgaaDoor

/- Contracts of the program's useOf, plainReq, ReqOK. (Written by gens/reqi.py.) -/
namespace Go.Proofs.YtkndabnngdjcgaaDoor
open Go.RowKit
set_option linter.unusedVariables false
set_option maxRecDepth 100000

/-- A request as the type of its kind. -/
def usV (q : Rq) : Value :=
  if q.k = 1 then .iface 120 (.agg #[.int .i64 q.g])
  else if q.k = 2 then .iface 122 (.agg #[.int .i64 q.g, .int .i64 q.v])
  else if q.k = 3 then .iface 123 (.agg #[.int .i64 q.g])
  else if q.k = 4 then .iface 125 (.agg #[.int .i64 q.g])
  else if q.k = 5 then .iface 116 (.agg #[.string q.n])
  else if q.k = 6 then .iface 117 (.agg #[.string q.n])
  else if q.k = 7 then .iface 118 (.agg #[.string q.n])
  else .iface 127 (.agg #[])

theorem us_1 {q : Rq} (h : q.k = 1) : usV q = .iface 120 (.agg #[.int .i64 q.g]) := by
  unfold usV
  rw [if_pos h]
theorem pl_1 {q : Rq} (h : q.k = 1) : qV (plR q) = .agg #[.int .i64 1, .int .i64 q.g, .int .i64 0, .string ⟨#[]⟩] := by
  unfold plR
  rw [if_pos h]
theorem us_2 {q : Rq} (h : q.k = 2) : usV q = .iface 122 (.agg #[.int .i64 q.g, .int .i64 q.v]) := by
  unfold usV
  rw [if_neg (by omega), if_pos h]
theorem pl_2 {q : Rq} (h : q.k = 2) : qV (plR q) = .agg #[.int .i64 2, .int .i64 q.g, .int .i64 q.v, .string ⟨#[]⟩] := by
  unfold plR
  rw [if_neg (by omega), if_pos h]
theorem us_3 {q : Rq} (h : q.k = 3) : usV q = .iface 123 (.agg #[.int .i64 q.g]) := by
  unfold usV
  rw [if_neg (by omega), if_neg (by omega), if_pos h]
theorem pl_3 {q : Rq} (h : q.k = 3) : qV (plR q) = .agg #[.int .i64 3, .int .i64 q.g, .int .i64 0, .string ⟨#[]⟩] := by
  unfold plR
  rw [if_neg (by omega), if_neg (by omega), if_pos h]
theorem us_4 {q : Rq} (h : q.k = 4) : usV q = .iface 125 (.agg #[.int .i64 q.g]) := by
  unfold usV
  rw [if_neg (by omega), if_neg (by omega), if_neg (by omega), if_pos h]
theorem pl_4 {q : Rq} (h : q.k = 4) : qV (plR q) = .agg #[.int .i64 4, .int .i64 q.g, .int .i64 0, .string ⟨#[]⟩] := by
  unfold plR
  rw [if_neg (by omega), if_neg (by omega), if_neg (by omega), if_pos h]
theorem us_5 {q : Rq} (h : q.k = 5) : usV q = .iface 116 (.agg #[.string q.n]) := by
  unfold usV
  rw [if_neg (by omega), if_neg (by omega), if_neg (by omega), if_neg (by omega), if_pos h]
theorem pl_5 {q : Rq} (h : q.k = 5) : qV (plR q) = .agg #[.int .i64 5, .int .i64 0, .int .i64 0, .string q.n] := by
  unfold plR
  rw [if_neg (by omega), if_neg (by omega), if_neg (by omega), if_neg (by omega), if_pos h]
theorem us_6 {q : Rq} (h : q.k = 6) : usV q = .iface 117 (.agg #[.string q.n]) := by
  unfold usV
  rw [if_neg (by omega), if_neg (by omega), if_neg (by omega), if_neg (by omega), if_neg (by omega), if_pos h]
theorem pl_6 {q : Rq} (h : q.k = 6) : qV (plR q) = .agg #[.int .i64 6, .int .i64 0, .int .i64 0, .string q.n] := by
  unfold plR
  rw [if_neg (by omega), if_neg (by omega), if_neg (by omega), if_neg (by omega), if_neg (by omega), if_pos h]
theorem us_7 {q : Rq} (h : q.k = 7) : usV q = .iface 118 (.agg #[.string q.n]) := by
  unfold usV
  rw [if_neg (by omega), if_neg (by omega), if_neg (by omega), if_neg (by omega), if_neg (by omega), if_neg (by omega), if_pos h]
theorem pl_7 {q : Rq} (h : q.k = 7) : qV (plR q) = .agg #[.int .i64 7, .int .i64 0, .int .i64 0, .string q.n] := by
  unfold plR
  rw [if_neg (by omega), if_neg (by omega), if_neg (by omega), if_neg (by omega), if_neg (by omega), if_neg (by omega), if_pos h]
theorem us_8 {q : Rq} (h : ¬ q.k = 1 ∧ ¬ q.k = 2 ∧ ¬ q.k = 3 ∧ ¬ q.k = 4 ∧ ¬ q.k = 5 ∧ ¬ q.k = 6 ∧ ¬ q.k = 7) : usV q = .iface 127 (.agg #[]) := by
  unfold usV
  rw [if_neg (by omega), if_neg (by omega), if_neg (by omega), if_neg (by omega), if_neg (by omega), if_neg (by omega), if_neg (by omega)]
theorem pl_8 {q : Rq} (h : ¬ q.k = 1 ∧ ¬ q.k = 2 ∧ ¬ q.k = 3 ∧ ¬ q.k = 4 ∧ ¬ q.k = 5 ∧ ¬ q.k = 6 ∧ ¬ q.k = 7) : qV (plR q) = .agg #[.int .i64 8, .int .i64 0, .int .i64 0, .string ⟨#[]⟩] := by
  unfold plR
  rw [if_neg (by omega), if_neg (by omega), if_neg (by omega), if_neg (by omega), if_neg (by omega), if_neg (by omega), if_neg (by omega)]
theorem rq_8 (q : Rq) : q.k = 1 ∨ q.k = 2 ∨ q.k = 3 ∨ q.k = 4 ∨ q.k = 5 ∨ q.k = 6 ∨ q.k = 7 ∨ (¬ q.k = 1 ∧ ¬ q.k = 2 ∧ ¬ q.k = 3 ∧ ¬ q.k = 4 ∧ ¬ q.k = 5 ∧ ¬ q.k = 6 ∧ ¬ q.k = 7) := by omega
/-- A request in a variable. -/
abbrev VarR (w : World) (x : Nat) (q : Rq) : Prop := VarM w x 27 (.int .i64 q.k) (.int .i64 q.g) (.int .i64 q.v) (.string q.n)

set_option maxHeartbeats 3200000 in
theorem useOf_any (q : Rq) (w : World) : Calls Tryd.prog 44 #[qV q] w fun e w' => e = .returned (usV q) ∧ Below w.heap.size w w' := by
  have HA := hide (Joins.below_alloc1 w (.cells #[.int .i64 q.k, .int .i64 q.g, .int .i64 q.v, .string q.n] 27))
  have HV := hide (VarM.new w 27 (.int .i64 q.k) (.int .i64 q.g) (.int .i64 q.v) (.string q.n))
  obtain ⟨R, HR⟩ : ∃ R, Hid (R = usV q) := ⟨_, hide rfl⟩
  rw [← unhide HR]
  go_enter Tryd.func44, Tryd.ntmps44
  go_upto_region 1 with fail
  revert HA HV
  generalize (w.alloc _) = W0
  intro HA HV
  obtain ⟨c0, c1, c2, c3⟩ := (unhide HV).cells
  rcases rq_8 q with h | h | h | h | h | h | h | h
  · have HX := hide ((unhide HR).trans (us_1 h))
    rw [h] at c0
    clear HR h
    go_wp2
    go_ret
    exact ⟨by rw [unhide HX]; rfl, unhide HA⟩
  · have HX := hide ((unhide HR).trans (us_2 h))
    rw [h] at c0
    clear HR h
    go_wp2
    go_ret
    exact ⟨by rw [unhide HX]; rfl, unhide HA⟩
  · have HX := hide ((unhide HR).trans (us_3 h))
    rw [h] at c0
    clear HR h
    go_wp2
    go_ret
    exact ⟨by rw [unhide HX]; rfl, unhide HA⟩
  · have HX := hide ((unhide HR).trans (us_4 h))
    rw [h] at c0
    clear HR h
    go_wp2
    go_ret
    exact ⟨by rw [unhide HX]; rfl, unhide HA⟩
  · have HX := hide ((unhide HR).trans (us_5 h))
    rw [h] at c0
    clear HR h
    go_wp2
    go_ret
    exact ⟨by rw [unhide HX]; rfl, unhide HA⟩
  · have HX := hide ((unhide HR).trans (us_6 h))
    rw [h] at c0
    clear HR h
    go_wp2
    go_ret
    exact ⟨by rw [unhide HX]; rfl, unhide HA⟩
  · have HX := hide ((unhide HR).trans (us_7 h))
    rw [h] at c0
    clear HR h
    go_wp2
    go_ret
    exact ⟨by rw [unhide HX]; rfl, unhide HA⟩
  · have HX := hide ((unhide HR).trans (us_8 h))
    have b1 : (q.k == 1) = false := by rw [beq_eq_false_iff_ne]; omega
    have b2 : (q.k == 2) = false := by rw [beq_eq_false_iff_ne]; omega
    have b3 : (q.k == 3) = false := by rw [beq_eq_false_iff_ne]; omega
    have b4 : (q.k == 4) = false := by rw [beq_eq_false_iff_ne]; omega
    have b5 : (q.k == 5) = false := by rw [beq_eq_false_iff_ne]; omega
    have b6 : (q.k == 6) = false := by rw [beq_eq_false_iff_ne]; omega
    have b7 : (q.k == 7) = false := by rw [beq_eq_false_iff_ne]; omega
    clear HR h
    go_wp2
    go_ret
    exact ⟨by rw [unhide HX]; rfl, unhide HA⟩

theorem as_1_1 (v : Value) (W : World) : (Instr.typeAssert (.iface 120 v) 20 120 true).run Tryd.prog W = .ok (.tuple #[v, .bool true]) W := by kernel_rfl
theorem as_2_1 (v : Value) (W : World) : (Instr.typeAssert (.iface 122 v) 20 120 true).run Tryd.prog W = .ok (.tuple #[.agg #[.int .i64 0], .bool false]) W := by kernel_rfl
theorem as_2_2 (v : Value) (W : World) : (Instr.typeAssert (.iface 122 v) 20 122 true).run Tryd.prog W = .ok (.tuple #[v, .bool true]) W := by kernel_rfl
theorem as_3_1 (v : Value) (W : World) : (Instr.typeAssert (.iface 123 v) 20 120 true).run Tryd.prog W = .ok (.tuple #[.agg #[.int .i64 0], .bool false]) W := by kernel_rfl
theorem as_3_2 (v : Value) (W : World) : (Instr.typeAssert (.iface 123 v) 20 122 true).run Tryd.prog W = .ok (.tuple #[.agg #[.int .i64 0, .int .i64 0], .bool false]) W := by kernel_rfl
theorem as_3_3 (v : Value) (W : World) : (Instr.typeAssert (.iface 123 v) 20 123 true).run Tryd.prog W = .ok (.tuple #[v, .bool true]) W := by kernel_rfl
theorem as_4_1 (v : Value) (W : World) : (Instr.typeAssert (.iface 125 v) 20 120 true).run Tryd.prog W = .ok (.tuple #[.agg #[.int .i64 0], .bool false]) W := by kernel_rfl
theorem as_4_2 (v : Value) (W : World) : (Instr.typeAssert (.iface 125 v) 20 122 true).run Tryd.prog W = .ok (.tuple #[.agg #[.int .i64 0, .int .i64 0], .bool false]) W := by kernel_rfl
theorem as_4_3 (v : Value) (W : World) : (Instr.typeAssert (.iface 125 v) 20 123 true).run Tryd.prog W = .ok (.tuple #[.agg #[.int .i64 0], .bool false]) W := by kernel_rfl
theorem as_4_4 (v : Value) (W : World) : (Instr.typeAssert (.iface 125 v) 20 125 true).run Tryd.prog W = .ok (.tuple #[v, .bool true]) W := by kernel_rfl
theorem as_5_1 (v : Value) (W : World) : (Instr.typeAssert (.iface 116 v) 20 120 true).run Tryd.prog W = .ok (.tuple #[.agg #[.int .i64 0], .bool false]) W := by kernel_rfl
theorem as_5_2 (v : Value) (W : World) : (Instr.typeAssert (.iface 116 v) 20 122 true).run Tryd.prog W = .ok (.tuple #[.agg #[.int .i64 0, .int .i64 0], .bool false]) W := by kernel_rfl
theorem as_5_3 (v : Value) (W : World) : (Instr.typeAssert (.iface 116 v) 20 123 true).run Tryd.prog W = .ok (.tuple #[.agg #[.int .i64 0], .bool false]) W := by kernel_rfl
theorem as_5_4 (v : Value) (W : World) : (Instr.typeAssert (.iface 116 v) 20 125 true).run Tryd.prog W = .ok (.tuple #[.agg #[.int .i64 0], .bool false]) W := by kernel_rfl
theorem as_5_5 (v : Value) (W : World) : (Instr.typeAssert (.iface 116 v) 20 116 true).run Tryd.prog W = .ok (.tuple #[v, .bool true]) W := by kernel_rfl
theorem as_6_1 (v : Value) (W : World) : (Instr.typeAssert (.iface 117 v) 20 120 true).run Tryd.prog W = .ok (.tuple #[.agg #[.int .i64 0], .bool false]) W := by kernel_rfl
theorem as_6_2 (v : Value) (W : World) : (Instr.typeAssert (.iface 117 v) 20 122 true).run Tryd.prog W = .ok (.tuple #[.agg #[.int .i64 0, .int .i64 0], .bool false]) W := by kernel_rfl
theorem as_6_3 (v : Value) (W : World) : (Instr.typeAssert (.iface 117 v) 20 123 true).run Tryd.prog W = .ok (.tuple #[.agg #[.int .i64 0], .bool false]) W := by kernel_rfl
theorem as_6_4 (v : Value) (W : World) : (Instr.typeAssert (.iface 117 v) 20 125 true).run Tryd.prog W = .ok (.tuple #[.agg #[.int .i64 0], .bool false]) W := by kernel_rfl
theorem as_6_5 (v : Value) (W : World) : (Instr.typeAssert (.iface 117 v) 20 116 true).run Tryd.prog W = .ok (.tuple #[.agg #[.string ⟨#[]⟩], .bool false]) W := by kernel_rfl
theorem as_6_6 (v : Value) (W : World) : (Instr.typeAssert (.iface 117 v) 20 117 true).run Tryd.prog W = .ok (.tuple #[v, .bool true]) W := by kernel_rfl
theorem as_7_1 (v : Value) (W : World) : (Instr.typeAssert (.iface 118 v) 20 120 true).run Tryd.prog W = .ok (.tuple #[.agg #[.int .i64 0], .bool false]) W := by kernel_rfl
theorem as_7_2 (v : Value) (W : World) : (Instr.typeAssert (.iface 118 v) 20 122 true).run Tryd.prog W = .ok (.tuple #[.agg #[.int .i64 0, .int .i64 0], .bool false]) W := by kernel_rfl
theorem as_7_3 (v : Value) (W : World) : (Instr.typeAssert (.iface 118 v) 20 123 true).run Tryd.prog W = .ok (.tuple #[.agg #[.int .i64 0], .bool false]) W := by kernel_rfl
theorem as_7_4 (v : Value) (W : World) : (Instr.typeAssert (.iface 118 v) 20 125 true).run Tryd.prog W = .ok (.tuple #[.agg #[.int .i64 0], .bool false]) W := by kernel_rfl
theorem as_7_5 (v : Value) (W : World) : (Instr.typeAssert (.iface 118 v) 20 116 true).run Tryd.prog W = .ok (.tuple #[.agg #[.string ⟨#[]⟩], .bool false]) W := by kernel_rfl
theorem as_7_6 (v : Value) (W : World) : (Instr.typeAssert (.iface 118 v) 20 117 true).run Tryd.prog W = .ok (.tuple #[.agg #[.string ⟨#[]⟩], .bool false]) W := by kernel_rfl
theorem as_7_7 (v : Value) (W : World) : (Instr.typeAssert (.iface 118 v) 20 118 true).run Tryd.prog W = .ok (.tuple #[v, .bool true]) W := by kernel_rfl
theorem as_8_1 (v : Value) (W : World) : (Instr.typeAssert (.iface 127 v) 20 120 true).run Tryd.prog W = .ok (.tuple #[.agg #[.int .i64 0], .bool false]) W := by kernel_rfl
theorem as_8_2 (v : Value) (W : World) : (Instr.typeAssert (.iface 127 v) 20 122 true).run Tryd.prog W = .ok (.tuple #[.agg #[.int .i64 0, .int .i64 0], .bool false]) W := by kernel_rfl
theorem as_8_3 (v : Value) (W : World) : (Instr.typeAssert (.iface 127 v) 20 123 true).run Tryd.prog W = .ok (.tuple #[.agg #[.int .i64 0], .bool false]) W := by kernel_rfl
theorem as_8_4 (v : Value) (W : World) : (Instr.typeAssert (.iface 127 v) 20 125 true).run Tryd.prog W = .ok (.tuple #[.agg #[.int .i64 0], .bool false]) W := by kernel_rfl
theorem as_8_5 (v : Value) (W : World) : (Instr.typeAssert (.iface 127 v) 20 116 true).run Tryd.prog W = .ok (.tuple #[.agg #[.string ⟨#[]⟩], .bool false]) W := by kernel_rfl
theorem as_8_6 (v : Value) (W : World) : (Instr.typeAssert (.iface 127 v) 20 117 true).run Tryd.prog W = .ok (.tuple #[.agg #[.string ⟨#[]⟩], .bool false]) W := by kernel_rfl
theorem as_8_7 (v : Value) (W : World) : (Instr.typeAssert (.iface 127 v) 20 118 true).run Tryd.prog W = .ok (.tuple #[.agg #[.string ⟨#[]⟩], .bool false]) W := by kernel_rfl
theorem res_q {fn : Func} {p : Tmp} {v0 v1 v2 v3 : Value} {x : Nat} {W : World} {tmps : Array Value} (h : fn.results = #[.cell p 27]) (hp : tmps.getD p undef = .pointer (some ⟨x, 0, none⟩)) (hv : W.heap[x]? = some (.cells #[v0, v1, v2, v3] 27 (0, 0))) :
    (results fn tmps).run Tryd.prog W = .ok (.agg #[v0, v1, v2, v3]) W := by
  obtain ⟨c0, c1, c2, c3⟩ := VarM.cells (t := 27) hv
  rw [Array.getD_eq_getD_getElem?] at hp
  simp [results, h, hp, go_sem, c0, c1, c2, c3]
/-- A request that is put. -/
theorem VarM.put4 {w W : World} {x t : Nat} {u0 u1 u2 u3 : Value} (h : VarM W x t u0 u1 u2 u3) (hb : Below w.heap.size w W) (hx : w.heap.size ≤ x) (v0 v1 v2 v3 : Value) :
    VarM ((((W.setCell ⟨x, 0, none⟩ v0).setCell ⟨x, 1, none⟩ v1).setCell ⟨x, 2, none⟩ v2).setCell ⟨x, 3, none⟩ v3) x t v0 v1 v2 v3 ∧ Below w.heap.size w ((((W.setCell ⟨x, 0, none⟩ v0).setCell ⟨x, 1, none⟩ v1).setCell ⟨x, 2, none⟩ v2).setCell ⟨x, 3, none⟩ v3) :=
  ⟨(((h.set0 _).set1 _).set2 _).set3 _, (((hb.setCell (p := ⟨x, 0, none⟩) hx _).setCell (p := ⟨x, 1, none⟩) hx _).setCell (p := ⟨x, 2, none⟩) hx _).setCell (p := ⟨x, 3, none⟩) hx _⟩

set_option maxHeartbeats 6400000 in
theorem plainReq_any (q : Rq) (w : World) : Calls Tryd.prog 84 #[usV q] w fun e w' => e = .returned (qV (plR q)) ∧ Below w.heap.size w w' := by
  have HA := hide (Joins.below_alloc1 w (.cells #[.int .i64 0, .int .i64 0, .int .i64 0, .string ⟨#[]⟩] 27))
  have HV := hide (VarM.new w 27 (.int .i64 0) (.int .i64 0) (.int .i64 0) (.string ⟨#[]⟩))
  obtain ⟨R, HR⟩ : ∃ R, Hid (R = qV (plR q)) := ⟨_, hide rfl⟩
  rw [← unhide HR]
  rcases rq_8 q with h | h | h | h | h | h | h | h
  · have HX := hide ((unhide HR).trans (pl_1 h))
    rw [us_1 h]
    clear HR h
    have a1 := as_1_1
    go_enter Tryd.func84, Tryd.ntmps84
    have HA2 := hide (fr (unhide HA) (Joins.below_alloc1 _ (.cells #[.int .i64 q.g] 120)))
    have HV2 := hide ((unhide HV).below (Joins.below_alloc1 _ (.cells #[.int .i64 q.g] 120)))
    have HC0 : Hid (((w.alloc (.cells #[.int .i64 0, .int .i64 0, .int .i64 0, .string ⟨#[]⟩] 27)).alloc (.cells #[.int .i64 q.g] 120)).cell? ⟨w.heap.size + 1, 0, none⟩ = some (.int .i64 q.g)) := hide (by simp)
    go_upto_region 4 with fail
    revert HC0
    revert HV2
    revert HA2
    generalize ((w.alloc _).alloc _) = W2
    intro HA2 HV2 HC0
    have k0 := unhide HC0
    have HP := hide ((unhide HV2).put4 (unhide HA2) (Nat.le_refl _) (.int .i64 1) (.int .i64 q.g) (.int .i64 0) (.string ⟨#[]⟩))
    obtain ⟨c0, c1, c2, c3⟩ := (unhide HV2).cells
    obtain ⟨f0, f1, f2, f3⟩ := (unhide HV2).free
    go_wp2
    refine bodyPost_ret (res_q Tryd.results84 rfl (unhide HP).1) rfl ⟨by rw [unhide HX], (unhide HP).2⟩
  · have HX := hide ((unhide HR).trans (pl_2 h))
    rw [us_2 h]
    clear HR h
    have a1 := as_2_1
    have a2 := as_2_2
    go_enter Tryd.func84, Tryd.ntmps84
    have HA2 := hide (fr (unhide HA) (Joins.below_alloc1 _ (.cells #[.int .i64 q.g, .int .i64 q.v] 122)))
    have HV2 := hide ((unhide HV).below (Joins.below_alloc1 _ (.cells #[.int .i64 q.g, .int .i64 q.v] 122)))
    have HC0 : Hid (((w.alloc (.cells #[.int .i64 0, .int .i64 0, .int .i64 0, .string ⟨#[]⟩] 27)).alloc (.cells #[.int .i64 q.g, .int .i64 q.v] 122)).cell? ⟨w.heap.size + 1, 0, none⟩ = some (.int .i64 q.g)) := hide (by simp)
    have HC1 : Hid (((w.alloc (.cells #[.int .i64 0, .int .i64 0, .int .i64 0, .string ⟨#[]⟩] 27)).alloc (.cells #[.int .i64 q.g, .int .i64 q.v] 122)).cell? ⟨w.heap.size + 1, 1, none⟩ = some (.int .i64 q.v)) := hide (by simp)
    go_upto_region 7 with fail
    revert HC0
    revert HC1
    revert HV2
    revert HA2
    generalize ((w.alloc _).alloc _) = W2
    intro HA2 HV2 HC1 HC0
    have k0 := unhide HC0
    have k1 := unhide HC1
    have HP := hide ((unhide HV2).put4 (unhide HA2) (Nat.le_refl _) (.int .i64 2) (.int .i64 q.g) (.int .i64 q.v) (.string ⟨#[]⟩))
    obtain ⟨c0, c1, c2, c3⟩ := (unhide HV2).cells
    obtain ⟨f0, f1, f2, f3⟩ := (unhide HV2).free
    go_wp2
    refine bodyPost_ret (res_q Tryd.results84 rfl (unhide HP).1) rfl ⟨by rw [unhide HX], (unhide HP).2⟩
  · have HX := hide ((unhide HR).trans (pl_3 h))
    rw [us_3 h]
    clear HR h
    have a1 := as_3_1
    have a2 := as_3_2
    have a3 := as_3_3
    go_enter Tryd.func84, Tryd.ntmps84
    have HA2 := hide (fr (unhide HA) (Joins.below_alloc1 _ (.cells #[.int .i64 q.g] 123)))
    have HV2 := hide ((unhide HV).below (Joins.below_alloc1 _ (.cells #[.int .i64 q.g] 123)))
    have HC0 : Hid (((w.alloc (.cells #[.int .i64 0, .int .i64 0, .int .i64 0, .string ⟨#[]⟩] 27)).alloc (.cells #[.int .i64 q.g] 123)).cell? ⟨w.heap.size + 1, 0, none⟩ = some (.int .i64 q.g)) := hide (by simp)
    go_upto_region 10 with fail
    revert HC0
    revert HV2
    revert HA2
    generalize ((w.alloc _).alloc _) = W2
    intro HA2 HV2 HC0
    have k0 := unhide HC0
    have HP := hide ((unhide HV2).put4 (unhide HA2) (Nat.le_refl _) (.int .i64 3) (.int .i64 q.g) (.int .i64 0) (.string ⟨#[]⟩))
    obtain ⟨c0, c1, c2, c3⟩ := (unhide HV2).cells
    obtain ⟨f0, f1, f2, f3⟩ := (unhide HV2).free
    go_wp2
    refine bodyPost_ret (res_q Tryd.results84 rfl (unhide HP).1) rfl ⟨by rw [unhide HX], (unhide HP).2⟩
  · have HX := hide ((unhide HR).trans (pl_4 h))
    rw [us_4 h]
    clear HR h
    have a1 := as_4_1
    have a2 := as_4_2
    have a3 := as_4_3
    have a4 := as_4_4
    go_enter Tryd.func84, Tryd.ntmps84
    have HA2 := hide (fr (unhide HA) (Joins.below_alloc1 _ (.cells #[.int .i64 q.g] 125)))
    have HV2 := hide ((unhide HV).below (Joins.below_alloc1 _ (.cells #[.int .i64 q.g] 125)))
    have HC0 : Hid (((w.alloc (.cells #[.int .i64 0, .int .i64 0, .int .i64 0, .string ⟨#[]⟩] 27)).alloc (.cells #[.int .i64 q.g] 125)).cell? ⟨w.heap.size + 1, 0, none⟩ = some (.int .i64 q.g)) := hide (by simp)
    go_upto_region 13 with fail
    revert HC0
    revert HV2
    revert HA2
    generalize ((w.alloc _).alloc _) = W2
    intro HA2 HV2 HC0
    have k0 := unhide HC0
    have HP := hide ((unhide HV2).put4 (unhide HA2) (Nat.le_refl _) (.int .i64 4) (.int .i64 q.g) (.int .i64 0) (.string ⟨#[]⟩))
    obtain ⟨c0, c1, c2, c3⟩ := (unhide HV2).cells
    obtain ⟨f0, f1, f2, f3⟩ := (unhide HV2).free
    go_wp2
    refine bodyPost_ret (res_q Tryd.results84 rfl (unhide HP).1) rfl ⟨by rw [unhide HX], (unhide HP).2⟩
  · have HX := hide ((unhide HR).trans (pl_5 h))
    rw [us_5 h]
    clear HR h
    have a1 := as_5_1
    have a2 := as_5_2
    have a3 := as_5_3
    have a4 := as_5_4
    have a5 := as_5_5
    go_enter Tryd.func84, Tryd.ntmps84
    have HA2 := hide (fr (unhide HA) (Joins.below_alloc1 _ (.cells #[.string q.n] 116)))
    have HV2 := hide ((unhide HV).below (Joins.below_alloc1 _ (.cells #[.string q.n] 116)))
    have HC0 : Hid (((w.alloc (.cells #[.int .i64 0, .int .i64 0, .int .i64 0, .string ⟨#[]⟩] 27)).alloc (.cells #[.string q.n] 116)).cell? ⟨w.heap.size + 1, 0, none⟩ = some (.string q.n)) := hide (by simp)
    go_upto_region 16 with fail
    revert HC0
    revert HV2
    revert HA2
    generalize ((w.alloc _).alloc _) = W2
    intro HA2 HV2 HC0
    have k0 := unhide HC0
    have HP := hide ((unhide HV2).put4 (unhide HA2) (Nat.le_refl _) (.int .i64 5) (.int .i64 0) (.int .i64 0) (.string q.n))
    obtain ⟨c0, c1, c2, c3⟩ := (unhide HV2).cells
    obtain ⟨f0, f1, f2, f3⟩ := (unhide HV2).free
    go_wp2
    refine bodyPost_ret (res_q Tryd.results84 rfl (unhide HP).1) rfl ⟨by rw [unhide HX], (unhide HP).2⟩
  · have HX := hide ((unhide HR).trans (pl_6 h))
    rw [us_6 h]
    clear HR h
    have a1 := as_6_1
    have a2 := as_6_2
    have a3 := as_6_3
    have a4 := as_6_4
    have a5 := as_6_5
    have a6 := as_6_6
    go_enter Tryd.func84, Tryd.ntmps84
    have HA2 := hide (fr (unhide HA) (Joins.below_alloc1 _ (.cells #[.string q.n] 117)))
    have HV2 := hide ((unhide HV).below (Joins.below_alloc1 _ (.cells #[.string q.n] 117)))
    have HC0 : Hid (((w.alloc (.cells #[.int .i64 0, .int .i64 0, .int .i64 0, .string ⟨#[]⟩] 27)).alloc (.cells #[.string q.n] 117)).cell? ⟨w.heap.size + 1, 0, none⟩ = some (.string q.n)) := hide (by simp)
    go_upto_region 19 with fail
    revert HC0
    revert HV2
    revert HA2
    generalize ((w.alloc _).alloc _) = W2
    intro HA2 HV2 HC0
    have k0 := unhide HC0
    have HP := hide ((unhide HV2).put4 (unhide HA2) (Nat.le_refl _) (.int .i64 6) (.int .i64 0) (.int .i64 0) (.string q.n))
    obtain ⟨c0, c1, c2, c3⟩ := (unhide HV2).cells
    obtain ⟨f0, f1, f2, f3⟩ := (unhide HV2).free
    go_wp2
    refine bodyPost_ret (res_q Tryd.results84 rfl (unhide HP).1) rfl ⟨by rw [unhide HX], (unhide HP).2⟩
  · have HX := hide ((unhide HR).trans (pl_7 h))
    rw [us_7 h]
    clear HR h
    have a1 := as_7_1
    have a2 := as_7_2
    have a3 := as_7_3
    have a4 := as_7_4
    have a5 := as_7_5
    have a6 := as_7_6
    have a7 := as_7_7
    go_enter Tryd.func84, Tryd.ntmps84
    have HA2 := hide (fr (unhide HA) (Joins.below_alloc1 _ (.cells #[.string q.n] 118)))
    have HV2 := hide ((unhide HV).below (Joins.below_alloc1 _ (.cells #[.string q.n] 118)))
    have HC0 : Hid (((w.alloc (.cells #[.int .i64 0, .int .i64 0, .int .i64 0, .string ⟨#[]⟩] 27)).alloc (.cells #[.string q.n] 118)).cell? ⟨w.heap.size + 1, 0, none⟩ = some (.string q.n)) := hide (by simp)
    go_upto_region 22 with fail
    revert HC0
    revert HV2
    revert HA2
    generalize ((w.alloc _).alloc _) = W2
    intro HA2 HV2 HC0
    have k0 := unhide HC0
    have HP := hide ((unhide HV2).put4 (unhide HA2) (Nat.le_refl _) (.int .i64 7) (.int .i64 0) (.int .i64 0) (.string q.n))
    obtain ⟨c0, c1, c2, c3⟩ := (unhide HV2).cells
    obtain ⟨f0, f1, f2, f3⟩ := (unhide HV2).free
    go_wp2
    refine bodyPost_ret (res_q Tryd.results84 rfl (unhide HP).1) rfl ⟨by rw [unhide HX], (unhide HP).2⟩
  · have HX := hide ((unhide HR).trans (pl_8 h))
    rw [us_8 h]
    clear HR h
    have a1 := as_8_1
    have a2 := as_8_2
    have a3 := as_8_3
    have a4 := as_8_4
    have a5 := as_8_5
    have a6 := as_8_6
    have a7 := as_8_7
    go_enter Tryd.func84, Tryd.ntmps84
    have HA2 := HA
    have HV2 := HV
    go_upto_region 23 with fail
    revert HV2
    revert HA2
    generalize (w.alloc _) = W2
    intro HA2 HV2
    have HP := hide ((unhide HV2).put4 (unhide HA2) (Nat.le_refl _) (.int .i64 8) (.int .i64 0) (.int .i64 0) (.string ⟨#[]⟩))
    obtain ⟨c0, c1, c2, c3⟩ := (unhide HV2).cells
    obtain ⟨f0, f1, f2, f3⟩ := (unhide HV2).free
    go_wp2
    refine bodyPost_ret (res_q Tryd.results84 rfl (unhide HP).1) rfl ⟨by rw [unhide HX], (unhide HP).2⟩

theorem eqR_run (a b : Rq) (W : World) : (binOp .eql 27 (qV a) (qV b)).run Tryd.prog W = .ok (.bool (eqR a b)) W := by
  have u1 := Tryd.underlying27
  have u2 := Tryd.underlying3
  have u3 := Tryd.underlying9
  rw [run_eql_struct, run_equalIn_struct W 9999 27 _ _ (by kernel_rfl) (by kernel_rfl)]
  cases h1 : a.k == b.k <;> cases h2 : a.g == b.g <;> cases h3 : a.v == b.v <;> cases h4 : a.n.toList == b.n.toList <;> simp [Op.eqFields, Program.fieldsOf, u1, u2, u3, part, sizeOf, typeInfo, go_sem, eqR, h1, h2, h3, h4]

end Go.Proofs.YtkndabnngdjcgaaDoor
