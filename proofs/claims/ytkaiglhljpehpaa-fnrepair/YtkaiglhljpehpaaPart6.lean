import Derived.Test.YtkaiglhljpehpaaPart1
import Derived.Test.YtkaiglhljpehpaaPart2
import Derived.Test.YtkaiglhljpehpaaPart5
import Derived.WalkKit
import Derived.Laws.OwnMore
import Derived.Test.YtkaiglhljpehpaaRows
import Derived.WalkSpells
import Derived.BigQuiet
import Derived.Deep.QuietTactic
import Derived.Deep.RegionWith
import Derived.KernelRfl
import Derived.LoopN
import Derived.Deep.CutRange
import Derived.Laws.BytesArg
import Derived.Test.YtkaiglhljpehpaaPart3

/- Images that are owned: their rows of numbers lie apart from each other. (Made ahead of stage 10.) -/
namespace Go.Proofs.Ytkaiglhljpehpaa
open Go.RowKit
set_option linter.unusedVariables false
set_option maxRecDepth 100000

/-- Rows of numbers of the call's own, none of which lies in another's block. -/
structure OwnA (w : World) (B : Nat) (rs : List (Value × List Int)) : Prop where
  own : ∀ r ∈ rs, OwnN w B r.1 r.2
  apart : rs.Pairwise (fun a b => ∀ g, Own a.1 g → ¬ Own b.1 g)
theorem OwnN.ge {w : World} {B : Nat} {v : Value} {xs : List Int} (h : OwnN w B v xs) : ∀ k, Own v k → B ≤ k ∧ k < w.heap.size := by
  obtain ⟨ao, cap, rfl, ho⟩ := h
  exact ho.ge
theorem OwnN.keep {S : Nat → Prop} {w w' : World} {B : Nat} {v : Value} {xs : List Int} (h : OwnN w B v xs) (hk : Keep S w w') (hs : ∀ g, Own v g → ¬ S g) : OwnN w' B v xs := by
  obtain ⟨ao, cap, rfl, ho⟩ := h
  exact ⟨ao, cap, rfl, ho.keep hk hs⟩
theorem OwnA.below {w w' : World} {B : Nat} {rs : List (Value × List Int)} (h : OwnA w B rs) (hb : Below w.heap.size w w') : OwnA w' B rs := ⟨fun r hr => (h.own r hr).below hb, h.apart⟩
theorem OwnA.keep {S : Nat → Prop} {w w' : World} {B : Nat} {rs : List (Value × List Int)} (h : OwnA w B rs) (hk : Keep S w w') (hs : ∀ r ∈ rs, ∀ g, Own r.1 g → ¬ S g) : OwnA w' B rs := ⟨fun r hr => (h.own r hr).keep hk (hs r hr), h.apart⟩
theorem OwnA.base {w : World} {B B' : Nat} {rs : List (Value × List Int)} (h : OwnA w B rs) (hB : B' ≤ B) : OwnA w B' rs := ⟨fun r hr => (h.own r hr).base hB, h.apart⟩
theorem OwnA.nil (w : World) (B : Nat) : OwnA w B [] := ⟨fun _ h => (by cases h), List.Pairwise.nil⟩
/-- A row that was made later lies apart from all. -/
theorem OwnA.snoc {w w' : World} {B : Nat} {rs : List (Value × List Int)} {v : Value} {xs : List Int} (h : OwnA w B rs) (hb : Below w.heap.size w w') (hv : OwnN w' w.heap.size v xs) (hB : B ≤ w.heap.size) : OwnA w' B (rs ++ [(v, xs)]) := by
  refine ⟨fun r hr => ?_, ?_⟩
  · rcases List.mem_append.1 hr with h1 | h1
    · exact (h.own r h1).below hb
    · rw [List.mem_singleton] at h1
      subst h1
      exact hv.base hB
  · rw [List.pairwise_append]
    refine ⟨h.apart, List.pairwise_singleton _ _, fun a ha b hb' g hg hg' => ?_⟩
    rw [List.mem_singleton] at hb'
    subst hb'
    have h1 := ((h.own a ha).ge g hg).2
    have h2 := (hv.ge g hg').1
    omega
/-- The cells of a row of snapshots, its tables' slices given. -/
def snC : List Snp → List Value → List Value
  | s :: ss, t :: ts => .string s.name :: t :: snC ss ts
  | _, _ => []
theorem snC_length : ∀ (ss : List Snp) (ts : List Value), ss.length = ts.length → (snC ss ts).length = ss.length * 2
  | [], [], _ => rfl
  | s :: ss, t :: ts, h => by
    have := snC_length ss ts (by simpa using h)
    simp only [snC, List.length_cons, this]; omega
theorem snC_snoc : ∀ (ss : List Snp) (ts : List Value) (s : Snp) (t : Value), ss.length = ts.length → snC (ss ++ [s]) (ts ++ [t]) = snC ss ts ++ [.string s.name, t]
  | [], [], s, t, _ => rfl
  | a :: ss, b :: ts, s, t, h => by
    have := snC_snoc ss ts s t (by simpa using h)
    simp only [List.cons_append, snC, this]
/-- Its rows. -/
def imRows (a : Im4) (m : Img) (ts : List Value) : List (Value × List Int) := (.slice a.ro m.refs.length a.rc, m.refs) :: (.slice a.tq m.table.length a.tc, m.table) :: (.slice a.dq m.data.length a.dc, m.data) :: ts.zip (m.snaps.map (·.table))
/-- A row as OwnR's, but that one of no element may have room. -/
def OwnS (w : World) (B e size : Nat) (v : Value) (n : Nat) (xs : List Value) : Prop := (n = 0 ∧ xs = [] ∧ ∃ ao c, v = .slice ao 0 c) ∨ (0 < n ∧ w.ownsRow B e size v n xs)
theorem OwnR.toS {w : World} {B e size n : Nat} {v : Value} {xs : List Value} (h : OwnR w B e size v n xs) : OwnS w B e size v n xs := h.imp (fun ⟨h1, h2, ao, h3⟩ => ⟨h1, h2, ao, 0, h3⟩) id
theorem OwnS.toR {w : World} {B e size n c : Nat} {ao : Option Addr} {xs : List Value} (h : OwnS w B e size (.slice ao n c) n xs) (hc : n = 0 → c = 0) : OwnR w B e size (.slice ao n c) n xs := h.imp (fun ⟨h1, h2, _⟩ => ⟨h1, h2, ao, by rw [h1, hc h1]⟩) id
/-- What holds of OwnR's rows, whatever room one of no element has. -/
theorem OwnS.as {w : World} {B e size n : Nat} {v : Value} {xs : List Value} (h : OwnS w B e size v n xs) : ∃ v', OwnR w B e size v' n xs ∧ (∀ k, Own v k ↔ Own v' k) := by
  rcases h with ⟨h1, h2, ao, c, rfl⟩ | h
  · exact ⟨.slice ao 0 0, .inl ⟨h1, h2, ao, rfl⟩, fun k => ⟨fun hk => absurd hk own_no, fun hk => absurd hk own_no⟩⟩
  · exact ⟨v, .inr h, fun _ => Iff.rfl⟩
theorem OwnS.keep {S : Nat → Prop} {w w' : World} {B e size n : Nat} {v : Value} {xs : List Value} (h : OwnS w B e size v n xs) (hk : Keep S w w') (hs : ∀ g, Own v g → ¬ S g) : OwnS w' B e size v n xs := by
  rcases h with h | h
  · exact .inl h
  · exact (OwnR.keep (.inr h) hk hs).toS
theorem OwnS.below {w w' : World} {B e size n : Nat} {v : Value} {xs : List Value} (h : OwnS w B e size v n xs) (hb : Below w.heap.size w w') : OwnS w' B e size v n xs :=
  h.keep (S := fun _ => False) (Keep.of_below hb) (fun _ _ h => h)
theorem OwnS.base {w : World} {B B' e size n : Nat} {v : Value} {xs : List Value} (h : OwnS w B e size v n xs) (hB : B' ≤ B) : OwnS w B' e size v n xs := by
  rcases h with h | h
  · exact .inl h
  · exact (OwnR.base (.inr h) hB).toS
theorem OwnS.ge {w : World} {B e size n : Nat} {v : Value} {xs : List Value} (h : OwnS w B e size v n xs) : ∀ k, Own v k → B ≤ k ∧ k < w.heap.size := fun k hk => by
  obtain ⟨v', h1, h2⟩ := h.as
  exact h1.ge k ((h2 k).1 hk)
theorem OwnS.other {w : World} {B e size n : Nat} {v : Value} {xs : List Value} (h : OwnS w B e size v n xs) {x t : Nat} {c : Array Value} {f : Nat × Nat} (hx : w.heap[x]? = some (.cells c t f)) (he : t ≠ e) : ¬ Own v x := fun hk => by
  obtain ⟨v', h1, h2⟩ := h.as
  exact h1.other hx he ((h2 x).1 hk)
theorem OwnS.setCell {w : World} {B e size n : Nat} {v : Value} {xs : List Value} (h : OwnS w B e size v n xs) {a : Addr} (ha : a.block < B) (u : Value) : OwnS (w.setCell a u) B e size v n xs := by
  rcases h with h | h
  · exact .inl h
  · exact (OwnR.setCell (.inr h) ha u).toS
theorem OwnS.row {w : World} {B e size n : Nat} {v : Value} {xs : List Value} (h : OwnS w B e size v n xs) (h0 : 0 < n) : w.ownsRow B e size v n xs := by
  rcases h with ⟨h1, _⟩ | h
  · omega
  · exact h.2
theorem own_apartS {w : World} {B B' e e' size size' n n' : Nat} {v v' : Value} {xs xs' : List Value} (h : OwnR w B e size v n xs) (h' : OwnS w B' e' size' v' n' xs') (he : e ≠ e') : ∀ g, Own v g → ¬ Own v' g := fun g hg hg' => by
  obtain ⟨v2, h1, h2⟩ := h'.as
  exact own_apart h h1 he g hg ((h2 g).1 hg')
theorem own_apartT {w : World} {B B' e e' size size' n n' : Nat} {v v' : Value} {xs xs' : List Value} (h : OwnS w B e size v n xs) (h' : OwnR w B' e' size' v' n' xs') (he : e ≠ e') : ∀ g, Own v g → ¬ Own v' g := fun g hg hg' => by
  obtain ⟨v2, h1, h2⟩ := h.as
  exact own_apart h1 h' he g ((h2 g).1 hg) hg'
/-- An image of the call's own. -/
structure OwnIm (w : World) (B : Nat) (a : Im4) (m : Img) (ts : List Value) : Prop where
  len : m.snaps.length = ts.length
  s : OwnS w B 55 2 (.slice a.so m.snaps.length a.sc) m.snaps.length (snC m.snaps ts)
  rows : OwnA w B (imRows a m ts)
/-- .. whose row of snapshots has no room where it has no element. -/
def OwnF (w : World) (B : Nat) (a : Im4) (m : Img) (ts : List Value) : Prop := OwnIm w B a m ts ∧ (m.snaps.length = 0 → a.sc = 0)
theorem OwnR.cap0 {w : World} {B e size n c : Nat} {ao : Option Addr} {xs : List Value} (h : OwnR w B e size (.slice ao n c) n xs) (h0 : n = 0) : c = 0 := by
  rcases h with ⟨_, _, ao', e0⟩ | ⟨hp, _⟩
  · simp only [Value.slice.injEq] at e0
    exact e0.2.2
  · omega
theorem OwnIm.below {w w' : World} {B : Nat} {a : Im4} {m : Img} {ts : List Value} (h : OwnIm w B a m ts) (hb : Below w.heap.size w w') : OwnIm w' B a m ts := ⟨h.len, h.s.below hb, h.rows.below hb⟩

end Go.Proofs.Ytkaiglhljpehpaa

/- Contract of the laws' comparison of lists of numbers (eqIntS). -/
namespace Go.Proofs.Ytkaiglhljpehpaa
open Go.RowKit
set_option linter.unusedVariables false
set_option maxRecDepth 100000

end Go.Proofs.Ytkaiglhljpehpaa

/- Contract of the laws' own copies of lists of numbers (toIntS). -/
namespace Go.Proofs.Ytkaiglhljpehpaa
open Go.RowKit
set_option linter.unusedVariables false
set_option maxRecDepth 100000

theorem infoN : (Try.prog.info? 3).map (fun i => (i.zero, i.size, i.bytes)) = some (some (.int .i64 0), 1, 8) := by kernel_rfl

end Go.Proofs.Ytkaiglhljpehpaa

/- Contracts of the laws' own copies of images: toSnap. (Made ahead of stage 10.) -/
namespace Go.Proofs.Ytkaiglhljpehpaa
open Go.RowKit
set_option linter.unusedVariables false
set_option maxRecDepth 100000

end Go.Proofs.Ytkaiglhljpehpaa

/- Contracts of the laws' own copies of images: toSnapS. (Made ahead of stage 10.) -/
namespace Go.Proofs.Ytkaiglhljpehpaa
open Go.RowKit
set_option linter.unusedVariables false
set_option maxRecDepth 100000

theorem infoSn : (Try.prog.info? 55).map (fun i => (i.zero, i.size, i.bytes)) = some (some (.agg #[.string ⟨#[]⟩, .slice none 0 0]), 2, 40) := by kernel_rfl
theorem sn_put2 {w : World} {B e size g n cap : Nat} {xs : List Value} (h : w.ownsRow B e size (.slice (some ⟨g, 0, none⟩) n cap) n xs) (i j : Nat) (u v : Value) :
    ((w.setCell ⟨g, i, none⟩ u).setCell ⟨g, j, none⟩ v).ownsRow B e size (.slice (some ⟨g, 0, none⟩) n cap) n ((xs.set i u).set j v) :=
  ((h.stored i u).1.stored j v).1
theorem sn_below2 {w0 w : World} {B g : Nat} (h : Below B w0 w) (hg : B ≤ g) (i j : Nat) (u v : Value) : Below B w0 ((w.setCell ⟨g, i, none⟩ u).setCell ⟨g, j, none⟩ v) :=
  (h.setCell (p := ⟨g, i, none⟩) hg u).setCell (p := ⟨g, j, none⟩) hg v
theorem OwnA.setCell {w : World} {B : Nat} {rs : List (Value × List Int)} (h : OwnA w B rs) {a : Addr} (ha : a.block < B) (u : Value) : OwnA (w.setCell a u) B rs := ⟨fun r hr => (h.own r hr).setCell ha u, h.apart⟩
theorem sn_take {ys : List Value} {ss : List Snp} {ts : List Value} {k : Nat} (hk : k < ss.length) (hl : ys.length = ss.length * 2) (ht : ts.length = k) (h : ys.take (k * 2) = snC (ss.take k) ts) (v : Value) :
    ((ys.set (k * 2) (.string ss[k].name)).set (k * 2 + 1) v).take ((k + 1) * 2) = snC (ss.take (k + 1)) (ts ++ [v]) := by
  rw [List.take_succ_eq_append_getElem hk, snC_snoc _ _ _ _ (by rw [List.length_take, ht]; omega), ← h]
  rw [show (k + 1) * 2 = k * 2 + 1 + 1 by omega, List.take_succ_eq_append_getElem (by rw [List.length_set, List.length_set]; omega), List.getElem_set_self, List.take_set_of_le (Nat.le_refl _), List.take_succ_eq_append_getElem (by rw [List.length_set]; omega), List.getElem_set_self, List.take_set_of_le (Nat.le_refl _), List.append_assoc]
  rfl
theorem sn_zip {ss : List Snp} {ts : List Value} {k : Nat} (hk : k < ss.length) (ht : ts.length = k) (v : Value) :
    (ts ++ [v]).zip ((ss.take (k + 1)).map (·.table)) = ts.zip ((ss.take k).map (·.table)) ++ [(v, ss[k].table)] := by
  rw [List.take_succ_eq_append_getElem hk, List.map_append, List.zip_append (by rw [List.length_map, List.length_take, ht]; omega)]
  rfl

end Go.Proofs.Ytkaiglhljpehpaa

/- Contracts of the laws' own copies of images: toImage. (Made ahead of stage 10.) -/
namespace Go.Proofs.Ytkaiglhljpehpaa
open Go.RowKit
set_option linter.unusedVariables false
set_option maxRecDepth 100000

/-- Rows that were made later lie apart from all. -/
theorem OwnA.append {w w' : World} {B : Nat} {rs qs : List (Value × List Int)} (h : OwnA w B rs) (hb : Below w.heap.size w w') (hv : OwnA w' w.heap.size qs) (hB : B ≤ w.heap.size) : OwnA w' B (rs ++ qs) := by
  refine ⟨fun r hr => ?_, ?_⟩
  · rcases List.mem_append.1 hr with h1 | h1
    · exact (h.own r h1).below hb
    · exact (hv.own r h1).base hB
  · rw [List.pairwise_append]
    refine ⟨h.apart, hv.apart, fun a ha b hb' g hg hg' => ?_⟩
    have h1 := ((h.own a ha).ge g hg).2
    have h2 := ((hv.own b hb').ge g hg').1
    omega
theorem OwnA.perm {w : World} {B : Nat} {rs qs : List (Value × List Int)} (h : OwnA w B rs) (hp : rs.Perm qs) : OwnA w B qs :=
  ⟨fun r hr => h.own r (hp.mem_iff.2 hr), (hp.pairwise_iff (fun {a b} hab g hb ha => hab g ha hb)).1 h.apart⟩
theorem OwnA.one {w : World} {B : Nat} {v : Value} {xs : List Int} (h : OwnN w B v xs) : OwnA w B [(v, xs)] := ⟨fun r hr => by rw [List.mem_singleton] at hr; subst hr; exact h, List.pairwise_singleton _ _⟩
/-- A variable of four lists. -/
def VarM (w : World) (x : Nat) (t : TypeId) (v0 v1 v2 v3 : Value) : Prop := w.heap[x]? = some (.cells #[v0, v1, v2, v3] t (0, 0))
theorem VarM.lt {w : World} {x t : Nat} {v0 v1 v2 v3 : Value} (k : VarM w x t v0 v1 v2 v3) : x < w.heap.size := (Array.getElem?_eq_some_iff.1 k).1
theorem VarM.cells {w : World} {x t : Nat} {v0 v1 v2 v3 : Value} (k : VarM w x t v0 v1 v2 v3) : w.cell? ⟨x, 0, none⟩ = some v0 ∧ w.cell? ⟨x, 1, none⟩ = some v1 ∧ w.cell? ⟨x, 2, none⟩ = some v2 ∧ w.cell? ⟨x, 3, none⟩ = some v3 := ⟨by rw [Joins.cell_of_block k]; rfl, by rw [Joins.cell_of_block k]; rfl, by rw [Joins.cell_of_block k]; rfl, by rw [Joins.cell_of_block k]; rfl⟩
theorem VarM.free {w : World} {x t : Nat} {v0 v1 v2 v3 : Value} (k : VarM w x t v0 v1 v2 v3) : w.frozen? ⟨x, 0, none⟩ = false ∧ w.frozen? ⟨x, 1, none⟩ = false ∧ w.frozen? ⟨x, 2, none⟩ = false ∧ w.frozen? ⟨x, 3, none⟩ = false := ⟨Joins.unfrozen_of_block k 0, Joins.unfrozen_of_block k 1, Joins.unfrozen_of_block k 2, Joins.unfrozen_of_block k 3⟩
theorem VarM.below {w w' : World} {x t : Nat} {v0 v1 v2 v3 : Value} (k : VarM w x t v0 v1 v2 v3) (hb : Below w.heap.size w w') : VarM w' x t v0 v1 v2 v3 := by
  unfold VarM; rw [hb.block x k.lt]; exact k
theorem VarM.new (w : World) (t : TypeId) (v0 v1 v2 v3 : Value) : VarM (w.alloc (.cells #[v0, v1, v2, v3] t)) w.heap.size t v0 v1 v2 v3 := heap_alloc_new w _
theorem VarM.other {w : World} {x t : Nat} {v0 v1 v2 v3 : Value} (h : VarM w x t v0 v1 v2 v3) {p : Addr} (hp : x ≠ p.block) (u : Value) : VarM (w.setCell p u) x t v0 v1 v2 v3 := by
  unfold VarM; rw [Below.heap_setCell w p u x hp]; exact h
theorem VarM.set0 {w : World} {x t : Nat} {v0 v1 v2 v3 : Value} (h : VarM w x t v0 v1 v2 v3) (u : Value) : VarM (w.setCell ⟨x, 0, none⟩ u) x t u v1 v2 v3 := Joins.block_setCell (i := 0) h u
theorem VarM.set1 {w : World} {x t : Nat} {v0 v1 v2 v3 : Value} (h : VarM w x t v0 v1 v2 v3) (u : Value) : VarM (w.setCell ⟨x, 1, none⟩ u) x t v0 u v2 v3 := Joins.block_setCell (i := 1) h u
theorem VarM.set2 {w : World} {x t : Nat} {v0 v1 v2 v3 : Value} (h : VarM w x t v0 v1 v2 v3) (u : Value) : VarM (w.setCell ⟨x, 2, none⟩ u) x t v0 v1 u v3 := Joins.block_setCell (i := 2) h u
theorem VarM.set3 {w : World} {x t : Nat} {v0 v1 v2 v3 : Value} (h : VarM w x t v0 v1 v2 v3) (u : Value) : VarM (w.setCell ⟨x, 3, none⟩ u) x t v0 v1 v2 u := Joins.block_setCell (i := 3) h u
theorem VarM.at {w : World} {x y t : Nat} {v0 v1 v2 v3 : Value} (h : VarM w x t v0 v1 v2 v3) (e : x = y) : VarM w y t v0 v1 v2 v3 := e ▸ h
end Go.Proofs.Ytkaiglhljpehpaa

/- Contracts of the laws' marks: markText, markDisk, heldDisk. -/
namespace Go.Proofs.Ytkaiglhljpehpaa
open Go.RowKit
set_option linter.unusedVariables false
set_option maxRecDepth 100000

/-- The decimal digits of a number, as bytes; none of 0. -/
def digsF : Nat → Nat → List UInt8
  | 0, _ => []
  | f + 1, n => if n = 0 then [] else digsF f (n / 10) ++ [UInt8.ofNat (48 + n % 10)]
theorem digsF_more : ∀ (f n g : Nat), n ≤ f → n ≤ g → digsF f n = digsF g n
  | 0, n, g, h, _ => by
    have : n = 0 := by omega
    subst this
    cases g <;> simp [digsF]
  | f + 1, n, 0, _, h => by
    have : n = 0 := by omega
    subst this
    simp [digsF]
  | f + 1, n, g + 1, h1, h2 => by
    by_cases h : n = 0
    · subst h; simp [digsF]
    · rw [digsF, digsF, if_neg h, if_neg h, digsF_more f (n / 10) g (by omega) (by omega)]
def digs (n : Nat) : List UInt8 := digsF n n
theorem digs_zero : digs 0 = [] := rfl
theorem digs_pos {n : Nat} (h : n ≠ 0) : digs n = digs (n / 10) ++ [UInt8.ofNat (48 + n % 10)] := by
  obtain ⟨m, rfl⟩ : ∃ m, n = m + 1 := ⟨n - 1, by omega⟩
  rw [digs, digsF, if_neg h, digs, digsF_more m ((m + 1) / 10) ((m + 1) / 10) (by omega) (Nat.le_refl _)]
theorem ret_str1 {a b : ByteArray} (h : a = b) : Ending.returned (.string a) = .returned (.string b) := by rw [h]
def mtB (k : Nat) : ByteArray := ⟨(109 :: digs k).toArray⟩

/-- The marks of a row of texts, of a row of writes. -/
def mkS (k n : Nat) : List ByteArray := (List.range n).map fun i => mtB (k + i)
def mkI (k n : Nat) : List Wr := (List.range n).map fun i => ⟨(k + 3 * i : Nat), (k + 3 * i + 1 : Nat), mtB (k + 3 * i + 2)⟩
theorem mkS_length (k n : Nat) : (mkS k n).length = n := by simp [mkS]
theorem mkI_length (k n : Nat) : (mkI k n).length = n := by simp [mkI]
theorem mkS_get {k n j : Nat} (h : j < n) : (strV (mkS k n))[j]? = some (.string (mtB (k + j))) := by simp [strV, mkS, h]
theorem mkI_get {k n j : Nat} (h : j < (mkI k n).length) : (mkI k n)[j] = ⟨(k + 3 * j : Nat), (k + 3 * j + 1 : Nat), mtB (k + 3 * j + 2)⟩ := by simp [mkI]

theorem mk_take {ys : List Value} {k n j : Nat} (hj : j < n) (hl : ys.length = n * 3) (h : ys.take (j * 3) = (ioV (mkI k n)).take (j * 3)) :
    (((ys.set (j * 3) (.int .i64 ((k : Int) + 3 * (j : Int)))).set (j * 3 + 1) (.int .i64 ((k : Int) + 3 * (j : Int) + 1))).set (j * 3 + 2) (.string (mtB (k + 3 * j + 2)))).take ((j + 1) * 3) = (ioV (mkI k n)).take ((j + 1) * 3) := by
  have hj' : j < (mkI k n).length := by rw [mkI_length]; exact hj
  have e := io_take hj' (by rw [mkI_length]; exact hl) h
  have e0 : (mkI k n)[j].host = (k : Int) + 3 * (j : Int) := by rw [mkI_get hj']; simp
  have e1 : (mkI k n)[j].at_ = (k : Int) + 3 * (j : Int) + 1 := by rw [mkI_get hj']; simp
  have e2 : (mkI k n)[j].data = mtB (k + 3 * j + 2) := by rw [mkI_get hj']
  rw [e0, e1, e2] at e
  exact e

theorem mkI_cells {k n j : Nat} (hj : j < n) : (ioV (mkI k n))[j * 3]? = some (.int .i64 ((k : Int) + 3 * (j : Int))) ∧ (ioV (mkI k n))[j * 3 + 1]? = some (.int .i64 ((k : Int) + 3 * (j : Int) + 1)) ∧ (ioV (mkI k n))[j * 3 + 2]? = some (.string (mtB (k + 3 * j + 2))) := by
  have hj' : j < (mkI k n).length := by rw [mkI_length]; exact hj
  have e := ioV_get hj'
  have e0 : (mkI k n)[j].host = (k : Int) + 3 * (j : Int) := by rw [mkI_get hj']; simp
  have e1 : (mkI k n)[j].at_ = (k : Int) + 3 * (j : Int) + 1 := by rw [mkI_get hj']; simp
  have e2 : (mkI k n)[j].data = mtB (k + 3 * j + 2) := by rw [mkI_get hj']
  rw [e0, e1, e2] at e
  exact e

end Go.Proofs.Ytkaiglhljpehpaa

/- Contracts of the laws' marks on lists of numbers: markIntS, heldIntS. -/
namespace Go.Proofs.Ytkaiglhljpehpaa
open Go.RowKit
set_option linter.unusedVariables false
set_option maxRecDepth 100000

/-- The marks of a row of numbers. -/
def mkN (k n : Nat) : List Int := (List.range n).map fun i => ((k + i : Nat) : Int)
theorem mkN_length (k n : Nat) : (mkN k n).length = n := by simp [mkN]
theorem mkN_get {k n j : Nat} (h : j < n) : (intV (mkN k n))[j]? = some (.int .i64 ((k + j : Nat) : Int)) := by simp [intV, mkN, h]

end Go.Proofs.Ytkaiglhljpehpaa

/- The laws' marks on images: what they are, plainly. (Made ahead of stage 10.) -/
namespace Go.Proofs.Ytkaiglhljpehpaa
open Go.RowKit
set_option linter.unusedVariables false
set_option maxRecDepth 100000

/-- How many marks a row of snapshots takes. -/
def snK (ss : List Snp) : Nat := (ss.map (fun s => 1 + s.table.length)).sum
theorem snK_take {ss : List Snp} {k : Nat} (h : k < ss.length) : snK (ss.take (k + 1)) = snK (ss.take k) + (1 + ss[k].table.length) := by
  unfold snK
  rw [List.take_succ_eq_append_getElem h, List.map_append, List.sum_append]; simp
theorem snK_le (ss : List Snp) (n : Nat) : snK (ss.take n) ≤ snK ss := by
  have h2 : snK ss = snK (ss.take n) + snK (ss.drop n) := by
    unfold snK
    rw [← List.sum_append, ← List.map_append, List.take_append_drop]
  omega
/-- The marks of one, and of a row. -/
def mk1 (k : Nat) (s : Snp) : Snp := ⟨mtB k, mkN (k + 1) s.table.length⟩
def mkSn : Nat → List Snp → List Snp
  | _, [] => []
  | k, s :: ss => mk1 k s :: mkSn (k + (1 + s.table.length)) ss
theorem mkSn_length : ∀ (k : Nat) (ss : List Snp), (mkSn k ss).length = ss.length
  | _, [] => rfl
  | k, s :: ss => by rw [mkSn, List.length_cons, mkSn_length, List.length_cons]
theorem mkSn_snoc : ∀ (k : Nat) (ss : List Snp) (s : Snp), mkSn k (ss ++ [s]) = mkSn k ss ++ [mk1 (k + snK ss) s]
  | k, [], s => rfl
  | k, x :: ss, s => by
    rw [List.cons_append, mkSn, mkSn_snoc, mkSn, List.cons_append]
    congr 4
    simp only [snK, List.map_cons, List.sum_cons]; omega
/-- As far as its first ones have been marked. -/
def snMid (k : Nat) (ss : List Snp) (j : Nat) : List Snp := mkSn k (ss.take j) ++ ss.drop j
theorem snMid_zero (k : Nat) (ss : List Snp) : snMid k ss 0 = ss := by simp [snMid, mkSn]
theorem snMid_all (k : Nat) (ss : List Snp) : snMid k ss ss.length = mkSn k ss := by simp [snMid]
theorem snMid_length (k : Nat) (ss : List Snp) (j : Nat) : (snMid k ss j).length = ss.length := by
  rw [snMid, List.length_append, mkSn_length, List.length_take, List.length_drop]; omega
theorem snMid_get {k : Nat} {ss : List Snp} {j : Nat} (h : j < ss.length) : (snMid k ss j)[j]? = some ss[j] := by
  rw [snMid, List.getElem?_append_right (by rw [mkSn_length, List.length_take]; omega), mkSn_length, List.length_take, Nat.min_eq_left (by omega), Nat.sub_self, List.getElem?_drop, Nat.add_zero, List.getElem?_eq_getElem h]
theorem snMid_succ {k : Nat} {ss : List Snp} {j : Nat} (h : j < ss.length) : (snMid k ss j).set j (mk1 (k + snK (ss.take j)) ss[j]) = snMid k ss (j + 1) := by
  rw [snMid, snMid, List.take_succ_eq_append_getElem h, mkSn_snoc, List.set_append_right _ _ (by rw [mkSn_length, List.length_take]; omega), mkSn_length, List.length_take, Nat.min_eq_left (by omega), Nat.sub_self, List.drop_eq_getElem_cons h, List.set_cons_zero, List.append_assoc]
  rfl
theorem snC_get : ∀ {cs : List Snp} {ts : List Value} {j : Nat} {s : Snp} {t : Value}, cs[j]? = some s → ts[j]? = some t → (snC cs ts)[j * 2]? = some (.string s.name) ∧ (snC cs ts)[j * 2 + 1]? = some t
  | [], _, _, _, _, h, _ => by simp at h
  | _ :: _, [], _, _, _, _, h => by simp at h
  | c :: cs, b :: ts, 0, s, t, h, h' => by
    simp at h h'
    subst h; subst h'
    exact ⟨rfl, rfl⟩
  | c :: cs, b :: ts, j + 1, s, t, h, h' => by
    rw [List.getElem?_cons_succ] at h h'
    have := snC_get h h'
    rw [show (j + 1) * 2 = j * 2 + 1 + 1 by omega]
    exact this
theorem snC_set : ∀ (cs : List Snp) (ts : List Value) (j : Nat) (s : Snp), j < ts.length → snC (cs.set j s) ts = (snC cs ts).set (j * 2) (.string s.name)
  | [], [], _, _, _ => rfl
  | [], _ :: _, _, _, _ => rfl
  | c :: cs, [], j, s, h => by simp at h
  | c :: cs, b :: ts, 0, s, _ => rfl
  | c :: cs, b :: ts, j + 1, s, h => by
    rw [List.set_cons_succ, snC, snC, snC_set cs ts j s (by simpa using h), show (j + 1) * 2 = j * 2 + 1 + 1 by omega]
    rfl
theorem zip_set1 : ∀ (ts : List Value) (cs : List Snp) (j : Nat) (s : Snp) (t : Value), ts[j]? = some t → ts.zip ((cs.set j s).map (·.table)) = (ts.zip (cs.map (·.table))).set j (t, s.table)
  | [], cs, j, s, t, h => by simp at h
  | b :: ts, [], j, s, t, h => by simp
  | b :: ts, c :: cs, 0, s, t, h => by
    simp at h
    subst h
    rfl
  | b :: ts, c :: cs, j + 1, s, t, h => by
    rw [List.getElem?_cons_succ] at h
    have := zip_set1 ts cs j s t h
    rw [List.set_cons_succ, List.map_cons, List.zip_cons_cons, this]
    rfl
theorem OwnA.turn {w w' : World} {B : Nat} {rs : List (Value × List Int)} {j : Nat} {v : Value} {xs ys : List Int} (h : OwnA w B rs) (hj : rs[j]? = some (v, xs)) (hk : Keep (Own v) w w') (hn : OwnN w' B v ys) : OwnA w' B (rs.set j (v, ys)) := by
  obtain ⟨hjl, hje⟩ := List.getElem?_eq_some_iff.1 hj
  refine ⟨fun r hr => ?_, ?_⟩
  · obtain ⟨i, hi, rfl⟩ := List.mem_iff_getElem.1 hr
    rw [List.length_set] at hi
    rw [List.getElem_set]
    split
    · exact hn
    · rename_i hne
      refine (h.own _ (List.getElem_mem hi)).keep hk (fun g hg hv => ?_)
      have hp := List.pairwise_iff_getElem.1 h.apart
      rcases Nat.lt_or_gt_of_ne hne with hlt | hlt
      · exact hp j i hjl hi hlt g (by rw [hje]; exact hv) hg
      · exact hp i j hi hjl hlt g hg (by rw [hje]; exact hv)
  · have e : (rs.set j (v, ys)).map Prod.fst = rs.map Prod.fst := by
      rw [List.map_set]
      have : (rs.map Prod.fst)[j]'(by simpa using hjl) = v := by rw [List.getElem_map, hje]
      conv => lhs; rw [show (v, ys).1 = (rs.map Prod.fst)[j]'(by simpa using hjl) from this.symm]
      rw [List.set_getElem_self]
    have hp := List.pairwise_map (f := Prod.fst) (R := fun a b => ∀ g, Own a g → ¬ Own b g) |>.2 h.apart
    rw [← e] at hp
    exact List.pairwise_map.1 hp
theorem OwnR.row {w : World} {B e size n : Nat} {v : Value} {xs : List Value} (h : OwnR w B e size v n xs) (hp : 0 < n) : w.ownsRow B e size v n xs := by
  rcases h with ⟨h0, _⟩ | ⟨_, h⟩
  · omega
  · exact h

end Go.Proofs.Ytkaiglhljpehpaa

/- Contracts of the laws' marks on images: markSnapS, heldSnapS. (Made ahead of stage 10.) -/
namespace Go.Proofs.Ytkaiglhljpehpaa
open Go.RowKit
set_option linter.unusedVariables false
set_option maxRecDepth 100000

theorem mkSn_get : ∀ {k : Nat} {ss : List Snp} {j : Nat} (h : j < ss.length), (mkSn k ss)[j]? = some (mk1 (k + snK (ss.take j)) ss[j])
  | k, [], j, h => by simp at h
  | k, s :: ss, 0, h => by simp [mkSn, snK]
  | k, s :: ss, j + 1, h => by
    rw [mkSn, List.getElem?_cons_succ, mkSn_get (by simpa using h)]
    simp only [List.take_succ_cons, List.getElem_cons_succ, snK, List.map_cons, List.sum_cons, Nat.add_assoc]

end Go.Proofs.Ytkaiglhljpehpaa

/- Contracts of the laws' marks on images: markImage, heldImage. (Made ahead of stage 10.) -/
namespace Go.Proofs.Ytkaiglhljpehpaa
open Go.RowKit
set_option linter.unusedVariables false
set_option maxRecDepth 100000

/-- An image that was marked, and how many marks it takes. -/
def mkIm (k : Nat) (m : Img) : Img := ⟨mkN k m.refs.length, mkN (k + m.refs.length) m.table.length, mkSn (k + m.refs.length + m.table.length) m.snaps, mkN (k + m.refs.length + m.table.length + snK m.snaps) m.data.length⟩
def imK (m : Img) : Nat := m.refs.length + m.table.length + snK m.snaps + m.data.length
theorem OwnN.row {w : World} {B : Nat} {v : Value} {xs : List Int} (h : OwnN w B v xs) : OwnR w B 3 1 v xs.length (intV xs) := by
  obtain ⟨qo, qa, rfl, ho⟩ := h
  exact ho
theorem OwnN.mk' {w : World} {B n c : Nat} {ao : Option Addr} {xs : List Int} (h : OwnR w B 3 1 (.slice ao n c) n (intV xs)) (hn : xs.length = n) : OwnN w B (.slice ao n c) xs := by
  subst hn
  exact ⟨ao, c, rfl, h⟩
theorem blk_belowI {w w' : World} {k : Nat} {o : Obj} (h : w.heap[k]? = some o) (hb : Below w.heap.size w w') : w'.heap[k]? = some o := (hb.block k (Array.getElem?_eq_some_iff.1 h).1).trans h
/-- The rows behind the first three are others now. -/
theorem OwnA.retail {w w' : World} {B : Nat} {r0 r1 r2 : Value × List Int} {qs qs' : List (Value × List Int)} {S : Nat → Prop} (h : OwnA w B (r0 :: r1 :: r2 :: qs)) (hk : Keep S w w') (hs : ∀ r ∈ [r0, r1, r2], ∀ g, Own r.1 g → ¬ S g) (hq : OwnA w' B qs') (he : qs'.map Prod.fst = qs.map Prod.fst) : OwnA w' B (r0 :: r1 :: r2 :: qs') := by
  refine ⟨fun r hr => ?_, ?_⟩
  · simp only [List.mem_cons] at hr
    rcases hr with e | e | e | hr
    · subst e; exact (h.own _ (by simp)).keep hk (hs _ (by simp))
    · subst e; exact (h.own _ (by simp)).keep hk (hs _ (by simp))
    · subst e; exact (h.own _ (by simp)).keep hk (hs _ (by simp))
    · exact hq.own r hr
  · have hp := List.pairwise_map (f := Prod.fst) (R := fun a b => ∀ g, Own a g → ¬ Own b g) |>.2 h.apart
    refine List.pairwise_map (f := Prod.fst) (R := fun a b => ∀ g, Own a g → ¬ Own b g) |>.1 ?_
    simp only [List.map_cons, he] at hp ⊢
    exact hp
theorem zip_fst {α β : Type} : ∀ (xs : List α) (ys : List β), xs.length = ys.length → (xs.zip ys).map Prod.fst = xs
  | [], [], _ => rfl
  | x :: xs, y :: ys, h => by rw [List.zip_cons_cons, List.map_cons, zip_fst xs ys (by simpa using h)]
/-- A row of numbers lies apart from the tables behind. -/
theorem OwnA.apart3 {w : World} {B : Nat} {r0 r1 r2 : Value × List Int} {ts : List Value} {xs : List (List Int)} (h : OwnA w B (r0 :: r1 :: r2 :: ts.zip xs)) (hl : ts.length = xs.length) : ∀ r ∈ [r0, r1, r2], ∀ g, Own r.1 g → ¬ ∃ t ∈ ts, Own t g := by
  intro r hr g hg ⟨t, ht, hx⟩
  have hm : t ∈ (ts.zip xs).map Prod.fst := by rw [zip_fst _ _ hl]; exact ht
  obtain ⟨p, hp, rfl⟩ := List.mem_map.1 hm
  have ha := h.apart
  simp only [List.pairwise_cons, List.mem_cons] at ha
  simp only [List.mem_cons, List.not_mem_nil, or_false] at hr
  rcases hr with rfl | rfl | rfl
  · exact ha.1 p (.inr (.inr hp)) g hg hx
  · exact ha.2.1 p (.inr hp) g hg hx
  · exact ha.2.2.1 p hp g hg hx
theorem OwnA.tail {w : World} {B : Nat} {r0 r1 r2 : Value × List Int} {qs : List (Value × List Int)} (h : OwnA w B (r0 :: r1 :: r2 :: qs)) : OwnA w B qs := by
  refine ⟨fun r hr => h.own r (by simp [hr]), ?_⟩
  have ha := h.apart
  simp only [List.pairwise_cons] at ha
  exact ha.2.2.2
/-- The blocks that an image has. -/
def ImB (a : Im4) (m : Img) (ts : List Value) (g : Nat) : Prop := Own (.slice a.ro m.refs.length a.rc) g ∨ Own (.slice a.tq m.table.length a.tc) g ∨ Own (.slice a.dq m.data.length a.dc) g ∨ Own (.slice a.so m.snaps.length a.sc) g ∨ ∃ t ∈ ts, Own t g
theorem OwnIm.ge {w : World} {B : Nat} {a : Im4} {m : Img} {ts : List Value} (h : OwnIm w B a m ts) : ∀ g, ImB a m ts g → B ≤ g ∧ g < w.heap.size := by
  intro g hg
  rcases hg with h1 | h1 | h1 | h1 | ⟨t, ht, h1⟩
  · exact (h.rows.own (.slice a.ro m.refs.length a.rc, m.refs) (by simp [imRows])).ge g h1
  · exact (h.rows.own (.slice a.tq m.table.length a.tc, m.table) (by simp [imRows])).ge g h1
  · exact (h.rows.own (.slice a.dq m.data.length a.dc, m.data) (by simp [imRows])).ge g h1
  · exact h.s.ge g h1
  · have hm : t ∈ (ts.zip (m.snaps.map (·.table))).map Prod.fst := by rw [zip_fst _ _ (by rw [List.length_map, h.len])]; exact ht
    obtain ⟨p, hp, rfl⟩ := List.mem_map.1 hm
    exact (h.rows.own p (by simp [imRows, hp])).ge g h1
theorem OwnIm.keep {w w' : World} {B : Nat} {a : Im4} {m : Img} {ts : List Value} {S : Nat → Prop} (h : OwnIm w B a m ts) (hk : Keep S w w') (hs : ∀ g, ImB a m ts g → ¬ S g) : OwnIm w' B a m ts := by
  refine ⟨h.len, h.s.keep hk (fun g hg => hs g (.inr (.inr (.inr (.inl hg))))), h.rows.keep hk (fun r hr g hg => hs g ?_)⟩
  unfold imRows at hr
  simp only [List.mem_cons] at hr
  rcases hr with rfl | rfl | rfl | hr
  · exact .inl hg
  · exact .inr (.inl hg)
  · exact .inr (.inr (.inl hg))
  · exact .inr (.inr (.inr (.inr ⟨r.1, (List.of_mem_zip (a := r.1) (b := r.2) hr).1, hg⟩)))
theorem OwnIm.base {w : World} {B B' : Nat} {a : Im4} {m : Img} {ts : List Value} (h : OwnIm w B a m ts) (hB : B' ≤ B) : OwnIm w B' a m ts := ⟨h.len, h.s.base hB, h.rows.base hB⟩

end Go.Proofs.Ytkaiglhljpehpaa

/- Contract of impl.listFault. -/
namespace Go.Proofs.Ytkaiglhljpehpaa
open Go.RowKit
set_option linter.unusedVariables false
set_option maxRecDepth 100000

end Go.Proofs.Ytkaiglhljpehpaa

/- What PackInts answers, plain. -/
namespace Go.Proofs.Ytkaiglhljpehpaa
set_option linter.unusedVariables false

/-- The answer's text. -/
def packT (xs : List Int) : ByteArray := if listC xs = 0 then packS xs else ⟨#[]⟩
theorem packT_ok {xs : List Int} (h : listC xs = 0) : packT xs = packS xs := if_pos h
theorem packT_no {xs : List Int} (h : listC xs ≠ 0) : packT xs = ⟨#[]⟩ := if_neg h
theorem ret_si {a b : ByteArray} {c d : Int} (h : a = b) (k : c = d) : Ending.returned (.tuple #[.string a, .int .i64 c]) = .returned (.tuple #[.string b, .int .i64 d]) := by rw [h, k]

end Go.Proofs.Ytkaiglhljpehpaa

/- Contracts of the model's tables: TableOK, EncodeTable, DecodeTable, EntryOf, ResizeTable, ClustersOf. -/
namespace Go.Proofs.Ytkaiglhljpehpaa
open Go.RowKit
set_option linter.unusedVariables false
set_option maxRecDepth 100000

set_option maxHeartbeats 800000 in
theorem tableOK_spec (ao : Option Addr) (cap : Nat) (xs : List Int) (w : World) (hl : xs.length ≤ maxLen) (hc : Is w ao xs) :
    Calls Try.prog 73 #[.slice ao xs.length cap] w fun e w' => e = .returned (.bool (tbB xs)) ∧ w' = w := by
  have HC := hide hc
  clear hc
  unfold maxLen at hl
  by_cases hlong : 4096 < xs.length
  · have HF := hide (tbB_nolen (xs := xs) (by omega))
    go_enter Try.func73, Try.ntmps73
    go_wp2
    go_ret
    exact ⟨ret_bool (unhide HF).symm, rfl⟩
  go_enter Try.func73, Try.ntmps73
  go_wp2
  go_loop [3] (fun i => ∃ k : Nat, k ≤ xs.length ∧ i = .int .i64 k ∧ Hid (∀ j (h : j < xs.length), j < k → ent1 xs[j] = true)) (fun i => xs.length - (intOf i).toNat)
  case atStart => exact ⟨0, Nat.zero_le _, rfl, hide (fun j _ h => by omega)⟩
  case round =>
    obtain ⟨k, hk, rfl, HA⟩ := hrel
    by_cases hlt : k < xs.length
    · obtain ⟨b, off, rfl, hc⟩ := unhide HC k hlt
      by_cases hn : ent1 xs[k] = true
      · have HN := hide (all_succ hlt (unhide HA) hn)
        have hn' : betw xs[k] 0 25 = true := hn
        clear hn
        go_wp2_with (go_at_call 75; refine (in_any _ _ _ _).mono ?_; rintro e w' ⟨rfl, rfl⟩)
        go_round
        case rel => exact ⟨k + 1, by omega, by go_num, HN⟩
        case measure => simp [intOf]; omega
      · have hn0 : ent1 xs[k] = false := by simpa using hn
        have hn' : betw xs[k] 0 25 = false := hn0
        have HF := hide (tbB_noat hlt hn0)
        clear hn hn0
        go_wp2_with (go_at_call 75; refine (in_any _ _ _ _).mono ?_; rintro e w' ⟨rfl, rfl⟩)
        go_ret
        exact ⟨ret_bool (unhide HF).symm, rfl⟩
    · have HF := hide (tbB_all (fun j h => unhide HA j h (by omega)))
      go_wp2
      go_ret
      exact ⟨ret_bool (by rw [unhide HF, Bool.eq_iff_iff]; simp; omega), rfl⟩

def tdO (s : ByteArray) : List Int := if tdB s = true then openL s 3 else []
set_option maxHeartbeats 1600000 in
theorem l09Clusters_any (ao : Option Addr) (cap : Nat) (xs : List Int) (w : World) (hl : xs.length ≤ 1048576) (hi : ∀ j (h : j < xs.length), -1000 ≤ xs[j] ∧ xs[j] ≤ 1000) (hc : Is w ao xs) :
    Calls Try.prog 55 #[.slice ao xs.length cap] w fun e w' => ∃ v, e = .returned v ∧ OwnN w' w.heap.size v (clA xs) ∧ Below w.heap.size w w' := by
  obtain ⟨j0, hj, hy0, hy1, hy2⟩ := info_parts infoM
  have HC := hide hc
  have HI := hide hi
  have HA : Hid (Below w.heap.size w (w.alloc (.cells #[] 3))) := hide (Joins.below_alloc1 _ _)
  clear hc hi
  go_enter Try.func55, Try.ntmps55
  go_wp2
  go_loopw [3, 4] (fun o i wr => ∃ (k : Nat) (ys : List Int) (qo : Option Addr) (qa : Nat), k ≤ xs.length ∧ i = .int .i64 k ∧ o = .slice qo ys.length qa ∧ Hid (ys = clTo xs k) ∧ Hid (OwnR wr w.heap.size 3 1 (.slice qo ys.length qa) ys.length (intV ys)) ∧ Hid (Below w.heap.size w wr)) (fun _ i _ => xs.length - (intOf i).toNat)
  case atStart => exact ⟨0, [], _, _, Nat.zero_le _, rfl, rfl, hide rfl, hide (.inl ⟨rfl, rfl, _, rfl⟩), HA⟩
  case round =>
    obtain ⟨k, ys, qo, qa, hk, rfl, rfl, HE, HO, HB⟩ := hrel
    by_cases hlt : k < xs.length
    · obtain ⟨b, off, rfl, hcl⟩ := (unhide HC).below (unhide HB) k hlt
      obtain ⟨i0, i1⟩ := unhide HI k hlt
      by_cases h2 : 2 ≤ xs[k]
      · have HS := hide (clTo_data hlt h2)
        have HYL : Hid (ys.length ≤ 1048576) := hide (by rw [unhide HE]; have := clTo_len xs k; omega)
        have hyl := unhide HYL
        have HOA := hide ((unhide HO).below (Joins.below_alloc1 _ (.cells #[.int .i64 (xs[k] - 2)] 3)))
        have HBA := hide (fr (unhide HB) (Joins.below_alloc1 _ (.cells #[.int .i64 (xs[k] - 2)] 3)))
        have HSZ := hide (unhide HB).size
        go_wp2_with (at_builtin; refine wpList_append_one rfl _ _ 23 rfl w.heap.size 3 j0 (.int .i64 0) 1 8 Try.underlying23 hj hy0 hy1 hy2 rfl (by omega) qo ys.length qa (intV ys) rfl (unhide HOA) (by have := unhide HSZ; simp; omega) ⟨wr.heap.size, 0, none⟩ _ [.int .i64 (xs[k] - 2)] rfl rfl (byte_news wr _ _) (int_one _) (by unfold maxLen; omega) (by omega) ?_; intro g2 cap2 wA hoA hkA; have HSF := hide (And.intro hoA (keep_below (unhide HBA) (unhide HOA) (Nat.le_refl _) hkA)); clear hoA hkA)
        go_roundw
        case rel => exact ⟨k + 1, ys ++ [xs[k] - 2], some ⟨g2, 0, none⟩, cap2, by omega, by go_num, by simp, hide (by rw [unhide HS, unhide HE]), hide (by rw [List.length_append, intV_snoc]; exact .inr ⟨by simp, (unhide HSF).1⟩), hide (unhide HSF).2⟩
        case measure => simp [intOf]; omega
      · have HS := hide (clTo_none hlt h2)
        go_wp2
        go_roundw
        case rel => exact ⟨k + 1, ys, qo, qa, by omega, by go_num, rfl, hide (by rw [unhide HS, unhide HE]), HO, HB⟩
        case measure => simp [intOf]; omega
    · have HS : Hid (clA xs = ys) := hide (by rw [unhide HE, clA, show k = xs.length by omega])
      go_wp2
      go_ret
      exact ⟨.slice qo ys.length qa, rfl, by rw [unhide HS]; exact ⟨qo, qa, rfl, unhide HO⟩, unhide HB⟩

end Go.Proofs.Ytkaiglhljpehpaa
