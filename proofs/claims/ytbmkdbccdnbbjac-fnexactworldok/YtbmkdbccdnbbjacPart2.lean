import Derived.Test.YtbmkdbccdnbbjacPart1
import Derived.WalkKit
import Derived.Laws.StructEq
import Derived.Test.YtbmkdbccdnbbjacRows
import Derived.ProofKit
import Derived.OpenShut
import Derived.ShutString
import Derived.SliceStrings
import Derived.ChangeSlices
import Derived.Lib.SmallJoins
import Derived.WalkSpells
import Derived.BigQuiet
import Derived.Deep.QuietTactic
import Derived.Deep.RegionWith
import Derived.KernelRfl
import Derived.LoopN
import Derived.Laws.ResultCell
import Derived.Deep.CutRange
import Derived.Deep.RegionHeld3

namespace Go.Proofs.Ytbmkdbccdnbbjac
open Go.RowKit
set_option linter.unusedVariables false

structure Hst where
  st : Int
  gen : Int
  ren : Int
def hst0 : Hst := ⟨0, 0, 0⟩
abbrev hstV (x : Hst) : Value := .agg #[.int .i64 x.st, .int .i64 x.gen, .int .i64 x.ren]
def Hss (w : World) (ao : Option Addr) (xs : List Hst) : Prop := ∀ i (h : i < xs.length), ∃ b off, ao = some ⟨b, off, none⟩ ∧
  w.cell? ⟨b, off + i * 3, none⟩ = some (.int .i64 xs[i].st) ∧ w.cell? ⟨b, off + i * 3 + 1, none⟩ = some (.int .i64 xs[i].gen) ∧ w.cell? ⟨b, off + i * 3 + 2, none⟩ = some (.int .i64 xs[i].ren)
theorem Hss.below {w w' : World} {ao : Option Addr} {xs : List Hst} (h : Hss w ao xs) (hb : Below w.heap.size w w') : Hss w' ao xs := fun i hi => by
  obtain ⟨b, off, e, h0, h1, h2⟩ := h i hi
  exact ⟨b, off, e, (hb.cell (p := ⟨b, off + i * 3, none⟩) (World.block_lt_of_cell? _ _ h0)).trans h0, (hb.cell (p := ⟨b, off + i * 3 + 1, none⟩) (World.block_lt_of_cell? _ _ h1)).trans h1, (hb.cell (p := ⟨b, off + i * 3 + 2, none⟩) (World.block_lt_of_cell? _ _ h2)).trans h2⟩
def hssV (xs : List Hst) : List Value := xs.flatMap fun x => [.int .i64 x.st, .int .i64 x.gen, .int .i64 x.ren]
theorem hssV_cons (x : Hst) (xs : List Hst) : hssV (x :: xs) = [.int .i64 x.st, .int .i64 x.gen, .int .i64 x.ren] ++ hssV xs := rfl
theorem hssV_length (xs : List Hst) : (hssV xs).length = xs.length * 3 := by
  induction xs with
  | nil => rfl
  | cons x xs ih => simp only [hssV, List.flatMap_cons, List.length_append, List.length_cons, List.length_nil] at ih ⊢; omega
theorem hssV_get : ∀ {xs : List Hst} {i : Nat} (h : i < xs.length), (hssV xs)[i * 3]? = some (.int .i64 xs[i].st) ∧ (hssV xs)[i * 3 + 1]? = some (.int .i64 xs[i].gen) ∧ (hssV xs)[i * 3 + 2]? = some (.int .i64 xs[i].ren)
  | [], _, h => absurd h (Nat.not_lt_zero _)
  | x :: xs, 0, _ => by simp [hssV_cons]
  | x :: xs, i + 1, h => by
    have ih := hssV_get (xs := xs) (i := i) (by simpa using h)
    rw [hssV_cons, show (i + 1) * 3 = i * 3 + 3 by omega]
    refine ⟨?_, ?_, ?_⟩
    · rw [List.getElem?_append_right (by simp)]; simpa using ih.1
    · rw [List.getElem?_append_right (by simp)]; simpa [Nat.add_right_comm] using ih.2.1
    · rw [List.getElem?_append_right (by simp)]; simpa [Nat.add_right_comm] using ih.2.2
theorem ownHss {w : World} {B e cap : Nat} {ao : Option Addr} {xs : List Hst} (h : OwnR w B e 3 (.slice ao xs.length cap) xs.length (hssV xs)) : Hss w ao xs := by
  rcases h with ⟨h0, _, _⟩ | ⟨h0, h⟩
  · intro i hi; omega
  rcases h.2 with ⟨e0, h0'⟩ | ⟨g, cap, cur, e0, hb, hg, hnc, hcm, hcs, ht⟩
  · omega
  · simp only [Value.slice.injEq, true_and] at e0
    obtain ⟨rfl, rfl⟩ := e0
    have g4 := fun i (hi : i < xs.length) => hssV_get hi
    refine fun i hi => ⟨g, 0, rfl, ?_, ?_, ?_⟩
    · rw [Nat.zero_add, h.cellAt _ (by omega)]; exact (g4 i hi).1
    · rw [Nat.zero_add, h.cellAt _ (by omega)]; exact (g4 i hi).2.1
    · rw [Nat.zero_add, h.cellAt _ (by omega)]; exact (g4 i hi).2.2
end Go.Proofs.Ytbmkdbccdnbbjac

namespace Go.Proofs.Ytbmkdbccdnbbjac
open Go.RowKit
set_option linter.unusedVariables false
set_option maxRecDepth 100000

structure Rq where
  k : Int
  g : Int
  v : Int
  n : ByteArray
abbrev noB : ByteArray := ⟨#[]⟩
abbrev qV (q : Rq) : Value := .agg #[.int .i64 q.k, .int .i64 q.g, .int .i64 q.v, .string q.n]
def plR (q : Rq) : Rq :=
  if q.k = 1 then ⟨1, q.g, 0, noB⟩ else if q.k = 2 then ⟨2, q.g, q.v, noB⟩ else if q.k = 3 then ⟨3, q.g, 0, noB⟩ else if q.k = 4 then ⟨4, q.g, 0, noB⟩
  else if q.k = 5 then ⟨5, 0, 0, q.n⟩ else if q.k = 6 then ⟨6, 0, 0, q.n⟩ else if q.k = 7 then ⟨7, 0, 0, q.n⟩ else ⟨8, 0, 0, noB⟩
def noN (n : ByteArray) : Bool := n.toList.isEmpty
def useB (q : Rq) : Bool :=
  if q.k = 1 ∨ q.k = 3 ∨ q.k = 4 then q.v == 0 && noN q.n
  else if q.k = 2 then noN q.n
  else if q.k = 8 then q.g == 0 && q.v == 0 && noN q.n
  else q.g == 0 && q.v == 0
def rqB (q : Rq) : Bool := betw q.k 1 8 && decide (q.n.size ≤ 65536) && useB q
def eqR (a b : Rq) : Bool := a.k == b.k && (a.g == b.g && (a.v == b.v && a.n.toList == b.n.toList))
theorem rq_k (q : Rq) : q.k = 1 ∨ q.k = 2 ∨ q.k = 3 ∨ q.k = 4 ∨ q.k = 5 ∨ q.k = 6 ∨ q.k = 7 ∨ q.k = 8 ∨ (betw q.k 1 8 = false ∧ ¬ q.k = 1 ∧ ¬ q.k = 2 ∧ ¬ q.k = 3 ∧ ¬ q.k = 4 ∧ ¬ q.k = 5 ∧ ¬ q.k = 6 ∧ ¬ q.k = 7 ∧ ¬ q.k = 8) := by
  by_cases h : 1 ≤ q.k ∧ q.k ≤ 8
  · omega
  · refine .inr (.inr (.inr (.inr (.inr (.inr (.inr (.inr ⟨?_, by omega, by omega, by omega, by omega, by omega, by omega, by omega, by omega⟩)))))))
    cases hb : betw q.k 1 8 with
    | false => rfl
    | true => exact absurd (betw_iff.1 hb) h
theorem noB_list : noB.toList = [] := by rw [ByteArray.toList_eq]
theorem noN_eq (n : ByteArray) : (noB.toList == n.toList) = noN n := by
  unfold noN
  rw [noB_list]
  cases n.toList with
  | nil => rfl
  | cons a b => rfl
theorem zer_eq (x : Int) : ((0 : Int) == x) = (x == 0) := BEq.comm
theorem rq_plain1 (g v : Int) (n : ByteArray) (k : Int) (hk : k = 1 ∨ k = 3 ∨ k = 4) : eqR (plR ⟨k, g, v, n⟩) ⟨k, g, v, n⟩ = (v == 0 && noN n) := by
  rcases hk with rfl | rfl | rfl
  all_goals
    show (_ == _ && (g == g && (((0 : Int) == v) && (noB.toList == n.toList)))) = _
    rw [zer_eq, noN_eq, beq_self_eq_true]; rfl
theorem rq_plain5 (g v : Int) (n : ByteArray) (k : Int) (hk : k = 5 ∨ k = 6 ∨ k = 7) : eqR (plR ⟨k, g, v, n⟩) ⟨k, g, v, n⟩ = (g == 0 && v == 0) := by
  rcases hk with rfl | rfl | rfl
  all_goals
    show (_ == _ && (((0 : Int) == g) && (((0 : Int) == v) && (n.toList == n.toList)))) = _
    rw [zer_eq, zer_eq, beq_self_eq_true, Bool.and_true]; rfl
theorem rq_plain (q : Rq) : (decide (q.n.size ≤ 65536) && eqR (plR q) q) = rqB q := by
  obtain ⟨k, g, v, n⟩ := q
  unfold rqB
  show (decide (n.size ≤ 65536) && _) = (betw k 1 8 && decide (n.size ≤ 65536) && _)
  generalize decide (n.size ≤ 65536) = D
  rcases rq_k ⟨k, g, v, n⟩ with h | h | h | h | h | h | h | h | ⟨hb, h1, h2, h3, h4, h5, h6, h7, h8⟩
  · replace h : k = 1 := h
    rw [rq_plain1 g v n k (by omega)]; subst h; rfl
  · replace h : k = 2 := h
    subst h
    show (D && (_ == _ && (g == g && (v == v && (noB.toList == n.toList))))) = (_ && D && noN n)
    rw [noN_eq, beq_self_eq_true, beq_self_eq_true]; rfl
  · replace h : k = 3 := h
    rw [rq_plain1 g v n k (by omega)]; subst h; rfl
  · replace h : k = 4 := h
    rw [rq_plain1 g v n k (by omega)]; subst h; rfl
  · replace h : k = 5 := h
    rw [rq_plain5 g v n k (by omega)]; subst h; rfl
  · replace h : k = 6 := h
    rw [rq_plain5 g v n k (by omega)]; subst h; rfl
  · replace h : k = 7 := h
    rw [rq_plain5 g v n k (by omega)]; subst h; rfl
  · replace h : k = 8 := h
    subst h
    show (D && (_ == _ && (((0 : Int) == g) && (((0 : Int) == v) && (noB.toList == n.toList))))) = (_ && D && (g == 0 && v == 0 && noN n))
    rw [noN_eq, zer_eq, zer_eq, Bool.and_assoc, Bool.and_assoc (g == 0)]; rfl
  · replace hb : betw k 1 8 = false := hb
    rw [hb]
    have e : eqR (plR ⟨k, g, v, n⟩) ⟨k, g, v, n⟩ = false := by
      simp only [plR, if_neg h1, if_neg h2, if_neg h3, if_neg h4, if_neg h5, if_neg h6, if_neg h7, eqR]
      rw [beq_eq_false_iff_ne.2 (fun e => h8 e.symm)]; rfl
    rw [e]; cases D <;> rfl

end Go.Proofs.Ytbmkdbccdnbbjac

namespace Go.Proofs.Ytbmkdbccdnbbjac
open Go.RowKit
set_option linter.unusedVariables false
set_option maxRecDepth 100000

structure Wld where
  ss : List ByteArray
  xs : List Wr
  cf : Int
  cd : Int
  cl : Int
  cr : Int
  hs : List Hst
  t : Int
  g : Gst
  q : Rq
  ag : Bool
def rq0 : Rq := ⟨0, 0, 0, noB⟩
def wl0 : Wld := ⟨[], [], 0, 0, 0, 0, [], 0, gs0, rq0, false⟩
structure Wl4 where
  ao : Option Addr
  ca : Nat
  bo : Option Addr
  cb : Nat
  ho : Option Addr
  hc : Nat
  ga : Gs4
def wa0 : Wl4 := ⟨none, 0, none, 0, none, 0, ⟨none, 0, none, 0⟩⟩
abbrev wlV (a : Wl4) (m : Wld) : Value := .agg #[.slice a.ao m.ss.length a.ca, .slice a.bo m.xs.length a.cb, .int .i64 m.cf, .int .i64 m.cd, .int .i64 m.cl, .int .i64 m.cr, .slice a.ho m.hs.length a.hc, .int .i64 m.t, .slice a.ga.vo m.g.vals.length a.ga.vc, .slice a.ga.so m.g.shots.length a.ga.sc, .int .i64 m.q.k, .int .i64 m.q.g, .int .i64 m.q.v, .string m.q.n, .bool m.ag]
abbrev wlC (a : Wl4) (m : Wld) : Array Value := #[.slice a.ao m.ss.length a.ca, .slice a.bo m.xs.length a.cb, .int .i64 m.cf, .int .i64 m.cd, .int .i64 m.cl, .int .i64 m.cr, .slice a.ho m.hs.length a.hc, .int .i64 m.t, .slice a.ga.vo m.g.vals.length a.ga.vc, .slice a.ga.so m.g.shots.length a.ga.sc, .int .i64 m.q.k, .int .i64 m.q.g, .int .i64 m.q.v, .string m.q.n, .bool m.ag]
structure WlS (w : World) (a : Wl4) (m : Wld) : Prop where
  s : Ss w a.ao m.ss
  i : Ios w a.bo m.xs
  h : Hss w a.ho m.hs
  g : GsS w a.ga m.g
theorem WlS.below {w w' : World} {a : Wl4} {m : Wld} (h : WlS w a m) (hb : Below w.heap.size w w') : WlS w' a m := ⟨h.s.below hb, h.i.below hb, h.h.below hb, h.g.below hb⟩
structure WlL (m : Wld) : Prop where
  s : m.ss.length ≤ maxLen
  i : m.xs.length ≤ maxLen
  h : m.hs.length ≤ maxLen
  g : GsL m.g
  q : m.q.n.size ≤ maxLen
structure OwnWl (w : World) (B : Nat) (a : Wl4) (m : Wld) (ts : List Value) : Prop where
  d : OwnD w B a.ao m.ss.length a.ca a.bo m.xs.length a.cb m.ss m.xs
  h : OwnR w B 90 3 (.slice a.ho m.hs.length a.hc) m.hs.length (hssV m.hs)
  g : OwnGs w B a.ga m.g ts
theorem OwnWl.below {w w' : World} {B : Nat} {a : Wl4} {m : Wld} {ts : List Value} (h : OwnWl w B a m ts) (hb : Below w.heap.size w w') : OwnWl w' B a m ts := ⟨h.d.below hb, OwnR.below h.h hb, h.g.below hb⟩
theorem OwnWl.base {w : World} {B B' : Nat} {a : Wl4} {m : Wld} {ts : List Value} (h : OwnWl w B a m ts) (hB : B' ≤ B) : OwnWl w B' a m ts := ⟨h.d.base hB, OwnR.base h.h hB, h.g.base hB⟩
theorem OwnWl.shows {w : World} {B : Nat} {a : Wl4} {m : Wld} {ts : List Value} (h : OwnWl w B a m ts) (hs : ∀ s ∈ m.ss, s.size ≤ maxLen) (hx : ∀ x ∈ m.xs, x.data.size ≤ maxLen) (hz : ∀ s ∈ m.g.shots, s.name.size ≤ maxLen ∧ s.table.length ≤ maxLen) : WlS w a m :=
  ⟨h.d.ss hs, h.d.ios hx, ownHss h.h, h.g.shows hz⟩
theorem set_wl {w : World} {k t i : Nat} {a : Array Value} (h : w.heap[k]? = some (.cells a t (0, 0))) (v : Value) : (w.setCell ⟨k, i, none⟩ v).heap[k]? = some (.cells (a.setIfInBounds i v) t (0, 0)) := by
  obtain ⟨hk, hf⟩ := Array.getElem?_eq_some_iff.1 h
  unfold World.setCell
  simp [hk]
  rw [Array.getElem_modify]
  simp [hf]
def VarW (w : World) (x : Nat) (t : TypeId) (a : Wl4) (m : Wld) : Prop := w.heap[x]? = some (.cells (wlC a m) t (0, 0))
theorem VarW.lt {w : World} {x t : Nat} {a : Wl4} {m : Wld} (k : VarW w x t a m) : x < w.heap.size := (Array.getElem?_eq_some_iff.1 k).1
theorem VarW.cells {w : World} {x t : Nat} {a : Wl4} {m : Wld} (k : VarW w x t a m) : w.cell? ⟨x, 0, none⟩ = some (.slice a.ao m.ss.length a.ca) ∧ w.cell? ⟨x, 1, none⟩ = some (.slice a.bo m.xs.length a.cb) ∧ w.cell? ⟨x, 2, none⟩ = some (.int .i64 m.cf) ∧ w.cell? ⟨x, 3, none⟩ = some (.int .i64 m.cd) ∧ w.cell? ⟨x, 4, none⟩ = some (.int .i64 m.cl) ∧ w.cell? ⟨x, 5, none⟩ = some (.int .i64 m.cr) ∧ w.cell? ⟨x, 6, none⟩ = some (.slice a.ho m.hs.length a.hc) ∧ w.cell? ⟨x, 7, none⟩ = some (.int .i64 m.t) ∧ w.cell? ⟨x, 8, none⟩ = some (.slice a.ga.vo m.g.vals.length a.ga.vc) ∧ w.cell? ⟨x, 9, none⟩ = some (.slice a.ga.so m.g.shots.length a.ga.sc) ∧ w.cell? ⟨x, 10, none⟩ = some (.int .i64 m.q.k) ∧ w.cell? ⟨x, 11, none⟩ = some (.int .i64 m.q.g) ∧ w.cell? ⟨x, 12, none⟩ = some (.int .i64 m.q.v) ∧ w.cell? ⟨x, 13, none⟩ = some (.string m.q.n) ∧ w.cell? ⟨x, 14, none⟩ = some (.bool m.ag) := by
  refine ⟨?_, ?_, ?_, ?_, ?_, ?_, ?_, ?_, ?_, ?_, ?_, ?_, ?_, ?_, ?_⟩ <;> (rw [Joins.cell_of_block k]; rfl)
theorem VarW.free {w : World} {x t : Nat} {a : Wl4} {m : Wld} (k : VarW w x t a m) (i : Nat) : w.frozen? ⟨x, i, none⟩ = false := Joins.unfrozen_of_block k i
theorem VarW.below {w w' : World} {x t : Nat} {a : Wl4} {m : Wld} (k : VarW w x t a m) (hb : Below w.heap.size w w') : VarW w' x t a m := by
  unfold VarW; rw [hb.block x k.lt]; exact k
theorem VarW.new (w : World) (t : TypeId) (a : Wl4) (m : Wld) : VarW (w.alloc (.cells (wlC a m) t)) w.heap.size t a m := heap_alloc_new w _
theorem VarW.at {w : World} {x y t : Nat} {a : Wl4} {m : Wld} (h : VarW w x t a m) (e : x = y) : VarW w y t a m := e ▸ h
theorem VarW.other {w : World} {x t : Nat} {a : Wl4} {m : Wld} (h : VarW w x t a m) {p : Addr} (hp : x ≠ p.block) (u : Value) : VarW (w.setCell p u) x t a m := by
  unfold VarW; rw [Below.heap_setCell w p u x hp]; exact h
end Go.Proofs.Ytbmkdbccdnbbjac

namespace Go.Proofs.Ytbmkdbccdnbbjac
open Go.ChangeShapes Go.WideShapes Go.ChangeAt Go.RowKit Go.Deep
set_option linter.unusedVariables false
set_option maxRecDepth 100000

section
variable {H : Type} {enc : TypeId × Value → H} {P : Program} {w : World} {base : Nat} {spare : Nat → Bool} {held : Bool}
theorem open_Hss {t e ti : TypeId} {f0 f1 f2 : Field} {fuel : Nat} {v : Value} {x : DataW H × List MemPlace} (ht : P.underlying t = some (.slice e)) (he : P.underlying e = some (.struct #[f0, f1, f2]))
    (hi : P.underlying ti = some (.int .i64)) (e0 : f0.type = ti ∧ f0.offset = 0) (e1 : f1.type = ti ∧ f1.offset = 1) (e2 : f2.type = ti ∧ f2.offset = 2)
    (ci : P.cellsOf ti = 1) (ce : P.cellsOf e = 3)
    (h : DataW.trod enc P w base spare held fuel t [v] = some x) : ∃ ao cap xs, v = .slice ao xs.length cap ∧ xs.length ≤ maxLen ∧ Hss w ao xs := by
  rcases open_slice ht h with ⟨hcs, _⟩ | ⟨a, len, cap, m, n, D, Pl, hcs, _, hl, hmx, hm, _, hel⟩
  · simp only [List.cons.injEq, and_true] at hcs
    subst hcs
    exact ⟨none, 0, [], rfl, Nat.zero_le _, fun i hi => absurd hi (Nat.not_lt_zero _)⟩
  · simp only [List.cons.injEq, and_true] at hcs
    subst hcs
    have hlm : len ≤ m := by rw [hm]; split <;> omega
    have each : ∀ i, i < len → ∃ y : Hst, w.cell? ((a.add (i * 3)).add 0) = some (.int .i64 y.st) ∧ w.cell? ((a.add (i * 3)).add 1) = some (.int .i64 y.gen) ∧ w.cell? ((a.add (i * 3)).add 2) = some (.int .i64 y.ren) := by
      intro i hi'
      obtain ⟨cs', hc, hd⟩ := hel i (by omega)
      rw [ce] at hc
      obtain ⟨c0, c1, c2, rfl, k0, k1, k2⟩ := cells3 hc
      obtain ⟨y0, y1, y2, n', _, _, t0, t1, t2⟩ := trod_struct3 he hd
      rw [e0.1, e0.2, ci] at t0
      rw [e1.1, e1.2, ci] at t1
      rw [e2.1, e2.2, ci] at t2
      obtain ⟨z0, q0, _⟩ := DataW.trod_int hi t0
      obtain ⟨z1, q1, _⟩ := DataW.trod_int hi t1
      obtain ⟨z2, q2, _⟩ := DataW.trod_int hi t2
      simp at q0 q1 q2
      subst q0 q1 q2
      exact ⟨⟨z0, z1, z2⟩, k0, k1, k2⟩
    haveI : Inhabited Hst := ⟨hst0⟩
    obtain ⟨f, hf⟩ := choose_lt (α := Hst) each
    have htl : ((List.range len).map f).length = len := by simp
    refine ⟨some a, cap, (List.range len).map f, by rw [htl], by omega, fun i hi' => ?_⟩
    have hi2 : i < len := by omega
    have h0 : a.spot = none := by
      obtain ⟨g0, _⟩ := hf 0 (by omega)
      have := World.cell?_spot g0
      simpa [Addr.add] using this
    obtain ⟨g0, g1, g2⟩ := hf i hi2
    have hg : ((List.range len).map f)[i] = f i := by simp
    have hsp : (a.add (i * 3)).spot = none := by rw [add_form h0]
    rw [add_form hsp, add_form h0] at g0 g1 g2
    refine ⟨a.block, a.off, ?_, ?_, ?_, ?_⟩
    · cases a; simp_all
    · rw [hg]; exact g0
    · rw [hg]; exact g1
    · rw [hg]; exact g2
theorem trod_struct7 {t : TypeId} {f0 f1 f2 f3 f4 f5 f6 : Field} {fuel : Nat} {cs : List Value} {x : DataW H × List MemPlace} (ht : P.underlying t = some (.struct #[f0, f1, f2, f3, f4, f5, f6])) (h : DataW.trod enc P w base spare held fuel t cs = some x) :
    ∃ y0 y1 y2 y3 y4 y5 y6 n, DataW.trod enc P w base spare held n f0.type ((cs.drop f0.offset).take (P.cellsOf f0.type)) = some y0 ∧
      DataW.trod enc P w base spare held n f1.type ((cs.drop f1.offset).take (P.cellsOf f1.type)) = some y1 ∧ DataW.trod enc P w base spare held n f2.type ((cs.drop f2.offset).take (P.cellsOf f2.type)) = some y2 ∧
      DataW.trod enc P w base spare held n f3.type ((cs.drop f3.offset).take (P.cellsOf f3.type)) = some y3 ∧ DataW.trod enc P w base spare held n f4.type ((cs.drop f4.offset).take (P.cellsOf f4.type)) = some y4 ∧
      DataW.trod enc P w base spare held n f5.type ((cs.drop f5.offset).take (P.cellsOf f5.type)) = some y5 ∧ DataW.trod enc P w base spare held n f6.type ((cs.drop f6.offset).take (P.cellsOf f6.type)) = some y6 := by
  obtain ⟨xs, n, _, rfl, hl, hlen, hf⟩ := DataW.trod_struct ht h
  match xs, hlen with
  | [y0, y1, y2, y3, y4, y5, y6], _ => exact ⟨y0, y1, y2, y3, y4, y5, y6, n, by simpa using hf 0 f0 rfl, by simpa using hf 1 f1 rfl, by simpa using hf 2 f2 rfl, by simpa using hf 3 f3 rfl, by simpa using hf 4 f4 rfl, by simpa using hf 5 f5 rfl, by simpa using hf 6 f6 rfl⟩
end
theorem array15 {α : Type} {cs : Array α} (h : cs.size = 15) : ∃ c0 c1 c2 c3 c4 c5 c6 c7 c8 c9 c10 c11 c12 c13 c14, cs = #[c0, c1, c2, c3, c4, c5, c6, c7, c8, c9, c10, c11, c12, c13, c14] := by
  obtain ⟨l⟩ := cs
  match l, h with
  | [c0, c1, c2, c3, c4, c5, c6, c7, c8, c9, c10, c11, c12, c13, c14], _ => exact ⟨c0, c1, c2, c3, c4, c5, c6, c7, c8, c9, c10, c11, c12, c13, c14, rfl⟩
theorem cWldW : Try.prog.cellsOf 53 = 15 := by kernel_rfl
theorem cCfgW : Try.prog.cellsOf 50 = 4 := by kernel_rfl
theorem cReqW : Try.prog.cellsOf 27 = 4 := by kernel_rfl
theorem cBoolW : Try.prog.cellsOf 4 = 1 := by kernel_rfl
theorem cHostW : Try.prog.cellsOf 142 = 3 := by kernel_rfl
theorem cHostsW : Try.prog.cellsOf 51 = 1 := by kernel_rfl
theorem open_world {H : Type} {enc : TypeId × Value → H} {w : World} {base b0 : Nat} {r : Reach} {spare : Nat → Bool} {held : Bool} {v : Value} {d : DataW H} {p : List MemPlace}
    (hv : Value.okWide Try.prog w r b0 53 v) (h : DataW.Trod enc Try.prog w base spare held 53 v d p) :
    ∃ (a : Wl4) (m : Wld), v = wlV a m ∧ WlL m ∧ WlS w a m := by
  obtain ⟨cs, rfl, hsz⟩ := okWide_struct Try.underlying53 hv
  obtain ⟨c0, c1, c2, c3, c4, c5, c6, c7, c8, c9, c10, c11, c12, c13, c14, rfl⟩ := array15 (hsz.trans cWldW)
  obtain ⟨fuel, hf⟩ := h
  obtain ⟨y0, y1, y2, y3, y4, y5, y6, n, h0, h1, h2, h3, h4, h5, h6⟩ := trod_struct7 Try.underlying53 hf
  replace h0 : DataW.trod enc Try.prog w base spare held n 48 [c0, c1] = some y0 := by simpa [Value.cells, cDisk] using h0
  replace h1 : DataW.trod enc Try.prog w base spare held n 50 [c2, c3, c4, c5] = some y1 := by simpa [Value.cells, cCfgW] using h1
  replace h2 : DataW.trod enc Try.prog w base spare held n 51 [c6] = some y2 := by simpa [Value.cells, cHostsW] using h2
  replace h3 : DataW.trod enc Try.prog w base spare held n 3 [c7] = some y3 := by simpa [Value.cells, cInt] using h3
  replace h4 : DataW.trod enc Try.prog w base spare held n 25 [c8, c9] = some y4 := by simpa [Value.cells, cGstG] using h4
  replace h5 : DataW.trod enc Try.prog w base spare held n 27 [c10, c11, c12, c13] = some y5 := by simpa [Value.cells, cReqW] using h5
  replace h6 : DataW.trod enc Try.prog w base spare held n 4 [c14] = some y6 := by simpa [Value.cells, cBoolW] using h6
  obtain ⟨u0, u1, n0, _, _, t0, t1⟩ := trod_struct2 Try.underlying48 h0
  obtain ⟨u2, u3, u4, u5, n1, _, _, t2, t3, t4, t5⟩ := Joins.trod_struct4 Try.underlying50 h1
  obtain ⟨u8, u9, n4, _, _, t8, t9⟩ := trod_struct2 Try.underlying25 h4
  obtain ⟨u10, u11, u12, u13, n5, _, _, t10, t11, t12, t13⟩ := Joins.trod_struct4 Try.underlying27 h5
  have cSs : Try.prog.cellsOf 33 = 1 := by kernel_rfl
  have cIos : Try.prog.cellsOf 46 = 1 := by kernel_rfl
  have cShs : Try.prog.cellsOf 23 = 1 := by kernel_rfl
  replace t0 : DataW.trod enc Try.prog w base spare held n0 33 [c0] = some u0 := by simpa [cSs] using t0
  replace t1 : DataW.trod enc Try.prog w base spare held n0 46 [c1] = some u1 := by simpa [cIos] using t1
  replace t2 : DataW.trod enc Try.prog w base spare held n1 3 [c2] = some u2 := by simpa [cInt] using t2
  replace t3 : DataW.trod enc Try.prog w base spare held n1 3 [c3] = some u3 := by simpa [cInt] using t3
  replace t4 : DataW.trod enc Try.prog w base spare held n1 3 [c4] = some u4 := by simpa [cInt] using t4
  replace t5 : DataW.trod enc Try.prog w base spare held n1 3 [c5] = some u5 := by simpa [cInt] using t5
  replace t8 : DataW.trod enc Try.prog w base spare held n4 22 [c8] = some u8 := by simpa [cIntsG] using t8
  replace t9 : DataW.trod enc Try.prog w base spare held n4 23 [c9] = some u9 := by simpa [cShs] using t9
  replace t10 : DataW.trod enc Try.prog w base spare held n5 3 [c10] = some u10 := by simpa [cInt] using t10
  replace t11 : DataW.trod enc Try.prog w base spare held n5 3 [c11] = some u11 := by simpa [cInt] using t11
  replace t12 : DataW.trod enc Try.prog w base spare held n5 3 [c12] = some u12 := by simpa [cInt] using t12
  replace t13 : DataW.trod enc Try.prog w base spare held n5 9 [c13] = some u13 := by simpa [cStr] using t13
  obtain ⟨ao, ca, ss, rfl, hl, hs⟩ := open_Ss Try.underlying33 Try.underlying9 cStr t0
  obtain ⟨bo, cb, xs, rfl, hm, hx⟩ := open_Ios Try.underlying46 Try.underlying153 Try.underlying3 Try.underlying9 ⟨rfl, rfl⟩ ⟨rfl, rfl⟩ ⟨rfl, rfl⟩ cInt cStr cIo t1
  obtain ⟨z2, q2, _⟩ := DataW.trod_int Try.underlying3 t2
  obtain ⟨z3, q3, _⟩ := DataW.trod_int Try.underlying3 t3
  obtain ⟨z4, q4, _⟩ := DataW.trod_int Try.underlying3 t4
  obtain ⟨z5, q5, _⟩ := DataW.trod_int Try.underlying3 t5
  obtain ⟨ho, hcp, hh, rfl, hhl, hhs⟩ := open_Hss Try.underlying51 Try.underlying142 Try.underlying3 ⟨rfl, rfl⟩ ⟨rfl, rfl⟩ ⟨rfl, rfl⟩ cInt cHostW h2
  obtain ⟨z7, q7, _⟩ := DataW.trod_int Try.underlying3 h3
  obtain ⟨vo, vc, vs, rfl, lv, hvs⟩ := open_IsV Try.underlying22 Try.underlying3 cIntG t8
  obtain ⟨so, sc, sh, rfl, lsh, hsh⟩ := open_SnsV Try.underlying23 Try.underlying101 Try.underlying9 Try.underlying22 Try.underlying3 ⟨rfl, rfl⟩ ⟨rfl, rfl⟩ cStrG cIntsG cIntG cShotG t9
  obtain ⟨z10, q10, _⟩ := DataW.trod_int Try.underlying3 t10
  obtain ⟨z11, q11, _⟩ := DataW.trod_int Try.underlying3 t11
  obtain ⟨z12, q12, _⟩ := DataW.trod_int Try.underlying3 t12
  obtain ⟨z13, q13, _, hz⟩ := DataW.trod_string Try.underlying9 t13
  obtain ⟨z14, q14, _⟩ := DataW.trod_bool Try.underlying4 h6
  simp only [List.cons.injEq, and_true] at q2 q3 q4 q5 q7 q10 q11 q12 q13 q14
  subst q2 q3 q4 q5 q7 q10 q11 q12 q13 q14
  exact ⟨⟨ao, ca, bo, cb, ho, hcp, ⟨vo, vc, so, sc⟩⟩, ⟨ss, xs, z2, z3, z4, z5, hh, z7, ⟨vs, sh⟩, ⟨z10, z11, z12, z13⟩, z14⟩, rfl, ⟨hl, hm, hhl, ⟨lv, lsh⟩, hz⟩, ⟨hs, hx, hhs, ⟨hvs, hsh⟩⟩⟩

end Go.Proofs.Ytbmkdbccdnbbjac

namespace Go.Proofs.Ytbmkdbccdnbbjac
open Go.RowKit
set_option linter.unusedVariables false
set_option maxRecDepth 100000

theorem info9 : (Try.prog.info? 9).map (fun i => (i.zero, i.size, i.bytes)) = some (some (.string ⟨#[]⟩), 1, 16) := by kernel_rfl
theorem infoIo : (Try.prog.info? 139).map (fun i => (i.zero, i.size, i.bytes)) = some (some (.agg #[.int .i64 0, .int .i64 0, .string ⟨#[]⟩]), 3, 32) := by kernel_rfl

set_option maxHeartbeats 800000 in
theorem szStringS_any (ao : Option Addr) (cap : Nat) (ss : List ByteArray) (left : Int) (w : World) (hl : ss.length ≤ maxLen) (hc : Ss w ao ss) (h0 : 0 ≤ left) (h1 : left ≤ 1048576) :
    Calls Try.prog 82 #[.slice ao ss.length cap, .int .i64 left] w fun e w' => ∃ r : Int, e = .returned (.int .i64 r) ∧ -1 ≤ r ∧ r ≤ left ∧ (0 ≤ r → r + ss.length ≤ left) ∧ w' = w := by
  have HC := hide hc
  clear hc
  unfold maxLen at hl
  by_cases hle : left < ss.length
  · go_enter Try.func82, Try.ntmps82
    go_wp2
    go_ret
    exact ⟨-1, rfl, by omega, by omega, by omega, rfl⟩
  go_enter Try.func82, Try.ntmps82
  go_wp2
  go_loop [1, 5] (fun l i => ∃ (k : Nat) (r : Int), k ≤ ss.length ∧ i = .int .i64 k ∧ l = .int .i64 r ∧ 0 ≤ r ∧ r + ss.length ≤ left) (fun _ i => ss.length - (intOf i).toNat)
  case atStart => exact ⟨0, _, Nat.zero_le _, rfl, rfl, by omega, by omega⟩
  case round =>
    obtain ⟨k, r, hk, rfl, rfl, hr0, hr1⟩ := hrel
    by_cases hlt : k < ss.length
    · obtain ⟨b, off, rfl, hc, hz⟩ := unhide HC k hlt
      unfold maxLen at hz
      by_cases hb : r < ss[k].size
      · go_wp2
        go_ret
        exact ⟨-1, rfl, by omega, by omega, by omega, rfl⟩
      · go_wp2
        go_round
        case rel => exact ⟨k + 1, _, by omega, by go_num, rfl, by omega, by omega⟩
        case measure => simp [intOf]; omega
    · go_wp2
      go_ret
      exact ⟨r, rfl, by omega, by omega, by omega, rfl⟩

set_option maxHeartbeats 800000 in
theorem szIo_any (x : Wr) (left : Int) (w : World) (hz : x.data.size ≤ maxLen) (h0 : 0 ≤ left) (h1 : left ≤ 1048576) :
    Calls Try.prog 105 #[.agg #[.int .i64 x.host, .int .i64 x.at_, .string x.data], .int .i64 left] w fun e w' => ∃ r : Int, e = .returned (.int .i64 r) ∧ -1 ≤ r ∧ r ≤ left ∧ Below w.heap.size w w' := by
  unfold maxLen at hz
  by_cases hb : left < x.data.size
  · go_enter Try.func105, Try.ntmps105
    go_wp2
    go_ret
    exact ⟨-1, rfl, by omega, by omega, (Below.refl _ _).alloc (Nat.le_refl _) _⟩
  · go_enter Try.func105, Try.ntmps105
    go_wp2
    go_ret
    exact ⟨_, rfl, by omega, by omega, (Below.refl _ _).alloc (Nat.le_refl _) _⟩

set_option maxHeartbeats 800000 in
theorem szIoS_any (ao : Option Addr) (cap : Nat) (xs : List Wr) (left : Int) (w : World) (hl : xs.length ≤ maxLen) (hc : Ios w ao xs) (h0 : 0 ≤ left) (h1 : left ≤ 1048576) :
    Calls Try.prog 83 #[.slice ao xs.length cap, .int .i64 left] w fun e w' => ∃ r : Int, e = .returned (.int .i64 r) ∧ -1 ≤ r ∧ r ≤ left ∧ (0 ≤ r → r + xs.length ≤ left) ∧ Below w.heap.size w w' := by
  have HC := hide hc
  clear hc
  unfold maxLen at hl
  by_cases hle : left < xs.length
  · go_enter Try.func83, Try.ntmps83
    go_wp2
    go_ret
    exact ⟨-1, rfl, by omega, by omega, by omega, Below.refl _ _⟩
  go_enter Try.func83, Try.ntmps83
  go_wp2
  go_loopw [1, 5] (fun l i wr => ∃ (k : Nat) (r : Int), k ≤ xs.length ∧ i = .int .i64 k ∧ l = .int .i64 r ∧ 0 ≤ r ∧ r + xs.length ≤ left ∧ Hid (Below w.heap.size w wr)) (fun _ i _ => xs.length - (intOf i).toNat)
  case atStart => exact ⟨0, _, Nat.zero_le _, rfl, rfl, by omega, by omega, hide (Below.refl _ _)⟩
  case round =>
    obtain ⟨k, r, hk, rfl, rfl, hr0, hr1, HB⟩ := hrel
    by_cases hlt : k < xs.length
    · obtain ⟨b, off, rfl, hc0, hc1, hc2, hz⟩ := (unhide HC).below (unhide HB) k hlt
      have HZ := hide hz
      clear hz
      go_wp2_with fail
      refine (szIo_any xs[k] r _ (unhide HZ) (by omega) (by omega)).mono ?_
      rintro e w2 ⟨q, rfl, hq0, hq1, hb2⟩
      have HB2 := hide ((unhide HB).trans (hb2.mono (unhide HB).size))
      clear hb2
      by_cases hb : q < 0
      · go_wp2
        go_ret
        exact ⟨-1, rfl, by omega, by omega, by omega, unhide HB2⟩
      · go_wp2
        go_roundw
        case rel => exact ⟨k + 1, _, by omega, by go_num, rfl, by omega, by omega, HB2⟩
        case measure => simp [intOf]; omega
    · go_wp2
      go_ret
      exact ⟨r, rfl, by omega, by omega, by omega, unhide HB⟩

set_option maxHeartbeats 800000 in
theorem szDisk_any (ao bo : Option Addr) (ca cb : Nat) (ss : List ByteArray) (xs : List Wr) (left : Int) (w : World) (hl : ss.length ≤ maxLen) (hm : xs.length ≤ maxLen) (hc : Ss w ao ss) (hd : Ios w bo xs) (h0 : 0 ≤ left) (h1 : left ≤ 1048576) :
    Calls Try.prog 44 #[.agg #[.slice ao ss.length ca, .slice bo xs.length cb], .int .i64 left] w fun e w' => ∃ r : Int, e = .returned (.int .i64 r) ∧ -1 ≤ r ∧ r ≤ left ∧ (0 ≤ r → r + ss.length + xs.length ≤ left) ∧ Below w.heap.size w w' := by
  have HC := hide hc
  have HD := hide hd
  have HL := hide hl
  have HM := hide hm
  clear hc hd hl hm
  have hb0 : ∀ o, Below w.heap.size w (w.alloc o) := fun o => (Below.refl _ _).alloc (Nat.le_refl _) o
  have HB0 := hide hb0
  clear hb0
  go_enter Try.func44, Try.ntmps44
  go_wp2_with fail
  refine (szStringS_any ao ca ss left _ (unhide HL) ((unhide HC).below (unhide HB0 _)) (by omega) (by omega)).mono ?_
  rintro e w1 ⟨r, rfl, hr0, hr1, hr2, rfl⟩
  by_cases hb : r < 0
  · go_wp2
    go_ret
    exact ⟨-1, rfl, by omega, by omega, by omega, unhide HB0 _⟩
  · have hr3 : r + ss.length ≤ left := hr2 (by omega)
    clear hr2
    go_wp2_with fail
    refine (szIoS_any bo cb xs r _ (unhide HM) ((unhide HD).below (unhide HB0 _)) (by omega) (by omega)).mono ?_
    rintro e w2 ⟨q, rfl, hq0, hq1, hq2, hb2⟩
    have HB2 := hide ((unhide HB0 _).trans (hb2.mono (unhide HB0 _).size))
    clear hb2
    by_cases hb' : q < 0
    · go_wp2
      go_ret
      exact ⟨-1, rfl, by omega, by omega, by omega, unhide HB2⟩
    · have hq3 : q + xs.length ≤ r := hq2 (by omega)
      clear hq2
      go_wp2
      go_ret
      exact ⟨q, rfl, by omega, by omega, by omega, unhide HB2⟩

set_option maxHeartbeats 800000 in
theorem toStringS_any (ao : Option Addr) (cap : Nat) (ss : List ByteArray) (w : World) (hl : ss.length ≤ 1048576) (hc : Ss w ao ss) :
    Calls Try.prog 88 #[.slice ao ss.length cap] w fun e w' => ∃ g, e = .returned (.slice (some ⟨g, 0, none⟩) ss.length ss.length) ∧ w'.ownsRow w.heap.size 9 1 (.slice (some ⟨g, 0, none⟩) ss.length ss.length) ss.length (strV ss) ∧ Below w.heap.size w w' := by
  have HC := hide hc
  clear hc
  obtain ⟨i0, hi, hz0, hz1, hz2⟩ := info_parts info9
  go_enter Try.func88, Try.ntmps88
  go_wp2_with (first | (at_make; refine wpList_make_full _ rfl _ _ 33 rfl w.heap.size 9 i0 _ 1 Try.underlying33 hi hz0 hz1 _ _ _ _ ss.length rfl rfl rfl rfl ?c1 ?c2 ?c3 ?_))
  case c1 => rw [hz2]; omega
  case c2 => unfold maxLen; omega
  case c3 => exact Nat.le_refl _
  intro w1 hown hgrow
  have hB : Below w.heap.size w w1 := (Below.refl _ _).grown hgrow (Nat.le_refl _) (fun _ h => by cases h)
  have HO := hide hown
  have HB := hide hB
  clear hown hB hgrow
  go_wp2
  go_loopw [4] (fun i wr => ∃ (k : Nat) (xs : List Value), k ≤ ss.length ∧ i = .int .i64 k ∧ Hid (xs.length = ss.length) ∧ Hid (xs.take k = (strV ss).take k) ∧ Hid (wr.ownsRow w.heap.size 9 1 (.slice (some ⟨w.heap.size, 0, none⟩) ss.length ss.length) ss.length xs) ∧ Hid (Below w.heap.size w wr)) (fun i _ => ss.length - (intOf i).toNat)
  case atStart => exact ⟨0, _, Nat.zero_le _, rfl, hide (by rw [(unhide HO).1]; omega), hide (by simp), HO, HB⟩
  case round =>
    obtain ⟨k, xs, hk, rfl, HL, HT, HO, HB⟩ := hrel
    by_cases hlt : k < ss.length
    · obtain ⟨b, off, rfl, hc, hz⟩ := (unhide HC).below (unhide HB) k hlt
      have hfr := (unhide HO).frozenAt k
      obtain ⟨x0, hcx⟩ : ∃ x, wr.cell? ⟨w.heap.size, k, none⟩ = some x := ⟨_, ((unhide HO).cellAt k (by omega)).trans (List.getElem?_eq_getElem (by rw [unhide HL]; exact hlt))⟩
      have HST := hide ((unhide HO).stored k (.string ss[k]))
      go_wp2
      go_roundw
      case rel =>
        refine ⟨k + 1, xs.set k (.string ss[k]), by omega, by go_num, hide (by rw [List.length_set]; exact unhide HL), hide ?_, hide (unhide HST).1, hide ?_⟩
        · exact set_take' (by rw [unhide HL, strV_length]) (strV_get hlt) (unhide HT)
        · exact (unhide HB).grown (unhide HST).2 (unhide HB).size (fun k h => by cases h; exact Nat.le_refl _)
      case measure => simp [intOf]; omega
    · go_wp2
      go_ret
      have hkn : k = ss.length := by omega
      subst hkn
      have hxs : xs = strV ss := by
        have := unhide HT
        rwa [List.take_of_length_le (by rw [unhide HL]; exact Nat.le_refl _), List.take_of_length_le (by simp [strV])] at this
      subst hxs
      exact ⟨_, rfl, unhide HO, unhide HB⟩

set_option maxHeartbeats 800000 in
theorem toIo_any (h a : Int) (d : ByteArray) (w : World) :
    Calls Try.prog 106 #[.agg #[.int .i64 h, .int .i64 a, .string d]] w fun e w' => e = .returned (.agg #[.int .i64 h, .int .i64 a, .string d]) ∧ Below w.heap.size w w' := by
  go_enter Try.func106, Try.ntmps106
  go_wp2
  exact bodyPost_ret (v := .agg #[.int .i64 h, .int .i64 a, .string d]) (by simp [results, Try.results106, go_sem]) rfl ⟨rfl, (((Below.refl _ _).alloc (Nat.le_refl _) _).alloc (by simp) _).alloc (by simp; omega) _⟩

set_option maxHeartbeats 800000 in
theorem toIoS_any (ao : Option Addr) (cap : Nat) (xs : List Wr) (w : World) (hl : xs.length ≤ 1048576) (hc : Ios w ao xs) :
    Calls Try.prog 89 #[.slice ao xs.length cap] w fun e w' => ∃ g, e = .returned (.slice (some ⟨g, 0, none⟩) xs.length xs.length) ∧ w'.ownsRow w.heap.size 139 3 (.slice (some ⟨g, 0, none⟩) xs.length xs.length) xs.length (ioV xs) ∧ Below w.heap.size w w' := by
  have HC := hide hc
  clear hc
  obtain ⟨i0, hi, hz0, hz1, hz2⟩ := info_parts infoIo
  go_enter Try.func89, Try.ntmps89
  go_wp2_with (first | (at_make; refine wpList_make_full _ rfl _ _ 56 rfl w.heap.size 139 i0 _ 3 Try.underlying56 hi hz0 hz1 _ _ _ _ xs.length rfl rfl rfl rfl ?c1 ?c2 ?c3 ?_))
  case c1 => rw [hz2]; omega
  case c2 => unfold maxLen; omega
  case c3 => exact Nat.le_refl _
  intro w1 hown hgrow
  have hB : Below w.heap.size w w1 := (Below.refl _ _).grown hgrow (Nat.le_refl _) (fun _ h => by cases h)
  have HO := hide hown
  have HB := hide hB
  clear hown hB hgrow
  go_wp2
  go_loopw [4] (fun i wr => ∃ (k : Nat) (ys : List Value), k ≤ xs.length ∧ i = .int .i64 k ∧ Hid (ys.length = xs.length * 3) ∧ Hid (ys.take (k * 3) = (ioV xs).take (k * 3)) ∧ Hid (wr.ownsRow w.heap.size 139 3 (.slice (some ⟨w.heap.size, 0, none⟩) xs.length xs.length) xs.length ys) ∧ Hid (Below w.heap.size w wr)) (fun i _ => xs.length - (intOf i).toNat)
  case atStart => exact ⟨0, _, Nat.zero_le _, rfl, hide (by rw [(unhide HO).1]), hide (by simp), HO, HB⟩
  case round =>
    obtain ⟨k, ys, hk, rfl, HL, HT, HO, HB⟩ := hrel
    by_cases hlt : k < xs.length
    · obtain ⟨b, off, rfl, hc0, hc1, hc2, hz⟩ := (unhide HC).below (unhide HB) k hlt
      clear hz
      go_wp2_with fail
      refine (toIo_any _ _ _ _).mono ?_
      rintro e w2 ⟨rfl, hb2⟩
      have HO2 := hide (own_below (unhide HO) hb2)
      have HB2 := hide ((unhide HB).trans (hb2.mono (unhide HB).size))
      clear hb2
      have hf0 := (unhide HO2).frozenAt (k * 3)
      have hf1 := (unhide HO2).frozenAt (k * 3 + 1)
      have hf2 := (unhide HO2).frozenAt (k * 3 + 2)
      obtain ⟨x0, hx0⟩ : ∃ x, w2.cell? ⟨w.heap.size, k * 3, none⟩ = some x := ⟨_, ((unhide HO2).cellAt (k * 3) (by omega)).trans (List.getElem?_eq_getElem (by rw [unhide HL]; omega))⟩
      obtain ⟨x1, hx1⟩ : ∃ x, w2.cell? ⟨w.heap.size, k * 3 + 1, none⟩ = some x := ⟨_, ((unhide HO2).cellAt (k * 3 + 1) (by omega)).trans (List.getElem?_eq_getElem (by rw [unhide HL]; omega))⟩
      obtain ⟨x2, hx2⟩ : ∃ x, w2.cell? ⟨w.heap.size, k * 3 + 2, none⟩ = some x := ⟨_, ((unhide HO2).cellAt (k * 3 + 2) (by omega)).trans (List.getElem?_eq_getElem (by rw [unhide HL]; omega))⟩
      have HST := hide (stored3 (unhide HO2) (k * 3) (k * 3 + 1) (k * 3 + 2) (.int .i64 xs[k].host) (.int .i64 xs[k].at_) (.string xs[k].data))
      have HBT := hide (below3 (unhide HB2) (Nat.le_refl _) (k * 3) (k * 3 + 1) (k * 3 + 2) (.int .i64 xs[k].host) (.int .i64 xs[k].at_) (.string xs[k].data))
      go_wp2
      go_roundw
      case rel => exact ⟨k + 1, _, by omega, by go_num, hide (by rw [List.length_set, List.length_set, List.length_set]; exact unhide HL), hide (io_take hlt (unhide HL) (unhide HT)), HST, HBT⟩
      case measure => simp [intOf]; omega
    · go_wp2
      go_ret
      have hkn : k = xs.length := by omega
      subst hkn
      have hxs : ys = ioV xs := by
        have := unhide HT
        rwa [List.take_of_length_le (by rw [unhide HL]; exact Nat.le_refl _), List.take_of_length_le (by rw [ioV_length]; exact Nat.le_refl _)] at this
      subst hxs
      exact ⟨_, rfl, unhide HO, unhide HB⟩

set_option maxHeartbeats 800000 in
theorem toDisk_any (ao bo : Option Addr) (ca cb : Nat) (ss : List ByteArray) (xs : List Wr) (w : World) (hl : ss.length ≤ 1048576) (hm : xs.length ≤ 1048576) (hc : Ss w ao ss) (hd : Ios w bo xs) :
    Calls Try.prog 49 #[.agg #[.slice ao ss.length ca, .slice bo xs.length cb]] w fun e w' => ∃ g k, e = .returned (.agg #[.slice (some ⟨g, 0, none⟩) ss.length ss.length, .slice (some ⟨k, 0, none⟩) xs.length xs.length]) ∧
      w'.ownsRow w.heap.size 9 1 (.slice (some ⟨g, 0, none⟩) ss.length ss.length) ss.length (strV ss) ∧ w'.ownsRow w.heap.size 139 3 (.slice (some ⟨k, 0, none⟩) xs.length xs.length) xs.length (ioV xs) ∧ Below w.heap.size w w' := by
  have HC := hide hc
  have HD := hide hd
  clear hc hd
  go_enter Try.func49, Try.ntmps49
  have HA := hide (Joins.below_alloc3 w (.cells #[.slice ao ss.length ca, .slice bo xs.length cb] 48) (.cells #[.slice none 0 0, .slice none 0 0] 58) (.cells #[.slice none 0 0, .slice none 0 0] 58))
  go_wp2_with fail
  refine (toStringS_any ao ca ss _ hl ((unhide HC).below (unhide HA))).mono ?_
  rintro e w1 ⟨g, rfl, ho1, hb1⟩
  have hz1 : w.heap.size + 1 + 1 < w1.heap.size := by have := hb1.size; simp at this; omega
  have hc0 : w1.cell? ⟨w.heap.size, 1, none⟩ = some (.slice bo xs.length cb) := (hb1.cell (by simp; omega)).trans (by simp [go_sem])
  have hc1 : w1.cell? ⟨w.heap.size + 1 + 1, 0, none⟩ = some (.slice none 0 0) := (hb1.cell (by simp)).trans (by simp [go_sem])
  have hc2 : w1.cell? ⟨w.heap.size + 1 + 1, 1, none⟩ = some (.slice none 0 0) := (hb1.cell (by simp)).trans (by simp [go_sem])
  have hc3 : w1.cell? ⟨w.heap.size + 1, 0, none⟩ = some (.slice none 0 0) := (hb1.cell (by simp)).trans (by simp [go_sem])
  have hc4 : w1.cell? ⟨w.heap.size + 1, 1, none⟩ = some (.slice none 0 0) := (hb1.cell (by simp)).trans (by simp [go_sem])
  have hf0 : w1.frozen? ⟨w.heap.size + 1 + 1, 0, none⟩ = false := (hb1.frozen (by simp)).trans (by simp [go_sem])
  have hf1 : w1.frozen? ⟨w.heap.size + 1 + 1, 1, none⟩ = false := (hb1.frozen (by simp)).trans (by simp [go_sem])
  have hf2 : w1.frozen? ⟨w.heap.size + 1, 0, none⟩ = false := (hb1.frozen (by simp)).trans (by simp [go_sem])
  have hf3 : w1.frozen? ⟨w.heap.size + 1, 1, none⟩ = false := (hb1.frozen (by simp)).trans (by simp [go_sem])
  have HO1 := hide ho1
  have HB1 := hide hb1
  clear ho1 hb1
  have HBW := hide (((unhide HA).trans ((unhide HB1).mono (by simp; omega))).setCell (p := ⟨w.heap.size + 1 + 1, 0, none⟩) (by simp; omega) (.slice (some ⟨g, 0, none⟩) ss.length ss.length))
  have HO1' := hide (ownsRow_setCell_below (unhide HO1) (a := ⟨w.heap.size + 1 + 1, 0, none⟩) (by simp) (.slice (some ⟨g, 0, none⟩) ss.length ss.length))
  go_wp2_with fail
  refine (toIoS_any bo cb xs _ hm ((unhide HD).below (unhide HBW))).mono ?_
  rintro e w2 ⟨k, rfl, ho2, hb2⟩
  have hz2 : w.heap.size + 1 + 1 < w2.heap.size := by have := hb2.size; simp at this; omega
  have hd1 : w2.cell? ⟨w.heap.size + 1 + 1, 0, none⟩ = some (.slice (some ⟨g, 0, none⟩) ss.length ss.length) := (hb2.cell (by simp; omega)).trans (by simp [go_sem, hc1])
  have hd2 : w2.cell? ⟨w.heap.size + 1 + 1, 1, none⟩ = some (.slice none 0 0) := (hb2.cell (by simp; omega)).trans (by simp [go_sem, hc2])
  have hd3 : w2.cell? ⟨w.heap.size + 1, 0, none⟩ = some (.slice none 0 0) := (hb2.cell (by simp; omega)).trans (by simp [go_sem, hc3])
  have hd4 : w2.cell? ⟨w.heap.size + 1, 1, none⟩ = some (.slice none 0 0) := (hb2.cell (by simp; omega)).trans (by simp [go_sem, hc4])
  have hg1 : w2.frozen? ⟨w.heap.size + 1 + 1, 1, none⟩ = false := (hb2.frozen (by simp; omega)).trans (by simp [go_sem, hf1])
  have hg2 : w2.frozen? ⟨w.heap.size + 1, 0, none⟩ = false := (hb2.frozen (by simp; omega)).trans (by simp [go_sem, hf2])
  have hg3 : w2.frozen? ⟨w.heap.size + 1, 1, none⟩ = false := (hb2.frozen (by simp; omega)).trans (by simp [go_sem, hf3])
  have HOA := hide (own_below (unhide HO1') hb2)
  have HOB := hide ho2
  have HBA := hide ((unhide HBW).trans (hb2.mono (by simp; omega)))
  clear ho2 hb2 hc0 hc1 hc2 hc3 hc4 hf0 hf1 hf2 hf3
  have hz3 : w.heap.size ≤ w.heap.size + 1 + 1 := by omega
  have HOC := hide (own_base (ownsRow_setCell_below (ownsRow_setCell_below (ownsRow_setCell_below (unhide HOA) (a := ⟨w.heap.size + 1 + 1, 1, none⟩) (by simp) (.slice (some ⟨k, 0, none⟩) xs.length xs.length)) (a := ⟨w.heap.size + 1, 0, none⟩) (by simp) (.slice (some ⟨g, 0, none⟩) ss.length ss.length)) (a := ⟨w.heap.size + 1, 1, none⟩) (by simp) (.slice (some ⟨k, 0, none⟩) xs.length xs.length)) (B' := w.heap.size) (by simp; omega))
  have HOD := hide (own_base (ownsRow_setCell_below (ownsRow_setCell_below (ownsRow_setCell_below (unhide HOB) (a := ⟨w.heap.size + 1 + 1, 1, none⟩) (by simp; omega) (.slice (some ⟨k, 0, none⟩) xs.length xs.length)) (a := ⟨w.heap.size + 1, 0, none⟩) (by simp; omega) (.slice (some ⟨g, 0, none⟩) ss.length ss.length)) (a := ⟨w.heap.size + 1, 1, none⟩) (by simp; omega) (.slice (some ⟨k, 0, none⟩) xs.length xs.length)) (B' := w.heap.size) (by simp; omega))
  have HBC := hide ((((unhide HBA).setCell (p := ⟨w.heap.size + 1 + 1, 1, none⟩) (by simp; omega) (.slice (some ⟨k, 0, none⟩) xs.length xs.length)).setCell (p := ⟨w.heap.size + 1, 0, none⟩) (by simp) (.slice (some ⟨g, 0, none⟩) ss.length ss.length)).setCell (p := ⟨w.heap.size + 1, 1, none⟩) (by simp) (.slice (some ⟨k, 0, none⟩) xs.length xs.length))
  go_wp2
  exact bodyPost_ret (v := .agg #[.slice (some ⟨g, 0, none⟩) ss.length ss.length, .slice (some ⟨k, 0, none⟩) xs.length xs.length]) (by simp [results, Try.results49, go_sem, hd3, hd4]) rfl ⟨g, k, rfl, unhide HOC, unhide HOD, unhide HBC⟩

end Go.Proofs.Ytbmkdbccdnbbjac

namespace Go.Proofs.Ytbmkdbccdnbbjac
open Go.RowKit
set_option linter.unusedVariables false
set_option maxRecDepth 100000

theorem wr_ext {x y : Wr} (h : x.host = y.host ∧ x.at_ = y.at_ ∧ x.data = y.data) : x = y := by cases x; cases y; simp_all

set_option maxHeartbeats 800000 in
theorem eqIo_any (x y : Wr) (w : World) :
    Calls Try.prog 113 #[.agg #[.int .i64 x.host, .int .i64 x.at_, .string x.data], .agg #[.int .i64 y.host, .int .i64 y.at_, .string y.data]] w fun e w' => e = .returned (.bool (wrB x y)) ∧ Below w.heap.size w w' := by
  by_cases h0 : x.host = y.host
  · have b0 : (x.host != y.host) = false := by simp [h0]
    by_cases h1 : x.at_ = y.at_
    · have b1 : (x.at_ != y.at_) = false := by simp [h1]
      by_cases h2 : x.data = y.data
      · have H := hide (wrB_true h0 h1 h2)
        have b2 : (x.data.toList == y.data.toList) = true := by simp [h2]
        clear h0 h1 h2
        go_enter Try.func113, Try.ntmps113
        go_wp2
        go_ret
        exact ⟨ret_bool (unhide H).symm, ((Below.refl _ _).alloc (Nat.le_refl _) _).alloc (by simp) _⟩
      · have H := hide (wrB_false (x := x) (y := y) (fun h => h2 h.2.2))
        have b2 : (x.data.toList == y.data.toList) = false := str_beq_false h2
        clear h0 h1 h2
        go_enter Try.func113, Try.ntmps113
        go_wp2
        go_ret
        exact ⟨ret_bool (unhide H).symm, ((Below.refl _ _).alloc (Nat.le_refl _) _).alloc (by simp) _⟩
    · have H := hide (wrB_false (x := x) (y := y) (fun h => h1 h.2.1))
      have b1 : (x.at_ != y.at_) = true := by simp [h1]
      clear h0 h1
      go_enter Try.func113, Try.ntmps113
      go_wp2
      go_ret
      exact ⟨ret_bool (unhide H).symm, ((Below.refl _ _).alloc (Nat.le_refl _) _).alloc (by simp) _⟩
  · have H := hide (wrB_false (x := x) (y := y) (fun h => h0 h.1))
    have b0 : (x.host != y.host) = true := by simp [h0]
    clear h0
    go_enter Try.func113, Try.ntmps113
    go_wp2
    go_ret
    exact ⟨ret_bool (unhide H).symm, ((Below.refl _ _).alloc (Nat.le_refl _) _).alloc (by simp) _⟩

set_option maxHeartbeats 800000 in
theorem eqStringS_any (ao bo : Option Addr) (ca cb : Nat) (ss tt : List ByteArray) (w : World) (hl : ss.length ≤ maxLen) (hc : Ss w ao ss) (hd : Ss w bo tt) :
    Calls Try.prog 37 #[.slice ao ss.length ca, .slice bo tt.length cb] w fun e w' => e = .returned (.bool (eqSB ss tt)) ∧ Below w.heap.size w w' := by
  have HC := hide hc
  have HD := hide hd
  clear hc hd
  unfold maxLen at hl
  by_cases hle : ss.length = tt.length
  · have hb : ((ss.length : Int) != (tt.length : Int)) = false := by simp [hle]
    have HLE := hide hle
    clear hle
    go_enter Try.func37, Try.ntmps37
    go_wp2
    go_loopw [5] (fun i wr => ∃ k : Nat, k ≤ ss.length ∧ i = .int .i64 k ∧ Hid (∀ j (h : j < ss.length) (h' : j < tt.length), j < k → ss[j] = tt[j]) ∧ Hid (Below w.heap.size w wr)) (fun i _ => ss.length - (intOf i).toNat)
    case atStart => exact ⟨0, Nat.zero_le _, rfl, hide (fun j _ _ h => by omega), hide (Below.refl _ _)⟩
    case round =>
      obtain ⟨k, hk, rfl, HA, HB⟩ := hrel
      by_cases hlt : k < ss.length
      · have hlt' : k < tt.length := by rw [← unhide HLE]; exact hlt
        obtain ⟨b, off, rfl, hc, hz⟩ := (unhide HC).below (unhide HB) k hlt
        obtain ⟨b', off', rfl, hc', hz'⟩ := (unhide HD).below (unhide HB) k hlt'
        clear hz hz'
        by_cases he : ss[k] = tt[k]
        · have HN := hide (eq_succ hlt hlt' (unhide HA) he)
          have be : (ss[k].toList == tt[k].toList) = true := by simp [he]
          clear he
          go_wp2
          go_quiet (fail)
          go_wp2
          go_roundw
          case rel => exact ⟨k + 1, by omega, by go_num, HN, hide ((unhide HB).trans (Joins.below_draws _ _ _))⟩
          case measure => simp [intOf]; omega
        · have H := hide (eqSB_false hlt hlt' he)
          have be : (ss[k].toList == tt[k].toList) = false := str_beq_false he
          clear he
          go_wp2
          go_quiet (fail)
          go_wp2
          go_ret
          exact ⟨ret_bool (unhide H).symm, (unhide HB).trans (Joins.below_draws _ _ _)⟩
      · have H := hide (eqSB_true (unhide HLE) (fun j h h' => unhide HA j h h' (by omega)))
        go_wp2
        go_ret
        exact ⟨ret_bool (unhide H).symm, unhide HB⟩
  · have hb : ((ss.length : Int) != (tt.length : Int)) = true := by simp; omega
    have H := hide (eqSB_false_len hle)
    clear hle
    go_enter Try.func37, Try.ntmps37
    go_wp2
    go_ret
    exact ⟨ret_bool (unhide H).symm, Below.refl _ _⟩

set_option maxHeartbeats 1600000 in
theorem eqIoS_any (ao bo : Option Addr) (ca cb : Nat) (ss tt : List Wr) (w : World) (hl : ss.length ≤ maxLen) (hc : Ios w ao ss) (hd : Ios w bo tt) :
    Calls Try.prog 96 #[.slice ao ss.length ca, .slice bo tt.length cb] w fun e w' => e = .returned (.bool (eqWB ss tt)) ∧ Below w.heap.size w w' := by
  have HC := hide hc
  have HD := hide hd
  clear hc hd
  unfold maxLen at hl
  by_cases hle : ss.length = tt.length
  · have hb : ((ss.length : Int) != (tt.length : Int)) = false := by simp [hle]
    have HLE := hide hle
    clear hle
    go_enter Try.func96, Try.ntmps96
    go_wp2
    go_loopw [5] (fun i wr => ∃ k : Nat, k ≤ ss.length ∧ i = .int .i64 k ∧ Hid (∀ j (h : j < ss.length) (h' : j < tt.length), j < k → ss[j] = tt[j]) ∧ Hid (Below w.heap.size w wr)) (fun i _ => ss.length - (intOf i).toNat)
    case atStart => exact ⟨0, Nat.zero_le _, rfl, hide (fun j _ _ h => by omega), hide (Below.refl _ _)⟩
    case round =>
      obtain ⟨k, hk, rfl, HA, HB⟩ := hrel
      by_cases hlt : k < ss.length
      · have hlt' : k < tt.length := by rw [← unhide HLE]; exact hlt
        obtain ⟨b, off, rfl, hc0, hc1, hc2, hz⟩ := (unhide HC).below (unhide HB) k hlt
        obtain ⟨b', off', rfl, hd0, hd1, hd2, hz'⟩ := (unhide HD).below (unhide HB) k hlt'
        clear hz hz'
        by_cases he : ss[k] = tt[k]
        · have HN := hide (eq_succ hlt hlt' (unhide HA) he)
          have be : wrB ss[k] tt[k] = true := wrB_true (by rw [he]) (by rw [he]) (by rw [he])
          clear he
          go_wp2
          go_region_with (go_at_call 113; refine (eqIo_any _ _ _).mono ?_; rintro e w2 ⟨rfl, hb2⟩)
          all_goals
            have HB2 : Hid (Below w.heap.size w w2) := hide (Below.trans (by repeat (first | exact unhide HB | apply Below.drew)) (hb2.mono (unhide HB).size))
            clear hb2
            go_wp2
            go_roundw
            case rel => exact ⟨k + 1, by omega, by go_num, HN, HB2⟩
            case measure => simp [intOf]; omega
        · have H := hide (eqWB_false hlt hlt' he)
          have be : wrB ss[k] tt[k] = false := wrB_false (fun e => he (wr_ext e))
          clear he
          go_wp2
          go_region_with (go_at_call 113; refine (eqIo_any _ _ _).mono ?_; rintro e w2 ⟨rfl, hb2⟩)
          all_goals
            have HB2 : Hid (Below w.heap.size w w2) := hide (Below.trans (by repeat (first | exact unhide HB | apply Below.drew)) (hb2.mono (unhide HB).size))
            clear hb2
            go_wp2
            go_ret
            exact ⟨ret_bool (unhide H).symm, unhide HB2⟩
      · have H := hide (eqWB_true (unhide HLE) (fun j h h' => unhide HA j h h' (by omega)))
        go_wp2
        go_ret
        exact ⟨ret_bool (unhide H).symm, unhide HB⟩
  · have hb : ((ss.length : Int) != (tt.length : Int)) = true := by simp; omega
    have H := hide (eqWB_false_len hle)
    clear hle
    go_enter Try.func96, Try.ntmps96
    go_wp2
    go_ret
    exact ⟨ret_bool (unhide H).symm, Below.refl _ _⟩

set_option maxHeartbeats 800000 in
theorem eqDisk_any (ao bo co do_ : Option Addr) (ca cb cc cd : Nat) (ss tt : List ByteArray) (xs ys : List Wr) (w : World) (hl : ss.length ≤ maxLen) (hm : xs.length ≤ maxLen) (h1 : Ss w ao ss) (h2 : Ios w bo xs) (h3 : Ss w co tt) (h4 : Ios w do_ ys) :
    Calls Try.prog 56 #[.agg #[.slice ao ss.length ca, .slice bo xs.length cb], .agg #[.slice co tt.length cc, .slice do_ ys.length cd]] w fun e w' => e = .returned (.bool (eqSB ss tt && eqWB xs ys)) ∧ Below w.heap.size w w' := by
  have H1 := hide h1
  have H2 := hide h2
  have H3 := hide h3
  have H4 := hide h4
  have HL := hide hl
  have HM := hide hm
  clear h1 h2 h3 h4 hl hm
  have HA := hide (Joins.below_alloc2 w (.cells #[.slice ao ss.length ca, .slice bo xs.length cb] 58) (.cells #[.slice co tt.length cc, .slice do_ ys.length cd] 58))
  go_enter Try.func56, Try.ntmps56
  go_wp2_with fail
  refine (eqStringS_any ao co ca cc ss tt _ (unhide HL) ((unhide H1).below (unhide HA)) ((unhide H3).below (unhide HA))).mono ?_
  rintro e w1 ⟨rfl, hb1⟩
  have hc0 : w1.cell? ⟨w.heap.size, 1, none⟩ = some (.slice bo xs.length cb) := (hb1.cell (by simp; omega)).trans (by simp [go_sem])
  have hc1 : w1.cell? ⟨w.heap.size + 1, 1, none⟩ = some (.slice do_ ys.length cd) := (hb1.cell (by simp)).trans (by simp [go_sem])
  have HB := hide ((unhide HA).trans (hb1.mono (by simp; omega)))
  clear hb1
  cases h : eqSB ss tt
  · go_wp2
    go_ret
    exact ⟨ret_bool (by rw [h]; rfl), unhide HB⟩
  · go_wp2_with fail
    refine (eqIoS_any bo do_ cb cd xs ys _ (unhide HM) ((unhide H2).below (unhide HB)) ((unhide H4).below (unhide HB))).mono ?_
    rintro e w2 ⟨rfl, hb2⟩
    have HB2 := hide ((unhide HB).trans (hb2.mono (unhide HB).size))
    clear hb2
    cases h' : eqWB xs ys
    · go_wp2
      go_ret
      exact ⟨ret_bool (by rw [h, h']; rfl), unhide HB2⟩
    · go_wp2
      go_ret
      exact ⟨ret_bool (by rw [h, h']; rfl), unhide HB2⟩

end Go.Proofs.Ytbmkdbccdnbbjac

namespace Go.Proofs.Ytbmkdbccdnbbjac
open Go.RowKit
set_option linter.unusedVariables false
set_option maxRecDepth 100000

end Go.Proofs.Ytbmkdbccdnbbjac

namespace Go.Proofs.Ytbmkdbccdnbbjac
open Go.RowKit
set_option linter.unusedVariables false
set_option maxRecDepth 100000

set_option maxHeartbeats 1600000 in
theorem toCfg_any (f d l r : Int) (w : World) : Calls Try.prog 50 #[cfgV f d l r] w fun e w' => e = .returned (cfgV f d l r) ∧ Below w.heap.size w w' := by
  go_enter Try.func50, Try.ntmps50
  go_wp2
  exact bodyPost_ret (v := cfgV f d l r) (by simp [results, Try.results50, go_sem]) rfl ⟨rfl, (((Below.refl _ _).alloc (Nat.le_refl _) _).alloc (by simp) _).alloc (by simp; omega) _⟩

end Go.Proofs.Ytbmkdbccdnbbjac

namespace Go.Proofs.Ytbmkdbccdnbbjac
open Go.RowKit
set_option linter.unusedVariables false
set_option maxRecDepth 100000

theorem infoHs : (Try.prog.info? 90).map (fun i => (i.zero, i.size, i.bytes)) = some (some (.agg #[.int .i64 0, .int .i64 0, .int .i64 0]), 3, 24) := by kernel_rfl
theorem hss_take {ys : List Value} {xs : List Hst} {k : Nat} (hk : k < xs.length) (hl : ys.length = xs.length * 3) (h : ys.take (k * 3) = (hssV xs).take (k * 3)) :
    (((ys.set (k * 3) (.int .i64 xs[k].st)).set (k * 3 + 1) (.int .i64 xs[k].gen)).set (k * 3 + 2) (.int .i64 xs[k].ren)).take ((k + 1) * 3) = (hssV xs).take ((k + 1) * 3) := by
  obtain ⟨h0, h1, h2⟩ := hssV_get hk
  have e0 := set_take' (by rw [hl, hssV_length]) h0 h
  have e1 := set_take' (by rw [List.length_set, hl, hssV_length]) h1 e0
  have e2 := set_take' (by rw [List.length_set, List.length_set, hl, hssV_length]) h2 e1
  rw [show (k + 1) * 3 = k * 3 + 2 + 1 by omega]
  exact e2

set_option maxHeartbeats 1600000 in
theorem toHost_any (x : Hst) (w : World) : Calls Try.prog 90 #[hstV x] w fun e w' => e = .returned (hstV x) ∧ Below w.heap.size w w' := by
  go_enter Try.func90, Try.ntmps90
  go_wp2
  exact bodyPost_ret (v := hstV x) (by simp [results, Try.results90, go_sem]) rfl ⟨rfl, fr (Joins.below_alloc2 _ _ _) (Joins.below_alloc1 _ _)⟩

set_option maxHeartbeats 1600000 in
theorem eqHost_same (x : Hst) (w : World) : Calls Try.prog 97 #[hstV x, hstV x] w fun e w' => e = .returned (.bool true) ∧ Below w.heap.size w w' := by
  go_enter Try.func97, Try.ntmps97
  go_wp2
  go_ret
  exact ⟨rfl, Joins.below_alloc2 _ _ _⟩

set_option maxHeartbeats 1600000 in
theorem toHostS_any (ao : Option Addr) (cap : Nat) (xs : List Hst) (w : World) (hl : xs.length ≤ 1048576) (hc : Hss w ao xs) :
    Calls Try.prog 51 #[.slice ao xs.length cap] w fun e w' => ∃ g, e = .returned (.slice (some ⟨g, 0, none⟩) xs.length xs.length) ∧ w'.ownsRow w.heap.size 90 3 (.slice (some ⟨g, 0, none⟩) xs.length xs.length) xs.length (hssV xs) ∧ Below w.heap.size w w' := by
  have HC := hide hc
  clear hc
  obtain ⟨i0, hi, hz0, hz1, hz2⟩ := info_parts infoHs
  go_enter Try.func51, Try.ntmps51
  go_wp2_with (first | (at_make; refine wpList_make_full _ rfl _ _ 60 rfl w.heap.size 90 i0 _ 3 Try.underlying60 hi hz0 hz1 _ _ _ _ xs.length rfl rfl rfl rfl ?c1 ?c2 ?c3 ?_))
  case c1 => rw [hz2]; omega
  case c2 => unfold maxLen; omega
  case c3 => exact Nat.le_refl _
  intro w1 hown hgrow
  have hB : Below w.heap.size w w1 := (Below.refl _ _).grown hgrow (Nat.le_refl _) (fun _ h => by cases h)
  have HO := hide hown
  have HB := hide hB
  clear hown hB hgrow
  go_wp2
  go_loopw [4] (fun i wr => ∃ (k : Nat) (ys : List Value), k ≤ xs.length ∧ i = .int .i64 k ∧ Hid (ys.length = xs.length * 3) ∧ Hid (ys.take (k * 3) = (hssV xs).take (k * 3)) ∧ Hid (wr.ownsRow w.heap.size 90 3 (.slice (some ⟨w.heap.size, 0, none⟩) xs.length xs.length) xs.length ys) ∧ Hid (Below w.heap.size w wr)) (fun i _ => xs.length - (intOf i).toNat)
  case atStart => exact ⟨0, _, Nat.zero_le _, rfl, hide (by rw [(unhide HO).1]), hide (by simp), HO, HB⟩
  case round =>
    obtain ⟨k, ys, hk, rfl, HL, HT, HO, HB⟩ := hrel
    by_cases hlt : k < xs.length
    · obtain ⟨b, off, rfl, hc0, hc1, hc2⟩ := (unhide HC).below (unhide HB) k hlt
      go_wp2_with fail
      refine (toHost_any xs[k] _).mono ?_
      rintro e w2 ⟨rfl, hb2⟩
      have HO2 := hide (own_below (unhide HO) hb2)
      have HB2 := hide ((unhide HB).trans (hb2.mono (unhide HB).size))
      clear hb2
      have hf0 := (unhide HO2).frozenAt (k * 3)
      have hf1 := (unhide HO2).frozenAt (k * 3 + 1)
      have hf2 := (unhide HO2).frozenAt (k * 3 + 2)
      obtain ⟨x0, hx0⟩ : ∃ x, w2.cell? ⟨w.heap.size, k * 3, none⟩ = some x := ⟨_, ((unhide HO2).cellAt (k * 3) (by omega)).trans (List.getElem?_eq_getElem (by rw [unhide HL]; omega))⟩
      obtain ⟨x1, hx1⟩ : ∃ x, w2.cell? ⟨w.heap.size, k * 3 + 1, none⟩ = some x := ⟨_, ((unhide HO2).cellAt (k * 3 + 1) (by omega)).trans (List.getElem?_eq_getElem (by rw [unhide HL]; omega))⟩
      obtain ⟨x2, hx2⟩ : ∃ x, w2.cell? ⟨w.heap.size, k * 3 + 2, none⟩ = some x := ⟨_, ((unhide HO2).cellAt (k * 3 + 2) (by omega)).trans (List.getElem?_eq_getElem (by rw [unhide HL]; omega))⟩
      have HST := hide (stored3 (unhide HO2) (k * 3) (k * 3 + 1) (k * 3 + 2) (.int .i64 xs[k].st) (.int .i64 xs[k].gen) (.int .i64 xs[k].ren))
      have HBT := hide (below3 (unhide HB2) (Nat.le_refl _) (k * 3) (k * 3 + 1) (k * 3 + 2) (.int .i64 xs[k].st) (.int .i64 xs[k].gen) (.int .i64 xs[k].ren))
      go_wp2
      go_roundw
      case rel => exact ⟨k + 1, _, by omega, by go_num, hide (by rw [List.length_set, List.length_set, List.length_set]; exact unhide HL), hide (hss_take hlt (unhide HL) (unhide HT)), HST, HBT⟩
      case measure => simp [intOf]; omega
    · go_wp2
      go_ret
      have hkn : k = xs.length := by omega
      subst hkn
      have hxs : ys = hssV xs := by
        have := unhide HT
        rwa [List.take_of_length_le (by rw [unhide HL]; exact Nat.le_refl _), List.take_of_length_le (by rw [hssV_length]; exact Nat.le_refl _)] at this
      subst hxs
      exact ⟨_, rfl, unhide HO, unhide HB⟩

set_option maxHeartbeats 1600000 in
theorem eqHostS_same (ao bo : Option Addr) (ca cb : Nat) (xs : List Hst) (w : World) (hl : xs.length ≤ 1048576) (hc : Hss w ao xs) (hd : Hss w bo xs) :
    Calls Try.prog 58 #[.slice ao xs.length ca, .slice bo xs.length cb] w fun e w' => e = .returned (.bool true) ∧ Below w.heap.size w w' := by
  have HC := hide hc
  have HD := hide hd
  clear hc hd
  go_enter Try.func58, Try.ntmps58
  go_wp2
  go_loopw [5] (fun i wr => ∃ k : Nat, k ≤ xs.length ∧ i = .int .i64 k ∧ Hid (Below w.heap.size w wr)) (fun i _ => xs.length - (intOf i).toNat)
  case atStart => exact ⟨0, Nat.zero_le _, rfl, hide (Below.refl _ _)⟩
  case round =>
    obtain ⟨k, hk, rfl, HB⟩ := hrel
    by_cases hlt : k < xs.length
    · obtain ⟨b, off, rfl, hc0, hc1, hc2⟩ := (unhide HC).below (unhide HB) k hlt
      obtain ⟨b', off', rfl, hd0, hd1, hd2⟩ := (unhide HD).below (unhide HB) k hlt
      go_wp2
      go_region_with (go_at_call 97; refine (eqHost_same _ _).mono ?_; rintro e w2 ⟨rfl, hb2⟩)
      all_goals
        have HB2 : Hid (Below w.heap.size w w2) := hide (Below.trans (by repeat (first | exact unhide HB | apply Below.drew)) (hb2.mono (unhide HB).size))
        clear hb2
        go_wp2
        go_roundw
        case rel => exact ⟨k + 1, by omega, by go_num, HB2⟩
        case measure => simp [intOf]; omega
    · go_wp2
      go_ret
      exact ⟨rfl, unhide HB⟩

set_option maxHeartbeats 1600000 in
theorem szHostS_any (ao : Option Addr) (n cap : Nat) (left : Int) (w : World) (hl : n ≤ 9223372036854775807) (h0 : 0 ≤ left) (h1 : left ≤ 1048576) :
    Calls Try.prog 45 #[.slice ao n cap, .int .i64 left] w fun e w' => ∃ r : Int, e = .returned (.int .i64 r) ∧ (0 ≤ r → r = left - n) ∧ r ≤ left ∧ -1 ≤ r ∧ Below w.heap.size w w' := by
  have wr1 : IntKind.i64.wrap (left - (n : Int)) = left - (n : Int) := by rw [IntKind.wrap_i64]; omega
  by_cases h : (left - (n : Int) < 0)
  · go_enter Try.func45, Try.ntmps45
    go_wp2
    go_ret
    exact ⟨-1, rfl, fun h => absurd h (by omega), by omega, by omega, Below.refl _ _⟩
  · go_enter Try.func45, Try.ntmps45
    go_wp2
    go_ret
    exact ⟨left - n, rfl, fun _ => rfl, by omega, by omega, Below.refl _ _⟩

end Go.Proofs.Ytbmkdbccdnbbjac

namespace Go.Proofs.Ytbmkdbccdnbbjac
open Go.RowKit
set_option linter.unusedVariables false
set_option maxRecDepth 100000

set_option maxHeartbeats 1600000 in
theorem toReq_any (q : Rq) (w : World) : Calls Try.prog 9 #[qV q] w fun e w' => e = .returned (qV q) ∧ Below w.heap.size w w' := by
  go_enter Try.func9, Try.ntmps9
  go_wp2
  exact bodyPost_ret (v := qV q) (by simp [results, Try.results9, go_sem]) rfl ⟨rfl, fr (Joins.below_alloc2 _ _ _) (Joins.below_alloc1 _ _)⟩

set_option maxHeartbeats 1600000 in
theorem eqReq_same (q : Rq) (w : World) : Calls Try.prog 59 #[qV q, qV q] w fun e w' => e = .returned (.bool true) ∧ Below w.heap.size w w' := by
  go_enter Try.func59, Try.ntmps59
  go_wp2
  go_ret
  exact ⟨rfl, Joins.below_alloc2 _ _ _⟩

set_option maxHeartbeats 1600000 in
theorem szReq_any (q : Rq) (left : Int) (w : World) (hz : q.n.size ≤ maxLen) (h0 : 0 ≤ left) (h1 : left ≤ 1048576) :
    Calls Try.prog 6 #[qV q, .int .i64 left] w fun e w' => ∃ r : Int, e = .returned (.int .i64 r) ∧ -1 ≤ r ∧ r ≤ left ∧ (0 ≤ r → (q.n.size : Int) ≤ left) ∧ Below w.heap.size w w' := by
  unfold maxLen at hz
  have wr1 : IntKind.i64.wrap (left - (q.n.size : Int)) = left - (q.n.size : Int) := by rw [IntKind.wrap_i64]; omega
  by_cases h : left - (q.n.size : Int) < 0
  · go_enter Try.func6, Try.ntmps6
    go_wp2
    go_ret
    exact ⟨-1, rfl, by omega, by omega, by omega, Joins.below_alloc1 _ _⟩
  · go_enter Try.func6, Try.ntmps6
    go_wp2
    go_ret
    exact ⟨_, rfl, by omega, by omega, by omega, Joins.below_alloc1 _ _⟩

end Go.Proofs.Ytbmkdbccdnbbjac

namespace Go.Proofs.Ytbmkdbccdnbbjac
open Go.RowKit
set_option linter.unusedVariables false
set_option maxRecDepth 100000

theorem szIntS_any (ao : Option Addr) (cap n : Nat) (left : Int) (w : World) (hn : n ≤ maxLen) (h0 : 0 ≤ left) (h1 : left ≤ 1048576) :
    Calls Try.prog 22 #[.slice ao n cap, .int .i64 left] w fun e w' => ∃ r : Int, e = .returned (.int .i64 r) ∧ -1 ≤ r ∧ r ≤ left ∧ (0 ≤ r → r + (n : Int) = left) ∧ w' = w := by
  unfold maxLen at hn
  by_cases h : left - (n : Int) < 0
  · go_enter Try.func22, Try.ntmps22
    go_wp2
    go_ret
    exact ⟨-1, rfl, by omega, by omega, fun h => by omega, rfl⟩
  · go_enter Try.func22, Try.ntmps22
    go_wp2
    go_ret
    exact ⟨left - (n : Int), rfl, by omega, by omega, fun h => by omega, rfl⟩

end Go.Proofs.Ytbmkdbccdnbbjac

namespace Go.Proofs.Ytbmkdbccdnbbjac
open Go.RowKit
set_option linter.unusedVariables false
set_option maxRecDepth 100000

set_option maxHeartbeats 800000 in
theorem szShot_any (s : Snp) (tq : Option Addr) (tc : Nat) (left : Int) (w : World) (hz : s.name.size ≤ maxLen) (hn : s.table.length ≤ maxLen) (h0 : 0 ≤ left) (h1 : left ≤ 1048576) :
    Calls Try.prog 60 #[snV s tq tc, .int .i64 left] w fun e w' => ∃ r : Int, e = .returned (.int .i64 r) ∧ -1 ≤ r ∧ r ≤ left ∧ (0 ≤ r → r + (sn1 s : Int) = left) ∧ Below w.heap.size w w' := by
  have HN := hide hn
  have HA := hide (Joins.below_alloc1 w (.cells #[.string s.name, .slice tq s.table.length tc] 101))
  unfold maxLen at hz
  by_cases h : left - (s.name.size : Int) < 0
  · go_enter Try.func60, Try.ntmps60
    go_wp2
    go_ret
    exact ⟨-1, rfl, by omega, by omega, fun h => by omega, unhide HA⟩
  · go_enter Try.func60, Try.ntmps60
    go_wp2_with fail
    refine (szIntS_any tq tc s.table.length (left - (s.name.size : Int)) _ (unhide HN) (by omega) (by omega)).mono ?_
    rintro e w1 ⟨r, rfl, r0, r1, r2, hw⟩
    replace hw := hw.symm
    subst hw
    by_cases hr : r < 0
    · go_wp2
      go_ret
      exact ⟨-1, rfl, by omega, by omega, fun h => by omega, unhide HA⟩
    · have HR : Hid (r + (sn1 s : Int) = left) := hide (by have := r2 (by omega); unfold sn1; omega)
      clear r2
      go_wp2
      go_ret
      exact ⟨r, rfl, by omega, by omega, fun _ => unhide HR, unhide HA⟩

set_option maxHeartbeats 1600000 in
theorem szShotS_any (ao : Option Addr) (cap : Nat) (ss : List Snp) (left : Int) (w : World) (hn : ss.length ≤ maxLen) (h0 : 0 ≤ left) (h1 : left ≤ 1048576) (hc : Sns w ao ss) :
    Calls Try.prog 23 #[.slice ao ss.length cap, .int .i64 left] w fun e w' => ∃ r : Int, e = .returned (.int .i64 r) ∧ -1 ≤ r ∧ r ≤ left ∧ (0 ≤ r → r + ((ss.length + snSz ss : Nat) : Int) = left) ∧ Below w.heap.size w w' := by
  have HC := hide hc
  clear hc
  unfold maxLen at hn
  by_cases h : left - (ss.length : Int) < 0
  · go_enter Try.func23, Try.ntmps23
    go_wp2
    go_ret
    exact ⟨-1, rfl, by omega, by omega, fun h => by omega, Below.refl _ _⟩
  go_enter Try.func23, Try.ntmps23
  go_wp2
  go_loopw [1, 5] (fun l i wr => ∃ (k : Nat) (r : Int), k ≤ ss.length ∧ i = .int .i64 k ∧ l = .int .i64 r ∧ 0 ≤ r ∧ Hid (r + ((ss.length + snSz (ss.take k) : Nat) : Int) = left) ∧ Hid (Below w.heap.size w wr)) (fun _ i _ => ss.length - (intOf i).toNat)
  case atStart => exact ⟨0, left - (ss.length : Int), Nat.zero_le _, rfl, rfl, by omega, hide (by simp [snSz]), hide (Below.refl _ _)⟩
  case round =>
    obtain ⟨k, r, hk, rfl, rfl, r0, HR, HB⟩ := hrel
    have hrl : r ≤ 1048576 := by have := unhide HR; omega
    by_cases hlt : k < ss.length
    · obtain ⟨b, off, tq, tc, rfl, hc0, hc1, _, hz, hm⟩ := (unhide HC).below (unhide HB) k hlt
      have HZ := hide hz
      have HM := hide hm
      have HS := hide (snSz_take hlt)
      clear hz hm
      go_wp2_with fail
      refine (szShot_any ss[k] tq tc r _ (unhide HZ) (unhide HM) r0 hrl).mono ?_
      rintro e w1 ⟨r', rfl, q0, q1, q2, hb⟩
      have HB2 := hide (fr (unhide HB) hb)
      clear hb hc0 hc1
      by_cases hr : r' < 0
      · go_wp2
        go_ret
        exact ⟨-1, rfl, by omega, by omega, fun h => by omega, unhide HB2⟩
      · have HR2 : Hid (r' + ((ss.length + snSz (ss.take (k + 1)) : Nat) : Int) = left) := hide (by have a := q2 (by omega); have b := unhide HR; rw [unhide HS]; omega)
        clear q2
        go_wp2
        go_roundw
        case rel => exact ⟨k + 1, r', by omega, by go_num, rfl, by omega, HR2, HB2⟩
        case measure => simp [intOf]; omega
    · have HR2 : Hid (r + ((ss.length + snSz ss : Nat) : Int) = left) := hide (by have := unhide HR; rw [List.take_of_length_le (by omega)] at this; exact this)
      go_wp2
      go_ret
      exact ⟨r, rfl, by omega, by have := unhide HR; omega, fun _ => unhide HR2, unhide HB⟩

set_option maxHeartbeats 1600000 in
theorem szGuest_any (a : Gs4) (g : Gst) (left : Int) (w : World) (hv : g.vals.length ≤ maxLen) (hs : g.shots.length ≤ maxLen) (h0 : 0 ≤ left) (h1 : left ≤ 1048576) (hc : GsS w a g) :
    Calls Try.prog 5 #[gsV a g, .int .i64 left] w fun e w' => ∃ r : Int, e = .returned (.int .i64 r) ∧ -1 ≤ r ∧ r ≤ left ∧ (0 ≤ r → r + (gsSz g : Int) = left) ∧ Below w.heap.size w w' := by
  have HA := hide (Joins.below_alloc1 w (.cells #[.slice a.vo g.vals.length a.vc, .slice a.so g.shots.length a.sc] 25))
  have HC := hide (hc.below (unhide HA))
  have HV := hide hv
  have HS := hide hs
  clear hc hv hs
  go_enter Try.func5, Try.ntmps5
  go_wp2_with fail
  refine (szIntS_any a.vo a.vc g.vals.length left _ (unhide HV) h0 h1).mono ?_
  rintro e w1 ⟨r, rfl, r0, r1, r2, hw⟩
  replace hw := hw.symm
  subst hw
  by_cases hr : r < 0
  · go_wp2
    go_ret
    exact ⟨-1, rfl, by omega, by omega, fun h => by omega, unhide HA⟩
  have q1 := r2 (by omega)
  clear r2
  go_wp2_with fail
  refine (szShotS_any a.so a.sc g.shots r _ (unhide HS) (by omega) (by omega) (unhide HC).s).mono ?_
  rintro e w2 ⟨r3, rfl, u0, u1, u2, hb⟩
  have HB2 := hide (fr (unhide HA) hb)
  clear hb
  by_cases hr3 : r3 < 0
  · go_wp2
    go_ret
    exact ⟨-1, rfl, by omega, by omega, fun h => by omega, unhide HB2⟩
  have q3 := u2 (by omega)
  have HQ : Hid (r3 + (gsSz g : Int) = left) := hide (by unfold gsSz; omega)
  clear u2 q1 q3
  go_wp2
  go_ret
  exact ⟨r3, rfl, by omega, by omega, fun _ => unhide HQ, unhide HB2⟩

end Go.Proofs.Ytbmkdbccdnbbjac

namespace Go.Proofs.Ytbmkdbccdnbbjac
open Go.RowKit
set_option linter.unusedVariables false
set_option maxRecDepth 100000

theorem infoSh : (Try.prog.info? 104).map (fun i => (i.zero, i.size, i.bytes)) = some (some (.agg #[.string ⟨#[]⟩, .slice none 0 0]), 2, 40) := by kernel_rfl

set_option maxHeartbeats 1600000 in
theorem toShot_any (s : Snp) (tq : Option Addr) (tc : Nat) (w : World) (hl : s.table.length ≤ 1048576) (hc : Is w tq s.table) :
    Calls Try.prog 67 #[snV s tq tc] w fun e w' => ∃ g, e = .returned (snV s (some ⟨g, 0, none⟩) s.table.length) ∧ OwnN w' w.heap.size (.slice (some ⟨g, 0, none⟩) s.table.length s.table.length) s.table ∧ Below w.heap.size w w' := by
  have HA := hide (Joins.below_alloc3 w (.cells #[.string s.name, .slice tq s.table.length tc] 101) (.cells #[.string ⟨#[]⟩, .slice none 0 0] 104) (.cells #[.string s.name, .slice none 0 0] 104))
  have HC := hide (hc.below (unhide HA))
  clear hc
  go_enter Try.func67, Try.ntmps67
  go_wp2_with fail
  refine (toIntS_any tq tc s.table _ hl (unhide HC)).mono ?_
  rintro e w1 ⟨g, rfl, ho1, hb1⟩
  have hz1 : w.heap.size + 1 + 1 < w1.heap.size := by have := hb1.size; simp at this; omega
  have hc1 : w1.cell? ⟨w.heap.size + 1 + 1, 0, none⟩ = some (.string s.name) := (hb1.cell (by simp)).trans (by simp [go_sem])
  have hc2 : w1.cell? ⟨w.heap.size + 1 + 1, 1, none⟩ = some (.slice none 0 0) := (hb1.cell (by simp)).trans (by simp [go_sem])
  have hc3 : w1.cell? ⟨w.heap.size + 1, 0, none⟩ = some (.string ⟨#[]⟩) := (hb1.cell (by simp)).trans (by simp [go_sem])
  have hc4 : w1.cell? ⟨w.heap.size + 1, 1, none⟩ = some (.slice none 0 0) := (hb1.cell (by simp)).trans (by simp [go_sem])
  have hf0 : w1.frozen? ⟨w.heap.size + 1 + 1, 0, none⟩ = false := (hb1.frozen (by simp)).trans (by simp [go_sem])
  have hf1 : w1.frozen? ⟨w.heap.size + 1 + 1, 1, none⟩ = false := (hb1.frozen (by simp)).trans (by simp [go_sem])
  have hf2 : w1.frozen? ⟨w.heap.size + 1, 0, none⟩ = false := (hb1.frozen (by simp)).trans (by simp [go_sem])
  have hf3 : w1.frozen? ⟨w.heap.size + 1, 1, none⟩ = false := (hb1.frozen (by simp)).trans (by simp [go_sem])
  have HO1 := hide (OwnR.of ho1 (fun e => ⟨_, by rw [e]⟩))
  have HB1 := hide (fr (unhide HA) hb1)
  clear ho1 hb1
  have HO2 := hide ((((unhide HO1).setCell (a := ⟨w.heap.size + 1 + 1, 1, none⟩) (by simp) (.slice (some ⟨g, 0, none⟩) s.table.length s.table.length)).setCell (a := ⟨w.heap.size + 1, 0, none⟩) (by simp) (.string s.name)).setCell (a := ⟨w.heap.size + 1, 1, none⟩) (by simp) (.slice (some ⟨g, 0, none⟩) s.table.length s.table.length))
  have HB2 := hide ((((unhide HB1).setCell (p := ⟨w.heap.size + 1 + 1, 1, none⟩) (by simp; omega) (.slice (some ⟨g, 0, none⟩) s.table.length s.table.length)).setCell (p := ⟨w.heap.size + 1, 0, none⟩) (by simp) (.string s.name)).setCell (p := ⟨w.heap.size + 1, 1, none⟩) (by simp) (.slice (some ⟨g, 0, none⟩) s.table.length s.table.length))
  go_wp2
  refine bodyPost_ret (v := snV s (some ⟨g, 0, none⟩) s.table.length) (by simp [results, Try.results67, go_sem, hc3, hc4]) rfl ⟨g, rfl, ?_, unhide HB2⟩
  exact ⟨some ⟨g, 0, none⟩, s.table.length, rfl, (unhide HO2).base (by simp; omega)⟩

set_option maxHeartbeats 1600000 in
theorem toShotS_any (ao : Option Addr) (cap : Nat) (ss : List Snp) (w : World) (hl : ss.length ≤ 1048576) (hm : ∀ s ∈ ss, s.table.length ≤ 1048576) (hc : Sns w ao ss) :
    Calls Try.prog 28 #[.slice ao ss.length cap] w fun e w' => ∃ g ts, e = .returned (.slice (some ⟨g, 0, none⟩) ss.length ss.length) ∧ ts.length = ss.length ∧ w'.ownsRow w.heap.size 104 2 (.slice (some ⟨g, 0, none⟩) ss.length ss.length) ss.length (snC ss ts) ∧ OwnA w' w.heap.size (ts.zip (ss.map (·.table))) ∧ Below w.heap.size w w' := by
  have HC := hide hc
  have HM := hide hm
  clear hc hm
  obtain ⟨i0, hi, hz0, hz1, hz2⟩ := info_parts infoSh
  go_enter Try.func28, Try.ntmps28
  go_wp2_with (first | (at_make; refine wpList_make_full _ rfl _ _ 30 rfl w.heap.size 104 i0 _ 2 Try.underlying30 hi hz0 hz1 _ _ _ _ ss.length rfl rfl rfl rfl ?c1 ?c2 ?c3 ?_))
  case c1 => rw [hz2]; omega
  case c2 => unfold maxLen; omega
  case c3 => exact Nat.le_refl _
  intro w1 hown hgrow
  have hB : Below w.heap.size w w1 := (Below.refl _ _).grown hgrow (Nat.le_refl _) (fun _ h => by cases h)
  have hsz : w.heap.size + 1 ≤ w1.heap.size := by
    rcases hown.2 with ⟨h, _⟩ | ⟨g, cap, cur, h, _, hg, _⟩
    · cases h
    · cases h
      exact (Array.getElem?_eq_some_iff.1 hg).1
  have HO := hide hown
  have HB := hide hB
  have HZ := hide hsz
  clear hown hB hgrow hsz
  go_wp2
  go_loopw [4] (fun i wr => ∃ (k : Nat) (ys ts : List Value), k ≤ ss.length ∧ i = .int .i64 k ∧ Hid (ys.length = ss.length * 2) ∧ Hid (ts.length = k) ∧ Hid (ys.take (k * 2) = snC (ss.take k) ts) ∧ Hid (wr.ownsRow w.heap.size 104 2 (.slice (some ⟨w.heap.size, 0, none⟩) ss.length ss.length) ss.length ys) ∧ Hid (OwnA wr (w.heap.size + 1) (ts.zip ((ss.take k).map (·.table)))) ∧ Hid (w.heap.size + 1 ≤ wr.heap.size) ∧ Hid (Below w.heap.size w wr)) (fun i _ => ss.length - (intOf i).toNat)
  case atStart => exact ⟨0, _, [], Nat.zero_le _, rfl, hide (by rw [(unhide HO).1]), hide rfl, hide (by simp [snC]), HO, hide (OwnA.nil _ _), HZ, HB⟩
  case round =>
    obtain ⟨k, ys, ts, hk, rfl, HL, HK, HT, HO, HA, HZ, HB⟩ := hrel
    by_cases hlt : k < ss.length
    · obtain ⟨b, off, tq, tc, rfl, hc0, hc1, hd, hz, hm⟩ := (unhide HC).below (unhide HB) k hlt
      have HD := hide hd
      clear hz hm hd
      go_wp2_with fail
      refine (toShot_any ss[k] tq tc _ (unhide HM _ (List.getElem_mem hlt)) (unhide HD)).mono ?_
      rintro e w2 ⟨g, rfl, ho2, hb2⟩
      have HO2 := hide (own_below (unhide HO) hb2)
      have HA2 := hide ((unhide HA).snoc hb2 ho2 (unhide HZ))
      have HZ2 := hide (Nat.le_trans (unhide HZ) hb2.size)
      have HB2 := hide ((unhide HB).trans (hb2.mono (unhide HB).size))
      clear hb2 ho2
      have hf0 := (unhide HO2).frozenAt (k * 2)
      have hf1 := (unhide HO2).frozenAt (k * 2 + 1)
      obtain ⟨x0, hx0⟩ : ∃ x, w2.cell? ⟨w.heap.size, k * 2, none⟩ = some x := ⟨_, ((unhide HO2).cellAt (k * 2) (by omega)).trans (List.getElem?_eq_getElem (by rw [unhide HL]; omega))⟩
      obtain ⟨x1, hx1⟩ : ∃ x, w2.cell? ⟨w.heap.size, k * 2 + 1, none⟩ = some x := ⟨_, ((unhide HO2).cellAt (k * 2 + 1) (by omega)).trans (List.getElem?_eq_getElem (by rw [unhide HL]; omega))⟩
      have HST := hide (sn_put2 (unhide HO2) (k * 2) (k * 2 + 1) (.string ss[k].name) (.slice (some ⟨g, 0, none⟩) ss[k].table.length ss[k].table.length))
      have HBT := hide (sn_below2 (unhide HB2) (Nat.le_refl _) (k * 2) (k * 2 + 1) (.string ss[k].name) (.slice (some ⟨g, 0, none⟩) ss[k].table.length ss[k].table.length))
      have HAT := hide (((unhide HA2).setCell (a := ⟨w.heap.size, k * 2, none⟩) (Nat.lt_succ_self _) (.string ss[k].name)).setCell (a := ⟨w.heap.size, k * 2 + 1, none⟩) (Nat.lt_succ_self _) (.slice (some ⟨g, 0, none⟩) ss[k].table.length ss[k].table.length))
      rw [← sn_zip hlt (unhide HK)] at HAT
      go_wp2
      go_roundw
      case rel => exact ⟨k + 1, _, ts ++ [.slice (some ⟨g, 0, none⟩) ss[k].table.length ss[k].table.length], by omega, by go_num, hide (by rw [List.length_set, List.length_set]; exact unhide HL), hide (by rw [List.length_append, unhide HK]; rfl), hide (sn_take hlt (unhide HL) (unhide HK) (unhide HT) _), HST, HAT, hide (by simpa using unhide HZ2), HBT⟩
      case measure => simp [intOf]; omega
    · go_wp2
      go_ret
      have hkn : k = ss.length := by omega
      subst hkn
      have hxs : ys = snC ss ts := by
        have := unhide HT
        rwa [List.take_of_length_le (by rw [unhide HL]; exact Nat.le_refl _), List.take_of_length_le (Nat.le_refl _)] at this
      subst hxs
      have ha := unhide HA
      rw [List.take_of_length_le (Nat.le_refl _)] at ha
      exact ⟨_, ts, rfl, unhide HK, unhide HO, ha.base (Nat.le_succ _), unhide HB⟩

structure VarG3 (w0 w : World) (a0 a1 v0 v1 : Value) : Prop where
  a : VarG w w0.heap.size 25 a0 a1
  r : VarG w (w0.heap.size + 1) 32 (.slice none 0 0) (.slice none 0 0)
  o : VarG w (w0.heap.size + 1 + 1) 32 v0 v1
  b : Below w0.heap.size w0 w
theorem VarG3.new (w : World) (a0 a1 : Value) : VarG3 w (((w.alloc (.cells #[a0, a1] 25)).alloc (.cells #[.slice none 0 0, .slice none 0 0] 32)).alloc (.cells #[.slice none 0 0, .slice none 0 0] 32)) a0 a1 (.slice none 0 0) (.slice none 0 0) :=
  ⟨((VarG.new w _ _ _).below (Joins.below_alloc1 _ _)).below (Joins.below_alloc1 _ _), ((VarG.new (w.alloc _) _ _ _).below (Joins.below_alloc1 _ _)).at (by simp), (VarG.new ((w.alloc _).alloc _) _ _ _).at (by simp), Joins.below_alloc3 w _ _ _⟩
theorem VarG3.below {w0 w w' : World} {a0 a1 v0 v1 : Value} (h : VarG3 w0 w a0 a1 v0 v1) (hb : Below w.heap.size w w') : VarG3 w0 w' a0 a1 v0 v1 := ⟨h.a.below hb, h.r.below hb, h.o.below hb, h.b.trans (hb.mono h.b.size)⟩
theorem VarG3.set0 {w0 w : World} {a0 a1 v0 v1 : Value} (h : VarG3 w0 w a0 a1 v0 v1) (u : Value) : VarG3 w0 (w.setCell ⟨w0.heap.size + 1 + 1, 0, none⟩ u) a0 a1 u v1 := ⟨h.a.other (by simp; omega) u, h.r.other (by simp) u, h.o.set0 u, h.b.setCell (p := ⟨w0.heap.size + 1 + 1, 0, none⟩) (by simp; omega) u⟩
theorem VarG3.lt {w0 w : World} {a0 a1 v0 v1 : Value} (h : VarG3 w0 w a0 a1 v0 v1) : w0.heap.size + 3 ≤ w.heap.size := h.o.lt

set_option maxHeartbeats 3200000 in
theorem toGuest_any (a : Gs4) (g : Gst) (w : World) (hv : g.vals.length ≤ 1048576) (hs : g.shots.length ≤ 1048576) (hm : ∀ s ∈ g.shots, s.table.length ≤ 1048576) (hc : GsS w a g) :
    Calls Try.prog 8 #[gsV a g] w fun e w' => ∃ a' ts, e = .returned (gsV a' g) ∧ OwnGs w' w.heap.size a' g ts ∧ Below w.heap.size w w' := by
  have HV0 := hide (VarG3.new w (.slice a.vo g.vals.length a.vc) (.slice a.so g.shots.length a.sc))
  have HC := hide hc
  have HM := hide hm
  have HR := hide hv
  have HS := hide hs
  clear hc hm hv hs
  go_enter Try.func8, Try.ntmps8
  go_wp2_with fail
  refine (toIntS_any a.vo a.vc g.vals _ (unhide HR) ((unhide HC).below (unhide HV0).b).v).mono ?_
  rintro e w1 ⟨g1, rfl, ho1, hb1⟩
  have HA1 := hide (OwnA.one (B := w.heap.size + 3) ⟨_, _, rfl, (OwnR.of ho1 (fun e => ⟨_, by rw [e]⟩)).base (unhide HV0).lt⟩)
  have HV1 := hide ((unhide HV0).below hb1)
  clear ho1 hb1 HV0
  obtain ⟨ca0p, ca1p⟩ := (unhide HV1).a.cells
  obtain ⟨cr0p, cr1p⟩ := (unhide HV1).r.cells
  obtain ⟨co0p, co1p⟩ := (unhide HV1).o.cells
  obtain ⟨fo0p, fo1p⟩ := (unhide HV1).o.free
  obtain ⟨fr0p, fr1p⟩ := (unhide HV1).r.free
  have HV1s := hide ((unhide HV1).set0 (.slice (some ⟨g1, 0, none⟩) g.vals.length g.vals.length))
  have HA1s := hide ((unhide HA1).setCell (a := ⟨w.heap.size + 1 + 1, 0, none⟩) (by simp) (.slice (some ⟨g1, 0, none⟩) g.vals.length g.vals.length))
  clear HV1 HA1
  go_wp2_with fail
  refine (toShotS_any a.so a.sc g.shots _ (unhide HS) (unhide HM) ((unhide HC).below (unhide HV1s).b).s).mono ?_
  rintro e w3 ⟨g3, ts, rfl, hts, ho3, ha3, hb3⟩
  have HA3 := hide ((unhide HA1s).append hb3 ha3 (unhide HV1s).lt)
  have HO3 := hide ((OwnR.of ho3 (fun e => ⟨_, by rw [e]⟩)).base (unhide HV1s).lt)
  have HV3 := hide ((unhide HV1s).below hb3)
  have HTS := hide hts
  clear ho3 hb3 ha3 hts HV1s HA1s
  clear ca0p ca1p cr0p cr1p co0p co1p fo0p fo1p fr0p fr1p
  obtain ⟨ca0s, ca1s⟩ := (unhide HV3).a.cells
  obtain ⟨cr0s, cr1s⟩ := (unhide HV3).r.cells
  obtain ⟨co0s, co1s⟩ := (unhide HV3).o.cells
  obtain ⟨fo0s, fo1s⟩ := (unhide HV3).o.free
  obtain ⟨fr0s, fr1s⟩ := (unhide HV3).r.free
  have HA5 := hide ((((unhide HA3).setCell (a := ⟨w.heap.size + 1 + 1, 1, none⟩) (by simp; try omega) (.slice (some ⟨g3, 0, none⟩) g.shots.length g.shots.length)).setCell (a := ⟨w.heap.size + 1, 0, none⟩) (by simp; try omega) (.slice (some ⟨g1, 0, none⟩) g.vals.length g.vals.length)).setCell (a := ⟨w.heap.size + 1, 1, none⟩) (by simp; try omega) (.slice (some ⟨g3, 0, none⟩) g.shots.length g.shots.length))
  have HO5 := hide ((((unhide HO3).setCell (a := ⟨w.heap.size + 1 + 1, 1, none⟩) (by simp; try omega) (.slice (some ⟨g3, 0, none⟩) g.shots.length g.shots.length)).setCell (a := ⟨w.heap.size + 1, 0, none⟩) (by simp; try omega) (.slice (some ⟨g1, 0, none⟩) g.vals.length g.vals.length)).setCell (a := ⟨w.heap.size + 1, 1, none⟩) (by simp; try omega) (.slice (some ⟨g3, 0, none⟩) g.shots.length g.shots.length))
  have HB5 := hide ((((unhide HV3).b.setCell (p := ⟨w.heap.size + 1 + 1, 1, none⟩) (by simp; try omega) (.slice (some ⟨g3, 0, none⟩) g.shots.length g.shots.length)).setCell (p := ⟨w.heap.size + 1, 0, none⟩) (by simp; try omega) (.slice (some ⟨g1, 0, none⟩) g.vals.length g.vals.length)).setCell (p := ⟨w.heap.size + 1, 1, none⟩) (by simp; try omega) (.slice (some ⟨g3, 0, none⟩) g.shots.length g.shots.length))
  clear HV3 HA3 HO3
  go_wp2
  refine bodyPost_ret (v := gsV ⟨some ⟨g1, 0, none⟩, g.vals.length, some ⟨g3, 0, none⟩, g.shots.length⟩ g) (by simp [results, Try.results8, go_sem, cr0s, cr1s]) rfl ⟨⟨some ⟨g1, 0, none⟩, g.vals.length, some ⟨g3, 0, none⟩, g.shots.length⟩, ts, rfl, ?_, unhide HB5⟩
  exact ⟨(unhide HTS).symm, ((unhide HO5).base (by omega)).toS, (unhide HA5).base (by omega)⟩

end Go.Proofs.Ytbmkdbccdnbbjac

namespace Go.Proofs.Ytbmkdbccdnbbjac
open Go.RowKit
set_option linter.unusedVariables false
set_option maxRecDepth 100000

theorem eqInts_same (ao bo : Option Addr) (ca cb : Nat) (xs : List Int) (w : World) (hl : xs.length ≤ maxLen) (hc : Is w ao xs) (hd : Is w bo xs) :
    Calls Try.prog 35 #[.slice ao xs.length ca, .slice bo xs.length cb] w fun e w' => e = .returned (.bool true) ∧ Below w.heap.size w w' := by
  refine (eqIntS_any ao bo ca cb xs xs w hl hc hd).mono ?_
  rintro e w' ⟨rfl, hb⟩
  rw [eqNB_self]
  exact ⟨rfl, hb⟩

end Go.Proofs.Ytbmkdbccdnbbjac

namespace Go.Proofs.Ytbmkdbccdnbbjac
open Go.RowKit
set_option linter.unusedVariables false
set_option maxRecDepth 100000

set_option maxHeartbeats 800000 in
theorem eqShot_same (s : Snp) (p q : Option Addr) (pc qc : Nat) (w : World) (hn : s.table.length ≤ maxLen) (h1 : Is w p s.table) (h2 : Is w q s.table) :
    Calls Try.prog 80 #[snV s p pc, snV s q qc] w fun e w' => e = .returned (.bool true) ∧ Below w.heap.size w w' := by
  have HA := hide (Joins.below_alloc2 w (.cells #[.string s.name, .slice p s.table.length pc] 104) (.cells #[.string s.name, .slice q s.table.length qc] 104))
  have H1 := hide (h1.below (unhide HA))
  have H2 := hide (h2.below (unhide HA))
  have HN := hide hn
  clear h1 h2 hn
  go_enter Try.func80, Try.ntmps80
  go_wp2_with fail
  refine (eqInts_same p q pc qc s.table _ (unhide HN) (unhide H1) (unhide H2)).mono ?_
  rintro e w1 ⟨rfl, hb⟩
  have HB := hide (fr (unhide HA) hb)
  clear hb
  go_wp2
  go_ret
  exact ⟨rfl, unhide HB⟩

set_option maxHeartbeats 1600000 in
theorem eqShotS_same (ao bo : Option Addr) (ca cb : Nat) (ss : List Snp) (w : World) (hn : ss.length ≤ maxLen) (h1 : Sns w ao ss) (h2 : Sns w bo ss) :
    Calls Try.prog 36 #[.slice ao ss.length ca, .slice bo ss.length cb] w fun e w' => e = .returned (.bool true) ∧ Below w.heap.size w w' := by
  have H1 := hide h1
  have H2 := hide h2
  clear h1 h2
  unfold maxLen at hn
  go_enter Try.func36, Try.ntmps36
  go_wp2
  go_loopw [5] (fun i wr => ∃ k : Nat, k ≤ ss.length ∧ i = .int .i64 k ∧ Hid (Below w.heap.size w wr)) (fun i _ => ss.length - (intOf i).toNat)
  case atStart => exact ⟨0, Nat.zero_le _, rfl, hide (Below.refl _ _)⟩
  case round =>
    obtain ⟨k, hk, rfl, HB⟩ := hrel
    by_cases hlt : k < ss.length
    · obtain ⟨b, off, tq, tc, rfl, hc0, hc1, i1, _, hm⟩ := (unhide H1).below (unhide HB) k hlt
      obtain ⟨b', off', tq', tc', rfl, hd0, hd1, i2, _, _⟩ := (unhide H2).below (unhide HB) k hlt
      have hki : (k : Int) < (ss.length : Int) := by omega
      have hk0 : (0 : Int) ≤ (k : Int) := by omega
      have HCALL : Hid (∀ W, Below wr.heap.size wr W → Calls Try.prog 80 #[snV ss[k] tq tc, snV ss[k] tq' tc'] W fun e w' => e = .returned (.bool true) ∧ Below W.heap.size W w') := hide (fun W hW => eqShot_same ss[k] tq tq' tc tc' W hm (i1.below hW) (i2.below hW))
      have l1 := World.block_lt_of_cell? _ _ hc0
      have l2 := World.block_lt_of_cell? _ _ hd0
      clear i1 i2 hm
      go_wp2_with fail
      go_region_held3 (fun w' => w'.cell? ⟨b, off + k * 2, none⟩ = some (.string ss[k].name) ∧ w'.cell? ⟨b, off + k * 2 + 1, none⟩ = some (.slice tq ss[k].table.length tc) ∧ w'.cell? ⟨b', off' + k * 2, none⟩ = some (.string ss[k].name) ∧ w'.cell? ⟨b', off' + k * 2 + 1, none⟩ = some (.slice tq' ss[k].table.length tc')) (go_keep)
        ((go_at_call 80; refine (unhide HCALL _ (by exact (Below.refl _ wr).drew)).mono ?_; rintro e w1 ⟨rfl, hb⟩; have HB1 := hide (fr (Below.refl _ wr).drew hb); have m0 := ((unhide HB1).cell (p := ⟨b, off + k * 2, none⟩) l1).trans hc0; have m1 := ((unhide HB1).cell (p := ⟨b, off + k * 2 + 1, none⟩) l1).trans hc1; have m2 := ((unhide HB1).cell (p := ⟨b', off' + k * 2, none⟩) l2).trans hd0; have m3 := ((unhide HB1).cell (p := ⟨b', off' + k * 2 + 1, none⟩) l2).trans hd1; clear hb))
      all_goals
        go_wp2
        go_roundw
        case rel => exact ⟨k + 1, by omega, by go_num, hide (fr (unhide HB) (unhide HB1))⟩
        case measure => simp [intOf]; omega
    · go_wp2
      go_ret
      exact ⟨rfl, unhide HB⟩

set_option maxHeartbeats 1600000 in
theorem eqGuest_same (a b : Gs4) (g : Gst) (w : World) (hv : g.vals.length ≤ maxLen) (hs : g.shots.length ≤ maxLen) (h1 : GsS w a g) (h2 : GsS w b g) :
    Calls Try.prog 11 #[gsV a g, gsV b g] w fun e w' => e = .returned (.bool true) ∧ Below w.heap.size w w' := by
  have HA := hide (Joins.below_alloc2 w (.cells #[.slice a.vo g.vals.length a.vc, .slice a.so g.shots.length a.sc] 32) (.cells #[.slice b.vo g.vals.length b.vc, .slice b.so g.shots.length b.sc] 32))
  have HV := hide ((VarG.new w 32 (.slice a.vo g.vals.length a.vc) (.slice a.so g.shots.length a.sc)).below (Joins.below_alloc1 _ (.cells #[.slice b.vo g.vals.length b.vc, .slice b.so g.shots.length b.sc] 32)))
  have HU := hide ((VarG.new (w.alloc (.cells #[.slice a.vo g.vals.length a.vc, .slice a.so g.shots.length a.sc] 32)) 32 (.slice b.vo g.vals.length b.vc) (.slice b.so g.shots.length b.sc)).at (show _ = w.heap.size + 1 by simp))
  have H1 := hide (h1.below (unhide HA))
  have H2 := hide (h2.below (unhide HA))
  have HR := hide hv
  have HS := hide hs
  clear h1 h2 hv hs
  go_enter Try.func11, Try.ntmps11
  go_upto_region 1 with fail
  revert HA HV HU H1 H2
  generalize ((w.alloc _).alloc _) = W0
  intro HA HV HU H1 H2
  obtain ⟨c0, c1⟩ := (unhide HV).cells
  obtain ⟨d0, d1⟩ := (unhide HU).cells
  go_wp2_with fail
  refine (eqInts_same a.vo b.vo a.vc b.vc g.vals _ (unhide HR) (unhide H1).v (unhide H2).v).mono ?_
  rintro e w1 ⟨rfl, hb⟩
  have HB1 := hide hb
  clear hb c0 c1 d0 d1
  obtain ⟨c0, c1⟩ := ((unhide HV).below (unhide HB1)).cells
  obtain ⟨d0, d1⟩ := ((unhide HU).below (unhide HB1)).cells
  go_wp2_with fail
  refine (eqShotS_same a.so b.so a.sc b.sc g.shots _ (unhide HS) ((unhide H1).below (unhide HB1)).s ((unhide H2).below (unhide HB1)).s).mono ?_
  rintro e w3 ⟨rfl, hb⟩
  have HB4 := hide (fr (unhide HA) (fr (unhide HB1) hb))
  clear hb c0 c1 d0 d1
  go_wp2
  go_ret
  exact ⟨rfl, unhide HB4⟩

end Go.Proofs.Ytbmkdbccdnbbjac

namespace Go.Proofs.Ytbmkdbccdnbbjac
open Go.RowKit
set_option linter.unusedVariables false
set_option maxRecDepth 100000

end Go.Proofs.Ytbmkdbccdnbbjac

namespace Go.Proofs.Ytbmkdbccdnbbjac
open Go.RowKit
set_option linter.unusedVariables false
set_option maxRecDepth 100000

end Go.Proofs.Ytbmkdbccdnbbjac
