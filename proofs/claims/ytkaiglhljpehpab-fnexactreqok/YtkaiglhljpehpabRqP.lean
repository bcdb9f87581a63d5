/- Requests, plainly: what is right, what use each is of, what stands in memory. -/
import Derived.Test.YtkaiglhljpehpabGen
import Derived.Test.YtkaiglhljpehpabInts
import Derived.Test.YtkaiglhljpehpabClkB
import Derived.WalkKit
import Derived.Laws.StructEq
namespace Go.Proofs.Ytkaiglhljpehpab
open Go.RowKit
set_option linter.unusedVariables false
set_option maxRecDepth 100000

structure Rq where
  k : Int
  g : Int
  v : Int
  n : ByteArray
abbrev noB : ByteArray := ⟨#[]⟩
abbrev qV (q : Rq) : Value := .agg #[.int .i64 q.k, .int .i64 q.g, .int .i64 q.v, .string q.n]
/-- What is left of a request when what it has no use for is gone. -/
def plR (q : Rq) : Rq :=
  if q.k = 1 then ⟨1, q.g, 0, noB⟩ else if q.k = 2 then ⟨2, q.g, q.v, noB⟩ else if q.k = 3 then ⟨3, q.g, 0, noB⟩ else if q.k = 4 then ⟨4, q.g, 0, noB⟩
  else if q.k = 5 then ⟨5, 0, 0, q.n⟩ else if q.k = 6 then ⟨6, 0, 0, q.n⟩ else if q.k = 7 then ⟨7, 0, 0, q.n⟩ else ⟨8, 0, 0, noB⟩
def noN (n : ByteArray) : Bool := n.toList.isEmpty
/-- The fields that must be nothing are. -/
def useB (q : Rq) : Bool :=
  if q.k = 1 ∨ q.k = 3 ∨ q.k = 4 then q.v == 0 && noN q.n
  else if q.k = 2 then noN q.n
  else if q.k = 8 then q.g == 0 && q.v == 0 && noN q.n
  else q.g == 0 && q.v == 0
def rqB (q : Rq) : Bool := betw q.k 1 8 && decide (q.n.size ≤ 65536) && useB q
def eqR (a b : Rq) : Bool := a.k == b.k && (a.g == b.g && (a.v == b.v && a.n.toList == b.n.toList))
theorem rq_k (q : Rq) : q.k = 1 ∨ q.k = 2 ∨ q.k = 3 ∨ q.k = 4 ∨ q.k = 5 ∨ q.k = 6 ∨ q.k = 7 ∨ q.k = 8 ∨ (betw q.k 1 8 = false ∧ ¬ q.k = 1 ∧ ¬ q.k = 2 ∧ ¬ q.k = 3 ∧ ¬ q.k = 4 ∧ ¬ q.k = 5 ∧ ¬ q.k = 6 ∧ ¬ q.k = 7 ∧ ¬ q.k = 8) := by
  by_cases h : 1 ≤ q.k ∧ q.k ≤ 8
  · omega
  · refine .inr (.inr (.inr (.inr (.inr (.inr (.inr (.inr ⟨?_, by omega, by omega, by omega, by omega, by omega, by omega, by omega, by omega⟩)))))))
    cases hb : betw q.k 1 8 with
    | false => rfl
    | true => exact absurd (betw_iff.1 hb) h
theorem noB_list : noB.toList = [] := by rw [ByteArray.toList_eq]
theorem noN_eq (n : ByteArray) : (noB.toList == n.toList) = noN n := by
  unfold noN
  rw [noB_list]
  cases n.toList with
  | nil => rfl
  | cons a b => rfl
theorem zer_eq (x : Int) : ((0 : Int) == x) = (x == 0) := BEq.comm
theorem rq_plain1 (g v : Int) (n : ByteArray) (k : Int) (hk : k = 1 ∨ k = 3 ∨ k = 4) : eqR (plR ⟨k, g, v, n⟩) ⟨k, g, v, n⟩ = (v == 0 && noN n) := by
  rcases hk with rfl | rfl | rfl
  all_goals
    show (_ == _ && (g == g && (((0 : Int) == v) && (noB.toList == n.toList)))) = _
    rw [zer_eq, noN_eq, beq_self_eq_true]; rfl
theorem rq_plain5 (g v : Int) (n : ByteArray) (k : Int) (hk : k = 5 ∨ k = 6 ∨ k = 7) : eqR (plR ⟨k, g, v, n⟩) ⟨k, g, v, n⟩ = (g == 0 && v == 0) := by
  rcases hk with rfl | rfl | rfl
  all_goals
    show (_ == _ && (((0 : Int) == g) && (((0 : Int) == v) && (n.toList == n.toList)))) = _
    rw [zer_eq, zer_eq, beq_self_eq_true, Bool.and_true]; rfl
theorem rq_plain (q : Rq) : (decide (q.n.size ≤ 65536) && eqR (plR q) q) = rqB q := by
  obtain ⟨k, g, v, n⟩ := q
  unfold rqB
  show (decide (n.size ≤ 65536) && _) = (betw k 1 8 && decide (n.size ≤ 65536) && _)
  generalize decide (n.size ≤ 65536) = D
  rcases rq_k ⟨k, g, v, n⟩ with h | h | h | h | h | h | h | h | ⟨hb, h1, h2, h3, h4, h5, h6, h7, h8⟩
  · replace h : k = 1 := h
    rw [rq_plain1 g v n k (by omega)]; subst h; rfl
  · replace h : k = 2 := h
    subst h
    show (D && (_ == _ && (g == g && (v == v && (noB.toList == n.toList))))) = (_ && D && noN n)
    rw [noN_eq, beq_self_eq_true, beq_self_eq_true]; rfl
  · replace h : k = 3 := h
    rw [rq_plain1 g v n k (by omega)]; subst h; rfl
  · replace h : k = 4 := h
    rw [rq_plain1 g v n k (by omega)]; subst h; rfl
  · replace h : k = 5 := h
    rw [rq_plain5 g v n k (by omega)]; subst h; rfl
  · replace h : k = 6 := h
    rw [rq_plain5 g v n k (by omega)]; subst h; rfl
  · replace h : k = 7 := h
    rw [rq_plain5 g v n k (by omega)]; subst h; rfl
  · replace h : k = 8 := h
    subst h
    show (D && (_ == _ && (((0 : Int) == g) && (((0 : Int) == v) && (noB.toList == n.toList))))) = (_ && D && (g == 0 && v == 0 && noN n))
    rw [noN_eq, zer_eq, zer_eq, Bool.and_assoc, Bool.and_assoc (g == 0)]; rfl
  · replace hb : betw k 1 8 = false := hb
    rw [hb]
    have e : eqR (plR ⟨k, g, v, n⟩) ⟨k, g, v, n⟩ = false := by
      simp only [plR, if_neg h1, if_neg h2, if_neg h3, if_neg h4, if_neg h5, if_neg h6, if_neg h7, eqR]
      rw [beq_eq_false_iff_ne.2 (fun e => h8 e.symm)]; rfl
    rw [e]; cases D <;> rfl

end Go.Proofs.Ytkaiglhljpehpab
