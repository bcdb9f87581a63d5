import Derived.Test.YtboolfckaagfoaaPart1
import Derived.WalkKit
import Derived.Test.YtboolfckaagfoaaPart2
import Derived.ProofKit
import Derived.OpenShut
import Derived.ShutString
import Derived.WalkSpells
import Derived.SliceStrings
import Derived.Lib.SmallJoins
import Derived.Test.YtboolfckaagfoaaRows
import Derived.BigQuiet
import Derived.Deep.QuietTactic
import Derived.Deep.RegionWith
import Derived.Laws.BytesArg
import Derived.Laws.CopyRow
import Derived.Laws.CopyOwn
import Derived.Outline
import Derived.Deep.RegionLawGrows
import Derived.Deep.RegionHeld3

/- Plain words of journals: updates, their texts, slots, moves. -/
namespace Go.Proofs.Ytboolfckaagfoaa
open Go.RowKit
set_option linter.unusedVariables false

structure Up where
  at_ : Int
  data : ByteArray
theorem Up.eq_iff {x y : Up} : x = y ↔ x.at_ = y.at_ ∧ x.data = y.data := by
  cases x; cases y; simp
abbrev uV (u : Up) : Value := .agg #[.int .i64 u.at_, .string u.data]
def up0 : Up := ⟨0, ⟨#[]⟩⟩
def upB (u : Up) : Bool := inB u.at_ 9 38 && decide (u.data.size ≤ 72)
theorem upB_iff {u : Up} : upB u = true ↔ (9 ≤ u.at_ ∧ u.at_ ≤ 38) ∧ u.data.size ≤ 72 := by
  simp only [upB, inB, Bool.and_eq_true, decide_eq_true_eq]
/-- Its text. -/
def encU (u : Up) : ByteArray := sealS 8 [u.at_] ++ u.data
theorem encU_size (u : Up) : (encU u).size = 8 + u.data.size := by rw [encU, ByteArray.size_append, sealS_size]; rfl
def euC (u : Up) : Int := if upB u = true then 0 else 1
def euR (u : Up) : ByteArray := if upB u = true then encU u else ⟨#[]⟩
/-- What a text says. -/
abbrev duH (t : ByteArray) : ByteArray := t.extract 0 8
abbrev duT (t : ByteArray) : ByteArray := t.extract 8 t.size
def duL (t : ByteArray) : List Int := openL (duH t) 8
def duX (t : ByteArray) : Up := ⟨(duL t).getD 0 0, duT t⟩
def duB (t : ByteArray) : Bool := decide (8 ≤ t.size) && (openB (duH t) 8 && upB (duX t))
def duU (t : ByteArray) : Up := if duB t = true then duX t else up0
theorem duH_size {t : ByteArray} (h : 8 ≤ t.size) : (duH t).size = 8 := by simp [duH]; omega
theorem duT_size (t : ByteArray) : (duT t).size = t.size - 8 := by simp [duT]
theorem duB_short {t : ByteArray} (h : t.size < 8) : duB t = false := by simp [duB]; omega
theorem duB_open {t : ByteArray} (h : openB (duH t) 8 = false) : duB t = false := by simp [duB, h]
theorem duL_one {t : ByteArray} (h : 8 ≤ t.size) (ho : openB (duH t) 8 = true) : (duL t).length = 1 := by
  rw [duL, openL_yes ho, unL_length, bodyT_size, duH_size h]
theorem duL_eq {t : ByteArray} (h : 8 ≤ t.size) (ho : openB (duH t) 8 = true) : duL t = [(duX t).at_] := by
  have := duL_one h ho
  show duL t = [(duL t).getD 0 0]
  match hq : duL t, this with
  | [a], _ => rfl
theorem duX_at {t : ByteArray} {a : Int} (h : duL t = [a]) : duX t = ⟨a, duT t⟩ := by rw [duX, h]; rfl
theorem duB_at {t : ByteArray} (h : 8 ≤ t.size) (ho : openB (duH t) 8 = true) : duB t = upB (duX t) := by simp [duB, ho, h]
theorem du_no {t : ByteArray} (h : duB t = false) : duU t = up0 := by simp [duU, h]
theorem du_yes {t : ByteArray} (h : duB t = true) : duU t = duX t := if_pos h
theorem duB_parts {t : ByteArray} (h : duB t = true) : 8 ≤ t.size ∧ openB (duH t) 8 = true ∧ upB (duX t) = true := by
  simpa [duB, and_assoc] using h
theorem du_right {t : ByteArray} (h : duB t = true) : upB (duU t) = true := by rw [du_yes h]; exact (duB_parts h).2.2
/-- What DecodeUpdate answers. -/
def dkC (t : ByteArray) : Int := if 65536 < t.size then 2 else if duB t = true then 0 else 3
def dkU (t : ByteArray) : Up := if 65536 < t.size then up0 else duU t
theorem dk_long {t : ByteArray} (h : 65536 < t.size) : dkU t = up0 ∧ dkC t = 2 := ⟨if_pos h, if_pos h⟩
theorem dk_no {t : ByteArray} (h : ¬ 65536 < t.size) (hd : duB t = false) : dkU t = up0 ∧ dkC t = 3 := ⟨(if_neg h).trans (du_no hd), (if_neg h).trans (if_neg (by simp [hd]))⟩
theorem dk_yes {t : ByteArray} (h : ¬ 65536 < t.size) (hd : duB t = true) : dkU t = duU t ∧ dkC t = 0 := ⟨if_neg h, (if_neg h).trans (if_pos hd)⟩
theorem ret_ui {a b : Up} {x y : Int} (h : a = b) (k : x = y) : Ending.returned (.tuple #[uV a, .int .i64 x]) = .returned (.tuple #[uV b, .int .i64 y]) := by rw [h, k]
theorem ret_ub {a b : Up} {x y : Bool} (h : a = b) (k : x = y) : Ending.returned (.tuple #[uV a, .bool x]) = .returned (.tuple #[uV b, .bool y]) := by rw [h, k]
theorem ret_su {a b : ByteArray} {c d : Int} (h : a = b) (k : c = d) : Ending.returned (.tuple #[.string a, .int .i64 c]) = .returned (.tuple #[.string b, .int .i64 d]) := by rw [h, k]
/-- One in a variable. -/
def VarU (w : World) (x : Nat) (t : TypeId) (u : Up) : Prop := w.heap[x]? = some (.cells #[.int .i64 u.at_, .string u.data] t (0, 0))
theorem VarU.lt {w : World} {x t : Nat} {u : Up} (k : VarU w x t u) : x < w.heap.size := (Array.getElem?_eq_some_iff.1 k).1
theorem VarU.cells {w : World} {x t : Nat} {u : Up} (k : VarU w x t u) : w.cell? ⟨x, 0, none⟩ = some (.int .i64 u.at_) ∧ w.cell? ⟨x, 1, none⟩ = some (.string u.data) := ⟨by rw [Joins.cell_of_block k]; rfl, by rw [Joins.cell_of_block k]; rfl⟩
theorem VarU.free {w : World} {x t : Nat} {u : Up} (k : VarU w x t u) : w.frozen? ⟨x, 0, none⟩ = false ∧ w.frozen? ⟨x, 1, none⟩ = false := ⟨Joins.unfrozen_of_block k 0, Joins.unfrozen_of_block k 1⟩
theorem VarU.below {w w' : World} {x t : Nat} {u : Up} (k : VarU w x t u) (hb : Below w.heap.size w w') : VarU w' x t u := by
  unfold VarU; rw [hb.block x k.lt]; exact k
theorem VarU.new (w : World) (t : TypeId) (u : Up) : VarU (w.alloc (.cells #[.int .i64 u.at_, .string u.data] t)) w.heap.size t u := heap_alloc_new w _
theorem below2 {w0 w : World} {B g : Nat} (h : Below B w0 w) (hg : B ≤ g) (i j : Nat) (u v : Value) : Below B w0 ((w.setCell ⟨g, i, none⟩ u).setCell ⟨g, j, none⟩ v) :=
  (h.setCell (p := ⟨g, i, none⟩) hg u).setCell (p := ⟨g, j, none⟩) hg v

theorem u1_nums {u : Up} (hd : upB u = true) : ∀ j (hj : j < [u.at_].length), 0 ≤ [u.at_][j] ∧ [u.at_][j] ≤ 2147483647 := by
  obtain ⟨h1, h2⟩ := upB_iff.1 hd
  intro j hj
  have hj' : j < 1 := hj
  rcases (show j = 0 by omega) with rfl
  simp; omega
theorem u1_ints {u : Up} (hd : upB u = true) : intsB [u.at_] = true := by
  obtain ⟨h1, h2⟩ := upB_iff.1 hd
  rw [intsB_len]
  · rfl
  · intro j hj
    have hj' : j < 1 := hj
    rcases (show j = 0 by omega) with rfl
    simp [numB, inB]; omega
theorem u1_seal {u : Up} (hd : upB u = true) : sealC 8 [u.at_] = 0 ∧ sealT 8 [u.at_] = sealS 8 [u.at_] := by
  have hc : sealC 8 [u.at_] = 0 := sealC_ok (listC_ok (by simp) (u1_ints hd)) rfl
  exact ⟨hc, sealT_ok hc⟩
/-- A slot's place. -/
def slN (h : Int) : Int := 39 + 6 * h
def slC (h : Int) : Int := if inB h 0 3 = true then 0 else 4
def slR (h : Int) : Int := if inB h 0 3 = true then slN h else 0
theorem is1 (w : World) (n : Nat) (t : TypeId) (a : Int) (hn : w.heap.size = n) : Is (w.alloc (.cells #[.int .i64 a] t)) (some ⟨n, 0, none⟩) [a] := by
  subst hn
  intro i hi
  have hi' : i < 1 := hi
  rcases (show i = 0 by omega) with rfl
  exact ⟨w.heap.size, 0, rfl, by simp [go_sem]⟩
theorem is2 (w : World) (n : Nat) (t : TypeId) (a b : Int) (hn : w.heap.size = n) : Is (w.alloc (.cells #[.int .i64 a, .int .i64 b] t)) (some ⟨n, 0, none⟩) [a, b] := by
  subst hn
  intro i hi
  have hi' : i < 2 := hi
  rcases (show i = 0 ∨ i = 1 by omega) with rfl | rfl
  · exact ⟨w.heap.size, 0, rfl, by simp [go_sem]⟩
  · exact ⟨w.heap.size, 0, rfl, by simp [go_sem]⟩
end Go.Proofs.Ytboolfckaagfoaa

/- Plain: rows of updates, two cells each. -/
namespace Go.Proofs.Ytboolfckaagfoaa
open Go.RowKit
set_option linter.unusedVariables false

def Ups (w : World) (ao : Option Addr) (xs : List Up) : Prop := ∀ i (h : i < xs.length), ∃ b off, ao = some ⟨b, off, none⟩ ∧
  w.cell? ⟨b, off + i * 2, none⟩ = some (.int .i64 xs[i].at_) ∧ w.cell? ⟨b, off + i * 2 + 1, none⟩ = some (.string xs[i].data) ∧ xs[i].data.size ≤ maxLen
theorem Ups.below {w w' : World} {ao : Option Addr} {xs : List Up} (h : Ups w ao xs) (hb : Below w.heap.size w w') : Ups w' ao xs := fun i hi => by
  obtain ⟨b, off, e, h0, h1, hz⟩ := h i hi
  exact ⟨b, off, e, (hb.cell (p := ⟨b, off + i * 2, none⟩) (World.block_lt_of_cell? _ _ h0)).trans h0, (hb.cell (p := ⟨b, off + i * 2 + 1, none⟩) (World.block_lt_of_cell? _ _ h1)).trans h1, hz⟩
theorem Ups.sizes {w : World} {ao : Option Addr} {xs : List Up} (h : Ups w ao xs) : ∀ x ∈ xs, x.data.size ≤ maxLen := fun x hx => by
  obtain ⟨i, hi, rfl⟩ := List.mem_iff_getElem.1 hx
  obtain ⟨_, _, _, _, _, hz⟩ := h i hi
  exact hz
theorem Ups.nil (w : World) (ao : Option Addr) : Ups w ao [] := fun i hi => absurd hi (Nat.not_lt_zero _)
def upsV (xs : List Up) : List Value := xs.flatMap fun x => [.int .i64 x.at_, .string x.data]
theorem upsV_length (xs : List Up) : (upsV xs).length = xs.length * 2 := by
  induction xs with
  | nil => rfl
  | cons x xs ih => simp only [upsV, List.flatMap_cons, List.length_append, List.length_cons, List.length_nil] at ih ⊢; omega
theorem upsV_cons (x : Up) (xs : List Up) : upsV (x :: xs) = [.int .i64 x.at_, .string x.data] ++ upsV xs := rfl
theorem upsV_append (xs ys : List Up) : upsV (xs ++ ys) = upsV xs ++ upsV ys := by simp [upsV]
theorem upsV_get : ∀ {xs : List Up} {i : Nat} (h : i < xs.length), (upsV xs)[i * 2]? = some (.int .i64 xs[i].at_) ∧ (upsV xs)[i * 2 + 1]? = some (.string xs[i].data)
  | [], _, h => absurd h (Nat.not_lt_zero _)
  | x :: xs, 0, _ => by simp [upsV_cons]
  | x :: xs, i + 1, h => by
    have ih := upsV_get (xs := xs) (i := i) (by simpa using h)
    rw [upsV_cons, show (i + 1) * 2 = i * 2 + 2 by omega]
    refine ⟨?_, ?_⟩
    · rw [List.getElem?_append_right (by simp)]; simpa using ih.1
    · rw [List.getElem?_append_right (by simp)]; simpa [Nat.add_right_comm] using ih.2
theorem ownUps {w : World} {B e cap : Nat} {ao : Option Addr} {xs : List Up} (h : OwnR w B e 2 (.slice ao xs.length cap) xs.length (upsV xs)) (hz : ∀ x ∈ xs, x.data.size ≤ maxLen) : Ups w ao xs := by
  rcases h with ⟨h0, _⟩ | ⟨hp, h⟩
  · intro i hi; omega
  · obtain ⟨g, cap', cur, e0, _, _⟩ := own_form hp h
    simp only [Value.slice.injEq, true_and] at e0
    obtain ⟨rfl, rfl⟩ := e0
    intro i hi
    obtain ⟨g0, g1⟩ := upsV_get hi
    refine ⟨g, 0, rfl, ?_, ?_, hz _ (List.getElem_mem hi)⟩
    · rw [Nat.zero_add, h.cellAt _ (by omega)]; exact g0
    · rw [Nat.zero_add, h.cellAt _ (by omega)]; exact g1
theorem ownMv {w : World} {B e cap : Nat} {ao : Option Addr} {xs : List Wr} (h : OwnR w B e 3 (.slice ao xs.length cap) xs.length (ioV xs)) (hz : ∀ x ∈ xs, x.data.size ≤ maxLen) : Ios w ao xs := by
  rcases h with ⟨h0, _⟩ | ⟨hp, h⟩
  · intro i hi; omega
  · exact ownI h hz
theorem stored2 {w : World} {B e size g n cap : Nat} {xs : List Value} (h : w.ownsRow B e size (.slice (some ⟨g, 0, none⟩) n cap) n xs) (i j : Nat) (u v : Value) :
    ((w.setCell ⟨g, i, none⟩ u).setCell ⟨g, j, none⟩ v).ownsRow B e size (.slice (some ⟨g, 0, none⟩) n cap) n ((xs.set i u).set j v) :=
  ((h.stored i u).1.stored j v).1
theorem ups_take {ys : List Value} {xs : List Up} {k : Nat} (hk : k < xs.length) (hl : ys.length = xs.length * 2) (h : ys.take (k * 2) = (upsV xs).take (k * 2)) :
    ((ys.set (k * 2) (.int .i64 xs[k].at_)).set (k * 2 + 1) (.string xs[k].data)).take ((k + 1) * 2) = (upsV xs).take ((k + 1) * 2) := by
  obtain ⟨h0, h1⟩ := upsV_get hk
  have e0 := set_take' (by rw [hl, upsV_length]) h0 h
  have e1 := set_take' (by rw [List.length_set, hl, upsV_length]) h1 e0
  rw [show (k + 1) * 2 = k * 2 + 1 + 1 by omega]
  exact e1
theorem Ups.at {w : World} {ao : Option Addr} {xs : List Up} (h : Ups w ao xs) (hp : 0 < xs.length) : ∃ b off, ao = some ⟨b, off, none⟩ ∧ b < w.heap.size ∧ ∀ j v, (upsV xs)[j]? = some v → w.cell? (Addr.add ⟨b, off, none⟩ j) = some v := by
  obtain ⟨b, off, rfl, c0, _, _⟩ := h 0 hp
  refine ⟨b, off, rfl, World.block_lt_of_cell? _ _ c0, fun j v hj => ?_⟩
  have hj' : j < xs.length * 2 := by have := (List.getElem?_eq_some_iff.1 hj).1; rwa [upsV_length] at this
  obtain ⟨b', off', e, k0, k1, _⟩ := h (j / 2) (by omega)
  cases e
  obtain ⟨g0, g1⟩ := upsV_get (xs := xs) (i := j / 2) (by omega)
  have ha : (⟨b, off, none⟩ : Addr).add j = ⟨b, off + j, none⟩ := by unfold Addr.add; by_cases hz : j = 0 <;> simp [hz]
  rw [ha]
  rcases (show j = j / 2 * 2 ∨ j = j / 2 * 2 + 1 by omega) with hm | hm
  · rw [hm] at hj ⊢; rw [g0] at hj; cases hj; exact k0
  · rw [hm] at hj ⊢; rw [g1] at hj; cases hj; exact k1
theorem Ups.src {w : World} {ao : Option Addr} {xs : List Up} (h : Ups w ao xs) : 0 < xs.length → ∃ ad, ao = some ad ∧ ∀ j u, (upsV xs)[j]? = some u → w.cell? (ad.add j) = some u := fun hp => by
  obtain ⟨b, off, rfl, _, hc⟩ := h.at hp
  exact ⟨_, rfl, hc⟩
/-- Alike ones. -/
def decUp (x y : Up) : Decidable (x = y) := decidable_of_iff (x.at_ = y.at_ ∧ x.data = y.data) Up.eq_iff.symm
end Go.Proofs.Ytboolfckaagfoaa

/- An update that came in, opened; a list of updates; a list of moves. -/
namespace Go.Proofs.Ytboolfckaagfoaa
open Go.ChangeShapes Go.WideShapes Go.ChangeAt Go.RowKit Go.Deep
set_option linter.unusedVariables false
set_option maxRecDepth 100000
theorem open_up {H : Type} {enc : TypeId × Value → H} {w : World} {base b0 : Nat} {r : Reach} {spare : Nat → Bool} {held : Bool} {v : Value} {d : DataW H} {p : List MemPlace}
    (hv : Value.okWide Try.prog w r b0 26 v) (h : DataW.Trod enc Try.prog w base spare held 26 v d p) : ∃ x : Up, v = uV x ∧ x.data.size ≤ maxLen := by
  obtain ⟨c0, c1, y0, y1, n, rfl, _, _, t0, t1⟩ := Joins.open_agg2 Try.underlying26 (by kernel_rfl) (by kernel_rfl) hv h
  obtain ⟨z0, q0, _⟩ := DataW.trod_int Try.underlying3 t0
  obtain ⟨z1, q1, _, hz⟩ := DataW.trod_string Try.underlying9 t1
  simp only [List.cons.injEq, and_true] at q0 q1
  subst q0 q1
  exact ⟨⟨z0, z1⟩, rfl, hz⟩
section
variable {H : Type} {enc : TypeId × Value → H} {P : Program} {w : World} {base : Nat} {spare : Nat → Bool} {held : Bool}
theorem cells2 {a : Addr} {cs : List Value} (h : w.cells? base a 2 = some cs) : ∃ c0 c1, cs = [c0, c1] ∧ w.cell? (a.add 0) = some c0 ∧ w.cell? (a.add 1) = some c1 := by
  unfold World.cells? at h
  split at h
  · simp only [List.range, List.range.loop, List.mapM_cons, List.mapM_nil, Option.bind_eq_bind, Option.pure_def, Option.bind_eq_some_iff, Option.some.injEq] at h
    obtain ⟨c0, h0, r0, ⟨c1, h1, r1, hr1, rfl⟩, rfl⟩ := h
    subst hr1
    exact ⟨c0, c1, rfl, h0, h1⟩
  · cases h
theorem open_Ups {t e ti ts : TypeId} {f0 f1 : Field} {fuel : Nat} {v : Value} {x : DataW H × List MemPlace} (ht : P.underlying t = some (.slice e)) (he : P.underlying e = some (.struct #[f0, f1]))
    (hi : P.underlying ti = some (.int .i64)) (hs : P.underlying ts = some .string) (e0 : f0.type = ti ∧ f0.offset = 0) (e1 : f1.type = ts ∧ f1.offset = 1)
    (ci : P.cellsOf ti = 1) (cs : P.cellsOf ts = 1) (ce : P.cellsOf e = 2)
    (h : DataW.trod enc P w base spare held fuel t [v] = some x) : ∃ ao cap xs, v = .slice ao xs.length cap ∧ xs.length ≤ maxLen ∧ Ups w ao xs := by
  rcases open_slice ht h with ⟨hcs, _⟩ | ⟨a, len, cap, m, n, D, Pl, hcs, _, hl, hmx, hm, _, hel⟩
  · simp only [List.cons.injEq, and_true] at hcs
    subst hcs
    exact ⟨none, 0, [], rfl, Nat.zero_le _, fun i hi => absurd hi (Nat.not_lt_zero _)⟩
  · simp only [List.cons.injEq, and_true] at hcs
    subst hcs
    have hlm : len ≤ m := by rw [hm]; split <;> omega
    have each : ∀ i, i < len → ∃ y : Up, w.cell? ((a.add (i * 2)).add 0) = some (.int .i64 y.at_) ∧ w.cell? ((a.add (i * 2)).add 1) = some (.string y.data) ∧ y.data.size ≤ maxLen := by
      intro i hi'
      obtain ⟨cs', hc, hd⟩ := hel i (by omega)
      rw [ce] at hc
      obtain ⟨c0, c1, rfl, k0, k1⟩ := cells2 hc
      obtain ⟨y0, y1, n', _, _, t0, t1⟩ := trod_struct2 he hd
      rw [e0.1, e0.2, ci] at t0
      rw [e1.1, e1.2, cs] at t1
      obtain ⟨z0, q0, _⟩ := DataW.trod_int hi t0
      obtain ⟨z1, q1, _, hz⟩ := DataW.trod_string hs t1
      simp at q0 q1
      subst q0 q1
      exact ⟨⟨z0, z1⟩, k0, k1, hz⟩
    haveI : Inhabited Up := ⟨up0⟩
    obtain ⟨f, hf⟩ := choose_lt (α := Up) each
    have htl : ((List.range len).map f).length = len := by simp
    refine ⟨some a, cap, (List.range len).map f, by rw [htl], by omega, fun i hi' => ?_⟩
    have hi2 : i < len := by omega
    have h0 : a.spot = none := by
      obtain ⟨g0, _⟩ := hf 0 (by omega)
      have := World.cell?_spot g0
      simpa [Addr.add] using this
    obtain ⟨g0, g1, gz⟩ := hf i hi2
    have hg : ((List.range len).map f)[i] = f i := by simp
    have hsp : (a.add (i * 2)).spot = none := by rw [add_form h0]
    rw [add_form hsp, add_form h0] at g0 g1
    refine ⟨a.block, a.off, ?_, ?_, ?_, ?_⟩
    · cases a; simp_all
    · rw [hg]; exact g0
    · rw [hg]; exact g1
    · rw [hg]; exact gz
end
theorem cUp : Try.prog.cellsOf 26 = 2 := by kernel_rfl
theorem open_updates {H : Type} {enc : TypeId × Value → H} {w : World} {base b0 : Nat} {r : Reach} {spare : Nat → Bool} {held : Bool} {v : Value} {d : DataW H} {p : List MemPlace}
    (hv : Value.okWide Try.prog w r b0 33 v) (h : DataW.Trod enc Try.prog w base spare held 33 v d p) : ∃ ao ca xs, v = .slice ao xs.length ca ∧ xs.length ≤ maxLen ∧ Ups w ao xs := by
  obtain ⟨a, l, c, rfl⟩ := okWide_slice Try.underlying33 hv
  obtain ⟨fuel, hf⟩ := h
  exact open_Ups Try.underlying33 Try.underlying26 Try.underlying3 Try.underlying9 ⟨rfl, rfl⟩ ⟨rfl, rfl⟩ cInt cStr cUp (by simpa [Value.cells] using hf)
end Go.Proofs.Ytboolfckaagfoaa

/- Contracts of the laws' marks: markText, markDisk, heldDisk. -/
namespace Go.Proofs.Ytboolfckaagfoaa
open Go.RowKit
set_option linter.unusedVariables false
set_option maxRecDepth 100000

/-- The decimal digits of a number, as bytes; none of 0. -/
def digsF : Nat → Nat → List UInt8
  | 0, _ => []
  | f + 1, n => if n = 0 then [] else digsF f (n / 10) ++ [UInt8.ofNat (48 + n % 10)]
theorem digsF_more : ∀ (f n g : Nat), n ≤ f → n ≤ g → digsF f n = digsF g n
  | 0, n, g, h, _ => by
    have : n = 0 := by omega
    subst this
    cases g <;> simp [digsF]
  | f + 1, n, 0, _, h => by
    have : n = 0 := by omega
    subst this
    simp [digsF]
  | f + 1, n, g + 1, h1, h2 => by
    by_cases h : n = 0
    · subst h; simp [digsF]
    · rw [digsF, digsF, if_neg h, if_neg h, digsF_more f (n / 10) g (by omega) (by omega)]
def digs (n : Nat) : List UInt8 := digsF n n
theorem digs_zero : digs 0 = [] := rfl
theorem digs_pos {n : Nat} (h : n ≠ 0) : digs n = digs (n / 10) ++ [UInt8.ofNat (48 + n % 10)] := by
  obtain ⟨m, rfl⟩ : ∃ m, n = m + 1 := ⟨n - 1, by omega⟩
  rw [digs, digsF, if_neg h, digs, digsF_more m ((m + 1) / 10) ((m + 1) / 10) (by omega) (Nat.le_refl _)]
theorem ret_str1 {a b : ByteArray} (h : a = b) : Ending.returned (.string a) = .returned (.string b) := by rw [h]
def mtB (k : Nat) : ByteArray := ⟨(109 :: digs k).toArray⟩

set_option maxHeartbeats 1600000 in
theorem markText_any (k : Nat) (w : World) (h0 : 0 < k) (h1 : k ≤ 1073741824) :
    Calls Try.prog 35 #[.int .i64 k] w fun e w' => e = .returned (.string (mtB k)) ∧ Below w.heap.size w w' := by
  go_enter Try.func35, Try.ntmps35
  go_wp2
  go_loopw [0, 3] (fun n o wr => ∃ (m : Nat) (s : ByteArray), n = .int .i64 m ∧ o = .string s ∧ m ≤ k ∧ s.size + m ≤ k ∧ Hid (digs m ++ s.data.toList = digs k) ∧ Hid (Below w.heap.size w wr)) (fun n _ _ => (intOf n).toNat)
  case atStart => exact ⟨k, ⟨#[]⟩, rfl, rfl, Nat.le_refl _, by show 0 + k ≤ k; omega, hide (by simp), hide (Below.refl _ _)⟩
  case round =>
    obtain ⟨m, s, rfl, rfl, hm, hs, HD, HB⟩ := hrel
    by_cases hp : 0 < m
    · obtain ⟨d1, Hd1, hsz, hcv⟩ : ∃ d1 : ByteArray, Hid (d1.data.toList = [UInt8.ofNat (48 + m % 10)]) ∧ d1.size = 1 ∧ (convert 67 9 (.slice (some ⟨wr.heap.size, 0, none⟩) 1 1)).run Try.prog (wr.alloc (.cells #[.int .u8 (48 + (m : Int) % 10)] 5)) = .ok (.string d1) (wr.alloc (.cells #[.int .u8 (48 + (m : Int) % 10)] 5)) := by
        refine ⟨_, ?_, ?_, run_convert_bytes_arg _ 67 5 Try.underlying67 Try.underlying5 wr.heap.size 0 1 1 [48 + (m : Int) % 10] rfl ?_ 9 Try.underlying9⟩
        · have e : (48 + (m : Int) % 10).toNat = 48 + m % 10 := by omega
          exact hide (by simp [strOfNums, e])
        · simp [strOfNums, ByteArray.size]
        · intro i hi
          have : i = 0 := by omega
          subst this
          simp [go_sem]
      have HBA := hide (fun o => (unhide HB).alloc (unhide HB).size o)
      have hsum : (d1 ++ s).size = 1 + s.size := by rw [ByteArray.size_append, hsz]
      have hlist : (d1 ++ s).data.toList = d1.data.toList ++ s.data.toList := by simp
      have HSUM := hide hsum
      have HLIST := hide hlist
      clear hsum hlist
      go_wp2
      go_roundw
      case rel =>
        refine ⟨m / 10, d1 ++ s, ?_, rfl, by omega, by rw [unhide HSUM]; omega, hide ?_, hide (unhide HBA _)⟩
        · go_num
        · rw [unhide HLIST, unhide Hd1, ← List.append_assoc, ← digs_pos (by omega)]
          exact unhide HD
      case measure => simp [intOf]; omega
    · have H : Hid (({ data := #[109] } : ByteArray) ++ s = mtB k) := by
        have hm0 : m = 0 := by omega
        subst hm0
        have := unhide HD
        rw [digs_zero, List.nil_append] at this
        refine hide ?_
        unfold mtB
        rw [← this]
        apply ByteArray.ext
        simp
      go_wp2
      go_ret
      exact ⟨ret_str1 (unhide H), unhide HB⟩

/-- The marks of a row of texts, of a row of writes. -/
def mkS (k n : Nat) : List ByteArray := (List.range n).map fun i => mtB (k + i)
def mkI (k n : Nat) : List Wr := (List.range n).map fun i => ⟨(k + 3 * i : Nat), (k + 3 * i + 1 : Nat), mtB (k + 3 * i + 2)⟩
theorem mkS_length (k n : Nat) : (mkS k n).length = n := by simp [mkS]
theorem mkI_length (k n : Nat) : (mkI k n).length = n := by simp [mkI]
theorem mkS_get {k n j : Nat} (h : j < n) : (strV (mkS k n))[j]? = some (.string (mtB (k + j))) := by simp [strV, mkS, h]
theorem mkI_get {k n j : Nat} (h : j < (mkI k n).length) : (mkI k n)[j] = ⟨(k + 3 * j : Nat), (k + 3 * j + 1 : Nat), mtB (k + 3 * j + 2)⟩ := by simp [mkI]

theorem mk_take {ys : List Value} {k n j : Nat} (hj : j < n) (hl : ys.length = n * 3) (h : ys.take (j * 3) = (ioV (mkI k n)).take (j * 3)) :
    (((ys.set (j * 3) (.int .i64 ((k : Int) + 3 * (j : Int)))).set (j * 3 + 1) (.int .i64 ((k : Int) + 3 * (j : Int) + 1))).set (j * 3 + 2) (.string (mtB (k + 3 * j + 2)))).take ((j + 1) * 3) = (ioV (mkI k n)).take ((j + 1) * 3) := by
  have hj' : j < (mkI k n).length := by rw [mkI_length]; exact hj
  have e := io_take hj' (by rw [mkI_length]; exact hl) h
  have e0 : (mkI k n)[j].host = (k : Int) + 3 * (j : Int) := by rw [mkI_get hj']; simp
  have e1 : (mkI k n)[j].at_ = (k : Int) + 3 * (j : Int) + 1 := by rw [mkI_get hj']; simp
  have e2 : (mkI k n)[j].data = mtB (k + 3 * j + 2) := by rw [mkI_get hj']
  rw [e0, e1, e2] at e
  exact e

theorem mkI_cells {k n j : Nat} (hj : j < n) : (ioV (mkI k n))[j * 3]? = some (.int .i64 ((k : Int) + 3 * (j : Int))) ∧ (ioV (mkI k n))[j * 3 + 1]? = some (.int .i64 ((k : Int) + 3 * (j : Int) + 1)) ∧ (ioV (mkI k n))[j * 3 + 2]? = some (.string (mtB (k + 3 * j + 2))) := by
  have hj' : j < (mkI k n).length := by rw [mkI_length]; exact hj
  have e := ioV_get hj'
  have e0 : (mkI k n)[j].host = (k : Int) + 3 * (j : Int) := by rw [mkI_get hj']; simp
  have e1 : (mkI k n)[j].at_ = (k : Int) + 3 * (j : Int) + 1 := by rw [mkI_get hj']; simp
  have e2 : (mkI k n)[j].data = mtB (k + 3 * j + 2) := by rw [mkI_get hj']
  rw [e0, e1, e2] at e
  exact e

end Go.Proofs.Ytboolfckaagfoaa

/- Contracts of DiskOK, of the program and of its model: both answer one plain function of the disk. -/
namespace Go.Proofs.Ytboolfckaagfoaa
open Go.RowKit
set_option linter.unusedVariables false
set_option maxRecDepth 100000

theorem l01In_any (n low high : Int) (w : World) : Calls Try.prog 36 #[.int .i64 n, .int .i64 low, .int .i64 high] w fun e w' => e = .returned (.bool (inB n low high)) ∧ w' = w := by
  go_enter Try.func36, Try.ntmps36
  go_wp2
  all_goals
    go_ret
    exact ⟨ret_bool (by rw [Bool.eq_iff_iff]; simp [inB]; omega), rfl⟩

theorem hostOK_any (n : Int) (w : World) : Calls Try.prog 23 #[.int .i64 n] w fun e w' => e = .returned (.bool (inB n 0 3)) ∧ w' = w := by
  go_enter Try.func23, Try.ntmps23
  go_wp2
  all_goals
    go_ret
    exact ⟨ret_bool (by rw [Bool.eq_iff_iff]; simp [inB]; omega), rfl⟩

end Go.Proofs.Ytboolfckaagfoaa

/- Contracts of the disk's codes and of ReadSector, of the program and of its model. -/
namespace Go.Proofs.Ytboolfckaagfoaa
open Go.RowKit
set_option linter.unusedVariables false
set_option maxRecDepth 100000

end Go.Proofs.Ytboolfckaagfoaa

/- A disk in rows of the call's own; variables that hold a disk. -/
namespace Go.Proofs.Ytboolfckaagfoaa
open Go.RowKit
set_option linter.unusedVariables false

/-- A disk in rows of the call's own, at blocks from B on. -/
structure OwnD (w : World) (B : Nat) (ao : Option Addr) (n ca : Nat) (bo : Option Addr) (m cb : Nat) (ss : List ByteArray) (xs : List Wr) : Prop where
  s : OwnR w B 9 1 (.slice ao n ca) n (strV ss)
  i : OwnR w B 102 3 (.slice bo m cb) m (ioV xs)

def OwnB (ao : Option Addr) (n ca : Nat) (bo : Option Addr) (m cb : Nat) (k : Nat) : Prop := Own (.slice ao n ca) k ∨ Own (.slice bo m cb) k

theorem OwnD.below {w w' : World} {B n ca m cb : Nat} {ao bo : Option Addr} {ss : List ByteArray} {xs : List Wr} (h : OwnD w B ao n ca bo m cb ss xs) (hb : Below w.heap.size w w') : OwnD w' B ao n ca bo m cb ss xs := ⟨h.s.below hb, h.i.below hb⟩
theorem OwnD.base {w : World} {B B' n ca m cb : Nat} {ao bo : Option Addr} {ss : List ByteArray} {xs : List Wr} (h : OwnD w B ao n ca bo m cb ss xs) (hb : B' ≤ B) : OwnD w B' ao n ca bo m cb ss xs := ⟨h.s.base hb, h.i.base hb⟩
theorem OwnD.keep {S : Nat → Prop} {w w' : World} {B n ca m cb : Nat} {ao bo : Option Addr} {ss : List ByteArray} {xs : List Wr} (h : OwnD w B ao n ca bo m cb ss xs) (hk : Keep S w w') (hs : ∀ g, OwnB ao n ca bo m cb g → ¬ S g) : OwnD w' B ao n ca bo m cb ss xs :=
  ⟨h.s.keep hk (fun g hg => hs g (.inl hg)), h.i.keep hk (fun g hg => hs g (.inr hg))⟩
theorem OwnD.setCell {w : World} {B n ca m cb : Nat} {ao bo : Option Addr} {ss : List ByteArray} {xs : List Wr} (h : OwnD w B ao n ca bo m cb ss xs) {a : Addr} (ha : a.block < B) (u : Value) : OwnD (w.setCell a u) B ao n ca bo m cb ss xs := ⟨h.s.setCell ha u, h.i.setCell ha u⟩
theorem OwnD.ge {w : World} {B n ca m cb : Nat} {ao bo : Option Addr} {ss : List ByteArray} {xs : List Wr} (h : OwnD w B ao n ca bo m cb ss xs) : ∀ k, OwnB ao n ca bo m cb k → B ≤ k ∧ k < w.heap.size := by
  rintro k (hk | hk)
  · exact h.s.ge k hk
  · exact h.i.ge k hk
theorem OwnD.len {w : World} {B n ca m cb : Nat} {ao bo : Option Addr} {ss : List ByteArray} {xs : List Wr} (h : OwnD w B ao n ca bo m cb ss xs) : ss.length = n ∧ xs.length = m := by
  have h1 := h.s.len
  have h2 := h.i.len
  rw [strV_length] at h1
  rw [ioV_length] at h2
  exact ⟨by omega, by omega⟩
theorem OwnD.ss {w : World} {B n ca m cb : Nat} {ao bo : Option Addr} {ss : List ByteArray} {xs : List Wr} (h : OwnD w B ao n ca bo m cb ss xs) (hz : ∀ s ∈ ss, s.size ≤ maxLen) : Ss w ao ss := by
  obtain ⟨rfl, rfl⟩ := h.len
  rcases h.s with ⟨h0, _⟩ | ⟨_, h'⟩
  · intro i hi; omega
  · exact ownS h' hz
theorem OwnD.ios {w : World} {B n ca m cb : Nat} {ao bo : Option Addr} {ss : List ByteArray} {xs : List Wr} (h : OwnD w B ao n ca bo m cb ss xs) (hz : ∀ x ∈ xs, x.data.size ≤ maxLen) : Ios w bo xs := by
  obtain ⟨rfl, rfl⟩ := h.len
  rcases h.i with ⟨h0, _⟩ | ⟨_, h'⟩
  · intro i hi; omega
  · exact ownI h' hz
/-- A block of another type of cells is none of a disk's rows. -/
theorem OwnD.other {w : World} {B n ca m cb : Nat} {ao bo : Option Addr} {ss : List ByteArray} {xs : List Wr} (h : OwnD w B ao n ca bo m cb ss xs) {x t : Nat} {c : Array Value} {f : Nat × Nat} (hx : w.heap[x]? = some (.cells c t f)) (h1 : t ≠ 9) (h2 : t ≠ 102) : ¬ OwnB ao n ca bo m cb x := by
  rintro (hk | hk)
  · exact h.s.other hx h1 hk
  · exact h.i.other hx h2 hk

/-- A variable that holds a disk. -/
def VarD (w : World) (x : Nat) (a b : Value) : Prop := w.heap[x]? = some (.cells #[a, b] 100 (0, 0))
theorem VarD.lt {w : World} {x : Nat} {a b : Value} (h : VarD w x a b) : x < w.heap.size := (Array.getElem?_eq_some_iff.1 h).1
theorem VarD.cells {w : World} {x : Nat} {a b : Value} (h : VarD w x a b) : w.cell? ⟨x, 0, none⟩ = some a ∧ w.cell? ⟨x, 1, none⟩ = some b := ⟨by rw [Joins.cell_of_block h]; rfl, by rw [Joins.cell_of_block h]; rfl⟩
theorem VarD.below {w w' : World} {x : Nat} {a b : Value} (h : VarD w x a b) (hb : Below w.heap.size w w') : VarD w' x a b := by
  unfold VarD; rw [hb.block x h.lt]; exact h
theorem VarD.keep {S : Nat → Prop} {w w' : World} {x : Nat} {a b : Value} (h : VarD w x a b) (hk : Keep S w w') (hs : ¬ S x) : VarD w' x a b := by
  unfold VarD; rw [hk.block x h.lt hs]; exact h
theorem VarD.new (w : World) (a b : Value) : VarD (w.alloc (.cells #[a, b] 100)) w.heap.size a b := heap_alloc_new w _

end Go.Proofs.Ytboolfckaagfoaa

/- Contracts of copyList, at texts and at writes: what was there, in new memory. -/
namespace Go.Proofs.Ytboolfckaagfoaa
open Go.RowKit
set_option linter.unusedVariables false
set_option maxRecDepth 100000

section
variable {P : Program}

/-- 'copy(out, src)', both of n elements of some cells each. -/
theorem run_copy_whole (w : World) (dT sT ty elem : TypeId) (size g n dCap : Nat) (a : Addr) (sCap : Nat) (cur : Array Value) (t : TypeId) (cs : List Value)
    (hu : P.underlying dT = some (.slice elem)) (hs : (P.info? elem).map (·.size) = some size)
    (hg : w.heap[g]? = some (.cells cur t (0, 0))) (hl : n * size = cs.length)
    (hsrc : ∀ j v, cs[j]? = some v → w.cell? (a.add j) = some v) (hfit : cs.length ≤ cur.size) (h1 : ∀ v ∈ cs, v.oneCell' = true) :
    (Builtin.copy_ #[dT, sT] ty #[.slice (some ⟨g, 0, none⟩) n dCap, .slice (some a) n sCap]).run P w = .ok (goInt n) (w.setRow g (cs ++ cur.toList.drop cs.length).toArray) := by
  have hld := run_loadCells_list (P := P) w a cs hsrc
  have hst := run_storeCells_at P g 0 t cs 0 cur w hg (by simpa using hfit) h1
  cases hq : P.info? elem with
  | none => simp [hq] at hs
  | some i =>
    have hi : i.size = size := by simpa [hq] using hs
    simp [Builtin.copy_, run_underlying hu, Builtin.lenOf, Builtin.firstCells, sizeOf, typeInfo, hq, hi, hl, hld, hst]

theorem wpList_copy_whole {w : World} {ops : Array Oper} {rest : List Oper} {o : Oper} {a : Act} {Q : Exit → Act → World → Prop} (hgd : o.guard = none) (d s : Operand) (dT sT : TypeId)
    (ho : o.op = .call { callee := .builtin .copy, args := #[d, s], argTypes := #[dT, sT] }) (elem : TypeId) (size : Nat) (hu : P.underlying dT = some (.slice elem)) (hsz : (P.info? elem).map (·.size) = some size)
    (B g n : Nat) (ad : Addr) (sCap : Nat) (hd : a.eval d = .slice (some ⟨g, 0, none⟩) n n) (hs : a.eval s = .slice (some ad) n sCap)
    (xs : List Value) (hown : w.ownsRow B elem size (.slice (some ⟨g, 0, none⟩) n n) n xs) (cs : List Value) (hn : cs.length = n * size)
    (hsrc : ∀ j v, cs[j]? = some v → w.cell? (ad.add j) = some v) (h1 : ∀ v ∈ cs, v.oneCell' = true)
    (h : ∀ w', w'.ownsRow B elem size (.slice (some ⟨g, 0, none⟩) n n) n cs → w.grownBy w' (some g) → wpList P ops Q rest (a.put o.dst (goInt n)) w') : wpList P ops Q (o :: rest) a w := by
  refine wpList_plain hgd fun K hK => ?_
  rcases hown.2 with ⟨e, _⟩ | ⟨g', cap', cur, e, hB, hg, hnc, hcm, hcs, ht⟩
  · simp at e
  · simp only [Value.slice.injEq, Option.some.injEq, Addr.mk.injEq, and_true, true_and] at e
    obtain ⟨rfl, rfl⟩ := e
    have hrun := run_copy_whole (P := P) w dT sT o.type elem size g n n ad sCap cur elem cs hu hsz hg hn.symm hsrc (by omega) h1
    unfold Oper.wp
    simp [execOp, ho, resolve, invoke, builtin, hd, hs, hrun, Result.andThen]
    refine hK _ _ (h _ ⟨hn, .inr ⟨g, n, _, rfl, hB, setRow_heap w g _ _ elem _ hg, hnc, hcm, ?_, ?_⟩⟩ ⟨rfl, rfl, rfl, by simp, fun k _ hk => setRow_other w g k _ (fun e => hk (by simp [e]))⟩)
    · simp; omega
    · rw [← hn]; simp
end

theorem infoS : (Try.prog.info? 9).map (fun i => (i.zero, i.size, i.bytes)) = some (some (.string ⟨#[]⟩), 1, 16) := by kernel_rfl
theorem infoW : (Try.prog.info? 102).map (fun i => (i.zero, i.size, i.bytes)) = some (some (.agg #[.int .i64 0, .int .i64 0, .string ⟨#[]⟩]), 3, 32) := by kernel_rfl
theorem sizeS : (Try.prog.info? 9).map (·.size) = some 1 := by kernel_rfl
theorem sizeW : (Try.prog.info? 102).map (·.size) = some 3 := by kernel_rfl

theorem strV_one (ss : List ByteArray) : ∀ v ∈ strV ss, v.oneCell' = true := by
  intro v hv
  simp only [strV, List.mem_map] at hv
  obtain ⟨s, _, rfl⟩ := hv
  rfl
theorem ioV_one (xs : List Wr) : ∀ v ∈ ioV xs, v.oneCell' = true := by
  intro v hv
  simp only [ioV, List.mem_flatMap] at hv
  obtain ⟨x, _, hv⟩ := hv
  simp at hv
  rcases hv with rfl | rfl | rfl <;> rfl
/-- A slice that is not empty has an address at which its cells lie. -/
theorem Ss.at {w : World} {ao : Option Addr} {ss : List ByteArray} (h : Ss w ao ss) (hp : 0 < ss.length) : ∃ b off, ao = some ⟨b, off, none⟩ ∧ ∀ j v, (strV ss)[j]? = some v → w.cell? (Addr.add ⟨b, off, none⟩ j) = some v := by
  obtain ⟨b, off, rfl, _⟩ := h 0 hp
  refine ⟨b, off, rfl, fun j v hv => ?_⟩
  have hj : j < ss.length := by have := (List.getElem?_eq_some_iff.1 hv).1; rwa [strV_length] at this
  obtain ⟨b', off', e, hc, _⟩ := h j hj
  simp only [Option.some.injEq, Addr.mk.injEq, and_true] at e
  obtain ⟨rfl, rfl⟩ := e
  rw [strV_get hj] at hv
  cases hv
  rw [show Addr.add ⟨b, off, none⟩ j = ⟨b, off + j, none⟩ from by unfold Addr.add; split <;> simp_all]
  exact hc
theorem ioV_at {xs : List Wr} {j : Nat} {v : Value} (h : (ioV xs)[j]? = some v) : ∃ i r, ∃ hi : i < xs.length, j = i * 3 + r ∧ ((r = 0 ∧ v = .int .i64 xs[i].host) ∨ (r = 1 ∧ v = .int .i64 xs[i].at_) ∨ (r = 2 ∧ v = .string xs[i].data)) := by
  have hj : j < xs.length * 3 := by have := (List.getElem?_eq_some_iff.1 h).1; rwa [ioV_length] at this
  have hi : j / 3 < xs.length := by omega
  obtain ⟨g0, g1, g2⟩ := ioV_get hi
  rcases (show j % 3 = 0 ∨ j % 3 = 1 ∨ j % 3 = 2 by omega) with e | e | e
  · rw [show j = j / 3 * 3 by omega, g0] at h; cases h
    exact ⟨j / 3, 0, hi, by omega, .inl ⟨rfl, rfl⟩⟩
  · rw [show j = j / 3 * 3 + 1 by omega, g1] at h; cases h
    exact ⟨j / 3, 1, hi, by omega, .inr (.inl ⟨rfl, rfl⟩)⟩
  · rw [show j = j / 3 * 3 + 2 by omega, g2] at h; cases h
    exact ⟨j / 3, 2, hi, by omega, .inr (.inr ⟨rfl, rfl⟩)⟩
theorem Ios.at {w : World} {ao : Option Addr} {xs : List Wr} (h : Ios w ao xs) (hp : 0 < xs.length) : ∃ b off, ao = some ⟨b, off, none⟩ ∧ ∀ j v, (ioV xs)[j]? = some v → w.cell? (Addr.add ⟨b, off, none⟩ j) = some v := by
  obtain ⟨b, off, rfl, _⟩ := h 0 hp
  refine ⟨b, off, rfl, fun j v hv => ?_⟩
  obtain ⟨i, r, hi, rfl, hr⟩ := ioV_at hv
  obtain ⟨b', off', e, h0, h1, h2, _⟩ := h i hi
  simp only [Option.some.injEq, Addr.mk.injEq, and_true] at e
  obtain ⟨rfl, rfl⟩ := e
  rw [show Addr.add ⟨b, off, none⟩ (i * 3 + r) = ⟨b, off + i * 3 + r, none⟩ from by unfold Addr.add; split <;> simp_all [Nat.add_assoc]]
  rcases hr with ⟨rfl, rfl⟩ | ⟨rfl, rfl⟩ | ⟨rfl, rfl⟩
  · exact h0
  · exact h1
  · exact h2

end Go.Proofs.Ytboolfckaagfoaa

/- Contract of impl.copyDisk: the disk as it was, in new memory. -/
namespace Go.Proofs.Ytboolfckaagfoaa
open Go.RowKit
set_option linter.unusedVariables false
set_option maxRecDepth 100000

theorem copyD_end {w wL : World} {po qo : Option Addr} {n pa m qa : Nat} {ss : List ByteArray} {xs : List Wr} (ho : OwnD wL (w.heap.size + 2) po n pa qo m qa ss xs) (hb : Below w.heap.size w wL) (a b : Value) :
    OwnD ((wL.setCell ⟨w.heap.size + 1, 0, none⟩ a).setCell ⟨w.heap.size + 1, 1, none⟩ b) w.heap.size po n pa qo m qa ss xs ∧ Below w.heap.size w ((wL.setCell ⟨w.heap.size + 1, 0, none⟩ a).setCell ⟨w.heap.size + 1, 1, none⟩ b) :=
  ⟨((ho.setCell (a := ⟨w.heap.size + 1, 0, none⟩) (by simp) a).setCell (a := ⟨w.heap.size + 1, 1, none⟩) (by simp) b).base (by omega),
    (hb.setCell (p := ⟨w.heap.size + 1, 0, none⟩) (by simp) a).setCell (p := ⟨w.heap.size + 1, 1, none⟩) (by simp) b⟩

end Go.Proofs.Ytboolfckaagfoaa

/- Laws on append onto an empty literal, of no program's own. -/
namespace Go.Proofs.Ytboolfckaagfoaa
open Go.RowKit
set_option linter.unusedVariables false
set_option maxRecDepth 100000

section
variable {P : Program}
theorem run_append_nothing (w : World) (t ty e : TypeId) (i : TypeInfo) (ht : P.underlying t = some (.slice e)) (hi : P.info? e = some i) (d so : Option Addr) (cap c : Nat) :
    (Builtin.append_ #[t, t] ty #[.slice d 0 cap, .slice so 0 c]).run P w = .ok (.slice d 0 cap) w := by
  have hl : ∀ (x : Addr), (loadCells x 0).run P w = .ok #[] w := fun x => by simpa using run_loadCells_list (P := P) w x [] (by simp)
  cases d <;> cases so <;> simp [Builtin.append_, run_underlying ht, sizeOf, typeInfo, hi, Builtin.lenOf, Builtin.firstCells, storeCells, hl]

theorem run_append_fresh (w : World) (t ty e : TypeId) (i : TypeInfo) (z : Value) (size bytes : Nat) (ht : P.underlying t = some (.slice e)) (hi : P.info? e = some i) (hz : i.zero = some z)
    (hsize : i.size = size) (hby : i.bytes = bytes) (hzs : z.cells.size = size) (hsz : 0 < size)
    (d : Addr) (so : Option Addr) (m c : Nat) (news : List Value) (hn : news.length = m * size) (hc : 0 < m → ∃ ad, so = some ad ∧ ∀ j u, news[j]? = some u → w.cell? (ad.add j) = some u)
    (b1 : m ≤ maxLen) (b2 : m * bytes ≤ 140737488355328) :
    ∃ ao cap w', (Builtin.append_ #[t, t] ty #[.slice (some d) 0 0, .slice so m c]).run P w = .ok (.slice ao m cap) w' ∧ OwnR w' w.heap.size e size (.slice ao m cap) m news ∧ w.grownBy w' none := by
  rcases Nat.eq_zero_or_pos m with h0 | h0
  · subst h0
    exact ⟨some d, 0, w, run_append_nothing w t ty e i ht hi _ _ _ _, .inl ⟨rfl, List.eq_nil_of_length_eq_zero (by simpa using hn), _, rfl⟩, World.grownBy.refl w none⟩
  · obtain ⟨ad, rfl, hcs⟩ := hc h0
    obtain ⟨v', w', hrun, r1, r2⟩ := run_append_arg_grows (P := P) w t ty e i z size bytes ht hi hz hsize hby hzs hsz d 0 0 [] (by simp) (by simp) ad m c news hn hcs (by omega) (by simpa using b1) (by simpa using b2)
    simp only [Nat.zero_add, List.nil_append] at r1
    obtain ⟨g, cap, cur, rfl, _, _⟩ := own_form h0 r1
    exact ⟨_, _, w', hrun, .inr ⟨h0, r1⟩, r2⟩

def isFresh : Value → Bool
  | .slice (some _) 0 0 => true
  | _ => false
theorem isFresh_form {v : Value} (h : isFresh v = true) : ∃ d, v = .slice (some d) 0 0 := by
  unfold isFresh at h
  split at h
  · exact ⟨_, rfl⟩
  · cases h

theorem step_append_fresh {ops : Array Oper} {o : Oper} {a : Act} {w : World} {K : Act → World → Prop} {Q : Exit → Act → World → Prop} {E : Prop}
    (hg : o.guard = none) (s x : Operand) (t : TypeId) (hop : o.op = Op.call { callee := Callee.builtin Builtin.append, args := #[s, x], argTypes := #[t, t] })
    (e : TypeId) (i : TypeInfo) (z : Value) (size bytes : Nat) (h1 : P.underlying t = some (.slice e)) (h2 : P.info? e = some i) (h3 : i.zero = some z) (h4 : i.size = size) (h5 : i.bytes = bytes) (h6 : z.cells.size = size) (h7 : 0 < size)
    (hs0 : isFresh (a.eval s) = true) (so : Option Addr) (m c : Nat) (news : List Value) (hx : a.eval x = .slice so m c) (hn : news.length = m * size)
    (hc : 0 < m → ∃ ad, so = some ad ∧ ∀ j u, news[j]? = some u → w.cell? (ad.add j) = some u) (b1 : m ≤ maxLen) (b2 : m * bytes ≤ 140737488355328)
    (hK : ∀ ao cap w', OwnR w' w.heap.size e size (.slice ao m cap) m news → w.grownBy w' none → K (a.put o.dst (.slice ao m cap)) w') :
    if Region.wanted o (yielded ops a.tmps) = true then Oper.wp P o a w K Q else E := by
  have hw : Region.wanted o (yielded ops a.tmps) = true := by simp [Region.wanted, hg]
  rw [if_pos hw]
  obtain ⟨d, hs⟩ := isFresh_form hs0
  obtain ⟨ao, cap, w', hrun, r1, r2⟩ := run_append_fresh (P := P) w t o.type e i z size bytes h1 h2 h3 h4 h5 h6 h7 d so m c news hn hc b1 b2
  unfold Oper.wp
  simp [execOp, hop, resolve, invoke, builtin, hs, hx, hrun, Result.andThen]
  exact hK _ _ _ r1 r2
end


theorem belowAl {W0 W : World} (h : Below W0.heap.size W0 W) (o : Obj) : Below W0.heap.size W0 (W.alloc o) := h.alloc h.size o
theorem belowGr {W0 W W' : World} (h : Below W0.heap.size W0 W) (hg : W.grownBy W' none) : Below W0.heap.size W0 W' := h.grown hg h.size (fun _ h => by cases h)
end Go.Proofs.Ytboolfckaagfoaa

/- Contract of spec.l01Own: the disk as it was, in new memory. -/
namespace Go.Proofs.Ytboolfckaagfoaa
open Go.RowKit
set_option linter.unusedVariables false
set_option maxRecDepth 100000

/-- The cells of a slice's texts, of its writes, for an append. -/
theorem Ss.src {w : World} {ao : Option Addr} {ss : List ByteArray} (h : Ss w ao ss) : 0 < ss.length → ∃ ad, ao = some ad ∧ ∀ j u, (strV ss)[j]? = some u → w.cell? (ad.add j) = some u := fun hp => by
  obtain ⟨b, off, rfl, hc⟩ := h.at hp
  exact ⟨_, rfl, hc⟩
theorem Ios.src {w : World} {ao : Option Addr} {xs : List Wr} (h : Ios w ao xs) : 0 < xs.length → ∃ ad, ao = some ad ∧ ∀ j u, (ioV xs)[j]? = some u → w.cell? (ad.add j) = some u := fun hp => by
  obtain ⟨b, off, rfl, hc⟩ := h.at hp
  exact ⟨_, rfl, hc⟩


theorem VarD.free {w : World} {x : Nat} {a b : Value} (h : VarD w x a b) (i : Nat) : w.frozen? ⟨x, i, none⟩ = false := Joins.unfrozen_of_block h i

end Go.Proofs.Ytboolfckaagfoaa
