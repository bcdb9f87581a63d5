import Derived.WalkKit
import Derived.ProofKit
import Derived.OpenShut
import Derived.ShutString
import Derived.WalkSpells
import Derived.SliceStrings
import Derived.Lib.SmallJoins
import Derived.Test.YtjjkppknojecjaaGreatRows
import Derived.Laws.OwnMore
import Derived.Laws.BytesArg
import Derived.KernelRfl
import Derived.Laws.StructEq
import Derived.Laws.BitsLemmas
import Derived.Lib.EndianBits
import Derived.Deep.RegionLawGrows
import Derived.Deep.RegionWith

namespace Go.Proofs.YtjjkppknojecjaaGreat
open Go.RowKit

theorem hide {p : Prop} (h : p) : Hid p := h
theorem unhide {p : Prop} (h : Hid p) : p := h

structure Wr where
  host : Int
  at_ : Int
  data : ByteArray

def Ss (w : World) (ao : Option Addr) (ss : List ByteArray) : Prop := ∀ i (h : i < ss.length), ∃ b off, ao = some ⟨b, off, none⟩ ∧ w.cell? ⟨b, off + i, none⟩ = some (.string ss[i]) ∧ ss[i].size ≤ maxLen

def Ios (w : World) (ao : Option Addr) (xs : List Wr) : Prop := ∀ i (h : i < xs.length), ∃ b off, ao = some ⟨b, off, none⟩ ∧
  w.cell? ⟨b, off + i * 3, none⟩ = some (.int .i64 xs[i].host) ∧ w.cell? ⟨b, off + i * 3 + 1, none⟩ = some (.int .i64 xs[i].at_) ∧ w.cell? ⟨b, off + i * 3 + 2, none⟩ = some (.string xs[i].data) ∧ xs[i].data.size ≤ maxLen

theorem Ss.below {w w' : World} {ao : Option Addr} {ss : List ByteArray} (h : Ss w ao ss) (hb : Below w.heap.size w w') : Ss w' ao ss := fun i hi => by
  obtain ⟨b, off, e, hc, hz⟩ := h i hi
  exact ⟨b, off, e, (hb.cell (p := ⟨b, off + i, none⟩) (World.block_lt_of_cell? _ _ hc)).trans hc, hz⟩
theorem Ios.below {w w' : World} {ao : Option Addr} {xs : List Wr} (h : Ios w ao xs) (hb : Below w.heap.size w w') : Ios w' ao xs := fun i hi => by
  obtain ⟨b, off, e, h0, h1, h2, hz⟩ := h i hi
  exact ⟨b, off, e, (hb.cell (p := ⟨b, off + i * 3, none⟩) (World.block_lt_of_cell? _ _ h0)).trans h0, (hb.cell (p := ⟨b, off + i * 3 + 1, none⟩) (World.block_lt_of_cell? _ _ h1)).trans h1, (hb.cell (p := ⟨b, off + i * 3 + 2, none⟩) (World.block_lt_of_cell? _ _ h2)).trans h2, hz⟩

def strV (ss : List ByteArray) : List Value := ss.map Value.string
def ioV (xs : List Wr) : List Value := xs.flatMap fun x => [.int .i64 x.host, .int .i64 x.at_, .string x.data]

theorem fr {a b c : World} (h : Below a.heap.size a b) (k : Below b.heap.size b c) : Below a.heap.size a c := h.trans (k.mono h.size)

theorem strV_length (ss : List ByteArray) : (strV ss).length = ss.length := by simp [strV]
theorem strV_get {ss : List ByteArray} {i : Nat} (h : i < ss.length) : (strV ss)[i]? = some (.string ss[i]) := by simp [strV, h]
theorem ioV_length (xs : List Wr) : (ioV xs).length = xs.length * 3 := by
  induction xs with
  | nil => rfl
  | cons x xs ih => simp only [ioV, List.flatMap_cons, List.length_append, List.length_cons, List.length_nil] at ih ⊢; omega
theorem ioV_cons (x : Wr) (xs : List Wr) : ioV (x :: xs) = [.int .i64 x.host, .int .i64 x.at_, .string x.data] ++ ioV xs := rfl
theorem ioV_get : ∀ {xs : List Wr} {i : Nat} (h : i < xs.length), (ioV xs)[i * 3]? = some (.int .i64 xs[i].host) ∧ (ioV xs)[i * 3 + 1]? = some (.int .i64 xs[i].at_) ∧ (ioV xs)[i * 3 + 2]? = some (.string xs[i].data)
  | [], _, h => absurd h (Nat.not_lt_zero _)
  | x :: xs, 0, _ => by simp [ioV_cons]
  | x :: xs, i + 1, h => by
    have ih := ioV_get (xs := xs) (i := i) (by simpa using h)
    rw [ioV_cons, show (i + 1) * 3 = i * 3 + 3 by omega]
    refine ⟨?_, ?_, ?_⟩
    · rw [List.getElem?_append_right (by simp)]; simpa using ih.1
    · rw [List.getElem?_append_right (by simp)]; simpa [Nat.add_right_comm] using ih.2.1
    · rw [List.getElem?_append_right (by simp)]; simpa [Nat.add_right_comm] using ih.2.2

theorem set_take {α : Type} {xs ys : List α} {k : Nat} (hl : xs.length = ys.length) (hk : k < ys.length) (h : xs.take k = ys.take k) : (xs.set k ys[k]).take (k + 1) = ys.take (k + 1) := by
  apply List.ext_getElem?
  intro i
  have hi := congrArg (fun l => l[i]?) h
  simp only [List.getElem?_take, List.getElem?_set] at hi ⊢
  by_cases h1 : i < k
  · simp only [h1, if_true] at hi
    rw [if_pos (by omega), if_neg (by omega), if_pos (by omega)]
    exact hi
  · by_cases h2 : i = k
    · subst h2
      simp [hl, hk]
    · simp [show ¬ i < k + 1 by omega]

theorem set_take' {α : Type} {xs ys : List α} {k : Nat} {v : α} (hl : xs.length = ys.length) (hv : ys[k]? = some v) (h : xs.take k = ys.take k) : (xs.set k v).take (k + 1) = ys.take (k + 1) := by
  obtain ⟨hk, rfl⟩ := List.getElem?_eq_some_iff.1 hv
  exact set_take hl hk h

theorem ownSs {w : World} {B e : Nat} {v : Value} {ss : List ByteArray} (h : w.ownsRow B e 1 v ss.length (strV ss)) (hz : ∀ s ∈ ss, s.size ≤ maxLen) : ∃ ao cap, v = .slice ao ss.length cap ∧ Ss w ao ss := by
  rcases h.2 with ⟨rfl, h0⟩ | ⟨g, cap, cur, rfl, hb, hg, hnc, hcm, hcs, ht⟩
  · refine ⟨none, 0, by rw [h0], fun i hi => ?_⟩
    omega
  · refine ⟨_, cap, rfl, fun i hi => ⟨g, 0, rfl, ?_, hz _ (List.getElem_mem hi)⟩⟩
    have := h.cellAt i (by omega)
    rw [Nat.zero_add, this, strV_get hi]
theorem ownIos {w : World} {B e : Nat} {v : Value} {xs : List Wr} (h : w.ownsRow B e 3 v xs.length (ioV xs)) (hz : ∀ x ∈ xs, x.data.size ≤ maxLen) : ∃ ao cap, v = .slice ao xs.length cap ∧ Ios w ao xs := by
  rcases h.2 with ⟨rfl, h0⟩ | ⟨g, cap, cur, rfl, hb, hg, hnc, hcm, hcs, ht⟩
  · refine ⟨none, 0, by rw [h0], fun i hi => ?_⟩
    omega
  · have g3 := fun i (hi : i < xs.length) => ioV_get hi
    refine ⟨_, cap, rfl, fun i hi => ⟨g, 0, rfl, ?_, ?_, ?_, hz _ (List.getElem_mem hi)⟩⟩
    · rw [Nat.zero_add, h.cellAt _ (by omega)]; exact (g3 i hi).1
    · rw [Nat.zero_add, h.cellAt _ (by omega)]; exact (g3 i hi).2.1
    · rw [Nat.zero_add, h.cellAt _ (by omega)]; exact (g3 i hi).2.2

theorem ownS {w : World} {B e cap : Nat} {ao : Option Addr} {ss : List ByteArray} (h : w.ownsRow B e 1 (.slice ao ss.length cap) ss.length (strV ss)) (hz : ∀ s ∈ ss, s.size ≤ maxLen) : Ss w ao ss := by
  obtain ⟨ao', cap', hv, hs⟩ := ownSs h hz
  simp only [Value.slice.injEq, true_and] at hv
  obtain ⟨rfl, _⟩ := hv
  exact hs
theorem ownI {w : World} {B e cap : Nat} {ao : Option Addr} {xs : List Wr} (h : w.ownsRow B e 3 (.slice ao xs.length cap) xs.length (ioV xs)) (hz : ∀ x ∈ xs, x.data.size ≤ maxLen) : Ios w ao xs := by
  obtain ⟨ao', cap', hv, hs⟩ := ownIos h hz
  simp only [Value.slice.injEq, true_and] at hv
  obtain ⟨rfl, _⟩ := hv
  exact hs
theorem Ss.sizes {w : World} {ao : Option Addr} {ss : List ByteArray} (h : Ss w ao ss) : ∀ s ∈ ss, s.size ≤ maxLen := fun s hs => by
  obtain ⟨i, hi, rfl⟩ := List.mem_iff_getElem.1 hs
  obtain ⟨_, _, _, _, hz⟩ := h i hi
  exact hz
theorem Ios.sizes {w : World} {ao : Option Addr} {xs : List Wr} (h : Ios w ao xs) : ∀ x ∈ xs, x.data.size ≤ maxLen := fun x hx => by
  obtain ⟨i, hi, rfl⟩ := List.mem_iff_getElem.1 hx
  obtain ⟨_, _, _, _, _, _, hz⟩ := h i hi
  exact hz

theorem own_below {w w' : World} {B e size n : Nat} {v : Value} {xs : List Value} (h : w.ownsRow B e size v n xs) (hb : Below w.heap.size w w') : w'.ownsRow B e size v n xs := by
  refine ⟨h.1, ?_⟩
  rcases h.2 with ⟨rfl, h0⟩ | ⟨g, cap, cur, rfl, hB, hg, hnc, hcm, hcs, ht⟩
  · exact .inl ⟨rfl, h0⟩
  · refine .inr ⟨g, cap, cur, rfl, hB, ?_, hnc, hcm, hcs, ht⟩
    rw [hb.block g (Array.getElem?_eq_some_iff.1 hg).1]; exact hg

theorem stored3 {w : World} {B e size g n cap : Nat} {xs : List Value} (h : w.ownsRow B e size (.slice (some ⟨g, 0, none⟩) n cap) n xs) (i j k : Nat) (u v x : Value) :
    (((w.setCell ⟨g, i, none⟩ u).setCell ⟨g, j, none⟩ v).setCell ⟨g, k, none⟩ x).ownsRow B e size (.slice (some ⟨g, 0, none⟩) n cap) n (((xs.set i u).set j v).set k x) :=
  (((h.stored i u).1.stored j v).1.stored k x).1
theorem io_take {ys : List Value} {xs : List Wr} {k : Nat} (hk : k < xs.length) (hl : ys.length = xs.length * 3) (h : ys.take (k * 3) = (ioV xs).take (k * 3)) :
    (((ys.set (k * 3) (.int .i64 xs[k].host)).set (k * 3 + 1) (.int .i64 xs[k].at_)).set (k * 3 + 2) (.string xs[k].data)).take ((k + 1) * 3) = (ioV xs).take ((k + 1) * 3) := by
  obtain ⟨h0, h1, h2⟩ := ioV_get hk
  have e0 := set_take' (by rw [hl, ioV_length]) h0 h
  have e1 := set_take' (by rw [List.length_set, hl, ioV_length]) h1 e0
  have e2 := set_take' (by rw [List.length_set, List.length_set, hl, ioV_length]) h2 e1
  rw [show (k + 1) * 3 = k * 3 + 2 + 1 by omega]
  exact e2

theorem own_base {w : World} {B B' e size n : Nat} {v : Value} {xs : List Value} (h : w.ownsRow B e size v n xs) (hB : B' ≤ B) : w.ownsRow B' e size v n xs := by
  refine ⟨h.1, ?_⟩
  rcases h.2 with h0 | ⟨g, cap, cur, e0, hb, rest⟩
  · exact .inl h0
  · exact .inr ⟨g, cap, cur, e0, by omega, rest⟩

def decWr (x y : Wr) : Decidable (x = y) := decidable_of_iff (x.host = y.host ∧ x.at_ = y.at_ ∧ x.data = y.data) ⟨fun h => by cases x; cases y; simp_all, fun h => by subst h; exact ⟨rfl, rfl, rfl⟩⟩
def decWrs (xs ys : List Wr) : Decidable (xs = ys) := @List.hasDecEq Wr decWr xs ys
def wrB (x y : Wr) : Bool := @decide (x = y) (decWr x y)
theorem wrB_true {x y : Wr} (h0 : x.host = y.host) (h1 : x.at_ = y.at_) (h2 : x.data = y.data) : wrB x y = true := by
  unfold wrB
  exact @decide_eq_true (x = y) (decWr x y) (by cases x; cases y; simp_all)
theorem wrB_false {x y : Wr} (h : ¬ (x.host = y.host ∧ x.at_ = y.at_ ∧ x.data = y.data)) : wrB x y = false := by
  unfold wrB
  refine @decide_eq_false (x = y) (decWr x y) ?_
  rintro rfl
  exact h ⟨rfl, rfl, rfl⟩

def eqSB (ss tt : List ByteArray) : Bool := decide (ss = tt)
def eqWB (xs ys : List Wr) : Bool := @decide (xs = ys) (decWrs xs ys)
theorem eq_succ {α : Type} {xs ys : List α} {k : Nat} (hk : k < xs.length) (hk' : k < ys.length) (h : ∀ j (h : j < xs.length) (h' : j < ys.length), j < k → xs[j] = ys[j]) (he : xs[k] = ys[k]) : ∀ j (h : j < xs.length) (h' : j < ys.length), j < k + 1 → xs[j] = ys[j] := by
  intro j h1 h2 hj
  by_cases e : j = k
  · subst e; exact he
  · exact h j h1 h2 (by omega)
theorem eqSB_true {ss tt : List ByteArray} (hl : ss.length = tt.length) (h : ∀ j (h : j < ss.length) (h' : j < tt.length), ss[j] = tt[j]) : eqSB ss tt = true := decide_eq_true (List.ext_getElem hl h)
theorem eqSB_false_len {ss tt : List ByteArray} (hl : ¬ ss.length = tt.length) : eqSB ss tt = false := decide_eq_false fun h => hl (by rw [h])
theorem eqSB_false {ss tt : List ByteArray} {k : Nat} (hk : k < ss.length) (hk' : k < tt.length) (h : ss[k] ≠ tt[k]) : eqSB ss tt = false := decide_eq_false fun e => by subst e; exact h rfl
theorem eqWB_true {ss tt : List Wr} (hl : ss.length = tt.length) (h : ∀ j (h : j < ss.length) (h' : j < tt.length), ss[j] = tt[j]) : eqWB ss tt = true := @decide_eq_true (ss = tt) (decWrs ss tt) (List.ext_getElem hl h)
theorem eqWB_false_len {ss tt : List Wr} (hl : ¬ ss.length = tt.length) : eqWB ss tt = false := @decide_eq_false (ss = tt) (decWrs ss tt) fun h => hl (by rw [h])
theorem eqWB_false {ss tt : List Wr} {k : Nat} (hk : k < ss.length) (hk' : k < tt.length) (h : ss[k] ≠ tt[k]) : eqWB ss tt = false := @decide_eq_false (ss = tt) (decWrs ss tt) fun e => by subst e; exact h rfl

def ioB (x : Wr) : Bool := decide (0 ≤ x.host) && decide (x.host ≤ 3) && decide (0 ≤ x.at_) && decide (x.at_ ≤ 63) && decide (x.data.size ≤ 80)
def secB (ss : List ByteArray) : Bool := decide (ss.length = 64) && ss.all fun s => decide (s.size ≤ 80)
def penB (xs : List Wr) : Bool := decide (xs.length ≤ 200) && xs.all ioB
def diskB (ss : List ByteArray) (xs : List Wr) : Bool := secB ss && penB xs

theorem ret_bool {a b : Bool} (h : a = b) : Ending.returned (.bool a) = .returned (.bool b) := by rw [h]
theorem ret_int {a b : Int} (h : a = b) : Ending.returned (.int .i64 a) = .returned (.int .i64 b) := by rw [h]

theorem all_succ {α : Type} {p : α → Bool} {xs : List α} {k : Nat} (hk : k < xs.length) (h : ∀ i (hi : i < xs.length), i < k → p xs[i] = true) (hp : p xs[k] = true) : ∀ i (hi : i < xs.length), i < k + 1 → p xs[i] = true := by
  intro i hi hlt
  by_cases e : i = k
  · subst e; exact hp
  · exact h i hi (by omega)
theorem all_of {α : Type} {p : α → Bool} {xs : List α} (h : ∀ i (hi : i < xs.length), i < xs.length → p xs[i] = true) : xs.all p = true := by
  rw [List.all_eq_true]
  intro x hx
  obtain ⟨i, hi, rfl⟩ := List.mem_iff_getElem.1 hx
  exact h i hi hi
theorem all_not {α : Type} {p : α → Bool} {xs : List α} {k : Nat} (hk : k < xs.length) (hp : p xs[k] = false) : xs.all p = false := by
  cases h : xs.all p with
  | false => rfl
  | true =>
    rw [List.all_eq_true] at h
    rw [h _ (List.getElem_mem hk)] at hp; cases hp

theorem str_beq_false {a b : ByteArray} (h : a ≠ b) : (a.toList == b.toList) = false := by
  rw [beq_eq_false_iff_ne]
  intro e
  rw [ByteArray.toList_eq, ByteArray.toList_eq] at e
  apply h
  cases a; cases b
  simpa using Array.toList_inj.1 e

def inB (n low high : Int) : Bool := decide (low ≤ n) && decide (n ≤ high)
theorem ioB_eq (x : Wr) : ioB x = (inB x.host 0 3 && inB x.at_ 0 63 && decide (x.data.size ≤ 80)) := by simp [ioB, inB, Bool.and_assoc]
theorem secB_true {ss : List ByteArray} (h : ss.length = 64) (ha : ∀ j (h : j < ss.length), decide (ss[j].size ≤ 80) = true) : secB ss = true := by
  unfold secB
  rw [all_of (p := fun s : ByteArray => decide (s.size ≤ 80)) (fun i hi _ => ha i hi)]
  simp [h]
theorem secB_false_len {ss : List ByteArray} (h : ¬ ss.length = 64) : secB ss = false := by simp [secB, h]
theorem secB_false_at {ss : List ByteArray} {k : Nat} (hk : k < ss.length) (h : 80 < ss[k].size) : secB ss = false := by
  unfold secB
  rw [all_not (p := fun s : ByteArray => decide (s.size ≤ 80)) hk (by simp; omega)]
  simp
theorem penB_true {xs : List Wr} (h : xs.length ≤ 200) (ha : ∀ j (h : j < xs.length), ioB xs[j] = true) : penB xs = true := by
  unfold penB
  rw [all_of (p := ioB) (fun i hi _ => ha i hi)]
  simp [h]
theorem penB_false_len {xs : List Wr} (h : ¬ xs.length ≤ 200) : penB xs = false := by simp [penB]; omega
theorem penB_false_at {xs : List Wr} {k : Nat} (hk : k < xs.length) (h : ioB xs[k] = false) : penB xs = false := by
  unfold penB
  rw [all_not (p := ioB) hk h]
  simp

def hostC (ss : List ByteArray) (xs : List Wr) (h : Int) : Int := if diskB ss xs = true then (if inB h 0 3 = true then 0 else 4) else 1
def askC (ss : List ByteArray) (xs : List Wr) (h a : Int) : Int := if hostC ss xs h = 0 then (if inB a 0 63 = true then 0 else 14) else hostC ss xs h
theorem hostC_bad {ss : List ByteArray} {xs : List Wr} {h : Int} (hd : diskB ss xs = false) : hostC ss xs h = 1 := by simp [hostC, hd]
theorem hostC_range {ss : List ByteArray} {xs : List Wr} {h : Int} (hd : diskB ss xs = true) (hh : inB h 0 3 = false) : hostC ss xs h = 4 := by simp [hostC, hd, hh]
theorem hostC_ok {ss : List ByteArray} {xs : List Wr} {h : Int} (hd : diskB ss xs = true) (hh : inB h 0 3 = true) : hostC ss xs h = 0 := by simp [hostC, hd, hh]
theorem askC_place {ss : List ByteArray} {xs : List Wr} {h a : Int} (hd : hostC ss xs h = 0) (hh : inB a 0 63 = false) : askC ss xs h a = 14 := by simp [askC, hd, hh]
theorem askC_ok {ss : List ByteArray} {xs : List Wr} {h a : Int} (hd : hostC ss xs h = 0) (hh : inB a 0 63 = true) : askC ss xs h a = 0 := by simp [askC, hd, hh]
theorem askC_host {ss : List ByteArray} {xs : List Wr} {h a : Int} (hd : hostC ss xs h ≠ 0) : askC ss xs h a = hostC ss xs h := by simp [askC, hd]
theorem hostC_eq {ss : List ByteArray} {xs : List Wr} {h : Int} (hd : hostC ss xs h = 0) : diskB ss xs = true ∧ 0 ≤ h ∧ h ≤ 3 := by
  unfold hostC at hd
  split at hd
  · split at hd
    · rename_i h1 h2
      simp [inB] at h2
      exact ⟨h1, h2⟩
    · cases hd
  · cases hd
theorem askC_eq {ss : List ByteArray} {xs : List Wr} {h a : Int} (hd : askC ss xs h a = 0) : hostC ss xs h = 0 ∧ 0 ≤ a ∧ a ≤ 63 := by
  unfold askC at hd
  split at hd
  · split at hd
    · rename_i h1 h2
      simp [inB] at h2
      exact ⟨h1, h2⟩
    · cases hd
  · rename_i h1
    exact absurd hd h1
theorem diskB_len {ss : List ByteArray} {xs : List Wr} (h : diskB ss xs = true) : ss.length = 64 ∧ xs.length ≤ 200 := by
  simp only [diskB, secB, penB, Bool.and_eq_true, decide_eq_true_eq] at h
  exact ⟨h.1.1, h.2.1⟩

end Go.Proofs.YtjjkppknojecjaaGreat

namespace Go.Proofs.YtjjkppknojecjaaGreat
theorem own : ownKnob Tryz.prog.godebug = none := by kernel_rfl
end Go.Proofs.YtjjkppknojecjaaGreat

namespace Go.Proofs.YtjjkppknojecjaaGreat
open Go.RowKit
set_option linter.unusedVariables false

structure Keep (S : Nat → Prop) (w w' : World) : Prop where
  os : w'.os = w.os
  tape : w'.tape = w.tape
  output : w'.output = w.output
  size : w.heap.size ≤ w'.heap.size
  block : ∀ k, k < w.heap.size → ¬ S k → w'.heap[k]? = w.heap[k]?

theorem Keep.refl (S : Nat → Prop) (w : World) : Keep S w w := ⟨rfl, rfl, rfl, Nat.le_refl _, fun _ _ _ => rfl⟩
theorem Keep.trans {S : Nat → Prop} {a b c : World} (h : Keep S a b) (k : Keep S b c) : Keep S a c :=
  ⟨k.os.trans h.os, k.tape.trans h.tape, k.output.trans h.output, Nat.le_trans h.size k.size, fun i hi hs => (k.block i (Nat.lt_of_lt_of_le hi h.size) hs).trans (h.block i hi hs)⟩
theorem Keep.mono {S T : Nat → Prop} {a b : World} (h : Keep S a b) (hs : ∀ k, S k → T k) : Keep T a b :=
  ⟨h.os, h.tape, h.output, h.size, fun i hi ht => h.block i hi (fun hk => ht (hs i hk))⟩
theorem Keep.of_below {S : Nat → Prop} {a b : World} (h : Below a.heap.size a b) : Keep S a b := ⟨h.os, h.tape, h.output, h.size, fun i hi _ => h.block i hi⟩
theorem Keep.below {S : Nat → Prop} {a b : World} {B : Nat} (h : Keep S a b) (hB : B ≤ a.heap.size) (hs : ∀ k, S k → B ≤ k) : Below B a b :=
  ⟨h.os, h.tape, h.output, h.size, fun i hi => h.block i (by omega) (fun hk => by have := hs i hk; omega)⟩
theorem Keep.setCell {S : Nat → Prop} {a b : World} (h : Keep S a b) {p : Addr} (hp : S p.block) (v : Value) : Keep S a (b.setCell p v) :=
  ⟨h.os, h.tape, h.output, by simpa using h.size, fun i hi hs => by
    rw [Below.heap_setCell b p v i (fun e => hs (e ▸ hp))]; exact h.block i hi hs⟩

def OwnR (w : World) (B e size : Nat) (v : Value) (n : Nat) (xs : List Value) : Prop := (n = 0 ∧ xs = [] ∧ ∃ ao, v = .slice ao 0 0) ∨ (0 < n ∧ w.ownsRow B e size v n xs)
def Own (v : Value) (k : Nat) : Prop := ∃ a n c, v = .slice (some a) (n + 1) c ∧ a.block = k

theorem OwnR.of {w : World} {B e size n : Nat} {v : Value} {xs : List Value} (h : w.ownsRow B e size v n xs) (hv : n = 0 → ∃ ao, v = .slice ao 0 0) : OwnR w B e size v n xs := by
  rcases Nat.eq_zero_or_pos n with h0 | h0
  · have hx : xs = [] := List.eq_nil_of_length_eq_zero (by have := h.1; rw [h0] at this; omega)
    exact .inl ⟨h0, hx, hv h0⟩
  · exact .inr ⟨h0, h⟩
theorem OwnR.len {w : World} {B e size n : Nat} {v : Value} {xs : List Value} (h : OwnR w B e size v n xs) : xs.length = n * size := by
  rcases h with ⟨rfl, rfl, _⟩ | ⟨_, h⟩
  · simp
  · exact h.1
theorem own_form {w : World} {B e size n : Nat} {v : Value} {xs : List Value} (h0 : 0 < n) (h : w.ownsRow B e size v n xs) : ∃ g cap cur, v = .slice (some ⟨g, 0, none⟩) n cap ∧ B ≤ g ∧ w.heap[g]? = some (.cells cur e (0, 0)) := by
  rcases h.2 with ⟨rfl, e0⟩ | ⟨g, cap, cur, e0, hB, hg, _⟩
  · omega
  · exact ⟨g, cap, cur, e0, hB, hg⟩
theorem own_of {g n cap k : Nat} (h0 : 0 < n) (h : g = k) : Own (.slice (some ⟨g, 0, none⟩) n cap) k := ⟨⟨g, 0, none⟩, n - 1, cap, by rw [show n - 1 + 1 = n by omega], h⟩
theorem own_elim {g n cap k : Nat} (h : Own (.slice (some ⟨g, 0, none⟩) n cap) k) : g = k := by
  obtain ⟨a, m, c, e, hk⟩ := h
  simp only [Value.slice.injEq, Option.some.injEq] at e
  rw [← e.1] at hk; exact hk
theorem own_no {ao : Option Addr} {cap k : Nat} : ¬ Own (.slice ao 0 cap) k := by
  rintro ⟨a, m, c, e, _⟩
  simp at e
theorem OwnR.keep {S : Nat → Prop} {w w' : World} {B e size n : Nat} {v : Value} {xs : List Value} (h : OwnR w B e size v n xs) (hk : Keep S w w') (hs : ∀ g, Own v g → ¬ S g) : OwnR w' B e size v n xs := by
  rcases h with h | ⟨h0, h⟩
  · exact .inl h
  · refine .inr ⟨h0, h.1, ?_⟩
    rcases h.2 with ⟨rfl, e0⟩ | ⟨g, cap, cur, rfl, hB, hg, hnc, hcm, hcs, ht⟩
    · omega
    · refine .inr ⟨g, cap, cur, rfl, hB, ?_, hnc, hcm, hcs, ht⟩
      rw [hk.block g (Array.getElem?_eq_some_iff.1 hg).1 (hs g (own_of h0 rfl))]; exact hg
theorem OwnR.below {w w' : World} {B e size n : Nat} {v : Value} {xs : List Value} (h : OwnR w B e size v n xs) (hb : Below w.heap.size w w') : OwnR w' B e size v n xs :=
  h.keep (S := fun _ => False) (Keep.of_below hb) (fun _ _ h => h)
theorem OwnR.base {w : World} {B B' e size n : Nat} {v : Value} {xs : List Value} (h : OwnR w B e size v n xs) (hB : B' ≤ B) : OwnR w B' e size v n xs := by
  rcases h with h | ⟨h0, h⟩
  · exact .inl h
  · exact .inr ⟨h0, own_base h hB⟩
theorem OwnR.ge {w : World} {B e size n : Nat} {v : Value} {xs : List Value} (h : OwnR w B e size v n xs) : ∀ k, Own v k → B ≤ k ∧ k < w.heap.size := by
  intro k hk
  rcases h with ⟨_, _, ao, rfl⟩ | ⟨h0, h⟩
  · exact absurd hk own_no
  · obtain ⟨g, cap, cur, rfl, hB, hg⟩ := own_form h0 h
    cases own_elim hk
    exact ⟨hB, (Array.getElem?_eq_some_iff.1 hg).1⟩
theorem OwnR.other {w : World} {B e size n : Nat} {v : Value} {xs : List Value} (h : OwnR w B e size v n xs) {x t : Nat} {c : Array Value} {f : Nat × Nat} (hx : w.heap[x]? = some (.cells c t f)) (he : t ≠ e) : ¬ Own v x := by
  intro hk
  rcases h with ⟨_, _, ao, rfl⟩ | ⟨h0, h⟩
  · exact own_no hk
  · obtain ⟨g, cap, cur, rfl, hB, hg⟩ := own_form h0 h
    cases own_elim hk
    rw [hx] at hg; simp at hg; exact he hg.2.1
theorem own_apart {w : World} {B B' e e' size size' n n' : Nat} {v v' : Value} {xs xs' : List Value} (h : OwnR w B e size v n xs) (h' : OwnR w B' e' size' v' n' xs') (he : e ≠ e') : ∀ g, Own v g → ¬ Own v' g := by
  intro g hg hg'
  rcases h with ⟨_, _, ao, rfl⟩ | ⟨h0, h⟩
  · exact own_no hg
  · obtain ⟨g1, cap, cur, rfl, hB, hh⟩ := own_form h0 h
    cases own_elim hg
    exact h'.other hh he hg'
theorem OwnR.setCell {w : World} {B e size n : Nat} {v : Value} {xs : List Value} (h : OwnR w B e size v n xs) {a : Addr} (ha : a.block < B) (u : Value) : OwnR (w.setCell a u) B e size v n xs := by
  rcases h with h | ⟨h0, h⟩
  · exact .inl h
  · exact .inr ⟨h0, ownsRow_setCell_below h ha u⟩

end Go.Proofs.YtjjkppknojecjaaGreat

namespace Go.Proofs.YtjjkppknojecjaaGreat
open Go.RowKit

def byteAt (s : ByteArray) (k : Nat) : Int := ((s.data[k]?.getD 0).toNat : Int)
theorem byteAt_get {s : ByteArray} {k : Nat} (h : k < s.size) : byteAt s k = (s[k].toNat : Int) := by
  have h' : k < s.data.size := h
  simp [byteAt, Array.getElem?_eq_getElem h']
  rfl
theorem byte_le (b : UInt8) : (b.toNat : Int) ≤ 255 := by have := b.toNat_lt; omega

def sumTo (s : ByteArray) : Nat → Int
  | 0 => 0
  | k + 1 => (sumTo s k + (k + 1) * (byteAt s k + 1)) % 251
theorem sumTo_in (s : ByteArray) (k : Nat) : 0 ≤ sumTo s k ∧ sumTo s k ≤ 250 := by
  cases k with
  | zero => simp [sumTo]
  | succ k => simp only [sumTo]; omega
def sumS (s : ByteArray) : Int := sumTo s s.size
def sumC (s : ByteArray) : Int := if s.size ≤ 65536 then sumS s else 0
theorem sumC_long {s : ByteArray} (h : 65536 < s.size) : sumC s = 0 := if_neg (by omega)
theorem sumC_short {s : ByteArray} (h : s.size ≤ 65536) : sumC s = sumS s := if_pos h

theorem prod_le {k : Nat} (hk : k ≤ 1048576) (b : UInt8) : 0 ≤ ((k : Int) + 1) * ((b.toNat : Int) + 1) ∧ ((k : Int) + 1) * ((b.toNat : Int) + 1) ≤ 268435712 := by
  have h1 := byte_le b
  have h2 : ((k : Int) + 1) * ((b.toNat : Int) + 1) ≤ ((k : Int) + 1) * 256 := Int.mul_le_mul_of_nonneg_left (by omega) (by omega)
  exact ⟨Int.mul_nonneg (by omega) (by omega), by omega⟩
theorem sumTo_succ {s : ByteArray} {k : Nat} (h : k < s.size) (hk : k ≤ 1048576) : (sumTo s k + ((k : Int) + 1) * ((s[k].toNat : Int) + 1)).tmod 251 = sumTo s (k + 1) := by
  have h1 := sumTo_in s k
  have h2 := prod_le hk s[k]
  rw [Int.tmod_eq_emod_of_nonneg (by omega), sumTo, byteAt_get h]
theorem wrap_id {x : Int} (h : -9223372036854775808 ≤ x) (h' : x ≤ 9223372036854775807) : wrap64 x = x := by simp only [wrap64]; omega
theorem sumTo_walk {s : ByteArray} {k : Nat} (h : k < s.size) (hk : k ≤ 1048576) : (wrap64 (sumTo s k + wrap64 (((k : Int) + 1) * wrap64 (wrap64 (s[k].toNat : Int) + 1)))).tmod 251 = sumTo s (k + 1) := by
  have h1 := sumTo_in s k
  have h2 := prod_le hk s[k]
  have h3 := byte_le s[k]
  rw [wrap_id (x := (s[k].toNat : Int)) (by omega) (by omega), wrap_id (x := (s[k].toNat : Int) + 1) (by omega) (by omega), wrap_id (x := ((k : Int) + 1) * ((s[k].toNat : Int) + 1)) (by omega) (by omega), wrap_id (by omega) (by omega)]
  exact sumTo_succ h hk

end Go.Proofs.YtjjkppknojecjaaGreat

namespace Go.Proofs.YtjjkppknojecjaaGreat
open Go.RowKit

def Is (w : World) (ao : Option Addr) (xs : List Int) : Prop := ∀ i (h : i < xs.length), ∃ b off, ao = some ⟨b, off, none⟩ ∧ w.cell? ⟨b, off + i, none⟩ = some (.int .i64 xs[i])
theorem Is.below {w w' : World} {ao : Option Addr} {xs : List Int} (h : Is w ao xs) (hb : Below w.heap.size w w') : Is w' ao xs := fun i hi => by
  obtain ⟨b, off, e, hc⟩ := h i hi
  exact ⟨b, off, e, (hb.cell (p := ⟨b, off + i, none⟩) (World.block_lt_of_cell? _ _ hc)).trans hc⟩
def intV (xs : List Int) : List Value := xs.map (Value.int .i64)
theorem intV_length (xs : List Int) : (intV xs).length = xs.length := by simp [intV]
theorem intV_get {xs : List Int} {i : Nat} (h : i < xs.length) : (intV xs)[i]? = some (.int .i64 xs[i]) := by simp [intV, h]
theorem intV_snoc (xs : List Int) (n : Int) : intV (xs ++ [n]) = intV xs ++ [.int .i64 n] := by simp [intV]
theorem ownN {w : World} {B e cap : Nat} {ao : Option Addr} {xs : List Int} (h : w.ownsRow B e 1 (.slice ao xs.length cap) xs.length (intV xs)) : Is w ao xs := by
  rcases h.2 with ⟨hv, h0⟩ | ⟨g, cap', cur, hv, hb, hg, hnc, hcm, hcs, ht⟩
  · intro i hi
    omega
  · simp only [Value.slice.injEq, true_and] at hv
    obtain ⟨rfl, rfl⟩ := hv
    intro i hi
    refine ⟨g, 0, rfl, ?_⟩
    rw [Nat.zero_add, h.cellAt i (by omega), intV_get hi]
theorem ownRN {w : World} {B e cap : Nat} {ao : Option Addr} {xs : List Int} (h : OwnR w B e 1 (.slice ao xs.length cap) xs.length (intV xs)) : Is w ao xs := by
  rcases h with ⟨h0, _⟩ | ⟨_, h⟩
  · intro i hi; omega
  · exact ownN h

def eqNB (xs ys : List Int) : Bool := decide (xs = ys)
theorem eqNB_self (xs : List Int) : eqNB xs xs = true := by simp [eqNB]
theorem eqNB_true {ss tt : List Int} (hl : ss.length = tt.length) (h : ∀ j (h : j < ss.length) (h' : j < tt.length), ss[j] = tt[j]) : eqNB ss tt = true := decide_eq_true (List.ext_getElem hl h)
theorem eqNB_false_len {ss tt : List Int} (hl : ¬ ss.length = tt.length) : eqNB ss tt = false := decide_eq_false fun h => hl (by rw [h])
theorem eqNB_false {ss tt : List Int} {k : Nat} (hk : k < ss.length) (hk' : k < tt.length) (h : ss[k] ≠ tt[k]) : eqNB ss tt = false := decide_eq_false fun e => by subst e; exact h rfl

def numB (n : Int) : Bool := inB n 0 2147483647
def allB (xs : List Int) : Bool := xs.all numB
def intsB (xs : List Int) : Bool := allB xs && decide (xs.length ≤ 16)
theorem allB_true {xs : List Int} (ha : ∀ j (h : j < xs.length), numB xs[j] = true) : allB xs = true := all_of (p := numB) (fun i hi _ => ha i hi)
theorem intsB_len {xs : List Int} (ha : ∀ j (h : j < xs.length), numB xs[j] = true) : intsB xs = decide (xs.length ≤ 16) := by rw [intsB, allB_true ha]; rfl
theorem intsB_long {xs : List Int} (h : 16 < xs.length) : intsB xs = false := by rw [intsB, decide_eq_false (by omega)]; simp
theorem intsB_parts {xs : List Int} (h : intsB xs = true) : (∀ j (h : j < xs.length), 0 ≤ xs[j] ∧ xs[j] ≤ 2147483647) ∧ xs.length ≤ 16 := by
  simp only [intsB, Bool.and_eq_true, decide_eq_true_eq] at h
  refine ⟨fun j hj => ?_, h.2⟩
  have := h.1
  rw [allB, List.all_eq_true] at this
  have := this _ (List.getElem_mem hj)
  simpa [numB, inB] using this
def listC (xs : List Int) : Int := if 4096 < xs.length then 2 else if intsB xs = true then 0 else 4
theorem listC_long {xs : List Int} (h : 4096 < xs.length) : listC xs = 2 := if_pos h
theorem listC_bad {xs : List Int} (h : ¬ 4096 < xs.length) (hb : intsB xs = false) : listC xs = 4 := by rw [listC, if_neg h, if_neg (by simp [hb])]
theorem listC_ok {xs : List Int} (h : ¬ 4096 < xs.length) (hb : intsB xs = true) : listC xs = 0 := by rw [listC, if_neg h, if_pos hb]
theorem listC_zero {xs : List Int} (h : listC xs = 0) : intsB xs = true := by
  unfold listC at h
  split at h
  · cases h
  · split at h
    · assumption
    · cases h

def byteN (n : Int) (j : Nat) : Int := n / (256 : Int) ^ j % 256
def fourTo (n : Int) (j : Nat) : List Int := (List.range j).map (byteN n)
def four (n : Int) : List Int := fourTo n 4
theorem fourTo_succ (n : Int) (j : Nat) : fourTo n (j + 1) = fourTo n j ++ [byteN n j] := by simp [fourTo, List.range_succ]
theorem fourTo_length (n : Int) (j : Nat) : (fourTo n j).length = j := by simp [fourTo]
def byteV (ns : List Int) : List Value := ns.map (Value.int .u8)
theorem byteV_length (ns : List Int) : (byteV ns).length = ns.length := by simp [byteV]
theorem byteV_snoc (ns : List Int) (n : Int) : byteV (ns ++ [n]) = byteV ns ++ [.int .u8 n] := by simp [byteV]
def shN (n : Int) (j : Nat) : Int := n / (256 : Int) ^ j
theorem shN_in {n : Int} (h : 0 ≤ n) (h' : n ≤ 2147483647) (j : Nat) : 0 ≤ shN n j ∧ shN n j ≤ 2147483647 := by
  have hp : (0 : Int) < (256 : Int) ^ j := Int.pow_pos (by omega)
  refine ⟨Int.ediv_nonneg h (by omega), Int.le_trans (Int.ediv_le_self _ h) h'⟩
theorem shN_succ (n : Int) (j : Nat) : shN n (j + 1) = shN n j / 256 := by
  unfold shN
  rw [Int.pow_succ, Int.ediv_ediv_of_nonneg (Int.pow_nonneg (by omega))]
theorem shN_byte (n : Int) (j : Nat) : shN n j % 256 = byteN n j := rfl
theorem byte_news (w : World) (v : Value) (t : TypeId) : ∀ j u, [v][j]? = some u → (w.alloc (.cells #[v] t)).cell? ((⟨w.heap.size, 0, none⟩ : Addr).add j) = some u := by
  intro j u hu
  have hj : j = 0 := by
    rcases Nat.eq_zero_or_pos j with h | h
    · exact h
    · rw [List.getElem?_eq_none (by simp; omega)] at hu; cases hu
  subst hj
  simp at hu
  subst hu
  simp [Addr.add, go_sem]
theorem byte_one (n : Int) : ∀ u ∈ [Value.int .u8 n], u.oneCell' = true := by
  intro u hu
  simp at hu
  subst hu
  rfl
theorem keep_below {w0 w w' : World} {v : Value} {B e size n : Nat} {xs : List Value} (hb : Below w0.heap.size w0 w) (ho : OwnR w B e size v n xs) (hB : w0.heap.size ≤ B) (hk : Keep (Own v) w w') : Below w0.heap.size w0 w' :=
  hb.trans (hk.below hb.size (fun k hk => Nat.le_trans hB (ho.ge k hk).1))
def packL (xs : List Int) : List Int := xs.flatMap four
def packS (xs : List Int) : ByteArray := strOfNums (packL xs)
theorem packL_length : ∀ (xs : List Int), (packL xs).length = xs.length * 4
  | [] => rfl
  | x :: xs => by
    have ih := packL_length xs
    simp only [packL, List.flatMap_cons, List.length_append, List.length_cons] at ih ⊢
    rw [four, fourTo_length]
    omega
theorem packL_snoc (xs : List Int) (n : Int) : packL (xs ++ [n]) = packL xs ++ four n := by simp [packL]
theorem packL_succ {xs : List Int} {k : Nat} (h : k < xs.length) : packL (xs.take (k + 1)) = packL (xs.take k) ++ four xs[k] := by
  rw [List.take_succ_eq_append_getElem h, packL_snoc]
theorem packS_size (xs : List Int) : (packS xs).size = xs.length * 4 := by rw [packS, strOfNums_size, packL_length]

theorem convert_own {P : Program} {w : World} {src e dst : TypeId} (hs : P.underlying src = some (.slice e)) (he : P.underlying e = some (.int .u8)) (hd : P.underlying dst = some .string) {B n qa t : Nat} {qo : Option Addr} {ns : List Int}
    (h : OwnR w B t 1 (.slice qo n qa) n (byteV ns)) : (convert src dst (.slice qo n qa)).run P w = .ok (.string (strOfNums ns)) w := by
  rcases h with ⟨rfl, hx, ao, hv⟩ | ⟨h0, h⟩
  · simp only [Value.slice.injEq, true_and] at hv
    obtain ⟨rfl, rfl⟩ := hv
    have hns : ns = [] := by simpa [byteV] using hx
    subst hns
    cases qo with
    | none => exact run_convert_bytes_nil w src e hs he 0 0 dst hd
    | some a =>
      have hl : (loadCells a 0).run P w = .ok (([] : List Int).map (Value.int .u8)).toArray w := by simpa using run_loadCells_list (P := P) w a [] (by simp)
      rw [run_convert_bytes_string w src dst e _ 0 0 hs he hd, run_bytesToString w a 0 0 [] hl]
      rfl
  · obtain ⟨g, cap, cur, hv, _, _⟩ := own_form h0 h
    simp only [Value.slice.injEq, true_and] at hv
    obtain ⟨rfl, rfl⟩ := hv
    have hlen : ns.length = n := by have := h.1; rw [byteV_length] at this; omega
    refine run_convert_bytes_arg w src e hs he g 0 n _ ns hlen (fun i hi => ?_) dst hd
    rw [Nat.zero_add, h.cellAt i (by omega)]
    simp [byteV, List.getElem?_eq_getElem (show i < ns.length by omega), List.getD]

end Go.Proofs.YtjjkppknojecjaaGreat

namespace Go.Proofs.YtjjkppknojecjaaGreat
open Go.RowKit
set_option linter.unusedVariables false

structure OwnD (w : World) (B : Nat) (ao : Option Addr) (n ca : Nat) (bo : Option Addr) (m cb : Nat) (ss : List ByteArray) (xs : List Wr) : Prop where
  s : OwnR w B 9 1 (.slice ao n ca) n (strV ss)
  i : OwnR w B 95 3 (.slice bo m cb) m (ioV xs)

def OwnB (ao : Option Addr) (n ca : Nat) (bo : Option Addr) (m cb : Nat) (k : Nat) : Prop := Own (.slice ao n ca) k ∨ Own (.slice bo m cb) k

theorem OwnD.below {w w' : World} {B n ca m cb : Nat} {ao bo : Option Addr} {ss : List ByteArray} {xs : List Wr} (h : OwnD w B ao n ca bo m cb ss xs) (hb : Below w.heap.size w w') : OwnD w' B ao n ca bo m cb ss xs := ⟨h.s.below hb, h.i.below hb⟩
theorem OwnD.base {w : World} {B B' n ca m cb : Nat} {ao bo : Option Addr} {ss : List ByteArray} {xs : List Wr} (h : OwnD w B ao n ca bo m cb ss xs) (hb : B' ≤ B) : OwnD w B' ao n ca bo m cb ss xs := ⟨h.s.base hb, h.i.base hb⟩
theorem OwnD.keep {S : Nat → Prop} {w w' : World} {B n ca m cb : Nat} {ao bo : Option Addr} {ss : List ByteArray} {xs : List Wr} (h : OwnD w B ao n ca bo m cb ss xs) (hk : Keep S w w') (hs : ∀ g, OwnB ao n ca bo m cb g → ¬ S g) : OwnD w' B ao n ca bo m cb ss xs :=
  ⟨h.s.keep hk (fun g hg => hs g (.inl hg)), h.i.keep hk (fun g hg => hs g (.inr hg))⟩
theorem OwnD.setCell {w : World} {B n ca m cb : Nat} {ao bo : Option Addr} {ss : List ByteArray} {xs : List Wr} (h : OwnD w B ao n ca bo m cb ss xs) {a : Addr} (ha : a.block < B) (u : Value) : OwnD (w.setCell a u) B ao n ca bo m cb ss xs := ⟨h.s.setCell ha u, h.i.setCell ha u⟩
theorem OwnD.ge {w : World} {B n ca m cb : Nat} {ao bo : Option Addr} {ss : List ByteArray} {xs : List Wr} (h : OwnD w B ao n ca bo m cb ss xs) : ∀ k, OwnB ao n ca bo m cb k → B ≤ k ∧ k < w.heap.size := by
  rintro k (hk | hk)
  · exact h.s.ge k hk
  · exact h.i.ge k hk
theorem OwnD.len {w : World} {B n ca m cb : Nat} {ao bo : Option Addr} {ss : List ByteArray} {xs : List Wr} (h : OwnD w B ao n ca bo m cb ss xs) : ss.length = n ∧ xs.length = m := by
  have h1 := h.s.len
  have h2 := h.i.len
  rw [strV_length] at h1
  rw [ioV_length] at h2
  exact ⟨by omega, by omega⟩
theorem OwnD.ss {w : World} {B n ca m cb : Nat} {ao bo : Option Addr} {ss : List ByteArray} {xs : List Wr} (h : OwnD w B ao n ca bo m cb ss xs) (hz : ∀ s ∈ ss, s.size ≤ maxLen) : Ss w ao ss := by
  obtain ⟨rfl, rfl⟩ := h.len
  rcases h.s with ⟨h0, _⟩ | ⟨_, h'⟩
  · intro i hi; omega
  · exact ownS h' hz
theorem OwnD.ios {w : World} {B n ca m cb : Nat} {ao bo : Option Addr} {ss : List ByteArray} {xs : List Wr} (h : OwnD w B ao n ca bo m cb ss xs) (hz : ∀ x ∈ xs, x.data.size ≤ maxLen) : Ios w bo xs := by
  obtain ⟨rfl, rfl⟩ := h.len
  rcases h.i with ⟨h0, _⟩ | ⟨_, h'⟩
  · intro i hi; omega
  · exact ownI h' hz
theorem OwnD.other {w : World} {B n ca m cb : Nat} {ao bo : Option Addr} {ss : List ByteArray} {xs : List Wr} (h : OwnD w B ao n ca bo m cb ss xs) {x t : Nat} {c : Array Value} {f : Nat × Nat} (hx : w.heap[x]? = some (.cells c t f)) (h1 : t ≠ 9) (h2 : t ≠ 95) : ¬ OwnB ao n ca bo m cb x := by
  rintro (hk | hk)
  · exact h.s.other hx h1 hk
  · exact h.i.other hx h2 hk

def VarD (w : World) (x : Nat) (a b : Value) : Prop := w.heap[x]? = some (.cells #[a, b] 27 (0, 0))
theorem VarD.lt {w : World} {x : Nat} {a b : Value} (h : VarD w x a b) : x < w.heap.size := (Array.getElem?_eq_some_iff.1 h).1
theorem VarD.cells {w : World} {x : Nat} {a b : Value} (h : VarD w x a b) : w.cell? ⟨x, 0, none⟩ = some a ∧ w.cell? ⟨x, 1, none⟩ = some b := ⟨by rw [Joins.cell_of_block h]; rfl, by rw [Joins.cell_of_block h]; rfl⟩
theorem VarD.below {w w' : World} {x : Nat} {a b : Value} (h : VarD w x a b) (hb : Below w.heap.size w w') : VarD w' x a b := by
  unfold VarD; rw [hb.block x h.lt]; exact h
theorem VarD.keep {S : Nat → Prop} {w w' : World} {x : Nat} {a b : Value} (h : VarD w x a b) (hk : Keep S w w') (hs : ¬ S x) : VarD w' x a b := by
  unfold VarD; rw [hk.block x h.lt hs]; exact h
theorem VarD.new (w : World) (a b : Value) : VarD (w.alloc (.cells #[a, b] 27)) w.heap.size a b := heap_alloc_new w _

end Go.Proofs.YtjjkppknojecjaaGreat

namespace Go.Proofs.YtjjkppknojecjaaGreat
open Go.RowKit
set_option linter.unusedVariables false
set_option maxRecDepth 100000

theorem hidB {p : Prop} (h : p) : Hid p := h
theorem frB {a b c : World} (h : Below a.heap.size a b) (k : Below b.heap.size b c) : Below a.heap.size a c := h.trans (k.mono h.size)
def betw (n low high : Int) : Bool := decide (low ≤ n) && decide (n ≤ high)
theorem betw_yes {n low high : Int} (h : low ≤ n) (h' : n ≤ high) : betw n low high = true := by simp [betw, h, h']
theorem betw_no {n low high : Int} (h : ¬ (low ≤ n ∧ n ≤ high)) : betw n low high = false := by simp only [betw, Bool.and_eq_false_iff, decide_eq_false_iff_not]; omega
theorem betw_iff {n low high : Int} : betw n low high = true ↔ low ≤ n ∧ n ≤ high := by simp [betw]
def cfgB (f d l r : Int) : Bool := betw f 1 10000 && betw d 1 100000 && betw l 0 1000 && betw r 0 500
theorem cfgB_iff {f d l r : Int} : cfgB f d l r = true ↔ (1 ≤ f ∧ f ≤ 10000) ∧ (1 ≤ d ∧ d ≤ 100000) ∧ (0 ≤ l ∧ l ≤ 1000) ∧ 0 ≤ r ∧ r ≤ 500 := by
  simp only [cfgB, Bool.and_eq_true, betw_iff, and_assoc]
def latQ (r x : Int) : Int := ((x + 1) * 1000 + 999 - r) / (1000 - r)
def earQ (r x : Int) : Int := (x - 1) * 1000 / (1000 + r)
abbrev cfgV (f d l r : Int) : Value := .agg #[.int .i64 f, .int .i64 d, .int .i64 l, .int .i64 r]
abbrev Four (w : World) (b : Nat) (f d l r : Int) : Prop := w.cell? ⟨b, 0, none⟩ = some (.int .i64 f) ∧ w.cell? ⟨b, 1, none⟩ = some (.int .i64 d) ∧ w.cell? ⟨b, 2, none⟩ = some (.int .i64 l) ∧ w.cell? ⟨b, 3, none⟩ = some (.int .i64 r)
theorem Four.below {w w' : World} {b : Nat} {f d l r : Int} (h : Four w b f d l r) (hb : Below w.heap.size w w') : Four w' b f d l r :=
  ⟨(hb.cell (World.block_lt_of_cell? _ _ h.1)).trans h.1, (hb.cell (World.block_lt_of_cell? _ _ h.2.1)).trans h.2.1, (hb.cell (World.block_lt_of_cell? _ _ h.2.2.1)).trans h.2.2.1, (hb.cell (World.block_lt_of_cell? _ _ h.2.2.2)).trans h.2.2.2⟩
set_option maxHeartbeats 800000 in
theorem within_any (n low high : Int) (w : World) : Calls Tryz.prog 40 #[.int .i64 n, .int .i64 low, .int .i64 high] w fun e w' => e = .returned (.bool (betw n low high)) ∧ w' = w := by
  by_cases h1 : low ≤ n
  · by_cases h2 : n ≤ high
    · have hr := hidB (betw_yes h1 h2)
      go_enter Tryz.func40, Tryz.ntmps40
      go_wp2
      go_ret
      rw [show betw n low high = true from hr]
      exact ⟨rfl, rfl⟩
    · have hr := hidB (betw_no (n := n) (low := low) (high := high) (by omega))
      go_enter Tryz.func40, Tryz.ntmps40
      go_wp2
      go_ret
      rw [show betw n low high = false from hr]
      exact ⟨rfl, rfl⟩
  · have hr := hidB (betw_no (n := n) (low := low) (high := high) (by omega))
    go_enter Tryz.func40, Tryz.ntmps40
    go_wp2
    go_ret
    rw [show betw n low high = false from hr]
    exact ⟨rfl, rfl⟩
set_option maxHeartbeats 800000 in
theorem in_any (n low high : Int) (w : World) : Calls Tryz.prog 14 #[.int .i64 n, .int .i64 low, .int .i64 high] w fun e w' => e = .returned (.bool (betw n low high)) ∧ w' = w := by
  by_cases h1 : low ≤ n
  · by_cases h2 : n ≤ high
    · have hr := hidB (betw_yes h1 h2)
      go_enter Tryz.func14, Tryz.ntmps14
      go_wp2
      go_ret
      rw [show betw n low high = true from hr]
      exact ⟨rfl, rfl⟩
    · have hr := hidB (betw_no (n := n) (low := low) (high := high) (by omega))
      go_enter Tryz.func14, Tryz.ntmps14
      go_wp2
      go_ret
      rw [show betw n low high = false from hr]
      exact ⟨rfl, rfl⟩
  · have hr := hidB (betw_no (n := n) (low := low) (high := high) (by omega))
    go_enter Tryz.func14, Tryz.ntmps14
    go_wp2
    go_ret
    rw [show betw n low high = false from hr]
    exact ⟨rfl, rfl⟩

theorem cfg_1 {f d l r : Int} (h : betw f 1 10000 = false) : cfgB f d l r = false := by simp [cfgB, h]
theorem cfg_2 {f d l r : Int} (h : betw d 1 100000 = false) : cfgB f d l r = false := by simp [cfgB, h]
theorem cfg_3 {f d l r : Int} (h : betw l 0 1000 = false) : cfgB f d l r = false := by simp [cfgB, h]
theorem cfg_4 {f d l r : Int} (h1 : betw f 1 10000 = true) (h2 : betw d 1 100000 = true) (h3 : betw l 0 1000 = true) : cfgB f d l r = betw r 0 500 := by simp [cfgB, h1, h2, h3]

theorem fieldC0 (f d l r : Int) (W : World) : (Instr.field 28 (cfgV f d l r) 0).run Tryz.prog W = .ok (.int .i64 f) W := by kernel_rfl
theorem fieldC1 (f d l r : Int) (W : World) : (Instr.field 28 (cfgV f d l r) 1).run Tryz.prog W = .ok (.int .i64 d) W := by kernel_rfl
theorem fieldC2 (f d l r : Int) (W : World) : (Instr.field 28 (cfgV f d l r) 2).run Tryz.prog W = .ok (.int .i64 l) W := by kernel_rfl
theorem fieldC3 (f d l r : Int) (W : World) : (Instr.field 28 (cfgV f d l r) 3).run Tryz.prog W = .ok (.int .i64 r) W := by kernel_rfl

set_option maxHeartbeats 1600000 in
theorem bounds_impl (f d l r : Int) (w : World) : Calls Tryz.prog 37 #[cfgV f d l r] w fun e w' => e = .returned (.bool (cfgB f d l r)) ∧ Below w.heap.size w w' := by
  have f0 := fieldC0 f d l r
  have f1 := fieldC1 f d l r
  have f2 := fieldC2 f d l r
  have f3 := fieldC3 f d l r
  go_enter Tryz.func37, Tryz.ntmps37
  go_wp2_with fail
  refine (within_any f 1 10000 _).mono ?_
  rintro e w1 ⟨rfl, rfl⟩
  by_cases h1 : betw f 1 10000 = false
  · have hr := hidB (cfg_1 (d := d) (l := l) (r := r) h1)
    go_wp2
    go_ret
    rw [show cfgB f d l r = false from hr]
    exact ⟨rfl, Joins.below_alloc1 _ _⟩
  rw [Bool.not_eq_false] at h1
  go_wp2_with fail
  refine (within_any d 1 100000 _).mono ?_
  rintro e w1 ⟨rfl, rfl⟩
  by_cases h2 : betw d 1 100000 = false
  · have hr := hidB (cfg_2 (f := f) (l := l) (r := r) h2)
    go_wp2
    go_ret
    rw [show cfgB f d l r = false from hr]
    exact ⟨rfl, Joins.below_alloc1 _ _⟩
  rw [Bool.not_eq_false] at h2
  go_wp2_with fail
  refine (within_any l 0 1000 _).mono ?_
  rintro e w1 ⟨rfl, rfl⟩
  by_cases h3 : betw l 0 1000 = false
  · have hr := hidB (cfg_3 (f := f) (d := d) (r := r) h3)
    go_wp2
    go_ret
    rw [show cfgB f d l r = false from hr]
    exact ⟨rfl, Joins.below_alloc1 _ _⟩
  rw [Bool.not_eq_false] at h3
  have hr := hidB (cfg_4 (r := r) h1 h2 h3)
  go_wp2_with fail
  refine (within_any r 0 500 _).mono ?_
  rintro e w1 ⟨rfl, rfl⟩
  go_wp2
  go_ret
  rw [show cfgB f d l r = betw r 0 500 from hr]
  exact ⟨rfl, Joins.below_alloc1 _ _⟩
end Go.Proofs.YtjjkppknojecjaaGreat

namespace Go.Proofs.YtjjkppknojecjaaGreat
open Go.RowKit
set_option linter.unusedVariables false

structure Hst where
  st : Int
  gen : Int
  ren : Int
def hst0 : Hst := ⟨0, 0, 0⟩
abbrev hstV (x : Hst) : Value := .agg #[.int .i64 x.st, .int .i64 x.gen, .int .i64 x.ren]
def Hss (w : World) (ao : Option Addr) (xs : List Hst) : Prop := ∀ i (h : i < xs.length), ∃ b off, ao = some ⟨b, off, none⟩ ∧
  w.cell? ⟨b, off + i * 3, none⟩ = some (.int .i64 xs[i].st) ∧ w.cell? ⟨b, off + i * 3 + 1, none⟩ = some (.int .i64 xs[i].gen) ∧ w.cell? ⟨b, off + i * 3 + 2, none⟩ = some (.int .i64 xs[i].ren)
theorem Hss.below {w w' : World} {ao : Option Addr} {xs : List Hst} (h : Hss w ao xs) (hb : Below w.heap.size w w') : Hss w' ao xs := fun i hi => by
  obtain ⟨b, off, e, h0, h1, h2⟩ := h i hi
  exact ⟨b, off, e, (hb.cell (p := ⟨b, off + i * 3, none⟩) (World.block_lt_of_cell? _ _ h0)).trans h0, (hb.cell (p := ⟨b, off + i * 3 + 1, none⟩) (World.block_lt_of_cell? _ _ h1)).trans h1, (hb.cell (p := ⟨b, off + i * 3 + 2, none⟩) (World.block_lt_of_cell? _ _ h2)).trans h2⟩
def hssV (xs : List Hst) : List Value := xs.flatMap fun x => [.int .i64 x.st, .int .i64 x.gen, .int .i64 x.ren]
theorem hssV_cons (x : Hst) (xs : List Hst) : hssV (x :: xs) = [.int .i64 x.st, .int .i64 x.gen, .int .i64 x.ren] ++ hssV xs := rfl
theorem hssV_length (xs : List Hst) : (hssV xs).length = xs.length * 3 := by
  induction xs with
  | nil => rfl
  | cons x xs ih => simp only [hssV, List.flatMap_cons, List.length_append, List.length_cons, List.length_nil] at ih ⊢; omega
theorem hssV_get : ∀ {xs : List Hst} {i : Nat} (h : i < xs.length), (hssV xs)[i * 3]? = some (.int .i64 xs[i].st) ∧ (hssV xs)[i * 3 + 1]? = some (.int .i64 xs[i].gen) ∧ (hssV xs)[i * 3 + 2]? = some (.int .i64 xs[i].ren)
  | [], _, h => absurd h (Nat.not_lt_zero _)
  | x :: xs, 0, _ => by simp [hssV_cons]
  | x :: xs, i + 1, h => by
    have ih := hssV_get (xs := xs) (i := i) (by simpa using h)
    rw [hssV_cons, show (i + 1) * 3 = i * 3 + 3 by omega]
    refine ⟨?_, ?_, ?_⟩
    · rw [List.getElem?_append_right (by simp)]; simpa using ih.1
    · rw [List.getElem?_append_right (by simp)]; simpa [Nat.add_right_comm] using ih.2.1
    · rw [List.getElem?_append_right (by simp)]; simpa [Nat.add_right_comm] using ih.2.2
theorem ownHss {w : World} {B e cap : Nat} {ao : Option Addr} {xs : List Hst} (h : OwnR w B e 3 (.slice ao xs.length cap) xs.length (hssV xs)) : Hss w ao xs := by
  rcases h with ⟨h0, _, _⟩ | ⟨h0, h⟩
  · intro i hi; omega
  rcases h.2 with ⟨e0, h0'⟩ | ⟨g, cap, cur, e0, hb, hg, hnc, hcm, hcs, ht⟩
  · omega
  · simp only [Value.slice.injEq, true_and] at e0
    obtain ⟨rfl, rfl⟩ := e0
    have g4 := fun i (hi : i < xs.length) => hssV_get hi
    refine fun i hi => ⟨g, 0, rfl, ?_, ?_, ?_⟩
    · rw [Nat.zero_add, h.cellAt _ (by omega)]; exact (g4 i hi).1
    · rw [Nat.zero_add, h.cellAt _ (by omega)]; exact (g4 i hi).2.1
    · rw [Nat.zero_add, h.cellAt _ (by omega)]; exact (g4 i hi).2.2
theorem Hss.at {w : World} {ao : Option Addr} {xs : List Hst} (h : Hss w ao xs) (hp : 0 < xs.length) : ∃ b off, ao = some ⟨b, off, none⟩ ∧ b < w.heap.size ∧ ∀ j v, (hssV xs)[j]? = some v → w.cell? (Addr.add ⟨b, off, none⟩ j) = some v := by
  obtain ⟨b, off, rfl, h0, _⟩ := h 0 hp
  refine ⟨b, off, rfl, World.block_lt_of_cell? _ _ h0, fun j v hv => ?_⟩
  have hj : j < xs.length * 3 := by have := (List.getElem?_eq_some_iff.1 hv).1; rwa [hssV_length] at this
  obtain ⟨b', off', e, c0, c1, c2⟩ := h (j / 3) (by omega)
  simp only [Option.some.injEq, Addr.mk.injEq, and_true] at e
  obtain ⟨rfl, rfl⟩ := e
  obtain ⟨g0, g1, g2⟩ := hssV_get (xs := xs) (i := j / 3) (by omega)
  rw [show Addr.add ⟨b, off, none⟩ j = ⟨b, off + j, none⟩ from by unfold Addr.add; split <;> simp_all]
  rcases (show j = j / 3 * 3 ∨ j = j / 3 * 3 + 1 ∨ j = j / 3 * 3 + 2 by omega) with e | e | e
  · rw [e] at hv ⊢; rw [g0] at hv; cases hv; exact c0
  · rw [e] at hv ⊢; rw [g1] at hv; cases hv; exact c1
  · rw [e] at hv ⊢; rw [g2] at hv; cases hv; exact c2
theorem Hss.src {w : World} {ao : Option Addr} {xs : List Hst} (h : Hss w ao xs) : 0 < xs.length → ∃ ad, ao = some ad ∧ ∀ j u, (hssV xs)[j]? = some u → w.cell? (ad.add j) = some u := fun hp => by
  obtain ⟨b, off, rfl, _, hc⟩ := h.at hp
  exact ⟨_, rfl, hc⟩
end Go.Proofs.YtjjkppknojecjaaGreat

namespace Go.Proofs.YtjjkppknojecjaaGreat
open Go.RowKit
set_option linter.unusedVariables false
set_option maxRecDepth 100000

structure Rq where
  k : Int
  g : Int
  v : Int
  n : ByteArray
abbrev noB : ByteArray := ⟨#[]⟩
abbrev qV (q : Rq) : Value := .agg #[.int .i64 q.k, .int .i64 q.g, .int .i64 q.v, .string q.n]
end Go.Proofs.YtjjkppknojecjaaGreat

namespace Go.Proofs.YtjjkppknojecjaaGreat
open Go.RowKit

theorem wraps_i64 (n : Int) (h₀ : 0 ≤ n) (h₁ : n < 2 ^ 63) : IntKind.i64.wrap n = n := by rw [IntKind.wrap_i64]; omega
theorem or_low (i : Nat) (y x : Int) (hy₀ : 0 ≤ y) (hy : y < 2 ^ i) (hy₁ : y < 2 ^ 63) (hx₀ : 0 ≤ x) (hx : x % 2 ^ i = 0) (hx₁ : x < 2 ^ 63) : bits .or .i64 y x = y + x :=
  bits_join_low .i64 63 (by decide) wraps_i64 i y x hy₀ hy hy₁ hx₀ hx hx₁
def hi (s : ByteArray) (i : Nat) : Nat → Int
  | 0 => 0
  | m + 1 => hi s i m * 256 + byteAt s (i + (3 - m))
end Go.Proofs.YtjjkppknojecjaaGreat

namespace Go.Proofs.YtjjkppknojecjaaGreat
open Go.RowKit

theorem nums_append (a b : List Int) : strOfNums (a ++ b) = strOfNums a ++ strOfNums b := by
  apply ByteArray.ext
  simp [strOfNums]

def kindB (k : Int) : Bool := inB k 1 9
theorem kindB_in {k : Int} (h : kindB k = true) : 1 ≤ k ∧ k ≤ 9 := by simpa [kindB, inB] using h
def sumT (k : Int) (xs : List Int) : ByteArray := strOfNums [k, xs.length] ++ packS xs
def sumR (k : Int) (xs : List Int) : Int := sumS (sumT k xs)
def headR (k : Int) (xs : List Int) : List Int := [k, xs.length, sumR k xs, 0]
def sealS (k : Int) (xs : List Int) : ByteArray := strOfNums (headR k xs) ++ packS xs
theorem sumT_size (k : Int) (xs : List Int) : (sumT k xs).size = 2 + xs.length * 4 := by rw [sumT, ByteArray.size_append, strOfNums_size, packS_size]; rfl
theorem sealS_size (k : Int) (xs : List Int) : (sealS k xs).size = 4 + xs.length * 4 := by rw [sealS, ByteArray.size_append, strOfNums_size, packS_size]; rfl
theorem sumR_in (k : Int) (xs : List Int) : 0 ≤ sumR k xs ∧ sumR k xs ≤ 250 := sumTo_in _ _
theorem sealS_parts (k : Int) (xs : List Int) : strOfNums [k, (xs.length : Int)] ++ strOfNums [sumR k xs, 0] ++ packS xs = sealS k xs := by
  rw [← nums_append]; rfl

def sealC (k : Int) (xs : List Int) : Int := if listC xs = 0 then (if kindB k = true then 0 else 4) else listC xs
def sealT (k : Int) (xs : List Int) : ByteArray := if sealC k xs = 0 then sealS k xs else ⟨#[]⟩
theorem sealC_list {k : Int} {xs : List Int} (h : listC xs ≠ 0) : sealC k xs = listC xs := if_neg h
theorem sealC_kind {k : Int} {xs : List Int} (h : listC xs = 0) (hk : kindB k = false) : sealC k xs = 4 := by rw [sealC, if_pos h, if_neg (by simp [hk])]
theorem sealC_ok {k : Int} {xs : List Int} (h : listC xs = 0) (hk : kindB k = true) : sealC k xs = 0 := by rw [sealC, if_pos h, if_pos hk]
theorem sealT_ok {k : Int} {xs : List Int} (h : sealC k xs = 0) : sealT k xs = sealS k xs := if_pos h
theorem sealT_no {k : Int} {xs : List Int} (h : sealC k xs ≠ 0) : sealT k xs = ⟨#[]⟩ := if_neg h

end Go.Proofs.YtjjkppknojecjaaGreat

namespace Go.Proofs.YtjjkppknojecjaaGreat
open Go.RowKit
set_option linter.unusedVariables false
set_option maxRecDepth 100000

def cnt1 (n : Int) : Bool := betw n 0 15
def ctB (xs : List Int) : Bool := decide (xs.length = 24) && xs.all cnt1
def zero24 : List Int := List.replicate 24 0
theorem ctB_len {xs : List Int} (h : ctB xs = true) : xs.length = 24 := by
  simp only [ctB, Bool.and_eq_true, decide_eq_true_eq] at h; exact h.1
theorem ctB_at {xs : List Int} (h : ctB xs = true) : ∀ i (hi : i < xs.length), 0 ≤ xs[i] ∧ xs[i] ≤ 15 := by
  intro i hi
  simp only [ctB, Bool.and_eq_true, decide_eq_true_eq, List.all_eq_true] at h
  exact betw_iff.1 (h.2 xs[i] (List.getElem_mem hi))
def frN (xs : List Int) : Nat := xs.findIdx (fun n => decide (n = 0))
def hx6 (xs : List Int) (i : Nat) : Nat → Int
  | 0 => 0
  | m + 1 => 16 * hx6 xs i m + xs.getD (i + (5 - m)) 0
def lo6 (xs : List Int) (i : Nat) : Nat → Int
  | 0 => 0
  | m + 1 => lo6 xs i m + xs.getD (i + m) 0 * 16 ^ m
theorem hx_lo (xs : List Int) (i : Nat) : hx6 xs i 6 = lo6 xs i 6 := by
  simp only [hx6, lo6, Nat.sub_zero, Nat.reduceSub, Nat.add_zero]
  simp only [show (16 : Int) ^ 0 = 1 from rfl, show (16 : Int) ^ 1 = 16 from rfl, show (16 : Int) ^ 2 = 256 from rfl, show (16 : Int) ^ 3 = 4096 from rfl, show (16 : Int) ^ 4 = 65536 from rfl, show (16 : Int) ^ 5 = 1048576 from rfl]
  omega
theorem lo_in (xs : List Int) (i : Nat) (h : ∀ j, 0 ≤ xs.getD j 0 ∧ xs.getD j 0 ≤ 15) : ∀ m, 0 ≤ lo6 xs i m ∧ lo6 xs i m < 16 ^ m
  | 0 => by simp [lo6]
  | m + 1 => by
    obtain ⟨h0, h1⟩ := lo_in xs i h m
    obtain ⟨g0, g1⟩ := h (i + m)
    rw [lo6, show (16 : Int) ^ (m + 1) = 16 ^ m * 16 from Int.pow_succ 16 m]
    generalize (16 : Int) ^ m = P at *
    have a0 : 0 ≤ xs.getD (i + m) 0 * P := Int.mul_nonneg g0 (by omega)
    have a1 : xs.getD (i + m) 0 * P ≤ 15 * P := Int.mul_le_mul_of_nonneg_right g1 (by omega)
    omega
theorem ctB_getD {xs : List Int} (h : ctB xs = true) (j : Nat) : 0 ≤ xs.getD j 0 ∧ xs.getD j 0 ≤ 15 := by
  by_cases hj : j < xs.length
  · rw [List.getD, List.getElem?_eq_getElem hj]; exact ctB_at h j hj
  · rw [List.getD, List.getElem?_eq_none (by omega)]; decide
def ctNs (xs : List Int) : List Int := [lo6 xs 0 6, lo6 xs 6 6, lo6 xs 12 6, lo6 xs 18 6]
def encT (xs : List Int) : ByteArray := sealS 2 (ctNs xs)
theorem ctNs_in {xs : List Int} (h : ctB xs = true) : ∀ j (hj : j < (ctNs xs).length), 0 ≤ (ctNs xs)[j] ∧ (ctNs xs)[j] ≤ 16777215 := by
  have k : ∀ i, 0 ≤ lo6 xs i 6 ∧ lo6 xs i 6 ≤ 16777215 := fun i => by
    have := lo_in xs i (ctB_getD h) 6
    rw [show (16 : Int) ^ 6 = 16777216 from rfl] at this
    omega
  intro j hj
  match j, hj with
  | 0, _ => exact k 0
  | 1, _ => exact k 6
  | 2, _ => exact k 12
  | 3, _ => exact k 18
theorem ct_seal {xs : List Int} (h : ctB xs = true) : sealC 2 (ctNs xs) = 0 ∧ sealT 2 (ctNs xs) = encT xs := by
  have hi : intsB (ctNs xs) = true := by
    rw [intsB_len]
    · rfl
    · intro j hj
      have := ctNs_in h j hj
      simp [numB, inB]; omega
  have hc : sealC 2 (ctNs xs) = 0 := sealC_ok (listC_ok (by simp [ctNs]) hi) rfl
  exact ⟨hc, sealT_ok hc⟩
def txN (xs : List Int) (k : Nat) : List Int := (List.range 4).map (fun q => lo6 xs (6 * q) (min 6 (k - 6 * q)))
theorem txN_len (xs : List Int) (k : Nat) : (txN xs k).length = 4 := by simp [txN]
theorem txN_zero (xs : List Int) : txN xs 0 = [0, 0, 0, 0] := by simp [txN, List.range_succ, lo6]
theorem txN_end (xs : List Int) : txN xs 24 = ctNs xs := by simp [txN, ctNs, List.range_succ]
theorem txN_get (xs : List Int) (k q : Nat) (h : q < (txN xs k).length) : (txN xs k)[q] = lo6 xs (6 * q) (min 6 (k - 6 * q)) := by simp [txN]
theorem txN_step (xs : List Int) (k : Nat) (hk : k < 24) : txN xs (k + 1) = (txN xs k).set (k / 6) (lo6 xs (6 * (k / 6)) (k % 6) + xs.getD k 0 * 16 ^ (k % 6)) := by
  apply List.ext_getElem
  · rw [List.length_set, txN_len, txN_len]
  · intro q h1 h2
    rw [txN_get, List.getElem_set]
    rw [txN_len] at h1
    split
    · rename_i e
      subst e
      have e2 : min 6 (k + 1 - 6 * (k / 6)) = k % 6 + 1 := by omega
      have e3 : 6 * (k / 6) + k % 6 = k := by omega
      rw [e2, lo6, e3]
    · rename_i e
      rw [txN_get]
      have e2 : min 6 (k + 1 - 6 * q) = min 6 (k - 6 * q) := by omega
      rw [e2]
theorem txN_at (xs : List Int) (k : Nat) (hk : k < 24) (h : k / 6 < (txN xs k).length) : (txN xs k)[k / 6] = lo6 xs (6 * (k / 6)) (k % 6) := by
  rw [txN_get]
  have e2 : min 6 (k - 6 * (k / 6)) = k % 6 := by omega
  rw [e2]
theorem pow_two (r : Nat) : (16 : Int) ^ r = 2 ^ (r * 4) := by
  rw [Nat.mul_comm, Int.pow_mul]; rfl
theorem or_place {xs : List Int} (h : ctB xs = true) (i k r : Nat) (hr : r < 6) : bits .or .i64 (lo6 xs i r) (xs.getD k 0 * 16 ^ r) = lo6 xs i r + xs.getD k 0 * 16 ^ r := by
  obtain ⟨h0, h1⟩ := lo_in xs i (ctB_getD h) r
  obtain ⟨g0, g1⟩ := ctB_getD h k
  have hp : (16 : Int) ^ r ≤ 1048576 := by
    match r, hr with
    | 0, _ => decide
    | 1, _ => decide
    | 2, _ => decide
    | 3, _ => decide
    | 4, _ => decide
    | 5, _ => decide
  have hp0 : 0 < (16 : Int) ^ r := Int.pow_pos (by omega)
  have e := pow_two r
  refine or_low (r * 4) _ _ h0 (by rw [← e]; exact h1) ?_ ?_ ?_ ?_
  · generalize (16 : Int) ^ r = P at *; omega
  · exact Int.mul_nonneg g0 (by omega)
  · rw [← e]; exact Int.mul_emod_left _ _
  · have : xs.getD k 0 * 16 ^ r ≤ 15 * 16 ^ r := Int.mul_le_mul_of_nonneg_right g1 (by omega)
    generalize (16 : Int) ^ r = P at *; omega
end Go.Proofs.YtjjkppknojecjaaGreat

namespace Go.Proofs.YtjjkppknojecjaaGreat
open Go.RowKit
set_option linter.unusedVariables false

end Go.Proofs.YtjjkppknojecjaaGreat

namespace Go.Proofs.YtjjkppknojecjaaGreat
open Go.RowKit
set_option linter.unusedVariables false
set_option maxRecDepth 100000

theorem l01In_num (n low high : Int) (w : World) : Calls Tryz.prog 14 #[.int .i64 n, .int .i64 low, .int .i64 high] w fun e w' => e = .returned (.bool (inB n low high)) ∧ w' = w := by
  go_enter Tryz.func14, Tryz.ntmps14
  go_wp2
  all_goals
    go_ret
    exact ⟨ret_bool (by rw [Bool.eq_iff_iff]; simp [inB]; omega), rfl⟩
theorem isNumber_any (n : Int) (w : World) : Calls Tryz.prog 132 #[.int .i64 n] w fun e w' => e = .returned (.bool (numB n)) ∧ w' = w := by
  go_enter Tryz.func132, Tryz.ntmps132
  go_wp2
  all_goals
    go_ret
    exact ⟨ret_bool (by rw [Bool.eq_iff_iff]; simp [numB, inB]; omega), rfl⟩

end Go.Proofs.YtjjkppknojecjaaGreat

namespace Go.Proofs.YtjjkppknojecjaaGreat
open Go.RowKit
set_option linter.unusedVariables false
section
variable {P : Program}

theorem keep_grown {S : Nat → Prop} {w w' : World} {row : Option Nat} (h : w.grownBy w' row) (hs : ∀ k, row = some k → S k) : Keep S w w' :=
  ⟨h.os, h.tape, h.output, h.size, fun k hk hn => h.block k hk (fun e => hn (hs k e.symm))⟩

theorem run_append_one (w : World) (B : Nat) (t ty e : TypeId) (i : TypeInfo) (z : Value) (size bytes : Nat) (ht : P.underlying t = some (.slice e)) (hi : P.info? e = some i) (hz : i.zero = some z)
    (hsize : i.size = size) (hby : i.bytes = bytes) (hzs : z.cells.size = size) (hsz : 0 < size)
    (qo : Option Addr) (n cap : Nat) (xs : List Value) (h : OwnR w B e size (.slice qo n cap) n xs) (hB : B ≤ w.heap.size)
    (ad : Addr) (c : Nat) (news : List Value) (hl : news.length = size) (hnews : ∀ j u, news[j]? = some u → w.cell? (ad.add j) = some u) (h1 : ∀ u ∈ news, u.oneCell' = true)
    (b1 : n + 1 ≤ maxLen) (b2 : (n + 1) * bytes ≤ 140737488355328) :
    ∃ g cap' w', (Builtin.append_ #[t, t] ty #[.slice qo n cap, .slice (some ad) 1 c]).run P w = .ok (.slice (some ⟨g, 0, none⟩) (n + 1) cap') w' ∧
      w'.ownsRow B e size (.slice (some ⟨g, 0, none⟩) (n + 1) cap') (n + 1) (xs ++ news) ∧ Keep (Own (.slice qo n cap)) w w' := by
  rcases h with ⟨rfl, rfl, ao, hv⟩ | ⟨h0, h⟩
  · simp only [Value.slice.injEq, true_and] at hv
    obtain ⟨rfl, rfl⟩ := hv
    cases qo with
    | none =>
      obtain ⟨v', w', hrun, r1, r2, _⟩ := run_append_own (P := P) w B t ty e i z size bytes ht hi hz hsize hby hzs hsz (.slice none 0 0) 0 [] (World.ownsRow_nil w _ e size) ad 1 c news (by omega) hnews h1 b1 b2 hB
      obtain ⟨g, cap, cur, rfl, _, _⟩ := own_form (by omega) r1
      exact ⟨g, cap, w', hrun, r1, keep_grown r2 (fun k hk => by cases hk)⟩
    | some d =>
      obtain ⟨v', w', hrun, r1, r2⟩ := run_append_arg_grows (P := P) w t ty e i z size bytes ht hi hz hsize hby hzs hsz d 0 0 [] (by simp) (by simp) ad 1 c news (by omega) hnews (by omega) b1 b2
      obtain ⟨g, cap, cur, rfl, _, _⟩ := own_form (by omega) r1
      exact ⟨g, cap, w', hrun, own_base r1 hB, keep_grown r2 (fun k hk => by cases hk)⟩
  · obtain ⟨g0, cap0, cur0, e0, _, _⟩ := own_form h0 h
    rw [e0] at h
    obtain ⟨v', w', hrun, r1, r2, _⟩ := run_append_own (P := P) w B t ty e i z size bytes ht hi hz hsize hby hzs hsz _ n xs h ad 1 c news (by omega) hnews h1 b1 b2 hB
    obtain ⟨g, cap, cur, rfl, _, _⟩ := own_form (by omega) r1
    rw [e0]
    exact ⟨g, cap, w', hrun, r1, keep_grown r2 (fun k hk => by cases hk; exact own_of h0 rfl)⟩

theorem wpList_append_one {w : World} {ops : Array Oper} {rest : List Oper} {o : Oper} {a : Act} {Q : Exit → Act → World → Prop} (hgd : o.guard = none) (s x : Operand) (t : TypeId)
    (ho : o.op = .call { callee := .builtin .append, args := #[s, x], argTypes := #[t, t] })
    (B : Nat) (e : TypeId) (i : TypeInfo) (z : Value) (size bytes : Nat) (ht : P.underlying t = some (.slice e)) (hi : P.info? e = some i) (hz : i.zero = some z)
    (hsize : i.size = size) (hby : i.bytes = bytes) (hzs : z.cells.size = size) (hsz : 0 < size)
    (qo : Option Addr) (n cap : Nat) (xs : List Value) (hs : a.eval s = .slice qo n cap) (h : OwnR w B e size (.slice qo n cap) n xs) (hB : B ≤ w.heap.size)
    (ad : Addr) (c : Nat) (news : List Value) (hx : a.eval x = .slice (some ad) 1 c) (hl : news.length = size) (hnews : ∀ j u, news[j]? = some u → w.cell? (ad.add j) = some u) (h1 : ∀ u ∈ news, u.oneCell' = true)
    (b1 : n + 1 ≤ maxLen) (b2 : (n + 1) * bytes ≤ 140737488355328)
    (hK : ∀ g cap' w', w'.ownsRow B e size (.slice (some ⟨g, 0, none⟩) (n + 1) cap') (n + 1) (xs ++ news) → Keep (Own (.slice qo n cap)) w w' → wpList P ops Q rest (a.put o.dst (.slice (some ⟨g, 0, none⟩) (n + 1) cap')) w') : wpList P ops Q (o :: rest) a w := by
  refine wpList_plain hgd fun K hK' => ?_
  obtain ⟨g, cap', w', hrun, r1, r2⟩ := run_append_one (P := P) w B t o.type e i z size bytes ht hi hz hsize hby hzs hsz qo n cap xs h hB ad c news hl hnews h1 b1 b2
  unfold Oper.wp
  simp [execOp, ho, resolve, invoke, builtin, hs, hx, hrun, Result.andThen]
  exact hK' _ _ (hK _ _ _ r1 r2)

theorem step_append_one {w : World} {ops : Array Oper} {o : Oper} {a : Act} {K : Act → World → Prop} {Q : Exit → Act → World → Prop} {E : Prop} (hgd : o.guard = none) (s x : Operand) (t : TypeId)
    (ho : o.op = .call { callee := .builtin .append, args := #[s, x], argTypes := #[t, t] })
    (B : Nat) (e : TypeId) (i : TypeInfo) (z : Value) (size bytes : Nat) (ht : P.underlying t = some (.slice e)) (hi : P.info? e = some i) (hz : i.zero = some z)
    (hsize : i.size = size) (hby : i.bytes = bytes) (hzs : z.cells.size = size) (hsz : 0 < size)
    (qo : Option Addr) (n cap : Nat) (xs : List Value) (hs : a.eval s = .slice qo n cap) (h : OwnR w B e size (.slice qo n cap) n xs) (hB : B ≤ w.heap.size)
    (ad : Addr) (c : Nat) (news : List Value) (hx : a.eval x = .slice (some ad) 1 c) (hl : news.length = size) (hnews : ∀ j u, news[j]? = some u → w.cell? (ad.add j) = some u) (h1 : ∀ u ∈ news, u.oneCell' = true)
    (b1 : n + 1 ≤ maxLen) (b2 : (n + 1) * bytes ≤ 140737488355328)
    (hK : ∀ g cap' w', w'.ownsRow B e size (.slice (some ⟨g, 0, none⟩) (n + 1) cap') (n + 1) (xs ++ news) → Keep (Own (.slice qo n cap)) w w' → K (a.put o.dst (.slice (some ⟨g, 0, none⟩) (n + 1) cap')) w') :
    if Region.wanted o (yielded ops a.tmps) = true then Oper.wp P o a w K Q else E := by
  have hw : Region.wanted o (yielded ops a.tmps) = true := by simp [Region.wanted, hgd]
  rw [if_pos hw]
  obtain ⟨g, cap', w', hrun, r1, r2⟩ := run_append_one (P := P) w B t o.type e i z size bytes ht hi hz hsize hby hzs hsz qo n cap xs h hB ad c news hl hnews h1 b1 b2
  unfold Oper.wp
  simp [execOp, ho, resolve, invoke, builtin, hs, hx, hrun, Result.andThen]
  exact hK _ _ _ r1 r2
theorem step_append_at {w : World} {ops : Array Oper} {o : Oper} {a : Act} {K : Act → World → Prop} {Q : Exit → Act → World → Prop} {E : Prop} (hgd : o.guard = none) (s x : Operand) (t : TypeId)
    (ho : o.op = .call { callee := .builtin .append, args := #[s, x], argTypes := #[t, t] })
    (B : Nat) (e : TypeId) (i : TypeInfo) (z : Value) (size bytes : Nat) (ht : P.underlying t = some (.slice e)) (hi : P.info? e = some i) (hz : i.zero = some z)
    (hsize : i.size = size) (hby : i.bytes = bytes) (hzs : z.cells.size = size) (hsz : 0 < size)
    (qo : Option Addr) (n cap : Nat) (xs : List Value) (hs : a.eval s = .slice qo n cap) (h : OwnR w B e size (.slice qo n cap) n xs) (hB : B ≤ w.heap.size)
    (news : List Value) (hx : ∃ y c, a.eval x = .slice (some ⟨y, 0, none⟩) 1 c ∧ ∀ j u, news[j]? = some u → w.cell? ((⟨y, 0, none⟩ : Addr).add j) = some u) (hl : news.length = size) (h1 : ∀ u ∈ news, u.oneCell' = true)
    (b1 : n + 1 ≤ maxLen) (b2 : (n + 1) * bytes ≤ 140737488355328)
    (hK : ∀ g cap' w', w'.ownsRow B e size (.slice (some ⟨g, 0, none⟩) (n + 1) cap') (n + 1) (xs ++ news) → Keep (Own (.slice qo n cap)) w w' → K (a.put o.dst (.slice (some ⟨g, 0, none⟩) (n + 1) cap')) w') :
    if Region.wanted o (yielded ops a.tmps) = true then Oper.wp P o a w K Q else E := by
  obtain ⟨y, c, hx, hnews⟩ := hx
  exact step_append_one hgd s x t ho B e i z size bytes ht hi hz hsize hby hzs hsz qo n cap xs hs h hB ⟨y, 0, none⟩ c news hx hl hnews h1 b1 b2 hK
end
end Go.Proofs.YtjjkppknojecjaaGreat

namespace Go.Proofs.YtjjkppknojecjaaGreat
open Go.RowKit
set_option linter.unusedVariables false

theorem infoM : (Tryz.prog.info? 3).map (fun i => (i.zero, i.size, i.bytes)) = some (some (.int .i64 0), 1, 8) := by kernel_rfl
theorem int_one (n : Int) : ∀ u ∈ [Value.int .i64 n], u.oneCell' = true := by
  intro u hu
  simp at hu
  subst hu
  rfl

def OwnN (w : World) (B : Nat) (v : Value) (xs : List Int) : Prop := ∃ qo qa, v = .slice qo xs.length qa ∧ OwnR w B 3 1 (.slice qo xs.length qa) xs.length (intV xs)
theorem OwnN.below {w w' : World} {B : Nat} {v : Value} {xs : List Int} (h : OwnN w B v xs) (hb : Below w.heap.size w w') : OwnN w' B v xs := by
  obtain ⟨qo, qa, e, ho⟩ := h
  exact ⟨qo, qa, e, ho.below hb⟩
theorem OwnN.base {w : World} {B B' : Nat} {v : Value} {xs : List Int} (h : OwnN w B v xs) (hB : B' ≤ B) : OwnN w B' v xs := by
  obtain ⟨qo, qa, e, ho⟩ := h
  exact ⟨qo, qa, e, ho.base hB⟩
theorem OwnN.nil (w : World) (B : Nat) (ao : Option Addr) : OwnN w B (.slice ao 0 0) [] := ⟨ao, 0, rfl, .inl ⟨rfl, rfl, ao, rfl⟩⟩

theorem OwnN.setCell {w : World} {B : Nat} {v : Value} {xs : List Int} (h : OwnN w B v xs) {a : Addr} (ha : a.block < B) (u : Value) : OwnN (w.setCell a u) B v xs := by
  obtain ⟨qo, qa, e, ho⟩ := h
  exact ⟨qo, qa, e, ho.setCell ha u⟩

end Go.Proofs.YtjjkppknojecjaaGreat

namespace Go.Proofs.YtjjkppknojecjaaGreat
open Go.RowKit
set_option linter.unusedVariables false
set_option maxRecDepth 100000

end Go.Proofs.YtjjkppknojecjaaGreat

namespace Go.Proofs.YtjjkppknojecjaaGreat
open Go.RowKit
set_option linter.unusedVariables false
set_option maxRecDepth 100000

theorem l02Sum_any (s : ByteArray) (w : World) (hs : s.size ≤ 1048576) :
    Calls Tryz.prog 102 #[.string s] w fun e w' => e = .returned (.int .i64 (sumS s)) ∧ w' = w := by
  go_enter Tryz.func102, Tryz.ntmps102
  go_wp2
  go_loop [3, 4] (fun n i => ∃ k : Nat, k ≤ s.size ∧ i = .int .i64 k ∧ n = .int .i64 (sumTo s k)) (fun _ i => s.size - (intOf i).toNat)
  case atStart => exact ⟨0, Nat.zero_le _, rfl, rfl⟩
  case round =>
    obtain ⟨k, hk, rfl, rfl⟩ := hrel
    by_cases hlt : k < s.size
    · have HN := hide (sumTo_walk hlt (by omega))
      go_wp2
      go_round
      case rel => exact ⟨k + 1, by omega, by go_num, by rw [← unhide HN]⟩
      case measure => simp [intOf]; omega
    · go_wp2
      go_ret
      exact ⟨ret_int (by rw [sumS, show k = s.size by omega]), rfl⟩

theorem sumOf_impl (s : ByteArray) (w : World) (hs : s.size ≤ 1048576) :
    Calls Tryz.prog 111 #[.string s] w fun e w' => e = .returned (.int .i64 (sumC s)) ∧ w' = w := by
  by_cases h1 : 65536 < s.size
  · have HF := hide (sumC_long h1)
    go_enter Tryz.func111, Tryz.ntmps111
    go_wp2
    go_ret
    exact ⟨ret_int (unhide HF).symm, rfl⟩
  have HF := hide (sumC_short (s := s) (by omega))
  go_enter Tryz.func111, Tryz.ntmps111
  go_wp2
  go_loop [3, 4] (fun n i => ∃ k : Nat, k ≤ s.size ∧ i = .int .i64 k ∧ n = .int .i64 (sumTo s k)) (fun _ i => s.size - (intOf i).toNat)
  case atStart => exact ⟨0, Nat.zero_le _, rfl, rfl⟩
  case round =>
    obtain ⟨k, hk, rfl, rfl⟩ := hrel
    by_cases hlt : k < s.size
    · have HN := hide (sumTo_walk hlt (by omega))
      go_wp2
      go_round
      case rel => exact ⟨k + 1, by omega, by go_num, by rw [← unhide HN]⟩
      case measure => simp [intOf]; omega
    · go_wp2
      go_ret
      exact ⟨ret_int (by rw [unhide HF, sumS, show k = s.size by omega]), rfl⟩

end Go.Proofs.YtjjkppknojecjaaGreat

namespace Go.Proofs.YtjjkppknojecjaaGreat
open Go.RowKit
set_option linter.unusedVariables false

theorem infoB : (Tryz.prog.info? 5).map (fun i => (i.zero, i.size, i.bytes)) = some (some (.int .u8 0), 1, 1) := by kernel_rfl

theorem ret_str {a b : ByteArray} (h : a = b) : Ending.returned (.string a) = .returned (.string b) := by rw [h]

set_option maxRecDepth 100000 in
set_option maxHeartbeats 1600000 in
theorem l02Pack_any (ao : Option Addr) (cap : Nat) (xs : List Int) (w : World) (hl : xs.length ≤ 4096) (hn : ∀ j (h : j < xs.length), 0 ≤ xs[j] ∧ xs[j] ≤ 2147483647) (hc : Is w ao xs) :
    Calls Tryz.prog 101 #[.slice ao xs.length cap] w fun e w' => e = .returned (.string (packS xs)) ∧ Below w.heap.size w w' := by
  have HC := hide hc
  have HN := hide hn
  clear hc hn
  obtain ⟨j0, hj, hy0, hy1, hy2⟩ := info_parts infoB
  go_enter Tryz.func101, Tryz.ntmps101
  go_wp2
  go_loopw [3, 4] (fun o i wr => ∃ (k : Nat) (qo : Option Addr) (qa : Nat), k ≤ xs.length ∧ i = .int .i64 k ∧ o = .slice qo (k * 4) qa ∧ Hid (OwnR wr w.heap.size 5 1 (.slice qo (k * 4) qa) (k * 4) (byteV (packL (xs.take k)))) ∧ Hid (Below w.heap.size w wr)) (fun _ i _ => xs.length - (intOf i).toNat)
  case atStart => exact ⟨0, _, _, Nat.zero_le _, rfl, rfl, hide (.inl ⟨rfl, rfl, _, rfl⟩), hide (by first | exact Below.refl _ _ | exact Joins.below_alloc1 _ _)⟩
  case round =>
    obtain ⟨k, qo, qa, hk, rfl, rfl, HO, HB⟩ := hrel
    by_cases hlt : k < xs.length
    · obtain ⟨b, off, rfl, hc⟩ := (unhide HC).below (unhide HB) k hlt
      obtain ⟨h0, h1⟩ := unhide HN k hlt
      go_wp2
      go_loopw [3, 5, 6] (fun o m i wq => ∃ (j : Nat) (qo : Option Addr) (qa : Nat), j ≤ 4 ∧ i = .int .i64 j ∧ m = .int .i64 (shN xs[k] j) ∧ o = .slice qo (k * 4 + j) qa ∧ Hid (OwnR wq w.heap.size 5 1 (.slice qo (k * 4 + j) qa) (k * 4 + j) (byteV (packL (xs.take k) ++ fourTo xs[k] j))) ∧ Hid (Below w.heap.size w wq)) (fun _ _ i _ => 4 - (intOf i).toNat)
      case atStart => exact ⟨0, qo, qa, by omega, rfl, by simp [shN], rfl, hide (by simpa [fourTo] using unhide HO), HB⟩
      case round =>
        clear HO HB
        obtain ⟨j, qo, qa, hj4, rfl, rfl, rfl, HO, HB⟩ := hrel
        obtain ⟨hs0, hs1⟩ := shN_in h0 h1 j
        by_cases hj4 : j < 4
        · have HOA := hide ((unhide HO).below (Joins.below_alloc1 _ (.cells #[.int .u8 (shN xs[k] j % 256)] 5)))
          have HBA := hide (fr (unhide HB) (Joins.below_alloc1 _ (.cells #[.int .u8 (shN xs[k] j % 256)] 5)))
          have HSZ := hide (unhide HB).size
          have HSH := hide (shN_succ xs[k] j)
          go_wp2_with (at_builtin; refine wpList_append_one rfl _ _ 133 rfl w.heap.size 5 j0 (.int .u8 0) 1 1 Tryz.underlying133 hj hy0 hy1 hy2 rfl (by omega) qo (k * 4 + j) qa (byteV (packL (xs.take k) ++ fourTo xs[k] j)) rfl (unhide HOA) (by have := unhide HSZ; simp; omega) ⟨wr.heap.size, 0, none⟩ _ [.int .u8 (shN xs[k] j % 256)] rfl rfl (byte_news wr _ _) (byte_one _) (by unfold maxLen; omega) (by omega) ?_; intro g2 cap2 wA hoA hkA; have HSF := hide (And.intro hoA (keep_below (unhide HBA) (unhide HOA) (Nat.le_refl _) hkA)); clear hoA hkA)
          go_roundw
          case rel => exact ⟨j + 1, _, _, by omega, by go_num, by rw [unhide HSH], rfl, hide (.inr ⟨by omega, by rw [fourTo_succ, ← List.append_assoc, byteV_snoc, ← shN_byte]; exact (unhide HSF).1⟩), hide (unhide HSF).2⟩
          case measure => simp [intOf]; omega
        · have HE : Hid (j = 4) := hide (by omega)
          go_wp2
          go_roundw
          case rel => exact ⟨k + 1, qo, qa, by omega, by go_num, by rw [unhide HE, show (k + 1) * 4 = k * 4 + 4 by omega], hide (by have := unhide HO; rw [unhide HE] at this; rw [packL_succ hlt, show (k + 1) * 4 = k * 4 + 4 by omega]; exact this), HB⟩
          case measure => simp [intOf]; omega
    · have HE : Hid (xs.take k = xs) := hide (List.take_of_length_le (by omega))
      have hcv := convert_own (P := Tryz.prog) Tryz.underlying133 Tryz.underlying5 Tryz.underlying9 (unhide HO)
      go_wp2
      go_ret
      exact ⟨ret_str (by rw [unhide HE]; rfl), unhide HB⟩

end Go.Proofs.YtjjkppknojecjaaGreat

namespace Go.Proofs.YtjjkppknojecjaaGreat
open Go.RowKit
set_option linter.unusedVariables false
set_option maxRecDepth 100000

theorem lit2 (W : World) (g : Nat) (a b : Int) (h : W.heap.size = g) : (convert 133 9 (.slice (some ⟨g, 0, none⟩) 2 2)).run Tryz.prog (W.alloc (.cells #[.int .u8 a, .int .u8 b] 5)) = .ok (.string (strOfNums [a, b])) (W.alloc (.cells #[.int .u8 a, .int .u8 b] 5)) := by
  subst h
  refine run_convert_bytes_arg _ 133 5 Tryz.underlying133 Tryz.underlying5 W.heap.size 0 2 2 [a, b] rfl ?_ 9 Tryz.underlying9
  intro i hi
  rcases (show i = 0 ∨ i = 1 by omega) with rfl | rfl <;> simp [go_sem, List.getD]

theorem sum_spec (k : Int) (xs : List Int) (w : World) (hl : xs.length ≤ 16) : Calls Tryz.prog 102 #[.string (strOfNums [k, (xs.length : Int)] ++ packS xs)] w fun e w' => e = .returned (.int .i64 (sumR k xs)) ∧ w' = w :=
  l02Sum_any (sumT k xs) w (by rw [sumT_size]; omega)
set_option maxHeartbeats 1600000 in
theorem l02Seal_any (k : Int) (ao : Option Addr) (cap : Nat) (xs : List Int) (w : World) (hk : 1 ≤ k ∧ k ≤ 9) (hl : xs.length ≤ 16) (hn : ∀ j (h : j < xs.length), 0 ≤ xs[j] ∧ xs[j] ≤ 2147483647) (hc : Is w ao xs) :
    Calls Tryz.prog 88 #[.int .i64 k, .slice ao xs.length cap] w fun e w' => e = .returned (.string (sealS k xs)) ∧ Below w.heap.size w w' := by
  have HC := hide hc
  have HN := hide hn
  clear hc hn
  have hp := packS_size xs
  have hs2 : (strOfNums [k, (xs.length : Int)]).size = 2 := strOfNums_size _
  go_enter Tryz.func88, Tryz.ntmps88
  go_wp2_with fail
  refine (l02Pack_any _ _ xs _ (by omega) (unhide HN) (unhide HC)).mono ?_
  rintro e w1 ⟨rfl, hb1⟩
  have HB1 := hide hb1
  have hc1 := lit2 w1 w1.heap.size k xs.length rfl
  clear hb1
  go_wp2_with fail
  refine (sum_spec k xs _ hl).mono ?_
  rintro e w2 ⟨rfl, rfl⟩
  obtain ⟨hr0, hr1⟩ := sumR_in k xs
  have hc2 := lit2 (w1.alloc (.cells #[.int .u8 k, .int .u8 xs.length] 5)) (w1.heap.size + 1) (sumR k xs) 0 (by simp)
  have hs3 : (strOfNums [sumR k xs, 0]).size = 2 := strOfNums_size _
  have hs4 : (strOfNums [k, (xs.length : Int)] ++ strOfNums [sumR k xs, 0]).size = 4 := by rw [ByteArray.size_append, hs2, hs3]
  have HE := hide (sealS_parts k xs)
  go_wp2
  go_ret
  exact ⟨ret_str (unhide HE), fr (unhide HB1) (Joins.below_alloc2 _ _ _)⟩

end Go.Proofs.YtjjkppknojecjaaGreat

namespace Go.Proofs.YtjjkppknojecjaaGreat
open Go.RowKit
set_option linter.unusedVariables false
set_option maxRecDepth 100000

end Go.Proofs.YtjjkppknojecjaaGreat
