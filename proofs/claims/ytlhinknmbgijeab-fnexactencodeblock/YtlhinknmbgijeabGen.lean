/- Plain helpers of this seat's proofs, of no program: lists of texts and of writes as a disk shows them, what stays of them in a later world. -/
import Derived.WalkKit
import Derived.ProofKit
import Derived.OpenShut
import Derived.ShutString
import Derived.WalkSpells
import Derived.SliceStrings
import Derived.Lib.SmallJoins
namespace Go.Proofs.Ytlhinknmbgijeab
open Go.RowKit

theorem hide {p : Prop} (h : p) : Hid p := h
theorem unhide {p : Prop} (h : Hid p) : p := h

/-- A write as a disk has it. -/
structure Wr where
  host : Int
  at_ : Int
  data : ByteArray

/-- A slice shows these texts. -/
def Ss (w : World) (ao : Option Addr) (ss : List ByteArray) : Prop := ∀ i (h : i < ss.length), ∃ b off, ao = some ⟨b, off, none⟩ ∧ w.cell? ⟨b, off + i, none⟩ = some (.string ss[i]) ∧ ss[i].size ≤ maxLen

/-- A slice shows these writes, three cells each. -/
def Ios (w : World) (ao : Option Addr) (xs : List Wr) : Prop := ∀ i (h : i < xs.length), ∃ b off, ao = some ⟨b, off, none⟩ ∧
  w.cell? ⟨b, off + i * 3, none⟩ = some (.int .i64 xs[i].host) ∧ w.cell? ⟨b, off + i * 3 + 1, none⟩ = some (.int .i64 xs[i].at_) ∧ w.cell? ⟨b, off + i * 3 + 2, none⟩ = some (.string xs[i].data) ∧ xs[i].data.size ≤ maxLen

theorem Ss.below {w w' : World} {ao : Option Addr} {ss : List ByteArray} (h : Ss w ao ss) (hb : Below w.heap.size w w') : Ss w' ao ss := fun i hi => by
  obtain ⟨b, off, e, hc, hz⟩ := h i hi
  exact ⟨b, off, e, (hb.cell (p := ⟨b, off + i, none⟩) (World.block_lt_of_cell? _ _ hc)).trans hc, hz⟩
theorem Ios.below {w w' : World} {ao : Option Addr} {xs : List Wr} (h : Ios w ao xs) (hb : Below w.heap.size w w') : Ios w' ao xs := fun i hi => by
  obtain ⟨b, off, e, h0, h1, h2, hz⟩ := h i hi
  exact ⟨b, off, e, (hb.cell (p := ⟨b, off + i * 3, none⟩) (World.block_lt_of_cell? _ _ h0)).trans h0, (hb.cell (p := ⟨b, off + i * 3 + 1, none⟩) (World.block_lt_of_cell? _ _ h1)).trans h1, (hb.cell (p := ⟨b, off + i * 3 + 2, none⟩) (World.block_lt_of_cell? _ _ h2)).trans h2, hz⟩

def strV (ss : List ByteArray) : List Value := ss.map Value.string
def ioV (xs : List Wr) : List Value := xs.flatMap fun x => [.int .i64 x.host, .int .i64 x.at_, .string x.data]

/-- Nothing that was there has turned, by two steps. -/
theorem fr {a b c : World} (h : Below a.heap.size a b) (k : Below b.heap.size b c) : Below a.heap.size a c := h.trans (k.mono h.size)

theorem strV_length (ss : List ByteArray) : (strV ss).length = ss.length := by simp [strV]
theorem strV_get {ss : List ByteArray} {i : Nat} (h : i < ss.length) : (strV ss)[i]? = some (.string ss[i]) := by simp [strV, h]
theorem ioV_length (xs : List Wr) : (ioV xs).length = xs.length * 3 := by
  induction xs with
  | nil => rfl
  | cons x xs ih => simp only [ioV, List.flatMap_cons, List.length_append, List.length_cons, List.length_nil] at ih ⊢; omega
theorem ioV_cons (x : Wr) (xs : List Wr) : ioV (x :: xs) = [.int .i64 x.host, .int .i64 x.at_, .string x.data] ++ ioV xs := rfl
theorem ioV_append (xs ys : List Wr) : ioV (xs ++ ys) = ioV xs ++ ioV ys := by simp [ioV]
theorem ioV_get : ∀ {xs : List Wr} {i : Nat} (h : i < xs.length), (ioV xs)[i * 3]? = some (.int .i64 xs[i].host) ∧ (ioV xs)[i * 3 + 1]? = some (.int .i64 xs[i].at_) ∧ (ioV xs)[i * 3 + 2]? = some (.string xs[i].data)
  | [], _, h => absurd h (Nat.not_lt_zero _)
  | x :: xs, 0, _ => by simp [ioV_cons]
  | x :: xs, i + 1, h => by
    have ih := ioV_get (xs := xs) (i := i) (by simpa using h)
    rw [ioV_cons, show (i + 1) * 3 = i * 3 + 3 by omega]
    refine ⟨?_, ?_, ?_⟩
    · rw [List.getElem?_append_right (by simp)]; simpa using ih.1
    · rw [List.getElem?_append_right (by simp)]; simpa [Nat.add_right_comm] using ih.2.1
    · rw [List.getElem?_append_right (by simp)]; simpa [Nat.add_right_comm] using ih.2.2

theorem set_take {α : Type} {xs ys : List α} {k : Nat} (hl : xs.length = ys.length) (hk : k < ys.length) (h : xs.take k = ys.take k) : (xs.set k ys[k]).take (k + 1) = ys.take (k + 1) := by
  apply List.ext_getElem?
  intro i
  have hi := congrArg (fun l => l[i]?) h
  simp only [List.getElem?_take, List.getElem?_set] at hi ⊢
  by_cases h1 : i < k
  · simp only [h1, if_true] at hi
    rw [if_pos (by omega), if_neg (by omega), if_pos (by omega)]
    exact hi
  · by_cases h2 : i = k
    · subst h2
      simp [hl, hk]
    · simp [show ¬ i < k + 1 by omega]

theorem set_take' {α : Type} {xs ys : List α} {k : Nat} {v : α} (hl : xs.length = ys.length) (hv : ys[k]? = some v) (h : xs.take k = ys.take k) : (xs.set k v).take (k + 1) = ys.take (k + 1) := by
  obtain ⟨hk, rfl⟩ := List.getElem?_eq_some_iff.1 hv
  exact set_take hl hk h

/-- What a row of the call's own shows. -/
theorem ownSs {w : World} {B e : Nat} {v : Value} {ss : List ByteArray} (h : w.ownsRow B e 1 v ss.length (strV ss)) (hz : ∀ s ∈ ss, s.size ≤ maxLen) : ∃ ao cap, v = .slice ao ss.length cap ∧ Ss w ao ss := by
  rcases h.2 with ⟨rfl, h0⟩ | ⟨g, cap, cur, rfl, hb, hg, hnc, hcm, hcs, ht⟩
  · refine ⟨none, 0, by rw [h0], fun i hi => ?_⟩
    omega
  · refine ⟨_, cap, rfl, fun i hi => ⟨g, 0, rfl, ?_, hz _ (List.getElem_mem hi)⟩⟩
    have := h.cellAt i (by omega)
    rw [Nat.zero_add, this, strV_get hi]
theorem ownIos {w : World} {B e : Nat} {v : Value} {xs : List Wr} (h : w.ownsRow B e 3 v xs.length (ioV xs)) (hz : ∀ x ∈ xs, x.data.size ≤ maxLen) : ∃ ao cap, v = .slice ao xs.length cap ∧ Ios w ao xs := by
  rcases h.2 with ⟨rfl, h0⟩ | ⟨g, cap, cur, rfl, hb, hg, hnc, hcm, hcs, ht⟩
  · refine ⟨none, 0, by rw [h0], fun i hi => ?_⟩
    omega
  · have g3 := fun i (hi : i < xs.length) => ioV_get hi
    refine ⟨_, cap, rfl, fun i hi => ⟨g, 0, rfl, ?_, ?_, ?_, hz _ (List.getElem_mem hi)⟩⟩
    · rw [Nat.zero_add, h.cellAt _ (by omega)]; exact (g3 i hi).1
    · rw [Nat.zero_add, h.cellAt _ (by omega)]; exact (g3 i hi).2.1
    · rw [Nat.zero_add, h.cellAt _ (by omega)]; exact (g3 i hi).2.2

theorem ownS {w : World} {B e cap : Nat} {ao : Option Addr} {ss : List ByteArray} (h : w.ownsRow B e 1 (.slice ao ss.length cap) ss.length (strV ss)) (hz : ∀ s ∈ ss, s.size ≤ maxLen) : Ss w ao ss := by
  obtain ⟨ao', cap', hv, hs⟩ := ownSs h hz
  simp only [Value.slice.injEq, true_and] at hv
  obtain ⟨rfl, _⟩ := hv
  exact hs
theorem ownI {w : World} {B e cap : Nat} {ao : Option Addr} {xs : List Wr} (h : w.ownsRow B e 3 (.slice ao xs.length cap) xs.length (ioV xs)) (hz : ∀ x ∈ xs, x.data.size ≤ maxLen) : Ios w ao xs := by
  obtain ⟨ao', cap', hv, hs⟩ := ownIos h hz
  simp only [Value.slice.injEq, true_and] at hv
  obtain ⟨rfl, _⟩ := hv
  exact hs
theorem Ss.sizes {w : World} {ao : Option Addr} {ss : List ByteArray} (h : Ss w ao ss) : ∀ s ∈ ss, s.size ≤ maxLen := fun s hs => by
  obtain ⟨i, hi, rfl⟩ := List.mem_iff_getElem.1 hs
  obtain ⟨_, _, _, _, hz⟩ := h i hi
  exact hz
theorem Ios.sizes {w : World} {ao : Option Addr} {xs : List Wr} (h : Ios w ao xs) : ∀ x ∈ xs, x.data.size ≤ maxLen := fun x hx => by
  obtain ⟨i, hi, rfl⟩ := List.mem_iff_getElem.1 hx
  obtain ⟨_, _, _, _, _, _, hz⟩ := h i hi
  exact hz

/-- A row of the call's own lies on where nothing below the heap's size has turned. -/
theorem own_below {w w' : World} {B e size n : Nat} {v : Value} {xs : List Value} (h : w.ownsRow B e size v n xs) (hb : Below w.heap.size w w') : w'.ownsRow B e size v n xs := by
  refine ⟨h.1, ?_⟩
  rcases h.2 with ⟨rfl, h0⟩ | ⟨g, cap, cur, rfl, hB, hg, hnc, hcm, hcs, ht⟩
  · exact .inl ⟨rfl, h0⟩
  · refine .inr ⟨g, cap, cur, rfl, hB, ?_, hnc, hcm, hcs, ht⟩
    rw [hb.block g (Array.getElem?_eq_some_iff.1 hg).1]; exact hg

theorem stored3 {w : World} {B e size g n cap : Nat} {xs : List Value} (h : w.ownsRow B e size (.slice (some ⟨g, 0, none⟩) n cap) n xs) (i j k : Nat) (u v x : Value) :
    (((w.setCell ⟨g, i, none⟩ u).setCell ⟨g, j, none⟩ v).setCell ⟨g, k, none⟩ x).ownsRow B e size (.slice (some ⟨g, 0, none⟩) n cap) n (((xs.set i u).set j v).set k x) :=
  (((h.stored i u).1.stored j v).1.stored k x).1
theorem below3 {w0 w : World} {B g : Nat} (h : Below B w0 w) (hg : B ≤ g) (i j k : Nat) (u v x : Value) : Below B w0 (((w.setCell ⟨g, i, none⟩ u).setCell ⟨g, j, none⟩ v).setCell ⟨g, k, none⟩ x) :=
  ((h.setCell (p := ⟨g, i, none⟩) hg u).setCell (p := ⟨g, j, none⟩) hg v).setCell (p := ⟨g, k, none⟩) hg x
theorem io_take {ys : List Value} {xs : List Wr} {k : Nat} (hk : k < xs.length) (hl : ys.length = xs.length * 3) (h : ys.take (k * 3) = (ioV xs).take (k * 3)) :
    (((ys.set (k * 3) (.int .i64 xs[k].host)).set (k * 3 + 1) (.int .i64 xs[k].at_)).set (k * 3 + 2) (.string xs[k].data)).take ((k + 1) * 3) = (ioV xs).take ((k + 1) * 3) := by
  obtain ⟨h0, h1, h2⟩ := ioV_get hk
  have e0 := set_take' (by rw [hl, ioV_length]) h0 h
  have e1 := set_take' (by rw [List.length_set, hl, ioV_length]) h1 e0
  have e2 := set_take' (by rw [List.length_set, List.length_set, hl, ioV_length]) h2 e1
  rw [show (k + 1) * 3 = k * 3 + 2 + 1 by omega]
  exact e2

theorem own_base {w : World} {B B' e size n : Nat} {v : Value} {xs : List Value} (h : w.ownsRow B e size v n xs) (hB : B' ≤ B) : w.ownsRow B' e size v n xs := by
  refine ⟨h.1, ?_⟩
  rcases h.2 with h0 | ⟨g, cap, cur, e0, hb, rest⟩
  · exact .inl h0
  · exact .inr ⟨g, cap, cur, e0, by omega, rest⟩

/-- Two writes are alike. -/
def decWr (x y : Wr) : Decidable (x = y) := decidable_of_iff (x.host = y.host ∧ x.at_ = y.at_ ∧ x.data = y.data) ⟨fun h => by cases x; cases y; simp_all, fun h => by subst h; exact ⟨rfl, rfl, rfl⟩⟩
def decWrs (xs ys : List Wr) : Decidable (xs = ys) := @List.hasDecEq Wr decWr xs ys
def wrB (x y : Wr) : Bool := @decide (x = y) (decWr x y)
theorem wrB_true {x y : Wr} (h0 : x.host = y.host) (h1 : x.at_ = y.at_) (h2 : x.data = y.data) : wrB x y = true := by
  unfold wrB
  exact @decide_eq_true (x = y) (decWr x y) (by cases x; cases y; simp_all)
theorem wrB_false {x y : Wr} (h : ¬ (x.host = y.host ∧ x.at_ = y.at_ ∧ x.data = y.data)) : wrB x y = false := by
  unfold wrB
  refine @decide_eq_false (x = y) (decWr x y) ?_
  rintro rfl
  exact h ⟨rfl, rfl, rfl⟩

def eqSB (ss tt : List ByteArray) : Bool := decide (ss = tt)
def eqWB (xs ys : List Wr) : Bool := @decide (xs = ys) (decWrs xs ys)
theorem eqB_self (ss : List ByteArray) (xs : List Wr) : (eqSB ss ss && eqWB xs xs) = true := by
  rw [eqSB, decide_eq_true rfl, Bool.true_and]
  exact @decide_eq_true (xs = xs) (decWrs xs xs) rfl
theorem eq_succ {α : Type} {xs ys : List α} {k : Nat} (hk : k < xs.length) (hk' : k < ys.length) (h : ∀ j (h : j < xs.length) (h' : j < ys.length), j < k → xs[j] = ys[j]) (he : xs[k] = ys[k]) : ∀ j (h : j < xs.length) (h' : j < ys.length), j < k + 1 → xs[j] = ys[j] := by
  intro j h1 h2 hj
  by_cases e : j = k
  · subst e; exact he
  · exact h j h1 h2 (by omega)
theorem eqSB_true {ss tt : List ByteArray} (hl : ss.length = tt.length) (h : ∀ j (h : j < ss.length) (h' : j < tt.length), ss[j] = tt[j]) : eqSB ss tt = true := decide_eq_true (List.ext_getElem hl h)
theorem eqSB_false_len {ss tt : List ByteArray} (hl : ¬ ss.length = tt.length) : eqSB ss tt = false := decide_eq_false fun h => hl (by rw [h])
theorem eqSB_false {ss tt : List ByteArray} {k : Nat} (hk : k < ss.length) (hk' : k < tt.length) (h : ss[k] ≠ tt[k]) : eqSB ss tt = false := decide_eq_false fun e => by subst e; exact h rfl
theorem eqWB_true {ss tt : List Wr} (hl : ss.length = tt.length) (h : ∀ j (h : j < ss.length) (h' : j < tt.length), ss[j] = tt[j]) : eqWB ss tt = true := @decide_eq_true (ss = tt) (decWrs ss tt) (List.ext_getElem hl h)
theorem eqWB_false_len {ss tt : List Wr} (hl : ¬ ss.length = tt.length) : eqWB ss tt = false := @decide_eq_false (ss = tt) (decWrs ss tt) fun h => hl (by rw [h])
theorem eqWB_false {ss tt : List Wr} {k : Nat} (hk : k < ss.length) (hk' : k < tt.length) (h : ss[k] ≠ tt[k]) : eqWB ss tt = false := @decide_eq_false (ss = tt) (decWrs ss tt) fun e => by subst e; exact h rfl

/-- A right write, a right disk. -/
def ioB (x : Wr) : Bool := decide (0 ≤ x.host) && decide (x.host ≤ 3) && decide (0 ≤ x.at_) && decide (x.at_ ≤ 63) && decide (x.data.size ≤ 80)
def secB (ss : List ByteArray) : Bool := decide (ss.length = 64) && ss.all fun s => decide (s.size ≤ 80)
def penB (xs : List Wr) : Bool := decide (xs.length ≤ 200) && xs.all ioB
def diskB (ss : List ByteArray) (xs : List Wr) : Bool := secB ss && penB xs

theorem ret_bool {a b : Bool} (h : a = b) : Ending.returned (.bool a) = .returned (.bool b) := by rw [h]
theorem ret_int {a b : Int} (h : a = b) : Ending.returned (.int .i64 a) = .returned (.int .i64 b) := by rw [h]

theorem all_succ {α : Type} {p : α → Bool} {xs : List α} {k : Nat} (hk : k < xs.length) (h : ∀ i (hi : i < xs.length), i < k → p xs[i] = true) (hp : p xs[k] = true) : ∀ i (hi : i < xs.length), i < k + 1 → p xs[i] = true := by
  intro i hi hlt
  by_cases e : i = k
  · subst e; exact hp
  · exact h i hi (by omega)
theorem all_of {α : Type} {p : α → Bool} {xs : List α} (h : ∀ i (hi : i < xs.length), i < xs.length → p xs[i] = true) : xs.all p = true := by
  rw [List.all_eq_true]
  intro x hx
  obtain ⟨i, hi, rfl⟩ := List.mem_iff_getElem.1 hx
  exact h i hi hi
theorem all_not {α : Type} {p : α → Bool} {xs : List α} {k : Nat} (hk : k < xs.length) (hp : p xs[k] = false) : xs.all p = false := by
  cases h : xs.all p with
  | false => rfl
  | true =>
    rw [List.all_eq_true] at h
    rw [h _ (List.getElem_mem hk)] at hp; cases hp

theorem str_beq_false {a b : ByteArray} (h : a ≠ b) : (a.toList == b.toList) = false := by
  rw [beq_eq_false_iff_ne]
  intro e
  rw [ByteArray.toList_eq, ByteArray.toList_eq] at e
  apply h
  cases a; cases b
  simpa using Array.toList_inj.1 e

def inB (n low high : Int) : Bool := decide (low ≤ n) && decide (n ≤ high)
theorem ioB_eq (x : Wr) : ioB x = (inB x.host 0 3 && inB x.at_ 0 63 && decide (x.data.size ≤ 80)) := by simp [ioB, inB, Bool.and_assoc]
theorem secB_true {ss : List ByteArray} (h : ss.length = 64) (ha : ∀ j (h : j < ss.length), decide (ss[j].size ≤ 80) = true) : secB ss = true := by
  unfold secB
  rw [all_of (p := fun s : ByteArray => decide (s.size ≤ 80)) (fun i hi _ => ha i hi)]
  simp [h]
theorem secB_false_len {ss : List ByteArray} (h : ¬ ss.length = 64) : secB ss = false := by simp [secB, h]
theorem secB_false_at {ss : List ByteArray} {k : Nat} (hk : k < ss.length) (h : 80 < ss[k].size) : secB ss = false := by
  unfold secB
  rw [all_not (p := fun s : ByteArray => decide (s.size ≤ 80)) hk (by simp; omega)]
  simp
theorem penB_true {xs : List Wr} (h : xs.length ≤ 200) (ha : ∀ j (h : j < xs.length), ioB xs[j] = true) : penB xs = true := by
  unfold penB
  rw [all_of (p := ioB) (fun i hi _ => ha i hi)]
  simp [h]
theorem penB_false_len {xs : List Wr} (h : ¬ xs.length ≤ 200) : penB xs = false := by simp [penB]; omega
theorem penB_false_at {xs : List Wr} {k : Nat} (hk : k < xs.length) (h : ioB xs[k] = false) : penB xs = false := by
  unfold penB
  rw [all_not (p := ioB) hk h]
  simp

theorem diskB_false1 {ss : List ByteArray} (xs : List Wr) (h : secB ss = false) : diskB ss xs = false := by rw [diskB, h]; rfl
theorem diskB_false2 (ss : List ByteArray) {xs : List Wr} (h : penB xs = false) : diskB ss xs = false := by rw [diskB, h]; simp
theorem diskB_true {ss : List ByteArray} {xs : List Wr} (h : secB ss = true) (h' : penB xs = true) : diskB ss xs = true := by rw [diskB, h, h']; rfl

/-- The code of a call on a disk, a host and a sector. -/
def hostC (ss : List ByteArray) (xs : List Wr) (h : Int) : Int := if diskB ss xs = true then (if inB h 0 3 = true then 0 else 4) else 1
def askC (ss : List ByteArray) (xs : List Wr) (h a : Int) : Int := if hostC ss xs h = 0 then (if inB a 0 63 = true then 0 else 14) else hostC ss xs h
theorem hostC_bad {ss : List ByteArray} {xs : List Wr} {h : Int} (hd : diskB ss xs = false) : hostC ss xs h = 1 := by simp [hostC, hd]
theorem hostC_range {ss : List ByteArray} {xs : List Wr} {h : Int} (hd : diskB ss xs = true) (hh : inB h 0 3 = false) : hostC ss xs h = 4 := by simp [hostC, hd, hh]
theorem hostC_ok {ss : List ByteArray} {xs : List Wr} {h : Int} (hd : diskB ss xs = true) (hh : inB h 0 3 = true) : hostC ss xs h = 0 := by simp [hostC, hd, hh]
theorem askC_place {ss : List ByteArray} {xs : List Wr} {h a : Int} (hd : hostC ss xs h = 0) (hh : inB a 0 63 = false) : askC ss xs h a = 14 := by simp [askC, hd, hh]
theorem askC_ok {ss : List ByteArray} {xs : List Wr} {h a : Int} (hd : hostC ss xs h = 0) (hh : inB a 0 63 = true) : askC ss xs h a = 0 := by simp [askC, hd, hh]
theorem askC_host {ss : List ByteArray} {xs : List Wr} {h a : Int} (hd : hostC ss xs h ≠ 0) : askC ss xs h a = hostC ss xs h := by simp [askC, hd]
theorem hostC_eq {ss : List ByteArray} {xs : List Wr} {h : Int} (hd : hostC ss xs h = 0) : diskB ss xs = true ∧ 0 ≤ h ∧ h ≤ 3 := by
  unfold hostC at hd
  split at hd
  · split at hd
    · rename_i h1 h2
      simp [inB] at h2
      exact ⟨h1, h2⟩
    · cases hd
  · cases hd
theorem askC_eq {ss : List ByteArray} {xs : List Wr} {h a : Int} (hd : askC ss xs h a = 0) : hostC ss xs h = 0 ∧ 0 ≤ a ∧ a ≤ 63 := by
  unfold askC at hd
  split at hd
  · split at hd
    · rename_i h1 h2
      simp [inB] at h2
      exact ⟨h1, h2⟩
    · cases hd
  · rename_i h1
    exact absurd hd h1
theorem diskB_len {ss : List ByteArray} {xs : List Wr} (h : diskB ss xs = true) : ss.length = 64 ∧ xs.length ≤ 200 := by
  simp only [diskB, secB, penB, Bool.and_eq_true, decide_eq_true_eq] at h
  exact ⟨h.1.1, h.2.1⟩

/-- The newest write of a host at a place. -/
def mat (x : Wr) (h a : Int) : Prop := x.host = h ∧ x.at_ = a
def IsLast (xs : List Wr) (h a : Int) (k : Nat) : Prop := (∃ hk : k < xs.length, mat xs[k] h a) ∧ ∀ j (hj : j < xs.length), k < j → ¬ mat xs[j] h a
def readV (ss : List ByteArray) (xs : List Wr) (h a : Int) : ByteArray := ((xs.reverse.find? fun x => x.host == h && x.at_ == a).map Wr.data).getD (ss.getD a.toNat ⟨#[]⟩)
theorem readV_hit {ss : List ByteArray} {xs : List Wr} {h a : Int} {k : Nat} (hk : k < xs.length) (hm : xs[k].host = h ∧ xs[k].at_ = a) (hn : ∀ j (hj : j < xs.length), k < j → ¬ mat xs[j] h a) : readV ss xs h a = xs[k].data := by
  have hf : xs.reverse.find? (fun x => x.host == h && x.at_ == a) = some xs[k] := by
    rw [List.find?_eq_some_iff_append]
    refine ⟨by simp [hm.1, hm.2], (xs.drop (k + 1)).reverse, (xs.take k).reverse, ?_, fun y hy => ?_⟩
    · simp
    · obtain ⟨j, hj, rfl⟩ := List.mem_iff_getElem.1 (List.mem_reverse.1 hy)
      rw [List.getElem_drop]
      have hj' : k + 1 + j < xs.length := by simp at hj; omega
      have := hn (k + 1 + j) hj' (by omega)
      simp only [mat] at this
      by_cases e1 : xs[k + 1 + j].host = h
      · have e2 : ¬ xs[k + 1 + j].at_ = a := fun e2 => this ⟨e1, e2⟩
        simp [e2]
      · simp [e1]
  rw [readV, hf]
  rfl
theorem readV_none {ss : List ByteArray} {xs : List Wr} {h a : Int} (hn : ∀ j (hj : j < xs.length), ¬ mat xs[j] h a) : readV ss xs h a = ss.getD a.toNat ⟨#[]⟩ := by
  have hf : xs.reverse.find? (fun x => x.host == h && x.at_ == a) = none := by
    rw [List.find?_eq_none]
    intro y hy
    obtain ⟨j, hj, rfl⟩ := List.mem_iff_getElem.1 (List.mem_reverse.1 hy)
    have := hn j hj
    simp only [mat] at this
    simpa using this
  rw [readV, hf]
  rfl
def rdS (ss : List ByteArray) (xs : List Wr) (h a : Int) : ByteArray := if askC ss xs h a = 0 then readV ss xs h a else ⟨#[]⟩

end Go.Proofs.Ytlhinknmbgijeab
