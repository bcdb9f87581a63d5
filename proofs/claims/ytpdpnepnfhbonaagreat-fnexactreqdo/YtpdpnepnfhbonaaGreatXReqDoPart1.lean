import Derived.WalkKit
import Derived.ProofKit
import Derived.OpenShut
import Derived.ShutString
import Derived.WalkSpells
import Derived.SliceStrings
import Derived.Lib.SmallJoins
import Derived.Test.YtpdpnepnfhbonaaGreatRows
import Derived.Laws.OwnMore
import Derived.Laws.BytesArg
import Derived.KernelRfl
import Derived.Laws.BitsLemmas
import Derived.Lib.EndianBits
import Derived.Deep.RegionLawGrows
import Derived.Deep.RegionWith
import Derived.ChangeSlices
import Derived.Laws.StructEq

namespace Go.Proofs.YtpdpnepnfhbonaaGreat
open Go.RowKit

theorem hide {p : Prop} (h : p) : Hid p := h
theorem unhide {p : Prop} (h : Hid p) : p := h

def Ss (w : World) (ao : Option Addr) (ss : List ByteArray) : Prop := ∀ i (h : i < ss.length), ∃ b off, ao = some ⟨b, off, none⟩ ∧ w.cell? ⟨b, off + i, none⟩ = some (.string ss[i]) ∧ ss[i].size ≤ maxLen

theorem Ss.below {w w' : World} {ao : Option Addr} {ss : List ByteArray} (h : Ss w ao ss) (hb : Below w.heap.size w w') : Ss w' ao ss := fun i hi => by
  obtain ⟨b, off, e, hc, hz⟩ := h i hi
  exact ⟨b, off, e, (hb.cell (p := ⟨b, off + i, none⟩) (World.block_lt_of_cell? _ _ hc)).trans hc, hz⟩
def strV (ss : List ByteArray) : List Value := ss.map Value.string
theorem fr {a b c : World} (h : Below a.heap.size a b) (k : Below b.heap.size b c) : Below a.heap.size a c := h.trans (k.mono h.size)

theorem strV_length (ss : List ByteArray) : (strV ss).length = ss.length := by simp [strV]
theorem strV_get {ss : List ByteArray} {i : Nat} (h : i < ss.length) : (strV ss)[i]? = some (.string ss[i]) := by simp [strV, h]
theorem set_take {α : Type} {xs ys : List α} {k : Nat} (hl : xs.length = ys.length) (hk : k < ys.length) (h : xs.take k = ys.take k) : (xs.set k ys[k]).take (k + 1) = ys.take (k + 1) := by
  apply List.ext_getElem?
  intro i
  have hi := congrArg (fun l => l[i]?) h
  simp only [List.getElem?_take, List.getElem?_set] at hi ⊢
  by_cases h1 : i < k
  · simp only [h1, if_true] at hi
    rw [if_pos (by omega), if_neg (by omega), if_pos (by omega)]
    exact hi
  · by_cases h2 : i = k
    · subst h2
      simp [hl, hk]
    · simp [show ¬ i < k + 1 by omega]

theorem set_take' {α : Type} {xs ys : List α} {k : Nat} {v : α} (hl : xs.length = ys.length) (hv : ys[k]? = some v) (h : xs.take k = ys.take k) : (xs.set k v).take (k + 1) = ys.take (k + 1) := by
  obtain ⟨hk, rfl⟩ := List.getElem?_eq_some_iff.1 hv
  exact set_take hl hk h

theorem ownSs {w : World} {B e : Nat} {v : Value} {ss : List ByteArray} (h : w.ownsRow B e 1 v ss.length (strV ss)) (hz : ∀ s ∈ ss, s.size ≤ maxLen) : ∃ ao cap, v = .slice ao ss.length cap ∧ Ss w ao ss := by
  rcases h.2 with ⟨rfl, h0⟩ | ⟨g, cap, cur, rfl, hb, hg, hnc, hcm, hcs, ht⟩
  · refine ⟨none, 0, by rw [h0], fun i hi => ?_⟩
    omega
  · refine ⟨_, cap, rfl, fun i hi => ⟨g, 0, rfl, ?_, hz _ (List.getElem_mem hi)⟩⟩
    have := h.cellAt i (by omega)
    rw [Nat.zero_add, this, strV_get hi]
theorem ownS {w : World} {B e cap : Nat} {ao : Option Addr} {ss : List ByteArray} (h : w.ownsRow B e 1 (.slice ao ss.length cap) ss.length (strV ss)) (hz : ∀ s ∈ ss, s.size ≤ maxLen) : Ss w ao ss := by
  obtain ⟨ao', cap', hv, hs⟩ := ownSs h hz
  simp only [Value.slice.injEq, true_and] at hv
  obtain ⟨rfl, _⟩ := hv
  exact hs
theorem own_below {w w' : World} {B e size n : Nat} {v : Value} {xs : List Value} (h : w.ownsRow B e size v n xs) (hb : Below w.heap.size w w') : w'.ownsRow B e size v n xs := by
  refine ⟨h.1, ?_⟩
  rcases h.2 with ⟨rfl, h0⟩ | ⟨g, cap, cur, rfl, hB, hg, hnc, hcm, hcs, ht⟩
  · exact .inl ⟨rfl, h0⟩
  · refine .inr ⟨g, cap, cur, rfl, hB, ?_, hnc, hcm, hcs, ht⟩
    rw [hb.block g (Array.getElem?_eq_some_iff.1 hg).1]; exact hg

theorem own_base {w : World} {B B' e size n : Nat} {v : Value} {xs : List Value} (h : w.ownsRow B e size v n xs) (hB : B' ≤ B) : w.ownsRow B' e size v n xs := by
  refine ⟨h.1, ?_⟩
  rcases h.2 with h0 | ⟨g, cap, cur, e0, hb, rest⟩
  · exact .inl h0
  · exact .inr ⟨g, cap, cur, e0, by omega, rest⟩

def eqSB (ss tt : List ByteArray) : Bool := decide (ss = tt)
theorem eq_succ {α : Type} {xs ys : List α} {k : Nat} (hk : k < xs.length) (hk' : k < ys.length) (h : ∀ j (h : j < xs.length) (h' : j < ys.length), j < k → xs[j] = ys[j]) (he : xs[k] = ys[k]) : ∀ j (h : j < xs.length) (h' : j < ys.length), j < k + 1 → xs[j] = ys[j] := by
  intro j h1 h2 hj
  by_cases e : j = k
  · subst e; exact he
  · exact h j h1 h2 (by omega)
theorem eqSB_true {ss tt : List ByteArray} (hl : ss.length = tt.length) (h : ∀ j (h : j < ss.length) (h' : j < tt.length), ss[j] = tt[j]) : eqSB ss tt = true := decide_eq_true (List.ext_getElem hl h)
theorem eqSB_false_len {ss tt : List ByteArray} (hl : ¬ ss.length = tt.length) : eqSB ss tt = false := decide_eq_false fun h => hl (by rw [h])
theorem eqSB_false {ss tt : List ByteArray} {k : Nat} (hk : k < ss.length) (hk' : k < tt.length) (h : ss[k] ≠ tt[k]) : eqSB ss tt = false := decide_eq_false fun e => by subst e; exact h rfl
theorem ret_bool {a b : Bool} (h : a = b) : Ending.returned (.bool a) = .returned (.bool b) := by rw [h]
theorem ret_int {a b : Int} (h : a = b) : Ending.returned (.int .i64 a) = .returned (.int .i64 b) := by rw [h]

theorem all_succ {α : Type} {p : α → Bool} {xs : List α} {k : Nat} (hk : k < xs.length) (h : ∀ i (hi : i < xs.length), i < k → p xs[i] = true) (hp : p xs[k] = true) : ∀ i (hi : i < xs.length), i < k + 1 → p xs[i] = true := by
  intro i hi hlt
  by_cases e : i = k
  · subst e; exact hp
  · exact h i hi (by omega)
theorem all_of {α : Type} {p : α → Bool} {xs : List α} (h : ∀ i (hi : i < xs.length), i < xs.length → p xs[i] = true) : xs.all p = true := by
  rw [List.all_eq_true]
  intro x hx
  obtain ⟨i, hi, rfl⟩ := List.mem_iff_getElem.1 hx
  exact h i hi hi
theorem all_not {α : Type} {p : α → Bool} {xs : List α} {k : Nat} (hk : k < xs.length) (hp : p xs[k] = false) : xs.all p = false := by
  cases h : xs.all p with
  | false => rfl
  | true =>
    rw [List.all_eq_true] at h
    rw [h _ (List.getElem_mem hk)] at hp; cases hp

theorem str_beq_false {a b : ByteArray} (h : a ≠ b) : (a.toList == b.toList) = false := by
  rw [beq_eq_false_iff_ne]
  intro e
  rw [ByteArray.toList_eq, ByteArray.toList_eq] at e
  apply h
  cases a; cases b
  simpa using Array.toList_inj.1 e

def inB (n low high : Int) : Bool := decide (low ≤ n) && decide (n ≤ high)
end Go.Proofs.YtpdpnepnfhbonaaGreat

namespace Go.Proofs.YtpdpnepnfhbonaaGreat
theorem own : ownKnob Tryz.prog.godebug = none := by kernel_rfl
theorem laidOut : laidOutB Tryz.prog = true := by kernel_rfl
end Go.Proofs.YtpdpnepnfhbonaaGreat

namespace Go.Proofs.YtpdpnepnfhbonaaGreat
open Go.RowKit
set_option linter.unusedVariables false

structure Keep (S : Nat → Prop) (w w' : World) : Prop where
  os : w'.os = w.os
  tape : w'.tape = w.tape
  output : w'.output = w.output
  size : w.heap.size ≤ w'.heap.size
  block : ∀ k, k < w.heap.size → ¬ S k → w'.heap[k]? = w.heap[k]?

theorem Keep.refl (S : Nat → Prop) (w : World) : Keep S w w := ⟨rfl, rfl, rfl, Nat.le_refl _, fun _ _ _ => rfl⟩
theorem Keep.trans {S : Nat → Prop} {a b c : World} (h : Keep S a b) (k : Keep S b c) : Keep S a c :=
  ⟨k.os.trans h.os, k.tape.trans h.tape, k.output.trans h.output, Nat.le_trans h.size k.size, fun i hi hs => (k.block i (Nat.lt_of_lt_of_le hi h.size) hs).trans (h.block i hi hs)⟩
theorem Keep.mono {S T : Nat → Prop} {a b : World} (h : Keep S a b) (hs : ∀ k, S k → T k) : Keep T a b :=
  ⟨h.os, h.tape, h.output, h.size, fun i hi ht => h.block i hi (fun hk => ht (hs i hk))⟩
theorem Keep.of_below {S : Nat → Prop} {a b : World} (h : Below a.heap.size a b) : Keep S a b := ⟨h.os, h.tape, h.output, h.size, fun i hi _ => h.block i hi⟩
theorem Keep.below {S : Nat → Prop} {a b : World} {B : Nat} (h : Keep S a b) (hB : B ≤ a.heap.size) (hs : ∀ k, S k → B ≤ k) : Below B a b :=
  ⟨h.os, h.tape, h.output, h.size, fun i hi => h.block i (by omega) (fun hk => by have := hs i hk; omega)⟩
theorem Keep.setCell {S : Nat → Prop} {a b : World} (h : Keep S a b) {p : Addr} (hp : S p.block) (v : Value) : Keep S a (b.setCell p v) :=
  ⟨h.os, h.tape, h.output, by simpa using h.size, fun i hi hs => by
    rw [Below.heap_setCell b p v i (fun e => hs (e ▸ hp))]; exact h.block i hi hs⟩

def OwnR (w : World) (B e size : Nat) (v : Value) (n : Nat) (xs : List Value) : Prop := (n = 0 ∧ xs = [] ∧ ∃ ao, v = .slice ao 0 0) ∨ (0 < n ∧ w.ownsRow B e size v n xs)
def Own (v : Value) (k : Nat) : Prop := ∃ a n c, v = .slice (some a) (n + 1) c ∧ a.block = k

theorem OwnR.of {w : World} {B e size n : Nat} {v : Value} {xs : List Value} (h : w.ownsRow B e size v n xs) (hv : n = 0 → ∃ ao, v = .slice ao 0 0) : OwnR w B e size v n xs := by
  rcases Nat.eq_zero_or_pos n with h0 | h0
  · have hx : xs = [] := List.eq_nil_of_length_eq_zero (by have := h.1; rw [h0] at this; omega)
    exact .inl ⟨h0, hx, hv h0⟩
  · exact .inr ⟨h0, h⟩
theorem own_form {w : World} {B e size n : Nat} {v : Value} {xs : List Value} (h0 : 0 < n) (h : w.ownsRow B e size v n xs) : ∃ g cap cur, v = .slice (some ⟨g, 0, none⟩) n cap ∧ B ≤ g ∧ w.heap[g]? = some (.cells cur e (0, 0)) := by
  rcases h.2 with ⟨rfl, e0⟩ | ⟨g, cap, cur, e0, hB, hg, _⟩
  · omega
  · exact ⟨g, cap, cur, e0, hB, hg⟩
theorem own_of {g n cap k : Nat} (h0 : 0 < n) (h : g = k) : Own (.slice (some ⟨g, 0, none⟩) n cap) k := ⟨⟨g, 0, none⟩, n - 1, cap, by rw [show n - 1 + 1 = n by omega], h⟩
theorem own_elim {g n cap k : Nat} (h : Own (.slice (some ⟨g, 0, none⟩) n cap) k) : g = k := by
  obtain ⟨a, m, c, e, hk⟩ := h
  simp only [Value.slice.injEq, Option.some.injEq] at e
  rw [← e.1] at hk; exact hk
theorem own_no {ao : Option Addr} {cap k : Nat} : ¬ Own (.slice ao 0 cap) k := by
  rintro ⟨a, m, c, e, _⟩
  simp at e
theorem OwnR.keep {S : Nat → Prop} {w w' : World} {B e size n : Nat} {v : Value} {xs : List Value} (h : OwnR w B e size v n xs) (hk : Keep S w w') (hs : ∀ g, Own v g → ¬ S g) : OwnR w' B e size v n xs := by
  rcases h with h | ⟨h0, h⟩
  · exact .inl h
  · refine .inr ⟨h0, h.1, ?_⟩
    rcases h.2 with ⟨rfl, e0⟩ | ⟨g, cap, cur, rfl, hB, hg, hnc, hcm, hcs, ht⟩
    · omega
    · refine .inr ⟨g, cap, cur, rfl, hB, ?_, hnc, hcm, hcs, ht⟩
      rw [hk.block g (Array.getElem?_eq_some_iff.1 hg).1 (hs g (own_of h0 rfl))]; exact hg
theorem OwnR.below {w w' : World} {B e size n : Nat} {v : Value} {xs : List Value} (h : OwnR w B e size v n xs) (hb : Below w.heap.size w w') : OwnR w' B e size v n xs :=
  h.keep (S := fun _ => False) (Keep.of_below hb) (fun _ _ h => h)
theorem OwnR.base {w : World} {B B' e size n : Nat} {v : Value} {xs : List Value} (h : OwnR w B e size v n xs) (hB : B' ≤ B) : OwnR w B' e size v n xs := by
  rcases h with h | ⟨h0, h⟩
  · exact .inl h
  · exact .inr ⟨h0, own_base h hB⟩
theorem OwnR.ge {w : World} {B e size n : Nat} {v : Value} {xs : List Value} (h : OwnR w B e size v n xs) : ∀ k, Own v k → B ≤ k ∧ k < w.heap.size := by
  intro k hk
  rcases h with ⟨_, _, ao, rfl⟩ | ⟨h0, h⟩
  · exact absurd hk own_no
  · obtain ⟨g, cap, cur, rfl, hB, hg⟩ := own_form h0 h
    cases own_elim hk
    exact ⟨hB, (Array.getElem?_eq_some_iff.1 hg).1⟩
theorem OwnR.other {w : World} {B e size n : Nat} {v : Value} {xs : List Value} (h : OwnR w B e size v n xs) {x t : Nat} {c : Array Value} {f : Nat × Nat} (hx : w.heap[x]? = some (.cells c t f)) (he : t ≠ e) : ¬ Own v x := by
  intro hk
  rcases h with ⟨_, _, ao, rfl⟩ | ⟨h0, h⟩
  · exact own_no hk
  · obtain ⟨g, cap, cur, rfl, hB, hg⟩ := own_form h0 h
    cases own_elim hk
    rw [hx] at hg; simp at hg; exact he hg.2.1
theorem own_apart {w : World} {B B' e e' size size' n n' : Nat} {v v' : Value} {xs xs' : List Value} (h : OwnR w B e size v n xs) (h' : OwnR w B' e' size' v' n' xs') (he : e ≠ e') : ∀ g, Own v g → ¬ Own v' g := by
  intro g hg hg'
  rcases h with ⟨_, _, ao, rfl⟩ | ⟨h0, h⟩
  · exact own_no hg
  · obtain ⟨g1, cap, cur, rfl, hB, hh⟩ := own_form h0 h
    cases own_elim hg
    exact h'.other hh he hg'
theorem OwnR.setCell {w : World} {B e size n : Nat} {v : Value} {xs : List Value} (h : OwnR w B e size v n xs) {a : Addr} (ha : a.block < B) (u : Value) : OwnR (w.setCell a u) B e size v n xs := by
  rcases h with h | ⟨h0, h⟩
  · exact .inl h
  · exact .inr ⟨h0, ownsRow_setCell_below h ha u⟩

end Go.Proofs.YtpdpnepnfhbonaaGreat

namespace Go.Proofs.YtpdpnepnfhbonaaGreat
open Go.RowKit

def byteAt (s : ByteArray) (k : Nat) : Int := ((s.data[k]?.getD 0).toNat : Int)
end Go.Proofs.YtpdpnepnfhbonaaGreat

namespace Go.Proofs.YtpdpnepnfhbonaaGreat
open Go.RowKit

def Is (w : World) (ao : Option Addr) (xs : List Int) : Prop := ∀ i (h : i < xs.length), ∃ b off, ao = some ⟨b, off, none⟩ ∧ w.cell? ⟨b, off + i, none⟩ = some (.int .i64 xs[i])
theorem Is.below {w w' : World} {ao : Option Addr} {xs : List Int} (h : Is w ao xs) (hb : Below w.heap.size w w') : Is w' ao xs := fun i hi => by
  obtain ⟨b, off, e, hc⟩ := h i hi
  exact ⟨b, off, e, (hb.cell (p := ⟨b, off + i, none⟩) (World.block_lt_of_cell? _ _ hc)).trans hc⟩
def intV (xs : List Int) : List Value := xs.map (Value.int .i64)
theorem intV_length (xs : List Int) : (intV xs).length = xs.length := by simp [intV]
theorem intV_get {xs : List Int} {i : Nat} (h : i < xs.length) : (intV xs)[i]? = some (.int .i64 xs[i]) := by simp [intV, h]
theorem intV_snoc (xs : List Int) (n : Int) : intV (xs ++ [n]) = intV xs ++ [.int .i64 n] := by simp [intV]
theorem ownN {w : World} {B e cap : Nat} {ao : Option Addr} {xs : List Int} (h : w.ownsRow B e 1 (.slice ao xs.length cap) xs.length (intV xs)) : Is w ao xs := by
  rcases h.2 with ⟨hv, h0⟩ | ⟨g, cap', cur, hv, hb, hg, hnc, hcm, hcs, ht⟩
  · intro i hi
    omega
  · simp only [Value.slice.injEq, true_and] at hv
    obtain ⟨rfl, rfl⟩ := hv
    intro i hi
    refine ⟨g, 0, rfl, ?_⟩
    rw [Nat.zero_add, h.cellAt i (by omega), intV_get hi]
theorem ownRN {w : World} {B e cap : Nat} {ao : Option Addr} {xs : List Int} (h : OwnR w B e 1 (.slice ao xs.length cap) xs.length (intV xs)) : Is w ao xs := by
  rcases h with ⟨h0, _⟩ | ⟨_, h⟩
  · intro i hi; omega
  · exact ownN h

def eqNB (xs ys : List Int) : Bool := decide (xs = ys)
theorem eqNB_self (xs : List Int) : eqNB xs xs = true := by simp [eqNB]
theorem eqNB_true {ss tt : List Int} (hl : ss.length = tt.length) (h : ∀ j (h : j < ss.length) (h' : j < tt.length), ss[j] = tt[j]) : eqNB ss tt = true := decide_eq_true (List.ext_getElem hl h)
theorem eqNB_false_len {ss tt : List Int} (hl : ¬ ss.length = tt.length) : eqNB ss tt = false := decide_eq_false fun h => hl (by rw [h])
theorem eqNB_false {ss tt : List Int} {k : Nat} (hk : k < ss.length) (hk' : k < tt.length) (h : ss[k] ≠ tt[k]) : eqNB ss tt = false := decide_eq_false fun e => by subst e; exact h rfl

def numB (n : Int) : Bool := inB n 0 2147483647
def byteN (n : Int) (j : Nat) : Int := n / (256 : Int) ^ j % 256
def fourTo (n : Int) (j : Nat) : List Int := (List.range j).map (byteN n)
def four (n : Int) : List Int := fourTo n 4
theorem byte_news (w : World) (v : Value) (t : TypeId) : ∀ j u, [v][j]? = some u → (w.alloc (.cells #[v] t)).cell? ((⟨w.heap.size, 0, none⟩ : Addr).add j) = some u := by
  intro j u hu
  have hj : j = 0 := by
    rcases Nat.eq_zero_or_pos j with h | h
    · exact h
    · rw [List.getElem?_eq_none (by simp; omega)] at hu; cases hu
  subst hj
  simp at hu
  subst hu
  simp [Addr.add, go_sem]
theorem keep_below {w0 w w' : World} {v : Value} {B e size n : Nat} {xs : List Value} (hb : Below w0.heap.size w0 w) (ho : OwnR w B e size v n xs) (hB : w0.heap.size ≤ B) (hk : Keep (Own v) w w') : Below w0.heap.size w0 w' :=
  hb.trans (hk.below hb.size (fun k hk => Nat.le_trans hB (ho.ge k hk).1))
end Go.Proofs.YtpdpnepnfhbonaaGreat

namespace Go.Proofs.YtpdpnepnfhbonaaGreat
open Go.RowKit
set_option linter.unusedVariables false
set_option maxRecDepth 100000

theorem hidB {p : Prop} (h : p) : Hid p := h
def betw (n low high : Int) : Bool := decide (low ≤ n) && decide (n ≤ high)
theorem betw_yes {n low high : Int} (h : low ≤ n) (h' : n ≤ high) : betw n low high = true := by simp [betw, h, h']
theorem betw_no {n low high : Int} (h : ¬ (low ≤ n ∧ n ≤ high)) : betw n low high = false := by simp only [betw, Bool.and_eq_false_iff, decide_eq_false_iff_not]; omega
theorem betw_iff {n low high : Int} : betw n low high = true ↔ low ≤ n ∧ n ≤ high := by simp [betw]
set_option maxHeartbeats 800000 in
theorem within_any (n low high : Int) (w : World) : Calls Tryz.prog 124 #[.int .i64 n, .int .i64 low, .int .i64 high] w fun e w' => e = .returned (.bool (betw n low high)) ∧ w' = w := by
  by_cases h1 : low ≤ n
  · by_cases h2 : n ≤ high
    · have hr := hidB (betw_yes h1 h2)
      go_enter Tryz.func124, Tryz.ntmps124
      go_wp2
      go_ret
      rw [show betw n low high = true from hr]
      exact ⟨rfl, rfl⟩
    · have hr := hidB (betw_no (n := n) (low := low) (high := high) (by omega))
      go_enter Tryz.func124, Tryz.ntmps124
      go_wp2
      go_ret
      rw [show betw n low high = false from hr]
      exact ⟨rfl, rfl⟩
  · have hr := hidB (betw_no (n := n) (low := low) (high := high) (by omega))
    go_enter Tryz.func124, Tryz.ntmps124
    go_wp2
    go_ret
    rw [show betw n low high = false from hr]
    exact ⟨rfl, rfl⟩
set_option maxHeartbeats 800000 in
theorem in_any (n low high : Int) (w : World) : Calls Tryz.prog 71 #[.int .i64 n, .int .i64 low, .int .i64 high] w fun e w' => e = .returned (.bool (betw n low high)) ∧ w' = w := by
  by_cases h1 : low ≤ n
  · by_cases h2 : n ≤ high
    · have hr := hidB (betw_yes h1 h2)
      go_enter Tryz.func71, Tryz.ntmps71
      go_wp2
      go_ret
      rw [show betw n low high = true from hr]
      exact ⟨rfl, rfl⟩
    · have hr := hidB (betw_no (n := n) (low := low) (high := high) (by omega))
      go_enter Tryz.func71, Tryz.ntmps71
      go_wp2
      go_ret
      rw [show betw n low high = false from hr]
      exact ⟨rfl, rfl⟩
  · have hr := hidB (betw_no (n := n) (low := low) (high := high) (by omega))
    go_enter Tryz.func71, Tryz.ntmps71
    go_wp2
    go_ret
    rw [show betw n low high = false from hr]
    exact ⟨rfl, rfl⟩

end Go.Proofs.YtpdpnepnfhbonaaGreat

namespace Go.Proofs.YtpdpnepnfhbonaaGreat
open Go.RowKit

def hi (s : ByteArray) (i : Nat) : Nat → Int
  | 0 => 0
  | m + 1 => hi s i m * 256 + byteAt s (i + (3 - m))
end Go.Proofs.YtpdpnepnfhbonaaGreat

namespace Go.Proofs.YtpdpnepnfhbonaaGreat
open Go.RowKit

end Go.Proofs.YtpdpnepnfhbonaaGreat

namespace Go.Proofs.YtpdpnepnfhbonaaGreat
open Go.RowKit
set_option linter.unusedVariables false
set_option maxRecDepth 100000

def cnt1 (n : Int) : Bool := betw n 0 15
def ctB (xs : List Int) : Bool := decide (xs.length = 24) && xs.all cnt1
def ctF (xs : List Int) : Int := if 4096 < xs.length then 2 else if ctB xs = true then 0 else 1
def zero24 : List Int := List.replicate 24 0
def coR (xs : List Int) : List Int := if ctF xs = 0 then xs else zero24
theorem ctB_len {xs : List Int} (h : ctB xs = true) : xs.length = 24 := by
  simp only [ctB, Bool.and_eq_true, decide_eq_true_eq] at h; exact h.1
theorem ctB_at {xs : List Int} (h : ctB xs = true) : ∀ i (hi : i < xs.length), 0 ≤ xs[i] ∧ xs[i] ≤ 15 := by
  intro i hi
  simp only [ctB, Bool.and_eq_true, decide_eq_true_eq, List.all_eq_true] at h
  exact betw_iff.1 (h.2 xs[i] (List.getElem_mem hi))
theorem ctB_of {xs : List Int} (hl : xs.length = 24) (h : ∀ i (hi : i < xs.length), cnt1 xs[i] = true) : ctB xs = true := by
  rw [ctB, decide_eq_true hl, all_of (p := cnt1) (fun i hi _ => h i hi)]; rfl
theorem ctB_nolen {xs : List Int} (hl : ¬ xs.length = 24) : ctB xs = false := by rw [ctB, decide_eq_false hl]; rfl
theorem ctB_noat {xs : List Int} {k : Nat} (hk : k < xs.length) (h : cnt1 xs[k] = false) : ctB xs = false := by rw [ctB, all_not (p := cnt1) hk h]; simp
theorem ctB_all {xs : List Int} (h : ∀ i (hi : i < xs.length), cnt1 xs[i] = true) : ctB xs = decide (xs.length = 24) := by
  rw [ctB, all_of (p := cnt1) (fun i hi _ => h i hi)]; simp
theorem ctF_long {xs : List Int} (h : 4096 < xs.length) : ctF xs = 2 := if_pos h
theorem ctF_bad {xs : List Int} (h : ¬ 4096 < xs.length) (hb : ctB xs = false) : ctF xs = 1 := by rw [ctF, if_neg h, if_neg (by simp [hb])]
theorem ctF_ok {xs : List Int} (hb : ctB xs = true) : ctF xs = 0 := by
  have := ctB_len hb
  rw [ctF, if_neg (by omega), if_pos hb]
theorem ctF_cases (xs : List Int) : (4096 < xs.length ∧ ctF xs = 2 ∧ coR xs = zero24) ∨ (¬ 4096 < xs.length ∧ ctB xs = false ∧ ctF xs = 1 ∧ coR xs = zero24) ∨ (ctB xs = true ∧ ctF xs = 0 ∧ coR xs = xs) := by
  by_cases h : 4096 < xs.length
  · exact .inl ⟨h, ctF_long h, by rw [coR, ctF_long h]; rfl⟩
  · cases hb : ctB xs
    · exact .inr (.inl ⟨h, rfl, ctF_bad h hb, by rw [coR, ctF_bad h hb]; rfl⟩)
    · exact .inr (.inr ⟨rfl, ctF_ok hb, by rw [coR, ctF_ok hb]; rfl⟩)
theorem coR_len (xs : List Int) : (coR xs).length = 24 := by
  rcases ctF_cases xs with ⟨_, _, h⟩ | ⟨_, _, _, h⟩ | ⟨hb, _, h⟩
  · rw [h]; rfl
  · rw [h]; rfl
  · rw [h]; exact ctB_len hb
def frN (xs : List Int) : Nat := xs.findIdx (fun n => decide (n = 0))
def frC (xs : List Int) : Int := if ctF xs = 0 then (if frN xs < xs.length then 0 else 7) else ctF xs
def frR (xs : List Int) : Int := if ctF xs = 0 then (if frN xs < xs.length then (frN xs : Int) else 0) else 0
def smR (xs : List Int) : Int := if ctF xs = 0 then xs.sum else 0

theorem fr_here {xs : List Int} {k : Nat} (hk : k < xs.length) (h0 : xs[k] = 0) (h : ∀ j (hj : j < xs.length), j < k → decide (xs[j] ≠ 0) = true) : frN xs = k := by
  unfold frN
  rw [List.findIdx_eq hk]
  refine ⟨by simp [h0], fun j hj => ?_⟩
  have := h j (by omega) hj
  simp only [decide_eq_true_eq] at this
  simp [this]
theorem fr_none {xs : List Int} (h : ∀ j (hj : j < xs.length), decide (xs[j] ≠ 0) = true) : ¬ frN xs < xs.length := by
  unfold frN
  rw [List.findIdx_lt_length]
  rintro ⟨x, hx, h0⟩
  obtain ⟨j, hj, rfl⟩ := List.getElem_of_mem hx
  have := h j hj
  simp at this h0
  exact this h0
theorem frC_here {xs : List Int} {k : Nat} (hb : ctB xs = true) (hk : k < xs.length) (h : frN xs = k) : frC xs = 0 ∧ frR xs = (k : Int) := by
  rw [frC, frR, if_pos (ctF_ok hb), if_pos (ctF_ok hb), if_pos (by omega), if_pos (by omega), h]; exact ⟨rfl, rfl⟩
theorem frC_none {xs : List Int} (hb : ctB xs = true) (h : ¬ frN xs < xs.length) : frC xs = 7 ∧ frR xs = 0 := by
  rw [frC, frR, if_pos (ctF_ok hb), if_pos (ctF_ok hb), if_neg h, if_neg h]; exact ⟨rfl, rfl⟩
theorem frC_bad {xs : List Int} (h : ctF xs ≠ 0) : frC xs = ctF xs ∧ frR xs = 0 ∧ smR xs = 0 := ⟨if_neg h, if_neg h, if_neg h⟩
end Go.Proofs.YtpdpnepnfhbonaaGreat

namespace Go.Proofs.YtpdpnepnfhbonaaGreat
open Go.RowKit
set_option linter.unusedVariables false

end Go.Proofs.YtpdpnepnfhbonaaGreat

namespace Go.Proofs.YtpdpnepnfhbonaaGreat
open Go.RowKit
set_option linter.unusedVariables false
set_option maxRecDepth 100000

theorem l01In_num (n low high : Int) (w : World) : Calls Tryz.prog 71 #[.int .i64 n, .int .i64 low, .int .i64 high] w fun e w' => e = .returned (.bool (inB n low high)) ∧ w' = w := by
  go_enter Tryz.func71, Tryz.ntmps71
  go_wp2
  all_goals
    go_ret
    exact ⟨ret_bool (by rw [Bool.eq_iff_iff]; simp [inB]; omega), rfl⟩
theorem l02Int_any (n : Int) (w : World) : Calls Tryz.prog 94 #[.int .i64 n] w fun e w' => e = .returned (.bool (numB n)) ∧ w' = w := by
  go_enter Tryz.func94, Tryz.ntmps94
  go_wp2_with (go_at_call 71; refine (l01In_num _ _ _ _).mono ?_; rintro e w' ⟨rfl, rfl⟩)
  go_ret
  exact ⟨rfl, rfl⟩
theorem isNumber_any (n : Int) (w : World) : Calls Tryz.prog 121 #[.int .i64 n] w fun e w' => e = .returned (.bool (numB n)) ∧ w' = w := by
  go_enter Tryz.func121, Tryz.ntmps121
  go_wp2
  all_goals
    go_ret
    exact ⟨ret_bool (by rw [Bool.eq_iff_iff]; simp [numB, inB]; omega), rfl⟩

end Go.Proofs.YtpdpnepnfhbonaaGreat

namespace Go.Proofs.YtpdpnepnfhbonaaGreat
open Go.RowKit
set_option linter.unusedVariables false
section
variable {P : Program}

theorem keep_grown {S : Nat → Prop} {w w' : World} {row : Option Nat} (h : w.grownBy w' row) (hs : ∀ k, row = some k → S k) : Keep S w w' :=
  ⟨h.os, h.tape, h.output, h.size, fun k hk hn => h.block k hk (fun e => hn (hs k e.symm))⟩

theorem run_append_one (w : World) (B : Nat) (t ty e : TypeId) (i : TypeInfo) (z : Value) (size bytes : Nat) (ht : P.underlying t = some (.slice e)) (hi : P.info? e = some i) (hz : i.zero = some z)
    (hsize : i.size = size) (hby : i.bytes = bytes) (hzs : z.cells.size = size) (hsz : 0 < size)
    (qo : Option Addr) (n cap : Nat) (xs : List Value) (h : OwnR w B e size (.slice qo n cap) n xs) (hB : B ≤ w.heap.size)
    (ad : Addr) (c : Nat) (news : List Value) (hl : news.length = size) (hnews : ∀ j u, news[j]? = some u → w.cell? (ad.add j) = some u) (h1 : ∀ u ∈ news, u.oneCell' = true)
    (b1 : n + 1 ≤ maxLen) (b2 : (n + 1) * bytes ≤ 140737488355328) :
    ∃ g cap' w', (Builtin.append_ #[t, t] ty #[.slice qo n cap, .slice (some ad) 1 c]).run P w = .ok (.slice (some ⟨g, 0, none⟩) (n + 1) cap') w' ∧
      w'.ownsRow B e size (.slice (some ⟨g, 0, none⟩) (n + 1) cap') (n + 1) (xs ++ news) ∧ Keep (Own (.slice qo n cap)) w w' := by
  rcases h with ⟨rfl, rfl, ao, hv⟩ | ⟨h0, h⟩
  · simp only [Value.slice.injEq, true_and] at hv
    obtain ⟨rfl, rfl⟩ := hv
    cases qo with
    | none =>
      obtain ⟨v', w', hrun, r1, r2, _⟩ := run_append_own (P := P) w B t ty e i z size bytes ht hi hz hsize hby hzs hsz (.slice none 0 0) 0 [] (World.ownsRow_nil w _ e size) ad 1 c news (by omega) hnews h1 b1 b2 hB
      obtain ⟨g, cap, cur, rfl, _, _⟩ := own_form (by omega) r1
      exact ⟨g, cap, w', hrun, r1, keep_grown r2 (fun k hk => by cases hk)⟩
    | some d =>
      obtain ⟨v', w', hrun, r1, r2⟩ := run_append_arg_grows (P := P) w t ty e i z size bytes ht hi hz hsize hby hzs hsz d 0 0 [] (by simp) (by simp) ad 1 c news (by omega) hnews (by omega) b1 b2
      obtain ⟨g, cap, cur, rfl, _, _⟩ := own_form (by omega) r1
      exact ⟨g, cap, w', hrun, own_base r1 hB, keep_grown r2 (fun k hk => by cases hk)⟩
  · obtain ⟨g0, cap0, cur0, e0, _, _⟩ := own_form h0 h
    rw [e0] at h
    obtain ⟨v', w', hrun, r1, r2, _⟩ := run_append_own (P := P) w B t ty e i z size bytes ht hi hz hsize hby hzs hsz _ n xs h ad 1 c news (by omega) hnews h1 b1 b2 hB
    obtain ⟨g, cap, cur, rfl, _, _⟩ := own_form (by omega) r1
    rw [e0]
    exact ⟨g, cap, w', hrun, r1, keep_grown r2 (fun k hk => by cases hk; exact own_of h0 rfl)⟩

theorem wpList_append_one {w : World} {ops : Array Oper} {rest : List Oper} {o : Oper} {a : Act} {Q : Exit → Act → World → Prop} (hgd : o.guard = none) (s x : Operand) (t : TypeId)
    (ho : o.op = .call { callee := .builtin .append, args := #[s, x], argTypes := #[t, t] })
    (B : Nat) (e : TypeId) (i : TypeInfo) (z : Value) (size bytes : Nat) (ht : P.underlying t = some (.slice e)) (hi : P.info? e = some i) (hz : i.zero = some z)
    (hsize : i.size = size) (hby : i.bytes = bytes) (hzs : z.cells.size = size) (hsz : 0 < size)
    (qo : Option Addr) (n cap : Nat) (xs : List Value) (hs : a.eval s = .slice qo n cap) (h : OwnR w B e size (.slice qo n cap) n xs) (hB : B ≤ w.heap.size)
    (ad : Addr) (c : Nat) (news : List Value) (hx : a.eval x = .slice (some ad) 1 c) (hl : news.length = size) (hnews : ∀ j u, news[j]? = some u → w.cell? (ad.add j) = some u) (h1 : ∀ u ∈ news, u.oneCell' = true)
    (b1 : n + 1 ≤ maxLen) (b2 : (n + 1) * bytes ≤ 140737488355328)
    (hK : ∀ g cap' w', w'.ownsRow B e size (.slice (some ⟨g, 0, none⟩) (n + 1) cap') (n + 1) (xs ++ news) → Keep (Own (.slice qo n cap)) w w' → wpList P ops Q rest (a.put o.dst (.slice (some ⟨g, 0, none⟩) (n + 1) cap')) w') : wpList P ops Q (o :: rest) a w := by
  refine wpList_plain hgd fun K hK' => ?_
  obtain ⟨g, cap', w', hrun, r1, r2⟩ := run_append_one (P := P) w B t o.type e i z size bytes ht hi hz hsize hby hzs hsz qo n cap xs h hB ad c news hl hnews h1 b1 b2
  unfold Oper.wp
  simp [execOp, ho, resolve, invoke, builtin, hs, hx, hrun, Result.andThen]
  exact hK' _ _ (hK _ _ _ r1 r2)

theorem step_append_one {w : World} {ops : Array Oper} {o : Oper} {a : Act} {K : Act → World → Prop} {Q : Exit → Act → World → Prop} {E : Prop} (hgd : o.guard = none) (s x : Operand) (t : TypeId)
    (ho : o.op = .call { callee := .builtin .append, args := #[s, x], argTypes := #[t, t] })
    (B : Nat) (e : TypeId) (i : TypeInfo) (z : Value) (size bytes : Nat) (ht : P.underlying t = some (.slice e)) (hi : P.info? e = some i) (hz : i.zero = some z)
    (hsize : i.size = size) (hby : i.bytes = bytes) (hzs : z.cells.size = size) (hsz : 0 < size)
    (qo : Option Addr) (n cap : Nat) (xs : List Value) (hs : a.eval s = .slice qo n cap) (h : OwnR w B e size (.slice qo n cap) n xs) (hB : B ≤ w.heap.size)
    (ad : Addr) (c : Nat) (news : List Value) (hx : a.eval x = .slice (some ad) 1 c) (hl : news.length = size) (hnews : ∀ j u, news[j]? = some u → w.cell? (ad.add j) = some u) (h1 : ∀ u ∈ news, u.oneCell' = true)
    (b1 : n + 1 ≤ maxLen) (b2 : (n + 1) * bytes ≤ 140737488355328)
    (hK : ∀ g cap' w', w'.ownsRow B e size (.slice (some ⟨g, 0, none⟩) (n + 1) cap') (n + 1) (xs ++ news) → Keep (Own (.slice qo n cap)) w w' → K (a.put o.dst (.slice (some ⟨g, 0, none⟩) (n + 1) cap')) w') :
    if Region.wanted o (yielded ops a.tmps) = true then Oper.wp P o a w K Q else E := by
  have hw : Region.wanted o (yielded ops a.tmps) = true := by simp [Region.wanted, hgd]
  rw [if_pos hw]
  obtain ⟨g, cap', w', hrun, r1, r2⟩ := run_append_one (P := P) w B t o.type e i z size bytes ht hi hz hsize hby hzs hsz qo n cap xs h hB ad c news hl hnews h1 b1 b2
  unfold Oper.wp
  simp [execOp, ho, resolve, invoke, builtin, hs, hx, hrun, Result.andThen]
  exact hK _ _ _ r1 r2
end
end Go.Proofs.YtpdpnepnfhbonaaGreat

namespace Go.Proofs.YtpdpnepnfhbonaaGreat
open Go.RowKit
set_option linter.unusedVariables false

theorem infoM : (Tryz.prog.info? 3).map (fun i => (i.zero, i.size, i.bytes)) = some (some (.int .i64 0), 1, 8) := by kernel_rfl
theorem int_one (n : Int) : ∀ u ∈ [Value.int .i64 n], u.oneCell' = true := by
  intro u hu
  simp at hu
  subst hu
  rfl

def OwnN (w : World) (B : Nat) (v : Value) (xs : List Int) : Prop := ∃ qo qa, v = .slice qo xs.length qa ∧ OwnR w B 3 1 (.slice qo xs.length qa) xs.length (intV xs)
theorem OwnN.below {w w' : World} {B : Nat} {v : Value} {xs : List Int} (h : OwnN w B v xs) (hb : Below w.heap.size w w') : OwnN w' B v xs := by
  obtain ⟨qo, qa, e, ho⟩ := h
  exact ⟨qo, qa, e, ho.below hb⟩
theorem OwnN.base {w : World} {B B' : Nat} {v : Value} {xs : List Int} (h : OwnN w B v xs) (hB : B' ≤ B) : OwnN w B' v xs := by
  obtain ⟨qo, qa, e, ho⟩ := h
  exact ⟨qo, qa, e, ho.base hB⟩
theorem OwnN.nil (w : World) (B : Nat) (ao : Option Addr) : OwnN w B (.slice ao 0 0) [] := ⟨ao, 0, rfl, .inl ⟨rfl, rfl, ao, rfl⟩⟩

theorem ret_ni {v u : Value} {a b : Int} (h : v = u) (k : a = b) : Ending.returned (.tuple #[v, .int .i64 a]) = .returned (.tuple #[u, .int .i64 b]) := by rw [h, k]

theorem ret_two2 {a b c d : Int} (h : a = b) (k : c = d) : Ending.returned (.tuple #[.int .i64 a, .int .i64 c]) = .returned (.tuple #[.int .i64 b, .int .i64 d]) := by rw [h, k]

theorem OwnN.setCell {w : World} {B : Nat} {v : Value} {xs : List Int} (h : OwnN w B v xs) {a : Addr} (ha : a.block < B) (u : Value) : OwnN (w.setCell a u) B v xs := by
  obtain ⟨qo, qa, e, ho⟩ := h
  exact ⟨qo, qa, e, ho.setCell ha u⟩

end Go.Proofs.YtpdpnepnfhbonaaGreat

namespace Go.Proofs.YtpdpnepnfhbonaaGreat
open Go.RowKit
set_option linter.unusedVariables false
set_option maxRecDepth 100000

end Go.Proofs.YtpdpnepnfhbonaaGreat

namespace Go.Proofs.YtpdpnepnfhbonaaGreat
open Go.RowKit
set_option linter.unusedVariables false
set_option maxRecDepth 100000

end Go.Proofs.YtpdpnepnfhbonaaGreat

namespace Go.Proofs.YtpdpnepnfhbonaaGreat
open Go.RowKit
set_option linter.unusedVariables false

end Go.Proofs.YtpdpnepnfhbonaaGreat

namespace Go.Proofs.YtpdpnepnfhbonaaGreat
open Go.RowKit
set_option linter.unusedVariables false
set_option maxRecDepth 100000

end Go.Proofs.YtpdpnepnfhbonaaGreat

namespace Go.Proofs.YtpdpnepnfhbonaaGreat
open Go.RowKit
set_option linter.unusedVariables false
set_option maxRecDepth 100000

end Go.Proofs.YtpdpnepnfhbonaaGreat

namespace Go.Proofs.YtpdpnepnfhbonaaGreat
open Go.RowKit
set_option linter.unusedVariables false

end Go.Proofs.YtpdpnepnfhbonaaGreat

namespace Go.Proofs.YtpdpnepnfhbonaaGreat
open Go.RowKit
set_option linter.unusedVariables false
set_option maxRecDepth 100000

def ent1 (n : Int) : Bool := betw n 0 25
def tbB (xs : List Int) : Bool := decide (xs.length ≤ 12) && xs.all ent1
def tbF (xs : List Int) : Int := if 4096 < xs.length then 2 else if tbB xs = true then 0 else 1
theorem tbB_len {xs : List Int} (h : tbB xs = true) : xs.length ≤ 12 := by
  simp only [tbB, Bool.and_eq_true, decide_eq_true_eq] at h; exact h.1
theorem tbB_at {xs : List Int} (h : tbB xs = true) : ∀ i (hi : i < xs.length), 0 ≤ xs[i] ∧ xs[i] ≤ 25 := by
  intro i hi
  simp only [tbB, Bool.and_eq_true, decide_eq_true_eq, List.all_eq_true] at h
  exact betw_iff.1 (h.2 xs[i] (List.getElem_mem hi))
theorem tbB_of {xs : List Int} (hl : xs.length ≤ 12) (h : ∀ i (hi : i < xs.length), ent1 xs[i] = true) : tbB xs = true := by
  rw [tbB, decide_eq_true hl, all_of (p := ent1) (fun i hi _ => h i hi)]; rfl
theorem tbB_nolen {xs : List Int} (hl : ¬ xs.length ≤ 12) : tbB xs = false := by rw [tbB, decide_eq_false hl]; rfl
theorem tbB_noat {xs : List Int} {k : Nat} (hk : k < xs.length) (h : ent1 xs[k] = false) : tbB xs = false := by rw [tbB, all_not (p := ent1) hk h]; simp
theorem tbB_all {xs : List Int} (h : ∀ i (hi : i < xs.length), ent1 xs[i] = true) : tbB xs = decide (xs.length ≤ 12) := by
  rw [tbB, all_of (p := ent1) (fun i hi _ => h i hi)]; simp
theorem tbF_long {xs : List Int} (h : 4096 < xs.length) : tbF xs = 2 := if_pos h
theorem tbF_bad {xs : List Int} (h : ¬ 4096 < xs.length) (hb : tbB xs = false) : tbF xs = 1 := by rw [tbF, if_neg h, if_neg (by simp [hb])]
theorem tbF_ok {xs : List Int} (hb : tbB xs = true) : tbF xs = 0 := by
  have := tbB_len hb
  rw [tbF, if_neg (by omega), if_pos hb]
theorem tbF_cases (xs : List Int) : (4096 < xs.length ∧ tbF xs = 2) ∨ (¬ 4096 < xs.length ∧ tbB xs = false ∧ tbF xs = 1) ∨ (tbB xs = true ∧ tbF xs = 0) := by
  by_cases h : 4096 < xs.length
  · exact .inl ⟨h, tbF_long h⟩
  · cases hb : tbB xs
    · exact .inr (.inl ⟨h, rfl, tbF_bad h hb⟩)
    · exact .inr (.inr ⟨rfl, tbF_ok hb⟩)
theorem tbF_zero {xs : List Int} (h0 : tbF xs = 0) : tbB xs = true := by
  rcases tbF_cases xs with ⟨_, h⟩ | ⟨_, _, h⟩ | ⟨h, _⟩
  · rw [h0] at h; cases h
  · rw [h0] at h; cases h
  · exact h
def enF (xs : List Int) (g : Int) : Int := if tbF xs = 0 then (if betw g 0 ((xs.length : Int) - 1) = true then 0 else 4) else tbF xs
def enK (xs : List Int) (g : Int) : Int := if enF xs g = 0 then min (xs.getD g.toNat 0) 2 else 0
def enC (xs : List Int) (g : Int) : Int := if enF xs g = 0 then max 0 (xs.getD g.toNat 0 - 2) else 0
theorem en_cases (xs : List Int) (g : Int) : (tbF xs ≠ 0 ∧ enF xs g = tbF xs ∧ enK xs g = 0 ∧ enC xs g = 0) ∨ (tbB xs = true ∧ betw g 0 ((xs.length : Int) - 1) = false ∧ enF xs g = 4 ∧ enK xs g = 0 ∧ enC xs g = 0) ∨ (tbB xs = true ∧ ∃ q : Nat, g = (q : Int) ∧ ∃ hq : q < xs.length, enF xs g = 0 ∧ enK xs g = min xs[q] 2 ∧ enC xs g = max 0 (xs[q] - 2)) := by
  by_cases h : tbF xs = 0
  · have hb := tbF_zero h
    by_cases hg : betw g 0 ((xs.length : Int) - 1) = true
    · obtain ⟨g0, g1⟩ := betw_iff.1 hg
      have e : enF xs g = 0 := by rw [enF, if_pos h, if_pos hg]
      have hq : g.toNat < xs.length := by omega
      refine .inr (.inr ⟨hb, g.toNat, by omega, hq, e, ?_, ?_⟩)
      · rw [enK, if_pos e]; simp [List.getD, hq]
      · rw [enC, if_pos e]; simp [List.getD, hq]
    · rw [Bool.not_eq_true] at hg
      have e : enF xs g = 4 := by rw [enF, if_pos h, hg]; rfl
      exact .inr (.inl ⟨hb, hg, e, by rw [enK, e]; rfl, by rw [enC, e]; rfl⟩)
  · have e : enF xs g = tbF xs := by rw [enF, if_neg h]
    exact .inl ⟨h, e, by rw [enK, e, if_neg h], by rw [enC, e, if_neg h]⟩
def rzF (xs : List Int) (n : Int) : Int := if tbF xs = 0 then (if betw n 0 12 = true then 0 else 4) else tbF xs
def rzTo (xs : List Int) (n : Nat) : List Int := (List.range n).map fun i => xs.getD i 0
def rzL (xs : List Int) (n : Int) : List Int := if rzF xs n = 0 then rzTo xs n.toNat else []
theorem rzTo_len (xs : List Int) (n : Nat) : (rzTo xs n).length = n := by simp [rzTo]
theorem rzTo_succ (xs : List Int) (n : Nat) : rzTo xs (n + 1) = rzTo xs n ++ [xs.getD n 0] := by simp [rzTo, List.range_succ]
theorem rz_cases (xs : List Int) (n : Int) : (tbF xs ≠ 0 ∧ rzF xs n = tbF xs ∧ rzL xs n = []) ∨ (tbB xs = true ∧ betw n 0 12 = false ∧ rzF xs n = 4 ∧ rzL xs n = []) ∨ (tbB xs = true ∧ ∃ q : Nat, n = (q : Int) ∧ q ≤ 12 ∧ rzF xs n = 0 ∧ rzL xs n = rzTo xs q) := by
  by_cases h : tbF xs = 0
  · have hb := tbF_zero h
    by_cases hg : betw n 0 12 = true
    · obtain ⟨g0, g1⟩ := betw_iff.1 hg
      have e : rzF xs n = 0 := by rw [rzF, if_pos h, if_pos hg]
      exact .inr (.inr ⟨hb, n.toNat, by omega, by omega, e, by rw [rzL, if_pos e]⟩)
    · rw [Bool.not_eq_true] at hg
      have e : rzF xs n = 4 := by rw [rzF, if_pos h, hg]; rfl
      exact .inr (.inl ⟨hb, hg, e, by rw [rzL, e]; rfl⟩)
  · have e : rzF xs n = tbF xs := by rw [rzF, if_neg h]
    exact .inl ⟨h, e, by rw [rzL, e, if_neg h]⟩
def clTo (xs : List Int) (k : Nat) : List Int := (xs.take k).filterMap fun e => if 2 ≤ e then some (e - 2) else none
def clA (xs : List Int) : List Int := clTo xs xs.length
theorem clTo_data {xs : List Int} {k : Nat} (hk : k < xs.length) (h : 2 ≤ xs[k]) : clTo xs (k + 1) = clTo xs k ++ [xs[k] - 2] := by
  unfold clTo
  rw [List.take_succ_eq_append_getElem hk, List.filterMap_append]; simp [h]
theorem clTo_none {xs : List Int} {k : Nat} (hk : k < xs.length) (h : ¬ 2 ≤ xs[k]) : clTo xs (k + 1) = clTo xs k := by
  unfold clTo
  rw [List.take_succ_eq_append_getElem hk, List.filterMap_append]; simp [h]
theorem clTo_len (xs : List Int) (k : Nat) : (clTo xs k).length ≤ k := by
  unfold clTo
  refine Nat.le_trans (List.length_filterMap_le _ _) ?_
  rw [List.length_take]; omega
end Go.Proofs.YtpdpnepnfhbonaaGreat

namespace Go.Proofs.YtpdpnepnfhbonaaGreat
open Go.RowKit
set_option linter.unusedVariables false
set_option maxRecDepth 100000

structure Snp where
  name : ByteArray
  table : List Int
structure Img where
  refs : List Int
  table : List Int
  snaps : List Snp
  data : List Int

def nm1 (b : UInt8) : Bool := decide (97 ≤ b.toNat) && decide (b.toNat ≤ 122)
def snmB (t : ByteArray) : Bool := t.data.toList.all nm1 && betw (t.size : Int) 1 6
def incr (ns : List Int) (c : Int) : List Int := ns.set c.toNat (ns.getD c.toNat 0 + 1)
def cnt1T (ns : List Int) (t : List Int) : List Int := (clA t).foldl incr ns
def imTabs (m : Img) : List (List Int) := m.table :: m.snaps.map (·.table)
def imCnt (m : Img) : List Int := (imTabs m).foldl cnt1T zero24
theorem incr_len (ns : List Int) (c : Int) : (incr ns c).length = ns.length := by simp [incr]
theorem cnt1T_len (t : List Int) : ∀ ns : List Int, (cnt1T ns t).length = ns.length := by
  unfold cnt1T
  induction clA t with
  | nil => intro ns; rfl
  | cons c cs ih => intro ns; rw [List.foldl_cons, ih, incr_len]
theorem imCnt_len (m : Img) : (imCnt m).length = 24 := by
  unfold imCnt
  have h : ∀ (ts : List (List Int)) (ns : List Int), (ts.foldl cnt1T ns).length = ns.length := by
    intro ts
    induction ts with
    | nil => intro ns; rfl
    | cons t ts ih => intro ns; rw [List.foldl_cons, ih, cnt1T_len]
  rw [h]; rfl
def namesB (ss : List Snp) : Bool := decide ((ss.map (·.name)).Nodup)
def imFm (m : Img) : Bool := ctB m.refs && tbB m.table && decide (m.snaps.length ≤ 3) && decide (m.data.length = 24) && m.snaps.all (fun s => snmB s.name && tbB s.table) && namesB m.snaps && m.data.all numB
def onceB (t : List Int) : Bool := decide (clA t).Nodup
def clearB (m : Img) : Bool := (List.range 24).all fun i => decide (m.refs.getD i 0 = 0 → m.data.getD i 0 = 0)
def imB (m : Img) : Bool := imFm m && (imTabs m).all onceB && decide (imCnt m = m.refs) && clearB m

structure ImR (m : Img) : Prop where
  refs : ctB m.refs = true
  table : tbB m.table = true
  few : m.snaps.length ≤ 3
  len : m.data.length = 24
  snaps : ∀ s ∈ m.snaps, snmB s.name = true ∧ tbB s.table = true
  names : (m.snaps.map (·.name)).Nodup
  nums : ∀ n ∈ m.data, numB n = true
  once : ∀ t ∈ imTabs m, (clA t).Nodup
  cnt : imCnt m = m.refs
  clear : ∀ i, i < 24 → m.refs.getD i 0 = 0 → m.data.getD i 0 = 0
theorem imB_iff {m : Img} : imB m = true ↔ ImR m := by
  constructor
  · intro h
    simp only [imB, imFm, namesB, onceB, clearB, Bool.and_eq_true, decide_eq_true_eq, List.all_eq_true, List.mem_range] at h
    obtain ⟨⟨⟨⟨⟨⟨⟨⟨⟨h1, h2⟩, h3⟩, h4⟩, h5⟩, h6⟩, h7⟩, h8⟩, h9⟩, h10⟩ := h
    exact ⟨h1, h2, h3, h4, h5, h6, h7, h8, h9, h10⟩
  · intro h
    simp only [imB, imFm, namesB, onceB, clearB, Bool.and_eq_true, decide_eq_true_eq, List.all_eq_true, List.mem_range]
    exact ⟨⟨⟨⟨⟨⟨⟨⟨⟨h.refs, h.table⟩, h.few⟩, h.len⟩, h.snaps⟩, h.names⟩, h.nums⟩, h.once⟩, h.cnt⟩, h.clear⟩

def imDrop (m : Img) (e : Int) : Img :=
  if e < 2 then m else
    let c := (e - 2).toNat
    let r := m.refs.set c (m.refs.getD c 0 - 1)
    { m with refs := r, data := if m.refs.getD c 0 - 1 = 0 then m.data.set c 0 else m.data }
def imDrops (m : Img) (es : List Int) : Img := es.foldl imDrop m
theorem imDrop_refs (m : Img) (e : Int) : (imDrop m e).refs.length = m.refs.length := by unfold imDrop; split <;> simp
theorem imDrop_data (m : Img) (e : Int) : (imDrop m e).data.length = m.data.length := by
  unfold imDrop
  split
  · rfl
  · simp only; split <;> simp
theorem imDrop_table (m : Img) (e : Int) : (imDrop m e).table = m.table ∧ (imDrop m e).snaps = m.snaps := by unfold imDrop; split <;> exact ⟨rfl, rfl⟩
def imWrite (m : Img) (g : Nat) (v : Int) : Img × Int :=
  let e := m.table.getD g 0
  if 2 ≤ e ∧ m.refs.getD (e - 2).toNat 0 = 1 then ({ m with data := m.data.set (e - 2).toNat v }, 0)
  else if frN m.refs < m.refs.length then
    let c := frN m.refs
    let d := imDrop m e
    ({ d with refs := d.refs.set c 1, data := d.data.set c v, table := d.table.set g (2 + c) }, 0)
  else (m, 7)
def imZero (m : Img) (g : Nat) : Img := let d := imDrop m (m.table.getD g 0); { d with table := d.table.set g 1 }
def imResize (m : Img) (n : Nat) : Img := let d := imDrops m (m.table.drop n); { d with table := rzTo m.table n }
def imRaise (m : Img) (t : List Int) : Img := { m with refs := (clA t).foldl incr m.refs }
def imFind (m : Img) (name : ByteArray) : Nat := m.snaps.findIdx (fun s => decide (s.name = name))
def imCreate (m : Img) (name : ByteArray) : Img × Int :=
  if snmB name = true then
    (if imFind m name < m.snaps.length then (m, 8)
    else if m.snaps.length = 3 then (m, 6)
    else ({ imRaise m m.table with snaps := m.snaps ++ [⟨name, m.table⟩] }, 0))
  else (m, 12)
def imDelete (m : Img) (name : ByteArray) : Img × Int :=
  if imFind m name < m.snaps.length then ({ imDrops m ((m.snaps[imFind m name]?).elim [] (·.table)) with snaps := m.snaps.eraseIdx (imFind m name) }, 0)
  else (m, 5)
def imRevert (m : Img) (name : ByteArray) : Img × Int :=
  if imFind m name < m.snaps.length then
    let t := (m.snaps[imFind m name]?).elim [] (·.table)
    ({ imDrops (imRaise m t) m.table with table := t }, 0)
  else (m, 5)
def imVal (m : Img) (e : Int) : Int := if e < 2 then 0 else m.data.getD (e - 2).toNat 0

end Go.Proofs.YtpdpnepnfhbonaaGreat

namespace Go.Proofs.YtpdpnepnfhbonaaGreat
open Go.RowKit
set_option linter.unusedVariables false
set_option maxRecDepth 100000

def Sns (w : World) (ao : Option Addr) (ss : List Snp) : Prop := ∀ i (h : i < ss.length), ∃ b off tq tc, ao = some ⟨b, off, none⟩ ∧ w.cell? ⟨b, off + i * 2, none⟩ = some (.string ss[i].name) ∧ w.cell? ⟨b, off + i * 2 + 1, none⟩ = some (.slice tq ss[i].table.length tc) ∧ Is w tq ss[i].table ∧ ss[i].name.size ≤ maxLen ∧ ss[i].table.length ≤ maxLen
theorem Sns.below {w w' : World} {ao : Option Addr} {ss : List Snp} (h : Sns w ao ss) (hb : Below w.heap.size w w') : Sns w' ao ss := fun i hi => by
  obtain ⟨b, off, tq, tc, e, h0, h1, h2, h3, h4⟩ := h i hi
  have hl := World.block_lt_of_cell? _ _ h0
  exact ⟨b, off, tq, tc, e, (hb.cell (p := ⟨b, off + i * 2, none⟩) hl).trans h0, (hb.cell (p := ⟨b, off + i * 2 + 1, none⟩) hl).trans h1, h2.below hb, h3, h4⟩
structure Im4 where
  ro : Option Addr
  rc : Nat
  tq : Option Addr
  tc : Nat
  so : Option Addr
  sc : Nat
  dq : Option Addr
  dc : Nat
abbrev imV (a : Im4) (m : Img) : Value := .agg #[.slice a.ro m.refs.length a.rc, .slice a.tq m.table.length a.tc, .slice a.so m.snaps.length a.sc, .slice a.dq m.data.length a.dc]
abbrev snV (s : Snp) (tq : Option Addr) (tc : Nat) : Value := .agg #[.string s.name, .slice tq s.table.length tc]
structure ImS (w : World) (a : Im4) (m : Img) : Prop where
  r : Is w a.ro m.refs
  t : Is w a.tq m.table
  s : Sns w a.so m.snaps
  d : Is w a.dq m.data
theorem ImS.below {w w' : World} {a : Im4} {m : Img} (h : ImS w a m) (hb : Below w.heap.size w w') : ImS w' a m := ⟨h.r.below hb, h.t.below hb, h.s.below hb, h.d.below hb⟩
def sn1 (s : Snp) : Nat := s.name.size + s.table.length
def snSz (ss : List Snp) : Nat := (ss.map sn1).sum
def imSz (m : Img) : Nat := m.refs.length + m.table.length + (m.snaps.length + snSz m.snaps) + m.data.length
theorem snSz_take {ss : List Snp} {k : Nat} (h : k < ss.length) : snSz (ss.take (k + 1)) = snSz (ss.take k) + sn1 ss[k] := by
  unfold snSz
  rw [List.take_succ_eq_append_getElem h, List.map_append, List.sum_append]; simp
theorem sn_le {ss : List Snp} {k : Nat} (h : k < ss.length) : sn1 ss[k] ≤ snSz ss := by
  have e := snSz_take h
  have : ∀ (xs : List Snp) (n : Nat), snSz (xs.take n) ≤ snSz xs := by
    intro xs n
    have h2 : snSz xs = snSz (xs.take n) + snSz (xs.drop n) := by
      unfold snSz
      rw [← List.sum_append, ← List.map_append, List.take_append_drop]
    omega
  have := this ss (k + 1)
  omega

end Go.Proofs.YtpdpnepnfhbonaaGreat

namespace Go.Proofs.YtpdpnepnfhbonaaGreat
open Go.ChangeShapes Go.WideShapes Go.ChangeAt Go.RowKit Go.Deep
set_option linter.unusedVariables false
set_option maxRecDepth 100000

section
variable {H : Type} {enc : TypeId × Value → H} {P : Program} {w : World} {base : Nat} {spare : Nat → Bool} {held : Bool}
theorem add_im {a : Addr} {i : Nat} (h : a.spot = none) : a.add i = ⟨a.block, a.off + i, none⟩ := by
  unfold Addr.add
  by_cases hi : i = 0
  · subst hi; cases a; simp_all
  · simp [hi]
theorem open_IsV {t e : TypeId} {fuel : Nat} {v : Value} {x : DataW H × List MemPlace} (ht : P.underlying t = some (.slice e)) (he : P.underlying e = some (.int .i64)) (hc : P.cellsOf e = 1)
    (h : DataW.trod enc P w base spare held fuel t [v] = some x) : ∃ ao cap, ∃ xs : List Int, v = .slice ao xs.length cap ∧ xs.length ≤ maxLen ∧ Is w ao xs := by
  rcases open_ints ht he hc h with ⟨hcs, _⟩ | ⟨a, len, cap, zs, hcs, _, hl, hcm, hz, _, hcell, hws⟩
  · simp only [List.cons.injEq, and_true] at hcs
    subst hcs
    exact ⟨none, 0, [], rfl, Nat.zero_le _, fun i hi => absurd hi (Nat.not_lt_zero _)⟩
  · simp only [List.cons.injEq, and_true] at hcs
    subst hcs
    have hlen : len ≤ zs.length := by rw [hz]; split <;> omega
    have htl : (zs.take len).length = len := by simp; omega
    refine ⟨some a, cap, zs.take len, by rw [htl], by omega, fun i hi => ?_⟩
    have hi' : i < len := by omega
    have h0 : a.spot = none := by
      have := World.cell?_spot (hcell 0 (by omega))
      simpa [Addr.add] using this
    have hci := hcell i (by omega)
    rw [add_im h0] at hci
    have hg : (zs.take len)[i] = zs.getD i 0 := by
      rw [List.getElem_take]; simp [List.getD, show i < zs.length by omega]
    refine ⟨a.block, a.off, ?_, ?_⟩
    · cases a; simp_all
    · rw [hci, hg]
theorem cells2I {a : Addr} {cs : List Value} (h : w.cells? base a 2 = some cs) : ∃ c0 c1, cs = [c0, c1] ∧ w.cell? (a.add 0) = some c0 ∧ w.cell? (a.add 1) = some c1 := by
  unfold World.cells? at h
  split at h
  · simp only [List.range, List.range.loop, List.mapM_cons, List.mapM_nil, Option.bind_eq_bind, Option.pure_def, Option.bind_eq_some_iff, Option.some.injEq] at h
    obtain ⟨c0, h0, r0, ⟨c1, h1, r1, hr1, rfl⟩, rfl⟩ := h
    subst hr1
    exact ⟨c0, c1, rfl, h0, h1⟩
  · cases h
theorem open_SnsV {t e tn ts ti : TypeId} {f0 f1 : Field} {fuel : Nat} {v : Value} {x : DataW H × List MemPlace} (ht : P.underlying t = some (.slice e)) (he : P.underlying e = some (.struct #[f0, f1]))
    (hs : P.underlying ts = some .string) (hn : P.underlying tn = some (.slice ti)) (hi : P.underlying ti = some (.int .i64)) (e0 : f0.type = ts ∧ f0.offset = 0) (e1 : f1.type = tn ∧ f1.offset = 1)
    (cs : P.cellsOf ts = 1) (cn : P.cellsOf tn = 1) (ci : P.cellsOf ti = 1) (ce : P.cellsOf e = 2)
    (h : DataW.trod enc P w base spare held fuel t [v] = some x) : ∃ ao cap xs, v = .slice ao xs.length cap ∧ xs.length ≤ maxLen ∧ Sns w ao xs := by
  rcases open_slice ht h with ⟨hcs, _⟩ | ⟨a, len, cap, m, n, D, Pl, hcs, _, hl, hmx, hm, _, hel⟩
  · simp only [List.cons.injEq, and_true] at hcs
    subst hcs
    exact ⟨none, 0, [], rfl, Nat.zero_le _, fun i hi => absurd hi (Nat.not_lt_zero _)⟩
  · simp only [List.cons.injEq, and_true] at hcs
    subst hcs
    have hlm : len ≤ m := by rw [hm]; split <;> omega
    have each : ∀ i, i < len → ∃ y : Snp, ∃ tq tc, w.cell? ((a.add (i * 2)).add 0) = some (.string y.name) ∧ w.cell? ((a.add (i * 2)).add 1) = some (.slice tq y.table.length tc) ∧ Is w tq y.table ∧ y.name.size ≤ maxLen ∧ y.table.length ≤ maxLen := by
      intro i hi'
      obtain ⟨cs', hc, hd⟩ := hel i (by omega)
      rw [ce] at hc
      obtain ⟨c0, c1, rfl, k0, k1⟩ := cells2I hc
      obtain ⟨y0, y1, n', _, _, t0, t1⟩ := trod_struct2 he hd
      rw [e0.1, e0.2, cs] at t0
      rw [e1.1, e1.2, cn] at t1
      obtain ⟨z0, q0, _, hz⟩ := DataW.trod_string hs t0
      simp only [List.drop_zero, List.take_succ_cons, List.take_zero, List.drop_succ_cons] at t1
      obtain ⟨ao, cap', xs, rfl, hxl, hxs⟩ := open_IsV hn hi ci t1
      simp at q0
      subst q0
      exact ⟨⟨z0, xs⟩, ao, cap', k0, k1, hxs, hz, hxl⟩
    haveI : Inhabited Snp := ⟨⟨⟨#[]⟩, []⟩⟩
    obtain ⟨f, hf⟩ := choose_lt (α := Snp) each
    have htl : ((List.range len).map f).length = len := by simp
    refine ⟨some a, cap, (List.range len).map f, by rw [htl], by omega, fun i hi' => ?_⟩
    have hi2 : i < len := by omega
    have h0 : a.spot = none := by
      obtain ⟨_, _, g0, _⟩ := hf 0 (by omega)
      have := World.cell?_spot g0
      simpa [Addr.add] using this
    obtain ⟨tq, tc, g0, g1, g2, g3, g4⟩ := hf i hi2
    have hg : ((List.range len).map f)[i] = f i := by simp
    have hsp : (a.add (i * 2)).spot = none := by rw [add_im h0]
    rw [add_im hsp, add_im h0] at g0 g1
    refine ⟨a.block, a.off, tq, tc, ?_, ?_, ?_, ?_, ?_, ?_⟩
    · cases a; simp_all
    · rw [hg]; exact g0
    · rw [hg]; exact g1
    · rw [hg]; exact g2
    · rw [hg]; exact g3
    · rw [hg]; exact g4
end
theorem cIntI : Tryz.prog.cellsOf 3 = 1 := by kernel_rfl
theorem cStrI : Tryz.prog.cellsOf 9 = 1 := by kernel_rfl
theorem cIntsI : Tryz.prog.cellsOf 22 = 1 := by kernel_rfl
theorem cSnapI : Tryz.prog.cellsOf 81 = 2 := by kernel_rfl
theorem cImgI : Tryz.prog.cellsOf 25 = 4 := by kernel_rfl

theorem open_image {H : Type} {enc : TypeId × Value → H} {w : World} {base b0 : Nat} {r : Reach} {spare : Nat → Bool} {held : Bool} {v : Value} {d : DataW H} {p : List MemPlace}
    (hv : Value.okWide Tryz.prog w r b0 25 v) (h : DataW.Trod enc Tryz.prog w base spare held 25 v d p) :
    ∃ (a : Im4) (m : Img), v = imV a m ∧ (m.refs.length ≤ maxLen ∧ m.table.length ≤ maxLen ∧ m.snaps.length ≤ maxLen ∧ m.data.length ≤ maxLen) ∧ ImS w a m := by
  obtain ⟨c0, c1, c2, c3, y0, y1, y2, y3, n, rfl, _, _, t0, t1, t2, t3⟩ := Joins.open_agg4 Tryz.underlying25 (by kernel_rfl) cImgI hv h
  obtain ⟨ro, rc, rs, rfl, lr, hr⟩ := open_IsV Tryz.underlying22 Tryz.underlying3 cIntI t0
  obtain ⟨tq, tc, tt, rfl, lt, ht⟩ := open_IsV Tryz.underlying22 Tryz.underlying3 cIntI t1
  obtain ⟨so, sc, ss, rfl, ls, hs⟩ := open_SnsV Tryz.underlying23 Tryz.underlying81 Tryz.underlying9 Tryz.underlying22 Tryz.underlying3 ⟨rfl, rfl⟩ ⟨rfl, rfl⟩ cStrI cIntsI cIntI cSnapI t2
  obtain ⟨dq, dc, ds, rfl, ld, hd⟩ := open_IsV Tryz.underlying22 Tryz.underlying3 cIntI t3
  exact ⟨⟨ro, rc, tq, tc, so, sc, dq, dc⟩, ⟨rs, tt, ss, ds⟩, rfl, ⟨lr, lt, ls, ld⟩, ⟨hr, ht, hs, hd⟩⟩

end Go.Proofs.YtpdpnepnfhbonaaGreat

namespace Go.Proofs.YtpdpnepnfhbonaaGreat
open Go.RowKit
set_option linter.unusedVariables false
set_option maxRecDepth 100000

structure Rq where
  k : Int
  g : Int
  v : Int
  n : ByteArray
abbrev noB : ByteArray := ⟨#[]⟩
abbrev qV (q : Rq) : Value := .agg #[.int .i64 q.k, .int .i64 q.g, .int .i64 q.v, .string q.n]
def plR (q : Rq) : Rq :=
  if q.k = 1 then ⟨1, q.g, 0, noB⟩ else if q.k = 2 then ⟨2, q.g, q.v, noB⟩ else if q.k = 3 then ⟨3, q.g, 0, noB⟩ else if q.k = 4 then ⟨4, q.g, 0, noB⟩
  else if q.k = 5 then ⟨5, 0, 0, q.n⟩ else if q.k = 6 then ⟨6, 0, 0, q.n⟩ else if q.k = 7 then ⟨7, 0, 0, q.n⟩ else ⟨8, 0, 0, noB⟩
def noN (n : ByteArray) : Bool := n.toList.isEmpty
def useB (q : Rq) : Bool :=
  if q.k = 1 ∨ q.k = 3 ∨ q.k = 4 then q.v == 0 && noN q.n
  else if q.k = 2 then noN q.n
  else if q.k = 8 then q.g == 0 && q.v == 0 && noN q.n
  else q.g == 0 && q.v == 0
def rqB (q : Rq) : Bool := betw q.k 1 8 && decide (q.n.size ≤ 65536) && useB q
def eqR (a b : Rq) : Bool := a.k == b.k && (a.g == b.g && (a.v == b.v && a.n.toList == b.n.toList))
theorem rq_k (q : Rq) : q.k = 1 ∨ q.k = 2 ∨ q.k = 3 ∨ q.k = 4 ∨ q.k = 5 ∨ q.k = 6 ∨ q.k = 7 ∨ q.k = 8 ∨ (betw q.k 1 8 = false ∧ ¬ q.k = 1 ∧ ¬ q.k = 2 ∧ ¬ q.k = 3 ∧ ¬ q.k = 4 ∧ ¬ q.k = 5 ∧ ¬ q.k = 6 ∧ ¬ q.k = 7 ∧ ¬ q.k = 8) := by
  by_cases h : 1 ≤ q.k ∧ q.k ≤ 8
  · omega
  · refine .inr (.inr (.inr (.inr (.inr (.inr (.inr (.inr ⟨?_, by omega, by omega, by omega, by omega, by omega, by omega, by omega, by omega⟩)))))))
    cases hb : betw q.k 1 8 with
    | false => rfl
    | true => exact absurd (betw_iff.1 hb) h
theorem noB_list : noB.toList = [] := by rw [ByteArray.toList_eq]
theorem noN_eq (n : ByteArray) : (noB.toList == n.toList) = noN n := by
  unfold noN
  rw [noB_list]
  cases n.toList with
  | nil => rfl
  | cons a b => rfl
theorem zer_eq (x : Int) : ((0 : Int) == x) = (x == 0) := BEq.comm
theorem rq_plain1 (g v : Int) (n : ByteArray) (k : Int) (hk : k = 1 ∨ k = 3 ∨ k = 4) : eqR (plR ⟨k, g, v, n⟩) ⟨k, g, v, n⟩ = (v == 0 && noN n) := by
  rcases hk with rfl | rfl | rfl
  all_goals
    show (_ == _ && (g == g && (((0 : Int) == v) && (noB.toList == n.toList)))) = _
    rw [zer_eq, noN_eq, beq_self_eq_true]; rfl
theorem rq_plain5 (g v : Int) (n : ByteArray) (k : Int) (hk : k = 5 ∨ k = 6 ∨ k = 7) : eqR (plR ⟨k, g, v, n⟩) ⟨k, g, v, n⟩ = (g == 0 && v == 0) := by
  rcases hk with rfl | rfl | rfl
  all_goals
    show (_ == _ && (((0 : Int) == g) && (((0 : Int) == v) && (n.toList == n.toList)))) = _
    rw [zer_eq, zer_eq, beq_self_eq_true, Bool.and_true]; rfl
theorem rq_plain (q : Rq) : (decide (q.n.size ≤ 65536) && eqR (plR q) q) = rqB q := by
  obtain ⟨k, g, v, n⟩ := q
  unfold rqB
  show (decide (n.size ≤ 65536) && _) = (betw k 1 8 && decide (n.size ≤ 65536) && _)
  generalize decide (n.size ≤ 65536) = D
  rcases rq_k ⟨k, g, v, n⟩ with h | h | h | h | h | h | h | h | ⟨hb, h1, h2, h3, h4, h5, h6, h7, h8⟩
  · replace h : k = 1 := h
    rw [rq_plain1 g v n k (by omega)]; subst h; rfl
  · replace h : k = 2 := h
    subst h
    show (D && (_ == _ && (g == g && (v == v && (noB.toList == n.toList))))) = (_ && D && noN n)
    rw [noN_eq, beq_self_eq_true, beq_self_eq_true]; rfl
  · replace h : k = 3 := h
    rw [rq_plain1 g v n k (by omega)]; subst h; rfl
  · replace h : k = 4 := h
    rw [rq_plain1 g v n k (by omega)]; subst h; rfl
  · replace h : k = 5 := h
    rw [rq_plain5 g v n k (by omega)]; subst h; rfl
  · replace h : k = 6 := h
    rw [rq_plain5 g v n k (by omega)]; subst h; rfl
  · replace h : k = 7 := h
    rw [rq_plain5 g v n k (by omega)]; subst h; rfl
  · replace h : k = 8 := h
    subst h
    show (D && (_ == _ && (((0 : Int) == g) && (((0 : Int) == v) && (noB.toList == n.toList))))) = (_ && D && (g == 0 && v == 0 && noN n))
    rw [noN_eq, zer_eq, zer_eq, Bool.and_assoc, Bool.and_assoc (g == 0)]; rfl
  · replace hb : betw k 1 8 = false := hb
    rw [hb]
    have e : eqR (plR ⟨k, g, v, n⟩) ⟨k, g, v, n⟩ = false := by
      simp only [plR, if_neg h1, if_neg h2, if_neg h3, if_neg h4, if_neg h5, if_neg h6, if_neg h7, eqR]
      rw [beq_eq_false_iff_ne.2 (fun e => h8 e.symm)]; rfl
    rw [e]; cases D <;> rfl

end Go.Proofs.YtpdpnepnfhbonaaGreat

namespace Go.Proofs.YtpdpnepnfhbonaaGreat
open Go.ChangeShapes Go.WideShapes Go.ChangeAt Go.RowKit Go.Deep
set_option linter.unusedVariables false
set_option maxRecDepth 100000
theorem open_req {H : Type} {enc : TypeId × Value → H} {w : World} {base b0 : Nat} {r : Reach} {spare : Nat → Bool} {held : Bool} {v : Value} {d : DataW H} {p : List MemPlace}
    (hv : Value.okWide Tryz.prog w r b0 42 v) (h : DataW.Trod enc Tryz.prog w base spare held 42 v d p) : ∃ q : Rq, v = qV q ∧ q.n.size ≤ maxLen := by
  obtain ⟨c0, c1, c2, c3, y0, y1, y2, y3, n, rfl, _, _, t0, t1, t2, t3⟩ := Joins.open_agg4 Tryz.underlying42 (by kernel_rfl) (by kernel_rfl) hv h
  obtain ⟨z0, q0, _⟩ := DataW.trod_int Tryz.underlying3 t0
  obtain ⟨z1, q1, _⟩ := DataW.trod_int Tryz.underlying3 t1
  obtain ⟨z2, q2, _⟩ := DataW.trod_int Tryz.underlying3 t2
  obtain ⟨z3, q3, _, hz⟩ := DataW.trod_string Tryz.underlying9 t3
  simp only [List.cons.injEq, and_true] at q0 q1 q2 q3
  subst q0 q1 q2 q3
  exact ⟨⟨z0, z1, z2, z3⟩, rfl, hz⟩

end Go.Proofs.YtpdpnepnfhbonaaGreat

namespace Go.Proofs.YtpdpnepnfhbonaaGreat
open Go.RowKit
set_option linter.unusedVariables false
set_option maxRecDepth 100000

structure OwnA (w : World) (B : Nat) (rs : List (Value × List Int)) : Prop where
  own : ∀ r ∈ rs, OwnN w B r.1 r.2
  apart : rs.Pairwise (fun a b => ∀ g, Own a.1 g → ¬ Own b.1 g)
theorem OwnN.ge {w : World} {B : Nat} {v : Value} {xs : List Int} (h : OwnN w B v xs) : ∀ k, Own v k → B ≤ k ∧ k < w.heap.size := by
  obtain ⟨ao, cap, rfl, ho⟩ := h
  exact ho.ge
theorem OwnN.keep {S : Nat → Prop} {w w' : World} {B : Nat} {v : Value} {xs : List Int} (h : OwnN w B v xs) (hk : Keep S w w') (hs : ∀ g, Own v g → ¬ S g) : OwnN w' B v xs := by
  obtain ⟨ao, cap, rfl, ho⟩ := h
  exact ⟨ao, cap, rfl, ho.keep hk hs⟩
theorem OwnA.below {w w' : World} {B : Nat} {rs : List (Value × List Int)} (h : OwnA w B rs) (hb : Below w.heap.size w w') : OwnA w' B rs := ⟨fun r hr => (h.own r hr).below hb, h.apart⟩
theorem OwnA.keep {S : Nat → Prop} {w w' : World} {B : Nat} {rs : List (Value × List Int)} (h : OwnA w B rs) (hk : Keep S w w') (hs : ∀ r ∈ rs, ∀ g, Own r.1 g → ¬ S g) : OwnA w' B rs := ⟨fun r hr => (h.own r hr).keep hk (hs r hr), h.apart⟩
theorem OwnA.base {w : World} {B B' : Nat} {rs : List (Value × List Int)} (h : OwnA w B rs) (hB : B' ≤ B) : OwnA w B' rs := ⟨fun r hr => (h.own r hr).base hB, h.apart⟩
theorem OwnA.nil (w : World) (B : Nat) : OwnA w B [] := ⟨fun _ h => (by cases h), List.Pairwise.nil⟩
theorem OwnA.snoc {w w' : World} {B : Nat} {rs : List (Value × List Int)} {v : Value} {xs : List Int} (h : OwnA w B rs) (hb : Below w.heap.size w w') (hv : OwnN w' w.heap.size v xs) (hB : B ≤ w.heap.size) : OwnA w' B (rs ++ [(v, xs)]) := by
  refine ⟨fun r hr => ?_, ?_⟩
  · rcases List.mem_append.1 hr with h1 | h1
    · exact (h.own r h1).below hb
    · rw [List.mem_singleton] at h1
      subst h1
      exact hv.base hB
  · rw [List.pairwise_append]
    refine ⟨h.apart, List.pairwise_singleton _ _, fun a ha b hb' g hg hg' => ?_⟩
    rw [List.mem_singleton] at hb'
    subst hb'
    have h1 := ((h.own a ha).ge g hg).2
    have h2 := (hv.ge g hg').1
    omega
def snC : List Snp → List Value → List Value
  | s :: ss, t :: ts => .string s.name :: t :: snC ss ts
  | _, _ => []
theorem snC_length : ∀ (ss : List Snp) (ts : List Value), ss.length = ts.length → (snC ss ts).length = ss.length * 2
  | [], [], _ => rfl
  | s :: ss, t :: ts, h => by
    have := snC_length ss ts (by simpa using h)
    simp only [snC, List.length_cons, this]; omega
theorem snC_snoc : ∀ (ss : List Snp) (ts : List Value) (s : Snp) (t : Value), ss.length = ts.length → snC (ss ++ [s]) (ts ++ [t]) = snC ss ts ++ [.string s.name, t]
  | [], [], s, t, _ => rfl
  | a :: ss, b :: ts, s, t, h => by
    have := snC_snoc ss ts s t (by simpa using h)
    simp only [List.cons_append, snC, this]
def imRows (a : Im4) (m : Img) (ts : List Value) : List (Value × List Int) := (.slice a.ro m.refs.length a.rc, m.refs) :: (.slice a.tq m.table.length a.tc, m.table) :: (.slice a.dq m.data.length a.dc, m.data) :: ts.zip (m.snaps.map (·.table))
def OwnS (w : World) (B e size : Nat) (v : Value) (n : Nat) (xs : List Value) : Prop := (n = 0 ∧ xs = [] ∧ ∃ ao c, v = .slice ao 0 c) ∨ (0 < n ∧ w.ownsRow B e size v n xs)
theorem OwnR.toS {w : World} {B e size n : Nat} {v : Value} {xs : List Value} (h : OwnR w B e size v n xs) : OwnS w B e size v n xs := h.imp (fun ⟨h1, h2, ao, h3⟩ => ⟨h1, h2, ao, 0, h3⟩) id
theorem OwnS.toR {w : World} {B e size n c : Nat} {ao : Option Addr} {xs : List Value} (h : OwnS w B e size (.slice ao n c) n xs) (hc : n = 0 → c = 0) : OwnR w B e size (.slice ao n c) n xs := h.imp (fun ⟨h1, h2, _⟩ => ⟨h1, h2, ao, by rw [h1, hc h1]⟩) id
theorem OwnS.as {w : World} {B e size n : Nat} {v : Value} {xs : List Value} (h : OwnS w B e size v n xs) : ∃ v', OwnR w B e size v' n xs ∧ (∀ k, Own v k ↔ Own v' k) := by
  rcases h with ⟨h1, h2, ao, c, rfl⟩ | h
  · exact ⟨.slice ao 0 0, .inl ⟨h1, h2, ao, rfl⟩, fun k => ⟨fun hk => absurd hk own_no, fun hk => absurd hk own_no⟩⟩
  · exact ⟨v, .inr h, fun _ => Iff.rfl⟩
theorem OwnS.keep {S : Nat → Prop} {w w' : World} {B e size n : Nat} {v : Value} {xs : List Value} (h : OwnS w B e size v n xs) (hk : Keep S w w') (hs : ∀ g, Own v g → ¬ S g) : OwnS w' B e size v n xs := by
  rcases h with h | h
  · exact .inl h
  · exact (OwnR.keep (.inr h) hk hs).toS
theorem OwnS.below {w w' : World} {B e size n : Nat} {v : Value} {xs : List Value} (h : OwnS w B e size v n xs) (hb : Below w.heap.size w w') : OwnS w' B e size v n xs :=
  h.keep (S := fun _ => False) (Keep.of_below hb) (fun _ _ h => h)
theorem OwnS.base {w : World} {B B' e size n : Nat} {v : Value} {xs : List Value} (h : OwnS w B e size v n xs) (hB : B' ≤ B) : OwnS w B' e size v n xs := by
  rcases h with h | h
  · exact .inl h
  · exact (OwnR.base (.inr h) hB).toS
theorem OwnS.ge {w : World} {B e size n : Nat} {v : Value} {xs : List Value} (h : OwnS w B e size v n xs) : ∀ k, Own v k → B ≤ k ∧ k < w.heap.size := fun k hk => by
  obtain ⟨v', h1, h2⟩ := h.as
  exact h1.ge k ((h2 k).1 hk)
theorem OwnS.other {w : World} {B e size n : Nat} {v : Value} {xs : List Value} (h : OwnS w B e size v n xs) {x t : Nat} {c : Array Value} {f : Nat × Nat} (hx : w.heap[x]? = some (.cells c t f)) (he : t ≠ e) : ¬ Own v x := fun hk => by
  obtain ⟨v', h1, h2⟩ := h.as
  exact h1.other hx he ((h2 x).1 hk)
theorem OwnS.setCell {w : World} {B e size n : Nat} {v : Value} {xs : List Value} (h : OwnS w B e size v n xs) {a : Addr} (ha : a.block < B) (u : Value) : OwnS (w.setCell a u) B e size v n xs := by
  rcases h with h | h
  · exact .inl h
  · exact (OwnR.setCell (.inr h) ha u).toS
theorem OwnS.row {w : World} {B e size n : Nat} {v : Value} {xs : List Value} (h : OwnS w B e size v n xs) (h0 : 0 < n) : w.ownsRow B e size v n xs := by
  rcases h with ⟨h1, _⟩ | h
  · omega
  · exact h.2
theorem own_apartS {w : World} {B B' e e' size size' n n' : Nat} {v v' : Value} {xs xs' : List Value} (h : OwnR w B e size v n xs) (h' : OwnS w B' e' size' v' n' xs') (he : e ≠ e') : ∀ g, Own v g → ¬ Own v' g := fun g hg hg' => by
  obtain ⟨v2, h1, h2⟩ := h'.as
  exact own_apart h h1 he g hg ((h2 g).1 hg')
theorem own_apartT {w : World} {B B' e e' size size' n n' : Nat} {v v' : Value} {xs xs' : List Value} (h : OwnS w B e size v n xs) (h' : OwnR w B' e' size' v' n' xs') (he : e ≠ e') : ∀ g, Own v g → ¬ Own v' g := fun g hg hg' => by
  obtain ⟨v2, h1, h2⟩ := h.as
  exact own_apart h1 h' he g ((h2 g).1 hg) hg'
structure OwnIm (w : World) (B : Nat) (a : Im4) (m : Img) (ts : List Value) : Prop where
  len : m.snaps.length = ts.length
  s : OwnS w B 83 2 (.slice a.so m.snaps.length a.sc) m.snaps.length (snC m.snaps ts)
  rows : OwnA w B (imRows a m ts)
def OwnF (w : World) (B : Nat) (a : Im4) (m : Img) (ts : List Value) : Prop := OwnIm w B a m ts ∧ (m.snaps.length = 0 → a.sc = 0)
theorem OwnR.cap0 {w : World} {B e size n c : Nat} {ao : Option Addr} {xs : List Value} (h : OwnR w B e size (.slice ao n c) n xs) (h0 : n = 0) : c = 0 := by
  rcases h with ⟨_, _, ao', e0⟩ | ⟨hp, _⟩
  · simp only [Value.slice.injEq] at e0
    exact e0.2.2
  · omega
theorem OwnIm.below {w w' : World} {B : Nat} {a : Im4} {m : Img} {ts : List Value} (h : OwnIm w B a m ts) (hb : Below w.heap.size w w') : OwnIm w' B a m ts := ⟨h.len, h.s.below hb, h.rows.below hb⟩

end Go.Proofs.YtpdpnepnfhbonaaGreat
