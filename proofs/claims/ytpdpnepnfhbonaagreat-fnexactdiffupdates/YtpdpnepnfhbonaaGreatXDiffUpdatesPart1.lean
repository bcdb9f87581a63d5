import Derived.WalkKit
import Derived.ProofKit
import Derived.OpenShut
import Derived.ShutString
import Derived.WalkSpells
import Derived.SliceStrings
import Derived.Lib.SmallJoins
import Derived.Test.YtpdpnepnfhbonaaGreatRows
import Derived.Laws.OwnMore
import Derived.Laws.BytesArg
import Derived.KernelRfl
import Derived.Laws.BitsLemmas
import Derived.Lib.EndianBits
import Derived.Deep.RegionLawGrows
import Derived.Deep.RegionWith

namespace Go.Proofs.YtpdpnepnfhbonaaGreat
open Go.RowKit

theorem hide {p : Prop} (h : p) : Hid p := h
theorem unhide {p : Prop} (h : Hid p) : p := h

structure Wr where
  host : Int
  at_ : Int
  data : ByteArray

theorem fr {a b c : World} (h : Below a.heap.size a b) (k : Below b.heap.size b c) : Below a.heap.size a c := h.trans (k.mono h.size)

theorem set_take {α : Type} {xs ys : List α} {k : Nat} (hl : xs.length = ys.length) (hk : k < ys.length) (h : xs.take k = ys.take k) : (xs.set k ys[k]).take (k + 1) = ys.take (k + 1) := by
  apply List.ext_getElem?
  intro i
  have hi := congrArg (fun l => l[i]?) h
  simp only [List.getElem?_take, List.getElem?_set] at hi ⊢
  by_cases h1 : i < k
  · simp only [h1, if_true] at hi
    rw [if_pos (by omega), if_neg (by omega), if_pos (by omega)]
    exact hi
  · by_cases h2 : i = k
    · subst h2
      simp [hl, hk]
    · simp [show ¬ i < k + 1 by omega]

theorem set_take' {α : Type} {xs ys : List α} {k : Nat} {v : α} (hl : xs.length = ys.length) (hv : ys[k]? = some v) (h : xs.take k = ys.take k) : (xs.set k v).take (k + 1) = ys.take (k + 1) := by
  obtain ⟨hk, rfl⟩ := List.getElem?_eq_some_iff.1 hv
  exact set_take hl hk h

theorem own_below {w w' : World} {B e size n : Nat} {v : Value} {xs : List Value} (h : w.ownsRow B e size v n xs) (hb : Below w.heap.size w w') : w'.ownsRow B e size v n xs := by
  refine ⟨h.1, ?_⟩
  rcases h.2 with ⟨rfl, h0⟩ | ⟨g, cap, cur, rfl, hB, hg, hnc, hcm, hcs, ht⟩
  · exact .inl ⟨rfl, h0⟩
  · refine .inr ⟨g, cap, cur, rfl, hB, ?_, hnc, hcm, hcs, ht⟩
    rw [hb.block g (Array.getElem?_eq_some_iff.1 hg).1]; exact hg

theorem own_base {w : World} {B B' e size n : Nat} {v : Value} {xs : List Value} (h : w.ownsRow B e size v n xs) (hB : B' ≤ B) : w.ownsRow B' e size v n xs := by
  refine ⟨h.1, ?_⟩
  rcases h.2 with h0 | ⟨g, cap, cur, e0, hb, rest⟩
  · exact .inl h0
  · exact .inr ⟨g, cap, cur, e0, by omega, rest⟩

theorem eq_succ {α : Type} {xs ys : List α} {k : Nat} (hk : k < xs.length) (hk' : k < ys.length) (h : ∀ j (h : j < xs.length) (h' : j < ys.length), j < k → xs[j] = ys[j]) (he : xs[k] = ys[k]) : ∀ j (h : j < xs.length) (h' : j < ys.length), j < k + 1 → xs[j] = ys[j] := by
  intro j h1 h2 hj
  by_cases e : j = k
  · subst e; exact he
  · exact h j h1 h2 (by omega)
theorem ret_bool {a b : Bool} (h : a = b) : Ending.returned (.bool a) = .returned (.bool b) := by rw [h]
theorem ret_int {a b : Int} (h : a = b) : Ending.returned (.int .i64 a) = .returned (.int .i64 b) := by rw [h]

theorem all_succ {α : Type} {p : α → Bool} {xs : List α} {k : Nat} (hk : k < xs.length) (h : ∀ i (hi : i < xs.length), i < k → p xs[i] = true) (hp : p xs[k] = true) : ∀ i (hi : i < xs.length), i < k + 1 → p xs[i] = true := by
  intro i hi hlt
  by_cases e : i = k
  · subst e; exact hp
  · exact h i hi (by omega)
theorem all_of {α : Type} {p : α → Bool} {xs : List α} (h : ∀ i (hi : i < xs.length), i < xs.length → p xs[i] = true) : xs.all p = true := by
  rw [List.all_eq_true]
  intro x hx
  obtain ⟨i, hi, rfl⟩ := List.mem_iff_getElem.1 hx
  exact h i hi hi
theorem all_not {α : Type} {p : α → Bool} {xs : List α} {k : Nat} (hk : k < xs.length) (hp : p xs[k] = false) : xs.all p = false := by
  cases h : xs.all p with
  | false => rfl
  | true =>
    rw [List.all_eq_true] at h
    rw [h _ (List.getElem_mem hk)] at hp; cases hp

theorem str_beq_false {a b : ByteArray} (h : a ≠ b) : (a.toList == b.toList) = false := by
  rw [beq_eq_false_iff_ne]
  intro e
  rw [ByteArray.toList_eq, ByteArray.toList_eq] at e
  apply h
  cases a; cases b
  simpa using Array.toList_inj.1 e

def inB (n low high : Int) : Bool := decide (low ≤ n) && decide (n ≤ high)
end Go.Proofs.YtpdpnepnfhbonaaGreat

namespace Go.Proofs.YtpdpnepnfhbonaaGreat
theorem own : ownKnob Tryz.prog.godebug = none := by kernel_rfl
theorem laidOut : laidOutB Tryz.prog = true := by kernel_rfl
end Go.Proofs.YtpdpnepnfhbonaaGreat

namespace Go.Proofs.YtpdpnepnfhbonaaGreat
open Go.RowKit
set_option linter.unusedVariables false

structure Keep (S : Nat → Prop) (w w' : World) : Prop where
  os : w'.os = w.os
  tape : w'.tape = w.tape
  output : w'.output = w.output
  size : w.heap.size ≤ w'.heap.size
  block : ∀ k, k < w.heap.size → ¬ S k → w'.heap[k]? = w.heap[k]?

theorem Keep.refl (S : Nat → Prop) (w : World) : Keep S w w := ⟨rfl, rfl, rfl, Nat.le_refl _, fun _ _ _ => rfl⟩
theorem Keep.trans {S : Nat → Prop} {a b c : World} (h : Keep S a b) (k : Keep S b c) : Keep S a c :=
  ⟨k.os.trans h.os, k.tape.trans h.tape, k.output.trans h.output, Nat.le_trans h.size k.size, fun i hi hs => (k.block i (Nat.lt_of_lt_of_le hi h.size) hs).trans (h.block i hi hs)⟩
theorem Keep.mono {S T : Nat → Prop} {a b : World} (h : Keep S a b) (hs : ∀ k, S k → T k) : Keep T a b :=
  ⟨h.os, h.tape, h.output, h.size, fun i hi ht => h.block i hi (fun hk => ht (hs i hk))⟩
theorem Keep.of_below {S : Nat → Prop} {a b : World} (h : Below a.heap.size a b) : Keep S a b := ⟨h.os, h.tape, h.output, h.size, fun i hi _ => h.block i hi⟩
theorem Keep.below {S : Nat → Prop} {a b : World} {B : Nat} (h : Keep S a b) (hB : B ≤ a.heap.size) (hs : ∀ k, S k → B ≤ k) : Below B a b :=
  ⟨h.os, h.tape, h.output, h.size, fun i hi => h.block i (by omega) (fun hk => by have := hs i hk; omega)⟩
theorem Keep.setCell {S : Nat → Prop} {a b : World} (h : Keep S a b) {p : Addr} (hp : S p.block) (v : Value) : Keep S a (b.setCell p v) :=
  ⟨h.os, h.tape, h.output, by simpa using h.size, fun i hi hs => by
    rw [Below.heap_setCell b p v i (fun e => hs (e ▸ hp))]; exact h.block i hi hs⟩

def OwnR (w : World) (B e size : Nat) (v : Value) (n : Nat) (xs : List Value) : Prop := (n = 0 ∧ xs = [] ∧ ∃ ao, v = .slice ao 0 0) ∨ (0 < n ∧ w.ownsRow B e size v n xs)
def Own (v : Value) (k : Nat) : Prop := ∃ a n c, v = .slice (some a) (n + 1) c ∧ a.block = k

theorem OwnR.of {w : World} {B e size n : Nat} {v : Value} {xs : List Value} (h : w.ownsRow B e size v n xs) (hv : n = 0 → ∃ ao, v = .slice ao 0 0) : OwnR w B e size v n xs := by
  rcases Nat.eq_zero_or_pos n with h0 | h0
  · have hx : xs = [] := List.eq_nil_of_length_eq_zero (by have := h.1; rw [h0] at this; omega)
    exact .inl ⟨h0, hx, hv h0⟩
  · exact .inr ⟨h0, h⟩
theorem OwnR.len {w : World} {B e size n : Nat} {v : Value} {xs : List Value} (h : OwnR w B e size v n xs) : xs.length = n * size := by
  rcases h with ⟨rfl, rfl, _⟩ | ⟨_, h⟩
  · simp
  · exact h.1
theorem own_form {w : World} {B e size n : Nat} {v : Value} {xs : List Value} (h0 : 0 < n) (h : w.ownsRow B e size v n xs) : ∃ g cap cur, v = .slice (some ⟨g, 0, none⟩) n cap ∧ B ≤ g ∧ w.heap[g]? = some (.cells cur e (0, 0)) := by
  rcases h.2 with ⟨rfl, e0⟩ | ⟨g, cap, cur, e0, hB, hg, _⟩
  · omega
  · exact ⟨g, cap, cur, e0, hB, hg⟩
theorem own_of {g n cap k : Nat} (h0 : 0 < n) (h : g = k) : Own (.slice (some ⟨g, 0, none⟩) n cap) k := ⟨⟨g, 0, none⟩, n - 1, cap, by rw [show n - 1 + 1 = n by omega], h⟩
theorem own_elim {g n cap k : Nat} (h : Own (.slice (some ⟨g, 0, none⟩) n cap) k) : g = k := by
  obtain ⟨a, m, c, e, hk⟩ := h
  simp only [Value.slice.injEq, Option.some.injEq] at e
  rw [← e.1] at hk; exact hk
theorem own_no {ao : Option Addr} {cap k : Nat} : ¬ Own (.slice ao 0 cap) k := by
  rintro ⟨a, m, c, e, _⟩
  simp at e
theorem OwnR.keep {S : Nat → Prop} {w w' : World} {B e size n : Nat} {v : Value} {xs : List Value} (h : OwnR w B e size v n xs) (hk : Keep S w w') (hs : ∀ g, Own v g → ¬ S g) : OwnR w' B e size v n xs := by
  rcases h with h | ⟨h0, h⟩
  · exact .inl h
  · refine .inr ⟨h0, h.1, ?_⟩
    rcases h.2 with ⟨rfl, e0⟩ | ⟨g, cap, cur, rfl, hB, hg, hnc, hcm, hcs, ht⟩
    · omega
    · refine .inr ⟨g, cap, cur, rfl, hB, ?_, hnc, hcm, hcs, ht⟩
      rw [hk.block g (Array.getElem?_eq_some_iff.1 hg).1 (hs g (own_of h0 rfl))]; exact hg
theorem OwnR.below {w w' : World} {B e size n : Nat} {v : Value} {xs : List Value} (h : OwnR w B e size v n xs) (hb : Below w.heap.size w w') : OwnR w' B e size v n xs :=
  h.keep (S := fun _ => False) (Keep.of_below hb) (fun _ _ h => h)
theorem OwnR.base {w : World} {B B' e size n : Nat} {v : Value} {xs : List Value} (h : OwnR w B e size v n xs) (hB : B' ≤ B) : OwnR w B' e size v n xs := by
  rcases h with h | ⟨h0, h⟩
  · exact .inl h
  · exact .inr ⟨h0, own_base h hB⟩
theorem OwnR.ge {w : World} {B e size n : Nat} {v : Value} {xs : List Value} (h : OwnR w B e size v n xs) : ∀ k, Own v k → B ≤ k ∧ k < w.heap.size := by
  intro k hk
  rcases h with ⟨_, _, ao, rfl⟩ | ⟨h0, h⟩
  · exact absurd hk own_no
  · obtain ⟨g, cap, cur, rfl, hB, hg⟩ := own_form h0 h
    cases own_elim hk
    exact ⟨hB, (Array.getElem?_eq_some_iff.1 hg).1⟩
theorem OwnR.other {w : World} {B e size n : Nat} {v : Value} {xs : List Value} (h : OwnR w B e size v n xs) {x t : Nat} {c : Array Value} {f : Nat × Nat} (hx : w.heap[x]? = some (.cells c t f)) (he : t ≠ e) : ¬ Own v x := by
  intro hk
  rcases h with ⟨_, _, ao, rfl⟩ | ⟨h0, h⟩
  · exact own_no hk
  · obtain ⟨g, cap, cur, rfl, hB, hg⟩ := own_form h0 h
    cases own_elim hk
    rw [hx] at hg; simp at hg; exact he hg.2.1
theorem own_apart {w : World} {B B' e e' size size' n n' : Nat} {v v' : Value} {xs xs' : List Value} (h : OwnR w B e size v n xs) (h' : OwnR w B' e' size' v' n' xs') (he : e ≠ e') : ∀ g, Own v g → ¬ Own v' g := by
  intro g hg hg'
  rcases h with ⟨_, _, ao, rfl⟩ | ⟨h0, h⟩
  · exact own_no hg
  · obtain ⟨g1, cap, cur, rfl, hB, hh⟩ := own_form h0 h
    cases own_elim hg
    exact h'.other hh he hg'
theorem OwnR.setCell {w : World} {B e size n : Nat} {v : Value} {xs : List Value} (h : OwnR w B e size v n xs) {a : Addr} (ha : a.block < B) (u : Value) : OwnR (w.setCell a u) B e size v n xs := by
  rcases h with h | ⟨h0, h⟩
  · exact .inl h
  · exact .inr ⟨h0, ownsRow_setCell_below h ha u⟩

end Go.Proofs.YtpdpnepnfhbonaaGreat

namespace Go.Proofs.YtpdpnepnfhbonaaGreat
open Go.RowKit

def byteAt (s : ByteArray) (k : Nat) : Int := ((s.data[k]?.getD 0).toNat : Int)
theorem byteAt_get {s : ByteArray} {k : Nat} (h : k < s.size) : byteAt s k = (s[k].toNat : Int) := by
  have h' : k < s.data.size := h
  simp [byteAt, Array.getElem?_eq_getElem h']
  rfl
theorem byte_le (b : UInt8) : (b.toNat : Int) ≤ 255 := by have := b.toNat_lt; omega

def sumTo (s : ByteArray) : Nat → Int
  | 0 => 0
  | k + 1 => (sumTo s k + (k + 1) * (byteAt s k + 1)) % 251
theorem sumTo_in (s : ByteArray) (k : Nat) : 0 ≤ sumTo s k ∧ sumTo s k ≤ 250 := by
  cases k with
  | zero => simp [sumTo]
  | succ k => simp only [sumTo]; omega
def sumS (s : ByteArray) : Int := sumTo s s.size
def sumC (s : ByteArray) : Int := if s.size ≤ 65536 then sumS s else 0
theorem sumC_long {s : ByteArray} (h : 65536 < s.size) : sumC s = 0 := if_neg (by omega)
theorem sumC_short {s : ByteArray} (h : s.size ≤ 65536) : sumC s = sumS s := if_pos h

theorem prod_le {k : Nat} (hk : k ≤ 1048576) (b : UInt8) : 0 ≤ ((k : Int) + 1) * ((b.toNat : Int) + 1) ∧ ((k : Int) + 1) * ((b.toNat : Int) + 1) ≤ 268435712 := by
  have h1 := byte_le b
  have h2 : ((k : Int) + 1) * ((b.toNat : Int) + 1) ≤ ((k : Int) + 1) * 256 := Int.mul_le_mul_of_nonneg_left (by omega) (by omega)
  exact ⟨Int.mul_nonneg (by omega) (by omega), by omega⟩
theorem sumTo_succ {s : ByteArray} {k : Nat} (h : k < s.size) (hk : k ≤ 1048576) : (sumTo s k + ((k : Int) + 1) * ((s[k].toNat : Int) + 1)).tmod 251 = sumTo s (k + 1) := by
  have h1 := sumTo_in s k
  have h2 := prod_le hk s[k]
  rw [Int.tmod_eq_emod_of_nonneg (by omega), sumTo, byteAt_get h]
theorem wrap_id {x : Int} (h : -9223372036854775808 ≤ x) (h' : x ≤ 9223372036854775807) : wrap64 x = x := by simp only [wrap64]; omega
theorem sumTo_walk {s : ByteArray} {k : Nat} (h : k < s.size) (hk : k ≤ 1048576) : (wrap64 (sumTo s k + wrap64 (((k : Int) + 1) * wrap64 (wrap64 (s[k].toNat : Int) + 1)))).tmod 251 = sumTo s (k + 1) := by
  have h1 := sumTo_in s k
  have h2 := prod_le hk s[k]
  have h3 := byte_le s[k]
  rw [wrap_id (x := (s[k].toNat : Int)) (by omega) (by omega), wrap_id (x := (s[k].toNat : Int) + 1) (by omega) (by omega), wrap_id (x := ((k : Int) + 1) * ((s[k].toNat : Int) + 1)) (by omega) (by omega), wrap_id (by omega) (by omega)]
  exact sumTo_succ h hk

end Go.Proofs.YtpdpnepnfhbonaaGreat

namespace Go.Proofs.YtpdpnepnfhbonaaGreat
open Go.RowKit

def Is (w : World) (ao : Option Addr) (xs : List Int) : Prop := ∀ i (h : i < xs.length), ∃ b off, ao = some ⟨b, off, none⟩ ∧ w.cell? ⟨b, off + i, none⟩ = some (.int .i64 xs[i])
theorem Is.below {w w' : World} {ao : Option Addr} {xs : List Int} (h : Is w ao xs) (hb : Below w.heap.size w w') : Is w' ao xs := fun i hi => by
  obtain ⟨b, off, e, hc⟩ := h i hi
  exact ⟨b, off, e, (hb.cell (p := ⟨b, off + i, none⟩) (World.block_lt_of_cell? _ _ hc)).trans hc⟩
def intV (xs : List Int) : List Value := xs.map (Value.int .i64)
theorem intV_length (xs : List Int) : (intV xs).length = xs.length := by simp [intV]
theorem intV_get {xs : List Int} {i : Nat} (h : i < xs.length) : (intV xs)[i]? = some (.int .i64 xs[i]) := by simp [intV, h]
theorem intV_snoc (xs : List Int) (n : Int) : intV (xs ++ [n]) = intV xs ++ [.int .i64 n] := by simp [intV]
theorem ownN {w : World} {B e cap : Nat} {ao : Option Addr} {xs : List Int} (h : w.ownsRow B e 1 (.slice ao xs.length cap) xs.length (intV xs)) : Is w ao xs := by
  rcases h.2 with ⟨hv, h0⟩ | ⟨g, cap', cur, hv, hb, hg, hnc, hcm, hcs, ht⟩
  · intro i hi
    omega
  · simp only [Value.slice.injEq, true_and] at hv
    obtain ⟨rfl, rfl⟩ := hv
    intro i hi
    refine ⟨g, 0, rfl, ?_⟩
    rw [Nat.zero_add, h.cellAt i (by omega), intV_get hi]
theorem ownRN {w : World} {B e cap : Nat} {ao : Option Addr} {xs : List Int} (h : OwnR w B e 1 (.slice ao xs.length cap) xs.length (intV xs)) : Is w ao xs := by
  rcases h with ⟨h0, _⟩ | ⟨_, h⟩
  · intro i hi; omega
  · exact ownN h

def eqNB (xs ys : List Int) : Bool := decide (xs = ys)
theorem eqNB_self (xs : List Int) : eqNB xs xs = true := by simp [eqNB]
theorem eqNB_true {ss tt : List Int} (hl : ss.length = tt.length) (h : ∀ j (h : j < ss.length) (h' : j < tt.length), ss[j] = tt[j]) : eqNB ss tt = true := decide_eq_true (List.ext_getElem hl h)
theorem eqNB_false_len {ss tt : List Int} (hl : ¬ ss.length = tt.length) : eqNB ss tt = false := decide_eq_false fun h => hl (by rw [h])
theorem eqNB_false {ss tt : List Int} {k : Nat} (hk : k < ss.length) (hk' : k < tt.length) (h : ss[k] ≠ tt[k]) : eqNB ss tt = false := decide_eq_false fun e => by subst e; exact h rfl

def numB (n : Int) : Bool := inB n 0 2147483647
def allB (xs : List Int) : Bool := xs.all numB
def intsB (xs : List Int) : Bool := allB xs && decide (xs.length ≤ 16)
theorem allB_true {xs : List Int} (ha : ∀ j (h : j < xs.length), numB xs[j] = true) : allB xs = true := all_of (p := numB) (fun i hi _ => ha i hi)
theorem intsB_len {xs : List Int} (ha : ∀ j (h : j < xs.length), numB xs[j] = true) : intsB xs = decide (xs.length ≤ 16) := by rw [intsB, allB_true ha]; rfl
theorem intsB_long {xs : List Int} (h : 16 < xs.length) : intsB xs = false := by rw [intsB, decide_eq_false (by omega)]; simp
theorem intsB_parts {xs : List Int} (h : intsB xs = true) : (∀ j (h : j < xs.length), 0 ≤ xs[j] ∧ xs[j] ≤ 2147483647) ∧ xs.length ≤ 16 := by
  simp only [intsB, Bool.and_eq_true, decide_eq_true_eq] at h
  refine ⟨fun j hj => ?_, h.2⟩
  have := h.1
  rw [allB, List.all_eq_true] at this
  have := this _ (List.getElem_mem hj)
  simpa [numB, inB] using this
def listC (xs : List Int) : Int := if 4096 < xs.length then 2 else if intsB xs = true then 0 else 4
theorem listC_long {xs : List Int} (h : 4096 < xs.length) : listC xs = 2 := if_pos h
theorem listC_bad {xs : List Int} (h : ¬ 4096 < xs.length) (hb : intsB xs = false) : listC xs = 4 := by rw [listC, if_neg h, if_neg (by simp [hb])]
theorem listC_ok {xs : List Int} (h : ¬ 4096 < xs.length) (hb : intsB xs = true) : listC xs = 0 := by rw [listC, if_neg h, if_pos hb]
theorem listC_zero {xs : List Int} (h : listC xs = 0) : intsB xs = true := by
  unfold listC at h
  split at h
  · cases h
  · split at h
    · assumption
    · cases h

def byteN (n : Int) (j : Nat) : Int := n / (256 : Int) ^ j % 256
def fourTo (n : Int) (j : Nat) : List Int := (List.range j).map (byteN n)
def four (n : Int) : List Int := fourTo n 4
theorem fourTo_succ (n : Int) (j : Nat) : fourTo n (j + 1) = fourTo n j ++ [byteN n j] := by simp [fourTo, List.range_succ]
theorem fourTo_length (n : Int) (j : Nat) : (fourTo n j).length = j := by simp [fourTo]
theorem byteN_in (n : Int) (j : Nat) : 0 ≤ byteN n j ∧ byteN n j ≤ 255 := by unfold byteN; omega
def byteV (ns : List Int) : List Value := ns.map (Value.int .u8)
theorem byteV_length (ns : List Int) : (byteV ns).length = ns.length := by simp [byteV]
theorem byteV_snoc (ns : List Int) (n : Int) : byteV (ns ++ [n]) = byteV ns ++ [.int .u8 n] := by simp [byteV]
def shN (n : Int) (j : Nat) : Int := n / (256 : Int) ^ j
theorem shN_in {n : Int} (h : 0 ≤ n) (h' : n ≤ 2147483647) (j : Nat) : 0 ≤ shN n j ∧ shN n j ≤ 2147483647 := by
  have hp : (0 : Int) < (256 : Int) ^ j := Int.pow_pos (by omega)
  refine ⟨Int.ediv_nonneg h (by omega), Int.le_trans (Int.ediv_le_self _ h) h'⟩
theorem shN_succ (n : Int) (j : Nat) : shN n (j + 1) = shN n j / 256 := by
  unfold shN
  rw [Int.pow_succ, Int.ediv_ediv_of_nonneg (Int.pow_nonneg (by omega))]
theorem shN_byte (n : Int) (j : Nat) : shN n j % 256 = byteN n j := rfl
theorem byte_news (w : World) (v : Value) (t : TypeId) : ∀ j u, [v][j]? = some u → (w.alloc (.cells #[v] t)).cell? ((⟨w.heap.size, 0, none⟩ : Addr).add j) = some u := by
  intro j u hu
  have hj : j = 0 := by
    rcases Nat.eq_zero_or_pos j with h | h
    · exact h
    · rw [List.getElem?_eq_none (by simp; omega)] at hu; cases hu
  subst hj
  simp at hu
  subst hu
  simp [Addr.add, go_sem]
theorem byte_one (n : Int) : ∀ u ∈ [Value.int .u8 n], u.oneCell' = true := by
  intro u hu
  simp at hu
  subst hu
  rfl
theorem keep_below {w0 w w' : World} {v : Value} {B e size n : Nat} {xs : List Value} (hb : Below w0.heap.size w0 w) (ho : OwnR w B e size v n xs) (hB : w0.heap.size ≤ B) (hk : Keep (Own v) w w') : Below w0.heap.size w0 w' :=
  hb.trans (hk.below hb.size (fun k hk => Nat.le_trans hB (ho.ge k hk).1))
def packL (xs : List Int) : List Int := xs.flatMap four
def packS (xs : List Int) : ByteArray := strOfNums (packL xs)
theorem packL_length : ∀ (xs : List Int), (packL xs).length = xs.length * 4
  | [] => rfl
  | x :: xs => by
    have ih := packL_length xs
    simp only [packL, List.flatMap_cons, List.length_append, List.length_cons] at ih ⊢
    rw [four, fourTo_length]
    omega
theorem packL_snoc (xs : List Int) (n : Int) : packL (xs ++ [n]) = packL xs ++ four n := by simp [packL]
theorem packL_succ {xs : List Int} {k : Nat} (h : k < xs.length) : packL (xs.take (k + 1)) = packL (xs.take k) ++ four xs[k] := by
  rw [List.take_succ_eq_append_getElem h, packL_snoc]
theorem packS_size (xs : List Int) : (packS xs).size = xs.length * 4 := by rw [packS, strOfNums_size, packL_length]

theorem convert_own {P : Program} {w : World} {src e dst : TypeId} (hs : P.underlying src = some (.slice e)) (he : P.underlying e = some (.int .u8)) (hd : P.underlying dst = some .string) {B n qa t : Nat} {qo : Option Addr} {ns : List Int}
    (h : OwnR w B t 1 (.slice qo n qa) n (byteV ns)) : (convert src dst (.slice qo n qa)).run P w = .ok (.string (strOfNums ns)) w := by
  rcases h with ⟨rfl, hx, ao, hv⟩ | ⟨h0, h⟩
  · simp only [Value.slice.injEq, true_and] at hv
    obtain ⟨rfl, rfl⟩ := hv
    have hns : ns = [] := by simpa [byteV] using hx
    subst hns
    cases qo with
    | none => exact run_convert_bytes_nil w src e hs he 0 0 dst hd
    | some a =>
      have hl : (loadCells a 0).run P w = .ok (([] : List Int).map (Value.int .u8)).toArray w := by simpa using run_loadCells_list (P := P) w a [] (by simp)
      rw [run_convert_bytes_string w src dst e _ 0 0 hs he hd, run_bytesToString w a 0 0 [] hl]
      rfl
  · obtain ⟨g, cap, cur, hv, _, _⟩ := own_form h0 h
    simp only [Value.slice.injEq, true_and] at hv
    obtain ⟨rfl, rfl⟩ := hv
    have hlen : ns.length = n := by have := h.1; rw [byteV_length] at this; omega
    refine run_convert_bytes_arg w src e hs he g 0 n _ ns hlen (fun i hi => ?_) dst hd
    rw [Nat.zero_add, h.cellAt i (by omega)]
    simp [byteV, List.getElem?_eq_getElem (show i < ns.length by omega), List.getD]

end Go.Proofs.YtpdpnepnfhbonaaGreat

namespace Go.Proofs.YtpdpnepnfhbonaaGreat
open Go.RowKit
set_option linter.unusedVariables false
set_option maxRecDepth 100000

theorem hidB {p : Prop} (h : p) : Hid p := h
def betw (n low high : Int) : Bool := decide (low ≤ n) && decide (n ≤ high)
theorem betw_yes {n low high : Int} (h : low ≤ n) (h' : n ≤ high) : betw n low high = true := by simp [betw, h, h']
theorem betw_no {n low high : Int} (h : ¬ (low ≤ n ∧ n ≤ high)) : betw n low high = false := by simp only [betw, Bool.and_eq_false_iff, decide_eq_false_iff_not]; omega
theorem betw_iff {n low high : Int} : betw n low high = true ↔ low ≤ n ∧ n ≤ high := by simp [betw]
set_option maxHeartbeats 800000 in
theorem within_any (n low high : Int) (w : World) : Calls Tryz.prog 124 #[.int .i64 n, .int .i64 low, .int .i64 high] w fun e w' => e = .returned (.bool (betw n low high)) ∧ w' = w := by
  by_cases h1 : low ≤ n
  · by_cases h2 : n ≤ high
    · have hr := hidB (betw_yes h1 h2)
      go_enter Tryz.func124, Tryz.ntmps124
      go_wp2
      go_ret
      rw [show betw n low high = true from hr]
      exact ⟨rfl, rfl⟩
    · have hr := hidB (betw_no (n := n) (low := low) (high := high) (by omega))
      go_enter Tryz.func124, Tryz.ntmps124
      go_wp2
      go_ret
      rw [show betw n low high = false from hr]
      exact ⟨rfl, rfl⟩
  · have hr := hidB (betw_no (n := n) (low := low) (high := high) (by omega))
    go_enter Tryz.func124, Tryz.ntmps124
    go_wp2
    go_ret
    rw [show betw n low high = false from hr]
    exact ⟨rfl, rfl⟩
set_option maxHeartbeats 800000 in
theorem in_any (n low high : Int) (w : World) : Calls Tryz.prog 71 #[.int .i64 n, .int .i64 low, .int .i64 high] w fun e w' => e = .returned (.bool (betw n low high)) ∧ w' = w := by
  by_cases h1 : low ≤ n
  · by_cases h2 : n ≤ high
    · have hr := hidB (betw_yes h1 h2)
      go_enter Tryz.func71, Tryz.ntmps71
      go_wp2
      go_ret
      rw [show betw n low high = true from hr]
      exact ⟨rfl, rfl⟩
    · have hr := hidB (betw_no (n := n) (low := low) (high := high) (by omega))
      go_enter Tryz.func71, Tryz.ntmps71
      go_wp2
      go_ret
      rw [show betw n low high = false from hr]
      exact ⟨rfl, rfl⟩
  · have hr := hidB (betw_no (n := n) (low := low) (high := high) (by omega))
    go_enter Tryz.func71, Tryz.ntmps71
    go_wp2
    go_ret
    rw [show betw n low high = false from hr]
    exact ⟨rfl, rfl⟩

end Go.Proofs.YtpdpnepnfhbonaaGreat

namespace Go.Proofs.YtpdpnepnfhbonaaGreat
open Go.RowKit

theorem wraps_i64 (n : Int) (h₀ : 0 ≤ n) (h₁ : n < 2 ^ 63) : IntKind.i64.wrap n = n := by rw [IntKind.wrap_i64]; omega
theorem or_low (i : Nat) (y x : Int) (hy₀ : 0 ≤ y) (hy : y < 2 ^ i) (hy₁ : y < 2 ^ 63) (hx₀ : 0 ≤ x) (hx : x % 2 ^ i = 0) (hx₁ : x < 2 ^ 63) : bits .or .i64 y x = y + x :=
  bits_join_low .i64 63 (by decide) wraps_i64 i y x hy₀ hy hy₁ hx₀ hx hx₁
theorem byteAt_in (s : ByteArray) (k : Nat) : 0 ≤ byteAt s k ∧ byteAt s k ≤ 255 := by
  unfold byteAt
  have := byte_le (s.data[k]?.getD 0)
  omega
def numAt (s : ByteArray) (i : Nat) : Int := byteAt s i + byteAt s (i + 1) * 256 + byteAt s (i + 2) * 65536 + byteAt s (i + 3) * 16777216
def hi (s : ByteArray) (i : Nat) : Nat → Int
  | 0 => 0
  | m + 1 => hi s i m * 256 + byteAt s (i + (3 - m))
def unL (s : ByteArray) : List Int := (List.range (s.size / 4)).map fun i => numAt s (i * 4)
theorem unL_length (s : ByteArray) : (unL s).length = s.size / 4 := by simp [unL]
theorem unL_get {s : ByteArray} {k : Nat} (h : k < (unL s).length) : (unL s)[k] = numAt s (k * 4) := by simp [unL]
def okU (s : ByteArray) : Bool := decide (s.size % 4 = 0) && intsB (unL s)
theorem okU_rest {s : ByteArray} (h : ¬ s.size % 4 = 0) : okU s = false := by rw [okU, decide_eq_false h]; rfl
theorem okU_even {s : ByteArray} (h : s.size % 4 = 0) : okU s = intsB (unL s) := by rw [okU, decide_eq_true h]; rfl
theorem okU_long {s : ByteArray} (h : 64 < s.size) : okU s = false := by
  by_cases h4 : s.size % 4 = 0
  · rw [okU_even h4]; exact intsB_long (by rw [unL_length]; omega)
  · exact okU_rest h4
end Go.Proofs.YtpdpnepnfhbonaaGreat

namespace Go.Proofs.YtpdpnepnfhbonaaGreat
open Go.RowKit

theorem nums_append (a b : List Int) : strOfNums (a ++ b) = strOfNums a ++ strOfNums b := by
  apply ByteArray.ext
  simp [strOfNums]

def kindB (k : Int) : Bool := inB k 1 9
theorem kindB_in {k : Int} (h : kindB k = true) : 1 ≤ k ∧ k ≤ 9 := by simpa [kindB, inB] using h
def sumT (k : Int) (xs : List Int) : ByteArray := strOfNums [k, xs.length] ++ packS xs
def sumR (k : Int) (xs : List Int) : Int := sumS (sumT k xs)
def headR (k : Int) (xs : List Int) : List Int := [k, xs.length, sumR k xs, 0]
def sealS (k : Int) (xs : List Int) : ByteArray := strOfNums (headR k xs) ++ packS xs
theorem sumT_size (k : Int) (xs : List Int) : (sumT k xs).size = 2 + xs.length * 4 := by rw [sumT, ByteArray.size_append, strOfNums_size, packS_size]; rfl
theorem sealS_size (k : Int) (xs : List Int) : (sealS k xs).size = 4 + xs.length * 4 := by rw [sealS, ByteArray.size_append, strOfNums_size, packS_size]; rfl
theorem sumR_in (k : Int) (xs : List Int) : 0 ≤ sumR k xs ∧ sumR k xs ≤ 250 := sumTo_in _ _
theorem sealS_parts (k : Int) (xs : List Int) : strOfNums [k, (xs.length : Int)] ++ strOfNums [sumR k xs, 0] ++ packS xs = sealS k xs := by
  rw [← nums_append]; rfl

def sealC (k : Int) (xs : List Int) : Int := if listC xs = 0 then (if kindB k = true then 0 else 4) else listC xs
def sealT (k : Int) (xs : List Int) : ByteArray := if sealC k xs = 0 then sealS k xs else ⟨#[]⟩
theorem sealC_list {k : Int} {xs : List Int} (h : listC xs ≠ 0) : sealC k xs = listC xs := if_neg h
theorem sealC_kind {k : Int} {xs : List Int} (h : listC xs = 0) (hk : kindB k = false) : sealC k xs = 4 := by rw [sealC, if_pos h, if_neg (by simp [hk])]
theorem sealC_ok {k : Int} {xs : List Int} (h : listC xs = 0) (hk : kindB k = true) : sealC k xs = 0 := by rw [sealC, if_pos h, if_pos hk]
theorem sealT_ok {k : Int} {xs : List Int} (h : sealC k xs = 0) : sealT k xs = sealS k xs := if_pos h
theorem sealT_no {k : Int} {xs : List Int} (h : sealC k xs ≠ 0) : sealT k xs = ⟨#[]⟩ := if_neg h

end Go.Proofs.YtpdpnepnfhbonaaGreat

namespace Go.Proofs.YtpdpnepnfhbonaaGreat
open Go.RowKit
set_option linter.unusedVariables false
set_option maxRecDepth 100000

def cnt1 (n : Int) : Bool := betw n 0 15
def ctB (xs : List Int) : Bool := decide (xs.length = 24) && xs.all cnt1
def zero24 : List Int := List.replicate 24 0
theorem ctB_len {xs : List Int} (h : ctB xs = true) : xs.length = 24 := by
  simp only [ctB, Bool.and_eq_true, decide_eq_true_eq] at h; exact h.1
theorem ctB_at {xs : List Int} (h : ctB xs = true) : ∀ i (hi : i < xs.length), 0 ≤ xs[i] ∧ xs[i] ≤ 15 := by
  intro i hi
  simp only [ctB, Bool.and_eq_true, decide_eq_true_eq, List.all_eq_true] at h
  exact betw_iff.1 (h.2 xs[i] (List.getElem_mem hi))
theorem ctB_of {xs : List Int} (hl : xs.length = 24) (h : ∀ i (hi : i < xs.length), cnt1 xs[i] = true) : ctB xs = true := by
  rw [ctB, decide_eq_true hl, all_of (p := cnt1) (fun i hi _ => h i hi)]; rfl
theorem ctB_nolen {xs : List Int} (hl : ¬ xs.length = 24) : ctB xs = false := by rw [ctB, decide_eq_false hl]; rfl
theorem ctB_noat {xs : List Int} {k : Nat} (hk : k < xs.length) (h : cnt1 xs[k] = false) : ctB xs = false := by rw [ctB, all_not (p := cnt1) hk h]; simp
theorem ctB_all {xs : List Int} (h : ∀ i (hi : i < xs.length), cnt1 xs[i] = true) : ctB xs = decide (xs.length = 24) := by
  rw [ctB, all_of (p := cnt1) (fun i hi _ => h i hi)]; simp
def hx6 (xs : List Int) (i : Nat) : Nat → Int
  | 0 => 0
  | m + 1 => 16 * hx6 xs i m + xs.getD (i + (5 - m)) 0
def lo6 (xs : List Int) (i : Nat) : Nat → Int
  | 0 => 0
  | m + 1 => lo6 xs i m + xs.getD (i + m) 0 * 16 ^ m
theorem hx_lo (xs : List Int) (i : Nat) : hx6 xs i 6 = lo6 xs i 6 := by
  simp only [hx6, lo6, Nat.sub_zero, Nat.reduceSub, Nat.add_zero]
  simp only [show (16 : Int) ^ 0 = 1 from rfl, show (16 : Int) ^ 1 = 16 from rfl, show (16 : Int) ^ 2 = 256 from rfl, show (16 : Int) ^ 3 = 4096 from rfl, show (16 : Int) ^ 4 = 65536 from rfl, show (16 : Int) ^ 5 = 1048576 from rfl]
  omega
theorem lo_in (xs : List Int) (i : Nat) (h : ∀ j, 0 ≤ xs.getD j 0 ∧ xs.getD j 0 ≤ 15) : ∀ m, 0 ≤ lo6 xs i m ∧ lo6 xs i m < 16 ^ m
  | 0 => by simp [lo6]
  | m + 1 => by
    obtain ⟨h0, h1⟩ := lo_in xs i h m
    obtain ⟨g0, g1⟩ := h (i + m)
    rw [lo6, show (16 : Int) ^ (m + 1) = 16 ^ m * 16 from Int.pow_succ 16 m]
    generalize (16 : Int) ^ m = P at *
    have a0 : 0 ≤ xs.getD (i + m) 0 * P := Int.mul_nonneg g0 (by omega)
    have a1 : xs.getD (i + m) 0 * P ≤ 15 * P := Int.mul_le_mul_of_nonneg_right g1 (by omega)
    omega
theorem ctB_getD {xs : List Int} (h : ctB xs = true) (j : Nat) : 0 ≤ xs.getD j 0 ∧ xs.getD j 0 ≤ 15 := by
  by_cases hj : j < xs.length
  · rw [List.getD, List.getElem?_eq_getElem hj]; exact ctB_at h j hj
  · rw [List.getD, List.getElem?_eq_none (by omega)]; decide
def ctNs (xs : List Int) : List Int := [lo6 xs 0 6, lo6 xs 6 6, lo6 xs 12 6, lo6 xs 18 6]
def encT (xs : List Int) : ByteArray := sealS 2 (ctNs xs)
theorem ctNs_in {xs : List Int} (h : ctB xs = true) : ∀ j (hj : j < (ctNs xs).length), 0 ≤ (ctNs xs)[j] ∧ (ctNs xs)[j] ≤ 16777215 := by
  have k : ∀ i, 0 ≤ lo6 xs i 6 ∧ lo6 xs i 6 ≤ 16777215 := fun i => by
    have := lo_in xs i (ctB_getD h) 6
    rw [show (16 : Int) ^ 6 = 16777216 from rfl] at this
    omega
  intro j hj
  match j, hj with
  | 0, _ => exact k 0
  | 1, _ => exact k 6
  | 2, _ => exact k 12
  | 3, _ => exact k 18
theorem ct_seal {xs : List Int} (h : ctB xs = true) : sealC 2 (ctNs xs) = 0 ∧ sealT 2 (ctNs xs) = encT xs := by
  have hi : intsB (ctNs xs) = true := by
    rw [intsB_len]
    · rfl
    · intro j hj
      have := ctNs_in h j hj
      simp [numB, inB]; omega
  have hc : sealC 2 (ctNs xs) = 0 := sealC_ok (listC_ok (by simp [ctNs]) hi) rfl
  exact ⟨hc, sealT_ok hc⟩
def txN (xs : List Int) (k : Nat) : List Int := (List.range 4).map (fun q => lo6 xs (6 * q) (min 6 (k - 6 * q)))
theorem txN_len (xs : List Int) (k : Nat) : (txN xs k).length = 4 := by simp [txN]
theorem txN_zero (xs : List Int) : txN xs 0 = [0, 0, 0, 0] := by simp [txN, List.range_succ, lo6]
theorem txN_end (xs : List Int) : txN xs 24 = ctNs xs := by simp [txN, ctNs, List.range_succ]
theorem txN_get (xs : List Int) (k q : Nat) (h : q < (txN xs k).length) : (txN xs k)[q] = lo6 xs (6 * q) (min 6 (k - 6 * q)) := by simp [txN]
theorem txN_step (xs : List Int) (k : Nat) (hk : k < 24) : txN xs (k + 1) = (txN xs k).set (k / 6) (lo6 xs (6 * (k / 6)) (k % 6) + xs.getD k 0 * 16 ^ (k % 6)) := by
  apply List.ext_getElem
  · rw [List.length_set, txN_len, txN_len]
  · intro q h1 h2
    rw [txN_get, List.getElem_set]
    rw [txN_len] at h1
    split
    · rename_i e
      subst e
      have e2 : min 6 (k + 1 - 6 * (k / 6)) = k % 6 + 1 := by omega
      have e3 : 6 * (k / 6) + k % 6 = k := by omega
      rw [e2, lo6, e3]
    · rename_i e
      rw [txN_get]
      have e2 : min 6 (k + 1 - 6 * q) = min 6 (k - 6 * q) := by omega
      rw [e2]
theorem txN_at (xs : List Int) (k : Nat) (hk : k < 24) (h : k / 6 < (txN xs k).length) : (txN xs k)[k / 6] = lo6 xs (6 * (k / 6)) (k % 6) := by
  rw [txN_get]
  have e2 : min 6 (k - 6 * (k / 6)) = k % 6 := by omega
  rw [e2]
theorem pow_two (r : Nat) : (16 : Int) ^ r = 2 ^ (r * 4) := by
  rw [Nat.mul_comm, Int.pow_mul]; rfl
theorem or_place {xs : List Int} (h : ctB xs = true) (i k r : Nat) (hr : r < 6) : bits .or .i64 (lo6 xs i r) (xs.getD k 0 * 16 ^ r) = lo6 xs i r + xs.getD k 0 * 16 ^ r := by
  obtain ⟨h0, h1⟩ := lo_in xs i (ctB_getD h) r
  obtain ⟨g0, g1⟩ := ctB_getD h k
  have hp : (16 : Int) ^ r ≤ 1048576 := by
    match r, hr with
    | 0, _ => decide
    | 1, _ => decide
    | 2, _ => decide
    | 3, _ => decide
    | 4, _ => decide
    | 5, _ => decide
  have hp0 : 0 < (16 : Int) ^ r := Int.pow_pos (by omega)
  have e := pow_two r
  refine or_low (r * 4) _ _ h0 (by rw [← e]; exact h1) ?_ ?_ ?_ ?_
  · generalize (16 : Int) ^ r = P at *; omega
  · exact Int.mul_nonneg g0 (by omega)
  · rw [← e]; exact Int.mul_emod_left _ _
  · have : xs.getD k 0 * 16 ^ r ≤ 15 * 16 ^ r := Int.mul_le_mul_of_nonneg_right g1 (by omega)
    generalize (16 : Int) ^ r = P at *; omega
end Go.Proofs.YtpdpnepnfhbonaaGreat

namespace Go.Proofs.YtpdpnepnfhbonaaGreat
open Go.RowKit
set_option linter.unusedVariables false

theorem byteAt_list (s : ByteArray) (k : Nat) : byteAt s k = ((s.data.toList[k]?.getD 0).toNat : Int) := by simp [byteAt]
theorem list_eq {a b : ByteArray} (h : a.data.toList = b.data.toList) : a = b := by
  cases a; cases b
  simpa using Array.toList_inj.1 h
theorem size_list (s : ByteArray) : s.data.toList.length = s.size := by simp
theorem bytes_eq {a b : ByteArray} (hs : a.size = b.size) (h : ∀ k, k < a.size → byteAt a k = byteAt b k) : a = b := by
  apply list_eq
  apply List.ext_getElem
  · rw [size_list, size_list, hs]
  · intro i h1 h2
    rw [size_list] at h1
    have := h i h1
    rw [byteAt_list, byteAt_list, List.getElem?_eq_getElem (by rw [size_list]; exact h1), List.getElem?_eq_getElem h2] at this
    simp only [Option.getD_some] at this
    exact UInt8.toNat_inj.1 (by omega)
theorem byteAt_nums {ns : List Int} {k : Nat} (h : k < ns.length) (h0 : 0 ≤ ns[k]) (h1 : ns[k] ≤ 255) : byteAt (strOfNums ns) k = ns[k] := by
  rw [byteAt_list, strOfNums_data, List.getElem?_map, List.getElem?_eq_getElem h]
  simp only [Option.map_some, Option.getD_some]
  have : ns[k].toNat < 256 := by omega
  rw [UInt8.toNat_ofNat_of_lt' (by simpa using this)]
  omega
theorem byteAt_left {a b : ByteArray} {k : Nat} (h : k < a.size) : byteAt (a ++ b) k = byteAt a k := by
  have e : (a ++ b).data.toList = a.data.toList ++ b.data.toList := by simp
  rw [byteAt_list, byteAt_list, e, List.getElem?_append_left (by rw [size_list]; exact h)]
theorem byteAt_right {a b : ByteArray} {k : Nat} (h : a.size ≤ k) : byteAt (a ++ b) k = byteAt b (k - a.size) := by
  have e : (a ++ b).data.toList = a.data.toList ++ b.data.toList := by simp
  rw [byteAt_list, byteAt_list, e, List.getElem?_append_right (by rw [size_list]; exact h), size_list]
theorem byteAt_cut {u : ByteArray} {a b j : Nat} (hb : b ≤ u.size) (h : a + j < b) : byteAt (u.extract a b) j = byteAt u (a + j) := by
  have e : (u.extract a b).data = u.data.extract a b := by simp
  unfold byteAt
  have : j < min b u.data.size - a := by have : b ≤ u.data.size := hb; omega
  rw [e, Array.getElem?_extract, if_pos this]

def bodyT (s : ByteArray) : ByteArray := s.extract 4 s.size
def headT (s : ByteArray) : ByteArray := s.extract 0 2
theorem bodyT_size (s : ByteArray) : (bodyT s).size = s.size - 4 := by simp [bodyT]
theorem headT_size {s : ByteArray} (h : 4 ≤ s.size) : (headT s).size = 2 := by simp [headT]; omega
theorem headT_eq {s : ByteArray} (h : 4 ≤ s.size) : headT s = strOfNums [byteAt s 0, byteAt s 1] := by
  have h0 := byteAt_in s 0
  have h1 := byteAt_in s 1
  apply bytes_eq
  · rw [headT_size h, strOfNums_size]; rfl
  · intro k hk
    rw [headT_size h] at hk
    rw [headT, byteAt_cut (by omega) (by omega)]
    rcases (show k = 0 ∨ k = 1 by omega) with rfl | rfl
    · rw [byteAt_nums (by simp) (by simp; omega) (by simp; omega)]; simp
    · rw [byteAt_nums (by simp) (by simp; omega) (by simp; omega)]; simp
theorem bodyT_byte {s : ByteArray} {k : Nat} (h : 4 + k < s.size) : byteAt (bodyT s) k = byteAt s (4 + k) := by rw [bodyT, byteAt_cut (Nat.le_refl _) h]

theorem four_num (s : ByteArray) (i j : Nat) (hj : j < 4) : byteN (numAt s i) j = byteAt s (i + j) := by
  have h0 := byteAt_in s i
  have h1 := byteAt_in s (i + 1)
  have h2 := byteAt_in s (i + 2)
  have h3 := byteAt_in s (i + 3)
  unfold byteN numAt
  rcases (show j = 0 ∨ j = 1 ∨ j = 2 ∨ j = 3 by omega) with rfl | rfl | rfl | rfl
  · simp only [Nat.add_zero]; omega
  · show (byteAt s i + byteAt s (i + 1) * 256 + byteAt s (i + 2) * 65536 + byteAt s (i + 3) * 16777216) / 256 % 256 = _; omega
  · show (byteAt s i + byteAt s (i + 1) * 256 + byteAt s (i + 2) * 65536 + byteAt s (i + 3) * 16777216) / 65536 % 256 = _; omega
  · show (byteAt s i + byteAt s (i + 1) * 256 + byteAt s (i + 2) * 65536 + byteAt s (i + 3) * 16777216) / 16777216 % 256 = _; omega
theorem packL_at : ∀ (xs : List Int) (i j : Nat) (hi : i < xs.length) (hj : j < 4), (packL xs)[i * 4 + j]? = some (byteN xs[i] j)
  | [], i, _, hi, _ => absurd hi (Nat.not_lt_zero _)
  | x :: xs, 0, j, _, hj => by
    show (four x ++ packL xs)[0 * 4 + j]? = _
    rw [List.getElem?_append_left (by rw [four, fourTo_length]; omega)]
    simp [four, fourTo, hj]
  | x :: xs, i + 1, j, hi, hj => by
    show (four x ++ packL xs)[(i + 1) * 4 + j]? = _
    rw [List.getElem?_append_right (by rw [four, fourTo_length]; omega), four, fourTo_length, show (i + 1) * 4 + j - 4 = i * 4 + j by omega]
    have := packL_at xs i j (by simpa using hi) hj
    simpa using this
theorem pack_un {s : ByteArray} (h4 : s.size % 4 = 0) : packS (unL s) = s := by
  apply bytes_eq
  · rw [packS_size, unL_length]; omega
  · intro k hk
    rw [packS_size, unL_length] at hk
    have hq : k / 4 < (unL s).length := by rw [unL_length]; omega
    have h1 := packL_at (unL s) (k / 4) (k % 4) hq (by omega)
    rw [show k / 4 * 4 + k % 4 = k by omega, unL_get hq, four_num s _ _ (by omega), show k / 4 * 4 + k % 4 = k by omega] at h1
    obtain ⟨hkl, h2⟩ := List.getElem?_eq_some_iff.1 h1
    have hb := byteAt_in s k
    rw [packS, byteAt_nums hkl (by rw [h2]; omega) (by rw [h2]; omega), h2]

def RecP (s : ByteArray) : Prop := 4 ≤ s.size ∧ kindB (byteAt s 0) = true ∧ byteAt s 3 = 0 ∧ ((bodyT s).size : Int) = byteAt s 1 * 4 ∧ byteAt s 2 = sumS (headT s ++ bodyT s) ∧ okU (bodyT s) = true
def recB (s : ByteArray) : Bool := decide (4 ≤ s.size) && (kindB (byteAt s 0) && (decide (byteAt s 3 = 0) && (decide (((bodyT s).size : Int) = byteAt s 1 * 4) && (decide (byteAt s 2 = sumS (headT s ++ bodyT s)) && okU (bodyT s)))))
theorem recB_iff {s : ByteArray} : recB s = true ↔ RecP s := by simp only [recB, RecP, Bool.and_eq_true, decide_eq_true_eq]
theorem recB_true {s : ByteArray} (h : RecP s) : recB s = true := recB_iff.2 h
theorem okU_parts {s : ByteArray} (h : okU s = true) : s.size % 4 = 0 ∧ s.size ≤ 64 ∧ intsB (unL s) = true := by
  by_cases h4 : s.size % 4 = 0
  · by_cases hl : 64 < s.size
    · rw [okU_long hl] at h; cases h
    · rw [okU_even h4] at h; exact ⟨h4, by omega, h⟩
  · rw [okU_rest h4] at h; cases h

theorem seal_iff {s : ByteArray} (hs : 4 ≤ s.size) (hk : kindB (byteAt s 0) = true) (hu : okU (bodyT s) = true) : sealS (byteAt s 0) (unL (bodyT s)) = s ↔ RecP s := by
  obtain ⟨h4, h64, hints⟩ := okU_parts hu
  have hp := pack_un h4
  have hl := unL_length (bodyT s)
  have hbs := bodyT_size s
  have hk' := kindB_in hk
  have hr := sumR_in (byteAt s 0) (unL (bodyT s))
  have hz := sealS_size (byteAt s 0) (unL (bodyT s))
  have b1 := byteAt_in s 1
  have hhs : (strOfNums (headR (byteAt s 0) (unL (bodyT s)))).size = 4 := strOfNums_size _
  have hhead : ∀ j (hj : j < 4), byteAt (sealS (byteAt s 0) (unL (bodyT s))) j = (headR (byteAt s 0) (unL (bodyT s)))[j]'(by simpa [headR] using hj) := by
    intro j hj
    rw [sealS, byteAt_left (by rw [hhs]; exact hj), byteAt_nums]
    · rcases (show j = 0 ∨ j = 1 ∨ j = 2 ∨ j = 3 by omega) with rfl | rfl | rfl | rfl <;> simp [headR] <;> omega
    · rcases (show j = 0 ∨ j = 1 ∨ j = 2 ∨ j = 3 by omega) with rfl | rfl | rfl | rfl <;> simp [headR] <;> omega
  have hrest : ∀ j, 4 ≤ j → byteAt (sealS (byteAt s 0) (unL (bodyT s))) j = byteAt (bodyT s) (j - 4) := by
    intro j hj
    rw [sealS, byteAt_right (by rw [hhs]; exact hj), hhs, hp]
  constructor
  · intro e
    have e1 := hhead 1 (by omega)
    have e2 := hhead 2 (by omega)
    have e3 := hhead 3 (by omega)
    rw [e] at e1 e2 e3
    simp only [headR, List.getElem_cons_succ, List.getElem_cons_zero] at e1 e2 e3
    refine ⟨hs, hk, e3, by omega, ?_, hu⟩
    rw [e2, sumR, sumT, hp, headT_eq hs, e1]
  · rintro ⟨_, _, h3, hcnt, hsum, _⟩
    have hlen : (((unL (bodyT s)).length : Nat) : Int) = byteAt s 1 := by omega
    have hsr : sumR (byteAt s 0) (unL (bodyT s)) = byteAt s 2 := by rw [sumR, sumT, hp, hlen, ← headT_eq hs, hsum]
    apply bytes_eq
    · rw [hz]; omega
    · intro k hk2
      rw [hz] at hk2
      by_cases hk4 : k < 4
      · rw [hhead k hk4]
        rcases (show k = 0 ∨ k = 1 ∨ k = 2 ∨ k = 3 by omega) with rfl | rfl | rfl | rfl
        · simp [headR]
        · simp [headR, hlen]
        · simp [headR, hsr]
        · simp [headR, h3]
      · rw [hrest k (by omega), bodyT_byte (by omega), show 4 + (k - 4) = k by omega]

def opC (s : ByteArray) (k : Int) : Int := if 65536 < s.size then 2 else if kindB k = true then (if recB s = true ∧ byteAt s 0 = k then 0 else 3) else 4
def opR (s : ByteArray) (k : Int) : List Int := if opC s k = 0 then unL (bodyT s) else []
def kdC (s : ByteArray) : Int := if 65536 < s.size then 2 else if recB s = true then 0 else 3
def kdR (s : ByteArray) : Int := if kdC s = 0 then byteAt s 0 else 0
theorem opC_ok {s : ByteArray} {k : Int} (h : ¬ 65536 < s.size) (hk : kindB k = true) (hr : recB s = true) (he : byteAt s 0 = k) : opC s k = 0 := by rw [opC, if_neg h, if_pos hk, if_pos ⟨hr, he⟩]
theorem opR_ok {s : ByteArray} {k : Int} (h : opC s k = 0) : opR s k = unL (bodyT s) := if_pos h
theorem kdC_ok {s : ByteArray} (h : ¬ 65536 < s.size) (hr : recB s = true) : kdC s = 0 := by rw [kdC, if_neg h, if_pos hr]
theorem kdR_ok {s : ByteArray} (h : kdC s = 0) : kdR s = byteAt s 0 := if_pos h
end Go.Proofs.YtpdpnepnfhbonaaGreat

namespace Go.Proofs.YtpdpnepnfhbonaaGreat
open Go.RowKit
set_option linter.unusedVariables false
set_option maxRecDepth 100000

theorem l01In_num (n low high : Int) (w : World) : Calls Tryz.prog 71 #[.int .i64 n, .int .i64 low, .int .i64 high] w fun e w' => e = .returned (.bool (inB n low high)) ∧ w' = w := by
  go_enter Tryz.func71, Tryz.ntmps71
  go_wp2
  all_goals
    go_ret
    exact ⟨ret_bool (by rw [Bool.eq_iff_iff]; simp [inB]; omega), rfl⟩
theorem l02Int_any (n : Int) (w : World) : Calls Tryz.prog 94 #[.int .i64 n] w fun e w' => e = .returned (.bool (numB n)) ∧ w' = w := by
  go_enter Tryz.func94, Tryz.ntmps94
  go_wp2_with (go_at_call 71; refine (l01In_num _ _ _ _).mono ?_; rintro e w' ⟨rfl, rfl⟩)
  go_ret
  exact ⟨rfl, rfl⟩
theorem isNumber_any (n : Int) (w : World) : Calls Tryz.prog 121 #[.int .i64 n] w fun e w' => e = .returned (.bool (numB n)) ∧ w' = w := by
  go_enter Tryz.func121, Tryz.ntmps121
  go_wp2
  all_goals
    go_ret
    exact ⟨ret_bool (by rw [Bool.eq_iff_iff]; simp [numB, inB]; omega), rfl⟩

end Go.Proofs.YtpdpnepnfhbonaaGreat

namespace Go.Proofs.YtpdpnepnfhbonaaGreat
open Go.RowKit
set_option linter.unusedVariables false
section
variable {P : Program}

theorem keep_grown {S : Nat → Prop} {w w' : World} {row : Option Nat} (h : w.grownBy w' row) (hs : ∀ k, row = some k → S k) : Keep S w w' :=
  ⟨h.os, h.tape, h.output, h.size, fun k hk hn => h.block k hk (fun e => hn (hs k e.symm))⟩

theorem run_append_one (w : World) (B : Nat) (t ty e : TypeId) (i : TypeInfo) (z : Value) (size bytes : Nat) (ht : P.underlying t = some (.slice e)) (hi : P.info? e = some i) (hz : i.zero = some z)
    (hsize : i.size = size) (hby : i.bytes = bytes) (hzs : z.cells.size = size) (hsz : 0 < size)
    (qo : Option Addr) (n cap : Nat) (xs : List Value) (h : OwnR w B e size (.slice qo n cap) n xs) (hB : B ≤ w.heap.size)
    (ad : Addr) (c : Nat) (news : List Value) (hl : news.length = size) (hnews : ∀ j u, news[j]? = some u → w.cell? (ad.add j) = some u) (h1 : ∀ u ∈ news, u.oneCell' = true)
    (b1 : n + 1 ≤ maxLen) (b2 : (n + 1) * bytes ≤ 140737488355328) :
    ∃ g cap' w', (Builtin.append_ #[t, t] ty #[.slice qo n cap, .slice (some ad) 1 c]).run P w = .ok (.slice (some ⟨g, 0, none⟩) (n + 1) cap') w' ∧
      w'.ownsRow B e size (.slice (some ⟨g, 0, none⟩) (n + 1) cap') (n + 1) (xs ++ news) ∧ Keep (Own (.slice qo n cap)) w w' := by
  rcases h with ⟨rfl, rfl, ao, hv⟩ | ⟨h0, h⟩
  · simp only [Value.slice.injEq, true_and] at hv
    obtain ⟨rfl, rfl⟩ := hv
    cases qo with
    | none =>
      obtain ⟨v', w', hrun, r1, r2, _⟩ := run_append_own (P := P) w B t ty e i z size bytes ht hi hz hsize hby hzs hsz (.slice none 0 0) 0 [] (World.ownsRow_nil w _ e size) ad 1 c news (by omega) hnews h1 b1 b2 hB
      obtain ⟨g, cap, cur, rfl, _, _⟩ := own_form (by omega) r1
      exact ⟨g, cap, w', hrun, r1, keep_grown r2 (fun k hk => by cases hk)⟩
    | some d =>
      obtain ⟨v', w', hrun, r1, r2⟩ := run_append_arg_grows (P := P) w t ty e i z size bytes ht hi hz hsize hby hzs hsz d 0 0 [] (by simp) (by simp) ad 1 c news (by omega) hnews (by omega) b1 b2
      obtain ⟨g, cap, cur, rfl, _, _⟩ := own_form (by omega) r1
      exact ⟨g, cap, w', hrun, own_base r1 hB, keep_grown r2 (fun k hk => by cases hk)⟩
  · obtain ⟨g0, cap0, cur0, e0, _, _⟩ := own_form h0 h
    rw [e0] at h
    obtain ⟨v', w', hrun, r1, r2, _⟩ := run_append_own (P := P) w B t ty e i z size bytes ht hi hz hsize hby hzs hsz _ n xs h ad 1 c news (by omega) hnews h1 b1 b2 hB
    obtain ⟨g, cap, cur, rfl, _, _⟩ := own_form (by omega) r1
    rw [e0]
    exact ⟨g, cap, w', hrun, r1, keep_grown r2 (fun k hk => by cases hk; exact own_of h0 rfl)⟩

theorem wpList_append_one {w : World} {ops : Array Oper} {rest : List Oper} {o : Oper} {a : Act} {Q : Exit → Act → World → Prop} (hgd : o.guard = none) (s x : Operand) (t : TypeId)
    (ho : o.op = .call { callee := .builtin .append, args := #[s, x], argTypes := #[t, t] })
    (B : Nat) (e : TypeId) (i : TypeInfo) (z : Value) (size bytes : Nat) (ht : P.underlying t = some (.slice e)) (hi : P.info? e = some i) (hz : i.zero = some z)
    (hsize : i.size = size) (hby : i.bytes = bytes) (hzs : z.cells.size = size) (hsz : 0 < size)
    (qo : Option Addr) (n cap : Nat) (xs : List Value) (hs : a.eval s = .slice qo n cap) (h : OwnR w B e size (.slice qo n cap) n xs) (hB : B ≤ w.heap.size)
    (ad : Addr) (c : Nat) (news : List Value) (hx : a.eval x = .slice (some ad) 1 c) (hl : news.length = size) (hnews : ∀ j u, news[j]? = some u → w.cell? (ad.add j) = some u) (h1 : ∀ u ∈ news, u.oneCell' = true)
    (b1 : n + 1 ≤ maxLen) (b2 : (n + 1) * bytes ≤ 140737488355328)
    (hK : ∀ g cap' w', w'.ownsRow B e size (.slice (some ⟨g, 0, none⟩) (n + 1) cap') (n + 1) (xs ++ news) → Keep (Own (.slice qo n cap)) w w' → wpList P ops Q rest (a.put o.dst (.slice (some ⟨g, 0, none⟩) (n + 1) cap')) w') : wpList P ops Q (o :: rest) a w := by
  refine wpList_plain hgd fun K hK' => ?_
  obtain ⟨g, cap', w', hrun, r1, r2⟩ := run_append_one (P := P) w B t o.type e i z size bytes ht hi hz hsize hby hzs hsz qo n cap xs h hB ad c news hl hnews h1 b1 b2
  unfold Oper.wp
  simp [execOp, ho, resolve, invoke, builtin, hs, hx, hrun, Result.andThen]
  exact hK' _ _ (hK _ _ _ r1 r2)

end
end Go.Proofs.YtpdpnepnfhbonaaGreat

namespace Go.Proofs.YtpdpnepnfhbonaaGreat
open Go.RowKit
set_option linter.unusedVariables false

theorem infoM : (Tryz.prog.info? 3).map (fun i => (i.zero, i.size, i.bytes)) = some (some (.int .i64 0), 1, 8) := by kernel_rfl
theorem int_one (n : Int) : ∀ u ∈ [Value.int .i64 n], u.oneCell' = true := by
  intro u hu
  simp at hu
  subst hu
  rfl

def OwnN (w : World) (B : Nat) (v : Value) (xs : List Int) : Prop := ∃ qo qa, v = .slice qo xs.length qa ∧ OwnR w B 3 1 (.slice qo xs.length qa) xs.length (intV xs)
theorem OwnN.below {w w' : World} {B : Nat} {v : Value} {xs : List Int} (h : OwnN w B v xs) (hb : Below w.heap.size w w') : OwnN w' B v xs := by
  obtain ⟨qo, qa, e, ho⟩ := h
  exact ⟨qo, qa, e, ho.below hb⟩
theorem OwnN.base {w : World} {B B' : Nat} {v : Value} {xs : List Int} (h : OwnN w B v xs) (hB : B' ≤ B) : OwnN w B' v xs := by
  obtain ⟨qo, qa, e, ho⟩ := h
  exact ⟨qo, qa, e, ho.base hB⟩
theorem OwnN.nil (w : World) (B : Nat) (ao : Option Addr) : OwnN w B (.slice ao 0 0) [] := ⟨ao, 0, rfl, .inl ⟨rfl, rfl, ao, rfl⟩⟩

theorem ret_two2 {a b c d : Int} (h : a = b) (k : c = d) : Ending.returned (.tuple #[.int .i64 a, .int .i64 c]) = .returned (.tuple #[.int .i64 b, .int .i64 d]) := by rw [h, k]

theorem OwnN.setCell {w : World} {B : Nat} {v : Value} {xs : List Int} (h : OwnN w B v xs) {a : Addr} (ha : a.block < B) (u : Value) : OwnN (w.setCell a u) B v xs := by
  obtain ⟨qo, qa, e, ho⟩ := h
  exact ⟨qo, qa, e, ho.setCell ha u⟩

end Go.Proofs.YtpdpnepnfhbonaaGreat

namespace Go.Proofs.YtpdpnepnfhbonaaGreat
open Go.RowKit
set_option linter.unusedVariables false
set_option maxRecDepth 100000

end Go.Proofs.YtpdpnepnfhbonaaGreat

namespace Go.Proofs.YtpdpnepnfhbonaaGreat
open Go.RowKit
set_option linter.unusedVariables false
set_option maxRecDepth 100000

theorem l02Sum_any (s : ByteArray) (w : World) (hs : s.size ≤ 1048576) :
    Calls Tryz.prog 98 #[.string s] w fun e w' => e = .returned (.int .i64 (sumS s)) ∧ w' = w := by
  go_enter Tryz.func98, Tryz.ntmps98
  go_wp2
  go_loop [3, 4] (fun n i => ∃ k : Nat, k ≤ s.size ∧ i = .int .i64 k ∧ n = .int .i64 (sumTo s k)) (fun _ i => s.size - (intOf i).toNat)
  case atStart => exact ⟨0, Nat.zero_le _, rfl, rfl⟩
  case round =>
    obtain ⟨k, hk, rfl, rfl⟩ := hrel
    by_cases hlt : k < s.size
    · have HN := hide (sumTo_walk hlt (by omega))
      go_wp2
      go_round
      case rel => exact ⟨k + 1, by omega, by go_num, by rw [← unhide HN]⟩
      case measure => simp [intOf]; omega
    · go_wp2
      go_ret
      exact ⟨ret_int (by rw [sumS, show k = s.size by omega]), rfl⟩

theorem sumOf_impl (s : ByteArray) (w : World) (hs : s.size ≤ 1048576) :
    Calls Tryz.prog 143 #[.string s] w fun e w' => e = .returned (.int .i64 (sumC s)) ∧ w' = w := by
  by_cases h1 : 65536 < s.size
  · have HF := hide (sumC_long h1)
    go_enter Tryz.func143, Tryz.ntmps143
    go_wp2
    go_ret
    exact ⟨ret_int (unhide HF).symm, rfl⟩
  have HF := hide (sumC_short (s := s) (by omega))
  go_enter Tryz.func143, Tryz.ntmps143
  go_wp2
  go_loop [3, 4] (fun n i => ∃ k : Nat, k ≤ s.size ∧ i = .int .i64 k ∧ n = .int .i64 (sumTo s k)) (fun _ i => s.size - (intOf i).toNat)
  case atStart => exact ⟨0, Nat.zero_le _, rfl, rfl⟩
  case round =>
    obtain ⟨k, hk, rfl, rfl⟩ := hrel
    by_cases hlt : k < s.size
    · have HN := hide (sumTo_walk hlt (by omega))
      go_wp2
      go_round
      case rel => exact ⟨k + 1, by omega, by go_num, by rw [← unhide HN]⟩
      case measure => simp [intOf]; omega
    · go_wp2
      go_ret
      exact ⟨ret_int (by rw [unhide HF, sumS, show k = s.size by omega]), rfl⟩

end Go.Proofs.YtpdpnepnfhbonaaGreat

namespace Go.Proofs.YtpdpnepnfhbonaaGreat
open Go.RowKit
set_option linter.unusedVariables false

theorem infoB : (Tryz.prog.info? 5).map (fun i => (i.zero, i.size, i.bytes)) = some (some (.int .u8 0), 1, 1) := by kernel_rfl

theorem ret_str {a b : ByteArray} (h : a = b) : Ending.returned (.string a) = .returned (.string b) := by rw [h]

set_option maxRecDepth 100000 in
set_option maxHeartbeats 1600000 in
theorem l02Pack_any (ao : Option Addr) (cap : Nat) (xs : List Int) (w : World) (hl : xs.length ≤ 4096) (hn : ∀ j (h : j < xs.length), 0 ≤ xs[j] ∧ xs[j] ≤ 2147483647) (hc : Is w ao xs) :
    Calls Tryz.prog 97 #[.slice ao xs.length cap] w fun e w' => e = .returned (.string (packS xs)) ∧ Below w.heap.size w w' := by
  have HC := hide hc
  have HN := hide hn
  clear hc hn
  obtain ⟨j0, hj, hy0, hy1, hy2⟩ := info_parts infoB
  go_enter Tryz.func97, Tryz.ntmps97
  go_wp2
  go_loopw [3, 4] (fun o i wr => ∃ (k : Nat) (qo : Option Addr) (qa : Nat), k ≤ xs.length ∧ i = .int .i64 k ∧ o = .slice qo (k * 4) qa ∧ Hid (OwnR wr w.heap.size 5 1 (.slice qo (k * 4) qa) (k * 4) (byteV (packL (xs.take k)))) ∧ Hid (Below w.heap.size w wr)) (fun _ i _ => xs.length - (intOf i).toNat)
  case atStart => exact ⟨0, _, _, Nat.zero_le _, rfl, rfl, hide (.inl ⟨rfl, rfl, _, rfl⟩), hide (by first | exact Below.refl _ _ | exact Joins.below_alloc1 _ _)⟩
  case round =>
    obtain ⟨k, qo, qa, hk, rfl, rfl, HO, HB⟩ := hrel
    by_cases hlt : k < xs.length
    · obtain ⟨b, off, rfl, hc⟩ := (unhide HC).below (unhide HB) k hlt
      obtain ⟨h0, h1⟩ := unhide HN k hlt
      go_wp2
      go_loopw [3, 5, 6] (fun o m i wq => ∃ (j : Nat) (qo : Option Addr) (qa : Nat), j ≤ 4 ∧ i = .int .i64 j ∧ m = .int .i64 (shN xs[k] j) ∧ o = .slice qo (k * 4 + j) qa ∧ Hid (OwnR wq w.heap.size 5 1 (.slice qo (k * 4 + j) qa) (k * 4 + j) (byteV (packL (xs.take k) ++ fourTo xs[k] j))) ∧ Hid (Below w.heap.size w wq)) (fun _ _ i _ => 4 - (intOf i).toNat)
      case atStart => exact ⟨0, qo, qa, by omega, rfl, by simp [shN], rfl, hide (by simpa [fourTo] using unhide HO), HB⟩
      case round =>
        clear HO HB
        obtain ⟨j, qo, qa, hj4, rfl, rfl, rfl, HO, HB⟩ := hrel
        obtain ⟨hs0, hs1⟩ := shN_in h0 h1 j
        by_cases hj4 : j < 4
        · have HOA := hide ((unhide HO).below (Joins.below_alloc1 _ (.cells #[.int .u8 (shN xs[k] j % 256)] 5)))
          have HBA := hide (fr (unhide HB) (Joins.below_alloc1 _ (.cells #[.int .u8 (shN xs[k] j % 256)] 5)))
          have HSZ := hide (unhide HB).size
          have HSH := hide (shN_succ xs[k] j)
          go_wp2_with (at_builtin; refine wpList_append_one rfl _ _ 104 rfl w.heap.size 5 j0 (.int .u8 0) 1 1 Tryz.underlying104 hj hy0 hy1 hy2 rfl (by omega) qo (k * 4 + j) qa (byteV (packL (xs.take k) ++ fourTo xs[k] j)) rfl (unhide HOA) (by have := unhide HSZ; simp; omega) ⟨wr.heap.size, 0, none⟩ _ [.int .u8 (shN xs[k] j % 256)] rfl rfl (byte_news wr _ _) (byte_one _) (by unfold maxLen; omega) (by omega) ?_; intro g2 cap2 wA hoA hkA; have HSF := hide (And.intro hoA (keep_below (unhide HBA) (unhide HOA) (Nat.le_refl _) hkA)); clear hoA hkA)
          go_roundw
          case rel => exact ⟨j + 1, _, _, by omega, by go_num, by rw [unhide HSH], rfl, hide (.inr ⟨by omega, by rw [fourTo_succ, ← List.append_assoc, byteV_snoc, ← shN_byte]; exact (unhide HSF).1⟩), hide (unhide HSF).2⟩
          case measure => simp [intOf]; omega
        · have HE : Hid (j = 4) := hide (by omega)
          go_wp2
          go_roundw
          case rel => exact ⟨k + 1, qo, qa, by omega, by go_num, by rw [unhide HE, show (k + 1) * 4 = k * 4 + 4 by omega], hide (by have := unhide HO; rw [unhide HE] at this; rw [packL_succ hlt, show (k + 1) * 4 = k * 4 + 4 by omega]; exact this), HB⟩
          case measure => simp [intOf]; omega
    · have HE : Hid (xs.take k = xs) := hide (List.take_of_length_le (by omega))
      have hcv := convert_own (P := Tryz.prog) Tryz.underlying104 Tryz.underlying5 Tryz.underlying9 (unhide HO)
      go_wp2
      go_ret
      exact ⟨ret_str (by rw [unhide HE]; rfl), unhide HB⟩

end Go.Proofs.YtpdpnepnfhbonaaGreat

namespace Go.Proofs.YtpdpnepnfhbonaaGreat
open Go.RowKit
set_option linter.unusedVariables false
set_option maxRecDepth 100000

theorem lit2 (W : World) (g : Nat) (a b : Int) (h : W.heap.size = g) : (convert 104 9 (.slice (some ⟨g, 0, none⟩) 2 2)).run Tryz.prog (W.alloc (.cells #[.int .u8 a, .int .u8 b] 5)) = .ok (.string (strOfNums [a, b])) (W.alloc (.cells #[.int .u8 a, .int .u8 b] 5)) := by
  subst h
  refine run_convert_bytes_arg _ 104 5 Tryz.underlying104 Tryz.underlying5 W.heap.size 0 2 2 [a, b] rfl ?_ 9 Tryz.underlying9
  intro i hi
  rcases (show i = 0 ∨ i = 1 by omega) with rfl | rfl <;> simp [go_sem, List.getD]

theorem sum_spec (k : Int) (xs : List Int) (w : World) (hl : xs.length ≤ 16) : Calls Tryz.prog 98 #[.string (strOfNums [k, (xs.length : Int)] ++ packS xs)] w fun e w' => e = .returned (.int .i64 (sumR k xs)) ∧ w' = w :=
  l02Sum_any (sumT k xs) w (by rw [sumT_size]; omega)
set_option maxHeartbeats 1600000 in
theorem l02Seal_any (k : Int) (ao : Option Addr) (cap : Nat) (xs : List Int) (w : World) (hk : 1 ≤ k ∧ k ≤ 9) (hl : xs.length ≤ 16) (hn : ∀ j (h : j < xs.length), 0 ≤ xs[j] ∧ xs[j] ≤ 2147483647) (hc : Is w ao xs) :
    Calls Tryz.prog 59 #[.int .i64 k, .slice ao xs.length cap] w fun e w' => e = .returned (.string (sealS k xs)) ∧ Below w.heap.size w w' := by
  have HC := hide hc
  have HN := hide hn
  clear hc hn
  have hp := packS_size xs
  have hs2 : (strOfNums [k, (xs.length : Int)]).size = 2 := strOfNums_size _
  go_enter Tryz.func59, Tryz.ntmps59
  go_wp2_with fail
  refine (l02Pack_any _ _ xs _ (by omega) (unhide HN) (unhide HC)).mono ?_
  rintro e w1 ⟨rfl, hb1⟩
  have HB1 := hide hb1
  have hc1 := lit2 w1 w1.heap.size k xs.length rfl
  clear hb1
  go_wp2_with fail
  refine (sum_spec k xs _ hl).mono ?_
  rintro e w2 ⟨rfl, rfl⟩
  obtain ⟨hr0, hr1⟩ := sumR_in k xs
  have hc2 := lit2 (w1.alloc (.cells #[.int .u8 k, .int .u8 xs.length] 5)) (w1.heap.size + 1) (sumR k xs) 0 (by simp)
  have hs3 : (strOfNums [sumR k xs, 0]).size = 2 := strOfNums_size _
  have hs4 : (strOfNums [k, (xs.length : Int)] ++ strOfNums [sumR k xs, 0]).size = 4 := by rw [ByteArray.size_append, hs2, hs3]
  have HE := hide (sealS_parts k xs)
  go_wp2
  go_ret
  exact ⟨ret_str (unhide HE), fr (unhide HB1) (Joins.below_alloc2 _ _ _)⟩

end Go.Proofs.YtpdpnepnfhbonaaGreat

namespace Go.Proofs.YtpdpnepnfhbonaaGreat
open Go.RowKit
set_option linter.unusedVariables false
set_option maxRecDepth 100000

end Go.Proofs.YtpdpnepnfhbonaaGreat

namespace Go.Proofs.YtpdpnepnfhbonaaGreat
open Go.RowKit
set_option linter.unusedVariables false

theorem allB_in {xs : List Int} (h : allB xs = true) : ∀ j (hj : j < xs.length), 0 ≤ xs[j] ∧ xs[j] ≤ 2147483647 := by
  intro j hj
  rw [allB, List.all_eq_true] at h
  have := h _ (List.getElem_mem hj)
  simpa [numB, inB] using this
theorem pack_byte {xs : List Int} {i j : Nat} (hi : i < xs.length) (hj : j < 4) : byteAt (packS xs) (i * 4 + j) = byteN xs[i] j := by
  obtain ⟨hk, he⟩ := List.getElem?_eq_some_iff.1 (packL_at xs i j hi hj)
  have hb := byteN_in xs[i] j
  rw [packS, byteAt_nums hk (by rw [he]; omega) (by rw [he]; omega), he]
theorem num_of_bytes {n : Int} (h0 : 0 ≤ n) (h1 : n ≤ 2147483647) : byteN n 0 + byteN n 1 * 256 + byteN n 2 * 65536 + byteN n 3 * 16777216 = n := by
  show n / 1 % 256 + n / 256 % 256 * 256 + n / 65536 % 256 * 65536 + n / 16777216 % 256 * 16777216 = n
  omega
theorem un_pack {xs : List Int} (h : allB xs = true) : unL (packS xs) = xs := by
  apply List.ext_getElem
  · rw [unL_length, packS_size]; omega
  · intro i h1 h2
    rw [unL_get h1]
    have hin := allB_in h i h2
    unfold numAt
    have e0 := pack_byte h2 (show 0 < 4 by omega)
    rw [Nat.add_zero] at e0
    rw [e0, pack_byte h2 (show 1 < 4 by omega), pack_byte h2 (show 2 < 4 by omega), pack_byte h2 (show 3 < 4 by omega)]
    exact num_of_bytes hin.1 hin.2
theorem okU_pack {xs : List Int} (h : allB xs = true) (hl : xs.length ≤ 16) : okU (packS xs) = true := by
  rw [okU_even (by rw [packS_size]; omega), un_pack h, intsB, h, decide_eq_true hl]; rfl
theorem intsB_small {xs : List Int} (h : allB xs = true) (hl : xs.length ≤ 16) : intsB xs = true := by rw [intsB, h, decide_eq_true hl]; rfl
theorem kindB_of {k : Int} (hk : 1 ≤ k ∧ k ≤ 9) : kindB k = true := by simp [kindB, inB]; omega
theorem seal_byte {k : Int} {xs : List Int} (hk : 1 ≤ k ∧ k ≤ 9) (hl : xs.length ≤ 16) {j : Nat} (hj : j < 4) : byteAt (sealS k xs) j = (headR k xs)[j]'(by simpa [headR] using hj) := by
  have hr := sumR_in k xs
  rw [sealS, byteAt_left (by rw [strOfNums_size]; simpa [headR] using hj), byteAt_nums]
  · rcases (show j = 0 ∨ j = 1 ∨ j = 2 ∨ j = 3 by omega) with rfl | rfl | rfl | rfl <;> simp [headR] <;> omega
  · rcases (show j = 0 ∨ j = 1 ∨ j = 2 ∨ j = 3 by omega) with rfl | rfl | rfl | rfl <;> simp [headR] <;> omega
theorem body_seal {k : Int} {xs : List Int} : bodyT (sealS k xs) = packS xs := by
  apply bytes_eq
  · rw [bodyT_size, sealS_size, packS_size]; omega
  · intro j hj
    rw [bodyT_size, sealS_size] at hj
    rw [bodyT_byte (by rw [sealS_size]; omega), sealS, byteAt_right (by rw [strOfNums_size]; simp [headR]), strOfNums_size]
    congr 1
    simp [headR]
theorem rec_seal {k : Int} {xs : List Int} (hk : 1 ≤ k ∧ k ≤ 9) (h : allB xs = true) (hl : xs.length ≤ 16) : RecP (sealS k xs) := by
  have e0 := seal_byte hk hl (show 0 < 4 by omega)
  have hkb : kindB (byteAt (sealS k xs) 0) = true := by rw [e0]; exact kindB_of hk
  refine (seal_iff (by rw [sealS_size]; omega) hkb (by rw [body_seal]; exact okU_pack h hl)).1 ?_
  rw [body_seal, un_pack h, e0]
  simp [headR]
theorem seal_kind {k : Int} {xs : List Int} (hk : 1 ≤ k ∧ k ≤ 9) (hl : xs.length ≤ 16) : byteAt (sealS k xs) 0 = k := by rw [seal_byte hk hl (show 0 < 4 by omega)]; simp [headR]
theorem opC_seal {k : Int} {xs : List Int} (hk : 1 ≤ k ∧ k ≤ 9) (h : allB xs = true) (hl : xs.length ≤ 16) : opC (sealS k xs) k = 0 :=
  opC_ok (by rw [sealS_size]; omega) (kindB_of hk) (recB_true (rec_seal hk h hl)) (seal_kind hk hl)
theorem opR_seal {k : Int} {xs : List Int} (hk : 1 ≤ k ∧ k ≤ 9) (h : allB xs = true) (hl : xs.length ≤ 16) : opR (sealS k xs) k = xs := by rw [opR_ok (opC_seal hk h hl), body_seal, un_pack h]
theorem kdC_seal {k : Int} {xs : List Int} (hk : 1 ≤ k ∧ k ≤ 9) (h : allB xs = true) (hl : xs.length ≤ 16) : kdC (sealS k xs) = 0 := kdC_ok (by rw [sealS_size]; omega) (recB_true (rec_seal hk h hl))
theorem kdR_seal {k : Int} {xs : List Int} (hk : 1 ≤ k ∧ k ≤ 9) (h : allB xs = true) (hl : xs.length ≤ 16) : kdR (sealS k xs) = k := by rw [kdR_ok (kdC_seal hk h hl), seal_kind hk hl]
end Go.Proofs.YtpdpnepnfhbonaaGreat

namespace Go.Proofs.YtpdpnepnfhbonaaGreat
open Go.RowKit
set_option linter.unusedVariables false
set_option maxRecDepth 100000

def ent1 (n : Int) : Bool := betw n 0 25
def tbB (xs : List Int) : Bool := decide (xs.length ≤ 12) && xs.all ent1
def tbF (xs : List Int) : Int := if 4096 < xs.length then 2 else if tbB xs = true then 0 else 1
theorem tbB_len {xs : List Int} (h : tbB xs = true) : xs.length ≤ 12 := by
  simp only [tbB, Bool.and_eq_true, decide_eq_true_eq] at h; exact h.1
theorem tbB_at {xs : List Int} (h : tbB xs = true) : ∀ i (hi : i < xs.length), 0 ≤ xs[i] ∧ xs[i] ≤ 25 := by
  intro i hi
  simp only [tbB, Bool.and_eq_true, decide_eq_true_eq, List.all_eq_true] at h
  exact betw_iff.1 (h.2 xs[i] (List.getElem_mem hi))
theorem tbB_of {xs : List Int} (hl : xs.length ≤ 12) (h : ∀ i (hi : i < xs.length), ent1 xs[i] = true) : tbB xs = true := by
  rw [tbB, decide_eq_true hl, all_of (p := ent1) (fun i hi _ => h i hi)]; rfl
theorem tbB_nolen {xs : List Int} (hl : ¬ xs.length ≤ 12) : tbB xs = false := by rw [tbB, decide_eq_false hl]; rfl
theorem tbB_noat {xs : List Int} {k : Nat} (hk : k < xs.length) (h : ent1 xs[k] = false) : tbB xs = false := by rw [tbB, all_not (p := ent1) hk h]; simp
theorem tbB_all {xs : List Int} (h : ∀ i (hi : i < xs.length), ent1 xs[i] = true) : tbB xs = decide (xs.length ≤ 12) := by
  rw [tbB, all_of (p := ent1) (fun i hi _ => h i hi)]; simp
theorem tbF_ok {xs : List Int} (hb : tbB xs = true) : tbF xs = 0 := by
  have := tbB_len hb
  rw [tbF, if_neg (by omega), if_pos hb]
def encTb (xs : List Int) : ByteArray := sealS 3 xs
theorem tb_all {xs : List Int} (h : tbB xs = true) : allB xs = true := allB_true (fun j hj => by have := tbB_at h j hj; simp [numB, inB]; omega)
theorem tb_seal {xs : List Int} (h : tbB xs = true) : sealC 3 xs = 0 ∧ sealT 3 xs = encTb xs := by
  have hl := tbB_len h
  have hc : sealC 3 xs = 0 := sealC_ok (listC_ok (by omega) (intsB_small (tb_all h) (by omega))) rfl
  exact ⟨hc, sealT_ok hc⟩
def clTo (xs : List Int) (k : Nat) : List Int := (xs.take k).filterMap fun e => if 2 ≤ e then some (e - 2) else none
def clA (xs : List Int) : List Int := clTo xs xs.length
theorem clTo_data {xs : List Int} {k : Nat} (hk : k < xs.length) (h : 2 ≤ xs[k]) : clTo xs (k + 1) = clTo xs k ++ [xs[k] - 2] := by
  unfold clTo
  rw [List.take_succ_eq_append_getElem hk, List.filterMap_append]; simp [h]
theorem clTo_none {xs : List Int} {k : Nat} (hk : k < xs.length) (h : ¬ 2 ≤ xs[k]) : clTo xs (k + 1) = clTo xs k := by
  unfold clTo
  rw [List.take_succ_eq_append_getElem hk, List.filterMap_append]; simp [h]
theorem clTo_len (xs : List Int) (k : Nat) : (clTo xs k).length ≤ k := by
  unfold clTo
  refine Nat.le_trans (List.length_filterMap_le _ _) ?_
  rw [List.length_take]; omega
end Go.Proofs.YtpdpnepnfhbonaaGreat

namespace Go.Proofs.YtpdpnepnfhbonaaGreat
open Go.RowKit
set_option linter.unusedVariables false
set_option maxRecDepth 100000

structure Snp where
  name : ByteArray
  table : List Int
structure Img where
  refs : List Int
  table : List Int
  snaps : List Snp
  data : List Int

def nm1 (b : UInt8) : Bool := decide (97 ≤ b.toNat) && decide (b.toNat ≤ 122)
def snmB (t : ByteArray) : Bool := t.data.toList.all nm1 && betw (t.size : Int) 1 6
def incr (ns : List Int) (c : Int) : List Int := ns.set c.toNat (ns.getD c.toNat 0 + 1)
def cnt1T (ns : List Int) (t : List Int) : List Int := (clA t).foldl incr ns
def imTabs (m : Img) : List (List Int) := m.table :: m.snaps.map (·.table)
def imCnt (m : Img) : List Int := (imTabs m).foldl cnt1T zero24
theorem incr_len (ns : List Int) (c : Int) : (incr ns c).length = ns.length := by simp [incr]
theorem cnt1T_len (t : List Int) : ∀ ns : List Int, (cnt1T ns t).length = ns.length := by
  unfold cnt1T
  induction clA t with
  | nil => intro ns; rfl
  | cons c cs ih => intro ns; rw [List.foldl_cons, ih, incr_len]
theorem imCnt_len (m : Img) : (imCnt m).length = 24 := by
  unfold imCnt
  have h : ∀ (ts : List (List Int)) (ns : List Int), (ts.foldl cnt1T ns).length = ns.length := by
    intro ts
    induction ts with
    | nil => intro ns; rfl
    | cons t ts ih => intro ns; rw [List.foldl_cons, ih, cnt1T_len]
  rw [h]; rfl
def namesB (ss : List Snp) : Bool := decide ((ss.map (·.name)).Nodup)
def imFm (m : Img) : Bool := ctB m.refs && tbB m.table && decide (m.snaps.length ≤ 3) && decide (m.data.length = 24) && m.snaps.all (fun s => snmB s.name && tbB s.table) && namesB m.snaps && m.data.all numB
def onceB (t : List Int) : Bool := decide (clA t).Nodup
def clearB (m : Img) : Bool := (List.range 24).all fun i => decide (m.refs.getD i 0 = 0 → m.data.getD i 0 = 0)
def imB (m : Img) : Bool := imFm m && (imTabs m).all onceB && decide (imCnt m = m.refs) && clearB m

structure ImR (m : Img) : Prop where
  refs : ctB m.refs = true
  table : tbB m.table = true
  few : m.snaps.length ≤ 3
  len : m.data.length = 24
  snaps : ∀ s ∈ m.snaps, snmB s.name = true ∧ tbB s.table = true
  names : (m.snaps.map (·.name)).Nodup
  nums : ∀ n ∈ m.data, numB n = true
  once : ∀ t ∈ imTabs m, (clA t).Nodup
  cnt : imCnt m = m.refs
  clear : ∀ i, i < 24 → m.refs.getD i 0 = 0 → m.data.getD i 0 = 0
theorem imB_iff {m : Img} : imB m = true ↔ ImR m := by
  constructor
  · intro h
    simp only [imB, imFm, namesB, onceB, clearB, Bool.and_eq_true, decide_eq_true_eq, List.all_eq_true, List.mem_range] at h
    obtain ⟨⟨⟨⟨⟨⟨⟨⟨⟨h1, h2⟩, h3⟩, h4⟩, h5⟩, h6⟩, h7⟩, h8⟩, h9⟩, h10⟩ := h
    exact ⟨h1, h2, h3, h4, h5, h6, h7, h8, h9, h10⟩
  · intro h
    simp only [imB, imFm, namesB, onceB, clearB, Bool.and_eq_true, decide_eq_true_eq, List.all_eq_true, List.mem_range]
    exact ⟨⟨⟨⟨⟨⟨⟨⟨⟨h.refs, h.table⟩, h.few⟩, h.len⟩, h.snaps⟩, h.names⟩, h.nums⟩, h.once⟩, h.cnt⟩, h.clear⟩

def imFind (m : Img) (name : ByteArray) : Nat := m.snaps.findIdx (fun s => decide (s.name = name))
end Go.Proofs.YtpdpnepnfhbonaaGreat

namespace Go.Proofs.YtpdpnepnfhbonaaGreat
open Go.RowKit
set_option linter.unusedVariables false
set_option maxRecDepth 100000

def Sns (w : World) (ao : Option Addr) (ss : List Snp) : Prop := ∀ i (h : i < ss.length), ∃ b off tq tc, ao = some ⟨b, off, none⟩ ∧ w.cell? ⟨b, off + i * 2, none⟩ = some (.string ss[i].name) ∧ w.cell? ⟨b, off + i * 2 + 1, none⟩ = some (.slice tq ss[i].table.length tc) ∧ Is w tq ss[i].table ∧ ss[i].name.size ≤ maxLen ∧ ss[i].table.length ≤ maxLen
theorem Sns.below {w w' : World} {ao : Option Addr} {ss : List Snp} (h : Sns w ao ss) (hb : Below w.heap.size w w') : Sns w' ao ss := fun i hi => by
  obtain ⟨b, off, tq, tc, e, h0, h1, h2, h3, h4⟩ := h i hi
  have hl := World.block_lt_of_cell? _ _ h0
  exact ⟨b, off, tq, tc, e, (hb.cell (p := ⟨b, off + i * 2, none⟩) hl).trans h0, (hb.cell (p := ⟨b, off + i * 2 + 1, none⟩) hl).trans h1, h2.below hb, h3, h4⟩
structure Im4 where
  ro : Option Addr
  rc : Nat
  tq : Option Addr
  tc : Nat
  so : Option Addr
  sc : Nat
  dq : Option Addr
  dc : Nat
abbrev imV (a : Im4) (m : Img) : Value := .agg #[.slice a.ro m.refs.length a.rc, .slice a.tq m.table.length a.tc, .slice a.so m.snaps.length a.sc, .slice a.dq m.data.length a.dc]
abbrev snV (s : Snp) (tq : Option Addr) (tc : Nat) : Value := .agg #[.string s.name, .slice tq s.table.length tc]
structure ImS (w : World) (a : Im4) (m : Img) : Prop where
  r : Is w a.ro m.refs
  t : Is w a.tq m.table
  s : Sns w a.so m.snaps
  d : Is w a.dq m.data
theorem ImS.below {w w' : World} {a : Im4} {m : Img} (h : ImS w a m) (hb : Below w.heap.size w w') : ImS w' a m := ⟨h.r.below hb, h.t.below hb, h.s.below hb, h.d.below hb⟩
def sn1 (s : Snp) : Nat := s.name.size + s.table.length
def snSz (ss : List Snp) : Nat := (ss.map sn1).sum
def imSz (m : Img) : Nat := m.refs.length + m.table.length + (m.snaps.length + snSz m.snaps) + m.data.length
theorem snSz_take {ss : List Snp} {k : Nat} (h : k < ss.length) : snSz (ss.take (k + 1)) = snSz (ss.take k) + sn1 ss[k] := by
  unfold snSz
  rw [List.take_succ_eq_append_getElem h, List.map_append, List.sum_append]; simp
theorem sn_le {ss : List Snp} {k : Nat} (h : k < ss.length) : sn1 ss[k] ≤ snSz ss := by
  have e := snSz_take h
  have : ∀ (xs : List Snp) (n : Nat), snSz (xs.take n) ≤ snSz xs := by
    intro xs n
    have h2 : snSz xs = snSz (xs.take n) + snSz (xs.drop n) := by
      unfold snSz
      rw [← List.sum_append, ← List.map_append, List.take_append_drop]
    omega
  have := this ss (k + 1)
  omega

end Go.Proofs.YtpdpnepnfhbonaaGreat
