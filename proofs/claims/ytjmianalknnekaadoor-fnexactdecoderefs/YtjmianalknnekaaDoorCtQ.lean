/- Counts out of their record, plainly. -/
import Derived.Test.YtjmianalknnekaaDoorGen
import Derived.Test.YtjmianalknnekaaDoorInts
import Derived.Test.YtjmianalknnekaaDoorUnP
import Derived.Test.YtjmianalknnekaaDoorRecM
import Derived.Test.YtjmianalknnekaaDoorOpenS
import Derived.Test.YtjmianalknnekaaDoorUnPk
import Derived.Test.YtjmianalknnekaaDoorCtP
namespace Go.Proofs.YtjmianalknnekaaDoor
open Go.RowKit
set_option linter.unusedVariables false
set_option maxRecDepth 100000

/-- The first counts of a number, and what is left of it. -/
def sxT (p : Int) (m : Nat) : List Int := (List.range m).map fun i => p / 16 ^ i % 16
theorem sxT_len (p : Int) (m : Nat) : (sxT p m).length = m := by simp [sxT]
theorem sxT_succ (p : Int) (m : Nat) : sxT p (m + 1) = sxT p m ++ [p / 16 ^ m % 16] := by simp [sxT, List.range_succ]
theorem rest_succ (p : Int) (m : Nat) : p / 16 ^ m / 16 = p / 16 ^ (m + 1) := by
  rw [show (16 : Int) ^ (m + 1) = 16 ^ m * 16 from Int.pow_succ 16 m, Int.ediv_ediv_of_nonneg (by exact Int.le_of_lt (Int.pow_pos (by omega)))]
theorem rest_in {p : Int} (h0 : 0 ≤ p) (h1 : p ≤ 2147483647) : ∀ m, 0 ≤ p / 16 ^ m ∧ p / 16 ^ m ≤ 2147483647
  | 0 => by simpa using ⟨h0, h1⟩
  | m + 1 => by
    obtain ⟨g0, g1⟩ := rest_in h0 h1 m
    rw [← rest_succ]
    generalize p / 16 ^ m = V at *
    omega
/-- The counts of the first numbers. -/
def sxA (ns : List Int) (i : Nat) : List Int := (ns.take i).flatMap fun p => sxT p 6
theorem sxA_len (ns : List Int) : ∀ i, i ≤ ns.length → (sxA ns i).length = 6 * i
  | 0, _ => by simp [sxA]
  | i + 1, h => by
    have := sxA_len ns i (by omega)
    unfold sxA at *
    rw [List.take_succ_eq_append_getElem (by omega), List.flatMap_append, List.length_append, this]
    simp [sxT_len]; omega
theorem sxA_succ {ns : List Int} {i : Nat} (h : i < ns.length) : sxA ns i ++ sxT ns[i] 6 = sxA ns (i + 1) := by
  unfold sxA
  rw [List.take_succ_eq_append_getElem h, List.flatMap_append]; simp
/-- A list of 24: what is there, and zeros behind it. -/
def pad24 (xs : List Int) : List Int := xs ++ List.replicate (24 - xs.length) 0
theorem pad_len {xs : List Int} (h : xs.length ≤ 24) : (pad24 xs).length = 24 := by simp [pad24]; omega
theorem pad_nil : pad24 [] = zero24 := rfl
theorem pad_full {xs : List Int} (h : xs.length = 24) : pad24 xs = xs := by simp [pad24, h]
theorem pad_set {xs : List Int} (h : xs.length < 24) (n : Int) : (pad24 xs).set xs.length n = pad24 (xs ++ [n]) := by
  unfold pad24
  rw [List.set_append, if_neg (by omega), Nat.sub_self, List.append_assoc]
  obtain ⟨k, hk⟩ : ∃ k, 24 - xs.length = k + 1 := ⟨24 - xs.length - 1, by omega⟩
  rw [hk, List.replicate_succ, List.set_cons_zero, List.length_append, show 24 - (xs.length + [n].length) = k by simp; omega]
  rfl
/-- What a text says of counts. -/
def cdN (p : Int) : Bool := decide (p / 16 ^ 6 = 0)
def cdB (s : ByteArray) : Bool := openB s 2 && decide ((openL s 2).length = 4) && (openL s 2).all cdN
def cdL (s : ByteArray) : List Int := sxA (openL s 2) 4
def cdC (s : ByteArray) : Int := if 65536 < s.size then 2 else if cdB s = true then 0 else 3
def cdR (s : ByteArray) : List Int := if cdC s = 0 then cdL s else []
theorem cd_open {s : ByteArray} (h : openB s 2 = false) : cdB s = false := by rw [cdB, h]; rfl
theorem cd_len {s : ByteArray} (h : ¬ (openL s 2).length = 4) : cdB s = false := by rw [cdB, decide_eq_false h]; simp
theorem cd_num {s : ByteArray} {k : Nat} (hk : k < (openL s 2).length) (h : cdN (openL s 2)[k] = false) : cdB s = false := by rw [cdB, all_not (p := cdN) hk h]; simp
theorem cd_yes {s : ByteArray} (h : openB s 2 = true) (hl : (openL s 2).length = 4) (ha : ∀ j (hj : j < (openL s 2).length), cdN (openL s 2)[j] = true) : cdB s = true := by
  rw [cdB, h, decide_eq_true hl, all_of (p := cdN) (fun i hi _ => ha i hi)]; rfl
theorem cdB_parts {s : ByteArray} (h : cdB s = true) : openB s 2 = true ∧ (openL s 2).length = 4 ∧ ∀ j (hj : j < (openL s 2).length), cdN (openL s 2)[j] = true := by
  simp only [cdB, Bool.and_eq_true, decide_eq_true_eq, List.all_eq_true] at h
  exact ⟨h.1.1, h.1.2, fun j hj => h.2 _ (List.getElem_mem hj)⟩
theorem cdL_len {s : ByteArray} (h : cdB s = true) : (cdL s).length = 24 := by
  obtain ⟨_, h4, _⟩ := cdB_parts h
  rw [cdL, sxA_len _ _ (by omega)]
theorem cd_long {s : ByteArray} (h : 65536 < s.size) : cdC s = 2 ∧ cdR s = [] := by
  have e : cdC s = 2 := if_pos h
  exact ⟨e, by rw [cdR, e]; rfl⟩
theorem cd_no {s : ByteArray} (h : ¬ 65536 < s.size) (hb : cdB s = false) : cdC s = 3 ∧ cdR s = [] := by
  have e : cdC s = 3 := by rw [cdC, if_neg h, hb]; rfl
  exact ⟨e, by rw [cdR, e]; rfl⟩
theorem cd_ok {s : ByteArray} (h : ¬ 65536 < s.size) (hb : cdB s = true) : cdC s = 0 ∧ cdR s = cdL s := by
  have e : cdC s = 0 := by rw [cdC, if_neg h, hb]; rfl
  exact ⟨e, by rw [cdR, e]; rfl⟩
theorem cdR_len (s : ByteArray) : (cdR s).length ≤ 24 := by
  by_cases h : 65536 < s.size
  · rw [(cd_long h).2]; exact Nat.zero_le _
  · cases hb : cdB s
    · rw [(cd_no h hb).2]; exact Nat.zero_le _
    · rw [(cd_ok h hb).2, cdL_len hb]; exact Nat.le_refl _
theorem openL_in {s : ByteArray} {k : Int} (h : openB s k = true) : ∀ j (hj : j < (openL s k).length), 0 ≤ (openL s k)[j] ∧ (openL s k)[j] ≤ 2147483647 := by
  intro j hj
  have hr : RecP s := by
    cases hq : recB s
    · rw [openB, hq] at h; cases h
    · exact recB_iff.1 hq
  rw [openL_yes h] at hj
  simp only [openL_yes h]
  have hu : okU (bodyT s) = true := hr.2.2.2.2.2
  exact (intsB_parts (okU_parts hu).2.2).1 j hj

end Go.Proofs.YtjmianalknnekaaDoor
