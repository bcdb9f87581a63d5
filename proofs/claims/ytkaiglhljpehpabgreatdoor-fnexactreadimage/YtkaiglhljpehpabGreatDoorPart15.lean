import Derived.Test.YtkaiglhljpehpabGreatDoorRows
import Derived.Test.YtkaiglhljpehpabGreatDoorPart1
import Derived.Test.YtkaiglhljpehpabGreatDoorPart13
import Derived.Test.YtkaiglhljpehpabGreatDoorPart14
import Derived.WalkKit
import Derived.WalkSpells
import Derived.Test.YtkaiglhljpehpabGreatDoorPart2
import Derived.Test.YtkaiglhljpehpabGreatDoorPart3
import Derived.Test.YtkaiglhljpehpabGreatDoorPart4

/- What lands comes out of what was there; the bounds of a right disk. -/
namespace Go.Proofs.YtkaiglhljpehpabGreatDoor
open Go.RowKit
set_option linter.unusedVariables false

/-- What lands comes out of what was there. -/
theorem land_inv (h : Int) (lost : Bool) (P : ByteArray → Prop) : ∀ (xs : List Wr) (SS : List ByteArray) (LX : List Wr) (N : Int), (∀ s ∈ SS, P s) → (∀ x ∈ xs, P x.data) → (∀ x ∈ LX, P x.data) →
    (∀ s ∈ (xs.foldl (stepF h lost) (SS, LX, N)).1, P s) ∧ (∀ x ∈ (xs.foldl (stepF h lost) (SS, LX, N)).2.1, P x.data) ∧ (xs.foldl (stepF h lost) (SS, LX, N)).1.length = SS.length ∧ (xs.foldl (stepF h lost) (SS, LX, N)).2.1.length ≤ LX.length + xs.length
  | [], SS, LX, N, h1, _, h3 => ⟨h1, h3, rfl, Nat.le_refl _⟩
  | x :: xs, SS, LX, N, h1, h2, h3 => by
    have hx := h2 x (List.mem_cons_self ..)
    have hr : ∀ y ∈ xs, P y.data := fun y hy => h2 y (List.mem_cons_of_mem _ hy)
    have happ : ∀ y ∈ LX ++ [x], P y.data := by
      intro y hy
      rcases List.mem_append.1 hy with h | h
      · exact h3 y h
      · simp at h; subst h; exact hx
    have hset : ∀ s ∈ SS.set x.at_.toNat x.data, P s := by
      intro s hs
      rcases List.mem_or_eq_of_mem_set hs with h | h
      · exact h1 s h
      · rw [h]; exact hx
    rw [List.foldl_cons]
    by_cases ha : x.host = h
    · by_cases hn : 0 < N
      · rw [step_land ha SS LX hn]
        obtain ⟨q1, q2, q3, q4⟩ := land_inv h lost P xs (SS.set x.at_.toNat x.data) LX (N - 1) hset hr h3
        exact ⟨q1, q2, by rw [q3, List.length_set], by simp only [List.length_cons]; omega⟩
      · cases lost
        · rw [step_keep ha SS LX hn]
          obtain ⟨q1, q2, q3, q4⟩ := land_inv h false P xs SS (LX ++ [x]) N h1 hr happ
          exact ⟨q1, q2, q3, by simp only [List.length_cons, List.length_append, List.length_nil] at q4 ⊢; omega⟩
        · rw [step_drop ha SS LX hn]
          obtain ⟨q1, q2, q3, q4⟩ := land_inv h true P xs SS LX N h1 hr h3
          exact ⟨q1, q2, q3, by simp only [List.length_cons]; omega⟩
    · rw [step_other ha SS LX N]
      obtain ⟨q1, q2, q3, q4⟩ := land_inv h lost P xs SS (LX ++ [x]) N h1 hr happ
      exact ⟨q1, q2, q3, by simp only [List.length_cons, List.length_append, List.length_nil] at q4 ⊢; omega⟩
theorem landF_inv {h n : Int} {lost : Bool} {ss : List ByteArray} {xs : List Wr} (P : ByteArray → Prop) (h1 : ∀ s ∈ ss, P s) (h2 : ∀ x ∈ xs, P x.data) :
    (∀ s ∈ (landF h lost ss xs n).1, P s) ∧ (∀ x ∈ (landF h lost ss xs n).2.1, P x.data) ∧ (landF h lost ss xs n).1.length = ss.length ∧ (landF h lost ss xs n).2.1.length ≤ xs.length := by
  have := land_inv h lost P xs ss [] n h1 h2 (fun _ h => by cases h)
  simpa [landF] using this

theorem diskB_at {ss : List ByteArray} {xs : List Wr} (h : diskB ss xs = true) : ∀ i (hi : i < xs.length), 0 ≤ xs[i].at_ ∧ xs[i].at_ < ss.length := by
  intro i hi
  have hl := (diskB_len h).1
  simp only [diskB, penB, Bool.and_eq_true, List.all_eq_true] at h
  have := h.2.2 xs[i] (List.getElem_mem hi)
  simp only [ioB, Bool.and_eq_true, decide_eq_true_eq] at this
  omega

/-- What Flush answers. -/
def flS (ss : List ByteArray) (xs : List Wr) (h : Int) : List ByteArray := if hostC ss xs h = 0 then (landF h false ss xs 200).1 else []
def flX (ss : List ByteArray) (xs : List Wr) (h : Int) : List Wr := if hostC ss xs h = 0 then (landF h false ss xs 200).2.1 else []
theorem fl_ok {ss : List ByteArray} {xs : List Wr} {h : Int} (h1 : hostC ss xs h = 0) : flS ss xs h = (landF h false ss xs 200).1 ∧ flX ss xs h = (landF h false ss xs 200).2.1 := by simp [flS, flX, h1]
theorem fl_bad {ss : List ByteArray} {xs : List Wr} {h : Int} (h1 : ¬ hostC ss xs h = 0) : flS ss xs h = [] ∧ flX ss xs h = [] := by simp [flS, flX, h1]
theorem landF_slen {h n : Int} {lost : Bool} {ss : List ByteArray} {xs : List Wr} : (landF h lost ss xs n).1.length = ss.length := (landF_inv (fun _ => True) (fun _ _ => trivial) (fun _ _ => trivial)).2.2.1

end Go.Proofs.YtkaiglhljpehpabGreatDoor

/- Flush: contracts of the model and of the program. -/
namespace Go.Proofs.YtkaiglhljpehpabGreatDoor
open Go.RowKit
set_option linter.unusedVariables false

end Go.Proofs.YtkaiglhljpehpabGreatDoor

/- Contract of impl.dropWrites: a host's writes are gone; and that what lands with the others lost is what lands, the host's writes dropped. -/
namespace Go.Proofs.YtkaiglhljpehpabGreatDoor
open Go.RowKit
set_option linter.unusedVariables false

/-- The writes of other hosts. -/
def dropF (h : Int) (xs : List Wr) : List Wr := xs.filter fun x => x.host != h
theorem dropF_succ_hit {h : Int} {xs : List Wr} {k : Nat} (hk : k < xs.length) (he : xs[k].host = h) : dropF h (xs.take (k + 1)) = dropF h (xs.take k) := by
  rw [dropF, dropF, List.take_succ_eq_append_getElem hk, List.filter_append]; simp [he]
theorem dropF_succ_miss {h : Int} {xs : List Wr} {k : Nat} (hk : k < xs.length) (he : ¬ xs[k].host = h) : dropF h (xs.take (k + 1)) = dropF h (xs.take k) ++ [xs[k]] := by
  rw [dropF, dropF, List.take_succ_eq_append_getElem hk, List.filter_append]; simp [he]
theorem land_drop (h : Int) : ∀ (xs : List Wr) (SS : List ByteArray) (LX : List Wr) (N : Int), xs.foldl (stepF h true) (SS, dropF h LX, N) = ((xs.foldl (stepF h false) (SS, LX, N)).1, dropF h (xs.foldl (stepF h false) (SS, LX, N)).2.1, (xs.foldl (stepF h false) (SS, LX, N)).2.2)
  | [], SS, LX, N => rfl
  | x :: xs, SS, LX, N => by
    rw [List.foldl_cons, List.foldl_cons]
    by_cases ha : x.host = h
    · by_cases hn : 0 < N
      · rw [step_land ha SS LX hn, step_land ha SS (dropF h LX) hn]
        exact land_drop h xs _ _ _
      · rw [step_keep ha SS LX hn, step_drop ha SS (dropF h LX) hn]
        have : dropF h LX = dropF h (LX ++ [x]) := by simp [dropF, ha]
        rw [this]
        exact land_drop h xs _ _ _
    · rw [step_other ha SS LX N, step_other ha SS (dropF h LX) N]
      have : dropF h LX ++ [x] = dropF h (LX ++ [x]) := by simp [dropF, ha]
      rw [this]
      exact land_drop h xs _ _ _
theorem landF_lost (h n : Int) (ss : List ByteArray) (xs : List Wr) : (landF h true ss xs n).1 = (landF h false ss xs n).1 ∧ (landF h true ss xs n).2.1 = dropF h (landF h false ss xs n).2.1 := by
  have := land_drop h xs ss [] n
  have e : landF h true ss xs n = xs.foldl (stepF h true) (ss, dropF h [], n) := rfl
  rw [e, this]
  exact ⟨rfl, rfl⟩

end Go.Proofs.YtkaiglhljpehpabGreatDoor

/- LoseHost: contracts of the model and of the program. -/
namespace Go.Proofs.YtkaiglhljpehpabGreatDoor
open Go.RowKit
set_option linter.unusedVariables false

/-- What LoseHost answers. -/
def loS (ss : List ByteArray) (xs : List Wr) (h k : Int) : List ByteArray := if hostC ss xs h = 0 then (if inB k 0 200 = true then (landF h true ss xs k).1 else []) else []
def loX (ss : List ByteArray) (xs : List Wr) (h k : Int) : List Wr := if hostC ss xs h = 0 then (if inB k 0 200 = true then (landF h true ss xs k).2.1 else []) else []
def loC (ss : List ByteArray) (xs : List Wr) (h k : Int) : Int := if hostC ss xs h = 0 then (if inB k 0 200 = true then 0 else 4) else hostC ss xs h
theorem lo_ok {ss : List ByteArray} {xs : List Wr} {h k : Int} (h1 : hostC ss xs h = 0) (h2 : inB k 0 200 = true) : loS ss xs h k = (landF h true ss xs k).1 ∧ loX ss xs h k = (landF h true ss xs k).2.1 ∧ loC ss xs h k = 0 := by simp [loS, loX, loC, h1, h2]
theorem lo_range {ss : List ByteArray} {xs : List Wr} {h k : Int} (h1 : hostC ss xs h = 0) (h2 : inB k 0 200 = false) : loS ss xs h k = [] ∧ loX ss xs h k = [] ∧ loC ss xs h k = 4 := by simp [loS, loX, loC, h1, h2]
theorem lo_bad {ss : List ByteArray} {xs : List Wr} {h k : Int} (h1 : ¬ hostC ss xs h = 0) : loS ss xs h k = [] ∧ loX ss xs h k = [] ∧ loC ss xs h k = hostC ss xs h := by simp [loS, loX, loC, h1]
theorem inB_eq {k a b : Int} (h : inB k a b = true) : a ≤ k ∧ k ≤ b := by simpa [inB] using h
theorem inB_ne {k a b : Int} (h : inB k a b = false) (hk : ¬ k < a) : b < k := by
  simp [inB] at h
  omega

end Go.Proofs.YtkaiglhljpehpabGreatDoor

/- Plain words of journals: updates, their texts, slots, moves. -/
namespace Go.Proofs.YtkaiglhljpehpabGreatDoor
open Go.RowKit
set_option linter.unusedVariables false

structure Up where
  at_ : Int
  data : ByteArray
theorem Up.eq_iff {x y : Up} : x = y ↔ x.at_ = y.at_ ∧ x.data = y.data := by
  cases x; cases y; simp
abbrev uV (u : Up) : Value := .agg #[.int .i64 u.at_, .string u.data]
def up0 : Up := ⟨0, ⟨#[]⟩⟩
def upB (u : Up) : Bool := inB u.at_ 9 38 && decide (u.data.size ≤ 72)
theorem upB_iff {u : Up} : upB u = true ↔ (9 ≤ u.at_ ∧ u.at_ ≤ 38) ∧ u.data.size ≤ 72 := by
  simp only [upB, inB, Bool.and_eq_true, decide_eq_true_eq]
/-- Its text. -/
def encU (u : Up) : ByteArray := sealS 8 [u.at_] ++ u.data
theorem encU_size (u : Up) : (encU u).size = 8 + u.data.size := by rw [encU, ByteArray.size_append, sealS_size]; rfl
def euC (u : Up) : Int := if upB u = true then 0 else 1
def euR (u : Up) : ByteArray := if upB u = true then encU u else ⟨#[]⟩
/-- What a text says. -/
abbrev duH (t : ByteArray) : ByteArray := t.extract 0 8
abbrev duT (t : ByteArray) : ByteArray := t.extract 8 t.size
def duL (t : ByteArray) : List Int := openL (duH t) 8
def duX (t : ByteArray) : Up := ⟨(duL t).getD 0 0, duT t⟩
def duB (t : ByteArray) : Bool := decide (8 ≤ t.size) && (openB (duH t) 8 && upB (duX t))
def duU (t : ByteArray) : Up := if duB t = true then duX t else up0
theorem duH_size {t : ByteArray} (h : 8 ≤ t.size) : (duH t).size = 8 := by simp [duH]; omega
theorem duT_size (t : ByteArray) : (duT t).size = t.size - 8 := by simp [duT]
theorem duB_short {t : ByteArray} (h : t.size < 8) : duB t = false := by simp [duB]; omega
theorem duB_open {t : ByteArray} (h : openB (duH t) 8 = false) : duB t = false := by simp [duB, h]
theorem duL_one {t : ByteArray} (h : 8 ≤ t.size) (ho : openB (duH t) 8 = true) : (duL t).length = 1 := by
  rw [duL, openL_yes ho, unL_length, bodyT_size, duH_size h]
theorem duL_eq {t : ByteArray} (h : 8 ≤ t.size) (ho : openB (duH t) 8 = true) : duL t = [(duX t).at_] := by
  have := duL_one h ho
  show duL t = [(duL t).getD 0 0]
  match hq : duL t, this with
  | [a], _ => rfl
theorem duX_at {t : ByteArray} {a : Int} (h : duL t = [a]) : duX t = ⟨a, duT t⟩ := by rw [duX, h]; rfl
theorem duB_at {t : ByteArray} (h : 8 ≤ t.size) (ho : openB (duH t) 8 = true) : duB t = upB (duX t) := by simp [duB, ho, h]
theorem du_no {t : ByteArray} (h : duB t = false) : duU t = up0 := by simp [duU, h]
theorem du_yes {t : ByteArray} (h : duB t = true) : duU t = duX t := if_pos h
theorem duB_parts {t : ByteArray} (h : duB t = true) : 8 ≤ t.size ∧ openB (duH t) 8 = true ∧ upB (duX t) = true := by
  simpa [duB, and_assoc] using h
theorem du_right {t : ByteArray} (h : duB t = true) : upB (duU t) = true := by rw [du_yes h]; exact (duB_parts h).2.2
/-- What DecodeUpdate answers. -/
def dkC (t : ByteArray) : Int := if 65536 < t.size then 2 else if duB t = true then 0 else 3
def dkU (t : ByteArray) : Up := if 65536 < t.size then up0 else duU t
theorem dk_long {t : ByteArray} (h : 65536 < t.size) : dkU t = up0 ∧ dkC t = 2 := ⟨if_pos h, if_pos h⟩
theorem dk_no {t : ByteArray} (h : ¬ 65536 < t.size) (hd : duB t = false) : dkU t = up0 ∧ dkC t = 3 := ⟨(if_neg h).trans (du_no hd), (if_neg h).trans (if_neg (by simp [hd]))⟩
theorem dk_yes {t : ByteArray} (h : ¬ 65536 < t.size) (hd : duB t = true) : dkU t = duU t ∧ dkC t = 0 := ⟨if_neg h, (if_neg h).trans (if_pos hd)⟩
theorem ret_ui {a b : Up} {x y : Int} (h : a = b) (k : x = y) : Ending.returned (.tuple #[uV a, .int .i64 x]) = .returned (.tuple #[uV b, .int .i64 y]) := by rw [h, k]
theorem ret_ub {a b : Up} {x y : Bool} (h : a = b) (k : x = y) : Ending.returned (.tuple #[uV a, .bool x]) = .returned (.tuple #[uV b, .bool y]) := by rw [h, k]
theorem ret_su {a b : ByteArray} {c d : Int} (h : a = b) (k : c = d) : Ending.returned (.tuple #[.string a, .int .i64 c]) = .returned (.tuple #[.string b, .int .i64 d]) := by rw [h, k]
/-- One in a variable. -/
def VarU (w : World) (x : Nat) (t : TypeId) (u : Up) : Prop := w.heap[x]? = some (.cells #[.int .i64 u.at_, .string u.data] t (0, 0))
theorem VarU.lt {w : World} {x t : Nat} {u : Up} (k : VarU w x t u) : x < w.heap.size := (Array.getElem?_eq_some_iff.1 k).1
theorem VarU.cells {w : World} {x t : Nat} {u : Up} (k : VarU w x t u) : w.cell? ⟨x, 0, none⟩ = some (.int .i64 u.at_) ∧ w.cell? ⟨x, 1, none⟩ = some (.string u.data) := ⟨by rw [Joins.cell_of_block k]; rfl, by rw [Joins.cell_of_block k]; rfl⟩
theorem VarU.free {w : World} {x t : Nat} {u : Up} (k : VarU w x t u) : w.frozen? ⟨x, 0, none⟩ = false ∧ w.frozen? ⟨x, 1, none⟩ = false := ⟨Joins.unfrozen_of_block k 0, Joins.unfrozen_of_block k 1⟩
theorem VarU.below {w w' : World} {x t : Nat} {u : Up} (k : VarU w x t u) (hb : Below w.heap.size w w') : VarU w' x t u := by
  unfold VarU; rw [hb.block x k.lt]; exact k
theorem VarU.new (w : World) (t : TypeId) (u : Up) : VarU (w.alloc (.cells #[.int .i64 u.at_, .string u.data] t)) w.heap.size t u := heap_alloc_new w _
theorem below2 {w0 w : World} {B g : Nat} (h : Below B w0 w) (hg : B ≤ g) (i j : Nat) (u v : Value) : Below B w0 ((w.setCell ⟨g, i, none⟩ u).setCell ⟨g, j, none⟩ v) :=
  (h.setCell (p := ⟨g, i, none⟩) hg u).setCell (p := ⟨g, j, none⟩) hg v

theorem u1_nums {u : Up} (hd : upB u = true) : ∀ j (hj : j < [u.at_].length), 0 ≤ [u.at_][j] ∧ [u.at_][j] ≤ 2147483647 := by
  obtain ⟨h1, h2⟩ := upB_iff.1 hd
  intro j hj
  have hj' : j < 1 := hj
  rcases (show j = 0 by omega) with rfl
  simp; omega
theorem u1_ints {u : Up} (hd : upB u = true) : intsB [u.at_] = true := by
  obtain ⟨h1, h2⟩ := upB_iff.1 hd
  rw [intsB_len]
  · rfl
  · intro j hj
    have hj' : j < 1 := hj
    rcases (show j = 0 by omega) with rfl
    simp [numB, inB]; omega
theorem u1_seal {u : Up} (hd : upB u = true) : sealC 8 [u.at_] = 0 ∧ sealT 8 [u.at_] = sealS 8 [u.at_] := by
  have hc : sealC 8 [u.at_] = 0 := sealC_ok (listC_ok (by simp) (u1_ints hd)) rfl
  exact ⟨hc, sealT_ok hc⟩
/-- A slot's place. -/
def slN (h : Int) : Int := 39 + 6 * h
def slC (h : Int) : Int := if inB h 0 3 = true then 0 else 4
def slR (h : Int) : Int := if inB h 0 3 = true then slN h else 0
theorem is1 (w : World) (n : Nat) (t : TypeId) (a : Int) (hn : w.heap.size = n) : Is (w.alloc (.cells #[.int .i64 a] t)) (some ⟨n, 0, none⟩) [a] := by
  subst hn
  intro i hi
  have hi' : i < 1 := hi
  rcases (show i = 0 by omega) with rfl
  exact ⟨w.heap.size, 0, rfl, by simp [go_sem]⟩
theorem is2 (w : World) (n : Nat) (t : TypeId) (a b : Int) (hn : w.heap.size = n) : Is (w.alloc (.cells #[.int .i64 a, .int .i64 b] t)) (some ⟨n, 0, none⟩) [a, b] := by
  subst hn
  intro i hi
  have hi' : i < 2 := hi
  rcases (show i = 0 ∨ i = 1 by omega) with rfl | rfl
  · exact ⟨w.heap.size, 0, rfl, by simp [go_sem]⟩
  · exact ⟨w.heap.size, 0, rfl, by simp [go_sem]⟩
end Go.Proofs.YtkaiglhljpehpabGreatDoor

/- Counts out of their record, plainly. -/
namespace Go.Proofs.YtkaiglhljpehpabGreatDoor
open Go.RowKit
set_option linter.unusedVariables false
set_option maxRecDepth 100000

/-- The first counts of a number, and what is left of it. -/
def sxT (p : Int) (m : Nat) : List Int := (List.range m).map fun i => p / 16 ^ i % 16
theorem sxT_len (p : Int) (m : Nat) : (sxT p m).length = m := by simp [sxT]
theorem sxT_succ (p : Int) (m : Nat) : sxT p (m + 1) = sxT p m ++ [p / 16 ^ m % 16] := by simp [sxT, List.range_succ]
theorem rest_succ (p : Int) (m : Nat) : p / 16 ^ m / 16 = p / 16 ^ (m + 1) := by
  rw [show (16 : Int) ^ (m + 1) = 16 ^ m * 16 from Int.pow_succ 16 m, Int.ediv_ediv_of_nonneg (by exact Int.le_of_lt (Int.pow_pos (by omega)))]
theorem rest_in {p : Int} (h0 : 0 ≤ p) (h1 : p ≤ 2147483647) : ∀ m, 0 ≤ p / 16 ^ m ∧ p / 16 ^ m ≤ 2147483647
  | 0 => by simpa using ⟨h0, h1⟩
  | m + 1 => by
    obtain ⟨g0, g1⟩ := rest_in h0 h1 m
    rw [← rest_succ]
    generalize p / 16 ^ m = V at *
    omega
/-- The counts of the first numbers. -/
def sxA (ns : List Int) (i : Nat) : List Int := (ns.take i).flatMap fun p => sxT p 6
theorem sxA_len (ns : List Int) : ∀ i, i ≤ ns.length → (sxA ns i).length = 6 * i
  | 0, _ => by simp [sxA]
  | i + 1, h => by
    have := sxA_len ns i (by omega)
    unfold sxA at *
    rw [List.take_succ_eq_append_getElem (by omega), List.flatMap_append, List.length_append, this]
    simp [sxT_len]; omega
theorem sxA_succ {ns : List Int} {i : Nat} (h : i < ns.length) : sxA ns i ++ sxT ns[i] 6 = sxA ns (i + 1) := by
  unfold sxA
  rw [List.take_succ_eq_append_getElem h, List.flatMap_append]; simp
/-- A list of 24: what is there, and zeros behind it. -/
def pad24 (xs : List Int) : List Int := xs ++ List.replicate (24 - xs.length) 0
theorem pad_len {xs : List Int} (h : xs.length ≤ 24) : (pad24 xs).length = 24 := by simp [pad24]; omega
theorem pad_nil : pad24 [] = zero24 := rfl
theorem pad_full {xs : List Int} (h : xs.length = 24) : pad24 xs = xs := by simp [pad24, h]
theorem pad_set {xs : List Int} (h : xs.length < 24) (n : Int) : (pad24 xs).set xs.length n = pad24 (xs ++ [n]) := by
  unfold pad24
  rw [List.set_append, if_neg (by omega), Nat.sub_self, List.append_assoc]
  obtain ⟨k, hk⟩ : ∃ k, 24 - xs.length = k + 1 := ⟨24 - xs.length - 1, by omega⟩
  rw [hk, List.replicate_succ, List.set_cons_zero, List.length_append, show 24 - (xs.length + [n].length) = k by simp; omega]
  rfl
/-- What a text says of counts. -/
def cdN (p : Int) : Bool := decide (p / 16 ^ 6 = 0)
def cdB (s : ByteArray) : Bool := openB s 2 && decide ((openL s 2).length = 4) && (openL s 2).all cdN
def cdL (s : ByteArray) : List Int := sxA (openL s 2) 4
def cdC (s : ByteArray) : Int := if 65536 < s.size then 2 else if cdB s = true then 0 else 3
def cdR (s : ByteArray) : List Int := if cdC s = 0 then cdL s else []
theorem cd_open {s : ByteArray} (h : openB s 2 = false) : cdB s = false := by rw [cdB, h]; rfl
theorem cd_len {s : ByteArray} (h : ¬ (openL s 2).length = 4) : cdB s = false := by rw [cdB, decide_eq_false h]; simp
theorem cd_num {s : ByteArray} {k : Nat} (hk : k < (openL s 2).length) (h : cdN (openL s 2)[k] = false) : cdB s = false := by rw [cdB, all_not (p := cdN) hk h]; simp
theorem cd_yes {s : ByteArray} (h : openB s 2 = true) (hl : (openL s 2).length = 4) (ha : ∀ j (hj : j < (openL s 2).length), cdN (openL s 2)[j] = true) : cdB s = true := by
  rw [cdB, h, decide_eq_true hl, all_of (p := cdN) (fun i hi _ => ha i hi)]; rfl
theorem cdB_parts {s : ByteArray} (h : cdB s = true) : openB s 2 = true ∧ (openL s 2).length = 4 ∧ ∀ j (hj : j < (openL s 2).length), cdN (openL s 2)[j] = true := by
  simp only [cdB, Bool.and_eq_true, decide_eq_true_eq, List.all_eq_true] at h
  exact ⟨h.1.1, h.1.2, fun j hj => h.2 _ (List.getElem_mem hj)⟩
theorem cdL_len {s : ByteArray} (h : cdB s = true) : (cdL s).length = 24 := by
  obtain ⟨_, h4, _⟩ := cdB_parts h
  rw [cdL, sxA_len _ _ (by omega)]
theorem cd_long {s : ByteArray} (h : 65536 < s.size) : cdC s = 2 ∧ cdR s = [] := by
  have e : cdC s = 2 := if_pos h
  exact ⟨e, by rw [cdR, e]; rfl⟩
theorem cd_no {s : ByteArray} (h : ¬ 65536 < s.size) (hb : cdB s = false) : cdC s = 3 ∧ cdR s = [] := by
  have e : cdC s = 3 := by rw [cdC, if_neg h, hb]; rfl
  exact ⟨e, by rw [cdR, e]; rfl⟩
theorem cd_ok {s : ByteArray} (h : ¬ 65536 < s.size) (hb : cdB s = true) : cdC s = 0 ∧ cdR s = cdL s := by
  have e : cdC s = 0 := by rw [cdC, if_neg h, hb]; rfl
  exact ⟨e, by rw [cdR, e]; rfl⟩
theorem cdR_len (s : ByteArray) : (cdR s).length ≤ 24 := by
  by_cases h : 65536 < s.size
  · rw [(cd_long h).2]; exact Nat.zero_le _
  · cases hb : cdB s
    · rw [(cd_no h hb).2]; exact Nat.zero_le _
    · rw [(cd_ok h hb).2, cdL_len hb]; exact Nat.le_refl _
theorem openL_in {s : ByteArray} {k : Int} (h : openB s k = true) : ∀ j (hj : j < (openL s k).length), 0 ≤ (openL s k)[j] ∧ (openL s k)[j] ≤ 2147483647 := by
  intro j hj
  have hr : RecP s := by
    cases hq : recB s
    · rw [openB, hq] at h; cases h
    · exact recB_iff.1 hq
  rw [openL_yes h] at hj
  simp only [openL_yes h]
  have hu : okU (bodyT s) = true := hr.2.2.2.2.2
  exact (intsB_parts (okU_parts hu).2.2).1 j hj

end Go.Proofs.YtkaiglhljpehpabGreatDoor

/- Plain: counts that were encoded are decoded; one up and one down is nothing. -/
namespace Go.Proofs.YtkaiglhljpehpabGreatDoor
open Go.RowKit
set_option linter.unusedVariables false
set_option maxRecDepth 100000

theorem lo_digit {xs : List Int} (i : Nat) (h : ∀ j, 0 ≤ xs.getD j 0 ∧ xs.getD j 0 ≤ 15) (t : Nat) (ht : t < 6) : lo6 xs i 6 / 16 ^ t % 16 = xs.getD (i + t) 0 := by
  have h0 := h (i + 0)
  have h1 := h (i + 1)
  have h2 := h (i + 2)
  have h3 := h (i + 3)
  have h4 := h (i + 4)
  have h5 := h (i + 5)
  simp only [lo6, show (16 : Int) ^ 0 = 1 from rfl, show (16 : Int) ^ 1 = 16 from rfl, show (16 : Int) ^ 2 = 256 from rfl, show (16 : Int) ^ 3 = 4096 from rfl, show (16 : Int) ^ 4 = 65536 from rfl, show (16 : Int) ^ 5 = 1048576 from rfl]
  generalize e0 : xs.getD (i + 0) 0 = a0 at *
  generalize e1 : xs.getD (i + 1) 0 = a1 at *
  generalize e2 : xs.getD (i + 2) 0 = a2 at *
  generalize e3 : xs.getD (i + 3) 0 = a3 at *
  generalize e4 : xs.getD (i + 4) 0 = a4 at *
  generalize e5 : xs.getD (i + 5) 0 = a5 at *
  match t, ht with
  | 0, _ => rw [show (16 : Int) ^ 0 = 1 from rfl, e0]; omega
  | 1, _ => rw [show (16 : Int) ^ 1 = 16 from rfl, e1]; omega
  | 2, _ => rw [show (16 : Int) ^ 2 = 256 from rfl, e2]; omega
  | 3, _ => rw [show (16 : Int) ^ 3 = 4096 from rfl, e3]; omega
  | 4, _ => rw [show (16 : Int) ^ 4 = 65536 from rfl, e4]; omega
  | 5, _ => rw [show (16 : Int) ^ 5 = 1048576 from rfl, e5]; omega
theorem sx_cut {xs : List Int} (hb : ctB xs = true) (i : Nat) (hi : i + 6 ≤ xs.length) : sxT (lo6 xs i 6) 6 = (xs.drop i).take 6 := by
  apply List.ext_getElem
  · rw [sxT_len, List.length_take, List.length_drop]; omega
  · intro t h1 h2
    have h6 : t < 6 := by rw [sxT_len] at h1; exact h1
    refine (show _ = lo6 xs i 6 / 16 ^ t % 16 by simp [sxT]).trans ?_
    rw [lo_digit i (ctB_getD hb) t h6, List.getElem_take, List.getElem_drop]
    simp [List.getD, show i + t < xs.length by omega]
theorem four_cuts {xs : List Int} (hl : xs.length = 24) : (xs.drop 0).take 6 ++ ((xs.drop 6).take 6 ++ ((xs.drop 12).take 6 ++ (xs.drop 18).take 6)) = xs := by
  have a : (xs.drop 18).take 6 = xs.drop 18 := List.take_of_length_le (by rw [List.length_drop]; omega)
  have b : (xs.drop 12).take 6 ++ xs.drop 18 = xs.drop 12 := by
    have := List.take_append_drop 6 (xs.drop 12)
    rw [List.drop_drop] at this; exact this
  have c : (xs.drop 6).take 6 ++ xs.drop 12 = xs.drop 6 := by
    have := List.take_append_drop 6 (xs.drop 6)
    rw [List.drop_drop] at this; exact this
  rw [a, b, c, List.drop_zero, List.take_append_drop]
/-- Counts that were encoded are decoded. -/
theorem enc_cd {xs : List Int} (hb : ctB xs = true) : cdC (encT xs) = 0 ∧ cdR (encT xs) = xs := by
  have hl := ctB_len hb
  have hall : allB (ctNs xs) = true := allB_true (fun j hj => by have := ctNs_in hb j hj; simp [numB, inB]; omega)
  have hz : (encT xs).size = 20 := sealS_size 2 (ctNs xs)
  have ho : openB (encT xs) 2 = true := openB_yes (rec_seal (by decide) hall (by simp [ctNs])) (seal_kind (by decide) (by simp [ctNs]))
  have hL : openL (encT xs) 2 = ctNs xs := by rw [openL_yes ho, encT, body_seal, un_pack hall]
  have hB : cdB (encT xs) = true := by
    apply cd_yes ho
    · rw [hL]; rfl
    · simp only [hL]
      intro j hj
      have := ctNs_in hb j hj
      simp only [cdN, decide_eq_true_eq]
      rw [show (16 : Int) ^ 6 = 16777216 from rfl]
      omega
  obtain ⟨c1, c2⟩ := cd_ok (by omega) hB
  refine ⟨c1, c2.trans ?_⟩
  rw [cdL, hL]
  have e : sxA (ctNs xs) 4 = sxT (lo6 xs 0 6) 6 ++ (sxT (lo6 xs 6 6) 6 ++ (sxT (lo6 xs 12 6) 6 ++ sxT (lo6 xs 18 6) 6)) := by simp [sxA, ctNs]
  rw [e, sx_cut hb 0 (by omega), sx_cut hb 6 (by omega), sx_cut hb 12 (by omega), sx_cut hb 18 (by omega), four_cuts hl]
theorem sum_set : ∀ (xs : List Int) (k : Nat) (h : k < xs.length) (v : Int), (xs.set k v).sum = xs.sum - xs[k] + v
  | x :: xs, 0, _, v => by simp; omega
  | x :: xs, k + 1, h, v => by
    have := sum_set xs k (by simpa using h) v
    simp only [List.set_cons_succ, List.sum_cons, List.getElem_cons_succ, this]; omega
/-- One up, and one down again. -/
theorem up_down {xs : List Int} {k : Nat} (hb : ctB xs = true) (hk : k < xs.length) (h15 : ¬ xs[k] = 15) : upF xs k = 0 ∧ ctB (upL xs k) = true ∧ (upL xs k).length = 24 ∧ (upL xs k)[k]? = some (xs[k] + 1) ∧ dnF (upL xs k) k = 0 ∧ dnL (upL xs k) k = xs ∧ smR (upL xs k) = smR xs + 1 := by
  have hl := ctB_len hb
  have h0 : cwF xs (k : Int) = 0 := by rw [cwF, if_pos (ctF_ok hb), if_pos (betw_yes (by omega) (by omega))]
  obtain ⟨u1, u2⟩ := (up_at h0 hk).2 h15
  have hr := ctB_at hb k hk
  have hyl : (xs.set k (xs[k] + 1)).length = 24 := by rw [List.length_set]; exact hl
  have hyb : ctB (xs.set k (xs[k] + 1)) = true := ctB_of hyl (fun i hi => by
    rw [List.getElem_set]
    split
    · exact betw_yes (by omega) (by omega)
    · have := ctB_at hb i (by rw [List.length_set] at hi; exact hi)
      exact betw_yes this.1 this.2)
  have hy0 : cwF (xs.set k (xs[k] + 1)) (k : Int) = 0 := by rw [cwF, if_pos (ctF_ok hyb), if_pos (betw_yes (by omega) (by omega))]
  have hyk : k < (xs.set k (xs[k] + 1)).length := by omega
  have hye : (xs.set k (xs[k] + 1))[k] = xs[k] + 1 := by simp
  obtain ⟨d1, d2⟩ := (dn_at hy0 hyk).2 (by rw [hye]; omega)
  rw [u2]
  refine ⟨u1, hyb, hyl, ?_, d1, ?_, ?_⟩
  · simp [hk]
  · rw [d2, hye, List.set_set, show xs[k] + 1 - 1 = xs[k] by omega, List.set_getElem_self]
  · rw [smR, smR, if_pos (ctF_ok hyb), if_pos (ctF_ok hb), sum_set xs k hk]; omega

end Go.Proofs.YtkaiglhljpehpabGreatDoor

/- The store, plainly: names as numbers, an image's updates, what sectors say. (Made ahead of stage 11.) -/
namespace Go.Proofs.YtkaiglhljpehpabGreatDoor
open Go.RowKit
set_option linter.unusedVariables false
set_option maxRecDepth 100000

/-- A name's number: letters base 27, a being 1. -/
def ch1 (n : Int) (b : UInt8) : Int := 27 * n + ((b.toNat : Int) - 97) % 256 + 1
def nmN (t : ByteArray) : Int := t.data.toList.foldl ch1 0
def pnF (t : ByteArray) : Int := if 65536 < t.size then 2 else if snmB t = true then 0 else 12
def pnN (t : ByteArray) : Int := if pnF t = 0 then nmN t else 0
/-- A number's letters. -/
def lt1 (n : Nat) : UInt8 := UInt8.ofNat (97 + (n + 26) % 27)
def ltL : Nat → Nat → List UInt8
  | 0, _ => []
  | f + 1, n => if n = 0 then [] else ltL f (n / 27) ++ [lt1 n]
def unT (n : Int) : ByteArray := ⟨(ltL 8 n.toNat).toArray⟩
theorem ch1_in {n : Int} {b : UInt8} (hb : nm1 b = true) : ch1 n b = 27 * n + ((b.toNat : Int) - 96) := by
  simp only [nm1, Bool.and_eq_true, decide_eq_true_eq] at hb
  unfold ch1
  rw [Int.emod_eq_of_lt (by omega) (by omega)]; omega
theorem fold_lo : ∀ (l : List UInt8), l.all nm1 = true → ∀ n : Int, 0 ≤ n → 0 ≤ l.foldl ch1 n ∧ l.foldl ch1 n + 1 ≤ (n + 1) * 27 ^ l.length
  | [], _, n, hn => ⟨hn, by simp⟩
  | b :: l, h, n, hn => by
    simp only [List.all_cons, Bool.and_eq_true] at h
    have hb := h.1
    simp only [nm1, Bool.and_eq_true, decide_eq_true_eq] at hb
    rw [List.foldl_cons, ch1_in h.1]
    have := fold_lo l h.2 (27 * n + ((b.toNat : Int) - 96)) (by omega)
    refine ⟨this.1, Int.le_trans this.2 ?_⟩
    rw [List.length_cons, Int.pow_succ, Int.mul_comm _ 27, ← Int.mul_assoc]
    exact Int.mul_le_mul_of_nonneg_right (by omega) (Int.pow_nonneg (by omega))
theorem snm_parts {t : ByteArray} (h : snmB t = true) : t.data.toList.all nm1 = true ∧ 1 ≤ t.size ∧ t.size ≤ 6 := by
  simp only [snmB, Bool.and_eq_true] at h
  have := betw_iff.1 h.2
  exact ⟨h.1, by omega, by omega⟩
theorem nmN_in {t : ByteArray} (h : snmB t = true) : 0 ≤ nmN t ∧ nmN t ≤ 387420488 := by
  obtain ⟨h1, h2, h3⟩ := snm_parts h
  have h4 := fold_lo _ h1 0 (by omega)
  have hl : t.data.toList.length = t.size := by simp
  rw [hl] at h4
  refine ⟨h4.1, ?_⟩
  have : (27 : Int) ^ t.size ≤ 387420489 := by rcases (show t.size = 1 ∨ t.size = 2 ∨ t.size = 3 ∨ t.size = 4 ∨ t.size = 5 ∨ t.size = 6 by omega) with e | e | e | e | e | e <;> rw [e] <;> decide
  have h5 := h4.2
  unfold nmN
  omega
/-- Letters of a name's number are the name. -/
theorem lt1_ch1 {n : Nat} {b : UInt8} (hb : nm1 b = true) : lt1 (27 * n + (b.toNat - 96)) = b ∧ (27 * n + (b.toNat - 96)) / 27 = n ∧ 27 * n + (b.toNat - 96) ≠ 0 := by
  simp only [nm1, Bool.and_eq_true, decide_eq_true_eq] at hb
  refine ⟨?_, by omega, by omega⟩
  unfold lt1
  rw [show 97 + (27 * n + (b.toNat - 96) + 26) % 27 = b.toNat by omega]
  exact UInt8.ofNat_toNat
theorem ltL_fold : ∀ (l : List UInt8) (f n : Nat), l.all nm1 = true → ∃ N : Nat, l.foldl ch1 (n : Int) = (N : Int) ∧ ltL (f + l.length) N = ltL f n ++ l
  | [], f, n, _ => ⟨n, rfl, by simp⟩
  | b :: l, f, n, h => by
    simp only [List.all_cons, Bool.and_eq_true] at h
    obtain ⟨k1, k2, k3⟩ := lt1_ch1 (n := n) h.1
    have hb := h.1
    simp only [nm1, Bool.and_eq_true, decide_eq_true_eq] at hb
    obtain ⟨N, e, hN⟩ := ltL_fold l (f + 1) (27 * n + (b.toNat - 96)) h.2
    refine ⟨N, ?_, ?_⟩
    · rw [List.foldl_cons, ch1_in h.1, ← e]
      congr 1
      omega
    · rw [List.length_cons, show f + (l.length + 1) = f + 1 + l.length by omega, hN]
      have : ltL (f + 1) (27 * n + (b.toNat - 96)) = ltL f n ++ [b] := by
        rw [ltL, if_neg k3, k1, k2]
      rw [this, List.append_assoc]; rfl
theorem ltL_zero (f : Nat) : ltL f 0 = [] := by cases f <;> simp [ltL]
theorem ltL_more : ∀ (f k n : Nat), n < 27 ^ f → ltL (f + k) n = ltL f n
  | 0, k, n, h => by
    have : n = 0 := by simpa using h
    subst this
    rw [ltL_zero, ltL_zero]
  | f + 1, k, n, h => by
    rw [show f + 1 + k = (f + k) + 1 by omega, ltL, ltL]
    by_cases hn : n = 0
    · rw [if_pos hn, if_pos hn]
    · rw [if_neg hn, if_neg hn, ltL_more f k (n / 27) (by rw [Nat.pow_succ] at h; omega)]
theorem un_nm {t : ByteArray} (h : snmB t = true) : unT (nmN t) = t := by
  obtain ⟨h1, h2, h3⟩ := snm_parts h
  have hl : t.data.toList.length = t.size := by simp
  obtain ⟨N, e, hN⟩ := ltL_fold t.data.toList (8 - t.size) 0 h1
  rw [hl, show 8 - t.size + t.size = 8 by omega, ltL_zero, List.nil_append] at hN
  have e2 : nmN t = (N : Int) := e
  rw [unT, e2, Int.toNat_natCast, hN]
theorem un_nm2 {t : ByteArray} (h : snmB t = true) : nmN (unT (nmN t)) = nmN t := by rw [un_nm h]

/-- An image's updates: the names, the counts, the tables, and data of clusters that some table has. -/
def supL (m : Img) : List Int := (m.snaps.length : Int) :: m.snaps.map (fun s => nmN s.name)
def tabU : Nat → List Snp → List Up
  | _, [] => []
  | i, s :: ss => ⟨12 + (i : Int), encTb s.table⟩ :: tabU (i + 1) ss
def datU (m : Img) (c : Nat) : List Up := if 0 < m.refs.getD c 0 then [⟨15 + (c : Int), sealS 4 [m.data.getD c 0]⟩] else []
def headU (m : Img) : List Up := [⟨9, sealS 1 (supL m)⟩, ⟨10, encT m.refs⟩, ⟨11, encTb m.table⟩]
def dataU (m : Img) (k : Nat) : List Up := (List.range k).flatMap (datU m)
def allU (m : Img) : List Up := headU m ++ tabU 0 m.snaps ++ dataU m 24
theorem tabU_len : ∀ (ss : List Snp) (i : Nat), (tabU i ss).length = ss.length
  | [], i => rfl
  | s :: ss, i => by simp only [tabU, List.length_cons, tabU_len ss (i + 1)]
theorem tabU_snoc : ∀ (ss : List Snp) (i : Nat) (s : Snp), tabU i (ss ++ [s]) = tabU i ss ++ [⟨12 + ((i + ss.length : Nat) : Int), encTb s.table⟩]
  | [], i, s => by simp [tabU]
  | a :: ss, i, s => by
    simp only [List.cons_append, tabU, tabU_snoc ss (i + 1) s, List.length_cons]
    rw [show i + 1 + ss.length = i + (ss.length + 1) by omega]
theorem dataU_succ (m : Img) (k : Nat) : dataU m (k + 1) = dataU m k ++ datU m k := by
  unfold dataU
  rw [List.range_succ, List.flatMap_append]; simp
theorem dataU_len (m : Img) : ∀ k, (dataU m k).length ≤ k
  | 0 => by simp [dataU]
  | k + 1 => by
    rw [dataU_succ, List.length_append]
    have := dataU_len m k
    have h2 : (datU m k).length ≤ 1 := by unfold datU; split <;> simp
    omega
theorem allU_len {m : Img} (h : m.snaps.length ≤ 3) : (allU m).length ≤ 30 := by
  unfold allU
  rw [List.length_append, List.length_append, tabU_len]
  have := dataU_len m 24
  have : (headU m).length = 3 := rfl
  omega
/-- What ImageUpdates answers. -/
def iuA (m : Img) : List Up × Int := if imB m = true then (allU m, 0) else ([], 1)
/-- What one image's sectors have otherwise than another's. -/
def upEq (u v : Up) : Bool := decide (u.at_ = v.at_) && decide (u.data = v.data)
def difU (a b : Img) : List Up := (allU b).filter fun u => !((allU a).any fun v => upEq v u)
def dfA (a b : Img) : List Up × Int := if imB a = true ∧ imB b = true then (difU a b, 0) else ([], 1)

end Go.Proofs.YtkaiglhljpehpabGreatDoor
