import Derived.Test.YthnpooffhopnkacGreatDoorPart1
import Derived.Test.YthnpooffhopnkacGreatDoorPart4
import Derived.Test.YthnpooffhopnkacGreatDoorPart6
import Derived.Test.YthnpooffhopnkacGreatDoorPart19
import Derived.WalkKit
import Derived.Test.YthnpooffhopnkacGreatDoorRows
import Derived.Test.YthnpooffhopnkacGreatDoorPart3
import Derived.Test.YthnpooffhopnkacGreatDoorPart2
import Derived.Test.YthnpooffhopnkacGreatDoorPart5
import Derived.Test.YthnpooffhopnkacGreatDoorPart7
import Derived.Test.YthnpooffhopnkacGreatDoorPart26
import Derived.WalkSpells
import Derived.KernelRfl
import Derived.LoopN
import Derived.Lib.SmallJoins
import Derived.BigQuiet
import Derived.Deep.QuietTactic
import Derived.Deep.CutRange
import Derived.Deep.RegionWith
import Derived.Deep.RegionHeld3
import Derived.Test.YthnpooffhopnkacGreatDoorPart10
import Derived.Test.YthnpooffhopnkacGreatDoorPart27
import Derived.Test.YthnpooffhopnkacGreatDoorPart18
import Derived.Test.YthnpooffhopnkacGreatDoorPart23
import Derived.Laws.CopyRow
import Derived.Laws.ResultCell
import Derived.Laws.Cover3
import Derived.Laws.CopyOwn
import Derived.Deep.MidRow

/- Plain: moves that are right, what they do to a disk, what MovesDo answers. -/
namespace Go.Proofs.YthnpooffhopnkacGreatDoor
open Go.RowKit
set_option linter.unusedVariables false

def mvB (m : Wr) : Bool := if m.host = 1 then (inB m.at_ 0 63 && decide (m.data.size ≤ 80)) else (decide (m.host = 2) && (decide (m.at_ = 0) && decide (m.data.size = 0)))
def msB (ms : List Wr) : Bool := ms.all mvB
theorem msB_at {ms : List Wr} (h : msB ms = true) {k : Nat} (hk : k < ms.length) : mvB ms[k] = true := List.all_eq_true.1 h _ (List.getElem_mem hk)
theorem mvB_write {m : Wr} (h : mvB m = true) (hn : m.host ≠ 2) : (0 ≤ m.at_ ∧ m.at_ ≤ 63) ∧ m.data.size ≤ 80 := by
  unfold mvB at h
  split at h
  · simpa [inB] using h
  · simp [hn] at h
/-- What one move does. -/
def dm1 (h : Int) (st : List ByteArray × List Wr) (m : Wr) : List ByteArray × List Wr := if m.host = 2 then (putW st.1 (ofH h st.2), dropF h st.2) else (st.1, st.2 ++ [⟨h, m.at_, m.data⟩])
def dmL (h : Int) (ss : List ByteArray) (xs : List Wr) (ms : List Wr) : List ByteArray × List Wr := ms.foldl (dm1 h) (ss, xs)
theorem dmL_succ {h : Int} {ss : List ByteArray} {xs ms : List Wr} {k : Nat} (hk : k < ms.length) : dmL h ss xs (ms.take (k + 1)) = dm1 h (dmL h ss xs (ms.take k)) ms[k] := by
  unfold dmL
  rw [List.take_succ_eq_append_getElem hk, List.foldl_append]; rfl
theorem dm1_flush {h : Int} {S : List ByteArray} {X : List Wr} {m : Wr} (hm : m.host = 2) : dm1 h (S, X) m = (putW S (ofH h X), dropF h X) := if_pos hm
theorem dm1_write {h : Int} {S : List ByteArray} {X : List Wr} {m : Wr} (hm : m.host ≠ 2) : dm1 h (S, X) m = (S, X ++ [⟨h, m.at_, m.data⟩]) := if_neg hm
theorem dm1_right {h : Int} {S : List ByteArray} {X : List Wr} {m : Wr} (hh : 0 ≤ h ∧ h ≤ 3) (hd : diskB S X = true) (hl : X.length < 200) (hm : mvB m = true) : diskB (dm1 h (S, X) m).1 (dm1 h (S, X) m).2 = true ∧ (dm1 h (S, X) m).2.length ≤ X.length + 1 := by
  by_cases h2 : m.host = 2
  · rw [dm1_flush h2]
    exact ⟨diskB_put hd (fun x hx => of_mem hx) (fun x hx => drop_mem hx) (drop_le h X), by have := drop_le h X; show (dropF h X).length ≤ X.length + 1; omega⟩
  · rw [dm1_write h2]
    obtain ⟨p1, p2⟩ := mvB_write hm h2
    exact ⟨diskB_snoc hd hl (ioB_parts.2 ⟨hh, p1, p2⟩), by simp⟩
theorem dmL_right {h : Int} {ss : List ByteArray} {xs ms : List Wr} (hh : 0 ≤ h ∧ h ≤ 3) (hd : diskB ss xs = true) (hm : msB ms = true) (hl : xs.length + ms.length ≤ 200) : ∀ k, k ≤ ms.length → diskB (dmL h ss xs (ms.take k)).1 (dmL h ss xs (ms.take k)).2 = true ∧ (dmL h ss xs (ms.take k)).2.length ≤ xs.length + k := by
  intro k
  induction k with
  | zero => intro _; exact ⟨by simpa [dmL] using hd, by simp [dmL]⟩
  | succ k ih =>
    intro hk
    obtain ⟨i1, i2⟩ := ih (by omega)
    rw [dmL_succ (show k < ms.length by omega)]
    obtain ⟨r1, r2⟩ := dm1_right (S := (dmL h ss xs (ms.take k)).1) (X := (dmL h ss xs (ms.take k)).2) hh i1 (by omega) (msB_at hm (show k < ms.length by omega))
    exact ⟨r1, Nat.le_trans r2 (by omega)⟩
/-- What MovesDo answers. -/
def mdC (ss : List ByteArray) (xs : List Wr) (h : Int) (ms : List Wr) : Int := if 4096 < ms.length then 2 else if hostC ss xs h = 0 then (if msB ms = true then (if 200 < xs.length + ms.length then 7 else 0) else 1) else hostC ss xs h
def mdS (ss : List ByteArray) (xs : List Wr) (h : Int) (ms : List Wr) : List ByteArray := if mdC ss xs h ms = 0 then (dmL h ss xs ms).1 else if mdC ss xs h ms = 7 then ss else []
def mdX (ss : List ByteArray) (xs : List Wr) (h : Int) (ms : List Wr) : List Wr := if mdC ss xs h ms = 0 then (dmL h ss xs ms).2 else if mdC ss xs h ms = 7 then xs else []
theorem md_long {ss : List ByteArray} {xs : List Wr} {h : Int} {ms : List Wr} (h1 : 4096 < ms.length) : mdC ss xs h ms = 2 ∧ mdS ss xs h ms = [] ∧ mdX ss xs h ms = [] := by
  have e : mdC ss xs h ms = 2 := if_pos h1
  exact ⟨e, by simp [mdS, e], by simp [mdX, e]⟩
theorem hostC_cases (ss : List ByteArray) (xs : List Wr) (h : Int) : hostC ss xs h = 0 ∨ hostC ss xs h = 1 ∨ hostC ss xs h = 4 := by
  unfold hostC; split
  · split
    · exact .inl rfl
    · exact .inr (.inr rfl)
  · exact .inr (.inl rfl)
theorem md_host {ss : List ByteArray} {xs : List Wr} {h : Int} {ms : List Wr} (h1 : ¬ 4096 < ms.length) (h2 : hostC ss xs h ≠ 0) : mdC ss xs h ms = hostC ss xs h ∧ mdS ss xs h ms = [] ∧ mdX ss xs h ms = [] := by
  have e : mdC ss xs h ms = hostC ss xs h := by rw [mdC, if_neg h1, if_neg h2]
  have h7 : hostC ss xs h ≠ 7 := by rcases hostC_cases ss xs h with e | e | e <;> rw [e] <;> decide
  exact ⟨e, by simp [mdS, e, h2, h7], by simp [mdX, e, h2, h7]⟩
theorem md_bad {ss : List ByteArray} {xs : List Wr} {h : Int} {ms : List Wr} (h1 : ¬ 4096 < ms.length) (h2 : hostC ss xs h = 0) (h3 : msB ms = false) : mdC ss xs h ms = 1 ∧ mdS ss xs h ms = [] ∧ mdX ss xs h ms = [] := by
  have e : mdC ss xs h ms = 1 := by rw [mdC, if_neg h1, if_pos h2, if_neg (by simp [h3])]
  exact ⟨e, by simp [mdS, e], by simp [mdX, e]⟩
theorem md_full {ss : List ByteArray} {xs : List Wr} {h : Int} {ms : List Wr} (h1 : ¬ 4096 < ms.length) (h2 : hostC ss xs h = 0) (h3 : msB ms = true) (h4 : 200 < xs.length + ms.length) : mdC ss xs h ms = 7 ∧ mdS ss xs h ms = ss ∧ mdX ss xs h ms = xs := by
  have e : mdC ss xs h ms = 7 := by rw [mdC, if_neg h1, if_pos h2, if_pos h3, if_pos h4]
  exact ⟨e, by simp [mdS, e], by simp [mdX, e]⟩
theorem md_ok {ss : List ByteArray} {xs : List Wr} {h : Int} {ms : List Wr} (h1 : ¬ 4096 < ms.length) (h2 : hostC ss xs h = 0) (h3 : msB ms = true) (h4 : ¬ 200 < xs.length + ms.length) : mdC ss xs h ms = 0 ∧ mdS ss xs h ms = (dmL h ss xs ms).1 ∧ mdX ss xs h ms = (dmL h ss xs ms).2 := by
  have e : mdC ss xs h ms = 0 := by rw [mdC, if_neg h1, if_pos h2, if_pos h3, if_neg h4]
  exact ⟨e, by simp [mdS, e], by simp [mdX, e]⟩
/-- What MovesDo answers is no greater than what it was given. -/
theorem md_right {ss : List ByteArray} {xs : List Wr} {h : Int} {ms : List Wr} (hs : ∀ s ∈ ss, s.size ≤ maxLen) (hx : ∀ x ∈ xs, x.data.size ≤ maxLen) : (∀ s ∈ mdS ss xs h ms, s.size ≤ maxLen) ∧ (∀ x ∈ mdX ss xs h ms, x.data.size ≤ maxLen) ∧ (mdS ss xs h ms).length ≤ max ss.length 64 ∧ (mdX ss xs h ms).length ≤ max xs.length 200 := by
  by_cases h1 : 4096 < ms.length
  · obtain ⟨_, e1, e2⟩ := md_long (ss := ss) (xs := xs) (h := h) h1
    rw [e1, e2]; exact ⟨fun _ h => (by cases h), fun _ h => (by cases h), by simp, by simp⟩
  by_cases h2 : hostC ss xs h = 0
  case neg =>
    obtain ⟨_, e1, e2⟩ := md_host (ms := ms) h1 h2
    rw [e1, e2]; exact ⟨fun _ h => (by cases h), fun _ h => (by cases h), by simp, by simp⟩
  by_cases h3 : msB ms = true
  case neg =>
    rw [Bool.not_eq_true] at h3
    obtain ⟨_, e1, e2⟩ := md_bad (ss := ss) (xs := xs) h1 h2 h3
    rw [e1, e2]; exact ⟨fun _ h => (by cases h), fun _ h => (by cases h), by simp, by simp⟩
  by_cases h4 : 200 < xs.length + ms.length
  · obtain ⟨_, e1, e2⟩ := md_full h1 h2 h3 h4
    rw [e1, e2]; exact ⟨hs, hx, Nat.le_max_left _ _, Nat.le_max_left _ _⟩
  · obtain ⟨_, e1, e2⟩ := md_ok h1 h2 h3 h4
    obtain ⟨hd, h0, h5⟩ := hostC_eq h2
    obtain ⟨r1, r2⟩ := dmL_right (ms := ms) ⟨h0, h5⟩ hd h3 (by omega) ms.length (Nat.le_refl _)
    rw [List.take_of_length_le (Nat.le_refl _)] at r1 r2
    obtain ⟨⟨q1, q2⟩, q3, q4⟩ := diskB_parts.1 r1
    rw [e1, e2]
    refine ⟨fun s h => (by have := q2 s h; unfold maxLen; omega), fun x h => (by have := (ioB_parts.1 (q4 x h)).2.2; unfold maxLen; omega), by rw [q1]; exact Nat.le_max_right _ _, Nat.le_trans q3 (Nat.le_max_right _ _)⟩
/-- A row's texts lie apart from a variable that holds a disk. -/
theorem cell_apart {w : World} {x b j : Nat} {u v c : Value} (hv : VarD w x u v) (h : w.cell? ⟨b, j, none⟩ = some c) (h1 : c ≠ u) (h2 : c ≠ v) : b ≠ x := by
  rintro rfl
  rw [Joins.cell_of_block hv] at h
  match j, h with
  | 0, h => simp at h; exact h1 h.symm
  | 1, h => simp at h; exact h2 h.symm
  | j + 2, h => simp at h
theorem Ss.setX {w : World} {x : Nat} {po qo ao : Option Addr} {n pa m qa : Nat} {ss : List ByteArray} (h : Ss w ao ss) (hv : VarD w x (.slice po n pa) (.slice qo m qa)) (i : Nat) (v : Value) : Ss (w.setCell ⟨x, i, none⟩ v) ao ss := fun j hj => by
  obtain ⟨b, off, e, hc, hz⟩ := h j hj
  have hne : b ≠ x := cell_apart hv hc (by simp) (by simp)
  exact ⟨b, off, e, (World.cell?_of_block (w := w) (Below.heap_setCell w ⟨x, i, none⟩ v b hne)).trans hc, hz⟩
theorem Ios.setX {w : World} {x : Nat} {po qo ao : Option Addr} {n pa m qa : Nat} {xs : List Wr} (h : Ios w ao xs) (hv : VarD w x (.slice po n pa) (.slice qo m qa)) (i : Nat) (v : Value) : Ios (w.setCell ⟨x, i, none⟩ v) ao xs := fun j hj => by
  obtain ⟨b, off, e, h0, h1, h2, hz⟩ := h j hj
  have hne : b ≠ x := cell_apart hv h0 (by simp) (by simp)
  have hb := Below.heap_setCell w ⟨x, i, none⟩ v b hne
  exact ⟨b, off, e, (World.cell?_of_block (w := w) hb).trans h0, (World.cell?_of_block (w := w) hb).trans h1, (World.cell?_of_block (w := w) hb).trans h2, hz⟩
theorem right_sz2 {S : List ByteArray} {X : List Wr} (hd : diskB S X = true) : (∀ s ∈ S, s.size ≤ maxLen) ∧ ∀ x ∈ X, x.data.size ≤ maxLen := by
  obtain ⟨⟨_, q2⟩, _, q4⟩ := diskB_parts.1 hd
  exact ⟨fun s h => (by have := q2 s h; unfold maxLen; omega), fun x h => (by have := (ioB_parts.1 (q4 x h)).2.2; unfold maxLen; omega)⟩
theorem VarD.put {w : World} {x : Nat} {a b : Value} (h : VarD w x a b) (u v : Value) : VarD ((w.setCell ⟨x, 0, none⟩ u).setCell ⟨x, 1, none⟩ v) x u v := Joins.block_setCell (i := 1) (Joins.block_setCell (i := 0) h u) v
theorem VarD.apart {w : World} {x y : Nat} {a b : Value} (h : VarD w x a b) (hne : x ≠ y) (i : Nat) (u : Value) : VarD (w.setCell ⟨y, i, none⟩ u) x a b := by
  unfold VarD; rw [Below.heap_setCell w ⟨y, i, none⟩ u x hne]; exact h
/-- A disk in a variable, as a call shows it. -/
structure DkA (w W : World) (x : Nat) (po : Option Addr) (pa : Nat) (qo : Option Addr) (qa : Nat) (SS : List ByteArray) (XX : List Wr) : Prop where
  v : VarD W x (.slice po SS.length pa) (.slice qo XX.length qa)
  s : Ss W po SS
  i : Ios W qo XX
  k : Below w.heap.size w W
theorem DkA.next {w W W' : World} {x pa qa : Nat} {po qo : Option Addr} {SS : List ByteArray} {XX : List Wr} (h : DkA w W x po pa qo qa SS XX) (hb : Below W.heap.size W W') : DkA w W' x po pa qo qa SS XX := ⟨h.v.below hb, h.s.below hb, h.i.below hb, fr h.k hb⟩
theorem DkA.put {w W : World} {x pa qa pa' qa' n m : Nat} {po qo po' qo' : Option Addr} {SS SS' : List ByteArray} {XX XX' : List Wr} (h : DkA w W x po pa qo qa SS XX) (hx : w.heap.size ≤ x) (hn : n = SS'.length) (hm : m = XX'.length) (h1 : Ss W po' SS') (h2 : Ios W qo' XX') :
    DkA w ((W.setCell ⟨x, 0, none⟩ (.slice po' n pa')).setCell ⟨x, 1, none⟩ (.slice qo' m qa')) x po' pa' qo' qa' SS' XX' := by
  subst hn hm
  have hv0 : VarD (W.setCell ⟨x, 0, none⟩ (.slice po' SS'.length pa')) x (.slice po' SS'.length pa') (.slice qo XX.length qa) := Joins.block_setCell (i := 0) h.v _
  exact ⟨h.v.put _ _, (h1.setX h.v 0 _).setX hv0 1 _, (h2.setX h.v 0 _).setX hv0 1 _, below2 h.k hx 0 1 _ _⟩
end Go.Proofs.YthnpooffhopnkacGreatDoor

/- Contracts of spec's moves: l07Move, l07Do, MovesDo. -/
namespace Go.Proofs.YthnpooffhopnkacGreatDoor
open Go.RowKit
set_option linter.unusedVariables false
set_option maxRecDepth 100000

abbrev wV (x : Wr) : Value := .agg #[.int .i64 x.host, .int .i64 x.at_, .string x.data]
theorem text_none {t : ByteArray} : t.toList.isEmpty = decide (t.size = 0) := by
  by_cases h : t.size = 0
  · obtain rfl := bytes0 h; rw [ByteArray.toList_eq]; rfl
  · rw [text_full h, decide_eq_false h]

end Go.Proofs.YthnpooffhopnkacGreatDoor

/- Contract of spec's MovesDo. -/
namespace Go.Proofs.YthnpooffhopnkacGreatDoor
open Go.RowKit
set_option linter.unusedVariables false
set_option maxRecDepth 100000

theorem ret_md {po qo : Option Addr} {n n' m m' pa qa : Nat} {c c' : Int} (h1 : n = n') (h2 : m = m') (h3 : c = c') : Ending.returned (.tuple #[.agg #[.slice po n pa, .slice qo m qa], .int .i64 c]) = Ending.returned (.tuple #[.agg #[.slice po n' pa, .slice qo m' qa], .int .i64 c']) := by rw [h1, h2, h3]
/-- The end of a call that lays its answer into the variable R. -/
theorem md_end {w W : World} {R n m pa qa : Nat} {po qo : Option Addr} {SS : List ByteArray} {XX : List Wr} (hR : VarD W R (.slice none 0 0) (.slice none 0 0)) (hb : Below w.heap.size w W) (hr : w.heap.size ≤ R) (ho : OwnD W w.heap.size po n pa qo m qa SS XX) (u v : Value) :
    OwnD ((W.setCell ⟨R, 0, none⟩ u).setCell ⟨R, 1, none⟩ v) w.heap.size po n pa qo m qa SS XX ∧ Below w.heap.size w ((W.setCell ⟨R, 0, none⟩ u).setCell ⟨R, 1, none⟩ v) :=
  ⟨ho.keep (((Keep.refl (fun j => j = R) W).setCell (p := ⟨R, 0, none⟩) rfl u).setCell (p := ⟨R, 1, none⟩) rfl v) (fun g hg e => ho.other hR (by decide) (by decide) (e ▸ hg)), below2 hb hr 0 1 u v⟩

end Go.Proofs.YthnpooffhopnkacGreatDoor

/- The contract of the model's l11Format. (Made ahead of stage 11.) -/
namespace Go.Proofs.YthnpooffhopnkacGreatDoor
open Go.RowKit
set_option linter.unusedVariables false
set_option maxRecDepth 100000

/-- An image's updates as writes of a host. -/
def fmW (h : Int) (us : List Up) : List Wr := us.map fun u => ⟨h, u.at_, u.data⟩
theorem fmW_len (h : Int) (us : List Up) : (fmW h us).length = us.length := by simp [fmW]
theorem fmW_succ {h : Int} {us : List Up} {k : Nat} (hk : k < us.length) (xs : List Wr) : xs ++ (fmW h us).take (k + 1) = xs ++ (fmW h us).take k ++ [⟨h, us[k].at_, us[k].data⟩] := by
  rw [List.take_succ_eq_append_getElem (by rw [fmW_len]; exact hk), List.append_assoc]
  simp [fmW]

/-- A row of updates, behind a store into a variable that lies before it. -/
theorem UpS.setC {W : World} {B : Nat} {qo : Option Addr} {n qa : Nat} {us : List Up} (h : OwnR W B 43 2 (.slice qo n qa) n (upsV us)) {x : Nat} (hx : x < B) (u v : Value) : OwnR ((W.setCell ⟨x, 0, none⟩ u).setCell ⟨x, 1, none⟩ v) B 43 2 (.slice qo n qa) n (upsV us) := (h.setCell (a := ⟨x, 0, none⟩) hx u).setCell (a := ⟨x, 1, none⟩) hx v

end Go.Proofs.YthnpooffhopnkacGreatDoor

/- The contract of the model's Format. (Made ahead of stage 11.) -/
namespace Go.Proofs.YthnpooffhopnkacGreatDoor
open Go.RowKit
set_option linter.unusedVariables false
set_option maxRecDepth 100000

/-- What Format answers. -/
def fuW (h : Int) (n : Nat) : List Wr := fmW h (allU (imNew n))
def foC (ss : List ByteArray) (xs : List Wr) (h n : Int) : Int := if hostC ss xs h = 0 then (if inB n 0 12 = true then (if 200 < xs.length + 3 then 7 else 0) else 4) else hostC ss xs h
def foS (ss : List ByteArray) (xs : List Wr) (h n : Int) : List ByteArray := if hostC ss xs h = 0 then (if inB n 0 12 = true then (if 200 < xs.length + 3 then ss else putW ss (ofH h (xs ++ fuW h n.toNat))) else []) else []
def foX (ss : List ByteArray) (xs : List Wr) (h n : Int) : List Wr := if hostC ss xs h = 0 then (if inB n 0 12 = true then (if 200 < xs.length + 3 then xs else dropF h (xs ++ fuW h n.toNat)) else []) else []
theorem fo_bad {ss : List ByteArray} {xs : List Wr} {h n : Int} (hc : ¬ hostC ss xs h = 0) : foS ss xs h n = [] ∧ foX ss xs h n = [] ∧ foC ss xs h n = hostC ss xs h := by simp [foS, foX, foC, hc]
theorem fo_range {ss : List ByteArray} {xs : List Wr} {h n : Int} (hc : hostC ss xs h = 0) (hp : inB n 0 12 = false) : foS ss xs h n = [] ∧ foX ss xs h n = [] ∧ foC ss xs h n = 4 := by simp [foS, foX, foC, hc, hp]
theorem fo_full {ss : List ByteArray} {xs : List Wr} {h n : Int} (hc : hostC ss xs h = 0) (hp : inB n 0 12 = true) (hf : 200 < xs.length + 3) : foS ss xs h n = ss ∧ foX ss xs h n = xs ∧ foC ss xs h n = 7 := by simp [foS, foX, foC, hc, hp, hf]
theorem fo_ok {ss : List ByteArray} {xs : List Wr} {h : Int} {n : Nat} (hc : hostC ss xs h = 0) (hp : inB n 0 12 = true) (hf : ¬ 200 < xs.length + 3) : foS ss xs h n = putW ss (ofH h (xs ++ fuW h n)) ∧ foX ss xs h n = dropF h (xs ++ fuW h n) ∧ foC ss xs h n = 0 := by simp [foS, foX, foC, hc, hp, hf]
/-- A new image's updates. -/
theorem allU_new (n : Nat) : allU (imNew n) = headU (imNew n) := by
  have e : dataU (imNew n) 24 = [] := by rfl
  unfold allU
  rw [e]
  simp [imNew, tabU]
theorem fuW_len (h : Int) (n : Nat) : (fuW h n).length = 3 := by rw [fuW, fmW_len, allU_new]; rfl
theorem fuW_right {ss : List ByteArray} {xs : List Wr} {h : Int} {n : Nat} (hd : diskB ss xs = true) (hh : 0 ≤ h ∧ h ≤ 3) (hn : n ≤ 12) (hl : xs.length + 3 ≤ 200) : diskB ss (xs ++ fuW h n) = true := by
  obtain ⟨⟨a1, a2⟩, a3, a4⟩ := diskB_parts.1 hd
  refine diskB_parts.2 ⟨⟨a1, a2⟩, by rw [List.length_append, fuW_len]; exact hl, fun y hy => ?_⟩
  rcases List.mem_append.1 hy with h1 | h1
  · exact a4 y h1
  · unfold fuW fmW at h1
    obtain ⟨u, hu, rfl⟩ := List.mem_map.1 h1
    refine ioB_parts.2 ⟨hh, ?_, allU_sz (ImR.new hn) u hu⟩
    rw [allU_new] at hu
    simp only [headU, List.mem_cons, List.not_mem_nil, or_false] at hu
    rcases hu with rfl | rfl | rfl <;> simp

end Go.Proofs.YthnpooffhopnkacGreatDoor

/- Contract of spec.l01New. -/
namespace Go.Proofs.YthnpooffhopnkacGreatDoor
open Go.RowKit
set_option linter.unusedVariables false
set_option maxRecDepth 100000

def noSs : List ByteArray := List.replicate 64 ⟨#[]⟩
theorem noSs_cells : (madeCells #[Value.string ⟨#[]⟩] 64).toList = strV noSs := by rw [toList_madeCells_one]; simp [strV, noSs]
theorem noSs_len : noSs.length = 64 := by simp [noSs]
theorem info9' : (Tryz.prog.info? 9).map (fun i => (i.zero, i.size, i.bytes)) = some (some (.string ⟨#[]⟩), 1, 16) := by kernel_rfl

theorem noSs_own {w : World} {B g : Nat} (h : w.ownsRow B 9 1 (.slice (some ⟨g, 0, none⟩) 64 64) 64 (madeCells #[Value.string ⟨#[]⟩] 64).toList) : w.ownsRow B 9 1 (.slice (some ⟨g, 0, none⟩) 64 64) 64 (strV noSs) := by
  rw [noSs_cells] at h; exact h

end Go.Proofs.YthnpooffhopnkacGreatDoor

/- The store, plainly: updates put into sectors, and what is read from them then (for FnStore, FnDiff). -/
namespace Go.Proofs.YthnpooffhopnkacGreatDoor
open Go.RowKit
set_option linter.unusedVariables false
set_option maxRecDepth 100000

/-- Sectors with updates put in, one after another. -/
def upW (ss : List ByteArray) (us : List Up) : List ByteArray := us.foldl (fun s u => s.set u.at_.toNat u.data) ss
theorem upW_len : ∀ (us : List Up) (ss : List ByteArray), (upW ss us).length = ss.length
  | [], ss => rfl
  | u :: us, ss => by
    show (upW (ss.set u.at_.toNat u.data) us).length = ss.length
    rw [upW_len us, List.length_set]
theorem upW_app (ss : List ByteArray) (us vs : List Up) : upW ss (us ++ vs) = upW (upW ss us) vs := by unfold upW; rw [List.foldl_append]
theorem upW_take {us : List Up} {k : Nat} (hk : k < us.length) (ss : List ByteArray) : upW ss (us.take (k + 1)) = (upW ss (us.take k)).set us[k].at_.toNat us[k].data := by
  rw [List.take_succ_eq_append_getElem hk, upW_app]; rfl
theorem upW_off : ∀ (us : List Up) (ss : List ByteArray) (k : Nat), (∀ u ∈ us, u.at_.toNat ≠ k) → ∀ d, (upW ss us).getD k d = ss.getD k d
  | [], ss, k, h, d => rfl
  | u :: us, ss, k, h, d => by
    show (upW (ss.set u.at_.toNat u.data) us).getD k d = _
    rw [upW_off us _ k (fun v hv => h v (by simp [hv])) d]
    have := h u (by simp)
    simp [List.getD_eq_getElem?_getD, this]
theorem upW_on : ∀ (us : List Up) (ss : List ByteArray), us.Pairwise (fun u v => u.at_.toNat ≠ v.at_.toNat) → (∀ u ∈ us, u.at_.toNat < ss.length) → ∀ u ∈ us, ∀ d, (upW ss us).getD u.at_.toNat d = u.data
  | [], ss, _, _, u, hu, d => by cases hu
  | v :: us, ss, hp, hb, u, hu, d => by
    show (upW (ss.set v.at_.toNat v.data) us).getD _ d = _
    rw [List.pairwise_cons] at hp
    rcases List.mem_cons.1 hu with h1 | h1
    · subst h1
      rw [upW_off us _ _ (fun x hx => (hp.1 x hx).symm) d]
      have := hb u (by simp)
      simp [List.getD_eq_getElem?_getD, this]
    · exact upW_on us _ hp.2 (fun x hx => by rw [List.length_set]; exact hb x (by simp [hx])) u h1 d
theorem upW_mem : ∀ (us : List Up) (ss : List ByteArray), ∀ s ∈ upW ss us, s ∈ ss ∨ ∃ u ∈ us, s = u.data
  | [], ss, s, hs => .inl hs
  | u :: us, ss, s, hs => by
    rcases upW_mem us (ss.set u.at_.toNat u.data) s hs with h | ⟨v, hv, rfl⟩
    · rcases List.mem_or_eq_of_mem_set h with h | h
      · exact .inl h
      · exact .inr ⟨u, by simp, h⟩
    · exact .inr ⟨v, by simp [hv], rfl⟩

/-- Where an image's updates go: to sectors of their own. -/
theorem tabU_at : ∀ (ss : List Snp) (i : Nat), ∀ u ∈ tabU i ss, 12 + (i : Int) ≤ u.at_ ∧ u.at_ < 12 + (i : Int) + ss.length
  | [], i, u, hu => by cases hu
  | s :: ss, i, u, hu => by
    simp only [tabU, List.mem_cons] at hu
    simp only [List.length_cons]
    rcases hu with rfl | hu
    · simp; omega
    · have := tabU_at ss (i + 1) u hu
      omega
theorem tabU_up : ∀ (ss : List Snp) (i : Nat), (tabU i ss).Pairwise (fun u v => u.at_ < v.at_)
  | [], i => .nil
  | s :: ss, i => by
    simp only [tabU]
    refine List.pairwise_cons.2 ⟨fun v hv => ?_, tabU_up ss (i + 1)⟩
    have := tabU_at ss (i + 1) v hv
    simp; omega
theorem datU_at {m : Img} {c : Nat} {u : Up} (h : u ∈ datU m c) : u.at_ = 15 + (c : Int) := by
  unfold datU at h
  split at h
  · rw [List.mem_singleton] at h; subst h; rfl
  · cases h
theorem dataU_at {m : Img} {k : Nat} {u : Up} (h : u ∈ dataU m k) : 15 ≤ u.at_ ∧ u.at_ < 15 + (k : Int) := by
  unfold dataU at h
  obtain ⟨c, hc, hu⟩ := List.mem_flatMap.1 h
  rw [List.mem_range] at hc
  rw [datU_at hu]; omega
theorem dataU_up (m : Img) : ∀ k, (dataU m k).Pairwise (fun u v => u.at_ < v.at_)
  | 0 => by simp [dataU]
  | k + 1 => by
    rw [dataU_succ, List.pairwise_append]
    refine ⟨dataU_up m k, ?_, fun u hu v hv => ?_⟩
    · unfold datU; split <;> simp
    · have := dataU_at hu; rw [datU_at hv]; omega
theorem headU_at {m : Img} {u : Up} (h : u ∈ headU m) : 9 ≤ u.at_ ∧ u.at_ < 12 := by
  simp only [headU, List.mem_cons, List.not_mem_nil, or_false] at h
  rcases h with rfl | rfl | rfl <;> simp
theorem headU_up (m : Img) : (headU m).Pairwise (fun u v => u.at_ < v.at_) := by simp [headU]
theorem allU_up {m : Img} (h : m.snaps.length ≤ 3) : (allU m).Pairwise (fun u v => u.at_ < v.at_) := by
  unfold allU
  refine List.pairwise_append.2 ⟨List.pairwise_append.2 ⟨headU_up m, tabU_up _ _, fun u hu v hv => ?_⟩, dataU_up m 24, fun u hu v hv => ?_⟩
  · have := headU_at hu; have := tabU_at _ _ v hv; omega
  · have h2 := dataU_at hv
    rcases List.mem_append.1 hu with h1 | h1
    · have := headU_at h1; omega
    · have := tabU_at _ _ u h1; omega
theorem allU_at {m : Img} (h : m.snaps.length ≤ 3) : ∀ u ∈ allU m, 9 ≤ u.at_ ∧ u.at_ < 39 := fun u hu => by
  unfold allU at hu
  rcases List.mem_append.1 hu with h1 | h1
  · rcases List.mem_append.1 h1 with h1 | h1
    · have := headU_at h1; omega
    · have := tabU_at _ _ u h1; omega
  · have := dataU_at h1; omega
theorem allU_ne {m : Img} (h : m.snaps.length ≤ 3) : (allU m).Pairwise (fun u v => u.at_.toNat ≠ v.at_.toNat) :=
  List.Pairwise.imp_of_mem (fun {u v} hu hv huv => by have := allU_at h u hu; have := allU_at h v hv; omega) (allU_up h)

/-- Sectors read with no write waiting. -/
theorem secV_nil (ss : List ByteArray) (h : Int) (k : Nat) : secV ss [] h k = ss.getD k ⟨#[]⟩ := by
  unfold secV; rw [readV_none (fun j hj => by cases hj)]; rfl
theorem diskB_nil {ss : List ByteArray} (hl : ss.length = 64) (hs : ∀ s ∈ ss, s.size ≤ 80) : diskB ss [] = true := diskB_parts.2 ⟨⟨hl, hs⟩, by simp, fun x hx => by cases hx⟩
theorem rdA_ok {ss : List ByteArray} {h : Int} {m : Img} (hl : ss.length = 64) (hs : ∀ s ∈ ss, s.size ≤ 80) (hh : 0 ≤ h ∧ h ≤ 3) (hm : ImR m) (hv : ∀ u ∈ allU m, ss.getD u.at_.toNat ⟨#[]⟩ = u.data) : rdA ss [] h = (m, 0) := by
  obtain ⟨h1, h2⟩ := sr_all hm (sec := secV ss [] h) (fun u hu => by rw [secV_nil]; exact hv u hu)
  have hc : hostC ss [] h = 0 := hostC_ok (diskB_nil hl hs) (by simp [inB]; omega)
  rw [rdA, if_pos hc, if_pos h1, h2]

/-- An image's updates put into sectors: it is read back. -/
theorem upW_small {ss : List ByteArray} {us : List Up} (hs : ∀ s ∈ ss, s.size ≤ 80) (hu : ∀ u ∈ us, u.data.size ≤ 80) : ∀ s ∈ upW ss us, s.size ≤ 80 := fun s h => by
  rcases upW_mem us ss s h with h1 | ⟨u, h1, rfl⟩
  · exact hs s h1
  · exact hu u h1
theorem rd_all {ss : List ByteArray} {h : Int} {m : Img} (hl : ss.length = 64) (hs : ∀ s ∈ ss, s.size ≤ 80) (hh : 0 ≤ h ∧ h ≤ 3) (hm : ImR m) : rdA (upW ss (allU m)) [] h = (m, 0) :=
  rdA_ok (by rw [upW_len, hl]) (upW_small hs (allU_sz hm)) hh hm (fun u hu => upW_on _ _ (allU_ne hm.few) (fun v hv => by have := allU_at hm.few v hv; omega) u hu _)

theorem pw_at : ∀ {us : List Up}, us.Pairwise (fun u v => u.at_.toNat ≠ v.at_.toNat) → ∀ {u v : Up}, u ∈ us → v ∈ us → u.at_.toNat = v.at_.toNat → u = v
  | [], _, u, v, hu, _, _ => by cases hu
  | x :: us, hp, u, v, hu, hv, he => by
    rw [List.pairwise_cons] at hp
    rcases List.mem_cons.1 hu with h1 | h1 <;> rcases List.mem_cons.1 hv with h2 | h2
    · rw [h1, h2]
    · subst h1; exact absurd he (hp.1 v h2)
    · subst h2; exact absurd he.symm (hp.1 u h1)
    · exact pw_at hp.2 h1 h2 he

/-- And then what another image's updates differ in: the other image is read. -/
theorem difU_sub {a b : Img} {u : Up} (h : u ∈ difU a b) : u ∈ allU b := (List.mem_filter.1 h).1
theorem rd_dif {ss : List ByteArray} {h : Int} {a b : Img} (hl : ss.length = 64) (hs : ∀ s ∈ ss, s.size ≤ 80) (hh : 0 ≤ h ∧ h ≤ 3) (ha : ImR a) (hb : ImR b) : rdA (upW (upW ss (allU a)) (difU a b)) [] h = (b, 0) := by
  have hd : (difU a b).Pairwise (fun u v => u.at_.toNat ≠ v.at_.toNat) := (allU_ne hb.few).filter _
  have hB : ∀ u ∈ allU b, u.at_.toNat < 64 := fun u hu => by have := allU_at hb.few u hu; omega
  refine rdA_ok (by rw [upW_len, upW_len, hl]) (upW_small (upW_small hs (allU_sz ha)) fun u hu => allU_sz hb u (difU_sub hu)) hh hb fun u hu => ?_
  by_cases hin : u ∈ difU a b
  · exact upW_on _ _ hd (fun v hv => by rw [upW_len, hl]; exact hB v (difU_sub hv)) u hin _
  · rw [upW_off _ _ _ (fun v hv he => ?_)]
    · have hA : u ∈ allU a := by
        have h1 : ¬ (!(allU a).any fun v => upEq v u) = true := fun h1 => hin (List.mem_filter.2 ⟨hu, h1⟩)
        simp only [Bool.not_eq_true', Bool.not_eq_false, List.any_eq_true, upEq, Bool.and_eq_true, decide_eq_true_eq] at h1
        obtain ⟨v, hv, e1, e2⟩ := h1
        have : v = u := by cases v; cases u; simp only at e1 e2; rw [e1, e2]
        rw [← this]; exact hv
      exact upW_on _ _ (allU_ne ha.few) (fun v hv => by have := allU_at ha.few v hv; omega) u hA _
    · -- another update of b at the same sector is u itself
      have hv' := difU_sub hv
      have : v = u := pw_at (allU_ne hb.few) hv' hu he
      exact hin (this ▸ hv)
theorem difU_self (a : Img) : difU a a = [] := by
  unfold difU
  rw [List.filter_eq_nil_iff]
  intro u hu
  simp only [Bool.not_eq_true', Bool.not_eq_false, List.any_eq_true]
  exact ⟨u, hu, by simp [upEq]⟩
theorem difU_few {a b : Img} (hb : b.snaps.length ≤ 3) : (difU a b).length ≤ 30 := Nat.le_trans (List.length_filter_le _ _) (allU_len hb)

/-- What Format leaves: a new image is read from it. -/
def fmS (n : Nat) : List ByteArray := upW noSs (allU (imNew n))
theorem putW_fm (h : Int) : ∀ (us : List Up) (ss : List ByteArray), putW ss (fmW h us) = upW ss us
  | [], ss => rfl
  | u :: us, ss => by
    show putW (ss.set u.at_.toNat u.data) (fmW h us) = upW (ss.set u.at_.toNat u.data) us
    exact putW_fm h us _
theorem ofH_fm (h : Int) (us : List Up) : ofH h (fmW h us) = fmW h us := by
  unfold ofH fmW; rw [List.filter_eq_self]
  intro x hx
  obtain ⟨u, _, rfl⟩ := List.mem_map.1 hx
  simp
theorem dropF_fm (h : Int) (us : List Up) : dropF h (fmW h us) = [] := by
  unfold dropF fmW; rw [List.filter_eq_nil_iff]
  intro x hx
  obtain ⟨u, _, rfl⟩ := List.mem_map.1 hx
  simp
theorem noSs_mem {s : ByteArray} (h : s ∈ noSs) : s.size ≤ 80 := by rw [List.eq_of_mem_replicate h]; decide
theorem fm_all {n : Nat} (hn : n ≤ 12) : foC noSs [] 1 n = 0 ∧ foX noSs [] 1 n = [] ∧ foS noSs [] 1 n = fmS n := by
  have hc : hostC noSs [] 1 = 0 := hostC_ok (diskB_nil noSs_len fun s hs => noSs_mem hs) (by simp [inB])
  obtain ⟨e1, e2, e3⟩ := fo_ok (n := n) hc (by simp [inB]; omega) (by simp)
  refine ⟨e3, ?_, ?_⟩
  · rw [e2, List.nil_append, fuW, dropF_fm]
  · rw [e1, List.nil_append, fuW, ofH_fm, putW_fm]; rfl
theorem fmS_len (n : Nat) : (fmS n).length = 64 := by rw [fmS, upW_len, noSs_len]
theorem fmS_small {n : Nat} (hn : n ≤ 12) : ∀ s ∈ fmS n, s.size ≤ 80 := upW_small (fun s hs => noSs_mem hs) (allU_sz (ImR.new hn))
theorem rd_fm {n : Nat} (hn : n ≤ 12) : rdA (fmS n) [] 2 = (imNew n, 0) := rd_all noSs_len (fun s hs => noSs_mem hs) (by omega) (ImR.new hn)

end Go.Proofs.YthnpooffhopnkacGreatDoor

/- Contracts of the program's counts: RefsOK, clusterOK, countsOf, countsWith, list, RefUp. -/
namespace Go.Proofs.YthnpooffhopnkacGreatDoor
open Go.RowKit
set_option linter.unusedVariables false
set_option maxRecDepth 100000

theorem sizeA24 : (Tryz.prog.info? 101).map (·.size) = some 24 := by kernel_rfl
theorem arr24 : Tryz.prog.arrayLen 101 = 24 := by kernel_rfl
theorem und24 : Tryz.prog.underlying 101 = some (.array 24 3) := by kernel_rfl
theorem sizeA {xs : List Int} (h : xs.length = 24) : (Tryz.prog.info? 101).map (·.size) = some (intV xs).toArray.size := by rw [intV_size, h]; exact sizeA24
theorem sizeL {xs : List Int} (h : xs.length = 24) : (Tryz.prog.info? 101).map (·.size) = some (intV xs).length := by rw [intV_length, h]; exact sizeA24

set_option maxHeartbeats 800000 in
theorem refsOK_impl (ao : Option Addr) (cap : Nat) (xs : List Int) (w : World) (hl : xs.length ≤ maxLen) (hc : Is w ao xs) :
    Calls Tryz.prog 99 #[.slice ao xs.length cap] w fun e w' => e = .returned (.bool (ctB xs)) ∧ w' = w := by
  have HC := hide hc
  clear hc
  unfold maxLen at hl
  by_cases h24 : xs.length = 24
  · have hb : ((xs.length : Int) != 24) = false := by simp [h24]
    have H24 := hide h24
    clear h24
    go_enter Tryz.func99, Tryz.ntmps99
    go_wp2
    go_loop [10] (fun i => ∃ k : Nat, k ≤ xs.length ∧ i = .int .i64 k ∧ Hid (∀ j (h : j < xs.length), j < k → cnt1 xs[j] = true)) (fun i => xs.length - (intOf i).toNat)
    case atStart => exact ⟨0, Nat.zero_le _, rfl, hide (fun j _ h => by omega)⟩
    case round =>
      obtain ⟨k, hk, rfl, HA⟩ := hrel
      by_cases hlt : k < xs.length
      · obtain ⟨b, off, rfl, hc⟩ := unhide HC k hlt
        by_cases hn : cnt1 xs[k] = true
        · have HN := hide (all_succ hlt (unhide HA) hn)
          have hn' : betw xs[k] 0 15 = true := hn
          clear hn
          go_wp2_with (go_at_call 72; refine (within_any _ _ _ _).mono ?_; rintro e w' ⟨rfl, rfl⟩)
          go_round
          case rel => exact ⟨k + 1, by omega, by go_num, HN⟩
          case measure => simp [intOf]; omega
        · have hn0 : cnt1 xs[k] = false := by simpa using hn
          have hn' : betw xs[k] 0 15 = false := hn0
          have HF := hide (ctB_noat hlt hn0)
          clear hn hn0
          go_wp2_with (go_at_call 72; refine (within_any _ _ _ _).mono ?_; rintro e w' ⟨rfl, rfl⟩)
          go_ret
          exact ⟨ret_bool (unhide HF).symm, rfl⟩
      · have HF := hide (ctB_of (unhide H24) (fun j h => unhide HA j h (by omega)))
        go_wp2
        go_ret
        exact ⟨ret_bool (unhide HF).symm, rfl⟩
  · have hb : ((xs.length : Int) != 24) = true := by simp; omega
    have HF := hide (ctB_nolen h24)
    clear h24
    go_enter Tryz.func99, Tryz.ntmps99
    go_wp2
    go_ret
    exact ⟨ret_bool (unhide HF).symm, rfl⟩

/-- An array of counts as a value. -/
abbrev ctV (xs : List Int) : Value := .agg (intV xs).toArray
theorem zero_arr : (#[.int .i64 0, .int .i64 0, .int .i64 0, .int .i64 0, .int .i64 0, .int .i64 0, .int .i64 0, .int .i64 0, .int .i64 0, .int .i64 0, .int .i64 0, .int .i64 0, .int .i64 0, .int .i64 0, .int .i64 0, .int .i64 0, .int .i64 0, .int .i64 0, .int .i64 0, .int .i64 0, .int .i64 0, .int .i64 0, .int .i64 0, .int .i64 0] : Array Value) = (intV zero24).toArray := rfl
theorem ret_ci {xs ys : List Int} {a b : Int} (h : xs = ys) (k : a = b) : Ending.returned (.tuple #[ctV xs, .int .i64 a]) = .returned (.tuple #[ctV ys, .int .i64 b]) := by rw [h, k]
theorem arr_new (w : World) : (w.alloc (.cells #[.int .i64 0, .int .i64 0, .int .i64 0, .int .i64 0, .int .i64 0, .int .i64 0, .int .i64 0, .int .i64 0, .int .i64 0, .int .i64 0, .int .i64 0, .int .i64 0, .int .i64 0, .int .i64 0, .int .i64 0, .int .i64 0, .int .i64 0, .int .i64 0, .int .i64 0, .int .i64 0, .int .i64 0, .int .i64 0, .int .i64 0, .int .i64 0] 101)).heap[w.heap.size]? = some (.cells (intV zero24).toArray 101 (0, 0)) := heap_alloc_new w _
theorem load_ct (W : World) {g : Nat} {xs : List Int} (h : W.heap[g]? = some (.cells (intV xs).toArray 101 (0, 0))) (hl : xs.length = 24) : (loadVar 101 ⟨g, 0, none⟩).run Tryz.prog W = .ok (ctV xs) W :=
  run_loadVar_row W g 101 101 (intV xs).toArray (0, 0) _ h und24 rfl (sizeA hl)

theorem res_ct {W : World} {g : Nat} {xs : List Int} {p u : Value} (h : W.heap[g]? = some (.cells (intV xs).toArray 101 (0, 0))) (hl : xs.length = 24) (hp : p = .pointer (some ⟨g, 0, none⟩)) : (((asAddr p).run Tryz.prog W).andThen fun a w₁ => ((loadVar 101 a).run Tryz.prog w₁).andThen fun v w₂ => .ok (Value.tuple #[v, u]) w₂) = .ok (Value.tuple #[ctV xs, u]) W := by
  subst hp
  simp only [asAddr, Sem.run_pure, Result.andThen_ok, load_ct W h hl]

/-- An array of counts in a variable. -/
abbrev VarC (W : World) (g : Nat) (xs : List Int) : Prop := W.heap[g]? = some (.cells (intV xs).toArray 101 (0, 0))
theorem cw_bad {xs : List Int} {c : Int} (h : ctF xs ≠ 0) : cwF xs c = ctF xs ∧ cwR xs c = zero24 := by
  have e : cwF xs c = ctF xs := by rw [cwF, if_neg h]
  exact ⟨e, by rw [cwR, e, if_neg h]⟩
theorem cw_out {xs : List Int} {c : Int} (h : ctF xs = 0) (hc : betw c 0 23 = false) : cwF xs c = 4 ∧ cwR xs c = zero24 := by
  have e : cwF xs c = 4 := by rw [cwF, if_pos h, hc]; rfl
  exact ⟨e, by rw [cwR, e]; rfl⟩
theorem cw_in {xs : List Int} {c : Int} (h : ctF xs = 0) (hc : betw c 0 23 = true) : cwF xs c = 0 ∧ cwR xs c = xs := by
  have e : cwF xs c = 0 := by rw [cwF, if_pos h, hc]; rfl
  exact ⟨e, by rw [cwR, e]; rfl⟩
theorem ctF_ne (xs : List Int) (h : ctF xs ≠ 0) : (ctF xs != 0) = true := by simpa using h

theorem intV_ones (xs : List Int) : ∀ v ∈ intV xs, v.oneCell' = true := by
  intro v hv
  simp only [intV, List.mem_map] at hv
  obtain ⟨n, _, rfl⟩ := hv
  rfl
theorem sizeI1 : (Tryz.prog.info? 3).map (·.size) = some 1 := by kernel_rfl
theorem runI1 (W : World) : (Go.sizeOf 3).run Tryz.prog W = .ok 1 W := by
  have h := sizeI1
  cases hq : Tryz.prog.info? 3 with
  | none => simp [hq] at h
  | some i =>
    have hi : i.size = 1 := by simpa [hq] using h
    simp [Go.sizeOf, typeInfo, hq, hi]
set_option maxHeartbeats 1600000 in
theorem copyI_any (b off cap : Nat) (ss : List Int) (w : World) (hl : ss.length ≤ 1048576) (h0 : 0 < ss.length) (hbl : b < w.heap.size) (hc : w.rangeAt b off (intV ss)) :
    Calls Tryz.prog 120 #[.slice (some ⟨b, off, none⟩) ss.length cap] w fun e w' => e = .returned (.slice (some ⟨w.heap.size, 0, none⟩) ss.length ss.length) ∧ w'.ownsRow w.heap.size 3 1 (.slice (some ⟨w.heap.size, 0, none⟩) ss.length ss.length) ss.length (intV ss) ∧ Below w.heap.size w w' := by
  have hb : ((ss.length : Int) == 0) = false := beq_eq_false_iff_ne.2 (by omega)
  have HCS := hide hc
  have HP := hide h0
  clear hc h0
  obtain ⟨i0, hi, hz0, hz1, hz2⟩ := info_parts infoM
  go_enter Tryz.func120, Tryz.ntmps120
  go_wp2_with (first | (at_make; refine wpList_make_full _ rfl _ _ 23 rfl w.heap.size 3 i0 _ 1 Tryz.underlying23 hi hz0 hz1 _ _ _ _ ss.length rfl rfl rfl rfl ?c1 ?c2 ?c3 ?_))
  case c1 => rw [hz2]; omega
  case c2 => unfold maxLen; omega
  case c3 => exact Nat.le_refl _
  intro w1 hown hgrow
  have hB : Below w.heap.size w w1 := (Below.refl _ _).grown hgrow (Nat.le_refl _) (fun _ h => by cases h)
  have HO := hide hown
  have HB := hide hB
  have HC1 : Hid (∀ j v, (intV ss)[j]? = some v → w1.cell? (Addr.add ⟨b, off, none⟩ j) = some v) := hide (fun j v hv => ((unhide HB).cell (by unfold Addr.add; split <;> exact hbl)).trans (by rw [Addr.add_mid]; exact unhide HCS j v hv))
  clear hown hgrow hB
  go_wp2_with (refine wpList_copy_whole rfl _ _ 23 23 rfl 3 1 Tryz.underlying23 sizeI1 w.heap.size w.heap.size ss.length ⟨b, off, none⟩ _ rfl rfl _ (unhide HO) (intV ss) (by rw [intV_length]; omega) (unhide HC1) (intV_ones ss) ?_; intro w2 ho2 hg2)
  have HB2 := hide ((unhide HB).grown hg2 (unhide HB).size (fun k h => by cases h; exact Nat.le_refl _))
  have HO2 := hide ho2
  clear ho2 hg2
  go_ret
  exact ⟨rfl, unhide HO2, unhide HB2⟩

theorem slice24 (W : World) (g : Nat) : (Instr.sliceAt 101 (.pointer (some ⟨g, 0, none⟩)) none none none).run Tryz.prog W = .ok (.slice (some ⟨g, 0, none⟩) 24 24) W := by
  have hu : Tryz.prog.underlying 101 = some (.array (Tryz.prog.arrayLen 101) (Tryz.prog.elem 101)) := by kernel_rfl
  have he : Tryz.prog.elem 101 = 3 := by kernel_rfl
  rw [run_sliceAt_array_all W _ _ hu, he, runI1, arr24]
  simp only [Result.andThen, slicedAt, Nat.mul_one, Nat.sub_zero]
  rfl
set_option maxHeartbeats 1600000 in
theorem list_any (xs : List Int) (w : World) (hl : xs.length = 24) :
    Calls Tryz.prog 79 #[ctV xs] w fun e w' => ∃ g, e = .returned (.slice (some ⟨g, 0, none⟩) 24 24) ∧ w'.ownsRow w.heap.size 3 1 (.slice (some ⟨g, 0, none⟩) 24 24) 24 (intV xs) ∧ Below w.heap.size w w' := by
  have HN : Hid (VarC (w.alloc (.cells (intV xs).toArray 101)) w.heap.size xs) := hide (heap_alloc_new w _)
  have HA := hide (Joins.below_alloc1 w (.cells (intV xs).toArray 101))
  have HL := hide hl
  have hsl := fun W => slice24 W w.heap.size
  clear hl
  go_enter Tryz.func79, Tryz.ntmps79
  go_upto_region 1 with fail
  revert HN HA
  generalize (w.alloc _) = W1
  intro HN HA
  go_wp2_with fail
  have k := copyI_any w.heap.size 0 24 xs W1 (by rw [unhide HL]; omega) (by rw [unhide HL]; omega) (Array.getElem?_eq_some_iff.1 (unhide HN)).1 (fun j v hv => by rw [Nat.zero_add, Joins.cell_of_block (unhide HN)]; simpa using hv)
  rw [unhide HL] at k
  refine k.mono ?_
  rintro e w2 ⟨rfl, ho, hb⟩
  have HO := hide (own_base ho (unhide HA).size)
  have HB := hide (fr (unhide HA) hb)
  clear ho hb k
  go_wp2
  go_ret
  exact ⟨_, rfl, unhide HO, unhide HB⟩

theorem idx24 (W : World) (xs : List Int) (k : Nat) (hl : xs.length = 24) (hk : k < xs.length) : (Instr.index 101 (ctV xs) (.int .i64 k)).run Tryz.prog W = .ok (.int .i64 xs[k]) W := by
  have hu := und24
  have hk' : k < 24 := by omega
  have h2 := sizeI1
  cases hq : Tryz.prog.info? 3 with
  | none => simp [hq] at h2
  | some i =>
    have hi : i.size = 1 := by simpa [hq] using h2
    simp [Instr.index, run_underlying, hu, sizeOf, typeInfo, hq, hi, intV, asIntOf, part, hk]
    intro h
    omega

end Go.Proofs.YthnpooffhopnkacGreatDoor
