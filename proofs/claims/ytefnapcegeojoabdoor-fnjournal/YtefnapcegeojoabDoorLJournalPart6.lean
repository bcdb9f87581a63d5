import Derived.Test.YtefnapcegeojoabDoorLJournalPart1
import Derived.Test.YtefnapcegeojoabDoorLJournalPart3
import Derived.Test.YtefnapcegeojoabDoorLJournalPart5
import Derived.WalkKit
import Derived.Test.YtefnapcegeojoabDoorRows
import Derived.WalkSpells
import Derived.KernelRfl
import Derived.Lib.SmallJoins
import Derived.Test.YtefnapcegeojoabDoorLJournalPart2
import Derived.Laws.BytesArg
import Derived.Laws.CopyRow
import Derived.Laws.CopyOwn
import Derived.Deep.RegionLaw
import Derived.Deep.AppendLies
import Derived.Deep.RegionWith

/- Plain: moves that are right, what they do to a disk, what MovesDo answers. -/
namespace Go.Proofs.YtefnapcegeojoabDoor
open Go.RowKit
set_option linter.unusedVariables false

def mvB (m : Wr) : Bool := if m.host = 1 then (inB m.at_ 0 63 && decide (m.data.size ≤ 80)) else (decide (m.host = 2) && (decide (m.at_ = 0) && decide (m.data.size = 0)))
def msB (ms : List Wr) : Bool := ms.all mvB
theorem msB_at {ms : List Wr} (h : msB ms = true) {k : Nat} (hk : k < ms.length) : mvB ms[k] = true := List.all_eq_true.1 h _ (List.getElem_mem hk)
theorem mvB_write {m : Wr} (h : mvB m = true) (hn : m.host ≠ 2) : (0 ≤ m.at_ ∧ m.at_ ≤ 63) ∧ m.data.size ≤ 80 := by
  unfold mvB at h
  split at h
  · simpa [inB] using h
  · simp [hn] at h
/-- What one move does. -/
def dm1 (h : Int) (st : List ByteArray × List Wr) (m : Wr) : List ByteArray × List Wr := if m.host = 2 then (putW st.1 (ofH h st.2), dropF h st.2) else (st.1, st.2 ++ [⟨h, m.at_, m.data⟩])
def dmL (h : Int) (ss : List ByteArray) (xs : List Wr) (ms : List Wr) : List ByteArray × List Wr := ms.foldl (dm1 h) (ss, xs)
theorem dmL_succ {h : Int} {ss : List ByteArray} {xs ms : List Wr} {k : Nat} (hk : k < ms.length) : dmL h ss xs (ms.take (k + 1)) = dm1 h (dmL h ss xs (ms.take k)) ms[k] := by
  unfold dmL
  rw [List.take_succ_eq_append_getElem hk, List.foldl_append]; rfl
theorem dm1_flush {h : Int} {S : List ByteArray} {X : List Wr} {m : Wr} (hm : m.host = 2) : dm1 h (S, X) m = (putW S (ofH h X), dropF h X) := if_pos hm
theorem dm1_write {h : Int} {S : List ByteArray} {X : List Wr} {m : Wr} (hm : m.host ≠ 2) : dm1 h (S, X) m = (S, X ++ [⟨h, m.at_, m.data⟩]) := if_neg hm
theorem dm1_right {h : Int} {S : List ByteArray} {X : List Wr} {m : Wr} (hh : 0 ≤ h ∧ h ≤ 3) (hd : diskB S X = true) (hl : X.length < 200) (hm : mvB m = true) : diskB (dm1 h (S, X) m).1 (dm1 h (S, X) m).2 = true ∧ (dm1 h (S, X) m).2.length ≤ X.length + 1 := by
  by_cases h2 : m.host = 2
  · rw [dm1_flush h2]
    exact ⟨diskB_put hd (fun x hx => of_mem hx) (fun x hx => drop_mem hx) (drop_le h X), by have := drop_le h X; show (dropF h X).length ≤ X.length + 1; omega⟩
  · rw [dm1_write h2]
    obtain ⟨p1, p2⟩ := mvB_write hm h2
    exact ⟨diskB_snoc hd hl (ioB_parts.2 ⟨hh, p1, p2⟩), by simp⟩
theorem dmL_right {h : Int} {ss : List ByteArray} {xs ms : List Wr} (hh : 0 ≤ h ∧ h ≤ 3) (hd : diskB ss xs = true) (hm : msB ms = true) (hl : xs.length + ms.length ≤ 200) : ∀ k, k ≤ ms.length → diskB (dmL h ss xs (ms.take k)).1 (dmL h ss xs (ms.take k)).2 = true ∧ (dmL h ss xs (ms.take k)).2.length ≤ xs.length + k := by
  intro k
  induction k with
  | zero => intro _; exact ⟨by simpa [dmL] using hd, by simp [dmL]⟩
  | succ k ih =>
    intro hk
    obtain ⟨i1, i2⟩ := ih (by omega)
    rw [dmL_succ (show k < ms.length by omega)]
    obtain ⟨r1, r2⟩ := dm1_right (S := (dmL h ss xs (ms.take k)).1) (X := (dmL h ss xs (ms.take k)).2) hh i1 (by omega) (msB_at hm (show k < ms.length by omega))
    exact ⟨r1, Nat.le_trans r2 (by omega)⟩
/-- What MovesDo answers. -/
def mdC (ss : List ByteArray) (xs : List Wr) (h : Int) (ms : List Wr) : Int := if 4096 < ms.length then 2 else if hostC ss xs h = 0 then (if msB ms = true then (if 200 < xs.length + ms.length then 7 else 0) else 1) else hostC ss xs h
def mdS (ss : List ByteArray) (xs : List Wr) (h : Int) (ms : List Wr) : List ByteArray := if mdC ss xs h ms = 0 then (dmL h ss xs ms).1 else if mdC ss xs h ms = 7 then ss else []
def mdX (ss : List ByteArray) (xs : List Wr) (h : Int) (ms : List Wr) : List Wr := if mdC ss xs h ms = 0 then (dmL h ss xs ms).2 else if mdC ss xs h ms = 7 then xs else []
theorem md_long {ss : List ByteArray} {xs : List Wr} {h : Int} {ms : List Wr} (h1 : 4096 < ms.length) : mdC ss xs h ms = 2 ∧ mdS ss xs h ms = [] ∧ mdX ss xs h ms = [] := by
  have e : mdC ss xs h ms = 2 := if_pos h1
  exact ⟨e, by simp [mdS, e], by simp [mdX, e]⟩
theorem hostC_cases (ss : List ByteArray) (xs : List Wr) (h : Int) : hostC ss xs h = 0 ∨ hostC ss xs h = 1 ∨ hostC ss xs h = 4 := by
  unfold hostC; split
  · split
    · exact .inl rfl
    · exact .inr (.inr rfl)
  · exact .inr (.inl rfl)
theorem md_host {ss : List ByteArray} {xs : List Wr} {h : Int} {ms : List Wr} (h1 : ¬ 4096 < ms.length) (h2 : hostC ss xs h ≠ 0) : mdC ss xs h ms = hostC ss xs h ∧ mdS ss xs h ms = [] ∧ mdX ss xs h ms = [] := by
  have e : mdC ss xs h ms = hostC ss xs h := by rw [mdC, if_neg h1, if_neg h2]
  have h7 : hostC ss xs h ≠ 7 := by rcases hostC_cases ss xs h with e | e | e <;> rw [e] <;> decide
  exact ⟨e, by simp [mdS, e, h2, h7], by simp [mdX, e, h2, h7]⟩
theorem md_bad {ss : List ByteArray} {xs : List Wr} {h : Int} {ms : List Wr} (h1 : ¬ 4096 < ms.length) (h2 : hostC ss xs h = 0) (h3 : msB ms = false) : mdC ss xs h ms = 1 ∧ mdS ss xs h ms = [] ∧ mdX ss xs h ms = [] := by
  have e : mdC ss xs h ms = 1 := by rw [mdC, if_neg h1, if_pos h2, if_neg (by simp [h3])]
  exact ⟨e, by simp [mdS, e], by simp [mdX, e]⟩
theorem md_full {ss : List ByteArray} {xs : List Wr} {h : Int} {ms : List Wr} (h1 : ¬ 4096 < ms.length) (h2 : hostC ss xs h = 0) (h3 : msB ms = true) (h4 : 200 < xs.length + ms.length) : mdC ss xs h ms = 7 ∧ mdS ss xs h ms = ss ∧ mdX ss xs h ms = xs := by
  have e : mdC ss xs h ms = 7 := by rw [mdC, if_neg h1, if_pos h2, if_pos h3, if_pos h4]
  exact ⟨e, by simp [mdS, e], by simp [mdX, e]⟩
theorem md_ok {ss : List ByteArray} {xs : List Wr} {h : Int} {ms : List Wr} (h1 : ¬ 4096 < ms.length) (h2 : hostC ss xs h = 0) (h3 : msB ms = true) (h4 : ¬ 200 < xs.length + ms.length) : mdC ss xs h ms = 0 ∧ mdS ss xs h ms = (dmL h ss xs ms).1 ∧ mdX ss xs h ms = (dmL h ss xs ms).2 := by
  have e : mdC ss xs h ms = 0 := by rw [mdC, if_neg h1, if_pos h2, if_pos h3, if_neg h4]
  exact ⟨e, by simp [mdS, e], by simp [mdX, e]⟩
/-- What MovesDo answers is no greater than what it was given. -/
theorem md_right {ss : List ByteArray} {xs : List Wr} {h : Int} {ms : List Wr} (hs : ∀ s ∈ ss, s.size ≤ maxLen) (hx : ∀ x ∈ xs, x.data.size ≤ maxLen) : (∀ s ∈ mdS ss xs h ms, s.size ≤ maxLen) ∧ (∀ x ∈ mdX ss xs h ms, x.data.size ≤ maxLen) ∧ (mdS ss xs h ms).length ≤ max ss.length 64 ∧ (mdX ss xs h ms).length ≤ max xs.length 200 := by
  by_cases h1 : 4096 < ms.length
  · obtain ⟨_, e1, e2⟩ := md_long (ss := ss) (xs := xs) (h := h) h1
    rw [e1, e2]; exact ⟨fun _ h => (by cases h), fun _ h => (by cases h), by simp, by simp⟩
  by_cases h2 : hostC ss xs h = 0
  case neg =>
    obtain ⟨_, e1, e2⟩ := md_host (ms := ms) h1 h2
    rw [e1, e2]; exact ⟨fun _ h => (by cases h), fun _ h => (by cases h), by simp, by simp⟩
  by_cases h3 : msB ms = true
  case neg =>
    rw [Bool.not_eq_true] at h3
    obtain ⟨_, e1, e2⟩ := md_bad (ss := ss) (xs := xs) h1 h2 h3
    rw [e1, e2]; exact ⟨fun _ h => (by cases h), fun _ h => (by cases h), by simp, by simp⟩
  by_cases h4 : 200 < xs.length + ms.length
  · obtain ⟨_, e1, e2⟩ := md_full h1 h2 h3 h4
    rw [e1, e2]; exact ⟨hs, hx, Nat.le_max_left _ _, Nat.le_max_left _ _⟩
  · obtain ⟨_, e1, e2⟩ := md_ok h1 h2 h3 h4
    obtain ⟨hd, h0, h5⟩ := hostC_eq h2
    obtain ⟨r1, r2⟩ := dmL_right (ms := ms) ⟨h0, h5⟩ hd h3 (by omega) ms.length (Nat.le_refl _)
    rw [List.take_of_length_le (Nat.le_refl _)] at r1 r2
    obtain ⟨⟨q1, q2⟩, q3, q4⟩ := diskB_parts.1 r1
    rw [e1, e2]
    refine ⟨fun s h => (by have := q2 s h; unfold maxLen; omega), fun x h => (by have := (ioB_parts.1 (q4 x h)).2.2; unfold maxLen; omega), by rw [q1]; exact Nat.le_max_right _ _, Nat.le_trans q3 (Nat.le_max_right _ _)⟩
/-- A row's texts lie apart from a variable that holds a disk. -/
theorem cell_apart {w : World} {x b j : Nat} {u v c : Value} (hv : VarD w x u v) (h : w.cell? ⟨b, j, none⟩ = some c) (h1 : c ≠ u) (h2 : c ≠ v) : b ≠ x := by
  rintro rfl
  rw [Joins.cell_of_block hv] at h
  match j, h with
  | 0, h => simp at h; exact h1 h.symm
  | 1, h => simp at h; exact h2 h.symm
  | j + 2, h => simp at h
theorem Ss.setX {w : World} {x : Nat} {po qo ao : Option Addr} {n pa m qa : Nat} {ss : List ByteArray} (h : Ss w ao ss) (hv : VarD w x (.slice po n pa) (.slice qo m qa)) (i : Nat) (v : Value) : Ss (w.setCell ⟨x, i, none⟩ v) ao ss := fun j hj => by
  obtain ⟨b, off, e, hc, hz⟩ := h j hj
  have hne : b ≠ x := cell_apart hv hc (by simp) (by simp)
  exact ⟨b, off, e, (World.cell?_of_block (w := w) (Below.heap_setCell w ⟨x, i, none⟩ v b hne)).trans hc, hz⟩
theorem Ios.setX {w : World} {x : Nat} {po qo ao : Option Addr} {n pa m qa : Nat} {xs : List Wr} (h : Ios w ao xs) (hv : VarD w x (.slice po n pa) (.slice qo m qa)) (i : Nat) (v : Value) : Ios (w.setCell ⟨x, i, none⟩ v) ao xs := fun j hj => by
  obtain ⟨b, off, e, h0, h1, h2, hz⟩ := h j hj
  have hne : b ≠ x := cell_apart hv h0 (by simp) (by simp)
  have hb := Below.heap_setCell w ⟨x, i, none⟩ v b hne
  exact ⟨b, off, e, (World.cell?_of_block (w := w) hb).trans h0, (World.cell?_of_block (w := w) hb).trans h1, (World.cell?_of_block (w := w) hb).trans h2, hz⟩
theorem right_sz2 {S : List ByteArray} {X : List Wr} (hd : diskB S X = true) : (∀ s ∈ S, s.size ≤ maxLen) ∧ ∀ x ∈ X, x.data.size ≤ maxLen := by
  obtain ⟨⟨_, q2⟩, _, q4⟩ := diskB_parts.1 hd
  exact ⟨fun s h => (by have := q2 s h; unfold maxLen; omega), fun x h => (by have := (ioB_parts.1 (q4 x h)).2.2; unfold maxLen; omega)⟩
theorem VarD.put {w : World} {x : Nat} {a b : Value} (h : VarD w x a b) (u v : Value) : VarD ((w.setCell ⟨x, 0, none⟩ u).setCell ⟨x, 1, none⟩ v) x u v := Joins.block_setCell (i := 1) (Joins.block_setCell (i := 0) h u) v
theorem VarD.apart {w : World} {x y : Nat} {a b : Value} (h : VarD w x a b) (hne : x ≠ y) (i : Nat) (u : Value) : VarD (w.setCell ⟨y, i, none⟩ u) x a b := by
  unfold VarD; rw [Below.heap_setCell w ⟨y, i, none⟩ u x hne]; exact h
/-- A disk in a variable, as a call shows it. -/
structure DkA (w W : World) (x : Nat) (po : Option Addr) (pa : Nat) (qo : Option Addr) (qa : Nat) (SS : List ByteArray) (XX : List Wr) : Prop where
  v : VarD W x (.slice po SS.length pa) (.slice qo XX.length qa)
  s : Ss W po SS
  i : Ios W qo XX
  k : Below w.heap.size w W
theorem DkA.next {w W W' : World} {x pa qa : Nat} {po qo : Option Addr} {SS : List ByteArray} {XX : List Wr} (h : DkA w W x po pa qo qa SS XX) (hb : Below W.heap.size W W') : DkA w W' x po pa qo qa SS XX := ⟨h.v.below hb, h.s.below hb, h.i.below hb, fr h.k hb⟩
theorem DkA.put {w W : World} {x pa qa pa' qa' n m : Nat} {po qo po' qo' : Option Addr} {SS SS' : List ByteArray} {XX XX' : List Wr} (h : DkA w W x po pa qo qa SS XX) (hx : w.heap.size ≤ x) (hn : n = SS'.length) (hm : m = XX'.length) (h1 : Ss W po' SS') (h2 : Ios W qo' XX') :
    DkA w ((W.setCell ⟨x, 0, none⟩ (.slice po' n pa')).setCell ⟨x, 1, none⟩ (.slice qo' m qa')) x po' pa' qo' qa' SS' XX' := by
  subst hn hm
  have hv0 : VarD (W.setCell ⟨x, 0, none⟩ (.slice po' SS'.length pa')) x (.slice po' SS'.length pa') (.slice qo XX.length qa) := Joins.block_setCell (i := 0) h.v _
  exact ⟨h.v.put _ _, (h1.setX h.v 0 _).setX hv0 1 _, (h2.setX h.v 0 _).setX hv0 1 _, below2 h.k hx 0 1 _ _⟩
end Go.Proofs.YtefnapcegeojoabDoor

/- Plain: the theorem of journals. -/
namespace Go.Proofs.YtefnapcegeojoabDoor
open Go.RowKit
set_option linter.unusedVariables false

def e64 : List ByteArray := List.replicate 64 ⟨#[]⟩
theorem e64_length : e64.length = 64 := by simp [e64]
theorem e64_get (a : Nat) : e64.getD a ⟨#[]⟩ = ⟨#[]⟩ := by
  simp only [e64, List.getD_eq_getElem?_getD, List.getElem?_replicate]
  split <;> rfl
theorem put_app (ss : List ByteArray) (a b : List Wr) : putW ss (a ++ b) = putW (putW ss a) b := by simp [putW]
theorem put_cons (ss : List ByteArray) (x : Wr) (fs : List Wr) : putW ss (x :: fs) = putW (ss.set x.at_.toNat x.data) fs := rfl
def reH (h : Int) (m : Wr) : Wr := ⟨h, m.at_, m.data⟩
theorem put_host (h : Int) : ∀ (fs : List Wr) (ss : List ByteArray), putW ss (fs.map (reH h)) = putW ss fs
  | [], ss => rfl
  | x :: fs, ss => by rw [List.map_cons, put_cons, put_cons]; exact put_host h fs _
theorem put_miss {a : Nat} : ∀ (fs : List Wr) (ss : List ByteArray), (∀ x ∈ fs, x.at_.toNat ≠ a) → (putW ss fs).getD a ⟨#[]⟩ = ss.getD a ⟨#[]⟩
  | [], ss, _ => rfl
  | x :: fs, ss, h => by
    rw [put_cons, put_miss fs _ (fun y hy => h y (List.mem_cons_of_mem _ hy))]
    have := h x List.mem_cons_self
    simp [List.getD_eq_getElem?_getD, List.getElem?_set_ne this]
theorem put_alike {a : Nat} : ∀ (fs : List Wr) (S S' : List ByteArray), S.length = S'.length → (S.getD a ⟨#[]⟩ = S'.getD a ⟨#[]⟩ ∨ ∃ x ∈ fs, x.at_.toNat = a) → (putW S fs).getD a ⟨#[]⟩ = (putW S' fs).getD a ⟨#[]⟩
  | [], S, S', _, h => by
    rcases h with h | ⟨x, hx, _⟩
    · exact h
    · cases hx
  | x :: fs, S, S', hl, h => by
    rw [put_cons, put_cons]
    refine put_alike fs _ _ (by simp [hl]) ?_
    by_cases hx : x.at_.toNat = a
    · left
      simp [List.getD_eq_getElem?_getD, List.getElem?_set, hl, hx]
    · rcases h with h | ⟨y, hy, hya⟩
      · left
        simp only [List.getD_eq_getElem?_getD, List.getElem?_set_ne hx] at h ⊢
        exact h
      · rcases List.mem_cons.1 hy with rfl | hy'
        · exact absurd hya hx
        · exact .inr ⟨y, hy', hya⟩
theorem put_last (ss : List ByteArray) (fs : List Wr) (x : Wr) (h : x.at_.toNat < ss.length) : (putW ss (fs ++ [x])).getD x.at_.toNat ⟨#[]⟩ = x.data := by
  rw [put_snoc]
  simp [List.getD_eq_getElem?_getD, put_len, h]
/-- What moves write. -/
def wrs (ms : List Wr) : List Wr := ms.filter fun m => !decide (m.host = 2)
theorem wrs_app (a b : List Wr) : wrs (a ++ b) = wrs a ++ wrs b := by simp [wrs]
theorem wrs_hit {m : Wr} (ms : List Wr) (h : m.host ≠ 2) : wrs (m :: ms) = m :: wrs ms := by simp [wrs, h]
theorem wrs_miss {m : Wr} (ms : List Wr) (h : m.host = 2) : wrs (m :: ms) = wrs ms := by simp [wrs, h]
theorem wrs_all {ms : List Wr} (h : ∀ x ∈ ms, x.host = 1) : wrs ms = ms := List.filter_eq_self.2 (fun x hx => by simp [h x hx])
theorem wrs_take (ms : List Wr) (k : Nat) : ∃ j, wrs (ms.take k) = (wrs ms).take j :=
  ⟨_, List.prefix_iff_eq_take.1 ((List.take_prefix k ms).filter _)⟩
theorem of_re (h : Int) (Y : List Wr) : ofH h (Y.map (reH h)) = Y.map (reH h) := List.filter_eq_self.2 (fun x hx => by
  obtain ⟨y, _, rfl⟩ := List.mem_map.1 hx
  simp [reH])
theorem drop_re (h : Int) (Y : List Wr) : dropF h (Y.map (reH h)) = [] := by
  have h1 := drop_len h (Y.map (reH h))
  rw [of_re] at h1
  exact List.length_eq_zero_iff.1 (by omega)
theorem dm_cut (h : Int) : ∀ (ms : List Wr) (S : List ByteArray) (Y : List Wr), ∃ c, dmL h S (Y.map (reH h)) ms = (putW S ((Y ++ wrs ms).take c), ((Y ++ wrs ms).drop c).map (reH h))
  | [], S, Y => ⟨0, by simp [dmL, wrs, putW]⟩
  | m :: ms, S, Y => by
    by_cases hm : m.host = 2
    · obtain ⟨c, e⟩ := dm_cut h ms (putW S Y) []
      refine ⟨Y.length + c, ?_⟩
      show dmL h (dm1 h (S, Y.map (reH h)) m).1 (dm1 h (S, Y.map (reH h)) m).2 ms = _
      rw [dm1_flush hm, of_re, drop_re, put_host]
      show dmL h (putW S Y) [] ms = _
      rw [wrs_miss ms hm, List.take_length_add_append, List.drop_length_add_append, put_app]
      exact e
    · obtain ⟨c, e⟩ := dm_cut h ms S (Y ++ [m])
      refine ⟨c, ?_⟩
      show dmL h (dm1 h (S, Y.map (reH h)) m).1 (dm1 h (S, Y.map (reH h)) m).2 ms = _
      rw [dm1_write hm, wrs_hit ms hm]
      rw [List.map_append, List.append_assoc] at e
      exact e
/-- Moves that end with a flush, all done. -/
theorem dm_full (h : Int) (ms : List Wr) (S : List ByteArray) : dmL h S [] (ms ++ [mvF]) = (putW S (wrs (ms ++ [mvF])), []) := by
  obtain ⟨c, e⟩ := dm_cut h ms S []
  have e' : dmL h S [] ms = _ := e
  have : dmL h S [] (ms ++ [mvF]) = dm1 h (dmL h S [] ms) mvF := by simp [dmL]
  rw [this, e', dm1_flush rfl, of_re, drop_re, put_host, ← put_app, List.nil_append, List.take_append_drop, wrs_app]
  rw [wrs_miss (m := mvF) [] rfl]
  simp [wrs]
/-- Some moves, and what a crash leaves of them. -/
theorem dm_crash (h : Int) (ms : List Wr) (S : List ByteArray) (k n : Nat) : ∃ j, putW (dmL h S [] (ms.take k)).1 ((ofH h (dmL h S [] (ms.take k)).2).take n) = putW S ((wrs ms).take j) ∧ dropF h (dmL h S [] (ms.take k)).2 = [] := by
  obtain ⟨c, e⟩ := dm_cut h (ms.take k) S []
  obtain ⟨d, ed⟩ := wrs_take ms k
  have e' : dmL h S [] (ms.take k) = _ := e
  rw [e', List.nil_append, ed]
  refine ⟨min (c + n) d, ?_, drop_re h _⟩
  simp only [of_re]
  rw [← List.map_take, put_host, ← put_app, ← List.take_add, List.take_take]
/-- What plans write. -/
def apW (slot seq : Int) (us : List Up) : List Wr := chL us ++ [mvH slot 0 seq]
def bgW (slot seq : Int) (us : List Up) : List Wr := txL slot us ++ [mvH slot us.length seq]
theorem ch_one (us : List Up) : ∀ x ∈ chL us, x.host = 1 := fun x hx => by
  simp only [chL, List.mem_map] at hx
  obtain ⟨u, _, rfl⟩ := hx; rfl
theorem tx_one (slot : Int) (us : List Up) : ∀ x ∈ txL slot us, x.host = 1 := fun x hx => by
  obtain ⟨i, hi, rfl⟩ := List.mem_iff_getElem.1 hx
  simp [txL, mvT]
theorem wrs_F : wrs [mvF] = [] := by simp [wrs, mvF]
theorem wrs_H (slot n seq : Int) : wrs [mvH slot n seq] = [mvH slot n seq] := by simp [wrs, mvH]
theorem wrs_ap (slot seq : Int) (us : List Up) : wrs (apL slot seq us) = apW slot seq us := by
  simp only [apL, wrs_app, wrs_F, wrs_H, wrs_all (ch_one us), apW, List.append_nil]
theorem wrs_bg (slot seq : Int) (us : List Up) : wrs (bgL slot seq us) = bgW slot seq us := by
  simp only [bgL, wrs_app, wrs_F, wrs_H, wrs_all (tx_one slot us), bgW, List.append_nil]
theorem wrs_pl {slot seq : Int} {us : List Up} (h : us.length ≠ 0) : wrs (plL slot seq us) = bgW slot seq us ++ apW slot seq us := by
  rw [plL, if_neg h, wrs_app, wrs_bg, wrs_ap]
theorem ap_do (o slot seq : Int) (us : List Up) (S : List ByteArray) : dmL o S [] (apL slot seq us) = (putW S (apW slot seq us), []) := by
  have := dm_full o (chL us ++ [mvF] ++ [mvH slot 0 seq]) S
  rw [← wrs_ap]
  exact this
theorem pl_do {o slot seq : Int} {us : List Up} (h : us.length ≠ 0) (S : List ByteArray) : dmL o S [] (plL slot seq us) = (putW S (bgW slot seq us ++ apW slot seq us), []) := by
  have := dm_full o (bgL slot seq us ++ (chL us ++ [mvF] ++ [mvH slot 0 seq])) S
  rw [← wrs_pl h]
  rw [plL, if_neg h]
  rw [List.append_assoc] at this
  exact this
/-- Where they write. -/
theorem ch_place {us : List Up} (h : upsB us = true) : ∀ x ∈ chL us, 9 ≤ x.at_.toNat ∧ x.at_.toNat ≤ 38 := fun x hx => by
  simp only [chL, List.mem_map] at hx
  obtain ⟨u, hu, rfl⟩ := hx
  have := (upB_iff.1 (List.all_eq_true.1 h u hu)).1
  show 9 ≤ u.at_.toNat ∧ u.at_.toNat ≤ 38
  omega
theorem tx_place {slot : Int} (us : List Up) (hs : 39 ≤ slot) : ∀ x ∈ txL slot us, slot.toNat < x.at_.toNat := fun x hx => by
  obtain ⟨i, hi, rfl⟩ := List.mem_iff_getElem.1 hx
  simp only [txL, List.getElem_mapIdx, mvT]
  omega
theorem tx_read {slot : Int} {us : List Up} (hs : 39 ≤ slot ∧ slot ≤ 57) (h5 : us.length ≤ 5) {S : List ByteArray} (hS : S.length = 64) : ∀ k, k ≤ us.length → ∀ i (hi : i < us.length), i < k → (putW S ((txL slot us).take k)).getD (slot + 1 + i).toNat ⟨#[]⟩ = encU us[i] := by
  intro k
  induction k with
  | zero => intro _ i hi h; exact absurd h (Nat.not_lt_zero _)
  | succ k ih =>
    intro hk i hi hik
    have hk' : k < us.length := by omega
    rw [txL_take hk']
    by_cases e : i = k
    · subst e
      exact put_last S _ (mvT slot i us[i]) (by rw [hS]; simp only [mvT]; omega)
    · rw [put_snoc]
      have hne : (mvT slot k us[k]).at_.toNat ≠ (slot + 1 + i).toNat := by simp only [mvT]; omega
      rw [List.getD_eq_getElem?_getD, List.getElem?_set_ne hne, ← List.getD_eq_getElem?_getD]
      exact ih (by omega) i hi (by omega)
/-- A slot that says updates, and one that says none. -/
structure Jf (S : List ByteArray) (slot seq : Int) (us : List Up) : Prop where
  hd : S.getD slot.toNat ⟨#[]⟩ = hdT us.length seq
  tx : ∀ i (hi : i < us.length), S.getD (slot + 1 + i).toNat ⟨#[]⟩ = encU us[i]
def Je (S : List ByteArray) (slot : Int) : Prop := S.getD slot.toNat ⟨#[]⟩ = ⟨#[]⟩ ∨ ∃ seq, numB seq = true ∧ S.getD slot.toNat ⟨#[]⟩ = hdT 0 seq
def due (us : List Up) : List ByteArray := putW e64 (chL us)
theorem bg_jf {slot seq : Int} {us : List Up} (hs : 39 ≤ slot ∧ slot ≤ 57) (h5 : us.length ≤ 5) : Jf (putW e64 (bgW slot seq us)) slot seq us := by
  constructor
  · exact put_last e64 _ (mvH slot us.length seq) (by rw [e64_length]; simp only [mvH]; omega)
  · intro i hi
    rw [bgW, put_snoc]
    have hne : (mvH slot us.length seq).at_.toNat ≠ (slot + 1 + i).toNat := by simp only [mvH]; omega
    rw [List.getD_eq_getElem?_getD, List.getElem?_set_ne hne, ← List.getD_eq_getElem?_getD]
    have := tx_read hs h5 (us := us) e64_length us.length (Nat.le_refl _) i hi hi
    rwa [txL_done (Nat.le_refl _)] at this
theorem jf_ch {S : List ByteArray} {slot seq : Int} {us : List Up} (h : Jf S slot seq us) (hs : 39 ≤ slot) (fs : List Wr) (hf : ∀ x ∈ fs, x.at_.toNat ≤ 38) : Jf (putW S fs) slot seq us := by
  constructor
  · rw [put_miss fs S (fun x hx => by have := hf x hx; omega)]; exact h.hd
  · intro i hi
    rw [put_miss fs S (fun x hx => by have := hf x hx; omega)]; exact h.tx i hi
theorem ap_je {S : List ByteArray} {slot seq : Int} {us : List Up} (hs : 39 ≤ slot ∧ slot ≤ 57) (hq : numB seq = true) (hS : S.length = 64) : Je (putW S (apW slot seq us)) slot :=
  .inr ⟨seq, hq, put_last S _ (mvH slot 0 seq) (by rw [hS]; simp only [mvH]; omega)⟩
/-- Behind a replay, or the whole: what the updates say. -/
theorem ap_due {S : List ByteArray} {slot seq : Int} {us : List Up} (hs : 39 ≤ slot) (hS : S.length = 64) (h : ∀ a, 9 ≤ a → a < 39 → S.getD a ⟨#[]⟩ = ⟨#[]⟩ ∨ ∃ x ∈ chL us, x.at_.toNat = a) : ∀ a, 9 ≤ a → a < 39 → (putW S (apW slot seq us)).getD a ⟨#[]⟩ = (due us).getD a ⟨#[]⟩ := by
  intro a a0 a1
  rw [apW, put_app, put_miss [mvH slot 0 seq] _ (fun x hx => by simp at hx; subst hx; simp only [mvH]; omega)]
  refine put_alike _ _ _ (by rw [hS, e64_length]) ?_
  rw [e64_get]
  exact h a a0 a1
theorem bg_none {slot seq : Int} {us : List Up} (hs : 39 ≤ slot) : ∀ a, a < 39 → (putW e64 (bgW slot seq us)).getD a ⟨#[]⟩ = ⟨#[]⟩ := by
  intro a ha
  rw [put_miss _ _ (fun x hx => ?_), e64_get]
  rcases List.mem_append.1 hx with h | h
  · have := tx_place us hs x h; omega
  · simp at h; subst h; simp only [mvH]; omega
/-- What a crash in a plan's midst leaves. -/
theorem jr_crash {slot seq : Int} {us : List Up} (hs : 39 ≤ slot ∧ slot ≤ 57) (hq : numB seq = true) (hu : upsB us = true) (h5 : us.length ≤ 5) (j : Nat) :
    let S := putW e64 ((wrs (plL slot seq us)).take j)
    (Je S slot ∧ ∀ a, 9 ≤ a → a < 39 → S.getD a ⟨#[]⟩ = ⟨#[]⟩) ∨ (Jf S slot seq us ∧ us.length ≠ 0 ∧ ∀ a, 9 ≤ a → a < 39 → S.getD a ⟨#[]⟩ = ⟨#[]⟩ ∨ ∃ x ∈ chL us, x.at_.toNat = a) ∨ (Je S slot ∧ ∀ a, 9 ≤ a → a < 39 → S.getD a ⟨#[]⟩ = (due us).getD a ⟨#[]⟩) := by
  intro S
  by_cases h0 : us.length = 0
  · have : S = e64 := by show putW e64 ((wrs (plL slot seq us)).take j) = e64; rw [plL, if_pos h0]; simp [wrs, putW]
    rw [this]
    exact .inl ⟨.inl (e64_get _), fun a _ _ => e64_get a⟩
  have hS : S = putW e64 ((bgW slot seq us ++ apW slot seq us).take j) := by rw [← wrs_pl h0]
  have hbl : (bgW slot seq us).length = us.length + 1 := by simp [bgW, txL_length]
  by_cases h1 : j ≤ us.length
  · have e : (bgW slot seq us ++ apW slot seq us).take j = (txL slot us).take j := by
      rw [List.take_append_of_le_length (by omega), bgW, List.take_append_of_le_length (by rw [txL_length]; exact h1)]
    rw [hS, e]
    have hm : ∀ a, a ≤ slot.toNat → (putW e64 ((txL slot us).take j)).getD a ⟨#[]⟩ = ⟨#[]⟩ := fun a ha => by
      rw [put_miss _ _ (fun x hx => by have := tx_place us hs.1 x (List.mem_of_mem_take hx); omega), e64_get]
    exact .inl ⟨.inl (hm _ (Nat.le_refl _)), fun a _ h => hm a (by omega)⟩
  obtain ⟨m, rfl⟩ : ∃ m, j = (us.length + 1) + m := ⟨j - (us.length + 1), by omega⟩
  have e : (bgW slot seq us ++ apW slot seq us).take ((us.length + 1) + m) = bgW slot seq us ++ (apW slot seq us).take m := by
    rw [← hbl, List.take_length_add_append]
  rw [hS, e]
  by_cases h2 : m ≤ us.length
  · have e2 : (apW slot seq us).take m = (chL us).take m := by rw [apW, List.take_append_of_le_length (by rw [chL_length]; exact h2)]
    rw [e2, put_app]
    refine .inr (.inl ⟨jf_ch (bg_jf hs h5) hs.1 _ (fun x hx => (ch_place hu x (List.mem_of_mem_take hx)).2), h0, fun a a0 a1 => ?_⟩)
    by_cases hx : ∃ x ∈ chL us, x.at_.toNat = a
    · exact .inr hx
    · left
      rw [put_miss _ _ (fun x hx' e => hx ⟨x, List.mem_of_mem_take hx', e⟩)]
      exact bg_none hs.1 a a1
  · have e2 : (apW slot seq us).take m = apW slot seq us := List.take_of_length_le (by simp [apW, chL_length]; omega)
    rw [e2, put_app]
    exact .inr (.inr ⟨ap_je hs hq (by rw [put_len, e64_length]), ap_due hs.1 (by rw [put_len, e64_length]) (fun a _ a1 => .inl (bg_none hs.1 a a1))⟩)
/-- What is read of a slot. -/
theorem hd_sd {n seq : Int} (h : 0 ≤ n ∧ n ≤ 5) (hq : numB seq = true) : sdB (hdT n seq) = true ∧ sdN (hdT n seq) = n.toNat ∧ sdS (hdT n seq) = seq := by
  have h2 : 0 ≤ seq ∧ seq ≤ 2147483647 := by simpa [numB, inB] using hq
  have hall : allB [n, seq] = true := by simp [allB, numB, inB]; omega
  have h0 : (hdT n seq).size ≠ 0 := by rw [hdT_size]; omega
  have ho : openB (hdT n seq) 7 = true := openB_yes (rec_seal (by decide) hall (by simp)) (seal_kind (by decide) (by simp))
  have hL : sdL (hdT n seq) = [n, seq] := by
    show openL (hdT n seq) 7 = _
    rw [openL_yes ho, hdT, body_seal, un_pack hall]
  obtain ⟨r1, r2, _, r4, _⟩ := sd_yes h0 ho hL h.2
  exact ⟨r1, by omega, r4⟩
theorem read_free (S : List ByteArray) (o a : Int) : readV S [] o a = S.getD a.toNat ⟨#[]⟩ := rfl
theorem je_read {S : List ByteArray} {o h : Int} (hd : diskB S [] = true) (ho : 0 ≤ o ∧ o ≤ 3) (hh : 0 ≤ h ∧ h ≤ 3) (he : Je S (slN h)) : joC S [] o h = 0 ∧ joL S [] o h = [] ∧ joM S [] o h = [] := by
  have hz : sdB (joH S [] o h) = true ∧ sdN (joH S [] o h) = 0 := by
    rw [joH, read_free]
    rcases he with e | ⟨q, hq, e⟩
    · rw [e]; exact ⟨(sd_empty rfl).1, (sd_empty rfl).2.1⟩
    · rw [e]; exact ⟨(hd_sd (by omega) hq).1, (hd_sd (n := 0) (by omega) hq).2.1⟩
  have hf : fuB (joF S [] o h) (sdN (joH S [] o h)) = true := by rw [hz.2]; rfl
  obtain ⟨k1, k2, _⟩ := jk_yes hz.1 hf
  have hc : joC S [] o h = 0 := joC_ok (hostC_ok hd (by simp [inB]; omega)) (by simp [inB]; omega) k1
  have hl : joL S [] o h = [] := by rw [(jo_yes hc).1, k2, hz.2]; rfl
  exact ⟨hc, hl, by rw [joM, hl]; rfl⟩
theorem jf_read {S : List ByteArray} {o h seq : Int} {us : List Up} (hd : diskB S [] = true) (ho : 0 ≤ o ∧ o ≤ 3) (hh : 0 ≤ h ∧ h ≤ 3) (hq : numB seq = true) (hu : upsB us = true) (h5 : us.length ≤ 5) (h0 : us.length ≠ 0) (he : Jf S (slN h) seq us) : joC S [] o h = 0 ∧ joL S [] o h = us ∧ joM S [] o h = apL (slN h) seq us := by
  obtain ⟨z1, z2, z3⟩ := hd_sd (n := us.length) (by omega) hq
  have hH : joH S [] o h = hdT us.length seq := by rw [joH, read_free]; exact he.hd
  have hN : sdN (joH S [] o h) = us.length := by rw [hH, z2]; simp
  have hF : ∀ i (hi : i < us.length), joF S [] o h i = encU us[i] := fun i hi => by rw [joF, read_free]; exact he.tx i hi
  have hf : fuB (joF S [] o h) (sdN (joH S [] o h)) = true := by
    rw [hN]
    exact fuB_yes (fun i hi => by rw [hF i hi]; exact (enc_dec (upsB_at hu hi)).1)
  obtain ⟨k1, k2, k3⟩ := jk_yes (T := joH S [] o h) (by rw [hH]; exact z1) hf
  have hc : joC S [] o h = 0 := joC_ok (hostC_ok hd (by simp [inB]; omega)) (by simp [inB]; omega) k1
  have hl : joL S [] o h = us := by
    rw [(jo_yes hc).1, k2, hN]
    refine List.ext_getElem (by rw [fuL_length]) (fun i h1 h2 => ?_)
    simp only [fuL, List.getElem_map, List.getElem_range]
    rw [hF i h2, (enc_dec (upsB_at hu h2)).2]
  have hsq : joS S [] o h = seq := by rw [(jo_yes hc).2, k3, hH, z3]
  exact ⟨hc, hl, by rw [joM, hl, hsq, rpL, if_neg h0]⟩
/-- The middle of a disk. -/
def mid (S : List ByteArray) : List ByteArray := (S.drop 9).take 30
theorem mid_eq {S T : List ByteArray} (hS : S.length = 64) (hT : T.length = 64) (h : ∀ a, 9 ≤ a → a < 39 → S.getD a ⟨#[]⟩ = T.getD a ⟨#[]⟩) : mid S = mid T := by
  refine List.ext_getElem (by simp [mid, hS, hT]) (fun i h1 h2 => ?_)
  simp only [mid, List.getElem_take, List.getElem_drop]
  have hi : i < 30 := by simp [mid, hS] at h1; omega
  have := h (9 + i) (by omega) (by omega)
  rw [List.getD_eq_getElem?_getD, List.getD_eq_getElem?_getD, List.getElem?_eq_getElem (by omega), List.getElem?_eq_getElem (by omega)] at this
  exact this
end Go.Proofs.YtefnapcegeojoabDoor

/- Plain: a journal's plan on an empty disk, done, broken off, replayed. -/
namespace Go.Proofs.YtefnapcegeojoabDoor
open Go.RowKit
set_option linter.unusedVariables false

theorem e64_disk : diskB e64 [] = true :=
  diskB_parts.2 ⟨⟨e64_length, fun s hs => by rw [List.eq_of_mem_replicate hs]; decide⟩, by simp, fun x hx => by cases hx⟩
theorem put_disk {S : List ByteArray} {fs : List Wr} (hd : diskB S [] = true) (hf : ∀ x ∈ fs, x.data.size ≤ 80) : diskB (putW S fs) [] = true := by
  obtain ⟨⟨h1, h2⟩, h3, h4⟩ := diskB_parts.1 hd
  exact diskB_parts.2 ⟨⟨by rw [put_len]; exact h1, put_mem (P := fun s => s.size ≤ 80) fs S h2 hf⟩, h3, h4⟩
theorem ms_app {a b : List Wr} (h : msB a = true) (k : msB b = true) : msB (a ++ b) = true := by simp only [msB, List.all_append, Bool.and_eq_true]; exact ⟨h, k⟩
theorem ms_take {a : List Wr} (h : msB a = true) (k : Nat) : msB (a.take k) = true := List.all_eq_true.2 (fun x hx => List.all_eq_true.1 h x (List.mem_of_mem_take hx))
theorem ms_F : msB [mvF] = true := by decide
theorem ms_H {slot : Int} (n seq : Int) (h : 0 ≤ slot ∧ slot ≤ 63) : msB [mvH slot n seq] = true := by
  simp [msB, mvB, mvH, inB, hdT_size]; omega
theorem ms_ch {us : List Up} (hu : upsB us = true) : msB (chL us) = true := List.all_eq_true.2 (fun x hx => by
  simp only [chL, List.mem_map] at hx
  obtain ⟨u, hu', rfl⟩ := hx
  have := upB_iff.1 (List.all_eq_true.1 hu u hu')
  have e : mvB (mvW u) = (inB u.at_ 0 63 && decide (u.data.size ≤ 80)) := if_pos rfl
  rw [e, show inB u.at_ 0 63 = true by simp [inB]; omega, show decide (u.data.size ≤ 80) = true by simp; omega]
  rfl)
theorem ms_tx {slot : Int} {us : List Up} (hs : 39 ≤ slot ∧ slot ≤ 57) (hu : upsB us = true) (h5 : us.length ≤ 5) : msB (txL slot us) = true := List.all_eq_true.2 (fun x hx => by
  obtain ⟨i, hi, rfl⟩ := List.mem_iff_getElem.1 hx
  have hi' : i < us.length := by rwa [txL_length] at hi
  have := (upB_iff.1 (upsB_at hu hi')).2
  simp [txL, mvT, mvB, inB, encU_size]; omega)
theorem ms_ap {slot : Int} (seq : Int) {us : List Up} (hs : 39 ≤ slot ∧ slot ≤ 57) (hu : upsB us = true) : msB (apL slot seq us) = true := ms_app (ms_app (ms_app (ms_ch hu) ms_F) (ms_H _ _ (by omega))) ms_F
theorem ms_bg {slot : Int} (seq : Int) {us : List Up} (hs : 39 ≤ slot ∧ slot ≤ 57) (hu : upsB us = true) (h5 : us.length ≤ 5) : msB (bgL slot seq us) = true := ms_app (ms_app (ms_app (ms_tx hs hu h5) ms_F) (ms_H _ _ (by omega))) ms_F
theorem ms_pl {slot : Int} (seq : Int) {us : List Up} (hs : 39 ≤ slot ∧ slot ≤ 57) (hu : upsB us = true) (h5 : us.length ≤ 5) : msB (plL slot seq us) = true := by
  unfold plL; split
  · rfl
  · exact ms_app (ms_bg seq hs hu h5) (ms_ap seq hs hu)
theorem pl_len (slot seq : Int) (us : List Up) (h5 : us.length ≤ 5) : (plL slot seq us).length ≤ 16 := by
  unfold plL; split
  · simp
  · rw [List.length_append, bgL_length, apL_length]; omega
theorem rp_len (slot seq : Int) (us : List Up) (h5 : us.length ≤ 5) : (rpL slot seq us).length ≤ 8 := by
  unfold rpL; split
  · simp
  · rw [apL_length]; omega
theorem md_free {S : List ByteArray} {o : Int} {ms : List Wr} (hd : diskB S [] = true) (ho : 0 ≤ o ∧ o ≤ 3) (hm : msB ms = true) (hl : ms.length ≤ 200) : mdC S [] o ms = 0 ∧ mdS S [] o ms = (dmL o S [] ms).1 ∧ mdX S [] o ms = (dmL o S [] ms).2 :=
  md_ok (by omega) (hostC_ok hd (by simp [inB]; omega)) hm (by simp; omega)
theorem slN_lo {h : Int} (hh : 0 ≤ h ∧ h ≤ 3) : 39 ≤ slN h ∧ slN h ≤ 57 := by unfold slN; omega
theorem jp_yes {h q : Int} {us : List Up} (hh : 0 ≤ h ∧ h ≤ 3) (hq : numB q = true) (hu : upsB us = true) (h5 : us.length ≤ 5) : jpC h q us = 0 ∧ jpL h q us = plL (slN h) q us := by
  have e : jpC h q us = 0 := by rw [jpC_list (by omega) (by simp [inB]; omega) hq, fuC_ok (by omega) hu]
  exact ⟨e, jpL_yes e⟩
theorem short_of {ms : List Wr} (h : short ms) : ∀ x ∈ wrs ms, x.data.size ≤ 80 := fun x hx => h x (List.mem_filter.1 hx).1
/-- A plan that is done. -/
theorem jr_whole {h q : Int} {us : List Up} (hh : 0 ≤ h ∧ h ≤ 3) (hq : numB q = true) (hu : upsB us = true) (h5 : us.length ≤ 5) :
    ∃ Z, mdC e64 [] h (plL (slN h) q us) = 0 ∧ mdS e64 [] h (plL (slN h) q us) = Z ∧ mdX e64 [] h (plL (slN h) q us) = [] ∧ diskB Z [] = true ∧ Je Z (slN h) ∧ mid Z = mid (due us) := by
  have hs := slN_lo hh
  obtain ⟨m1, m2, m3⟩ := md_free (o := h) e64_disk hh (ms_pl q hs hu h5) (Nat.le_trans (pl_len (slN h) q us h5) (by omega))
  have hD : (due us).length = 64 := by rw [due, put_len, e64_length]
  by_cases h0 : us.length = 0
  · have e : plL (slN h) q us = [] := if_pos h0
    have e0 : us = [] := List.eq_nil_of_length_eq_zero h0
    rw [e] at m1 m2 m3 ⊢
    refine ⟨e64, m1, m2, m3, e64_disk, .inl (e64_get _), ?_⟩
    rw [due, e0]; rfl
  · rw [pl_do h0] at m2 m3
    refine ⟨_, m1, m2, m3, put_disk e64_disk (fun x hx => ?_), ?_, mid_eq (by rw [put_len, e64_length]) hD ?_⟩
    · rw [← wrs_pl h0] at hx; exact short_of (short_pl hu) x hx
    · show Je (putW e64 (bgW (slN h) q us ++ apW (slN h) q us)) (slN h)
      rw [put_app]; exact ap_je hs hq (by rw [put_len, e64_length])
    · show ∀ a, 9 ≤ a → a < 39 → (putW e64 (bgW (slN h) q us ++ apW (slN h) q us)).getD a ⟨#[]⟩ = _
      rw [put_app]; exact ap_due hs.1 (by rw [put_len, e64_length]) (fun a _ a1 => .inl (bg_none hs.1 a a1))
/-- A row of 64 texts. -/
theorem own_64 {w : World} {B n pa : Nat} {po : Option Addr} {ss : List ByteArray} (h : OwnR w B 9 1 (.slice po n pa) n (strV ss)) (hn : n = 64) : ∃ g, po = some ⟨g, 0, none⟩ ∧ 64 ≤ pa ∧ B ≤ g ∧ g < w.heap.size := by
  subst hn
  rcases h with ⟨h0, _⟩ | ⟨h0, h⟩
  · cases h0
  · rcases h.2 with ⟨e, h1⟩ | ⟨g, cap, cur, e, hB, hg, hc, _⟩
    · cases h1
    · simp only [Value.slice.injEq, true_and] at e
      obtain ⟨rfl, rfl⟩ := e
      exact ⟨g, rfl, hc, hB, (Array.getElem?_eq_some_iff.1 hg).1⟩
theorem ss_mid {w : World} {g : Nat} {S : List ByteArray} (h : Ss w (some ⟨g, 0, none⟩) S) (hS : S.length = 64) : Ss w (some ⟨g, 9, none⟩) (mid S) := fun i hi => by
  have hi' : i < 30 := by simp [mid, hS] at hi; omega
  obtain ⟨b, off, e, hc, hz⟩ := h (9 + i) (by omega)
  simp only [Option.some.injEq, Addr.mk.injEq, and_true] at e
  obtain ⟨rfl, rfl⟩ := e
  refine ⟨g, 9, rfl, ?_, ?_⟩
  · simp only [mid, List.getElem_take, List.getElem_drop]
    rw [Nat.zero_add] at hc; exact hc
  · simp only [mid, List.getElem_take, List.getElem_drop]; exact hz
theorem mid_len {S : List ByteArray} (hS : S.length = 64) : (mid S).length = 30 := by simp [mid, hS]
theorem due_take {us : List Up} {k : Nat} (hk : k < us.length) : putW e64 ((chL us).take (k + 1)) = (putW e64 ((chL us).take k)).set us[k].at_.toNat us[k].data := by
  rw [chL_take hk, put_snoc]; rfl
end Go.Proofs.YtefnapcegeojoabDoor

/- Plain words of the clocks, and contracts of their tests: within, hourOK, configInBounds, l01In, l03Bounds. -/
namespace Go.Proofs.YtefnapcegeojoabDoor
open Go.RowKit
set_option linter.unusedVariables false
set_option maxRecDepth 100000

theorem hidB {p : Prop} (h : p) : Hid p := h
theorem frB {a b c : World} (h : Below a.heap.size a b) (k : Below b.heap.size b c) : Below a.heap.size a c := h.trans (k.mono h.size)
/-- A number within bounds. -/
def betw (n low high : Int) : Bool := decide (low ≤ n) && decide (n ≤ high)
theorem betw_yes {n low high : Int} (h : low ≤ n) (h' : n ≤ high) : betw n low high = true := by simp [betw, h, h']
theorem betw_no {n low high : Int} (h : ¬ (low ≤ n ∧ n ≤ high)) : betw n low high = false := by simp only [betw, Bool.and_eq_false_iff, decide_eq_false_iff_not]; omega
theorem betw_iff {n low high : Int} : betw n low high = true ↔ low ≤ n ∧ n ≤ high := by simp [betw]
/-- A configuration within its bounds. -/
def cfgB (f d l r : Int) : Bool := betw f 1 10000 && betw d 1 100000 && betw l 0 1000 && betw r 0 500
theorem cfgB_iff {f d l r : Int} : cfgB f d l r = true ↔ (1 ≤ f ∧ f ≤ 10000) ∧ (1 ≤ d ∧ d ≤ 100000) ∧ (0 ≤ l ∧ l ≤ 1000) ∧ 0 ≤ r ∧ r ≤ 500 := by
  simp only [cfgB, Bool.and_eq_true, betw_iff, and_assoc]
/-- The bounds of true time. -/
def latQ (r x : Int) : Int := ((x + 1) * 1000 + 999 - r) / (1000 - r)
def earQ (r x : Int) : Int := (x - 1) * 1000 / (1000 + r)
def locQ (o r t : Int) : Int := o + t * (1000 + r) / 1000
abbrev cfgV (f d l r : Int) : Value := .agg #[.int .i64 f, .int .i64 d, .int .i64 l, .int .i64 r]
abbrev clkV (o r : Int) : Value := .agg #[.int .i64 o, .int .i64 r]

/-- A configuration in a variable. -/
abbrev Four (w : World) (b : Nat) (f d l r : Int) : Prop := w.cell? ⟨b, 0, none⟩ = some (.int .i64 f) ∧ w.cell? ⟨b, 1, none⟩ = some (.int .i64 d) ∧ w.cell? ⟨b, 2, none⟩ = some (.int .i64 l) ∧ w.cell? ⟨b, 3, none⟩ = some (.int .i64 r)
theorem Four.below {w w' : World} {b : Nat} {f d l r : Int} (h : Four w b f d l r) (hb : Below w.heap.size w w') : Four w' b f d l r :=
  ⟨(hb.cell (World.block_lt_of_cell? _ _ h.1)).trans h.1, (hb.cell (World.block_lt_of_cell? _ _ h.2.1)).trans h.2.1, (hb.cell (World.block_lt_of_cell? _ _ h.2.2.1)).trans h.2.2.1, (hb.cell (World.block_lt_of_cell? _ _ h.2.2.2)).trans h.2.2.2⟩
set_option maxHeartbeats 800000 in
theorem within_any (n low high : Int) (w : World) : Calls Tryd.prog 121 #[.int .i64 n, .int .i64 low, .int .i64 high] w fun e w' => e = .returned (.bool (betw n low high)) ∧ w' = w := by
  by_cases h1 : low ≤ n
  · by_cases h2 : n ≤ high
    · have hr := hidB (betw_yes h1 h2)
      go_enter Tryd.func121, Tryd.ntmps121
      go_wp2
      go_ret
      rw [show betw n low high = true from hr]
      exact ⟨rfl, rfl⟩
    · have hr := hidB (betw_no (n := n) (low := low) (high := high) (by omega))
      go_enter Tryd.func121, Tryd.ntmps121
      go_wp2
      go_ret
      rw [show betw n low high = false from hr]
      exact ⟨rfl, rfl⟩
  · have hr := hidB (betw_no (n := n) (low := low) (high := high) (by omega))
    go_enter Tryd.func121, Tryd.ntmps121
    go_wp2
    go_ret
    rw [show betw n low high = false from hr]
    exact ⟨rfl, rfl⟩
set_option maxHeartbeats 800000 in
theorem in_any (n low high : Int) (w : World) : Calls Tryd.prog 90 #[.int .i64 n, .int .i64 low, .int .i64 high] w fun e w' => e = .returned (.bool (betw n low high)) ∧ w' = w := by
  by_cases h1 : low ≤ n
  · by_cases h2 : n ≤ high
    · have hr := hidB (betw_yes h1 h2)
      go_enter Tryd.func90, Tryd.ntmps90
      go_wp2
      go_ret
      rw [show betw n low high = true from hr]
      exact ⟨rfl, rfl⟩
    · have hr := hidB (betw_no (n := n) (low := low) (high := high) (by omega))
      go_enter Tryd.func90, Tryd.ntmps90
      go_wp2
      go_ret
      rw [show betw n low high = false from hr]
      exact ⟨rfl, rfl⟩
  · have hr := hidB (betw_no (n := n) (low := low) (high := high) (by omega))
    go_enter Tryd.func90, Tryd.ntmps90
    go_wp2
    go_ret
    rw [show betw n low high = false from hr]
    exact ⟨rfl, rfl⟩

theorem cfg_1 {f d l r : Int} (h : betw f 1 10000 = false) : cfgB f d l r = false := by simp [cfgB, h]
theorem cfg_2 {f d l r : Int} (h : betw d 1 100000 = false) : cfgB f d l r = false := by simp [cfgB, h]
theorem cfg_3 {f d l r : Int} (h : betw l 0 1000 = false) : cfgB f d l r = false := by simp [cfgB, h]
theorem cfg_4 {f d l r : Int} (h1 : betw f 1 10000 = true) (h2 : betw d 1 100000 = true) (h3 : betw l 0 1000 = true) : cfgB f d l r = betw r 0 500 := by simp [cfgB, h1, h2, h3]

end Go.Proofs.YtefnapcegeojoabDoor

/- Contract of impl.packNumbers. -/
namespace Go.Proofs.YtefnapcegeojoabDoor
open Go.RowKit
set_option linter.unusedVariables false
set_option maxRecDepth 100000

theorem block_alloc {w : World} {g : Nat} {c : Array Value} {t : TypeId} {f : Nat × Nat} (h : w.heap[g]? = some (.cells c t f)) (o : Obj) : (w.alloc o).heap[g]? = some (.cells c t f) := by
  rw [(Joins.below_alloc1 w o).block g (Array.getElem?_eq_some_iff.1 h).1]; exact h

/-- The bytes that stand in the array when k numbers are in it. -/
def arrL (xs : List Int) (k : Nat) : List Value := byteV (packL (xs.take k)) ++ List.replicate (64 - k * 4) (.int .u8 0)
theorem arrL_zero (xs : List Int) : arrL xs 0 = List.replicate 64 (.int .u8 0) := by simp [arrL, packL, byteV]
theorem four_lit {n : Int} (h : 0 ≤ n) (h' : n ≤ 2147483647) : [Value.int .u8 (n % 256), .int .u8 (n / 256 % 256), .int .u8 (n / 65536 % 256), .int .u8 (n / 16777216)] = byteV (four n) := by
  have e : n / 16777216 = n / 16777216 % 256 := by omega
  have : byteV (four n) = [Value.int .u8 (n / (256 : Int) ^ 0 % 256), .int .u8 (n / (256 : Int) ^ 1 % 256), .int .u8 (n / (256 : Int) ^ 2 % 256), .int .u8 (n / (256 : Int) ^ 3 % 256)] := rfl
  rw [this, e]
  simp
theorem arrL_length {xs : List Int} {k : Nat} (hl : xs.length ≤ 16) (hk : k ≤ xs.length) : (arrL xs k).length = 64 := by
  rw [arrL, List.length_append, byteV_length, packL_length, List.length_replicate, List.length_take, Nat.min_eq_left hk]
  omega
theorem arrL_splice {xs : List Int} {k : Nat} (hl : xs.length ≤ 16) (hk : k < xs.length) : splice (arrL xs k) (k * 4) (byteV (four xs[k])) = arrL xs (k + 1) := by
  have h1 : (byteV (packL (xs.take k))).length = k * 4 := by rw [byteV_length, packL_length, List.length_take, Nat.min_eq_left (by omega)]
  have h4 : (byteV (four xs[k])).length = 4 := by rw [byteV_length, four, fourTo_length]
  unfold splice arrL
  rw [h4, List.take_append_of_le_length (by omega), List.take_of_length_le (by omega), List.drop_append, List.drop_of_length_le (by omega), List.nil_append, h1, packL_succ hk, List.drop_replicate]
  rw [show k * 4 + 4 - k * 4 = 4 by omega, show 64 - k * 4 - 4 = 64 - (k + 1) * 4 by omega]
  simp [byteV]
theorem arrL_cells {W : World} {g : Nat} {t : TypeId} {xs : List Int} (h : W.heap[g]? = some (.cells (arrL xs xs.length).toArray t (0, 0))) : ∀ i, i < xs.length * 4 → W.cell? ⟨g, 0 + i, none⟩ = some (.int .u8 ((packL xs).getD i 0)) := by
  intro i hi
  rw [Nat.zero_add, Joins.cell_of_block h]
  have hl : i < (packL xs).length := by rw [packL_length]; exact hi
  simp [arrL, byteV, List.getElem?_append_left, hl, List.getD]
theorem byteV_one (ns : List Int) : ∀ v ∈ byteV ns, v.oneCell' = true := by
  intro v hv
  simp only [byteV, List.mem_map] at hv
  obtain ⟨s, _, rfl⟩ := hv
  rfl
theorem lit_one (a b c d : Int) : ∀ v ∈ [Value.int .u8 a, .int .u8 b, .int .u8 c, .int .u8 d], v.oneCell' = true := by
  intro v hv
  simp at hv
  rcases hv with rfl | rfl | rfl | rfl <;> rfl
theorem sizeB : (Tryd.prog.info? 5).map (·.size) = some 1 := by kernel_rfl
theorem runB (W : World) : (Go.sizeOf 5).run Tryd.prog W = .ok 1 W := by
  have h := sizeB
  cases hq : Tryd.prog.info? 5 with
  | none => simp [hq] at h
  | some i =>
    have hi : i.size = 1 := by simpa [hq] using h
    simp [Go.sizeOf, typeInfo, hq, hi]
theorem arr64 : Tryd.prog.arrayLen 167 = 64 := by kernel_rfl
theorem und64 : Tryd.prog.underlying 167 = some (.array (Tryd.prog.arrayLen 167) (Tryd.prog.elem 167)) := by kernel_rfl
theorem elem64 : Tryd.prog.elem 167 = 5 := by kernel_rfl
theorem wrap4 (k : Nat) (hk : k ≤ 16) : IntKind.i64.wrap ((k : Int) * 4) = ((k * 4 : Nat) : Int) := by
  rw [IntKind.wrap_i64]
  omega
theorem slice64 (W : World) (g k : Nat) (hk : k < 16) : (Instr.sliceAt 167 (.pointer (some ⟨g, 0, none⟩)) (some (.int .i64 (IntKind.i64.wrap ((k : Int) * 4)))) none none).run Tryd.prog W = .ok (.slice (some ⟨g, k * 4, none⟩) (64 - k * 4) (64 - k * 4)) W := by
  rw [wrap4 k (by omega), run_sliceAt_array_l W _ _ und64 .i64 _ (by omega) (by rw [arr64]; omega), elem64, runB, arr64]
  simp only [Result.andThen, slicedAt, Int.toNat_natCast, Nat.mul_one]
  rw [if_neg (by omega), show Addr.add ⟨g, 0, none⟩ (k * 4) = ⟨g, k * 4, none⟩ from by unfold Addr.add; split <;> simp_all]
theorem slice64h (W : World) (g k : Nat) (hk : k ≤ 16) : (Instr.sliceAt 167 (.pointer (some ⟨g, 0, none⟩)) none (some (.int .i64 ((k : Int) * 4))) none).run Tryd.prog W = .ok (.slice (some ⟨g, 0, none⟩) (k * 4) 64) W := by
  rw [run_sliceAt_array_h W _ _ und64 .i64 _ (by omega) (by rw [arr64]; omega), elem64, runB, arr64]
  simp only [Result.andThen, slicedAt, Nat.mul_one, Nat.sub_zero]
  rw [if_neg (by omega), show ((k : Int) * 4).toNat = k * 4 by omega]
  rfl

set_option maxHeartbeats 1600000 in
theorem packNumbers_any (ao : Option Addr) (cap : Nat) (xs : List Int) (w : World) (hl : xs.length ≤ 16) (hn : ∀ j (h : j < xs.length), 0 ≤ xs[j] ∧ xs[j] ≤ 2147483647) (hc : Is w ao xs) :
    Calls Tryd.prog 131 #[.slice ao xs.length cap] w fun e w' => e = .returned (.string (packS xs)) ∧ Below w.heap.size w w' := by
  have HC := hide hc
  have HN := hide hn
  clear hc hn
  go_enter Tryd.func131, Tryd.ntmps131
  go_wp2
  go_loopw [9] (fun i wr => ∃ k : Nat, k ≤ xs.length ∧ i = .int .i64 k ∧ Hid (wr.heap[w.heap.size]? = some (.cells (arrL xs k).toArray 167 (0, 0))) ∧ Hid (Below w.heap.size w wr)) (fun i _ => xs.length - (intOf i).toNat)
  case atStart => exact ⟨0, Nat.zero_le _, rfl, hide (by rw [arrL_zero]; exact heap_alloc_new w _), hide (Joins.below_alloc1 _ _)⟩
  case round =>
    obtain ⟨k, hk, rfl, HO, HB⟩ := hrel
    by_cases hlt : k < xs.length
    · obtain ⟨b, off, rfl, hc⟩ := (unhide HC).below (unhide HB) k hlt
      obtain ⟨h0, h1⟩ := unhide HN k hlt
      have HBA := hide (fr (unhide HB) (Joins.below_alloc1 _ (.cells #[.int .u8 (xs[k] % 256), .int .u8 (xs[k] / 256 % 256), .int .u8 (xs[k] / 65536 % 256), .int .u8 (xs[k] / 16777216)] 159)))
      have HOA := hide (block_alloc (unhide HO) (.cells #[.int .u8 (xs[k] % 256), .int .u8 (xs[k] / 256 % 256), .int .u8 (xs[k] / 65536 % 256), .int .u8 (xs[k] / 16777216)] 159))
      have HL := hide (arrL_length hl hk)
      have HNW := hide (World.news_of_block (cs := #[.int .u8 (xs[k] % 256), .int .u8 (xs[k] / 256 % 256), .int .u8 (xs[k] / 65536 % 256), .int .u8 (xs[k] / 16777216)]) (heap_alloc_new wr (.cells #[.int .u8 (xs[k] % 256), .int .u8 (xs[k] / 256 % 256), .int .u8 (xs[k] / 65536 % 256), .int .u8 (xs[k] / 16777216)] 159)))
      have HE := hide (four_lit h0 h1)
      have HSP := hide (arrL_splice hl hlt)
      have hsl := fun W => slice64 W w.heap.size k (by omega)
      go_wp2
      go_region_law (refine step_copy_splice ?_ (.tmp 28) (.tmp 29) 39 39 ?_ 5 Tryd.underlying39 sizeB (some ⟨w.heap.size, k * 4, none⟩) (some ⟨wr.heap.size, 0, none⟩) (64 - k * 4) (64 - k * 4) 4 4 ?_ ?_ w.heap.size (k * 4) (arrL xs k) 167 ?_ [.int .u8 (xs[k] % 256), .int .u8 (xs[k] / 256 % 256), .int .u8 (xs[k] / 65536 % 256), .int .u8 (xs[k] / 16777216)] ?_ ?_ ?_ (lit_one _ _ _ _) w.heap.size w ?_ (Nat.le_refl _) ?_
                     · rfl
                     · rfl
                     · rfl
                     · rfl
                     · exact unhide HOA
                     · simp only [List.length_cons, List.length_nil]; exact (Nat.min_eq_left (by omega)).symm
                     · exact fun _ => ⟨rfl, _, rfl, unhide HNW⟩
                     · rw [unhide HL]; simp only [List.length_cons, List.length_nil]; omega
                     · exact (unhide HBA).drew
                     intro w4 hg4 hb4)
      all_goals
        have HSF : Hid (w4.heap[w.heap.size]? = some (.cells (arrL xs (k + 1)).toArray 167 (0, 0))) := by rw [← unhide HSP, ← unhide HE]; exact hg4
        have HBF := hide hb4
        clear hg4 hb4 hsl
        go_wp2
        go_roundw
        case rel => exact ⟨k + 1, by omega, by go_num, HSF, HBF⟩
        case measure => simp [intOf]; omega
    · have hkn : k = xs.length := by omega
      subst hkn
      have hsl := slice64h wr w.heap.size xs.length hl
      have hcv := run_convert_bytes_arg (P := Tryd.prog) wr 39 5 Tryd.underlying39 Tryd.underlying5 w.heap.size 0 (xs.length * 4) 64 (packL xs) (packL_length xs) (arrL_cells (unhide HO)) 9 Tryd.underlying9
      go_wp2
      go_ret
      exact ⟨rfl, unhide HB⟩

end Go.Proofs.YtefnapcegeojoabDoor

/- Contract of impl.areNumbers. -/
namespace Go.Proofs.YtefnapcegeojoabDoor
open Go.RowKit
set_option linter.unusedVariables false
set_option maxRecDepth 100000

theorem nums_no {xs : List Int} {k : Nat} (hk : k < xs.length) (h : numB xs[k] = false) : xs.all numB = false := all_not (p := numB) hk h
theorem nums_all {xs : List Int} (h : ∀ j (hj : j < xs.length), numB xs[j] = true) : xs.all numB = true := all_of (p := numB) (fun i hi _ => h i hi)

set_option maxHeartbeats 800000 in
theorem areNumbers_any (ao : Option Addr) (cap : Nat) (xs : List Int) (w : World) (hl : xs.length ≤ maxLen) (hc : Is w ao xs) :
    Calls Tryd.prog 141 #[.slice ao xs.length cap] w fun e w' => e = .returned (.bool (xs.all numB)) ∧ w' = w := by
  have HC := hide hc
  clear hc
  unfold maxLen at hl
  obtain ⟨R, HR⟩ : ∃ R, Hid (R = xs.all numB) := ⟨_, hide rfl⟩
  rw [← unhide HR]
  go_enter Tryd.func141, Tryd.ntmps141
  go_wp2
  go_loop [7] (fun i => ∃ k : Nat, k ≤ xs.length ∧ i = .int .i64 k ∧ Hid (∀ j (h : j < xs.length), j < k → numB xs[j] = true)) (fun i => xs.length - (intOf i).toNat)
  case atStart => exact ⟨0, Nat.zero_le _, rfl, hide (fun j _ h => by omega)⟩
  case round =>
    obtain ⟨k, hk, rfl, HA⟩ := hrel
    by_cases hlt : k < xs.length
    · obtain ⟨b, off, rfl, hc⟩ := unhide HC k hlt
      cases hn : numB xs[k]
      · have HF := hide (nums_no hlt hn)
        go_wp2_with (go_at_call 86; refine (isNumber_any _ _).mono ?_; rintro e w' ⟨rfl, hw⟩; replace hw := hw.symm; subst hw; rw [hn])
        go_ret
        exact ⟨ret_bool (by rw [unhide HR, unhide HF]), rfl⟩
      · have HN := hide (all_succ hlt (unhide HA) hn)
        go_wp2_with (go_at_call 86; refine (isNumber_any _ _).mono ?_; rintro e w' ⟨rfl, hw⟩; replace hw := hw.symm; subst hw; rw [hn])
        go_round
        case rel => exact ⟨k + 1, by omega, by go_num, HN⟩
        case measure => simp [intOf]; omega
    · have HF := hide (nums_all (fun j h => unhide HA j h (by omega)))
      go_wp2
      go_ret
      exact ⟨ret_bool (by rw [unhide HR, unhide HF]), rfl⟩

end Go.Proofs.YtefnapcegeojoabDoor

/- Contract of impl.listFault (of the code since 38f1bd19e5ed: it calls areNumbers). -/
namespace Go.Proofs.YtefnapcegeojoabDoor
open Go.RowKit
set_option linter.unusedVariables false
set_option maxRecDepth 100000

theorem intsB_all_no {xs : List Int} (h : xs.all numB = false) : intsB xs = false := by rw [intsB, allB, h]; rfl
theorem intsB_all {xs : List Int} (hl : xs.length ≤ 16) (h : xs.all numB = true) : intsB xs = true := by rw [intsB, allB, h, decide_eq_true hl]; rfl

set_option maxHeartbeats 800000 in
theorem listFault_any (ao : Option Addr) (cap : Nat) (xs : List Int) (w : World) (hl : xs.length ≤ 1048576) (hc : Is w ao xs) :
    Calls Tryd.prog 129 #[.slice ao xs.length cap] w fun e w' => e = .returned (.int .i64 (listC xs)) ∧ w' = w := by
  have HC := hide hc
  clear hc
  by_cases h1 : 4096 < xs.length
  · have HF := hide (listC_long h1)
    go_enter Tryd.func129, Tryd.ntmps129
    go_wp2
    go_ret
    exact ⟨ret_int (unhide HF).symm, rfl⟩
  by_cases h2 : 16 < xs.length
  · have HF := hide (listC_bad h1 (intsB_long h2))
    go_enter Tryd.func129, Tryd.ntmps129
    go_wp2
    go_ret
    exact ⟨ret_int (unhide HF).symm, rfl⟩
  cases hn : xs.all numB
  · have HF := hide (listC_bad h1 (intsB_all_no hn))
    go_enter Tryd.func129, Tryd.ntmps129
    go_wp2_with (go_at_call 141; refine (areNumbers_any _ _ _ _ (by unfold maxLen; omega) (unhide HC)).mono ?_; rintro e w' ⟨rfl, hw⟩; replace hw := hw.symm; subst hw; rw [hn])
    go_ret
    exact ⟨ret_int (unhide HF).symm, rfl⟩
  · have HF := hide (listC_ok (xs := xs) h1 (intsB_all (by omega) hn))
    go_enter Tryd.func129, Tryd.ntmps129
    go_wp2_with (go_at_call 141; refine (areNumbers_any _ _ _ _ (by unfold maxLen; omega) (unhide HC)).mono ?_; rintro e w' ⟨rfl, hw⟩; replace hw := hw.symm; subst hw; rw [hn])
    go_ret
    exact ⟨ret_int (unhide HF).symm, rfl⟩

end Go.Proofs.YtefnapcegeojoabDoor

/- What PackInts answers, plain. -/
namespace Go.Proofs.YtefnapcegeojoabDoor
set_option linter.unusedVariables false

/-- The answer's text. -/
def packT (xs : List Int) : ByteArray := if listC xs = 0 then packS xs else ⟨#[]⟩
theorem packT_ok {xs : List Int} (h : listC xs = 0) : packT xs = packS xs := if_pos h
theorem packT_no {xs : List Int} (h : listC xs ≠ 0) : packT xs = ⟨#[]⟩ := if_neg h
theorem ret_si {a b : ByteArray} {c d : Int} (h : a = b) (k : c = d) : Ending.returned (.tuple #[.string a, .int .i64 c]) = .returned (.tuple #[.string b, .int .i64 d]) := by rw [h, k]

end Go.Proofs.YtefnapcegeojoabDoor

/- Contract of impl.kindOK. -/
namespace Go.Proofs.YtefnapcegeojoabDoor
open Go.RowKit
set_option linter.unusedVariables false
set_option maxRecDepth 100000

theorem kindOK_any (n : Int) (w : World) : Calls Tryd.prog 130 #[.int .i64 n] w fun e w' => e = .returned (.bool (kindB n)) ∧ w' = w := by
  go_enter Tryd.func130, Tryd.ntmps130
  go_wp2
  all_goals
    go_ret
    exact ⟨ret_bool (by rw [Bool.eq_iff_iff]; simp [kindB, inB]; omega), rfl⟩

end Go.Proofs.YtefnapcegeojoabDoor
