import Derived.Test.YtmkegkpnomcnhaaPart1
import Derived.Test.YtmkegkpnomcnhaaPart2
import Derived.WalkKit
import Derived.WalkSpells
import Derived.Deep.MidRow
import Derived.Deep.RegionLawGrows
import Derived.Deep.RegionHeld3
import Derived.Test.YtmkegkpnomcnhaaRows
import Derived.KernelRfl
import Derived.LoopN
import Derived.BigQuiet
import Derived.Deep.QuietTactic
import Derived.Deep.CutRange
import Derived.Deep.RegionWith
import Derived.Laws.BytesArg

/- Arrays of numbers in variables: whole loads and stores. -/
namespace Go.Proofs.Ytmkegkpnomcnhaa
open Go.RowKit
set_option linter.unusedVariables false
set_option maxRecDepth 100000

section
variable {P : Program}
theorem wpList_store_arr {ops : Array Oper} {rest : List Oper} {op : Oper} {a : Act} {w : World} {Q : Exit → Act → World → Prop} (hgd : op.guard = none) (ty : TypeId) (x y : Operand) (ho : op.op = .store ty x y)
    (g : Nat) (hx : a.eval x = .pointer (some ⟨g, 0, none⟩)) (c' : Array Value) (hy : a.eval y = .agg c') (c : Array Value) (t : TypeId) (hb : w.heap[g]? = some (.cells c t (0, 0)))
    (hi : (P.info? ty).map (·.size) = some c'.size) (hs : c.size = c'.size) (h1 : c'.all (·.oneCell') = true)
    (h : ∀ w', w'.heap[g]? = some (.cells c' t (0, 0)) → Keep (fun k => k = g) w w' → w'.heap.size = w.heap.size → wpList P ops Q rest (a.put op.dst undef) w') : wpList P ops Q (op :: rest) a w :=
  wpList_plain hgd fun _ hK => by
    unfold Oper.wp execOp
    simp only [ho, hx, hy, Instr.storeAt, Instr.sureAddr, Sem.run_bind, Sem.run_pure, Result.andThen_ok, run_storeVar_row w g t ty c c' hb hi hs h1]
    exact hK _ _ (h _ (setRow_heap w g c c' t (0, 0) hb) ⟨rfl, rfl, rfl, by simp, fun k _ hk => setRow_other w g k c' hk⟩ (setRow_size w g c'))
theorem wpList_load_arr {ops : Array Oper} {rest : List Oper} {op : Oper} {a : Act} {w : World} {Q : Exit → Act → World → Prop} (hgd : op.guard = none) (ty : TypeId) (x : Operand) (ho : op.op = .load ty x)
    (g : Nat) (hx : a.eval x = .pointer (some ⟨g, 0, none⟩)) (c : Array Value) (t : TypeId) (d : TypeDesc) (hb : w.heap[g]? = some (.cells c t (0, 0)))
    (hu : P.underlying ty = some d) (hd : (match d with | .struct _ | .array _ _ => true | _ => false) = true) (hi : (P.info? ty).map (·.size) = some c.size)
    (h : wpList P ops Q rest (a.put op.dst (.agg c)) w) : wpList P ops Q (op :: rest) a w :=
  wpList_plain hgd fun _ hK => by
    unfold Oper.wp execOp
    simp only [ho, hx, Instr.loadAt, Instr.sureAddr, Sem.run_bind, Sem.run_pure, Result.andThen_ok, run_loadVar_row w g t ty c (0, 0) d hb hu hd hi]
    exact hK _ _ h
end

theorem intV_one (xs : List Int) : (intV xs).toArray.all (·.oneCell') = true := by
  apply all_oneCell_toArray
  intro v hv
  simp only [intV, List.mem_map] at hv
  obtain ⟨n, _, rfl⟩ := hv
  rfl
theorem intV_size (xs : List Int) : (intV xs).toArray.size = xs.length := by simp [intV]
theorem Is.range {w : World} {ao : Option Addr} {xs : List Int} (h : Is w ao xs) (h0 : 0 < xs.length) : ∃ b off, ao = some ⟨b, off, none⟩ ∧ w.rangeAt b off (intV xs) := by
  obtain ⟨b, off, rfl, _⟩ := h 0 h0
  refine ⟨b, off, rfl, fun j v hv => ?_⟩
  have hj : j < xs.length := by have := (List.getElem?_eq_some_iff.1 hv).1; rw [intV_length] at this; exact this
  obtain ⟨b', off', e, hc⟩ := h j hj
  rw [intV_get hj] at hv
  cases e
  rw [hc]; exact hv
theorem Is.of_block {w : World} {g : Nat} {t : TypeId} {xs : List Int} (h : w.heap[g]? = some (.cells (intV xs).toArray t (0, 0))) : Is w (some ⟨g, 0, none⟩) xs := fun i hi => by
  refine ⟨g, 0, rfl, ?_⟩
  rw [Nat.zero_add, Joins.cell_of_block h]
  simpa using intV_get hi
theorem arr_cell {w : World} {g : Nat} {t : TypeId} {xs : List Int} (h : w.heap[g]? = some (.cells (intV xs).toArray t (0, 0))) {k : Nat} (hk : k < xs.length) : w.cell? ⟨g, k, none⟩ = some (.int .i64 xs[k]) := by
  rw [Joins.cell_of_block h]; simpa using intV_get hk
theorem intV_set (xs : List Int) (k : Nat) (n : Int) : (intV xs).toArray.setIfInBounds k (.int .i64 n) = (intV (xs.set k n)).toArray := by simp [intV, List.map_set]
theorem arr_set {w : World} {g : Nat} {t : TypeId} {xs : List Int} (h : w.heap[g]? = some (.cells (intV xs).toArray t (0, 0))) (k : Nat) (n : Int) : (w.setCell ⟨g, k, none⟩ (.int .i64 n)).heap[g]? = some (.cells (intV (xs.set k n)).toArray t (0, 0)) := by
  rw [set_block (i := k) h (.int .i64 n), intV_set]
theorem block_of_below {w w' : World} {g : Nat} {o : Obj} (h : w.heap[g]? = some o) (hb : Below w.heap.size w w') : w'.heap[g]? = some o := by
  rw [hb.block g (Array.getElem?_eq_some_iff.1 h).1]; exact h
theorem keep_one {w0 w w' : World} {g : Nat} (h : Below w0.heap.size w0 w) (hk : Keep (fun k => k = g) w w') (hg : w0.heap.size ≤ g) : Below w0.heap.size w0 w' :=
  h.trans (hk.below h.size (fun k e => by omega))

end Go.Proofs.Ytmkegkpnomcnhaa

/- Laws on append onto an empty literal, of no program's own. -/
namespace Go.Proofs.Ytmkegkpnomcnhaa
open Go.RowKit
set_option linter.unusedVariables false
set_option maxRecDepth 100000

section
variable {P : Program}
theorem run_append_nothing (w : World) (t ty e : TypeId) (i : TypeInfo) (ht : P.underlying t = some (.slice e)) (hi : P.info? e = some i) (d so : Option Addr) (cap c : Nat) :
    (Builtin.append_ #[t, t] ty #[.slice d 0 cap, .slice so 0 c]).run P w = .ok (.slice d 0 cap) w := by
  have hl : ∀ (x : Addr), (loadCells x 0).run P w = .ok #[] w := fun x => by simpa using run_loadCells_list (P := P) w x [] (by simp)
  cases d <;> cases so <;> simp [Builtin.append_, run_underlying ht, sizeOf, typeInfo, hi, Builtin.lenOf, Builtin.firstCells, storeCells, hl]

theorem run_append_fresh (w : World) (t ty e : TypeId) (i : TypeInfo) (z : Value) (size bytes : Nat) (ht : P.underlying t = some (.slice e)) (hi : P.info? e = some i) (hz : i.zero = some z)
    (hsize : i.size = size) (hby : i.bytes = bytes) (hzs : z.cells.size = size) (hsz : 0 < size)
    (d : Addr) (so : Option Addr) (m c : Nat) (news : List Value) (hn : news.length = m * size) (hc : 0 < m → ∃ ad, so = some ad ∧ ∀ j u, news[j]? = some u → w.cell? (ad.add j) = some u)
    (b1 : m ≤ maxLen) (b2 : m * bytes ≤ 140737488355328) :
    ∃ ao cap w', (Builtin.append_ #[t, t] ty #[.slice (some d) 0 0, .slice so m c]).run P w = .ok (.slice ao m cap) w' ∧ OwnR w' w.heap.size e size (.slice ao m cap) m news ∧ w.grownBy w' none := by
  rcases Nat.eq_zero_or_pos m with h0 | h0
  · subst h0
    exact ⟨some d, 0, w, run_append_nothing w t ty e i ht hi _ _ _ _, .inl ⟨rfl, List.eq_nil_of_length_eq_zero (by simpa using hn), _, rfl⟩, World.grownBy.refl w none⟩
  · obtain ⟨ad, rfl, hcs⟩ := hc h0
    obtain ⟨v', w', hrun, r1, r2⟩ := run_append_arg_grows (P := P) w t ty e i z size bytes ht hi hz hsize hby hzs hsz d 0 0 [] (by simp) (by simp) ad m c news hn hcs (by omega) (by simpa using b1) (by simpa using b2)
    simp only [Nat.zero_add, List.nil_append] at r1
    obtain ⟨g, cap, cur, rfl, _, _⟩ := own_form h0 r1
    exact ⟨_, _, w', hrun, .inr ⟨h0, r1⟩, r2⟩

def isFresh : Value → Bool
  | .slice (some _) 0 0 => true
  | _ => false
theorem isFresh_form {v : Value} (h : isFresh v = true) : ∃ d, v = .slice (some d) 0 0 := by
  unfold isFresh at h
  split at h
  · exact ⟨_, rfl⟩
  · cases h

theorem step_append_fresh {ops : Array Oper} {o : Oper} {a : Act} {w : World} {K : Act → World → Prop} {Q : Exit → Act → World → Prop} {E : Prop}
    (hg : o.guard = none) (s x : Operand) (t : TypeId) (hop : o.op = Op.call { callee := Callee.builtin Builtin.append, args := #[s, x], argTypes := #[t, t] })
    (e : TypeId) (i : TypeInfo) (z : Value) (size bytes : Nat) (h1 : P.underlying t = some (.slice e)) (h2 : P.info? e = some i) (h3 : i.zero = some z) (h4 : i.size = size) (h5 : i.bytes = bytes) (h6 : z.cells.size = size) (h7 : 0 < size)
    (hs0 : isFresh (a.eval s) = true) (so : Option Addr) (m c : Nat) (news : List Value) (hx : a.eval x = .slice so m c) (hn : news.length = m * size)
    (hc : 0 < m → ∃ ad, so = some ad ∧ ∀ j u, news[j]? = some u → w.cell? (ad.add j) = some u) (b1 : m ≤ maxLen) (b2 : m * bytes ≤ 140737488355328)
    (hK : ∀ ao cap w', OwnR w' w.heap.size e size (.slice ao m cap) m news → w.grownBy w' none → K (a.put o.dst (.slice ao m cap)) w') :
    if Region.wanted o (yielded ops a.tmps) = true then Oper.wp P o a w K Q else E := by
  have hw : Region.wanted o (yielded ops a.tmps) = true := by simp [Region.wanted, hg]
  rw [if_pos hw]
  obtain ⟨d, hs⟩ := isFresh_form hs0
  obtain ⟨ao, cap, w', hrun, r1, r2⟩ := run_append_fresh (P := P) w t o.type e i z size bytes h1 h2 h3 h4 h5 h6 h7 d so m c news hn hc b1 b2
  unfold Oper.wp
  simp [execOp, hop, resolve, invoke, builtin, hs, hx, hrun, Result.andThen]
  exact hK _ _ _ r1 r2
end


theorem belowAl {W0 W : World} (h : Below W0.heap.size W0 W) (o : Obj) : Below W0.heap.size W0 (W.alloc o) := h.alloc h.size o
theorem belowGr {W0 W W' : World} (h : Below W0.heap.size W0 W) (hg : W.grownBy W' none) : Below W0.heap.size W0 W' := h.grown hg h.size (fun _ h => by cases h)
end Go.Proofs.Ytmkegkpnomcnhaa

/- A law on append: a row behind an empty one, at a step that does not draw. -/
namespace Go.Proofs.Ytmkegkpnomcnhaa
open Go.RowKit
set_option linter.unusedVariables false
section
variable {P : Program}
theorem wpList_append_fresh {w : World} {ops : Array Oper} {rest : List Oper} {o : Oper} {a : Act} {Q : Exit → Act → World → Prop} (hgd : o.guard = none) (s x : Operand) (t : TypeId)
    (ho : o.op = .call { callee := .builtin .append, args := #[s, x], argTypes := #[t, t] })
    (e : TypeId) (i : TypeInfo) (z : Value) (size bytes : Nat) (ht : P.underlying t = some (.slice e)) (hi : P.info? e = some i) (hz : i.zero = some z)
    (hsize : i.size = size) (hby : i.bytes = bytes) (hzs : z.cells.size = size) (hsz : 0 < size)
    (hs0 : isFresh (a.eval s) = true) (so : Option Addr) (m c : Nat) (news : List Value) (hx : a.eval x = .slice so m c) (hn : news.length = m * size)
    (hc : 0 < m → ∃ ad, so = some ad ∧ ∀ j u, news[j]? = some u → w.cell? (ad.add j) = some u) (b1 : m ≤ maxLen) (b2 : m * bytes ≤ 140737488355328)
    (hK : ∀ ao cap w', OwnR w' w.heap.size e size (.slice ao m cap) m news → w.grownBy w' none → wpList P ops Q rest (a.put o.dst (.slice ao m cap)) w') : wpList P ops Q (o :: rest) a w := by
  refine wpList_plain hgd fun K hK' => ?_
  obtain ⟨d, hs⟩ := isFresh_form hs0
  obtain ⟨ao, cap, w', hrun, r1, r2⟩ := run_append_fresh (P := P) w t o.type e i z size bytes ht hi hz hsize hby hzs hsz d so m c news hn hc b1 b2
  unfold Oper.wp
  simp [execOp, ho, resolve, invoke, builtin, hs, hx, hrun, Result.andThen]
  exact hK' _ _ (hK _ _ _ r1 r2)
end
end Go.Proofs.Ytmkegkpnomcnhaa

/- Contracts of the model's counts: RefsOK, l08Ask, l08Add, RefUp, RefDown. -/
namespace Go.Proofs.Ytmkegkpnomcnhaa
open Go.RowKit
set_option linter.unusedVariables false
set_option maxRecDepth 100000

set_option maxHeartbeats 800000 in
theorem refsOK_spec (ao : Option Addr) (cap : Nat) (xs : List Int) (w : World) (hl : xs.length ≤ maxLen) (hc : Is w ao xs) :
    Calls Try.prog 43 #[.slice ao xs.length cap] w fun e w' => e = .returned (.bool (ctB xs)) ∧ w' = w := by
  have HC := hide hc
  clear hc
  unfold maxLen at hl
  by_cases hlong : 4096 < xs.length
  · have HF := hide (ctB_nolen (xs := xs) (by omega))
    go_enter Try.func43, Try.ntmps43
    go_wp2
    go_ret
    exact ⟨ret_bool (unhide HF).symm, rfl⟩
  go_enter Try.func43, Try.ntmps43
  go_wp2
  go_loop [3] (fun i => ∃ k : Nat, k ≤ xs.length ∧ i = .int .i64 k ∧ Hid (∀ j (h : j < xs.length), j < k → cnt1 xs[j] = true)) (fun i => xs.length - (intOf i).toNat)
  case atStart => exact ⟨0, Nat.zero_le _, rfl, hide (fun j _ h => by omega)⟩
  case round =>
    obtain ⟨k, hk, rfl, HA⟩ := hrel
    by_cases hlt : k < xs.length
    · obtain ⟨b, off, rfl, hc⟩ := unhide HC k hlt
      by_cases hn : cnt1 xs[k] = true
      · have HN := hide (all_succ hlt (unhide HA) hn)
        have hn' : betw xs[k] 0 15 = true := hn
        clear hn
        go_wp2_with (go_at_call 72; refine (in_any _ _ _ _).mono ?_; rintro e w' ⟨rfl, rfl⟩)
        go_round
        case rel => exact ⟨k + 1, by omega, by go_num, HN⟩
        case measure => simp [intOf]; omega
      · have hn0 : cnt1 xs[k] = false := by simpa using hn
        have hn' : betw xs[k] 0 15 = false := hn0
        have HF := hide (ctB_noat hlt hn0)
        clear hn hn0
        go_wp2_with (go_at_call 72; refine (in_any _ _ _ _).mono ?_; rintro e w' ⟨rfl, rfl⟩)
        go_ret
        exact ⟨ret_bool (unhide HF).symm, rfl⟩
    · have HF := hide (ctB_all (fun j h => unhide HA j h (by omega)))
      go_wp2
      go_ret
      exact ⟨ret_bool (by rw [unhide HF, Bool.eq_iff_iff]; simp; omega), rfl⟩

end Go.Proofs.Ytmkegkpnomcnhaa

/- Plain facts on records, of no program: when a text is just one. -/
namespace Go.Proofs.Ytmkegkpnomcnhaa
open Go.RowKit
set_option linter.unusedVariables false

theorem byteAt_list (s : ByteArray) (k : Nat) : byteAt s k = ((s.data.toList[k]?.getD 0).toNat : Int) := by simp [byteAt]
theorem list_eq {a b : ByteArray} (h : a.data.toList = b.data.toList) : a = b := by
  cases a; cases b
  simpa using Array.toList_inj.1 h
theorem size_list (s : ByteArray) : s.data.toList.length = s.size := by simp
/-- Two texts of one length with alike bytes are one. -/
theorem bytes_eq {a b : ByteArray} (hs : a.size = b.size) (h : ∀ k, k < a.size → byteAt a k = byteAt b k) : a = b := by
  apply list_eq
  apply List.ext_getElem
  · rw [size_list, size_list, hs]
  · intro i h1 h2
    rw [size_list] at h1
    have := h i h1
    rw [byteAt_list, byteAt_list, List.getElem?_eq_getElem (by rw [size_list]; exact h1), List.getElem?_eq_getElem h2] at this
    simp only [Option.getD_some] at this
    exact UInt8.toNat_inj.1 (by omega)
theorem byteAt_nums {ns : List Int} {k : Nat} (h : k < ns.length) (h0 : 0 ≤ ns[k]) (h1 : ns[k] ≤ 255) : byteAt (strOfNums ns) k = ns[k] := by
  rw [byteAt_list, strOfNums_data, List.getElem?_map, List.getElem?_eq_getElem h]
  simp only [Option.map_some, Option.getD_some]
  have : ns[k].toNat < 256 := by omega
  rw [UInt8.toNat_ofNat_of_lt' (by simpa using this)]
  omega
theorem byteAt_left {a b : ByteArray} {k : Nat} (h : k < a.size) : byteAt (a ++ b) k = byteAt a k := by
  have e : (a ++ b).data.toList = a.data.toList ++ b.data.toList := by simp
  rw [byteAt_list, byteAt_list, e, List.getElem?_append_left (by rw [size_list]; exact h)]
theorem byteAt_right {a b : ByteArray} {k : Nat} (h : a.size ≤ k) : byteAt (a ++ b) k = byteAt b (k - a.size) := by
  have e : (a ++ b).data.toList = a.data.toList ++ b.data.toList := by simp
  rw [byteAt_list, byteAt_list, e, List.getElem?_append_right (by rw [size_list]; exact h), size_list]
theorem byteAt_cut {u : ByteArray} {a b j : Nat} (hb : b ≤ u.size) (h : a + j < b) : byteAt (u.extract a b) j = byteAt u (a + j) := by
  have e : (u.extract a b).data = u.data.extract a b := by simp
  unfold byteAt
  have : j < min b u.data.size - a := by have : b ≤ u.data.size := hb; omega
  rw [e, Array.getElem?_extract, if_pos this]

/-- The head and the body of a text. -/
def bodyT (s : ByteArray) : ByteArray := s.extract 4 s.size
def headT (s : ByteArray) : ByteArray := s.extract 0 2
theorem bodyT_size (s : ByteArray) : (bodyT s).size = s.size - 4 := by simp [bodyT]
theorem headT_size {s : ByteArray} (h : 4 ≤ s.size) : (headT s).size = 2 := by simp [headT]; omega
theorem headT_eq {s : ByteArray} (h : 4 ≤ s.size) : headT s = strOfNums [byteAt s 0, byteAt s 1] := by
  have h0 := byteAt_in s 0
  have h1 := byteAt_in s 1
  apply bytes_eq
  · rw [headT_size h, strOfNums_size]; rfl
  · intro k hk
    rw [headT_size h] at hk
    rw [headT, byteAt_cut (by omega) (by omega)]
    rcases (show k = 0 ∨ k = 1 by omega) with rfl | rfl
    · rw [byteAt_nums (by simp) (by simp; omega) (by simp; omega)]; simp
    · rw [byteAt_nums (by simp) (by simp; omega) (by simp; omega)]; simp
theorem bodyT_byte {s : ByteArray} {k : Nat} (h : 4 + k < s.size) : byteAt (bodyT s) k = byteAt s (4 + k) := by rw [bodyT, byteAt_cut (Nat.le_refl _) h]

/-- Numbers that are read are packed as they were. -/
theorem four_num (s : ByteArray) (i j : Nat) (hj : j < 4) : byteN (numAt s i) j = byteAt s (i + j) := by
  have h0 := byteAt_in s i
  have h1 := byteAt_in s (i + 1)
  have h2 := byteAt_in s (i + 2)
  have h3 := byteAt_in s (i + 3)
  unfold byteN numAt
  rcases (show j = 0 ∨ j = 1 ∨ j = 2 ∨ j = 3 by omega) with rfl | rfl | rfl | rfl
  · simp only [Nat.add_zero]; omega
  · show (byteAt s i + byteAt s (i + 1) * 256 + byteAt s (i + 2) * 65536 + byteAt s (i + 3) * 16777216) / 256 % 256 = _; omega
  · show (byteAt s i + byteAt s (i + 1) * 256 + byteAt s (i + 2) * 65536 + byteAt s (i + 3) * 16777216) / 65536 % 256 = _; omega
  · show (byteAt s i + byteAt s (i + 1) * 256 + byteAt s (i + 2) * 65536 + byteAt s (i + 3) * 16777216) / 16777216 % 256 = _; omega
theorem packL_at : ∀ (xs : List Int) (i j : Nat) (hi : i < xs.length) (hj : j < 4), (packL xs)[i * 4 + j]? = some (byteN xs[i] j)
  | [], i, _, hi, _ => absurd hi (Nat.not_lt_zero _)
  | x :: xs, 0, j, _, hj => by
    show (four x ++ packL xs)[0 * 4 + j]? = _
    rw [List.getElem?_append_left (by rw [four, fourTo_length]; omega)]
    simp [four, fourTo, hj]
  | x :: xs, i + 1, j, hi, hj => by
    show (four x ++ packL xs)[(i + 1) * 4 + j]? = _
    rw [List.getElem?_append_right (by rw [four, fourTo_length]; omega), four, fourTo_length, show (i + 1) * 4 + j - 4 = i * 4 + j by omega]
    have := packL_at xs i j (by simpa using hi) hj
    simpa using this
theorem pack_un {s : ByteArray} (h4 : s.size % 4 = 0) : packS (unL s) = s := by
  apply bytes_eq
  · rw [packS_size, unL_length]; omega
  · intro k hk
    rw [packS_size, unL_length] at hk
    have hq : k / 4 < (unL s).length := by rw [unL_length]; omega
    have h1 := packL_at (unL s) (k / 4) (k % 4) hq (by omega)
    rw [show k / 4 * 4 + k % 4 = k by omega, unL_get hq, four_num s _ _ (by omega), show k / 4 * 4 + k % 4 = k by omega] at h1
    obtain ⟨hkl, h2⟩ := List.getElem?_eq_some_iff.1 h1
    have hb := byteAt_in s k
    rw [packS, byteAt_nums hkl (by rw [h2]; omega) (by rw [h2]; omega), h2]

/-- A text is just one record. -/
def RecP (s : ByteArray) : Prop := 4 ≤ s.size ∧ kindB (byteAt s 0) = true ∧ byteAt s 3 = 0 ∧ ((bodyT s).size : Int) = byteAt s 1 * 4 ∧ byteAt s 2 = sumS (headT s ++ bodyT s) ∧ okU (bodyT s) = true
def recB (s : ByteArray) : Bool := decide (4 ≤ s.size) && (kindB (byteAt s 0) && (decide (byteAt s 3 = 0) && (decide (((bodyT s).size : Int) = byteAt s 1 * 4) && (decide (byteAt s 2 = sumS (headT s ++ bodyT s)) && okU (bodyT s)))))
theorem recB_iff {s : ByteArray} : recB s = true ↔ RecP s := by simp only [recB, RecP, Bool.and_eq_true, decide_eq_true_eq]
theorem recB_true {s : ByteArray} (h : RecP s) : recB s = true := recB_iff.2 h
theorem recB_false {s : ByteArray} (h : ¬ RecP s) : recB s = false := by
  rw [← Bool.not_eq_true]
  exact fun e => h (recB_iff.1 e)

theorem okU_parts {s : ByteArray} (h : okU s = true) : s.size % 4 = 0 ∧ s.size ≤ 64 ∧ intsB (unL s) = true := by
  by_cases h4 : s.size % 4 = 0
  · by_cases hl : 64 < s.size
    · rw [okU_long hl] at h; cases h
    · rw [okU_even h4] at h; exact ⟨h4, by omega, h⟩
  · rw [okU_rest h4] at h; cases h

/-- The model's test: what comes of the numbers is the text. -/
theorem seal_iff {s : ByteArray} (hs : 4 ≤ s.size) (hk : kindB (byteAt s 0) = true) (hu : okU (bodyT s) = true) : sealS (byteAt s 0) (unL (bodyT s)) = s ↔ RecP s := by
  obtain ⟨h4, h64, hints⟩ := okU_parts hu
  have hp := pack_un h4
  have hl := unL_length (bodyT s)
  have hbs := bodyT_size s
  have hk' := kindB_in hk
  have hr := sumR_in (byteAt s 0) (unL (bodyT s))
  have hz := sealS_size (byteAt s 0) (unL (bodyT s))
  have b1 := byteAt_in s 1
  have hhs : (strOfNums (headR (byteAt s 0) (unL (bodyT s)))).size = 4 := strOfNums_size _
  have hhead : ∀ j (hj : j < 4), byteAt (sealS (byteAt s 0) (unL (bodyT s))) j = (headR (byteAt s 0) (unL (bodyT s)))[j]'(by simpa [headR] using hj) := by
    intro j hj
    rw [sealS, byteAt_left (by rw [hhs]; exact hj), byteAt_nums]
    · rcases (show j = 0 ∨ j = 1 ∨ j = 2 ∨ j = 3 by omega) with rfl | rfl | rfl | rfl <;> simp [headR] <;> omega
    · rcases (show j = 0 ∨ j = 1 ∨ j = 2 ∨ j = 3 by omega) with rfl | rfl | rfl | rfl <;> simp [headR] <;> omega
  have hrest : ∀ j, 4 ≤ j → byteAt (sealS (byteAt s 0) (unL (bodyT s))) j = byteAt (bodyT s) (j - 4) := by
    intro j hj
    rw [sealS, byteAt_right (by rw [hhs]; exact hj), hhs, hp]
  constructor
  · intro e
    have e1 := hhead 1 (by omega)
    have e2 := hhead 2 (by omega)
    have e3 := hhead 3 (by omega)
    rw [e] at e1 e2 e3
    simp only [headR, List.getElem_cons_succ, List.getElem_cons_zero] at e1 e2 e3
    refine ⟨hs, hk, e3, by omega, ?_, hu⟩
    rw [e2, sumR, sumT, hp, headT_eq hs, e1]
  · rintro ⟨_, _, h3, hcnt, hsum, _⟩
    have hlen : (((unL (bodyT s)).length : Nat) : Int) = byteAt s 1 := by omega
    have hsr : sumR (byteAt s 0) (unL (bodyT s)) = byteAt s 2 := by rw [sumR, sumT, hp, hlen, ← headT_eq hs, hsum]
    apply bytes_eq
    · rw [hz]; omega
    · intro k hk2
      rw [hz] at hk2
      by_cases hk4 : k < 4
      · rw [hhead k hk4]
        rcases (show k = 0 ∨ k = 1 ∨ k = 2 ∨ k = 3 by omega) with rfl | rfl | rfl | rfl
        · simp [headR]
        · simp [headR, hlen]
        · simp [headR, hsr]
        · simp [headR, h3]
      · rw [hrest k (by omega), bodyT_byte (by omega), show 4 + (k - 4) = k by omega]

/-- The codes and what comes of records. -/
def opC (s : ByteArray) (k : Int) : Int := if 65536 < s.size then 2 else if kindB k = true then (if recB s = true ∧ byteAt s 0 = k then 0 else 3) else 4
def opR (s : ByteArray) (k : Int) : List Int := if opC s k = 0 then unL (bodyT s) else []
def kdC (s : ByteArray) : Int := if 65536 < s.size then 2 else if recB s = true then 0 else 3
def kdR (s : ByteArray) : Int := if kdC s = 0 then byteAt s 0 else 0
theorem opC_long {s : ByteArray} {k : Int} (h : 65536 < s.size) : opC s k = 2 := if_pos h
theorem opC_kind {s : ByteArray} {k : Int} (h : ¬ 65536 < s.size) (hk : kindB k = false) : opC s k = 4 := by rw [opC, if_neg h, if_neg (by simp [hk])]
theorem opC_ok {s : ByteArray} {k : Int} (h : ¬ 65536 < s.size) (hk : kindB k = true) (hr : recB s = true) (he : byteAt s 0 = k) : opC s k = 0 := by rw [opC, if_neg h, if_pos hk, if_pos ⟨hr, he⟩]
theorem opC_no {s : ByteArray} {k : Int} (h : ¬ 65536 < s.size) (hk : kindB k = true) (hr : ¬ (recB s = true ∧ byteAt s 0 = k)) : opC s k = 3 := by rw [opC, if_neg h, if_pos hk, if_neg hr]
theorem opR_ok {s : ByteArray} {k : Int} (h : opC s k = 0) : opR s k = unL (bodyT s) := if_pos h
theorem opR_no {s : ByteArray} {k : Int} (h : opC s k ≠ 0) : opR s k = [] := if_neg h
theorem kdC_long {s : ByteArray} (h : 65536 < s.size) : kdC s = 2 := if_pos h
theorem kdC_ok {s : ByteArray} (h : ¬ 65536 < s.size) (hr : recB s = true) : kdC s = 0 := by rw [kdC, if_neg h, if_pos hr]
theorem kdC_no {s : ByteArray} (h : ¬ 65536 < s.size) (hr : recB s = false) : kdC s = 3 := by rw [kdC, if_neg h, if_neg (by simp [hr])]
theorem kdR_ok {s : ByteArray} (h : kdC s = 0) : kdR s = byteAt s 0 := if_pos h
theorem kdR_no {s : ByteArray} (h : kdC s ≠ 0) : kdR s = 0 := if_neg h

end Go.Proofs.Ytmkegkpnomcnhaa

/- A law on append: one element more at the end of a row of the call's own. -/
namespace Go.Proofs.Ytmkegkpnomcnhaa
open Go.RowKit
set_option linter.unusedVariables false
section
variable {P : Program}

theorem keep_grown {S : Nat → Prop} {w w' : World} {row : Option Nat} (h : w.grownBy w' row) (hs : ∀ k, row = some k → S k) : Keep S w w' :=
  ⟨h.os, h.tape, h.output, h.size, fun k hk hn => h.block k hk (fun e => hn (hs k e.symm))⟩

theorem run_append_one (w : World) (B : Nat) (t ty e : TypeId) (i : TypeInfo) (z : Value) (size bytes : Nat) (ht : P.underlying t = some (.slice e)) (hi : P.info? e = some i) (hz : i.zero = some z)
    (hsize : i.size = size) (hby : i.bytes = bytes) (hzs : z.cells.size = size) (hsz : 0 < size)
    (qo : Option Addr) (n cap : Nat) (xs : List Value) (h : OwnR w B e size (.slice qo n cap) n xs) (hB : B ≤ w.heap.size)
    (ad : Addr) (c : Nat) (news : List Value) (hl : news.length = size) (hnews : ∀ j u, news[j]? = some u → w.cell? (ad.add j) = some u) (h1 : ∀ u ∈ news, u.oneCell' = true)
    (b1 : n + 1 ≤ maxLen) (b2 : (n + 1) * bytes ≤ 140737488355328) :
    ∃ g cap' w', (Builtin.append_ #[t, t] ty #[.slice qo n cap, .slice (some ad) 1 c]).run P w = .ok (.slice (some ⟨g, 0, none⟩) (n + 1) cap') w' ∧
      w'.ownsRow B e size (.slice (some ⟨g, 0, none⟩) (n + 1) cap') (n + 1) (xs ++ news) ∧ Keep (Own (.slice qo n cap)) w w' := by
  rcases h with ⟨rfl, rfl, ao, hv⟩ | ⟨h0, h⟩
  · simp only [Value.slice.injEq, true_and] at hv
    obtain ⟨rfl, rfl⟩ := hv
    cases qo with
    | none =>
      obtain ⟨v', w', hrun, r1, r2, _⟩ := run_append_own (P := P) w B t ty e i z size bytes ht hi hz hsize hby hzs hsz (.slice none 0 0) 0 [] (World.ownsRow_nil w _ e size) ad 1 c news (by omega) hnews h1 b1 b2 hB
      obtain ⟨g, cap, cur, rfl, _, _⟩ := own_form (by omega) r1
      exact ⟨g, cap, w', hrun, r1, keep_grown r2 (fun k hk => by cases hk)⟩
    | some d =>
      obtain ⟨v', w', hrun, r1, r2⟩ := run_append_arg_grows (P := P) w t ty e i z size bytes ht hi hz hsize hby hzs hsz d 0 0 [] (by simp) (by simp) ad 1 c news (by omega) hnews (by omega) b1 b2
      obtain ⟨g, cap, cur, rfl, _, _⟩ := own_form (by omega) r1
      exact ⟨g, cap, w', hrun, own_base r1 hB, keep_grown r2 (fun k hk => by cases hk)⟩
  · obtain ⟨g0, cap0, cur0, e0, _, _⟩ := own_form h0 h
    rw [e0] at h
    obtain ⟨v', w', hrun, r1, r2, _⟩ := run_append_own (P := P) w B t ty e i z size bytes ht hi hz hsize hby hzs hsz _ n xs h ad 1 c news (by omega) hnews h1 b1 b2 hB
    obtain ⟨g, cap, cur, rfl, _, _⟩ := own_form (by omega) r1
    rw [e0]
    exact ⟨g, cap, w', hrun, r1, keep_grown r2 (fun k hk => by cases hk; exact own_of h0 rfl)⟩

theorem wpList_append_one {w : World} {ops : Array Oper} {rest : List Oper} {o : Oper} {a : Act} {Q : Exit → Act → World → Prop} (hgd : o.guard = none) (s x : Operand) (t : TypeId)
    (ho : o.op = .call { callee := .builtin .append, args := #[s, x], argTypes := #[t, t] })
    (B : Nat) (e : TypeId) (i : TypeInfo) (z : Value) (size bytes : Nat) (ht : P.underlying t = some (.slice e)) (hi : P.info? e = some i) (hz : i.zero = some z)
    (hsize : i.size = size) (hby : i.bytes = bytes) (hzs : z.cells.size = size) (hsz : 0 < size)
    (qo : Option Addr) (n cap : Nat) (xs : List Value) (hs : a.eval s = .slice qo n cap) (h : OwnR w B e size (.slice qo n cap) n xs) (hB : B ≤ w.heap.size)
    (ad : Addr) (c : Nat) (news : List Value) (hx : a.eval x = .slice (some ad) 1 c) (hl : news.length = size) (hnews : ∀ j u, news[j]? = some u → w.cell? (ad.add j) = some u) (h1 : ∀ u ∈ news, u.oneCell' = true)
    (b1 : n + 1 ≤ maxLen) (b2 : (n + 1) * bytes ≤ 140737488355328)
    (hK : ∀ g cap' w', w'.ownsRow B e size (.slice (some ⟨g, 0, none⟩) (n + 1) cap') (n + 1) (xs ++ news) → Keep (Own (.slice qo n cap)) w w' → wpList P ops Q rest (a.put o.dst (.slice (some ⟨g, 0, none⟩) (n + 1) cap')) w') : wpList P ops Q (o :: rest) a w := by
  refine wpList_plain hgd fun K hK' => ?_
  obtain ⟨g, cap', w', hrun, r1, r2⟩ := run_append_one (P := P) w B t o.type e i z size bytes ht hi hz hsize hby hzs hsz qo n cap xs h hB ad c news hl hnews h1 b1 b2
  unfold Oper.wp
  simp [execOp, ho, resolve, invoke, builtin, hs, hx, hrun, Result.andThen]
  exact hK' _ _ (hK _ _ _ r1 r2)

theorem step_append_one {w : World} {ops : Array Oper} {o : Oper} {a : Act} {K : Act → World → Prop} {Q : Exit → Act → World → Prop} {E : Prop} (hgd : o.guard = none) (s x : Operand) (t : TypeId)
    (ho : o.op = .call { callee := .builtin .append, args := #[s, x], argTypes := #[t, t] })
    (B : Nat) (e : TypeId) (i : TypeInfo) (z : Value) (size bytes : Nat) (ht : P.underlying t = some (.slice e)) (hi : P.info? e = some i) (hz : i.zero = some z)
    (hsize : i.size = size) (hby : i.bytes = bytes) (hzs : z.cells.size = size) (hsz : 0 < size)
    (qo : Option Addr) (n cap : Nat) (xs : List Value) (hs : a.eval s = .slice qo n cap) (h : OwnR w B e size (.slice qo n cap) n xs) (hB : B ≤ w.heap.size)
    (ad : Addr) (c : Nat) (news : List Value) (hx : a.eval x = .slice (some ad) 1 c) (hl : news.length = size) (hnews : ∀ j u, news[j]? = some u → w.cell? (ad.add j) = some u) (h1 : ∀ u ∈ news, u.oneCell' = true)
    (b1 : n + 1 ≤ maxLen) (b2 : (n + 1) * bytes ≤ 140737488355328)
    (hK : ∀ g cap' w', w'.ownsRow B e size (.slice (some ⟨g, 0, none⟩) (n + 1) cap') (n + 1) (xs ++ news) → Keep (Own (.slice qo n cap)) w w' → K (a.put o.dst (.slice (some ⟨g, 0, none⟩) (n + 1) cap')) w') :
    if Region.wanted o (yielded ops a.tmps) = true then Oper.wp P o a w K Q else E := by
  have hw : Region.wanted o (yielded ops a.tmps) = true := by simp [Region.wanted, hgd]
  rw [if_pos hw]
  obtain ⟨g, cap', w', hrun, r1, r2⟩ := run_append_one (P := P) w B t o.type e i z size bytes ht hi hz hsize hby hzs hsz qo n cap xs h hB ad c news hl hnews h1 b1 b2
  unfold Oper.wp
  simp [execOp, ho, resolve, invoke, builtin, hs, hx, hrun, Result.andThen]
  exact hK _ _ _ r1 r2
theorem step_append_at {w : World} {ops : Array Oper} {o : Oper} {a : Act} {K : Act → World → Prop} {Q : Exit → Act → World → Prop} {E : Prop} (hgd : o.guard = none) (s x : Operand) (t : TypeId)
    (ho : o.op = .call { callee := .builtin .append, args := #[s, x], argTypes := #[t, t] })
    (B : Nat) (e : TypeId) (i : TypeInfo) (z : Value) (size bytes : Nat) (ht : P.underlying t = some (.slice e)) (hi : P.info? e = some i) (hz : i.zero = some z)
    (hsize : i.size = size) (hby : i.bytes = bytes) (hzs : z.cells.size = size) (hsz : 0 < size)
    (qo : Option Addr) (n cap : Nat) (xs : List Value) (hs : a.eval s = .slice qo n cap) (h : OwnR w B e size (.slice qo n cap) n xs) (hB : B ≤ w.heap.size)
    (news : List Value) (hx : ∃ y c, a.eval x = .slice (some ⟨y, 0, none⟩) 1 c ∧ ∀ j u, news[j]? = some u → w.cell? ((⟨y, 0, none⟩ : Addr).add j) = some u) (hl : news.length = size) (h1 : ∀ u ∈ news, u.oneCell' = true)
    (b1 : n + 1 ≤ maxLen) (b2 : (n + 1) * bytes ≤ 140737488355328)
    (hK : ∀ g cap' w', w'.ownsRow B e size (.slice (some ⟨g, 0, none⟩) (n + 1) cap') (n + 1) (xs ++ news) → Keep (Own (.slice qo n cap)) w w' → K (a.put o.dst (.slice (some ⟨g, 0, none⟩) (n + 1) cap')) w') :
    if Region.wanted o (yielded ops a.tmps) = true then Oper.wp P o a w K Q else E := by
  obtain ⟨y, c, hx, hnews⟩ := hx
  exact step_append_one hgd s x t ho B e i z size bytes ht hi hz hsize hby hzs hsz qo n cap xs hs h hB ⟨y, 0, none⟩ c news hx hl hnews h1 b1 b2 hK
end
end Go.Proofs.Ytmkegkpnomcnhaa

/- Contract of spec.l02Unpack. -/
namespace Go.Proofs.Ytmkegkpnomcnhaa
open Go.RowKit
set_option linter.unusedVariables false
set_option maxRecDepth 100000

end Go.Proofs.Ytmkegkpnomcnhaa

/- Contracts of SumOf, of the program and of its model. -/
namespace Go.Proofs.Ytmkegkpnomcnhaa
open Go.RowKit
set_option linter.unusedVariables false
set_option maxRecDepth 100000

theorem l02Sum_any (s : ByteArray) (w : World) (hs : s.size ≤ 1048576) :
    Calls Try.prog 89 #[.string s] w fun e w' => e = .returned (.int .i64 (sumS s)) ∧ w' = w := by
  go_enter Try.func89, Try.ntmps89
  go_wp2
  go_loop [3, 4] (fun n i => ∃ k : Nat, k ≤ s.size ∧ i = .int .i64 k ∧ n = .int .i64 (sumTo s k)) (fun _ i => s.size - (intOf i).toNat)
  case atStart => exact ⟨0, Nat.zero_le _, rfl, rfl⟩
  case round =>
    obtain ⟨k, hk, rfl, rfl⟩ := hrel
    by_cases hlt : k < s.size
    · have HN := hide (sumTo_walk hlt (by omega))
      go_wp2
      go_round
      case rel => exact ⟨k + 1, by omega, by go_num, by rw [← unhide HN]⟩
      case measure => simp [intOf]; omega
    · go_wp2
      go_ret
      exact ⟨ret_int (by rw [sumS, show k = s.size by omega]), rfl⟩

theorem sumOf_impl (s : ByteArray) (w : World) (hs : s.size ≤ 1048576) :
    Calls Try.prog 93 #[.string s] w fun e w' => e = .returned (.int .i64 (sumC s)) ∧ w' = w := by
  by_cases h1 : 65536 < s.size
  · have HF := hide (sumC_long h1)
    go_enter Try.func93, Try.ntmps93
    go_wp2
    go_ret
    exact ⟨ret_int (unhide HF).symm, rfl⟩
  have HF := hide (sumC_short (s := s) (by omega))
  go_enter Try.func93, Try.ntmps93
  go_wp2
  go_loop [3, 4] (fun n i => ∃ k : Nat, k ≤ s.size ∧ i = .int .i64 k ∧ n = .int .i64 (sumTo s k)) (fun _ i => s.size - (intOf i).toNat)
  case atStart => exact ⟨0, Nat.zero_le _, rfl, rfl⟩
  case round =>
    obtain ⟨k, hk, rfl, rfl⟩ := hrel
    by_cases hlt : k < s.size
    · have HN := hide (sumTo_walk hlt (by omega))
      go_wp2
      go_round
      case rel => exact ⟨k + 1, by omega, by go_num, by rw [← unhide HN]⟩
      case measure => simp [intOf]; omega
    · go_wp2
      go_ret
      exact ⟨ret_int (by rw [unhide HF, sumS, show k = s.size by omega]), rfl⟩

end Go.Proofs.Ytmkegkpnomcnhaa

/- Contracts of spec.l02Pack and impl.packNumbers. -/
namespace Go.Proofs.Ytmkegkpnomcnhaa
open Go.RowKit
set_option linter.unusedVariables false

theorem infoB : (Try.prog.info? 5).map (fun i => (i.zero, i.size, i.bytes)) = some (some (.int .u8 0), 1, 1) := by kernel_rfl

theorem ret_str {a b : ByteArray} (h : a = b) : Ending.returned (.string a) = .returned (.string b) := by rw [h]

set_option maxRecDepth 100000 in
set_option maxHeartbeats 1600000 in
theorem l02Pack_any (ao : Option Addr) (cap : Nat) (xs : List Int) (w : World) (hl : xs.length ≤ 4096) (hn : ∀ j (h : j < xs.length), 0 ≤ xs[j] ∧ xs[j] ≤ 2147483647) (hc : Is w ao xs) :
    Calls Try.prog 88 #[.slice ao xs.length cap] w fun e w' => e = .returned (.string (packS xs)) ∧ Below w.heap.size w w' := by
  have HC := hide hc
  have HN := hide hn
  clear hc hn
  obtain ⟨j0, hj, hy0, hy1, hy2⟩ := info_parts infoB
  go_enter Try.func88, Try.ntmps88
  go_wp2
  go_loopw [3, 4] (fun o i wr => ∃ (k : Nat) (qo : Option Addr) (qa : Nat), k ≤ xs.length ∧ i = .int .i64 k ∧ o = .slice qo (k * 4) qa ∧ Hid (OwnR wr w.heap.size 5 1 (.slice qo (k * 4) qa) (k * 4) (byteV (packL (xs.take k)))) ∧ Hid (Below w.heap.size w wr)) (fun _ i _ => xs.length - (intOf i).toNat)
  case atStart => exact ⟨0, _, _, Nat.zero_le _, rfl, rfl, hide (.inl ⟨rfl, rfl, _, rfl⟩), hide (by first | exact Below.refl _ _ | exact Joins.below_alloc1 _ _)⟩
  case round =>
    obtain ⟨k, qo, qa, hk, rfl, rfl, HO, HB⟩ := hrel
    by_cases hlt : k < xs.length
    · obtain ⟨b, off, rfl, hc⟩ := (unhide HC).below (unhide HB) k hlt
      obtain ⟨h0, h1⟩ := unhide HN k hlt
      go_wp2
      go_loopw [3, 5, 6] (fun o m i wq => ∃ (j : Nat) (qo : Option Addr) (qa : Nat), j ≤ 4 ∧ i = .int .i64 j ∧ m = .int .i64 (shN xs[k] j) ∧ o = .slice qo (k * 4 + j) qa ∧ Hid (OwnR wq w.heap.size 5 1 (.slice qo (k * 4 + j) qa) (k * 4 + j) (byteV (packL (xs.take k) ++ fourTo xs[k] j))) ∧ Hid (Below w.heap.size w wq)) (fun _ _ i _ => 4 - (intOf i).toNat)
      case atStart => exact ⟨0, qo, qa, by omega, rfl, by simp [shN], rfl, hide (by simpa [fourTo] using unhide HO), HB⟩
      case round =>
        clear HO HB
        obtain ⟨j, qo, qa, hj4, rfl, rfl, rfl, HO, HB⟩ := hrel
        obtain ⟨hs0, hs1⟩ := shN_in h0 h1 j
        by_cases hj4 : j < 4
        · have HOA := hide ((unhide HO).below (Joins.below_alloc1 _ (.cells #[.int .u8 (shN xs[k] j % 256)] 5)))
          have HBA := hide (fr (unhide HB) (Joins.below_alloc1 _ (.cells #[.int .u8 (shN xs[k] j % 256)] 5)))
          have HSZ := hide (unhide HB).size
          have HSH := hide (shN_succ xs[k] j)
          go_wp2_with (at_builtin; refine wpList_append_one rfl _ _ 22 rfl w.heap.size 5 j0 (.int .u8 0) 1 1 Try.underlying22 hj hy0 hy1 hy2 rfl (by omega) qo (k * 4 + j) qa (byteV (packL (xs.take k) ++ fourTo xs[k] j)) rfl (unhide HOA) (by have := unhide HSZ; simp; omega) ⟨wr.heap.size, 0, none⟩ _ [.int .u8 (shN xs[k] j % 256)] rfl rfl (byte_news wr _ _) (byte_one _) (by unfold maxLen; omega) (by omega) ?_; intro g2 cap2 wA hoA hkA; have HSF := hide (And.intro hoA (keep_below (unhide HBA) (unhide HOA) (Nat.le_refl _) hkA)); clear hoA hkA)
          go_roundw
          case rel => exact ⟨j + 1, _, _, by omega, by go_num, by rw [unhide HSH], rfl, hide (.inr ⟨by omega, by rw [fourTo_succ, ← List.append_assoc, byteV_snoc, ← shN_byte]; exact (unhide HSF).1⟩), hide (unhide HSF).2⟩
          case measure => simp [intOf]; omega
        · have HE : Hid (j = 4) := hide (by omega)
          go_wp2
          go_roundw
          case rel => exact ⟨k + 1, qo, qa, by omega, by go_num, by rw [unhide HE, show (k + 1) * 4 = k * 4 + 4 by omega], hide (by have := unhide HO; rw [unhide HE] at this; rw [packL_succ hlt, show (k + 1) * 4 = k * 4 + 4 by omega]; exact this), HB⟩
          case measure => simp [intOf]; omega
    · have HE : Hid (xs.take k = xs) := hide (List.take_of_length_le (by omega))
      have hcv := convert_own (P := Try.prog) Try.underlying22 Try.underlying5 Try.underlying9 (unhide HO)
      go_wp2
      go_ret
      exact ⟨ret_str (by rw [unhide HE]; rfl), unhide HB⟩

end Go.Proofs.Ytmkegkpnomcnhaa

/- Contracts of the model's l02Kind, l02Seal. -/
namespace Go.Proofs.Ytmkegkpnomcnhaa
open Go.RowKit
set_option linter.unusedVariables false
set_option maxRecDepth 100000

/-- 'string([]byte{a, b})'. -/
theorem lit2 (W : World) (g : Nat) (a b : Int) (h : W.heap.size = g) : (convert 22 9 (.slice (some ⟨g, 0, none⟩) 2 2)).run Try.prog (W.alloc (.cells #[.int .u8 a, .int .u8 b] 5)) = .ok (.string (strOfNums [a, b])) (W.alloc (.cells #[.int .u8 a, .int .u8 b] 5)) := by
  subst h
  refine run_convert_bytes_arg _ 22 5 Try.underlying22 Try.underlying5 W.heap.size 0 2 2 [a, b] rfl ?_ 9 Try.underlying9
  intro i hi
  rcases (show i = 0 ∨ i = 1 by omega) with rfl | rfl <;> simp [go_sem, List.getD]

theorem sum_spec (k : Int) (xs : List Int) (w : World) (hl : xs.length ≤ 16) : Calls Try.prog 89 #[.string (strOfNums [k, (xs.length : Int)] ++ packS xs)] w fun e w' => e = .returned (.int .i64 (sumR k xs)) ∧ w' = w :=
  l02Sum_any (sumT k xs) w (by rw [sumT_size]; omega)
set_option maxHeartbeats 1600000 in
theorem l02Seal_any (k : Int) (ao : Option Addr) (cap : Nat) (xs : List Int) (w : World) (hk : 1 ≤ k ∧ k ≤ 9) (hl : xs.length ≤ 16) (hn : ∀ j (h : j < xs.length), 0 ≤ xs[j] ∧ xs[j] ≤ 2147483647) (hc : Is w ao xs) :
    Calls Try.prog 73 #[.int .i64 k, .slice ao xs.length cap] w fun e w' => e = .returned (.string (sealS k xs)) ∧ Below w.heap.size w w' := by
  have HC := hide hc
  have HN := hide hn
  clear hc hn
  have hp := packS_size xs
  have hs2 : (strOfNums [k, (xs.length : Int)]).size = 2 := strOfNums_size _
  go_enter Try.func73, Try.ntmps73
  go_wp2_with fail
  refine (l02Pack_any _ _ xs _ (by omega) (unhide HN) (unhide HC)).mono ?_
  rintro e w1 ⟨rfl, hb1⟩
  have HB1 := hide hb1
  have hc1 := lit2 w1 w1.heap.size k xs.length rfl
  clear hb1
  go_wp2_with fail
  refine (sum_spec k xs _ hl).mono ?_
  rintro e w2 ⟨rfl, rfl⟩
  obtain ⟨hr0, hr1⟩ := sumR_in k xs
  have hc2 := lit2 (w1.alloc (.cells #[.int .u8 k, .int .u8 xs.length] 5)) (w1.heap.size + 1) (sumR k xs) 0 (by simp)
  have hs3 : (strOfNums [sumR k xs, 0]).size = 2 := strOfNums_size _
  have hs4 : (strOfNums [k, (xs.length : Int)] ++ strOfNums [sumR k xs, 0]).size = 4 := by rw [ByteArray.size_append, hs2, hs3]
  have HE := hide (sealS_parts k xs)
  go_wp2
  go_ret
  exact ⟨ret_str (unhide HE), fr (unhide HB1) (Joins.below_alloc2 _ _ _)⟩

end Go.Proofs.Ytmkegkpnomcnhaa

/- Contracts of the model's readers of records: l02Open, OpenRecord, KindOf. -/
namespace Go.Proofs.Ytmkegkpnomcnhaa
open Go.RowKit
set_option linter.unusedVariables false
set_option maxRecDepth 100000

/-- What l02Open answers. -/
def openB (s : ByteArray) (k : Int) : Bool := recB s && decide (byteAt s 0 = k)
def openL (s : ByteArray) (k : Int) : List Int := if openB s k = true then unL (bodyT s) else []
theorem openB_no {s : ByteArray} {k : Int} (h : ¬ RecP s) : openB s k = false := by rw [openB, recB_false h]; rfl
theorem openB_kind {s : ByteArray} {k : Int} (h : byteAt s 0 ≠ k) : openB s k = false := by rw [openB, decide_eq_false h]; simp
theorem openB_yes {s : ByteArray} {k : Int} (h : RecP s) (hk : byteAt s 0 = k) : openB s k = true := by rw [openB, recB_true h, decide_eq_true hk]; rfl
theorem openL_no {s : ByteArray} {k : Int} (h : openB s k = false) : openL s k = [] := if_neg (by simp [h])
theorem openL_yes {s : ByteArray} {k : Int} (h : openB s k = true) : openL s k = unL (bodyT s) := if_pos h

end Go.Proofs.Ytmkegkpnomcnhaa
