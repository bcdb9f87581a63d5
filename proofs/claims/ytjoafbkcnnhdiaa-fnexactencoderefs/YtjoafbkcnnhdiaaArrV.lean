/- Arrays of numbers in variables: whole loads and stores. -/
import Derived.Test.YtjoafbkcnnhdiaaGen
import Derived.Test.YtjoafbkcnnhdiaaKeep
import Derived.Test.YtjoafbkcnnhdiaaInts
import Derived.Test.YtjoafbkcnnhdiaaSrc
import Derived.WalkKit
import Derived.WalkSpells
import Derived.Deep.MidRow
namespace Go.Proofs.Ytjoafbkcnnhdiaa
open Go.RowKit
set_option linter.unusedVariables false
set_option maxRecDepth 100000

section
variable {P : Program}
theorem wpList_store_arr {ops : Array Oper} {rest : List Oper} {op : Oper} {a : Act} {w : World} {Q : Exit → Act → World → Prop} (hgd : op.guard = none) (ty : TypeId) (x y : Operand) (ho : op.op = .store ty x y)
    (g : Nat) (hx : a.eval x = .pointer (some ⟨g, 0, none⟩)) (c' : Array Value) (hy : a.eval y = .agg c') (c : Array Value) (t : TypeId) (hb : w.heap[g]? = some (.cells c t (0, 0)))
    (hi : (P.info? ty).map (·.size) = some c'.size) (hs : c.size = c'.size) (h1 : c'.all (·.oneCell') = true)
    (h : ∀ w', w'.heap[g]? = some (.cells c' t (0, 0)) → Keep (fun k => k = g) w w' → w'.heap.size = w.heap.size → wpList P ops Q rest (a.put op.dst undef) w') : wpList P ops Q (op :: rest) a w :=
  wpList_plain hgd fun _ hK => by
    unfold Oper.wp execOp
    simp only [ho, hx, hy, Instr.storeAt, Instr.sureAddr, Sem.run_bind, Sem.run_pure, Result.andThen_ok, run_storeVar_row w g t ty c c' hb hi hs h1]
    exact hK _ _ (h _ (setRow_heap w g c c' t (0, 0) hb) ⟨rfl, rfl, rfl, by simp, fun k _ hk => setRow_other w g k c' hk⟩ (setRow_size w g c'))
theorem wpList_load_arr {ops : Array Oper} {rest : List Oper} {op : Oper} {a : Act} {w : World} {Q : Exit → Act → World → Prop} (hgd : op.guard = none) (ty : TypeId) (x : Operand) (ho : op.op = .load ty x)
    (g : Nat) (hx : a.eval x = .pointer (some ⟨g, 0, none⟩)) (c : Array Value) (t : TypeId) (d : TypeDesc) (hb : w.heap[g]? = some (.cells c t (0, 0)))
    (hu : P.underlying ty = some d) (hd : (match d with | .struct _ | .array _ _ => true | _ => false) = true) (hi : (P.info? ty).map (·.size) = some c.size)
    (h : wpList P ops Q rest (a.put op.dst (.agg c)) w) : wpList P ops Q (op :: rest) a w :=
  wpList_plain hgd fun _ hK => by
    unfold Oper.wp execOp
    simp only [ho, hx, Instr.loadAt, Instr.sureAddr, Sem.run_bind, Sem.run_pure, Result.andThen_ok, run_loadVar_row w g t ty c (0, 0) d hb hu hd hi]
    exact hK _ _ h
end

theorem intV_one (xs : List Int) : (intV xs).toArray.all (·.oneCell') = true := by
  apply all_oneCell_toArray
  intro v hv
  simp only [intV, List.mem_map] at hv
  obtain ⟨n, _, rfl⟩ := hv
  rfl
theorem intV_size (xs : List Int) : (intV xs).toArray.size = xs.length := by simp [intV]
theorem Is.range {w : World} {ao : Option Addr} {xs : List Int} (h : Is w ao xs) (h0 : 0 < xs.length) : ∃ b off, ao = some ⟨b, off, none⟩ ∧ w.rangeAt b off (intV xs) := by
  obtain ⟨b, off, rfl, _⟩ := h 0 h0
  refine ⟨b, off, rfl, fun j v hv => ?_⟩
  have hj : j < xs.length := by have := (List.getElem?_eq_some_iff.1 hv).1; rw [intV_length] at this; exact this
  obtain ⟨b', off', e, hc⟩ := h j hj
  rw [intV_get hj] at hv
  cases e
  rw [hc]; exact hv
theorem Is.of_block {w : World} {g : Nat} {t : TypeId} {xs : List Int} (h : w.heap[g]? = some (.cells (intV xs).toArray t (0, 0))) : Is w (some ⟨g, 0, none⟩) xs := fun i hi => by
  refine ⟨g, 0, rfl, ?_⟩
  rw [Nat.zero_add, Joins.cell_of_block h]
  simpa using intV_get hi
theorem arr_cell {w : World} {g : Nat} {t : TypeId} {xs : List Int} (h : w.heap[g]? = some (.cells (intV xs).toArray t (0, 0))) {k : Nat} (hk : k < xs.length) : w.cell? ⟨g, k, none⟩ = some (.int .i64 xs[k]) := by
  rw [Joins.cell_of_block h]; simpa using intV_get hk
theorem intV_set (xs : List Int) (k : Nat) (n : Int) : (intV xs).toArray.setIfInBounds k (.int .i64 n) = (intV (xs.set k n)).toArray := by simp [intV, List.map_set]
theorem arr_set {w : World} {g : Nat} {t : TypeId} {xs : List Int} (h : w.heap[g]? = some (.cells (intV xs).toArray t (0, 0))) (k : Nat) (n : Int) : (w.setCell ⟨g, k, none⟩ (.int .i64 n)).heap[g]? = some (.cells (intV (xs.set k n)).toArray t (0, 0)) := by
  rw [set_block (i := k) h (.int .i64 n), intV_set]
theorem block_of_below {w w' : World} {g : Nat} {o : Obj} (h : w.heap[g]? = some o) (hb : Below w.heap.size w w') : w'.heap[g]? = some o := by
  rw [hb.block g (Array.getElem?_eq_some_iff.1 h).1]; exact h
theorem keep_one {w0 w w' : World} {g : Nat} (h : Below w0.heap.size w0 w) (hk : Keep (fun k => k = g) w w') (hg : w0.heap.size ≤ g) : Below w0.heap.size w0 w' :=
  h.trans (hk.below h.size (fun k e => by omega))

end Go.Proofs.Ytjoafbkcnnhdiaa
