import Derived.Test.YthnpooffhopnkacGreatDoorRows
import Derived.Test.YthnpooffhopnkacGreatDoorPart1
import Derived.Test.YthnpooffhopnkacGreatDoorPart2
import Derived.Test.YthnpooffhopnkacGreatDoorPart3
import Derived.Test.YthnpooffhopnkacGreatDoorPart7
import Derived.Test.YthnpooffhopnkacGreatDoorPart8
import Derived.Test.YthnpooffhopnkacGreatDoorPart9
import Derived.WalkKit
import Derived.WalkSpells
import Derived.KernelRfl
import Derived.BigQuiet
import Derived.Deep.QuietTactic
import Derived.Deep.RegionWith
import Derived.Laws.MakeOwn
import Derived.Laws.OwnMore
import Derived.Deep.MidRow
import Derived.Test.YthnpooffhopnkacGreatDoorPart4
import Derived.Deep.RegionLawGrows
import Derived.LoopN
import Derived.Deep.CutRange
import Derived.Orders
import Derived.Still

/- Contracts of the model's l10New, NewImage. (Made ahead of stage 10.) -/
namespace Go.Proofs.YthnpooffhopnkacGreatDoor
open Go.RowKit
set_option linter.unusedVariables false
set_option maxRecDepth 100000

/-- An image of holes alone. -/
def imNew (n : Nat) : Img := ⟨zero24, List.replicate n 0, [], zero24⟩
def niF (n : Int) : Int := if betw n 0 12 = true then 0 else 4
def im0 : Img := ⟨[], [], [], []⟩
def niI (n : Int) : Img := if niF n = 0 then imNew n.toNat else im0
/-- A row of zeros, as it is made. -/
theorem mkZ (n : Nat) (hn : n ≤ 1000) : ∀ W : World, (Instr.makeSlice 23 (.int .i64 (n : Int)) (.int .i64 (n : Int))).run Tryz.prog W = .ok (.slice (some ⟨W.heap.size, 0, none⟩) n n) (W.alloc (.cells (intV (List.replicate n 0)).toArray 3)) := by
  obtain ⟨i0, hi, hz0, hz1, hz2⟩ := info_parts infoIn
  intro W
  have := run_make (P := Tryz.prog) W 23 3 i0 (.int .i64 0) Tryz.underlying23 hi hz0 .i64 .i64 n n (by omega) (by omega) (by rw [hz2]; omega) (by omega)
  rw [hz1] at this
  have e : madeCells #[Value.int .i64 0] n = (intV (List.replicate n 0)).toArray := by
    apply Array.toList_inj.1
    rw [made_rep]
    simp [intV]
  rw [show (Value.int .i64 0).cells = #[Value.int .i64 0] from rfl, Int.toNat_natCast, Nat.mul_one, e] at this
  exact this
theorem mk24 : ∀ W : World, (Instr.makeSlice 23 (.int .i64 24) (.int .i64 24)).run Tryz.prog W = .ok (.slice (some ⟨W.heap.size, 0, none⟩) 24 24) (W.alloc (.cells (intV zero24).toArray 3)) := mkZ 24 (by omega)

section
variable (w : World) (r a b c d : Obj)
theorem chain0 : (((((w.alloc r).alloc a).alloc b).alloc c).alloc d).drew.heap[w.heap.size]? = some r := blk_belowI (blk_belowI (blk_belowI (blk_belowI (blk_belowI (heap_alloc_new w r) (Joins.below_alloc1 _ _)) (Joins.below_alloc1 _ _)) (Joins.below_alloc1 _ _)) (Joins.below_alloc1 _ _)) (Below.refl _ _).drew
theorem chain1 : (((((w.alloc r).alloc a).alloc b).alloc c).alloc d).drew.heap[w.heap.size + 1]? = some a := by
  have h := heap_alloc_new (w.alloc r) a
  rw [World.size_alloc] at h
  exact blk_belowI (blk_belowI (blk_belowI (blk_belowI h (Joins.below_alloc1 _ _)) (Joins.below_alloc1 _ _)) (Joins.below_alloc1 _ _)) (Below.refl _ _).drew
theorem chain2 : (((((w.alloc r).alloc a).alloc b).alloc c).alloc d).drew.heap[w.heap.size + 1 + 1]? = some b := by
  have h := heap_alloc_new ((w.alloc r).alloc a) b
  rw [World.size_alloc, World.size_alloc] at h
  exact blk_belowI (blk_belowI (blk_belowI h (Joins.below_alloc1 _ _)) (Joins.below_alloc1 _ _)) (Below.refl _ _).drew
theorem chain3 : (((((w.alloc r).alloc a).alloc b).alloc c).alloc d).drew.heap[w.heap.size + 1 + 1 + 1]? = some c := by
  have h := heap_alloc_new (((w.alloc r).alloc a).alloc b) c
  rw [World.size_alloc, World.size_alloc, World.size_alloc] at h
  exact blk_belowI (blk_belowI h (Joins.below_alloc1 _ _)) (Below.refl _ _).drew
theorem chain4 : (((((w.alloc r).alloc a).alloc b).alloc c).alloc d).drew.heap[w.heap.size + 1 + 1 + 1 + 1]? = some d := by
  have h := heap_alloc_new ((((w.alloc r).alloc a).alloc b).alloc c) d
  rw [World.size_alloc, World.size_alloc, World.size_alloc, World.size_alloc] at h
  exact blk_belowI h (Below.refl _ _).drew
theorem chainB : Below w.heap.size w (((((w.alloc r).alloc a).alloc b).alloc c).alloc d).drew := (fr (fr (Joins.below_alloc3 w r a b) (Joins.below_alloc1 _ c)) (Joins.below_alloc1 _ d)).drew
end
theorem own_made {W : World} {B g n : Nat} {xs : List Int} (h : W.heap[g]? = some (.cells (intV xs).toArray 3 (0, 0))) (hB : B ≤ g) (hn : xs.length = n) (hl : n ≤ 1000) : OwnN W B (.slice (some ⟨g, 0, none⟩) n n) xs := by
  refine OwnN.mk' ?_ hn
  subst hn
  rcases Nat.eq_zero_or_pos xs.length with h0 | h0
  · refine .inl ⟨h0, ?_, some ⟨g, 0, none⟩, by rw [h0]⟩
    rw [List.eq_nil_of_length_eq_zero h0]; rfl
  · exact .inr ⟨h0, by rw [intV_length]; omega, .inr ⟨g, xs.length, (intV xs).toArray, rfl, hB, h, Nat.le_refl _, by unfold maxLen; omega, by simp [intV_length], by rw [List.take_of_length_le (by simp [intV_length])]⟩⟩
theorem own_ne {v : Value} {g h n m c d : Nat} (hne : g ≠ h) : ∀ x, Own (.slice (some ⟨g, 0, none⟩) n c) x → ¬ Own (.slice (some ⟨h, 0, none⟩) m d) x := by
  rintro x ⟨a, k, e, h1, h2⟩ ⟨a', k', e', h1', h2'⟩
  cases h1
  cases h1'
  simp only at h2 h2'
  omega
theorem new_leaf {w W : World} {n g0 g1 gs g3 : Nat} (hn : n ≤ 1000) (h0 : W.heap[g0]? = some (.cells (intV zero24).toArray 3 (0, 0))) (h1 : W.heap[g1]? = some (.cells (intV (List.replicate n 0)).toArray 3 (0, 0))) (h3 : W.heap[g3]? = some (.cells (intV zero24).toArray 3 (0, 0)))
    (n1 : g0 ≠ g1) (n2 : g0 ≠ g3) (n3 : g1 ≠ g3) (b0 : w.heap.size ≤ g0) (b1 : w.heap.size ≤ g1) (b3 : w.heap.size ≤ g3) (hb : Below w.heap.size w W) :
    ∃ a, Ending.returned (.agg #[.slice (some ⟨g0, 0, none⟩) 24 24, .slice (some ⟨g1, 0, none⟩) n n, .slice (some ⟨gs, 0, none⟩) 0 0, .slice (some ⟨g3, 0, none⟩) 24 24]) = .returned (imV a (imNew n)) ∧ OwnIm W w.heap.size a (imNew n) [] ∧ Below w.heap.size w W := by
  have hl : (imNew n).table.length = n := by simp [imNew]
  refine ⟨⟨some ⟨g0, 0, none⟩, 24, some ⟨g1, 0, none⟩, n, some ⟨gs, 0, none⟩, 0, some ⟨g3, 0, none⟩, 24⟩, by simp only [imV, hl]; rfl, ⟨rfl, .inl ⟨rfl, rfl, _, _, rfl⟩, ?_⟩, hb⟩
  have o0 := own_made (B := w.heap.size) (n := 24) h0 b0 rfl (by omega)
  have o1 := own_made (B := w.heap.size) (n := n) h1 b1 (by simp) hn
  have o3 := own_made (B := w.heap.size) (n := 24) h3 b3 rfl (by omega)
  have e : imRows ⟨some ⟨g0, 0, none⟩, 24, some ⟨g1, 0, none⟩, n, some ⟨gs, 0, none⟩, 0, some ⟨g3, 0, none⟩, 24⟩ (imNew n) [] = [(.slice (some ⟨g0, 0, none⟩) 24 24, zero24), (.slice (some ⟨g1, 0, none⟩) n n, List.replicate n 0), (.slice (some ⟨g3, 0, none⟩) 24 24, zero24)] := by
    simp only [imRows, hl]; rfl
  rw [e]
  refine ⟨fun r hr => ?_, ?_⟩
  · simp only [List.mem_cons, List.not_mem_nil, or_false] at hr
    rcases hr with rfl | rfl | rfl
    · exact o0
    · exact o1
    · exact o3
  · simp only [List.pairwise_cons, List.mem_cons, List.not_mem_nil, or_false, forall_eq_or_imp, forall_eq, List.Pairwise.nil, and_true]
    exact ⟨⟨own_ne (v := undef) n1, own_ne (v := undef) n2⟩, own_ne (v := undef) n3, fun _ h => h.elim⟩
/-- A result in a cell: an image. -/
theorem res_im {fn : Func} {p : Tmp} {v0 v1 v2 v3 : Value} {x : Nat} {W : World} {tmps : Array Value} (h : fn.results = #[.cell p 26]) (hp : tmps.getD p undef = .pointer (some ⟨x, 0, none⟩)) (hv : W.heap[x]? = some (.cells #[v0, v1, v2, v3] 26 (0, 0))) :
    (results fn tmps).run Tryz.prog W = .ok (.agg #[v0, v1, v2, v3]) W := by
  obtain ⟨c0, c1, c2, c3⟩ := VarM.cells (t := 26) hv
  rw [Array.getD_eq_getD_getElem?] at hp
  simp [results, h, hp, go_sem, c0, c1, c2, c3]

set_option maxHeartbeats 6400000 in
theorem l10New_any (n : Nat) (w : World) (hn : n ≤ 1000) :
    Calls Tryz.prog 42 #[.int .i64 n] w fun e w' => ∃ a, e = .returned (imV a (imNew n)) ∧ OwnIm w' w.heap.size a (imNew n) [] ∧ Below w.heap.size w w' := by
  have h24 := mk24
  have hmn := mkZ n hn
  have HL := hide (fun (W : World) (g0 g1 gs g3 : Nat) => new_leaf (w := w) (W := W) (n := n) (g0 := g0) (g1 := g1) (gs := gs) (g3 := g3) hn)
  generalize (intV zero24).toArray = Z24 at *
  generalize (intV (List.replicate n 0)).toArray = ZN at *
  go_enter Tryz.func42, Tryz.ntmps42
  go_wp2
  go_region
  all_goals
    go_wp2
    refine bodyPost_ret (res_im Tryz.results42 rfl (chain0 w _ _ _ _ _)) rfl ?_
    exact unhide HL _ _ _ _ _ (by first | exact chain1 _ _ _ _ _ _ | exact chain2 _ _ _ _ _ _ | exact chain3 _ _ _ _ _ _ | exact chain4 _ _ _ _ _ _) (by first | exact chain1 _ _ _ _ _ _ | exact chain2 _ _ _ _ _ _ | exact chain3 _ _ _ _ _ _ | exact chain4 _ _ _ _ _ _) (by first | exact chain1 _ _ _ _ _ _ | exact chain2 _ _ _ _ _ _ | exact chain3 _ _ _ _ _ _ | exact chain4 _ _ _ _ _ _) (by omega) (by omega) (by omega) (by omega) (by omega) (by omega) (chainB _ _ _ _ _ _)

/-- A result in a cell and a slot: an image and a code. -/
theorem res_ic {fn : Func} {p u : Tmp} {v0 v1 v2 v3 z : Value} {x : Nat} {W : World} {tmps : Array Value} (h : fn.results = #[.cell p 26, .tmp u]) (hp : tmps.getD p undef = .pointer (some ⟨x, 0, none⟩)) (hu : tmps.getD u undef = z) (hv : W.heap[x]? = some (.cells #[v0, v1, v2, v3] 26 (0, 0))) :
    (results fn tmps).run Tryz.prog W = .ok (.tuple #[.agg #[v0, v1, v2, v3], z]) W := by
  obtain ⟨c0, c1, c2, c3⟩ := VarM.cells (t := 26) hv
  rw [Array.getD_eq_getD_getElem?] at hp hu
  simp [results, h, hp, hu, go_sem, c0, c1, c2, c3]
theorem ret_mi {v u : Value} {a b : Int} (h : v = u) (k : a = b) : Ending.returned (.tuple #[v, .int .i64 a]) = .returned (.tuple #[u, .int .i64 b]) := by rw [h, k]
/-- An empty image, of which nothing is said. -/
theorem OwnIm.zero (w : World) (B : Nat) : OwnIm w B ⟨none, 0, none, 0, none, 0, none, 0⟩ im0 [] := ⟨rfl, .inl ⟨rfl, rfl, _, _, rfl⟩, by
  unfold imRows
  refine ⟨fun r hr => ?_, ?_⟩
  · simp only [im0, List.map_nil, List.zip_nil_right, List.mem_cons, List.not_mem_nil, or_false] at hr
    rcases hr with rfl | rfl | rfl <;> exact OwnN.nil _ _ _
  · simp only [im0, List.map_nil, List.zip_nil_right, List.pairwise_cons, List.mem_cons, List.not_mem_nil, or_false, List.Pairwise.nil, and_true]
    exact ⟨fun a ha g hg => absurd hg own_no, fun a ha g hg => absurd hg own_no, fun _ h => h.elim⟩⟩

/-- An image is put into a variable. -/
theorem OwnA.setCell' {w : World} {B : Nat} {rs : List (Value × List Int)} (h : OwnA w B rs) {a : Addr} (ha : a.block < B) (u : Value) : OwnA (w.setCell a u) B rs := ⟨fun r hr => (h.own r hr).setCell ha u, h.apart⟩
theorem OwnIm.setCell {w : World} {B : Nat} {a : Im4} {m : Img} {ts : List Value} (h : OwnIm w B a m ts) {p : Addr} (hp : p.block < B) (u : Value) : OwnIm (w.setCell p u) B a m ts := ⟨h.len, h.s.setCell hp u, h.rows.setCell' hp u⟩
theorem ImSt.put {w0 w : World} {x B : Nat} {t : TypeId} {v0 v1 v2 v3 : Value} {a : Im4} {m : Img} {ts : List Value} (hv : VarM w x t v0 v1 v2 v3) (ho : OwnIm w B a m ts) (hb : Below w0.heap.size w0 w) (hx : w0.heap.size ≤ x) (hB : x < B) (a' : Im4) (m' : Img) :
    VarM ((((w.setCell ⟨x, 0, none⟩ (.slice a'.ro m'.refs.length a'.rc)).setCell ⟨x, 1, none⟩ (.slice a'.tq m'.table.length a'.tc)).setCell ⟨x, 2, none⟩ (.slice a'.so m'.snaps.length a'.sc)).setCell ⟨x, 3, none⟩ (.slice a'.dq m'.data.length a'.dc)) x t (.slice a'.ro m'.refs.length a'.rc) (.slice a'.tq m'.table.length a'.tc) (.slice a'.so m'.snaps.length a'.sc) (.slice a'.dq m'.data.length a'.dc) ∧
    OwnIm ((((w.setCell ⟨x, 0, none⟩ (.slice a'.ro m'.refs.length a'.rc)).setCell ⟨x, 1, none⟩ (.slice a'.tq m'.table.length a'.tc)).setCell ⟨x, 2, none⟩ (.slice a'.so m'.snaps.length a'.sc)).setCell ⟨x, 3, none⟩ (.slice a'.dq m'.data.length a'.dc)) B a m ts ∧
    Below w0.heap.size w0 ((((w.setCell ⟨x, 0, none⟩ (.slice a'.ro m'.refs.length a'.rc)).setCell ⟨x, 1, none⟩ (.slice a'.tq m'.table.length a'.tc)).setCell ⟨x, 2, none⟩ (.slice a'.so m'.snaps.length a'.sc)).setCell ⟨x, 3, none⟩ (.slice a'.dq m'.data.length a'.dc)) :=
  ⟨(((hv.set0 _).set1 _).set2 _).set3 _, (((ho.setCell (p := ⟨x, 0, none⟩) hB _).setCell (p := ⟨x, 1, none⟩) hB _).setCell (p := ⟨x, 2, none⟩) hB _).setCell (p := ⟨x, 3, none⟩) hB _, (((hb.setCell (p := ⟨x, 0, none⟩) hx _).setCell (p := ⟨x, 1, none⟩) hx _).setCell (p := ⟨x, 2, none⟩) hx _).setCell (p := ⟨x, 3, none⟩) hx _⟩

end Go.Proofs.YthnpooffhopnkacGreatDoor

/- Arrays of numbers in variables: whole loads and stores. -/
namespace Go.Proofs.YthnpooffhopnkacGreatDoor
open Go.RowKit
set_option linter.unusedVariables false
set_option maxRecDepth 100000

section
variable {P : Program}
theorem wpList_store_arr {ops : Array Oper} {rest : List Oper} {op : Oper} {a : Act} {w : World} {Q : Exit → Act → World → Prop} (hgd : op.guard = none) (ty : TypeId) (x y : Operand) (ho : op.op = .store ty x y)
    (g : Nat) (hx : a.eval x = .pointer (some ⟨g, 0, none⟩)) (c' : Array Value) (hy : a.eval y = .agg c') (c : Array Value) (t : TypeId) (hb : w.heap[g]? = some (.cells c t (0, 0)))
    (hi : (P.info? ty).map (·.size) = some c'.size) (hs : c.size = c'.size) (h1 : c'.all (·.oneCell') = true)
    (h : ∀ w', w'.heap[g]? = some (.cells c' t (0, 0)) → Keep (fun k => k = g) w w' → w'.heap.size = w.heap.size → wpList P ops Q rest (a.put op.dst undef) w') : wpList P ops Q (op :: rest) a w :=
  wpList_plain hgd fun _ hK => by
    unfold Oper.wp execOp
    simp only [ho, hx, hy, Instr.storeAt, Instr.sureAddr, Sem.run_bind, Sem.run_pure, Result.andThen_ok, run_storeVar_row w g t ty c c' hb hi hs h1]
    exact hK _ _ (h _ (setRow_heap w g c c' t (0, 0) hb) ⟨rfl, rfl, rfl, by simp, fun k _ hk => setRow_other w g k c' hk⟩ (setRow_size w g c'))
theorem wpList_load_arr {ops : Array Oper} {rest : List Oper} {op : Oper} {a : Act} {w : World} {Q : Exit → Act → World → Prop} (hgd : op.guard = none) (ty : TypeId) (x : Operand) (ho : op.op = .load ty x)
    (g : Nat) (hx : a.eval x = .pointer (some ⟨g, 0, none⟩)) (c : Array Value) (t : TypeId) (d : TypeDesc) (hb : w.heap[g]? = some (.cells c t (0, 0)))
    (hu : P.underlying ty = some d) (hd : (match d with | .struct _ | .array _ _ => true | _ => false) = true) (hi : (P.info? ty).map (·.size) = some c.size)
    (h : wpList P ops Q rest (a.put op.dst (.agg c)) w) : wpList P ops Q (op :: rest) a w :=
  wpList_plain hgd fun _ hK => by
    unfold Oper.wp execOp
    simp only [ho, hx, Instr.loadAt, Instr.sureAddr, Sem.run_bind, Sem.run_pure, Result.andThen_ok, run_loadVar_row w g t ty c (0, 0) d hb hu hd hi]
    exact hK _ _ h
end

theorem intV_one (xs : List Int) : (intV xs).toArray.all (·.oneCell') = true := by
  apply all_oneCell_toArray
  intro v hv
  simp only [intV, List.mem_map] at hv
  obtain ⟨n, _, rfl⟩ := hv
  rfl
theorem intV_size (xs : List Int) : (intV xs).toArray.size = xs.length := by simp [intV]
theorem Is.range {w : World} {ao : Option Addr} {xs : List Int} (h : Is w ao xs) (h0 : 0 < xs.length) : ∃ b off, ao = some ⟨b, off, none⟩ ∧ w.rangeAt b off (intV xs) := by
  obtain ⟨b, off, rfl, _⟩ := h 0 h0
  refine ⟨b, off, rfl, fun j v hv => ?_⟩
  have hj : j < xs.length := by have := (List.getElem?_eq_some_iff.1 hv).1; rw [intV_length] at this; exact this
  obtain ⟨b', off', e, hc⟩ := h j hj
  rw [intV_get hj] at hv
  cases e
  rw [hc]; exact hv
theorem Is.of_block {w : World} {g : Nat} {t : TypeId} {xs : List Int} (h : w.heap[g]? = some (.cells (intV xs).toArray t (0, 0))) : Is w (some ⟨g, 0, none⟩) xs := fun i hi => by
  refine ⟨g, 0, rfl, ?_⟩
  rw [Nat.zero_add, Joins.cell_of_block h]
  simpa using intV_get hi
theorem arr_cell {w : World} {g : Nat} {t : TypeId} {xs : List Int} (h : w.heap[g]? = some (.cells (intV xs).toArray t (0, 0))) {k : Nat} (hk : k < xs.length) : w.cell? ⟨g, k, none⟩ = some (.int .i64 xs[k]) := by
  rw [Joins.cell_of_block h]; simpa using intV_get hk
theorem intV_set (xs : List Int) (k : Nat) (n : Int) : (intV xs).toArray.setIfInBounds k (.int .i64 n) = (intV (xs.set k n)).toArray := by simp [intV, List.map_set]
theorem arr_set {w : World} {g : Nat} {t : TypeId} {xs : List Int} (h : w.heap[g]? = some (.cells (intV xs).toArray t (0, 0))) (k : Nat) (n : Int) : (w.setCell ⟨g, k, none⟩ (.int .i64 n)).heap[g]? = some (.cells (intV (xs.set k n)).toArray t (0, 0)) := by
  rw [set_block (i := k) h (.int .i64 n), intV_set]
theorem block_of_below {w w' : World} {g : Nat} {o : Obj} (h : w.heap[g]? = some o) (hb : Below w.heap.size w w') : w'.heap[g]? = some o := by
  rw [hb.block g (Array.getElem?_eq_some_iff.1 h).1]; exact h
theorem keep_one {w0 w w' : World} {g : Nat} (h : Below w0.heap.size w0 w) (hk : Keep (fun k => k = g) w w') (hg : w0.heap.size ≤ g) : Below w0.heap.size w0 w' :=
  h.trans (hk.below h.size (fun k e => by omega))

end Go.Proofs.YthnpooffhopnkacGreatDoor

/- A law on append: a row behind an empty one, at a step that does not draw. -/
namespace Go.Proofs.YthnpooffhopnkacGreatDoor
open Go.RowKit
set_option linter.unusedVariables false
section
variable {P : Program}
theorem wpList_append_fresh {w : World} {ops : Array Oper} {rest : List Oper} {o : Oper} {a : Act} {Q : Exit → Act → World → Prop} (hgd : o.guard = none) (s x : Operand) (t : TypeId)
    (ho : o.op = .call { callee := .builtin .append, args := #[s, x], argTypes := #[t, t] })
    (e : TypeId) (i : TypeInfo) (z : Value) (size bytes : Nat) (ht : P.underlying t = some (.slice e)) (hi : P.info? e = some i) (hz : i.zero = some z)
    (hsize : i.size = size) (hby : i.bytes = bytes) (hzs : z.cells.size = size) (hsz : 0 < size)
    (hs0 : isFresh (a.eval s) = true) (so : Option Addr) (m c : Nat) (news : List Value) (hx : a.eval x = .slice so m c) (hn : news.length = m * size)
    (hc : 0 < m → ∃ ad, so = some ad ∧ ∀ j u, news[j]? = some u → w.cell? (ad.add j) = some u) (b1 : m ≤ maxLen) (b2 : m * bytes ≤ 140737488355328)
    (hK : ∀ ao cap w', OwnR w' w.heap.size e size (.slice ao m cap) m news → w.grownBy w' none → wpList P ops Q rest (a.put o.dst (.slice ao m cap)) w') : wpList P ops Q (o :: rest) a w := by
  refine wpList_plain hgd fun K hK' => ?_
  obtain ⟨d, hs⟩ := isFresh_form hs0
  obtain ⟨ao, cap, w', hrun, r1, r2⟩ := run_append_fresh (P := P) w t o.type e i z size bytes ht hi hz hsize hby hzs hsz d so m c news hn hc b1 b2
  unfold Oper.wp
  simp [execOp, ho, resolve, invoke, builtin, hs, hx, hrun, Result.andThen]
  exact hK' _ _ (hK _ _ _ r1 r2)
end
end Go.Proofs.YthnpooffhopnkacGreatDoor

/- Contracts of the model's counts: RefsOK, l08Ask, l08Add, RefUp, RefDown. -/
namespace Go.Proofs.YthnpooffhopnkacGreatDoor
open Go.RowKit
set_option linter.unusedVariables false
set_option maxRecDepth 100000

set_option maxHeartbeats 800000 in
theorem refsOK_spec (ao : Option Addr) (cap : Nat) (xs : List Int) (w : World) (hl : xs.length ≤ maxLen) (hc : Is w ao xs) :
    Calls Tryz.prog 110 #[.slice ao xs.length cap] w fun e w' => e = .returned (.bool (ctB xs)) ∧ w' = w := by
  have HC := hide hc
  clear hc
  unfold maxLen at hl
  by_cases hlong : 4096 < xs.length
  · have HF := hide (ctB_nolen (xs := xs) (by omega))
    go_enter Tryz.func110, Tryz.ntmps110
    go_wp2
    go_ret
    exact ⟨ret_bool (unhide HF).symm, rfl⟩
  go_enter Tryz.func110, Tryz.ntmps110
  go_wp2
  go_loop [3] (fun i => ∃ k : Nat, k ≤ xs.length ∧ i = .int .i64 k ∧ Hid (∀ j (h : j < xs.length), j < k → cnt1 xs[j] = true)) (fun i => xs.length - (intOf i).toNat)
  case atStart => exact ⟨0, Nat.zero_le _, rfl, hide (fun j _ h => by omega)⟩
  case round =>
    obtain ⟨k, hk, rfl, HA⟩ := hrel
    by_cases hlt : k < xs.length
    · obtain ⟨b, off, rfl, hc⟩ := unhide HC k hlt
      by_cases hn : cnt1 xs[k] = true
      · have HN := hide (all_succ hlt (unhide HA) hn)
        have hn' : betw xs[k] 0 15 = true := hn
        clear hn
        go_wp2_with (go_at_call 85; refine (in_any _ _ _ _).mono ?_; rintro e w' ⟨rfl, rfl⟩)
        go_round
        case rel => exact ⟨k + 1, by omega, by go_num, HN⟩
        case measure => simp [intOf]; omega
      · have hn0 : cnt1 xs[k] = false := by simpa using hn
        have hn' : betw xs[k] 0 15 = false := hn0
        have HF := hide (ctB_noat hlt hn0)
        clear hn hn0
        go_wp2_with (go_at_call 85; refine (in_any _ _ _ _).mono ?_; rintro e w' ⟨rfl, rfl⟩)
        go_ret
        exact ⟨ret_bool (unhide HF).symm, rfl⟩
    · have HF := hide (ctB_all (fun j h => unhide HA j h (by omega)))
      go_wp2
      go_ret
      exact ⟨ret_bool (by rw [unhide HF, Bool.eq_iff_iff]; simp; omega), rfl⟩

end Go.Proofs.YthnpooffhopnkacGreatDoor

/- Contracts of the model's l08Free, FreeCluster, RefSum. -/
namespace Go.Proofs.YthnpooffhopnkacGreatDoor
open Go.RowKit
set_option linter.unusedVariables false
set_option maxRecDepth 100000

theorem ctF_zeroS {xs : List Int} (h0 : ctF xs = 0) : ctB xs = true := by
  rcases ctF_cases xs with ⟨_, h, _⟩ | ⟨_, _, h, _⟩ | ⟨h, _⟩
  · rw [h0] at h; cases h
  · rw [h0] at h; cases h
  · exact h
/-- What l08Free answers. -/
def frI (xs : List Int) : Int := if frN xs < xs.length then (frN xs : Int) else -1
theorem l08Free_any (ao : Option Addr) (cap : Nat) (xs : List Int) (w : World) (hl : xs.length ≤ maxLen) (hc : Is w ao xs) :
    Calls Tryz.prog 98 #[.slice ao xs.length cap] w fun e w' => e = .returned (.int .i64 (frI xs)) ∧ w' = w := by
  have HC := hide hc
  clear hc
  unfold maxLen at hl
  go_enter Tryz.func98, Tryz.ntmps98
  go_wp2
  go_loop [3] (fun i => ∃ k : Nat, k ≤ xs.length ∧ i = .int .i64 k ∧ Hid (∀ j (hj : j < xs.length), j < k → decide (xs[j] ≠ 0) = true)) (fun i => xs.length - (intOf i).toNat)
  case atStart => exact ⟨0, Nat.zero_le _, rfl, hide (fun j _ h => by omega)⟩
  case round =>
    obtain ⟨k, hk, rfl, HA⟩ := hrel
    by_cases hlt : k < xs.length
    · obtain ⟨b, off, rfl, hcl⟩ := unhide HC k hlt
      by_cases hz : xs[k] = 0
      · have HE : Hid (frI xs = (k : Int)) := hide (by have e := fr_here hlt hz (unhide HA); rw [frI, if_pos (by omega), e])
        have bz : (xs[k] == 0) = true := by simp [hz]
        clear hz
        go_wp2
        go_ret
        exact ⟨ret_int (unhide HE).symm, rfl⟩
      · have HN := hide (all_succ (p := fun n => decide (n ≠ 0)) hlt (unhide HA) (by simpa using hz))
        have bz : (xs[k] == 0) = false := by simp [hz]
        clear hz
        go_wp2
        go_round
        case rel => exact ⟨k + 1, by omega, by go_num, HN⟩
        case measure => simp [intOf]; omega
    · have HE : Hid (frI xs = -1) := hide (if_neg (fr_none (fun j hj => unhide HA j hj (by omega))))
      go_wp2
      go_ret
      exact ⟨ret_int (unhide HE).symm, rfl⟩

end Go.Proofs.YthnpooffhopnkacGreatDoor

/- A region that draws its order, met by an invariant: one step law an operation, whatever order is drawn. -/
namespace Go.Proofs.YthnpooffhopnkacGreatDoor
open Go.RowKit
set_option linter.unusedVariables false

section
variable {P : Program}
/-- Every operation waits for earlier ones alone. -/
def linB (l : List Oper) : Bool := (List.range l.length).all fun i => ((l[i]?).map fun o => o.after.all fun e => decide (e.on < i)).getD true
theorem linB_spec {l : List Oper} (h : linB l = true) {i : Nat} {o : Oper} (hi : l[i]? = some o) {e : Edge} (he : e ∈ o.after) : e.on < i := by
  have hl := (List.getElem?_eq_some_iff.1 hi).1
  have := List.all_eq_true.1 h i (List.mem_range.2 hl)
  rw [hi] at this
  simp only [Option.map_some, Option.getD_some] at this
  have := Array.all_eq_true_iff_forall_mem.1 this e he
  exact of_decide_eq_true this

/-- No operation is guarded. -/
def noG (l : List Oper) : Bool := l.all fun o => o.guard.isNone
theorem noG_spec {l : List Oper} (h : noG l = true) (i : Nat) (o : Oper) (hi : l[i]? = some o) : o.guard = none := by
  have := List.all_eq_true.1 h o (List.mem_of_getElem? hi)
  simpa using this
/-- What has been done, and one more. -/
def updD (d : Nat → Bool) (i : Nat) : Nat → Bool := fun j => d j || decide (j = i)

theorem wp_region_inv {id : Nat} {Q : Exit → Act → World → Prop} {a : Act} {w : World} {l : List Oper} (I : (Nat → Bool) → Act → World → Prop) (hm : P.follows .mixedOrders = true) (hl : linB l = true)
    (hg : ∀ (i : Nat) (o : Oper), l[i]? = some o → o.guard = none)
    (h0 : I (fun _ => false) a { w with drawn := w.drawn + 1 })
    (hs : ∀ (d : Nat → Bool) (a : Act) (w : World) (i : Nat) (o : Oper), I d a w → l[i]? = some o → d i = false → (∀ e ∈ o.after, Region.binds .any e = true → d e.on = true) → ∀ K : Act → World → Prop, (∀ a' w', I (updD d i) a' w' → K a' w') → o.wp P a w K Q)
    (he : ∀ (d : Nat → Bool) (a : Act) (w : World), I d a w → (∀ i, i < l.length → d i = true) → Q .normal a w) : (Code.region id l.toArray true).wp P Q a w := by
  refine wp_region_any hm ?_
  have key : ∀ (fuel : Nat) (listed : Array Bool) (a : Act) (w : World), listed.size = l.length → ((List.range l.length).filter fun i => !listed.getD i true).length ≤ fuel → I (fun j => listed.getD j true && decide (j < l.length)) a w → wpAny P .any l.toArray Q fuel listed a w := by
    intro fuel
    induction fuel with
    | zero =>
      intro listed a w hsz hn hI
      have hall : ∀ i, i < l.length → listed.getD i true = true := fun i hi => by
        cases h : listed.getD i true with
        | true => rfl
        | false =>
          have : i ∈ (List.range l.length).filter fun i => !listed.getD i true := List.mem_filter.2 ⟨List.mem_range.2 hi, by rw [h]; rfl⟩
          have := List.length_pos_of_mem this
          omega
      refine ⟨?_, he _ _ _ hI (fun i hi => by rw [hall i hi]; simp [hi])⟩
      rw [List.eq_nil_iff_forall_not_mem]
      intro i hi
      obtain ⟨h1, o, ho, _⟩ := mem_ready.1 hi
      have hil : i < l.length := by have := (Array.getElem?_eq_some_iff.1 ho).1; simpa using this
      rw [hall i hil] at h1
      cases h1
    | succ fuel ih =>
      intro listed a w hsz hn hI
      refine ⟨fun hr => he _ _ _ hI ?_, fun i hi => ?_⟩
      · have : ∀ n, ∀ i, i < n → i < l.length → listed.getD i true = true := by
          intro n
          induction n with
          | zero => intro i hi; omega
          | succ n ihn =>
            intro i hi hil
            by_cases hin : i < n
            · exact ihn i hin hil
            obtain rfl : i = n := by omega
            cases h : listed.getD i true with
            | true => rfl
            | false =>
              have hm' : i ∈ Region.ready .any l.toArray listed := mem_ready.2 ⟨h, l[i], by simp [hil], fun e he hb => by
                have hlt := linB_spec hl (List.getElem?_eq_getElem hil) he
                have h1 := ihn e.on hlt (by omega)
                have hz : e.on < listed.size := by omega
                rw [Array.getD_eq_getD_getElem?, Array.getElem?_eq_getElem hz] at h1 ⊢
                simpa only [Option.getD_some] using h1⟩
              rw [hr] at hm'
              cases hm'
        intro i hil
        rw [this (i + 1) i (by omega) hil]
        simp [hil]
      · obtain ⟨h1, o, ho, hp⟩ := mem_ready.1 hi
        have hil : i < l.length := by have := (Array.getElem?_eq_some_iff.1 ho).1; simpa using this
        have hoL : l[i]? = some o := by simpa using ho
        unfold wpOp
        simp only [ho]
        have hw : Region.wanted o (yielded l.toArray a.tmps) = true := by simp [Region.wanted, hg i o hoL]
        rw [if_pos hw]
        refine .inl (hs _ a w i o hI hoL (by rw [h1]; rfl) (fun e he hb => ?_) _ (fun a' w' hI' => ?_))
        · have h2 := hp e he hb
          have hlt := linB_spec hl hoL he
          have : e.on < listed.size := by omega
          rw [Array.getD_eq_getD_getElem?, Array.getElem?_eq_getElem this] at h2 ⊢
          simp only [Option.getD_some] at h2 ⊢
          rw [h2]
          simp
          omega
        · refine ih _ a' w' (by simpa using hsz) ?_ ?_
          · have hlt : ((List.range l.length).filter fun j => !(listed.setIfInBounds i true).getD j true).length < ((List.range l.length).filter fun j => !listed.getD j true).length := by
              have hsub : ((List.range l.length).filter fun j => !(listed.setIfInBounds i true).getD j true) = ((List.range l.length).filter fun j => !listed.getD j true).filter fun j => decide (j ≠ i) := by
                rw [List.filter_filter]
                congr 1
                funext j
                by_cases hji : j = i
                · subst hji
                  simp [Array.getD_eq_getD_getElem?, hsz, hil]
                · have : i ≠ j := fun e => hji e.symm
                  simp [Array.getD_eq_getD_getElem?, this, hji]
              rw [hsub]
              refine Nat.lt_of_le_of_ne (List.length_filter_le _ _) (fun e => ?_)
              have := List.length_filter_eq_length_iff.1 e i (List.mem_filter.2 ⟨List.mem_range.2 hil, by rw [h1]; rfl⟩)
              simp at this
            omega
          · have e : (fun j => (listed.setIfInBounds i true).getD j true && decide (j < l.length)) = updD (fun j => listed.getD j true && decide (j < l.length)) i := by
              funext j
              unfold updD
              by_cases hji : j = i
              · subst hji
                simp [Array.getD_eq_getD_getElem?, hsz, hil]
              · have : i ≠ j := fun e => hji e.symm
                simp [Array.getD_eq_getD_getElem?, this, hji]
            rw [e]
            exact hI'
  refine key _ _ _ _ (by simp) ?_ ?_
  · refine Nat.le_trans (List.length_filter_le _ _) ?_
    simp
  · have e : (fun j => (Array.replicate l.toArray.size false).getD j true && decide (j < l.length)) = fun _ => false := by
      funext j
      by_cases hj : j < l.length
      · simp [Array.getD_eq_getD_getElem?, hj]
      · simp [hj]
    rw [e]
    exact h0
/-- What has been done is closed: whatever an operation waits for has been done before it. -/
def Closed (l : List Oper) (d : Nat → Bool) : Prop := ∀ (j : Nat) (o : Oper), l[j]? = some o → d j = true → ∀ e ∈ o.after, Region.binds .any e = true → d e.on = true
/-- The second has been done where the first has. -/
def reachB (l : List Oper) : Nat → Nat → Nat → Bool
  | 0, j, i => decide (j = i)
  | f + 1, j, i => decide (j = i) || ((l[j]?).map fun o => o.after.any fun e => Region.binds .any e && reachB l f e.on i).getD false
theorem reach_done {l : List Oper} {d : Nat → Bool} (hc : Closed l d) : ∀ {f j i : Nat}, reachB l f j i = true → d j = true → d i = true
  | 0, j, i, h, hj => by
    simp only [reachB, decide_eq_true_eq] at h
    rwa [← h]
  | f + 1, j, i, h, hj => by
    simp only [reachB, Bool.or_eq_true, decide_eq_true_eq] at h
    rcases h with h | h
    · rwa [← h]
    · cases ho : l[j]? with
      | none => rw [ho] at h; simp at h
      | some o =>
        rw [ho] at h
        simp only [Option.map_some, Option.getD_some] at h
        rw [Array.any_eq_true] at h
        obtain ⟨n, hn, he⟩ := h
        rw [Bool.and_eq_true] at he
        exact reach_done hc he.2 (hc j o ho hj o.after[n] (Array.getElem_mem hn) he.1)
theorem not_yet {l : List Oper} {d : Nat → Bool} (hc : Closed l d) (f : Nat) {j i : Nat} (hr : reachB l f j i = true) (hi : d i = false) : d j = false := by
  cases h : d j with
  | false => rfl
  | true => rw [reach_done hc hr h] at hi; cases hi
theorem wp_region_inv2 {id : Nat} {Q : Exit → Act → World → Prop} {a : Act} {w : World} {l : List Oper} (I : (Nat → Bool) → Act → World → Prop) (hm : P.follows .mixedOrders = true) (hl : linB l = true)
    (hg : ∀ (i : Nat) (o : Oper), l[i]? = some o → o.guard = none)
    (h0 : I (fun _ => false) a { w with drawn := w.drawn + 1 })
    (hs : ∀ (d : Nat → Bool) (a : Act) (w : World) (i : Nat) (o : Oper), Closed l d → I d a w → l[i]? = some o → d i = false → (∀ e ∈ o.after, Region.binds .any e = true → d e.on = true) → ∀ K : Act → World → Prop, (∀ a' w', I (updD d i) a' w' → K a' w') → o.wp P a w K Q)
    (he : ∀ (d : Nat → Bool) (a : Act) (w : World), I d a w → (∀ i, i < l.length → d i = true) → Q .normal a w) : (Code.region id l.toArray true).wp P Q a w := by
  refine wp_region_inv (fun d a w => Closed l d ∧ I d a w) hm hl hg ⟨fun j o _ h => (by cases h), h0⟩ (fun d a w i o hI ho hd hp K hK => ?_) (fun d a w hI hall => he d a w hI.2 hall)
  refine hs d a w i o hI.1 hI.2 ho hd hp K (fun a' w' hI' => hK a' w' ⟨fun j oj hj hd' e he' hb => ?_, hI'⟩)
  simp only [updD, Bool.or_eq_true, decide_eq_true_eq] at hd' ⊢
  rcases hd' with hd' | rfl
  · exact .inl (hI.1 j oj hj hd' e he' hb)
  · rw [ho] at hj
    cases hj
    exact .inl (hp e he' hb)
end

end Go.Proofs.YthnpooffhopnkacGreatDoor
