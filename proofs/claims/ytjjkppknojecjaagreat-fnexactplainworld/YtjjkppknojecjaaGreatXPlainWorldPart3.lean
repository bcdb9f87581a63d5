import Derived.Test.YtjjkppknojecjaaGreatRows
import Derived.Test.YtjjkppknojecjaaGreatXPlainWorldPart1
import Derived.Test.YtjjkppknojecjaaGreatXPlainWorldPart2
import Derived.WalkKit
import Derived.WalkSpells
import Derived.KernelRfl
import Derived.BigQuiet
import Derived.Deep.QuietTactic
import Derived.Deep.RegionWith
import Derived.Laws.MakeOwn
import Derived.Laws.OwnMore
import Derived.Deep.MidRow
import Derived.Deep.RegionLawGrows
import Derived.Deep.RegionHeld3
import Derived.LoopN
import Derived.Deep.CutRange
import Derived.Lib.SmallJoins
import Derived.Laws.ResultCell

namespace Go.Proofs.YtjjkppknojecjaaGreat
open Go.RowKit
set_option linter.unusedVariables false
set_option maxRecDepth 100000

def imNew (n : Nat) : Img := ⟨zero24, List.replicate n 0, [], zero24⟩
def niF (n : Int) : Int := if betw n 0 12 = true then 0 else 4
def im0 : Img := ⟨[], [], [], []⟩
def niI (n : Int) : Img := if niF n = 0 then imNew n.toNat else im0
theorem mkZ (n : Nat) (hn : n ≤ 1000) : ∀ W : World, (Instr.makeSlice 30 (.int .i64 (n : Int)) (.int .i64 (n : Int))).run Tryz.prog W = .ok (.slice (some ⟨W.heap.size, 0, none⟩) n n) (W.alloc (.cells (intV (List.replicate n 0)).toArray 3)) := by
  obtain ⟨i0, hi, hz0, hz1, hz2⟩ := info_parts infoIn
  intro W
  have := run_make (P := Tryz.prog) W 30 3 i0 (.int .i64 0) Tryz.underlying30 hi hz0 .i64 .i64 n n (by omega) (by omega) (by rw [hz2]; omega) (by omega)
  rw [hz1] at this
  have e : madeCells #[Value.int .i64 0] n = (intV (List.replicate n 0)).toArray := by
    apply Array.toList_inj.1
    rw [made_rep]
    simp [intV]
  rw [show (Value.int .i64 0).cells = #[Value.int .i64 0] from rfl, Int.toNat_natCast, Nat.mul_one, e] at this
  exact this
theorem mk24 : ∀ W : World, (Instr.makeSlice 30 (.int .i64 24) (.int .i64 24)).run Tryz.prog W = .ok (.slice (some ⟨W.heap.size, 0, none⟩) 24 24) (W.alloc (.cells (intV zero24).toArray 3)) := mkZ 24 (by omega)

section
variable (w : World) (r a b c d : Obj)
theorem chain0 : (((((w.alloc r).alloc a).alloc b).alloc c).alloc d).drew.heap[w.heap.size]? = some r := blk_belowI (blk_belowI (blk_belowI (blk_belowI (blk_belowI (heap_alloc_new w r) (Joins.below_alloc1 _ _)) (Joins.below_alloc1 _ _)) (Joins.below_alloc1 _ _)) (Joins.below_alloc1 _ _)) (Below.refl _ _).drew
theorem chain1 : (((((w.alloc r).alloc a).alloc b).alloc c).alloc d).drew.heap[w.heap.size + 1]? = some a := by
  have h := heap_alloc_new (w.alloc r) a
  rw [World.size_alloc] at h
  exact blk_belowI (blk_belowI (blk_belowI (blk_belowI h (Joins.below_alloc1 _ _)) (Joins.below_alloc1 _ _)) (Joins.below_alloc1 _ _)) (Below.refl _ _).drew
theorem chain2 : (((((w.alloc r).alloc a).alloc b).alloc c).alloc d).drew.heap[w.heap.size + 1 + 1]? = some b := by
  have h := heap_alloc_new ((w.alloc r).alloc a) b
  rw [World.size_alloc, World.size_alloc] at h
  exact blk_belowI (blk_belowI (blk_belowI h (Joins.below_alloc1 _ _)) (Joins.below_alloc1 _ _)) (Below.refl _ _).drew
theorem chain3 : (((((w.alloc r).alloc a).alloc b).alloc c).alloc d).drew.heap[w.heap.size + 1 + 1 + 1]? = some c := by
  have h := heap_alloc_new (((w.alloc r).alloc a).alloc b) c
  rw [World.size_alloc, World.size_alloc, World.size_alloc] at h
  exact blk_belowI (blk_belowI h (Joins.below_alloc1 _ _)) (Below.refl _ _).drew
theorem chain4 : (((((w.alloc r).alloc a).alloc b).alloc c).alloc d).drew.heap[w.heap.size + 1 + 1 + 1 + 1]? = some d := by
  have h := heap_alloc_new ((((w.alloc r).alloc a).alloc b).alloc c) d
  rw [World.size_alloc, World.size_alloc, World.size_alloc, World.size_alloc] at h
  exact blk_belowI h (Below.refl _ _).drew
theorem chainB : Below w.heap.size w (((((w.alloc r).alloc a).alloc b).alloc c).alloc d).drew := (fr (fr (Joins.below_alloc3 w r a b) (Joins.below_alloc1 _ c)) (Joins.below_alloc1 _ d)).drew
end
theorem own_made {W : World} {B g n : Nat} {xs : List Int} (h : W.heap[g]? = some (.cells (intV xs).toArray 3 (0, 0))) (hB : B ≤ g) (hn : xs.length = n) (hl : n ≤ 1000) : OwnN W B (.slice (some ⟨g, 0, none⟩) n n) xs := by
  refine OwnN.mk' ?_ hn
  subst hn
  rcases Nat.eq_zero_or_pos xs.length with h0 | h0
  · refine .inl ⟨h0, ?_, some ⟨g, 0, none⟩, by rw [h0]⟩
    rw [List.eq_nil_of_length_eq_zero h0]; rfl
  · exact .inr ⟨h0, by rw [intV_length]; omega, .inr ⟨g, xs.length, (intV xs).toArray, rfl, hB, h, Nat.le_refl _, by unfold maxLen; omega, by simp [intV_length], by rw [List.take_of_length_le (by simp [intV_length])]⟩⟩
theorem own_ne {v : Value} {g h n m c d : Nat} (hne : g ≠ h) : ∀ x, Own (.slice (some ⟨g, 0, none⟩) n c) x → ¬ Own (.slice (some ⟨h, 0, none⟩) m d) x := by
  rintro x ⟨a, k, e, h1, h2⟩ ⟨a', k', e', h1', h2'⟩
  cases h1
  cases h1'
  simp only at h2 h2'
  omega
theorem new_leaf {w W : World} {n g0 g1 gs g3 : Nat} (hn : n ≤ 1000) (h0 : W.heap[g0]? = some (.cells (intV zero24).toArray 3 (0, 0))) (h1 : W.heap[g1]? = some (.cells (intV (List.replicate n 0)).toArray 3 (0, 0))) (h3 : W.heap[g3]? = some (.cells (intV zero24).toArray 3 (0, 0)))
    (n1 : g0 ≠ g1) (n2 : g0 ≠ g3) (n3 : g1 ≠ g3) (b0 : w.heap.size ≤ g0) (b1 : w.heap.size ≤ g1) (b3 : w.heap.size ≤ g3) (hb : Below w.heap.size w W) :
    ∃ a, Ending.returned (.agg #[.slice (some ⟨g0, 0, none⟩) 24 24, .slice (some ⟨g1, 0, none⟩) n n, .slice (some ⟨gs, 0, none⟩) 0 0, .slice (some ⟨g3, 0, none⟩) 24 24]) = .returned (imV a (imNew n)) ∧ OwnIm W w.heap.size a (imNew n) [] ∧ Below w.heap.size w W := by
  have hl : (imNew n).table.length = n := by simp [imNew]
  refine ⟨⟨some ⟨g0, 0, none⟩, 24, some ⟨g1, 0, none⟩, n, some ⟨gs, 0, none⟩, 0, some ⟨g3, 0, none⟩, 24⟩, by simp only [imV, hl]; rfl, ⟨rfl, .inl ⟨rfl, rfl, _, _, rfl⟩, ?_⟩, hb⟩
  have o0 := own_made (B := w.heap.size) (n := 24) h0 b0 rfl (by omega)
  have o1 := own_made (B := w.heap.size) (n := n) h1 b1 (by simp) hn
  have o3 := own_made (B := w.heap.size) (n := 24) h3 b3 rfl (by omega)
  have e : imRows ⟨some ⟨g0, 0, none⟩, 24, some ⟨g1, 0, none⟩, n, some ⟨gs, 0, none⟩, 0, some ⟨g3, 0, none⟩, 24⟩ (imNew n) [] = [(.slice (some ⟨g0, 0, none⟩) 24 24, zero24), (.slice (some ⟨g1, 0, none⟩) n n, List.replicate n 0), (.slice (some ⟨g3, 0, none⟩) 24 24, zero24)] := by
    simp only [imRows, hl]; rfl
  rw [e]
  refine ⟨fun r hr => ?_, ?_⟩
  · simp only [List.mem_cons, List.not_mem_nil, or_false] at hr
    rcases hr with rfl | rfl | rfl
    · exact o0
    · exact o1
    · exact o3
  · simp only [List.pairwise_cons, List.mem_cons, List.not_mem_nil, or_false, forall_eq_or_imp, forall_eq, List.Pairwise.nil, and_true]
    exact ⟨⟨own_ne (v := undef) n1, own_ne (v := undef) n2⟩, own_ne (v := undef) n3, fun _ h => h.elim⟩
theorem res_im {fn : Func} {p : Tmp} {v0 v1 v2 v3 : Value} {x : Nat} {W : World} {tmps : Array Value} (h : fn.results = #[.cell p 68]) (hp : tmps.getD p undef = .pointer (some ⟨x, 0, none⟩)) (hv : W.heap[x]? = some (.cells #[v0, v1, v2, v3] 68 (0, 0))) :
    (results fn tmps).run Tryz.prog W = .ok (.agg #[v0, v1, v2, v3]) W := by
  obtain ⟨c0, c1, c2, c3⟩ := VarM.cells (t := 68) hv
  rw [Array.getD_eq_getD_getElem?] at hp
  simp [results, h, hp, go_sem, c0, c1, c2, c3]

set_option maxHeartbeats 6400000 in
theorem l10New_any (n : Nat) (w : World) (hn : n ≤ 1000) :
    Calls Tryz.prog 62 #[.int .i64 n] w fun e w' => ∃ a, e = .returned (imV a (imNew n)) ∧ OwnIm w' w.heap.size a (imNew n) [] ∧ Below w.heap.size w w' := by
  have h24 := mk24
  have hmn := mkZ n hn
  have HL := hide (fun (W : World) (g0 g1 gs g3 : Nat) => new_leaf (w := w) (W := W) (n := n) (g0 := g0) (g1 := g1) (gs := gs) (g3 := g3) hn)
  generalize (intV zero24).toArray = Z24 at *
  generalize (intV (List.replicate n 0)).toArray = ZN at *
  go_enter Tryz.func62, Tryz.ntmps62
  go_wp2
  go_region
  all_goals
    go_wp2
    refine bodyPost_ret (res_im Tryz.results62 rfl (chain0 w _ _ _ _ _)) rfl ?_
    exact unhide HL _ _ _ _ _ (by first | exact chain1 _ _ _ _ _ _ | exact chain2 _ _ _ _ _ _ | exact chain3 _ _ _ _ _ _ | exact chain4 _ _ _ _ _ _) (by first | exact chain1 _ _ _ _ _ _ | exact chain2 _ _ _ _ _ _ | exact chain3 _ _ _ _ _ _ | exact chain4 _ _ _ _ _ _) (by first | exact chain1 _ _ _ _ _ _ | exact chain2 _ _ _ _ _ _ | exact chain3 _ _ _ _ _ _ | exact chain4 _ _ _ _ _ _) (by omega) (by omega) (by omega) (by omega) (by omega) (by omega) (chainB _ _ _ _ _ _)

theorem res_ic {fn : Func} {p u : Tmp} {v0 v1 v2 v3 z : Value} {x : Nat} {W : World} {tmps : Array Value} (h : fn.results = #[.cell p 68, .tmp u]) (hp : tmps.getD p undef = .pointer (some ⟨x, 0, none⟩)) (hu : tmps.getD u undef = z) (hv : W.heap[x]? = some (.cells #[v0, v1, v2, v3] 68 (0, 0))) :
    (results fn tmps).run Tryz.prog W = .ok (.tuple #[.agg #[v0, v1, v2, v3], z]) W := by
  obtain ⟨c0, c1, c2, c3⟩ := VarM.cells (t := 68) hv
  rw [Array.getD_eq_getD_getElem?] at hp hu
  simp [results, h, hp, hu, go_sem, c0, c1, c2, c3]
theorem OwnIm.zero (w : World) (B : Nat) : OwnIm w B ⟨none, 0, none, 0, none, 0, none, 0⟩ im0 [] := ⟨rfl, .inl ⟨rfl, rfl, _, _, rfl⟩, by
  unfold imRows
  refine ⟨fun r hr => ?_, ?_⟩
  · simp only [im0, List.map_nil, List.zip_nil_right, List.mem_cons, List.not_mem_nil, or_false] at hr
    rcases hr with rfl | rfl | rfl <;> exact OwnN.nil _ _ _
  · simp only [im0, List.map_nil, List.zip_nil_right, List.pairwise_cons, List.mem_cons, List.not_mem_nil, or_false, List.Pairwise.nil, and_true]
    exact ⟨fun a ha g hg => absurd hg own_no, fun a ha g hg => absurd hg own_no, fun _ h => h.elim⟩⟩

theorem OwnA.setCell' {w : World} {B : Nat} {rs : List (Value × List Int)} (h : OwnA w B rs) {a : Addr} (ha : a.block < B) (u : Value) : OwnA (w.setCell a u) B rs := ⟨fun r hr => (h.own r hr).setCell ha u, h.apart⟩
theorem OwnIm.setCell {w : World} {B : Nat} {a : Im4} {m : Img} {ts : List Value} (h : OwnIm w B a m ts) {p : Addr} (hp : p.block < B) (u : Value) : OwnIm (w.setCell p u) B a m ts := ⟨h.len, h.s.setCell hp u, h.rows.setCell' hp u⟩
theorem ImSt.put {w0 w : World} {x B : Nat} {t : TypeId} {v0 v1 v2 v3 : Value} {a : Im4} {m : Img} {ts : List Value} (hv : VarM w x t v0 v1 v2 v3) (ho : OwnIm w B a m ts) (hb : Below w0.heap.size w0 w) (hx : w0.heap.size ≤ x) (hB : x < B) (a' : Im4) (m' : Img) :
    VarM ((((w.setCell ⟨x, 0, none⟩ (.slice a'.ro m'.refs.length a'.rc)).setCell ⟨x, 1, none⟩ (.slice a'.tq m'.table.length a'.tc)).setCell ⟨x, 2, none⟩ (.slice a'.so m'.snaps.length a'.sc)).setCell ⟨x, 3, none⟩ (.slice a'.dq m'.data.length a'.dc)) x t (.slice a'.ro m'.refs.length a'.rc) (.slice a'.tq m'.table.length a'.tc) (.slice a'.so m'.snaps.length a'.sc) (.slice a'.dq m'.data.length a'.dc) ∧
    OwnIm ((((w.setCell ⟨x, 0, none⟩ (.slice a'.ro m'.refs.length a'.rc)).setCell ⟨x, 1, none⟩ (.slice a'.tq m'.table.length a'.tc)).setCell ⟨x, 2, none⟩ (.slice a'.so m'.snaps.length a'.sc)).setCell ⟨x, 3, none⟩ (.slice a'.dq m'.data.length a'.dc)) B a m ts ∧
    Below w0.heap.size w0 ((((w.setCell ⟨x, 0, none⟩ (.slice a'.ro m'.refs.length a'.rc)).setCell ⟨x, 1, none⟩ (.slice a'.tq m'.table.length a'.tc)).setCell ⟨x, 2, none⟩ (.slice a'.so m'.snaps.length a'.sc)).setCell ⟨x, 3, none⟩ (.slice a'.dq m'.data.length a'.dc)) :=
  ⟨(((hv.set0 _).set1 _).set2 _).set3 _, (((ho.setCell (p := ⟨x, 0, none⟩) hB _).setCell (p := ⟨x, 1, none⟩) hB _).setCell (p := ⟨x, 2, none⟩) hB _).setCell (p := ⟨x, 3, none⟩) hB _, (((hb.setCell (p := ⟨x, 0, none⟩) hx _).setCell (p := ⟨x, 1, none⟩) hx _).setCell (p := ⟨x, 2, none⟩) hx _).setCell (p := ⟨x, 3, none⟩) hx _⟩

end Go.Proofs.YtjjkppknojecjaaGreat

namespace Go.Proofs.YtjjkppknojecjaaGreat
open Go.RowKit
set_option linter.unusedVariables false

def Bs (w : World) (ao : Option Addr) (n : Nat) : Prop := ∀ i, i < n → ∃ b off x, ao = some ⟨b, off, none⟩ ∧ w.cell? ⟨b, off + i, none⟩ = some (.int .u8 x) ∧ 0 ≤ x ∧ x ≤ 255
theorem Bs.below {w w' : World} {ao : Option Addr} {n : Nat} (h : Bs w ao n) (hb : Below w.heap.size w w') : Bs w' ao n := fun i hi => by
  obtain ⟨b, off, x, e, hc, h0, h1⟩ := h i hi
  exact ⟨b, off, x, e, (hb.cell (p := ⟨b, off + i, none⟩) (World.block_lt_of_cell? _ _ hc)).trans hc, h0, h1⟩
theorem set_block {w : World} {b i : Nat} {c : Array Value} {t : TypeId} (h : w.heap[b]? = some (.cells c t (0, 0))) (v : Value) : (w.setCell ⟨b, i, none⟩ v).heap[b]? = some (.cells (c.setIfInBounds i v) t (0, 0)) := by
  have hb : b < w.heap.size := (Array.getElem?_eq_some_iff.1 h).1
  have hg : w.heap[b] = .cells c t (0, 0) := by rw [Array.getElem?_eq_getElem hb] at h; simpa using h
  have hm : b < (w.setCell ⟨b, i, none⟩ v).heap.size := by simpa using hb
  rw [Array.getElem?_eq_getElem hm]
  congr 1
  unfold World.setCell
  simp only [Array.getElem_modify, if_true, hg]
  simp
theorem Keep.drew {S : Nat → Prop} {a b : World} (h : Keep S a b) : Keep S a b.drew := ⟨h.os, h.tape, h.output, h.size, h.block⟩

end Go.Proofs.YtjjkppknojecjaaGreat

namespace Go.Proofs.YtjjkppknojecjaaGreat
open Go.RowKit
set_option linter.unusedVariables false
set_option maxRecDepth 100000

section
variable {P : Program}
theorem wpList_load_arr {ops : Array Oper} {rest : List Oper} {op : Oper} {a : Act} {w : World} {Q : Exit → Act → World → Prop} (hgd : op.guard = none) (ty : TypeId) (x : Operand) (ho : op.op = .load ty x)
    (g : Nat) (hx : a.eval x = .pointer (some ⟨g, 0, none⟩)) (c : Array Value) (t : TypeId) (d : TypeDesc) (hb : w.heap[g]? = some (.cells c t (0, 0)))
    (hu : P.underlying ty = some d) (hd : (match d with | .struct _ | .array _ _ => true | _ => false) = true) (hi : (P.info? ty).map (·.size) = some c.size)
    (h : wpList P ops Q rest (a.put op.dst (.agg c)) w) : wpList P ops Q (op :: rest) a w :=
  wpList_plain hgd fun _ hK => by
    unfold Oper.wp execOp
    simp only [ho, hx, Instr.loadAt, Instr.sureAddr, Sem.run_bind, Sem.run_pure, Result.andThen_ok, run_loadVar_row w g t ty c (0, 0) d hb hu hd hi]
    exact hK _ _ h
end

theorem intV_size (xs : List Int) : (intV xs).toArray.size = xs.length := by simp [intV]
theorem Is.range {w : World} {ao : Option Addr} {xs : List Int} (h : Is w ao xs) (h0 : 0 < xs.length) : ∃ b off, ao = some ⟨b, off, none⟩ ∧ w.rangeAt b off (intV xs) := by
  obtain ⟨b, off, rfl, _⟩ := h 0 h0
  refine ⟨b, off, rfl, fun j v hv => ?_⟩
  have hj : j < xs.length := by have := (List.getElem?_eq_some_iff.1 hv).1; rw [intV_length] at this; exact this
  obtain ⟨b', off', e, hc⟩ := h j hj
  rw [intV_get hj] at hv
  cases e
  rw [hc]; exact hv
theorem Is.of_block {w : World} {g : Nat} {t : TypeId} {xs : List Int} (h : w.heap[g]? = some (.cells (intV xs).toArray t (0, 0))) : Is w (some ⟨g, 0, none⟩) xs := fun i hi => by
  refine ⟨g, 0, rfl, ?_⟩
  rw [Nat.zero_add, Joins.cell_of_block h]
  simpa using intV_get hi
theorem arr_cell {w : World} {g : Nat} {t : TypeId} {xs : List Int} (h : w.heap[g]? = some (.cells (intV xs).toArray t (0, 0))) {k : Nat} (hk : k < xs.length) : w.cell? ⟨g, k, none⟩ = some (.int .i64 xs[k]) := by
  rw [Joins.cell_of_block h]; simpa using intV_get hk
theorem intV_set (xs : List Int) (k : Nat) (n : Int) : (intV xs).toArray.setIfInBounds k (.int .i64 n) = (intV (xs.set k n)).toArray := by simp [intV, List.map_set]
theorem arr_set {w : World} {g : Nat} {t : TypeId} {xs : List Int} (h : w.heap[g]? = some (.cells (intV xs).toArray t (0, 0))) (k : Nat) (n : Int) : (w.setCell ⟨g, k, none⟩ (.int .i64 n)).heap[g]? = some (.cells (intV (xs.set k n)).toArray t (0, 0)) := by
  rw [set_block (i := k) h (.int .i64 n), intV_set]
theorem block_of_below {w w' : World} {g : Nat} {o : Obj} (h : w.heap[g]? = some o) (hb : Below w.heap.size w w') : w'.heap[g]? = some o := by
  rw [hb.block g (Array.getElem?_eq_some_iff.1 h).1]; exact h
end Go.Proofs.YtjjkppknojecjaaGreat

namespace Go.Proofs.YtjjkppknojecjaaGreat
open Go.RowKit
set_option linter.unusedVariables false
set_option maxRecDepth 100000

section
variable {P : Program}
theorem run_append_nothing (w : World) (t ty e : TypeId) (i : TypeInfo) (ht : P.underlying t = some (.slice e)) (hi : P.info? e = some i) (d so : Option Addr) (cap c : Nat) :
    (Builtin.append_ #[t, t] ty #[.slice d 0 cap, .slice so 0 c]).run P w = .ok (.slice d 0 cap) w := by
  have hl : ∀ (x : Addr), (loadCells x 0).run P w = .ok #[] w := fun x => by simpa using run_loadCells_list (P := P) w x [] (by simp)
  cases d <;> cases so <;> simp [Builtin.append_, run_underlying ht, sizeOf, typeInfo, hi, Builtin.lenOf, Builtin.firstCells, storeCells, hl]

theorem run_append_fresh (w : World) (t ty e : TypeId) (i : TypeInfo) (z : Value) (size bytes : Nat) (ht : P.underlying t = some (.slice e)) (hi : P.info? e = some i) (hz : i.zero = some z)
    (hsize : i.size = size) (hby : i.bytes = bytes) (hzs : z.cells.size = size) (hsz : 0 < size)
    (d : Addr) (so : Option Addr) (m c : Nat) (news : List Value) (hn : news.length = m * size) (hc : 0 < m → ∃ ad, so = some ad ∧ ∀ j u, news[j]? = some u → w.cell? (ad.add j) = some u)
    (b1 : m ≤ maxLen) (b2 : m * bytes ≤ 140737488355328) :
    ∃ ao cap w', (Builtin.append_ #[t, t] ty #[.slice (some d) 0 0, .slice so m c]).run P w = .ok (.slice ao m cap) w' ∧ OwnR w' w.heap.size e size (.slice ao m cap) m news ∧ w.grownBy w' none := by
  rcases Nat.eq_zero_or_pos m with h0 | h0
  · subst h0
    exact ⟨some d, 0, w, run_append_nothing w t ty e i ht hi _ _ _ _, .inl ⟨rfl, List.eq_nil_of_length_eq_zero (by simpa using hn), _, rfl⟩, World.grownBy.refl w none⟩
  · obtain ⟨ad, rfl, hcs⟩ := hc h0
    obtain ⟨v', w', hrun, r1, r2⟩ := run_append_arg_grows (P := P) w t ty e i z size bytes ht hi hz hsize hby hzs hsz d 0 0 [] (by simp) (by simp) ad m c news hn hcs (by omega) (by simpa using b1) (by simpa using b2)
    simp only [Nat.zero_add, List.nil_append] at r1
    obtain ⟨g, cap, cur, rfl, _, _⟩ := own_form h0 r1
    exact ⟨_, _, w', hrun, .inr ⟨h0, r1⟩, r2⟩

def isFresh : Value → Bool
  | .slice (some _) 0 0 => true
  | _ => false
theorem isFresh_form {v : Value} (h : isFresh v = true) : ∃ d, v = .slice (some d) 0 0 := by
  unfold isFresh at h
  split at h
  · exact ⟨_, rfl⟩
  · cases h

theorem step_append_fresh {ops : Array Oper} {o : Oper} {a : Act} {w : World} {K : Act → World → Prop} {Q : Exit → Act → World → Prop} {E : Prop}
    (hg : o.guard = none) (s x : Operand) (t : TypeId) (hop : o.op = Op.call { callee := Callee.builtin Builtin.append, args := #[s, x], argTypes := #[t, t] })
    (e : TypeId) (i : TypeInfo) (z : Value) (size bytes : Nat) (h1 : P.underlying t = some (.slice e)) (h2 : P.info? e = some i) (h3 : i.zero = some z) (h4 : i.size = size) (h5 : i.bytes = bytes) (h6 : z.cells.size = size) (h7 : 0 < size)
    (hs0 : isFresh (a.eval s) = true) (so : Option Addr) (m c : Nat) (news : List Value) (hx : a.eval x = .slice so m c) (hn : news.length = m * size)
    (hc : 0 < m → ∃ ad, so = some ad ∧ ∀ j u, news[j]? = some u → w.cell? (ad.add j) = some u) (b1 : m ≤ maxLen) (b2 : m * bytes ≤ 140737488355328)
    (hK : ∀ ao cap w', OwnR w' w.heap.size e size (.slice ao m cap) m news → w.grownBy w' none → K (a.put o.dst (.slice ao m cap)) w') :
    if Region.wanted o (yielded ops a.tmps) = true then Oper.wp P o a w K Q else E := by
  have hw : Region.wanted o (yielded ops a.tmps) = true := by simp [Region.wanted, hg]
  rw [if_pos hw]
  obtain ⟨d, hs⟩ := isFresh_form hs0
  obtain ⟨ao, cap, w', hrun, r1, r2⟩ := run_append_fresh (P := P) w t o.type e i z size bytes h1 h2 h3 h4 h5 h6 h7 d so m c news hn hc b1 b2
  unfold Oper.wp
  simp [execOp, hop, resolve, invoke, builtin, hs, hx, hrun, Result.andThen]
  exact hK _ _ _ r1 r2
end

theorem belowAl {W0 W : World} (h : Below W0.heap.size W0 W) (o : Obj) : Below W0.heap.size W0 (W.alloc o) := h.alloc h.size o
theorem belowGr {W0 W W' : World} (h : Below W0.heap.size W0 W) (hg : W.grownBy W' none) : Below W0.heap.size W0 W' := h.grown hg h.size (fun _ h => by cases h)
end Go.Proofs.YtjjkppknojecjaaGreat

namespace Go.Proofs.YtjjkppknojecjaaGreat
open Go.RowKit
set_option linter.unusedVariables false
section
variable {P : Program}
end
end Go.Proofs.YtjjkppknojecjaaGreat

namespace Go.Proofs.YtjjkppknojecjaaGreat
open Go.RowKit
set_option linter.unusedVariables false
set_option maxRecDepth 100000

end Go.Proofs.YtjjkppknojecjaaGreat

namespace Go.Proofs.YtjjkppknojecjaaGreat
open Go.RowKit
set_option linter.unusedVariables false
set_option maxRecDepth 100000

theorem snm_get {t : ByteArray} {k : Nat} (h : k < t.size) : t.data.toList[k]? = some t[k] := by
  rw [Array.getElem?_toList]; exact Array.getElem?_eq_getElem h
end Go.Proofs.YtjjkppknojecjaaGreat

namespace Go.Proofs.YtjjkppknojecjaaGreat
open Go.RowKit
set_option linter.unusedVariables false
set_option maxRecDepth 100000

structure ImL (m : Img) : Prop where
  r : m.refs.length ≤ maxLen
  t : m.table.length ≤ maxLen
  s : m.snaps.length ≤ maxLen
  d : m.data.length ≤ maxLen
end Go.Proofs.YtjjkppknojecjaaGreat

namespace Go.Proofs.YtjjkppknojecjaaGreat
open Go.RowKit
set_option linter.unusedVariables false
set_option maxRecDepth 100000

end Go.Proofs.YtjjkppknojecjaaGreat

namespace Go.Proofs.YtjjkppknojecjaaGreat
open Go.RowKit
set_option linter.unusedVariables false
set_option maxRecDepth 100000

theorem OwnIm.other {w : World} {B x : Nat} {a : Im4} {m : Img} {ts : List Value} {v0 v1 v2 v3 : Value} (h : OwnIm w B a m ts) (hv : VarM w x 68 v0 v1 v2 v3) : ¬ ImB a m ts x := by
  intro hx
  rcases hx with h1 | h1 | h1 | h1 | ⟨t, ht, h1⟩
  · exact (h.rows.own (.slice a.ro m.refs.length a.rc, m.refs) (by simp [imRows])).row.other hv (by decide) h1
  · exact (h.rows.own (.slice a.tq m.table.length a.tc, m.table) (by simp [imRows])).row.other hv (by decide) h1
  · exact (h.rows.own (.slice a.dq m.data.length a.dc, m.data) (by simp [imRows])).row.other hv (by decide) h1
  · exact h.s.other hv (by decide) h1
  · have hm : t ∈ (ts.zip (m.snaps.map (·.table))).map Prod.fst := by rw [zip_fst _ _ (by rw [List.length_map, h.len])]; exact ht
    obtain ⟨p, hp, rfl⟩ := List.mem_map.1 hm
    exact (h.rows.own p (by simp [imRows, hp])).row.other hv (by decide) h1
theorem VarM.keepIm {w w' : World} {B x : Nat} {a : Im4} {m : Img} {ts : List Value} {v0 v1 v2 v3 : Value} (hv : VarM w x 68 v0 v1 v2 v3) (h : OwnIm w B a m ts) (hk : Keep (ImB a m ts) w w') : VarM w' x 68 v0 v1 v2 v3 := (hk.block x hv.lt (h.other hv)).trans hv
theorem OwnIm.shows {w : World} {B : Nat} {a : Im4} {m : Img} {ts : List Value} (h : OwnIm w B a m ts) (hz : ∀ s ∈ m.snaps, s.name.size ≤ maxLen ∧ s.table.length ≤ maxLen) : ImS w a m := by
  refine ⟨ownRN (h.rows.own (.slice a.ro m.refs.length a.rc, m.refs) (by simp [imRows])).row, ownRN (h.rows.own (.slice a.tq m.table.length a.tc, m.table) (by simp [imRows])).row, fun i hi => ?_, ownRN (h.rows.own (.slice a.dq m.data.length a.dc, m.data) (by simp [imRows])).row⟩
  have hp : 0 < m.snaps.length := by omega
  have hit : i < ts.length := by rw [← h.len]; exact hi
  have hs := h.s.row hp
  obtain ⟨g, cap, cur, e, _, _⟩ := own_form hp hs
  rw [e] at hs
  simp only [Value.slice.injEq, true_and] at e
  obtain ⟨e1, e2⟩ := e
  have hgs := snC_get (List.getElem?_eq_getElem hi) (List.getElem?_eq_getElem hit)
  have hm : (ts[i], m.snaps[i].table) ∈ imRows a m ts := by
    have : (ts.zip (m.snaps.map (·.table)))[i]? = some (ts[i], m.snaps[i].table) := by
      rw [List.getElem?_zip_eq_some]
      exact ⟨List.getElem?_eq_getElem hit, by simp [hi]⟩
    simp [imRows, List.mem_of_getElem? this]
  obtain ⟨tq, tc, et, ho⟩ := h.rows.own _ hm
  simp only at et ho
  refine ⟨g, 0, tq, tc, e1, ?_, ?_, ownRN ho, (hz _ (List.getElem_mem hi)).1, (hz _ (List.getElem_mem hi)).2⟩
  · rw [Nat.zero_add]; exact (hs.cellAt (i * 2) (by omega)).trans hgs.1
  · rw [Nat.zero_add]; exact (hs.cellAt (i * 2 + 1) (by omega)).trans (by rw [hgs.2, et])

end Go.Proofs.YtjjkppknojecjaaGreat

namespace Go.Proofs.YtjjkppknojecjaaGreat
open Go.RowKit
set_option linter.unusedVariables false
set_option maxRecDepth 100000

structure Gs4 where
  vo : Option Addr
  vc : Nat
  so : Option Addr
  sc : Nat
abbrev gsV (a : Gs4) (g : Gst) : Value := .agg #[.slice a.vo g.vals.length a.vc, .slice a.so g.shots.length a.sc]
structure GsS (w : World) (a : Gs4) (g : Gst) : Prop where
  v : Is w a.vo g.vals
  s : Sns w a.so g.shots
theorem GsS.below {w w' : World} {a : Gs4} {g : Gst} (h : GsS w a g) (hb : Below w.heap.size w w') : GsS w' a g := ⟨h.v.below hb, h.s.below hb⟩
def gsSz (g : Gst) : Nat := g.vals.length + (g.shots.length + snSz g.shots)
def gsRows (a : Gs4) (g : Gst) (ts : List Value) : List (Value × List Int) := (.slice a.vo g.vals.length a.vc, g.vals) :: ts.zip (g.shots.map (·.table))
structure OwnGs (w : World) (B : Nat) (a : Gs4) (g : Gst) (ts : List Value) : Prop where
  len : g.shots.length = ts.length
  s : OwnS w B 119 2 (.slice a.so g.shots.length a.sc) g.shots.length (snC g.shots ts)
  rows : OwnA w B (gsRows a g ts)
theorem OwnGs.below {w w' : World} {B : Nat} {a : Gs4} {g : Gst} {ts : List Value} (h : OwnGs w B a g ts) (hb : Below w.heap.size w w') : OwnGs w' B a g ts := ⟨h.len, h.s.below hb, h.rows.below hb⟩
theorem OwnGs.base {w : World} {B B' : Nat} {a : Gs4} {g : Gst} {ts : List Value} (h : OwnGs w B a g ts) (hB : B' ≤ B) : OwnGs w B' a g ts := ⟨h.len, h.s.base hB, h.rows.base hB⟩
theorem OwnGs.zero (w : World) (B : Nat) : OwnGs w B ⟨none, 0, none, 0⟩ gs0 [] := ⟨rfl, .inl ⟨rfl, rfl, none, 0, rfl⟩, OwnA.one ⟨none, 0, rfl, .inl ⟨rfl, rfl, none, rfl⟩⟩⟩
def GsB (a : Gs4) (g : Gst) (ts : List Value) (x : Nat) : Prop := Own (.slice a.vo g.vals.length a.vc) x ∨ Own (.slice a.so g.shots.length a.sc) x ∨ ∃ t ∈ ts, Own t x
theorem OwnGs.mem {w : World} {B : Nat} {a : Gs4} {g : Gst} {ts : List Value} (h : OwnGs w B a g ts) {t : Value} (ht : t ∈ ts) : ∃ p ∈ ts.zip (g.shots.map (·.table)), p.1 = t := by
  have hm : t ∈ (ts.zip (g.shots.map (·.table))).map Prod.fst := by rw [zip_fst _ _ (by rw [List.length_map, h.len])]; exact ht
  obtain ⟨p, hp, e⟩ := List.mem_map.1 hm
  exact ⟨p, hp, e⟩
theorem OwnGs.ge {w : World} {B : Nat} {a : Gs4} {g : Gst} {ts : List Value} (h : OwnGs w B a g ts) : ∀ x, GsB a g ts x → B ≤ x ∧ x < w.heap.size := by
  intro x hg
  rcases hg with h1 | h1 | ⟨t, ht, h1⟩
  · exact (h.rows.own (.slice a.vo g.vals.length a.vc, g.vals) (by simp [gsRows])).ge x h1
  · exact h.s.ge x h1
  · obtain ⟨p, hp, rfl⟩ := h.mem ht
    exact (h.rows.own p (by simp [gsRows, hp])).ge x h1
theorem OwnGs.keep {w w' : World} {B : Nat} {a : Gs4} {g : Gst} {ts : List Value} {S : Nat → Prop} (h : OwnGs w B a g ts) (hk : Keep S w w') (hs : ∀ x, GsB a g ts x → ¬ S x) : OwnGs w' B a g ts := by
  refine ⟨h.len, h.s.keep hk (fun x hx => hs x (.inr (.inl hx))), h.rows.keep hk (fun r hr x hx => hs x ?_)⟩
  unfold gsRows at hr
  simp only [List.mem_cons] at hr
  rcases hr with rfl | hr
  · exact .inl hx
  · exact .inr (.inr ⟨r.1, (List.of_mem_zip (a := r.1) (b := r.2) hr).1, hx⟩)
theorem OwnGs.setCell {w : World} {B : Nat} {a : Gs4} {g : Gst} {ts : List Value} (h : OwnGs w B a g ts) {p : Addr} (hp : p.block < B) (u : Value) : OwnGs (w.setCell p u) B a g ts := ⟨h.len, h.s.setCell hp u, h.rows.setCell hp u⟩
theorem OwnGs.shows {w : World} {B : Nat} {a : Gs4} {g : Gst} {ts : List Value} (h : OwnGs w B a g ts) (hz : ∀ s ∈ g.shots, s.name.size ≤ maxLen ∧ s.table.length ≤ maxLen) : GsS w a g := by
  refine ⟨ownRN (h.rows.own (.slice a.vo g.vals.length a.vc, g.vals) (by simp [gsRows])).row, fun i hi => ?_⟩
  have hp : 0 < g.shots.length := by omega
  have hit : i < ts.length := by rw [← h.len]; exact hi
  have hs := h.s.row hp
  obtain ⟨b, cap, cur, e, _, _⟩ := own_form hp hs
  rw [e] at hs
  simp only [Value.slice.injEq, true_and] at e
  obtain ⟨e1, e2⟩ := e
  have hgs := snC_get (List.getElem?_eq_getElem hi) (List.getElem?_eq_getElem hit)
  have hm : (ts[i], g.shots[i].table) ∈ gsRows a g ts := by
    have : (ts.zip (g.shots.map (·.table)))[i]? = some (ts[i], g.shots[i].table) := by
      rw [List.getElem?_zip_eq_some]
      exact ⟨List.getElem?_eq_getElem hit, by simp [hi]⟩
    simp [gsRows, List.mem_of_getElem? this]
  obtain ⟨tq, tc, et, ho⟩ := h.rows.own _ hm
  simp only at et ho
  refine ⟨b, 0, tq, tc, e1, ?_, ?_, ownRN ho, (hz _ (List.getElem_mem hi)).1, (hz _ (List.getElem_mem hi)).2⟩
  · rw [Nat.zero_add]; exact (hs.cellAt (i * 2) (by omega)).trans hgs.1
  · rw [Nat.zero_add]; exact (hs.cellAt (i * 2 + 1) (by omega)).trans (by rw [hgs.2, et])
def VarG (w : World) (x : Nat) (t : TypeId) (v0 v1 : Value) : Prop := w.heap[x]? = some (.cells #[v0, v1] t (0, 0))
theorem VarG.lt {w : World} {x t : Nat} {v0 v1 : Value} (k : VarG w x t v0 v1) : x < w.heap.size := (Array.getElem?_eq_some_iff.1 k).1
theorem VarG.cells {w : World} {x t : Nat} {v0 v1 : Value} (k : VarG w x t v0 v1) : w.cell? ⟨x, 0, none⟩ = some v0 ∧ w.cell? ⟨x, 1, none⟩ = some v1 := ⟨by rw [Joins.cell_of_block k]; rfl, by rw [Joins.cell_of_block k]; rfl⟩
theorem VarG.free {w : World} {x t : Nat} {v0 v1 : Value} (k : VarG w x t v0 v1) : w.frozen? ⟨x, 0, none⟩ = false ∧ w.frozen? ⟨x, 1, none⟩ = false := ⟨Joins.unfrozen_of_block k 0, Joins.unfrozen_of_block k 1⟩
theorem VarG.below {w w' : World} {x t : Nat} {v0 v1 : Value} (k : VarG w x t v0 v1) (hb : Below w.heap.size w w') : VarG w' x t v0 v1 := by
  unfold VarG; rw [hb.block x k.lt]; exact k
theorem VarG.new (w : World) (t : TypeId) (v0 v1 : Value) : VarG (w.alloc (.cells #[v0, v1] t)) w.heap.size t v0 v1 := heap_alloc_new w _
theorem VarG.other {w : World} {x t : Nat} {v0 v1 : Value} (h : VarG w x t v0 v1) {p : Addr} (hp : x ≠ p.block) (u : Value) : VarG (w.setCell p u) x t v0 v1 := by
  unfold VarG; rw [Below.heap_setCell w p u x hp]; exact h
theorem VarG.set0 {w : World} {x t : Nat} {v0 v1 : Value} (h : VarG w x t v0 v1) (u : Value) : VarG (w.setCell ⟨x, 0, none⟩ u) x t u v1 := Joins.block_setCell (i := 0) h u
theorem VarG.set1 {w : World} {x t : Nat} {v0 v1 : Value} (h : VarG w x t v0 v1) (u : Value) : VarG (w.setCell ⟨x, 1, none⟩ u) x t v0 u := Joins.block_setCell (i := 1) h u
theorem VarG.at {w : World} {x y t : Nat} {v0 v1 : Value} (h : VarG w x t v0 v1) (e : x = y) : VarG w y t v0 v1 := e ▸ h
theorem OwnGs.otherV {w : World} {B x t : Nat} {a : Gs4} {g : Gst} {ts : List Value} {c : Array Value} {f : Nat × Nat} (h : OwnGs w B a g ts) (hv : w.heap[x]? = some (.cells c t f)) (h1 : t ≠ 3) (h2 : t ≠ 119) : ¬ GsB a g ts x := by
  intro hx
  rcases hx with k1 | k1 | ⟨u, hu, k1⟩
  · exact (h.rows.own (.slice a.vo g.vals.length a.vc, g.vals) (by simp [gsRows])).row.other hv h1 k1
  · exact h.s.other hv h2 k1
  · obtain ⟨p, hp, rfl⟩ := h.mem hu
    exact (h.rows.own p (by simp [gsRows, hp])).row.other hv h1 k1
theorem VarG.keepGs {w w' : World} {B x t : Nat} {a : Gs4} {g : Gst} {ts : List Value} {v0 v1 : Value} (hv : VarG w x t v0 v1) (h : OwnGs w B a g ts) (h1 : t ≠ 3) (h2 : t ≠ 119) (hk : Keep (GsB a g ts) w w') : VarG w' x t v0 v1 := (hk.block x hv.lt (h.otherV hv h1 h2)).trans hv

end Go.Proofs.YtjjkppknojecjaaGreat

namespace Go.Proofs.YtjjkppknojecjaaGreat
open Go.RowKit
set_option linter.unusedVariables false
set_option maxRecDepth 100000

structure Wld where
  ss : List ByteArray
  xs : List Wr
  cf : Int
  cd : Int
  cl : Int
  cr : Int
  hs : List Hst
  t : Int
  g : Gst
  q : Rq
  ag : Bool
def rq0 : Rq := ⟨0, 0, 0, noB⟩
def wl0 : Wld := ⟨[], [], 0, 0, 0, 0, [], 0, gs0, rq0, false⟩
structure Wl4 where
  ao : Option Addr
  ca : Nat
  bo : Option Addr
  cb : Nat
  ho : Option Addr
  hc : Nat
  ga : Gs4
def wa0 : Wl4 := ⟨none, 0, none, 0, none, 0, ⟨none, 0, none, 0⟩⟩
abbrev wlV (a : Wl4) (m : Wld) : Value := .agg #[.slice a.ao m.ss.length a.ca, .slice a.bo m.xs.length a.cb, .int .i64 m.cf, .int .i64 m.cd, .int .i64 m.cl, .int .i64 m.cr, .slice a.ho m.hs.length a.hc, .int .i64 m.t, .slice a.ga.vo m.g.vals.length a.ga.vc, .slice a.ga.so m.g.shots.length a.ga.sc, .int .i64 m.q.k, .int .i64 m.q.g, .int .i64 m.q.v, .string m.q.n, .bool m.ag]
abbrev wlC (a : Wl4) (m : Wld) : Array Value := #[.slice a.ao m.ss.length a.ca, .slice a.bo m.xs.length a.cb, .int .i64 m.cf, .int .i64 m.cd, .int .i64 m.cl, .int .i64 m.cr, .slice a.ho m.hs.length a.hc, .int .i64 m.t, .slice a.ga.vo m.g.vals.length a.ga.vc, .slice a.ga.so m.g.shots.length a.ga.sc, .int .i64 m.q.k, .int .i64 m.q.g, .int .i64 m.q.v, .string m.q.n, .bool m.ag]
structure WlS (w : World) (a : Wl4) (m : Wld) : Prop where
  s : Ss w a.ao m.ss
  i : Ios w a.bo m.xs
  h : Hss w a.ho m.hs
  g : GsS w a.ga m.g
theorem WlS.below {w w' : World} {a : Wl4} {m : Wld} (h : WlS w a m) (hb : Below w.heap.size w w') : WlS w' a m := ⟨h.s.below hb, h.i.below hb, h.h.below hb, h.g.below hb⟩
structure WlL (m : Wld) : Prop where
  s : m.ss.length ≤ maxLen
  i : m.xs.length ≤ maxLen
  h : m.hs.length ≤ maxLen
  g : GsL m.g
  q : m.q.n.size ≤ maxLen
structure OwnWl (w : World) (B : Nat) (a : Wl4) (m : Wld) (ts : List Value) : Prop where
  d : OwnD w B a.ao m.ss.length a.ca a.bo m.xs.length a.cb m.ss m.xs
  h : OwnR w B 84 3 (.slice a.ho m.hs.length a.hc) m.hs.length (hssV m.hs)
  g : OwnGs w B a.ga m.g ts
def WlB (a : Wl4) (m : Wld) (ts : List Value) (x : Nat) : Prop := OwnB a.ao m.ss.length a.ca a.bo m.xs.length a.cb x ∨ Own (.slice a.ho m.hs.length a.hc) x ∨ GsB a.ga m.g ts x
theorem OwnWl.below {w w' : World} {B : Nat} {a : Wl4} {m : Wld} {ts : List Value} (h : OwnWl w B a m ts) (hb : Below w.heap.size w w') : OwnWl w' B a m ts := ⟨h.d.below hb, OwnR.below h.h hb, h.g.below hb⟩
theorem OwnWl.base {w : World} {B B' : Nat} {a : Wl4} {m : Wld} {ts : List Value} (h : OwnWl w B a m ts) (hB : B' ≤ B) : OwnWl w B' a m ts := ⟨h.d.base hB, OwnR.base h.h hB, h.g.base hB⟩
theorem OwnWl.zero (w : World) (B : Nat) : OwnWl w B wa0 wl0 [] := ⟨⟨.inl ⟨rfl, rfl, none, rfl⟩, .inl ⟨rfl, rfl, none, rfl⟩⟩, .inl ⟨rfl, rfl, none, rfl⟩, OwnGs.zero _ _⟩
theorem OwnWl.ge {w : World} {B : Nat} {a : Wl4} {m : Wld} {ts : List Value} (h : OwnWl w B a m ts) : ∀ x, WlB a m ts x → B ≤ x ∧ x < w.heap.size := by
  rintro x (h1 | h1 | h1)
  · exact h.d.ge x h1
  · exact OwnR.ge h.h x h1
  · exact h.g.ge x h1
theorem OwnWl.keep {w w' : World} {B : Nat} {a : Wl4} {m : Wld} {ts : List Value} {S : Nat → Prop} (h : OwnWl w B a m ts) (hk : Keep S w w') (hs : ∀ x, WlB a m ts x → ¬ S x) : OwnWl w' B a m ts :=
  ⟨h.d.keep hk (fun x hx => hs x (.inl hx)), OwnR.keep h.h hk (fun x hx => hs x (.inr (.inl hx))), h.g.keep hk (fun x hx => hs x (.inr (.inr hx)))⟩
theorem OwnWl.setCell {w : World} {B : Nat} {a : Wl4} {m : Wld} {ts : List Value} (h : OwnWl w B a m ts) {p : Addr} (hp : p.block < B) (u : Value) : OwnWl (w.setCell p u) B a m ts := ⟨h.d.setCell hp u, OwnR.setCell h.h hp u, h.g.setCell hp u⟩
theorem OwnWl.shows {w : World} {B : Nat} {a : Wl4} {m : Wld} {ts : List Value} (h : OwnWl w B a m ts) (hs : ∀ s ∈ m.ss, s.size ≤ maxLen) (hx : ∀ x ∈ m.xs, x.data.size ≤ maxLen) (hz : ∀ s ∈ m.g.shots, s.name.size ≤ maxLen ∧ s.table.length ≤ maxLen) : WlS w a m :=
  ⟨h.d.ss hs, h.d.ios hx, ownHss h.h, h.g.shows hz⟩
theorem OwnWl.otherV {w : World} {B x t : Nat} {a : Wl4} {m : Wld} {ts : List Value} {c : Array Value} {f : Nat × Nat} (h : OwnWl w B a m ts) (hv : w.heap[x]? = some (.cells c t f)) (h1 : t ≠ 9) (h2 : t ≠ 95) (h3 : t ≠ 84) (h4 : t ≠ 3) (h5 : t ≠ 119) : ¬ WlB a m ts x := by
  rintro (k | k | k)
  · exact h.d.other hv h1 h2 k
  · exact OwnR.other h.h hv h3 k
  · exact h.g.otherV hv h4 h5 k
theorem OwnR.type {w : World} {B e size n : Nat} {v : Value} {xs : List Value} (h : OwnR w B e size v n xs) {x : Nat} (hx : Own v x) : ∃ c f, w.heap[x]? = some (.cells c e f) := by
  rcases h with ⟨_, _, ao, rfl⟩ | ⟨h0, h⟩
  · exact absurd hx own_no
  · obtain ⟨g, cap, cur, rfl, _, hg⟩ := own_form h0 h
    obtain rfl := own_elim hx
    exact ⟨_, _, hg⟩
theorem OwnD.type {w : World} {B n ca m cb : Nat} {ao bo : Option Addr} {ss : List ByteArray} {xs : List Wr} (h : OwnD w B ao n ca bo m cb ss xs) {x : Nat} (hx : OwnB ao n ca bo m cb x) : ∃ c t f, w.heap[x]? = some (.cells c t f) ∧ (t = 9 ∨ t = 95) := by
  rcases hx with hx | hx
  · obtain ⟨c, f, e⟩ := h.s.type hx; exact ⟨c, _, f, e, .inl rfl⟩
  · obtain ⟨c, f, e⟩ := h.i.type hx; exact ⟨c, _, f, e, .inr rfl⟩
theorem OwnWl.dh {w : World} {B : Nat} {a : Wl4} {m : Wld} {ts : List Value} (h : OwnWl w B a m ts) : ∀ x, Own (.slice a.ho m.hs.length a.hc) x → ¬ OwnB a.ao m.ss.length a.ca a.bo m.xs.length a.cb x := fun x hx hd => by
  obtain ⟨c, f, e⟩ := OwnR.type h.h hx
  exact h.d.other e (by decide) (by decide) hd
theorem OwnWl.dg {w : World} {B : Nat} {a : Wl4} {m : Wld} {ts : List Value} (h : OwnWl w B a m ts) : ∀ x, GsB a.ga m.g ts x → ¬ OwnB a.ao m.ss.length a.ca a.bo m.xs.length a.cb x := fun x hx hd => by
  obtain ⟨c, t, f, e, ht⟩ := h.d.type hd
  exact h.g.otherV e (by rcases ht with rfl | rfl <;> decide) (by rcases ht with rfl | rfl <;> decide) hx
theorem OwnWl.hg {w : World} {B : Nat} {a : Wl4} {m : Wld} {ts : List Value} (h : OwnWl w B a m ts) : ∀ x, GsB a.ga m.g ts x → ¬ Own (.slice a.ho m.hs.length a.hc) x := fun x hx hd => by
  obtain ⟨c, f, e⟩ := OwnR.type h.h hd
  exact h.g.otherV e (by decide) (by decide) hx

theorem set_wl {w : World} {k t i : Nat} {a : Array Value} (h : w.heap[k]? = some (.cells a t (0, 0))) (v : Value) : (w.setCell ⟨k, i, none⟩ v).heap[k]? = some (.cells (a.setIfInBounds i v) t (0, 0)) := by
  obtain ⟨hk, hf⟩ := Array.getElem?_eq_some_iff.1 h
  unfold World.setCell
  simp [hk]
  rw [Array.getElem_modify]
  simp [hf]
def VarW (w : World) (x : Nat) (t : TypeId) (a : Wl4) (m : Wld) : Prop := w.heap[x]? = some (.cells (wlC a m) t (0, 0))
theorem VarW.lt {w : World} {x t : Nat} {a : Wl4} {m : Wld} (k : VarW w x t a m) : x < w.heap.size := (Array.getElem?_eq_some_iff.1 k).1
theorem VarW.cells {w : World} {x t : Nat} {a : Wl4} {m : Wld} (k : VarW w x t a m) : w.cell? ⟨x, 0, none⟩ = some (.slice a.ao m.ss.length a.ca) ∧ w.cell? ⟨x, 1, none⟩ = some (.slice a.bo m.xs.length a.cb) ∧ w.cell? ⟨x, 2, none⟩ = some (.int .i64 m.cf) ∧ w.cell? ⟨x, 3, none⟩ = some (.int .i64 m.cd) ∧ w.cell? ⟨x, 4, none⟩ = some (.int .i64 m.cl) ∧ w.cell? ⟨x, 5, none⟩ = some (.int .i64 m.cr) ∧ w.cell? ⟨x, 6, none⟩ = some (.slice a.ho m.hs.length a.hc) ∧ w.cell? ⟨x, 7, none⟩ = some (.int .i64 m.t) ∧ w.cell? ⟨x, 8, none⟩ = some (.slice a.ga.vo m.g.vals.length a.ga.vc) ∧ w.cell? ⟨x, 9, none⟩ = some (.slice a.ga.so m.g.shots.length a.ga.sc) ∧ w.cell? ⟨x, 10, none⟩ = some (.int .i64 m.q.k) ∧ w.cell? ⟨x, 11, none⟩ = some (.int .i64 m.q.g) ∧ w.cell? ⟨x, 12, none⟩ = some (.int .i64 m.q.v) ∧ w.cell? ⟨x, 13, none⟩ = some (.string m.q.n) ∧ w.cell? ⟨x, 14, none⟩ = some (.bool m.ag) := by
  refine ⟨?_, ?_, ?_, ?_, ?_, ?_, ?_, ?_, ?_, ?_, ?_, ?_, ?_, ?_, ?_⟩ <;> (rw [Joins.cell_of_block k]; rfl)
theorem VarW.free {w : World} {x t : Nat} {a : Wl4} {m : Wld} (k : VarW w x t a m) (i : Nat) : w.frozen? ⟨x, i, none⟩ = false := Joins.unfrozen_of_block k i
theorem VarW.below {w w' : World} {x t : Nat} {a : Wl4} {m : Wld} (k : VarW w x t a m) (hb : Below w.heap.size w w') : VarW w' x t a m := by
  unfold VarW; rw [hb.block x k.lt]; exact k
theorem VarW.keep {S : Nat → Prop} {w w' : World} {x t : Nat} {a : Wl4} {m : Wld} (k : VarW w x t a m) (hk : Keep S w w') (hs : ¬ S x) : VarW w' x t a m := by
  unfold VarW; rw [hk.block x k.lt hs]; exact k
theorem VarW.new (w : World) (t : TypeId) (a : Wl4) (m : Wld) : VarW (w.alloc (.cells (wlC a m) t)) w.heap.size t a m := heap_alloc_new w _
theorem VarW.at {w : World} {x y t : Nat} {a : Wl4} {m : Wld} (h : VarW w x t a m) (e : x = y) : VarW w y t a m := e ▸ h
theorem VarW.other {w : World} {x t : Nat} {a : Wl4} {m : Wld} (h : VarW w x t a m) {p : Addr} (hp : x ≠ p.block) (u : Value) : VarW (w.setCell p u) x t a m := by
  unfold VarW; rw [Below.heap_setCell w p u x hp]; exact h
end Go.Proofs.YtjjkppknojecjaaGreat

namespace Go.Proofs.YtjjkppknojecjaaGreat
open Go.RowKit
set_option linter.unusedVariables false
set_option maxRecDepth 100000

end Go.Proofs.YtjjkppknojecjaaGreat

namespace Go.Proofs.YtjjkppknojecjaaGreat
open Go.RowKit
set_option linter.unusedVariables false
set_option maxRecDepth 100000

theorem wr_ext {x y : Wr} (h : x.host = y.host ∧ x.at_ = y.at_ ∧ x.data = y.data) : x = y := by cases x; cases y; simp_all

set_option maxHeartbeats 800000 in
theorem eqIo_any (x y : Wr) (w : World) :
    Calls Tryz.prog 82 #[.agg #[.int .i64 x.host, .int .i64 x.at_, .string x.data], .agg #[.int .i64 y.host, .int .i64 y.at_, .string y.data]] w fun e w' => e = .returned (.bool (wrB x y)) ∧ Below w.heap.size w w' := by
  by_cases h0 : x.host = y.host
  · have b0 : (x.host != y.host) = false := by simp [h0]
    by_cases h1 : x.at_ = y.at_
    · have b1 : (x.at_ != y.at_) = false := by simp [h1]
      by_cases h2 : x.data = y.data
      · have H := hide (wrB_true h0 h1 h2)
        have b2 : (x.data.toList == y.data.toList) = true := by simp [h2]
        clear h0 h1 h2
        go_enter Tryz.func82, Tryz.ntmps82
        go_wp2
        go_ret
        exact ⟨ret_bool (unhide H).symm, ((Below.refl _ _).alloc (Nat.le_refl _) _).alloc (by simp) _⟩
      · have H := hide (wrB_false (x := x) (y := y) (fun h => h2 h.2.2))
        have b2 : (x.data.toList == y.data.toList) = false := str_beq_false h2
        clear h0 h1 h2
        go_enter Tryz.func82, Tryz.ntmps82
        go_wp2
        go_ret
        exact ⟨ret_bool (unhide H).symm, ((Below.refl _ _).alloc (Nat.le_refl _) _).alloc (by simp) _⟩
    · have H := hide (wrB_false (x := x) (y := y) (fun h => h1 h.2.1))
      have b1 : (x.at_ != y.at_) = true := by simp [h1]
      clear h0 h1
      go_enter Tryz.func82, Tryz.ntmps82
      go_wp2
      go_ret
      exact ⟨ret_bool (unhide H).symm, ((Below.refl _ _).alloc (Nat.le_refl _) _).alloc (by simp) _⟩
  · have H := hide (wrB_false (x := x) (y := y) (fun h => h0 h.1))
    have b0 : (x.host != y.host) = true := by simp [h0]
    clear h0
    go_enter Tryz.func82, Tryz.ntmps82
    go_wp2
    go_ret
    exact ⟨ret_bool (unhide H).symm, ((Below.refl _ _).alloc (Nat.le_refl _) _).alloc (by simp) _⟩

set_option maxHeartbeats 800000 in
theorem eqStringS_any (ao bo : Option Addr) (ca cb : Nat) (ss tt : List ByteArray) (w : World) (hl : ss.length ≤ maxLen) (hc : Ss w ao ss) (hd : Ss w bo tt) :
    Calls Tryz.prog 48 #[.slice ao ss.length ca, .slice bo tt.length cb] w fun e w' => e = .returned (.bool (eqSB ss tt)) ∧ Below w.heap.size w w' := by
  have HC := hide hc
  have HD := hide hd
  clear hc hd
  unfold maxLen at hl
  by_cases hle : ss.length = tt.length
  · have hb : ((ss.length : Int) != (tt.length : Int)) = false := by simp [hle]
    have HLE := hide hle
    clear hle
    go_enter Tryz.func48, Tryz.ntmps48
    go_wp2
    go_loopw [5] (fun i wr => ∃ k : Nat, k ≤ ss.length ∧ i = .int .i64 k ∧ Hid (∀ j (h : j < ss.length) (h' : j < tt.length), j < k → ss[j] = tt[j]) ∧ Hid (Below w.heap.size w wr)) (fun i _ => ss.length - (intOf i).toNat)
    case atStart => exact ⟨0, Nat.zero_le _, rfl, hide (fun j _ _ h => by omega), hide (Below.refl _ _)⟩
    case round =>
      obtain ⟨k, hk, rfl, HA, HB⟩ := hrel
      by_cases hlt : k < ss.length
      · have hlt' : k < tt.length := by rw [← unhide HLE]; exact hlt
        obtain ⟨b, off, rfl, hc, hz⟩ := (unhide HC).below (unhide HB) k hlt
        obtain ⟨b', off', rfl, hc', hz'⟩ := (unhide HD).below (unhide HB) k hlt'
        clear hz hz'
        by_cases he : ss[k] = tt[k]
        · have HN := hide (eq_succ hlt hlt' (unhide HA) he)
          have be : (ss[k].toList == tt[k].toList) = true := by simp [he]
          clear he
          go_wp2
          go_quiet (fail)
          go_wp2
          go_roundw
          case rel => exact ⟨k + 1, by omega, by go_num, HN, hide ((unhide HB).trans (Joins.below_draws _ _ _))⟩
          case measure => simp [intOf]; omega
        · have H := hide (eqSB_false hlt hlt' he)
          have be : (ss[k].toList == tt[k].toList) = false := str_beq_false he
          clear he
          go_wp2
          go_quiet (fail)
          go_wp2
          go_ret
          exact ⟨ret_bool (unhide H).symm, (unhide HB).trans (Joins.below_draws _ _ _)⟩
      · have H := hide (eqSB_true (unhide HLE) (fun j h h' => unhide HA j h h' (by omega)))
        go_wp2
        go_ret
        exact ⟨ret_bool (unhide H).symm, unhide HB⟩
  · have hb : ((ss.length : Int) != (tt.length : Int)) = true := by simp; omega
    have H := hide (eqSB_false_len hle)
    clear hle
    go_enter Tryz.func48, Tryz.ntmps48
    go_wp2
    go_ret
    exact ⟨ret_bool (unhide H).symm, Below.refl _ _⟩

set_option maxHeartbeats 1600000 in
theorem eqIoS_any (ao bo : Option Addr) (ca cb : Nat) (ss tt : List Wr) (w : World) (hl : ss.length ≤ maxLen) (hc : Ios w ao ss) (hd : Ios w bo tt) :
    Calls Tryz.prog 49 #[.slice ao ss.length ca, .slice bo tt.length cb] w fun e w' => e = .returned (.bool (eqWB ss tt)) ∧ Below w.heap.size w w' := by
  have HC := hide hc
  have HD := hide hd
  clear hc hd
  unfold maxLen at hl
  by_cases hle : ss.length = tt.length
  · have hb : ((ss.length : Int) != (tt.length : Int)) = false := by simp [hle]
    have HLE := hide hle
    clear hle
    go_enter Tryz.func49, Tryz.ntmps49
    go_wp2
    go_loopw [5] (fun i wr => ∃ k : Nat, k ≤ ss.length ∧ i = .int .i64 k ∧ Hid (∀ j (h : j < ss.length) (h' : j < tt.length), j < k → ss[j] = tt[j]) ∧ Hid (Below w.heap.size w wr)) (fun i _ => ss.length - (intOf i).toNat)
    case atStart => exact ⟨0, Nat.zero_le _, rfl, hide (fun j _ _ h => by omega), hide (Below.refl _ _)⟩
    case round =>
      obtain ⟨k, hk, rfl, HA, HB⟩ := hrel
      by_cases hlt : k < ss.length
      · have hlt' : k < tt.length := by rw [← unhide HLE]; exact hlt
        obtain ⟨b, off, rfl, hc0, hc1, hc2, hz⟩ := (unhide HC).below (unhide HB) k hlt
        obtain ⟨b', off', rfl, hd0, hd1, hd2, hz'⟩ := (unhide HD).below (unhide HB) k hlt'
        clear hz hz'
        by_cases he : ss[k] = tt[k]
        · have HN := hide (eq_succ hlt hlt' (unhide HA) he)
          have be : wrB ss[k] tt[k] = true := wrB_true (by rw [he]) (by rw [he]) (by rw [he])
          clear he
          go_wp2
          go_region_with (go_at_call 82; refine (eqIo_any _ _ _).mono ?_; rintro e w2 ⟨rfl, hb2⟩)
          all_goals
            have HB2 : Hid (Below w.heap.size w w2) := hide (Below.trans (by repeat (first | exact unhide HB | apply Below.drew)) (hb2.mono (unhide HB).size))
            clear hb2
            go_wp2
            go_roundw
            case rel => exact ⟨k + 1, by omega, by go_num, HN, HB2⟩
            case measure => simp [intOf]; omega
        · have H := hide (eqWB_false hlt hlt' he)
          have be : wrB ss[k] tt[k] = false := wrB_false (fun e => he (wr_ext e))
          clear he
          go_wp2
          go_region_with (go_at_call 82; refine (eqIo_any _ _ _).mono ?_; rintro e w2 ⟨rfl, hb2⟩)
          all_goals
            have HB2 : Hid (Below w.heap.size w w2) := hide (Below.trans (by repeat (first | exact unhide HB | apply Below.drew)) (hb2.mono (unhide HB).size))
            clear hb2
            go_wp2
            go_ret
            exact ⟨ret_bool (unhide H).symm, unhide HB2⟩
      · have H := hide (eqWB_true (unhide HLE) (fun j h h' => unhide HA j h h' (by omega)))
        go_wp2
        go_ret
        exact ⟨ret_bool (unhide H).symm, unhide HB⟩
  · have hb : ((ss.length : Int) != (tt.length : Int)) = true := by simp; omega
    have H := hide (eqWB_false_len hle)
    clear hle
    go_enter Tryz.func49, Tryz.ntmps49
    go_wp2
    go_ret
    exact ⟨ret_bool (unhide H).symm, Below.refl _ _⟩

set_option maxHeartbeats 800000 in
theorem eqDisk_any (ao bo co do_ : Option Addr) (ca cb cc cd : Nat) (ss tt : List ByteArray) (xs ys : List Wr) (w : World) (hl : ss.length ≤ maxLen) (hm : xs.length ≤ maxLen) (h1 : Ss w ao ss) (h2 : Ios w bo xs) (h3 : Ss w co tt) (h4 : Ios w do_ ys) :
    Calls Tryz.prog 20 #[.agg #[.slice ao ss.length ca, .slice bo xs.length cb], .agg #[.slice co tt.length cc, .slice do_ ys.length cd]] w fun e w' => e = .returned (.bool (eqSB ss tt && eqWB xs ys)) ∧ Below w.heap.size w w' := by
  have H1 := hide h1
  have H2 := hide h2
  have H3 := hide h3
  have H4 := hide h4
  have HL := hide hl
  have HM := hide hm
  clear h1 h2 h3 h4 hl hm
  have HA := hide (Joins.below_alloc2 w (.cells #[.slice ao ss.length ca, .slice bo xs.length cb] 27) (.cells #[.slice co tt.length cc, .slice do_ ys.length cd] 27))
  go_enter Tryz.func20, Tryz.ntmps20
  go_wp2_with fail
  refine (eqStringS_any ao co ca cc ss tt _ (unhide HL) ((unhide H1).below (unhide HA)) ((unhide H3).below (unhide HA))).mono ?_
  rintro e w1 ⟨rfl, hb1⟩
  have hc0 : w1.cell? ⟨w.heap.size, 1, none⟩ = some (.slice bo xs.length cb) := (hb1.cell (by simp; omega)).trans (by simp [go_sem])
  have hc1 : w1.cell? ⟨w.heap.size + 1, 1, none⟩ = some (.slice do_ ys.length cd) := (hb1.cell (by simp)).trans (by simp [go_sem])
  have HB := hide ((unhide HA).trans (hb1.mono (by simp; omega)))
  clear hb1
  cases h : eqSB ss tt
  · go_wp2
    go_ret
    exact ⟨ret_bool (by rw [h]; rfl), unhide HB⟩
  · go_wp2_with fail
    refine (eqIoS_any bo do_ cb cd xs ys _ (unhide HM) ((unhide H2).below (unhide HB)) ((unhide H4).below (unhide HB))).mono ?_
    rintro e w2 ⟨rfl, hb2⟩
    have HB2 := hide ((unhide HB).trans (hb2.mono (unhide HB).size))
    clear hb2
    cases h' : eqWB xs ys
    · go_wp2
      go_ret
      exact ⟨ret_bool (by rw [h, h']; rfl), unhide HB2⟩
    · go_wp2
      go_ret
      exact ⟨ret_bool (by rw [h, h']; rfl), unhide HB2⟩

end Go.Proofs.YtjjkppknojecjaaGreat

namespace Go.Proofs.YtjjkppknojecjaaGreat
open Go.RowKit
set_option linter.unusedVariables false
set_option maxRecDepth 100000

set_option maxHeartbeats 1600000 in
theorem markDisk_any (ao bo : Option Addr) (n ca m cb k : Nat) (ss : List ByteArray) (xs : List Wr) (B : Nat) (w : World) (hn : n ≤ 2097152) (hm : m ≤ 2097152) (hk0 : 0 < k) (hk1 : k ≤ 134217728) (ho : OwnD w B ao n ca bo m cb ss xs) :
    Calls Tryz.prog 25 #[.agg #[.slice ao n ca, .slice bo m cb], .int .i64 k] w fun e w' => e = .returned (.int .i64 ((k + n + 3 * m : Nat) : Int)) ∧ OwnD w' B ao n ca bo m cb (mkS k n) (mkI (k + n) m) ∧ Keep (OwnB ao n ca bo m cb) w w' := by
  have HA := hide (Joins.below_alloc1 w (.cells #[.slice ao n ca, .slice bo m cb] 27))
  have HO := hide (ho.below (unhide HA))
  clear ho
  go_enter Tryz.func25, Tryz.ntmps25
  go_wp2_with fail
  refine (markStringS_any (.slice ao n ca) n k _ B _ (by omega) hk0 (by omega) (unhide HO).s).mono ?_
  rintro e w1 ⟨rfl, ho1, hk1'⟩
  have HX : Hid (¬ Own (.slice ao n ca) w.heap.size) := hide (fun h => (unhide HO).other (x := w.heap.size) (heap_alloc_new w _) (by decide) (by decide) (.inl h))
  have hb1 : w1.heap[w.heap.size]? = some (.cells #[.slice ao n ca, .slice bo m cb] 27) := (hk1'.block _ (by simp) (unhide HX)).trans (heap_alloc_new w _)
  have hc1 : w1.cell? ⟨w.heap.size, 1, none⟩ = some (.slice bo m cb) := by rw [Joins.cell_of_block hb1]; rfl
  have HI := hide (OwnR.keep (unhide HO).i hk1' (own_apart (unhide HO).i (unhide HO).s (by decide)))
  have HS := hide ho1
  have HK := hide (Keep.trans (S := OwnB ao n ca bo m cb) (Keep.of_below (unhide HA)) (hk1'.mono (fun j h => .inl h)))
  clear ho1 hk1' hb1
  go_wp2_with fail
  refine (markIoS_any (.slice bo m cb) m (k + n) _ B _ (by omega) (by omega) (by omega) (unhide HI)).mono ?_
  rintro e w2 ⟨rfl, ho2, hk2⟩
  have HS2 := hide (OwnR.keep (unhide HS) hk2 (own_apart (unhide HS) (unhide HI) (by decide)))
  have HI2 := hide ho2
  have HK2 := hide ((unhide HK).trans (hk2.mono (T := OwnB ao n ca bo m cb) (fun j h => .inr h)))
  clear ho2 hk2
  go_wp2
  go_ret
  exact ⟨rfl, ⟨unhide HS2, unhide HI2⟩, unhide HK2⟩

set_option maxHeartbeats 1600000 in
theorem heldDisk_any (ao bo : Option Addr) (n ca m cb k : Nat) (B : Nat) (w : World) (hn : n ≤ 2097152) (hm : m ≤ 2097152) (hk0 : 0 < k) (hk1 : k ≤ 134217728) (ho : OwnD w B ao n ca bo m cb (mkS k n) (mkI (k + n) m)) :
    Calls Tryz.prog 28 #[.agg #[.slice ao n ca, .slice bo m cb], .int .i64 k] w fun e w' => e = .returned (.int .i64 ((k + n + 3 * m : Nat) : Int)) ∧ Below w.heap.size w w' := by
  have HA := hide (Joins.below_alloc1 w (.cells #[.slice ao n ca, .slice bo m cb] 27))
  have HO := hide (ho.below (unhide HA))
  clear ho
  go_enter Tryz.func28, Tryz.ntmps28
  go_wp2_with fail
  refine (heldStringS_any (.slice ao n ca) n k B _ (by omega) hk0 (by omega) (unhide HO).s).mono ?_
  rintro e w1 ⟨rfl, hb1⟩
  have hc1 : w1.cell? ⟨w.heap.size, 1, none⟩ = some (.slice bo m cb) := (hb1.cell (by simp)).trans (by simp [go_sem])
  have HO1 := hide ((unhide HO).below hb1)
  have HB1 := hide (fr (unhide HA) hb1)
  clear hb1
  go_wp2_with fail
  refine (heldIoS_any (.slice bo m cb) m (k + n) B _ (by omega) (by omega) (by omega) (unhide HO1).i).mono ?_
  rintro e w2 ⟨rfl, hb2⟩
  have HB2 := hide (fr (unhide HB1) hb2)
  clear hb2
  go_wp2
  go_ret
  exact ⟨rfl, unhide HB2⟩

end Go.Proofs.YtjjkppknojecjaaGreat

namespace Go.Proofs.YtjjkppknojecjaaGreat
open Go.RowKit
set_option linter.unusedVariables false
set_option maxRecDepth 100000

structure StC (w W : World) (b : Nat) (f d l r : Int) : Prop where
  four : Four W b f d l r
  below : Below w.heap.size w W
theorem StC.next {w W W' : World} {b : Nat} {f d l r : Int} (h : StC w W b f d l r) (hb : Below W.heap.size W W') : StC w W' b f d l r := ⟨h.four.below hb, frB h.below hb⟩

end Go.Proofs.YtjjkppknojecjaaGreat

namespace Go.Proofs.YtjjkppknojecjaaGreat
open Go.RowKit
set_option linter.unusedVariables false
set_option maxRecDepth 100000

theorem infoHs : (Tryz.prog.info? 84).map (fun i => (i.zero, i.size, i.bytes)) = some (some (.agg #[.int .i64 0, .int .i64 0, .int .i64 0]), 3, 24) := by kernel_rfl
theorem hss_take {ys : List Value} {xs : List Hst} {k : Nat} (hk : k < xs.length) (hl : ys.length = xs.length * 3) (h : ys.take (k * 3) = (hssV xs).take (k * 3)) :
    (((ys.set (k * 3) (.int .i64 xs[k].st)).set (k * 3 + 1) (.int .i64 xs[k].gen)).set (k * 3 + 2) (.int .i64 xs[k].ren)).take ((k + 1) * 3) = (hssV xs).take ((k + 1) * 3) := by
  obtain ⟨h0, h1, h2⟩ := hssV_get hk
  have e0 := set_take' (by rw [hl, hssV_length]) h0 h
  have e1 := set_take' (by rw [List.length_set, hl, hssV_length]) h1 e0
  have e2 := set_take' (by rw [List.length_set, List.length_set, hl, hssV_length]) h2 e1
  rw [show (k + 1) * 3 = k * 3 + 2 + 1 by omega]
  exact e2

set_option maxHeartbeats 1600000 in
theorem eqHost_same (x : Hst) (w : World) : Calls Tryz.prog 50 #[hstV x, hstV x] w fun e w' => e = .returned (.bool true) ∧ Below w.heap.size w w' := by
  go_enter Tryz.func50, Tryz.ntmps50
  go_wp2
  go_ret
  exact ⟨rfl, Joins.below_alloc2 _ _ _⟩

set_option maxHeartbeats 1600000 in
theorem eqHostS_same (ao bo : Option Addr) (ca cb : Nat) (xs : List Hst) (w : World) (hl : xs.length ≤ 1048576) (hc : Hss w ao xs) (hd : Hss w bo xs) :
    Calls Tryz.prog 22 #[.slice ao xs.length ca, .slice bo xs.length cb] w fun e w' => e = .returned (.bool true) ∧ Below w.heap.size w w' := by
  have HC := hide hc
  have HD := hide hd
  clear hc hd
  go_enter Tryz.func22, Tryz.ntmps22
  go_wp2
  go_loopw [5] (fun i wr => ∃ k : Nat, k ≤ xs.length ∧ i = .int .i64 k ∧ Hid (Below w.heap.size w wr)) (fun i _ => xs.length - (intOf i).toNat)
  case atStart => exact ⟨0, Nat.zero_le _, rfl, hide (Below.refl _ _)⟩
  case round =>
    obtain ⟨k, hk, rfl, HB⟩ := hrel
    by_cases hlt : k < xs.length
    · obtain ⟨b, off, rfl, hc0, hc1, hc2⟩ := (unhide HC).below (unhide HB) k hlt
      obtain ⟨b', off', rfl, hd0, hd1, hd2⟩ := (unhide HD).below (unhide HB) k hlt
      go_wp2
      go_region_with (go_at_call 50; refine (eqHost_same _ _).mono ?_; rintro e w2 ⟨rfl, hb2⟩)
      all_goals
        have HB2 : Hid (Below w.heap.size w w2) := hide (Below.trans (by repeat (first | exact unhide HB | apply Below.drew)) (hb2.mono (unhide HB).size))
        clear hb2
        go_wp2
        go_roundw
        case rel => exact ⟨k + 1, by omega, by go_num, HB2⟩
        case measure => simp [intOf]; omega
    · go_wp2
      go_ret
      exact ⟨rfl, unhide HB⟩

def mkHs (k n : Nat) : List Hst := (List.range n).map fun i => ⟨((k + i * 3 : Nat) : Int), ((k + i * 3 + 1 : Nat) : Int), ((k + i * 3 + 2 : Nat) : Int)⟩
theorem mkHs_length (k n : Nat) : (mkHs k n).length = n := by simp [mkHs]
theorem mkHs_at {k n j : Nat} (h : j < (mkHs k n).length) : (mkHs k n)[j] = ⟨((k + j * 3 : Nat) : Int), ((k + j * 3 + 1 : Nat) : Int), ((k + j * 3 + 2 : Nat) : Int)⟩ := by simp [mkHs]

set_option maxHeartbeats 1600000 in
theorem markHostS_any (v : Value) (n k : Nat) (xs : List Value) (B : Nat) (w : World) (hn : n ≤ 4194304) (hk0 : 0 < k) (hk1 : k ≤ 268435456) (ho : OwnR w B 84 3 v n xs) :
    Calls Tryz.prog 26 #[v, .int .i64 k] w fun e w' => e = .returned (.int .i64 ((k + n * 3 : Nat) : Int)) ∧ OwnR w' B 84 3 v n (hssV (mkHs k n)) ∧ Keep (Own v) w w' := by
  rcases ho with ⟨rfl, rfl, ao, rfl⟩ | ⟨hpos, ho'⟩
  · go_enter Tryz.func26, Tryz.ntmps26
    go_wp2
    refine wp_loop_rounds 1 ?_
    rw [rounds_succ]
    go_wp2
    go_ret
    refine ⟨ret_int (by simp), .inl ⟨rfl, rfl, ao, rfl⟩, Keep.refl _ _⟩
  · obtain ⟨g, cap, cur, rfl, _, _⟩ := own_form hpos ho'
    have HO := hide ho'
    clear ho'
    go_enter Tryz.func26, Tryz.ntmps26
    go_wp2
    go_loopw [1, 5] (fun kk i wr => ∃ (j : Nat) (ys : List Value), j ≤ n ∧ i = .int .i64 j ∧ kk = .int .i64 ((k + j * 3 : Nat) : Int) ∧ Hid (ys.length = n * 3) ∧ Hid (ys.take (j * 3) = (hssV (mkHs k n)).take (j * 3)) ∧ Hid (wr.ownsRow B 84 3 (.slice (some ⟨g, 0, none⟩) n cap) n ys) ∧ Hid (Keep (Own (.slice (some ⟨g, 0, none⟩) n cap)) w wr)) (fun _ i _ => n - (intOf i).toNat)
    case atStart => exact ⟨0, xs, Nat.zero_le _, rfl, by simp, hide (by rw [(unhide HO).1]), hide (by simp), HO, hide (Keep.refl _ _)⟩
    case round =>
      obtain ⟨j, ys, hj, rfl, rfl, HL, HT, HO, HK⟩ := hrel
      by_cases hlt : j < n
      · have hf := fun i => (unhide HO).frozenAt i
        have hf0 := hf (j * 3)
        have hf1 := hf (j * 3 + 1)
        have hf2 := hf (j * 3 + 2)
        clear hf
        obtain ⟨x0, hx0⟩ : ∃ x, wr.cell? ⟨g, j * 3, none⟩ = some x := ⟨_, ((unhide HO).cellAt (j * 3) (by omega)).trans (List.getElem?_eq_getElem (by rw [unhide HL]; omega))⟩
        obtain ⟨x1, hx1⟩ : ∃ x, wr.cell? ⟨g, j * 3 + 1, none⟩ = some x := ⟨_, ((unhide HO).cellAt (j * 3 + 1) (by omega)).trans (List.getElem?_eq_getElem (by rw [unhide HL]; omega))⟩
        obtain ⟨x2, hx2⟩ : ∃ x, wr.cell? ⟨g, j * 3 + 2, none⟩ = some x := ⟨_, ((unhide HO).cellAt (j * 3 + 2) (by omega)).trans (List.getElem?_eq_getElem (by rw [unhide HL]; omega))⟩
        have HST := hide (stored3 (unhide HO) (j * 3) (j * 3 + 1) (j * 3 + 2) (.int .i64 ((k + j * 3 : Nat) : Int)) (.int .i64 ((k + j * 3 + 1 : Nat) : Int)) (.int .i64 ((k + j * 3 + 2 : Nat) : Int)))
        have HKS := hide ((((unhide HK).setCell (p := ⟨g, j * 3, none⟩) (own_of hpos rfl) (.int .i64 ((k + j * 3 : Nat) : Int))).setCell (p := ⟨g, j * 3 + 1, none⟩) (own_of hpos rfl) (.int .i64 ((k + j * 3 + 1 : Nat) : Int))).setCell (p := ⟨g, j * 3 + 2, none⟩) (own_of hpos rfl) (.int .i64 ((k + j * 3 + 2 : Nat) : Int)))
        have HTT := hide (hss_take (xs := mkHs k n) (k := j) (by rw [mkHs_length]; exact hlt) (by rw [mkHs_length]; exact unhide HL) (unhide HT))
        rw [mkHs_at] at HTT
        go_wp2
        go_roundw
        case rel => exact ⟨j + 1, _, by omega, by go_num, by go_num, hide (by rw [List.length_set, List.length_set, List.length_set]; exact unhide HL), HTT, HST, HKS⟩
        case measure => simp [intOf]; omega
      · go_wp2
        go_ret
        have hjn : j = n := by omega
        subst hjn
        have hxs : ys = hssV (mkHs k j) := by
          have := unhide HT
          rwa [List.take_of_length_le (by rw [unhide HL]; exact Nat.le_refl _), List.take_of_length_le (by rw [hssV_length, mkHs_length]; exact Nat.le_refl _)] at this
        subst hxs
        exact ⟨rfl, .inr ⟨hpos, unhide HO⟩, unhide HK⟩

set_option maxHeartbeats 1600000 in
theorem heldHostS_any (v : Value) (n k : Nat) (B : Nat) (w : World) (hn : n ≤ 4194304) (hk0 : 0 < k) (hk1 : k ≤ 268435456) (ho : OwnR w B 84 3 v n (hssV (mkHs k n))) :
    Calls Tryz.prog 29 #[v, .int .i64 k] w fun e w' => e = .returned (.int .i64 ((k + n * 3 : Nat) : Int)) ∧ Below w.heap.size w w' := by
  rcases ho with ⟨rfl, _, ao, rfl⟩ | ⟨hpos, ho'⟩
  · go_enter Tryz.func29, Tryz.ntmps29
    go_wp2
    refine wp_loop_rounds 1 ?_
    rw [rounds_succ]
    go_wp2
    go_ret
    exact ⟨ret_int (by simp), Below.refl _ _⟩
  · obtain ⟨g, cap, cur, rfl, _, _⟩ := own_form hpos ho'
    have HO := hide ho'
    clear ho'
    go_enter Tryz.func29, Tryz.ntmps29
    go_wp2
    go_loopw [1, 5] (fun kk i wr => ∃ (j : Nat), j ≤ n ∧ i = .int .i64 j ∧ kk = .int .i64 ((k + j * 3 : Nat) : Int) ∧ Hid (Below w.heap.size w wr)) (fun _ i _ => n - (intOf i).toNat)
    case atStart => exact ⟨0, Nat.zero_le _, rfl, by simp, hide (Below.refl _ _)⟩
    case round =>
      obtain ⟨j, hj, rfl, rfl, HB⟩ := hrel
      by_cases hlt : j < n
      · obtain ⟨q0, q1, q2⟩ := hssV_get (xs := mkHs k n) (i := j) (by rw [mkHs_length]; exact hlt)
        rw [mkHs_at] at q0 q1 q2
        have hx0 : wr.cell? ⟨g, j * 3, none⟩ = some (.int .i64 ((k + j * 3 : Nat) : Int)) := ((own_below (unhide HO) (unhide HB)).cellAt (j * 3) (by omega)).trans q0
        have hx1 : wr.cell? ⟨g, j * 3 + 1, none⟩ = some (.int .i64 ((k + j * 3 + 1 : Nat) : Int)) := ((own_below (unhide HO) (unhide HB)).cellAt (j * 3 + 1) (by omega)).trans q1
        have hx2 : wr.cell? ⟨g, j * 3 + 2, none⟩ = some (.int .i64 ((k + j * 3 + 2 : Nat) : Int)) := ((own_below (unhide HO) (unhide HB)).cellAt (j * 3 + 2) (by omega)).trans q2
        clear q0 q1 q2
        go_wp2
        go_roundw
        case rel => exact ⟨j + 1, by omega, by go_num, by go_num, HB⟩
        case measure => simp [intOf]; omega
      · go_wp2
        go_ret
        have hjn : j = n := by omega
        subst hjn
        exact ⟨rfl, unhide HB⟩

end Go.Proofs.YtjjkppknojecjaaGreat

namespace Go.Proofs.YtjjkppknojecjaaGreat
open Go.RowKit
set_option linter.unusedVariables false
set_option maxRecDepth 100000

set_option maxHeartbeats 1600000 in
theorem eqReq_same (q : Rq) (w : World) : Calls Tryz.prog 24 #[qV q, qV q] w fun e w' => e = .returned (.bool true) ∧ Below w.heap.size w w' := by
  go_enter Tryz.func24, Tryz.ntmps24
  go_wp2
  go_ret
  exact ⟨rfl, Joins.below_alloc2 _ _ _⟩

end Go.Proofs.YtjjkppknojecjaaGreat

namespace Go.Proofs.YtjjkppknojecjaaGreat
open Go.RowKit
set_option linter.unusedVariables false
set_option maxRecDepth 100000

end Go.Proofs.YtjjkppknojecjaaGreat

namespace Go.Proofs.YtjjkppknojecjaaGreat
open Go.RowKit
set_option linter.unusedVariables false
set_option maxRecDepth 100000

end Go.Proofs.YtjjkppknojecjaaGreat

namespace Go.Proofs.YtjjkppknojecjaaGreat
open Go.RowKit
set_option linter.unusedVariables false
set_option maxRecDepth 100000

end Go.Proofs.YtjjkppknojecjaaGreat

namespace Go.Proofs.YtjjkppknojecjaaGreat
open Go.RowKit
set_option linter.unusedVariables false
set_option maxRecDepth 100000

theorem eqInts_same (ao bo : Option Addr) (ca cb : Nat) (xs : List Int) (w : World) (hl : xs.length ≤ maxLen) (hc : Is w ao xs) (hd : Is w bo xs) :
    Calls Tryz.prog 51 #[.slice ao xs.length ca, .slice bo xs.length cb] w fun e w' => e = .returned (.bool true) ∧ Below w.heap.size w w' := by
  refine (eqIntS_any ao bo ca cb xs xs w hl hc hd).mono ?_
  rintro e w' ⟨rfl, hb⟩
  rw [eqNB_self]
  exact ⟨rfl, hb⟩

end Go.Proofs.YtjjkppknojecjaaGreat
