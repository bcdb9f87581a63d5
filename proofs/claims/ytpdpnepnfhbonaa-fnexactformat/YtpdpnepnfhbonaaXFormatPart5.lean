import Derived.Test.YtpdpnepnfhbonaaRows
import Derived.Test.YtpdpnepnfhbonaaXFormatPart1
import Derived.Test.YtpdpnepnfhbonaaXFormatPart3
import Derived.Test.YtpdpnepnfhbonaaXFormatPart4
import Derived.WalkKit
import Derived.WalkSpells
import Derived.KernelRfl
import Derived.BigQuiet
import Derived.Deep.QuietTactic
import Derived.Deep.RegionWith
import Derived.Laws.MakeOwn
import Derived.Laws.OwnMore
import Derived.LoopN
import Derived.Deep.CutRange
import Derived.Orders
import Derived.Still
import Derived.Test.YtpdpnepnfhbonaaXFormatPart2
import Derived.Deep.RegionHeld3
import Derived.Maps.Own
import Derived.Maps.OwnOps
import Derived.Maps.OwnSet
import Derived.Maps.RangeWalk
import Derived.Maps.Views
import Derived.Deep.MidRow
import Derived.Deep.Quiet

namespace Go.Proofs.Ytpdpnepnfhbonaa
open Go.RowKit
set_option linter.unusedVariables false
set_option maxRecDepth 100000

def imNew (n : Nat) : Img := ⟨zero24, List.replicate n 0, [], zero24⟩
def niF (n : Int) : Int := if betw n 0 12 = true then 0 else 4
def im0 : Img := ⟨[], [], [], []⟩
def niI (n : Int) : Img := if niF n = 0 then imNew n.toNat else im0
theorem mkZ (n : Nat) (hn : n ≤ 1000) : ∀ W : World, (Instr.makeSlice 23 (.int .i64 (n : Int)) (.int .i64 (n : Int))).run Try.prog W = .ok (.slice (some ⟨W.heap.size, 0, none⟩) n n) (W.alloc (.cells (intV (List.replicate n 0)).toArray 3)) := by
  obtain ⟨i0, hi, hz0, hz1, hz2⟩ := info_parts infoIn
  intro W
  have := run_make (P := Try.prog) W 23 3 i0 (.int .i64 0) Try.underlying23 hi hz0 .i64 .i64 n n (by omega) (by omega) (by rw [hz2]; omega) (by omega)
  rw [hz1] at this
  have e : madeCells #[Value.int .i64 0] n = (intV (List.replicate n 0)).toArray := by
    apply Array.toList_inj.1
    rw [made_rep]
    simp [intV]
  rw [show (Value.int .i64 0).cells = #[Value.int .i64 0] from rfl, Int.toNat_natCast, Nat.mul_one, e] at this
  exact this
theorem mk24 : ∀ W : World, (Instr.makeSlice 23 (.int .i64 24) (.int .i64 24)).run Try.prog W = .ok (.slice (some ⟨W.heap.size, 0, none⟩) 24 24) (W.alloc (.cells (intV zero24).toArray 3)) := mkZ 24 (by omega)

section
variable (w : World) (r a b c d : Obj)
theorem chain0 : (((((w.alloc r).alloc a).alloc b).alloc c).alloc d).drew.heap[w.heap.size]? = some r := blk_belowI (blk_belowI (blk_belowI (blk_belowI (blk_belowI (heap_alloc_new w r) (Joins.below_alloc1 _ _)) (Joins.below_alloc1 _ _)) (Joins.below_alloc1 _ _)) (Joins.below_alloc1 _ _)) (Below.refl _ _).drew
theorem chain1 : (((((w.alloc r).alloc a).alloc b).alloc c).alloc d).drew.heap[w.heap.size + 1]? = some a := by
  have h := heap_alloc_new (w.alloc r) a
  rw [World.size_alloc] at h
  exact blk_belowI (blk_belowI (blk_belowI (blk_belowI h (Joins.below_alloc1 _ _)) (Joins.below_alloc1 _ _)) (Joins.below_alloc1 _ _)) (Below.refl _ _).drew
theorem chain2 : (((((w.alloc r).alloc a).alloc b).alloc c).alloc d).drew.heap[w.heap.size + 1 + 1]? = some b := by
  have h := heap_alloc_new ((w.alloc r).alloc a) b
  rw [World.size_alloc, World.size_alloc] at h
  exact blk_belowI (blk_belowI (blk_belowI h (Joins.below_alloc1 _ _)) (Joins.below_alloc1 _ _)) (Below.refl _ _).drew
theorem chain3 : (((((w.alloc r).alloc a).alloc b).alloc c).alloc d).drew.heap[w.heap.size + 1 + 1 + 1]? = some c := by
  have h := heap_alloc_new (((w.alloc r).alloc a).alloc b) c
  rw [World.size_alloc, World.size_alloc, World.size_alloc] at h
  exact blk_belowI (blk_belowI h (Joins.below_alloc1 _ _)) (Below.refl _ _).drew
theorem chain4 : (((((w.alloc r).alloc a).alloc b).alloc c).alloc d).drew.heap[w.heap.size + 1 + 1 + 1 + 1]? = some d := by
  have h := heap_alloc_new ((((w.alloc r).alloc a).alloc b).alloc c) d
  rw [World.size_alloc, World.size_alloc, World.size_alloc, World.size_alloc] at h
  exact blk_belowI h (Below.refl _ _).drew
theorem chainB : Below w.heap.size w (((((w.alloc r).alloc a).alloc b).alloc c).alloc d).drew := (fr (fr (Joins.below_alloc3 w r a b) (Joins.below_alloc1 _ c)) (Joins.below_alloc1 _ d)).drew
end
theorem own_made {W : World} {B g n : Nat} {xs : List Int} (h : W.heap[g]? = some (.cells (intV xs).toArray 3 (0, 0))) (hB : B ≤ g) (hn : xs.length = n) (hl : n ≤ 1000) : OwnN W B (.slice (some ⟨g, 0, none⟩) n n) xs := by
  refine OwnN.mk' ?_ hn
  subst hn
  rcases Nat.eq_zero_or_pos xs.length with h0 | h0
  · refine .inl ⟨h0, ?_, some ⟨g, 0, none⟩, by rw [h0]⟩
    rw [List.eq_nil_of_length_eq_zero h0]; rfl
  · exact .inr ⟨h0, by rw [intV_length]; omega, .inr ⟨g, xs.length, (intV xs).toArray, rfl, hB, h, Nat.le_refl _, by unfold maxLen; omega, by simp [intV_length], by rw [List.take_of_length_le (by simp [intV_length])]⟩⟩
theorem own_ne {v : Value} {g h n m c d : Nat} (hne : g ≠ h) : ∀ x, Own (.slice (some ⟨g, 0, none⟩) n c) x → ¬ Own (.slice (some ⟨h, 0, none⟩) m d) x := by
  rintro x ⟨a, k, e, h1, h2⟩ ⟨a', k', e', h1', h2'⟩
  cases h1
  cases h1'
  simp only at h2 h2'
  omega
theorem new_leaf {w W : World} {n g0 g1 gs g3 : Nat} (hn : n ≤ 1000) (h0 : W.heap[g0]? = some (.cells (intV zero24).toArray 3 (0, 0))) (h1 : W.heap[g1]? = some (.cells (intV (List.replicate n 0)).toArray 3 (0, 0))) (h3 : W.heap[g3]? = some (.cells (intV zero24).toArray 3 (0, 0)))
    (n1 : g0 ≠ g1) (n2 : g0 ≠ g3) (n3 : g1 ≠ g3) (b0 : w.heap.size ≤ g0) (b1 : w.heap.size ≤ g1) (b3 : w.heap.size ≤ g3) (hb : Below w.heap.size w W) :
    ∃ a, Ending.returned (.agg #[.slice (some ⟨g0, 0, none⟩) 24 24, .slice (some ⟨g1, 0, none⟩) n n, .slice (some ⟨gs, 0, none⟩) 0 0, .slice (some ⟨g3, 0, none⟩) 24 24]) = .returned (imV a (imNew n)) ∧ OwnIm W w.heap.size a (imNew n) [] ∧ Below w.heap.size w W := by
  have hl : (imNew n).table.length = n := by simp [imNew]
  refine ⟨⟨some ⟨g0, 0, none⟩, 24, some ⟨g1, 0, none⟩, n, some ⟨gs, 0, none⟩, 0, some ⟨g3, 0, none⟩, 24⟩, by simp only [imV, hl]; rfl, ⟨rfl, .inl ⟨rfl, rfl, _, _, rfl⟩, ?_⟩, hb⟩
  have o0 := own_made (B := w.heap.size) (n := 24) h0 b0 rfl (by omega)
  have o1 := own_made (B := w.heap.size) (n := n) h1 b1 (by simp) hn
  have o3 := own_made (B := w.heap.size) (n := 24) h3 b3 rfl (by omega)
  have e : imRows ⟨some ⟨g0, 0, none⟩, 24, some ⟨g1, 0, none⟩, n, some ⟨gs, 0, none⟩, 0, some ⟨g3, 0, none⟩, 24⟩ (imNew n) [] = [(.slice (some ⟨g0, 0, none⟩) 24 24, zero24), (.slice (some ⟨g1, 0, none⟩) n n, List.replicate n 0), (.slice (some ⟨g3, 0, none⟩) 24 24, zero24)] := by
    simp only [imRows, hl]; rfl
  rw [e]
  refine ⟨fun r hr => ?_, ?_⟩
  · simp only [List.mem_cons, List.not_mem_nil, or_false] at hr
    rcases hr with rfl | rfl | rfl
    · exact o0
    · exact o1
    · exact o3
  · simp only [List.pairwise_cons, List.mem_cons, List.not_mem_nil, or_false, forall_eq_or_imp, forall_eq, List.Pairwise.nil, and_true]
    exact ⟨⟨own_ne (v := undef) n1, own_ne (v := undef) n2⟩, own_ne (v := undef) n3, fun _ h => h.elim⟩
theorem res_im {fn : Func} {p : Tmp} {v0 v1 v2 v3 : Value} {x : Nat} {W : World} {tmps : Array Value} (h : fn.results = #[.cell p 26]) (hp : tmps.getD p undef = .pointer (some ⟨x, 0, none⟩)) (hv : W.heap[x]? = some (.cells #[v0, v1, v2, v3] 26 (0, 0))) :
    (results fn tmps).run Try.prog W = .ok (.agg #[v0, v1, v2, v3]) W := by
  obtain ⟨c0, c1, c2, c3⟩ := VarM.cells (t := 26) hv
  rw [Array.getD_eq_getD_getElem?] at hp
  simp [results, h, hp, go_sem, c0, c1, c2, c3]

set_option maxHeartbeats 6400000 in
theorem l10New_any (n : Nat) (w : World) (hn : n ≤ 1000) :
    Calls Try.prog 66 #[.int .i64 n] w fun e w' => ∃ a, e = .returned (imV a (imNew n)) ∧ OwnIm w' w.heap.size a (imNew n) [] ∧ Below w.heap.size w w' := by
  have h24 := mk24
  have hmn := mkZ n hn
  have HL := hide (fun (W : World) (g0 g1 gs g3 : Nat) => new_leaf (w := w) (W := W) (n := n) (g0 := g0) (g1 := g1) (gs := gs) (g3 := g3) hn)
  generalize (intV zero24).toArray = Z24 at *
  generalize (intV (List.replicate n 0)).toArray = ZN at *
  go_enter Try.func66, Try.ntmps66
  go_wp2
  go_region
  all_goals
    go_wp2
    refine bodyPost_ret (res_im Try.results66 rfl (chain0 w _ _ _ _ _)) rfl ?_
    exact unhide HL _ _ _ _ _ (by first | exact chain1 _ _ _ _ _ _ | exact chain2 _ _ _ _ _ _ | exact chain3 _ _ _ _ _ _ | exact chain4 _ _ _ _ _ _) (by first | exact chain1 _ _ _ _ _ _ | exact chain2 _ _ _ _ _ _ | exact chain3 _ _ _ _ _ _ | exact chain4 _ _ _ _ _ _) (by first | exact chain1 _ _ _ _ _ _ | exact chain2 _ _ _ _ _ _ | exact chain3 _ _ _ _ _ _ | exact chain4 _ _ _ _ _ _) (by omega) (by omega) (by omega) (by omega) (by omega) (by omega) (chainB _ _ _ _ _ _)

theorem res_ic {fn : Func} {p u : Tmp} {v0 v1 v2 v3 z : Value} {x : Nat} {W : World} {tmps : Array Value} (h : fn.results = #[.cell p 26, .tmp u]) (hp : tmps.getD p undef = .pointer (some ⟨x, 0, none⟩)) (hu : tmps.getD u undef = z) (hv : W.heap[x]? = some (.cells #[v0, v1, v2, v3] 26 (0, 0))) :
    (results fn tmps).run Try.prog W = .ok (.tuple #[.agg #[v0, v1, v2, v3], z]) W := by
  obtain ⟨c0, c1, c2, c3⟩ := VarM.cells (t := 26) hv
  rw [Array.getD_eq_getD_getElem?] at hp hu
  simp [results, h, hp, hu, go_sem, c0, c1, c2, c3]
theorem OwnIm.zero (w : World) (B : Nat) : OwnIm w B ⟨none, 0, none, 0, none, 0, none, 0⟩ im0 [] := ⟨rfl, .inl ⟨rfl, rfl, _, _, rfl⟩, by
  unfold imRows
  refine ⟨fun r hr => ?_, ?_⟩
  · simp only [im0, List.map_nil, List.zip_nil_right, List.mem_cons, List.not_mem_nil, or_false] at hr
    rcases hr with rfl | rfl | rfl <;> exact OwnN.nil _ _ _
  · simp only [im0, List.map_nil, List.zip_nil_right, List.pairwise_cons, List.mem_cons, List.not_mem_nil, or_false, List.Pairwise.nil, and_true]
    exact ⟨fun a ha g hg => absurd hg own_no, fun a ha g hg => absurd hg own_no, fun _ h => h.elim⟩⟩

end Go.Proofs.Ytpdpnepnfhbonaa

namespace Go.Proofs.Ytpdpnepnfhbonaa
open Go.RowKit
set_option linter.unusedVariables false
set_option maxRecDepth 100000

end Go.Proofs.Ytpdpnepnfhbonaa

namespace Go.Proofs.Ytpdpnepnfhbonaa
open Go.RowKit
set_option linter.unusedVariables false

section
variable {P : Program}
def Closed (l : List Oper) (d : Nat → Bool) : Prop := ∀ (j : Nat) (o : Oper), l[j]? = some o → d j = true → ∀ e ∈ o.after, Region.binds .any e = true → d e.on = true
end

end Go.Proofs.Ytpdpnepnfhbonaa

namespace Go.Proofs.Ytpdpnepnfhbonaa
open Go.RowKit
set_option linter.unusedVariables false
set_option maxRecDepth 100000

end Go.Proofs.Ytpdpnepnfhbonaa

namespace Go.Proofs.Ytpdpnepnfhbonaa
open Go.RowKit
set_option linter.unusedVariables false
set_option maxRecDepth 100000

end Go.Proofs.Ytpdpnepnfhbonaa

namespace Go.Proofs.Ytpdpnepnfhbonaa
open Go.RowKit
set_option linter.unusedVariables false
set_option maxRecDepth 100000

end Go.Proofs.Ytpdpnepnfhbonaa

namespace Go.Proofs.Ytpdpnepnfhbonaa
open Go.RowKit
set_option linter.unusedVariables false
set_option maxRecDepth 100000

end Go.Proofs.Ytpdpnepnfhbonaa

namespace Go.Proofs.Ytpdpnepnfhbonaa
open Go.RowKit
set_option linter.unusedVariables false
set_option maxRecDepth 100000

end Go.Proofs.Ytpdpnepnfhbonaa

namespace Go.Proofs.Ytpdpnepnfhbonaa
open Go.RowKit
set_option linter.unusedVariables false
set_option maxRecDepth 100000

theorem OwnIm.shows {w : World} {B : Nat} {a : Im4} {m : Img} {ts : List Value} (h : OwnIm w B a m ts) (hz : ∀ s ∈ m.snaps, s.name.size ≤ maxLen ∧ s.table.length ≤ maxLen) : ImS w a m := by
  refine ⟨ownRN (h.rows.own (.slice a.ro m.refs.length a.rc, m.refs) (by simp [imRows])).row, ownRN (h.rows.own (.slice a.tq m.table.length a.tc, m.table) (by simp [imRows])).row, fun i hi => ?_, ownRN (h.rows.own (.slice a.dq m.data.length a.dc, m.data) (by simp [imRows])).row⟩
  have hp : 0 < m.snaps.length := by omega
  have hit : i < ts.length := by rw [← h.len]; exact hi
  have hs := h.s.row hp
  obtain ⟨g, cap, cur, e, _, _⟩ := own_form hp hs
  rw [e] at hs
  simp only [Value.slice.injEq, true_and] at e
  obtain ⟨e1, e2⟩ := e
  have hgs := snC_get (List.getElem?_eq_getElem hi) (List.getElem?_eq_getElem hit)
  have hm : (ts[i], m.snaps[i].table) ∈ imRows a m ts := by
    have : (ts.zip (m.snaps.map (·.table)))[i]? = some (ts[i], m.snaps[i].table) := by
      rw [List.getElem?_zip_eq_some]
      exact ⟨List.getElem?_eq_getElem hit, by simp [hi]⟩
    simp [imRows, List.mem_of_getElem? this]
  obtain ⟨tq, tc, et, ho⟩ := h.rows.own _ hm
  simp only at et ho
  refine ⟨g, 0, tq, tc, e1, ?_, ?_, ownRN ho, (hz _ (List.getElem_mem hi)).1, (hz _ (List.getElem_mem hi)).2⟩
  · rw [Nat.zero_add]; exact (hs.cellAt (i * 2) (by omega)).trans hgs.1
  · rw [Nat.zero_add]; exact (hs.cellAt (i * 2 + 1) (by omega)).trans (by rw [hgs.2, et])

end Go.Proofs.Ytpdpnepnfhbonaa

namespace Go.Proofs.Ytpdpnepnfhbonaa
open Go.RowKit
set_option linter.unusedVariables false
set_option maxRecDepth 100000

end Go.Proofs.Ytpdpnepnfhbonaa

namespace Go.Proofs.Ytpdpnepnfhbonaa
open Go.RowKit Go.Maps
set_option linter.unusedVariables false
set_option maxRecDepth 100000

theorem incr_get (ns : List Int) (hl : ns.length = 24) (c i : Nat) (hc : c < 24) (hi : i < 24) : (incr ns (c : Int)).getD i 0 = ns.getD i 0 + (if i = c then 1 else 0) := by
  rw [incr_set]
  simp only [List.getD, List.getElem?_set]
  by_cases e : i = c
  · subst e; simp [hl, hi]
  · simp [e, Ne.symm e]
theorem fold_incr_get (i : Nat) (hi : i < 24) : ∀ (L : List Int), (∀ c ∈ L, 0 ≤ c ∧ c ≤ 23) → ∀ ns : List Int, ns.length = 24 → (L.foldl incr ns).getD i 0 = ns.getD i 0 + (L.count (i : Int) : Int) := by
  intro L
  induction L with
  | nil => intro _ ns _; simp
  | cons c L ih =>
    intro hL ns hl
    obtain ⟨c0, c1⟩ := hL c (by simp)
    obtain ⟨q, rfl⟩ := Int.eq_ofNat_of_zero_le c0
    rw [List.foldl_cons, ih (fun d hd => hL d (by simp [hd])) _ (by rw [incr_len]; exact hl), incr_get ns hl q i (by omega) hi, List.count_cons]
    by_cases e : i = q
    · subst e; simp; omega
    · have e2 : ¬ ((q : Int) = (i : Int)) := by omega
      simp [e, e2]
theorem nodup_count : ∀ (L : List Int), L.Nodup ↔ ∀ x ∈ L, L.count x ≤ 1 := by
  intro L
  induction L with
  | nil => simp
  | cons c L ih =>
    rw [List.nodup_cons, ih]
    constructor
    · rintro ⟨h1, h2⟩ x hx
      rw [List.count_cons]
      by_cases e : c = x
      · subst e
        rw [List.count_eq_zero_of_not_mem h1]; simp
      · have : x ∈ L := by simpa [Ne.symm e] using hx
        have := h2 x this
        simp [e]; omega
    · intro h
      refine ⟨fun hm => ?_, fun x hx => ?_⟩
      · have h1 := h c (by simp)
        rw [List.count_cons] at h1
        have := List.count_pos_iff.2 hm
        simp at h1; omega
      · have h1 := h x (by simp [hx])
        rw [List.count_cons] at h1
        omega
theorem cl_mem {t : List Int} (h : tbB t = true) : ∀ c ∈ clA t, 0 ≤ c ∧ c ≤ 23 := fun c hc => by
  obtain ⟨j, hj, rfl⟩ := List.mem_iff_getElem.1 hc
  exact clA_in h j hj
theorem cnt1T_get {t : List Int} (h : tbB t = true) {ns : List Int} (hl : ns.length = 24) {i : Nat} (hi : i < 24) : (cnt1T ns t).getD i 0 = ns.getD i 0 + ((clA t).count (i : Int) : Int) := fold_incr_get i hi _ (cl_mem h) ns hl
theorem zero24_get {i : Nat} (hi : i < 24) : zero24.getD i 0 = 0 := by
  have h2 : ∀ i : Fin 24, zero24.getD i 0 = 0 := by decide
  exact h2 ⟨i, hi⟩
end Go.Proofs.Ytpdpnepnfhbonaa

namespace Go.Proofs.Ytpdpnepnfhbonaa
open Go.RowKit
set_option linter.unusedVariables false
set_option maxRecDepth 100000

end Go.Proofs.Ytpdpnepnfhbonaa

namespace Go.Proofs.Ytpdpnepnfhbonaa
open Go.RowKit
set_option linter.unusedVariables false
set_option maxRecDepth 100000

end Go.Proofs.Ytpdpnepnfhbonaa

namespace Go.Proofs.Ytpdpnepnfhbonaa
open Go.RowKit Go.Maps
set_option linter.unusedVariables false
set_option maxRecDepth 100000

def VarN (w : World) (x : Nat) (n : ByteArray) (v : Value) : Prop := w.heap[x]? = some (.cells #[.string n, v] 60 (0, 0))
theorem VarN.cells {w : World} {x : Nat} {n : ByteArray} {v : Value} (k : VarN w x n v) : w.cell? ⟨x, 0, none⟩ = some (.string n) ∧ w.cell? ⟨x, 1, none⟩ = some v := ⟨by rw [Joins.cell_of_block k]; rfl, by rw [Joins.cell_of_block k]; rfl⟩
theorem VarN.new (w : World) (n : ByteArray) (v : Value) : VarN (w.alloc (.cells #[.string n, v] 60)) w.heap.size n v := heap_alloc_new w _

def RowT (w : World) (qo : Option Addr) (ts : List (List Int)) : Prop := ∀ j (h : j < ts.length), ∃ b off tq tc, qo = some ⟨b, off, none⟩ ∧ w.cell? ⟨b, off + j, none⟩ = some (.slice tq ts[j].length tc) ∧ Is w tq ts[j]
set_option maxHeartbeats 3200000 in
theorem tablesOf_any (a : Im4) (m : Img) (w : World) (hs : m.snaps.length ≤ 3) (hc : ImS w a m) :
    Calls Try.prog 89 #[imV a m] w fun e w' => ∃ qo qa, e = .returned (.slice qo (imTabs m).length qa) ∧ RowT w' qo (imTabs m) ∧ Below w.heap.size w w' := by
  have HA := hide (Joins.below_alloc1 w (.cells #[.slice a.ro m.refs.length a.rc, .slice a.tq m.table.length a.tc, .slice a.so m.snaps.length a.sc, .slice a.dq m.data.length a.dc] 26))
  have HV := hide (VarM.new w 26 (.slice a.ro m.refs.length a.rc) (.slice a.tq m.table.length a.tc) (.slice a.so m.snaps.length a.sc) (.slice a.dq m.data.length a.dc))
  have HC := hide hc
  clear hc
  obtain ⟨j0, hj, hy0, hy1, hy2⟩ := info_parts infoTb
  go_enter Try.func89, Try.ntmps89
  go_upto_region 1 with fail
  revert HA HV
  generalize (w.alloc _) = w1
  intro HB1 HV1
  have HSZ0 : Hid (w.heap.size < w1.heap.size) := hide (unhide HV1).lt
  obtain ⟨c0, c1, c2, c3⟩ := (unhide HV1).cells
  have HOT : Hid (OwnR (w1.alloc (.cells #[.slice a.tq m.table.length a.tc] 23)) w1.heap.size 23 1 (.slice (some ⟨w1.heap.size, 0, none⟩) 1 1) 1 [.slice a.tq m.table.length a.tc]) := hide (.inr ⟨by omega, rfl, .inr ⟨w1.heap.size, 1, #[.slice a.tq m.table.length a.tc], rfl, Nat.le_refl _, heap_alloc_new w1 _, Nat.le_refl _, by unfold maxLen; omega, rfl, rfl⟩⟩)
  have HBA := hide (Joins.below_alloc1 w1 (.cells #[.slice a.tq m.table.length a.tc] 23))
  go_upto_region 2 with fail
  revert HOT HBA
  generalize (w1.alloc _) = W1
  intro HOT HBA
  clear c0 c1 c2 c3
  obtain ⟨c0, c1, c2, c3⟩ := ((unhide HV1).below (unhide HBA)).cells
  go_wp2
  clear c0 c1 c2 c3
  go_loopw [3, 12] (fun o i wr => ∃ (k : Nat) (qo : Option Addr) (qa : Nat) (vs : List Value), k ≤ m.snaps.length ∧ i = .int .i64 k ∧ o = .slice qo (k + 1) qa ∧ Hid (OwnR wr w1.heap.size 23 1 (.slice qo (k + 1) qa) (k + 1) vs) ∧ Hid (TabV w vs ((imTabs m).take (k + 1))) ∧ Hid (Below w1.heap.size w1 wr)) (fun _ i _ => m.snaps.length - (intOf i).toNat)
  case atStart => exact ⟨0, _, _, [.slice a.tq m.table.length a.tc], Nat.zero_le _, rfl, rfl, HOT, hide (by
    have h0 : TabV w [] [] := ⟨rfl, fun j h => by simp at h⟩
    have := h0.snoc (tc := a.tc) (unhide HC).t
    simpa [imTabs] using this), HBA⟩
  case round =>
    clear HOT HBA
    obtain ⟨k, qo, qa, vs, hk, rfl, rfl, HO, HT, HB⟩ := hrel
    by_cases hlt : k < m.snaps.length
    · obtain ⟨b, off, tq, tc, eb, hn0, ht0, hIs, hz, htl⟩ := ((unhide HC).s.below (fr (unhide HB1) (unhide HB))) k hlt
      obtain ⟨b', off', tq', tc', eb', _, ht0', hIs', _, _⟩ := (unhide HC).s k hlt
      rw [eb] at eb'
      cases eb'
      have ett : Value.slice tq' m.snaps[k].table.length tc' = .slice tq m.snaps[k].table.length tc := by
        have h1 := ((fr (unhide HB1) (unhide HB)).cell (p := ⟨b, off + k * 2 + 1, none⟩) (World.block_lt_of_cell? _ _ ht0')).trans ht0'
        rw [ht0] at h1
        exact (Option.some.inj h1).symm
      have hso := eb
      clear eb
      have hlti : (k : Int) < (m.snaps.length : Int) := by omega
      have HT' : Hid (TabV w (vs ++ [.slice tq m.snaps[k].table.length tc]) ((imTabs m).take (k + 1 + 1))) := hide (by
        rw [imTabs_take hlt, ← ett]
        exact (unhide HT).snoc hIs')
      have HX := hide (VarN.new wr m.snaps[k].name (.slice tq m.snaps[k].table.length tc))
      have HBX := hide (Joins.below_alloc1 wr (.cells #[.string m.snaps[k].name, .slice tq m.snaps[k].table.length tc] 60))
      have HSZ := hide (unhide HB).size
      clear hIs hIs' ht0' ett hz htl
      go_upto_region 5 with fail
      revert HX HBX
      generalize (wr.alloc _) = w2
      intro HX HBX
      obtain ⟨x0, x1⟩ := (unhide HX).cells
      have HO2 := hide ((unhide HO).below (unhide HBX))
      have HB2 := hide (fr (unhide HB) (unhide HBX))
      clear HX HBX hn0 ht0 hso
      have HOA := hide ((unhide HO2).below (Joins.below_alloc1 _ (.cells #[.slice tq m.snaps[k].table.length tc] 23)))
      have HBA := hide (fr (unhide HB2) (Joins.below_alloc1 _ (.cells #[.slice tq m.snaps[k].table.length tc] 23)))
      have HSZ2 := hide (unhide HB2).size
      go_wp2_with (at_builtin; refine wpList_append_one rfl _ _ 103 rfl w1.heap.size 23 j0 (.slice none 0 0) 1 24 Try.underlying103 hj hy0 hy1 hy2 rfl (by omega) qo (k + 1) qa vs rfl (unhide HOA) (by have := unhide HSZ2; simp; omega) ⟨w2.heap.size, 0, none⟩ _ [.slice tq m.snaps[k].table.length tc] rfl rfl (byte_news w2 _ _) (slice_one _ _ _) (by unfold maxLen; omega) (by omega) ?_; intro g2 cap2 wA hoA hkA; have HSF := hide (And.intro hoA (keep_below (unhide HBA) (unhide HOA) (Nat.le_refl _) hkA)); clear hoA hkA)
      go_roundw
      case rel => exact ⟨k + 1, some ⟨g2, 0, none⟩, cap2, vs ++ [.slice tq m.snaps[k].table.length tc], by omega, by go_num, rfl, hide (.inr ⟨by omega, (unhide HSF).1⟩), HT', hide (unhide HSF).2⟩
      case measure => simp [intOf]; omega
    · obtain rfl : k = m.snaps.length := by omega
      have HTT : Hid (TabV w vs (imTabs m)) := hide (by
        have := unhide HT
        rwa [List.take_of_length_le (by rw [imTabs_len]; exact Nat.le_refl _)] at this)
      have HLT := hide (imTabs_len m)
      have HB2 := hide (fr (unhide HB1) (unhide HB))
      have HR : Hid (RowT wr qo (imTabs m)) := hide (fun j hj => by
        have hjn : j < m.snaps.length + 1 := by rw [← unhide HLT]; exact hj
        obtain ⟨tq, tc, hvk, hIs⟩ := (unhide HTT).2 j hj
        obtain ⟨q2, cap2, cur2, eq2, _, _⟩ := own_form (by omega) ((unhide HO).row (by omega))
        have hcell := ((unhide HO).row (by omega))
        rw [eq2] at hcell
        have hck := (hcell.cellAt j (by omega)).trans hvk
        cases eq2
        exact ⟨q2, 0, tq, tc, rfl, by rw [Nat.zero_add]; exact hck, hIs.below (unhide HB2)⟩)
      go_wp2
      go_ret
      exact ⟨qo, qa, by rw [unhide HLT]; rfl, unhide HR, unhide HB2⟩

end Go.Proofs.Ytpdpnepnfhbonaa

namespace Go.Proofs.Ytpdpnepnfhbonaa
open Go.RowKit
set_option linter.unusedVariables false
set_option maxRecDepth 100000

def imFit (m : Img) : Img := { m with refs := imCnt m, data := (List.range 24).map fun i => if (imCnt m).getD i 0 = 0 then 0 else m.data.getD i 0 }
theorem getD_ext {xs ys : List Int} (h1 : xs.length = 24) (h2 : ys.length = 24) (h : ∀ i, i < 24 → xs.getD i 0 = ys.getD i 0) : xs = ys :=
  List.ext_getElem (by rw [h1, h2]) (fun i ha hb => by
    have := h i (by omega)
    simpa [List.getD, ha, hb] using this)
theorem range_getD {f : Nat → Int} {i : Nat} (hi : i < 24) : ((List.range 24).map f).getD i 0 = f i := by simp [List.getD, hi]
end Go.Proofs.Ytpdpnepnfhbonaa

namespace Go.Proofs.Ytpdpnepnfhbonaa
open Go.RowKit
set_option linter.unusedVariables false
set_option maxRecDepth 100000

def cN (t : List Int) (i : Nat) : Int := (t.count ((i : Int) + 2) : Int)
theorem cN_nn (t : List Int) (i : Nat) : 0 ≤ cN t i := by unfold cN; omega
theorem clA_count (t : List Int) (i : Nat) : ((clA t).count (i : Int) : Int) = cN t i := by
  unfold clA clTo cN
  rw [List.take_length]
  induction t with
  | nil => rfl
  | cons e t ih =>
    rw [List.filterMap_cons, List.count_cons]
    by_cases h : 2 ≤ e
    · rw [if_pos h]
      simp only [List.count_cons]
      by_cases h2 : e = (i : Int) + 2
      · have h3 : e - 2 = (i : Int) := by omega
        simp [h2]; omega
      · have h3 : ¬ (e - 2 = (i : Int)) := by omega
        simp [h2, h3]; omega
    · rw [if_neg h]
      have h2 : ¬ (e = (i : Int) + 2) := by omega
      simp [h2]; omega
def sN (ts : List (List Int)) (i : Nat) : Int := (ts.map fun t => cN t i).sum
theorem sN_nn (ts : List (List Int)) (i : Nat) : 0 ≤ sN ts i := by
  unfold sN
  induction ts with
  | nil => exact Int.le_refl _
  | cons t ts ih => rw [List.map_cons, List.sum_cons]; have := cN_nn t i; omega
theorem fold_cnt (i : Nat) (hi : i < 24) : ∀ (ts : List (List Int)), (∀ t ∈ ts, tbB t = true) → ∀ ns : List Int, ns.length = 24 → (ts.foldl cnt1T ns).getD i 0 = ns.getD i 0 + sN ts i := by
  intro ts
  induction ts with
  | nil => intro _ ns _; simp [sN]
  | cons t ts ih =>
    intro ht ns hl
    rw [List.foldl_cons, ih (fun x hx => ht x (by simp [hx])) _ (by rw [cnt1T_len]; exact hl), cnt1T_get (ht t (by simp)) hl hi, clA_count]
    simp only [sN, List.map_cons, List.sum_cons]
    omega
theorem cnt_get {m : Img} (ht : ∀ t ∈ imTabs m, tbB t = true) {i : Nat} (hi : i < 24) : (imCnt m).getD i 0 = sN (imTabs m) i := by
  unfold imCnt
  rw [fold_cnt i hi _ ht _ rfl, zero24_get hi]; omega
theorem ImR.tabs {m : Img} (h : ImR m) : ∀ t ∈ imTabs m, tbB t = true := fun t ht => by
  unfold imTabs at ht
  rw [List.mem_cons, List.mem_map] at ht
  rcases ht with rfl | ⟨s, hs, rfl⟩
  · exact h.table
  · exact (h.snaps s hs).2
theorem ImR.rl {m : Img} (h : ImR m) : m.refs.length = 24 := ctB_len h.refs
theorem sN_cons (t : List Int) (ts : List (List Int)) (i : Nat) : sN (t :: ts) i = cN t i + sN ts i := rfl
theorem sN_tabs (m : Img) (i : Nat) : sN (imTabs m) i = cN m.table i + sN (m.snaps.map (·.table)) i := rfl
theorem img_eq {m n : Img} (h1 : m.refs = n.refs) (h2 : m.table = n.table) (h3 : m.snaps = n.snaps) (h4 : m.data = n.data) : m = n := by
  cases m; cases n; simp only at h1 h2 h3 h4; subst h1 h2 h3 h4; rfl
theorem fit_eq {m1 n : Img} (ht : ∀ t ∈ imTabs m1, tbB t = true) (hr : n.refs.length = 24) (hd : n.data.length = 24) (h2 : m1.table = n.table) (h3 : m1.snaps = n.snaps) (hR : ∀ i, i < 24 → n.refs.getD i 0 = sN (imTabs m1) i) (hD : ∀ i, i < 24 → n.data.getD i 0 = if sN (imTabs m1) i = 0 then 0 else m1.data.getD i 0) : imFit m1 = n := by
  refine img_eq ?_ h2 h3 ?_
  · exact getD_ext (imCnt_len m1) hr (fun i hi => by rw [hR i hi]; exact cnt_get ht hi)
  · refine getD_ext (by simp [imFit]) hd (fun i hi => ?_)
    rw [hD i hi]
    unfold imFit
    simp only
    rw [range_getD hi, cnt_get ht hi]
end Go.Proofs.Ytpdpnepnfhbonaa

namespace Go.Proofs.Ytpdpnepnfhbonaa
open Go.RowKit
set_option linter.unusedVariables false
set_option maxRecDepth 100000

theorem once_cN {t : List Int} (h : tbB t = true) : (clA t).Nodup ↔ ∀ i, i < 24 → cN t i ≤ 1 := by
  constructor
  · intro hn i hi
    rw [← clA_count]
    by_cases hm : (i : Int) ∈ clA t
    · have := (nodup_count _).1 hn _ hm; omega
    · rw [List.count_eq_zero_of_not_mem hm]; omega
  · intro hc
    refine (nodup_count _).2 fun x hx => ?_
    obtain ⟨c0, c1⟩ := cl_mem h x hx
    obtain ⟨q, rfl⟩ := Int.eq_ofNat_of_zero_le c0
    have := hc q (by omega)
    rw [← clA_count] at this
    omega
structure PreR (m : Img) : Prop where
  few : m.snaps.length ≤ 3
  len : m.data.length = 24
  t : ∀ t ∈ imTabs m, tbB t = true
  once : ∀ t ∈ imTabs m, ∀ i, i < 24 → cN t i ≤ 1
  nm : ∀ s ∈ m.snaps, snmB s.name = true
  names : (m.snaps.map (·.name)).Nodup
  nums : ∀ n ∈ m.data, numB n = true
theorem sN_le {i : Nat} (hi : i < 24) : ∀ ts : List (List Int), (∀ t ∈ ts, ∀ i, i < 24 → cN t i ≤ 1) → sN ts i ≤ ts.length := by
  intro ts
  induction ts with
  | nil => intro _; exact Int.le_refl _
  | cons t ts ih =>
    intro h
    have h1 := h t (by simp) i hi
    have h2 := ih (fun x hx => h x (by simp [hx]))
    rw [sN_cons, List.length_cons]
    omega
theorem ctB_mk {xs : List Int} (hl : xs.length = 24) (h : ∀ i, i < 24 → 0 ≤ xs.getD i 0 ∧ xs.getD i 0 ≤ 15) : ctB xs = true := by
  unfold ctB
  simp only [Bool.and_eq_true, decide_eq_true_eq, List.all_eq_true]
  refine ⟨hl, fun x hx => ?_⟩
  obtain ⟨j, hj, rfl⟩ := List.mem_iff_getElem.1 hx
  have := h j (by omega)
  rw [show xs.getD j 0 = xs[j] by simp [List.getD, hj]] at this
  exact betw_iff.2 this
theorem PreR.fit {m : Img} (h : PreR m) : ImR (imFit m) := by
  have hlen : (imTabs m).length ≤ 4 := by rw [imTabs_len]; have := h.few; omega
  have hg : ∀ i, i < 24 → (imFit m).refs.getD i 0 = sN (imTabs m) i := fun i hi => cnt_get h.t hi
  refine ⟨ctB_mk (imCnt_len m) (fun i hi => ?_), h.t _ (by simp [imTabs, imFit]), h.few, by simp [imFit], fun s hs => ⟨h.nm s hs, h.t _ (by unfold imTabs; exact List.mem_cons_of_mem _ (List.mem_map.2 ⟨s, hs, rfl⟩))⟩, h.names, fun n hn => ?_, fun t ht => (once_cN (h.t t ht)).2 (h.once t ht), rfl, fun i hi hz => ?_⟩
  · have h1 := sN_le hi _ h.once
    have h2 := sN_nn (imTabs m) i
    rw [hg i hi]
    omega
  · unfold imFit at hn
    simp only at hn
    obtain ⟨i, hi, rfl⟩ := List.mem_map.1 hn
    have hi' := List.mem_range.1 hi
    split
    · rfl
    · rw [show m.data.getD i 0 = m.data[i]'(by rw [h.len]; exact hi') by simp [List.getD, h.len, hi']]
      exact h.nums _ (List.getElem_mem _)
  · unfold imFit
    simp only
    rw [range_getD hi]
    have hz' : (imCnt m).getD i 0 = 0 := hz
    rw [if_pos hz']
theorem sN_append (s t : List (List Int)) (i : Nat) : sN (s ++ t) i = sN s i + sN t i := by unfold sN; rw [List.map_append, List.sum_append]
theorem raise_get {m : Img} {t : List Int} (hr : m.refs.length = 24) (ht : tbB t = true) {i : Nat} (hi : i < 24) : (imRaise m t).refs.getD i 0 = m.refs.getD i 0 + cN t i := by
  rw [← clA_count]
  exact fold_incr_get i hi _ (cl_mem ht) _ hr
theorem raise_len (m : Img) (t : List Int) : (imRaise m t).refs.length = m.refs.length := cnt1T_len t m.refs
theorem fit_create {m : Img} (h : ImR m) (name : ByteArray) : imFit { m with snaps := m.snaps ++ [⟨name, m.table⟩] } = { imRaise m m.table with snaps := m.snaps ++ [⟨name, m.table⟩] } := by
  have hcs : ∀ i, sN (imTabs { m with snaps := m.snaps ++ [⟨name, m.table⟩] }) i = sN (imTabs m) i + cN m.table i := fun i => by
    have e : sN (imTabs { m with snaps := m.snaps ++ [⟨name, m.table⟩] }) i = cN m.table i + sN (List.map (fun s : Snp => s.table) (m.snaps ++ [⟨name, m.table⟩])) i := rfl
    have e2 : sN [m.table] i = cN m.table i := by rw [sN_cons]; simp [sN]
    rw [e, List.map_append, sN_append, sN_tabs]
    show _ + (_ + sN [m.table] i) = _
    rw [e2]; omega
  have ht : ∀ t ∈ imTabs { m with snaps := m.snaps ++ [⟨name, m.table⟩] }, tbB t = true := fun t ht => by
    have ht' : t ∈ m.table :: List.map (fun s : Snp => s.table) (m.snaps ++ [⟨name, m.table⟩]) := ht
    simp only [List.map_append, List.mem_cons, List.mem_append, List.map_cons, List.map_nil, List.not_mem_nil, or_false] at ht'
    rcases ht' with rfl | ht' | rfl
    · exact h.table
    · exact h.tabs t (by unfold imTabs; exact List.mem_cons_of_mem _ ht')
    · exact h.table
  refine fit_eq (n := { imRaise m m.table with snaps := m.snaps ++ [⟨name, m.table⟩] }) ht (by show (imRaise m m.table).refs.length = 24; rw [raise_len]; exact h.rl) h.len rfl rfl (fun i hi => ?_) (fun i hi => ?_)
  · show (imRaise m m.table).refs.getD i 0 = _
    rw [raise_get h.rl h.table hi, hcs, h.cntA hi]
  · show m.data.getD i 0 = if _ then 0 else m.data.getD i 0
    rw [hcs, ← h.cntA hi]
    have h1 := cN_nn m.table i
    have h2 := sN_nn (imTabs m) i
    rw [← h.cntA hi] at h2
    by_cases hz : m.refs.getD i 0 + cN m.table i = 0
    · rw [if_pos hz, h.clear i hi (by omega)]
    · rw [if_neg hz]
theorem ImR.create {m : Img} (h : ImR m) (name : ByteArray) : ImR (imCreate m name).1 := by
  unfold imCreate
  split
  · rename_i hn
    split
    · exact h
    · rename_i hf
      split
      · exact h
      · rename_i h3
        show ImR { imRaise m m.table with snaps := m.snaps ++ [⟨name, m.table⟩] }
        rw [← fit_create h name]
        refine PreR.fit ⟨?_, h.len, fun t ht => ?_, fun t ht => ?_, fun s hs => ?_, ?_, h.nums⟩
        · have := h.few
          simp only [List.length_append, List.length_singleton]; omega
        · have ht' : t ∈ m.table :: List.map (fun s : Snp => s.table) (m.snaps ++ [⟨name, m.table⟩]) := ht
          simp only [List.map_append, List.mem_cons, List.mem_append, List.map_cons, List.map_nil, List.not_mem_nil, or_false] at ht'
          rcases ht' with rfl | ht' | rfl
          · exact h.table
          · exact h.tabs t (by unfold imTabs; exact List.mem_cons_of_mem _ ht')
          · exact h.table
        · have ht' : t ∈ m.table :: List.map (fun s : Snp => s.table) (m.snaps ++ [⟨name, m.table⟩]) := ht
          simp only [List.map_append, List.mem_cons, List.mem_append, List.map_cons, List.map_nil, List.not_mem_nil, or_false] at ht'
          rcases ht' with rfl | ht' | rfl
          · exact h.cN_le
          · exact h.pre.once t (by unfold imTabs; exact List.mem_cons_of_mem _ ht')
          · exact h.cN_le
        · simp only [List.mem_append, List.mem_singleton] at hs
          rcases hs with hs | rfl
          · exact (h.snaps s hs).1
          · exact hn
        · rw [List.map_append, List.nodup_append]
          refine ⟨h.names, by simp, ?_⟩
          intro a ha b hb
          simp only [List.map_cons, List.map_nil, List.mem_singleton] at hb
          subst hb
          rintro rfl
          obtain ⟨s, hs, e⟩ := List.mem_map.1 ha
          apply hf
          unfold imFind
          rw [List.findIdx_lt_length]
          exact ⟨s, hs, by simp [e]⟩
  · exact h
theorem ImR.new {n : Nat} (hn : n ≤ 12) : ImR (imNew n) := by
  have hrep : ∀ i (hi : i < (List.replicate n (0 : Int)).length), (List.replicate n (0 : Int))[i] = 0 := fun i hi => by simp
  have ht : tbB (List.replicate n (0 : Int)) = true := tbB_of (by simpa using hn) (fun i hi => by rw [hrep]; rfl)
  have hc : ∀ i, cN (List.replicate n (0 : Int)) i = 0 := fun i => by
    unfold cN
    rw [List.count_eq_zero_of_not_mem (fun h => by have := List.eq_of_mem_replicate h; omega)]; rfl
  have hp : PreR (imNew n) := ⟨by simp [imNew], rfl, fun t h => (by simp only [imTabs, imNew, List.map_nil, List.mem_singleton] at h; subst h; exact ht), fun t h => (by simp only [imTabs, imNew, List.map_nil, List.mem_singleton] at h; subst h; intro i _; rw [hc]; omega), fun s hs => (by cases hs), List.nodup_nil, (by show ∀ n ∈ zero24, numB n = true; decide)⟩
  have e : imFit (imNew n) = imNew n := by
    refine fit_eq hp.t rfl rfl rfl rfl (fun i hi => ?_) (fun i hi => ?_)
    · show zero24.getD i 0 = _
      rw [zero24_get hi, sN_tabs]
      show _ = cN (List.replicate n (0 : Int)) i + sN [] i
      rw [hc]; rfl
    · show zero24.getD i 0 = if _ then 0 else zero24.getD i 0
      rw [zero24_get hi]; simp
  rw [← e]
  exact hp.fit

end Go.Proofs.Ytpdpnepnfhbonaa

namespace Go.Proofs.Ytpdpnepnfhbonaa
open Go.RowKit
set_option linter.unusedVariables false
set_option maxRecDepth 100000

theorem hx_in (xs : List Int) (i : Nat) (h : ∀ j, 0 ≤ xs.getD j 0 ∧ xs.getD j 0 ≤ 15) : ∀ m, 0 ≤ hx6 xs i m ∧ hx6 xs i m < 16 ^ m
  | 0 => by simp [hx6]
  | m + 1 => by
    obtain ⟨h0, h1⟩ := hx_in xs i h m
    obtain ⟨g0, g1⟩ := h (i + (5 - m))
    rw [hx6, show (16 : Int) ^ (m + 1) = 16 ^ m * 16 from Int.pow_succ 16 m]
    generalize (16 : Int) ^ m = P at *
    omega
theorem hx_le {xs : List Int} (hb : ctB xs = true) (i m : Nat) (hm : m ≤ 5) : 0 ≤ hx6 xs i m ∧ hx6 xs i m ≤ 1048576 := by
  obtain ⟨h0, h1⟩ := hx_in xs i (ctB_getD hb) m
  have hp : (16 : Int) ^ m ≤ 1048576 := by
    match m, hm with
    | 0, _ => decide
    | 1, _ => decide
    | 2, _ => decide
    | 3, _ => decide
    | 4, _ => decide
    | 5, _ => decide
  omega
theorem ctNs_get (xs : List Int) (q : Nat) (h : q < (ctNs xs).length) : (ctNs xs)[q] = lo6 xs (6 * q) 6 := by
  have h4 : q < 4 := h
  match q, h4 with
  | 0, _ => rfl
  | 1, _ => rfl
  | 2, _ => rfl
  | 3, _ => rfl
theorem take_snoc {xs : List Int} {q : Nat} {n : Int} (h : q < xs.length) (e : n = xs[q]) : xs.take (q + 1) = xs.take q ++ [n] := by
  rw [e, List.take_succ_eq_append_getElem h]

set_option maxHeartbeats 3200000 in
theorem l08Encode_any (ao : Option Addr) (cap : Nat) (xs : List Int) (w : World) (hb : ctB xs = true) (hc : Is w ao xs) :
    Calls Try.prog 125 #[.slice ao xs.length cap] w fun e w' => e = .returned (.string (encT xs)) ∧ Below w.heap.size w w' := by
  obtain ⟨j0, hj, hy0, hy1, hy2⟩ := info_parts infoM
  have HCB := hide hb
  have HL := hide (ctB_len hb)
  have HC := hide hc
  have HA : Hid (Below w.heap.size w (w.alloc (.cells #[] 3))) := hide (Joins.below_alloc1 _ _)
  clear hb hc
  go_enter Try.func125, Try.ntmps125
  go_wp2
  go_loopw [3, 4] (fun o i wr => ∃ (q : Nat) (qo : Option Addr) (qa : Nat), q ≤ 4 ∧ i = .int .i64 (6 * (q : Int)) ∧ o = .slice qo q qa ∧ Hid (OwnR wr w.heap.size 3 1 (.slice qo q qa) q (intV ((ctNs xs).take q))) ∧ Hid (Below w.heap.size w wr)) (fun _ i _ => 24 - (intOf i).toNat)
  case atStart => exact ⟨0, _, _, Nat.zero_le _, rfl, rfl, hide (.inl ⟨rfl, rfl, _, rfl⟩), HA⟩
  case round =>
    obtain ⟨q, qo, qa, hq, rfl, rfl, HO, HB⟩ := hrel
    by_cases hlt : q < 4
    · have hlt' : 6 * (q : Int) < 24 := by omega
      go_wp2
      go_loopw [5, 6] (fun n j wq => ∃ m : Nat, m ≤ 6 ∧ j = .int .i64 (5 - (m : Int)) ∧ n = .int .i64 (hx6 xs (6 * q) m) ∧ Hid (OwnR wq w.heap.size 3 1 (.slice qo q qa) q (intV ((ctNs xs).take q))) ∧ Hid (Below w.heap.size w wq)) (fun _ j _ => (intOf j + 1).toNat)
      case atStart => exact ⟨0, by omega, rfl, rfl, HO, HB⟩
      case round =>
        clear HO HB
        obtain ⟨m, hm, rfl, rfl, HO, HB⟩ := hrel
        by_cases hm5 : m ≤ 5
        · obtain ⟨hh0, hh1⟩ := hx_le (unhide HCB) (6 * q) m hm5
          have hk : 6 * q + (5 - m) < xs.length := by rw [unhide HL]; omega
          have hji : 6 * (q : Int) + (5 - (m : Int)) = ((6 * q + (5 - m) : Nat) : Int) := by omega
          have HS : Hid (hx6 xs (6 * q) (m + 1) = 16 * hx6 xs (6 * q) m + xs[6 * q + (5 - m)]) := hide (by rw [hx6]; simp [List.getD, hk])
          obtain ⟨g0, g1⟩ := ctB_at (unhide HCB) _ hk
          obtain ⟨b, off, rfl, hcl⟩ := (unhide HC).below (unhide HB) _ hk
          have hjl : ((6 * q + (5 - m) : Nat) : Int) < (xs.length : Int) := by omega
          generalize 6 * q + (5 - m) = J at *
          generalize hx6 xs (6 * q) m = V at *
          go_wp2
          go_roundw
          case rel => exact ⟨m + 1, by omega, by go_num, by rw [unhide HS], HO, HB⟩
          case measure => simp [intOf]; omega
        · have HE : Hid (hx6 xs (6 * q) m = (ctNs xs)[q]'(show q < 4 from hlt)) := hide (by rw [show m = 6 by omega, hx_lo]; exact (ctNs_get xs q hlt).symm)
          have HOA := hide ((unhide HO).below (Joins.below_alloc1 _ (.cells #[.int .i64 (hx6 xs (6 * q) m)] 3)))
          have HBA := hide (fr (unhide HB) (Joins.below_alloc1 _ (.cells #[.int .i64 (hx6 xs (6 * q) m)] 3)))
          have HSZ := hide (unhide HB).size
          go_wp2_with (at_builtin; refine wpList_append_one rfl _ _ 23 rfl w.heap.size 3 j0 (.int .i64 0) 1 8 Try.underlying23 hj hy0 hy1 hy2 rfl (by omega) qo q qa (intV ((ctNs xs).take q)) rfl (unhide HOA) (by have := unhide HSZ; simp; omega) ⟨wr.heap.size, 0, none⟩ _ [.int .i64 (hx6 xs (6 * q) m)] rfl rfl (byte_news wr _ _) (int_one _) (by unfold maxLen; omega) (by omega) ?_; intro g2 cap2 wA hoA hkA; have HSF := hide (And.intro hoA (keep_below (unhide HBA) (unhide HOA) (Nat.le_refl _) hkA)); clear hoA hkA)
          go_roundw
          case rel => exact ⟨q + 1, _, _, by omega, by go_num, rfl, hide (.inr ⟨by omega, by rw [take_snoc (show q < 4 from hlt) (unhide HE), intV_snoc]; exact (unhide HSF).1⟩), hide (unhide HSF).2⟩
          case measure => simp [intOf]; omega
    · have hq4 : q = 4 := by omega
      subst hq4
      have HT : Hid ((ctNs xs).take 4 = ctNs xs) := hide rfl
      have HON : Hid (Is wr qo (ctNs xs)) := hide (by have := unhide HO; rw [unhide HT] at this; exact ownRN (xs := ctNs xs) this)
      have HIN : Hid (∀ j (h : j < (ctNs xs).length), 0 ≤ (ctNs xs)[j] ∧ (ctNs xs)[j] ≤ 2147483647) := hide (fun j h => by have := ctNs_in (unhide HCB) j h; omega)
      go_wp2_with fail
      refine (l02Seal_any 2 qo qa (ctNs xs) _ (by omega) (show 4 ≤ 16 by omega) (unhide HIN) (unhide HON)).mono ?_
      rintro e w1 ⟨rfl, hb⟩
      have HBE := hide (fr (unhide HB) hb)
      clear hb
      go_wp2
      go_ret
      exact ⟨rfl, unhide HBE⟩

end Go.Proofs.Ytpdpnepnfhbonaa

namespace Go.Proofs.Ytpdpnepnfhbonaa
open Go.RowKit
set_option linter.unusedVariables false

section
variable {P : Program} {ops : Array Oper}
end

end Go.Proofs.Ytpdpnepnfhbonaa

namespace Go.Proofs.Ytpdpnepnfhbonaa
open Go.RowKit
set_option linter.unusedVariables false
set_option maxRecDepth 100000

def AnsI (w w' : World) (e : Ending) (R : Img × Int) : Prop := ∃ a ts, e = .returned (.tuple #[imV a R.1, .int .i64 R.2]) ∧ OwnIm w' w.heap.size a R.1 ts ∧ Below w.heap.size w w'
theorem AnsI.bad {w w' : World} (c : Int) (hb : Below w.heap.size w w') : AnsI w w' (.returned (.tuple #[.agg #[.slice none 0 0, .slice none 0 0, .slice none 0 0, .slice none 0 0], .int .i64 c])) (im0, c) := ⟨⟨none, 0, none, 0, none, 0, none, 0⟩, [], rfl, OwnIm.zero _ _, hb⟩

end Go.Proofs.Ytpdpnepnfhbonaa

namespace Go.Proofs.Ytpdpnepnfhbonaa
open Go.RowKit
set_option linter.unusedVariables false
set_option maxRecDepth 100000

end Go.Proofs.Ytpdpnepnfhbonaa

namespace Go.Proofs.Ytpdpnepnfhbonaa
open Go.RowKit
set_option linter.unusedVariables false
set_option maxRecDepth 100000

end Go.Proofs.Ytpdpnepnfhbonaa

namespace Go.Proofs.Ytpdpnepnfhbonaa
open Go.RowKit
set_option linter.unusedVariables false
set_option maxRecDepth 100000

def ch1 (n : Int) (b : UInt8) : Int := 27 * n + ((b.toNat : Int) - 97) % 256 + 1
def nmN (t : ByteArray) : Int := t.data.toList.foldl ch1 0
def lt1 (n : Nat) : UInt8 := UInt8.ofNat (97 + (n + 26) % 27)
theorem ch1_in {n : Int} {b : UInt8} (hb : nm1 b = true) : ch1 n b = 27 * n + ((b.toNat : Int) - 96) := by
  simp only [nm1, Bool.and_eq_true, decide_eq_true_eq] at hb
  unfold ch1
  rw [Int.emod_eq_of_lt (by omega) (by omega)]; omega
theorem fold_lo : ∀ (l : List UInt8), l.all nm1 = true → ∀ n : Int, 0 ≤ n → 0 ≤ l.foldl ch1 n ∧ l.foldl ch1 n + 1 ≤ (n + 1) * 27 ^ l.length
  | [], _, n, hn => ⟨hn, by simp⟩
  | b :: l, h, n, hn => by
    simp only [List.all_cons, Bool.and_eq_true] at h
    have hb := h.1
    simp only [nm1, Bool.and_eq_true, decide_eq_true_eq] at hb
    rw [List.foldl_cons, ch1_in h.1]
    have := fold_lo l h.2 (27 * n + ((b.toNat : Int) - 96)) (by omega)
    refine ⟨this.1, Int.le_trans this.2 ?_⟩
    rw [List.length_cons, Int.pow_succ, Int.mul_comm _ 27, ← Int.mul_assoc]
    exact Int.mul_le_mul_of_nonneg_right (by omega) (Int.pow_nonneg (by omega))
theorem snm_parts {t : ByteArray} (h : snmB t = true) : t.data.toList.all nm1 = true ∧ 1 ≤ t.size ∧ t.size ≤ 6 := by
  simp only [snmB, Bool.and_eq_true] at h
  have := betw_iff.1 h.2
  exact ⟨h.1, by omega, by omega⟩
theorem nmN_in {t : ByteArray} (h : snmB t = true) : 0 ≤ nmN t ∧ nmN t ≤ 387420488 := by
  obtain ⟨h1, h2, h3⟩ := snm_parts h
  have h4 := fold_lo _ h1 0 (by omega)
  have hl : t.data.toList.length = t.size := by simp
  rw [hl] at h4
  refine ⟨h4.1, ?_⟩
  have : (27 : Int) ^ t.size ≤ 387420489 := by rcases (show t.size = 1 ∨ t.size = 2 ∨ t.size = 3 ∨ t.size = 4 ∨ t.size = 5 ∨ t.size = 6 by omega) with e | e | e | e | e | e <;> rw [e] <;> decide
  have h5 := h4.2
  unfold nmN
  omega
def supL (m : Img) : List Int := (m.snaps.length : Int) :: m.snaps.map (fun s => nmN s.name)
def tabU : Nat → List Snp → List Up
  | _, [] => []
  | i, s :: ss => ⟨12 + (i : Int), encTb s.table⟩ :: tabU (i + 1) ss
def datU (m : Img) (c : Nat) : List Up := if 0 < m.refs.getD c 0 then [⟨15 + (c : Int), sealS 4 [m.data.getD c 0]⟩] else []
def headU (m : Img) : List Up := [⟨9, sealS 1 (supL m)⟩, ⟨10, encT m.refs⟩, ⟨11, encTb m.table⟩]
def dataU (m : Img) (k : Nat) : List Up := (List.range k).flatMap (datU m)
def allU (m : Img) : List Up := headU m ++ tabU 0 m.snaps ++ dataU m 24
theorem tabU_len : ∀ (ss : List Snp) (i : Nat), (tabU i ss).length = ss.length
  | [], i => rfl
  | s :: ss, i => by simp only [tabU, List.length_cons, tabU_len ss (i + 1)]
theorem tabU_snoc : ∀ (ss : List Snp) (i : Nat) (s : Snp), tabU i (ss ++ [s]) = tabU i ss ++ [⟨12 + ((i + ss.length : Nat) : Int), encTb s.table⟩]
  | [], i, s => by simp [tabU]
  | a :: ss, i, s => by
    simp only [List.cons_append, tabU, tabU_snoc ss (i + 1) s, List.length_cons]
    rw [show i + 1 + ss.length = i + (ss.length + 1) by omega]
theorem dataU_succ (m : Img) (k : Nat) : dataU m (k + 1) = dataU m k ++ datU m k := by
  unfold dataU
  rw [List.range_succ, List.flatMap_append]; simp
end Go.Proofs.Ytpdpnepnfhbonaa

namespace Go.Proofs.Ytpdpnepnfhbonaa
open Go.RowKit
set_option linter.unusedVariables false
set_option maxRecDepth 100000

def nmK (t : ByteArray) (k : Nat) : Int := (t.data.toList.take k).foldl ch1 0
theorem nmK_succ {t : ByteArray} {k : Nat} (hk : k < t.size) : nmK t (k + 1) = ch1 (nmK t k) t.data.toList[k] := by
  unfold nmK
  rw [List.take_succ_eq_append_getElem (by simpa using hk), List.foldl_append]; rfl
theorem nmK_all (t : ByteArray) : nmK t t.size = nmN t := by
  unfold nmK nmN
  rw [List.take_of_length_le (by simp)]
theorem ch1_le {n : Int} {b : UInt8} (h0 : 0 ≤ n) : 0 ≤ ch1 n b ∧ ch1 n b ≤ 27 * n + 256 := by
  unfold ch1
  have h1 := Int.emod_nonneg ((b.toNat : Int) - 97) (show (256 : Int) ≠ 0 by decide)
  have h2 := Int.emod_lt_of_pos ((b.toNat : Int) - 97) (show (0 : Int) < 256 by decide)
  omega
theorem tl_lt {t : ByteArray} {k : Nat} (h : k + 1 ≤ t.size) : k < t.data.toList.length := by
  have : t.data.toList.length = t.size := by simp
  omega
def bd27 : Nat → Int
  | 0 => 0
  | k + 1 => 27 * bd27 k + 256
theorem nmK_le (t : ByteArray) : ∀ k, k ≤ t.size → 0 ≤ nmK t k ∧ nmK t k ≤ bd27 k
  | 0, _ => by simp [nmK, bd27]
  | k + 1, h => by
    have h1 := nmK_le t k (by omega)
    rw [nmK_succ (by omega)]
    have h2 := ch1_le (n := nmK t k) (b := t.data.toList[k]'(tl_lt h)) h1.1
    refine ⟨h2.1, Int.le_trans h2.2 ?_⟩
    rw [bd27]
    omega

theorem bd27_le : ∀ k, k ≤ 8 → 0 ≤ bd27 k ∧ bd27 k ≤ 10000000000000 := by
  intro k hk
  rcases (show k = 0 ∨ k = 1 ∨ k = 2 ∨ k = 3 ∨ k = 4 ∨ k = 5 ∨ k = 6 ∨ k = 7 ∨ k = 8 by omega) with rfl | rfl | rfl | rfl | rfl | rfl | rfl | rfl | rfl <;> decide

set_option maxHeartbeats 800000 in
theorem l11Name_any (t : ByteArray) (w : World) (hz : t.size ≤ 8) :
    Calls Try.prog 44 #[.string t] w fun e w' => e = .returned (.int .i64 (nmN t)) ∧ w' = w := by
  go_enter Try.func44, Try.ntmps44
  go_wp2
  go_loop [3, 4] (fun n i => ∃ k : Nat, k ≤ t.size ∧ i = .int .i64 k ∧ n = .int .i64 (nmK t k)) (fun _ i => t.size - (intOf i).toNat)
  case atStart => exact ⟨0, Nat.zero_le _, rfl, rfl⟩
  case round =>
    obtain ⟨k, hk, rfl, rfl⟩ := hrel
    by_cases hlt : k < t.size
    · have hlti : (k : Int) < (t.size : Int) := by omega
      have HS : Hid (nmK t (k + 1) = 27 * nmK t k + ((t[k].toNat : Int) - 97) % 256 + 1) := hide (by
        rw [nmK_succ hlt]
        have e : t.data.toList[k]'(by simpa using hlt) = t[k] := by have := snm_get hlt; rw [List.getElem?_eq_getElem (by simpa using hlt)] at this; exact Option.some.inj this
        rw [e]; rfl)
      obtain ⟨b0, b1⟩ := nmK_le t k hk
      obtain ⟨d0, d1⟩ := bd27_le k (by omega)
      have h1 := Int.emod_nonneg ((t[k].toNat : Int) - 97) (show (256 : Int) ≠ 0 by decide)
      have h2 := Int.emod_lt_of_pos ((t[k].toNat : Int) - 97) (show (0 : Int) < 256 by decide)
      have hu : IntKind.u8.wrap ((t[k].toNat : Int) - 97) = ((t[k].toNat : Int) - 97) % 256 := by simp [IntKind.wrap, IntKind.bits, IntKind.signed]
      generalize nmK t k = X at *
      generalize ((t[k].toNat : Int) - 97) % 256 = D at *
      have w1 : IntKind.i64.wrap (27 * X) = 27 * X := by rw [IntKind.wrap_i64]; omega
      have w2 : IntKind.i64.wrap D = D := by rw [IntKind.wrap_i64]; omega
      have w3 : IntKind.i64.wrap (27 * X + D) = 27 * X + D := by rw [IntKind.wrap_i64]; omega
      have w4 : IntKind.i64.wrap (27 * X + D + 1) = 27 * X + D + 1 := by rw [IntKind.wrap_i64]; omega
      go_wp2
      go_round
      case rel => exact ⟨k + 1, by omega, by go_num, by rw [unhide HS]⟩
      case measure => simp [intOf]; omega
    · obtain rfl : k = t.size := by omega
      have HF := hide (nmK_all t)
      go_wp2
      go_ret
      exact ⟨ret_int (unhide HF), rfl⟩

end Go.Proofs.Ytpdpnepnfhbonaa

namespace Go.Proofs.Ytpdpnepnfhbonaa
open Go.RowKit
set_option linter.unusedVariables false
set_option maxRecDepth 100000

theorem allB_snm {m : Img} (h : ImR m) : allB (supL m) = true := by
  have hs := h.few
  unfold allB supL
  rw [List.all_cons, Bool.and_eq_true]
  refine ⟨by simp [numB, inB]; omega, ?_⟩
  rw [List.all_eq_true]
  intro x hx
  obtain ⟨s, hs', rfl⟩ := List.mem_map.1 hx
  have := nmN_in (h.snaps s hs').1
  simp [numB, inB]; omega
end Go.Proofs.Ytpdpnepnfhbonaa
