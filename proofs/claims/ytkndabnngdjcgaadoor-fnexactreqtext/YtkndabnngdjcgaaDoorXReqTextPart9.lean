import Derived.Test.YtkndabnngdjcgaaDoorRows
import Derived.Test.YtkndabnngdjcgaaDoorXReqTextPart1
import Derived.Test.YtkndabnngdjcgaaDoorXReqTextPart2
import Derived.Test.YtkndabnngdjcgaaDoorXReqTextPart3
import Derived.Test.YtkndabnngdjcgaaDoorXReqTextPart4
import Derived.Test.YtkndabnngdjcgaaDoorXReqTextPart8
import Derived.WalkKit
import Derived.WalkSpells
import Derived.KernelRfl
import Derived.BigQuiet
import Derived.Deep.QuietTactic
import Derived.Deep.RegionWith
import Derived.Laws.MakeOwn
import Derived.Laws.OwnMore
import Derived.Test.YtkndabnngdjcgaaDoorXReqTextPart7

/- Contracts of the model's l10New, NewImage. (Made ahead of stage 10.) -/
namespace Go.Proofs.YtkndabnngdjcgaaDoor
open Go.RowKit
set_option linter.unusedVariables false
set_option maxRecDepth 100000

/-- An image of holes alone. -/
def imNew (n : Nat) : Img := ⟨zero24, List.replicate n 0, [], zero24⟩
def niF (n : Int) : Int := if betw n 0 12 = true then 0 else 4
def im0 : Img := ⟨[], [], [], []⟩
def niI (n : Int) : Img := if niF n = 0 then imNew n.toNat else im0
/-- A row of zeros, as it is made. -/
theorem mkZ (n : Nat) (hn : n ≤ 1000) : ∀ W : World, (Instr.makeSlice 43 (.int .i64 (n : Int)) (.int .i64 (n : Int))).run Tryd.prog W = .ok (.slice (some ⟨W.heap.size, 0, none⟩) n n) (W.alloc (.cells (intV (List.replicate n 0)).toArray 3)) := by
  obtain ⟨i0, hi, hz0, hz1, hz2⟩ := info_parts infoIn
  intro W
  have := run_make (P := Tryd.prog) W 43 3 i0 (.int .i64 0) Tryd.underlying43 hi hz0 .i64 .i64 n n (by omega) (by omega) (by rw [hz2]; omega) (by omega)
  rw [hz1] at this
  have e : madeCells #[Value.int .i64 0] n = (intV (List.replicate n 0)).toArray := by
    apply Array.toList_inj.1
    rw [made_rep]
    simp [intV]
  rw [show (Value.int .i64 0).cells = #[Value.int .i64 0] from rfl, Int.toNat_natCast, Nat.mul_one, e] at this
  exact this
theorem mk24 : ∀ W : World, (Instr.makeSlice 43 (.int .i64 24) (.int .i64 24)).run Tryd.prog W = .ok (.slice (some ⟨W.heap.size, 0, none⟩) 24 24) (W.alloc (.cells (intV zero24).toArray 3)) := mkZ 24 (by omega)

section
variable (w : World) (r a b c d : Obj)
theorem chain0 : (((((w.alloc r).alloc a).alloc b).alloc c).alloc d).drew.heap[w.heap.size]? = some r := blk_belowI (blk_belowI (blk_belowI (blk_belowI (blk_belowI (heap_alloc_new w r) (Joins.below_alloc1 _ _)) (Joins.below_alloc1 _ _)) (Joins.below_alloc1 _ _)) (Joins.below_alloc1 _ _)) (Below.refl _ _).drew
theorem chain1 : (((((w.alloc r).alloc a).alloc b).alloc c).alloc d).drew.heap[w.heap.size + 1]? = some a := by
  have h := heap_alloc_new (w.alloc r) a
  rw [World.size_alloc] at h
  exact blk_belowI (blk_belowI (blk_belowI (blk_belowI h (Joins.below_alloc1 _ _)) (Joins.below_alloc1 _ _)) (Joins.below_alloc1 _ _)) (Below.refl _ _).drew
theorem chain2 : (((((w.alloc r).alloc a).alloc b).alloc c).alloc d).drew.heap[w.heap.size + 1 + 1]? = some b := by
  have h := heap_alloc_new ((w.alloc r).alloc a) b
  rw [World.size_alloc, World.size_alloc] at h
  exact blk_belowI (blk_belowI (blk_belowI h (Joins.below_alloc1 _ _)) (Joins.below_alloc1 _ _)) (Below.refl _ _).drew
theorem chain3 : (((((w.alloc r).alloc a).alloc b).alloc c).alloc d).drew.heap[w.heap.size + 1 + 1 + 1]? = some c := by
  have h := heap_alloc_new (((w.alloc r).alloc a).alloc b) c
  rw [World.size_alloc, World.size_alloc, World.size_alloc] at h
  exact blk_belowI (blk_belowI h (Joins.below_alloc1 _ _)) (Below.refl _ _).drew
theorem chain4 : (((((w.alloc r).alloc a).alloc b).alloc c).alloc d).drew.heap[w.heap.size + 1 + 1 + 1 + 1]? = some d := by
  have h := heap_alloc_new ((((w.alloc r).alloc a).alloc b).alloc c) d
  rw [World.size_alloc, World.size_alloc, World.size_alloc, World.size_alloc] at h
  exact blk_belowI h (Below.refl _ _).drew
theorem chainB : Below w.heap.size w (((((w.alloc r).alloc a).alloc b).alloc c).alloc d).drew := (fr (fr (Joins.below_alloc3 w r a b) (Joins.below_alloc1 _ c)) (Joins.below_alloc1 _ d)).drew
end
theorem own_made {W : World} {B g n : Nat} {xs : List Int} (h : W.heap[g]? = some (.cells (intV xs).toArray 3 (0, 0))) (hB : B ≤ g) (hn : xs.length = n) (hl : n ≤ 1000) : OwnN W B (.slice (some ⟨g, 0, none⟩) n n) xs := by
  refine OwnN.mk' ?_ hn
  subst hn
  rcases Nat.eq_zero_or_pos xs.length with h0 | h0
  · refine .inl ⟨h0, ?_, some ⟨g, 0, none⟩, by rw [h0]⟩
    rw [List.eq_nil_of_length_eq_zero h0]; rfl
  · exact .inr ⟨h0, by rw [intV_length]; omega, .inr ⟨g, xs.length, (intV xs).toArray, rfl, hB, h, Nat.le_refl _, by unfold maxLen; omega, by simp [intV_length], by rw [List.take_of_length_le (by simp [intV_length])]⟩⟩
theorem own_ne {v : Value} {g h n m c d : Nat} (hne : g ≠ h) : ∀ x, Own (.slice (some ⟨g, 0, none⟩) n c) x → ¬ Own (.slice (some ⟨h, 0, none⟩) m d) x := by
  rintro x ⟨a, k, e, h1, h2⟩ ⟨a', k', e', h1', h2'⟩
  cases h1
  cases h1'
  simp only at h2 h2'
  omega
theorem new_leaf {w W : World} {n g0 g1 gs g3 : Nat} (hn : n ≤ 1000) (h0 : W.heap[g0]? = some (.cells (intV zero24).toArray 3 (0, 0))) (h1 : W.heap[g1]? = some (.cells (intV (List.replicate n 0)).toArray 3 (0, 0))) (h3 : W.heap[g3]? = some (.cells (intV zero24).toArray 3 (0, 0)))
    (n1 : g0 ≠ g1) (n2 : g0 ≠ g3) (n3 : g1 ≠ g3) (b0 : w.heap.size ≤ g0) (b1 : w.heap.size ≤ g1) (b3 : w.heap.size ≤ g3) (hb : Below w.heap.size w W) :
    ∃ a, Ending.returned (.agg #[.slice (some ⟨g0, 0, none⟩) 24 24, .slice (some ⟨g1, 0, none⟩) n n, .slice (some ⟨gs, 0, none⟩) 0 0, .slice (some ⟨g3, 0, none⟩) 24 24]) = .returned (imV a (imNew n)) ∧ OwnIm W w.heap.size a (imNew n) [] ∧ Below w.heap.size w W := by
  have hl : (imNew n).table.length = n := by simp [imNew]
  refine ⟨⟨some ⟨g0, 0, none⟩, 24, some ⟨g1, 0, none⟩, n, some ⟨gs, 0, none⟩, 0, some ⟨g3, 0, none⟩, 24⟩, by simp only [imV, hl]; rfl, ⟨rfl, .inl ⟨rfl, rfl, _, _, rfl⟩, ?_⟩, hb⟩
  have o0 := own_made (B := w.heap.size) (n := 24) h0 b0 rfl (by omega)
  have o1 := own_made (B := w.heap.size) (n := n) h1 b1 (by simp) hn
  have o3 := own_made (B := w.heap.size) (n := 24) h3 b3 rfl (by omega)
  have e : imRows ⟨some ⟨g0, 0, none⟩, 24, some ⟨g1, 0, none⟩, n, some ⟨gs, 0, none⟩, 0, some ⟨g3, 0, none⟩, 24⟩ (imNew n) [] = [(.slice (some ⟨g0, 0, none⟩) 24 24, zero24), (.slice (some ⟨g1, 0, none⟩) n n, List.replicate n 0), (.slice (some ⟨g3, 0, none⟩) 24 24, zero24)] := by
    simp only [imRows, hl]; rfl
  rw [e]
  refine ⟨fun r hr => ?_, ?_⟩
  · simp only [List.mem_cons, List.not_mem_nil, or_false] at hr
    rcases hr with rfl | rfl | rfl
    · exact o0
    · exact o1
    · exact o3
  · simp only [List.pairwise_cons, List.mem_cons, List.not_mem_nil, or_false, forall_eq_or_imp, forall_eq, List.Pairwise.nil, and_true]
    exact ⟨⟨own_ne (v := undef) n1, own_ne (v := undef) n2⟩, own_ne (v := undef) n3, fun _ h => h.elim⟩
/-- A result in a cell: an image. -/
theorem res_im {fn : Func} {p : Tmp} {v0 v1 v2 v3 : Value} {x : Nat} {W : World} {tmps : Array Value} (h : fn.results = #[.cell p 66]) (hp : tmps.getD p undef = .pointer (some ⟨x, 0, none⟩)) (hv : W.heap[x]? = some (.cells #[v0, v1, v2, v3] 66 (0, 0))) :
    (results fn tmps).run Tryd.prog W = .ok (.agg #[v0, v1, v2, v3]) W := by
  obtain ⟨c0, c1, c2, c3⟩ := VarM.cells (t := 66) hv
  rw [Array.getD_eq_getD_getElem?] at hp
  simp [results, h, hp, go_sem, c0, c1, c2, c3]

set_option maxHeartbeats 6400000 in
theorem l10New_any (n : Nat) (w : World) (hn : n ≤ 1000) :
    Calls Tryd.prog 114 #[.int .i64 n] w fun e w' => ∃ a, e = .returned (imV a (imNew n)) ∧ OwnIm w' w.heap.size a (imNew n) [] ∧ Below w.heap.size w w' := by
  have h24 := mk24
  have hmn := mkZ n hn
  have HL := hide (fun (W : World) (g0 g1 gs g3 : Nat) => new_leaf (w := w) (W := W) (n := n) (g0 := g0) (g1 := g1) (gs := gs) (g3 := g3) hn)
  generalize (intV zero24).toArray = Z24 at *
  generalize (intV (List.replicate n 0)).toArray = ZN at *
  go_enter Tryd.func114, Tryd.ntmps114
  go_wp2
  go_region
  all_goals
    go_wp2
    refine bodyPost_ret (res_im Tryd.results114 rfl (chain0 w _ _ _ _ _)) rfl ?_
    exact unhide HL _ _ _ _ _ (by first | exact chain1 _ _ _ _ _ _ | exact chain2 _ _ _ _ _ _ | exact chain3 _ _ _ _ _ _ | exact chain4 _ _ _ _ _ _) (by first | exact chain1 _ _ _ _ _ _ | exact chain2 _ _ _ _ _ _ | exact chain3 _ _ _ _ _ _ | exact chain4 _ _ _ _ _ _) (by first | exact chain1 _ _ _ _ _ _ | exact chain2 _ _ _ _ _ _ | exact chain3 _ _ _ _ _ _ | exact chain4 _ _ _ _ _ _) (by omega) (by omega) (by omega) (by omega) (by omega) (by omega) (chainB _ _ _ _ _ _)

/-- A result in a cell and a slot: an image and a code. -/
theorem res_ic {fn : Func} {p u : Tmp} {v0 v1 v2 v3 z : Value} {x : Nat} {W : World} {tmps : Array Value} (h : fn.results = #[.cell p 66, .tmp u]) (hp : tmps.getD p undef = .pointer (some ⟨x, 0, none⟩)) (hu : tmps.getD u undef = z) (hv : W.heap[x]? = some (.cells #[v0, v1, v2, v3] 66 (0, 0))) :
    (results fn tmps).run Tryd.prog W = .ok (.tuple #[.agg #[v0, v1, v2, v3], z]) W := by
  obtain ⟨c0, c1, c2, c3⟩ := VarM.cells (t := 66) hv
  rw [Array.getD_eq_getD_getElem?] at hp hu
  simp [results, h, hp, hu, go_sem, c0, c1, c2, c3]
theorem ret_mi {v u : Value} {a b : Int} (h : v = u) (k : a = b) : Ending.returned (.tuple #[v, .int .i64 a]) = .returned (.tuple #[u, .int .i64 b]) := by rw [h, k]
/-- An empty image, of which nothing is said. -/
theorem OwnIm.zero (w : World) (B : Nat) : OwnIm w B ⟨none, 0, none, 0, none, 0, none, 0⟩ im0 [] := ⟨rfl, .inl ⟨rfl, rfl, _, _, rfl⟩, by
  unfold imRows
  refine ⟨fun r hr => ?_, ?_⟩
  · simp only [im0, List.map_nil, List.zip_nil_right, List.mem_cons, List.not_mem_nil, or_false] at hr
    rcases hr with rfl | rfl | rfl <;> exact OwnN.nil _ _ _
  · simp only [im0, List.map_nil, List.zip_nil_right, List.pairwise_cons, List.mem_cons, List.not_mem_nil, or_false, List.Pairwise.nil, and_true]
    exact ⟨fun a ha g hg => absurd hg own_no, fun a ha g hg => absurd hg own_no, fun _ h => h.elim⟩⟩

/-- An image is put into a variable. -/
theorem OwnA.setCell' {w : World} {B : Nat} {rs : List (Value × List Int)} (h : OwnA w B rs) {a : Addr} (ha : a.block < B) (u : Value) : OwnA (w.setCell a u) B rs := ⟨fun r hr => (h.own r hr).setCell ha u, h.apart⟩
theorem OwnIm.setCell {w : World} {B : Nat} {a : Im4} {m : Img} {ts : List Value} (h : OwnIm w B a m ts) {p : Addr} (hp : p.block < B) (u : Value) : OwnIm (w.setCell p u) B a m ts := ⟨h.len, h.s.setCell hp u, h.rows.setCell' hp u⟩
theorem ImSt.put {w0 w : World} {x B : Nat} {t : TypeId} {v0 v1 v2 v3 : Value} {a : Im4} {m : Img} {ts : List Value} (hv : VarM w x t v0 v1 v2 v3) (ho : OwnIm w B a m ts) (hb : Below w0.heap.size w0 w) (hx : w0.heap.size ≤ x) (hB : x < B) (a' : Im4) (m' : Img) :
    VarM ((((w.setCell ⟨x, 0, none⟩ (.slice a'.ro m'.refs.length a'.rc)).setCell ⟨x, 1, none⟩ (.slice a'.tq m'.table.length a'.tc)).setCell ⟨x, 2, none⟩ (.slice a'.so m'.snaps.length a'.sc)).setCell ⟨x, 3, none⟩ (.slice a'.dq m'.data.length a'.dc)) x t (.slice a'.ro m'.refs.length a'.rc) (.slice a'.tq m'.table.length a'.tc) (.slice a'.so m'.snaps.length a'.sc) (.slice a'.dq m'.data.length a'.dc) ∧
    OwnIm ((((w.setCell ⟨x, 0, none⟩ (.slice a'.ro m'.refs.length a'.rc)).setCell ⟨x, 1, none⟩ (.slice a'.tq m'.table.length a'.tc)).setCell ⟨x, 2, none⟩ (.slice a'.so m'.snaps.length a'.sc)).setCell ⟨x, 3, none⟩ (.slice a'.dq m'.data.length a'.dc)) B a m ts ∧
    Below w0.heap.size w0 ((((w.setCell ⟨x, 0, none⟩ (.slice a'.ro m'.refs.length a'.rc)).setCell ⟨x, 1, none⟩ (.slice a'.tq m'.table.length a'.tc)).setCell ⟨x, 2, none⟩ (.slice a'.so m'.snaps.length a'.sc)).setCell ⟨x, 3, none⟩ (.slice a'.dq m'.data.length a'.dc)) :=
  ⟨(((hv.set0 _).set1 _).set2 _).set3 _, (((ho.setCell (p := ⟨x, 0, none⟩) hB _).setCell (p := ⟨x, 1, none⟩) hB _).setCell (p := ⟨x, 2, none⟩) hB _).setCell (p := ⟨x, 3, none⟩) hB _, (((hb.setCell (p := ⟨x, 0, none⟩) hx _).setCell (p := ⟨x, 1, none⟩) hx _).setCell (p := ⟨x, 2, none⟩) hx _).setCell (p := ⟨x, 3, none⟩) hx _⟩

end Go.Proofs.YtkndabnngdjcgaaDoor

/- Contract of the model's l10Own: an image as it was, in new memory. (Made ahead of stage 10; written by gens/ownim.py.) -/
namespace Go.Proofs.YtkndabnngdjcgaaDoor
open Go.RowKit
set_option linter.unusedVariables false
set_option maxRecDepth 100000

def Emp (s : Value) : Prop := ∃ g, s = .slice (some ⟨g, 0, none⟩) 0 0
def Apt (s t : Value) : Prop := ∀ g, Own s g → ¬ Own t g
theorem upd_ne {d : Nat → Bool} {i k : Nat} (hk : k ≠ i) (h : updD d i k = true) : d k = true := by
  simp only [updD, Bool.or_eq_true, decide_eq_true_eq] at h
  exact h.resolve_right hk
theorem upd_nf {d : Nat → Bool} {i k : Nat} (h : updD d i k = false) : d k = false := by
  simp only [updD, Bool.or_eq_false_iff] at h
  exact h.1
theorem upd_up {d : Nat → Bool} {i k : Nat} (h : d k = true) : updD d i k = true := by simp [updD, h]
theorem upd_at {d : Nat → Bool} {i : Nat} : updD d i i = true := by simp [updD]
theorem no_d {d : Nat → Bool} {k : Nat} {p : Prop} (h : d k = true) (hf : d k = false) : p := by rw [h] at hf; cases hf
theorem Is.srcI {w : World} {ao : Option Addr} {xs : List Int} (h : Is w ao xs) : 0 < xs.length → ∃ ad, ao = some ad ∧ ∀ j u, (intV xs)[j]? = some u → w.cell? (ad.add j) = some u := fun hp => by
  obtain ⟨b, off, e, hc'⟩ := h 0 hp
  refine ⟨_, e, fun j v hv => ?_⟩
  have hj : j < xs.length := by have := (List.getElem?_eq_some_iff.1 hv).1; rwa [intV_length] at this
  obtain ⟨b2, off2, e2, hc2⟩ := h j hj
  rw [e] at e2
  simp only [Option.some.injEq, Addr.mk.injEq, and_true] at e2
  obtain ⟨rfl, rfl⟩ := e2
  rw [intV_get hj] at hv
  cases hv
  rw [show Addr.add ⟨b, off, none⟩ j = ⟨b, off + j, none⟩ from by unfold Addr.add; split <;> simp_all]
  exact hc2
theorem fresh_apart {w w' : World} {B : Nat} {s t : Value} {xs ys : List Int} (h : OwnN w B s xs) (k : OwnN w' w.heap.size t ys) : Apt s t := fun g hg ht => by
  have h1 := (h.ge g hg).2
  have h2 := (k.ge g ht).1
  omega
/-- How far the rows of an image have been copied. -/
structure OwI (W0 : World) (x : Nat) (a : Im4) (m : Img) (d : Nat → Bool) (w : World) (s3 s5 s6 s7 s8 s9 s10 s11 s12 s13 s14 s15 s16 s17 s18 : Value) : Prop where
  b : Below W0.heap.size W0 w
  f0 : d 0 = true → Emp s5
  f1 : d 1 = true → s6 = .pointer (some ⟨x, 0, none⟩)
  f2 : d 2 = true → s7 = .slice a.ro m.refs.length a.rc
  f3 : d 3 = true → OwnN w W0.heap.size s8 m.refs
  f4 : d 4 = true → Emp s9
  f5 : d 5 = true → s10 = .pointer (some ⟨x, 1, none⟩)
  f6 : d 6 = true → s11 = .slice a.tq m.table.length a.tc
  f7 : d 7 = true → OwnN w W0.heap.size s12 m.table ∧ Apt s8 s12
  f8 : d 8 = true → Emp s13
  f9 : d 9 = true → Emp s14
  f10 : d 10 = true → s15 = .pointer (some ⟨x, 3, none⟩)
  f11 : d 11 = true → s16 = .slice a.dq m.data.length a.dc
  f12 : d 12 = true → OwnN w W0.heap.size s17 m.data ∧ Apt s8 s17 ∧ Apt s12 s17
  f13 : d 13 = true → s18 = .agg #[s8, s12, s13, s17]
  f14 : d 14 = true → d 15 = false → ∃ y, s3 = .pointer (some ⟨y, 0, none⟩) ∧ W0.heap.size ≤ y ∧ VarM w y 66 (.slice none 0 0) (.slice none 0 0) (.slice none 0 0) (.slice none 0 0)
  f15 : d 15 = true → ∃ y, s3 = .pointer (some ⟨y, 0, none⟩) ∧ W0.heap.size ≤ y ∧ VarM w y 66 s8 s12 s13 s17
  c7 : d 7 = true → d 3 = true
  c12 : d 12 = true → d 7 = true
  c13 : d 13 = true → d 8 = true ∧ d 12 = true
  c15 : d 15 = true → d 13 = true ∧ d 14 = true

theorem OwI.s0 {W0 w w2 : World} {x : Nat} {a : Im4} {m : Img} {d : Nat → Bool} {s3 s5 s6 s7 s8 s9 s10 s11 s12 s13 s14 s15 s16 s17 s18 v : Value} (I : OwI W0 x a m d w s3 s5 s6 s7 s8 s9 s10 s11 s12 s13 s14 s15 s16 s17 s18) (hd : d 0 = false) (hb : Below w.heap.size w w2) (hv : Emp v) : OwI W0 x a m (updD d 0) w2 s3 v s6 s7 s8 s9 s10 s11 s12 s13 s14 s15 s16 s17 s18 where
  b := fr I.b hb
  f0 := fun _ => hv
  f1 := fun h => I.f1 (upd_ne (by decide) h)
  f2 := fun h => I.f2 (upd_ne (by decide) h)
  f3 := fun h => (I.f3 (upd_ne (by decide) h)).below hb
  f4 := fun h => I.f4 (upd_ne (by decide) h)
  f5 := fun h => I.f5 (upd_ne (by decide) h)
  f6 := fun h => I.f6 (upd_ne (by decide) h)
  f7 := fun h => ⟨(I.f7 (upd_ne (by decide) h)).1.below hb, (I.f7 (upd_ne (by decide) h)).2⟩
  f8 := fun h => I.f8 (upd_ne (by decide) h)
  f9 := fun h => I.f9 (upd_ne (by decide) h)
  f10 := fun h => I.f10 (upd_ne (by decide) h)
  f11 := fun h => I.f11 (upd_ne (by decide) h)
  f12 := fun h => ⟨(I.f12 (upd_ne (by decide) h)).1.below hb, (I.f12 (upd_ne (by decide) h)).2⟩
  f13 := fun h => I.f13 (upd_ne (by decide) h)
  f14 := fun h h' => (I.f14 (upd_ne (by decide) h) (upd_nf h')).imp fun y hy => ⟨hy.1, hy.2.1, hy.2.2.below hb⟩
  f15 := fun h => (I.f15 (upd_ne (by decide) h)).imp fun y hy => ⟨hy.1, hy.2.1, hy.2.2.below hb⟩
  c7 := fun h => upd_up (I.c7 (upd_ne (by decide) h))
  c12 := fun h => upd_up (I.c12 (upd_ne (by decide) h))
  c13 := fun h => ⟨upd_up (I.c13 (upd_ne (by decide) h)).1, upd_up (I.c13 (upd_ne (by decide) h)).2⟩
  c15 := fun h => ⟨upd_up (I.c15 (upd_ne (by decide) h)).1, upd_up (I.c15 (upd_ne (by decide) h)).2⟩

theorem OwI.s4 {W0 w w2 : World} {x : Nat} {a : Im4} {m : Img} {d : Nat → Bool} {s3 s5 s6 s7 s8 s9 s10 s11 s12 s13 s14 s15 s16 s17 s18 v : Value} (I : OwI W0 x a m d w s3 s5 s6 s7 s8 s9 s10 s11 s12 s13 s14 s15 s16 s17 s18) (hd : d 4 = false) (hb : Below w.heap.size w w2) (hv : Emp v) : OwI W0 x a m (updD d 4) w2 s3 s5 s6 s7 s8 v s10 s11 s12 s13 s14 s15 s16 s17 s18 where
  b := fr I.b hb
  f0 := fun h => I.f0 (upd_ne (by decide) h)
  f1 := fun h => I.f1 (upd_ne (by decide) h)
  f2 := fun h => I.f2 (upd_ne (by decide) h)
  f3 := fun h => (I.f3 (upd_ne (by decide) h)).below hb
  f4 := fun _ => hv
  f5 := fun h => I.f5 (upd_ne (by decide) h)
  f6 := fun h => I.f6 (upd_ne (by decide) h)
  f7 := fun h => ⟨(I.f7 (upd_ne (by decide) h)).1.below hb, (I.f7 (upd_ne (by decide) h)).2⟩
  f8 := fun h => I.f8 (upd_ne (by decide) h)
  f9 := fun h => I.f9 (upd_ne (by decide) h)
  f10 := fun h => I.f10 (upd_ne (by decide) h)
  f11 := fun h => I.f11 (upd_ne (by decide) h)
  f12 := fun h => ⟨(I.f12 (upd_ne (by decide) h)).1.below hb, (I.f12 (upd_ne (by decide) h)).2⟩
  f13 := fun h => I.f13 (upd_ne (by decide) h)
  f14 := fun h h' => (I.f14 (upd_ne (by decide) h) (upd_nf h')).imp fun y hy => ⟨hy.1, hy.2.1, hy.2.2.below hb⟩
  f15 := fun h => (I.f15 (upd_ne (by decide) h)).imp fun y hy => ⟨hy.1, hy.2.1, hy.2.2.below hb⟩
  c7 := fun h => upd_up (I.c7 (upd_ne (by decide) h))
  c12 := fun h => upd_up (I.c12 (upd_ne (by decide) h))
  c13 := fun h => ⟨upd_up (I.c13 (upd_ne (by decide) h)).1, upd_up (I.c13 (upd_ne (by decide) h)).2⟩
  c15 := fun h => ⟨upd_up (I.c15 (upd_ne (by decide) h)).1, upd_up (I.c15 (upd_ne (by decide) h)).2⟩

theorem OwI.s8 {W0 w w2 : World} {x : Nat} {a : Im4} {m : Img} {d : Nat → Bool} {s3 s5 s6 s7 s8 s9 s10 s11 s12 s13 s14 s15 s16 s17 s18 v : Value} (I : OwI W0 x a m d w s3 s5 s6 s7 s8 s9 s10 s11 s12 s13 s14 s15 s16 s17 s18) (hd : d 8 = false) (hb : Below w.heap.size w w2) (hv : Emp v) : OwI W0 x a m (updD d 8) w2 s3 s5 s6 s7 s8 s9 s10 s11 s12 v s14 s15 s16 s17 s18 where
  b := fr I.b hb
  f0 := fun h => I.f0 (upd_ne (by decide) h)
  f1 := fun h => I.f1 (upd_ne (by decide) h)
  f2 := fun h => I.f2 (upd_ne (by decide) h)
  f3 := fun h => (I.f3 (upd_ne (by decide) h)).below hb
  f4 := fun h => I.f4 (upd_ne (by decide) h)
  f5 := fun h => I.f5 (upd_ne (by decide) h)
  f6 := fun h => I.f6 (upd_ne (by decide) h)
  f7 := fun h => ⟨(I.f7 (upd_ne (by decide) h)).1.below hb, (I.f7 (upd_ne (by decide) h)).2⟩
  f8 := fun _ => hv
  f9 := fun h => I.f9 (upd_ne (by decide) h)
  f10 := fun h => I.f10 (upd_ne (by decide) h)
  f11 := fun h => I.f11 (upd_ne (by decide) h)
  f12 := fun h => ⟨(I.f12 (upd_ne (by decide) h)).1.below hb, (I.f12 (upd_ne (by decide) h)).2⟩
  f13 := fun h => no_d ((I.c13 (upd_ne (by decide) h)).1) hd
  f14 := fun h h' => (I.f14 (upd_ne (by decide) h) (upd_nf h')).imp fun y hy => ⟨hy.1, hy.2.1, hy.2.2.below hb⟩
  f15 := fun h => no_d ((I.c13 (I.c15 (upd_ne (by decide) h)).1).1) hd
  c7 := fun h => upd_up (I.c7 (upd_ne (by decide) h))
  c12 := fun h => upd_up (I.c12 (upd_ne (by decide) h))
  c13 := fun h => ⟨upd_at, upd_up (I.c13 (upd_ne (by decide) h)).2⟩
  c15 := fun h => ⟨upd_up (I.c15 (upd_ne (by decide) h)).1, upd_up (I.c15 (upd_ne (by decide) h)).2⟩

theorem OwI.s9 {W0 w w2 : World} {x : Nat} {a : Im4} {m : Img} {d : Nat → Bool} {s3 s5 s6 s7 s8 s9 s10 s11 s12 s13 s14 s15 s16 s17 s18 v : Value} (I : OwI W0 x a m d w s3 s5 s6 s7 s8 s9 s10 s11 s12 s13 s14 s15 s16 s17 s18) (hd : d 9 = false) (hb : Below w.heap.size w w2) (hv : Emp v) : OwI W0 x a m (updD d 9) w2 s3 s5 s6 s7 s8 s9 s10 s11 s12 s13 v s15 s16 s17 s18 where
  b := fr I.b hb
  f0 := fun h => I.f0 (upd_ne (by decide) h)
  f1 := fun h => I.f1 (upd_ne (by decide) h)
  f2 := fun h => I.f2 (upd_ne (by decide) h)
  f3 := fun h => (I.f3 (upd_ne (by decide) h)).below hb
  f4 := fun h => I.f4 (upd_ne (by decide) h)
  f5 := fun h => I.f5 (upd_ne (by decide) h)
  f6 := fun h => I.f6 (upd_ne (by decide) h)
  f7 := fun h => ⟨(I.f7 (upd_ne (by decide) h)).1.below hb, (I.f7 (upd_ne (by decide) h)).2⟩
  f8 := fun h => I.f8 (upd_ne (by decide) h)
  f9 := fun _ => hv
  f10 := fun h => I.f10 (upd_ne (by decide) h)
  f11 := fun h => I.f11 (upd_ne (by decide) h)
  f12 := fun h => ⟨(I.f12 (upd_ne (by decide) h)).1.below hb, (I.f12 (upd_ne (by decide) h)).2⟩
  f13 := fun h => I.f13 (upd_ne (by decide) h)
  f14 := fun h h' => (I.f14 (upd_ne (by decide) h) (upd_nf h')).imp fun y hy => ⟨hy.1, hy.2.1, hy.2.2.below hb⟩
  f15 := fun h => (I.f15 (upd_ne (by decide) h)).imp fun y hy => ⟨hy.1, hy.2.1, hy.2.2.below hb⟩
  c7 := fun h => upd_up (I.c7 (upd_ne (by decide) h))
  c12 := fun h => upd_up (I.c12 (upd_ne (by decide) h))
  c13 := fun h => ⟨upd_up (I.c13 (upd_ne (by decide) h)).1, upd_up (I.c13 (upd_ne (by decide) h)).2⟩
  c15 := fun h => ⟨upd_up (I.c15 (upd_ne (by decide) h)).1, upd_up (I.c15 (upd_ne (by decide) h)).2⟩

theorem OwI.s1 {W0 w : World} {x : Nat} {a : Im4} {m : Img} {d : Nat → Bool} {s3 s5 s6 s7 s8 s9 s10 s11 s12 s13 s14 s15 s16 s17 s18 v : Value} (I : OwI W0 x a m d w s3 s5 s6 s7 s8 s9 s10 s11 s12 s13 s14 s15 s16 s17 s18) (hd : d 1 = false) (hv : v = .pointer (some ⟨x, 0, none⟩)) : OwI W0 x a m (updD d 1) w s3 s5 v s7 s8 s9 s10 s11 s12 s13 s14 s15 s16 s17 s18 where
  b := I.b
  f0 := fun h => I.f0 (upd_ne (by decide) h)
  f1 := fun _ => hv
  f2 := fun h => I.f2 (upd_ne (by decide) h)
  f3 := fun h => I.f3 (upd_ne (by decide) h)
  f4 := fun h => I.f4 (upd_ne (by decide) h)
  f5 := fun h => I.f5 (upd_ne (by decide) h)
  f6 := fun h => I.f6 (upd_ne (by decide) h)
  f7 := fun h => I.f7 (upd_ne (by decide) h)
  f8 := fun h => I.f8 (upd_ne (by decide) h)
  f9 := fun h => I.f9 (upd_ne (by decide) h)
  f10 := fun h => I.f10 (upd_ne (by decide) h)
  f11 := fun h => I.f11 (upd_ne (by decide) h)
  f12 := fun h => I.f12 (upd_ne (by decide) h)
  f13 := fun h => I.f13 (upd_ne (by decide) h)
  f14 := fun h h' => I.f14 (upd_ne (by decide) h) (upd_nf h')
  f15 := fun h => I.f15 (upd_ne (by decide) h)
  c7 := fun h => upd_up (I.c7 (upd_ne (by decide) h))
  c12 := fun h => upd_up (I.c12 (upd_ne (by decide) h))
  c13 := fun h => ⟨upd_up (I.c13 (upd_ne (by decide) h)).1, upd_up (I.c13 (upd_ne (by decide) h)).2⟩
  c15 := fun h => ⟨upd_up (I.c15 (upd_ne (by decide) h)).1, upd_up (I.c15 (upd_ne (by decide) h)).2⟩

theorem OwI.s5 {W0 w : World} {x : Nat} {a : Im4} {m : Img} {d : Nat → Bool} {s3 s5 s6 s7 s8 s9 s10 s11 s12 s13 s14 s15 s16 s17 s18 v : Value} (I : OwI W0 x a m d w s3 s5 s6 s7 s8 s9 s10 s11 s12 s13 s14 s15 s16 s17 s18) (hd : d 5 = false) (hv : v = .pointer (some ⟨x, 1, none⟩)) : OwI W0 x a m (updD d 5) w s3 s5 s6 s7 s8 s9 v s11 s12 s13 s14 s15 s16 s17 s18 where
  b := I.b
  f0 := fun h => I.f0 (upd_ne (by decide) h)
  f1 := fun h => I.f1 (upd_ne (by decide) h)
  f2 := fun h => I.f2 (upd_ne (by decide) h)
  f3 := fun h => I.f3 (upd_ne (by decide) h)
  f4 := fun h => I.f4 (upd_ne (by decide) h)
  f5 := fun _ => hv
  f6 := fun h => I.f6 (upd_ne (by decide) h)
  f7 := fun h => I.f7 (upd_ne (by decide) h)
  f8 := fun h => I.f8 (upd_ne (by decide) h)
  f9 := fun h => I.f9 (upd_ne (by decide) h)
  f10 := fun h => I.f10 (upd_ne (by decide) h)
  f11 := fun h => I.f11 (upd_ne (by decide) h)
  f12 := fun h => I.f12 (upd_ne (by decide) h)
  f13 := fun h => I.f13 (upd_ne (by decide) h)
  f14 := fun h h' => I.f14 (upd_ne (by decide) h) (upd_nf h')
  f15 := fun h => I.f15 (upd_ne (by decide) h)
  c7 := fun h => upd_up (I.c7 (upd_ne (by decide) h))
  c12 := fun h => upd_up (I.c12 (upd_ne (by decide) h))
  c13 := fun h => ⟨upd_up (I.c13 (upd_ne (by decide) h)).1, upd_up (I.c13 (upd_ne (by decide) h)).2⟩
  c15 := fun h => ⟨upd_up (I.c15 (upd_ne (by decide) h)).1, upd_up (I.c15 (upd_ne (by decide) h)).2⟩

theorem OwI.s10 {W0 w : World} {x : Nat} {a : Im4} {m : Img} {d : Nat → Bool} {s3 s5 s6 s7 s8 s9 s10 s11 s12 s13 s14 s15 s16 s17 s18 v : Value} (I : OwI W0 x a m d w s3 s5 s6 s7 s8 s9 s10 s11 s12 s13 s14 s15 s16 s17 s18) (hd : d 10 = false) (hv : v = .pointer (some ⟨x, 3, none⟩)) : OwI W0 x a m (updD d 10) w s3 s5 s6 s7 s8 s9 s10 s11 s12 s13 s14 v s16 s17 s18 where
  b := I.b
  f0 := fun h => I.f0 (upd_ne (by decide) h)
  f1 := fun h => I.f1 (upd_ne (by decide) h)
  f2 := fun h => I.f2 (upd_ne (by decide) h)
  f3 := fun h => I.f3 (upd_ne (by decide) h)
  f4 := fun h => I.f4 (upd_ne (by decide) h)
  f5 := fun h => I.f5 (upd_ne (by decide) h)
  f6 := fun h => I.f6 (upd_ne (by decide) h)
  f7 := fun h => I.f7 (upd_ne (by decide) h)
  f8 := fun h => I.f8 (upd_ne (by decide) h)
  f9 := fun h => I.f9 (upd_ne (by decide) h)
  f10 := fun _ => hv
  f11 := fun h => I.f11 (upd_ne (by decide) h)
  f12 := fun h => I.f12 (upd_ne (by decide) h)
  f13 := fun h => I.f13 (upd_ne (by decide) h)
  f14 := fun h h' => I.f14 (upd_ne (by decide) h) (upd_nf h')
  f15 := fun h => I.f15 (upd_ne (by decide) h)
  c7 := fun h => upd_up (I.c7 (upd_ne (by decide) h))
  c12 := fun h => upd_up (I.c12 (upd_ne (by decide) h))
  c13 := fun h => ⟨upd_up (I.c13 (upd_ne (by decide) h)).1, upd_up (I.c13 (upd_ne (by decide) h)).2⟩
  c15 := fun h => ⟨upd_up (I.c15 (upd_ne (by decide) h)).1, upd_up (I.c15 (upd_ne (by decide) h)).2⟩

theorem OwI.s2 {W0 w : World} {x : Nat} {a : Im4} {m : Img} {d : Nat → Bool} {s3 s5 s6 s7 s8 s9 s10 s11 s12 s13 s14 s15 s16 s17 s18 v : Value} (I : OwI W0 x a m d w s3 s5 s6 s7 s8 s9 s10 s11 s12 s13 s14 s15 s16 s17 s18) (hd : d 2 = false) (hv : v = .slice a.ro m.refs.length a.rc) : OwI W0 x a m (updD d 2) w s3 s5 s6 v s8 s9 s10 s11 s12 s13 s14 s15 s16 s17 s18 where
  b := I.b
  f0 := fun h => I.f0 (upd_ne (by decide) h)
  f1 := fun h => I.f1 (upd_ne (by decide) h)
  f2 := fun _ => hv
  f3 := fun h => I.f3 (upd_ne (by decide) h)
  f4 := fun h => I.f4 (upd_ne (by decide) h)
  f5 := fun h => I.f5 (upd_ne (by decide) h)
  f6 := fun h => I.f6 (upd_ne (by decide) h)
  f7 := fun h => I.f7 (upd_ne (by decide) h)
  f8 := fun h => I.f8 (upd_ne (by decide) h)
  f9 := fun h => I.f9 (upd_ne (by decide) h)
  f10 := fun h => I.f10 (upd_ne (by decide) h)
  f11 := fun h => I.f11 (upd_ne (by decide) h)
  f12 := fun h => I.f12 (upd_ne (by decide) h)
  f13 := fun h => I.f13 (upd_ne (by decide) h)
  f14 := fun h h' => I.f14 (upd_ne (by decide) h) (upd_nf h')
  f15 := fun h => I.f15 (upd_ne (by decide) h)
  c7 := fun h => upd_up (I.c7 (upd_ne (by decide) h))
  c12 := fun h => upd_up (I.c12 (upd_ne (by decide) h))
  c13 := fun h => ⟨upd_up (I.c13 (upd_ne (by decide) h)).1, upd_up (I.c13 (upd_ne (by decide) h)).2⟩
  c15 := fun h => ⟨upd_up (I.c15 (upd_ne (by decide) h)).1, upd_up (I.c15 (upd_ne (by decide) h)).2⟩

theorem OwI.s6 {W0 w : World} {x : Nat} {a : Im4} {m : Img} {d : Nat → Bool} {s3 s5 s6 s7 s8 s9 s10 s11 s12 s13 s14 s15 s16 s17 s18 v : Value} (I : OwI W0 x a m d w s3 s5 s6 s7 s8 s9 s10 s11 s12 s13 s14 s15 s16 s17 s18) (hd : d 6 = false) (hv : v = .slice a.tq m.table.length a.tc) : OwI W0 x a m (updD d 6) w s3 s5 s6 s7 s8 s9 s10 v s12 s13 s14 s15 s16 s17 s18 where
  b := I.b
  f0 := fun h => I.f0 (upd_ne (by decide) h)
  f1 := fun h => I.f1 (upd_ne (by decide) h)
  f2 := fun h => I.f2 (upd_ne (by decide) h)
  f3 := fun h => I.f3 (upd_ne (by decide) h)
  f4 := fun h => I.f4 (upd_ne (by decide) h)
  f5 := fun h => I.f5 (upd_ne (by decide) h)
  f6 := fun _ => hv
  f7 := fun h => I.f7 (upd_ne (by decide) h)
  f8 := fun h => I.f8 (upd_ne (by decide) h)
  f9 := fun h => I.f9 (upd_ne (by decide) h)
  f10 := fun h => I.f10 (upd_ne (by decide) h)
  f11 := fun h => I.f11 (upd_ne (by decide) h)
  f12 := fun h => I.f12 (upd_ne (by decide) h)
  f13 := fun h => I.f13 (upd_ne (by decide) h)
  f14 := fun h h' => I.f14 (upd_ne (by decide) h) (upd_nf h')
  f15 := fun h => I.f15 (upd_ne (by decide) h)
  c7 := fun h => upd_up (I.c7 (upd_ne (by decide) h))
  c12 := fun h => upd_up (I.c12 (upd_ne (by decide) h))
  c13 := fun h => ⟨upd_up (I.c13 (upd_ne (by decide) h)).1, upd_up (I.c13 (upd_ne (by decide) h)).2⟩
  c15 := fun h => ⟨upd_up (I.c15 (upd_ne (by decide) h)).1, upd_up (I.c15 (upd_ne (by decide) h)).2⟩

theorem OwI.s11 {W0 w : World} {x : Nat} {a : Im4} {m : Img} {d : Nat → Bool} {s3 s5 s6 s7 s8 s9 s10 s11 s12 s13 s14 s15 s16 s17 s18 v : Value} (I : OwI W0 x a m d w s3 s5 s6 s7 s8 s9 s10 s11 s12 s13 s14 s15 s16 s17 s18) (hd : d 11 = false) (hv : v = .slice a.dq m.data.length a.dc) : OwI W0 x a m (updD d 11) w s3 s5 s6 s7 s8 s9 s10 s11 s12 s13 s14 s15 v s17 s18 where
  b := I.b
  f0 := fun h => I.f0 (upd_ne (by decide) h)
  f1 := fun h => I.f1 (upd_ne (by decide) h)
  f2 := fun h => I.f2 (upd_ne (by decide) h)
  f3 := fun h => I.f3 (upd_ne (by decide) h)
  f4 := fun h => I.f4 (upd_ne (by decide) h)
  f5 := fun h => I.f5 (upd_ne (by decide) h)
  f6 := fun h => I.f6 (upd_ne (by decide) h)
  f7 := fun h => I.f7 (upd_ne (by decide) h)
  f8 := fun h => I.f8 (upd_ne (by decide) h)
  f9 := fun h => I.f9 (upd_ne (by decide) h)
  f10 := fun h => I.f10 (upd_ne (by decide) h)
  f11 := fun _ => hv
  f12 := fun h => I.f12 (upd_ne (by decide) h)
  f13 := fun h => I.f13 (upd_ne (by decide) h)
  f14 := fun h h' => I.f14 (upd_ne (by decide) h) (upd_nf h')
  f15 := fun h => I.f15 (upd_ne (by decide) h)
  c7 := fun h => upd_up (I.c7 (upd_ne (by decide) h))
  c12 := fun h => upd_up (I.c12 (upd_ne (by decide) h))
  c13 := fun h => ⟨upd_up (I.c13 (upd_ne (by decide) h)).1, upd_up (I.c13 (upd_ne (by decide) h)).2⟩
  c15 := fun h => ⟨upd_up (I.c15 (upd_ne (by decide) h)).1, upd_up (I.c15 (upd_ne (by decide) h)).2⟩

theorem OwI.s3 {W0 w w2 : World} {x : Nat} {a : Im4} {m : Img} {d : Nat → Bool} {s3 s5 s6 s7 s8 s9 s10 s11 s12 s13 s14 s15 s16 s17 s18 v : Value} (I : OwI W0 x a m d w s3 s5 s6 s7 s8 s9 s10 s11 s12 s13 s14 s15 s16 s17 s18) (hd : d 3 = false) (hb : Below w.heap.size w w2) (hv : OwnN w2 w.heap.size v m.refs) : OwI W0 x a m (updD d 3) w2 s3 s5 s6 s7 v s9 s10 s11 s12 s13 s14 s15 s16 s17 s18 where
  b := fr I.b hb
  f0 := fun h => I.f0 (upd_ne (by decide) h)
  f1 := fun h => I.f1 (upd_ne (by decide) h)
  f2 := fun h => I.f2 (upd_ne (by decide) h)
  f3 := fun _ => hv.base I.b.size
  f4 := fun h => I.f4 (upd_ne (by decide) h)
  f5 := fun h => I.f5 (upd_ne (by decide) h)
  f6 := fun h => I.f6 (upd_ne (by decide) h)
  f7 := fun h => no_d (I.c7 (upd_ne (by decide) h)) hd
  f8 := fun h => I.f8 (upd_ne (by decide) h)
  f9 := fun h => I.f9 (upd_ne (by decide) h)
  f10 := fun h => I.f10 (upd_ne (by decide) h)
  f11 := fun h => I.f11 (upd_ne (by decide) h)
  f12 := fun h => no_d (I.c7 (I.c12 (upd_ne (by decide) h))) hd
  f13 := fun h => no_d (I.c7 (I.c12 (I.c13 (upd_ne (by decide) h)).2)) hd
  f14 := fun h h' => (I.f14 (upd_ne (by decide) h) (upd_nf h')).imp fun y hy => ⟨hy.1, hy.2.1, hy.2.2.below hb⟩
  f15 := fun h => no_d (I.c7 (I.c12 (I.c13 (I.c15 (upd_ne (by decide) h)).1).2)) hd
  c7 := fun h => upd_at
  c12 := fun h => upd_up (I.c12 (upd_ne (by decide) h))
  c13 := fun h => ⟨upd_up (I.c13 (upd_ne (by decide) h)).1, upd_up (I.c13 (upd_ne (by decide) h)).2⟩
  c15 := fun h => ⟨upd_up (I.c15 (upd_ne (by decide) h)).1, upd_up (I.c15 (upd_ne (by decide) h)).2⟩

theorem OwI.s7 {W0 w w2 : World} {x : Nat} {a : Im4} {m : Img} {d : Nat → Bool} {s3 s5 s6 s7 s8 s9 s10 s11 s12 s13 s14 s15 s16 s17 s18 v : Value} (I : OwI W0 x a m d w s3 s5 s6 s7 s8 s9 s10 s11 s12 s13 s14 s15 s16 s17 s18) (hd : d 7 = false) (hb : Below w.heap.size w w2) (p3 : d 3 = true) (hv : OwnN w2 w.heap.size v m.table) : OwI W0 x a m (updD d 7) w2 s3 s5 s6 s7 s8 s9 s10 s11 v s13 s14 s15 s16 s17 s18 where
  b := fr I.b hb
  f0 := fun h => I.f0 (upd_ne (by decide) h)
  f1 := fun h => I.f1 (upd_ne (by decide) h)
  f2 := fun h => I.f2 (upd_ne (by decide) h)
  f3 := fun h => (I.f3 (upd_ne (by decide) h)).below hb
  f4 := fun h => I.f4 (upd_ne (by decide) h)
  f5 := fun h => I.f5 (upd_ne (by decide) h)
  f6 := fun h => I.f6 (upd_ne (by decide) h)
  f7 := fun _ => ⟨hv.base I.b.size, fresh_apart (I.f3 p3) hv⟩
  f8 := fun h => I.f8 (upd_ne (by decide) h)
  f9 := fun h => I.f9 (upd_ne (by decide) h)
  f10 := fun h => I.f10 (upd_ne (by decide) h)
  f11 := fun h => I.f11 (upd_ne (by decide) h)
  f12 := fun h => no_d (I.c12 (upd_ne (by decide) h)) hd
  f13 := fun h => no_d (I.c12 (I.c13 (upd_ne (by decide) h)).2) hd
  f14 := fun h h' => (I.f14 (upd_ne (by decide) h) (upd_nf h')).imp fun y hy => ⟨hy.1, hy.2.1, hy.2.2.below hb⟩
  f15 := fun h => no_d (I.c12 (I.c13 (I.c15 (upd_ne (by decide) h)).1).2) hd
  c7 := fun h => upd_up p3
  c12 := fun h => upd_at
  c13 := fun h => ⟨upd_up (I.c13 (upd_ne (by decide) h)).1, upd_up (I.c13 (upd_ne (by decide) h)).2⟩
  c15 := fun h => ⟨upd_up (I.c15 (upd_ne (by decide) h)).1, upd_up (I.c15 (upd_ne (by decide) h)).2⟩

theorem OwI.s12 {W0 w w2 : World} {x : Nat} {a : Im4} {m : Img} {d : Nat → Bool} {s3 s5 s6 s7 s8 s9 s10 s11 s12 s13 s14 s15 s16 s17 s18 v : Value} (I : OwI W0 x a m d w s3 s5 s6 s7 s8 s9 s10 s11 s12 s13 s14 s15 s16 s17 s18) (hd : d 12 = false) (hb : Below w.heap.size w w2) (p7 : d 7 = true) (hv : OwnN w2 w.heap.size v m.data) : OwI W0 x a m (updD d 12) w2 s3 s5 s6 s7 s8 s9 s10 s11 s12 s13 s14 s15 s16 v s18 where
  b := fr I.b hb
  f0 := fun h => I.f0 (upd_ne (by decide) h)
  f1 := fun h => I.f1 (upd_ne (by decide) h)
  f2 := fun h => I.f2 (upd_ne (by decide) h)
  f3 := fun h => (I.f3 (upd_ne (by decide) h)).below hb
  f4 := fun h => I.f4 (upd_ne (by decide) h)
  f5 := fun h => I.f5 (upd_ne (by decide) h)
  f6 := fun h => I.f6 (upd_ne (by decide) h)
  f7 := fun h => ⟨(I.f7 (upd_ne (by decide) h)).1.below hb, (I.f7 (upd_ne (by decide) h)).2⟩
  f8 := fun h => I.f8 (upd_ne (by decide) h)
  f9 := fun h => I.f9 (upd_ne (by decide) h)
  f10 := fun h => I.f10 (upd_ne (by decide) h)
  f11 := fun h => I.f11 (upd_ne (by decide) h)
  f12 := fun _ => ⟨hv.base I.b.size, fresh_apart (I.f3 (I.c7 p7)) hv, fresh_apart (I.f7 p7).1 hv⟩
  f13 := fun h => no_d ((I.c13 (upd_ne (by decide) h)).2) hd
  f14 := fun h h' => (I.f14 (upd_ne (by decide) h) (upd_nf h')).imp fun y hy => ⟨hy.1, hy.2.1, hy.2.2.below hb⟩
  f15 := fun h => no_d ((I.c13 (I.c15 (upd_ne (by decide) h)).1).2) hd
  c7 := fun h => upd_up (I.c7 (upd_ne (by decide) h))
  c12 := fun h => upd_up p7
  c13 := fun h => ⟨upd_up (I.c13 (upd_ne (by decide) h)).1, upd_at⟩
  c15 := fun h => ⟨upd_up (I.c15 (upd_ne (by decide) h)).1, upd_up (I.c15 (upd_ne (by decide) h)).2⟩

theorem OwI.s13 {W0 w : World} {x : Nat} {a : Im4} {m : Img} {d : Nat → Bool} {s3 s5 s6 s7 s8 s9 s10 s11 s12 s13 s14 s15 s16 s17 s18 v : Value} (I : OwI W0 x a m d w s3 s5 s6 s7 s8 s9 s10 s11 s12 s13 s14 s15 s16 s17 s18) (hd : d 13 = false) (p8 : d 8 = true) (p12 : d 12 = true) (hv : v = .agg #[s8, s12, s13, s17]) : OwI W0 x a m (updD d 13) w s3 s5 s6 s7 s8 s9 s10 s11 s12 s13 s14 s15 s16 s17 v where
  b := I.b
  f0 := fun h => I.f0 (upd_ne (by decide) h)
  f1 := fun h => I.f1 (upd_ne (by decide) h)
  f2 := fun h => I.f2 (upd_ne (by decide) h)
  f3 := fun h => I.f3 (upd_ne (by decide) h)
  f4 := fun h => I.f4 (upd_ne (by decide) h)
  f5 := fun h => I.f5 (upd_ne (by decide) h)
  f6 := fun h => I.f6 (upd_ne (by decide) h)
  f7 := fun h => I.f7 (upd_ne (by decide) h)
  f8 := fun h => I.f8 (upd_ne (by decide) h)
  f9 := fun h => I.f9 (upd_ne (by decide) h)
  f10 := fun h => I.f10 (upd_ne (by decide) h)
  f11 := fun h => I.f11 (upd_ne (by decide) h)
  f12 := fun h => I.f12 (upd_ne (by decide) h)
  f13 := fun _ => hv
  f14 := fun h h' => I.f14 (upd_ne (by decide) h) (upd_nf h')
  f15 := fun h => no_d ((I.c15 (upd_ne (by decide) h)).1) hd
  c7 := fun h => upd_up (I.c7 (upd_ne (by decide) h))
  c12 := fun h => upd_up (I.c12 (upd_ne (by decide) h))
  c13 := fun h => ⟨upd_up p8, upd_up p12⟩
  c15 := fun h => ⟨upd_at, upd_up (I.c15 (upd_ne (by decide) h)).2⟩

theorem OwI.s14 {W0 w w2 : World} {x : Nat} {a : Im4} {m : Img} {d : Nat → Bool} {s3 s5 s6 s7 s8 s9 s10 s11 s12 s13 s14 s15 s16 s17 s18 v : Value} (I : OwI W0 x a m d w s3 s5 s6 s7 s8 s9 s10 s11 s12 s13 s14 s15 s16 s17 s18) (hd : d 14 = false) (hb : Below w.heap.size w w2) {y : Nat} (hv : v = .pointer (some ⟨y, 0, none⟩)) (hy : W0.heap.size ≤ y) (hn : VarM w2 y 66 (.slice none 0 0) (.slice none 0 0) (.slice none 0 0) (.slice none 0 0)) : OwI W0 x a m (updD d 14) w2 v s5 s6 s7 s8 s9 s10 s11 s12 s13 s14 s15 s16 s17 s18 where
  b := fr I.b hb
  f0 := fun h => I.f0 (upd_ne (by decide) h)
  f1 := fun h => I.f1 (upd_ne (by decide) h)
  f2 := fun h => I.f2 (upd_ne (by decide) h)
  f3 := fun h => (I.f3 (upd_ne (by decide) h)).below hb
  f4 := fun h => I.f4 (upd_ne (by decide) h)
  f5 := fun h => I.f5 (upd_ne (by decide) h)
  f6 := fun h => I.f6 (upd_ne (by decide) h)
  f7 := fun h => ⟨(I.f7 (upd_ne (by decide) h)).1.below hb, (I.f7 (upd_ne (by decide) h)).2⟩
  f8 := fun h => I.f8 (upd_ne (by decide) h)
  f9 := fun h => I.f9 (upd_ne (by decide) h)
  f10 := fun h => I.f10 (upd_ne (by decide) h)
  f11 := fun h => I.f11 (upd_ne (by decide) h)
  f12 := fun h => ⟨(I.f12 (upd_ne (by decide) h)).1.below hb, (I.f12 (upd_ne (by decide) h)).2⟩
  f13 := fun h => I.f13 (upd_ne (by decide) h)
  f14 := fun _ _ => ⟨y, hv, hy, hn⟩
  f15 := fun h => no_d ((I.c15 (upd_ne (by decide) h)).2) hd
  c7 := fun h => upd_up (I.c7 (upd_ne (by decide) h))
  c12 := fun h => upd_up (I.c12 (upd_ne (by decide) h))
  c13 := fun h => ⟨upd_up (I.c13 (upd_ne (by decide) h)).1, upd_up (I.c13 (upd_ne (by decide) h)).2⟩
  c15 := fun h => ⟨upd_up (I.c15 (upd_ne (by decide) h)).1, upd_at⟩

theorem OwnN.other {w : World} {B : Nat} {v : Value} {xs : List Int} (h : OwnN w B v xs) {x t : Nat} {c : Array Value} (hx : w.heap[x]? = some (.cells c t (0, 0))) (he : t ≠ 3) : ¬ Own v x := h.row.other hx he
theorem OwI.s15 {W0 w w2 : World} {x y : Nat} {a : Im4} {m : Img} {d : Nat → Bool} {s3 s5 s6 s7 s8 s9 s10 s11 s12 s13 s14 s15 s16 s17 s18 : Value} (I : OwI W0 x a m d w s3 s5 s6 s7 s8 s9 s10 s11 s12 s13 s14 s15 s16 s17 s18) (hd : d 15 = false) (p13 : d 13 = true) (p14 : d 14 = true) (hy : s3 = .pointer (some ⟨y, 0, none⟩)) (hB : W0.heap.size ≤ y) (hv : w.heap[y]? = some (.cells #[.slice none 0 0, .slice none 0 0, .slice none 0 0, .slice none 0 0] 66 (0, 0))) (hk : Keep (fun k => k = y) w w2) (hn : VarM w2 y 66 s8 s12 s13 s17) : OwI W0 x a m (updD d 15) w2 s3 s5 s6 s7 s8 s9 s10 s11 s12 s13 s14 s15 s16 s17 s18 where
  b := I.b.trans (hk.below I.b.size (fun k e => by omega))
  f0 := fun h => I.f0 (upd_ne (by decide) h)
  f1 := fun h => I.f1 (upd_ne (by decide) h)
  f2 := fun h => I.f2 (upd_ne (by decide) h)
  f3 := fun h => (I.f3 (upd_ne (by decide) h)).keep hk (fun g hg e => (I.f3 (upd_ne (by decide) h)).other hv (by decide) (e ▸ hg))
  f4 := fun h => I.f4 (upd_ne (by decide) h)
  f5 := fun h => I.f5 (upd_ne (by decide) h)
  f6 := fun h => I.f6 (upd_ne (by decide) h)
  f7 := fun h => ⟨(I.f7 (upd_ne (by decide) h)).1.keep hk (fun g hg e => (I.f7 (upd_ne (by decide) h)).1.other hv (by decide) (e ▸ hg)), (I.f7 (upd_ne (by decide) h)).2⟩
  f8 := fun h => I.f8 (upd_ne (by decide) h)
  f9 := fun h => I.f9 (upd_ne (by decide) h)
  f10 := fun h => I.f10 (upd_ne (by decide) h)
  f11 := fun h => I.f11 (upd_ne (by decide) h)
  f12 := fun h => ⟨(I.f12 (upd_ne (by decide) h)).1.keep hk (fun g hg e => (I.f12 (upd_ne (by decide) h)).1.other hv (by decide) (e ▸ hg)), (I.f12 (upd_ne (by decide) h)).2⟩
  f13 := fun h => I.f13 (upd_ne (by decide) h)
  f14 := fun h h' => no_d (k := 15) upd_at h'
  f15 := fun h => ⟨y, hy, hB, hn⟩
  c7 := fun h => upd_up (I.c7 (upd_ne (by decide) h))
  c12 := fun h => upd_up (I.c12 (upd_ne (by decide) h))
  c13 := fun h => ⟨upd_up (I.c13 (upd_ne (by decide) h)).1, upd_up (I.c13 (upd_ne (by decide) h)).2⟩
  c15 := fun h => ⟨upd_up p13, upd_up p14⟩

/-- The frame of l10Own while it copies the rows. -/
abbrev ownF (v0 : Value) (x r : Nat) (s3 s5 s6 s7 s8 s9 s10 s11 s12 s13 s14 s15 s16 s17 s18 : Value) : Act := ⟨#[v0, .pointer (some ⟨x, 0, none⟩), .pointer (some ⟨r, 0, none⟩), s3, undef, s5, s6, s7, s8, s9, s10, s11, s12, s13, s14, s15, s16, s17, s18, undef, undef, undef, undef, undef, undef, undef, undef, undef, undef, undef, undef, undef, undef, undef, undef, undef, undef, undef, undef, undef, undef, undef, undef, undef, undef, undef, undef], []⟩
def OwInv (W0 : World) (x r : Nat) (a : Im4) (m : Img) (d : Nat → Bool) (f : Act) (w : World) : Prop := ∃ s3 s5 s6 s7 s8 s9 s10 s11 s12 s13 s14 s15 s16 s17 s18, f = ownF (imV a m) x r s3 s5 s6 s7 s8 s9 s10 s11 s12 s13 s14 s15 s16 s17 s18 ∧ OwI W0 x a m d w s3 s5 s6 s7 s8 s9 s10 s11 s12 s13 s14 s15 s16 s17 s18
theorem OwInv.start (W0 : World) (x r : Nat) (a : Im4) (m : Img) (w : World) (hb : Below W0.heap.size W0 w) : OwInv W0 x r a m (fun _ => false) (ownF (imV a m) x r undef undef undef undef undef undef undef undef undef undef undef undef undef undef undef) w :=
  ⟨undef, undef, undef, undef, undef, undef, undef, undef, undef, undef, undef, undef, undef, undef, undef, rfl, ⟨hb, fun h => (by cases h), fun h => (by cases h), fun h => (by cases h), fun h => (by cases h), fun h => (by cases h), fun h => (by cases h), fun h => (by cases h), fun h => (by cases h), fun h => (by cases h), fun h => (by cases h), fun h => (by cases h), fun h => (by cases h), fun h => (by cases h), fun h => (by cases h), fun h => (by cases h), fun h => (by cases h), fun h => (by cases h), fun h => (by cases h), fun h => (by cases h), fun h => (by cases h)⟩⟩

end Go.Proofs.YtkndabnngdjcgaaDoor
