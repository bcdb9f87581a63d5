import Derived.Test.YtefnapcegeojoabRows
import Derived.Test.YtefnapcegeojoabXJournalPlanPart1
import Derived.WalkKit
import Derived.WalkSpells
import Derived.Laws.CopyRow
import Derived.Laws.CopyOwn
import Derived.Deep.RegionWith
import Derived.Outline
import Derived.Deep.RegionLawGrows
import Derived.Deep.RegionHeld3
import Derived.Test.YtefnapcegeojoabXJournalPlanPart2
import Derived.Deep.AppendLies
import Derived.OwnWalk
import Derived.KernelRfl
import Derived.BigQuiet
import Derived.Deep.QuietTactic
import Derived.LoopN

/- A disk in rows of the call's own; variables that hold a disk. -/
namespace Go.Proofs.Ytefnapcegeojoab
open Go.RowKit
set_option linter.unusedVariables false

/-- A disk in rows of the call's own, at blocks from B on. -/
structure OwnD (w : World) (B : Nat) (ao : Option Addr) (n ca : Nat) (bo : Option Addr) (m cb : Nat) (ss : List ByteArray) (xs : List Wr) : Prop where
  s : OwnR w B 9 1 (.slice ao n ca) n (strV ss)
  i : OwnR w B 101 3 (.slice bo m cb) m (ioV xs)

def OwnB (ao : Option Addr) (n ca : Nat) (bo : Option Addr) (m cb : Nat) (k : Nat) : Prop := Own (.slice ao n ca) k ∨ Own (.slice bo m cb) k

theorem OwnD.below {w w' : World} {B n ca m cb : Nat} {ao bo : Option Addr} {ss : List ByteArray} {xs : List Wr} (h : OwnD w B ao n ca bo m cb ss xs) (hb : Below w.heap.size w w') : OwnD w' B ao n ca bo m cb ss xs := ⟨h.s.below hb, h.i.below hb⟩
theorem OwnD.base {w : World} {B B' n ca m cb : Nat} {ao bo : Option Addr} {ss : List ByteArray} {xs : List Wr} (h : OwnD w B ao n ca bo m cb ss xs) (hb : B' ≤ B) : OwnD w B' ao n ca bo m cb ss xs := ⟨h.s.base hb, h.i.base hb⟩
theorem OwnD.keep {S : Nat → Prop} {w w' : World} {B n ca m cb : Nat} {ao bo : Option Addr} {ss : List ByteArray} {xs : List Wr} (h : OwnD w B ao n ca bo m cb ss xs) (hk : Keep S w w') (hs : ∀ g, OwnB ao n ca bo m cb g → ¬ S g) : OwnD w' B ao n ca bo m cb ss xs :=
  ⟨h.s.keep hk (fun g hg => hs g (.inl hg)), h.i.keep hk (fun g hg => hs g (.inr hg))⟩
theorem OwnD.setCell {w : World} {B n ca m cb : Nat} {ao bo : Option Addr} {ss : List ByteArray} {xs : List Wr} (h : OwnD w B ao n ca bo m cb ss xs) {a : Addr} (ha : a.block < B) (u : Value) : OwnD (w.setCell a u) B ao n ca bo m cb ss xs := ⟨h.s.setCell ha u, h.i.setCell ha u⟩
theorem OwnD.ge {w : World} {B n ca m cb : Nat} {ao bo : Option Addr} {ss : List ByteArray} {xs : List Wr} (h : OwnD w B ao n ca bo m cb ss xs) : ∀ k, OwnB ao n ca bo m cb k → B ≤ k ∧ k < w.heap.size := by
  rintro k (hk | hk)
  · exact h.s.ge k hk
  · exact h.i.ge k hk
theorem OwnD.len {w : World} {B n ca m cb : Nat} {ao bo : Option Addr} {ss : List ByteArray} {xs : List Wr} (h : OwnD w B ao n ca bo m cb ss xs) : ss.length = n ∧ xs.length = m := by
  have h1 := h.s.len
  have h2 := h.i.len
  rw [strV_length] at h1
  rw [ioV_length] at h2
  exact ⟨by omega, by omega⟩
theorem OwnD.ss {w : World} {B n ca m cb : Nat} {ao bo : Option Addr} {ss : List ByteArray} {xs : List Wr} (h : OwnD w B ao n ca bo m cb ss xs) (hz : ∀ s ∈ ss, s.size ≤ maxLen) : Ss w ao ss := by
  obtain ⟨rfl, rfl⟩ := h.len
  rcases h.s with ⟨h0, _⟩ | ⟨_, h'⟩
  · intro i hi; omega
  · exact ownS h' hz
theorem OwnD.ios {w : World} {B n ca m cb : Nat} {ao bo : Option Addr} {ss : List ByteArray} {xs : List Wr} (h : OwnD w B ao n ca bo m cb ss xs) (hz : ∀ x ∈ xs, x.data.size ≤ maxLen) : Ios w bo xs := by
  obtain ⟨rfl, rfl⟩ := h.len
  rcases h.i with ⟨h0, _⟩ | ⟨_, h'⟩
  · intro i hi; omega
  · exact ownI h' hz
/-- A block of another type of cells is none of a disk's rows. -/
theorem OwnD.other {w : World} {B n ca m cb : Nat} {ao bo : Option Addr} {ss : List ByteArray} {xs : List Wr} (h : OwnD w B ao n ca bo m cb ss xs) {x t : Nat} {c : Array Value} {f : Nat × Nat} (hx : w.heap[x]? = some (.cells c t f)) (h1 : t ≠ 9) (h2 : t ≠ 101) : ¬ OwnB ao n ca bo m cb x := by
  rintro (hk | hk)
  · exact h.s.other hx h1 hk
  · exact h.i.other hx h2 hk

/-- A variable that holds a disk. -/
def VarD (w : World) (x : Nat) (a b : Value) : Prop := w.heap[x]? = some (.cells #[a, b] 99 (0, 0))
theorem VarD.lt {w : World} {x : Nat} {a b : Value} (h : VarD w x a b) : x < w.heap.size := (Array.getElem?_eq_some_iff.1 h).1
theorem VarD.cells {w : World} {x : Nat} {a b : Value} (h : VarD w x a b) : w.cell? ⟨x, 0, none⟩ = some a ∧ w.cell? ⟨x, 1, none⟩ = some b := ⟨by rw [Joins.cell_of_block h]; rfl, by rw [Joins.cell_of_block h]; rfl⟩
theorem VarD.below {w w' : World} {x : Nat} {a b : Value} (h : VarD w x a b) (hb : Below w.heap.size w w') : VarD w' x a b := by
  unfold VarD; rw [hb.block x h.lt]; exact h
theorem VarD.keep {S : Nat → Prop} {w w' : World} {x : Nat} {a b : Value} (h : VarD w x a b) (hk : Keep S w w') (hs : ¬ S x) : VarD w' x a b := by
  unfold VarD; rw [hk.block x h.lt hs]; exact h
theorem VarD.new (w : World) (a b : Value) : VarD (w.alloc (.cells #[a, b] 99)) w.heap.size a b := heap_alloc_new w _

end Go.Proofs.Ytefnapcegeojoab

/- Contracts of copyList, at texts and at writes: what was there, in new memory. -/
namespace Go.Proofs.Ytefnapcegeojoab
open Go.RowKit
set_option linter.unusedVariables false
set_option maxRecDepth 100000

section
variable {P : Program}

/-- 'copy(out, src)', both of n elements of some cells each. -/
theorem run_copy_whole (w : World) (dT sT ty elem : TypeId) (size g n dCap : Nat) (a : Addr) (sCap : Nat) (cur : Array Value) (t : TypeId) (cs : List Value)
    (hu : P.underlying dT = some (.slice elem)) (hs : (P.info? elem).map (·.size) = some size)
    (hg : w.heap[g]? = some (.cells cur t (0, 0))) (hl : n * size = cs.length)
    (hsrc : ∀ j v, cs[j]? = some v → w.cell? (a.add j) = some v) (hfit : cs.length ≤ cur.size) (h1 : ∀ v ∈ cs, v.oneCell' = true) :
    (Builtin.copy_ #[dT, sT] ty #[.slice (some ⟨g, 0, none⟩) n dCap, .slice (some a) n sCap]).run P w = .ok (goInt n) (w.setRow g (cs ++ cur.toList.drop cs.length).toArray) := by
  have hld := run_loadCells_list (P := P) w a cs hsrc
  have hst := run_storeCells_at P g 0 t cs 0 cur w hg (by simpa using hfit) h1
  cases hq : P.info? elem with
  | none => simp [hq] at hs
  | some i =>
    have hi : i.size = size := by simpa [hq] using hs
    simp [Builtin.copy_, run_underlying hu, Builtin.lenOf, Builtin.firstCells, sizeOf, typeInfo, hq, hi, hl, hld, hst]

theorem wpList_copy_whole {w : World} {ops : Array Oper} {rest : List Oper} {o : Oper} {a : Act} {Q : Exit → Act → World → Prop} (hgd : o.guard = none) (d s : Operand) (dT sT : TypeId)
    (ho : o.op = .call { callee := .builtin .copy, args := #[d, s], argTypes := #[dT, sT] }) (elem : TypeId) (size : Nat) (hu : P.underlying dT = some (.slice elem)) (hsz : (P.info? elem).map (·.size) = some size)
    (B g n : Nat) (ad : Addr) (sCap : Nat) (hd : a.eval d = .slice (some ⟨g, 0, none⟩) n n) (hs : a.eval s = .slice (some ad) n sCap)
    (xs : List Value) (hown : w.ownsRow B elem size (.slice (some ⟨g, 0, none⟩) n n) n xs) (cs : List Value) (hn : cs.length = n * size)
    (hsrc : ∀ j v, cs[j]? = some v → w.cell? (ad.add j) = some v) (h1 : ∀ v ∈ cs, v.oneCell' = true)
    (h : ∀ w', w'.ownsRow B elem size (.slice (some ⟨g, 0, none⟩) n n) n cs → w.grownBy w' (some g) → wpList P ops Q rest (a.put o.dst (goInt n)) w') : wpList P ops Q (o :: rest) a w := by
  refine wpList_plain hgd fun K hK => ?_
  rcases hown.2 with ⟨e, _⟩ | ⟨g', cap', cur, e, hB, hg, hnc, hcm, hcs, ht⟩
  · simp at e
  · simp only [Value.slice.injEq, Option.some.injEq, Addr.mk.injEq, and_true, true_and] at e
    obtain ⟨rfl, rfl⟩ := e
    have hrun := run_copy_whole (P := P) w dT sT o.type elem size g n n ad sCap cur elem cs hu hsz hg hn.symm hsrc (by omega) h1
    unfold Oper.wp
    simp [execOp, ho, resolve, invoke, builtin, hd, hs, hrun, Result.andThen]
    refine hK _ _ (h _ ⟨hn, .inr ⟨g, n, _, rfl, hB, setRow_heap w g _ _ elem _ hg, hnc, hcm, ?_, ?_⟩⟩ ⟨rfl, rfl, rfl, by simp, fun k _ hk => setRow_other w g k _ (fun e => hk (by simp [e]))⟩)
    · simp; omega
    · rw [← hn]; simp
end

theorem infoS : (Try.prog.info? 9).map (fun i => (i.zero, i.size, i.bytes)) = some (some (.string ⟨#[]⟩), 1, 16) := by kernel_rfl
theorem infoW : (Try.prog.info? 101).map (fun i => (i.zero, i.size, i.bytes)) = some (some (.agg #[.int .i64 0, .int .i64 0, .string ⟨#[]⟩]), 3, 32) := by kernel_rfl
theorem sizeS : (Try.prog.info? 9).map (·.size) = some 1 := by kernel_rfl
theorem sizeW : (Try.prog.info? 101).map (·.size) = some 3 := by kernel_rfl

theorem strV_one (ss : List ByteArray) : ∀ v ∈ strV ss, v.oneCell' = true := by
  intro v hv
  simp only [strV, List.mem_map] at hv
  obtain ⟨s, _, rfl⟩ := hv
  rfl
theorem ioV_one (xs : List Wr) : ∀ v ∈ ioV xs, v.oneCell' = true := by
  intro v hv
  simp only [ioV, List.mem_flatMap] at hv
  obtain ⟨x, _, hv⟩ := hv
  simp at hv
  rcases hv with rfl | rfl | rfl <;> rfl
/-- A slice that is not empty has an address at which its cells lie. -/
theorem Ss.at {w : World} {ao : Option Addr} {ss : List ByteArray} (h : Ss w ao ss) (hp : 0 < ss.length) : ∃ b off, ao = some ⟨b, off, none⟩ ∧ ∀ j v, (strV ss)[j]? = some v → w.cell? (Addr.add ⟨b, off, none⟩ j) = some v := by
  obtain ⟨b, off, rfl, _⟩ := h 0 hp
  refine ⟨b, off, rfl, fun j v hv => ?_⟩
  have hj : j < ss.length := by have := (List.getElem?_eq_some_iff.1 hv).1; rwa [strV_length] at this
  obtain ⟨b', off', e, hc, _⟩ := h j hj
  simp only [Option.some.injEq, Addr.mk.injEq, and_true] at e
  obtain ⟨rfl, rfl⟩ := e
  rw [strV_get hj] at hv
  cases hv
  rw [show Addr.add ⟨b, off, none⟩ j = ⟨b, off + j, none⟩ from by unfold Addr.add; split <;> simp_all]
  exact hc
theorem ioV_at {xs : List Wr} {j : Nat} {v : Value} (h : (ioV xs)[j]? = some v) : ∃ i r, ∃ hi : i < xs.length, j = i * 3 + r ∧ ((r = 0 ∧ v = .int .i64 xs[i].host) ∨ (r = 1 ∧ v = .int .i64 xs[i].at_) ∨ (r = 2 ∧ v = .string xs[i].data)) := by
  have hj : j < xs.length * 3 := by have := (List.getElem?_eq_some_iff.1 h).1; rwa [ioV_length] at this
  have hi : j / 3 < xs.length := by omega
  obtain ⟨g0, g1, g2⟩ := ioV_get hi
  rcases (show j % 3 = 0 ∨ j % 3 = 1 ∨ j % 3 = 2 by omega) with e | e | e
  · rw [show j = j / 3 * 3 by omega, g0] at h; cases h
    exact ⟨j / 3, 0, hi, by omega, .inl ⟨rfl, rfl⟩⟩
  · rw [show j = j / 3 * 3 + 1 by omega, g1] at h; cases h
    exact ⟨j / 3, 1, hi, by omega, .inr (.inl ⟨rfl, rfl⟩)⟩
  · rw [show j = j / 3 * 3 + 2 by omega, g2] at h; cases h
    exact ⟨j / 3, 2, hi, by omega, .inr (.inr ⟨rfl, rfl⟩)⟩
theorem Ios.at {w : World} {ao : Option Addr} {xs : List Wr} (h : Ios w ao xs) (hp : 0 < xs.length) : ∃ b off, ao = some ⟨b, off, none⟩ ∧ ∀ j v, (ioV xs)[j]? = some v → w.cell? (Addr.add ⟨b, off, none⟩ j) = some v := by
  obtain ⟨b, off, rfl, _⟩ := h 0 hp
  refine ⟨b, off, rfl, fun j v hv => ?_⟩
  obtain ⟨i, r, hi, rfl, hr⟩ := ioV_at hv
  obtain ⟨b', off', e, h0, h1, h2, _⟩ := h i hi
  simp only [Option.some.injEq, Addr.mk.injEq, and_true] at e
  obtain ⟨rfl, rfl⟩ := e
  rw [show Addr.add ⟨b, off, none⟩ (i * 3 + r) = ⟨b, off + i * 3 + r, none⟩ from by unfold Addr.add; split <;> simp_all [Nat.add_assoc]]
  rcases hr with ⟨rfl, rfl⟩ | ⟨rfl, rfl⟩ | ⟨rfl, rfl⟩
  · exact h0
  · exact h1
  · exact h2

end Go.Proofs.Ytefnapcegeojoab

/- Contract of impl.copyDisk: the disk as it was, in new memory. -/
namespace Go.Proofs.Ytefnapcegeojoab
open Go.RowKit
set_option linter.unusedVariables false
set_option maxRecDepth 100000

theorem copyD_end {w wL : World} {po qo : Option Addr} {n pa m qa : Nat} {ss : List ByteArray} {xs : List Wr} (ho : OwnD wL (w.heap.size + 2) po n pa qo m qa ss xs) (hb : Below w.heap.size w wL) (a b : Value) :
    OwnD ((wL.setCell ⟨w.heap.size + 1, 0, none⟩ a).setCell ⟨w.heap.size + 1, 1, none⟩ b) w.heap.size po n pa qo m qa ss xs ∧ Below w.heap.size w ((wL.setCell ⟨w.heap.size + 1, 0, none⟩ a).setCell ⟨w.heap.size + 1, 1, none⟩ b) :=
  ⟨((ho.setCell (a := ⟨w.heap.size + 1, 0, none⟩) (by simp) a).setCell (a := ⟨w.heap.size + 1, 1, none⟩) (by simp) b).base (by omega),
    (hb.setCell (p := ⟨w.heap.size + 1, 0, none⟩) (by simp) a).setCell (p := ⟨w.heap.size + 1, 1, none⟩) (by simp) b⟩

end Go.Proofs.Ytefnapcegeojoab

/- Laws on append onto an empty literal, of no program's own. -/
namespace Go.Proofs.Ytefnapcegeojoab
open Go.RowKit
set_option linter.unusedVariables false
set_option maxRecDepth 100000

section
variable {P : Program}
theorem run_append_nothing (w : World) (t ty e : TypeId) (i : TypeInfo) (ht : P.underlying t = some (.slice e)) (hi : P.info? e = some i) (d so : Option Addr) (cap c : Nat) :
    (Builtin.append_ #[t, t] ty #[.slice d 0 cap, .slice so 0 c]).run P w = .ok (.slice d 0 cap) w := by
  have hl : ∀ (x : Addr), (loadCells x 0).run P w = .ok #[] w := fun x => by simpa using run_loadCells_list (P := P) w x [] (by simp)
  cases d <;> cases so <;> simp [Builtin.append_, run_underlying ht, sizeOf, typeInfo, hi, Builtin.lenOf, Builtin.firstCells, storeCells, hl]

theorem run_append_fresh (w : World) (t ty e : TypeId) (i : TypeInfo) (z : Value) (size bytes : Nat) (ht : P.underlying t = some (.slice e)) (hi : P.info? e = some i) (hz : i.zero = some z)
    (hsize : i.size = size) (hby : i.bytes = bytes) (hzs : z.cells.size = size) (hsz : 0 < size)
    (d : Addr) (so : Option Addr) (m c : Nat) (news : List Value) (hn : news.length = m * size) (hc : 0 < m → ∃ ad, so = some ad ∧ ∀ j u, news[j]? = some u → w.cell? (ad.add j) = some u)
    (b1 : m ≤ maxLen) (b2 : m * bytes ≤ 140737488355328) :
    ∃ ao cap w', (Builtin.append_ #[t, t] ty #[.slice (some d) 0 0, .slice so m c]).run P w = .ok (.slice ao m cap) w' ∧ OwnR w' w.heap.size e size (.slice ao m cap) m news ∧ w.grownBy w' none := by
  rcases Nat.eq_zero_or_pos m with h0 | h0
  · subst h0
    exact ⟨some d, 0, w, run_append_nothing w t ty e i ht hi _ _ _ _, .inl ⟨rfl, List.eq_nil_of_length_eq_zero (by simpa using hn), _, rfl⟩, World.grownBy.refl w none⟩
  · obtain ⟨ad, rfl, hcs⟩ := hc h0
    obtain ⟨v', w', hrun, r1, r2⟩ := run_append_arg_grows (P := P) w t ty e i z size bytes ht hi hz hsize hby hzs hsz d 0 0 [] (by simp) (by simp) ad m c news hn hcs (by omega) (by simpa using b1) (by simpa using b2)
    simp only [Nat.zero_add, List.nil_append] at r1
    obtain ⟨g, cap, cur, rfl, _, _⟩ := own_form h0 r1
    exact ⟨_, _, w', hrun, .inr ⟨h0, r1⟩, r2⟩

def isFresh : Value → Bool
  | .slice (some _) 0 0 => true
  | _ => false
theorem isFresh_form {v : Value} (h : isFresh v = true) : ∃ d, v = .slice (some d) 0 0 := by
  unfold isFresh at h
  split at h
  · exact ⟨_, rfl⟩
  · cases h

theorem step_append_fresh {ops : Array Oper} {o : Oper} {a : Act} {w : World} {K : Act → World → Prop} {Q : Exit → Act → World → Prop} {E : Prop}
    (hg : o.guard = none) (s x : Operand) (t : TypeId) (hop : o.op = Op.call { callee := Callee.builtin Builtin.append, args := #[s, x], argTypes := #[t, t] })
    (e : TypeId) (i : TypeInfo) (z : Value) (size bytes : Nat) (h1 : P.underlying t = some (.slice e)) (h2 : P.info? e = some i) (h3 : i.zero = some z) (h4 : i.size = size) (h5 : i.bytes = bytes) (h6 : z.cells.size = size) (h7 : 0 < size)
    (hs0 : isFresh (a.eval s) = true) (so : Option Addr) (m c : Nat) (news : List Value) (hx : a.eval x = .slice so m c) (hn : news.length = m * size)
    (hc : 0 < m → ∃ ad, so = some ad ∧ ∀ j u, news[j]? = some u → w.cell? (ad.add j) = some u) (b1 : m ≤ maxLen) (b2 : m * bytes ≤ 140737488355328)
    (hK : ∀ ao cap w', OwnR w' w.heap.size e size (.slice ao m cap) m news → w.grownBy w' none → K (a.put o.dst (.slice ao m cap)) w') :
    if Region.wanted o (yielded ops a.tmps) = true then Oper.wp P o a w K Q else E := by
  have hw : Region.wanted o (yielded ops a.tmps) = true := by simp [Region.wanted, hg]
  rw [if_pos hw]
  obtain ⟨d, hs⟩ := isFresh_form hs0
  obtain ⟨ao, cap, w', hrun, r1, r2⟩ := run_append_fresh (P := P) w t o.type e i z size bytes h1 h2 h3 h4 h5 h6 h7 d so m c news hn hc b1 b2
  unfold Oper.wp
  simp [execOp, hop, resolve, invoke, builtin, hs, hx, hrun, Result.andThen]
  exact hK _ _ _ r1 r2
end


theorem belowAl {W0 W : World} (h : Below W0.heap.size W0 W) (o : Obj) : Below W0.heap.size W0 (W.alloc o) := h.alloc h.size o
theorem belowGr {W0 W W' : World} (h : Below W0.heap.size W0 W) (hg : W.grownBy W' none) : Below W0.heap.size W0 W' := h.grown hg h.size (fun _ h => by cases h)
end Go.Proofs.Ytefnapcegeojoab

/- Contract of spec.l01Own: the disk as it was, in new memory. -/
namespace Go.Proofs.Ytefnapcegeojoab
open Go.RowKit
set_option linter.unusedVariables false
set_option maxRecDepth 100000

/-- The cells of a slice's texts, of its writes, for an append. -/
theorem Ss.src {w : World} {ao : Option Addr} {ss : List ByteArray} (h : Ss w ao ss) : 0 < ss.length → ∃ ad, ao = some ad ∧ ∀ j u, (strV ss)[j]? = some u → w.cell? (ad.add j) = some u := fun hp => by
  obtain ⟨b, off, rfl, hc⟩ := h.at hp
  exact ⟨_, rfl, hc⟩
theorem Ios.src {w : World} {ao : Option Addr} {xs : List Wr} (h : Ios w ao xs) : 0 < xs.length → ∃ ad, ao = some ad ∧ ∀ j u, (ioV xs)[j]? = some u → w.cell? (ad.add j) = some u := fun hp => by
  obtain ⟨b, off, rfl, hc⟩ := h.at hp
  exact ⟨_, rfl, hc⟩


theorem VarD.free {w : World} {x : Nat} {a b : Value} (h : VarD w x a b) (i : Nat) : w.frozen? ⟨x, i, none⟩ = false := Joins.unfrozen_of_block h i

end Go.Proofs.Ytefnapcegeojoab

/- Variables that hold a write; ends of calls that answer with a disk. -/
namespace Go.Proofs.Ytefnapcegeojoab
open Go.RowKit
set_option linter.unusedVariables false

def wrV (x : Wr) : List Value := [.int .i64 x.host, .int .i64 x.at_, .string x.data]
theorem wrV_one (x : Wr) : ∀ u ∈ wrV x, u.oneCell' = true := by
  intro u hu
  simp [wrV] at hu
  rcases hu with rfl | rfl | rfl <;> rfl
/-- A variable that holds a write. -/
def VarI (w : World) (y : Nat) (x : Wr) : Prop := w.heap[y]? = some (.cells #[.int .i64 x.host, .int .i64 x.at_, .string x.data] 101 (0, 0))
theorem VarI.lt {w : World} {y : Nat} {x : Wr} (h : VarI w y x) : y < w.heap.size := (Array.getElem?_eq_some_iff.1 h).1
theorem VarI.cells {w : World} {y : Nat} {x : Wr} (h : VarI w y x) : w.cell? ⟨y, 0, none⟩ = some (.int .i64 x.host) ∧ w.cell? ⟨y, 1, none⟩ = some (.int .i64 x.at_) ∧ w.cell? ⟨y, 2, none⟩ = some (.string x.data) := ⟨by rw [Joins.cell_of_block h]; rfl, by rw [Joins.cell_of_block h]; rfl, by rw [Joins.cell_of_block h]; rfl⟩
theorem VarI.below {w w' : World} {y : Nat} {x : Wr} (h : VarI w y x) (hb : Below w.heap.size w w') : VarI w' y x := by
  unfold VarI; rw [hb.block y h.lt]; exact h
theorem VarI.new (w : World) (x : Wr) : VarI (w.alloc (.cells #[.int .i64 x.host, .int .i64 x.at_, .string x.data] 101)) w.heap.size x := heap_alloc_new w _
theorem VarI.news {w : World} {y : Nat} {x : Wr} (h : VarI w y x) : ∀ j u, (wrV x)[j]? = some u → w.cell? ((⟨y, 0, none⟩ : Addr).add j) = some u := World.news_of_block (cs := #[.int .i64 x.host, .int .i64 x.at_, .string x.data]) h
theorem VarI.top {W : World} {y : Nat} {x : Wr} (h : W.heap.size = y) : VarI (W.alloc (.cells #[.int .i64 x.host, .int .i64 x.at_, .string x.data] 101)) y x := by rw [← h]; exact VarI.new W x
theorem VarI.under {W : World} {y : Nat} {x : Wr} (h : VarI W y x) (o : Obj) : VarI (W.alloc o) y x := h.below (Joins.below_alloc1 _ _)
theorem VarI.drew {W : World} {y : Nat} {x : Wr} (h : VarI W y x) : VarI W.drew y x := h
theorem VarI.grown {W W' : World} {y : Nat} {x : Wr} (h : VarI W y x) (hg : W.grownBy W' none) : VarI W' y x := by
  unfold VarI; rw [hg.block y h.lt (by simp)]; exact h
theorem ioV_snoc (xs : List Wr) (x : Wr) : ioV (xs ++ [x]) = ioV xs ++ wrV x := by simp [ioV, wrV]

theorem belowKp {W0 W W' : World} {S : Nat → Prop} (h : Below W0.heap.size W0 W) (hk : Keep S W W') (hs : ∀ j, S j → W0.heap.size ≤ j) : Below W0.heap.size W0 W' := h.trans (hk.below h.size hs)
theorem zeroD_own {w : World} {B : Nat} : OwnD w B none 0 0 none 0 0 [] [] := ⟨.inl ⟨rfl, rfl, none, rfl⟩, .inl ⟨rfl, rfl, none, rfl⟩⟩
theorem zero_end {w wL : World} (hb : Below w.heap.size w wL) (a b : Value) : Below w.heap.size w ((wL.setCell ⟨w.heap.size + 1, 0, none⟩ a).setCell ⟨w.heap.size + 1, 1, none⟩ b) :=
  (hb.setCell (p := ⟨w.heap.size + 1, 0, none⟩) (by simp) a).setCell (p := ⟨w.heap.size + 1, 1, none⟩) (by simp) b

theorem ask_zero (ss : List ByteArray) (xs : List Wr) (h : Int) : askC ss xs h 0 = hostC ss xs h := by
  unfold askC
  split
  · rename_i e; rw [e]; rfl
  · rfl
/-- A disk's answer through the cell of the result. -/
theorem land_end {w wL : World} {po qo : Option Addr} {n pa m qa : Nat} {ss : List ByteArray} {xs : List Wr} {B : Nat} (ho : OwnD wL B po n pa qo m qa ss xs) (hB : w.heap.size + 2 ≤ B) (hb : Below w.heap.size w wL) (a b : Value) :
    OwnD ((wL.setCell ⟨w.heap.size + 1, 0, none⟩ a).setCell ⟨w.heap.size + 1, 1, none⟩ b) w.heap.size po n pa qo m qa ss xs ∧ Below w.heap.size w ((wL.setCell ⟨w.heap.size + 1, 0, none⟩ a).setCell ⟨w.heap.size + 1, 1, none⟩ b) :=
  copyD_end (ho.base hB) hb a b

end Go.Proofs.Ytefnapcegeojoab

/- Plain words of plans; laws on append of several elements. -/
namespace Go.Proofs.Ytefnapcegeojoab
open Go.RowKit
set_option linter.unusedVariables false
section
variable {P : Program}
theorem run_append_many (w : World) (B : Nat) (t ty e : TypeId) (i : TypeInfo) (z : Value) (size bytes : Nat) (ht : P.underlying t = some (.slice e)) (hi : P.info? e = some i) (hz : i.zero = some z)
    (hsize : i.size = size) (hby : i.bytes = bytes) (hzs : z.cells.size = size) (hsz : 0 < size)
    (qo : Option Addr) (n cap : Nat) (xs : List Value) (h : OwnR w B e size (.slice qo n cap) n xs) (hB : B ≤ w.heap.size)
    (ad : Addr) (m c : Nat) (news : List Value) (hm : 0 < m) (hl : news.length = m * size) (hnews : ∀ j u, news[j]? = some u → w.cell? (ad.add j) = some u) (h1 : ∀ u ∈ news, u.oneCell' = true)
    (b1 : n + m ≤ maxLen) (b2 : (n + m) * bytes ≤ 140737488355328) :
    ∃ g cap' w', (Builtin.append_ #[t, t] ty #[.slice qo n cap, .slice (some ad) m c]).run P w = .ok (.slice (some ⟨g, 0, none⟩) (n + m) cap') w' ∧
      w'.ownsRow B e size (.slice (some ⟨g, 0, none⟩) (n + m) cap') (n + m) (xs ++ news) ∧ Keep (Own (.slice qo n cap)) w w' := by
  rcases h with ⟨rfl, rfl, ao, hv⟩ | ⟨h0, h⟩
  · simp only [Value.slice.injEq, true_and] at hv
    obtain ⟨rfl, rfl⟩ := hv
    cases qo with
    | none =>
      obtain ⟨v', w', hrun, r1, r2, _⟩ := run_append_own (P := P) w B t ty e i z size bytes ht hi hz hsize hby hzs hsz (.slice none 0 0) 0 [] (World.ownsRow_nil w _ e size) ad m c news hl hnews h1 b1 b2 hB
      obtain ⟨g, cap, cur, rfl, _, _⟩ := own_form (by omega) r1
      exact ⟨g, cap, w', hrun, r1, keep_grown r2 (fun k hk => by cases hk)⟩
    | some d =>
      obtain ⟨v', w', hrun, r1, r2⟩ := run_append_arg_grows (P := P) w t ty e i z size bytes ht hi hz hsize hby hzs hsz d 0 0 [] (by simp) (by simp) ad m c news hl hnews (by omega) b1 b2
      obtain ⟨g, cap, cur, rfl, _, _⟩ := own_form (by omega) r1
      exact ⟨g, cap, w', hrun, own_base r1 hB, keep_grown r2 (fun k hk => by cases hk)⟩
  · obtain ⟨g0, cap0, cur0, e0, _, _⟩ := own_form h0 h
    rw [e0] at h
    obtain ⟨v', w', hrun, r1, r2, _⟩ := run_append_own (P := P) w B t ty e i z size bytes ht hi hz hsize hby hzs hsz _ n xs h ad m c news hl hnews h1 b1 b2 hB
    obtain ⟨g, cap, cur, rfl, _, _⟩ := own_form (by omega) r1
    rw [e0]
    exact ⟨g, cap, w', hrun, r1, keep_grown r2 (fun k hk => by cases hk; exact own_of h0 rfl)⟩
theorem wpList_append_many {w : World} {ops : Array Oper} {rest : List Oper} {o : Oper} {a : Act} {Q : Exit → Act → World → Prop} (hgd : o.guard = none) (s x : Operand) (t : TypeId)
    (ho : o.op = .call { callee := .builtin .append, args := #[s, x], argTypes := #[t, t] })
    (B : Nat) (e : TypeId) (i : TypeInfo) (z : Value) (size bytes : Nat) (ht : P.underlying t = some (.slice e)) (hi : P.info? e = some i) (hz : i.zero = some z)
    (hsize : i.size = size) (hby : i.bytes = bytes) (hzs : z.cells.size = size) (hsz : 0 < size)
    (qo : Option Addr) (n cap : Nat) (xs : List Value) (hs : a.eval s = .slice qo n cap) (h : OwnR w B e size (.slice qo n cap) n xs) (hB : B ≤ w.heap.size)
    (so : Option Addr) (m c : Nat) (news : List Value) (hx : a.eval x = .slice so m c) (hm : 0 < m) (hl : news.length = m * size) (hnews : 0 < m → ∃ ad, so = some ad ∧ ∀ j u, news[j]? = some u → w.cell? (ad.add j) = some u) (h1 : ∀ u ∈ news, u.oneCell' = true)
    (b1 : n + m ≤ maxLen) (b2 : (n + m) * bytes ≤ 140737488355328)
    (hK : ∀ g cap' w', w'.ownsRow B e size (.slice (some ⟨g, 0, none⟩) (n + m) cap') (n + m) (xs ++ news) → Keep (Own (.slice qo n cap)) w w' → wpList P ops Q rest (a.put o.dst (.slice (some ⟨g, 0, none⟩) (n + m) cap')) w') : wpList P ops Q (o :: rest) a w := by
  refine wpList_plain hgd fun K hK' => ?_
  obtain ⟨ad, rfl, hnew⟩ := hnews hm
  obtain ⟨g, cap', w', hrun, r1, r2⟩ := run_append_many (P := P) w B t o.type e i z size bytes ht hi hz hsize hby hzs hsz qo n cap xs h hB ad m c news hm hl hnew h1 b1 b2
  unfold Oper.wp
  simp [execOp, ho, resolve, invoke, builtin, hs, hx, hrun, Result.andThen]
  exact hK' _ _ (hK _ _ _ r1 r2)
/-- .. onto a row with room, empty or not. -/
theorem run_append_room (w : World) (B : Nat) (t ty e : TypeId) (i : TypeInfo) (z : Value) (size bytes : Nat) (ht : P.underlying t = some (.slice e)) (hi : P.info? e = some i) (hz : i.zero = some z)
    (hsize : i.size = size) (hby : i.bytes = bytes) (hzs : z.cells.size = size) (hsz : 0 < size)
    (g0 n cap : Nat) (xs : List Value) (h : w.ownsRow B e size (.slice (some ⟨g0, 0, none⟩) n cap) n xs) (hB : B ≤ w.heap.size)
    (ad : Addr) (m c : Nat) (news : List Value) (hm : 0 < m) (hl : news.length = m * size) (hnews : ∀ j u, news[j]? = some u → w.cell? (ad.add j) = some u) (h1 : ∀ u ∈ news, u.oneCell' = true)
    (b1 : n + m ≤ maxLen) (b2 : (n + m) * bytes ≤ 140737488355328) :
    ∃ g cap' w', (Builtin.append_ #[t, t] ty #[.slice (some ⟨g0, 0, none⟩) n cap, .slice (some ad) m c]).run P w = .ok (.slice (some ⟨g, 0, none⟩) (n + m) cap') w' ∧
      w'.ownsRow B e size (.slice (some ⟨g, 0, none⟩) (n + m) cap') (n + m) (xs ++ news) ∧ Keep (fun j => j = g0) w w' := by
  by_cases hc : n + m ≤ cap
  · obtain ⟨w', hrun, r1, r2⟩ := run_append_fits (P := P) w B t ty e i size ht hi hsize g0 n cap xs h ad m c news hl hnews h1 hc
    exact ⟨g0, cap, w', hrun, r1, keep_grown r2 (fun k hk => by cases hk; rfl)⟩
  · obtain ⟨v', w', hrun, r1, r2⟩ := run_append_arg_grows (P := P) w t ty e i z size bytes ht hi hz hsize hby hzs hsz ⟨g0, 0, none⟩ n cap xs h.1 (fun j u hu => by
      have hj : j < n * size := by have := (List.getElem?_eq_some_iff.1 hu).1; rw [h.1] at this; exact this
      have ha : (⟨g0, 0, none⟩ : Addr).add j = ⟨g0, j, none⟩ := by unfold Addr.add; split <;> simp_all
      rw [ha, h.cellAt j hj]; exact hu) ad m c news hl hnews (by omega) b1 b2
    obtain ⟨g, cap', cur, rfl, hg, _⟩ := own_form (by omega) r1
    exact ⟨g, cap', w', hrun, own_base r1 hB, keep_grown r2 (fun k hk => by cases hk)⟩
theorem wpList_append_room {w : World} {ops : Array Oper} {rest : List Oper} {o : Oper} {a : Act} {Q : Exit → Act → World → Prop} (hgd : o.guard = none) (s x : Operand) (t : TypeId)
    (ho : o.op = .call { callee := .builtin .append, args := #[s, x], argTypes := #[t, t] })
    (B : Nat) (e : TypeId) (i : TypeInfo) (z : Value) (size bytes : Nat) (ht : P.underlying t = some (.slice e)) (hi : P.info? e = some i) (hz : i.zero = some z)
    (hsize : i.size = size) (hby : i.bytes = bytes) (hzs : z.cells.size = size) (hsz : 0 < size)
    (g0 n cap : Nat) (xs : List Value) (hs : a.eval s = .slice (some ⟨g0, 0, none⟩) n cap) (h : w.ownsRow B e size (.slice (some ⟨g0, 0, none⟩) n cap) n xs) (hB : B ≤ w.heap.size)
    (so : Option Addr) (m c : Nat) (news : List Value) (hx : a.eval x = .slice so m c) (hm : 0 < m) (hl : news.length = m * size) (hnews : 0 < m → ∃ ad, so = some ad ∧ ∀ j u, news[j]? = some u → w.cell? (ad.add j) = some u) (h1 : ∀ u ∈ news, u.oneCell' = true)
    (b1 : n + m ≤ maxLen) (b2 : (n + m) * bytes ≤ 140737488355328)
    (hK : ∀ g cap' w', w'.ownsRow B e size (.slice (some ⟨g, 0, none⟩) (n + m) cap') (n + m) (xs ++ news) → Keep (fun j => j = g0) w w' → wpList P ops Q rest (a.put o.dst (.slice (some ⟨g, 0, none⟩) (n + m) cap')) w') : wpList P ops Q (o :: rest) a w := by
  refine wpList_plain hgd fun K hK' => ?_
  obtain ⟨ad, rfl, hnew⟩ := hnews hm
  obtain ⟨g, cap', w', hrun, r1, r2⟩ := run_append_room (P := P) w B t o.type e i z size bytes ht hi hz hsize hby hzs hsz g0 n cap xs h hB ad m c news hm hl hnew h1 b1 b2
  unfold Oper.wp
  simp [execOp, ho, resolve, invoke, builtin, hs, hx, hrun, Result.andThen]
  exact hK' _ _ (hK _ _ _ r1 r2)
end
theorem news3 (w : World) (x : Wr) (t : TypeId) : ∀ j u, (wrV x)[j]? = some u → (w.alloc (.cells #[.int .i64 x.host, .int .i64 x.at_, .string x.data] t)).cell? ((⟨w.heap.size, 0, none⟩ : Addr).add j) = some u :=
  World.news_of_block (cs := #[.int .i64 x.host, .int .i64 x.at_, .string x.data]) (heap_alloc_new w _)
theorem news3_at (w : World) (n : Nat) (x : Wr) (t : TypeId) (hn : w.heap.size = n) : ∀ j u, (wrV x)[j]? = some u → (w.alloc (.cells #[.int .i64 x.host, .int .i64 x.at_, .string x.data] t)).cell? ((⟨n, 0, none⟩ : Addr).add j) = some u := by
  subst hn; exact news3 w x t

/-- Moves, and lists of them. -/
def mvF : Wr := ⟨2, 0, ⟨#[]⟩⟩
def mvW (u : Up) : Wr := ⟨1, u.at_, u.data⟩
def hdT (n seq : Int) : ByteArray := sealS 7 [n, seq]
theorem hdT_size (n seq : Int) : (hdT n seq).size = 12 := by rw [hdT, sealS_size]; rfl
def mvH (slot n seq : Int) : Wr := ⟨1, slot, hdT n seq⟩
def mvT (slot : Int) (i : Nat) (u : Up) : Wr := ⟨1, slot + 1 + i, encU u⟩
def chL (us : List Up) : List Wr := us.map mvW
def txL (slot : Int) (us : List Up) : List Wr := us.mapIdx (mvT slot)
def apL (slot seq : Int) (us : List Up) : List Wr := chL us ++ [mvF] ++ [mvH slot 0 seq] ++ [mvF]
def bgL (slot seq : Int) (us : List Up) : List Wr := txL slot us ++ [mvF] ++ [mvH slot us.length seq] ++ [mvF]
def plL (slot seq : Int) (us : List Up) : List Wr := if us.length = 0 then [] else bgL slot seq us ++ apL slot seq us
def rpL (slot seq : Int) (us : List Up) : List Wr := if us.length = 0 then [] else apL slot seq us
theorem chL_length (us : List Up) : (chL us).length = us.length := by simp [chL]
theorem txL_length (slot : Int) (us : List Up) : (txL slot us).length = us.length := by simp [txL]
theorem apL_length (slot seq : Int) (us : List Up) : (apL slot seq us).length = us.length + 3 := by simp [apL, chL]
theorem bgL_length (slot seq : Int) (us : List Up) : (bgL slot seq us).length = us.length + 3 := by simp [bgL, txL]
theorem chL_take {us : List Up} {k : Nat} (h : k < us.length) : (chL us).take (k + 1) = (chL us).take k ++ [mvW us[k]] := by
  rw [List.take_succ_eq_append_getElem (by rw [chL_length]; exact h)]; simp [chL]
theorem txL_take {slot : Int} {us : List Up} {k : Nat} (h : k < us.length) : (txL slot us).take (k + 1) = (txL slot us).take k ++ [mvT slot k us[k]] := by
  rw [List.take_succ_eq_append_getElem (by rw [txL_length]; exact h)]; simp [txL]
theorem chL_done {us : List Up} {k : Nat} (h : us.length ≤ k) : (chL us).take k = chL us := List.take_of_length_le (by rw [chL_length]; exact h)
theorem txL_done {slot : Int} {us : List Up} {k : Nat} (h : us.length ≤ k) : (txL slot us).take k = txL slot us := List.take_of_length_le (by rw [txL_length]; exact h)
def upsB (us : List Up) : Bool := us.all upB
theorem upsB_at {us : List Up} (h : upsB us = true) {k : Nat} (hk : k < us.length) : upB us[k] = true := List.all_eq_true.1 h _ (List.getElem_mem hk)
/-- Moves with short texts. -/
def short (ms : List Wr) : Prop := ∀ x ∈ ms, x.data.size ≤ 80
theorem short.sizes {ms : List Wr} (h : short ms) : ∀ x ∈ ms, x.data.size ≤ maxLen := fun x hx => by have := h x hx; unfold maxLen; omega
theorem short.app {a b : List Wr} (h : short a) (k : short b) : short (a ++ b) := fun x hx => by
  rcases List.mem_append.1 hx with h' | h'
  · exact h x h'
  · exact k x h'
theorem short.one {x : Wr} (h : x.data.size ≤ 80) : short [x] := fun y hy => by simp at hy; subst hy; exact h
theorem short_nil : short [] := fun x hx => by cases hx
theorem short_F : short [mvF] := short.one (by decide)
theorem short_H (slot n seq : Int) : short [mvH slot n seq] := short.one (by show (hdT n seq).size ≤ 80; rw [hdT_size]; omega)
theorem short_ch {us : List Up} (h : upsB us = true) : short (chL us) := fun x hx => by
  simp only [chL, List.mem_map] at hx
  obtain ⟨u, hu, rfl⟩ := hx
  have := (upB_iff.1 (List.all_eq_true.1 h u hu)).2
  show u.data.size ≤ 80
  omega
theorem short_tx {slot : Int} {us : List Up} (h : upsB us = true) : short (txL slot us) := fun x hx => by
  obtain ⟨i, hi, rfl⟩ := List.mem_iff_getElem.1 hx
  have hi' : i < us.length := by rwa [txL_length] at hi
  have := (upB_iff.1 (upsB_at h hi')).2
  simp only [txL, List.getElem_mapIdx, mvT]
  rw [encU_size]; omega
theorem short_ap {slot seq : Int} {us : List Up} (h : upsB us = true) : short (apL slot seq us) := (((short_ch h).app short_F).app (short_H _ _ _)).app short_F
theorem short_bg {slot seq : Int} {us : List Up} (h : upsB us = true) : short (bgL slot seq us) := (((short_tx h).app short_F).app (short_H _ _ _)).app short_F
theorem short_pl {slot seq : Int} {us : List Up} (h : upsB us = true) : short (plL slot seq us) := by
  unfold plL; split
  · exact short_nil
  · exact (short_bg h).app (short_ap h)
theorem short_rp {slot seq : Int} {us : List Up} (h : upsB us = true) : short (rpL slot seq us) := by
  unfold rpL; split
  · exact short_nil
  · exact short_ap h
/-- A head's numbers. -/
theorem hd_nums {n seq : Int} (h : 0 ≤ n ∧ n ≤ 5) (hs : numB seq = true) : ∀ j (hj : j < [n, seq].length), 0 ≤ [n, seq][j] ∧ [n, seq][j] ≤ 2147483647 := by
  have h2 : 0 ≤ seq ∧ seq ≤ 2147483647 := by simpa [numB, inB] using hs
  intro j hj
  have hj' : j < 2 := hj
  rcases (show j = 0 ∨ j = 1 by omega) with rfl | rfl <;> simp <;> omega
theorem hd_seal {n seq : Int} (h : 0 ≤ n ∧ n ≤ 5) (hs : numB seq = true) : sealC 7 [n, seq] = 0 ∧ sealT 7 [n, seq] = hdT n seq := by
  have h2 : 0 ≤ seq ∧ seq ≤ 2147483647 := by simpa [numB, inB] using hs
  have hc : sealC 7 [n, seq] = 0 := sealC_ok (listC_ok (by simp) (by
    rw [intsB_len]
    · rfl
    · intro j hj
      have hj' : j < 2 := hj
      rcases (show j = 0 ∨ j = 1 by omega) with rfl | rfl <;> simp [numB, inB] <;> omega)) rfl
  exact ⟨hc, sealT_ok hc⟩
/-- The fault of updates. -/
def fuC (us : List Up) : Int := if 5 < us.length then 6 else if upsB us = true then 0 else 1
theorem fuC_many {us : List Up} (h : 5 < us.length) : fuC us = 6 := if_pos h
theorem fuC_ok {us : List Up} (h : ¬ 5 < us.length) (hb : upsB us = true) : fuC us = 0 := by rw [fuC, if_neg h, if_pos hb]
theorem fuC_bad {us : List Up} (h : ¬ 5 < us.length) (hb : upsB us = false) : fuC us = 1 := by rw [fuC, if_neg h, if_neg (by simp [hb])]
theorem fuC_zero {us : List Up} (h : fuC us = 0) : us.length ≤ 5 ∧ upsB us = true := by
  unfold fuC at h
  split at h
  · cases h
  · split at h
    · exact ⟨by omega, by assumption⟩
    · cases h
/-- What JournalPlan answers. -/
def jpC (h seq : Int) (us : List Up) : Int := if 4096 < us.length then 2 else if inB h 0 3 = false then 4 else if numB seq = false then 4 else fuC us
theorem jpC_long {h seq : Int} {us : List Up} (h1 : 4096 < us.length) : jpC h seq us = 2 := if_pos h1
theorem jpC_host {h seq : Int} {us : List Up} (h1 : ¬ 4096 < us.length) (h2 : inB h 0 3 = false) : jpC h seq us = 4 := by rw [jpC, if_neg h1, if_pos h2]
theorem jpC_seq {h seq : Int} {us : List Up} (h1 : ¬ 4096 < us.length) (h2 : inB h 0 3 = true) (h3 : numB seq = false) : jpC h seq us = 4 := by rw [jpC, if_neg h1, if_neg (by simp [h2]), if_pos h3]
theorem jpC_list {h seq : Int} {us : List Up} (h1 : ¬ 4096 < us.length) (h2 : inB h 0 3 = true) (h3 : numB seq = true) : jpC h seq us = fuC us := by rw [jpC, if_neg h1, if_neg (by simp [h2]), if_neg (by simp [h3])]
def jpL (h seq : Int) (us : List Up) : List Wr := if jpC h seq us = 0 then plL (slN h) seq us else []
theorem jpL_no {h seq : Int} {us : List Up} (h1 : jpC h seq us ≠ 0) : jpL h seq us = [] := if_neg h1
theorem jpL_yes {h seq : Int} {us : List Up} (h1 : jpC h seq us = 0) : jpL h seq us = plL (slN h) seq us := if_pos h1
/-- A row of moves that grows, of the call's own. -/
structure ApS (w W : World) (qo : Option Addr) (n qa : Nat) (ms : List Wr) : Prop where
  o : OwnR W w.heap.size 50 3 (.slice qo n qa) n (ioV ms)
  k : Below w.heap.size w W
theorem ApS.next {w W W' : World} {qo : Option Addr} {n qa : Nat} {ms : List Wr} (h : ApS w W qo n qa ms) (hb : Below W.heap.size W W') : ApS w W' qo n qa ms := ⟨h.o.below hb, fr h.k hb⟩
theorem ApS.app {w W W' : World} {qo : Option Addr} {n qa m g cap : Nat} {ms : List Wr} {vs : List Value} {ns : List Wr} (h : ApS w W qo n qa ms) (hv : vs = ioV ns) (hm : 0 < n + m)
    (ho : W'.ownsRow w.heap.size 50 3 (.slice (some ⟨g, 0, none⟩) (n + m) cap) (n + m) (ioV ms ++ vs)) (hk : Keep (Own (.slice qo n qa)) W W') : ApS w W' (some ⟨g, 0, none⟩) (n + m) cap (ms ++ ns) := by
  subst hv
  refine ⟨.inr ⟨hm, ?_⟩, belowKp h.k hk (fun j hj => (h.o.ge j hj).1)⟩
  rw [ioV_append]; exact ho
theorem ApS.one {w W W' : World} {qo : Option Addr} {n qa g cap : Nat} {ms : List Wr} {x : Wr} (h : ApS w W qo n qa ms)
    (ho : W'.ownsRow w.heap.size 50 3 (.slice (some ⟨g, 0, none⟩) (n + 1) cap) (n + 1) (ioV ms ++ wrV x)) (hk : Keep (Own (.slice qo n qa)) W W') : ApS w W' (some ⟨g, 0, none⟩) (n + 1) cap (ms ++ [x]) :=
  h.app (by simp [ioV, wrV]) (by omega) ho hk
theorem ApS.sz {w W : World} {qo : Option Addr} {n qa : Nat} {ms : List Wr} (h : ApS w W qo n qa ms) : w.heap.size ≤ W.heap.size := h.k.size
theorem ApS.len {w W : World} {qo : Option Addr} {n qa : Nat} {ms : List Wr} (h : ApS w W qo n qa ms) : n = ms.length := by
  have := h.o.len; rw [ioV_length] at this; omega
end Go.Proofs.Ytefnapcegeojoab

/- Contracts of laws.toUpdate, eqUpdate, szUpdate. -/
namespace Go.Proofs.Ytefnapcegeojoab
open Go.RowKit
set_option linter.unusedVariables false
set_option maxRecDepth 100000

set_option maxHeartbeats 1600000 in
theorem toUpdate_any (x : Up) (w : World) : Calls Try.prog 18 #[uV x] w fun e w' => e = .returned (uV x) ∧ Below w.heap.size w w' := by
  go_enter Try.func18, Try.ntmps18
  go_wp2
  exact bodyPost_ret (v := uV x) (by simp [results, Try.results18, go_sem]) rfl ⟨rfl, fr (Joins.below_alloc2 _ _ _) (Joins.below_alloc1 _ _)⟩

set_option maxHeartbeats 1600000 in
theorem eqUpdate_same (x : Up) (w : World) : Calls Try.prog 23 #[uV x, uV x] w fun e w' => e = .returned (.bool true) ∧ Below w.heap.size w w' := by
  go_enter Try.func23, Try.ntmps23
  go_wp2
  go_ret
  exact ⟨rfl, Joins.below_alloc2 _ _ _⟩

set_option maxHeartbeats 1600000 in
theorem szUpdate_any (x : Up) (left : Int) (w : World) (hz : x.data.size ≤ maxLen) (h0 : 0 ≤ left) (h1 : left ≤ 1048576) :
    Calls Try.prog 13 #[uV x, .int .i64 left] w fun e w' => ∃ r : Int, e = .returned (.int .i64 r) ∧ -1 ≤ r ∧ r ≤ left ∧ Below w.heap.size w w' := by
  unfold maxLen at hz
  have wr1 : IntKind.i64.wrap (left - (x.data.size : Int)) = left - (x.data.size : Int) := by rw [IntKind.wrap_i64]; omega
  by_cases h : left - (x.data.size : Int) < 0
  · go_enter Try.func13, Try.ntmps13
    go_wp2
    go_ret
    exact ⟨-1, rfl, by omega, by omega, Joins.below_alloc1 _ _⟩
  · go_enter Try.func13, Try.ntmps13
    go_wp2
    go_ret
    exact ⟨_, rfl, by omega, by omega, Joins.below_alloc1 _ _⟩

end Go.Proofs.Ytefnapcegeojoab

/- Contracts of the laws' own hands on lists of updates: toUpdateS, eqUpdateS, szUpdateS, markUpdateS, heldUpdateS. -/
namespace Go.Proofs.Ytefnapcegeojoab
open Go.RowKit
set_option linter.unusedVariables false
set_option maxRecDepth 100000

theorem infoUp : (Try.prog.info? 40).map (fun i => (i.zero, i.size, i.bytes)) = some (some (.agg #[.int .i64 0, .string ⟨#[]⟩]), 2, 24) := by kernel_rfl

set_option maxHeartbeats 1600000 in
theorem toUpdateS_any (ao : Option Addr) (cap : Nat) (xs : List Up) (w : World) (hl : xs.length ≤ 1048576) (hc : Ups w ao xs) :
    Calls Try.prog 6 #[.slice ao xs.length cap] w fun e w' => ∃ g, e = .returned (.slice (some ⟨g, 0, none⟩) xs.length xs.length) ∧ w'.ownsRow w.heap.size 40 2 (.slice (some ⟨g, 0, none⟩) xs.length xs.length) xs.length (upsV xs) ∧ Below w.heap.size w w' := by
  have HC := hide hc
  clear hc
  obtain ⟨i0, hi, hz0, hz1, hz2⟩ := info_parts infoUp
  go_enter Try.func6, Try.ntmps6
  go_wp2_with (first | (at_make; refine wpList_make_full _ rfl _ _ 27 rfl w.heap.size 40 i0 _ 2 Try.underlying27 hi hz0 hz1 _ _ _ _ xs.length rfl rfl rfl rfl ?c1 ?c2 ?c3 ?_))
  case c1 => rw [hz2]; omega
  case c2 => unfold maxLen; omega
  case c3 => exact Nat.le_refl _
  intro w1 hown hgrow
  have hB : Below w.heap.size w w1 := (Below.refl _ _).grown hgrow (Nat.le_refl _) (fun _ h => by cases h)
  have HO := hide hown
  have HB := hide hB
  clear hown hB hgrow
  go_wp2
  go_loopw [4] (fun i wr => ∃ (k : Nat) (ys : List Value), k ≤ xs.length ∧ i = .int .i64 k ∧ Hid (ys.length = xs.length * 2) ∧ Hid (ys.take (k * 2) = (upsV xs).take (k * 2)) ∧ Hid (wr.ownsRow w.heap.size 40 2 (.slice (some ⟨w.heap.size, 0, none⟩) xs.length xs.length) xs.length ys) ∧ Hid (Below w.heap.size w wr)) (fun i _ => xs.length - (intOf i).toNat)
  case atStart => exact ⟨0, _, Nat.zero_le _, rfl, hide (by rw [(unhide HO).1]), hide (by simp), HO, HB⟩
  case round =>
    obtain ⟨k, ys, hk, rfl, HL, HT, HO, HB⟩ := hrel
    by_cases hlt : k < xs.length
    · obtain ⟨b, off, rfl, hc0, hc1, hcz⟩ := (unhide HC).below (unhide HB) k hlt
      clear hcz
      go_wp2_with fail
      refine (toUpdate_any xs[k] _).mono ?_
      rintro e w2 ⟨rfl, hb2⟩
      have HO2 := hide (own_below (unhide HO) hb2)
      have HB2 := hide ((unhide HB).trans (hb2.mono (unhide HB).size))
      clear hb2
      have hf0 := (unhide HO2).frozenAt (k * 2)
      have hf1 := (unhide HO2).frozenAt (k * 2 + 1)
      obtain ⟨x0, hx0⟩ : ∃ x, w2.cell? ⟨w.heap.size, k * 2, none⟩ = some x := ⟨_, ((unhide HO2).cellAt (k * 2) (by omega)).trans (List.getElem?_eq_getElem (by rw [unhide HL]; omega))⟩
      obtain ⟨x1, hx1⟩ : ∃ x, w2.cell? ⟨w.heap.size, k * 2 + 1, none⟩ = some x := ⟨_, ((unhide HO2).cellAt (k * 2 + 1) (by omega)).trans (List.getElem?_eq_getElem (by rw [unhide HL]; omega))⟩
      have HST := hide (stored2 (unhide HO2) (k * 2) (k * 2 + 1) (.int .i64 xs[k].at_) (.string xs[k].data))
      have HBT := hide (below2 (unhide HB2) (Nat.le_refl _) (k * 2) (k * 2 + 1) (.int .i64 xs[k].at_) (.string xs[k].data))
      go_wp2
      go_roundw
      case rel => exact ⟨k + 1, _, by omega, by go_num, hide (by rw [List.length_set, List.length_set]; exact unhide HL), hide (ups_take hlt (unhide HL) (unhide HT)), HST, HBT⟩
      case measure => simp [intOf]; omega
    · go_wp2
      go_ret
      have hkn : k = xs.length := by omega
      subst hkn
      have hxs : ys = upsV xs := by
        have := unhide HT
        rwa [List.take_of_length_le (by rw [unhide HL]; exact Nat.le_refl _), List.take_of_length_le (by rw [upsV_length]; exact Nat.le_refl _)] at this
      subst hxs
      exact ⟨_, rfl, unhide HO, unhide HB⟩

set_option maxHeartbeats 1600000 in
theorem eqUpdateS_same (ao bo : Option Addr) (ca cb : Nat) (xs : List Up) (w : World) (hl : xs.length ≤ 1048576) (hc : Ups w ao xs) (hd : Ups w bo xs) :
    Calls Try.prog 9 #[.slice ao xs.length ca, .slice bo xs.length cb] w fun e w' => e = .returned (.bool true) ∧ Below w.heap.size w w' := by
  have HC := hide hc
  have HD := hide hd
  clear hc hd
  go_enter Try.func9, Try.ntmps9
  go_wp2
  go_loopw [5] (fun i wr => ∃ k : Nat, k ≤ xs.length ∧ i = .int .i64 k ∧ Hid (Below w.heap.size w wr)) (fun i _ => xs.length - (intOf i).toNat)
  case atStart => exact ⟨0, Nat.zero_le _, rfl, hide (Below.refl _ _)⟩
  case round =>
    obtain ⟨k, hk, rfl, HB⟩ := hrel
    by_cases hlt : k < xs.length
    · obtain ⟨b, off, rfl, hc0, hc1, hcz⟩ := (unhide HC).below (unhide HB) k hlt
      obtain ⟨b', off', rfl, hd0, hd1, hdz⟩ := (unhide HD).below (unhide HB) k hlt
      clear hcz hdz
      go_wp2
      go_region_with (go_at_call 23; refine (eqUpdate_same _ _).mono ?_; rintro e w2 ⟨rfl, hb2⟩)
      all_goals
        have HB2 : Hid (Below w.heap.size w w2) := hide (Below.trans (by repeat (first | exact unhide HB | apply Below.drew)) (hb2.mono (unhide HB).size))
        clear hb2
        go_wp2
        go_roundw
        case rel => exact ⟨k + 1, by omega, by go_num, HB2⟩
        case measure => simp [intOf]; omega
    · go_wp2
      go_ret
      exact ⟨rfl, unhide HB⟩

set_option maxHeartbeats 1600000 in
theorem szUpdateS_any (ao : Option Addr) (cap : Nat) (xs : List Up) (left : Int) (w : World) (hl : xs.length ≤ maxLen) (hc : Ups w ao xs) (h0 : 0 ≤ left) (h1 : left ≤ 1048576) :
    Calls Try.prog 4 #[.slice ao xs.length cap, .int .i64 left] w fun e w' => ∃ r : Int, e = .returned (.int .i64 r) ∧ -1 ≤ r ∧ r ≤ left ∧ (0 ≤ r → r + xs.length ≤ left) ∧ Below w.heap.size w w' := by
  have HC := hide hc
  clear hc
  unfold maxLen at hl
  by_cases hb : left < xs.length
  · go_enter Try.func4, Try.ntmps4
    go_wp2
    go_ret
    exact ⟨-1, rfl, by omega, by omega, by omega, Below.refl _ _⟩
  · go_enter Try.func4, Try.ntmps4
    go_wp2
    go_loopw [1, 5] (fun l i wr => ∃ (k : Nat) (r : Int), k ≤ xs.length ∧ i = .int .i64 k ∧ l = .int .i64 r ∧ 0 ≤ r ∧ r ≤ left - xs.length ∧ Hid (Below w.heap.size w wr)) (fun _ i _ => xs.length - (intOf i).toNat)
    case atStart => exact ⟨0, left - xs.length, Nat.zero_le _, rfl, by go_num, by omega, by omega, hide (Below.refl _ _)⟩
    case round =>
      obtain ⟨k, r, hk, rfl, rfl, hr0, hr1, HB⟩ := hrel
      by_cases hlt : k < xs.length
      · obtain ⟨b, off, rfl, hc0, hc1, hcz⟩ := (unhide HC).below (unhide HB) k hlt
        have HZ := hide hcz
        clear hcz
        go_wp2_with fail
        refine (szUpdate_any xs[k] r _ (unhide HZ) (by omega) (by omega)).mono ?_
        rintro e w2 ⟨r2, rfl, hq0, hq1, hb2⟩
        have HB2 := hide (fr (unhide HB) hb2)
        clear hb2
        by_cases hq : r2 < 0
        · go_wp2
          go_ret
          exact ⟨-1, rfl, by omega, by omega, by omega, unhide HB2⟩
        · go_wp2
          go_roundw
          case rel => exact ⟨k + 1, r2, by omega, by go_num, rfl, by omega, by omega, HB2⟩
          case measure => simp [intOf]; omega
      · go_wp2
        go_ret
        exact ⟨r, rfl, by omega, by omega, by omega, unhide HB⟩

/-- The marks of a row of updates. -/
def mkU (k n : Nat) : List Up := (List.range n).map fun i => ⟨((k + 2 * i : Nat) : Int), mtB (k + 2 * i + 1)⟩
theorem mkU_length (k n : Nat) : (mkU k n).length = n := by simp [mkU]
theorem mkU_at {k n j : Nat} (h : j < (mkU k n).length) : (mkU k n)[j] = ⟨((k + 2 * j : Nat) : Int), mtB (k + 2 * j + 1)⟩ := by simp [mkU]

theorem mkU_take {ys : List Value} {k n j : Nat} (hj : j < n) (hl : ys.length = n * 2) (h : ys.take (j * 2) = (upsV (mkU k n)).take (j * 2)) :
    ((ys.set (j * 2) (.int .i64 ((k : Int) + 2 * (j : Int)))).set (j * 2 + 1) (.string (mtB (k + 2 * j + 1)))).take ((j + 1) * 2) = (upsV (mkU k n)).take ((j + 1) * 2) := by
  have := ups_take (xs := mkU k n) (k := j) (by rw [mkU_length]; exact hj) (by rw [mkU_length]; exact hl) h
  have e : ((k + 2 * j : Nat) : Int) = (k : Int) + 2 * (j : Int) := by omega
  rw [mkU_at] at this
  simp only [e] at this
  exact this
theorem mkU_cells {k n j : Nat} (hj : j < n) : (upsV (mkU k n))[j * 2]? = some (.int .i64 ((k : Int) + 2 * (j : Int))) ∧ (upsV (mkU k n))[j * 2 + 1]? = some (.string (mtB (k + 2 * j + 1))) := by
  have := upsV_get (xs := mkU k n) (i := j) (by rw [mkU_length]; exact hj)
  have e : ((k + 2 * j : Nat) : Int) = (k : Int) + 2 * (j : Int) := by omega
  rw [mkU_at] at this
  simp only [e] at this
  exact this

set_option maxHeartbeats 3200000 in
theorem markUpdateS_any (v : Value) (n k : Nat) (xs : List Value) (B : Nat) (w : World) (hn : n ≤ 4194304) (hk0 : 0 < k) (hk1 : k ≤ 268435456) (ho : OwnR w B 40 2 v n xs) :
    Calls Try.prog 10 #[v, .int .i64 k] w fun e w' => e = .returned (.int .i64 ((k + 2 * n : Nat) : Int)) ∧ OwnR w' B 40 2 v n (upsV (mkU k n)) ∧ Keep (Own v) w w' := by
  rcases ho with ⟨rfl, rfl, ao, rfl⟩ | ⟨hpos, ho'⟩
  · go_enter Try.func10, Try.ntmps10
    go_wp2
    refine wp_loop_rounds 1 ?_
    rw [rounds_succ]
    go_wp2
    go_ret
    refine ⟨ret_int (by simp), .inl ⟨rfl, rfl, ao, rfl⟩, Keep.refl _ _⟩
  · obtain ⟨g, cap, cur, rfl, _, _⟩ := own_form hpos ho'
    have HO := hide ho'
    clear ho'
    go_enter Try.func10, Try.ntmps10
    go_wp2
    go_loopw [1, 5] (fun kk i wr => ∃ (j : Nat) (ys : List Value), j ≤ n ∧ i = .int .i64 j ∧ kk = .int .i64 ((k + 2 * j : Nat) : Int) ∧ Hid (ys.length = n * 2) ∧ Hid (ys.take (j * 2) = (upsV (mkU k n)).take (j * 2)) ∧ Hid (wr.ownsRow B 40 2 (.slice (some ⟨g, 0, none⟩) n cap) n ys) ∧ Hid (Keep (Own (.slice (some ⟨g, 0, none⟩) n cap)) w wr)) (fun _ i _ => n - (intOf i).toNat)
    case atStart => exact ⟨0, xs, Nat.zero_le _, rfl, by simp, hide (by rw [(unhide HO).1]), hide (by simp), HO, hide (Keep.refl _ _)⟩
    case round =>
      obtain ⟨j, ys, hj, rfl, rfl, HL, HT, HO, HK⟩ := hrel
      by_cases hlt : j < n
      · have hf0 := (unhide HO).frozenAt (j * 2)
        have hf1 := (unhide HO).frozenAt (j * 2 + 1)
        obtain ⟨x0, hx0⟩ : ∃ x, wr.cell? ⟨g, j * 2, none⟩ = some x := ⟨_, ((unhide HO).cellAt (j * 2) (by omega)).trans (List.getElem?_eq_getElem (by rw [unhide HL]; omega))⟩
        obtain ⟨x1, hx1⟩ : ∃ x, wr.cell? ⟨g, j * 2 + 1, none⟩ = some x := ⟨_, ((unhide HO).cellAt (j * 2 + 1) (by omega)).trans (List.getElem?_eq_getElem (by rw [unhide HL]; omega))⟩
        have HO' := hide ((unhide HO).stored (j * 2) (.int .i64 ((k : Int) + 2 * (j : Int)))).1
        have HK' := hide ((unhide HK).setCell (p := ⟨g, j * 2, none⟩) (own_of hpos rfl) (.int .i64 ((k : Int) + 2 * (j : Int))))
        go_wp2_with fail
        rw [show ((k : Int) + 2 * (j : Int) + 1) = ((k + 2 * j + 1 : Nat) : Int) from by omega]
        refine (markText_any (k + 2 * j + 1) _ (by omega) (by omega)).mono ?_
        rintro e w2 ⟨rfl, hb2⟩
        have HO2 := hide (own_below (unhide HO') hb2)
        have HK2 := hide ((unhide HK').trans (Keep.of_below hb2))
        clear hb2 hf0 hf1 hx0 hx1
        have hf2 := (unhide HO2).frozenAt (j * 2 + 1)
        obtain ⟨x2, hx2⟩ : ∃ x, w2.cell? ⟨g, j * 2 + 1, none⟩ = some x := ⟨_, ((unhide HO2).cellAt (j * 2 + 1) (by omega)).trans (List.getElem?_eq_getElem (by rw [List.length_set, unhide HL]; omega))⟩
        have HST := hide ((unhide HO2).stored (j * 2 + 1) (.string (mtB (k + 2 * j + 1)))).1
        have HKS := hide ((unhide HK2).setCell (p := ⟨g, j * 2 + 1, none⟩) (own_of hpos rfl) (.string (mtB (k + 2 * j + 1))))
        go_wp2
        go_roundw
        case rel => exact ⟨j + 1, _, by omega, by go_num, by go_num, hide (by rw [List.length_set, List.length_set]; exact unhide HL), hide (mkU_take hlt (unhide HL) (unhide HT)), HST, HKS⟩
        case measure => simp [intOf]; omega
      · go_wp2
        go_ret
        have hjn : j = n := by omega
        subst hjn
        have hxs : ys = upsV (mkU k j) := by
          have := unhide HT
          rwa [List.take_of_length_le (by rw [unhide HL]; exact Nat.le_refl _), List.take_of_length_le (by rw [upsV_length, mkU_length]; exact Nat.le_refl _)] at this
        subst hxs
        exact ⟨rfl, .inr ⟨hpos, unhide HO⟩, unhide HK⟩

end Go.Proofs.Ytefnapcegeojoab

/- Contracts of the laws' comparisons of disks (eqDisk). -/
namespace Go.Proofs.Ytefnapcegeojoab
open Go.RowKit
set_option linter.unusedVariables false
set_option maxRecDepth 100000

theorem wr_ext {x y : Wr} (h : x.host = y.host ∧ x.at_ = y.at_ ∧ x.data = y.data) : x = y := by cases x; cases y; simp_all

end Go.Proofs.Ytefnapcegeojoab
