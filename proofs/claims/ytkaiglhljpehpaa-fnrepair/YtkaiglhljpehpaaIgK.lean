/- Contracts of impl.copyList at numbers and at snapshots. -/
import Derived.Test.YtkaiglhljpehpaaRows
import Derived.Test.YtkaiglhljpehpaaPart1
import Derived.Test.YtkaiglhljpehpaaPart2
import Derived.Test.YtkaiglhljpehpaaPart3
import Derived.Test.YtkaiglhljpehpaaPart22
import Derived.Test.YtkaiglhljpehpaaPart5
import Derived.Test.YtkaiglhljpehpaaPart6
import Derived.Test.YtkaiglhljpehpaaPart8
import Derived.WalkKit
import Derived.WalkSpells
import Derived.KernelRfl
import Derived.Deep.RegionWith

namespace Go.Proofs.Ytkaiglhljpehpaa
open Go.RowKit
set_option linter.unusedVariables false
set_option maxRecDepth 100000

set_option maxHeartbeats 1600000 in
theorem copyN_any (ao : Option Addr) (cap : Nat) (xs : List Int) (w : World) (hl : xs.length ≤ 1048576) (hc : Is w ao xs) :
    Calls Try.prog 50 #[.slice ao xs.length cap] w fun e w' => ∃ v, e = .returned v ∧ OwnN w' w.heap.size v xs ∧ Below w.heap.size w w' := by
  by_cases h0 : xs.length = 0
  · have hb : ((xs.length : Int) == 0) = true := by simp [h0]
    have HE := hide (List.eq_nil_of_length_eq_zero h0)
    clear h0 hc
    go_enter Try.func50, Try.ntmps50
    go_wp2
    go_ret
    exact ⟨_, rfl, by rw [unhide HE]; exact OwnN.nil _ _ _, Below.refl _ _⟩
  · obtain ⟨b, off, rfl, hc0⟩ := hc 0 (by omega)
    have hbl := World.block_lt_of_cell? _ _ hc0
    refine (copyI_any b off cap xs w hl (by omega) hbl (fun j v hv => ?_)).mono ?_
    · have hj : j < xs.length := by have := (List.getElem?_eq_some_iff.1 hv).1; rwa [intV_length] at this
      obtain ⟨b2, off2, e2, hc2⟩ := hc j hj
      simp only [Option.some.injEq, Addr.mk.injEq, and_true] at e2
      obtain ⟨rfl, rfl⟩ := e2
      rw [intV_get hj] at hv
      cases hv
      exact hc2
    · rintro e w' ⟨rfl, ho, hb⟩
      exact ⟨_, rfl, ⟨_, _, rfl, .inr ⟨by omega, ho⟩⟩, hb⟩

/-- The tables' slices of a row of snapshots, as memory has them. -/
theorem Sns.cellsOf {w : World} {so : Option Addr} {ss : List Snp} (h : Sns w so ss) (hp : 0 < ss.length) : ∃ b off ts, so = some ⟨b, off, none⟩ ∧ b < w.heap.size ∧ ss.length = ts.length ∧ (∀ v ∈ snC ss ts, v.oneCell' = true) ∧ ∀ j v, (snC ss ts)[j]? = some v → w.cell? (Addr.add ⟨b, off, none⟩ j) = some v := by
  obtain ⟨b, off, tq0, tc0, e, hn0, _⟩ := h 0 hp
  have key : ∀ (l : List Snp) (o : Nat), (∀ i (hi : i < l.length), ∃ tq tc, w.cell? ⟨b, o + i * 2, none⟩ = some (.string l[i].name) ∧ w.cell? ⟨b, o + i * 2 + 1, none⟩ = some (.slice tq l[i].table.length tc)) → ∃ ts, l.length = ts.length ∧ (∀ v ∈ snC l ts, v.oneCell' = true) ∧ ∀ j v, (snC l ts)[j]? = some v → w.cell? ⟨b, o + j, none⟩ = some v := by
    intro l
    induction l with
    | nil => intro o _; exact ⟨[], rfl, fun v hv => (by cases hv), fun j v hv => (by simp [snC] at hv)⟩
    | cons s l ih =>
      intro o hh
      obtain ⟨tq, tc, h0, h1⟩ := hh 0 (by simp)
      obtain ⟨ts, e1, e2, e3⟩ := ih (o + 2) (fun i hi => by
        obtain ⟨tq, tc, k0, k1⟩ := hh (i + 1) (by simp; omega)
        refine ⟨tq, tc, ?_, ?_⟩
        · rw [show o + 2 + i * 2 = o + (i + 1) * 2 by omega]; exact k0
        · rw [show o + 2 + i * 2 + 1 = o + (i + 1) * 2 + 1 by omega]; exact k1)
      refine ⟨.slice tq s.table.length tc :: ts, by simp [e1], fun v hv => ?_, fun j v hv => ?_⟩
      · simp only [snC, List.mem_cons] at hv
        rcases hv with rfl | rfl | hv
        · rfl
        · rfl
        · exact e2 v hv
      · match j, hv with
        | 0, hv => cases hv; exact h0
        | 1, hv => cases hv; exact h1
        | j + 2, hv =>
          have := e3 j v (by simpa [snC] using hv)
          rw [show o + (j + 2) = o + 2 + j by omega]; exact this
  obtain ⟨ts, e1, e2, e3⟩ := key ss off (fun i hi => by
    obtain ⟨b2, off2, tq, tc, e', k0, k1, _⟩ := h i hi
    rw [e] at e'
    simp only [Option.some.injEq, Addr.mk.injEq, and_true] at e'
    obtain ⟨rfl, rfl⟩ := e'
    exact ⟨tq, tc, k0, k1⟩)
  refine ⟨b, off, ts, e, World.block_lt_of_cell? _ _ hn0, e1, e2, fun j v hv => ?_⟩
  rw [show Addr.add ⟨b, off, none⟩ j = ⟨b, off + j, none⟩ from by unfold Addr.add; split <;> simp_all]
  exact e3 j v hv
theorem infoSnK : (Try.prog.info? 55).map (fun i => (i.zero, i.size, i.bytes)) = some (some (.agg #[.string ⟨#[]⟩, .slice none 0 0]), 2, 40) := by kernel_rfl
theorem sizeSnK : (Try.prog.info? 55).map (·.size) = some 2 := by kernel_rfl
/-- A row of snapshots of the call's own; of its tables nothing is said. -/
def SnO (w : World) (B : Nat) (v : Value) (ss : List Snp) : Prop := ∃ qo qa ts, v = .slice qo ss.length qa ∧ ss.length = ts.length ∧ OwnR w B 55 2 (.slice qo ss.length qa) ss.length (snC ss ts)
theorem SnO.below {w w' : World} {B : Nat} {v : Value} {ss : List Snp} (h : SnO w B v ss) (hb : Below w.heap.size w w') : SnO w' B v ss := by
  obtain ⟨qo, qa, ts, e, l, o⟩ := h
  exact ⟨qo, qa, ts, e, l, o.below hb⟩
theorem SnO.base {w : World} {B B' : Nat} {v : Value} {ss : List Snp} (h : SnO w B v ss) (hB : B' ≤ B) : SnO w B' v ss := by
  obtain ⟨qo, qa, ts, e, l, o⟩ := h
  exact ⟨qo, qa, ts, e, l, o.base hB⟩

set_option maxHeartbeats 1600000 in
theorem copySn_any (so : Option Addr) (sc : Nat) (ss : List Snp) (w : World) (hl : ss.length ≤ 1048576) (hc : Sns w so ss) :
    Calls Try.prog 52 #[.slice so ss.length sc] w fun e w' => ∃ v, e = .returned v ∧ SnO w' w.heap.size v ss ∧ Below w.heap.size w w' := by
  by_cases h0 : ss.length = 0
  · have hb : ((ss.length : Int) == 0) = true := by simp [h0]
    have HE := hide (List.eq_nil_of_length_eq_zero h0)
    clear h0 hc
    go_enter Try.func52, Try.ntmps52
    go_wp2
    go_ret
    exact ⟨_, rfl, ⟨none, 0, [], by rw [unhide HE]; rfl, by rw [unhide HE]; rfl, by rw [unhide HE]; exact .inl ⟨rfl, rfl, _, rfl⟩⟩, Below.refl _ _⟩
  · have hb : ((ss.length : Int) == 0) = false := beq_eq_false_iff_ne.2 (by omega)
    obtain ⟨b, off, ts, rfl, hbl, hlt, h1c, hcs⟩ := hc.cellsOf (by omega)
    have HCS := hide hcs
    have HP := hide h0
    have HLT := hide hlt
    have H1C := hide h1c
    have HCL := hide (snC_length ss ts hlt)
    clear hc hcs h0 h1c hlt
    generalize hcsE : snC ss ts = cs at *
    have HCE := hide hcsE
    clear hcsE
    obtain ⟨i0, hi, hz0, hz1, hz2⟩ := info_parts infoSnK
    go_enter Try.func52, Try.ntmps52
    go_wp2_with (first | (at_make; refine wpList_make_full _ rfl _ _ 24 rfl w.heap.size 55 i0 _ 2 Try.underlying24 hi hz0 hz1 _ _ _ _ ss.length rfl rfl rfl rfl ?c1 ?c2 ?c3 ?_))
    case c1 => rw [hz2]; omega
    case c2 => unfold maxLen; omega
    case c3 => exact Nat.le_refl _
    intro w1 hown hgrow
    have hB : Below w.heap.size w w1 := (Below.refl _ _).grown hgrow (Nat.le_refl _) (fun _ h => by cases h)
    have HO := hide hown
    have HB := hide hB
    have HC1 : Hid (∀ j v, cs[j]? = some v → w1.cell? (Addr.add ⟨b, off, none⟩ j) = some v) := hide (fun j v hv => ((unhide HB).cell (by unfold Addr.add; split <;> exact hbl)).trans (unhide HCS j v hv))
    clear hown hgrow hB
    go_wp2_with (refine wpList_copy_whole rfl _ _ 24 24 rfl 55 2 Try.underlying24 sizeSnK w.heap.size w.heap.size ss.length ⟨b, off, none⟩ _ rfl rfl _ (unhide HO) cs (unhide HCL) (unhide HC1) (unhide H1C) ?_; intro w2 ho2 hg2)
    have HB2 := hide ((unhide HB).grown hg2 (unhide HB).size (fun k h => by cases h; exact Nat.le_refl _))
    have HO2 := hide ho2
    clear ho2 hg2
    go_ret
    exact ⟨_, rfl, ⟨_, _, ts, rfl, unhide HLT, by rw [unhide HCE]; exact OwnR.of (unhide HO2) (fun h => absurd h (unhide HP))⟩, unhide HB2⟩

end Go.Proofs.Ytkaiglhljpehpaa
