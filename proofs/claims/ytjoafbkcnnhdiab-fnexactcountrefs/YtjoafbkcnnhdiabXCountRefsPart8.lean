/- Contract of the model's l10Own: an image as it was, in new memory. (Made ahead of stage 10; written by gens/ownim.py.) -/
import Derived.Test.YtjoafbkcnnhdiabRows
import Derived.Test.YtjoafbkcnnhdiabXCountRefsPart1
import Derived.Test.YtjoafbkcnnhdiabXCountRefsPart2
import Derived.Test.YtjoafbkcnnhdiabXCountRefsPart6
import Derived.Test.YtjoafbkcnnhdiabXCountRefsPart3
import Derived.Test.YtjoafbkcnnhdiabXCountRefsPart4
import Derived.Test.YtjoafbkcnnhdiabXCountRefsPart5
import Derived.Test.YtjoafbkcnnhdiabXCountRefsPart7
import Derived.WalkKit
import Derived.WalkSpells
import Derived.KernelRfl

namespace Go.Proofs.Ytjoafbkcnnhdiab
open Go.RowKit
set_option linter.unusedVariables false
set_option maxRecDepth 100000

def Emp (s : Value) : Prop := ∃ g, s = .slice (some ⟨g, 0, none⟩) 0 0
def Apt (s t : Value) : Prop := ∀ g, Own s g → ¬ Own t g
theorem upd_ne {d : Nat → Bool} {i k : Nat} (hk : k ≠ i) (h : updD d i k = true) : d k = true := by
  simp only [updD, Bool.or_eq_true, decide_eq_true_eq] at h
  exact h.resolve_right hk
theorem upd_nf {d : Nat → Bool} {i k : Nat} (h : updD d i k = false) : d k = false := by
  simp only [updD, Bool.or_eq_false_iff] at h
  exact h.1
theorem upd_up {d : Nat → Bool} {i k : Nat} (h : d k = true) : updD d i k = true := by simp [updD, h]
theorem upd_at {d : Nat → Bool} {i : Nat} : updD d i i = true := by simp [updD]
theorem no_d {d : Nat → Bool} {k : Nat} {p : Prop} (h : d k = true) (hf : d k = false) : p := by rw [h] at hf; cases hf
theorem Is.srcI {w : World} {ao : Option Addr} {xs : List Int} (h : Is w ao xs) : 0 < xs.length → ∃ ad, ao = some ad ∧ ∀ j u, (intV xs)[j]? = some u → w.cell? (ad.add j) = some u := fun hp => by
  obtain ⟨b, off, e, hc'⟩ := h 0 hp
  refine ⟨_, e, fun j v hv => ?_⟩
  have hj : j < xs.length := by have := (List.getElem?_eq_some_iff.1 hv).1; rwa [intV_length] at this
  obtain ⟨b2, off2, e2, hc2⟩ := h j hj
  rw [e] at e2
  simp only [Option.some.injEq, Addr.mk.injEq, and_true] at e2
  obtain ⟨rfl, rfl⟩ := e2
  rw [intV_get hj] at hv
  cases hv
  rw [show Addr.add ⟨b, off, none⟩ j = ⟨b, off + j, none⟩ from by unfold Addr.add; split <;> simp_all]
  exact hc2
theorem fresh_apart {w w' : World} {B : Nat} {s t : Value} {xs ys : List Int} (h : OwnN w B s xs) (k : OwnN w' w.heap.size t ys) : Apt s t := fun g hg ht => by
  have h1 := (h.ge g hg).2
  have h2 := (k.ge g ht).1
  omega
/-- How far the rows of an image have been copied. -/
structure OwI (W0 : World) (x : Nat) (a : Im4) (m : Img) (d : Nat → Bool) (w : World) (s3 s5 s6 s7 s8 s9 s10 s11 s12 s13 s14 s15 s16 s17 s18 : Value) : Prop where
  b : Below W0.heap.size W0 w
  f0 : d 0 = true → Emp s5
  f1 : d 1 = true → s6 = .pointer (some ⟨x, 0, none⟩)
  f2 : d 2 = true → s7 = .slice a.ro m.refs.length a.rc
  f3 : d 3 = true → OwnN w W0.heap.size s8 m.refs
  f4 : d 4 = true → Emp s9
  f5 : d 5 = true → s10 = .pointer (some ⟨x, 1, none⟩)
  f6 : d 6 = true → s11 = .slice a.tq m.table.length a.tc
  f7 : d 7 = true → OwnN w W0.heap.size s12 m.table ∧ Apt s8 s12
  f8 : d 8 = true → Emp s13
  f9 : d 9 = true → Emp s14
  f10 : d 10 = true → s15 = .pointer (some ⟨x, 3, none⟩)
  f11 : d 11 = true → s16 = .slice a.dq m.data.length a.dc
  f12 : d 12 = true → OwnN w W0.heap.size s17 m.data ∧ Apt s8 s17 ∧ Apt s12 s17
  f13 : d 13 = true → s18 = .agg #[s8, s12, s13, s17]
  f14 : d 14 = true → d 15 = false → ∃ y, s3 = .pointer (some ⟨y, 0, none⟩) ∧ W0.heap.size ≤ y ∧ VarM w y 29 (.slice none 0 0) (.slice none 0 0) (.slice none 0 0) (.slice none 0 0)
  f15 : d 15 = true → ∃ y, s3 = .pointer (some ⟨y, 0, none⟩) ∧ W0.heap.size ≤ y ∧ VarM w y 29 s8 s12 s13 s17
  c7 : d 7 = true → d 3 = true
  c12 : d 12 = true → d 7 = true
  c13 : d 13 = true → d 8 = true ∧ d 12 = true
  c15 : d 15 = true → d 13 = true ∧ d 14 = true

theorem OwI.s0 {W0 w w2 : World} {x : Nat} {a : Im4} {m : Img} {d : Nat → Bool} {s3 s5 s6 s7 s8 s9 s10 s11 s12 s13 s14 s15 s16 s17 s18 v : Value} (I : OwI W0 x a m d w s3 s5 s6 s7 s8 s9 s10 s11 s12 s13 s14 s15 s16 s17 s18) (hd : d 0 = false) (hb : Below w.heap.size w w2) (hv : Emp v) : OwI W0 x a m (updD d 0) w2 s3 v s6 s7 s8 s9 s10 s11 s12 s13 s14 s15 s16 s17 s18 where
  b := fr I.b hb
  f0 := fun _ => hv
  f1 := fun h => I.f1 (upd_ne (by decide) h)
  f2 := fun h => I.f2 (upd_ne (by decide) h)
  f3 := fun h => (I.f3 (upd_ne (by decide) h)).below hb
  f4 := fun h => I.f4 (upd_ne (by decide) h)
  f5 := fun h => I.f5 (upd_ne (by decide) h)
  f6 := fun h => I.f6 (upd_ne (by decide) h)
  f7 := fun h => ⟨(I.f7 (upd_ne (by decide) h)).1.below hb, (I.f7 (upd_ne (by decide) h)).2⟩
  f8 := fun h => I.f8 (upd_ne (by decide) h)
  f9 := fun h => I.f9 (upd_ne (by decide) h)
  f10 := fun h => I.f10 (upd_ne (by decide) h)
  f11 := fun h => I.f11 (upd_ne (by decide) h)
  f12 := fun h => ⟨(I.f12 (upd_ne (by decide) h)).1.below hb, (I.f12 (upd_ne (by decide) h)).2⟩
  f13 := fun h => I.f13 (upd_ne (by decide) h)
  f14 := fun h h' => (I.f14 (upd_ne (by decide) h) (upd_nf h')).imp fun y hy => ⟨hy.1, hy.2.1, hy.2.2.below hb⟩
  f15 := fun h => (I.f15 (upd_ne (by decide) h)).imp fun y hy => ⟨hy.1, hy.2.1, hy.2.2.below hb⟩
  c7 := fun h => upd_up (I.c7 (upd_ne (by decide) h))
  c12 := fun h => upd_up (I.c12 (upd_ne (by decide) h))
  c13 := fun h => ⟨upd_up (I.c13 (upd_ne (by decide) h)).1, upd_up (I.c13 (upd_ne (by decide) h)).2⟩
  c15 := fun h => ⟨upd_up (I.c15 (upd_ne (by decide) h)).1, upd_up (I.c15 (upd_ne (by decide) h)).2⟩

theorem OwI.s4 {W0 w w2 : World} {x : Nat} {a : Im4} {m : Img} {d : Nat → Bool} {s3 s5 s6 s7 s8 s9 s10 s11 s12 s13 s14 s15 s16 s17 s18 v : Value} (I : OwI W0 x a m d w s3 s5 s6 s7 s8 s9 s10 s11 s12 s13 s14 s15 s16 s17 s18) (hd : d 4 = false) (hb : Below w.heap.size w w2) (hv : Emp v) : OwI W0 x a m (updD d 4) w2 s3 s5 s6 s7 s8 v s10 s11 s12 s13 s14 s15 s16 s17 s18 where
  b := fr I.b hb
  f0 := fun h => I.f0 (upd_ne (by decide) h)
  f1 := fun h => I.f1 (upd_ne (by decide) h)
  f2 := fun h => I.f2 (upd_ne (by decide) h)
  f3 := fun h => (I.f3 (upd_ne (by decide) h)).below hb
  f4 := fun _ => hv
  f5 := fun h => I.f5 (upd_ne (by decide) h)
  f6 := fun h => I.f6 (upd_ne (by decide) h)
  f7 := fun h => ⟨(I.f7 (upd_ne (by decide) h)).1.below hb, (I.f7 (upd_ne (by decide) h)).2⟩
  f8 := fun h => I.f8 (upd_ne (by decide) h)
  f9 := fun h => I.f9 (upd_ne (by decide) h)
  f10 := fun h => I.f10 (upd_ne (by decide) h)
  f11 := fun h => I.f11 (upd_ne (by decide) h)
  f12 := fun h => ⟨(I.f12 (upd_ne (by decide) h)).1.below hb, (I.f12 (upd_ne (by decide) h)).2⟩
  f13 := fun h => I.f13 (upd_ne (by decide) h)
  f14 := fun h h' => (I.f14 (upd_ne (by decide) h) (upd_nf h')).imp fun y hy => ⟨hy.1, hy.2.1, hy.2.2.below hb⟩
  f15 := fun h => (I.f15 (upd_ne (by decide) h)).imp fun y hy => ⟨hy.1, hy.2.1, hy.2.2.below hb⟩
  c7 := fun h => upd_up (I.c7 (upd_ne (by decide) h))
  c12 := fun h => upd_up (I.c12 (upd_ne (by decide) h))
  c13 := fun h => ⟨upd_up (I.c13 (upd_ne (by decide) h)).1, upd_up (I.c13 (upd_ne (by decide) h)).2⟩
  c15 := fun h => ⟨upd_up (I.c15 (upd_ne (by decide) h)).1, upd_up (I.c15 (upd_ne (by decide) h)).2⟩

theorem OwI.s8 {W0 w w2 : World} {x : Nat} {a : Im4} {m : Img} {d : Nat → Bool} {s3 s5 s6 s7 s8 s9 s10 s11 s12 s13 s14 s15 s16 s17 s18 v : Value} (I : OwI W0 x a m d w s3 s5 s6 s7 s8 s9 s10 s11 s12 s13 s14 s15 s16 s17 s18) (hd : d 8 = false) (hb : Below w.heap.size w w2) (hv : Emp v) : OwI W0 x a m (updD d 8) w2 s3 s5 s6 s7 s8 s9 s10 s11 s12 v s14 s15 s16 s17 s18 where
  b := fr I.b hb
  f0 := fun h => I.f0 (upd_ne (by decide) h)
  f1 := fun h => I.f1 (upd_ne (by decide) h)
  f2 := fun h => I.f2 (upd_ne (by decide) h)
  f3 := fun h => (I.f3 (upd_ne (by decide) h)).below hb
  f4 := fun h => I.f4 (upd_ne (by decide) h)
  f5 := fun h => I.f5 (upd_ne (by decide) h)
  f6 := fun h => I.f6 (upd_ne (by decide) h)
  f7 := fun h => ⟨(I.f7 (upd_ne (by decide) h)).1.below hb, (I.f7 (upd_ne (by decide) h)).2⟩
  f8 := fun _ => hv
  f9 := fun h => I.f9 (upd_ne (by decide) h)
  f10 := fun h => I.f10 (upd_ne (by decide) h)
  f11 := fun h => I.f11 (upd_ne (by decide) h)
  f12 := fun h => ⟨(I.f12 (upd_ne (by decide) h)).1.below hb, (I.f12 (upd_ne (by decide) h)).2⟩
  f13 := fun h => no_d ((I.c13 (upd_ne (by decide) h)).1) hd
  f14 := fun h h' => (I.f14 (upd_ne (by decide) h) (upd_nf h')).imp fun y hy => ⟨hy.1, hy.2.1, hy.2.2.below hb⟩
  f15 := fun h => no_d ((I.c13 (I.c15 (upd_ne (by decide) h)).1).1) hd
  c7 := fun h => upd_up (I.c7 (upd_ne (by decide) h))
  c12 := fun h => upd_up (I.c12 (upd_ne (by decide) h))
  c13 := fun h => ⟨upd_at, upd_up (I.c13 (upd_ne (by decide) h)).2⟩
  c15 := fun h => ⟨upd_up (I.c15 (upd_ne (by decide) h)).1, upd_up (I.c15 (upd_ne (by decide) h)).2⟩

theorem OwI.s9 {W0 w w2 : World} {x : Nat} {a : Im4} {m : Img} {d : Nat → Bool} {s3 s5 s6 s7 s8 s9 s10 s11 s12 s13 s14 s15 s16 s17 s18 v : Value} (I : OwI W0 x a m d w s3 s5 s6 s7 s8 s9 s10 s11 s12 s13 s14 s15 s16 s17 s18) (hd : d 9 = false) (hb : Below w.heap.size w w2) (hv : Emp v) : OwI W0 x a m (updD d 9) w2 s3 s5 s6 s7 s8 s9 s10 s11 s12 s13 v s15 s16 s17 s18 where
  b := fr I.b hb
  f0 := fun h => I.f0 (upd_ne (by decide) h)
  f1 := fun h => I.f1 (upd_ne (by decide) h)
  f2 := fun h => I.f2 (upd_ne (by decide) h)
  f3 := fun h => (I.f3 (upd_ne (by decide) h)).below hb
  f4 := fun h => I.f4 (upd_ne (by decide) h)
  f5 := fun h => I.f5 (upd_ne (by decide) h)
  f6 := fun h => I.f6 (upd_ne (by decide) h)
  f7 := fun h => ⟨(I.f7 (upd_ne (by decide) h)).1.below hb, (I.f7 (upd_ne (by decide) h)).2⟩
  f8 := fun h => I.f8 (upd_ne (by decide) h)
  f9 := fun _ => hv
  f10 := fun h => I.f10 (upd_ne (by decide) h)
  f11 := fun h => I.f11 (upd_ne (by decide) h)
  f12 := fun h => ⟨(I.f12 (upd_ne (by decide) h)).1.below hb, (I.f12 (upd_ne (by decide) h)).2⟩
  f13 := fun h => I.f13 (upd_ne (by decide) h)
  f14 := fun h h' => (I.f14 (upd_ne (by decide) h) (upd_nf h')).imp fun y hy => ⟨hy.1, hy.2.1, hy.2.2.below hb⟩
  f15 := fun h => (I.f15 (upd_ne (by decide) h)).imp fun y hy => ⟨hy.1, hy.2.1, hy.2.2.below hb⟩
  c7 := fun h => upd_up (I.c7 (upd_ne (by decide) h))
  c12 := fun h => upd_up (I.c12 (upd_ne (by decide) h))
  c13 := fun h => ⟨upd_up (I.c13 (upd_ne (by decide) h)).1, upd_up (I.c13 (upd_ne (by decide) h)).2⟩
  c15 := fun h => ⟨upd_up (I.c15 (upd_ne (by decide) h)).1, upd_up (I.c15 (upd_ne (by decide) h)).2⟩

theorem OwI.s1 {W0 w : World} {x : Nat} {a : Im4} {m : Img} {d : Nat → Bool} {s3 s5 s6 s7 s8 s9 s10 s11 s12 s13 s14 s15 s16 s17 s18 v : Value} (I : OwI W0 x a m d w s3 s5 s6 s7 s8 s9 s10 s11 s12 s13 s14 s15 s16 s17 s18) (hd : d 1 = false) (hv : v = .pointer (some ⟨x, 0, none⟩)) : OwI W0 x a m (updD d 1) w s3 s5 v s7 s8 s9 s10 s11 s12 s13 s14 s15 s16 s17 s18 where
  b := I.b
  f0 := fun h => I.f0 (upd_ne (by decide) h)
  f1 := fun _ => hv
  f2 := fun h => I.f2 (upd_ne (by decide) h)
  f3 := fun h => I.f3 (upd_ne (by decide) h)
  f4 := fun h => I.f4 (upd_ne (by decide) h)
  f5 := fun h => I.f5 (upd_ne (by decide) h)
  f6 := fun h => I.f6 (upd_ne (by decide) h)
  f7 := fun h => I.f7 (upd_ne (by decide) h)
  f8 := fun h => I.f8 (upd_ne (by decide) h)
  f9 := fun h => I.f9 (upd_ne (by decide) h)
  f10 := fun h => I.f10 (upd_ne (by decide) h)
  f11 := fun h => I.f11 (upd_ne (by decide) h)
  f12 := fun h => I.f12 (upd_ne (by decide) h)
  f13 := fun h => I.f13 (upd_ne (by decide) h)
  f14 := fun h h' => I.f14 (upd_ne (by decide) h) (upd_nf h')
  f15 := fun h => I.f15 (upd_ne (by decide) h)
  c7 := fun h => upd_up (I.c7 (upd_ne (by decide) h))
  c12 := fun h => upd_up (I.c12 (upd_ne (by decide) h))
  c13 := fun h => ⟨upd_up (I.c13 (upd_ne (by decide) h)).1, upd_up (I.c13 (upd_ne (by decide) h)).2⟩
  c15 := fun h => ⟨upd_up (I.c15 (upd_ne (by decide) h)).1, upd_up (I.c15 (upd_ne (by decide) h)).2⟩

theorem OwI.s5 {W0 w : World} {x : Nat} {a : Im4} {m : Img} {d : Nat → Bool} {s3 s5 s6 s7 s8 s9 s10 s11 s12 s13 s14 s15 s16 s17 s18 v : Value} (I : OwI W0 x a m d w s3 s5 s6 s7 s8 s9 s10 s11 s12 s13 s14 s15 s16 s17 s18) (hd : d 5 = false) (hv : v = .pointer (some ⟨x, 1, none⟩)) : OwI W0 x a m (updD d 5) w s3 s5 s6 s7 s8 s9 v s11 s12 s13 s14 s15 s16 s17 s18 where
  b := I.b
  f0 := fun h => I.f0 (upd_ne (by decide) h)
  f1 := fun h => I.f1 (upd_ne (by decide) h)
  f2 := fun h => I.f2 (upd_ne (by decide) h)
  f3 := fun h => I.f3 (upd_ne (by decide) h)
  f4 := fun h => I.f4 (upd_ne (by decide) h)
  f5 := fun _ => hv
  f6 := fun h => I.f6 (upd_ne (by decide) h)
  f7 := fun h => I.f7 (upd_ne (by decide) h)
  f8 := fun h => I.f8 (upd_ne (by decide) h)
  f9 := fun h => I.f9 (upd_ne (by decide) h)
  f10 := fun h => I.f10 (upd_ne (by decide) h)
  f11 := fun h => I.f11 (upd_ne (by decide) h)
  f12 := fun h => I.f12 (upd_ne (by decide) h)
  f13 := fun h => I.f13 (upd_ne (by decide) h)
  f14 := fun h h' => I.f14 (upd_ne (by decide) h) (upd_nf h')
  f15 := fun h => I.f15 (upd_ne (by decide) h)
  c7 := fun h => upd_up (I.c7 (upd_ne (by decide) h))
  c12 := fun h => upd_up (I.c12 (upd_ne (by decide) h))
  c13 := fun h => ⟨upd_up (I.c13 (upd_ne (by decide) h)).1, upd_up (I.c13 (upd_ne (by decide) h)).2⟩
  c15 := fun h => ⟨upd_up (I.c15 (upd_ne (by decide) h)).1, upd_up (I.c15 (upd_ne (by decide) h)).2⟩

theorem OwI.s10 {W0 w : World} {x : Nat} {a : Im4} {m : Img} {d : Nat → Bool} {s3 s5 s6 s7 s8 s9 s10 s11 s12 s13 s14 s15 s16 s17 s18 v : Value} (I : OwI W0 x a m d w s3 s5 s6 s7 s8 s9 s10 s11 s12 s13 s14 s15 s16 s17 s18) (hd : d 10 = false) (hv : v = .pointer (some ⟨x, 3, none⟩)) : OwI W0 x a m (updD d 10) w s3 s5 s6 s7 s8 s9 s10 s11 s12 s13 s14 v s16 s17 s18 where
  b := I.b
  f0 := fun h => I.f0 (upd_ne (by decide) h)
  f1 := fun h => I.f1 (upd_ne (by decide) h)
  f2 := fun h => I.f2 (upd_ne (by decide) h)
  f3 := fun h => I.f3 (upd_ne (by decide) h)
  f4 := fun h => I.f4 (upd_ne (by decide) h)
  f5 := fun h => I.f5 (upd_ne (by decide) h)
  f6 := fun h => I.f6 (upd_ne (by decide) h)
  f7 := fun h => I.f7 (upd_ne (by decide) h)
  f8 := fun h => I.f8 (upd_ne (by decide) h)
  f9 := fun h => I.f9 (upd_ne (by decide) h)
  f10 := fun _ => hv
  f11 := fun h => I.f11 (upd_ne (by decide) h)
  f12 := fun h => I.f12 (upd_ne (by decide) h)
  f13 := fun h => I.f13 (upd_ne (by decide) h)
  f14 := fun h h' => I.f14 (upd_ne (by decide) h) (upd_nf h')
  f15 := fun h => I.f15 (upd_ne (by decide) h)
  c7 := fun h => upd_up (I.c7 (upd_ne (by decide) h))
  c12 := fun h => upd_up (I.c12 (upd_ne (by decide) h))
  c13 := fun h => ⟨upd_up (I.c13 (upd_ne (by decide) h)).1, upd_up (I.c13 (upd_ne (by decide) h)).2⟩
  c15 := fun h => ⟨upd_up (I.c15 (upd_ne (by decide) h)).1, upd_up (I.c15 (upd_ne (by decide) h)).2⟩

theorem OwI.s2 {W0 w : World} {x : Nat} {a : Im4} {m : Img} {d : Nat → Bool} {s3 s5 s6 s7 s8 s9 s10 s11 s12 s13 s14 s15 s16 s17 s18 v : Value} (I : OwI W0 x a m d w s3 s5 s6 s7 s8 s9 s10 s11 s12 s13 s14 s15 s16 s17 s18) (hd : d 2 = false) (hv : v = .slice a.ro m.refs.length a.rc) : OwI W0 x a m (updD d 2) w s3 s5 s6 v s8 s9 s10 s11 s12 s13 s14 s15 s16 s17 s18 where
  b := I.b
  f0 := fun h => I.f0 (upd_ne (by decide) h)
  f1 := fun h => I.f1 (upd_ne (by decide) h)
  f2 := fun _ => hv
  f3 := fun h => I.f3 (upd_ne (by decide) h)
  f4 := fun h => I.f4 (upd_ne (by decide) h)
  f5 := fun h => I.f5 (upd_ne (by decide) h)
  f6 := fun h => I.f6 (upd_ne (by decide) h)
  f7 := fun h => I.f7 (upd_ne (by decide) h)
  f8 := fun h => I.f8 (upd_ne (by decide) h)
  f9 := fun h => I.f9 (upd_ne (by decide) h)
  f10 := fun h => I.f10 (upd_ne (by decide) h)
  f11 := fun h => I.f11 (upd_ne (by decide) h)
  f12 := fun h => I.f12 (upd_ne (by decide) h)
  f13 := fun h => I.f13 (upd_ne (by decide) h)
  f14 := fun h h' => I.f14 (upd_ne (by decide) h) (upd_nf h')
  f15 := fun h => I.f15 (upd_ne (by decide) h)
  c7 := fun h => upd_up (I.c7 (upd_ne (by decide) h))
  c12 := fun h => upd_up (I.c12 (upd_ne (by decide) h))
  c13 := fun h => ⟨upd_up (I.c13 (upd_ne (by decide) h)).1, upd_up (I.c13 (upd_ne (by decide) h)).2⟩
  c15 := fun h => ⟨upd_up (I.c15 (upd_ne (by decide) h)).1, upd_up (I.c15 (upd_ne (by decide) h)).2⟩

theorem OwI.s6 {W0 w : World} {x : Nat} {a : Im4} {m : Img} {d : Nat → Bool} {s3 s5 s6 s7 s8 s9 s10 s11 s12 s13 s14 s15 s16 s17 s18 v : Value} (I : OwI W0 x a m d w s3 s5 s6 s7 s8 s9 s10 s11 s12 s13 s14 s15 s16 s17 s18) (hd : d 6 = false) (hv : v = .slice a.tq m.table.length a.tc) : OwI W0 x a m (updD d 6) w s3 s5 s6 s7 s8 s9 s10 v s12 s13 s14 s15 s16 s17 s18 where
  b := I.b
  f0 := fun h => I.f0 (upd_ne (by decide) h)
  f1 := fun h => I.f1 (upd_ne (by decide) h)
  f2 := fun h => I.f2 (upd_ne (by decide) h)
  f3 := fun h => I.f3 (upd_ne (by decide) h)
  f4 := fun h => I.f4 (upd_ne (by decide) h)
  f5 := fun h => I.f5 (upd_ne (by decide) h)
  f6 := fun _ => hv
  f7 := fun h => I.f7 (upd_ne (by decide) h)
  f8 := fun h => I.f8 (upd_ne (by decide) h)
  f9 := fun h => I.f9 (upd_ne (by decide) h)
  f10 := fun h => I.f10 (upd_ne (by decide) h)
  f11 := fun h => I.f11 (upd_ne (by decide) h)
  f12 := fun h => I.f12 (upd_ne (by decide) h)
  f13 := fun h => I.f13 (upd_ne (by decide) h)
  f14 := fun h h' => I.f14 (upd_ne (by decide) h) (upd_nf h')
  f15 := fun h => I.f15 (upd_ne (by decide) h)
  c7 := fun h => upd_up (I.c7 (upd_ne (by decide) h))
  c12 := fun h => upd_up (I.c12 (upd_ne (by decide) h))
  c13 := fun h => ⟨upd_up (I.c13 (upd_ne (by decide) h)).1, upd_up (I.c13 (upd_ne (by decide) h)).2⟩
  c15 := fun h => ⟨upd_up (I.c15 (upd_ne (by decide) h)).1, upd_up (I.c15 (upd_ne (by decide) h)).2⟩

theorem OwI.s11 {W0 w : World} {x : Nat} {a : Im4} {m : Img} {d : Nat → Bool} {s3 s5 s6 s7 s8 s9 s10 s11 s12 s13 s14 s15 s16 s17 s18 v : Value} (I : OwI W0 x a m d w s3 s5 s6 s7 s8 s9 s10 s11 s12 s13 s14 s15 s16 s17 s18) (hd : d 11 = false) (hv : v = .slice a.dq m.data.length a.dc) : OwI W0 x a m (updD d 11) w s3 s5 s6 s7 s8 s9 s10 s11 s12 s13 s14 s15 v s17 s18 where
  b := I.b
  f0 := fun h => I.f0 (upd_ne (by decide) h)
  f1 := fun h => I.f1 (upd_ne (by decide) h)
  f2 := fun h => I.f2 (upd_ne (by decide) h)
  f3 := fun h => I.f3 (upd_ne (by decide) h)
  f4 := fun h => I.f4 (upd_ne (by decide) h)
  f5 := fun h => I.f5 (upd_ne (by decide) h)
  f6 := fun h => I.f6 (upd_ne (by decide) h)
  f7 := fun h => I.f7 (upd_ne (by decide) h)
  f8 := fun h => I.f8 (upd_ne (by decide) h)
  f9 := fun h => I.f9 (upd_ne (by decide) h)
  f10 := fun h => I.f10 (upd_ne (by decide) h)
  f11 := fun _ => hv
  f12 := fun h => I.f12 (upd_ne (by decide) h)
  f13 := fun h => I.f13 (upd_ne (by decide) h)
  f14 := fun h h' => I.f14 (upd_ne (by decide) h) (upd_nf h')
  f15 := fun h => I.f15 (upd_ne (by decide) h)
  c7 := fun h => upd_up (I.c7 (upd_ne (by decide) h))
  c12 := fun h => upd_up (I.c12 (upd_ne (by decide) h))
  c13 := fun h => ⟨upd_up (I.c13 (upd_ne (by decide) h)).1, upd_up (I.c13 (upd_ne (by decide) h)).2⟩
  c15 := fun h => ⟨upd_up (I.c15 (upd_ne (by decide) h)).1, upd_up (I.c15 (upd_ne (by decide) h)).2⟩

theorem OwI.s3 {W0 w w2 : World} {x : Nat} {a : Im4} {m : Img} {d : Nat → Bool} {s3 s5 s6 s7 s8 s9 s10 s11 s12 s13 s14 s15 s16 s17 s18 v : Value} (I : OwI W0 x a m d w s3 s5 s6 s7 s8 s9 s10 s11 s12 s13 s14 s15 s16 s17 s18) (hd : d 3 = false) (hb : Below w.heap.size w w2) (hv : OwnN w2 w.heap.size v m.refs) : OwI W0 x a m (updD d 3) w2 s3 s5 s6 s7 v s9 s10 s11 s12 s13 s14 s15 s16 s17 s18 where
  b := fr I.b hb
  f0 := fun h => I.f0 (upd_ne (by decide) h)
  f1 := fun h => I.f1 (upd_ne (by decide) h)
  f2 := fun h => I.f2 (upd_ne (by decide) h)
  f3 := fun _ => hv.base I.b.size
  f4 := fun h => I.f4 (upd_ne (by decide) h)
  f5 := fun h => I.f5 (upd_ne (by decide) h)
  f6 := fun h => I.f6 (upd_ne (by decide) h)
  f7 := fun h => no_d (I.c7 (upd_ne (by decide) h)) hd
  f8 := fun h => I.f8 (upd_ne (by decide) h)
  f9 := fun h => I.f9 (upd_ne (by decide) h)
  f10 := fun h => I.f10 (upd_ne (by decide) h)
  f11 := fun h => I.f11 (upd_ne (by decide) h)
  f12 := fun h => no_d (I.c7 (I.c12 (upd_ne (by decide) h))) hd
  f13 := fun h => no_d (I.c7 (I.c12 (I.c13 (upd_ne (by decide) h)).2)) hd
  f14 := fun h h' => (I.f14 (upd_ne (by decide) h) (upd_nf h')).imp fun y hy => ⟨hy.1, hy.2.1, hy.2.2.below hb⟩
  f15 := fun h => no_d (I.c7 (I.c12 (I.c13 (I.c15 (upd_ne (by decide) h)).1).2)) hd
  c7 := fun h => upd_at
  c12 := fun h => upd_up (I.c12 (upd_ne (by decide) h))
  c13 := fun h => ⟨upd_up (I.c13 (upd_ne (by decide) h)).1, upd_up (I.c13 (upd_ne (by decide) h)).2⟩
  c15 := fun h => ⟨upd_up (I.c15 (upd_ne (by decide) h)).1, upd_up (I.c15 (upd_ne (by decide) h)).2⟩

theorem OwI.s7 {W0 w w2 : World} {x : Nat} {a : Im4} {m : Img} {d : Nat → Bool} {s3 s5 s6 s7 s8 s9 s10 s11 s12 s13 s14 s15 s16 s17 s18 v : Value} (I : OwI W0 x a m d w s3 s5 s6 s7 s8 s9 s10 s11 s12 s13 s14 s15 s16 s17 s18) (hd : d 7 = false) (hb : Below w.heap.size w w2) (p3 : d 3 = true) (hv : OwnN w2 w.heap.size v m.table) : OwI W0 x a m (updD d 7) w2 s3 s5 s6 s7 s8 s9 s10 s11 v s13 s14 s15 s16 s17 s18 where
  b := fr I.b hb
  f0 := fun h => I.f0 (upd_ne (by decide) h)
  f1 := fun h => I.f1 (upd_ne (by decide) h)
  f2 := fun h => I.f2 (upd_ne (by decide) h)
  f3 := fun h => (I.f3 (upd_ne (by decide) h)).below hb
  f4 := fun h => I.f4 (upd_ne (by decide) h)
  f5 := fun h => I.f5 (upd_ne (by decide) h)
  f6 := fun h => I.f6 (upd_ne (by decide) h)
  f7 := fun _ => ⟨hv.base I.b.size, fresh_apart (I.f3 p3) hv⟩
  f8 := fun h => I.f8 (upd_ne (by decide) h)
  f9 := fun h => I.f9 (upd_ne (by decide) h)
  f10 := fun h => I.f10 (upd_ne (by decide) h)
  f11 := fun h => I.f11 (upd_ne (by decide) h)
  f12 := fun h => no_d (I.c12 (upd_ne (by decide) h)) hd
  f13 := fun h => no_d (I.c12 (I.c13 (upd_ne (by decide) h)).2) hd
  f14 := fun h h' => (I.f14 (upd_ne (by decide) h) (upd_nf h')).imp fun y hy => ⟨hy.1, hy.2.1, hy.2.2.below hb⟩
  f15 := fun h => no_d (I.c12 (I.c13 (I.c15 (upd_ne (by decide) h)).1).2) hd
  c7 := fun h => upd_up p3
  c12 := fun h => upd_at
  c13 := fun h => ⟨upd_up (I.c13 (upd_ne (by decide) h)).1, upd_up (I.c13 (upd_ne (by decide) h)).2⟩
  c15 := fun h => ⟨upd_up (I.c15 (upd_ne (by decide) h)).1, upd_up (I.c15 (upd_ne (by decide) h)).2⟩

theorem OwI.s12 {W0 w w2 : World} {x : Nat} {a : Im4} {m : Img} {d : Nat → Bool} {s3 s5 s6 s7 s8 s9 s10 s11 s12 s13 s14 s15 s16 s17 s18 v : Value} (I : OwI W0 x a m d w s3 s5 s6 s7 s8 s9 s10 s11 s12 s13 s14 s15 s16 s17 s18) (hd : d 12 = false) (hb : Below w.heap.size w w2) (p7 : d 7 = true) (hv : OwnN w2 w.heap.size v m.data) : OwI W0 x a m (updD d 12) w2 s3 s5 s6 s7 s8 s9 s10 s11 s12 s13 s14 s15 s16 v s18 where
  b := fr I.b hb
  f0 := fun h => I.f0 (upd_ne (by decide) h)
  f1 := fun h => I.f1 (upd_ne (by decide) h)
  f2 := fun h => I.f2 (upd_ne (by decide) h)
  f3 := fun h => (I.f3 (upd_ne (by decide) h)).below hb
  f4 := fun h => I.f4 (upd_ne (by decide) h)
  f5 := fun h => I.f5 (upd_ne (by decide) h)
  f6 := fun h => I.f6 (upd_ne (by decide) h)
  f7 := fun h => ⟨(I.f7 (upd_ne (by decide) h)).1.below hb, (I.f7 (upd_ne (by decide) h)).2⟩
  f8 := fun h => I.f8 (upd_ne (by decide) h)
  f9 := fun h => I.f9 (upd_ne (by decide) h)
  f10 := fun h => I.f10 (upd_ne (by decide) h)
  f11 := fun h => I.f11 (upd_ne (by decide) h)
  f12 := fun _ => ⟨hv.base I.b.size, fresh_apart (I.f3 (I.c7 p7)) hv, fresh_apart (I.f7 p7).1 hv⟩
  f13 := fun h => no_d ((I.c13 (upd_ne (by decide) h)).2) hd
  f14 := fun h h' => (I.f14 (upd_ne (by decide) h) (upd_nf h')).imp fun y hy => ⟨hy.1, hy.2.1, hy.2.2.below hb⟩
  f15 := fun h => no_d ((I.c13 (I.c15 (upd_ne (by decide) h)).1).2) hd
  c7 := fun h => upd_up (I.c7 (upd_ne (by decide) h))
  c12 := fun h => upd_up p7
  c13 := fun h => ⟨upd_up (I.c13 (upd_ne (by decide) h)).1, upd_at⟩
  c15 := fun h => ⟨upd_up (I.c15 (upd_ne (by decide) h)).1, upd_up (I.c15 (upd_ne (by decide) h)).2⟩

theorem OwI.s13 {W0 w : World} {x : Nat} {a : Im4} {m : Img} {d : Nat → Bool} {s3 s5 s6 s7 s8 s9 s10 s11 s12 s13 s14 s15 s16 s17 s18 v : Value} (I : OwI W0 x a m d w s3 s5 s6 s7 s8 s9 s10 s11 s12 s13 s14 s15 s16 s17 s18) (hd : d 13 = false) (p8 : d 8 = true) (p12 : d 12 = true) (hv : v = .agg #[s8, s12, s13, s17]) : OwI W0 x a m (updD d 13) w s3 s5 s6 s7 s8 s9 s10 s11 s12 s13 s14 s15 s16 s17 v where
  b := I.b
  f0 := fun h => I.f0 (upd_ne (by decide) h)
  f1 := fun h => I.f1 (upd_ne (by decide) h)
  f2 := fun h => I.f2 (upd_ne (by decide) h)
  f3 := fun h => I.f3 (upd_ne (by decide) h)
  f4 := fun h => I.f4 (upd_ne (by decide) h)
  f5 := fun h => I.f5 (upd_ne (by decide) h)
  f6 := fun h => I.f6 (upd_ne (by decide) h)
  f7 := fun h => I.f7 (upd_ne (by decide) h)
  f8 := fun h => I.f8 (upd_ne (by decide) h)
  f9 := fun h => I.f9 (upd_ne (by decide) h)
  f10 := fun h => I.f10 (upd_ne (by decide) h)
  f11 := fun h => I.f11 (upd_ne (by decide) h)
  f12 := fun h => I.f12 (upd_ne (by decide) h)
  f13 := fun _ => hv
  f14 := fun h h' => I.f14 (upd_ne (by decide) h) (upd_nf h')
  f15 := fun h => no_d ((I.c15 (upd_ne (by decide) h)).1) hd
  c7 := fun h => upd_up (I.c7 (upd_ne (by decide) h))
  c12 := fun h => upd_up (I.c12 (upd_ne (by decide) h))
  c13 := fun h => ⟨upd_up p8, upd_up p12⟩
  c15 := fun h => ⟨upd_at, upd_up (I.c15 (upd_ne (by decide) h)).2⟩

theorem OwI.s14 {W0 w w2 : World} {x : Nat} {a : Im4} {m : Img} {d : Nat → Bool} {s3 s5 s6 s7 s8 s9 s10 s11 s12 s13 s14 s15 s16 s17 s18 v : Value} (I : OwI W0 x a m d w s3 s5 s6 s7 s8 s9 s10 s11 s12 s13 s14 s15 s16 s17 s18) (hd : d 14 = false) (hb : Below w.heap.size w w2) {y : Nat} (hv : v = .pointer (some ⟨y, 0, none⟩)) (hy : W0.heap.size ≤ y) (hn : VarM w2 y 29 (.slice none 0 0) (.slice none 0 0) (.slice none 0 0) (.slice none 0 0)) : OwI W0 x a m (updD d 14) w2 v s5 s6 s7 s8 s9 s10 s11 s12 s13 s14 s15 s16 s17 s18 where
  b := fr I.b hb
  f0 := fun h => I.f0 (upd_ne (by decide) h)
  f1 := fun h => I.f1 (upd_ne (by decide) h)
  f2 := fun h => I.f2 (upd_ne (by decide) h)
  f3 := fun h => (I.f3 (upd_ne (by decide) h)).below hb
  f4 := fun h => I.f4 (upd_ne (by decide) h)
  f5 := fun h => I.f5 (upd_ne (by decide) h)
  f6 := fun h => I.f6 (upd_ne (by decide) h)
  f7 := fun h => ⟨(I.f7 (upd_ne (by decide) h)).1.below hb, (I.f7 (upd_ne (by decide) h)).2⟩
  f8 := fun h => I.f8 (upd_ne (by decide) h)
  f9 := fun h => I.f9 (upd_ne (by decide) h)
  f10 := fun h => I.f10 (upd_ne (by decide) h)
  f11 := fun h => I.f11 (upd_ne (by decide) h)
  f12 := fun h => ⟨(I.f12 (upd_ne (by decide) h)).1.below hb, (I.f12 (upd_ne (by decide) h)).2⟩
  f13 := fun h => I.f13 (upd_ne (by decide) h)
  f14 := fun _ _ => ⟨y, hv, hy, hn⟩
  f15 := fun h => no_d ((I.c15 (upd_ne (by decide) h)).2) hd
  c7 := fun h => upd_up (I.c7 (upd_ne (by decide) h))
  c12 := fun h => upd_up (I.c12 (upd_ne (by decide) h))
  c13 := fun h => ⟨upd_up (I.c13 (upd_ne (by decide) h)).1, upd_up (I.c13 (upd_ne (by decide) h)).2⟩
  c15 := fun h => ⟨upd_up (I.c15 (upd_ne (by decide) h)).1, upd_at⟩

theorem OwnN.other {w : World} {B : Nat} {v : Value} {xs : List Int} (h : OwnN w B v xs) {x t : Nat} {c : Array Value} (hx : w.heap[x]? = some (.cells c t (0, 0))) (he : t ≠ 3) : ¬ Own v x := h.row.other hx he
theorem OwI.s15 {W0 w w2 : World} {x y : Nat} {a : Im4} {m : Img} {d : Nat → Bool} {s3 s5 s6 s7 s8 s9 s10 s11 s12 s13 s14 s15 s16 s17 s18 : Value} (I : OwI W0 x a m d w s3 s5 s6 s7 s8 s9 s10 s11 s12 s13 s14 s15 s16 s17 s18) (hd : d 15 = false) (p13 : d 13 = true) (p14 : d 14 = true) (hy : s3 = .pointer (some ⟨y, 0, none⟩)) (hB : W0.heap.size ≤ y) (hv : w.heap[y]? = some (.cells #[.slice none 0 0, .slice none 0 0, .slice none 0 0, .slice none 0 0] 29 (0, 0))) (hk : Keep (fun k => k = y) w w2) (hn : VarM w2 y 29 s8 s12 s13 s17) : OwI W0 x a m (updD d 15) w2 s3 s5 s6 s7 s8 s9 s10 s11 s12 s13 s14 s15 s16 s17 s18 where
  b := I.b.trans (hk.below I.b.size (fun k e => by omega))
  f0 := fun h => I.f0 (upd_ne (by decide) h)
  f1 := fun h => I.f1 (upd_ne (by decide) h)
  f2 := fun h => I.f2 (upd_ne (by decide) h)
  f3 := fun h => (I.f3 (upd_ne (by decide) h)).keep hk (fun g hg e => (I.f3 (upd_ne (by decide) h)).other hv (by decide) (e ▸ hg))
  f4 := fun h => I.f4 (upd_ne (by decide) h)
  f5 := fun h => I.f5 (upd_ne (by decide) h)
  f6 := fun h => I.f6 (upd_ne (by decide) h)
  f7 := fun h => ⟨(I.f7 (upd_ne (by decide) h)).1.keep hk (fun g hg e => (I.f7 (upd_ne (by decide) h)).1.other hv (by decide) (e ▸ hg)), (I.f7 (upd_ne (by decide) h)).2⟩
  f8 := fun h => I.f8 (upd_ne (by decide) h)
  f9 := fun h => I.f9 (upd_ne (by decide) h)
  f10 := fun h => I.f10 (upd_ne (by decide) h)
  f11 := fun h => I.f11 (upd_ne (by decide) h)
  f12 := fun h => ⟨(I.f12 (upd_ne (by decide) h)).1.keep hk (fun g hg e => (I.f12 (upd_ne (by decide) h)).1.other hv (by decide) (e ▸ hg)), (I.f12 (upd_ne (by decide) h)).2⟩
  f13 := fun h => I.f13 (upd_ne (by decide) h)
  f14 := fun h h' => no_d (k := 15) upd_at h'
  f15 := fun h => ⟨y, hy, hB, hn⟩
  c7 := fun h => upd_up (I.c7 (upd_ne (by decide) h))
  c12 := fun h => upd_up (I.c12 (upd_ne (by decide) h))
  c13 := fun h => ⟨upd_up (I.c13 (upd_ne (by decide) h)).1, upd_up (I.c13 (upd_ne (by decide) h)).2⟩
  c15 := fun h => ⟨upd_up p13, upd_up p14⟩

/-- The frame of l10Own while it copies the rows. -/
abbrev ownF (v0 : Value) (x r : Nat) (s3 s5 s6 s7 s8 s9 s10 s11 s12 s13 s14 s15 s16 s17 s18 : Value) : Act := ⟨#[v0, .pointer (some ⟨x, 0, none⟩), .pointer (some ⟨r, 0, none⟩), s3, undef, s5, s6, s7, s8, s9, s10, s11, s12, s13, s14, s15, s16, s17, s18, undef, undef, undef, undef, undef, undef, undef, undef, undef, undef, undef, undef, undef, undef, undef, undef, undef, undef, undef, undef, undef, undef, undef, undef, undef, undef, undef, undef], []⟩
def OwInv (W0 : World) (x r : Nat) (a : Im4) (m : Img) (d : Nat → Bool) (f : Act) (w : World) : Prop := ∃ s3 s5 s6 s7 s8 s9 s10 s11 s12 s13 s14 s15 s16 s17 s18, f = ownF (imV a m) x r s3 s5 s6 s7 s8 s9 s10 s11 s12 s13 s14 s15 s16 s17 s18 ∧ OwI W0 x a m d w s3 s5 s6 s7 s8 s9 s10 s11 s12 s13 s14 s15 s16 s17 s18
theorem OwInv.start (W0 : World) (x r : Nat) (a : Im4) (m : Img) (w : World) (hb : Below W0.heap.size W0 w) : OwInv W0 x r a m (fun _ => false) (ownF (imV a m) x r undef undef undef undef undef undef undef undef undef undef undef undef undef undef undef) w :=
  ⟨undef, undef, undef, undef, undef, undef, undef, undef, undef, undef, undef, undef, undef, undef, undef, rfl, ⟨hb, fun h => (by cases h), fun h => (by cases h), fun h => (by cases h), fun h => (by cases h), fun h => (by cases h), fun h => (by cases h), fun h => (by cases h), fun h => (by cases h), fun h => (by cases h), fun h => (by cases h), fun h => (by cases h), fun h => (by cases h), fun h => (by cases h), fun h => (by cases h), fun h => (by cases h), fun h => (by cases h), fun h => (by cases h), fun h => (by cases h), fun h => (by cases h), fun h => (by cases h)⟩⟩

end Go.Proofs.Ytjoafbkcnnhdiab
