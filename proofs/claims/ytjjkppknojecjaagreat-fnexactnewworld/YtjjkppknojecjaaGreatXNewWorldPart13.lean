import Derived.Test.YtjjkppknojecjaaGreatXNewWorldPart12
import Derived.Test.YtjjkppknojecjaaGreatXNewWorldPart9
import Derived.Test.YtjjkppknojecjaaGreatXNewWorldPart4
import Derived.WalkKit
import Derived.WalkSpells
import Derived.KernelRfl
import Derived.Test.YtjjkppknojecjaaGreatRows
import Derived.Test.YtjjkppknojecjaaGreatXNewWorldPart1
import Derived.Test.YtjjkppknojecjaaGreatXNewWorldPart3
import Derived.Test.YtjjkppknojecjaaGreatXNewWorldPart2
import Derived.Test.YtjjkppknojecjaaGreatXNewWorldPart5
import Derived.BigQuiet
import Derived.Deep.QuietTactic
import Derived.Deep.RegionWith
import Derived.Test.YtjjkppknojecjaaGreatXNewWorldPart10
import Derived.Test.YtjjkppknojecjaaGreatXNewWorldPart6

namespace Go.Proofs.YtjjkppknojecjaaGreat
open Go.RowKit
set_option linter.unusedVariables false
set_option maxRecDepth 100000

structure NwK (Wq : World) (B : Nat) (n : Int) (CF GV : Value) (SS : List ByteArray) (XX : List Wr) (m : Wld) (ts : List Value) (D : Nat → Bool) (w : World) (s12 s13 s14 s15 s16 s17 s18 : Value) : Prop where
  bw : Below Wq.heap.size Wq w
  p0 : D 0 = true → ∃ g k, s12 = .agg #[.slice (some ⟨g, 0, none⟩) 64 64, .slice (some ⟨k, 0, none⟩) 0 0] ∧ OwnD w Wq.heap.size (some ⟨g, 0, none⟩) 64 64 (some ⟨k, 0, none⟩) 0 0 noSs []
  f1 : D 1 = true → s13 = .int .i64 n
  p2 : D 2 = true → ∃ po pa qo qa, s14 = .agg #[.slice po SS.length pa, .slice qo XX.length qa] ∧ OwnD w Wq.heap.size po SS.length pa qo XX.length qa SS XX
  f3 : D 3 = true → s15 = CF
  p4 : D 4 = true → ∃ q, s16 = .slice (some ⟨q, 0, none⟩) 4 4 ∧ OwnR w Wq.heap.size 84 3 (.slice (some ⟨q, 0, none⟩) 4 4) 4 (hssV (List.replicate 4 hst0))
  f5 : D 5 = true → s17 = GV
  p6 : D 6 = true → ∃ a, s18 = wlV a m ∧ OwnWl w B a m ts

theorem NwK.grow {Wq : World} {B : Nat} {n : Int} {CF GV : Value} {SS : List ByteArray} {XX : List Wr} {m : Wld} {ts : List Value} {D : Nat → Bool} {w w2 : World} {s12 s13 s14 s15 s16 s17 s18 : Value} (I : NwK Wq B n CF GV SS XX m ts D w s12 s13 s14 s15 s16 s17 s18) (hb : Below w.heap.size w w2) : NwK Wq B n CF GV SS XX m ts D w2 s12 s13 s14 s15 s16 s17 s18 where
  bw := fr I.bw hb
  p0 := fun h => (I.p0 h).imp fun g h1 => h1.imp fun k h2 => ⟨h2.1, h2.2.below hb⟩
  f1 := I.f1
  p2 := fun h => (I.p2 h).imp fun a h1 => h1.imp fun b h2 => h2.imp fun c h3 => h3.imp fun e h4 => ⟨h4.1, h4.2.below hb⟩
  f3 := I.f3
  p4 := fun h => (I.p4 h).imp fun q h1 => ⟨h1.1, OwnR.below h1.2 hb⟩
  f5 := I.f5
  p6 := fun h => (I.p6 h).imp fun a h1 => ⟨h1.1, h1.2.below hb⟩

theorem NwK.s0 {Wq : World} {B : Nat} {n : Int} {CF GV : Value} {SS : List ByteArray} {XX : List Wr} {m : Wld} {ts : List Value} {D : Nat → Bool} {w : World} {s12 s13 s14 s15 s16 s17 s18 v : Value} (I : NwK Wq B n CF GV SS XX m ts D w s12 s13 s14 s15 s16 s17 s18) (hd : D 0 = false) (hv : ∃ g k, v = .agg #[.slice (some ⟨g, 0, none⟩) 64 64, .slice (some ⟨k, 0, none⟩) 0 0] ∧ OwnD w Wq.heap.size (some ⟨g, 0, none⟩) 64 64 (some ⟨k, 0, none⟩) 0 0 noSs []) : NwK Wq B n CF GV SS XX m ts (updD D 0) w v s13 s14 s15 s16 s17 s18 where
  bw := I.bw
  p0 := fun _ => hv
  f1 := fun h => I.f1 (upd_ne (by decide) h)
  p2 := fun h => I.p2 (upd_ne (by decide) h)
  f3 := fun h => I.f3 (upd_ne (by decide) h)
  p4 := fun h => I.p4 (upd_ne (by decide) h)
  f5 := fun h => I.f5 (upd_ne (by decide) h)
  p6 := fun h => I.p6 (upd_ne (by decide) h)

theorem NwK.s1 {Wq : World} {B : Nat} {n : Int} {CF GV : Value} {SS : List ByteArray} {XX : List Wr} {m : Wld} {ts : List Value} {D : Nat → Bool} {w : World} {s12 s13 s14 s15 s16 s17 s18 v : Value} (I : NwK Wq B n CF GV SS XX m ts D w s12 s13 s14 s15 s16 s17 s18) (hd : D 1 = false) (hv : v = .int .i64 n) : NwK Wq B n CF GV SS XX m ts (updD D 1) w s12 v s14 s15 s16 s17 s18 where
  bw := I.bw
  p0 := fun h => I.p0 (upd_ne (by decide) h)
  f1 := fun _ => hv
  p2 := fun h => I.p2 (upd_ne (by decide) h)
  f3 := fun h => I.f3 (upd_ne (by decide) h)
  p4 := fun h => I.p4 (upd_ne (by decide) h)
  f5 := fun h => I.f5 (upd_ne (by decide) h)
  p6 := fun h => I.p6 (upd_ne (by decide) h)

theorem NwK.s2 {Wq : World} {B : Nat} {n : Int} {CF GV : Value} {SS : List ByteArray} {XX : List Wr} {m : Wld} {ts : List Value} {D : Nat → Bool} {w : World} {s12 s13 s14 s15 s16 s17 s18 v : Value} (I : NwK Wq B n CF GV SS XX m ts D w s12 s13 s14 s15 s16 s17 s18) (hd : D 2 = false) (hv : ∃ po pa qo qa, v = .agg #[.slice po SS.length pa, .slice qo XX.length qa] ∧ OwnD w Wq.heap.size po SS.length pa qo XX.length qa SS XX) : NwK Wq B n CF GV SS XX m ts (updD D 2) w s12 s13 v s15 s16 s17 s18 where
  bw := I.bw
  p0 := fun h => I.p0 (upd_ne (by decide) h)
  f1 := fun h => I.f1 (upd_ne (by decide) h)
  p2 := fun _ => hv
  f3 := fun h => I.f3 (upd_ne (by decide) h)
  p4 := fun h => I.p4 (upd_ne (by decide) h)
  f5 := fun h => I.f5 (upd_ne (by decide) h)
  p6 := fun h => I.p6 (upd_ne (by decide) h)

theorem NwK.s3 {Wq : World} {B : Nat} {n : Int} {CF GV : Value} {SS : List ByteArray} {XX : List Wr} {m : Wld} {ts : List Value} {D : Nat → Bool} {w : World} {s12 s13 s14 s15 s16 s17 s18 v : Value} (I : NwK Wq B n CF GV SS XX m ts D w s12 s13 s14 s15 s16 s17 s18) (hd : D 3 = false) (hv : v = CF) : NwK Wq B n CF GV SS XX m ts (updD D 3) w s12 s13 s14 v s16 s17 s18 where
  bw := I.bw
  p0 := fun h => I.p0 (upd_ne (by decide) h)
  f1 := fun h => I.f1 (upd_ne (by decide) h)
  p2 := fun h => I.p2 (upd_ne (by decide) h)
  f3 := fun _ => hv
  p4 := fun h => I.p4 (upd_ne (by decide) h)
  f5 := fun h => I.f5 (upd_ne (by decide) h)
  p6 := fun h => I.p6 (upd_ne (by decide) h)

theorem NwK.s4 {Wq : World} {B : Nat} {n : Int} {CF GV : Value} {SS : List ByteArray} {XX : List Wr} {m : Wld} {ts : List Value} {D : Nat → Bool} {w : World} {s12 s13 s14 s15 s16 s17 s18 v : Value} (I : NwK Wq B n CF GV SS XX m ts D w s12 s13 s14 s15 s16 s17 s18) (hd : D 4 = false) (hv : ∃ q, v = .slice (some ⟨q, 0, none⟩) 4 4 ∧ OwnR w Wq.heap.size 84 3 (.slice (some ⟨q, 0, none⟩) 4 4) 4 (hssV (List.replicate 4 hst0))) : NwK Wq B n CF GV SS XX m ts (updD D 4) w s12 s13 s14 s15 v s17 s18 where
  bw := I.bw
  p0 := fun h => I.p0 (upd_ne (by decide) h)
  f1 := fun h => I.f1 (upd_ne (by decide) h)
  p2 := fun h => I.p2 (upd_ne (by decide) h)
  f3 := fun h => I.f3 (upd_ne (by decide) h)
  p4 := fun _ => hv
  f5 := fun h => I.f5 (upd_ne (by decide) h)
  p6 := fun h => I.p6 (upd_ne (by decide) h)

theorem NwK.s5 {Wq : World} {B : Nat} {n : Int} {CF GV : Value} {SS : List ByteArray} {XX : List Wr} {m : Wld} {ts : List Value} {D : Nat → Bool} {w : World} {s12 s13 s14 s15 s16 s17 s18 v : Value} (I : NwK Wq B n CF GV SS XX m ts D w s12 s13 s14 s15 s16 s17 s18) (hd : D 5 = false) (hv : v = GV) : NwK Wq B n CF GV SS XX m ts (updD D 5) w s12 s13 s14 s15 s16 v s18 where
  bw := I.bw
  p0 := fun h => I.p0 (upd_ne (by decide) h)
  f1 := fun h => I.f1 (upd_ne (by decide) h)
  p2 := fun h => I.p2 (upd_ne (by decide) h)
  f3 := fun h => I.f3 (upd_ne (by decide) h)
  p4 := fun h => I.p4 (upd_ne (by decide) h)
  f5 := fun _ => hv
  p6 := fun h => I.p6 (upd_ne (by decide) h)

theorem NwK.s6 {Wq : World} {B : Nat} {n : Int} {CF GV : Value} {SS : List ByteArray} {XX : List Wr} {m : Wld} {ts : List Value} {D : Nat → Bool} {w : World} {s12 s13 s14 s15 s16 s17 s18 v : Value} (I : NwK Wq B n CF GV SS XX m ts D w s12 s13 s14 s15 s16 s17 s18) (hd : D 6 = false) (hv : ∃ a, v = wlV a m ∧ OwnWl w B a m ts) : NwK Wq B n CF GV SS XX m ts (updD D 6) w s12 s13 s14 s15 s16 s17 v where
  bw := I.bw
  p0 := fun h => I.p0 (upd_ne (by decide) h)
  f1 := fun h => I.f1 (upd_ne (by decide) h)
  p2 := fun h => I.p2 (upd_ne (by decide) h)
  f3 := fun h => I.f3 (upd_ne (by decide) h)
  p4 := fun h => I.p4 (upd_ne (by decide) h)
  f5 := fun h => I.f5 (upd_ne (by decide) h)
  p6 := fun _ => hv

theorem updD7 {D : Nat → Bool} {i : Nat} (h : i ≠ 7) : updD D i 7 = D 7 := by
  unfold updD
  rw [decide_eq_false (Ne.symm h)]
  simp
abbrev nwFr (t0 t1 t2 t3 t4 t5 t6 t7 t8 t9 t10 t11 s12 s13 s14 s15 s16 s17 s18 : Value) : Act := ⟨#[t0, t1, t2, t3, t4, t5, t6, t7, t8, t9, t10, t11, s12, s13, s14, s15, s16, s17, s18], []⟩
theorem nwFr_region {P : Program} {id : Nat} {Q : Exit → Act → World → Prop} {l : List Oper} {t0 t1 t2 t3 t4 t5 t6 t7 t8 t9 t10 t11 s12 s13 s14 s15 s16 s17 s18 : Value} {W : World} (J : (Nat → Bool) → World → Value → Value → Value → Value → Value → Value → Value → Prop) (hm : P.follows .mixedOrders = true) (hl : linB l = true)
    (hg : ∀ (i : Nat) (o : Oper), l[i]? = some o → o.guard = none) (h0 : J (fun _ => false) { W with drawn := W.drawn + 1 } s12 s13 s14 s15 s16 s17 s18)
    (hs : ∀ (d : Nat → Bool) (w : World) (i : Nat) (o : Oper) (r12 r13 r14 r15 r16 r17 r18 : Value), Closed l d → J d w r12 r13 r14 r15 r16 r17 r18 → l[i]? = some o → d i = false → (∀ e ∈ o.after, Region.binds .any e = true → d e.on = true) → ∀ K : Act → World → Prop, (∀ (w' : World) (q12 q13 q14 q15 q16 q17 q18 : Value), J (updD d i) w' q12 q13 q14 q15 q16 q17 q18 → K (nwFr t0 t1 t2 t3 t4 t5 t6 t7 t8 t9 t10 t11 q12 q13 q14 q15 q16 q17 q18) w') → o.wp P (nwFr t0 t1 t2 t3 t4 t5 t6 t7 t8 t9 t10 t11 r12 r13 r14 r15 r16 r17 r18) w K Q)
    (he : ∀ (d : Nat → Bool) (w : World) (r12 r13 r14 r15 r16 r17 r18 : Value), J d w r12 r13 r14 r15 r16 r17 r18 → (∀ i, i < l.length → d i = true) → Q .normal (nwFr t0 t1 t2 t3 t4 t5 t6 t7 t8 t9 t10 t11 r12 r13 r14 r15 r16 r17 r18) w) : (Code.region id l.toArray true).wp P Q (nwFr t0 t1 t2 t3 t4 t5 t6 t7 t8 t9 t10 t11 s12 s13 s14 s15 s16 s17 s18) W := by
  refine wp_region_inv2 (fun d f w => ∃ r12 r13 r14 r15 r16 r17 r18, f = nwFr t0 t1 t2 t3 t4 t5 t6 t7 t8 t9 t10 t11 r12 r13 r14 r15 r16 r17 r18 ∧ J d w r12 r13 r14 r15 r16 r17 r18) hm hl hg ⟨s12, s13, s14, s15, s16, s17, s18, rfl, h0⟩ ?_ ?_
  · intro d f w i o hc hI ho hd hp K hK
    obtain ⟨r12, r13, r14, r15, r16, r17, r18, rfl, hJ⟩ := hI
    exact hs d w i o r12 r13 r14 r15 r16 r17 r18 hc hJ ho hd hp K (fun w' q12 q13 q14 q15 q16 q17 q18 hJ' => hK _ _ ⟨q12, q13, q14, q15, q16, q17, q18, rfl, hJ'⟩)
  · intro d f w hI hall
    obtain ⟨r12, r13, r14, r15, r16, r17, r18, rfl, hJ⟩ := hI
    exact he d w r12 r13 r14 r15 r16 r17 r18 hJ hall

def NwJ (Wq : World) (B x : Nat) (n : Int) (CF GV : Value) (SS : List ByteArray) (XX : List Wr) (m : Wld) (ts : List Value) (D : Nat → Bool) (w : World) (s12 s13 s14 s15 s16 s17 s18 : Value) : Prop :=
  (D 7 = false → NwK Wq B n CF GV SS XX m ts D w s12 s13 s14 s15 s16 s17 s18) ∧ (D 7 = true → ∃ W5 a, w = put15 W5 x a m ∧ Below Wq.heap.size Wq W5 ∧ VarW W5 x 37 wa0 wl0 ∧ OwnWl W5 B a m ts)
theorem NwJ.of {Wq : World} {B : Nat} {n : Int} {CF GV : Value} {SS : List ByteArray} {XX : List Wr} {m : Wld} {ts : List Value} {D : Nat → Bool} {x i : Nat} {w : World} {s12 s13 s14 s15 s16 s17 s18 : Value} (h7 : D 7 = false) (hi : i ≠ 7) (h : NwK Wq B n CF GV SS XX m ts (updD D i) w s12 s13 s14 s15 s16 s17 s18) : NwJ Wq B x n CF GV SS XX m ts (updD D i) w s12 s13 s14 s15 s16 s17 s18 :=
  ⟨fun _ => h, fun h2 => by rw [updD7 hi, h7] at h2; cases h2⟩
theorem res_w1 {fn : Func} {p : Tmp} {x : Nat} {W : World} {tmps : Array Value} {a : Wl4} {m : Wld} (h : fn.results = #[.cell p 37]) (hp : tmps.getD p undef = .pointer (some ⟨x, 0, none⟩)) (hv : VarW W x 37 a m) :
    (results fn tmps).run Tryz.prog W = .ok (wlV a m) W := by
  obtain ⟨c0, c1, c2, c3, c4, c5, c6, c7, c8, c9, c10, c11, c12, c13, c14⟩ := hv.cells
  rw [Array.getD_eq_getD_getElem?] at hp
  simp [results, h, hp, go_sem, c0, c1, c2, c3, c4, c5, c6, c7, c8, c9, c10, c11, c12, c13, c14]

theorem nw_hyp {n : Nat} (hn : n ≤ 12) : diskB noSs ([] ++ fmW 0 (allU (imNew n))) = true ∧ putW noSs (ofH 0 ([] ++ fmW 0 (allU (imNew n)))) = foS noSs [] 0 n ∧ dropF 0 ([] ++ fmW 0 (allU (imNew n))) = foX noSs [] 0 n := by
  have hd : diskB noSs [] = true := diskB_parts.2 ⟨⟨noSs_len, fun s hs => nwS_mem hs⟩, by simp, fun x hx => by cases hx⟩
  have ho := fo_ok (n := n) (hostC_ok hd (h := 0) (by simp [inB])) (by simp [inB]; omega) (by simp)
  exact ⟨fuW_right hd (by omega) hn (by simp), ho.1.symm, ho.2.1.symm⟩

theorem formatM (n : Nat) (hn : n ≤ 12) (W : World) (g k B : Nat) (ho : OwnD W B (some ⟨g, 0, none⟩) 64 64 (some ⟨k, 0, none⟩) 0 0 noSs []) :
    Calls Tryz.prog 35 #[.agg #[.slice (some ⟨g, 0, none⟩) 64 64, .slice (some ⟨k, 0, none⟩) 0 0], .int .i64 0, .int .i64 n] W fun e w' => ∃ po pa qo qa, e = .returned (.agg #[.slice po (foS noSs [] 0 n).length pa, .slice qo (foX noSs [] 0 n).length qa]) ∧ OwnD w' W.heap.size po (foS noSs [] 0 n).length pa qo (foX noSs [] 0 n).length qa (foS noSs [] 0 n) (foX noSs [] 0 n) ∧ Below W.heap.size W w' := by
  obtain ⟨h1, h2, h3⟩ := nw_hyp hn
  have hl : (foS noSs [] 0 n).length = 64 := by rw [← h2, put_len, noSs_len]
  have := l11Format_any (some ⟨g, 0, none⟩) (some ⟨k, 0, none⟩) 64 0 noSs [] 0 n _ _ W (by omega) (ImR.new hn) h1 h2 h3 (ho.ss (fun s hs => by have := nwS_mem hs; unfold maxLen; omega)) (ho.ios (fun x hx => by cases hx))
  rw [noSs_len] at this
  rw [hl]
  exact this

set_option maxHeartbeats 12800000 in
theorem l15New_any (f d l r : Int) (n : Nat) (w : World) (hn : n ≤ 12) :
    Calls Tryz.prog 15 #[cfgV f d l r, .int .i64 n] w fun e w' => ∃ a ts, e = .returned (wlV a (nwW f d l r n)) ∧ OwnWl w' w.heap.size a (nwW f d l r n) ts ∧ Below w.heap.size w w' := by
  have HB0 : Hid (Below w.heap.size w ((w.alloc (.cells #[.int .i64 f, .int .i64 d, .int .i64 l, .int .i64 r] 28)).alloc (.cells #[.slice none 0 0, .slice none 0 0, .int .i64 0, .int .i64 0, .int .i64 0, .int .i64 0, .slice none 0 0, .int .i64 0, .slice none 0 0, .slice none 0 0, .int .i64 0, .int .i64 0, .int .i64 0, .string ⟨#[]⟩, .bool false] 37))) := hide (Joins.below_alloc2 w _ _)
  have HC0 : Hid (VarCg ((w.alloc (.cells #[.int .i64 f, .int .i64 d, .int .i64 l, .int .i64 r] 28)).alloc (.cells #[.slice none 0 0, .slice none 0 0, .int .i64 0, .int .i64 0, .int .i64 0, .int .i64 0, .slice none 0 0, .int .i64 0, .slice none 0 0, .slice none 0 0, .int .i64 0, .int .i64 0, .int .i64 0, .string ⟨#[]⟩, .bool false] 37)) w.heap.size 28 f d l r) := hide ((VarCg.new w 28 f d l r).below (Joins.below_alloc1 _ _))
  have HV0 : Hid (VarW ((w.alloc (.cells #[.int .i64 f, .int .i64 d, .int .i64 l, .int .i64 r] 28)).alloc (.cells #[.slice none 0 0, .slice none 0 0, .int .i64 0, .int .i64 0, .int .i64 0, .int .i64 0, .slice none 0 0, .int .i64 0, .slice none 0 0, .slice none 0 0, .int .i64 0, .int .i64 0, .int .i64 0, .string ⟨#[]⟩, .bool false] 37)) (w.heap.size + 1) 37 wa0 wl0) := hide ((VarW.new (w.alloc (.cells #[.int .i64 f, .int .i64 d, .int .i64 l, .int .i64 r] 28)) 37 wa0 wl0).at (show _ = w.heap.size + 1 by simp))
  have HFM := hide (formatM n hn)
  obtain ⟨M, hM⟩ : ∃ M, M = nwW f d l r n := ⟨_, rfl⟩
  have HM1 : Hid (M = ⟨foS noSs [] 0 n, foX noSs [] 0 n, f, d, l, r, List.replicate 4 hst0, 0, (ngA n).1, rq0, true⟩) := hide hM
  rw [← hM]
  have HGB := hide (show (ngA n).2 = 0 by rw [ngA, show betw (n : Int) 0 12 = true from betw_yes (by omega) (by omega)]; rfl)
  clear hM hn
  go_enter Tryz.func15, Tryz.ntmps15
  go_upto_region 1 with fail
  revert HB0 HC0 HV0
  generalize ((w.alloc _).alloc _) = W0
  intro HB0 HC0 HV0
  revert HFM HM1 HGB
  generalize foS noSs [] 0 n = SS
  generalize foX noSs [] 0 n = XX
  have HNG := hide (newGuest_spec n W0)
  revert HNG
  generalize ngA n = NG
  obtain ⟨G, C⟩ := NG
  intro HNG HFM HM1 HGB
  obtain rfl : C = 0 := unhide HGB
  go_wp2_with fail
  refine (unhide HNG).mono ?_
  rintro e w2 ⟨g2, ts2, rfl, ho2, hb⟩
  simp only at ho2 ⊢
  have HBG := hide (Joins.below_alloc1 w2 (.cells #[.slice g2.vo G.vals.length g2.vc, .slice g2.so G.shots.length g2.sc] 33))
  have HN2 := hide (LwG.new w2 g2 G ho2 hb.size)
  have HB2 := hide (fr (fr (unhide HB0) hb) (unhide HBG))
  have HC2 := hide (((unhide HC0).below hb).below (unhide HBG))
  have HV2 := hide (((unhide HV0).below hb).below (unhide HBG))
  have HL1 := hide (unhide HV0).lt
  clear hb ho2 HB0 HC0 HV0 HBG HNG HGB
  go_upto_region 2 with fail
  revert HN2 HB2 HC2 HV2
  generalize (w2.alloc _) = W2
  generalize w2.heap.size = pg
  intro HN2 HB2 HC2 HV2
  have HLW := hide (unhide HV2).lt
  obtain ⟨j0, hj, hy0, hy1, hy2⟩ := info_parts infoHs
  refine nwFr_region (fun D wz r12 r13 r14 r15 r16 r17 r18 => NwJ W2 (w.heap.size + 2) (w.heap.size + 1) n (cfgV f d l r) (gsV g2 G) SS XX M ts2 D wz r12 r13 r14 r15 r16 r17 r18) (by kernel_rfl) (by kernel_rfl) (noG_spec (by kernel_rfl)) ?h0 ?hs ?he
  case h0 => exact ⟨fun _ => ⟨(Below.refl _ W2).drew, fun h => (by cases h), fun h => (by cases h), fun h => (by cases h), fun h => (by cases h), fun h => (by cases h), fun h => (by cases h), fun h => (by cases h)⟩, fun h => (by cases h)⟩
  case hs =>
    intro D wz i o r12 r13 r14 r15 r16 r17 r18 hc J ho hd hp K hK
    have hi : i < 8 := (List.getElem?_eq_some_iff.1 ho).1
    rcases (show i = 0 ∨ i = 1 ∨ i = 2 ∨ i = 3 ∨ i = 4 ∨ i = 5 ∨ i = 6 ∨ i = 7 by omega) with rfl | rfl | rfl | rfl | rfl | rfl | rfl | rfl
    · have h7 := not_yet hc 9 (j := 7) (i := 0) (by kernel_rfl) hd
      have I := J.1 h7
      cases ho
      unfold Oper.wp
      go_simp
      refine (l01New_any _).mono ?_
      rintro e w3 ⟨g, k, rfl, ho1, hb1⟩
      exact hK _ _ _ _ _ _ _ _ (NwJ.of h7 (by decide) ((I.grow hb1).s0 hd ⟨g, k, rfl, ho1.base I.bw.size⟩))
    · have h7 := not_yet hc 9 (j := 7) (i := 1) (by kernel_rfl) hd
      have I := J.1 h7
      cases ho
      unfold Oper.wp
      go_simp
      exact hK _ _ _ _ _ _ _ _ (NwJ.of h7 (by decide) (I.s1 hd rfl))
    · have h7 := not_yet hc 9 (j := 7) (i := 2) (by kernel_rfl) hd
      have I := J.1 h7
      cases ho
      obtain ⟨g, k, e0, ho0⟩ := I.p0 (hp ⟨0, .data⟩ (by simp) rfl)
      have e1 := I.f1 (hp ⟨1, .data⟩ (by simp) rfl)
      subst e0 e1
      unfold Oper.wp
      go_simp
      refine (unhide HFM _ g k _ ho0).mono ?_
      rintro e w3 ⟨po, pa, qo, qa, rfl, ho1, hb1⟩
      exact hK _ _ _ _ _ _ _ _ (NwJ.of h7 (by decide) ((I.grow hb1).s2 hd ⟨po, pa, qo, qa, rfl, ho1.base I.bw.size⟩))
    · have h7 := not_yet hc 9 (j := 7) (i := 3) (by kernel_rfl) hd
      have I := J.1 h7
      obtain ⟨k0, k1, k2, k3⟩ := ((unhide HC2).below I.bw).cells
      cases ho
      unfold Oper.wp
      go_simp
      exact hK _ _ _ _ _ _ _ _ (NwJ.of h7 (by decide) (I.s3 hd rfl))
    · have h7 := not_yet hc 9 (j := 7) (i := 4) (by kernel_rfl) hd
      have I := J.1 h7
      cases ho
      refine oper_make wz _ _ 29 rfl wz.heap.size 84 j0 _ 3 Tryz.underlying29 hj hy0 hy1 .i64 .i64 4 4 4 rfl rfl rfl rfl (by rw [hy2]; omega) (by unfold maxLen; omega) (Nat.le_refl _) ?_
      intro w5 hown hgrow
      have hb : Below wz.heap.size wz w5 := (Below.refl _ _).grown hgrow (Nat.le_refl _) (fun _ h => by cases h)
      exact hK _ _ _ _ _ _ _ _ (NwJ.of h7 (by decide) ((I.grow hb).s4 hd ⟨_, rfl, OwnR.base (OwnR.of (by rw [← madeHs]; exact hown) (fun e => by cases e)) I.bw.size⟩))
    · have h7 := not_yet hc 9 (j := 7) (i := 5) (by kernel_rfl) hd
      have I := J.1 h7
      obtain ⟨k0, k1⟩ := ((unhide HN2).v.below I.bw).cells
      cases ho
      unfold Oper.wp
      go_simp
      exact hK _ _ _ _ _ _ _ _ (NwJ.of h7 (by decide) (I.s5 hd rfl))
    · have h7 := not_yet hc 9 (j := 7) (i := 6) (by kernel_rfl) hd
      have I := J.1 h7
      cases ho
      obtain ⟨po, pa, qo, qa, e2, ho2⟩ := I.p2 (hp ⟨2, .data⟩ (by simp) rfl)
      have e3 := I.f3 (hp ⟨3, .data⟩ (by simp) rfl)
      obtain ⟨q, e4, ho4⟩ := I.p4 (hp ⟨4, .data⟩ (by simp) rfl)
      have e5 := I.f5 (hp ⟨5, .data⟩ (by simp) rfl)
      subst e2 e3 e4 e5
      unfold Oper.wp
      go_simp
      refine hK _ _ _ _ _ _ _ _ (NwJ.of h7 (by decide) (I.s6 hd ⟨⟨po, pa, qo, qa, some ⟨q, 0, none⟩, 4, g2⟩, ?_, ?_⟩))
      · rw [unhide HM1]; rfl
      · rw [unhide HM1]
        exact ⟨ho2.base (show w.heap.size + 2 ≤ _ from unhide HLW), OwnR.base ho4 (show w.heap.size + 2 ≤ _ from unhide HLW), ((unhide HN2).o.below I.bw).base (unhide HL1)⟩
    · have I := J.1 hd
      cases ho
      obtain ⟨a6, e6, ho6⟩ := I.p6 (hp ⟨6, .data⟩ (by simp) rfl)
      subst e6
      have hv := (unhide HV2).below I.bw
      refine oper_storeW (b := a6) (n := M) rfl rfl hv (by go_simp) (by go_simp) ?_
      exact hK _ _ _ _ _ _ _ _ ⟨fun h => (by rw [show updD D 7 7 = true by simp [updD]] at h; cases h), fun _ => ⟨wz, a6, rfl, I.bw, hv, ho6⟩⟩
  case he =>
    intro D w7 r12 r13 r14 r15 r16 r17 r18 J hall
    obtain ⟨W5, a5, rfl, hb5, hv5, ho5⟩ := J.2 (hall 7 (by decide))
    have HP := hide (hv5.put a5 M)
    have HQ := hide (below_put (fr (unhide HB2) hb5) (show w.heap.size ≤ w.heap.size + 1 by omega) a5 M)
    have HO := hide ((ho5.put (show w.heap.size + 1 < w.heap.size + 2 by omega) a5 M).base (show w.heap.size ≤ w.heap.size + 2 by omega))
    clear J hb5 hv5 ho5 hall
    revert HP HQ HO
    generalize put15 W5 (w.heap.size + 1) a5 M = W7
    intro HP HQ HO
    go_wp2
    exact bodyPost_ret (res_w1 Tryz.results15 rfl (unhide HP)) rfl ⟨a5, ts2, rfl, unhide HO, unhide HQ⟩

set_option maxHeartbeats 12800000 in
theorem newWorld_spec (f d l r n : Int) (w : World) :
    Calls Tryz.prog 5 #[cfgV f d l r, .int .i64 n] w fun e w' => AnsW w w' e (nwA f d l r n) := by
  have HB0 : Hid (Below w.heap.size w ((w.alloc (.cells #[.int .i64 f, .int .i64 d, .int .i64 l, .int .i64 r] 28)).alloc (.cells #[.slice none 0 0, .slice none 0 0, .int .i64 0, .int .i64 0, .int .i64 0, .int .i64 0, .slice none 0 0, .int .i64 0, .slice none 0 0, .slice none 0 0, .int .i64 0, .int .i64 0, .int .i64 0, .string ⟨#[]⟩, .bool false] 37))) := hide (Joins.below_alloc2 w _ _)
  have HC0 : Hid (VarCg ((w.alloc (.cells #[.int .i64 f, .int .i64 d, .int .i64 l, .int .i64 r] 28)).alloc (.cells #[.slice none 0 0, .slice none 0 0, .int .i64 0, .int .i64 0, .int .i64 0, .int .i64 0, .slice none 0 0, .int .i64 0, .slice none 0 0, .slice none 0 0, .int .i64 0, .int .i64 0, .int .i64 0, .string ⟨#[]⟩, .bool false] 37)) w.heap.size 28 f d l r) := hide ((VarCg.new w 28 f d l r).below (Joins.below_alloc1 _ _))
  have HV0 : Hid (VarW ((w.alloc (.cells #[.int .i64 f, .int .i64 d, .int .i64 l, .int .i64 r] 28)).alloc (.cells #[.slice none 0 0, .slice none 0 0, .int .i64 0, .int .i64 0, .int .i64 0, .int .i64 0, .slice none 0 0, .int .i64 0, .slice none 0 0, .slice none 0 0, .int .i64 0, .int .i64 0, .int .i64 0, .string ⟨#[]⟩, .bool false] 37)) (w.heap.size + 1) 37 wa0 wl0) := hide ((VarW.new (w.alloc (.cells #[.int .i64 f, .int .i64 d, .int .i64 l, .int .i64 r] 28)) 37 wa0 wl0).at (show _ = w.heap.size + 1 by simp))
  obtain ⟨R, HR⟩ : ∃ R, Hid (R = nwA f d l r n) := ⟨_, hide rfl⟩
  rw [← unhide HR]
  go_enter Tryz.func5, Tryz.ntmps5
  go_upto_region 1 with fail
  revert HB0 HC0 HV0
  generalize ((w.alloc _).alloc _) = W0
  intro HB0 HC0 HV0
  obtain ⟨k0, k1, k2, k3⟩ := (unhide HC0).cells
  go_wp2_with fail
  refine (configOK_spec f d l r _).mono ?_
  rintro e w1 ⟨rfl, hb⟩
  have HB1 := hide (fr (unhide HB0) hb)
  have HC1 := hide ((unhide HC0).below hb)
  have HV1 := hide ((unhide HV0).below hb)
  clear hb HB0 HC0 HV0 k0 k1 k2 k3
  cases hk : cokB f d l r
  · have HF : Hid (R = (wl0, 1)) := hide ((unhide HR).trans (if_neg (by rw [hk]; decide)))
    clear hk
    obtain ⟨c0, c1, c2, c3, c4, c5, c6, c7, c8, c9, c10, c11, c12, c13, c14⟩ := (unhide HV1).cells
    have f0 := (unhide HV1).free 0
    have f1 := (unhide HV1).free 1
    have f2 := (unhide HV1).free 2
    have f3 := (unhide HV1).free 3
    have f4 := (unhide HV1).free 4
    have f5 := (unhide HV1).free 5
    have f6 := (unhide HV1).free 6
    have f7 := (unhide HV1).free 7
    have f8 := (unhide HV1).free 8
    have f9 := (unhide HV1).free 9
    have f10 := (unhide HV1).free 10
    have f11 := (unhide HV1).free 11
    have f12 := (unhide HV1).free 12
    have f13 := (unhide HV1).free 13
    have f14 := (unhide HV1).free 14
    have HP := hide ((unhide HV1).put wa0 wl0)
    have HQ := hide (below_put (unhide HB1) (show w.heap.size ≤ w.heap.size + 1 by omega) wa0 wl0)
    go_wp2
    refine bodyPost_ret (res_wi (a := wa0) (m := wl0) Tryz.results5 rfl rfl (unhide HP)) rfl ?_
    exact AnsW.bad (unhide HF) (unhide HQ)
  have HR1 : Hid (R = if betw n 0 12 = true then (nwW f d l r n, 0) else (wl0, 4)) := hide ((unhide HR).trans (if_pos hk))
  clear hk HR
  go_wp2_with fail
  refine (in_any n 0 12 _).mono ?_
  rintro e w2 ⟨rfl, hw⟩
  replace hw := hw.symm
  subst hw
  cases hn : betw n 0 12
  · have HF : Hid (R = (wl0, 4)) := hide ((unhide HR1).trans (if_neg (by rw [hn]; decide)))
    clear hn
    obtain ⟨c0, c1, c2, c3, c4, c5, c6, c7, c8, c9, c10, c11, c12, c13, c14⟩ := (unhide HV1).cells
    have f0 := (unhide HV1).free 0
    have f1 := (unhide HV1).free 1
    have f2 := (unhide HV1).free 2
    have f3 := (unhide HV1).free 3
    have f4 := (unhide HV1).free 4
    have f5 := (unhide HV1).free 5
    have f6 := (unhide HV1).free 6
    have f7 := (unhide HV1).free 7
    have f8 := (unhide HV1).free 8
    have f9 := (unhide HV1).free 9
    have f10 := (unhide HV1).free 10
    have f11 := (unhide HV1).free 11
    have f12 := (unhide HV1).free 12
    have f13 := (unhide HV1).free 13
    have f14 := (unhide HV1).free 14
    have HP := hide ((unhide HV1).put wa0 wl0)
    have HQ := hide (below_put (unhide HB1) (show w.heap.size ≤ w.heap.size + 1 by omega) wa0 wl0)
    go_wp2
    refine bodyPost_ret (res_wi (a := wa0) (m := wl0) Tryz.results5 rfl rfl (unhide HP)) rfl ?_
    exact AnsW.bad (unhide HF) (unhide HQ)
  have HF : Hid (R = (nwW f d l r n, 0)) := hide ((unhide HR1).trans (if_pos hn))
  obtain ⟨l0, l1⟩ := betw_iff.1 hn
  obtain ⟨q, rfl⟩ := Int.eq_ofNat_of_zero_le l0
  have HN := hide (show q ≤ 12 by omega)
  clear hn l0 l1 HR1
  obtain ⟨k0, k1, k2, k3⟩ := (unhide HC1).cells
  go_wp2_with fail
  refine (l15New_any f d l r q _ (unhide HN)).mono ?_
  rintro e w3 ⟨a3, ts3, rfl, ho3, hb⟩
  revert HF ho3
  generalize nwW f d l r q = M
  intro HF ho3
  have HB3 := hide (fr (unhide HB1) hb)
  have HV3 := hide ((unhide HV1).below hb)
  have HO3 := hide (ho3.base (show w.heap.size + 2 ≤ _ from (unhide HV1).lt))
  have HL := hide (unhide HV1).lt
  clear hb ho3 HB1 HC1 HV1 k0 k1 k2 k3
  obtain ⟨c0, c1, c2, c3, c4, c5, c6, c7, c8, c9, c10, c11, c12, c13, c14⟩ := (unhide HV3).cells
  have f0 := (unhide HV3).free 0
  have f1 := (unhide HV3).free 1
  have f2 := (unhide HV3).free 2
  have f3 := (unhide HV3).free 3
  have f4 := (unhide HV3).free 4
  have f5 := (unhide HV3).free 5
  have f6 := (unhide HV3).free 6
  have f7 := (unhide HV3).free 7
  have f8 := (unhide HV3).free 8
  have f9 := (unhide HV3).free 9
  have f10 := (unhide HV3).free 10
  have f11 := (unhide HV3).free 11
  have f12 := (unhide HV3).free 12
  have f13 := (unhide HV3).free 13
  have f14 := (unhide HV3).free 14
  have HP := hide ((unhide HV3).put a3 M)
  have HQ := hide (below_put (unhide HB3) (show w.heap.size ≤ w.heap.size + 1 by omega) a3 M)
  have HO := hide (((unhide HO3).put (show w.heap.size + 1 < w.heap.size + 2 by omega) a3 M).base (show w.heap.size ≤ w.heap.size + 2 by omega))
  go_wp2
  refine bodyPost_ret (res_wi (a := a3) (m := M) Tryz.results5 rfl rfl (unhide HP)) rfl ?_
  exact ⟨a3, ts3, by rw [unhide HF], by rw [unhide HF]; exact unhide HO, unhide HQ⟩

end Go.Proofs.YtjjkppknojecjaaGreat

namespace Go.Proofs.YtjjkppknojecjaaGreat
open Go.RowKit
set_option linter.unusedVariables false
set_option maxRecDepth 100000

theorem nw_right {n : Nat} (hn : n ≤ 12) : diskB (foS noSs [] 0 n) (foX noSs [] 0 n) = true := by
  obtain ⟨h1, h2, h3⟩ := nw_hyp hn
  rw [← h2, ← h3]
  exact diskB_put h1 (fun x hx => of_mem hx) (fun x hx => drop_mem hx) (drop_le 0 _)
theorem nwA_ok (f d l r n : Int) : WlBd (nwA f d l r n).1 ∧ WlZ (nwA f d l r n).1 := by
  have h0 : WlBd wl0 ∧ WlZ wl0 := ⟨⟨by simp [wl0], by simp [wl0], by simp [wl0], GsBd.zero, by decide⟩, ⟨fun s hs => by simp [wl0] at hs, fun x hx => by simp [wl0] at hx, fun s hs => by simp [wl0, gs0] at hs⟩⟩
  unfold nwA
  split
  · split
    · rename_i hn
      obtain ⟨l0, l1⟩ := betw_iff.1 hn
      obtain ⟨q, rfl⟩ := Int.eq_ofNat_of_zero_le l0
      have hd := nw_right (n := q) (by omega)
      have hl := diskB_len hd
      have hz := right_sz2 hd
      have hg := ngA_bd (q : Int)
      exact ⟨⟨by show (foS noSs [] 0 q).length ≤ _; omega, by show (foX noSs [] 0 q).length ≤ _; omega, by show (List.replicate 4 hst0).length ≤ _; simp, hg, by show noB.size ≤ _; decide⟩, ⟨hz.1, hz.2, hg.zs⟩⟩
    · exact h0
  · exact h0
end Go.Proofs.YtjjkppknojecjaaGreat

namespace Go.Proofs.YtjjkppknojecjaaGreat
open Go.RowKit
set_option linter.unusedVariables false
set_option maxRecDepth 100000

def mkWl (k : Nat) (m : Wld) : Wld := { m with ss := mkS k m.ss.length, xs := mkI (k + m.ss.length) m.xs.length, hs := mkHs (k + m.ss.length + 3 * m.xs.length) m.hs.length, g := mkGs (k + m.ss.length + 3 * m.xs.length + m.hs.length * 3) m.g }
def wlK (m : Wld) : Nat := m.ss.length + 3 * m.xs.length + m.hs.length * 3 + gsK m.g

set_option maxHeartbeats 6400000 in
theorem markWorld_any (a : Wl4) (m : Wld) (ts : List Value) (k B : Nat) (w : World) (hL : WlBd m) (hk0 : 0 < k) (hk1 : k ≤ 4194304) (ho : OwnWl w B a m ts) :
    Calls Tryz.prog 9 #[wlV a m, .int .i64 k] w fun e w' => e = .returned (.int .i64 ((k + wlK m : Nat) : Int)) ∧ OwnWl w' B a (mkWl k m) ts ∧ Keep (WlB a m ts) w w' := by
  have HA := hide (Joins.below_alloc1 w (.cells (wlC a m) 37))
  have HV := hide (VarW.new w 37 a m)
  have HO := hide (ho.below (unhide HA))
  have HL := hide hL
  have HK0 : Hid (Keep (WlB a m ts) w (w.alloc (.cells (wlC a m) 37))) := hide (Keep.of_below (unhide HA))
  clear ho hL
  go_enter Tryz.func9, Tryz.ntmps9
  go_upto_region 1 with fail
  revert HA HV HO HK0
  generalize (w.alloc _) = W0
  intro HA HV HO HK0
  obtain ⟨c0, c1, _, _, _, _, _, _, _, _, _, _, _, _, _⟩ := (unhide HV).cells
  go_wp2_with fail
  refine (markDisk_any a.ao a.bo m.ss.length a.ca m.xs.length a.cb k m.ss m.xs B _ (by have := (unhide HL).s; omega) (by have := (unhide HL).i; omega) hk0 (by omega) (unhide HO).d).mono ?_
  rintro e w1 ⟨rfl, ho1, hk⟩
  have HV1 := hide ((unhide HV).keep hk (fun h => (unhide HO).otherV (unhide HV) (by decide) (by decide) (by decide) (by decide) (by decide) (.inl h)))
  have HH1 := hide (OwnR.keep (unhide HO).h hk (unhide HO).dh)
  have HG1 := hide ((unhide HO).g.keep hk (unhide HO).dg)
  have HD1 := hide ho1
  have HK1 := hide ((unhide HK0).trans (hk.mono (T := WlB a m ts) (fun j h => .inl h)))
  clear ho1 hk HV HK0 HA c0 c1
  obtain ⟨_, _, _, _, _, _, c6, _, _, _, _, _, _, _, _⟩ := (unhide HV1).cells
  obtain ⟨k1, hk1', hk10, hk11⟩ : ∃ k1 : Nat, k1 = k + m.ss.length + 3 * m.xs.length ∧ 0 < k1 ∧ k1 ≤ 8388608 := ⟨_, rfl, by omega, by have := (unhide HL).s; have := (unhide HL).i; omega⟩
  rw [← hk1']
  have HQ1 := hide hk1'
  clear hk1'
  go_wp2_with fail
  refine (markHostS_any (.slice a.ho m.hs.length a.hc) m.hs.length k1 _ B _ (by have := (unhide HL).h; omega) hk10 (by omega) (unhide HH1)).mono ?_
  rintro e w2 ⟨rfl, ho2, hk⟩
  have HV2 := hide ((unhide HV1).keep hk (fun h => OwnR.other (unhide HH1) (unhide HV1) (by decide) h))
  have HD2 := hide ((unhide HD1).keep hk (fun x hx hh => by
    obtain ⟨c, t, f, e, ht⟩ := (unhide HD1).type hx
    exact OwnR.other (unhide HH1) e (by rcases ht with rfl | rfl <;> decide) hh))
  have HG2 := hide ((unhide HG1).keep hk (fun x hx hh => by
    obtain ⟨c, f, e⟩ := OwnR.type (unhide HH1) hh
    exact (unhide HG1).otherV e (by decide) (by decide) hx))
  have HH2 := hide ho2
  have HK2 := hide ((unhide HK1).trans (hk.mono (T := WlB a m ts) (fun j h => .inr (.inl h))))
  clear ho2 hk HV1 HD1 HG1 HH1 HK1 c6
  obtain ⟨_, _, _, _, _, _, _, _, c8, c9, _, _, _, _, _⟩ := (unhide HV2).cells
  obtain ⟨k2, hk2', hk20, hk21⟩ : ∃ k2 : Nat, k2 = k1 + m.hs.length * 3 ∧ 0 < k2 ∧ k2 ≤ 16777216 := ⟨_, rfl, by omega, by have := (unhide HL).h; omega⟩
  rw [← hk2']
  have HQ2 := hide hk2'
  clear hk2'
  go_wp2_with fail
  refine (markGuest_any a.ga m.g ts k2 B _ (unhide HL).g.v (unhide HL).g.s (fun s hs => ((unhide HL).g.st s hs).1) (unhide HL).g.k hk20 hk21 (unhide HG2)).mono ?_
  rintro e w3 ⟨rfl, ho3, hk⟩
  have HD3 := hide ((unhide HD2).keep hk (fun x hx hh => by
    obtain ⟨c, t, f, e, ht⟩ := (unhide HD2).type hx
    exact (unhide HG2).otherV e (by rcases ht with rfl | rfl <;> decide) (by rcases ht with rfl | rfl <;> decide) hh))
  have HH3 := hide (OwnR.keep (unhide HH2) hk (fun x hx hh => by
    obtain ⟨c, f, e⟩ := OwnR.type (unhide HH2) hx
    exact (unhide HG2).otherV e (by decide) (by decide) hh))
  have HG3 := hide ho3
  have HK3 := hide ((unhide HK2).trans (hk.mono (T := WlB a m ts) (fun j h => .inr (.inr h))))
  have hk1' := unhide HQ1
  have hk2' := unhide HQ2
  have HE : Hid (k2 + gsK m.g = k + wlK m) := hide (by unfold wlK; omega)
  have HM : Hid (OwnWl w3 B a (mkWl k m) ts) := hide (by
    subst hk2' hk1'
    refine ⟨?_, ?_, ?_⟩
    · simp only [mkWl, mkS_length, mkI_length]; exact unhide HD3
    · simp only [mkWl, mkHs_length]; exact unhide HH3
    · simp only [mkWl]; exact unhide HG3)
  clear ho3 hk HV2 HD2 HG2 HH2 HK2 c8 c9
  go_wp2
  go_ret
  exact ⟨ret_int (by unfold wlK; push_cast; omega), unhide HM, unhide HK3⟩

set_option maxHeartbeats 6400000 in
theorem heldWorld_any (a : Wl4) (m : Wld) (ts : List Value) (k B : Nat) (w : World) (hL : WlBd m) (hk0 : 0 < k) (hk1 : k ≤ 4194304) (ho : OwnWl w B a (mkWl k m) ts) :
    Calls Tryz.prog 10 #[wlV a m, .int .i64 k] w fun e w' => e = .returned (.int .i64 ((k + wlK m : Nat) : Int)) ∧ Below w.heap.size w w' := by
  have HA := hide (Joins.below_alloc1 w (.cells (wlC a m) 37))
  have HV := hide (VarW.new w 37 a m)
  have HO := hide (ho.below (unhide HA))
  have HL := hide hL
  clear ho hL
  go_enter Tryz.func10, Tryz.ntmps10
  go_upto_region 1 with fail
  revert HA HV HO
  generalize (w.alloc _) = W0
  intro HA HV HO
  obtain ⟨c0, c1, _, _, _, _, _, _, _, _, _, _, _, _, _⟩ := (unhide HV).cells
  have HOD : Hid (OwnD _ B a.ao m.ss.length a.ca a.bo m.xs.length a.cb (mkS k m.ss.length) (mkI (k + m.ss.length) m.xs.length)) := hide (by have h := (unhide HO).d; simp only [mkWl, mkS_length, mkI_length] at h; exact h)
  go_wp2_with fail
  refine (heldDisk_any a.ao a.bo m.ss.length a.ca m.xs.length a.cb k B _ (by have := (unhide HL).s; omega) (by have := (unhide HL).i; omega) hk0 (by omega) (unhide HOD)).mono ?_
  rintro e w1 ⟨rfl, hb⟩
  have HV1 := hide ((unhide HV).below hb)
  have HO1 := hide ((unhide HO).below hb)
  have HB1 := hide (fr (unhide HA) hb)
  clear hb HV HO HA HOD c0 c1
  obtain ⟨_, _, _, _, _, _, c6, _, _, _, _, _, _, _, _⟩ := (unhide HV1).cells
  obtain ⟨k1, hk1', hk10, hk11⟩ : ∃ k1 : Nat, k1 = k + m.ss.length + 3 * m.xs.length ∧ 0 < k1 ∧ k1 ≤ 8388608 := ⟨_, rfl, by omega, by have := (unhide HL).s; have := (unhide HL).i; omega⟩
  rw [← hk1']
  have HQ1 := hide hk1'
  clear hk1'
  have HOH : Hid (OwnR w1 B 84 3 (.slice a.ho m.hs.length a.hc) m.hs.length (hssV (mkHs k1 m.hs.length))) := hide (by have h := (unhide HO1).h; simp only [mkWl, mkHs_length] at h; rw [unhide HQ1]; exact h)
  go_wp2_with fail
  refine (heldHostS_any (.slice a.ho m.hs.length a.hc) m.hs.length k1 B _ (by have := (unhide HL).h; omega) hk10 (by omega) (unhide HOH)).mono ?_
  rintro e w2 ⟨rfl, hb⟩
  have HV2 := hide ((unhide HV1).below hb)
  have HO2 := hide ((unhide HO1).below hb)
  have HB2 := hide (fr (unhide HB1) hb)
  clear hb HV1 HO1 HB1 HOH c6
  obtain ⟨_, _, _, _, _, _, _, _, c8, c9, _, _, _, _, _⟩ := (unhide HV2).cells
  obtain ⟨k2, hk2', hk20, hk21⟩ : ∃ k2 : Nat, k2 = k1 + m.hs.length * 3 ∧ 0 < k2 ∧ k2 ≤ 16777216 := ⟨_, rfl, by omega, by have := (unhide HL).h; omega⟩
  rw [← hk2']
  have HQ2 := hide hk2'
  clear hk2'
  have HOG : Hid (OwnGs w2 B a.ga (mkGs k2 m.g) ts) := hide (by have h := (unhide HO2).g; simp only [mkWl] at h; rw [unhide HQ2, unhide HQ1]; exact h)
  go_wp2_with fail
  refine (heldGuest_any a.ga m.g ts k2 B _ (unhide HL).g.v (unhide HL).g.s (fun s hs => ((unhide HL).g.st s hs).1) (unhide HL).g.k hk20 hk21 (unhide HOG)).mono ?_
  rintro e w3 ⟨rfl, hb⟩
  have HB3 := hide (fr (unhide HB2) hb)
  have hk1' := unhide HQ1
  have hk2' := unhide HQ2
  have HE : Hid (k2 + gsK m.g = k + wlK m) := hide (by unfold wlK; omega)
  clear hb HV2 HO2 HB2 HOG c8 c9
  go_wp2
  go_ret
  exact ⟨ret_int (by unfold wlK; push_cast; omega), unhide HB3⟩

end Go.Proofs.YtjjkppknojecjaaGreat

namespace Go.Proofs.YtjjkppknojecjaaGreat
open Go.RowKit
set_option linter.unusedVariables false
set_option maxRecDepth 100000

theorem markWorld_B (a : Wl4) (m : Wld) (ts : List Value) (B : Nat) (w : World) (h : WlBd m) (ho : OwnWl w B a m ts) :
    Calls Tryz.prog 9 #[wlV a m, .int .i64 1] w fun e w' => e = .returned (.int .i64 ((1 + wlK m : Nat) : Int)) ∧ OwnWl w' B a (mkWl 1 m) ts ∧ Keep (WlB a m ts) w w' :=
  markWorld_any a m ts 1 B w h (by omega) (by omega) ho
theorem heldWorld_B (a : Wl4) (m : Wld) (ts : List Value) (B : Nat) (w : World) (h : WlBd m) (ho : OwnWl w B a (mkWl 1 m) ts) :
    Calls Tryz.prog 10 #[wlV a m, .int .i64 1] w fun e w' => e = .returned (.int .i64 ((1 + wlK m : Nat) : Int)) ∧ Below w.heap.size w w' :=
  heldWorld_any a m ts 1 B w h (by omega) (by omega) ho
theorem OwnWl.noVar {w : World} {B x : Nat} {a b : Wl4} {m n : Wld} {ts : List Value} (h : OwnWl w B a m ts) (hv : VarW w x 37 b n) : ¬ WlB a m ts x := h.otherV hv (by decide) (by decide) (by decide) (by decide) (by decide)
theorem LwW.keepW {W W' : World} {p n B : Nat} {a b : Wl4} {g g' : Wld} {ts us : List Value} (h : LwW W p n a g ts) (h2 : OwnWl W B b g' us) (hk : Keep (WlB b g' us) W W') (hs : ∀ x, WlB a g ts x → ¬ WlB b g' us x) : LwW W' p n a g ts :=
  ⟨h.v.keep hk (h2.noVar h.v), h.o.keep hk hs, Nat.le_trans h.n hk.size⟩
theorem VarCg.keepW {W W' : World} {x B : Nat} {b : Wl4} {g' : Wld} {us : List Value} {f d l r : Int} (h : VarCg W x 23 f d l r) (h2 : OwnWl W B b g' us) (hk : Keep (WlB b g' us) W W') : VarCg W' x 23 f d l r :=
  h.keep hk (h2.otherV h (by decide) (by decide) (by decide) (by decide) (by decide))

set_option maxHeartbeats 6400000 in
theorem lawWoNewWorld (f d l r n : Int) (R : Wld) (C : Int) (w : World) (hRD : WlBd R) (hRS : WlZ R)
    (hspec : ∀ W : World, Calls Tryz.prog 5 #[cfgV f d l r, .int .i64 n] W fun e w' => ∃ a ts, e = .returned (.tuple #[wlV a R, .int .i64 C]) ∧ OwnWl w' W.heap.size a R ts ∧ Below W.heap.size W w')
    (himpl : ∀ W : World, Calls Tryz.prog 7 #[cfgV f d l r, .int .i64 n] W fun e w' => ∃ a ts, e = .returned (.tuple #[wlV a R, .int .i64 C]) ∧ OwnWl w' W.heap.size a R ts ∧ Below W.heap.size W w') :
    Calls Tryz.prog 3 #[cfgV f d l r, .int .i64 n] w fun e w' => e = .returned (.bool true) ∧ Below w.heap.size w w' := by
  have HA := hide (Joins.below_alloc1 w (.cells #[.int .i64 f, .int .i64 d, .int .i64 l, .int .i64 r] 23))
  have HV := hide (VarCg.new w 23 f d l r)
  have bcc : (C != C) = false := by simp
  have HRD := hide hRD
  have HRS := hide hRS
  have HIM := hide himpl
  have HSP := hide hspec
  clear himpl hspec hRD hRS
  go_enter Tryz.func3, Tryz.ntmps3
  go_upto_region 1 with fail
  revert HV
  revert HA
  generalize (w.alloc _) = W0
  intro HA HV
  obtain ⟨k0, k1, k2, k3⟩ := (unhide HV).cells
  go_wp2_with fail
  refine (toCfg_any f d l r _).mono ?_
  rintro e w1 ⟨rfl, hb⟩
  have HV1 := hide ((unhide HV).below hb)
  have HB1 := hide (fr (unhide HA) hb)
  clear hb HA HV k0 k1 k2 k3
  go_wp2_with fail
  refine (unhide HSP _).mono ?_
  rintro e w3 ⟨aW, tsW, rfl, hoW, hb3⟩
  have HBa := hide (Joins.below_alloc1 w3 (.cells (wlC aW R) 37))
  have HNW := hide (LwW.new w3 aW R hoW hb3.size)
  have HB3 := hide (fr (fr (unhide HB1) hb3) (unhide HBa))
  have HV3 := hide (((unhide HV1).below hb3).below (unhide HBa))
  clear hoW hb3 HB1 HV1 HBa
  go_upto_region 2 with fail
  revert HV3
  revert HB3
  revert HNW
  generalize (w3.alloc _) = W3
  generalize w3.heap.size = pW
  intro HNW HB3 HV3
  as_aux_lemma =>
    obtain ⟨k0, k1, k2, k3⟩ := (unhide HV3).cells
    go_wp2_with fail
    refine (toCfg_any f d l r _).mono ?_
    rintro e w4 ⟨rfl, hb⟩
    have HV4 := hide ((unhide HV3).below hb)
    have HB4 := hide (fr (unhide HB3) hb)
    have HNW4 := hide ((unhide HNW).below hb)
    have HWX : Hid (∀ g, WlB aW R tsW g → g < w4.heap.size) := hide (fun g hg => ((unhide HNW4).o.ge g hg).2)
    have HSL : Hid (w.heap.size ≤ w4.heap.size) := hide (unhide HB4).size
    clear hb HNW HB3 HV3 k0 k1 k2 k3
    go_wp2_with fail
    refine (unhide HIM _).mono ?_
    rintro e w5 ⟨aG, tsG, rfl, hoG, hb5⟩
    have HB5' := hide (fr hb5 (Joins.below_alloc1 w5 (.cells (wlC aG R) 37)))
    have HNW5 := hide ((unhide HNW4).below (unhide HB5'))
    have HNG5 := hide (LwW.new w5 aG R hoG hb5.size)
    have HB5 := hide (fr (unhide HB4) (unhide HB5'))
    have HV5 := hide ((unhide HV4).below (unhide HB5'))
    clear hoG hb5 HNW4 HB4 HB5' HV4
    go_upto_region 3 with fail
    revert HV5
    revert HB5
    revert HNG5
    revert HNW5
    generalize (w5.alloc _) = W5
    generalize w5.heap.size = pG
    intro HNW5 HNG5 HB5 HV5
    as_aux_lemma =>
      obtain ⟨c0, c1, c2, c3, c4, c5, c6, c7, c8, c9, c10, c11, c12, c13, c14⟩ := (unhide HNG5).v.cells
      obtain ⟨d0, d1, d2, d3, d4, d5, d6, d7, d8, d9, d10, d11, d12, d13, d14⟩ := (unhide HNW5).v.cells
      go_wp2_with fail
      refine (eqWorld_same aG aW R _ (unhide HRD) ((unhide HNG5).o.shw (unhide HRS)) ((unhide HNW5).o.shw (unhide HRS))).mono ?_
      rintro e w9 ⟨rfl, hb⟩
      have HNW9 := hide ((unhide HNW5).below hb)
      have HNG9 := hide ((unhide HNG5).below hb)
      have HB9 := hide (fr (unhide HB5) hb)
      have HV9 := hide ((unhide HV5).below hb)
      clear hb c0 c1 c2 c3 c4 c5 c6 c7 c8 c9 c10 c11 c12 c13 c14 d0 d1 d2 d3 d4 d5 d6 d7 d8 d9 d10 d11 d12 d13 d14 HNW5 HNG5 HB5
      as_aux_lemma =>
        obtain ⟨c0, c1, c2, c3, c4, c5, c6, c7, c8, c9, c10, c11, c12, c13, c14⟩ := (unhide HNG9).v.cells
        go_wp2_with fail
        refine (markWorld_B aG R tsG _ _ (unhide HRD) (unhide HNG9).o).mono ?_
        rintro e w10 ⟨rfl, ho10, hk10⟩
        have HNW10 := hide ((unhide HNW9).keepW (unhide HNG9).o hk10 (fun g h1 h2 => by have := unhide HWX g h1; have := ((unhide HNG9).o.ge g h2).1; omega))
        have HGV10 := hide ((unhide HNG9).v.keep hk10 ((unhide HNG9).o.noVar (unhide HNG9).v))
        have HGO10 := hide ho10
        have HB10 := hide ((unhide HB9).trans (hk10.below (unhide HB9).size (fun g hg => by have := ((unhide HNG9).o.ge g hg).1; have := unhide HSL; omega)))
        have HV10 := hide ((unhide HV9).keepW (unhide HNG9).o hk10)
        clear ho10 hk10 c0 c1 c2 c3 c4 c5 c6 c7 c8 c9 c10 c11 c12 c13 c14 HNW9 HNG9 HB9
        obtain ⟨c0, c1, c2, c3, c4, c5, c6, c7, c8, c9, c10, c11, c12, c13, c14⟩ := (unhide HGV10).cells
        go_wp2_with fail
        refine (heldWorld_B aG R tsG _ _ (unhide HRD) (unhide HGO10)).mono ?_
        rintro e w12 ⟨rfl, hb⟩
        have HNW12 := hide ((unhide HNW10).below hb)
        have HGV12 := hide ((unhide HGV10).below hb)
        have HGO12 := hide ((unhide HGO10).below hb)
        have HB12 := hide (fr (unhide HB10) hb)
        have HV12 := hide ((unhide HV10).below hb)
        clear hb c0 c1 c2 c3 c4 c5 c6 c7 c8 c9 c10 c11 c12 c13 c14 HNW10 HGV10 HGO10 HB10
        have hq1 : ¬ (((1 + wlK R : Nat) : Int) < 0) := by omega
        as_aux_lemma =>
          obtain ⟨k0, k1, k2, k3⟩ := (unhide HV12).cells
          go_wp2_with fail
          refine (toCfg_any f d l r _).mono ?_
          rintro e w13 ⟨rfl, hb⟩
          have HV13 := hide ((unhide HV12).below hb)
          have HB13 := hide (fr (unhide HB12) hb)
          have HNW13 := hide ((unhide HNW12).below hb)
          have HGV13 := hide ((unhide HGV12).below hb)
          have HGO13 := hide ((unhide HGO12).below hb)
          clear hb k0 k1 k2 k3 HNW12 HGV12 HGO12 HB12 HV12
          go_wp2_with fail
          refine (unhide HIM _).mono ?_
          rintro e w14 ⟨aH, tsH, rfl, hoH, hb⟩
          have HBa := hide (fr hb (Joins.below_alloc1 w14 (.cells (wlC aH R) 37)))
          have HNH := hide (LwW.new w14 aH R hoH hb.size)
          have HNW14 := hide ((unhide HNW13).below (unhide HBa))
          have HGV14 := hide ((unhide HGV13).below (unhide HBa))
          have HGO14 := hide ((unhide HGO13).below (unhide HBa))
          have HB14 := hide (fr (unhide HB13) (unhide HBa))
          clear hb hoH HNW13 HGV13 HGO13 HB13 HBa
          go_upto_region 14 with fail
          revert HB14
          revert HGO14
          revert HGV14
          revert HNW14
          revert HNH
          generalize (w14.alloc _) = W14
          generalize w14.heap.size = pH
          intro HNH HNW14 HGV14 HGO14 HB14
          as_aux_lemma =>
            obtain ⟨c0, c1, c2, c3, c4, c5, c6, c7, c8, c9, c10, c11, c12, c13, c14⟩ := (unhide HNH).v.cells
            obtain ⟨d0, d1, d2, d3, d4, d5, d6, d7, d8, d9, d10, d11, d12, d13, d14⟩ := (unhide HNW14).v.cells
            go_wp2_with fail
            refine (eqWorld_same aH aW R _ (unhide HRD) ((unhide HNH).o.shw (unhide HRS)) ((unhide HNW14).o.shw (unhide HRS))).mono ?_
            rintro e w15 ⟨rfl, hb⟩
            have HGV15 := hide ((unhide HGV14).below hb)
            have HGO15 := hide ((unhide HGO14).below hb)
            have HB15 := hide (fr (unhide HB14) hb)
            clear hb c0 c1 c2 c3 c4 c5 c6 c7 c8 c9 c10 c11 c12 c13 c14 d0 d1 d2 d3 d4 d5 d6 d7 d8 d9 d10 d11 d12 d13 d14 HNH HNW14 HGV14 HGO14 HB14
            obtain ⟨c0, c1, c2, c3, c4, c5, c6, c7, c8, c9, c10, c11, c12, c13, c14⟩ := (unhide HGV15).cells
            go_wp2_with fail
            refine (heldWorld_B aG R tsG _ _ (unhide HRD) (unhide HGO15)).mono ?_
            rintro e w16 ⟨rfl, hb⟩
            have HB16 := hide (fr (unhide HB15) hb)
            clear hb c0 c1 c2 c3 c4 c5 c6 c7 c8 c9 c10 c11 c12 c13 c14
            go_wp2
            go_ret
            exact ⟨rfl, unhide HB16⟩

end Go.Proofs.YtjjkppknojecjaaGreat

namespace Go.Proofs.YtjjkppknojecjaaGreat
open Go.RowKit
set_option linter.unusedVariables false
set_option maxRecDepth 100000

theorem wkNewWorld (f d l r n : Int) (w : World) :
    Calls Tryz.prog 3 #[cfgV f d l r, .int .i64 n] w fun e w' => e = .returned (.bool true) ∧ Below w.heap.size w w' :=
  lawWoNewWorld f d l r n (nwA f d l r n).1 (nwA f d l r n).2 w (nwA_ok f d l r n).1 (nwA_ok f d l r n).2 (fun W => newWorld_spec f d l r n W) (fun W => newWorld_impl f d l r n W)

end Go.Proofs.YtjjkppknojecjaaGreat
