import Derived.Test.YtjoafbkcnnhdiabRows
import Derived.Test.YtjoafbkcnnhdiabXLeaksPart1
import Derived.Test.YtjoafbkcnnhdiabXLeaksPart2
import Derived.Test.YtjoafbkcnnhdiabXLeaksPart3
import Derived.WalkKit
import Derived.WalkSpells
import Derived.KernelRfl
import Derived.LoopN
import Derived.BigQuiet
import Derived.Deep.QuietTactic
import Derived.Deep.RegionWith
import Derived.Laws.CopyRow
import Derived.Laws.CopyOwn
import Derived.Deep.CutRange
import Derived.Laws.ResultCell
import Derived.Laws.Cover3
import Derived.Deep.MidRow
import Derived.Maps.Own
import Derived.Maps.OwnOps
import Derived.Maps.OwnSet
import Derived.Maps.RangeWalk
import Derived.Maps.Views

namespace Go.Proofs.Ytjoafbkcnnhdiab
open Go.RowKit
set_option linter.unusedVariables false
set_option maxRecDepth 100000

structure LqJLeaks (Wq : World) (AX AA : Value) (m : Img) (d : Nat → Bool) (w : World) (s41 s42 s43 s44 s45 : Value) : Prop where
  bw : Below Wq.heap.size Wq w
  p2 : d 2 = true → ∃ a1 ts, s43 = imV a1 m ∧ OwnIm w Wq.heap.size a1 m ts
  f0 : d 0 = true → s41 = AX
  f1 : d 1 = true → s42 = AA
  f3 : d 3 = true → s44 = .bool true
  f4 : d 4 = true → s45 = .bool false

theorem LqJLeaks.s0 {Wq : World} {AX AA : Value} {m : Img} {d : Nat → Bool} {w : World} {s41 s42 s43 s44 s45 v : Value} (I : LqJLeaks Wq AX AA m d w s41 s42 s43 s44 s45) (hd : d 0 = false) (hv : v = AX) : LqJLeaks Wq AX AA m (updD d 0) w v s42 s43 s44 s45 where
  bw := I.bw
  p2 := fun h => I.p2 (upd_ne (by decide) h)
  f0 := fun _ => hv
  f1 := fun h => I.f1 (upd_ne (by decide) h)
  f3 := fun h => I.f3 (upd_ne (by decide) h)
  f4 := fun h => I.f4 (upd_ne (by decide) h)

theorem LqJLeaks.s1 {Wq : World} {AX AA : Value} {m : Img} {d : Nat → Bool} {w : World} {s41 s42 s43 s44 s45 v : Value} (I : LqJLeaks Wq AX AA m d w s41 s42 s43 s44 s45) (hd : d 1 = false) (hv : v = AA) : LqJLeaks Wq AX AA m (updD d 1) w s41 v s43 s44 s45 where
  bw := I.bw
  p2 := fun h => I.p2 (upd_ne (by decide) h)
  f0 := fun h => I.f0 (upd_ne (by decide) h)
  f1 := fun _ => hv
  f3 := fun h => I.f3 (upd_ne (by decide) h)
  f4 := fun h => I.f4 (upd_ne (by decide) h)

theorem LqJLeaks.s2 {Wq : World} {AX AA : Value} {m : Img} {d : Nat → Bool} {w w2 : World} {s41 s42 s43 s44 s45 v : Value} (I : LqJLeaks Wq AX AA m d w s41 s42 s43 s44 s45) (hd : d 2 = false) (hb : Below w.heap.size w w2) {a1 : Im4} {ts : List Value} (hv : v = imV a1 m) (ho : OwnIm w2 Wq.heap.size a1 m ts) : LqJLeaks Wq AX AA m (updD d 2) w2 s41 s42 v s44 s45 where
  bw := fr I.bw hb
  p2 := fun _ => ⟨a1, ts, hv, ho⟩
  f0 := fun h => I.f0 (upd_ne (by decide) h)
  f1 := fun h => I.f1 (upd_ne (by decide) h)
  f3 := fun h => I.f3 (upd_ne (by decide) h)
  f4 := fun h => I.f4 (upd_ne (by decide) h)

theorem LqJLeaks.s3 {Wq : World} {AX AA : Value} {m : Img} {d : Nat → Bool} {w : World} {s41 s42 s43 s44 s45 v : Value} (I : LqJLeaks Wq AX AA m d w s41 s42 s43 s44 s45) (hd : d 3 = false) (hv : v = .bool true) : LqJLeaks Wq AX AA m (updD d 3) w s41 s42 s43 v s45 where
  bw := I.bw
  p2 := fun h => I.p2 (upd_ne (by decide) h)
  f0 := fun h => I.f0 (upd_ne (by decide) h)
  f1 := fun h => I.f1 (upd_ne (by decide) h)
  f3 := fun _ => hv
  f4 := fun h => I.f4 (upd_ne (by decide) h)

theorem LqJLeaks.s4 {Wq : World} {AX AA : Value} {m : Img} {d : Nat → Bool} {w : World} {s41 s42 s43 s44 s45 v : Value} (I : LqJLeaks Wq AX AA m d w s41 s42 s43 s44 s45) (hd : d 4 = false) (hv : v = .bool false) : LqJLeaks Wq AX AA m (updD d 4) w s41 s42 s43 s44 v where
  bw := I.bw
  p2 := fun h => I.p2 (upd_ne (by decide) h)
  f0 := fun h => I.f0 (upd_ne (by decide) h)
  f1 := fun h => I.f1 (upd_ne (by decide) h)
  f3 := fun h => I.f3 (upd_ne (by decide) h)
  f4 := fun _ => hv

theorem LqJLeaks.grow {Wq : World} {AX AA : Value} {m : Img} {d : Nat → Bool} {w w2 : World} {s41 s42 s43 s44 s45 : Value} (I : LqJLeaks Wq AX AA m d w s41 s42 s43 s44 s45) (hb : Below w.heap.size w w2) : LqJLeaks Wq AX AA m d w2 s41 s42 s43 s44 s45 := ⟨fr I.bw hb, fun h => (I.p2 h).imp fun a1 h1 => h1.imp fun ts h2 => ⟨h2.1, h2.2.below hb⟩, I.f0, I.f1, I.f3, I.f4⟩

abbrev lqFrLeaks (t0 t1 t2 t3 t4 t5 t6 t7 t8 t9 t10 t11 t12 t13 t14 t15 t16 t17 t18 t19 t20 t21 t22 t23 t24 t25 t26 t27 t28 t29 t30 t31 t32 t33 t34 t35 t36 t37 t38 t39 t40 s41 s42 s43 s44 s45 t46 t47 t48 t49 t50 t51 t52 t53 t54 t55 t56 t57 t58 t59 t60 t61 t62 t63 t64 t65 t66 t67 t68 t69 t70 t71 t72 t73 t74 t75 t76 t77 t78 t79 t80 t81 t82 t83 t84 t85 t86 t87 t88 t89 t90 t91 t92 t93 t94 t95 : Value) : Act := ⟨#[t0, t1, t2, t3, t4, t5, t6, t7, t8, t9, t10, t11, t12, t13, t14, t15, t16, t17, t18, t19, t20, t21, t22, t23, t24, t25, t26, t27, t28, t29, t30, t31, t32, t33, t34, t35, t36, t37, t38, t39, t40, s41, s42, s43, s44, s45, t46, t47, t48, t49, t50, t51, t52, t53, t54, t55, t56, t57, t58, t59, t60, t61, t62, t63, t64, t65, t66, t67, t68, t69, t70, t71, t72, t73, t74, t75, t76, t77, t78, t79, t80, t81, t82, t83, t84, t85, t86, t87, t88, t89, t90, t91, t92, t93, t94, t95], []⟩
theorem lqFrLeaks_region {P : Program} {id : Nat} {Q : Exit → Act → World → Prop} {l : List Oper} {t0 t1 t2 t3 t4 t5 t6 t7 t8 t9 t10 t11 t12 t13 t14 t15 t16 t17 t18 t19 t20 t21 t22 t23 t24 t25 t26 t27 t28 t29 t30 t31 t32 t33 t34 t35 t36 t37 t38 t39 t40 s41 s42 s43 s44 s45 t46 t47 t48 t49 t50 t51 t52 t53 t54 t55 t56 t57 t58 t59 t60 t61 t62 t63 t64 t65 t66 t67 t68 t69 t70 t71 t72 t73 t74 t75 t76 t77 t78 t79 t80 t81 t82 t83 t84 t85 t86 t87 t88 t89 t90 t91 t92 t93 t94 t95 : Value} {W : World} (J : (Nat → Bool) → World → Value → Value → Value → Value → Value →  Prop) (hm : P.follows .mixedOrders = true) (hl : linB l = true)
    (hg : ∀ (i : Nat) (o : Oper), l[i]? = some o → o.guard = none) (h0 : J (fun _ => false) { W with drawn := W.drawn + 1 } s41 s42 s43 s44 s45)
    (hs : ∀ (d : Nat → Bool) (w : World) (i : Nat) (o : Oper) (r41 r42 r43 r44 r45 : Value), Closed l d → J d w r41 r42 r43 r44 r45 → l[i]? = some o → d i = false → (∀ e ∈ o.after, Region.binds .any e = true → d e.on = true) → ∀ K : Act → World → Prop, (∀ (w' : World) (q41 q42 q43 q44 q45 : Value), J (updD d i) w' q41 q42 q43 q44 q45 → K (lqFrLeaks t0 t1 t2 t3 t4 t5 t6 t7 t8 t9 t10 t11 t12 t13 t14 t15 t16 t17 t18 t19 t20 t21 t22 t23 t24 t25 t26 t27 t28 t29 t30 t31 t32 t33 t34 t35 t36 t37 t38 t39 t40 q41 q42 q43 q44 q45 t46 t47 t48 t49 t50 t51 t52 t53 t54 t55 t56 t57 t58 t59 t60 t61 t62 t63 t64 t65 t66 t67 t68 t69 t70 t71 t72 t73 t74 t75 t76 t77 t78 t79 t80 t81 t82 t83 t84 t85 t86 t87 t88 t89 t90 t91 t92 t93 t94 t95) w') → o.wp P (lqFrLeaks t0 t1 t2 t3 t4 t5 t6 t7 t8 t9 t10 t11 t12 t13 t14 t15 t16 t17 t18 t19 t20 t21 t22 t23 t24 t25 t26 t27 t28 t29 t30 t31 t32 t33 t34 t35 t36 t37 t38 t39 t40 r41 r42 r43 r44 r45 t46 t47 t48 t49 t50 t51 t52 t53 t54 t55 t56 t57 t58 t59 t60 t61 t62 t63 t64 t65 t66 t67 t68 t69 t70 t71 t72 t73 t74 t75 t76 t77 t78 t79 t80 t81 t82 t83 t84 t85 t86 t87 t88 t89 t90 t91 t92 t93 t94 t95) w K Q)
    (he : ∀ (d : Nat → Bool) (w : World) (r41 r42 r43 r44 r45 : Value), J d w r41 r42 r43 r44 r45 → (∀ i, i < l.length → d i = true) → Q .normal (lqFrLeaks t0 t1 t2 t3 t4 t5 t6 t7 t8 t9 t10 t11 t12 t13 t14 t15 t16 t17 t18 t19 t20 t21 t22 t23 t24 t25 t26 t27 t28 t29 t30 t31 t32 t33 t34 t35 t36 t37 t38 t39 t40 r41 r42 r43 r44 r45 t46 t47 t48 t49 t50 t51 t52 t53 t54 t55 t56 t57 t58 t59 t60 t61 t62 t63 t64 t65 t66 t67 t68 t69 t70 t71 t72 t73 t74 t75 t76 t77 t78 t79 t80 t81 t82 t83 t84 t85 t86 t87 t88 t89 t90 t91 t92 t93 t94 t95) w) : (Code.region id l.toArray true).wp P Q (lqFrLeaks t0 t1 t2 t3 t4 t5 t6 t7 t8 t9 t10 t11 t12 t13 t14 t15 t16 t17 t18 t19 t20 t21 t22 t23 t24 t25 t26 t27 t28 t29 t30 t31 t32 t33 t34 t35 t36 t37 t38 t39 t40 s41 s42 s43 s44 s45 t46 t47 t48 t49 t50 t51 t52 t53 t54 t55 t56 t57 t58 t59 t60 t61 t62 t63 t64 t65 t66 t67 t68 t69 t70 t71 t72 t73 t74 t75 t76 t77 t78 t79 t80 t81 t82 t83 t84 t85 t86 t87 t88 t89 t90 t91 t92 t93 t94 t95) W := by
  refine wp_region_inv2 (fun d f w => ∃ r41 r42 r43 r44 r45, f = lqFrLeaks t0 t1 t2 t3 t4 t5 t6 t7 t8 t9 t10 t11 t12 t13 t14 t15 t16 t17 t18 t19 t20 t21 t22 t23 t24 t25 t26 t27 t28 t29 t30 t31 t32 t33 t34 t35 t36 t37 t38 t39 t40 r41 r42 r43 r44 r45 t46 t47 t48 t49 t50 t51 t52 t53 t54 t55 t56 t57 t58 t59 t60 t61 t62 t63 t64 t65 t66 t67 t68 t69 t70 t71 t72 t73 t74 t75 t76 t77 t78 t79 t80 t81 t82 t83 t84 t85 t86 t87 t88 t89 t90 t91 t92 t93 t94 t95 ∧ J d w r41 r42 r43 r44 r45) hm hl hg ⟨s41, s42, s43, s44, s45, rfl, h0⟩ ?_ ?_
  · intro d f w i o hc hI ho hd hp K hK
    obtain ⟨r41, r42, r43, r44, r45, rfl, hJ⟩ := hI
    exact hs d w i o r41 r42 r43 r44 r45 hc hJ ho hd hp K (fun w' q41 q42 q43 q44 q45 hJ' => hK _ _ ⟨q41, q42, q43, q44, q45, rfl, hJ'⟩)
  · intro d f w hI hall
    obtain ⟨r41, r42, r43, r44, r45, rfl, hJ⟩ := hI
    exact he d w r41 r42 r43 r44 r45 hJ hall

set_option maxHeartbeats 3200000 in
theorem lawImLeaks (a : Im4) (m : Img)  (R : List Int × Int) (w : World) (hL : ImL m) (hc : ImS w a m)
    (hz : ∀ s ∈ m.snaps, s.name.size ≤ maxLen ∧ s.table.length ≤ maxLen)
    (hn : R.1.length ≤ 1000)
    (hspec : ∀ (b : Im4) (W : World), ImS W b m → Calls Try.prog 30 #[imV b m] W fun e w' => AnsN W w' e R)
    (himpl : ∀ (b : Im4) (W : World), ImS W b m → Calls Try.prog 31 #[imV b m] W fun e w' => AnsN W w' e R) :
    Calls Try.prog 8 #[imV a m] w fun e w' => e = .returned (.bool true) ∧ Below w.heap.size w w' := by
  have HA := hide (Joins.below_alloc1 w (.cells #[.slice a.ro m.refs.length a.rc, .slice a.tq m.table.length a.tc, .slice a.so m.snaps.length a.sc, .slice a.dq m.data.length a.dc] 25))
  have HV := hide (VarM.new w 25 (.slice a.ro m.refs.length a.rc) (.slice a.tq m.table.length a.tc) (.slice a.so m.snaps.length a.sc) (.slice a.dq m.data.length a.dc))
  have HC := hide (hc.below (unhide HA))
  have HCW := hide hc
  have HL := hide hL
  have HZ := hide hz
  have HSP := hide hspec
  have HIM := hide himpl
  have hn1 := hn
  have HEQ : Hid (eqNB R.1 R.1 = true) := hide (eqNB_self _)
  clear hc hL hz hspec himpl hn
  go_enter Try.func8, Try.ntmps8
  go_upto_region 2 with fail
  revert HC
  revert HV
  revert HA
  generalize (w.alloc _) = W0
  intro HA HV HC
  obtain ⟨c0, c1, c2, c3⟩ := (unhide HV).cells
  go_wp2_with fail
  refine (szImage_any a m 1048576 _ (unhide HL).r (unhide HL).t (unhide HL).s (unhide HL).d (by omega) (by omega) (unhide HC)).mono ?_
  rintro e w1 ⟨r, rfl, hr0, hr1, hr2, hb⟩
  have HB1 := hide (fr (unhide HA) hb)
  have HC1 := hide ((unhide HC).below hb)
  have HV1 := hide ((unhide HV).below hb)
  clear hb c0 c1 c2 c3 HA HV HC
  by_cases hneg : r < 0
  · go_wp2
    go_ret
    exact ⟨rfl, unhide HB1⟩
  have HSZ : Hid (imSz m ≤ 1048576) := hide (by have := hr2 (by omega); omega)
  have HBD := hide (ImBd.of (unhide HSZ))
  clear hr2
  obtain ⟨c0, c1, c2, c3⟩ := (unhide HV1).cells
  -- the model's answer
  go_wp2_with fail
  refine (toImage_B a m _ (unhide HBD) (unhide HC1)).mono ?_
  rintro e w2 ⟨a2, ts2, rfl, ho2, hb2⟩
  have HB2 := hide (fr (unhide HB1) hb2)
  have HC2 := hide ((unhide HC1).below hb2)
  have HV2 := hide ((unhide HV1).below hb2)
  have HI2 := hide (ho2.shows (unhide HZ))
  clear hb2 ho2 c0 c1 c2 c3 HB1 HC1 HV1
  go_wp2_with fail
  refine (unhide HSP a2 _ (unhide HI2)).mono ?_
  rintro e w3 ⟨qw, cw, rfl, hw3, hb3⟩
  have HW3 := hide hw3
  have HAW : Hid (∀ g, Own (.slice qw R.1.length cw) g → g < w3.heap.size) := hide (fun g h => (hw3.ge g h).2)
  clear hw3
  have HB3 := hide (fr (unhide HB2) hb3)
  have HC3 := hide ((unhide HC2).below hb3)
  have HVA3 := hide ((unhide HV2).below hb3)
  clear hb3 HB2 HC2 HV2 HI2
  -- the argument's copy
  obtain ⟨c0, c1, c2, c3⟩ := (unhide HVA3).cells
  go_wp2_with fail
  refine (toImage_B a m _ (unhide HBD) (unhide HC3)).mono ?_
  rintro e w4 ⟨aX, tsX, rfl, hoX, hb4⟩
  have HSL : Hid (w.heap.size ≤ w3.heap.size) := hide (unhide HB3).size
  have HNX4 := hide (LwV.new w4 aX m hoX hb4.size)
  have HB4 := hide (fr (fr (unhide HB3) hb4) (Joins.below_alloc1 w4 (.cells #[.slice aX.ro m.refs.length aX.rc, .slice aX.tq m.table.length aX.tc, .slice aX.so m.snaps.length aX.sc, .slice aX.dq m.data.length aX.dc] 29)))
  have HC4 := hide ((unhide HC3).below (fr hb4 (Joins.below_alloc1 w4 (.cells #[.slice aX.ro m.refs.length aX.rc, .slice aX.tq m.table.length aX.tc, .slice aX.so m.snaps.length aX.sc, .slice aX.dq m.data.length aX.dc] 29))))
  have HW4 := hide ((unhide HW3).below (fr hb4 (Joins.below_alloc1 w4 (.cells #[.slice aX.ro m.refs.length aX.rc, .slice aX.tq m.table.length aX.tc, .slice aX.so m.snaps.length aX.sc, .slice aX.dq m.data.length aX.dc] 29))))
  have HVA4 := hide ((unhide HVA3).below (fr hb4 (Joins.below_alloc1 w4 (.cells #[.slice aX.ro m.refs.length aX.rc, .slice aX.tq m.table.length aX.tc, .slice aX.so m.snaps.length aX.sc, .slice aX.dq m.data.length aX.dc] 29))))
  clear hoX hb4 c0 c1 c2 c3 HB3 HC3 HVA3 HW3
  go_upto_region 7 with fail
  revert HVA4
  revert HW4
  revert HC4
  revert HB4
  revert HNX4
  generalize (w4.alloc _) = W4
  generalize w4.heap.size = pX
  intro HNX4 HB4 HC4 HW4 HVA4
  -- the program's answer
  obtain ⟨c0, c1, c2, c3⟩ := (unhide HNX4).v.cells
  go_wp2_with fail
  refine (unhide HIM aX _ ((unhide HNX4).o.shows (unhide HZ))).mono ?_
  rintro e w6 ⟨qg, cg, rfl, hg6, hb⟩
  have HG6 := hide hg6
  have HW6 := hide ((unhide HW4).below hb)
  have HAGE : Hid (∀ g, Own (.slice qw R.1.length cw) g → ¬ Own (.slice qg R.1.length cg) g) := hide (fun g h1 h2 => by
    have k1 := ((unhide HW4).ge g h1).2
    have k2 := (hg6.ge g h2).1
    omega)
  have HXW : Hid (∀ g, Own (.slice qw R.1.length cw) g → ¬ ImB aX m tsX g) := hide (fun g h1 h2 => by
    have k1 := unhide HAW g h1
    have k2 := ((unhide HNX4).o.ge g h2).1
    omega)
  have HXG : Hid (∀ g, Own (.slice qg R.1.length cg) g → ¬ ImB aX m tsX g) := hide (fun g h1 h2 => by
    have k1 := (hg6.ge g h1).1
    have k2 := ((unhide HNX4).o.ge g h2).2
    omega)
  have HGL : Hid (∀ g, Own (.slice qg R.1.length cg) g → w.heap.size ≤ g) := hide (fun g h2 => Nat.le_trans (unhide HB4).size (hg6.ge g h2).1)
  clear hg6
  have HNX6 := hide ((unhide HNX4).below hb)
  have HB6 := hide (fr (unhide HB4) hb)
  have HC6 := hide ((unhide HC4).below hb)
  have HVA6 := hide ((unhide HVA4).below hb)
  clear hb c0 c1 c2 c3 HNX4 HB4 HC4 HVA4 HW4
  have bcd : (R.2 != R.2) = false := by simp
  go_wp2_with fail
  refine (eqIntS_any qg qw cg cw R.1 R.1 _ (by unfold maxLen; omega) (ownRN (unhide HG6)) (ownRN (unhide HW6))).mono ?_
  rintro e w5 ⟨rfl, hb5⟩
  rw [unhide HEQ]
  have HG5 := hide ((unhide HG6).below hb5)
  have HW5 := hide ((unhide HW6).below hb5)
  have HNX5 := hide ((unhide HNX6).below hb5)
  have HB5 := hide (fr (unhide HB6) hb5)
  have HC5 := hide ((unhide HC6).below hb5)
  have HVA5 := hide ((unhide HVA6).below hb5)
  clear hb5 HG6 HW6 HNX6 HB6 HC6 HVA6
  go_upto_region 10 with fail
  refine lqFrLeaks_region (fun d wz r41 r42 r43 r44 r45 => LqJLeaks w5 (imV aX m) (imV a m) m d wz r41 r42 r43 r44 r45) (by kernel_rfl) (by kernel_rfl) (noG_spec (by kernel_rfl)) ?h0 ?hs ?he
  case h0 => exact ⟨(Below.refl _ w5).drew, fun h => (by cases h), fun h => (by cases h), fun h => (by cases h), fun h => (by cases h), fun h => (by cases h)⟩
  case hs =>
    intro d wz i o r41 r42 r43 r44 r45 hc I ho hd hp K hK
    obtain ⟨k0, k1, k2, k3⟩ := ((unhide HNX5).v.below I.bw).cells
    obtain ⟨l0, l1, l2, l3⟩ := ((unhide HVA5).below I.bw).cells
    have hi : i < 5 := (List.getElem?_eq_some_iff.1 ho).1
    rcases (show i = 0 ∨ i = 1 ∨ i = 2 ∨ i = 3 ∨ i = 4 by omega) with rfl | rfl | rfl | rfl | rfl
    · cases ho
      unfold Oper.wp
      go_simp
      exact hK _ _ _ _ _ _ (I.s0 hd rfl)
    · cases ho
      unfold Oper.wp
      go_simp
      exact hK _ _ _ _ _ _ (I.s1 hd rfl)
    · cases ho
      have e1 := I.f1 (hp ⟨1, .data⟩ (by simp) rfl)
      subst e1
      unfold Oper.wp
      go_simp
      refine (toImage_B a m _ (unhide HBD) ((unhide HC5).below I.bw)).mono ?_
      rintro e w2 ⟨a1, ts, rfl, ho1, hb1⟩
      exact hK _ _ _ _ _ _ (I.s2 hd hb1 rfl (ho1.base I.bw.size))
    · cases ho
      have e0 := I.f0 (hp ⟨0, .data⟩ (by simp) rfl)
      subst e0
      obtain ⟨a1, ts, e2, ho1⟩ := I.p2 (hp ⟨2, .data⟩ (by simp) rfl)
      subst e2
      unfold Oper.wp
      go_simp
      refine (eqImage_B aX a1 m _ (unhide HBD) (((unhide HNX5).below I.bw).o.shows (unhide HZ)) (ho1.shows (unhide HZ))).mono ?_
      rintro e w2 ⟨rfl, hb1⟩
      exact hK _ _ _ _ _ _ ((I.grow hb1).s3 hd rfl)
    · cases ho
      have e3 := I.f3 (hp ⟨3, .data⟩ (by simp) rfl)
      subst e3
      unfold Oper.wp
      go_simp
      exact hK _ _ _ _ _ _ (I.s4 hd rfl)
  case he =>
    intro d w7 r41 r42 r43 r44 r45 I hall
    have e4 := I.f4 (hall 4 (by decide))
    subst e4
    have hb := I.bw
    have HB7 := hide (fr (unhide HB5) hb)
    have HG7 := hide ((unhide HG5).below hb)
    have HW7 := hide ((unhide HW5).below hb)
    have HNX7 := hide ((unhide HNX5).below hb)
    have HC7 := hide ((unhide HC5).below hb)
    have HVA7 := hide ((unhide HVA5).below hb)
    clear hb I hall HNX5 HB5 HC5 HVA5 HG5 HW5
    obtain ⟨c0, c1, c2, c3⟩ := (unhide HNX7).v.cells
    go_wp2_with fail
    refine (markImage_B aX m tsX _ _ (unhide HBD) (unhide HNX7).o).mono ?_
    rintro e w8 ⟨rfl, _, hk8⟩
    have HG8 := hide ((unhide HG7).keep hk8 (unhide HXG))
    have HW8 := hide ((unhide HW7).keep hk8 (unhide HXW))
    have HB8 := hide ((unhide HB7).trans (hk8.below (unhide HB7).size (fun g hg => by have := ((unhide HNX7).o.ge g hg).1; have := unhide HSL; omega)))
    have HC8 := hide ((unhide HCW).below (unhide HB8))
    have HVA8 : Hid (VarM w8 w.heap.size 25 (.slice a.ro m.refs.length a.rc) (.slice a.tq m.table.length a.tc) (.slice a.so m.snaps.length a.sc) (.slice a.dq m.data.length a.dc)) := hide ((hk8.block w.heap.size (unhide HVA7).lt (OwnIm.otherL (unhide HNX7).o (unhide HVA7))).trans (unhide HVA7))
    clear hk8 c0 c1 c2 c3 HNX7 HB7 HC7 HVA7 HG7 HW7
    have hk1 : ¬ (((1 + imK m : Nat) : Int) < 0) := by omega
    go_wp2_with fail
    refine (eqIntS_any qg qw cg cw R.1 R.1 _ (by unfold maxLen; omega) (ownRN (unhide HG8)) (ownRN (unhide HW8))).mono ?_
    rintro e w9 ⟨rfl, hb⟩
    rw [unhide HEQ]
    have HG9 := hide ((unhide HG8).below hb)
    have HW9 := hide ((unhide HW8).below hb)
    have HB9 := hide (fr (unhide HB8) hb)
    have HC9 := hide ((unhide HC8).below hb)
    have HVA9 := hide ((unhide HVA8).below hb)
    clear hb HB8 HC8 HVA8 HG8 HW8
    go_wp2_with fail
    refine (markIntS_any _ R.1.length 1 _ _ _ (by omega) (by omega) (by omega) (unhide HG9)).mono ?_
    rintro e w10 ⟨rfl, ho10, hk10⟩
    have HG10 := hide ho10
    have HW10 := hide ((unhide HW9).keep hk10 (unhide HAGE))
    have HB10 := hide ((unhide HB9).trans (hk10.below (unhide HB9).size (fun g hg => unhide HGL g hg)))
    have HC10 := hide ((unhide HCW).below (unhide HB10))
    have HVA10 : Hid (VarM w10 w.heap.size 25 (.slice a.ro m.refs.length a.rc) (.slice a.tq m.table.length a.tc) (.slice a.so m.snaps.length a.sc) (.slice a.dq m.data.length a.dc)) := hide ((hk10.block w.heap.size (unhide HVA9).lt ((unhide HG9).other (unhide HVA9) (by decide))).trans (unhide HVA9))
    clear ho10 hk10 HB9 HC9 HVA9 HG9 HW9
    go_wp2_with fail
    refine (heldIntS_any _ R.1.length 1 _ _ (by omega) (by omega) (by omega) (unhide HG10)).mono ?_
    rintro e w11 ⟨rfl, hb⟩
    have HG11 := hide ((unhide HG10).below hb)
    have HW11 := hide ((unhide HW10).below hb)
    have HB11 := hide (fr (unhide HB10) hb)
    have HC11 := hide ((unhide HC10).below hb)
    have HVA11 := hide ((unhide HVA10).below hb)
    clear hb HG10 HW10 HB10 HC10 HVA10
    have hq1 : ¬ (((1 + R.1.length : Nat) : Int) < 0) := by omega
    obtain ⟨c0, c1, c2, c3⟩ := (unhide HVA11).cells
    go_wp2_with fail
    refine (toImage_B a m _ (unhide HBD) (unhide HC11)).mono ?_
    rintro e w12 ⟨a12, ts12, rfl, ho12, hb⟩
    have HI12 := hide (ho12.shows (unhide HZ))
    have HG12 := hide ((unhide HG11).below hb)
    have HW12 := hide ((unhide HW11).below hb)
    have HB12 := hide (fr (unhide HB11) hb)
    clear hb ho12 c0 c1 c2 c3 HG11 HW11 HB11 HC11 HVA11
    go_wp2_with fail
    refine (unhide HIM a12 _ (unhide HI12)).mono ?_
    rintro e w13 ⟨qh, ch, rfl, hoH, hb⟩
    have HH13 := hide hoH
    have HG13 := hide ((unhide HG12).below hb)
    have HW13 := hide ((unhide HW12).below hb)
    have HB13 := hide (fr (unhide HB12) hb)
    clear hb hoH HG12 HW12 HB12 HI12
    go_wp2_with fail
    refine (eqIntS_any qh qw ch cw R.1 R.1 _ (by unfold maxLen; omega) (ownRN (unhide HH13)) (ownRN (unhide HW13))).mono ?_
    rintro e w14 ⟨rfl, hb⟩
    rw [unhide HEQ]
    have HG14 := hide ((unhide HG13).below hb)
    have HB14 := hide (fr (unhide HB13) hb)
    clear hb HG13 HB13 HW13 HH13
    go_wp2_with fail
    refine (heldIntS_any _ R.1.length 1 _ _ (by omega) (by omega) (by omega) (unhide HG14)).mono ?_
    rintro e w15 ⟨rfl, hb⟩
    have HB15 := hide (fr (unhide HB14) hb)
    clear hb
    go_wp2
    go_ret
    exact ⟨rfl, unhide HB15⟩

end Go.Proofs.Ytjoafbkcnnhdiab

namespace Go.Proofs.Ytjoafbkcnnhdiab
open Go.RowKit
set_option linter.unusedVariables false
set_option maxRecDepth 100000

set_option maxHeartbeats 3200000 in
theorem l12Form_any (a : Im4) (m : Img) (w : World) (hL : ImL m) (hc : ImS w a m) :
    Calls Try.prog 52 #[imV a m] w fun e w' => e = .returned (.bool (ckB m)) ∧ Below w.heap.size w w' := by
  have HA := hide (Joins.below_alloc1 w (.cells #[.slice a.ro m.refs.length a.rc, .slice a.tq m.table.length a.tc, .slice a.so m.snaps.length a.sc, .slice a.dq m.data.length a.dc] 29))
  have HV := hide (VarM.new w 29 (.slice a.ro m.refs.length a.rc) (.slice a.tq m.table.length a.tc) (.slice a.so m.snaps.length a.sc) (.slice a.dq m.data.length a.dc))
  have HC := hide (hc.below (unhide HA))
  have HL := hide hL
  clear hc hL
  cases hfm : imFm m
  · have HF := hide (ck_fm hfm)
    go_enter Try.func52, Try.ntmps52
    go_upto_region 1 with fail
    revert HA HV HC
    generalize (w.alloc _) = W0
    intro HA HV HC
    obtain ⟨c0, c1, c2, c3⟩ := (unhide HV).cells
    go_wp2_with fail
    refine (l10Form_any a m _ (unhide HL) (unhide HC)).mono ?_
    rintro e w1 ⟨rfl, hb⟩
    rw [hfm]
    have HB := hide (fr (unhide HA) hb)
    clear hb c0 c1 c2 c3
    go_wp2
    go_ret
    exact ⟨ret_bool (unhide HF).symm, unhide HB⟩
  obtain ⟨p1, p2, p3, p4⟩ := fm_parts hfm
  have HFM := hide hfm
  have HR24 := hide (ctB_len p1)
  have HD24 := hide p3
  have HTB := hide p4
  have hs3 : m.snaps.length ≤ 3 := p2
  clear p1 p2 p3 p4 hfm
  go_enter Try.func52, Try.ntmps52
  go_upto_region 1 with fail
  revert HA HV HC
  generalize (w.alloc _) = W0
  intro HA HV HC
  obtain ⟨c0, c1, c2, c3⟩ := (unhide HV).cells
  go_wp2_with fail
  refine (l10Form_any a m _ (unhide HL) (unhide HC)).mono ?_
  rintro e w1 ⟨rfl, hb⟩
  rw [unhide HFM]
  have HB1 := hide (fr (unhide HA) hb)
  have HC1 := hide ((unhide HC).below hb)
  have HV1 := hide ((unhide HV).below hb)
  clear hb c0 c1 c2 c3 HA HV HC
  obtain ⟨c0, c1, c2, c3⟩ := (unhide HV1).cells
  go_wp2_with fail
  refine (l10Twice_any a.tq a.tc m.table _ (unhide HTB _ (by simp [imTabs])) (unhide HC1).t).mono ?_
  rintro e w2 ⟨rfl, hb⟩
  have HB2 := hide (fr (unhide HB1) hb)
  have HC2 := hide ((unhide HC1).below hb)
  have HV2 := hide ((unhide HV1).below hb)
  clear hb c0 c1 c2 c3 HB1 HC1 HV1
  cases hon : onceB m.table
  · have HF := hide (ck_once (m := m) (t := m.table) (by simp [imTabs]) hon)
    go_wp2
    go_ret
    exact ⟨ret_bool (unhide HF).symm, unhide HB2⟩
  have HON := hide hon
  clear hon
  obtain ⟨c0, c1, c2, c3⟩ := (unhide HV2).cells
  go_wp2
  clear c0 c1 c2 c3
  go_loopw [3] (fun i wr => ∃ k : Nat, k ≤ m.snaps.length ∧ i = .int .i64 k ∧ Hid (∀ j (hj : j < m.snaps.length), j < k → onceB m.snaps[j].table = true) ∧ Hid (Below w2.heap.size w2 wr)) (fun i _ => m.snaps.length - (intOf i).toNat)
  case atStart => exact ⟨0, Nat.zero_le _, rfl, hide (fun j _ h => by omega), hide (Below.refl _ _)⟩
  case round =>
    obtain ⟨i, hi, rfl, HS, HB⟩ := hrel
    obtain ⟨c0, c1, c2, c3⟩ := ((unhide HV2).below (unhide HB)).cells
    by_cases hlt : i < m.snaps.length
    · obtain ⟨b, off, tq, tc, eb, hn0, ht0, hIs, hz, htl⟩ := ((unhide HC2).s.below (unhide HB)) i hlt
      rw [eb] at c2
      clear eb
      have hlti : (i : Int) < (m.snaps.length : Int) := by omega
      have HIS := hide hIs
      have HMT : Hid (m.snaps[i].table ∈ imTabs m) := hide (by unfold imTabs; exact List.mem_cons_of_mem _ (List.mem_map.2 ⟨_, List.getElem_mem hlt, rfl⟩))
      clear hIs hz htl
      go_wp2_with fail
      refine (l10Twice_any tq tc m.snaps[i].table _ (unhide HTB _ (unhide HMT)) (unhide HIS)).mono ?_
      rintro e w3 ⟨rfl, hb⟩
      have HB3 := hide (fr (unhide HB) hb)
      clear hb c0 c1 c2 c3 hn0 ht0
      cases hon : onceB m.snaps[i].table
      · have HF := hide (ck_once (unhide HMT) hon)
        go_wp2
        go_ret
        exact ⟨ret_bool (unhide HF).symm, fr (unhide HB2) (unhide HB3)⟩
      · have HS' := hide (all_succ (p := fun s : Snp => onceB s.table) hlt (unhide HS) hon)
        go_wp2
        go_roundw
        case rel => exact ⟨i + 1, by omega, by go_num, HS', HB3⟩
        case measure => simp [intOf]; omega
    · have HALL : Hid (∀ t ∈ imTabs m, onceB t = true) := hide (fun t ht => by
        unfold imTabs at ht
        rw [List.mem_cons, List.mem_map] at ht
        rcases ht with rfl | ⟨s, hs, rfl⟩
        · exact unhide HON
        · obtain ⟨j, hj, rfl⟩ := List.mem_iff_getElem.1 hs
          exact unhide HS j hj (by omega))
      have HF := hide (ck_yes (unhide HFM) (unhide HALL))
      go_wp2
      go_ret
      exact ⟨ret_bool (unhide HF).symm, fr (unhide HB2) (unhide HB)⟩

end Go.Proofs.Ytjoafbkcnnhdiab

namespace Go.Proofs.Ytjoafbkcnnhdiab
open Go.RowKit
set_option linter.unusedVariables false
set_option maxRecDepth 100000

set_option maxHeartbeats 3200000 in
theorem wrongRefs_spec (a : Im4) (m : Img) (w : World) (hL : ImL m) (hc : ImS w a m) :
    Calls Try.prog 28 #[imV a m] w fun e w' => AnsN w w' e (wlA neP m) := by
  obtain ⟨j0, hj, hy0, hy1, hy2⟩ := info_parts infoM
  have HA := hide (Joins.below_alloc1 w (.cells #[.slice a.ro m.refs.length a.rc, .slice a.tq m.table.length a.tc, .slice a.so m.snaps.length a.sc, .slice a.dq m.data.length a.dc] 29))
  have HV := hide (VarM.new w 29 (.slice a.ro m.refs.length a.rc) (.slice a.tq m.table.length a.tc) (.slice a.so m.snaps.length a.sc) (.slice a.dq m.data.length a.dc))
  have HC := hide (hc.below (unhide HA))
  have HL := hide hL
  clear hc hL
  go_enter Try.func28, Try.ntmps28
  go_upto_region 1 with fail
  revert HA HV HC
  generalize (w.alloc _) = W0
  intro HA HV HC
  obtain ⟨c0, c1, c2, c3⟩ := (unhide HV).cells
  go_wp2_with fail
  refine (l12Form_any a m _ (unhide HL) (unhide HC)).mono ?_
  rintro e w1 ⟨rfl, hb⟩
  have HB1 := hide (fr (unhide HA) hb)
  have HC1 := hide ((unhide HC).below hb)
  have HV1 := hide ((unhide HV).below hb)
  clear hb c0 c1 c2 c3 HA HV HC
  cases hk : ckB m
  · have HE : Hid (wlA neP m = ([], 1)) := hide (by simp [wlA, hk])
    clear hk
    go_wp2
    go_ret2
    exact ⟨some ⟨w1.heap.size, 0, none⟩, 0, by rw [unhide HE]; rfl, by rw [unhide HE]; exact .inl ⟨rfl, rfl, _, rfl⟩, fr (unhide HB1) (Joins.below_alloc1 _ _)⟩
  have HE : Hid (wlA neP m = (ckL neP m.refs (imCnt m) 24, 0)) := hide (by simp [wlA, hk])
  have HP := hide (fm_parts (ck_parts hk).1)
  clear hk
  have HA2 := hide (Joins.below_alloc1 w1 (.cells #[] 3))
  have HV2 := hide ((unhide HV1).below (unhide HA2))
  have HC2 := hide ((unhide HC1).below (unhide HA2))
  have HB2 := hide (fr (unhide HB1) (unhide HA2))
  go_upto_region 4 with fail
  revert HB2
  revert HC2
  revert HV2
  revert HA2
  generalize (w1.alloc _) = W2
  generalize w1.heap.size = p1
  intro HA2 HV2 HC2 HB2
  obtain ⟨c0, c1, c2, c3⟩ := (unhide HV2).cells
  go_wp2_with fail
  refine (l10Count_any a m _ (unhide HP).2.1 (unhide HP).2.2.2 (unhide HC2)).mono ?_
  rintro e w3 ⟨v, rfl, ⟨no, na, rfl, ho⟩, hb⟩
  have HB3 := hide (fr (unhide HB2) hb)
  have HC3 := hide ((unhide HC2).below hb)
  have HV3 := hide ((unhide HV2).below hb)
  have HI3 := hide (ownRN ho)
  have HLN := hide (imCnt_len m)
  have HR24 := hide (ctB_len (unhide HP).1)
  clear ho hb c0 c1 c2 c3 HA2 HB2 HC2 HV2 HB1 HC1 HV1
  generalize imCnt m = L at *
  go_wp2
  go_loopw [4, 6] (fun o i wr => ∃ (k : Nat) (ys : List Int) (qo : Option Addr) (qa : Nat), k ≤ 24 ∧ i = .int .i64 k ∧ o = .slice qo ys.length qa ∧ Hid (ys = ckL neP m.refs L k) ∧ Hid (OwnR wr w3.heap.size 3 1 (.slice qo ys.length qa) ys.length (intV ys)) ∧ Hid (Below w3.heap.size w3 wr)) (fun _ i _ => 24 - (intOf i).toNat)
  case atStart => exact ⟨0, [], _, _, by omega, rfl, rfl, hide rfl, hide (.inl ⟨rfl, rfl, _, rfl⟩), hide (Below.refl _ _)⟩
  case round =>
    obtain ⟨k, ys, qo, qa, hk, rfl, rfl, HY, HO, HB⟩ := hrel
    by_cases hlt : k < 24
    · have hlti : (k : Int) < 24 := by omega
      have kl : k < L.length := by rw [unhide HLN]; exact hlt
      have kr : k < m.refs.length := by rw [unhide HR24]; exact hlt
      have kli : (k : Int) < (L.length : Int) := by omega
      have kri : (k : Int) < (m.refs.length : Int) := by omega
      obtain ⟨c0, c1, c2, c3⟩ := ((unhide HV3).below (unhide HB)).cells
      obtain ⟨b1, o1, e1, hx1⟩ := ((unhide HI3).below (unhide HB)) k kl
      obtain ⟨b2, o2, e2, hx2⟩ := ((unhide HC3).r.below (unhide HB)) k kr
      subst e1
      rw [e2] at c0
      clear e2 c1 c2 c3
      have HYS := hide (ckL_yes (p := neP) kr kl)
      have HNS := hide (ckL_no (p := neP) kr kl)
      have HYL : Hid (ys.length ≤ 24) := hide (by rw [unhide HY]; have := ckL_len neP m.refs L k; omega)
      generalize L[k] = X at *
      generalize m.refs[k] = R at *
      cases hp : neP R X
      · have HS := hide (unhide HNS hp)
        have b0' : R = X := by simpa [neP] using hp
        have b1' : (X != R) = false := by rw [b0']; simp
        clear b0'
        clear hp
        go_wp2
        go_quiet (fail)
        generalize hW5 : (World.drewN _ _) = W5
        have HB5 : Hid (Below wr.heap.size wr W5) := hide (by rw [← hW5]; exact Joins.below_draws _ _ _)
        clear hW5
        go_wp2
        go_roundw
        case rel => exact ⟨k + 1, ys, qo, qa, by omega, by go_num, rfl, hide (by rw [unhide HS, unhide HY]), hide ((unhide HO).below (unhide HB5)), hide (fr (unhide HB) (unhide HB5))⟩
        case measure => simp [intOf]; omega
      · have HS := hide (unhide HYS hp)
        have b1' : (X != R) = true := bne_iff_ne.2 (fun e => by rw [e] at hp; simp [neP] at hp)
        clear hp
        go_wp2
        go_quiet (fail)
        generalize hW5 : (World.drewN _ _) = W5
        have HB5 : Hid (Below wr.heap.size wr W5) := hide (by rw [← hW5]; exact Joins.below_draws _ _ _)
        clear hW5 hx1 hx2 c0
        have HO5 := hide (((unhide HO).below (unhide HB5)).below (Joins.below_alloc1 W5 (.cells #[.int .i64 (k : Int)] 3)))
        have HBA := hide (fr (fr (unhide HB) (unhide HB5)) (Joins.below_alloc1 W5 (.cells #[.int .i64 (k : Int)] 3)))
        have HSZ := hide (fr (unhide HB) (unhide HB5)).size
        go_wp2_with (at_builtin; refine wpList_append_one rfl _ _ 22 rfl w3.heap.size 3 j0 (.int .i64 0) 1 8 Try.underlying22 hj hy0 hy1 hy2 rfl (by omega) qo ys.length qa _ rfl (unhide HO5) (by have := unhide HSZ; simp; omega) ⟨W5.heap.size, 0, none⟩ _ [.int .i64 (k : Int)] rfl rfl (byte_news W5 _ _) (int_one _) (by have := unhide HYL; unfold maxLen; omega) (by have := unhide HYL; omega) ?_; intro g2 cap2 wA hoA hkA; have HSF := hide (And.intro hoA (keep_below (unhide HBA) (unhide HO5) (Nat.le_refl _) hkA)); clear hoA hkA)
        go_roundw
        case rel => exact ⟨k + 1, ys ++ [(k : Int)], some ⟨g2, 0, none⟩, cap2, by omega, by go_num, by simp, hide (by rw [unhide HS, unhide HY]), hide (by rw [List.length_append, intV_snoc]; exact .inr ⟨by simp, (unhide HSF).1⟩), hide (unhide HSF).2⟩
        case measure => simp [intOf]; omega
    · have HS : Hid (ckL neP m.refs L k = ys) := hide (unhide HY).symm
      have HK24 : Hid (k = 24) := hide (by omega)
      have hge : ¬ (k : Int) < 24 := by omega
      clear hlt hk
      go_wp2
      go_ret2
      exact ⟨qo, qa, ret_sn (by rw [unhide HE, ← unhide HK24, unhide HS]) (by rw [unhide HE]), by rw [unhide HE, ← unhide HK24, unhide HS]; exact (unhide HO).base (unhide HB3).size, fr (unhide HB3) (unhide HB)⟩

set_option maxHeartbeats 3200000 in
theorem leaks_spec (a : Im4) (m : Img) (w : World) (hL : ImL m) (hc : ImS w a m) :
    Calls Try.prog 30 #[imV a m] w fun e w' => AnsN w w' e (wlA gtP m) := by
  obtain ⟨j0, hj, hy0, hy1, hy2⟩ := info_parts infoM
  have HA := hide (Joins.below_alloc1 w (.cells #[.slice a.ro m.refs.length a.rc, .slice a.tq m.table.length a.tc, .slice a.so m.snaps.length a.sc, .slice a.dq m.data.length a.dc] 29))
  have HV := hide (VarM.new w 29 (.slice a.ro m.refs.length a.rc) (.slice a.tq m.table.length a.tc) (.slice a.so m.snaps.length a.sc) (.slice a.dq m.data.length a.dc))
  have HC := hide (hc.below (unhide HA))
  have HL := hide hL
  clear hc hL
  go_enter Try.func30, Try.ntmps30
  go_upto_region 1 with fail
  revert HA HV HC
  generalize (w.alloc _) = W0
  intro HA HV HC
  obtain ⟨c0, c1, c2, c3⟩ := (unhide HV).cells
  go_wp2_with fail
  refine (l12Form_any a m _ (unhide HL) (unhide HC)).mono ?_
  rintro e w1 ⟨rfl, hb⟩
  have HB1 := hide (fr (unhide HA) hb)
  have HC1 := hide ((unhide HC).below hb)
  have HV1 := hide ((unhide HV).below hb)
  clear hb c0 c1 c2 c3 HA HV HC
  cases hk : ckB m
  · have HE : Hid (wlA gtP m = ([], 1)) := hide (by simp [wlA, hk])
    clear hk
    go_wp2
    go_ret2
    exact ⟨some ⟨w1.heap.size, 0, none⟩, 0, by rw [unhide HE]; rfl, by rw [unhide HE]; exact .inl ⟨rfl, rfl, _, rfl⟩, fr (unhide HB1) (Joins.below_alloc1 _ _)⟩
  have HE : Hid (wlA gtP m = (ckL gtP m.refs (imCnt m) 24, 0)) := hide (by simp [wlA, hk])
  have HP := hide (fm_parts (ck_parts hk).1)
  clear hk
  have HA2 := hide (Joins.below_alloc1 w1 (.cells #[] 3))
  have HV2 := hide ((unhide HV1).below (unhide HA2))
  have HC2 := hide ((unhide HC1).below (unhide HA2))
  have HB2 := hide (fr (unhide HB1) (unhide HA2))
  go_upto_region 4 with fail
  revert HB2
  revert HC2
  revert HV2
  revert HA2
  generalize (w1.alloc _) = W2
  generalize w1.heap.size = p1
  intro HA2 HV2 HC2 HB2
  obtain ⟨c0, c1, c2, c3⟩ := (unhide HV2).cells
  go_wp2_with fail
  refine (l10Count_any a m _ (unhide HP).2.1 (unhide HP).2.2.2 (unhide HC2)).mono ?_
  rintro e w3 ⟨v, rfl, ⟨no, na, rfl, ho⟩, hb⟩
  have HB3 := hide (fr (unhide HB2) hb)
  have HC3 := hide ((unhide HC2).below hb)
  have HV3 := hide ((unhide HV2).below hb)
  have HI3 := hide (ownRN ho)
  have HLN := hide (imCnt_len m)
  have HR24 := hide (ctB_len (unhide HP).1)
  clear ho hb c0 c1 c2 c3 HA2 HB2 HC2 HV2 HB1 HC1 HV1
  generalize imCnt m = L at *
  go_wp2
  go_loopw [4, 6] (fun o i wr => ∃ (k : Nat) (ys : List Int) (qo : Option Addr) (qa : Nat), k ≤ 24 ∧ i = .int .i64 k ∧ o = .slice qo ys.length qa ∧ Hid (ys = ckL gtP m.refs L k) ∧ Hid (OwnR wr w3.heap.size 3 1 (.slice qo ys.length qa) ys.length (intV ys)) ∧ Hid (Below w3.heap.size w3 wr)) (fun _ i _ => 24 - (intOf i).toNat)
  case atStart => exact ⟨0, [], _, _, by omega, rfl, rfl, hide rfl, hide (.inl ⟨rfl, rfl, _, rfl⟩), hide (Below.refl _ _)⟩
  case round =>
    obtain ⟨k, ys, qo, qa, hk, rfl, rfl, HY, HO, HB⟩ := hrel
    by_cases hlt : k < 24
    · have hlti : (k : Int) < 24 := by omega
      have kl : k < L.length := by rw [unhide HLN]; exact hlt
      have kr : k < m.refs.length := by rw [unhide HR24]; exact hlt
      have kli : (k : Int) < (L.length : Int) := by omega
      have kri : (k : Int) < (m.refs.length : Int) := by omega
      obtain ⟨c0, c1, c2, c3⟩ := ((unhide HV3).below (unhide HB)).cells
      obtain ⟨b1, o1, e1, hx1⟩ := ((unhide HI3).below (unhide HB)) k kl
      obtain ⟨b2, o2, e2, hx2⟩ := ((unhide HC3).r.below (unhide HB)) k kr
      subst e1
      rw [e2] at c0
      clear e2 c1 c2 c3
      have HYS := hide (ckL_yes (p := gtP) kr kl)
      have HNS := hide (ckL_no (p := gtP) kr kl)
      have HYL : Hid (ys.length ≤ 24) := hide (by rw [unhide HY]; have := ckL_len gtP m.refs L k; omega)
      generalize L[k] = X at *
      generalize m.refs[k] = R at *
      cases hp : gtP R X
      · have HS := hide (unhide HNS hp)
        have b1' : ¬ X < R := by simpa [gtP] using hp
        have b2' : decide (X < R) = false := decide_eq_false b1'
        clear hp
        go_wp2
        go_quiet (fail)
        generalize hW5 : (World.drewN _ _) = W5
        have HB5 : Hid (Below wr.heap.size wr W5) := hide (by rw [← hW5]; exact Joins.below_draws _ _ _)
        clear hW5
        go_wp2
        go_roundw
        case rel => exact ⟨k + 1, ys, qo, qa, by omega, by go_num, rfl, hide (by rw [unhide HS, unhide HY]), hide ((unhide HO).below (unhide HB5)), hide (fr (unhide HB) (unhide HB5))⟩
        case measure => simp [intOf]; omega
      · have HS := hide (unhide HYS hp)
        have b1' : X < R := by simpa [gtP] using hp
        clear hp
        go_wp2
        go_quiet (fail)
        generalize hW5 : (World.drewN _ _) = W5
        have HB5 : Hid (Below wr.heap.size wr W5) := hide (by rw [← hW5]; exact Joins.below_draws _ _ _)
        clear hW5 hx1 hx2 c0
        have HO5 := hide (((unhide HO).below (unhide HB5)).below (Joins.below_alloc1 W5 (.cells #[.int .i64 (k : Int)] 3)))
        have HBA := hide (fr (fr (unhide HB) (unhide HB5)) (Joins.below_alloc1 W5 (.cells #[.int .i64 (k : Int)] 3)))
        have HSZ := hide (fr (unhide HB) (unhide HB5)).size
        go_wp2_with (at_builtin; refine wpList_append_one rfl _ _ 22 rfl w3.heap.size 3 j0 (.int .i64 0) 1 8 Try.underlying22 hj hy0 hy1 hy2 rfl (by omega) qo ys.length qa _ rfl (unhide HO5) (by have := unhide HSZ; simp; omega) ⟨W5.heap.size, 0, none⟩ _ [.int .i64 (k : Int)] rfl rfl (byte_news W5 _ _) (int_one _) (by have := unhide HYL; unfold maxLen; omega) (by have := unhide HYL; omega) ?_; intro g2 cap2 wA hoA hkA; have HSF := hide (And.intro hoA (keep_below (unhide HBA) (unhide HO5) (Nat.le_refl _) hkA)); clear hoA hkA)
        go_roundw
        case rel => exact ⟨k + 1, ys ++ [(k : Int)], some ⟨g2, 0, none⟩, cap2, by omega, by go_num, by simp, hide (by rw [unhide HS, unhide HY]), hide (by rw [List.length_append, intV_snoc]; exact .inr ⟨by simp, (unhide HSF).1⟩), hide (unhide HSF).2⟩
        case measure => simp [intOf]; omega
    · have HS : Hid (ckL gtP m.refs L k = ys) := hide (unhide HY).symm
      have HK24 : Hid (k = 24) := hide (by omega)
      have hge : ¬ (k : Int) < 24 := by omega
      clear hlt hk
      go_wp2
      go_ret2
      exact ⟨qo, qa, ret_sn (by rw [unhide HE, ← unhide HK24, unhide HS]) (by rw [unhide HE]), by rw [unhide HE, ← unhide HK24, unhide HS]; exact (unhide HO).base (unhide HB3).size, fr (unhide HB3) (unhide HB)⟩

end Go.Proofs.Ytjoafbkcnnhdiab

namespace Go.Proofs.Ytjoafbkcnnhdiab
open Go.RowKit
set_option linter.unusedVariables false
set_option maxRecDepth 100000

section
variable {P : Program}

theorem run_copy_whole (w : World) (dT sT ty elem : TypeId) (size g n dCap : Nat) (a : Addr) (sCap : Nat) (cur : Array Value) (t : TypeId) (cs : List Value)
    (hu : P.underlying dT = some (.slice elem)) (hs : (P.info? elem).map (·.size) = some size)
    (hg : w.heap[g]? = some (.cells cur t (0, 0))) (hl : n * size = cs.length)
    (hsrc : ∀ j v, cs[j]? = some v → w.cell? (a.add j) = some v) (hfit : cs.length ≤ cur.size) (h1 : ∀ v ∈ cs, v.oneCell' = true) :
    (Builtin.copy_ #[dT, sT] ty #[.slice (some ⟨g, 0, none⟩) n dCap, .slice (some a) n sCap]).run P w = .ok (goInt n) (w.setRow g (cs ++ cur.toList.drop cs.length).toArray) := by
  have hld := run_loadCells_list (P := P) w a cs hsrc
  have hst := run_storeCells_at P g 0 t cs 0 cur w hg (by simpa using hfit) h1
  cases hq : P.info? elem with
  | none => simp [hq] at hs
  | some i =>
    have hi : i.size = size := by simpa [hq] using hs
    simp [Builtin.copy_, run_underlying hu, Builtin.lenOf, Builtin.firstCells, sizeOf, typeInfo, hq, hi, hl, hld, hst]

theorem wpList_copy_whole {w : World} {ops : Array Oper} {rest : List Oper} {o : Oper} {a : Act} {Q : Exit → Act → World → Prop} (hgd : o.guard = none) (d s : Operand) (dT sT : TypeId)
    (ho : o.op = .call { callee := .builtin .copy, args := #[d, s], argTypes := #[dT, sT] }) (elem : TypeId) (size : Nat) (hu : P.underlying dT = some (.slice elem)) (hsz : (P.info? elem).map (·.size) = some size)
    (B g n : Nat) (ad : Addr) (sCap : Nat) (hd : a.eval d = .slice (some ⟨g, 0, none⟩) n n) (hs : a.eval s = .slice (some ad) n sCap)
    (xs : List Value) (hown : w.ownsRow B elem size (.slice (some ⟨g, 0, none⟩) n n) n xs) (cs : List Value) (hn : cs.length = n * size)
    (hsrc : ∀ j v, cs[j]? = some v → w.cell? (ad.add j) = some v) (h1 : ∀ v ∈ cs, v.oneCell' = true)
    (h : ∀ w', w'.ownsRow B elem size (.slice (some ⟨g, 0, none⟩) n n) n cs → w.grownBy w' (some g) → wpList P ops Q rest (a.put o.dst (goInt n)) w') : wpList P ops Q (o :: rest) a w := by
  refine wpList_plain hgd fun K hK => ?_
  rcases hown.2 with ⟨e, _⟩ | ⟨g', cap', cur, e, hB, hg, hnc, hcm, hcs, ht⟩
  · simp at e
  · simp only [Value.slice.injEq, Option.some.injEq, Addr.mk.injEq, and_true, true_and] at e
    obtain ⟨rfl, rfl⟩ := e
    have hrun := run_copy_whole (P := P) w dT sT o.type elem size g n n ad sCap cur elem cs hu hsz hg hn.symm hsrc (by omega) h1
    unfold Oper.wp
    simp [execOp, ho, resolve, invoke, builtin, hd, hs, hrun, Result.andThen]
    refine hK _ _ (h _ ⟨hn, .inr ⟨g, n, _, rfl, hB, setRow_heap w g _ _ elem _ hg, hnc, hcm, ?_, ?_⟩⟩ ⟨rfl, rfl, rfl, by simp, fun k _ hk => setRow_other w g k _ (fun e => hk (by simp [e]))⟩)
    · simp; omega
    · rw [← hn]; simp
end

end Go.Proofs.Ytjoafbkcnnhdiab

namespace Go.Proofs.Ytjoafbkcnnhdiab
open Go.RowKit
set_option linter.unusedVariables false
set_option maxRecDepth 100000

theorem sizeA24 : (Try.prog.info? 65).map (·.size) = some 24 := by kernel_rfl
theorem arr24 : Try.prog.arrayLen 65 = 24 := by kernel_rfl
theorem und24 : Try.prog.underlying 65 = some (.array 24 3) := by kernel_rfl
theorem sizeA {xs : List Int} (h : xs.length = 24) : (Try.prog.info? 65).map (·.size) = some (intV xs).toArray.size := by rw [intV_size, h]; exact sizeA24
set_option maxHeartbeats 800000 in
theorem refsOK_impl (ao : Option Addr) (cap : Nat) (xs : List Int) (w : World) (hl : xs.length ≤ maxLen) (hc : Is w ao xs) :
    Calls Try.prog 73 #[.slice ao xs.length cap] w fun e w' => e = .returned (.bool (ctB xs)) ∧ w' = w := by
  have HC := hide hc
  clear hc
  unfold maxLen at hl
  by_cases h24 : xs.length = 24
  · have hb : ((xs.length : Int) != 24) = false := by simp [h24]
    have H24 := hide h24
    clear h24
    go_enter Try.func73, Try.ntmps73
    go_wp2
    go_loop [10] (fun i => ∃ k : Nat, k ≤ xs.length ∧ i = .int .i64 k ∧ Hid (∀ j (h : j < xs.length), j < k → cnt1 xs[j] = true)) (fun i => xs.length - (intOf i).toNat)
    case atStart => exact ⟨0, Nat.zero_le _, rfl, hide (fun j _ h => by omega)⟩
    case round =>
      obtain ⟨k, hk, rfl, HA⟩ := hrel
      by_cases hlt : k < xs.length
      · obtain ⟨b, off, rfl, hc⟩ := unhide HC k hlt
        by_cases hn : cnt1 xs[k] = true
        · have HN := hide (all_succ hlt (unhide HA) hn)
          have hn' : betw xs[k] 0 15 = true := hn
          clear hn
          go_wp2_with (go_at_call 42; refine (within_any _ _ _ _).mono ?_; rintro e w' ⟨rfl, rfl⟩)
          go_round
          case rel => exact ⟨k + 1, by omega, by go_num, HN⟩
          case measure => simp [intOf]; omega
        · have hn0 : cnt1 xs[k] = false := by simpa using hn
          have hn' : betw xs[k] 0 15 = false := hn0
          have HF := hide (ctB_noat hlt hn0)
          clear hn hn0
          go_wp2_with (go_at_call 42; refine (within_any _ _ _ _).mono ?_; rintro e w' ⟨rfl, rfl⟩)
          go_ret
          exact ⟨ret_bool (unhide HF).symm, rfl⟩
      · have HF := hide (ctB_of (unhide H24) (fun j h => unhide HA j h (by omega)))
        go_wp2
        go_ret
        exact ⟨ret_bool (unhide HF).symm, rfl⟩
  · have hb : ((xs.length : Int) != 24) = true := by simp; omega
    have HF := hide (ctB_nolen h24)
    clear h24
    go_enter Try.func73, Try.ntmps73
    go_wp2
    go_ret
    exact ⟨ret_bool (unhide HF).symm, rfl⟩

abbrev ctV (xs : List Int) : Value := .agg (intV xs).toArray
theorem arr_new (w : World) : (w.alloc (.cells #[.int .i64 0, .int .i64 0, .int .i64 0, .int .i64 0, .int .i64 0, .int .i64 0, .int .i64 0, .int .i64 0, .int .i64 0, .int .i64 0, .int .i64 0, .int .i64 0, .int .i64 0, .int .i64 0, .int .i64 0, .int .i64 0, .int .i64 0, .int .i64 0, .int .i64 0, .int .i64 0, .int .i64 0, .int .i64 0, .int .i64 0, .int .i64 0] 65)).heap[w.heap.size]? = some (.cells (intV zero24).toArray 65 (0, 0)) := heap_alloc_new w _
abbrev VarC (W : World) (g : Nat) (xs : List Int) : Prop := W.heap[g]? = some (.cells (intV xs).toArray 65 (0, 0))
theorem intV_ones (xs : List Int) : ∀ v ∈ intV xs, v.oneCell' = true := by
  intro v hv
  simp only [intV, List.mem_map] at hv
  obtain ⟨n, _, rfl⟩ := hv
  rfl
theorem sizeI1 : (Try.prog.info? 3).map (·.size) = some 1 := by kernel_rfl
theorem runI1 (W : World) : (Go.sizeOf 3).run Try.prog W = .ok 1 W := by
  have h := sizeI1
  cases hq : Try.prog.info? 3 with
  | none => simp [hq] at h
  | some i =>
    have hi : i.size = 1 := by simpa [hq] using h
    simp [Go.sizeOf, typeInfo, hq, hi]
set_option maxHeartbeats 1600000 in
theorem copyI_any (b off cap : Nat) (ss : List Int) (w : World) (hl : ss.length ≤ 1048576) (h0 : 0 < ss.length) (hbl : b < w.heap.size) (hc : w.rangeAt b off (intV ss)) :
    Calls Try.prog 78 #[.slice (some ⟨b, off, none⟩) ss.length cap] w fun e w' => e = .returned (.slice (some ⟨w.heap.size, 0, none⟩) ss.length ss.length) ∧ w'.ownsRow w.heap.size 3 1 (.slice (some ⟨w.heap.size, 0, none⟩) ss.length ss.length) ss.length (intV ss) ∧ Below w.heap.size w w' := by
  have hb : ((ss.length : Int) == 0) = false := beq_eq_false_iff_ne.2 (by omega)
  have HCS := hide hc
  have HP := hide h0
  clear hc h0
  obtain ⟨i0, hi, hz0, hz1, hz2⟩ := info_parts infoM
  go_enter Try.func78, Try.ntmps78
  go_wp2_with (first | (at_make; refine wpList_make_full _ rfl _ _ 22 rfl w.heap.size 3 i0 _ 1 Try.underlying22 hi hz0 hz1 _ _ _ _ ss.length rfl rfl rfl rfl ?c1 ?c2 ?c3 ?_))
  case c1 => rw [hz2]; omega
  case c2 => unfold maxLen; omega
  case c3 => exact Nat.le_refl _
  intro w1 hown hgrow
  have hB : Below w.heap.size w w1 := (Below.refl _ _).grown hgrow (Nat.le_refl _) (fun _ h => by cases h)
  have HO := hide hown
  have HB := hide hB
  have HC1 : Hid (∀ j v, (intV ss)[j]? = some v → w1.cell? (Addr.add ⟨b, off, none⟩ j) = some v) := hide (fun j v hv => ((unhide HB).cell (by unfold Addr.add; split <;> exact hbl)).trans (by rw [Addr.add_mid]; exact unhide HCS j v hv))
  clear hown hgrow hB
  go_wp2_with (refine wpList_copy_whole rfl _ _ 22 22 rfl 3 1 Try.underlying22 sizeI1 w.heap.size w.heap.size ss.length ⟨b, off, none⟩ _ rfl rfl _ (unhide HO) (intV ss) (by rw [intV_length]; omega) (unhide HC1) (intV_ones ss) ?_; intro w2 ho2 hg2)
  have HB2 := hide ((unhide HB).grown hg2 (unhide HB).size (fun k h => by cases h; exact Nat.le_refl _))
  have HO2 := hide ho2
  clear ho2 hg2
  go_ret
  exact ⟨rfl, unhide HO2, unhide HB2⟩

theorem slice24 (W : World) (g : Nat) : (Instr.sliceAt 65 (.pointer (some ⟨g, 0, none⟩)) none none none).run Try.prog W = .ok (.slice (some ⟨g, 0, none⟩) 24 24) W := by
  have hu : Try.prog.underlying 65 = some (.array (Try.prog.arrayLen 65) (Try.prog.elem 65)) := by kernel_rfl
  have he : Try.prog.elem 65 = 3 := by kernel_rfl
  rw [run_sliceAt_array_all W _ _ hu, he, runI1, arr24]
  simp only [Result.andThen, slicedAt, Nat.mul_one, Nat.sub_zero]
  rfl
set_option maxHeartbeats 1600000 in
theorem list_any (xs : List Int) (w : World) (hl : xs.length = 24) :
    Calls Try.prog 57 #[ctV xs] w fun e w' => ∃ g, e = .returned (.slice (some ⟨g, 0, none⟩) 24 24) ∧ w'.ownsRow w.heap.size 3 1 (.slice (some ⟨g, 0, none⟩) 24 24) 24 (intV xs) ∧ Below w.heap.size w w' := by
  have HN : Hid (VarC (w.alloc (.cells (intV xs).toArray 65)) w.heap.size xs) := hide (heap_alloc_new w _)
  have HA := hide (Joins.below_alloc1 w (.cells (intV xs).toArray 65))
  have HL := hide hl
  have hsl := fun W => slice24 W w.heap.size
  clear hl
  go_enter Try.func57, Try.ntmps57
  go_upto_region 1 with fail
  revert HN HA
  generalize (w.alloc _) = W1
  intro HN HA
  go_wp2_with fail
  have k := copyI_any w.heap.size 0 24 xs W1 (by rw [unhide HL]; omega) (by rw [unhide HL]; omega) (Array.getElem?_eq_some_iff.1 (unhide HN)).1 (fun j v hv => by rw [Nat.zero_add, Joins.cell_of_block (unhide HN)]; simpa using hv)
  rw [unhide HL] at k
  refine k.mono ?_
  rintro e w2 ⟨rfl, ho, hb⟩
  have HO := hide (own_base ho (unhide HA).size)
  have HB := hide (fr (unhide HA) hb)
  clear ho hb k
  go_wp2
  go_ret
  exact ⟨_, rfl, unhide HO, unhide HB⟩

end Go.Proofs.Ytjoafbkcnnhdiab

namespace Go.Proofs.Ytjoafbkcnnhdiab
open Go.RowKit
set_option linter.unusedVariables false
set_option maxRecDepth 100000

end Go.Proofs.Ytjoafbkcnnhdiab

namespace Go.Proofs.Ytjoafbkcnnhdiab
open Go.RowKit
set_option linter.unusedVariables false
set_option maxRecDepth 100000

set_option maxHeartbeats 800000 in
theorem tableOK_impl (ao : Option Addr) (cap : Nat) (xs : List Int) (w : World) (hl : xs.length ≤ maxLen) (hc : Is w ao xs) :
    Calls Try.prog 85 #[.slice ao xs.length cap] w fun e w' => e = .returned (.bool (tbB xs)) ∧ w' = w := by
  have HC := hide hc
  clear hc
  unfold maxLen at hl
  by_cases hlong : 12 < xs.length
  · have HF := hide (tbB_nolen (xs := xs) (by omega))
    go_enter Try.func85, Try.ntmps85
    go_wp2
    go_ret
    exact ⟨ret_bool (unhide HF).symm, rfl⟩
  go_enter Try.func85, Try.ntmps85
  go_wp2
  go_loop [10] (fun i => ∃ k : Nat, k ≤ xs.length ∧ i = .int .i64 k ∧ Hid (∀ j (h : j < xs.length), j < k → ent1 xs[j] = true)) (fun i => xs.length - (intOf i).toNat)
  case atStart => exact ⟨0, Nat.zero_le _, rfl, hide (fun j _ h => by omega)⟩
  case round =>
    obtain ⟨k, hk, rfl, HA⟩ := hrel
    by_cases hlt : k < xs.length
    · obtain ⟨b, off, rfl, hc⟩ := unhide HC k hlt
      by_cases hn : ent1 xs[k] = true
      · have HN := hide (all_succ hlt (unhide HA) hn)
        have hn' : betw xs[k] 0 25 = true := hn
        clear hn
        go_wp2_with (go_at_call 42; refine (within_any _ _ _ _).mono ?_; rintro e w' ⟨rfl, rfl⟩)
        go_round
        case rel => exact ⟨k + 1, by omega, by go_num, HN⟩
        case measure => simp [intOf]; omega
      · have hn0 : ent1 xs[k] = false := by simpa using hn
        have hn' : betw xs[k] 0 25 = false := hn0
        have HF := hide (tbB_noat hlt hn0)
        clear hn hn0
        go_wp2_with (go_at_call 42; refine (within_any _ _ _ _).mono ?_; rintro e w' ⟨rfl, rfl⟩)
        go_ret
        exact ⟨ret_bool (unhide HF).symm, rfl⟩
    · have HF := hide (tbB_of (xs := xs) (by omega) (fun j h => unhide HA j h (by omega)))
      go_wp2
      go_ret
      exact ⟨ret_bool (unhide HF).symm, rfl⟩

theorem splitEntry_any (n : Int) (w : World) (h0 : -1000 ≤ n) (h1 : n ≤ 1000) :
    Calls Try.prog 95 #[.int .i64 n] w fun e w' => e = .returned (.tuple #[.int .i64 (min n 2), .int .i64 (max 0 (n - 2))]) ∧ w' = w := by
  by_cases h : n < 2
  · have HM : Hid (n = min n 2 ∧ (0 : Int) = max 0 (n - 2)) := hide ⟨by omega, by omega⟩
    go_enter Try.func95, Try.ntmps95
    go_wp2
    go_ret2
    exact ⟨ret_two2 (unhide HM).1 (unhide HM).2, rfl⟩
  · have HM : Hid ((2 : Int) = min n 2 ∧ n - 2 = max 0 (n - 2)) := hide ⟨by omega, by omega⟩
    have hw2 : IntKind.i64.wrap (n - 2) = n - 2 := by rw [IntKind.wrap_i64]; omega
    go_enter Try.func95, Try.ntmps95
    go_wp2
    go_ret2
    exact ⟨ret_two2 (unhide HM).1 (unhide HM).2, rfl⟩

end Go.Proofs.Ytjoafbkcnnhdiab

namespace Go.Proofs.Ytjoafbkcnnhdiab
open Go.RowKit
set_option linter.unusedVariables false
set_option maxRecDepth 100000

theorem clusterOfData_any (k c : Int) (w : World) :
    Calls Try.prog 94 #[.int .i64 k, .int .i64 c] w fun e w' => e = .returned (.tuple #[.int .i64 c, .bool (k == 2)]) ∧ w' = w := by
  go_enter Try.func94, Try.ntmps94
  go_wp2
  go_ret2
  exact ⟨rfl, rfl⟩

set_option maxHeartbeats 1600000 in
theorem takeEntries_any (ao : Option Addr) (cap : Nat) (xs : List Int) (w : World) (hl : xs.length ≤ 1048576) (hi : ∀ j (h : j < xs.length), -1000 ≤ xs[j] ∧ xs[j] ≤ 1000) (hc : Is w ao xs) :
    Calls Try.prog 93 #[.slice ao xs.length cap, .func (.func 94) #[] #[]] w fun e w' => ∃ v, e = .returned v ∧ OwnN w' w.heap.size v (clA xs) ∧ Below w.heap.size w w' := by
  obtain ⟨j0, hj, hy0, hy1, hy2⟩ := info_parts infoM
  have HC := hide hc
  have HI := hide hi
  clear hc hi
  go_enter Try.func93, Try.ntmps93
  go_wp2
  go_loopw [5, 12] (fun o i wr => ∃ (k : Nat) (ys : List Int) (qo : Option Addr) (qa : Nat), k ≤ xs.length ∧ i = .int .i64 k ∧ o = .slice qo ys.length qa ∧ Hid (ys = clTo xs k) ∧ Hid (OwnR wr w.heap.size 3 1 (.slice qo ys.length qa) ys.length (intV ys)) ∧ Hid (Below w.heap.size w wr)) (fun _ i _ => xs.length - (intOf i).toNat)
  case atStart => exact ⟨0, [], _, _, Nat.zero_le _, rfl, rfl, hide rfl, hide (.inl ⟨rfl, rfl, _, rfl⟩), hide (Below.refl _ _)⟩
  case round =>
    obtain ⟨k, ys, qo, qa, hk, rfl, rfl, HE, HO, HB⟩ := hrel
    by_cases hlt : k < xs.length
    · obtain ⟨b, off, rfl, hcl⟩ := (unhide HC).below (unhide HB) k hlt
      have HIK := hide (unhide HI k hlt)
      by_cases h2 : 2 ≤ xs[k]
      · have HS := hide (clTo_data hlt h2)
        have HYL : Hid (ys.length ≤ 1048576) := hide (by rw [unhide HE]; have := clTo_len xs k; omega)
        have hyl := unhide HYL
        have HV : Hid (min xs[k] 2 = 2 ∧ max 0 (xs[k] - 2) = xs[k] - 2) := hide ⟨by omega, by omega⟩
        have HOA := hide ((unhide HO).below (Joins.below_alloc1 _ (.cells #[.int .i64 (xs[k] - 2)] 3)))
        have HBA := hide (fr (unhide HB) (Joins.below_alloc1 _ (.cells #[.int .i64 (xs[k] - 2)] 3)))
        have HSZ := hide (unhide HB).size
        clear h2
        go_wp2_with (first | (go_at_call 95; refine (splitEntry_any _ _ (by have := unhide HIK; omega) (by have := unhide HIK; omega)).mono ?_; rintro e w' ⟨rfl, hw⟩; replace hw := hw.symm; subst hw; rw [(unhide HV).1, (unhide HV).2]) | (go_at_call 94; refine (clusterOfData_any _ _ _).mono ?_; rintro e w' ⟨rfl, hw⟩; replace hw := hw.symm; subst hw) | (at_builtin; refine wpList_append_one rfl _ _ 22 rfl w.heap.size 3 j0 (.int .i64 0) 1 8 Try.underlying22 hj hy0 hy1 hy2 rfl (by omega) qo ys.length qa (intV ys) rfl (unhide HOA) (by have := unhide HSZ; simp; omega) ⟨wr.heap.size, 0, none⟩ _ [.int .i64 (xs[k] - 2)] rfl rfl (byte_news wr _ _) (int_one _) (by unfold maxLen; omega) (by omega) ?_; intro g2 cap2 wA hoA hkA; have HSF := hide (And.intro hoA (keep_below (unhide HBA) (unhide HOA) (Nat.le_refl _) hkA)); clear hoA hkA))
        go_roundw
        case rel => exact ⟨k + 1, ys ++ [xs[k] - 2], some ⟨g2, 0, none⟩, cap2, by omega, by go_num, by simp, hide (by rw [unhide HS, unhide HE]), hide (by rw [List.length_append, intV_snoc]; exact .inr ⟨by simp, (unhide HSF).1⟩), hide (unhide HSF).2⟩
        case measure => simp [intOf]; omega
      · have HS := hide (clTo_none hlt h2)
        have HV : Hid (min xs[k] 2 = xs[k] ∧ max 0 (xs[k] - 2) = 0) := hide ⟨by omega, by omega⟩
        have hb2 : (xs[k] == 2) = false := beq_eq_false_iff_ne.2 (by omega)
        clear h2
        go_wp2_with (first | (go_at_call 95; refine (splitEntry_any _ _ (by have := unhide HIK; omega) (by have := unhide HIK; omega)).mono ?_; rintro e w' ⟨rfl, hw⟩; replace hw := hw.symm; subst hw; rw [(unhide HV).1, (unhide HV).2]) | (go_at_call 94; refine (clusterOfData_any _ _ _).mono ?_; rintro e w' ⟨rfl, hw⟩; replace hw := hw.symm; subst hw; rw [hb2]))
        go_roundw
        case rel => exact ⟨k + 1, ys, qo, qa, by omega, by go_num, rfl, hide (by rw [unhide HS, unhide HE]), HO, HB⟩
        case measure => simp [intOf]; omega
    · have HS : Hid (clA xs = ys) := hide (by rw [unhide HE, clA, show k = xs.length by omega])
      go_wp2
      go_ret
      exact ⟨.slice qo ys.length qa, rfl, by rw [unhide HS]; exact ⟨qo, qa, rfl, unhide HO⟩, unhide HB⟩

end Go.Proofs.Ytjoafbkcnnhdiab

namespace Go.Proofs.Ytjoafbkcnnhdiab
open Go.RowKit Go.Maps
set_option linter.unusedVariables false
set_option maxRecDepth 100000

theorem lawI : Keyed Try.prog 3 := int_keyed Try.underlying3
theorem zeroI (w : World) : (zeroValue 3).run Try.prog w = .ok (.int .i64 0) w := by kernel_rfl
theorem wfI {n : Int} (h0 : -1000000 ≤ n) (h1 : n ≤ 1000000) : (Lit.int .i64 n).wf = true := WalkArith.wf_i64 (by omega)
theorem keyI {i : Nat} (h : i < 24) : keyOf Try.prog 3 (.int .i64 (i : Int)) = some (.int .i64 (i : Int)) := keyOf_int_mk Try.underlying3 (wfI (by omega) (by omega))
def MpC (w : World) (B n : Nat) (D : DataW Unit) (ns : List Int) : Prop := w.ownsMap Try.prog 3 (plainElem Try.prog 3) B n D ∧ ns.length = 24 ∧ (∀ i : Nat, i < 24 → D.atKey (.int .i64 (i : Int)) (.lit (.int .i64 0)) = .lit (.int .i64 (ns.getD i 0))) ∧ (∀ kl, has D kl = true → ∃ i : Nat, i < 24 ∧ kl = .int .i64 (i : Int))
theorem MpC.made (w : World) : MpC (w.alloc (.map #[] 0)) w.heap.size 0 (.map []) zero24 := ⟨World.ownsMap_made _ _ _ _, rfl, fun i hi => by
    have e : zero24.getD i 0 = 0 := by
      have h2 : ∀ i : Fin 24, zero24.getD i 0 = 0 := by decide
      exact h2 ⟨i, hi⟩
    rw [e]; rfl, fun kl h => by cases h⟩
theorem MpC.lt {w : World} {B n : Nat} {D : DataW Unit} {ns : List Int} (h : MpC w B n D ns) : B < w.heap.size := h.1.lt
theorem MpC.keep {S : Nat → Prop} {w w' : World} {B n : Nat} {D : DataW Unit} {ns : List Int} (h : MpC w B n D ns) (hk : Keep S w w') (hs : ¬ S B) : MpC w' B n D ns := by
  have hl := h.lt
  obtain ⟨⟨es, clock, hb, F, hn, hD⟩, h2⟩ := h
  exact ⟨⟨es, clock, (hk.block B hl hs).trans hb, F, hn, hD⟩, h2⟩
theorem MpC.below {w w' : World} {B n : Nat} {D : DataW Unit} {ns : List Int} (h : MpC w B n D ns) (hb : Below w.heap.size w w') : MpC w' B n D ns := h.keep (S := fun _ => False) (Keep.of_below hb) (fun h => h)
theorem MpC.mono {w : World} {B n n' : Nat} {D : DataW Unit} {ns : List Int} (h : MpC w B n D ns) (hn : n ≤ n') : MpC w B n' D ns := ⟨h.1.mono hn, h.2⟩
theorem keep_map {w w' : World} {B : Nat} (h : w.grownBy w' (some B)) : Keep (fun g => g = B) w w' := ⟨h.os, h.tape, h.output, h.size, fun k hk hs => h.block k hk (fun e => hs (Option.some.inj e))⟩
theorem MpC.put {w w' : World} {B n i : Nat} {D : DataW Unit} {ns : List Int} {c : Int} (h : MpC w B n D ns) (hi : i < 24) (ho : w'.ownsMap Try.prog 3 (plainElem Try.prog 3) B (n + 1) (D.put (.int .i64 (i : Int)) (.lit (.int .i64 c)))) : MpC w' B (n + 1) (D.put (.int .i64 (i : Int)) (.lit (.int .i64 c))) (ns.set i c) := by
  have hM : IsMap D := by obtain ⟨es, e, _⟩ := h.1.entries lawI; exact ⟨es, e⟩
  refine ⟨ho, by rw [List.length_set]; exact h.2.1, fun j hj => ?_, fun kl hk => ?_⟩
  · by_cases e : j = i
    · subst e
      rw [atKey_put_same (k := .int .i64 (j : Int)) hM trivial]
      simp [List.getD, h.2.1, hi]
    · rw [atKey_put_other (by intro h2; simp only [Lit.int.injEq, true_and] at h2; omega), h.2.2.1 j hj]
      simp [List.getD, Ne.symm e]
  · by_cases e : kl = .int .i64 (i : Int)
    · exact ⟨i, hi, e⟩
    · rw [has_put_other e] at hk
      exact h.2.2.2 kl hk
theorem MpC.look {w : World} {B n i : Nat} {D : DataW Unit} {ns : List Int} (h : MpC w B n D ns) (hi : i < 24) : (Instr.lookup 89 (.map (some B)) (.int .i64 (i : Int)) false).run Try.prog w = .ok (.int .i64 (ns.getD i 0)) w := by
  obtain ⟨c, hrun, hat, hwf⟩ := h.1.lookup_int lawI Try.underlying89 Try.underlying3 (zeroI _) (keyI hi)
  rw [h.2.2.1 i hi] at hat
  simp only [DataW.lit.injEq, Lit.int.injEq, true_and] at hat
  rw [hat]
  exact hrun
theorem fit_none : ∀ {clock : Nat}, Go.WideElems.Fit (H := Unit) Try.prog 3 (plainElem Try.prog 3) #[] clock := fun {clock} => ⟨by simp, MapKept.stamped_empty clock, by simp⟩
theorem MpC.clear {w : World} {B n : Nat} {D : DataW Unit} {ns : List Int} (h : MpC w B n D ns) (ty : TypeId) : ∃ w', (Builtin.clear_ #[89] ty #[.map (some B)]).run Try.prog w = .ok (.tuple #[]) w' ∧ MpC w' B 0 (.map []) zero24 ∧ Keep (fun g => g = B) w w' := by
  obtain ⟨⟨es, clock, hb, F, hn, hD⟩, h2⟩ := h
  refine ⟨ChangeMaps.setBlock w B (.map #[] clock), ?_, ⟨⟨#[], clock, ChangeMaps.heap_setBlock_same hb _, fit_none, Nat.le_refl _, rfl⟩, (MpC.made w).2⟩, ⟨rfl, rfl, rfl, by simp [ChangeMaps.setBlock], fun k _ hk => ChangeMaps.heap_setBlock_other hb _ hk⟩⟩
  simp [Builtin.clear_, run_underlying Try.underlying89, MapKept.run_getObj_map hb, MapKept.run_setObj_map _ hb, Result.andThen, ChangeMaps.setBlock]
theorem wpList_count {w : World} {ops : Array Oper} {rest : List Oper} {o : Oper} {a : Act} {Q : Exit → Act → World → Prop} (hg : o.guard = none) (m x v : Operand) (hop : o.op = Op.mapUpdate 89 m x v)
    {B n i : Nat} {D : DataW Unit} {ns : List Int} {c : Int} (hm : a.eval m = .map (some B)) (h : MpC w B n D ns) (hn : n < 1000000) (hx : a.eval x = .int .i64 (i : Int)) (hi : i < 24) (hv : a.eval v = .int .i64 c) (hc : -1000000 ≤ c ∧ c ≤ 1000000)
    (hK : ∀ w' D', MpC w' B (n + 1) D' (ns.set i c) → Keep (fun g => g = B) w w' → wpList Try.prog ops Q rest (a.put o.dst undef) w') : wpList Try.prog ops Q (o :: rest) a w :=
  wpList_mapUpdate_own w hg m x v 89 hop 3 3 lawI Try.underlying89 _ B n D hm h.1 (by unfold maxLen; omega) _ _ _ hx hv (keyI hi) _ [] (plainElem_int Try.underlying3 (wfI hc.1 hc.2)) (fun w' ho hg' => hK w' _ (h.put hi ho) (keep_map hg'))

theorem incr_get (ns : List Int) (hl : ns.length = 24) (c i : Nat) (hc : c < 24) (hi : i < 24) : (incr ns (c : Int)).getD i 0 = ns.getD i 0 + (if i = c then 1 else 0) := by
  rw [incr_set]
  simp only [List.getD, List.getElem?_set]
  by_cases e : i = c
  · subst e; simp [hl, hi]
  · simp [e, Ne.symm e]
theorem fold_incr_get (i : Nat) (hi : i < 24) : ∀ (L : List Int), (∀ c ∈ L, 0 ≤ c ∧ c ≤ 23) → ∀ ns : List Int, ns.length = 24 → (L.foldl incr ns).getD i 0 = ns.getD i 0 + (L.count (i : Int) : Int) := by
  intro L
  induction L with
  | nil => intro _ ns _; simp
  | cons c L ih =>
    intro hL ns hl
    obtain ⟨c0, c1⟩ := hL c (by simp)
    obtain ⟨q, rfl⟩ := Int.eq_ofNat_of_zero_le c0
    rw [List.foldl_cons, ih (fun d hd => hL d (by simp [hd])) _ (by rw [incr_len]; exact hl), incr_get ns hl q i (by omega) hi, List.count_cons]
    by_cases e : i = q
    · subst e; simp; omega
    · have e2 : ¬ ((q : Int) = (i : Int)) := by omega
      simp [e, e2]
theorem nodup_count : ∀ (L : List Int), L.Nodup ↔ ∀ x ∈ L, L.count x ≤ 1 := by
  intro L
  induction L with
  | nil => simp
  | cons c L ih =>
    rw [List.nodup_cons, ih]
    constructor
    · rintro ⟨h1, h2⟩ x hx
      rw [List.count_cons]
      by_cases e : c = x
      · subst e
        rw [List.count_eq_zero_of_not_mem h1]; simp
      · have : x ∈ L := by simpa [Ne.symm e] using hx
        have := h2 x this
        simp [e]; omega
    · intro h
      refine ⟨fun hm => ?_, fun x hx => ?_⟩
      · have h1 := h c (by simp)
        rw [List.count_cons] at h1
        have := List.count_pos_iff.2 hm
        simp at h1; omega
      · have h1 := h x (by simp [hx])
        rw [List.count_cons] at h1
        omega
theorem cl_mem {t : List Int} (h : tbB t = true) : ∀ c ∈ clA t, 0 ≤ c ∧ c ≤ 23 := fun c hc => by
  obtain ⟨j, hj, rfl⟩ := List.mem_iff_getElem.1 hc
  exact clA_in h j hj
theorem cnt1T_get {t : List Int} (h : tbB t = true) {ns : List Int} (hl : ns.length = 24) {i : Nat} (hi : i < 24) : (cnt1T ns t).getD i 0 = ns.getD i 0 + ((clA t).count (i : Int) : Int) := fold_incr_get i hi _ (cl_mem h) ns hl
theorem zero24_get {i : Nat} (hi : i < 24) : zero24.getD i 0 = 0 := by
  have h2 : ∀ i : Fin 24, zero24.getD i 0 = 0 := by decide
  exact h2 ⟨i, hi⟩
theorem once_yes {t : List Int} (h : tbB t = true) (hc : ∀ i, i < 24 → (cnt1T zero24 t).getD i 0 ≤ 1) : onceB t = true := by
  refine decide_eq_true ((nodup_count _).2 fun x hx => ?_)
  obtain ⟨c0, c1⟩ := cl_mem h x hx
  obtain ⟨q, rfl⟩ := Int.eq_ofNat_of_zero_le c0
  have := hc q (by omega)
  rw [cnt1T_get h rfl (by omega), zero24_get (by omega)] at this
  omega
theorem once_no {t : List Int} (h : tbB t = true) {i : Nat} (hi : i < 24) (hc : 1 < (cnt1T zero24 t).getD i 0) : onceB t = false := by
  refine decide_eq_false fun hn => ?_
  rw [cnt1T_get h rfl hi, zero24_get hi] at hc
  have hm : (i : Int) ∈ clA t := List.count_pos_iff.1 (by omega)
  have := (nodup_count _).1 hn _ hm
  omega

end Go.Proofs.Ytjoafbkcnnhdiab
