import Derived.Test.YthnpooffhopnkaaRows
import Derived.Test.YthnpooffhopnkaaPart1
import Derived.Test.YthnpooffhopnkaaPart3
import Derived.Test.YthnpooffhopnkaaPart2
import Derived.Test.YthnpooffhopnkaaPart4
import Derived.Test.YthnpooffhopnkaaPart5
import Derived.Test.YthnpooffhopnkaaPart6
import Derived.Test.YthnpooffhopnkaaPart8
import Derived.Test.YthnpooffhopnkaaPart7
import Derived.Test.YthnpooffhopnkaaPart12
import Derived.Test.YthnpooffhopnkaaPart9
import Derived.Test.YthnpooffhopnkaaPart13
import Derived.WalkKit
import Derived.WalkSpells
import Derived.BigQuiet
import Derived.Deep.QuietTactic
import Derived.Deep.RegionWith
import Derived.Deep.RegionHeld3
import Derived.KernelRfl
import Derived.Laws.OwnMore

/- Contracts of the model's ReadCluster, WriteCluster. (Made ahead of stage 10.) -/
namespace Go.Proofs.Ythnpooffhopnkaa
open Go.RowKit
set_option linter.unusedVariables false
set_option maxRecDepth 100000

/-- What the calls answer. -/
def rcA (m : Img) (g : Int) : Int × Int := if imB m = true then (if betw g 0 ((m.table.length : Int) - 1) = true then (imVal m (m.table.getD g.toNat 0), 0) else (0, 4)) else (0, 1)
def wcA (m : Img) (g v : Int) : Img × Int := if imB m = true then (if betw g 0 ((m.table.length : Int) - 1) = true ∧ numB v = true then imWrite m g.toNat v else (m, 4)) else (im0, 1)
def zcA (m : Img) (g : Int) : Img × Int := if imB m = true then (if betw g 0 ((m.table.length : Int) - 1) = true then (imZero m g.toNat, 0) else (m, 4)) else (im0, 1)
def rsA' (m : Img) (n : Int) : Img × Int := if imB m = true then (if betw n 0 12 = true then (imResize m n.toNat, 0) else (m, 4)) else (im0, 1)
/-- The entry's variable, the result's beside it. -/
structure ImE (w W : World) (a : Im4) (m : Img) : Prop where
  v : VarM W w.heap.size 45 (.slice a.ro m.refs.length a.rc) (.slice a.tq m.table.length a.tc) (.slice a.so m.snaps.length a.sc) (.slice a.dq m.data.length a.dc)
  r : VarM W (w.heap.size + 1) 45 (.slice none 0 0) (.slice none 0 0) (.slice none 0 0) (.slice none 0 0)
  s : ImS W a m
  b : Below w.heap.size w W
theorem ImE.new (w : World) (a : Im4) (m : Img) (h : ImS w a m) : ImE w ((w.alloc (.cells #[.slice a.ro m.refs.length a.rc, .slice a.tq m.table.length a.tc, .slice a.so m.snaps.length a.sc, .slice a.dq m.data.length a.dc] 45)).alloc (.cells #[.slice none 0 0, .slice none 0 0, .slice none 0 0, .slice none 0 0] 45)) a m :=
  ⟨(VarM.new w _ _ _ _ _).below (Joins.below_alloc1 _ _), (VarM.new (w.alloc _) _ _ _ _ _).at (by simp), h.below (Joins.below_alloc2 _ _ _), Joins.below_alloc2 _ _ _⟩
theorem ImE.below {w W W' : World} {a : Im4} {m : Img} (h : ImE w W a m) (hb : Below W.heap.size W W') : ImE w W' a m := ⟨h.v.below hb, h.r.below hb, h.s.below hb, fr h.b hb⟩
/-- A result that is put. -/
theorem ImE.put {w W W' : World} {a : Im4} {m : Img} (h : ImE w W a m) (hb : Below W.heap.size W W') {a' : Im4} {m' : Img} {ts : List Value} (ho : OwnIm W' W.heap.size a' m' ts) :
    VarM (putI W' (w.heap.size + 1) a' m') (w.heap.size + 1) 45 (.slice a'.ro m'.refs.length a'.rc) (.slice a'.tq m'.table.length a'.tc) (.slice a'.so m'.snaps.length a'.sc) (.slice a'.dq m'.data.length a'.dc) ∧ OwnIm (putI W' (w.heap.size + 1) a' m') w.heap.size a' m' ts ∧ Below w.heap.size w (putI W' (w.heap.size + 1) a' m') := by
  obtain ⟨h1, h2, h3⟩ := ImSt.put (h.r.below hb) ho (fr h.b hb) (Nat.le_succ _) h.r.lt a' m'
  exact ⟨h1, h2.base h.b.size, h3⟩
/-- The empty image as a result. -/
theorem ImE.zero {w W : World} {a : Im4} {m : Img} (h : ImE w W a m) :
    VarM ((((W.setCell ⟨w.heap.size + 1, 0, none⟩ (.slice none 0 0)).setCell ⟨w.heap.size + 1, 1, none⟩ (.slice none 0 0)).setCell ⟨w.heap.size + 1, 2, none⟩ (.slice none 0 0)).setCell ⟨w.heap.size + 1, 3, none⟩ (.slice none 0 0)) (w.heap.size + 1) 45 (.slice none 0 0) (.slice none 0 0) (.slice none 0 0) (.slice none 0 0) ∧
    Below w.heap.size w ((((W.setCell ⟨w.heap.size + 1, 0, none⟩ (.slice none 0 0)).setCell ⟨w.heap.size + 1, 1, none⟩ (.slice none 0 0)).setCell ⟨w.heap.size + 1, 2, none⟩ (.slice none 0 0)).setCell ⟨w.heap.size + 1, 3, none⟩ (.slice none 0 0)) :=
  ⟨(((h.r.set0 _).set1 _).set2 _).set3 _, (((h.b.setCell (p := ⟨w.heap.size + 1, 0, none⟩) (Nat.le_succ _) _).setCell (p := ⟨w.heap.size + 1, 1, none⟩) (Nat.le_succ _) _).setCell (p := ⟨w.heap.size + 1, 2, none⟩) (Nat.le_succ _) _).setCell (p := ⟨w.heap.size + 1, 3, none⟩) (Nat.le_succ _) _⟩
/-- An answer: an image of its own and a code. -/
def AnsI (w w' : World) (e : Ending) (R : Img × Int) : Prop := ∃ a ts, e = .returned (.tuple #[imV a R.1, .int .i64 R.2]) ∧ OwnIm w' w.heap.size a R.1 ts ∧ Below w.heap.size w w'
theorem AnsI.of {w w' : World} {v : Value} {c : Int} {R : Img × Int} {a : Im4} {ts : List Value} (hv : v = imV a R.1) (hc : c = R.2) (ho : OwnIm w' w.heap.size a R.1 ts) (hb : Below w.heap.size w w') : AnsI w w' (.returned (.tuple #[v, .int .i64 c])) R := ⟨a, ts, by rw [hv, hc], ho, hb⟩
theorem AnsI.bad {w w' : World} (c : Int) (hb : Below w.heap.size w w') : AnsI w w' (.returned (.tuple #[.agg #[.slice none 0 0, .slice none 0 0, .slice none 0 0, .slice none 0 0], .int .i64 c])) (im0, c) := ⟨⟨none, 0, none, 0, none, 0, none, 0⟩, [], rfl, OwnIm.zero _ _, hb⟩

end Go.Proofs.Ythnpooffhopnkaa

/- The walk of laws.FnExactGuestOf, given what both functions answer. (Made ahead of stage 10; written by gens/lawim.py.) -/
namespace Go.Proofs.Ythnpooffhopnkaa
open Go.RowKit
set_option linter.unusedVariables false
set_option maxRecDepth 100000

theorem OwnIm.otherX {w : World} {B x t : Nat} {a : Im4} {m : Img} {ts : List Value} {c : Array Value} {f : Nat × Nat} (h : OwnIm w B a m ts) (hv : w.heap[x]? = some (.cells c t f)) (k1 : t ≠ 3) (k2 : t ≠ 83) : ¬ ImB a m ts x := by
  intro hx
  rcases hx with h1 | h1 | h1 | h1 | ⟨t, ht, h1⟩
  · exact (h.rows.own (.slice a.ro m.refs.length a.rc, m.refs) (by simp [imRows])).row.other hv k1 h1
  · exact (h.rows.own (.slice a.tq m.table.length a.tc, m.table) (by simp [imRows])).row.other hv k1 h1
  · exact (h.rows.own (.slice a.dq m.data.length a.dc, m.data) (by simp [imRows])).row.other hv k1 h1
  · exact h.s.other hv k2 h1
  · have hm : t ∈ (ts.zip (m.snaps.map (·.table))).map Prod.fst := by rw [zip_fst _ _ (by rw [List.length_map, h.len])]; exact ht
    obtain ⟨p, hp, rfl⟩ := List.mem_map.1 hm
    exact (h.rows.own p (by simp [imRows, hp])).row.other hv k1 h1
/-- A guest is kept while an image's rows are turned. -/
theorem LwG.keepImg {W W' : World} {p n q n' : Nat} {a : Gs4} {b : Im4} {g : Gst} {m' : Img} {ts us : List Value} (h : LwG W p n a g ts) (h2 : LwV W q n' b m' us) (hk : Keep (ImB b m' us) W W') (hs : ∀ x, GsB a g ts x → ¬ ImB b m' us x) : LwG W' p n a g ts :=
  ⟨(hk.block p h.v.lt (h2.o.otherX h.v (by decide) (by decide))).trans h.v, h.o.keep hk hs, Nat.le_trans h.n hk.size⟩

structure LqJGuestOf (Wq : World) (AX AA : Value) (m : Img) (d : Nat → Bool) (w : World) (s41 s42 s43 s44 s45 : Value) : Prop where
  bw : Below Wq.heap.size Wq w
  p2 : d 2 = true → ∃ a1 ts, s43 = imV a1 m ∧ OwnIm w Wq.heap.size a1 m ts
  f0 : d 0 = true → s41 = AX
  f1 : d 1 = true → s42 = AA
  f3 : d 3 = true → s44 = .bool true
  f4 : d 4 = true → s45 = .bool false

theorem LqJGuestOf.s0 {Wq : World} {AX AA : Value} {m : Img} {d : Nat → Bool} {w : World} {s41 s42 s43 s44 s45 v : Value} (I : LqJGuestOf Wq AX AA m d w s41 s42 s43 s44 s45) (hd : d 0 = false) (hv : v = AX) : LqJGuestOf Wq AX AA m (updD d 0) w v s42 s43 s44 s45 where
  bw := I.bw
  p2 := fun h => I.p2 (upd_ne (by decide) h)
  f0 := fun _ => hv
  f1 := fun h => I.f1 (upd_ne (by decide) h)
  f3 := fun h => I.f3 (upd_ne (by decide) h)
  f4 := fun h => I.f4 (upd_ne (by decide) h)

theorem LqJGuestOf.s1 {Wq : World} {AX AA : Value} {m : Img} {d : Nat → Bool} {w : World} {s41 s42 s43 s44 s45 v : Value} (I : LqJGuestOf Wq AX AA m d w s41 s42 s43 s44 s45) (hd : d 1 = false) (hv : v = AA) : LqJGuestOf Wq AX AA m (updD d 1) w s41 v s43 s44 s45 where
  bw := I.bw
  p2 := fun h => I.p2 (upd_ne (by decide) h)
  f0 := fun h => I.f0 (upd_ne (by decide) h)
  f1 := fun _ => hv
  f3 := fun h => I.f3 (upd_ne (by decide) h)
  f4 := fun h => I.f4 (upd_ne (by decide) h)

theorem LqJGuestOf.s2 {Wq : World} {AX AA : Value} {m : Img} {d : Nat → Bool} {w w2 : World} {s41 s42 s43 s44 s45 v : Value} (I : LqJGuestOf Wq AX AA m d w s41 s42 s43 s44 s45) (hd : d 2 = false) (hb : Below w.heap.size w w2) {a1 : Im4} {ts : List Value} (hv : v = imV a1 m) (ho : OwnIm w2 Wq.heap.size a1 m ts) : LqJGuestOf Wq AX AA m (updD d 2) w2 s41 s42 v s44 s45 where
  bw := fr I.bw hb
  p2 := fun _ => ⟨a1, ts, hv, ho⟩
  f0 := fun h => I.f0 (upd_ne (by decide) h)
  f1 := fun h => I.f1 (upd_ne (by decide) h)
  f3 := fun h => I.f3 (upd_ne (by decide) h)
  f4 := fun h => I.f4 (upd_ne (by decide) h)

theorem LqJGuestOf.s3 {Wq : World} {AX AA : Value} {m : Img} {d : Nat → Bool} {w : World} {s41 s42 s43 s44 s45 v : Value} (I : LqJGuestOf Wq AX AA m d w s41 s42 s43 s44 s45) (hd : d 3 = false) (hv : v = .bool true) : LqJGuestOf Wq AX AA m (updD d 3) w s41 s42 s43 v s45 where
  bw := I.bw
  p2 := fun h => I.p2 (upd_ne (by decide) h)
  f0 := fun h => I.f0 (upd_ne (by decide) h)
  f1 := fun h => I.f1 (upd_ne (by decide) h)
  f3 := fun _ => hv
  f4 := fun h => I.f4 (upd_ne (by decide) h)

theorem LqJGuestOf.s4 {Wq : World} {AX AA : Value} {m : Img} {d : Nat → Bool} {w : World} {s41 s42 s43 s44 s45 v : Value} (I : LqJGuestOf Wq AX AA m d w s41 s42 s43 s44 s45) (hd : d 4 = false) (hv : v = .bool false) : LqJGuestOf Wq AX AA m (updD d 4) w s41 s42 s43 s44 v where
  bw := I.bw
  p2 := fun h => I.p2 (upd_ne (by decide) h)
  f0 := fun h => I.f0 (upd_ne (by decide) h)
  f1 := fun h => I.f1 (upd_ne (by decide) h)
  f3 := fun h => I.f3 (upd_ne (by decide) h)
  f4 := fun _ => hv

theorem LqJGuestOf.grow {Wq : World} {AX AA : Value} {m : Img} {d : Nat → Bool} {w w2 : World} {s41 s42 s43 s44 s45 : Value} (I : LqJGuestOf Wq AX AA m d w s41 s42 s43 s44 s45) (hb : Below w.heap.size w w2) : LqJGuestOf Wq AX AA m d w2 s41 s42 s43 s44 s45 := ⟨fr I.bw hb, fun h => (I.p2 h).imp fun a1 h1 => h1.imp fun ts h2 => ⟨h2.1, h2.2.below hb⟩, I.f0, I.f1, I.f3, I.f4⟩

/-- The frame of the law at its drawn statement. -/
abbrev lqFrGuestOf (t0 t1 t2 t3 t4 t5 t6 t7 t8 t9 t10 t11 t12 t13 t14 t15 t16 t17 t18 t19 t20 t21 t22 t23 t24 t25 t26 t27 t28 t29 t30 t31 t32 t33 t34 t35 t36 t37 t38 t39 t40 s41 s42 s43 s44 s45 t46 t47 t48 t49 t50 t51 t52 t53 t54 t55 t56 t57 t58 t59 t60 t61 t62 t63 t64 t65 t66 t67 t68 t69 t70 t71 t72 t73 t74 t75 t76 t77 t78 t79 t80 t81 t82 t83 t84 t85 t86 t87 t88 t89 t90 t91 t92 t93 t94 t95 : Value) : Act := ⟨#[t0, t1, t2, t3, t4, t5, t6, t7, t8, t9, t10, t11, t12, t13, t14, t15, t16, t17, t18, t19, t20, t21, t22, t23, t24, t25, t26, t27, t28, t29, t30, t31, t32, t33, t34, t35, t36, t37, t38, t39, t40, s41, s42, s43, s44, s45, t46, t47, t48, t49, t50, t51, t52, t53, t54, t55, t56, t57, t58, t59, t60, t61, t62, t63, t64, t65, t66, t67, t68, t69, t70, t71, t72, t73, t74, t75, t76, t77, t78, t79, t80, t81, t82, t83, t84, t85, t86, t87, t88, t89, t90, t91, t92, t93, t94, t95], []⟩
theorem lqFrGuestOf_region {P : Program} {id : Nat} {Q : Exit → Act → World → Prop} {l : List Oper} {t0 t1 t2 t3 t4 t5 t6 t7 t8 t9 t10 t11 t12 t13 t14 t15 t16 t17 t18 t19 t20 t21 t22 t23 t24 t25 t26 t27 t28 t29 t30 t31 t32 t33 t34 t35 t36 t37 t38 t39 t40 s41 s42 s43 s44 s45 t46 t47 t48 t49 t50 t51 t52 t53 t54 t55 t56 t57 t58 t59 t60 t61 t62 t63 t64 t65 t66 t67 t68 t69 t70 t71 t72 t73 t74 t75 t76 t77 t78 t79 t80 t81 t82 t83 t84 t85 t86 t87 t88 t89 t90 t91 t92 t93 t94 t95 : Value} {W : World} (J : (Nat → Bool) → World → Value → Value → Value → Value → Value →  Prop) (hm : P.follows .mixedOrders = true) (hl : linB l = true)
    (hg : ∀ (i : Nat) (o : Oper), l[i]? = some o → o.guard = none) (h0 : J (fun _ => false) { W with drawn := W.drawn + 1 } s41 s42 s43 s44 s45)
    (hs : ∀ (d : Nat → Bool) (w : World) (i : Nat) (o : Oper) (r41 r42 r43 r44 r45 : Value), Closed l d → J d w r41 r42 r43 r44 r45 → l[i]? = some o → d i = false → (∀ e ∈ o.after, Region.binds .any e = true → d e.on = true) → ∀ K : Act → World → Prop, (∀ (w' : World) (q41 q42 q43 q44 q45 : Value), J (updD d i) w' q41 q42 q43 q44 q45 → K (lqFrGuestOf t0 t1 t2 t3 t4 t5 t6 t7 t8 t9 t10 t11 t12 t13 t14 t15 t16 t17 t18 t19 t20 t21 t22 t23 t24 t25 t26 t27 t28 t29 t30 t31 t32 t33 t34 t35 t36 t37 t38 t39 t40 q41 q42 q43 q44 q45 t46 t47 t48 t49 t50 t51 t52 t53 t54 t55 t56 t57 t58 t59 t60 t61 t62 t63 t64 t65 t66 t67 t68 t69 t70 t71 t72 t73 t74 t75 t76 t77 t78 t79 t80 t81 t82 t83 t84 t85 t86 t87 t88 t89 t90 t91 t92 t93 t94 t95) w') → o.wp P (lqFrGuestOf t0 t1 t2 t3 t4 t5 t6 t7 t8 t9 t10 t11 t12 t13 t14 t15 t16 t17 t18 t19 t20 t21 t22 t23 t24 t25 t26 t27 t28 t29 t30 t31 t32 t33 t34 t35 t36 t37 t38 t39 t40 r41 r42 r43 r44 r45 t46 t47 t48 t49 t50 t51 t52 t53 t54 t55 t56 t57 t58 t59 t60 t61 t62 t63 t64 t65 t66 t67 t68 t69 t70 t71 t72 t73 t74 t75 t76 t77 t78 t79 t80 t81 t82 t83 t84 t85 t86 t87 t88 t89 t90 t91 t92 t93 t94 t95) w K Q)
    (he : ∀ (d : Nat → Bool) (w : World) (r41 r42 r43 r44 r45 : Value), J d w r41 r42 r43 r44 r45 → (∀ i, i < l.length → d i = true) → Q .normal (lqFrGuestOf t0 t1 t2 t3 t4 t5 t6 t7 t8 t9 t10 t11 t12 t13 t14 t15 t16 t17 t18 t19 t20 t21 t22 t23 t24 t25 t26 t27 t28 t29 t30 t31 t32 t33 t34 t35 t36 t37 t38 t39 t40 r41 r42 r43 r44 r45 t46 t47 t48 t49 t50 t51 t52 t53 t54 t55 t56 t57 t58 t59 t60 t61 t62 t63 t64 t65 t66 t67 t68 t69 t70 t71 t72 t73 t74 t75 t76 t77 t78 t79 t80 t81 t82 t83 t84 t85 t86 t87 t88 t89 t90 t91 t92 t93 t94 t95) w) : (Code.region id l.toArray true).wp P Q (lqFrGuestOf t0 t1 t2 t3 t4 t5 t6 t7 t8 t9 t10 t11 t12 t13 t14 t15 t16 t17 t18 t19 t20 t21 t22 t23 t24 t25 t26 t27 t28 t29 t30 t31 t32 t33 t34 t35 t36 t37 t38 t39 t40 s41 s42 s43 s44 s45 t46 t47 t48 t49 t50 t51 t52 t53 t54 t55 t56 t57 t58 t59 t60 t61 t62 t63 t64 t65 t66 t67 t68 t69 t70 t71 t72 t73 t74 t75 t76 t77 t78 t79 t80 t81 t82 t83 t84 t85 t86 t87 t88 t89 t90 t91 t92 t93 t94 t95) W := by
  refine wp_region_inv2 (fun d f w => ∃ r41 r42 r43 r44 r45, f = lqFrGuestOf t0 t1 t2 t3 t4 t5 t6 t7 t8 t9 t10 t11 t12 t13 t14 t15 t16 t17 t18 t19 t20 t21 t22 t23 t24 t25 t26 t27 t28 t29 t30 t31 t32 t33 t34 t35 t36 t37 t38 t39 t40 r41 r42 r43 r44 r45 t46 t47 t48 t49 t50 t51 t52 t53 t54 t55 t56 t57 t58 t59 t60 t61 t62 t63 t64 t65 t66 t67 t68 t69 t70 t71 t72 t73 t74 t75 t76 t77 t78 t79 t80 t81 t82 t83 t84 t85 t86 t87 t88 t89 t90 t91 t92 t93 t94 t95 ∧ J d w r41 r42 r43 r44 r45) hm hl hg ⟨s41, s42, s43, s44, s45, rfl, h0⟩ ?_ ?_
  · intro d f w i o hc hI ho hd hp K hK
    obtain ⟨r41, r42, r43, r44, r45, rfl, hJ⟩ := hI
    exact hs d w i o r41 r42 r43 r44 r45 hc hJ ho hd hp K (fun w' q41 q42 q43 q44 q45 hJ' => hK _ _ ⟨q41, q42, q43, q44, q45, rfl, hJ'⟩)
  · intro d f w hI hall
    obtain ⟨r41, r42, r43, r44, r45, rfl, hJ⟩ := hI
    exact he d w r41 r42 r43 r44 r45 hJ hall

set_option maxHeartbeats 3200000 in
theorem lawGsGuestOf (a : Im4) (m : Img)  (R : Gst × Int) (w : World) (hL : ImL m) (hc : ImS w a m)
    (hz : ∀ s ∈ m.snaps, s.name.size ≤ maxLen ∧ s.table.length ≤ maxLen)
    (hR : imSz m ≤ 1048576 → GsBd R.1)
    (hspec : ∀ (b : Im4) (W : World), ImS W b m → Calls Try.prog 18 #[imV b m] W fun e w' => AnsG W w' e R)
    (himpl : ∀ (b : Im4) (W : World), ImS W b m → Calls Try.prog 20 #[imV b m] W fun e w' => AnsG W w' e R) :
    Calls Try.prog 5 #[imV a m] w fun e w' => e = .returned (.bool true) ∧ Below w.heap.size w w' := by
  have HA := hide (Joins.below_alloc1 w (.cells #[.slice a.ro m.refs.length a.rc, .slice a.tq m.table.length a.tc, .slice a.so m.snaps.length a.sc, .slice a.dq m.data.length a.dc] 40))
  have HV := hide (VarM.new w 40 (.slice a.ro m.refs.length a.rc) (.slice a.tq m.table.length a.tc) (.slice a.so m.snaps.length a.sc) (.slice a.dq m.data.length a.dc))
  have HC := hide (hc.below (unhide HA))
  have HCW := hide hc
  have HL := hide hL
  have HZ := hide hz
  have HRB := hide hR
  have HSP := hide hspec
  have HIM := hide himpl
  clear hc hL hz hR hspec himpl
  go_enter Try.func5, Try.ntmps5
  go_upto_region 2 with fail
  revert HC
  revert HV
  revert HA
  generalize (w.alloc _) = W0
  intro HA HV HC
  obtain ⟨c0, c1, c2, c3⟩ := (unhide HV).cells
  go_wp2_with fail
  refine (szImage_any a m 1048576 _ (unhide HL).r (unhide HL).t (unhide HL).s (unhide HL).d (by omega) (by omega) (unhide HC)).mono ?_
  rintro e w1 ⟨r, rfl, hr0, hr1, hr2, hb⟩
  have HB1 := hide (fr (unhide HA) hb)
  have HC1 := hide ((unhide HC).below hb)
  have HV1 := hide ((unhide HV).below hb)
  clear hb c0 c1 c2 c3 HA HV HC
  by_cases hneg : r < 0
  · go_wp2
    go_ret
    exact ⟨rfl, unhide HB1⟩
  have HSZ : Hid (imSz m ≤ 1048576) := hide (by have := hr2 (by omega); omega)
  have HBD := hide (ImBd.of (unhide HSZ))
  have HRD := hide (unhide HRB (unhide HSZ))
  clear hr2 HRB
  obtain ⟨c0, c1, c2, c3⟩ := (unhide HV1).cells
  -- the model's answer
  go_wp2_with fail
  refine (toImage_B a m _ (unhide HBD) (unhide HC1)).mono ?_
  rintro e w2 ⟨a2, ts2, rfl, ho2, hb2⟩
  have HB2 := hide (fr (unhide HB1) hb2)
  have HC2 := hide ((unhide HC1).below hb2)
  have HV2 := hide ((unhide HV1).below hb2)
  have HI2 := hide (ho2.shows (unhide HZ))
  clear hb2 ho2 c0 c1 c2 c3 HB1 HC1 HV1
  go_wp2_with fail
  refine (unhide HSP a2 _ (unhide HI2)).mono ?_
  rintro e w3 ⟨aW, tsW, rfl, hoW, hb3⟩
  have HV3 := hide ((unhide HV2).below hb3)
  have HNW := hide (LwG.new w3 aW R.1 (hoW.base (B' := w.heap.size) (unhide HB2).size) (Nat.le_trans (unhide HB2).size hb3.size))
  have HB3 := hide (fr (fr (unhide HB2) hb3) (Joins.below_alloc1 w3 (.cells #[.slice aW.vo R.1.vals.length aW.vc, .slice aW.so R.1.shots.length aW.sc] 30)))
  have HC3 := hide (((unhide HC2).below hb3).below (Joins.below_alloc1 w3 (.cells #[.slice aW.vo R.1.vals.length aW.vc, .slice aW.so R.1.shots.length aW.sc] 30)))
  have HVA3 := hide ((unhide HV3).below (Joins.below_alloc1 w3 (.cells #[.slice aW.vo R.1.vals.length aW.vc, .slice aW.so R.1.shots.length aW.sc] 30)))
  clear hoW hb3 HB2 HC2 HV2 HI2 HV3
  go_upto_region 6 with fail
  revert HVA3
  revert HC3
  revert HB3
  revert HNW
  generalize (w3.alloc _) = W3
  generalize w3.heap.size = pW
  intro HNW HB3 HC3 HVA3
  -- the argument's copy
  obtain ⟨c0, c1, c2, c3⟩ := (unhide HVA3).cells
  go_wp2_with fail
  refine (toImage_B a m _ (unhide HBD) (unhide HC3)).mono ?_
  rintro e w4 ⟨aX, tsX, rfl, hoX, hb4⟩
  have HNW4 := hide ((unhide HNW).below (fr hb4 (Joins.below_alloc1 w4 (.cells #[.slice aX.ro m.refs.length aX.rc, .slice aX.tq m.table.length aX.tc, .slice aX.so m.snaps.length aX.sc, .slice aX.dq m.data.length aX.dc] 45))))
  have HNX4 := hide (LwV.new w4 aX m hoX hb4.size)
  have HB4 := hide (fr (fr (unhide HB3) hb4) (Joins.below_alloc1 w4 (.cells #[.slice aX.ro m.refs.length aX.rc, .slice aX.tq m.table.length aX.tc, .slice aX.so m.snaps.length aX.sc, .slice aX.dq m.data.length aX.dc] 45)))
  have HC4 := hide ((unhide HC3).below (fr hb4 (Joins.below_alloc1 w4 (.cells #[.slice aX.ro m.refs.length aX.rc, .slice aX.tq m.table.length aX.tc, .slice aX.so m.snaps.length aX.sc, .slice aX.dq m.data.length aX.dc] 45))))
  have HVA4 := hide ((unhide HVA3).below (fr hb4 (Joins.below_alloc1 w4 (.cells #[.slice aX.ro m.refs.length aX.rc, .slice aX.tq m.table.length aX.tc, .slice aX.so m.snaps.length aX.sc, .slice aX.dq m.data.length aX.dc] 45))))
  have HWX : Hid (∀ g, GsB aW R.1 tsW g → g < W3.heap.size) := hide (fun g hg => ((unhide HNW).o.ge g hg).2)
  have HSL : Hid (w.heap.size ≤ W3.heap.size) := hide (unhide HB3).size
  clear hoX hb4 c0 c1 c2 c3 HNW HB3 HC3 HVA3
  generalize W3.heap.size = n1 at *
  go_upto_region 7 with fail
  revert HVA4
  revert HC4
  revert HB4
  revert HNX4
  revert HNW4
  generalize (w4.alloc _) = W4
  generalize w4.heap.size = pX
  intro HNW4 HNX4 HB4 HC4 HVA4
  -- the program's answer
  obtain ⟨c0, c1, c2, c3⟩ := (unhide HNX4).v.cells
  go_wp2_with fail
  refine (unhide HIM aX _ ((unhide HNX4).o.shows (unhide HZ))).mono ?_
  rintro e w5 ⟨aG, tsG, rfl, hoG, hb5⟩
  have HB5' := hide (fr hb5 (Joins.below_alloc1 w5 (.cells #[.slice aG.vo R.1.vals.length aG.vc, .slice aG.so R.1.shots.length aG.sc] 30)))
  have HNW5 := hide ((unhide HNW4).below (unhide HB5'))
  have HNX5 := hide ((unhide HNX4).below (unhide HB5'))
  have HNG5 := hide (LwG.new w5 aG R.1 hoG hb5.size)
  have HB5 := hide (fr (unhide HB4) (unhide HB5'))
  have HC5 := hide ((unhide HC4).below (unhide HB5'))
  have HVA5 := hide ((unhide HVA4).below (unhide HB5'))
  have HXG : Hid (∀ g, ImB aX m tsX g → g < W4.heap.size) := hide (fun g hg => ((unhide HNX4).o.ge g hg).2)
  have HN12 : Hid (n1 ≤ W4.heap.size) := hide (unhide HNX4).n
  clear hoG hb5 c0 c1 c2 c3 HNW4 HNX4 HB4 HC4 HVA4
  generalize W4.heap.size = n2 at *
  go_upto_region 8 with fail
  clear HB5'
  revert HVA5
  revert HC5
  revert HB5
  revert HNG5
  revert HNX5
  revert HNW5
  generalize (w5.alloc _) = W5
  generalize w5.heap.size = pG
  intro HNW5 HNX5 HNG5 HB5 HC5 HVA5
  have HRZ : Hid (GsBd R.1) := HRD
  have HRS := hide (unhide HRD).zs
  have bcc : (R.2 != R.2) = false := by simp
  obtain ⟨c0, c1⟩ := (unhide HNG5).v.cells
  have c2 := c0
  have c3 := c0
  obtain ⟨d0, d1⟩ := (unhide HNW5).v.cells
  have d2 := d0
  have d3 := d0
  go_wp2_with fail
  refine (eqGuest_B aG aW R.1 _ (unhide HRD) ((unhide HNG5).o.shows (unhide HRS)) ((unhide HNW5).o.shows (unhide HRS))).mono ?_
  rintro e w6 ⟨rfl, hb⟩
  have HNW6 := hide ((unhide HNW5).below hb)
  have HNX6 := hide ((unhide HNX5).below hb)
  have HNG6 := hide ((unhide HNG5).below hb)
  have HB6 := hide (fr (unhide HB5) hb)
  have HC6 := hide ((unhide HC5).below hb)
  have HVA6 := hide ((unhide HVA5).below hb)
  clear hb c0 c1 c2 c3 d0 d1 d2 d3 HNW5 HNX5 HNG5 HB5 HC5 HVA5
  go_upto_region 10 with fail
  refine lqFrGuestOf_region (fun d wz r41 r42 r43 r44 r45 => LqJGuestOf w6 (imV aX m) (imV a m) m d wz r41 r42 r43 r44 r45) (by kernel_rfl) (by kernel_rfl) (noG_spec (by kernel_rfl)) ?h0 ?hs ?he
  case h0 => exact ⟨(Below.refl _ w6).drew, fun h => (by cases h), fun h => (by cases h), fun h => (by cases h), fun h => (by cases h), fun h => (by cases h)⟩
  case hs =>
    intro d wz i o r41 r42 r43 r44 r45 hc I ho hd hp K hK
    obtain ⟨k0, k1, k2, k3⟩ := ((unhide HNX6).v.below I.bw).cells
    obtain ⟨l0, l1, l2, l3⟩ := ((unhide HVA6).below I.bw).cells
    have hi : i < 5 := (List.getElem?_eq_some_iff.1 ho).1
    rcases (show i = 0 ∨ i = 1 ∨ i = 2 ∨ i = 3 ∨ i = 4 by omega) with rfl | rfl | rfl | rfl | rfl
    · cases ho
      unfold Oper.wp
      go_simp
      exact hK _ _ _ _ _ _ (I.s0 hd rfl)
    · cases ho
      unfold Oper.wp
      go_simp
      exact hK _ _ _ _ _ _ (I.s1 hd rfl)
    · cases ho
      have e1 := I.f1 (hp ⟨1, .data⟩ (by simp) rfl)
      subst e1
      unfold Oper.wp
      go_simp
      refine (toImage_B a m _ (unhide HBD) ((unhide HC6).below I.bw)).mono ?_
      rintro e w2 ⟨a1, ts, rfl, ho1, hb1⟩
      exact hK _ _ _ _ _ _ (I.s2 hd hb1 rfl (ho1.base I.bw.size))
    · cases ho
      have e0 := I.f0 (hp ⟨0, .data⟩ (by simp) rfl)
      subst e0
      obtain ⟨a1, ts, e2, ho1⟩ := I.p2 (hp ⟨2, .data⟩ (by simp) rfl)
      subst e2
      unfold Oper.wp
      go_simp
      refine (eqImage_B aX a1 m _ (unhide HBD) (((unhide HNX6).below I.bw).o.shows (unhide HZ)) (ho1.shows (unhide HZ))).mono ?_
      rintro e w2 ⟨rfl, hb1⟩
      exact hK _ _ _ _ _ _ ((I.grow hb1).s3 hd rfl)
    · cases ho
      have e3 := I.f3 (hp ⟨3, .data⟩ (by simp) rfl)
      subst e3
      unfold Oper.wp
      go_simp
      exact hK _ _ _ _ _ _ (I.s4 hd rfl)
  case he =>
    intro d w7 r41 r42 r43 r44 r45 I hall
    have e4 := I.f4 (hall 4 (by decide))
    subst e4
    have hb := I.bw
    have HNW7 := hide ((unhide HNW6).below hb)
    have HNX7 := hide ((unhide HNX6).below hb)
    have HNG7 := hide ((unhide HNG6).below hb)
    have HB7 := hide (fr (unhide HB6) hb)
    have HC7 := hide ((unhide HC6).below hb)
    have HVA7 := hide ((unhide HVA6).below hb)
    clear hb I hall HNW6 HNX6 HNG6 HB6 HC6 HVA6
    obtain ⟨c0, c1, c2, c3⟩ := (unhide HNX7).v.cells
    go_wp2_with fail
    refine (markImage_B aX m tsX _ _ (unhide HBD) (unhide HNX7).o).mono ?_
    rintro e w8 ⟨rfl, _, hk8⟩
    have HNW8 := hide ((unhide HNW7).keepImg (unhide HNX7) hk8 (fun g h1 h2 => by have := unhide HWX g h1; have := ((unhide HNX7).o.ge g h2).1; omega))
    have HNG8 := hide ((unhide HNG7).keepImg (unhide HNX7) hk8 (fun g h1 h2 => by have := unhide HXG g h2; have := ((unhide HNG7).o.ge g h1).1; omega))
    have HB8 := hide ((unhide HB7).trans (hk8.below (unhide HB7).size (fun g hg => by have := ((unhide HNX7).o.ge g hg).1; have := unhide HSL; omega)))
    have HLT8 : Hid (∀ g, ImB aX m tsX g → w.heap.size ≤ g) := hide (fun g hg => by have := ((unhide HNX7).o.ge g hg).1; have := unhide HSL; omega)
    have HC8 := hide ((unhide HCW).below (unhide HB8))
    have HVA8 : Hid (VarM w8 w.heap.size 40 (.slice a.ro m.refs.length a.rc) (.slice a.tq m.table.length a.tc) (.slice a.so m.snaps.length a.sc) (.slice a.dq m.data.length a.dc)) := hide ((hk8.block w.heap.size (unhide HVA7).lt (OwnIm.otherL (unhide HNX7).o (unhide HVA7))).trans (unhide HVA7))
    clear hk8 c0 c1 c2 c3 HNW7 HNX7 HNG7 HB7 HC7 HVA7
    have hk1 : ¬ (((1 + imK m : Nat) : Int) < 0) := by omega
    obtain ⟨c0, c1⟩ := (unhide HNG8).v.cells
    have c2 := c0
    have c3 := c0
    obtain ⟨d0, d1⟩ := (unhide HNW8).v.cells
    have d2 := d0
    have d3 := d0
    go_wp2_with fail
    refine (eqGuest_B aG aW R.1 _ (unhide HRD) ((unhide HNG8).o.shows (unhide HRS)) ((unhide HNW8).o.shows (unhide HRS))).mono ?_
    rintro e w9 ⟨rfl, hb⟩
    have HNW9 := hide ((unhide HNW8).below hb)
    have HNG9 := hide ((unhide HNG8).below hb)
    have HB9 := hide (fr (unhide HB8) hb)
    have HC9 := hide ((unhide HC8).below hb)
    have HVA9 := hide ((unhide HVA8).below hb)
    clear hb c0 c1 c2 c3 d0 d1 d2 d3 HNW8 HNG8 HB8 HC8 HVA8
    obtain ⟨c0, c1⟩ := (unhide HNG9).v.cells
    have c2 := c0
    have c3 := c0
    go_wp2_with fail
    refine (markGuest_B aG R.1 tsG _ _ (unhide HRD) (unhide HNG9).o).mono ?_
    rintro e w10 ⟨rfl, ho10, hk10⟩
    have HNW10 := hide ((unhide HNW9).keep (unhide HNG9) hk10 (fun g h1 h2 => by have := unhide HWX g h1; have := ((unhide HNG9).o.ge g h2).1; have := unhide HN12; omega))
    have HGV10 := hide ((unhide HNG9).v.keepGsI (unhide HNG9).o hk10)
    have HGO10 := hide ho10
    have HB10 := hide ((unhide HB9).trans (hk10.below (unhide HB9).size (fun g hg => by have := ((unhide HNG9).o.ge g hg).1; have := unhide HSL; have := unhide HN12; omega)))
    have HC10 := hide ((unhide HCW).below (unhide HB10))
    have HVA10 : Hid (VarM w10 w.heap.size 40 (.slice a.ro m.refs.length a.rc) (.slice a.tq m.table.length a.tc) (.slice a.so m.snaps.length a.sc) (.slice a.dq m.data.length a.dc)) := hide ((hk10.block w.heap.size (unhide HVA9).lt (OwnGs.otherV (unhide HNG9).o (unhide HVA9) (by decide) (by decide))).trans (unhide HVA9))
    clear ho10 hk10 c0 c1 c2 c3 HNW9 HNG9 HB9 HC9 HVA9
    obtain ⟨c0, c1⟩ := (unhide HGV10).cells
    have c2 := c0
    have c3 := c0
    go_wp2_with fail
    refine (heldGuest_B aG R.1 tsG _ _ (unhide HRD) (unhide HGO10)).mono ?_
    rintro e w11 ⟨rfl, hb⟩
    have HNW11 := hide ((unhide HNW10).below hb)
    have HGV11 := hide ((unhide HGV10).below hb)
    have HGO11 := hide ((unhide HGO10).below hb)
    have HB11 := hide (fr (unhide HB10) hb)
    have HC11 := hide ((unhide HC10).below hb)
    have HVA11 := hide ((unhide HVA10).below hb)
    clear hb c0 c1 c2 c3 HNW10 HGV10 HGO10 HB10 HC10 HVA10
    have hq1 : ¬ (((1 + gsK R.1 : Nat) : Int) < 0) := by omega
    obtain ⟨c0, c1, c2, c3⟩ := (unhide HVA11).cells
    go_wp2_with fail
    refine (toImage_B a m _ (unhide HBD) (unhide HC11)).mono ?_
    rintro e w12 ⟨a12, ts12, rfl, ho12, hb⟩
    have HI12 := hide (ho12.shows (unhide HZ))
    have HNW12 := hide ((unhide HNW11).below hb)
    have HGV12 := hide ((unhide HGV11).below hb)
    have HGO12 := hide ((unhide HGO11).below hb)
    have HB12 := hide (fr (unhide HB11) hb)
    clear hb ho12 c0 c1 c2 c3 HNW11 HGV11 HGO11 HB11 HC11 HVA11
    go_wp2_with fail
    refine (unhide HIM a12 _ (unhide HI12)).mono ?_
    rintro e w13 ⟨aH, tsH, rfl, hoH, hb⟩
    have HBa := hide (fr hb (Joins.below_alloc1 w13 (.cells #[.slice aH.vo R.1.vals.length aH.vc, .slice aH.so R.1.shots.length aH.sc] 30)))
    have HNH := hide (LwG.new w13 aH R.1 hoH hb.size)
    have HNW13 := hide ((unhide HNW12).below (unhide HBa))
    have HGV13 := hide ((unhide HGV12).below (unhide HBa))
    have HGO13 := hide ((unhide HGO12).below (unhide HBa))
    have HB13 := hide (fr (unhide HB12) (unhide HBa))
    clear hb hoH HNW12 HGV12 HGO12 HB12 HI12
    go_upto_region 25 with fail
    clear HBa
    revert HB13
    revert HGO13
    revert HGV13
    revert HNW13
    revert HNH
    generalize (w13.alloc _) = W13
    generalize w13.heap.size = pH
    intro HNH HNW13 HGV13 HGO13 HB13
    obtain ⟨c0, c1⟩ := (unhide HNH).v.cells
    have c2 := c0
    have c3 := c0
    obtain ⟨d0, d1⟩ := (unhide HNW13).v.cells
    have d2 := d0
    have d3 := d0
    go_wp2_with fail
    refine (eqGuest_B aH aW R.1 _ (unhide HRD) ((unhide HNH).o.shows (unhide HRS)) ((unhide HNW13).o.shows (unhide HRS))).mono ?_
    rintro e w14 ⟨rfl, hb⟩
    have HGV14 := hide ((unhide HGV13).below hb)
    have HGO14 := hide ((unhide HGO13).below hb)
    have HB14 := hide (fr (unhide HB13) hb)
    clear hb c0 c1 c2 c3 d0 d1 d2 d3 HNH HNW13 HGV13 HGO13 HB13
    obtain ⟨c0, c1⟩ := (unhide HGV14).cells
    have c2 := c0
    have c3 := c0
    go_wp2_with fail
    refine (heldGuest_B aG R.1 tsG _ _ (unhide HRD) (unhide HGO14)).mono ?_
    rintro e w15 ⟨rfl, hb⟩
    have HB15 := hide (fr (unhide HB14) hb)
    clear hb c0 c1 c2 c3
    go_wp2
    go_ret
    exact ⟨rfl, unhide HB15⟩

end Go.Proofs.Ythnpooffhopnkaa

/- Contracts of NewGuest of both; a guest put into a variable. -/
namespace Go.Proofs.Ythnpooffhopnkaa
open Go.RowKit
set_option linter.unusedVariables false
set_option maxRecDepth 100000

theorem infoIg : (Try.prog.info? 3).map (fun i => (i.zero, i.size, i.bytes)) = some (some (.int .i64 0), 1, 8) := by kernel_rfl
theorem res_gc {fn : Func} {p u : Tmp} {v0 v1 z : Value} {x : Nat} {W : World} {tmps : Array Value} (h : fn.results = #[.cell p 30, .tmp u]) (hp : tmps.getD p undef = .pointer (some ⟨x, 0, none⟩)) (hu : tmps.getD u undef = z) (hv : VarG W x 30 v0 v1) :
    (results fn tmps).run Try.prog W = .ok (.tuple #[.agg #[v0, v1], z]) W := by
  obtain ⟨c0, c1⟩ := hv.cells
  rw [Array.getD_eq_getD_getElem?] at hp hu
  simp [results, h, hp, hu, go_sem, c0, c1]
theorem res_gs {fn : Func} {p : Tmp} {v0 v1 : Value} {x : Nat} {W : World} {tmps : Array Value} (h : fn.results = #[.cell p 30]) (hp : tmps.getD p undef = .pointer (some ⟨x, 0, none⟩)) (hv : VarG W x 30 v0 v1) :
    (results fn tmps).run Try.prog W = .ok (.agg #[v0, v1]) W := by
  obtain ⟨c0, c1⟩ := hv.cells
  rw [Array.getD_eq_getD_getElem?] at hp
  simp [results, h, hp, go_sem, c0, c1]
/-- A guest is put into a variable. -/
abbrev putG (w : World) (x : Nat) (a : Gs4) (g : Gst) : World := (w.setCell ⟨x, 0, none⟩ (.slice a.vo g.vals.length a.vc)).setCell ⟨x, 1, none⟩ (.slice a.so g.shots.length a.sc)
theorem VarG.putG {w : World} {x t : Nat} {v0 v1 : Value} (h : VarG w x t v0 v1) (a : Gs4) (g : Gst) : VarG (putG w x a g) x t (.slice a.vo g.vals.length a.vc) (.slice a.so g.shots.length a.sc) := (h.set0 _).set1 _
theorem OwnGs.putG {w : World} {B x : Nat} {a : Gs4} {g : Gst} {ts : List Value} (h : OwnGs w B a g ts) (hx : x < B) (b : Gs4) (k : Gst) : OwnGs (putG w x b k) B a g ts := (h.setCell (p := ⟨x, 0, none⟩) hx _).setCell (p := ⟨x, 1, none⟩) hx _
theorem below_putG {w0 w : World} {B x : Nat} (h : Below B w0 w) (hx : B ≤ x) (b : Gs4) (k : Gst) : Below B w0 (putG w x b k) := (h.setCell (p := ⟨x, 0, none⟩) hx _).setCell (p := ⟨x, 1, none⟩) hx _
theorem gsRow {w : World} {B q : Nat} {ao : Option Addr} {c : Nat} (h : OwnN w B (.slice ao q c) (List.replicate q 0)) : OwnGs w B ⟨ao, c, none, 0⟩ ⟨List.replicate q 0, []⟩ [] :=
  ⟨rfl, .inl ⟨rfl, rfl, none, 0, rfl⟩, OwnA.one (by simpa using h)⟩
theorem gsRowS {w : World} {B q g : Nat} {ao : Option Addr} {c : Nat} (h : OwnN w B (.slice ao q c) (List.replicate q 0)) : OwnGs w B ⟨ao, c, some ⟨g, 0, none⟩, 0⟩ ⟨List.replicate q 0, []⟩ [] :=
  ⟨rfl, .inl ⟨rfl, rfl, some ⟨g, 0, none⟩, 0, rfl⟩, OwnA.one (by simpa using h)⟩
theorem intV_zeros (q : Nat) : intV (List.replicate q 0) = List.replicate q (.int .i64 0) := by simp [intV]

set_option maxHeartbeats 1600000 in
theorem newGuest_spec (n : Int) (w : World) :
    Calls Try.prog 13 #[.int .i64 n] w fun e w' => AnsG w w' e (ngA n) := by
  have HA := hide (Joins.below_alloc1 w (.cells #[.slice none 0 0, .slice none 0 0] 30))
  have HV := hide (VarG.new w 30 (.slice none 0 0) (.slice none 0 0))
  cases hb : betw n 0 12
  · have HF : Hid (ngA n = (gs0, 4)) := hide (by rw [ngA, hb]; rfl)
    go_enter Try.func13, Try.ntmps13
    go_upto_region 1 with fail
    revert HA HV
    generalize (w.alloc _) = W0
    intro HA HV
    obtain ⟨c0, c1⟩ := (unhide HV).cells
    obtain ⟨f0, f1⟩ := (unhide HV).free
    have HV2 := hide (((unhide HV).set0 (.slice none 0 0)).set1 (.slice none 0 0))
    have HB2 := hide (((unhide HA).setCell (p := ⟨w.heap.size, 0, none⟩) (Nat.le_refl _) (.slice none 0 0)).setCell (p := ⟨w.heap.size, 1, none⟩) (Nat.le_refl _) (.slice none 0 0))
    go_wp2_with (go_at_call 42; refine (in_any _ _ _ _).mono ?_; rintro e w' ⟨rfl, hw⟩; replace hw := hw.symm; subst hw; rw [hb])
    refine bodyPost_ret (res_gc Try.results13 rfl rfl (unhide HV2)) rfl ?_
    rw [unhide HF]
    exact AnsG.bad 4 (unhide HB2)
  · obtain ⟨l0, l1⟩ := betw_iff.1 hb
    obtain ⟨q, rfl⟩ := Int.eq_ofNat_of_zero_le l0
    have HF : Hid (ngA (q : Int) = (⟨List.replicate q 0, []⟩, 0)) := hide (by rw [ngA, hb]; rfl)
    have HLT := hide (unhide HV).lt
    obtain ⟨i0, hi, hz0, hz1, hz2⟩ := info_parts infoIg
    go_enter Try.func13, Try.ntmps13
    go_upto_region 1 with fail
    revert HA HV HLT
    generalize (w.alloc _) = W0
    intro HA HV HLT
    have hcl : 0 ≤ W0.heap.size := Nat.zero_le _
    go_wp2_with (first | (go_at_call 42; refine (in_any _ _ _ _).mono ?_; rintro e w' ⟨rfl, hw⟩; replace hw := hw.symm; subst hw; rw [hb]) | (at_make; refine wpList_make_full _ rfl _ _ 22 rfl W0.heap.size 3 i0 _ 1 Try.underlying22 hi hz0 hz1 _ _ _ _ q rfl rfl rfl rfl ?c1 ?c2 ?c3 ?_))
    case c1 => rw [hz2]; omega
    case c2 => unfold maxLen; omega
    case c3 => exact Nat.le_refl _
    intro w1 hown hgrow
    have hb1 : Below W0.heap.size W0 w1 := (Below.refl _ _).grown hgrow (Nat.le_refl _) (fun _ h => by cases h)
    have HO : Hid (OwnGs w1 W0.heap.size ⟨some ⟨W0.heap.size, 0, none⟩, q, some ⟨w1.heap.size, 0, none⟩, 0⟩ ⟨List.replicate q 0, []⟩ []) := hide (gsRowS (by
      have hl : (List.replicate q (0 : Int)).length = q := by simp
      refine OwnN.mk' (OwnR.of (by rw [intV_zeros, ← toList_madeCells_one]; simpa [goInt] using hown) (fun e => ⟨_, by rw [e]⟩)) hl))
    have HB1 := hide (fr (fr (unhide HA) hb1) (Joins.below_alloc1 w1 (.cells #[] 69)))
    have HV1 := hide (((unhide HV).below hb1).below (Joins.below_alloc1 w1 (.cells #[] 69)))
    have HO1 := hide ((unhide HO).below (Joins.below_alloc1 w1 (.cells #[] 69)))
    clear hown hgrow hb1 HA HV
    obtain ⟨c0, c1⟩ := (unhide HV1).cells
    obtain ⟨f0, f1⟩ := (unhide HV1).free
    have HS := hide ((unhide HV1).putG ⟨some ⟨W0.heap.size, 0, none⟩, q, some ⟨w1.heap.size, 0, none⟩, 0⟩ ⟨List.replicate q 0, []⟩)
    have HS2 := hide ((unhide HO1).putG (unhide HLT) ⟨some ⟨W0.heap.size, 0, none⟩, q, some ⟨w1.heap.size, 0, none⟩, 0⟩ ⟨List.replicate q 0, []⟩)
    have HS3 := hide (below_putG (unhide HB1) (Nat.le_refl _) ⟨some ⟨W0.heap.size, 0, none⟩, q, some ⟨w1.heap.size, 0, none⟩, 0⟩ ⟨List.replicate q 0, []⟩)
    have hlq : (List.replicate q (0 : Int)).length = q := by simp
    have hl0 : ([] : List Snp).length = 0 := rfl
    unfold putG at HS HS2 HS3
    rw [hlq] at HS HS2 HS3
    rw [hl0] at HS HS2 HS3
    clear hlq hl0
    go_wp2
    refine bodyPost_ret (res_gc Try.results13 rfl rfl (unhide HS)) rfl ?_
    rw [unhide HF]
    exact AnsG.of (R := (⟨List.replicate q 0, []⟩, 0)) (a := ⟨some ⟨W0.heap.size, 0, none⟩, q, some ⟨w1.heap.size, 0, none⟩, 0⟩) (ts := []) (by simp) rfl ((unhide HS2).base (by have := unhide HLT; omega)) (unhide HS3)

set_option maxHeartbeats 1600000 in
theorem newGuest_impl (n : Int) (w : World) :
    Calls Try.prog 14 #[.int .i64 n] w fun e w' => AnsG w w' e (ngA n) := by
  have HA := hide (Joins.below_alloc1 w (.cells #[.slice none 0 0, .slice none 0 0] 30))
  have HV := hide (VarG.new w 30 (.slice none 0 0) (.slice none 0 0))
  cases hb : betw n 0 12
  · have HF : Hid (ngA n = (gs0, 4)) := hide (by rw [ngA, hb]; rfl)
    go_enter Try.func14, Try.ntmps14
    go_upto_region 1 with fail
    revert HA HV
    generalize (w.alloc _) = W0
    intro HA HV
    obtain ⟨c0, c1⟩ := (unhide HV).cells
    obtain ⟨f0, f1⟩ := (unhide HV).free
    have HV2 := hide (((unhide HV).set0 (.slice none 0 0)).set1 (.slice none 0 0))
    have HB2 := hide (((unhide HA).setCell (p := ⟨w.heap.size, 0, none⟩) (Nat.le_refl _) (.slice none 0 0)).setCell (p := ⟨w.heap.size, 1, none⟩) (Nat.le_refl _) (.slice none 0 0))
    go_wp2_with (go_at_call 43; refine (within_any _ _ _ _).mono ?_; rintro e w' ⟨rfl, hw⟩; replace hw := hw.symm; subst hw; rw [hb])
    refine bodyPost_ret (res_gc Try.results14 rfl rfl (unhide HV2)) rfl ?_
    rw [unhide HF]
    exact AnsG.bad 4 (unhide HB2)
  · obtain ⟨l0, l1⟩ := betw_iff.1 hb
    obtain ⟨q, rfl⟩ := Int.eq_ofNat_of_zero_le l0
    have HF : Hid (ngA (q : Int) = (⟨List.replicate q 0, []⟩, 0)) := hide (by rw [ngA, hb]; rfl)
    have HLT := hide (unhide HV).lt
    obtain ⟨i0, hi, hz0, hz1, hz2⟩ := info_parts infoIg
    go_enter Try.func14, Try.ntmps14
    go_upto_region 1 with fail
    revert HA HV HLT
    generalize (w.alloc _) = W0
    intro HA HV HLT
    have hcl : 0 ≤ W0.heap.size := Nat.zero_le _
    go_wp2_with (first | (go_at_call 43; refine (within_any _ _ _ _).mono ?_; rintro e w' ⟨rfl, hw⟩; replace hw := hw.symm; subst hw; rw [hb]) | (at_make; refine wpList_make_full _ rfl _ _ 22 rfl W0.heap.size 3 i0 _ 1 Try.underlying22 hi hz0 hz1 _ _ _ _ q rfl rfl rfl rfl ?c1 ?c2 ?c3 ?_))
    case c1 => rw [hz2]; omega
    case c2 => unfold maxLen; omega
    case c3 => exact Nat.le_refl _
    intro w1 hown hgrow
    have hb1 : Below W0.heap.size W0 w1 := (Below.refl _ _).grown hgrow (Nat.le_refl _) (fun _ h => by cases h)
    have HO : Hid (OwnGs w1 W0.heap.size ⟨some ⟨W0.heap.size, 0, none⟩, q, none, 0⟩ ⟨List.replicate q 0, []⟩ []) := hide (gsRow (by
      have hl : (List.replicate q (0 : Int)).length = q := by simp
      refine OwnN.mk' (OwnR.of (by rw [intV_zeros, ← toList_madeCells_one]; simpa [goInt] using hown) (fun e => ⟨_, by rw [e]⟩)) hl))
    have HB1 := hide (fr (unhide HA) hb1)
    have HV1 := hide ((unhide HV).below hb1)
    clear hown hgrow hb1 HA HV
    obtain ⟨c0, c1⟩ := (unhide HV1).cells
    obtain ⟨f0, f1⟩ := (unhide HV1).free
    have HS := hide ((unhide HV1).putG ⟨some ⟨W0.heap.size, 0, none⟩, q, none, 0⟩ ⟨List.replicate q 0, []⟩)
    have HS2 := hide ((unhide HO).putG (unhide HLT) ⟨some ⟨W0.heap.size, 0, none⟩, q, none, 0⟩ ⟨List.replicate q 0, []⟩)
    have HS3 := hide (below_putG (unhide HB1) (Nat.le_refl _) ⟨some ⟨W0.heap.size, 0, none⟩, q, none, 0⟩ ⟨List.replicate q 0, []⟩)
    have hlq : (List.replicate q (0 : Int)).length = q := by simp
    unfold putG at HS HS2 HS3
    rw [hlq] at HS HS2 HS3
    clear hlq
    go_wp2
    refine bodyPost_ret (res_gc Try.results14 rfl rfl (unhide HS)) rfl ?_
    rw [unhide HF]
    exact AnsG.of (R := (⟨List.replicate q 0, []⟩, 0)) (a := ⟨some ⟨W0.heap.size, 0, none⟩, q, none, 0⟩) (ts := []) (by simp) rfl ((unhide HS2).base (by have := unhide HLT; omega)) (unhide HS3)

theorem ngA_bd (n : Int) : GsBd (ngA n).1 := by
  unfold ngA
  split
  · rename_i h
    have := betw_iff.1 h
    exact ⟨by simp; omega, by simp, fun s hs => by simp at hs, by simp [snK]⟩
  · exact GsBd.zero

end Go.Proofs.Ythnpooffhopnkaa
