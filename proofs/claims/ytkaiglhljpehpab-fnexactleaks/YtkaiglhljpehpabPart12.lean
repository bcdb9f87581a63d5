import Derived.Test.YtkaiglhljpehpabPart1
import Derived.WalkKit
import Derived.WalkSpells
import Derived.Deep.Quiet
import Derived.Test.YtkaiglhljpehpabRows
import Derived.Test.YtkaiglhljpehpabPart3
import Derived.Test.YtkaiglhljpehpabPart2
import Derived.Test.YtkaiglhljpehpabPart4
import Derived.Test.YtkaiglhljpehpabPart5
import Derived.Test.YtkaiglhljpehpabPart6
import Derived.Test.YtkaiglhljpehpabPart8
import Derived.Test.YtkaiglhljpehpabPart7
import Derived.Test.YtkaiglhljpehpabPart11
import Derived.BigQuiet
import Derived.Deep.QuietTactic
import Derived.Deep.RegionWith
import Derived.Deep.RegionHeld3
import Derived.Test.YtkaiglhljpehpabPart9
import Derived.KernelRfl
import Derived.LoopN

/- A region that draws its order, whose operations only read, and whose callees may lay memory of their own: one walk in the order of the text, at the class of worlds behind a given one. -/
namespace Go.Proofs.Ytkaiglhljpehpab
open Go.RowKit
set_option linter.unusedVariables false

section
variable {P : Program} {ops : Array Oper}
abbrev CB (W : World) : World → Prop := fun w => Below W.heap.size W w
theorem quiet_val {W : World} {Q : Act → Prop} {a : Act} {o : Oper} {rest : List Oper} (v : Value) (hg : o.guard = none) (hv : ∀ w, Below W.heap.size W w → (execOp a.eval o).run P w = .ok (.value v) w) (h : wpQuiet P ops (CB W) Q rest (a.put o.dst v)) : wpQuiet P ops (CB W) Q (o :: rest) a := by
  refine wpQuiet_step fun K hK => ?_
  rw [if_pos (by simp [Region.wanted, hg])]
  refine ⟨v, fun w hw => ?_, hK _ h⟩
  unfold Oper.quietAt
  rw [hv w hw]
  exact ⟨rfl, rfl⟩
theorem quiet_call {W : World} {Q : Act → Prop} {a : Act} {o : Oper} {rest : List Oper} (v : Value) (f : FuncId) (args : Array Value) (hg : o.guard = none) (hv : ∀ w, (execOp a.eval o).run P w = .ok (.enter f args) w) (hc : ∀ w, Below W.heap.size W w → Calls P f args w fun e w' => e = .returned v ∧ Below w.heap.size w w') (h : wpQuiet P ops (CB W) Q rest (a.put o.dst v)) : wpQuiet P ops (CB W) Q (o :: rest) a := by
  refine wpQuiet_step fun K hK => ?_
  rw [if_pos (by simp [Region.wanted, hg])]
  refine ⟨v, fun w hw => ?_, hK _ h⟩
  unfold Oper.quietAt
  rw [hv w]
  exact ⟨rfl, (hc w hw).mono fun e w' ⟨he, hb⟩ => ⟨he, fr hw hb⟩⟩
theorem wp_region_cb {id : Nat} {Q : Exit → Act → World → Prop} {a : Act} {w : World} {l : List Oper} (hm : P.follows .mixedOrders = true) (hB : Region.lexB .any l.toArray = true)
    (h : wpQuiet P l.toArray (CB w) (fun a' => ∀ w', Below w.heap.size w w' → Q .normal a' w') l a) : (Code.region id l.toArray true).wp P Q a w :=
  wp_region_quiet (C := CB w) hm hB (Below.refl _ w).drew (by simpa using h)
end

end Go.Proofs.Ytkaiglhljpehpab

/- Contracts of the model's ReadCluster, WriteCluster. (Made ahead of stage 10.) -/
namespace Go.Proofs.Ytkaiglhljpehpab
open Go.RowKit
set_option linter.unusedVariables false
set_option maxRecDepth 100000

/-- What the calls answer. -/
def rcA (m : Img) (g : Int) : Int × Int := if imB m = true then (if betw g 0 ((m.table.length : Int) - 1) = true then (imVal m (m.table.getD g.toNat 0), 0) else (0, 4)) else (0, 1)
def wcA (m : Img) (g v : Int) : Img × Int := if imB m = true then (if betw g 0 ((m.table.length : Int) - 1) = true ∧ numB v = true then imWrite m g.toNat v else (m, 4)) else (im0, 1)
def zcA (m : Img) (g : Int) : Img × Int := if imB m = true then (if betw g 0 ((m.table.length : Int) - 1) = true then (imZero m g.toNat, 0) else (m, 4)) else (im0, 1)
def rsA' (m : Img) (n : Int) : Img × Int := if imB m = true then (if betw n 0 12 = true then (imResize m n.toNat, 0) else (m, 4)) else (im0, 1)
/-- The entry's variable, the result's beside it. -/
structure ImE (w W : World) (a : Im4) (m : Img) : Prop where
  v : VarM W w.heap.size 31 (.slice a.ro m.refs.length a.rc) (.slice a.tq m.table.length a.tc) (.slice a.so m.snaps.length a.sc) (.slice a.dq m.data.length a.dc)
  r : VarM W (w.heap.size + 1) 31 (.slice none 0 0) (.slice none 0 0) (.slice none 0 0) (.slice none 0 0)
  s : ImS W a m
  b : Below w.heap.size w W
theorem ImE.new (w : World) (a : Im4) (m : Img) (h : ImS w a m) : ImE w ((w.alloc (.cells #[.slice a.ro m.refs.length a.rc, .slice a.tq m.table.length a.tc, .slice a.so m.snaps.length a.sc, .slice a.dq m.data.length a.dc] 31)).alloc (.cells #[.slice none 0 0, .slice none 0 0, .slice none 0 0, .slice none 0 0] 31)) a m :=
  ⟨(VarM.new w _ _ _ _ _).below (Joins.below_alloc1 _ _), (VarM.new (w.alloc _) _ _ _ _ _).at (by simp), h.below (Joins.below_alloc2 _ _ _), Joins.below_alloc2 _ _ _⟩
theorem ImE.below {w W W' : World} {a : Im4} {m : Img} (h : ImE w W a m) (hb : Below W.heap.size W W') : ImE w W' a m := ⟨h.v.below hb, h.r.below hb, h.s.below hb, fr h.b hb⟩
/-- A result that is put. -/
theorem ImE.put {w W W' : World} {a : Im4} {m : Img} (h : ImE w W a m) (hb : Below W.heap.size W W') {a' : Im4} {m' : Img} {ts : List Value} (ho : OwnIm W' W.heap.size a' m' ts) :
    VarM (putI W' (w.heap.size + 1) a' m') (w.heap.size + 1) 31 (.slice a'.ro m'.refs.length a'.rc) (.slice a'.tq m'.table.length a'.tc) (.slice a'.so m'.snaps.length a'.sc) (.slice a'.dq m'.data.length a'.dc) ∧ OwnIm (putI W' (w.heap.size + 1) a' m') w.heap.size a' m' ts ∧ Below w.heap.size w (putI W' (w.heap.size + 1) a' m') := by
  obtain ⟨h1, h2, h3⟩ := ImSt.put (h.r.below hb) ho (fr h.b hb) (Nat.le_succ _) h.r.lt a' m'
  exact ⟨h1, h2.base h.b.size, h3⟩
/-- The empty image as a result. -/
theorem ImE.zero {w W : World} {a : Im4} {m : Img} (h : ImE w W a m) :
    VarM ((((W.setCell ⟨w.heap.size + 1, 0, none⟩ (.slice none 0 0)).setCell ⟨w.heap.size + 1, 1, none⟩ (.slice none 0 0)).setCell ⟨w.heap.size + 1, 2, none⟩ (.slice none 0 0)).setCell ⟨w.heap.size + 1, 3, none⟩ (.slice none 0 0)) (w.heap.size + 1) 31 (.slice none 0 0) (.slice none 0 0) (.slice none 0 0) (.slice none 0 0) ∧
    Below w.heap.size w ((((W.setCell ⟨w.heap.size + 1, 0, none⟩ (.slice none 0 0)).setCell ⟨w.heap.size + 1, 1, none⟩ (.slice none 0 0)).setCell ⟨w.heap.size + 1, 2, none⟩ (.slice none 0 0)).setCell ⟨w.heap.size + 1, 3, none⟩ (.slice none 0 0)) :=
  ⟨(((h.r.set0 _).set1 _).set2 _).set3 _, (((h.b.setCell (p := ⟨w.heap.size + 1, 0, none⟩) (Nat.le_succ _) _).setCell (p := ⟨w.heap.size + 1, 1, none⟩) (Nat.le_succ _) _).setCell (p := ⟨w.heap.size + 1, 2, none⟩) (Nat.le_succ _) _).setCell (p := ⟨w.heap.size + 1, 3, none⟩) (Nat.le_succ _) _⟩
/-- An answer: an image of its own and a code. -/
def AnsI (w w' : World) (e : Ending) (R : Img × Int) : Prop := ∃ a ts, e = .returned (.tuple #[imV a R.1, .int .i64 R.2]) ∧ OwnIm w' w.heap.size a R.1 ts ∧ Below w.heap.size w w'
theorem AnsI.of {w w' : World} {v : Value} {c : Int} {R : Img × Int} {a : Im4} {ts : List Value} (hv : v = imV a R.1) (hc : c = R.2) (ho : OwnIm w' w.heap.size a R.1 ts) (hb : Below w.heap.size w w') : AnsI w w' (.returned (.tuple #[v, .int .i64 c])) R := ⟨a, ts, by rw [hv, hc], ho, hb⟩
theorem AnsI.bad {w w' : World} (c : Int) (hb : Below w.heap.size w w') : AnsI w w' (.returned (.tuple #[.agg #[.slice none 0 0, .slice none 0 0, .slice none 0 0, .slice none 0 0], .int .i64 c])) (im0, c) := ⟨⟨none, 0, none, 0, none, 0, none, 0⟩, [], rfl, OwnIm.zero _ _, hb⟩

end Go.Proofs.Ytkaiglhljpehpab

/- Plain: what check and repair answer. -/
namespace Go.Proofs.Ytkaiglhljpehpab
open Go.RowKit
set_option linter.unusedVariables false

/-- A right answer: a row of numbers and a code. -/
def AnsN (W w' : World) (e : Ending) (R : List Int × Int) : Prop := ∃ qo qa, e = .returned (.tuple #[.slice qo R.1.length qa, .int .i64 R.2]) ∧ OwnR w' W.heap.size 3 1 (.slice qo R.1.length qa) R.1.length (intV R.1) ∧ Below W.heap.size W w'
/-- Right but for counts and for data of clusters that no table has. -/
def ckB (m : Img) : Bool := imFm m && (imTabs m).all onceB
/-- Those of the first k clusters of which told and found are as is looked for. -/
def ckL (p : Int → Int → Bool) (ts fs : List Int) : Nat → List Int
  | 0 => []
  | k + 1 => ckL p ts fs k ++ (if p (ts.getD k 0) (fs.getD k 0) then [(k : Int)] else [])
theorem ckL_len (p : Int → Int → Bool) (ts fs : List Int) (k : Nat) : (ckL p ts fs k).length ≤ k := by
  induction k with
  | zero => simp [ckL]
  | succ k ih => simp only [ckL, List.length_append]; split <;> simp <;> omega
theorem ckL_yes {p : Int → Int → Bool} {ts fs : List Int} {k : Nat} (h1 : k < ts.length) (h2 : k < fs.length) (h : p ts[k] fs[k] = true) : ckL p ts fs (k + 1) = ckL p ts fs k ++ [(k : Int)] := by
  simp [ckL, List.getD, List.getElem?_eq_getElem h1, List.getElem?_eq_getElem h2, h]
theorem ckL_no {p : Int → Int → Bool} {ts fs : List Int} {k : Nat} (h1 : k < ts.length) (h2 : k < fs.length) (h : p ts[k] fs[k] = false) : ckL p ts fs (k + 1) = ckL p ts fs k := by
  simp [ckL, List.getD, List.getElem?_eq_getElem h1, List.getElem?_eq_getElem h2, h]
theorem ret_sn {q : Option Addr} {n n' c : Nat} {a b : Int} (h : n = n') (k : a = b) : Ending.returned (.tuple #[.slice q n c, .int .i64 a]) = .returned (.tuple #[.slice q n' c, .int .i64 b]) := by rw [h, k]
def neP (t f : Int) : Bool := t != f
def gtP (t f : Int) : Bool := decide (f < t)
/-- What CountRefs, WrongRefs, Leaks answer. -/
def crA (m : Img) : List Int × Int := if ckB m then (imCnt m, 0) else ([], 1)
def wlA (p : Int → Int → Bool) (m : Img) : List Int × Int := if ckB m then (ckL p m.refs (imCnt m) 24, 0) else ([], 1)
theorem crA_len (m : Img) : (crA m).1.length ≤ 1000 := by
  unfold crA
  split
  · rw [imCnt_len]; omega
  · simp
theorem wlA_len (p : Int → Int → Bool) (m : Img) : (wlA p m).1.length ≤ 1000 := by
  unfold wlA
  split
  · have := ckL_len p m.refs (imCnt m) 24; simp only; omega
  · simp
theorem ck_fm {m : Img} (h : imFm m = false) : ckB m = false := by simp [ckB, h]
theorem ck_once {m : Img} {t : List Int} (ht : t ∈ imTabs m) (h : onceB t = false) : ckB m = false := by
  have e : (imTabs m).all onceB = false := by
    cases hh : (imTabs m).all onceB with
    | false => rfl
    | true => rw [List.all_eq_true] at hh; rw [hh t ht] at h; cases h
  simp only [ckB, e, Bool.and_false]
theorem ck_yes {m : Img} (hf : imFm m = true) (h1 : ∀ t ∈ imTabs m, onceB t = true) : ckB m = true := by
  have e1 : (imTabs m).all onceB = true := List.all_eq_true.2 h1
  simp only [ckB, hf, e1, Bool.and_true]
theorem ck_parts {m : Img} (h : ckB m = true) : imFm m = true ∧ ∀ t ∈ imTabs m, onceB t = true := by
  simp only [ckB, Bool.and_eq_true, List.all_eq_true] at h
  exact h
/-- The data behind the first k clusters: what is counted by none is 0. -/
def rpD (fs ds : List Int) : Nat → List Int
  | 0 => ds
  | k + 1 => if fs.getD k 0 = 0 then (rpD fs ds k).set k 0 else rpD fs ds k
theorem rpD_len (fs ds : List Int) (k : Nat) : (rpD fs ds k).length = ds.length := by
  induction k with
  | zero => rfl
  | succ k ih => simp only [rpD]; split <;> simp [ih]
/-- What Repair answers. -/
def rpI (m : Img) : Img := { m with refs := imCnt m, data := rpD (imCnt m) m.data 24 }
def rpA (m : Img) : Img × Int := if ckB m then (rpI m, 0) else (⟨[], [], [], []⟩, 1)

end Go.Proofs.Ytkaiglhljpehpab

/- The walk of laws.FnExactLeaks, given what both functions answer. (Written by gens/lawct.py.) -/
namespace Go.Proofs.Ytkaiglhljpehpab
open Go.RowKit
set_option linter.unusedVariables false
set_option maxRecDepth 100000

structure LqJLeaks (Wq : World) (AX AA : Value) (m : Img) (d : Nat → Bool) (w : World) (s41 s42 s43 s44 s45 : Value) : Prop where
  bw : Below Wq.heap.size Wq w
  p2 : d 2 = true → ∃ a1 ts, s43 = imV a1 m ∧ OwnIm w Wq.heap.size a1 m ts
  f0 : d 0 = true → s41 = AX
  f1 : d 1 = true → s42 = AA
  f3 : d 3 = true → s44 = .bool true
  f4 : d 4 = true → s45 = .bool false

theorem LqJLeaks.s0 {Wq : World} {AX AA : Value} {m : Img} {d : Nat → Bool} {w : World} {s41 s42 s43 s44 s45 v : Value} (I : LqJLeaks Wq AX AA m d w s41 s42 s43 s44 s45) (hd : d 0 = false) (hv : v = AX) : LqJLeaks Wq AX AA m (updD d 0) w v s42 s43 s44 s45 where
  bw := I.bw
  p2 := fun h => I.p2 (upd_ne (by decide) h)
  f0 := fun _ => hv
  f1 := fun h => I.f1 (upd_ne (by decide) h)
  f3 := fun h => I.f3 (upd_ne (by decide) h)
  f4 := fun h => I.f4 (upd_ne (by decide) h)

theorem LqJLeaks.s1 {Wq : World} {AX AA : Value} {m : Img} {d : Nat → Bool} {w : World} {s41 s42 s43 s44 s45 v : Value} (I : LqJLeaks Wq AX AA m d w s41 s42 s43 s44 s45) (hd : d 1 = false) (hv : v = AA) : LqJLeaks Wq AX AA m (updD d 1) w s41 v s43 s44 s45 where
  bw := I.bw
  p2 := fun h => I.p2 (upd_ne (by decide) h)
  f0 := fun h => I.f0 (upd_ne (by decide) h)
  f1 := fun _ => hv
  f3 := fun h => I.f3 (upd_ne (by decide) h)
  f4 := fun h => I.f4 (upd_ne (by decide) h)

theorem LqJLeaks.s2 {Wq : World} {AX AA : Value} {m : Img} {d : Nat → Bool} {w w2 : World} {s41 s42 s43 s44 s45 v : Value} (I : LqJLeaks Wq AX AA m d w s41 s42 s43 s44 s45) (hd : d 2 = false) (hb : Below w.heap.size w w2) {a1 : Im4} {ts : List Value} (hv : v = imV a1 m) (ho : OwnIm w2 Wq.heap.size a1 m ts) : LqJLeaks Wq AX AA m (updD d 2) w2 s41 s42 v s44 s45 where
  bw := fr I.bw hb
  p2 := fun _ => ⟨a1, ts, hv, ho⟩
  f0 := fun h => I.f0 (upd_ne (by decide) h)
  f1 := fun h => I.f1 (upd_ne (by decide) h)
  f3 := fun h => I.f3 (upd_ne (by decide) h)
  f4 := fun h => I.f4 (upd_ne (by decide) h)

theorem LqJLeaks.s3 {Wq : World} {AX AA : Value} {m : Img} {d : Nat → Bool} {w : World} {s41 s42 s43 s44 s45 v : Value} (I : LqJLeaks Wq AX AA m d w s41 s42 s43 s44 s45) (hd : d 3 = false) (hv : v = .bool true) : LqJLeaks Wq AX AA m (updD d 3) w s41 s42 s43 v s45 where
  bw := I.bw
  p2 := fun h => I.p2 (upd_ne (by decide) h)
  f0 := fun h => I.f0 (upd_ne (by decide) h)
  f1 := fun h => I.f1 (upd_ne (by decide) h)
  f3 := fun _ => hv
  f4 := fun h => I.f4 (upd_ne (by decide) h)

theorem LqJLeaks.s4 {Wq : World} {AX AA : Value} {m : Img} {d : Nat → Bool} {w : World} {s41 s42 s43 s44 s45 v : Value} (I : LqJLeaks Wq AX AA m d w s41 s42 s43 s44 s45) (hd : d 4 = false) (hv : v = .bool false) : LqJLeaks Wq AX AA m (updD d 4) w s41 s42 s43 s44 v where
  bw := I.bw
  p2 := fun h => I.p2 (upd_ne (by decide) h)
  f0 := fun h => I.f0 (upd_ne (by decide) h)
  f1 := fun h => I.f1 (upd_ne (by decide) h)
  f3 := fun h => I.f3 (upd_ne (by decide) h)
  f4 := fun _ => hv

theorem LqJLeaks.grow {Wq : World} {AX AA : Value} {m : Img} {d : Nat → Bool} {w w2 : World} {s41 s42 s43 s44 s45 : Value} (I : LqJLeaks Wq AX AA m d w s41 s42 s43 s44 s45) (hb : Below w.heap.size w w2) : LqJLeaks Wq AX AA m d w2 s41 s42 s43 s44 s45 := ⟨fr I.bw hb, fun h => (I.p2 h).imp fun a1 h1 => h1.imp fun ts h2 => ⟨h2.1, h2.2.below hb⟩, I.f0, I.f1, I.f3, I.f4⟩

/-- The frame of the law at its drawn statement. -/
abbrev lqFrLeaks (t0 t1 t2 t3 t4 t5 t6 t7 t8 t9 t10 t11 t12 t13 t14 t15 t16 t17 t18 t19 t20 t21 t22 t23 t24 t25 t26 t27 t28 t29 t30 t31 t32 t33 t34 t35 t36 t37 t38 t39 t40 s41 s42 s43 s44 s45 t46 t47 t48 t49 t50 t51 t52 t53 t54 t55 t56 t57 t58 t59 t60 t61 t62 t63 t64 t65 t66 t67 t68 t69 t70 t71 t72 t73 t74 t75 t76 t77 t78 t79 t80 t81 t82 t83 t84 t85 t86 t87 t88 t89 t90 t91 t92 t93 t94 t95 : Value) : Act := ⟨#[t0, t1, t2, t3, t4, t5, t6, t7, t8, t9, t10, t11, t12, t13, t14, t15, t16, t17, t18, t19, t20, t21, t22, t23, t24, t25, t26, t27, t28, t29, t30, t31, t32, t33, t34, t35, t36, t37, t38, t39, t40, s41, s42, s43, s44, s45, t46, t47, t48, t49, t50, t51, t52, t53, t54, t55, t56, t57, t58, t59, t60, t61, t62, t63, t64, t65, t66, t67, t68, t69, t70, t71, t72, t73, t74, t75, t76, t77, t78, t79, t80, t81, t82, t83, t84, t85, t86, t87, t88, t89, t90, t91, t92, t93, t94, t95], []⟩
theorem lqFrLeaks_region {P : Program} {id : Nat} {Q : Exit → Act → World → Prop} {l : List Oper} {t0 t1 t2 t3 t4 t5 t6 t7 t8 t9 t10 t11 t12 t13 t14 t15 t16 t17 t18 t19 t20 t21 t22 t23 t24 t25 t26 t27 t28 t29 t30 t31 t32 t33 t34 t35 t36 t37 t38 t39 t40 s41 s42 s43 s44 s45 t46 t47 t48 t49 t50 t51 t52 t53 t54 t55 t56 t57 t58 t59 t60 t61 t62 t63 t64 t65 t66 t67 t68 t69 t70 t71 t72 t73 t74 t75 t76 t77 t78 t79 t80 t81 t82 t83 t84 t85 t86 t87 t88 t89 t90 t91 t92 t93 t94 t95 : Value} {W : World} (J : (Nat → Bool) → World → Value → Value → Value → Value → Value →  Prop) (hm : P.follows .mixedOrders = true) (hl : linB l = true)
    (hg : ∀ (i : Nat) (o : Oper), l[i]? = some o → o.guard = none) (h0 : J (fun _ => false) { W with drawn := W.drawn + 1 } s41 s42 s43 s44 s45)
    (hs : ∀ (d : Nat → Bool) (w : World) (i : Nat) (o : Oper) (r41 r42 r43 r44 r45 : Value), Closed l d → J d w r41 r42 r43 r44 r45 → l[i]? = some o → d i = false → (∀ e ∈ o.after, Region.binds .any e = true → d e.on = true) → ∀ K : Act → World → Prop, (∀ (w' : World) (q41 q42 q43 q44 q45 : Value), J (updD d i) w' q41 q42 q43 q44 q45 → K (lqFrLeaks t0 t1 t2 t3 t4 t5 t6 t7 t8 t9 t10 t11 t12 t13 t14 t15 t16 t17 t18 t19 t20 t21 t22 t23 t24 t25 t26 t27 t28 t29 t30 t31 t32 t33 t34 t35 t36 t37 t38 t39 t40 q41 q42 q43 q44 q45 t46 t47 t48 t49 t50 t51 t52 t53 t54 t55 t56 t57 t58 t59 t60 t61 t62 t63 t64 t65 t66 t67 t68 t69 t70 t71 t72 t73 t74 t75 t76 t77 t78 t79 t80 t81 t82 t83 t84 t85 t86 t87 t88 t89 t90 t91 t92 t93 t94 t95) w') → o.wp P (lqFrLeaks t0 t1 t2 t3 t4 t5 t6 t7 t8 t9 t10 t11 t12 t13 t14 t15 t16 t17 t18 t19 t20 t21 t22 t23 t24 t25 t26 t27 t28 t29 t30 t31 t32 t33 t34 t35 t36 t37 t38 t39 t40 r41 r42 r43 r44 r45 t46 t47 t48 t49 t50 t51 t52 t53 t54 t55 t56 t57 t58 t59 t60 t61 t62 t63 t64 t65 t66 t67 t68 t69 t70 t71 t72 t73 t74 t75 t76 t77 t78 t79 t80 t81 t82 t83 t84 t85 t86 t87 t88 t89 t90 t91 t92 t93 t94 t95) w K Q)
    (he : ∀ (d : Nat → Bool) (w : World) (r41 r42 r43 r44 r45 : Value), J d w r41 r42 r43 r44 r45 → (∀ i, i < l.length → d i = true) → Q .normal (lqFrLeaks t0 t1 t2 t3 t4 t5 t6 t7 t8 t9 t10 t11 t12 t13 t14 t15 t16 t17 t18 t19 t20 t21 t22 t23 t24 t25 t26 t27 t28 t29 t30 t31 t32 t33 t34 t35 t36 t37 t38 t39 t40 r41 r42 r43 r44 r45 t46 t47 t48 t49 t50 t51 t52 t53 t54 t55 t56 t57 t58 t59 t60 t61 t62 t63 t64 t65 t66 t67 t68 t69 t70 t71 t72 t73 t74 t75 t76 t77 t78 t79 t80 t81 t82 t83 t84 t85 t86 t87 t88 t89 t90 t91 t92 t93 t94 t95) w) : (Code.region id l.toArray true).wp P Q (lqFrLeaks t0 t1 t2 t3 t4 t5 t6 t7 t8 t9 t10 t11 t12 t13 t14 t15 t16 t17 t18 t19 t20 t21 t22 t23 t24 t25 t26 t27 t28 t29 t30 t31 t32 t33 t34 t35 t36 t37 t38 t39 t40 s41 s42 s43 s44 s45 t46 t47 t48 t49 t50 t51 t52 t53 t54 t55 t56 t57 t58 t59 t60 t61 t62 t63 t64 t65 t66 t67 t68 t69 t70 t71 t72 t73 t74 t75 t76 t77 t78 t79 t80 t81 t82 t83 t84 t85 t86 t87 t88 t89 t90 t91 t92 t93 t94 t95) W := by
  refine wp_region_inv2 (fun d f w => ∃ r41 r42 r43 r44 r45, f = lqFrLeaks t0 t1 t2 t3 t4 t5 t6 t7 t8 t9 t10 t11 t12 t13 t14 t15 t16 t17 t18 t19 t20 t21 t22 t23 t24 t25 t26 t27 t28 t29 t30 t31 t32 t33 t34 t35 t36 t37 t38 t39 t40 r41 r42 r43 r44 r45 t46 t47 t48 t49 t50 t51 t52 t53 t54 t55 t56 t57 t58 t59 t60 t61 t62 t63 t64 t65 t66 t67 t68 t69 t70 t71 t72 t73 t74 t75 t76 t77 t78 t79 t80 t81 t82 t83 t84 t85 t86 t87 t88 t89 t90 t91 t92 t93 t94 t95 ∧ J d w r41 r42 r43 r44 r45) hm hl hg ⟨s41, s42, s43, s44, s45, rfl, h0⟩ ?_ ?_
  · intro d f w i o hc hI ho hd hp K hK
    obtain ⟨r41, r42, r43, r44, r45, rfl, hJ⟩ := hI
    exact hs d w i o r41 r42 r43 r44 r45 hc hJ ho hd hp K (fun w' q41 q42 q43 q44 q45 hJ' => hK _ _ ⟨q41, q42, q43, q44, q45, rfl, hJ'⟩)
  · intro d f w hI hall
    obtain ⟨r41, r42, r43, r44, r45, rfl, hJ⟩ := hI
    exact he d w r41 r42 r43 r44 r45 hJ hall

set_option maxHeartbeats 3200000 in
theorem lawImLeaks (a : Im4) (m : Img)  (R : List Int × Int) (w : World) (hL : ImL m) (hc : ImS w a m)
    (hz : ∀ s ∈ m.snaps, s.name.size ≤ maxLen ∧ s.table.length ≤ maxLen)
    (hn : R.1.length ≤ 1000)
    (hspec : ∀ (b : Im4) (W : World), ImS W b m → Calls Try.prog 19 #[imV b m] W fun e w' => AnsN W w' e R)
    (himpl : ∀ (b : Im4) (W : World), ImS W b m → Calls Try.prog 20 #[imV b m] W fun e w' => AnsN W w' e R) :
    Calls Try.prog 5 #[imV a m] w fun e w' => e = .returned (.bool true) ∧ Below w.heap.size w w' := by
  have HA := hide (Joins.below_alloc1 w (.cells #[.slice a.ro m.refs.length a.rc, .slice a.tq m.table.length a.tc, .slice a.so m.snaps.length a.sc, .slice a.dq m.data.length a.dc] 25))
  have HV := hide (VarM.new w 25 (.slice a.ro m.refs.length a.rc) (.slice a.tq m.table.length a.tc) (.slice a.so m.snaps.length a.sc) (.slice a.dq m.data.length a.dc))
  have HC := hide (hc.below (unhide HA))
  have HCW := hide hc
  have HL := hide hL
  have HZ := hide hz
  have HSP := hide hspec
  have HIM := hide himpl
  have hn1 := hn
  have HEQ : Hid (eqNB R.1 R.1 = true) := hide (eqNB_self _)
  clear hc hL hz hspec himpl hn
  go_enter Try.func5, Try.ntmps5
  go_upto_region 2 with fail
  revert HC
  revert HV
  revert HA
  generalize (w.alloc _) = W0
  intro HA HV HC
  obtain ⟨c0, c1, c2, c3⟩ := (unhide HV).cells
  go_wp2_with fail
  refine (szImage_any a m 1048576 _ (unhide HL).r (unhide HL).t (unhide HL).s (unhide HL).d (by omega) (by omega) (unhide HC)).mono ?_
  rintro e w1 ⟨r, rfl, hr0, hr1, hr2, hb⟩
  have HB1 := hide (fr (unhide HA) hb)
  have HC1 := hide ((unhide HC).below hb)
  have HV1 := hide ((unhide HV).below hb)
  clear hb c0 c1 c2 c3 HA HV HC
  by_cases hneg : r < 0
  · go_wp2
    go_ret
    exact ⟨rfl, unhide HB1⟩
  have HSZ : Hid (imSz m ≤ 1048576) := hide (by have := hr2 (by omega); omega)
  have HBD := hide (ImBd.of (unhide HSZ))
  clear hr2
  obtain ⟨c0, c1, c2, c3⟩ := (unhide HV1).cells
  -- the model's answer
  go_wp2_with fail
  refine (toImage_B a m _ (unhide HBD) (unhide HC1)).mono ?_
  rintro e w2 ⟨a2, ts2, rfl, ho2, hb2⟩
  have HB2 := hide (fr (unhide HB1) hb2)
  have HC2 := hide ((unhide HC1).below hb2)
  have HV2 := hide ((unhide HV1).below hb2)
  have HI2 := hide (ho2.shows (unhide HZ))
  clear hb2 ho2 c0 c1 c2 c3 HB1 HC1 HV1
  go_wp2_with fail
  refine (unhide HSP a2 _ (unhide HI2)).mono ?_
  rintro e w3 ⟨qw, cw, rfl, hw3, hb3⟩
  have HW3 := hide hw3
  have HAW : Hid (∀ g, Own (.slice qw R.1.length cw) g → g < w3.heap.size) := hide (fun g h => (hw3.ge g h).2)
  clear hw3
  have HB3 := hide (fr (unhide HB2) hb3)
  have HC3 := hide ((unhide HC2).below hb3)
  have HVA3 := hide ((unhide HV2).below hb3)
  clear hb3 HB2 HC2 HV2 HI2
  -- the argument's copy
  obtain ⟨c0, c1, c2, c3⟩ := (unhide HVA3).cells
  go_wp2_with fail
  refine (toImage_B a m _ (unhide HBD) (unhide HC3)).mono ?_
  rintro e w4 ⟨aX, tsX, rfl, hoX, hb4⟩
  have HSL : Hid (w.heap.size ≤ w3.heap.size) := hide (unhide HB3).size
  have HNX4 := hide (LwV.new w4 aX m hoX hb4.size)
  have HB4 := hide (fr (fr (unhide HB3) hb4) (Joins.below_alloc1 w4 (.cells #[.slice aX.ro m.refs.length aX.rc, .slice aX.tq m.table.length aX.tc, .slice aX.so m.snaps.length aX.sc, .slice aX.dq m.data.length aX.dc] 31)))
  have HC4 := hide ((unhide HC3).below (fr hb4 (Joins.below_alloc1 w4 (.cells #[.slice aX.ro m.refs.length aX.rc, .slice aX.tq m.table.length aX.tc, .slice aX.so m.snaps.length aX.sc, .slice aX.dq m.data.length aX.dc] 31))))
  have HW4 := hide ((unhide HW3).below (fr hb4 (Joins.below_alloc1 w4 (.cells #[.slice aX.ro m.refs.length aX.rc, .slice aX.tq m.table.length aX.tc, .slice aX.so m.snaps.length aX.sc, .slice aX.dq m.data.length aX.dc] 31))))
  have HVA4 := hide ((unhide HVA3).below (fr hb4 (Joins.below_alloc1 w4 (.cells #[.slice aX.ro m.refs.length aX.rc, .slice aX.tq m.table.length aX.tc, .slice aX.so m.snaps.length aX.sc, .slice aX.dq m.data.length aX.dc] 31))))
  clear hoX hb4 c0 c1 c2 c3 HB3 HC3 HVA3 HW3
  go_upto_region 7 with fail
  revert HVA4
  revert HW4
  revert HC4
  revert HB4
  revert HNX4
  generalize (w4.alloc _) = W4
  generalize w4.heap.size = pX
  intro HNX4 HB4 HC4 HW4 HVA4
  -- the program's answer
  obtain ⟨c0, c1, c2, c3⟩ := (unhide HNX4).v.cells
  go_wp2_with fail
  refine (unhide HIM aX _ ((unhide HNX4).o.shows (unhide HZ))).mono ?_
  rintro e w6 ⟨qg, cg, rfl, hg6, hb⟩
  have HG6 := hide hg6
  have HW6 := hide ((unhide HW4).below hb)
  have HAGE : Hid (∀ g, Own (.slice qw R.1.length cw) g → ¬ Own (.slice qg R.1.length cg) g) := hide (fun g h1 h2 => by
    have k1 := ((unhide HW4).ge g h1).2
    have k2 := (hg6.ge g h2).1
    omega)
  have HXW : Hid (∀ g, Own (.slice qw R.1.length cw) g → ¬ ImB aX m tsX g) := hide (fun g h1 h2 => by
    have k1 := unhide HAW g h1
    have k2 := ((unhide HNX4).o.ge g h2).1
    omega)
  have HXG : Hid (∀ g, Own (.slice qg R.1.length cg) g → ¬ ImB aX m tsX g) := hide (fun g h1 h2 => by
    have k1 := (hg6.ge g h1).1
    have k2 := ((unhide HNX4).o.ge g h2).2
    omega)
  have HGL : Hid (∀ g, Own (.slice qg R.1.length cg) g → w.heap.size ≤ g) := hide (fun g h2 => Nat.le_trans (unhide HB4).size (hg6.ge g h2).1)
  clear hg6
  have HNX6 := hide ((unhide HNX4).below hb)
  have HB6 := hide (fr (unhide HB4) hb)
  have HC6 := hide ((unhide HC4).below hb)
  have HVA6 := hide ((unhide HVA4).below hb)
  clear hb c0 c1 c2 c3 HNX4 HB4 HC4 HVA4 HW4
  have bcd : (R.2 != R.2) = false := by simp
  go_wp2_with fail
  refine (eqIntS_any qg qw cg cw R.1 R.1 _ (by unfold maxLen; omega) (ownRN (unhide HG6)) (ownRN (unhide HW6))).mono ?_
  rintro e w5 ⟨rfl, hb5⟩
  rw [unhide HEQ]
  have HG5 := hide ((unhide HG6).below hb5)
  have HW5 := hide ((unhide HW6).below hb5)
  have HNX5 := hide ((unhide HNX6).below hb5)
  have HB5 := hide (fr (unhide HB6) hb5)
  have HC5 := hide ((unhide HC6).below hb5)
  have HVA5 := hide ((unhide HVA6).below hb5)
  clear hb5 HG6 HW6 HNX6 HB6 HC6 HVA6
  go_upto_region 10 with fail
  refine lqFrLeaks_region (fun d wz r41 r42 r43 r44 r45 => LqJLeaks w5 (imV aX m) (imV a m) m d wz r41 r42 r43 r44 r45) (by kernel_rfl) (by kernel_rfl) (noG_spec (by kernel_rfl)) ?h0 ?hs ?he
  case h0 => exact ⟨(Below.refl _ w5).drew, fun h => (by cases h), fun h => (by cases h), fun h => (by cases h), fun h => (by cases h), fun h => (by cases h)⟩
  case hs =>
    intro d wz i o r41 r42 r43 r44 r45 hc I ho hd hp K hK
    obtain ⟨k0, k1, k2, k3⟩ := ((unhide HNX5).v.below I.bw).cells
    obtain ⟨l0, l1, l2, l3⟩ := ((unhide HVA5).below I.bw).cells
    have hi : i < 5 := (List.getElem?_eq_some_iff.1 ho).1
    rcases (show i = 0 ∨ i = 1 ∨ i = 2 ∨ i = 3 ∨ i = 4 by omega) with rfl | rfl | rfl | rfl | rfl
    · cases ho
      unfold Oper.wp
      go_simp
      exact hK _ _ _ _ _ _ (I.s0 hd rfl)
    · cases ho
      unfold Oper.wp
      go_simp
      exact hK _ _ _ _ _ _ (I.s1 hd rfl)
    · cases ho
      have e1 := I.f1 (hp ⟨1, .data⟩ (by simp) rfl)
      subst e1
      unfold Oper.wp
      go_simp
      refine (toImage_B a m _ (unhide HBD) ((unhide HC5).below I.bw)).mono ?_
      rintro e w2 ⟨a1, ts, rfl, ho1, hb1⟩
      exact hK _ _ _ _ _ _ (I.s2 hd hb1 rfl (ho1.base I.bw.size))
    · cases ho
      have e0 := I.f0 (hp ⟨0, .data⟩ (by simp) rfl)
      subst e0
      obtain ⟨a1, ts, e2, ho1⟩ := I.p2 (hp ⟨2, .data⟩ (by simp) rfl)
      subst e2
      unfold Oper.wp
      go_simp
      refine (eqImage_B aX a1 m _ (unhide HBD) (((unhide HNX5).below I.bw).o.shows (unhide HZ)) (ho1.shows (unhide HZ))).mono ?_
      rintro e w2 ⟨rfl, hb1⟩
      exact hK _ _ _ _ _ _ ((I.grow hb1).s3 hd rfl)
    · cases ho
      have e3 := I.f3 (hp ⟨3, .data⟩ (by simp) rfl)
      subst e3
      unfold Oper.wp
      go_simp
      exact hK _ _ _ _ _ _ (I.s4 hd rfl)
  case he =>
    intro d w7 r41 r42 r43 r44 r45 I hall
    have e4 := I.f4 (hall 4 (by decide))
    subst e4
    have hb := I.bw
    have HB7 := hide (fr (unhide HB5) hb)
    have HG7 := hide ((unhide HG5).below hb)
    have HW7 := hide ((unhide HW5).below hb)
    have HNX7 := hide ((unhide HNX5).below hb)
    have HC7 := hide ((unhide HC5).below hb)
    have HVA7 := hide ((unhide HVA5).below hb)
    clear hb I hall HNX5 HB5 HC5 HVA5 HG5 HW5
    obtain ⟨c0, c1, c2, c3⟩ := (unhide HNX7).v.cells
    go_wp2_with fail
    refine (markImage_B aX m tsX _ _ (unhide HBD) (unhide HNX7).o).mono ?_
    rintro e w8 ⟨rfl, _, hk8⟩
    have HG8 := hide ((unhide HG7).keep hk8 (unhide HXG))
    have HW8 := hide ((unhide HW7).keep hk8 (unhide HXW))
    have HB8 := hide ((unhide HB7).trans (hk8.below (unhide HB7).size (fun g hg => by have := ((unhide HNX7).o.ge g hg).1; have := unhide HSL; omega)))
    have HC8 := hide ((unhide HCW).below (unhide HB8))
    have HVA8 : Hid (VarM w8 w.heap.size 25 (.slice a.ro m.refs.length a.rc) (.slice a.tq m.table.length a.tc) (.slice a.so m.snaps.length a.sc) (.slice a.dq m.data.length a.dc)) := hide ((hk8.block w.heap.size (unhide HVA7).lt (OwnIm.otherL (unhide HNX7).o (unhide HVA7))).trans (unhide HVA7))
    clear hk8 c0 c1 c2 c3 HNX7 HB7 HC7 HVA7 HG7 HW7
    have hk1 : ¬ (((1 + imK m : Nat) : Int) < 0) := by omega
    go_wp2_with fail
    refine (eqIntS_any qg qw cg cw R.1 R.1 _ (by unfold maxLen; omega) (ownRN (unhide HG8)) (ownRN (unhide HW8))).mono ?_
    rintro e w9 ⟨rfl, hb⟩
    rw [unhide HEQ]
    have HG9 := hide ((unhide HG8).below hb)
    have HW9 := hide ((unhide HW8).below hb)
    have HB9 := hide (fr (unhide HB8) hb)
    have HC9 := hide ((unhide HC8).below hb)
    have HVA9 := hide ((unhide HVA8).below hb)
    clear hb HB8 HC8 HVA8 HG8 HW8
    go_wp2_with fail
    refine (markIntS_any _ R.1.length 1 _ _ _ (by omega) (by omega) (by omega) (unhide HG9)).mono ?_
    rintro e w10 ⟨rfl, ho10, hk10⟩
    have HG10 := hide ho10
    have HW10 := hide ((unhide HW9).keep hk10 (unhide HAGE))
    have HB10 := hide ((unhide HB9).trans (hk10.below (unhide HB9).size (fun g hg => unhide HGL g hg)))
    have HC10 := hide ((unhide HCW).below (unhide HB10))
    have HVA10 : Hid (VarM w10 w.heap.size 25 (.slice a.ro m.refs.length a.rc) (.slice a.tq m.table.length a.tc) (.slice a.so m.snaps.length a.sc) (.slice a.dq m.data.length a.dc)) := hide ((hk10.block w.heap.size (unhide HVA9).lt ((unhide HG9).other (unhide HVA9) (by decide))).trans (unhide HVA9))
    clear ho10 hk10 HB9 HC9 HVA9 HG9 HW9
    go_wp2_with fail
    refine (heldIntS_any _ R.1.length 1 _ _ (by omega) (by omega) (by omega) (unhide HG10)).mono ?_
    rintro e w11 ⟨rfl, hb⟩
    have HG11 := hide ((unhide HG10).below hb)
    have HW11 := hide ((unhide HW10).below hb)
    have HB11 := hide (fr (unhide HB10) hb)
    have HC11 := hide ((unhide HC10).below hb)
    have HVA11 := hide ((unhide HVA10).below hb)
    clear hb HG10 HW10 HB10 HC10 HVA10
    have hq1 : ¬ (((1 + R.1.length : Nat) : Int) < 0) := by omega
    obtain ⟨c0, c1, c2, c3⟩ := (unhide HVA11).cells
    go_wp2_with fail
    refine (toImage_B a m _ (unhide HBD) (unhide HC11)).mono ?_
    rintro e w12 ⟨a12, ts12, rfl, ho12, hb⟩
    have HI12 := hide (ho12.shows (unhide HZ))
    have HG12 := hide ((unhide HG11).below hb)
    have HW12 := hide ((unhide HW11).below hb)
    have HB12 := hide (fr (unhide HB11) hb)
    clear hb ho12 c0 c1 c2 c3 HG11 HW11 HB11 HC11 HVA11
    go_wp2_with fail
    refine (unhide HIM a12 _ (unhide HI12)).mono ?_
    rintro e w13 ⟨qh, ch, rfl, hoH, hb⟩
    have HH13 := hide hoH
    have HG13 := hide ((unhide HG12).below hb)
    have HW13 := hide ((unhide HW12).below hb)
    have HB13 := hide (fr (unhide HB12) hb)
    clear hb hoH HG12 HW12 HB12 HI12
    go_wp2_with fail
    refine (eqIntS_any qh qw ch cw R.1 R.1 _ (by unfold maxLen; omega) (ownRN (unhide HH13)) (ownRN (unhide HW13))).mono ?_
    rintro e w14 ⟨rfl, hb⟩
    rw [unhide HEQ]
    have HG14 := hide ((unhide HG13).below hb)
    have HB14 := hide (fr (unhide HB13) hb)
    clear hb HG13 HB13 HW13 HH13
    go_wp2_with fail
    refine (heldIntS_any _ R.1.length 1 _ _ (by omega) (by omega) (by omega) (unhide HG14)).mono ?_
    rintro e w15 ⟨rfl, hb⟩
    have HB15 := hide (fr (unhide HB14) hb)
    clear hb
    go_wp2
    go_ret
    exact ⟨rfl, unhide HB15⟩

end Go.Proofs.Ytkaiglhljpehpab

/- Contracts of the model's l12Form and CountRefs. -/
namespace Go.Proofs.Ytkaiglhljpehpab
open Go.RowKit
set_option linter.unusedVariables false
set_option maxRecDepth 100000

set_option maxHeartbeats 3200000 in
theorem l12Form_any (a : Im4) (m : Img) (w : World) (hL : ImL m) (hc : ImS w a m) :
    Calls Try.prog 30 #[imV a m] w fun e w' => e = .returned (.bool (ckB m)) ∧ Below w.heap.size w w' := by
  have HA := hide (Joins.below_alloc1 w (.cells #[.slice a.ro m.refs.length a.rc, .slice a.tq m.table.length a.tc, .slice a.so m.snaps.length a.sc, .slice a.dq m.data.length a.dc] 31))
  have HV := hide (VarM.new w 31 (.slice a.ro m.refs.length a.rc) (.slice a.tq m.table.length a.tc) (.slice a.so m.snaps.length a.sc) (.slice a.dq m.data.length a.dc))
  have HC := hide (hc.below (unhide HA))
  have HL := hide hL
  clear hc hL
  cases hfm : imFm m
  · have HF := hide (ck_fm hfm)
    go_enter Try.func30, Try.ntmps30
    go_upto_region 1 with fail
    revert HA HV HC
    generalize (w.alloc _) = W0
    intro HA HV HC
    obtain ⟨c0, c1, c2, c3⟩ := (unhide HV).cells
    go_wp2_with fail
    refine (l10Form_any a m _ (unhide HL) (unhide HC)).mono ?_
    rintro e w1 ⟨rfl, hb⟩
    rw [hfm]
    have HB := hide (fr (unhide HA) hb)
    clear hb c0 c1 c2 c3
    go_wp2
    go_ret
    exact ⟨ret_bool (unhide HF).symm, unhide HB⟩
  obtain ⟨p1, p2, p3, p4⟩ := fm_parts hfm
  have HFM := hide hfm
  have HR24 := hide (ctB_len p1)
  have HD24 := hide p3
  have HTB := hide p4
  have hs3 : m.snaps.length ≤ 3 := p2
  clear p1 p2 p3 p4 hfm
  go_enter Try.func30, Try.ntmps30
  go_upto_region 1 with fail
  revert HA HV HC
  generalize (w.alloc _) = W0
  intro HA HV HC
  obtain ⟨c0, c1, c2, c3⟩ := (unhide HV).cells
  go_wp2_with fail
  refine (l10Form_any a m _ (unhide HL) (unhide HC)).mono ?_
  rintro e w1 ⟨rfl, hb⟩
  rw [unhide HFM]
  have HB1 := hide (fr (unhide HA) hb)
  have HC1 := hide ((unhide HC).below hb)
  have HV1 := hide ((unhide HV).below hb)
  clear hb c0 c1 c2 c3 HA HV HC
  obtain ⟨c0, c1, c2, c3⟩ := (unhide HV1).cells
  go_wp2_with fail
  refine (l10Twice_any a.tq a.tc m.table _ (unhide HTB _ (by simp [imTabs])) (unhide HC1).t).mono ?_
  rintro e w2 ⟨rfl, hb⟩
  have HB2 := hide (fr (unhide HB1) hb)
  have HC2 := hide ((unhide HC1).below hb)
  have HV2 := hide ((unhide HV1).below hb)
  clear hb c0 c1 c2 c3 HB1 HC1 HV1
  cases hon : onceB m.table
  · have HF := hide (ck_once (m := m) (t := m.table) (by simp [imTabs]) hon)
    go_wp2
    go_ret
    exact ⟨ret_bool (unhide HF).symm, unhide HB2⟩
  have HON := hide hon
  clear hon
  obtain ⟨c0, c1, c2, c3⟩ := (unhide HV2).cells
  go_wp2
  clear c0 c1 c2 c3
  go_loopw [3] (fun i wr => ∃ k : Nat, k ≤ m.snaps.length ∧ i = .int .i64 k ∧ Hid (∀ j (hj : j < m.snaps.length), j < k → onceB m.snaps[j].table = true) ∧ Hid (Below w2.heap.size w2 wr)) (fun i _ => m.snaps.length - (intOf i).toNat)
  case atStart => exact ⟨0, Nat.zero_le _, rfl, hide (fun j _ h => by omega), hide (Below.refl _ _)⟩
  case round =>
    obtain ⟨i, hi, rfl, HS, HB⟩ := hrel
    obtain ⟨c0, c1, c2, c3⟩ := ((unhide HV2).below (unhide HB)).cells
    by_cases hlt : i < m.snaps.length
    · obtain ⟨b, off, tq, tc, eb, hn0, ht0, hIs, hz, htl⟩ := ((unhide HC2).s.below (unhide HB)) i hlt
      rw [eb] at c2
      clear eb
      have hlti : (i : Int) < (m.snaps.length : Int) := by omega
      have HIS := hide hIs
      have HMT : Hid (m.snaps[i].table ∈ imTabs m) := hide (by unfold imTabs; exact List.mem_cons_of_mem _ (List.mem_map.2 ⟨_, List.getElem_mem hlt, rfl⟩))
      clear hIs hz htl
      go_wp2_with fail
      refine (l10Twice_any tq tc m.snaps[i].table _ (unhide HTB _ (unhide HMT)) (unhide HIS)).mono ?_
      rintro e w3 ⟨rfl, hb⟩
      have HB3 := hide (fr (unhide HB) hb)
      clear hb c0 c1 c2 c3 hn0 ht0
      cases hon : onceB m.snaps[i].table
      · have HF := hide (ck_once (unhide HMT) hon)
        go_wp2
        go_ret
        exact ⟨ret_bool (unhide HF).symm, fr (unhide HB2) (unhide HB3)⟩
      · have HS' := hide (all_succ (p := fun s : Snp => onceB s.table) hlt (unhide HS) hon)
        go_wp2
        go_roundw
        case rel => exact ⟨i + 1, by omega, by go_num, HS', HB3⟩
        case measure => simp [intOf]; omega
    · have HALL : Hid (∀ t ∈ imTabs m, onceB t = true) := hide (fun t ht => by
        unfold imTabs at ht
        rw [List.mem_cons, List.mem_map] at ht
        rcases ht with rfl | ⟨s, hs, rfl⟩
        · exact unhide HON
        · obtain ⟨j, hj, rfl⟩ := List.mem_iff_getElem.1 hs
          exact unhide HS j hj (by omega))
      have HF := hide (ck_yes (unhide HFM) (unhide HALL))
      go_wp2
      go_ret
      exact ⟨ret_bool (unhide HF).symm, fr (unhide HB2) (unhide HB)⟩

set_option maxHeartbeats 3200000 in
theorem countRefs_spec (a : Im4) (m : Img) (w : World) (hL : ImL m) (hc : ImS w a m) :
    Calls Try.prog 9 #[imV a m] w fun e w' => AnsN w w' e (crA m) := by
  have HA := hide (Joins.below_alloc1 w (.cells #[.slice a.ro m.refs.length a.rc, .slice a.tq m.table.length a.tc, .slice a.so m.snaps.length a.sc, .slice a.dq m.data.length a.dc] 31))
  have HV := hide (VarM.new w 31 (.slice a.ro m.refs.length a.rc) (.slice a.tq m.table.length a.tc) (.slice a.so m.snaps.length a.sc) (.slice a.dq m.data.length a.dc))
  have HC := hide (hc.below (unhide HA))
  have HL := hide hL
  clear hc hL
  go_enter Try.func9, Try.ntmps9
  go_upto_region 1 with fail
  revert HA HV HC
  generalize (w.alloc _) = W0
  intro HA HV HC
  obtain ⟨c0, c1, c2, c3⟩ := (unhide HV).cells
  go_wp2_with fail
  refine (l12Form_any a m _ (unhide HL) (unhide HC)).mono ?_
  rintro e w1 ⟨rfl, hb⟩
  have HB1 := hide (fr (unhide HA) hb)
  have HC1 := hide ((unhide HC).below hb)
  have HV1 := hide ((unhide HV).below hb)
  clear hb c0 c1 c2 c3 HA HV HC
  cases hk : ckB m
  · have HE : Hid (crA m = ([], 1)) := hide (by simp [crA, hk])
    clear hk
    go_wp2
    go_ret2
    exact ⟨some ⟨w1.heap.size, 0, none⟩, 0, by rw [unhide HE]; rfl, by rw [unhide HE]; exact .inl ⟨rfl, rfl, _, rfl⟩, fr (unhide HB1) (Joins.below_alloc1 _ _)⟩
  have HE : Hid (crA m = (imCnt m, 0)) := hide (by simp [crA, hk])
  have HP := hide (fm_parts (ck_parts hk).1)
  clear hk
  obtain ⟨c0, c1, c2, c3⟩ := (unhide HV1).cells
  go_wp2_with fail
  refine (l10Count_any a m _ (unhide HP).2.1 (unhide HP).2.2.2 (unhide HC1)).mono ?_
  rintro e w3 ⟨v, rfl, ⟨no, na, rfl, ho⟩, hb⟩
  have HB3 := hide (fr (unhide HB1) hb)
  have HO3 := hide (ho.base (unhide HB1).size)
  clear ho hb c0 c1 c2 c3
  go_wp2
  go_ret2
  exact ⟨no, na, by rw [unhide HE]; rfl, by rw [unhide HE]; exact unhide HO3, unhide HB3⟩

end Go.Proofs.Ytkaiglhljpehpab
