import Derived.Test.YtbmkdbccdnbbjaaGreatDoorPart15
import Derived.Test.YtbmkdbccdnbbjaaGreatDoorPart17
import Derived.Test.YtbmkdbccdnbbjaaGreatDoorPart3
import Derived.Test.YtbmkdbccdnbbjaaGreatDoorPart10
import Derived.WalkKit
import Derived.WalkSpells
import Derived.KernelRfl
import Derived.LoopN
import Derived.BigQuiet
import Derived.Deep.QuietTactic
import Derived.Deep.RegionWith

namespace Go.Proofs.YtbmkdbccdnbbjaaGreatDoor
open Go.RowKit
set_option linter.unusedVariables false
set_option maxRecDepth 100000

def rq0d : Rq := ⟨0, 0, 0, noB⟩
theorem DrwQ.size {q : Rq} (h : DrwQ q) : q.n.size ≤ maxLen := by
  have := h.r
  simp only [rqB, Bool.and_eq_true, decide_eq_true_eq] at this
  have := this.1.2
  unfold maxLen; omega
theorem reqS (a : Im4) (m : Img) (q : Rq) (W : World) (h : ImR m) (hq : DrwQ q) (hs : ImS W a m) :
    Calls Tryz.prog 15 #[imV a m, qV q] W fun e w' => AnsQ W w' e ((dqA m q).1, (dqA m q).2, 0) := by
  have := reqDo_spec a m q W h.M.L hq.size hs
  rw [rdo_yes (imB_iff.2 h) hq.r] at this
  exact this
theorem dfA_right {a b : Img} (h1 : ImR a) (h2 : ImR b) : dfA a b = (difU a b, 0) := by rw [dfA, if_pos ⟨imB_iff.2 h1, imB_iff.2 h2⟩]
theorem dfI (a b : Im4) (ma mb : Img) (W : World) (h1 : ImR ma) (h2 : ImR mb) (s1 : ImS W a ma) (s2 : ImS W b mb) :
    Calls Tryz.prog 17 #[imV a ma, imV b mb] W fun e w' => ∃ qo qa, e = .returned (.tuple #[.slice qo (difU ma mb).length qa, .int .i64 0]) ∧ Ups w' qo (difU ma mb) ∧ Below W.heap.size W w' := by
  have := diffUpdates_impl a b ma mb W h1.M.L h2.M.L s1 s2
  rw [dfA_right h1 h2] at this
  exact this.mono fun e w' ⟨qo, qa, he, hu⟩ => ⟨qo, qa, he, ownUps hu.o (fun u hu' => by have := allU_sz h2 u (difU_sub hu'); unfold maxLen; omega), hu.k⟩
theorem dfS (a b : Im4) (ma mb : Img) (W : World) (h1 : ImR ma) (h2 : ImR mb) (s1 : ImS W a ma) (s2 : ImS W b mb) :
    Calls Tryz.prog 18 #[imV a ma, imV b mb] W fun e w' => ∃ qo qa, e = .returned (.tuple #[.slice qo (difU ma mb).length qa, .int .i64 0]) ∧ Ups w' qo (difU ma mb) ∧ Below W.heap.size W w' := by
  have := diffUpdates_spec a b ma mb W h1.M.L h2.M.L s1 s2
  rw [dfA_right h1 h2] at this
  exact this.mono fun e w' ⟨qo, qa, he, hu⟩ => ⟨qo, qa, he, ownUps hu.o (fun u hu' => by have := allU_sz h2 u (difU_sub hu'); unfold maxLen; omega), hu.k⟩

structure LdJ (W0 : World) (m : Img) (AA BO : Value) (d : Nat → Bool) (w : World) (s6 s7 s8 s32 s33 s34 s35 s36 s37 s38 s39 : Value) (a : Im4) (ts : List Value) (no : Option Addr) (nc x y : Nat) (q : Rq) : Prop where
  bw : Below W0.heap.size W0 w
  f0 : d 0 = true → s33 = AA
  f1 : d 1 = true → s34 = BO
  f4 : d 4 = true → s32 = .tuple #[imV a (dqA m q).1, rpV (dqA m q).2 no nc, .int .i64 0]
  f5 : d 5 = true → s37 = imV a (dqA m q).1
  f6 : d 6 = true → s38 = rpV (dqA m q).2 no nc
  f7 : d 7 = true → s39 = .int .i64 0
  f12 : d 12 = true → s8 = .int .i64 0
  rq : d 2 = true → s35 = qV q
  rd : d 2 = true → DrwQ q
  c : d 3 = true → s36 = .tuple #[imV a (dqA m q).1, rpV (dqA m q).2 no nc, .int .i64 0]
  o : d 3 = true → OwnIm w W0.heap.size a (dqA m q).1 ts
  n : d 3 = true → OwnNs w W0.heap.size no nc (dqA m q).2.ns
  px : d 8 = true → s6 = .pointer (some ⟨x, 0, none⟩)
  x0 : d 8 = true → W0.heap.size ≤ x
  zx : d 8 = true → d 10 = false → ZrM w x
  vx : d 10 = true → FlM w x a (dqA m q).1
  py : d 9 = true → s7 = .pointer (some ⟨y, 0, none⟩)
  y0 : d 9 = true → W0.heap.size ≤ y
  zy : d 9 = true → d 11 = false → ZrY w y
  vy : d 11 = true → FlY w y (dqA m q).2 no nc

theorem LdJ.s0 {W0 : World} {m : Img} {AA BO : Value} {d : Nat → Bool} {w : World} {s6 s7 s8 s32 s33 s34 s35 s36 s37 s38 s39 v : Value} {a : Im4} {ts : List Value} {no : Option Addr} {nc x y : Nat} {q : Rq} (I : LdJ W0 m AA BO d w s6 s7 s8 s32 s33 s34 s35 s36 s37 s38 s39 a ts no nc x y q) (hd : d 0 = false) (hv : v = AA) : LdJ W0 m AA BO (updD d 0) w s6 s7 s8 s32 v s34 s35 s36 s37 s38 s39 a ts no nc x y q where
  bw := I.bw
  f0 := fun _ => hv
  f1 := fun h => (I.f1 (upd_ne (by decide) h))
  f4 := fun h => (I.f4 (upd_ne (by decide) h))
  f5 := fun h => (I.f5 (upd_ne (by decide) h))
  f6 := fun h => (I.f6 (upd_ne (by decide) h))
  f7 := fun h => (I.f7 (upd_ne (by decide) h))
  f12 := fun h => (I.f12 (upd_ne (by decide) h))
  rq := fun h => (I.rq (upd_ne (by decide) h))
  rd := fun h => (I.rd (upd_ne (by decide) h))
  c := fun h => (I.c (upd_ne (by decide) h))
  o := fun h => (I.o (upd_ne (by decide) h))
  n := fun h => (I.n (upd_ne (by decide) h))
  px := fun h => (I.px (upd_ne (by decide) h))
  x0 := fun h => (I.x0 (upd_ne (by decide) h))
  zx := fun h h2 => (I.zx (upd_ne (by decide) h) (upd_nf h2))
  vx := fun h => (I.vx (upd_ne (by decide) h))
  py := fun h => (I.py (upd_ne (by decide) h))
  y0 := fun h => (I.y0 (upd_ne (by decide) h))
  zy := fun h h2 => (I.zy (upd_ne (by decide) h) (upd_nf h2))
  vy := fun h => (I.vy (upd_ne (by decide) h))

theorem LdJ.s1 {W0 : World} {m : Img} {AA BO : Value} {d : Nat → Bool} {w : World} {s6 s7 s8 s32 s33 s34 s35 s36 s37 s38 s39 v : Value} {a : Im4} {ts : List Value} {no : Option Addr} {nc x y : Nat} {q : Rq} (I : LdJ W0 m AA BO d w s6 s7 s8 s32 s33 s34 s35 s36 s37 s38 s39 a ts no nc x y q) (hd : d 1 = false) (hv : v = BO) : LdJ W0 m AA BO (updD d 1) w s6 s7 s8 s32 s33 v s35 s36 s37 s38 s39 a ts no nc x y q where
  bw := I.bw
  f0 := fun h => (I.f0 (upd_ne (by decide) h))
  f1 := fun _ => hv
  f4 := fun h => (I.f4 (upd_ne (by decide) h))
  f5 := fun h => (I.f5 (upd_ne (by decide) h))
  f6 := fun h => (I.f6 (upd_ne (by decide) h))
  f7 := fun h => (I.f7 (upd_ne (by decide) h))
  f12 := fun h => (I.f12 (upd_ne (by decide) h))
  rq := fun h => (I.rq (upd_ne (by decide) h))
  rd := fun h => (I.rd (upd_ne (by decide) h))
  c := fun h => (I.c (upd_ne (by decide) h))
  o := fun h => (I.o (upd_ne (by decide) h))
  n := fun h => (I.n (upd_ne (by decide) h))
  px := fun h => (I.px (upd_ne (by decide) h))
  x0 := fun h => (I.x0 (upd_ne (by decide) h))
  zx := fun h h2 => (I.zx (upd_ne (by decide) h) (upd_nf h2))
  vx := fun h => (I.vx (upd_ne (by decide) h))
  py := fun h => (I.py (upd_ne (by decide) h))
  y0 := fun h => (I.y0 (upd_ne (by decide) h))
  zy := fun h h2 => (I.zy (upd_ne (by decide) h) (upd_nf h2))
  vy := fun h => (I.vy (upd_ne (by decide) h))

theorem LdJ.s2 {W0 : World} {m : Img} {AA BO : Value} {d : Nat → Bool} {w w2 : World} {s6 s7 s8 s32 s33 s34 s35 s36 s37 s38 s39 v : Value} {a : Im4} {ts : List Value} {no : Option Addr} {nc x y : Nat} {q : Rq} (I : LdJ W0 m AA BO d w s6 s7 s8 s32 s33 s34 s35 s36 s37 s38 s39 a ts no nc x y q) (hd : d 2 = false) (hb : Below w.heap.size w w2) {q1 : Rq} (hv : v = qV q1) (hq : DrwQ q1) (n3 : d 3 = false) (n4 : d 4 = false) (n5 : d 5 = false) (n6 : d 6 = false) (n7 : d 7 = false) (n10 : d 10 = false) (n11 : d 11 = false) (n12 : d 12 = false) : LdJ W0 m AA BO (updD d 2) w2 s6 s7 s8 s32 s33 s34 v s36 s37 s38 s39 a ts no nc x y q1 where
  bw := fr I.bw hb
  f0 := fun h => (I.f0 (upd_ne (by decide) h))
  f1 := fun h => (I.f1 (upd_ne (by decide) h))
  f4 := fun h => no_d (upd_ne (by decide) h) n4
  f5 := fun h => no_d (upd_ne (by decide) h) n5
  f6 := fun h => no_d (upd_ne (by decide) h) n6
  f7 := fun h => no_d (upd_ne (by decide) h) n7
  f12 := fun h => no_d (upd_ne (by decide) h) n12
  rq := fun _ => hv
  rd := fun _ => hq
  c := fun h => no_d (upd_ne (by decide) h) n3
  o := fun h => no_d (upd_ne (by decide) h) n3
  n := fun h => no_d (upd_ne (by decide) h) n3
  px := fun h => (I.px (upd_ne (by decide) h))
  x0 := fun h => (I.x0 (upd_ne (by decide) h))
  zx := fun h h2 => (I.zx (upd_ne (by decide) h) (upd_nf h2)).below hb
  vx := fun h => no_d (upd_ne (by decide) h) n10
  py := fun h => (I.py (upd_ne (by decide) h))
  y0 := fun h => (I.y0 (upd_ne (by decide) h))
  zy := fun h h2 => (I.zy (upd_ne (by decide) h) (upd_nf h2)).below hb
  vy := fun h => no_d (upd_ne (by decide) h) n11

theorem LdJ.s3 {W0 : World} {m : Img} {AA BO : Value} {d : Nat → Bool} {w w2 : World} {s6 s7 s8 s32 s33 s34 s35 s36 s37 s38 s39 v : Value} {a : Im4} {ts : List Value} {no : Option Addr} {nc x y : Nat} {q : Rq} (I : LdJ W0 m AA BO d w s6 s7 s8 s32 s33 s34 s35 s36 s37 s38 s39 a ts no nc x y q) (hd : d 3 = false) (hb : Below w.heap.size w w2) {a1 : Im4} {ts1 : List Value} {no1 : Option Addr} {nc1 : Nat} (hv : v = .tuple #[imV a1 (dqA m q).1, rpV (dqA m q).2 no1 nc1, .int .i64 0]) (ho : OwnIm w2 w.heap.size a1 (dqA m q).1 ts1) (hn : OwnNs w2 w.heap.size no1 nc1 (dqA m q).2.ns) (n4 : d 4 = false) (n5 : d 5 = false) (n6 : d 6 = false) (n7 : d 7 = false) (n10 : d 10 = false) (n11 : d 11 = false) (n12 : d 12 = false) : LdJ W0 m AA BO (updD d 3) w2 s6 s7 s8 s32 s33 s34 s35 v s37 s38 s39 a1 ts1 no1 nc1 x y q where
  bw := fr I.bw hb
  f0 := fun h => (I.f0 (upd_ne (by decide) h))
  f1 := fun h => (I.f1 (upd_ne (by decide) h))
  f4 := fun h => no_d (upd_ne (by decide) h) n4
  f5 := fun h => no_d (upd_ne (by decide) h) n5
  f6 := fun h => no_d (upd_ne (by decide) h) n6
  f7 := fun h => no_d (upd_ne (by decide) h) n7
  f12 := fun h => no_d (upd_ne (by decide) h) n12
  rq := fun h => (I.rq (upd_ne (by decide) h))
  rd := fun h => (I.rd (upd_ne (by decide) h))
  c := fun _ => hv
  o := fun _ => ho.base I.bw.size
  n := fun _ => OwnR.base hn I.bw.size
  px := fun h => (I.px (upd_ne (by decide) h))
  x0 := fun h => (I.x0 (upd_ne (by decide) h))
  zx := fun h h2 => (I.zx (upd_ne (by decide) h) (upd_nf h2)).below hb
  vx := fun h => no_d (upd_ne (by decide) h) n10
  py := fun h => (I.py (upd_ne (by decide) h))
  y0 := fun h => (I.y0 (upd_ne (by decide) h))
  zy := fun h h2 => (I.zy (upd_ne (by decide) h) (upd_nf h2)).below hb
  vy := fun h => no_d (upd_ne (by decide) h) n11

theorem LdJ.s4 {W0 : World} {m : Img} {AA BO : Value} {d : Nat → Bool} {w : World} {s6 s7 s8 s32 s33 s34 s35 s36 s37 s38 s39 v : Value} {a : Im4} {ts : List Value} {no : Option Addr} {nc x y : Nat} {q : Rq} (I : LdJ W0 m AA BO d w s6 s7 s8 s32 s33 s34 s35 s36 s37 s38 s39 a ts no nc x y q) (hd : d 4 = false) (hv : v = .tuple #[imV a (dqA m q).1, rpV (dqA m q).2 no nc, .int .i64 0]) : LdJ W0 m AA BO (updD d 4) w s6 s7 s8 v s33 s34 s35 s36 s37 s38 s39 a ts no nc x y q where
  bw := I.bw
  f0 := fun h => (I.f0 (upd_ne (by decide) h))
  f1 := fun h => (I.f1 (upd_ne (by decide) h))
  f4 := fun _ => hv
  f5 := fun h => (I.f5 (upd_ne (by decide) h))
  f6 := fun h => (I.f6 (upd_ne (by decide) h))
  f7 := fun h => (I.f7 (upd_ne (by decide) h))
  f12 := fun h => (I.f12 (upd_ne (by decide) h))
  rq := fun h => (I.rq (upd_ne (by decide) h))
  rd := fun h => (I.rd (upd_ne (by decide) h))
  c := fun h => (I.c (upd_ne (by decide) h))
  o := fun h => (I.o (upd_ne (by decide) h))
  n := fun h => (I.n (upd_ne (by decide) h))
  px := fun h => (I.px (upd_ne (by decide) h))
  x0 := fun h => (I.x0 (upd_ne (by decide) h))
  zx := fun h h2 => (I.zx (upd_ne (by decide) h) (upd_nf h2))
  vx := fun h => (I.vx (upd_ne (by decide) h))
  py := fun h => (I.py (upd_ne (by decide) h))
  y0 := fun h => (I.y0 (upd_ne (by decide) h))
  zy := fun h h2 => (I.zy (upd_ne (by decide) h) (upd_nf h2))
  vy := fun h => (I.vy (upd_ne (by decide) h))

theorem LdJ.s5 {W0 : World} {m : Img} {AA BO : Value} {d : Nat → Bool} {w : World} {s6 s7 s8 s32 s33 s34 s35 s36 s37 s38 s39 v : Value} {a : Im4} {ts : List Value} {no : Option Addr} {nc x y : Nat} {q : Rq} (I : LdJ W0 m AA BO d w s6 s7 s8 s32 s33 s34 s35 s36 s37 s38 s39 a ts no nc x y q) (hd : d 5 = false) (hv : v = imV a (dqA m q).1) : LdJ W0 m AA BO (updD d 5) w s6 s7 s8 s32 s33 s34 s35 s36 v s38 s39 a ts no nc x y q where
  bw := I.bw
  f0 := fun h => (I.f0 (upd_ne (by decide) h))
  f1 := fun h => (I.f1 (upd_ne (by decide) h))
  f4 := fun h => (I.f4 (upd_ne (by decide) h))
  f5 := fun _ => hv
  f6 := fun h => (I.f6 (upd_ne (by decide) h))
  f7 := fun h => (I.f7 (upd_ne (by decide) h))
  f12 := fun h => (I.f12 (upd_ne (by decide) h))
  rq := fun h => (I.rq (upd_ne (by decide) h))
  rd := fun h => (I.rd (upd_ne (by decide) h))
  c := fun h => (I.c (upd_ne (by decide) h))
  o := fun h => (I.o (upd_ne (by decide) h))
  n := fun h => (I.n (upd_ne (by decide) h))
  px := fun h => (I.px (upd_ne (by decide) h))
  x0 := fun h => (I.x0 (upd_ne (by decide) h))
  zx := fun h h2 => (I.zx (upd_ne (by decide) h) (upd_nf h2))
  vx := fun h => (I.vx (upd_ne (by decide) h))
  py := fun h => (I.py (upd_ne (by decide) h))
  y0 := fun h => (I.y0 (upd_ne (by decide) h))
  zy := fun h h2 => (I.zy (upd_ne (by decide) h) (upd_nf h2))
  vy := fun h => (I.vy (upd_ne (by decide) h))

theorem LdJ.s6 {W0 : World} {m : Img} {AA BO : Value} {d : Nat → Bool} {w : World} {s6 s7 s8 s32 s33 s34 s35 s36 s37 s38 s39 v : Value} {a : Im4} {ts : List Value} {no : Option Addr} {nc x y : Nat} {q : Rq} (I : LdJ W0 m AA BO d w s6 s7 s8 s32 s33 s34 s35 s36 s37 s38 s39 a ts no nc x y q) (hd : d 6 = false) (hv : v = rpV (dqA m q).2 no nc) : LdJ W0 m AA BO (updD d 6) w s6 s7 s8 s32 s33 s34 s35 s36 s37 v s39 a ts no nc x y q where
  bw := I.bw
  f0 := fun h => (I.f0 (upd_ne (by decide) h))
  f1 := fun h => (I.f1 (upd_ne (by decide) h))
  f4 := fun h => (I.f4 (upd_ne (by decide) h))
  f5 := fun h => (I.f5 (upd_ne (by decide) h))
  f6 := fun _ => hv
  f7 := fun h => (I.f7 (upd_ne (by decide) h))
  f12 := fun h => (I.f12 (upd_ne (by decide) h))
  rq := fun h => (I.rq (upd_ne (by decide) h))
  rd := fun h => (I.rd (upd_ne (by decide) h))
  c := fun h => (I.c (upd_ne (by decide) h))
  o := fun h => (I.o (upd_ne (by decide) h))
  n := fun h => (I.n (upd_ne (by decide) h))
  px := fun h => (I.px (upd_ne (by decide) h))
  x0 := fun h => (I.x0 (upd_ne (by decide) h))
  zx := fun h h2 => (I.zx (upd_ne (by decide) h) (upd_nf h2))
  vx := fun h => (I.vx (upd_ne (by decide) h))
  py := fun h => (I.py (upd_ne (by decide) h))
  y0 := fun h => (I.y0 (upd_ne (by decide) h))
  zy := fun h h2 => (I.zy (upd_ne (by decide) h) (upd_nf h2))
  vy := fun h => (I.vy (upd_ne (by decide) h))

theorem LdJ.s7 {W0 : World} {m : Img} {AA BO : Value} {d : Nat → Bool} {w : World} {s6 s7 s8 s32 s33 s34 s35 s36 s37 s38 s39 v : Value} {a : Im4} {ts : List Value} {no : Option Addr} {nc x y : Nat} {q : Rq} (I : LdJ W0 m AA BO d w s6 s7 s8 s32 s33 s34 s35 s36 s37 s38 s39 a ts no nc x y q) (hd : d 7 = false) (hv : v = .int .i64 0) : LdJ W0 m AA BO (updD d 7) w s6 s7 s8 s32 s33 s34 s35 s36 s37 s38 v a ts no nc x y q where
  bw := I.bw
  f0 := fun h => (I.f0 (upd_ne (by decide) h))
  f1 := fun h => (I.f1 (upd_ne (by decide) h))
  f4 := fun h => (I.f4 (upd_ne (by decide) h))
  f5 := fun h => (I.f5 (upd_ne (by decide) h))
  f6 := fun h => (I.f6 (upd_ne (by decide) h))
  f7 := fun _ => hv
  f12 := fun h => (I.f12 (upd_ne (by decide) h))
  rq := fun h => (I.rq (upd_ne (by decide) h))
  rd := fun h => (I.rd (upd_ne (by decide) h))
  c := fun h => (I.c (upd_ne (by decide) h))
  o := fun h => (I.o (upd_ne (by decide) h))
  n := fun h => (I.n (upd_ne (by decide) h))
  px := fun h => (I.px (upd_ne (by decide) h))
  x0 := fun h => (I.x0 (upd_ne (by decide) h))
  zx := fun h h2 => (I.zx (upd_ne (by decide) h) (upd_nf h2))
  vx := fun h => (I.vx (upd_ne (by decide) h))
  py := fun h => (I.py (upd_ne (by decide) h))
  y0 := fun h => (I.y0 (upd_ne (by decide) h))
  zy := fun h h2 => (I.zy (upd_ne (by decide) h) (upd_nf h2))
  vy := fun h => (I.vy (upd_ne (by decide) h))

theorem LdJ.s8 {W0 : World} {m : Img} {AA BO : Value} {d : Nat → Bool} {w w2 : World} {s6 s7 s8 s32 s33 s34 s35 s36 s37 s38 s39 v : Value} {a : Im4} {ts : List Value} {no : Option Addr} {nc x y : Nat} {q : Rq} (I : LdJ W0 m AA BO d w s6 s7 s8 s32 s33 s34 s35 s36 s37 s38 s39 a ts no nc x y q) (hd : d 8 = false) (hb : Below w.heap.size w w2) {x1 : Nat} (hv : v = .pointer (some ⟨x1, 0, none⟩)) (h0 : w.heap.size ≤ x1) (hz : ZrM w2 x1) (n1 : d 10 = false) : LdJ W0 m AA BO (updD d 8) w2 v s7 s8 s32 s33 s34 s35 s36 s37 s38 s39 a ts no nc x1 y q where
  bw := fr I.bw hb
  f0 := fun h => (I.f0 (upd_ne (by decide) h))
  f1 := fun h => (I.f1 (upd_ne (by decide) h))
  f4 := fun h => (I.f4 (upd_ne (by decide) h))
  f5 := fun h => (I.f5 (upd_ne (by decide) h))
  f6 := fun h => (I.f6 (upd_ne (by decide) h))
  f7 := fun h => (I.f7 (upd_ne (by decide) h))
  f12 := fun h => (I.f12 (upd_ne (by decide) h))
  rq := fun h => (I.rq (upd_ne (by decide) h))
  rd := fun h => (I.rd (upd_ne (by decide) h))
  c := fun h => (I.c (upd_ne (by decide) h))
  o := fun h => (I.o (upd_ne (by decide) h)).below hb
  n := fun h => (I.n (upd_ne (by decide) h)).below hb
  px := fun _ => hv
  x0 := fun _ => Nat.le_trans I.bw.size h0
  zx := fun _ _ => hz
  vx := fun h => no_d (upd_ne (by decide) h) n1
  py := fun h => (I.py (upd_ne (by decide) h))
  y0 := fun h => (I.y0 (upd_ne (by decide) h))
  zy := fun h h2 => (I.zy (upd_ne (by decide) h) (upd_nf h2)).below hb
  vy := fun h => (I.vy (upd_ne (by decide) h)).below hb

theorem LdJ.s9 {W0 : World} {m : Img} {AA BO : Value} {d : Nat → Bool} {w w2 : World} {s6 s7 s8 s32 s33 s34 s35 s36 s37 s38 s39 v : Value} {a : Im4} {ts : List Value} {no : Option Addr} {nc x y : Nat} {q : Rq} (I : LdJ W0 m AA BO d w s6 s7 s8 s32 s33 s34 s35 s36 s37 s38 s39 a ts no nc x y q) (hd : d 9 = false) (hb : Below w.heap.size w w2) {y1 : Nat} (hv : v = .pointer (some ⟨y1, 0, none⟩)) (h0 : w.heap.size ≤ y1) (hz : ZrY w2 y1) (n1 : d 11 = false) : LdJ W0 m AA BO (updD d 9) w2 s6 v s8 s32 s33 s34 s35 s36 s37 s38 s39 a ts no nc x y1 q where
  bw := fr I.bw hb
  f0 := fun h => (I.f0 (upd_ne (by decide) h))
  f1 := fun h => (I.f1 (upd_ne (by decide) h))
  f4 := fun h => (I.f4 (upd_ne (by decide) h))
  f5 := fun h => (I.f5 (upd_ne (by decide) h))
  f6 := fun h => (I.f6 (upd_ne (by decide) h))
  f7 := fun h => (I.f7 (upd_ne (by decide) h))
  f12 := fun h => (I.f12 (upd_ne (by decide) h))
  rq := fun h => (I.rq (upd_ne (by decide) h))
  rd := fun h => (I.rd (upd_ne (by decide) h))
  c := fun h => (I.c (upd_ne (by decide) h))
  o := fun h => (I.o (upd_ne (by decide) h)).below hb
  n := fun h => (I.n (upd_ne (by decide) h)).below hb
  px := fun h => (I.px (upd_ne (by decide) h))
  x0 := fun h => (I.x0 (upd_ne (by decide) h))
  zx := fun h h2 => (I.zx (upd_ne (by decide) h) (upd_nf h2)).below hb
  vx := fun h => (I.vx (upd_ne (by decide) h)).below hb
  py := fun _ => hv
  y0 := fun _ => Nat.le_trans I.bw.size h0
  zy := fun _ _ => hz
  vy := fun h => no_d (upd_ne (by decide) h) n1

theorem LdJ.s10 {W0 : World} {m : Img} {AA BO : Value} {d : Nat → Bool} {w : World} {s6 s7 s8 s32 s33 s34 s35 s36 s37 s38 s39 : Value} {a : Im4} {ts : List Value} {no : Option Addr} {nc x y : Nat} {q : Rq} (I : LdJ W0 m AA BO d w s6 s7 s8 s32 s33 s34 s35 s36 s37 s38 s39 a ts no nc x y q) (hd : d 10 = false) (p1 : d 8 = true) (n1 : d 11 = false) (p2 : d 9 = true) : LdJ W0 m AA BO (updD d 10) (putI w x a (dqA m q).1) s6 s7 s8 s32 s33 s34 s35 s36 s37 s38 s39 a ts no nc x y q where
  bw := below_putI I.bw (I.x0 p1) a (dqA m q).1 I.bw.size
  f0 := fun h => (I.f0 (upd_ne (by decide) h))
  f1 := fun h => (I.f1 (upd_ne (by decide) h))
  f4 := fun h => (I.f4 (upd_ne (by decide) h))
  f5 := fun h => (I.f5 (upd_ne (by decide) h))
  f6 := fun h => (I.f6 (upd_ne (by decide) h))
  f7 := fun h => (I.f7 (upd_ne (by decide) h))
  f12 := fun h => (I.f12 (upd_ne (by decide) h))
  rq := fun h => (I.rq (upd_ne (by decide) h))
  rd := fun h => (I.rd (upd_ne (by decide) h))
  c := fun h => (I.c (upd_ne (by decide) h))
  o := fun h => (I.o (upd_ne (by decide) h)).putI (I.zx p1 hd)
  n := fun h => OwnNs.putI (I.n (upd_ne (by decide) h)) (I.zx p1 hd)
  px := fun h => (I.px (upd_ne (by decide) h))
  x0 := fun h => (I.x0 (upd_ne (by decide) h))
  zx := fun _ h2 => no_d upd_at h2
  vx := fun _ => FlM.of (I.zx p1 hd) a (dqA m q).1
  py := fun h => (I.py (upd_ne (by decide) h))
  y0 := fun h => (I.y0 (upd_ne (by decide) h))
  zy := fun h h2 => (I.zy (upd_ne (by decide) h) (upd_nf h2)).keepX (putI_keep w x a (dqA m q).1) (fun e => apartMY (I.zx p1 hd) (I.zy p2 n1) e.symm)
  vy := fun h => no_d (upd_ne (by decide) h) n1

theorem LdJ.s11 {W0 : World} {m : Img} {AA BO : Value} {d : Nat → Bool} {w : World} {s6 s7 s8 s32 s33 s34 s35 s36 s37 s38 s39 : Value} {a : Im4} {ts : List Value} {no : Option Addr} {nc x y : Nat} {q : Rq} (I : LdJ W0 m AA BO d w s6 s7 s8 s32 s33 s34 s35 s36 s37 s38 s39 a ts no nc x y q) (hd : d 11 = false) (p1 : d 9 = true) (p2 : d 10 = true) : LdJ W0 m AA BO (updD d 11) (putR w y (dqA m q).2 no nc) s6 s7 s8 s32 s33 s34 s35 s36 s37 s38 s39 a ts no nc x y q where
  bw := below_putR I.bw (I.y0 p1) (dqA m q).2 no nc I.bw.size
  f0 := fun h => (I.f0 (upd_ne (by decide) h))
  f1 := fun h => (I.f1 (upd_ne (by decide) h))
  f4 := fun h => (I.f4 (upd_ne (by decide) h))
  f5 := fun h => (I.f5 (upd_ne (by decide) h))
  f6 := fun h => (I.f6 (upd_ne (by decide) h))
  f7 := fun h => (I.f7 (upd_ne (by decide) h))
  f12 := fun h => (I.f12 (upd_ne (by decide) h))
  rq := fun h => (I.rq (upd_ne (by decide) h))
  rd := fun h => (I.rd (upd_ne (by decide) h))
  c := fun h => (I.c (upd_ne (by decide) h))
  o := fun h => (I.o (upd_ne (by decide) h)).putRp (I.zy p1 hd) (dqA m q).2 no nc
  n := fun h => OwnNs.putR (I.n (upd_ne (by decide) h)) (I.zy p1 hd) (dqA m q).2 no nc
  px := fun h => (I.px (upd_ne (by decide) h))
  x0 := fun h => (I.x0 (upd_ne (by decide) h))
  zx := fun h h2 => no_d p2 (upd_nf h2)
  vx := fun h => (I.vx (upd_ne (by decide) h)).keepX (putR_keep w y (dqA m q).2 no nc) (apartMY (I.vx (upd_ne (by decide) h)) (I.zy p1 hd))
  py := fun h => (I.py (upd_ne (by decide) h))
  y0 := fun h => (I.y0 (upd_ne (by decide) h))
  zy := fun _ h2 => no_d upd_at h2
  vy := fun _ => FlY.of (I.zy p1 hd) (dqA m q).2 no nc

theorem LdJ.s12 {W0 : World} {m : Img} {AA BO : Value} {d : Nat → Bool} {w : World} {s6 s7 s8 s32 s33 s34 s35 s36 s37 s38 s39 v : Value} {a : Im4} {ts : List Value} {no : Option Addr} {nc x y : Nat} {q : Rq} (I : LdJ W0 m AA BO d w s6 s7 s8 s32 s33 s34 s35 s36 s37 s38 s39 a ts no nc x y q) (hd : d 12 = false) (hv : v = .int .i64 0) : LdJ W0 m AA BO (updD d 12) w s6 s7 v s32 s33 s34 s35 s36 s37 s38 s39 a ts no nc x y q where
  bw := I.bw
  f0 := fun h => (I.f0 (upd_ne (by decide) h))
  f1 := fun h => (I.f1 (upd_ne (by decide) h))
  f4 := fun h => (I.f4 (upd_ne (by decide) h))
  f5 := fun h => (I.f5 (upd_ne (by decide) h))
  f6 := fun h => (I.f6 (upd_ne (by decide) h))
  f7 := fun h => (I.f7 (upd_ne (by decide) h))
  f12 := fun _ => hv
  rq := fun h => (I.rq (upd_ne (by decide) h))
  rd := fun h => (I.rd (upd_ne (by decide) h))
  c := fun h => (I.c (upd_ne (by decide) h))
  o := fun h => (I.o (upd_ne (by decide) h))
  n := fun h => (I.n (upd_ne (by decide) h))
  px := fun h => (I.px (upd_ne (by decide) h))
  x0 := fun h => (I.x0 (upd_ne (by decide) h))
  zx := fun h h2 => (I.zx (upd_ne (by decide) h) (upd_nf h2))
  vx := fun h => (I.vx (upd_ne (by decide) h))
  py := fun h => (I.py (upd_ne (by decide) h))
  y0 := fun h => (I.y0 (upd_ne (by decide) h))
  zy := fun h h2 => (I.zy (upd_ne (by decide) h) (upd_nf h2))
  vy := fun h => (I.vy (upd_ne (by decide) h))

theorem LdJ.start {W0 : World} {m : Img} {AA BO : Value} {w : World} {s6 s7 s8 s32 s33 s34 s35 s36 s37 s38 s39 : Value} {a : Im4} {ts : List Value} {no : Option Addr} {nc x y : Nat} {q : Rq} (hb : Below W0.heap.size W0 w) : LdJ W0 m AA BO (fun _ => false) w s6 s7 s8 s32 s33 s34 s35 s36 s37 s38 s39 a ts no nc x y q where
  bw := hb
  f0 := fun h => (by cases h)
  f1 := fun h => (by cases h)
  f4 := fun h => (by cases h)
  f5 := fun h => (by cases h)
  f6 := fun h => (by cases h)
  f7 := fun h => (by cases h)
  f12 := fun h => (by cases h)
  rq := fun h => (by cases h)
  rd := fun h => (by cases h)
  c := fun h => (by cases h)
  o := fun h => (by cases h)
  n := fun h => (by cases h)
  px := fun h => (by cases h)
  x0 := fun h => (by cases h)
  zx := fun h _ => (by cases h)
  vx := fun h => (by cases h)
  py := fun h => (by cases h)
  y0 := fun h => (by cases h)
  zy := fun h _ => (by cases h)
  vy := fun h => (by cases h)

abbrev ldF (t0 t1 t2 t3 t4 t5 s6 s7 s8 t9 t10 t11 t12 t13 t14 t15 t16 t17 t18 t19 t20 t21 t22 t23 t24 t25 t26 t27 t28 t29 t30 t31 s32 s33 s34 s35 s36 s37 s38 s39 t40 t41 t42 t43 t44 t45 t46 t47 t48 t49 t50 t51 t52 t53 t54 t55 t56 t57 t58 t59 t60 t61 t62 t63 t64 t65 t66 t67 t68 t69 t70 t71 t72 t73 t74 t75 t76 t77 t78 t79 t80 t81 t82 t83 t84 t85 t86 t87 t88 t89 t90 t91 t92 t93 t94 t95 t96 t97 t98 t99 t100 t101 t102 t103 t104 t105 t106 t107 t108 t109 t110 t111 t112 t113 t114 t115 t116 t117 t118 t119 t120 t121 t122 t123 t124 t125 t126 t127 t128 t129 t130 t131 t132 t133 t134 t135 t136 t137 t138 t139 t140 t141 t142 t143 t144 t145 t146 t147 t148 t149 : Value) : Act := ⟨#[t0, t1, t2, t3, t4, t5, s6, s7, s8, t9, t10, t11, t12, t13, t14, t15, t16, t17, t18, t19, t20, t21, t22, t23, t24, t25, t26, t27, t28, t29, t30, t31, s32, s33, s34, s35, s36, s37, s38, s39, t40, t41, t42, t43, t44, t45, t46, t47, t48, t49, t50, t51, t52, t53, t54, t55, t56, t57, t58, t59, t60, t61, t62, t63, t64, t65, t66, t67, t68, t69, t70, t71, t72, t73, t74, t75, t76, t77, t78, t79, t80, t81, t82, t83, t84, t85, t86, t87, t88, t89, t90, t91, t92, t93, t94, t95, t96, t97, t98, t99, t100, t101, t102, t103, t104, t105, t106, t107, t108, t109, t110, t111, t112, t113, t114, t115, t116, t117, t118, t119, t120, t121, t122, t123, t124, t125, t126, t127, t128, t129, t130, t131, t132, t133, t134, t135, t136, t137, t138, t139, t140, t141, t142, t143, t144, t145, t146, t147, t148, t149], []⟩
theorem ldF_region {P : Program} {id : Nat} {Q : Exit → Act → World → Prop} {l : List Oper} {t0 t1 t2 t3 t4 t5 s6 s7 s8 t9 t10 t11 t12 t13 t14 t15 t16 t17 t18 t19 t20 t21 t22 t23 t24 t25 t26 t27 t28 t29 t30 t31 s32 s33 s34 s35 s36 s37 s38 s39 t40 t41 t42 t43 t44 t45 t46 t47 t48 t49 t50 t51 t52 t53 t54 t55 t56 t57 t58 t59 t60 t61 t62 t63 t64 t65 t66 t67 t68 t69 t70 t71 t72 t73 t74 t75 t76 t77 t78 t79 t80 t81 t82 t83 t84 t85 t86 t87 t88 t89 t90 t91 t92 t93 t94 t95 t96 t97 t98 t99 t100 t101 t102 t103 t104 t105 t106 t107 t108 t109 t110 t111 t112 t113 t114 t115 t116 t117 t118 t119 t120 t121 t122 t123 t124 t125 t126 t127 t128 t129 t130 t131 t132 t133 t134 t135 t136 t137 t138 t139 t140 t141 t142 t143 t144 t145 t146 t147 t148 t149 : Value} {W : World} (J : (Nat → Bool) → World → Value → Value → Value → Value → Value → Value → Value → Value → Value → Value → Value → Prop) (hm : P.follows .mixedOrders = true) (hl : linC l = true)
    (hg : ∀ (i : Nat) (o : Oper), l[i]? = some o → o.guard = none) (h0 : J (fun _ => false) { W with drawn := W.drawn + 1 } s6 s7 s8 s32 s33 s34 s35 s36 s37 s38 s39)
    (hs : ∀ (d : Nat → Bool) (w : World) (i : Nat) (o : Oper) (r6 r7 r8 r32 r33 r34 r35 r36 r37 r38 r39 : Value), Closed l d → J d w r6 r7 r8 r32 r33 r34 r35 r36 r37 r38 r39 → l[i]? = some o → d i = false → (∀ e ∈ o.after, Region.binds .any e = true → d e.on = true) → ∀ K : Act → World → Prop, (∀ (w' : World) (q6 q7 q8 q32 q33 q34 q35 q36 q37 q38 q39 : Value), J (updD d i) w' q6 q7 q8 q32 q33 q34 q35 q36 q37 q38 q39 → K (ldF t0 t1 t2 t3 t4 t5 q6 q7 q8 t9 t10 t11 t12 t13 t14 t15 t16 t17 t18 t19 t20 t21 t22 t23 t24 t25 t26 t27 t28 t29 t30 t31 q32 q33 q34 q35 q36 q37 q38 q39 t40 t41 t42 t43 t44 t45 t46 t47 t48 t49 t50 t51 t52 t53 t54 t55 t56 t57 t58 t59 t60 t61 t62 t63 t64 t65 t66 t67 t68 t69 t70 t71 t72 t73 t74 t75 t76 t77 t78 t79 t80 t81 t82 t83 t84 t85 t86 t87 t88 t89 t90 t91 t92 t93 t94 t95 t96 t97 t98 t99 t100 t101 t102 t103 t104 t105 t106 t107 t108 t109 t110 t111 t112 t113 t114 t115 t116 t117 t118 t119 t120 t121 t122 t123 t124 t125 t126 t127 t128 t129 t130 t131 t132 t133 t134 t135 t136 t137 t138 t139 t140 t141 t142 t143 t144 t145 t146 t147 t148 t149) w') → o.wp P (ldF t0 t1 t2 t3 t4 t5 r6 r7 r8 t9 t10 t11 t12 t13 t14 t15 t16 t17 t18 t19 t20 t21 t22 t23 t24 t25 t26 t27 t28 t29 t30 t31 r32 r33 r34 r35 r36 r37 r38 r39 t40 t41 t42 t43 t44 t45 t46 t47 t48 t49 t50 t51 t52 t53 t54 t55 t56 t57 t58 t59 t60 t61 t62 t63 t64 t65 t66 t67 t68 t69 t70 t71 t72 t73 t74 t75 t76 t77 t78 t79 t80 t81 t82 t83 t84 t85 t86 t87 t88 t89 t90 t91 t92 t93 t94 t95 t96 t97 t98 t99 t100 t101 t102 t103 t104 t105 t106 t107 t108 t109 t110 t111 t112 t113 t114 t115 t116 t117 t118 t119 t120 t121 t122 t123 t124 t125 t126 t127 t128 t129 t130 t131 t132 t133 t134 t135 t136 t137 t138 t139 t140 t141 t142 t143 t144 t145 t146 t147 t148 t149) w K Q)
    (he : ∀ (d : Nat → Bool) (w : World) (r6 r7 r8 r32 r33 r34 r35 r36 r37 r38 r39 : Value), J d w r6 r7 r8 r32 r33 r34 r35 r36 r37 r38 r39 → (∀ i, i < l.length → d i = true) → Q .normal (ldF t0 t1 t2 t3 t4 t5 r6 r7 r8 t9 t10 t11 t12 t13 t14 t15 t16 t17 t18 t19 t20 t21 t22 t23 t24 t25 t26 t27 t28 t29 t30 t31 r32 r33 r34 r35 r36 r37 r38 r39 t40 t41 t42 t43 t44 t45 t46 t47 t48 t49 t50 t51 t52 t53 t54 t55 t56 t57 t58 t59 t60 t61 t62 t63 t64 t65 t66 t67 t68 t69 t70 t71 t72 t73 t74 t75 t76 t77 t78 t79 t80 t81 t82 t83 t84 t85 t86 t87 t88 t89 t90 t91 t92 t93 t94 t95 t96 t97 t98 t99 t100 t101 t102 t103 t104 t105 t106 t107 t108 t109 t110 t111 t112 t113 t114 t115 t116 t117 t118 t119 t120 t121 t122 t123 t124 t125 t126 t127 t128 t129 t130 t131 t132 t133 t134 t135 t136 t137 t138 t139 t140 t141 t142 t143 t144 t145 t146 t147 t148 t149) w) : (Code.region id l.toArray true).wp P Q (ldF t0 t1 t2 t3 t4 t5 s6 s7 s8 t9 t10 t11 t12 t13 t14 t15 t16 t17 t18 t19 t20 t21 t22 t23 t24 t25 t26 t27 t28 t29 t30 t31 s32 s33 s34 s35 s36 s37 s38 s39 t40 t41 t42 t43 t44 t45 t46 t47 t48 t49 t50 t51 t52 t53 t54 t55 t56 t57 t58 t59 t60 t61 t62 t63 t64 t65 t66 t67 t68 t69 t70 t71 t72 t73 t74 t75 t76 t77 t78 t79 t80 t81 t82 t83 t84 t85 t86 t87 t88 t89 t90 t91 t92 t93 t94 t95 t96 t97 t98 t99 t100 t101 t102 t103 t104 t105 t106 t107 t108 t109 t110 t111 t112 t113 t114 t115 t116 t117 t118 t119 t120 t121 t122 t123 t124 t125 t126 t127 t128 t129 t130 t131 t132 t133 t134 t135 t136 t137 t138 t139 t140 t141 t142 t143 t144 t145 t146 t147 t148 t149) W := by
  refine wp_region_inv4 (fun d f w => ∃ r6 r7 r8 r32 r33 r34 r35 r36 r37 r38 r39, f = ldF t0 t1 t2 t3 t4 t5 r6 r7 r8 t9 t10 t11 t12 t13 t14 t15 t16 t17 t18 t19 t20 t21 t22 t23 t24 t25 t26 t27 t28 t29 t30 t31 r32 r33 r34 r35 r36 r37 r38 r39 t40 t41 t42 t43 t44 t45 t46 t47 t48 t49 t50 t51 t52 t53 t54 t55 t56 t57 t58 t59 t60 t61 t62 t63 t64 t65 t66 t67 t68 t69 t70 t71 t72 t73 t74 t75 t76 t77 t78 t79 t80 t81 t82 t83 t84 t85 t86 t87 t88 t89 t90 t91 t92 t93 t94 t95 t96 t97 t98 t99 t100 t101 t102 t103 t104 t105 t106 t107 t108 t109 t110 t111 t112 t113 t114 t115 t116 t117 t118 t119 t120 t121 t122 t123 t124 t125 t126 t127 t128 t129 t130 t131 t132 t133 t134 t135 t136 t137 t138 t139 t140 t141 t142 t143 t144 t145 t146 t147 t148 t149 ∧ J d w r6 r7 r8 r32 r33 r34 r35 r36 r37 r38 r39) hm hl hg ⟨s6, s7, s8, s32, s33, s34, s35, s36, s37, s38, s39, rfl, h0⟩ ?_ ?_
  · intro d f w i o hc hI ho hd hp K hK
    obtain ⟨r6, r7, r8, r32, r33, r34, r35, r36, r37, r38, r39, rfl, hJ⟩ := hI
    exact hs d w i o r6 r7 r8 r32 r33 r34 r35 r36 r37 r38 r39 hc hJ ho hd hp K (fun w' q6 q7 q8 q32 q33 q34 q35 q36 q37 q38 q39 hJ' => hK _ _ ⟨q6, q7, q8, q32, q33, q34, q35, q36, q37, q38, q39, rfl, hJ'⟩)
  · intro d f w hI hall
    obtain ⟨r6, r7, r8, r32, r33, r34, r35, r36, r37, r38, r39, rfl, hJ⟩ := hI
    exact he d w r6 r7 r8 r32 r33 r34 r35 r36 r37 r38 r39 hJ hall

set_option maxHeartbeats 12800000 in
theorem lawDiff (ao : Option Addr) (ca n : Nat) (bo : Option Addr) (cb mm : Nat) (w : World) (hn : n ≤ maxLen) (hB : Bs w ao n) (hm : mm ≤ maxLen) (hC : Bs w bo mm) (hE : ErrW w) :
    Calls Tryz.prog 4 #[.slice ao n ca, .slice bo mm cb] w fun e w' => e = .returned (.bool true) ∧ Below w.heap.size w w' := by
  have HBS := hide hB
  have HCS := hide hC
  have HES := hide hE
  clear hB hC hE
  obtain ⟨i0, hi0, hz0, hz1, hz2⟩ := info_parts info9'
  unfold maxLen at hn hm
  by_cases h : 1048576 < n
  · go_enter Tryz.func4, Tryz.ntmps4
    go_wp2
    go_ret
    exact ⟨rfl, Below.refl _ _⟩
  by_cases h' : 1048576 < mm
  · go_enter Tryz.func4, Tryz.ntmps4
    go_wp2
    go_ret
    exact ⟨rfl, Below.refl _ _⟩
  have hn' : n ≤ 1048576 := by omega
  have hm' : mm ≤ 1048576 := by omega
  go_enter Tryz.func4, Tryz.ntmps4
  go_wp2_with fail
  refine (imageOf_any ao n ca _ hn' (unhide HBS)).mono ?_
  rintro e w1 ⟨a0, m, ts0, rfl, ho, hi, hb⟩
  have HM := hide hi
  have A0 := hide (ImZ.new (ho.shows hi.M.zs))
  have HB1 := hide (fr hb (Joins.below_alloc1 w1 (.cells #[.slice a0.ro m.refs.length a0.rc, .slice a0.tq m.table.length a0.tc, .slice a0.so m.snaps.length a0.sc, .slice a0.dq m.data.length a0.dc] 26)))
  clear ho hi hb HBS
  go_upto_region 4 with fail
  revert HB1
  revert A0
  generalize w1.heap.size = y0
  generalize (w1.alloc _) = W1
  intro A0 HB1
  refine ldF_region (fun d wz r6 r7 r8 r32 r33 r34 r35 r36 r37 r38 r39 => ∃ a1 ts no nc x y q, LdJ W1 m (imV a0 m) (.slice bo mm cb) d wz r6 r7 r8 r32 r33 r34 r35 r36 r37 r38 r39 a1 ts no nc x y q) (by kernel_rfl) (by kernel_rfl) (noG_spec (by kernel_rfl)) ?h0 ?hs ?he
  case h0 => exact ⟨a0, [], none, 0, 0, 0, rq0d, LdJ.start (Below.refl _ _).drew⟩
  case hs =>
    intro d wz i o r6 r7 r8 r32 r33 r34 r35 r36 r37 r38 r39 hc hJ ho hd hp K hK
    obtain ⟨a1, ts, no, nc, x, y, q, I⟩ := hJ
    have hi : i < 13 := (List.getElem?_eq_some_iff.1 ho).1
    rcases (show i = 0 ∨ i = 1 ∨ i = 2 ∨ i = 3 ∨ i = 4 ∨ i = 5 ∨ i = 6 ∨ i = 7 ∨ i = 8 ∨ i = 9 ∨ i = 10 ∨ i = 11 ∨ i = 12 by omega) with rfl | rfl | rfl | rfl | rfl | rfl | rfl | rfl | rfl | rfl | rfl | rfl | rfl
    · cases ho
      obtain ⟨k0, k1, k2, k3⟩ := ((unhide A0).below I.bw).v.cells
      unfold Oper.wp
      go_simp
      exact hK _ _ _ _ _ _ _ _ _ _ _ _ ⟨_, _, _, _, _, _, _, I.s0 hd rfl⟩
    · cases ho
      unfold Oper.wp
      go_simp
      exact hK _ _ _ _ _ _ _ _ _ _ _ _ ⟨_, _, _, _, _, _, _, I.s1 hd rfl⟩
    · cases ho
      have e1 := I.f1 (hp ⟨1, .data⟩ (by simp) rfl)
      subst e1
      unfold Oper.wp
      go_simp
      refine (reqOf_any bo mm cb _ hm' ((unhide HCS).below (fr (unhide HB1) I.bw))).mono ?_
      rintro e w9 ⟨q9, rfl, hq9, hb⟩
      exact hK _ _ _ _ _ _ _ _ _ _ _ _ ⟨_, _, _, _, _, _, _, I.s2 hd hb rfl hq9 (not_yet hc 13 (by kernel_rfl) hd) (not_yet hc 13 (by kernel_rfl) hd) (not_yet hc 13 (by kernel_rfl) hd) (not_yet hc 13 (by kernel_rfl) hd) (not_yet hc 13 (by kernel_rfl) hd) (not_yet hc 13 (by kernel_rfl) hd) (not_yet hc 13 (by kernel_rfl) hd) (not_yet hc 13 (by kernel_rfl) hd)⟩
    · cases ho
      have e0 := I.f0 (hp ⟨0, .data⟩ (by simp) rfl)
      have e2 := I.rq (hp ⟨2, .data⟩ (by simp) rfl)
      have q2 := I.rd (hp ⟨2, .data⟩ (by simp) rfl)
      subst e0 e2
      unfold Oper.wp
      go_simp
      refine (reqS a0 m _ _ (unhide HM) q2 ((unhide A0).below I.bw).s).mono ?_
      rintro e w9 ⟨a9, ts9, no9, nc9, rfl, ho9, hn9, hb⟩
      exact hK _ _ _ _ _ _ _ _ _ _ _ _ ⟨_, _, _, _, _, _, _, I.s3 hd hb rfl ho9 hn9 (not_yet hc 13 (by kernel_rfl) hd) (not_yet hc 13 (by kernel_rfl) hd) (not_yet hc 13 (by kernel_rfl) hd) (not_yet hc 13 (by kernel_rfl) hd) (not_yet hc 13 (by kernel_rfl) hd) (not_yet hc 13 (by kernel_rfl) hd) (not_yet hc 13 (by kernel_rfl) hd)⟩
    · cases ho
      have e1 := I.c (hp ⟨3, .data⟩ (by simp) rfl)
      subst e1
      unfold Oper.wp
      go_simp
      exact hK _ _ _ _ _ _ _ _ _ _ _ _ ⟨_, _, _, _, _, _, _, I.s4 hd rfl⟩
    · cases ho
      have e1 := I.f4 (hp ⟨4, .data⟩ (by simp) rfl)
      subst e1
      unfold Oper.wp
      go_simp
      exact hK _ _ _ _ _ _ _ _ _ _ _ _ ⟨_, _, _, _, _, _, _, I.s5 hd rfl⟩
    · cases ho
      have e1 := I.f4 (hp ⟨4, .data⟩ (by simp) rfl)
      subst e1
      unfold Oper.wp
      go_simp
      exact hK _ _ _ _ _ _ _ _ _ _ _ _ ⟨_, _, _, _, _, _, _, I.s6 hd rfl⟩
    · cases ho
      have e1 := I.f4 (hp ⟨4, .data⟩ (by simp) rfl)
      subst e1
      unfold Oper.wp
      go_simp
      exact hK _ _ _ _ _ _ _ _ _ _ _ _ ⟨_, _, _, _, _, _, _, I.s7 hd rfl⟩
    · cases ho
      unfold Oper.wp
      go_simp
      exact hK _ _ _ _ _ _ _ _ _ _ _ _ ⟨_, _, _, _, _, _, _, I.s8 hd (Joins.below_alloc1 _ _) rfl (Nat.le_refl _) (VarM.new _ _ _ _ _ _) (not_yet hc 13 (by kernel_rfl) hd)⟩
    · cases ho
      unfold Oper.wp
      go_simp
      exact hK _ _ _ _ _ _ _ _ _ _ _ _ ⟨_, _, _, _, _, _, _, I.s9 hd (Joins.below_alloc1 _ _) rfl (Nat.le_refl _) (VarY.new _ _ _ _) (not_yet hc 13 (by kernel_rfl) hd)⟩
    · cases ho
      have p7 := hp ⟨8, .data⟩ (by simp) rfl
      have p8 : d 9 = true := hp ⟨9, .phase⟩ (by simp) rfl
      have e7 := I.px p7
      have e5 := I.f5 (hp ⟨5, .data⟩ (by simp) rfl)
      subst e7 e5
      obtain ⟨k0, k1, k2, k3⟩ := (I.zx p7 hd).cells
      obtain ⟨l0, l1, l2, l3⟩ := (I.zx p7 hd).free
      unfold Oper.wp
      go_simp
      exact hK _ _ _ _ _ _ _ _ _ _ _ _ ⟨_, _, _, _, _, _, _, I.s10 hd p7 (not_yet hc 13 (by kernel_rfl) hd) p8⟩
    · cases ho
      have p8 := hp ⟨9, .data⟩ (by simp) rfl
      have p9 : d 10 = true := hp ⟨10, .chain⟩ (by simp) rfl
      have e8 := I.py p8
      have e6 := I.f6 (hp ⟨6, .data⟩ (by simp) rfl)
      subst e8 e6
      obtain ⟨k0, k1, k2⟩ := (I.zy p8 hd).cells
      obtain ⟨l0, l1, l2⟩ := (I.zy p8 hd).free
      unfold Oper.wp
      go_simp
      exact hK _ _ _ _ _ _ _ _ _ _ _ _ ⟨_, _, _, _, _, _, _, I.s11 hd p8 p9⟩
    · cases ho
      have e1 := I.f7 (hp ⟨7, .data⟩ (by simp) rfl)
      subst e1
      unfold Oper.wp
      go_simp
      exact hK _ _ _ _ _ _ _ _ _ _ _ _ ⟨_, _, _, _, _, _, _, I.s12 hd rfl⟩
  case he =>
    intro d w9 r6 r7 r8 r32 r33 r34 r35 r36 r37 r38 r39 hJ hall
    obtain ⟨aW, tsW, noW, ncW, xW, yW, qW, I⟩ := hJ
    have e7 := I.px (hall 8 (by decide))
    have e8 := I.py (hall 9 (by decide))
    have e9 := I.f12 (hall 12 (by decide))
    subst e7 e8 e9
    have X := hide (ImZ.mk (I.vx (hall 10 (by decide))) ((I.o (hall 3 (by decide))).shows (dq_right (q := qW) (unhide HM)).M.zs))
    have HDF := hide (dif_few (unhide HM) qW)
    have HRB := hide (dq_right (q := qW) (unhide HM))
    have A1 := hide ((unhide A0).below I.bw)
    have HB2 := hide (fr (unhide HB1) I.bw)
    clear I hall A0 HB1
    revert X HDF HRB
    generalize (dqA m qW).1 = b
    intro X HDF HRB
    go_upto_region 5 with fail
    obtain ⟨c0, c1, c2, c3⟩ := (unhide A1).v.cells
    obtain ⟨d0, d1, d2, d3⟩ := (unhide X).v.cells
    go_wp2_with fail
    refine (dfI a0 aW m b _ (unhide HM) (unhide HRB) (unhide A1).s (unhide X).s).mono ?_
    rintro e w2 ⟨q1, k1, rfl, hu, hb⟩
    have U1 := hide hu
    have A2 := hide ((unhide A1).below hb)
    have X2 := hide ((unhide X).below hb)
    have HB3 := hide (fr (unhide HB2) hb)
    clear hu hb c0 c1 c2 c3 d0 d1 d2 d3 A1 X HB2
    obtain ⟨c0, c1, c2, c3⟩ := (unhide A2).v.cells
    obtain ⟨d0, d1, d2, d3⟩ := (unhide X2).v.cells
    go_wp2_with fail
    refine (dfS a0 aW m b _ (unhide HM) (unhide HRB) (unhide A2).s (unhide X2).s).mono ?_
    rintro e w3 ⟨q2, k2, rfl, hu, hb⟩
    have U2 := hide hu
    have U13 := hide ((unhide U1).below hb)
    have A3 := hide ((unhide A2).below hb)
    have X3 := hide ((unhide X2).below hb)
    have HB4 := hide (fr (unhide HB3) hb)
    clear hu hb c0 c1 c2 c3 d0 d1 d2 d3 A2 X2 HB3 U1
    obtain ⟨c0, c1, c2, c3⟩ := (unhide A3).v.cells
    go_wp2_with fail
    refine (updI a0 m _ (unhide HM) (unhide A3).s).mono ?_
    rintro e w4 ⟨q3, k3, rfl, hu, hb⟩
    have U3 := hide hu
    have U14 := hide ((unhide U13).below hb)
    have U24 := hide ((unhide U2).below hb)
    have A4 := hide ((unhide A3).below hb)
    have X4 := hide ((unhide X3).below hb)
    have HB5 := hide (fr (unhide HB4) hb)
    clear hu hb c0 c1 c2 c3 A3 X3 HB4 U13 U2
    obtain ⟨c0, c1, c2, c3⟩ := (unhide A4).v.cells
    go_wp2_with fail
    have HDD := dfI a0 a0 m m _ (unhide HM) (unhide HM) (unhide A4).s (unhide A4).s
    rw [difU_self] at HDD
    refine HDD.mono ?_
    clear HDD
    rintro e w5 ⟨q4, k4, rfl, hu, hb⟩
    have U15 := hide ((unhide U14).below hb)
    have U25 := hide ((unhide U24).below hb)
    have U35 := hide ((unhide U3).below hb)
    have X5 := hide ((unhide X4).below hb)
    have HB6 := hide (fr (unhide HB5) hb)
    clear hu hb c0 c1 c2 c3 A4 X4 HB5 U14 U24 U3
    have HLU := hide (allU_len (unhide HM).few)
    have h5 : ¬ (5 : Int) < ((difU m b).length : Int) := by have := unhide HDF; omega
    have h3 : ¬ (((allU m).length : Int) < 3) := by
      have : 3 ≤ (allU m).length := by unfold allU headU; simp
      omega
    go_wp2_with (first | (go_at_call 13; refine (sameUpdates_draws q1 q2 k1 k2 (difU m b) _ (by have := unhide HDF; unfold maxLen; omega) (unhide U15) (unhide U25)).mono ?_; rintro e w6 ⟨rfl, md, hw⟩; have HBQ := hide (show Below w5.heap.size w5 w6 by rw [hw]; exact Joins.below_draws _ _ _); clear hw) | (at_make; refine wpList_make_full _ rfl _ _ 31 rfl w6.heap.size 9 i0 _ 1 Tryz.underlying31 hi0 hz0 hz1 _ _ _ _ 64 rfl rfl rfl rfl ?c1 ?c2 ?c3 ?_))
    case c1 => rw [hz2]; omega
    case c2 => unfold maxLen; omega
    case c3 => exact Nat.le_refl _
    intro w7 hown hgrow
    have U16 := hide ((unhide U15).below (unhide HBQ))
    have U36 := hide ((unhide U35).below (unhide HBQ))
    have X6 := hide ((unhide X5).below (unhide HBQ))
    have HB7 := hide (fr (unhide HB6) (unhide HBQ))
    clear U15 U25 U35 X5 HB6 HBQ h5 h3
    have HG0 : Hid (Below w6.heap.size w6 w7) := hide ((Below.refl _ _).grown hgrow (Nat.le_refl _) (fun _ h => by cases h))
    have ho := noSs_own hown
    clear hgrow hown
    obtain ⟨g0, rcp, cur, e, hBg, hg'⟩ := own_form (by omega) ho
    cases e
    have HAL := hide (Joins.below_alloc1 w7 (.cells #[.slice (some ⟨w6.heap.size, 0, none⟩) 64 64, .slice none 0 0] 34))
    have HO := hide (own_below ho (unhide HAL))
    have HV := hide (VarD.new w7 (.slice (some ⟨w6.heap.size, 0, none⟩) 64 64) (.slice none 0 0))
    have HW := hide (fr (unhide HG0) (unhide HAL))
    have HGE : Hid (w6.heap.size ≤ w6.heap.size) := hide (Nat.le_refl _)
    have HGN : Hid (w6.heap.size ≠ w7.heap.size) := hide (by have := (Array.getElem?_eq_some_iff.1 hg').1; omega)
    have HUB1 := hide (allU_at (unhide HM).few)
    have HUB2 : Hid (∀ u ∈ difU m b, 9 ≤ u.at_ ∧ u.at_ < 39) := hide (fun u hu => allU_at (unhide HRB).few u (difU_sub hu))
    clear ho hg' hBg HAL HG0 cur
    go_upto_region 12 with fail
    revert HGN
    revert HW
    revert HV
    revert HO
    generalize w7.heap.size = y3
    generalize (w7.alloc _) = W10
    intro HO HV HW HGN
    go_wp2
    go_loopw [18] (fun i wr => ∃ (k : Nat), k ≤ (allU m).length ∧ i = .int .i64 k ∧ Hid (wr.ownsRow w6.heap.size 9 1 (.slice (some ⟨w6.heap.size, 0, none⟩) 64 64) 64 (strV (upW noSs ((allU m).take k)))) ∧ Hid (VarD wr y3 (.slice (some ⟨w6.heap.size, 0, none⟩) 64 64) (.slice none 0 0)) ∧ Hid (Below w6.heap.size w6 wr)) (fun i _ => (allU m).length - (intOf i).toNat)
    case atStart => exact ⟨0, Nat.zero_le _, rfl, HO, HV, HW⟩
    case round =>
      clear HO HV HW
      obtain ⟨k, hk, rfl, HO, HV, HW⟩ := hrel
      have hlu := unhide HLU
      obtain ⟨x0, x1⟩ := (unhide HV).cells
      by_cases hlt : k < (allU m).length
      · obtain ⟨bq, off, rfl, hc0, hc1, hcz⟩ := (unhide U36).below (unhide HW) k hlt
        have hup := unhide HUB1 (allU m)[k] (List.getElem_mem hlt)
        obtain ⟨a, ha⟩ : ∃ a : Nat, (allU m)[k].at_ = (a : Int) := ⟨(allU m)[k].at_.toNat, by omega⟩
        have ha64 : a < 64 := by omega
        have HAA : Hid ((allU m)[k].at_.toNat = a) := hide (by omega)
        have hfr := (unhide HO).frozenAt a
        obtain ⟨v0, hcx⟩ : ∃ x, wr.cell? ⟨w6.heap.size, a, none⟩ = some x := ⟨_, ((unhide HO).cellAt a (by omega)).trans (List.getElem?_eq_getElem (by rw [(unhide HO).1]; omega))⟩
        have HST := hide ((unhide HO).stored a (.string (allU m)[k].data))
        rw [ha] at hc0
        clear hcz hup ha
        have HTK := hide (upW_take hlt noSs)
        generalize (allU m)[k].data = dd at *
        have hki : (k : Int) < ((allU m).length : Int) := by omega
        have hk0 : (0 : Int) ≤ (k : Int) := by omega
        have ha0 : (0 : Int) ≤ (a : Int) := by omega
        have ha1 : (a : Int) < 64 := by omega
        go_upto_region 15 with fail
        go_region_with fail
        all_goals
          go_wp2
          go_roundw
          case rel =>
            refine ⟨k + 1, by omega, by go_num, hide ?_, hide ?_, hide ?_⟩
            · rw [unhide HTK, unhide HAA, ← strV_set]
              exact own_below (unhide HST).1 (Below.refl _ _).drew
            · exact (VarD.keep (S := fun q => q = w6.heap.size) (unhide HV) (Keep.setCell (S := fun q => q = w6.heap.size) (Keep.refl _ _) (p := ⟨w6.heap.size, a, none⟩) rfl _) (fun e => unhide HGN e.symm)).below (Below.refl _ _).drew
            · exact ((unhide HW).grown (unhide HST).2 (unhide HW).size (fun q h => by cases h; exact unhide HGE)).drew
          case measure => simp [intOf]; omega
      · obtain rfl : k = (allU m).length := by omega
        have U17 := hide ((unhide U16).below (unhide HW))
        rw [List.take_length] at HO
        clear U36 x0 x1 hk hlt HUB1
        have HLV : Hid ((difU m b).length ≤ 30) := hide (by have := unhide HDF; omega)
        generalize hSA : upW noSs (allU m) = SA at HO
        have HSL : Hid (SA.length = 64) := hide (by rw [← hSA, upW_len, noSs_len])
        have HSZ : Hid (∀ s ∈ SA, s.size ≤ 80) := hide (by rw [← hSA]; exact upW_small (fun s hs => noSs_mem hs) (allU_sz (unhide HM)))
        have HVA : Hid (rdA (upW SA (difU m b)) [] 0 = (b, 0)) := hide (by rw [← hSA]; exact rd_dif noSs_len (fun s hs => noSs_mem hs) (by omega) (unhide HM) (unhide HRB))
        have HVL : Hid ((upW SA (difU m b)).length = 64) := hide (by rw [upW_len]; exact unhide HSL)
        have HUS := hide (upW_small (us := difU m b) (ss := SA) (unhide HSZ) (fun u hu => allU_sz (unhide HRB) u (difU_sub hu)))
        clear hSA HLU
        go_wp2
        go_loopw [19] (fun i wr => ∃ (k : Nat), k ≤ (difU m b).length ∧ i = .int .i64 k ∧ Hid (wr.ownsRow w6.heap.size 9 1 (.slice (some ⟨w6.heap.size, 0, none⟩) 64 64) 64 (strV (upW SA ((difU m b).take k)))) ∧ Hid (VarD wr y3 (.slice (some ⟨w6.heap.size, 0, none⟩) 64 64) (.slice none 0 0)) ∧ Hid (Below w6.heap.size w6 wr)) (fun i _ => (difU m b).length - (intOf i).toNat)
        case atStart => exact ⟨0, Nat.zero_le _, rfl, HO, HV, HW⟩
        case round =>
          clear HO HV HW
          obtain ⟨k, hk, rfl, HO, HV, HW⟩ := hrel
          have hlu := unhide HLV
          obtain ⟨x0, x1⟩ := (unhide HV).cells
          by_cases hlt : k < (difU m b).length
          · obtain ⟨bq, off, rfl, hc0, hc1, hcz⟩ := (unhide U16).below (unhide HW) k hlt
            have hup := unhide HUB2 (difU m b)[k] (List.getElem_mem hlt)
            obtain ⟨a, ha⟩ : ∃ a : Nat, (difU m b)[k].at_ = (a : Int) := ⟨(difU m b)[k].at_.toNat, by omega⟩
            have ha64 : a < 64 := by omega
            have HAA : Hid ((difU m b)[k].at_.toNat = a) := hide (by omega)
            have hfr := (unhide HO).frozenAt a
            obtain ⟨v0, hcx⟩ : ∃ x, wr.cell? ⟨w6.heap.size, a, none⟩ = some x := ⟨_, ((unhide HO).cellAt a (by omega)).trans (List.getElem?_eq_getElem (by rw [(unhide HO).1]; omega))⟩
            have HST := hide ((unhide HO).stored a (.string (difU m b)[k].data))
            rw [ha] at hc0
            clear hcz hup ha
            have HTK := hide (upW_take hlt SA)
            generalize (difU m b)[k].data = dd at *
            have hki : (k : Int) < ((difU m b).length : Int) := by omega
            have hk0 : (0 : Int) ≤ (k : Int) := by omega
            have ha0 : (0 : Int) ≤ (a : Int) := by omega
            have ha1 : (a : Int) < 64 := by omega
            go_upto_region 19 with fail
            go_region_with fail
            all_goals
              go_wp2
              go_roundw
              case rel =>
                refine ⟨k + 1, by omega, by go_num, hide ?_, hide ?_, hide ?_⟩
                · rw [unhide HTK, unhide HAA, ← strV_set]
                  exact own_below (unhide HST).1 (Below.refl _ _).drew
                · exact (VarD.keep (S := fun q => q = w6.heap.size) (unhide HV) (Keep.setCell (S := fun q => q = w6.heap.size) (Keep.refl _ _) (p := ⟨w6.heap.size, a, none⟩) rfl _) (fun e => unhide HGN e.symm)).below (Below.refl _ _).drew
                · exact ((unhide HW).grown (unhide HST).2 (unhide HW).size (fun q h => by cases h; exact unhide HGE)).drew
              case measure => simp [intOf]; omega
          · obtain rfl : k = (difU m b).length := by omega
            have HSU : Hid (Ss wr (some ⟨w6.heap.size, 0, none⟩) (upW SA (difU m b))) := hide (by
              have h1 := unhide HO
              rw [List.take_length] at h1
              have h2 : wr.ownsRow w6.heap.size 9 1 (.slice (some ⟨w6.heap.size, 0, none⟩) (upW SA (difU m b)).length 64) (upW SA (difU m b)).length (strV (upW SA (difU m b))) := by rw [unhide HVL]; exact h1
              exact ownS h2 (small_max (unhide HUS)))
            have X9 := hide ((unhide X6).below (unhide HW))
            have HB9 := hide (fr (unhide HB7) (unhide HW))
            clear X6 HB7 HW U16 U17 HO HUS hk hlt HLV HSL HSZ HUB2
            revert HVA
            revert HVL
            revert HSU
            generalize upW SA (difU m b) = SS
            intro HSU HVL HVA
            go_wp2_with fail
            refine (readSt (some ⟨w6.heap.size, 0, none⟩) none 64 0 SS 0 b _ (unhide HVL) (unhide HVA) (unhide HSU) ((unhide HES).below (unhide HB9))).mono ?_
            rintro e w8 ⟨a5, ts5, rfl, ho, hb⟩
            have hb2 := fr hb (Joins.below_alloc1 w8 (.cells #[.slice a5.ro b.refs.length a5.rc, .slice a5.tq b.table.length a5.tc, .slice a5.so b.snaps.length a5.sc, .slice a5.dq b.data.length a5.dc] 26))
            have Z5 := hide (ImZ.new (ho.shows (unhide HRB).M.zs))
            have XX := hide ((unhide X9).below hb2)
            have HBA := hide (fr (unhide HB9) hb2)
            clear ho hb hb2 X9 HB9 HSU HV x0 x1
            go_upto_region 21 with fail
            revert HBA
            revert XX
            revert Z5
            generalize w8.heap.size = y5
            generalize (w8.alloc _) = W11
            intro Z5 XX HBA
            obtain ⟨c0, c1, c2, c3⟩ := (unhide Z5).v.cells
            obtain ⟨d0, d1, d2, d3⟩ := (unhide XX).v.cells
            go_wp2_with fail
            refine (sameST a5 aW b _ (unhide HRB) (unhide Z5).s (unhide XX).s).mono ?_
            rintro e wy ⟨rfl, hb⟩
            have HE := hide (fr (unhide HBA) hb)
            clear hb c0 c1 c2 c3 d0 d1 d2 d3 XX Z5
            go_wp2
            go_ret
            exact ⟨rfl, unhide HE⟩

end Go.Proofs.YtbmkdbccdnbbjaaGreatDoor
