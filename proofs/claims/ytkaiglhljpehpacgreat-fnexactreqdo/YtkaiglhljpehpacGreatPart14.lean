import Derived.Test.YtkaiglhljpehpacGreatRows
import Derived.Test.YtkaiglhljpehpacGreatPart1
import Derived.Test.YtkaiglhljpehpacGreatPart3
import Derived.Test.YtkaiglhljpehpacGreatPart4
import Derived.Test.YtkaiglhljpehpacGreatPart5
import Derived.Test.YtkaiglhljpehpacGreatPart6
import Derived.Test.YtkaiglhljpehpacGreatPart7
import Derived.Test.YtkaiglhljpehpacGreatPart13
import Derived.WalkKit
import Derived.WalkSpells
import Derived.KernelRfl
import Derived.Test.YtkaiglhljpehpacGreatPart9
import Derived.Test.YtkaiglhljpehpacGreatImW
import Derived.BigQuiet
import Derived.Deep.QuietTactic
import Derived.Deep.RegionWith
import Derived.Laws.ResultCell
import Derived.Orders
import Derived.Still

/- Requests done on images: what is answered, what stands in memory; changedOrNot. -/
namespace Go.Proofs.YtkaiglhljpehpacGreat
open Go.RowKit
set_option linter.unusedVariables false
set_option maxRecDepth 100000

/-- A reply. -/
structure Rp where
  c : Int
  v : Int
  ns : List ByteArray
abbrev rpV (r : Rp) (no : Option Addr) (nc : Nat) : Value := .agg #[.int .i64 r.c, .int .i64 r.v, .slice no r.ns.length nc]
/-- A reply in a variable. -/
def VarY (w : World) (x : Nat) (v0 v1 v2 : Value) : Prop := w.heap[x]? = some (.cells #[v0, v1, v2] 35 (0, 0))
theorem VarY.lt {w : World} {x : Nat} {v0 v1 v2 : Value} (k : VarY w x v0 v1 v2) : x < w.heap.size := (Array.getElem?_eq_some_iff.1 k).1
theorem VarY.cells {w : World} {x : Nat} {v0 v1 v2 : Value} (k : VarY w x v0 v1 v2) : w.cell? ⟨x, 0, none⟩ = some v0 ∧ w.cell? ⟨x, 1, none⟩ = some v1 ∧ w.cell? ⟨x, 2, none⟩ = some v2 := ⟨by rw [Joins.cell_of_block k]; rfl, by rw [Joins.cell_of_block k]; rfl, by rw [Joins.cell_of_block k]; rfl⟩
theorem VarY.free {w : World} {x : Nat} {v0 v1 v2 : Value} (k : VarY w x v0 v1 v2) : w.frozen? ⟨x, 0, none⟩ = false ∧ w.frozen? ⟨x, 1, none⟩ = false ∧ w.frozen? ⟨x, 2, none⟩ = false := ⟨Joins.unfrozen_of_block k 0, Joins.unfrozen_of_block k 1, Joins.unfrozen_of_block k 2⟩
theorem VarY.below {w w' : World} {x : Nat} {v0 v1 v2 : Value} (k : VarY w x v0 v1 v2) (hb : Below w.heap.size w w') : VarY w' x v0 v1 v2 := by
  unfold VarY; rw [hb.block x k.lt]; exact k
theorem VarY.new (w : World) (v0 v1 v2 : Value) : VarY (w.alloc (.cells #[v0, v1, v2] 35)) w.heap.size v0 v1 v2 := heap_alloc_new w _
theorem VarY.other {w : World} {x : Nat} {v0 v1 v2 : Value} (h : VarY w x v0 v1 v2) {p : Addr} (hp : x ≠ p.block) (u : Value) : VarY (w.setCell p u) x v0 v1 v2 := by
  unfold VarY; rw [Below.heap_setCell w p u x hp]; exact h
theorem VarY.set0 {w : World} {x : Nat} {v0 v1 v2 : Value} (h : VarY w x v0 v1 v2) (u : Value) : VarY (w.setCell ⟨x, 0, none⟩ u) x u v1 v2 := Joins.block_setCell (i := 0) h u
theorem VarY.set1 {w : World} {x : Nat} {v0 v1 v2 : Value} (h : VarY w x v0 v1 v2) (u : Value) : VarY (w.setCell ⟨x, 1, none⟩ u) x v0 u v2 := Joins.block_setCell (i := 1) h u
theorem VarY.set2 {w : World} {x : Nat} {v0 v1 v2 : Value} (h : VarY w x v0 v1 v2) (u : Value) : VarY (w.setCell ⟨x, 2, none⟩ u) x v0 v1 u := Joins.block_setCell (i := 2) h u
theorem VarY.at {w : World} {x y : Nat} {v0 v1 v2 : Value} (h : VarY w x v0 v1 v2) (e : x = y) : VarY w y v0 v1 v2 := e ▸ h
/-- A reply put into its variable. -/
abbrev putY (W : World) (x : Nat) (v0 v1 v2 : Value) : World := ((W.setCell ⟨x, 0, none⟩ v0).setCell ⟨x, 1, none⟩ v1).setCell ⟨x, 2, none⟩ v2
/-- An image and a reply as results of their own. -/
abbrev OwnNs (w : World) (B : Nat) (no : Option Addr) (nc : Nat) (ns : List ByteArray) : Prop := OwnR w B 9 1 (.slice no ns.length nc) ns.length (strV ns)
def AnsD (w w' : World) (e : Ending) (M : Img) (r : Rp) : Prop := ∃ a ts no nc, e = .returned (.tuple #[imV a M, rpV r no nc]) ∧ OwnIm w' w.heap.size a M ts ∧ OwnNs w' w.heap.size no nc r.ns ∧ Below w.heap.size w w'
def AnsQ (w w' : World) (e : Ending) (R : Img × Rp × Int) : Prop := ∃ a ts no nc, e = .returned (.tuple #[imV a R.1, rpV R.2.1 no nc, .int .i64 R.2.2]) ∧ OwnIm w' w.heap.size a R.1 ts ∧ OwnNs w' w.heap.size no nc R.2.1.ns ∧ Below w.heap.size w w'
theorem OwnNs.none (w : World) (B : Nat) (no : Option Addr) : OwnNs w B no 0 [] := .inl ⟨rfl, rfl, _, rfl⟩
/-- The results' variables. -/
structure DoR (w W : World) (x : Nat) : Prop where
  r : VarM W x 32 (.slice none 0 0) (.slice none 0 0) (.slice none 0 0) (.slice none 0 0)
  p : VarY W (x + 1) (.int .i64 0) (.int .i64 0) (.slice none 0 0)
  b : Below w.heap.size w W
  x0 : w.heap.size ≤ x
theorem DoR.below {w W W' : World} {x : Nat} (h : DoR w W x) (hb : Below W.heap.size W W') : DoR w W' x := ⟨h.r.below hb, h.p.below hb, fr h.b hb, h.x0⟩
abbrev putD (W : World) (x : Nat) (a : Im4) (M : Img) (v0 v1 v2 : Value) : World := putY (putI W x a M) (x + 1) v0 v1 v2
theorem DoR.put {w W : World} {x B : Nat} {a : Im4} {M : Img} {ts : List Value} {no : Option Addr} {nc : Nat} {ns : List ByteArray} (h : DoR w W x) (ho : OwnIm W B a M ts) (hn : OwnNs W B no nc ns) (hB : x + 2 ≤ B) (v0 v1 v2 : Value) :
    VarM (putD W x a M v0 v1 v2) x 32 (.slice a.ro M.refs.length a.rc) (.slice a.tq M.table.length a.tc) (.slice a.so M.snaps.length a.sc) (.slice a.dq M.data.length a.dc) ∧ VarY (putD W x a M v0 v1 v2) (x + 1) v0 v1 v2 ∧ OwnIm (putD W x a M v0 v1 v2) B a M ts ∧ OwnNs (putD W x a M v0 v1 v2) B no nc ns ∧ Below w.heap.size w (putD W x a M v0 v1 v2) := by
  obtain ⟨h1, h2, h3⟩ := ImSt.put h.r ho h.b h.x0 (by omega) a M
  have hp : VarY (putI W x a M) (x + 1) (.int .i64 0) (.int .i64 0) (.slice none 0 0) := (((h.p.other (p := ⟨x, 0, none⟩) (by simp) _).other (p := ⟨x, 1, none⟩) (by simp) _).other (p := ⟨x, 2, none⟩) (by simp) _).other (p := ⟨x, 3, none⟩) (by simp) _
  have hn1 : OwnNs (putI W x a M) B no nc ns := (((OwnR.setCell hn (a := ⟨x, 0, none⟩) (by show x < B; omega) _).setCell (a := ⟨x, 1, none⟩) (by show x < B; omega) _).setCell (a := ⟨x, 2, none⟩) (by show x < B; omega) _).setCell (a := ⟨x, 3, none⟩) (by show x < B; omega) _
  have hx := h.x0
  refine ⟨((h1.other (p := ⟨x + 1, 0, none⟩) (by simp) _).other (p := ⟨x + 1, 1, none⟩) (by simp) _).other (p := ⟨x + 1, 2, none⟩) (by simp) _, ((hp.set0 _).set1 _).set2 _, ((h2.setCell (p := ⟨x + 1, 0, none⟩) (by show x + 1 < B; omega) _).setCell (p := ⟨x + 1, 1, none⟩) (by show x + 1 < B; omega) _).setCell (p := ⟨x + 1, 2, none⟩) (by show x + 1 < B; omega) _, ((hn1.setCell (a := ⟨x + 1, 0, none⟩) (by show x + 1 < B; omega) _).setCell (a := ⟨x + 1, 1, none⟩) (by show x + 1 < B; omega) _).setCell (a := ⟨x + 1, 2, none⟩) (by show x + 1 < B; omega) _, ((h3.setCell (p := ⟨x + 1, 0, none⟩) (by show w.heap.size ≤ x + 1; omega) _).setCell (p := ⟨x + 1, 1, none⟩) (by show w.heap.size ≤ x + 1; omega) _).setCell (p := ⟨x + 1, 2, none⟩) (by show w.heap.size ≤ x + 1; omega) _⟩
theorem res_ir {fn : Func} {p u : Tmp} {v0 v1 v2 v3 u0 u1 u2 : Value} {x y : Nat} {W : World} {tmps : Array Value} (h : fn.results = #[.cell p 32, .cell u 35]) (hp : tmps.getD p undef = .pointer (some ⟨x, 0, none⟩)) (hu : tmps.getD u undef = .pointer (some ⟨y, 0, none⟩)) (hv : W.heap[x]? = some (.cells #[v0, v1, v2, v3] 32 (0, 0))) (hy : VarY W y u0 u1 u2) :
    (results fn tmps).run Tryz.prog W = .ok (.tuple #[.agg #[v0, v1, v2, v3], .agg #[u0, u1, u2]]) W := by
  obtain ⟨c0, c1, c2, c3⟩ := VarM.cells (t := 32) hv
  obtain ⟨d0, d1, d2⟩ := hy.cells
  rw [Array.getD_eq_getD_getElem?] at hp hu
  simp [results, h, hp, hu, go_sem, c0, c1, c2, c3, d0, d1, d2]
theorem res_irc {fn : Func} {p u q : Tmp} {v0 v1 v2 v3 u0 u1 u2 z : Value} {x y : Nat} {W : World} {tmps : Array Value} (h : fn.results = #[.cell p 32, .cell u 35, .tmp q]) (hp : tmps.getD p undef = .pointer (some ⟨x, 0, none⟩)) (hu : tmps.getD u undef = .pointer (some ⟨y, 0, none⟩)) (hq : tmps.getD q undef = z) (hv : W.heap[x]? = some (.cells #[v0, v1, v2, v3] 32 (0, 0))) (hy : VarY W y u0 u1 u2) :
    (results fn tmps).run Tryz.prog W = .ok (.tuple #[.agg #[v0, v1, v2, v3], .agg #[u0, u1, u2], z]) W := by
  obtain ⟨c0, c1, c2, c3⟩ := VarM.cells (t := 32) hv
  obtain ⟨d0, d1, d2⟩ := hy.cells
  rw [Array.getD_eq_getD_getElem?] at hp hu hq
  simp [results, h, hp, hu, hq, go_sem, c0, c1, c2, c3, d0, d1, d2]

/-- The image's variable, the results' behind it. -/
structure DoE (w W : World) (a : Im4) (m : Img) : Prop where
  v : VarM W w.heap.size 32 (.slice a.ro m.refs.length a.rc) (.slice a.tq m.table.length a.tc) (.slice a.so m.snaps.length a.sc) (.slice a.dq m.data.length a.dc)
  d : DoR w W (w.heap.size + 1)
  s : ImS W a m
theorem DoE.below {w W W' : World} {a : Im4} {m : Img} (h : DoE w W a m) (hb : Below W.heap.size W W') : DoE w W' a m := ⟨h.v.below hb, h.d.below hb, h.s.below hb⟩
theorem DoE.new (w : World) (a : Im4) (m : Img) (h : ImS w a m) : DoE w (((w.alloc (.cells #[.slice a.ro m.refs.length a.rc, .slice a.tq m.table.length a.tc, .slice a.so m.snaps.length a.sc, .slice a.dq m.data.length a.dc] 32)).alloc (.cells #[.slice none 0 0, .slice none 0 0, .slice none 0 0, .slice none 0 0] 32)).alloc (.cells #[.int .i64 0, .int .i64 0, .slice none 0 0] 35)) a m :=
  ⟨((VarM.new w _ _ _ _ _).below (Joins.below_alloc1 _ _)).below (Joins.below_alloc1 _ _), ⟨((VarM.new (w.alloc _) _ _ _ _ _).below (Joins.below_alloc1 _ _)).at (by simp), (VarY.new ((w.alloc _).alloc _) _ _ _).at (by simp), Joins.below_alloc3 _ _ _ _, by omega⟩, h.below (Joins.below_alloc3 _ _ _ _)⟩

set_option maxHeartbeats 1600000 in
theorem changedOrNot_any (a : Im4) (M : Img) (c : Int) (w : World) : Calls Tryz.prog 56 #[imV a M, .int .i64 c] w fun e w' => e = .returned (.tuple #[imV a M, rpV ⟨c, 0, []⟩ none 0]) ∧ Below w.heap.size w w' := by
  have HE0 : Hid (DoR w (((w.alloc (.cells #[.slice a.ro M.refs.length a.rc, .slice a.tq M.table.length a.tc, .slice a.so M.snaps.length a.sc, .slice a.dq M.data.length a.dc] 32)).alloc (.cells #[.slice none 0 0, .slice none 0 0, .slice none 0 0, .slice none 0 0] 32)).alloc (.cells #[.int .i64 0, .int .i64 0, .slice none 0 0] 35)) (w.heap.size + 1)) := hide ⟨((VarM.new (w.alloc _) _ _ _ _ _).below (Joins.below_alloc1 _ _)).at (by simp), (VarY.new ((w.alloc _).alloc _) _ _ _).at (by simp), Joins.below_alloc3 _ _ _ _, by omega⟩
  have HV0 : Hid (VarM (((w.alloc (.cells #[.slice a.ro M.refs.length a.rc, .slice a.tq M.table.length a.tc, .slice a.so M.snaps.length a.sc, .slice a.dq M.data.length a.dc] 32)).alloc (.cells #[.slice none 0 0, .slice none 0 0, .slice none 0 0, .slice none 0 0] 32)).alloc (.cells #[.int .i64 0, .int .i64 0, .slice none 0 0] 35)) w.heap.size 32 (.slice a.ro M.refs.length a.rc) (.slice a.tq M.table.length a.tc) (.slice a.so M.snaps.length a.sc) (.slice a.dq M.data.length a.dc)) := hide (((VarM.new w _ _ _ _ _).below (Joins.below_alloc1 _ _)).below (Joins.below_alloc1 _ _))
  go_enter Tryz.func56, Tryz.ntmps56
  go_upto_region 1 with fail
  revert HV0
  revert HE0
  generalize (((w.alloc _).alloc _).alloc _) = W0
  intro HE HV
  obtain ⟨c0, c1, c2, c3⟩ := (unhide HV).cells
  obtain ⟨r0, r1, r2, r3⟩ := (unhide HE).r.cells
  obtain ⟨z0, z1, z2, z3⟩ := (unhide HE).r.free
  obtain ⟨p0, p1, p2⟩ := (unhide HE).p.cells
  obtain ⟨f0, f1, f2⟩ := (unhide HE).p.free
  have hx := (unhide HE).x0
  have HP : Hid (VarM (putD W0 (w.heap.size + 1) a M (.int .i64 c) (.int .i64 0) (.slice none 0 0)) (w.heap.size + 1) 32 (.slice a.ro M.refs.length a.rc) (.slice a.tq M.table.length a.tc) (.slice a.so M.snaps.length a.sc) (.slice a.dq M.data.length a.dc) ∧ VarY (putD W0 (w.heap.size + 1) a M (.int .i64 c) (.int .i64 0) (.slice none 0 0)) (w.heap.size + 1 + 1) (.int .i64 c) (.int .i64 0) (.slice none 0 0) ∧ Below w.heap.size w (putD W0 (w.heap.size + 1) a M (.int .i64 c) (.int .i64 0) (.slice none 0 0))) := hide (by
    have hr := (((((unhide HE).r.set0 (.slice a.ro M.refs.length a.rc)).set1 (.slice a.tq M.table.length a.tc)).set2 (.slice a.so M.snaps.length a.sc)).set3 (.slice a.dq M.data.length a.dc))
    have hp : VarY (putI W0 (w.heap.size + 1) a M) (w.heap.size + 1 + 1) (.int .i64 0) (.int .i64 0) (.slice none 0 0) := ((((unhide HE).p.other (p := ⟨w.heap.size + 1, 0, none⟩) (by simp) _).other (p := ⟨w.heap.size + 1, 1, none⟩) (by simp) _).other (p := ⟨w.heap.size + 1, 2, none⟩) (by simp) _).other (p := ⟨w.heap.size + 1, 3, none⟩) (by simp) _
    exact ⟨((hr.other (p := ⟨w.heap.size + 1 + 1, 0, none⟩) (by simp) _).other (p := ⟨w.heap.size + 1 + 1, 1, none⟩) (by simp) _).other (p := ⟨w.heap.size + 1 + 1, 2, none⟩) (by simp) _, ((hp.set0 _).set1 _).set2 _, (((((((unhide HE).b.setCell (p := ⟨w.heap.size + 1, 0, none⟩) (by simp) _).setCell (p := ⟨w.heap.size + 1, 1, none⟩) (by simp) _).setCell (p := ⟨w.heap.size + 1, 2, none⟩) (by simp) _).setCell (p := ⟨w.heap.size + 1, 3, none⟩) (by simp) _).setCell (p := ⟨w.heap.size + 1 + 1, 0, none⟩) (by show w.heap.size ≤ w.heap.size + 1 + 1; omega) _).setCell (p := ⟨w.heap.size + 1 + 1, 1, none⟩) (by show w.heap.size ≤ w.heap.size + 1 + 1; omega) _).setCell (p := ⟨w.heap.size + 1 + 1, 2, none⟩) (by show w.heap.size ≤ w.heap.size + 1 + 1; omega) _⟩)
  unfold putD putY putI at HP
  go_wp2
  refine bodyPost_ret (res_ir Tryz.results56 rfl rfl (unhide HP).1 (unhide HP).2.1) rfl ?_
  exact ⟨rfl, (unhide HP).2.2⟩

end Go.Proofs.YtkaiglhljpehpacGreat

/- An image and a reply put into two new variables: what stands beside them. -/
namespace Go.Proofs.YtkaiglhljpehpacGreat
open Go.RowKit
set_option linter.unusedVariables false

/-- A new variable of an image, of a reply, still zero; and what has been put into it. -/
abbrev ZrM (w : World) (x : Nat) : Prop := VarM w x 32 (.slice none 0 0) (.slice none 0 0) (.slice none 0 0) (.slice none 0 0)
abbrev ZrY (w : World) (y : Nat) : Prop := VarY w y (.int .i64 0) (.int .i64 0) (.slice none 0 0)
abbrev FlM (w : World) (x : Nat) (a : Im4) (M : Img) : Prop := VarM w x 32 (.slice a.ro M.refs.length a.rc) (.slice a.tq M.table.length a.tc) (.slice a.so M.snaps.length a.sc) (.slice a.dq M.data.length a.dc)
abbrev FlY (w : World) (y : Nat) (r : Rp) (no : Option Addr) (nc : Nat) : Prop := VarY w y (.int .i64 r.c) (.int .i64 r.v) (.slice no r.ns.length nc)
abbrev putR (w : World) (y : Nat) (r : Rp) (no : Option Addr) (nc : Nat) : World := putY w y (.int .i64 r.c) (.int .i64 r.v) (.slice no r.ns.length nc)
theorem putI_keep (w : World) (x : Nat) (a : Im4) (M : Img) : Keep (fun j => j = x) w (putI w x a M) :=
  ((((Keep.refl (fun j => j = x) w).setCell (p := ⟨x, 0, none⟩) rfl _).setCell (p := ⟨x, 1, none⟩) rfl _).setCell (p := ⟨x, 2, none⟩) rfl _).setCell (p := ⟨x, 3, none⟩) rfl _
theorem putR_keep (w : World) (y : Nat) (r : Rp) (no : Option Addr) (nc : Nat) : Keep (fun j => j = y) w (putR w y r no nc) :=
  (((Keep.refl (fun j => j = y) w).setCell (p := ⟨y, 0, none⟩) rfl _).setCell (p := ⟨y, 1, none⟩) rfl _).setCell (p := ⟨y, 2, none⟩) rfl _
theorem apartMY {w : World} {x y : Nat} {v0 v1 v2 v3 u0 u1 u2 : Value} (h : VarM w x 32 v0 v1 v2 v3) (k : VarY w y u0 u1 u2) : x ≠ y := by
  rintro rfl
  have h' : w.heap[x]? = some (.cells #[v0, v1, v2, v3] 32 (0, 0)) := h
  have k' : w.heap[x]? = some (.cells #[u0, u1, u2] 35 (0, 0)) := k
  rw [h'] at k'
  simp at k'
theorem VarM.keepX {w w' : World} {x y t : Nat} {v0 v1 v2 v3 : Value} (h : VarM w x t v0 v1 v2 v3) (hk : Keep (fun j => j = y) w w') (e : x ≠ y) : VarM w' x t v0 v1 v2 v3 := (hk.block x h.lt e).trans h
theorem VarY.keepX {w w' : World} {x y : Nat} {v0 v1 v2 : Value} (h : VarY w x v0 v1 v2) (hk : Keep (fun j => j = y) w w') (e : x ≠ y) : VarY w' x v0 v1 v2 := (hk.block x h.lt e).trans h
theorem OwnIm.otherY {w : World} {B x : Nat} {a : Im4} {m : Img} {ts : List Value} {v0 v1 v2 : Value} (h : OwnIm w B a m ts) (hv : VarY w x v0 v1 v2) : ¬ ImB a m ts x := by
  intro hx
  rcases hx with h1 | h1 | h1 | h1 | ⟨t, ht, h1⟩
  · exact (h.rows.own (.slice a.ro m.refs.length a.rc, m.refs) (by simp [imRows])).row.other hv (by decide) h1
  · exact (h.rows.own (.slice a.tq m.table.length a.tc, m.table) (by simp [imRows])).row.other hv (by decide) h1
  · exact (h.rows.own (.slice a.dq m.data.length a.dc, m.data) (by simp [imRows])).row.other hv (by decide) h1
  · exact h.s.other hv (by decide) h1
  · have hm : t ∈ (ts.zip (m.snaps.map (·.table))).map Prod.fst := by rw [zip_fst _ _ (by rw [List.length_map, h.len])]; exact ht
    obtain ⟨p, hp, rfl⟩ := List.mem_map.1 hm
    exact (h.rows.own p (by simp [imRows, hp])).row.other hv (by decide) h1
theorem OwnIm.putI {w : World} {B x : Nat} {a b : Im4} {m M : Img} {ts : List Value} {v0 v1 v2 v3 : Value} (h : OwnIm w B a m ts) (hv : VarM w x 32 v0 v1 v2 v3) : OwnIm (putI w x b M) B a m ts :=
  h.keep (putI_keep w x b M) (fun g hg e => h.other hv (e ▸ hg))
theorem OwnIm.putRp {w : World} {B y : Nat} {a : Im4} {m : Img} {ts : List Value} {v0 v1 v2 : Value} (h : OwnIm w B a m ts) (hv : VarY w y v0 v1 v2) (r : Rp) (no : Option Addr) (nc : Nat) : OwnIm (putR w y r no nc) B a m ts :=
  h.keep (putR_keep w y r no nc) (fun g hg e => h.otherY hv (e ▸ hg))
theorem OwnNs.putI {w : World} {B x nc : Nat} {no : Option Addr} {ns : List ByteArray} {b : Im4} {M : Img} {v0 v1 v2 v3 : Value} (h : OwnNs w B no nc ns) (hv : VarM w x 32 v0 v1 v2 v3) : OwnNs (putI w x b M) B no nc ns :=
  OwnR.keep h (putI_keep w x b M) (fun g hg e => OwnR.other h hv (by decide) (e ▸ hg))
theorem OwnNs.putR {w : World} {B y nc : Nat} {no : Option Addr} {ns : List ByteArray} {v0 v1 v2 : Value} (h : OwnNs w B no nc ns) (hv : VarY w y v0 v1 v2) (r : Rp) (no' : Option Addr) (nc' : Nat) : OwnNs (putR w y r no' nc') B no nc ns :=
  OwnR.keep h (putR_keep w y r no' nc') (fun g hg e => OwnR.other h hv (by decide) (e ▸ hg))
theorem below_putI {w W : World} {x B : Nat} (h : Below B w W) (hx : B ≤ x) (a : Im4) (M : Img) (hs : B ≤ W.heap.size) : Below B w (putI W x a M) := h.trans ((putI_keep W x a M).below hs (fun k e => by have e' : k = x := e; omega))
theorem below_putR {w W : World} {y B : Nat} (h : Below B w W) (hy : B ≤ y) (r : Rp) (no : Option Addr) (nc : Nat) (hs : B ≤ W.heap.size) : Below B w (putR W y r no nc) := h.trans ((putR_keep W y r no nc).below hs (fun k e => by have e' : k = y := e; omega))
theorem FlM.of {w : World} {x : Nat} (h : ZrM w x) (a : Im4) (M : Img) : FlM (putI w x a M) x a M := (((h.set0 _).set1 _).set2 _).set3 _
theorem FlY.of {w : World} {y : Nat} (h : ZrY w y) (r : Rp) (no : Option Addr) (nc : Nat) : FlY (putR w y r no nc) y r no nc := ((h.set0 _).set1 _).set2 _

end Go.Proofs.YtkaiglhljpehpacGreat

/- Contracts of the laws' comparisons of disks (eqDisk). -/
namespace Go.Proofs.YtkaiglhljpehpacGreat
open Go.RowKit
set_option linter.unusedVariables false
set_option maxRecDepth 100000

theorem wr_ext {x y : Wr} (h : x.host = y.host ∧ x.at_ = y.at_ ∧ x.data = y.data) : x = y := by cases x; cases y; simp_all

set_option maxHeartbeats 800000 in
theorem eqStringS_any (ao bo : Option Addr) (ca cb : Nat) (ss tt : List ByteArray) (w : World) (hl : ss.length ≤ maxLen) (hc : Ss w ao ss) (hd : Ss w bo tt) :
    Calls Tryz.prog 30 #[.slice ao ss.length ca, .slice bo tt.length cb] w fun e w' => e = .returned (.bool (eqSB ss tt)) ∧ Below w.heap.size w w' := by
  have HC := hide hc
  have HD := hide hd
  clear hc hd
  unfold maxLen at hl
  by_cases hle : ss.length = tt.length
  · have hb : ((ss.length : Int) != (tt.length : Int)) = false := by simp [hle]
    have HLE := hide hle
    clear hle
    go_enter Tryz.func30, Tryz.ntmps30
    go_wp2
    go_loopw [5] (fun i wr => ∃ k : Nat, k ≤ ss.length ∧ i = .int .i64 k ∧ Hid (∀ j (h : j < ss.length) (h' : j < tt.length), j < k → ss[j] = tt[j]) ∧ Hid (Below w.heap.size w wr)) (fun i _ => ss.length - (intOf i).toNat)
    case atStart => exact ⟨0, Nat.zero_le _, rfl, hide (fun j _ _ h => by omega), hide (Below.refl _ _)⟩
    case round =>
      obtain ⟨k, hk, rfl, HA, HB⟩ := hrel
      by_cases hlt : k < ss.length
      · have hlt' : k < tt.length := by rw [← unhide HLE]; exact hlt
        obtain ⟨b, off, rfl, hc, hz⟩ := (unhide HC).below (unhide HB) k hlt
        obtain ⟨b', off', rfl, hc', hz'⟩ := (unhide HD).below (unhide HB) k hlt'
        clear hz hz'
        by_cases he : ss[k] = tt[k]
        · have HN := hide (eq_succ hlt hlt' (unhide HA) he)
          have be : (ss[k].toList == tt[k].toList) = true := by simp [he]
          clear he
          go_wp2
          go_quiet (fail)
          go_wp2
          go_roundw
          case rel => exact ⟨k + 1, by omega, by go_num, HN, hide ((unhide HB).trans (Joins.below_draws _ _ _))⟩
          case measure => simp [intOf]; omega
        · have H := hide (eqSB_false hlt hlt' he)
          have be : (ss[k].toList == tt[k].toList) = false := str_beq_false he
          clear he
          go_wp2
          go_quiet (fail)
          go_wp2
          go_ret
          exact ⟨ret_bool (unhide H).symm, (unhide HB).trans (Joins.below_draws _ _ _)⟩
      · have H := hide (eqSB_true (unhide HLE) (fun j h h' => unhide HA j h h' (by omega)))
        go_wp2
        go_ret
        exact ⟨ret_bool (unhide H).symm, unhide HB⟩
  · have hb : ((ss.length : Int) != (tt.length : Int)) = true := by simp; omega
    have H := hide (eqSB_false_len hle)
    clear hle
    go_enter Tryz.func30, Tryz.ntmps30
    go_wp2
    go_ret
    exact ⟨ret_bool (unhide H).symm, Below.refl _ _⟩


end Go.Proofs.YtkaiglhljpehpacGreat

/- The law's eyes on replies: alike, marked, held. -/
namespace Go.Proofs.YtkaiglhljpehpacGreat
open Go.RowKit
set_option linter.unusedVariables false
set_option maxRecDepth 100000

set_option maxHeartbeats 1600000 in
theorem eqReply_same (r : Rp) (no mo : Option Addr) (nc mc : Nat) (w : World) (hl : r.ns.length ≤ maxLen) (h1 : Ss w no r.ns) (h2 : Ss w mo r.ns) :
    Calls Tryz.prog 11 #[rpV r no nc, rpV r mo mc] w fun e w' => e = .returned (.bool true) ∧ Below w.heap.size w w' := by
  have HA := hide (Joins.below_alloc2 w (.cells #[.int .i64 r.c, .int .i64 r.v, .slice no r.ns.length nc] 35) (.cells #[.int .i64 r.c, .int .i64 r.v, .slice mo r.ns.length mc] 35))
  have H1 := hide (h1.below (unhide HA))
  have H2 := hide (h2.below (unhide HA))
  have HEQ : eqSB r.ns r.ns = true := decide_eq_true rfl
  have bc : (r.c != r.c) = false := by simp
  have bv : (r.v != r.v) = false := by simp
  clear h1 h2
  go_enter Tryz.func11, Tryz.ntmps11
  go_wp2_with fail
  refine (eqStringS_any no mo nc mc r.ns r.ns _ hl (unhide H1) (unhide H2)).mono ?_
  rintro e w1 ⟨rfl, hb⟩
  rw [HEQ]
  have HB := hide (fr (unhide HA) hb)
  clear hb
  go_wp2
  go_ret
  exact ⟨rfl, unhide HB⟩

set_option maxHeartbeats 1600000 in
theorem markReply_any (r : Rp) (no : Option Addr) (nc k : Nat) (xs : List Value) (B : Nat) (w : World) (hn : r.ns.length ≤ 1000) (hk0 : 0 < k) (hk1 : k ≤ 268435456) (hB : B ≤ w.heap.size) (ho : OwnR w B 9 1 (.slice no r.ns.length nc) r.ns.length xs) :
    Calls Tryz.prog 13 #[rpV r no nc, .int .i64 k] w fun e w' => e = .returned (.int .i64 ((k + r.ns.length : Nat) : Int)) ∧ OwnR w' B 9 1 (.slice no r.ns.length nc) r.ns.length (strV (mkS k r.ns.length)) ∧ Keep (Own (.slice no r.ns.length nc)) w w' := by
  have HA := hide (Joins.below_alloc1 w (.cells #[.int .i64 r.c, .int .i64 r.v, .slice no r.ns.length nc] 35))
  have HO := hide (OwnR.below ho (unhide HA))
  clear ho
  go_enter Tryz.func13, Tryz.ntmps13
  go_wp2_with fail
  refine (markStringS_any _ r.ns.length k xs B _ (by omega) hk0 hk1 (unhide HO)).mono ?_
  rintro e w1 ⟨rfl, ho1, hk⟩
  have HK := hide ((Keep.of_below (S := Own (.slice no r.ns.length nc)) (unhide HA)).trans hk)
  have HO1 := hide ho1
  clear ho1 hk
  go_wp2
  go_ret
  exact ⟨rfl, unhide HO1, unhide HK⟩

set_option maxHeartbeats 1600000 in
theorem heldReply_any (r : Rp) (no : Option Addr) (nc k : Nat) (B : Nat) (w : World) (hn : r.ns.length ≤ 1000) (hk0 : 0 < k) (hk1 : k ≤ 268435456) (ho : OwnR w B 9 1 (.slice no r.ns.length nc) r.ns.length (strV (mkS k r.ns.length))) :
    Calls Tryz.prog 15 #[rpV r no nc, .int .i64 k] w fun e w' => e = .returned (.int .i64 ((k + r.ns.length : Nat) : Int)) ∧ Below w.heap.size w w' := by
  have HA := hide (Joins.below_alloc1 w (.cells #[.int .i64 r.c, .int .i64 r.v, .slice no r.ns.length nc] 35))
  have HO := hide (OwnR.below ho (unhide HA))
  have hk2 : ¬ (((k + r.ns.length : Nat) : Int) < 0) := by omega
  clear ho
  go_enter Tryz.func15, Tryz.ntmps15
  go_wp2_with fail
  refine (heldStringS_any _ r.ns.length k B _ (by omega) hk0 hk1 (unhide HO)).mono ?_
  rintro e w1 ⟨rfl, hb⟩
  have HB := hide (fr (unhide HA) hb)
  clear hb
  go_wp2
  go_ret
  exact ⟨rfl, unhide HB⟩

end Go.Proofs.YtkaiglhljpehpacGreat

/- Contracts of the laws' own copies of requests: toReq, szReq, eqReq. -/
namespace Go.Proofs.YtkaiglhljpehpacGreat
open Go.RowKit
set_option linter.unusedVariables false
set_option maxRecDepth 100000

set_option maxHeartbeats 1600000 in
theorem toReq_any (q : Rq) (w : World) : Calls Tryz.prog 8 #[qV q] w fun e w' => e = .returned (qV q) ∧ Below w.heap.size w w' := by
  go_enter Tryz.func8, Tryz.ntmps8
  go_wp2
  exact bodyPost_ret (v := qV q) (by simp [results, Tryz.results8, go_sem]) rfl ⟨rfl, fr (Joins.below_alloc2 _ _ _) (Joins.below_alloc1 _ _)⟩

set_option maxHeartbeats 1600000 in
theorem szReq_any (q : Rq) (left : Int) (w : World) (hz : q.n.size ≤ maxLen) (h0 : 0 ≤ left) (h1 : left ≤ 1048576) :
    Calls Tryz.prog 5 #[qV q, .int .i64 left] w fun e w' => ∃ r : Int, e = .returned (.int .i64 r) ∧ -1 ≤ r ∧ r ≤ left ∧ (0 ≤ r → (q.n.size : Int) ≤ left) ∧ Below w.heap.size w w' := by
  unfold maxLen at hz
  have wr1 : IntKind.i64.wrap (left - (q.n.size : Int)) = left - (q.n.size : Int) := by rw [IntKind.wrap_i64]; omega
  by_cases h : left - (q.n.size : Int) < 0
  · go_enter Tryz.func5, Tryz.ntmps5
    go_wp2
    go_ret
    exact ⟨-1, rfl, by omega, by omega, by omega, Joins.below_alloc1 _ _⟩
  · go_enter Tryz.func5, Tryz.ntmps5
    go_wp2
    go_ret
    exact ⟨_, rfl, by omega, by omega, by omega, Joins.below_alloc1 _ _⟩

end Go.Proofs.YtkaiglhljpehpacGreat

/- As RgI, where an operation's edges of another mode may run ahead. -/
namespace Go.Proofs.YtkaiglhljpehpacGreat
open Go.RowKit
set_option linter.unusedVariables false

section
variable {P : Program}
/-- Every operation waits for earlier ones alone, of those that bind. -/
def linC (l : List Oper) : Bool := (List.range l.length).all fun i => ((l[i]?).map fun o => o.after.all fun e => decide (e.on < i) || !Region.binds .any e).getD true
theorem linC_spec {l : List Oper} (h : linC l = true) {i : Nat} {o : Oper} (hi : l[i]? = some o) {e : Edge} (he : e ∈ o.after) (hb : Region.binds .any e = true) : e.on < i := by
  have hl := (List.getElem?_eq_some_iff.1 hi).1
  have := List.all_eq_true.1 h i (List.mem_range.2 hl)
  rw [hi] at this
  simp only [Option.map_some, Option.getD_some] at this
  have := Array.all_eq_true_iff_forall_mem.1 this e he
  rw [hb] at this
  simpa using this

theorem wp_region_inv3 {id : Nat} {Q : Exit → Act → World → Prop} {a : Act} {w : World} {l : List Oper} (I : (Nat → Bool) → Act → World → Prop) (hm : P.follows .mixedOrders = true) (hl : linC l = true)
    (hg : ∀ (i : Nat) (o : Oper), l[i]? = some o → o.guard = none)
    (h0 : I (fun _ => false) a { w with drawn := w.drawn + 1 })
    (hs : ∀ (d : Nat → Bool) (a : Act) (w : World) (i : Nat) (o : Oper), I d a w → l[i]? = some o → d i = false → (∀ e ∈ o.after, Region.binds .any e = true → d e.on = true) → ∀ K : Act → World → Prop, (∀ a' w', I (updD d i) a' w' → K a' w') → o.wp P a w K Q)
    (he : ∀ (d : Nat → Bool) (a : Act) (w : World), I d a w → (∀ i, i < l.length → d i = true) → Q .normal a w) : (Code.region id l.toArray true).wp P Q a w := by
  refine wp_region_any hm ?_
  have key : ∀ (fuel : Nat) (listed : Array Bool) (a : Act) (w : World), listed.size = l.length → ((List.range l.length).filter fun i => !listed.getD i true).length ≤ fuel → I (fun j => listed.getD j true && decide (j < l.length)) a w → wpAny P .any l.toArray Q fuel listed a w := by
    intro fuel
    induction fuel with
    | zero =>
      intro listed a w hsz hn hI
      have hall : ∀ i, i < l.length → listed.getD i true = true := fun i hi => by
        cases h : listed.getD i true with
        | true => rfl
        | false =>
          have : i ∈ (List.range l.length).filter fun i => !listed.getD i true := List.mem_filter.2 ⟨List.mem_range.2 hi, by rw [h]; rfl⟩
          have := List.length_pos_of_mem this
          omega
      refine ⟨?_, he _ _ _ hI (fun i hi => by rw [hall i hi]; simp [hi])⟩
      rw [List.eq_nil_iff_forall_not_mem]
      intro i hi
      obtain ⟨h1, o, ho, _⟩ := mem_ready.1 hi
      have hil : i < l.length := by have := (Array.getElem?_eq_some_iff.1 ho).1; simpa using this
      rw [hall i hil] at h1
      cases h1
    | succ fuel ih =>
      intro listed a w hsz hn hI
      refine ⟨fun hr => he _ _ _ hI ?_, fun i hi => ?_⟩
      · have : ∀ n, ∀ i, i < n → i < l.length → listed.getD i true = true := by
          intro n
          induction n with
          | zero => intro i hi; omega
          | succ n ihn =>
            intro i hi hil
            by_cases hin : i < n
            · exact ihn i hin hil
            obtain rfl : i = n := by omega
            cases h : listed.getD i true with
            | true => rfl
            | false =>
              have hm' : i ∈ Region.ready .any l.toArray listed := mem_ready.2 ⟨h, l[i], by simp [hil], fun e he hb => by
                have hlt := linC_spec hl (List.getElem?_eq_getElem hil) he hb
                have h1 := ihn e.on hlt (by omega)
                have hz : e.on < listed.size := by omega
                rw [Array.getD_eq_getD_getElem?, Array.getElem?_eq_getElem hz] at h1 ⊢
                simpa only [Option.getD_some] using h1⟩
              rw [hr] at hm'
              cases hm'
        intro i hil
        rw [this (i + 1) i (by omega) hil]
        simp [hil]
      · obtain ⟨h1, o, ho, hp⟩ := mem_ready.1 hi
        have hil : i < l.length := by have := (Array.getElem?_eq_some_iff.1 ho).1; simpa using this
        have hoL : l[i]? = some o := by simpa using ho
        unfold wpOp
        simp only [ho]
        have hw : Region.wanted o (yielded l.toArray a.tmps) = true := by simp [Region.wanted, hg i o hoL]
        rw [if_pos hw]
        refine .inl (hs _ a w i o hI hoL (by rw [h1]; rfl) (fun e he hb => ?_) _ (fun a' w' hI' => ?_))
        · have h2 := hp e he hb
          have hlt := linC_spec hl hoL he hb
          have : e.on < listed.size := by omega
          rw [Array.getD_eq_getD_getElem?, Array.getElem?_eq_getElem this] at h2 ⊢
          simp only [Option.getD_some] at h2 ⊢
          rw [h2]
          simp
          omega
        · refine ih _ a' w' (by simpa using hsz) ?_ ?_
          · have hlt : ((List.range l.length).filter fun j => !(listed.setIfInBounds i true).getD j true).length < ((List.range l.length).filter fun j => !listed.getD j true).length := by
              have hsub : ((List.range l.length).filter fun j => !(listed.setIfInBounds i true).getD j true) = ((List.range l.length).filter fun j => !listed.getD j true).filter fun j => decide (j ≠ i) := by
                rw [List.filter_filter]
                congr 1
                funext j
                by_cases hji : j = i
                · subst hji
                  simp [Array.getD_eq_getD_getElem?, hsz, hil]
                · have : i ≠ j := fun e => hji e.symm
                  simp [Array.getD_eq_getD_getElem?, this, hji]
              rw [hsub]
              refine Nat.lt_of_le_of_ne (List.length_filter_le _ _) (fun e => ?_)
              have := List.length_filter_eq_length_iff.1 e i (List.mem_filter.2 ⟨List.mem_range.2 hil, by rw [h1]; rfl⟩)
              simp at this
            omega
          · have e : (fun j => (listed.setIfInBounds i true).getD j true && decide (j < l.length)) = updD (fun j => listed.getD j true && decide (j < l.length)) i := by
              funext j
              unfold updD
              by_cases hji : j = i
              · subst hji
                simp [Array.getD_eq_getD_getElem?, hsz, hil]
              · have : i ≠ j := fun e => hji e.symm
                simp [Array.getD_eq_getD_getElem?, this, hji]
            rw [e]
            exact hI'
  refine key _ _ _ _ (by simp) ?_ ?_
  · refine Nat.le_trans (List.length_filter_le _ _) ?_
    simp
  · have e : (fun j => (Array.replicate l.toArray.size false).getD j true && decide (j < l.length)) = fun _ => false := by
      funext j
      by_cases hj : j < l.length
      · simp [Array.getD_eq_getD_getElem?, hj]
      · simp [hj]
    rw [e]
    exact h0
theorem wp_region_inv4 {id : Nat} {Q : Exit → Act → World → Prop} {a : Act} {w : World} {l : List Oper} (I : (Nat → Bool) → Act → World → Prop) (hm : P.follows .mixedOrders = true) (hl : linC l = true)
    (hg : ∀ (i : Nat) (o : Oper), l[i]? = some o → o.guard = none)
    (h0 : I (fun _ => false) a { w with drawn := w.drawn + 1 })
    (hs : ∀ (d : Nat → Bool) (a : Act) (w : World) (i : Nat) (o : Oper), Closed l d → I d a w → l[i]? = some o → d i = false → (∀ e ∈ o.after, Region.binds .any e = true → d e.on = true) → ∀ K : Act → World → Prop, (∀ a' w', I (updD d i) a' w' → K a' w') → o.wp P a w K Q)
    (he : ∀ (d : Nat → Bool) (a : Act) (w : World), I d a w → (∀ i, i < l.length → d i = true) → Q .normal a w) : (Code.region id l.toArray true).wp P Q a w := by
  refine wp_region_inv3 (fun d a w => Closed l d ∧ I d a w) hm hl hg ⟨fun j o _ h => (by cases h), h0⟩ (fun d a w i o hI ho hd hp K hK => ?_) (fun d a w hI hall => he d a w hI.2 hall)
  refine hs d a w i o hI.1 hI.2 ho hd hp K (fun a' w' hI' => hK a' w' ⟨fun j oj hj hd' e he' hb => ?_, hI'⟩)
  simp only [updD, Bool.or_eq_true, decide_eq_true_eq] at hd' ⊢
  rcases hd' with hd' | rfl
  · exact .inl (hI.1 j oj hj hd' e he' hb)
  · rw [ho] at hj
    cases hj
    exact .inl (hp e he' hb)
end

end Go.Proofs.YtkaiglhljpehpacGreat
