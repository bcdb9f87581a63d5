import Derived.Test.YtjoafbkcnnhdiabRows
import Derived.Test.YtjoafbkcnnhdiabXResizeImagePart1
import Derived.Test.YtjoafbkcnnhdiabXResizeImagePart4
import Derived.Test.YtjoafbkcnnhdiabXResizeImagePart2
import Derived.Test.YtjoafbkcnnhdiabXResizeImagePart3
import Derived.Test.YtjoafbkcnnhdiabXResizeImagePart5
import Derived.WalkKit
import Derived.WalkSpells
import Derived.BigQuiet
import Derived.Deep.QuietTactic
import Derived.Deep.RegionWith
import Derived.Deep.Quiet
import Derived.Deep.RegionHeld3
import Derived.KernelRfl
import Derived.Laws.CopyRow
import Derived.Laws.CopyOwn
import Derived.LoopN
import Derived.Maps.Own
import Derived.Maps.OwnOps
import Derived.Maps.OwnSet
import Derived.Maps.RangeWalk
import Derived.Maps.Views

namespace Go.Proofs.Ytjoafbkcnnhdiab
open Go.RowKit
set_option linter.unusedVariables false
set_option maxRecDepth 100000

structure ImQ (w W : World) (B : Nat) (a : Im4) (m0 m : Img) (ts : List Value) : Prop where
  v : VarM W w.heap.size 29 (.slice a.ro m0.refs.length a.rc) (.slice a.tq m0.table.length a.tc) (.slice a.so m0.snaps.length a.sc) (.slice a.dq m0.data.length a.dc)
  r : VarM W (w.heap.size + 1) 29 (.slice none 0 0) (.slice none 0 0) (.slice none 0 0) (.slice none 0 0)
  o : OwnIm W B a m ts
  b : Below w.heap.size w W
  hB : w.heap.size + 2 ≤ B
  e1 : m.refs.length = m0.refs.length
  e2 : m.table.length = m0.table.length
  e3 : m.snaps.length = m0.snaps.length
  e4 : m.data.length = m0.data.length
theorem ImQ.val {w W : World} {B : Nat} {a : Im4} {m0 m : Img} {ts : List Value} (h : ImQ w W B a m0 m ts) : imV a m0 = imV a m := by rw [imV, imV, h.e1, h.e2, h.e3, h.e4]

abbrev putI (W : World) (x : Nat) (a : Im4) (m : Img) : World := (((W.setCell ⟨x, 0, none⟩ (.slice a.ro m.refs.length a.rc)).setCell ⟨x, 1, none⟩ (.slice a.tq m.table.length a.tc)).setCell ⟨x, 2, none⟩ (.slice a.so m.snaps.length a.sc)).setCell ⟨x, 3, none⟩ (.slice a.dq m.data.length a.dc)
theorem ImQ.put {w W : World} {B : Nat} {v0 v1 v2 v3 : Value} {a : Im4} {m0 m : Img} {ts : List Value} (hv : VarM W w.heap.size 29 v0 v1 v2 v3) (hr : VarM W (w.heap.size + 1) 29 (.slice none 0 0) (.slice none 0 0) (.slice none 0 0) (.slice none 0 0)) (ho : OwnIm W B a m ts) (hb : Below w.heap.size w W) (hB : w.heap.size + 2 ≤ B) (e1 : m.refs.length = m0.refs.length) (e2 : m.table.length = m0.table.length) (e3 : m.snaps.length = m0.snaps.length) (e4 : m.data.length = m0.data.length) : ImQ w (putI W w.heap.size a m0) B a m0 m ts := by
  obtain ⟨h1, h2, h3⟩ := ImSt.put hv ho hb (Nat.le_refl _) (by omega) a m0
  exact ⟨h1, (((hr.other (p := ⟨w.heap.size, 0, none⟩) (by simp) _).other (p := ⟨w.heap.size, 1, none⟩) (by simp) _).other (p := ⟨w.heap.size, 2, none⟩) (by simp) _).other (p := ⟨w.heap.size, 3, none⟩) (by simp) _, h2, h3, hB, e1, e2, e3, e4⟩
theorem ImQ.again {w W : World} {B : Nat} {a : Im4} {m0 m : Img} {ts : List Value} (h : ImQ w W B a m0 m ts) : ImQ w (putI W w.heap.size a m0) B a m0 m ts := ImQ.put h.v h.r h.o h.b h.hB h.e1 h.e2 h.e3 h.e4
theorem ImQ.fin {w W : World} {B : Nat} {a : Im4} {m0 m : Img} {ts : List Value} (h : ImQ w W B a m0 m ts) : VarM (putI W (w.heap.size + 1) a m0) (w.heap.size + 1) 29 (.slice a.ro m0.refs.length a.rc) (.slice a.tq m0.table.length a.tc) (.slice a.so m0.snaps.length a.sc) (.slice a.dq m0.data.length a.dc) ∧ OwnIm (putI W (w.heap.size + 1) a m0) w.heap.size a m ts ∧ Below w.heap.size w (putI W (w.heap.size + 1) a m0) := by
  obtain ⟨h1, h2, h3⟩ := ImSt.put h.r h.o h.b (Nat.le_succ _) (by have := h.hB; omega) a m0
  exact ⟨h1, h2.base (by have := h.hB; omega), h3⟩
theorem ImQ.turn {w W W' : World} {B : Nat} {a : Im4} {m0 m m' : Img} {ts : List Value} (h : ImQ w W B a m0 m ts) (hk : Keep (ImB a m ts) W W') (ho : OwnIm W' B a m' ts) (e1 : m'.refs.length = m.refs.length) (e2 : m'.table.length = m.table.length) (e3 : m'.snaps.length = m.snaps.length) (e4 : m'.data.length = m.data.length) : ImQ w W' B a m0 m' ts :=
  ⟨h.v.keepIm h.o hk, h.r.keepIm h.o hk, ho, h.b.trans (hk.below h.b.size (fun g hg => by have := (h.o.ge g hg).1; have := h.hB; omega)), h.hB, e1.trans h.e1, e2.trans h.e2, e3.trans h.e3, e4.trans h.e4⟩
theorem ImQ.setT {w W : World} {B c : Nat} {a : Im4} {m0 m : Img} {ts : List Value} (h : ImQ w W B a m0 m ts) (hc : c < m.table.length) : ∃ g, a.tq = some ⟨g, 0, none⟩ ∧ W.cell? ⟨g, c, none⟩ = some (.int .i64 m.table[c]) ∧ W.frozen? ⟨g, c, none⟩ = false ∧ ∀ y, ImQ w (W.setCell ⟨g, c, none⟩ (.int .i64 y)) B a m0 { m with table := m.table.set c y } ts := by
  obtain ⟨g, e, h1, h2, h3, h4⟩ := h.o.setT hc
  exact ⟨g, e, h1, h2, fun y => h.turn ((Keep.refl _ W).setCell (p := ⟨g, c, none⟩) h3 _) (h4 y) rfl (by simp) rfl rfl⟩
theorem imDrop_lens (m : Img) (e : Int) : (imDrop m e).refs.length = m.refs.length ∧ (imDrop m e).table.length = m.table.length ∧ (imDrop m e).snaps.length = m.snaps.length ∧ (imDrop m e).data.length = m.data.length := ⟨imDrop_refs m e, by rw [(imDrop_table m e).1], by rw [(imDrop_table m e).2], imDrop_data m e⟩

structure ImM (m : Img) : Prop where
  r : m.refs.length = 24
  d : m.data.length = 24
  t : m.table.length ≤ 12
  s : m.snaps.length ≤ 3
  st : ∀ s ∈ m.snaps, s.table.length ≤ 12 ∧ s.name.size ≤ 6
  tv : ∀ i (h : i < m.table.length), 0 ≤ m.table[i] ∧ m.table[i] ≤ 25
  sv : ∀ s ∈ m.snaps, ∀ i (h : i < s.table.length), 0 ≤ s.table[i] ∧ s.table[i] ≤ 25
  rv : ∀ c (h : c < m.refs.length), 0 ≤ m.refs[c] ∧ m.refs[c] ≤ 15
theorem ImR.M {m : Img} (h : ImR m) : ImM m := by
  refine ⟨ctB_len h.refs, h.len, tbB_len h.table, h.few, fun s hs => ⟨tbB_len (h.snaps s hs).2, ?_⟩, tbB_at h.table, fun s hs => tbB_at (h.snaps s hs).2, ctB_at h.refs⟩
  have := (h.snaps s hs).1
  simp only [snmB, Bool.and_eq_true] at this
  have := betw_iff.1 this.2
  omega
theorem ImM.L {m : Img} (h : ImM m) : ImL m := ⟨by rw [h.r]; unfold maxLen; omega, by have := h.t; unfold maxLen; omega, by have := h.s; unfold maxLen; omega, by rw [h.d]; unfold maxLen; omega⟩
theorem ImM.zs {m : Img} (h : ImM m) : ∀ s ∈ m.snaps, s.name.size ≤ maxLen ∧ s.table.length ≤ maxLen := fun s hs => by have := h.st s hs; unfold maxLen; omega
theorem l10Own_M (a : Im4) (m : Img) (w : World) (hM : ImM m) (hc : ImS w a m) :
    Calls Try.prog 36 #[imV a m] w fun e w' => ∃ a' ts, e = .returned (imV a' m) ∧ OwnIm w' w.heap.size a' m ts ∧ Below w.heap.size w w' :=
  l10Own_any a m w ⟨by rw [hM.r]; omega, by have := hM.t; omega, by rw [hM.d]; omega⟩ (fun s hs => by have := (hM.st s hs).1; omega) (by have := hM.s; omega) hc
theorem l10Drop_M (a : Im4) (m : Img) (ts : List Value) (B : Nat) (e : Int) (w : World) (he0 : 0 ≤ e) (he1 : e ≤ 25) (hr : m.refs.length = 24) (hd : m.data.length = 24) (hv : ∀ c (h : c < m.refs.length), -1000 ≤ m.refs[c] ∧ m.refs[c] ≤ 1000) (ho : OwnIm w B a m ts) :
    Calls Try.prog 64 #[imV a m, .int .i64 e] w fun r w' => r = .returned (imV a m) ∧ OwnIm w' B a (imDrop m e) ts ∧ Keep (ImB a m ts) w w' :=
  l10Drop_any a m ts B e w (by omega) (by omega) (by rw [hr]; omega) (by rw [hd]; omega) ⟨by omega, by omega⟩ hv ho

end Go.Proofs.Ytjoafbkcnnhdiab

namespace Go.Proofs.Ytjoafbkcnnhdiab
open Go.RowKit
set_option linter.unusedVariables false
set_option maxRecDepth 100000

structure ImBd (m : Img) : Prop where
  r : m.refs.length ≤ 1048576
  t : m.table.length ≤ 1048576
  s : m.snaps.length ≤ 1048576
  d : m.data.length ≤ 1048576
  st : ∀ s ∈ m.snaps, s.table.length ≤ 1048576 ∧ s.name.size ≤ 1048576
  k : snK m.snaps ≤ 4194304
theorem snK_sz (ss : List Snp) : snK ss ≤ ss.length + snSz ss := by
  induction ss with
  | nil => exact Nat.le_refl _
  | cons s ss ih =>
    simp only [snK, snSz, List.map_cons, List.sum_cons, List.length_cons] at ih ⊢
    have e : sn1 s = s.name.size + s.table.length := rfl
    omega
theorem ImBd.of {m : Img} (h : imSz m ≤ 1048576) : ImBd m := by
  unfold imSz at h
  refine ⟨by omega, by omega, by omega, by omega, fun s hs => ?_, ?_⟩
  · obtain ⟨i, hi, rfl⟩ := List.mem_iff_getElem.1 hs
    have := sn_le hi
    unfold sn1 at this
    omega
  · have := snK_sz m.snaps
    omega
theorem ImBd.zs {m : Img} (h : ImBd m) : ∀ s ∈ m.snaps, s.name.size ≤ maxLen ∧ s.table.length ≤ maxLen := fun s hs => by have := h.st s hs; unfold maxLen; omega
theorem ImBd.zero : ImBd im0 := ⟨by simp [im0], by simp [im0], by simp [im0], by simp [im0], fun s hs => by simp [im0] at hs, by simp [im0, snK]⟩
structure LwV (W : World) (p n : Nat) (a : Im4) (m : Img) (ts : List Value) : Prop where
  v : VarM W p 29 (.slice a.ro m.refs.length a.rc) (.slice a.tq m.table.length a.tc) (.slice a.so m.snaps.length a.sc) (.slice a.dq m.data.length a.dc)
  o : OwnIm W n a m ts
  n : n ≤ W.heap.size
theorem LwV.new (W : World) (a : Im4) (m : Img) {n : Nat} {ts : List Value} (h : OwnIm W n a m ts) (hn : n ≤ W.heap.size) : LwV (W.alloc (.cells #[.slice a.ro m.refs.length a.rc, .slice a.tq m.table.length a.tc, .slice a.so m.snaps.length a.sc, .slice a.dq m.data.length a.dc] 29)) W.heap.size n a m ts :=
  ⟨VarM.new W _ _ _ _ _, h.below (Joins.below_alloc1 _ _), by simp; omega⟩
theorem LwV.below {W W' : World} {p n : Nat} {a : Im4} {m : Img} {ts : List Value} (h : LwV W p n a m ts) (hb : Below W.heap.size W W') : LwV W' p n a m ts := ⟨h.v.below hb, h.o.below hb, Nat.le_trans h.n hb.size⟩
theorem LwV.keep {W W' : World} {p n q n' : Nat} {a b : Im4} {m m' : Img} {ts us : List Value} (h : LwV W p n a m ts) (h2 : LwV W q n' b m' us) (hk : Keep (ImB b m' us) W W') (hs : ∀ g, ImB a m ts g → ¬ ImB b m' us g) : LwV W' p n a m ts :=
  ⟨h.v.keepIm h2.o hk, h.o.keep hk hs, Nat.le_trans h.n hk.size⟩
theorem OwnIm.otherL {w : World} {B x : Nat} {a : Im4} {m : Img} {ts : List Value} {v0 v1 v2 v3 : Value} (h : OwnIm w B a m ts) (hv : VarM w x 25 v0 v1 v2 v3) : ¬ ImB a m ts x := by
  intro hx
  rcases hx with h1 | h1 | h1 | h1 | ⟨t, ht, h1⟩
  · exact (h.rows.own (.slice a.ro m.refs.length a.rc, m.refs) (by simp [imRows])).row.other hv (by decide) h1
  · exact (h.rows.own (.slice a.tq m.table.length a.tc, m.table) (by simp [imRows])).row.other hv (by decide) h1
  · exact (h.rows.own (.slice a.dq m.data.length a.dc, m.data) (by simp [imRows])).row.other hv (by decide) h1
  · exact h.s.other hv (by decide) h1
  · have hm : t ∈ (ts.zip (m.snaps.map (·.table))).map Prod.fst := by rw [zip_fst _ _ (by rw [List.length_map, h.len])]; exact ht
    obtain ⟨p, hp, rfl⟩ := List.mem_map.1 hm
    exact (h.rows.own p (by simp [imRows, hp])).row.other hv (by decide) h1
theorem toImage_B (a : Im4) (m : Img) (w : World) (h : ImBd m) (hc : ImS w a m) :
    Calls Try.prog 11 #[imV a m] w fun e w' => ∃ a' ts, e = .returned (imV a' m) ∧ OwnIm w' w.heap.size a' m ts ∧ Below w.heap.size w w' :=
  toImage_any a m w h.r h.t h.s h.d (fun s hs => (h.st s hs).1) hc
theorem eqImage_B (a b : Im4) (m : Img) (w : World) (h : ImBd m) (h1 : ImS w a m) (h2 : ImS w b m) :
    Calls Try.prog 13 #[imV a m, imV b m] w fun e w' => e = .returned (.bool true) ∧ Below w.heap.size w w' :=
  eqImage_same a b m w (by have := h.r; unfold maxLen; omega) (by have := h.t; unfold maxLen; omega) (by have := h.s; unfold maxLen; omega) (by have := h.d; unfold maxLen; omega) h1 h2
theorem markImage_B (a : Im4) (m : Img) (ts : List Value) (B : Nat) (w : World) (h : ImBd m) (ho : OwnIm w B a m ts) :
    Calls Try.prog 14 #[imV a m, .int .i64 1] w fun e w' => e = .returned (.int .i64 ((1 + imK m : Nat) : Int)) ∧ OwnIm w' B a (mkIm 1 m) ts ∧ Keep (ImB a m ts) w w' :=
  markImage_any a m ts 1 B w h.r h.t h.s h.d (fun s hs => (h.st s hs).1) h.k (by omega) (by omega) ho
theorem heldImage_B (a : Im4) (m : Img) (ts : List Value) (B : Nat) (w : World) (h : ImBd m) (ho : OwnIm w B a (mkIm 1 m) ts) :
    Calls Try.prog 15 #[imV a m, .int .i64 1] w fun e w' => e = .returned (.int .i64 ((1 + imK m : Nat) : Int)) ∧ Below w.heap.size w w' :=
  heldImage_any a m ts 1 B w h.r h.t h.s h.d (fun s hs => (h.st s hs).1) h.k (by omega) (by omega) ho

end Go.Proofs.Ytjoafbkcnnhdiab

namespace Go.Proofs.Ytjoafbkcnnhdiab
open Go.RowKit
set_option linter.unusedVariables false

section
variable {P : Program} {ops : Array Oper}
end

end Go.Proofs.Ytjoafbkcnnhdiab

namespace Go.Proofs.Ytjoafbkcnnhdiab
open Go.RowKit
set_option linter.unusedVariables false
set_option maxRecDepth 100000

def rsA' (m : Img) (n : Int) : Img × Int := if imB m = true then (if betw n 0 12 = true then (imResize m n.toNat, 0) else (m, 4)) else (im0, 1)
structure ImE (w W : World) (a : Im4) (m : Img) : Prop where
  v : VarM W w.heap.size 29 (.slice a.ro m.refs.length a.rc) (.slice a.tq m.table.length a.tc) (.slice a.so m.snaps.length a.sc) (.slice a.dq m.data.length a.dc)
  r : VarM W (w.heap.size + 1) 29 (.slice none 0 0) (.slice none 0 0) (.slice none 0 0) (.slice none 0 0)
  s : ImS W a m
  b : Below w.heap.size w W
theorem ImE.new (w : World) (a : Im4) (m : Img) (h : ImS w a m) : ImE w ((w.alloc (.cells #[.slice a.ro m.refs.length a.rc, .slice a.tq m.table.length a.tc, .slice a.so m.snaps.length a.sc, .slice a.dq m.data.length a.dc] 29)).alloc (.cells #[.slice none 0 0, .slice none 0 0, .slice none 0 0, .slice none 0 0] 29)) a m :=
  ⟨(VarM.new w _ _ _ _ _).below (Joins.below_alloc1 _ _), (VarM.new (w.alloc _) _ _ _ _ _).at (by simp), h.below (Joins.below_alloc2 _ _ _), Joins.below_alloc2 _ _ _⟩
theorem ImE.below {w W W' : World} {a : Im4} {m : Img} (h : ImE w W a m) (hb : Below W.heap.size W W') : ImE w W' a m := ⟨h.v.below hb, h.r.below hb, h.s.below hb, fr h.b hb⟩
theorem ImE.put {w W W' : World} {a : Im4} {m : Img} (h : ImE w W a m) (hb : Below W.heap.size W W') {a' : Im4} {m' : Img} {ts : List Value} (ho : OwnIm W' W.heap.size a' m' ts) :
    VarM (putI W' (w.heap.size + 1) a' m') (w.heap.size + 1) 29 (.slice a'.ro m'.refs.length a'.rc) (.slice a'.tq m'.table.length a'.tc) (.slice a'.so m'.snaps.length a'.sc) (.slice a'.dq m'.data.length a'.dc) ∧ OwnIm (putI W' (w.heap.size + 1) a' m') w.heap.size a' m' ts ∧ Below w.heap.size w (putI W' (w.heap.size + 1) a' m') := by
  obtain ⟨h1, h2, h3⟩ := ImSt.put (h.r.below hb) ho (fr h.b hb) (Nat.le_succ _) h.r.lt a' m'
  exact ⟨h1, h2.base h.b.size, h3⟩
theorem ImE.zero {w W : World} {a : Im4} {m : Img} (h : ImE w W a m) :
    VarM ((((W.setCell ⟨w.heap.size + 1, 0, none⟩ (.slice none 0 0)).setCell ⟨w.heap.size + 1, 1, none⟩ (.slice none 0 0)).setCell ⟨w.heap.size + 1, 2, none⟩ (.slice none 0 0)).setCell ⟨w.heap.size + 1, 3, none⟩ (.slice none 0 0)) (w.heap.size + 1) 29 (.slice none 0 0) (.slice none 0 0) (.slice none 0 0) (.slice none 0 0) ∧
    Below w.heap.size w ((((W.setCell ⟨w.heap.size + 1, 0, none⟩ (.slice none 0 0)).setCell ⟨w.heap.size + 1, 1, none⟩ (.slice none 0 0)).setCell ⟨w.heap.size + 1, 2, none⟩ (.slice none 0 0)).setCell ⟨w.heap.size + 1, 3, none⟩ (.slice none 0 0)) :=
  ⟨(((h.r.set0 _).set1 _).set2 _).set3 _, (((h.b.setCell (p := ⟨w.heap.size + 1, 0, none⟩) (Nat.le_succ _) _).setCell (p := ⟨w.heap.size + 1, 1, none⟩) (Nat.le_succ _) _).setCell (p := ⟨w.heap.size + 1, 2, none⟩) (Nat.le_succ _) _).setCell (p := ⟨w.heap.size + 1, 3, none⟩) (Nat.le_succ _) _⟩
def AnsI (w w' : World) (e : Ending) (R : Img × Int) : Prop := ∃ a ts, e = .returned (.tuple #[imV a R.1, .int .i64 R.2]) ∧ OwnIm w' w.heap.size a R.1 ts ∧ Below w.heap.size w w'
theorem AnsI.of {w w' : World} {v : Value} {c : Int} {R : Img × Int} {a : Im4} {ts : List Value} (hv : v = imV a R.1) (hc : c = R.2) (ho : OwnIm w' w.heap.size a R.1 ts) (hb : Below w.heap.size w w') : AnsI w w' (.returned (.tuple #[v, .int .i64 c])) R := ⟨a, ts, by rw [hv, hc], ho, hb⟩
theorem AnsI.bad {w w' : World} (c : Int) (hb : Below w.heap.size w w') : AnsI w w' (.returned (.tuple #[.agg #[.slice none 0 0, .slice none 0 0, .slice none 0 0, .slice none 0 0], .int .i64 c])) (im0, c) := ⟨⟨none, 0, none, 0, none, 0, none, 0⟩, [], rfl, OwnIm.zero _ _, hb⟩

end Go.Proofs.Ytjoafbkcnnhdiab

namespace Go.Proofs.Ytjoafbkcnnhdiab
open Go.RowKit
set_option linter.unusedVariables false
set_option maxRecDepth 100000

structure LqJResizeImage (Wq : World) (AX AA : Value) (m : Img) (d : Nat → Bool) (w : World) (s45 s46 s47 s48 s49 : Value) : Prop where
  bw : Below Wq.heap.size Wq w
  p2 : d 2 = true → ∃ a1 ts, s47 = imV a1 m ∧ OwnIm w Wq.heap.size a1 m ts
  f0 : d 0 = true → s45 = AX
  f1 : d 1 = true → s46 = AA
  f3 : d 3 = true → s48 = .bool true
  f4 : d 4 = true → s49 = .bool false

theorem LqJResizeImage.s0 {Wq : World} {AX AA : Value} {m : Img} {d : Nat → Bool} {w : World} {s45 s46 s47 s48 s49 v : Value} (I : LqJResizeImage Wq AX AA m d w s45 s46 s47 s48 s49) (hd : d 0 = false) (hv : v = AX) : LqJResizeImage Wq AX AA m (updD d 0) w v s46 s47 s48 s49 where
  bw := I.bw
  p2 := fun h => I.p2 (upd_ne (by decide) h)
  f0 := fun _ => hv
  f1 := fun h => I.f1 (upd_ne (by decide) h)
  f3 := fun h => I.f3 (upd_ne (by decide) h)
  f4 := fun h => I.f4 (upd_ne (by decide) h)

theorem LqJResizeImage.s1 {Wq : World} {AX AA : Value} {m : Img} {d : Nat → Bool} {w : World} {s45 s46 s47 s48 s49 v : Value} (I : LqJResizeImage Wq AX AA m d w s45 s46 s47 s48 s49) (hd : d 1 = false) (hv : v = AA) : LqJResizeImage Wq AX AA m (updD d 1) w s45 v s47 s48 s49 where
  bw := I.bw
  p2 := fun h => I.p2 (upd_ne (by decide) h)
  f0 := fun h => I.f0 (upd_ne (by decide) h)
  f1 := fun _ => hv
  f3 := fun h => I.f3 (upd_ne (by decide) h)
  f4 := fun h => I.f4 (upd_ne (by decide) h)

theorem LqJResizeImage.s2 {Wq : World} {AX AA : Value} {m : Img} {d : Nat → Bool} {w w2 : World} {s45 s46 s47 s48 s49 v : Value} (I : LqJResizeImage Wq AX AA m d w s45 s46 s47 s48 s49) (hd : d 2 = false) (hb : Below w.heap.size w w2) {a1 : Im4} {ts : List Value} (hv : v = imV a1 m) (ho : OwnIm w2 Wq.heap.size a1 m ts) : LqJResizeImage Wq AX AA m (updD d 2) w2 s45 s46 v s48 s49 where
  bw := fr I.bw hb
  p2 := fun _ => ⟨a1, ts, hv, ho⟩
  f0 := fun h => I.f0 (upd_ne (by decide) h)
  f1 := fun h => I.f1 (upd_ne (by decide) h)
  f3 := fun h => I.f3 (upd_ne (by decide) h)
  f4 := fun h => I.f4 (upd_ne (by decide) h)

theorem LqJResizeImage.s3 {Wq : World} {AX AA : Value} {m : Img} {d : Nat → Bool} {w : World} {s45 s46 s47 s48 s49 v : Value} (I : LqJResizeImage Wq AX AA m d w s45 s46 s47 s48 s49) (hd : d 3 = false) (hv : v = .bool true) : LqJResizeImage Wq AX AA m (updD d 3) w s45 s46 s47 v s49 where
  bw := I.bw
  p2 := fun h => I.p2 (upd_ne (by decide) h)
  f0 := fun h => I.f0 (upd_ne (by decide) h)
  f1 := fun h => I.f1 (upd_ne (by decide) h)
  f3 := fun _ => hv
  f4 := fun h => I.f4 (upd_ne (by decide) h)

theorem LqJResizeImage.s4 {Wq : World} {AX AA : Value} {m : Img} {d : Nat → Bool} {w : World} {s45 s46 s47 s48 s49 v : Value} (I : LqJResizeImage Wq AX AA m d w s45 s46 s47 s48 s49) (hd : d 4 = false) (hv : v = .bool false) : LqJResizeImage Wq AX AA m (updD d 4) w s45 s46 s47 s48 v where
  bw := I.bw
  p2 := fun h => I.p2 (upd_ne (by decide) h)
  f0 := fun h => I.f0 (upd_ne (by decide) h)
  f1 := fun h => I.f1 (upd_ne (by decide) h)
  f3 := fun h => I.f3 (upd_ne (by decide) h)
  f4 := fun _ => hv

theorem LqJResizeImage.grow {Wq : World} {AX AA : Value} {m : Img} {d : Nat → Bool} {w w2 : World} {s45 s46 s47 s48 s49 : Value} (I : LqJResizeImage Wq AX AA m d w s45 s46 s47 s48 s49) (hb : Below w.heap.size w w2) : LqJResizeImage Wq AX AA m d w2 s45 s46 s47 s48 s49 := ⟨fr I.bw hb, fun h => (I.p2 h).imp fun a1 h1 => h1.imp fun ts h2 => ⟨h2.1, h2.2.below hb⟩, I.f0, I.f1, I.f3, I.f4⟩

abbrev lqFrResizeImage (t0 t1 t2 t3 t4 t5 t6 t7 t8 t9 t10 t11 t12 t13 t14 t15 t16 t17 t18 t19 t20 t21 t22 t23 t24 t25 t26 t27 t28 t29 t30 t31 t32 t33 t34 t35 t36 t37 t38 t39 t40 t41 t42 t43 t44 s45 s46 s47 s48 s49 t50 t51 t52 t53 t54 t55 t56 t57 t58 t59 t60 t61 t62 t63 t64 t65 t66 t67 t68 t69 t70 t71 t72 t73 t74 t75 t76 t77 t78 t79 t80 t81 t82 t83 t84 t85 t86 t87 t88 t89 t90 t91 t92 t93 t94 t95 t96 t97 t98 t99 t100 : Value) : Act := ⟨#[t0, t1, t2, t3, t4, t5, t6, t7, t8, t9, t10, t11, t12, t13, t14, t15, t16, t17, t18, t19, t20, t21, t22, t23, t24, t25, t26, t27, t28, t29, t30, t31, t32, t33, t34, t35, t36, t37, t38, t39, t40, t41, t42, t43, t44, s45, s46, s47, s48, s49, t50, t51, t52, t53, t54, t55, t56, t57, t58, t59, t60, t61, t62, t63, t64, t65, t66, t67, t68, t69, t70, t71, t72, t73, t74, t75, t76, t77, t78, t79, t80, t81, t82, t83, t84, t85, t86, t87, t88, t89, t90, t91, t92, t93, t94, t95, t96, t97, t98, t99, t100], []⟩
theorem lqFrResizeImage_region {P : Program} {id : Nat} {Q : Exit → Act → World → Prop} {l : List Oper} {t0 t1 t2 t3 t4 t5 t6 t7 t8 t9 t10 t11 t12 t13 t14 t15 t16 t17 t18 t19 t20 t21 t22 t23 t24 t25 t26 t27 t28 t29 t30 t31 t32 t33 t34 t35 t36 t37 t38 t39 t40 t41 t42 t43 t44 s45 s46 s47 s48 s49 t50 t51 t52 t53 t54 t55 t56 t57 t58 t59 t60 t61 t62 t63 t64 t65 t66 t67 t68 t69 t70 t71 t72 t73 t74 t75 t76 t77 t78 t79 t80 t81 t82 t83 t84 t85 t86 t87 t88 t89 t90 t91 t92 t93 t94 t95 t96 t97 t98 t99 t100 : Value} {W : World} (J : (Nat → Bool) → World → Value → Value → Value → Value → Value →  Prop) (hm : P.follows .mixedOrders = true) (hl : linB l = true)
    (hg : ∀ (i : Nat) (o : Oper), l[i]? = some o → o.guard = none) (h0 : J (fun _ => false) { W with drawn := W.drawn + 1 } s45 s46 s47 s48 s49)
    (hs : ∀ (d : Nat → Bool) (w : World) (i : Nat) (o : Oper) (r45 r46 r47 r48 r49 : Value), Closed l d → J d w r45 r46 r47 r48 r49 → l[i]? = some o → d i = false → (∀ e ∈ o.after, Region.binds .any e = true → d e.on = true) → ∀ K : Act → World → Prop, (∀ (w' : World) (q45 q46 q47 q48 q49 : Value), J (updD d i) w' q45 q46 q47 q48 q49 → K (lqFrResizeImage t0 t1 t2 t3 t4 t5 t6 t7 t8 t9 t10 t11 t12 t13 t14 t15 t16 t17 t18 t19 t20 t21 t22 t23 t24 t25 t26 t27 t28 t29 t30 t31 t32 t33 t34 t35 t36 t37 t38 t39 t40 t41 t42 t43 t44 q45 q46 q47 q48 q49 t50 t51 t52 t53 t54 t55 t56 t57 t58 t59 t60 t61 t62 t63 t64 t65 t66 t67 t68 t69 t70 t71 t72 t73 t74 t75 t76 t77 t78 t79 t80 t81 t82 t83 t84 t85 t86 t87 t88 t89 t90 t91 t92 t93 t94 t95 t96 t97 t98 t99 t100) w') → o.wp P (lqFrResizeImage t0 t1 t2 t3 t4 t5 t6 t7 t8 t9 t10 t11 t12 t13 t14 t15 t16 t17 t18 t19 t20 t21 t22 t23 t24 t25 t26 t27 t28 t29 t30 t31 t32 t33 t34 t35 t36 t37 t38 t39 t40 t41 t42 t43 t44 r45 r46 r47 r48 r49 t50 t51 t52 t53 t54 t55 t56 t57 t58 t59 t60 t61 t62 t63 t64 t65 t66 t67 t68 t69 t70 t71 t72 t73 t74 t75 t76 t77 t78 t79 t80 t81 t82 t83 t84 t85 t86 t87 t88 t89 t90 t91 t92 t93 t94 t95 t96 t97 t98 t99 t100) w K Q)
    (he : ∀ (d : Nat → Bool) (w : World) (r45 r46 r47 r48 r49 : Value), J d w r45 r46 r47 r48 r49 → (∀ i, i < l.length → d i = true) → Q .normal (lqFrResizeImage t0 t1 t2 t3 t4 t5 t6 t7 t8 t9 t10 t11 t12 t13 t14 t15 t16 t17 t18 t19 t20 t21 t22 t23 t24 t25 t26 t27 t28 t29 t30 t31 t32 t33 t34 t35 t36 t37 t38 t39 t40 t41 t42 t43 t44 r45 r46 r47 r48 r49 t50 t51 t52 t53 t54 t55 t56 t57 t58 t59 t60 t61 t62 t63 t64 t65 t66 t67 t68 t69 t70 t71 t72 t73 t74 t75 t76 t77 t78 t79 t80 t81 t82 t83 t84 t85 t86 t87 t88 t89 t90 t91 t92 t93 t94 t95 t96 t97 t98 t99 t100) w) : (Code.region id l.toArray true).wp P Q (lqFrResizeImage t0 t1 t2 t3 t4 t5 t6 t7 t8 t9 t10 t11 t12 t13 t14 t15 t16 t17 t18 t19 t20 t21 t22 t23 t24 t25 t26 t27 t28 t29 t30 t31 t32 t33 t34 t35 t36 t37 t38 t39 t40 t41 t42 t43 t44 s45 s46 s47 s48 s49 t50 t51 t52 t53 t54 t55 t56 t57 t58 t59 t60 t61 t62 t63 t64 t65 t66 t67 t68 t69 t70 t71 t72 t73 t74 t75 t76 t77 t78 t79 t80 t81 t82 t83 t84 t85 t86 t87 t88 t89 t90 t91 t92 t93 t94 t95 t96 t97 t98 t99 t100) W := by
  refine wp_region_inv2 (fun d f w => ∃ r45 r46 r47 r48 r49, f = lqFrResizeImage t0 t1 t2 t3 t4 t5 t6 t7 t8 t9 t10 t11 t12 t13 t14 t15 t16 t17 t18 t19 t20 t21 t22 t23 t24 t25 t26 t27 t28 t29 t30 t31 t32 t33 t34 t35 t36 t37 t38 t39 t40 t41 t42 t43 t44 r45 r46 r47 r48 r49 t50 t51 t52 t53 t54 t55 t56 t57 t58 t59 t60 t61 t62 t63 t64 t65 t66 t67 t68 t69 t70 t71 t72 t73 t74 t75 t76 t77 t78 t79 t80 t81 t82 t83 t84 t85 t86 t87 t88 t89 t90 t91 t92 t93 t94 t95 t96 t97 t98 t99 t100 ∧ J d w r45 r46 r47 r48 r49) hm hl hg ⟨s45, s46, s47, s48, s49, rfl, h0⟩ ?_ ?_
  · intro d f w i o hc hI ho hd hp K hK
    obtain ⟨r45, r46, r47, r48, r49, rfl, hJ⟩ := hI
    exact hs d w i o r45 r46 r47 r48 r49 hc hJ ho hd hp K (fun w' q45 q46 q47 q48 q49 hJ' => hK _ _ ⟨q45, q46, q47, q48, q49, rfl, hJ'⟩)
  · intro d f w hI hall
    obtain ⟨r45, r46, r47, r48, r49, rfl, hJ⟩ := hI
    exact he d w r45 r46 r47 r48 r49 hJ hall

set_option maxHeartbeats 3200000 in
theorem lawImResizeImage (a : Im4) (m : Img) (g : Int) (R : Img × Int) (w : World) (hL : ImL m) (hc : ImS w a m)
    (hz : ∀ s ∈ m.snaps, s.name.size ≤ maxLen ∧ s.table.length ≤ maxLen)
    (hR : imSz m ≤ 1048576 → ImBd R.1)
    (hspec : ∀ (b : Im4) (W : World), ImS W b m → Calls Try.prog 16 #[imV b m, .int .i64 g] W fun e w' => AnsI W w' e R)
    (himpl : ∀ (b : Im4) (W : World), ImS W b m → Calls Try.prog 17 #[imV b m, .int .i64 g] W fun e w' => AnsI W w' e R) :
    Calls Try.prog 4 #[imV a m, .int .i64 g] w fun e w' => e = .returned (.bool true) ∧ Below w.heap.size w w' := by
  have HA := hide (Joins.below_alloc1 w (.cells #[.slice a.ro m.refs.length a.rc, .slice a.tq m.table.length a.tc, .slice a.so m.snaps.length a.sc, .slice a.dq m.data.length a.dc] 25))
  have HV := hide (VarM.new w 25 (.slice a.ro m.refs.length a.rc) (.slice a.tq m.table.length a.tc) (.slice a.so m.snaps.length a.sc) (.slice a.dq m.data.length a.dc))
  have HC := hide (hc.below (unhide HA))
  have HCW := hide hc
  have HL := hide hL
  have HZ := hide hz
  have HRB := hide hR
  have HSP := hide hspec
  have HIM := hide himpl
  clear hc hL hz hR hspec himpl
  go_enter Try.func4, Try.ntmps4
  go_upto_region 2 with fail
  revert HC
  revert HV
  revert HA
  generalize (w.alloc _) = W0
  intro HA HV HC
  obtain ⟨c0, c1, c2, c3⟩ := (unhide HV).cells
  go_wp2_with fail
  refine (szImage_any a m 1048576 _ (unhide HL).r (unhide HL).t (unhide HL).s (unhide HL).d (by omega) (by omega) (unhide HC)).mono ?_
  rintro e w1 ⟨r, rfl, hr0, hr1, hr2, hb⟩
  have HB1 := hide (fr (unhide HA) hb)
  have HC1 := hide ((unhide HC).below hb)
  have HV1 := hide ((unhide HV).below hb)
  clear hb c0 c1 c2 c3 HA HV HC
  by_cases hneg : r < 0
  · go_wp2
    go_ret
    exact ⟨rfl, unhide HB1⟩
  have HSZ : Hid (imSz m ≤ 1048576) := hide (by have := hr2 (by omega); omega)
  have HBD := hide (ImBd.of (unhide HSZ))
  have HRD := hide (unhide HRB (unhide HSZ))
  clear hr2 HRB
  obtain ⟨c0, c1, c2, c3⟩ := (unhide HV1).cells
  -- the model's answer
  go_wp2_with fail
  refine (toImage_B a m _ (unhide HBD) (unhide HC1)).mono ?_
  rintro e w2 ⟨a2, ts2, rfl, ho2, hb2⟩
  have HB2 := hide (fr (unhide HB1) hb2)
  have HC2 := hide ((unhide HC1).below hb2)
  have HV2 := hide ((unhide HV1).below hb2)
  have HI2 := hide (ho2.shows (unhide HZ))
  clear hb2 ho2 c0 c1 c2 c3 HB1 HC1 HV1
  go_wp2_with fail
  refine (unhide HSP a2 _ (unhide HI2)).mono ?_
  rintro e w3 ⟨aW, tsW, rfl, hoW, hb3⟩
  have HV3 := hide ((unhide HV2).below hb3)
  have HNW := hide (LwV.new w3 aW R.1 (hoW.base (B' := w.heap.size) (unhide HB2).size) (Nat.le_trans (unhide HB2).size hb3.size))
  have HB3 := hide (fr (fr (unhide HB2) hb3) (Joins.below_alloc1 w3 (.cells #[.slice aW.ro R.1.refs.length aW.rc, .slice aW.tq R.1.table.length aW.tc, .slice aW.so R.1.snaps.length aW.sc, .slice aW.dq R.1.data.length aW.dc] 29)))
  have HC3 := hide (((unhide HC2).below hb3).below (Joins.below_alloc1 w3 (.cells #[.slice aW.ro R.1.refs.length aW.rc, .slice aW.tq R.1.table.length aW.tc, .slice aW.so R.1.snaps.length aW.sc, .slice aW.dq R.1.data.length aW.dc] 29)))
  have HVA3 := hide ((unhide HV3).below (Joins.below_alloc1 w3 (.cells #[.slice aW.ro R.1.refs.length aW.rc, .slice aW.tq R.1.table.length aW.tc, .slice aW.so R.1.snaps.length aW.sc, .slice aW.dq R.1.data.length aW.dc] 29)))
  clear hoW hb3 HB2 HC2 HV2 HI2 HV3
  go_upto_region 6 with fail
  revert HVA3
  revert HC3
  revert HB3
  revert HNW
  generalize (w3.alloc _) = W3
  generalize w3.heap.size = pW
  intro HNW HB3 HC3 HVA3
  -- the argument's copy
  obtain ⟨c0, c1, c2, c3⟩ := (unhide HVA3).cells
  go_wp2_with fail
  refine (toImage_B a m _ (unhide HBD) (unhide HC3)).mono ?_
  rintro e w4 ⟨aX, tsX, rfl, hoX, hb4⟩
  have HNW4 := hide ((unhide HNW).below (fr hb4 (Joins.below_alloc1 w4 (.cells #[.slice aX.ro m.refs.length aX.rc, .slice aX.tq m.table.length aX.tc, .slice aX.so m.snaps.length aX.sc, .slice aX.dq m.data.length aX.dc] 29))))
  have HNX4 := hide (LwV.new w4 aX m hoX hb4.size)
  have HB4 := hide (fr (fr (unhide HB3) hb4) (Joins.below_alloc1 w4 (.cells #[.slice aX.ro m.refs.length aX.rc, .slice aX.tq m.table.length aX.tc, .slice aX.so m.snaps.length aX.sc, .slice aX.dq m.data.length aX.dc] 29)))
  have HC4 := hide ((unhide HC3).below (fr hb4 (Joins.below_alloc1 w4 (.cells #[.slice aX.ro m.refs.length aX.rc, .slice aX.tq m.table.length aX.tc, .slice aX.so m.snaps.length aX.sc, .slice aX.dq m.data.length aX.dc] 29))))
  have HVA4 := hide ((unhide HVA3).below (fr hb4 (Joins.below_alloc1 w4 (.cells #[.slice aX.ro m.refs.length aX.rc, .slice aX.tq m.table.length aX.tc, .slice aX.so m.snaps.length aX.sc, .slice aX.dq m.data.length aX.dc] 29))))
  have HWX : Hid (∀ g, ImB aW R.1 tsW g → g < W3.heap.size) := hide (fun g hg => ((unhide HNW).o.ge g hg).2)
  have HSL : Hid (w.heap.size ≤ W3.heap.size) := hide (unhide HB3).size
  clear hoX hb4 c0 c1 c2 c3 HNW HB3 HC3 HVA3
  generalize W3.heap.size = n1 at *
  go_upto_region 7 with fail
  revert HVA4
  revert HC4
  revert HB4
  revert HNX4
  revert HNW4
  generalize (w4.alloc _) = W4
  generalize w4.heap.size = pX
  intro HNW4 HNX4 HB4 HC4 HVA4
  -- the program's answer
  obtain ⟨c0, c1, c2, c3⟩ := (unhide HNX4).v.cells
  go_wp2_with fail
  refine (unhide HIM aX _ ((unhide HNX4).o.shows (unhide HZ))).mono ?_
  rintro e w5 ⟨aG, tsG, rfl, hoG, hb5⟩
  have HB5' := hide (fr hb5 (Joins.below_alloc1 w5 (.cells #[.slice aG.ro R.1.refs.length aG.rc, .slice aG.tq R.1.table.length aG.tc, .slice aG.so R.1.snaps.length aG.sc, .slice aG.dq R.1.data.length aG.dc] 29)))
  have HNW5 := hide ((unhide HNW4).below (unhide HB5'))
  have HNX5 := hide ((unhide HNX4).below (unhide HB5'))
  have HNG5 := hide (LwV.new w5 aG R.1 hoG hb5.size)
  have HB5 := hide (fr (unhide HB4) (unhide HB5'))
  have HC5 := hide ((unhide HC4).below (unhide HB5'))
  have HVA5 := hide ((unhide HVA4).below (unhide HB5'))
  have HXG : Hid (∀ g, ImB aX m tsX g → g < W4.heap.size) := hide (fun g hg => ((unhide HNX4).o.ge g hg).2)
  have HN12 : Hid (n1 ≤ W4.heap.size) := hide (unhide HNX4).n
  clear hoG hb5 c0 c1 c2 c3 HNW4 HNX4 HB4 HC4 HVA4
  generalize W4.heap.size = n2 at *
  go_upto_region 8 with fail
  clear HB5'
  revert HVA5
  revert HC5
  revert HB5
  revert HNG5
  revert HNX5
  revert HNW5
  generalize (w5.alloc _) = W5
  generalize w5.heap.size = pG
  intro HNW5 HNX5 HNG5 HB5 HC5 HVA5
  have HRZ : Hid (ImBd R.1) := HRD
  have HRS := hide (unhide HRD).zs
  have bcc : (R.2 != R.2) = false := by simp
  obtain ⟨c0, c1, c2, c3⟩ := (unhide HNG5).v.cells
  obtain ⟨d0, d1, d2, d3⟩ := (unhide HNW5).v.cells
  go_wp2_with fail
  refine (eqImage_B aG aW R.1 _ (unhide HRD) ((unhide HNG5).o.shows (unhide HRS)) ((unhide HNW5).o.shows (unhide HRS))).mono ?_
  rintro e w6 ⟨rfl, hb⟩
  have HNW6 := hide ((unhide HNW5).below hb)
  have HNX6 := hide ((unhide HNX5).below hb)
  have HNG6 := hide ((unhide HNG5).below hb)
  have HB6 := hide (fr (unhide HB5) hb)
  have HC6 := hide ((unhide HC5).below hb)
  have HVA6 := hide ((unhide HVA5).below hb)
  clear hb c0 c1 c2 c3 d0 d1 d2 d3 HNW5 HNX5 HNG5 HB5 HC5 HVA5
  go_upto_region 10 with fail
  refine lqFrResizeImage_region (fun d wz r45 r46 r47 r48 r49 => LqJResizeImage w6 (imV aX m) (imV a m) m d wz r45 r46 r47 r48 r49) (by kernel_rfl) (by kernel_rfl) (noG_spec (by kernel_rfl)) ?h0 ?hs ?he
  case h0 => exact ⟨(Below.refl _ w6).drew, fun h => (by cases h), fun h => (by cases h), fun h => (by cases h), fun h => (by cases h), fun h => (by cases h)⟩
  case hs =>
    intro d wz i o r45 r46 r47 r48 r49 hc I ho hd hp K hK
    obtain ⟨k0, k1, k2, k3⟩ := ((unhide HNX6).v.below I.bw).cells
    obtain ⟨l0, l1, l2, l3⟩ := ((unhide HVA6).below I.bw).cells
    have hi : i < 5 := (List.getElem?_eq_some_iff.1 ho).1
    rcases (show i = 0 ∨ i = 1 ∨ i = 2 ∨ i = 3 ∨ i = 4 by omega) with rfl | rfl | rfl | rfl | rfl
    · cases ho
      unfold Oper.wp
      go_simp
      exact hK _ _ _ _ _ _ (I.s0 hd rfl)
    · cases ho
      unfold Oper.wp
      go_simp
      exact hK _ _ _ _ _ _ (I.s1 hd rfl)
    · cases ho
      have e1 := I.f1 (hp ⟨1, .data⟩ (by simp) rfl)
      subst e1
      unfold Oper.wp
      go_simp
      refine (toImage_B a m _ (unhide HBD) ((unhide HC6).below I.bw)).mono ?_
      rintro e w2 ⟨a1, ts, rfl, ho1, hb1⟩
      exact hK _ _ _ _ _ _ (I.s2 hd hb1 rfl (ho1.base I.bw.size))
    · cases ho
      have e0 := I.f0 (hp ⟨0, .data⟩ (by simp) rfl)
      subst e0
      obtain ⟨a1, ts, e2, ho1⟩ := I.p2 (hp ⟨2, .data⟩ (by simp) rfl)
      subst e2
      unfold Oper.wp
      go_simp
      refine (eqImage_B aX a1 m _ (unhide HBD) (((unhide HNX6).below I.bw).o.shows (unhide HZ)) (ho1.shows (unhide HZ))).mono ?_
      rintro e w2 ⟨rfl, hb1⟩
      exact hK _ _ _ _ _ _ ((I.grow hb1).s3 hd rfl)
    · cases ho
      have e3 := I.f3 (hp ⟨3, .data⟩ (by simp) rfl)
      subst e3
      unfold Oper.wp
      go_simp
      exact hK _ _ _ _ _ _ (I.s4 hd rfl)
  case he =>
    intro d w7 r45 r46 r47 r48 r49 I hall
    have e4 := I.f4 (hall 4 (by decide))
    subst e4
    have hb := I.bw
    have HNW7 := hide ((unhide HNW6).below hb)
    have HNX7 := hide ((unhide HNX6).below hb)
    have HNG7 := hide ((unhide HNG6).below hb)
    have HB7 := hide (fr (unhide HB6) hb)
    have HC7 := hide ((unhide HC6).below hb)
    have HVA7 := hide ((unhide HVA6).below hb)
    clear hb I hall HNW6 HNX6 HNG6 HB6 HC6 HVA6
    obtain ⟨c0, c1, c2, c3⟩ := (unhide HNX7).v.cells
    go_wp2_with fail
    refine (markImage_B aX m tsX _ _ (unhide HBD) (unhide HNX7).o).mono ?_
    rintro e w8 ⟨rfl, _, hk8⟩
    have HNW8 := hide ((unhide HNW7).keep (unhide HNX7) hk8 (fun g h1 h2 => by have := unhide HWX g h1; have := ((unhide HNX7).o.ge g h2).1; omega))
    have HNG8 := hide ((unhide HNG7).keep (unhide HNX7) hk8 (fun g h1 h2 => by have := unhide HXG g h2; have := ((unhide HNG7).o.ge g h1).1; omega))
    have HB8 := hide ((unhide HB7).trans (hk8.below (unhide HB7).size (fun g hg => by have := ((unhide HNX7).o.ge g hg).1; have := unhide HSL; omega)))
    have HLT8 : Hid (∀ g, ImB aX m tsX g → w.heap.size ≤ g) := hide (fun g hg => by have := ((unhide HNX7).o.ge g hg).1; have := unhide HSL; omega)
    have HC8 := hide ((unhide HCW).below (unhide HB8))
    have HVA8 : Hid (VarM w8 w.heap.size 25 (.slice a.ro m.refs.length a.rc) (.slice a.tq m.table.length a.tc) (.slice a.so m.snaps.length a.sc) (.slice a.dq m.data.length a.dc)) := hide ((hk8.block w.heap.size (unhide HVA7).lt (OwnIm.otherL (unhide HNX7).o (unhide HVA7))).trans (unhide HVA7))
    clear hk8 c0 c1 c2 c3 HNW7 HNX7 HNG7 HB7 HC7 HVA7
    have hk1 : ¬ (((1 + imK m : Nat) : Int) < 0) := by omega
    obtain ⟨c0, c1, c2, c3⟩ := (unhide HNG8).v.cells
    obtain ⟨d0, d1, d2, d3⟩ := (unhide HNW8).v.cells
    go_wp2_with fail
    refine (eqImage_B aG aW R.1 _ (unhide HRD) ((unhide HNG8).o.shows (unhide HRS)) ((unhide HNW8).o.shows (unhide HRS))).mono ?_
    rintro e w9 ⟨rfl, hb⟩
    have HNW9 := hide ((unhide HNW8).below hb)
    have HNG9 := hide ((unhide HNG8).below hb)
    have HB9 := hide (fr (unhide HB8) hb)
    have HC9 := hide ((unhide HC8).below hb)
    have HVA9 := hide ((unhide HVA8).below hb)
    clear hb c0 c1 c2 c3 d0 d1 d2 d3 HNW8 HNG8 HB8 HC8 HVA8
    obtain ⟨c0, c1, c2, c3⟩ := (unhide HNG9).v.cells
    go_wp2_with fail
    refine (markImage_B aG R.1 tsG _ _ (unhide HRD) (unhide HNG9).o).mono ?_
    rintro e w10 ⟨rfl, ho10, hk10⟩
    have HNW10 := hide ((unhide HNW9).keep (unhide HNG9) hk10 (fun g h1 h2 => by have := unhide HWX g h1; have := ((unhide HNG9).o.ge g h2).1; have := unhide HN12; omega))
    have HGV10 := hide ((unhide HNG9).v.keepIm (unhide HNG9).o hk10)
    have HGO10 := hide ho10
    have HB10 := hide ((unhide HB9).trans (hk10.below (unhide HB9).size (fun g hg => by have := ((unhide HNG9).o.ge g hg).1; have := unhide HSL; have := unhide HN12; omega)))
    have HC10 := hide ((unhide HCW).below (unhide HB10))
    have HVA10 : Hid (VarM w10 w.heap.size 25 (.slice a.ro m.refs.length a.rc) (.slice a.tq m.table.length a.tc) (.slice a.so m.snaps.length a.sc) (.slice a.dq m.data.length a.dc)) := hide ((hk10.block w.heap.size (unhide HVA9).lt (OwnIm.otherL (unhide HNG9).o (unhide HVA9))).trans (unhide HVA9))
    clear ho10 hk10 c0 c1 c2 c3 HNW9 HNG9 HB9 HC9 HVA9
    obtain ⟨c0, c1, c2, c3⟩ := (unhide HGV10).cells
    go_wp2_with fail
    refine (heldImage_B aG R.1 tsG _ _ (unhide HRD) (unhide HGO10)).mono ?_
    rintro e w11 ⟨rfl, hb⟩
    have HNW11 := hide ((unhide HNW10).below hb)
    have HGV11 := hide ((unhide HGV10).below hb)
    have HGO11 := hide ((unhide HGO10).below hb)
    have HB11 := hide (fr (unhide HB10) hb)
    have HC11 := hide ((unhide HC10).below hb)
    have HVA11 := hide ((unhide HVA10).below hb)
    clear hb c0 c1 c2 c3 HNW10 HGV10 HGO10 HB10 HC10 HVA10
    have hq1 : ¬ (((1 + imK R.1 : Nat) : Int) < 0) := by omega
    obtain ⟨c0, c1, c2, c3⟩ := (unhide HVA11).cells
    go_wp2_with fail
    refine (toImage_B a m _ (unhide HBD) (unhide HC11)).mono ?_
    rintro e w12 ⟨a12, ts12, rfl, ho12, hb⟩
    have HI12 := hide (ho12.shows (unhide HZ))
    have HNW12 := hide ((unhide HNW11).below hb)
    have HGV12 := hide ((unhide HGV11).below hb)
    have HGO12 := hide ((unhide HGO11).below hb)
    have HB12 := hide (fr (unhide HB11) hb)
    clear hb ho12 c0 c1 c2 c3 HNW11 HGV11 HGO11 HB11 HC11 HVA11
    go_wp2_with fail
    refine (unhide HIM a12 _ (unhide HI12)).mono ?_
    rintro e w13 ⟨aH, tsH, rfl, hoH, hb⟩
    have HBa := hide (fr hb (Joins.below_alloc1 w13 (.cells #[.slice aH.ro R.1.refs.length aH.rc, .slice aH.tq R.1.table.length aH.tc, .slice aH.so R.1.snaps.length aH.sc, .slice aH.dq R.1.data.length aH.dc] 29)))
    have HNH := hide (LwV.new w13 aH R.1 hoH hb.size)
    have HNW13 := hide ((unhide HNW12).below (unhide HBa))
    have HGV13 := hide ((unhide HGV12).below (unhide HBa))
    have HGO13 := hide ((unhide HGO12).below (unhide HBa))
    have HB13 := hide (fr (unhide HB12) (unhide HBa))
    clear hb hoH HNW12 HGV12 HGO12 HB12 HI12
    go_upto_region 25 with fail
    clear HBa
    revert HB13
    revert HGO13
    revert HGV13
    revert HNW13
    revert HNH
    generalize (w13.alloc _) = W13
    generalize w13.heap.size = pH
    intro HNH HNW13 HGV13 HGO13 HB13
    obtain ⟨c0, c1, c2, c3⟩ := (unhide HNH).v.cells
    obtain ⟨d0, d1, d2, d3⟩ := (unhide HNW13).v.cells
    go_wp2_with fail
    refine (eqImage_B aH aW R.1 _ (unhide HRD) ((unhide HNH).o.shows (unhide HRS)) ((unhide HNW13).o.shows (unhide HRS))).mono ?_
    rintro e w14 ⟨rfl, hb⟩
    have HGV14 := hide ((unhide HGV13).below hb)
    have HGO14 := hide ((unhide HGO13).below hb)
    have HB14 := hide (fr (unhide HB13) hb)
    clear hb c0 c1 c2 c3 d0 d1 d2 d3 HNH HNW13 HGV13 HGO13 HB13
    obtain ⟨c0, c1, c2, c3⟩ := (unhide HGV14).cells
    go_wp2_with fail
    refine (heldImage_B aG R.1 tsG _ _ (unhide HRD) (unhide HGO14)).mono ?_
    rintro e w15 ⟨rfl, hb⟩
    have HB15 := hide (fr (unhide HB14) hb)
    clear hb c0 c1 c2 c3
    go_wp2
    go_ret
    exact ⟨rfl, unhide HB15⟩

end Go.Proofs.Ytjoafbkcnnhdiab

namespace Go.Proofs.Ytjoafbkcnnhdiab
open Go.RowKit
set_option linter.unusedVariables false
set_option maxRecDepth 100000

section
variable {P : Program}

theorem run_copy_whole (w : World) (dT sT ty elem : TypeId) (size g n dCap : Nat) (a : Addr) (sCap : Nat) (cur : Array Value) (t : TypeId) (cs : List Value)
    (hu : P.underlying dT = some (.slice elem)) (hs : (P.info? elem).map (·.size) = some size)
    (hg : w.heap[g]? = some (.cells cur t (0, 0))) (hl : n * size = cs.length)
    (hsrc : ∀ j v, cs[j]? = some v → w.cell? (a.add j) = some v) (hfit : cs.length ≤ cur.size) (h1 : ∀ v ∈ cs, v.oneCell' = true) :
    (Builtin.copy_ #[dT, sT] ty #[.slice (some ⟨g, 0, none⟩) n dCap, .slice (some a) n sCap]).run P w = .ok (goInt n) (w.setRow g (cs ++ cur.toList.drop cs.length).toArray) := by
  have hld := run_loadCells_list (P := P) w a cs hsrc
  have hst := run_storeCells_at P g 0 t cs 0 cur w hg (by simpa using hfit) h1
  cases hq : P.info? elem with
  | none => simp [hq] at hs
  | some i =>
    have hi : i.size = size := by simpa [hq] using hs
    simp [Builtin.copy_, run_underlying hu, Builtin.lenOf, Builtin.firstCells, sizeOf, typeInfo, hq, hi, hl, hld, hst]

theorem wpList_copy_whole {w : World} {ops : Array Oper} {rest : List Oper} {o : Oper} {a : Act} {Q : Exit → Act → World → Prop} (hgd : o.guard = none) (d s : Operand) (dT sT : TypeId)
    (ho : o.op = .call { callee := .builtin .copy, args := #[d, s], argTypes := #[dT, sT] }) (elem : TypeId) (size : Nat) (hu : P.underlying dT = some (.slice elem)) (hsz : (P.info? elem).map (·.size) = some size)
    (B g n : Nat) (ad : Addr) (sCap : Nat) (hd : a.eval d = .slice (some ⟨g, 0, none⟩) n n) (hs : a.eval s = .slice (some ad) n sCap)
    (xs : List Value) (hown : w.ownsRow B elem size (.slice (some ⟨g, 0, none⟩) n n) n xs) (cs : List Value) (hn : cs.length = n * size)
    (hsrc : ∀ j v, cs[j]? = some v → w.cell? (ad.add j) = some v) (h1 : ∀ v ∈ cs, v.oneCell' = true)
    (h : ∀ w', w'.ownsRow B elem size (.slice (some ⟨g, 0, none⟩) n n) n cs → w.grownBy w' (some g) → wpList P ops Q rest (a.put o.dst (goInt n)) w') : wpList P ops Q (o :: rest) a w := by
  refine wpList_plain hgd fun K hK => ?_
  rcases hown.2 with ⟨e, _⟩ | ⟨g', cap', cur, e, hB, hg, hnc, hcm, hcs, ht⟩
  · simp at e
  · simp only [Value.slice.injEq, Option.some.injEq, Addr.mk.injEq, and_true, true_and] at e
    obtain ⟨rfl, rfl⟩ := e
    have hrun := run_copy_whole (P := P) w dT sT o.type elem size g n n ad sCap cur elem cs hu hsz hg hn.symm hsrc (by omega) h1
    unfold Oper.wp
    simp [execOp, ho, resolve, invoke, builtin, hd, hs, hrun, Result.andThen]
    refine hK _ _ (h _ ⟨hn, .inr ⟨g, n, _, rfl, hB, setRow_heap w g _ _ elem _ hg, hnc, hcm, ?_, ?_⟩⟩ ⟨rfl, rfl, rfl, by simp, fun k _ hk => setRow_other w g k _ (fun e => hk (by simp [e]))⟩)
    · simp; omega
    · rw [← hn]; simp
end

end Go.Proofs.Ytjoafbkcnnhdiab

namespace Go.Proofs.Ytjoafbkcnnhdiab
open Go.RowKit
set_option linter.unusedVariables false
set_option maxRecDepth 100000

set_option maxHeartbeats 800000 in
theorem tableOK_impl (ao : Option Addr) (cap : Nat) (xs : List Int) (w : World) (hl : xs.length ≤ maxLen) (hc : Is w ao xs) :
    Calls Try.prog 85 #[.slice ao xs.length cap] w fun e w' => e = .returned (.bool (tbB xs)) ∧ w' = w := by
  have HC := hide hc
  clear hc
  unfold maxLen at hl
  by_cases hlong : 12 < xs.length
  · have HF := hide (tbB_nolen (xs := xs) (by omega))
    go_enter Try.func85, Try.ntmps85
    go_wp2
    go_ret
    exact ⟨ret_bool (unhide HF).symm, rfl⟩
  go_enter Try.func85, Try.ntmps85
  go_wp2
  go_loop [10] (fun i => ∃ k : Nat, k ≤ xs.length ∧ i = .int .i64 k ∧ Hid (∀ j (h : j < xs.length), j < k → ent1 xs[j] = true)) (fun i => xs.length - (intOf i).toNat)
  case atStart => exact ⟨0, Nat.zero_le _, rfl, hide (fun j _ h => by omega)⟩
  case round =>
    obtain ⟨k, hk, rfl, HA⟩ := hrel
    by_cases hlt : k < xs.length
    · obtain ⟨b, off, rfl, hc⟩ := unhide HC k hlt
      by_cases hn : ent1 xs[k] = true
      · have HN := hide (all_succ hlt (unhide HA) hn)
        have hn' : betw xs[k] 0 25 = true := hn
        clear hn
        go_wp2_with (go_at_call 42; refine (within_any _ _ _ _).mono ?_; rintro e w' ⟨rfl, rfl⟩)
        go_round
        case rel => exact ⟨k + 1, by omega, by go_num, HN⟩
        case measure => simp [intOf]; omega
      · have hn0 : ent1 xs[k] = false := by simpa using hn
        have hn' : betw xs[k] 0 25 = false := hn0
        have HF := hide (tbB_noat hlt hn0)
        clear hn hn0
        go_wp2_with (go_at_call 42; refine (within_any _ _ _ _).mono ?_; rintro e w' ⟨rfl, rfl⟩)
        go_ret
        exact ⟨ret_bool (unhide HF).symm, rfl⟩
    · have HF := hide (tbB_of (xs := xs) (by omega) (fun j h => unhide HA j h (by omega)))
      go_wp2
      go_ret
      exact ⟨ret_bool (unhide HF).symm, rfl⟩

theorem tableFault_any (ao : Option Addr) (cap : Nat) (xs : List Int) (w : World) (hl : xs.length ≤ maxLen) (hc : Is w ao xs) :
    Calls Try.prog 70 #[.slice ao xs.length cap] w fun e w' => e = .returned (.int .i64 (tbF xs)) ∧ w' = w := by
  have HC := hide hc
  have HL := hide hl
  unfold maxLen at hl
  clear hc
  rcases tbF_cases xs with ⟨h1, h2⟩ | ⟨h1, hb, h2⟩ | ⟨hb, h2⟩
  · have HE := hide h2
    clear h2
    go_enter Try.func70, Try.ntmps70
    go_wp2
    go_ret
    exact ⟨ret_int (unhide HE).symm, rfl⟩
  · have HE := hide h2
    clear h2
    go_enter Try.func70, Try.ntmps70
    go_wp2_with (go_at_call 85; refine (tableOK_impl _ _ xs _ (unhide HL) (unhide HC)).mono ?_; rintro e w' ⟨rfl, hw⟩; replace hw := hw.symm; subst hw; rw [hb])
    go_ret
    exact ⟨ret_int (unhide HE).symm, rfl⟩
  · have HE := hide h2
    have h4 : ¬ (4096 : Int) < (xs.length : Int) := by have := tbB_len hb; omega
    clear h2
    go_enter Try.func70, Try.ntmps70
    go_wp2_with (go_at_call 85; refine (tableOK_impl _ _ xs _ (unhide HL) (unhide HC)).mono ?_; rintro e w' ⟨rfl, hw⟩; replace hw := hw.symm; subst hw; rw [hb])
    go_ret
    exact ⟨ret_int (unhide HE).symm, rfl⟩

theorem tbF_ne {xs : List Int} (h : tbF xs ≠ 0) : (tbF xs != 0) = true := by simpa using h

theorem splitEntry_any (n : Int) (w : World) (h0 : -1000 ≤ n) (h1 : n ≤ 1000) :
    Calls Try.prog 95 #[.int .i64 n] w fun e w' => e = .returned (.tuple #[.int .i64 (min n 2), .int .i64 (max 0 (n - 2))]) ∧ w' = w := by
  by_cases h : n < 2
  · have HM : Hid (n = min n 2 ∧ (0 : Int) = max 0 (n - 2)) := hide ⟨by omega, by omega⟩
    go_enter Try.func95, Try.ntmps95
    go_wp2
    go_ret2
    exact ⟨ret_two2 (unhide HM).1 (unhide HM).2, rfl⟩
  · have HM : Hid ((2 : Int) = min n 2 ∧ n - 2 = max 0 (n - 2)) := hide ⟨by omega, by omega⟩
    have hw2 : IntKind.i64.wrap (n - 2) = n - 2 := by rw [IntKind.wrap_i64]; omega
    go_enter Try.func95, Try.ntmps95
    go_wp2
    go_ret2
    exact ⟨ret_two2 (unhide HM).1 (unhide HM).2, rfl⟩

end Go.Proofs.Ytjoafbkcnnhdiab

namespace Go.Proofs.Ytjoafbkcnnhdiab
open Go.RowKit
set_option linter.unusedVariables false
set_option maxRecDepth 100000

theorem rz_splice (xs : List Int) (q : Nat) (M : List Value) (hM : M = List.replicate q (.int .i64 0)) : splice M 0 (intV (xs.take q)) = intV (rzTo xs q) := by
  subst hM
  apply List.ext_getElem?
  intro i
  unfold splice rzTo intV
  simp only [List.take_zero, List.nil_append, Nat.zero_add, List.length_map, List.length_take, List.getElem?_append, List.getElem?_map, List.getElem?_take, List.drop_replicate, List.getElem?_replicate, List.getD]
  by_cases hi : i < min q xs.length
  · have h1 : i < q := by omega
    have h2 : i < xs.length := by omega
    simp [hi, h1, h2]
  · by_cases hq : i < q
    · have h2 : ¬ i < xs.length := by omega
      simp [hi, hq, List.getElem?_eq_none (show xs.length ≤ i by omega)]
      omega
    · simp [hi, hq]
      omega
theorem sizeN1 : (Try.prog.info? 3).map (·.size) = some 1 := by kernel_rfl
theorem takeV_one (xs : List Int) : ∀ v ∈ intV xs, v.oneCell' = true := by
  intro v hv
  simp only [intV, List.mem_map] at hv
  obtain ⟨n, _, rfl⟩ := hv
  rfl

set_option maxHeartbeats 1600000 in
theorem resizeTable_impl (ao : Option Addr) (cap : Nat) (xs : List Int) (n : Int) (w : World) (hl : xs.length ≤ maxLen) (hc : Is w ao xs) :
    Calls Try.prog 48 #[.slice ao xs.length cap, .int .i64 n] w fun e w' => ∃ v, e = .returned (.tuple #[v, .int .i64 (rzF xs n)]) ∧ OwnN w' w.heap.size v (rzL xs n) ∧ Below w.heap.size w w' := by
  have HC := hide hc
  have HL := hide hl
  unfold maxLen at hl
  clear hc
  rcases rz_cases xs n with ⟨h0, h1, h2⟩ | ⟨hb, hg, h1, h2⟩ | ⟨hb, q, rfl, hq, h1, h2⟩
  · have HE := hide (And.intro h1 h2)
    have hne := tbF_ne h0
    clear h0 h1 h2
    go_enter Try.func48, Try.ntmps48
    go_wp2_with (go_at_call 70; refine (tableFault_any _ _ xs _ (unhide HL) (unhide HC)).mono ?_; rintro e w' ⟨rfl, hw⟩; replace hw := hw.symm; subst hw)
    go_ret2
    exact ⟨.slice none 0 0, ret_ni rfl (unhide HE).1.symm, by rw [(unhide HE).2]; exact OwnN.nil _ _ _, Below.refl _ _⟩
  · have HE := hide (And.intro h1 h2)
    have H0 := hide (tbF_ok hb)
    clear h1 h2
    go_enter Try.func48, Try.ntmps48
    go_wp2_with (first | (go_at_call 70; refine (tableFault_any _ _ xs _ (unhide HL) (unhide HC)).mono ?_; rintro e w' ⟨rfl, hw⟩; replace hw := hw.symm; subst hw; rw [unhide H0]) | (go_at_call 42; refine (within_any _ _ _ _).mono ?_; rintro e w' ⟨rfl, hw⟩; replace hw := hw.symm; subst hw; rw [hg]))
    go_ret2
    exact ⟨.slice none 0 0, ret_ni rfl (unhide HE).1.symm, by rw [(unhide HE).2]; exact OwnN.nil _ _ _, Below.refl _ _⟩
  · have HE := hide (And.intro h1 h2)
    have H0 := hide (tbF_ok hb)
    have HX := hide (tbB_len hb)
    have hg : betw (q : Int) 0 12 = true := betw_yes (by omega) (by omega)
    obtain ⟨i0, hi, hz0, hz1, hz2⟩ := info_parts infoM
    have HCS : Hid (0 < (intV (xs.take q)).length → ∃ ad, ao = some ad ∧ ad.block < w.heap.size ∧ ∀ j v, (intV (xs.take q))[j]? = some v → w.cell? (ad.add j) = some v) := hide (fun hp => by
      rw [intV_length, List.length_take] at hp
      obtain ⟨b, off, e, hc'⟩ := unhide HC 0 (by omega)
      refine ⟨_, e, World.block_lt_of_cell? _ _ hc', fun j v hv => ?_⟩
      have hj : j < min q xs.length := by have := (List.getElem?_eq_some_iff.1 hv).1; rwa [intV_length, List.length_take] at this
      obtain ⟨b2, off2, e2, hc2⟩ := unhide HC j (by omega)
      rw [e] at e2
      simp only [Option.some.injEq, Addr.mk.injEq, and_true] at e2
      obtain ⟨rfl, rfl⟩ := e2
      rw [intV_get (by rw [List.length_take]; omega), List.getElem_take] at hv
      cases hv
      rw [show Addr.add ⟨b, off, none⟩ j = ⟨b, off + j, none⟩ from by unfold Addr.add; split <;> simp_all]
      exact hc2)
    clear h1 h2
    go_enter Try.func48, Try.ntmps48
    go_wp2_with (first | (go_at_call 70; refine (tableFault_any _ _ xs _ (unhide HL) (unhide HC)).mono ?_; rintro e w' ⟨rfl, hw⟩; replace hw := hw.symm; subst hw; rw [unhide H0]) | (go_at_call 42; refine (within_any _ _ _ _).mono ?_; rintro e w' ⟨rfl, hw⟩; replace hw := hw.symm; subst hw; rw [hg]) | (at_make; refine wpList_make_full _ rfl _ _ 22 rfl w.heap.size 3 i0 _ 1 Try.underlying22 hi hz0 hz1 _ _ _ _ q rfl rfl rfl rfl ?c1 ?c2 ?c3 ?_))
    case c1 => rw [hz2]; omega
    case c2 => unfold maxLen; omega
    case c3 => exact Nat.le_refl _
    intro w1 hown hgrow
    have hB : Below w.heap.size w w1 := (Below.refl _ _).grown hgrow (Nat.le_refl _) (fun _ h => by cases h)
    obtain ⟨M, hM⟩ : ∃ M, M = (madeCells #[Value.int .i64 0] q).toList := ⟨_, rfl⟩
    rw [← hM] at hown
    have HM : Hid (M = List.replicate q (.int .i64 0)) := hide (by
      rw [hM]
      apply List.ext_getElem?
      intro i
      simp [madeCells, List.getElem?_replicate, Nat.mod_one]
      by_cases hi : i < q <;> simp [hi])
    have HB := hide hB
    have HG : Hid (w1.heap[w.heap.size]? = some (.cells M.toArray 3 (0, 0))) := hide (by
      rcases hown.2 with ⟨e, _⟩ | ⟨g', cap', cur, e, hB', hg', hnc, hcm, hcs, ht⟩
      · simp at e
      · simp only [Value.slice.injEq, Option.some.injEq, Addr.mk.injEq, and_true, true_and] at e
        obtain ⟨rfl, rfl⟩ := e
        rw [hg', ← ht, List.take_of_length_le (by simp [hcs])])
    have HLM : Hid (M.length = q) := hide (by rw [unhide HM]; simp)
    have HLT : Hid ((intV (xs.take q)).length = Nat.min xs.length q) := hide (by rw [intV_length, List.length_take, Nat.min_comm])
    have HO1 := hide (takeV_one (xs.take q))
    have HSP := hide (rz_splice xs q M (unhide HM))
    have HLZ := hide (rzTo_len xs q)
    clear hown hgrow hB hM HM
    generalize intV (xs.take q) = cs at *
    go_wp2_with (refine wpList_copy_splice rfl _ _ 22 22 rfl 3 Try.underlying22 sizeN1 _ _ q q xs.length cap rfl rfl w.heap.size 0 M 3 (unhide HG) cs (unhide HLT) (fun hp => ⟨rfl, (unhide HCS hp).imp fun ad h => ⟨h.1, fun j v hv => ((unhide HB).cell (by unfold Addr.add; split <;> exact h.2.1)).trans (h.2.2 j v hv)⟩⟩) (by rw [unhide HLT, unhide HLM, Nat.zero_add]; exact Nat.min_le_right _ _) (unhide HO1) w.heap.size w (unhide HB) (Nat.le_refl _) ?_; intro w2 hg2 hb2; have HB2 := hide hb2; have HG2 := hide (unhide hg2); clear hb2 hg2)
    go_ret2
    refine ⟨.slice (some ⟨w.heap.size, 0, none⟩) q q, ret_ni rfl (unhide HE).1.symm, ?_, unhide HB2⟩
    rw [(unhide HE).2]
    refine ⟨some ⟨w.heap.size, 0, none⟩, q, by rw [unhide HLZ], ?_⟩
    rw [unhide HLZ]
    by_cases h0 : q = 0
    · subst h0
      exact .inl ⟨rfl, by simp [rzTo, intV], _, rfl⟩
    · refine .inr ⟨by omega, ?_, .inr ⟨w.heap.size, q, _, rfl, Nat.le_refl _, unhide HG2, Nat.le_refl _, by unfold maxLen; omega, ?_, ?_⟩⟩
      · rw [intV_length, unhide HLZ]; omega
      · rw [unhide HSP]; simp [intV_length, unhide HLZ]
      · rw [unhide HSP, List.take_of_length_le (by simp [intV_length, unhide HLZ])]

end Go.Proofs.Ytjoafbkcnnhdiab

namespace Go.Proofs.Ytjoafbkcnnhdiab
open Go.RowKit Go.Maps
set_option linter.unusedVariables false
set_option maxRecDepth 100000

theorem lawI : Keyed Try.prog 3 := int_keyed Try.underlying3
theorem zeroI (w : World) : (zeroValue 3).run Try.prog w = .ok (.int .i64 0) w := by kernel_rfl
theorem wfI {n : Int} (h0 : -1000000 ≤ n) (h1 : n ≤ 1000000) : (Lit.int .i64 n).wf = true := WalkArith.wf_i64 (by omega)
theorem keyI {i : Nat} (h : i < 24) : keyOf Try.prog 3 (.int .i64 (i : Int)) = some (.int .i64 (i : Int)) := keyOf_int_mk Try.underlying3 (wfI (by omega) (by omega))
def MpC (w : World) (B n : Nat) (D : DataW Unit) (ns : List Int) : Prop := w.ownsMap Try.prog 3 (plainElem Try.prog 3) B n D ∧ ns.length = 24 ∧ (∀ i : Nat, i < 24 → D.atKey (.int .i64 (i : Int)) (.lit (.int .i64 0)) = .lit (.int .i64 (ns.getD i 0))) ∧ (∀ kl, has D kl = true → ∃ i : Nat, i < 24 ∧ kl = .int .i64 (i : Int))
theorem MpC.made (w : World) : MpC (w.alloc (.map #[] 0)) w.heap.size 0 (.map []) zero24 := ⟨World.ownsMap_made _ _ _ _, rfl, fun i hi => by
    have e : zero24.getD i 0 = 0 := by
      have h2 : ∀ i : Fin 24, zero24.getD i 0 = 0 := by decide
      exact h2 ⟨i, hi⟩
    rw [e]; rfl, fun kl h => by cases h⟩
theorem MpC.lt {w : World} {B n : Nat} {D : DataW Unit} {ns : List Int} (h : MpC w B n D ns) : B < w.heap.size := h.1.lt
theorem MpC.keep {S : Nat → Prop} {w w' : World} {B n : Nat} {D : DataW Unit} {ns : List Int} (h : MpC w B n D ns) (hk : Keep S w w') (hs : ¬ S B) : MpC w' B n D ns := by
  have hl := h.lt
  obtain ⟨⟨es, clock, hb, F, hn, hD⟩, h2⟩ := h
  exact ⟨⟨es, clock, (hk.block B hl hs).trans hb, F, hn, hD⟩, h2⟩
theorem MpC.below {w w' : World} {B n : Nat} {D : DataW Unit} {ns : List Int} (h : MpC w B n D ns) (hb : Below w.heap.size w w') : MpC w' B n D ns := h.keep (S := fun _ => False) (Keep.of_below hb) (fun h => h)
theorem MpC.mono {w : World} {B n n' : Nat} {D : DataW Unit} {ns : List Int} (h : MpC w B n D ns) (hn : n ≤ n') : MpC w B n' D ns := ⟨h.1.mono hn, h.2⟩
theorem keep_map {w w' : World} {B : Nat} (h : w.grownBy w' (some B)) : Keep (fun g => g = B) w w' := ⟨h.os, h.tape, h.output, h.size, fun k hk hs => h.block k hk (fun e => hs (Option.some.inj e))⟩
theorem MpC.put {w w' : World} {B n i : Nat} {D : DataW Unit} {ns : List Int} {c : Int} (h : MpC w B n D ns) (hi : i < 24) (ho : w'.ownsMap Try.prog 3 (plainElem Try.prog 3) B (n + 1) (D.put (.int .i64 (i : Int)) (.lit (.int .i64 c)))) : MpC w' B (n + 1) (D.put (.int .i64 (i : Int)) (.lit (.int .i64 c))) (ns.set i c) := by
  have hM : IsMap D := by obtain ⟨es, e, _⟩ := h.1.entries lawI; exact ⟨es, e⟩
  refine ⟨ho, by rw [List.length_set]; exact h.2.1, fun j hj => ?_, fun kl hk => ?_⟩
  · by_cases e : j = i
    · subst e
      rw [atKey_put_same (k := .int .i64 (j : Int)) hM trivial]
      simp [List.getD, h.2.1, hi]
    · rw [atKey_put_other (by intro h2; simp only [Lit.int.injEq, true_and] at h2; omega), h.2.2.1 j hj]
      simp [List.getD, Ne.symm e]
  · by_cases e : kl = .int .i64 (i : Int)
    · exact ⟨i, hi, e⟩
    · rw [has_put_other e] at hk
      exact h.2.2.2 kl hk
theorem MpC.look {w : World} {B n i : Nat} {D : DataW Unit} {ns : List Int} (h : MpC w B n D ns) (hi : i < 24) : (Instr.lookup 89 (.map (some B)) (.int .i64 (i : Int)) false).run Try.prog w = .ok (.int .i64 (ns.getD i 0)) w := by
  obtain ⟨c, hrun, hat, hwf⟩ := h.1.lookup_int lawI Try.underlying89 Try.underlying3 (zeroI _) (keyI hi)
  rw [h.2.2.1 i hi] at hat
  simp only [DataW.lit.injEq, Lit.int.injEq, true_and] at hat
  rw [hat]
  exact hrun
theorem fit_none : ∀ {clock : Nat}, Go.WideElems.Fit (H := Unit) Try.prog 3 (plainElem Try.prog 3) #[] clock := fun {clock} => ⟨by simp, MapKept.stamped_empty clock, by simp⟩
theorem MpC.clear {w : World} {B n : Nat} {D : DataW Unit} {ns : List Int} (h : MpC w B n D ns) (ty : TypeId) : ∃ w', (Builtin.clear_ #[89] ty #[.map (some B)]).run Try.prog w = .ok (.tuple #[]) w' ∧ MpC w' B 0 (.map []) zero24 ∧ Keep (fun g => g = B) w w' := by
  obtain ⟨⟨es, clock, hb, F, hn, hD⟩, h2⟩ := h
  refine ⟨ChangeMaps.setBlock w B (.map #[] clock), ?_, ⟨⟨#[], clock, ChangeMaps.heap_setBlock_same hb _, fit_none, Nat.le_refl _, rfl⟩, (MpC.made w).2⟩, ⟨rfl, rfl, rfl, by simp [ChangeMaps.setBlock], fun k _ hk => ChangeMaps.heap_setBlock_other hb _ hk⟩⟩
  simp [Builtin.clear_, run_underlying Try.underlying89, MapKept.run_getObj_map hb, MapKept.run_setObj_map _ hb, Result.andThen, ChangeMaps.setBlock]
theorem wpList_count {w : World} {ops : Array Oper} {rest : List Oper} {o : Oper} {a : Act} {Q : Exit → Act → World → Prop} (hg : o.guard = none) (m x v : Operand) (hop : o.op = Op.mapUpdate 89 m x v)
    {B n i : Nat} {D : DataW Unit} {ns : List Int} {c : Int} (hm : a.eval m = .map (some B)) (h : MpC w B n D ns) (hn : n < 1000000) (hx : a.eval x = .int .i64 (i : Int)) (hi : i < 24) (hv : a.eval v = .int .i64 c) (hc : -1000000 ≤ c ∧ c ≤ 1000000)
    (hK : ∀ w' D', MpC w' B (n + 1) D' (ns.set i c) → Keep (fun g => g = B) w w' → wpList Try.prog ops Q rest (a.put o.dst undef) w') : wpList Try.prog ops Q (o :: rest) a w :=
  wpList_mapUpdate_own w hg m x v 89 hop 3 3 lawI Try.underlying89 _ B n D hm h.1 (by unfold maxLen; omega) _ _ _ hx hv (keyI hi) _ [] (plainElem_int Try.underlying3 (wfI hc.1 hc.2)) (fun w' ho hg' => hK w' _ (h.put hi ho) (keep_map hg'))

theorem incr_get (ns : List Int) (hl : ns.length = 24) (c i : Nat) (hc : c < 24) (hi : i < 24) : (incr ns (c : Int)).getD i 0 = ns.getD i 0 + (if i = c then 1 else 0) := by
  rw [incr_set]
  simp only [List.getD, List.getElem?_set]
  by_cases e : i = c
  · subst e; simp [hl, hi]
  · simp [e, Ne.symm e]
theorem fold_incr_get (i : Nat) (hi : i < 24) : ∀ (L : List Int), (∀ c ∈ L, 0 ≤ c ∧ c ≤ 23) → ∀ ns : List Int, ns.length = 24 → (L.foldl incr ns).getD i 0 = ns.getD i 0 + (L.count (i : Int) : Int) := by
  intro L
  induction L with
  | nil => intro _ ns _; simp
  | cons c L ih =>
    intro hL ns hl
    obtain ⟨c0, c1⟩ := hL c (by simp)
    obtain ⟨q, rfl⟩ := Int.eq_ofNat_of_zero_le c0
    rw [List.foldl_cons, ih (fun d hd => hL d (by simp [hd])) _ (by rw [incr_len]; exact hl), incr_get ns hl q i (by omega) hi, List.count_cons]
    by_cases e : i = q
    · subst e; simp; omega
    · have e2 : ¬ ((q : Int) = (i : Int)) := by omega
      simp [e, e2]
theorem nodup_count : ∀ (L : List Int), L.Nodup ↔ ∀ x ∈ L, L.count x ≤ 1 := by
  intro L
  induction L with
  | nil => simp
  | cons c L ih =>
    rw [List.nodup_cons, ih]
    constructor
    · rintro ⟨h1, h2⟩ x hx
      rw [List.count_cons]
      by_cases e : c = x
      · subst e
        rw [List.count_eq_zero_of_not_mem h1]; simp
      · have : x ∈ L := by simpa [Ne.symm e] using hx
        have := h2 x this
        simp [e]; omega
    · intro h
      refine ⟨fun hm => ?_, fun x hx => ?_⟩
      · have h1 := h c (by simp)
        rw [List.count_cons] at h1
        have := List.count_pos_iff.2 hm
        simp at h1; omega
      · have h1 := h x (by simp [hx])
        rw [List.count_cons] at h1
        omega
theorem cl_mem {t : List Int} (h : tbB t = true) : ∀ c ∈ clA t, 0 ≤ c ∧ c ≤ 23 := fun c hc => by
  obtain ⟨j, hj, rfl⟩ := List.mem_iff_getElem.1 hc
  exact clA_in h j hj
theorem cnt1T_get {t : List Int} (h : tbB t = true) {ns : List Int} (hl : ns.length = 24) {i : Nat} (hi : i < 24) : (cnt1T ns t).getD i 0 = ns.getD i 0 + ((clA t).count (i : Int) : Int) := fold_incr_get i hi _ (cl_mem h) ns hl
theorem zero24_get {i : Nat} (hi : i < 24) : zero24.getD i 0 = 0 := by
  have h2 : ∀ i : Fin 24, zero24.getD i 0 = 0 := by decide
  exact h2 ⟨i, hi⟩
theorem once_yes {t : List Int} (h : tbB t = true) (hc : ∀ i, i < 24 → (cnt1T zero24 t).getD i 0 ≤ 1) : onceB t = true := by
  refine decide_eq_true ((nodup_count _).2 fun x hx => ?_)
  obtain ⟨c0, c1⟩ := cl_mem h x hx
  obtain ⟨q, rfl⟩ := Int.eq_ofNat_of_zero_le c0
  have := hc q (by omega)
  rw [cnt1T_get h rfl (by omega), zero24_get (by omega)] at this
  omega
theorem once_no {t : List Int} (h : tbB t = true) {i : Nat} (hi : i < 24) (hc : 1 < (cnt1T zero24 t).getD i 0) : onceB t = false := by
  refine decide_eq_false fun hn => ?_
  rw [cnt1T_get h rfl hi, zero24_get hi] at hc
  have hm : (i : Int) ∈ clA t := List.count_pos_iff.1 (by omega)
  have := (nodup_count _).1 hn _ hm
  omega

end Go.Proofs.Ytjoafbkcnnhdiab

namespace Go.Proofs.Ytjoafbkcnnhdiab
open Go.RowKit
set_option linter.unusedVariables false
set_option maxRecDepth 100000

theorem clusterOfData_any (k c : Int) (w : World) :
    Calls Try.prog 94 #[.int .i64 k, .int .i64 c] w fun e w' => e = .returned (.tuple #[.int .i64 c, .bool (k == 2)]) ∧ w' = w := by
  go_enter Try.func94, Try.ntmps94
  go_wp2
  go_ret2
  exact ⟨rfl, rfl⟩

set_option maxHeartbeats 1600000 in
theorem takeEntries_any (ao : Option Addr) (cap : Nat) (xs : List Int) (w : World) (hl : xs.length ≤ 1048576) (hi : ∀ j (h : j < xs.length), -1000 ≤ xs[j] ∧ xs[j] ≤ 1000) (hc : Is w ao xs) :
    Calls Try.prog 93 #[.slice ao xs.length cap, .func (.func 94) #[] #[]] w fun e w' => ∃ v, e = .returned v ∧ OwnN w' w.heap.size v (clA xs) ∧ Below w.heap.size w w' := by
  obtain ⟨j0, hj, hy0, hy1, hy2⟩ := info_parts infoM
  have HC := hide hc
  have HI := hide hi
  clear hc hi
  go_enter Try.func93, Try.ntmps93
  go_wp2
  go_loopw [5, 12] (fun o i wr => ∃ (k : Nat) (ys : List Int) (qo : Option Addr) (qa : Nat), k ≤ xs.length ∧ i = .int .i64 k ∧ o = .slice qo ys.length qa ∧ Hid (ys = clTo xs k) ∧ Hid (OwnR wr w.heap.size 3 1 (.slice qo ys.length qa) ys.length (intV ys)) ∧ Hid (Below w.heap.size w wr)) (fun _ i _ => xs.length - (intOf i).toNat)
  case atStart => exact ⟨0, [], _, _, Nat.zero_le _, rfl, rfl, hide rfl, hide (.inl ⟨rfl, rfl, _, rfl⟩), hide (Below.refl _ _)⟩
  case round =>
    obtain ⟨k, ys, qo, qa, hk, rfl, rfl, HE, HO, HB⟩ := hrel
    by_cases hlt : k < xs.length
    · obtain ⟨b, off, rfl, hcl⟩ := (unhide HC).below (unhide HB) k hlt
      have HIK := hide (unhide HI k hlt)
      by_cases h2 : 2 ≤ xs[k]
      · have HS := hide (clTo_data hlt h2)
        have HYL : Hid (ys.length ≤ 1048576) := hide (by rw [unhide HE]; have := clTo_len xs k; omega)
        have hyl := unhide HYL
        have HV : Hid (min xs[k] 2 = 2 ∧ max 0 (xs[k] - 2) = xs[k] - 2) := hide ⟨by omega, by omega⟩
        have HOA := hide ((unhide HO).below (Joins.below_alloc1 _ (.cells #[.int .i64 (xs[k] - 2)] 3)))
        have HBA := hide (fr (unhide HB) (Joins.below_alloc1 _ (.cells #[.int .i64 (xs[k] - 2)] 3)))
        have HSZ := hide (unhide HB).size
        clear h2
        go_wp2_with (first | (go_at_call 95; refine (splitEntry_any _ _ (by have := unhide HIK; omega) (by have := unhide HIK; omega)).mono ?_; rintro e w' ⟨rfl, hw⟩; replace hw := hw.symm; subst hw; rw [(unhide HV).1, (unhide HV).2]) | (go_at_call 94; refine (clusterOfData_any _ _ _).mono ?_; rintro e w' ⟨rfl, hw⟩; replace hw := hw.symm; subst hw) | (at_builtin; refine wpList_append_one rfl _ _ 22 rfl w.heap.size 3 j0 (.int .i64 0) 1 8 Try.underlying22 hj hy0 hy1 hy2 rfl (by omega) qo ys.length qa (intV ys) rfl (unhide HOA) (by have := unhide HSZ; simp; omega) ⟨wr.heap.size, 0, none⟩ _ [.int .i64 (xs[k] - 2)] rfl rfl (byte_news wr _ _) (int_one _) (by unfold maxLen; omega) (by omega) ?_; intro g2 cap2 wA hoA hkA; have HSF := hide (And.intro hoA (keep_below (unhide HBA) (unhide HOA) (Nat.le_refl _) hkA)); clear hoA hkA))
        go_roundw
        case rel => exact ⟨k + 1, ys ++ [xs[k] - 2], some ⟨g2, 0, none⟩, cap2, by omega, by go_num, by simp, hide (by rw [unhide HS, unhide HE]), hide (by rw [List.length_append, intV_snoc]; exact .inr ⟨by simp, (unhide HSF).1⟩), hide (unhide HSF).2⟩
        case measure => simp [intOf]; omega
      · have HS := hide (clTo_none hlt h2)
        have HV : Hid (min xs[k] 2 = xs[k] ∧ max 0 (xs[k] - 2) = 0) := hide ⟨by omega, by omega⟩
        have hb2 : (xs[k] == 2) = false := beq_eq_false_iff_ne.2 (by omega)
        clear h2
        go_wp2_with (first | (go_at_call 95; refine (splitEntry_any _ _ (by have := unhide HIK; omega) (by have := unhide HIK; omega)).mono ?_; rintro e w' ⟨rfl, hw⟩; replace hw := hw.symm; subst hw; rw [(unhide HV).1, (unhide HV).2]) | (go_at_call 94; refine (clusterOfData_any _ _ _).mono ?_; rintro e w' ⟨rfl, hw⟩; replace hw := hw.symm; subst hw; rw [hb2]))
        go_roundw
        case rel => exact ⟨k + 1, ys, qo, qa, by omega, by go_num, rfl, hide (by rw [unhide HS, unhide HE]), HO, HB⟩
        case measure => simp [intOf]; omega
    · have HS : Hid (clA xs = ys) := hide (by rw [unhide HE, clA, show k = xs.length by omega])
      go_wp2
      go_ret
      exact ⟨.slice qo ys.length qa, rfl, by rw [unhide HS]; exact ⟨qo, qa, rfl, unhide HO⟩, unhide HB⟩

end Go.Proofs.Ytjoafbkcnnhdiab
