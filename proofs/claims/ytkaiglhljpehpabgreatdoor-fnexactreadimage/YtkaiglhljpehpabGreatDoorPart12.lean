import Derived.Test.YtkaiglhljpehpabGreatDoorRows
import Derived.Test.YtkaiglhljpehpabGreatDoorPart7
import Derived.Test.YtkaiglhljpehpabGreatDoorImW
import Derived.Test.YtkaiglhljpehpabGreatDoorPart9
import Derived.Test.YtkaiglhljpehpabGreatDoorImY
import Derived.WalkKit
import Derived.WalkSpells
import Derived.LoopN
import Derived.Deep.RegionWith
import Derived.Test.YtkaiglhljpehpabGreatDoorPart1
import Derived.Test.YtkaiglhljpehpabGreatDoorPart2
import Derived.Test.YtkaiglhljpehpabGreatDoorPart3
import Derived.Test.YtkaiglhljpehpabGreatDoorPart4
import Derived.Test.YtkaiglhljpehpabGreatDoorPart5
import Derived.Test.YtkaiglhljpehpabGreatDoorPart6
import Derived.BigQuiet
import Derived.Deep.QuietTactic

/- Contract of the model's l10Own: an image as it was, in new memory. (Made ahead of stage 10.) -/
namespace Go.Proofs.YtkaiglhljpehpabGreatDoor
open Go.RowKit
set_option linter.unusedVariables false
set_option maxRecDepth 100000

theorem wp_append_fresh {P : Program} {o : Oper} {a : Act} {w : World} {K : Act → World → Prop} {Q : Exit → Act → World → Prop}
    (hg : o.guard = none) (s x : Operand) (t : TypeId) (hop : o.op = Op.call { callee := Callee.builtin Builtin.append, args := #[s, x], argTypes := #[t, t] })
    (e : TypeId) (i : TypeInfo) (z : Value) (size bytes : Nat) (h1 : P.underlying t = some (.slice e)) (h2 : P.info? e = some i) (h3 : i.zero = some z) (h4 : i.size = size) (h5 : i.bytes = bytes) (h6 : z.cells.size = size) (h7 : 0 < size)
    (hs0 : isFresh (a.eval s) = true) (so : Option Addr) (m c : Nat) (news : List Value) (hx : a.eval x = .slice so m c) (hn : news.length = m * size)
    (hc : 0 < m → ∃ ad, so = some ad ∧ ∀ j u, news[j]? = some u → w.cell? (ad.add j) = some u) (b1 : m ≤ maxLen) (b2 : m * bytes ≤ 140737488355328)
    (hK : ∀ ao cap w', OwnR w' w.heap.size e size (.slice ao m cap) m news → w.grownBy w' none → K (a.put o.dst (.slice ao m cap)) w') : o.wp P a w K Q := by
  have := step_append_fresh (P := P) (ops := #[]) (o := o) (a := a) (w := w) (K := K) (Q := Q) (E := True) hg s x t hop e i z size bytes h1 h2 h3 h4 h5 h6 h7 hs0 so m c news hx hn hc b1 b2 hK
  rwa [if_pos (by simp [Region.wanted, hg])] at this

theorem snap_news {w : World} {g : Nat} {n : ByteArray} {v : Value} {t : TypeId} (h : w.heap[g]? = some (.cells #[.string n, v] t (0, 0))) : ∀ j u, [Value.string n, v][j]? = some u → w.cell? ((⟨g, 0, none⟩ : Addr).add j) = some u := by
  intro j u hu
  have hj : j < 2 := (List.getElem?_eq_some_iff.1 hu).1
  rcases (show j = 0 ∨ j = 1 by omega) with rfl | rfl
  · simp at hu
    subst hu
    rw [show (⟨g, 0, none⟩ : Addr).add 0 = ⟨g, 0, none⟩ from rfl, Joins.cell_of_block h]; rfl
  · simp at hu
    subst hu
    rw [show (⟨g, 0, none⟩ : Addr).add 1 = ⟨g, 1, none⟩ from rfl, Joins.cell_of_block h]; rfl
theorem snap_one (n : ByteArray) (q : Option Addr) (l c : Nat) : ∀ u ∈ [Value.string n, .slice q l c], u.oneCell' = true := by
  intro u hu
  simp at hu
  rcases hu with rfl | rfl <;> rfl
theorem wp_append_one {P : Program} {w : World} {o : Oper} {a : Act} {K : Act → World → Prop} {Q : Exit → Act → World → Prop} (hgd : o.guard = none) (s x : Operand) (t : TypeId)
    (ho : o.op = .call { callee := .builtin .append, args := #[s, x], argTypes := #[t, t] })
    (B : Nat) (e : TypeId) (i : TypeInfo) (z : Value) (size bytes : Nat) (ht : P.underlying t = some (.slice e)) (hi : P.info? e = some i) (hz : i.zero = some z)
    (hsize : i.size = size) (hby : i.bytes = bytes) (hzs : z.cells.size = size) (hsz : 0 < size)
    (qo : Option Addr) (n cap : Nat) (xs : List Value) (hs : a.eval s = .slice qo n cap) (h : OwnR w B e size (.slice qo n cap) n xs) (hB : B ≤ w.heap.size)
    (ad : Addr) (c : Nat) (news : List Value) (hx : a.eval x = .slice (some ad) 1 c) (hl : news.length = size) (hnews : ∀ j u, news[j]? = some u → w.cell? (ad.add j) = some u) (h1 : ∀ u ∈ news, u.oneCell' = true)
    (b1 : n + 1 ≤ maxLen) (b2 : (n + 1) * bytes ≤ 140737488355328)
    (hK : ∀ g cap' w', w'.ownsRow B e size (.slice (some ⟨g, 0, none⟩) (n + 1) cap') (n + 1) (xs ++ news) → Keep (Own (.slice qo n cap)) w w' → K (a.put o.dst (.slice (some ⟨g, 0, none⟩) (n + 1) cap')) w') : o.wp P a w K Q := by
  have := step_append_one (P := P) (ops := #[]) (o := o) (a := a) (w := w) (K := K) (Q := Q) (E := True) hgd s x t ho B e i z size bytes ht hi hz hsize hby hzs hsz qo n cap xs hs h hB ad c news hx hl hnews h1 b1 b2 hK
  rwa [if_pos (by simp [Region.wanted, hgd])] at this

end Go.Proofs.YtkaiglhljpehpabGreatDoor

/- An owned image in a variable, the result's variable beside it; l10Write of the model. (Made ahead of stage 10.) -/
namespace Go.Proofs.YtkaiglhljpehpabGreatDoor
open Go.RowKit
set_option linter.unusedVariables false
set_option maxRecDepth 100000

/-- An image of the call's own in a variable, its lists as long as another's; the result's variable beside it. -/
structure ImQ (w W : World) (B : Nat) (a : Im4) (m0 m : Img) (ts : List Value) : Prop where
  v : VarM W w.heap.size 30 (.slice a.ro m0.refs.length a.rc) (.slice a.tq m0.table.length a.tc) (.slice a.so m0.snaps.length a.sc) (.slice a.dq m0.data.length a.dc)
  r : VarM W (w.heap.size + 1) 30 (.slice none 0 0) (.slice none 0 0) (.slice none 0 0) (.slice none 0 0)
  o : OwnIm W B a m ts
  b : Below w.heap.size w W
  hB : w.heap.size + 2 ≤ B
  e1 : m.refs.length = m0.refs.length
  e2 : m.table.length = m0.table.length
  e3 : m.snaps.length = m0.snaps.length
  e4 : m.data.length = m0.data.length
theorem ImQ.val {w W : World} {B : Nat} {a : Im4} {m0 m : Img} {ts : List Value} (h : ImQ w W B a m0 m ts) : imV a m0 = imV a m := by rw [imV, imV, h.e1, h.e2, h.e3, h.e4]

/-- The world behind an image's being put into a variable. -/
abbrev putI (W : World) (x : Nat) (a : Im4) (m : Img) : World := (((W.setCell ⟨x, 0, none⟩ (.slice a.ro m.refs.length a.rc)).setCell ⟨x, 1, none⟩ (.slice a.tq m.table.length a.tc)).setCell ⟨x, 2, none⟩ (.slice a.so m.snaps.length a.sc)).setCell ⟨x, 3, none⟩ (.slice a.dq m.data.length a.dc)
theorem ImQ.put {w W : World} {B : Nat} {v0 v1 v2 v3 : Value} {a : Im4} {m0 m : Img} {ts : List Value} (hv : VarM W w.heap.size 30 v0 v1 v2 v3) (hr : VarM W (w.heap.size + 1) 30 (.slice none 0 0) (.slice none 0 0) (.slice none 0 0) (.slice none 0 0)) (ho : OwnIm W B a m ts) (hb : Below w.heap.size w W) (hB : w.heap.size + 2 ≤ B) (e1 : m.refs.length = m0.refs.length) (e2 : m.table.length = m0.table.length) (e3 : m.snaps.length = m0.snaps.length) (e4 : m.data.length = m0.data.length) : ImQ w (putI W w.heap.size a m0) B a m0 m ts := by
  obtain ⟨h1, h2, h3⟩ := ImSt.put hv ho hb (Nat.le_refl _) (by omega) a m0
  exact ⟨h1, (((hr.other (p := ⟨w.heap.size, 0, none⟩) (by simp) _).other (p := ⟨w.heap.size, 1, none⟩) (by simp) _).other (p := ⟨w.heap.size, 2, none⟩) (by simp) _).other (p := ⟨w.heap.size, 3, none⟩) (by simp) _, h2, h3, hB, e1, e2, e3, e4⟩
theorem ImQ.again {w W : World} {B : Nat} {a : Im4} {m0 m : Img} {ts : List Value} (h : ImQ w W B a m0 m ts) : ImQ w (putI W w.heap.size a m0) B a m0 m ts := ImQ.put h.v h.r h.o h.b h.hB h.e1 h.e2 h.e3 h.e4
theorem ImQ.fin {w W : World} {B : Nat} {a : Im4} {m0 m : Img} {ts : List Value} (h : ImQ w W B a m0 m ts) : VarM (putI W (w.heap.size + 1) a m0) (w.heap.size + 1) 30 (.slice a.ro m0.refs.length a.rc) (.slice a.tq m0.table.length a.tc) (.slice a.so m0.snaps.length a.sc) (.slice a.dq m0.data.length a.dc) ∧ OwnIm (putI W (w.heap.size + 1) a m0) w.heap.size a m ts ∧ Below w.heap.size w (putI W (w.heap.size + 1) a m0) := by
  obtain ⟨h1, h2, h3⟩ := ImSt.put h.r h.o h.b (Nat.le_succ _) (by have := h.hB; omega) a m0
  exact ⟨h1, h2.base (by have := h.hB; omega), h3⟩
theorem ImQ.turn {w W W' : World} {B : Nat} {a : Im4} {m0 m m' : Img} {ts : List Value} (h : ImQ w W B a m0 m ts) (hk : Keep (ImB a m ts) W W') (ho : OwnIm W' B a m' ts) (e1 : m'.refs.length = m.refs.length) (e2 : m'.table.length = m.table.length) (e3 : m'.snaps.length = m.snaps.length) (e4 : m'.data.length = m.data.length) : ImQ w W' B a m0 m' ts :=
  ⟨h.v.keepIm h.o hk, h.r.keepIm h.o hk, ho, h.b.trans (hk.below h.b.size (fun g hg => by have := (h.o.ge g hg).1; have := h.hB; omega)), h.hB, e1.trans h.e1, e2.trans h.e2, e3.trans h.e3, e4.trans h.e4⟩
theorem ImQ.setR {w W : World} {B c : Nat} {a : Im4} {m0 m : Img} {ts : List Value} (h : ImQ w W B a m0 m ts) (hc : c < m.refs.length) : ∃ g, a.ro = some ⟨g, 0, none⟩ ∧ W.cell? ⟨g, c, none⟩ = some (.int .i64 m.refs[c]) ∧ W.frozen? ⟨g, c, none⟩ = false ∧ ∀ y, ImQ w (W.setCell ⟨g, c, none⟩ (.int .i64 y)) B a m0 { m with refs := m.refs.set c y } ts := by
  obtain ⟨g, e, h1, h2, h3, h4⟩ := h.o.setR hc
  exact ⟨g, e, h1, h2, fun y => h.turn ((Keep.refl _ W).setCell (p := ⟨g, c, none⟩) h3 _) (h4 y) (by simp) rfl rfl rfl⟩
theorem ImQ.setT {w W : World} {B c : Nat} {a : Im4} {m0 m : Img} {ts : List Value} (h : ImQ w W B a m0 m ts) (hc : c < m.table.length) : ∃ g, a.tq = some ⟨g, 0, none⟩ ∧ W.cell? ⟨g, c, none⟩ = some (.int .i64 m.table[c]) ∧ W.frozen? ⟨g, c, none⟩ = false ∧ ∀ y, ImQ w (W.setCell ⟨g, c, none⟩ (.int .i64 y)) B a m0 { m with table := m.table.set c y } ts := by
  obtain ⟨g, e, h1, h2, h3, h4⟩ := h.o.setT hc
  exact ⟨g, e, h1, h2, fun y => h.turn ((Keep.refl _ W).setCell (p := ⟨g, c, none⟩) h3 _) (h4 y) rfl (by simp) rfl rfl⟩
theorem ImQ.setD {w W : World} {B c : Nat} {a : Im4} {m0 m : Img} {ts : List Value} (h : ImQ w W B a m0 m ts) (hc : c < m.data.length) : ∃ g, a.dq = some ⟨g, 0, none⟩ ∧ W.cell? ⟨g, c, none⟩ = some (.int .i64 m.data[c]) ∧ W.frozen? ⟨g, c, none⟩ = false ∧ ∀ y, ImQ w (W.setCell ⟨g, c, none⟩ (.int .i64 y)) B a m0 { m with data := m.data.set c y } ts := by
  obtain ⟨g, e, h1, h2, h3, h4⟩ := h.o.setD hc
  exact ⟨g, e, h1, h2, fun y => h.turn ((Keep.refl _ W).setCell (p := ⟨g, c, none⟩) h3 _) (h4 y) rfl rfl rfl (by simp)⟩
theorem imDrop_lens (m : Img) (e : Int) : (imDrop m e).refs.length = m.refs.length ∧ (imDrop m e).table.length = m.table.length ∧ (imDrop m e).snaps.length = m.snaps.length ∧ (imDrop m e).data.length = m.data.length := ⟨imDrop_refs m e, by rw [(imDrop_table m e).1], by rw [(imDrop_table m e).2], imDrop_data m e⟩

/-- What is known of a right image. -/
structure ImM (m : Img) : Prop where
  r : m.refs.length = 24
  d : m.data.length = 24
  t : m.table.length ≤ 12
  s : m.snaps.length ≤ 3
  st : ∀ s ∈ m.snaps, s.table.length ≤ 12 ∧ s.name.size ≤ 6
  tv : ∀ i (h : i < m.table.length), 0 ≤ m.table[i] ∧ m.table[i] ≤ 25
  sv : ∀ s ∈ m.snaps, ∀ i (h : i < s.table.length), 0 ≤ s.table[i] ∧ s.table[i] ≤ 25
  rv : ∀ c (h : c < m.refs.length), 0 ≤ m.refs[c] ∧ m.refs[c] ≤ 15
theorem ImR.M {m : Img} (h : ImR m) : ImM m := by
  refine ⟨ctB_len h.refs, h.len, tbB_len h.table, h.few, fun s hs => ⟨tbB_len (h.snaps s hs).2, ?_⟩, tbB_at h.table, fun s hs => tbB_at (h.snaps s hs).2, ctB_at h.refs⟩
  have := (h.snaps s hs).1
  simp only [snmB, Bool.and_eq_true] at this
  have := betw_iff.1 this.2
  omega
theorem ImM.L {m : Img} (h : ImM m) : ImL m := ⟨by rw [h.r]; unfold maxLen; omega, by have := h.t; unfold maxLen; omega, by have := h.s; unfold maxLen; omega, by rw [h.d]; unfold maxLen; omega⟩
theorem ImM.zs {m : Img} (h : ImM m) : ∀ s ∈ m.snaps, s.name.size ≤ maxLen ∧ s.table.length ≤ maxLen := fun s hs => by have := h.st s hs; unfold maxLen; omega
theorem imWrite_in {m : Img} {g c : Nat} {v : Int} (hg : g < m.table.length) (hc : m.table[g] = (c : Int) + 2) (hr : c < m.refs.length) (h1 : m.refs[c] = 1) : imWrite m g v = ({ m with data := m.data.set c v }, 0) := by
  have e : m.table.getD g 0 = (c : Int) + 2 := by simp [List.getD, hg, hc]
  have e2 : ((c : Int) + 2 - 2).toNat = c := by omega
  have e3 : m.refs.getD c 0 = 1 := by simp [List.getD, hr, h1]
  unfold imWrite
  simp only [e, e2, e3]
  rw [if_pos ⟨by omega, trivial⟩]
theorem imWrite_out {m : Img} {g : Nat} {v : Int} (hg : g < m.table.length) (hn : ¬ (2 ≤ m.table[g] ∧ m.refs.getD (m.table[g] - 2).toNat 0 = 1)) : imWrite m g v = if frN m.refs < m.refs.length then ({ imDrop m m.table[g] with refs := (imDrop m m.table[g]).refs.set (frN m.refs) 1, data := (imDrop m m.table[g]).data.set (frN m.refs) v, table := (imDrop m m.table[g]).table.set g (2 + (frN m.refs : Int)) }, 0) else (m, 7) := by
  have e : m.table.getD g 0 = m.table[g] := by simp [List.getD, hg]
  unfold imWrite
  simp only [e]
  rw [if_neg hn]

end Go.Proofs.YtkaiglhljpehpabGreatDoor

/- What the laws over images carry along. (Made ahead of stage 10.) -/
namespace Go.Proofs.YtkaiglhljpehpabGreatDoor
open Go.RowKit
set_option linter.unusedVariables false
set_option maxRecDepth 100000

/-- How great an image's lists are, for marks. -/
structure ImBd (m : Img) : Prop where
  r : m.refs.length ≤ 1048576
  t : m.table.length ≤ 1048576
  s : m.snaps.length ≤ 1048576
  d : m.data.length ≤ 1048576
  st : ∀ s ∈ m.snaps, s.table.length ≤ 1048576 ∧ s.name.size ≤ 1048576
  k : snK m.snaps ≤ 4194304
theorem snK_sz (ss : List Snp) : snK ss ≤ ss.length + snSz ss := by
  induction ss with
  | nil => exact Nat.le_refl _
  | cons s ss ih =>
    simp only [snK, snSz, List.map_cons, List.sum_cons, List.length_cons] at ih ⊢
    have e : sn1 s = s.name.size + s.table.length := rfl
    omega
theorem ImBd.of {m : Img} (h : imSz m ≤ 1048576) : ImBd m := by
  unfold imSz at h
  refine ⟨by omega, by omega, by omega, by omega, fun s hs => ?_, ?_⟩
  · obtain ⟨i, hi, rfl⟩ := List.mem_iff_getElem.1 hs
    have := sn_le hi
    unfold sn1 at this
    omega
  · have := snK_sz m.snaps
    omega
theorem ImBd.zs {m : Img} (h : ImBd m) : ∀ s ∈ m.snaps, s.name.size ≤ maxLen ∧ s.table.length ≤ maxLen := fun s hs => by have := h.st s hs; unfold maxLen; omega
theorem ImBd.M {m : Img} (h : ImM m) : ImBd m := by
  refine ⟨by rw [h.r]; omega, by have := h.t; omega, by have := h.s; omega, by rw [h.d]; omega, fun s hs => by have := h.st s hs; omega, ?_⟩
  have hs := h.s
  have hst := h.st
  have : ∀ ss : List Snp, (∀ s ∈ ss, s.table.length ≤ 12 ∧ s.name.size ≤ 6) → snK ss ≤ 13 * ss.length := by
    intro ss
    induction ss with
    | nil => intro _; exact Nat.le_refl _
    | cons s ss ih =>
      intro hh
      have h1 := hh s (by simp)
      have h2 := ih (fun s hs => hh s (by simp [hs]))
      simp only [snK, List.map_cons, List.sum_cons, List.length_cons] at h2 ⊢
      omega
  have := this m.snaps hst
  omega
theorem ImBd.zero : ImBd im0 := ⟨by simp [im0], by simp [im0], by simp [im0], by simp [im0], fun s hs => by simp [im0] at hs, by simp [im0, snK]⟩
/-- A variable with an image of its own, whose rows lie behind a place. -/
structure LwV (W : World) (p n : Nat) (a : Im4) (m : Img) (ts : List Value) : Prop where
  v : VarM W p 30 (.slice a.ro m.refs.length a.rc) (.slice a.tq m.table.length a.tc) (.slice a.so m.snaps.length a.sc) (.slice a.dq m.data.length a.dc)
  o : OwnIm W n a m ts
  n : n ≤ W.heap.size
theorem LwV.new (W : World) (a : Im4) (m : Img) {n : Nat} {ts : List Value} (h : OwnIm W n a m ts) (hn : n ≤ W.heap.size) : LwV (W.alloc (.cells #[.slice a.ro m.refs.length a.rc, .slice a.tq m.table.length a.tc, .slice a.so m.snaps.length a.sc, .slice a.dq m.data.length a.dc] 30)) W.heap.size n a m ts :=
  ⟨VarM.new W _ _ _ _ _, h.below (Joins.below_alloc1 _ _), by simp; omega⟩
theorem LwV.below {W W' : World} {p n : Nat} {a : Im4} {m : Img} {ts : List Value} (h : LwV W p n a m ts) (hb : Below W.heap.size W W') : LwV W' p n a m ts := ⟨h.v.below hb, h.o.below hb, Nat.le_trans h.n hb.size⟩
/-- Another image's rows are turned. -/
theorem LwV.keep {W W' : World} {p n q n' : Nat} {a b : Im4} {m m' : Img} {ts us : List Value} (h : LwV W p n a m ts) (h2 : LwV W q n' b m' us) (hk : Keep (ImB b m' us) W W') (hs : ∀ g, ImB a m ts g → ¬ ImB b m' us g) : LwV W' p n a m ts :=
  ⟨h.v.keepIm h2.o hk, h.o.keep hk hs, Nat.le_trans h.n hk.size⟩
theorem eqImage_B (a b : Im4) (m : Img) (w : World) (h : ImBd m) (h1 : ImS w a m) (h2 : ImS w b m) :
    Calls Tryz.prog 8 #[imV a m, imV b m] w fun e w' => e = .returned (.bool true) ∧ Below w.heap.size w w' :=
  eqImage_same a b m w (by have := h.r; unfold maxLen; omega) (by have := h.t; unfold maxLen; omega) (by have := h.s; unfold maxLen; omega) (by have := h.d; unfold maxLen; omega) h1 h2
theorem markImage_B (a : Im4) (m : Img) (ts : List Value) (B : Nat) (w : World) (h : ImBd m) (ho : OwnIm w B a m ts) :
    Calls Tryz.prog 11 #[imV a m, .int .i64 1] w fun e w' => e = .returned (.int .i64 ((1 + imK m : Nat) : Int)) ∧ OwnIm w' B a (mkIm 1 m) ts ∧ Keep (ImB a m ts) w w' :=
  markImage_any a m ts 1 B w h.r h.t h.s h.d (fun s hs => (h.st s hs).1) h.k (by omega) (by omega) ho
theorem heldImage_B (a : Im4) (m : Img) (ts : List Value) (B : Nat) (w : World) (h : ImBd m) (ho : OwnIm w B a (mkIm 1 m) ts) :
    Calls Tryz.prog 12 #[imV a m, .int .i64 1] w fun e w' => e = .returned (.int .i64 ((1 + imK m : Nat) : Int)) ∧ Below w.heap.size w w' :=
  heldImage_any a m ts 1 B w h.r h.t h.s h.d (fun s hs => (h.st s hs).1) h.k (by omega) (by omega) ho

end Go.Proofs.YtkaiglhljpehpabGreatDoor

/- Contracts of the laws' own helpers over a disk: sizes (szDisk), copies (toDisk), comparisons (eqDisk). -/
namespace Go.Proofs.YtkaiglhljpehpabGreatDoor
open Go.RowKit
set_option linter.unusedVariables false
set_option maxRecDepth 100000

theorem info9 : (Tryz.prog.info? 9).map (fun i => (i.zero, i.size, i.bytes)) = some (some (.string ⟨#[]⟩), 1, 16) := by kernel_rfl
theorem infoIo : (Tryz.prog.info? 74).map (fun i => (i.zero, i.size, i.bytes)) = some (some (.agg #[.int .i64 0, .int .i64 0, .string ⟨#[]⟩]), 3, 32) := by kernel_rfl

set_option maxHeartbeats 800000 in
theorem szStringS_any (ao : Option Addr) (cap : Nat) (ss : List ByteArray) (left : Int) (w : World) (hl : ss.length ≤ maxLen) (hc : Ss w ao ss) (h0 : 0 ≤ left) (h1 : left ≤ 1048576) :
    Calls Tryz.prog 13 #[.slice ao ss.length cap, .int .i64 left] w fun e w' => ∃ r : Int, e = .returned (.int .i64 r) ∧ -1 ≤ r ∧ r ≤ left ∧ (0 ≤ r → r + ss.length ≤ left) ∧ w' = w := by
  have HC := hide hc
  clear hc
  unfold maxLen at hl
  by_cases hle : left < ss.length
  · go_enter Tryz.func13, Tryz.ntmps13
    go_wp2
    go_ret
    exact ⟨-1, rfl, by omega, by omega, by omega, rfl⟩
  go_enter Tryz.func13, Tryz.ntmps13
  go_wp2
  go_loop [1, 5] (fun l i => ∃ (k : Nat) (r : Int), k ≤ ss.length ∧ i = .int .i64 k ∧ l = .int .i64 r ∧ 0 ≤ r ∧ r + ss.length ≤ left) (fun _ i => ss.length - (intOf i).toNat)
  case atStart => exact ⟨0, _, Nat.zero_le _, rfl, rfl, by omega, by omega⟩
  case round =>
    obtain ⟨k, r, hk, rfl, rfl, hr0, hr1⟩ := hrel
    by_cases hlt : k < ss.length
    · obtain ⟨b, off, rfl, hc, hz⟩ := unhide HC k hlt
      unfold maxLen at hz
      by_cases hb : r < ss[k].size
      · go_wp2
        go_ret
        exact ⟨-1, rfl, by omega, by omega, by omega, rfl⟩
      · go_wp2
        go_round
        case rel => exact ⟨k + 1, _, by omega, by go_num, rfl, by omega, by omega⟩
        case measure => simp [intOf]; omega
    · go_wp2
      go_ret
      exact ⟨r, rfl, by omega, by omega, by omega, rfl⟩

set_option maxHeartbeats 800000 in
theorem szIo_any (x : Wr) (left : Int) (w : World) (hz : x.data.size ≤ maxLen) (h0 : 0 ≤ left) (h1 : left ≤ 1048576) :
    Calls Tryz.prog 36 #[.agg #[.int .i64 x.host, .int .i64 x.at_, .string x.data], .int .i64 left] w fun e w' => ∃ r : Int, e = .returned (.int .i64 r) ∧ -1 ≤ r ∧ r ≤ left ∧ Below w.heap.size w w' := by
  unfold maxLen at hz
  by_cases hb : left < x.data.size
  · go_enter Tryz.func36, Tryz.ntmps36
    go_wp2
    go_ret
    exact ⟨-1, rfl, by omega, by omega, (Below.refl _ _).alloc (Nat.le_refl _) _⟩
  · go_enter Tryz.func36, Tryz.ntmps36
    go_wp2
    go_ret
    exact ⟨_, rfl, by omega, by omega, (Below.refl _ _).alloc (Nat.le_refl _) _⟩

set_option maxHeartbeats 800000 in
theorem szIoS_any (ao : Option Addr) (cap : Nat) (xs : List Wr) (left : Int) (w : World) (hl : xs.length ≤ maxLen) (hc : Ios w ao xs) (h0 : 0 ≤ left) (h1 : left ≤ 1048576) :
    Calls Tryz.prog 14 #[.slice ao xs.length cap, .int .i64 left] w fun e w' => ∃ r : Int, e = .returned (.int .i64 r) ∧ -1 ≤ r ∧ r ≤ left ∧ (0 ≤ r → r + xs.length ≤ left) ∧ Below w.heap.size w w' := by
  have HC := hide hc
  clear hc
  unfold maxLen at hl
  by_cases hle : left < xs.length
  · go_enter Tryz.func14, Tryz.ntmps14
    go_wp2
    go_ret
    exact ⟨-1, rfl, by omega, by omega, by omega, Below.refl _ _⟩
  go_enter Tryz.func14, Tryz.ntmps14
  go_wp2
  go_loopw [1, 5] (fun l i wr => ∃ (k : Nat) (r : Int), k ≤ xs.length ∧ i = .int .i64 k ∧ l = .int .i64 r ∧ 0 ≤ r ∧ r + xs.length ≤ left ∧ Hid (Below w.heap.size w wr)) (fun _ i _ => xs.length - (intOf i).toNat)
  case atStart => exact ⟨0, _, Nat.zero_le _, rfl, rfl, by omega, by omega, hide (Below.refl _ _)⟩
  case round =>
    obtain ⟨k, r, hk, rfl, rfl, hr0, hr1, HB⟩ := hrel
    by_cases hlt : k < xs.length
    · obtain ⟨b, off, rfl, hc0, hc1, hc2, hz⟩ := (unhide HC).below (unhide HB) k hlt
      have HZ := hide hz
      clear hz
      go_wp2_with fail
      refine (szIo_any xs[k] r _ (unhide HZ) (by omega) (by omega)).mono ?_
      rintro e w2 ⟨q, rfl, hq0, hq1, hb2⟩
      have HB2 := hide ((unhide HB).trans (hb2.mono (unhide HB).size))
      clear hb2
      by_cases hb : q < 0
      · go_wp2
        go_ret
        exact ⟨-1, rfl, by omega, by omega, by omega, unhide HB2⟩
      · go_wp2
        go_roundw
        case rel => exact ⟨k + 1, _, by omega, by go_num, rfl, by omega, by omega, HB2⟩
        case measure => simp [intOf]; omega
    · go_wp2
      go_ret
      exact ⟨r, rfl, by omega, by omega, by omega, unhide HB⟩

set_option maxHeartbeats 800000 in
theorem szDisk_any (ao bo : Option Addr) (ca cb : Nat) (ss : List ByteArray) (xs : List Wr) (left : Int) (w : World) (hl : ss.length ≤ maxLen) (hm : xs.length ≤ maxLen) (hc : Ss w ao ss) (hd : Ios w bo xs) (h0 : 0 ≤ left) (h1 : left ≤ 1048576) :
    Calls Tryz.prog 4 #[.agg #[.slice ao ss.length ca, .slice bo xs.length cb], .int .i64 left] w fun e w' => ∃ r : Int, e = .returned (.int .i64 r) ∧ -1 ≤ r ∧ r ≤ left ∧ (0 ≤ r → r + ss.length + xs.length ≤ left) ∧ Below w.heap.size w w' := by
  have HC := hide hc
  have HD := hide hd
  have HL := hide hl
  have HM := hide hm
  clear hc hd hl hm
  have hb0 : ∀ o, Below w.heap.size w (w.alloc o) := fun o => (Below.refl _ _).alloc (Nat.le_refl _) o
  have HB0 := hide hb0
  clear hb0
  go_enter Tryz.func4, Tryz.ntmps4
  go_wp2_with fail
  refine (szStringS_any ao ca ss left _ (unhide HL) ((unhide HC).below (unhide HB0 _)) (by omega) (by omega)).mono ?_
  rintro e w1 ⟨r, rfl, hr0, hr1, hr2, rfl⟩
  by_cases hb : r < 0
  · go_wp2
    go_ret
    exact ⟨-1, rfl, by omega, by omega, by omega, unhide HB0 _⟩
  · have hr3 : r + ss.length ≤ left := hr2 (by omega)
    clear hr2
    go_wp2_with fail
    refine (szIoS_any bo cb xs r _ (unhide HM) ((unhide HD).below (unhide HB0 _)) (by omega) (by omega)).mono ?_
    rintro e w2 ⟨q, rfl, hq0, hq1, hq2, hb2⟩
    have HB2 := hide ((unhide HB0 _).trans (hb2.mono (unhide HB0 _).size))
    clear hb2
    by_cases hb' : q < 0
    · go_wp2
      go_ret
      exact ⟨-1, rfl, by omega, by omega, by omega, unhide HB2⟩
    · have hq3 : q + xs.length ≤ r := hq2 (by omega)
      clear hq2
      go_wp2
      go_ret
      exact ⟨q, rfl, by omega, by omega, by omega, unhide HB2⟩

set_option maxHeartbeats 800000 in
theorem toStringS_any (ao : Option Addr) (cap : Nat) (ss : List ByteArray) (w : World) (hl : ss.length ≤ 1048576) (hc : Ss w ao ss) :
    Calls Tryz.prog 17 #[.slice ao ss.length cap] w fun e w' => ∃ g, e = .returned (.slice (some ⟨g, 0, none⟩) ss.length ss.length) ∧ w'.ownsRow w.heap.size 9 1 (.slice (some ⟨g, 0, none⟩) ss.length ss.length) ss.length (strV ss) ∧ Below w.heap.size w w' := by
  have HC := hide hc
  clear hc
  obtain ⟨i0, hi, hz0, hz1, hz2⟩ := info_parts info9
  go_enter Tryz.func17, Tryz.ntmps17
  go_wp2_with (first | (at_make; refine wpList_make_full _ rfl _ _ 22 rfl w.heap.size 9 i0 _ 1 Tryz.underlying22 hi hz0 hz1 _ _ _ _ ss.length rfl rfl rfl rfl ?c1 ?c2 ?c3 ?_))
  case c1 => rw [hz2]; omega
  case c2 => unfold maxLen; omega
  case c3 => exact Nat.le_refl _
  intro w1 hown hgrow
  have hB : Below w.heap.size w w1 := (Below.refl _ _).grown hgrow (Nat.le_refl _) (fun _ h => by cases h)
  have HO := hide hown
  have HB := hide hB
  clear hown hB hgrow
  go_wp2
  go_loopw [4] (fun i wr => ∃ (k : Nat) (xs : List Value), k ≤ ss.length ∧ i = .int .i64 k ∧ Hid (xs.length = ss.length) ∧ Hid (xs.take k = (strV ss).take k) ∧ Hid (wr.ownsRow w.heap.size 9 1 (.slice (some ⟨w.heap.size, 0, none⟩) ss.length ss.length) ss.length xs) ∧ Hid (Below w.heap.size w wr)) (fun i _ => ss.length - (intOf i).toNat)
  case atStart => exact ⟨0, _, Nat.zero_le _, rfl, hide (by rw [(unhide HO).1]; omega), hide (by simp), HO, HB⟩
  case round =>
    obtain ⟨k, xs, hk, rfl, HL, HT, HO, HB⟩ := hrel
    by_cases hlt : k < ss.length
    · obtain ⟨b, off, rfl, hc, hz⟩ := (unhide HC).below (unhide HB) k hlt
      have hfr := (unhide HO).frozenAt k
      obtain ⟨x0, hcx⟩ : ∃ x, wr.cell? ⟨w.heap.size, k, none⟩ = some x := ⟨_, ((unhide HO).cellAt k (by omega)).trans (List.getElem?_eq_getElem (by rw [unhide HL]; exact hlt))⟩
      have HST := hide ((unhide HO).stored k (.string ss[k]))
      go_wp2
      go_roundw
      case rel =>
        refine ⟨k + 1, xs.set k (.string ss[k]), by omega, by go_num, hide (by rw [List.length_set]; exact unhide HL), hide ?_, hide (unhide HST).1, hide ?_⟩
        · exact set_take' (by rw [unhide HL, strV_length]) (strV_get hlt) (unhide HT)
        · exact (unhide HB).grown (unhide HST).2 (unhide HB).size (fun k h => by cases h; exact Nat.le_refl _)
      case measure => simp [intOf]; omega
    · go_wp2
      go_ret
      have hkn : k = ss.length := by omega
      subst hkn
      have hxs : xs = strV ss := by
        have := unhide HT
        rwa [List.take_of_length_le (by rw [unhide HL]; exact Nat.le_refl _), List.take_of_length_le (by simp [strV])] at this
      subst hxs
      exact ⟨_, rfl, unhide HO, unhide HB⟩

set_option maxHeartbeats 800000 in
theorem toIo_any (h a : Int) (d : ByteArray) (w : World) :
    Calls Tryz.prog 46 #[.agg #[.int .i64 h, .int .i64 a, .string d]] w fun e w' => e = .returned (.agg #[.int .i64 h, .int .i64 a, .string d]) ∧ Below w.heap.size w w' := by
  go_enter Tryz.func46, Tryz.ntmps46
  go_wp2
  exact bodyPost_ret (v := .agg #[.int .i64 h, .int .i64 a, .string d]) (by simp [results, Tryz.results46, go_sem]) rfl ⟨rfl, (((Below.refl _ _).alloc (Nat.le_refl _) _).alloc (by simp) _).alloc (by simp; omega) _⟩

set_option maxHeartbeats 800000 in
theorem toIoS_any (ao : Option Addr) (cap : Nat) (xs : List Wr) (w : World) (hl : xs.length ≤ 1048576) (hc : Ios w ao xs) :
    Calls Tryz.prog 18 #[.slice ao xs.length cap] w fun e w' => ∃ g, e = .returned (.slice (some ⟨g, 0, none⟩) xs.length xs.length) ∧ w'.ownsRow w.heap.size 74 3 (.slice (some ⟨g, 0, none⟩) xs.length xs.length) xs.length (ioV xs) ∧ Below w.heap.size w w' := by
  have HC := hide hc
  clear hc
  obtain ⟨i0, hi, hz0, hz1, hz2⟩ := info_parts infoIo
  go_enter Tryz.func18, Tryz.ntmps18
  go_wp2_with (first | (at_make; refine wpList_make_full _ rfl _ _ 33 rfl w.heap.size 74 i0 _ 3 Tryz.underlying33 hi hz0 hz1 _ _ _ _ xs.length rfl rfl rfl rfl ?c1 ?c2 ?c3 ?_))
  case c1 => rw [hz2]; omega
  case c2 => unfold maxLen; omega
  case c3 => exact Nat.le_refl _
  intro w1 hown hgrow
  have hB : Below w.heap.size w w1 := (Below.refl _ _).grown hgrow (Nat.le_refl _) (fun _ h => by cases h)
  have HO := hide hown
  have HB := hide hB
  clear hown hB hgrow
  go_wp2
  go_loopw [4] (fun i wr => ∃ (k : Nat) (ys : List Value), k ≤ xs.length ∧ i = .int .i64 k ∧ Hid (ys.length = xs.length * 3) ∧ Hid (ys.take (k * 3) = (ioV xs).take (k * 3)) ∧ Hid (wr.ownsRow w.heap.size 74 3 (.slice (some ⟨w.heap.size, 0, none⟩) xs.length xs.length) xs.length ys) ∧ Hid (Below w.heap.size w wr)) (fun i _ => xs.length - (intOf i).toNat)
  case atStart => exact ⟨0, _, Nat.zero_le _, rfl, hide (by rw [(unhide HO).1]), hide (by simp), HO, HB⟩
  case round =>
    obtain ⟨k, ys, hk, rfl, HL, HT, HO, HB⟩ := hrel
    by_cases hlt : k < xs.length
    · obtain ⟨b, off, rfl, hc0, hc1, hc2, hz⟩ := (unhide HC).below (unhide HB) k hlt
      clear hz
      go_wp2_with fail
      refine (toIo_any _ _ _ _).mono ?_
      rintro e w2 ⟨rfl, hb2⟩
      have HO2 := hide (own_below (unhide HO) hb2)
      have HB2 := hide ((unhide HB).trans (hb2.mono (unhide HB).size))
      clear hb2
      have hf0 := (unhide HO2).frozenAt (k * 3)
      have hf1 := (unhide HO2).frozenAt (k * 3 + 1)
      have hf2 := (unhide HO2).frozenAt (k * 3 + 2)
      obtain ⟨x0, hx0⟩ : ∃ x, w2.cell? ⟨w.heap.size, k * 3, none⟩ = some x := ⟨_, ((unhide HO2).cellAt (k * 3) (by omega)).trans (List.getElem?_eq_getElem (by rw [unhide HL]; omega))⟩
      obtain ⟨x1, hx1⟩ : ∃ x, w2.cell? ⟨w.heap.size, k * 3 + 1, none⟩ = some x := ⟨_, ((unhide HO2).cellAt (k * 3 + 1) (by omega)).trans (List.getElem?_eq_getElem (by rw [unhide HL]; omega))⟩
      obtain ⟨x2, hx2⟩ : ∃ x, w2.cell? ⟨w.heap.size, k * 3 + 2, none⟩ = some x := ⟨_, ((unhide HO2).cellAt (k * 3 + 2) (by omega)).trans (List.getElem?_eq_getElem (by rw [unhide HL]; omega))⟩
      have HST := hide (stored3 (unhide HO2) (k * 3) (k * 3 + 1) (k * 3 + 2) (.int .i64 xs[k].host) (.int .i64 xs[k].at_) (.string xs[k].data))
      have HBT := hide (below3 (unhide HB2) (Nat.le_refl _) (k * 3) (k * 3 + 1) (k * 3 + 2) (.int .i64 xs[k].host) (.int .i64 xs[k].at_) (.string xs[k].data))
      go_wp2
      go_roundw
      case rel => exact ⟨k + 1, _, by omega, by go_num, hide (by rw [List.length_set, List.length_set, List.length_set]; exact unhide HL), hide (io_take hlt (unhide HL) (unhide HT)), HST, HBT⟩
      case measure => simp [intOf]; omega
    · go_wp2
      go_ret
      have hkn : k = xs.length := by omega
      subst hkn
      have hxs : ys = ioV xs := by
        have := unhide HT
        rwa [List.take_of_length_le (by rw [unhide HL]; exact Nat.le_refl _), List.take_of_length_le (by rw [ioV_length]; exact Nat.le_refl _)] at this
      subst hxs
      exact ⟨_, rfl, unhide HO, unhide HB⟩

set_option maxHeartbeats 800000 in
theorem toDisk_any (ao bo : Option Addr) (ca cb : Nat) (ss : List ByteArray) (xs : List Wr) (w : World) (hl : ss.length ≤ 1048576) (hm : xs.length ≤ 1048576) (hc : Ss w ao ss) (hd : Ios w bo xs) :
    Calls Tryz.prog 6 #[.agg #[.slice ao ss.length ca, .slice bo xs.length cb]] w fun e w' => ∃ g k, e = .returned (.agg #[.slice (some ⟨g, 0, none⟩) ss.length ss.length, .slice (some ⟨k, 0, none⟩) xs.length xs.length]) ∧
      w'.ownsRow w.heap.size 9 1 (.slice (some ⟨g, 0, none⟩) ss.length ss.length) ss.length (strV ss) ∧ w'.ownsRow w.heap.size 74 3 (.slice (some ⟨k, 0, none⟩) xs.length xs.length) xs.length (ioV xs) ∧ Below w.heap.size w w' := by
  have HC := hide hc
  have HD := hide hd
  clear hc hd
  go_enter Tryz.func6, Tryz.ntmps6
  have HA := hide (Joins.below_alloc3 w (.cells #[.slice ao ss.length ca, .slice bo xs.length cb] 25) (.cells #[.slice none 0 0, .slice none 0 0] 35) (.cells #[.slice none 0 0, .slice none 0 0] 35))
  go_wp2_with fail
  refine (toStringS_any ao ca ss _ hl ((unhide HC).below (unhide HA))).mono ?_
  rintro e w1 ⟨g, rfl, ho1, hb1⟩
  have hz1 : w.heap.size + 1 + 1 < w1.heap.size := by have := hb1.size; simp at this; omega
  have hc0 : w1.cell? ⟨w.heap.size, 1, none⟩ = some (.slice bo xs.length cb) := (hb1.cell (by simp; omega)).trans (by simp [go_sem])
  have hc1 : w1.cell? ⟨w.heap.size + 1 + 1, 0, none⟩ = some (.slice none 0 0) := (hb1.cell (by simp)).trans (by simp [go_sem])
  have hc2 : w1.cell? ⟨w.heap.size + 1 + 1, 1, none⟩ = some (.slice none 0 0) := (hb1.cell (by simp)).trans (by simp [go_sem])
  have hc3 : w1.cell? ⟨w.heap.size + 1, 0, none⟩ = some (.slice none 0 0) := (hb1.cell (by simp)).trans (by simp [go_sem])
  have hc4 : w1.cell? ⟨w.heap.size + 1, 1, none⟩ = some (.slice none 0 0) := (hb1.cell (by simp)).trans (by simp [go_sem])
  have hf0 : w1.frozen? ⟨w.heap.size + 1 + 1, 0, none⟩ = false := (hb1.frozen (by simp)).trans (by simp [go_sem])
  have hf1 : w1.frozen? ⟨w.heap.size + 1 + 1, 1, none⟩ = false := (hb1.frozen (by simp)).trans (by simp [go_sem])
  have hf2 : w1.frozen? ⟨w.heap.size + 1, 0, none⟩ = false := (hb1.frozen (by simp)).trans (by simp [go_sem])
  have hf3 : w1.frozen? ⟨w.heap.size + 1, 1, none⟩ = false := (hb1.frozen (by simp)).trans (by simp [go_sem])
  have HO1 := hide ho1
  have HB1 := hide hb1
  clear ho1 hb1
  have HBW := hide (((unhide HA).trans ((unhide HB1).mono (by simp; omega))).setCell (p := ⟨w.heap.size + 1 + 1, 0, none⟩) (by simp; omega) (.slice (some ⟨g, 0, none⟩) ss.length ss.length))
  have HO1' := hide (ownsRow_setCell_below (unhide HO1) (a := ⟨w.heap.size + 1 + 1, 0, none⟩) (by simp) (.slice (some ⟨g, 0, none⟩) ss.length ss.length))
  go_wp2_with fail
  refine (toIoS_any bo cb xs _ hm ((unhide HD).below (unhide HBW))).mono ?_
  rintro e w2 ⟨k, rfl, ho2, hb2⟩
  have hz2 : w.heap.size + 1 + 1 < w2.heap.size := by have := hb2.size; simp at this; omega
  have hd1 : w2.cell? ⟨w.heap.size + 1 + 1, 0, none⟩ = some (.slice (some ⟨g, 0, none⟩) ss.length ss.length) := (hb2.cell (by simp; omega)).trans (by simp [go_sem, hc1])
  have hd2 : w2.cell? ⟨w.heap.size + 1 + 1, 1, none⟩ = some (.slice none 0 0) := (hb2.cell (by simp; omega)).trans (by simp [go_sem, hc2])
  have hd3 : w2.cell? ⟨w.heap.size + 1, 0, none⟩ = some (.slice none 0 0) := (hb2.cell (by simp; omega)).trans (by simp [go_sem, hc3])
  have hd4 : w2.cell? ⟨w.heap.size + 1, 1, none⟩ = some (.slice none 0 0) := (hb2.cell (by simp; omega)).trans (by simp [go_sem, hc4])
  have hg1 : w2.frozen? ⟨w.heap.size + 1 + 1, 1, none⟩ = false := (hb2.frozen (by simp; omega)).trans (by simp [go_sem, hf1])
  have hg2 : w2.frozen? ⟨w.heap.size + 1, 0, none⟩ = false := (hb2.frozen (by simp; omega)).trans (by simp [go_sem, hf2])
  have hg3 : w2.frozen? ⟨w.heap.size + 1, 1, none⟩ = false := (hb2.frozen (by simp; omega)).trans (by simp [go_sem, hf3])
  have HOA := hide (own_below (unhide HO1') hb2)
  have HOB := hide ho2
  have HBA := hide ((unhide HBW).trans (hb2.mono (by simp; omega)))
  clear ho2 hb2 hc0 hc1 hc2 hc3 hc4 hf0 hf1 hf2 hf3
  have hz3 : w.heap.size ≤ w.heap.size + 1 + 1 := by omega
  have HOC := hide (own_base (ownsRow_setCell_below (ownsRow_setCell_below (ownsRow_setCell_below (unhide HOA) (a := ⟨w.heap.size + 1 + 1, 1, none⟩) (by simp) (.slice (some ⟨k, 0, none⟩) xs.length xs.length)) (a := ⟨w.heap.size + 1, 0, none⟩) (by simp) (.slice (some ⟨g, 0, none⟩) ss.length ss.length)) (a := ⟨w.heap.size + 1, 1, none⟩) (by simp) (.slice (some ⟨k, 0, none⟩) xs.length xs.length)) (B' := w.heap.size) (by simp; omega))
  have HOD := hide (own_base (ownsRow_setCell_below (ownsRow_setCell_below (ownsRow_setCell_below (unhide HOB) (a := ⟨w.heap.size + 1 + 1, 1, none⟩) (by simp; omega) (.slice (some ⟨k, 0, none⟩) xs.length xs.length)) (a := ⟨w.heap.size + 1, 0, none⟩) (by simp; omega) (.slice (some ⟨g, 0, none⟩) ss.length ss.length)) (a := ⟨w.heap.size + 1, 1, none⟩) (by simp; omega) (.slice (some ⟨k, 0, none⟩) xs.length xs.length)) (B' := w.heap.size) (by simp; omega))
  have HBC := hide ((((unhide HBA).setCell (p := ⟨w.heap.size + 1 + 1, 1, none⟩) (by simp; omega) (.slice (some ⟨k, 0, none⟩) xs.length xs.length)).setCell (p := ⟨w.heap.size + 1, 0, none⟩) (by simp) (.slice (some ⟨g, 0, none⟩) ss.length ss.length)).setCell (p := ⟨w.heap.size + 1, 1, none⟩) (by simp) (.slice (some ⟨k, 0, none⟩) xs.length xs.length))
  go_wp2
  exact bodyPost_ret (v := .agg #[.slice (some ⟨g, 0, none⟩) ss.length ss.length, .slice (some ⟨k, 0, none⟩) xs.length xs.length]) (by simp [results, Tryz.results6, go_sem, hd3, hd4]) rfl ⟨g, k, rfl, unhide HOC, unhide HOD, unhide HBC⟩

end Go.Proofs.YtkaiglhljpehpabGreatDoor
