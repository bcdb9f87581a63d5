import Derived.Test.YtmkegkpnomcnhabGreatRows
import Derived.Test.YtmkegkpnomcnhabGreatPart7
import Derived.Test.YtmkegkpnomcnhabGreatImW
import Derived.Test.YtmkegkpnomcnhabGreatPart9
import Derived.Test.YtmkegkpnomcnhabGreatImY
import Derived.WalkKit
import Derived.WalkSpells
import Derived.LoopN
import Derived.Deep.RegionWith
import Derived.Test.YtmkegkpnomcnhabGreatPart1
import Derived.Test.YtmkegkpnomcnhabGreatPart3
import Derived.Test.YtmkegkpnomcnhabGreatPart2
import Derived.Test.YtmkegkpnomcnhabGreatPart4
import Derived.Test.YtmkegkpnomcnhabGreatPart5
import Derived.Test.YtmkegkpnomcnhabGreatPart6
import Derived.BigQuiet
import Derived.Deep.QuietTactic
import Derived.Deep.Quiet
import Derived.Test.YtmkegkpnomcnhabGreatPart8
import Derived.Deep.RegionHeld3

/- Contract of the model's l10Own: an image as it was, in new memory. (Made ahead of stage 10.) -/
namespace Go.Proofs.YtmkegkpnomcnhabGreat
open Go.RowKit
set_option linter.unusedVariables false
set_option maxRecDepth 100000

theorem wp_append_fresh {P : Program} {o : Oper} {a : Act} {w : World} {K : Act → World → Prop} {Q : Exit → Act → World → Prop}
    (hg : o.guard = none) (s x : Operand) (t : TypeId) (hop : o.op = Op.call { callee := Callee.builtin Builtin.append, args := #[s, x], argTypes := #[t, t] })
    (e : TypeId) (i : TypeInfo) (z : Value) (size bytes : Nat) (h1 : P.underlying t = some (.slice e)) (h2 : P.info? e = some i) (h3 : i.zero = some z) (h4 : i.size = size) (h5 : i.bytes = bytes) (h6 : z.cells.size = size) (h7 : 0 < size)
    (hs0 : isFresh (a.eval s) = true) (so : Option Addr) (m c : Nat) (news : List Value) (hx : a.eval x = .slice so m c) (hn : news.length = m * size)
    (hc : 0 < m → ∃ ad, so = some ad ∧ ∀ j u, news[j]? = some u → w.cell? (ad.add j) = some u) (b1 : m ≤ maxLen) (b2 : m * bytes ≤ 140737488355328)
    (hK : ∀ ao cap w', OwnR w' w.heap.size e size (.slice ao m cap) m news → w.grownBy w' none → K (a.put o.dst (.slice ao m cap)) w') : o.wp P a w K Q := by
  have := step_append_fresh (P := P) (ops := #[]) (o := o) (a := a) (w := w) (K := K) (Q := Q) (E := True) hg s x t hop e i z size bytes h1 h2 h3 h4 h5 h6 h7 hs0 so m c news hx hn hc b1 b2 hK
  rwa [if_pos (by simp [Region.wanted, hg])] at this

theorem snap_news {w : World} {g : Nat} {n : ByteArray} {v : Value} {t : TypeId} (h : w.heap[g]? = some (.cells #[.string n, v] t (0, 0))) : ∀ j u, [Value.string n, v][j]? = some u → w.cell? ((⟨g, 0, none⟩ : Addr).add j) = some u := by
  intro j u hu
  have hj : j < 2 := (List.getElem?_eq_some_iff.1 hu).1
  rcases (show j = 0 ∨ j = 1 by omega) with rfl | rfl
  · simp at hu
    subst hu
    rw [show (⟨g, 0, none⟩ : Addr).add 0 = ⟨g, 0, none⟩ from rfl, Joins.cell_of_block h]; rfl
  · simp at hu
    subst hu
    rw [show (⟨g, 0, none⟩ : Addr).add 1 = ⟨g, 1, none⟩ from rfl, Joins.cell_of_block h]; rfl
theorem snap_one (n : ByteArray) (q : Option Addr) (l c : Nat) : ∀ u ∈ [Value.string n, .slice q l c], u.oneCell' = true := by
  intro u hu
  simp at hu
  rcases hu with rfl | rfl <;> rfl
theorem wp_append_one {P : Program} {w : World} {o : Oper} {a : Act} {K : Act → World → Prop} {Q : Exit → Act → World → Prop} (hgd : o.guard = none) (s x : Operand) (t : TypeId)
    (ho : o.op = .call { callee := .builtin .append, args := #[s, x], argTypes := #[t, t] })
    (B : Nat) (e : TypeId) (i : TypeInfo) (z : Value) (size bytes : Nat) (ht : P.underlying t = some (.slice e)) (hi : P.info? e = some i) (hz : i.zero = some z)
    (hsize : i.size = size) (hby : i.bytes = bytes) (hzs : z.cells.size = size) (hsz : 0 < size)
    (qo : Option Addr) (n cap : Nat) (xs : List Value) (hs : a.eval s = .slice qo n cap) (h : OwnR w B e size (.slice qo n cap) n xs) (hB : B ≤ w.heap.size)
    (ad : Addr) (c : Nat) (news : List Value) (hx : a.eval x = .slice (some ad) 1 c) (hl : news.length = size) (hnews : ∀ j u, news[j]? = some u → w.cell? (ad.add j) = some u) (h1 : ∀ u ∈ news, u.oneCell' = true)
    (b1 : n + 1 ≤ maxLen) (b2 : (n + 1) * bytes ≤ 140737488355328)
    (hK : ∀ g cap' w', w'.ownsRow B e size (.slice (some ⟨g, 0, none⟩) (n + 1) cap') (n + 1) (xs ++ news) → Keep (Own (.slice qo n cap)) w w' → K (a.put o.dst (.slice (some ⟨g, 0, none⟩) (n + 1) cap')) w') : o.wp P a w K Q := by
  have := step_append_one (P := P) (ops := #[]) (o := o) (a := a) (w := w) (K := K) (Q := Q) (E := True) hgd s x t ho B e i z size bytes ht hi hz hsize hby hzs hsz qo n cap xs hs h hB ad c news hx hl hnews h1 b1 b2 hK
  rwa [if_pos (by simp [Region.wanted, hgd])] at this

end Go.Proofs.YtmkegkpnomcnhabGreat

/- An owned image in a variable, the result's variable beside it; l10Write of the model. (Made ahead of stage 10.) -/
namespace Go.Proofs.YtmkegkpnomcnhabGreat
open Go.RowKit
set_option linter.unusedVariables false
set_option maxRecDepth 100000

/-- An image of the call's own in a variable, its lists as long as another's; the result's variable beside it. -/
structure ImQ (w W : World) (B : Nat) (a : Im4) (m0 m : Img) (ts : List Value) : Prop where
  v : VarM W w.heap.size 32 (.slice a.ro m0.refs.length a.rc) (.slice a.tq m0.table.length a.tc) (.slice a.so m0.snaps.length a.sc) (.slice a.dq m0.data.length a.dc)
  r : VarM W (w.heap.size + 1) 32 (.slice none 0 0) (.slice none 0 0) (.slice none 0 0) (.slice none 0 0)
  o : OwnIm W B a m ts
  b : Below w.heap.size w W
  hB : w.heap.size + 2 ≤ B
  e1 : m.refs.length = m0.refs.length
  e2 : m.table.length = m0.table.length
  e3 : m.snaps.length = m0.snaps.length
  e4 : m.data.length = m0.data.length
theorem ImQ.val {w W : World} {B : Nat} {a : Im4} {m0 m : Img} {ts : List Value} (h : ImQ w W B a m0 m ts) : imV a m0 = imV a m := by rw [imV, imV, h.e1, h.e2, h.e3, h.e4]

/-- The world behind an image's being put into a variable. -/
abbrev putI (W : World) (x : Nat) (a : Im4) (m : Img) : World := (((W.setCell ⟨x, 0, none⟩ (.slice a.ro m.refs.length a.rc)).setCell ⟨x, 1, none⟩ (.slice a.tq m.table.length a.tc)).setCell ⟨x, 2, none⟩ (.slice a.so m.snaps.length a.sc)).setCell ⟨x, 3, none⟩ (.slice a.dq m.data.length a.dc)
theorem ImQ.put {w W : World} {B : Nat} {v0 v1 v2 v3 : Value} {a : Im4} {m0 m : Img} {ts : List Value} (hv : VarM W w.heap.size 32 v0 v1 v2 v3) (hr : VarM W (w.heap.size + 1) 32 (.slice none 0 0) (.slice none 0 0) (.slice none 0 0) (.slice none 0 0)) (ho : OwnIm W B a m ts) (hb : Below w.heap.size w W) (hB : w.heap.size + 2 ≤ B) (e1 : m.refs.length = m0.refs.length) (e2 : m.table.length = m0.table.length) (e3 : m.snaps.length = m0.snaps.length) (e4 : m.data.length = m0.data.length) : ImQ w (putI W w.heap.size a m0) B a m0 m ts := by
  obtain ⟨h1, h2, h3⟩ := ImSt.put hv ho hb (Nat.le_refl _) (by omega) a m0
  exact ⟨h1, (((hr.other (p := ⟨w.heap.size, 0, none⟩) (by simp) _).other (p := ⟨w.heap.size, 1, none⟩) (by simp) _).other (p := ⟨w.heap.size, 2, none⟩) (by simp) _).other (p := ⟨w.heap.size, 3, none⟩) (by simp) _, h2, h3, hB, e1, e2, e3, e4⟩
theorem ImQ.again {w W : World} {B : Nat} {a : Im4} {m0 m : Img} {ts : List Value} (h : ImQ w W B a m0 m ts) : ImQ w (putI W w.heap.size a m0) B a m0 m ts := ImQ.put h.v h.r h.o h.b h.hB h.e1 h.e2 h.e3 h.e4
theorem ImQ.fin {w W : World} {B : Nat} {a : Im4} {m0 m : Img} {ts : List Value} (h : ImQ w W B a m0 m ts) : VarM (putI W (w.heap.size + 1) a m0) (w.heap.size + 1) 32 (.slice a.ro m0.refs.length a.rc) (.slice a.tq m0.table.length a.tc) (.slice a.so m0.snaps.length a.sc) (.slice a.dq m0.data.length a.dc) ∧ OwnIm (putI W (w.heap.size + 1) a m0) w.heap.size a m ts ∧ Below w.heap.size w (putI W (w.heap.size + 1) a m0) := by
  obtain ⟨h1, h2, h3⟩ := ImSt.put h.r h.o h.b (Nat.le_succ _) (by have := h.hB; omega) a m0
  exact ⟨h1, h2.base (by have := h.hB; omega), h3⟩
theorem ImQ.turn {w W W' : World} {B : Nat} {a : Im4} {m0 m m' : Img} {ts : List Value} (h : ImQ w W B a m0 m ts) (hk : Keep (ImB a m ts) W W') (ho : OwnIm W' B a m' ts) (e1 : m'.refs.length = m.refs.length) (e2 : m'.table.length = m.table.length) (e3 : m'.snaps.length = m.snaps.length) (e4 : m'.data.length = m.data.length) : ImQ w W' B a m0 m' ts :=
  ⟨h.v.keepIm h.o hk, h.r.keepIm h.o hk, ho, h.b.trans (hk.below h.b.size (fun g hg => by have := (h.o.ge g hg).1; have := h.hB; omega)), h.hB, e1.trans h.e1, e2.trans h.e2, e3.trans h.e3, e4.trans h.e4⟩
theorem ImQ.setR {w W : World} {B c : Nat} {a : Im4} {m0 m : Img} {ts : List Value} (h : ImQ w W B a m0 m ts) (hc : c < m.refs.length) : ∃ g, a.ro = some ⟨g, 0, none⟩ ∧ W.cell? ⟨g, c, none⟩ = some (.int .i64 m.refs[c]) ∧ W.frozen? ⟨g, c, none⟩ = false ∧ ∀ y, ImQ w (W.setCell ⟨g, c, none⟩ (.int .i64 y)) B a m0 { m with refs := m.refs.set c y } ts := by
  obtain ⟨g, e, h1, h2, h3, h4⟩ := h.o.setR hc
  exact ⟨g, e, h1, h2, fun y => h.turn ((Keep.refl _ W).setCell (p := ⟨g, c, none⟩) h3 _) (h4 y) (by simp) rfl rfl rfl⟩
theorem ImQ.setT {w W : World} {B c : Nat} {a : Im4} {m0 m : Img} {ts : List Value} (h : ImQ w W B a m0 m ts) (hc : c < m.table.length) : ∃ g, a.tq = some ⟨g, 0, none⟩ ∧ W.cell? ⟨g, c, none⟩ = some (.int .i64 m.table[c]) ∧ W.frozen? ⟨g, c, none⟩ = false ∧ ∀ y, ImQ w (W.setCell ⟨g, c, none⟩ (.int .i64 y)) B a m0 { m with table := m.table.set c y } ts := by
  obtain ⟨g, e, h1, h2, h3, h4⟩ := h.o.setT hc
  exact ⟨g, e, h1, h2, fun y => h.turn ((Keep.refl _ W).setCell (p := ⟨g, c, none⟩) h3 _) (h4 y) rfl (by simp) rfl rfl⟩
theorem ImQ.setD {w W : World} {B c : Nat} {a : Im4} {m0 m : Img} {ts : List Value} (h : ImQ w W B a m0 m ts) (hc : c < m.data.length) : ∃ g, a.dq = some ⟨g, 0, none⟩ ∧ W.cell? ⟨g, c, none⟩ = some (.int .i64 m.data[c]) ∧ W.frozen? ⟨g, c, none⟩ = false ∧ ∀ y, ImQ w (W.setCell ⟨g, c, none⟩ (.int .i64 y)) B a m0 { m with data := m.data.set c y } ts := by
  obtain ⟨g, e, h1, h2, h3, h4⟩ := h.o.setD hc
  exact ⟨g, e, h1, h2, fun y => h.turn ((Keep.refl _ W).setCell (p := ⟨g, c, none⟩) h3 _) (h4 y) rfl rfl rfl (by simp)⟩
theorem imDrop_lens (m : Img) (e : Int) : (imDrop m e).refs.length = m.refs.length ∧ (imDrop m e).table.length = m.table.length ∧ (imDrop m e).snaps.length = m.snaps.length ∧ (imDrop m e).data.length = m.data.length := ⟨imDrop_refs m e, by rw [(imDrop_table m e).1], by rw [(imDrop_table m e).2], imDrop_data m e⟩

/-- What is known of a right image. -/
structure ImM (m : Img) : Prop where
  r : m.refs.length = 24
  d : m.data.length = 24
  t : m.table.length ≤ 12
  s : m.snaps.length ≤ 3
  st : ∀ s ∈ m.snaps, s.table.length ≤ 12 ∧ s.name.size ≤ 6
  tv : ∀ i (h : i < m.table.length), 0 ≤ m.table[i] ∧ m.table[i] ≤ 25
  sv : ∀ s ∈ m.snaps, ∀ i (h : i < s.table.length), 0 ≤ s.table[i] ∧ s.table[i] ≤ 25
  rv : ∀ c (h : c < m.refs.length), 0 ≤ m.refs[c] ∧ m.refs[c] ≤ 15
theorem ImR.M {m : Img} (h : ImR m) : ImM m := by
  refine ⟨ctB_len h.refs, h.len, tbB_len h.table, h.few, fun s hs => ⟨tbB_len (h.snaps s hs).2, ?_⟩, tbB_at h.table, fun s hs => tbB_at (h.snaps s hs).2, ctB_at h.refs⟩
  have := (h.snaps s hs).1
  simp only [snmB, Bool.and_eq_true] at this
  have := betw_iff.1 this.2
  omega
theorem ImM.L {m : Img} (h : ImM m) : ImL m := ⟨by rw [h.r]; unfold maxLen; omega, by have := h.t; unfold maxLen; omega, by have := h.s; unfold maxLen; omega, by rw [h.d]; unfold maxLen; omega⟩
theorem ImM.zs {m : Img} (h : ImM m) : ∀ s ∈ m.snaps, s.name.size ≤ maxLen ∧ s.table.length ≤ maxLen := fun s hs => by have := h.st s hs; unfold maxLen; omega
theorem imWrite_in {m : Img} {g c : Nat} {v : Int} (hg : g < m.table.length) (hc : m.table[g] = (c : Int) + 2) (hr : c < m.refs.length) (h1 : m.refs[c] = 1) : imWrite m g v = ({ m with data := m.data.set c v }, 0) := by
  have e : m.table.getD g 0 = (c : Int) + 2 := by simp [List.getD, hg, hc]
  have e2 : ((c : Int) + 2 - 2).toNat = c := by omega
  have e3 : m.refs.getD c 0 = 1 := by simp [List.getD, hr, h1]
  unfold imWrite
  simp only [e, e2, e3]
  rw [if_pos ⟨by omega, trivial⟩]
theorem imWrite_out {m : Img} {g : Nat} {v : Int} (hg : g < m.table.length) (hn : ¬ (2 ≤ m.table[g] ∧ m.refs.getD (m.table[g] - 2).toNat 0 = 1)) : imWrite m g v = if frN m.refs < m.refs.length then ({ imDrop m m.table[g] with refs := (imDrop m m.table[g]).refs.set (frN m.refs) 1, data := (imDrop m m.table[g]).data.set (frN m.refs) v, table := (imDrop m m.table[g]).table.set g (2 + (frN m.refs : Int)) }, 0) else (m, 7) := by
  have e : m.table.getD g 0 = m.table[g] := by simp [List.getD, hg]
  unfold imWrite
  simp only [e]
  rw [if_neg hn]

end Go.Proofs.YtmkegkpnomcnhabGreat

/- What the laws over images carry along. (Made ahead of stage 10.) -/
namespace Go.Proofs.YtmkegkpnomcnhabGreat
open Go.RowKit
set_option linter.unusedVariables false
set_option maxRecDepth 100000

/-- How great an image's lists are, for marks. -/
structure ImBd (m : Img) : Prop where
  r : m.refs.length ≤ 1048576
  t : m.table.length ≤ 1048576
  s : m.snaps.length ≤ 1048576
  d : m.data.length ≤ 1048576
  st : ∀ s ∈ m.snaps, s.table.length ≤ 1048576 ∧ s.name.size ≤ 1048576
  k : snK m.snaps ≤ 4194304
theorem snK_sz (ss : List Snp) : snK ss ≤ ss.length + snSz ss := by
  induction ss with
  | nil => exact Nat.le_refl _
  | cons s ss ih =>
    simp only [snK, snSz, List.map_cons, List.sum_cons, List.length_cons] at ih ⊢
    have e : sn1 s = s.name.size + s.table.length := rfl
    omega
theorem ImBd.of {m : Img} (h : imSz m ≤ 1048576) : ImBd m := by
  unfold imSz at h
  refine ⟨by omega, by omega, by omega, by omega, fun s hs => ?_, ?_⟩
  · obtain ⟨i, hi, rfl⟩ := List.mem_iff_getElem.1 hs
    have := sn_le hi
    unfold sn1 at this
    omega
  · have := snK_sz m.snaps
    omega
theorem ImBd.zs {m : Img} (h : ImBd m) : ∀ s ∈ m.snaps, s.name.size ≤ maxLen ∧ s.table.length ≤ maxLen := fun s hs => by have := h.st s hs; unfold maxLen; omega
theorem ImBd.M {m : Img} (h : ImM m) : ImBd m := by
  refine ⟨by rw [h.r]; omega, by have := h.t; omega, by have := h.s; omega, by rw [h.d]; omega, fun s hs => by have := h.st s hs; omega, ?_⟩
  have hs := h.s
  have hst := h.st
  have : ∀ ss : List Snp, (∀ s ∈ ss, s.table.length ≤ 12 ∧ s.name.size ≤ 6) → snK ss ≤ 13 * ss.length := by
    intro ss
    induction ss with
    | nil => intro _; exact Nat.le_refl _
    | cons s ss ih =>
      intro hh
      have h1 := hh s (by simp)
      have h2 := ih (fun s hs => hh s (by simp [hs]))
      simp only [snK, List.map_cons, List.sum_cons, List.length_cons] at h2 ⊢
      omega
  have := this m.snaps hst
  omega
theorem ImBd.zero : ImBd im0 := ⟨by simp [im0], by simp [im0], by simp [im0], by simp [im0], fun s hs => by simp [im0] at hs, by simp [im0, snK]⟩
/-- A variable with an image of its own, whose rows lie behind a place. -/
structure LwV (W : World) (p n : Nat) (a : Im4) (m : Img) (ts : List Value) : Prop where
  v : VarM W p 32 (.slice a.ro m.refs.length a.rc) (.slice a.tq m.table.length a.tc) (.slice a.so m.snaps.length a.sc) (.slice a.dq m.data.length a.dc)
  o : OwnIm W n a m ts
  n : n ≤ W.heap.size
theorem LwV.new (W : World) (a : Im4) (m : Img) {n : Nat} {ts : List Value} (h : OwnIm W n a m ts) (hn : n ≤ W.heap.size) : LwV (W.alloc (.cells #[.slice a.ro m.refs.length a.rc, .slice a.tq m.table.length a.tc, .slice a.so m.snaps.length a.sc, .slice a.dq m.data.length a.dc] 32)) W.heap.size n a m ts :=
  ⟨VarM.new W _ _ _ _ _, h.below (Joins.below_alloc1 _ _), by simp; omega⟩
theorem LwV.below {W W' : World} {p n : Nat} {a : Im4} {m : Img} {ts : List Value} (h : LwV W p n a m ts) (hb : Below W.heap.size W W') : LwV W' p n a m ts := ⟨h.v.below hb, h.o.below hb, Nat.le_trans h.n hb.size⟩
/-- Another image's rows are turned. -/
theorem LwV.keep {W W' : World} {p n q n' : Nat} {a b : Im4} {m m' : Img} {ts us : List Value} (h : LwV W p n a m ts) (h2 : LwV W q n' b m' us) (hk : Keep (ImB b m' us) W W') (hs : ∀ g, ImB a m ts g → ¬ ImB b m' us g) : LwV W' p n a m ts :=
  ⟨h.v.keepIm h2.o hk, h.o.keep hk hs, Nat.le_trans h.n hk.size⟩
theorem OwnIm.otherL {w : World} {B x : Nat} {a : Im4} {m : Img} {ts : List Value} {v0 v1 v2 v3 : Value} (h : OwnIm w B a m ts) (hv : VarM w x 25 v0 v1 v2 v3) : ¬ ImB a m ts x := by
  intro hx
  rcases hx with h1 | h1 | h1 | h1 | ⟨t, ht, h1⟩
  · exact (h.rows.own (.slice a.ro m.refs.length a.rc, m.refs) (by simp [imRows])).row.other hv (by decide) h1
  · exact (h.rows.own (.slice a.tq m.table.length a.tc, m.table) (by simp [imRows])).row.other hv (by decide) h1
  · exact (h.rows.own (.slice a.dq m.data.length a.dc, m.data) (by simp [imRows])).row.other hv (by decide) h1
  · exact h.s.other hv (by decide) h1
  · have hm : t ∈ (ts.zip (m.snaps.map (·.table))).map Prod.fst := by rw [zip_fst _ _ (by rw [List.length_map, h.len])]; exact ht
    obtain ⟨p, hp, rfl⟩ := List.mem_map.1 hm
    exact (h.rows.own p (by simp [imRows, hp])).row.other hv (by decide) h1
theorem toImage_B (a : Im4) (m : Img) (w : World) (h : ImBd m) (hc : ImS w a m) :
    Calls Tryz.prog 7 #[imV a m] w fun e w' => ∃ a' ts, e = .returned (imV a' m) ∧ OwnIm w' w.heap.size a' m ts ∧ Below w.heap.size w w' :=
  toImage_any a m w h.r h.t h.s h.d (fun s hs => (h.st s hs).1) hc
theorem eqImage_B (a b : Im4) (m : Img) (w : World) (h : ImBd m) (h1 : ImS w a m) (h2 : ImS w b m) :
    Calls Tryz.prog 10 #[imV a m, imV b m] w fun e w' => e = .returned (.bool true) ∧ Below w.heap.size w w' :=
  eqImage_same a b m w (by have := h.r; unfold maxLen; omega) (by have := h.t; unfold maxLen; omega) (by have := h.s; unfold maxLen; omega) (by have := h.d; unfold maxLen; omega) h1 h2
theorem markImage_B (a : Im4) (m : Img) (ts : List Value) (B : Nat) (w : World) (h : ImBd m) (ho : OwnIm w B a m ts) :
    Calls Tryz.prog 11 #[imV a m, .int .i64 1] w fun e w' => e = .returned (.int .i64 ((1 + imK m : Nat) : Int)) ∧ OwnIm w' B a (mkIm 1 m) ts ∧ Keep (ImB a m ts) w w' :=
  markImage_any a m ts 1 B w h.r h.t h.s h.d (fun s hs => (h.st s hs).1) h.k (by omega) (by omega) ho
end Go.Proofs.YtmkegkpnomcnhabGreat

/- Marks of an image, begun at a greater number. -/
namespace Go.Proofs.YtmkegkpnomcnhabGreat
open Go.RowKit
set_option linter.unusedVariables false
set_option maxRecDepth 100000

set_option maxHeartbeats 3200000 in
theorem markImage_far (a : Im4) (m : Img) (ts : List Value) (k B : Nat) (w : World) (hr : m.refs.length ≤ 1048576) (ht : m.table.length ≤ 1048576) (hsn : m.snaps.length ≤ 1048576) (hd : m.data.length ≤ 1048576) (hm : ∀ s ∈ m.snaps, s.table.length ≤ 1048576) (hsk : snK m.snaps ≤ 4194304) (hk0 : 0 < k) (hk1 : k ≤ 16777216) (ho : OwnIm w B a m ts) :
    Calls Tryz.prog 11 #[imV a m, .int .i64 k] w fun e w' => e = .returned (.int .i64 ((k + imK m : Nat) : Int)) ∧ OwnIm w' B a (mkIm k m) ts ∧ Keep (ImB a m ts) w w' := by
  have HA := hide (Joins.below_alloc1 w (.cells #[.slice a.ro m.refs.length a.rc, .slice a.tq m.table.length a.tc, .slice a.so m.snaps.length a.sc, .slice a.dq m.data.length a.dc] 32))
  have HX := hide (heap_alloc_new w (.cells #[.slice a.ro m.refs.length a.rc, .slice a.tq m.table.length a.tc, .slice a.so m.snaps.length a.sc, .slice a.dq m.data.length a.dc] 32))
  have HO := hide (ho.below (unhide HA))
  have HM := hide hm
  have HLN := hide ho.len
  have HR : Hid (OwnA _ B (imRows a m ts)) := hide (unhide HO).rows
  have HS := hide (unhide HO).s
  clear ho hm
  obtain ⟨nr, hnr⟩ : ∃ n, n = m.refs.length := ⟨_, rfl⟩
  obtain ⟨nt, hnt⟩ : ∃ n, n = m.table.length := ⟨_, rfl⟩
  obtain ⟨nd, hnd⟩ : ∃ n, n = m.data.length := ⟨_, rfl⟩
  have H0 := hide (unhide HR |>.own _ (List.mem_cons_self)).row
  go_enter Tryz.func11, Tryz.ntmps11
  go_wp2_with fail
  refine (markIntS_any _ m.refs.length k _ B _ (by omega) hk0 (by omega) (unhide H0)).mono ?_
  rintro e w1 ⟨rfl, ho1, hk1'⟩
  have HR1 := hide ((unhide HR).turn (j := 0) rfl hk1' (OwnN.mk' ho1 (mkN_length _ _)))
  have HS1 := hide ((unhide HS).keep hk1' (own_apartT (unhide HS) (unhide H0) (by decide)))
  have hX1 : w1.heap[w.heap.size]? = _ := (hk1'.block _ (by simp) ((unhide H0).other (unhide HX) (by decide))).trans (unhide HX)
  have HX1 := hide hX1
  have hc1 : w1.cell? ⟨w.heap.size, 1, none⟩ = some (.slice a.tq m.table.length a.tc) := by rw [Joins.cell_of_block hX1]; rfl
  have HK1 := hide (Keep.trans (S := ImB a m ts) (Keep.of_below (unhide HA)) (hk1'.mono (fun g h => .inl h)))
  clear ho1 hk1' hX1
  have H1 := hide (unhide HR1 |>.own (.slice a.tq m.table.length a.tc, m.table) (by simp [imRows])).row
  go_wp2_with fail
  refine (markIntS_any _ m.table.length (k + m.refs.length) _ B _ (by omega) (by omega) (by omega) (unhide H1)).mono ?_
  rintro e w2 ⟨rfl, ho2, hk2'⟩
  have HR2 := hide ((unhide HR1).turn (j := 1) rfl hk2' (OwnN.mk' ho2 (mkN_length _ _)))
  have HS2 := hide ((unhide HS1).keep hk2' (own_apartT (unhide HS1) (unhide H1) (by decide)))
  have hX2 : w2.heap[w.heap.size]? = _ := (hk2'.block _ (Array.getElem?_eq_some_iff.1 (unhide HX1)).1 ((unhide H1).other (unhide HX1) (by decide))).trans (unhide HX1)
  have HX2 := hide hX2
  have hc2 : w2.cell? ⟨w.heap.size, 2, none⟩ = some (.slice a.so m.snaps.length a.sc) := by rw [Joins.cell_of_block hX2]; rfl
  have HK2 := hide ((unhide HK1).trans (hk2'.mono (fun g h => .inr (.inl h))))
  clear ho2 hk2' hX2 hc1
  have HR2' : Hid (OwnA w2 B ((.slice a.ro m.refs.length a.rc, mkN k m.refs.length) :: (.slice a.tq m.table.length a.tc, mkN (k + m.refs.length) m.table.length) :: (.slice a.dq m.data.length a.dc, m.data) :: ts.zip (m.snaps.map (·.table)))) := hide (unhide HR2)
  go_wp2_with fail
  refine (markSnapS_any _ (k + m.refs.length + m.table.length) B m.snaps ts _ (by omega) (fun s hs => by have := unhide HM s hs; omega) (by omega) (by omega) (unhide HLN) (unhide HS2) (unhide HR2').tail).mono ?_
  rintro e w3 ⟨rfl, ho3, ha3, hk3⟩
  have HLM : Hid (ts.length = ((mkSn (k + m.refs.length + m.table.length) m.snaps).map (·.table)).length) := hide (by rw [List.length_map, mkSn_length, unhide HLN])
  have HR3 : Hid (OwnA w3 B ((.slice a.ro m.refs.length a.rc, mkN k m.refs.length) :: (.slice a.tq m.table.length a.tc, mkN (k + m.refs.length) m.table.length) :: (.slice a.dq m.data.length a.dc, m.data) :: ts.zip ((mkSn (k + m.refs.length + m.table.length) m.snaps).map (·.table)))) := hide ((unhide HR2').retail hk3 (fun r hr g hg hS => by
    rcases hS with hS | hS
    · exact own_apartS ((unhide HR2').own r (by simp only [List.mem_cons, List.not_mem_nil, or_false] at hr; rcases hr with rfl | rfl | rfl <;> simp)).row (unhide HS2) (by decide) g hg hS
    · exact (unhide HR2').apart3 (by rw [List.length_map, unhide HLN]) r hr g hg hS) ha3 (by rw [zip_fst _ _ (unhide HLM), zip_fst _ _ (by rw [List.length_map, unhide HLN])]))
  have HS3 := hide ho3
  have hX3 : w3.heap[w.heap.size]? = _ := (hk3.block _ (Array.getElem?_eq_some_iff.1 (unhide HX2)).1 (fun hS => by
    rcases hS with hS | ⟨t, ht, hS⟩
    · exact (unhide HS2).other (unhide HX2) (by decide) hS
    · have hm : t ∈ (ts.zip (m.snaps.map (·.table))).map Prod.fst := by rw [zip_fst _ _ (by rw [List.length_map, unhide HLN])]; exact ht
      obtain ⟨p, hp, rfl⟩ := List.mem_map.1 hm
      exact ((unhide HR2').own p (by simp [hp])).row.other (unhide HX2) (by decide) hS)).trans (unhide HX2)
  have HX3 := hide hX3
  have hc3 : w3.cell? ⟨w.heap.size, 3, none⟩ = some (.slice a.dq m.data.length a.dc) := by rw [Joins.cell_of_block hX3]; rfl
  have HK3 := hide ((unhide HK2).trans (hk3.mono (fun g h => h.elim (fun h => .inr (.inr (.inr (.inl h)))) (fun h => .inr (.inr (.inr (.inr h)))))))
  clear ho3 ha3 hk3 hX3 hc2 HR2
  have H3 := hide (unhide HR3 |>.own (.slice a.dq m.data.length a.dc, m.data) (by simp)).row
  go_wp2_with fail
  refine (markIntS_any _ m.data.length (k + m.refs.length + m.table.length + snK m.snaps) _ B _ (by omega) (by omega) (by omega) (unhide H3)).mono ?_
  rintro e w4 ⟨rfl, ho4, hk4⟩
  have HR4 := hide ((unhide HR3).turn (j := 2) rfl hk4 (OwnN.mk' ho4 (mkN_length _ _)))
  have HS4 := hide ((unhide HS3).keep hk4 (own_apartT (unhide HS3) (unhide H3) (by decide)))
  have HK4 := hide ((unhide HK3).trans (hk4.mono (fun g h => .inr (.inr (.inl h)))))
  clear ho4 hk4 hc3
  go_wp2
  go_ret
  refine ⟨ret_int (by unfold imK; omega), ⟨?_, ?_, ?_⟩, unhide HK4⟩
  · simp only [mkIm, mkSn_length]; exact unhide HLN
  · simp only [mkIm, mkSn_length]; exact unhide HS4
  · simp only [imRows, mkIm, mkN_length]
    exact unhide HR4

theorem imK_le {m : Img} (h : ImBd m) : imK m ≤ 8388608 := by
  have h1 := h.r
  have h2 := h.t
  have h3 := h.d
  have h4 := h.k
  have h5 := h.s
  unfold imK
  omega
theorem markImage_C (a : Im4) (m : Img) (ts : List Value) (k B : Nat) (w : World) (h : ImBd m) (hk0 : 0 < k) (hk1 : k ≤ 16777216) (ho : OwnIm w B a m ts) :
    Calls Tryz.prog 11 #[imV a m, .int .i64 k] w fun e w' => e = .returned (.int .i64 ((k + imK m : Nat) : Int)) ∧ OwnIm w' B a (mkIm k m) ts ∧ Keep (ImB a m ts) w w' :=
  markImage_far a m ts k B w h.r h.t h.s h.d (fun s hs => (h.st s hs).1) h.k hk0 hk1 ho

end Go.Proofs.YtmkegkpnomcnhabGreat

/- A region that draws its order, whose operations only read, and whose callees may lay memory of their own: one walk in the order of the text, at the class of worlds behind a given one. -/
namespace Go.Proofs.YtmkegkpnomcnhabGreat
open Go.RowKit
set_option linter.unusedVariables false

section
variable {P : Program} {ops : Array Oper}
abbrev CB (W : World) : World → Prop := fun w => Below W.heap.size W w
theorem quiet_val {W : World} {Q : Act → Prop} {a : Act} {o : Oper} {rest : List Oper} (v : Value) (hg : o.guard = none) (hv : ∀ w, Below W.heap.size W w → (execOp a.eval o).run P w = .ok (.value v) w) (h : wpQuiet P ops (CB W) Q rest (a.put o.dst v)) : wpQuiet P ops (CB W) Q (o :: rest) a := by
  refine wpQuiet_step fun K hK => ?_
  rw [if_pos (by simp [Region.wanted, hg])]
  refine ⟨v, fun w hw => ?_, hK _ h⟩
  unfold Oper.quietAt
  rw [hv w hw]
  exact ⟨rfl, rfl⟩
theorem quiet_call {W : World} {Q : Act → Prop} {a : Act} {o : Oper} {rest : List Oper} (v : Value) (f : FuncId) (args : Array Value) (hg : o.guard = none) (hv : ∀ w, (execOp a.eval o).run P w = .ok (.enter f args) w) (hc : ∀ w, Below W.heap.size W w → Calls P f args w fun e w' => e = .returned v ∧ Below w.heap.size w w') (h : wpQuiet P ops (CB W) Q rest (a.put o.dst v)) : wpQuiet P ops (CB W) Q (o :: rest) a := by
  refine wpQuiet_step fun K hK => ?_
  rw [if_pos (by simp [Region.wanted, hg])]
  refine ⟨v, fun w hw => ?_, hK _ h⟩
  unfold Oper.quietAt
  rw [hv w]
  exact ⟨rfl, (hc w hw).mono fun e w' ⟨he, hb⟩ => ⟨he, fr hw hb⟩⟩
theorem wp_region_cb {id : Nat} {Q : Exit → Act → World → Prop} {a : Act} {w : World} {l : List Oper} (hm : P.follows .mixedOrders = true) (hB : Region.lexB .any l.toArray = true)
    (h : wpQuiet P l.toArray (CB w) (fun a' => ∀ w', Below w.heap.size w w' → Q .normal a' w') l a) : (Code.region id l.toArray true).wp P Q a w :=
  wp_region_quiet (C := CB w) hm hB (Below.refl _ w).drew (by simpa using h)
end

end Go.Proofs.YtmkegkpnomcnhabGreat

/- Contracts of the model's ReadCluster, WriteCluster. (Made ahead of stage 10.) -/
namespace Go.Proofs.YtmkegkpnomcnhabGreat
open Go.RowKit
set_option linter.unusedVariables false
set_option maxRecDepth 100000

/-- What the calls answer. -/
def rcA (m : Img) (g : Int) : Int × Int := if imB m = true then (if betw g 0 ((m.table.length : Int) - 1) = true then (imVal m (m.table.getD g.toNat 0), 0) else (0, 4)) else (0, 1)
def wcA (m : Img) (g v : Int) : Img × Int := if imB m = true then (if betw g 0 ((m.table.length : Int) - 1) = true ∧ numB v = true then imWrite m g.toNat v else (m, 4)) else (im0, 1)
def zcA (m : Img) (g : Int) : Img × Int := if imB m = true then (if betw g 0 ((m.table.length : Int) - 1) = true then (imZero m g.toNat, 0) else (m, 4)) else (im0, 1)
def rsA' (m : Img) (n : Int) : Img × Int := if imB m = true then (if betw n 0 12 = true then (imResize m n.toNat, 0) else (m, 4)) else (im0, 1)
/-- The entry's variable, the result's beside it. -/
structure ImE (w W : World) (a : Im4) (m : Img) : Prop where
  v : VarM W w.heap.size 32 (.slice a.ro m.refs.length a.rc) (.slice a.tq m.table.length a.tc) (.slice a.so m.snaps.length a.sc) (.slice a.dq m.data.length a.dc)
  r : VarM W (w.heap.size + 1) 32 (.slice none 0 0) (.slice none 0 0) (.slice none 0 0) (.slice none 0 0)
  s : ImS W a m
  b : Below w.heap.size w W
theorem ImE.new (w : World) (a : Im4) (m : Img) (h : ImS w a m) : ImE w ((w.alloc (.cells #[.slice a.ro m.refs.length a.rc, .slice a.tq m.table.length a.tc, .slice a.so m.snaps.length a.sc, .slice a.dq m.data.length a.dc] 32)).alloc (.cells #[.slice none 0 0, .slice none 0 0, .slice none 0 0, .slice none 0 0] 32)) a m :=
  ⟨(VarM.new w _ _ _ _ _).below (Joins.below_alloc1 _ _), (VarM.new (w.alloc _) _ _ _ _ _).at (by simp), h.below (Joins.below_alloc2 _ _ _), Joins.below_alloc2 _ _ _⟩
theorem ImE.below {w W W' : World} {a : Im4} {m : Img} (h : ImE w W a m) (hb : Below W.heap.size W W') : ImE w W' a m := ⟨h.v.below hb, h.r.below hb, h.s.below hb, fr h.b hb⟩
/-- A result that is put. -/
theorem ImE.put {w W W' : World} {a : Im4} {m : Img} (h : ImE w W a m) (hb : Below W.heap.size W W') {a' : Im4} {m' : Img} {ts : List Value} (ho : OwnIm W' W.heap.size a' m' ts) :
    VarM (putI W' (w.heap.size + 1) a' m') (w.heap.size + 1) 32 (.slice a'.ro m'.refs.length a'.rc) (.slice a'.tq m'.table.length a'.tc) (.slice a'.so m'.snaps.length a'.sc) (.slice a'.dq m'.data.length a'.dc) ∧ OwnIm (putI W' (w.heap.size + 1) a' m') w.heap.size a' m' ts ∧ Below w.heap.size w (putI W' (w.heap.size + 1) a' m') := by
  obtain ⟨h1, h2, h3⟩ := ImSt.put (h.r.below hb) ho (fr h.b hb) (Nat.le_succ _) h.r.lt a' m'
  exact ⟨h1, h2.base h.b.size, h3⟩
/-- The empty image as a result. -/
theorem ImE.zero {w W : World} {a : Im4} {m : Img} (h : ImE w W a m) :
    VarM ((((W.setCell ⟨w.heap.size + 1, 0, none⟩ (.slice none 0 0)).setCell ⟨w.heap.size + 1, 1, none⟩ (.slice none 0 0)).setCell ⟨w.heap.size + 1, 2, none⟩ (.slice none 0 0)).setCell ⟨w.heap.size + 1, 3, none⟩ (.slice none 0 0)) (w.heap.size + 1) 32 (.slice none 0 0) (.slice none 0 0) (.slice none 0 0) (.slice none 0 0) ∧
    Below w.heap.size w ((((W.setCell ⟨w.heap.size + 1, 0, none⟩ (.slice none 0 0)).setCell ⟨w.heap.size + 1, 1, none⟩ (.slice none 0 0)).setCell ⟨w.heap.size + 1, 2, none⟩ (.slice none 0 0)).setCell ⟨w.heap.size + 1, 3, none⟩ (.slice none 0 0)) :=
  ⟨(((h.r.set0 _).set1 _).set2 _).set3 _, (((h.b.setCell (p := ⟨w.heap.size + 1, 0, none⟩) (Nat.le_succ _) _).setCell (p := ⟨w.heap.size + 1, 1, none⟩) (Nat.le_succ _) _).setCell (p := ⟨w.heap.size + 1, 2, none⟩) (Nat.le_succ _) _).setCell (p := ⟨w.heap.size + 1, 3, none⟩) (Nat.le_succ _) _⟩
/-- An answer: an image of its own and a code. -/
def AnsI (w w' : World) (e : Ending) (R : Img × Int) : Prop := ∃ a ts, e = .returned (.tuple #[imV a R.1, .int .i64 R.2]) ∧ OwnIm w' w.heap.size a R.1 ts ∧ Below w.heap.size w w'
theorem AnsI.of {w w' : World} {v : Value} {c : Int} {R : Img × Int} {a : Im4} {ts : List Value} (hv : v = imV a R.1) (hc : c = R.2) (ho : OwnIm w' w.heap.size a R.1 ts) (hb : Below w.heap.size w w') : AnsI w w' (.returned (.tuple #[v, .int .i64 c])) R := ⟨a, ts, by rw [hv, hc], ho, hb⟩
theorem AnsI.bad {w w' : World} (c : Int) (hb : Below w.heap.size w w') : AnsI w w' (.returned (.tuple #[.agg #[.slice none 0 0, .slice none 0 0, .slice none 0 0, .slice none 0 0], .int .i64 c])) (im0, c) := ⟨⟨none, 0, none, 0, none, 0, none, 0⟩, [], rfl, OwnIm.zero _ _, hb⟩

end Go.Proofs.YtmkegkpnomcnhabGreat
