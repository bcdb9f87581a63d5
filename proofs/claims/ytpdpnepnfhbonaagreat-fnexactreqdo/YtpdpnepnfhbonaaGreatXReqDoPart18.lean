import Derived.Test.YtpdpnepnfhbonaaGreatXReqDoPart7
import Derived.Test.YtpdpnepnfhbonaaGreatXReqDoPart17
import Derived.Test.YtpdpnepnfhbonaaGreatXReqDoPart15
import Derived.Test.YtpdpnepnfhbonaaGreatXReqDoPart12

namespace Go.Proofs.YtpdpnepnfhbonaaGreat
open Go.RowKit
set_option linter.unusedVariables false
set_option maxRecDepth 100000

structure Mq (w W : World) (a : Im4) (m : Img) (q : Rq) (c u0 : Int) (n : Value) (xa : Im4) (xm : Img) : Prop where
  v : VarM W w.heap.size 32 (.slice a.ro m.refs.length a.rc) (.slice a.tq m.table.length a.tc) (.slice a.so m.snaps.length a.sc) (.slice a.dq m.data.length a.dc)
  q : VarR W (w.heap.size + 1) q
  d : DoR w W (w.heap.size + 2)
  y : VarY W (w.heap.size + 5) (.int .i64 c) (.int .i64 u0) n
  x : FlM W (w.heap.size + 6) xa xm
  z : w.heap.size + 7 ≤ W.heap.size
section
variable {w W W' : World} {a xa : Im4} {m xm : Img} {q : Rq} {c v : Int} {n : Value}
theorem Mq.below (h : Mq w W a m q c v n xa xm) (hb : Below W.heap.size W W') : Mq w W' a m q c v n xa xm := ⟨h.v.below hb, h.q.below hb, h.d.below hb, h.y.below hb, h.x.below hb, Nat.le_trans h.z hb.size⟩
theorem DoR.keepX {x k : Nat} (h : DoR w W x) (hk : Keep (fun j => j = k) W W') (e : x + 1 < k) : DoR w W' x := ⟨h.r.keepX hk (by omega), h.p.keepX hk (by omega), h.b.trans (hk.below h.b.size (fun j e' => by have := h.x0; omega)), h.x0⟩
theorem Mq.setX (h : Mq w W a m q c v n xa xm) (b : Im4) (M : Img) : Mq w (putI W (w.heap.size + 6) b M) a m q c v n b M := by
  have hk := putI_keep W (w.heap.size + 6) b M
  exact ⟨h.v.keepX hk (by omega), h.q.keepX hk (by omega), h.d.keepX hk (by omega), h.y.keepX hk (by omega), (((h.x.set0 _).set1 _).set2 _).set3 _, Nat.le_trans h.z hk.size⟩
theorem Mq.setY (h : Mq w W a m q c v n xa xm) {i : Nat} {u : Value} {c' v' : Int} {n' : Value} (hy : VarY (W.setCell ⟨w.heap.size + 5, i, none⟩ u) (w.heap.size + 5) (.int .i64 c') (.int .i64 v') n') : Mq w (W.setCell ⟨w.heap.size + 5, i, none⟩ u) a m q c' v' n' xa xm := by
  have hk : Keep (fun j => j = w.heap.size + 5) W (W.setCell ⟨w.heap.size + 5, i, none⟩ u) := (Keep.refl (fun j => j = w.heap.size + 5) W).setCell (p := ⟨w.heap.size + 5, i, none⟩) rfl _
  exact ⟨h.v.keepX hk (by omega), h.q.keepX hk (by omega), h.d.keepX hk (by omega), hy, h.x.keepX hk (by omega), Nat.le_trans h.z hk.size⟩
theorem Mq.setC (h : Mq w W a m q c v n xa xm) (c' : Int) : Mq w (W.setCell ⟨w.heap.size + 5, 0, none⟩ (.int .i64 c')) a m q c' v n xa xm := h.setY (h.y.set0 _)
theorem Mq.setV (h : Mq w W a m q c v n xa xm) (v' : Int) : Mq w (W.setCell ⟨w.heap.size + 5, 1, none⟩ (.int .i64 v')) a m q c v' n xa xm := h.setY (h.y.set1 _)
theorem Mq.setN (h : Mq w W a m q c v n xa xm) (n' : Value) : Mq w (W.setCell ⟨w.heap.size + 5, 2, none⟩ n') a m q c v n' xa xm := h.setY (h.y.set2 _)
theorem Mq.new (w : World) (a : Im4) (m : Img) (q : Rq) : Mq w (((((((w.alloc (.cells #[.slice a.ro m.refs.length a.rc, .slice a.tq m.table.length a.tc, .slice a.so m.snaps.length a.sc, .slice a.dq m.data.length a.dc] 32)).alloc (.cells #[.int .i64 q.k, .int .i64 q.g, .int .i64 q.v, .string q.n] 49)).alloc (.cells #[.slice none 0 0, .slice none 0 0, .slice none 0 0, .slice none 0 0] 32)).alloc (.cells #[.int .i64 0, .int .i64 0, .slice none 0 0] 46)).alloc (.cells #[] 9)).alloc (.cells #[.int .i64 0, .int .i64 0, .slice (some ⟨w.heap.size + 1 + 1 + 1 + 1, 0, none⟩) 0 0] 46)).alloc (.cells #[.slice a.ro m.refs.length a.rc, .slice a.tq m.table.length a.tc, .slice a.so m.snaps.length a.sc, .slice a.dq m.data.length a.dc] 32)) a m q 0 0 (.slice (some ⟨w.heap.size + 4, 0, none⟩) 0 0) a m :=
  ⟨((((VarM.new w _ _ _ _ _).below (Joins.below_alloc2 _ _ _)).below (Joins.below_alloc2 _ _ _)).below (Joins.below_alloc2 _ _ _)), (((((VarM.new (w.alloc _) 49 _ _ _ _).below (Joins.below_alloc1 _ _)).below (Joins.below_alloc2 _ _ _)).below (Joins.below_alloc2 _ _ _))).at (by rw [World.size_alloc]),
   ⟨((((VarM.new ((w.alloc _).alloc _) _ _ _ _ _).below (Joins.below_alloc2 _ _ _)).below (Joins.below_alloc2 _ _ _))).at (by rw [World.size_alloc, World.size_alloc]), (((VarY.new (((w.alloc _).alloc _).alloc _) _ _ _).below (Joins.below_alloc1 _ _)).below (Joins.below_alloc2 _ _ _)).at (by rw [World.size_alloc, World.size_alloc, World.size_alloc]), fr (Joins.below_alloc2 _ _ _) (fr (Joins.below_alloc2 _ _ _) (fr (Joins.below_alloc2 _ _ _) (Joins.below_alloc1 _ _))), by omega⟩,
   ((VarY.new (((((w.alloc _).alloc _).alloc _).alloc _).alloc _) _ _ _).below (Joins.below_alloc1 _ _)).at (by rw [World.size_alloc, World.size_alloc, World.size_alloc, World.size_alloc, World.size_alloc]), (VarM.new ((((((w.alloc _).alloc _).alloc _).alloc _).alloc _).alloc _) _ _ _ _ _).at (by rw [World.size_alloc, World.size_alloc, World.size_alloc, World.size_alloc, World.size_alloc, World.size_alloc]), by rw [World.size_alloc, World.size_alloc, World.size_alloc, World.size_alloc, World.size_alloc, World.size_alloc, World.size_alloc]; omega⟩
theorem DoR.fill {x : Nat} (h : DoR w W x) (b : Im4) (M : Img) (v0 v1 v2 : Value) : VarM (putD W x b M v0 v1 v2) x 32 (.slice b.ro M.refs.length b.rc) (.slice b.tq M.table.length b.tc) (.slice b.so M.snaps.length b.sc) (.slice b.dq M.data.length b.dc) ∧ VarY (putD W x b M v0 v1 v2) (x + 1) v0 v1 v2 ∧ Below w.heap.size w (putD W x b M v0 v1 v2) := by
  have hx := h.x0
  have hk := putI_keep W x b M
  have hk2 : Keep (fun j => j = x + 1) (putI W x b M) (putD W x b M v0 v1 v2) := (((Keep.refl (fun j => j = x + 1) (putI W x b M)).setCell (p := ⟨x + 1, 0, none⟩) rfl _).setCell (p := ⟨x + 1, 1, none⟩) rfl _).setCell (p := ⟨x + 1, 2, none⟩) rfl _
  have h1 : FlM (putI W x b M) x b M := (((h.r.set0 _).set1 _).set2 _).set3 _
  have hp : VarY (putI W x b M) (x + 1) (.int .i64 0) (.int .i64 0) (.slice none 0 0) := h.p.keepX hk (by omega)
  refine ⟨h1.keepX hk2 (by omega), ((hp.set0 _).set1 _).set2 _, ?_⟩
  refine (h.b.trans (hk.below h.b.size (fun j e => by have e' : j = x := e; omega))).trans (hk2.below (Nat.le_trans h.b.size hk.size) (fun j e => by have e' : j = x + 1 := e; omega))
end
theorem inI_own {W : World} {B x : Nat} {a b : Im4} {m M : Img} {ts : List Value} (h : OwnIm W B a m ts) (hx : x < B) : OwnIm (putI W x b M) B a m ts :=
  (((h.setCell (p := ⟨x, 0, none⟩) hx _).setCell (p := ⟨x, 1, none⟩) hx _).setCell (p := ⟨x, 2, none⟩) hx _).setCell (p := ⟨x, 3, none⟩) hx _
theorem inD_own {W : World} {B x : Nat} {a b : Im4} {m M : Img} {ts : List Value} {v0 v1 v2 : Value} (h : OwnIm W B a m ts) (hx : x + 1 < B) : OwnIm (putD W x b M v0 v1 v2) B a m ts :=
  (((inI_own (x := x) (b := b) (M := M) h (by omega)).setCell (p := ⟨x + 1, 0, none⟩) hx _).setCell (p := ⟨x + 1, 1, none⟩) hx _).setCell (p := ⟨x + 1, 2, none⟩) hx _
theorem inD_ns {W : World} {B x nc : Nat} {no : Option Addr} {ns : List ByteArray} {b : Im4} {M : Img} {v0 v1 v2 : Value} (h : OwnNs W B no nc ns) (hx : x + 1 < B) : OwnNs (putD W x b M v0 v1 v2) B no nc ns :=
  ((((((OwnR.setCell h (a := ⟨x, 0, none⟩) (by show x < B; omega) _).setCell (a := ⟨x, 1, none⟩) (by show x < B; omega) _).setCell (a := ⟨x, 2, none⟩) (by show x < B; omega) _).setCell (a := ⟨x, 3, none⟩) (by show x < B; omega) _).setCell (a := ⟨x + 1, 0, none⟩) hx _).setCell (a := ⟨x + 1, 1, none⟩) hx _).setCell (a := ⟨x + 1, 2, none⟩) hx _
theorem iw_same {m : Img} {g : Nat} {v : Int} (hc : (imWrite m g v).2 ≠ 0) : (imWrite m g v).1 = m := by
  unfold imWrite at hc ⊢
  simp only at hc ⊢
  split
  · rename_i h1
    rw [if_pos h1] at hc
    exact absurd rfl hc
  · rename_i h1
    rw [if_neg h1] at hc
    split
    · rename_i h2
      rw [if_pos h2] at hc
      exact absurd rfl hc
    · rfl
theorem wc_same {m : Img} {g v : Int} (h : ImR m) (hc : (wcA m g v).2 ≠ 0) : (wcA m g v).1 = m := by
  unfold wcA at hc ⊢
  rw [if_pos (imB_iff.2 h)] at hc ⊢
  split
  · rename_i hh
    rw [if_pos hh] at hc
    exact iw_same hc
  · rfl
theorem zc_same {m : Img} {g : Int} (h : ImR m) (hc : (zcA m g).2 ≠ 0) : (zcA m g).1 = m := by
  unfold zcA at hc ⊢
  rw [if_pos (imB_iff.2 h)] at hc ⊢
  split
  · rename_i hh
    rw [if_pos hh] at hc
    exact absurd rfl hc
  · rfl
theorem rs_same {m : Img} {g : Int} (h : ImR m) (hc : (rsA' m g).2 ≠ 0) : (rsA' m g).1 = m := by
  unfold rsA' at hc ⊢
  rw [if_pos (imB_iff.2 h)] at hc ⊢
  split
  · rename_i hh
    rw [if_pos hh] at hc
    exact absurd rfl hc
  · rfl
theorem sc_same {m : Img} {n : ByteArray} (h : ImR m) (hc : (scA m n).2 ≠ 0) : (scA m n).1 = m := by
  unfold scA at hc ⊢
  rw [if_pos (imB_iff.2 h)] at hc ⊢
  unfold imCreate at hc ⊢
  split
  · rename_i hh
    rw [if_pos hh] at hc
    split
    · rfl
    · rename_i h2
      rw [if_neg h2] at hc
      split
      · rfl
      · rename_i h3
        rw [if_neg h3] at hc
        exact absurd rfl hc
  · rfl
theorem sd_same {m : Img} {n : ByteArray} (h : ImR m) (hc : (sdA m n).2 ≠ 0) : (sdA m n).1 = m := by
  unfold sdA at hc ⊢
  rw [if_pos (imB_iff.2 h)] at hc ⊢
  unfold imDelete at hc ⊢
  split
  · rename_i hh
    rw [if_pos hh] at hc
    exact absurd rfl hc
  · rfl
theorem sr_same {m : Img} {n : ByteArray} (h : ImR m) (hc : (srA m n).2 ≠ 0) : (srA m n).1 = m := by
  unfold srA at hc ⊢
  rw [if_pos (imB_iff.2 h)] at hc ⊢
  unfold imRevert at hc ⊢
  split
  · rename_i hh
    rw [if_pos hh] at hc
    exact absurd rfl hc
  · rfl
theorem wc_right {m : Img} {g v : Int} (h : ImR m) : ImR (wcA m g v).1 := by
  unfold wcA
  rw [if_pos (imB_iff.2 h)]
  split
  · rename_i hh
    obtain ⟨l0, l1⟩ := betw_iff.1 hh.1
    exact h.write (by omega) hh.2
  · exact h
theorem zc_right {m : Img} {g : Int} (h : ImR m) : ImR (zcA m g).1 := by
  unfold zcA
  rw [if_pos (imB_iff.2 h)]
  split
  · rename_i hh
    obtain ⟨l0, l1⟩ := betw_iff.1 hh
    exact h.zero (by omega)
  · exact h
theorem rs_right {m : Img} {g : Int} (h : ImR m) : ImR (rsA' m g).1 := by
  unfold rsA'
  rw [if_pos (imB_iff.2 h)]
  split
  · rename_i hh
    obtain ⟨l0, l1⟩ := betw_iff.1 hh
    exact h.resize (by omega)
  · exact h
theorem sc_right {m : Img} {n : ByteArray} (h : ImR m) : ImR (scA m n).1 := by
  unfold scA
  rw [if_pos (imB_iff.2 h)]
  exact h.create n
theorem sd_right {m : Img} {n : ByteArray} (h : ImR m) : ImR (sdA m n).1 := by
  unfold sdA
  rw [if_pos (imB_iff.2 h)]
  exact h.delete n
theorem sr_right {m : Img} {n : ByteArray} (h : ImR m) : ImR (srA m n).1 := by
  unfold srA
  rw [if_pos (imB_iff.2 h)]
  exact h.revert n
set_option maxHeartbeats 12800000 in
theorem l13Do_any (a : Im4) (m : Img) (q : Rq) (w : World) (hi : ImR m) (hk : 1 ≤ q.k ∧ q.k ≤ 8) (hz : q.n.size ≤ 65536) (hs : ImS w a m) :
    Calls Tryz.prog 42 #[imV a m, qV q] w fun e w' => ∃ a1 no nc, e = .returned (.tuple #[imV a1 (dqA m q).1, rpV (dqA m q).2 no nc]) ∧ ImS w' a1 (dqA m q).1 ∧ OwnNs w' w.heap.size no nc (dqA m q).2.ns ∧ Below w.heap.size w w' := by
  have HM0 := hide (Mq.new w a m q)
  have HI := hide hi
  have HS := hide hs
  have HZ := hide hz
  obtain ⟨R, HR⟩ : ∃ R, Hid (R = dqA m q) := ⟨_, hide rfl⟩
  rw [← unhide HR]
  clear hs hi hz
  go_enter Tryz.func42, Tryz.ntmps42
  go_upto_region 3 with fail
  revert HM0
  generalize (((((((w.alloc _).alloc _).alloc _).alloc _).alloc _).alloc _).alloc _) = W0
  intro HM0
  obtain ⟨q0, q1, q2, q3⟩ := (unhide HM0).q.cells
  rcases (show q.k = 1 ∨ q.k = 2 ∨ q.k = 3 ∨ q.k = 4 ∨ q.k = 5 ∨ q.k = 6 ∨ q.k = 7 ∨ q.k = 8 by omega) with h | h | h | h | h | h | h | h
  · rw [h] at q0
    have HX0 := hide ((unhide HR).trans (dq_1 h))
    have hws : IntKind.i64.wrap ((m.table.length : Int) - 1) = (m.table.length : Int) - 1 := by have := (unhide HI).M.t; rw [IntKind.wrap_i64]; omega
    obtain ⟨c0, c1, c2, c3⟩ := (unhide HM0).v.cells
    obtain ⟨y0, y1, y2⟩ := (unhide HM0).y.cells
    obtain ⟨z0, z1, z2⟩ := (unhide HM0).y.free
    clear HR
    cases hg : betw q.g 0 ((m.table.length : Int) - 1)
    case false =>
      have HXF : Hid (R = (m, ⟨4, 0, []⟩)) := hide (by rw [unhide HX0, rcA, if_pos (imB_iff.2 (unhide HI)), hg]; rfl)
      have HM1 := hide ((unhide HM0).setC 4)
      clear HX0
      go_upto_region 7 with (go_at_call 71; refine (in_any _ _ _ _).mono ?_; rintro e w' ⟨rfl, hw⟩; replace hw := hw.symm; subst hw; rw [hg])
      clear c0 c1 c2 c3 y0 y1 y2 z0 z1 z2 q0 q1 q2 q3 HM0
      revert HM1
      generalize (World.setCell W0 _ _) = W1
      intro HM1
      have HB6 : Hid (Below W1.heap.size W1 W1.drew) := hide (Below.refl _ _).drew
      have HM6 := hide ((unhide HM1).below (unhide HB6))
      clear HM1
      refine wp_region_ord (fun w' => VarM w' w.heap.size 32 (.slice a.ro m.refs.length a.rc) (.slice a.tq m.table.length a.tc) (.slice a.so m.snaps.length a.sc) (.slice a.dq m.data.length a.dc) ∧ VarY w' (w.heap.size + 5) (.int .i64 4) (.int .i64 0) (.slice (some ⟨w.heap.size + 4, 0, none⟩) 0 0)) [0, 1, 2] [(0, 0), (1, 0), (2, 2), (3, 3)] (by kernel_rfl) (by kernel_rfl) rfl (by kernel_rfl) ?_
      clear HB6
      revert HM6
      generalize W1.drew = W6
      intro HM6
      have hS0 : VarM W6 w.heap.size 32 (.slice a.ro m.refs.length a.rc) (.slice a.tq m.table.length a.tc) (.slice a.so m.snaps.length a.sc) (.slice a.dq m.data.length a.dc) ∧ VarY W6 (w.heap.size + 5) (.int .i64 4) (.int .i64 0) (.slice (some ⟨w.heap.size + 4, 0, none⟩) 0 0) := ⟨(unhide HM6).v, (unhide HM6).y⟩
      have HP := hide ((unhide HM6).d.fill a m (.int .i64 4) (.int .i64 0) (.slice (some ⟨w.heap.size + 4, 0, none⟩) 0 0))
      unfold putD putY putI at HP
      obtain ⟨r0, r1, r2, r3⟩ := (unhide HM6).d.r.cells
      obtain ⟨z0, z1, z2, z3⟩ := (unhide HM6).d.r.free
      obtain ⟨p0, p1, p2⟩ := (unhide HM6).d.p.cells
      obtain ⟨f0, f1, f2⟩ := (unhide HM6).d.p.free
      refine ord_read (imV a m) rfl rfl hS0 (fun W hW => by obtain ⟨k0, k1, k2, k3⟩ := hW.1.cells; go_simp) ?_
      refine ord_read (.agg #[.int .i64 4, .int .i64 0, .slice (some ⟨w.heap.size + 4, 0, none⟩) 0 0]) rfl rfl hS0 (fun W hW => by obtain ⟨k0, k1, k2⟩ := hW.2.cells; go_simp) ?_
      refine ord_held rfl rfl ?_
      intro K hK
      unfold Oper.wp
      go_simp
      refine hK _ _ ⟨hS0.1.keepX (putI_keep W6 (w.heap.size + 2) a m) (by omega), hS0.2.keepX (putI_keep W6 (w.heap.size + 2) a m) (by omega)⟩ ?_
      clear hK K hS0
      refine ord_alone rfl rfl ?_
      intro K hK
      unfold Oper.wp
      go_simp
      refine hK _ _ ?_
      clear hK K r0 r1 r2 r3 z0 z1 z2 z3 p0 p1 p2 f0 f1 f2
      refine ord_done ?_
      go_wp2
      refine bodyPost_ret (res_ir Tryz.results42 rfl rfl (unhide HP).1 (unhide HP).2.1) rfl ?_
      rw [unhide HXF]
      exact ⟨a, (some ⟨w.heap.size + 4, 0, none⟩), 0, rfl, (unhide HS).below (unhide HP).2.2, OwnNs.none _ _ _, (unhide HP).2.2⟩
    case true =>
      obtain ⟨l0, l1⟩ := betw_iff.1 hg
      obtain ⟨g, hgq⟩ := Int.eq_ofNat_of_zero_le l0
      have hq : g < m.table.length := by omega
      have hqi : (g : Int) < (m.table.length : Int) := by omega
      have HXF : Hid (R = (m, ⟨0, imVal m m.table[g], []⟩)) := hide (by
        rw [unhide HX0, rcA, if_pos (imB_iff.2 (unhide HI)), if_pos hg, hgq, Int.toNat_natCast]
        simp [List.getD, hq])
      obtain ⟨b, off, et, hct⟩ := ((unhide HS).below (unhide HM0).d.b).t g hq
      obtain ⟨t0, t1⟩ := (unhide HI).M.tv g hq
      have HCALL : Hid (∀ W, Below W0.heap.size W0 W → Calls Tryz.prog 72 #[.agg #[.slice a.ro m.refs.length a.rc, .slice (some ⟨b, off, none⟩) m.table.length a.tc, .slice a.so m.snaps.length a.sc, .slice a.dq m.data.length a.dc], .int .i64 m.table[g]] W fun e w' => e = .returned (.int .i64 (imVal m m.table[g])) ∧ Below W.heap.size W w') := hide (fun W hW => by
        have := l10Value_any a m m.table[g] W t0 (by rw [(unhide HI).M.d]; omega) (by rw [(unhide HI).M.d]; omega) (((unhide HS).below (unhide HM0).d.b).below hW).d
        rw [imV, et] at this
        exact this)
      have HCELL : Hid (∀ W, Below W0.heap.size W0 W → W.cell? ⟨w.heap.size, 0, none⟩ = some (.slice a.ro m.refs.length a.rc) ∧ W.cell? ⟨w.heap.size, 1, none⟩ = some (.slice (some ⟨b, off, none⟩) m.table.length a.tc) ∧ W.cell? ⟨w.heap.size, 2, none⟩ = some (.slice a.so m.snaps.length a.sc) ∧ W.cell? ⟨w.heap.size, 3, none⟩ = some (.slice a.dq m.data.length a.dc) ∧ W.cell? ⟨b, off + g, none⟩ = some (.int .i64 m.table[g]) ∧ W.cell? ⟨w.heap.size + 1, 1, none⟩ = some (.int .i64 g)) := hide (fun W hW => by
        obtain ⟨k0, k1, k2, k3⟩ := ((unhide HM0).v.below hW).cells
        obtain ⟨j0, j1, j2, j3⟩ := ((unhide HM0).q.below hW).cells
        obtain ⟨b', off', et', hct'⟩ := (((unhide HS).below (unhide HM0).d.b).below hW).t g hq
        rw [et] at et' k1
        simp only [Option.some.injEq, Addr.mk.injEq, and_true] at et'
        rw [hgq] at j1
        rw [et'.1, et'.2]
        exact ⟨k0, by rw [← et'.1, ← et'.2]; exact k1, k2, k3, hct', j1⟩)
      generalize m.table[g] = T at *
      generalize imVal m T = V at *
      clear hct HX0 t0 t1 l0 l1 et hgq
      go_upto_region 8 with (go_at_call 71; refine (in_any _ _ _ _).mono ?_; rintro e w' ⟨rfl, hw⟩; replace hw := hw.symm; subst hw; rw [hg])
      clear c0 c1 c2 c3 y0 y1 y2 z0 z1 z2 q0 q1 q2 q3 hg
      have hS0 : Below W0.heap.size W0 W0.drew := (Below.refl _ W0).drew
      refine wp_region_ord (fun w' => Below W0.heap.size W0 w') [0, 1, 2, 3, 4, 5, 6, 7] [(0, 0), (1, 0), (2, 0), (3, 0), (4, 0), (5, 0), (6, 0), (7, 2), (8, 4), (9, 3)] (by kernel_rfl) (by kernel_rfl) rfl (by kernel_rfl) ?_
      refine ord_read (.agg #[.slice a.ro m.refs.length a.rc, .slice (some ⟨b, off, none⟩) m.table.length a.tc, .slice a.so m.snaps.length a.sc, .slice a.dq m.data.length a.dc]) rfl rfl hS0 (fun W hW => by obtain ⟨k0, k1, k2, k3, k4, k5⟩ := unhide HCELL W hW; go_simp) ?_
      refine ord_read (.pointer (some ⟨w.heap.size, 1, none⟩)) rfl rfl hS0 (fun W hW => by go_simp) ?_
      refine ord_read (.slice (some ⟨b, off, none⟩) m.table.length a.tc) rfl rfl hS0 (fun W hW => by obtain ⟨k0, k1, k2, k3, k4, k5⟩ := unhide HCELL W hW; go_simp) ?_
      refine ord_read (.pointer (some ⟨w.heap.size + 1, 1, none⟩)) rfl rfl hS0 (fun W hW => by go_simp) ?_
      refine ord_read (.int .i64 g) rfl rfl hS0 (fun W hW => by obtain ⟨k0, k1, k2, k3, k4, k5⟩ := unhide HCELL W hW; go_simp) ?_
      refine ord_read (.pointer (some ⟨b, off + g, none⟩)) rfl rfl hS0 (fun W hW => by go_simp) ?_
      refine ord_read (.int .i64 T) rfl rfl hS0 (fun W hW => by obtain ⟨k0, k1, k2, k3, k4, k5⟩ := unhide HCELL W hW; go_simp) ?_
      refine ord_held rfl rfl ?_
      intro K hK
      unfold Oper.wp
      go_simp
      refine (unhide HCALL _ hS0).mono ?_
      rintro e w2 ⟨rfl, hb⟩
      have HB2 := hide (fr hS0 hb)
      have HM2 := hide ((unhide HM0).below (unhide HB2))
      refine hK _ _ (unhide HB2) ?_
      clear hK K hS0 hb HM0 HCALL HCELL HB2
      obtain ⟨y0, y1, y2⟩ := (unhide HM2).y.cells
      obtain ⟨z0, z1, z2⟩ := (unhide HM2).y.free
      have HM3 := hide ((unhide HM2).setV V)
      refine ord_val (.pointer (some ⟨w.heap.size + 5, 1, none⟩)) rfl rfl (fun W => by go_simp) ?_
      refine ord_alone rfl rfl ?_
      intro K hK
      unfold Oper.wp
      go_simp
      refine hK _ _ ?_
      clear hK K HM2 y0 y1 y2 z0 z1 z2
      refine ord_done ?_
      revert HM3
      generalize (World.setCell w2 _ _) = W3
      intro HM3
      go_upto_region 9 with fail
      have HB6 : Hid (Below W3.heap.size W3 W3.drew) := hide (Below.refl _ _).drew
      have HM6 := hide ((unhide HM3).below (unhide HB6))
      clear HM3
      refine wp_region_ord (fun w' => VarM w' w.heap.size 32 (.slice a.ro m.refs.length a.rc) (.slice a.tq m.table.length a.tc) (.slice a.so m.snaps.length a.sc) (.slice a.dq m.data.length a.dc) ∧ VarY w' (w.heap.size + 5) (.int .i64 0) (.int .i64 V) (.slice (some ⟨w.heap.size + 4, 0, none⟩) 0 0)) [0, 1, 2] [(0, 0), (1, 0), (2, 2), (3, 3)] (by kernel_rfl) (by kernel_rfl) rfl (by kernel_rfl) ?_
      clear HB6
      revert HM6
      generalize W3.drew = W6
      intro HM6
      have hS0 : VarM W6 w.heap.size 32 (.slice a.ro m.refs.length a.rc) (.slice a.tq m.table.length a.tc) (.slice a.so m.snaps.length a.sc) (.slice a.dq m.data.length a.dc) ∧ VarY W6 (w.heap.size + 5) (.int .i64 0) (.int .i64 V) (.slice (some ⟨w.heap.size + 4, 0, none⟩) 0 0) := ⟨(unhide HM6).v, (unhide HM6).y⟩
      have HP := hide ((unhide HM6).d.fill a m (.int .i64 0) (.int .i64 V) (.slice (some ⟨w.heap.size + 4, 0, none⟩) 0 0))
      unfold putD putY putI at HP
      obtain ⟨r0, r1, r2, r3⟩ := (unhide HM6).d.r.cells
      obtain ⟨z0, z1, z2, z3⟩ := (unhide HM6).d.r.free
      obtain ⟨p0, p1, p2⟩ := (unhide HM6).d.p.cells
      obtain ⟨f0, f1, f2⟩ := (unhide HM6).d.p.free
      refine ord_read (imV a m) rfl rfl hS0 (fun W hW => by obtain ⟨k0, k1, k2, k3⟩ := hW.1.cells; go_simp) ?_
      refine ord_read (.agg #[.int .i64 0, .int .i64 V, .slice (some ⟨w.heap.size + 4, 0, none⟩) 0 0]) rfl rfl hS0 (fun W hW => by obtain ⟨k0, k1, k2⟩ := hW.2.cells; go_simp) ?_
      refine ord_held rfl rfl ?_
      intro K hK
      unfold Oper.wp
      go_simp
      refine hK _ _ ⟨hS0.1.keepX (putI_keep W6 (w.heap.size + 2) a m) (by omega), hS0.2.keepX (putI_keep W6 (w.heap.size + 2) a m) (by omega)⟩ ?_
      clear hK K hS0
      refine ord_alone rfl rfl ?_
      intro K hK
      unfold Oper.wp
      go_simp
      refine hK _ _ ?_
      clear hK K r0 r1 r2 r3 z0 z1 z2 z3 p0 p1 p2 f0 f1 f2
      refine ord_done ?_
      go_wp2
      refine bodyPost_ret (res_ir Tryz.results42 rfl rfl (unhide HP).1 (unhide HP).2.1) rfl ?_
      rw [unhide HXF]
      exact ⟨a, (some ⟨w.heap.size + 4, 0, none⟩), 0, rfl, (unhide HS).below (unhide HP).2.2, OwnNs.none _ _ _, (unhide HP).2.2⟩
  · rw [h] at q0
    have HX0 := hide ((unhide HR).trans (dq_2 h))
    have HXS : Hid ((wcA m q.g q.v).2 ≠ 0 → (wcA m q.g q.v).1 = m) := hide (fun hc => wc_same (unhide HI) hc)
    have HXR : Hid (ImR (wcA m q.g q.v).1) := hide (wc_right (unhide HI))
    have HCL : Hid (∀ W, ImS W a m → Calls Tryz.prog 73 #[imV a m, .int .i64 q.g, .int .i64 q.v] W fun e w' => AnsI W w' e (wcA m q.g q.v)) := hide (fun W hc => writeCluster_spec a m q.g q.v W (unhide HI).L hc)
    clear HR
    revert HCL
    revert HXR
    revert HXS
    revert HX0
    generalize wcA m q.g q.v = X
    intro HX0 HXS HXR HCL
    obtain ⟨c0, c1, c2, c3⟩ := (unhide HM0).v.cells
    go_wp2_with fail
    refine (unhide HCL _ ((unhide HS).below (unhide HM0).d.b)).mono ?_
    rintro e w2 ⟨a2, ts2, rfl, ho, hb⟩
    have HAL := hide (Joins.below_alloc1 w2 (.cells #[.slice a2.ro X.1.refs.length a2.rc, .slice a2.tq X.1.table.length a2.tc, .slice a2.so X.1.snaps.length a2.sc, .slice a2.dq X.1.data.length a2.dc] 32))
    have HM3 := hide (((unhide HM0).below hb).below (unhide HAL))
    have HO3 := hide ((ho.base (unhide HM0).z).below (unhide HAL))
    have HVA : Hid (FlM (w2.alloc (.cells #[.slice a2.ro X.1.refs.length a2.rc, .slice a2.tq X.1.table.length a2.tc, .slice a2.so X.1.snaps.length a2.sc, .slice a2.dq X.1.data.length a2.dc] 32)) w2.heap.size a2 X.1) := hide (VarM.new w2 32 _ _ _ _)
    clear ho hb c0 c1 c2 c3 q0 q1 q2 q3 HM0 HAL HCL h hk
    go_upto_region 12 with fail
    revert HVA
    revert HO3
    revert HM3
    generalize (w2.alloc _) = W3
    intro HM3 HO3 HVA
    obtain ⟨k0, k1, k2, k3⟩ := (unhide HVA).cells
    obtain ⟨x0, x1, x2, x3⟩ := (unhide HM3).x.cells
    obtain ⟨z0, z1, z2, z3⟩ := (unhide HM3).x.free
    have HM4 := hide ((unhide HM3).setX a2 X.1)
    have HO4 := hide (inI_own (x := w.heap.size + 6) (b := a2) (M := X.1) (unhide HO3) (by omega))
    unfold putI at HM4 HO4
    clear HVA HM3 HO3
    go_upto_region 13 with fail
    revert HO4
    revert HM4
    generalize (World.setCell (World.setCell (World.setCell (World.setCell W3 _ _) _ _) _ _) _ _) = W4
    intro HM4 HO4
    clear k0 k1 k2 k3 x0 x1 x2 x3 z0 z1 z2 z3
    obtain ⟨y0, y1, y2⟩ := (unhide HM4).y.cells
    obtain ⟨z0, z1, z2⟩ := (unhide HM4).y.free
    have HM5 := hide ((unhide HM4).setC X.2)
    have HO5 := hide ((unhide HO4).setCell (p := ⟨w.heap.size + 5, 0, none⟩) (by show w.heap.size + 5 < w.heap.size + 7; omega) (.int .i64 X.2))
    clear HM4 HO4
    go_upto_region 37 with fail
    revert HO5
    revert HM5
    generalize (World.setCell W4 _ _) = W5
    intro HM5 HO5
    clear y0 y1 y2 z0 z1 z2
    obtain ⟨y0, y1, y2⟩ := (unhide HM5).y.cells
    by_cases hc : X.2 = 0
    case pos =>
      have hne : (X.2 != 0) = false := by rw [hc]; rfl
      have HXF : Hid (R = (X.1, ⟨X.2, 0, []⟩)) := HX0
      clear HXS HX0 hc
      go_upto_region 39 with fail
      clear y0 y1 y2
      have HB6 : Hid (Below W5.heap.size W5 W5.drew) := hide (Below.refl _ _).drew
      have HM6 := hide ((unhide HM5).below (unhide HB6))
      have HO6 := hide ((unhide HO5).below (unhide HB6))
      clear HM5
      refine wp_region_ord (fun w' => FlM w' (w.heap.size + 6) a2 X.1 ∧ VarY w' (w.heap.size + 5) (.int .i64 X.2) (.int .i64 0) (.slice (some ⟨w.heap.size + 4, 0, none⟩) 0 0)) [0, 1, 2] [(0, 0), (1, 0), (2, 2), (3, 3)] (by kernel_rfl) (by kernel_rfl) rfl (by kernel_rfl) ?_
      clear HB6
      revert HO6
      revert HM6
      generalize W5.drew = W6
      intro HM6 HO6
      have hS0 : FlM W6 (w.heap.size + 6) a2 X.1 ∧ VarY W6 (w.heap.size + 5) (.int .i64 X.2) (.int .i64 0) (.slice (some ⟨w.heap.size + 4, 0, none⟩) 0 0) := ⟨(unhide HM6).x, (unhide HM6).y⟩
      have HP := hide ((unhide HM6).d.fill a2 X.1 (.int .i64 X.2) (.int .i64 0) (.slice (some ⟨w.heap.size + 4, 0, none⟩) 0 0))
      have HF := hide (inD_own (x := w.heap.size + 2) (b := a2) (M := X.1) (v0 := .int .i64 X.2) (v1 := .int .i64 0) (v2 := .slice (some ⟨w.heap.size + 4, 0, none⟩) 0 0) (unhide HO6) (by omega))
      unfold putD putY putI at HP HF
      obtain ⟨r0, r1, r2, r3⟩ := (unhide HM6).d.r.cells
      obtain ⟨z0, z1, z2, z3⟩ := (unhide HM6).d.r.free
      obtain ⟨p0, p1, p2⟩ := (unhide HM6).d.p.cells
      obtain ⟨f0, f1, f2⟩ := (unhide HM6).d.p.free
      refine ord_read (imV a2 X.1) rfl rfl hS0 (fun W hW => by obtain ⟨k0, k1, k2, k3⟩ := hW.1.cells; go_simp) ?_
      refine ord_read (.agg #[.int .i64 X.2, .int .i64 0, .slice (some ⟨w.heap.size + 4, 0, none⟩) 0 0]) rfl rfl hS0 (fun W hW => by obtain ⟨k0, k1, k2⟩ := hW.2.cells; go_simp) ?_
      refine ord_held rfl rfl ?_
      intro K hK
      unfold Oper.wp
      go_simp
      refine hK _ _ ⟨hS0.1.keepX (putI_keep W6 (w.heap.size + 2) a2 X.1) (by omega), hS0.2.keepX (putI_keep W6 (w.heap.size + 2) a2 X.1) (by omega)⟩ ?_
      clear hK K hS0
      refine ord_alone rfl rfl ?_
      intro K hK
      unfold Oper.wp
      go_simp
      refine hK _ _ ?_
      clear hK K r0 r1 r2 r3 z0 z1 z2 z3 p0 p1 p2 f0 f1 f2
      refine ord_done ?_
      go_wp2
      refine bodyPost_ret (res_ir Tryz.results42 rfl rfl (unhide HP).1 (unhide HP).2.1) rfl ?_
      rw [unhide HXF]
      exact ⟨a2, (some ⟨w.heap.size + 4, 0, none⟩), 0, rfl, (unhide HF).showsR (unhide HXR), OwnNs.none _ _ _, (unhide HP).2.2⟩
    case neg =>
      have hne : (X.2 != 0) = true := by simpa using hc
      have HXF : Hid (R = (m, ⟨X.2, 0, []⟩)) := hide (by rw [unhide HX0, unhide HXS hc])
      clear HXS HX0 hc HO5
      go_upto_region 38 with fail
      clear y0 y1 y2
      have HB6 : Hid (Below W5.heap.size W5 W5.drew) := hide (Below.refl _ _).drew
      have HM6 := hide ((unhide HM5).below (unhide HB6))
      clear HM5
      refine wp_region_ord (fun w' => VarM w' w.heap.size 32 (.slice a.ro m.refs.length a.rc) (.slice a.tq m.table.length a.tc) (.slice a.so m.snaps.length a.sc) (.slice a.dq m.data.length a.dc) ∧ VarY w' (w.heap.size + 5) (.int .i64 X.2) (.int .i64 0) (.slice (some ⟨w.heap.size + 4, 0, none⟩) 0 0)) [0, 1, 2] [(0, 0), (1, 0), (2, 2), (3, 3)] (by kernel_rfl) (by kernel_rfl) rfl (by kernel_rfl) ?_
      clear HB6
      revert HM6
      generalize W5.drew = W6
      intro HM6
      have hS0 : VarM W6 w.heap.size 32 (.slice a.ro m.refs.length a.rc) (.slice a.tq m.table.length a.tc) (.slice a.so m.snaps.length a.sc) (.slice a.dq m.data.length a.dc) ∧ VarY W6 (w.heap.size + 5) (.int .i64 X.2) (.int .i64 0) (.slice (some ⟨w.heap.size + 4, 0, none⟩) 0 0) := ⟨(unhide HM6).v, (unhide HM6).y⟩
      have HP := hide ((unhide HM6).d.fill a m (.int .i64 X.2) (.int .i64 0) (.slice (some ⟨w.heap.size + 4, 0, none⟩) 0 0))
      unfold putD putY putI at HP
      obtain ⟨r0, r1, r2, r3⟩ := (unhide HM6).d.r.cells
      obtain ⟨z0, z1, z2, z3⟩ := (unhide HM6).d.r.free
      obtain ⟨p0, p1, p2⟩ := (unhide HM6).d.p.cells
      obtain ⟨f0, f1, f2⟩ := (unhide HM6).d.p.free
      refine ord_read (imV a m) rfl rfl hS0 (fun W hW => by obtain ⟨k0, k1, k2, k3⟩ := hW.1.cells; go_simp) ?_
      refine ord_read (.agg #[.int .i64 X.2, .int .i64 0, .slice (some ⟨w.heap.size + 4, 0, none⟩) 0 0]) rfl rfl hS0 (fun W hW => by obtain ⟨k0, k1, k2⟩ := hW.2.cells; go_simp) ?_
      refine ord_held rfl rfl ?_
      intro K hK
      unfold Oper.wp
      go_simp
      refine hK _ _ ⟨hS0.1.keepX (putI_keep W6 (w.heap.size + 2) a m) (by omega), hS0.2.keepX (putI_keep W6 (w.heap.size + 2) a m) (by omega)⟩ ?_
      clear hK K hS0
      refine ord_alone rfl rfl ?_
      intro K hK
      unfold Oper.wp
      go_simp
      refine hK _ _ ?_
      clear hK K r0 r1 r2 r3 z0 z1 z2 z3 p0 p1 p2 f0 f1 f2
      refine ord_done ?_
      go_wp2
      refine bodyPost_ret (res_ir Tryz.results42 rfl rfl (unhide HP).1 (unhide HP).2.1) rfl ?_
      rw [unhide HXF]
      exact ⟨a, (some ⟨w.heap.size + 4, 0, none⟩), 0, rfl, (unhide HS).below (unhide HP).2.2, OwnNs.none _ _ _, (unhide HP).2.2⟩
  · rw [h] at q0
    have HX0 := hide ((unhide HR).trans (dq_3 h))
    have HXS : Hid ((zcA m q.g).2 ≠ 0 → (zcA m q.g).1 = m) := hide (fun hc => zc_same (unhide HI) hc)
    have HXR : Hid (ImR (zcA m q.g).1) := hide (zc_right (unhide HI))
    have HCL : Hid (∀ W, ImS W a m → Calls Tryz.prog 74 #[imV a m, .int .i64 q.g] W fun e w' => AnsI W w' e (zcA m q.g)) := hide (fun W hc => zeroCluster_spec a m q.g W (unhide HI).L hc)
    clear HR
    revert HCL
    revert HXR
    revert HXS
    revert HX0
    generalize zcA m q.g = X
    intro HX0 HXS HXR HCL
    obtain ⟨c0, c1, c2, c3⟩ := (unhide HM0).v.cells
    go_wp2_with fail
    refine (unhide HCL _ ((unhide HS).below (unhide HM0).d.b)).mono ?_
    rintro e w2 ⟨a2, ts2, rfl, ho, hb⟩
    have HAL := hide (Joins.below_alloc1 w2 (.cells #[.slice a2.ro X.1.refs.length a2.rc, .slice a2.tq X.1.table.length a2.tc, .slice a2.so X.1.snaps.length a2.sc, .slice a2.dq X.1.data.length a2.dc] 32))
    have HM3 := hide (((unhide HM0).below hb).below (unhide HAL))
    have HO3 := hide ((ho.base (unhide HM0).z).below (unhide HAL))
    have HVA : Hid (FlM (w2.alloc (.cells #[.slice a2.ro X.1.refs.length a2.rc, .slice a2.tq X.1.table.length a2.tc, .slice a2.so X.1.snaps.length a2.sc, .slice a2.dq X.1.data.length a2.dc] 32)) w2.heap.size a2 X.1) := hide (VarM.new w2 32 _ _ _ _)
    clear ho hb c0 c1 c2 c3 q0 q1 q2 q3 HM0 HAL HCL h hk
    go_upto_region 16 with fail
    revert HVA
    revert HO3
    revert HM3
    generalize (w2.alloc _) = W3
    intro HM3 HO3 HVA
    obtain ⟨k0, k1, k2, k3⟩ := (unhide HVA).cells
    obtain ⟨x0, x1, x2, x3⟩ := (unhide HM3).x.cells
    obtain ⟨z0, z1, z2, z3⟩ := (unhide HM3).x.free
    have HM4 := hide ((unhide HM3).setX a2 X.1)
    have HO4 := hide (inI_own (x := w.heap.size + 6) (b := a2) (M := X.1) (unhide HO3) (by omega))
    unfold putI at HM4 HO4
    clear HVA HM3 HO3
    go_upto_region 17 with fail
    revert HO4
    revert HM4
    generalize (World.setCell (World.setCell (World.setCell (World.setCell W3 _ _) _ _) _ _) _ _) = W4
    intro HM4 HO4
    clear k0 k1 k2 k3 x0 x1 x2 x3 z0 z1 z2 z3
    obtain ⟨y0, y1, y2⟩ := (unhide HM4).y.cells
    obtain ⟨z0, z1, z2⟩ := (unhide HM4).y.free
    have HM5 := hide ((unhide HM4).setC X.2)
    have HO5 := hide ((unhide HO4).setCell (p := ⟨w.heap.size + 5, 0, none⟩) (by show w.heap.size + 5 < w.heap.size + 7; omega) (.int .i64 X.2))
    clear HM4 HO4
    go_upto_region 37 with fail
    revert HO5
    revert HM5
    generalize (World.setCell W4 _ _) = W5
    intro HM5 HO5
    clear y0 y1 y2 z0 z1 z2
    obtain ⟨y0, y1, y2⟩ := (unhide HM5).y.cells
    by_cases hc : X.2 = 0
    case pos =>
      have hne : (X.2 != 0) = false := by rw [hc]; rfl
      have HXF : Hid (R = (X.1, ⟨X.2, 0, []⟩)) := HX0
      clear HXS HX0 hc
      go_upto_region 39 with fail
      clear y0 y1 y2
      have HB6 : Hid (Below W5.heap.size W5 W5.drew) := hide (Below.refl _ _).drew
      have HM6 := hide ((unhide HM5).below (unhide HB6))
      have HO6 := hide ((unhide HO5).below (unhide HB6))
      clear HM5
      refine wp_region_ord (fun w' => FlM w' (w.heap.size + 6) a2 X.1 ∧ VarY w' (w.heap.size + 5) (.int .i64 X.2) (.int .i64 0) (.slice (some ⟨w.heap.size + 4, 0, none⟩) 0 0)) [0, 1, 2] [(0, 0), (1, 0), (2, 2), (3, 3)] (by kernel_rfl) (by kernel_rfl) rfl (by kernel_rfl) ?_
      clear HB6
      revert HO6
      revert HM6
      generalize W5.drew = W6
      intro HM6 HO6
      have hS0 : FlM W6 (w.heap.size + 6) a2 X.1 ∧ VarY W6 (w.heap.size + 5) (.int .i64 X.2) (.int .i64 0) (.slice (some ⟨w.heap.size + 4, 0, none⟩) 0 0) := ⟨(unhide HM6).x, (unhide HM6).y⟩
      have HP := hide ((unhide HM6).d.fill a2 X.1 (.int .i64 X.2) (.int .i64 0) (.slice (some ⟨w.heap.size + 4, 0, none⟩) 0 0))
      have HF := hide (inD_own (x := w.heap.size + 2) (b := a2) (M := X.1) (v0 := .int .i64 X.2) (v1 := .int .i64 0) (v2 := .slice (some ⟨w.heap.size + 4, 0, none⟩) 0 0) (unhide HO6) (by omega))
      unfold putD putY putI at HP HF
      obtain ⟨r0, r1, r2, r3⟩ := (unhide HM6).d.r.cells
      obtain ⟨z0, z1, z2, z3⟩ := (unhide HM6).d.r.free
      obtain ⟨p0, p1, p2⟩ := (unhide HM6).d.p.cells
      obtain ⟨f0, f1, f2⟩ := (unhide HM6).d.p.free
      refine ord_read (imV a2 X.1) rfl rfl hS0 (fun W hW => by obtain ⟨k0, k1, k2, k3⟩ := hW.1.cells; go_simp) ?_
      refine ord_read (.agg #[.int .i64 X.2, .int .i64 0, .slice (some ⟨w.heap.size + 4, 0, none⟩) 0 0]) rfl rfl hS0 (fun W hW => by obtain ⟨k0, k1, k2⟩ := hW.2.cells; go_simp) ?_
      refine ord_held rfl rfl ?_
      intro K hK
      unfold Oper.wp
      go_simp
      refine hK _ _ ⟨hS0.1.keepX (putI_keep W6 (w.heap.size + 2) a2 X.1) (by omega), hS0.2.keepX (putI_keep W6 (w.heap.size + 2) a2 X.1) (by omega)⟩ ?_
      clear hK K hS0
      refine ord_alone rfl rfl ?_
      intro K hK
      unfold Oper.wp
      go_simp
      refine hK _ _ ?_
      clear hK K r0 r1 r2 r3 z0 z1 z2 z3 p0 p1 p2 f0 f1 f2
      refine ord_done ?_
      go_wp2
      refine bodyPost_ret (res_ir Tryz.results42 rfl rfl (unhide HP).1 (unhide HP).2.1) rfl ?_
      rw [unhide HXF]
      exact ⟨a2, (some ⟨w.heap.size + 4, 0, none⟩), 0, rfl, (unhide HF).showsR (unhide HXR), OwnNs.none _ _ _, (unhide HP).2.2⟩
    case neg =>
      have hne : (X.2 != 0) = true := by simpa using hc
      have HXF : Hid (R = (m, ⟨X.2, 0, []⟩)) := hide (by rw [unhide HX0, unhide HXS hc])
      clear HXS HX0 hc HO5
      go_upto_region 38 with fail
      clear y0 y1 y2
      have HB6 : Hid (Below W5.heap.size W5 W5.drew) := hide (Below.refl _ _).drew
      have HM6 := hide ((unhide HM5).below (unhide HB6))
      clear HM5
      refine wp_region_ord (fun w' => VarM w' w.heap.size 32 (.slice a.ro m.refs.length a.rc) (.slice a.tq m.table.length a.tc) (.slice a.so m.snaps.length a.sc) (.slice a.dq m.data.length a.dc) ∧ VarY w' (w.heap.size + 5) (.int .i64 X.2) (.int .i64 0) (.slice (some ⟨w.heap.size + 4, 0, none⟩) 0 0)) [0, 1, 2] [(0, 0), (1, 0), (2, 2), (3, 3)] (by kernel_rfl) (by kernel_rfl) rfl (by kernel_rfl) ?_
      clear HB6
      revert HM6
      generalize W5.drew = W6
      intro HM6
      have hS0 : VarM W6 w.heap.size 32 (.slice a.ro m.refs.length a.rc) (.slice a.tq m.table.length a.tc) (.slice a.so m.snaps.length a.sc) (.slice a.dq m.data.length a.dc) ∧ VarY W6 (w.heap.size + 5) (.int .i64 X.2) (.int .i64 0) (.slice (some ⟨w.heap.size + 4, 0, none⟩) 0 0) := ⟨(unhide HM6).v, (unhide HM6).y⟩
      have HP := hide ((unhide HM6).d.fill a m (.int .i64 X.2) (.int .i64 0) (.slice (some ⟨w.heap.size + 4, 0, none⟩) 0 0))
      unfold putD putY putI at HP
      obtain ⟨r0, r1, r2, r3⟩ := (unhide HM6).d.r.cells
      obtain ⟨z0, z1, z2, z3⟩ := (unhide HM6).d.r.free
      obtain ⟨p0, p1, p2⟩ := (unhide HM6).d.p.cells
      obtain ⟨f0, f1, f2⟩ := (unhide HM6).d.p.free
      refine ord_read (imV a m) rfl rfl hS0 (fun W hW => by obtain ⟨k0, k1, k2, k3⟩ := hW.1.cells; go_simp) ?_
      refine ord_read (.agg #[.int .i64 X.2, .int .i64 0, .slice (some ⟨w.heap.size + 4, 0, none⟩) 0 0]) rfl rfl hS0 (fun W hW => by obtain ⟨k0, k1, k2⟩ := hW.2.cells; go_simp) ?_
      refine ord_held rfl rfl ?_
      intro K hK
      unfold Oper.wp
      go_simp
      refine hK _ _ ⟨hS0.1.keepX (putI_keep W6 (w.heap.size + 2) a m) (by omega), hS0.2.keepX (putI_keep W6 (w.heap.size + 2) a m) (by omega)⟩ ?_
      clear hK K hS0
      refine ord_alone rfl rfl ?_
      intro K hK
      unfold Oper.wp
      go_simp
      refine hK _ _ ?_
      clear hK K r0 r1 r2 r3 z0 z1 z2 z3 p0 p1 p2 f0 f1 f2
      refine ord_done ?_
      go_wp2
      refine bodyPost_ret (res_ir Tryz.results42 rfl rfl (unhide HP).1 (unhide HP).2.1) rfl ?_
      rw [unhide HXF]
      exact ⟨a, (some ⟨w.heap.size + 4, 0, none⟩), 0, rfl, (unhide HS).below (unhide HP).2.2, OwnNs.none _ _ _, (unhide HP).2.2⟩
  · rw [h] at q0
    have HX0 := hide ((unhide HR).trans (dq_4 h))
    have HXS : Hid ((rsA' m q.g).2 ≠ 0 → (rsA' m q.g).1 = m) := hide (fun hc => rs_same (unhide HI) hc)
    have HXR : Hid (ImR (rsA' m q.g).1) := hide (rs_right (unhide HI))
    have HCL : Hid (∀ W, ImS W a m → Calls Tryz.prog 75 #[imV a m, .int .i64 q.g] W fun e w' => AnsI W w' e (rsA' m q.g)) := hide (fun W hc => resizeImage_spec a m q.g W (unhide HI).L hc)
    clear HR
    revert HCL
    revert HXR
    revert HXS
    revert HX0
    generalize rsA' m q.g = X
    intro HX0 HXS HXR HCL
    obtain ⟨c0, c1, c2, c3⟩ := (unhide HM0).v.cells
    go_wp2_with fail
    refine (unhide HCL _ ((unhide HS).below (unhide HM0).d.b)).mono ?_
    rintro e w2 ⟨a2, ts2, rfl, ho, hb⟩
    have HAL := hide (Joins.below_alloc1 w2 (.cells #[.slice a2.ro X.1.refs.length a2.rc, .slice a2.tq X.1.table.length a2.tc, .slice a2.so X.1.snaps.length a2.sc, .slice a2.dq X.1.data.length a2.dc] 32))
    have HM3 := hide (((unhide HM0).below hb).below (unhide HAL))
    have HO3 := hide ((ho.base (unhide HM0).z).below (unhide HAL))
    have HVA : Hid (FlM (w2.alloc (.cells #[.slice a2.ro X.1.refs.length a2.rc, .slice a2.tq X.1.table.length a2.tc, .slice a2.so X.1.snaps.length a2.sc, .slice a2.dq X.1.data.length a2.dc] 32)) w2.heap.size a2 X.1) := hide (VarM.new w2 32 _ _ _ _)
    clear ho hb c0 c1 c2 c3 q0 q1 q2 q3 HM0 HAL HCL h hk
    go_upto_region 20 with fail
    revert HVA
    revert HO3
    revert HM3
    generalize (w2.alloc _) = W3
    intro HM3 HO3 HVA
    obtain ⟨k0, k1, k2, k3⟩ := (unhide HVA).cells
    obtain ⟨x0, x1, x2, x3⟩ := (unhide HM3).x.cells
    obtain ⟨z0, z1, z2, z3⟩ := (unhide HM3).x.free
    have HM4 := hide ((unhide HM3).setX a2 X.1)
    have HO4 := hide (inI_own (x := w.heap.size + 6) (b := a2) (M := X.1) (unhide HO3) (by omega))
    unfold putI at HM4 HO4
    clear HVA HM3 HO3
    go_upto_region 21 with fail
    revert HO4
    revert HM4
    generalize (World.setCell (World.setCell (World.setCell (World.setCell W3 _ _) _ _) _ _) _ _) = W4
    intro HM4 HO4
    clear k0 k1 k2 k3 x0 x1 x2 x3 z0 z1 z2 z3
    obtain ⟨y0, y1, y2⟩ := (unhide HM4).y.cells
    obtain ⟨z0, z1, z2⟩ := (unhide HM4).y.free
    have HM5 := hide ((unhide HM4).setC X.2)
    have HO5 := hide ((unhide HO4).setCell (p := ⟨w.heap.size + 5, 0, none⟩) (by show w.heap.size + 5 < w.heap.size + 7; omega) (.int .i64 X.2))
    clear HM4 HO4
    go_upto_region 37 with fail
    revert HO5
    revert HM5
    generalize (World.setCell W4 _ _) = W5
    intro HM5 HO5
    clear y0 y1 y2 z0 z1 z2
    obtain ⟨y0, y1, y2⟩ := (unhide HM5).y.cells
    by_cases hc : X.2 = 0
    case pos =>
      have hne : (X.2 != 0) = false := by rw [hc]; rfl
      have HXF : Hid (R = (X.1, ⟨X.2, 0, []⟩)) := HX0
      clear HXS HX0 hc
      go_upto_region 39 with fail
      clear y0 y1 y2
      have HB6 : Hid (Below W5.heap.size W5 W5.drew) := hide (Below.refl _ _).drew
      have HM6 := hide ((unhide HM5).below (unhide HB6))
      have HO6 := hide ((unhide HO5).below (unhide HB6))
      clear HM5
      refine wp_region_ord (fun w' => FlM w' (w.heap.size + 6) a2 X.1 ∧ VarY w' (w.heap.size + 5) (.int .i64 X.2) (.int .i64 0) (.slice (some ⟨w.heap.size + 4, 0, none⟩) 0 0)) [0, 1, 2] [(0, 0), (1, 0), (2, 2), (3, 3)] (by kernel_rfl) (by kernel_rfl) rfl (by kernel_rfl) ?_
      clear HB6
      revert HO6
      revert HM6
      generalize W5.drew = W6
      intro HM6 HO6
      have hS0 : FlM W6 (w.heap.size + 6) a2 X.1 ∧ VarY W6 (w.heap.size + 5) (.int .i64 X.2) (.int .i64 0) (.slice (some ⟨w.heap.size + 4, 0, none⟩) 0 0) := ⟨(unhide HM6).x, (unhide HM6).y⟩
      have HP := hide ((unhide HM6).d.fill a2 X.1 (.int .i64 X.2) (.int .i64 0) (.slice (some ⟨w.heap.size + 4, 0, none⟩) 0 0))
      have HF := hide (inD_own (x := w.heap.size + 2) (b := a2) (M := X.1) (v0 := .int .i64 X.2) (v1 := .int .i64 0) (v2 := .slice (some ⟨w.heap.size + 4, 0, none⟩) 0 0) (unhide HO6) (by omega))
      unfold putD putY putI at HP HF
      obtain ⟨r0, r1, r2, r3⟩ := (unhide HM6).d.r.cells
      obtain ⟨z0, z1, z2, z3⟩ := (unhide HM6).d.r.free
      obtain ⟨p0, p1, p2⟩ := (unhide HM6).d.p.cells
      obtain ⟨f0, f1, f2⟩ := (unhide HM6).d.p.free
      refine ord_read (imV a2 X.1) rfl rfl hS0 (fun W hW => by obtain ⟨k0, k1, k2, k3⟩ := hW.1.cells; go_simp) ?_
      refine ord_read (.agg #[.int .i64 X.2, .int .i64 0, .slice (some ⟨w.heap.size + 4, 0, none⟩) 0 0]) rfl rfl hS0 (fun W hW => by obtain ⟨k0, k1, k2⟩ := hW.2.cells; go_simp) ?_
      refine ord_held rfl rfl ?_
      intro K hK
      unfold Oper.wp
      go_simp
      refine hK _ _ ⟨hS0.1.keepX (putI_keep W6 (w.heap.size + 2) a2 X.1) (by omega), hS0.2.keepX (putI_keep W6 (w.heap.size + 2) a2 X.1) (by omega)⟩ ?_
      clear hK K hS0
      refine ord_alone rfl rfl ?_
      intro K hK
      unfold Oper.wp
      go_simp
      refine hK _ _ ?_
      clear hK K r0 r1 r2 r3 z0 z1 z2 z3 p0 p1 p2 f0 f1 f2
      refine ord_done ?_
      go_wp2
      refine bodyPost_ret (res_ir Tryz.results42 rfl rfl (unhide HP).1 (unhide HP).2.1) rfl ?_
      rw [unhide HXF]
      exact ⟨a2, (some ⟨w.heap.size + 4, 0, none⟩), 0, rfl, (unhide HF).showsR (unhide HXR), OwnNs.none _ _ _, (unhide HP).2.2⟩
    case neg =>
      have hne : (X.2 != 0) = true := by simpa using hc
      have HXF : Hid (R = (m, ⟨X.2, 0, []⟩)) := hide (by rw [unhide HX0, unhide HXS hc])
      clear HXS HX0 hc HO5
      go_upto_region 38 with fail
      clear y0 y1 y2
      have HB6 : Hid (Below W5.heap.size W5 W5.drew) := hide (Below.refl _ _).drew
      have HM6 := hide ((unhide HM5).below (unhide HB6))
      clear HM5
      refine wp_region_ord (fun w' => VarM w' w.heap.size 32 (.slice a.ro m.refs.length a.rc) (.slice a.tq m.table.length a.tc) (.slice a.so m.snaps.length a.sc) (.slice a.dq m.data.length a.dc) ∧ VarY w' (w.heap.size + 5) (.int .i64 X.2) (.int .i64 0) (.slice (some ⟨w.heap.size + 4, 0, none⟩) 0 0)) [0, 1, 2] [(0, 0), (1, 0), (2, 2), (3, 3)] (by kernel_rfl) (by kernel_rfl) rfl (by kernel_rfl) ?_
      clear HB6
      revert HM6
      generalize W5.drew = W6
      intro HM6
      have hS0 : VarM W6 w.heap.size 32 (.slice a.ro m.refs.length a.rc) (.slice a.tq m.table.length a.tc) (.slice a.so m.snaps.length a.sc) (.slice a.dq m.data.length a.dc) ∧ VarY W6 (w.heap.size + 5) (.int .i64 X.2) (.int .i64 0) (.slice (some ⟨w.heap.size + 4, 0, none⟩) 0 0) := ⟨(unhide HM6).v, (unhide HM6).y⟩
      have HP := hide ((unhide HM6).d.fill a m (.int .i64 X.2) (.int .i64 0) (.slice (some ⟨w.heap.size + 4, 0, none⟩) 0 0))
      unfold putD putY putI at HP
      obtain ⟨r0, r1, r2, r3⟩ := (unhide HM6).d.r.cells
      obtain ⟨z0, z1, z2, z3⟩ := (unhide HM6).d.r.free
      obtain ⟨p0, p1, p2⟩ := (unhide HM6).d.p.cells
      obtain ⟨f0, f1, f2⟩ := (unhide HM6).d.p.free
      refine ord_read (imV a m) rfl rfl hS0 (fun W hW => by obtain ⟨k0, k1, k2, k3⟩ := hW.1.cells; go_simp) ?_
      refine ord_read (.agg #[.int .i64 X.2, .int .i64 0, .slice (some ⟨w.heap.size + 4, 0, none⟩) 0 0]) rfl rfl hS0 (fun W hW => by obtain ⟨k0, k1, k2⟩ := hW.2.cells; go_simp) ?_
      refine ord_held rfl rfl ?_
      intro K hK
      unfold Oper.wp
      go_simp
      refine hK _ _ ⟨hS0.1.keepX (putI_keep W6 (w.heap.size + 2) a m) (by omega), hS0.2.keepX (putI_keep W6 (w.heap.size + 2) a m) (by omega)⟩ ?_
      clear hK K hS0
      refine ord_alone rfl rfl ?_
      intro K hK
      unfold Oper.wp
      go_simp
      refine hK _ _ ?_
      clear hK K r0 r1 r2 r3 z0 z1 z2 z3 p0 p1 p2 f0 f1 f2
      refine ord_done ?_
      go_wp2
      refine bodyPost_ret (res_ir Tryz.results42 rfl rfl (unhide HP).1 (unhide HP).2.1) rfl ?_
      rw [unhide HXF]
      exact ⟨a, (some ⟨w.heap.size + 4, 0, none⟩), 0, rfl, (unhide HS).below (unhide HP).2.2, OwnNs.none _ _ _, (unhide HP).2.2⟩
  · rw [h] at q0
    have HX0 := hide ((unhide HR).trans (dq_5 h))
    have HXS : Hid ((scA m q.n).2 ≠ 0 → (scA m q.n).1 = m) := hide (fun hc => sc_same (unhide HI) hc)
    have HXR : Hid (ImR (scA m q.n).1) := hide (sc_right (unhide HI))
    have HCL : Hid (∀ W, ImS W a m → Calls Tryz.prog 76 #[imV a m, .string q.n] W fun e w' => AnsI W w' e (scA m q.n)) := hide (fun W hc => l10Create_R a m q.n (scA m q.n) W (if_pos (imB_iff.2 (unhide HI))) (unhide HI).M (unhide HI).table (by have := unhide HZ; unfold maxLen; omega) hc)
    clear HR
    revert HCL
    revert HXR
    revert HXS
    revert HX0
    generalize scA m q.n = X
    intro HX0 HXS HXR HCL
    obtain ⟨c0, c1, c2, c3⟩ := (unhide HM0).v.cells
    go_wp2_with fail
    refine (unhide HCL _ ((unhide HS).below (unhide HM0).d.b)).mono ?_
    rintro e w2 ⟨a2, ts2, rfl, ho, hb⟩
    have HAL := hide (Joins.below_alloc1 w2 (.cells #[.slice a2.ro X.1.refs.length a2.rc, .slice a2.tq X.1.table.length a2.tc, .slice a2.so X.1.snaps.length a2.sc, .slice a2.dq X.1.data.length a2.dc] 32))
    have HM3 := hide (((unhide HM0).below hb).below (unhide HAL))
    have HO3 := hide ((ho.base (unhide HM0).z).below (unhide HAL))
    have HVA : Hid (FlM (w2.alloc (.cells #[.slice a2.ro X.1.refs.length a2.rc, .slice a2.tq X.1.table.length a2.tc, .slice a2.so X.1.snaps.length a2.sc, .slice a2.dq X.1.data.length a2.dc] 32)) w2.heap.size a2 X.1) := hide (VarM.new w2 32 _ _ _ _)
    clear ho hb c0 c1 c2 c3 q0 q1 q2 q3 HM0 HAL HCL h hk
    go_upto_region 24 with fail
    revert HVA
    revert HO3
    revert HM3
    generalize (w2.alloc _) = W3
    intro HM3 HO3 HVA
    obtain ⟨k0, k1, k2, k3⟩ := (unhide HVA).cells
    obtain ⟨x0, x1, x2, x3⟩ := (unhide HM3).x.cells
    obtain ⟨z0, z1, z2, z3⟩ := (unhide HM3).x.free
    have HM4 := hide ((unhide HM3).setX a2 X.1)
    have HO4 := hide (inI_own (x := w.heap.size + 6) (b := a2) (M := X.1) (unhide HO3) (by omega))
    unfold putI at HM4 HO4
    clear HVA HM3 HO3
    go_upto_region 25 with fail
    revert HO4
    revert HM4
    generalize (World.setCell (World.setCell (World.setCell (World.setCell W3 _ _) _ _) _ _) _ _) = W4
    intro HM4 HO4
    clear k0 k1 k2 k3 x0 x1 x2 x3 z0 z1 z2 z3
    obtain ⟨y0, y1, y2⟩ := (unhide HM4).y.cells
    obtain ⟨z0, z1, z2⟩ := (unhide HM4).y.free
    have HM5 := hide ((unhide HM4).setC X.2)
    have HO5 := hide ((unhide HO4).setCell (p := ⟨w.heap.size + 5, 0, none⟩) (by show w.heap.size + 5 < w.heap.size + 7; omega) (.int .i64 X.2))
    clear HM4 HO4
    go_upto_region 37 with fail
    revert HO5
    revert HM5
    generalize (World.setCell W4 _ _) = W5
    intro HM5 HO5
    clear y0 y1 y2 z0 z1 z2
    obtain ⟨y0, y1, y2⟩ := (unhide HM5).y.cells
    by_cases hc : X.2 = 0
    case pos =>
      have hne : (X.2 != 0) = false := by rw [hc]; rfl
      have HXF : Hid (R = (X.1, ⟨X.2, 0, []⟩)) := HX0
      clear HXS HX0 hc
      go_upto_region 39 with fail
      clear y0 y1 y2
      have HB6 : Hid (Below W5.heap.size W5 W5.drew) := hide (Below.refl _ _).drew
      have HM6 := hide ((unhide HM5).below (unhide HB6))
      have HO6 := hide ((unhide HO5).below (unhide HB6))
      clear HM5
      refine wp_region_ord (fun w' => FlM w' (w.heap.size + 6) a2 X.1 ∧ VarY w' (w.heap.size + 5) (.int .i64 X.2) (.int .i64 0) (.slice (some ⟨w.heap.size + 4, 0, none⟩) 0 0)) [0, 1, 2] [(0, 0), (1, 0), (2, 2), (3, 3)] (by kernel_rfl) (by kernel_rfl) rfl (by kernel_rfl) ?_
      clear HB6
      revert HO6
      revert HM6
      generalize W5.drew = W6
      intro HM6 HO6
      have hS0 : FlM W6 (w.heap.size + 6) a2 X.1 ∧ VarY W6 (w.heap.size + 5) (.int .i64 X.2) (.int .i64 0) (.slice (some ⟨w.heap.size + 4, 0, none⟩) 0 0) := ⟨(unhide HM6).x, (unhide HM6).y⟩
      have HP := hide ((unhide HM6).d.fill a2 X.1 (.int .i64 X.2) (.int .i64 0) (.slice (some ⟨w.heap.size + 4, 0, none⟩) 0 0))
      have HF := hide (inD_own (x := w.heap.size + 2) (b := a2) (M := X.1) (v0 := .int .i64 X.2) (v1 := .int .i64 0) (v2 := .slice (some ⟨w.heap.size + 4, 0, none⟩) 0 0) (unhide HO6) (by omega))
      unfold putD putY putI at HP HF
      obtain ⟨r0, r1, r2, r3⟩ := (unhide HM6).d.r.cells
      obtain ⟨z0, z1, z2, z3⟩ := (unhide HM6).d.r.free
      obtain ⟨p0, p1, p2⟩ := (unhide HM6).d.p.cells
      obtain ⟨f0, f1, f2⟩ := (unhide HM6).d.p.free
      refine ord_read (imV a2 X.1) rfl rfl hS0 (fun W hW => by obtain ⟨k0, k1, k2, k3⟩ := hW.1.cells; go_simp) ?_
      refine ord_read (.agg #[.int .i64 X.2, .int .i64 0, .slice (some ⟨w.heap.size + 4, 0, none⟩) 0 0]) rfl rfl hS0 (fun W hW => by obtain ⟨k0, k1, k2⟩ := hW.2.cells; go_simp) ?_
      refine ord_held rfl rfl ?_
      intro K hK
      unfold Oper.wp
      go_simp
      refine hK _ _ ⟨hS0.1.keepX (putI_keep W6 (w.heap.size + 2) a2 X.1) (by omega), hS0.2.keepX (putI_keep W6 (w.heap.size + 2) a2 X.1) (by omega)⟩ ?_
      clear hK K hS0
      refine ord_alone rfl rfl ?_
      intro K hK
      unfold Oper.wp
      go_simp
      refine hK _ _ ?_
      clear hK K r0 r1 r2 r3 z0 z1 z2 z3 p0 p1 p2 f0 f1 f2
      refine ord_done ?_
      go_wp2
      refine bodyPost_ret (res_ir Tryz.results42 rfl rfl (unhide HP).1 (unhide HP).2.1) rfl ?_
      rw [unhide HXF]
      exact ⟨a2, (some ⟨w.heap.size + 4, 0, none⟩), 0, rfl, (unhide HF).showsR (unhide HXR), OwnNs.none _ _ _, (unhide HP).2.2⟩
    case neg =>
      have hne : (X.2 != 0) = true := by simpa using hc
      have HXF : Hid (R = (m, ⟨X.2, 0, []⟩)) := hide (by rw [unhide HX0, unhide HXS hc])
      clear HXS HX0 hc HO5
      go_upto_region 38 with fail
      clear y0 y1 y2
      have HB6 : Hid (Below W5.heap.size W5 W5.drew) := hide (Below.refl _ _).drew
      have HM6 := hide ((unhide HM5).below (unhide HB6))
      clear HM5
      refine wp_region_ord (fun w' => VarM w' w.heap.size 32 (.slice a.ro m.refs.length a.rc) (.slice a.tq m.table.length a.tc) (.slice a.so m.snaps.length a.sc) (.slice a.dq m.data.length a.dc) ∧ VarY w' (w.heap.size + 5) (.int .i64 X.2) (.int .i64 0) (.slice (some ⟨w.heap.size + 4, 0, none⟩) 0 0)) [0, 1, 2] [(0, 0), (1, 0), (2, 2), (3, 3)] (by kernel_rfl) (by kernel_rfl) rfl (by kernel_rfl) ?_
      clear HB6
      revert HM6
      generalize W5.drew = W6
      intro HM6
      have hS0 : VarM W6 w.heap.size 32 (.slice a.ro m.refs.length a.rc) (.slice a.tq m.table.length a.tc) (.slice a.so m.snaps.length a.sc) (.slice a.dq m.data.length a.dc) ∧ VarY W6 (w.heap.size + 5) (.int .i64 X.2) (.int .i64 0) (.slice (some ⟨w.heap.size + 4, 0, none⟩) 0 0) := ⟨(unhide HM6).v, (unhide HM6).y⟩
      have HP := hide ((unhide HM6).d.fill a m (.int .i64 X.2) (.int .i64 0) (.slice (some ⟨w.heap.size + 4, 0, none⟩) 0 0))
      unfold putD putY putI at HP
      obtain ⟨r0, r1, r2, r3⟩ := (unhide HM6).d.r.cells
      obtain ⟨z0, z1, z2, z3⟩ := (unhide HM6).d.r.free
      obtain ⟨p0, p1, p2⟩ := (unhide HM6).d.p.cells
      obtain ⟨f0, f1, f2⟩ := (unhide HM6).d.p.free
      refine ord_read (imV a m) rfl rfl hS0 (fun W hW => by obtain ⟨k0, k1, k2, k3⟩ := hW.1.cells; go_simp) ?_
      refine ord_read (.agg #[.int .i64 X.2, .int .i64 0, .slice (some ⟨w.heap.size + 4, 0, none⟩) 0 0]) rfl rfl hS0 (fun W hW => by obtain ⟨k0, k1, k2⟩ := hW.2.cells; go_simp) ?_
      refine ord_held rfl rfl ?_
      intro K hK
      unfold Oper.wp
      go_simp
      refine hK _ _ ⟨hS0.1.keepX (putI_keep W6 (w.heap.size + 2) a m) (by omega), hS0.2.keepX (putI_keep W6 (w.heap.size + 2) a m) (by omega)⟩ ?_
      clear hK K hS0
      refine ord_alone rfl rfl ?_
      intro K hK
      unfold Oper.wp
      go_simp
      refine hK _ _ ?_
      clear hK K r0 r1 r2 r3 z0 z1 z2 z3 p0 p1 p2 f0 f1 f2
      refine ord_done ?_
      go_wp2
      refine bodyPost_ret (res_ir Tryz.results42 rfl rfl (unhide HP).1 (unhide HP).2.1) rfl ?_
      rw [unhide HXF]
      exact ⟨a, (some ⟨w.heap.size + 4, 0, none⟩), 0, rfl, (unhide HS).below (unhide HP).2.2, OwnNs.none _ _ _, (unhide HP).2.2⟩
  · rw [h] at q0
    have HX0 := hide ((unhide HR).trans (dq_6 h))
    have HXS : Hid ((sdA m q.n).2 ≠ 0 → (sdA m q.n).1 = m) := hide (fun hc => sd_same (unhide HI) hc)
    have HXR : Hid (ImR (sdA m q.n).1) := hide (sd_right (unhide HI))
    have HCL : Hid (∀ W, ImS W a m → Calls Tryz.prog 77 #[imV a m, .string q.n] W fun e w' => AnsI W w' e (sdA m q.n)) := hide (fun W hc => l10Delete_R a m q.n (sdA m q.n) W (if_pos (imB_iff.2 (unhide HI))) (unhide HI).M hc)
    clear HR
    revert HCL
    revert HXR
    revert HXS
    revert HX0
    generalize sdA m q.n = X
    intro HX0 HXS HXR HCL
    obtain ⟨c0, c1, c2, c3⟩ := (unhide HM0).v.cells
    go_wp2_with fail
    refine (unhide HCL _ ((unhide HS).below (unhide HM0).d.b)).mono ?_
    rintro e w2 ⟨a2, ts2, rfl, ho, hb⟩
    have HAL := hide (Joins.below_alloc1 w2 (.cells #[.slice a2.ro X.1.refs.length a2.rc, .slice a2.tq X.1.table.length a2.tc, .slice a2.so X.1.snaps.length a2.sc, .slice a2.dq X.1.data.length a2.dc] 32))
    have HM3 := hide (((unhide HM0).below hb).below (unhide HAL))
    have HO3 := hide ((ho.base (unhide HM0).z).below (unhide HAL))
    have HVA : Hid (FlM (w2.alloc (.cells #[.slice a2.ro X.1.refs.length a2.rc, .slice a2.tq X.1.table.length a2.tc, .slice a2.so X.1.snaps.length a2.sc, .slice a2.dq X.1.data.length a2.dc] 32)) w2.heap.size a2 X.1) := hide (VarM.new w2 32 _ _ _ _)
    clear ho hb c0 c1 c2 c3 q0 q1 q2 q3 HM0 HAL HCL h hk
    go_upto_region 28 with fail
    revert HVA
    revert HO3
    revert HM3
    generalize (w2.alloc _) = W3
    intro HM3 HO3 HVA
    obtain ⟨k0, k1, k2, k3⟩ := (unhide HVA).cells
    obtain ⟨x0, x1, x2, x3⟩ := (unhide HM3).x.cells
    obtain ⟨z0, z1, z2, z3⟩ := (unhide HM3).x.free
    have HM4 := hide ((unhide HM3).setX a2 X.1)
    have HO4 := hide (inI_own (x := w.heap.size + 6) (b := a2) (M := X.1) (unhide HO3) (by omega))
    unfold putI at HM4 HO4
    clear HVA HM3 HO3
    go_upto_region 29 with fail
    revert HO4
    revert HM4
    generalize (World.setCell (World.setCell (World.setCell (World.setCell W3 _ _) _ _) _ _) _ _) = W4
    intro HM4 HO4
    clear k0 k1 k2 k3 x0 x1 x2 x3 z0 z1 z2 z3
    obtain ⟨y0, y1, y2⟩ := (unhide HM4).y.cells
    obtain ⟨z0, z1, z2⟩ := (unhide HM4).y.free
    have HM5 := hide ((unhide HM4).setC X.2)
    have HO5 := hide ((unhide HO4).setCell (p := ⟨w.heap.size + 5, 0, none⟩) (by show w.heap.size + 5 < w.heap.size + 7; omega) (.int .i64 X.2))
    clear HM4 HO4
    go_upto_region 37 with fail
    revert HO5
    revert HM5
    generalize (World.setCell W4 _ _) = W5
    intro HM5 HO5
    clear y0 y1 y2 z0 z1 z2
    obtain ⟨y0, y1, y2⟩ := (unhide HM5).y.cells
    by_cases hc : X.2 = 0
    case pos =>
      have hne : (X.2 != 0) = false := by rw [hc]; rfl
      have HXF : Hid (R = (X.1, ⟨X.2, 0, []⟩)) := HX0
      clear HXS HX0 hc
      go_upto_region 39 with fail
      clear y0 y1 y2
      have HB6 : Hid (Below W5.heap.size W5 W5.drew) := hide (Below.refl _ _).drew
      have HM6 := hide ((unhide HM5).below (unhide HB6))
      have HO6 := hide ((unhide HO5).below (unhide HB6))
      clear HM5
      refine wp_region_ord (fun w' => FlM w' (w.heap.size + 6) a2 X.1 ∧ VarY w' (w.heap.size + 5) (.int .i64 X.2) (.int .i64 0) (.slice (some ⟨w.heap.size + 4, 0, none⟩) 0 0)) [0, 1, 2] [(0, 0), (1, 0), (2, 2), (3, 3)] (by kernel_rfl) (by kernel_rfl) rfl (by kernel_rfl) ?_
      clear HB6
      revert HO6
      revert HM6
      generalize W5.drew = W6
      intro HM6 HO6
      have hS0 : FlM W6 (w.heap.size + 6) a2 X.1 ∧ VarY W6 (w.heap.size + 5) (.int .i64 X.2) (.int .i64 0) (.slice (some ⟨w.heap.size + 4, 0, none⟩) 0 0) := ⟨(unhide HM6).x, (unhide HM6).y⟩
      have HP := hide ((unhide HM6).d.fill a2 X.1 (.int .i64 X.2) (.int .i64 0) (.slice (some ⟨w.heap.size + 4, 0, none⟩) 0 0))
      have HF := hide (inD_own (x := w.heap.size + 2) (b := a2) (M := X.1) (v0 := .int .i64 X.2) (v1 := .int .i64 0) (v2 := .slice (some ⟨w.heap.size + 4, 0, none⟩) 0 0) (unhide HO6) (by omega))
      unfold putD putY putI at HP HF
      obtain ⟨r0, r1, r2, r3⟩ := (unhide HM6).d.r.cells
      obtain ⟨z0, z1, z2, z3⟩ := (unhide HM6).d.r.free
      obtain ⟨p0, p1, p2⟩ := (unhide HM6).d.p.cells
      obtain ⟨f0, f1, f2⟩ := (unhide HM6).d.p.free
      refine ord_read (imV a2 X.1) rfl rfl hS0 (fun W hW => by obtain ⟨k0, k1, k2, k3⟩ := hW.1.cells; go_simp) ?_
      refine ord_read (.agg #[.int .i64 X.2, .int .i64 0, .slice (some ⟨w.heap.size + 4, 0, none⟩) 0 0]) rfl rfl hS0 (fun W hW => by obtain ⟨k0, k1, k2⟩ := hW.2.cells; go_simp) ?_
      refine ord_held rfl rfl ?_
      intro K hK
      unfold Oper.wp
      go_simp
      refine hK _ _ ⟨hS0.1.keepX (putI_keep W6 (w.heap.size + 2) a2 X.1) (by omega), hS0.2.keepX (putI_keep W6 (w.heap.size + 2) a2 X.1) (by omega)⟩ ?_
      clear hK K hS0
      refine ord_alone rfl rfl ?_
      intro K hK
      unfold Oper.wp
      go_simp
      refine hK _ _ ?_
      clear hK K r0 r1 r2 r3 z0 z1 z2 z3 p0 p1 p2 f0 f1 f2
      refine ord_done ?_
      go_wp2
      refine bodyPost_ret (res_ir Tryz.results42 rfl rfl (unhide HP).1 (unhide HP).2.1) rfl ?_
      rw [unhide HXF]
      exact ⟨a2, (some ⟨w.heap.size + 4, 0, none⟩), 0, rfl, (unhide HF).showsR (unhide HXR), OwnNs.none _ _ _, (unhide HP).2.2⟩
    case neg =>
      have hne : (X.2 != 0) = true := by simpa using hc
      have HXF : Hid (R = (m, ⟨X.2, 0, []⟩)) := hide (by rw [unhide HX0, unhide HXS hc])
      clear HXS HX0 hc HO5
      go_upto_region 38 with fail
      clear y0 y1 y2
      have HB6 : Hid (Below W5.heap.size W5 W5.drew) := hide (Below.refl _ _).drew
      have HM6 := hide ((unhide HM5).below (unhide HB6))
      clear HM5
      refine wp_region_ord (fun w' => VarM w' w.heap.size 32 (.slice a.ro m.refs.length a.rc) (.slice a.tq m.table.length a.tc) (.slice a.so m.snaps.length a.sc) (.slice a.dq m.data.length a.dc) ∧ VarY w' (w.heap.size + 5) (.int .i64 X.2) (.int .i64 0) (.slice (some ⟨w.heap.size + 4, 0, none⟩) 0 0)) [0, 1, 2] [(0, 0), (1, 0), (2, 2), (3, 3)] (by kernel_rfl) (by kernel_rfl) rfl (by kernel_rfl) ?_
      clear HB6
      revert HM6
      generalize W5.drew = W6
      intro HM6
      have hS0 : VarM W6 w.heap.size 32 (.slice a.ro m.refs.length a.rc) (.slice a.tq m.table.length a.tc) (.slice a.so m.snaps.length a.sc) (.slice a.dq m.data.length a.dc) ∧ VarY W6 (w.heap.size + 5) (.int .i64 X.2) (.int .i64 0) (.slice (some ⟨w.heap.size + 4, 0, none⟩) 0 0) := ⟨(unhide HM6).v, (unhide HM6).y⟩
      have HP := hide ((unhide HM6).d.fill a m (.int .i64 X.2) (.int .i64 0) (.slice (some ⟨w.heap.size + 4, 0, none⟩) 0 0))
      unfold putD putY putI at HP
      obtain ⟨r0, r1, r2, r3⟩ := (unhide HM6).d.r.cells
      obtain ⟨z0, z1, z2, z3⟩ := (unhide HM6).d.r.free
      obtain ⟨p0, p1, p2⟩ := (unhide HM6).d.p.cells
      obtain ⟨f0, f1, f2⟩ := (unhide HM6).d.p.free
      refine ord_read (imV a m) rfl rfl hS0 (fun W hW => by obtain ⟨k0, k1, k2, k3⟩ := hW.1.cells; go_simp) ?_
      refine ord_read (.agg #[.int .i64 X.2, .int .i64 0, .slice (some ⟨w.heap.size + 4, 0, none⟩) 0 0]) rfl rfl hS0 (fun W hW => by obtain ⟨k0, k1, k2⟩ := hW.2.cells; go_simp) ?_
      refine ord_held rfl rfl ?_
      intro K hK
      unfold Oper.wp
      go_simp
      refine hK _ _ ⟨hS0.1.keepX (putI_keep W6 (w.heap.size + 2) a m) (by omega), hS0.2.keepX (putI_keep W6 (w.heap.size + 2) a m) (by omega)⟩ ?_
      clear hK K hS0
      refine ord_alone rfl rfl ?_
      intro K hK
      unfold Oper.wp
      go_simp
      refine hK _ _ ?_
      clear hK K r0 r1 r2 r3 z0 z1 z2 z3 p0 p1 p2 f0 f1 f2
      refine ord_done ?_
      go_wp2
      refine bodyPost_ret (res_ir Tryz.results42 rfl rfl (unhide HP).1 (unhide HP).2.1) rfl ?_
      rw [unhide HXF]
      exact ⟨a, (some ⟨w.heap.size + 4, 0, none⟩), 0, rfl, (unhide HS).below (unhide HP).2.2, OwnNs.none _ _ _, (unhide HP).2.2⟩
  · rw [h] at q0
    have HX0 := hide ((unhide HR).trans (dq_7 h))
    have HXS : Hid ((srA m q.n).2 ≠ 0 → (srA m q.n).1 = m) := hide (fun hc => sr_same (unhide HI) hc)
    have HXR : Hid (ImR (srA m q.n).1) := hide (sr_right (unhide HI))
    have HCL : Hid (∀ W, ImS W a m → Calls Tryz.prog 78 #[imV a m, .string q.n] W fun e w' => AnsI W w' e (srA m q.n)) := hide (fun W hc => l10Revert_R a m q.n (srA m q.n) W (if_pos (imB_iff.2 (unhide HI))) (unhide HI).M (fun s hs => ((unhide HI).snaps s hs).2) hc)
    clear HR
    revert HCL
    revert HXR
    revert HXS
    revert HX0
    generalize srA m q.n = X
    intro HX0 HXS HXR HCL
    obtain ⟨c0, c1, c2, c3⟩ := (unhide HM0).v.cells
    go_wp2_with fail
    refine (unhide HCL _ ((unhide HS).below (unhide HM0).d.b)).mono ?_
    rintro e w2 ⟨a2, ts2, rfl, ho, hb⟩
    have HAL := hide (Joins.below_alloc1 w2 (.cells #[.slice a2.ro X.1.refs.length a2.rc, .slice a2.tq X.1.table.length a2.tc, .slice a2.so X.1.snaps.length a2.sc, .slice a2.dq X.1.data.length a2.dc] 32))
    have HM3 := hide (((unhide HM0).below hb).below (unhide HAL))
    have HO3 := hide ((ho.base (unhide HM0).z).below (unhide HAL))
    have HVA : Hid (FlM (w2.alloc (.cells #[.slice a2.ro X.1.refs.length a2.rc, .slice a2.tq X.1.table.length a2.tc, .slice a2.so X.1.snaps.length a2.sc, .slice a2.dq X.1.data.length a2.dc] 32)) w2.heap.size a2 X.1) := hide (VarM.new w2 32 _ _ _ _)
    clear ho hb c0 c1 c2 c3 q0 q1 q2 q3 HM0 HAL HCL h hk
    go_upto_region 32 with fail
    revert HVA
    revert HO3
    revert HM3
    generalize (w2.alloc _) = W3
    intro HM3 HO3 HVA
    obtain ⟨k0, k1, k2, k3⟩ := (unhide HVA).cells
    obtain ⟨x0, x1, x2, x3⟩ := (unhide HM3).x.cells
    obtain ⟨z0, z1, z2, z3⟩ := (unhide HM3).x.free
    have HM4 := hide ((unhide HM3).setX a2 X.1)
    have HO4 := hide (inI_own (x := w.heap.size + 6) (b := a2) (M := X.1) (unhide HO3) (by omega))
    unfold putI at HM4 HO4
    clear HVA HM3 HO3
    go_upto_region 33 with fail
    revert HO4
    revert HM4
    generalize (World.setCell (World.setCell (World.setCell (World.setCell W3 _ _) _ _) _ _) _ _) = W4
    intro HM4 HO4
    clear k0 k1 k2 k3 x0 x1 x2 x3 z0 z1 z2 z3
    obtain ⟨y0, y1, y2⟩ := (unhide HM4).y.cells
    obtain ⟨z0, z1, z2⟩ := (unhide HM4).y.free
    have HM5 := hide ((unhide HM4).setC X.2)
    have HO5 := hide ((unhide HO4).setCell (p := ⟨w.heap.size + 5, 0, none⟩) (by show w.heap.size + 5 < w.heap.size + 7; omega) (.int .i64 X.2))
    clear HM4 HO4
    go_upto_region 37 with fail
    revert HO5
    revert HM5
    generalize (World.setCell W4 _ _) = W5
    intro HM5 HO5
    clear y0 y1 y2 z0 z1 z2
    obtain ⟨y0, y1, y2⟩ := (unhide HM5).y.cells
    by_cases hc : X.2 = 0
    case pos =>
      have hne : (X.2 != 0) = false := by rw [hc]; rfl
      have HXF : Hid (R = (X.1, ⟨X.2, 0, []⟩)) := HX0
      clear HXS HX0 hc
      go_upto_region 39 with fail
      clear y0 y1 y2
      have HB6 : Hid (Below W5.heap.size W5 W5.drew) := hide (Below.refl _ _).drew
      have HM6 := hide ((unhide HM5).below (unhide HB6))
      have HO6 := hide ((unhide HO5).below (unhide HB6))
      clear HM5
      refine wp_region_ord (fun w' => FlM w' (w.heap.size + 6) a2 X.1 ∧ VarY w' (w.heap.size + 5) (.int .i64 X.2) (.int .i64 0) (.slice (some ⟨w.heap.size + 4, 0, none⟩) 0 0)) [0, 1, 2] [(0, 0), (1, 0), (2, 2), (3, 3)] (by kernel_rfl) (by kernel_rfl) rfl (by kernel_rfl) ?_
      clear HB6
      revert HO6
      revert HM6
      generalize W5.drew = W6
      intro HM6 HO6
      have hS0 : FlM W6 (w.heap.size + 6) a2 X.1 ∧ VarY W6 (w.heap.size + 5) (.int .i64 X.2) (.int .i64 0) (.slice (some ⟨w.heap.size + 4, 0, none⟩) 0 0) := ⟨(unhide HM6).x, (unhide HM6).y⟩
      have HP := hide ((unhide HM6).d.fill a2 X.1 (.int .i64 X.2) (.int .i64 0) (.slice (some ⟨w.heap.size + 4, 0, none⟩) 0 0))
      have HF := hide (inD_own (x := w.heap.size + 2) (b := a2) (M := X.1) (v0 := .int .i64 X.2) (v1 := .int .i64 0) (v2 := .slice (some ⟨w.heap.size + 4, 0, none⟩) 0 0) (unhide HO6) (by omega))
      unfold putD putY putI at HP HF
      obtain ⟨r0, r1, r2, r3⟩ := (unhide HM6).d.r.cells
      obtain ⟨z0, z1, z2, z3⟩ := (unhide HM6).d.r.free
      obtain ⟨p0, p1, p2⟩ := (unhide HM6).d.p.cells
      obtain ⟨f0, f1, f2⟩ := (unhide HM6).d.p.free
      refine ord_read (imV a2 X.1) rfl rfl hS0 (fun W hW => by obtain ⟨k0, k1, k2, k3⟩ := hW.1.cells; go_simp) ?_
      refine ord_read (.agg #[.int .i64 X.2, .int .i64 0, .slice (some ⟨w.heap.size + 4, 0, none⟩) 0 0]) rfl rfl hS0 (fun W hW => by obtain ⟨k0, k1, k2⟩ := hW.2.cells; go_simp) ?_
      refine ord_held rfl rfl ?_
      intro K hK
      unfold Oper.wp
      go_simp
      refine hK _ _ ⟨hS0.1.keepX (putI_keep W6 (w.heap.size + 2) a2 X.1) (by omega), hS0.2.keepX (putI_keep W6 (w.heap.size + 2) a2 X.1) (by omega)⟩ ?_
      clear hK K hS0
      refine ord_alone rfl rfl ?_
      intro K hK
      unfold Oper.wp
      go_simp
      refine hK _ _ ?_
      clear hK K r0 r1 r2 r3 z0 z1 z2 z3 p0 p1 p2 f0 f1 f2
      refine ord_done ?_
      go_wp2
      refine bodyPost_ret (res_ir Tryz.results42 rfl rfl (unhide HP).1 (unhide HP).2.1) rfl ?_
      rw [unhide HXF]
      exact ⟨a2, (some ⟨w.heap.size + 4, 0, none⟩), 0, rfl, (unhide HF).showsR (unhide HXR), OwnNs.none _ _ _, (unhide HP).2.2⟩
    case neg =>
      have hne : (X.2 != 0) = true := by simpa using hc
      have HXF : Hid (R = (m, ⟨X.2, 0, []⟩)) := hide (by rw [unhide HX0, unhide HXS hc])
      clear HXS HX0 hc HO5
      go_upto_region 38 with fail
      clear y0 y1 y2
      have HB6 : Hid (Below W5.heap.size W5 W5.drew) := hide (Below.refl _ _).drew
      have HM6 := hide ((unhide HM5).below (unhide HB6))
      clear HM5
      refine wp_region_ord (fun w' => VarM w' w.heap.size 32 (.slice a.ro m.refs.length a.rc) (.slice a.tq m.table.length a.tc) (.slice a.so m.snaps.length a.sc) (.slice a.dq m.data.length a.dc) ∧ VarY w' (w.heap.size + 5) (.int .i64 X.2) (.int .i64 0) (.slice (some ⟨w.heap.size + 4, 0, none⟩) 0 0)) [0, 1, 2] [(0, 0), (1, 0), (2, 2), (3, 3)] (by kernel_rfl) (by kernel_rfl) rfl (by kernel_rfl) ?_
      clear HB6
      revert HM6
      generalize W5.drew = W6
      intro HM6
      have hS0 : VarM W6 w.heap.size 32 (.slice a.ro m.refs.length a.rc) (.slice a.tq m.table.length a.tc) (.slice a.so m.snaps.length a.sc) (.slice a.dq m.data.length a.dc) ∧ VarY W6 (w.heap.size + 5) (.int .i64 X.2) (.int .i64 0) (.slice (some ⟨w.heap.size + 4, 0, none⟩) 0 0) := ⟨(unhide HM6).v, (unhide HM6).y⟩
      have HP := hide ((unhide HM6).d.fill a m (.int .i64 X.2) (.int .i64 0) (.slice (some ⟨w.heap.size + 4, 0, none⟩) 0 0))
      unfold putD putY putI at HP
      obtain ⟨r0, r1, r2, r3⟩ := (unhide HM6).d.r.cells
      obtain ⟨z0, z1, z2, z3⟩ := (unhide HM6).d.r.free
      obtain ⟨p0, p1, p2⟩ := (unhide HM6).d.p.cells
      obtain ⟨f0, f1, f2⟩ := (unhide HM6).d.p.free
      refine ord_read (imV a m) rfl rfl hS0 (fun W hW => by obtain ⟨k0, k1, k2, k3⟩ := hW.1.cells; go_simp) ?_
      refine ord_read (.agg #[.int .i64 X.2, .int .i64 0, .slice (some ⟨w.heap.size + 4, 0, none⟩) 0 0]) rfl rfl hS0 (fun W hW => by obtain ⟨k0, k1, k2⟩ := hW.2.cells; go_simp) ?_
      refine ord_held rfl rfl ?_
      intro K hK
      unfold Oper.wp
      go_simp
      refine hK _ _ ⟨hS0.1.keepX (putI_keep W6 (w.heap.size + 2) a m) (by omega), hS0.2.keepX (putI_keep W6 (w.heap.size + 2) a m) (by omega)⟩ ?_
      clear hK K hS0
      refine ord_alone rfl rfl ?_
      intro K hK
      unfold Oper.wp
      go_simp
      refine hK _ _ ?_
      clear hK K r0 r1 r2 r3 z0 z1 z2 z3 p0 p1 p2 f0 f1 f2
      refine ord_done ?_
      go_wp2
      refine bodyPost_ret (res_ir Tryz.results42 rfl rfl (unhide HP).1 (unhide HP).2.1) rfl ?_
      rw [unhide HXF]
      exact ⟨a, (some ⟨w.heap.size + 4, 0, none⟩), 0, rfl, (unhide HS).below (unhide HP).2.2, OwnNs.none _ _ _, (unhide HP).2.2⟩
  · rw [h] at q0
    have HXF : Hid (R = (m, ⟨0, (m.table.length : Int), nmL m⟩)) := hide (by
      rw [unhide HR, dq_8 ⟨by omega, by omega, by omega, by omega, by omega, by omega, by omega⟩]
      rw [show snA m = (nmL m, 0) from if_pos (imB_iff.2 (unhide HI))])
    have kk := l10Names_any a m W0 (by have := (unhide HI).M.s; omega) ((unhide HS).below (unhide HM0).d.b).s
    rw [← nmL_len m] at kk
    clear HR
    revert kk
    revert HXF
    generalize nmL m = X
    intro HXF kk
    obtain ⟨c0, c1, c2, c3⟩ := (unhide HM0).v.cells
    obtain ⟨y0, y1, y2⟩ := (unhide HM0).y.cells
    obtain ⟨z0, z1, z2⟩ := (unhide HM0).y.free
    go_wp2_with fail
    refine kk.mono ?_
    rintro e w2 ⟨qo, qa, rfl, ho, hb⟩
    have HM2 := hide ((unhide HM0).below hb)
    have HN2 : Hid (OwnNs w2 (w.heap.size + 7) qo qa X) := hide (OwnR.base ho (unhide HM0).z)
    clear kk ho hb c0 c1 c2 c3 y0 y1 y2 z0 z1 z2 q0 q1 q2 q3 HM0 h hk
    obtain ⟨y0, y1, y2⟩ := (unhide HM2).y.cells
    obtain ⟨z0, z1, z2⟩ := (unhide HM2).y.free
    have HM3 := hide ((unhide HM2).setN (.slice qo X.length qa))
    have HN3 : Hid (OwnNs (w2.setCell ⟨w.heap.size + 5, 2, none⟩ (.slice qo X.length qa)) (w.heap.size + 7) qo qa X) := hide (OwnR.setCell (unhide HN2) (a := ⟨w.heap.size + 5, 2, none⟩) (by show w.heap.size + 5 < w.heap.size + 7; omega) _)
    clear HM2 HN2
    go_upto_region 36 with fail
    revert HN3
    revert HM3
    generalize (World.setCell w2 _ _) = W3
    intro HM3 HN3
    clear y0 y1 y2 z0 z1 z2
    obtain ⟨c0, c1, c2, c3⟩ := (unhide HM3).v.cells
    obtain ⟨y0, y1, y2⟩ := (unhide HM3).y.cells
    obtain ⟨z0, z1, z2⟩ := (unhide HM3).y.free
    have HM4 := hide ((unhide HM3).setV (m.table.length : Int))
    have HN4 : Hid (OwnNs (W3.setCell ⟨w.heap.size + 5, 1, none⟩ (.int .i64 (m.table.length : Int))) (w.heap.size + 7) qo qa X) := hide (OwnR.setCell (unhide HN3) (a := ⟨w.heap.size + 5, 1, none⟩) (by show w.heap.size + 5 < w.heap.size + 7; omega) _)
    clear HM3 HN3
    go_upto_region 37 with fail
    revert HN4
    revert HM4
    generalize (World.setCell W3 _ _) = W4
    intro HM4 HN4
    clear c0 c1 c2 c3 y0 y1 y2 z0 z1 z2
    obtain ⟨y0, y1, y2⟩ := (unhide HM4).y.cells
    go_upto_region 39 with fail
    clear y0 y1 y2
    have HB6 : Hid (Below W4.heap.size W4 W4.drew) := hide (Below.refl _ _).drew
    have HM6 := hide ((unhide HM4).below (unhide HB6))
    have HN6 := hide (OwnR.below (unhide HN4) (unhide HB6))
    clear HM4
    refine wp_region_ord (fun w' => FlM w' (w.heap.size + 6) a m ∧ VarY w' (w.heap.size + 5) (.int .i64 0) (.int .i64 (m.table.length : Int)) (.slice qo X.length qa)) [0, 1, 2] [(0, 0), (1, 0), (2, 2), (3, 3)] (by kernel_rfl) (by kernel_rfl) rfl (by kernel_rfl) ?_
    clear HB6
    revert HN6
    revert HM6
    generalize W4.drew = W6
    intro HM6 HN6
    have hS0 : FlM W6 (w.heap.size + 6) a m ∧ VarY W6 (w.heap.size + 5) (.int .i64 0) (.int .i64 (m.table.length : Int)) (.slice qo X.length qa) := ⟨(unhide HM6).x, (unhide HM6).y⟩
    have HP := hide ((unhide HM6).d.fill a m (.int .i64 0) (.int .i64 (m.table.length : Int)) (.slice qo X.length qa))
    have HNF := hide (inD_ns (x := w.heap.size + 2) (b := a) (M := m) (v0 := .int .i64 0) (v1 := .int .i64 (m.table.length : Int)) (v2 := .slice qo X.length qa) (unhide HN6) (by omega))
    unfold putD putY putI at HP HNF
    obtain ⟨r0, r1, r2, r3⟩ := (unhide HM6).d.r.cells
    obtain ⟨z0, z1, z2, z3⟩ := (unhide HM6).d.r.free
    obtain ⟨p0, p1, p2⟩ := (unhide HM6).d.p.cells
    obtain ⟨f0, f1, f2⟩ := (unhide HM6).d.p.free
    refine ord_read (imV a m) rfl rfl hS0 (fun W hW => by obtain ⟨k0, k1, k2, k3⟩ := hW.1.cells; go_simp) ?_
    refine ord_read (.agg #[.int .i64 0, .int .i64 (m.table.length : Int), .slice qo X.length qa]) rfl rfl hS0 (fun W hW => by obtain ⟨k0, k1, k2⟩ := hW.2.cells; go_simp) ?_
    refine ord_held rfl rfl ?_
    intro K hK
    unfold Oper.wp
    go_simp
    refine hK _ _ ⟨hS0.1.keepX (putI_keep W6 (w.heap.size + 2) a m) (by omega), hS0.2.keepX (putI_keep W6 (w.heap.size + 2) a m) (by omega)⟩ ?_
    clear hK K hS0
    refine ord_alone rfl rfl ?_
    intro K hK
    unfold Oper.wp
    go_simp
    refine hK _ _ ?_
    clear hK K r0 r1 r2 r3 z0 z1 z2 z3 p0 p1 p2 f0 f1 f2
    refine ord_done ?_
    go_wp2
    refine bodyPost_ret (res_ir Tryz.results42 rfl rfl (unhide HP).1 (unhide HP).2.1) rfl ?_
    rw [unhide HXF]
    exact ⟨a, qo, qa, rfl, (unhide HS).below (unhide HP).2.2, OwnR.base (unhide HNF) (by omega), (unhide HP).2.2⟩

end Go.Proofs.YtpdpnepnfhbonaaGreat
