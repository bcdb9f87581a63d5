import Derived.Test.YtpdpnepnfhbonaaGreatXReqDoPart15
import Derived.Test.YtpdpnepnfhbonaaGreatXReqDoPart18
import Derived.Test.YtpdpnepnfhbonaaGreatXReqDoPart4
import Derived.Test.YtpdpnepnfhbonaaGreatXReqDoPart6
import Derived.Test.YtpdpnepnfhbonaaGreatXReqDoPart16

namespace Go.Proofs.YtpdpnepnfhbonaaGreat
open Go.RowKit
set_option linter.unusedVariables false
set_option maxRecDepth 100000

theorem dq_right {m : Img} {q : Rq} (h : ImR m) : ImR (dqA m q).1 := by
  rcases rq_8 q with k | k | k | k | k | k | k | k
  · rw [dq_1 k]; exact h
  · rw [dq_2 k]; exact wc_right h
  · rw [dq_3 k]; exact zc_right h
  · rw [dq_4 k]; exact rs_right h
  · rw [dq_5 k]; exact sc_right h
  · rw [dq_6 k]; exact sd_right h
  · rw [dq_7 k]; exact sr_right h
  · rw [dq_8 k]; exact h

set_option maxHeartbeats 6400000 in
theorem reqDo_spec (a : Im4) (m : Img) (q : Rq) (w : World) (hL : ImL m) (hz : q.n.size ≤ maxLen) (hc : ImS w a m) :
    Calls Tryz.prog 18 #[imV a m, qV q] w fun e w' => AnsQ w w' e (rdoA m q) := by
  have HE0 := hide (DoQ.new w a m q hc)
  have HL := hide hL
  obtain ⟨R, HR⟩ : ∃ R, Hid (R = rdoA m q) := ⟨_, hide rfl⟩
  rw [← unhide HR]
  clear hc hL
  go_enter Tryz.func18, Tryz.ntmps18
  go_upto_region 1 with fail
  revert HE0
  generalize ((((w.alloc _).alloc _).alloc _).alloc _) = W0
  intro HE0
  obtain ⟨c0, c1, c2, c3⟩ := (unhide HE0).v.cells
  go_wp2_with fail
  refine (imageOK_spec a m _ (unhide HL) (unhide HE0).s).mono ?_
  rintro e w1 ⟨rfl, hb⟩
  have HE1 := hide ((unhide HE0).below hb)
  clear hb c0 c1 c2 c3 HE0
  obtain ⟨r0, r1, r2, r3⟩ := (unhide HE1).d.r.cells
  obtain ⟨z0, z1, z2, z3⟩ := (unhide HE1).d.r.free
  obtain ⟨p0, p1, p2⟩ := (unhide HE1).d.p.cells
  obtain ⟨f0, f1, f2⟩ := (unhide HE1).d.p.free
  cases him : imB m
  case false =>
    have HX := hide ((unhide HR).trans (rdo_no (.inl him)))
    have HP := hide ((unhide HE1).d.put (a := ⟨none, 0, none, 0, none, 0, none, 0⟩) (M := im0) (OwnIm.zero w1 w1.heap.size) (OwnNs.none w1 w1.heap.size none) (unhide HE1).z (.int .i64 0) (.int .i64 0) (.slice none 0 0))
    unfold putD putY putI im0 at HP
    go_wp2
    refine bodyPost_ret (res_irc Tryz.results18 rfl rfl rfl (unhide HP).1 (unhide HP).2.1) rfl ?_
    have hz1 := (unhide HE1).z
    exact AnsQ.of (unhide HX) rfl rfl rfl rfl ((unhide HP).2.2.1.base (by omega)) (OwnR.base (unhide HP).2.2.2.1 (by omega)) (unhide HP).2.2.2.2
  case true =>
    obtain ⟨c0, c1, c2, c3⟩ := (unhide HE1).q.cells
    go_wp2_with fail
    clear r0 r1 r2 r3 z0 z1 z2 z3 p0 p1 p2 f0 f1 f2
    refine (reqOK_spec q _ hz).mono ?_
    rintro e w2 ⟨rfl, hb⟩
    have HE2 := hide ((unhide HE1).below hb)
    clear hb c0 c1 c2 c3 HE1
    cases hrq : rqB q
    case false =>
      obtain ⟨r0, r1, r2, r3⟩ := (unhide HE2).d.r.cells
      obtain ⟨z0, z1, z2, z3⟩ := (unhide HE2).d.r.free
      obtain ⟨p0, p1, p2⟩ := (unhide HE2).d.p.cells
      obtain ⟨f0, f1, f2⟩ := (unhide HE2).d.p.free
      have HX := hide ((unhide HR).trans (rdo_no (.inr hrq)))
      have HP := hide ((unhide HE2).d.put (a := ⟨none, 0, none, 0, none, 0, none, 0⟩) (M := im0) (OwnIm.zero w2 w2.heap.size) (OwnNs.none w2 w2.heap.size none) (unhide HE2).z (.int .i64 0) (.int .i64 0) (.slice none 0 0))
      unfold putD putY putI im0 at HP
      go_wp2
      refine bodyPost_ret (res_irc Tryz.results18 rfl rfl rfl (unhide HP).1 (unhide HP).2.1) rfl ?_
      have hz1 := (unhide HE2).z
      exact AnsQ.of (unhide HX) rfl rfl rfl rfl ((unhide HP).2.2.1.base (by omega)) (OwnR.base (unhide HP).2.2.2.1 (by omega)) (unhide HP).2.2.2.2
    case true =>
      have HX := hide ((unhide HR).trans (rdo_yes him hrq))
      have HIR := hide (imB_iff.1 him)
      have HNZ : Hid (q.n.size ≤ 65536) := hide (by
        have h1 := hrq
        unfold rqB at h1
        rw [Bool.and_eq_true, Bool.and_eq_true] at h1
        exact of_decide_eq_true h1.1.2)
      have HK : Hid (1 ≤ q.k ∧ q.k ≤ 8) := hide (by
        have h1 := hrq
        unfold rqB at h1
        rw [Bool.and_eq_true, Bool.and_eq_true] at h1
        exact betw_iff.1 h1.1.1)
      have HDO : Hid (∀ W, ImS W a m → Calls Tryz.prog 42 #[imV a m, qV q] W fun e w' => ∃ a1 no nc, e = .returned (.tuple #[imV a1 (dqA m q).1, rpV (dqA m q).2 no nc]) ∧ ImS w' a1 (dqA m q).1 ∧ OwnNs w' W.heap.size no nc (dqA m q).2.ns ∧ Below W.heap.size W w') := hide (fun W hs => l13Do_any a m q W (unhide HIR) (unhide HK) (unhide HNZ) hs)
      have HXR : Hid (ImR (dqA m q).1) := hide (dq_right (unhide HIR))
      clear him hrq HR
      revert HXR HDO HX
      generalize (dqA m q).1 = M
      generalize (dqA m q).2 = r
      intro HX HDO HXR
      clear HIR HNZ HL HK
      obtain ⟨c0, c1, c2, c3⟩ := (unhide HE2).v.cells
      obtain ⟨q0, q1, q2, q3⟩ := (unhide HE2).q.cells
      go_wp2_with fail
      refine (unhide HDO _ (unhide HE2).s).mono ?_
      rintro e w3 ⟨a1, no, nc, rfl, hs1, hn, hb⟩
      have HAL := hide (Joins.below_alloc2 w3 (.cells #[.slice a1.ro M.refs.length a1.rc, .slice a1.tq M.table.length a1.tc, .slice a1.so M.snaps.length a1.sc, .slice a1.dq M.data.length a1.dc] 32) (.cells #[.int .i64 r.c, .int .i64 r.v, .slice no r.ns.length nc] 46))
      have HVX : Hid (FlM ((w3.alloc (.cells #[.slice a1.ro M.refs.length a1.rc, .slice a1.tq M.table.length a1.tc, .slice a1.so M.snaps.length a1.sc, .slice a1.dq M.data.length a1.dc] 32)).alloc (.cells #[.int .i64 r.c, .int .i64 r.v, .slice no r.ns.length nc] 46)) w3.heap.size a1 M) := hide ((VarM.new w3 _ _ _ _ _).below (Joins.below_alloc1 _ _))
      have HVY : Hid (FlY ((w3.alloc (.cells #[.slice a1.ro M.refs.length a1.rc, .slice a1.tq M.table.length a1.tc, .slice a1.so M.snaps.length a1.sc, .slice a1.dq M.data.length a1.dc] 32)).alloc (.cells #[.int .i64 r.c, .int .i64 r.v, .slice no r.ns.length nc] 46)) (w3.heap.size + 1) r no nc) := hide ((VarY.new (w3.alloc _) _ _ _).at (by rw [World.size_alloc]))
      have HE4 := hide ((unhide HE2).below (fr hb (unhide HAL)))
      have HS4 := hide (hs1.below (unhide HAL))
      have HN4 := hide (OwnR.base (OwnR.below hn (unhide HAL)) (unhide HE2).z)
      have hx0 : w.heap.size + 4 ≤ w3.heap.size := Nat.le_trans (unhide HE2).z hb.size
      clear HAL hb hs1 hn HE2 HDO c0 c1 c2 c3 q0 q1 q2 q3
      go_upto_region 4 with fail
      revert HN4
      revert HS4
      revert HE4
      revert HVY
      revert HVX
      generalize ((w3.alloc _).alloc _) = W4
      generalize w3.heap.size = x at *
      intro HVX HVY HE4 HS4 HN4
      have HB5 : Hid (Below W4.heap.size W4 W4.drew) := hide (Below.refl _ W4).drew
      have HVX5 := hide ((unhide HVX).below (unhide HB5))
      have HVY5 := hide ((unhide HVY).below (unhide HB5))
      have HE5 := hide ((unhide HE4).below (unhide HB5))
      have HS5 := hide ((unhide HS4).below (unhide HB5))
      have HN5 := hide (OwnR.below (unhide HN4) (unhide HB5))
      refine wp_region_ord (fun w' => FlM w' x a1 M ∧ FlY w' (x + 1) r no nc) [0, 1, 2, 3] [(0, 0), (2, 0), (1, 2), (3, 2), (4, 3), (5, 4)] (by kernel_rfl) (by kernel_rfl) rfl (by kernel_rfl) ?_
      clear HVX HVY HE4 HS4 HN4 HB5
      revert HN5
      revert HS5
      revert HE5
      revert HVY5
      revert HVX5
      generalize W4.drew = W5
      intro HVX HVY HE5 HS5 HN5
      have hS0 : FlM W5 x a1 M ∧ FlY W5 (x + 1) r no nc := ⟨unhide HVX, unhide HVY⟩
      refine ord_read (imV a1 M) rfl rfl hS0 (fun W hW => by obtain ⟨k0, k1, k2, k3⟩ := hW.1.cells; go_simp) ?_
      refine ord_read (rpV r no nc) rfl rfl hS0 (fun W hW => by obtain ⟨k0, k1, k2⟩ := hW.2.cells; go_simp) ?_
      refine ord_held rfl rfl ?_
      intro K hK
      unfold Oper.wp
      go_simp
      refine (l10Own_F a1 M _ (unhide HXR).M (unhide HS5)).mono ?_
      rintro e w6 ⟨a2, ts, rfl, ⟨ho, _⟩, hb⟩
      have HE6 := hide ((unhide HE5).below hb)
      have HO6 := hide (ho.base (unhide HE5).z)
      have HN6 := hide (OwnR.below (unhide HN5) hb)
      have hS1 : FlM w6 x a1 M ∧ FlY w6 (x + 1) r no nc := ⟨(unhide HVX).below hb, (unhide HVY).below hb⟩
      have HP := hide ((unhide HE6).d.put (unhide HO6) (unhide HN6) (by omega) (.int .i64 r.c) (.int .i64 r.v) (.slice no r.ns.length nc))
      unfold putD putY putI at HP
      refine hK _ _ hS1 ?_
      clear hK K ho hb HE5 HS5 HN5 HVX HVY hS0
      obtain ⟨r0, r1, r2, r3⟩ := (unhide HE6).d.r.cells
      obtain ⟨z0, z1, z2, z3⟩ := (unhide HE6).d.r.free
      obtain ⟨p0, p1, p2⟩ := (unhide HE6).d.p.cells
      obtain ⟨f0, f1, f2⟩ := (unhide HE6).d.p.free
      refine ord_held rfl rfl ?_
      intro K hK
      unfold Oper.wp
      go_simp
      refine hK _ _ ⟨hS1.1.keepX (putI_keep w6 (w.heap.size + 2) a2 M) (by omega), hS1.2.keepX (putI_keep w6 (w.heap.size + 2) a2 M) (by omega)⟩ ?_
      clear hK K hS1
      refine ord_alone rfl rfl ?_
      intro K hK
      unfold Oper.wp
      go_simp
      refine hK _ _ ?_
      clear hK K r0 r1 r2 r3 z0 z1 z2 z3 p0 p1 p2 f0 f1 f2
      refine ord_val (.int .i64 0) rfl rfl (fun W => by go_simp) ?_
      refine ord_done ?_
      go_wp2
      refine bodyPost_ret (res_irc Tryz.results18 rfl rfl rfl (unhide HP).1 (unhide HP).2.1) rfl ?_
      exact AnsQ.of (unhide HX) rfl rfl rfl rfl ((unhide HP).2.2.1.base (by omega)) (OwnR.base (unhide HP).2.2.2.1 (by omega)) (unhide HP).2.2.2.2

end Go.Proofs.YtpdpnepnfhbonaaGreat

namespace Go.Proofs.YtpdpnepnfhbonaaGreat
open Go.RowKit
set_option linter.unusedVariables false
set_option maxRecDepth 100000

theorem snK_few : ∀ (ss : List Snp), (∀ s ∈ ss, s.table.length ≤ 12) → snK ss ≤ ss.length * 13
  | [], _ => Nat.le_refl _
  | s :: ss, h => by
    have h1 := snK_few ss (fun t ht => h t (List.mem_cons_of_mem _ ht))
    have h2 := h s List.mem_cons_self
    have e : snK (s :: ss) = 1 + s.table.length + snK ss := by simp [snK]
    rw [e, List.length_cons]
    omega
theorem im_small {m : Img} (h : ImM m) : imK m ≤ 1000000 ∧ ImBd m := by
  have hk := snK_few m.snaps (fun s hs => (h.st s hs).1)
  have h1 := h.r; have h2 := h.d; have h3 := h.t; have h4 := h.s
  refine ⟨by unfold imK; omega, by omega, by omega, by omega, by omega, fun s hs => ⟨by have := (h.st s hs).1; omega, by have := (h.st s hs).2; omega⟩, by omega⟩
theorem rdo_small (m : Img) (q : Rq) : imK (rdoA m q).1 ≤ 1000000 ∧ ImBd (rdoA m q).1 := by
  cases him : imB m
  · rw [rdo_no (.inl him)]
    exact ⟨by simp [imK, im0, snK], ImBd.zero⟩
  cases hrq : rqB q
  · rw [rdo_no (.inr hrq)]
    exact ⟨by simp [imK, im0, snK], ImBd.zero⟩
  rw [rdo_yes him hrq]
  exact im_small (dq_right (imB_iff.1 him)).M
theorem rdo_ns (m : Img) (q : Rq) : (rdoA m q).2.1.ns.length ≤ 1000 ∧ ∀ s ∈ (rdoA m q).2.1.ns, s.size ≤ maxLen := by
  have hno : ([] : List ByteArray).length ≤ 1000 ∧ ∀ s ∈ ([] : List ByteArray), s.size ≤ maxLen := ⟨by simp, fun s hs => by cases hs⟩
  cases him : imB m
  · rw [rdo_no (.inl him)]
    exact hno
  cases hrq : rqB q
  · rw [rdo_no (.inr hrq)]
    exact hno
  rw [rdo_yes him hrq]
  have hM := (imB_iff.1 him).M
  rcases rq_8 q with k | k | k | k | k | k | k | k
  · rw [dq_1 k]; exact hno
  · rw [dq_2 k]; exact hno
  · rw [dq_3 k]; exact hno
  · rw [dq_4 k]; exact hno
  · rw [dq_5 k]; exact hno
  · rw [dq_6 k]; exact hno
  · rw [dq_7 k]; exact hno
  · rw [dq_8 k, show snA m = (nmL m, 0) from if_pos him]
    refine ⟨by show (nmL m).length ≤ 1000; rw [nmL_len]; have := hM.s; omega, fun s hs => ?_⟩
    obtain ⟨t, ht, rfl⟩ := List.mem_map.1 hs
    have := (hM.st t ht).2
    unfold maxLen
    omega

theorem wkReqDo (a : Im4) (m : Img) (q : Rq) (w : World) (hl : m.refs.length ≤ maxLen ∧ m.table.length ≤ maxLen ∧ m.snaps.length ≤ maxLen ∧ m.data.length ≤ maxLen) (hc : ImS w a m) (hz : q.n.size ≤ maxLen) :
    Calls Tryz.prog 5 #[imV a m, qV q] w fun e w' => e = .returned (.bool true) ∧ Below w.heap.size w w' :=
  have hL : ImL m := ⟨hl.1, hl.2.1, hl.2.2.1, hl.2.2.2⟩
  lawReqDo a m q (rdoA m q).1 (rdoA m q).2.1 (rdoA m q).2.2 w hL hz hc (fun s hs => by obtain ⟨j, hj, rfl⟩ := List.mem_iff_getElem.1 hs; obtain ⟨_, _, _, _, _, _, _, _, h1, h2⟩ := hc.s j hj; exact ⟨h1, h2⟩) (fun _ => (rdo_small m q).2) (rdo_ns m q) (rdo_small m q).1 (fun b W h => reqDo_spec b m q W hL hz h) (fun b W h => reqDo_impl b m q W hL hz h)

end Go.Proofs.YtpdpnepnfhbonaaGreat
