import Derived.Test.YtbmkdbccdnbbjaaGreatDoorPart15
import Derived.Test.YtbmkdbccdnbbjaaGreatDoorPart16
import Derived.Test.YtbmkdbccdnbbjaaGreatDoorPart5
import Derived.Test.YtbmkdbccdnbbjaaGreatDoorPart4
import Derived.Test.YtbmkdbccdnbbjaaGreatDoorPart10
import Derived.Test.YtbmkdbccdnbbjaaGreatDoorPart8
import Derived.Test.YtbmkdbccdnbbjaaGreatDoorPart6
import Derived.Test.YtbmkdbccdnbbjaaGreatDoorPart7
import Derived.Test.YtbmkdbccdnbbjaaGreatDoorRows
import Derived.Test.YtbmkdbccdnbbjaaGreatDoorPart1
import Derived.Test.YtbmkdbccdnbbjaaGreatDoorPart9
import Derived.WalkKit
import Derived.WalkSpells
import Derived.KernelRfl

namespace Go.Proofs.YtbmkdbccdnbbjaaGreatDoor
open Go.RowKit
set_option linter.unusedVariables false
set_option maxRecDepth 100000

theorem dq_right {m : Img} {q : Rq} (h : ImR m) : ImR (dqA m q).1 := by
  rcases rq_8 q with k | k | k | k | k | k | k | k
  · rw [dq_1 k]; exact h
  · rw [dq_2 k]; exact wc_right h
  · rw [dq_3 k]; exact zc_right h
  · rw [dq_4 k]; exact rs_right h
  · rw [dq_5 k]; exact sc_right h
  · rw [dq_6 k]; exact sd_right h
  · rw [dq_7 k]; exact sr_right h
  · rw [dq_8 k]; exact h

set_option maxHeartbeats 6400000 in
theorem reqDo_spec (a : Im4) (m : Img) (q : Rq) (w : World) (hL : ImL m) (hz : q.n.size ≤ maxLen) (hc : ImS w a m) :
    Calls Tryz.prog 15 #[imV a m, qV q] w fun e w' => AnsQ w w' e (rdoA m q) := by
  have HE0 := hide (DoQ.new w a m q hc)
  have HL := hide hL
  obtain ⟨R, HR⟩ : ∃ R, Hid (R = rdoA m q) := ⟨_, hide rfl⟩
  rw [← unhide HR]
  clear hc hL
  go_enter Tryz.func15, Tryz.ntmps15
  go_upto_region 1 with fail
  revert HE0
  generalize ((((w.alloc _).alloc _).alloc _).alloc _) = W0
  intro HE0
  obtain ⟨c0, c1, c2, c3⟩ := (unhide HE0).v.cells
  go_wp2_with fail
  refine (imageOK_spec a m _ (unhide HL) (unhide HE0).s).mono ?_
  rintro e w1 ⟨rfl, hb⟩
  have HE1 := hide ((unhide HE0).below hb)
  clear hb c0 c1 c2 c3 HE0
  obtain ⟨r0, r1, r2, r3⟩ := (unhide HE1).d.r.cells
  obtain ⟨z0, z1, z2, z3⟩ := (unhide HE1).d.r.free
  obtain ⟨p0, p1, p2⟩ := (unhide HE1).d.p.cells
  obtain ⟨f0, f1, f2⟩ := (unhide HE1).d.p.free
  cases him : imB m
  case false =>
    have HX := hide ((unhide HR).trans (rdo_no (.inl him)))
    have HP := hide ((unhide HE1).d.put (a := ⟨none, 0, none, 0, none, 0, none, 0⟩) (M := im0) (OwnIm.zero w1 w1.heap.size) (OwnNs.none w1 w1.heap.size none) (unhide HE1).z (.int .i64 0) (.int .i64 0) (.slice none 0 0))
    unfold putD putY putI im0 at HP
    go_wp2
    refine bodyPost_ret (res_irc Tryz.results15 rfl rfl rfl (unhide HP).1 (unhide HP).2.1) rfl ?_
    have hz1 := (unhide HE1).z
    exact AnsQ.of (unhide HX) rfl rfl rfl rfl ((unhide HP).2.2.1.base (by omega)) (OwnR.base (unhide HP).2.2.2.1 (by omega)) (unhide HP).2.2.2.2
  case true =>
    obtain ⟨c0, c1, c2, c3⟩ := (unhide HE1).q.cells
    go_wp2_with fail
    clear r0 r1 r2 r3 z0 z1 z2 z3 p0 p1 p2 f0 f1 f2
    refine (reqOK_spec q _ hz).mono ?_
    rintro e w2 ⟨rfl, hb⟩
    have HE2 := hide ((unhide HE1).below hb)
    clear hb c0 c1 c2 c3 HE1
    cases hrq : rqB q
    case false =>
      obtain ⟨r0, r1, r2, r3⟩ := (unhide HE2).d.r.cells
      obtain ⟨z0, z1, z2, z3⟩ := (unhide HE2).d.r.free
      obtain ⟨p0, p1, p2⟩ := (unhide HE2).d.p.cells
      obtain ⟨f0, f1, f2⟩ := (unhide HE2).d.p.free
      have HX := hide ((unhide HR).trans (rdo_no (.inr hrq)))
      have HP := hide ((unhide HE2).d.put (a := ⟨none, 0, none, 0, none, 0, none, 0⟩) (M := im0) (OwnIm.zero w2 w2.heap.size) (OwnNs.none w2 w2.heap.size none) (unhide HE2).z (.int .i64 0) (.int .i64 0) (.slice none 0 0))
      unfold putD putY putI im0 at HP
      go_wp2
      refine bodyPost_ret (res_irc Tryz.results15 rfl rfl rfl (unhide HP).1 (unhide HP).2.1) rfl ?_
      have hz1 := (unhide HE2).z
      exact AnsQ.of (unhide HX) rfl rfl rfl rfl ((unhide HP).2.2.1.base (by omega)) (OwnR.base (unhide HP).2.2.2.1 (by omega)) (unhide HP).2.2.2.2
    case true =>
      have HX := hide ((unhide HR).trans (rdo_yes him hrq))
      have HIR := hide (imB_iff.1 him)
      have HNZ : Hid (q.n.size ≤ 65536) := hide (by
        have h1 := hrq
        unfold rqB at h1
        rw [Bool.and_eq_true, Bool.and_eq_true] at h1
        exact of_decide_eq_true h1.1.2)
      have HK : Hid (1 ≤ q.k ∧ q.k ≤ 8) := hide (by
        have h1 := hrq
        unfold rqB at h1
        rw [Bool.and_eq_true, Bool.and_eq_true] at h1
        exact betw_iff.1 h1.1.1)
      have HDO : Hid (∀ W, ImS W a m → Calls Tryz.prog 44 #[imV a m, qV q] W fun e w' => ∃ a1 no nc, e = .returned (.tuple #[imV a1 (dqA m q).1, rpV (dqA m q).2 no nc]) ∧ ImS w' a1 (dqA m q).1 ∧ OwnNs w' W.heap.size no nc (dqA m q).2.ns ∧ Below W.heap.size W w') := hide (fun W hs => l13Do_any a m q W (unhide HIR) (unhide HK) (unhide HNZ) hs)
      have HXR : Hid (ImR (dqA m q).1) := hide (dq_right (unhide HIR))
      clear him hrq HR
      revert HXR HDO HX
      generalize (dqA m q).1 = M
      generalize (dqA m q).2 = r
      intro HX HDO HXR
      clear HIR HNZ HL HK
      obtain ⟨c0, c1, c2, c3⟩ := (unhide HE2).v.cells
      obtain ⟨q0, q1, q2, q3⟩ := (unhide HE2).q.cells
      go_wp2_with fail
      refine (unhide HDO _ (unhide HE2).s).mono ?_
      rintro e w3 ⟨a1, no, nc, rfl, hs1, hn, hb⟩
      have HAL := hide (Joins.below_alloc2 w3 (.cells #[.slice a1.ro M.refs.length a1.rc, .slice a1.tq M.table.length a1.tc, .slice a1.so M.snaps.length a1.sc, .slice a1.dq M.data.length a1.dc] 26) (.cells #[.int .i64 r.c, .int .i64 r.v, .slice no r.ns.length nc] 47))
      have HVX : Hid (FlM ((w3.alloc (.cells #[.slice a1.ro M.refs.length a1.rc, .slice a1.tq M.table.length a1.tc, .slice a1.so M.snaps.length a1.sc, .slice a1.dq M.data.length a1.dc] 26)).alloc (.cells #[.int .i64 r.c, .int .i64 r.v, .slice no r.ns.length nc] 47)) w3.heap.size a1 M) := hide ((VarM.new w3 _ _ _ _ _).below (Joins.below_alloc1 _ _))
      have HVY : Hid (FlY ((w3.alloc (.cells #[.slice a1.ro M.refs.length a1.rc, .slice a1.tq M.table.length a1.tc, .slice a1.so M.snaps.length a1.sc, .slice a1.dq M.data.length a1.dc] 26)).alloc (.cells #[.int .i64 r.c, .int .i64 r.v, .slice no r.ns.length nc] 47)) (w3.heap.size + 1) r no nc) := hide ((VarY.new (w3.alloc _) _ _ _).at (by rw [World.size_alloc]))
      have HE4 := hide ((unhide HE2).below (fr hb (unhide HAL)))
      have HS4 := hide (hs1.below (unhide HAL))
      have HN4 := hide (OwnR.base (OwnR.below hn (unhide HAL)) (unhide HE2).z)
      have hx0 : w.heap.size + 4 ≤ w3.heap.size := Nat.le_trans (unhide HE2).z hb.size
      clear HAL hb hs1 hn HE2 HDO c0 c1 c2 c3 q0 q1 q2 q3
      go_upto_region 4 with fail
      revert HN4
      revert HS4
      revert HE4
      revert HVY
      revert HVX
      generalize ((w3.alloc _).alloc _) = W4
      generalize w3.heap.size = x at *
      intro HVX HVY HE4 HS4 HN4
      have HB5 : Hid (Below W4.heap.size W4 W4.drew) := hide (Below.refl _ W4).drew
      have HVX5 := hide ((unhide HVX).below (unhide HB5))
      have HVY5 := hide ((unhide HVY).below (unhide HB5))
      have HE5 := hide ((unhide HE4).below (unhide HB5))
      have HS5 := hide ((unhide HS4).below (unhide HB5))
      have HN5 := hide (OwnR.below (unhide HN4) (unhide HB5))
      refine wp_region_ord (fun w' => FlM w' x a1 M ∧ FlY w' (x + 1) r no nc) [0, 1, 2, 3] [(0, 0), (2, 0), (1, 2), (3, 2), (4, 3), (5, 4)] (by kernel_rfl) (by kernel_rfl) rfl (by kernel_rfl) ?_
      clear HVX HVY HE4 HS4 HN4 HB5
      revert HN5
      revert HS5
      revert HE5
      revert HVY5
      revert HVX5
      generalize W4.drew = W5
      intro HVX HVY HE5 HS5 HN5
      have hS0 : FlM W5 x a1 M ∧ FlY W5 (x + 1) r no nc := ⟨unhide HVX, unhide HVY⟩
      refine ord_read (imV a1 M) rfl rfl hS0 (fun W hW => by obtain ⟨k0, k1, k2, k3⟩ := hW.1.cells; go_simp) ?_
      refine ord_read (rpV r no nc) rfl rfl hS0 (fun W hW => by obtain ⟨k0, k1, k2⟩ := hW.2.cells; go_simp) ?_
      refine ord_held rfl rfl ?_
      intro K hK
      unfold Oper.wp
      go_simp
      refine (l10Own_F a1 M _ (unhide HXR).M (unhide HS5)).mono ?_
      rintro e w6 ⟨a2, ts, rfl, ⟨ho, _⟩, hb⟩
      have HE6 := hide ((unhide HE5).below hb)
      have HO6 := hide (ho.base (unhide HE5).z)
      have HN6 := hide (OwnR.below (unhide HN5) hb)
      have hS1 : FlM w6 x a1 M ∧ FlY w6 (x + 1) r no nc := ⟨(unhide HVX).below hb, (unhide HVY).below hb⟩
      have HP := hide ((unhide HE6).d.put (unhide HO6) (unhide HN6) (by omega) (.int .i64 r.c) (.int .i64 r.v) (.slice no r.ns.length nc))
      unfold putD putY putI at HP
      refine hK _ _ hS1 ?_
      clear hK K ho hb HE5 HS5 HN5 HVX HVY hS0
      obtain ⟨r0, r1, r2, r3⟩ := (unhide HE6).d.r.cells
      obtain ⟨z0, z1, z2, z3⟩ := (unhide HE6).d.r.free
      obtain ⟨p0, p1, p2⟩ := (unhide HE6).d.p.cells
      obtain ⟨f0, f1, f2⟩ := (unhide HE6).d.p.free
      refine ord_held rfl rfl ?_
      intro K hK
      unfold Oper.wp
      go_simp
      refine hK _ _ ⟨hS1.1.keepX (putI_keep w6 (w.heap.size + 2) a2 M) (by omega), hS1.2.keepX (putI_keep w6 (w.heap.size + 2) a2 M) (by omega)⟩ ?_
      clear hK K hS1
      refine ord_alone rfl rfl ?_
      intro K hK
      unfold Oper.wp
      go_simp
      refine hK _ _ ?_
      clear hK K r0 r1 r2 r3 z0 z1 z2 z3 p0 p1 p2 f0 f1 f2
      refine ord_val (.int .i64 0) rfl rfl (fun W => by go_simp) ?_
      refine ord_done ?_
      go_wp2
      refine bodyPost_ret (res_irc Tryz.results15 rfl rfl rfl (unhide HP).1 (unhide HP).2.1) rfl ?_
      exact AnsQ.of (unhide HX) rfl rfl rfl rfl ((unhide HP).2.2.1.base (by omega)) (OwnR.base (unhide HP).2.2.2.1 (by omega)) (unhide HP).2.2.2.2

end Go.Proofs.YtbmkdbccdnbbjaaGreatDoor

namespace Go.Proofs.YtbmkdbccdnbbjaaGreatDoor
open Go.RowKit
set_option linter.unusedVariables false
set_option maxRecDepth 100000

theorem few_in : ∀ (l P : List Int), l.Pairwise (· ≠ ·) → (∀ x ∈ l, x ∈ P) → l.length ≤ P.length
  | [], P, _, _ => Nat.zero_le _
  | x :: l, P, hp, h => by
    obtain ⟨h1, h2⟩ := List.pairwise_cons.1 hp
    have hx := h x (by simp)
    have := few_in l (P.erase x) h2 (fun y hy => (List.mem_erase_of_ne (fun e => h1 y hy e.symm)).2 (h y (by simp [hy])))
    rw [List.length_erase_of_mem hx] at this
    have hp := List.length_pos_of_mem hx
    rw [List.length_cons]; omega
structure Near (a b : Img) (P : List Int) : Prop where
  sup : 9 ∈ P ∨ supL b = supL a
  refs : (10 : Int) ∈ P
  tab : 11 ∈ P ∨ b.table = a.table
  tabs : ∀ (i : Nat) (hi : i < b.snaps.length), 12 + (i : Int) ∈ P ∨ ∃ hj : i < a.snaps.length, a.snaps[i].table = b.snaps[i].table
  data : ∀ c : Nat, c < 24 → 15 + (c : Int) ∈ P ∨ (0 < b.refs.getD c 0 → 0 < a.refs.getD c 0 ∧ b.data.getD c 0 = a.data.getD c 0)
theorem tabU_in : ∀ (ss : List Snp) (i : Nat) (u : Up), u ∈ tabU i ss ↔ ∃ (j : Nat) (hj : j < ss.length), u = ⟨12 + ((i + j : Nat) : Int), encTb ss[j].table⟩
  | [], i, u => by simp [tabU]
  | s :: ss, i, u => by
    rw [tabU, List.mem_cons, tabU_in ss (i + 1) u]
    constructor
    · rintro (rfl | ⟨j, hj, rfl⟩)
      · exact ⟨0, by simp, by simp⟩
      · exact ⟨j + 1, by simp; omega, by simp; omega⟩
    · rintro ⟨j, hj, rfl⟩
      cases j with
      | zero => exact .inl (by simp)
      | succ j => exact .inr ⟨j, by simp at hj; omega, by simp; omega⟩
theorem dataU_mem (m : Img) (u : Up) : u ∈ dataU m 24 ↔ ∃ c, c < 24 ∧ 0 < m.refs.getD c 0 ∧ u = ⟨15 + (c : Int), sealS 4 [m.data.getD c 0]⟩ := by
  unfold dataU
  rw [List.mem_flatMap]
  constructor
  · rintro ⟨c, hc, hu⟩
    unfold datU at hu
    split at hu
    · rename_i h
      exact ⟨c, List.mem_range.1 hc, h, by simpa using hu⟩
    · cases hu
  · rintro ⟨c, hc, h, rfl⟩
    exact ⟨c, List.mem_range.2 hc, by unfold datU; rw [if_pos h]; simp⟩
theorem Near.in {a b : Img} {P : List Int} (h : Near a b P) : ∀ u ∈ difU a b, u.at_ ∈ P := by
  intro u hu
  obtain ⟨h1, h2⟩ := List.mem_filter.1 hu
  refine Classical.byContradiction fun hn => ?_
  have hin : u ∈ allU a := by
    unfold allU at h1 ⊢
    rw [List.mem_append, List.mem_append] at h1 ⊢
    rcases h1 with (h1 | h1) | h1
    · left; left
      simp only [headU, List.mem_cons, List.not_mem_nil, or_false] at h1 ⊢
      rcases h1 with rfl | rfl | rfl
      · rcases h.sup with h3 | h3
        · exact absurd h3 hn
        · left; rw [h3]
      · exact absurd h.refs hn
      · rcases h.tab with h3 | h3
        · exact absurd h3 hn
        · right; right; rw [h3]
    · left; right
      obtain ⟨j, hj, rfl⟩ := (tabU_in _ _ _).1 h1
      rcases h.tabs j hj with h3 | ⟨hj2, h3⟩
      · rw [Nat.zero_add] at hn; exact absurd h3 hn
      · exact (tabU_in _ _ _).2 ⟨j, hj2, by rw [h3]⟩
    · right
      obtain ⟨c, hc, hr, rfl⟩ := (dataU_mem _ _).1 h1
      rcases h.data c hc with h3 | h3
      · exact absurd h3 hn
      · obtain ⟨h4, h5⟩ := h3 hr
        exact (dataU_mem _ _).2 ⟨c, hc, h4, by rw [h5]⟩
  have : ((allU a).any fun v => upEq v u) = true := List.any_eq_true.2 ⟨u, hin, by simp [upEq]⟩
  rw [this] at h2
  cases h2
theorem Near.few {a b : Img} {P : List Int} (h : Near a b P) (hb : b.snaps.length ≤ 3) : (difU a b).length ≤ P.length := by
  have hp : (difU a b).Pairwise (fun u v => u.at_ < v.at_) := (allU_up hb).filter _
  have := few_in ((difU a b).map (·.at_)) P (List.pairwise_map.2 (hp.imp (fun h => Int.ne_of_lt h))) (fun x hx => by
    obtain ⟨u, hu, rfl⟩ := List.mem_map.1 hx
    exact h.in u hu)
  rwa [List.length_map] at this
theorem cN_in {t : List Int} {c : Nat} (h : 0 < cN t c) : (c : Int) + 2 ∈ t := by
  unfold cN at h
  exact List.count_pos_iff.1 (Int.natCast_pos.1 h)
theorem sN_in {c : Nat} : ∀ (ts : List (List Int)), 0 < sN ts c → ∃ t ∈ ts, (c : Int) + 2 ∈ t
  | [], h => by simp [sN] at h
  | t :: ts, h => by
    rw [sN_cons] at h
    by_cases h1 : 0 < cN t c
    · exact ⟨t, by simp, cN_in h1⟩
    · obtain ⟨t', h2, h3⟩ := sN_in (c := c) ts (by have := cN_nn t c; omega)
      exact ⟨t', by simp [h2], h3⟩
theorem in_sN {c : Nat} {ts : List (List Int)} {t : List Int} (ht : t ∈ ts) (h : (c : Int) + 2 ∈ t) : 0 < sN ts c := by
  have h1 := cN_mem h (by omega)
  have h2 := cN_le_all ht c
  rw [show ((c : Int) + 2 - 2).toNat = c by omega] at h1
  omega
theorem fit_data {m m1 : Img} (h : ImR m) (ht : ∀ t ∈ imTabs m1, tbB t = true) (hd : m1.data = m.data) (hs : ∀ t ∈ imTabs m1, ∀ c : Nat, (c : Int) + 2 ∈ t → ∃ t' ∈ imTabs m, (c : Int) + 2 ∈ t') {c : Nat} (hc : c < 24) (hr : 0 < (imFit m1).refs.getD c 0) :
    0 < m.refs.getD c 0 ∧ (imFit m1).data.getD c 0 = m.data.getD c 0 := by
  have e1 : (imFit m1).refs.getD c 0 = sN (imTabs m1) c := cnt_get ht hc
  have e2 : (imCnt m1).getD c 0 = sN (imTabs m1) c := cnt_get ht hc
  rw [e1] at hr
  obtain ⟨t, h1, h2⟩ := sN_in _ hr
  obtain ⟨t', h3, h4⟩ := hs t h1 c h2
  refine ⟨by rw [h.cntA hc]; exact in_sN h3 h4, ?_⟩
  unfold imFit
  simp only
  rw [range_getD hc, if_neg (by omega), hd]
theorem tab_in (m : Img) : m.table ∈ imTabs m := by simp [imTabs]
theorem snap_in {m : Img} {s : Snp} (h : s ∈ m.snaps) : s.table ∈ imTabs m := by simp only [imTabs, List.mem_cons, List.mem_map]; exact .inr ⟨s, h, rfl⟩
theorem near_self (m : Img) : Near m m [10] := ⟨.inr rfl, by simp, .inr rfl, fun i hi => .inr ⟨hi, rfl⟩, fun c _ => .inr (fun h => ⟨h, rfl⟩)⟩
theorem near_write {m : Img} (h : ImR m) {g : Nat} (hg : g < m.table.length) (v : Int) : ∃ c : Nat, Near m (imWrite m g v).1 [10, 11, 15 + (c : Int)] := by
  have hb := tbB_at h.table g hg
  by_cases h1 : 2 ≤ m.table[g] ∧ m.refs.getD (m.table[g] - 2).toNat 0 = 1
  · have hc : m.table[g] = (((m.table[g] - 2).toNat : Nat) : Int) + 2 := by omega
    have hr : (m.table[g] - 2).toNat < m.refs.length := by rw [h.rl]; omega
    have h1' : m.refs[(m.table[g] - 2).toNat] = 1 := by have := h1.2; simpa [List.getD, hr] using this
    rw [imWrite_in hg hc hr h1']
    refine ⟨(m.table[g] - 2).toNat, .inr rfl, by simp, .inr rfl, fun i hi => .inr ⟨hi, rfl⟩, fun c hc' => ?_⟩
    by_cases e : c = (m.table[g] - 2).toNat
    · subst e; left; simp
    · right
      intro hh
      exact ⟨hh, by simp only [List.getD_eq_getElem?_getD]; rw [List.getElem?_set_ne (fun h => e h.symm)]⟩
  · rw [imWrite_out hg h1]
    by_cases h2 : frN m.refs < m.refs.length
    · rw [if_pos h2]
      have hc24 : frN m.refs < 24 := by rw [h.rl] at h2; exact h2
      have h0 := free_spec h2
      simp only
      rw [← fit_out h v hg hc24 h0]
      have ht := tabs_with h (tbB_set h.table g (by omega) (by omega) : tbB (m.table.set g (2 + (frN m.refs : Int))) = true) (m.data.set (frN m.refs) v)
      refine ⟨frN m.refs, .inr rfl, by simp, .inl (by simp), fun i hi => .inr ⟨hi, rfl⟩, fun c hc' => ?_⟩
      by_cases e : c = frN m.refs
      · subst e; left; simp
      · right
        intro hr
        have e1 := cnt_get ht hc'
        have hr' : 0 < (imCnt { m with table := m.table.set g (2 + (frN m.refs : Int)), data := m.data.set (frN m.refs) v }).getD c 0 := hr
        rw [e1] at hr'
        obtain ⟨t, k1, k2⟩ := sN_in _ hr'
        have hin : ∃ t' ∈ imTabs m, (c : Int) + 2 ∈ t' := by
          have k1' : t ∈ (m.table.set g (2 + (frN m.refs : Int))) :: m.snaps.map (·.table) := k1
          rw [List.mem_cons] at k1'
          rcases k1' with rfl | k1'
          · rcases List.mem_or_eq_of_mem_set k2 with k3 | k3
            · exact ⟨m.table, tab_in m, k3⟩
            · omega
          · exact ⟨t, by unfold imTabs; exact List.mem_cons_of_mem _ k1', k2⟩
        obtain ⟨t', k3, k4⟩ := hin
        refine ⟨by rw [h.cntA hc']; exact in_sN k3 k4, ?_⟩
        unfold imFit
        simp only
        rw [range_getD hc', if_neg (by omega)]
        simp only [List.getD_eq_getElem?_getD]
        rw [List.getElem?_set_ne (fun h => e h.symm)]
    · rw [if_neg h2]
      exact ⟨0, .inr rfl, by simp, .inr rfl, fun i hi => .inr ⟨hi, rfl⟩, fun c _ => .inr (fun h => ⟨h, rfl⟩)⟩
theorem near_tab {m : Img} (h : ImR m) {t : List Int} (hb : tbB t = true) (ht : ∀ c : Nat, (c : Int) + 2 ∈ t → ∃ t' ∈ imTabs m, (c : Int) + 2 ∈ t') : Near m (imFit { m with table := t }) [10, 11] := by
  refine ⟨.inr rfl, by simp, .inl (by simp), fun i hi => .inr ⟨hi, rfl⟩, fun c hc => .inr (fun hr => ?_)⟩
  refine fit_data h (tabs_with h hb m.data) rfl (fun t2 h2 c2 h3 => ?_) hc hr
  have h2' : t2 ∈ t :: m.snaps.map (·.table) := h2
  rw [List.mem_cons] at h2'
  rcases h2' with rfl | h2'
  · exact ht c2 h3
  · exact ⟨t2, by unfold imTabs; exact List.mem_cons_of_mem _ h2', h3⟩
theorem near_zero {m : Img} (h : ImR m) {g : Nat} (hg : g < m.table.length) : Near m (imZero m g) [10, 11] := by
  rw [← fit_zero h hg]
  refine near_tab h (tbB_set h.table g (by omega) (by omega)) (fun c hc => ?_)
  rcases List.mem_or_eq_of_mem_set hc with k | k
  · exact ⟨m.table, tab_in m, k⟩
  · omega
theorem near_resize {m : Img} (h : ImR m) {n : Nat} (hn : n ≤ 12) : Near m (imResize m n) [10, 11] := by
  rw [← fit_resize h hn]
  refine near_tab h (tbB_rz h.table hn) (fun c hc => ⟨m.table, tab_in m, ?_⟩)
  unfold rzTo at hc
  obtain ⟨i, _, e⟩ := List.mem_map.1 hc
  rw [List.getD_eq_getElem?_getD] at e
  cases hx : m.table[i]? with
  | none => rw [hx] at e; simp at e; omega
  | some y =>
    rw [hx] at e
    simp at e
    rw [← e]
    exact List.mem_of_getElem? hx
theorem near_snaps {m : Img} (h : ImR m) {ss : List Snp} (hs : ∀ s ∈ ss, s.table ∈ imTabs m) {P : List Int} (h9 : (9 : Int) ∈ P) (h10 : (10 : Int) ∈ P) (hP : ∀ (i : Nat) (hi : i < ss.length), 12 + (i : Int) ∈ P ∨ ∃ hj : i < m.snaps.length, m.snaps[i].table = ss[i].table) :
    Near m (imFit { m with snaps := ss }) P := by
  have ht : ∀ t ∈ imTabs { m with snaps := ss }, t ∈ imTabs m := fun t ht => by
    have ht' : t ∈ m.table :: ss.map (·.table) := ht
    rw [List.mem_cons, List.mem_map] at ht'
    rcases ht' with rfl | ⟨s, h1, rfl⟩
    · exact tab_in m
    · exact hs s h1
  exact ⟨.inl h9, h10, .inr rfl, hP, fun c hc => .inr (fun hr => fit_data h (fun t h1 => h.tabs t (ht t h1)) rfl (fun t h1 c2 h2 => ⟨t, ht t h1, h2⟩) hc hr)⟩
theorem near_few {m : Img} (h : ImR m) (q : Rq) : ∃ P : List Int, P.length ≤ 4 ∧ Near m (dqA m q).1 P := by
  have hself : ∃ P : List Int, P.length ≤ 4 ∧ Near m m P := ⟨[10], by simp, near_self m⟩
  rcases rq_8 q with k | k | k | k | k | k | k | k
  · rw [dq_1 k]; exact hself
  · rw [dq_2 k]
    simp only [wcA]
    rw [if_pos (imB_iff.2 h)]
    split
    · rename_i hh
      obtain ⟨l0, l1⟩ := betw_iff.1 hh.1
      obtain ⟨c, hc⟩ := near_write h (g := q.g.toNat) (by omega) q.v
      exact ⟨_, by simp, hc⟩
    · exact hself
  · rw [dq_3 k]
    simp only [zcA]
    rw [if_pos (imB_iff.2 h)]
    split
    · rename_i hh
      obtain ⟨l0, l1⟩ := betw_iff.1 hh
      exact ⟨_, by simp, near_zero h (g := q.g.toNat) (by omega)⟩
    · exact hself
  · rw [dq_4 k]
    simp only [rsA']
    rw [if_pos (imB_iff.2 h)]
    split
    · rename_i hh
      obtain ⟨l0, l1⟩ := betw_iff.1 hh
      exact ⟨_, by simp, near_resize h (n := q.g.toNat) (by omega)⟩
    · exact hself
  · rw [dq_5 k]
    simp only [scA]
    rw [if_pos (imB_iff.2 h)]
    cases hn : snmB q.n
    · rw [create_name hn]; exact hself
    · by_cases hf : imFind m q.n < m.snaps.length
      · rw [create_twice hn hf]; exact hself
      · by_cases h3 : m.snaps.length = 3
        · rw [create_many hn hf h3]; exact hself
        · rw [create_done hn hf h3]
          simp only
          rw [← fit_create h q.n]
          refine ⟨[9, 10, 12 + (m.snaps.length : Int)], by simp, near_snaps h (fun s hs => ?_) (by simp) (by simp) (fun i hi => ?_)⟩
          · rw [List.mem_append, List.mem_singleton] at hs
            rcases hs with hs | rfl
            · exact snap_in hs
            · exact tab_in m
          · rw [List.length_append, List.length_singleton] at hi
            by_cases he : i = m.snaps.length
            · subst he; left; simp
            · right
              exact ⟨by omega, by rw [List.getElem_append_left]⟩
  · rw [dq_6 k]
    simp only [sdA]
    rw [if_pos (imB_iff.2 h)]
    by_cases hf : imFind m q.n < m.snaps.length
    · rw [delete_at hf rfl]
      simp only
      rw [← fit_delete h hf]
      refine ⟨[9, 10, 12, 13], by simp, near_snaps h (fun s hs => snap_in (List.mem_of_mem_eraseIdx hs)) (by simp) (by simp) (fun i hi => ?_)⟩
      rw [List.length_eraseIdx, if_pos hf] at hi
      have := h.few
      left
      rcases (show i = 0 ∨ i = 1 by omega) with rfl | rfl <;> simp
    · rw [delete_none hf]; exact hself
  · rw [dq_7 k]
    simp only [srA]
    rw [if_pos (imB_iff.2 h)]
    by_cases hf : imFind m q.n < m.snaps.length
    · rw [revert_at hf rfl]
      simp only
      rw [← fit_revert h hf]
      exact ⟨[10, 11], by simp, near_tab h (h.snaps _ (List.getElem_mem hf)).2 (fun c hc => ⟨_, snap_in (List.getElem_mem hf), hc⟩)⟩
    · rw [revert_none hf]; exact hself
  · rw [dq_8 k]; exact hself
theorem dif_few {m : Img} (h : ImR m) (q : Rq) : (difU m (dqA m q).1).length ≤ 4 := by
  obtain ⟨P, h1, h2⟩ := near_few h q
  exact Nat.le_trans (h2.few (dq_right h).few) h1

end Go.Proofs.YtbmkdbccdnbbjaaGreatDoor

namespace Go.Proofs.YtbmkdbccdnbbjaaGreatDoor
open Go.RowKit
set_option linter.unusedVariables false
set_option maxRecDepth 100000

structure DrwQ (q : Rq) : Prop where
  k : 1 ≤ q.k ∧ q.k ≤ 8
  g : 0 ≤ q.g ∧ q.g ≤ 12
  v : 0 ≤ q.v ∧ q.v ≤ 2147483647
  n : q.n = noB ∨ q.n ∈ snapNms
  r : rqB q = true
def VarQ (w : World) (x : Nat) (v0 v1 v2 v3 : Value) : Prop := w.heap[x]? = some (.cells #[v0, v1, v2, v3] 51 (0, 0))
theorem VarQ.lt {w : World} {x : Nat} {v0 v1 v2 v3 : Value} (k : VarQ w x v0 v1 v2 v3) : x < w.heap.size := (Array.getElem?_eq_some_iff.1 k).1
theorem VarQ.cells {w : World} {x : Nat} {v0 v1 v2 v3 : Value} (k : VarQ w x v0 v1 v2 v3) : w.cell? ⟨x, 0, none⟩ = some v0 ∧ w.cell? ⟨x, 1, none⟩ = some v1 ∧ w.cell? ⟨x, 2, none⟩ = some v2 ∧ w.cell? ⟨x, 3, none⟩ = some v3 := ⟨by rw [Joins.cell_of_block k]; rfl, by rw [Joins.cell_of_block k]; rfl, by rw [Joins.cell_of_block k]; rfl, by rw [Joins.cell_of_block k]; rfl⟩
theorem VarQ.free {w : World} {x : Nat} {v0 v1 v2 v3 : Value} (k : VarQ w x v0 v1 v2 v3) : w.frozen? ⟨x, 0, none⟩ = false ∧ w.frozen? ⟨x, 1, none⟩ = false ∧ w.frozen? ⟨x, 2, none⟩ = false ∧ w.frozen? ⟨x, 3, none⟩ = false := ⟨Joins.unfrozen_of_block k 0, Joins.unfrozen_of_block k 1, Joins.unfrozen_of_block k 2, Joins.unfrozen_of_block k 3⟩
theorem VarQ.keep {S : Nat → Prop} {w w' : World} {x : Nat} {v0 v1 v2 v3 : Value} (k : VarQ w x v0 v1 v2 v3) (hk : Keep S w w') (hs : ¬ S x) : VarQ w' x v0 v1 v2 v3 := by
  unfold VarQ; rw [hk.block x k.lt hs]; exact k
theorem VarQ.new (w : World) (v0 v1 v2 v3 : Value) : VarQ (w.alloc (.cells #[v0, v1, v2, v3] 51)) w.heap.size v0 v1 v2 v3 := heap_alloc_new w _
theorem VarQ.other {w : World} {x : Nat} {v0 v1 v2 v3 : Value} (h : VarQ w x v0 v1 v2 v3) {p : Addr} (hp : x ≠ p.block) (u : Value) : VarQ (w.setCell p u) x v0 v1 v2 v3 := by
  unfold VarQ; rw [Below.heap_setCell w p u x hp]; exact h
theorem VarQ.set0 {w : World} {x : Nat} {v0 v1 v2 v3 : Value} (h : VarQ w x v0 v1 v2 v3) (u : Value) : VarQ (w.setCell ⟨x, 0, none⟩ u) x u v1 v2 v3 := Joins.block_setCell (i := 0) h u
theorem VarQ.set1 {w : World} {x : Nat} {v0 v1 v2 v3 : Value} (h : VarQ w x v0 v1 v2 v3) (u : Value) : VarQ (w.setCell ⟨x, 1, none⟩ u) x v0 u v2 v3 := Joins.block_setCell (i := 1) h u
theorem VarQ.set2 {w : World} {x : Nat} {v0 v1 v2 v3 : Value} (h : VarQ w x v0 v1 v2 v3) (u : Value) : VarQ (w.setCell ⟨x, 2, none⟩ u) x v0 v1 u v3 := Joins.block_setCell (i := 2) h u
theorem VarQ.set3 {w : World} {x : Nat} {v0 v1 v2 v3 : Value} (h : VarQ w x v0 v1 v2 v3) (u : Value) : VarQ (w.setCell ⟨x, 3, none⟩ u) x v0 v1 v2 u := Joins.block_setCell (i := 3) h u
theorem Keep.setHi {S : Nat → Prop} {a b : World} (h : Keep S a b) {p : Addr} (hp : a.heap.size ≤ p.block) (v : Value) : Keep S a (b.setCell p v) := by
  have h2 : Keep (fun k => S k ∨ a.heap.size ≤ k) a b := ⟨h.os, h.tape, h.output, h.size, fun i hi hn => h.block i hi (fun hs => hn (.inl hs))⟩
  have h3 := h2.setCell (p := p) (.inr hp) v
  exact ⟨h3.os, h3.tape, h3.output, h3.size, fun i hi hn => h3.block i hi (fun hs => hs.elim hn (fun h => by omega))⟩

set_option maxHeartbeats 1600000 in
theorem snapName_r (b : Nat) (ao : Option Addr) (n cap m : Nat) (w : World) (hm : m ≤ 900000) (hn : n ≤ 1048576) (hs : SrcK w b ao n cap m) :
    Calls Tryz.prog 68 #[.pointer (some ⟨b, 0, none⟩)] w fun e w' => ∃ t : ByteArray, e = .returned (.string t) ∧ t ∈ snapNms ∧ SrcK w' b ao n cap (m + 3) ∧ Keep (fun k => k = b) w w' := by
  have HS := hide hs
  have hlt := hs.lt
  clear hs
  have HSA := hide ((unhide HS).below (Joins.below_alloc1 w (.cells (strV snapNms).toArray 9)))
  have HKA : Hid (Keep (fun k => k = b) w (w.alloc (.cells (strV snapNms).toArray 9))) := hide (Keep.of_below (Joins.below_alloc1 _ _))
  have HBA : Hid ((w.alloc (.cells (strV snapNms).toArray 9)).heap[w.heap.size]? = some (.cells (strV snapNms).toArray 9 (0, 0))) := hide (heap_alloc_new _ _)
  go_enter Tryz.func68, Tryz.ntmps68
  go_wp2_with fail
  refine (pick_k b ao n cap m w.heap.size snapNms _ (by decide) (by decide) hm hn (unhide HSA) (by omega) (unhide HBA)).mono ?_
  rintro e w1 ⟨i, hi, rfl, hs1, hk⟩
  have HS1 := hide hs1
  have HK1 := hide ((unhide HKA).trans hk)
  have HT : Hid (snapNms[i] ∈ snapNms) := hide (List.getElem_mem hi)
  clear hs1 hk HBA HSA HKA
  generalize snapNms[i] = t at *
  go_wp2
  go_ret
  exact ⟨t, rfl, unhide HT, unhide HS1, unhide HK1⟩

theorem res_rq {fn : Func} {p : Tmp} {v0 v1 v2 v3 : Value} {x : Nat} {W : World} {tmps : Array Value} (h : fn.results = #[.cell p 51]) (hp : tmps.getD p undef = .pointer (some ⟨x, 0, none⟩)) (hv : VarQ W x v0 v1 v2 v3) :
    (results fn tmps).run Tryz.prog W = .ok (.agg #[v0, v1, v2, v3]) W := by
  obtain ⟨c0, c1, c2, c3⟩ := hv.cells
  rw [Array.getD_eq_getD_getElem?] at hp
  simp [results, h, hp, go_sem, c0, c1, c2, c3]
theorem q_end {w W : World} {b n cap c m : Nat} {ao : Option Addr} {u0 u1 u2 u3 : Value} (v0 v1 v2 v3 : Value) (h0 : SrcK w b ao n cap m) (hy : VarQ W w.heap.size u0 u1 u2 u3) (hk : Keep (fun k => k = b) w W) (hs : SrcK W b ao n cap c) :
    VarQ ((((W.setCell ⟨w.heap.size, 0, none⟩ v0).setCell ⟨w.heap.size, 1, none⟩ v1).setCell ⟨w.heap.size, 2, none⟩ v2).setCell ⟨w.heap.size, 3, none⟩ v3) w.heap.size v0 v1 v2 v3 ∧
    SrcK ((((W.setCell ⟨w.heap.size, 0, none⟩ v0).setCell ⟨w.heap.size, 1, none⟩ v1).setCell ⟨w.heap.size, 2, none⟩ v2).setCell ⟨w.heap.size, 3, none⟩ v3) b ao n cap c ∧
    Keep (fun k => k = b) w ((((W.setCell ⟨w.heap.size, 0, none⟩ v0).setCell ⟨w.heap.size, 1, none⟩ v1).setCell ⟨w.heap.size, 2, none⟩ v2).setCell ⟨w.heap.size, 3, none⟩ v3) := by
  have hb := h0.lt
  have h1 : Keep (fun k => k = b) w ((((W.setCell ⟨w.heap.size, 0, none⟩ v0).setCell ⟨w.heap.size, 1, none⟩ v1).setCell ⟨w.heap.size, 2, none⟩ v2).setCell ⟨w.heap.size, 3, none⟩ v3) := (((hk.setHi (p := ⟨w.heap.size, 0, none⟩) (Nat.le_refl _) v0).setHi (p := ⟨w.heap.size, 1, none⟩) (Nat.le_refl _) v1).setHi (p := ⟨w.heap.size, 2, none⟩) (Nat.le_refl _) v2).setHi (p := ⟨w.heap.size, 3, none⟩) (Nat.le_refl _) v3
  have h2 : Keep (fun k => k = w.heap.size) W ((((W.setCell ⟨w.heap.size, 0, none⟩ v0).setCell ⟨w.heap.size, 1, none⟩ v1).setCell ⟨w.heap.size, 2, none⟩ v2).setCell ⟨w.heap.size, 3, none⟩ v3) := (((((Keep.refl (fun k => k = w.heap.size) W).setCell (p := ⟨w.heap.size, 0, none⟩) rfl _).setCell (p := ⟨w.heap.size, 1, none⟩) rfl _).setCell (p := ⟨w.heap.size, 2, none⟩) rfl _).setCell (p := ⟨w.heap.size, 3, none⟩) rfl _)
  exact ⟨(((hy.set0 v0).set1 v1).set2 v2).set3 v3, SrcK.other h0 hs h1 h2 (by omega), h1⟩
theorem SrcK.at1 {w W : World} {b n cap c m z : Nat} {ao : Option Addr} (h0 : SrcK w b ao n cap m) (hk : Keep (fun k => k = b) w W) (hs : SrcK W b ao n cap c) (hz : w.heap.size < z) (i : Nat) (u : Value) : SrcK (W.setCell ⟨z, i, none⟩ u) b ao n cap c := by
  have hb := h0.lt
  exact SrcK.other h0 hs (hk.setHi (p := ⟨z, i, none⟩) (by show w.heap.size ≤ z; omega) u) (Keep.setCell (S := fun k => k = z) (Keep.refl _ W) (p := ⟨z, i, none⟩) rfl u) (by omega)

theorem noB_nil : noN noB = true := by rw [noN, noB_list]; rfl
theorem noB_sz : decide (noB.size ≤ 65536) = true := by decide
theorem rq_1 (k g : Int) (h : k = 1 ∨ k = 3 ∨ k = 4) : rqB ⟨k, g, 0, noB⟩ = true := by
  have hb : betw k 1 8 = true := betw_iff.2 (by omega)
  simp only [rqB, useB, hb, noB_sz, noB_nil, if_pos h]; rfl
theorem rq_2 (g v : Int) : rqB ⟨2, g, v, noB⟩ = true := by
  have hb : betw 2 1 8 = true := betw_iff.2 (by omega)
  simp only [rqB, useB, hb, noB_sz, noB_nil]; rfl
theorem rq_8d : rqB ⟨8, 0, 0, noB⟩ = true := by
  have hb : betw 8 1 8 = true := betw_iff.2 (by omega)
  simp only [rqB, useB, hb, noB_sz, noB_nil]; rfl
theorem lst4 (x : Int) (r : Nat) (hr : r < 4) (hx : 1 ≤ x ∧ x ≤ 8) {w : World} {g : Nat} (h : w.heap[g]? = some (.cells #[.int .i64 2, .int .i64 2, .int .i64 2, .int .i64 x] 3 (0, 0))) :
    ∃ k : Int, (1 ≤ k ∧ k ≤ 8) ∧ w.cell? ⟨g, r, none⟩ = some (.int .i64 k) := by
  match r, hr with
  | 0, _ => exact ⟨2, by omega, by rw [Joins.cell_of_block h]; rfl⟩
  | 1, _ => exact ⟨2, by omega, by rw [Joins.cell_of_block h]; rfl⟩
  | 2, _ => exact ⟨2, by omega, by rw [Joins.cell_of_block h]; rfl⟩
  | 3, _ => exact ⟨x, hx, by rw [Joins.cell_of_block h]; rfl⟩

set_option maxHeartbeats 6400000 in
theorem req_k (b : Nat) (ao : Option Addr) (n cap m : Nat) (w : World) (hm : m ≤ 700000) (hn : n ≤ 1048576) (hs : SrcK w b ao n cap m) :
    Calls Tryz.prog 46 #[.pointer (some ⟨b, 0, none⟩)] w fun e w' => ∃ q : Rq, e = .returned (qV q) ∧ DrwQ q ∧ SrcK w' b ao n cap (m + 20) ∧ Keep (fun k => k = b) w w' := by
  have HS0 := hide hs
  have hlt := hs.lt
  clear hs
  have HS := hide ((unhide HS0).below (Joins.below_alloc1 w (.cells #[.int .i64 0, .int .i64 0, .int .i64 0, .string ⟨#[]⟩] 51)))
  have HK : Hid (Keep (fun k => k = b) w (w.alloc (.cells #[.int .i64 0, .int .i64 0, .int .i64 0, .string ⟨#[]⟩] 51))) := hide (Keep.of_below (Joins.below_alloc1 _ _))
  have HV := hide (VarQ.new w (.int .i64 0) (.int .i64 0) (.int .i64 0) (.string ⟨#[]⟩))
  go_enter Tryz.func46, Tryz.ntmps46
  go_wp2_with fail
  refine (next_k b ao n cap m 8 _ (by omega) (by omega) (by omega) hn (unhide HS)).mono ?_
  rintro e w1 ⟨x, rfl, hx0, hx1, hs1, hk1⟩
  have hwr : IntKind.i64.wrap (1 + x) = 1 + x := by rw [IntKind.wrap_i64]; omega
  have HV1 := hide ((unhide HV).keep hk1 (by omega))
  have HK1 := hide ((unhide HK).trans hk1)
  have HA := hide (Joins.below_alloc1 w1 (.cells #[.int .i64 2, .int .i64 2, .int .i64 2, .int .i64 (1 + x)] 3))
  have HB1 : Hid ((w1.alloc (.cells #[.int .i64 2, .int .i64 2, .int .i64 2, .int .i64 (1 + x)] 3)).heap[w1.heap.size]? = some (.cells #[.int .i64 2, .int .i64 2, .int .i64 2, .int .i64 (1 + x)] 3 (0, 0))) := hide (heap_alloc_new _ _)
  have HS1 := hide (hs1.below (unhide HA))
  have HL1 : Hid (b < w1.heap.size) := hide (hs1.lt)
  clear hs1 hk1 HV HK HS
  go_wp2_with fail
  refine (next_k b ao n cap (m + 3) 4 _ (by omega) (by omega) (by omega) hn (unhide HS1)).mono ?_
  rintro e w2 ⟨r, rfl, hr0, hr1, hs2, hk2⟩
  obtain ⟨r, rfl⟩ := Int.eq_ofNat_of_zero_le hr0
  have HB2 : Hid (w2.heap[w1.heap.size]? = some (.cells #[.int .i64 2, .int .i64 2, .int .i64 2, .int .i64 (1 + x)] 3 (0, 0))) := hide (by rw [hk2.block w1.heap.size (by simp) (by have := unhide HL1; omega)]; exact unhide HB1)
  obtain ⟨k, hk, hcell⟩ := lst4 (1 + x) r (by omega) (by omega) (unhide HB2)
  have HV2 := hide (((unhide HV1).keep (Keep.of_below (S := fun _ => False) (unhide HA)) (fun h => h)).keep hk2 (by omega))
  have HK2 := hide ((unhide HK1).trans ((Keep.of_below (unhide HA)).trans hk2))
  have HZ := hide (VarQ.new w2 (.int .i64 k) (.int .i64 0) (.int .i64 0) (.string ⟨#[]⟩))
  have HQ3 := hide (Joins.below_alloc1 w2 (.cells #[.int .i64 k, .int .i64 0, .int .i64 0, .string ⟨#[]⟩] 51))
  have HS3 := hide (hs2.below (unhide HQ3))
  have HY3 := hide ((unhide HV2).keep (Keep.of_below (S := fun _ => False) (unhide HQ3)) (fun h => h))
  have HK3 := hide ((unhide HK2).trans (Keep.of_below (unhide HQ3)))
  have HZY : Hid (w.heap.size < w2.heap.size) := hide ((unhide HV2).lt)
  have hr4 : (r : Int) < 4 := by omega
  have hr40 : (0 : Int) ≤ (r : Int) := by omega
  clear hs2 hk2 HV2 HK2 HB2 HQ3 HV1 HK1 HA HB1 HS1 HL1 hr0 hr1 hx0 hx1 hwr
  have h18 : k = 1 ∨ k = 2 ∨ k = 3 ∨ k = 4 ∨ k = 5 ∨ k = 6 ∨ k = 7 ∨ k = 8 := by omega
  have HCELL := hide hcell
  clear hcell
  rcases h18 with rfl | rfl | rfl | rfl | rfl | rfl | rfl | rfl
  · have hcell := unhide HCELL
    have HS := HS3
    have HY := HY3
    have HK := HK3
    clear HS3 HY3 HK3
    obtain ⟨q0, q1, q2, q3⟩ := (unhide HZ).cells
    clear HCELL
    go_wp2_with fail
    refine (next_k b ao n cap _ 13 _ (by omega) (by omega) (by omega) hn (unhide HS)).mono ?_
    rintro e w4 ⟨g, rfl, g0, g1, hs4, hk4⟩
    replace HZ := hide ((unhide HZ).keep hk4 (by have := unhide HZY; omega))
    replace HY := hide ((unhide HY).keep hk4 (by omega))
    replace HK := hide ((unhide HK).trans hk4)
    replace HS := hide hs4
    clear hs4 hk4
    clear q0 q1 q2 q3 hcell
    obtain ⟨z0, z1, z2, z3⟩ := (unhide HZ).cells
    obtain ⟨f0, f1, f2, f3⟩ := (unhide HZ).free
    have HZ9 := hide ((unhide HZ).set1 (.int .i64 g))
    have HY9 := hide ((unhide HY).other (p := ⟨w2.heap.size, 1, none⟩) (by have := unhide HZY; show w.heap.size ≠ w2.heap.size; omega) (.int .i64 g))
    have HS9 := hide (SrcK.at1 (unhide HS0) (unhide HK) (unhide HS) (unhide HZY) 1 (.int .i64 g))
    have HK9 := hide ((unhide HK).setHi (p := ⟨w2.heap.size, 1, none⟩) (Nat.le_of_lt (unhide HZY)) (.int .i64 g))
    clear HZ HY HS HK
    have HZ := HZ9
    have HY := HY9
    have HS := HS9
    have HK := HK9
    clear HZ9 HY9 HS9 HK9
    obtain ⟨x0, x1, x2, x3⟩ := (unhide HY).cells
    obtain ⟨h0', h1', h2', h3'⟩ := (unhide HY).free
    have HE := hide (q_end (.int .i64 1) (.int .i64 g) (.int .i64 0) (.string noB) (unhide HS0) (unhide HY) (unhide HK) (unhide HS))
    obtain ⟨p0, p1, p2, p3⟩ := (unhide HZ).cells
    go_wp2
    exact bodyPost_ret (res_rq Tryz.results46 rfl (unhide HE).1) rfl ⟨⟨1, g, 0, noB⟩, rfl, ⟨by simp, ⟨g0, by simp; omega⟩, by simp, .inl rfl, rq_1 _ _ (by omega)⟩, (unhide HE).2.1.more (by omega), (unhide HE).2.2⟩
  · have hcell := unhide HCELL
    have HS := HS3
    have HY := HY3
    have HK := HK3
    clear HS3 HY3 HK3
    obtain ⟨q0, q1, q2, q3⟩ := (unhide HZ).cells
    clear HCELL
    go_wp2_with fail
    refine (next_k b ao n cap _ 10 _ (by omega) (by omega) (by omega) hn (unhide HS)).mono ?_
    rintro e w4 ⟨g, rfl, g0, g1, hs4, hk4⟩
    replace HZ := hide ((unhide HZ).keep hk4 (by have := unhide HZY; omega))
    replace HY := hide ((unhide HY).keep hk4 (by omega))
    replace HK := hide ((unhide HK).trans hk4)
    replace HS := hide hs4
    clear hs4 hk4
    clear q0 q1 q2 q3 hcell
    obtain ⟨z0, z1, z2, z3⟩ := (unhide HZ).cells
    obtain ⟨f0, f1, f2, f3⟩ := (unhide HZ).free
    have HZ9 := hide ((unhide HZ).set1 (.int .i64 g))
    have HY9 := hide ((unhide HY).other (p := ⟨w2.heap.size, 1, none⟩) (by have := unhide HZY; show w.heap.size ≠ w2.heap.size; omega) (.int .i64 g))
    have HS9 := hide (SrcK.at1 (unhide HS0) (unhide HK) (unhide HS) (unhide HZY) 1 (.int .i64 g))
    have HK9 := hide ((unhide HK).setHi (p := ⟨w2.heap.size, 1, none⟩) (Nat.le_of_lt (unhide HZY)) (.int .i64 g))
    clear HZ HY HS HK
    have HZ := HZ9
    have HY := HY9
    have HS := HS9
    have HK := HK9
    clear HZ9 HY9 HS9 HK9
    go_wp2_with fail
    refine (number_k b ao n cap _ _ (by omega) hn (unhide HS)).mono ?_
    rintro e w5 ⟨v, rfl, v0, v1, hs4, hk4⟩
    replace HZ := hide ((unhide HZ).keep hk4 (by have := unhide HZY; omega))
    replace HY := hide ((unhide HY).keep hk4 (by omega))
    replace HK := hide ((unhide HK).trans hk4)
    replace HS := hide hs4
    clear hs4 hk4 z0 z1 z2 z3 f0 f1 f2 f3
    obtain ⟨z0, z1, z2, z3⟩ := (unhide HZ).cells
    obtain ⟨f0, f1, f2, f3⟩ := (unhide HZ).free
    have HZ9 := hide ((unhide HZ).set2 (.int .i64 v))
    have HY9 := hide ((unhide HY).other (p := ⟨w2.heap.size, 2, none⟩) (by have := unhide HZY; show w.heap.size ≠ w2.heap.size; omega) (.int .i64 v))
    have HS9 := hide (SrcK.at1 (unhide HS0) (unhide HK) (unhide HS) (unhide HZY) 2 (.int .i64 v))
    have HK9 := hide ((unhide HK).setHi (p := ⟨w2.heap.size, 2, none⟩) (Nat.le_of_lt (unhide HZY)) (.int .i64 v))
    clear HZ HY HS HK
    have HZ := HZ9
    have HY := HY9
    have HS := HS9
    have HK := HK9
    clear HZ9 HY9 HS9 HK9
    obtain ⟨x0, x1, x2, x3⟩ := (unhide HY).cells
    obtain ⟨h0', h1', h2', h3'⟩ := (unhide HY).free
    have HE := hide (q_end (.int .i64 2) (.int .i64 g) (.int .i64 v) (.string noB) (unhide HS0) (unhide HY) (unhide HK) (unhide HS))
    obtain ⟨p0, p1, p2, p3⟩ := (unhide HZ).cells
    go_wp2
    exact bodyPost_ret (res_rq Tryz.results46 rfl (unhide HE).1) rfl ⟨⟨2, g, v, noB⟩, rfl, ⟨by simp, ⟨g0, by simp; omega⟩, ⟨v0, v1⟩, .inl rfl, rq_2 _ _⟩, (unhide HE).2.1.more (by omega), (unhide HE).2.2⟩
  · have hcell := unhide HCELL
    have HS := HS3
    have HY := HY3
    have HK := HK3
    clear HS3 HY3 HK3
    obtain ⟨q0, q1, q2, q3⟩ := (unhide HZ).cells
    clear HCELL
    go_wp2_with fail
    refine (next_k b ao n cap _ 13 _ (by omega) (by omega) (by omega) hn (unhide HS)).mono ?_
    rintro e w4 ⟨g, rfl, g0, g1, hs4, hk4⟩
    replace HZ := hide ((unhide HZ).keep hk4 (by have := unhide HZY; omega))
    replace HY := hide ((unhide HY).keep hk4 (by omega))
    replace HK := hide ((unhide HK).trans hk4)
    replace HS := hide hs4
    clear hs4 hk4
    clear q0 q1 q2 q3 hcell
    obtain ⟨z0, z1, z2, z3⟩ := (unhide HZ).cells
    obtain ⟨f0, f1, f2, f3⟩ := (unhide HZ).free
    have HZ9 := hide ((unhide HZ).set1 (.int .i64 g))
    have HY9 := hide ((unhide HY).other (p := ⟨w2.heap.size, 1, none⟩) (by have := unhide HZY; show w.heap.size ≠ w2.heap.size; omega) (.int .i64 g))
    have HS9 := hide (SrcK.at1 (unhide HS0) (unhide HK) (unhide HS) (unhide HZY) 1 (.int .i64 g))
    have HK9 := hide ((unhide HK).setHi (p := ⟨w2.heap.size, 1, none⟩) (Nat.le_of_lt (unhide HZY)) (.int .i64 g))
    clear HZ HY HS HK
    have HZ := HZ9
    have HY := HY9
    have HS := HS9
    have HK := HK9
    clear HZ9 HY9 HS9 HK9
    obtain ⟨x0, x1, x2, x3⟩ := (unhide HY).cells
    obtain ⟨h0', h1', h2', h3'⟩ := (unhide HY).free
    have HE := hide (q_end (.int .i64 3) (.int .i64 g) (.int .i64 0) (.string noB) (unhide HS0) (unhide HY) (unhide HK) (unhide HS))
    obtain ⟨p0, p1, p2, p3⟩ := (unhide HZ).cells
    go_wp2
    exact bodyPost_ret (res_rq Tryz.results46 rfl (unhide HE).1) rfl ⟨⟨3, g, 0, noB⟩, rfl, ⟨by simp, ⟨g0, by simp; omega⟩, by simp, .inl rfl, rq_1 _ _ (by omega)⟩, (unhide HE).2.1.more (by omega), (unhide HE).2.2⟩
  · have hcell := unhide HCELL
    have HS := HS3
    have HY := HY3
    have HK := HK3
    clear HS3 HY3 HK3
    obtain ⟨q0, q1, q2, q3⟩ := (unhide HZ).cells
    clear HCELL
    go_wp2_with fail
    refine (next_k b ao n cap _ 13 _ (by omega) (by omega) (by omega) hn (unhide HS)).mono ?_
    rintro e w4 ⟨g, rfl, g0, g1, hs4, hk4⟩
    replace HZ := hide ((unhide HZ).keep hk4 (by have := unhide HZY; omega))
    replace HY := hide ((unhide HY).keep hk4 (by omega))
    replace HK := hide ((unhide HK).trans hk4)
    replace HS := hide hs4
    clear hs4 hk4
    clear q0 q1 q2 q3 hcell
    obtain ⟨z0, z1, z2, z3⟩ := (unhide HZ).cells
    obtain ⟨f0, f1, f2, f3⟩ := (unhide HZ).free
    have HZ9 := hide ((unhide HZ).set1 (.int .i64 g))
    have HY9 := hide ((unhide HY).other (p := ⟨w2.heap.size, 1, none⟩) (by have := unhide HZY; show w.heap.size ≠ w2.heap.size; omega) (.int .i64 g))
    have HS9 := hide (SrcK.at1 (unhide HS0) (unhide HK) (unhide HS) (unhide HZY) 1 (.int .i64 g))
    have HK9 := hide ((unhide HK).setHi (p := ⟨w2.heap.size, 1, none⟩) (Nat.le_of_lt (unhide HZY)) (.int .i64 g))
    clear HZ HY HS HK
    have HZ := HZ9
    have HY := HY9
    have HS := HS9
    have HK := HK9
    clear HZ9 HY9 HS9 HK9
    obtain ⟨x0, x1, x2, x3⟩ := (unhide HY).cells
    obtain ⟨h0', h1', h2', h3'⟩ := (unhide HY).free
    have HE := hide (q_end (.int .i64 4) (.int .i64 g) (.int .i64 0) (.string noB) (unhide HS0) (unhide HY) (unhide HK) (unhide HS))
    obtain ⟨p0, p1, p2, p3⟩ := (unhide HZ).cells
    go_wp2
    exact bodyPost_ret (res_rq Tryz.results46 rfl (unhide HE).1) rfl ⟨⟨4, g, 0, noB⟩, rfl, ⟨by simp, ⟨g0, by simp; omega⟩, by simp, .inl rfl, rq_1 _ _ (by omega)⟩, (unhide HE).2.1.more (by omega), (unhide HE).2.2⟩
  · have hcell := unhide HCELL
    have HS := HS3
    have HY := HY3
    have HK := HK3
    clear HS3 HY3 HK3
    obtain ⟨q0, q1, q2, q3⟩ := (unhide HZ).cells
    clear HCELL
    go_wp2_with fail
    refine (snapName_r b ao n cap _ _ (by omega) hn (unhide HS)).mono ?_
    rintro e w4 ⟨t, rfl, ht, hs4, hk4⟩
    have HT := hide ht
    have HTZ : Hid (t.size ≤ 65536) := hide (by obtain ⟨i, hi, rfl⟩ := List.mem_iff_getElem.1 ht; have := (snapNms_sz i hi).1; omega)
    replace HZ := hide ((unhide HZ).keep hk4 (by have := unhide HZY; omega))
    replace HY := hide ((unhide HY).keep hk4 (by omega))
    replace HK := hide ((unhide HK).trans hk4)
    replace HS := hide hs4
    clear hs4 hk4 ht q0 q1 q2 q3 hcell
    obtain ⟨z0, z1, z2, z3⟩ := (unhide HZ).cells
    obtain ⟨f0, f1, f2, f3⟩ := (unhide HZ).free
    have HZ9 := hide ((unhide HZ).set3 (.string t))
    have HY9 := hide ((unhide HY).other (p := ⟨w2.heap.size, 3, none⟩) (by have := unhide HZY; show w.heap.size ≠ w2.heap.size; omega) (.string t))
    have HS9 := hide (SrcK.at1 (unhide HS0) (unhide HK) (unhide HS) (unhide HZY) 3 (.string t))
    have HK9 := hide ((unhide HK).setHi (p := ⟨w2.heap.size, 3, none⟩) (Nat.le_of_lt (unhide HZY)) (.string t))
    clear HZ HY HS HK
    have HZ := HZ9
    have HY := HY9
    have HS := HS9
    have HK := HK9
    clear HZ9 HY9 HS9 HK9
    obtain ⟨x0, x1, x2, x3⟩ := (unhide HY).cells
    obtain ⟨h0', h1', h2', h3'⟩ := (unhide HY).free
    have HE := hide (q_end (.int .i64 5) (.int .i64 0) (.int .i64 0) (.string t) (unhide HS0) (unhide HY) (unhide HK) (unhide HS))
    obtain ⟨p0, p1, p2, p3⟩ := (unhide HZ).cells
    go_wp2
    exact bodyPost_ret (res_rq Tryz.results46 rfl (unhide HE).1) rfl ⟨⟨5, 0, 0, t⟩, rfl, ⟨by simp, by simp, by simp, .inr (unhide HT), by simp [rqB, betw, useB, unhide HTZ]⟩, (unhide HE).2.1.more (by omega), (unhide HE).2.2⟩
  · have hcell := unhide HCELL
    have HS := HS3
    have HY := HY3
    have HK := HK3
    clear HS3 HY3 HK3
    obtain ⟨q0, q1, q2, q3⟩ := (unhide HZ).cells
    clear HCELL
    go_wp2_with fail
    refine (snapName_r b ao n cap _ _ (by omega) hn (unhide HS)).mono ?_
    rintro e w4 ⟨t, rfl, ht, hs4, hk4⟩
    have HT := hide ht
    have HTZ : Hid (t.size ≤ 65536) := hide (by obtain ⟨i, hi, rfl⟩ := List.mem_iff_getElem.1 ht; have := (snapNms_sz i hi).1; omega)
    replace HZ := hide ((unhide HZ).keep hk4 (by have := unhide HZY; omega))
    replace HY := hide ((unhide HY).keep hk4 (by omega))
    replace HK := hide ((unhide HK).trans hk4)
    replace HS := hide hs4
    clear hs4 hk4 ht q0 q1 q2 q3 hcell
    obtain ⟨z0, z1, z2, z3⟩ := (unhide HZ).cells
    obtain ⟨f0, f1, f2, f3⟩ := (unhide HZ).free
    have HZ9 := hide ((unhide HZ).set3 (.string t))
    have HY9 := hide ((unhide HY).other (p := ⟨w2.heap.size, 3, none⟩) (by have := unhide HZY; show w.heap.size ≠ w2.heap.size; omega) (.string t))
    have HS9 := hide (SrcK.at1 (unhide HS0) (unhide HK) (unhide HS) (unhide HZY) 3 (.string t))
    have HK9 := hide ((unhide HK).setHi (p := ⟨w2.heap.size, 3, none⟩) (Nat.le_of_lt (unhide HZY)) (.string t))
    clear HZ HY HS HK
    have HZ := HZ9
    have HY := HY9
    have HS := HS9
    have HK := HK9
    clear HZ9 HY9 HS9 HK9
    obtain ⟨x0, x1, x2, x3⟩ := (unhide HY).cells
    obtain ⟨h0', h1', h2', h3'⟩ := (unhide HY).free
    have HE := hide (q_end (.int .i64 6) (.int .i64 0) (.int .i64 0) (.string t) (unhide HS0) (unhide HY) (unhide HK) (unhide HS))
    obtain ⟨p0, p1, p2, p3⟩ := (unhide HZ).cells
    go_wp2
    exact bodyPost_ret (res_rq Tryz.results46 rfl (unhide HE).1) rfl ⟨⟨6, 0, 0, t⟩, rfl, ⟨by simp, by simp, by simp, .inr (unhide HT), by simp [rqB, betw, useB, unhide HTZ]⟩, (unhide HE).2.1.more (by omega), (unhide HE).2.2⟩
  · have hcell := unhide HCELL
    have HS := HS3
    have HY := HY3
    have HK := HK3
    clear HS3 HY3 HK3
    obtain ⟨q0, q1, q2, q3⟩ := (unhide HZ).cells
    clear HCELL
    go_wp2_with fail
    refine (snapName_r b ao n cap _ _ (by omega) hn (unhide HS)).mono ?_
    rintro e w4 ⟨t, rfl, ht, hs4, hk4⟩
    have HT := hide ht
    have HTZ : Hid (t.size ≤ 65536) := hide (by obtain ⟨i, hi, rfl⟩ := List.mem_iff_getElem.1 ht; have := (snapNms_sz i hi).1; omega)
    replace HZ := hide ((unhide HZ).keep hk4 (by have := unhide HZY; omega))
    replace HY := hide ((unhide HY).keep hk4 (by omega))
    replace HK := hide ((unhide HK).trans hk4)
    replace HS := hide hs4
    clear hs4 hk4 ht q0 q1 q2 q3 hcell
    obtain ⟨z0, z1, z2, z3⟩ := (unhide HZ).cells
    obtain ⟨f0, f1, f2, f3⟩ := (unhide HZ).free
    have HZ9 := hide ((unhide HZ).set3 (.string t))
    have HY9 := hide ((unhide HY).other (p := ⟨w2.heap.size, 3, none⟩) (by have := unhide HZY; show w.heap.size ≠ w2.heap.size; omega) (.string t))
    have HS9 := hide (SrcK.at1 (unhide HS0) (unhide HK) (unhide HS) (unhide HZY) 3 (.string t))
    have HK9 := hide ((unhide HK).setHi (p := ⟨w2.heap.size, 3, none⟩) (Nat.le_of_lt (unhide HZY)) (.string t))
    clear HZ HY HS HK
    have HZ := HZ9
    have HY := HY9
    have HS := HS9
    have HK := HK9
    clear HZ9 HY9 HS9 HK9
    obtain ⟨x0, x1, x2, x3⟩ := (unhide HY).cells
    obtain ⟨h0', h1', h2', h3'⟩ := (unhide HY).free
    have HE := hide (q_end (.int .i64 7) (.int .i64 0) (.int .i64 0) (.string t) (unhide HS0) (unhide HY) (unhide HK) (unhide HS))
    obtain ⟨p0, p1, p2, p3⟩ := (unhide HZ).cells
    go_wp2
    exact bodyPost_ret (res_rq Tryz.results46 rfl (unhide HE).1) rfl ⟨⟨7, 0, 0, t⟩, rfl, ⟨by simp, by simp, by simp, .inr (unhide HT), by simp [rqB, betw, useB, unhide HTZ]⟩, (unhide HE).2.1.more (by omega), (unhide HE).2.2⟩
  · have hcell := unhide HCELL
    have HS := HS3
    have HY := HY3
    have HK := HK3
    clear HS3 HY3 HK3
    obtain ⟨q0, q1, q2, q3⟩ := (unhide HZ).cells
    clear HCELL
    obtain ⟨x0, x1, x2, x3⟩ := (unhide HY).cells
    obtain ⟨h0', h1', h2', h3'⟩ := (unhide HY).free
    have HE := hide (q_end (.int .i64 8) (.int .i64 0) (.int .i64 0) (.string noB) (unhide HS0) (unhide HY) (unhide HK) (unhide HS))
    go_wp2
    exact bodyPost_ret (res_rq Tryz.results46 rfl (unhide HE).1) rfl ⟨⟨8, 0, 0, noB⟩, rfl, ⟨by simp, by simp, by simp, .inl rfl, rq_8d⟩, (unhide HE).2.1.more (by omega), (unhide HE).2.2⟩

set_option maxHeartbeats 1600000 in
theorem reqOf_any (ao : Option Addr) (n cap : Nat) (w : World) (hn : n ≤ 1048576) (hB : Bs w ao n) :
    Calls Tryz.prog 16 #[.slice ao n cap] w fun e w' => ∃ q : Rq, e = .returned (qV q) ∧ DrwQ q ∧ Below w.heap.size w w' := by
  have HA := hide (Joins.below_alloc1 w (.cells #[.int .i64 0, .int .i64 0, .int .i64 0, .string ⟨#[]⟩] 51))
  have HV := hide (VarQ.new w (.int .i64 0) (.int .i64 0) (.int .i64 0) (.string ⟨#[]⟩))
  have HB := hide (hB.below (unhide HA))
  clear hB
  go_enter Tryz.func16, Tryz.ntmps16
  go_upto_region 1 with fail
  revert HA HV HB
  generalize (w.alloc _) = W0
  intro HA HV HB
  go_wp2_with fail
  refine (source_any ao n cap _ hn (unhide HB)).mono ?_
  rintro e w1 ⟨rfl, hs1, hb1, hz⟩
  go_wp2_with fail
  refine (req_k _ ao n cap 0 _ (by omega) hn hs1).mono ?_
  rintro e w2 ⟨q, rfl, hq, hs2, hk⟩
  have hb2 : Below W0.heap.size W0 w2 := hb1.trans (hk.below (B := W0.heap.size) (by omega) (fun k hk => by omega))
  have HB2 := hide (fr (unhide HA) hb2)
  have HV2 := hide ((unhide HV).keep (Keep.of_below (S := fun _ => False) hb2) (fun h => h))
  have HQ := hide hq
  clear hb1 hz hk hs2 hs1 hb2 hq HB HV HA
  obtain ⟨x0, x1, x2, x3⟩ := (unhide HV2).cells
  obtain ⟨f0, f1, f2, f3⟩ := (unhide HV2).free
  have HVE := hide (((((unhide HV2).set0 (.int .i64 q.k)).set1 (.int .i64 q.g)).set2 (.int .i64 q.v)).set3 (.string q.n))
  have HBE := hide (((((unhide HB2).setCell (p := ⟨w.heap.size, 0, none⟩) (Nat.le_refl _) (.int .i64 q.k)).setCell (p := ⟨w.heap.size, 1, none⟩) (Nat.le_refl _) (.int .i64 q.g)).setCell (p := ⟨w.heap.size, 2, none⟩) (Nat.le_refl _) (.int .i64 q.v)).setCell (p := ⟨w.heap.size, 3, none⟩) (Nat.le_refl _) (.string q.n))
  go_wp2
  exact bodyPost_ret (res_rq Tryz.results16 rfl (unhide HVE)) rfl ⟨q, rfl, unhide HQ, unhide HBE⟩

end Go.Proofs.YtbmkdbccdnbbjaaGreatDoor
