import Derived.Test.YthnpooffhopnkaaRows
import Derived.Test.YthnpooffhopnkaaPart1
import Derived.Test.YthnpooffhopnkaaPart2
import Derived.Test.YthnpooffhopnkaaPart3
import Derived.Test.YthnpooffhopnkaaPart4
import Derived.Test.YthnpooffhopnkaaPart9
import Derived.Test.YthnpooffhopnkaaPart8
import Derived.Test.YthnpooffhopnkaaPart12
import Derived.Test.YthnpooffhopnkaaPart14
import Derived.Test.YthnpooffhopnkaaPart15
import Derived.Test.YthnpooffhopnkaaPart13
import Derived.WalkKit
import Derived.WalkSpells
import Derived.KernelRfl
import Derived.LoopN
import Derived.Deep.RegionWith
import Derived.Laws.CopyRow
import Derived.Laws.CopyOwn
import Derived.Test.YthnpooffhopnkaaPart7
import Derived.BigQuiet
import Derived.Deep.QuietTactic
import Derived.Deep.CutRange
import Derived.Laws.ResultCell
import Derived.Laws.Cover3
import Derived.Deep.MidRow

/- Contracts of the model's l14Table, l14Of, GuestOf. -/
namespace Go.Proofs.Ythnpooffhopnkaa
open Go.RowKit
set_option linter.unusedVariables false
set_option maxRecDepth 100000

theorem infoSg : (Try.prog.info? 69).map (fun i => (i.zero, i.size, i.bytes)) = some (some (.agg #[.string ⟨#[]⟩, .slice none 0 0]), 2, 40) := by kernel_rfl
theorem shT_take {m : Img} {xs : List Int} {k : Nat} (h : k < xs.length) : shT m (xs.take (k + 1)) = shT m (xs.take k) ++ [imVal m xs[k]] := by
  rw [List.take_succ_eq_append_getElem h, shT, List.map_append]; rfl

set_option maxHeartbeats 3200000 in
theorem l14Table_any (a : Im4) (m : Img) (ao : Option Addr) (cap : Nat) (xs : List Int) (w : World) (hl : xs.length ≤ 1000) (hx : ∀ j (h : j < xs.length), 0 ≤ xs[j] ∧ xs[j] - 2 < m.data.length) (hd : m.data.length ≤ 1000) (hcd : Is w a.dq m.data) (hc : Is w ao xs) :
    Calls Try.prog 83 #[imV a m, .slice ao xs.length cap] w fun e w' => ∃ v, e = .returned v ∧ OwnN w' w.heap.size v (shT m xs) ∧ Below w.heap.size w w' := by
  obtain ⟨j0, hj, hy0, hy1, hy2⟩ := info_parts infoIg
  have HA := hide (Joins.below_alloc1 w (.cells #[.slice a.ro m.refs.length a.rc, .slice a.tq m.table.length a.tc, .slice a.so m.snaps.length a.sc, .slice a.dq m.data.length a.dc] 45))
  have HV := hide (VarM.new w 45 (.slice a.ro m.refs.length a.rc) (.slice a.tq m.table.length a.tc) (.slice a.so m.snaps.length a.sc) (.slice a.dq m.data.length a.dc))
  have HC := hide (hc.below (unhide HA))
  have HCD := hide (hcd.below (unhide HA))
  have HX := hide hx
  have HD := hide hd
  clear hc hcd hx hd
  go_enter Try.func83, Try.ntmps83
  go_upto_region 1 with fail
  revert HA HV HC HCD
  generalize (w.alloc _) = W0
  intro HA HV HC HCD
  have HB0 := hide (Joins.below_alloc1 W0 (.cells #[] 3))
  go_upto_region 3 with fail
  revert HB0
  generalize hW1 : (W0.alloc (.cells #[] 3)) = W1
  clear hW1
  intro HB0
  go_loopw [5, 6] (fun o i wr => ∃ (k : Nat) (ys : List Int) (qo : Option Addr) (qa : Nat), k ≤ xs.length ∧ i = .int .i64 k ∧ o = .slice qo ys.length qa ∧ Hid (ys = shT m (xs.take k)) ∧ Hid (OwnR wr W0.heap.size 3 1 (.slice qo ys.length qa) ys.length (intV ys)) ∧ Hid (Below W0.heap.size W0 wr)) (fun _ i _ => xs.length - (intOf i).toNat)
  case atStart => exact ⟨0, [], _, _, Nat.zero_le _, rfl, rfl, hide rfl, hide (.inl ⟨rfl, rfl, _, rfl⟩), HB0⟩
  case round =>
    clear HB0
    obtain ⟨k, ys, qo, qa, hk, rfl, rfl, HE, HO, HB⟩ := hrel
    by_cases hlt : k < xs.length
    · obtain ⟨b, off, rfl, hcl⟩ := ((unhide HC).below (unhide HB)) k hlt
      have hki : (k : Int) < (xs.length : Int) := by omega
      have HXK := hide (unhide HX k hlt)
      have HS := hide (shT_take (m := m) hlt)
      have HYL : Hid (ys.length ≤ 1000) := hide (by rw [unhide HE, shT, List.length_map, List.length_take]; omega)
      have HCL : Hid (∀ W, Below wr.heap.size wr W → W.cell? ⟨b, off + k, none⟩ = some (.int .i64 xs[k])) := hide (fun W hW => (hW.cell (p := ⟨b, off + k, none⟩) (World.block_lt_of_cell? _ _ hcl)).trans hcl)
      clear hcl
      generalize xs[k] = X at *
      go_upto_region 5 with fail
      have hS0 : Below wr.heap.size wr wr.drew := (Below.refl _ _).drew
      refine wp_region_ord (fun w' => Below wr.heap.size wr w') [0, 1, 2, 3, 4, 5, 6, 7] [(0, 0), (2, 0), (3, 0), (4, 0), (5, 0), (1, 0), (6, 2), (7, 2), (8, 3), (9, 4)] (by kernel_rfl) (by kernel_rfl) rfl (by kernel_rfl) ?_
      refine ord_read (.slice qo ys.length qa) rfl rfl hS0 (fun W hW => by go_simp) ?_
      refine ord_read (.slice (some ⟨b, off, none⟩) xs.length cap) rfl rfl hS0 (fun W hW => by go_simp) ?_
      refine ord_read (.int .i64 k) rfl rfl hS0 (fun W hW => by go_simp) ?_
      refine ord_read (.pointer (some ⟨b, off + k, none⟩)) rfl rfl hS0 (fun W hW => by go_simp) ?_
      refine ord_read (.int .i64 X) rfl rfl hS0 (fun W hW => by have := unhide HCL W hW; go_simp) ?_
      refine ord_read (imV a m) rfl rfl hS0 (fun W hW => by obtain ⟨k0, k1, k2, k3⟩ := (((unhide HV).below (unhide HB)).below hW).cells; go_simp) ?_
      refine ord_held rfl rfl ?_
      intro K hK
      unfold Oper.wp
      go_simp
      refine (l10Value_any a m X _ (unhide HXK).1 (unhide HXK).2 (unhide HD) (((unhide HCD).below (unhide HB)).below hS0)).mono ?_
      rintro e w2 ⟨rfl, hb2⟩
      have hS2 : Below wr.heap.size wr w2 := fr hS0 hb2
      refine hK _ _ hS2 ?_
      clear hK K hb2 hS0
      generalize imVal m X = V at *
      refine ord_held rfl rfl ?_
      intro K hK
      unfold Oper.wp
      go_simp
      have hS3 : Below wr.heap.size wr (w2.alloc (.cells #[.int .i64 V] 3)) := fr hS2 (Joins.below_alloc1 _ _)
      refine hK _ _ hS3 ?_
      clear hK K
      have HOA := hide ((unhide HO).below hS3)
      have HBA := hide (fr (unhide HB) hS3)
      have HSZ := hide (unhide HB).size
      have hyl := unhide HYL
      refine ord_alone rfl rfl ?_
      intro K hK
      refine wp_append_one rfl (.tmp 14) (.tmp 21) 22 rfl W0.heap.size 3 j0 (.int .i64 0) 1 8 Try.underlying22 hj hy0 hy1 hy2 rfl (by omega) qo ys.length qa (intV ys) rfl (unhide HOA) (unhide HBA).size ⟨w2.heap.size, 0, none⟩ 1 [.int .i64 V] rfl rfl (byte_news w2 _ _) (int_one _) (by unfold maxLen; omega) (by omega) ?_
      intro g2 cap2 wA hoA hkA
      refine hK _ _ ?_
      clear hK K
      refine ord_val (.slice (some ⟨g2, 0, none⟩) (ys.length + 1) cap2) rfl rfl (fun W => by go_simp) ?_
      refine ord_done ?_
      have HBB := hide (keep_below (unhide HBA) (unhide HOA) (Nat.le_refl _) hkA)
      have HOB := hide hoA
      clear hoA hkA hS2 hS3
      go_wp2
      go_roundw
      case rel => exact ⟨k + 1, ys ++ [V], some ⟨g2, 0, none⟩, cap2, by omega, by go_num, by simp, hide (by rw [unhide HS, unhide HE]), hide (by rw [List.length_append, intV_snoc]; exact .inr ⟨by simp, unhide HOB⟩), HBB⟩
      case measure => simp [intOf]; omega
    · have HF : Hid (shT m xs = ys) := hide (by rw [unhide HE, List.take_of_length_le (by omega)])
      go_wp2
      go_ret
      exact ⟨.slice qo ys.length qa, rfl, by rw [unhide HF]; exact ⟨qo, qa, rfl, (unhide HO).base (unhide HA).size⟩, fr (unhide HA) (unhide HB)⟩

/-- Right images: their tables' entries. -/
theorem ImR.ent {m : Img} (h : ImR m) {t : List Int} (ht : t ∈ imTabs m) : t.length ≤ 1000 ∧ ∀ j (p : j < t.length), 0 ≤ t[j] ∧ t[j] - 2 < m.data.length := by
  have hb : tbB t = true := by
    unfold imTabs at ht
    rw [List.mem_cons, List.mem_map] at ht
    rcases ht with rfl | ⟨s, hs, rfl⟩
    · exact h.table
    · exact (h.snaps s hs).2
  refine ⟨by have := tbB_len hb; omega, fun j p => ?_⟩
  have := tbB_at hb j p
  rw [h.len]
  omega
theorem gsOf_bd {m : Img} (h : ImR m) : GsR (gsOf m) := by
  have hv : ∀ t ∈ imTabs m, (shT m t).length ≤ 12 ∧ ∀ x ∈ shT m t, numB x = true := fun t ht => by
    have hb : tbB t = true := by
      unfold imTabs at ht
      rw [List.mem_cons, List.mem_map] at ht
      rcases ht with rfl | ⟨s, hs, rfl⟩
      · exact h.table
      · exact (h.snaps s hs).2
    refine ⟨by rw [shT, List.length_map]; have := tbB_len hb; omega, fun x hx => ?_⟩
    rw [shT, List.mem_map] at hx
    obtain ⟨e, he, rfl⟩ := hx
    unfold imVal
    split
    · decide
    · obtain ⟨j, hj, rfl⟩ := List.mem_iff_getElem.1 he
      have hr := tbB_at hb j hj
      have hlt : (t[j] - 2).toNat < m.data.length := by rw [h.len]; omega
      rw [List.getD_eq_getElem?_getD, List.getElem?_eq_getElem hlt, Option.getD_some]
      exact h.nums _ (List.getElem_mem hlt)
  refine ⟨(hv _ (by simp [imTabs])).1, (hv _ (by simp [imTabs])).2, by simp [gsOf]; exact h.few, fun s hs => ?_, ?_⟩
  · simp only [gsOf, List.mem_map] at hs
    obtain ⟨z, hz, rfl⟩ := hs
    have := hv z.table (by simp only [imTabs, List.mem_cons, List.mem_map]; exact .inr ⟨z, hz, rfl⟩)
    exact ⟨(h.snaps z hz).1, this.1, this.2⟩
  · have e : (gsOf m).shots.map (·.name) = m.snaps.map (·.name) := by simp [gsOf, List.map_map, Function.comp_def]
    rw [e]; exact h.names

set_option maxHeartbeats 6400000 in
theorem l14Of_any (a : Im4) (m : Img) (w : World) (hR : ImR m) (hc : ImS w a m) :
    Calls Try.prog 50 #[imV a m] w fun e w' => ∃ b ts, e = .returned (gsV b (gsOf m)) ∧ OwnGs w' w.heap.size b (gsOf m) ts ∧ Below w.heap.size w w' := by
  obtain ⟨j0, hj0, hy0, hy1, hy2⟩ := info_parts infoSg
  obtain ⟨G, HG⟩ : ∃ G, Hid (G = gsOf m) := ⟨_, hide rfl⟩
  rw [← unhide HG]
  have HA := hide (Joins.below_alloc2 w (.cells #[.slice a.ro m.refs.length a.rc, .slice a.tq m.table.length a.tc, .slice a.so m.snaps.length a.sc, .slice a.dq m.data.length a.dc] 45) (.cells #[.slice none 0 0, .slice none 0 0] 30))
  have HV := hide ((VarM.new w 45 (.slice a.ro m.refs.length a.rc) (.slice a.tq m.table.length a.tc) (.slice a.so m.snaps.length a.sc) (.slice a.dq m.data.length a.dc)).below (Joins.below_alloc1 _ (.cells #[.slice none 0 0, .slice none 0 0] 30)))
  have HR := hide ((VarG.new (w.alloc (.cells #[.slice a.ro m.refs.length a.rc, .slice a.tq m.table.length a.tc, .slice a.so m.snaps.length a.sc, .slice a.dq m.data.length a.dc] 45)) 30 (.slice none 0 0) (.slice none 0 0)).at (show _ = w.heap.size + 1 by simp))
  have HC := hide (hc.below (unhide HA))
  have HIR := hide hR
  have HD := hide (show m.data.length ≤ 1000 by rw [hR.len]; omega)
  have hs3 := hR.few
  have HGS : Hid (G.shots.length = m.snaps.length) := hide (by rw [unhide HG]; simp [gsOf])
  have HGK : Hid (∀ k (h : k < m.snaps.length) (h' : k < G.shots.length), G.shots[k].name = m.snaps[k].name ∧ G.shots[k].table = shT m m.snaps[k].table) := hide (by rw [unhide HG]; exact fun k h h' => by simp [gsOf])
  have HGV : Hid (G.vals = shT m m.table) := hide (by rw [unhide HG]; rfl)
  clear hc hR
  go_enter Try.func50, Try.ntmps50
  go_upto_region 1 with fail
  revert HA HV HR HC
  generalize ((w.alloc _).alloc _) = W0
  intro HA HV HR HC
  obtain ⟨c0, c1, c2, c3⟩ := (unhide HV).cells
  go_wp2_with fail
  refine (l14Table_any a m a.tq a.tc m.table _ ((unhide HIR).ent (by simp [imTabs])).1 ((unhide HIR).ent (by simp [imTabs])).2 (unhide HD) (unhide HC).d (unhide HC).t).mono ?_
  rintro e w1 ⟨v, rfl, ho, hb⟩
  rw [← unhide HGV] at ho
  clear HGV c0 c1 c2 c3
  obtain ⟨vo, vc, rfl, hov⟩ := ho
  have HW : Hid (∀ so : Option Addr, OwG W0 (w1.heap.size + 1) G vo vc ((w1.alloc (.cells #[] 69)).alloc (.cells #[.slice vo G.vals.length vc, .slice so 0 0] 30)) 0 so 0 []) := hide (fun so => by
    have hb2 := Joins.below_alloc2 w1 (.cells #[] 69) (.cells #[.slice vo G.vals.length vc, .slice so 0 0] 30)
    exact ⟨fr hb hb2, (VarG.new (w1.alloc _) _ _ _).at (by simp), rfl, .inl ⟨rfl, by simp [snC], so, rfl⟩, OwnA.one (OwnN.below ⟨vo, vc, rfl, hov⟩ hb2)⟩)
  have HYB : Hid (W0.heap.size ≤ w1.heap.size + 1) := hide (by have := hb.size; omega)
  clear hb hov
  go_upto_region 2 with fail
  obtain HW := hide (unhide HW (some ⟨w1.heap.size, 0, none⟩))
  revert HYB
  revert HW
  generalize ((w1.alloc _).alloc _) = W2
  generalize w1.heap.size + 1 = y
  generalize w1.heap.size = p1
  intro HW HYB
  go_wp2
  go_loopw [4] (fun i wr => ∃ (k : Nat) (so : Option Addr) (sc : Nat) (ts : List Value), k ≤ m.snaps.length ∧ i = .int .i64 k ∧ Hid (OwG W0 y G vo vc wr k so sc ts)) (fun i _ => m.snaps.length - (intOf i).toNat)
  case atStart => exact ⟨0, _, 0, [], Nat.zero_le _, rfl, HW⟩
  case round =>
    clear HW
    obtain ⟨k, so, sc, ts, hk, rfl, HL⟩ := hrel
    obtain ⟨c0, c1, c2, c3⟩ := ((unhide HV).below (unhide HL).b).cells
    by_cases hlt : k < m.snaps.length
    · have hltG : k < G.shots.length := by rw [unhide HGS]; exact hlt
      obtain ⟨b1, o1, tq, tc, e1, hn1, ht1, hi1, hz1, hl1⟩ := ((unhide HC).below (unhide HL).b).s k hlt
      have hki : (k : Int) < (m.snaps.length : Int) := by omega
      rw [e1] at c2
      have HE1 := hide e1
      have HI1 := hide hi1
      have HEN := hide ((unhide HIR).ent (t := m.snaps[k].table) (by simp only [imTabs, List.mem_cons, List.mem_map]; exact .inr ⟨_, List.getElem_mem hlt, rfl⟩))
      have HCL : Hid (∀ W, Below wr.heap.size wr W → W.cell? ⟨b1, o1 + k * 2, none⟩ = some (.string m.snaps[k].name) ∧ W.cell? ⟨b1, o1 + k * 2 + 1, none⟩ = some (.slice tq m.snaps[k].table.length tc)) := hide (fun W hW => ⟨(hW.cell (p := ⟨b1, o1 + k * 2, none⟩) (World.block_lt_of_cell? _ _ hn1)).trans hn1, (hW.cell (p := ⟨b1, o1 + k * 2 + 1, none⟩) (World.block_lt_of_cell? _ _ ht1)).trans ht1⟩)
      have HGN := hide (unhide HGK k hlt hltG)
      clear hi1 hz1 hl1 e1 hn1 ht1
      go_upto_region 5 with fail
      have hS0 : Below wr.heap.size wr wr.drew := (Below.refl _ _).drew
      refine wp_region_ord (fun w' => Below wr.heap.size wr w') [0, 1, 2, 3, 4, 5, 6, 7, 8, 9, 10, 11, 12, 13, 14, 15, 16, 17] [(0, 0), (1, 0), (2, 0), (3, 0), (4, 0), (5, 0), (6, 0), (7, 0), (8, 0), (9, 0), (10, 0), (11, 0), (12, 0), (13, 0), (14, 0), (15, 2), (16, 0), (17, 2), (18, 3), (19, 4), (20, 3)] (by kernel_rfl) (by kernel_rfl) rfl (by kernel_rfl) ?_
      refine ord_read (.pointer (some ⟨y, 1, none⟩)) rfl rfl hS0 (fun W hW => by go_simp) ?_
      refine ord_read (.slice so k sc) rfl rfl hS0 (fun W hW => by obtain ⟨k0, k1⟩ := ((unhide HL).v.below hW).cells; go_simp) ?_
      refine ord_read (.pointer (some ⟨w.heap.size, 2, none⟩)) rfl rfl hS0 (fun W hW => by go_simp) ?_
      refine ord_read (.slice (some ⟨b1, o1, none⟩) m.snaps.length a.sc) rfl rfl hS0 (fun W hW => by obtain ⟨k0, k1, k2, k3⟩ := (((unhide HV).below (unhide HL).b).below hW).cells; rw [unhide HE1] at k2; go_simp) ?_
      refine ord_read (.int .i64 k) rfl rfl hS0 (fun W hW => by go_simp) ?_
      refine ord_read (.pointer (some ⟨b1, o1 + k * 2, none⟩)) rfl rfl hS0 (fun W hW => by go_simp) ?_
      refine ord_read (.pointer (some ⟨b1, o1 + k * 2, none⟩)) rfl rfl hS0 (fun W hW => by go_simp) ?_
      refine ord_read (.string m.snaps[k].name) rfl rfl hS0 (fun W hW => by obtain ⟨k0, k1⟩ := unhide HCL W hW; go_simp) ?_
      refine ord_read (imV a m) rfl rfl hS0 (fun W hW => by obtain ⟨k0, k1, k2, k3⟩ := (((unhide HV).below (unhide HL).b).below hW).cells; go_simp) ?_
      refine ord_read (.pointer (some ⟨w.heap.size, 2, none⟩)) rfl rfl hS0 (fun W hW => by go_simp) ?_
      refine ord_read (.slice (some ⟨b1, o1, none⟩) m.snaps.length a.sc) rfl rfl hS0 (fun W hW => by obtain ⟨k0, k1, k2, k3⟩ := (((unhide HV).below (unhide HL).b).below hW).cells; rw [unhide HE1] at k2; go_simp) ?_
      refine ord_read (.int .i64 k) rfl rfl hS0 (fun W hW => by go_simp) ?_
      refine ord_read (.pointer (some ⟨b1, o1 + k * 2, none⟩)) rfl rfl hS0 (fun W hW => by go_simp) ?_
      refine ord_read (.pointer (some ⟨b1, o1 + k * 2 + 1, none⟩)) rfl rfl hS0 (fun W hW => by go_simp) ?_
      refine ord_read (.slice tq m.snaps[k].table.length tc) rfl rfl hS0 (fun W hW => by obtain ⟨k0, k1⟩ := unhide HCL W hW; go_simp) ?_
      clear c0 c1 c2 c3
      refine ord_held rfl rfl ?_
      intro K hK
      unfold Oper.wp
      go_simp
      refine (l14Table_any a m tq tc m.snaps[k].table _ (unhide HEN).1 (unhide HEN).2 (unhide HD) (((unhide HC).below (unhide HL).b).d.below hS0) ((unhide HI1).below hS0)).mono ?_
      rintro e w3 ⟨v3, rfl, ho3, hb3⟩
      rw [← (unhide HGN).2] at ho3
      have hS3 : Below wr.heap.size wr w3 := fr hS0 hb3
      obtain ⟨q3, z3, rfl, hr3⟩ := ho3
      have HO3 : Hid (OwnN w3 wr.heap.size (.slice q3 G.shots[k].table.length z3) G.shots[k].table) := hide (OwnN.base ⟨q3, z3, rfl, hr3⟩ hS0.size)
      refine hK _ _ hS3 ?_
      clear hK K hb3 hr3 hS0
      refine ord_read (.agg #[.string m.snaps[k].name, .slice q3 G.shots[k].table.length z3]) rfl rfl hS3 (fun W hW => by go_simp) ?_
      rw [← (unhide HGN).1]
      refine ord_held rfl rfl ?_
      intro K hK
      unfold Oper.wp
      go_simp
      have hS4 : Below wr.heap.size wr (w3.alloc (.cells #[.string G.shots[k].name, .slice q3 G.shots[k].table.length z3] 69)) := fr hS3 (Joins.below_alloc1 _ _)
      have HO4 := hide ((unhide HO3).below (Joins.below_alloc1 w3 (.cells #[.string G.shots[k].name, .slice q3 G.shots[k].table.length z3] 69)))
      have hnew : (w3.alloc (.cells #[.string G.shots[k].name, .slice q3 G.shots[k].table.length z3] 69)).heap[w3.heap.size]? = some (.cells #[.string G.shots[k].name, .slice q3 G.shots[k].table.length z3] 69 (0, 0)) := heap_alloc_new _ _
      refine hK _ _ hS4 ?_
      clear hK K
      generalize (w3.alloc (.cells #[.string G.shots[k].name, .slice q3 G.shots[k].table.length z3] 69)) = w4 at *
      have HL4 := hide ((unhide HL).below hS4)
      refine ord_alone rfl rfl ?_
      intro K hK
      refine wp_append_one rfl (.tmp 19) (.tmp 35) 28 rfl W0.heap.size 69 j0 (.agg #[.string ⟨#[]⟩, .slice none 0 0]) 2 40 Try.underlying28 hj0 hy0 hy1 hy2 rfl (by omega) so k sc (snC (G.shots.take k) ts) rfl (unhide HL4).s (unhide HL4).b.size ⟨w3.heap.size, 0, none⟩ 1 [.string G.shots[k].name, .slice q3 G.shots[k].table.length z3] rfl rfl (snap_news hnew) (snap_one _ _ _ _) (by unfold maxLen; omega) (by omega) ?_
      intro g2 cap2 w5 ho5 hk5
      obtain ⟨hv5, hL5⟩ := (unhide HL).app (unhide HYB) hltG hS4 hk5 ho5 (unhide HO4)
      have HV5 := hide hv5
      have HL5 := hide hL5
      clear hv5 hL5 ho5 hk5
      refine hK _ _ ?_
      clear hK K
      refine ord_val (.pointer (some ⟨y, 1, none⟩)) rfl rfl (fun W => by go_simp) ?_
      refine ord_alone rfl rfl ?_
      intro K hK
      obtain ⟨k0, k1⟩ := (unhide HV5).cells
      obtain ⟨z0, z1⟩ := (unhide HV5).free
      unfold Oper.wp
      go_simp
      refine hK _ _ ?_
      clear hK K k0 k1 z0 z1
      refine ord_done ?_
      clear HV5 HL4 HO4 HO3 hnew hS3 hS4
      go_wp2
      go_roundw
      case rel => exact ⟨k + 1, _, _, _, by omega, by go_num, HL5⟩
      case measure => simp [intOf]; omega
    · have hkl : k = m.snaps.length := by omega
      subst hkl
      have HL2 : Hid (OwG W0 y G vo vc wr G.shots.length so sc ts) := hide (by rw [unhide HGS]; exact unhide HL)
      have HO := hide (unhide HL2).own
      have HR2 := hide ((unhide HR).below (unhide HL).b)
      have HLT := hide (unhide HR).lt
      obtain ⟨d0, d1⟩ := (unhide HL).v.cells
      obtain ⟨r0, r1⟩ := (unhide HR2).cells
      obtain ⟨z0, z1⟩ := (unhide HR2).free
      have HS := hide ((unhide HR2).putG ⟨vo, vc, so, sc⟩ G)
      have HS2 := hide ((unhide HO).putG (unhide HLT) ⟨vo, vc, so, sc⟩ G)
      have HS3 := hide (below_putG (fr (unhide HA) (unhide HL).b) (Nat.le_succ w.heap.size) ⟨vo, vc, so, sc⟩ G)
      unfold putG at HS HS2 HS3
      simp only at HS HS2 HS3
      rw [unhide HGS] at HS HS2 HS3
      go_wp2
      exact bodyPost_ret (res_gs Try.results50 rfl (unhide HS)) rfl ⟨⟨vo, vc, so, sc⟩, ts, by simp only [gsV]; rw [unhide HGS], (unhide HS2).base (by have := unhide HLT; omega), unhide HS3⟩

set_option maxHeartbeats 1600000 in
theorem guestOf_spec (a : Im4) (m : Img) (w : World) (hL : ImL m) (hc : ImS w a m) :
    Calls Try.prog 18 #[imV a m] w fun e w' => AnsG w w' e (goA m) := by
  have HA := hide (Joins.below_alloc2 w (.cells #[.slice a.ro m.refs.length a.rc, .slice a.tq m.table.length a.tc, .slice a.so m.snaps.length a.sc, .slice a.dq m.data.length a.dc] 45) (.cells #[.slice none 0 0, .slice none 0 0] 30))
  have HV := hide ((VarM.new w 45 (.slice a.ro m.refs.length a.rc) (.slice a.tq m.table.length a.tc) (.slice a.so m.snaps.length a.sc) (.slice a.dq m.data.length a.dc)).below (Joins.below_alloc1 _ (.cells #[.slice none 0 0, .slice none 0 0] 30)))
  have HR := hide ((VarG.new (w.alloc (.cells #[.slice a.ro m.refs.length a.rc, .slice a.tq m.table.length a.tc, .slice a.so m.snaps.length a.sc, .slice a.dq m.data.length a.dc] 45)) 30 (.slice none 0 0) (.slice none 0 0)).at (show _ = w.heap.size + 1 by simp))
  have HC := hide (hc.below (unhide HA))
  have HL := hide hL
  clear hc hL
  go_enter Try.func18, Try.ntmps18
  go_upto_region 1 with fail
  revert HA HV HR HC
  generalize ((w.alloc _).alloc _) = W0
  intro HA HV HR HC
  obtain ⟨c0, c1, c2, c3⟩ := (unhide HV).cells
  go_wp2_with fail
  refine (imageOK_spec a m _ (unhide HL) (unhide HC)).mono ?_
  rintro e w1 ⟨rfl, hb⟩
  have HA1 := hide (fr (unhide HA) hb)
  have HV1 := hide ((unhide HV).below hb)
  have HR1 := hide ((unhide HR).below hb)
  have HC1 := hide ((unhide HC).below hb)
  have HLT := hide (unhide HR1).lt
  clear hb c0 c1 c2 c3 HA HV HR HC
  cases him : imB m
  · have HF : Hid (goA m = (gs0, 1)) := hide (by rw [goA, him]; rfl)
    obtain ⟨r0, r1⟩ := (unhide HR1).cells
    obtain ⟨z0, z1⟩ := (unhide HR1).free
    have HS := hide (((unhide HR1).set0 (.slice none 0 0)).set1 (.slice none 0 0))
    have HB2 := hide (((unhide HA1).setCell (p := ⟨w.heap.size + 1, 0, none⟩) (Nat.le_succ _) (.slice none 0 0)).setCell (p := ⟨w.heap.size + 1, 1, none⟩) (Nat.le_succ _) (.slice none 0 0))
    clear him
    go_wp2
    refine bodyPost_ret (res_gc Try.results18 rfl rfl (unhide HS)) rfl ?_
    rw [unhide HF]
    exact AnsG.bad 1 (unhide HB2)
  · have HF : Hid (goA m = (gsOf m, 0)) := hide (by rw [goA, if_pos him])
    have HIR := hide (imB_iff.1 him)
    clear him
    obtain ⟨c0, c1, c2, c3⟩ := (unhide HV1).cells
    go_wp2_with fail
    refine (l14Of_any a m _ (unhide HIR) (unhide HC1)).mono ?_
    rintro e w2 ⟨b, ts, rfl, ho, hb⟩
    have HO := hide ho
    have HA2 := hide (fr (unhide HA1) hb)
    have HR2 := hide ((unhide HR1).below hb)
    clear ho hb c0 c1 c2 c3
    generalize gsOf m = G at *
    obtain ⟨r0, r1⟩ := (unhide HR2).cells
    obtain ⟨z0, z1⟩ := (unhide HR2).free
    have HS := hide ((unhide HR2).putG b G)
    have HS2 := hide ((unhide HO).putG (unhide HLT) b G)
    have HS3 := hide (below_putG (unhide HA2) (Nat.le_succ w.heap.size) b G)
    unfold putG at HS HS2 HS3
    go_wp2
    refine bodyPost_ret (res_gc Try.results18 rfl rfl (unhide HS)) rfl ?_
    rw [unhide HF]
    exact AnsG.of (R := (G, 0)) rfl rfl ((unhide HS2).base (by have := unhide HLT; omega)) (unhide HS3)

end Go.Proofs.Ythnpooffhopnkaa

/- Contracts of the program's tables: TableOK, tableFault, EncodeTable, splitEntry, EntryOf, ResizeTable. -/
namespace Go.Proofs.Ythnpooffhopnkaa
open Go.RowKit
set_option linter.unusedVariables false
set_option maxRecDepth 100000

set_option maxHeartbeats 800000 in
theorem tableOK_impl (ao : Option Addr) (cap : Nat) (xs : List Int) (w : World) (hl : xs.length ≤ maxLen) (hc : Is w ao xs) :
    Calls Try.prog 119 #[.slice ao xs.length cap] w fun e w' => e = .returned (.bool (tbB xs)) ∧ w' = w := by
  have HC := hide hc
  clear hc
  unfold maxLen at hl
  by_cases hlong : 12 < xs.length
  · have HF := hide (tbB_nolen (xs := xs) (by omega))
    go_enter Try.func119, Try.ntmps119
    go_wp2
    go_ret
    exact ⟨ret_bool (unhide HF).symm, rfl⟩
  go_enter Try.func119, Try.ntmps119
  go_wp2
  go_loop [10] (fun i => ∃ k : Nat, k ≤ xs.length ∧ i = .int .i64 k ∧ Hid (∀ j (h : j < xs.length), j < k → ent1 xs[j] = true)) (fun i => xs.length - (intOf i).toNat)
  case atStart => exact ⟨0, Nat.zero_le _, rfl, hide (fun j _ h => by omega)⟩
  case round =>
    obtain ⟨k, hk, rfl, HA⟩ := hrel
    by_cases hlt : k < xs.length
    · obtain ⟨b, off, rfl, hc⟩ := unhide HC k hlt
      by_cases hn : ent1 xs[k] = true
      · have HN := hide (all_succ hlt (unhide HA) hn)
        have hn' : betw xs[k] 0 25 = true := hn
        clear hn
        go_wp2_with (go_at_call 43; refine (within_any _ _ _ _).mono ?_; rintro e w' ⟨rfl, rfl⟩)
        go_round
        case rel => exact ⟨k + 1, by omega, by go_num, HN⟩
        case measure => simp [intOf]; omega
      · have hn0 : ent1 xs[k] = false := by simpa using hn
        have hn' : betw xs[k] 0 25 = false := hn0
        have HF := hide (tbB_noat hlt hn0)
        clear hn hn0
        go_wp2_with (go_at_call 43; refine (within_any _ _ _ _).mono ?_; rintro e w' ⟨rfl, rfl⟩)
        go_ret
        exact ⟨ret_bool (unhide HF).symm, rfl⟩
    · have HF := hide (tbB_of (xs := xs) (by omega) (fun j h => unhide HA j h (by omega)))
      go_wp2
      go_ret
      exact ⟨ret_bool (unhide HF).symm, rfl⟩

theorem tbF_ne {xs : List Int} (h : tbF xs ≠ 0) : (tbF xs != 0) = true := by simpa using h

theorem splitEntry_any (n : Int) (w : World) (h0 : -1000 ≤ n) (h1 : n ≤ 1000) :
    Calls Try.prog 114 #[.int .i64 n] w fun e w' => e = .returned (.tuple #[.int .i64 (min n 2), .int .i64 (max 0 (n - 2))]) ∧ w' = w := by
  by_cases h : n < 2
  · have HM : Hid (n = min n 2 ∧ (0 : Int) = max 0 (n - 2)) := hide ⟨by omega, by omega⟩
    go_enter Try.func114, Try.ntmps114
    go_wp2
    go_ret2
    exact ⟨ret_two2 (unhide HM).1 (unhide HM).2, rfl⟩
  · have HM : Hid ((2 : Int) = min n 2 ∧ n - 2 = max 0 (n - 2)) := hide ⟨by omega, by omega⟩
    have hw2 : IntKind.i64.wrap (n - 2) = n - 2 := by rw [IntKind.wrap_i64]; omega
    go_enter Try.func114, Try.ntmps114
    go_wp2
    go_ret2
    exact ⟨ret_two2 (unhide HM).1 (unhide HM).2, rfl⟩

end Go.Proofs.Ythnpooffhopnkaa

/- Contracts of copyList, at texts and at writes: what was there, in new memory. -/
namespace Go.Proofs.Ythnpooffhopnkaa
open Go.RowKit
set_option linter.unusedVariables false
set_option maxRecDepth 100000

section
variable {P : Program}

/-- 'copy(out, src)', both of n elements of some cells each. -/
theorem run_copy_whole (w : World) (dT sT ty elem : TypeId) (size g n dCap : Nat) (a : Addr) (sCap : Nat) (cur : Array Value) (t : TypeId) (cs : List Value)
    (hu : P.underlying dT = some (.slice elem)) (hs : (P.info? elem).map (·.size) = some size)
    (hg : w.heap[g]? = some (.cells cur t (0, 0))) (hl : n * size = cs.length)
    (hsrc : ∀ j v, cs[j]? = some v → w.cell? (a.add j) = some v) (hfit : cs.length ≤ cur.size) (h1 : ∀ v ∈ cs, v.oneCell' = true) :
    (Builtin.copy_ #[dT, sT] ty #[.slice (some ⟨g, 0, none⟩) n dCap, .slice (some a) n sCap]).run P w = .ok (goInt n) (w.setRow g (cs ++ cur.toList.drop cs.length).toArray) := by
  have hld := run_loadCells_list (P := P) w a cs hsrc
  have hst := run_storeCells_at P g 0 t cs 0 cur w hg (by simpa using hfit) h1
  cases hq : P.info? elem with
  | none => simp [hq] at hs
  | some i =>
    have hi : i.size = size := by simpa [hq] using hs
    simp [Builtin.copy_, run_underlying hu, Builtin.lenOf, Builtin.firstCells, sizeOf, typeInfo, hq, hi, hl, hld, hst]

theorem wpList_copy_whole {w : World} {ops : Array Oper} {rest : List Oper} {o : Oper} {a : Act} {Q : Exit → Act → World → Prop} (hgd : o.guard = none) (d s : Operand) (dT sT : TypeId)
    (ho : o.op = .call { callee := .builtin .copy, args := #[d, s], argTypes := #[dT, sT] }) (elem : TypeId) (size : Nat) (hu : P.underlying dT = some (.slice elem)) (hsz : (P.info? elem).map (·.size) = some size)
    (B g n : Nat) (ad : Addr) (sCap : Nat) (hd : a.eval d = .slice (some ⟨g, 0, none⟩) n n) (hs : a.eval s = .slice (some ad) n sCap)
    (xs : List Value) (hown : w.ownsRow B elem size (.slice (some ⟨g, 0, none⟩) n n) n xs) (cs : List Value) (hn : cs.length = n * size)
    (hsrc : ∀ j v, cs[j]? = some v → w.cell? (ad.add j) = some v) (h1 : ∀ v ∈ cs, v.oneCell' = true)
    (h : ∀ w', w'.ownsRow B elem size (.slice (some ⟨g, 0, none⟩) n n) n cs → w.grownBy w' (some g) → wpList P ops Q rest (a.put o.dst (goInt n)) w') : wpList P ops Q (o :: rest) a w := by
  refine wpList_plain hgd fun K hK => ?_
  rcases hown.2 with ⟨e, _⟩ | ⟨g', cap', cur, e, hB, hg, hnc, hcm, hcs, ht⟩
  · simp at e
  · simp only [Value.slice.injEq, Option.some.injEq, Addr.mk.injEq, and_true, true_and] at e
    obtain ⟨rfl, rfl⟩ := e
    have hrun := run_copy_whole (P := P) w dT sT o.type elem size g n n ad sCap cur elem cs hu hsz hg hn.symm hsrc (by omega) h1
    unfold Oper.wp
    simp [execOp, ho, resolve, invoke, builtin, hd, hs, hrun, Result.andThen]
    refine hK _ _ (h _ ⟨hn, .inr ⟨g, n, _, rfl, hB, setRow_heap w g _ _ elem _ hg, hnc, hcm, ?_, ?_⟩⟩ ⟨rfl, rfl, rfl, by simp, fun k _ hk => setRow_other w g k _ (fun e => hk (by simp [e]))⟩)
    · simp; omega
    · rw [← hn]; simp
end

theorem infoS : (Try.prog.info? 9).map (fun i => (i.zero, i.size, i.bytes)) = some (some (.string ⟨#[]⟩), 1, 16) := by kernel_rfl
theorem sizeS : (Try.prog.info? 9).map (·.size) = some 1 := by kernel_rfl
theorem strV_one (ss : List ByteArray) : ∀ v ∈ strV ss, v.oneCell' = true := by
  intro v hv
  simp only [strV, List.mem_map] at hv
  obtain ⟨s, _, rfl⟩ := hv
  rfl
theorem ioV_one (xs : List Wr) : ∀ v ∈ ioV xs, v.oneCell' = true := by
  intro v hv
  simp only [ioV, List.mem_flatMap] at hv
  obtain ⟨x, _, hv⟩ := hv
  simp at hv
  rcases hv with rfl | rfl | rfl <;> rfl
/-- A slice that is not empty has an address at which its cells lie. -/
theorem Ss.at {w : World} {ao : Option Addr} {ss : List ByteArray} (h : Ss w ao ss) (hp : 0 < ss.length) : ∃ b off, ao = some ⟨b, off, none⟩ ∧ ∀ j v, (strV ss)[j]? = some v → w.cell? (Addr.add ⟨b, off, none⟩ j) = some v := by
  obtain ⟨b, off, rfl, _⟩ := h 0 hp
  refine ⟨b, off, rfl, fun j v hv => ?_⟩
  have hj : j < ss.length := by have := (List.getElem?_eq_some_iff.1 hv).1; rwa [strV_length] at this
  obtain ⟨b', off', e, hc, _⟩ := h j hj
  simp only [Option.some.injEq, Addr.mk.injEq, and_true] at e
  obtain ⟨rfl, rfl⟩ := e
  rw [strV_get hj] at hv
  cases hv
  rw [show Addr.add ⟨b, off, none⟩ j = ⟨b, off + j, none⟩ from by unfold Addr.add; split <;> simp_all]
  exact hc
theorem ioV_at {xs : List Wr} {j : Nat} {v : Value} (h : (ioV xs)[j]? = some v) : ∃ i r, ∃ hi : i < xs.length, j = i * 3 + r ∧ ((r = 0 ∧ v = .int .i64 xs[i].host) ∨ (r = 1 ∧ v = .int .i64 xs[i].at_) ∨ (r = 2 ∧ v = .string xs[i].data)) := by
  have hj : j < xs.length * 3 := by have := (List.getElem?_eq_some_iff.1 h).1; rwa [ioV_length] at this
  have hi : j / 3 < xs.length := by omega
  obtain ⟨g0, g1, g2⟩ := ioV_get hi
  rcases (show j % 3 = 0 ∨ j % 3 = 1 ∨ j % 3 = 2 by omega) with e | e | e
  · rw [show j = j / 3 * 3 by omega, g0] at h; cases h
    exact ⟨j / 3, 0, hi, by omega, .inl ⟨rfl, rfl⟩⟩
  · rw [show j = j / 3 * 3 + 1 by omega, g1] at h; cases h
    exact ⟨j / 3, 1, hi, by omega, .inr (.inl ⟨rfl, rfl⟩)⟩
  · rw [show j = j / 3 * 3 + 2 by omega, g2] at h; cases h
    exact ⟨j / 3, 2, hi, by omega, .inr (.inr ⟨rfl, rfl⟩)⟩
theorem Ios.at {w : World} {ao : Option Addr} {xs : List Wr} (h : Ios w ao xs) (hp : 0 < xs.length) : ∃ b off, ao = some ⟨b, off, none⟩ ∧ ∀ j v, (ioV xs)[j]? = some v → w.cell? (Addr.add ⟨b, off, none⟩ j) = some v := by
  obtain ⟨b, off, rfl, _⟩ := h 0 hp
  refine ⟨b, off, rfl, fun j v hv => ?_⟩
  obtain ⟨i, r, hi, rfl, hr⟩ := ioV_at hv
  obtain ⟨b', off', e, h0, h1, h2, _⟩ := h i hi
  simp only [Option.some.injEq, Addr.mk.injEq, and_true] at e
  obtain ⟨rfl, rfl⟩ := e
  rw [show Addr.add ⟨b, off, none⟩ (i * 3 + r) = ⟨b, off + i * 3 + r, none⟩ from by unfold Addr.add; split <;> simp_all [Nat.add_assoc]]
  rcases hr with ⟨rfl, rfl⟩ | ⟨rfl, rfl⟩ | ⟨rfl, rfl⟩
  · exact h0
  · exact h1
  · exact h2

set_option maxHeartbeats 1600000 in
theorem copyS_any (ao : Option Addr) (cap : Nat) (ss : List ByteArray) (w : World) (hl : ss.length ≤ 1048576) (hc : Ss w ao ss) :
    Calls Try.prog 102 #[.slice ao ss.length cap] w fun e w' => ∃ bo cb, e = .returned (.slice bo ss.length cb) ∧ OwnR w' w.heap.size 9 1 (.slice bo ss.length cb) ss.length (strV ss) ∧ Below w.heap.size w w' := by
  by_cases h0 : ss.length = 0
  · have hb : ((ss.length : Int) == 0) = true := by simp [h0]
    have HE := hide h0
    clear h0 hc
    go_enter Try.func102, Try.ntmps102
    go_wp2
    go_ret
    rw [unhide HE]
    exact ⟨none, 0, rfl, .inl ⟨rfl, List.eq_nil_of_length_eq_zero (by rw [strV_length, unhide HE]), none, rfl⟩, Below.refl _ _⟩
  · have hb : ((ss.length : Int) == 0) = false := beq_eq_false_iff_ne.2 (by omega)
    obtain ⟨b, off, rfl, hcs⟩ := hc.at (by omega)
    have hbl : b < w.heap.size := by
      obtain ⟨b', off', e, hc', _⟩ := hc 0 (by omega)
      simp only [Option.some.injEq, Addr.mk.injEq, and_true] at e
      obtain ⟨rfl, rfl⟩ := e
      exact World.block_lt_of_cell? _ _ hc'
    have HCS := hide hcs
    have HP := hide h0
    clear hc hcs h0
    obtain ⟨i0, hi, hz0, hz1, hz2⟩ := info_parts infoS
    go_enter Try.func102, Try.ntmps102
    go_wp2_with (first | (at_make; refine wpList_make_full _ rfl _ _ 53 rfl w.heap.size 9 i0 _ 1 Try.underlying53 hi hz0 hz1 _ _ _ _ ss.length rfl rfl rfl rfl ?c1 ?c2 ?c3 ?_))
    case c1 => rw [hz2]; omega
    case c2 => unfold maxLen; omega
    case c3 => exact Nat.le_refl _
    intro w1 hown hgrow
    have hB : Below w.heap.size w w1 := (Below.refl _ _).grown hgrow (Nat.le_refl _) (fun _ h => by cases h)
    have HO := hide hown
    have HB := hide hB
    have HC1 : Hid (∀ j v, (strV ss)[j]? = some v → w1.cell? (Addr.add ⟨b, off, none⟩ j) = some v) := hide (fun j v hv => ((unhide HB).cell (by unfold Addr.add; split <;> exact hbl)).trans (unhide HCS j v hv))
    clear hown hgrow hB
    go_wp2_with (refine wpList_copy_whole rfl _ _ 53 53 rfl 9 1 Try.underlying53 sizeS w.heap.size w.heap.size ss.length ⟨b, off, none⟩ _ rfl rfl _ (unhide HO) (strV ss) (by rw [strV_length]; omega) (unhide HC1) (strV_one ss) ?_; intro w2 ho2 hg2)
    have HB2 := hide ((unhide HB).grown hg2 (unhide HB).size (fun k h => by cases h; exact Nat.le_refl _))
    have HO2 := hide ho2
    clear ho2 hg2
    go_ret
    exact ⟨_, _, rfl, OwnR.of (unhide HO2) (fun h => absurd h (unhide HP)), unhide HB2⟩

end Go.Proofs.Ythnpooffhopnkaa

/- Contracts of the program's counts: RefsOK, clusterOK, countsOf, countsWith, list, RefUp. -/
namespace Go.Proofs.Ythnpooffhopnkaa
open Go.RowKit
set_option linter.unusedVariables false
set_option maxRecDepth 100000

set_option maxHeartbeats 800000 in
theorem refsOK_impl (ao : Option Addr) (cap : Nat) (xs : List Int) (w : World) (hl : xs.length ≤ maxLen) (hc : Is w ao xs) :
    Calls Try.prog 108 #[.slice ao xs.length cap] w fun e w' => e = .returned (.bool (ctB xs)) ∧ w' = w := by
  have HC := hide hc
  clear hc
  unfold maxLen at hl
  by_cases h24 : xs.length = 24
  · have hb : ((xs.length : Int) != 24) = false := by simp [h24]
    have H24 := hide h24
    clear h24
    go_enter Try.func108, Try.ntmps108
    go_wp2
    go_loop [10] (fun i => ∃ k : Nat, k ≤ xs.length ∧ i = .int .i64 k ∧ Hid (∀ j (h : j < xs.length), j < k → cnt1 xs[j] = true)) (fun i => xs.length - (intOf i).toNat)
    case atStart => exact ⟨0, Nat.zero_le _, rfl, hide (fun j _ h => by omega)⟩
    case round =>
      obtain ⟨k, hk, rfl, HA⟩ := hrel
      by_cases hlt : k < xs.length
      · obtain ⟨b, off, rfl, hc⟩ := unhide HC k hlt
        by_cases hn : cnt1 xs[k] = true
        · have HN := hide (all_succ hlt (unhide HA) hn)
          have hn' : betw xs[k] 0 15 = true := hn
          clear hn
          go_wp2_with (go_at_call 43; refine (within_any _ _ _ _).mono ?_; rintro e w' ⟨rfl, rfl⟩)
          go_round
          case rel => exact ⟨k + 1, by omega, by go_num, HN⟩
          case measure => simp [intOf]; omega
        · have hn0 : cnt1 xs[k] = false := by simpa using hn
          have hn' : betw xs[k] 0 15 = false := hn0
          have HF := hide (ctB_noat hlt hn0)
          clear hn hn0
          go_wp2_with (go_at_call 43; refine (within_any _ _ _ _).mono ?_; rintro e w' ⟨rfl, rfl⟩)
          go_ret
          exact ⟨ret_bool (unhide HF).symm, rfl⟩
      · have HF := hide (ctB_of (unhide H24) (fun j h => unhide HA j h (by omega)))
        go_wp2
        go_ret
        exact ⟨ret_bool (unhide HF).symm, rfl⟩
  · have hb : ((xs.length : Int) != 24) = true := by simp; omega
    have HF := hide (ctB_nolen h24)
    clear h24
    go_enter Try.func108, Try.ntmps108
    go_wp2
    go_ret
    exact ⟨ret_bool (unhide HF).symm, rfl⟩

/-- An array of counts as a value. -/
abbrev ctV (xs : List Int) : Value := .agg (intV xs).toArray
theorem zero_arr : (#[.int .i64 0, .int .i64 0, .int .i64 0, .int .i64 0, .int .i64 0, .int .i64 0, .int .i64 0, .int .i64 0, .int .i64 0, .int .i64 0, .int .i64 0, .int .i64 0, .int .i64 0, .int .i64 0, .int .i64 0, .int .i64 0, .int .i64 0, .int .i64 0, .int .i64 0, .int .i64 0, .int .i64 0, .int .i64 0, .int .i64 0, .int .i64 0] : Array Value) = (intV zero24).toArray := rfl
theorem ret_ci {xs ys : List Int} {a b : Int} (h : xs = ys) (k : a = b) : Ending.returned (.tuple #[ctV xs, .int .i64 a]) = .returned (.tuple #[ctV ys, .int .i64 b]) := by rw [h, k]
theorem cw_bad {xs : List Int} {c : Int} (h : ctF xs ≠ 0) : cwF xs c = ctF xs ∧ cwR xs c = zero24 := by
  have e : cwF xs c = ctF xs := by rw [cwF, if_neg h]
  exact ⟨e, by rw [cwR, e, if_neg h]⟩
theorem cw_out {xs : List Int} {c : Int} (h : ctF xs = 0) (hc : betw c 0 23 = false) : cwF xs c = 4 ∧ cwR xs c = zero24 := by
  have e : cwF xs c = 4 := by rw [cwF, if_pos h, hc]; rfl
  exact ⟨e, by rw [cwR, e]; rfl⟩
theorem cw_in {xs : List Int} {c : Int} (h : ctF xs = 0) (hc : betw c 0 23 = true) : cwF xs c = 0 ∧ cwR xs c = xs := by
  have e : cwF xs c = 0 := by rw [cwF, if_pos h, hc]; rfl
  exact ⟨e, by rw [cwR, e]; rfl⟩
theorem ctF_ne (xs : List Int) (h : ctF xs ≠ 0) : (ctF xs != 0) = true := by simpa using h

theorem intV_ones (xs : List Int) : ∀ v ∈ intV xs, v.oneCell' = true := by
  intro v hv
  simp only [intV, List.mem_map] at hv
  obtain ⟨n, _, rfl⟩ := hv
  rfl
theorem sizeI1 : (Try.prog.info? 3).map (·.size) = some 1 := by kernel_rfl
theorem runI1 (W : World) : (Go.sizeOf 3).run Try.prog W = .ok 1 W := by
  have h := sizeI1
  cases hq : Try.prog.info? 3 with
  | none => simp [hq] at h
  | some i =>
    have hi : i.size = 1 := by simpa [hq] using h
    simp [Go.sizeOf, typeInfo, hq, hi]
set_option maxHeartbeats 1600000 in
theorem copyI_any (b off cap : Nat) (ss : List Int) (w : World) (hl : ss.length ≤ 1048576) (h0 : 0 < ss.length) (hbl : b < w.heap.size) (hc : w.rangeAt b off (intV ss)) :
    Calls Try.prog 94 #[.slice (some ⟨b, off, none⟩) ss.length cap] w fun e w' => e = .returned (.slice (some ⟨w.heap.size, 0, none⟩) ss.length ss.length) ∧ w'.ownsRow w.heap.size 3 1 (.slice (some ⟨w.heap.size, 0, none⟩) ss.length ss.length) ss.length (intV ss) ∧ Below w.heap.size w w' := by
  have hb : ((ss.length : Int) == 0) = false := beq_eq_false_iff_ne.2 (by omega)
  have HCS := hide hc
  have HP := hide h0
  clear hc h0
  obtain ⟨i0, hi, hz0, hz1, hz2⟩ := info_parts infoM
  go_enter Try.func94, Try.ntmps94
  go_wp2_with (first | (at_make; refine wpList_make_full _ rfl _ _ 22 rfl w.heap.size 3 i0 _ 1 Try.underlying22 hi hz0 hz1 _ _ _ _ ss.length rfl rfl rfl rfl ?c1 ?c2 ?c3 ?_))
  case c1 => rw [hz2]; omega
  case c2 => unfold maxLen; omega
  case c3 => exact Nat.le_refl _
  intro w1 hown hgrow
  have hB : Below w.heap.size w w1 := (Below.refl _ _).grown hgrow (Nat.le_refl _) (fun _ h => by cases h)
  have HO := hide hown
  have HB := hide hB
  have HC1 : Hid (∀ j v, (intV ss)[j]? = some v → w1.cell? (Addr.add ⟨b, off, none⟩ j) = some v) := hide (fun j v hv => ((unhide HB).cell (by unfold Addr.add; split <;> exact hbl)).trans (by rw [Addr.add_mid]; exact unhide HCS j v hv))
  clear hown hgrow hB
  go_wp2_with (refine wpList_copy_whole rfl _ _ 22 22 rfl 3 1 Try.underlying22 sizeI1 w.heap.size w.heap.size ss.length ⟨b, off, none⟩ _ rfl rfl _ (unhide HO) (intV ss) (by rw [intV_length]; omega) (unhide HC1) (intV_ones ss) ?_; intro w2 ho2 hg2)
  have HB2 := hide ((unhide HB).grown hg2 (unhide HB).size (fun k h => by cases h; exact Nat.le_refl _))
  have HO2 := hide ho2
  clear ho2 hg2
  go_ret
  exact ⟨rfl, unhide HO2, unhide HB2⟩

end Go.Proofs.Ythnpooffhopnkaa
