import Derived.Test.YtmkegkpnomcnhabGreatRows
import Derived.Test.YtmkegkpnomcnhabGreatPart1
import Derived.Test.YtmkegkpnomcnhabGreatPart2
import Derived.Test.YtmkegkpnomcnhabGreatPart3
import Derived.Test.YtmkegkpnomcnhabGreatPart17
import Derived.Test.YtmkegkpnomcnhabGreatPart6
import Derived.Test.YtmkegkpnomcnhabGreatPart13
import Derived.Test.YtmkegkpnomcnhabGreatPart16
import Derived.Test.YtmkegkpnomcnhabGreatPart5
import Derived.Test.YtmkegkpnomcnhabGreatPart8
import Derived.Test.YtmkegkpnomcnhabGreatPart12
import Derived.Test.YtmkegkpnomcnhabGreatPart18
import Derived.Test.YtmkegkpnomcnhabGreatPart20
import Derived.Laws.OwnMore
import Derived.WalkKit
import Derived.WalkSpells
import Derived.KernelRfl
import Derived.LoopN
import Derived.Test.YtmkegkpnomcnhabGreatPart14
import Derived.Test.YtmkegkpnomcnhabGreatPart7
import Derived.BigQuiet
import Derived.Deep.QuietTactic
import Derived.Deep.CutRange
import Derived.Deep.RegionWith
import Derived.Laws.CopyRow
import Derived.Laws.ResultCell
import Derived.Laws.Cover3
import Derived.Laws.CopyOwn
import Derived.Deep.MidRow

/- Contracts of the model's l11Super, l11All, ImageUpdates. (Made ahead of stage 11.) -/
namespace Go.Proofs.YtmkegkpnomcnhabGreat
open Go.RowKit
set_option linter.unusedVariables false
set_option maxRecDepth 100000

theorem infoUs : (Tryz.prog.info? 52).map (fun i => (i.zero, i.size, i.bytes)) = some (some (.agg #[.int .i64 0, .string ⟨#[]⟩]), 2, 24) := by kernel_rfl
theorem supL_take {m : Img} {k : Nat} (hk : k < m.snaps.length) : (supL m).take (k + 1 + 1) = (supL m).take (k + 1) ++ [nmN m.snaps[k].name] := by
  have hl : k + 1 < (supL m).length := by simp [supL]; exact hk
  rw [List.take_succ_eq_append_getElem hl]
  simp [supL]

set_option maxHeartbeats 1600000 in
theorem l11Super_any (a : Im4) (m : Img) (w : World) (hR : ImR m) (hc : ImS w a m) :
    Calls Tryz.prog 36 #[imV a m] w fun e w' => e = .returned (.string (sealS 1 (supL m))) ∧ Below w.heap.size w w' := by
  have HA := hide (Joins.below_alloc1 w (.cells #[.slice a.ro m.refs.length a.rc, .slice a.tq m.table.length a.tc, .slice a.so m.snaps.length a.sc, .slice a.dq m.data.length a.dc] 32))
  have HV := hide (VarM.new w 32 (.slice a.ro m.refs.length a.rc) (.slice a.tq m.table.length a.tc) (.slice a.so m.snaps.length a.sc) (.slice a.dq m.data.length a.dc))
  have HC := hide (hc.s.below (unhide HA))
  have HNS : Hid (∀ k (h : k < m.snaps.length), m.snaps[k].name.size ≤ 6) := hide (fun k h => (snm_parts (hR.snaps _ (List.getElem_mem h)).1).2.2)
  have HSU : Hid (∀ j (h : j < (supL m).length), 0 ≤ (supL m)[j] ∧ (supL m)[j] ≤ 2147483647) := hide (fun j h => by
    have := List.all_eq_true.1 (allB_snm hR) _ (List.getElem_mem h)
    simpa [numB, inB] using this)
  have hs3 := hR.few
  have HSL : Hid ((supL m).length = m.snaps.length + 1) := hide (by simp [supL])
  clear hc hR
  obtain ⟨j0, hj, hy0, hy1, hy2⟩ := info_parts infoM
  go_enter Tryz.func36, Tryz.ntmps36
  go_upto_region 1 with fail
  revert HA HV HC
  generalize (w.alloc _) = W0
  intro HA HV HC
  obtain ⟨c0, c1, c2, c3⟩ := (unhide HV).cells
  have H0 : Hid (OwnR (W0.alloc (.cells #[.int .i64 (m.snaps.length : Int)] 3)) W0.heap.size 3 1 (.slice (some ⟨W0.heap.size, 0, none⟩) 1 1) 1 (intV ((supL m).take 1)) ∧ Below W0.heap.size W0 (W0.alloc (.cells #[.int .i64 (m.snaps.length : Int)] 3))) := hide
    ⟨.inr ⟨by omega, by have := World.ownsRow_lit (base := W0.heap.size) (e := 3) (size := 1) W0 #[.int .i64 (m.snaps.length : Int)] 1 (Nat.le_refl _) (by unfold maxLen; omega) rfl; simpa [supL, intV] using this⟩, Joins.below_alloc1 _ _⟩
  go_wp2
  clear c0 c1 c2 c3
  go_loopw [3, 4] (fun o i wr => ∃ (k : Nat) (qo : Option Addr) (qa : Nat), k ≤ m.snaps.length ∧ i = .int .i64 k ∧ o = .slice qo (k + 1) qa ∧ Hid (OwnR wr W0.heap.size 3 1 (.slice qo (k + 1) qa) (k + 1) (intV ((supL m).take (k + 1))) ∧ Below W0.heap.size W0 wr)) (fun _ i _ => m.snaps.length - (intOf i).toNat)
  case atStart => exact ⟨0, _, _, Nat.zero_le _, rfl, rfl, H0⟩
  case round =>
    clear H0
    obtain ⟨k, qo, qa, hk, rfl, rfl, HO⟩ := hrel
    obtain ⟨c0, c1, c2, c3⟩ := ((unhide HV).below (unhide HO).2).cells
    by_cases hlt : k < m.snaps.length
    · obtain ⟨b, off, tq, tc, eb, hn0, _, _, _, _⟩ := ((unhide HC).below (unhide HO).2) k hlt
      rw [eb] at c2
      clear eb
      have hlti : (k : Int) < (m.snaps.length : Int) := by omega
      have HST : Hid (intV ((supL m).take (k + 1 + 1)) = intV ((supL m).take (k + 1)) ++ [.int .i64 (nmN m.snaps[k].name)]) := hide (by rw [supL_take hlt]; simp [intV])
      go_wp2_with fail
      refine (l11Name_any m.snaps[k].name _ (by have := unhide HNS k hlt; omega)).mono ?_
      rintro e w' ⟨rfl, hw⟩
      replace hw := hw.symm
      subst hw
      generalize nmN m.snaps[k].name = NN at *
      have HOA := hide ((unhide HO).1.below (Joins.below_alloc1 _ (.cells #[.int .i64 NN] 3)))
      have HBA := hide (fr (unhide HO).2 (Joins.below_alloc1 _ (.cells #[.int .i64 NN] 3)))
      have HSZ := hide (unhide HO).2.size
      go_wp2_with (at_builtin; refine wpList_append_one rfl _ _ 22 rfl W0.heap.size 3 j0 (.int .i64 0) 1 8 Tryz.underlying22 hj hy0 hy1 hy2 rfl (by omega) qo (k + 1) qa (intV ((supL m).take (k + 1))) rfl (unhide HOA) (by have := unhide HSZ; simp; omega) ⟨wr.heap.size, 0, none⟩ _ [.int .i64 NN] rfl rfl (byte_news wr _ _) (int_one _) (by unfold maxLen; omega) (by omega) ?_; intro g2 cap2 wA hoA hkA; have HSF := hide (And.intro hoA (keep_below (unhide HBA) (unhide HOA) (Nat.le_refl _) hkA)); clear hoA hkA)
      go_roundw
      case rel => exact ⟨k + 1, some ⟨g2, 0, none⟩, cap2, by omega, by go_num, rfl, hide ⟨.inr ⟨by omega, by rw [unhide HST]; exact (unhide HSF).1⟩, (unhide HSF).2⟩⟩
      case measure => simp [intOf]; omega
    · obtain rfl : k = m.snaps.length := by omega
      have HIS : Hid (Is wr qo (supL m)) := hide (by
        have h := (unhide HO).1
        rw [List.take_of_length_le (by rw [unhide HSL]; exact Nat.le_refl _), ← unhide HSL] at h
        exact ownRN h)
      have HCALL : Hid (Calls Tryz.prog 39 #[.int .i64 1, .slice qo (m.snaps.length + 1) qa] wr fun e w' => e = .returned (.string (sealS 1 (supL m))) ∧ Below wr.heap.size wr w') := hide (by
        rw [← unhide HSL]
        exact l02Seal_any 1 qo qa (supL m) wr (by omega) (by rw [unhide HSL]; omega) (unhide HSU) (unhide HIS))
      go_wp2_with fail
      refine (unhide HCALL).mono ?_
      rintro e w2 ⟨rfl, hb⟩
      have HB2 := hide (fr (unhide HA) (fr (unhide HO).2 hb))
      clear hb c0 c1 c2 c3
      go_wp2
      go_ret
      exact ⟨rfl, unhide HB2⟩

theorem tab_snoc {m : Img} {k : Nat} (hk : k < m.snaps.length) : tabU 0 (m.snaps.take (k + 1)) = tabU 0 (m.snaps.take k) ++ [⟨12 + (k : Int), encTb m.snaps[k].table⟩] := by
  rw [List.take_succ_eq_append_getElem hk, tabU_snoc, List.length_take, Nat.zero_add, Nat.min_eq_left (by omega)]
theorem sealS_sz1 (k v : Int) : (sealS k [v]).size = 8 := sealS_size k [v]

set_option maxHeartbeats 6400000 in
theorem l11All_any (a : Im4) (m : Img) (w : World) (hR : ImR m) (hc : ImS w a m) :
    Calls Tryz.prog 19 #[imV a m] w fun e w' => ∃ qo qa, e = .returned (.slice qo (allU m).length qa) ∧ UpS w w' qo (allU m).length qa (allU m) := by
  have HA := hide (Joins.below_alloc1 w (.cells #[.slice a.ro m.refs.length a.rc, .slice a.tq m.table.length a.tc, .slice a.so m.snaps.length a.sc, .slice a.dq m.data.length a.dc] 32))
  have HV := hide (VarM.new w 32 (.slice a.ro m.refs.length a.rc) (.slice a.tq m.table.length a.tc) (.slice a.so m.snaps.length a.sc) (.slice a.dq m.data.length a.dc))
  have HC := hide (hc.below (unhide HA))
  have HR := hide hR
  have hs3 := hR.few
  have HRL := hide hR.rl
  have HDL := hide hR.len
  clear hc hR
  obtain ⟨j0, hj, hy0, hy1, hy2⟩ := info_parts infoUs
  go_enter Tryz.func19, Tryz.ntmps19
  go_upto_region 1 with fail
  revert HA HV HC
  generalize (w.alloc _) = W0
  intro HA HV HC
  have HBD : Hid (Below W0.heap.size W0 W0.drew) := hide (Below.refl _ _).drew
  have hS0 : VarM W0.drew w.heap.size 32 (.slice a.ro m.refs.length a.rc) (.slice a.tq m.table.length a.tc) (.slice a.so m.snaps.length a.sc) (.slice a.dq m.data.length a.dc) := (unhide HV).below (unhide HBD)
  refine wp_region_ord (fun w' => VarM w' w.heap.size 32 (.slice a.ro m.refs.length a.rc) (.slice a.tq m.table.length a.tc) (.slice a.so m.snaps.length a.sc) (.slice a.dq m.data.length a.dc)) [0, 1, 2, 3, 4, 5, 6, 7, 8, 9, 10, 11, 12] [(0, 0), (3, 0), (4, 0), (7, 0), (8, 0), (1, 2), (2, 0), (5, 2), (6, 0), (9, 2), (10, 0), (11, 2), (12, 0)] (by kernel_rfl) (by kernel_rfl) rfl (by kernel_rfl) ?_
  refine ord_read (.agg #[.slice a.ro m.refs.length a.rc, .slice a.tq m.table.length a.tc, .slice a.so m.snaps.length a.sc, .slice a.dq m.data.length a.dc]) rfl rfl hS0 (fun W hW => by obtain ⟨k0, k1, k2, k3⟩ := hW.cells; go_simp) ?_
  refine ord_read (.pointer (some ⟨w.heap.size, 0, none⟩)) rfl rfl hS0 (fun W hW => by go_simp) ?_
  refine ord_read (.slice a.ro m.refs.length a.rc) rfl rfl hS0 (fun W hW => by obtain ⟨k0, k1, k2, k3⟩ := hW.cells; go_simp) ?_
  refine ord_read (.pointer (some ⟨w.heap.size, 1, none⟩)) rfl rfl hS0 (fun W hW => by go_simp) ?_
  refine ord_read (.slice a.tq m.table.length a.tc) rfl rfl hS0 (fun W hW => by obtain ⟨k0, k1, k2, k3⟩ := hW.cells; go_simp) ?_
  clear hS0
  refine ord_held rfl rfl ?_
  intro K hK
  unfold Oper.wp
  go_simp
  refine (l11Super_any a m _ (unhide HR) ((unhide HC).below (unhide HBD))).mono ?_
  rintro e w1 ⟨rfl, hb⟩
  have HB1 := hide (fr (unhide HBD) hb)
  clear hb
  refine hK _ _ ((unhide HV).below (unhide HB1)) ?_
  clear hK K
  refine ord_read (.agg #[.int .i64 9, .string (sealS 1 (supL m))]) rfl rfl ((unhide HV).below (unhide HB1)) (fun W hW => by go_simp) ?_
  refine ord_held rfl rfl ?_
  intro K hK
  unfold Oper.wp
  go_simp
  refine (l08Encode_any a.ro a.rc m.refs _ (unhide HR).refs ((unhide HC).r.below (unhide HB1))).mono ?_
  rintro e w2 ⟨rfl, hb⟩
  have HB2 := hide (fr (unhide HB1) hb)
  clear hb
  refine hK _ _ ((unhide HV).below (unhide HB2)) ?_
  clear hK K
  refine ord_read (.agg #[.int .i64 10, .string (encT m.refs)]) rfl rfl ((unhide HV).below (unhide HB2)) (fun W hW => by go_simp) ?_
  refine ord_held rfl rfl ?_
  intro K hK
  unfold Oper.wp
  go_simp
  refine (l09Encode_any a.tq a.tc m.table _ (unhide HR).table ((unhide HC).t.below (unhide HB2))).mono ?_
  rintro e w3 ⟨rfl, hb⟩
  have HB3 := hide (fr (unhide HB2) hb)
  clear hb
  refine hK _ _ ((unhide HV).below (unhide HB3)) ?_
  clear hK K
  refine ord_read (.agg #[.int .i64 11, .string (encTb m.table)]) rfl rfl ((unhide HV).below (unhide HB3)) (fun W hW => by go_simp) ?_
  have HB4 := hide (fr (unhide HB3) (Joins.below_alloc1 w3 (.cells #[.int .i64 9, .string (sealS 1 (supL m)), .int .i64 10, .string (encT m.refs), .int .i64 11, .string (encTb m.table)] 52)))
  have HU4 : Hid (UpS W0 (w3.alloc (.cells #[.int .i64 9, .string (sealS 1 (supL m)), .int .i64 10, .string (encT m.refs), .int .i64 11, .string (encTb m.table)] 52)) (some ⟨w3.heap.size, 0, none⟩) 3 3 (headU m)) := hide
    ⟨.inr ⟨by omega, World.ownsRow_lit (base := W0.heap.size) (e := 52) (size := 2) w3 #[.int .i64 9, .string (sealS 1 (supL m)), .int .i64 10, .string (encT m.refs), .int .i64 11, .string (encTb m.table)] 3 (unhide HB3).size (by unfold maxLen; omega) rfl⟩, unhide HB4⟩
  have HV4 := hide ((unhide HV).below (unhide HB4))
  refine ord_held rfl rfl ?_
  intro K hK
  unfold Oper.wp
  go_simp
  refine hK _ _ (unhide HV4) ?_
  clear hK K
  refine ord_read (.slice (some ⟨w3.heap.size, 0, none⟩) 3 3) rfl rfl (unhide HV4) (fun W hW => by go_simp) ?_
  refine ord_done ?_
  clear HB4 HV4
  revert HU4
  generalize w3.heap.size = g3
  generalize (w3.alloc _) = W4
  intro HU4
  clear HB1 HB2 HB3 HBD
  have HTS : Hid (∀ k (h : k < m.snaps.length), tbB m.snaps[k].table = true) := hide (fun k h => ((unhide HR).snaps _ (List.getElem_mem h)).2)
  go_wp2
  go_loopw [3, 4] (fun o i wr => ∃ (k : Nat) (qo : Option Addr) (qa : Nat), k ≤ m.snaps.length ∧ i = .int .i64 k ∧ o = .slice qo (3 + k) qa ∧ Hid (UpS W0 wr qo (3 + k) qa (headU m ++ tabU 0 (m.snaps.take k)))) (fun _ i _ => m.snaps.length - (intOf i).toNat)
  case atStart => exact ⟨0, _, _, Nat.zero_le _, rfl, rfl, by simpa [tabU] using HU4⟩
  case round =>
    clear HU4
    obtain ⟨k, qo, qa, hk, rfl, rfl, HU⟩ := hrel
    obtain ⟨c0, c1, c2, c3⟩ := ((unhide HV).below (unhide HU).k).cells
    by_cases hlt : k < m.snaps.length
    · obtain ⟨b, off, tq, tc, eb, _, ht0, hIs, _, _⟩ := ((unhide HC).s.below (unhide HU).k) k hlt
      rw [eb] at c2
      have HIS := hide hIs
      clear eb hIs
      have hlti : (k : Int) < (m.snaps.length : Int) := by omega
      have hw12 : IntKind.i64.wrap (12 + (k : Int)) = 12 + (k : Int) := by rw [IntKind.wrap_i64]; omega
      have HSN : Hid (headU m ++ tabU 0 (m.snaps.take (k + 1)) = headU m ++ tabU 0 (m.snaps.take k) ++ [⟨12 + (k : Int), encTb m.snaps[k].table⟩]) := hide (by rw [tab_snoc hlt, List.append_assoc])
      go_wp2_with fail
      refine (l09Encode_any tq tc m.snaps[k].table _ (unhide HTS k hlt) (unhide HIS)).mono ?_
      rintro e w5 ⟨rfl, hb⟩
      have HU5 := hide ((unhide HU).next hb)
      clear hb c0 c1 c2 c3 ht0 HIS
      generalize encTb m.snaps[k].table = TX at *
      have HUA := hide ((unhide HU5).next (Joins.below_alloc1 w5 (.cells #[.int .i64 (12 + (k : Int)), .string TX] 52)))
      have HSZ := hide (unhide HUA).sz
      go_wp2_with (at_builtin; refine wpList_append_one rfl _ _ 27 rfl W0.heap.size 52 j0 (.agg #[.int .i64 0, .string ⟨#[]⟩]) 2 24 Tryz.underlying27 hj hy0 hy1 hy2 rfl (by omega) qo (3 + k) qa (upsV (headU m ++ tabU 0 (m.snaps.take k))) rfl (unhide HUA).o (unhide HSZ) ⟨w5.heap.size, 0, none⟩ _ (upV ⟨12 + (k : Int), TX⟩) rfl rfl (news2_at w5 _ ⟨12 + (k : Int), TX⟩ _ rfl) (upV_one _) (by unfold maxLen; omega) (by omega) ?_; intro g2 cap2 wA hoA hkA; have HU6 := hide (UpS.one (unhide HUA) hoA hkA); clear hoA hkA)
      go_roundw
      case rel => exact ⟨k + 1, some ⟨g2, 0, none⟩, cap2, by omega, by go_num, rfl, by rw [unhide HSN]; exact HU6⟩
      case measure => simp [intOf]; omega
    · obtain rfl : k = m.snaps.length := by omega
      rw [List.take_length] at HU
      have HNN : Hid (3 + m.snaps.length = (headU m ++ tabU 0 m.snaps ++ dataU m 0).length ∧ headU m ++ tabU 0 m.snaps = headU m ++ tabU 0 m.snaps ++ dataU m 0) := hide (by
        have e : dataU m 0 = [] := rfl
        rw [e, List.append_nil, List.length_append, tabU_len]; exact ⟨rfl, rfl⟩)
      obtain ⟨N0, hN0⟩ : ∃ N0, N0 = 3 + m.snaps.length := ⟨_, rfl⟩
      have hN6 : N0 ≤ 6 := by omega
      rw [← hN0] at HU HNN ⊢
      rw [(unhide HNN).2] at HU
      clear hN0 hlt
      go_wp2
      clear c0 c1 c2 c3
      go_loopw [3, 5] (fun o i wr => ∃ (k N : Nat) (qo : Option Addr) (qa : Nat), k ≤ 24 ∧ N ≤ 6 + k ∧ i = .int .i64 k ∧ o = .slice qo N qa ∧ Hid (UpS W0 wr qo N qa (headU m ++ tabU 0 m.snaps ++ dataU m k))) (fun _ i _ => 24 - (intOf i).toNat)
      case atStart => exact ⟨0, N0, qo, qa, by omega, by omega, rfl, rfl, HU⟩
      case round =>
        clear HU HNN hN6
        obtain ⟨k, N, qo, qa, hk, hN, rfl, rfl, HU⟩ := hrel
        obtain ⟨c0, c1, c2, c3⟩ := ((unhide HV).below (unhide HU).k).cells
        by_cases hlt : k < 24
        · have hlti : (k : Int) < 24 := by omega
          have hkr : k < m.refs.length := by rw [unhide HRL]; exact hlt
          have hkd : k < m.data.length := by rw [unhide HDL]; exact hlt
          have hkri : (k : Int) < (m.refs.length : Int) := by omega
          have hkdi : (k : Int) < (m.data.length : Int) := by omega
          obtain ⟨br, or, er, hcr⟩ := ((unhide HC).r.below (unhide HU).k) k hkr
          rw [er] at c0
          by_cases hp : 0 < m.refs[k]
          · obtain ⟨bd, od, ed, hcd⟩ := ((unhide HC).d.below (unhide HU).k) k hkd
            rw [ed] at c3
            have HDS : Hid (headU m ++ tabU 0 m.snaps ++ dataU m (k + 1) = headU m ++ tabU 0 m.snaps ++ dataU m k ++ [⟨15 + (k : Int), sealS 4 [m.data[k]]⟩]) := hide (by
              rw [dataU_succ, ← List.append_assoc]
              congr 1
              unfold datU
              rw [if_pos (by simpa [List.getD, hkr] using hp)]
              simp [List.getD, hkd])
            have HNB : Hid (∀ j (h : j < [m.data[k]].length), 0 ≤ [m.data[k]][j] ∧ [m.data[k]][j] ≤ 2147483647) := hide (fun j h => by
              have hj : j = 0 := by simpa using h
              subst hj
              have := (unhide HR).nums _ (List.getElem_mem hkd)
              simpa [numB, inB] using this)
            have hw15 : IntKind.i64.wrap (15 + (k : Int)) = 15 + (k : Int) := by rw [IntKind.wrap_i64]; omega
            clear er ed
            generalize m.refs[k] = RV at *
            generalize m.data[k] = DV at *
            have HUB := hide ((unhide HU).next (Joins.below_alloc1 wr (.cells #[.int .i64 DV] 3)))
            go_wp2_with fail
            refine (l02Seal_any 4 (some ⟨wr.heap.size, 0, none⟩) 1 [DV] _ (by omega) (by simp) (unhide HNB) (is1 wr _ _ DV rfl)).mono ?_
            rintro e w5 ⟨rfl, hb⟩
            have HU5 := hide ((unhide HUB).next hb)
            clear hb c0 c1 c2 c3 hcr hcd HUB
            generalize sealS 4 [DV] = TX at *
            have HUA := hide ((unhide HU5).next (Joins.below_alloc1 w5 (.cells #[.int .i64 (15 + (k : Int)), .string TX] 52)))
            have HSZ := hide (unhide HUA).sz
            go_wp2_with (at_builtin; refine wpList_append_one rfl _ _ 27 rfl W0.heap.size 52 j0 (.agg #[.int .i64 0, .string ⟨#[]⟩]) 2 24 Tryz.underlying27 hj hy0 hy1 hy2 rfl (by omega) qo N qa (upsV (headU m ++ tabU 0 m.snaps ++ dataU m k)) rfl (unhide HUA).o (unhide HSZ) ⟨w5.heap.size, 0, none⟩ _ (upV ⟨15 + (k : Int), TX⟩) rfl rfl (news2_at w5 _ ⟨15 + (k : Int), TX⟩ _ rfl) (upV_one _) (by unfold maxLen; omega) (by omega) ?_; intro g2 cap2 wA hoA hkA; have HU6 := hide (UpS.one (unhide HUA) hoA hkA); clear hoA hkA)
            go_roundw
            case rel => exact ⟨k + 1, N + 1, some ⟨g2, 0, none⟩, cap2, by omega, by omega, by go_num, rfl, by rw [unhide HDS]; exact HU6⟩
            case measure => simp [intOf]; omega
          · have HDS : Hid (headU m ++ tabU 0 m.snaps ++ dataU m (k + 1) = headU m ++ tabU 0 m.snaps ++ dataU m k) := hide (by
              rw [dataU_succ]
              unfold datU
              rw [if_neg (by simpa [List.getD, hkr] using hp), List.append_nil])
            clear er
            generalize m.refs[k] = RV at *
            go_wp2
            go_roundw
            case rel => exact ⟨k + 1, N, qo, qa, by omega, by omega, by go_num, rfl, by rw [unhide HDS]; exact HU⟩
            case measure => simp [intOf]; omega
        · obtain rfl : k = 24 := by omega
          have hNl := (unhide HU).len
          have HF : Hid (UpS w wr qo (allU m).length qa (allU m)) := hide (by
            have h := unhide HU
            rw [hNl] at h
            exact ⟨h.o.base (unhide HA).size, fr (unhide HA) h.k⟩)
          have HL2 : Hid (N = (allU m).length) := hide hNl
          clear c0 c1 c2 c3 hNl HU
          go_wp2
          go_ret
          rw [unhide HL2]
          exact ⟨qo, qa, rfl, unhide HF⟩

set_option maxHeartbeats 1600000 in
theorem imageUpdates_spec (a : Im4) (m : Img) (w : World) (hL : ImL m) (hc : ImS w a m) :
    Calls Tryz.prog 6 #[imV a m] w fun e w' => ∃ qo qa, e = .returned (.tuple #[.slice qo (iuA m).1.length qa, .int .i64 (iuA m).2]) ∧ UpS w w' qo (iuA m).1.length qa (iuA m).1 := by
  have HA := hide (Joins.below_alloc1 w (.cells #[.slice a.ro m.refs.length a.rc, .slice a.tq m.table.length a.tc, .slice a.so m.snaps.length a.sc, .slice a.dq m.data.length a.dc] 32))
  have HV := hide (VarM.new w 32 (.slice a.ro m.refs.length a.rc) (.slice a.tq m.table.length a.tc) (.slice a.so m.snaps.length a.sc) (.slice a.dq m.data.length a.dc))
  have HC := hide (hc.below (unhide HA))
  have HL := hide hL
  clear hc hL
  go_enter Tryz.func6, Tryz.ntmps6
  go_upto_region 1 with fail
  revert HA HV HC
  generalize (w.alloc _) = W0
  intro HA HV HC
  obtain ⟨c0, c1, c2, c3⟩ := (unhide HV).cells
  go_wp2_with fail
  refine (imageOK_spec a m _ (unhide HL) (unhide HC)).mono ?_
  rintro e w1 ⟨rfl, hb⟩
  have HB := hide hb
  clear hb c0 c1 c2 c3
  cases him : imB m
  · have HE : Hid (iuA m = ([], 1)) := hide (by rw [iuA, him]; rfl)
    have HF : Hid (UpS w (w1.alloc (.cells #[] 52)) (some ⟨w1.heap.size, 0, none⟩) 0 0 []) := hide ⟨.inl ⟨rfl, rfl, _, rfl⟩, fr (unhide HA) (fr (unhide HB) (Joins.below_alloc1 _ _))⟩
    go_wp2
    go_ret2
    rw [unhide HE]
    exact ⟨_, _, rfl, unhide HF⟩
  · have HE : Hid (iuA m = (allU m, 0)) := hide (by rw [iuA, him]; rfl)
    have HR := hide (imB_iff.1 him)
    clear him
    obtain ⟨c0, c1, c2, c3⟩ := ((unhide HV).below (unhide HB)).cells
    go_wp2_with fail
    refine (l11All_any a m _ (unhide HR) ((unhide HC).below (unhide HB))).mono ?_
    rintro e w2 ⟨qo, qa, rfl, hu⟩
    have HF : Hid (UpS w w2 qo (allU m).length qa (allU m)) := hide ⟨hu.o.base (fr (unhide HA) (unhide HB)).size, fr (fr (unhide HA) (unhide HB)) hu.k⟩
    clear hu c0 c1 c2 c3
    generalize allU m = L at *
    go_wp2
    go_ret2
    rw [unhide HE]
    exact ⟨qo, qa, rfl, unhide HF⟩

end Go.Proofs.YtmkegkpnomcnhabGreat

/- Contracts of the program's counts: RefsOK, clusterOK, countsOf, countsWith, list, RefUp. -/
namespace Go.Proofs.YtmkegkpnomcnhabGreat
open Go.RowKit
set_option linter.unusedVariables false
set_option maxRecDepth 100000

theorem sizeA24 : (Tryz.prog.info? 78).map (·.size) = some 24 := by kernel_rfl
theorem arr24 : Tryz.prog.arrayLen 78 = 24 := by kernel_rfl
theorem und24 : Tryz.prog.underlying 78 = some (.array 24 3) := by kernel_rfl
theorem sizeA {xs : List Int} (h : xs.length = 24) : (Tryz.prog.info? 78).map (·.size) = some (intV xs).toArray.size := by rw [intV_size, h]; exact sizeA24
theorem sizeL {xs : List Int} (h : xs.length = 24) : (Tryz.prog.info? 78).map (·.size) = some (intV xs).length := by rw [intV_length, h]; exact sizeA24

set_option maxHeartbeats 800000 in
theorem refsOK_impl (ao : Option Addr) (cap : Nat) (xs : List Int) (w : World) (hl : xs.length ≤ maxLen) (hc : Is w ao xs) :
    Calls Tryz.prog 59 #[.slice ao xs.length cap] w fun e w' => e = .returned (.bool (ctB xs)) ∧ w' = w := by
  have HC := hide hc
  clear hc
  unfold maxLen at hl
  by_cases h24 : xs.length = 24
  · have hb : ((xs.length : Int) != 24) = false := by simp [h24]
    have H24 := hide h24
    clear h24
    go_enter Tryz.func59, Tryz.ntmps59
    go_wp2
    go_loop [10] (fun i => ∃ k : Nat, k ≤ xs.length ∧ i = .int .i64 k ∧ Hid (∀ j (h : j < xs.length), j < k → cnt1 xs[j] = true)) (fun i => xs.length - (intOf i).toNat)
    case atStart => exact ⟨0, Nat.zero_le _, rfl, hide (fun j _ h => by omega)⟩
    case round =>
      obtain ⟨k, hk, rfl, HA⟩ := hrel
      by_cases hlt : k < xs.length
      · obtain ⟨b, off, rfl, hc⟩ := unhide HC k hlt
        by_cases hn : cnt1 xs[k] = true
        · have HN := hide (all_succ hlt (unhide HA) hn)
          have hn' : betw xs[k] 0 15 = true := hn
          clear hn
          go_wp2_with (go_at_call 71; refine (within_any _ _ _ _).mono ?_; rintro e w' ⟨rfl, rfl⟩)
          go_round
          case rel => exact ⟨k + 1, by omega, by go_num, HN⟩
          case measure => simp [intOf]; omega
        · have hn0 : cnt1 xs[k] = false := by simpa using hn
          have hn' : betw xs[k] 0 15 = false := hn0
          have HF := hide (ctB_noat hlt hn0)
          clear hn hn0
          go_wp2_with (go_at_call 71; refine (within_any _ _ _ _).mono ?_; rintro e w' ⟨rfl, rfl⟩)
          go_ret
          exact ⟨ret_bool (unhide HF).symm, rfl⟩
      · have HF := hide (ctB_of (unhide H24) (fun j h => unhide HA j h (by omega)))
        go_wp2
        go_ret
        exact ⟨ret_bool (unhide HF).symm, rfl⟩
  · have hb : ((xs.length : Int) != 24) = true := by simp; omega
    have HF := hide (ctB_nolen h24)
    clear h24
    go_enter Tryz.func59, Tryz.ntmps59
    go_wp2
    go_ret
    exact ⟨ret_bool (unhide HF).symm, rfl⟩

/-- An array of counts as a value. -/
abbrev ctV (xs : List Int) : Value := .agg (intV xs).toArray
theorem zero_arr : (#[.int .i64 0, .int .i64 0, .int .i64 0, .int .i64 0, .int .i64 0, .int .i64 0, .int .i64 0, .int .i64 0, .int .i64 0, .int .i64 0, .int .i64 0, .int .i64 0, .int .i64 0, .int .i64 0, .int .i64 0, .int .i64 0, .int .i64 0, .int .i64 0, .int .i64 0, .int .i64 0, .int .i64 0, .int .i64 0, .int .i64 0, .int .i64 0] : Array Value) = (intV zero24).toArray := rfl
theorem ret_ci {xs ys : List Int} {a b : Int} (h : xs = ys) (k : a = b) : Ending.returned (.tuple #[ctV xs, .int .i64 a]) = .returned (.tuple #[ctV ys, .int .i64 b]) := by rw [h, k]
theorem arr_new (w : World) : (w.alloc (.cells #[.int .i64 0, .int .i64 0, .int .i64 0, .int .i64 0, .int .i64 0, .int .i64 0, .int .i64 0, .int .i64 0, .int .i64 0, .int .i64 0, .int .i64 0, .int .i64 0, .int .i64 0, .int .i64 0, .int .i64 0, .int .i64 0, .int .i64 0, .int .i64 0, .int .i64 0, .int .i64 0, .int .i64 0, .int .i64 0, .int .i64 0, .int .i64 0] 78)).heap[w.heap.size]? = some (.cells (intV zero24).toArray 78 (0, 0)) := heap_alloc_new w _
theorem load_ct (W : World) {g : Nat} {xs : List Int} (h : W.heap[g]? = some (.cells (intV xs).toArray 78 (0, 0))) (hl : xs.length = 24) : (loadVar 78 ⟨g, 0, none⟩).run Tryz.prog W = .ok (ctV xs) W :=
  run_loadVar_row W g 78 78 (intV xs).toArray (0, 0) _ h und24 rfl (sizeA hl)

theorem res_ct {W : World} {g : Nat} {xs : List Int} {p u : Value} (h : W.heap[g]? = some (.cells (intV xs).toArray 78 (0, 0))) (hl : xs.length = 24) (hp : p = .pointer (some ⟨g, 0, none⟩)) : (((asAddr p).run Tryz.prog W).andThen fun a w₁ => ((loadVar 78 a).run Tryz.prog w₁).andThen fun v w₂ => .ok (Value.tuple #[v, u]) w₂) = .ok (Value.tuple #[ctV xs, u]) W := by
  subst hp
  simp only [asAddr, Sem.run_pure, Result.andThen_ok, load_ct W h hl]

/-- An array of counts in a variable. -/
abbrev VarC (W : World) (g : Nat) (xs : List Int) : Prop := W.heap[g]? = some (.cells (intV xs).toArray 78 (0, 0))
theorem cw_bad {xs : List Int} {c : Int} (h : ctF xs ≠ 0) : cwF xs c = ctF xs ∧ cwR xs c = zero24 := by
  have e : cwF xs c = ctF xs := by rw [cwF, if_neg h]
  exact ⟨e, by rw [cwR, e, if_neg h]⟩
theorem cw_out {xs : List Int} {c : Int} (h : ctF xs = 0) (hc : betw c 0 23 = false) : cwF xs c = 4 ∧ cwR xs c = zero24 := by
  have e : cwF xs c = 4 := by rw [cwF, if_pos h, hc]; rfl
  exact ⟨e, by rw [cwR, e]; rfl⟩
theorem cw_in {xs : List Int} {c : Int} (h : ctF xs = 0) (hc : betw c 0 23 = true) : cwF xs c = 0 ∧ cwR xs c = xs := by
  have e : cwF xs c = 0 := by rw [cwF, if_pos h, hc]; rfl
  exact ⟨e, by rw [cwR, e]; rfl⟩
theorem ctF_ne (xs : List Int) (h : ctF xs ≠ 0) : (ctF xs != 0) = true := by simpa using h

theorem intV_ones (xs : List Int) : ∀ v ∈ intV xs, v.oneCell' = true := by
  intro v hv
  simp only [intV, List.mem_map] at hv
  obtain ⟨n, _, rfl⟩ := hv
  rfl
theorem sizeI1 : (Tryz.prog.info? 3).map (·.size) = some 1 := by kernel_rfl
theorem runI1 (W : World) : (Go.sizeOf 3).run Tryz.prog W = .ok 1 W := by
  have h := sizeI1
  cases hq : Tryz.prog.info? 3 with
  | none => simp [hq] at h
  | some i =>
    have hi : i.size = 1 := by simpa [hq] using h
    simp [Go.sizeOf, typeInfo, hq, hi]
theorem slice24 (W : World) (g : Nat) : (Instr.sliceAt 78 (.pointer (some ⟨g, 0, none⟩)) none none none).run Tryz.prog W = .ok (.slice (some ⟨g, 0, none⟩) 24 24) W := by
  have hu : Tryz.prog.underlying 78 = some (.array (Tryz.prog.arrayLen 78) (Tryz.prog.elem 78)) := by kernel_rfl
  have he : Tryz.prog.elem 78 = 3 := by kernel_rfl
  rw [run_sliceAt_array_all W _ _ hu, he, runI1, arr24]
  simp only [Result.andThen, slicedAt, Nat.mul_one, Nat.sub_zero]
  rfl
theorem idx24 (W : World) (xs : List Int) (k : Nat) (hl : xs.length = 24) (hk : k < xs.length) : (Instr.index 78 (ctV xs) (.int .i64 k)).run Tryz.prog W = .ok (.int .i64 xs[k]) W := by
  have hu := und24
  have hk' : k < 24 := by omega
  have h2 := sizeI1
  cases hq : Tryz.prog.info? 3 with
  | none => simp [hq] at h2
  | some i =>
    have hi : i.size = 1 := by simpa [hq] using h2
    simp [Instr.index, run_underlying, hu, sizeOf, typeInfo, hq, hi, intV, asIntOf, part, hk]
    intro h
    omega

end Go.Proofs.YtmkegkpnomcnhabGreat

/- Contracts of the model's l10Find, l10Raise, l10Text, l10Names, SnapNames. (Made ahead of stage 10.) -/
namespace Go.Proofs.YtmkegkpnomcnhabGreat
open Go.RowKit
set_option linter.unusedVariables false
set_option maxRecDepth 100000

/-- Where a name stands. -/
def fdI (m : Img) (name : ByteArray) : Int := if imFind m name < m.snaps.length then (imFind m name : Int) else -1
theorem find_here {m : Img} {name : ByteArray} {k : Nat} (hk : k < m.snaps.length) (h0 : m.snaps[k].name = name) (h : ∀ j (hj : j < m.snaps.length), j < k → m.snaps[j].name ≠ name) : imFind m name = k := by
  unfold imFind
  rw [List.findIdx_eq hk]
  refine ⟨by simp [h0], fun j hj => ?_⟩
  have := h j (by omega) hj
  simp [this]
theorem find_none {m : Img} {name : ByteArray} (h : ∀ j (hj : j < m.snaps.length), m.snaps[j].name ≠ name) : ¬ imFind m name < m.snaps.length := by
  unfold imFind
  rw [List.findIdx_lt_length]
  rintro ⟨x, hx, h0⟩
  obtain ⟨j, hj, rfl⟩ := List.getElem_of_mem hx
  have := h j hj
  simp at h0
  exact this h0

/-- The code ahead of a name's call. -/
def tnF (m : Img) (name : ByteArray) : Int := if 65536 < name.size then 2 else if imB m = true then 0 else 1
theorem str_one (n : ByteArray) : ∀ u ∈ [Value.string n], u.oneCell' = true := by
  intro u hu
  simp at hu
  subst hu
  rfl
/-- The names of an image's snapshots. -/
def nmL (m : Img) : List ByteArray := m.snaps.map (·.name)
def snA (m : Img) : List ByteArray × Int := if imB m = true then (nmL m, 0) else ([], 1)
end Go.Proofs.YtmkegkpnomcnhabGreat
