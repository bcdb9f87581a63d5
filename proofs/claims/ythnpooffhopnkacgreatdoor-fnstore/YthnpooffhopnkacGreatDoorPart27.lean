import Derived.Test.YthnpooffhopnkacGreatDoorRows
import Derived.Test.YthnpooffhopnkacGreatDoorPart1
import Derived.Test.YthnpooffhopnkacGreatDoorPart2
import Derived.Test.YthnpooffhopnkacGreatDoorPart3
import Derived.Test.YthnpooffhopnkacGreatDoorPart26
import Derived.Test.YthnpooffhopnkacGreatDoorPart9
import Derived.Test.YthnpooffhopnkacGreatDoorPart19
import Derived.Test.YthnpooffhopnkacGreatDoorPart8
import Derived.Test.YthnpooffhopnkacGreatDoorPart14
import Derived.Test.YthnpooffhopnkacGreatDoorPart15
import Derived.Test.YthnpooffhopnkacGreatDoorPart16
import Derived.Test.YthnpooffhopnkacGreatDoorPart25
import Derived.Test.YthnpooffhopnkacGreatDoorPart18
import Derived.Laws.OwnMore
import Derived.WalkKit
import Derived.WalkSpells
import Derived.KernelRfl
import Derived.LoopN
import Derived.BigQuiet
import Derived.Deep.QuietTactic
import Derived.Test.YthnpooffhopnkacGreatDoorPart4
import Derived.Test.YthnpooffhopnkacGreatDoorPart5
import Derived.Test.YthnpooffhopnkacGreatDoorPart10

/- Contracts of the model's l11Super, l11All, ImageUpdates. (Made ahead of stage 11.) -/
namespace Go.Proofs.YthnpooffhopnkacGreatDoor
open Go.RowKit
set_option linter.unusedVariables false
set_option maxRecDepth 100000

theorem infoUs : (Tryz.prog.info? 43).map (fun i => (i.zero, i.size, i.bytes)) = some (some (.agg #[.int .i64 0, .string ⟨#[]⟩]), 2, 24) := by kernel_rfl
theorem supL_take {m : Img} {k : Nat} (hk : k < m.snaps.length) : (supL m).take (k + 1 + 1) = (supL m).take (k + 1) ++ [nmN m.snaps[k].name] := by
  have hl : k + 1 < (supL m).length := by simp [supL]; exact hk
  rw [List.take_succ_eq_append_getElem hl]
  simp [supL]

set_option maxHeartbeats 1600000 in
theorem l11Super_any (a : Im4) (m : Img) (w : World) (hR : ImR m) (hc : ImS w a m) :
    Calls Tryz.prog 66 #[imV a m] w fun e w' => e = .returned (.string (sealS 1 (supL m))) ∧ Below w.heap.size w w' := by
  have HA := hide (Joins.below_alloc1 w (.cells #[.slice a.ro m.refs.length a.rc, .slice a.tq m.table.length a.tc, .slice a.so m.snaps.length a.sc, .slice a.dq m.data.length a.dc] 26))
  have HV := hide (VarM.new w 26 (.slice a.ro m.refs.length a.rc) (.slice a.tq m.table.length a.tc) (.slice a.so m.snaps.length a.sc) (.slice a.dq m.data.length a.dc))
  have HC := hide (hc.s.below (unhide HA))
  have HNS : Hid (∀ k (h : k < m.snaps.length), m.snaps[k].name.size ≤ 6) := hide (fun k h => (snm_parts (hR.snaps _ (List.getElem_mem h)).1).2.2)
  have HSU : Hid (∀ j (h : j < (supL m).length), 0 ≤ (supL m)[j] ∧ (supL m)[j] ≤ 2147483647) := hide (fun j h => by
    have := List.all_eq_true.1 (allB_snm hR) _ (List.getElem_mem h)
    simpa [numB, inB] using this)
  have hs3 := hR.few
  have HSL : Hid ((supL m).length = m.snaps.length + 1) := hide (by simp [supL])
  clear hc hR
  obtain ⟨j0, hj, hy0, hy1, hy2⟩ := info_parts infoM
  go_enter Tryz.func66, Tryz.ntmps66
  go_upto_region 1 with fail
  revert HA HV HC
  generalize (w.alloc _) = W0
  intro HA HV HC
  obtain ⟨c0, c1, c2, c3⟩ := (unhide HV).cells
  have H0 : Hid (OwnR (W0.alloc (.cells #[.int .i64 (m.snaps.length : Int)] 3)) W0.heap.size 3 1 (.slice (some ⟨W0.heap.size, 0, none⟩) 1 1) 1 (intV ((supL m).take 1)) ∧ Below W0.heap.size W0 (W0.alloc (.cells #[.int .i64 (m.snaps.length : Int)] 3))) := hide
    ⟨.inr ⟨by omega, by have := World.ownsRow_lit (base := W0.heap.size) (e := 3) (size := 1) W0 #[.int .i64 (m.snaps.length : Int)] 1 (Nat.le_refl _) (by unfold maxLen; omega) rfl; simpa [supL, intV] using this⟩, Joins.below_alloc1 _ _⟩
  go_wp2
  clear c0 c1 c2 c3
  go_loopw [3, 4] (fun o i wr => ∃ (k : Nat) (qo : Option Addr) (qa : Nat), k ≤ m.snaps.length ∧ i = .int .i64 k ∧ o = .slice qo (k + 1) qa ∧ Hid (OwnR wr W0.heap.size 3 1 (.slice qo (k + 1) qa) (k + 1) (intV ((supL m).take (k + 1))) ∧ Below W0.heap.size W0 wr)) (fun _ i _ => m.snaps.length - (intOf i).toNat)
  case atStart => exact ⟨0, _, _, Nat.zero_le _, rfl, rfl, H0⟩
  case round =>
    clear H0
    obtain ⟨k, qo, qa, hk, rfl, rfl, HO⟩ := hrel
    obtain ⟨c0, c1, c2, c3⟩ := ((unhide HV).below (unhide HO).2).cells
    by_cases hlt : k < m.snaps.length
    · obtain ⟨b, off, tq, tc, eb, hn0, _, _, _, _⟩ := ((unhide HC).below (unhide HO).2) k hlt
      rw [eb] at c2
      clear eb
      have hlti : (k : Int) < (m.snaps.length : Int) := by omega
      have HST : Hid (intV ((supL m).take (k + 1 + 1)) = intV ((supL m).take (k + 1)) ++ [.int .i64 (nmN m.snaps[k].name)]) := hide (by rw [supL_take hlt]; simp [intV])
      go_wp2_with fail
      refine (l11Name_any m.snaps[k].name _ (by have := unhide HNS k hlt; omega)).mono ?_
      rintro e w' ⟨rfl, hw⟩
      replace hw := hw.symm
      subst hw
      generalize nmN m.snaps[k].name = NN at *
      have HOA := hide ((unhide HO).1.below (Joins.below_alloc1 _ (.cells #[.int .i64 NN] 3)))
      have HBA := hide (fr (unhide HO).2 (Joins.below_alloc1 _ (.cells #[.int .i64 NN] 3)))
      have HSZ := hide (unhide HO).2.size
      go_wp2_with (at_builtin; refine wpList_append_one rfl _ _ 23 rfl W0.heap.size 3 j0 (.int .i64 0) 1 8 Tryz.underlying23 hj hy0 hy1 hy2 rfl (by omega) qo (k + 1) qa (intV ((supL m).take (k + 1))) rfl (unhide HOA) (by have := unhide HSZ; simp; omega) ⟨wr.heap.size, 0, none⟩ _ [.int .i64 NN] rfl rfl (byte_news wr _ _) (int_one _) (by unfold maxLen; omega) (by omega) ?_; intro g2 cap2 wA hoA hkA; have HSF := hide (And.intro hoA (keep_below (unhide HBA) (unhide HOA) (Nat.le_refl _) hkA)); clear hoA hkA)
      go_roundw
      case rel => exact ⟨k + 1, some ⟨g2, 0, none⟩, cap2, by omega, by go_num, rfl, hide ⟨.inr ⟨by omega, by rw [unhide HST]; exact (unhide HSF).1⟩, (unhide HSF).2⟩⟩
      case measure => simp [intOf]; omega
    · obtain rfl : k = m.snaps.length := by omega
      have HIS : Hid (Is wr qo (supL m)) := hide (by
        have h := (unhide HO).1
        rw [List.take_of_length_le (by rw [unhide HSL]; exact Nat.le_refl _), ← unhide HSL] at h
        exact ownRN h)
      have HCALL : Hid (Calls Tryz.prog 69 #[.int .i64 1, .slice qo (m.snaps.length + 1) qa] wr fun e w' => e = .returned (.string (sealS 1 (supL m))) ∧ Below wr.heap.size wr w') := hide (by
        rw [← unhide HSL]
        exact l02Seal_any 1 qo qa (supL m) wr (by omega) (by rw [unhide HSL]; omega) (unhide HSU) (unhide HIS))
      go_wp2_with fail
      refine (unhide HCALL).mono ?_
      rintro e w2 ⟨rfl, hb⟩
      have HB2 := hide (fr (unhide HA) (fr (unhide HO).2 hb))
      clear hb c0 c1 c2 c3
      go_wp2
      go_ret
      exact ⟨rfl, unhide HB2⟩

theorem tab_snoc {m : Img} {k : Nat} (hk : k < m.snaps.length) : tabU 0 (m.snaps.take (k + 1)) = tabU 0 (m.snaps.take k) ++ [⟨12 + (k : Int), encTb m.snaps[k].table⟩] := by
  rw [List.take_succ_eq_append_getElem hk, tabU_snoc, List.length_take, Nat.zero_add, Nat.min_eq_left (by omega)]
theorem sealS_sz1 (k v : Int) : (sealS k [v]).size = 8 := sealS_size k [v]

set_option maxHeartbeats 6400000 in
theorem l11All_any (a : Im4) (m : Img) (w : World) (hR : ImR m) (hc : ImS w a m) :
    Calls Tryz.prog 24 #[imV a m] w fun e w' => ∃ qo qa, e = .returned (.slice qo (allU m).length qa) ∧ UpS w w' qo (allU m).length qa (allU m) := by
  have HA := hide (Joins.below_alloc1 w (.cells #[.slice a.ro m.refs.length a.rc, .slice a.tq m.table.length a.tc, .slice a.so m.snaps.length a.sc, .slice a.dq m.data.length a.dc] 26))
  have HV := hide (VarM.new w 26 (.slice a.ro m.refs.length a.rc) (.slice a.tq m.table.length a.tc) (.slice a.so m.snaps.length a.sc) (.slice a.dq m.data.length a.dc))
  have HC := hide (hc.below (unhide HA))
  have HR := hide hR
  have hs3 := hR.few
  have HRL := hide hR.rl
  have HDL := hide hR.len
  clear hc hR
  obtain ⟨j0, hj, hy0, hy1, hy2⟩ := info_parts infoUs
  go_enter Tryz.func24, Tryz.ntmps24
  go_upto_region 1 with fail
  revert HA HV HC
  generalize (w.alloc _) = W0
  intro HA HV HC
  have HBD : Hid (Below W0.heap.size W0 W0.drew) := hide (Below.refl _ _).drew
  have hS0 : VarM W0.drew w.heap.size 26 (.slice a.ro m.refs.length a.rc) (.slice a.tq m.table.length a.tc) (.slice a.so m.snaps.length a.sc) (.slice a.dq m.data.length a.dc) := (unhide HV).below (unhide HBD)
  refine wp_region_ord (fun w' => VarM w' w.heap.size 26 (.slice a.ro m.refs.length a.rc) (.slice a.tq m.table.length a.tc) (.slice a.so m.snaps.length a.sc) (.slice a.dq m.data.length a.dc)) [0, 1, 2, 3, 4, 5, 6, 7, 8, 9, 10, 11, 12] [(0, 0), (3, 0), (4, 0), (7, 0), (8, 0), (1, 2), (2, 0), (5, 2), (6, 0), (9, 2), (10, 0), (11, 2), (12, 0)] (by kernel_rfl) (by kernel_rfl) rfl (by kernel_rfl) ?_
  refine ord_read (.agg #[.slice a.ro m.refs.length a.rc, .slice a.tq m.table.length a.tc, .slice a.so m.snaps.length a.sc, .slice a.dq m.data.length a.dc]) rfl rfl hS0 (fun W hW => by obtain ⟨k0, k1, k2, k3⟩ := hW.cells; go_simp) ?_
  refine ord_read (.pointer (some ⟨w.heap.size, 0, none⟩)) rfl rfl hS0 (fun W hW => by go_simp) ?_
  refine ord_read (.slice a.ro m.refs.length a.rc) rfl rfl hS0 (fun W hW => by obtain ⟨k0, k1, k2, k3⟩ := hW.cells; go_simp) ?_
  refine ord_read (.pointer (some ⟨w.heap.size, 1, none⟩)) rfl rfl hS0 (fun W hW => by go_simp) ?_
  refine ord_read (.slice a.tq m.table.length a.tc) rfl rfl hS0 (fun W hW => by obtain ⟨k0, k1, k2, k3⟩ := hW.cells; go_simp) ?_
  clear hS0
  refine ord_held rfl rfl ?_
  intro K hK
  unfold Oper.wp
  go_simp
  refine (l11Super_any a m _ (unhide HR) ((unhide HC).below (unhide HBD))).mono ?_
  rintro e w1 ⟨rfl, hb⟩
  have HB1 := hide (fr (unhide HBD) hb)
  clear hb
  refine hK _ _ ((unhide HV).below (unhide HB1)) ?_
  clear hK K
  refine ord_read (.agg #[.int .i64 9, .string (sealS 1 (supL m))]) rfl rfl ((unhide HV).below (unhide HB1)) (fun W hW => by go_simp) ?_
  refine ord_held rfl rfl ?_
  intro K hK
  unfold Oper.wp
  go_simp
  refine (l08Encode_any a.ro a.rc m.refs _ (unhide HR).refs ((unhide HC).r.below (unhide HB1))).mono ?_
  rintro e w2 ⟨rfl, hb⟩
  have HB2 := hide (fr (unhide HB1) hb)
  clear hb
  refine hK _ _ ((unhide HV).below (unhide HB2)) ?_
  clear hK K
  refine ord_read (.agg #[.int .i64 10, .string (encT m.refs)]) rfl rfl ((unhide HV).below (unhide HB2)) (fun W hW => by go_simp) ?_
  refine ord_held rfl rfl ?_
  intro K hK
  unfold Oper.wp
  go_simp
  refine (l09Encode_any a.tq a.tc m.table _ (unhide HR).table ((unhide HC).t.below (unhide HB2))).mono ?_
  rintro e w3 ⟨rfl, hb⟩
  have HB3 := hide (fr (unhide HB2) hb)
  clear hb
  refine hK _ _ ((unhide HV).below (unhide HB3)) ?_
  clear hK K
  refine ord_read (.agg #[.int .i64 11, .string (encTb m.table)]) rfl rfl ((unhide HV).below (unhide HB3)) (fun W hW => by go_simp) ?_
  have HB4 := hide (fr (unhide HB3) (Joins.below_alloc1 w3 (.cells #[.int .i64 9, .string (sealS 1 (supL m)), .int .i64 10, .string (encT m.refs), .int .i64 11, .string (encTb m.table)] 43)))
  have HU4 : Hid (UpS W0 (w3.alloc (.cells #[.int .i64 9, .string (sealS 1 (supL m)), .int .i64 10, .string (encT m.refs), .int .i64 11, .string (encTb m.table)] 43)) (some ⟨w3.heap.size, 0, none⟩) 3 3 (headU m)) := hide
    ⟨.inr ⟨by omega, World.ownsRow_lit (base := W0.heap.size) (e := 43) (size := 2) w3 #[.int .i64 9, .string (sealS 1 (supL m)), .int .i64 10, .string (encT m.refs), .int .i64 11, .string (encTb m.table)] 3 (unhide HB3).size (by unfold maxLen; omega) rfl⟩, unhide HB4⟩
  have HV4 := hide ((unhide HV).below (unhide HB4))
  refine ord_held rfl rfl ?_
  intro K hK
  unfold Oper.wp
  go_simp
  refine hK _ _ (unhide HV4) ?_
  clear hK K
  refine ord_read (.slice (some ⟨w3.heap.size, 0, none⟩) 3 3) rfl rfl (unhide HV4) (fun W hW => by go_simp) ?_
  refine ord_done ?_
  clear HB4 HV4
  revert HU4
  generalize w3.heap.size = g3
  generalize (w3.alloc _) = W4
  intro HU4
  clear HB1 HB2 HB3 HBD
  have HTS : Hid (∀ k (h : k < m.snaps.length), tbB m.snaps[k].table = true) := hide (fun k h => ((unhide HR).snaps _ (List.getElem_mem h)).2)
  go_wp2
  go_loopw [3, 4] (fun o i wr => ∃ (k : Nat) (qo : Option Addr) (qa : Nat), k ≤ m.snaps.length ∧ i = .int .i64 k ∧ o = .slice qo (3 + k) qa ∧ Hid (UpS W0 wr qo (3 + k) qa (headU m ++ tabU 0 (m.snaps.take k)))) (fun _ i _ => m.snaps.length - (intOf i).toNat)
  case atStart => exact ⟨0, _, _, Nat.zero_le _, rfl, rfl, by simpa [tabU] using HU4⟩
  case round =>
    clear HU4
    obtain ⟨k, qo, qa, hk, rfl, rfl, HU⟩ := hrel
    obtain ⟨c0, c1, c2, c3⟩ := ((unhide HV).below (unhide HU).k).cells
    by_cases hlt : k < m.snaps.length
    · obtain ⟨b, off, tq, tc, eb, _, ht0, hIs, _, _⟩ := ((unhide HC).s.below (unhide HU).k) k hlt
      rw [eb] at c2
      have HIS := hide hIs
      clear eb hIs
      have hlti : (k : Int) < (m.snaps.length : Int) := by omega
      have hw12 : IntKind.i64.wrap (12 + (k : Int)) = 12 + (k : Int) := by rw [IntKind.wrap_i64]; omega
      have HSN : Hid (headU m ++ tabU 0 (m.snaps.take (k + 1)) = headU m ++ tabU 0 (m.snaps.take k) ++ [⟨12 + (k : Int), encTb m.snaps[k].table⟩]) := hide (by rw [tab_snoc hlt, List.append_assoc])
      go_wp2_with fail
      refine (l09Encode_any tq tc m.snaps[k].table _ (unhide HTS k hlt) (unhide HIS)).mono ?_
      rintro e w5 ⟨rfl, hb⟩
      have HU5 := hide ((unhide HU).next hb)
      clear hb c0 c1 c2 c3 ht0 HIS
      generalize encTb m.snaps[k].table = TX at *
      have HUA := hide ((unhide HU5).next (Joins.below_alloc1 w5 (.cells #[.int .i64 (12 + (k : Int)), .string TX] 43)))
      have HSZ := hide (unhide HUA).sz
      go_wp2_with (at_builtin; refine wpList_append_one rfl _ _ 28 rfl W0.heap.size 43 j0 (.agg #[.int .i64 0, .string ⟨#[]⟩]) 2 24 Tryz.underlying28 hj hy0 hy1 hy2 rfl (by omega) qo (3 + k) qa (upsV (headU m ++ tabU 0 (m.snaps.take k))) rfl (unhide HUA).o (unhide HSZ) ⟨w5.heap.size, 0, none⟩ _ (upV ⟨12 + (k : Int), TX⟩) rfl rfl (news2_at w5 _ ⟨12 + (k : Int), TX⟩ _ rfl) (upV_one _) (by unfold maxLen; omega) (by omega) ?_; intro g2 cap2 wA hoA hkA; have HU6 := hide (UpS.one (unhide HUA) hoA hkA); clear hoA hkA)
      go_roundw
      case rel => exact ⟨k + 1, some ⟨g2, 0, none⟩, cap2, by omega, by go_num, rfl, by rw [unhide HSN]; exact HU6⟩
      case measure => simp [intOf]; omega
    · obtain rfl : k = m.snaps.length := by omega
      rw [List.take_length] at HU
      have HNN : Hid (3 + m.snaps.length = (headU m ++ tabU 0 m.snaps ++ dataU m 0).length ∧ headU m ++ tabU 0 m.snaps = headU m ++ tabU 0 m.snaps ++ dataU m 0) := hide (by
        have e : dataU m 0 = [] := rfl
        rw [e, List.append_nil, List.length_append, tabU_len]; exact ⟨rfl, rfl⟩)
      obtain ⟨N0, hN0⟩ : ∃ N0, N0 = 3 + m.snaps.length := ⟨_, rfl⟩
      have hN6 : N0 ≤ 6 := by omega
      rw [← hN0] at HU HNN ⊢
      rw [(unhide HNN).2] at HU
      clear hN0 hlt
      go_wp2
      clear c0 c1 c2 c3
      go_loopw [3, 5] (fun o i wr => ∃ (k N : Nat) (qo : Option Addr) (qa : Nat), k ≤ 24 ∧ N ≤ 6 + k ∧ i = .int .i64 k ∧ o = .slice qo N qa ∧ Hid (UpS W0 wr qo N qa (headU m ++ tabU 0 m.snaps ++ dataU m k))) (fun _ i _ => 24 - (intOf i).toNat)
      case atStart => exact ⟨0, N0, qo, qa, by omega, by omega, rfl, rfl, HU⟩
      case round =>
        clear HU HNN hN6
        obtain ⟨k, N, qo, qa, hk, hN, rfl, rfl, HU⟩ := hrel
        obtain ⟨c0, c1, c2, c3⟩ := ((unhide HV).below (unhide HU).k).cells
        by_cases hlt : k < 24
        · have hlti : (k : Int) < 24 := by omega
          have hkr : k < m.refs.length := by rw [unhide HRL]; exact hlt
          have hkd : k < m.data.length := by rw [unhide HDL]; exact hlt
          have hkri : (k : Int) < (m.refs.length : Int) := by omega
          have hkdi : (k : Int) < (m.data.length : Int) := by omega
          obtain ⟨br, or, er, hcr⟩ := ((unhide HC).r.below (unhide HU).k) k hkr
          rw [er] at c0
          by_cases hp : 0 < m.refs[k]
          · obtain ⟨bd, od, ed, hcd⟩ := ((unhide HC).d.below (unhide HU).k) k hkd
            rw [ed] at c3
            have HDS : Hid (headU m ++ tabU 0 m.snaps ++ dataU m (k + 1) = headU m ++ tabU 0 m.snaps ++ dataU m k ++ [⟨15 + (k : Int), sealS 4 [m.data[k]]⟩]) := hide (by
              rw [dataU_succ, ← List.append_assoc]
              congr 1
              unfold datU
              rw [if_pos (by simpa [List.getD, hkr] using hp)]
              simp [List.getD, hkd])
            have HNB : Hid (∀ j (h : j < [m.data[k]].length), 0 ≤ [m.data[k]][j] ∧ [m.data[k]][j] ≤ 2147483647) := hide (fun j h => by
              have hj : j = 0 := by simpa using h
              subst hj
              have := (unhide HR).nums _ (List.getElem_mem hkd)
              simpa [numB, inB] using this)
            have hw15 : IntKind.i64.wrap (15 + (k : Int)) = 15 + (k : Int) := by rw [IntKind.wrap_i64]; omega
            clear er ed
            generalize m.refs[k] = RV at *
            generalize m.data[k] = DV at *
            have HUB := hide ((unhide HU).next (Joins.below_alloc1 wr (.cells #[.int .i64 DV] 3)))
            go_wp2_with fail
            refine (l02Seal_any 4 (some ⟨wr.heap.size, 0, none⟩) 1 [DV] _ (by omega) (by simp) (unhide HNB) (is1 wr _ _ DV rfl)).mono ?_
            rintro e w5 ⟨rfl, hb⟩
            have HU5 := hide ((unhide HUB).next hb)
            clear hb c0 c1 c2 c3 hcr hcd HUB
            generalize sealS 4 [DV] = TX at *
            have HUA := hide ((unhide HU5).next (Joins.below_alloc1 w5 (.cells #[.int .i64 (15 + (k : Int)), .string TX] 43)))
            have HSZ := hide (unhide HUA).sz
            go_wp2_with (at_builtin; refine wpList_append_one rfl _ _ 28 rfl W0.heap.size 43 j0 (.agg #[.int .i64 0, .string ⟨#[]⟩]) 2 24 Tryz.underlying28 hj hy0 hy1 hy2 rfl (by omega) qo N qa (upsV (headU m ++ tabU 0 m.snaps ++ dataU m k)) rfl (unhide HUA).o (unhide HSZ) ⟨w5.heap.size, 0, none⟩ _ (upV ⟨15 + (k : Int), TX⟩) rfl rfl (news2_at w5 _ ⟨15 + (k : Int), TX⟩ _ rfl) (upV_one _) (by unfold maxLen; omega) (by omega) ?_; intro g2 cap2 wA hoA hkA; have HU6 := hide (UpS.one (unhide HUA) hoA hkA); clear hoA hkA)
            go_roundw
            case rel => exact ⟨k + 1, N + 1, some ⟨g2, 0, none⟩, cap2, by omega, by omega, by go_num, rfl, by rw [unhide HDS]; exact HU6⟩
            case measure => simp [intOf]; omega
          · have HDS : Hid (headU m ++ tabU 0 m.snaps ++ dataU m (k + 1) = headU m ++ tabU 0 m.snaps ++ dataU m k) := hide (by
              rw [dataU_succ]
              unfold datU
              rw [if_neg (by simpa [List.getD, hkr] using hp), List.append_nil])
            clear er
            generalize m.refs[k] = RV at *
            go_wp2
            go_roundw
            case rel => exact ⟨k + 1, N, qo, qa, by omega, by omega, by go_num, rfl, by rw [unhide HDS]; exact HU⟩
            case measure => simp [intOf]; omega
        · obtain rfl : k = 24 := by omega
          have hNl := (unhide HU).len
          have HF : Hid (UpS w wr qo (allU m).length qa (allU m)) := hide (by
            have h := unhide HU
            rw [hNl] at h
            exact ⟨h.o.base (unhide HA).size, fr (unhide HA) h.k⟩)
          have HL2 : Hid (N = (allU m).length) := hide hNl
          clear c0 c1 c2 c3 hNl HU
          go_wp2
          go_ret
          rw [unhide HL2]
          exact ⟨qo, qa, rfl, unhide HF⟩

set_option maxHeartbeats 1600000 in
theorem imageUpdates_spec (a : Im4) (m : Img) (w : World) (hL : ImL m) (hc : ImS w a m) :
    Calls Tryz.prog 7 #[imV a m] w fun e w' => ∃ qo qa, e = .returned (.tuple #[.slice qo (iuA m).1.length qa, .int .i64 (iuA m).2]) ∧ UpS w w' qo (iuA m).1.length qa (iuA m).1 := by
  have HA := hide (Joins.below_alloc1 w (.cells #[.slice a.ro m.refs.length a.rc, .slice a.tq m.table.length a.tc, .slice a.so m.snaps.length a.sc, .slice a.dq m.data.length a.dc] 26))
  have HV := hide (VarM.new w 26 (.slice a.ro m.refs.length a.rc) (.slice a.tq m.table.length a.tc) (.slice a.so m.snaps.length a.sc) (.slice a.dq m.data.length a.dc))
  have HC := hide (hc.below (unhide HA))
  have HL := hide hL
  clear hc hL
  go_enter Tryz.func7, Tryz.ntmps7
  go_upto_region 1 with fail
  revert HA HV HC
  generalize (w.alloc _) = W0
  intro HA HV HC
  obtain ⟨c0, c1, c2, c3⟩ := (unhide HV).cells
  go_wp2_with fail
  refine (imageOK_spec a m _ (unhide HL) (unhide HC)).mono ?_
  rintro e w1 ⟨rfl, hb⟩
  have HB := hide hb
  clear hb c0 c1 c2 c3
  cases him : imB m
  · have HE : Hid (iuA m = ([], 1)) := hide (by rw [iuA, him]; rfl)
    have HF : Hid (UpS w (w1.alloc (.cells #[] 43)) (some ⟨w1.heap.size, 0, none⟩) 0 0 []) := hide ⟨.inl ⟨rfl, rfl, _, rfl⟩, fr (unhide HA) (fr (unhide HB) (Joins.below_alloc1 _ _))⟩
    go_wp2
    go_ret2
    rw [unhide HE]
    exact ⟨_, _, rfl, unhide HF⟩
  · have HE : Hid (iuA m = (allU m, 0)) := hide (by rw [iuA, him]; rfl)
    have HR := hide (imB_iff.1 him)
    clear him
    obtain ⟨c0, c1, c2, c3⟩ := ((unhide HV).below (unhide HB)).cells
    go_wp2_with fail
    refine (l11All_any a m _ (unhide HR) ((unhide HC).below (unhide HB))).mono ?_
    rintro e w2 ⟨qo, qa, rfl, hu⟩
    have HF : Hid (UpS w w2 qo (allU m).length qa (allU m)) := hide ⟨hu.o.base (fr (unhide HA) (unhide HB)).size, fr (fr (unhide HA) (unhide HB)) hu.k⟩
    clear hu c0 c1 c2 c3
    generalize allU m = L at *
    go_wp2
    go_ret2
    rw [unhide HE]
    exact ⟨qo, qa, rfl, unhide HF⟩

end Go.Proofs.YthnpooffhopnkacGreatDoor

/- Contracts of the model's l11Diff, DiffUpdates. (Made ahead of stage 11.) -/
namespace Go.Proofs.YthnpooffhopnkacGreatDoor
open Go.RowKit
set_option linter.unusedVariables false
set_option maxRecDepth 100000

theorem tabU_sz : ∀ (ss : List Snp) (i : Nat), (∀ s ∈ ss, s.table.length ≤ 12) → ∀ u ∈ tabU i ss, u.data.size ≤ 80
  | [], i, _, u, hu => by simp [tabU] at hu
  | s :: ss, i, h, u, hu => by
    simp only [tabU, List.mem_cons] at hu
    rcases hu with rfl | hu
    · have := h s (by simp)
      have e : (encTb s.table).size = 4 + s.table.length * 4 := sealS_size 3 s.table
      simp only
      omega
    · exact tabU_sz ss (i + 1) (fun s hs => h s (by simp [hs])) u hu
theorem allU_sz {m : Img} (h : ImR m) : ∀ u ∈ allU m, u.data.size ≤ 80 := fun u hu => by
  unfold allU at hu
  rw [List.mem_append, List.mem_append] at hu
  rcases hu with (hu | hu) | hu
  · have h1 : (sealS 1 (supL m)).size = 4 + (supL m).length * 4 := sealS_size 1 _
    have h2 : (encT m.refs).size = 20 := sealS_size 2 (ctNs m.refs)
    have h3 : (encTb m.table).size = 4 + m.table.length * 4 := sealS_size 3 m.table
    have h4 : (supL m).length = m.snaps.length + 1 := by simp [supL]
    have h5 := h.few
    have h6 := tbB_len h.table
    simp only [headU, List.mem_cons, List.not_mem_nil, or_false] at hu
    rcases hu with rfl | rfl | rfl <;> simp only <;> omega
  · exact tabU_sz m.snaps 0 (fun s hs => tbB_len (h.snaps s hs).2) u hu
  · unfold dataU at hu
    obtain ⟨c, _, hc⟩ := List.mem_flatMap.1 hu
    unfold datU at hc
    split at hc
    · rw [List.mem_singleton] at hc
      subst hc
      have : (sealS 4 [m.data.getD c 0]).size = 8 := sealS_size 4 _
      simp only
      omega
    · simp at hc
/-- Whether one of these updates is this one, as far as it has gone. -/
def anyK (X : List Up) (u : Up) (k : Nat) : Bool := (X.take k).any fun v => upEq v u
theorem anyK_succ {X : List Up} {u : Up} {k : Nat} (hk : k < X.length) : anyK X u (k + 1) = (anyK X u k || upEq X[k] u) := by
  unfold anyK
  rw [List.take_succ_eq_append_getElem hk, List.any_append]; simp
theorem anyK_all (X : List Up) (u : Up) : anyK X u X.length = X.any fun v => upEq v u := by rw [anyK, List.take_length]
def difK (X Y : List Up) (k : Nat) : List Up := (Y.take k).filter fun u => !(X.any fun v => upEq v u)
theorem difK_succ {X Y : List Up} {k : Nat} (hk : k < Y.length) : difK X Y (k + 1) = if (X.any fun v => upEq v Y[k]) = true then difK X Y k else difK X Y k ++ [Y[k]] := by
  unfold difK
  rw [List.take_succ_eq_append_getElem hk, List.filter_append]
  cases h : X.any fun v => upEq v Y[k] <;> simp [h]
theorem difK_all (X Y : List Up) : difK X Y Y.length = Y.filter fun u => !(X.any fun v => upEq v u) := by rw [difK, List.take_length]

set_option maxHeartbeats 3200000 in
theorem l11Diff_any (a b : Im4) (ma mb : Img) (w : World) (hA : ImR ma) (hB : ImR mb) (h1 : ImS w a ma) (h2 : ImS w b mb) :
    Calls Tryz.prog 41 #[imV a ma, imV b mb] w fun e w' => ∃ qo qa, e = .returned (.slice qo (difU ma mb).length qa) ∧ UpS w w' qo (difU ma mb).length qa (difU ma mb) := by
  have HA := hide (Joins.below_alloc2 w (.cells #[.slice a.ro ma.refs.length a.rc, .slice a.tq ma.table.length a.tc, .slice a.so ma.snaps.length a.sc, .slice a.dq ma.data.length a.dc] 26) (.cells #[.slice b.ro mb.refs.length b.rc, .slice b.tq mb.table.length b.tc, .slice b.so mb.snaps.length b.sc, .slice b.dq mb.data.length b.dc] 26))
  have HV := hide ((VarM.new w 26 (.slice a.ro ma.refs.length a.rc) (.slice a.tq ma.table.length a.tc) (.slice a.so ma.snaps.length a.sc) (.slice a.dq ma.data.length a.dc)).below (Joins.below_alloc1 _ (.cells #[.slice b.ro mb.refs.length b.rc, .slice b.tq mb.table.length b.tc, .slice b.so mb.snaps.length b.sc, .slice b.dq mb.data.length b.dc] 26)))
  have HU := hide ((VarM.new (w.alloc (.cells #[.slice a.ro ma.refs.length a.rc, .slice a.tq ma.table.length a.tc, .slice a.so ma.snaps.length a.sc, .slice a.dq ma.data.length a.dc] 26)) 26 (.slice b.ro mb.refs.length b.rc) (.slice b.tq mb.table.length b.tc) (.slice b.so mb.snaps.length b.sc) (.slice b.dq mb.data.length b.dc)).at (y := w.heap.size + 1) (by simp))
  have H1 := hide (h1.below (unhide HA))
  have H2 := hide (h2.below (unhide HA))
  have HIA := hide hA
  have HIB := hide hB
  have HXZ : Hid ((∀ u ∈ allU ma, u.data.size ≤ maxLen) ∧ (∀ u ∈ allU mb, u.data.size ≤ maxLen)) := hide ⟨fun u hu => by have := allU_sz hA u hu; unfold maxLen; omega, fun u hu => by have := allU_sz hB u hu; unfold maxLen; omega⟩
  have hlx := allU_len (m := ma) hA.few
  have hly := allU_len (m := mb) hB.few
  obtain ⟨R, hRR⟩ : ∃ R, R = difU ma mb := ⟨_, rfl⟩
  rw [← hRR]
  have HD : Hid (R = difK (allU ma) (allU mb) (allU mb).length) := hide (hRR.trans (difK_all _ _).symm)
  clear hRR
  clear h1 h2 hA hB
  obtain ⟨j0, hj, hy0, hy1, hy2⟩ := info_parts infoUs
  go_enter Tryz.func41, Tryz.ntmps41
  go_upto_region 1 with fail
  revert HA HV HU H1 H2
  generalize ((w.alloc _).alloc _) = W0
  intro HA HV HU H1 H2
  obtain ⟨c0, c1, c2, c3⟩ := (unhide HV).cells
  go_wp2_with fail
  refine (l11All_any a ma _ (unhide HIA) (unhide H1)).mono ?_
  rintro e w1 ⟨xo, xa, rfl, hu⟩
  have HX := hide (ownUps hu.o (unhide HXZ).1)
  have HB1 := hide hu.k
  clear hu c0 c1 c2 c3
  obtain ⟨c0, c1, c2, c3⟩ := ((unhide HU).below (unhide HB1)).cells
  go_wp2_with fail
  refine (l11All_any b mb _ (unhide HIB) ((unhide H2).below (unhide HB1))).mono ?_
  rintro e w2 ⟨yo, ya, rfl, hu⟩
  have HY := hide (ownUps hu.o (unhide HXZ).2)
  have HX2 := hide ((unhide HX).below hu.k)
  have HB2 := hide (fr (unhide HA) (fr (unhide HB1) hu.k))
  clear hu c0 c1 c2 c3 HX HB1 HV HU H1 H2 HA
  generalize allU ma = X at *
  generalize allU mb = Y at *
  have H0 : Hid (UpS w2 (w2.alloc (.cells #[] 43)) (some ⟨w2.heap.size, 0, none⟩) 0 0 (difK X Y 0)) := hide ⟨.inl ⟨rfl, rfl, _, rfl⟩, Joins.below_alloc1 _ _⟩
  go_wp2
  go_loopw [7, 8] (fun o i wr => ∃ (k N : Nat) (qo : Option Addr) (qa : Nat), k ≤ Y.length ∧ N ≤ k ∧ i = .int .i64 k ∧ o = .slice qo N qa ∧ Hid (UpS w2 wr qo N qa (difK X Y k))) (fun _ i _ => Y.length - (intOf i).toNat)
  case atStart => exact ⟨0, 0, _, _, Nat.zero_le _, Nat.le_refl _, rfl, rfl, H0⟩
  case round =>
    clear H0
    obtain ⟨k, N, qo, qa, hk, hN, rfl, rfl, HU⟩ := hrel
    by_cases hlt : k < Y.length
    · have hlti : (k : Int) < (Y.length : Int) := by omega
      obtain ⟨by_, oy, ey, hya, hyd, _⟩ := ((unhide HY).below (unhide HU).k) k hlt
      have HSU := hide (difK_succ (X := X) hlt)
      have HYW : Hid (wr.cell? ⟨by_, oy + k * 2, none⟩ = some (.int .i64 Y[k].at_) ∧ wr.cell? ⟨by_, oy + k * 2 + 1, none⟩ = some (.string Y[k].data)) := hide ⟨hya, hyd⟩
      have HXW : Hid (Ups wr xo X) := hide ((unhide HX2).below (unhide HU).k)
      clear hya hyd
      subst ey
      generalize hYk : Y[k] = u at *
      clear hYk
      go_wp2
      go_loopw [9, 10] (fun s j wq => ∃ (kk n : Nat), kk ≤ X.length ∧ j = .int .i64 kk ∧ s = .bool (anyK X u kk) ∧ wq = wr.drewN n) (fun _ j _ => X.length - (intOf j).toNat)
      case atStart => exact ⟨0, 0, Nat.zero_le _, rfl, rfl, rfl⟩
      case round =>
        obtain ⟨kk, n, hkk, rfl, rfl, rfl⟩ := hrel
        by_cases hl2 : kk < X.length
        · have hl2i : (kk : Int) < (X.length : Int) := by omega
          obtain ⟨bx, ox, ex, hxa, hxd, _⟩ := (unhide HXW) kk hl2
          obtain ⟨hya, hyd⟩ := unhide HYW
          have HSS := hide (anyK_succ (u := u) hl2)
          subst ex
          cases hs : anyK X u kk
          · by_cases ha : X[kk].at_ = u.at_
            · by_cases hd : X[kk].data = u.data
              · have HT : Hid (anyK X u (kk + 1) = true) := hide (by rw [unhide HSS, hs]; simp [upEq, ha, hd])
                rw [ha] at hxa
                rw [hd] at hxd
                clear ha hd hs
                go_wp2
                go_quiet (fail)
                go_wp2
                go_roundw
                case rel => exact ⟨kk + 1, _, by omega, by go_num, by rw [unhide HT], rfl⟩
                case measure => simp [intOf]; omega
              · have HT : Hid (anyK X u (kk + 1) = false) := hide (by rw [unhide HSS, hs]; simp [upEq, hd])
                have bd : (X[kk].data.toList == u.data.toList) = false := str_beq_false hd
                rw [ha] at hxa
                clear ha hd hs
                go_wp2
                go_quiet (fail)
                go_wp2
                go_roundw
                case rel => exact ⟨kk + 1, _, by omega, by go_num, by rw [unhide HT], rfl⟩
                case measure => simp [intOf]; omega
            · have HT : Hid (anyK X u (kk + 1) = false) := hide (by rw [unhide HSS, hs]; simp [upEq, ha])
              have bd : (X[kk].at_ == u.at_) = false := by simp [ha]
              clear ha hs
              go_wp2
              go_quiet (fail)
              go_wp2
              go_roundw
              case rel => exact ⟨kk + 1, _, by omega, by go_num, by rw [unhide HT], rfl⟩
              case measure => simp [intOf]; omega
          · have HT : Hid (anyK X u (kk + 1) = true) := hide (by rw [unhide HSS, hs]; rfl)
            clear hs
            go_wp2
            go_quiet (fail)
            go_wp2
            go_roundw
            case rel => exact ⟨kk + 1, _, by omega, by go_num, by rw [unhide HT], rfl⟩
            case measure => simp [intOf]; omega
        · obtain rfl : kk = X.length := by omega
          have HAL := hide (anyK_all X u)
          obtain ⟨hya, hyd⟩ := unhide HYW
          have HUN := hide ((unhide HU).next (Joins.below_draws _ wr n))
          have hya' : (wr.drewN n).cell? ⟨by_, oy + k * 2, none⟩ = some (.int .i64 u.at_) := hya
          have hyd' : (wr.drewN n).cell? ⟨by_, oy + k * 2 + 1, none⟩ = some (.string u.data) := hyd
          clear hya hyd
          cases hs : anyK X u X.length
          · have HNX : Hid (difK X Y (k + 1) = difK X Y k ++ [u]) := hide (by rw [unhide HSU, if_neg (by rw [← unhide HAL, hs]; simp)])
            clear hs
            generalize (wr.drewN n) = Wn at *
            have HUA := hide ((unhide HUN).next (Joins.below_alloc1 Wn (.cells #[.int .i64 u.at_, .string u.data] 43)))
            have HSZ := hide (unhide HUA).sz
            go_wp2_with (at_builtin; refine wpList_append_one rfl _ _ 28 rfl w2.heap.size 43 j0 (.agg #[.int .i64 0, .string ⟨#[]⟩]) 2 24 Tryz.underlying28 hj hy0 hy1 hy2 rfl (by omega) qo N qa (upsV (difK X Y k)) rfl (unhide HUA).o (unhide HSZ) ⟨Wn.heap.size, 0, none⟩ _ (upV u) rfl rfl (news2_at Wn _ u _ rfl) (upV_one _) (by unfold maxLen; omega) (by omega) ?_; intro g2 cap2 wA hoA hkA; have HU6 := hide (UpS.one (unhide HUA) hoA hkA); clear hoA hkA)
            go_roundw
            case rel => exact ⟨k + 1, N + 1, some ⟨g2, 0, none⟩, cap2, by omega, by omega, by go_num, rfl, by rw [unhide HNX]; exact HU6⟩
            case measure => simp [intOf]; omega
          · have HNX : Hid (difK X Y (k + 1) = difK X Y k) := hide (by rw [unhide HSU, if_pos (by rw [← unhide HAL, hs])])
            clear hs
            go_wp2
            go_roundw
            case rel => exact ⟨k + 1, N, qo, qa, by omega, by omega, by go_num, rfl, by rw [unhide HNX]; exact HUN⟩
            case measure => simp [intOf]; omega
    · obtain rfl : k = Y.length := by omega
      have hNl := (unhide HU).len
      have HF : Hid (UpS w wr qo R.length qa R) := hide (by
        have h := unhide HU
        rw [hNl, ← unhide HD] at h
        exact ⟨h.o.base (unhide HB2).size, fr (unhide HB2) h.k⟩)
      have HL2 : Hid (N = R.length) := hide (by rw [unhide HD]; exact hNl)
      clear hNl HU
      go_wp2
      go_ret
      rw [unhide HL2]
      exact ⟨qo, qa, rfl, unhide HF⟩

set_option maxHeartbeats 1600000 in
theorem diffUpdates_spec (a b : Im4) (ma mb : Img) (w : World) (hLa : ImL ma) (hLb : ImL mb) (h1 : ImS w a ma) (h2 : ImS w b mb) :
    Calls Tryz.prog 17 #[imV a ma, imV b mb] w fun e w' => ∃ qo qa, e = .returned (.tuple #[.slice qo (dfA ma mb).1.length qa, .int .i64 (dfA ma mb).2]) ∧ UpS w w' qo (dfA ma mb).1.length qa (dfA ma mb).1 := by
  have HA := hide (Joins.below_alloc2 w (.cells #[.slice a.ro ma.refs.length a.rc, .slice a.tq ma.table.length a.tc, .slice a.so ma.snaps.length a.sc, .slice a.dq ma.data.length a.dc] 26) (.cells #[.slice b.ro mb.refs.length b.rc, .slice b.tq mb.table.length b.tc, .slice b.so mb.snaps.length b.sc, .slice b.dq mb.data.length b.dc] 26))
  have HV := hide ((VarM.new w 26 (.slice a.ro ma.refs.length a.rc) (.slice a.tq ma.table.length a.tc) (.slice a.so ma.snaps.length a.sc) (.slice a.dq ma.data.length a.dc)).below (Joins.below_alloc1 _ (.cells #[.slice b.ro mb.refs.length b.rc, .slice b.tq mb.table.length b.tc, .slice b.so mb.snaps.length b.sc, .slice b.dq mb.data.length b.dc] 26)))
  have HU := hide ((VarM.new (w.alloc (.cells #[.slice a.ro ma.refs.length a.rc, .slice a.tq ma.table.length a.tc, .slice a.so ma.snaps.length a.sc, .slice a.dq ma.data.length a.dc] 26)) 26 (.slice b.ro mb.refs.length b.rc) (.slice b.tq mb.table.length b.tc) (.slice b.so mb.snaps.length b.sc) (.slice b.dq mb.data.length b.dc)).at (y := w.heap.size + 1) (by simp))
  have H1 := hide (h1.below (unhide HA))
  have H2 := hide (h2.below (unhide HA))
  have HLA := hide hLa
  have HLB := hide hLb
  clear h1 h2 hLa hLb
  obtain ⟨R, hRR⟩ : ∃ R, R = dfA ma mb := ⟨_, rfl⟩
  rw [← hRR]
  have HR := hide hRR
  clear hRR
  go_enter Tryz.func17, Tryz.ntmps17
  go_upto_region 1 with fail
  revert HA HV HU H1 H2
  generalize ((w.alloc _).alloc _) = W0
  intro HA HV HU H1 H2
  obtain ⟨c0, c1, c2, c3⟩ := (unhide HV).cells
  go_wp2_with fail
  refine (imageOK_spec a ma _ (unhide HLA) (unhide H1)).mono ?_
  rintro e w1 ⟨rfl, hb⟩
  have HB := hide hb
  clear hb c0 c1 c2 c3
  cases hia : imB ma
  · have HE : Hid (R = ([], 1)) := hide (by rw [unhide HR, dfA, hia]; rfl)
    have HF : Hid (UpS w (w1.alloc (.cells #[] 43)) (some ⟨w1.heap.size, 0, none⟩) 0 0 []) := hide ⟨.inl ⟨rfl, rfl, _, rfl⟩, fr (unhide HA) (fr (unhide HB) (Joins.below_alloc1 _ _))⟩
    go_wp2
    go_ret2
    rw [unhide HE]
    exact ⟨_, _, rfl, unhide HF⟩
  obtain ⟨c0, c1, c2, c3⟩ := ((unhide HU).below (unhide HB)).cells
  go_wp2_with fail
  refine (imageOK_spec b mb _ (unhide HLB) ((unhide H2).below (unhide HB))).mono ?_
  rintro e w2 ⟨rfl, hb⟩
  replace HB := hide (fr (unhide HB) hb)
  clear hb c0 c1 c2 c3
  cases hib : imB mb
  · have HE : Hid (R = ([], 1)) := hide (by rw [unhide HR, dfA, hia, hib]; rfl)
    have HF : Hid (UpS w (w2.alloc (.cells #[] 43)) (some ⟨w2.heap.size, 0, none⟩) 0 0 []) := hide ⟨.inl ⟨rfl, rfl, _, rfl⟩, fr (unhide HA) (fr (unhide HB) (Joins.below_alloc1 _ _))⟩
    go_wp2
    go_ret2
    rw [unhide HE]
    exact ⟨_, _, rfl, unhide HF⟩
  · have HE : Hid (R = (difU ma mb, 0)) := hide (by rw [unhide HR, dfA, hia, hib]; rfl)
    have HIA := hide (imB_iff.1 hia)
    have HIB := hide (imB_iff.1 hib)
    clear hia hib
    obtain ⟨c0, c1, c2, c3⟩ := ((unhide HV).below (unhide HB)).cells
    obtain ⟨d0, d1, d2, d3⟩ := ((unhide HU).below (unhide HB)).cells
    go_wp2_with fail
    refine (l11Diff_any a b ma mb _ (unhide HIA) (unhide HIB) ((unhide H1).below (unhide HB)) ((unhide H2).below (unhide HB))).mono ?_
    rintro e w3 ⟨qo, qa, rfl, hu⟩
    have HF : Hid (UpS w w3 qo (difU ma mb).length qa (difU ma mb)) := hide ⟨hu.o.base (fr (unhide HA) (unhide HB)).size, fr (fr (unhide HA) (unhide HB)) hu.k⟩
    clear hu c0 c1 c2 c3 d0 d1 d2 d3
    generalize difU ma mb = L at *
    go_wp2
    go_ret2
    rw [unhide HE]
    exact ⟨qo, qa, rfl, unhide HF⟩

end Go.Proofs.YthnpooffhopnkacGreatDoor

/- The contract of the model's ReadImage, given l11Read's. (Made ahead of stage 11.) -/
namespace Go.Proofs.YthnpooffhopnkacGreatDoor
open Go.RowKit
set_option linter.unusedVariables false
set_option maxRecDepth 100000

/-- What a host reads in a sector. -/
def secV (ss : List ByteArray) (xs : List Wr) (h : Int) (k : Nat) : ByteArray := readV ss xs h k
/-- What ReadImage answers. -/
def rdA (ss : List ByteArray) (xs : List Wr) (h : Int) : Img × Int := if hostC ss xs h = 0 then (if srB (secV ss xs h) = true then (srM (secV ss xs h), 0) else (im0, 18)) else (im0, hostC ss xs h)
/-- What l11Read answers. -/
def AnsR (W w' : World) (e : Ending) (sec : Nat → ByteArray) : Prop := ∃ a m ts, e = .returned (.tuple #[imV a m, .bool (srB sec)]) ∧ OwnIm w' W.heap.size a m ts ∧ (srB sec = true → m = srM sec) ∧ Below W.heap.size W w'

end Go.Proofs.YthnpooffhopnkacGreatDoor
