import Derived.Test.YtpdpnepnfhbonaaRows
import Derived.Test.YtpdpnepnfhbonaaXFormatPart1
import Derived.Test.YtpdpnepnfhbonaaXFormatPart3
import Derived.Test.YtpdpnepnfhbonaaXFormatPart4
import Derived.Test.YtpdpnepnfhbonaaXFormatPart7
import Derived.Test.YtpdpnepnfhbonaaXFormatPart6
import Derived.Laws.OwnMore
import Derived.WalkKit
import Derived.WalkSpells
import Derived.KernelRfl
import Derived.LoopN
import Derived.BigQuiet
import Derived.Deep.QuietTactic
import Derived.Test.YtpdpnepnfhbonaaXFormatPart2
import Derived.Test.YtpdpnepnfhbonaaXFormatPart5
import Derived.Deep.RegionWith
import Derived.Laws.CopyRow
import Derived.Laws.CopyOwn
import Derived.Deep.CutRange
import Derived.Laws.ResultCell
import Derived.Laws.Cover3
import Derived.Deep.MidRow
import Derived.Lib.ConvBytes

namespace Go.Proofs.Ytpdpnepnfhbonaa
open Go.RowKit
set_option linter.unusedVariables false
set_option maxRecDepth 100000

theorem infoUs : (Try.prog.info? 80).map (fun i => (i.zero, i.size, i.bytes)) = some (some (.agg #[.int .i64 0, .string ⟨#[]⟩]), 2, 24) := by kernel_rfl
theorem supL_take {m : Img} {k : Nat} (hk : k < m.snaps.length) : (supL m).take (k + 1 + 1) = (supL m).take (k + 1) ++ [nmN m.snaps[k].name] := by
  have hl : k + 1 < (supL m).length := by simp [supL]; exact hk
  rw [List.take_succ_eq_append_getElem hl]
  simp [supL]

set_option maxHeartbeats 1600000 in
theorem l11Super_any (a : Im4) (m : Img) (w : World) (hR : ImR m) (hc : ImS w a m) :
    Calls Try.prog 124 #[imV a m] w fun e w' => e = .returned (.string (sealS 1 (supL m))) ∧ Below w.heap.size w w' := by
  have HA := hide (Joins.below_alloc1 w (.cells #[.slice a.ro m.refs.length a.rc, .slice a.tq m.table.length a.tc, .slice a.so m.snaps.length a.sc, .slice a.dq m.data.length a.dc] 26))
  have HV := hide (VarM.new w 26 (.slice a.ro m.refs.length a.rc) (.slice a.tq m.table.length a.tc) (.slice a.so m.snaps.length a.sc) (.slice a.dq m.data.length a.dc))
  have HC := hide (hc.s.below (unhide HA))
  have HNS : Hid (∀ k (h : k < m.snaps.length), m.snaps[k].name.size ≤ 6) := hide (fun k h => (snm_parts (hR.snaps _ (List.getElem_mem h)).1).2.2)
  have HSU : Hid (∀ j (h : j < (supL m).length), 0 ≤ (supL m)[j] ∧ (supL m)[j] ≤ 2147483647) := hide (fun j h => by
    have := List.all_eq_true.1 (allB_snm hR) _ (List.getElem_mem h)
    simpa [numB, inB] using this)
  have hs3 := hR.few
  have HSL : Hid ((supL m).length = m.snaps.length + 1) := hide (by simp [supL])
  clear hc hR
  obtain ⟨j0, hj, hy0, hy1, hy2⟩ := info_parts infoM
  go_enter Try.func124, Try.ntmps124
  go_upto_region 1 with fail
  revert HA HV HC
  generalize (w.alloc _) = W0
  intro HA HV HC
  obtain ⟨c0, c1, c2, c3⟩ := (unhide HV).cells
  have H0 : Hid (OwnR (W0.alloc (.cells #[.int .i64 (m.snaps.length : Int)] 3)) W0.heap.size 3 1 (.slice (some ⟨W0.heap.size, 0, none⟩) 1 1) 1 (intV ((supL m).take 1)) ∧ Below W0.heap.size W0 (W0.alloc (.cells #[.int .i64 (m.snaps.length : Int)] 3))) := hide
    ⟨.inr ⟨by omega, by have := World.ownsRow_lit (base := W0.heap.size) (e := 3) (size := 1) W0 #[.int .i64 (m.snaps.length : Int)] 1 (Nat.le_refl _) (by unfold maxLen; omega) rfl; simpa [supL, intV] using this⟩, Joins.below_alloc1 _ _⟩
  go_wp2
  clear c0 c1 c2 c3
  go_loopw [3, 4] (fun o i wr => ∃ (k : Nat) (qo : Option Addr) (qa : Nat), k ≤ m.snaps.length ∧ i = .int .i64 k ∧ o = .slice qo (k + 1) qa ∧ Hid (OwnR wr W0.heap.size 3 1 (.slice qo (k + 1) qa) (k + 1) (intV ((supL m).take (k + 1))) ∧ Below W0.heap.size W0 wr)) (fun _ i _ => m.snaps.length - (intOf i).toNat)
  case atStart => exact ⟨0, _, _, Nat.zero_le _, rfl, rfl, H0⟩
  case round =>
    clear H0
    obtain ⟨k, qo, qa, hk, rfl, rfl, HO⟩ := hrel
    obtain ⟨c0, c1, c2, c3⟩ := ((unhide HV).below (unhide HO).2).cells
    by_cases hlt : k < m.snaps.length
    · obtain ⟨b, off, tq, tc, eb, hn0, _, _, _, _⟩ := ((unhide HC).below (unhide HO).2) k hlt
      rw [eb] at c2
      clear eb
      have hlti : (k : Int) < (m.snaps.length : Int) := by omega
      have HST : Hid (intV ((supL m).take (k + 1 + 1)) = intV ((supL m).take (k + 1)) ++ [.int .i64 (nmN m.snaps[k].name)]) := hide (by rw [supL_take hlt]; simp [intV])
      go_wp2_with fail
      refine (l11Name_any m.snaps[k].name _ (by have := unhide HNS k hlt; omega)).mono ?_
      rintro e w' ⟨rfl, hw⟩
      replace hw := hw.symm
      subst hw
      generalize nmN m.snaps[k].name = NN at *
      have HOA := hide ((unhide HO).1.below (Joins.below_alloc1 _ (.cells #[.int .i64 NN] 3)))
      have HBA := hide (fr (unhide HO).2 (Joins.below_alloc1 _ (.cells #[.int .i64 NN] 3)))
      have HSZ := hide (unhide HO).2.size
      go_wp2_with (at_builtin; refine wpList_append_one rfl _ _ 23 rfl W0.heap.size 3 j0 (.int .i64 0) 1 8 Try.underlying23 hj hy0 hy1 hy2 rfl (by omega) qo (k + 1) qa (intV ((supL m).take (k + 1))) rfl (unhide HOA) (by have := unhide HSZ; simp; omega) ⟨wr.heap.size, 0, none⟩ _ [.int .i64 NN] rfl rfl (byte_news wr _ _) (int_one _) (by unfold maxLen; omega) (by omega) ?_; intro g2 cap2 wA hoA hkA; have HSF := hide (And.intro hoA (keep_below (unhide HBA) (unhide HOA) (Nat.le_refl _) hkA)); clear hoA hkA)
      go_roundw
      case rel => exact ⟨k + 1, some ⟨g2, 0, none⟩, cap2, by omega, by go_num, rfl, hide ⟨.inr ⟨by omega, by rw [unhide HST]; exact (unhide HSF).1⟩, (unhide HSF).2⟩⟩
      case measure => simp [intOf]; omega
    · obtain rfl : k = m.snaps.length := by omega
      have HIS : Hid (Is wr qo (supL m)) := hide (by
        have h := (unhide HO).1
        rw [List.take_of_length_le (by rw [unhide HSL]; exact Nat.le_refl _), ← unhide HSL] at h
        exact ownRN h)
      have HCALL : Hid (Calls Try.prog 127 #[.int .i64 1, .slice qo (m.snaps.length + 1) qa] wr fun e w' => e = .returned (.string (sealS 1 (supL m))) ∧ Below wr.heap.size wr w') := hide (by
        rw [← unhide HSL]
        exact l02Seal_any 1 qo qa (supL m) wr (by omega) (by rw [unhide HSL]; omega) (unhide HSU) (unhide HIS))
      go_wp2_with fail
      refine (unhide HCALL).mono ?_
      rintro e w2 ⟨rfl, hb⟩
      have HB2 := hide (fr (unhide HA) (fr (unhide HO).2 hb))
      clear hb c0 c1 c2 c3
      go_wp2
      go_ret
      exact ⟨rfl, unhide HB2⟩

theorem tab_snoc {m : Img} {k : Nat} (hk : k < m.snaps.length) : tabU 0 (m.snaps.take (k + 1)) = tabU 0 (m.snaps.take k) ++ [⟨12 + (k : Int), encTb m.snaps[k].table⟩] := by
  rw [List.take_succ_eq_append_getElem hk, tabU_snoc, List.length_take, Nat.zero_add, Nat.min_eq_left (by omega)]
set_option maxHeartbeats 6400000 in
theorem l11All_any (a : Im4) (m : Img) (w : World) (hR : ImR m) (hc : ImS w a m) :
    Calls Try.prog 93 #[imV a m] w fun e w' => ∃ qo qa, e = .returned (.slice qo (allU m).length qa) ∧ UpS w w' qo (allU m).length qa (allU m) := by
  have HA := hide (Joins.below_alloc1 w (.cells #[.slice a.ro m.refs.length a.rc, .slice a.tq m.table.length a.tc, .slice a.so m.snaps.length a.sc, .slice a.dq m.data.length a.dc] 26))
  have HV := hide (VarM.new w 26 (.slice a.ro m.refs.length a.rc) (.slice a.tq m.table.length a.tc) (.slice a.so m.snaps.length a.sc) (.slice a.dq m.data.length a.dc))
  have HC := hide (hc.below (unhide HA))
  have HR := hide hR
  have hs3 := hR.few
  have HRL := hide hR.rl
  have HDL := hide hR.len
  clear hc hR
  obtain ⟨j0, hj, hy0, hy1, hy2⟩ := info_parts infoUs
  go_enter Try.func93, Try.ntmps93
  go_upto_region 1 with fail
  revert HA HV HC
  generalize (w.alloc _) = W0
  intro HA HV HC
  have HBD : Hid (Below W0.heap.size W0 W0.drew) := hide (Below.refl _ _).drew
  have hS0 : VarM W0.drew w.heap.size 26 (.slice a.ro m.refs.length a.rc) (.slice a.tq m.table.length a.tc) (.slice a.so m.snaps.length a.sc) (.slice a.dq m.data.length a.dc) := (unhide HV).below (unhide HBD)
  refine wp_region_ord (fun w' => VarM w' w.heap.size 26 (.slice a.ro m.refs.length a.rc) (.slice a.tq m.table.length a.tc) (.slice a.so m.snaps.length a.sc) (.slice a.dq m.data.length a.dc)) [0, 1, 2, 3, 4, 5, 6, 7, 8, 9, 10, 11, 12] [(0, 0), (3, 0), (4, 0), (7, 0), (8, 0), (1, 2), (2, 0), (5, 2), (6, 0), (9, 2), (10, 0), (11, 2), (12, 0)] (by kernel_rfl) (by kernel_rfl) rfl (by kernel_rfl) ?_
  refine ord_read (.agg #[.slice a.ro m.refs.length a.rc, .slice a.tq m.table.length a.tc, .slice a.so m.snaps.length a.sc, .slice a.dq m.data.length a.dc]) rfl rfl hS0 (fun W hW => by obtain ⟨k0, k1, k2, k3⟩ := hW.cells; go_simp) ?_
  refine ord_read (.pointer (some ⟨w.heap.size, 0, none⟩)) rfl rfl hS0 (fun W hW => by go_simp) ?_
  refine ord_read (.slice a.ro m.refs.length a.rc) rfl rfl hS0 (fun W hW => by obtain ⟨k0, k1, k2, k3⟩ := hW.cells; go_simp) ?_
  refine ord_read (.pointer (some ⟨w.heap.size, 1, none⟩)) rfl rfl hS0 (fun W hW => by go_simp) ?_
  refine ord_read (.slice a.tq m.table.length a.tc) rfl rfl hS0 (fun W hW => by obtain ⟨k0, k1, k2, k3⟩ := hW.cells; go_simp) ?_
  clear hS0
  refine ord_held rfl rfl ?_
  intro K hK
  unfold Oper.wp
  go_simp
  refine (l11Super_any a m _ (unhide HR) ((unhide HC).below (unhide HBD))).mono ?_
  rintro e w1 ⟨rfl, hb⟩
  have HB1 := hide (fr (unhide HBD) hb)
  clear hb
  refine hK _ _ ((unhide HV).below (unhide HB1)) ?_
  clear hK K
  refine ord_read (.agg #[.int .i64 9, .string (sealS 1 (supL m))]) rfl rfl ((unhide HV).below (unhide HB1)) (fun W hW => by go_simp) ?_
  refine ord_held rfl rfl ?_
  intro K hK
  unfold Oper.wp
  go_simp
  refine (l08Encode_any a.ro a.rc m.refs _ (unhide HR).refs ((unhide HC).r.below (unhide HB1))).mono ?_
  rintro e w2 ⟨rfl, hb⟩
  have HB2 := hide (fr (unhide HB1) hb)
  clear hb
  refine hK _ _ ((unhide HV).below (unhide HB2)) ?_
  clear hK K
  refine ord_read (.agg #[.int .i64 10, .string (encT m.refs)]) rfl rfl ((unhide HV).below (unhide HB2)) (fun W hW => by go_simp) ?_
  refine ord_held rfl rfl ?_
  intro K hK
  unfold Oper.wp
  go_simp
  refine (l09Encode_any a.tq a.tc m.table _ (unhide HR).table ((unhide HC).t.below (unhide HB2))).mono ?_
  rintro e w3 ⟨rfl, hb⟩
  have HB3 := hide (fr (unhide HB2) hb)
  clear hb
  refine hK _ _ ((unhide HV).below (unhide HB3)) ?_
  clear hK K
  refine ord_read (.agg #[.int .i64 11, .string (encTb m.table)]) rfl rfl ((unhide HV).below (unhide HB3)) (fun W hW => by go_simp) ?_
  have HB4 := hide (fr (unhide HB3) (Joins.below_alloc1 w3 (.cells #[.int .i64 9, .string (sealS 1 (supL m)), .int .i64 10, .string (encT m.refs), .int .i64 11, .string (encTb m.table)] 80)))
  have HU4 : Hid (UpS W0 (w3.alloc (.cells #[.int .i64 9, .string (sealS 1 (supL m)), .int .i64 10, .string (encT m.refs), .int .i64 11, .string (encTb m.table)] 80)) (some ⟨w3.heap.size, 0, none⟩) 3 3 (headU m)) := hide
    ⟨.inr ⟨by omega, World.ownsRow_lit (base := W0.heap.size) (e := 80) (size := 2) w3 #[.int .i64 9, .string (sealS 1 (supL m)), .int .i64 10, .string (encT m.refs), .int .i64 11, .string (encTb m.table)] 3 (unhide HB3).size (by unfold maxLen; omega) rfl⟩, unhide HB4⟩
  have HV4 := hide ((unhide HV).below (unhide HB4))
  refine ord_held rfl rfl ?_
  intro K hK
  unfold Oper.wp
  go_simp
  refine hK _ _ (unhide HV4) ?_
  clear hK K
  refine ord_read (.slice (some ⟨w3.heap.size, 0, none⟩) 3 3) rfl rfl (unhide HV4) (fun W hW => by go_simp) ?_
  refine ord_done ?_
  clear HB4 HV4
  revert HU4
  generalize w3.heap.size = g3
  generalize (w3.alloc _) = W4
  intro HU4
  clear HB1 HB2 HB3 HBD
  have HTS : Hid (∀ k (h : k < m.snaps.length), tbB m.snaps[k].table = true) := hide (fun k h => ((unhide HR).snaps _ (List.getElem_mem h)).2)
  go_wp2
  go_loopw [3, 4] (fun o i wr => ∃ (k : Nat) (qo : Option Addr) (qa : Nat), k ≤ m.snaps.length ∧ i = .int .i64 k ∧ o = .slice qo (3 + k) qa ∧ Hid (UpS W0 wr qo (3 + k) qa (headU m ++ tabU 0 (m.snaps.take k)))) (fun _ i _ => m.snaps.length - (intOf i).toNat)
  case atStart => exact ⟨0, _, _, Nat.zero_le _, rfl, rfl, by simpa [tabU] using HU4⟩
  case round =>
    clear HU4
    obtain ⟨k, qo, qa, hk, rfl, rfl, HU⟩ := hrel
    obtain ⟨c0, c1, c2, c3⟩ := ((unhide HV).below (unhide HU).k).cells
    by_cases hlt : k < m.snaps.length
    · obtain ⟨b, off, tq, tc, eb, _, ht0, hIs, _, _⟩ := ((unhide HC).s.below (unhide HU).k) k hlt
      rw [eb] at c2
      have HIS := hide hIs
      clear eb hIs
      have hlti : (k : Int) < (m.snaps.length : Int) := by omega
      have hw12 : IntKind.i64.wrap (12 + (k : Int)) = 12 + (k : Int) := by rw [IntKind.wrap_i64]; omega
      have HSN : Hid (headU m ++ tabU 0 (m.snaps.take (k + 1)) = headU m ++ tabU 0 (m.snaps.take k) ++ [⟨12 + (k : Int), encTb m.snaps[k].table⟩]) := hide (by rw [tab_snoc hlt, List.append_assoc])
      go_wp2_with fail
      refine (l09Encode_any tq tc m.snaps[k].table _ (unhide HTS k hlt) (unhide HIS)).mono ?_
      rintro e w5 ⟨rfl, hb⟩
      have HU5 := hide ((unhide HU).next hb)
      clear hb c0 c1 c2 c3 ht0 HIS
      generalize encTb m.snaps[k].table = TX at *
      have HUA := hide ((unhide HU5).next (Joins.below_alloc1 w5 (.cells #[.int .i64 (12 + (k : Int)), .string TX] 80)))
      have HSZ := hide (unhide HUA).sz
      go_wp2_with (at_builtin; refine wpList_append_one rfl _ _ 75 rfl W0.heap.size 80 j0 (.agg #[.int .i64 0, .string ⟨#[]⟩]) 2 24 Try.underlying75 hj hy0 hy1 hy2 rfl (by omega) qo (3 + k) qa (upsV (headU m ++ tabU 0 (m.snaps.take k))) rfl (unhide HUA).o (unhide HSZ) ⟨w5.heap.size, 0, none⟩ _ (upV ⟨12 + (k : Int), TX⟩) rfl rfl (news2_at w5 _ ⟨12 + (k : Int), TX⟩ _ rfl) (upV_one _) (by unfold maxLen; omega) (by omega) ?_; intro g2 cap2 wA hoA hkA; have HU6 := hide (UpS.one (unhide HUA) hoA hkA); clear hoA hkA)
      go_roundw
      case rel => exact ⟨k + 1, some ⟨g2, 0, none⟩, cap2, by omega, by go_num, rfl, by rw [unhide HSN]; exact HU6⟩
      case measure => simp [intOf]; omega
    · obtain rfl : k = m.snaps.length := by omega
      rw [List.take_length] at HU
      have HNN : Hid (3 + m.snaps.length = (headU m ++ tabU 0 m.snaps ++ dataU m 0).length ∧ headU m ++ tabU 0 m.snaps = headU m ++ tabU 0 m.snaps ++ dataU m 0) := hide (by
        have e : dataU m 0 = [] := rfl
        rw [e, List.append_nil, List.length_append, tabU_len]; exact ⟨rfl, rfl⟩)
      obtain ⟨N0, hN0⟩ : ∃ N0, N0 = 3 + m.snaps.length := ⟨_, rfl⟩
      have hN6 : N0 ≤ 6 := by omega
      rw [← hN0] at HU HNN ⊢
      rw [(unhide HNN).2] at HU
      clear hN0 hlt
      go_wp2
      clear c0 c1 c2 c3
      go_loopw [3, 5] (fun o i wr => ∃ (k N : Nat) (qo : Option Addr) (qa : Nat), k ≤ 24 ∧ N ≤ 6 + k ∧ i = .int .i64 k ∧ o = .slice qo N qa ∧ Hid (UpS W0 wr qo N qa (headU m ++ tabU 0 m.snaps ++ dataU m k))) (fun _ i _ => 24 - (intOf i).toNat)
      case atStart => exact ⟨0, N0, qo, qa, by omega, by omega, rfl, rfl, HU⟩
      case round =>
        clear HU HNN hN6
        obtain ⟨k, N, qo, qa, hk, hN, rfl, rfl, HU⟩ := hrel
        obtain ⟨c0, c1, c2, c3⟩ := ((unhide HV).below (unhide HU).k).cells
        by_cases hlt : k < 24
        · have hlti : (k : Int) < 24 := by omega
          have hkr : k < m.refs.length := by rw [unhide HRL]; exact hlt
          have hkd : k < m.data.length := by rw [unhide HDL]; exact hlt
          have hkri : (k : Int) < (m.refs.length : Int) := by omega
          have hkdi : (k : Int) < (m.data.length : Int) := by omega
          obtain ⟨br, or, er, hcr⟩ := ((unhide HC).r.below (unhide HU).k) k hkr
          rw [er] at c0
          by_cases hp : 0 < m.refs[k]
          · obtain ⟨bd, od, ed, hcd⟩ := ((unhide HC).d.below (unhide HU).k) k hkd
            rw [ed] at c3
            have HDS : Hid (headU m ++ tabU 0 m.snaps ++ dataU m (k + 1) = headU m ++ tabU 0 m.snaps ++ dataU m k ++ [⟨15 + (k : Int), sealS 4 [m.data[k]]⟩]) := hide (by
              rw [dataU_succ, ← List.append_assoc]
              congr 1
              unfold datU
              rw [if_pos (by simpa [List.getD, hkr] using hp)]
              simp [List.getD, hkd])
            have HNB : Hid (∀ j (h : j < [m.data[k]].length), 0 ≤ [m.data[k]][j] ∧ [m.data[k]][j] ≤ 2147483647) := hide (fun j h => by
              have hj : j = 0 := by simpa using h
              subst hj
              have := (unhide HR).nums _ (List.getElem_mem hkd)
              simpa [numB, inB] using this)
            have hw15 : IntKind.i64.wrap (15 + (k : Int)) = 15 + (k : Int) := by rw [IntKind.wrap_i64]; omega
            clear er ed
            generalize m.refs[k] = RV at *
            generalize m.data[k] = DV at *
            have HUB := hide ((unhide HU).next (Joins.below_alloc1 wr (.cells #[.int .i64 DV] 3)))
            go_wp2_with fail
            refine (l02Seal_any 4 (some ⟨wr.heap.size, 0, none⟩) 1 [DV] _ (by omega) (by simp) (unhide HNB) (is1 wr _ _ DV rfl)).mono ?_
            rintro e w5 ⟨rfl, hb⟩
            have HU5 := hide ((unhide HUB).next hb)
            clear hb c0 c1 c2 c3 hcr hcd HUB
            generalize sealS 4 [DV] = TX at *
            have HUA := hide ((unhide HU5).next (Joins.below_alloc1 w5 (.cells #[.int .i64 (15 + (k : Int)), .string TX] 80)))
            have HSZ := hide (unhide HUA).sz
            go_wp2_with (at_builtin; refine wpList_append_one rfl _ _ 75 rfl W0.heap.size 80 j0 (.agg #[.int .i64 0, .string ⟨#[]⟩]) 2 24 Try.underlying75 hj hy0 hy1 hy2 rfl (by omega) qo N qa (upsV (headU m ++ tabU 0 m.snaps ++ dataU m k)) rfl (unhide HUA).o (unhide HSZ) ⟨w5.heap.size, 0, none⟩ _ (upV ⟨15 + (k : Int), TX⟩) rfl rfl (news2_at w5 _ ⟨15 + (k : Int), TX⟩ _ rfl) (upV_one _) (by unfold maxLen; omega) (by omega) ?_; intro g2 cap2 wA hoA hkA; have HU6 := hide (UpS.one (unhide HUA) hoA hkA); clear hoA hkA)
            go_roundw
            case rel => exact ⟨k + 1, N + 1, some ⟨g2, 0, none⟩, cap2, by omega, by omega, by go_num, rfl, by rw [unhide HDS]; exact HU6⟩
            case measure => simp [intOf]; omega
          · have HDS : Hid (headU m ++ tabU 0 m.snaps ++ dataU m (k + 1) = headU m ++ tabU 0 m.snaps ++ dataU m k) := hide (by
              rw [dataU_succ]
              unfold datU
              rw [if_neg (by simpa [List.getD, hkr] using hp), List.append_nil])
            clear er
            generalize m.refs[k] = RV at *
            go_wp2
            go_roundw
            case rel => exact ⟨k + 1, N, qo, qa, by omega, by omega, by go_num, rfl, by rw [unhide HDS]; exact HU⟩
            case measure => simp [intOf]; omega
        · obtain rfl : k = 24 := by omega
          have hNl := (unhide HU).len
          have HF : Hid (UpS w wr qo (allU m).length qa (allU m)) := hide (by
            have h := unhide HU
            rw [hNl] at h
            exact ⟨h.o.base (unhide HA).size, fr (unhide HA) h.k⟩)
          have HL2 : Hid (N = (allU m).length) := hide hNl
          clear c0 c1 c2 c3 hNl HU
          go_wp2
          go_ret
          rw [unhide HL2]
          exact ⟨qo, qa, rfl, unhide HF⟩

end Go.Proofs.Ytpdpnepnfhbonaa

namespace Go.Proofs.Ytpdpnepnfhbonaa
open Go.RowKit
set_option linter.unusedVariables false
set_option maxRecDepth 100000

theorem tabU_sz : ∀ (ss : List Snp) (i : Nat), (∀ s ∈ ss, s.table.length ≤ 12) → ∀ u ∈ tabU i ss, u.data.size ≤ 80
  | [], i, _, u, hu => by simp [tabU] at hu
  | s :: ss, i, h, u, hu => by
    simp only [tabU, List.mem_cons] at hu
    rcases hu with rfl | hu
    · have := h s (by simp)
      have e : (encTb s.table).size = 4 + s.table.length * 4 := sealS_size 3 s.table
      simp only
      omega
    · exact tabU_sz ss (i + 1) (fun s hs => h s (by simp [hs])) u hu
theorem allU_sz {m : Img} (h : ImR m) : ∀ u ∈ allU m, u.data.size ≤ 80 := fun u hu => by
  unfold allU at hu
  rw [List.mem_append, List.mem_append] at hu
  rcases hu with (hu | hu) | hu
  · have h1 : (sealS 1 (supL m)).size = 4 + (supL m).length * 4 := sealS_size 1 _
    have h2 : (encT m.refs).size = 20 := sealS_size 2 (ctNs m.refs)
    have h3 : (encTb m.table).size = 4 + m.table.length * 4 := sealS_size 3 m.table
    have h4 : (supL m).length = m.snaps.length + 1 := by simp [supL]
    have h5 := h.few
    have h6 := tbB_len h.table
    simp only [headU, List.mem_cons, List.not_mem_nil, or_false] at hu
    rcases hu with rfl | rfl | rfl <;> simp only <;> omega
  · exact tabU_sz m.snaps 0 (fun s hs => tbB_len (h.snaps s hs).2) u hu
  · unfold dataU at hu
    obtain ⟨c, _, hc⟩ := List.mem_flatMap.1 hu
    unfold datU at hc
    split at hc
    · rw [List.mem_singleton] at hc
      subst hc
      have : (sealS 4 [m.data.getD c 0]).size = 8 := sealS_size 4 _
      simp only
      omega
    · simp at hc
end Go.Proofs.Ytpdpnepnfhbonaa

namespace Go.Proofs.Ytpdpnepnfhbonaa
open Go.RowKit
set_option linter.unusedVariables false
set_option maxRecDepth 100000

def fmW (h : Int) (us : List Up) : List Wr := us.map fun u => ⟨h, u.at_, u.data⟩
theorem fmW_len (h : Int) (us : List Up) : (fmW h us).length = us.length := by simp [fmW]
theorem fmW_succ {h : Int} {us : List Up} {k : Nat} (hk : k < us.length) (xs : List Wr) : xs ++ (fmW h us).take (k + 1) = xs ++ (fmW h us).take k ++ [⟨h, us[k].at_, us[k].data⟩] := by
  rw [List.take_succ_eq_append_getElem (by rw [fmW_len]; exact hk), List.append_assoc]
  simp [fmW]

theorem UpS.setC {W : World} {B : Nat} {qo : Option Addr} {n qa : Nat} {us : List Up} (h : OwnR W B 80 2 (.slice qo n qa) n (upsV us)) {x : Nat} (hx : x < B) (u v : Value) : OwnR ((W.setCell ⟨x, 0, none⟩ u).setCell ⟨x, 1, none⟩ v) B 80 2 (.slice qo n qa) n (upsV us) := (h.setCell (a := ⟨x, 0, none⟩) hx u).setCell (a := ⟨x, 1, none⟩) hx v

set_option maxHeartbeats 1600000 in
theorem l11Format_any (ao bo : Option Addr) (ca cb : Nat) (ss : List ByteArray) (xs : List Wr) (h : Int) (n : Nat) (S : List ByteArray) (Y : List Wr) (w : World) (hn : n ≤ 1000) (hR : ImR (imNew n)) (hd : diskB ss (xs ++ fmW h (allU (imNew n))) = true)
    (hS : putW ss (ofH h (xs ++ fmW h (allU (imNew n)))) = S) (hY : dropF h (xs ++ fmW h (allU (imNew n))) = Y) (h1 : Ss w ao ss) (h2 : Ios w bo xs) :
    Calls Try.prog 50 #[.agg #[.slice ao ss.length ca, .slice bo xs.length cb], .int .i64 h, .int .i64 n] w fun e w' => ∃ po pa qo qa, e = .returned (.agg #[.slice po ss.length pa, .slice qo Y.length qa]) ∧ OwnD w' w.heap.size po ss.length pa qo Y.length qa S Y ∧ Below w.heap.size w w' := by
  have HA := hide (Joins.below_alloc2 w (.cells #[.slice ao ss.length ca, .slice bo xs.length cb] 43) (.cells #[.slice none 0 0, .slice none 0 0] 43))
  have HR : Hid (VarD ((w.alloc (.cells #[.slice ao ss.length ca, .slice bo xs.length cb] 43)).alloc (.cells #[.slice none 0 0, .slice none 0 0] 43)) (w.heap.size + 1) (.slice none 0 0) (.slice none 0 0)) := hide (by have := VarD.new (w.alloc (.cells #[.slice ao ss.length ca, .slice bo xs.length cb] 43)) (.slice none 0 0) (.slice none 0 0); simpa using this)
  have H0 : Hid (DkA w ((w.alloc (.cells #[.slice ao ss.length ca, .slice bo xs.length cb] 43)).alloc (.cells #[.slice none 0 0, .slice none 0 0] 43)) w.heap.size ao ca bo cb ss xs) := hide ⟨(VarD.new w _ _).below (Joins.below_alloc1 _ _), h1.below (unhide HA), h2.below (unhide HA), unhide HA⟩
  have HIR := hide hR
  have HZA := hide (right_sz2 hd).2
  have HUZ : Hid (∀ u ∈ allU (imNew n), u.data.size ≤ maxLen) := hide (fun u hu => by have := allU_sz hR u hu; unfold maxLen; omega)
  have HDB := hide hd
  have HS := hide hS
  have HY := hide hY
  have hln : xs.length + (allU (imNew n)).length ≤ 200 := by have := (diskB_len hd).2; rw [List.length_append, fmW_len] at this; omega
  clear hR hd hS hY h1 h2
  go_enter Try.func50, Try.ntmps50
  go_upto_region 1 with fail
  revert H0
  revert HR
  revert HA
  generalize hW0 : ((w.alloc _).alloc _) = W0
  have hsz0 : w.heap.size + 1 < W0.heap.size := by rw [← hW0]; simp
  clear hW0
  intro HA HR H0
  go_wp2_with fail
  refine (l10New_any n _ hn).mono ?_
  rintro e w1 ⟨a, rfl, ho1, hb1⟩
  have HI1 := hide (ho1.shows (fun s hs => by cases hs))
  have HB1 := hide hb1
  clear ho1 hb1
  go_wp2_with fail
  refine (l11All_any a (imNew n) _ (unhide HIR) (unhide HI1)).mono ?_
  rintro e w2 ⟨uo, ua, rfl, hu⟩
  have HB2 := hide (fr (unhide HB1) hu.k)
  have HU2 := hide (hu.o.base (unhide HB1).size)
  clear hu HI1 HB1 HIR
  revert hln
  revert HY
  revert HS
  revert HDB
  revert HUZ
  revert HZA
  revert HU2
  generalize allU (imNew n) = us
  intro HU2 HZA HUZ HDB HS HY hln
  have HD2 := hide ((unhide H0).next (unhide HB2))
  have HR2 := hide ((unhide HR).below (unhide HB2))
  clear HB2 HA H0 HR
  go_wp2
  go_loopw [8] (fun i wr => ∃ (k : Nat) (XX : List Wr) (qo : Option Addr) (qa : Nat), k ≤ us.length ∧ i = .int .i64 k ∧ Hid (xs ++ (fmW h us).take k = XX) ∧ Hid (DkA w wr w.heap.size ao ca qo qa ss XX) ∧ Hid (VarD wr (w.heap.size + 1) (.slice none 0 0) (.slice none 0 0)) ∧ Hid (OwnR wr W0.heap.size 80 2 (.slice uo us.length ua) us.length (upsV us))) (fun i _ => us.length - (intOf i).toNat)
  case atStart => exact ⟨0, xs, bo, cb, Nat.zero_le _, rfl, hide (by simp), HD2, HR2, HU2⟩
  case round =>
    clear HD2 HR2 HU2
    obtain ⟨k, XX, qo, qa, hk, rfl, HE, HD, HR, HU⟩ := hrel
    by_cases hlt : k < us.length
    · have HN : Hid (xs ++ (fmW h us).take (k + 1) = XX ++ [⟨h, us[k].at_, us[k].data⟩]) := hide (by rw [fmW_succ hlt, unhide HE])
      have hXl : XX.length < 200 := by rw [← unhide HE, List.length_append, List.length_take, fmW_len]; omega
      have HZ : Hid (∀ y ∈ XX ++ [(⟨h, us[k].at_, us[k].data⟩ : Wr)], y.data.size ≤ maxLen) := hide (fun y hy => by
        rw [← unhide HN] at hy
        refine unhide HZA y ?_
        rcases List.mem_append.1 hy with h1 | h1
        · exact List.mem_append_left _ h1
        · exact List.mem_append_right _ (List.mem_of_mem_take h1))
      have hki : (k : Int) < (us.length : Int) := by omega
      have HUS := hide (ownUps (unhide HU) (unhide HUZ))
      obtain ⟨b, off, rfl, _, _, _⟩ := unhide HUS k hlt
      go_upto_region 5 with fail
      have hS0 : Below wr.heap.size wr wr.drew := (Below.refl _ _).drew
      have HCL : Hid (∀ W, Below wr.heap.size wr W → W.cell? ⟨w.heap.size, 0, none⟩ = some (.slice ao ss.length ca) ∧ W.cell? ⟨w.heap.size, 1, none⟩ = some (.slice qo XX.length qa) ∧ W.cell? ⟨b, off + k * 2, none⟩ = some (.int .i64 us[k].at_) ∧ W.cell? ⟨b, off + k * 2 + 1, none⟩ = some (.string us[k].data)) := hide (fun W hW => by
        obtain ⟨d0, d1⟩ := ((unhide HD).next hW).v.cells
        obtain ⟨b', off', e, c0, c1, _⟩ := (unhide HUS).below hW k hlt
        cases e
        exact ⟨d0, d1, c0, c1⟩)
      refine wp_region_ord (fun w' => Below wr.heap.size wr w') [0, 1, 2, 3, 4, 5, 6, 7, 8, 9, 10, 11, 12] [(0, 0), (1, 0), (2, 0), (3, 0), (4, 0), (5, 0), (6, 0), (7, 0), (8, 0), (9, 0), (10, 0), (11, 0), (12, 0), (13, 3), (14, 3)] (by kernel_rfl) (by kernel_rfl) rfl (by kernel_rfl) ?_
      refine ord_read (.agg #[.slice ao ss.length ca, .slice qo XX.length qa]) rfl rfl hS0 (fun W hW => by obtain ⟨k0, k1, k2, k3⟩ := unhide HCL W hW; go_simp) ?_
      refine ord_read (.int .i64 h) rfl rfl hS0 (fun W hW => by go_simp) ?_
      refine ord_read (.slice (some ⟨b, off, none⟩) us.length ua) rfl rfl hS0 (fun W hW => by go_simp) ?_
      refine ord_read (.int .i64 k) rfl rfl hS0 (fun W hW => by go_simp) ?_
      refine ord_read (.pointer (some ⟨b, off + k * 2, none⟩)) rfl rfl hS0 (fun W hW => by go_simp) ?_
      refine ord_read (.pointer (some ⟨b, off + k * 2, none⟩)) rfl rfl hS0 (fun W hW => by go_simp) ?_
      refine ord_read (.int .i64 us[k].at_) rfl rfl hS0 (fun W hW => by obtain ⟨k0, k1, k2, k3⟩ := unhide HCL W hW; go_simp) ?_
      refine ord_read (.slice (some ⟨b, off, none⟩) us.length ua) rfl rfl hS0 (fun W hW => by go_simp) ?_
      refine ord_read (.int .i64 k) rfl rfl hS0 (fun W hW => by go_simp) ?_
      refine ord_read (.pointer (some ⟨b, off + k * 2, none⟩)) rfl rfl hS0 (fun W hW => by go_simp) ?_
      refine ord_read (.pointer (some ⟨b, off + k * 2 + 1, none⟩)) rfl rfl hS0 (fun W hW => by go_simp) ?_
      refine ord_read (.string us[k].data) rfl rfl hS0 (fun W hW => by obtain ⟨k0, k1, k2, k3⟩ := unhide HCL W hW; go_simp) ?_
      refine ord_read (.agg #[.int .i64 h, .int .i64 us[k].at_, .string us[k].data]) rfl rfl hS0 (fun W hW => by go_simp) ?_
      refine ord_alone rfl rfl ?_
      intro K hK
      unfold Oper.wp
      go_simp
      refine (l01Write_len ao qo ss.length XX.length ca qa XX ⟨h, us[k].at_, us[k].data⟩ _ rfl (by omega) ((unhide HD).i.below hS0) (unhide HZ)).mono ?_
      rintro e w3 ⟨g3, cap3, rfl, hi3, hb3⟩
      have HB3 := hide (fr hS0 hb3)
      have HI3 := hide hi3
      clear hi3 hb3
      refine hK _ _ ?_
      clear hK K
      have HD3 := hide ((unhide HD).next (unhide HB3))
      have HR3 := hide ((unhide HR).below (unhide HB3))
      have HU3 := hide ((unhide HU).below (unhide HB3))
      obtain ⟨e0, e1⟩ := (unhide HD3).v.cells
      have f0 := (unhide HD3).v.free 0
      have f1 := (unhide HD3).v.free 1
      refine ord_alone rfl rfl ?_
      intro K hK
      unfold Oper.wp
      go_simp
      refine hK _ _ ?_
      clear hK K
      refine ord_done ?_
      have HP : Hid (DkA w ((w3.setCell ⟨w.heap.size, 0, none⟩ (.slice ao ss.length ca)).setCell ⟨w.heap.size, 1, none⟩ (.slice (some ⟨g3, 0, none⟩) (XX.length + 1) cap3)) w.heap.size ao ca (some ⟨g3, 0, none⟩) cap3 ss (XX ++ [⟨h, us[k].at_, us[k].data⟩])) := hide ((unhide HD3).put (Nat.le_refl _) rfl (by simp) (unhide HD3).s (unhide HI3))
      have HRP := hide (((unhide HR3).apart (y := w.heap.size) (by omega) 0 (.slice ao ss.length ca)).apart (y := w.heap.size) (by omega) 1 (.slice (some ⟨g3, 0, none⟩) (XX.length + 1) cap3))
      have HUP := hide (UpS.setC (unhide HU3) (x := w.heap.size) (by omega) (.slice ao ss.length ca) (.slice (some ⟨g3, 0, none⟩) (XX.length + 1) cap3))
      clear e0 e1 f0 f1 HD3 HR3 HU3 HB3 HI3 hS0 HCL HUS HD HR HU HZ HE
      go_wp2
      go_roundw
      case rel => exact ⟨k + 1, _, _, _, by omega, by go_num, HN, HP, HRP, HUP⟩
      case measure => simp [intOf]; omega
    · obtain rfl : k = us.length := by omega
      have hXX : xs ++ fmW h us = XX := by have := unhide HE; rwa [List.take_of_length_le (by rw [fmW_len]; exact Nat.le_refl _)] at this
      clear HE
      rw [hXX] at HS HY HDB
      clear hXX HZA
      obtain ⟨d0, d1⟩ := (unhide HD).v.cells
      go_wp2_with fail
      refine (l01Flush_put ao qo ca qa ss XX h ss.length XX.length S Y _ rfl rfl (unhide HS) (unhide HY) (unhide HDB) (unhide HD).s (unhide HD).i).mono ?_
      rintro e w3 ⟨po3, pa3, qo3, qa3, rfl, ho, hb⟩
      have HR3 := hide ((unhide HR).below hb)
      obtain ⟨r0, r1⟩ := (unhide HR3).cells
      have rf0 := (unhide HR3).free 0
      have rf1 := (unhide HR3).free 1
      have HO := hide (fun u v => md_end (unhide HR3) (fr (unhide HD).k hb) (Nat.le_succ _) (ho.base (unhide HD).k.size) u v)
      clear ho hb d0 d1
      go_wp2
      refine bodyPost_ret (v := .agg #[.slice po3 ss.length pa3, .slice qo3 Y.length qa3]) (by simp [results, Try.results50, go_sem, r0, r1]) rfl ?_
      exact ⟨po3, pa3, qo3, qa3, rfl, unhide HO _ _⟩

end Go.Proofs.Ytpdpnepnfhbonaa

namespace Go.Proofs.Ytpdpnepnfhbonaa
open Go.RowKit
set_option linter.unusedVariables false
set_option maxRecDepth 100000

def fuW (h : Int) (n : Nat) : List Wr := fmW h (allU (imNew n))
def foC (ss : List ByteArray) (xs : List Wr) (h n : Int) : Int := if hostC ss xs h = 0 then (if inB n 0 12 = true then (if 200 < xs.length + 3 then 7 else 0) else 4) else hostC ss xs h
def foS (ss : List ByteArray) (xs : List Wr) (h n : Int) : List ByteArray := if hostC ss xs h = 0 then (if inB n 0 12 = true then (if 200 < xs.length + 3 then ss else putW ss (ofH h (xs ++ fuW h n.toNat))) else []) else []
def foX (ss : List ByteArray) (xs : List Wr) (h n : Int) : List Wr := if hostC ss xs h = 0 then (if inB n 0 12 = true then (if 200 < xs.length + 3 then xs else dropF h (xs ++ fuW h n.toNat)) else []) else []
theorem fo_bad {ss : List ByteArray} {xs : List Wr} {h n : Int} (hc : ¬ hostC ss xs h = 0) : foS ss xs h n = [] ∧ foX ss xs h n = [] ∧ foC ss xs h n = hostC ss xs h := by simp [foS, foX, foC, hc]
theorem fo_range {ss : List ByteArray} {xs : List Wr} {h n : Int} (hc : hostC ss xs h = 0) (hp : inB n 0 12 = false) : foS ss xs h n = [] ∧ foX ss xs h n = [] ∧ foC ss xs h n = 4 := by simp [foS, foX, foC, hc, hp]
theorem fo_full {ss : List ByteArray} {xs : List Wr} {h n : Int} (hc : hostC ss xs h = 0) (hp : inB n 0 12 = true) (hf : 200 < xs.length + 3) : foS ss xs h n = ss ∧ foX ss xs h n = xs ∧ foC ss xs h n = 7 := by simp [foS, foX, foC, hc, hp, hf]
theorem fo_ok {ss : List ByteArray} {xs : List Wr} {h : Int} {n : Nat} (hc : hostC ss xs h = 0) (hp : inB n 0 12 = true) (hf : ¬ 200 < xs.length + 3) : foS ss xs h n = putW ss (ofH h (xs ++ fuW h n)) ∧ foX ss xs h n = dropF h (xs ++ fuW h n) ∧ foC ss xs h n = 0 := by simp [foS, foX, foC, hc, hp, hf]
theorem allU_new (n : Nat) : allU (imNew n) = headU (imNew n) := by
  have e : dataU (imNew n) 24 = [] := by rfl
  unfold allU
  rw [e]
  simp [imNew, tabU]
theorem fuW_len (h : Int) (n : Nat) : (fuW h n).length = 3 := by rw [fuW, fmW_len, allU_new]; rfl
theorem fuW_right {ss : List ByteArray} {xs : List Wr} {h : Int} {n : Nat} (hd : diskB ss xs = true) (hh : 0 ≤ h ∧ h ≤ 3) (hn : n ≤ 12) (hl : xs.length + 3 ≤ 200) : diskB ss (xs ++ fuW h n) = true := by
  obtain ⟨⟨a1, a2⟩, a3, a4⟩ := diskB_parts.1 hd
  refine diskB_parts.2 ⟨⟨a1, a2⟩, by rw [List.length_append, fuW_len]; exact hl, fun y hy => ?_⟩
  rcases List.mem_append.1 hy with h1 | h1
  · exact a4 y h1
  · unfold fuW fmW at h1
    obtain ⟨u, hu, rfl⟩ := List.mem_map.1 h1
    refine ioB_parts.2 ⟨hh, ?_, allU_sz (ImR.new hn) u hu⟩
    rw [allU_new] at hu
    simp only [headU, List.mem_cons, List.not_mem_nil, or_false] at hu
    rcases hu with rfl | rfl | rfl <;> simp

set_option maxHeartbeats 1600000 in
theorem format_spec (ao bo : Option Addr) (ca cb : Nat) (ss : List ByteArray) (xs : List Wr) (h k : Int) (w : World) (hl : ss.length ≤ maxLen) (hm : xs.length ≤ maxLen) (h1 : Ss w ao ss) (h2 : Ios w bo xs) :
    Calls Try.prog 18 #[.agg #[.slice ao ss.length ca, .slice bo xs.length cb], .int .i64 h, .int .i64 k] w fun e w' => ∃ po pa qo qa, e = .returned (.tuple #[.agg #[.slice po (foS ss xs h k).length pa, .slice qo (foX ss xs h k).length qa], .int .i64 (foC ss xs h k)]) ∧ OwnD w' w.heap.size po (foS ss xs h k).length pa qo (foX ss xs h k).length qa (foS ss xs h k) (foX ss xs h k) ∧ Below w.heap.size w w' := by
  have HA := hide (Joins.below_alloc2 w (.cells #[.slice ao ss.length ca, .slice bo xs.length cb] 43) (.cells #[.slice none 0 0, .slice none 0 0] 43))
  have H1 := hide (h1.below (unhide HA))
  have H2 := hide (h2.below (unhide HA))
  have HV := hide ((VarD.new w (.slice ao ss.length ca) (.slice bo xs.length cb)).below (Joins.below_alloc1 _ (.cells #[.slice none 0 0, .slice none 0 0] 43)))
  have HR : Hid (VarD ((w.alloc (.cells #[.slice ao ss.length ca, .slice bo xs.length cb] 43)).alloc (.cells #[.slice none 0 0, .slice none 0 0] 43)) (w.heap.size + 1) (.slice none 0 0) (.slice none 0 0)) := hide (by have := VarD.new (w.alloc (.cells #[.slice ao ss.length ca, .slice bo xs.length cb] 43)) (.slice none 0 0) (.slice none 0 0); simpa using this)
  have HL := hide hl
  have HM := hide hm
  have HQ := hide (ask_zero ss xs h)
  clear h1 h2 hl hm
  by_cases hc : hostC ss xs h = 0
  · have hb : (askC ss xs h 0 != 0) = false := by rw [unhide HQ]; simp [hc]
    have HD := hide (hostC_eq hc).1
    have HHB := hide (hostC_eq hc).2
    have HC := hide hc
    have HLS : Hid (ss.length ≤ 1048576) := hide (by have := (diskB_len (unhide HD)).1; omega)
    have hlx := (diskB_len (unhide HD)).2
    clear hc
    cases hp : inB k 0 12
    · have HW := hide (fo_range (unhide HC) hp)
      go_enter Try.func18, Try.ntmps18
      go_wp2_with fail
      refine (l01Ask_any _ _ _ _ ss xs h 0 _ (unhide HL) (unhide HM) (unhide H1) (unhide H2)).mono ?_
      rintro e w1 ⟨rfl, hb1⟩
      have HR1 := hide ((unhide HR).below hb1)
      have HB1 := hide (fr (unhide HA) hb1)
      clear hb1
      obtain ⟨hr0, hr1⟩ := (unhide HR1).cells
      have hr2 := (unhide HR1).free 0
      have hr3 := (unhide HR1).free 1
      have HE := hide (zero_end (w := w) (wL := w1) (unhide HB1) (.slice none 0 0) (.slice none 0 0))
      go_wp2_with fail
      refine (l01In_any _ _ _ _).mono ?_
      rintro e w' ⟨rfl, rfl⟩
      go_wp2
      obtain ⟨e1, e2, e3⟩ := unhide HW
      rw [e1, e2, e3]
      exact bodyPost_ret (v := .tuple #[.agg #[.slice none 0 0, .slice none 0 0], .int .i64 4]) (by simp [results, Try.results18, go_sem, hr0, hr1]) rfl ⟨none, 0, none, 0, rfl, zeroD_own, unhide HE⟩
    · obtain ⟨hk0, hk1⟩ := inB_eq hp
      obtain ⟨n, rfl⟩ : ∃ n : Nat, k = (n : Int) := ⟨k.toNat, by omega⟩
      have hn : n ≤ 12 := by omega
      have wr1 : IntKind.i64.wrap ((xs.length : Int) + 3) = (xs.length : Int) + 3 := by rw [IntKind.wrap_i64]; omega
      by_cases hf : 200 < xs.length + 3
      · have HW := hide (fo_full (unhide HC) hp hf)
        have hfi : (xs.length : Int) + 3 > 200 := by omega
        go_enter Try.func18, Try.ntmps18
        go_wp2_with fail
        refine (l01Ask_any _ _ _ _ ss xs h 0 _ (unhide HL) (unhide HM) (unhide H1) (unhide H2)).mono ?_
        rintro e w1 ⟨rfl, hb1⟩
        have HV1 := hide ((unhide HV).below hb1)
        have HR1 := hide ((unhide HR).below hb1)
        have HB1 := hide (fr (unhide HA) hb1)
        have HS1 := hide ((unhide H1).below hb1)
        have HX1 := hide ((unhide H2).below hb1)
        clear hb1
        obtain ⟨hv0, hv1⟩ := (unhide HV1).cells
        go_wp2_with fail
        refine (l01In_any _ _ _ _).mono ?_
        rintro e w' ⟨rfl, rfl⟩
        go_wp2_with fail
        refine (l01Own_any ao bo ca cb ss xs _ (unhide HLS) (by omega) (unhide HS1) (unhide HX1)).mono ?_
        rintro e w2 ⟨po, pa, qo, qa, rfl, ho, hb2⟩
        have HR2 := hide ((unhide HR1).below hb2)
        obtain ⟨r0, r1⟩ := (unhide HR2).cells
        have rf0 := (unhide HR2).free 0
        have rf1 := (unhide HR2).free 1
        have HO := hide (fun u v => md_end (unhide HR2) (fr (unhide HB1) hb2) (Nat.le_succ _) (ho.base (unhide HB1).size) u v)
        clear ho hb2 hv0 hv1
        go_wp2
        refine bodyPost_ret (v := .tuple #[.agg #[.slice po ss.length pa, .slice qo xs.length qa], .int .i64 7]) (by simp [results, Try.results18, go_sem, r0, r1]) rfl ?_
        rw [(unhide HW).1, (unhide HW).2.1, (unhide HW).2.2]
        exact ⟨po, pa, qo, qa, rfl, unhide HO _ _⟩
      · have HW := hide (fo_ok (unhide HC) hp hf)
        have hfi : ¬ ((xs.length : Int) + 3 > 200) := by omega
        have HP := hide (fuW_right (n := n) (unhide HD) (unhide HHB) hn (by omega))
        have HSL : Hid ((putW ss (ofH h (xs ++ fuW h n))).length = ss.length) := hide (put_len ss _)
        have HSZ := hide (right_sz2 (S := putW ss (ofH h (xs ++ fuW h n))) (X := dropF h (xs ++ fuW h n)) (diskB_put (unhide HP) (fun x hx => of_mem hx) (fun x hx => drop_mem hx) (drop_le h (xs ++ fuW h n))))
        have HYL : Hid ((dropF h (xs ++ fuW h n)).length ≤ 1048576) := hide (by have := drop_le h (xs ++ fuW h n); rw [List.length_append, fuW_len] at this; omega)
        obtain ⟨S, HES⟩ : ∃ S, Hid (putW ss (ofH h (xs ++ fuW h n)) = S) := ⟨_, hide rfl⟩
        obtain ⟨Y, HEY⟩ : ∃ Y, Hid (dropF h (xs ++ fuW h n) = Y) := ⟨_, hide rfl⟩
        rw [unhide HES] at HSL HSZ HW
        rw [unhide HEY] at HSZ HW HYL
        go_enter Try.func18, Try.ntmps18
        go_wp2_with fail
        refine (l01Ask_any _ _ _ _ ss xs h 0 _ (unhide HL) (unhide HM) (unhide H1) (unhide H2)).mono ?_
        rintro e w1 ⟨rfl, hb1⟩
        have HV1 := hide ((unhide HV).below hb1)
        have HR1 := hide ((unhide HR).below hb1)
        have HB1 := hide (fr (unhide HA) hb1)
        have HS1 := hide ((unhide H1).below hb1)
        have HX1 := hide ((unhide H2).below hb1)
        clear hb1
        obtain ⟨hv0, hv1⟩ := (unhide HV1).cells
        go_wp2_with fail
        refine (l01In_any _ _ _ _).mono ?_
        rintro e w' ⟨rfl, rfl⟩
        go_wp2_with fail
        refine (l11Format_any ao bo ca cb ss xs h n S Y _ (by omega) (ImR.new hn) (unhide HP) (unhide HES) (unhide HEY) (unhide HS1) (unhide HX1)).mono ?_
        rintro e w2 ⟨po2, pa2, qo2, qa2, rfl, ho2, hb2⟩
        rw [← unhide HSL] at ho2
        have HO2 := hide ho2
        have HB2 := hide (fr (unhide HB1) hb2)
        have HR2 := hide ((unhide HR1).below hb2)
        clear ho2 hb2 hv0 hv1
        rw [← unhide HSL]
        go_wp2_with fail
        refine (l01Own_any po2 qo2 pa2 qa2 S Y _ (by rw [unhide HSL]; exact unhide HLS) (unhide HYL) ((unhide HO2).ss (unhide HSZ).1) ((unhide HO2).ios (unhide HSZ).2)).mono ?_
        rintro e w3 ⟨po, pa, qo, qa, rfl, ho, hb3⟩
        have HR3 := hide ((unhide HR2).below hb3)
        obtain ⟨r0, r1⟩ := (unhide HR3).cells
        have rf0 := (unhide HR3).free 0
        have rf1 := (unhide HR3).free 1
        have HO := hide (fun u v => md_end (unhide HR3) (fr (unhide HB2) hb3) (Nat.le_succ _) (ho.base (unhide HB2).size) u v)
        clear ho hb3
        go_wp2
        refine bodyPost_ret (v := .tuple #[.agg #[.slice po S.length pa, .slice qo Y.length qa], .int .i64 0]) (by simp [results, Try.results18, go_sem, r0, r1]) rfl ?_
        rw [(unhide HW).1, (unhide HW).2.1, (unhide HW).2.2]
        exact ⟨po, pa, qo, qa, rfl, unhide HO _ _⟩
  · have hb : (askC ss xs h 0 != 0) = true := by rw [unhide HQ]; simp [hc]
    obtain ⟨e1, e2, e3⟩ := fo_bad (n := k) hc
    rw [e1, e2, e3]
    clear e1 e2 e3 hc
    go_enter Try.func18, Try.ntmps18
    go_wp2_with fail
    refine (l01Ask_any _ _ _ _ ss xs h 0 _ (unhide HL) (unhide HM) (unhide H1) (unhide H2)).mono ?_
    rintro e w1 ⟨rfl, hb1⟩
    have HR1 := hide ((unhide HR).below hb1)
    have HB1 := hide (fr (unhide HA) hb1)
    clear hb1
    obtain ⟨hr0, hr1⟩ := (unhide HR1).cells
    have hr2 := (unhide HR1).free 0
    have hr3 := (unhide HR1).free 1
    have HE := hide (zero_end (w := w) (wL := w1) (unhide HB1) (.slice none 0 0) (.slice none 0 0))
    go_wp2
    exact bodyPost_ret (v := .tuple #[.agg #[.slice none 0 0, .slice none 0 0], .int .i64 (hostC ss xs h)]) (by simp [results, Try.results18, go_sem, hr0, hr1, unhide HQ]) rfl ⟨none, 0, none, 0, rfl, zeroD_own, unhide HE⟩

end Go.Proofs.Ytpdpnepnfhbonaa

namespace Go.Proofs.Ytpdpnepnfhbonaa
open Go.RowKit
set_option linter.unusedVariables false

theorem wi_end {w w3 : World} {v g k cap n pa : Nat} {po : Option Addr} {ss : List ByteArray} {xs' : List Wr} {x y : Value} (hS : OwnR w3 (w.heap.size + 2) 9 1 (.slice po n pa) n (strV ss)) (hI : OwnR w3 (w.heap.size + 2) 113 3 (.slice (some ⟨g, 0, none⟩) k cap) k (ioV xs')) (hv : VarD w3 v x y) (hb : Below w.heap.size w w3) (hvw : w.heap.size ≤ v) (a b c : Value) :
    OwnD (((w3.setCell ⟨v, 1, none⟩ a).setCell ⟨w.heap.size + 1, 0, none⟩ b).setCell ⟨w.heap.size + 1, 1, none⟩ c) w.heap.size po n pa (some ⟨g, 0, none⟩) k cap ss xs' ∧ Below w.heap.size w (((w3.setCell ⟨v, 1, none⟩ a).setCell ⟨w.heap.size + 1, 0, none⟩ b).setCell ⟨w.heap.size + 1, 1, none⟩ c) := by
  have hk : Keep (fun j => j = v) w3 (w3.setCell ⟨v, 1, none⟩ a) := Keep.setCell (S := fun j => j = v) (Keep.refl _ _) (p := ⟨v, 1, none⟩) rfl a
  have h1 : OwnD (w3.setCell ⟨v, 1, none⟩ a) (w.heap.size + 2) po n pa (some ⟨g, 0, none⟩) k cap ss xs' := ⟨hS.keep hk (fun j hj e => hS.other hv (by decide) (e ▸ hj)), hI.keep hk (fun j hj e => hI.other hv (by decide) (e ▸ hj))⟩
  exact copyD_end h1 (hb.setCell (p := ⟨v, 1, none⟩) hvw a) b c

set_option maxRecDepth 100000 in
set_option maxHeartbeats 800000 in
theorem writeSector_impl_range (ao bo : Option Addr) (ca cb : Nat) (ss : List ByteArray) (xs : List Wr) (h a : Int) (d : ByteArray) (w : World) (hz : d.size ≤ maxLen) (hl : ss.length ≤ maxLen) (hm : xs.length ≤ maxLen) (h1 : Ss w ao ss) (h2 : Ios w bo xs) (hlong : ¬ 65536 < d.size) (hask : askC ss xs h a = 0) (hbig : 80 < d.size) :
    Calls Try.prog 58 #[.agg #[.slice ao ss.length ca, .slice bo xs.length cb], .int .i64 h, .int .i64 a, .string d] w fun e w' => ∃ po pa qo qa, e = .returned (.tuple #[.agg #[.slice po (wrS ss xs h a d).length pa, .slice qo (wrX ss xs h a d).length qa], .int .i64 (wrC ss xs h a d)]) ∧ OwnD w' w.heap.size po (wrS ss xs h a d).length pa qo (wrX ss xs h a d).length qa (wrS ss xs h a d) (wrX ss xs h a d) ∧ Below w.heap.size w w' := by
  have HA := hide (Joins.below_alloc2 w (.cells #[.slice ao ss.length ca, .slice bo xs.length cb] 43) (.cells #[.slice none 0 0, .slice none 0 0] 43))
  have H1 := hide (h1.below (unhide HA))
  have H2 := hide (h2.below (unhide HA))
  have HV := hide ((VarD.new w (.slice ao ss.length ca) (.slice bo xs.length cb)).below (Joins.below_alloc1 _ (.cells #[.slice none 0 0, .slice none 0 0] 43)))
  have HR : Hid (VarD ((w.alloc (.cells #[.slice ao ss.length ca, .slice bo xs.length cb] 43)).alloc (.cells #[.slice none 0 0, .slice none 0 0] 43)) (w.heap.size + 1) (.slice none 0 0) (.slice none 0 0)) := hide (by have := VarD.new (w.alloc (.cells #[.slice ao ss.length ca, .slice bo xs.length cb] 43)) (.slice none 0 0) (.slice none 0 0); simp only [World.size_alloc] at this; exact this)
  have HS0 := hide h1
  have HX0 := hide h2
  have HL := hide hl
  have HM := hide hm
  clear h1 h2 hl hm
  unfold maxLen at hz
  have hb : (askC ss xs h a != 0) = false := by simp [hask]
  obtain ⟨hh, ha0, ha1⟩ := askC_eq hask
  obtain ⟨hlen, hlx⟩ := diskB_len (hostC_eq hh).1
  have HLS : Hid (ss.length ≤ 1048576) := hide (by omega)
  have HLX : Hid (xs.length ≤ 1048576) := hide (by omega)
  have HASK := hide hask
  clear hask hh hlen
  have HW := hide (wr_range (h := h) (a := a) (d := d) hlong (unhide HASK) hbig)
  go_enter Try.func58, Try.ntmps58
  go_wp2_with fail
  refine (placeFault_any _ _ _ _ ss xs h a _ (unhide HL) (unhide HM) (unhide H1) (unhide H2)).mono ?_
  rintro e w1 ⟨rfl, hb1⟩
  have HV1 := hide ((unhide HV).below hb1)
  have HR1 := hide ((unhide HR).below hb1)
  have HB1 := hide (fr (unhide HA) hb1)
  have HS1 := hide ((unhide H1).below hb1)
  have HX1 := hide ((unhide H2).below hb1)
  have HZ1 := hide hb1.size
  clear hb1
  obtain ⟨hv0, hv1⟩ := (unhide HV1).cells
  go_wp2_with fail
  refine (copyDisk_any _ _ _ _ ss xs _ (unhide HLS) (unhide HLX) (unhide HS1) (unhide HX1)).mono ?_
  rintro e w2 ⟨po, pa, qo, qa, rfl, ho2, hb2⟩
  have HO2 := hide (ho2.base (B' := w.heap.size + 2) (by have z1 := unhide HZ1; simp at z1; omega))
  have HR2 := hide ((unhide HR1).below hb2)
  have HB2 := hide (fr (unhide HB1) hb2)
  have hlt2 : w.heap.size + 1 < w2.heap.size := (unhide HR2).lt
  clear ho2 hb2 hv0 hv1
  obtain ⟨hr0, hr1⟩ := (unhide HR2).cells
  have hr2 := (unhide HR2).free 0
  have hr3 := (unhide HR2).free 1
  have HE := hide (copyD_end (w := w) (wL := w2) (unhide HO2) (unhide HB2) (.slice po ss.length pa) (.slice qo xs.length qa))
  have HE1 := hide ((unhide HE).1.below (Joins.below_alloc1 _ (.cells #[.slice po ss.length pa, .slice qo xs.length qa] 43)))
  have HE2 := hide (fr (unhide HE).2 (Joins.below_alloc1 _ (.cells #[.slice po ss.length pa, .slice qo xs.length qa] 43)))
  go_wp2
  obtain ⟨e1, e2, e3⟩ := unhide HW
  rw [e1, e2, e3]
  exact bodyPost_ret (v := .tuple #[.agg #[.slice po ss.length pa, .slice qo xs.length qa], .int .i64 4]) (by simp [results, Try.results58, go_sem, hr0, hr1, hlt2]) rfl ⟨po, pa, qo, qa, rfl, unhide HE1, unhide HE2⟩

set_option maxRecDepth 100000 in
set_option maxHeartbeats 800000 in
theorem writeSector_impl_full (ao bo : Option Addr) (ca cb : Nat) (ss : List ByteArray) (xs : List Wr) (h a : Int) (d : ByteArray) (w : World) (hz : d.size ≤ maxLen) (hl : ss.length ≤ maxLen) (hm : xs.length ≤ maxLen) (h1 : Ss w ao ss) (h2 : Ios w bo xs) (hlong : ¬ 65536 < d.size) (hask : askC ss xs h a = 0) (hbig : ¬ 80 < d.size) (hfull : xs.length = 200) :
    Calls Try.prog 58 #[.agg #[.slice ao ss.length ca, .slice bo xs.length cb], .int .i64 h, .int .i64 a, .string d] w fun e w' => ∃ po pa qo qa, e = .returned (.tuple #[.agg #[.slice po (wrS ss xs h a d).length pa, .slice qo (wrX ss xs h a d).length qa], .int .i64 (wrC ss xs h a d)]) ∧ OwnD w' w.heap.size po (wrS ss xs h a d).length pa qo (wrX ss xs h a d).length qa (wrS ss xs h a d) (wrX ss xs h a d) ∧ Below w.heap.size w w' := by
  have HA := hide (Joins.below_alloc2 w (.cells #[.slice ao ss.length ca, .slice bo xs.length cb] 43) (.cells #[.slice none 0 0, .slice none 0 0] 43))
  have H1 := hide (h1.below (unhide HA))
  have H2 := hide (h2.below (unhide HA))
  have HV := hide ((VarD.new w (.slice ao ss.length ca) (.slice bo xs.length cb)).below (Joins.below_alloc1 _ (.cells #[.slice none 0 0, .slice none 0 0] 43)))
  have HR : Hid (VarD ((w.alloc (.cells #[.slice ao ss.length ca, .slice bo xs.length cb] 43)).alloc (.cells #[.slice none 0 0, .slice none 0 0] 43)) (w.heap.size + 1) (.slice none 0 0) (.slice none 0 0)) := hide (by have := VarD.new (w.alloc (.cells #[.slice ao ss.length ca, .slice bo xs.length cb] 43)) (.slice none 0 0) (.slice none 0 0); simp only [World.size_alloc] at this; exact this)
  have HS0 := hide h1
  have HX0 := hide h2
  have HL := hide hl
  have HM := hide hm
  clear h1 h2 hl hm
  unfold maxLen at hz
  have hb : (askC ss xs h a != 0) = false := by simp [hask]
  obtain ⟨hh, ha0, ha1⟩ := askC_eq hask
  obtain ⟨hlen, hlx⟩ := diskB_len (hostC_eq hh).1
  have HLS : Hid (ss.length ≤ 1048576) := hide (by omega)
  have HLX : Hid (xs.length ≤ 1048576) := hide (by omega)
  have HASK := hide hask
  clear hask hh hlen
  have HW := hide (wr_full (h := h) (a := a) (d := d) hlong (unhide HASK) hbig hfull)
  have hge : 200 ≤ xs.length := by omega
  clear hfull
  go_enter Try.func58, Try.ntmps58
  go_wp2_with fail
  refine (placeFault_any _ _ _ _ ss xs h a _ (unhide HL) (unhide HM) (unhide H1) (unhide H2)).mono ?_
  rintro e w1 ⟨rfl, hb1⟩
  have HV1 := hide ((unhide HV).below hb1)
  have HR1 := hide ((unhide HR).below hb1)
  have HB1 := hide (fr (unhide HA) hb1)
  have HS1 := hide ((unhide H1).below hb1)
  have HX1 := hide ((unhide H2).below hb1)
  have HZ1 := hide hb1.size
  clear hb1
  obtain ⟨hv0, hv1⟩ := (unhide HV1).cells
  go_wp2_with fail
  refine (copyDisk_any _ _ _ _ ss xs _ (unhide HLS) (unhide HLX) (unhide HS1) (unhide HX1)).mono ?_
  rintro e w2 ⟨po, pa, qo, qa, rfl, ho2, hb2⟩
  have HO2 := hide (ho2.base (B' := w.heap.size + 2) (by have z1 := unhide HZ1; simp at z1; omega))
  have HR2 := hide ((unhide HR1).below hb2)
  have HB2 := hide (fr (unhide HB1) hb2)
  have hlt2 : w.heap.size + 1 < w2.heap.size := (unhide HR2).lt
  clear ho2 hb2 hv0 hv1
  obtain ⟨hr0, hr1⟩ := (unhide HR2).cells
  have hr2 := (unhide HR2).free 0
  have hr3 := (unhide HR2).free 1
  have HE := hide (copyD_end (w := w) (wL := w2) (unhide HO2) (unhide HB2) (.slice po ss.length pa) (.slice qo xs.length qa))
  have HE1 := hide ((unhide HE).1.below (Joins.below_alloc1 _ (.cells #[.slice po ss.length pa, .slice qo xs.length qa] 43)))
  have HE2 := hide (fr (unhide HE).2 (Joins.below_alloc1 _ (.cells #[.slice po ss.length pa, .slice qo xs.length qa] 43)))
  go_wp2
  obtain ⟨e1, e2, e3⟩ := unhide HW
  rw [e1, e2, e3]
  exact bodyPost_ret (v := .tuple #[.agg #[.slice po ss.length pa, .slice qo xs.length qa], .int .i64 7]) (by simp [results, Try.results58, go_sem, hr0, hr1, hlt2]) rfl ⟨po, pa, qo, qa, rfl, unhide HE1, unhide HE2⟩

set_option maxRecDepth 100000 in
set_option maxHeartbeats 800000 in
theorem writeSector_impl_ok (ao bo : Option Addr) (ca cb : Nat) (ss : List ByteArray) (xs : List Wr) (h a : Int) (d : ByteArray) (w : World) (hz : d.size ≤ maxLen) (hl : ss.length ≤ maxLen) (hm : xs.length ≤ maxLen) (h1 : Ss w ao ss) (h2 : Ios w bo xs) (hlong : ¬ 65536 < d.size) (hask : askC ss xs h a = 0) (hbig : ¬ 80 < d.size) (hfull : ¬ xs.length = 200) :
    Calls Try.prog 58 #[.agg #[.slice ao ss.length ca, .slice bo xs.length cb], .int .i64 h, .int .i64 a, .string d] w fun e w' => ∃ po pa qo qa, e = .returned (.tuple #[.agg #[.slice po (wrS ss xs h a d).length pa, .slice qo (wrX ss xs h a d).length qa], .int .i64 (wrC ss xs h a d)]) ∧ OwnD w' w.heap.size po (wrS ss xs h a d).length pa qo (wrX ss xs h a d).length qa (wrS ss xs h a d) (wrX ss xs h a d) ∧ Below w.heap.size w w' := by
  have HA := hide (Joins.below_alloc2 w (.cells #[.slice ao ss.length ca, .slice bo xs.length cb] 43) (.cells #[.slice none 0 0, .slice none 0 0] 43))
  have H1 := hide (h1.below (unhide HA))
  have H2 := hide (h2.below (unhide HA))
  have HV := hide ((VarD.new w (.slice ao ss.length ca) (.slice bo xs.length cb)).below (Joins.below_alloc1 _ (.cells #[.slice none 0 0, .slice none 0 0] 43)))
  have HR : Hid (VarD ((w.alloc (.cells #[.slice ao ss.length ca, .slice bo xs.length cb] 43)).alloc (.cells #[.slice none 0 0, .slice none 0 0] 43)) (w.heap.size + 1) (.slice none 0 0) (.slice none 0 0)) := hide (by have := VarD.new (w.alloc (.cells #[.slice ao ss.length ca, .slice bo xs.length cb] 43)) (.slice none 0 0) (.slice none 0 0); simp only [World.size_alloc] at this; exact this)
  have HS0 := hide h1
  have HX0 := hide h2
  have HL := hide hl
  have HM := hide hm
  clear h1 h2 hl hm
  unfold maxLen at hz
  have hb : (askC ss xs h a != 0) = false := by simp [hask]
  obtain ⟨hh, ha0, ha1⟩ := askC_eq hask
  obtain ⟨hlen, hlx⟩ := diskB_len (hostC_eq hh).1
  have HLS : Hid (ss.length ≤ 1048576) := hide (by omega)
  have HLX : Hid (xs.length ≤ 1048576) := hide (by omega)
  have HASK := hide hask
  clear hask hh hlen
  have HW := hide (wr_ok (h := h) (a := a) (d := d) hlong (unhide HASK) hbig hfull)
  have HN := hide (show xs.length + 1 = (xs ++ [(⟨h, a, d⟩ : Wr)]).length by simp)
  have hge : xs.length < 200 := by omega
  obtain ⟨j0, hj, hy0, hy1, hy2⟩ := info_parts infoW
  clear hfull
  go_enter Try.func58, Try.ntmps58
  go_wp2_with fail
  refine (placeFault_any _ _ _ _ ss xs h a _ (unhide HL) (unhide HM) (unhide H1) (unhide H2)).mono ?_
  rintro e w1 ⟨rfl, hb1⟩
  have HV1 := hide ((unhide HV).below hb1)
  have HR1 := hide ((unhide HR).below hb1)
  have HB1 := hide (fr (unhide HA) hb1)
  have HS1 := hide ((unhide H1).below hb1)
  have HX1 := hide ((unhide H2).below hb1)
  have HZ1 := hide hb1.size
  clear hb1
  obtain ⟨hv0, hv1⟩ := (unhide HV1).cells
  go_wp2_with fail
  refine (copyDisk_any _ _ _ _ ss xs _ (unhide HLS) (unhide HLX) (unhide HS1) (unhide HX1)).mono ?_
  rintro e w2 ⟨po, pa, qo, qa, rfl, ho2, hb2⟩
  have HO2 := hide (ho2.base (B' := w.heap.size + 2) (by have z1 := unhide HZ1; simp at z1; omega))
  have HR2 := hide ((unhide HR1).below hb2)
  have HB2 := hide (fr (unhide HB1) hb2)
  have hlt2 : w.heap.size + 1 < w2.heap.size := (unhide HR2).lt
  clear ho2 hb2 hv0 hv1
  obtain ⟨hr0, hr1⟩ := (unhide HR2).cells
  have hr2 := (unhide HR2).free 0
  have hr3 := (unhide HR2).free 1
  have HA2 := hide (Joins.below_alloc2 w2 (.cells #[.slice po ss.length pa, .slice qo xs.length qa] 43) (.cells #[.int .i64 h, .int .i64 a, .string d] 113))
  have HO3 := hide ((unhide HO2).below (unhide HA2))
  have HR3 := hide ((unhide HR2).below (unhide HA2))
  have HV3 := hide ((VarD.new w2 (.slice po ss.length pa) (.slice qo xs.length qa)).below (Joins.below_alloc1 _ (.cells #[.int .i64 h, .int .i64 a, .string d] 113)))
  have HB3 := hide (fr (unhide HB2) (unhide HA2))
  have HI3 : Hid (VarI ((w2.alloc (.cells #[.slice po ss.length pa, .slice qo xs.length qa] 43)).alloc (.cells #[.int .i64 h, .int .i64 a, .string d] 113)) (w2.heap.size + 1) ⟨h, a, d⟩) := hide (VarI.top (x := ⟨h, a, d⟩) (by simp))
  go_wp2_with (at_builtin; refine wpList_append_one rfl _ _ 41 rfl (w.heap.size + 2) 113 j0 (.agg #[.int .i64 0, .int .i64 0, .string ⟨#[]⟩]) 3 32 Try.underlying41 hj hy0 hy1 hy2 rfl (by omega) qo xs.length qa (ioV xs) rfl (unhide HO3).i (by simp; omega) ⟨w2.heap.size + 1, 0, none⟩ _ (wrV ⟨h, a, d⟩) rfl rfl (unhide HI3).news (wrV_one _) (by unfold maxLen; omega) (by omega) ?_; intro g cap w3 ho3 hk3; have HV4 := hide ((unhide HV3).keep hk3 ((unhide HO3).i.other (unhide HV3) (by decide))); have HR4 := hide ((unhide HR3).keep hk3 ((unhide HO3).i.other (unhide HR3) (by decide))); have HW4 := hide (wi_end (w := w) (w3 := w3) (v := w2.heap.size) (g := g) (k := xs.length + 1) (cap := cap) (xs' := xs ++ [⟨h, a, d⟩]) ((unhide HO3).s.keep hk3 (own_apart (unhide HO3).s (unhide HO3).i (by decide))) (.inr ⟨Nat.succ_pos _, by rw [ioV_snoc]; exact ho3⟩) (unhide HV4) ((unhide HB3).trans (hk3.below (B := w.heap.size) (unhide HB3).size (fun j hj => Nat.le_trans (show w.heap.size ≤ w.heap.size + 2 from by omega) ((unhide HO3).i.ge j hj).1))) (by omega) (.slice (some ⟨g, 0, none⟩) (xs.length + 1) cap) (.slice po ss.length pa) (.slice (some ⟨g, 0, none⟩) (xs.length + 1) cap)); obtain ⟨q0, q1⟩ := (unhide HV4).cells; have q2 := (unhide HV4).free 1; obtain ⟨q3, q4⟩ := (unhide HR4).cells; have q5 := (unhide HR4).free 0; have q6 := (unhide HR4).free 1; clear ho3 hk3)
  obtain ⟨e1, e2, e3⟩ := unhide HW
  rw [e1, e2, e3, ← unhide HN]
  exact bodyPost_ret (v := .tuple #[.agg #[.slice po ss.length pa, .slice (some ⟨g, 0, none⟩) (xs.length + 1) cap], .int .i64 0]) (by simp [results, Try.results58, go_sem, q3, q4]) rfl ⟨po, pa, _, _, rfl, (unhide HW4).1, (unhide HW4).2⟩

set_option maxRecDepth 100000 in
set_option maxHeartbeats 1600000 in
theorem writeSector_impl (ao bo : Option Addr) (ca cb : Nat) (ss : List ByteArray) (xs : List Wr) (h a : Int) (d : ByteArray) (w : World) (hz : d.size ≤ maxLen) (hl : ss.length ≤ maxLen) (hm : xs.length ≤ maxLen) (h1 : Ss w ao ss) (h2 : Ios w bo xs) :
    Calls Try.prog 58 #[.agg #[.slice ao ss.length ca, .slice bo xs.length cb], .int .i64 h, .int .i64 a, .string d] w fun e w' => ∃ po pa qo qa, e = .returned (.tuple #[.agg #[.slice po (wrS ss xs h a d).length pa, .slice qo (wrX ss xs h a d).length qa], .int .i64 (wrC ss xs h a d)]) ∧ OwnD w' w.heap.size po (wrS ss xs h a d).length pa qo (wrX ss xs h a d).length qa (wrS ss xs h a d) (wrX ss xs h a d) ∧ Below w.heap.size w w' := by
  have HA := hide (Joins.below_alloc2 w (.cells #[.slice ao ss.length ca, .slice bo xs.length cb] 43) (.cells #[.slice none 0 0, .slice none 0 0] 43))
  have H1 := hide (h1.below (unhide HA))
  have H2 := hide (h2.below (unhide HA))
  have HV := hide ((VarD.new w (.slice ao ss.length ca) (.slice bo xs.length cb)).below (Joins.below_alloc1 _ (.cells #[.slice none 0 0, .slice none 0 0] 43)))
  have HR : Hid (VarD ((w.alloc (.cells #[.slice ao ss.length ca, .slice bo xs.length cb] 43)).alloc (.cells #[.slice none 0 0, .slice none 0 0] 43)) (w.heap.size + 1) (.slice none 0 0) (.slice none 0 0)) := hide (by have := VarD.new (w.alloc (.cells #[.slice ao ss.length ca, .slice bo xs.length cb] 43)) (.slice none 0 0) (.slice none 0 0); simp only [World.size_alloc] at this; exact this)
  have HS0 := hide h1
  have HX0 := hide h2
  have HL := hide hl
  have HM := hide hm
  clear h1 h2 hl hm
  unfold maxLen at hz
  by_cases hlong : 65536 < d.size
  · obtain ⟨e1, e2, e3⟩ := wr_long (ss := ss) (xs := xs) (h := h) (a := a) hlong
    rw [e1, e2, e3]
    clear e1 e2 e3
    go_enter Try.func58, Try.ntmps58
    go_wp2
    exact bodyPost_ret (v := .tuple #[.agg #[.slice none 0 0, .slice none 0 0], .int .i64 2]) (by simp [results, Try.results58, go_sem]) rfl ⟨none, 0, none, 0, rfl, zeroD_own, unhide HA⟩
  by_cases hask : askC ss xs h a = 0
  · by_cases hbig : 80 < d.size
    · exact writeSector_impl_range ao bo ca cb ss xs h a d w (by unfold maxLen; exact hz) (unhide HL) (unhide HM) (unhide HS0) (unhide HX0) hlong hask hbig
    · by_cases hfull : xs.length = 200
      · exact writeSector_impl_full ao bo ca cb ss xs h a d w (by unfold maxLen; exact hz) (unhide HL) (unhide HM) (unhide HS0) (unhide HX0) hlong hask hbig hfull
      · exact writeSector_impl_ok ao bo ca cb ss xs h a d w (by unfold maxLen; exact hz) (unhide HL) (unhide HM) (unhide HS0) (unhide HX0) hlong hask hbig hfull
  · have hb : (askC ss xs h a != 0) = true := by simp [hask]
    obtain ⟨e1, e2, e3⟩ := wr_ask (ss := ss) (xs := xs) (h := h) (a := a) hlong hask
    rw [e1, e2, e3]
    clear e1 e2 e3 hask
    go_enter Try.func58, Try.ntmps58
    go_wp2_with fail
    refine (placeFault_any _ _ _ _ ss xs h a _ (unhide HL) (unhide HM) (unhide H1) (unhide H2)).mono ?_
    rintro e w1 ⟨rfl, hb1⟩
    have HR1 := hide ((unhide HR).below hb1)
    have HB1 := hide (fr (unhide HA) hb1)
    clear hb1
    obtain ⟨hr0, hr1⟩ := (unhide HR1).cells
    have hr2 := (unhide HR1).free 0
    have hr3 := (unhide HR1).free 1
    have HE := hide (zero_end (w := w) (wL := w1) (unhide HB1) (.slice none 0 0) (.slice none 0 0))
    go_wp2
    exact bodyPost_ret (v := .tuple #[.agg #[.slice none 0 0, .slice none 0 0], .int .i64 (askC ss xs h a)]) (by simp [results, Try.results58, go_sem, hr0, hr1]) rfl ⟨none, 0, none, 0, rfl, zeroD_own, unhide HE⟩

end Go.Proofs.Ytpdpnepnfhbonaa

namespace Go.Proofs.Ytpdpnepnfhbonaa
open Go.RowKit
set_option linter.unusedVariables false
set_option maxRecDepth 100000

theorem codes_right {ss : List ByteArray} {xs : List Wr} {h a : Int} (hd : diskB ss xs = true) (h0 : 0 ≤ h) (h3 : h ≤ 3) (a0 : 0 ≤ a) (a1 : a ≤ 63) : hostC ss xs h = 0 ∧ askC ss xs h a = 0 := by
  have e := hostC_ok hd (show inB h 0 3 = true by simp [inB]; omega)
  exact ⟨e, askC_ok e (by simp [inB]; omega)⟩
theorem right_sz {ss : List ByteArray} {xs : List Wr} (hd : diskB ss xs = true) : (ss.length ≤ maxLen ∧ xs.length ≤ maxLen) ∧ (∀ s ∈ ss, s.size ≤ maxLen) ∧ ∀ x ∈ xs, x.data.size ≤ maxLen := by
  have hl := diskB_len hd
  refine ⟨by unfold maxLen; omega, fun s hs => Nat.le_trans ((diskB_parts.1 hd).1.2 s hs) (by decide), fun x hx => Nat.le_trans (ioB_parts.1 ((diskB_parts.1 hd).2.2 x hx)).2.2 (by decide)⟩

theorem write_own (ao bo : Option Addr) (ca cb : Nat) (ss : List ByteArray) (xs : List Wr) (h a : Int) (t : ByteArray) (X : List Wr) (w : World) (hX : xs ++ [⟨h, a, t⟩] = X) (hd : diskB ss xs = true) (hl : xs.length < 200) (ht : t.size ≤ 80) (h0 : 0 ≤ h) (h3 : h ≤ 3) (a0 : 0 ≤ a) (a1 : a ≤ 63) (h1 : Ss w ao ss) (h2 : Ios w bo xs) :
    Calls Try.prog 58 #[.agg #[.slice ao ss.length ca, .slice bo xs.length cb], .int .i64 h, .int .i64 a, .string t] w fun e w' => ∃ po pa qo qa, e = .returned (.tuple #[.agg #[.slice po ss.length pa, .slice qo X.length qa], .int .i64 0]) ∧ OwnD w' w.heap.size po ss.length pa qo X.length qa ss X ∧ Below w.heap.size w w' := by
  subst hX
  obtain ⟨⟨l1, l2⟩, _⟩ := right_sz hd
  obtain ⟨_, ha⟩ := codes_right (h := h) (a := a) hd h0 h3 a0 a1
  obtain ⟨e1, e2, e3⟩ := wr_ok (ss := ss) (xs := xs) (h := h) (a := a) (d := t) (by omega) ha (by omega) (by omega)
  refine (writeSector_impl ao bo ca cb ss xs h a t w (by unfold maxLen; omega) l1 l2 h1 h2).mono ?_
  rintro e w' ⟨po, pa, qo, qa, he, ho, hb⟩
  rw [e1, e2] at ho
  rw [e1, e2, e3] at he
  exact ⟨po, pa, qo, qa, he, ho, hb⟩
theorem flush_put {h : Int} {ss : List ByteArray} {xs : List Wr} (hd : diskB ss xs = true) (ha : hostC ss xs h = 0) : flS ss xs h = putW ss (ofH h xs) ∧ flX ss xs h = dropF h xs := by
  obtain ⟨e1, e2⟩ := fl_ok ha
  have hc : (ofH h xs).length ≤ 200 := Nat.le_trans (List.length_filter_le _ _) (diskB_len hd).2
  obtain ⟨p1, p2⟩ := landF_put h ss xs 200
  have p1' : (landF h false ss xs 200).1 = putW ss ((ofH h xs).take 200) := p1
  have p2' : (landF h false ss xs 200).2.1 = remH h 200 xs := p2
  rw [List.take_of_length_le hc] at p1'
  rw [rem_all 200 xs hc] at p2'
  exact ⟨e1.trans p1', e2.trans p2'⟩
theorem flush_own (ao bo : Option Addr) (ca cb : Nat) (ss : List ByteArray) (xs : List Wr) (h : Int) (S : List ByteArray) (X : List Wr) (w : World) (hS : putW ss (ofH h xs) = S) (hX : dropF h xs = X) (hd : diskB ss xs = true) (h0 : 0 ≤ h) (h3 : h ≤ 3) (h1 : Ss w ao ss) (h2 : Ios w bo xs) :
    Calls Try.prog 59 #[.agg #[.slice ao ss.length ca, .slice bo xs.length cb], .int .i64 h] w fun e w' => ∃ po pa qo qa, e = .returned (.tuple #[.agg #[.slice po S.length pa, .slice qo X.length qa], .int .i64 0]) ∧ OwnD w' w.heap.size po S.length pa qo X.length qa S X ∧ Below w.heap.size w w' := by
  subst hS hX
  obtain ⟨⟨l1, l2⟩, _⟩ := right_sz hd
  obtain ⟨ha, _⟩ := codes_right (h := h) (a := 0) hd h0 h3 (by omega) (by omega)
  obtain ⟨e1, e2⟩ := flush_put hd ha
  refine (flush_impl ao bo ca cb ss xs h w l1 l2 h1 h2).mono ?_
  rintro e w' ⟨po, pa, qo, qa, he, ho, hb⟩
  rw [e1, e2] at ho
  rw [e1, e2, ha] at he
  exact ⟨po, pa, qo, qa, he, ho, hb⟩

end Go.Proofs.Ytpdpnepnfhbonaa

namespace Go.Proofs.Ytpdpnepnfhbonaa
open Go.RowKit
set_option linter.unusedVariables false
set_option maxRecDepth 100000

end Go.Proofs.Ytpdpnepnfhbonaa

namespace Go.Proofs.Ytpdpnepnfhbonaa
open Go.RowKit
set_option linter.unusedVariables false
set_option maxRecDepth 100000

theorem sizeA24 : (Try.prog.info? 125).map (·.size) = some 24 := by kernel_rfl
theorem und24 : Try.prog.underlying 125 = some (.array 24 3) := by kernel_rfl
theorem sizeA {xs : List Int} (h : xs.length = 24) : (Try.prog.info? 125).map (·.size) = some (intV xs).toArray.size := by rw [intV_size, h]; exact sizeA24
theorem sizeL {xs : List Int} (h : xs.length = 24) : (Try.prog.info? 125).map (·.size) = some (intV xs).length := by rw [intV_length, h]; exact sizeA24

abbrev ctV (xs : List Int) : Value := .agg (intV xs).toArray
abbrev VarC (W : World) (g : Nat) (xs : List Int) : Prop := W.heap[g]? = some (.cells (intV xs).toArray 125 (0, 0))
theorem sizeI1 : (Try.prog.info? 3).map (·.size) = some 1 := by kernel_rfl
theorem idx24 (W : World) (xs : List Int) (k : Nat) (hl : xs.length = 24) (hk : k < xs.length) : (Instr.index 125 (ctV xs) (.int .i64 k)).run Try.prog W = .ok (.int .i64 xs[k]) W := by
  have hu := und24
  have hk' : k < 24 := by omega
  have h2 := sizeI1
  cases hq : Try.prog.info? 3 with
  | none => simp [hq] at h2
  | some i =>
    have hi : i.size = 1 := by simpa [hq] using h2
    simp [Instr.index, run_underlying, hu, sizeOf, typeInfo, hq, hi, intV, asIntOf, part, hk]
    intro h
    omega

end Go.Proofs.Ytpdpnepnfhbonaa

namespace Go.Proofs.Ytpdpnepnfhbonaa
open Go.RowKit
set_option linter.unusedVariables false
set_option maxRecDepth 100000

end Go.Proofs.Ytpdpnepnfhbonaa

namespace Go.Proofs.Ytpdpnepnfhbonaa
open Go.RowKit
set_option linter.unusedVariables false
set_option maxRecDepth 100000

theorem below_bytes (w : World) (e : TypeId) (s : ByteArray) : Below w.heap.size w (Lib.bytesWorld w e s) :=
  ⟨rfl, rfl, rfl, by rw [Lib.bytesWorld_size]; omega, fun i hi => Lib.bytesWorld_at_old w e s i hi⟩

end Go.Proofs.Ytpdpnepnfhbonaa

namespace Go.Proofs.Ytpdpnepnfhbonaa
open Go.RowKit
set_option linter.unusedVariables false
set_option maxRecDepth 100000

end Go.Proofs.Ytpdpnepnfhbonaa
