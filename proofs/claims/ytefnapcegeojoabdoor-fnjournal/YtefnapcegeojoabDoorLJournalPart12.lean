/- The walk of laws.FnJournal. -/
import Derived.Test.YtefnapcegeojoabDoorRows
import Derived.Test.YtefnapcegeojoabDoorLJournalPart1
import Derived.Test.YtefnapcegeojoabDoorLJournalPart2
import Derived.Test.YtefnapcegeojoabDoorLJournalPart3
import Derived.Test.YtefnapcegeojoabDoorLJournalPart5
import Derived.Test.YtefnapcegeojoabDoorLJournalPart6
import Derived.Test.YtefnapcegeojoabDoorLJournalPart7
import Derived.Test.YtefnapcegeojoabDoorLJournalPart8
import Derived.Test.YtefnapcegeojoabDoorLJournalPart9
import Derived.Test.YtefnapcegeojoabDoorLJournalPart11
import Derived.WalkKit
import Derived.WalkSpells
import Derived.KernelRfl
import Derived.LoopN
import Derived.BigQuiet
import Derived.Deep.QuietTactic
import Derived.Deep.RegionWith
import Derived.Deep.CutRange
import Derived.Lib.SmallJoins

namespace Go.Proofs.YtefnapcegeojoabDoor
open Go.RowKit
set_option linter.unusedVariables false
set_option maxRecDepth 100000

theorem apIos {w W : World} {qo : Option Addr} {qa : Nat} {ms : List Wr} (h : ApS w W qo ms.length qa ms) (hz : ∀ x ∈ ms, x.data.size ≤ maxLen) : Ios W qo ms := ownMv h.o hz

theorem ownRS {w : World} {B pa : Nat} {po : Option Addr} {ss : List ByteArray} (h : OwnR w B 9 1 (.slice po ss.length pa) ss.length (strV ss)) (hz : ∀ s ∈ ss, s.size ≤ maxLen) : Ss w po ss := by
  rcases h with ⟨h0, _⟩ | ⟨h0, h⟩
  · exact fun i hi => by omega
  · exact ownS h hz

set_option maxHeartbeats 6400000 in
theorem lawJournal (ao : Option Addr) (ca n : Nat) (bo : Option Addr) (cb m : Nat) (w : World) (hn : n ≤ maxLen) (hB : Bs w ao n) (hm : m ≤ maxLen) (hC : Bs w bo m) (hE : ErrW w) :
    Calls Tryd.prog 4 #[.slice ao n ca, .slice bo m cb] w fun e w' => e = .returned (.bool true) ∧ Below w.heap.size w w' := by
  have HE := hide hE
  have HBS := hide hB
  have HCS := hide hC
  clear hE hB hC
  unfold maxLen at hn hm
  by_cases h : 1048576 < n
  · go_enter Tryd.func4, Tryd.ntmps4
    go_wp2
    go_ret
    exact ⟨rfl, Below.refl _ _⟩
  by_cases h' : 1048576 < m
  · go_enter Tryd.func4, Tryd.ntmps4
    go_wp2
    go_ret
    exact ⟨rfl, Below.refl _ _⟩
  have hn' : n ≤ 1048576 := by omega
  have hm' : m ≤ 1048576 := by omega
  obtain ⟨h, hh, AH⟩ := at_told bo m cb 0 4 w hm' (by omega) (by omega) (by omega) (by omega) (unhide HCS)
  obtain ⟨q, hq, AQ⟩ := at_told bo m cb 1 99 w hm' (by omega) (by omega) (by omega) (by omega) (unhide HCS)
  have HAH := hide AH
  have HAQ := hide AQ
  have hh' : 0 ≤ h ∧ h ≤ 3 := by omega
  have HNQ : Hid (numB q = true) := hide (by simp [numB, inB]; omega)
  obtain ⟨i0, hi, hz0, hz1, hz2⟩ := info_parts info9'
  clear AH AQ
  go_enter Tryd.func4, Tryd.ntmps4
  go_wp2_with fail
  refine (updatesOf_any ao n ca _ hn' (unhide HBS)).mono ?_
  rintro e w1 ⟨qo, qa, us, rfl, ho1, hall, hlen, hb1⟩
  have HB1 := hide hb1
  have HUB : Hid (upsB us = true) := hide (List.all_eq_true.2 (fun x hx => drU_right (List.all_eq_true.1 hall x hx)))
  have HU1 := hide (ownUps ho1 (upB_size (unhide HUB)))
  clear hb1 ho1 hall
  obtain ⟨P, hP⟩ : ∃ P, P = plL (slN h) q us := ⟨_, rfl⟩
  have HP := hide hP
  obtain ⟨jc, jl⟩ := jp_yes hh' (unhide HNQ) (unhide HUB) (show us.length ≤ 5 by omega)
  rw [← hP] at jl
  have HJ := hide (And.intro jc jl)
  obtain ⟨Z, z1, z2, z3, z4, z5, z6⟩ := jr_whole hh' (unhide HNQ) (unhide HUB) (show us.length ≤ 5 by omega)
  rw [← hP] at z1 z2 z3
  have HZ := hide (And.intro z1 (And.intro z2 z3))
  have HZD := hide z4
  have HZE := hide z5
  have HZM := hide z6
  have HZL : Hid (Z.length = 64) := hide (diskB_len z4).1
  have HPS : Hid (∀ x ∈ P, x.data.size ≤ maxLen) := hide (by rw [hP]; exact (short_pl (unhide HUB)).sizes)
  have HPL : Hid (P.length ≤ 16) := hide (by rw [hP]; exact pl_len _ _ _ (by omega))
  have bz : ((Z.length : Int) != 64) = false := by simp [(diskB_len z4).1]
  clear hP jc jl z1 z2 z3 z4 z5 z6
  go_wp2_with fail
  refine (unhide HAH _ (unhide HB1)).mono ?_
  rintro e w2 ⟨rfl, hb⟩
  have HB2 := hide (fr (unhide HB1) hb)
  have HW2 := hide hb
  clear hb
  go_wp2_with fail
  refine (unhide HAQ _ (unhide HB2)).mono ?_
  rintro e w3 ⟨rfl, hb⟩
  have HB3 := hide (fr (unhide HB2) hb)
  have HW3 := hide (fr (unhide HW2) hb)
  clear hb
  go_wp2_with fail
  refine (journalPlan_impl h q qo qa us _ (by omega) ((unhide HU1).below (unhide HW3))).mono ?_
  rintro e w4 ⟨ro, ra, nr, rfl, ha⟩
  rw [(unhide HJ).1]
  rw [(unhide HJ).2] at ha
  obtain rfl := ha.len
  have HI4 := hide (apIos ha (unhide HPS))
  have HB4 := hide (fr (unhide HB3) ha.k)
  have HW4 := hide (fr (unhide HW3) ha.k)
  clear ha
  go_wp2_with fail
  refine (unhide HAQ _ (unhide HB4)).mono ?_
  rintro e w5 ⟨rfl, hb⟩
  have HB5 := hide (fr (unhide HB4) hb)
  have HW5 := hide (fr (unhide HW4) hb)
  have HI5 := hide ((unhide HI4).below hb)
  clear hb
  go_wp2_with fail
  refine (journalPlan_spec h q qo qa us _ (by omega) ((unhide HU1).below (unhide HW5))).mono ?_
  rintro e w6 ⟨so, sa, nr, rfl, ha⟩
  rw [(unhide HJ).1]
  rw [(unhide HJ).2] at ha
  obtain rfl := ha.len
  have HJ6 := hide (apIos ha (unhide HPS))
  have HI6 := hide ((unhide HI5).below ha.k)
  have HB6 := hide (fr (unhide HB5) ha.k)
  have HW6 := hide (fr (unhide HW5) ha.k)
  clear ha
  go_wp2_with (first | (at_make; refine wpList_make_full _ rfl _ _ 22 rfl w6.heap.size 9 i0 _ 1 Tryd.underlying22 hi hz0 hz1 _ _ _ _ 64 rfl rfl rfl rfl ?c1 ?c2 ?c3 ?_))
  case c1 => rw [hz2]; omega
  case c2 => unfold maxLen; omega
  case c3 => exact Nat.le_refl _
  intro w7 hown hgrow
  have hb : Below w6.heap.size w6 w7 := (Below.refl _ _).grown hgrow (Nat.le_refl _) (fun _ h => by cases h)
  have HS7 : Hid (Ss w7 (some ⟨w6.heap.size, 0, none⟩) e64) := hide (ownS (noSs_own hown) (fun s hs => by rw [List.eq_of_mem_replicate hs]; unfold maxLen; decide))
  have HB7 := hide (fr (unhide HB6) hb)
  have HW7 := hide (fr (unhide HW6) hb)
  have HI7 := hide ((unhide HI6).below hb)
  have HJ7 := hide ((unhide HJ6).below hb)
  clear hown hgrow hb
  have HA := hide (Joins.below_alloc1 w7 (.cells #[.slice (some ⟨w6.heap.size, 0, none⟩) 64 64, .slice none 0 0] 32))
  have HV := hide (VarD.new w7 (.slice (some ⟨w6.heap.size, 0, none⟩) 64 64) (.slice none 0 0))
  go_upto_region 8 with fail
  revert HA HV
  generalize (w7.alloc (.cells #[.slice (some ⟨w6.heap.size, 0, none⟩) 64 64, .slice none 0 0] 32)) = W8
  intro HA HV
  have HS8 := hide ((unhide HS7).below (unhide HA))
  have HB8 := hide (fr (unhide HB7) (unhide HA))
  have HW8 := hide (fr (unhide HW7) (unhide HA))
  have HI8 := hide ((unhide HI7).below (unhide HA))
  have HJ8 := hide ((unhide HJ7).below (unhide HA))
  clear HA
  generalize w7.heap.size = D at *
  generalize w6.heap.size = G at *
  obtain ⟨x0, x1⟩ := (unhide HV).cells
  have hl8 := (unhide HV).lt
  go_wp2_with fail
  refine ((show Calls Tryd.prog 19 #[.agg #[.slice (some ⟨G, 0, none⟩) 64 64, .slice none 0 0], .int .i64 h, .slice ro P.length ra] W8 _ from movesDo_impl (some ⟨G, 0, none⟩) none 64 0 e64 [] h ro ra P W8 (by rw [e64_length]; omega) (by simp) (by have := unhide HPL; omega) (unhide HS8) (fun i hi => absurd hi (Nat.not_lt_zero _)) (unhide HI8))).mono ?_
  rintro e w9 ⟨po, pa, ko, ka, rfl, ho, hb⟩
  rw [(unhide HZ).1, (unhide HZ).2.1, (unhide HZ).2.2]
  rw [(unhide HZ).2.1, (unhide HZ).2.2] at ho
  obtain ⟨g, rfl, hpa, _, _⟩ := own_64 ho.s (unhide HZL)
  have HS9 : Hid (Ss w9 (some ⟨g, 0, none⟩) Z) := hide (ownRS ho.s (right_sz2 (unhide HZD)).1)
  have HB9 := hide (fr (unhide HB8) hb)
  have HW9 := hide (fr (unhide HW8) hb)
  have HI9 := hide ((unhide HI8).below hb)
  have HJ9 := hide ((unhide HJ8).below hb)
  clear ho hb x0 x1 hl8 HV HS8
  have HA := hide (Joins.below_alloc1 w9 (.cells #[.slice (some ⟨g, 0, none⟩) Z.length pa, .slice ko 0 ka] 32))
  have HV := hide (VarD.new w9 (.slice (some ⟨g, 0, none⟩) Z.length pa) (.slice ko 0 ka))
  go_upto_region 9 with fail
  revert HA HV
  generalize (w9.alloc (.cells #[.slice (some ⟨g, 0, none⟩) Z.length pa, .slice ko 0 ka] 32)) = WA
  intro HA HV
  have HSA := hide ((unhide HS9).below (unhide HA))
  have HBA := hide (fr (unhide HB9) (unhide HA))
  have HWA := hide (fr (unhide HW9) (unhide HA))
  have HIA := hide ((unhide HI9).below (unhide HA))
  have HJA := hide ((unhide HJ9).below (unhide HA))
  clear HA
  generalize w9.heap.size = X at *
  obtain ⟨x0, x1⟩ := (unhide HV).cells
  have hlA := (unhide HV).lt
  obtain ⟨o, t1, ho0, ho1⟩ : ∃ o : Int, (h + 1).tmod 4 = o ∧ 0 ≤ o ∧ o ≤ 3 := ⟨_, rfl, by rw [Int.tmod_eq_emod_of_nonneg (by omega)]; omega, by rw [Int.tmod_eq_emod_of_nonneg (by omega)]; omega⟩
  have wr1 : IntKind.i64.wrap (h + 1) = h + 1 := by rw [IntKind.wrap_i64]; omega
  obtain ⟨k1, k2, _⟩ := je_read (o := o) (unhide HZD) ⟨ho0, ho1⟩ hh' (unhide HZE)
  have HK := hide (And.intro k1 k2)
  clear k1 k2
  go_wp2_with fail
  refine ((show Calls Tryd.prog 20 #[.agg #[.slice (some ⟨g, 0, none⟩) Z.length pa, .slice ko 0 ka], .int .i64 o, .int .i64 h] WA _ from journalOf_impl (some ⟨g, 0, none⟩) ko pa ka Z [] o h WA (by rw [unhide HZL]; unfold maxLen; omega) (by simp) (unhide HSA) (fun i hi => absurd hi (Nat.not_lt_zero _)) ((unhide HE).below (unhide HBA)))).mono ?_
  rintro e wB ⟨lo, la, nl, rfl, hu⟩
  rw [(unhide HK).1]
  rw [(unhide HK).2] at hu
  obtain rfl := hu.len
  have hb := hu.k
  have HSB := hide ((unhide HSA).below hb)
  have HBB := hide (fr (unhide HBA) hb)
  have HWB := hide (fr (unhide HWA) hb)
  have HIB := hide ((unhide HIA).below hb)
  have HJB := hide ((unhide HJA).below hb)
  have HVB := hide ((unhide HV).below hb)
  clear hu hb x0 x1 hlA HV
  go_wp2_with fail
  refine (sameMoves_same ro so ra sa P _ (by have := unhide HPL; unfold maxLen; omega) (unhide HIB) (unhide HJB)).mono ?_
  rintro e wC ⟨rfl, hb⟩
  have HSC := hide ((unhide HSB).below hb)
  have HBC := hide (fr (unhide HBB) hb)
  have HWC := hide (fr (unhide HWB) hb)
  have HVC := hide ((unhide HVB).below hb)
  clear hb
  obtain ⟨x0, x1⟩ := (unhide HVC).cells
  have hlC := (unhide HVC).lt
  go_wp2_with (first | (at_make; refine wpList_make_full _ rfl _ _ 22 rfl wC.heap.size 9 i0 _ 1 Tryd.underlying22 hi hz0 hz1 _ _ _ _ 64 rfl rfl rfl rfl ?c1 ?c2 ?c3 ?_))
  case c1 => rw [hz2]; omega
  case c2 => unfold maxLen; omega
  case c3 => exact Nat.le_refl _
  intro wD hown hgrow
  have hb : Below wC.heap.size wC wD := (Below.refl _ _).grown hgrow (Nat.le_refl _) (fun _ h => by cases h)
  have HOD := hide (noSs_own hown)
  have HSD := hide ((unhide HSC).below hb)
  have HBD := hide hb
  have HUD := hide ((unhide HU1).below (unhide HWC))
  clear hown hgrow hb x0 x1 hlC
  go_wp2
  go_loopw [18] (fun i wr => ∃ (k : Nat), k ≤ us.length ∧ i = .int .i64 k ∧ Hid (wr.ownsRow wC.heap.size 9 1 (.slice (some ⟨wC.heap.size, 0, none⟩) 64 64) 64 (strV (putW e64 ((chL us).take k)))) ∧ Hid (Below wC.heap.size wC wr)) (fun i _ => us.length - (intOf i).toNat)
  case atStart => exact ⟨0, Nat.zero_le _, rfl, HOD, HBD⟩
  case round =>
    obtain ⟨k, hk, rfl, HO, HW⟩ := hrel
    by_cases hlt : k < us.length
    · obtain ⟨b, off, rfl, hc0, hc1, hcz⟩ := (unhide HUD).below (unhide HW) k hlt
      have hbl : b < wC.heap.size := by
        obtain ⟨b', off', e', hc', _⟩ := (unhide HUD) k hlt
        simp only [Option.some.injEq, Addr.mk.injEq, and_true] at e'
        obtain ⟨rfl, rfl⟩ := e'
        exact World.block_lt_of_cell? _ _ hc'
      have hup := (upB_iff.1 (upsB_at (unhide HUB) hlt)).1
      obtain ⟨a, ha⟩ : ∃ a : Nat, us[k].at_ = (a : Int) := ⟨us[k].at_.toNat, by omega⟩
      have ha64 : a < 64 := by omega
      have HAA : Hid (us[k].at_.toNat = a) := hide (by omega)
      have hfr := (unhide HO).frozenAt a
      obtain ⟨y0, hcx⟩ : ∃ x, wr.cell? ⟨wC.heap.size, a, none⟩ = some x := ⟨_, ((unhide HO).cellAt a (by omega)).trans (List.getElem?_eq_getElem (by rw [(unhide HO).1]; omega))⟩
      have HST := hide ((unhide HO).stored a (.string us[k].data))
      rw [ha] at hc0
      clear hcz hup ha
      have hki : (k : Int) < (us.length : Int) := by omega
      have hk0 : (0 : Int) ≤ (k : Int) := by omega
      have hne : b ≠ wC.heap.size := by omega
      have ha0 : (0 : Int) ≤ (a : Int) := by omega
      have ha1 : (a : Int) < 64 := by omega
      go_wp2_with fail
      go_region_with fail
      all_goals
        go_wp2
        go_roundw
        case rel =>
          refine ⟨k + 1, by omega, by go_num, hide ?_, hide ?_⟩
          · rw [due_take hlt, unhide HAA, ← strV_set]
            exact own_below (unhide HST).1 (Below.refl _ _).drew
          · exact ((unhide HW).grown (unhide HST).2 (unhide HW).size (fun k h => by cases h; exact Nat.le_refl _)).drew
        case measure => simp [intOf]; omega
    · obtain rfl : k = us.length := by omega
      have HDL : Hid ((due us).length = 64) := hide (by rw [due, put_len, e64_length])
      have HSU : Hid (Ss wr (some ⟨wC.heap.size, 0, none⟩) (due us)) := hide (by
        have h1 := unhide HO
        rw [chL_done (Nat.le_refl _)] at h1
        have h2 : wr.ownsRow wC.heap.size 9 1 (.slice (some ⟨wC.heap.size, 0, none⟩) (due us).length 64) (due us).length (strV (due us)) := by rw [unhide HDL]; exact h1
        exact ownS h2 (put_mem (P := fun s => s.size ≤ maxLen) _ _ (fun s hs => by rw [List.eq_of_mem_replicate hs]; unfold maxLen; decide) (short_ch (unhide HUB)).sizes))
      have HCALL : Hid (∀ W, Below wr.heap.size wr W → Calls Tryd.prog 22 #[.slice (some ⟨g, 9, none⟩) 30 (pa - 9), .slice (some ⟨wC.heap.size, 9, none⟩) 30 55] W fun e w' => e = .returned (.bool true) ∧ Below W.heap.size W w') := hide (fun W hW => by
        have h1 := ss_mid (((unhide HSC).below (unhide HW)).below hW) (unhide HZL)
        have h2 := ss_mid ((unhide HSU).below hW) (unhide HDL)
        rw [← unhide HZM] at h2
        have := sameTexts_same (some ⟨g, 9, none⟩) (some ⟨wC.heap.size, 9, none⟩) (pa - 9) 55 (mid Z) W (by rw [mid_len (unhide HZL)]; unfold maxLen; omega) h1 h2
        rw [mid_len (unhide HZL)] at this
        exact this)
      have HVR := hide ((unhide HVC).below (unhide HW))
      obtain ⟨x0, x1⟩ := (unhide HVR).cells
      have hp39 : (39 : Int) ≤ (pa : Int) := by omega
      have hp9 : ¬ pa = 9 := by omega
      go_wp2_with fail
      go_region_with (go_at_call 22; refine (unhide HCALL _ (by exact (Below.refl _ wr).drew)).mono ?_; rintro e wE ⟨rfl, hb⟩; have HBE := hide hb; clear hb)
      all_goals
        go_wp2
        go_ret
        exact ⟨rfl, fr (fr (fr (unhide HBC) (unhide HW)) (Below.refl _ wr).drew) (unhide HBE)⟩
end Go.Proofs.YtefnapcegeojoabDoor
