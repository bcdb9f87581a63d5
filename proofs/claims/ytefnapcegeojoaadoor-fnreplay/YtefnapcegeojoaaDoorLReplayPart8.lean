import Derived.Test.YtefnapcegeojoaaDoorRows
import Derived.Test.YtefnapcegeojoaaDoorLReplayPart1
import Derived.Test.YtefnapcegeojoaaDoorLReplayPart4
import Derived.Test.YtefnapcegeojoaaDoorLReplayPart7
import Derived.Test.YtefnapcegeojoaaDoorLReplayPart2
import Derived.Test.YtefnapcegeojoaaDoorLReplayPart3
import Derived.WalkKit
import Derived.WalkSpells
import Derived.KernelRfl
import Derived.LoopN
import Derived.Lib.SmallJoins
import Derived.Test.YtefnapcegeojoaaDoorLReplayPart5
import Derived.BigQuiet
import Derived.Deep.QuietTactic
import Derived.Deep.RegionWith
import Derived.Deep.RegionHeld3
import Derived.Deep.CutRange

namespace Go.Proofs.YtefnapcegeojoaaDoor
open Go.RowKit
set_option linter.unusedVariables false
set_option maxRecDepth 100000

theorem infoUw : (Tryd.prog.info? 42).map (fun i => (i.zero, i.size, i.bytes)) = some (some (.agg #[.int .i64 0, .string ⟨#[]⟩]), 2, 24) := by kernel_rfl
def drU (u : Up) : Bool := inB u.at_ 9 28 && decide (u.data.size ≤ 8)
theorem drU_right {u : Up} (h : drU u = true) : upB u = true := by
  simp only [drU, inB, Bool.and_eq_true, decide_eq_true_eq] at h
  rw [upB_iff]; omega
theorem DrS.end2 {w W : World} {b : Nat} {ao : Option Addr} {n cap m : Nat} {o : Obj} (h : DrS w W b ao n cap m o) (hb : b < w.heap.size) (hm0 : ∃ m0, SrcK w b ao n cap m0) (u v : Value) :
    SrcK ((W.setCell ⟨w.heap.size, 0, none⟩ u).setCell ⟨w.heap.size, 1, none⟩ v) b ao n cap m ∧ Keep (fun k => k = b) w ((W.setCell ⟨w.heap.size, 0, none⟩ u).setCell ⟨w.heap.size, 1, none⟩ v) := by
  obtain ⟨m0, h1⟩ := hm0
  have hk : Keep (fun k => k = w.heap.size) W ((W.setCell ⟨w.heap.size, 0, none⟩ u).setCell ⟨w.heap.size, 1, none⟩ v) := ((Keep.refl (fun k => k = w.heap.size) W).setCell (p := ⟨w.heap.size, 0, none⟩) rfl _).setCell (p := ⟨w.heap.size, 1, none⟩) rfl _
  have hw := keep_new h.k hk (fun k e => .inl (by omega))
  exact ⟨h1.other h.s hw hk (by omega), hw⟩

set_option maxHeartbeats 1600000 in
theorem update_k (b : Nat) (ao : Option Addr) (n cap m : Nat) (w : World) (hm : m ≤ 600000) (hn : n ≤ 1048576) (hs : SrcK w b ao n cap m) :
    Calls Tryd.prog 31 #[.pointer (some ⟨b, 0, none⟩)] w fun e w' => ∃ u : Up, e = .returned (uV u) ∧ drU u = true ∧ SrcK w' b ao n cap (m + 30) ∧ Keep (fun j => j = b) w w' := by
  have hlt := hs.lt
  have HS := hide hs
  have D0 := hide (DrS.new hs #[.int .i64 0, .string ⟨#[]⟩] 42)
  clear hs
  go_enter Tryd.func31, Tryd.ntmps31
  go_wp2_with fail
  refine (next_k b ao n cap m 20 _ (by omega) (by omega) (by omega) hn (unhide D0).s).mono ?_
  rintro e w1 ⟨q1, rfl, q10, q11, hs1, hk1⟩
  have D1 := hide ((unhide D0).src hlt hs1 hk1)
  have wr1 : IntKind.i64.wrap (9 + q1) = 9 + q1 := by rw [IntKind.wrap_i64]; omega
  clear hs1 hk1
  go_wp2_with fail
  refine (next_k b ao n cap (m + 3) 9 _ (by omega) (by omega) (by omega) hn (unhide D1).s).mono ?_
  rintro e w2 ⟨q2, rfl, q20, q21, hs1, hk1⟩
  have D2 := hide ((unhide D1).src hlt hs1 hk1)
  clear hs1 hk1
  obtain ⟨k, rfl⟩ := Int.eq_ofNat_of_zero_le q20
  go_wp2_with fail
  refine (some_k b ao n cap (m + 3 + 3) k _ (by omega) (by omega) hn (unhide D2).s).mono ?_
  rintro e w3 ⟨t, rfl, ht, hs1, hk1⟩
  have D3 := hide ((unhide D2).src hlt hs1 hk1)
  have HT := hide ht
  clear hs1 hk1 ht
  have hblk := (unhide D3).r
  have c0 := Joins.cell_of_block hblk 0
  have c1 := Joins.cell_of_block hblk 1
  have f0 := Joins.unfrozen_of_block hblk 0
  have f1 := Joins.unfrozen_of_block hblk 1
  simp at c0 c1
  have HF := hide (fun u v => (unhide D3).end2 hlt ⟨_, unhide HS⟩ u v)
  clear hblk
  go_wp2
  refine bodyPost_ret (v := uV ⟨9 + q1, t⟩) (by simp [results, Tryd.results31, go_sem, c0, c1]) rfl ⟨⟨9 + q1, t⟩, rfl, ?_, (unhide HF _ _).1.more (by omega), (unhide HF _ _).2⟩
  simp only [drU, inB, Bool.and_eq_true, decide_eq_true_eq]
  have := unhide HT
  omega

set_option maxHeartbeats 3200000 in
theorem updates_k (b : Nat) (ao : Option Addr) (n cap m : Nat) (w : World) (hm : m ≤ 500000) (hn : n ≤ 1048576) (hs : SrcK w b ao n cap m) :
    Calls Tryd.prog 16 #[.pointer (some ⟨b, 0, none⟩)] w fun e w' => ∃ qo qa us, e = .returned (.slice qo us.length qa) ∧ OwnR w' w.heap.size 42 2 (.slice qo us.length qa) us.length (upsV us) ∧ us.all drU = true ∧ us.length ≤ 4 ∧ Keep (fun k => k = b) w w' := by
  have hbl := hs.lt
  have HS0 := hide hs
  clear hs
  obtain ⟨j0, hj, hy0, hy1, hy2⟩ := info_parts infoUw
  have HSA := hide ((unhide HS0).below (Joins.below_alloc1 w (.cells #[] 42)))
  have HKA : Hid (Keep (fun k => k = b) w (w.alloc (.cells #[] 42))) := hide (Keep.of_below (Joins.below_alloc1 _ _))
  go_enter Tryd.func16, Tryd.ntmps16
  go_wp2_with fail
  refine (next_k b ao n cap m 5 _ (by omega) (by omega) (by omega) hn (unhide HSA)).mono ?_
  rintro e w1 ⟨r1, rfl, hr10, hr11, hs1, hk1⟩
  have HS1 := hide hs1
  have HK1 := hide ((unhide HKA).trans hk1)
  clear hs1 hk1
  obtain ⟨q, rfl⟩ := Int.eq_ofNat_of_zero_le hr10
  go_wp2
  go_loopw [3, 4] (fun o i wr => ∃ (j : Nat) (us : List Up) (qo : Option Addr) (qa : Nat), us.length + j ≤ 4 ∧ i = .int .i64 j ∧ o = .slice qo us.length qa ∧ Hid (us.all drU = true) ∧ Hid (OwnR wr w.heap.size 42 2 (.slice qo us.length qa) us.length (upsV us)) ∧ Hid (Keep (fun k => k = b) w wr) ∧ Hid (SrcK wr b ao n cap (m + 3 + 30 * us.length))) (fun _ i _ => (intOf i).toNat)
  case atStart => exact ⟨q, [], _, _, by simp; omega, rfl, rfl, hide rfl, hide (.inl ⟨rfl, rfl, _, rfl⟩), HK1, HS1⟩
  case round =>
    obtain ⟨j, us, qo, qa, hxj, rfl, rfl, HA, HO, HK, HS⟩ := hrel
    by_cases hlt : 0 < j
    · go_wp2_with fail
      refine (update_k b ao n cap _ _ (by omega) hn (unhide HS)).mono ?_
      rintro e w2 ⟨u, rfl, hu, hs2, hk2⟩
      have HU := hide hu
      have HO2 := hide ((unhide HO).keep hk2 (fun g hg e => by have := ((unhide HO).ge g hg).1; omega))
      have HK2 := hide ((unhide HK).trans hk2)
      have HS2 := hide hs2
      clear hs2 hk2 hu
      have HOA := hide ((unhide HO2).below (Joins.below_alloc1 _ (.cells #[.int .i64 u.at_, .string u.data] 42)))
      have HKB := hide ((unhide HK2).trans (Keep.of_below (Joins.below_alloc1 _ (.cells #[.int .i64 u.at_, .string u.data] 42))))
      have HSB := hide ((unhide HS2).below (Joins.below_alloc1 _ (.cells #[.int .i64 u.at_, .string u.data] 42)))
      have HSZ := hide (unhide HK2).size
      go_wp2_with (at_builtin; refine wpList_append_one rfl _ _ 23 rfl w.heap.size 42 j0 (.agg #[.int .i64 0, .string ⟨#[]⟩]) 2 24 Tryd.underlying23 hj hy0 hy1 hy2 rfl (by omega) qo us.length qa (upsV us) rfl (unhide HOA) (by have := unhide HSZ; simp; omega) ⟨w2.heap.size, 0, none⟩ _ (upV u) rfl rfl (news2_at w2 _ _ _ rfl) (upV_one _) (by unfold maxLen; omega) (by omega) ?_; intro g2 cap2 wA hoA hkA; have HSF := hide (And.intro hoA (keep_new (unhide HKB) hkA (fun k hk => .inl ((unhide HOA).ge k hk).1))); have HSC := hide ((unhide HS0).other (unhide HSB) (unhide HSF).2 hkA (fun hk => by have := ((unhide HOA).ge _ hk).1; omega)); clear hoA hkA)
      go_roundw
      case rel => exact ⟨j - 1, us ++ [u], some ⟨g2, 0, none⟩, cap2, by simp; omega, by go_num, by simp, hide (by simp only [List.all_append, Bool.and_eq_true]; exact ⟨unhide HA, by simp; exact unhide HU⟩), hide (by rw [List.length_append, upsV_append]; exact .inr ⟨by simp, (unhide HSF).1⟩), hide (unhide HSF).2, hide (by rw [List.length_append]; exact (unhide HSC).more (by simp; omega))⟩
      case measure => simp [intOf]; omega
    · go_wp2
      go_ret
      exact ⟨qo, qa, us, rfl, unhide HO, unhide HA, by omega, unhide HK⟩

theorem updatesOf_any (ao : Option Addr) (n cap : Nat) (w : World) (hn : n ≤ 1048576) (hB : Bs w ao n) :
    Calls Tryd.prog 5 #[.slice ao n cap] w fun e w' => ∃ qo qa us, e = .returned (.slice qo us.length qa) ∧ OwnR w' w.heap.size 42 2 (.slice qo us.length qa) us.length (upsV us) ∧ us.all drU = true ∧ us.length ≤ 4 ∧ Below w.heap.size w w' := by
  go_enter Tryd.func5, Tryd.ntmps5
  go_wp2_with fail
  refine (source_any ao n cap _ hn hB).mono ?_
  rintro e w1 ⟨rfl, hs1, hb1, hz⟩
  go_wp2_with fail
  refine (updates_k _ ao n cap 0 _ (by omega) hn hs1).mono ?_
  rintro e w2 ⟨qo, qa, us, rfl, ho, ha, hl, hk⟩
  have HO := hide (ho.base hb1.size)
  have HA := hide ha
  have HB := hide (belowKp hb1 hk (fun j hj => by omega))
  clear ho ha hk hb1 hs1
  go_wp2
  go_ret
  exact ⟨qo, qa, us, rfl, unhide HO, unhide HA, hl, unhide HB⟩

end Go.Proofs.YtefnapcegeojoaaDoor

namespace Go.Proofs.YtefnapcegeojoaaDoor
open Go.RowKit
set_option linter.unusedVariables false
set_option maxRecDepth 100000

set_option maxHeartbeats 12800000 in
theorem lawReplay (ao : Option Addr) (ca n : Nat) (bo : Option Addr) (cb m : Nat) (w : World) (hn : n ≤ maxLen) (hB : Bs w ao n) (hm : m ≤ maxLen) (hC : Bs w bo m) (hE : ErrW w) :
    Calls Tryd.prog 4 #[.slice ao n ca, .slice bo m cb] w fun e w' => e = .returned (.bool true) ∧ Below w.heap.size w w' := by
  have HE := hide hE
  have HBS := hide hB
  have HCS := hide hC
  clear hE hB hC
  unfold maxLen at hn hm
  by_cases h : 1048576 < n
  · go_enter Tryd.func4, Tryd.ntmps4
    go_wp2
    go_ret
    exact ⟨rfl, Below.refl _ _⟩
  by_cases h' : 1048576 < m
  · go_enter Tryd.func4, Tryd.ntmps4
    go_wp2
    go_ret
    exact ⟨rfl, Below.refl _ _⟩
  have hn' : n ≤ 1048576 := by omega
  have hm' : m ≤ 1048576 := by omega
  obtain ⟨h, hh, AH⟩ := at_told bo m cb 0 4 w hm' (by omega) (by omega) (by omega) (by omega) (unhide HCS)
  obtain ⟨nn0, hnn, AN⟩ := at_told bo m cb 2 6 w hm' (by omega) (by omega) (by omega) (by omega) (unhide HCS)
  obtain ⟨nn, rfl⟩ : ∃ nn : Nat, nn0 = (nn : Int) := ⟨nn0.toNat, by omega⟩
  obtain ⟨mm0, hmm, AM⟩ := at_told bo m cb 4 4 w hm' (by omega) (by omega) (by omega) (by omega) (unhide HCS)
  obtain ⟨mm, rfl⟩ : ∃ mm : Nat, mm0 = (mm : Int) := ⟨mm0.toNat, by omega⟩
  have HAM := hide AM
  have hm4 : mm ≤ 4 := by omega
  clear AM hmm
  have HAH := hide AH
  have HAN := hide AN
  have hh' : 0 ≤ h ∧ h ≤ 3 := by omega
  have HNQ : Hid (numB 5 = true) := hide (by decide)
  obtain ⟨i0, hi, hz0, hz1, hz2⟩ := info_parts info9'
  clear AH AN
  go_enter Tryd.func4, Tryd.ntmps4
  go_wp2_with fail
  refine (updatesOf_any ao n ca _ hn' (unhide HBS)).mono ?_
  rintro e w1 ⟨qo, qa, us, rfl, ho1, hall, hlen, hb1⟩
  have HB1 := hide hb1
  have HUB : Hid (upsB us = true) := hide (List.all_eq_true.2 (fun x hx => drU_right (List.all_eq_true.1 hall x hx)))
  have HU1 := hide (ownUps ho1 (upB_size (unhide HUB)))
  clear hb1 ho1 hall
  obtain ⟨o, t1, ho0, ho1⟩ : ∃ o : Int, (h + 1).tmod 4 = o ∧ 0 ≤ o ∧ o ≤ 3 := ⟨_, rfl, by rw [Int.tmod_eq_emod_of_nonneg (by omega)]; omega, by rw [Int.tmod_eq_emod_of_nonneg (by omega)]; omega⟩
  obtain ⟨pp, t2, hp0, hp1⟩ : ∃ pp : Int, (h + 2).tmod 4 = pp ∧ 0 ≤ pp ∧ pp ≤ 3 := ⟨_, rfl, by rw [Int.tmod_eq_emod_of_nonneg (by omega)]; omega, by rw [Int.tmod_eq_emod_of_nonneg (by omega)]; omega⟩
  have wr2 : IntKind.i64.wrap (h + 2) = h + 2 := by rw [IntKind.wrap_i64]; omega
  have wr1 : IntKind.i64.wrap (h + 1) = h + 1 := by rw [IntKind.wrap_i64]; omega
  obtain ⟨P, hP⟩ : ∃ P, P = plL (slN h) 5 us := ⟨_, rfl⟩
  obtain ⟨jc, jl⟩ := jp_yes hh' (unhide HNQ) (unhide HUB) (show us.length ≤ 5 by omega)
  rw [← hP] at jl
  have HJ := hide (And.intro jc jl)
  have HPS : Hid (∀ x ∈ P, x.data.size ≤ maxLen) := hide (by rw [hP]; exact (short_pl (unhide HUB)).sizes)
  have hPL : P.length ≤ 16 := by rw [hP]; exact pl_len _ _ _ (by omega)
  obtain ⟨kk0, hkk, AK⟩ := at_told bo m cb 1 ((P.length : Int) + 1) w hm' (by omega) (by omega) (by omega) (by omega) (unhide HCS)
  obtain ⟨kk, rfl⟩ : ∃ kk : Nat, kk0 = (kk : Int) := ⟨kk0.toNat, by omega⟩
  have HAK := hide AK
  have hkP : kk ≤ P.length := by omega
  obtain ⟨X1, X2, S, R, Z, hcr, hrp, hrest⟩ := jr_replay (q := 5) hh' ⟨ho0, ho1⟩ ⟨hp0, hp1⟩ (unhide HNQ) (unhide HUB) (show us.length ≤ 5 by omega) kk nn
  rw [← hP] at hcr
  have hRL : R.length ≤ 100 := Nat.le_trans hrp.l (by omega)
  obtain ⟨ii0, hii, AI⟩ := at_told bo m cb 3 ((R.length : Int) + 1) w hm' (by omega) (by omega) (by omega) (by omega) (unhide HCS)
  obtain ⟨ii, rfl⟩ : ∃ ii : Nat, ii0 = (ii : Int) := ⟨ii0.toNat, by omega⟩
  have HAI := hide AI
  have hiR : ii ≤ R.length := by omega
  obtain ⟨Y1, Y2, T, R2, Z2, hcr2, hrp2, hmid⟩ := hrest ii mm
  have HCR := hide hcr
  have HRP := hide hrp
  have HCR2 := hide hcr2
  have HRP2 := hide hrp2
  have HMID := hide hmid
  have HZL := hide (diskB_len hrp.d).1
  have HZL2 := hide (diskB_len hrp2.d).1
  have wrR : IntKind.i64.wrap ((R.length : Int) + 1) = (R.length : Int) + 1 := by rw [IntKind.wrap_i64]; omega
  clear hii AI hrest hcr2 hrp2
  have wrP : IntKind.i64.wrap ((P.length : Int) + 1) = (P.length : Int) + 1 := by rw [IntKind.wrap_i64]; omega
  have hn6 : nn ≤ 6 := by omega
  clear hP jc jl AK hcr hrp hmid hkk hnn
  go_wp2_with fail
  refine (unhide HAH _ (unhide HB1)).mono ?_
  rintro e w2 ⟨rfl, hb⟩
  have HB2 := hide (fr (unhide HB1) hb)
  have HW2 := hide hb
  clear hb
  go_wp2_with fail
  refine (journalPlan_impl h 5 qo qa us _ (by omega) ((unhide HU1).below (unhide HW2))).mono ?_
  rintro e w4 ⟨ro, ra, nr, rfl, ha⟩
  rw [(unhide HJ).1]
  rw [(unhide HJ).2] at ha
  obtain rfl := ha.len
  have HI4 := hide (apMv ha (unhide HPS))
  have HB4 := hide (fr (unhide HB2) ha.k)
  have HW4 := hide (fr (unhide HW2) ha.k)
  have hsl := cut_moves ha.o hkP
  clear ha
  obtain ⟨ME, hmk, hss⟩ := mk64
  have HSS := hide hss
  clear hss
  go_upto_region 8 with fail
  have HMD : Hid (∀ W G, Below w4.heap.size w4 W → Ss W (some ⟨G, 0, none⟩) e64 → Calls Tryd.prog 8 #[.agg #[.slice (some ⟨G, 0, none⟩) 64 64, .slice none 0 0], .int .i64 h, .slice ro kk ra] W fun e w' => ∃ g pa ko ka, e = .returned (.tuple #[.agg #[.slice (some ⟨g, 0, none⟩) X1.length pa, .slice ko X2.length ka], .int .i64 0]) ∧ AnsJ w' g pa ko X1 X2 ∧ Below W.heap.size W w') := hide (fun W G hW hS => by
    have hk : (P.take kk).length = kk := by rw [List.length_take]; omega
    have := movesDo_at (some ⟨G, 0, none⟩) 64 none 0 ro ra W e64_disk (by omega) (unhide HCR).dc (unhide HCR).ds (unhide HCR).dx (unhide HCR).d hS (ios_take ((unhide HI4).below hW) kk)
    rw [hk, e64_length] at this
    exact this)
  go_cut [11, 12] from 51 to 64 (fun c q wx => ∃ C : Nat, c = .pointer (some ⟨C, 0, none⟩) ∧ q = .int .i64 0 ∧ Hid (GotD w4 wx C X1 X2))
  case first =>
    go_region_held3 (fun w' => True) (trivial)
      (first
        | (go_at_call 6; refine (unhide HAK _ (by first | exact (unhide HB4).drew | exact (belowAl (unhide HB4) _).drew | exact (belowAl (belowAl (unhide HB4) _) _).drew)).mono ?_; rintro e w2 ⟨rfl, hb⟩
           first
             | (have HX : Hid (Below w4.heap.size w4 w2) := hide (fr (belowAl (belowAl (Below.refl _ w4) _) _).drew hb))
             | (have HX : Hid (Below w4.heap.size w4 w2) := hide (fr (belowAl (Below.refl _ w4) _).drew hb))
             | (have HX : Hid (Below w4.heap.size w4 w2) := hide (fr (Below.refl _ w4).drew hb))
           first
             | (have HK : Hid (Ss w2 (some ⟨w4.heap.size + 1, 0, none⟩) e64) := hide ((ss_drew (Ss.new2 (unhide HSS) w4 (.cells #[.slice none 0 0, .slice none 0 0] 32))).below hb))
             | (have HK : Hid (Ss w2 (some ⟨w4.heap.size, 0, none⟩) e64) := hide ((ss_drew ((unhide HSS w4).below (Joins.below_alloc1 _ (.cells #[.slice none 0 0, .slice none 0 0] 32)))).below hb))
             | (have HK : Hid (Ss w2 (some ⟨w4.heap.size, 0, none⟩) e64) := hide ((ss_drew (unhide HSS w4)).below hb))
             | skip
           first
             | (have HN : Hid (VarD w2 (w4.heap.size + 1) (.slice none 0 0) (.slice none 0 0)) := hide ((varD_drew (VarD.new2 w4 (.cells ME 9))).below hb); have HLE : Hid (w4.heap.size ≤ w4.heap.size + 1) := hide (Nat.le_succ _))
             | (have HN : Hid (VarD w2 w4.heap.size (.slice none 0 0) (.slice none 0 0)) := hide ((varD_drew ((VarD.new w4 (.slice none 0 0) (.slice none 0 0)).below (Joins.below_alloc1 _ (.cells ME 9)))).below hb); have HLE : Hid (w4.heap.size ≤ w4.heap.size) := hide (Nat.le_refl _))
             | (have HN : Hid (VarD w2 w4.heap.size (.slice none 0 0) (.slice none 0 0)) := hide ((varD_drew (VarD.new w4 (.slice none 0 0) (.slice none 0 0))).below hb); have HLE : Hid (w4.heap.size ≤ w4.heap.size) := hide (Nat.le_refl _))
             | skip
           clear hb)
        | (go_at_call 8; refine (unhide HMD _ _ (by first | exact unhide HX | exact belowAl (unhide HX) _ | exact belowAl (belowAl (unhide HX) _) _) (by first | exact unhide HK | exact (unhide HK).below (Joins.below_alloc1 _ _) | exact unhide HSS _ | exact (unhide HSS _).below (Joins.below_alloc1 _ _) | exact Ss.new2 (unhide HSS) _ _)).mono ?_; rintro e w3 ⟨g', pa', ko', ka', rfl, hr, hb⟩; have HR := hide hr; clear hr
           first
             | (have HN3 : Hid (VarD w3 _ (.slice none 0 0) (.slice none 0 0)) := hide ((unhide HN).below hb); have HLE3 := HLE)
             | (have HN3 : Hid (VarD w3 _ (.slice none 0 0) (.slice none 0 0)) := hide ((unhide HN).below (fr (Joins.below_alloc1 _ (.cells ME 9)) hb)); have HLE3 := HLE)
             | (have HN3 : Hid (VarD w3 w2.heap.size (.slice none 0 0) (.slice none 0 0)) := hide ((VarD.new w2 (.slice none 0 0) (.slice none 0 0)).below hb); have HLE3 := hide (unhide HX).size)
             | (have HN3 : Hid (VarD w3 (w2.heap.size + 1) (.slice none 0 0) (.slice none 0 0)) := hide ((VarD.new2 w2 (.cells ME 9)).below hb); have HLE3 := hide (Nat.le_succ_of_le (unhide HX).size))
             | (have HN3 : Hid (VarD w3 w2.heap.size (.slice none 0 0) (.slice none 0 0)) := hide (((VarD.new w2 (.slice none 0 0) (.slice none 0 0)).below (Joins.below_alloc1 _ (.cells ME 9))).below hb); have HLE3 := hide (unhide HX).size)
             | skip
           first
             | (have HX3 : Hid (Below w4.heap.size w4 w3) := hide (fr (unhide HX) hb))
             | (have HX3 : Hid (Below w4.heap.size w4 w3) := hide (fr (belowAl (unhide HX) _) hb))
             | (have HX3 : Hid (Below w4.heap.size w4 w3) := hide (fr (belowAl (belowAl (unhide HX) _) _) hb))
           first
             | (obtain ⟨z0, z1⟩ := (unhide HN3).cells; obtain ⟨q0, q1⟩ := VarD_free (unhide HN3))
             | skip
           clear hb))
    all_goals
      go_wp2_with fail
      go_meet
      first
        | exact ⟨_, rfl, rfl, hide (GotD.set (unhide HX3) (unhide HN3) (unhide HLE3) (unhide HR))⟩
        | exact ⟨_, rfl, rfl, hide (GotD.top (unhide HX3) (unhide HR))⟩
  case rest =>
    obtain ⟨C, rfl, rfl, HGD⟩ := hcut
    rename World => W9
    obtain ⟨g, pa, ko, ka, hans, hvar⟩ := (unhide HGD).v
    have HAN9 := hide hans
    have HV9 := hide hvar
    have HB9 := hide (fr (unhide HB4) (unhide HGD).k)
    clear hans hvar hsl hmk HMD
    have HLO : Hid (∀ W, Below W9.heap.size W9 W → Calls Tryd.prog 9 #[.agg #[.slice (some ⟨g, 0, none⟩) X1.length pa, .slice ko X2.length ka], .int .i64 h, .int .i64 (nn : Int)] W fun e w' => ∃ g pa ko ka, e = .returned (.tuple #[.agg #[.slice (some ⟨g, 0, none⟩) S.length pa, .slice ko ([] : List Wr).length ka], .int .i64 0]) ∧ AnsJ w' g pa ko S [] ∧ Below W.heap.size W w') := hide (fun W hW => lose_at (some ⟨g, 0, none⟩) pa ko ka nn W hh' (by omega) (unhide HCR).d (unhide HCR).t (unhide HCR).x (unhide HCR).dt ((unhide HAN9).below hW).2.1 ((unhide HAN9).below hW).2.2)
    obtain ⟨d0, d1⟩ := (unhide HV9).cells
    have hvl := (unhide HV9).lt
    have hvn : C ≠ W9.heap.size := Nat.ne_of_lt hvl
    have hvn' : W9.heap.size ≠ C := Ne.symm hvn
    go_upto_region 9 with fail
    go_cut [13, 14] from 65 to 72 (fun c q wx => ∃ C' : Nat, c = .pointer (some ⟨C', 0, none⟩) ∧ q = .int .i64 0 ∧ Hid (GotD W9 wx C' S []))
    case first =>
      go_region_held3 (fun w' => w'.cell? ⟨C, 0, none⟩ = some (.slice (some ⟨g, 0, none⟩) X1.length pa) ∧ w'.cell? ⟨C, 1, none⟩ = some (.slice ko X2.length ka)) (go_keep)
        (first
          | (go_at_call 6; refine (unhide HAN _ (by first | exact (unhide HB9).drew | exact (belowAl (unhide HB9) _).drew)).mono ?_; rintro e w2 ⟨rfl, hb⟩; (first | (have HV2 : Hid (VarD w2 W9.heap.size (.slice none 0 0) (.slice none 0 0)) := (by exact hide (((VarD.new W9 (.slice none 0 0) (.slice none 0 0)).below (Below.refl _ _).drew).below hb)); have HB2x : Hid (Below W9.heap.size W9 w2) := (by exact hide (fr (Joins.below_alloc1 W9 _).drew hb)); clear hb) | (have HB2x : Hid (Below W9.heap.size W9 w2) := (by exact hide (fr ((Below.refl _ W9).drew) hb)); clear hb)); obtain ⟨m0, m1⟩ := ((unhide HV9).below (unhide HB2x)).cells; have hv2 := ((unhide HV9).below (unhide HB2x)).lt; have nv2 : C ≠ w2.heap.size := Nat.ne_of_lt hv2; have nv2' : w2.heap.size ≠ C := Ne.symm nv2)
          | (go_at_call 9; refine (unhide HLO _ (by first | exact unhide HB2x | exact belowAl (unhide HB2x) _)).mono ?_; rintro e w3 ⟨g', pa', ko', ka', rfl, hr, hb⟩; have HR := hide hr; clear hr; (first | (have HV3 : Hid (VarD w3 W9.heap.size (.slice none 0 0) (.slice none 0 0)) := (by exact hide ((unhide HV2).below hb)); have HB3x : Hid (Below W9.heap.size W9 w3) := (by exact hide (fr (unhide HB2x) hb)); have HLE : Hid (W9.heap.size ≤ W9.heap.size) := hide (Nat.le_refl _); obtain ⟨z0, z1⟩ := (unhide HV3).cells; obtain ⟨q0, q1⟩ := VarD_free (unhide HV3); clear hb) | (have HV3 : Hid (VarD w3 w2.heap.size (.slice none 0 0) (.slice none 0 0)) := (by exact hide ((VarD.new w2 (.slice none 0 0) (.slice none 0 0)).below hb)); have HB3x : Hid (Below W9.heap.size W9 w3) := (by exact hide (fr (belowAl (unhide HB2x) _) hb)); have HLE : Hid (W9.heap.size ≤ w2.heap.size) := hide (unhide HB2x).size; obtain ⟨z0, z1⟩ := (unhide HV3).cells; obtain ⟨q0, q1⟩ := VarD_free (unhide HV3); clear hb) | (have HB3x : Hid (Below W9.heap.size W9 w3) := (by exact hide (fr (unhide HB2x) hb)); clear hb)); obtain ⟨p0, p1⟩ := ((unhide HV9).below (unhide HB3x)).cells; have hv3 := ((unhide HV9).below (unhide HB3x)).lt; have nv3 : C ≠ w3.heap.size := Nat.ne_of_lt hv3; have nv3' : w3.heap.size ≠ C := Ne.symm nv3))
      all_goals
        go_wp2_with fail
        go_meet
        first
          | exact ⟨_, rfl, rfl, hide (GotD.set (unhide HB3x) (unhide HV3) (unhide HLE) (unhide HR))⟩
          | exact ⟨_, rfl, rfl, hide (GotD.top (unhide HB3x) (unhide HR))⟩
    case rest =>
      obtain ⟨Y, rfl, rfl, HGY⟩ := hcut
      rename World => WA
      obtain ⟨gy, pb, kb, kc, hans, hvar⟩ := (unhide HGY).v
      simp only [List.length_nil] at hvar
      have HAA := hide hans
      have HVA := hide hvar
      have HBA := hide (fr (unhide HB9) (unhide HGY).k)
      clear hans hvar d0 d1 hvl hvn hvn' HLO HV9
      have HSL : Hid (S.length ≤ maxLen) := hide (by rw [(diskB_len (unhide HCR).dt).1]; unfold maxLen; omega)
      obtain ⟨d0, d1⟩ := (unhide HVA).cells
      have hvl := (unhide HVA).lt
      go_wp2_with fail
      refine ((show Calls Tryd.prog 10 #[.agg #[.slice (some ⟨gy, 0, none⟩) S.length pb, .slice kb 0 kc], .int .i64 o, .int .i64 h] WA _ from replayPlan_impl (some ⟨gy, 0, none⟩) kb pb kc S [] o h WA (unhide HSL) (by simp) (unhide HAA).2.1 (fun i hi => absurd hi (Nat.not_lt_zero _)) ((unhide HE).below (unhide HBA)))).mono ?_
      rintro e wB ⟨r2, ra2, nr, rfl, ha⟩
      rw [(unhide HRP).c]
      rw [(unhide HRP).m] at ha
      obtain rfl := ha.len
      have hb := ha.k
      have HIB := hide (apMv ha (unhide HRP).s.sizes)
      have hsl := cut_moves ha.o hiR
      have HAB := hide ((unhide HAA).below hb)
      have HVB := hide ((unhide HVA).below hb)
      have HBB := hide (fr (unhide HBA) hb)
      clear ha hb d0 d1 hvl HAA HVA HBA
      obtain ⟨d0, d1⟩ := (unhide HVB).cells
      have hvl := (unhide HVB).lt
      go_wp2_with fail
      refine (movesDo_at (some ⟨gy, 0, none⟩) pb kb kc r2 ra2 wB (unhide HCR).dt (Nat.le_trans (unhide HRP).l (by omega)) (unhide HRP).dc (unhide HRP).ds (unhide HRP).dx (unhide HRP).d (unhide HAB).2.1 (unhide HIB)).mono ?_
      rintro e wD ⟨gz, pz, kz, lz, rfl, hans, hb⟩
      have HAD := hide hans
      have HID := hide ((unhide HIB).below hb)
      have HYD := hide ((unhide HAB).below hb)
      have HVD := hide ((unhide HVB).below hb)
      have HBD := hide (fr (unhide HBB) hb)
      clear hans hb d0 d1 hvl HIB HAB HVB HBB
      have HA := hide (Joins.below_alloc1 wD (.cells #[.slice (some ⟨gz, 0, none⟩) Z.length pz, .slice kz 0 lz] 32))
      have HV := hide (VarD.new wD (.slice (some ⟨gz, 0, none⟩) Z.length pz) (.slice kz 0 lz))
      go_upto_region 12 with fail
      revert HA HV
      generalize (wD.alloc (.cells #[.slice (some ⟨gz, 0, none⟩) Z.length pz, .slice kz 0 lz] 32)) = WE
      intro HA HV
      have HAE := hide ((unhide HAD).below (unhide HA))
      have HIE := hide ((unhide HID).below (unhide HA))
      have HYE := hide ((unhide HYD).below (unhide HA))
      have HVE := hide ((unhide HVD).below (unhide HA))
      have HBE := hide (fr (unhide HBD) (unhide HA))
      clear HA HAD HID HYD HVD HBD
      generalize wD.heap.size = O1 at *
      have HMD : Hid (∀ W, Below WE.heap.size WE W → Calls Tryd.prog 8 #[.agg #[.slice (some ⟨gy, 0, none⟩) S.length pb, .slice kb 0 kc], .int .i64 o, .slice r2 ii ra2] W fun e w' => ∃ g pa ko ka, e = .returned (.tuple #[.agg #[.slice (some ⟨g, 0, none⟩) Y1.length pa, .slice ko Y2.length ka], .int .i64 0]) ∧ AnsJ w' g pa ko Y1 Y2 ∧ Below W.heap.size W w') := hide (fun W hW => by
        have hk : (R.take ii).length = ii := by rw [List.length_take]; omega
        have := movesDo_at (some ⟨gy, 0, none⟩) pb kb kc r2 ra2 W (unhide HCR).dt (by omega) (unhide HCR2).dc (unhide HCR2).ds (unhide HCR2).dx (unhide HCR2).d ((unhide HYE).below hW).2.1 (ios_take ((unhide HIE).below hW) ii)
        rw [hk] at this
        exact this)
      obtain ⟨d0, d1⟩ := (unhide HVE).cells
      have hvl := (unhide HVE).lt
      have hvn : Y ≠ WE.heap.size := Nat.ne_of_lt hvl
      have hvn' : WE.heap.size ≠ Y := Ne.symm hvn
      go_cut [19, 20] from 87 to 99 (fun c q wx => ∃ C' : Nat, c = .pointer (some ⟨C', 0, none⟩) ∧ q = .int .i64 0 ∧ Hid (GotD WE wx C' Y1 Y2))
      case first =>
        go_region_held3 (fun w' => w'.cell? ⟨Y, 0, none⟩ = some (.slice (some ⟨gy, 0, none⟩) S.length pb) ∧ w'.cell? ⟨Y, 1, none⟩ = some (.slice kb 0 kc)) (go_keep)
          (first
            | (go_at_call 6; refine (unhide HAI _ (by first | exact (unhide HBE).drew | exact (belowAl (unhide HBE) _).drew)).mono ?_; rintro e w2 ⟨rfl, hb⟩; (first | (have HV2 : Hid (VarD w2 WE.heap.size (.slice none 0 0) (.slice none 0 0)) := (by exact hide (((VarD.new WE (.slice none 0 0) (.slice none 0 0)).below (Below.refl _ _).drew).below hb)); have HB2x : Hid (Below WE.heap.size WE w2) := (by exact hide (fr (Joins.below_alloc1 WE _).drew hb)); clear hb) | (have HB2x : Hid (Below WE.heap.size WE w2) := (by exact hide (fr ((Below.refl _ WE).drew) hb)); clear hb)); obtain ⟨m0, m1⟩ := ((unhide HVE).below (unhide HB2x)).cells; have hv2 := ((unhide HVE).below (unhide HB2x)).lt; have nv2 : Y ≠ w2.heap.size := Nat.ne_of_lt hv2; have nv2' : w2.heap.size ≠ Y := Ne.symm nv2)
            | (go_at_call 8; refine (unhide HMD _ (by first | exact unhide HB2x | exact belowAl (unhide HB2x) _)).mono ?_; rintro e w3 ⟨g', pa', ko', ka', rfl, hr, hb⟩; have HR := hide hr; clear hr; (first | (have HV3 : Hid (VarD w3 WE.heap.size (.slice none 0 0) (.slice none 0 0)) := (by exact hide ((unhide HV2).below hb)); have HB3x : Hid (Below WE.heap.size WE w3) := (by exact hide (fr (unhide HB2x) hb)); have HLE : Hid (WE.heap.size ≤ WE.heap.size) := hide (Nat.le_refl _); obtain ⟨z0, z1⟩ := (unhide HV3).cells; obtain ⟨q0, q1⟩ := VarD_free (unhide HV3); clear hb) | (have HV3 : Hid (VarD w3 w2.heap.size (.slice none 0 0) (.slice none 0 0)) := (by exact hide ((VarD.new w2 (.slice none 0 0) (.slice none 0 0)).below hb)); have HB3x : Hid (Below WE.heap.size WE w3) := (by exact hide (fr (belowAl (unhide HB2x) _) hb)); have HLE : Hid (WE.heap.size ≤ w2.heap.size) := hide (unhide HB2x).size; obtain ⟨z0, z1⟩ := (unhide HV3).cells; obtain ⟨q0, q1⟩ := VarD_free (unhide HV3); clear hb) | (have HB3x : Hid (Below WE.heap.size WE w3) := (by exact hide (fr (unhide HB2x) hb)); clear hb)); obtain ⟨p0, p1⟩ := ((unhide HVE).below (unhide HB3x)).cells; have hv3 := ((unhide HVE).below (unhide HB3x)).lt; have nv3 : Y ≠ w3.heap.size := Nat.ne_of_lt hv3; have nv3' : w3.heap.size ≠ Y := Ne.symm nv3))
        all_goals
          go_wp2_with fail
          go_meet
          first
            | exact ⟨_, rfl, rfl, hide (GotD.set (unhide HB3x) (unhide HV3) (unhide HLE) (unhide HR))⟩
            | exact ⟨_, rfl, rfl, hide (GotD.top (unhide HB3x) (unhide HR))⟩
      case rest =>
        obtain ⟨D, rfl, rfl, HGH⟩ := hcut
        rename World => WF
        obtain ⟨gh, pc, kd, ke, hans, hvar⟩ := (unhide HGH).v
        have HAF := hide hans
        have HVF := hide hvar
        have HBF := hide (fr (unhide HBE) (unhide HGH).k)
        have HOF := hide ((unhide HV).below (unhide HGH).k)
        have HZF := hide ((unhide HAE).below (unhide HGH).k)
        clear hans hvar d0 d1 hvl hvn hvn' HMD HVE hsl HYE HIE HV HAE
        have HLO : Hid (∀ W, Below WF.heap.size WF W → Calls Tryd.prog 9 #[.agg #[.slice (some ⟨gh, 0, none⟩) Y1.length pc, .slice kd Y2.length ke], .int .i64 o, .int .i64 (mm : Int)] W fun e w' => ∃ g pa ko ka, e = .returned (.tuple #[.agg #[.slice (some ⟨g, 0, none⟩) T.length pa, .slice ko ([] : List Wr).length ka], .int .i64 0]) ∧ AnsJ w' g pa ko T [] ∧ Below W.heap.size W w') := hide (fun W hW => lose_at (some ⟨gh, 0, none⟩) pc kd ke mm W ⟨ho0, ho1⟩ (by omega) (unhide HCR2).d (unhide HCR2).t (unhide HCR2).x (unhide HCR2).dt ((unhide HAF).below hW).2.1 ((unhide HAF).below hW).2.2)
        obtain ⟨d0, d1⟩ := (unhide HVF).cells
        have hvl := (unhide HVF).lt
        have hvn : D ≠ WF.heap.size := Nat.ne_of_lt hvl
        have hvn' : WF.heap.size ≠ D := Ne.symm hvn
        go_upto_region 13 with fail
        go_cut [21, 22] from 100 to 107 (fun c q wx => ∃ C' : Nat, c = .pointer (some ⟨C', 0, none⟩) ∧ q = .int .i64 0 ∧ Hid (GotD WF wx C' T []))
        case first =>
          go_region_held3 (fun w' => w'.cell? ⟨D, 0, none⟩ = some (.slice (some ⟨gh, 0, none⟩) Y1.length pc) ∧ w'.cell? ⟨D, 1, none⟩ = some (.slice kd Y2.length ke)) (go_keep)
            (first
              | (go_at_call 6; refine (unhide HAM _ (by first | exact (unhide HBF).drew | exact (belowAl (unhide HBF) _).drew)).mono ?_; rintro e w2 ⟨rfl, hb⟩; (first | (have HV2 : Hid (VarD w2 WF.heap.size (.slice none 0 0) (.slice none 0 0)) := (by exact hide (((VarD.new WF (.slice none 0 0) (.slice none 0 0)).below (Below.refl _ _).drew).below hb)); have HB2x : Hid (Below WF.heap.size WF w2) := (by exact hide (fr (Joins.below_alloc1 WF _).drew hb)); clear hb) | (have HB2x : Hid (Below WF.heap.size WF w2) := (by exact hide (fr ((Below.refl _ WF).drew) hb)); clear hb)); obtain ⟨m0, m1⟩ := ((unhide HVF).below (unhide HB2x)).cells; have hv2 := ((unhide HVF).below (unhide HB2x)).lt; have nv2 : D ≠ w2.heap.size := Nat.ne_of_lt hv2; have nv2' : w2.heap.size ≠ D := Ne.symm nv2)
              | (go_at_call 9; refine (unhide HLO _ (by first | exact unhide HB2x | exact belowAl (unhide HB2x) _)).mono ?_; rintro e w3 ⟨g', pa', ko', ka', rfl, hr, hb⟩; have HR := hide hr; clear hr; (first | (have HV3 : Hid (VarD w3 WF.heap.size (.slice none 0 0) (.slice none 0 0)) := (by exact hide ((unhide HV2).below hb)); have HB3x : Hid (Below WF.heap.size WF w3) := (by exact hide (fr (unhide HB2x) hb)); have HLE : Hid (WF.heap.size ≤ WF.heap.size) := hide (Nat.le_refl _); obtain ⟨z0, z1⟩ := (unhide HV3).cells; obtain ⟨q0, q1⟩ := VarD_free (unhide HV3); clear hb) | (have HV3 : Hid (VarD w3 w2.heap.size (.slice none 0 0) (.slice none 0 0)) := (by exact hide ((VarD.new w2 (.slice none 0 0) (.slice none 0 0)).below hb)); have HB3x : Hid (Below WF.heap.size WF w3) := (by exact hide (fr (belowAl (unhide HB2x) _) hb)); have HLE : Hid (WF.heap.size ≤ w2.heap.size) := hide (unhide HB2x).size; obtain ⟨z0, z1⟩ := (unhide HV3).cells; obtain ⟨q0, q1⟩ := VarD_free (unhide HV3); clear hb) | (have HB3x : Hid (Below WF.heap.size WF w3) := (by exact hide (fr (unhide HB2x) hb)); clear hb)); obtain ⟨p0, p1⟩ := ((unhide HVF).below (unhide HB3x)).cells; have hv3 := ((unhide HVF).below (unhide HB3x)).lt; have nv3 : D ≠ w3.heap.size := Nat.ne_of_lt hv3; have nv3' : w3.heap.size ≠ D := Ne.symm nv3))
          all_goals
            go_wp2_with fail
            go_meet
            first
              | exact ⟨_, rfl, rfl, hide (GotD.set (unhide HB3x) (unhide HV3) (unhide HLE) (unhide HR))⟩
              | exact ⟨_, rfl, rfl, hide (GotD.top (unhide HB3x) (unhide HR))⟩
        case rest =>
          obtain ⟨L, rfl, rfl, HGL⟩ := hcut
          rename World => WG
          obtain ⟨gl, pd, kf, kg, hans, hvar⟩ := (unhide HGL).v
          simp only [List.length_nil] at hvar
          have HAG := hide hans
          have HVG := hide hvar
          have HBG := hide (fr (unhide HBF) (unhide HGL).k)
          have HOG := hide ((unhide HOF).below (unhide HGL).k)
          have HZG := hide ((unhide HZF).below (unhide HGL).k)
          clear hans hvar d0 d1 hvl hvn hvn' HLO HVF HAF HOF HZF
          have HTL : Hid (T.length ≤ maxLen) := hide (by rw [(diskB_len (unhide HCR2).dt).1]; unfold maxLen; omega)
          obtain ⟨d0, d1⟩ := (unhide HVG).cells
          have hvl := (unhide HVG).lt
          go_wp2_with fail
          refine ((show Calls Tryd.prog 10 #[.agg #[.slice (some ⟨gl, 0, none⟩) T.length pd, .slice kf 0 kg], .int .i64 pp, .int .i64 h] WG _ from replayPlan_impl (some ⟨gl, 0, none⟩) kf pd kg T [] pp h WG (unhide HTL) (by simp) (unhide HAG).2.1 (fun i hi => absurd hi (Nat.not_lt_zero _)) ((unhide HE).below (unhide HBG)))).mono ?_
          rintro e wH ⟨r3, ra3, nr, rfl, ha⟩
          rw [(unhide HRP2).c]
          rw [(unhide HRP2).m] at ha
          obtain rfl := ha.len
          have hb := ha.k
          have HIH := hide (apMv ha (unhide HRP2).s.sizes)
          have HAH2 := hide ((unhide HAG).below hb)
          have HVH := hide ((unhide HVG).below hb)
          have HBH := hide (fr (unhide HBG) hb)
          have HOH := hide ((unhide HOG).below hb)
          have HZH := hide ((unhide HZG).below hb)
          clear ha hb d0 d1 hvl HAG HVG HBG HOG HZG
          obtain ⟨d0, d1⟩ := (unhide HVH).cells
          have hvl := (unhide HVH).lt
          go_wp2_with fail
          refine (movesDo_at (some ⟨gl, 0, none⟩) pd kf kg r3 ra3 wH (unhide HCR2).dt (Nat.le_trans (unhide HRP2).l (by omega)) (unhide HRP2).dc (unhide HRP2).ds (unhide HRP2).dx (unhide HRP2).d (unhide HAH2).2.1 (unhide HIH)).mono ?_
          rintro e wI ⟨gt, pt, kt, lt, rfl, hans, hb⟩
          have HAI2 := hide hans
          have HBI := hide (fr (unhide HBH) hb)
          have HOI := hide ((unhide HOH).below hb)
          have HZI := hide ((unhide HZH).below hb)
          clear hans hb d0 d1 hvl HAH2 HVH HBH HOH HZH HIH
          have HA := hide (Joins.below_alloc1 wI (.cells #[.slice (some ⟨gt, 0, none⟩) Z2.length pt, .slice kt 0 lt] 32))
          have HV := hide (VarD.new wI (.slice (some ⟨gt, 0, none⟩) Z2.length pt) (.slice kt 0 lt))
          go_upto_region 16 with fail
          revert HA HV
          generalize (wI.alloc (.cells #[.slice (some ⟨gt, 0, none⟩) Z2.length pt, .slice kt 0 lt] 32)) = WJ
          intro HA HV
          have HAJ := hide ((unhide HAI2).below (unhide HA))
          have HBJ := hide (fr (unhide HBI) (unhide HA))
          have HOJ := hide ((unhide HOI).below (unhide HA))
          have HZJ := hide ((unhide HZI).below (unhide HA))
          clear HA HAI2 HBI HOI HZI
          generalize wI.heap.size = O2 at *
          have hpz := (unhide HZJ).1
          have hpt := (unhide HAJ).1
          have HCALL : Hid (∀ W, Below WJ.heap.size WJ W → Calls Tryd.prog 14 #[.slice (some ⟨gt, 9, none⟩) 30 (pt - 9), .slice (some ⟨gz, 9, none⟩) 30 (pz - 9)] W fun e w' => e = .returned (.bool true) ∧ Below W.heap.size W w') := hide (fun W hW => by
            have h1 := ss_mid (((unhide HAJ).below hW).2.1) (unhide HZL2)
            have h2 := ss_mid (((unhide HZJ).below hW).2.1) (unhide HZL)
            rw [unhide HMID] at h1
            have := sameTexts_same (some ⟨gt, 9, none⟩) (some ⟨gz, 9, none⟩) (pt - 9) (pz - 9) (mid Z) W (by rw [mid_len (unhide HZL)]; unfold maxLen; omega) h1 h2
            rw [mid_len (unhide HZL)] at this
            exact this)
          obtain ⟨x0, x1⟩ := (unhide HV).cells
          obtain ⟨y0, y1⟩ := (unhide HOJ).cells
          have hp39 : (39 : Int) ≤ (pz : Int) := by omega
          have hp9 : ¬ pz = 9 := by omega
          have ht39 : (39 : Int) ≤ (pt : Int) := by omega
          have ht9 : ¬ pt = 9 := by omega
          have bz1 : ((Z.length : Int) == 64) = true := by rw [unhide HZL]; rfl
          have bz2 : ((Z2.length : Int) == 64) = true := by rw [unhide HZL2]; rfl
          have hz39 : (39 : Int) ≤ (Z.length : Int) := by rw [unhide HZL]; decide
          have hz392 : (39 : Int) ≤ (Z2.length : Int) := by rw [unhide HZL2]; decide
          go_region_held3 (fun w' => w'.cell? ⟨O2, 0, none⟩ = some (.slice (some ⟨gt, 0, none⟩) Z2.length pt) ∧ w'.cell? ⟨O1, 0, none⟩ = some (.slice (some ⟨gz, 0, none⟩) Z.length pz)) (go_keep)
            ((go_at_call 14; refine (unhide HCALL _ (by exact (Below.refl _ WJ).drew)).mono ?_; rintro e wK ⟨rfl, hb⟩; have HBX := hide hb; obtain ⟨m0, m1⟩ := ((unhide HV).below (fr (Below.refl _ WJ).drew hb)).cells; obtain ⟨m2, m3⟩ := ((unhide HOJ).below (fr (Below.refl _ WJ).drew hb)).cells; clear hb))
          all_goals
            go_wp2
            go_ret
            exact ⟨rfl, fr (fr (unhide HBJ) (Below.refl _ WJ).drew) (unhide HBX)⟩
end Go.Proofs.YtefnapcegeojoaaDoor
