import Derived.Test.YtefnapcegeojoaaDoorRows
import Derived.Test.YtefnapcegeojoaaDoorLAtomicPart1
import Derived.Test.YtefnapcegeojoaaDoorLAtomicPart5
import Derived.Test.YtefnapcegeojoaaDoorLAtomicPart8
import Derived.Test.YtefnapcegeojoaaDoorLAtomicPart2
import Derived.Test.YtefnapcegeojoaaDoorLAtomicPart3
import Derived.Test.YtefnapcegeojoaaDoorLAtomicPart4
import Derived.WalkKit
import Derived.WalkSpells
import Derived.KernelRfl
import Derived.LoopN
import Derived.Lib.SmallJoins
import Derived.Test.YtefnapcegeojoaaDoorLAtomicPart7
import Derived.BigQuiet
import Derived.Deep.QuietTactic
import Derived.Deep.RegionWith
import Derived.Deep.RegionHeld3
import Derived.Deep.CutRange

namespace Go.Proofs.YtefnapcegeojoaaDoor
open Go.RowKit
set_option linter.unusedVariables false
set_option maxRecDepth 100000

theorem infoUw : (Tryd.prog.info? 42).map (fun i => (i.zero, i.size, i.bytes)) = some (some (.agg #[.int .i64 0, .string ⟨#[]⟩]), 2, 24) := by kernel_rfl
def drU (u : Up) : Bool := inB u.at_ 9 28 && decide (u.data.size ≤ 8)
theorem drU_right {u : Up} (h : drU u = true) : upB u = true := by
  simp only [drU, inB, Bool.and_eq_true, decide_eq_true_eq] at h
  rw [upB_iff]; omega
theorem DrS.end2 {w W : World} {b : Nat} {ao : Option Addr} {n cap m : Nat} {o : Obj} (h : DrS w W b ao n cap m o) (hb : b < w.heap.size) (hm0 : ∃ m0, SrcK w b ao n cap m0) (u v : Value) :
    SrcK ((W.setCell ⟨w.heap.size, 0, none⟩ u).setCell ⟨w.heap.size, 1, none⟩ v) b ao n cap m ∧ Keep (fun k => k = b) w ((W.setCell ⟨w.heap.size, 0, none⟩ u).setCell ⟨w.heap.size, 1, none⟩ v) := by
  obtain ⟨m0, h1⟩ := hm0
  have hk : Keep (fun k => k = w.heap.size) W ((W.setCell ⟨w.heap.size, 0, none⟩ u).setCell ⟨w.heap.size, 1, none⟩ v) := ((Keep.refl (fun k => k = w.heap.size) W).setCell (p := ⟨w.heap.size, 0, none⟩) rfl _).setCell (p := ⟨w.heap.size, 1, none⟩) rfl _
  have hw := keep_new h.k hk (fun k e => .inl (by omega))
  exact ⟨h1.other h.s hw hk (by omega), hw⟩

set_option maxHeartbeats 1600000 in
theorem update_k (b : Nat) (ao : Option Addr) (n cap m : Nat) (w : World) (hm : m ≤ 600000) (hn : n ≤ 1048576) (hs : SrcK w b ao n cap m) :
    Calls Tryd.prog 31 #[.pointer (some ⟨b, 0, none⟩)] w fun e w' => ∃ u : Up, e = .returned (uV u) ∧ drU u = true ∧ SrcK w' b ao n cap (m + 30) ∧ Keep (fun j => j = b) w w' := by
  have hlt := hs.lt
  have HS := hide hs
  have D0 := hide (DrS.new hs #[.int .i64 0, .string ⟨#[]⟩] 42)
  clear hs
  go_enter Tryd.func31, Tryd.ntmps31
  go_wp2_with fail
  refine (next_k b ao n cap m 20 _ (by omega) (by omega) (by omega) hn (unhide D0).s).mono ?_
  rintro e w1 ⟨q1, rfl, q10, q11, hs1, hk1⟩
  have D1 := hide ((unhide D0).src hlt hs1 hk1)
  have wr1 : IntKind.i64.wrap (9 + q1) = 9 + q1 := by rw [IntKind.wrap_i64]; omega
  clear hs1 hk1
  go_wp2_with fail
  refine (next_k b ao n cap (m + 3) 9 _ (by omega) (by omega) (by omega) hn (unhide D1).s).mono ?_
  rintro e w2 ⟨q2, rfl, q20, q21, hs1, hk1⟩
  have D2 := hide ((unhide D1).src hlt hs1 hk1)
  clear hs1 hk1
  obtain ⟨k, rfl⟩ := Int.eq_ofNat_of_zero_le q20
  go_wp2_with fail
  refine (some_k b ao n cap (m + 3 + 3) k _ (by omega) (by omega) hn (unhide D2).s).mono ?_
  rintro e w3 ⟨t, rfl, ht, hs1, hk1⟩
  have D3 := hide ((unhide D2).src hlt hs1 hk1)
  have HT := hide ht
  clear hs1 hk1 ht
  have hblk := (unhide D3).r
  have c0 := Joins.cell_of_block hblk 0
  have c1 := Joins.cell_of_block hblk 1
  have f0 := Joins.unfrozen_of_block hblk 0
  have f1 := Joins.unfrozen_of_block hblk 1
  simp at c0 c1
  have HF := hide (fun u v => (unhide D3).end2 hlt ⟨_, unhide HS⟩ u v)
  clear hblk
  go_wp2
  refine bodyPost_ret (v := uV ⟨9 + q1, t⟩) (by simp [results, Tryd.results31, go_sem, c0, c1]) rfl ⟨⟨9 + q1, t⟩, rfl, ?_, (unhide HF _ _).1.more (by omega), (unhide HF _ _).2⟩
  simp only [drU, inB, Bool.and_eq_true, decide_eq_true_eq]
  have := unhide HT
  omega

set_option maxHeartbeats 3200000 in
theorem updates_k (b : Nat) (ao : Option Addr) (n cap m : Nat) (w : World) (hm : m ≤ 500000) (hn : n ≤ 1048576) (hs : SrcK w b ao n cap m) :
    Calls Tryd.prog 16 #[.pointer (some ⟨b, 0, none⟩)] w fun e w' => ∃ qo qa us, e = .returned (.slice qo us.length qa) ∧ OwnR w' w.heap.size 42 2 (.slice qo us.length qa) us.length (upsV us) ∧ us.all drU = true ∧ us.length ≤ 4 ∧ Keep (fun k => k = b) w w' := by
  have hbl := hs.lt
  have HS0 := hide hs
  clear hs
  obtain ⟨j0, hj, hy0, hy1, hy2⟩ := info_parts infoUw
  have HSA := hide ((unhide HS0).below (Joins.below_alloc1 w (.cells #[] 42)))
  have HKA : Hid (Keep (fun k => k = b) w (w.alloc (.cells #[] 42))) := hide (Keep.of_below (Joins.below_alloc1 _ _))
  go_enter Tryd.func16, Tryd.ntmps16
  go_wp2_with fail
  refine (next_k b ao n cap m 5 _ (by omega) (by omega) (by omega) hn (unhide HSA)).mono ?_
  rintro e w1 ⟨r1, rfl, hr10, hr11, hs1, hk1⟩
  have HS1 := hide hs1
  have HK1 := hide ((unhide HKA).trans hk1)
  clear hs1 hk1
  obtain ⟨q, rfl⟩ := Int.eq_ofNat_of_zero_le hr10
  go_wp2
  go_loopw [3, 4] (fun o i wr => ∃ (j : Nat) (us : List Up) (qo : Option Addr) (qa : Nat), us.length + j ≤ 4 ∧ i = .int .i64 j ∧ o = .slice qo us.length qa ∧ Hid (us.all drU = true) ∧ Hid (OwnR wr w.heap.size 42 2 (.slice qo us.length qa) us.length (upsV us)) ∧ Hid (Keep (fun k => k = b) w wr) ∧ Hid (SrcK wr b ao n cap (m + 3 + 30 * us.length))) (fun _ i _ => (intOf i).toNat)
  case atStart => exact ⟨q, [], _, _, by simp; omega, rfl, rfl, hide rfl, hide (.inl ⟨rfl, rfl, _, rfl⟩), HK1, HS1⟩
  case round =>
    obtain ⟨j, us, qo, qa, hxj, rfl, rfl, HA, HO, HK, HS⟩ := hrel
    by_cases hlt : 0 < j
    · go_wp2_with fail
      refine (update_k b ao n cap _ _ (by omega) hn (unhide HS)).mono ?_
      rintro e w2 ⟨u, rfl, hu, hs2, hk2⟩
      have HU := hide hu
      have HO2 := hide ((unhide HO).keep hk2 (fun g hg e => by have := ((unhide HO).ge g hg).1; omega))
      have HK2 := hide ((unhide HK).trans hk2)
      have HS2 := hide hs2
      clear hs2 hk2 hu
      have HOA := hide ((unhide HO2).below (Joins.below_alloc1 _ (.cells #[.int .i64 u.at_, .string u.data] 42)))
      have HKB := hide ((unhide HK2).trans (Keep.of_below (Joins.below_alloc1 _ (.cells #[.int .i64 u.at_, .string u.data] 42))))
      have HSB := hide ((unhide HS2).below (Joins.below_alloc1 _ (.cells #[.int .i64 u.at_, .string u.data] 42)))
      have HSZ := hide (unhide HK2).size
      go_wp2_with (at_builtin; refine wpList_append_one rfl _ _ 23 rfl w.heap.size 42 j0 (.agg #[.int .i64 0, .string ⟨#[]⟩]) 2 24 Tryd.underlying23 hj hy0 hy1 hy2 rfl (by omega) qo us.length qa (upsV us) rfl (unhide HOA) (by have := unhide HSZ; simp; omega) ⟨w2.heap.size, 0, none⟩ _ (upV u) rfl rfl (news2_at w2 _ _ _ rfl) (upV_one _) (by unfold maxLen; omega) (by omega) ?_; intro g2 cap2 wA hoA hkA; have HSF := hide (And.intro hoA (keep_new (unhide HKB) hkA (fun k hk => .inl ((unhide HOA).ge k hk).1))); have HSC := hide ((unhide HS0).other (unhide HSB) (unhide HSF).2 hkA (fun hk => by have := ((unhide HOA).ge _ hk).1; omega)); clear hoA hkA)
      go_roundw
      case rel => exact ⟨j - 1, us ++ [u], some ⟨g2, 0, none⟩, cap2, by simp; omega, by go_num, by simp, hide (by simp only [List.all_append, Bool.and_eq_true]; exact ⟨unhide HA, by simp; exact unhide HU⟩), hide (by rw [List.length_append, upsV_append]; exact .inr ⟨by simp, (unhide HSF).1⟩), hide (unhide HSF).2, hide (by rw [List.length_append]; exact (unhide HSC).more (by simp; omega))⟩
      case measure => simp [intOf]; omega
    · go_wp2
      go_ret
      exact ⟨qo, qa, us, rfl, unhide HO, unhide HA, by omega, unhide HK⟩

theorem updatesOf_any (ao : Option Addr) (n cap : Nat) (w : World) (hn : n ≤ 1048576) (hB : Bs w ao n) :
    Calls Tryd.prog 5 #[.slice ao n cap] w fun e w' => ∃ qo qa us, e = .returned (.slice qo us.length qa) ∧ OwnR w' w.heap.size 42 2 (.slice qo us.length qa) us.length (upsV us) ∧ us.all drU = true ∧ us.length ≤ 4 ∧ Below w.heap.size w w' := by
  go_enter Tryd.func5, Tryd.ntmps5
  go_wp2_with fail
  refine (source_any ao n cap _ hn hB).mono ?_
  rintro e w1 ⟨rfl, hs1, hb1, hz⟩
  go_wp2_with fail
  refine (updates_k _ ao n cap 0 _ (by omega) hn hs1).mono ?_
  rintro e w2 ⟨qo, qa, us, rfl, ho, ha, hl, hk⟩
  have HO := hide (ho.base hb1.size)
  have HA := hide ha
  have HB := hide (belowKp hb1 hk (fun j hj => by omega))
  clear ho ha hk hb1 hs1
  go_wp2
  go_ret
  exact ⟨qo, qa, us, rfl, unhide HO, unhide HA, hl, unhide HB⟩

end Go.Proofs.YtefnapcegeojoaaDoor

namespace Go.Proofs.YtefnapcegeojoaaDoor
open Go.RowKit
set_option linter.unusedVariables false
set_option maxRecDepth 100000

set_option maxHeartbeats 12800000 in
theorem lawAtomic (ao : Option Addr) (ca n : Nat) (bo : Option Addr) (cb m : Nat) (w : World) (hn : n ≤ maxLen) (hB : Bs w ao n) (hm : m ≤ maxLen) (hC : Bs w bo m) (hE : ErrW w) :
    Calls Tryd.prog 3 #[.slice ao n ca, .slice bo m cb] w fun e w' => e = .returned (.bool true) ∧ Below w.heap.size w w' := by
  have HE := hide hE
  have HBS := hide hB
  have HCS := hide hC
  clear hE hB hC
  unfold maxLen at hn hm
  by_cases h : 1048576 < n
  · go_enter Tryd.func3, Tryd.ntmps3
    go_wp2
    go_ret
    exact ⟨rfl, Below.refl _ _⟩
  by_cases h' : 1048576 < m
  · go_enter Tryd.func3, Tryd.ntmps3
    go_wp2
    go_ret
    exact ⟨rfl, Below.refl _ _⟩
  have hn' : n ≤ 1048576 := by omega
  have hm' : m ≤ 1048576 := by omega
  obtain ⟨h, hh, AH⟩ := at_told bo m cb 0 4 w hm' (by omega) (by omega) (by omega) (by omega) (unhide HCS)
  obtain ⟨nn0, hnn, AN⟩ := at_told bo m cb 2 6 w hm' (by omega) (by omega) (by omega) (by omega) (unhide HCS)
  obtain ⟨nn, rfl⟩ : ∃ nn : Nat, nn0 = (nn : Int) := ⟨nn0.toNat, by omega⟩
  have HAH := hide AH
  have HAN := hide AN
  have hh' : 0 ≤ h ∧ h ≤ 3 := by omega
  have HNQ : Hid (numB 5 = true) := hide (by decide)
  obtain ⟨i0, hi, hz0, hz1, hz2⟩ := info_parts info9'
  clear AH AN
  go_enter Tryd.func3, Tryd.ntmps3
  go_wp2_with fail
  refine (updatesOf_any ao n ca _ hn' (unhide HBS)).mono ?_
  rintro e w1 ⟨qo, qa, us, rfl, ho1, hall, hlen, hb1⟩
  have HB1 := hide hb1
  have HUB : Hid (upsB us = true) := hide (List.all_eq_true.2 (fun x hx => drU_right (List.all_eq_true.1 hall x hx)))
  have HU1 := hide (ownUps ho1 (upB_size (unhide HUB)))
  clear hb1 ho1 hall
  obtain ⟨o, t1, ho0, ho1⟩ : ∃ o : Int, (h + 1).tmod 4 = o ∧ 0 ≤ o ∧ o ≤ 3 := ⟨_, rfl, by rw [Int.tmod_eq_emod_of_nonneg (by omega)]; omega, by rw [Int.tmod_eq_emod_of_nonneg (by omega)]; omega⟩
  have wr1 : IntKind.i64.wrap (h + 1) = h + 1 := by rw [IntKind.wrap_i64]; omega
  obtain ⟨P, hP⟩ : ∃ P, P = plL (slN h) 5 us := ⟨_, rfl⟩
  obtain ⟨jc, jl⟩ := jp_yes hh' (unhide HNQ) (unhide HUB) (show us.length ≤ 5 by omega)
  rw [← hP] at jl
  have HJ := hide (And.intro jc jl)
  have HPS : Hid (∀ x ∈ P, x.data.size ≤ maxLen) := hide (by rw [hP]; exact (short_pl (unhide HUB)).sizes)
  have hPL : P.length ≤ 16 := by rw [hP]; exact pl_len _ _ _ (by omega)
  obtain ⟨kk0, hkk, AK⟩ := at_told bo m cb 1 ((P.length : Int) + 1) w hm' (by omega) (by omega) (by omega) (by omega) (unhide HCS)
  obtain ⟨kk, rfl⟩ : ∃ kk : Nat, kk0 = (kk : Int) := ⟨kk0.toNat, by omega⟩
  have HAK := hide AK
  have hkP : kk ≤ P.length := by omega
  obtain ⟨X1, X2, S, R, Z, hcr, hrp, hmid⟩ := jr_atomic (q := 5) hh' ⟨ho0, ho1⟩ (unhide HNQ) (unhide HUB) (show us.length ≤ 5 by omega) kk nn
  rw [← hP] at hcr
  have HCR := hide hcr
  have HRP := hide hrp
  have HMID := hide hmid
  have bz : ((Z.length : Int) != 64) = false := by simp [(diskB_len hrp.d).1]
  have wrP : IntKind.i64.wrap ((P.length : Int) + 1) = (P.length : Int) + 1 := by rw [IntKind.wrap_i64]; omega
  have hn6 : nn ≤ 6 := by omega
  clear hP jc jl AK hcr hrp hmid hkk hnn
  go_wp2_with fail
  refine (unhide HAH _ (unhide HB1)).mono ?_
  rintro e w2 ⟨rfl, hb⟩
  have HB2 := hide (fr (unhide HB1) hb)
  have HW2 := hide hb
  clear hb
  go_wp2_with fail
  refine (journalPlan_impl h 5 qo qa us _ (by omega) ((unhide HU1).below (unhide HW2))).mono ?_
  rintro e w4 ⟨ro, ra, nr, rfl, ha⟩
  rw [(unhide HJ).1]
  rw [(unhide HJ).2] at ha
  obtain rfl := ha.len
  have HI4 := hide (apMv ha (unhide HPS))
  have HB4 := hide (fr (unhide HB2) ha.k)
  have HW4 := hide (fr (unhide HW2) ha.k)
  have hsl := cut_moves ha.o hkP
  clear ha
  go_wp2_with (first | (at_make; refine wpList_make_full _ rfl _ _ 29 rfl w4.heap.size 9 i0 _ 1 Tryd.underlying29 hi hz0 hz1 _ _ _ _ 64 rfl rfl rfl rfl ?c1 ?c2 ?c3 ?_))
  case c1 => rw [hz2]; omega
  case c2 => unfold maxLen; omega
  case c3 => exact Nat.le_refl _
  intro w7 hown hgrow
  have hb : Below w4.heap.size w4 w7 := (Below.refl _ _).grown hgrow (Nat.le_refl _) (fun _ h => by cases h)
  have HS7 : Hid (Ss w7 (some ⟨w4.heap.size, 0, none⟩) e64) := hide (ownS (noSs_own hown) (fun s hs => by rw [List.eq_of_mem_replicate hs]; unfold maxLen; decide))
  have HB7 := hide (fr (unhide HB4) hb)
  have HW7 := hide (fr (unhide HW4) hb)
  have HI7 := hide ((unhide HI4).below hb)
  clear hown hgrow hb
  have HA := hide (Joins.below_alloc1 w7 (.cells #[.slice (some ⟨w4.heap.size, 0, none⟩) 64 64, .slice none 0 0] 32))
  have HV := hide (VarD.new w7 (.slice (some ⟨w4.heap.size, 0, none⟩) 64 64) (.slice none 0 0))
  go_upto_region 8 with fail
  revert HA HV
  generalize (w7.alloc (.cells #[.slice (some ⟨w4.heap.size, 0, none⟩) 64 64, .slice none 0 0] 32)) = W8
  intro HA HV
  have HS8 := hide ((unhide HS7).below (unhide HA))
  have HB8 := hide (fr (unhide HB7) (unhide HA))
  have HW8 := hide (fr (unhide HW7) (unhide HA))
  have HI8 := hide ((unhide HI7).below (unhide HA))
  clear HA
  generalize w7.heap.size = D at *
  generalize w4.heap.size = G at *
  have HMD : Hid (∀ W, Below W8.heap.size W8 W → Calls Tryd.prog 8 #[.agg #[.slice (some ⟨G, 0, none⟩) 64 64, .slice none 0 0], .int .i64 h, .slice ro kk ra] W fun e w' => ∃ g pa ko ka, e = .returned (.tuple #[.agg #[.slice (some ⟨g, 0, none⟩) X1.length pa, .slice ko X2.length ka], .int .i64 0]) ∧ AnsJ w' g pa ko X1 X2 ∧ Below W.heap.size W w') := hide (fun W hW => by
    have hk : (P.take kk).length = kk := by rw [List.length_take]; omega
    have := movesDo_at (some ⟨G, 0, none⟩) 64 none 0 ro ra W e64_disk (by omega) (unhide HCR).dc (unhide HCR).ds (unhide HCR).dx (unhide HCR).d ((unhide HS8).below hW) (ios_take ((unhide HI8).below hW) kk)
    rw [hk, e64_length] at this
    exact this)
  obtain ⟨d0, d1⟩ := (unhide HV).cells
  have hvl := (unhide HV).lt
  have hvn : D ≠ W8.heap.size := Nat.ne_of_lt hvl
  have hvn' : W8.heap.size ≠ D := Ne.symm hvn
  go_cut [11, 12] from 51 to 62 (fun c q wx => ∃ C : Nat, c = .pointer (some ⟨C, 0, none⟩) ∧ q = .int .i64 0 ∧ Hid (GotD W8 wx C X1 X2))
  case first =>
    go_region_held3 (fun w' => w'.cell? ⟨D, 0, none⟩ = some (.slice (some ⟨G, 0, none⟩) 64 64) ∧ w'.cell? ⟨D, 1, none⟩ = some (.slice none 0 0)) (go_keep)
      (first
        | (go_at_call 6; refine (unhide HAK _ (by first | exact (unhide HB8).drew | exact (belowAl (unhide HB8) _).drew)).mono ?_; rintro e w2 ⟨rfl, hb⟩; (first | (have HV2 : Hid (VarD w2 W8.heap.size (.slice none 0 0) (.slice none 0 0)) := (by exact hide (((VarD.new W8 (.slice none 0 0) (.slice none 0 0)).below (Below.refl _ _).drew).below hb)); have HB2x : Hid (Below W8.heap.size W8 w2) := (by exact hide (fr (Joins.below_alloc1 W8 _).drew hb)); clear hb) | (have HB2x : Hid (Below W8.heap.size W8 w2) := (by exact hide (fr ((Below.refl _ W8).drew) hb)); clear hb)); obtain ⟨m0, m1⟩ := ((unhide HV).below (unhide HB2x)).cells; have hv2 := ((unhide HV).below (unhide HB2x)).lt; have nv2 : D ≠ w2.heap.size := Nat.ne_of_lt hv2; have nv2' : w2.heap.size ≠ D := Ne.symm nv2)
        | (go_at_call 8; refine (unhide HMD _ (by first | exact unhide HB2x | exact belowAl (unhide HB2x) _)).mono ?_; rintro e w3 ⟨g, pa, ko, ka, rfl, hr, hb⟩; have HR := hide hr; clear hr; (first | (have HV3 : Hid (VarD w3 W8.heap.size (.slice none 0 0) (.slice none 0 0)) := (by exact hide ((unhide HV2).below hb)); have HB3x : Hid (Below W8.heap.size W8 w3) := (by exact hide (fr (unhide HB2x) hb)); have HLE : Hid (W8.heap.size ≤ W8.heap.size) := hide (Nat.le_refl _); obtain ⟨z0, z1⟩ := (unhide HV3).cells; obtain ⟨q0, q1⟩ := VarD_free (unhide HV3); clear hb) | (have HV3 : Hid (VarD w3 w2.heap.size (.slice none 0 0) (.slice none 0 0)) := (by exact hide ((VarD.new w2 (.slice none 0 0) (.slice none 0 0)).below hb)); have HB3x : Hid (Below W8.heap.size W8 w3) := (by exact hide (fr (belowAl (unhide HB2x) _) hb)); have HLE : Hid (W8.heap.size ≤ w2.heap.size) := hide (unhide HB2x).size; obtain ⟨z0, z1⟩ := (unhide HV3).cells; obtain ⟨q0, q1⟩ := VarD_free (unhide HV3); clear hb) | (have HB3x : Hid (Below W8.heap.size W8 w3) := (by exact hide (fr (unhide HB2x) hb)); clear hb)); obtain ⟨p0, p1⟩ := ((unhide HV).below (unhide HB3x)).cells; have hv3 := ((unhide HV).below (unhide HB3x)).lt; have nv3 : D ≠ w3.heap.size := Nat.ne_of_lt hv3; have nv3' : w3.heap.size ≠ D := Ne.symm nv3))
    all_goals
      go_wp2_with fail
      go_meet
      first
        | exact ⟨_, rfl, rfl, hide (GotD.set (unhide HB3x) (unhide HV3) (unhide HLE) (unhide HR))⟩
        | exact ⟨_, rfl, rfl, hide (GotD.top (unhide HB3x) (unhide HR))⟩
  case rest =>
    obtain ⟨C, rfl, rfl, HGD⟩ := hcut
    rename World => W9
    obtain ⟨g, pa, ko, ka, hans, hvar⟩ := (unhide HGD).v
    have HAN9 := hide hans
    have HV9 := hide hvar
    have HB9 := hide (fr (unhide HB8) (unhide HGD).k)
    have HW9 := hide (fr (unhide HW8) (unhide HGD).k)
    clear hans hvar d0 d1 hvl hvn hvn' hsl HMD HV
    have HLO : Hid (∀ W, Below W9.heap.size W9 W → Calls Tryd.prog 9 #[.agg #[.slice (some ⟨g, 0, none⟩) X1.length pa, .slice ko X2.length ka], .int .i64 h, .int .i64 (nn : Int)] W fun e w' => ∃ g pa ko ka, e = .returned (.tuple #[.agg #[.slice (some ⟨g, 0, none⟩) S.length pa, .slice ko ([] : List Wr).length ka], .int .i64 0]) ∧ AnsJ w' g pa ko S [] ∧ Below W.heap.size W w') := hide (fun W hW => lose_at (some ⟨g, 0, none⟩) pa ko ka nn W hh' (by omega) (unhide HCR).d (unhide HCR).t (unhide HCR).x (unhide HCR).dt ((unhide HAN9).below hW).2.1 ((unhide HAN9).below hW).2.2)
    obtain ⟨d0, d1⟩ := (unhide HV9).cells
    have hvl := (unhide HV9).lt
    have hvn : C ≠ W9.heap.size := Nat.ne_of_lt hvl
    have hvn' : W9.heap.size ≠ C := Ne.symm hvn
    go_upto_region 9 with fail
    go_cut [13, 14] from 64 to 70 (fun c q wx => ∃ C' : Nat, c = .pointer (some ⟨C', 0, none⟩) ∧ q = .int .i64 0 ∧ Hid (GotD W9 wx C' S []))
    case first =>
      go_region_held3 (fun w' => w'.cell? ⟨C, 0, none⟩ = some (.slice (some ⟨g, 0, none⟩) X1.length pa) ∧ w'.cell? ⟨C, 1, none⟩ = some (.slice ko X2.length ka)) (go_keep)
        (first
          | (go_at_call 6; refine (unhide HAN _ (by first | exact (unhide HB9).drew | exact (belowAl (unhide HB9) _).drew)).mono ?_; rintro e w2 ⟨rfl, hb⟩; (first | (have HV2 : Hid (VarD w2 W9.heap.size (.slice none 0 0) (.slice none 0 0)) := (by exact hide (((VarD.new W9 (.slice none 0 0) (.slice none 0 0)).below (Below.refl _ _).drew).below hb)); have HB2x : Hid (Below W9.heap.size W9 w2) := (by exact hide (fr (Joins.below_alloc1 W9 _).drew hb)); clear hb) | (have HB2x : Hid (Below W9.heap.size W9 w2) := (by exact hide (fr ((Below.refl _ W9).drew) hb)); clear hb)); obtain ⟨m0, m1⟩ := ((unhide HV9).below (unhide HB2x)).cells; have hv2 := ((unhide HV9).below (unhide HB2x)).lt; have nv2 : C ≠ w2.heap.size := Nat.ne_of_lt hv2; have nv2' : w2.heap.size ≠ C := Ne.symm nv2)
          | (go_at_call 9; refine (unhide HLO _ (by first | exact unhide HB2x | exact belowAl (unhide HB2x) _)).mono ?_; rintro e w3 ⟨g', pa', ko', ka', rfl, hr, hb⟩; have HR := hide hr; clear hr; (first | (have HV3 : Hid (VarD w3 W9.heap.size (.slice none 0 0) (.slice none 0 0)) := (by exact hide ((unhide HV2).below hb)); have HB3x : Hid (Below W9.heap.size W9 w3) := (by exact hide (fr (unhide HB2x) hb)); have HLE : Hid (W9.heap.size ≤ W9.heap.size) := hide (Nat.le_refl _); obtain ⟨z0, z1⟩ := (unhide HV3).cells; obtain ⟨q0, q1⟩ := VarD_free (unhide HV3); clear hb) | (have HV3 : Hid (VarD w3 w2.heap.size (.slice none 0 0) (.slice none 0 0)) := (by exact hide ((VarD.new w2 (.slice none 0 0) (.slice none 0 0)).below hb)); have HB3x : Hid (Below W9.heap.size W9 w3) := (by exact hide (fr (belowAl (unhide HB2x) _) hb)); have HLE : Hid (W9.heap.size ≤ w2.heap.size) := hide (unhide HB2x).size; obtain ⟨z0, z1⟩ := (unhide HV3).cells; obtain ⟨q0, q1⟩ := VarD_free (unhide HV3); clear hb) | (have HB3x : Hid (Below W9.heap.size W9 w3) := (by exact hide (fr (unhide HB2x) hb)); clear hb)); obtain ⟨p0, p1⟩ := ((unhide HV9).below (unhide HB3x)).cells; have hv3 := ((unhide HV9).below (unhide HB3x)).lt; have nv3 : C ≠ w3.heap.size := Nat.ne_of_lt hv3; have nv3' : w3.heap.size ≠ C := Ne.symm nv3))
      all_goals
        go_wp2_with fail
        go_meet
        first
          | exact ⟨_, rfl, rfl, hide (GotD.set (unhide HB3x) (unhide HV3) (unhide HLE) (unhide HR))⟩
          | exact ⟨_, rfl, rfl, hide (GotD.top (unhide HB3x) (unhide HR))⟩
    case rest =>
      obtain ⟨Y, rfl, rfl, HGY⟩ := hcut
      rename World => WA
      obtain ⟨gy, pb, kb, kc, hans, hvar⟩ := (unhide HGY).v
      simp only [List.length_nil] at hvar
      have HAA := hide hans
      have HVA := hide hvar
      have HBA := hide (fr (unhide HB9) (unhide HGY).k)
      have HWA := hide (fr (unhide HW9) (unhide HGY).k)
      clear hans hvar d0 d1 hvl hvn hvn' HLO HV9
      have HSL : Hid (S.length ≤ maxLen) := hide (by rw [(diskB_len (unhide HCR).dt).1]; unfold maxLen; omega)
      obtain ⟨d0, d1⟩ := (unhide HVA).cells
      have hvl := (unhide HVA).lt
      go_wp2_with fail
      refine ((show Calls Tryd.prog 10 #[.agg #[.slice (some ⟨gy, 0, none⟩) S.length pb, .slice kb 0 kc], .int .i64 o, .int .i64 h] WA _ from replayPlan_impl (some ⟨gy, 0, none⟩) kb pb kc S [] o h WA (unhide HSL) (by simp) (unhide HAA).2.1 (fun i hi => absurd hi (Nat.not_lt_zero _)) ((unhide HE).below (unhide HBA)))).mono ?_
      rintro e wB ⟨r2, ra2, nr, rfl, ha⟩
      rw [(unhide HRP).c]
      rw [(unhide HRP).m] at ha
      obtain rfl := ha.len
      have hb := ha.k
      have HIB := hide (apMv ha (unhide HRP).s.sizes)
      have HAB := hide ((unhide HAA).below hb)
      have HVB := hide ((unhide HVA).below hb)
      have HBB := hide (fr (unhide HBA) hb)
      have HWB := hide (fr (unhide HWA) hb)
      clear ha hb d0 d1 hvl
      obtain ⟨d0, d1⟩ := (unhide HVB).cells
      have hvl := (unhide HVB).lt
      go_wp2_with fail
      refine ((show Calls Tryd.prog 11 #[.agg #[.slice (some ⟨gy, 0, none⟩) S.length pb, .slice kb 0 kc], .int .i64 o, .int .i64 h] wB _ from replayPlan_spec (some ⟨gy, 0, none⟩) kb pb kc S [] o h wB (unhide HSL) (by simp) (unhide HAB).2.1 (fun i hi => absurd hi (Nat.not_lt_zero _)))).mono ?_
      rintro e wC ⟨r3, ra3, nr, rfl, ha⟩
      rw [(unhide HRP).c]
      rw [(unhide HRP).m] at ha
      obtain rfl := ha.len
      have hb := ha.k
      have HJC := hide (apMv ha (unhide HRP).s.sizes)
      have HIC := hide ((unhide HIB).below hb)
      have HAC := hide ((unhide HAB).below hb)
      have HVC := hide ((unhide HVB).below hb)
      have HBC := hide (fr (unhide HBB) hb)
      have HWC := hide (fr (unhide HWB) hb)
      clear ha hb d0 d1 hvl
      obtain ⟨d0, d1⟩ := (unhide HVC).cells
      have hvl := (unhide HVC).lt
      go_wp2_with fail
      refine (movesDo_at (some ⟨gy, 0, none⟩) pb kb kc r2 ra2 wC (unhide HCR).dt (Nat.le_trans (unhide HRP).l (by omega)) (unhide HRP).dc (unhide HRP).ds (unhide HRP).dx (unhide HRP).d (unhide HAC).2.1 (unhide HIC)).mono ?_
      rintro e wD ⟨gz, pz, kz, lz, rfl, hans, hb⟩
      have HAD := hide hans
      have HID := hide ((unhide HIC).below hb)
      have HJD := hide ((unhide HJC).below hb)
      have HBD := hide (fr (unhide HBC) hb)
      have HWD := hide (fr (unhide HWC) hb)
      clear hans hb d0 d1 hvl
      have HA := hide (Joins.below_alloc1 wD (.cells #[.slice (some ⟨gz, 0, none⟩) Z.length pz, .slice kz 0 lz] 32))
      have HV := hide (VarD.new wD (.slice (some ⟨gz, 0, none⟩) Z.length pz) (.slice kz 0 lz))
      go_upto_region 13 with fail
      revert HA HV
      generalize (wD.alloc (.cells #[.slice (some ⟨gz, 0, none⟩) Z.length pz, .slice kz 0 lz] 32)) = WE
      intro HA HV
      have HAE := hide ((unhide HAD).below (unhide HA))
      have HIE := hide ((unhide HID).below (unhide HA))
      have HJE := hide ((unhide HJD).below (unhide HA))
      have HBE := hide (fr (unhide HBD) (unhide HA))
      have HWE := hide (fr (unhide HWD) (unhide HA))
      clear HA
      generalize wD.heap.size = X at *
      go_wp2_with fail
      refine (sameMoves_same r2 r3 ra2 ra3 R _ (by have := (unhide HRP).l; unfold maxLen; omega) (unhide HIE) (unhide HJE)).mono ?_
      rintro e wF ⟨rfl, hb⟩
      have HAF := hide ((unhide HAE).below hb)
      have HVF := hide ((unhide HV).below hb)
      have HBF := hide (fr (unhide HBE) hb)
      have HWF := hide (fr (unhide HWE) hb)
      clear hb HV
      obtain ⟨d0, d1⟩ := (unhide HVF).cells
      have hvl := (unhide HVF).lt
      obtain ⟨k1, k2, _⟩ := je_read (o := o) (unhide HRP).d ⟨ho0, ho1⟩ hh' (unhide HRP).e
      have HK := hide (And.intro k1 k2)
      clear k1 k2
      have HZL : Hid (Z.length = 64) := hide (diskB_len (unhide HRP).d).1
      go_wp2_with fail
      refine ((show Calls Tryd.prog 13 #[.agg #[.slice (some ⟨gz, 0, none⟩) Z.length pz, .slice kz 0 lz], .int .i64 o, .int .i64 h] wF _ from journalOf_impl (some ⟨gz, 0, none⟩) kz pz lz Z [] o h wF (by rw [unhide HZL]; unfold maxLen; omega) (by simp) (unhide HAF).2.1 (fun i hi => absurd hi (Nat.not_lt_zero _)) ((unhide HE).below (unhide HBF)))).mono ?_
      rintro e wG ⟨lo, la, nl, rfl, hu⟩
      rw [(unhide HK).1]
      rw [(unhide HK).2] at hu
      obtain rfl := hu.len
      have hb := hu.k
      have HAG := hide ((unhide HAF).below hb)
      have HVG := hide ((unhide HVF).below hb)
      have HBG := hide (fr (unhide HBF) hb)
      have HWG := hide (fr (unhide HWF) hb)
      clear hu hb d0 d1 hvl
      go_wp2_with (first | (at_make; refine wpList_make_full _ rfl _ _ 29 rfl wG.heap.size 9 i0 _ 1 Tryd.underlying29 hi hz0 hz1 _ _ _ _ 64 rfl rfl rfl rfl ?c1 ?c2 ?c3 ?_))
      case c1 => rw [hz2]; omega
      case c2 => unfold maxLen; omega
      case c3 => exact Nat.le_refl _
      intro wH hown hgrow
      have hb : Below wG.heap.size wG wH := (Below.refl _ _).grown hgrow (Nat.le_refl _) (fun _ h => by cases h)
      have HOH := hide (noSs_own hown)
      have HSE : Hid (Ss wH (some ⟨wG.heap.size, 0, none⟩) e64) := hide (ownS (noSs_own hown) (fun s hs => by rw [List.eq_of_mem_replicate hs]; unfold maxLen; decide))
      have HBH := hide hb
      have HUG := hide ((unhide HU1).below (unhide HWG))
      clear hown hgrow hb
      have hpz := (unhide HAG).1
      have HCALL : Hid (∀ W, Below wH.heap.size wH W → Calls Tryd.prog 14 #[.slice (some ⟨gz, 9, none⟩) 30 (pz - 9), .slice (some ⟨wG.heap.size, 9, none⟩) 30 55] W fun e w' => ∃ b : Bool, e = .returned (.bool b) ∧ (mid Z = mid e64 → b = true) ∧ Below W.heap.size W w') := hide (fun W hW => by
        have h1 := ss_mid ((((unhide HAG).below (unhide HBH)).below hW).2.1) (unhide HZL)
        have h2 := ss_mid ((unhide HSE).below hW) e64_length
        have := sameTexts_any (some ⟨gz, 9, none⟩) (some ⟨wG.heap.size, 9, none⟩) (pz - 9) 55 (mid Z) (mid e64) W (by rw [mid_len (unhide HZL)]; unfold maxLen; omega) (by rw [mid_len (unhide HZL), mid_len e64_length]) h1 h2
        rw [mid_len (unhide HZL), mid_len e64_length] at this
        exact this)
      have HVH := hide ((unhide HVG).below (unhide HBH))
      obtain ⟨x0, x1⟩ := (unhide HVH).cells
      have hp39 : (39 : Int) ≤ (pz : Int) := by omega
      have hp9 : ¬ pz = 9 := by omega
      go_upto_region 17 with fail
      go_cut [25] from 137 to 142 (fun c wx => ∃ b : Bool, c = .bool b ∧ Hid (mid Z = mid e64 → b = true) ∧ Hid (Below wH.heap.size wH wx))
      case first =>
        go_region_with (go_at_call 14; refine (unhide HCALL _ (by exact (Below.refl _ wH).drew)).mono ?_; rintro e wE ⟨b, rfl, hbt, hb⟩; have HBX := hide hb; have HBT := hide hbt; clear hb hbt)
        all_goals
          go_wp2_with fail
          go_meet
          exact ⟨_, rfl, HBT, hide (fr (Below.refl _ wH).drew (unhide HBX))⟩
      case rest =>
        obtain ⟨bn, rfl, HBT, HBI⟩ := hcut
        rename World => WI
        have HOI := hide (own_below (unhide HOH) (unhide HBI))
        have HGI := hide (fr (unhide HBH) (unhide HBI))
        clear HCALL x0 x1
        go_wp2
        go_loopw [26] (fun i wr => ∃ (k : Nat), k ≤ us.length ∧ i = .int .i64 k ∧ Hid (wr.ownsRow wG.heap.size 9 1 (.slice (some ⟨wG.heap.size, 0, none⟩) 64 64) 64 (strV (putW e64 ((chL us).take k)))) ∧ Hid (Below wG.heap.size wG wr)) (fun i _ => us.length - (intOf i).toNat)
        case atStart => exact ⟨0, Nat.zero_le _, rfl, HOI, HGI⟩
        case round =>
          obtain ⟨k, hk, rfl, HO, HW⟩ := hrel
          by_cases hlt : k < us.length
          · obtain ⟨b, off, rfl, hc0, hc1, hcz⟩ := (unhide HUG).below (unhide HW) k hlt
            have hbl : b < wG.heap.size := by
              obtain ⟨b', off', e', hc', _⟩ := (unhide HUG) k hlt
              simp only [Option.some.injEq, Addr.mk.injEq, and_true] at e'
              obtain ⟨rfl, rfl⟩ := e'
              exact World.block_lt_of_cell? _ _ hc'
            have hup := (upB_iff.1 (upsB_at (unhide HUB) hlt)).1
            obtain ⟨a, ha⟩ : ∃ a : Nat, us[k].at_ = (a : Int) := ⟨us[k].at_.toNat, by omega⟩
            have ha64 : a < 64 := by omega
            have HAX : Hid (us[k].at_.toNat = a) := hide (by omega)
            have hfr := (unhide HO).frozenAt a
            obtain ⟨y0, hcx⟩ : ∃ x, wr.cell? ⟨wG.heap.size, a, none⟩ = some x := ⟨_, ((unhide HO).cellAt a (by omega)).trans (List.getElem?_eq_getElem (by rw [(unhide HO).1]; omega))⟩
            have HST := hide ((unhide HO).stored a (.string us[k].data))
            rw [ha] at hc0
            clear hcz hup ha
            have hki : (k : Int) < (us.length : Int) := by omega
            have hk0 : (0 : Int) ≤ (k : Int) := by omega
            have hne : b ≠ wG.heap.size := by omega
            have ha0 : (0 : Int) ≤ (a : Int) := by omega
            have ha1 : (a : Int) < 64 := by omega
            go_wp2_with fail
            go_region_with fail
            all_goals
              go_wp2
              go_roundw
              case rel =>
                refine ⟨k + 1, by omega, by go_num, hide ?_, hide ?_⟩
                · rw [due_take hlt, unhide HAX, ← strV_set]
                  exact own_below (unhide HST).1 (Below.refl _ _).drew
                · exact ((unhide HW).grown (unhide HST).2 (unhide HW).size (fun k h => by cases h; exact Nat.le_refl _)).drew
              case measure => simp [intOf]; omega
          · obtain rfl : k = us.length := by omega
            have HDL : Hid ((due us).length = 64) := hide (by rw [due, put_len, e64_length])
            have HSU : Hid (Ss wr (some ⟨wG.heap.size, 0, none⟩) (due us)) := hide (by
              have h1 := unhide HO
              rw [chL_done (Nat.le_refl _)] at h1
              have h2 : wr.ownsRow wG.heap.size 9 1 (.slice (some ⟨wG.heap.size, 0, none⟩) (due us).length 64) (due us).length (strV (due us)) := by rw [unhide HDL]; exact h1
              exact ownS h2 (put_mem (P := fun s => s.size ≤ maxLen) _ _ (fun s hs => by rw [List.eq_of_mem_replicate hs]; unfold maxLen; decide) (short_ch (unhide HUB)).sizes))
            have HVR := hide ((unhide HVG).below (unhide HW))
            obtain ⟨x0, x1⟩ := (unhide HVR).cells
            by_cases hbn : bn = true
            · subst hbn
              go_wp2_with fail
              go_quiet (fail)
              all_goals
                go_wp2
                go_ret
                exact ⟨rfl, (fr (unhide HBG) (unhide HW)).trans (Joins.below_draws _ _ _)⟩
            · have hbn' : bn = false := by simpa using hbn
              have HZM : Hid (mid Z = mid (due us)) := hide ((unhide HMID).resolve_left (fun e => hbn (unhide HBT e)))
              subst hbn'
              have HCALL : Hid (∀ W, Below wr.heap.size wr W → Calls Tryd.prog 14 #[.slice (some ⟨gz, 9, none⟩) 30 (pz - 9), .slice (some ⟨wG.heap.size, 9, none⟩) 30 55] W fun e w' => e = .returned (.bool true) ∧ Below W.heap.size W w') := hide (fun W hW => by
                have h1 := ss_mid ((((unhide HAG).below (unhide HW)).below hW).2.1) (unhide HZL)
                have h2 := ss_mid ((unhide HSU).below hW) (unhide HDL)
                rw [← unhide HZM] at h2
                have := sameTexts_same (some ⟨gz, 9, none⟩) (some ⟨wG.heap.size, 9, none⟩) (pz - 9) 55 (mid Z) W (by rw [mid_len (unhide HZL)]; unfold maxLen; omega) h1 h2
                rw [mid_len (unhide HZL)] at this
                exact this)
              clear hbn
              go_wp2_with fail
              go_region_held3 (fun w' => w'.cell? ⟨X, 0, none⟩ = some (.slice (some ⟨gz, 0, none⟩) Z.length pz)) (go_keep)
                ((go_at_call 14; refine (unhide HCALL _ (by exact (Below.refl _ wr).drew)).mono ?_; rintro e wE ⟨rfl, hb⟩; have HBX := hide hb; obtain ⟨m0, m1⟩ := ((unhide HVR).below (fr (Below.refl _ wr).drew hb)).cells; clear hb))
              all_goals
                go_wp2
                go_ret
                exact ⟨rfl, fr (fr (fr (unhide HBG) (unhide HW)) (Below.refl _ wr).drew) (unhide HBX)⟩
end Go.Proofs.YtefnapcegeojoaaDoor
