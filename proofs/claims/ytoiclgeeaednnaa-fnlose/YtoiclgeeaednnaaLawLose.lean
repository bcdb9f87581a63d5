/- The walk of laws.FnLose. -/
import Derived.Test.YtoiclgeeaednnaaRows
import Derived.Test.YtoiclgeeaednnaaGen
import Derived.Test.YtoiclgeeaednnaaKeep
import Derived.Test.YtoiclgeeaednnaaDiskW
import Derived.Test.YtoiclgeeaednnaaPendI
import Derived.Test.YtoiclgeeaednnaaDrop
import Derived.Test.YtoiclgeeaednnaaLandP
import Derived.Test.YtoiclgeeaednnaaSrc
import Derived.Test.YtoiclgeeaednnaaSrcG
import Derived.Test.YtoiclgeeaednnaaAtN
import Derived.Test.YtoiclgeeaednnaaSrcE
import Derived.Test.YtoiclgeeaednnaaSrcF
import Derived.Test.YtoiclgeeaednnaaSrcI
import Derived.Test.YtoiclgeeaednnaaSameD
import Derived.Test.YtoiclgeeaednnaaLawDk
import Derived.WalkKit
import Derived.WalkSpells
import Derived.Deep.RegionHeld3
import Derived.Deep.RegionWith
namespace Go.Proofs.Ytoiclgeeaednnaa
open Go.RowKit
set_option linter.unusedVariables false

set_option maxRecDepth 100000 in
set_option maxHeartbeats 3200000 in
theorem lawLose (ao : Option Addr) (ca n1 : Nat) (bo : Option Addr) (cb n2 : Nat) (w : World) (hn : n1 ≤ maxLen) (hB : Bs w ao n1) (hm : n2 ≤ maxLen) (hD : Bs w bo n2) :
    Calls Try.prog 4 #[.slice ao n1 ca, .slice bo n2 cb] w fun e w' => e = .returned (.bool true) ∧ Below w.heap.size w w' := by
  unfold maxLen at hn hm
  have S0 : Hid (Se w w bo n2 []) := hide ⟨Below.refl _ _, hD, (fun p hp => by cases hp), (fun p hp => by cases hp)⟩
  have HB := hide hB
  clear hB hD
  by_cases h : 1048576 < n1
  · go_enter Try.func4, Try.ntmps4
    go_wp2
    go_ret
    exact ⟨rfl, Below.refl _ _⟩
  by_cases h' : 1048576 < n2
  · go_enter Try.func4, Try.ntmps4
    go_wp2
    go_ret
    exact ⟨rfl, Below.refl _ _⟩
  have hn' : n1 ≤ 1048576 := by omega
  have hm' : n2 ≤ 1048576 := by omega
  clear hn hm h h'
  go_enter Try.func4, Try.ntmps4
  go_wp2_with fail
  refine (diskOf_any ao n1 ca _ hn' (unhide HB)).mono ?_
  rintro e w1 ⟨ss, xs, po, pa, qo, qa, rfl, hd, hl, hs1, hi1, hb1⟩
  have S1 := hide (((unhide S0).next hb1).new (pa := pa) (qa := qa) hs1 hi1)
  have HD := hide hd
  have H64 := hide (diskB_len hd).1
  clear hd hs1 hi1 hb1 S0 HB
  go_wp2_with fail
  revert S1
  generalize w1.alloc (.cells #[.slice po ss.length pa, .slice qo xs.length qa] 26) = W1
  generalize w1.heap.size = C0
  intro S1
  refine (at_any bo n2 cb 0 4 _ hm' (by omega) (by omega) (by omega) (by omega) (unhide S1).b).mono ?_
  rintro e w2 ⟨h, rfl, h0, h4, hb⟩
  have S2 := hide ((unhide S1).next hb)
  clear hb S1
  go_wp2_with fail
  refine (at_any bo n2 cb 1 6 _ hm' (by omega) (by omega) (by omega) (by omega) (unhide S2).b).mono ?_
  rintro e w3 ⟨kp, rfl, kp0, kp6, hb⟩
  have S3 := hide ((unhide S2).next hb).dropB
  clear hb S2
  obtain ⟨kk, rfl⟩ := Int.eq_ofNat_of_zero_le kp0
  have h3 : h ≤ 3 := by omega
  have kk6 : kk < 6 := by omega
  obtain ⟨nn, hnn⟩ : ∃ y, (ofH h xs).length = y := ⟨_, rfl⟩
  have HNN := hide hnn
  have nn19 : nn ≤ 19 := by rw [← hnn]; exact Nat.le_trans (List.length_filter_le _ _) hl
  obtain ⟨SS, hSS⟩ : ∃ y, putW ss ((ofH h xs).take kk) = y := ⟨_, rfl⟩
  obtain ⟨XX, hXX⟩ : ∃ y, dropF h xs = y := ⟨_, rfl⟩
  have HSS := hide hSS
  have HXX := hide hXX
  have HD1 : Hid (diskB SS XX = true) := hide (by rw [← hSS, ← hXX]; exact diskB_put (unhide HD) (fun x hx => of_mem (List.mem_of_mem_take hx)) (fun x hx => drop_mem hx) (drop_le h xs))
  have HO1 : Hid ((ofH h XX).length = 0) := hide (by rw [← hXX, of_drop]; rfl)
  have hS64 : ((SS.length : Int) == 64) = true := by rw [← hSS, put_len, unhide H64]; rfl
  have hpl : ((XX.length : Int) == (xs.length : Int) - (nn : Int)) = true := by
    have := drop_len h xs
    rw [hXX, hnn] at this
    simp
    omega
  have hle : nn ≤ xs.length := by rw [← hnn]; exact List.length_filter_le _ _
  clear hnn hSS hXX kp0 kp6
  obtain ⟨a0, c0, b0, d0, hdv⟩ := (unhide S3).dv (C0, ss, xs) (by simp)
  obtain ⟨v0, v1⟩ := hdv.var.cells
  go_wp2_with fail
  refine (lose_in a0 b0 c0 d0 ss xs _ h kk SS XX (unhide HSS) (unhide HXX) (by omega) (unhide HD) h0 h3 hdv.s hdv.i).mono ?_
  rintro e w4 ⟨po1, pa1, qo1, qa1, rfl, hs4, hi4, hb4⟩
  have S4 := hide (((unhide S3).next hb4).new (pa := pa1) (qa := qa1) hs4 hi4)
  clear hs4 hi4 hb4 S3 hdv v0 v1
  obtain ⟨a1, c1, b1, d1, hdv⟩ := (unhide S4).dv (C0, ss, xs) (by simp)
  obtain ⟨v0, v1⟩ := hdv.var.cells
  have HV1 := hide hdv
  clear hdv
  go_wp2_with fail
  clear v0 v1
  revert S4 HV1
  generalize w4.alloc (.cells #[.slice po1 SS.length pa1, .slice qo1 XX.length qa1] 26) = W4
  generalize w4.heap.size = C1
  intro S4 HV1
  refine (loseS_in a1 b1 c1 d1 ss xs _ h kk SS XX (unhide HSS) (unhide HXX) (by omega) (unhide HD) h0 h3 (unhide HV1).s (unhide HV1).i).mono ?_
  rintro e w5 ⟨po2, pa2, qo2, qa2, rfl, hs5, hi5, hb5⟩
  have S5 := hide (((unhide S4).next hb5).new (pa := pa2) (qa := qa2) hs5 hi5)
  clear hs5 hi5 hb5 S4 HV1
  obtain ⟨a2, c2, b2, d2, hdv⟩ := (unhide S5).dv (C0, ss, xs) (by simp)
  obtain ⟨v0, v1⟩ := hdv.var.cells
  have HV1 := hide hdv
  clear hdv
  go_wp2_with fail
  clear v0 v1
  revert S5 HV1
  generalize w5.alloc (.cells #[.slice po2 SS.length pa2, .slice qo2 XX.length qa2] 26) = W5
  generalize w5.heap.size = C2
  intro S5 HV1
  refine (pend_in a2 b2 c2 d2 ss xs _ h nn (unhide HNN) (unhide HD) h0 h3 (unhide HV1).s (unhide HV1).i).mono ?_
  rintro e w6 ⟨rfl, hb⟩
  have S6 := hide ((unhide S5).next hb)
  clear hb S5 HV1
  obtain ⟨a3, c3, b3, d3, hdv⟩ := (unhide S6).dv (C1, SS, XX) (by simp)
  obtain ⟨v0, v1⟩ := hdv.var.cells
  go_wp2_with fail
  refine (pend_in a3 b3 c3 d3 SS XX _ h 0 (unhide HO1) (unhide HD1) h0 h3 hdv.s hdv.i).mono ?_
  rintro e w7 ⟨rfl, hb⟩
  have S7 := hide ((unhide S6).next hb)
  clear hb S6 hdv v0 v1
  obtain ⟨a4, c4, b4, d4, hdv⟩ := (unhide S7).dv (C0, ss, xs) (by simp)
  obtain ⟨v0, v1⟩ := hdv.var.cells
  have S8 := hide ((unhide S7).new (pa := c4) (qa := d4) hdv.s hdv.i)
  have HNE : Hid (∀ p ∈ [(C2, SS, XX), (C1, SS, XX), (C0, ss, xs)], p.1 ≠ w7.heap.size) := hide (fun p hp => Nat.ne_of_lt ((unhide S7).lt p hp))
  clear hdv S7
  go_wp2
  clear v0 v1
  revert S8 HNE
  generalize w7.alloc (.cells #[.slice a4 ss.length c4, .slice b4 xs.length d4] 26) = W8
  generalize w7.heap.size = Y
  intro S8 HNE
  go_loopw [17] (fun i wr => ∃ (j : Nat) (Sj : List ByteArray) (Xj : List Wr), j ≤ kk ∧ j ≤ nn ∧ i = .int .i64 j ∧ Hid (putW ss ((ofH h xs).take j) = Sj) ∧ Hid (remH h j xs = Xj) ∧ Hid (Se w wr bo 0 [(Y, Sj, Xj), (C2, SS, XX), (C1, SS, XX), (C0, ss, xs)])) (fun i _ => kk - (intOf i).toNat)
  case atStart => exact ⟨0, ss, xs, Nat.zero_le _, Nat.zero_le _, rfl, hide rfl, hide (remH_zero h xs), S8⟩
  case round =>
    obtain ⟨j, Sj, Xj, hjk, hjn, rfl, HSJ, HXJ, HE⟩ := hrel
    have HDJ : Hid (diskB Sj Xj = true) := hide (by rw [← unhide HSJ, ← unhide HXJ]; exact diskB_put (unhide HD) (fun x hx => of_mem (List.mem_of_mem_take hx)) (fun x hx => rem_mem j hx) (rem_len j xs))
    by_cases h1 : j < kk
    · by_cases h2 : j < nn
      · obtain ⟨S', hS'⟩ : ∃ y, putW ss ((ofH h xs).take (j + 1)) = y := ⟨_, rfl⟩
        obtain ⟨X', hX'⟩ : ∃ y, remH h (j + 1) xs = y := ⟨_, rfl⟩
        have HS' := hide hS'
        have HX' := hide hX'
        have e1 : Hid (putW Sj ((ofH h Xj).take 1) = S') := hide (by rw [← hS', ← unhide HSJ, ← unhide HXJ, of_rem]; exact put_more ss (ofH h xs) j)
        have e2 : Hid (remH h 1 Xj = X') := hide (by rw [← hX', ← unhide HXJ]; exact rem_rem h j xs)
        have e3 : Hid (¬ (ofH h Xj).length = 0) := hide (by rw [← unhide HXJ, of_rem, List.length_drop, unhide HNN]; omega)
        clear hS' hX'
        obtain ⟨a5, c5, b5, d5, hdv⟩ := (unhide HE).dv (Y, Sj, Xj) (by simp)
        obtain ⟨v0, v1⟩ := hdv.var.cells
        go_wp2_with fail
        refine (one_in a5 b5 c5 d5 Sj Xj _ h S' X' (unhide e1) (unhide e2) (unhide e3) (unhide HDJ) h0 h3 hdv.s hdv.i).mono ?_
        rintro e w9 ⟨po3, pa3, qo3, qa3, rfl, hs9, hi9, hb9⟩
        have S9 := hide (((unhide HE).next hb9).new (pa := pa3) (qa := qa3) hs9 hi9)
        have HS9 := hide (hs9.below (Joins.below_alloc1 w9 (.cells #[.slice po3 S'.length pa3, .slice qo3 X'.length qa3] 26)))
        have HI9 := hide (hi9.below (Joins.below_alloc1 w9 (.cells #[.slice po3 S'.length pa3, .slice qo3 X'.length qa3] 26)))
        clear hdv v0 v1 hs9 hi9 hb9
        obtain ⟨a6, c6, b6, d6, hdv⟩ := (unhide S9).dv (Y, Sj, Xj) (by simp)
        obtain ⟨v0, v1⟩ := hdv.var.cells
        have f0 := hdv.var.free 0
        have f1 := hdv.var.free 1
        have S10 := hide (Se.store (pa := pa3) (qa := qa3) ((unhide S9).sub (L' := [(Y, Sj, Xj), (C2, SS, XX), (C1, SS, XX), (C0, ss, xs)]) (fun p hp => List.mem_cons_of_mem _ hp)) (unhide HNE) (unhide HS9) (unhide HI9))
        clear hdv S9 HS9 HI9
        go_wp2
        go_roundw
        case rel => exact ⟨j + 1, S', X', by omega, by omega, by go_num, HS', HX', S10⟩
        case measure => simp [intOf]; omega
      · have hSy : Hid (Sj = SS) := hide (by
          rw [← unhide HSJ, ← unhide HSS]
          by_cases e : j = kk
          · rw [e]
          · have ej : j = nn := by omega
            rw [List.take_of_length_le (by rw [unhide HNN]; omega), List.take_of_length_le (by rw [unhide HNN]; omega)])
        have g1 : Hid (putW Sj ((ofH h Xj).take 0) = SS) := hide (by rw [List.take_zero]; exact unhide hSy)
        have g2 : Hid (dropF h Xj = XX) := hide (by rw [← unhide HXJ, drop_rem]; exact unhide HXX)
        obtain ⟨a7, c7, b7, d7, hdv⟩ := (unhide HE).dv (Y, Sj, Xj) (by simp)
        obtain ⟨v0, v1⟩ := hdv.var.cells
        go_wp2_with fail
        refine (lose_in a7 b7 c7 d7 Sj Xj _ h 0 SS XX (unhide g1) (unhide g2) (by omega) (unhide HDJ) h0 h3 hdv.s hdv.i).mono ?_
        rintro e w11 ⟨po4, pa4, qo4, qa4, rfl, hs11, hi11, hb11⟩
        have S11 := hide (((unhide HE).next hb11).new (pa := pa4) (qa := qa4) hs11 hi11)
        clear hdv v0 v1 hs11 hi11 hb11
        obtain ⟨a8, c8, b8, d8, hdv⟩ := (unhide S11).dv (C1, SS, XX) (by simp)
        obtain ⟨v0, v1⟩ := hdv.var.cells
        obtain ⟨a9, c9, b9, d9, hdw⟩ := (unhide S11).dv (C2, SS, XX) (by simp)
        obtain ⟨u0, u1⟩ := hdw.var.cells
        have HV1 := hide hdv
        have HV2 := hide hdw
        obtain ⟨l1, l2⟩ := len_in (unhide HD1)
        have HL1 := hide l1
        have HL2 := hide l2
        clear l1 l2 hdv hdw
        go_wp2_with fail
        clear v0 v1 u0 u1
        revert S11 HV1 HV2
        generalize w11.alloc (.cells #[.slice po4 SS.length pa4, .slice qo4 XX.length qa4] 26) = W11
        generalize w11.heap.size = G
        intro S11 HV1 HV2
        refine (sameDisk_same a8 b8 a9 b9 c8 d8 c9 d9 SS XX _ (unhide HL1) (unhide HL2) (unhide HV1).s (unhide HV1).i (unhide HV2).s (unhide HV2).i).mono ?_
        rintro e w12 ⟨rfl, hb⟩
        have S12 := hide ((unhide S11).next hb)
        clear hb S11 HV1 HV2
        obtain ⟨a10, c10, b10, d10, hdv⟩ := (unhide S12).dv (G, SS, XX) (by simp)
        obtain ⟨v0, v1⟩ := hdv.var.cells
        obtain ⟨a11, c11, b11, d11, hdw⟩ := (unhide S12).dv (C1, SS, XX) (by simp)
        obtain ⟨u0, u1⟩ := hdw.var.cells
        go_wp2_with fail
        refine (sameDisk_same a10 b10 a11 b11 c10 d10 c11 d11 SS XX _ (unhide HL1) (unhide HL2) hdv.s hdv.i hdw.s hdw.i).mono ?_
        rintro e w13 ⟨rfl, hb⟩
        have S13 := hide ((unhide S12).next hb)
        clear hb S12 hdv hdw v0 v1 u0 u1
        obtain ⟨a12, c12, b12, d12, hdv⟩ := (unhide S13).dv (C1, SS, XX) (by simp)
        obtain ⟨v0, v1⟩ := hdv.var.cells
        obtain ⟨a13, c13, b13, d13, hdw⟩ := (unhide S13).dv (C0, ss, xs) (by simp)
        obtain ⟨u0, u1⟩ := hdw.var.cells
        clear hdv hdw
        have HLN := hide hle
        go_wp2
        go_ret
        exact ⟨rfl, (unhide S13).below⟩
    · have hSy : Hid (Sj = SS) := hide (by
        rw [← unhide HSJ, ← unhide HSS]
        by_cases e : j = kk
        · rw [e]
        · have ej : j = nn := by omega
          rw [List.take_of_length_le (by rw [unhide HNN]; omega), List.take_of_length_le (by rw [unhide HNN]; omega)])
      have g1 : Hid (putW Sj ((ofH h Xj).take 0) = SS) := hide (by rw [List.take_zero]; exact unhide hSy)
      have g2 : Hid (dropF h Xj = XX) := hide (by rw [← unhide HXJ, drop_rem]; exact unhide HXX)
      obtain ⟨a7, c7, b7, d7, hdv⟩ := (unhide HE).dv (Y, Sj, Xj) (by simp)
      obtain ⟨v0, v1⟩ := hdv.var.cells
      go_wp2_with fail
      refine (lose_in a7 b7 c7 d7 Sj Xj _ h 0 SS XX (unhide g1) (unhide g2) (by omega) (unhide HDJ) h0 h3 hdv.s hdv.i).mono ?_
      rintro e w11 ⟨po4, pa4, qo4, qa4, rfl, hs11, hi11, hb11⟩
      have S11 := hide (((unhide HE).next hb11).new (pa := pa4) (qa := qa4) hs11 hi11)
      clear hdv v0 v1 hs11 hi11 hb11
      obtain ⟨a8, c8, b8, d8, hdv⟩ := (unhide S11).dv (C1, SS, XX) (by simp)
      obtain ⟨v0, v1⟩ := hdv.var.cells
      obtain ⟨a9, c9, b9, d9, hdw⟩ := (unhide S11).dv (C2, SS, XX) (by simp)
      obtain ⟨u0, u1⟩ := hdw.var.cells
      have HV1 := hide hdv
      have HV2 := hide hdw
      obtain ⟨l1, l2⟩ := len_in (unhide HD1)
      have HL1 := hide l1
      have HL2 := hide l2
      clear l1 l2 hdv hdw
      go_wp2_with fail
      clear v0 v1 u0 u1
      revert S11 HV1 HV2
      generalize w11.alloc (.cells #[.slice po4 SS.length pa4, .slice qo4 XX.length qa4] 26) = W11
      generalize w11.heap.size = G
      intro S11 HV1 HV2
      refine (sameDisk_same a8 b8 a9 b9 c8 d8 c9 d9 SS XX _ (unhide HL1) (unhide HL2) (unhide HV1).s (unhide HV1).i (unhide HV2).s (unhide HV2).i).mono ?_
      rintro e w12 ⟨rfl, hb⟩
      have S12 := hide ((unhide S11).next hb)
      clear hb S11 HV1 HV2
      obtain ⟨a10, c10, b10, d10, hdv⟩ := (unhide S12).dv (G, SS, XX) (by simp)
      obtain ⟨v0, v1⟩ := hdv.var.cells
      obtain ⟨a11, c11, b11, d11, hdw⟩ := (unhide S12).dv (C1, SS, XX) (by simp)
      obtain ⟨u0, u1⟩ := hdw.var.cells
      go_wp2_with fail
      refine (sameDisk_same a10 b10 a11 b11 c10 d10 c11 d11 SS XX _ (unhide HL1) (unhide HL2) hdv.s hdv.i hdw.s hdw.i).mono ?_
      rintro e w13 ⟨rfl, hb⟩
      have S13 := hide ((unhide S12).next hb)
      clear hb S12 hdv hdw v0 v1 u0 u1
      obtain ⟨a12, c12, b12, d12, hdv⟩ := (unhide S13).dv (C1, SS, XX) (by simp)
      obtain ⟨v0, v1⟩ := hdv.var.cells
      obtain ⟨a13, c13, b13, d13, hdw⟩ := (unhide S13).dv (C0, ss, xs) (by simp)
      obtain ⟨u0, u1⟩ := hdw.var.cells
      clear hdv hdw
      have HLN := hide hle
      go_wp2
      go_ret
      exact ⟨rfl, (unhide S13).below⟩

end Go.Proofs.Ytoiclgeeaednnaa
