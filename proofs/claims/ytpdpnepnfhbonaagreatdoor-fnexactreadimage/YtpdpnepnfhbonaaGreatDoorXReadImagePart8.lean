import Derived.Test.YtpdpnepnfhbonaaGreatDoorRows
import Derived.Test.YtpdpnepnfhbonaaGreatDoorXReadImagePart1
import Derived.Test.YtpdpnepnfhbonaaGreatDoorXReadImagePart2
import Derived.Test.YtpdpnepnfhbonaaGreatDoorXReadImagePart5
import Derived.Test.YtpdpnepnfhbonaaGreatDoorXReadImagePart6
import Derived.Test.YtpdpnepnfhbonaaGreatDoorXReadImagePart3
import Derived.Test.YtpdpnepnfhbonaaGreatDoorXReadImagePart4
import Derived.Test.YtpdpnepnfhbonaaGreatDoorXReadImagePart7
import Derived.WalkKit
import Derived.WalkSpells
import Derived.KernelRfl
import Derived.LoopN
import Derived.Deep.CutRange
import Derived.BigQuiet
import Derived.Laws.MakeOwn
import Derived.Laws.OwnMore
import Derived.Defers
import Derived.Recover
import Derived.Laws.BytesArg
import Derived.Deep.RegionWith
import Derived.Deep.QuietTactic

namespace Go.Proofs.YtpdpnepnfhbonaaGreatDoor
open Go.RowKit Go.Sort
set_option linter.unusedVariables false
set_option maxRecDepth 100000

theorem froz_below3 {w w' : World} {p : Addr} {v : Value} (hb : Below w.heap.size w w') (hc : w.cell? p = some v) (hf : w.frozen? p = false) : w'.frozen? p = false := by
  have := hb.block p.block (World.block_lt_of_cell? _ _ hc)
  simp only [World.frozen?] at hf ⊢
  rw [this]; exact hf
theorem openL_few3 (s : ByteArray) (hs : s.size ≤ 65536) : (openL s 3).length ≤ 16384 := by
  have h1 := unL_length (bodyT s)
  have h2 := bodyT_size s
  unfold openL
  split
  · rw [h1]; omega
  · simp

set_option maxHeartbeats 12800000 in
theorem l11Read_any (ao bo : Option Addr) (ca cb : Nat) (ss : List ByteArray) (xs : List Wr) (h : Int) (w : World) (hd : diskB ss xs = true) (h1 : Ss w ao ss) (h2 : Ios w bo xs) :
    Calls Tryz.prog 16 #[.agg #[.slice ao ss.length ca, .slice bo xs.length cb], .int .i64 h] w fun e w' => AnsR w w' e (secV ss xs h) := by
  have HNL : Hid (∀ p : Nat, p < 64 → ∀ q : Int, q = (p : Int) → ∀ W, Below w.heap.size w W → Calls Tryz.prog 40 #[.agg #[.slice ao ss.length ca, .slice bo xs.length cb], .int .i64 h, .int .i64 q] W fun e w' => e = .returned (.string (secV ss xs h p)) ∧ Below W.heap.size W w') := hide (fun p hp q hq W hb => l01ReadAt ao bo ca cb ss xs h q _ W hd (by omega) (by omega) (by rw [hq]; rfl) (h1.below hb) (h2.below hb))
  have HSZ : Hid (∀ p : Nat, (secV ss xs h p).size ≤ 65536) := hide (fun p => by have := readV_size hd h p; unfold secV; omega)
  clear hd h1 h2
  generalize secV ss xs h = sec at *
  obtain ⟨da, HDA⟩ : ∃ da : Value, Hid (Value.slice ao ss.length ca = da) := ⟨_, hide rfl⟩
  obtain ⟨db, HDB⟩ : ∃ db : Value, Hid (Value.slice bo xs.length cb = db) := ⟨_, hide rfl⟩
  rw [unhide HDA, unhide HDB] at HNL ⊢
  clear HDA HDB
  obtain ⟨ZS, HZS⟩ : ∃ ZS : List Int, Hid (ZS = List.replicate 24 0) := ⟨_, hide rfl⟩
  have HZL : Hid (ZS.length = 24) := hide (by rw [unhide HZS]; simp)
  have hmk : ∀ W : World, (Instr.makeSlice 27 (.int .i64 24) (.int .i64 24)).run Tryz.prog W = .ok (.slice (some ⟨W.heap.size, 0, none⟩) 24 24) (W.alloc (.cells (intV ZS).toArray 3)) := fun W => by rw [unhide HZS]; exact mkZ 24 (by omega) W
  have HA := hide (Joins.below_alloc2 w (.cells #[da, db] 35) (.cells #[.slice none 0 0, .slice none 0 0, .slice none 0 0, .slice none 0 0] 30))
  have HV := hide ((VarD.new w da db).below (Joins.below_alloc1 _ (.cells #[.slice none 0 0, .slice none 0 0, .slice none 0 0, .slice none 0 0] 30)))
  have HR : Hid (VarM ((w.alloc (.cells #[da, db] 35)).alloc (.cells #[.slice none 0 0, .slice none 0 0, .slice none 0 0, .slice none 0 0] 30)) (w.heap.size + 1) 30 (.slice none 0 0) (.slice none 0 0) (.slice none 0 0) (.slice none 0 0)) := hide (by have := VarM.new (w.alloc (.cells #[da, db] 35)) 30 (.slice none 0 0) (.slice none 0 0) (.slice none 0 0) (.slice none 0 0); simpa using this)
  have HSZW : Hid (((w.alloc (.cells #[da, db] 35)).alloc (.cells #[.slice none 0 0, .slice none 0 0, .slice none 0 0, .slice none 0 0] 30)).heap.size = w.heap.size + 2) := hide (by simp)
  go_enter Tryz.func16, Tryz.ntmps16
  go_upto_region 1 with fail
  revert HSZW
  revert HR
  revert HV
  revert HA
  generalize ((w.alloc _).alloc _) = W0
  intro HA HV HR HSZW
  go_upto_region 2 with fail
  have HP := hide (RdP.new da db ZS (unhide HZL) (unhide HA) (unhide HV) (unhide HR))
  clear HA HV HR HSZW hmk
  revert HP
  generalize (((W0.alloc _).alloc _).alloc _) = W1
  generalize W0.heap.size + 1 + 1 = X
  generalize W0.heap.size + 1 = zg
  generalize W0.heap.size = sg
  intro HP
  obtain ⟨d0, d1⟩ := (unhide HP).d.cells
  go_wp2_with fail
  refine (unhide HNL 9 (by omega) 9 rfl _ (unhide HP).k).mono ?_
  rintro e w1 ⟨rfl, hb1⟩
  have HP1 := hide ((unhide HP).below hb1)
  clear hb1 HP d0 d1
  go_wp2_with fail
  refine (l02Open_any (sec 9) 1 _ (unhide HSZ 9)).mono ?_
  rintro e w2 ⟨sv, rfl, hs2, hb2⟩
  have HP2 := hide ((unhide HP1).snoc hb2 hs2)
  have HS2 := hide hs2
  clear HP1 hb2 hs2
  obtain ⟨SL, HSL⟩ : ∃ SL, Hid (openL (sec 9) 1 = SL) := ⟨_, hide rfl⟩
  have HSS : Hid (srS sec = SL) := hide (by rw [srS, unhide HSL])
  rw [unhide HSL] at HP2 HS2
  have HNEG : Hid (openB (sec 9) 1 = false → srB sec = false) := hide (fun hh => sr_sup (by rw [supB, hh]; rfl))
  have HIN : Hid (openB (sec 9) 1 = true → ∀ j (hj : j < SL.length), 0 ≤ SL[j] ∧ SL[j] ≤ 2147483647) := hide (fun hh => by have := openL_in hh; rw [unhide HSL] at this; exact this)
  have HSLN : Hid (SL.length ≤ 16384) := hide (by
    rw [← unhide HSL]
    have h1 := unL_length (bodyT (sec 9))
    have h2 := bodyT_size (sec 9)
    have h3 := unhide HSZ 9
    unfold openL
    split
    · rw [h1]; omega
    · simp)
  cases hop : openB (sec 9) 1
  · have HF := hide (unhide HNEG hop)
    clear hop
    obtain ⟨c0, c1, c2, c3⟩ := (unhide HP2).r.cells
    obtain ⟨f0, f1, f2, f3⟩ := (unhide HP2).r.free
    have HE := hide (setZ_var (unhide HP2).r (unhide HP2).k)
    unfold setZ at HE
    go_wp2
    refine bodyPost_ret (res_ic Tryz.results16 rfl rfl (unhide HE).1) rfl ?_
    exact AnsR.bad (unhide HF) (unhide HE).2
  have HOP := hide hop
  obtain ⟨HIN2⟩ : Nonempty (Hid (∀ j (hj : j < SL.length), 0 ≤ SL[j] ∧ SL[j] ≤ 2147483647)) := ⟨hide (unhide HIN hop)⟩
  clear hop HNEG HIN
  by_cases h0 : 0 < SL.length
  case neg =>
    have HF : Hid (srB sec = false) := hide (sr_sup (by rw [supB, unhide HSS, decide_eq_false h0]; simp))
    obtain ⟨so, sc, rfl, _⟩ := unhide HS2
    have hl0 : SL.length = 0 := by omega
    have hz : (SL.length : Int) = 0 := by omega
    obtain ⟨c0, c1, c2, c3⟩ := (unhide HP2).r.cells
    obtain ⟨f0, f1, f2, f3⟩ := (unhide HP2).r.free
    have HE := hide (setZ_var (unhide HP2).r (unhide HP2).k)
    unfold setZ at HE
    clear HS2 HP2
    rw [hl0]
    go_wp2
    refine bodyPost_ret (res_ic Tryz.results16 rfl rfl (unhide HE).1) rfl ?_
    exact AnsR.bad (unhide HF) (unhide HE).2
  obtain ⟨sq, sc, rfl⟩ := (unhide HS2).form h0
  have h0i : (0 : Int) < (SL.length : Int) := by omega
  have hlz : ((SL.length : Int) == 0) = false := by rw [beq_eq_false_iff_ne]; omega
  have hc0 := (unhide HS2).at rfl h0
  have HG0 : Hid (SL.getD 0 0 = SL[0]) := hide (by simp [List.getD, h0])
  have hr0 := unhide HIN2 0 h0
  by_cases h3 : SL[0] ≤ 3
  case neg =>
    have HF : Hid (srB sec = false) := hide (sr_sup (by rw [supB, unhide HSS, unhide HG0, decide_eq_false h3]; simp))
    clear HG0
    generalize SL[0] = Y at *
    obtain ⟨c0, c1, c2, c3⟩ := (unhide HP2).r.cells
    obtain ⟨f0, f1, f2, f3⟩ := (unhide HP2).r.free
    have HE := hide (setZ_var (unhide HP2).r (unhide HP2).k)
    unfold setZ at HE
    clear HS2 HP2
    go_wp2
    refine bodyPost_ret (res_ic Tryz.results16 rfl rfl (unhide HE).1) rfl ?_
    exact AnsR.bad (unhide HF) (unhide HE).2
  obtain ⟨n, hn⟩ := Int.eq_ofNat_of_zero_le hr0.1
  rw [hn] at hc0 h3 HG0
  have hw1 : IntKind.i64.wrap (1 + (n : Int)) = 1 + (n : Int) := by rw [IntKind.wrap_i64]; omega
  have hn3 : ¬ (3 : Int) < (n : Int) := by omega
  have hd3 : decide ((3 : Int) < (n : Int)) = false := by simp; omega
  by_cases he : SL.length = 1 + n
  case neg =>
    have hei : ¬ (SL.length : Int) = 1 + (n : Int) := by omega
    have HF : Hid (srB sec = false) := hide (sr_sup (by rw [supB, unhide HSS, unhide HG0, decide_eq_false hei]; simp))
    have heb : ((SL.length : Int) != 1 + (n : Int)) = true := by rw [bne_iff_ne]; omega
    obtain ⟨c0, c1, c2, c3⟩ := (unhide HP2).r.cells
    obtain ⟨f0, f1, f2, f3⟩ := (unhide HP2).r.free
    have HE := hide (setZ_var (unhide HP2).r (unhide HP2).k)
    unfold setZ at HE
    clear HS2 HP2 HG0 hn hr0 he hei hn3 h3
    go_wp2
    refine bodyPost_ret (res_ic Tryz.results16 rfl rfl (unhide HE).1) rfl ?_
    exact AnsR.bad (unhide HF) (unhide HE).2
  have hei : (SL.length : Int) = 1 + (n : Int) := by omega
  have HSUP : Hid (supB sec = true) := hide (by rw [supB, unhide HSS, unhide HG0, unhide HOP, decide_eq_true h0, decide_eq_true h3, decide_eq_true hei]; rfl)
  have HN : Hid (srN sec = n) := hide (by rw [srN, unhide HSS, unhide HG0]; rfl)
  have heb : ((SL.length : Int) != 1 + (n : Int)) = false := by rw [hei]; simp
  obtain ⟨d0, d1⟩ := (unhide HP2).d.cells
  have HN0 := hide hn
  have HLE := hide he
  have HH0 := hide h0
  have HN3 : Hid (n ≤ 3) := hide (by omega)
  clear HG0 hr0 hn he h3 hei hn3
  go_wp2_with fail
  refine (unhide HNL 10 (by omega) 10 rfl _ (unhide HP2).k).mono ?_
  rintro e w3 ⟨rfl, hb3⟩
  have HP3 := hide ((unhide HP2).below hb3)
  clear hb3 HP2 HS2 d0 d1 hc0 hlz heb hd3
  go_wp2_with fail
  refine (l08Decode_any (sec 10) _ (unhide HSZ 10)).mono ?_
  rintro e w4 ⟨cv, rfl, hs4, hb4⟩
  have HP4 := hide ((unhide HP3).snoc hb4 hs4)
  obtain ⟨ro, rc, rfl, _⟩ := hs4
  clear HP3 hb4
  obtain ⟨d0, d1⟩ := (unhide HP4).d.cells
  go_wp2_with fail
  refine (unhide HNL 11 (by omega) 11 rfl _ (unhide HP4).k).mono ?_
  rintro e w5 ⟨rfl, hb5⟩
  have HP5 := hide ((unhide HP4).below hb5)
  clear hb5 HP4 d0 d1
  go_wp2_with fail
  refine (l09Decode_any (sec 11) _ (unhide HSZ 11)).mono ?_
  rintro e w6 ⟨tv, rfl, hs6, hb6⟩
  have HP6 := hide ((unhide HP5).snoc hb6 hs6)
  obtain ⟨tq, tc, rfl, _⟩ := hs6
  clear HP5 hb6
  have HC1 : Hid (cdO (sec 10) = srR sec) := hide rfl
  have HNC : Hid (cdB (sec 10) = false → srB sec = false) := hide sr_cd
  have HNT : Hid (tdB (sec 11) = false → srB sec = false) := hide sr_td
  have HT1 : Hid (tdB (sec 11) = true → tdO (sec 11) = srT sec) := hide (fun hh => by rw [tdO, if_pos hh]; rfl)
  have HCL : Hid (cdB (sec 10) = true → (cdO (sec 10)).length = 24) := hide (fun hh => by rw [cdO, if_pos hh]; exact cdL_len hh)
  rw [unhide HC1] at HP6 HCL ⊢
  cases hcd : cdB (sec 10)
  · have HF := hide (unhide HNC hcd)
    clear hcd
    obtain ⟨c0, c1, c2, c3⟩ := (unhide HP6).r.cells
    obtain ⟨f0, f1, f2, f3⟩ := (unhide HP6).r.free
    have HE := hide (setZ_var (unhide HP6).r (unhide HP6).k)
    unfold setZ at HE
    clear HP6
    go_wp2
    refine bodyPost_ret (res_ic Tryz.results16 rfl rfl (unhide HE).1) rfl ?_
    exact AnsR.bad (unhide HF) (unhide HE).2
  cases htd : tdB (sec 11)
  · have HF := hide (unhide HNT htd)
    clear htd hcd
    obtain ⟨c0, c1, c2, c3⟩ := (unhide HP6).r.cells
    obtain ⟨f0, f1, f2, f3⟩ := (unhide HP6).r.free
    have HE := hide (setZ_var (unhide HP6).r (unhide HP6).k)
    unfold setZ at HE
    clear HP6
    go_wp2
    refine bodyPost_ret (res_ic Tryz.results16 rfl rfl (unhide HE).1) rfl ?_
    exact AnsR.bad (unhide HF) (unhide HE).2
  have HCD := hide hcd
  have HTD := hide htd
  have HCL2 := hide (unhide HCL hcd)
  have HT2 := hide (unhide HT1 htd)
  rw [unhide HT2] at HP6 ⊢
  clear hcd htd HNC HNT HT1 HC1 HCL HT2
  obtain ⟨CS, HCQ⟩ : ∃ CS, Hid (srR sec = CS) := ⟨_, hide rfl⟩
  obtain ⟨TB, HTQ⟩ : ∃ TB, Hid (srT sec = TB) := ⟨_, hide rfl⟩
  rw [unhide HCQ] at HP6 HCL2 ⊢
  rw [unhide HTQ] at HP6 ⊢
  have HPP := hide (unhide HP6).put
  obtain ⟨x0, x1, x2, x3⟩ := (unhide HP6).v.cells
  obtain ⟨z0, z1, z2, z3⟩ := (unhide HP6).v.free
  have hsn : (n : Int) ≤ 3 := by have := unhide HN3; omega
  go_upto_region 11 with fail
  revert HPP
  clear HP6 x0 x1 x2 x3 z0 z1 z2 z3
  generalize ((w6.setCell _ _).setCell _ _) = W7
  intro HPP
  obtain ⟨⟨HJ⟩, ⟨HU⟩⟩ : Nonempty (Hid _) ∧ Nonempty (Hid _) := ⟨⟨hide (unhide HPP).1⟩, ⟨hide (unhide HPP).2⟩⟩
  clear HPP
  obtain ⟨j0, hj, hy0, hy1, hy2⟩ := info_parts infoSn
  go_wp2
  go_loopw [12] (fun i wr => ∃ (k : Nat) (SN : List Snp) (a : Im4) (ts : List Value), k ≤ n ∧ i = .int .i64 k ∧ Hid (srSn sec k = SN) ∧ Hid (SN.length = k) ∧ Hid (∀ j, j < k → snB1 sec j = true) ∧ Hid (RdK w wr X da db a ⟨CS, TB, SN, ZS⟩ ts) ∧ Hid (OwnN wr w.heap.size (.slice (some ⟨sq, 0, none⟩) SL.length sc) SL) ∧ Hid (a.ro = ro)) (fun i _ => n - (intOf i).toNat)
  case atStart => exact ⟨0, [], _, [], Nat.zero_le _, rfl, hide rfl, hide rfl, hide (fun j h => by omega), HJ, HU, hide rfl⟩
  case round =>
    clear HJ HU
    obtain ⟨k, SN, a, ts, hk, rfl, HSN, HSNL, HTS, HJ, HU, HRO⟩ := hrel
    have hc0 := (unhide HU).at rfl (unhide HH0)
    rw [unhide HN0] at hc0
    have h0i : (0 : Int) < (SL.length : Int) := by have := unhide HH0; omega
    have hw1k : IntKind.i64.wrap (1 + (k : Int)) = 1 + (k : Int) := by rw [IntKind.wrap_i64]; omega
    have hw12 : IntKind.i64.wrap (12 + (k : Int)) = 12 + (k : Int) := by rw [IntKind.wrap_i64]; omega
    by_cases hlt : k < n
    · have hlti : (k : Int) < (n : Int) := by omega
      have hkl : 1 + k < SL.length := by have := unhide HLE; omega
      have hkli : 1 + (k : Int) < (SL.length : Int) := by omega
      have hin := unhide HIN2 (1 + k) hkl
      obtain ⟨V, hV⟩ := Int.eq_ofNat_of_zero_le hin.1
      have HV31 : Hid (V ≤ 2147483647) := hide (by omega)
      have HVQ : Hid ((srS sec).getD (1 + k) 0 = (V : Int)) := hide (by rw [unhide HSS]; simp [List.getD, hkl, hV])
      have HS1 : Hid (srSn sec (k + 1) = SN ++ [⟨unT V, openL (sec (12 + k)) 3⟩]) := hide (by rw [srSn_succ, unhide HSN, snR1, unhide HVQ])
      obtain ⟨q, hq⟩ : ∃ q, (nmN (unT V) != (V : Int)) = q := ⟨_, rfl⟩
      have HBAD : Hid (tdB (sec (12 + k)) = false ∨ q = true → srB sec = false) := hide (fun hh => sr_sn (k := k) (by rw [unhide HN]; exact hlt) (by
        rw [snB1, unhide HVQ]
        rcases hh with hh | hh
        · rw [hh]; rfl
        · rw [decide_eq_false (by rw [hh] at hq; exact bne_iff_ne.1 hq)]; simp))
      have HGOOD : Hid (tdB (sec (12 + k)) = true → q = false → ∀ j, j < k + 1 → snB1 sec j = true) := hide (fun h1 h2 j hj => by
        by_cases e : j = k
        · subst e
          rw [snB1, unhide HVQ, h1, decide_eq_true (by rw [h2] at hq; simpa using hq)]; rfl
        · exact unhide HTS j (by omega))
      have HCV : Hid (∀ W, Below wr.heap.size wr W → W.cell? ⟨sq, 1 + k, none⟩ = some (.int .i64 V)) := hide (fun W hW => by have := ((unhide HU).below hW).at rfl hkl; rw [hV] at this; exact this)
      clear hin hV HVQ
      obtain ⟨d0, d1⟩ := (unhide HJ).d.cells
      go_wp2_with fail
      refine (unhide HNL (12 + k) (by omega) (12 + (k : Int)) (by omega) _ (unhide HJ).k).mono ?_
      rintro e w1 ⟨rfl, hb1⟩
      have HJ1 := hide ((unhide HJ).below hb1)
      have HU1 := hide ((unhide HU).below hb1)
      have HB1 := hide hb1
      clear hb1 d0 d1 HJ HU hc0
      go_wp2_with fail
      refine (l09Decode_any (sec (12 + k)) _ (unhide HSZ (12 + k))).mono ?_
      rintro e w2 ⟨tv, rfl, hs2, hb2⟩
      have HT2 := hide hs2
      have HB2 := hide hb2
      have HJ2 := hide ((unhide HJ1).below hb2)
      have HCV2 : Hid (∀ W, Below w2.heap.size w2 W → W.cell? ⟨sq, 1 + k, none⟩ = some (.int .i64 V)) := hide (fun W hW => unhide HCV W (fr (unhide HB1) (fr (unhide HB2) hW)))
      obtain ⟨tq, tc, rfl, _⟩ := hs2
      have HTO : Hid (tdB (sec (12 + k)) = true → tdO (sec (12 + k)) = openL (sec (12 + k)) 3) := hide (fun hh => by rw [tdO, if_pos hh])
      clear hb2 HCV HB1
      go_upto_region 15 with fail
      have HSQ : Hid (sq < w2.heap.size) := hide (World.block_lt_of_cell? _ _ (unhide HCV2 w2 (Below.refl _ _)))
      have hcg : ∀ n os, (grow (w2.drewN n) os).cell? ⟨sq, 1 + k, none⟩ = some (.int .i64 V) := fun n os => cell_grown (unhide HSQ) (unhide HCV2 w2 (Below.refl _ _)) n os
      cases htd : tdB (sec (12 + k))
      · have HF := hide (unhide HBAD (.inl htd))
        clear htd
        refine wp_region_quiet_grown (by kernel_rfl) (by kernel_rfl) ?_
        repeat (go_big_quiet_step (fail))
        refine wpQuiet_nil ?_
        rintro w3 ⟨⟨nq, osq⟩, rfl⟩
        have HB3 := hide (grown_below (w := w2) nq osq)
        clear hcg
        revert HB3
        generalize (grow (w2.drewN nq) osq) = w3
        intro HB3
        have HJ3 := hide ((unhide HJ2).below (unhide HB3))
        obtain ⟨c0, c1, c2, c3⟩ := (unhide HJ3).r.cells
        obtain ⟨f0, f1, f2, f3⟩ := (unhide HJ3).r.free
        have HE := hide (setZ_var (unhide HJ3).r (unhide HJ3).k)
        unfold setZ at HE
        clear HB3 HJ3 HJ2
        go_wp2
        refine bodyPost_ret (res_ic Tryz.results16 rfl rfl (unhide HE).1) rfl ?_
        exact AnsR.bad (unhide HF) (unhide HE).2
      have HTD3 := hide (unhide HTO htd)
      have HGD := hide (unhide HGOOD htd)
      have HBQ := hide (fun hh => unhide HBAD (.inr hh))
      clear htd HTO HGOOD HBAD
      rw [unhide HTD3] at HT2 ⊢
      clear HTD3
      refine wp_region_quiet_grown (by kernel_rfl) (by kernel_rfl) ?_
      repeat (go_big_quiet_step (first | (go_at_call 44; exact unname_g V (unhide HV31) _ _ _) | (go_at_call 43; exact name_g (unT V) (unT_short V) _ _ _)))
      refine wpQuiet_nil ?_
      rintro w3 ⟨⟨nq, osq⟩, rfl⟩
      have HB3 := hide (grown_below (w := w2) nq osq)
      clear hcg hq
      revert HB3
      generalize (grow (w2.drewN nq) osq) = w3
      intro HB3
      cases q
      case true =>
        have HF := hide (unhide HBQ rfl)
        have HJ3 := hide ((unhide HJ2).below (unhide HB3))
        obtain ⟨c0, c1, c2, c3⟩ := (unhide HJ3).r.cells
        obtain ⟨f0, f1, f2, f3⟩ := (unhide HJ3).r.free
        have HE := hide (setZ_var (unhide HJ3).r (unhide HJ3).k)
        unfold setZ at HE
        clear HB3 HJ3 HJ2
        go_wp2
        refine bodyPost_ret (res_ic Tryz.results16 rfl rfl (unhide HE).1) rfl ?_
        exact AnsR.bad (unhide HF) (unhide HE).2
      have HTS2 := hide (unhide HGD rfl)
      clear HGD HBQ HTS
      go_upto_region 17 with fail
      have HJ3 := hide ((unhide HJ2).below (unhide HB3))
      have HB23 := hide (fr (unhide HB2) (unhide HB3))
      have HCV3 : Hid (∀ W, Below w3.heap.size w3 W → W.cell? ⟨sq, 1 + k, none⟩ = some (.int .i64 V)) := hide (fun W hW => unhide HCV2 W (fr (unhide HB3) hW))
      generalize openL (sec (12 + k)) 3 = TT at *
      generalize hA0 : (Act.mk _ _) = A0
      have s0 : A0.tmps.size = 159 := by subst hA0; rfl
      have e6 : ∀ hh, A0.tmps[6]'hh = .pointer (some ⟨X, 0, none⟩) := by subst hA0; intro hh; rfl
      have e7 : ∀ hh, A0.tmps[7]'hh = .slice (some ⟨sq, 0, none⟩) SL.length sc := by subst hA0; intro hh; rfl
      have e12 : ∀ hh, A0.tmps[12]'hh = .int .i64 (k : Int) := by subst hA0; intro hh; rfl
      have e13 : ∀ hh, A0.tmps[13]'hh = .slice tq TT.length tc := by subst hA0; intro hh; rfl
      have HA0 := hide hA0
      clear hA0
      have q1 : (0 : Int) ≤ 1 + (k : Int) := by omega
      have q2 : (1 + (k : Int)).toNat = 1 + k := by omega
      have hS0 : Below w3.heap.size w3 w3.drew := (Below.refl _ _).drew
      refine wp_region_ord (fun w' => Below w3.heap.size w3 w') [0, 1, 2, 3, 4, 5, 6, 7, 8, 9, 10] [(0, 0), (1, 0), (2, 0), (3, 0), (4, 0), (5, 0), (6, 0), (8, 0), (7, 2), (9, 0), (10, 2), (11, 3), (12, 4), (13, 3)] (by kernel_rfl) (by kernel_rfl) rfl (by kernel_rfl) ?_
      refine ord_readL (.pointer (some ⟨X, 2, none⟩)) rfl rfl hS0 (fun W hW => by go_simp) ?_
      intro A1 hA1
      replace hA1 : A1 = A0.put (some 110) (.pointer (some ⟨X, 2, none⟩)) := hA1
      have s1 := tm_sz hA1 s0
      replace e6 := tm_ne hA1 e6 (by decide)
      replace e7 := tm_ne hA1 e7 (by decide)
      replace e12 := tm_ne hA1 e12 (by decide)
      replace e13 := tm_ne hA1 e13 (by decide)
      have e110 := tm_eq hA1
      have HA1 := hide hA1
      clear hA1
      refine ord_readL (.slice a.so SN.length a.sc) rfl rfl hS0 (fun W hW => by obtain ⟨k0, k1, k2, k3⟩ := ((unhide HJ3).below hW).v.cells; go_simp) ?_
      intro A2 hA2
      replace hA2 : A2 = A1.put (some 111) (.slice a.so SN.length a.sc) := hA2
      have s2 := tm_sz hA2 s1
      replace e6 := tm_ne hA2 e6 (by decide)
      replace e7 := tm_ne hA2 e7 (by decide)
      replace e12 := tm_ne hA2 e12 (by decide)
      replace e13 := tm_ne hA2 e13 (by decide)
      clear e110
      have e111 := tm_eq hA2
      have HA2 := hide hA2
      clear hA2
      refine ord_readL (.slice (some ⟨sq, 0, none⟩) SL.length sc) rfl rfl hS0 (fun W hW => by go_simp; first | done | exact e7 _) ?_
      intro A3 hA3
      replace hA3 : A3 = A2.put (some 112) (.slice (some ⟨sq, 0, none⟩) SL.length sc) := hA3
      have s3 := tm_sz hA3 s2
      replace e6 := tm_ne hA3 e6 (by decide)
      clear e7
      replace e12 := tm_ne hA3 e12 (by decide)
      replace e13 := tm_ne hA3 e13 (by decide)
      replace e111 := tm_ne hA3 e111 (by decide)
      have e112 := tm_eq hA3
      have HA3 := hide hA3
      clear hA3
      refine ord_readL (.int .i64 (k : Int)) rfl rfl hS0 (fun W hW => by go_simp; first | done | exact e12 _) ?_
      intro A4 hA4
      replace hA4 : A4 = A3.put (some 113) (.int .i64 (k : Int)) := hA4
      have s4 := tm_sz hA4 s3
      replace e6 := tm_ne hA4 e6 (by decide)
      clear e12
      replace e13 := tm_ne hA4 e13 (by decide)
      replace e111 := tm_ne hA4 e111 (by decide)
      replace e112 := tm_ne hA4 e112 (by decide)
      have e113 := tm_eq hA4
      have HA4 := hide hA4
      clear hA4
      refine ord_readL (.int .i64 (1 + (k : Int))) rfl rfl hS0 (fun W hW => by go_simp) ?_
      intro A5 hA5
      replace hA5 : A5 = A4.put (some 114) (.int .i64 (1 + (k : Int))) := hA5
      have s5 := tm_sz hA5 s4
      replace e6 := tm_ne hA5 e6 (by decide)
      replace e13 := tm_ne hA5 e13 (by decide)
      replace e111 := tm_ne hA5 e111 (by decide)
      replace e112 := tm_ne hA5 e112 (by decide)
      clear e113
      have e114 := tm_eq hA5
      have HA5 := hide hA5
      clear hA5
      refine ord_readL (.pointer (some ⟨sq, 1 + k, none⟩)) rfl rfl hS0 (fun W hW => by go_simp) ?_
      intro A6 hA6
      replace hA6 : A6 = A5.put (some 115) (.pointer (some ⟨sq, 1 + k, none⟩)) := hA6
      have s6 := tm_sz hA6 s5
      replace e6 := tm_ne hA6 e6 (by decide)
      replace e13 := tm_ne hA6 e13 (by decide)
      replace e111 := tm_ne hA6 e111 (by decide)
      clear e112
      clear e114
      have e115 := tm_eq hA6
      have HA6 := hide hA6
      clear hA6
      refine ord_readL (.int .i64 (V : Int)) rfl rfl hS0 (fun W hW => by have hc := unhide HCV3 W hW; go_simp) ?_
      intro A7 hA7
      replace hA7 : A7 = A6.put (some 116) (.int .i64 (V : Int)) := hA7
      have s7 := tm_sz hA7 s6
      replace e6 := tm_ne hA7 e6 (by decide)
      replace e13 := tm_ne hA7 e13 (by decide)
      replace e111 := tm_ne hA7 e111 (by decide)
      clear e115
      have e116 := tm_eq hA7
      have HA7 := hide hA7
      clear hA7
      refine ord_readL (.slice tq TT.length tc) rfl rfl hS0 (fun W hW => by go_simp; first | done | exact e13 _) ?_
      intro A8 hA8
      replace hA8 : A8 = A7.put (some 118) (.slice tq TT.length tc) := hA8
      have s8 := tm_sz hA8 s7
      replace e6 := tm_ne hA8 e6 (by decide)
      clear e13
      replace e111 := tm_ne hA8 e111 (by decide)
      replace e116 := tm_ne hA8 e116 (by decide)
      have e118 := tm_eq hA8
      have HA8 := hide hA8
      clear hA8
      have HB0 := hide hS0
      clear hS0
      refine ord_held rfl rfl ?_
      intro K hK
      unfold Oper.wp
      go_simp
      refine (l11Unname_any V _ (unhide HV31)).mono ?_
      rintro e w4 ⟨rfl, hb⟩
      have HB4 := hide (fr (unhide HB0) hb)
      clear hb
      refine hK _ _ (unhide HB4) ?_
      clear hK K
      obtain ⟨A9, hA9⟩ : ∃ A, A = A8.put (some 117) (.string (unT V)) := ⟨_, rfl⟩
      change wpOrd _ _ _ _ _ _ (A8.put (some 117) (.string (unT V))) _
      rw [← hA9]
      have s9 := tm_sz hA9 s8
      replace e6 := tm_ne hA9 e6 (by decide)
      replace e111 := tm_ne hA9 e111 (by decide)
      clear e116
      replace e118 := tm_ne hA9 e118 (by decide)
      have e117 := tm_eq hA9
      have HA9 := hide hA9
      clear hA9
      refine ord_readL (.agg #[.string (unT V), .slice tq TT.length tc]) rfl rfl (unhide HB4) (fun W hW => by go_simp) ?_
      intro A10 hA10
      replace hA10 : A10 = A9.put (some 119) (.agg #[.string (unT V), .slice tq TT.length tc]) := hA10
      have s10 := tm_sz hA10 s9
      replace e6 := tm_ne hA10 e6 (by decide)
      replace e111 := tm_ne hA10 e111 (by decide)
      clear e118
      clear e117
      have e119 := tm_eq hA10
      have HA10 := hide hA10
      clear hA10
      refine ord_held rfl rfl ?_
      intro K hK
      unfold Oper.wp
      go_simp
      have HB5 := hide (fr (unhide HB4) (Joins.below_alloc1 w4 (.cells #[.string (unT V), .slice tq TT.length tc] 72)))
      have hnew : (w4.alloc (.cells #[.string (unT V), .slice tq TT.length tc] 72)).heap[w4.heap.size]? = some (.cells #[.string (unT V), .slice tq TT.length tc] 72 (0, 0)) := heap_alloc_new _ _
      refine hK _ _ (unhide HB5) ?_
      clear hK K
      generalize (w4.alloc (.cells #[.string (unT V), .slice tq TT.length tc] 72)) = w5 at *
      generalize w4.heap.size = g5 at *
      obtain ⟨A11, hA11⟩ : ∃ A, A = A10.put (some 120) (.slice (some ⟨g5, 0, none⟩) 1 1) := ⟨_, rfl⟩
      change wpOrd _ _ _ _ _ _ (A10.put (some 120) (.slice (some ⟨g5, 0, none⟩) 1 1)) _
      rw [← hA11]
      have s11 := tm_sz hA11 s10
      replace e6 := tm_ne hA11 e6 (by decide)
      replace e111 := tm_ne hA11 e111 (by decide)
      clear e119
      have e120 := tm_eq hA11
      have HA11 := hide hA11
      clear hA11
      have HOT5 := hide ((unhide HT2).below (fr (unhide HB3) (unhide HB5)))
      have HJ5 := hide ((unhide HJ3).below (unhide HB5))
      have hsn5 : SN.length ≤ 3 := by rw [unhide HSNL]; have := unhide HN3; omega
      refine ord_alone rfl rfl ?_
      intro K hK
      refine wp_append_one rfl (.tmp 111) (.tmp 120) 28 rfl w.heap.size 72 j0 (.agg #[.string ⟨#[]⟩, .slice none 0 0]) 2 40 Tryz.underlying28 hj hy0 hy1 hy2 rfl (by omega) a.so SN.length a.sc (snC SN ts) (tm_ev e111 s11 (by decide)) ((unhide HJ5).o.s.toR (unhide HJ5).f) (unhide HJ5).k.size ⟨g5, 0, none⟩ 1 [.string (unT V), .slice tq TT.length tc] (tm_ev e120 s11 (by decide)) rfl (snap_news hnew) (snap_one _ _ _ _) (by unfold maxLen; omega) (by omega) ?_
      intro g6 cap6 w6 ho6 hk6
      obtain ⟨hJ7, hU7, hv6⟩ := (unhide HJ1).addS (unhide HU1) (fr (unhide HB23) (unhide HB5)) (unhide HOT5) ho6 hk6
      have HJ7 := hide hJ7
      have HU7 := hide hU7
      clear hJ7 hU7 ho6 hk6 hnew hsn5
      refine hK _ _ ?_
      clear hK K
      obtain ⟨A12, hA12⟩ : ∃ A, A = A11.put (some 121) (.slice (some ⟨g6, 0, none⟩) (SN.length + 1) cap6) := ⟨_, rfl⟩
      change wpOrd _ _ _ _ _ _ (A11.put (some 121) (.slice (some ⟨g6, 0, none⟩) (SN.length + 1) cap6)) _
      rw [← hA12]
      have s12 := tm_sz hA12 s11
      replace e6 := tm_ne hA12 e6 (by decide)
      clear e111
      clear e120
      have e121 := tm_eq hA12
      have HA12 := hide hA12
      clear hA12
      refine ord_valL (.pointer (some ⟨X, 2, none⟩)) rfl rfl (fun W => by go_simp) ?_
      intro A13 hA13
      replace hA13 : A13 = A12.put (some 122) (.pointer (some ⟨X, 2, none⟩)) := hA13
      have s13 := tm_sz hA13 s12
      clear e6
      replace e121 := tm_ne hA13 e121 (by decide)
      have e122 := tm_eq hA13
      have HA13 := hide hA13
      clear hA13
      obtain ⟨c0, c1, c2, c3⟩ := hv6.cells
      obtain ⟨z0, z1, z2, z3⟩ := hv6.free
      refine ord_alone rfl rfl ?_
      intro K hK
      unfold Oper.wp
      go_simp
      refine hK _ _ ?_
      clear hK K c0 c1 c2 c3 z0 z1 z2 z3 hv6
      refine ord_done ?_
      revert HU7
      revert HJ7
      generalize (w6.setCell _ _) = w7
      intro HJ7 HU7
      have hfin : A13 = putsA A0 110 [.pointer (some ⟨X, 2, none⟩), .slice a.so SN.length a.sc, .slice (some ⟨sq, 0, none⟩) SL.length sc, .int .i64 (k : Int), .int .i64 (1 + (k : Int)), .pointer (some ⟨sq, 1 + k, none⟩), .int .i64 (V : Int), .string (unT V), .slice tq TT.length tc, .agg #[.string (unT V), .slice tq TT.length tc], .slice (some ⟨g5, 0, none⟩) 1 1, .slice (some ⟨g6, 0, none⟩) (SN.length + 1) cap6, .pointer (some ⟨X, 2, none⟩)] := by
        rw [unhide HA13, unhide HA12, unhide HA11, unhide HA10, unhide HA9, unhide HA8, unhide HA7, unhide HA6, unhide HA5, unhide HA4, unhide HA3, unhide HA2, unhide HA1]
        rw [put_swap _ (.slice tq TT.length tc) (.string (unT V)) (by decide)]
        rfl
      rw [hfin, puts_out _ _ _ 159 s0 (by simp only [List.length_cons, List.length_nil]; omega)]
      have h0 := unhide HA0
      clear hfin HA13 HA12 HA11 HA10 HA9 HA8 HA7 HA6 HA5 HA4 HA3 HA2 HA1 HA0 s0 s1 s2 s3 s4 s5 s6 s7 s8 s9 s10 s11 s12 s13
      subst h0
      simp only [List.length_cons, List.length_nil, List.take_succ_cons, List.take_zero, List.drop_succ_cons, List.drop_zero, List.cons_append, List.nil_append]
      go_wp2
      go_roundw
      case rel => exact ⟨k + 1, SN ++ [⟨unT V, TT⟩], { a with so := some ⟨g6, 0, none⟩, sc := cap6 }, ts ++ [.slice tq TT.length tc], by omega, by go_num, HS1, hide (by simp; exact unhide HSNL), HTS2, HJ7, HU7, HRO⟩
      case measure => simp [intOf]; omega
    · skip
      obtain rfl : k = n := by omega
      have HDA0 : Hid (srD sec 0 = ZS) := hide (by rw [srD_zero, unhide HZS])
      clear hw1k hw12 hlt
      go_wp2
      clear hc0 h0i
      go_loopw [15] (fun i wr => ∃ (c : Nat) (DA : List Int), c ≤ 24 ∧ i = .int .i64 c ∧ Hid (srD sec c = DA) ∧ Hid (∀ j, j < c → daB1 sec j = true) ∧ Hid (RdK w wr X da db a ⟨CS, TB, SN, DA⟩ ts)) (fun i _ => 24 - (intOf i).toNat)
      case atStart => exact ⟨0, ZS, by omega, rfl, HDA0, hide (fun j h => by omega), HJ⟩
      case round =>
        clear HJ HU
        rename World => wq
        obtain ⟨c, DA, hc, rfl, HDA, HDS, HJ⟩ := hrel
        have HDL : Hid (DA.length = 24) := hide (by rw [← unhide HDA]; exact srD_len _ _)
        by_cases hltc : c < 24
        · have hci : (c : Int) < 24 := by omega
          have hcx : c < CS.length := by rw [unhide HCL2]; exact hltc
          have hcxi : (c : Int) < (CS.length : Int) := by omega
          obtain ⟨g1, eg1, hcell, _, _, _⟩ := (unhide HJ).o.setR (c := c) hcx
          replace eg1 : a.ro = some ⟨g1, 0, none⟩ := eg1
          replace hcell : wq.cell? ⟨g1, c, none⟩ = some (.int .i64 CS[c]) := hcell
          obtain rfl : ro = some ⟨g1, 0, none⟩ := (unhide HRO).symm.trans eg1
          have HRC : Hid ((srR sec).getD c 0 = CS[c]) := hide (by rw [unhide HCQ]; simp [List.getD, hcx])
          clear eg1
          generalize CS[c] = Y at *
          by_cases hy : Y = 0
          · have by1 : (Y == 0) = true := by simp [hy]
            have HSK : Hid (srD sec (c + 1) = DA) := hide (by rw [← srD_skip sec (c := c) (by rw [unhide HRC]; exact hy)]; exact unhide HDA)
            have HDS2 : Hid (∀ j, j < c + 1 → daB1 sec j = true) := hide (fun j hj => by
              by_cases e : j = c
              · subst e; rw [daB1, decide_eq_true (by rw [unhide HRC]; exact hy)]; rfl
              · exact unhide HDS j (by omega))
            clear hy HRC
            go_wp2
            go_roundw
            case rel => exact ⟨c + 1, DA, by omega, by go_num, HSK, HDS2, HJ⟩
            case measure => simp [intOf]; omega
          · have by1 : (Y == 0) = false := by simp [hy]
            have HYN : Hid (decide ((srR sec).getD c 0 = 0) = false) := hide (decide_eq_false (by rw [unhide HRC]; exact hy))
            have HDAE : Hid (daR1 sec c = (openL (sec (15 + c)) 4).getD 0 0) := hide (by unfold daR1; rw [if_neg (by rw [unhide HRC]; exact hy)])
            have HDBE : Hid (daB1 sec c = (openB (sec (15 + c)) 4 && decide ((openL (sec (15 + c)) 4).length = 1))) := hide (by rw [daB1, unhide HYN]; rfl)
            have HBAD : Hid (daB1 sec c = false → srB sec = false) := hide (fun hh => sr_da hltc hh)
            have HST := hide (srD_set sec hltc)
            have hw15 : IntKind.i64.wrap (15 + (c : Int)) = 15 + (c : Int) := by rw [IntKind.wrap_i64]; omega
            clear hy HRC
            obtain ⟨d0, d1⟩ := (unhide HJ).d.cells
            go_wp2_with fail
            refine (unhide HNL (15 + c) (by omega) (15 + (c : Int)) (by omega) _ (unhide HJ).k).mono ?_
            rintro e w1 ⟨rfl, hb1⟩
            have HJ1 := hide ((unhide HJ).below hb1)
            clear hb1 d0 d1 HJ hcell
            go_wp2_with fail
            refine (l02Open_any (sec (15 + c)) 4 _ (unhide HSZ (15 + c))).mono ?_
            rintro e w2 ⟨sv, rfl, hs2, hb2⟩
            have HJ2 := hide ((unhide HJ1).below hb2)
            have HS2 := hide hs2
            obtain ⟨so, sc2, rfl, _⟩ := hs2
            clear hb2 HJ1
            generalize openL (sec (15 + c)) 4 = VL at *
            cases hob : openB (sec (15 + c)) 4
            · have HF := hide (unhide HBAD (by rw [unhide HDBE, hob]; rfl))
              clear hob
              obtain ⟨c0, c1, c2, c3⟩ := (unhide HJ2).r.cells
              obtain ⟨f0, f1, f2, f3⟩ := (unhide HJ2).r.free
              have HE := hide (setZ_var (unhide HJ2).r (unhide HJ2).k)
              unfold setZ at HE
              clear HJ2 HS2
              go_wp2
              refine bodyPost_ret (res_ic Tryz.results16 rfl rfl (unhide HE).1) rfl ?_
              exact AnsR.bad (unhide HF) (unhide HE).2
            by_cases hl1 : VL.length = 1
            case neg =>
              have hl1b : ((VL.length : Int) != 1) = true := by rw [bne_iff_ne]; omega
              have HF := hide (unhide HBAD (by rw [unhide HDBE, hob, decide_eq_false hl1]; rfl))
              clear hob hl1
              obtain ⟨c0, c1, c2, c3⟩ := (unhide HJ2).r.cells
              obtain ⟨f0, f1, f2, f3⟩ := (unhide HJ2).r.free
              have HE := hide (setZ_var (unhide HJ2).r (unhide HJ2).k)
              unfold setZ at HE
              clear HJ2 HS2
              go_wp2
              refine bodyPost_ret (res_ic Tryz.results16 rfl rfl (unhide HE).1) rfl ?_
              exact AnsR.bad (unhide HF) (unhide HE).2
            have hl1b : ((VL.length : Int) != 1) = false := by rw [hl1]; rfl
            have h0l : 0 < VL.length := by omega
            have h0li : (0 : Int) < (VL.length : Int) := by omega
            have HDS2 : Hid (∀ j, j < c + 1 → daB1 sec j = true) := hide (fun j hj => by
              by_cases e : j = c
              · subst e; rw [unhide HDBE, hob, decide_eq_true hl1]; rfl
              · exact unhide HDS j (by omega))
            obtain ⟨VV, HVV⟩ : ∃ VV, Hid (VL[0] = VV) := ⟨_, hide rfl⟩
            have HSK : Hid (srD sec (c + 1) = DA.set c VV) := hide (by
              rw [← unhide HST, unhide HDA, unhide HDAE, ← unhide HVV]
              simp [List.getD, h0l])
            obtain ⟨vg, vk, ev⟩ := (unhide HS2).form h0l
            simp only [Value.slice.injEq] at ev
            obtain ⟨rfl, _, rfl⟩ := ev
            have HVC : Hid (w2.cell? ⟨vg, 0, none⟩ = some (.int .i64 VV)) := hide (by rw [← unhide HVV]; exact (unhide HS2).at rfl h0l)
            have hdc : c < DA.length := by rw [unhide HDL]; exact hltc
            have hdci : (c : Int) < (DA.length : Int) := by omega
            obtain ⟨g, eg, hdcell, hdf, hset⟩ := (unhide HJ2).setD (c := c) hdc
            replace eg : a.dq = some ⟨g, 0, none⟩ := eg
            have HEG := hide eg
            have HDC := hide hdcell
            have HDF := hide hdf
            have HSET := hide hset
            clear hob hl1 eg hdcell hdf hset HS2
            go_upto_region 25 with fail

            generalize hA0 : (Act.mk _ _) = A0
            have s0 : A0.tmps.size = 159 := by subst hA0; rfl
            have e6 : ∀ hh, A0.tmps[6]'hh = .pointer (some ⟨X, 0, none⟩) := by subst hA0; intro hh; rfl
            have e15 : ∀ hh, A0.tmps[15]'hh = .int .i64 (c : Int) := by subst hA0; intro hh; rfl
            have e16 : ∀ hh, A0.tmps[16]'hh = .slice (some ⟨vg, 0, none⟩) VL.length sc2 := by subst hA0; intro hh; rfl
            have HA0 := hide hA0
            clear hA0
            have hS0 : Below w2.heap.size w2 w2.drew := (Below.refl _ _).drew
            refine wp_region_ord (fun w' => Below w2.heap.size w2 w') [0, 1, 2, 3, 4, 5] [(0, 0), (1, 0), (2, 0), (3, 0), (4, 0), (5, 0), (6, 4), (7, 3)] (by kernel_rfl) (by kernel_rfl) rfl (by kernel_rfl) ?_
            refine ord_readL (.pointer (some ⟨X, 3, none⟩)) rfl rfl hS0 (fun W hW => by go_simp) ?_
            intro A1 hA1
            replace hA1 : A1 = A0.put (some 149) (.pointer (some ⟨X, 3, none⟩)) := hA1
            have s1 := tm_sz hA1 s0
            clear e6
            replace e15 := tm_ne hA1 e15 (by decide)
            replace e16 := tm_ne hA1 e16 (by decide)
            have e149 := tm_eq hA1
            have HA1 := hide hA1
            clear hA1
            refine ord_readL (.slice (some ⟨g, 0, none⟩) DA.length a.dc) rfl rfl hS0 (fun W hW => by obtain ⟨k0, k1, k2, k3⟩ := ((unhide HJ2).below hW).v.cells; rw [unhide HEG] at k3; go_simp) ?_
            intro A2 hA2
            replace hA2 : A2 = A1.put (some 150) (.slice (some ⟨g, 0, none⟩) DA.length a.dc) := hA2
            have s2 := tm_sz hA2 s1
            replace e15 := tm_ne hA2 e15 (by decide)
            replace e16 := tm_ne hA2 e16 (by decide)
            clear e149
            have e150 := tm_eq hA2
            have HA2 := hide hA2
            clear hA2
            refine ord_readL (.int .i64 (c : Int)) rfl rfl hS0 (fun W hW => by go_simp; first | done | exact e15 _) ?_
            intro A3 hA3
            replace hA3 : A3 = A2.put (some 151) (.int .i64 (c : Int)) := hA3
            have s3 := tm_sz hA3 s2
            clear e15
            replace e16 := tm_ne hA3 e16 (by decide)
            replace e150 := tm_ne hA3 e150 (by decide)
            have e151 := tm_eq hA3
            have HA3 := hide hA3
            clear hA3
            refine ord_readL (.slice (some ⟨vg, 0, none⟩) VL.length sc2) rfl rfl hS0 (fun W hW => by go_simp; first | done | exact e16 _) ?_
            intro A4 hA4
            replace hA4 : A4 = A3.put (some 152) (.slice (some ⟨vg, 0, none⟩) VL.length sc2) := hA4
            have s4 := tm_sz hA4 s3
            clear e16
            replace e150 := tm_ne hA4 e150 (by decide)
            replace e151 := tm_ne hA4 e151 (by decide)
            have e152 := tm_eq hA4
            have HA4 := hide hA4
            clear hA4
            refine ord_readL (.pointer (some ⟨vg, 0, none⟩)) rfl rfl hS0 (fun W hW => by go_simp) ?_
            intro A5 hA5
            replace hA5 : A5 = A4.put (some 153) (.pointer (some ⟨vg, 0, none⟩)) := hA5
            have s5 := tm_sz hA5 s4
            replace e150 := tm_ne hA5 e150 (by decide)
            replace e151 := tm_ne hA5 e151 (by decide)
            clear e152
            have e153 := tm_eq hA5
            have HA5 := hide hA5
            clear hA5
            refine ord_readL (.int .i64 VV) rfl rfl hS0 (fun W hW => by have hc := (hW.cell (p := ⟨vg, 0, none⟩) (World.block_lt_of_cell? _ _ (unhide HVC))).trans (unhide HVC); go_simp) ?_
            intro A6 hA6
            replace hA6 : A6 = A5.put (some 154) (.int .i64 VV) := hA6
            have s6 := tm_sz hA6 s5
            replace e150 := tm_ne hA6 e150 (by decide)
            replace e151 := tm_ne hA6 e151 (by decide)
            clear e153
            have e154 := tm_eq hA6
            have HA6 := hide hA6
            clear hA6
            refine ord_valL (.pointer (some ⟨g, c, none⟩)) rfl rfl (fun W => by go_simp) ?_
            intro A7 hA7
            replace hA7 : A7 = A6.put (some 155) (.pointer (some ⟨g, c, none⟩)) := hA7
            have s7 := tm_sz hA7 s6
            clear e150
            clear e151
            replace e154 := tm_ne hA7 e154 (by decide)
            have e155 := tm_eq hA7
            have HA7 := hide hA7
            clear hA7
            have k0 := (hS0.cell (p := ⟨g, c, none⟩) (World.block_lt_of_cell? _ _ (unhide HDC))).trans (unhide HDC)
            have k1 : w2.drew.frozen? ⟨g, c, none⟩ = false := froz_below3 hS0 (unhide HDC) (unhide HDF)
            have HJ5 : Hid (RdK w (w2.setCell ⟨g, c, none⟩ (.int .i64 VV)).drew X da db a ⟨CS, TB, SN, DA.set c VV⟩ ts) := hide (unhide HSET w2.drew VV hS0)
            refine ord_alone rfl rfl ?_
            intro K hK
            unfold Oper.wp
            go_simp
            refine hK _ _ ?_
            clear hK K k0 k1 hS0
            refine ord_done ?_
            revert HJ5
            generalize (World.drew (World.setCell _ _ _)) = w5
            intro HJ5
            have hfin : A7 = putsA A0 149 [.pointer (some ⟨X, 3, none⟩), .slice (some ⟨g, 0, none⟩) DA.length a.dc, .int .i64 (c : Int), .slice (some ⟨vg, 0, none⟩) VL.length sc2, .pointer (some ⟨vg, 0, none⟩), .int .i64 VV, .pointer (some ⟨g, c, none⟩)] := by
              rw [unhide HA7, unhide HA6, unhide HA5, unhide HA4, unhide HA3, unhide HA2, unhide HA1]
              rfl
            rw [hfin, puts_out _ _ _ 159 s0 (by simp only [List.length_cons, List.length_nil]; omega)]
            have h0 := unhide HA0
            clear hfin HA7 HA6 HA5 HA4 HA3 HA2 HA1 HA0 s0 s1 s2 s3 s4 s5 s6 s7
            subst h0
            simp only [List.length_cons, List.length_nil, List.take_succ_cons, List.take_zero, List.drop_succ_cons, List.drop_zero, List.cons_append, List.nil_append]
            go_wp2
            go_roundw
            case rel => exact ⟨c + 1, DA.set c VV, by omega, by go_num, HSK, HDS2, HJ5⟩
            case measure => simp [intOf]; omega
        · obtain rfl : c = 24 := by omega
          clear hltc
          have HM : Hid (srM sec = ⟨CS, TB, SN, DA⟩) := hide (by rw [srM, unhide HCQ, unhide HTQ, unhide HN, unhide HSN, ← srD_all, unhide HDA])
          have HFIN : Hid (srB sec = imB ⟨CS, TB, SN, DA⟩) := hide (by rw [← unhide HM]; exact sr_fin (unhide HSUP) (unhide HCD) (unhide HTD) (fun i hi => unhide HTS i (by rw [unhide HN] at hi; exact hi)) (unhide HDS))
          have HTBL : Hid (TB.length ≤ 16384) := hide (by rw [← unhide HTQ]; exact openL_few3 _ (unhide HSZ 11))
          have HLL : Hid (ImL ⟨CS, TB, SN, DA⟩) := hide ⟨by rw [unhide HCL2]; unfold maxLen; omega, by have := unhide HTBL; unfold maxLen; simp only; omega, by have := unhide HSNL; have := unhide HN3; unfold maxLen; simp only; omega, by rw [unhide HDL]; unfold maxLen; omega⟩
          have HSH : Hid (ImS wq a ⟨CS, TB, SN, DA⟩) := hide ((unhide HJ).o.shows (fun s hs => by
            have hs' : s ∈ srSn sec k := by rw [unhide HSN]; exact hs
            obtain ⟨i, hi, rfl⟩ := List.mem_map.1 hs'
            refine ⟨?_, by have := openL_few3 (sec (12 + i)) (unhide HSZ (12 + i)); unfold maxLen; simp only [snR1]; omega⟩
            have := unT_short ((srS sec).getD (1 + i) 0)
            simp only [snR1]
            unfold maxLen; omega))
          go_upto_region 26 with fail
          generalize hA0 : (Act.mk _ _) = A0
          have s0 : A0.tmps.size = 159 := by subst hA0; rfl
          have e4 : ∀ hh, A0.tmps[4]'hh = .pointer (some ⟨w.heap.size + 1, 0, none⟩) := by subst hA0; intro hh; rfl
          have e6 : ∀ hh, A0.tmps[6]'hh = .pointer (some ⟨X, 0, none⟩) := by subst hA0; intro hh; rfl
          have HA0 := hide hA0
          clear hA0
          have HB0 : Hid (Below wq.heap.size wq wq.drew) := hide (Below.refl _ _).drew
          refine wp_region_ord (fun w' => Below wq.heap.size wq w') [0, 1, 2] [(0, 0), (1, 0), (2, 2), (3, 3), (4, 4)] (by kernel_rfl) (by kernel_rfl) rfl (by kernel_rfl) ?_
          refine ord_readL (imV a ⟨CS, TB, SN, DA⟩) rfl rfl (unhide HB0) (fun W hW => by obtain ⟨k0, k1, k2, k3⟩ := ((unhide HJ).below hW).v.cells; go_simp) ?_
          intro A1 hA1
          replace hA1 : A1 = A0.put (some 156) (imV a ⟨CS, TB, SN, DA⟩) := hA1
          have s1 := tm_sz hA1 s0
          replace e4 := tm_ne hA1 e4 (by decide)
          replace e6 := tm_ne hA1 e6 (by decide)
          have e156 := tm_eq hA1
          have HA1 := hide hA1
          clear hA1
          refine ord_readL (imV a ⟨CS, TB, SN, DA⟩) rfl rfl (unhide HB0) (fun W hW => by obtain ⟨k0, k1, k2, k3⟩ := ((unhide HJ).below hW).v.cells; go_simp) ?_
          intro A2 hA2
          replace hA2 : A2 = A1.put (some 157) (imV a ⟨CS, TB, SN, DA⟩) := hA2
          have s2 := tm_sz hA2 s1
          replace e4 := tm_ne hA2 e4 (by decide)
          clear e6
          replace e156 := tm_ne hA2 e156 (by decide)
          have e157 := tm_eq hA2
          have HA2 := hide hA2
          clear hA2
          refine ord_held rfl rfl ?_
          intro K hK
          unfold Oper.wp
          go_simp
          refine (imageOK_spec a ⟨CS, TB, SN, DA⟩ _ (unhide HLL) ((unhide HSH).below (unhide HB0))).mono ?_
          rintro e w6 ⟨rfl, hb6⟩
          have HB6 := hide (fr (unhide HB0) hb6)
          have HJ6 := hide ((unhide HJ).below (unhide HB6))
          clear hb6 HSH HJ
          rw [← unhide HFIN]
          refine hK _ _ (unhide HB6) ?_
          clear hK K
          obtain ⟨A3, hA3⟩ : ∃ A, A = A2.put (some 158) (.bool (srB sec)) := ⟨_, rfl⟩
          change wpOrd _ _ _ _ _ _ (A2.put (some 158) (.bool (srB sec))) _
          rw [← hA3]
          have s3 := tm_sz hA3 s2
          replace e4 := tm_ne hA3 e4 (by decide)
          replace e156 := tm_ne hA3 e156 (by decide)
          clear e157
          have e158 := tm_eq hA3
          have HA3 := hide hA3
          clear hA3
          have HP := hide (unhide HJ6).fin
          unfold putI at HP
          obtain ⟨r0, r1, r2, r3⟩ := (unhide HJ6).r.cells
          obtain ⟨z0, z1, z2, z3⟩ := (unhide HJ6).r.free
          refine ord_alone rfl rfl ?_
          intro K hK
          unfold Oper.wp
          go_simp
          refine hK _ _ ?_
          clear hK K r0 r1 r2 r3 z0 z1 z2 z3
          refine ord_valL (.bool (srB sec)) rfl rfl (fun W => by go_simp; first | done | exact e158 _) ?_
          intro A4 hA4
          replace hA4 : A4 = A3.put (some 5) (.bool (srB sec)) := hA4
          have s4 := tm_sz hA4 s3
          replace e4 := tm_ne hA4 e4 (by decide)
          clear e156
          clear e158
          have e5 := tm_eq hA4
          have HA4 := hide hA4
          clear hA4
          refine ord_done ?_
          have hp4 := tm_ev e4 s4 (by decide)
          have hp5 := tm_ev e5 s4 (by decide)
          have HP4 := hide hp4
          have HP5 := hide hp5
          clear hp4 hp5 e4 e5
          have HDF := hide (show A4.defers = [] by rw [unhide HA4, unhide HA3, unhide HA2, unhide HA1, ← unhide HA0]; rfl)
          go_wp2
          refine bodyPost_ret (res_ic Tryz.results16 (unhide HP4) (unhide HP5) (unhide HP).1) (unhide HDF) ?_
          exact ⟨a, ⟨CS, TB, SN, DA⟩, ts, rfl, (unhide HP).2.1, fun _ => (unhide HM).symm, (unhide HP).2.2⟩

end Go.Proofs.YtpdpnepnfhbonaaGreatDoor

namespace Go.Proofs.YtpdpnepnfhbonaaGreatDoor
open Go.RowKit
set_option linter.unusedVariables false
set_option maxRecDepth 100000

def txt : Value → ByteArray
  | .string s => s
  | _ => ⟨#[]⟩
def Rest (s u : ByteArray) (k : Nat) : Prop := u.size + k = s.size ∧ ∀ j, j < u.size → byteAt u j = byteAt s (k + j)
theorem Rest.zero (s : ByteArray) : Rest s s 0 := ⟨rfl, fun j _ => by rw [Nat.zero_add]⟩
theorem Rest.num {s u : ByteArray} {k : Nat} (h : Rest s u k) (h4 : 4 ≤ u.size) : numAt u 0 = numAt s k := by
  unfold numAt
  rw [h.2 0 (by omega), h.2 (0 + 1) (by omega), h.2 (0 + 2) (by omega), h.2 (0 + 3) (by omega)]
  simp

theorem cut_size {u : ByteArray} (a : Nat) : (u.extract a u.size).size = u.size - a := by simp
theorem cut_byte {u : ByteArray} {a j : Nat} (h : a + j < u.size) : byteAt (u.extract a u.size) j = byteAt u (a + j) := by
  have h' : a + j < u.data.size := h
  have e : (u.extract a u.size).data = u.data.extract a u.size := by simp
  unfold byteAt
  rw [e, Array.getElem?_extract]
  have : j < u.size - a := by omega
  simp [this]
theorem Rest.cut {s u : ByteArray} {k : Nat} (h : Rest s u k) (h4 : 4 ≤ u.size) : Rest s (u.extract 4 u.size) (k + 4) := by
  refine ⟨by rw [cut_size]; have := h.1; omega, fun j hj => ?_⟩
  rw [cut_size] at hj
  rw [cut_byte (by omega), h.2 (4 + j) (by omega), Nat.add_assoc]

set_option maxHeartbeats 1600000 in
theorem readNumbers_ok (s : ByteArray) (w : World) (h4 : s.size % 4 = 0) (hl : s.size ≤ 64) (hn : ∀ k, k < s.size / 4 → numB (numAt s (k * 4)) = true) :
    Calls Tryz.prog 95 #[.string s] w fun e w' => ∃ v, e = .returned v ∧ OwnN w' w.heap.size v (unL s) ∧ Below w.heap.size w w' := by
  obtain ⟨j0, hj, hy0, hy1, hy2⟩ := info_parts infoM
  have hb4 : ((s.size : Int) % 4 == 0) = true := by simp; omega
  have hli : (s.size : Int) ≤ 64 := by omega
  have HN := hide hn
  clear hn
  go_enter Tryz.func95, Tryz.ntmps95
  go_wp2_with (go_at_call 54; refine (demand_true _).mono ?_; rintro e w' ⟨rfl, hw⟩; replace hw := hw.symm; subst hw)
  go_loopw [0, 3] (fun t o wr => ∃ (k : Nat) (u : ByteArray) (qo : Option Addr) (qa : Nat), k ≤ s.size / 4 ∧ t = .string u ∧ o = .slice qo k qa ∧ u.size + k * 4 = s.size ∧ Hid (Rest s u (k * 4)) ∧ Hid (OwnR wr w.heap.size 3 1 (.slice qo k qa) k (intV ((unL s).take k))) ∧ Hid (Below w.heap.size w wr)) (fun t _ _ => (txt t).size)
  case atStart => exact ⟨0, s, _, _, Nat.zero_le _, rfl, rfl, rfl, hide (Rest.zero s), hide (.inl ⟨rfl, rfl, _, rfl⟩), hide (Below.refl _ _)⟩
  case round =>
    obtain ⟨k, u, qo, qa, hk, rfl, rfl, hu, HR, HO, HB⟩ := hrel
    by_cases hlt : k < s.size / 4
    · have hu4 : 4 ≤ u.size := by omega
      have HNU : Hid (numB (numAt u 0) = true) := hide (by rw [(unhide HR).num hu4]; exact unhide HN k hlt)
      have HNE := hide ((unhide HR).num hu4)
      have hu0 : 0 < u.size := by omega
      have HSZU := hide (cut_size (u := u) 4)
      go_wp2_with fail
      refine (readNumber_ok u _ hu4 (unhide HNU)).mono ?_
      rintro e w1 ⟨rfl, hb1⟩
      have HB1 := hide (fr (unhide HB) hb1)
      have HO1 := hide ((unhide HO).below hb1)
      clear hb1
      have HOA := hide ((unhide HO1).below (Joins.below_alloc1 _ (.cells #[.int .i64 (numAt u 0)] 3)))
      have HBA := hide (fr (unhide HB1) (Joins.below_alloc1 _ (.cells #[.int .i64 (numAt u 0)] 3)))
      have HSZ := hide (unhide HB1).size
      go_wp2_with (at_builtin; refine wpList_append_one rfl _ _ 27 rfl w.heap.size 3 j0 (.int .i64 0) 1 8 Tryz.underlying27 hj hy0 hy1 hy2 rfl (by omega) qo k qa (intV ((unL s).take k)) rfl (unhide HOA) (by have := unhide HSZ; simp; omega) ⟨w1.heap.size, 0, none⟩ _ [.int .i64 (numAt u 0)] rfl rfl (byte_news w1 _ _) (int_one _) (by unfold maxLen; omega) (by omega) ?_; intro g2 cap2 wA hoA hkA; have HSF := hide (And.intro hoA (keep_below (unhide HBA) (unhide HOA) (Nat.le_refl _) hkA)); clear hoA hkA)
      go_roundw
      case rel => exact ⟨k + 1, _, _, _, by omega, rfl, rfl, by rw [unhide HSZU]; omega, hide (by rw [show (k + 1) * 4 = k * 4 + 4 by omega]; exact (unhide HR).cut hu4), hide (.inr ⟨by omega, by rw [unL_succ hlt, intV_snoc, ← unhide HNE]; exact (unhide HSF).1⟩), hide (unhide HSF).2⟩
      case measure => show (u.extract 4 u.size).size < u.size; rw [unhide HSZU]; omega
    · have hke : k = (unL s).length := by rw [unL_length]; omega
      have hu0 : u.size = 0 := by omega
      have HT : Hid ((unL s).take k = unL s) := hide (List.take_of_length_le (by omega))
      have HON : Hid (OwnR wr w.heap.size 3 1 (.slice qo (unL s).length qa) (unL s).length (intV (unL s))) := hide (by have := unhide HO; rw [unhide HT, hke] at this; exact this)
      subst hke
      go_wp2
      go_ret
      exact ⟨.slice qo (unL s).length qa, rfl, ⟨qo, qa, rfl, unhide HON⟩, unhide HB⟩

set_option maxHeartbeats 1600000 in
theorem readNumbers_bad (s : ByteArray) (w : World) (k0 : Nat) (h4 : s.size % 4 = 0) (hl : s.size ≤ 64) (hk0 : k0 < s.size / 4) (hn : ∀ k, k < k0 → numB (numAt s (k * 4)) = true) (hn0 : numB (numAt s (k0 * 4)) = false) (hE : ErrW w) :
    Calls Tryz.prog 95 #[.string s] w fun e w' => (∃ u pv, e = .panicked [{ v := .iface u pv, recovered := false }]) ∧ Below w.heap.size w w' := by
  obtain ⟨j0, hj, hy0, hy1, hy2⟩ := info_parts infoM
  have hb4 : ((s.size : Int) % 4 == 0) = true := by simp; omega
  have hli : (s.size : Int) ≤ 64 := by omega
  have HN := hide hn
  have HN0 := hide hn0
  have HE := hide hE
  clear hn hn0 hE
  go_enter Tryz.func95, Tryz.ntmps95
  go_wp2_with (go_at_call 54; refine (demand_true _).mono ?_; rintro e w' ⟨rfl, hw⟩; replace hw := hw.symm; subst hw)
  go_loopw [0, 3] (fun t o wr => ∃ (k : Nat) (u : ByteArray) (qo : Option Addr) (qa : Nat), k ≤ k0 ∧ t = .string u ∧ o = .slice qo k qa ∧ u.size + k * 4 = s.size ∧ Hid (Rest s u (k * 4)) ∧ Hid (OwnR wr w.heap.size 3 1 (.slice qo k qa) k (intV ((unL s).take k))) ∧ Hid (Below w.heap.size w wr)) (fun t _ _ => (txt t).size)
  case atStart => exact ⟨0, s, _, _, Nat.zero_le _, rfl, rfl, rfl, hide (Rest.zero s), hide (.inl ⟨rfl, rfl, _, rfl⟩), hide (Below.refl _ _)⟩
  case round =>
    obtain ⟨k, u, qo, qa, hk, rfl, rfl, hu, HR, HO, HB⟩ := hrel
    have hlt0 : k < s.size / 4 := by omega
    by_cases hlt : k < k0
    · have hu4 : 4 ≤ u.size := by omega
      have HNU : Hid (numB (numAt u 0) = true) := hide (by rw [(unhide HR).num hu4]; exact unhide HN k hlt)
      have HNE := hide ((unhide HR).num hu4)
      have hu0 : 0 < u.size := by omega
      have HSZU := hide (cut_size (u := u) 4)
      go_wp2_with fail
      refine (readNumber_ok u _ hu4 (unhide HNU)).mono ?_
      rintro e w1 ⟨rfl, hb1⟩
      have HB1 := hide (fr (unhide HB) hb1)
      have HO1 := hide ((unhide HO).below hb1)
      clear hb1
      have HOA := hide ((unhide HO1).below (Joins.below_alloc1 _ (.cells #[.int .i64 (numAt u 0)] 3)))
      have HBA := hide (fr (unhide HB1) (Joins.below_alloc1 _ (.cells #[.int .i64 (numAt u 0)] 3)))
      have HSZ := hide (unhide HB1).size
      go_wp2_with (at_builtin; refine wpList_append_one rfl _ _ 27 rfl w.heap.size 3 j0 (.int .i64 0) 1 8 Tryz.underlying27 hj hy0 hy1 hy2 rfl (by omega) qo k qa (intV ((unL s).take k)) rfl (unhide HOA) (by have := unhide HSZ; simp; omega) ⟨w1.heap.size, 0, none⟩ _ [.int .i64 (numAt u 0)] rfl rfl (byte_news w1 _ _) (int_one _) (by unfold maxLen; omega) (by omega) ?_; intro g2 cap2 wA hoA hkA; have HSF := hide (And.intro hoA (keep_below (unhide HBA) (unhide HOA) (Nat.le_refl _) hkA)); clear hoA hkA)
      go_roundw
      case rel => exact ⟨k + 1, _, _, _, by omega, rfl, rfl, by rw [unhide HSZU]; omega, hide (by rw [show (k + 1) * 4 = k * 4 + 4 by omega]; exact (unhide HR).cut hu4), hide (.inr ⟨by omega, by rw [unL_succ hlt0, intV_snoc, ← unhide HNE]; exact (unhide HSF).1⟩), hide (unhide HSF).2⟩
      case measure => show (u.extract 4 u.size).size < u.size; rw [unhide HSZU]; omega
    · have hu4 : 4 ≤ u.size := by omega
      have hu0 : 0 < u.size := by omega
      have hke : k = k0 := by omega
      have HNU : Hid (numB (numAt u 0) = false) := hide (by rw [(unhide HR).num hu4, hke]; exact unhide HN0)
      go_wp2_with fail
      refine (readNumber_no u _ hu4 (unhide HNU) ((unhide HE).below (unhide HB))).mono ?_
      rintro e w1 ⟨⟨u1, pv, rfl⟩, hb1⟩
      have HB1 := hide (fr (unhide HB) hb1)
      clear hb1
      go_wp2
      exact ⟨rfl, ⟨u1, pv, rfl⟩, unhide HB1⟩

set_option maxHeartbeats 800000 in
theorem readNumbers_form (s : ByteArray) (w : World) (h : s.size % 4 ≠ 0 ∨ 64 < s.size) (hE : ErrW w) :
    Calls Tryz.prog 95 #[.string s] w fun e w' => (∃ u pv, e = .panicked [{ v := .iface u pv, recovered := false }]) ∧ Below w.heap.size w w' := by
  have HE := hide hE
  clear hE
  by_cases h4 : s.size % 4 = 0
  · have hb4 : ((s.size : Int) % 4 == 0) = true := by simp; omega
    have hli : ¬ (s.size : Int) ≤ 64 := by omega
    go_enter Tryz.func95, Tryz.ntmps95
    go_wp2_with (go_at_call 54; refine (demand_false _ (unhide HE)).mono ?_; rintro e w' ⟨⟨u1, pv, rfl⟩, hw⟩; replace hw := hw.symm; subst hw)
    exact ⟨rfl, ⟨_, _, rfl⟩, Below.refl _ _⟩
  · have hb4 : ((s.size : Int) % 4 == 0) = false := by simp; omega
    go_enter Tryz.func95, Tryz.ntmps95
    go_wp2_with (go_at_call 54; refine (demand_false _ (unhide HE)).mono ?_; rintro e w' ⟨⟨u1, pv, rfl⟩, hw⟩; replace hw := hw.symm; subst hw)
    exact ⟨rfl, ⟨_, _, rfl⟩, Below.refl _ _⟩

theorem first_bad {p : Nat → Bool} : ∀ n, (∀ k, k < n → p k = true) ∨ ∃ k0, k0 < n ∧ (∀ k, k < k0 → p k = true) ∧ p k0 = false
  | 0 => .inl (fun k hk => by omega)
  | n + 1 => by
    rcases first_bad (p := p) n with h | ⟨k0, h0, h1, h2⟩
    · cases hp : p n with
      | true => exact .inl (fun k hk => by
          by_cases e : k = n
          · subst e; exact hp
          · exact h k (by omega))
      | false => exact .inr ⟨n, by omega, h, hp⟩
    · exact .inr ⟨k0, by omega, h1, h2⟩

theorem readNumbers_yes (s : ByteArray) (w : World) (h : okU s = true) :
    Calls Tryz.prog 95 #[.string s] w fun e w' => ∃ v, e = .returned v ∧ OwnN w' w.heap.size v (unL s) ∧ Below w.heap.size w w' := by
  have h4 : s.size % 4 = 0 := by
    by_cases h4 : s.size % 4 = 0
    · exact h4
    · rw [okU_rest h4] at h; cases h
  have hl : s.size ≤ 64 := by
    by_cases hl : 64 < s.size
    · rw [okU_long hl] at h; cases h
    · omega
  refine readNumbers_ok s w h4 hl (fun k hk => ?_)
  cases hb : numB (numAt s (k * 4)) with
  | true => rfl
  | false => rw [okU_bad hk hb] at h; cases h
theorem readNumbers_no (s : ByteArray) (w : World) (h : okU s = false) (hE : ErrW w) :
    Calls Tryz.prog 95 #[.string s] w fun e w' => (∃ u pv, e = .panicked [{ v := .iface u pv, recovered := false }]) ∧ Below w.heap.size w w' := by
  by_cases h4 : s.size % 4 = 0
  · by_cases hl : s.size ≤ 64
    · rcases first_bad (p := fun k => numB (numAt s (k * 4))) (s.size / 4) with hg | ⟨k0, h0, h1, h2⟩
      · rw [okU_true h4 hl hg] at h; cases h
      · exact readNumbers_bad s w k0 h4 hl h0 h1 h2 hE
    · exact readNumbers_form s w (.inr (by omega)) hE
  · exact readNumbers_form s w (.inl h4) hE

end Go.Proofs.YtpdpnepnfhbonaaGreatDoor

namespace Go.Proofs.YtpdpnepnfhbonaaGreatDoor
open Go.RowKit
set_option linter.unusedVariables false
set_option maxRecDepth 100000

end Go.Proofs.YtpdpnepnfhbonaaGreatDoor

namespace Go.Proofs.YtpdpnepnfhbonaaGreatDoor
open Go.RowKit
set_option linter.unusedVariables false
set_option maxRecDepth 100000

theorem kindOK_any (n : Int) (w : World) : Calls Tryz.prog 93 #[.int .i64 n] w fun e w' => e = .returned (.bool (kindB n)) ∧ w' = w := by
  go_enter Tryz.func93, Tryz.ntmps93
  go_wp2
  all_goals
    go_ret
    exact ⟨ret_bool (by rw [Bool.eq_iff_iff]; simp [kindB, inB]; omega), rfl⟩

end Go.Proofs.YtpdpnepnfhbonaaGreatDoor

namespace Go.Proofs.YtpdpnepnfhbonaaGreatDoor
open Go.RowKit
set_option linter.unusedVariables false
set_option maxRecDepth 100000

structure HeadSt (w W : World) : Prop where
  blk : W.heap[w.heap.size]? = some (.cells #[.int .i64 0, .slice none 0 0] 98 (0, 0))
  size : w.heap.size + 2 ≤ W.heap.size
  below : Below w.heap.size w W
theorem HeadSt.mk' (w : World) (a b : Obj) (n : Nat) (ha : a = .cells #[.int .i64 0, .slice none 0 0] 98) : HeadSt w (((w.alloc a).alloc b).drewN n) := by
  subst ha
  have h : Below w.heap.size w ((w.alloc (.cells #[.int .i64 0, .slice none 0 0] 98)).alloc b) := Joins.below_alloc2 _ _ _
  refine ⟨?_, by simp, h.trans (Joins.below_draws _ _ _)⟩
  show ((w.alloc _).alloc b).heap[w.heap.size]? = _
  rw [(Joins.below_alloc1 _ b).block _ (by simp)]
  exact heap_alloc_new w _

theorem sum_rec (s : ByteArray) (n : Int) (w : World) (hs : s.size ≤ 65536) (h4 : 4 ≤ s.size) (hn : sumC (headT s ++ bodyT s) = n) : Calls Tryz.prog 94 #[.string (s.extract 0 2 ++ s.extract 4 s.size)] w fun e w' => e = .returned (.int .i64 n) ∧ w' = w := by
  subst hn
  exact sumOf_impl (headT s ++ bodyT s) w (by rw [ByteArray.size_append, bodyT_size, headT_size h4]; omega)

set_option maxHeartbeats 1600000 in
theorem readRecord_yes (s : ByteArray) (w : World) (hs : s.size ≤ 65536) (hr : RecP s) : Calls Tryz.prog 75 #[.string s] w fun e w' => ∃ v, e = .returned (.agg #[.int .i64 (byteAt s 0), v]) ∧ OwnN w' w.heap.size v (unL (bodyT s)) ∧ Below w.heap.size w w' := by
  obtain ⟨h4, hk, h3, hcnt, hsum, hok⟩ := hr
  have hc4 := copy4_at (w.alloc (.cells #[.int .i64 0, .slice none 0 0] 98)) (w.heap.size + 1) s (by simp) h4
  have h4i : (4 : Int) ≤ (s.size : Int) := by omega
  have b0 := byteAt_in s 0
  have b1 := byteAt_in s 1
  have b2 := byteAt_in s 2
  have HBZ := hide (bodyT_size s)
  have HHZ := hide (headT_size h4)
  have b3 : (byteAt s 3 == 0) = true := by simp [h3]
  have HSM : Hid (sumC (headT s ++ bodyT s) = byteAt s 2) := hide (by rw [hsum]; exact sumC_short (by rw [ByteArray.size_append, bodyT_size, headT_size h4]; omega))
  have HOK := hide hok
  have hlen : (((s.size - 4 : Nat) : Int) == byteAt s 1 * 4) = true := by rw [bodyT_size] at hcnt; simp [hcnt]
  clear h3 hcnt hsum hok
  go_enter Tryz.func75, Tryz.ntmps75
  go_wp2_with (first | (go_at_call 54; refine (demand_true _).mono ?_; rintro e w' ⟨rfl, hw⟩; replace hw := hw.symm; subst hw))
  go_quiet (fail)
  have HH := hide (HeadSt.mk' w (.cells #[.int .i64 0, .slice none 0 0] 98) (.cells #[.int .u8 (byteAt s 0), .int .u8 (byteAt s 1), .int .u8 (byteAt s 2), .int .u8 (byteAt s 3)] 109) nq rfl)
  revert HH
  generalize (((w.alloc (.cells #[.int .i64 0, .slice none 0 0] 98)).alloc (.cells #[.int .u8 (byteAt s 0), .int .u8 (byteAt s 1), .int .u8 (byteAt s 2), .int .u8 (byteAt s 3)] 109)).drewN nq) = W
  intro HH
  clear hc4
  go_wp2_with (first | (go_at_call 93; refine (kindOK_any _ _).mono ?_; rintro e w' ⟨rfl, hw⟩; replace hw := hw.symm; subst hw) | (go_at_call 54; refine (demand_true _).mono ?_; rintro e w' ⟨rfl, hw⟩; replace hw := hw.symm; subst hw) | (go_at_call 94; refine (sum_rec s _ _ hs h4 (unhide HSM)).mono ?_; rintro e w' ⟨rfl, hw⟩; replace hw := hw.symm; subst hw))
  refine (readNumbers_yes (bodyT s) _ (unhide HOK)).mono ?_
  rintro e w1 ⟨v, rfl, ⟨qo, qa, rfl, ho⟩, hb⟩
  have hblk : w1.heap[w.heap.size]? = some (.cells #[.int .i64 0, .slice none 0 0] 98 (0, 0)) := by
    rw [hb.block _ (by have := (unhide HH).size; omega)]; exact (unhide HH).blk
  have hc0 : w1.cell? ⟨w.heap.size, 0, none⟩ = some (.int .i64 0) := by rw [Joins.cell_of_block hblk]; rfl
  have hc1 : w1.cell? ⟨w.heap.size, 1, none⟩ = some (.slice none 0 0) := by rw [Joins.cell_of_block hblk]; rfl
  have hf0 := Joins.unfrozen_of_block hblk 0
  have hf1 := Joins.unfrozen_of_block hblk 1
  have HO := hide (ho.base (B' := w.heap.size + 1) (by have := (unhide HH).size; omega))
  have HB := hide (fr (unhide HH).below hb)
  clear ho hb hblk
  go_wp2
  exact bodyPost_ret (v := .agg #[.int .i64 (byteAt s 0), .slice qo (unL (bodyT s)).length qa]) (by simp [results, Tryz.results75, go_sem, hc0, hc1]) rfl
    ⟨.slice qo (unL (bodyT s)).length qa, rfl, ⟨qo, qa, rfl, (((unhide HO).setCell (a := ⟨w.heap.size, 0, none⟩) (Nat.lt_succ_self _) _).setCell (a := ⟨w.heap.size, 1, none⟩) (Nat.lt_succ_self _) _).base (Nat.le_succ _)⟩, ((unhide HB).setCell (p := ⟨w.heap.size, 0, none⟩) (Nat.le_refl _) _).setCell (p := ⟨w.heap.size, 1, none⟩) (Nat.le_refl _) _⟩

theorem readRecord_short (s : ByteArray) (w : World) (h4 : ¬ 4 ≤ s.size) (hE : ErrW w) : Calls Tryz.prog 75 #[.string s] w fun e w' => (∃ u pv, e = .panicked [{ v := .iface u pv, recovered := false }]) ∧ Below w.heap.size w w' := by
  have HE := hide (hE.below (Joins.below_alloc1 w (.cells #[.int .i64 0, .slice none 0 0] 98)))
  have h4i : ¬ (4 : Int) ≤ (s.size : Int) := by omega
  clear hE
  go_enter Tryz.func75, Tryz.ntmps75
  go_wp2_with (go_at_call 54; refine (demand_false _ (unhide HE)).mono ?_; rintro e w' ⟨⟨u, pv, rfl⟩, hw⟩; replace hw := hw.symm; subst hw)
  exact ⟨rfl, ⟨_, _, rfl⟩, Joins.below_alloc1 _ _⟩

set_option maxHeartbeats 1600000 in
theorem readRecord_kind (s : ByteArray) (w : World) (hs : s.size ≤ 65536) (h4 : 4 ≤ s.size) (hk : kindB (byteAt s 0) = false) (hE : ErrW w) : Calls Tryz.prog 75 #[.string s] w fun e w' => (∃ u pv, e = .panicked [{ v := .iface u pv, recovered := false }]) ∧ Below w.heap.size w w' := by
  have HE := hide hE
  clear hE
  have hc4 := copy4_at (w.alloc (.cells #[.int .i64 0, .slice none 0 0] 98)) (w.heap.size + 1) s (by simp) h4
  have h4i : (4 : Int) ≤ (s.size : Int) := by omega
  have b0 := byteAt_in s 0
  have b1 := byteAt_in s 1
  have b2 := byteAt_in s 2
  have HBZ := hide (bodyT_size s)
  have HHZ := hide (headT_size h4)
  go_enter Tryz.func75, Tryz.ntmps75
  go_wp2_with (first | (go_at_call 54; refine (demand_true _).mono ?_; rintro e w' ⟨rfl, hw⟩; replace hw := hw.symm; subst hw))
  go_quiet (fail)
  have HH := hide (HeadSt.mk' w (.cells #[.int .i64 0, .slice none 0 0] 98) (.cells #[.int .u8 (byteAt s 0), .int .u8 (byteAt s 1), .int .u8 (byteAt s 2), .int .u8 (byteAt s 3)] 109) nq rfl)
  revert HH
  generalize (((w.alloc (.cells #[.int .i64 0, .slice none 0 0] 98)).alloc (.cells #[.int .u8 (byteAt s 0), .int .u8 (byteAt s 1), .int .u8 (byteAt s 2), .int .u8 (byteAt s 3)] 109)).drewN nq) = W
  intro HH
  clear hc4
  go_wp2_with (first | (go_at_call 93; refine (kindOK_any _ _).mono ?_; rintro e w' ⟨rfl, hw⟩; replace hw := hw.symm; subst hw) | (go_at_call 54; refine (demand_false _ ((unhide HE).below (unhide HH).below)).mono ?_; rintro e w' ⟨⟨u, pv, rfl⟩, hw⟩; replace hw := hw.symm; subst hw))
  exact ⟨rfl, ⟨_, _, rfl⟩, (unhide HH).below⟩

set_option maxHeartbeats 1600000 in
theorem readRecord_last (s : ByteArray) (w : World) (hs : s.size ≤ 65536) (h4 : 4 ≤ s.size) (hk : kindB (byteAt s 0) = true) (h3 : byteAt s 3 ≠ 0) (hE : ErrW w) : Calls Tryz.prog 75 #[.string s] w fun e w' => (∃ u pv, e = .panicked [{ v := .iface u pv, recovered := false }]) ∧ Below w.heap.size w w' := by
  have HE := hide hE
  clear hE
  have hc4 := copy4_at (w.alloc (.cells #[.int .i64 0, .slice none 0 0] 98)) (w.heap.size + 1) s (by simp) h4
  have h4i : (4 : Int) ≤ (s.size : Int) := by omega
  have b0 := byteAt_in s 0
  have b1 := byteAt_in s 1
  have b2 := byteAt_in s 2
  have HBZ := hide (bodyT_size s)
  have HHZ := hide (headT_size h4)
  have b3 : (byteAt s 3 == 0) = false := by simp [h3]
  clear h3
  go_enter Tryz.func75, Tryz.ntmps75
  go_wp2_with (first | (go_at_call 54; refine (demand_true _).mono ?_; rintro e w' ⟨rfl, hw⟩; replace hw := hw.symm; subst hw))
  go_quiet (fail)
  have HH := hide (HeadSt.mk' w (.cells #[.int .i64 0, .slice none 0 0] 98) (.cells #[.int .u8 (byteAt s 0), .int .u8 (byteAt s 1), .int .u8 (byteAt s 2), .int .u8 (byteAt s 3)] 109) nq rfl)
  revert HH
  generalize (((w.alloc (.cells #[.int .i64 0, .slice none 0 0] 98)).alloc (.cells #[.int .u8 (byteAt s 0), .int .u8 (byteAt s 1), .int .u8 (byteAt s 2), .int .u8 (byteAt s 3)] 109)).drewN nq) = W
  intro HH
  clear hc4
  go_wp2_with (first | (go_at_call 93; refine (kindOK_any _ _).mono ?_; rintro e w' ⟨rfl, hw⟩; replace hw := hw.symm; subst hw) | (go_at_call 54; refine (demand_false _ ((unhide HE).below (unhide HH).below)).mono ?_; rintro e w' ⟨⟨u, pv, rfl⟩, hw⟩; replace hw := hw.symm; subst hw))
  exact ⟨rfl, ⟨_, _, rfl⟩, (unhide HH).below⟩

set_option maxHeartbeats 1600000 in
theorem readRecord_count (s : ByteArray) (w : World) (hs : s.size ≤ 65536) (h4 : 4 ≤ s.size) (hk : kindB (byteAt s 0) = true) (h3 : byteAt s 3 = 0) (hcnt : ((bodyT s).size : Int) ≠ byteAt s 1 * 4) (hE : ErrW w) : Calls Tryz.prog 75 #[.string s] w fun e w' => (∃ u pv, e = .panicked [{ v := .iface u pv, recovered := false }]) ∧ Below w.heap.size w w' := by
  have HE := hide hE
  clear hE
  have hc4 := copy4_at (w.alloc (.cells #[.int .i64 0, .slice none 0 0] 98)) (w.heap.size + 1) s (by simp) h4
  have h4i : (4 : Int) ≤ (s.size : Int) := by omega
  have b0 := byteAt_in s 0
  have b1 := byteAt_in s 1
  have b2 := byteAt_in s 2
  have HBZ := hide (bodyT_size s)
  have HHZ := hide (headT_size h4)
  have b3 : (byteAt s 3 == 0) = true := by simp [h3]
  have hlen : (((s.size - 4 : Nat) : Int) == byteAt s 1 * 4) = false := by rw [bodyT_size] at hcnt; simp [hcnt]
  clear h3 hcnt
  go_enter Tryz.func75, Tryz.ntmps75
  go_wp2_with (first | (go_at_call 54; refine (demand_true _).mono ?_; rintro e w' ⟨rfl, hw⟩; replace hw := hw.symm; subst hw))
  go_quiet (fail)
  have HH := hide (HeadSt.mk' w (.cells #[.int .i64 0, .slice none 0 0] 98) (.cells #[.int .u8 (byteAt s 0), .int .u8 (byteAt s 1), .int .u8 (byteAt s 2), .int .u8 (byteAt s 3)] 109) nq rfl)
  revert HH
  generalize (((w.alloc (.cells #[.int .i64 0, .slice none 0 0] 98)).alloc (.cells #[.int .u8 (byteAt s 0), .int .u8 (byteAt s 1), .int .u8 (byteAt s 2), .int .u8 (byteAt s 3)] 109)).drewN nq) = W
  intro HH
  clear hc4
  go_wp2_with (first | (go_at_call 93; refine (kindOK_any _ _).mono ?_; rintro e w' ⟨rfl, hw⟩; replace hw := hw.symm; subst hw) | (go_at_call 54; refine (demand_true _).mono ?_; rintro e w' ⟨rfl, hw⟩; replace hw := hw.symm; subst hw) | (go_at_call 54; refine (demand_false _ ((unhide HE).below (unhide HH).below)).mono ?_; rintro e w' ⟨⟨u, pv, rfl⟩, hw⟩; replace hw := hw.symm; subst hw))
  exact ⟨rfl, ⟨_, _, rfl⟩, (unhide HH).below⟩

set_option maxHeartbeats 1600000 in
theorem readRecord_sum (s : ByteArray) (w : World) (hs : s.size ≤ 65536) (h4 : 4 ≤ s.size) (hk : kindB (byteAt s 0) = true) (h3 : byteAt s 3 = 0) (hcnt : ((bodyT s).size : Int) = byteAt s 1 * 4) (hsum : byteAt s 2 ≠ sumS (headT s ++ bodyT s)) (hE : ErrW w) : Calls Tryz.prog 75 #[.string s] w fun e w' => (∃ u pv, e = .panicked [{ v := .iface u pv, recovered := false }]) ∧ Below w.heap.size w w' := by
  have HE := hide hE
  clear hE
  have hc4 := copy4_at (w.alloc (.cells #[.int .i64 0, .slice none 0 0] 98)) (w.heap.size + 1) s (by simp) h4
  have h4i : (4 : Int) ≤ (s.size : Int) := by omega
  have b0 := byteAt_in s 0
  have b1 := byteAt_in s 1
  have b2 := byteAt_in s 2
  have HBZ := hide (bodyT_size s)
  have HHZ := hide (headT_size h4)
  have b3 : (byteAt s 3 == 0) = true := by simp [h3]
  have hlen : (((s.size - 4 : Nat) : Int) == byteAt s 1 * 4) = true := by rw [bodyT_size] at hcnt; simp [hcnt]
  have HSM : Hid (sumC (headT s ++ bodyT s) = sumS (headT s ++ bodyT s)) := hide (sumC_short (by rw [ByteArray.size_append, bodyT_size, headT_size h4]; omega))
  have hsb : (byteAt s 2 == sumS (headT s ++ bodyT s)) = false := by simp [hsum]
  clear h3 hcnt hsum
  go_enter Tryz.func75, Tryz.ntmps75
  go_wp2_with (first | (go_at_call 54; refine (demand_true _).mono ?_; rintro e w' ⟨rfl, hw⟩; replace hw := hw.symm; subst hw))
  go_quiet (fail)
  have HH := hide (HeadSt.mk' w (.cells #[.int .i64 0, .slice none 0 0] 98) (.cells #[.int .u8 (byteAt s 0), .int .u8 (byteAt s 1), .int .u8 (byteAt s 2), .int .u8 (byteAt s 3)] 109) nq rfl)
  revert HH
  generalize (((w.alloc (.cells #[.int .i64 0, .slice none 0 0] 98)).alloc (.cells #[.int .u8 (byteAt s 0), .int .u8 (byteAt s 1), .int .u8 (byteAt s 2), .int .u8 (byteAt s 3)] 109)).drewN nq) = W
  intro HH
  clear hc4
  go_wp2_with (first | (go_at_call 93; refine (kindOK_any _ _).mono ?_; rintro e w' ⟨rfl, hw⟩; replace hw := hw.symm; subst hw) | (go_at_call 54; refine (demand_true _).mono ?_; rintro e w' ⟨rfl, hw⟩; replace hw := hw.symm; subst hw) | (go_at_call 94; refine (sum_rec s _ _ hs h4 (unhide HSM)).mono ?_; rintro e w' ⟨rfl, hw⟩; replace hw := hw.symm; subst hw) | (go_at_call 54; refine (demand_false _ ((unhide HE).below (unhide HH).below)).mono ?_; rintro e w' ⟨⟨u, pv, rfl⟩, hw⟩; replace hw := hw.symm; subst hw))
  exact ⟨rfl, ⟨_, _, rfl⟩, (unhide HH).below⟩

set_option maxHeartbeats 1600000 in
theorem readRecord_nums (s : ByteArray) (w : World) (hs : s.size ≤ 65536) (h4 : 4 ≤ s.size) (hk : kindB (byteAt s 0) = true) (h3 : byteAt s 3 = 0) (hcnt : ((bodyT s).size : Int) = byteAt s 1 * 4) (hsum : byteAt s 2 = sumS (headT s ++ bodyT s)) (hok : okU (bodyT s) = false) (hE : ErrW w) : Calls Tryz.prog 75 #[.string s] w fun e w' => (∃ u pv, e = .panicked [{ v := .iface u pv, recovered := false }]) ∧ Below w.heap.size w w' := by
  have HE := hide hE
  clear hE
  have hc4 := copy4_at (w.alloc (.cells #[.int .i64 0, .slice none 0 0] 98)) (w.heap.size + 1) s (by simp) h4
  have h4i : (4 : Int) ≤ (s.size : Int) := by omega
  have b0 := byteAt_in s 0
  have b1 := byteAt_in s 1
  have b2 := byteAt_in s 2
  have HBZ := hide (bodyT_size s)
  have HHZ := hide (headT_size h4)
  have b3 : (byteAt s 3 == 0) = true := by simp [h3]
  have hlen : (((s.size - 4 : Nat) : Int) == byteAt s 1 * 4) = true := by rw [bodyT_size] at hcnt; simp [hcnt]
  have HSM : Hid (sumC (headT s ++ bodyT s) = byteAt s 2) := hide (by rw [hsum]; exact sumC_short (by rw [ByteArray.size_append, bodyT_size, headT_size h4]; omega))
  have HOK := hide hok
  clear h3 hcnt hsum hok
  go_enter Tryz.func75, Tryz.ntmps75
  go_wp2_with (first | (go_at_call 54; refine (demand_true _).mono ?_; rintro e w' ⟨rfl, hw⟩; replace hw := hw.symm; subst hw))
  go_quiet (fail)
  have HH := hide (HeadSt.mk' w (.cells #[.int .i64 0, .slice none 0 0] 98) (.cells #[.int .u8 (byteAt s 0), .int .u8 (byteAt s 1), .int .u8 (byteAt s 2), .int .u8 (byteAt s 3)] 109) nq rfl)
  revert HH
  generalize (((w.alloc (.cells #[.int .i64 0, .slice none 0 0] 98)).alloc (.cells #[.int .u8 (byteAt s 0), .int .u8 (byteAt s 1), .int .u8 (byteAt s 2), .int .u8 (byteAt s 3)] 109)).drewN nq) = W
  intro HH
  clear hc4
  go_wp2_with (first | (go_at_call 93; refine (kindOK_any _ _).mono ?_; rintro e w' ⟨rfl, hw⟩; replace hw := hw.symm; subst hw) | (go_at_call 54; refine (demand_true _).mono ?_; rintro e w' ⟨rfl, hw⟩; replace hw := hw.symm; subst hw) | (go_at_call 94; refine (sum_rec s _ _ hs h4 (unhide HSM)).mono ?_; rintro e w' ⟨rfl, hw⟩; replace hw := hw.symm; subst hw))
  refine (readNumbers_no (bodyT s) _ (unhide HOK) ((unhide HE).below (unhide HH).below)).mono ?_
  rintro e w1 ⟨⟨u, pv, rfl⟩, hb⟩
  have HB := hide (fr (unhide HH).below hb)
  clear hb
  go_wp2
  exact ⟨rfl, ⟨u, pv, rfl⟩, unhide HB⟩

theorem readRecord_no (s : ByteArray) (w : World) (hs : s.size ≤ 65536) (hr : ¬ RecP s) (hE : ErrW w) : Calls Tryz.prog 75 #[.string s] w fun e w' => (∃ u pv, e = .panicked [{ v := .iface u pv, recovered := false }]) ∧ Below w.heap.size w w' := by
  by_cases h4 : 4 ≤ s.size
  · cases hk : kindB (byteAt s 0) with
    | false => exact readRecord_kind s w hs h4 hk hE
    | true =>
      by_cases h3 : byteAt s 3 = 0
      · by_cases hcnt : ((bodyT s).size : Int) = byteAt s 1 * 4
        · by_cases hsum : byteAt s 2 = sumS (headT s ++ bodyT s)
          · cases hok : okU (bodyT s) with
            | false => exact readRecord_nums s w hs h4 hk h3 hcnt hsum hok hE
            | true => exact absurd ⟨h4, hk, h3, hcnt, hsum, hok⟩ hr
          · exact readRecord_sum s w hs h4 hk h3 hcnt hsum hE
        · exact readRecord_count s w hs h4 hk h3 hcnt hE
      · exact readRecord_last s w hs h4 hk h3 hE
  · exact readRecord_short s w h4 hE

end Go.Proofs.YtpdpnepnfhbonaaGreatDoor
