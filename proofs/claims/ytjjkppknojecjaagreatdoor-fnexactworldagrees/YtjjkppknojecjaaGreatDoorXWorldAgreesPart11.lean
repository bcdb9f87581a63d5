import Derived.Test.YtjjkppknojecjaaGreatDoorRows
import Derived.Test.YtjjkppknojecjaaGreatDoorXWorldAgreesPart1
import Derived.Test.YtjjkppknojecjaaGreatDoorXWorldAgreesPart6
import Derived.Test.YtjjkppknojecjaaGreatDoorXWorldAgreesPart7
import Derived.Test.YtjjkppknojecjaaGreatDoorXWorldAgreesPart10
import Derived.Test.YtjjkppknojecjaaGreatDoorXWorldAgreesPart8
import Derived.Test.YtjjkppknojecjaaGreatDoorXWorldAgreesPart9
import Derived.WalkKit
import Derived.WalkSpells
import Derived.KernelRfl
import Derived.LoopN
import Derived.Test.YtjjkppknojecjaaGreatDoorXWorldAgreesPart2
import Derived.Defers
import Derived.Recover
import Derived.Test.YtjjkppknojecjaaGreatDoorXWorldAgreesPart3
import Derived.Test.YtjjkppknojecjaaGreatDoorXWorldAgreesPart4
import Derived.BigQuiet
import Derived.Deep.QuietTactic
import Derived.Deep.RegionWith
import Derived.Shelf.SlicesE.Reverse
import Derived.Laws.BytesArg
import Derived.Test.YtjjkppknojecjaaGreatDoorXWorldAgreesPart5
import Derived.Deep.CutRange
import Derived.Laws.CopyRow
import Derived.Laws.ResultCell
import Derived.Laws.Cover3
import Derived.Laws.CopyOwn
import Derived.Deep.MidRow

namespace Go.Proofs.YtjjkppknojecjaaGreatDoor
open Go.RowKit
set_option linter.unusedVariables false
set_option maxRecDepth 100000

theorem neR_run (a b : Rq) (W : World) : (binOp .neq 48 (qV a) (qV b)).run Tryz.prog W = .ok (.bool (!(eqR a b))) W := by
  have u1 := Tryz.underlying48
  have u2 := Tryz.underlying3
  have u3 := Tryz.underlying9
  rw [run_neq_struct, run_equalIn_struct W 9999 48 _ _ (by kernel_rfl) (by kernel_rfl)]
  cases h1 : a.k == b.k <;> cases h2 : a.g == b.g <;> cases h3 : a.v == b.v <;> cases h4 : a.n.toList == b.n.toList <;> simp [Op.eqFields, Program.fieldsOf, u1, u2, u3, part, sizeOf, typeInfo, go_sem, eqR, h1, h2, h3, h4]

set_option maxHeartbeats 12800000 in
theorem worldOK_spec (a : Wl4) (m : Wld) (w : World) (hL : WlL m) (hc : WlS w a m) :
    Calls Tryz.prog 13 #[wlV a m] w fun e w' => e = .returned (.bool (wokB m)) ∧ Below w.heap.size w w' := by
  have HB0 := hide (Joins.below_alloc1 w (.cells (wlC a m) 50))
  have HV0 := hide (VarW.new w 50 a m)
  have HC0 := hide (hc.below (unhide HB0))
  have HL := hide hL
  have heq := neR_run m.q ⟨0, 0, 0, noB⟩
  obtain ⟨R, HR⟩ : ∃ R, Hid (R = wokB m) := ⟨_, hide rfl⟩
  rw [← unhide HR]
  clear hc hL
  go_enter Tryz.func13, Tryz.ntmps13
  go_upto_region 1 with fail
  revert HB0 HV0 HC0
  generalize (w.alloc _) = W0
  intro HB0 HV0 HC0
  obtain ⟨c0, c1, c2, c3, c4, c5, c6, c7, c8, c9, c10, c11, c12, c13, c14⟩ := (unhide HV0).cells
  go_wp2_with fail
  refine (diskOK_spec a.ao a.bo a.ca a.cb m.ss m.xs _ (unhide HL).s (unhide HL).i (unhide HC0).s (unhide HC0).i).mono ?_
  rintro e w1 ⟨rfl, hb⟩
  have HV1 := hide ((unhide HV0).below hb)
  have HC1 := hide ((unhide HC0).below hb)
  have HB1 := hide (fr (unhide HB0) hb)
  clear hb HV0 HC0 HB0 c0 c1 c2 c3 c4 c5 c6 c7 c8 c9 c10 c11 c12 c13 c14
  cases hd0 : diskB m.ss m.xs
  · have HF : Hid (R = false) := hide (by rw [unhide HR]; exact wok_0 hd0)
    clear hd0
    go_wp2
    go_ret
    exact ⟨ret_bool (unhide HF).symm, unhide HB1⟩
  have D0 := hide hd0
  clear hd0
  obtain ⟨c0, c1, c2, c3, c4, c5, c6, c7, c8, c9, c10, c11, c12, c13, c14⟩ := (unhide HV1).cells
  go_wp2_with fail
  refine (configOK_spec m.cf m.cd m.cl m.cr _).mono ?_
  rintro e w2 ⟨rfl, hb⟩
  have HV2 := hide ((unhide HV1).below hb)
  have HC2 := hide ((unhide HC1).below hb)
  have HB2 := hide (fr (unhide HB1) hb)
  clear hb HV1 HC1 HB1 c0 c1 c2 c3 c4 c5 c6 c7 c8 c9 c10 c11 c12 c13 c14
  cases hd1 : cokB m.cf m.cd m.cl m.cr
  · have HF : Hid (R = false) := hide (by rw [unhide HR]; exact wok_1 hd1)
    clear hd1
    go_wp2
    go_ret
    exact ⟨ret_bool (unhide HF).symm, unhide HB2⟩
  have D1 := hide hd1
  clear hd1
  by_cases h4 : m.hs.length = 4
  rotate_left
  · have h4i : ((m.hs.length : Int) != 4) = true := by simp; omega
    have HF : Hid (R = false) := hide (by rw [unhide HR]; exact wok_3 (hs_len h4))
    clear h4
    obtain ⟨c0, c1, c2, c3, c4, c5, c6, c7, c8, c9, c10, c11, c12, c13, c14⟩ := (unhide HV2).cells
    go_wp2
    go_ret
    exact ⟨ret_bool (unhide HF).symm, unhide HB2⟩
  have h4i : ((m.hs.length : Int) != 4) = false := by simp; omega
  have H4 := hide h4
  clear h4
  obtain ⟨c0, c1, c2, c3, c4, c5, c6, c7, c8, c9, c10, c11, c12, c13, c14⟩ := (unhide HV2).cells
  go_wp2_with fail
  refine (in_any _ _ _ _).mono ?_
  rintro e w3 ⟨rfl, hw⟩
  replace hw := hw.symm
  subst hw
  have HV3 := HV2
  have HC3 := HC2
  have HB3 := HB2
  clear HV2 HC2 HB2 c0 c1 c2 c3 c4 c5 c6 c7 c8 c9 c10 c11 c12 c13 c14
  cases hd2 : betw m.t 0 1000000
  · have HF : Hid (R = false) := hide (by rw [unhide HR]; exact wok_2 hd2)
    clear hd2
    go_wp2
    go_ret
    exact ⟨ret_bool (unhide HF).symm, unhide HB3⟩
  have D2 := hide hd2
  clear hd2
  clear h4i
  obtain ⟨c0, c1, c2, c3, c4, c5, c6, c7, c8, c9, c10, c11, c12, c13, c14⟩ := (unhide HV3).cells
  go_wp2_with fail
  refine (guestOK_spec a.ga m.g _ (unhide HL).g (unhide HC3).g).mono ?_
  rintro e w4 ⟨rfl, hb⟩
  have HV4 := hide ((unhide HV3).below hb)
  have HC4 := hide ((unhide HC3).below hb)
  have HB4 := hide (fr (unhide HB3) hb)
  clear hb HV3 HC3 HB3 c0 c1 c2 c3 c4 c5 c6 c7 c8 c9 c10 c11 c12 c13 c14
  cases hd3 : gsB m.g
  · have HF : Hid (R = false) := hide (by rw [unhide HR]; exact wok_4 hd3)
    clear hd3
    go_wp2
    go_ret
    exact ⟨ret_bool (unhide HF).symm, unhide HB4⟩
  have D3 := hide hd3
  clear hd3
  by_cases hx : m.xs.length = 0
  rotate_left
  · have hxi : (0 : Int) < (m.xs.length : Int) := by omega
    have HF : Hid (R = false) := hide (by rw [unhide HR]; exact wok_x hx)
    clear hx
    obtain ⟨c0, c1, c2, c3, c4, c5, c6, c7, c8, c9, c10, c11, c12, c13, c14⟩ := (unhide HV4).cells
    go_wp2
    go_ret
    exact ⟨ret_bool (unhide HF).symm, unhide HB4⟩
  have hxi : ¬ (0 : Int) < (m.xs.length : Int) := by omega
  have HX := hide hx
  clear hx
  obtain ⟨c0, c1, c2, c3, c4, c5, c6, c7, c8, c9, c10, c11, c12, c13, c14⟩ := (unhide HV4).cells
  have HM : Hid (maybB m.q = false → R = false) := hide (fun h => by rw [unhide HR]; exact wok_6 h)
  have HN : Hid (maybB m.q = true → R = hsB m.hs m.t) := hide (fun h => by rw [unhide HR]; exact wok_h (unhide D0) (unhide HX) (unhide D1) (unhide D2) (unhide D3) h)
  go_upto_region 3 with fail
  have hxd : decide (0 < m.xs.length) = false := decide_eq_false (by omega)
  try rw [hxd]
  clear hxd
  go_cut [49] from 40 to 48 (fun z wx => z = .bool (!(maybB m.q)) ∧ Hid (VarW wx w.heap.size 50 a m) ∧ Hid (WlS wx a m) ∧ Hid (Below w.heap.size w wx))
  case first =>
    cases hq : eqR m.q ⟨0, 0, 0, noB⟩
    · simp only [hq, Bool.not_false] at heq
      go_wp2_with fail
      refine (reqOK_spec m.q _ (unhide HL).q).mono ?_
      rintro e w5 ⟨rfl, hb⟩
      have HV5 := hide ((unhide HV4).below hb)
      have HC5 := hide ((unhide HC4).below hb)
      have HB5 := hide (fr (unhide HB4) hb)
      clear hb HV4 HC4 HB4 c0 c1 c2 c3 c4 c5 c6 c7 c8 c9 c10 c11 c12 c13 c14
      have HZ : Hid (maybB m.q = rqB m.q) := hide (mayb_no hq)
      clear hq
      go_wp2_with fail
      go_meet
      exact ⟨by rw [unhide HZ], HV5, HC5, HB5⟩
    · simp only [hq, Bool.not_true] at heq
      have HZ : Hid (maybB m.q = true) := hide (mayb_yes hq)
      clear hq
      go_wp2_with fail
      go_meet
      exact ⟨by rw [unhide HZ]; rfl, HV4, HC4, HB4⟩
  case rest =>
    obtain ⟨rfl, HV5, HC5, HB5⟩ := hcut
    clear HV4 HC4 HB4 heq c0 c1 c2 c3 c4 c5 c6 c7 c8 c9 c10 c11 c12 c13 c14
    cases hr : maybB m.q
    · have HF : Hid (R = false) := hide (unhide HM hr)
      clear hr
      go_wp2
      go_ret
      exact ⟨ret_bool (unhide HF).symm, unhide HB5⟩
    have HMB : Hid (maybB m.q = true) := hide hr
    clear hr
    simp only [Bool.not_true]
    have HE := hide (unhide HN (unhide HMB))
    clear HM HN
    obtain ⟨c0, c1, c2, c3, c4, c5, c6, c7, c8, c9, c10, c11, c12, c13, c14⟩ := (unhide HV5).cells
    go_wp2
    clear c0 c1 c2 c3 c4 c5 c6 c7 c8 c9 c10 c11 c12 c13 c14
    go_loopw [3] (fun i wr => ∃ k : Nat, k ≤ 4 ∧ i = .int .i64 k ∧ Hid (∀ j (hj : j < m.hs.length), j < k → hs1 m.t m.hs[j] = true) ∧ Hid (VarW wr w.heap.size 50 a m) ∧ Hid (Hss wr a.ho m.hs) ∧ Hid (Below w.heap.size w wr)) (fun i _ => 4 - (intOf i).toNat)
    case atStart => exact ⟨0, Nat.zero_le _, rfl, hide (fun j _ h => by omega), HV5, hide (unhide HC5).h, HB5⟩
    case round =>
      obtain ⟨k, hk, rfl, HS, HV, HH, HB⟩ := hrel
      clear HV5 HC5 HB5
      have h4 := unhide H4
      by_cases hlt : k < 4
      · have hlt2 : k < m.hs.length := by omega
        have hki : (k : Int) < 4 := by omega
        have hk0 : (0 : Int) ≤ (k : Int) := by omega
        have hkl : (k : Int) < (m.hs.length : Int) := by omega
        obtain ⟨c0, c1, c2, c3, c4, c5, c6, c7, c8, c9, c10, c11, c12, c13, c14⟩ := (unhide HV).cells
        obtain ⟨b, off, hao, hn0, hn1, hn2⟩ := (unhide HH) k hlt2
        rw [hao] at c6
        have HA := hide (Joins.below_alloc1 wr (.cells #[.int .i64 m.hs[k].st, .int .i64 m.hs[k].gen, .int .i64 m.hs[k].ren] 88))
        have HVX := hide (VarHs.new wr m.hs[k])
        have HVA := hide ((unhide HV).below (unhide HA))
        have HHA := hide ((unhide HH).below (unhide HA))
        have HBA := hide (fr (unhide HB) (unhide HA))
        have HX := hide (fun h => hs_bad (t := m.t) hlt2 h)
        have HY : Hid (hs1 m.t m.hs[k] = true → ∀ j (hj : j < m.hs.length), j < k + 1 → hs1 m.t m.hs[j] = true) := hide (fun h j hj hjk => by
          by_cases e : j = k
          · subst e; exact h
          · exact unhide HS j hj (by omega))
        clear h4 HS
        go_upto_region 9 with fail
        revert HX HY
        revert HA HVX HVA HHA HBA
        generalize wr.heap.size = z
        generalize (wr.alloc _) = W9
        generalize m.hs[k] = x
        intro HA HVX HVA HHA HBA HX HY
        clear hn0 hn1 hn2 hao HV HH HB HA c0 c1 c2 c3 c4 c5 c6 c7 c8 c9 c10 c11 c12 c13 c14
        obtain ⟨x0, x1, x2⟩ := (unhide HVX).cells
        obtain ⟨c0, c1, c2, c3, c4, c5, c6, c7, c8, c9, c10, c11, c12, c13, c14⟩ := (unhide HVA).cells
        cases g1 : betw x.st 0 2
        · have HF : Hid (R = false) := hide (by rw [unhide HE]; exact unhide HX (hs1_1 g1))
          go_wp2_with (go_at_call 36; refine (in_any _ _ _ _).mono ?_; rintro e w' ⟨rfl, hw⟩; replace hw := hw.symm; subst hw; rw [g1])
          go_ret
          exact ⟨ret_bool (unhide HF).symm, unhide HBA⟩
        go_wp2_with fail
        refine (in_any _ _ _ _).mono ?_
        rintro e w2 ⟨rfl, hw⟩
        replace hw := hw.symm
        subst hw
        rw [g1]
        cases g2 : betw x.gen 0 1000000
        · have HF : Hid (R = false) := hide (by rw [unhide HE]; exact unhide HX (hs1_2 g2))
          go_wp2_with (go_at_call 36; refine (in_any _ _ _ _).mono ?_; rintro e w' ⟨rfl, hw⟩; replace hw := hw.symm; subst hw; rw [g2])
          go_ret
          exact ⟨ret_bool (unhide HF).symm, unhide HBA⟩
        have HQ := hide (hs1_3 (t := m.t) g1 g2)
        go_wp2_with fail
        refine (in_any _ _ _ _).mono ?_
        rintro e w2 ⟨rfl, hw⟩
        replace hw := hw.symm
        subst hw
        rw [g2]
        cases g3 : betw x.ren 0 m.t
        · have HF : Hid (R = false) := hide (by rw [unhide HE]; exact unhide HX ((unhide HQ).trans g3))
          go_wp2_with (go_at_call 36; refine (in_any _ _ _ _).mono ?_; rintro e w' ⟨rfl, hw⟩; replace hw := hw.symm; subst hw; rw [g3])
          go_ret
          exact ⟨ret_bool (unhide HF).symm, unhide HBA⟩
        have HS' := hide (unhide HY ((unhide HQ).trans g3))
        go_wp2_with (go_at_call 36; refine (in_any _ _ _ _).mono ?_; rintro e w' ⟨rfl, hw⟩; replace hw := hw.symm; subst hw; rw [g3])
        go_roundw
        case rel => exact ⟨k + 1, by omega, by go_num, HS', HVA, HHA, HBA⟩
        case measure => simp [intOf]; omega
      · have HF : Hid (R = true) := hide (by rw [unhide HE]; exact hs_all h4 (fun j h => unhide HS j h (by omega)))
        clear h4
        go_wp2
        go_ret
        exact ⟨ret_bool (unhide HF).symm, unhide HB⟩

end Go.Proofs.YtjjkppknojecjaaGreatDoor

namespace Go.Proofs.YtjjkppknojecjaaGreatDoor
open Go.RowKit
set_option linter.unusedVariables false
set_option maxRecDepth 100000

end Go.Proofs.YtjjkppknojecjaaGreatDoor

namespace Go.Proofs.YtjjkppknojecjaaGreatDoor
open Go.RowKit
set_option linter.unusedVariables false
set_option maxRecDepth 100000

def sxT (p : Int) (m : Nat) : List Int := (List.range m).map fun i => p / 16 ^ i % 16
theorem sxT_len (p : Int) (m : Nat) : (sxT p m).length = m := by simp [sxT]
theorem sxT_succ (p : Int) (m : Nat) : sxT p (m + 1) = sxT p m ++ [p / 16 ^ m % 16] := by simp [sxT, List.range_succ]
theorem rest_succ (p : Int) (m : Nat) : p / 16 ^ m / 16 = p / 16 ^ (m + 1) := by
  rw [show (16 : Int) ^ (m + 1) = 16 ^ m * 16 from Int.pow_succ 16 m, Int.ediv_ediv_of_nonneg (by exact Int.le_of_lt (Int.pow_pos (by omega)))]
theorem rest_in {p : Int} (h0 : 0 ≤ p) (h1 : p ≤ 2147483647) : ∀ m, 0 ≤ p / 16 ^ m ∧ p / 16 ^ m ≤ 2147483647
  | 0 => by simpa using ⟨h0, h1⟩
  | m + 1 => by
    obtain ⟨g0, g1⟩ := rest_in h0 h1 m
    rw [← rest_succ]
    generalize p / 16 ^ m = V at *
    omega
def sxA (ns : List Int) (i : Nat) : List Int := (ns.take i).flatMap fun p => sxT p 6
theorem sxA_len (ns : List Int) : ∀ i, i ≤ ns.length → (sxA ns i).length = 6 * i
  | 0, _ => by simp [sxA]
  | i + 1, h => by
    have := sxA_len ns i (by omega)
    unfold sxA at *
    rw [List.take_succ_eq_append_getElem (by omega), List.flatMap_append, List.length_append, this]
    simp [sxT_len]; omega
theorem sxA_succ {ns : List Int} {i : Nat} (h : i < ns.length) : sxA ns i ++ sxT ns[i] 6 = sxA ns (i + 1) := by
  unfold sxA
  rw [List.take_succ_eq_append_getElem h, List.flatMap_append]; simp
def pad24 (xs : List Int) : List Int := xs ++ List.replicate (24 - xs.length) 0
theorem pad_len {xs : List Int} (h : xs.length ≤ 24) : (pad24 xs).length = 24 := by simp [pad24]; omega
theorem pad_full {xs : List Int} (h : xs.length = 24) : pad24 xs = xs := by simp [pad24, h]
theorem pad_set {xs : List Int} (h : xs.length < 24) (n : Int) : (pad24 xs).set xs.length n = pad24 (xs ++ [n]) := by
  unfold pad24
  rw [List.set_append, if_neg (by omega), Nat.sub_self, List.append_assoc]
  obtain ⟨k, hk⟩ : ∃ k, 24 - xs.length = k + 1 := ⟨24 - xs.length - 1, by omega⟩
  rw [hk, List.replicate_succ, List.set_cons_zero, List.length_append, show 24 - (xs.length + [n].length) = k by simp; omega]
  rfl
def cdN (p : Int) : Bool := decide (p / 16 ^ 6 = 0)
def cdB (s : ByteArray) : Bool := openB s 2 && decide ((openL s 2).length = 4) && (openL s 2).all cdN
def cdL (s : ByteArray) : List Int := sxA (openL s 2) 4
theorem cd_open {s : ByteArray} (h : openB s 2 = false) : cdB s = false := by rw [cdB, h]; rfl
theorem cd_len {s : ByteArray} (h : ¬ (openL s 2).length = 4) : cdB s = false := by rw [cdB, decide_eq_false h]; simp
theorem cd_num {s : ByteArray} {k : Nat} (hk : k < (openL s 2).length) (h : cdN (openL s 2)[k] = false) : cdB s = false := by rw [cdB, all_not (p := cdN) hk h]; simp
theorem cd_yes {s : ByteArray} (h : openB s 2 = true) (hl : (openL s 2).length = 4) (ha : ∀ j (hj : j < (openL s 2).length), cdN (openL s 2)[j] = true) : cdB s = true := by
  rw [cdB, h, decide_eq_true hl, all_of (p := cdN) (fun i hi _ => ha i hi)]; rfl
theorem cdB_parts {s : ByteArray} (h : cdB s = true) : openB s 2 = true ∧ (openL s 2).length = 4 ∧ ∀ j (hj : j < (openL s 2).length), cdN (openL s 2)[j] = true := by
  simp only [cdB, Bool.and_eq_true, decide_eq_true_eq, List.all_eq_true] at h
  exact ⟨h.1.1, h.1.2, fun j hj => h.2 _ (List.getElem_mem hj)⟩
theorem cdL_len {s : ByteArray} (h : cdB s = true) : (cdL s).length = 24 := by
  obtain ⟨_, h4, _⟩ := cdB_parts h
  rw [cdL, sxA_len _ _ (by omega)]
theorem openL_in {s : ByteArray} {k : Int} (h : openB s k = true) : ∀ j (hj : j < (openL s k).length), 0 ≤ (openL s k)[j] ∧ (openL s k)[j] ≤ 2147483647 := by
  intro j hj
  have hr : RecP s := by
    cases hq : recB s
    · rw [openB, hq] at h; cases h
    · exact recB_iff.1 hq
  rw [openL_yes h] at hj
  simp only [openL_yes h]
  have hu : okU (bodyT s) = true := hr.2.2.2.2.2
  exact (intsB_parts (okU_parts hu).2.2).1 j hj

end Go.Proofs.YtjjkppknojecjaaGreatDoor

namespace Go.Proofs.YtjjkppknojecjaaGreatDoor
open Go.RowKit
set_option linter.unusedVariables false
set_option maxRecDepth 100000

theorem open_yes3 {s : ByteArray} (h : openB s 3 = true) : RecP s ∧ byteAt s 0 = 3 := by
  simp only [openB, Bool.and_eq_true, decide_eq_true_eq] at h
  exact ⟨recB_iff.1 h.1, h.2⟩
theorem open_no3 {s : ByteArray} (h : openB s 3 = false) : ¬ (RecP s ∧ byteAt s 0 = 3) := by
  rintro ⟨a, b⟩
  rw [openB_yes a b] at h
  cases h
theorem openL_short (s : ByteArray) (hs : s.size ≤ 65536) : (openL s 3).length ≤ maxLen := by
  have h1 := unL_length (bodyT s)
  have h2 := bodyT_size s
  unfold openL maxLen
  split
  · rw [h1]; omega
  · simp

set_option maxHeartbeats 1600000 in
theorem readTable_yes (s : ByteArray) (w : World) (hs : s.size ≤ 65536) (hok : tdB s = true) :
    Calls Tryz.prog 104 #[.string s] w fun e w' => ∃ v, e = .returned v ∧ OwnN w' w.heap.size v (openL s 3) ∧ Below w.heap.size w w' := by
  obtain ⟨ho, ht⟩ := tdB_parts hok
  have HYE := hide (open_yes3 ho)
  have HLE := hide (openL_yes ho)
  have HSH := hide (openL_short s hs)
  clear ho hok
  go_enter Tryz.func104, Tryz.ntmps104
  go_wp2_with fail
  refine (readKind_yes s 3 _ hs (unhide HYE).1 (unhide HYE).2).mono ?_
  rintro e w1 ⟨v, rfl, ⟨qo, qa, rfl, ho⟩, hb⟩
  rw [← unhide HLE] at ho ⊢
  have HO := hide ho
  have HB := hide hb
  clear ho hb HLE HYE
  generalize hN : openL s 3 = ns at *
  have HN := hide hN
  clear hN
  go_wp2_with (first | (go_at_call 132; refine (tableOK_impl _ _ ns _ (unhide HSH) (ownRN (unhide HO))).mono ?_; rintro e w' ⟨rfl, hw⟩; replace hw := hw.symm; subst hw; rw [ht]) | (go_at_call 106; refine (demand_true _).mono ?_; rintro e w' ⟨rfl, hw⟩; replace hw := hw.symm; subst hw))
  go_ret
  exact ⟨.slice qo ns.length qa, rfl, by rw [unhide HN]; exact ⟨qo, qa, rfl, unhide HO⟩, unhide HB⟩

set_option maxHeartbeats 1600000 in
theorem readTable_no (s : ByteArray) (w : World) (hs : s.size ≤ 65536) (hok : tdB s = false) (hE : ErrW w) :
    Calls Tryz.prog 104 #[.string s] w fun e w' => (∃ u pv, e = .panicked [{ v := .iface u pv, recovered := false }]) ∧ Below w.heap.size w w' := by
  have HE := hide hE
  clear hE
  cases ho : openB s 3
  · have HNO := hide (open_no3 ho)
    go_enter Tryz.func104, Tryz.ntmps104
    go_wp2_with fail
    refine (readKind_no s 3 _ hs (unhide HNO) (unhide HE)).mono ?_
    rintro e w1 ⟨⟨u, pv, rfl⟩, hb⟩
    have HB := hide hb
    clear hb
    go_wp2
    exact ⟨rfl, ⟨_, _, rfl⟩, unhide HB⟩
  · have ht : tbB (openL s 3) = false := by rw [tdB, ho] at hok; simpa using hok
    have HYE := hide (open_yes3 ho)
    have HLE := hide (openL_yes ho)
    have HSH := hide (openL_short s hs)
    clear ho hok
    go_enter Tryz.func104, Tryz.ntmps104
    go_wp2_with fail
    refine (readKind_yes s 3 _ hs (unhide HYE).1 (unhide HYE).2).mono ?_
    rintro e w1 ⟨v, rfl, ⟨qo, qa, rfl, ho⟩, hb⟩
    rw [← unhide HLE] at ho ⊢
    have HO := hide ho
    have HB := hide hb
    clear ho hb HLE HYE
    generalize openL s 3 = ns at *
    go_wp2_with (first | (go_at_call 132; refine (tableOK_impl _ _ ns _ (unhide HSH) (ownRN (unhide HO))).mono ?_; rintro e w' ⟨rfl, hw⟩; replace hw := hw.symm; subst hw; rw [ht]) | (go_at_call 106; refine (demand_false _ ((unhide HE).below (unhide HB))).mono ?_; rintro e w' ⟨⟨u, pv, rfl⟩, hw⟩; replace hw := hw.symm; subst hw))
    exact ⟨rfl, ⟨_, _, rfl⟩, unhide HB⟩

end Go.Proofs.YtjjkppknojecjaaGreatDoor

namespace Go.Proofs.YtjjkppknojecjaaGreatDoor
open Go.RowKit
set_option linter.unusedVariables false

end Go.Proofs.YtjjkppknojecjaaGreatDoor

namespace Go.Proofs.YtjjkppknojecjaaGreatDoor
open Go.RowKit
set_option linter.unusedVariables false
set_option maxRecDepth 100000

end Go.Proofs.YtjjkppknojecjaaGreatDoor

namespace Go.Proofs.YtjjkppknojecjaaGreatDoor
open Go.RowKit
set_option linter.unusedVariables false
set_option maxRecDepth 100000

def ch1 (n : Int) (b : UInt8) : Int := 27 * n + ((b.toNat : Int) - 97) % 256 + 1
def nmN (t : ByteArray) : Int := t.data.toList.foldl ch1 0
def lt1 (n : Nat) : UInt8 := UInt8.ofNat (97 + (n + 26) % 27)
def ltL : Nat → Nat → List UInt8
  | 0, _ => []
  | f + 1, n => if n = 0 then [] else ltL f (n / 27) ++ [lt1 n]
def unT (n : Int) : ByteArray := ⟨(ltL 8 n.toNat).toArray⟩
theorem ch1_in {n : Int} {b : UInt8} (hb : nm1 b = true) : ch1 n b = 27 * n + ((b.toNat : Int) - 96) := by
  simp only [nm1, Bool.and_eq_true, decide_eq_true_eq] at hb
  unfold ch1
  rw [Int.emod_eq_of_lt (by omega) (by omega)]; omega
theorem snm_parts {t : ByteArray} (h : snmB t = true) : t.data.toList.all nm1 = true ∧ 1 ≤ t.size ∧ t.size ≤ 6 := by
  simp only [snmB, Bool.and_eq_true] at h
  have := betw_iff.1 h.2
  exact ⟨h.1, by omega, by omega⟩
theorem ltL_zero (f : Nat) : ltL f 0 = [] := by cases f <;> simp [ltL]
end Go.Proofs.YtjjkppknojecjaaGreatDoor

namespace Go.Proofs.YtjjkppknojecjaaGreatDoor
open Go.RowKit
set_option linter.unusedVariables false
set_option maxRecDepth 100000

end Go.Proofs.YtjjkppknojecjaaGreatDoor

namespace Go.Proofs.YtjjkppknojecjaaGreatDoor
open Go.RowKit
set_option linter.unusedVariables false
set_option maxRecDepth 100000

end Go.Proofs.YtjjkppknojecjaaGreatDoor

namespace Go.Proofs.YtjjkppknojecjaaGreatDoor
open Go.RowKit
set_option linter.unusedVariables false
set_option maxRecDepth 100000

def srS (sec : Nat → ByteArray) : List Int := openL (sec 9) 1
def srN (sec : Nat → ByteArray) : Nat := ((srS sec).getD 0 0).toNat
def supB (sec : Nat → ByteArray) : Bool := openB (sec 9) 1 && decide (0 < (srS sec).length) && decide ((srS sec).getD 0 0 ≤ 3) && decide (((srS sec).length : Int) = 1 + (srS sec).getD 0 0)
def srR (sec : Nat → ByteArray) : List Int := if cdB (sec 10) = true then cdL (sec 10) else []
def srT (sec : Nat → ByteArray) : List Int := openL (sec 11) 3
def snB1 (sec : Nat → ByteArray) (i : Nat) : Bool := tdB (sec (12 + i)) && decide (nmN (unT ((srS sec).getD (1 + i) 0)) = (srS sec).getD (1 + i) 0)
def snR1 (sec : Nat → ByteArray) (i : Nat) : Snp := ⟨unT ((srS sec).getD (1 + i) 0), openL (sec (12 + i)) 3⟩
def srSn (sec : Nat → ByteArray) (k : Nat) : List Snp := (List.range k).map (snR1 sec)
def daB1 (sec : Nat → ByteArray) (c : Nat) : Bool := decide ((srR sec).getD c 0 = 0) || (openB (sec (15 + c)) 4 && decide ((openL (sec (15 + c)) 4).length = 1))
def daR1 (sec : Nat → ByteArray) (c : Nat) : Int := if (srR sec).getD c 0 = 0 then 0 else (openL (sec (15 + c)) 4).getD 0 0
def srM (sec : Nat → ByteArray) : Img := ⟨srR sec, srT sec, srSn sec (srN sec), (List.range 24).map (daR1 sec)⟩
def srP (sec : Nat → ByteArray) : Bool := supB sec && cdB (sec 10) && tdB (sec 11) && (List.range (srN sec)).all (snB1 sec) && (List.range 24).all (daB1 sec)
def srB (sec : Nat → ByteArray) : Bool := srP sec && imB (srM sec)

end Go.Proofs.YtjjkppknojecjaaGreatDoor

namespace Go.Proofs.YtjjkppknojecjaaGreatDoor
open Go.RowKit Go.Shelf
set_option maxRecDepth 100000

def lay_revB_ren : Go.Shelf.Ren := ⟨fun | 35 => 136 | n => n, fun | 22 => 132 | 23 => 5 | 3 => 3 | 4 => 4 | 0 => 0 | n => n, fun | n => n⟩

theorem lay_revB : Go.Proofs.SlLaysE.n35 Tryz.prog lay_revB_ren := {
  mixed := by kernel_rfl
  f35 := ⟨Tryz.f136.name, by decide, Tryz.func136.trans (congrArg some (by kernel_rfl))⟩
  t0 := Tryz.underlying0
  a0 := Tryz.isAgg0
  z0 := Tryz.sizeOf0
  v0 := Tryz.zeroValue0
  t3 := Tryz.underlying3
  a3 := Tryz.isAgg3
  z3 := Tryz.sizeOf3
  v3 := Tryz.zeroValue3
  t4 := Tryz.underlying4
  a4 := Tryz.isAgg4
  z4 := Tryz.sizeOf4
  v4 := Tryz.zeroValue4
  t22 := Tryz.underlying132
  a22 := Tryz.isAgg132
  z22 := Tryz.sizeOf132
  v22 := Tryz.zeroValue132
  a23 := Tryz.isAgg5
  z23 := Tryz.sizeOf5 }

end Go.Proofs.YtjjkppknojecjaaGreatDoor

namespace Go.Proofs.YtjjkppknojecjaaGreatDoor
open Go.RowKit Go.Sort
set_option linter.unusedVariables false
set_option maxRecDepth 100000

def li1 (n : Nat) : UInt8 := UInt8.ofNat (96 + n % 27)
def liL : Nat → Nat → List UInt8
  | 0, _ => []
  | f + 1, n => if n = 0 then [] else liL f (n / 27) ++ [li1 n]
def unI (n : Nat) : ByteArray := ⟨(liL 8 n).toArray⟩
theorem liL_zero (f : Nat) : liL f 0 = [] := by cases f <;> simp [liL]
theorem li1_toNat (n : Nat) : (li1 n).toNat = 96 + n % 27 := by
  unfold li1
  rw [UInt8.toNat_ofNat']
  omega
theorem lt1_toNat (n : Nat) : (lt1 n).toNat = 97 + (n + 26) % 27 := by
  unfold lt1
  rw [UInt8.toNat_ofNat']
  omega
theorem li_lt {n : Nat} (h : n % 27 ≠ 0) : li1 n = lt1 n := by
  apply UInt8.toNat_inj.1
  rw [li1_toNat, lt1_toNat]
  omega
theorem li_ok : ∀ (f n : Nat), (liL f n).all nm1 = true → liL f n = ltL f n
  | 0, n, _ => rfl
  | f + 1, n, h => by
    rw [liL, ltL] at *
    by_cases hn : n = 0
    · rw [if_pos hn, if_pos hn]
    · rw [if_neg hn] at h ⊢
      rw [if_neg hn]
      rw [List.all_append, Bool.and_eq_true] at h
      have h2 : nm1 (li1 n) = true := by simpa using h.2
      simp only [nm1, Bool.and_eq_true, decide_eq_true_eq, li1_toNat] at h2
      rw [li_ok f (n / 27) h.1, li_lt (by omega)]
theorem lt_ok : ∀ (f n : Nat), (ltL f n).all nm1 = true → liL f n = ltL f n
  | 0, n, _ => rfl
  | f + 1, n, h => by
    rw [ltL] at h
    rw [liL, ltL]
    by_cases hn : n = 0
    · rw [if_pos hn, if_pos hn]
    · rw [if_neg hn] at h ⊢
      rw [if_neg hn]
      rw [List.all_append, Bool.and_eq_true] at h
      have h2 : nm1 (lt1 n) = true := by simpa using h.2
      simp only [nm1, Bool.and_eq_true, decide_eq_true_eq, lt1_toNat] at h2
      rw [lt_ok f (n / 27) h.1, li_lt (by omega)]
theorem fold_lt : ∀ (f n : Nat), n < 27 ^ f → (ltL f n).all nm1 = true → (ltL f n).foldl ch1 0 = (n : Int)
  | 0, n, h, _ => by
    have : n = 0 := by simpa using h
    subst this; rfl
  | f + 1, n, h, ha => by
    rw [ltL] at ha ⊢
    by_cases hn : n = 0
    · subst hn; simp
    · rw [if_neg hn] at ha ⊢
      rw [List.all_append, Bool.and_eq_true] at ha
      have h2 : nm1 (lt1 n) = true := by simpa using ha.2
      rw [List.foldl_append, fold_lt f (n / 27) (by rw [Nat.pow_succ] at h; omega) ha.1]
      simp only [List.foldl_cons, List.foldl_nil]
      rw [ch1_in h2, lt1_toNat]
      simp only [nm1, Bool.and_eq_true, decide_eq_true_eq, lt1_toNat] at h2
      omega
theorem unI_yes {n : Nat} (hn : n ≤ 2147483647) (h : snmB (unI n) = true) : unI n = unT (n : Int) ∧ nmN (unT (n : Int)) = (n : Int) := by
  have ha := (snm_parts h).1
  have hl : (unI n).data.toList = liL 8 n := by simp [unI]
  rw [hl] at ha
  have e := li_ok 8 n ha
  have e2 : unI n = unT (n : Int) := by rw [unI, unT, Int.toNat_natCast, e]
  refine ⟨e2, ?_⟩
  have hl2 : (unT (n : Int)).data.toList = ltL 8 n := by simp [unT]
  rw [nmN, hl2]
  exact fold_lt 8 n (by omega) (e ▸ ha)
theorem unT_yes {n : Nat} (h : snmB (unT (n : Int)) = true) : snmB (unI n) = true := by
  have ha := (snm_parts h).1
  have hl : (unT (n : Int)).data.toList = ltL 8 n := by simp [unT]
  rw [hl] at ha
  have e := lt_ok 8 n ha
  have e2 : unI n = unT (n : Int) := by rw [unI, unT, Int.toNat_natCast, e]
  rw [e2]; exact h

structure LiJ (N m : Nat) (acc : List UInt8) : Prop where
  h : ∃ f, f + acc.length ≤ 8 ∧ m < 27 ^ f ∧ liL 8 N = liL f m ++ acc.reverse
theorem LiJ.start {N : Nat} (h : N ≤ 2147483647) : LiJ N N [] := ⟨8, by decide, by omega, by simp⟩
theorem LiJ.small {N m : Nat} {s : List UInt8} (J : LiJ N m s) : m < 282429536481 ∧ s.length ≤ 8 := by
  obtain ⟨f, h1, h2, _⟩ := J.h
  exact ⟨Nat.lt_of_lt_of_le h2 (Nat.le_trans (Nat.pow_le_pow_right (by decide) (show f ≤ 8 by omega)) (by decide)), by omega⟩
theorem LiJ.step {N m : Nat} {s : List UInt8} (J : LiJ N m s) (hm : 0 < m) : LiJ N (m / 27) (s ++ [li1 m]) := by
  obtain ⟨f, h1, h2, h3⟩ := J.h
  cases f with
  | zero => simp at h2; omega
  | succ f =>
    refine ⟨f, by simp; omega, by rw [Nat.pow_succ] at h2; omega, ?_⟩
    rw [h3, liL, if_neg (by omega)]
    simp
theorem LiJ.stop {N : Nat} {s : List UInt8} (J : LiJ N 0 s) : s.reverse = liL 8 N := by
  obtain ⟨f, h1, h2, h3⟩ := J.h
  rw [liL_zero, List.nil_append] at h3
  exact h3.symm
def bI (l : List UInt8) : List Int := l.map (fun b => (b.toNat : Int))
theorem bI_str (l : List UInt8) : strOfNums (bI l) = ⟨l.toArray⟩ := by
  unfold strOfNums bI
  have : ∀ l : List UInt8, (l.map (fun b => (b.toNat : Int))).map (fun n => UInt8.ofNat n.toNat) = l := by
    intro l
    induction l with
    | nil => rfl
    | cons b l ih => rw [List.map_cons, List.map_cons, ih, Int.toNat_natCast, UInt8.ofNat_toNat]
  rw [this]
theorem infoB8 : (Tryz.prog.info? 5).map (fun i => (i.zero, i.size, i.bytes)) = some (some (.int .u8 0), 1, 1) := by kernel_rfl

theorem reverse_own (B n qa : Nat) (qo : Option Addr) (ns : List Int) (w0 w : World) (hB : w0.heap.size ≤ B) (hb : Below w0.heap.size w0 w) (h : OwnR w B 5 1 (.slice qo n qa) n (byteV ns)) (hn : n ≤ 1000) :
    Calls Tryz.prog 136 #[.slice qo n qa] w fun e w' => e = .returned (.tuple #[]) ∧ (convert 132 9 (.slice qo n qa)).run Tryz.prog w' = .ok (.string (strOfNums ns.reverse)) w' ∧ Below w0.heap.size w0 w' := by
  rcases h with ⟨rfl, hx, ao, hv⟩ | ⟨h0, h⟩
  · simp only [Value.slice.injEq, true_and] at hv
    obtain ⟨rfl, rfl⟩ := hv
    have hns : ns = [] := by simpa [byteV] using hx
    subst hns
    refine (AnyE.slices_Reverse_empty lay_revB qo 0 w).mono ?_
    rintro e w' ⟨rfl, rfl⟩
    exact ⟨rfl, convert_own Tryz.underlying132 Tryz.underlying5 Tryz.underlying9 (B := B) (t := 5) (ns := []) (.inl ⟨rfl, rfl, qo, rfl⟩), hb⟩
  · have hr := h
    rcases h with ⟨hlen0, ⟨hv, h00⟩ | ⟨g, cap, cur, hv, hBg, hblk, hnc, hcm, hcs, ht⟩⟩
    · omega
    simp only [Value.slice.injEq, true_and] at hv
    obtain ⟨rfl, rfl⟩ := hv
    have hlen : ns.length = n := by rw [byteV_length] at hlen0; omega
    subst hlen
    have hcell : ∀ i (hi : i < ns.length), w.cell? ⟨g, i, none⟩ = some (.int .u8 ns[i]) := fun i hi => by
      have := hr.cellAt i (by omega)
      rw [this]
      simp [byteV, hi]
    have hH : Holds (Value.int .u8) w g 0 ns.toArray := fun j hj => by
      have hj' : j < ns.length := by simpa using hj
      refine ⟨?_, Joins.unfrozen_of_block hblk _⟩
      rw [Nat.zero_add, hcell j hj']
      simp [hj']
    refine (AnyE.slices_Reverse lay_revB (Value.int .u8) (fun _ => rfl) g 0 qa ns w hH (by omega)).mono ?_
    rintro e w' ⟨rfl, k, rfl⟩
    have hH2 : Holds (Value.int .u8) (putRow (Value.int .u8) (Sort.ahead w k) g 0 ns.reverse.toArray) g 0 ns.reverse.toArray := holds_putRow _ _ _ _ ns.toArray _ hH (by simp)
    refine ⟨rfl, ?_, ⟨hb.os, hb.tape, hb.output, by rw [size_putRow]; exact hb.size, fun q hq => ?_⟩⟩
    · refine run_convert_bytes_arg _ 132 5 Tryz.underlying132 Tryz.underlying5 g 0 ns.length qa ns.reverse (by simp) (fun i hi => ?_) 9 Tryz.underlying9
      have := (hH2 i (by simpa using hi)).1
      rw [this]
      simp [hi, List.getD]
    · have hqg : q ≠ g := by have := Nat.lt_of_lt_of_le hq hB; omega
      have : (putRow (Value.int .u8) (Sort.ahead w k) g 0 ns.reverse.toArray).heap[q]? = w.heap[q]? := by
        simp [putRow, mapBlock, Array.getElem?_modify, Ne.symm hqg, Sort.ahead]
      rw [this]
      exact hb.block q hq

def Pan (e : Ending) : Prop := ∃ u pv, e = .panicked [{ v := .iface u pv, recovered := false }]

set_option maxHeartbeats 3200000 in
theorem readName_any (N : Nat) (w : World) (hz : N ≤ 2147483647) (hE : ErrW w) :
    Calls Tryz.prog 109 #[.int .i64 N] w fun e w' => ((snmB (unI N) = true ∧ e = .returned (.string (unI N))) ∨ (snmB (unI N) = false ∧ Pan e)) ∧ Below w.heap.size w w' := by
  have HJ0 := hide (LiJ.start hz)
  have HU0 : Hid (OwnR w w.heap.size 5 1 (.slice none 0 0) 0 (byteV (bI []))) := hide (.inl ⟨rfl, rfl, none, rfl⟩)
  have HE := hide hE
  clear hz hE
  obtain ⟨j0, hj, hy0, hy1, hy2⟩ := info_parts infoB8
  go_enter Tryz.func109, Tryz.ntmps109
  go_wp2
  go_loopw [0, 3] (fun n o wr => ∃ (m k : Nat) (acc : List UInt8) (qo : Option Addr) (qa : Nat), n = .int .i64 m ∧ o = .slice qo k qa ∧ k ≤ 8 ∧ Hid (acc.length = k) ∧ Hid (LiJ N m acc) ∧ Hid (OwnR wr w.heap.size 5 1 (.slice qo k qa) k (byteV (bI acc))) ∧ Hid (Below w.heap.size w wr)) (fun n _ _ => (intOf n).toNat)
  case atStart => exact ⟨N, 0, [], none, 0, rfl, rfl, by omega, hide rfl, HJ0, HU0, hide (Below.refl _ _)⟩
  case round =>
    clear HJ0 HU0
    obtain ⟨m, k, acc, qo, qa, rfl, rfl, hk8, HK, HJ, HU, HB⟩ := hrel
    obtain ⟨b1, b2⟩ := (unhide HJ).small
    by_cases hlt : 0 < m
    · have hlti : (0 : Int) < (m : Int) := by omega
      have HJ2 := hide ((unhide HJ).step hlt)
      obtain ⟨_, b3⟩ := (unhide HJ2).small
      have hk7 : k + 1 ≤ 8 := by have := unhide HK; simp at b3; omega
      have HK2 : Hid ((acc ++ [li1 m]).length = k + 1) := hide (by simp; exact unhide HK)
      have HST : Hid (byteV (bI (acc ++ [li1 m])) = byteV (bI acc) ++ [.int .u8 (96 + (m : Int) % 27)]) := hide (by simp [byteV, bI, li1_toNat])
      have h1 := Int.emod_nonneg (m : Int) (show (27 : Int) ≠ 0 by decide)
      have h2 := Int.emod_lt_of_pos (m : Int) (show (0 : Int) < 27 by decide)
      clear b2 b3
      have w1 : IntKind.i64.wrap (96 + (m : Int) % 27) = 96 + (m : Int) % 27 := by rw [IntKind.wrap_i64]; omega
      have w2 : IntKind.u8.wrap (96 + (m : Int) % 27) = 96 + (m : Int) % 27 := by simp [IntKind.wrap, IntKind.bits, IntKind.signed]; omega
      have HOA := hide ((unhide HU).below (Joins.below_alloc1 _ (.cells #[.int .u8 (96 + (m : Int) % 27)] 5)))
      have HBA := hide (fr (unhide HB) (Joins.below_alloc1 _ (.cells #[.int .u8 (96 + (m : Int) % 27)] 5)))
      have HSZ := hide (unhide HB).size
      go_wp2_with (at_builtin; refine wpList_append_one rfl _ _ 132 rfl w.heap.size 5 j0 (.int .u8 0) 1 1 Tryz.underlying132 hj hy0 hy1 hy2 rfl (by omega) qo k qa (byteV (bI acc)) rfl (unhide HOA) (by have := unhide HSZ; simp; omega) ⟨wr.heap.size, 0, none⟩ _ [.int .u8 (96 + (m : Int) % 27)] rfl rfl (byte_news wr _ _) (byte_one _) (by unfold maxLen; omega) (by omega) ?_; intro g2 cap2 wA hoA hkA; have HSF := hide (And.intro hoA (keep_below (unhide HBA) (unhide HOA) (Nat.le_refl _) hkA)); clear hoA hkA)
      go_roundw
      case rel => exact ⟨m / 27, k + 1, acc ++ [li1 m], some ⟨g2, 0, none⟩, cap2, by go_num, rfl, by omega, HK2, HJ2, hide (.inr ⟨by omega, by rw [unhide HST]; exact (unhide HSF).1⟩), hide (unhide HSF).2⟩
      case measure => simp [intOf]; omega
    · obtain rfl : m = 0 := by omega
      have HRV : Hid (strOfNums (bI acc).reverse = unI N) := hide (by
        have e : (bI acc).reverse = bI acc.reverse := by simp [bI]
        rw [e, bI_str, (unhide HJ).stop]; rfl)
      go_wp2_with fail
      refine (reverse_own w.heap.size k qa qo (bI acc) w wr (Nat.le_refl _) (unhide HB) (unhide HU) (by omega)).mono ?_
      rintro e w2 ⟨rfl, hcv, hb⟩
      rw [unhide HRV] at hcv
      have HB2 := hide hb
      have HZ : Hid ((unI N).size ≤ maxLen) := hide (by
        have : (unI N).size = acc.length := by rw [← unhide HRV, strOfNums_size]; simp [bI]
        rw [this, unhide HK]; unfold maxLen; omega)
      clear hb HRV HK HJ HU HB
      go_wp2_with fail
      refine (snapNameOK_any (unI N) _ (unhide HZ)).mono ?_
      rintro e w3 ⟨rfl, hb⟩
      have HB3 := hide (fr (unhide HB2) hb)
      clear hb hcv
      cases hs : snmB (unI N)
      · have HSS := hide hs
        clear hs
        go_wp2_with (go_at_call 106; refine (demand_false _ ((unhide HE).below (unhide HB3))).mono ?_; rintro e w' ⟨⟨u, pv, rfl⟩, hw⟩; replace hw := hw.symm; subst hw)
        exact ⟨rfl, .inr ⟨unhide HSS, _, _, rfl⟩, unhide HB3⟩
      · have HSS := hide hs
        clear hs
        go_wp2_with (go_at_call 106; refine (demand_true _).mono ?_; rintro e w' ⟨rfl, hw⟩; replace hw := hw.symm; subst hw)
        go_ret
        exact ⟨.inl ⟨unhide HSS, rfl⟩, unhide HB3⟩

end Go.Proofs.YtjjkppknojecjaaGreatDoor

namespace Go.Proofs.YtjjkppknojecjaaGreatDoor
open Go.RowKit
set_option linter.unusedVariables false
set_option maxRecDepth 100000

theorem open_in {s : ByteArray} {k : Int} : openB s k = true ↔ RecP s ∧ byteAt s 0 = k := by
  simp only [openB, Bool.and_eq_true, decide_eq_true_eq]
  exact and_congr_left' recB_iff
theorem readKind_any (s : ByteArray) (k : Int) (w : World) (hs : s.size ≤ 65536) (hE : ErrW w) :
    Calls Tryz.prog 108 #[.string s, .int .i64 k] w fun e w' => ((openB s k = true ∧ ∃ v, e = .returned v ∧ OwnN w' w.heap.size v (openL s k)) ∨ (openB s k = false ∧ Pan e)) ∧ Below w.heap.size w w' := by
  cases ho : openB s k
  · refine (readKind_no s k w hs (fun h => by rw [open_in.2 h] at ho; cases ho) hE).mono ?_
    rintro e w' ⟨h, hb⟩
    exact ⟨.inr ⟨rfl, h⟩, hb⟩
  · have h := open_in.1 ho
    refine (readKind_yes s k w hs h.1 h.2).mono ?_
    rintro e w' ⟨v, he, hv, hb⟩
    rw [← openL_yes ho] at hv
    exact ⟨.inl ⟨rfl, v, he, hv⟩, hb⟩
theorem readTable_any (s : ByteArray) (w : World) (hs : s.size ≤ 65536) (hE : ErrW w) :
    Calls Tryz.prog 104 #[.string s] w fun e w' => ((tdB s = true ∧ ∃ v, e = .returned v ∧ OwnN w' w.heap.size v (openL s 3)) ∨ (tdB s = false ∧ Pan e)) ∧ Below w.heap.size w w' := by
  cases ho : tdB s
  · refine (readTable_no s w hs ho hE).mono ?_
    rintro e w' ⟨h, hb⟩
    exact ⟨.inr ⟨rfl, h⟩, hb⟩
  · refine (readTable_yes s w hs ho).mono ?_
    rintro e w' ⟨v, he, hv, hb⟩
    exact ⟨.inl ⟨rfl, v, he, hv⟩, hb⟩

theorem cut_one {w : World} {B qa : Nat} {qo : Option Addr} {xs : List Int} (h : OwnR w B 3 1 (.slice qo xs.length qa) xs.length (intV xs)) (h1 : 1 ≤ xs.length) :
    ∃ qo', (∀ W : World, (Instr.sliceAt 29 (.slice qo xs.length qa) (some (.int .i64 1)) none none).run Tryz.prog W = .ok (.slice qo' (xs.length - 1) (qa - 1)) W) ∧ Is w qo' (xs.drop 1) := by
  have hI := ownRN h
  obtain ⟨b, off, e, _⟩ := hI 0 (by omega)
  subst e
  have hu : Tryz.prog.underlying 29 = some (.slice (Tryz.prog.elem 29)) := by kernel_rfl
  have hc : xs.length ≤ qa := by
    rcases h with ⟨h0, _⟩ | ⟨h0, h⟩
    · omega
    · rcases h.2 with ⟨_, h1⟩ | ⟨g, cap', cur, e, _, _, hc, _⟩
      · omega
      · simp only [Value.slice.injEq, true_and] at e
        omega
  refine ⟨if qa = 1 then some ⟨b, off, none⟩ else some ⟨b, off + 1, none⟩, fun W => ?_, ?_⟩
  · have hz : (Go.sizeOf (Tryz.prog.elem 29)).run Tryz.prog W = .ok 1 W := by kernel_rfl
    rw [run_sliceAt_slice _ _ _ _ _ _ hu, run_slice_l _ _ _ _ _ hu .i64 1 (by omega) (by omega), hz]
    simp only [Result.andThen, sliced]
    by_cases hq : qa = 1
    · simp [hq]
    · simp [hq, Addr.add]
  · intro i hi
    rw [List.length_drop] at hi
    have hq : qa ≠ 1 := by omega
    obtain ⟨b', off', e, hcl⟩ := hI (1 + i) (by omega)
    cases e
    refine ⟨b, off + 1, if_neg hq, ?_⟩
    rw [show off + 1 + i = off + (1 + i) by omega, hcl, List.getElem_drop]

theorem noSs_own2 {w : World} {B e cap : Nat} {ao : Option Addr} {ss : List ByteArray} (h : OwnR w B e 1 (.slice ao ss.length cap) ss.length (strV ss)) (hz : ∀ s ∈ ss, s.size ≤ maxLen) : Ss w ao ss := by
  rcases h with ⟨h0, _⟩ | ⟨_, h⟩
  · intro i hi; omega
  · exact ownS h hz
def nmsL (s : ByteArray) : List ByteArray := ((openL s 1).drop 1).map (fun x => unI x.toNat)
def nmsH (s : ByteArray) : Bool := decide (0 < (openL s 1).length) && (decide ((openL s 1).getD 0 0 ≤ 3) && decide ((openL s 1).getD 0 0 = (openL s 1).length - 1))
def nmsB (s : ByteArray) : Bool := openB s 1 && (nmsH s && (nmsL s).all snmB)
theorem nms_no {s : ByteArray} (h : openB s 1 = false) : nmsB s = false := by rw [nmsB, h]; rfl
theorem nms_head {s : ByteArray} (h : nmsH s = false) : nmsB s = false := by rw [nmsB, h]; simp
theorem nms_bad {s : ByteArray} {k : Nat} (hk : k < (nmsL s).length) (h : snmB (nmsL s)[k] = false) : nmsB s = false := by rw [nmsB, all_not (p := snmB) hk h]; simp
theorem nms_yes {s : ByteArray} (h1 : openB s 1 = true) (h2 : nmsH s = true) (h3 : ∀ j (hj : j < (nmsL s).length), snmB (nmsL s)[j] = true) : nmsB s = true := by rw [nmsB, h1, h2, all_of (p := snmB) (fun i hi _ => h3 i hi)]; rfl

set_option maxHeartbeats 3200000 in
theorem readNames_any (s : ByteArray) (w : World) (hs : s.size ≤ 65536) (hE : ErrW w) :
    Calls Tryz.prog 65 #[.string s] w fun e w' => ((nmsB s = true ∧ ∃ qo qa, e = .returned (.slice qo (nmsL s).length qa) ∧ Ss w' qo (nmsL s)) ∨ (nmsB s = false ∧ Pan e)) ∧ Below w.heap.size w w' := by
  have HE := hide hE
  clear hE
  obtain ⟨j0, hj, hy0, hy1, hy2⟩ := info_parts infoS
  go_enter Tryz.func65, Tryz.ntmps65
  go_wp2_with fail
  refine (readKind_any s 1 _ hs (unhide HE)).mono ?_
  rintro e w1 ⟨⟨ho, v, rfl, qo, qa, rfl, hv⟩ | ⟨ho, u, pv, rfl⟩, hb⟩
  case inr =>
    have HF := hide (nms_no ho)
    have HB := hide hb
    clear hb ho
    go_wp2
    exact ⟨rfl, .inr ⟨unhide HF, _, _, rfl⟩, unhide HB⟩
  have HO := hide ho
  have HIN : Hid (∀ j (hj : j < (openL s 1).length), 0 ≤ (openL s 1)[j] ∧ (openL s 1)[j] ≤ 2147483647) := hide (openL_in ho)
  have HV := hide hv
  have HB := hide hb
  have HLEN : Hid ((openL s 1).length ≤ 16384) := hide (by
    have h1 := unL_length (bodyT s)
    have h2 := bodyT_size s
    rw [openL_yes ho, h1]; omega)
  have HE1 := hide ((unhide HE).below hb)
  clear hv hb ho HE
  obtain ⟨L, HLQ⟩ : ∃ L, Hid (openL s 1 = L) := ⟨_, hide rfl⟩
  rw [unhide HLQ] at HIN HV HLEN ⊢
  have hl16 := unhide HLEN
  have HIS := hide (ownRN (unhide HV))
  by_cases h0 : 0 < L.length
  case neg =>
    have HF : Hid (nmsB s = false) := hide (nms_head (by rw [nmsH, unhide HLQ, decide_eq_false h0]; rfl))
    have hl0 : L.length = 0 := by omega
    have hz : (L.length : Int) = 0 := by omega
    rw [hl0]
    go_wp2_with (go_at_call 106; refine (demand_false _ (unhide HE1)).mono ?_; rintro e w' ⟨⟨u, pv, rfl⟩, hw⟩; replace hw := hw.symm; subst hw)
    exact ⟨rfl, .inr ⟨unhide HF, _, _, rfl⟩, unhide HB⟩
  have h0i : (0 : Int) < (L.length : Int) := by omega
  obtain ⟨b, off, rfl, hc0⟩ := unhide HIS 0 h0
  rw [Nat.add_zero] at hc0
  have HG0 : Hid (L.getD 0 0 = L[0]) := hide (by simp [List.getD, h0])
  have hr0 := unhide HIN 0 h0
  by_cases h3 : L[0] ≤ 3
  case neg =>
    have HF : Hid (nmsB s = false) := hide (nms_head (by rw [nmsH, unhide HLQ, unhide HG0, decide_eq_false h3]; simp))
    generalize L[0] = X at *
    go_wp2_with (go_at_call 106; refine (demand_false _ (unhide HE1)).mono ?_; rintro e w' ⟨⟨u, pv, rfl⟩, hw⟩; replace hw := hw.symm; subst hw)
    exact ⟨rfl, .inr ⟨unhide HF, _, _, rfl⟩, unhide HB⟩
  have w1' : IntKind.i64.wrap ((L.length : Int) - 1) = (L.length : Int) - 1 := by rw [IntKind.wrap_i64]; omega
  by_cases he : L[0] = (L.length : Int) - 1
  case neg =>
    have HF : Hid (nmsB s = false) := hide (nms_head (by rw [nmsH, unhide HLQ, unhide HG0, decide_eq_false he]; simp))
    have heb : (L[0] == (L.length : Int) - 1) = false := by simp [he]
    generalize L[0] = X at *
    clear he
    go_wp2_with (go_at_call 106; refine (demand_false _ (unhide HE1)).mono ?_; rintro e w' ⟨⟨u, pv, rfl⟩, hw⟩; replace hw := hw.symm; subst hw)
    exact ⟨rfl, .inr ⟨unhide HF, _, _, rfl⟩, unhide HB⟩
  have HH : Hid (nmsH s = true) := hide (by rw [nmsH, unhide HLQ, unhide HG0, decide_eq_true h0, decide_eq_true h3, decide_eq_true he]; rfl)
  have heb : (L[0] == (L.length : Int) - 1) = true := by simp [he]
  have hl4 : L.length ≤ 4 := by omega
  obtain ⟨qo', hsl, hcut⟩ := cut_one (unhide HV) (by omega)
  have HCUT := hide hcut
  have HNM : Hid (nmsL s = (L.drop 1).map (fun x => unI x.toNat)) := hide (by rw [nmsL, unhide HLQ])
  have HLD : Hid ((L.drop 1).length = L.length - 1) := hide (by simp)
  have HID : Hid (∀ j (hj : j < (L.drop 1).length), 0 ≤ (L.drop 1)[j] ∧ (L.drop 1)[j] ≤ 2147483647) := hide (fun j hj => by rw [List.getElem_drop]; exact unhide HIN _ _)
  have HU0 : Hid (OwnR w1 w1.heap.size 9 1 (.slice none 0 0) 0 (strV (((L.drop 1).map (fun x => unI x.toNat)).take 0))) := hide (.inl ⟨rfl, by simp [strV], none, rfl⟩)
  clear hcut HG0 HIS hr0
  have hd1 : ((L.length - 1 : Nat) : Int) = (L.length : Int) - 1 := by omega
  have HLN : Hid (L.length - 1 ≤ 3) := hide (by omega)
  generalize L[0] = X at *
  generalize hDD : L.drop 1 = DD at *
  generalize hNN : L.length - 1 = NN at *
  clear he hDD
  go_wp2_with (go_at_call 106; refine (demand_true _).mono ?_; rintro e w' ⟨rfl, hw⟩; replace hw := hw.symm; subst hw)
  go_loopw [4, 31] (fun o i wr => ∃ (k : Nat) (ro : Option Addr) (ra : Nat), k ≤ NN ∧ i = .int .i64 k ∧ o = .slice ro k ra ∧ Hid (∀ j (hj : j < DD.length), j < k → snmB (unI DD[j].toNat) = true) ∧ Hid (OwnR wr w1.heap.size 9 1 (.slice ro k ra) k (strV ((DD.map (fun x => unI x.toNat)).take k))) ∧ Hid (Below w1.heap.size w1 wr)) (fun _ i _ => NN - (intOf i).toNat)
  case atStart => exact ⟨0, none, 0, Nat.zero_le _, rfl, rfl, hide (fun j _ h => by omega), HU0, hide (Below.refl _ _)⟩
  case round =>
    clear HU0
    obtain ⟨k, ro, ra, hk, rfl, rfl, HA, HU, HB2⟩ := hrel
    have hnn3 := unhide HLN
    by_cases hlt : k < NN
    · have hkd : k < DD.length := by rw [unhide HLD]; exact hlt
      have hlti : (k : Int) < (NN : Int) := by omega
      obtain ⟨b', off', rfl, hck⟩ := ((unhide HCUT).below (unhide HB2)) k hkd
      obtain ⟨x0, x1⟩ := unhide HID k hkd
      obtain ⟨N, hN⟩ := Int.eq_ofNat_of_zero_le x0
      have HNQ : Hid (unI DD[k].toNat = unI N) := hide (by rw [hN]; rfl)
      rw [hN] at hck
      have hN2 : N ≤ 2147483647 := by omega
      have hNM : k < (nmsL s).length := by rw [unhide HNM, List.length_map]; exact hkd
      have HAT : Hid ((nmsL s)[k] = unI N) := hide (by
        have : (nmsL s)[k]? = some (unI N) := by rw [unhide HNM, List.getElem?_map, List.getElem?_eq_getElem hkd, Option.map_some, unhide HNQ]
        rw [List.getElem?_eq_getElem hNM] at this
        exact Option.some.inj this)
      have HBAD : Hid (snmB (unI N) = false → nmsB s = false) := hide (fun h => nms_bad hNM (by rw [unhide HAT]; exact h))
      have HST : Hid (strV ((DD.map (fun x => unI x.toNat)).take (k + 1)) = strV ((DD.map (fun x => unI x.toNat)).take k) ++ [.string (unI N)]) := hide (by
        rw [List.take_succ_eq_append_getElem (by simpa using hkd)]
        simp only [strV, List.map_append, List.getElem_map, unhide HNQ]; rfl)
      clear hN x0 x1 hNM HAT
      go_wp2_with fail
      refine (readName_any N _ hN2 ((unhide HE1).below (unhide HB2))).mono ?_
      rintro e w3 ⟨⟨hs3, rfl⟩ | ⟨hs3, u, pv, rfl⟩, hb3⟩
      case inr =>
        have HF := hide (unhide HBAD hs3)
        have HB3 := hide (fr (unhide HB) (fr (unhide HB2) hb3))
        clear hb3 hs3
        go_wp2
        exact ⟨rfl, .inr ⟨unhide HF, _, _, rfl⟩, unhide HB3⟩
      have HA2 : Hid (∀ j (hj : j < DD.length), j < k + 1 → snmB (unI DD[j].toNat) = true) := hide (fun j hj h => by
        by_cases e : j = k
        · subst e; rw [unhide HNQ]; exact hs3
        · exact unhide HA j hj (by omega))
      have HU3 := hide ((unhide HU).below hb3)
      have HB3 := hide (fr (unhide HB2) hb3)
      clear hb3 hs3 hck HA HU HB2 HBAD
      have HOA := hide ((unhide HU3).below (Joins.below_alloc1 _ (.cells #[.string (unI N)] 9)))
      have HBA := hide (fr (unhide HB3) (Joins.below_alloc1 _ (.cells #[.string (unI N)] 9)))
      have HSZ := hide (unhide HB3).size
      go_wp2_with (at_builtin; refine wpList_append_one rfl _ _ 22 rfl w1.heap.size 9 j0 (.string ⟨#[]⟩) 1 16 Tryz.underlying22 hj hy0 hy1 hy2 rfl (by omega) ro k ra (strV ((DD.map (fun x => unI x.toNat)).take k)) rfl (unhide HOA) (by have := unhide HSZ; simp; omega) ⟨w3.heap.size, 0, none⟩ _ [.string (unI N)] rfl rfl (byte_news w3 _ _) (str_one _) (by unfold maxLen; omega) (by omega) ?_; intro g2 cap2 wA hoA hkA; have HSF := hide (And.intro hoA (keep_below (unhide HBA) (unhide HOA) (Nat.le_refl _) hkA)); clear hoA hkA)
      go_roundw
      case rel => exact ⟨k + 1, some ⟨g2, 0, none⟩, cap2, by omega, by go_num, rfl, HA2, hide (.inr ⟨by omega, by rw [unhide HST]; exact (unhide HSF).1⟩), hide (unhide HSF).2⟩
      case measure => simp [intOf]; omega
    · have hke : k = NN := by omega
      have HNL : Hid ((nmsL s).length = k) := hide (by rw [unhide HNM, List.length_map, unhide HLD, hke])
      have HAL : Hid (∀ j (hj : j < (nmsL s).length), snmB (nmsL s)[j] = true) := hide (fun j hj => by
        have hjd : j < DD.length := by rw [unhide HNM, List.length_map] at hj; exact hj
        have : (nmsL s)[j]? = some (unI DD[j].toNat) := by rw [unhide HNM, List.getElem?_map, List.getElem?_eq_getElem hjd, Option.map_some]
        rw [List.getElem?_eq_getElem hj] at this
        rw [Option.some.inj this]
        exact unhide HA j hjd (by rw [unhide HLD] at hjd; omega))
      have HSS : Hid (Ss wr ro (nmsL s)) := hide (by
        have h := unhide HU
        rw [List.take_of_length_le (by rw [List.length_map, unhide HLD, hke]; exact Nat.le_refl _), ← unhide HNM, ← unhide HNL] at h
        refine noSs_own2 h (fun x hx => ?_)
        obtain ⟨q, hq, rfl⟩ := List.mem_iff_getElem.1 hx
        have := (snm_parts (unhide HAL q hq)).2.2
        unfold maxLen; omega)
      have HF := hide (nms_yes (unhide HO) (unhide HH) (unhide HAL))
      have HBE := hide (fr (unhide HB) (unhide HB2))
      clear hke
      go_wp2
      go_ret
      exact ⟨.inl ⟨unhide HF, ro, ra, by rw [unhide HNL]; rfl, unhide HSS⟩, unhide HBE⟩

def vlB (s : ByteArray) : Bool := openB s 4 && decide ((openL s 4).length = 1)
set_option maxHeartbeats 1600000 in
theorem readValue_any (s : ByteArray) (w : World) (hs : s.size ≤ 65536) (hE : ErrW w) :
    Calls Tryz.prog 105 #[.string s] w fun e w' => ((vlB s = true ∧ e = .returned (.int .i64 ((openL s 4).getD 0 0))) ∨ (vlB s = false ∧ Pan e)) ∧ Below w.heap.size w w' := by
  have HE := hide hE
  clear hE
  go_enter Tryz.func105, Tryz.ntmps105
  go_wp2_with fail
  refine (readKind_any s 4 _ hs (unhide HE)).mono ?_
  rintro e w1 ⟨⟨ho, v, rfl, qo, qa, rfl, hv⟩ | ⟨ho, u, pv, rfl⟩, hb⟩
  case inr =>
    have HF : Hid (vlB s = false) := hide (by rw [vlB, ho]; rfl)
    have HB := hide hb
    clear hb ho
    go_wp2
    exact ⟨rfl, .inr ⟨unhide HF, _, _, rfl⟩, unhide HB⟩
  have HV := hide (ownRN hv)
  have HB := hide hb
  have HE1 := hide ((unhide HE).below hb)
  have HO := hide ho
  have HLEN : Hid ((openL s 4).length ≤ 16384) := hide (by
    have h1 := unL_length (bodyT s)
    have h2 := bodyT_size s
    rw [openL_yes ho, h1]; omega)
  clear hv hb ho HE
  have hl16 := unhide HLEN
  by_cases h1 : (openL s 4).length = 1
  case neg =>
    have HF : Hid (vlB s = false) := hide (by rw [vlB, decide_eq_false h1]; simp)
    have heb : (((openL s 4).length : Int) == 1) = false := by simp; omega
    clear h1
    generalize openL s 4 = L at *
    go_wp2_with (go_at_call 106; refine (demand_false _ (unhide HE1)).mono ?_; rintro e w' ⟨⟨u, pv, rfl⟩, hw⟩; replace hw := hw.symm; subst hw)
    exact ⟨rfl, .inr ⟨unhide HF, _, _, rfl⟩, unhide HB⟩
  have HF : Hid (vlB s = true) := hide (by rw [vlB, unhide HO, decide_eq_true h1]; rfl)
  obtain ⟨b, off, rfl, hc0⟩ := unhide HV 0 (by omega)
  rw [Nat.add_zero] at hc0
  have HG : Hid ((openL s 4).getD 0 0 = (openL s 4)[0]) := hide (by simp [List.getD, h1])
  rw [h1]
  generalize (openL s 4)[0] = X at *
  clear h1
  go_wp2_with (go_at_call 106; refine (demand_true _).mono ?_; rintro e w' ⟨rfl, hw⟩; replace hw := hw.symm; subst hw)
  go_ret
  exact ⟨.inl ⟨unhide HF, by rw [unhide HG]; rfl⟩, unhide HB⟩

end Go.Proofs.YtjjkppknojecjaaGreatDoor

namespace Go.Proofs.YtjjkppknojecjaaGreatDoor
open Go.RowKit
set_option linter.unusedVariables false
set_option maxRecDepth 100000

end Go.Proofs.YtjjkppknojecjaaGreatDoor

namespace Go.Proofs.YtjjkppknojecjaaGreatDoor
open Go.RowKit
set_option linter.unusedVariables false
set_option maxRecDepth 100000

end Go.Proofs.YtjjkppknojecjaaGreatDoor

namespace Go.Proofs.YtjjkppknojecjaaGreatDoor
open Go.RowKit
set_option linter.unusedVariables false
set_option maxRecDepth 100000

end Go.Proofs.YtjjkppknojecjaaGreatDoor

namespace Go.Proofs.YtjjkppknojecjaaGreatDoor
open Go.RowKit
set_option linter.unusedVariables false
set_option maxRecDepth 100000

theorem OwnIm.addS {w w3 w4 : World} {B g2 cap2 : Nat} {a : Im4} {m : Img} {ts : List Value} {name : ByteArray} {t : Value} {tbl : List Int} (h : OwnIm w B a m ts) (hB : B ≤ w.heap.size) (hb : Below w.heap.size w w3) (ht : OwnN w3 w.heap.size t tbl)
    (ho : w4.ownsRow B 96 2 (.slice (some ⟨g2, 0, none⟩) (m.snaps.length + 1) cap2) (m.snaps.length + 1) (snC m.snaps ts ++ [.string name, t])) (hk : Keep (Own (.slice a.so m.snaps.length a.sc)) w3 w4) :
    OwnIm w4 B { a with so := some ⟨g2, 0, none⟩, sc := cap2 } { m with snaps := m.snaps ++ [⟨name, tbl⟩] } (ts ++ [t]) := by
  have hs := h.s.below hb
  have hr := h.rows.below hb
  refine ⟨by simp [h.len], ?_, ?_⟩
  · rw [snC_snoc _ _ _ _ h.len]
    simp only [List.length_append, List.length_singleton]
    exact .inr ⟨by omega, ho⟩
  · have h1 := hr.keep hk (fun r hr' g hg hS => own_apartS (hr.own r hr').row hs (by decide) g hg hS)
    have ht4 : OwnN w4 w.heap.size t tbl := ht.keep hk (fun g hg hS => own_apartS ht.row hs (by decide) g hg hS)
    have e : imRows { a with so := some ⟨g2, 0, none⟩, sc := cap2 } { m with snaps := m.snaps ++ [⟨name, tbl⟩] } (ts ++ [t]) = imRows a m ts ++ [(t, tbl)] := by
      simp only [imRows, List.map_append, List.map_cons, List.map_nil]
      rw [List.zip_append (by rw [List.length_map, h.len])]
      rfl
    rw [e]
    exact h1.add (fun r hr' g hg => ((h.rows.own r hr').ge g hg).2) ht4 hB

end Go.Proofs.YtjjkppknojecjaaGreatDoor

namespace Go.Proofs.YtjjkppknojecjaaGreatDoor
open Go.RowKit
set_option linter.unusedVariables false
set_option maxRecDepth 100000

theorem sizeA24 : (Tryz.prog.info? 145).map (·.size) = some 24 := by kernel_rfl
theorem arr24 : Tryz.prog.arrayLen 145 = 24 := by kernel_rfl
theorem und24 : Tryz.prog.underlying 145 = some (.array 24 3) := by kernel_rfl
theorem sizeA {xs : List Int} (h : xs.length = 24) : (Tryz.prog.info? 145).map (·.size) = some (intV xs).toArray.size := by rw [intV_size, h]; exact sizeA24
set_option maxHeartbeats 800000 in
theorem refsOK_impl (ao : Option Addr) (cap : Nat) (xs : List Int) (w : World) (hl : xs.length ≤ maxLen) (hc : Is w ao xs) :
    Calls Tryz.prog 141 #[.slice ao xs.length cap] w fun e w' => e = .returned (.bool (ctB xs)) ∧ w' = w := by
  have HC := hide hc
  clear hc
  unfold maxLen at hl
  by_cases h24 : xs.length = 24
  · have hb : ((xs.length : Int) != 24) = false := by simp [h24]
    have H24 := hide h24
    clear h24
    go_enter Tryz.func141, Tryz.ntmps141
    go_wp2
    go_loop [10] (fun i => ∃ k : Nat, k ≤ xs.length ∧ i = .int .i64 k ∧ Hid (∀ j (h : j < xs.length), j < k → cnt1 xs[j] = true)) (fun i => xs.length - (intOf i).toNat)
    case atStart => exact ⟨0, Nat.zero_le _, rfl, hide (fun j _ h => by omega)⟩
    case round =>
      obtain ⟨k, hk, rfl, HA⟩ := hrel
      by_cases hlt : k < xs.length
      · obtain ⟨b, off, rfl, hc⟩ := unhide HC k hlt
        by_cases hn : cnt1 xs[k] = true
        · have HN := hide (all_succ hlt (unhide HA) hn)
          have hn' : betw xs[k] 0 15 = true := hn
          clear hn
          go_wp2_with (go_at_call 55; refine (within_any _ _ _ _).mono ?_; rintro e w' ⟨rfl, rfl⟩)
          go_round
          case rel => exact ⟨k + 1, by omega, by go_num, HN⟩
          case measure => simp [intOf]; omega
        · have hn0 : cnt1 xs[k] = false := by simpa using hn
          have hn' : betw xs[k] 0 15 = false := hn0
          have HF := hide (ctB_noat hlt hn0)
          clear hn hn0
          go_wp2_with (go_at_call 55; refine (within_any _ _ _ _).mono ?_; rintro e w' ⟨rfl, rfl⟩)
          go_ret
          exact ⟨ret_bool (unhide HF).symm, rfl⟩
      · have HF := hide (ctB_of (unhide H24) (fun j h => unhide HA j h (by omega)))
        go_wp2
        go_ret
        exact ⟨ret_bool (unhide HF).symm, rfl⟩
  · have hb : ((xs.length : Int) != 24) = true := by simp; omega
    have HF := hide (ctB_nolen h24)
    clear h24
    go_enter Tryz.func141, Tryz.ntmps141
    go_wp2
    go_ret
    exact ⟨ret_bool (unhide HF).symm, rfl⟩

abbrev ctV (xs : List Int) : Value := .agg (intV xs).toArray
theorem arr_new (w : World) : (w.alloc (.cells #[.int .i64 0, .int .i64 0, .int .i64 0, .int .i64 0, .int .i64 0, .int .i64 0, .int .i64 0, .int .i64 0, .int .i64 0, .int .i64 0, .int .i64 0, .int .i64 0, .int .i64 0, .int .i64 0, .int .i64 0, .int .i64 0, .int .i64 0, .int .i64 0, .int .i64 0, .int .i64 0, .int .i64 0, .int .i64 0, .int .i64 0, .int .i64 0] 145)).heap[w.heap.size]? = some (.cells (intV zero24).toArray 145 (0, 0)) := heap_alloc_new w _
theorem load_ct (W : World) {g : Nat} {xs : List Int} (h : W.heap[g]? = some (.cells (intV xs).toArray 145 (0, 0))) (hl : xs.length = 24) : (loadVar 145 ⟨g, 0, none⟩).run Tryz.prog W = .ok (ctV xs) W :=
  run_loadVar_row W g 145 145 (intV xs).toArray (0, 0) _ h und24 rfl (sizeA hl)

abbrev VarC (W : World) (g : Nat) (xs : List Int) : Prop := W.heap[g]? = some (.cells (intV xs).toArray 145 (0, 0))
theorem intV_ones (xs : List Int) : ∀ v ∈ intV xs, v.oneCell' = true := by
  intro v hv
  simp only [intV, List.mem_map] at hv
  obtain ⟨n, _, rfl⟩ := hv
  rfl
theorem sizeI1 : (Tryz.prog.info? 3).map (·.size) = some 1 := by kernel_rfl
theorem runI1 (W : World) : (Go.sizeOf 3).run Tryz.prog W = .ok 1 W := by
  have h := sizeI1
  cases hq : Tryz.prog.info? 3 with
  | none => simp [hq] at h
  | some i =>
    have hi : i.size = 1 := by simpa [hq] using h
    simp [Go.sizeOf, typeInfo, hq, hi]
set_option maxHeartbeats 1600000 in
theorem copyI_any (b off cap : Nat) (ss : List Int) (w : World) (hl : ss.length ≤ 1048576) (h0 : 0 < ss.length) (hbl : b < w.heap.size) (hc : w.rangeAt b off (intV ss)) :
    Calls Tryz.prog 131 #[.slice (some ⟨b, off, none⟩) ss.length cap] w fun e w' => e = .returned (.slice (some ⟨w.heap.size, 0, none⟩) ss.length ss.length) ∧ w'.ownsRow w.heap.size 3 1 (.slice (some ⟨w.heap.size, 0, none⟩) ss.length ss.length) ss.length (intV ss) ∧ Below w.heap.size w w' := by
  have hb : ((ss.length : Int) == 0) = false := beq_eq_false_iff_ne.2 (by omega)
  have HCS := hide hc
  have HP := hide h0
  clear hc h0
  obtain ⟨i0, hi, hz0, hz1, hz2⟩ := info_parts infoM
  go_enter Tryz.func131, Tryz.ntmps131
  go_wp2_with (first | (at_make; refine wpList_make_full _ rfl _ _ 29 rfl w.heap.size 3 i0 _ 1 Tryz.underlying29 hi hz0 hz1 _ _ _ _ ss.length rfl rfl rfl rfl ?c1 ?c2 ?c3 ?_))
  case c1 => rw [hz2]; omega
  case c2 => unfold maxLen; omega
  case c3 => exact Nat.le_refl _
  intro w1 hown hgrow
  have hB : Below w.heap.size w w1 := (Below.refl _ _).grown hgrow (Nat.le_refl _) (fun _ h => by cases h)
  have HO := hide hown
  have HB := hide hB
  have HC1 : Hid (∀ j v, (intV ss)[j]? = some v → w1.cell? (Addr.add ⟨b, off, none⟩ j) = some v) := hide (fun j v hv => ((unhide HB).cell (by unfold Addr.add; split <;> exact hbl)).trans (by rw [Addr.add_mid]; exact unhide HCS j v hv))
  clear hown hgrow hB
  go_wp2_with (refine wpList_copy_whole rfl _ _ 29 29 rfl 3 1 Tryz.underlying29 sizeI1 w.heap.size w.heap.size ss.length ⟨b, off, none⟩ _ rfl rfl _ (unhide HO) (intV ss) (by rw [intV_length]; omega) (unhide HC1) (intV_ones ss) ?_; intro w2 ho2 hg2)
  have HB2 := hide ((unhide HB).grown hg2 (unhide HB).size (fun k h => by cases h; exact Nat.le_refl _))
  have HO2 := hide ho2
  clear ho2 hg2
  go_ret
  exact ⟨rfl, unhide HO2, unhide HB2⟩

theorem slice24 (W : World) (g : Nat) : (Instr.sliceAt 145 (.pointer (some ⟨g, 0, none⟩)) none none none).run Tryz.prog W = .ok (.slice (some ⟨g, 0, none⟩) 24 24) W := by
  have hu : Tryz.prog.underlying 145 = some (.array (Tryz.prog.arrayLen 145) (Tryz.prog.elem 145)) := by kernel_rfl
  have he : Tryz.prog.elem 145 = 3 := by kernel_rfl
  rw [run_sliceAt_array_all W _ _ hu, he, runI1, arr24]
  simp only [Result.andThen, slicedAt, Nat.mul_one, Nat.sub_zero]
  rfl
set_option maxHeartbeats 1600000 in
theorem list_any (xs : List Int) (w : World) (hl : xs.length = 24) :
    Calls Tryz.prog 103 #[ctV xs] w fun e w' => ∃ g, e = .returned (.slice (some ⟨g, 0, none⟩) 24 24) ∧ w'.ownsRow w.heap.size 3 1 (.slice (some ⟨g, 0, none⟩) 24 24) 24 (intV xs) ∧ Below w.heap.size w w' := by
  have HN : Hid (VarC (w.alloc (.cells (intV xs).toArray 145)) w.heap.size xs) := hide (heap_alloc_new w _)
  have HA := hide (Joins.below_alloc1 w (.cells (intV xs).toArray 145))
  have HL := hide hl
  have hsl := fun W => slice24 W w.heap.size
  clear hl
  go_enter Tryz.func103, Tryz.ntmps103
  go_upto_region 1 with fail
  revert HN HA
  generalize (w.alloc _) = W1
  intro HN HA
  go_wp2_with fail
  have k := copyI_any w.heap.size 0 24 xs W1 (by rw [unhide HL]; omega) (by rw [unhide HL]; omega) (Array.getElem?_eq_some_iff.1 (unhide HN)).1 (fun j v hv => by rw [Nat.zero_add, Joins.cell_of_block (unhide HN)]; simpa using hv)
  rw [unhide HL] at k
  refine k.mono ?_
  rintro e w2 ⟨rfl, ho, hb⟩
  have HO := hide (own_base ho (unhide HA).size)
  have HB := hide (fr (unhide HA) hb)
  clear ho hb k
  go_wp2
  go_ret
  exact ⟨_, rfl, unhide HO, unhide HB⟩

theorem idx24 (W : World) (xs : List Int) (k : Nat) (hl : xs.length = 24) (hk : k < xs.length) : (Instr.index 145 (ctV xs) (.int .i64 k)).run Tryz.prog W = .ok (.int .i64 xs[k]) W := by
  have hu := und24
  have hk' : k < 24 := by omega
  have h2 := sizeI1
  cases hq : Tryz.prog.info? 3 with
  | none => simp [hq] at h2
  | some i =>
    have hi : i.size = 1 := by simpa [hq] using h2
    simp [Instr.index, run_underlying, hu, sizeOf, typeInfo, hq, hi, intV, asIntOf, part, hk]
    intro h
    omega

end Go.Proofs.YtjjkppknojecjaaGreatDoor

namespace Go.Proofs.YtjjkppknojecjaaGreatDoor
open Go.RowKit
set_option linter.unusedVariables false
set_option maxRecDepth 100000

end Go.Proofs.YtjjkppknojecjaaGreatDoor
