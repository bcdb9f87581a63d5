import Derived.Test.YtllaoijjgkfgpaaGreatDoorRows
import Derived.Test.YtllaoijjgkfgpaaGreatDoorPart1
import Derived.Test.YtllaoijjgkfgpaaGreatDoorPart4
import Derived.Test.YtllaoijjgkfgpaaGreatDoorPart5
import Derived.WalkKit
import Derived.WalkSpells
import Derived.KernelRfl
import Derived.LoopN
import Derived.Lib.SmallJoins
import Derived.Deep.RegionHeld3
import Derived.Test.YtllaoijjgkfgpaaGreatDoorPart2
import Derived.BigQuiet
import Derived.Deep.QuietTactic
import Derived.Deep.RegionWith
import Derived.Outline
import Derived.Deep.RegionLawGrows
import Derived.Deep.AppendLies
import Derived.Laws.BytesArg
import Derived.Laws.CopyRow
import Derived.Laws.CopyOwn
import Derived.Deep.RegionLaw

namespace Go.Proofs.YtllaoijjgkfgpaaGreatDoor
open Go.RowKit
set_option linter.unusedVariables false
set_option maxRecDepth 100000

def VarHs (w : World) (x : Nat) (h : Hst) : Prop := w.heap[x]? = some (.cells #[.int .i64 h.st, .int .i64 h.gen, .int .i64 h.ren] 93 (0, 0))
theorem VarHs.lt {w : World} {x : Nat} {h : Hst} (k : VarHs w x h) : x < w.heap.size := (Array.getElem?_eq_some_iff.1 k).1
theorem VarHs.cells {w : World} {x : Nat} {h : Hst} (k : VarHs w x h) : w.cell? ⟨x, 0, none⟩ = some (.int .i64 h.st) ∧ w.cell? ⟨x, 1, none⟩ = some (.int .i64 h.gen) ∧ w.cell? ⟨x, 2, none⟩ = some (.int .i64 h.ren) := ⟨by rw [Joins.cell_of_block k]; rfl, by rw [Joins.cell_of_block k]; rfl, by rw [Joins.cell_of_block k]; rfl⟩
theorem VarHs.below {w w' : World} {x : Nat} {h : Hst} (k : VarHs w x h) (hb : Below w.heap.size w w') : VarHs w' x h := by
  unfold VarHs; rw [hb.block x k.lt]; exact k
theorem VarHs.new (w : World) (h : Hst) : VarHs (w.alloc (.cells #[.int .i64 h.st, .int .i64 h.gen, .int .i64 h.ren] 93)) w.heap.size h := heap_alloc_new w _

set_option maxHeartbeats 3200000 in
theorem hostsOK_any (ho : Option Addr) (hc : Nat) (hs : List Hst) (t : Int) (w : World) (hl : hs.length ≤ maxLen) (hS : Hss w ho hs) :
    Calls Tryz.prog 55 #[.slice ho hs.length hc, .int .i64 t] w fun e w' => e = .returned (.bool (hsB hs t)) ∧ Below w.heap.size w w' := by
  have HC := hide hS
  clear hS
  unfold maxLen at hl
  by_cases h4 : hs.length = 4
  rotate_left
  · have HF := hide (hs_len (t := t) h4)
    have h4i : ((hs.length : Int) != 4) = true := by simp; omega
    go_enter Tryz.func55, Tryz.ntmps55
    go_wp2
    go_ret
    exact ⟨ret_bool (unhide HF).symm, Below.refl _ _⟩
  have h4i : ((hs.length : Int) != 4) = false := by simp; omega
  have H4 := hide h4
  clear h4
  go_enter Tryz.func55, Tryz.ntmps55
  go_wp2
  go_loopw [12] (fun i wr => ∃ k : Nat, k ≤ hs.length ∧ i = .int .i64 k ∧ Hid (∀ j (hj : j < hs.length), j < k → hs1 t hs[j] = true) ∧ Hid (Below w.heap.size w wr)) (fun i _ => hs.length - (intOf i).toNat)
  case atStart => exact ⟨0, Nat.zero_le _, rfl, hide (fun j _ h => by omega), hide (Below.refl _ _)⟩
  case round =>
    obtain ⟨k, hk, rfl, HS, HB⟩ := hrel
    by_cases hlt : k < hs.length
    · obtain ⟨b, off, rfl, hn0, hn1, hn2⟩ := ((unhide HC).below (unhide HB)) k hlt
      have HA := hide (Joins.below_alloc1 wr (.cells #[.int .i64 hs[k].st, .int .i64 hs[k].gen, .int .i64 hs[k].ren] 93))
      have HV := hide (VarHs.new wr hs[k])
      have HBA := hide (fr (unhide HB) (unhide HA))
      have HX := hide (fun h => hs_bad (t := t) hlt h)
      have HY : Hid (hs1 t hs[k] = true → ∀ j (hj : j < hs.length), j < k + 1 → hs1 t hs[j] = true) := hide (fun h j hj hjk => by
        by_cases e : j = k
        · subst e; exact h
        · exact unhide HS j hj (by omega))
      go_upto_region 6 with fail
      revert HX HY
      revert HA HV HBA
      generalize (wr.alloc _) = W0
      generalize hs[k] = x
      intro HA HV HBA HX HY
      clear hn0 hn1 hn2
      obtain ⟨c0, c1, c2⟩ := (unhide HV).cells
      cases h1 : betw x.st 0 2
      · have HF := hide (unhide HX (hs1_1 h1))
        go_wp2_with (go_at_call 54; refine (within_any _ _ _ _).mono ?_; rintro e w' ⟨rfl, hw⟩; replace hw := hw.symm; subst hw; rw [h1])
        go_ret
        exact ⟨ret_bool (unhide HF).symm, unhide HBA⟩
      · go_wp2_with fail
        refine (within_any _ _ _ _).mono ?_
        rintro e w2 ⟨rfl, hw⟩
        replace hw := hw.symm
        subst hw
        rw [h1]
        cases h2 : betw x.gen 0 1000000
        · have HF := hide (unhide HX (hs1_2 h2))
          go_wp2_with (go_at_call 54; refine (within_any _ _ _ _).mono ?_; rintro e w' ⟨rfl, hw⟩; replace hw := hw.symm; subst hw; rw [h2])
          go_ret
          exact ⟨ret_bool (unhide HF).symm, unhide HBA⟩
        · have HE := hide (hs1_3 (t := t) h1 h2)
          go_wp2_with fail
          refine (within_any _ _ _ _).mono ?_
          rintro e w2 ⟨rfl, hw⟩
          replace hw := hw.symm
          subst hw
          rw [h2]
          cases h3 : betw x.ren 0 t
          · have HF := hide (unhide HX ((unhide HE).trans h3))
            go_wp2_with (go_at_call 54; refine (within_any _ _ _ _).mono ?_; rintro e w' ⟨rfl, hw⟩; replace hw := hw.symm; subst hw; rw [h3])
            go_ret
            exact ⟨ret_bool (unhide HF).symm, unhide HBA⟩
          · have HS' := hide (unhide HY ((unhide HE).trans h3))
            go_wp2_with (go_at_call 54; refine (within_any _ _ _ _).mono ?_; rintro e w' ⟨rfl, hw⟩; replace hw := hw.symm; subst hw; rw [h3])
            go_roundw
            case rel => exact ⟨k + 1, by omega, by go_num, HS', HBA⟩
            case measure => simp [intOf]; omega
    · have HF := hide (hs_all (t := t) (unhide H4) (fun j h => unhide HS j h (by omega)))
      go_wp2
      go_ret
      exact ⟨ret_bool (unhide HF).symm, unhide HB⟩

set_option maxHeartbeats 12800000 in
theorem worldOK_impl (a : Wl4) (m : Wld) (w : World) (hL : WlL m) (hc : WlS w a m) :
    Calls Tryz.prog 24 #[wlV a m] w fun e w' => e = .returned (.bool (wokB m)) ∧ Below w.heap.size w w' := by
  have HB0 := hide (Joins.below_alloc1 w (.cells (wlC a m) 50))
  have HV0 := hide (VarW.new w 50 a m)
  have HC0 := hide (hc.below (unhide HB0))
  have HL := hide hL
  have heq := eqR_run m.q ⟨0, 0, 0, noB⟩
  obtain ⟨R, HR⟩ : ∃ R, Hid (R = wokB m) := ⟨_, hide rfl⟩
  rw [← unhide HR]
  clear hc hL
  go_enter Tryz.func24, Tryz.ntmps24
  go_upto_region 1 with fail
  revert HB0 HV0 HC0
  generalize (w.alloc _) = W0
  intro HB0 HV0 HC0
  obtain ⟨c0, c1, c2, c3, c4, c5, c6, c7, c8, c9, c10, c11, c12, c13, c14⟩ := (unhide HV0).cells
  go_wp2_with fail
  refine (diskOK_impl a.ao a.bo a.ca a.cb m.ss m.xs _ (unhide HL).s (unhide HL).i (unhide HC0).s (unhide HC0).i).mono ?_
  rintro e w1 ⟨rfl, hb⟩
  have HV1 := hide ((unhide HV0).below hb)
  have HC1 := hide ((unhide HC0).below hb)
  have HB1 := hide (fr (unhide HB0) hb)
  clear hb HV0 HC0 HB0 c0 c1 c2 c3 c4 c5 c6 c7 c8 c9 c10 c11 c12 c13 c14
  cases hd0 : diskB m.ss m.xs
  · have HF : Hid (R = false) := hide (by rw [unhide HR]; exact wok_0 hd0)
    clear hd0
    go_wp2
    go_ret
    exact ⟨ret_bool (unhide HF).symm, unhide HB1⟩
  have D0 := hide hd0
  clear hd0
  by_cases hx : m.xs.length = 0
  rotate_left
  · have hxi : ((m.xs.length : Int) == 0) = false := by rw [beq_eq_false_iff_ne]; omega
    have HF : Hid (R = false) := hide (by rw [unhide HR]; exact wok_x hx)
    clear hx
    obtain ⟨c0, c1, c2, c3, c4, c5, c6, c7, c8, c9, c10, c11, c12, c13, c14⟩ := (unhide HV1).cells
    go_wp2
    go_ret
    exact ⟨ret_bool (unhide HF).symm, unhide HB1⟩
  have hxi : ((m.xs.length : Int) == 0) = true := by rw [beq_iff_eq]; omega
  have HX := hide hx
  clear hx
  obtain ⟨c0, c1, c2, c3, c4, c5, c6, c7, c8, c9, c10, c11, c12, c13, c14⟩ := (unhide HV1).cells
  go_wp2_with fail
  refine (configOK_impl m.cf m.cd m.cl m.cr _).mono ?_
  rintro e w2 ⟨rfl, hb⟩
  have HV2 := hide ((unhide HV1).below hb)
  have HC2 := hide ((unhide HC1).below hb)
  have HB2 := hide (fr (unhide HB1) hb)
  clear hb HV1 HC1 HB1 c0 c1 c2 c3 c4 c5 c6 c7 c8 c9 c10 c11 c12 c13 c14
  cases hd1 : cokB m.cf m.cd m.cl m.cr
  · have HF : Hid (R = false) := hide (by rw [unhide HR]; exact wok_1 hd1)
    clear hd1
    go_wp2
    go_ret
    exact ⟨ret_bool (unhide HF).symm, unhide HB2⟩
  have D1 := hide hd1
  clear hd1
  clear hxi
  obtain ⟨c0, c1, c2, c3, c4, c5, c6, c7, c8, c9, c10, c11, c12, c13, c14⟩ := (unhide HV2).cells
  go_wp2_with fail
  refine (within_any _ _ _ _).mono ?_
  rintro e w3 ⟨rfl, hw⟩
  replace hw := hw.symm
  subst hw
  have HV3 := HV2
  have HC3 := HC2
  have HB3 := HB2
  clear HV2 HC2 HB2 c0 c1 c2 c3 c4 c5 c6 c7 c8 c9 c10 c11 c12 c13 c14
  cases hd2 : betw m.t 0 1000000
  · have HF : Hid (R = false) := hide (by rw [unhide HR]; exact wok_2 hd2)
    clear hd2
    go_wp2
    go_ret
    exact ⟨ret_bool (unhide HF).symm, unhide HB3⟩
  have D2 := hide hd2
  clear hd2
  obtain ⟨c0, c1, c2, c3, c4, c5, c6, c7, c8, c9, c10, c11, c12, c13, c14⟩ := (unhide HV3).cells
  go_wp2_with fail
  refine (hostsOK_any a.ho a.hc m.hs m.t _ (unhide HL).h (unhide HC3).h).mono ?_
  rintro e w4 ⟨rfl, hb⟩
  have HV4 := hide ((unhide HV3).below hb)
  have HC4 := hide ((unhide HC3).below hb)
  have HB4 := hide (fr (unhide HB3) hb)
  clear hb HV3 HC3 HB3 c0 c1 c2 c3 c4 c5 c6 c7 c8 c9 c10 c11 c12 c13 c14
  cases hd3 : hsB m.hs m.t
  · have HF : Hid (R = false) := hide (by rw [unhide HR]; exact wok_3 hd3)
    clear hd3
    go_wp2
    go_ret
    exact ⟨ret_bool (unhide HF).symm, unhide HB4⟩
  have D3 := hide hd3
  clear hd3
  obtain ⟨c0, c1, c2, c3, c4, c5, c6, c7, c8, c9, c10, c11, c12, c13, c14⟩ := (unhide HV4).cells
  go_wp2_with fail
  refine (guestOK_impl a.ga m.g _ (unhide HL).g (unhide HC4).g).mono ?_
  rintro e w5 ⟨rfl, hb⟩
  have HV5 := hide ((unhide HV4).below hb)
  have HC5 := hide ((unhide HC4).below hb)
  have HB5 := hide (fr (unhide HB4) hb)
  clear hb HV4 HC4 HB4 c0 c1 c2 c3 c4 c5 c6 c7 c8 c9 c10 c11 c12 c13 c14
  cases hd4 : gsB m.g
  · have HF : Hid (R = false) := hide (by rw [unhide HR]; exact wok_4 hd4)
    clear hd4
    go_wp2
    go_ret
    exact ⟨ret_bool (unhide HF).symm, unhide HB5⟩
  have D4 := hide hd4
  clear hd4
  have HE : Hid (R = maybB m.q) := hide (by rw [unhide HR]; exact wok_all (unhide D0) (unhide HX) (unhide D1) (unhide D2) (unhide D3) (unhide D4))
  obtain ⟨c0, c1, c2, c3, c4, c5, c6, c7, c8, c9, c10, c11, c12, c13, c14⟩ := (unhide HV5).cells
  cases hq : eqR m.q ⟨0, 0, 0, noB⟩
  · have HF : Hid (R = rqB m.q) := hide (by rw [unhide HE]; exact mayb_no hq)
    rw [hq] at heq
    go_wp2_with fail
    refine (reqOK_impl m.q _ (unhide HL).q).mono ?_
    rintro e w6 ⟨rfl, hb⟩
    have HB6 := hide (fr (unhide HB5) hb)
    clear hb
    go_wp2
    go_ret
    exact ⟨ret_bool (unhide HF).symm, unhide HB6⟩
  · have HF : Hid (R = true) := hide (by rw [unhide HE]; exact mayb_yes hq)
    rw [hq] at heq
    go_wp2
    go_ret
    exact ⟨ret_bool (unhide HF).symm, unhide HB5⟩

end Go.Proofs.YtllaoijjgkfgpaaGreatDoor

namespace Go.Proofs.YtllaoijjgkfgpaaGreatDoor
open Go.RowKit
set_option linter.unusedVariables false
set_option maxRecDepth 100000

def fenC (f d l r x : Int) : Int := if cfgB f d l r then (if betw x 0 10000000 then 0 else 4) else 1
def fenR (f d l r x : Int) : Int := if fenC f d l r x = 0 then x + f else 0
theorem fenC_bad {f d l r x : Int} (h : cfgB f d l r = false) : fenC f d l r x = 1 := by simp [fenC, h]
theorem fenC_range {f d l r x : Int} (h : cfgB f d l r = true) (h' : betw x 0 10000000 = false) : fenC f d l r x = 4 := by simp [fenC, h, h']
theorem fenC_ok {f d l r x : Int} (h : cfgB f d l r = true) (h' : betw x 0 10000000 = true) : fenC f d l r x = 0 := by simp [fenC, h, h']
theorem ret2F {a a' b b' : Int} (h : a = a') (h' : b = b') : Ending.returned (.tuple #[.int .i64 a, .int .i64 b]) = Ending.returned (.tuple #[.int .i64 a', .int .i64 b']) := by rw [h, h']
theorem hourOK_any (x : Int) (w : World) : Calls Tryz.prog 103 #[.int .i64 x] w fun e w' => e = .returned (.bool (betw x 0 10000000)) ∧ w' = w := by
  go_enter Tryz.func103, Tryz.ntmps103
  go_wp2_with fail
  refine (within_any x 0 10000000 _).mono ?_
  rintro e w1 ⟨rfl, rfl⟩
  go_wp2
  go_ret
  exact ⟨rfl, rfl⟩

set_option maxHeartbeats 1600000 in
theorem fence_impl (f d l r x : Int) (w : World) : Calls Tryz.prog 58 #[cfgV f d l r, .int .i64 x] w fun e w' => e = .returned (.tuple #[.int .i64 (fenR f d l r x), .int .i64 (fenC f d l r x)]) ∧ Below w.heap.size w w' := by
  have f0 := fieldC0 f d l r
  have f1 := fieldC1 f d l r
  have f2 := fieldC2 f d l r
  have f3 := fieldC3 f d l r
  go_enter Tryz.func58, Tryz.ntmps58
  go_wp2_with fail
  refine (bounds_impl f d l r _).mono ?_
  rintro e w1 ⟨rfl, hw⟩
  have c0 := (hw.cell (p := ⟨w.heap.size, 0, none⟩) (by simp)).trans (by simp [go_sem] : _ = some (.int .i64 f))
  have HW := hidB ((Joins.below_alloc1 w _).trans (Below.mono hw (by simp)))
  clear hw
  by_cases hb : cfgB f d l r = false
  · have hc := hidB (fenC_bad (x := x) hb)
    have hr : Hid (fenR f d l r x = 0) := hidB (by rw [fenR, hc, if_neg (by decide)])
    go_wp2
    go_ret2
    exact ⟨ret2F (Eq.symm hr) (Eq.symm hc), HW⟩
  rw [Bool.not_eq_false] at hb
  go_wp2_with fail
  refine (hourOK_any x _).mono ?_
  rintro e w2 ⟨rfl, rfl⟩
  by_cases hx : betw x 0 10000000 = false
  · have hc := hidB (fenC_range hb hx)
    have hr : Hid (fenR f d l r x = 0) := hidB (by rw [fenR, hc, if_neg (by decide)])
    go_wp2
    go_ret2
    exact ⟨ret2F (Eq.symm hr) (Eq.symm hc), HW⟩
  rw [Bool.not_eq_false] at hx
  have hc := hidB (fenC_ok hb hx)
  have hr : Hid (fenR f d l r x = x + f) := hidB (by rw [fenR, hc, if_pos rfl])
  obtain ⟨⟨bf0, bf1⟩, _, _, _⟩ := cfgB_iff.1 hb
  obtain ⟨bx0, bx1⟩ := betw_iff.1 hx
  go_wp2
  go_ret2
  exact ⟨ret2F (Eq.symm hr) (Eq.symm hc), HW⟩

end Go.Proofs.YtllaoijjgkfgpaaGreatDoor

namespace Go.Proofs.YtllaoijjgkfgpaaGreatDoor
open Go.RowKit
set_option linter.unusedVariables false
set_option maxRecDepth 100000

end Go.Proofs.YtllaoijjgkfgpaaGreatDoor

namespace Go.Proofs.YtllaoijjgkfgpaaGreatDoor
open Go.RowKit
set_option linter.unusedVariables false
set_option maxRecDepth 100000

end Go.Proofs.YtllaoijjgkfgpaaGreatDoor

namespace Go.Proofs.YtllaoijjgkfgpaaGreatDoor
open Go.RowKit
set_option linter.unusedVariables false
set_option maxRecDepth 100000

end Go.Proofs.YtllaoijjgkfgpaaGreatDoor

namespace Go.Proofs.YtllaoijjgkfgpaaGreatDoor
open Go.RowKit
set_option linter.unusedVariables false
set_option maxRecDepth 100000

theorem lat_spec (r x : Int) (w : World) (hr0 : 0 ≤ r) (hr : r ≤ 500) (hx0 : 0 ≤ x) (hx : x ≤ 100000) :
    Calls Tryz.prog 87 #[.int .i64 r, .int .i64 x] w fun e w' => e = .returned (.int .i64 (latQ r x)) ∧ w' = w := by
  have t1 : ((x + 1) * 1000 + 999 - r).tdiv (1000 - r) = latQ r x := Int.tdiv_eq_ediv_of_nonneg (by omega)
  have hn : ¬ (1000 - r = 0) := by omega
  have hn' : ((1000 - r : Int) == 0) = false := by simp; omega
  have q0 : 0 ≤ latQ r x := Int.ediv_nonneg (by omega) (by omega)
  have q1 : latQ r x ≤ 200000000 := Int.le_trans (Int.ediv_le_self _ (by omega)) (by omega)
  have w5 : IntKind.i64.wrap (latQ r x) = latQ r x := by rw [IntKind.wrap_i64]; omega
  go_enter Tryz.func87, Tryz.ntmps87
  go_wp2
  go_ret
  exact ⟨rfl, rfl⟩
theorem ear_spec (r x : Int) (w : World) (hr0 : 0 ≤ r) (hr : r ≤ 500) (hx0 : 1 ≤ x) (hx : x ≤ 100000) :
    Calls Tryz.prog 88 #[.int .i64 r, .int .i64 x] w fun e w' => e = .returned (.int .i64 (earQ r x)) ∧ w' = w := by
  have t1 : ((x - 1) * 1000).tdiv (1000 + r) = earQ r x := Int.tdiv_eq_ediv_of_nonneg (by omega)
  have hn : ¬ (1000 + r = 0) := by omega
  have hn' : ((1000 + r : Int) == 0) = false := by simp; omega
  have q0 : 0 ≤ earQ r x := Int.ediv_nonneg (by omega) (by omega)
  have q1 : earQ r x ≤ 200000000 := Int.le_trans (Int.ediv_le_self _ (by omega)) (by omega)
  have w5 : IntKind.i64.wrap (earQ r x) = earQ r x := by rw [IntKind.wrap_i64]; omega
  go_enter Tryz.func88, Tryz.ntmps88
  go_wp2
  go_ret
  exact ⟨rfl, rfl⟩

end Go.Proofs.YtllaoijjgkfgpaaGreatDoor

namespace Go.Proofs.YtllaoijjgkfgpaaGreatDoor
open Go.RowKit
set_option linter.unusedVariables false
set_option maxRecDepth 100000

theorem bounds_four (b : Nat) (f d l r : Int) (w : World) (h : Four w b f d l r) :
    Calls Tryz.prog 86 #[cfgV f d l r] w fun e w' => e = .returned (.bool (cfgB f d l r)) ∧ Four w' b f d l r ∧ Hid (Below w.heap.size w w') :=
  (bounds_spec f d l r w).mono fun e w' ⟨h1, h2⟩ => ⟨h1, h.below h2, hidB h2⟩

set_option maxHeartbeats 1600000 in
theorem configOK_spec_yes (f d l r : Int) (w : World) (hb : cfgB f d l r = true) : Calls Tryz.prog 42 #[cfgV f d l r] w fun e w' => e = .returned (.bool (cokB f d l r)) ∧ Below w.heap.size w w' := by
  have f0 := fieldC0 f d l r
  have f1 := fieldC1 f d l r
  have f2 := fieldC2 f d l r
  have f3 := fieldC3 f d l r
  have HA : Hid (Below w.heap.size w (w.alloc (.cells #[.int .i64 f, .int .i64 d, .int .i64 l, .int .i64 r] 43))) := hidB (Joins.below_alloc1 w _)
  have HF : Hid (Four (w.alloc (.cells #[.int .i64 f, .int .i64 d, .int .i64 l, .int .i64 r] 43)) w.heap.size f d l r) := hidB ⟨by simp [go_sem], by simp [go_sem], by simp [go_sem], by simp [go_sem]⟩
  have hr := hidB (cok_yes hb)
  obtain ⟨⟨bf0, bf1⟩, ⟨bd0, bd1⟩, ⟨bl0, bl1⟩, br0, br1⟩ := cfgB_iff.1 hb
  obtain ⟨ql0, ql1⟩ := latQ_le (x := f) br0 br1 (by omega) (by omega)
  obtain ⟨qe0, qe1⟩ := earQ_le (x := d) br0 br1 (by omega) (by omega)
  have wr : IntKind.i64.wrap (latQ r f + l) = latQ r f + l := by rw [IntKind.wrap_i64]; omega
  go_enter Tryz.func42, Tryz.ntmps42
  go_wp2_with fail
  revert HA HF
  generalize w.alloc (.cells #[.int .i64 f, .int .i64 d, .int .i64 l, .int .i64 r] 43) = W0
  generalize hBe : w.heap.size = B
  intro HA HF
  replace hBe := hidB hBe
  obtain ⟨c0, c1, c2, c3⟩ := show Four _ _ _ _ _ _ from HF
  go_region_held3 (fun w' => w'.cell? ⟨B, 0, none⟩ = some (.int .i64 f) ∧ w'.cell? ⟨B, 1, none⟩ = some (.int .i64 d) ∧ w'.cell? ⟨B, 2, none⟩ = some (.int .i64 l) ∧ w'.cell? ⟨B, 3, none⟩ = some (.int .i64 r)) (go_keep)
    (first
      | (go_at_call 86; refine (bounds_four B f d l r _ ⟨?_, ?_, ?_, ?_⟩).mono ?_; (simp [*]); (simp [*]); (simp [*]); (simp [*]); rintro e wA ⟨rfl, ⟨hA0, hA2, hA3, hA4⟩, hA1⟩)
      | (go_at_call 87; refine (lat_spec r f _ (by omega) (by omega) (by omega) (by omega)).mono ?_; rintro e wC ⟨rfl, rfl⟩)
      | (go_at_call 88; refine (ear_spec r d _ (by omega) (by omega) (by omega) (by omega)).mono ?_; rintro e wD ⟨rfl, rfl⟩))
  have HW : Hid (Below w.heap.size w wD) := hidB (frB (frB (b := W0) (by rw [show w.heap.size = B from hBe]; exact HA) ((Below.refl _ W0).drew)) hA1)
  go_wp2
  go_ret
  rw [show cokB f d l r = decide (latQ r f + l < earQ r d) from hr]
  exact ⟨rfl, HW⟩

end Go.Proofs.YtllaoijjgkfgpaaGreatDoor

namespace Go.Proofs.YtllaoijjgkfgpaaGreatDoor
open Go.RowKit
set_option linter.unusedVariables false
set_option maxRecDepth 100000

end Go.Proofs.YtllaoijjgkfgpaaGreatDoor

namespace Go.Proofs.YtllaoijjgkfgpaaGreatDoor
open Go.RowKit
set_option linter.unusedVariables false
set_option maxRecDepth 100000

end Go.Proofs.YtllaoijjgkfgpaaGreatDoor

namespace Go.Proofs.YtllaoijjgkfgpaaGreatDoor
open Go.RowKit
set_option linter.unusedVariables false
set_option maxRecDepth 100000

theorem ret2 {a a' b b' : Int} (h : a = a') (h' : b = b') : Ending.returned (.tuple #[.int .i64 a, .int .i64 b]) = Ending.returned (.tuple #[.int .i64 a', .int .i64 b']) := by rw [h, h']

end Go.Proofs.YtllaoijjgkfgpaaGreatDoor

namespace Go.Proofs.YtllaoijjgkfgpaaGreatDoor
set_option linter.unusedVariables false

end Go.Proofs.YtllaoijjgkfgpaaGreatDoor

namespace Go.Proofs.YtllaoijjgkfgpaaGreatDoor
open Go.RowKit
set_option linter.unusedVariables false

theorem fence_in (f d l r x : Int) (w : World) (hb : cfgB f d l r = true) (hx : betw x 0 10000000 = true) : Calls Tryz.prog 58 #[cfgV f d l r, .int .i64 x] w fun e w' => e = .returned (.tuple #[.int .i64 (x + f), .int .i64 0]) ∧ Below w.heap.size w w' :=
  (fence_impl f d l r x w).mono fun e w' ⟨h1, h2⟩ => ⟨h1.trans (ret2 (by rw [fenR, fenC_ok hb hx, if_pos rfl]) (fenC_ok hb hx)), h2⟩
end Go.Proofs.YtllaoijjgkfgpaaGreatDoor

namespace Go.Proofs.YtllaoijjgkfgpaaGreatDoor
open Go.RowKit
set_option linter.unusedVariables false
set_option maxRecDepth 100000

set_option maxHeartbeats 1600000 in
theorem hostFault_any (ao bo : Option Addr) (ca cb : Nat) (ss : List ByteArray) (xs : List Wr) (h : Int) (w : World) (hl : ss.length ≤ maxLen) (hm : xs.length ≤ maxLen) (h1 : Ss w ao ss) (h2 : Ios w bo xs) :
    Calls Tryz.prog 74 #[.agg #[.slice ao ss.length ca, .slice bo xs.length cb], .int .i64 h] w fun e w' => e = .returned (.int .i64 (hostC ss xs h)) ∧ Below w.heap.size w w' := by
  have HA := hide (Joins.below_alloc1 w (.cells #[.slice ao ss.length ca, .slice bo xs.length cb] 42))
  have H1 := hide (h1.below (unhide HA))
  have H2 := hide (h2.below (unhide HA))
  have HL := hide hl
  have HM := hide hm
  clear h1 h2 hl hm
  cases hd : diskB ss xs
  · have H := hide (hostC_bad (h := h) hd)
    go_enter Tryz.func74, Tryz.ntmps74
    go_wp2_with fail
    refine (diskOK_impl _ _ _ _ ss xs _ (unhide HL) (unhide HM) (unhide H1) (unhide H2)).mono ?_
    rintro e w1 ⟨rfl, hb⟩
    have HB := hide (fr (unhide HA) hb)
    clear hb
    go_wp2
    go_ret
    exact ⟨ret_int (unhide H).symm, unhide HB⟩
  · cases hh : inB h 0 3
    · have H := hide (hostC_range hd hh)
      go_enter Tryz.func74, Tryz.ntmps74
      go_wp2_with fail
      refine (diskOK_impl _ _ _ _ ss xs _ (unhide HL) (unhide HM) (unhide H1) (unhide H2)).mono ?_
      rintro e w1 ⟨rfl, hb⟩
      have HB := hide (fr (unhide HA) hb)
      clear hb
      go_wp2_with (go_at_call 25; refine (hostOK_any _ _).mono ?_; rintro e w' ⟨rfl, rfl⟩)
      go_ret
      exact ⟨ret_int (unhide H).symm, unhide HB⟩
    · have H := hide (hostC_ok hd hh)
      go_enter Tryz.func74, Tryz.ntmps74
      go_wp2_with fail
      refine (diskOK_impl _ _ _ _ ss xs _ (unhide HL) (unhide HM) (unhide H1) (unhide H2)).mono ?_
      rintro e w1 ⟨rfl, hb⟩
      have HB := hide (fr (unhide HA) hb)
      clear hb
      go_wp2_with (go_at_call 25; refine (hostOK_any _ _).mono ?_; rintro e w' ⟨rfl, rfl⟩)
      go_ret
      exact ⟨ret_int (unhide H).symm, unhide HB⟩

end Go.Proofs.YtllaoijjgkfgpaaGreatDoor

namespace Go.Proofs.YtllaoijjgkfgpaaGreatDoor
open Go.RowKit
set_option linter.unusedVariables false
set_option maxRecDepth 100000

end Go.Proofs.YtllaoijjgkfgpaaGreatDoor

namespace Go.Proofs.YtllaoijjgkfgpaaGreatDoor
open Go.RowKit
set_option linter.unusedVariables false
set_option maxRecDepth 100000

end Go.Proofs.YtllaoijjgkfgpaaGreatDoor

namespace Go.Proofs.YtllaoijjgkfgpaaGreatDoor
open Go.RowKit
set_option linter.unusedVariables false

end Go.Proofs.YtllaoijjgkfgpaaGreatDoor

namespace Go.Proofs.YtllaoijjgkfgpaaGreatDoor
open Go.RowKit
set_option linter.unusedVariables false
set_option maxRecDepth 100000

end Go.Proofs.YtllaoijjgkfgpaaGreatDoor

namespace Go.Proofs.YtllaoijjgkfgpaaGreatDoor
open Go.RowKit
set_option linter.unusedVariables false
set_option maxRecDepth 100000

theorem ret_rs {a b : ByteArray} (h : a = b) : Ending.returned (.string a) = .returned (.string b) := by rw [h]
theorem no_succ {xs : List Wr} {h a : Int} {k : Nat} (hk : k < xs.length) (hn : ∀ j (hj : j < xs.length), (k : Int) < j → ¬ mat xs[j] h a) (hx : ¬ mat xs[k] h a) : ∀ j (hj : j < xs.length), (k : Int) - 1 < j → ¬ mat xs[j] h a := by
  intro j hj hlt
  by_cases e : j = k
  · subst e; exact hx
  · exact hn j hj (by omega)

set_option maxHeartbeats 1600000 in
theorem seenBy_any (ao bo : Option Addr) (ca cb : Nat) (ss : List ByteArray) (xs : List Wr) (h : Int) (n : Nat) (w : World) (hlx : xs.length ≤ 200) (hn : n < ss.length) (hq : ss.length ≤ 1048576) (h1 : Ss w ao ss) (h2 : Ios w bo xs) :
    Calls Tryz.prog 76 #[.agg #[.slice ao ss.length ca, .slice bo xs.length cb], .int .i64 h, .int .i64 n] w fun e w' => e = .returned (.string (readV ss xs h n)) ∧ Below w.heap.size w w' := by
  have HA := hide (Joins.below_alloc1 w (.cells #[.slice ao ss.length ca, .slice bo xs.length cb] 42))
  have H1' := hide (h1.below (unhide HA))
  have H2' := hide (h2.below (unhide HA))
  have hc0 : (w.alloc (.cells #[.slice ao ss.length ca, .slice bo xs.length cb] 42)).cell? ⟨w.heap.size, 0, none⟩ = some (.slice ao ss.length ca) := by simp [go_sem]
  have hc1 : (w.alloc (.cells #[.slice ao ss.length ca, .slice bo xs.length cb] 42)).cell? ⟨w.heap.size, 1, none⟩ = some (.slice bo xs.length cb) := by simp [go_sem]
  have HC0 := hide hc0
  have HC1 := hide hc1
  have hlt : w.heap.size < (w.alloc (.cells #[.slice ao ss.length ca, .slice bo xs.length cb] 42)).heap.size := by simp
  clear h1 h2 hc0 hc1
  go_enter Tryz.func76, Tryz.ntmps76
  go_wp2
  revert HA H1' H2' HC0 HC1 hlt
  generalize w.alloc (.cells #[.slice ao ss.length ca, .slice bo xs.length cb] 42) = w1
  intro HA H1' H2' HC0 HC1 hlt
  go_loopw [7, 8] (fun i _ wr => ∃ m : Int, i = .int .i64 m ∧ -1 ≤ m ∧ m < xs.length ∧ Hid (∀ j (hj : j < xs.length), m < j → ¬ mat xs[j] h n) ∧ Hid (Below w1.heap.size w1 wr)) (fun i _ _ => (intOf i + 1).toNat)
  case atStart => exact ⟨_, rfl, by omega, by omega, hide (fun j hj hlt => by omega), hide (Below.refl _ _)⟩
  case round =>
    obtain ⟨m, rfl, hm0, hm1, HN, HB⟩ := hrel
    have hc0 : wr.cell? ⟨w.heap.size, 0, none⟩ = some (.slice ao ss.length ca) := ((unhide HB).cell (World.block_lt_of_cell? _ _ (unhide HC0))).trans (unhide HC0)
    have hc1 : wr.cell? ⟨w.heap.size, 1, none⟩ = some (.slice bo xs.length cb) := ((unhide HB).cell (World.block_lt_of_cell? _ _ (unhide HC1))).trans (unhide HC1)
    by_cases hge : 0 ≤ m
    · obtain ⟨k, rfl⟩ := Int.eq_ofNat_of_zero_le hge
      have hk : k < xs.length := by omega
      obtain ⟨b, off, rfl, hd0, hd1, hd2, hz⟩ := (unhide H2').below (unhide HB) k hk
      clear hz
      have HBA := hide (fun o => (unhide HB).alloc (unhide HB).size o)
      by_cases e0 : xs[k].host = h
      · have b0 : (xs[k].host == h) = true := by simp [e0]
        by_cases e1 : xs[k].at_ = n
        · have b1 : (xs[k].at_ == (n : Int)) = true := by simp [e1]
          have H := hide (readV_hit (ss := ss) hk ⟨e0, e1⟩ (fun j hj hlt => unhide HN j hj (by omega)))
          clear e0 e1
          go_wp2
          go_ret
          exact ⟨ret_rs (unhide H).symm, fr (unhide HA) (unhide HBA _)⟩
        · have b1 : (xs[k].at_ == (n : Int)) = false := by simp [e1]
          have HX := hide (no_succ hk (unhide HN) (fun hx => e1 hx.2))
          clear e0 e1
          go_wp2
          go_roundw
          case rel => exact ⟨_, rfl, by omega, by omega, HX, hide (unhide HBA _)⟩
          case measure => simp [intOf]
      · have b0 : (xs[k].host == h) = false := by simp [e0]
        have HX := hide (no_succ hk (unhide HN) (fun hx => e0 hx.1))
        clear e0
        go_wp2
        go_roundw
        case rel => exact ⟨_, rfl, by omega, by omega, HX, hide (unhide HBA _)⟩
        case measure => simp [intOf]
    · obtain ⟨b, off, rfl, hc, hz⟩ := (unhide H1').below (unhide HB) n hn
      clear hz
      have hg : ss.getD ((n : Int).toNat) ⟨#[]⟩ = ss[n] := by simp [List.getD, hn]
      have H := hide ((readV_none (ss := ss) (fun j hj => unhide HN j hj (by omega))).trans hg)
      clear hg
      go_wp2
      go_ret
      exact ⟨ret_rs (unhide H).symm, fr (unhide HA) (unhide HB)⟩

end Go.Proofs.YtllaoijjgkfgpaaGreatDoor

namespace Go.Proofs.YtllaoijjgkfgpaaGreatDoor
open Go.RowKit
set_option linter.unusedVariables false
set_option maxRecDepth 100000

end Go.Proofs.YtllaoijjgkfgpaaGreatDoor

namespace Go.Proofs.YtllaoijjgkfgpaaGreatDoor
open Go.RowKit
set_option linter.unusedVariables false

end Go.Proofs.YtllaoijjgkfgpaaGreatDoor

namespace Go.Proofs.YtllaoijjgkfgpaaGreatDoor
open Go.RowKit
set_option linter.unusedVariables false

end Go.Proofs.YtllaoijjgkfgpaaGreatDoor

namespace Go.Proofs.YtllaoijjgkfgpaaGreatDoor
open Go.RowKit
set_option linter.unusedVariables false

end Go.Proofs.YtllaoijjgkfgpaaGreatDoor

namespace Go.Proofs.YtllaoijjgkfgpaaGreatDoor
open Go.RowKit
set_option linter.unusedVariables false

end Go.Proofs.YtllaoijjgkfgpaaGreatDoor

namespace Go.Proofs.YtllaoijjgkfgpaaGreatDoor
open Go.RowKit
set_option linter.unusedVariables false

end Go.Proofs.YtllaoijjgkfgpaaGreatDoor

namespace Go.Proofs.YtllaoijjgkfgpaaGreatDoor
open Go.RowKit
set_option linter.unusedVariables false

end Go.Proofs.YtllaoijjgkfgpaaGreatDoor

namespace Go.Proofs.YtllaoijjgkfgpaaGreatDoor
set_option linter.unusedVariables false

theorem diskB_parts {ss : List ByteArray} {xs : List Wr} : diskB ss xs = true ↔ (ss.length = 64 ∧ ∀ s ∈ ss, s.size ≤ 80) ∧ xs.length ≤ 200 ∧ ∀ x ∈ xs, ioB x = true := by
  simp only [diskB, secB, penB, Bool.and_eq_true, decide_eq_true_eq, List.all_eq_true]
theorem ioB_parts {x : Wr} : ioB x = true ↔ (0 ≤ x.host ∧ x.host ≤ 3) ∧ (0 ≤ x.at_ ∧ x.at_ ≤ 63) ∧ x.data.size ≤ 80 := by
  simp only [ioB, Bool.and_eq_true, decide_eq_true_eq]
  omega
end Go.Proofs.YtllaoijjgkfgpaaGreatDoor

namespace Go.Proofs.YtllaoijjgkfgpaaGreatDoor
open Go.RowKit
set_option linter.unusedVariables false

theorem three {l : List Int} (h : l.length = 3) : ∃ a b c, l = [a, b, c] := by
  match l, h with
  | [a, b, c], _ => exact ⟨a, b, c, rfl⟩
def VarT (w : World) (x : Nat) (t : TypeId) (h g s : Int) : Prop := w.heap[x]? = some (.cells #[.int .i64 h, .int .i64 g, .int .i64 s] t (0, 0))
theorem VarT.lt {w : World} {x t : Nat} {h g s : Int} (k : VarT w x t h g s) : x < w.heap.size := (Array.getElem?_eq_some_iff.1 k).1
theorem VarT.cells {w : World} {x t : Nat} {h g s : Int} (k : VarT w x t h g s) : w.cell? ⟨x, 0, none⟩ = some (.int .i64 h) ∧ w.cell? ⟨x, 1, none⟩ = some (.int .i64 g) ∧ w.cell? ⟨x, 2, none⟩ = some (.int .i64 s) := ⟨by rw [Joins.cell_of_block k]; rfl, by rw [Joins.cell_of_block k]; rfl, by rw [Joins.cell_of_block k]; rfl⟩
theorem VarT.free {w : World} {x t : Nat} {h g s : Int} (k : VarT w x t h g s) : w.frozen? ⟨x, 0, none⟩ = false ∧ w.frozen? ⟨x, 1, none⟩ = false ∧ w.frozen? ⟨x, 2, none⟩ = false := ⟨Joins.unfrozen_of_block k 0, Joins.unfrozen_of_block k 1, Joins.unfrozen_of_block k 2⟩
theorem VarT.below {w w' : World} {x t : Nat} {h g s : Int} (k : VarT w x t h g s) (hb : Below w.heap.size w w') : VarT w' x t h g s := by
  unfold VarT; rw [hb.block x k.lt]; exact k
theorem VarT.new (w : World) (t : TypeId) (h g s : Int) : VarT (w.alloc (.cells #[.int .i64 h, .int .i64 g, .int .i64 s] t)) w.heap.size t h g s := heap_alloc_new w _

theorem readV_size {ss : List ByteArray} {xs : List Wr} (hd : diskB ss xs = true) (h a : Int) : (readV ss xs h a).size ≤ 80 := by
  obtain ⟨⟨a1, a2⟩, a3, a4⟩ := diskB_parts.1 hd
  unfold readV
  cases hf : xs.reverse.find? (fun x => x.host == h && x.at_ == a) with
  | some x => exact (ioB_parts.1 (a4 x (List.mem_reverse.1 (List.mem_of_find?_eq_some hf)))).2.2
  | none =>
    simp only [Option.map_none, Option.getD_none]
    rw [List.getD_eq_getElem?_getD]
    cases hg : ss[a.toNat]? with
    | some s => exact a2 s (List.mem_of_getElem? hg)
    | none => exact Nat.zero_le _

end Go.Proofs.YtllaoijjgkfgpaaGreatDoor

namespace Go.Proofs.YtllaoijjgkfgpaaGreatDoor
open Go.RowKit
set_option linter.unusedVariables false

structure Ld where
  ver : Int
  own : Int
  gen : Int
abbrev lV (x : Ld) : Value := .agg #[.int .i64 x.ver, .int .i64 x.own, .int .i64 x.gen]
def ld0 : Ld := ⟨0, 0, 0⟩
def ldN (v : Int) : Ld := ⟨v, -1, 0⟩
def ldB (x : Ld) : Bool := inB x.ver 0 1000000 && ((decide (x.own = -1) && decide (x.gen = 0)) || (decide (0 < x.ver) && (inB x.own 0 3 && inB x.gen 1 1000000)))
def ldL (t : ByteArray) : List Int := openL t 6
def ld3 (l : List Int) : Ld := ⟨l.getD 0 0, l.getD 1 0 - 1, l.getD 2 0⟩
def ldD (t : ByteArray) : Bool := openB t 6 && (decide ((ldL t).length = 3) && ldB (ld3 (ldL t)))
def ldK (t : ByteArray) : Ld := if ldD t = true then ld3 (ldL t) else ldN 0
theorem ldD_open {t : ByteArray} (h : openB t 6 = false) : ldD t = false := by simp [ldD, h]
theorem ldD_len {t : ByteArray} (h : ¬ (ldL t).length = 3) : ldD t = false := by simp [ldD, h]
theorem ldD_at {t : ByteArray} {a b c : Int} (h : openB t 6 = true) (hl : ldL t = [a, b, c]) : ldD t = ldB ⟨a, b - 1, c⟩ := by
  have e : ld3 (ldL t) = ⟨a, b - 1, c⟩ := by rw [hl]; rfl
  simp [ldD, h, e]
  rw [hl]; simp
theorem ld_no {t : ByteArray} (h : ldD t = false) : ldK t = ldN 0 := by simp [ldK, h]
theorem ld_yes {t : ByteArray} {a b c : Int} (h : ldD t = true) (hl : ldL t = [a, b, c]) : ldK t = ⟨a, b - 1, c⟩ := by rw [ldK, if_pos h, hl]; rfl
def lcC (t : ByteArray) : Int := if 65536 < t.size then 2 else if ldD t = true then 0 else 3
def lcK (t : ByteArray) : Ld := if 65536 < t.size then ld0 else if ldD t = true then ldK t else ld0
theorem lc_long {t : ByteArray} (h : 65536 < t.size) : lcK t = ld0 ∧ lcC t = 2 := ⟨if_pos h, if_pos h⟩
theorem lc_no {t : ByteArray} (h : ¬ 65536 < t.size) (hd : ldD t = false) : lcK t = ld0 ∧ lcC t = 3 := ⟨(if_neg h).trans (if_neg (by simp [hd])), (if_neg h).trans (if_neg (by simp [hd]))⟩
theorem lc_yes {t : ByteArray} (h : ¬ 65536 < t.size) (hd : ldD t = true) : lcK t = ldK t ∧ lcC t = 0 := ⟨(if_neg h).trans (if_pos hd), (if_neg h).trans (if_pos hd)⟩
theorem ret_li {a b : Ld} {x y : Int} (h : a = b) (k : x = y) : Ending.returned (.tuple #[lV a, .int .i64 x]) = .returned (.tuple #[lV b, .int .i64 y]) := by rw [h, k]
theorem ret_lb {a b : Ld} {x y : Bool} (h : a = b) (k : x = y) : Ending.returned (.tuple #[lV a, .bool x]) = .returned (.tuple #[lV b, .bool y]) := by rw [h, k]
theorem open_nums {t : ByteArray} {k : Int} (h : openB t k = true) : ∀ x ∈ openL t k, 0 ≤ x ∧ x ≤ 2147483647 := by
  intro x hx
  rw [openL_yes h] at hx
  simp only [openB, Bool.and_eq_true] at h
  obtain ⟨_, _, _, _, _, hu⟩ := recB_iff.1 h.1
  obtain ⟨j, hj, rfl⟩ := List.mem_iff_getElem.1 hx
  exact (intsB_parts (okU_parts hu).2.2).1 j hj
theorem open_mid {t : ByteArray} {a b c : Int} (h : openB t 6 = true) (hl : ldL t = [a, b, c]) : IntKind.i64.wrap (b - 1) = b - 1 := by
  have := open_nums h b (by rw [show openL t 6 = [a, b, c] from hl]; simp)
  rw [IntKind.wrap_i64]; omega
end Go.Proofs.YtllaoijjgkfgpaaGreatDoor

namespace Go.Proofs.YtllaoijjgkfgpaaGreatDoor
open Go.RowKit
set_option linter.unusedVariables false
set_option maxRecDepth 100000

set_option maxHeartbeats 1600000 in
theorem l01Read_any (ao bo : Option Addr) (ca cb : Nat) (ss : List ByteArray) (xs : List Wr) (h : Int) (a : Nat) (w : World) (ha : a < ss.length) (hs : ss.length ≤ 1048576) (hm : xs.length ≤ maxLen) (h1 : Ss w ao ss) (h2 : Ios w bo xs) :
    Calls Tryz.prog 66 #[.agg #[.slice ao ss.length ca, .slice bo xs.length cb], .int .i64 h, .int .i64 a] w fun e w' => e = .returned (.string (readV ss xs h a)) ∧ Below w.heap.size w w' := by
  have HA := hide (Joins.below_alloc1 w (.cells #[.slice ao ss.length ca, .slice bo xs.length cb] 42))
  have H1 := hide (h1.below (unhide HA))
  have H2 := hide (h2.below (unhide HA))
  clear h1 h2
  unfold maxLen at hm
  go_enter Tryz.func66, Tryz.ntmps66
  go_wp2
  go_loop [7] (fun i => ∃ m : Int, i = .int .i64 m ∧ -1 ≤ m ∧ m < xs.length ∧ Hid (∀ j (hj : j < xs.length), m < j → ¬ mat xs[j] h a)) (fun i => (intOf i + 1).toNat)
  case atStart => exact ⟨_, rfl, by omega, by omega, hide (fun j hj hlt => by omega)⟩
  case round =>
    obtain ⟨m, rfl, hm0, hm1, HN⟩ := hrel
    by_cases hge : 0 ≤ m
    · obtain ⟨k, rfl⟩ := Int.eq_ofNat_of_zero_le hge
      have hk : k < xs.length := by omega
      obtain ⟨b, off, rfl, hc0, hc1, hc2, hz⟩ := unhide H2 k hk
      clear hz
      by_cases e0 : xs[k].host = h
      · have b0 : (xs[k].host == h) = true := by simp [e0]
        by_cases e1 : xs[k].at_ = a
        · have b1 : (xs[k].at_ == (a : Int)) = true := by simp [e1]
          have H := hide (readV_hit (ss := ss) hk ⟨e0, e1⟩ (fun j hj hlt => unhide HN j hj (by omega)))
          clear e0 e1
          go_wp2
          go_ret
          exact ⟨ret_rs (unhide H).symm, unhide HA⟩
        · have b1 : (xs[k].at_ == (a : Int)) = false := by simp [e1]
          have HX := hide (no_succ hk (unhide HN) (fun hx => e1 hx.2))
          clear e0 e1
          go_wp2
          go_round
          case rel => exact ⟨_, rfl, by omega, by omega, HX⟩
          case measure => simp [intOf]
      · have b0 : (xs[k].host == h) = false := by simp [e0]
        have HX := hide (no_succ hk (unhide HN) (fun hx => e0 hx.1))
        clear e0
        go_wp2
        go_round
        case rel => exact ⟨_, rfl, by omega, by omega, HX⟩
        case measure => simp [intOf]
    · obtain ⟨b, off, rfl, hc, hz⟩ := unhide H1 a ha
      clear hz
      have hg : ss.getD ((a : Int).toNat) ⟨#[]⟩ = ss[a] := by simp [List.getD, ha]
      have H := hide ((readV_none (ss := ss) (fun j hj => unhide HN j hj (by omega))).trans hg)
      clear hg
      go_wp2
      go_ret
      exact ⟨ret_rs (unhide H).symm, unhide HA⟩

end Go.Proofs.YtllaoijjgkfgpaaGreatDoor

namespace Go.Proofs.YtllaoijjgkfgpaaGreatDoor
open Go.RowKit
set_option linter.unusedVariables false
set_option maxRecDepth 100000

theorem l04Host_any (h : Int) (w : World) : Calls Tryz.prog 17 #[.int .i64 h] w fun e w' => e = .returned (.bool (inB h 0 3)) ∧ w' = w := by
  go_enter Tryz.func17, Tryz.ntmps17
  go_wp2_with fail
  refine (l01In_num h 0 3 _).mono ?_
  rintro e w1 ⟨rfl, rfl⟩
  go_wp2
  go_ret
  exact ⟨rfl, rfl⟩

end Go.Proofs.YtllaoijjgkfgpaaGreatDoor

namespace Go.Proofs.YtllaoijjgkfgpaaGreatDoor
open Go.RowKit
set_option linter.unusedVariables false
set_option maxRecDepth 100000

set_option maxHeartbeats 1600000 in
theorem leaderOK_spec (x : Ld) (w : World) : Calls Tryz.prog 130 #[lV x] w fun e w' => e = .returned (.bool (ldB x)) ∧ Below w.heap.size w w' := by
  obtain ⟨v, o, g⟩ := x
  go_enter Tryz.func130, Tryz.ntmps130
  go_wp2_with fail
  refine (l01In_num v 0 1000000 _).mono ?_
  rintro e w1 ⟨rfl, rfl⟩
  by_cases h1 : inB v 0 1000000 = false
  · have hr : Hid (ldB ⟨v, o, g⟩ = false) := hide (by simp [ldB, h1])
    go_wp2
    go_ret
    rw [unhide hr]
    exact ⟨rfl, Joins.below_alloc1 _ _⟩
  rw [Bool.not_eq_false] at h1
  by_cases hn : o = -1 ∧ g = 0
  · obtain ⟨hn1, hn2⟩ := hn
    have hr : Hid (ldB ⟨v, o, g⟩ = true) := hide (by simp [ldB, h1, hn1, hn2])
    have hb1 : (o == -1) = true := beq_iff_eq.2 hn1
    have hb2 : (g == 0) = true := beq_iff_eq.2 hn2
    clear hn1 hn2
    go_wp2
    go_ret
    rw [unhide hr]
    exact ⟨rfl, Joins.below_alloc1 _ _⟩
  have hr : Hid (ldB ⟨v, o, g⟩ = (decide (0 < v) && (inB o 0 3 && inB g 1 1000000))) := hide (by
    have : (decide (o = -1) && decide (g = 0)) = false := by simpa using hn
    simp [ldB, h1, this])
  rcases (show ((o == -1) = false) ∨ ((o == -1) = true ∧ (g == 0) = false) by simp only [beq_eq_false_iff_ne, beq_iff_eq]; omega) with ho | ⟨ho, hg⟩
  all_goals
    clear hn
    by_cases h2 : 0 < v
    · have hr2 : Hid (ldB ⟨v, o, g⟩ = (inB o 0 3 && inB g 1 1000000)) := hide (by rw [unhide hr]; simp [h2])
      go_wp2_with fail
      refine (l04Host_any o _).mono ?_
      rintro e w1 ⟨rfl, rfl⟩
      by_cases h3 : inB o 0 3 = false
      · have hr3 : Hid (ldB ⟨v, o, g⟩ = false) := hide (by rw [unhide hr2]; simp [h3])
        go_wp2
        go_ret
        rw [unhide hr3]
        exact ⟨rfl, Joins.below_alloc1 _ _⟩
      rw [Bool.not_eq_false] at h3
      have hr3 : Hid (ldB ⟨v, o, g⟩ = inB g 1 1000000) := hide (by rw [unhide hr2]; simp [h3])
      go_wp2_with fail
      refine (l01In_num g 1 1000000 _).mono ?_
      rintro e w1 ⟨rfl, rfl⟩
      go_wp2
      go_ret
      rw [unhide hr3]
      exact ⟨rfl, Joins.below_alloc1 _ _⟩
    · have hr2 : Hid (ldB ⟨v, o, g⟩ = false) := hide (by rw [unhide hr]; simp [h2])
      go_wp2
      go_ret
      rw [unhide hr2]
      exact ⟨rfl, Joins.below_alloc1 _ _⟩

end Go.Proofs.YtllaoijjgkfgpaaGreatDoor

namespace Go.Proofs.YtllaoijjgkfgpaaGreatDoor
open Go.RowKit
set_option linter.unusedVariables false
set_option maxRecDepth 100000

set_option maxHeartbeats 1600000 in
theorem l06Decode_any (t : ByteArray) (w : World) (hs : t.size ≤ 65536) : Calls Tryz.prog 91 #[.string t] w fun e w' => e = .returned (.tuple #[lV (ldK t), .bool (ldD t)]) ∧ Below w.heap.size w w' := by
  have HA := hide (Joins.below_alloc1 w (.cells #[.int .i64 0, .int .i64 0, .int .i64 0] 95))
  have HV := hide (VarT.new w 95 0 0 0)
  go_enter Tryz.func91, Tryz.ntmps91
  go_wp2_with fail
  refine (l02Open_any t 6 _ hs).mono ?_
  rintro e w1 ⟨v, rfl, ⟨qo, qa, rfl, ho⟩, hb⟩
  have HB := hide (fr (unhide HA) hb)
  have HB1 := hide hb
  have HO := hide ho
  obtain ⟨hc0, hc1, hc2⟩ := ((unhide HV).below hb).cells
  obtain ⟨hf0, hf1, hf2⟩ := ((unhide HV).below hb).free
  have HR := hide (fun u v x => below3 (unhide HB) (Nat.le_refl _) 0 1 2 u v x)
  clear hb ho
  by_cases hb : openB t 6 = false
  · have HE := hide (ldD_open hb)
    go_wp2
    refine bodyPost_ret (v := .tuple #[lV (ldN 0), .bool false]) (by simp [results, Tryz.results91, go_sem, hc0, hc1, hc2, ldN]) rfl ⟨?_, unhide HR _ _ _⟩
    exact ret_lb (ld_no (unhide HE)).symm (unhide HE).symm
  rw [Bool.not_eq_false] at hb
  by_cases h3 : (openL t 6).length = 3
  · obtain ⟨a, b, c, hl⟩ := three h3
    have wr1 := open_mid hb hl
    have HL := hide hl
    have hI := ownRN (unhide HO)
    rw [hl] at hI
    obtain ⟨g, off, rfl, hi0⟩ := hI 0 (by simp)
    obtain ⟨g', off', he, hi1⟩ := hI 1 (by simp)
    cases he
    obtain ⟨g', off', he, hi2⟩ := hI 2 (by simp)
    cases he
    simp only [List.getElem_cons_zero, List.getElem_cons_succ, Nat.add_zero] at hi0 hi1 hi2
    have hg := World.block_lt_of_cell? _ _ hi0
    clear hI
    go_wp2_with fail
    have HA2 := hide (Joins.below_alloc1 w1 (.cells #[.int .i64 a, .int .i64 (b - 1), .int .i64 c] 95)).drew
    have HV2 := hide (((unhide HV).below (unhide HB1)).below (unhide HA2))
    have HV3 : Hid (VarT (w1.alloc (.cells #[.int .i64 a, .int .i64 (b - 1), .int .i64 c] 95)).drew w1.heap.size 95 a (b - 1) c) := hide ((VarT.new w1 95 a (b - 1) c).below (Below.refl _ _).drew)
    have HB2 := hide (fr (unhide HB) (unhide HA2))
    clear hc0 hc1 hc2 hf0 hf1 hf2 HR
    go_region
    go_wp2_with fail
    refine (leaderOK_spec ⟨a, b - 1, c⟩ _).mono ?_
    rintro e w2 ⟨rfl, hb2⟩
    have HB3 := hide (fr (unhide HB2) hb2)
    obtain ⟨hc0, hc1, hc2⟩ := ((unhide HV2).below hb2).cells
    obtain ⟨hf0, hf1, hf2⟩ := ((unhide HV2).below hb2).free
    obtain ⟨hx0, hx1, hx2⟩ := ((unhide HV3).below hb2).cells
    have HR := hide (fun u v x => below3 (unhide HB3) (Nat.le_refl _) 0 1 2 u v x)
    have HE := hide (ldD_at hb (unhide HL))
    clear hb2 hi0 hi1 hi2
    by_cases hd : ldB ⟨a, b - 1, c⟩ = true
    · go_wp2
      refine bodyPost_ret (v := .tuple #[lV ⟨a, b - 1, c⟩, .bool true]) (by simp [results, Tryz.results91, go_sem, hc0, hc1, hc2]) rfl ⟨?_, unhide HR _ _ _⟩
      exact ret_lb (ld_yes (by rw [unhide HE]; exact hd) (unhide HL)).symm (by rw [unhide HE]; exact hd.symm)
    · rw [Bool.not_eq_true] at hd
      go_wp2
      refine bodyPost_ret (v := .tuple #[lV (ldN 0), .bool false]) (by simp [results, Tryz.results91, go_sem, hc0, hc1, hc2, ldN]) rfl ⟨?_, unhide HR _ _ _⟩
      exact ret_lb (ld_no (by rw [unhide HE]; exact hd)).symm (by rw [unhide HE]; exact hd.symm)
  · have HE := hide (ldD_len h3)
    go_wp2
    refine bodyPost_ret (v := .tuple #[lV (ldN 0), .bool false]) (by simp [results, Tryz.results91, go_sem, hc0, hc1, hc2, ldN]) rfl ⟨?_, unhide HR _ _ _⟩
    exact ret_lb (ld_no (unhide HE)).symm (unhide HE).symm

end Go.Proofs.YtllaoijjgkfgpaaGreatDoor

namespace Go.Proofs.YtllaoijjgkfgpaaGreatDoor
set_option linter.unusedVariables false

structure Bk where
  ver : Int
  mbal : Int
  bal : Int
  inp : Int
structure Pxs where
  host : Int
  ver : Int
  phase : Int
  ballot : Int
  value : Int
  next : Int
  best : Int
  bestBal : Int
def bk0 : Bk := ⟨0, 0, 0, 0⟩
def bkOf (b : Bk) (v : Int) : Bk := if b.ver < v then ⟨v, 0, 0, 0⟩ else b
def pxW1 (p : Pxs) (own : Bk) : Pxs := if p.phase = 1 then { p with phase := 2, next := 0, best := own.inp, bestBal := own.bal } else { p with phase := 4, next := 0 }
def pxW2 (p : Pxs) (own : Bk) : Bk := if p.phase = 1 then ⟨p.ver, p.ballot, own.bal, own.inp⟩ else ⟨p.ver, p.ballot, p.ballot, p.value⟩
def pxEnd (p : Pxs) : Pxs := if p.next < 4 then p else if p.phase = 4 then { p with phase := 5 } else { p with phase := 3, value := if 0 < p.bestBal then p.best else p.value }
def skip (p : Pxs) (n : Int) : Int := if n = p.host then n + 1 else n
def pxLook (p : Pxs) (b : Bk) : Pxs := { p with next := skip p (p.next + 1), best := if p.phase = 2 ∧ p.bestBal < b.bal then b.inp else p.best, bestBal := if p.phase = 2 ∧ p.bestBal < b.bal then b.bal else p.bestBal }
def pxRd (p0 : Pxs) (bs : List Bk) : Pxs :=
  let p := { p0 with next := skip p0 p0.next }
  if p.next < 4 then
    let b := bkOf (bs.getD p.next.toNat bk0) p.ver
    if p.ver < b.ver ∨ p.ballot < b.mbal then { p with phase := 6 } else pxEnd (pxLook p b)
  else pxEnd p
def pxOwn (p : Pxs) (bs : List Bk) : Bk := bkOf (bs.getD p.host.toNat bk0) p.ver
abbrev pxNo (p : Pxs) (own : Bk) : Prop := p.ver < own.ver ∨ p.ballot < own.mbal ∨ (p.phase = 1 ∧ own.mbal = p.ballot) ∨ (p.phase = 3 ∧ own.mbal ≠ p.ballot)

abbrev HS := Nat → Pxs
def pxStepP (p : Pxs) (bs : List Bk) : Pxs × List Bk :=
  if p.phase = 5 ∨ p.phase = 6 then (p, bs)
  else if p.phase = 2 ∨ p.phase = 4 then (pxRd p bs, bs)
  else if pxNo p (pxOwn p bs) then ({ p with phase := 6 }, bs)
  else (pxW1 p (pxOwn p bs), bs.set p.host.toNat (pxW2 p (pxOwn p bs)))
def nxMax (v : Int) : List Bk → Int → Int
  | [], n => n
  | b :: r, n => nxMax v r (max n (bkOf b v).mbal)
def nxBal (h v : Int) (bs : List Bk) : Int := (Int.tdiv (nxMax v bs 0) 4 + 1) * 4 + h
def px0 : Pxs := ⟨0, 0, 0, 0, 0, 0, 0, 0⟩
def runAt (vs : List Int) (st : List Pxs × List Bk) (h : Nat) : List Pxs × List Bk :=
  let p := st.1.getD h px0
  let p1 := if p.phase = 6 then ⟨h, 0, 1, nxBal h 0 st.2, vs.getD h 0, 0, 0, 0⟩ else p
  let r := pxStepP p1 st.2
  (st.1.set h r.1, r.2)
def run (vs : List Int) : List Nat → List Pxs × List Bk → List Pxs × List Bk
  | [], st => st
  | h :: r, st => run vs r (runAt vs st h)
def told (hs : List Pxs) : List Int := hs.map (fun p => if p.phase = 5 then p.value else -1)
end Go.Proofs.YtllaoijjgkfgpaaGreatDoor

namespace Go.Proofs.YtllaoijjgkfgpaaGreatDoor
open Go.RowKit
set_option linter.unusedVariables false

end Go.Proofs.YtllaoijjgkfgpaaGreatDoor

namespace Go.Proofs.YtllaoijjgkfgpaaGreatDoor
open Go.RowKit
set_option linter.unusedVariables false

end Go.Proofs.YtllaoijjgkfgpaaGreatDoor

namespace Go.Proofs.YtllaoijjgkfgpaaGreatDoor
set_option linter.unusedVariables false
end Go.Proofs.YtllaoijjgkfgpaaGreatDoor

namespace Go.Proofs.YtllaoijjgkfgpaaGreatDoor
set_option linter.unusedVariables false
end Go.Proofs.YtllaoijjgkfgpaaGreatDoor

namespace Go.Proofs.YtllaoijjgkfgpaaGreatDoor
set_option linter.unusedVariables false
end Go.Proofs.YtllaoijjgkfgpaaGreatDoor

namespace Go.Proofs.YtllaoijjgkfgpaaGreatDoor
set_option linter.unusedVariables false

def ldOf (ss : List ByteArray) (xs : List Wr) (h : Int) : Ld := ldK (readV ss xs h 0)
def rlK (ss : List ByteArray) (xs : List Wr) (h : Int) : Ld := if hostC ss xs h = 0 then ldOf ss xs h else ld0
def hlB (ss : List ByteArray) (xs : List Wr) (h g : Int) : Bool := decide (hostC ss xs h = 0) && (decide ((ldOf ss xs h).own = h) && decide ((ldOf ss xs h).gen = g))

end Go.Proofs.YtllaoijjgkfgpaaGreatDoor

namespace Go.Proofs.YtllaoijjgkfgpaaGreatDoor
open Go.RowKit
set_option linter.unusedVariables false
set_option maxRecDepth 100000

theorem ret_l {a b : Ld} (h : a = b) : Ending.returned (lV a) = .returned (lV b) := by rw [h]
theorem ret_bi2 {a b : Bool} {x y : Int} (h : a = b) (k : x = y) : Ending.returned (.tuple #[.bool a, .int .i64 x]) = .returned (.tuple #[.bool b, .int .i64 y]) := by rw [h, k]
theorem varL_new (w : World) (x : Obj) (a b c : Int) : VarT ((w.alloc x).alloc (.cells #[.int .i64 a, .int .i64 b, .int .i64 c] 95)) (w.heap.size + 1) 95 a b c := by
  have := VarT.new (w.alloc x) 95 a b c
  simp only [World.size_alloc] at this
  exact this

set_option maxHeartbeats 1600000 in
theorem l06Read_any (ao bo : Option Addr) (ca cb : Nat) (ss : List ByteArray) (xs : List Wr) (h : Int) (L : Ld) (w : World) (hL : ldOf ss xs h = L) (hd : diskB ss xs = true) (h1 : Ss w ao ss) (h2 : Ios w bo xs) :
    Calls Tryz.prog 46 #[.agg #[.slice ao ss.length ca, .slice bo xs.length cb], .int .i64 h] w fun e w' => e = .returned (lV L) ∧ Below w.heap.size w w' := by
  have HS := hide (readV_size hd h 0)
  obtain ⟨hlen, hlx⟩ := diskB_len hd
  have HL : Hid (ss.length ≤ 1048576) := hide (by omega)
  have HN : Hid (0 < ss.length) := hide (by omega)
  have HM : Hid (xs.length ≤ maxLen) := hide (by unfold maxLen; omega)
  have HA := hide (Joins.below_alloc2 w (.cells #[.slice ao ss.length ca, .slice bo xs.length cb] 42) (.cells #[.int .i64 0, .int .i64 0, .int .i64 0] 95))
  have H1 := hide (h1.below (unhide HA))
  have H2 := hide (h2.below (unhide HA))
  have HR := hide (varL_new w (.cells #[.slice ao ss.length ca, .slice bo xs.length cb] 42) 0 0 0)
  obtain ⟨T, HT⟩ : ∃ T, Hid (readV ss xs h 0 = T) := ⟨_, hide rfl⟩
  have HK : Hid (ldK T = L) := hide (by rw [← unhide HT]; exact hL)
  rw [unhide HT] at HS
  clear h1 h2 hd hlen hlx hL
  go_enter Tryz.func46, Tryz.ntmps46
  go_wp2_with fail
  refine Calls.mono (show Calls _ _ #[.agg #[.slice ao ss.length ca, .slice bo xs.length cb], .int .i64 h, .int .i64 0] _ _ from l01Read_any _ _ _ _ ss xs h 0 _ (unhide HN) (unhide HL) (unhide HM) (unhide H1) (unhide H2)) ?_
  rintro e w1 ⟨rfl, hb1⟩
  have HB1 := hide (fr (unhide HA) hb1)
  have HR1 := hide ((unhide HR).below hb1)
  rw [show readV ss xs h ((0 : Nat) : Int) = T from unhide HT]
  clear hb1
  go_wp2_with fail
  refine (l06Decode_any T _ (Nat.le_trans (unhide HS) (by decide))).mono ?_
  rintro e w2 ⟨rfl, hb2⟩
  rw [unhide HK]
  have HB2 := hide (fr (unhide HB1) hb2)
  have HR2 := hide ((unhide HR1).below hb2)
  obtain ⟨hc0, hc1, hc2⟩ := (unhide HR2).cells
  obtain ⟨hf0, hf1, hf2⟩ := (unhide HR2).free
  have hlt := (unhide HR2).lt
  have HE := hide (fun u v x => fr (below3 (g := w.heap.size + 1) (unhide HB2) (by omega) 0 1 2 u v x) (Joins.below_alloc1 _ (.cells #[.int .i64 L.ver, .int .i64 L.own, .int .i64 L.gen] 95)))
  clear hb2
  go_wp2
  exact bodyPost_ret (v := lV L) (by simp [results, Tryz.results46, go_sem, hc0, hc1, hc2, hlt]) rfl ⟨rfl, unhide HE _ _ _⟩

end Go.Proofs.YtllaoijjgkfgpaaGreatDoor

namespace Go.Proofs.YtllaoijjgkfgpaaGreatDoor
open Go.RowKit
set_option linter.unusedVariables false
set_option maxRecDepth 100000

end Go.Proofs.YtllaoijjgkfgpaaGreatDoor

namespace Go.Proofs.YtllaoijjgkfgpaaGreatDoor
open Go.RowKit
set_option linter.unusedVariables false
set_option maxRecDepth 100000

theorem kindOK_any (n : Int) (w : World) : Calls Tryz.prog 163 #[.int .i64 n] w fun e w' => e = .returned (.bool (kindB n)) ∧ w' = w := by
  go_enter Tryz.func163, Tryz.ntmps163
  go_wp2
  all_goals
    go_ret
    exact ⟨ret_bool (by rw [Bool.eq_iff_iff]; simp [kindB, inB]; omega), rfl⟩

end Go.Proofs.YtllaoijjgkfgpaaGreatDoor

namespace Go.Proofs.YtllaoijjgkfgpaaGreatDoor
open Go.RowKit
set_option linter.unusedVariables false
set_option maxRecDepth 100000

end Go.Proofs.YtllaoijjgkfgpaaGreatDoor

namespace Go.Proofs.YtllaoijjgkfgpaaGreatDoor
open Go.RowKit
set_option linter.unusedVariables false
set_option maxRecDepth 100000

theorem genOK_any (n : Int) (w : World) : Calls Tryz.prog 182 #[.int .i64 n] w fun e w' => e = .returned (.bool (inB n 1 1000000)) ∧ w' = w := by
  go_enter Tryz.func182, Tryz.ntmps182
  go_wp2_with fail
  refine (within_any n 1 1000000 _).mono ?_
  rintro e w1 ⟨rfl, rfl⟩
  go_wp2
  go_ret
  exact ⟨rfl, rfl⟩
end Go.Proofs.YtllaoijjgkfgpaaGreatDoor

namespace Go.Proofs.YtllaoijjgkfgpaaGreatDoor
open Go.RowKit
set_option linter.unusedVariables false
set_option maxRecDepth 100000

theorem verOK_any (n : Int) (w : World) : Calls Tryz.prog 180 #[.int .i64 n] w fun e w' => e = .returned (.bool (inB n 0 1000000)) ∧ w' = w := by
  go_enter Tryz.func180, Tryz.ntmps180
  go_wp2_with fail
  refine (within_any n 0 1000000 _).mono ?_
  rintro e w1 ⟨rfl, rfl⟩
  go_wp2
  go_ret
  exact ⟨rfl, rfl⟩
theorem within_in (n low high : Int) (w : World) : Calls Tryz.prog 54 #[.int .i64 n, .int .i64 low, .int .i64 high] w fun e w' => e = .returned (.bool (inB n low high)) ∧ w' = w := within_any n low high w

end Go.Proofs.YtllaoijjgkfgpaaGreatDoor

namespace Go.Proofs.YtllaoijjgkfgpaaGreatDoor
open Go.RowKit
set_option linter.unusedVariables false
set_option maxRecDepth 100000

theorem ownerOK_any (o g : Int) (w : World) : Calls Tryz.prog 181 #[.int .i64 o, .int .i64 g] w fun e w' => e = .returned (.bool (inB o 0 3 && inB g 1 1000000)) ∧ w' = w := by
  go_enter Tryz.func181, Tryz.ntmps181
  go_wp2_with fail
  refine (hostOK_any o _).mono ?_
  rintro e w1 ⟨rfl, rfl⟩
  by_cases h1 : inB o 0 3 = false
  · go_wp2
    go_ret
    rw [h1]
    exact ⟨rfl, rfl⟩
  rw [Bool.not_eq_false] at h1
  go_wp2_with fail
  refine (genOK_any g _).mono ?_
  rintro e w1 ⟨rfl, rfl⟩
  go_wp2
  go_ret
  rw [h1]
  exact ⟨rfl, rfl⟩

theorem pos_in (v : Int) : inB v 1 1000000 = (inB v 0 1000000 && decide (0 < v)) := by
  rw [Bool.eq_iff_iff]; simp only [inB, Bool.and_eq_true, decide_eq_true_eq]; omega
set_option maxHeartbeats 1600000 in
theorem leaderOK_impl (x : Ld) (w : World) : Calls Tryz.prog 176 #[lV x] w fun e w' => e = .returned (.bool (ldB x)) ∧ Below w.heap.size w w' := by
  obtain ⟨v, o, g⟩ := x
  go_enter Tryz.func176, Tryz.ntmps176
  by_cases ho : o = -1
  · have hob : (o == -1) = true := beq_iff_eq.2 ho
    replace ho := hide ho
    go_wp2_with fail
    refine (verOK_any v _).mono ?_
    rintro e w1 ⟨rfl, rfl⟩
    by_cases h1 : inB v 0 1000000 = false
    · have hr : Hid (ldB ⟨v, o, g⟩ = false) := hide (by simp [ldB, h1])
      go_wp2
      go_ret
      rw [unhide hr]
      exact ⟨rfl, Joins.below_alloc1 _ _⟩
    rw [Bool.not_eq_false] at h1
    have hr : Hid (ldB ⟨v, o, g⟩ = decide (g = 0)) := hide (by
      have ho' : o = -1 := unhide ho
      have : inB o 0 3 = false := by rw [ho']; rfl
      show (inB v 0 1000000 && ((decide (o = -1) && decide (g = 0)) || (decide (0 < v) && (inB o 0 3 && inB g 1 1000000)))) = _
      rw [h1, this, decide_eq_true ho']
      simp)
    go_wp2
    go_ret
    rw [unhide hr]
    exact ⟨ret_bool (by rw [Bool.eq_iff_iff]; simp), Joins.below_alloc1 _ _⟩
  · have hob : (o == -1) = false := by simp [ho]
    go_wp2_with fail
    refine (within_in v 1 1000000 _).mono ?_
    rintro e w1 ⟨rfl, rfl⟩
    by_cases h1 : inB v 1 1000000 = false
    · have hr : Hid (ldB ⟨v, o, g⟩ = false) := hide (by
        rw [pos_in] at h1
        cases h5 : inB v 0 1000000 with
        | false => simp [ldB, h5]
        | true => rw [h5, Bool.true_and] at h1; simp only [ldB, h1, h5, decide_eq_false ho]; rfl)
      go_wp2
      go_ret
      rw [unhide hr]
      exact ⟨rfl, Joins.below_alloc1 _ _⟩
    rw [Bool.not_eq_false] at h1
    have hr : Hid (ldB ⟨v, o, g⟩ = (inB o 0 3 && inB g 1 1000000)) := hide (by
      rw [pos_in, Bool.and_eq_true] at h1
      simp only [ldB, h1.1, h1.2, decide_eq_false ho, Bool.true_and, Bool.false_and, Bool.false_or])
    go_wp2_with fail
    refine (ownerOK_any o g _).mono ?_
    rintro e w1 ⟨rfl, rfl⟩
    go_wp2
    go_ret
    rw [unhide hr]
    exact ⟨rfl, Joins.below_alloc1 _ _⟩

end Go.Proofs.YtllaoijjgkfgpaaGreatDoor

namespace Go.Proofs.YtllaoijjgkfgpaaGreatDoor
open Go.RowKit
set_option linter.unusedVariables false
set_option maxRecDepth 100000

def txt : Value → ByteArray
  | .string s => s
  | _ => ⟨#[]⟩
def Rest (s u : ByteArray) (k : Nat) : Prop := u.size + k = s.size ∧ ∀ j, j < u.size → byteAt u j = byteAt s (k + j)
theorem Rest.zero (s : ByteArray) : Rest s s 0 := ⟨rfl, fun j _ => by rw [Nat.zero_add]⟩
theorem Rest.num {s u : ByteArray} {k : Nat} (h : Rest s u k) (h4 : 4 ≤ u.size) : numAt u 0 = numAt s k := by
  unfold numAt
  rw [h.2 0 (by omega), h.2 (0 + 1) (by omega), h.2 (0 + 2) (by omega), h.2 (0 + 3) (by omega)]
  simp

theorem cut_size {u : ByteArray} (a : Nat) : (u.extract a u.size).size = u.size - a := by simp
theorem cut_byte {u : ByteArray} {a j : Nat} (h : a + j < u.size) : byteAt (u.extract a u.size) j = byteAt u (a + j) := by
  have h' : a + j < u.data.size := h
  have e : (u.extract a u.size).data = u.data.extract a u.size := by simp
  unfold byteAt
  rw [e, Array.getElem?_extract]
  have : j < u.size - a := by omega
  simp [this]
theorem Rest.cut {s u : ByteArray} {k : Nat} (h : Rest s u k) (h4 : 4 ≤ u.size) : Rest s (u.extract 4 u.size) (k + 4) := by
  refine ⟨by rw [cut_size]; have := h.1; omega, fun j hj => ?_⟩
  rw [cut_size] at hj
  rw [cut_byte (by omega), h.2 (4 + j) (by omega), Nat.add_assoc]

set_option maxHeartbeats 1600000 in
theorem readNumbers_ok (s : ByteArray) (w : World) (h4 : s.size % 4 = 0) (hl : s.size ≤ 64) (hn : ∀ k, k < s.size / 4 → numB (numAt s (k * 4)) = true) :
    Calls Tryz.prog 165 #[.string s] w fun e w' => ∃ v, e = .returned v ∧ OwnN w' w.heap.size v (unL s) ∧ Below w.heap.size w w' := by
  obtain ⟨j0, hj, hy0, hy1, hy2⟩ := info_parts infoM
  have hb4 : ((s.size : Int) % 4 == 0) = true := by simp; omega
  have hli : (s.size : Int) ≤ 64 := by omega
  have HN := hide hn
  clear hn
  go_enter Tryz.func165, Tryz.ntmps165
  go_wp2_with (go_at_call 120; refine (demand_true _).mono ?_; rintro e w' ⟨rfl, hw⟩; replace hw := hw.symm; subst hw)
  go_loopw [0, 3] (fun t o wr => ∃ (k : Nat) (u : ByteArray) (qo : Option Addr) (qa : Nat), k ≤ s.size / 4 ∧ t = .string u ∧ o = .slice qo k qa ∧ u.size + k * 4 = s.size ∧ Hid (Rest s u (k * 4)) ∧ Hid (OwnR wr w.heap.size 3 1 (.slice qo k qa) k (intV ((unL s).take k))) ∧ Hid (Below w.heap.size w wr)) (fun t _ _ => (txt t).size)
  case atStart => exact ⟨0, s, _, _, Nat.zero_le _, rfl, rfl, rfl, hide (Rest.zero s), hide (.inl ⟨rfl, rfl, _, rfl⟩), hide (Below.refl _ _)⟩
  case round =>
    obtain ⟨k, u, qo, qa, hk, rfl, rfl, hu, HR, HO, HB⟩ := hrel
    by_cases hlt : k < s.size / 4
    · have hu4 : 4 ≤ u.size := by omega
      have HNU : Hid (numB (numAt u 0) = true) := hide (by rw [(unhide HR).num hu4]; exact unhide HN k hlt)
      have HNE := hide ((unhide HR).num hu4)
      have hu0 : 0 < u.size := by omega
      have HSZU := hide (cut_size (u := u) 4)
      go_wp2_with fail
      refine (readNumber_ok u _ hu4 (unhide HNU)).mono ?_
      rintro e w1 ⟨rfl, hb1⟩
      have HB1 := hide (fr (unhide HB) hb1)
      have HO1 := hide ((unhide HO).below hb1)
      clear hb1
      have HOA := hide ((unhide HO1).below (Joins.below_alloc1 _ (.cells #[.int .i64 (numAt u 0)] 3)))
      have HBA := hide (fr (unhide HB1) (Joins.below_alloc1 _ (.cells #[.int .i64 (numAt u 0)] 3)))
      have HSZ := hide (unhide HB1).size
      go_wp2_with (at_builtin; refine wpList_append_one rfl _ _ 29 rfl w.heap.size 3 j0 (.int .i64 0) 1 8 Tryz.underlying29 hj hy0 hy1 hy2 rfl (by omega) qo k qa (intV ((unL s).take k)) rfl (unhide HOA) (by have := unhide HSZ; simp; omega) ⟨w1.heap.size, 0, none⟩ _ [.int .i64 (numAt u 0)] rfl rfl (byte_news w1 _ _) (int_one _) (by unfold maxLen; omega) (by omega) ?_; intro g2 cap2 wA hoA hkA; have HSF := hide (And.intro hoA (keep_below (unhide HBA) (unhide HOA) (Nat.le_refl _) hkA)); clear hoA hkA)
      go_roundw
      case rel => exact ⟨k + 1, _, _, _, by omega, rfl, rfl, by rw [unhide HSZU]; omega, hide (by rw [show (k + 1) * 4 = k * 4 + 4 by omega]; exact (unhide HR).cut hu4), hide (.inr ⟨by omega, by rw [unL_succ hlt, intV_snoc, ← unhide HNE]; exact (unhide HSF).1⟩), hide (unhide HSF).2⟩
      case measure => show (u.extract 4 u.size).size < u.size; rw [unhide HSZU]; omega
    · have hke : k = (unL s).length := by rw [unL_length]; omega
      have hu0 : u.size = 0 := by omega
      have HT : Hid ((unL s).take k = unL s) := hide (List.take_of_length_le (by omega))
      have HON : Hid (OwnR wr w.heap.size 3 1 (.slice qo (unL s).length qa) (unL s).length (intV (unL s))) := hide (by have := unhide HO; rw [unhide HT, hke] at this; exact this)
      subst hke
      go_wp2
      go_ret
      exact ⟨.slice qo (unL s).length qa, rfl, ⟨qo, qa, rfl, unhide HON⟩, unhide HB⟩

set_option maxHeartbeats 1600000 in
theorem readNumbers_bad (s : ByteArray) (w : World) (k0 : Nat) (h4 : s.size % 4 = 0) (hl : s.size ≤ 64) (hk0 : k0 < s.size / 4) (hn : ∀ k, k < k0 → numB (numAt s (k * 4)) = true) (hn0 : numB (numAt s (k0 * 4)) = false) (hE : ErrW w) :
    Calls Tryz.prog 165 #[.string s] w fun e w' => (∃ u pv, e = .panicked [{ v := .iface u pv, recovered := false }]) ∧ Below w.heap.size w w' := by
  obtain ⟨j0, hj, hy0, hy1, hy2⟩ := info_parts infoM
  have hb4 : ((s.size : Int) % 4 == 0) = true := by simp; omega
  have hli : (s.size : Int) ≤ 64 := by omega
  have HN := hide hn
  have HN0 := hide hn0
  have HE := hide hE
  clear hn hn0 hE
  go_enter Tryz.func165, Tryz.ntmps165
  go_wp2_with (go_at_call 120; refine (demand_true _).mono ?_; rintro e w' ⟨rfl, hw⟩; replace hw := hw.symm; subst hw)
  go_loopw [0, 3] (fun t o wr => ∃ (k : Nat) (u : ByteArray) (qo : Option Addr) (qa : Nat), k ≤ k0 ∧ t = .string u ∧ o = .slice qo k qa ∧ u.size + k * 4 = s.size ∧ Hid (Rest s u (k * 4)) ∧ Hid (OwnR wr w.heap.size 3 1 (.slice qo k qa) k (intV ((unL s).take k))) ∧ Hid (Below w.heap.size w wr)) (fun t _ _ => (txt t).size)
  case atStart => exact ⟨0, s, _, _, Nat.zero_le _, rfl, rfl, rfl, hide (Rest.zero s), hide (.inl ⟨rfl, rfl, _, rfl⟩), hide (Below.refl _ _)⟩
  case round =>
    obtain ⟨k, u, qo, qa, hk, rfl, rfl, hu, HR, HO, HB⟩ := hrel
    have hlt0 : k < s.size / 4 := by omega
    by_cases hlt : k < k0
    · have hu4 : 4 ≤ u.size := by omega
      have HNU : Hid (numB (numAt u 0) = true) := hide (by rw [(unhide HR).num hu4]; exact unhide HN k hlt)
      have HNE := hide ((unhide HR).num hu4)
      have hu0 : 0 < u.size := by omega
      have HSZU := hide (cut_size (u := u) 4)
      go_wp2_with fail
      refine (readNumber_ok u _ hu4 (unhide HNU)).mono ?_
      rintro e w1 ⟨rfl, hb1⟩
      have HB1 := hide (fr (unhide HB) hb1)
      have HO1 := hide ((unhide HO).below hb1)
      clear hb1
      have HOA := hide ((unhide HO1).below (Joins.below_alloc1 _ (.cells #[.int .i64 (numAt u 0)] 3)))
      have HBA := hide (fr (unhide HB1) (Joins.below_alloc1 _ (.cells #[.int .i64 (numAt u 0)] 3)))
      have HSZ := hide (unhide HB1).size
      go_wp2_with (at_builtin; refine wpList_append_one rfl _ _ 29 rfl w.heap.size 3 j0 (.int .i64 0) 1 8 Tryz.underlying29 hj hy0 hy1 hy2 rfl (by omega) qo k qa (intV ((unL s).take k)) rfl (unhide HOA) (by have := unhide HSZ; simp; omega) ⟨w1.heap.size, 0, none⟩ _ [.int .i64 (numAt u 0)] rfl rfl (byte_news w1 _ _) (int_one _) (by unfold maxLen; omega) (by omega) ?_; intro g2 cap2 wA hoA hkA; have HSF := hide (And.intro hoA (keep_below (unhide HBA) (unhide HOA) (Nat.le_refl _) hkA)); clear hoA hkA)
      go_roundw
      case rel => exact ⟨k + 1, _, _, _, by omega, rfl, rfl, by rw [unhide HSZU]; omega, hide (by rw [show (k + 1) * 4 = k * 4 + 4 by omega]; exact (unhide HR).cut hu4), hide (.inr ⟨by omega, by rw [unL_succ hlt0, intV_snoc, ← unhide HNE]; exact (unhide HSF).1⟩), hide (unhide HSF).2⟩
      case measure => show (u.extract 4 u.size).size < u.size; rw [unhide HSZU]; omega
    · have hu4 : 4 ≤ u.size := by omega
      have hu0 : 0 < u.size := by omega
      have hke : k = k0 := by omega
      have HNU : Hid (numB (numAt u 0) = false) := hide (by rw [(unhide HR).num hu4, hke]; exact unhide HN0)
      go_wp2_with fail
      refine (readNumber_no u _ hu4 (unhide HNU) ((unhide HE).below (unhide HB))).mono ?_
      rintro e w1 ⟨⟨u1, pv, rfl⟩, hb1⟩
      have HB1 := hide (fr (unhide HB) hb1)
      clear hb1
      go_wp2
      exact ⟨rfl, ⟨u1, pv, rfl⟩, unhide HB1⟩

set_option maxHeartbeats 800000 in
theorem readNumbers_form (s : ByteArray) (w : World) (h : s.size % 4 ≠ 0 ∨ 64 < s.size) (hE : ErrW w) :
    Calls Tryz.prog 165 #[.string s] w fun e w' => (∃ u pv, e = .panicked [{ v := .iface u pv, recovered := false }]) ∧ Below w.heap.size w w' := by
  have HE := hide hE
  clear hE
  by_cases h4 : s.size % 4 = 0
  · have hb4 : ((s.size : Int) % 4 == 0) = true := by simp; omega
    have hli : ¬ (s.size : Int) ≤ 64 := by omega
    go_enter Tryz.func165, Tryz.ntmps165
    go_wp2_with (go_at_call 120; refine (demand_false _ (unhide HE)).mono ?_; rintro e w' ⟨⟨u1, pv, rfl⟩, hw⟩; replace hw := hw.symm; subst hw)
    exact ⟨rfl, ⟨_, _, rfl⟩, Below.refl _ _⟩
  · have hb4 : ((s.size : Int) % 4 == 0) = false := by simp; omega
    go_enter Tryz.func165, Tryz.ntmps165
    go_wp2_with (go_at_call 120; refine (demand_false _ (unhide HE)).mono ?_; rintro e w' ⟨⟨u1, pv, rfl⟩, hw⟩; replace hw := hw.symm; subst hw)
    exact ⟨rfl, ⟨_, _, rfl⟩, Below.refl _ _⟩

theorem first_bad {p : Nat → Bool} : ∀ n, (∀ k, k < n → p k = true) ∨ ∃ k0, k0 < n ∧ (∀ k, k < k0 → p k = true) ∧ p k0 = false
  | 0 => .inl (fun k hk => by omega)
  | n + 1 => by
    rcases first_bad (p := p) n with h | ⟨k0, h0, h1, h2⟩
    · cases hp : p n with
      | true => exact .inl (fun k hk => by
          by_cases e : k = n
          · subst e; exact hp
          · exact h k (by omega))
      | false => exact .inr ⟨n, by omega, h, hp⟩
    · exact .inr ⟨k0, by omega, h1, h2⟩

theorem readNumbers_yes (s : ByteArray) (w : World) (h : okU s = true) :
    Calls Tryz.prog 165 #[.string s] w fun e w' => ∃ v, e = .returned v ∧ OwnN w' w.heap.size v (unL s) ∧ Below w.heap.size w w' := by
  have h4 : s.size % 4 = 0 := by
    by_cases h4 : s.size % 4 = 0
    · exact h4
    · rw [okU_rest h4] at h; cases h
  have hl : s.size ≤ 64 := by
    by_cases hl : 64 < s.size
    · rw [okU_long hl] at h; cases h
    · omega
  refine readNumbers_ok s w h4 hl (fun k hk => ?_)
  cases hb : numB (numAt s (k * 4)) with
  | true => rfl
  | false => rw [okU_bad hk hb] at h; cases h
theorem readNumbers_no (s : ByteArray) (w : World) (h : okU s = false) (hE : ErrW w) :
    Calls Tryz.prog 165 #[.string s] w fun e w' => (∃ u pv, e = .panicked [{ v := .iface u pv, recovered := false }]) ∧ Below w.heap.size w w' := by
  by_cases h4 : s.size % 4 = 0
  · by_cases hl : s.size ≤ 64
    · rcases first_bad (p := fun k => numB (numAt s (k * 4))) (s.size / 4) with hg | ⟨k0, h0, h1, h2⟩
      · rw [okU_true h4 hl hg] at h; cases h
      · exact readNumbers_bad s w k0 h4 hl h0 h1 h2 hE
    · exact readNumbers_form s w (.inr (by omega)) hE
  · exact readNumbers_form s w (.inl h4) hE

end Go.Proofs.YtllaoijjgkfgpaaGreatDoor
