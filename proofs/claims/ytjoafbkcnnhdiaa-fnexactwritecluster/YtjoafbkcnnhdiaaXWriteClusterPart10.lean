import Derived.Test.YtjoafbkcnnhdiaaRows
import Derived.Test.YtjoafbkcnnhdiaaXWriteClusterPart1
import Derived.Test.YtjoafbkcnnhdiaaXWriteClusterPart7
import Derived.Test.YtjoafbkcnnhdiaaXWriteClusterPart2
import Derived.Test.YtjoafbkcnnhdiaaXWriteClusterPart3
import Derived.Test.YtjoafbkcnnhdiaaXWriteClusterPart4
import Derived.Test.YtjoafbkcnnhdiaaXWriteClusterPart6
import Derived.Test.YtjoafbkcnnhdiaaXWriteClusterPart8
import Derived.Test.YtjoafbkcnnhdiaaXWriteClusterPart9
import Derived.WalkKit
import Derived.WalkSpells
import Derived.KernelRfl
import Derived.BigQuiet
import Derived.Deep.QuietTactic
import Derived.Deep.RegionWith
import Derived.Deep.RegionHeld3

namespace Go.Proofs.Ytjoafbkcnnhdiaa
open Go.RowKit
set_option linter.unusedVariables false
set_option maxRecDepth 100000

def wcS (m : Img) (e : Int) : Option Nat := if 2 ≤ e ∧ m.refs.getD (e - 2).toNat 0 = 1 then some (e - 2).toNat else if frN m.refs < m.refs.length then some (frN m.refs) else none
def wcM (m : Img) (g : Nat) (v : Int) : Option Nat → Img
  | some c => { m with table := m.table.set g (2 + (c : Int)), data := m.data.set c v }
  | none => m
def wcK : Option Nat → Int
  | some _ => 0
  | none => 7
def wc1 (m : Img) (g v : Int) : Img := if betw g 0 ((m.table.length : Int) - 1) = true ∧ numB v = true then wcM m g.toNat v (wcS m (m.table.getD g.toNat 0)) else m
def wcC (m : Img) (g v : Int) : Int := if betw g 0 ((m.table.length : Int) - 1) = true ∧ numB v = true then wcK (wcS m (m.table.getD g.toNat 0)) else 4
theorem wcS_lt {m : Img} (h : ImR m) {g c : Nat} (hg : g < m.table.length) (hs : wcS m m.table[g] = some c) : c < 24 := by
  unfold wcS at hs
  have hb := tbB_at h.table g hg
  split at hs
  · cases hs; omega
  · split at hs
    · rename_i hf; cases hs; rw [h.rl] at hf; exact hf
    · cases hs
theorem wc_fit {m : Img} (g v : Int) (h : ImR m) : FitR (wc1 m g v) := by
  unfold wc1
  by_cases hok : betw g 0 ((m.table.length : Int) - 1) = true ∧ numB v = true
  · rw [if_pos hok]
    obtain ⟨l0, l1⟩ := betw_iff.1 hok.1
    have hg : g.toNat < m.table.length := by omega
    have e : m.table.getD g.toNat 0 = m.table[g.toNat] := by simp [List.getD, hg]
    rw [e]
    cases hs : wcS m m.table[g.toNat] with
    | none => exact h.fitR
    | some c =>
      have := wcS_lt h hg hs
      exact h.fitT (tbB_set h.table _ (by omega) (by omega)) (by simp [h.len])
  · rw [if_neg hok]
    exact h.fitR
theorem wc_ans {m : Img} (g v : Int) : (if imB m = true then (imFit (wc1 m g v), wcC m g v) else (im0, 1)) = wcA m g v := by
  refine ans_eq (fun h => ?_) (fun h => by rw [wcA, h]; rfl)
  have hR := imB_iff.1 h
  rw [wcA, if_pos h]
  unfold wc1 wcC
  by_cases hok : betw g 0 ((m.table.length : Int) - 1) = true ∧ numB v = true
  · rw [if_pos hok, if_pos hok, if_pos hok]
    obtain ⟨l0, l1⟩ := betw_iff.1 hok.1
    have hg : g.toNat < m.table.length := by omega
    have e : m.table.getD g.toNat 0 = m.table[g.toNat] := by simp [List.getD, hg]
    have hb := tbB_at hR.table _ hg
    rw [e]
    unfold wcS
    by_cases h1 : 2 ≤ m.table[g.toNat] ∧ m.refs.getD (m.table[g.toNat] - 2).toNat 0 = 1
    · rw [if_pos h1]
      have hc : m.table[g.toNat] = (((m.table[g.toNat] - 2).toNat : Nat) : Int) + 2 := by omega
      have hr : (m.table[g.toNat] - 2).toNat < m.refs.length := by rw [hR.rl]; omega
      have h1' : m.refs[(m.table[g.toNat] - 2).toNat] = 1 := by have := h1.2; simpa [List.getD, hr] using this
      rw [imWrite_in hg hc hr h1']
      exact ⟨fit_in hR v hg hc h1.2, rfl⟩
    · rw [if_neg h1, imWrite_out hg h1]
      by_cases h2 : frN m.refs < m.refs.length
      · rw [if_pos h2, if_pos h2]
        exact ⟨fit_out hR v hg (by rw [hR.rl] at h2; exact h2) (free_spec h2), rfl⟩
      · rw [if_neg h2, if_neg h2]
        exact ⟨fit_self hR, rfl⟩
  · rw [if_neg hok, if_neg hok, if_neg hok]
    exact ⟨fit_self hR, rfl⟩
theorem used_pos {m : Img} (h : ImR m) {g c : Nat} (hg : g < m.table.length) (hc : m.table[g] = (c : Int) + 2) (h24 : c < 24) : 1 ≤ m.refs.getD c 0 := by
  have h1 := cN_pos hg hc
  have h3 := sN_nn (m.snaps.map (·.table)) c
  rw [h.cntA h24, sN_tabs]
  omega

set_option maxHeartbeats 3200000 in
theorem writeC_any (m : Img) (g v : Int) (x y : Nat) (W : World) (p B : Nat) (a : Im4) (ts : List Value) (hR : ImR m) (hx : VarN1 W x g) (hxB : x < B) (hy : VarN1 W y v) (hyB : y < B) (hB : B ≤ W.heap.size) (hh : Hld W p B a m ts) :
    Calls Try.prog 49 #[.pointer (some ⟨p, 0, none⟩), .pointer (some ⟨x, 0, none⟩), .pointer (some ⟨y, 0, none⟩)] W fun e W' => Chg W W' p B e (wcC m g v) (wc1 m g v) := by
  have HH := hide hh
  have HT := hide (hh.o.shows hR.M.zs).t
  have HL := hide hR.M.L.t
  have HRR := hide hR
  have HXV := hide hx
  have HYV := hide hy
  have hx' : W.cell? ⟨x, 0, none⟩ = some (.int .i64 g) := hx
  obtain ⟨c0, c1, c2, c3⟩ := hh.v.cells
  have hpl := hh.v.lt
  have hxl := World.block_lt_of_cell? _ _ hx
  have HCAL : Hid (∀ W1, Below W.heap.size W W1 → Calls Try.prog 44 #[.slice a.tq m.table.length a.tc, .int .i64 g] W1 fun e w' => e = .returned (.tuple #[.int .i64 (enK m.table g), .int .i64 (enC m.table g), .int .i64 (enF m.table g)]) ∧ Below W.heap.size W w') := hide (fun W1 hW => (entryOf_impl a.tq a.tc m.table g W1 (unhide HL) ((unhide HT).below hW)).mono fun e w' ⟨h1, h3⟩ => ⟨h1, fr hW h3⟩)
  obtain ⟨C, HC⟩ : ∃ C, Hid (C = wcC m g v) := ⟨_, rfl⟩
  obtain ⟨M1, HM1⟩ : ∃ M1, Hid (M1 = wc1 m g v) := ⟨_, rfl⟩
  rw [← unhide HC, ← unhide HM1]
  have HEN := hide (en_cases m.table g)
  have HTF := hide (tbF_ok hR.table)
  clear hh hx hy hR
  generalize enK m.table g = K at *
  generalize enC m.table g = Cc at *
  generalize enF m.table g = F at *
  go_enter Try.func49, Try.ntmps49
  go_upto_region 1 with fail
  go_region_held3 (fun w' => w'.cell? ⟨p, 1, none⟩ = some (.slice a.tq m.table.length a.tc) ∧ w'.cell? ⟨x, 0, none⟩ = some (.int .i64 g)) (go_keep) ((go_at_call 44; refine (unhide HCAL _ (Below.refl _ _).drew).mono ?_; rintro e w3 ⟨rfl, hb3⟩; have k1 := (hb3.cell (p := ⟨p, 1, none⟩) hpl).trans c1; have k2 := (hb3.cell (p := ⟨x, 0, none⟩) hxl).trans hx'; have HN3 := hide hb3; clear hb3))
  clear k1 k2 c0 c1 c2 c3 hx' hpl hxl HCAL
  generalize w3 = wz at HN3 ⊢
  have HH3 := hide ((unhide HH).below (unhide HN3))
  have HX3 := hide ((unhide HXV).below (unhide HN3))
  have HY3 := hide ((unhide HYV).below (unhide HN3))
  have HS3 := hide (Nat.le_trans hB (unhide HN3).size)
  rcases unhide HEN with ⟨hf, _⟩ | ⟨hb, hg, eF, eK, eC⟩ | ⟨hb, q, rfl, hq, eF, eK, eC⟩
  · exact absurd (unhide HTF) hf
  · have HE : Hid (C = 4 ∧ M1 = m) := hide ⟨by rw [unhide HC, wcC, hg]; rfl, by rw [unhide HM1, wc1, hg]; rfl⟩
    subst eF eK eC
    clear hg
    go_wp2
    go_ret
    rw [(unhide HE).1, (unhide HE).2]
    exact Chg.same 4 (unhide HH) hB (unhide HN3)
  have hgb : betw (q : Int) 0 ((m.table.length : Int) - 1) = true := betw_iff.2 ⟨by omega, by omega⟩
  have hy' : wz.cell? ⟨y, 0, none⟩ = some (.int .i64 v) := unhide HY3
  subst eF
  cases hnv : numB v
  · have HE : Hid (C = 4 ∧ M1 = m) := hide ⟨by rw [unhide HC, wcC, hnv]; simp, by rw [unhide HM1, wc1, hnv]; simp⟩
    clear hgb eK eC
    go_wp2_with (go_at_call 50; refine (isNumber_any _ _).mono ?_; rintro e w' ⟨rfl, hw⟩; replace hw := hw.symm; subst hw; rw [hnv])
    go_ret
    rw [(unhide HE).1, (unhide HE).2]
    exact Chg.same 4 (unhide HH) hB (unhide HN3)
  have HE : Hid (C = wcK (wcS m m.table[q]) ∧ M1 = wcM m q v (wcS m m.table[q])) := hide (by
    have e : m.table.getD q 0 = m.table[q] := by simp [List.getD, hq]
    rw [unhide HC, unhide HM1, wcC, wc1, if_pos ⟨hgb, hnv⟩, if_pos ⟨hgb, hnv⟩, Int.toNat_natCast, e]
    exact ⟨rfl, rfl⟩)
  have HTQ := hide (tbB_at hb q hq)
  have HSL := hide (fun c hs => wcS_lt (c := c) (unhide HRR) hq hs)
  have HPOS := hide (fun c hc h24 => used_pos (c := c) (unhide HRR) hq hc h24)
  have hqi : (q : Int) < (m.table.length : Int) := by omega
  clear hgb hb
  obtain ⟨c0, c1, c2, c3⟩ := (unhide HH3).v.cells
  by_cases hT : m.table[q] < 2
  · have HNO : Hid (¬ (2 ≤ m.table[q] ∧ m.refs.getD (m.table[q] - 2).toNat 0 = 1)) := hide (fun h => by omega)
    have h3 : (K != 2) = true := by rw [eK]; simp; omega
    clear hT eK eC
    -- the first free one
    have HB3 : Hid (Below B W wz) := hide ((unhide HN3).mono hB)
    go_wp2_with (first | (go_at_call 50; refine (isNumber_any _ _).mono ?_; rintro e w' ⟨rfl, hw⟩; replace hw := hw.symm; subst hw; rw [hnv]) | fail)
    refine (freeCluster_impl a.ro a.rc m.refs _ (unhide HRR).M.L.r ((unhide HH3).o.shows (unhide HRR).M.zs).r).mono ?_
    rintro e w4 ⟨rfl, hb4⟩
    have HN4 := hide (fr (unhide HN3) hb4)
    have HH4 := hide ((unhide HH3).below hb4)
    have HX4 := hide ((unhide HX3).below hb4)
    have HS4 := hide (Nat.le_trans (unhide HS3) hb4.size)
    have HB4 : Hid (Below B W w4) := hide ((unhide HN4).mono hB)
    clear hb4 c0 c1 c2 c3 hy'
    by_cases hfr : frN m.refs < m.refs.length
    · obtain ⟨f1, f2⟩ := frC_here (unhide HRR).refs hfr rfl
      have hc24 : frN m.refs < 24 := by rw [(unhide HRR).rl] at hfr; exact hfr
      have HE2 : Hid (C = 0 ∧ M1 = { m with table := m.table.set q (2 + (frN m.refs : Int)), data := m.data.set (frN m.refs) v }) := hide (by rw [(unhide HE).1, (unhide HE).2, wcS, if_neg (unhide HNO), if_pos hfr]; exact ⟨rfl, rfl⟩)
      rw [f1, f2]
      clear f1 f2 hfr
      generalize frN m.refs = c at *
      obtain ⟨c0, c1, c2, c3⟩ := (unhide HH4).v.cells
      have x4 : w4.cell? ⟨x, 0, none⟩ = some (.int .i64 (q : Int)) := unhide HX4
      obtain ⟨gt, et, ht1, hf1, hst⟩ := (unhide HH4).setT (unhide HS4) hq
      have HS := hide (hst (2 + (c : Int)))
      have hwc : IntKind.i64.wrap (2 + (c : Int)) = 2 + (c : Int) := by rw [IntKind.wrap_i64]; omega
      rw [et] at c1
      clear et hst
      go_upto_region 8 with fail
      go_region
      have HH5 := hide ((unhide HS).1.below (Below.refl _ _).drew)
      have HB5 : Hid (Below B W (w4.setCell ⟨gt, q, none⟩ (.int .i64 (2 + (c : Int)))).drew) := hide ((unhide HB4).trans (unhide HS).2).drew
      have HX5 := hide ((unhide HXV).belowB hxB (unhide HB5))
      have HY5 := hide ((unhide HYV).belowB hyB (unhide HB5))
      clear c0 c1 c2 c3 x4 ht1 hf1 HS HH4 HX4 HS4 HB4
      revert HH5 HB5 HX5 HY5
      generalize (World.drew _) = W5
      intro HH5 HB5 HX5 HY5
      obtain ⟨c0, c1, c2, c3⟩ := (unhide HH5).v.cells
      have y5 : W5.cell? ⟨y, 0, none⟩ = some (.int .i64 v) := unhide HY5
      obtain ⟨gd, ed, hd1, hf2, hsd⟩ := (unhide HH5).setD (c := c) (Nat.le_trans hB (unhide HB5).size) (by show c < m.data.length; rw [(unhide HRR).len]; exact hc24)
      have HS2 := hide (hsd v)
      rw [ed] at c3
      have hcdi : (c : Int) < (m.data.length : Int) := by rw [(unhide HRR).len]; omega
      clear ed hsd
      go_wp2
      go_region
      go_wp2
      go_ret
      rw [(unhide HE2).1, (unhide HE2).2]
      exact ⟨rfl, _, _, (unhide HS2).1.below (Below.refl _ _).drew, ((unhide HB5).trans (unhide HS2).2).drew⟩
    · obtain ⟨f1, f2⟩ := frC_none (unhide HRR).refs hfr
      have HE2 : Hid (C = 7 ∧ M1 = m) := hide (by rw [(unhide HE).1, (unhide HE).2, wcS, if_neg (unhide HNO), if_neg hfr]; exact ⟨rfl, rfl⟩)
      rw [f1, f2]
      clear f1 f2 hfr
      go_wp2
      go_ret
      rw [(unhide HE2).1, (unhide HE2).2]
      exact Chg.same 7 (unhide HH) hB (unhide HN4)
  · obtain ⟨c, hcc⟩ := Int.eq_ofNat_of_zero_le (show 0 ≤ m.table[q] - 2 by omega)
    have hTQ := unhide HTQ
    have hc24 : c < 24 := by omega
    have hcr : c < m.refs.length := by rw [(unhide HRR).rl]; exact hc24
    have hcri : (c : Int) < (m.refs.length : Int) := by omega
    have h1 : K = 2 := by omega
    have h2 : Cc = (c : Int) := by omega
    have egd : m.refs.getD c 0 = m.refs[c] := by simp [List.getD, hcr]
    have hpos := unhide HPOS c (by omega) hc24
    rw [egd] at hpos
    obtain ⟨b3, o3, e3, hx3⟩ := ((unhide HH3).o.shows (unhide HRR).M.zs).r c hcr
    rw [e3] at c0
    have E3 := hide e3
    subst h1 h2
    have HCC : Hid ((m.table[q] - 2).toNat = c) := hide (by omega)
    have HT2 : Hid (2 ≤ m.table[q]) := hide (by omega)
    clear hT eK eC e3 hTQ hcc
    by_cases hone : m.refs[c] = 1
    · have HE2 : Hid (C = 0 ∧ M1 = { m with table := m.table.set q (2 + (c : Int)), data := m.data.set c v }) := hide (by rw [(unhide HE).1, (unhide HE).2, wcS, if_pos ⟨unhide HT2, by rw [unhide HCC, egd]; exact hone⟩, unhide HCC]; exact ⟨rfl, rfl⟩)
      have hn1 : ¬ (1 : Int) < m.refs[c] := by omega
      have HH4 := HH3
      have HX4 := HX3
      have HS4 := HS3
      have HB4 : Hid (Below B W wz) := hide ((unhide HN3).mono hB)
      clear hone egd hpos
      generalize m.refs[c] = RC at *
      go_upto_region 8 with (go_at_call 50; refine (isNumber_any _ _).mono ?_; rintro e w' ⟨rfl, hw⟩; replace hw := hw.symm; subst hw; rw [hnv])
      clear c0 c1 c2 c3 hx3 hn1 hy'
      obtain ⟨c0, c1, c2, c3⟩ := (unhide HH4).v.cells
      have x4 : wz.cell? ⟨x, 0, none⟩ = some (.int .i64 (q : Int)) := unhide HX4
      obtain ⟨gt, et, ht1, hf1, hst⟩ := (unhide HH4).setT (unhide HS4) hq
      have HS := hide (hst (2 + (c : Int)))
      have hwc : IntKind.i64.wrap (2 + (c : Int)) = 2 + (c : Int) := by rw [IntKind.wrap_i64]; omega
      rw [et] at c1
      clear et hst
      go_region
      have HH5 := hide ((unhide HS).1.below (Below.refl _ _).drew)
      have HB5 : Hid (Below B W (wz.setCell ⟨gt, q, none⟩ (.int .i64 (2 + (c : Int)))).drew) := hide ((unhide HB4).trans (unhide HS).2).drew
      have HX5 := hide ((unhide HXV).belowB hxB (unhide HB5))
      have HY5 := hide ((unhide HYV).belowB hyB (unhide HB5))
      clear c0 c1 c2 c3 x4 ht1 hf1 HS HH4 HX4 HS4 HB4
      revert HH5 HB5 HX5 HY5
      generalize (World.drew _) = W5
      intro HH5 HB5 HX5 HY5
      obtain ⟨c0, c1, c2, c3⟩ := (unhide HH5).v.cells
      have y5 : W5.cell? ⟨y, 0, none⟩ = some (.int .i64 v) := unhide HY5
      obtain ⟨gd, ed, hd1, hf2, hsd⟩ := (unhide HH5).setD (c := c) (Nat.le_trans hB (unhide HB5).size) (by show c < m.data.length; rw [(unhide HRR).len]; exact hc24)
      have HS2 := hide (hsd v)
      rw [ed] at c3
      have hcdi : (c : Int) < (m.data.length : Int) := by rw [(unhide HRR).len]; omega
      clear ed hsd
      go_wp2
      go_region
      go_wp2
      go_ret
      rw [(unhide HE2).1, (unhide HE2).2]
      exact ⟨rfl, _, _, (unhide HS2).1.below (Below.refl _ _).drew, ((unhide HB5).trans (unhide HS2).2).drew⟩
    · have HNO : Hid (¬ (2 ≤ m.table[q] ∧ m.refs.getD (m.table[q] - 2).toNat 0 = 1)) := hide (fun h => hone (by have := h.2; rw [unhide HCC, egd] at this; exact this))
      have hn1 : (1 : Int) < m.refs[c] := by omega
      clear hone egd hpos
      generalize m.refs[c] = RC at *
      -- the first free one
      have HB3 : Hid (Below B W wz) := hide ((unhide HN3).mono hB)
      go_wp2_with (first | (go_at_call 50; refine (isNumber_any _ _).mono ?_; rintro e w' ⟨rfl, hw⟩; replace hw := hw.symm; subst hw; rw [hnv]) | fail)
      refine (freeCluster_impl (some ⟨b3, o3, none⟩) a.rc m.refs _ (unhide HRR).M.L.r (by rw [← unhide E3]; exact ((unhide HH3).o.shows (unhide HRR).M.zs).r)).mono ?_
      rintro e w4 ⟨rfl, hb4⟩
      have HN4 := hide (fr (unhide HN3) hb4)
      have HH4 := hide ((unhide HH3).below hb4)
      have HX4 := hide ((unhide HX3).below hb4)
      have HS4 := hide (Nat.le_trans (unhide HS3) hb4.size)
      have HB4 : Hid (Below B W w4) := hide ((unhide HN4).mono hB)
      clear hb4 c0 c1 c2 c3 hy' hx3 hn1
      by_cases hfr : frN m.refs < m.refs.length
      · obtain ⟨f1, f2⟩ := frC_here (unhide HRR).refs hfr rfl
        have hc25 : frN m.refs < 24 := by rw [(unhide HRR).rl] at hfr; exact hfr
        have HE2 : Hid (C = 0 ∧ M1 = { m with table := m.table.set q (2 + (frN m.refs : Int)), data := m.data.set (frN m.refs) v }) := hide (by rw [(unhide HE).1, (unhide HE).2, wcS, if_neg (unhide HNO), if_pos hfr]; exact ⟨rfl, rfl⟩)
        rw [f1, f2]
        clear f1 f2 hfr
        generalize frN m.refs = c at *
        obtain ⟨c0, c1, c2, c3⟩ := (unhide HH4).v.cells
        have x4 : w4.cell? ⟨x, 0, none⟩ = some (.int .i64 (q : Int)) := unhide HX4
        obtain ⟨gt, et, ht1, hf1, hst⟩ := (unhide HH4).setT (unhide HS4) hq
        have HS := hide (hst (2 + (c : Int)))
        have hwc : IntKind.i64.wrap (2 + (c : Int)) = 2 + (c : Int) := by rw [IntKind.wrap_i64]; omega
        rw [et] at c1
        clear et hst
        go_upto_region 8 with fail
        go_region
        have HH5 := hide ((unhide HS).1.below (Below.refl _ _).drew)
        have HB5 : Hid (Below B W (w4.setCell ⟨gt, q, none⟩ (.int .i64 (2 + (c : Int)))).drew) := hide ((unhide HB4).trans (unhide HS).2).drew
        have HX5 := hide ((unhide HXV).belowB hxB (unhide HB5))
        have HY5 := hide ((unhide HYV).belowB hyB (unhide HB5))
        clear c0 c1 c2 c3 x4 ht1 hf1 HS HH4 HX4 HS4 HB4
        revert HH5 HB5 HX5 HY5
        generalize (World.drew _) = W5
        intro HH5 HB5 HX5 HY5
        obtain ⟨c0, c1, c2, c3⟩ := (unhide HH5).v.cells
        have y5 : W5.cell? ⟨y, 0, none⟩ = some (.int .i64 v) := unhide HY5
        obtain ⟨gd, ed, hd1, hf2, hsd⟩ := (unhide HH5).setD (c := c) (Nat.le_trans hB (unhide HB5).size) (by show c < m.data.length; rw [(unhide HRR).len]; exact hc25)
        have HS2 := hide (hsd v)
        rw [ed] at c3
        have hcdi : (c : Int) < (m.data.length : Int) := by rw [(unhide HRR).len]; omega
        clear ed hsd
        go_wp2
        go_region
        go_wp2
        go_ret
        rw [(unhide HE2).1, (unhide HE2).2]
        exact ⟨rfl, _, _, (unhide HS2).1.below (Below.refl _ _).drew, ((unhide HB5).trans (unhide HS2).2).drew⟩
      · obtain ⟨f1, f2⟩ := frC_none (unhide HRR).refs hfr
        have HE2 : Hid (C = 7 ∧ M1 = m) := hide (by rw [(unhide HE).1, (unhide HE).2, wcS, if_neg (unhide HNO), if_neg hfr]; exact ⟨rfl, rfl⟩)
        rw [f1, f2]
        clear f1 f2 hfr
        go_wp2
        go_ret
        rw [(unhide HE2).1, (unhide HE2).2]
        exact Chg.same 7 (unhide HH) hB (unhide HN4)

set_option maxHeartbeats 1600000 in
theorem writeCluster_impl (a : Im4) (m : Img) (g : Int) (v : Int) (w : World) (hL : ImL m) (hc : ImS w a m) :
    Calls Try.prog 22 #[imV a m, .int .i64 g, .int .i64 v] w fun e w' => AnsI w w' e (wcA m g v) := by
  have hmf : ∀ (fn : Fn) (first cap : Array Value) (w : World), (Instr.makeFunc fn first cap).run Try.prog w = .ok (.func fn first cap) w := fun _ _ _ _ => rfl
  have HE : Hid (FcE w ((((w.alloc (.cells #[.slice a.ro m.refs.length a.rc, .slice a.tq m.table.length a.tc, .slice a.so m.snaps.length a.sc, .slice a.dq m.data.length a.dc] 35)).alloc (.cells #[.int .i64 g] 3)).alloc (.cells #[.int .i64 v] 3)).alloc (.cells #[.slice none 0 0, .slice none 0 0, .slice none 0 0, .slice none 0 0] 35)) (w.heap.size + 1 + 1 + 1) a m) := hide (by
    refine ⟨?_, ?_, hc.below (fr (fr (fr (Joins.below_alloc1 w _) (Joins.below_alloc1 _ _)) (Joins.below_alloc1 _ _)) (Joins.below_alloc1 _ _)), fr (fr (fr (Joins.below_alloc1 w _) (Joins.below_alloc1 _ _)) (Joins.below_alloc1 _ _)) (Joins.below_alloc1 _ _), by omega, by simp⟩
    · exact (((VarM.new w 35 (.slice a.ro m.refs.length a.rc) (.slice a.tq m.table.length a.tc) (.slice a.so m.snaps.length a.sc) (.slice a.dq m.data.length a.dc)).below (Joins.below_alloc1 _ _)).below (Joins.below_alloc1 _ _)).below (Joins.below_alloc1 _ _)
    · have h := VarM.new (((w.alloc (.cells #[.slice a.ro m.refs.length a.rc, .slice a.tq m.table.length a.tc, .slice a.so m.snaps.length a.sc, .slice a.dq m.data.length a.dc] 35)).alloc (.cells #[.int .i64 g] 3)).alloc (.cells #[.int .i64 v] 3)) 35 (.slice none 0 0) (.slice none 0 0) (.slice none 0 0) (.slice none 0 0)
      simp only [World.size_alloc] at h
      exact h)
  have HX0 : Hid (VarN1 ((((w.alloc (.cells #[.slice a.ro m.refs.length a.rc, .slice a.tq m.table.length a.tc, .slice a.so m.snaps.length a.sc, .slice a.dq m.data.length a.dc] 35)).alloc (.cells #[.int .i64 g] 3)).alloc (.cells #[.int .i64 v] 3)).alloc (.cells #[.slice none 0 0, .slice none 0 0, .slice none 0 0, .slice none 0 0] 35)) (w.heap.size + 1) g) := hide (by
    have h : VarN1 ((((w.alloc (.cells #[.slice a.ro m.refs.length a.rc, .slice a.tq m.table.length a.tc, .slice a.so m.snaps.length a.sc, .slice a.dq m.data.length a.dc] 35)).alloc (.cells #[.int .i64 g] 3)).alloc (.cells #[.int .i64 v] 3)).alloc (.cells #[.slice none 0 0, .slice none 0 0, .slice none 0 0, .slice none 0 0] 35)) (w.alloc (.cells #[.slice a.ro m.refs.length a.rc, .slice a.tq m.table.length a.tc, .slice a.so m.snaps.length a.sc, .slice a.dq m.data.length a.dc] 35)).heap.size g := ((VarN1.new (w.alloc (.cells #[.slice a.ro m.refs.length a.rc, .slice a.tq m.table.length a.tc, .slice a.so m.snaps.length a.sc, .slice a.dq m.data.length a.dc] 35)) g).below (Joins.below_alloc1 _ _)).below (Joins.below_alloc1 _ _)
    simp only [World.size_alloc] at h
    exact h)
  have HX1 : Hid (VarN1 ((((w.alloc (.cells #[.slice a.ro m.refs.length a.rc, .slice a.tq m.table.length a.tc, .slice a.so m.snaps.length a.sc, .slice a.dq m.data.length a.dc] 35)).alloc (.cells #[.int .i64 g] 3)).alloc (.cells #[.int .i64 v] 3)).alloc (.cells #[.slice none 0 0, .slice none 0 0, .slice none 0 0, .slice none 0 0] 35)) (w.heap.size + 1 + 1) v) := hide (by
    have h : VarN1 ((((w.alloc (.cells #[.slice a.ro m.refs.length a.rc, .slice a.tq m.table.length a.tc, .slice a.so m.snaps.length a.sc, .slice a.dq m.data.length a.dc] 35)).alloc (.cells #[.int .i64 g] 3)).alloc (.cells #[.int .i64 v] 3)).alloc (.cells #[.slice none 0 0, .slice none 0 0, .slice none 0 0, .slice none 0 0] 35)) ((w.alloc (.cells #[.slice a.ro m.refs.length a.rc, .slice a.tq m.table.length a.tc, .slice a.so m.snaps.length a.sc, .slice a.dq m.data.length a.dc] 35)).alloc (.cells #[.int .i64 g] 3)).heap.size v := (VarN1.new ((w.alloc (.cells #[.slice a.ro m.refs.length a.rc, .slice a.tq m.table.length a.tc, .slice a.so m.snaps.length a.sc, .slice a.dq m.data.length a.dc] 35)).alloc (.cells #[.int .i64 g] 3)) v).below (Joins.below_alloc1 _ _)
    simp only [World.size_alloc] at h
    exact h)
  have HL := hide hL
  obtain ⟨R, HR⟩ : ∃ R, Hid (R = wcA m g v) := ⟨_, rfl⟩
  rw [← unhide HR]
  clear hc hL
  go_enter Try.func22, Try.ntmps22
  go_upto_region 1 with fail
  revert HE HX0 HX1
  generalize ((((w.alloc _).alloc _).alloc _).alloc _) = W0
  intro HE HX0 HX1
  obtain ⟨c0, c1, c2, c3⟩ := (unhide HE).v.cells
  go_wp2_with fail
  refine (changeImage_any a m 49 #[.pointer (some ⟨w.heap.size + 1, 0, none⟩), .pointer (some ⟨w.heap.size + 1 + 1, 0, none⟩)] (wc1 m g v) (wcC m g v) _ (unhide HL) (unhide HE).s (fun _ _ => rfl) (fun him => ⟨wc_fit g v (imB_iff.1 him), fun W p B a1 ts1 h1 h2 h3 h4 _ => ?_⟩)).mono ?_
  · exact writeC_any m g v _ _ W p B a1 ts1 (imB_iff.1 him) ((unhide HX0).below h1) (Nat.lt_of_lt_of_le (World.block_lt_of_cell? _ _ (unhide HX0)) h2) ((unhide HX1).below h1) (Nat.lt_of_lt_of_le (World.block_lt_of_cell? _ _ (unhide HX1)) h2) h3 h4
  · intro e w2 hans
    rw [wc_ans, ← unhide HR] at hans
    obtain ⟨b, ts, rfl, ho, hb⟩ := hans
    have HP := hide ((unhide HE).put hb ho)
    have HE2 := hide ((unhide HE).below hb)
    clear ho hb c0 c1 c2 c3
    obtain ⟨r0, r1, r2, r3⟩ := (unhide HE2).r.cells
    obtain ⟨z0, z1, z2, z3⟩ := (unhide HE2).r.free
    go_wp2
    refine bodyPost_ret (res_ic Try.results22 rfl rfl (unhide HP).1) rfl ?_
    exact AnsI.of rfl rfl (unhide HP).2.1 (unhide HP).2.2

end Go.Proofs.Ytjoafbkcnnhdiaa

namespace Go.Proofs.Ytjoafbkcnnhdiaa
open Go.RowKit
set_option linter.unusedVariables false
set_option maxRecDepth 100000

theorem ImBd.like {m n : Img} (h : ImBd m) (e1 : n.refs.length = m.refs.length) (e2 : n.table.length ≤ 1048576) (e3 : n.snaps = m.snaps) (e4 : n.data.length = m.data.length) : ImBd n :=
  ⟨by rw [e1]; exact h.r, e2, by rw [e3]; exact h.s, by rw [e4]; exact h.d, by rw [e3]; exact h.st, by rw [e3]; exact h.k⟩
theorem write_lens (m : Img) (g : Nat) (v : Int) : (imWrite m g v).1.refs.length = m.refs.length ∧ (imWrite m g v).1.table.length = m.table.length ∧ (imWrite m g v).1.snaps = m.snaps ∧ (imWrite m g v).1.data.length = m.data.length := by
  unfold imWrite
  simp only
  split
  · exact ⟨rfl, rfl, rfl, by simp⟩
  · split
    · exact ⟨by simp [imDrop_refs], by simp [(imDrop_table m _).1], (imDrop_table m _).2, by simp [imDrop_data]⟩
    · exact ⟨rfl, rfl, rfl, rfl⟩
theorem wc_bd (m : Img) (g v : Int) (h : imSz m ≤ 1048576) : ImBd (wcA m g v).1 := by
  unfold wcA
  split
  · split
    · obtain ⟨h1, h2, h3, h4⟩ := write_lens m g.toNat v
      exact (ImBd.of h).like h1 (by rw [h2]; exact (ImBd.of h).t) h3 h4
    · exact ImBd.of h
  · exact ImBd.zero
end Go.Proofs.Ytjoafbkcnnhdiaa

namespace Go.Proofs.Ytjoafbkcnnhdiaa
open Go.RowKit
set_option linter.unusedVariables false
set_option maxRecDepth 100000

theorem wkWriteCluster (a : Im4) (m : Img) (g v : Int) (w : World) (hl : m.refs.length ≤ maxLen ∧ m.table.length ≤ maxLen ∧ m.snaps.length ≤ maxLen ∧ m.data.length ≤ maxLen) (hc : ImS w a m) :
    Calls Try.prog 7 #[imV a m, .int .i64 g, .int .i64 v] w fun e w' => e = .returned (.bool true) ∧ Below w.heap.size w w' :=
  have hL : ImL m := ⟨hl.1, hl.2.1, hl.2.2.1, hl.2.2.2⟩
  lawImWriteCluster a m g v (wcA m g v) w hL hc (fun s hs => by obtain ⟨j, hj, rfl⟩ := List.mem_iff_getElem.1 hs; obtain ⟨_, _, _, _, _, _, _, _, h1, h2⟩ := hc.s j hj; exact ⟨h1, h2⟩) (wc_bd m g v) (fun b W h => writeCluster_spec b m g v W hL h) (fun b W h => writeCluster_impl b m g v W hL h)

end Go.Proofs.Ytjoafbkcnnhdiaa
