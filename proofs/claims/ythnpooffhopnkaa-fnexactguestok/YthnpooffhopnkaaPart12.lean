import Derived.Test.YthnpooffhopnkaaRows
import Derived.Test.YthnpooffhopnkaaPart1
import Derived.Test.YthnpooffhopnkaaPart3
import Derived.Test.YthnpooffhopnkaaPart4
import Derived.Test.YthnpooffhopnkaaPart8
import Derived.WalkKit
import Derived.WalkSpells
import Derived.KernelRfl
import Derived.LoopN
import Derived.BigQuiet
import Derived.Deep.QuietTactic
import Derived.Deep.CutRange
import Derived.Deep.RegionWith
import Derived.Deep.RegionHeld3
import Derived.Test.YthnpooffhopnkaaPart5
import Derived.Test.YthnpooffhopnkaaPart11
import Derived.Deep.Quiet

/- Contracts of the laws' own copies of guests: toShot, toShotS, toGuest. (Written by gens/shot.py.) -/
namespace Go.Proofs.Ythnpooffhopnkaa
open Go.RowKit
set_option linter.unusedVariables false
set_option maxRecDepth 100000

theorem infoSh : (Try.prog.info? 69).map (fun i => (i.zero, i.size, i.bytes)) = some (some (.agg #[.string ⟨#[]⟩, .slice none 0 0]), 2, 40) := by kernel_rfl

set_option maxHeartbeats 1600000 in
theorem toShot_any (s : Snp) (tq : Option Addr) (tc : Nat) (w : World) (hl : s.table.length ≤ 1048576) (hc : Is w tq s.table) :
    Calls Try.prog 73 #[snV s tq tc] w fun e w' => ∃ g, e = .returned (snV s (some ⟨g, 0, none⟩) s.table.length) ∧ OwnN w' w.heap.size (.slice (some ⟨g, 0, none⟩) s.table.length s.table.length) s.table ∧ Below w.heap.size w w' := by
  have HA := hide (Joins.below_alloc3 w (.cells #[.string s.name, .slice tq s.table.length tc] 101) (.cells #[.string ⟨#[]⟩, .slice none 0 0] 69) (.cells #[.string s.name, .slice none 0 0] 69))
  have HC := hide (hc.below (unhide HA))
  clear hc
  go_enter Try.func73, Try.ntmps73
  go_wp2_with fail
  refine (toIntS_any tq tc s.table _ hl (unhide HC)).mono ?_
  rintro e w1 ⟨g, rfl, ho1, hb1⟩
  have hz1 : w.heap.size + 1 + 1 < w1.heap.size := by have := hb1.size; simp at this; omega
  have hc1 : w1.cell? ⟨w.heap.size + 1 + 1, 0, none⟩ = some (.string s.name) := (hb1.cell (by simp)).trans (by simp [go_sem])
  have hc2 : w1.cell? ⟨w.heap.size + 1 + 1, 1, none⟩ = some (.slice none 0 0) := (hb1.cell (by simp)).trans (by simp [go_sem])
  have hc3 : w1.cell? ⟨w.heap.size + 1, 0, none⟩ = some (.string ⟨#[]⟩) := (hb1.cell (by simp)).trans (by simp [go_sem])
  have hc4 : w1.cell? ⟨w.heap.size + 1, 1, none⟩ = some (.slice none 0 0) := (hb1.cell (by simp)).trans (by simp [go_sem])
  have hf0 : w1.frozen? ⟨w.heap.size + 1 + 1, 0, none⟩ = false := (hb1.frozen (by simp)).trans (by simp [go_sem])
  have hf1 : w1.frozen? ⟨w.heap.size + 1 + 1, 1, none⟩ = false := (hb1.frozen (by simp)).trans (by simp [go_sem])
  have hf2 : w1.frozen? ⟨w.heap.size + 1, 0, none⟩ = false := (hb1.frozen (by simp)).trans (by simp [go_sem])
  have hf3 : w1.frozen? ⟨w.heap.size + 1, 1, none⟩ = false := (hb1.frozen (by simp)).trans (by simp [go_sem])
  have HO1 := hide (OwnR.of ho1 (fun e => ⟨_, by rw [e]⟩))
  have HB1 := hide (fr (unhide HA) hb1)
  clear ho1 hb1
  have HO2 := hide ((((unhide HO1).setCell (a := ⟨w.heap.size + 1 + 1, 1, none⟩) (by simp) (.slice (some ⟨g, 0, none⟩) s.table.length s.table.length)).setCell (a := ⟨w.heap.size + 1, 0, none⟩) (by simp) (.string s.name)).setCell (a := ⟨w.heap.size + 1, 1, none⟩) (by simp) (.slice (some ⟨g, 0, none⟩) s.table.length s.table.length))
  have HB2 := hide ((((unhide HB1).setCell (p := ⟨w.heap.size + 1 + 1, 1, none⟩) (by simp; omega) (.slice (some ⟨g, 0, none⟩) s.table.length s.table.length)).setCell (p := ⟨w.heap.size + 1, 0, none⟩) (by simp) (.string s.name)).setCell (p := ⟨w.heap.size + 1, 1, none⟩) (by simp) (.slice (some ⟨g, 0, none⟩) s.table.length s.table.length))
  go_wp2
  refine bodyPost_ret (v := snV s (some ⟨g, 0, none⟩) s.table.length) (by simp [results, Try.results73, go_sem, hc3, hc4]) rfl ⟨g, rfl, ?_, unhide HB2⟩
  exact ⟨some ⟨g, 0, none⟩, s.table.length, rfl, (unhide HO2).base (by simp; omega)⟩

set_option maxHeartbeats 1600000 in
theorem toShotS_any (ao : Option Addr) (cap : Nat) (ss : List Snp) (w : World) (hl : ss.length ≤ 1048576) (hm : ∀ s ∈ ss, s.table.length ≤ 1048576) (hc : Sns w ao ss) :
    Calls Try.prog 37 #[.slice ao ss.length cap] w fun e w' => ∃ g ts, e = .returned (.slice (some ⟨g, 0, none⟩) ss.length ss.length) ∧ ts.length = ss.length ∧ w'.ownsRow w.heap.size 69 2 (.slice (some ⟨g, 0, none⟩) ss.length ss.length) ss.length (snC ss ts) ∧ OwnA w' w.heap.size (ts.zip (ss.map (·.table))) ∧ Below w.heap.size w w' := by
  have HC := hide hc
  have HM := hide hm
  clear hc hm
  obtain ⟨i0, hi, hz0, hz1, hz2⟩ := info_parts infoSh
  go_enter Try.func37, Try.ntmps37
  go_wp2_with (first | (at_make; refine wpList_make_full _ rfl _ _ 28 rfl w.heap.size 69 i0 _ 2 Try.underlying28 hi hz0 hz1 _ _ _ _ ss.length rfl rfl rfl rfl ?c1 ?c2 ?c3 ?_))
  case c1 => rw [hz2]; omega
  case c2 => unfold maxLen; omega
  case c3 => exact Nat.le_refl _
  intro w1 hown hgrow
  have hB : Below w.heap.size w w1 := (Below.refl _ _).grown hgrow (Nat.le_refl _) (fun _ h => by cases h)
  have hsz : w.heap.size + 1 ≤ w1.heap.size := by
    rcases hown.2 with ⟨h, _⟩ | ⟨g, cap, cur, h, _, hg, _⟩
    · cases h
    · cases h
      exact (Array.getElem?_eq_some_iff.1 hg).1
  have HO := hide hown
  have HB := hide hB
  have HZ := hide hsz
  clear hown hB hgrow hsz
  go_wp2
  go_loopw [4] (fun i wr => ∃ (k : Nat) (ys ts : List Value), k ≤ ss.length ∧ i = .int .i64 k ∧ Hid (ys.length = ss.length * 2) ∧ Hid (ts.length = k) ∧ Hid (ys.take (k * 2) = snC (ss.take k) ts) ∧ Hid (wr.ownsRow w.heap.size 69 2 (.slice (some ⟨w.heap.size, 0, none⟩) ss.length ss.length) ss.length ys) ∧ Hid (OwnA wr (w.heap.size + 1) (ts.zip ((ss.take k).map (·.table)))) ∧ Hid (w.heap.size + 1 ≤ wr.heap.size) ∧ Hid (Below w.heap.size w wr)) (fun i _ => ss.length - (intOf i).toNat)
  case atStart => exact ⟨0, _, [], Nat.zero_le _, rfl, hide (by rw [(unhide HO).1]), hide rfl, hide (by simp [snC]), HO, hide (OwnA.nil _ _), HZ, HB⟩
  case round =>
    obtain ⟨k, ys, ts, hk, rfl, HL, HK, HT, HO, HA, HZ, HB⟩ := hrel
    by_cases hlt : k < ss.length
    · obtain ⟨b, off, tq, tc, rfl, hc0, hc1, hd, hz, hm⟩ := (unhide HC).below (unhide HB) k hlt
      have HD := hide hd
      clear hz hm hd
      go_wp2_with fail
      refine (toShot_any ss[k] tq tc _ (unhide HM _ (List.getElem_mem hlt)) (unhide HD)).mono ?_
      rintro e w2 ⟨g, rfl, ho2, hb2⟩
      have HO2 := hide (own_below (unhide HO) hb2)
      have HA2 := hide ((unhide HA).snoc hb2 ho2 (unhide HZ))
      have HZ2 := hide (Nat.le_trans (unhide HZ) hb2.size)
      have HB2 := hide ((unhide HB).trans (hb2.mono (unhide HB).size))
      clear hb2 ho2
      have hf0 := (unhide HO2).frozenAt (k * 2)
      have hf1 := (unhide HO2).frozenAt (k * 2 + 1)
      obtain ⟨x0, hx0⟩ : ∃ x, w2.cell? ⟨w.heap.size, k * 2, none⟩ = some x := ⟨_, ((unhide HO2).cellAt (k * 2) (by omega)).trans (List.getElem?_eq_getElem (by rw [unhide HL]; omega))⟩
      obtain ⟨x1, hx1⟩ : ∃ x, w2.cell? ⟨w.heap.size, k * 2 + 1, none⟩ = some x := ⟨_, ((unhide HO2).cellAt (k * 2 + 1) (by omega)).trans (List.getElem?_eq_getElem (by rw [unhide HL]; omega))⟩
      have HST := hide (sn_put2 (unhide HO2) (k * 2) (k * 2 + 1) (.string ss[k].name) (.slice (some ⟨g, 0, none⟩) ss[k].table.length ss[k].table.length))
      have HBT := hide (sn_below2 (unhide HB2) (Nat.le_refl _) (k * 2) (k * 2 + 1) (.string ss[k].name) (.slice (some ⟨g, 0, none⟩) ss[k].table.length ss[k].table.length))
      have HAT := hide (((unhide HA2).setCell (a := ⟨w.heap.size, k * 2, none⟩) (Nat.lt_succ_self _) (.string ss[k].name)).setCell (a := ⟨w.heap.size, k * 2 + 1, none⟩) (Nat.lt_succ_self _) (.slice (some ⟨g, 0, none⟩) ss[k].table.length ss[k].table.length))
      rw [← sn_zip hlt (unhide HK)] at HAT
      go_wp2
      go_roundw
      case rel => exact ⟨k + 1, _, ts ++ [.slice (some ⟨g, 0, none⟩) ss[k].table.length ss[k].table.length], by omega, by go_num, hide (by rw [List.length_set, List.length_set]; exact unhide HL), hide (by rw [List.length_append, unhide HK]; rfl), hide (sn_take hlt (unhide HL) (unhide HK) (unhide HT) _), HST, HAT, hide (by simpa using unhide HZ2), HBT⟩
      case measure => simp [intOf]; omega
    · go_wp2
      go_ret
      have hkn : k = ss.length := by omega
      subst hkn
      have hxs : ys = snC ss ts := by
        have := unhide HT
        rwa [List.take_of_length_le (by rw [unhide HL]; exact Nat.le_refl _), List.take_of_length_le (Nat.le_refl _)] at this
      subst hxs
      have ha := unhide HA
      rw [List.take_of_length_le (Nat.le_refl _)] at ha
      exact ⟨_, ts, rfl, unhide HK, unhide HO, ha.base (Nat.le_succ _), unhide HB⟩

/-- Three of them, one behind another, as a guest's copy has them. -/
structure VarG3 (w0 w : World) (a0 a1 v0 v1 : Value) : Prop where
  a : VarG w w0.heap.size 25 a0 a1
  r : VarG w (w0.heap.size + 1) 30 (.slice none 0 0) (.slice none 0 0)
  o : VarG w (w0.heap.size + 1 + 1) 30 v0 v1
  b : Below w0.heap.size w0 w
theorem VarG3.new (w : World) (a0 a1 : Value) : VarG3 w (((w.alloc (.cells #[a0, a1] 25)).alloc (.cells #[.slice none 0 0, .slice none 0 0] 30)).alloc (.cells #[.slice none 0 0, .slice none 0 0] 30)) a0 a1 (.slice none 0 0) (.slice none 0 0) :=
  ⟨((VarG.new w _ _ _).below (Joins.below_alloc1 _ _)).below (Joins.below_alloc1 _ _), ((VarG.new (w.alloc _) _ _ _).below (Joins.below_alloc1 _ _)).at (by simp), (VarG.new ((w.alloc _).alloc _) _ _ _).at (by simp), Joins.below_alloc3 w _ _ _⟩
theorem VarG3.below {w0 w w' : World} {a0 a1 v0 v1 : Value} (h : VarG3 w0 w a0 a1 v0 v1) (hb : Below w.heap.size w w') : VarG3 w0 w' a0 a1 v0 v1 := ⟨h.a.below hb, h.r.below hb, h.o.below hb, h.b.trans (hb.mono h.b.size)⟩
theorem VarG3.set0 {w0 w : World} {a0 a1 v0 v1 : Value} (h : VarG3 w0 w a0 a1 v0 v1) (u : Value) : VarG3 w0 (w.setCell ⟨w0.heap.size + 1 + 1, 0, none⟩ u) a0 a1 u v1 := ⟨h.a.other (by simp; omega) u, h.r.other (by simp) u, h.o.set0 u, h.b.setCell (p := ⟨w0.heap.size + 1 + 1, 0, none⟩) (by simp; omega) u⟩
theorem VarG3.lt {w0 w : World} {a0 a1 v0 v1 : Value} (h : VarG3 w0 w a0 a1 v0 v1) : w0.heap.size + 3 ≤ w.heap.size := h.o.lt

set_option maxHeartbeats 3200000 in
theorem toGuest_any (a : Gs4) (g : Gst) (w : World) (hv : g.vals.length ≤ 1048576) (hs : g.shots.length ≤ 1048576) (hm : ∀ s ∈ g.shots, s.table.length ≤ 1048576) (hc : GsS w a g) :
    Calls Try.prog 10 #[gsV a g] w fun e w' => ∃ a' ts, e = .returned (gsV a' g) ∧ OwnGs w' w.heap.size a' g ts ∧ Below w.heap.size w w' := by
  have HV0 := hide (VarG3.new w (.slice a.vo g.vals.length a.vc) (.slice a.so g.shots.length a.sc))
  have HC := hide hc
  have HM := hide hm
  have HR := hide hv
  have HS := hide hs
  clear hc hm hv hs
  go_enter Try.func10, Try.ntmps10
  go_wp2_with fail
  refine (toIntS_any a.vo a.vc g.vals _ (unhide HR) ((unhide HC).below (unhide HV0).b).v).mono ?_
  rintro e w1 ⟨g1, rfl, ho1, hb1⟩
  have HA1 := hide (OwnA.one (B := w.heap.size + 3) ⟨_, _, rfl, (OwnR.of ho1 (fun e => ⟨_, by rw [e]⟩)).base (unhide HV0).lt⟩)
  have HV1 := hide ((unhide HV0).below hb1)
  clear ho1 hb1 HV0
  obtain ⟨ca0p, ca1p⟩ := (unhide HV1).a.cells
  obtain ⟨cr0p, cr1p⟩ := (unhide HV1).r.cells
  obtain ⟨co0p, co1p⟩ := (unhide HV1).o.cells
  obtain ⟨fo0p, fo1p⟩ := (unhide HV1).o.free
  obtain ⟨fr0p, fr1p⟩ := (unhide HV1).r.free
  have HV1s := hide ((unhide HV1).set0 (.slice (some ⟨g1, 0, none⟩) g.vals.length g.vals.length))
  have HA1s := hide ((unhide HA1).setCell (a := ⟨w.heap.size + 1 + 1, 0, none⟩) (by simp) (.slice (some ⟨g1, 0, none⟩) g.vals.length g.vals.length))
  clear HV1 HA1
  go_wp2_with fail
  refine (toShotS_any a.so a.sc g.shots _ (unhide HS) (unhide HM) ((unhide HC).below (unhide HV1s).b).s).mono ?_
  rintro e w3 ⟨g3, ts, rfl, hts, ho3, ha3, hb3⟩
  have HA3 := hide ((unhide HA1s).append hb3 ha3 (unhide HV1s).lt)
  have HO3 := hide ((OwnR.of ho3 (fun e => ⟨_, by rw [e]⟩)).base (unhide HV1s).lt)
  have HV3 := hide ((unhide HV1s).below hb3)
  have HTS := hide hts
  clear ho3 hb3 ha3 hts HV1s HA1s
  clear ca0p ca1p cr0p cr1p co0p co1p fo0p fo1p fr0p fr1p
  obtain ⟨ca0s, ca1s⟩ := (unhide HV3).a.cells
  obtain ⟨cr0s, cr1s⟩ := (unhide HV3).r.cells
  obtain ⟨co0s, co1s⟩ := (unhide HV3).o.cells
  obtain ⟨fo0s, fo1s⟩ := (unhide HV3).o.free
  obtain ⟨fr0s, fr1s⟩ := (unhide HV3).r.free
  have HA5 := hide ((((unhide HA3).setCell (a := ⟨w.heap.size + 1 + 1, 1, none⟩) (by simp; try omega) (.slice (some ⟨g3, 0, none⟩) g.shots.length g.shots.length)).setCell (a := ⟨w.heap.size + 1, 0, none⟩) (by simp; try omega) (.slice (some ⟨g1, 0, none⟩) g.vals.length g.vals.length)).setCell (a := ⟨w.heap.size + 1, 1, none⟩) (by simp; try omega) (.slice (some ⟨g3, 0, none⟩) g.shots.length g.shots.length))
  have HO5 := hide ((((unhide HO3).setCell (a := ⟨w.heap.size + 1 + 1, 1, none⟩) (by simp; try omega) (.slice (some ⟨g3, 0, none⟩) g.shots.length g.shots.length)).setCell (a := ⟨w.heap.size + 1, 0, none⟩) (by simp; try omega) (.slice (some ⟨g1, 0, none⟩) g.vals.length g.vals.length)).setCell (a := ⟨w.heap.size + 1, 1, none⟩) (by simp; try omega) (.slice (some ⟨g3, 0, none⟩) g.shots.length g.shots.length))
  have HB5 := hide ((((unhide HV3).b.setCell (p := ⟨w.heap.size + 1 + 1, 1, none⟩) (by simp; try omega) (.slice (some ⟨g3, 0, none⟩) g.shots.length g.shots.length)).setCell (p := ⟨w.heap.size + 1, 0, none⟩) (by simp; try omega) (.slice (some ⟨g1, 0, none⟩) g.vals.length g.vals.length)).setCell (p := ⟨w.heap.size + 1, 1, none⟩) (by simp; try omega) (.slice (some ⟨g3, 0, none⟩) g.shots.length g.shots.length))
  clear HV3 HA3 HO3
  go_wp2
  refine bodyPost_ret (v := gsV ⟨some ⟨g1, 0, none⟩, g.vals.length, some ⟨g3, 0, none⟩, g.shots.length⟩ g) (by simp [results, Try.results10, go_sem, cr0s, cr1s]) rfl ⟨⟨some ⟨g1, 0, none⟩, g.vals.length, some ⟨g3, 0, none⟩, g.shots.length⟩, ts, rfl, ?_, unhide HB5⟩
  exact ⟨(unhide HTS).symm, ((unhide HO5).base (by omega)).toS, (unhide HA5).base (by omega)⟩

end Go.Proofs.Ythnpooffhopnkaa

/- Contracts of the laws' marks on guests: markShotS, heldShotS, markGuest, heldGuest. (Written by gens/shot.py.) -/
namespace Go.Proofs.Ythnpooffhopnkaa
open Go.RowKit
set_option linter.unusedVariables false
set_option maxRecDepth 100000

set_option maxHeartbeats 3200000 in
theorem markShotS_any (v : Value) (k B : Nat) (ss : List Snp) (ts : List Value) (w : World) (hn : ss.length ≤ 4194304) (hm : ∀ s ∈ ss, s.table.length ≤ 4194304) (hk0 : 0 < k) (hk1 : k + snK ss ≤ 268435456) (hl : ss.length = ts.length)
    (ho : OwnS w B 69 2 v ss.length (snC ss ts)) (ha : OwnA w B (ts.zip (ss.map (·.table)))) :
    Calls Try.prog 45 #[v, .int .i64 k] w fun e w' => e = .returned (.int .i64 ((k + snK ss : Nat) : Int)) ∧ OwnS w' B 69 2 v ss.length (snC (mkSn k ss) ts) ∧ OwnA w' B (ts.zip ((mkSn k ss).map (·.table))) ∧ Keep (fun g => Own v g ∨ ∃ t ∈ ts, Own t g) w w' := by
  rcases Nat.eq_zero_or_pos ss.length with h0 | hpos
  · have e0 : ss = [] := List.eq_nil_of_length_eq_zero h0
    subst e0
    rcases ho with ⟨_, _, ao, c0, rfl⟩ | ⟨h, _⟩
    · go_enter Try.func45, Try.ntmps45
      go_wp2
      refine wp_loop_rounds 1 ?_
      rw [rounds_succ]
      go_wp2
      go_ret
      exact ⟨ret_int (by simp [snK]), .inl ⟨rfl, by simp [mkSn, snC], ao, c0, rfl⟩, ha, Keep.refl _ _⟩
    · simp at h
  · obtain ⟨g, cap, cur, rfl, _, _⟩ := own_form hpos (ho.row hpos)
    have HO := hide (ho.toR (fun h => absurd h (by omega)))
    have HA := hide ha
    have HM := hide hm
    have HK1 := hide hk1
    have HLL := hide hl
    clear ho ha hm hk1 hl
    go_enter Try.func45, Try.ntmps45
    go_wp2
    go_loopw [1, 5] (fun kk i wr => ∃ (j : Nat), j ≤ ss.length ∧ i = .int .i64 j ∧ kk = .int .i64 ((k + snK (ss.take j) : Nat) : Int) ∧ Hid (OwnR wr B 69 2 (.slice (some ⟨g, 0, none⟩) ss.length cap) ss.length (snC (snMid k ss j) ts)) ∧ Hid (OwnA wr B (ts.zip ((snMid k ss j).map (·.table)))) ∧ Hid (Keep (fun x => Own (.slice (some ⟨g, 0, none⟩) ss.length cap) x ∨ ∃ t ∈ ts, Own t x) w wr)) (fun _ i _ => ss.length - (intOf i).toNat)
    case atStart => exact ⟨0, Nat.zero_le _, rfl, by simp [snK], by rw [snMid_zero]; exact HO, by rw [snMid_zero]; exact HA, hide (Keep.refl _ _)⟩
    case round =>
      obtain ⟨j, hj, rfl, rfl, HO, HA, HK⟩ := hrel
      by_cases hlt : j < ss.length
      · have HJ := hide (snK_take hlt)
        have HJL := hide (snK_le ss (j + 1))
        obtain ⟨q, hq, hq0, hqb⟩ : ∃ q : Nat, q = k + snK (ss.take j) ∧ 0 < q ∧ q + 1 + ss[j].table.length ≤ 268435456 := ⟨_, rfl, by omega, by have a := unhide HJ; have b := unhide HJL; have c := unhide HK1; omega⟩
        rw [← hq]
        have HQ := hide hq
        clear hq
        have hlj : j < ts.length := by rw [← unhide HLL]; exact hlt
        have hmj : ss[j].table.length ≤ 4194304 := unhide HM _ (List.getElem_mem hlt)
        have HRJ := hide (show (ts.zip ((snMid k ss j).map (·.table)))[j]? = some (ts[j], ss[j].table) by
          rw [List.getElem?_zip_eq_some]
          exact ⟨List.getElem?_eq_getElem hlj, by rw [List.getElem?_map, snMid_get hlt]; rfl⟩)
        go_wp2_with fail
        refine (markText_any q _ (by omega) (by omega)).mono ?_
        rintro e w2 ⟨rfl, hb2⟩
        have HO2 := hide ((unhide HO).below hb2)
        have HA2 := hide ((unhide HA).below hb2)
        have HK2 := hide ((unhide HK).trans (Keep.of_below hb2))
        clear hb2
        obtain ⟨qo, qa, hts, hrow⟩ := (unhide HA2).own _ (List.mem_of_getElem? (unhide HRJ))
        simp only at hts
        have HTS := hide hts
        have hcell := ((unhide HO2).row hpos).cellAt
        have hgs := snC_get (snMid_get (k := k) hlt) (List.getElem?_eq_getElem hlj)
        have hx0 : w2.cell? ⟨g, j * 2, none⟩ = some (.string ss[j].name) := (hcell (j * 2) (by omega)).trans hgs.1
        have hx1 : w2.cell? ⟨g, j * 2 + 1, none⟩ = some (.slice qo ss[j].table.length qa) := (hcell (j * 2 + 1) (by omega)).trans (by rw [hgs.2, hts])
        have hf0 := ((unhide HO2).row hpos).frozenAt (j * 2)
        clear hcell hgs hts hrow
        have HOS : Hid (OwnR (w2.setCell ⟨g, j * 2, none⟩ (.string (mtB q))) B 69 2 (.slice (some ⟨g, 0, none⟩) ss.length cap) ss.length (snC (snMid k ss (j + 1)) ts)) := hide (by
          rw [← snMid_succ hlt, snC_set _ _ _ _ hlj, ← unhide HQ]
          exact .inr ⟨hpos, (((unhide HO2).row hpos).stored (j * 2) (.string (mtB q))).1⟩)
        have HAS := hide ((unhide HA2).keep (S := fun x => x = g) ((Keep.refl (fun x => x = g) w2).setCell (p := ⟨g, j * 2, none⟩) rfl (.string (mtB q))) (fun r hr x hx he => by
          obtain ⟨_, _, e, hr'⟩ := (unhide HA2).own r hr
          rw [e] at hx
          exact own_apart (unhide HO2) hr' (by decide) x (own_of hpos he.symm) hx))
        have HKS := hide ((unhide HK2).setCell (p := ⟨g, j * 2, none⟩) (.inl (own_of hpos rfl)) (.string (mtB q)))
        obtain ⟨ro, rc, hre, hrow⟩ := (unhide HAS).own _ (List.mem_of_getElem? (unhide HRJ))
        simp only at hre hrow
        have hee : Value.slice qo ss[j].table.length qa = .slice ro ss[j].table.length rc := (unhide HTS).symm.trans hre
        rw [← hee] at hrow
        have HW := hide hrow
        clear hrow hre hee
        go_wp2_with fail
        refine (markIntS_any (.slice qo ss[j].table.length qa) ss[j].table.length (q + 1) _ B _ hmj (by omega) (by omega) (unhide HW)).mono ?_
        rintro e w4 ⟨rfl, ho4, hk4⟩
        have HA4 : Hid (OwnA w4 B (ts.zip ((snMid k ss (j + 1)).map (·.table)))) := hide (by
          rw [← snMid_succ hlt, zip_set1 _ _ _ _ _ (List.getElem?_eq_getElem hlj), ← unhide HQ]
          refine (unhide HAS).turn (unhide HRJ) (by rw [unhide HTS]; exact hk4) ?_
          rw [unhide HTS]
          exact ⟨qo, qa, by simp [mk1, mkN_length], by simpa only [mk1, mkN_length] using ho4⟩)
        have HO4 := hide ((unhide HOS).keep hk4 (own_apart (unhide HOS) (unhide HW) (by decide)))
        have HK4 := hide ((unhide HKS).trans (hk4.mono (fun x hx => Or.inr ⟨ts[j], List.getElem_mem hlj, by rw [unhide HTS]; exact hx⟩)))
        have hqn : q + 1 + ss[j].table.length = k + snK (ss.take (j + 1)) := by rw [unhide HJ, unhide HQ]; omega
        clear ho4 hk4
        go_wp2
        go_roundw
        case rel => exact ⟨j + 1, by omega, by go_num, by go_num, HO4, HA4, HK4⟩
        case measure => simp [intOf]; omega
      · have hjn : j = ss.length := by omega
        subst hjn
        have ho := unhide HO
        have ha := unhide HA
        rw [snMid_all] at ho ha
        have HO' := hide ho
        have HA' := hide ha
        have he : snK (ss.take ss.length) = snK ss := by rw [List.take_length]
        clear ho ha
        go_wp2
        go_ret
        exact ⟨by rw [he]; rfl, (unhide HO').toS, unhide HA', unhide HK⟩

set_option maxHeartbeats 3200000 in
theorem heldShotS_any (v : Value) (k B : Nat) (ss : List Snp) (ts : List Value) (w : World) (hn : ss.length ≤ 4194304) (hm : ∀ s ∈ ss, s.table.length ≤ 4194304) (hk0 : 0 < k) (hk1 : k + snK ss ≤ 268435456) (hl : ss.length = ts.length)
    (ho : OwnS w B 69 2 v ss.length (snC (mkSn k ss) ts)) (ha : OwnA w B (ts.zip ((mkSn k ss).map (·.table)))) :
    Calls Try.prog 47 #[v, .int .i64 k] w fun e w' => e = .returned (.int .i64 ((k + snK ss : Nat) : Int)) ∧ Below w.heap.size w w' := by
  rcases Nat.eq_zero_or_pos ss.length with h0 | hpos
  · have e0 : ss = [] := List.eq_nil_of_length_eq_zero h0
    subst e0
    rcases ho with ⟨_, _, ao, c0, rfl⟩ | ⟨h, _⟩
    · go_enter Try.func47, Try.ntmps47
      go_wp2
      refine wp_loop_rounds 1 ?_
      rw [rounds_succ]
      go_wp2
      go_ret
      exact ⟨ret_int (by simp [snK]), Below.refl _ _⟩
    · simp at h
  · obtain ⟨g, cap, cur, rfl, _, _⟩ := own_form hpos (ho.row hpos)
    have HO := hide (ho.toR (fun h => absurd h (by omega)))
    have HA := hide ha
    have HM := hide hm
    have HK1 := hide hk1
    have HLL := hide hl
    clear ho ha hm hk1 hl
    go_enter Try.func47, Try.ntmps47
    go_wp2
    go_loopw [1, 5] (fun kk i wr => ∃ (j : Nat), j ≤ ss.length ∧ i = .int .i64 j ∧ kk = .int .i64 ((k + snK (ss.take j) : Nat) : Int) ∧ Hid (Below w.heap.size w wr)) (fun _ i _ => ss.length - (intOf i).toNat)
    case atStart => exact ⟨0, Nat.zero_le _, rfl, by simp [snK], hide (Below.refl _ _)⟩
    case round =>
      obtain ⟨j, hj, rfl, rfl, HB⟩ := hrel
      by_cases hlt : j < ss.length
      · have HJ := hide (snK_take hlt)
        have HJL := hide (snK_le ss (j + 1))
        have HG := hide (mkSn_get (k := k) hlt)
        obtain ⟨q, hq, hq0, hqb⟩ : ∃ q : Nat, q = k + snK (ss.take j) ∧ 0 < q ∧ q + 1 + ss[j].table.length ≤ 268435456 := ⟨_, rfl, by omega, by have a := unhide HJ; have b := unhide HJL; have c := unhide HK1; omega⟩
        rw [← hq] at HG ⊢
        have HQ := hide hq
        clear hq
        have hlj : j < ts.length := by rw [← unhide HLL]; exact hlt
        have hmj : ss[j].table.length ≤ 4194304 := unhide HM _ (List.getElem_mem hlt)
        have HRJ := hide (show (ts.zip ((mkSn k ss).map (·.table)))[j]? = some (ts[j], mkN (q + 1) ss[j].table.length) by
          rw [List.getElem?_zip_eq_some]
          exact ⟨List.getElem?_eq_getElem hlj, by rw [List.getElem?_map, unhide HG]; rfl⟩)
        have HOr := hide ((unhide HO).below (unhide HB |>.mono (Nat.le_refl _)))
        have hgs := snC_get (unhide HG) (List.getElem?_eq_getElem hlj)
        have hx0 : wr.cell? ⟨g, j * 2, none⟩ = some (.string (mtB q)) := (((unhide HOr).row hpos).cellAt (j * 2) (by omega)).trans hgs.1
        clear hgs
        have hgl : g < wr.heap.size := World.block_lt_of_cell? _ _ hx0
        go_wp2
        go_region_with (go_at_call 78; refine (markText_any q _ hq0 (by omega)).mono ?_; rintro e w2 ⟨rfl, hb2⟩; have hcy := (hb2.cell (p := ⟨g, j * 2, none⟩) hgl).trans hx0)
        all_goals
          have HB2 : Hid (Below w.heap.size w w2) := hide (Below.trans (by repeat (first | exact unhide HB | apply Below.drew)) (hb2.mono (unhide HB).size))
          have HO2 := hide ((unhide HO).below (unhide HB2))
          have HA2 := hide ((unhide HA).below (unhide HB2))
          clear hb2 hcy hx0 hgl
          obtain ⟨qo, qa, hts, hrow⟩ := (unhide HA2).own _ (List.mem_of_getElem? (unhide HRJ))
          simp only [mkN_length] at hts hrow
          have HW := hide hrow
          have hgs := snC_get (unhide HG) (List.getElem?_eq_getElem hlj)
          have hx1 : w2.cell? ⟨g, j * 2 + 1, none⟩ = some (.slice qo ss[j].table.length qa) := (((unhide HO2).row hpos).cellAt (j * 2 + 1) (by omega)).trans (by rw [hgs.2, hts])
          clear hgs hts hrow
          go_wp2_with fail
          refine (heldIntS_any (.slice qo ss[j].table.length qa) ss[j].table.length (q + 1) B _ hmj (by omega) (by omega) (unhide HW)).mono ?_
          rintro e w4 ⟨rfl, hb4⟩
          have HB4 := hide ((unhide HB2).trans (hb4.mono (unhide HB2).size))
          have HQN : Hid (q + 1 + ss[j].table.length = k + snK (ss.take (j + 1))) := hide (by rw [unhide HJ, unhide HQ]; omega)
          clear hb4 hx1
          go_wp2
          go_roundw
          case rel => exact ⟨j + 1, by omega, by go_num, by rw [← unhide HQN]; go_num, HB4⟩
          case measure => simp [intOf]; omega
      · have hjn : j = ss.length := by omega
        subst hjn
        have he : snK (ss.take ss.length) = snK ss := by rw [List.take_length]
        go_wp2
        go_ret
        exact ⟨by rw [he]; rfl, unhide HB⟩

/-- A guest that was marked, and how many marks it takes. -/
def mkGs (k : Nat) (g : Gst) : Gst := ⟨mkN k g.vals.length, mkSn (k + g.vals.length) g.shots⟩
def gsK (g : Gst) : Nat := g.vals.length + snK g.shots

set_option maxHeartbeats 3200000 in
theorem markGuest_any (a : Gs4) (g : Gst) (ts : List Value) (k B : Nat) (w : World) (hv : g.vals.length ≤ 1048576) (hsn : g.shots.length ≤ 1048576) (hm : ∀ s ∈ g.shots, s.table.length ≤ 1048576) (hsk : snK g.shots ≤ 4194304) (hk0 : 0 < k) (hk1 : k ≤ 16777216) (ho : OwnGs w B a g ts) :
    Calls Try.prog 15 #[gsV a g, .int .i64 k] w fun e w' => e = .returned (.int .i64 ((k + gsK g : Nat) : Int)) ∧ OwnGs w' B a (mkGs k g) ts ∧ Keep (GsB a g ts) w w' := by
  have HA := hide (Joins.below_alloc1 w (.cells #[.slice a.vo g.vals.length a.vc, .slice a.so g.shots.length a.sc] 30))
  have HX := hide (heap_alloc_new w (.cells #[.slice a.vo g.vals.length a.vc, .slice a.so g.shots.length a.sc] 30))
  have HO := hide (ho.below (unhide HA))
  have HM := hide hm
  have HLN := hide ho.len
  have HR : Hid (OwnA _ B (gsRows a g ts)) := hide (unhide HO).rows
  have HS := hide (unhide HO).s
  clear ho hm
  have H0 := hide (unhide HR |>.own _ (List.mem_cons_self)).row
  go_enter Try.func15, Try.ntmps15
  go_wp2_with fail
  refine (markIntS_any _ g.vals.length k _ B _ (by omega) hk0 (by omega) (unhide H0)).mono ?_
  rintro e w1 ⟨rfl, ho1, hk1'⟩
  have HR1 := hide ((unhide HR).turn (j := 0) rfl hk1' (OwnN.mk' ho1 (mkN_length _ _)))
  have HS1 := hide ((unhide HS).keep hk1' (own_apartT (unhide HS) (unhide H0) (by decide)))
  have hX1 : w1.heap[w.heap.size]? = _ := (hk1'.block _ (by simp) ((unhide H0).other (unhide HX) (by decide))).trans (unhide HX)
  have HX1 := hide hX1
  have hc1 : w1.cell? ⟨w.heap.size, 1, none⟩ = some (.slice a.so g.shots.length a.sc) := by rw [Joins.cell_of_block hX1]; rfl
  have HK1 := hide (Keep.trans (S := GsB a g ts) (Keep.of_below (unhide HA)) (hk1'.mono (fun x h => .inl h)))
  clear ho1 hk1' hX1
  have HR1' : Hid (OwnA w1 B ((.slice a.vo g.vals.length a.vc, mkN k g.vals.length) :: ts.zip (g.shots.map (·.table)))) := hide (unhide HR1)
  have HT1 : Hid (OwnA w1 B (ts.zip (g.shots.map (·.table)))) := hide ⟨fun r hr => (unhide HR1').own r (by simp [hr]), by have := (unhide HR1').apart; simp only [List.pairwise_cons] at this; exact this.2⟩
  go_wp2_with fail
  refine (markShotS_any _ (k + g.vals.length) B g.shots ts _ (by omega) (fun s hs => by have := unhide HM s hs; omega) (by omega) (by omega) (unhide HLN) (unhide HS1) (unhide HT1)).mono ?_
  rintro e w3 ⟨rfl, ho3, ha3, hk3⟩
  have HR3 : Hid (OwnA w3 B ((.slice a.vo g.vals.length a.vc, mkN k g.vals.length) :: ts.zip ((mkSn (k + g.vals.length) g.shots).map (·.table)))) := hide (by
    have hz : ∀ qs : List Snp, ts.length = qs.length → (ts.zip (qs.map (·.table))).map Prod.fst = ts := fun qs h => zip_fst _ _ (by rw [List.length_map, h])
    have e0 := hz g.shots (unhide HLN).symm
    have e1 := hz (mkSn (k + g.vals.length) g.shots) (by rw [mkSn_length, unhide HLN])
    have hap := (unhide HR1').apart
    simp only [List.pairwise_cons] at hap
    refine ⟨fun r hr => ?_, ?_⟩
    · simp only [List.mem_cons] at hr
      rcases hr with e | hr
      · subst e
        refine ((unhide HR1').own _ (by simp)).keep hk3 (fun x hx hS => ?_)
        rcases hS with hS | ⟨t, ht, hS⟩
        · exact own_apartS ((unhide HR1').own (.slice a.vo g.vals.length a.vc, mkN k g.vals.length) (by simp)).row (unhide HS1) (by decide) x hx hS
        · rw [← e0] at ht
          obtain ⟨p, hp, rfl⟩ := List.mem_map.1 ht
          exact hap.1 p hp x hx hS
      · exact ha3.own r hr
    · simp only [List.pairwise_cons]
      refine ⟨fun r hr x hx hy => ?_, ha3.apart⟩
      have ht : r.1 ∈ ts := by rw [← e1]; exact List.mem_map_of_mem hr
      rw [← e0] at ht
      obtain ⟨p, hp, e⟩ := List.mem_map.1 ht
      exact hap.1 p hp x hx (by rw [e]; exact hy))
  have HS3 := hide ho3
  have HK3 := hide ((unhide HK1).trans (hk3.mono (fun x h => .inr h)))
  clear ho3 ha3 hk3 hc1
  go_wp2
  go_ret
  refine ⟨ret_int (by unfold gsK; omega), ⟨?_, ?_, ?_⟩, unhide HK3⟩
  · simp only [mkGs, mkSn_length]; exact unhide HLN
  · simp only [mkGs, mkSn_length]; exact unhide HS3
  · simp only [gsRows, mkGs, mkN_length]
    exact unhide HR3

set_option maxHeartbeats 3200000 in
theorem heldGuest_any (a : Gs4) (g : Gst) (ts : List Value) (k B : Nat) (w : World) (hv : g.vals.length ≤ 1048576) (hsn : g.shots.length ≤ 1048576) (hm : ∀ s ∈ g.shots, s.table.length ≤ 1048576) (hsk : snK g.shots ≤ 4194304) (hk0 : 0 < k) (hk1 : k ≤ 16777216) (ho : OwnGs w B a (mkGs k g) ts) :
    Calls Try.prog 16 #[gsV a g, .int .i64 k] w fun e w' => e = .returned (.int .i64 ((k + gsK g : Nat) : Int)) ∧ Below w.heap.size w w' := by
  have HA := hide (Joins.below_alloc1 w (.cells #[.slice a.vo g.vals.length a.vc, .slice a.so g.shots.length a.sc] 30))
  have HX := hide (heap_alloc_new w (.cells #[.slice a.vo g.vals.length a.vc, .slice a.so g.shots.length a.sc] 30))
  have HO := hide (ho.below (unhide HA))
  have HM := hide hm
  have HLN : Hid (g.shots.length = ts.length) := hide (by have := ho.len; simpa only [mkGs, mkSn_length] using this)
  have HR : Hid (OwnA _ B (gsRows a (mkGs k g) ts)) := hide (unhide HO).rows
  have HS : Hid (OwnS _ B 69 2 (.slice a.so g.shots.length a.sc) g.shots.length (snC (mkSn (k + g.vals.length) g.shots) ts)) := hide (by have := (unhide HO).s; simpa only [mkGs, mkSn_length] using this)
  have H0 : Hid (OwnR _ B 3 1 (.slice a.vo g.vals.length a.vc) g.vals.length (intV (mkN k g.vals.length))) := hide (by have := (unhide HR |>.own _ (List.mem_cons_self)).row; simpa only [mkGs, mkN_length] using this)
  have HT : Hid (OwnA _ B (ts.zip ((mkSn (k + g.vals.length) g.shots).map (·.table)))) := hide ⟨fun r hr => (unhide HR).own r (by simp [gsRows, mkGs, hr]), by have := (unhide HR).apart; simp only [gsRows, List.pairwise_cons] at this; exact this.2⟩
  clear ho hm
  go_enter Try.func16, Try.ntmps16
  go_wp2_with fail
  refine (heldIntS_any _ g.vals.length k B _ (by omega) hk0 (by omega) (unhide H0)).mono ?_
  rintro e w1 ⟨rfl, hb1⟩
  have hX1 := blk_belowI (unhide HX) hb1
  have hc1 : w1.cell? ⟨w.heap.size, 1, none⟩ = some (.slice a.so g.shots.length a.sc) := by rw [Joins.cell_of_block hX1]; rfl
  have HB1 := hide (fr (unhide HA) hb1)
  have HS1 := hide ((unhide HS).below hb1)
  have HT1 := hide ((unhide HT).below hb1)
  clear hb1 hX1
  go_wp2_with fail
  refine (heldShotS_any _ (k + g.vals.length) B g.shots ts _ (by omega) (fun s hs => by have := unhide HM s hs; omega) (by omega) (by omega) (unhide HLN) (unhide HS1) (unhide HT1)).mono ?_
  rintro e w3 ⟨rfl, hb3⟩
  have HB3 := hide (fr (unhide HB1) hb3)
  clear hb3 hc1
  go_wp2
  go_ret
  exact ⟨ret_int (by unfold gsK; omega), unhide HB3⟩

end Go.Proofs.Ythnpooffhopnkaa

/- What the laws over guests carry along. -/
namespace Go.Proofs.Ythnpooffhopnkaa
open Go.RowKit
set_option linter.unusedVariables false
set_option maxRecDepth 100000

/-- How great a guest's lists are, for marks. -/
structure GsBd (g : Gst) : Prop where
  v : g.vals.length ≤ 1048576
  s : g.shots.length ≤ 1048576
  st : ∀ s ∈ g.shots, s.table.length ≤ 1048576 ∧ s.name.size ≤ 1048576
  k : snK g.shots ≤ 4194304
theorem GsBd.of {g : Gst} (h : gsSz g ≤ 1048576) : GsBd g := by
  unfold gsSz at h
  refine ⟨by omega, by omega, fun s hs => ?_, ?_⟩
  · obtain ⟨i, hi, rfl⟩ := List.mem_iff_getElem.1 hs
    have := sn_le hi
    unfold sn1 at this
    omega
  · have := snK_sz g.shots
    omega
theorem GsBd.zs {g : Gst} (h : GsBd g) : ∀ s ∈ g.shots, s.name.size ≤ maxLen ∧ s.table.length ≤ maxLen := fun s hs => by have := h.st s hs; unfold maxLen; omega
theorem GsBd.L {g : Gst} (h : GsBd g) : GsL g := ⟨by have := h.v; unfold maxLen; omega, by have := h.s; unfold maxLen; omega⟩
theorem snm_size {t : ByteArray} (h : snmB t = true) : t.size ≤ 6 := by
  simp only [snmB, Bool.and_eq_true] at h
  have := betw_iff.1 h.2
  omega
theorem GsBd.R {g : Gst} (h : GsR g) : GsBd g := by
  have hst : ∀ s ∈ g.shots, s.table.length ≤ 12 ∧ s.name.size ≤ 6 := fun s hs => ⟨(h.s s hs).2.1, snm_size (h.s s hs).1⟩
  refine ⟨by have := h.v; omega, by have := h.few; omega, fun s hs => by have := hst s hs; omega, ?_⟩
  have : ∀ ss : List Snp, (∀ s ∈ ss, s.table.length ≤ 12 ∧ s.name.size ≤ 6) → snK ss ≤ 13 * ss.length := by
    intro ss
    induction ss with
    | nil => intro _; exact Nat.le_refl _
    | cons s ss ih =>
      intro hh
      have h1 := hh s (by simp)
      have h2 := ih (fun s hs => hh s (by simp [hs]))
      simp only [snK, List.map_cons, List.sum_cons, List.length_cons] at h2 ⊢
      omega
  have := this g.shots hst
  have := h.few
  omega
theorem GsBd.zero : GsBd gs0 := ⟨by simp [gs0], by simp [gs0], fun s hs => by simp [gs0] at hs, by simp [gs0, snK]⟩
/-- A variable with a guest of its own, whose rows lie behind a place. -/
structure LwG (W : World) (p n : Nat) (a : Gs4) (g : Gst) (ts : List Value) : Prop where
  v : VarG W p 30 (.slice a.vo g.vals.length a.vc) (.slice a.so g.shots.length a.sc)
  o : OwnGs W n a g ts
  n : n ≤ W.heap.size
theorem LwG.new (W : World) (a : Gs4) (g : Gst) {n : Nat} {ts : List Value} (h : OwnGs W n a g ts) (hn : n ≤ W.heap.size) : LwG (W.alloc (.cells #[.slice a.vo g.vals.length a.vc, .slice a.so g.shots.length a.sc] 30)) W.heap.size n a g ts :=
  ⟨VarG.new W _ _ _, h.below (Joins.below_alloc1 _ _), by simp; omega⟩
theorem LwG.below {W W' : World} {p n : Nat} {a : Gs4} {g : Gst} {ts : List Value} (h : LwG W p n a g ts) (hb : Below W.heap.size W W') : LwG W' p n a g ts := ⟨h.v.below hb, h.o.below hb, Nat.le_trans h.n hb.size⟩
theorem VarG.keepGsI {w w' : World} {B x : Nat} {a : Gs4} {g : Gst} {ts : List Value} {v0 v1 : Value} (hv : VarG w x 30 v0 v1) (h : OwnGs w B a g ts) (hk : Keep (GsB a g ts) w w') : VarG w' x 30 v0 v1 := hv.keepGs h (by decide) (by decide) hk
/-- Another guest's rows are turned. -/
theorem LwG.keep {W W' : World} {p n q n' : Nat} {a b : Gs4} {g g' : Gst} {ts us : List Value} (h : LwG W p n a g ts) (h2 : LwG W q n' b g' us) (hk : Keep (GsB b g' us) W W') (hs : ∀ x, GsB a g ts x → ¬ GsB b g' us x) : LwG W' p n a g ts :=
  ⟨h.v.keepGsI h2.o hk, h.o.keep hk hs, Nat.le_trans h.n hk.size⟩
theorem OwnGs.otherL {w : World} {B x : Nat} {a : Gs4} {g : Gst} {ts : List Value} {v0 v1 : Value} (h : OwnGs w B a g ts) (hv : VarG w x 25 v0 v1) : ¬ GsB a g ts x := h.otherV hv (by decide) (by decide)
theorem toGuest_B (a : Gs4) (g : Gst) (w : World) (h : GsBd g) (hc : GsS w a g) :
    Calls Try.prog 10 #[gsV a g] w fun e w' => ∃ a' ts, e = .returned (gsV a' g) ∧ OwnGs w' w.heap.size a' g ts ∧ Below w.heap.size w w' :=
  toGuest_any a g w h.v h.s (fun s hs => (h.st s hs).1) hc
theorem eqGuest_B (a b : Gs4) (g : Gst) (w : World) (h : GsBd g) (h1 : GsS w a g) (h2 : GsS w b g) :
    Calls Try.prog 12 #[gsV a g, gsV b g] w fun e w' => e = .returned (.bool true) ∧ Below w.heap.size w w' :=
  eqGuest_same a b g w h.L.v h.L.s h1 h2
theorem markGuest_B (a : Gs4) (g : Gst) (ts : List Value) (B : Nat) (w : World) (h : GsBd g) (ho : OwnGs w B a g ts) :
    Calls Try.prog 15 #[gsV a g, .int .i64 1] w fun e w' => e = .returned (.int .i64 ((1 + gsK g : Nat) : Int)) ∧ OwnGs w' B a (mkGs 1 g) ts ∧ Keep (GsB a g ts) w w' :=
  markGuest_any a g ts 1 B w h.v h.s (fun s hs => (h.st s hs).1) h.k (by omega) (by omega) ho
theorem heldGuest_B (a : Gs4) (g : Gst) (ts : List Value) (B : Nat) (w : World) (h : GsBd g) (ho : OwnGs w B a (mkGs 1 g) ts) :
    Calls Try.prog 16 #[gsV a g, .int .i64 1] w fun e w' => e = .returned (.int .i64 ((1 + gsK g : Nat) : Int)) ∧ Below w.heap.size w w' :=
  heldGuest_any a g ts 1 B w h.v h.s (fun s hs => (h.st s hs).1) h.k (by omega) (by omega) ho
/-- An answer: a guest of its own and a code. -/
def AnsG (w w' : World) (e : Ending) (R : Gst × Int) : Prop := ∃ a ts, e = .returned (.tuple #[gsV a R.1, .int .i64 R.2]) ∧ OwnGs w' w.heap.size a R.1 ts ∧ Below w.heap.size w w'
theorem AnsG.of {w w' : World} {v : Value} {c : Int} {R : Gst × Int} {a : Gs4} {ts : List Value} (hv : v = gsV a R.1) (hc : c = R.2) (ho : OwnGs w' w.heap.size a R.1 ts) (hb : Below w.heap.size w w') : AnsG w w' (.returned (.tuple #[v, .int .i64 c])) R := ⟨a, ts, by rw [hv, hc], ho, hb⟩
theorem AnsG.bad {w w' : World} (c : Int) (hb : Below w.heap.size w w') : AnsG w w' (.returned (.tuple #[.agg #[.slice none 0 0, .slice none 0 0], .int .i64 c])) (gs0, c) := ⟨⟨none, 0, none, 0⟩, [], rfl, OwnGs.zero _ _, hb⟩

end Go.Proofs.Ythnpooffhopnkaa

/- A region that draws its order, whose operations only read, and whose callees may lay memory of their own: one walk in the order of the text, at the class of worlds behind a given one. -/
namespace Go.Proofs.Ythnpooffhopnkaa
open Go.RowKit
set_option linter.unusedVariables false

section
variable {P : Program} {ops : Array Oper}
abbrev CB (W : World) : World → Prop := fun w => Below W.heap.size W w
theorem quiet_val {W : World} {Q : Act → Prop} {a : Act} {o : Oper} {rest : List Oper} (v : Value) (hg : o.guard = none) (hv : ∀ w, Below W.heap.size W w → (execOp a.eval o).run P w = .ok (.value v) w) (h : wpQuiet P ops (CB W) Q rest (a.put o.dst v)) : wpQuiet P ops (CB W) Q (o :: rest) a := by
  refine wpQuiet_step fun K hK => ?_
  rw [if_pos (by simp [Region.wanted, hg])]
  refine ⟨v, fun w hw => ?_, hK _ h⟩
  unfold Oper.quietAt
  rw [hv w hw]
  exact ⟨rfl, rfl⟩
theorem quiet_call {W : World} {Q : Act → Prop} {a : Act} {o : Oper} {rest : List Oper} (v : Value) (f : FuncId) (args : Array Value) (hg : o.guard = none) (hv : ∀ w, (execOp a.eval o).run P w = .ok (.enter f args) w) (hc : ∀ w, Below W.heap.size W w → Calls P f args w fun e w' => e = .returned v ∧ Below w.heap.size w w') (h : wpQuiet P ops (CB W) Q rest (a.put o.dst v)) : wpQuiet P ops (CB W) Q (o :: rest) a := by
  refine wpQuiet_step fun K hK => ?_
  rw [if_pos (by simp [Region.wanted, hg])]
  refine ⟨v, fun w hw => ?_, hK _ h⟩
  unfold Oper.quietAt
  rw [hv w]
  exact ⟨rfl, (hc w hw).mono fun e w' ⟨he, hb⟩ => ⟨he, fr hw hb⟩⟩
theorem wp_region_cb {id : Nat} {Q : Exit → Act → World → Prop} {a : Act} {w : World} {l : List Oper} (hm : P.follows .mixedOrders = true) (hB : Region.lexB .any l.toArray = true)
    (h : wpQuiet P l.toArray (CB w) (fun a' => ∀ w', Below w.heap.size w w' → Q .normal a' w') l a) : (Code.region id l.toArray true).wp P Q a w :=
  wp_region_quiet (C := CB w) hm hB (Below.refl _ w).drew (by simpa using h)
end

end Go.Proofs.Ythnpooffhopnkaa
