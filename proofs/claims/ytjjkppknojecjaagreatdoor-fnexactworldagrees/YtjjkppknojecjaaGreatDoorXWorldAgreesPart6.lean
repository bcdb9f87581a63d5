import Derived.Test.YtjjkppknojecjaaGreatDoorRows
import Derived.Test.YtjjkppknojecjaaGreatDoorXWorldAgreesPart1
import Derived.Test.YtjjkppknojecjaaGreatDoorXWorldAgreesPart4
import Derived.Test.YtjjkppknojecjaaGreatDoorXWorldAgreesPart5
import Derived.Test.YtjjkppknojecjaaGreatDoorXWorldAgreesPart2
import Derived.WalkKit
import Derived.WalkSpells
import Derived.BigQuiet
import Derived.Deep.QuietTactic
import Derived.Deep.RegionWith
import Derived.Laws.FloatArith
import Derived.KernelRfl
import Derived.WalkLawsBesides
import Derived.Laws.Externs
import Derived.Laws.Bits64b
import Derived.Laws.BitsAllLaws
import Derived.Lib.SmallJoins
import Derived.Deep.RegionHeld3

namespace Go.Proofs.YtjjkppknojecjaaGreatDoor
open Go.RowKit
set_option linter.unusedVariables false
set_option maxRecDepth 100000

set_option maxHeartbeats 1600000 in
theorem eqCfg_same (f d l r : Int) (w : World) : Calls Tryz.prog 26 #[cfgV f d l r, cfgV f d l r] w fun e w' => e = .returned (.bool true) ∧ Below w.heap.size w w' := by
  go_enter Tryz.func26, Tryz.ntmps26
  go_wp2
  go_ret
  exact ⟨rfl, Joins.below_alloc2 _ _ _⟩

structure WlBd (m : Wld) : Prop where
  s : m.ss.length ≤ 1048576
  i : m.xs.length ≤ 1048576
  h : m.hs.length ≤ 1048576
  g : GsBd m.g
  q : m.q.n.size ≤ 1048576

set_option maxHeartbeats 6400000 in
theorem szWorld_any (a : Wl4) (m : Wld) (left : Int) (w : World) (hL : WlL m) (h0 : 0 ≤ left) (h1 : left ≤ 1048576) (hc : WlS w a m) :
    Calls Tryz.prog 4 #[wlV a m, .int .i64 left] w fun e w' => ∃ r : Int, e = .returned (.int .i64 r) ∧ -1 ≤ r ∧ r ≤ left ∧ (0 ≤ r → WlBd m) ∧ Below w.heap.size w w' := by
  have HB0 := hide (Joins.below_alloc1 w (.cells (wlC a m) 36))
  have HV0 := hide (VarW.new w 36 a m)
  have HC0 := hide (hc.below (unhide HB0))
  have HL := hide hL
  clear hc hL
  go_enter Tryz.func4, Tryz.ntmps4
  go_upto_region 1 with fail
  revert HB0 HV0 HC0
  generalize (w.alloc _) = W0
  intro HB0 HV0 HC0
  obtain ⟨c0, c1, _, _, _, _, _, _, _, _, _, _, _, _, _⟩ := (unhide HV0).cells
  go_wp2_with fail
  refine (szDisk_any a.ao a.bo a.ca a.cb m.ss m.xs left _ (unhide HL).s (unhide HL).i (unhide HC0).s (unhide HC0).i h0 h1).mono ?_
  rintro e w1 ⟨r1, rfl, p0, p1, p2, hb⟩
  have HV1 := hide ((unhide HV0).below hb)
  have HC1 := hide ((unhide HC0).below hb)
  have HB1 := hide (fr (unhide HB0) hb)
  clear hb HV0 HC0 HB0 c0 c1
  by_cases n1 : r1 < 0
  · go_wp2
    go_ret
    exact ⟨-1, rfl, by omega, by omega, fun h => absurd h (by omega), unhide HB1⟩
  obtain ⟨_, _, _, _, _, _, c6, _, _, _, _, _, _, _, _⟩ := (unhide HV1).cells
  go_wp2_with fail
  refine (szHostS_any a.ho m.hs.length a.hc r1 _ (by have := (unhide HL).h; unfold maxLen at this; omega) (by omega) (by omega)).mono ?_
  rintro e w2 ⟨r2, rfl, u2, u1, u0, hb⟩
  have HV2 := hide ((unhide HV1).below hb)
  have HC2 := hide ((unhide HC1).below hb)
  have HB2 := hide (fr (unhide HB1) hb)
  clear hb HV1 HC1 HB1 c6
  by_cases n2 : r2 < 0
  · go_wp2
    go_ret
    exact ⟨-1, rfl, by omega, by omega, fun h => absurd h (by omega), unhide HB2⟩
  obtain ⟨_, _, _, _, _, _, _, _, c8, c9, _, _, _, _, _⟩ := (unhide HV2).cells
  go_wp2_with fail
  refine (szGuest_any a.ga m.g r2 _ (unhide HL).g.v (unhide HL).g.s (by omega) (by omega) (unhide HC2).g).mono ?_
  rintro e w3 ⟨r3, rfl, v0, v1, v2, hb⟩
  have HV3 := hide ((unhide HV2).below hb)
  have HC3 := hide ((unhide HC2).below hb)
  have HB3 := hide (fr (unhide HB2) hb)
  clear hb HV2 HC2 HB2 c8 c9
  by_cases n3 : r3 < 0
  · go_wp2
    go_ret
    exact ⟨-1, rfl, by omega, by omega, fun h => absurd h (by omega), unhide HB3⟩
  obtain ⟨_, _, _, _, _, _, _, _, _, _, c10, c11, c12, c13, _⟩ := (unhide HV3).cells
  go_wp2_with fail
  refine (szReq_any m.q r3 _ (unhide HL).q (by omega) (by omega)).mono ?_
  rintro e w4 ⟨r4, rfl, x0, x1, x2, hb⟩
  have HV4 := hide ((unhide HV3).below hb)
  have HC4 := hide ((unhide HC3).below hb)
  have HB4 := hide (fr (unhide HB3) hb)
  clear hb HV3 HC3 HB3 c10 c11 c12 c13
  by_cases n4 : r4 < 0
  · go_wp2
    go_ret
    exact ⟨-1, rfl, by omega, by omega, fun h => absurd h (by omega), unhide HB4⟩
  have y1 := p2 (by omega)
  have y2 := u2 (by omega)
  have y3 := v2 (by omega)
  have y4 := x2 (by omega)
  have HQ : Hid (WlBd m) := hide ⟨by omega, by omega, by omega, GsBd.of (by omega), by omega⟩
  clear p2 u2 v2 x2 y1 y2 y3 y4
  go_wp2
  go_ret
  exact ⟨r4, rfl, by omega, by omega, fun _ => unhide HQ, unhide HB4⟩

set_option maxHeartbeats 6400000 in
theorem eqWorld_same (a b : Wl4) (m : Wld) (w : World) (hL : WlBd m) (h1 : WlS w a m) (h2 : WlS w b m) :
    Calls Tryz.prog 8 #[wlV a m, wlV b m] w fun e w' => e = .returned (.bool true) ∧ Below w.heap.size w w' := by
  have HB0 := hide (Joins.below_alloc2 w (.cells (wlC a m) 50) (.cells (wlC b m) 50))
  have HV0 := hide ((VarW.new w 50 a m).below (Joins.below_alloc1 _ (.cells (wlC b m) 50)))
  have HU0 := hide ((VarW.new (w.alloc (.cells (wlC a m) 50)) 50 b m).at (show _ = w.heap.size + 1 by simp))
  have HX0 := hide (h1.below (unhide HB0))
  have HY0 := hide (h2.below (unhide HB0))
  have HL := hide hL
  clear h1 h2 hL
  have hag : (m.ag != m.ag) = false := by simp
  have htt : (m.t != m.t) = false := by simp
  go_enter Tryz.func8, Tryz.ntmps8
  go_upto_region 1 with fail
  revert HB0 HV0 HU0 HX0 HY0
  generalize ((w.alloc _).alloc _) = W0
  intro HB0 HV0 HU0 HX0 HY0
  obtain ⟨c0, c1, _, _, _, _, _, _, _, _, _, _, _, _, _⟩ := (unhide HV0).cells
  obtain ⟨d0, d1, _, _, _, _, _, _, _, _, _, _, _, _, _⟩ := (unhide HU0).cells
  go_wp2_with fail
  refine (eqDisk_any a.ao a.bo b.ao b.bo a.ca a.cb b.ca b.cb m.ss m.ss m.xs m.xs _ (by have := (unhide HL).s; unfold maxLen; omega) (by have := (unhide HL).i; unfold maxLen; omega) (unhide HX0).s (unhide HX0).i (unhide HY0).s (unhide HY0).i).mono ?_
  rintro e w1 ⟨rfl, hb⟩
  rw [show (eqSB m.ss m.ss && eqWB m.xs m.xs) = true by rw [eqSB_true rfl (fun _ _ _ => rfl), eqWB_true rfl (fun _ _ _ => rfl)]; rfl]
  have HV1 := hide ((unhide HV0).below hb)
  have HU1 := hide ((unhide HU0).below hb)
  have HX1 := hide ((unhide HX0).below hb)
  have HY1 := hide ((unhide HY0).below hb)
  have HB1 := hide (fr (unhide HB0) hb)
  clear hb HV0 HU0 HX0 HY0 HB0 c0 c1 d0 d1
  obtain ⟨_, _, c2, c3, c4, c5, _, _, _, _, _, _, _, _, _⟩ := (unhide HV1).cells
  obtain ⟨_, _, d2, d3, d4, d5, _, _, _, _, _, _, _, _, _⟩ := (unhide HU1).cells
  go_wp2_with fail
  refine (eqCfg_same m.cf m.cd m.cl m.cr _).mono ?_
  rintro e w2 ⟨rfl, hb⟩
  have HV2 := hide ((unhide HV1).below hb)
  have HU2 := hide ((unhide HU1).below hb)
  have HX2 := hide ((unhide HX1).below hb)
  have HY2 := hide ((unhide HY1).below hb)
  have HB2 := hide (fr (unhide HB1) hb)
  clear hb HV1 HU1 HX1 HY1 HB1 c2 c3 c4 c5 d2 d3 d4 d5
  obtain ⟨_, _, _, _, _, _, c6, _, _, _, _, _, _, _, _⟩ := (unhide HV2).cells
  obtain ⟨_, _, _, _, _, _, d6, _, _, _, _, _, _, _, _⟩ := (unhide HU2).cells
  go_wp2_with fail
  refine (eqHostS_same a.ho b.ho a.hc b.hc m.hs _ (unhide HL).h (unhide HX2).h (unhide HY2).h).mono ?_
  rintro e w3 ⟨rfl, hb⟩
  have HV3 := hide ((unhide HV2).below hb)
  have HU3 := hide ((unhide HU2).below hb)
  have HX3 := hide ((unhide HX2).below hb)
  have HY3 := hide ((unhide HY2).below hb)
  have HB3 := hide (fr (unhide HB2) hb)
  clear hb HV2 HU2 HX2 HY2 HB2 c6 d6
  obtain ⟨_, _, _, _, _, _, _, c7, c8, c9, _, _, _, _, _⟩ := (unhide HV3).cells
  obtain ⟨_, _, _, _, _, _, _, d7, d8, d9, _, _, _, _, _⟩ := (unhide HU3).cells
  go_wp2_with fail
  refine (eqGuest_same a.ga b.ga m.g _ (unhide HL).g.L.v (unhide HL).g.L.s (unhide HX3).g (unhide HY3).g).mono ?_
  rintro e w4 ⟨rfl, hb⟩
  have HV4 := hide ((unhide HV3).below hb)
  have HU4 := hide ((unhide HU3).below hb)
  have HX4 := hide ((unhide HX3).below hb)
  have HY4 := hide ((unhide HY3).below hb)
  have HB4 := hide (fr (unhide HB3) hb)
  clear hb HV3 HU3 HX3 HY3 HB3 c7 c8 c9 d7 d8 d9
  obtain ⟨_, _, _, _, _, _, _, _, _, _, c10, c11, c12, c13, _⟩ := (unhide HV4).cells
  obtain ⟨_, _, _, _, _, _, _, _, _, _, d10, d11, d12, d13, _⟩ := (unhide HU4).cells
  go_wp2_with fail
  refine (eqReq_same m.q _).mono ?_
  rintro e w5 ⟨rfl, hb⟩
  have HV5 := hide ((unhide HV4).below hb)
  have HU5 := hide ((unhide HU4).below hb)
  have HX5 := hide ((unhide HX4).below hb)
  have HY5 := hide ((unhide HY4).below hb)
  have HB5 := hide (fr (unhide HB4) hb)
  clear hb HV4 HU4 HX4 HY4 HB4 c10 c11 c12 c13 d10 d11 d12 d13
  obtain ⟨_, _, _, _, _, _, _, _, _, _, _, _, _, _, c14⟩ := (unhide HV5).cells
  obtain ⟨_, _, _, _, _, _, _, _, _, _, _, _, _, _, d14⟩ := (unhide HU5).cells
  go_wp2
  go_ret
  exact ⟨rfl, unhide HB5⟩

structure VarW3 (w0 w : World) (a : Wl4) (m : Wld) (b : Wl4) (n : Wld) : Prop where
  a : VarW w w0.heap.size 36 a m
  r : VarW w (w0.heap.size + 1) 50 wa0 wl0
  o : VarW w (w0.heap.size + 1 + 1) 50 b n
  b : Below w0.heap.size w0 w
theorem VarW3.new (w : World) (a : Wl4) (m : Wld) : VarW3 w (((w.alloc (.cells (wlC a m) 36)).alloc (.cells (wlC wa0 wl0) 50)).alloc (.cells (wlC wa0 wl0) 50)) a m wa0 wl0 :=
  ⟨((VarW.new w _ _ _).below (Joins.below_alloc1 _ _)).below (Joins.below_alloc1 _ _), ((VarW.new (w.alloc _) _ _ _).below (Joins.below_alloc1 _ _)).at (by simp), (VarW.new ((w.alloc _).alloc _) _ _ _).at (by simp), Joins.below_alloc3 w _ _ _⟩
theorem VarW3.below {w0 w w' : World} {a b : Wl4} {m n : Wld} (h : VarW3 w0 w a m b n) (hb : Below w.heap.size w w') : VarW3 w0 w' a m b n := ⟨h.a.below hb, h.r.below hb, h.o.below hb, h.b.trans (hb.mono h.b.size)⟩
theorem VarW3.lt {w0 w : World} {a b : Wl4} {m n : Wld} (h : VarW3 w0 w a m b n) : w0.heap.size + 3 ≤ w.heap.size := h.o.lt
theorem VarW3.one {w0 w : World} {a b b' : Wl4} {m n n' : Wld} (h : VarW3 w0 w a m b n) (i : Nat) (u : Value) (e : (wlC b n).setIfInBounds i u = wlC b' n') : VarW3 w0 (w.setCell ⟨w0.heap.size + 1 + 1, i, none⟩ u) a m b' n' :=
  ⟨h.a.other (by simp; omega) u, h.r.other (by simp) u, by unfold VarW; rw [← e]; exact set_wl (i := i) h.o u, h.b.setCell (p := ⟨w0.heap.size + 1 + 1, i, none⟩) (by simp; omega) u⟩

end Go.Proofs.YtjjkppknojecjaaGreatDoor

namespace Go.Proofs.YtjjkppknojecjaaGreatDoor
open Ieee

theorem log2_of {n L : Nat} (h1 : 2 ^ L ≤ n) (h2 : n < 2 ^ (L + 1)) : n.log2 = L := by
  have hn : n ≠ 0 := by
    have := Nat.two_pow_pos L
    omega
  have a := (Nat.le_log2 hn).2 h1
  have b := (Nat.log2_lt hn).2 h2
  omega

theorem log2_bounds {n : Nat} (hn : n ≠ 0) : 2 ^ n.log2 ≤ n ∧ n < 2 ^ (n.log2 + 1) :=
  ⟨(Nat.le_log2 hn).1 (Nat.le_refl _), (Nat.log2_lt hn).1 (Nat.lt_succ_self _)⟩

theorem cut_even {neg : Bool} {n drop : Nat} (hd : drop ≤ n.log2 + 2) :
    2 * (Toward.even.cut neg n drop * 2 ^ drop) ≤ 2 * n + 2 ^ drop ∧ 2 * n ≤ 2 * (Toward.even.cut neg n drop * 2 ^ drop) + 2 ^ drop := by
  unfold Toward.cut
  simp only [Nat.min_eq_left hd, Nat.one_shiftLeft]
  have hg : 0 < 2 ^ drop := Nat.two_pow_pos drop
  generalize 2 ^ drop = g at *
  have e := Nat.div_add_mod n g
  have l := Nat.mod_lt n hg
  rw [Nat.mul_comm] at e
  generalize n / g = a at *
  generalize n % g = r at *
  by_cases c : (decide (g < 2 * r) || (g == 2 * r && a % 2 == 1)) = true
  · rw [c]
    simp only [Bool.toNat_true, Nat.add_mul, Nat.one_mul]
    simp only [Bool.or_eq_true, decide_eq_true_eq, Bool.and_eq_true, beq_iff_eq] at c
    generalize a * g = ag at *
    omega
  · rw [Bool.not_eq_true] at c
    rw [c]
    simp only [Bool.toNat_false, Nat.add_zero]
    simp only [Bool.or_eq_false_iff, decide_eq_false_iff_not] at c
    generalize a * g = ag at *
    omega

theorem cut_zero (way : Toward) (neg : Bool) (n : Nat) : way.cut neg n 0 = n := by
  unfold Toward.cut
  cases way <;> simp [Nat.mod_one]

theorem read_normal {E k : Nat} (h1 : 2 ^ 52 ≤ k) (h2 : k < 2 ^ 53) (hE : E ≤ 2045) :
    double.read (E * 2 ^ 52 + k) = .number false k (-1074 + (E : Int)) := by
  have hb : double.binade = 2 ^ 52 := rfl
  have hs : double.signWeight = 2 ^ 63 := rfl
  have hi : double.infRung = 2047 * 2 ^ 52 := rfl
  have hl : double.leastPlace = -1074 := rfl
  have lt : E * 2 ^ 52 + k < 2047 * 2 ^ 52 := by omega
  unfold Format.read
  simp only [hb, hs, hi, hl]
  have e1 : (E * 2 ^ 52 + k) / 2 ^ 63 = 0 := Nat.div_eq_of_lt (by omega)
  have e2 : (E * 2 ^ 52 + k) % 2 ^ 63 = E * 2 ^ 52 + k := Nat.mod_eq_of_lt (by omega)
  rw [e1, e2]
  rw [if_neg (by omega), if_pos lt]
  have e3 : (E * 2 ^ 52 + k) / 2 ^ 52 = E + 1 := by omega
  have e4 : (E * 2 ^ 52 + k) % 2 ^ 52 = k - 2 ^ 52 := by omega
  rw [e3, e4]
  have e5 : 2 ^ 52 + (k - 2 ^ 52) = k := by omega
  rw [e5]
  rfl

theorem nearest_normal {M s : Nat} {p : Int} (hM : 2 ^ 52 ≤ M) (hs : M.log2 = 52 + s) (hp : -1074 ≤ p + s) (hq : p + s ≤ 900) :
    double.nearest false M p = (p + s + 1074).toNat * 2 ^ 52 + Toward.even.cut false M s := by
  have hb : double.binade = 2 ^ 52 := rfl
  have hf : double.fractionBits = 52 := rfl
  have hi : double.infRung = 2047 * 2 ^ 52 := rfl
  have hl : double.leastPlace = -1074 := rfl
  have h0 : M ≠ 0 := by omega
  unfold Format.nearest
  rw [if_neg h0]
  simp only [hb, hf, hi, hl, hs]
  have e1 : max (p + ((52 + s : Nat) : Int) - ((52 : Nat) : Int)) (-1074) = p + s := by omega
  rw [e1]
  have e2 : (p - (p + s)).toNat = 0 := by omega
  have e3 : (p + (s : Int) - p).toNat = s := by omega
  have e4 : p + (s : Int) - (-1074) = p + s + 1074 := by omega
  rw [e2, e3, e4, Nat.shiftLeft_zero]
  have hc := (cut_even (neg := false) (n := M) (drop := s) (by omega)).1
  have hlt : M < 2 ^ (s + 53) := by
    have := (log2_bounds h0).2
    rw [hs] at this
    rwa [show 52 + s + 1 = s + 53 by omega] at this
  have hk : Toward.even.cut false M s ≤ 2 ^ 53 := by
    generalize Toward.even.cut false M s = c at *
    rw [Nat.pow_add] at hlt
    have hg : 0 < 2 ^ s := Nat.two_pow_pos s
    generalize 2 ^ s = g at *
    refine Nat.le_of_not_lt fun hh => ?_
    have := Nat.mul_le_mul_right g (show 2 ^ 53 + 1 ≤ c by omega)
    rw [Nat.add_mul, Nat.mul_comm (2 ^ 53) g] at this
    omega
  have hr : (p + (s : Int) + 1074).toNat ≤ 1974 := by omega
  rw [Nat.min_eq_left (by omega)]
  rfl

theorem nearest_whole {n L : Nat} (hn : n ≠ 0) (hL : n.log2 = L) (h : L ≤ 52) :
    floatOfInt .f64 (n : Int) = (L + 1022) * 2 ^ 52 + n * 2 ^ (52 - L) := by
  have hb : double.binade = 2 ^ 52 := rfl
  have hf : double.fractionBits = 52 := rfl
  have hi : double.infRung = 2047 * 2 ^ 52 := rfl
  have hl : double.leastPlace = -1074 := rfl
  unfold floatOfInt FloatKind.nearest FloatKind.encode FloatKind.format Format.write
  simp only
  have e0 : decide ((n : Int) < 0) = false := decide_eq_false (by omega)
  rw [e0, Int.natAbs_natCast]
  unfold Format.nearest
  rw [if_neg hn]
  simp only [hb, hf, hi, hl, hL]
  have e1 : max ((0 : Int) + (L : Int) - ((52 : Nat) : Int)) (-1074) = (L : Int) - 52 := by omega
  rw [e1]
  have e2 : ((0 : Int) - ((L : Int) - 52)).toNat = 52 - L := by omega
  have e3 : ((L : Int) - 52 - 0).toNat = 0 := by omega
  have e4 : ((L : Int) - 52 - (-1074)).toNat = L + 1022 := by omega
  rw [e2, e3, e4, cut_zero, Nat.shiftLeft_eq]
  have hlt : n * 2 ^ (52 - L) < 2 ^ 53 := by
    have := (log2_bounds hn).2
    rw [hL] at this
    have h2 := Nat.mul_lt_mul_of_pos_right this (Nat.two_pow_pos (52 - L))
    rw [← Nat.pow_add, show L + 1 + (52 - L) = 53 by omega] at h2
    exact h2
  rw [Nat.min_eq_left (by omega)]
  rfl

theorem whole_range {n L : Nat} (hn : n ≠ 0) (hL : n.log2 = L) (h : L ≤ 52) :
    2 ^ 52 ≤ n * 2 ^ (52 - L) ∧ n * 2 ^ (52 - L) < 2 ^ 53 := by
  have hb := log2_bounds hn
  rw [hL] at hb
  have hp := Nat.two_pow_pos (52 - L)
  have h2 := Nat.mul_lt_mul_of_pos_right hb.2 hp
  have h1 := Nat.mul_le_mul_right (2 ^ (52 - L)) hb.1
  rw [← Nat.pow_add, show L + 1 + (52 - L) = 53 by omega] at h2
  rw [← Nat.pow_add, show L + (52 - L) = 52 by omega] at h1
  exact ⟨h1, h2⟩

theorem read_whole {n L : Nat} (hn : n ≠ 0) (hL : n.log2 = L) (h : L ≤ 52) :
    double.read (floatOfInt .f64 (n : Int)) = .number false (n * 2 ^ (52 - L)) ((L : Int) - 52) := by
  have hr := whole_range hn hL h
  rw [nearest_whole hn hL h, read_normal hr.1 hr.2 (by omega)]
  have e : -1074 + ((L + 1022 : Nat) : Int) = (L : Int) - 52 := by omega
  rw [e]

def roundW (r : Nat) : Nat :=
  if r / 2 ^ 52 < 1023 then (if r / 2 ^ 52 = 1022 then 1023 * 2 ^ 52 else 0)
  else if r / 2 ^ 52 < 1075 then
    (r + 2 ^ (1074 - r / 2 ^ 52)) / 2 ^ (1075 - r / 2 ^ 52) * 2 ^ (1075 - r / 2 ^ 52)
  else r

theorem toInt_number {m t q : Nat} {i : Int} (hi : i = -(t : Int)) (hm : m = q * 2 ^ t) :
    (Datum.number false m i).toInt .zero = some (q : Int) := by
  subst hi hm
  unfold Datum.toInt Datum.integral
  have e1 : (-(t : Int)).toNat = 0 := by omega
  have e2 : (-(-(t : Int))).toNat = t := by omega
  simp only [e1, e2, Nat.shiftLeft_zero]
  have hc : Toward.zero.cut false (q * 2 ^ t) t = q := by
    unfold Toward.cut
    simp only [Bool.toNat_false, Nat.add_zero]
    by_cases hq : q = 0
    · subst hq; simp
    · have hle : t ≤ (q * 2 ^ t).log2 + 2 := by
        have : 2 ^ t ≤ q * 2 ^ t := Nat.le_mul_of_pos_left _ (by omega)
        have := (Nat.le_log2 (by have := Nat.two_pow_pos t; omega)).2 this
        omega
      rw [Nat.min_eq_left hle, Nat.one_shiftLeft, Nat.mul_div_cancel _ (Nat.two_pow_pos t)]
  rw [hc]
  simp [signed]

theorem round_toInt {E k t : Nat} (h1 : 2 ^ 52 ≤ k) (h2 : k < 2 ^ 53) (hE : E + t = 1074) (ht : 1 ≤ t) :
    (FloatKind.f64.decode (roundW (E * 2 ^ 52 + k))).toInt .zero = some (((k + 2 ^ (t - 1)) / 2 ^ t : Nat) : Int) := by
  have e0 : (E * 2 ^ 52 + k) / 2 ^ 52 = E + 1 := by omega
  unfold roundW FloatKind.decode FloatKind.format
  simp only [e0]
  by_cases c1 : E + 1 < 1023
  · rw [if_pos c1]
    by_cases c2 : E + 1 = 1022
    · rw [if_pos c2]
      have : t = 53 := by omega
      subst this
      have e : (k + 2 ^ (53 - 1)) / 2 ^ 53 = 1 := by omega
      rw [e]
      decide
    · rw [if_neg c2]
      have hlt : 2 ^ 53 ≤ 2 ^ (t - 1) := Nat.pow_le_pow_right (by decide) (by omega)
      have h3 : 2 ^ t = 2 * 2 ^ (t - 1) := by
        rw [← Nat.pow_succ', show (t - 1).succ = t by omega]
      have e : (k + 2 ^ (t - 1)) / 2 ^ t = 0 := Nat.div_eq_of_lt (by omega)
      rw [e]
      decide
  · rw [if_neg c1, if_pos (by omega)]
    have et : 1075 - (E + 1) = t := by omega
    have et1 : 1074 - (E + 1) = t - 1 := by omega
    rw [et, et1]
    -- j: the exponent
    obtain ⟨j, hj⟩ : ∃ j, t + j = 52 := ⟨52 - t, by omega⟩
    have hE' : E = 1022 + j := by omega
    subst hE'
    have hp : 0 < 2 ^ t := Nat.two_pow_pos t
    have hmul : (2 : Nat) ^ 52 = 2 ^ j * 2 ^ t := by rw [← Nat.pow_add, show j + t = 52 by omega]
    have e1 : ((1022 + j) * 2 ^ 52 + k + 2 ^ (t - 1)) / 2 ^ t = (1022 + j) * 2 ^ j + (k + 2 ^ (t - 1)) / 2 ^ t := by
      rw [hmul, ← Nat.mul_assoc, Nat.add_assoc, Nat.add_comm, Nat.add_mul_div_right _ _ hp, Nat.add_comm]
    rw [e1]
    have h3 : 2 ^ t = 2 * 2 ^ (t - 1) := by
      rw [← Nat.pow_succ', show (t - 1).succ = t by omega]
    have q1 : 2 ^ j ≤ (k + 2 ^ (t - 1)) / 2 ^ t := by
      rw [Nat.le_div_iff_mul_le hp, ← hmul]; omega
    have q2 : (k + 2 ^ (t - 1)) / 2 ^ t ≤ 2 ^ (j + 1) := by
      refine Nat.le_of_lt_succ ?_
      rw [Nat.div_lt_iff_lt_mul hp, Nat.succ_mul, Nat.pow_succ, Nat.mul_comm (2 ^ j) 2, Nat.mul_assoc, ← hmul]
      omega
    generalize (k + 2 ^ (t - 1)) / 2 ^ t = q at *
    rw [Nat.add_mul, Nat.mul_assoc, ← hmul]
    by_cases c : q < 2 ^ (j + 1)
    · have r1 : 2 ^ 52 ≤ q * 2 ^ t := by rw [hmul]; exact Nat.mul_le_mul_right _ q1
      have r2 : q * 2 ^ t < 2 ^ 53 := by
        have := Nat.mul_lt_mul_of_pos_right c hp
        rwa [← Nat.pow_add, show j + 1 + t = 53 by omega] at this
      rw [read_normal r1 r2 (by omega)]
      exact toInt_number (t := t) (by omega) rfl
    · have : q = 2 ^ (j + 1) := by omega
      subst this
      have e2 : 2 ^ (j + 1) * 2 ^ t = 2 ^ 53 := by rw [← Nat.pow_add, show j + 1 + t = 53 by omega]
      rw [e2, show (1022 + j) * 2 ^ 52 + 2 ^ 53 = (1022 + (j + 1)) * 2 ^ 52 + 2 ^ 52 by omega, read_normal (Nat.le_refl _) (by decide) (by omega)]
      refine toInt_number (t := t - 1) (by omega) ?_
      rw [← Nat.pow_add, show j + 1 + (t - 1) = 52 by omega]

theorem round_toInt' {r E k t : Nat} (hr : r = E * 2 ^ 52 + k) (h1 : 2 ^ 52 ≤ k) (h2 : k < 2 ^ 53) (hE : E + t = 1074) (ht : 1 ≤ t) :
    (FloatKind.f64.decode (roundW r)).toInt .zero = some (((k + 2 ^ (t - 1)) / 2 ^ t : Nat) : Int) := by
  subst hr
  exact round_toInt h1 h2 hE ht

theorem carry (E : Nat) : E * 2 ^ 52 + 2 ^ 53 = (E + 1) * 2 ^ 52 + 2 ^ 52 := by omega

theorem half_carry {t : Nat} (h : 2 ≤ t) : (2 ^ 53 + 2 ^ (t - 1)) / 2 ^ t = (2 ^ 52 + 2 ^ (t - 1 - 1)) / 2 ^ (t - 1) := by
  have h3 : 2 ^ t = 2 * 2 ^ (t - 1) := by
    rw [← Nat.pow_succ', show (t - 1).succ = t by omega]
  have h4 : 2 ^ (t - 1) = 2 * 2 ^ (t - 1 - 1) := by
    rw [← Nat.pow_succ', show (t - 1 - 1).succ = t - 1 by omega]
  rw [h3, show 2 ^ 53 + 2 ^ (t - 1) = 2 * (2 ^ 52 + 2 ^ (t - 1 - 1)) by omega, Nat.mul_div_mul_left _ _ (by decide)]

theorem quo_digits {n b L B N d : Nat} (hn : n ≠ 0) (hb : b ≠ 0) (hL : n.log2 = L) (hB : b.log2 = B) (h : L ≤ 52) (h' : B ≤ 52)
    (hN : n * 2 ^ (52 - L) = N) (hd : b * 2 ^ (52 - B) = d) :
    floatBits .quo .f64 (floatOfInt .f64 (n : Int)) (floatOfInt .f64 (b : Int))
      = some (double.nearest false (2 * (N * 2 ^ 54 / d) + (N * 2 ^ 54 % d != 0).toNat) ((L : Int) - B - 55)) := by
  have hf : double.fractionBits = 52 := rfl
  have rN := whole_range hn hL h
  have rd := whole_range hb hB h'
  rw [hN] at rN
  rw [hd] at rd
  have lN : N.log2 = 52 := log2_of rN.1 rN.2
  have ld : d.log2 = 52 := log2_of rd.1 rd.2
  show (((double.read (floatOfInt .f64 (n : Int))).quotient (double.fractionBits + 2) (double.read (floatOfInt .f64 (b : Int)))).map double.write) = _
  rw [read_whole hn hL h, read_whole hb hB h', hN, hd, hf]
  unfold Datum.quotient
  dsimp only
  rw [if_neg (by omega)]
  simp only [lN, ld, Option.map_some, Nat.shiftLeft_eq, Format.write, Bool.xor_self]
  have e : (L : Int) - 52 - ((B : Int) - 52) - ((52 + 2 + 52 - 52 : Nat) : Int) - 1 = (L : Int) - B - 55 := by omega
  rw [e]

theorem guess {n b : Nat} (hb : b ≠ 0) (hn : n < 2 ^ 40) (hb' : b < 2 ^ 40) :
    ∃ x q : Nat, floatBits .quo .f64 (floatOfInt .f64 (n : Int)) (floatOfInt .f64 (b : Int)) = some x ∧ x < 2 ^ 63
      ∧ (FloatKind.f64.decode (roundW x)).toInt .zero = some (q : Int) ∧ q * b < n + b ∧ n < q * b + b := by
  by_cases h0 : n = 0
  · subst h0
    refine ⟨0, 0, ?_, by decide, by decide, by omega, by omega⟩
    have hz : floatOfInt .f64 ((0 : Nat) : Int) = 0 := by decide
    obtain ⟨B, hB⟩ : ∃ B, b.log2 = B := ⟨_, rfl⟩
    have hB' : B ≤ 52 := by
      have := (Nat.log2_lt hb).2 hb'
      omega
    have rd := whole_range hb hB hB'
    show (((double.read (floatOfInt .f64 ((0 : Nat) : Int))).quotient (double.fractionBits + 2) (double.read (floatOfInt .f64 (b : Int)))).map double.write) = _
    rw [hz, read_whole hb hB hB', show double.read 0 = .number false 0 (-1074) from by decide]
    generalize b * 2 ^ (52 - B) = d at *
    unfold Datum.quotient
    dsimp only
    rw [if_neg (by omega)]
    simp [Nat.shiftLeft_eq, Format.write, Format.nearest, Format.word]
  · obtain ⟨L, hL⟩ : ∃ L, n.log2 = L := ⟨_, rfl⟩
    obtain ⟨B, hB⟩ : ∃ B, b.log2 = B := ⟨_, rfl⟩
    have hL' : L ≤ 39 := by
      have := (Nat.log2_lt h0).2 hn
      omega
    have hB' : B ≤ 39 := by
      have := (Nat.log2_lt hb).2 hb'
      omega
    obtain ⟨N, hN⟩ : ∃ N, n * 2 ^ (52 - L) = N := ⟨_, rfl⟩
    obtain ⟨d, hd⟩ : ∃ d, b * 2 ^ (52 - B) = d := ⟨_, rfl⟩
    have rN := whole_range h0 hL (by omega)
    have rd := whole_range hb hB (by omega)
    rw [hN] at rN
    rw [hd] at rd
    rw [quo_digits h0 hb hL hB (by omega) (by omega) hN hd]
    -- the dividend and its quotient
    obtain ⟨V, hV⟩ : ∃ V, N * 2 ^ 54 = V := ⟨_, rfl⟩
    rw [hV]
    have dpos : 0 < d := by omega
    obtain ⟨M, hM⟩ : ∃ M, 2 * (V / d) + (V % d != 0).toNat = M := ⟨_, rfl⟩
    rw [hM]
    have bit : (V % d != 0).toNat ≤ 1 := Bool.toNat_le _
    have hdm := Nat.div_add_mod V d
    have hml := Nat.mod_lt V dpos
    have a1 : 2 ^ 53 ≤ V / d := by
      rw [Nat.le_div_iff_mul_le dpos]
      have := Nat.mul_le_mul_left (2 ^ 53) (Nat.le_of_lt rd.2)
      omega
    have a2 : V / d < 2 ^ 55 := by
      rw [Nat.div_lt_iff_lt_mul dpos]
      have := Nat.mul_le_mul_left (2 ^ 55) rd.1
      omega
    have m1 : M * d ≤ 2 * V + d := by
      have : M ≤ 2 * (V / d) + 1 := by omega
      have := Nat.mul_le_mul_right d this
      rw [Nat.add_mul, Nat.one_mul, Nat.mul_assoc, Nat.mul_comm (V / d) d] at this
      omega
    have m2 : 2 * V < M * d + 2 * d := by
      have : 2 * (V / d) ≤ M := by omega
      have := Nat.mul_le_mul_right d this
      rw [Nat.mul_assoc, Nat.mul_comm (V / d) d] at this
      omega
    have M1 : 2 ^ 54 ≤ M := by omega
    have M2 : M < 2 ^ 56 := by omega
    obtain ⟨s, hs, s2, s3⟩ : ∃ s, M.log2 = 52 + s ∧ 2 ≤ s ∧ s ≤ 3 := by
      by_cases c : M < 2 ^ 55
      · exact ⟨2, log2_of (by omega) (by omega), by omega, by omega⟩
      · exact ⟨3, log2_of (by omega) (by omega), by omega, by omega⟩
    have k12 := cut_even (neg := false) (n := M) (drop := s) (by omega)
    have hMl := log2_bounds (n := M) (by omega)
    rw [nearest_normal (s := s) (by omega) hs (by omega) (by omega)]
    -- t: how many digits stand behind the point
    obtain ⟨t, ht⟩ : ∃ t : Nat, (t : Int) = -((L : Int) - B - 55 + s) := ⟨(-((L : Int) - B - 55 + s)).toNat, by omega⟩
    obtain ⟨E, hE⟩ : ∃ E : Nat, ((L : Int) - B - 55 + s + 1074).toNat = E := ⟨_, rfl⟩
    rw [hE]
    have hEt : E + t = 1074 := by omega
    have t1 : 13 ≤ t := by omega
    obtain ⟨k, hk⟩ : ∃ k, Toward.even.cut false M s = k := ⟨_, rfl⟩
    rw [hk] at k12
    rw [hk]
    have gs : 4 ≤ 2 ^ s := by
      have := Nat.pow_le_pow_right (n := 2) (by decide) s2
      omega
    have kr1 : 2 ^ 52 ≤ k := by
      rw [hs, Nat.pow_add] at hMl
      generalize 2 ^ s = g at *
      refine Nat.le_of_not_lt fun hh => ?_
      have := Nat.mul_le_mul_right g (show k + 1 ≤ 2 ^ 52 by omega)
      rw [Nat.add_mul, Nat.one_mul] at this
      omega
    have kr2 : k ≤ 2 ^ 53 := by
      have h2 := hMl.2
      rw [hs, show 52 + s + 1 = 53 + s by omega, Nat.pow_add] at h2
      generalize 2 ^ s = g at *
      refine Nat.le_of_not_lt fun hh => ?_
      have := Nat.mul_le_mul_right g (show 2 ^ 53 + 1 ≤ k by omega)
      rw [Nat.add_mul, Nat.one_mul] at this
      omega
    have h3 : 2 ^ t = 2 * 2 ^ (t - 1) := by
      rw [← Nat.pow_succ', show (t - 1).succ = t by omega]
    have tp : 0 < 2 ^ t := Nat.two_pow_pos t
    refine ⟨E * 2 ^ 52 + k, (k + 2 ^ (t - 1)) / 2 ^ t, rfl, by omega, ?_, ?_⟩
    · by_cases c : k < 2 ^ 53
      · exact round_toInt kr1 c hEt (by omega)
      · have : k = 2 ^ 53 := by omega
        subst this
        have e := round_toInt' (carry E) (Nat.le_refl _) (by decide) (show E + 1 + (t - 1) = 1074 from by clear k12; omega) (by clear k12; omega)
        rw [e, half_carry (by clear k12; omega)]
    · -- the same number, in the digits' own scale
      have scale : n * (d * 2 ^ (s + t)) = 2 * V * b := by
        rw [← hV, ← hN, ← hd]
        have e : 52 - B + (s + t) = 52 - L + 55 := by omega
        have c1 : n * (b * 2 ^ (52 - B) * 2 ^ (s + t)) = n * b * 2 ^ (52 - B + (s + t)) := by rw [Nat.pow_add 2 (52 - B)]; ac_rfl
        have c2 : n * b * 2 ^ (52 - L + 55) = 2 * (n * 2 ^ (52 - L) * 2 ^ 54) * b := by
          rw [Nat.pow_add 2 (52 - L), show (2 : Nat) ^ 55 = 2 * 2 ^ 54 from rfl]; generalize 2 ^ (52 - L) = u; generalize 2 ^ 54 = v; ac_rfl
        rw [c1, e, c2]
      have q1 := Nat.div_mul_le_self (k + 2 ^ (t - 1)) (2 ^ t)
      have q2 := Nat.lt_div_mul_add (a := k + 2 ^ (t - 1)) tp
      generalize (k + 2 ^ (t - 1)) / 2 ^ t = q at *
      have dg : 0 < d * 2 ^ (s + t) := Nat.mul_pos dpos (Nat.two_pow_pos _)
      have bpos : 0 < b := by omega
      -- in one scale
      have st : (2 : Nat) ^ (s + t) = 2 ^ s * 2 ^ t := Nat.pow_add ..
      have T : 2 ≤ 2 ^ t := by
        have := Nat.pow_le_pow_right (n := 2) (by decide) t1
        omega
      have lo : q * 2 ^ (s + t) + 1 < M + 2 ^ (s + t) := by
        rw [st]
        generalize 2 ^ s = g at *
        generalize 2 ^ t = T' at *
        have x1 := Nat.mul_le_mul_left g q1
        have x2 : g * (q * T') = q * (g * T') := by ac_rfl
        rw [x2, Nat.mul_add] at x1
        have x3 : g * T' = 2 * (g * 2 ^ (t - 1)) := by rw [h3]; ac_rfl
        have x4 : g * 2 ≤ g * T' := Nat.mul_le_mul_left g T
        have x5 : g * k = k * g := Nat.mul_comm ..
        generalize g * T' = gT at *
        generalize g * 2 ^ (t - 1) = gh at *
        generalize q * gT = y at *
        omega
      have hi : M + 2 ≤ q * 2 ^ (s + t) + 2 ^ (s + t) := by
        rw [st]
        generalize 2 ^ s = g at *
        generalize 2 ^ t = T' at *
        have x1 := Nat.mul_le_mul_left g (Nat.succ_le_of_lt q2)
        have x2 : g * (q * T' + T') = q * (g * T') + g * T' := by rw [Nat.mul_add]; ac_rfl
        rw [x2, Nat.mul_succ, Nat.mul_add] at x1
        have x3 : g * T' = 2 * (g * 2 ^ (t - 1)) := by rw [h3]; ac_rfl
        have x5 : g * k = k * g := Nat.mul_comm ..
        generalize g * T' = gT at *
        generalize g * 2 ^ (t - 1) = gh at *
        generalize q * gT = y at *
        omega
      constructor
      · refine Nat.lt_of_mul_lt_mul_right (a := d * 2 ^ (s + t)) ?_
        rw [Nat.add_mul, scale]
        generalize 2 ^ (s + t) = G at *
        have y1 := Nat.mul_lt_mul_of_pos_right (Nat.mul_lt_mul_of_pos_right lo dpos) bpos
        have y2 := Nat.mul_le_mul_right b m1
        have z1 : (q * G + 1) * d * b = q * b * (d * G) + d * b := by rw [Nat.add_mul, Nat.add_mul, Nat.one_mul]; ac_rfl
        have z2 : (M + G) * d * b = M * d * b + b * (d * G) := by rw [Nat.add_mul, Nat.add_mul]; ac_rfl
        rw [z1, z2] at y1
        rw [Nat.add_mul] at y2
        generalize q * b * (d * G) = a at *
        generalize b * (d * G) = bb at *
        generalize M * d * b = c at *
        generalize d * b = e at *
        generalize 2 * V * b = f at *
        omega
      · refine Nat.lt_of_mul_lt_mul_right (a := d * 2 ^ (s + t)) ?_
        rw [Nat.add_mul, scale]
        generalize 2 ^ (s + t) = G at *
        have y1 := Nat.mul_le_mul_right b (Nat.mul_le_mul_right d hi)
        have y2 := Nat.mul_lt_mul_of_pos_right m2 bpos
        have z1 : (q * G + G) * d * b = q * b * (d * G) + b * (d * G) := by rw [Nat.add_mul, Nat.add_mul]; ac_rfl
        have z2 : (M + 2) * d * b = M * d * b + 2 * d * b := by rw [Nat.add_mul, Nat.add_mul]
        rw [z1, z2] at y1
        rw [Nat.add_mul] at y2
        generalize q * b * (d * G) = a at *
        generalize b * (d * G) = bb at *
        generalize M * d * b = c at *
        generalize 2 * d * b = e at *
        generalize 2 * V * b = f at *
        omega

end Go.Proofs.YtjjkppknojecjaaGreatDoor

namespace Go.Proofs.YtjjkppknojecjaaGreatDoor
open Go.RowKit
set_option linter.unusedVariables false

theorem bits_of (x : Nat) (w : World) : (callFunc 155 #[.float .f64 x]).run Tryz.prog w = .ok (.value (.int .u64 x)) w := by
  rw [run_callFunc_extern Tryz.func155 (by kernel_rfl) (by kernel_rfl) (by kernel_rfl) (e := Extern.MathFloatBits.float64bits) (by kernel_rfl)]
  rfl
theorem of_bits (n : Int) (w : World) : (callFunc 156 #[.int .u64 n]).run Tryz.prog w = .ok (.value (.float .f64 n.toNat)) w := by
  rw [run_callFunc_extern Tryz.func156 (by kernel_rfl) (by kernel_rfl) (by kernel_rfl) (e := Extern.MathFloatBits.float64frombits) (by kernel_rfl)]
  rfl

theorem and_high {a t : Nat} (ha : a < 2 ^ 64) (ht : t ≤ 64) : a &&& (2 ^ 64 - 1 - (2 ^ t - 1)) = a / 2 ^ t * 2 ^ t := by
  have hp := Nat.two_pow_pos t
  have hle : 2 ^ t ≤ 2 ^ 64 := Nat.pow_le_pow_right (by decide) ht
  rw [show 2 ^ 64 - 1 - (2 ^ t - 1) = 2 ^ 64 - (2 ^ t - 1 + 1) by omega, ← Nat.shiftRight_eq_div_pow, ← Nat.shiftLeft_eq]
  apply Nat.eq_of_testBit_eq
  intro i
  rw [Nat.testBit_and, Nat.testBit_two_pow_sub_succ (by omega), Nat.testBit_two_pow_sub_one, Nat.testBit_shiftLeft, Nat.testBit_shiftRight]
  by_cases h1 : i < t
  · simp [h1, show ¬ t ≤ i by omega]
  · rw [show t + (i - t) = i by omega]
    by_cases h2 : i < 64
    · simp [h1, h2, show t ≤ i by omega]
    · have : a.testBit i = false := Nat.testBit_lt_two_pow (Nat.lt_of_lt_of_le ha (Nat.pow_le_pow_right (by decide) (by omega)))
      simp [this]

theorem bits_exp {x : Nat} (hx : x < 2 ^ 63) : bits .and .u64 ((x : Int) / 4503599627370496) 2047 = ((x / 2 ^ 52 : Nat) : Int) := by
  have h := bits_and_u64_nat (x / 2 ^ 52) 2047 (by omega) (by omega)
  have e1 : ((x : Int) / 4503599627370496) = ((x / 2 ^ 52 : Nat) : Int) := by omega
  have e2 : (2047 : Int) = ((2047 : Nat) : Int) := rfl
  rw [e1, e2, h, show (2047 : Nat) = 2 ^ 11 - 1 from rfl, Nat.and_two_pow_sub_one_eq_mod]
  omega
theorem bits_sign {x : Nat} (hx : x < 2 ^ 63) : bits .and .u64 (x : Int) 9223372036854775808 = 0 := by
  have h := bits_and_u64_nat x 9223372036854775808 (by omega) (by omega)
  have e2 : (9223372036854775808 : Int) = ((9223372036854775808 : Nat) : Int) := rfl
  have z : x &&& 2 ^ 63 = 0 := by
    apply Nat.eq_of_testBit_eq
    intro i
    rw [Nat.testBit_and, Nat.testBit_two_pow, Nat.zero_testBit]
    by_cases hi : 63 = i
    · subst hi
      rw [Nat.testBit_lt_two_pow hx]
      rfl
    · simp [hi]
  rw [e2, h, show (9223372036854775808 : Nat) = 2 ^ 63 from rfl, z]
  rfl
theorem bits_one : bits .or .u64 0 4607182418800017408 = 4607182418800017408 := by
  have h := bits_or_u64_nat 0 4607182418800017408 (by omega) (by omega)
  rw [Nat.zero_or] at h
  exact h
theorem bits_cut {x e : Nat} (hx : x < 2 ^ 63) (he : x / 2 ^ 52 = e) (h1 : 1023 ≤ e) (h2 : e < 1075) :
    bits .andNot .u64 (IntKind.u64.wrap ((x : Int) + 2251799813685248 / 2 ^ (e - 1023))) (4503599627370495 / 2 ^ (e - 1023)) = ((roundW x : Nat) : Int) := by
  obtain ⟨j, rfl⟩ : ∃ j, e = 1023 + j := ⟨e - 1023, by omega⟩
  obtain ⟨t, ht⟩ : ∃ t, t + j = 51 := ⟨51 - j, by omega⟩
  have ej : 1023 + j - 1023 = j := by omega
  have p1 : (2251799813685248 : Nat) / 2 ^ j = 2 ^ t := by
    rw [show (2251799813685248 : Nat) = 2 ^ t * 2 ^ j from by rw [← Nat.pow_add, ht]]
    exact Nat.mul_div_cancel _ (Nat.two_pow_pos j)
  have p2 : (4503599627370495 : Nat) / 2 ^ j = 2 ^ (t + 1) - 1 := by
    have hj := Nat.two_pow_pos j
    have e : (4503599627370495 : Nat) = (2 ^ (t + 1) - 1) * 2 ^ j + (2 ^ j - 1) := by
      have : 2 ^ (t + 1) * 2 ^ j = 4503599627370496 := by rw [← Nat.pow_add, show t + 1 + j = 52 by omega]
      have h3 := Nat.two_pow_pos (t + 1)
      rw [Nat.sub_mul, Nat.one_mul]
      have h4 : 2 ^ j ≤ 2 ^ (t + 1) * 2 ^ j := Nat.le_mul_of_pos_left _ h3
      omega
    rw [e, Nat.add_comm, Nat.add_mul_div_right _ _ hj, Nat.div_eq_of_lt (by omega), Nat.zero_add]
  have i1 : (2251799813685248 : Int) / 2 ^ j = ((2 ^ t : Nat) : Int) := by
    rw [← p1]; exact (Int.natCast_ediv _ _).symm
  have i2 : (4503599627370495 : Int) / 2 ^ j = ((2 ^ (t + 1) - 1 : Nat) : Int) := by
    rw [← p2]; exact (Int.natCast_ediv _ _).symm
  have tl : 2 ^ t ≤ 2 ^ 51 := Nat.pow_le_pow_right (by decide) (by omega)
  have tl2 : 2 ^ (t + 1) ≤ 2 ^ 52 := Nat.pow_le_pow_right (by decide) (by omega)
  have i3 : IntKind.u64.wrap ((x : Int) + ((2 ^ t : Nat) : Int)) = ((x + 2 ^ t : Nat) : Int) := by
    rw [IntKind.wrap_u64]
    generalize 2 ^ t = u at *
    omega
  rw [ej, i1, i2, i3, u64_andNot_nat _ _ (by omega) (by omega)]
  have hc := and_high (a := x + 2 ^ t) (t := t + 1) (by omega) (by omega)
  rw [show (18446744073709551615 : Nat) = 2 ^ 64 - 1 from rfl, hc]
  unfold roundW
  rw [he, if_neg (by omega), if_pos h2, show 1074 - (1023 + j) = t by omega, show 1075 - (1023 + j) = t + 1 by omega]

theorem hid {p : Prop} (h : p) : Hid p := h

set_option maxRecDepth 100000 in
set_option maxHeartbeats 1600000 in
theorem round_any (x : Nat) (w : World) (hx : x < 2 ^ 63) : Calls Tryz.prog 151 #[.float .f64 x] w fun e w' => e = .returned (.float .f64 (roundW x)) ∧ w' = w := by
  have hb := bits_of x
  have hf := of_bits
  obtain ⟨e, he⟩ : ∃ e, x / 2 ^ 52 = e := ⟨_, rfl⟩
  have hE := bits_exp hx
  have hS := bits_sign hx
  have hO := bits_one
  rw [he] at hE
  by_cases c1 : e < 1022
  · have hr : Hid (roundW x = 0) := hid (by unfold roundW; rw [he, if_pos (by omega), if_neg (by omega)])
    have i1 : (e : Int) < 1023 := by omega
    have i2 : ((e : Int) == 1022) = false := by simp; omega
    clear hx he c1
    go_enter Tryz.func151, Tryz.ntmps151
    go_wp2
    go_ret
    rw [show roundW x = 0 from hr]
    exact ⟨rfl, rfl⟩
  by_cases c2 : e = 1022
  · have hr : Hid (roundW x = 1023 * 2 ^ 52) := hid (by unfold roundW; rw [he, if_pos (by omega), if_pos c2])
    have i1 : (e : Int) < 1023 := by omega
    have i2 : ((e : Int) == 1022) = true := by simp; omega
    clear hx he c1 c2
    go_enter Tryz.func151, Tryz.ntmps151
    go_wp2
    go_ret
    rw [show roundW x = 1023 * 2 ^ 52 from hr]
    exact ⟨rfl, rfl⟩
  by_cases c3 : e < 1075
  · have hC := bits_cut hx he (by omega) c3
    have i1 : ¬ (e : Int) < 1023 := by omega
    have i3 : (e : Int) < 1075 := by omega
    generalize roundW x = r at *
    clear hx he c1 c2
    go_enter Tryz.func151, Tryz.ntmps151
    go_wp2
    go_ret
    refine ⟨?_, rfl⟩
    first
      | rfl
      | (show Ending.returned (.float .f64 (bits .andNot .u64 _ _).toNat) = _; rw [hC, Int.toNat_natCast])
  · have hr : Hid (roundW x = x) := hid (by unfold roundW; rw [he, if_neg (by omega), if_neg c3])
    have i1 : ¬ (e : Int) < 1023 := by omega
    have i3 : ¬ (e : Int) < 1075 := by omega
    clear hx he c1 c2 c3
    go_enter Tryz.func151, Tryz.ntmps151
    go_wp2
    go_ret
    rw [show roundW x = x from hr]
    exact ⟨rfl, rfl⟩

set_option maxRecDepth 100000 in
set_option maxHeartbeats 1600000 in
theorem near_any (n b : Nat) (w : World) (hb0 : b ≠ 0) (hn : n < 2 ^ 40) (hb : b < 2 ^ 40) :
    Calls Tryz.prog 139 #[.int .i64 (n : Int), .int .i64 (b : Int)] w fun e w' => (∃ q : Nat, e = .returned (.int .i64 (q : Int)) ∧ q * b < n + b ∧ n < q * b + b) ∧ w' = w := by
  obtain ⟨x, q, hq, hx, hi, h1, h2⟩ := guess hb0 hn hb
  have ql : q < 2 ^ 41 := by
    refine Nat.lt_of_le_of_lt (Nat.le_mul_of_pos_right q (Nat.pos_of_ne_zero hb0)) (Nat.lt_trans h1 ?_)
    omega
  have HV : Hid (floatToIntVal .f64 (roundW x) .i64 = some (q : Int)) := hid (by
    unfold floatToIntVal
    rw [hi]
    exact if_pos ⟨by show (-9223372036854775808 : Int) ≤ (q : Int); omega, by show (q : Int) ≤ 9223372036854775807; omega⟩)
  have HX := hid hx
  have H1 := hid h1
  have H2 := hid h2
  have hdiv := fun (W : World) (t : TypeId) => run_float_arith (P := Tryz.prog) W .quo t .f64 _ _ x hq
  have hcv := fun (W : World) => run_convert_float_int (P := Tryz.prog) W 191 3 .f64 .i64 (roundW x) (q : Int) (by kernel_rfl) (by kernel_rfl) HV
  have HR := hid (fun W => round_any x W hx)
  clear hq hx hi h1 h2 hn hb hb0 ql
  generalize roundW x = r at *
  go_enter Tryz.func139, Tryz.ntmps139
  go_wp2_with fail
  refine ((show ∀ W, _ from HR) _).mono ?_
  rintro e w1 ⟨rfl, rfl⟩
  go_wp2
  go_ret
  exact ⟨⟨q, rfl, H1, H2⟩, rfl⟩

theorem mend_down {n b q : Nat} (h1 : q * b < n + b) (h2 : n < q * b + b) : (n < q * b → (q : Int) - 1 = ((n / b : Nat) : Int)) ∧ (¬ n < q * b → (q : Int) = ((n / b : Nat) : Int)) := by
  have hb : 0 < b := Nat.pos_of_ne_zero (by rintro rfl; omega)
  constructor
  · intro h
    have hq : q ≠ 0 := by rintro rfl; omega
    obtain ⟨p, rfl⟩ : ∃ p, q = p + 1 := ⟨q - 1, by omega⟩
    rw [Nat.add_mul, Nat.one_mul] at h1 h
    have : n / b = p := Nat.div_eq_of_lt_le (by omega) (by rw [Nat.add_mul, Nat.one_mul]; omega)
    omega
  · intro h
    have : n / b = q := Nat.div_eq_of_lt_le (by omega) (by rw [Nat.add_mul, Nat.one_mul]; omega)
    omega
theorem mend_up {n b q : Nat} (h1 : q * b < n + b) (h2 : n < q * b + b) : (q * b < n → (q : Int) + 1 = (((n + b - 1) / b : Nat) : Int)) ∧ (¬ q * b < n → (q : Int) = (((n + b - 1) / b : Nat) : Int)) := by
  have hb : 0 < b := Nat.pos_of_ne_zero (by rintro rfl; omega)
  constructor
  · intro h
    have : (n + b - 1) / b = q + 1 := Nat.div_eq_of_lt_le (by rw [Nat.add_mul, Nat.one_mul]; omega) (by rw [Nat.add_mul, Nat.add_mul, Nat.one_mul]; omega)
    omega
  · intro h
    have : (n + b - 1) / b = q := Nat.div_eq_of_lt_le (by omega) (by rw [Nat.add_mul, Nat.one_mul]; omega)
    omega

set_option maxHeartbeats 1600000 in
theorem down_any (n b r : Nat) (hr : n / b = r) (w : World) (hb0 : b ≠ 0) (hn : n < 2 ^ 40) (hb : b < 2 ^ 40) :
    Calls Tryz.prog 127 #[.int .i64 (n : Int), .int .i64 (b : Int)] w fun e w' => e = .returned (.int .i64 (r : Int)) ∧ w' = w := by
  have HN := hid (near_any n b w hb0 hn hb)
  clear hb0
  replace hr := hid hr
  go_enter Tryz.func127, Tryz.ntmps127
  go_wp2_with fail
  refine (show Calls _ _ _ _ _ from HN).mono ?_
  rintro e w1 ⟨⟨q, rfl, h1, h2⟩, rfl⟩
  have HM := hid (mend_down h1 h2)
  rw [show _ = r from hr] at HM
  clear hr
  have hqb : ((q : Int) * (b : Int)) = ((q * b : Nat) : Int) := by rw [Int.natCast_mul]
  have l1 : q * b < 2 ^ 41 := by omega
  have lq : q < 2 ^ 41 := by
    have hb : 0 < b := Nat.pos_of_ne_zero (by rintro rfl; omega)
    exact Nat.lt_of_le_of_lt (Nat.le_mul_of_pos_right q hb) l1
  generalize q * b = y at *
  have hwy : IntKind.i64.wrap (y : Int) = (y : Int) := by rw [IntKind.wrap_i64]; omega
  by_cases c : n < y
  · have HR := hid ((show _ ∧ _ from HM).1 c)
    have ci : (n : Int) < (y : Int) := by omega
    have hw : IntKind.i64.wrap ((q : Int) - 1) = (q : Int) - 1 := by rw [IntKind.wrap_i64]; omega
    go_wp2
    go_ret
    exact ⟨congrArg (fun z => Ending.returned (.int .i64 z)) HR, rfl⟩
  · have HR := hid ((show _ ∧ _ from HM).2 c)
    have ci : ¬ (n : Int) < (y : Int) := by omega
    go_wp2
    go_ret
    exact ⟨congrArg (fun z => Ending.returned (.int .i64 z)) HR, rfl⟩

set_option maxHeartbeats 1600000 in
theorem up_any (n b r : Nat) (hr : (n + b - 1) / b = r) (w : World) (hb0 : b ≠ 0) (hn : n < 2 ^ 40) (hb : b < 2 ^ 40) :
    Calls Tryz.prog 125 #[.int .i64 (n : Int), .int .i64 (b : Int)] w fun e w' => e = .returned (.int .i64 (r : Int)) ∧ w' = w := by
  have HN := hid (near_any n b w hb0 hn hb)
  clear hb0
  replace hr := hid hr
  go_enter Tryz.func125, Tryz.ntmps125
  go_wp2_with fail
  refine (show Calls _ _ _ _ _ from HN).mono ?_
  rintro e w1 ⟨⟨q, rfl, h1, h2⟩, rfl⟩
  have HM := hid (mend_up h1 h2)
  rw [show _ = r from hr] at HM
  clear hr
  have hqb : ((q : Int) * (b : Int)) = ((q * b : Nat) : Int) := by rw [Int.natCast_mul]
  have l1 : q * b < 2 ^ 41 := by omega
  have lq : q < 2 ^ 41 := by
    have hb : 0 < b := Nat.pos_of_ne_zero (by rintro rfl; omega)
    exact Nat.lt_of_le_of_lt (Nat.le_mul_of_pos_right q hb) l1
  generalize q * b = y at *
  have hwy : IntKind.i64.wrap (y : Int) = (y : Int) := by rw [IntKind.wrap_i64]; omega
  by_cases c : y < n
  · have HR := hid ((show _ ∧ _ from HM).1 c)
    have ci : (y : Int) < (n : Int) := by omega
    have hw : IntKind.i64.wrap ((q : Int) + 1) = (q : Int) + 1 := by rw [IntKind.wrap_i64]; omega
    go_wp2
    go_ret
    exact ⟨congrArg (fun z => Ending.returned (.int .i64 z)) HR, rfl⟩
  · have HR := hid ((show _ ∧ _ from HM).2 c)
    have ci : ¬ (y : Int) < (n : Int) := by omega
    go_wp2
    go_ret
    exact ⟨congrArg (fun z => Ending.returned (.int .i64 z)) HR, rfl⟩

end Go.Proofs.YtjjkppknojecjaaGreatDoor

namespace Go.Proofs.YtjjkppknojecjaaGreatDoor
open Go.RowKit
set_option linter.unusedVariables false
set_option maxRecDepth 100000

theorem down_int (n b : Int) (w : World) (hn0 : 0 ≤ n) (hn : n < 1000000000000) (hb0 : 1 ≤ b) (hb : b < 1000000000000) :
    Calls Tryz.prog 127 #[.int .i64 n, .int .i64 b] w fun e w' => e = .returned (.int .i64 (n / b)) ∧ w' = w := by
  obtain ⟨n, rfl⟩ := Int.eq_ofNat_of_zero_le hn0
  obtain ⟨b, rfl⟩ := Int.eq_ofNat_of_zero_le (show 0 ≤ b by omega)
  exact (down_any n b _ rfl w (by omega) (by omega) (by omega)).mono fun e w' ⟨h1, h2⟩ => ⟨h1, h2⟩
theorem up_int (n b : Int) (w : World) (hn0 : 0 ≤ n) (hn : n < 1000000000000) (hb0 : 1 ≤ b) (hb : b < 1000000000000) :
    Calls Tryz.prog 125 #[.int .i64 n, .int .i64 b] w fun e w' => e = .returned (.int .i64 ((n + b - 1) / b)) ∧ w' = w := by
  obtain ⟨n, rfl⟩ := Int.eq_ofNat_of_zero_le hn0
  obtain ⟨b, rfl⟩ := Int.eq_ofNat_of_zero_le (show 0 ≤ b by omega)
  refine (up_any n b _ rfl w (by omega) (by omega) (by omega)).mono fun e w' ⟨h1, h2⟩ => ⟨?_, h2⟩
  rw [h1]
  have e1 : ((n + b - 1 : Nat) : Int) = (n : Int) + (b : Int) - 1 := by omega
  rw [← e1]
  rfl

theorem latQ_up (r x : Int) : ((x + 1) * 1000 + (1000 - r) - 1) / (1000 - r) = latQ r x := by
  unfold latQ
  congr 1
  omega

theorem latest1_any (x r : Int) (p : Addr) (w : World) (hx0 : 0 ≤ x) (hx : x ≤ 100000) (hr0 : 0 ≤ r) (hr : r ≤ 500) (hc : w.cell? p = some (.int .i64 r)) :
    Calls Tryz.prog 124 #[.int .i64 x, .pointer (some p)] w fun e w' => e = .returned (.int .i64 (latQ r x)) ∧ w' = w := by
  have HQ := hidB (latQ_up r x)
  go_enter Tryz.func124, Tryz.ntmps124
  go_wp2_with fail
  refine (up_int ((x + 1) * 1000) (1000 - r) _ (by omega) (by omega) (by omega) (by omega)).mono ?_
  rintro e w1 ⟨rfl, rfl⟩
  go_wp2
  go_ret
  rw [← show _ = latQ r x from HQ]
  exact ⟨rfl, rfl⟩
theorem earliest1_any (x r : Int) (p : Addr) (w : World) (hx0 : 1 ≤ x) (hx : x ≤ 100000) (hr0 : 0 ≤ r) (hr : r ≤ 500) (hc : w.cell? p = some (.int .i64 r)) :
    Calls Tryz.prog 126 #[.int .i64 x, .pointer (some p)] w fun e w' => e = .returned (.int .i64 (earQ r x)) ∧ w' = w := by
  go_enter Tryz.func126, Tryz.ntmps126
  go_wp2_with fail
  refine (down_int ((x - 1) * 1000) (1000 + r) _ (by omega) (by omega) (by omega) (by omega)).mono ?_
  rintro e w1 ⟨rfl, rfl⟩
  go_wp2
  go_ret
  exact ⟨rfl, rfl⟩

theorem latestBy_any (r : Int) (w : World) :
    Calls Tryz.prog 94 #[.int .i64 r] w fun e w' => e = .returned (.func (.func 124) #[] #[.pointer (some ⟨w.heap.size, 0, none⟩)]) ∧ w'.cell? ⟨w.heap.size, 0, none⟩ = some (.int .i64 r) ∧ w.heap.size < w'.heap.size ∧ Below w.heap.size w w' := by
  have hmf : ∀ (fn : Fn) (first cap : Array Value) (w : World), (Instr.makeFunc fn first cap).run Tryz.prog w = .ok (.func fn first cap) w := fun _ _ _ _ => rfl
  go_enter Tryz.func94, Tryz.ntmps94
  go_wp2
  go_ret
  exact ⟨rfl, by simp [go_sem], by simp, Joins.below_alloc1 _ _⟩
theorem earliestBy_any (r : Int) (w : World) :
    Calls Tryz.prog 95 #[.int .i64 r] w fun e w' => e = .returned (.func (.func 126) #[] #[.pointer (some ⟨w.heap.size, 0, none⟩)]) ∧ w'.cell? ⟨w.heap.size, 0, none⟩ = some (.int .i64 r) ∧ w.heap.size < w'.heap.size ∧ Below w.heap.size w w' := by
  have hmf : ∀ (fn : Fn) (first cap : Array Value) (w : World), (Instr.makeFunc fn first cap).run Tryz.prog w = .ok (.func fn first cap) w := fun _ _ _ _ => rfl
  go_enter Tryz.func95, Tryz.ntmps95
  go_wp2
  go_ret
  exact ⟨rfl, by simp [go_sem], by simp, Joins.below_alloc1 _ _⟩

theorem latestBy_keep (r : Int) (p : Addr) (v : Value) (w : World) (hp : w.cell? p = some v) :
    Calls Tryz.prog 94 #[.int .i64 r] w fun e w' => e = .returned (.func (.func 124) #[] #[.pointer (some ⟨w.heap.size, 0, none⟩)]) ∧ w'.cell? p = some v ∧ Hid (w'.cell? ⟨w.heap.size, 0, none⟩ = some (.int .i64 r) ∧ w.heap.size < w'.heap.size ∧ Below w.heap.size w w') :=
  (latestBy_any r w).mono fun e w' ⟨h1, h2, h3, h4⟩ => ⟨h1, (h4.cell (World.block_lt_of_cell? _ _ hp)).trans hp, hidB ⟨h2, h3, h4⟩⟩
theorem earliestBy_keep (r : Int) (p : Addr) (v : Value) (w : World) (hp : w.cell? p = some v) :
    Calls Tryz.prog 95 #[.int .i64 r] w fun e w' => e = .returned (.func (.func 126) #[] #[.pointer (some ⟨w.heap.size, 0, none⟩)]) ∧ w'.cell? p = some v ∧ Hid (w'.cell? ⟨w.heap.size, 0, none⟩ = some (.int .i64 r) ∧ w.heap.size < w'.heap.size ∧ Below w.heap.size w w') :=
  (earliestBy_any r w).mono fun e w' ⟨h1, h2, h3, h4⟩ => ⟨h1, (h4.cell (World.block_lt_of_cell? _ _ hp)).trans hp, hidB ⟨h2, h3, h4⟩⟩

end Go.Proofs.YtjjkppknojecjaaGreatDoor

namespace Go.Proofs.YtjjkppknojecjaaGreatDoor
open Go.RowKit
set_option linter.unusedVariables false
set_option maxRecDepth 100000

def cokB (f d l r : Int) : Bool := cfgB f d l r && decide (latQ r f + l < earQ r d)
theorem cok_no {f d l r : Int} (h : cfgB f d l r = false) : cokB f d l r = false := by simp [cokB, h]
theorem cok_yes {f d l r : Int} (h : cfgB f d l r = true) : cokB f d l r = decide (latQ r f + l < earQ r d) := by simp [cokB, h]
theorem latQ_le {r x : Int} (hr0 : 0 ≤ r) (hr : r ≤ 500) (hx0 : 0 ≤ x) (hx : x ≤ 100000) : 0 ≤ latQ r x ∧ latQ r x ≤ 1000000 := by
  unfold latQ
  refine ⟨Int.ediv_nonneg (by omega) (by omega), ?_⟩
  exact Int.le_of_lt_add_one (Int.ediv_lt_of_lt_mul (by omega) (by
    have : (1000000 + 1) * 500 ≤ (1000000 + 1) * (1000 - r) := Int.mul_le_mul_of_nonneg_left (by omega) (by omega)
    omega))
theorem earQ_le {r x : Int} (hr0 : 0 ≤ r) (hr : r ≤ 500) (hx0 : 1 ≤ x) (hx : x ≤ 100000) : 0 ≤ earQ r x ∧ earQ r x ≤ 100000000 := by
  unfold earQ
  refine ⟨Int.ediv_nonneg (by omega) (by omega), ?_⟩
  exact Int.le_trans (Int.ediv_le_self _ (by omega)) (Int.le_trans (b := 99999000) (by omega) (by omega))

set_option maxHeartbeats 1600000 in
theorem configOK_impl (f d l r : Int) (w : World) : Calls Tryz.prog 54 #[cfgV f d l r] w fun e w' => e = .returned (.bool (cokB f d l r)) ∧ Below w.heap.size w w' := by
  have f0 := fieldC0 f d l r
  have f1 := fieldC1 f d l r
  have f2 := fieldC2 f d l r
  have f3 := fieldC3 f d l r
  by_cases hb : cfgB f d l r = false
  · have hr := hidB (cok_no hb)
    go_enter Tryz.func54, Tryz.ntmps54
    go_wp2_with fail
    refine (bounds_impl f d l r _).mono ?_
    rintro e w1 ⟨rfl, hw⟩
    have HW := hidB hw
    clear hw
    go_wp2
    go_ret
    rw [show cokB f d l r = false from hr]
    exact ⟨rfl, (Joins.below_alloc1 _ _).trans (Below.mono HW (by simp))⟩
  rw [Bool.not_eq_false] at hb
  have hr := hidB (cok_yes hb)
  obtain ⟨⟨bf0, bf1⟩, ⟨bd0, bd1⟩, ⟨bl0, bl1⟩, br0, br1⟩ := cfgB_iff.1 hb
  obtain ⟨ql0, ql1⟩ := latQ_le (x := f) br0 br1 (by omega) (by omega)
  obtain ⟨qe0, qe1⟩ := earQ_le (x := d) br0 br1 (by omega) (by omega)
  go_enter Tryz.func54, Tryz.ntmps54
  go_wp2_with fail
  refine (bounds_impl f d l r _).mono ?_
  rintro e w1 ⟨rfl, hw⟩
  have HB1 := hidB ((Joins.below_alloc1 w _).trans (Below.mono hw (by simp)))
  have c0 := hidB ((hw.cell (p := ⟨w.heap.size, 0, none⟩) (by simp)).trans (by simp [go_sem] : _ = some (.int .i64 f)))
  have c1 := hidB ((hw.cell (p := ⟨w.heap.size, 1, none⟩) (by simp)).trans (by simp [go_sem] : _ = some (.int .i64 d)))
  have c2 := hidB ((hw.cell (p := ⟨w.heap.size, 2, none⟩) (by simp)).trans (by simp [go_sem] : _ = some (.int .i64 l)))
  have c3 := (hw.cell (p := ⟨w.heap.size, 3, none⟩) (by simp)).trans (by simp [go_sem] : _ = some (.int .i64 r))
  have hz : w.heap.size < w1.heap.size := Nat.lt_of_lt_of_le (by simp) hw.size
  clear hw
  go_wp2_with fail
  go_region_held3 (fun w' => w'.cell? ⟨w.heap.size, 3, none⟩ = some (.int .i64 r)) (go_keep)
    (first
      | (go_at_call 94; refine (latestBy_keep r ⟨w.heap.size, 3, none⟩ (.int .i64 r) _ ?_).mono ?_; (simp [*]); rintro e wA ⟨rfl, hA0, hA1⟩)
      | (go_at_call 95; refine (earliestBy_keep r ⟨w.heap.size, 3, none⟩ (.int .i64 r) _ ?_).mono ?_; (simp [*]); rintro e wB ⟨rfl, hB0, hB1⟩))
  obtain ⟨a0, a1, a2⟩ := show _ ∧ _ ∧ _ from hA1
  obtain ⟨e0, e1, e2⟩ := show _ ∧ _ ∧ _ from hB1
  have a3 : Below w1.heap.size w1 wA := (Below.refl _ w1).drew.trans a2
  have HBB := hidB ((show Below w.heap.size w w1 from HB1).trans ((a3.trans (e2.mono a3.size)).mono (Nat.le_of_lt hz)))
  have l0 : w.heap.size < wA.heap.size := Nat.lt_of_lt_of_le hz a3.size
  have k0 := hidB ((e2.cell (p := ⟨w.heap.size, 0, none⟩) l0).trans ((a3.cell (p := ⟨w.heap.size, 0, none⟩) hz).trans c0))
  have k1 := hidB ((e2.cell (p := ⟨w.heap.size, 1, none⟩) l0).trans ((a3.cell (p := ⟨w.heap.size, 1, none⟩) hz).trans c1))
  have k2 := hidB ((e2.cell (p := ⟨w.heap.size, 2, none⟩) l0).trans ((a3.cell (p := ⟨w.heap.size, 2, none⟩) hz).trans c2))
  have k3 := hidB ((e2.cell (p := ⟨w1.heap.size, 0, none⟩) a1).trans a0)
  have k4 := hidB e0
  have wr : IntKind.i64.wrap (latQ r f + l) = latQ r f + l := by rw [IntKind.wrap_i64]; omega
  clear hA0 hA1 hB0 hB1 a0 a1 a2 e0 e1 e2 a3 l0 c0 c1 c2 c3 hz HB1
  generalize w1.heap.size = h1 at *
  generalize wA.heap.size = h2 at *
  have k0' : wB.cell? ⟨w.heap.size, 0, none⟩ = some (.int .i64 f) := k0
  have k1' : wB.cell? ⟨w.heap.size, 1, none⟩ = some (.int .i64 d) := k1
  have k2' : wB.cell? ⟨w.heap.size, 2, none⟩ = some (.int .i64 l) := k2
  have k3' : wB.cell? ⟨h1, 0, none⟩ = some (.int .i64 r) := k3
  have k4' : wB.cell? ⟨h2, 0, none⟩ = some (.int .i64 r) := k4
  go_wp2_with fail
  go_region_held3 (fun w' => w'.cell? ⟨w.heap.size, 0, none⟩ = some (.int .i64 f) ∧ w'.cell? ⟨w.heap.size, 1, none⟩ = some (.int .i64 d) ∧ w'.cell? ⟨w.heap.size, 2, none⟩ = some (.int .i64 l) ∧ w'.cell? ⟨h1, 0, none⟩ = some (.int .i64 r) ∧ w'.cell? ⟨h2, 0, none⟩ = some (.int .i64 r)) (go_keep)
    (first
      | (go_at_call 124; refine (latest1_any f r ⟨h1, 0, none⟩ _ (by omega) (by omega) (by omega) (by omega) ?_).mono ?_; (simp [*]); rintro e wC ⟨rfl, rfl⟩)
      | (go_at_call 126; refine (earliest1_any d r ⟨h2, 0, none⟩ _ (by omega) (by omega) (by omega) (by omega) ?_).mono ?_; (simp [*]); rintro e wD ⟨rfl, rfl⟩))
  all_goals go_wp2
  all_goals go_ret
  all_goals rw [show cokB f d l r = decide (latQ r f + l < earQ r d) from hr]
  all_goals exact ⟨rfl, by repeat (first | exact HBB | refine Below.drew ?_)⟩

end Go.Proofs.YtjjkppknojecjaaGreatDoor

namespace Go.Proofs.YtjjkppknojecjaaGreatDoor
open Go.RowKit
set_option linter.unusedVariables false
set_option maxRecDepth 100000

def hs1 (t : Int) (x : Hst) : Bool := betw x.st 0 2 && (betw x.gen 0 1000000 && betw x.ren 0 t)
def hsB (hs : List Hst) (t : Int) : Bool := decide (hs.length = 4) && hs.all (hs1 t)
def maybB (q : Rq) : Bool := eqR q rq0 || rqB q
def wokB (m : Wld) : Bool := diskB m.ss m.xs && (decide (m.xs.length = 0) && (cokB m.cf m.cd m.cl m.cr && (betw m.t 0 1000000 && (hsB m.hs m.t && (gsB m.g && maybB m.q)))))
theorem hs_len {hs : List Hst} {t : Int} (h : ¬ hs.length = 4) : hsB hs t = false := by rw [hsB, decide_eq_false h]; rfl
theorem hs_bad {hs : List Hst} {t : Int} {k : Nat} (hk : k < hs.length) (h : hs1 t hs[k] = false) : hsB hs t = false := by
  rw [hsB, List.all_eq_false.2 ⟨_, List.getElem_mem hk, by rw [h]; decide⟩, Bool.and_false]
theorem hs_all {hs : List Hst} {t : Int} (h4 : hs.length = 4) (h : ∀ j (hj : j < hs.length), hs1 t hs[j] = true) : hsB hs t = true := by
  rw [hsB, decide_eq_true h4, Bool.true_and, List.all_eq_true]
  intro x hx
  obtain ⟨j, hj, rfl⟩ := List.mem_iff_getElem.1 hx
  exact h j hj
theorem hs1_1 {t : Int} {x : Hst} (h : betw x.st 0 2 = false) : hs1 t x = false := by rw [hs1, h]; rfl
theorem hs1_2 {t : Int} {x : Hst} (h : betw x.gen 0 1000000 = false) : hs1 t x = false := by rw [hs1, h, Bool.false_and, Bool.and_false]
theorem hs1_3 {t : Int} {x : Hst} (h1 : betw x.st 0 2 = true) (h2 : betw x.gen 0 1000000 = true) : hs1 t x = betw x.ren 0 t := by rw [hs1, h1, h2]; rfl
theorem wok_0 {m : Wld} (h : diskB m.ss m.xs = false) : wokB m = false := by rw [wokB, h]; rfl
theorem wok_x {m : Wld} (h : ¬ m.xs.length = 0) : wokB m = false := by rw [wokB, decide_eq_false h, Bool.false_and, Bool.and_false]
theorem wok_1 {m : Wld} (h : cokB m.cf m.cd m.cl m.cr = false) : wokB m = false := by rw [wokB, h]; simp
theorem wok_2 {m : Wld} (h : betw m.t 0 1000000 = false) : wokB m = false := by rw [wokB, h]; simp
theorem wok_3 {m : Wld} (h : hsB m.hs m.t = false) : wokB m = false := by rw [wokB, h]; simp
theorem wok_4 {m : Wld} (h : gsB m.g = false) : wokB m = false := by rw [wokB, h]; simp
theorem wok_6 {m : Wld} (h : maybB m.q = false) : wokB m = false := by rw [wokB, h]; simp
theorem wok_all {m : Wld} (h0 : diskB m.ss m.xs = true) (hx : m.xs.length = 0) (h1 : cokB m.cf m.cd m.cl m.cr = true) (h2 : betw m.t 0 1000000 = true) (h3 : hsB m.hs m.t = true) (h4 : gsB m.g = true) : wokB m = maybB m.q := by rw [wokB, h0, decide_eq_true hx, h1, h2, h3, h4]; rfl
theorem wok_h {m : Wld} (h0 : diskB m.ss m.xs = true) (hx : m.xs.length = 0) (h1 : cokB m.cf m.cd m.cl m.cr = true) (h2 : betw m.t 0 1000000 = true) (h4 : gsB m.g = true) (h6 : maybB m.q = true) : wokB m = hsB m.hs m.t := by rw [wokB, h0, decide_eq_true hx, h1, h2, h4, h6]; simp
theorem mayb_no {q : Rq} (h : eqR q ⟨0, 0, 0, noB⟩ = false) : maybB q = rqB q := by
  unfold maybB
  rw [show eqR q rq0 = false from h]; rfl
theorem mayb_yes {q : Rq} (h : eqR q ⟨0, 0, 0, noB⟩ = true) : maybB q = true := by
  unfold maybB
  rw [show eqR q rq0 = true from h]; rfl

end Go.Proofs.YtjjkppknojecjaaGreatDoor

namespace Go.Proofs.YtjjkppknojecjaaGreatDoor
open Go.RowKit
set_option linter.unusedVariables false
set_option maxRecDepth 100000

structure WlZ (m : Wld) : Prop where
  s : ∀ s ∈ m.ss, s.size ≤ maxLen
  x : ∀ x ∈ m.xs, x.data.size ≤ maxLen
  g : ∀ s ∈ m.g.shots, s.name.size ≤ maxLen ∧ s.table.length ≤ maxLen
theorem WlZ.of {w : World} {a : Wl4} {m : Wld} (h : WlS w a m) : WlZ m := ⟨h.s.sizes, h.i.sizes, fun s hs => by
  obtain ⟨j, hj, rfl⟩ := List.mem_iff_getElem.1 hs
  obtain ⟨_, _, _, _, _, _, _, _, h1, h2⟩ := h.g.s j hj
  exact ⟨h1, h2⟩⟩
theorem OwnWl.shw {w : World} {B : Nat} {a : Wl4} {m : Wld} {ts : List Value} (h : OwnWl w B a m ts) (hz : WlZ m) : WlS w a m := h.shows hz.s hz.x hz.g
structure LwW (W : World) (p n : Nat) (a : Wl4) (m : Wld) (ts : List Value) : Prop where
  v : VarW W p 50 a m
  o : OwnWl W n a m ts
  n : n ≤ W.heap.size
theorem LwW.new (W : World) (a : Wl4) (m : Wld) {n : Nat} {ts : List Value} (h : OwnWl W n a m ts) (hn : n ≤ W.heap.size) : LwW (W.alloc (.cells (wlC a m) 50)) W.heap.size n a m ts :=
  ⟨VarW.new W _ _ _, h.below (Joins.below_alloc1 _ _), by simp; omega⟩
theorem LwW.below {W W' : World} {p n : Nat} {a : Wl4} {m : Wld} {ts : List Value} (h : LwW W p n a m ts) (hb : Below W.heap.size W W') : LwW W' p n a m ts := ⟨h.v.below hb, h.o.below hb, Nat.le_trans h.n hb.size⟩
theorem VarW.one {w : World} {x t : Nat} {a b : Wl4} {m n : Wld} (h : VarW w x t a m) (i : Nat) (u : Value) (e : (wlC a m).setIfInBounds i u = wlC b n) : VarW (w.setCell ⟨x, i, none⟩ u) x t b n := by
  unfold VarW; rw [← e]; exact set_wl (i := i) h u

end Go.Proofs.YtjjkppknojecjaaGreatDoor
