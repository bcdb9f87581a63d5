import Derived.Laws.FloatArith
import Derived.KernelRfl
import Derived.Test.YtjjkppknojecjaaGreatRows
import Derived.WalkKit
import Derived.WalkSpells
import Derived.WalkLawsBesides
import Derived.Laws.Externs
import Derived.Laws.Bits64b
import Derived.Laws.BitsAllLaws
import Derived.Test.YtjjkppknojecjaaGreatXPlainWorldPart1
import Derived.Lib.SmallJoins
import Derived.Deep.RegionHeld3
import Derived.Test.YtjjkppknojecjaaGreatXPlainWorldPart3
import Derived.Test.YtjjkppknojecjaaGreatXPlainWorldPart5
import Derived.Laws.CopyRow
import Derived.Laws.CopyOwn
import Derived.Deep.RegionWith
import Derived.Outline

namespace Go.Proofs.YtjjkppknojecjaaGreat
open Ieee

theorem log2_of {n L : Nat} (h1 : 2 ^ L ≤ n) (h2 : n < 2 ^ (L + 1)) : n.log2 = L := by
  have hn : n ≠ 0 := by
    have := Nat.two_pow_pos L
    omega
  have a := (Nat.le_log2 hn).2 h1
  have b := (Nat.log2_lt hn).2 h2
  omega

theorem log2_bounds {n : Nat} (hn : n ≠ 0) : 2 ^ n.log2 ≤ n ∧ n < 2 ^ (n.log2 + 1) :=
  ⟨(Nat.le_log2 hn).1 (Nat.le_refl _), (Nat.log2_lt hn).1 (Nat.lt_succ_self _)⟩

theorem cut_even {neg : Bool} {n drop : Nat} (hd : drop ≤ n.log2 + 2) :
    2 * (Toward.even.cut neg n drop * 2 ^ drop) ≤ 2 * n + 2 ^ drop ∧ 2 * n ≤ 2 * (Toward.even.cut neg n drop * 2 ^ drop) + 2 ^ drop := by
  unfold Toward.cut
  simp only [Nat.min_eq_left hd, Nat.one_shiftLeft]
  have hg : 0 < 2 ^ drop := Nat.two_pow_pos drop
  generalize 2 ^ drop = g at *
  have e := Nat.div_add_mod n g
  have l := Nat.mod_lt n hg
  rw [Nat.mul_comm] at e
  generalize n / g = a at *
  generalize n % g = r at *
  by_cases c : (decide (g < 2 * r) || (g == 2 * r && a % 2 == 1)) = true
  · rw [c]
    simp only [Bool.toNat_true, Nat.add_mul, Nat.one_mul]
    simp only [Bool.or_eq_true, decide_eq_true_eq, Bool.and_eq_true, beq_iff_eq] at c
    generalize a * g = ag at *
    omega
  · rw [Bool.not_eq_true] at c
    rw [c]
    simp only [Bool.toNat_false, Nat.add_zero]
    simp only [Bool.or_eq_false_iff, decide_eq_false_iff_not] at c
    generalize a * g = ag at *
    omega

theorem cut_zero (way : Toward) (neg : Bool) (n : Nat) : way.cut neg n 0 = n := by
  unfold Toward.cut
  cases way <;> simp [Nat.mod_one]

theorem read_normal {E k : Nat} (h1 : 2 ^ 52 ≤ k) (h2 : k < 2 ^ 53) (hE : E ≤ 2045) :
    double.read (E * 2 ^ 52 + k) = .number false k (-1074 + (E : Int)) := by
  have hb : double.binade = 2 ^ 52 := rfl
  have hs : double.signWeight = 2 ^ 63 := rfl
  have hi : double.infRung = 2047 * 2 ^ 52 := rfl
  have hl : double.leastPlace = -1074 := rfl
  have lt : E * 2 ^ 52 + k < 2047 * 2 ^ 52 := by omega
  unfold Format.read
  simp only [hb, hs, hi, hl]
  have e1 : (E * 2 ^ 52 + k) / 2 ^ 63 = 0 := Nat.div_eq_of_lt (by omega)
  have e2 : (E * 2 ^ 52 + k) % 2 ^ 63 = E * 2 ^ 52 + k := Nat.mod_eq_of_lt (by omega)
  rw [e1, e2]
  rw [if_neg (by omega), if_pos lt]
  have e3 : (E * 2 ^ 52 + k) / 2 ^ 52 = E + 1 := by omega
  have e4 : (E * 2 ^ 52 + k) % 2 ^ 52 = k - 2 ^ 52 := by omega
  rw [e3, e4]
  have e5 : 2 ^ 52 + (k - 2 ^ 52) = k := by omega
  rw [e5]
  rfl

theorem nearest_normal {M s : Nat} {p : Int} (hM : 2 ^ 52 ≤ M) (hs : M.log2 = 52 + s) (hp : -1074 ≤ p + s) (hq : p + s ≤ 900) :
    double.nearest false M p = (p + s + 1074).toNat * 2 ^ 52 + Toward.even.cut false M s := by
  have hb : double.binade = 2 ^ 52 := rfl
  have hf : double.fractionBits = 52 := rfl
  have hi : double.infRung = 2047 * 2 ^ 52 := rfl
  have hl : double.leastPlace = -1074 := rfl
  have h0 : M ≠ 0 := by omega
  unfold Format.nearest
  rw [if_neg h0]
  simp only [hb, hf, hi, hl, hs]
  have e1 : max (p + ((52 + s : Nat) : Int) - ((52 : Nat) : Int)) (-1074) = p + s := by omega
  rw [e1]
  have e2 : (p - (p + s)).toNat = 0 := by omega
  have e3 : (p + (s : Int) - p).toNat = s := by omega
  have e4 : p + (s : Int) - (-1074) = p + s + 1074 := by omega
  rw [e2, e3, e4, Nat.shiftLeft_zero]
  have hc := (cut_even (neg := false) (n := M) (drop := s) (by omega)).1
  have hlt : M < 2 ^ (s + 53) := by
    have := (log2_bounds h0).2
    rw [hs] at this
    rwa [show 52 + s + 1 = s + 53 by omega] at this
  have hk : Toward.even.cut false M s ≤ 2 ^ 53 := by
    generalize Toward.even.cut false M s = c at *
    rw [Nat.pow_add] at hlt
    have hg : 0 < 2 ^ s := Nat.two_pow_pos s
    generalize 2 ^ s = g at *
    refine Nat.le_of_not_lt fun hh => ?_
    have := Nat.mul_le_mul_right g (show 2 ^ 53 + 1 ≤ c by omega)
    rw [Nat.add_mul, Nat.mul_comm (2 ^ 53) g] at this
    omega
  have hr : (p + (s : Int) + 1074).toNat ≤ 1974 := by omega
  rw [Nat.min_eq_left (by omega)]
  rfl

theorem nearest_whole {n L : Nat} (hn : n ≠ 0) (hL : n.log2 = L) (h : L ≤ 52) :
    floatOfInt .f64 (n : Int) = (L + 1022) * 2 ^ 52 + n * 2 ^ (52 - L) := by
  have hb : double.binade = 2 ^ 52 := rfl
  have hf : double.fractionBits = 52 := rfl
  have hi : double.infRung = 2047 * 2 ^ 52 := rfl
  have hl : double.leastPlace = -1074 := rfl
  unfold floatOfInt FloatKind.nearest FloatKind.encode FloatKind.format Format.write
  simp only
  have e0 : decide ((n : Int) < 0) = false := decide_eq_false (by omega)
  rw [e0, Int.natAbs_natCast]
  unfold Format.nearest
  rw [if_neg hn]
  simp only [hb, hf, hi, hl, hL]
  have e1 : max ((0 : Int) + (L : Int) - ((52 : Nat) : Int)) (-1074) = (L : Int) - 52 := by omega
  rw [e1]
  have e2 : ((0 : Int) - ((L : Int) - 52)).toNat = 52 - L := by omega
  have e3 : ((L : Int) - 52 - 0).toNat = 0 := by omega
  have e4 : ((L : Int) - 52 - (-1074)).toNat = L + 1022 := by omega
  rw [e2, e3, e4, cut_zero, Nat.shiftLeft_eq]
  have hlt : n * 2 ^ (52 - L) < 2 ^ 53 := by
    have := (log2_bounds hn).2
    rw [hL] at this
    have h2 := Nat.mul_lt_mul_of_pos_right this (Nat.two_pow_pos (52 - L))
    rw [← Nat.pow_add, show L + 1 + (52 - L) = 53 by omega] at h2
    exact h2
  rw [Nat.min_eq_left (by omega)]
  rfl

theorem whole_range {n L : Nat} (hn : n ≠ 0) (hL : n.log2 = L) (h : L ≤ 52) :
    2 ^ 52 ≤ n * 2 ^ (52 - L) ∧ n * 2 ^ (52 - L) < 2 ^ 53 := by
  have hb := log2_bounds hn
  rw [hL] at hb
  have hp := Nat.two_pow_pos (52 - L)
  have h2 := Nat.mul_lt_mul_of_pos_right hb.2 hp
  have h1 := Nat.mul_le_mul_right (2 ^ (52 - L)) hb.1
  rw [← Nat.pow_add, show L + 1 + (52 - L) = 53 by omega] at h2
  rw [← Nat.pow_add, show L + (52 - L) = 52 by omega] at h1
  exact ⟨h1, h2⟩

theorem read_whole {n L : Nat} (hn : n ≠ 0) (hL : n.log2 = L) (h : L ≤ 52) :
    double.read (floatOfInt .f64 (n : Int)) = .number false (n * 2 ^ (52 - L)) ((L : Int) - 52) := by
  have hr := whole_range hn hL h
  rw [nearest_whole hn hL h, read_normal hr.1 hr.2 (by omega)]
  have e : -1074 + ((L + 1022 : Nat) : Int) = (L : Int) - 52 := by omega
  rw [e]

def roundW (r : Nat) : Nat :=
  if r / 2 ^ 52 < 1023 then (if r / 2 ^ 52 = 1022 then 1023 * 2 ^ 52 else 0)
  else if r / 2 ^ 52 < 1075 then
    (r + 2 ^ (1074 - r / 2 ^ 52)) / 2 ^ (1075 - r / 2 ^ 52) * 2 ^ (1075 - r / 2 ^ 52)
  else r

theorem toInt_number {m t q : Nat} {i : Int} (hi : i = -(t : Int)) (hm : m = q * 2 ^ t) :
    (Datum.number false m i).toInt .zero = some (q : Int) := by
  subst hi hm
  unfold Datum.toInt Datum.integral
  have e1 : (-(t : Int)).toNat = 0 := by omega
  have e2 : (-(-(t : Int))).toNat = t := by omega
  simp only [e1, e2, Nat.shiftLeft_zero]
  have hc : Toward.zero.cut false (q * 2 ^ t) t = q := by
    unfold Toward.cut
    simp only [Bool.toNat_false, Nat.add_zero]
    by_cases hq : q = 0
    · subst hq; simp
    · have hle : t ≤ (q * 2 ^ t).log2 + 2 := by
        have : 2 ^ t ≤ q * 2 ^ t := Nat.le_mul_of_pos_left _ (by omega)
        have := (Nat.le_log2 (by have := Nat.two_pow_pos t; omega)).2 this
        omega
      rw [Nat.min_eq_left hle, Nat.one_shiftLeft, Nat.mul_div_cancel _ (Nat.two_pow_pos t)]
  rw [hc]
  simp [signed]

theorem round_toInt {E k t : Nat} (h1 : 2 ^ 52 ≤ k) (h2 : k < 2 ^ 53) (hE : E + t = 1074) (ht : 1 ≤ t) :
    (FloatKind.f64.decode (roundW (E * 2 ^ 52 + k))).toInt .zero = some (((k + 2 ^ (t - 1)) / 2 ^ t : Nat) : Int) := by
  have e0 : (E * 2 ^ 52 + k) / 2 ^ 52 = E + 1 := by omega
  unfold roundW FloatKind.decode FloatKind.format
  simp only [e0]
  by_cases c1 : E + 1 < 1023
  · rw [if_pos c1]
    by_cases c2 : E + 1 = 1022
    · rw [if_pos c2]
      have : t = 53 := by omega
      subst this
      have e : (k + 2 ^ (53 - 1)) / 2 ^ 53 = 1 := by omega
      rw [e]
      decide
    · rw [if_neg c2]
      have hlt : 2 ^ 53 ≤ 2 ^ (t - 1) := Nat.pow_le_pow_right (by decide) (by omega)
      have h3 : 2 ^ t = 2 * 2 ^ (t - 1) := by
        rw [← Nat.pow_succ', show (t - 1).succ = t by omega]
      have e : (k + 2 ^ (t - 1)) / 2 ^ t = 0 := Nat.div_eq_of_lt (by omega)
      rw [e]
      decide
  · rw [if_neg c1, if_pos (by omega)]
    have et : 1075 - (E + 1) = t := by omega
    have et1 : 1074 - (E + 1) = t - 1 := by omega
    rw [et, et1]
    -- j: the exponent
    obtain ⟨j, hj⟩ : ∃ j, t + j = 52 := ⟨52 - t, by omega⟩
    have hE' : E = 1022 + j := by omega
    subst hE'
    have hp : 0 < 2 ^ t := Nat.two_pow_pos t
    have hmul : (2 : Nat) ^ 52 = 2 ^ j * 2 ^ t := by rw [← Nat.pow_add, show j + t = 52 by omega]
    have e1 : ((1022 + j) * 2 ^ 52 + k + 2 ^ (t - 1)) / 2 ^ t = (1022 + j) * 2 ^ j + (k + 2 ^ (t - 1)) / 2 ^ t := by
      rw [hmul, ← Nat.mul_assoc, Nat.add_assoc, Nat.add_comm, Nat.add_mul_div_right _ _ hp, Nat.add_comm]
    rw [e1]
    have h3 : 2 ^ t = 2 * 2 ^ (t - 1) := by
      rw [← Nat.pow_succ', show (t - 1).succ = t by omega]
    have q1 : 2 ^ j ≤ (k + 2 ^ (t - 1)) / 2 ^ t := by
      rw [Nat.le_div_iff_mul_le hp, ← hmul]; omega
    have q2 : (k + 2 ^ (t - 1)) / 2 ^ t ≤ 2 ^ (j + 1) := by
      refine Nat.le_of_lt_succ ?_
      rw [Nat.div_lt_iff_lt_mul hp, Nat.succ_mul, Nat.pow_succ, Nat.mul_comm (2 ^ j) 2, Nat.mul_assoc, ← hmul]
      omega
    generalize (k + 2 ^ (t - 1)) / 2 ^ t = q at *
    rw [Nat.add_mul, Nat.mul_assoc, ← hmul]
    by_cases c : q < 2 ^ (j + 1)
    · have r1 : 2 ^ 52 ≤ q * 2 ^ t := by rw [hmul]; exact Nat.mul_le_mul_right _ q1
      have r2 : q * 2 ^ t < 2 ^ 53 := by
        have := Nat.mul_lt_mul_of_pos_right c hp
        rwa [← Nat.pow_add, show j + 1 + t = 53 by omega] at this
      rw [read_normal r1 r2 (by omega)]
      exact toInt_number (t := t) (by omega) rfl
    · have : q = 2 ^ (j + 1) := by omega
      subst this
      have e2 : 2 ^ (j + 1) * 2 ^ t = 2 ^ 53 := by rw [← Nat.pow_add, show j + 1 + t = 53 by omega]
      rw [e2, show (1022 + j) * 2 ^ 52 + 2 ^ 53 = (1022 + (j + 1)) * 2 ^ 52 + 2 ^ 52 by omega, read_normal (Nat.le_refl _) (by decide) (by omega)]
      refine toInt_number (t := t - 1) (by omega) ?_
      rw [← Nat.pow_add, show j + 1 + (t - 1) = 52 by omega]

theorem round_toInt' {r E k t : Nat} (hr : r = E * 2 ^ 52 + k) (h1 : 2 ^ 52 ≤ k) (h2 : k < 2 ^ 53) (hE : E + t = 1074) (ht : 1 ≤ t) :
    (FloatKind.f64.decode (roundW r)).toInt .zero = some (((k + 2 ^ (t - 1)) / 2 ^ t : Nat) : Int) := by
  subst hr
  exact round_toInt h1 h2 hE ht

theorem carry (E : Nat) : E * 2 ^ 52 + 2 ^ 53 = (E + 1) * 2 ^ 52 + 2 ^ 52 := by omega

theorem half_carry {t : Nat} (h : 2 ≤ t) : (2 ^ 53 + 2 ^ (t - 1)) / 2 ^ t = (2 ^ 52 + 2 ^ (t - 1 - 1)) / 2 ^ (t - 1) := by
  have h3 : 2 ^ t = 2 * 2 ^ (t - 1) := by
    rw [← Nat.pow_succ', show (t - 1).succ = t by omega]
  have h4 : 2 ^ (t - 1) = 2 * 2 ^ (t - 1 - 1) := by
    rw [← Nat.pow_succ', show (t - 1 - 1).succ = t - 1 by omega]
  rw [h3, show 2 ^ 53 + 2 ^ (t - 1) = 2 * (2 ^ 52 + 2 ^ (t - 1 - 1)) by omega, Nat.mul_div_mul_left _ _ (by decide)]

theorem quo_digits {n b L B N d : Nat} (hn : n ≠ 0) (hb : b ≠ 0) (hL : n.log2 = L) (hB : b.log2 = B) (h : L ≤ 52) (h' : B ≤ 52)
    (hN : n * 2 ^ (52 - L) = N) (hd : b * 2 ^ (52 - B) = d) :
    floatBits .quo .f64 (floatOfInt .f64 (n : Int)) (floatOfInt .f64 (b : Int))
      = some (double.nearest false (2 * (N * 2 ^ 54 / d) + (N * 2 ^ 54 % d != 0).toNat) ((L : Int) - B - 55)) := by
  have hf : double.fractionBits = 52 := rfl
  have rN := whole_range hn hL h
  have rd := whole_range hb hB h'
  rw [hN] at rN
  rw [hd] at rd
  have lN : N.log2 = 52 := log2_of rN.1 rN.2
  have ld : d.log2 = 52 := log2_of rd.1 rd.2
  show (((double.read (floatOfInt .f64 (n : Int))).quotient (double.fractionBits + 2) (double.read (floatOfInt .f64 (b : Int)))).map double.write) = _
  rw [read_whole hn hL h, read_whole hb hB h', hN, hd, hf]
  unfold Datum.quotient
  dsimp only
  rw [if_neg (by omega)]
  simp only [lN, ld, Option.map_some, Nat.shiftLeft_eq, Format.write, Bool.xor_self]
  have e : (L : Int) - 52 - ((B : Int) - 52) - ((52 + 2 + 52 - 52 : Nat) : Int) - 1 = (L : Int) - B - 55 := by omega
  rw [e]

theorem guess {n b : Nat} (hb : b ≠ 0) (hn : n < 2 ^ 40) (hb' : b < 2 ^ 40) :
    ∃ x q : Nat, floatBits .quo .f64 (floatOfInt .f64 (n : Int)) (floatOfInt .f64 (b : Int)) = some x ∧ x < 2 ^ 63
      ∧ (FloatKind.f64.decode (roundW x)).toInt .zero = some (q : Int) ∧ q * b < n + b ∧ n < q * b + b := by
  by_cases h0 : n = 0
  · subst h0
    refine ⟨0, 0, ?_, by decide, by decide, by omega, by omega⟩
    have hz : floatOfInt .f64 ((0 : Nat) : Int) = 0 := by decide
    obtain ⟨B, hB⟩ : ∃ B, b.log2 = B := ⟨_, rfl⟩
    have hB' : B ≤ 52 := by
      have := (Nat.log2_lt hb).2 hb'
      omega
    have rd := whole_range hb hB hB'
    show (((double.read (floatOfInt .f64 ((0 : Nat) : Int))).quotient (double.fractionBits + 2) (double.read (floatOfInt .f64 (b : Int)))).map double.write) = _
    rw [hz, read_whole hb hB hB', show double.read 0 = .number false 0 (-1074) from by decide]
    generalize b * 2 ^ (52 - B) = d at *
    unfold Datum.quotient
    dsimp only
    rw [if_neg (by omega)]
    simp [Nat.shiftLeft_eq, Format.write, Format.nearest, Format.word]
  · obtain ⟨L, hL⟩ : ∃ L, n.log2 = L := ⟨_, rfl⟩
    obtain ⟨B, hB⟩ : ∃ B, b.log2 = B := ⟨_, rfl⟩
    have hL' : L ≤ 39 := by
      have := (Nat.log2_lt h0).2 hn
      omega
    have hB' : B ≤ 39 := by
      have := (Nat.log2_lt hb).2 hb'
      omega
    obtain ⟨N, hN⟩ : ∃ N, n * 2 ^ (52 - L) = N := ⟨_, rfl⟩
    obtain ⟨d, hd⟩ : ∃ d, b * 2 ^ (52 - B) = d := ⟨_, rfl⟩
    have rN := whole_range h0 hL (by omega)
    have rd := whole_range hb hB (by omega)
    rw [hN] at rN
    rw [hd] at rd
    rw [quo_digits h0 hb hL hB (by omega) (by omega) hN hd]
    -- the dividend and its quotient
    obtain ⟨V, hV⟩ : ∃ V, N * 2 ^ 54 = V := ⟨_, rfl⟩
    rw [hV]
    have dpos : 0 < d := by omega
    obtain ⟨M, hM⟩ : ∃ M, 2 * (V / d) + (V % d != 0).toNat = M := ⟨_, rfl⟩
    rw [hM]
    have bit : (V % d != 0).toNat ≤ 1 := Bool.toNat_le _
    have hdm := Nat.div_add_mod V d
    have hml := Nat.mod_lt V dpos
    have a1 : 2 ^ 53 ≤ V / d := by
      rw [Nat.le_div_iff_mul_le dpos]
      have := Nat.mul_le_mul_left (2 ^ 53) (Nat.le_of_lt rd.2)
      omega
    have a2 : V / d < 2 ^ 55 := by
      rw [Nat.div_lt_iff_lt_mul dpos]
      have := Nat.mul_le_mul_left (2 ^ 55) rd.1
      omega
    have m1 : M * d ≤ 2 * V + d := by
      have : M ≤ 2 * (V / d) + 1 := by omega
      have := Nat.mul_le_mul_right d this
      rw [Nat.add_mul, Nat.one_mul, Nat.mul_assoc, Nat.mul_comm (V / d) d] at this
      omega
    have m2 : 2 * V < M * d + 2 * d := by
      have : 2 * (V / d) ≤ M := by omega
      have := Nat.mul_le_mul_right d this
      rw [Nat.mul_assoc, Nat.mul_comm (V / d) d] at this
      omega
    have M1 : 2 ^ 54 ≤ M := by omega
    have M2 : M < 2 ^ 56 := by omega
    obtain ⟨s, hs, s2, s3⟩ : ∃ s, M.log2 = 52 + s ∧ 2 ≤ s ∧ s ≤ 3 := by
      by_cases c : M < 2 ^ 55
      · exact ⟨2, log2_of (by omega) (by omega), by omega, by omega⟩
      · exact ⟨3, log2_of (by omega) (by omega), by omega, by omega⟩
    have k12 := cut_even (neg := false) (n := M) (drop := s) (by omega)
    have hMl := log2_bounds (n := M) (by omega)
    rw [nearest_normal (s := s) (by omega) hs (by omega) (by omega)]
    -- t: how many digits stand behind the point
    obtain ⟨t, ht⟩ : ∃ t : Nat, (t : Int) = -((L : Int) - B - 55 + s) := ⟨(-((L : Int) - B - 55 + s)).toNat, by omega⟩
    obtain ⟨E, hE⟩ : ∃ E : Nat, ((L : Int) - B - 55 + s + 1074).toNat = E := ⟨_, rfl⟩
    rw [hE]
    have hEt : E + t = 1074 := by omega
    have t1 : 13 ≤ t := by omega
    obtain ⟨k, hk⟩ : ∃ k, Toward.even.cut false M s = k := ⟨_, rfl⟩
    rw [hk] at k12
    rw [hk]
    have gs : 4 ≤ 2 ^ s := by
      have := Nat.pow_le_pow_right (n := 2) (by decide) s2
      omega
    have kr1 : 2 ^ 52 ≤ k := by
      rw [hs, Nat.pow_add] at hMl
      generalize 2 ^ s = g at *
      refine Nat.le_of_not_lt fun hh => ?_
      have := Nat.mul_le_mul_right g (show k + 1 ≤ 2 ^ 52 by omega)
      rw [Nat.add_mul, Nat.one_mul] at this
      omega
    have kr2 : k ≤ 2 ^ 53 := by
      have h2 := hMl.2
      rw [hs, show 52 + s + 1 = 53 + s by omega, Nat.pow_add] at h2
      generalize 2 ^ s = g at *
      refine Nat.le_of_not_lt fun hh => ?_
      have := Nat.mul_le_mul_right g (show 2 ^ 53 + 1 ≤ k by omega)
      rw [Nat.add_mul, Nat.one_mul] at this
      omega
    have h3 : 2 ^ t = 2 * 2 ^ (t - 1) := by
      rw [← Nat.pow_succ', show (t - 1).succ = t by omega]
    have tp : 0 < 2 ^ t := Nat.two_pow_pos t
    refine ⟨E * 2 ^ 52 + k, (k + 2 ^ (t - 1)) / 2 ^ t, rfl, by omega, ?_, ?_⟩
    · by_cases c : k < 2 ^ 53
      · exact round_toInt kr1 c hEt (by omega)
      · have : k = 2 ^ 53 := by omega
        subst this
        have e := round_toInt' (carry E) (Nat.le_refl _) (by decide) (show E + 1 + (t - 1) = 1074 from by clear k12; omega) (by clear k12; omega)
        rw [e, half_carry (by clear k12; omega)]
    · -- the same number, in the digits' own scale
      have scale : n * (d * 2 ^ (s + t)) = 2 * V * b := by
        rw [← hV, ← hN, ← hd]
        have e : 52 - B + (s + t) = 52 - L + 55 := by omega
        have c1 : n * (b * 2 ^ (52 - B) * 2 ^ (s + t)) = n * b * 2 ^ (52 - B + (s + t)) := by rw [Nat.pow_add 2 (52 - B)]; ac_rfl
        have c2 : n * b * 2 ^ (52 - L + 55) = 2 * (n * 2 ^ (52 - L) * 2 ^ 54) * b := by
          rw [Nat.pow_add 2 (52 - L), show (2 : Nat) ^ 55 = 2 * 2 ^ 54 from rfl]; generalize 2 ^ (52 - L) = u; generalize 2 ^ 54 = v; ac_rfl
        rw [c1, e, c2]
      have q1 := Nat.div_mul_le_self (k + 2 ^ (t - 1)) (2 ^ t)
      have q2 := Nat.lt_div_mul_add (a := k + 2 ^ (t - 1)) tp
      generalize (k + 2 ^ (t - 1)) / 2 ^ t = q at *
      have dg : 0 < d * 2 ^ (s + t) := Nat.mul_pos dpos (Nat.two_pow_pos _)
      have bpos : 0 < b := by omega
      -- in one scale
      have st : (2 : Nat) ^ (s + t) = 2 ^ s * 2 ^ t := Nat.pow_add ..
      have T : 2 ≤ 2 ^ t := by
        have := Nat.pow_le_pow_right (n := 2) (by decide) t1
        omega
      have lo : q * 2 ^ (s + t) + 1 < M + 2 ^ (s + t) := by
        rw [st]
        generalize 2 ^ s = g at *
        generalize 2 ^ t = T' at *
        have x1 := Nat.mul_le_mul_left g q1
        have x2 : g * (q * T') = q * (g * T') := by ac_rfl
        rw [x2, Nat.mul_add] at x1
        have x3 : g * T' = 2 * (g * 2 ^ (t - 1)) := by rw [h3]; ac_rfl
        have x4 : g * 2 ≤ g * T' := Nat.mul_le_mul_left g T
        have x5 : g * k = k * g := Nat.mul_comm ..
        generalize g * T' = gT at *
        generalize g * 2 ^ (t - 1) = gh at *
        generalize q * gT = y at *
        omega
      have hi : M + 2 ≤ q * 2 ^ (s + t) + 2 ^ (s + t) := by
        rw [st]
        generalize 2 ^ s = g at *
        generalize 2 ^ t = T' at *
        have x1 := Nat.mul_le_mul_left g (Nat.succ_le_of_lt q2)
        have x2 : g * (q * T' + T') = q * (g * T') + g * T' := by rw [Nat.mul_add]; ac_rfl
        rw [x2, Nat.mul_succ, Nat.mul_add] at x1
        have x3 : g * T' = 2 * (g * 2 ^ (t - 1)) := by rw [h3]; ac_rfl
        have x5 : g * k = k * g := Nat.mul_comm ..
        generalize g * T' = gT at *
        generalize g * 2 ^ (t - 1) = gh at *
        generalize q * gT = y at *
        omega
      constructor
      · refine Nat.lt_of_mul_lt_mul_right (a := d * 2 ^ (s + t)) ?_
        rw [Nat.add_mul, scale]
        generalize 2 ^ (s + t) = G at *
        have y1 := Nat.mul_lt_mul_of_pos_right (Nat.mul_lt_mul_of_pos_right lo dpos) bpos
        have y2 := Nat.mul_le_mul_right b m1
        have z1 : (q * G + 1) * d * b = q * b * (d * G) + d * b := by rw [Nat.add_mul, Nat.add_mul, Nat.one_mul]; ac_rfl
        have z2 : (M + G) * d * b = M * d * b + b * (d * G) := by rw [Nat.add_mul, Nat.add_mul]; ac_rfl
        rw [z1, z2] at y1
        rw [Nat.add_mul] at y2
        generalize q * b * (d * G) = a at *
        generalize b * (d * G) = bb at *
        generalize M * d * b = c at *
        generalize d * b = e at *
        generalize 2 * V * b = f at *
        omega
      · refine Nat.lt_of_mul_lt_mul_right (a := d * 2 ^ (s + t)) ?_
        rw [Nat.add_mul, scale]
        generalize 2 ^ (s + t) = G at *
        have y1 := Nat.mul_le_mul_right b (Nat.mul_le_mul_right d hi)
        have y2 := Nat.mul_lt_mul_of_pos_right m2 bpos
        have z1 : (q * G + G) * d * b = q * b * (d * G) + b * (d * G) := by rw [Nat.add_mul, Nat.add_mul]; ac_rfl
        have z2 : (M + 2) * d * b = M * d * b + 2 * d * b := by rw [Nat.add_mul, Nat.add_mul]
        rw [z1, z2] at y1
        rw [Nat.add_mul] at y2
        generalize q * b * (d * G) = a at *
        generalize b * (d * G) = bb at *
        generalize M * d * b = c at *
        generalize 2 * d * b = e at *
        generalize 2 * V * b = f at *
        omega

end Go.Proofs.YtjjkppknojecjaaGreat

namespace Go.Proofs.YtjjkppknojecjaaGreat
open Go.RowKit
set_option linter.unusedVariables false

theorem bits_of (x : Nat) (w : World) : (callFunc 112 #[.float .f64 x]).run Tryz.prog w = .ok (.value (.int .u64 x)) w := by
  rw [run_callFunc_extern Tryz.func112 (by kernel_rfl) (by kernel_rfl) (by kernel_rfl) (e := Extern.MathFloatBits.float64bits) (by kernel_rfl)]
  rfl
theorem of_bits (n : Int) (w : World) : (callFunc 113 #[.int .u64 n]).run Tryz.prog w = .ok (.value (.float .f64 n.toNat)) w := by
  rw [run_callFunc_extern Tryz.func113 (by kernel_rfl) (by kernel_rfl) (by kernel_rfl) (e := Extern.MathFloatBits.float64frombits) (by kernel_rfl)]
  rfl

theorem and_high {a t : Nat} (ha : a < 2 ^ 64) (ht : t ≤ 64) : a &&& (2 ^ 64 - 1 - (2 ^ t - 1)) = a / 2 ^ t * 2 ^ t := by
  have hp := Nat.two_pow_pos t
  have hle : 2 ^ t ≤ 2 ^ 64 := Nat.pow_le_pow_right (by decide) ht
  rw [show 2 ^ 64 - 1 - (2 ^ t - 1) = 2 ^ 64 - (2 ^ t - 1 + 1) by omega, ← Nat.shiftRight_eq_div_pow, ← Nat.shiftLeft_eq]
  apply Nat.eq_of_testBit_eq
  intro i
  rw [Nat.testBit_and, Nat.testBit_two_pow_sub_succ (by omega), Nat.testBit_two_pow_sub_one, Nat.testBit_shiftLeft, Nat.testBit_shiftRight]
  by_cases h1 : i < t
  · simp [h1, show ¬ t ≤ i by omega]
  · rw [show t + (i - t) = i by omega]
    by_cases h2 : i < 64
    · simp [h1, h2, show t ≤ i by omega]
    · have : a.testBit i = false := Nat.testBit_lt_two_pow (Nat.lt_of_lt_of_le ha (Nat.pow_le_pow_right (by decide) (by omega)))
      simp [this]

theorem bits_exp {x : Nat} (hx : x < 2 ^ 63) : bits .and .u64 ((x : Int) / 4503599627370496) 2047 = ((x / 2 ^ 52 : Nat) : Int) := by
  have h := bits_and_u64_nat (x / 2 ^ 52) 2047 (by omega) (by omega)
  have e1 : ((x : Int) / 4503599627370496) = ((x / 2 ^ 52 : Nat) : Int) := by omega
  have e2 : (2047 : Int) = ((2047 : Nat) : Int) := rfl
  rw [e1, e2, h, show (2047 : Nat) = 2 ^ 11 - 1 from rfl, Nat.and_two_pow_sub_one_eq_mod]
  omega
theorem bits_sign {x : Nat} (hx : x < 2 ^ 63) : bits .and .u64 (x : Int) 9223372036854775808 = 0 := by
  have h := bits_and_u64_nat x 9223372036854775808 (by omega) (by omega)
  have e2 : (9223372036854775808 : Int) = ((9223372036854775808 : Nat) : Int) := rfl
  have z : x &&& 2 ^ 63 = 0 := by
    apply Nat.eq_of_testBit_eq
    intro i
    rw [Nat.testBit_and, Nat.testBit_two_pow, Nat.zero_testBit]
    by_cases hi : 63 = i
    · subst hi
      rw [Nat.testBit_lt_two_pow hx]
      rfl
    · simp [hi]
  rw [e2, h, show (9223372036854775808 : Nat) = 2 ^ 63 from rfl, z]
  rfl
theorem bits_one : bits .or .u64 0 4607182418800017408 = 4607182418800017408 := by
  have h := bits_or_u64_nat 0 4607182418800017408 (by omega) (by omega)
  rw [Nat.zero_or] at h
  exact h
theorem bits_cut {x e : Nat} (hx : x < 2 ^ 63) (he : x / 2 ^ 52 = e) (h1 : 1023 ≤ e) (h2 : e < 1075) :
    bits .andNot .u64 (IntKind.u64.wrap ((x : Int) + 2251799813685248 / 2 ^ (e - 1023))) (4503599627370495 / 2 ^ (e - 1023)) = ((roundW x : Nat) : Int) := by
  obtain ⟨j, rfl⟩ : ∃ j, e = 1023 + j := ⟨e - 1023, by omega⟩
  obtain ⟨t, ht⟩ : ∃ t, t + j = 51 := ⟨51 - j, by omega⟩
  have ej : 1023 + j - 1023 = j := by omega
  have p1 : (2251799813685248 : Nat) / 2 ^ j = 2 ^ t := by
    rw [show (2251799813685248 : Nat) = 2 ^ t * 2 ^ j from by rw [← Nat.pow_add, ht]]
    exact Nat.mul_div_cancel _ (Nat.two_pow_pos j)
  have p2 : (4503599627370495 : Nat) / 2 ^ j = 2 ^ (t + 1) - 1 := by
    have hj := Nat.two_pow_pos j
    have e : (4503599627370495 : Nat) = (2 ^ (t + 1) - 1) * 2 ^ j + (2 ^ j - 1) := by
      have : 2 ^ (t + 1) * 2 ^ j = 4503599627370496 := by rw [← Nat.pow_add, show t + 1 + j = 52 by omega]
      have h3 := Nat.two_pow_pos (t + 1)
      rw [Nat.sub_mul, Nat.one_mul]
      have h4 : 2 ^ j ≤ 2 ^ (t + 1) * 2 ^ j := Nat.le_mul_of_pos_left _ h3
      omega
    rw [e, Nat.add_comm, Nat.add_mul_div_right _ _ hj, Nat.div_eq_of_lt (by omega), Nat.zero_add]
  have i1 : (2251799813685248 : Int) / 2 ^ j = ((2 ^ t : Nat) : Int) := by
    rw [← p1]; exact (Int.natCast_ediv _ _).symm
  have i2 : (4503599627370495 : Int) / 2 ^ j = ((2 ^ (t + 1) - 1 : Nat) : Int) := by
    rw [← p2]; exact (Int.natCast_ediv _ _).symm
  have tl : 2 ^ t ≤ 2 ^ 51 := Nat.pow_le_pow_right (by decide) (by omega)
  have tl2 : 2 ^ (t + 1) ≤ 2 ^ 52 := Nat.pow_le_pow_right (by decide) (by omega)
  have i3 : IntKind.u64.wrap ((x : Int) + ((2 ^ t : Nat) : Int)) = ((x + 2 ^ t : Nat) : Int) := by
    rw [IntKind.wrap_u64]
    generalize 2 ^ t = u at *
    omega
  rw [ej, i1, i2, i3, u64_andNot_nat _ _ (by omega) (by omega)]
  have hc := and_high (a := x + 2 ^ t) (t := t + 1) (by omega) (by omega)
  rw [show (18446744073709551615 : Nat) = 2 ^ 64 - 1 from rfl, hc]
  unfold roundW
  rw [he, if_neg (by omega), if_pos h2, show 1074 - (1023 + j) = t by omega, show 1075 - (1023 + j) = t + 1 by omega]

theorem hid {p : Prop} (h : p) : Hid p := h

set_option maxRecDepth 100000 in
set_option maxHeartbeats 1600000 in
theorem round_any (x : Nat) (w : World) (hx : x < 2 ^ 63) : Calls Tryz.prog 104 #[.float .f64 x] w fun e w' => e = .returned (.float .f64 (roundW x)) ∧ w' = w := by
  have hb := bits_of x
  have hf := of_bits
  obtain ⟨e, he⟩ : ∃ e, x / 2 ^ 52 = e := ⟨_, rfl⟩
  have hE := bits_exp hx
  have hS := bits_sign hx
  have hO := bits_one
  rw [he] at hE
  by_cases c1 : e < 1022
  · have hr : Hid (roundW x = 0) := hid (by unfold roundW; rw [he, if_pos (by omega), if_neg (by omega)])
    have i1 : (e : Int) < 1023 := by omega
    have i2 : ((e : Int) == 1022) = false := by simp; omega
    clear hx he c1
    go_enter Tryz.func104, Tryz.ntmps104
    go_wp2
    go_ret
    rw [show roundW x = 0 from hr]
    exact ⟨rfl, rfl⟩
  by_cases c2 : e = 1022
  · have hr : Hid (roundW x = 1023 * 2 ^ 52) := hid (by unfold roundW; rw [he, if_pos (by omega), if_pos c2])
    have i1 : (e : Int) < 1023 := by omega
    have i2 : ((e : Int) == 1022) = true := by simp; omega
    clear hx he c1 c2
    go_enter Tryz.func104, Tryz.ntmps104
    go_wp2
    go_ret
    rw [show roundW x = 1023 * 2 ^ 52 from hr]
    exact ⟨rfl, rfl⟩
  by_cases c3 : e < 1075
  · have hC := bits_cut hx he (by omega) c3
    have i1 : ¬ (e : Int) < 1023 := by omega
    have i3 : (e : Int) < 1075 := by omega
    generalize roundW x = r at *
    clear hx he c1 c2
    go_enter Tryz.func104, Tryz.ntmps104
    go_wp2
    go_ret
    refine ⟨?_, rfl⟩
    first
      | rfl
      | (show Ending.returned (.float .f64 (bits .andNot .u64 _ _).toNat) = _; rw [hC, Int.toNat_natCast])
  · have hr : Hid (roundW x = x) := hid (by unfold roundW; rw [he, if_neg (by omega), if_neg c3])
    have i1 : ¬ (e : Int) < 1023 := by omega
    have i3 : ¬ (e : Int) < 1075 := by omega
    clear hx he c1 c2 c3
    go_enter Tryz.func104, Tryz.ntmps104
    go_wp2
    go_ret
    rw [show roundW x = x from hr]
    exact ⟨rfl, rfl⟩

set_option maxRecDepth 100000 in
set_option maxHeartbeats 1600000 in
theorem near_any (n b : Nat) (w : World) (hb0 : b ≠ 0) (hn : n < 2 ^ 40) (hb : b < 2 ^ 40) :
    Calls Tryz.prog 90 #[.int .i64 (n : Int), .int .i64 (b : Int)] w fun e w' => (∃ q : Nat, e = .returned (.int .i64 (q : Int)) ∧ q * b < n + b ∧ n < q * b + b) ∧ w' = w := by
  obtain ⟨x, q, hq, hx, hi, h1, h2⟩ := guess hb0 hn hb
  have ql : q < 2 ^ 41 := by
    refine Nat.lt_of_le_of_lt (Nat.le_mul_of_pos_right q (Nat.pos_of_ne_zero hb0)) (Nat.lt_trans h1 ?_)
    omega
  have HV : Hid (floatToIntVal .f64 (roundW x) .i64 = some (q : Int)) := hid (by
    unfold floatToIntVal
    rw [hi]
    exact if_pos ⟨by show (-9223372036854775808 : Int) ≤ (q : Int); omega, by show (q : Int) ≤ 9223372036854775807; omega⟩)
  have HX := hid hx
  have H1 := hid h1
  have H2 := hid h2
  have hdiv := fun (W : World) (t : TypeId) => run_float_arith (P := Tryz.prog) W .quo t .f64 _ _ x hq
  have hcv := fun (W : World) => run_convert_float_int (P := Tryz.prog) W 134 3 .f64 .i64 (roundW x) (q : Int) (by kernel_rfl) (by kernel_rfl) HV
  have HR := hid (fun W => round_any x W hx)
  clear hq hx hi h1 h2 hn hb hb0 ql
  generalize roundW x = r at *
  go_enter Tryz.func90, Tryz.ntmps90
  go_wp2_with fail
  refine ((show ∀ W, _ from HR) _).mono ?_
  rintro e w1 ⟨rfl, rfl⟩
  go_wp2
  go_ret
  exact ⟨⟨q, rfl, H1, H2⟩, rfl⟩

theorem mend_down {n b q : Nat} (h1 : q * b < n + b) (h2 : n < q * b + b) : (n < q * b → (q : Int) - 1 = ((n / b : Nat) : Int)) ∧ (¬ n < q * b → (q : Int) = ((n / b : Nat) : Int)) := by
  have hb : 0 < b := Nat.pos_of_ne_zero (by rintro rfl; omega)
  constructor
  · intro h
    have hq : q ≠ 0 := by rintro rfl; omega
    obtain ⟨p, rfl⟩ : ∃ p, q = p + 1 := ⟨q - 1, by omega⟩
    rw [Nat.add_mul, Nat.one_mul] at h1 h
    have : n / b = p := Nat.div_eq_of_lt_le (by omega) (by rw [Nat.add_mul, Nat.one_mul]; omega)
    omega
  · intro h
    have : n / b = q := Nat.div_eq_of_lt_le (by omega) (by rw [Nat.add_mul, Nat.one_mul]; omega)
    omega
theorem mend_up {n b q : Nat} (h1 : q * b < n + b) (h2 : n < q * b + b) : (q * b < n → (q : Int) + 1 = (((n + b - 1) / b : Nat) : Int)) ∧ (¬ q * b < n → (q : Int) = (((n + b - 1) / b : Nat) : Int)) := by
  have hb : 0 < b := Nat.pos_of_ne_zero (by rintro rfl; omega)
  constructor
  · intro h
    have : (n + b - 1) / b = q + 1 := Nat.div_eq_of_lt_le (by rw [Nat.add_mul, Nat.one_mul]; omega) (by rw [Nat.add_mul, Nat.add_mul, Nat.one_mul]; omega)
    omega
  · intro h
    have : (n + b - 1) / b = q := Nat.div_eq_of_lt_le (by omega) (by rw [Nat.add_mul, Nat.one_mul]; omega)
    omega

set_option maxHeartbeats 1600000 in
theorem down_any (n b r : Nat) (hr : n / b = r) (w : World) (hb0 : b ≠ 0) (hn : n < 2 ^ 40) (hb : b < 2 ^ 40) :
    Calls Tryz.prog 68 #[.int .i64 (n : Int), .int .i64 (b : Int)] w fun e w' => e = .returned (.int .i64 (r : Int)) ∧ w' = w := by
  have HN := hid (near_any n b w hb0 hn hb)
  clear hb0
  replace hr := hid hr
  go_enter Tryz.func68, Tryz.ntmps68
  go_wp2_with fail
  refine (show Calls _ _ _ _ _ from HN).mono ?_
  rintro e w1 ⟨⟨q, rfl, h1, h2⟩, rfl⟩
  have HM := hid (mend_down h1 h2)
  rw [show _ = r from hr] at HM
  clear hr
  have hqb : ((q : Int) * (b : Int)) = ((q * b : Nat) : Int) := by rw [Int.natCast_mul]
  have l1 : q * b < 2 ^ 41 := by omega
  have lq : q < 2 ^ 41 := by
    have hb : 0 < b := Nat.pos_of_ne_zero (by rintro rfl; omega)
    exact Nat.lt_of_le_of_lt (Nat.le_mul_of_pos_right q hb) l1
  generalize q * b = y at *
  have hwy : IntKind.i64.wrap (y : Int) = (y : Int) := by rw [IntKind.wrap_i64]; omega
  by_cases c : n < y
  · have HR := hid ((show _ ∧ _ from HM).1 c)
    have ci : (n : Int) < (y : Int) := by omega
    have hw : IntKind.i64.wrap ((q : Int) - 1) = (q : Int) - 1 := by rw [IntKind.wrap_i64]; omega
    go_wp2
    go_ret
    exact ⟨congrArg (fun z => Ending.returned (.int .i64 z)) HR, rfl⟩
  · have HR := hid ((show _ ∧ _ from HM).2 c)
    have ci : ¬ (n : Int) < (y : Int) := by omega
    go_wp2
    go_ret
    exact ⟨congrArg (fun z => Ending.returned (.int .i64 z)) HR, rfl⟩

set_option maxHeartbeats 1600000 in
theorem up_any (n b r : Nat) (hr : (n + b - 1) / b = r) (w : World) (hb0 : b ≠ 0) (hn : n < 2 ^ 40) (hb : b < 2 ^ 40) :
    Calls Tryz.prog 66 #[.int .i64 (n : Int), .int .i64 (b : Int)] w fun e w' => e = .returned (.int .i64 (r : Int)) ∧ w' = w := by
  have HN := hid (near_any n b w hb0 hn hb)
  clear hb0
  replace hr := hid hr
  go_enter Tryz.func66, Tryz.ntmps66
  go_wp2_with fail
  refine (show Calls _ _ _ _ _ from HN).mono ?_
  rintro e w1 ⟨⟨q, rfl, h1, h2⟩, rfl⟩
  have HM := hid (mend_up h1 h2)
  rw [show _ = r from hr] at HM
  clear hr
  have hqb : ((q : Int) * (b : Int)) = ((q * b : Nat) : Int) := by rw [Int.natCast_mul]
  have l1 : q * b < 2 ^ 41 := by omega
  have lq : q < 2 ^ 41 := by
    have hb : 0 < b := Nat.pos_of_ne_zero (by rintro rfl; omega)
    exact Nat.lt_of_le_of_lt (Nat.le_mul_of_pos_right q hb) l1
  generalize q * b = y at *
  have hwy : IntKind.i64.wrap (y : Int) = (y : Int) := by rw [IntKind.wrap_i64]; omega
  by_cases c : y < n
  · have HR := hid ((show _ ∧ _ from HM).1 c)
    have ci : (y : Int) < (n : Int) := by omega
    have hw : IntKind.i64.wrap ((q : Int) + 1) = (q : Int) + 1 := by rw [IntKind.wrap_i64]; omega
    go_wp2
    go_ret
    exact ⟨congrArg (fun z => Ending.returned (.int .i64 z)) HR, rfl⟩
  · have HR := hid ((show _ ∧ _ from HM).2 c)
    have ci : ¬ (y : Int) < (n : Int) := by omega
    go_wp2
    go_ret
    exact ⟨congrArg (fun z => Ending.returned (.int .i64 z)) HR, rfl⟩

end Go.Proofs.YtjjkppknojecjaaGreat

namespace Go.Proofs.YtjjkppknojecjaaGreat
open Go.RowKit
set_option linter.unusedVariables false
set_option maxRecDepth 100000

theorem down_int (n b : Int) (w : World) (hn0 : 0 ≤ n) (hn : n < 1000000000000) (hb0 : 1 ≤ b) (hb : b < 1000000000000) :
    Calls Tryz.prog 68 #[.int .i64 n, .int .i64 b] w fun e w' => e = .returned (.int .i64 (n / b)) ∧ w' = w := by
  obtain ⟨n, rfl⟩ := Int.eq_ofNat_of_zero_le hn0
  obtain ⟨b, rfl⟩ := Int.eq_ofNat_of_zero_le (show 0 ≤ b by omega)
  exact (down_any n b _ rfl w (by omega) (by omega) (by omega)).mono fun e w' ⟨h1, h2⟩ => ⟨h1, h2⟩
theorem up_int (n b : Int) (w : World) (hn0 : 0 ≤ n) (hn : n < 1000000000000) (hb0 : 1 ≤ b) (hb : b < 1000000000000) :
    Calls Tryz.prog 66 #[.int .i64 n, .int .i64 b] w fun e w' => e = .returned (.int .i64 ((n + b - 1) / b)) ∧ w' = w := by
  obtain ⟨n, rfl⟩ := Int.eq_ofNat_of_zero_le hn0
  obtain ⟨b, rfl⟩ := Int.eq_ofNat_of_zero_le (show 0 ≤ b by omega)
  refine (up_any n b _ rfl w (by omega) (by omega) (by omega)).mono fun e w' ⟨h1, h2⟩ => ⟨?_, h2⟩
  rw [h1]
  have e1 : ((n + b - 1 : Nat) : Int) = (n : Int) + (b : Int) - 1 := by omega
  rw [← e1]
  rfl

theorem latQ_up (r x : Int) : ((x + 1) * 1000 + (1000 - r) - 1) / (1000 - r) = latQ r x := by
  unfold latQ
  congr 1
  omega

theorem latest1_any (x r : Int) (p : Addr) (w : World) (hx0 : 0 ≤ x) (hx : x ≤ 100000) (hr0 : 0 ≤ r) (hr : r ≤ 500) (hc : w.cell? p = some (.int .i64 r)) :
    Calls Tryz.prog 65 #[.int .i64 x, .pointer (some p)] w fun e w' => e = .returned (.int .i64 (latQ r x)) ∧ w' = w := by
  have HQ := hidB (latQ_up r x)
  go_enter Tryz.func65, Tryz.ntmps65
  go_wp2_with fail
  refine (up_int ((x + 1) * 1000) (1000 - r) _ (by omega) (by omega) (by omega) (by omega)).mono ?_
  rintro e w1 ⟨rfl, rfl⟩
  go_wp2
  go_ret
  rw [← show _ = latQ r x from HQ]
  exact ⟨rfl, rfl⟩
theorem earliest1_any (x r : Int) (p : Addr) (w : World) (hx0 : 1 ≤ x) (hx : x ≤ 100000) (hr0 : 0 ≤ r) (hr : r ≤ 500) (hc : w.cell? p = some (.int .i64 r)) :
    Calls Tryz.prog 67 #[.int .i64 x, .pointer (some p)] w fun e w' => e = .returned (.int .i64 (earQ r x)) ∧ w' = w := by
  go_enter Tryz.func67, Tryz.ntmps67
  go_wp2_with fail
  refine (down_int ((x - 1) * 1000) (1000 + r) _ (by omega) (by omega) (by omega) (by omega)).mono ?_
  rintro e w1 ⟨rfl, rfl⟩
  go_wp2
  go_ret
  exact ⟨rfl, rfl⟩

theorem latestBy_any (r : Int) (w : World) :
    Calls Tryz.prog 38 #[.int .i64 r] w fun e w' => e = .returned (.func (.func 65) #[] #[.pointer (some ⟨w.heap.size, 0, none⟩)]) ∧ w'.cell? ⟨w.heap.size, 0, none⟩ = some (.int .i64 r) ∧ w.heap.size < w'.heap.size ∧ Below w.heap.size w w' := by
  have hmf : ∀ (fn : Fn) (first cap : Array Value) (w : World), (Instr.makeFunc fn first cap).run Tryz.prog w = .ok (.func fn first cap) w := fun _ _ _ _ => rfl
  go_enter Tryz.func38, Tryz.ntmps38
  go_wp2
  go_ret
  exact ⟨rfl, by simp [go_sem], by simp, Joins.below_alloc1 _ _⟩
theorem earliestBy_any (r : Int) (w : World) :
    Calls Tryz.prog 39 #[.int .i64 r] w fun e w' => e = .returned (.func (.func 67) #[] #[.pointer (some ⟨w.heap.size, 0, none⟩)]) ∧ w'.cell? ⟨w.heap.size, 0, none⟩ = some (.int .i64 r) ∧ w.heap.size < w'.heap.size ∧ Below w.heap.size w w' := by
  have hmf : ∀ (fn : Fn) (first cap : Array Value) (w : World), (Instr.makeFunc fn first cap).run Tryz.prog w = .ok (.func fn first cap) w := fun _ _ _ _ => rfl
  go_enter Tryz.func39, Tryz.ntmps39
  go_wp2
  go_ret
  exact ⟨rfl, by simp [go_sem], by simp, Joins.below_alloc1 _ _⟩

theorem latestBy_keep (r : Int) (p : Addr) (v : Value) (w : World) (hp : w.cell? p = some v) :
    Calls Tryz.prog 38 #[.int .i64 r] w fun e w' => e = .returned (.func (.func 65) #[] #[.pointer (some ⟨w.heap.size, 0, none⟩)]) ∧ w'.cell? p = some v ∧ Hid (w'.cell? ⟨w.heap.size, 0, none⟩ = some (.int .i64 r) ∧ w.heap.size < w'.heap.size ∧ Below w.heap.size w w') :=
  (latestBy_any r w).mono fun e w' ⟨h1, h2, h3, h4⟩ => ⟨h1, (h4.cell (World.block_lt_of_cell? _ _ hp)).trans hp, hidB ⟨h2, h3, h4⟩⟩
theorem earliestBy_keep (r : Int) (p : Addr) (v : Value) (w : World) (hp : w.cell? p = some v) :
    Calls Tryz.prog 39 #[.int .i64 r] w fun e w' => e = .returned (.func (.func 67) #[] #[.pointer (some ⟨w.heap.size, 0, none⟩)]) ∧ w'.cell? p = some v ∧ Hid (w'.cell? ⟨w.heap.size, 0, none⟩ = some (.int .i64 r) ∧ w.heap.size < w'.heap.size ∧ Below w.heap.size w w') :=
  (earliestBy_any r w).mono fun e w' ⟨h1, h2, h3, h4⟩ => ⟨h1, (h4.cell (World.block_lt_of_cell? _ _ hp)).trans hp, hidB ⟨h2, h3, h4⟩⟩

end Go.Proofs.YtjjkppknojecjaaGreat

namespace Go.Proofs.YtjjkppknojecjaaGreat
open Go.RowKit
set_option linter.unusedVariables false
set_option maxRecDepth 100000

def cokB (f d l r : Int) : Bool := cfgB f d l r && decide (latQ r f + l < earQ r d)
theorem cok_no {f d l r : Int} (h : cfgB f d l r = false) : cokB f d l r = false := by simp [cokB, h]
theorem cok_yes {f d l r : Int} (h : cfgB f d l r = true) : cokB f d l r = decide (latQ r f + l < earQ r d) := by simp [cokB, h]
theorem latQ_le {r x : Int} (hr0 : 0 ≤ r) (hr : r ≤ 500) (hx0 : 0 ≤ x) (hx : x ≤ 100000) : 0 ≤ latQ r x ∧ latQ r x ≤ 1000000 := by
  unfold latQ
  refine ⟨Int.ediv_nonneg (by omega) (by omega), ?_⟩
  exact Int.le_of_lt_add_one (Int.ediv_lt_of_lt_mul (by omega) (by
    have : (1000000 + 1) * 500 ≤ (1000000 + 1) * (1000 - r) := Int.mul_le_mul_of_nonneg_left (by omega) (by omega)
    omega))
theorem earQ_le {r x : Int} (hr0 : 0 ≤ r) (hr : r ≤ 500) (hx0 : 1 ≤ x) (hx : x ≤ 100000) : 0 ≤ earQ r x ∧ earQ r x ≤ 100000000 := by
  unfold earQ
  refine ⟨Int.ediv_nonneg (by omega) (by omega), ?_⟩
  exact Int.le_trans (Int.ediv_le_self _ (by omega)) (Int.le_trans (b := 99999000) (by omega) (by omega))

set_option maxHeartbeats 1600000 in
theorem configOK_impl (f d l r : Int) (w : World) : Calls Tryz.prog 16 #[cfgV f d l r] w fun e w' => e = .returned (.bool (cokB f d l r)) ∧ Below w.heap.size w w' := by
  have f0 := fieldC0 f d l r
  have f1 := fieldC1 f d l r
  have f2 := fieldC2 f d l r
  have f3 := fieldC3 f d l r
  by_cases hb : cfgB f d l r = false
  · have hr := hidB (cok_no hb)
    go_enter Tryz.func16, Tryz.ntmps16
    go_wp2_with fail
    refine (bounds_impl f d l r _).mono ?_
    rintro e w1 ⟨rfl, hw⟩
    have HW := hidB hw
    clear hw
    go_wp2
    go_ret
    rw [show cokB f d l r = false from hr]
    exact ⟨rfl, (Joins.below_alloc1 _ _).trans (Below.mono HW (by simp))⟩
  rw [Bool.not_eq_false] at hb
  have hr := hidB (cok_yes hb)
  obtain ⟨⟨bf0, bf1⟩, ⟨bd0, bd1⟩, ⟨bl0, bl1⟩, br0, br1⟩ := cfgB_iff.1 hb
  obtain ⟨ql0, ql1⟩ := latQ_le (x := f) br0 br1 (by omega) (by omega)
  obtain ⟨qe0, qe1⟩ := earQ_le (x := d) br0 br1 (by omega) (by omega)
  go_enter Tryz.func16, Tryz.ntmps16
  go_wp2_with fail
  refine (bounds_impl f d l r _).mono ?_
  rintro e w1 ⟨rfl, hw⟩
  have HB1 := hidB ((Joins.below_alloc1 w _).trans (Below.mono hw (by simp)))
  have c0 := hidB ((hw.cell (p := ⟨w.heap.size, 0, none⟩) (by simp)).trans (by simp [go_sem] : _ = some (.int .i64 f)))
  have c1 := hidB ((hw.cell (p := ⟨w.heap.size, 1, none⟩) (by simp)).trans (by simp [go_sem] : _ = some (.int .i64 d)))
  have c2 := hidB ((hw.cell (p := ⟨w.heap.size, 2, none⟩) (by simp)).trans (by simp [go_sem] : _ = some (.int .i64 l)))
  have c3 := (hw.cell (p := ⟨w.heap.size, 3, none⟩) (by simp)).trans (by simp [go_sem] : _ = some (.int .i64 r))
  have hz : w.heap.size < w1.heap.size := Nat.lt_of_lt_of_le (by simp) hw.size
  clear hw
  go_wp2_with fail
  go_region_held3 (fun w' => w'.cell? ⟨w.heap.size, 3, none⟩ = some (.int .i64 r)) (go_keep)
    (first
      | (go_at_call 38; refine (latestBy_keep r ⟨w.heap.size, 3, none⟩ (.int .i64 r) _ ?_).mono ?_; (simp [*]); rintro e wA ⟨rfl, hA0, hA1⟩)
      | (go_at_call 39; refine (earliestBy_keep r ⟨w.heap.size, 3, none⟩ (.int .i64 r) _ ?_).mono ?_; (simp [*]); rintro e wB ⟨rfl, hB0, hB1⟩))
  obtain ⟨a0, a1, a2⟩ := show _ ∧ _ ∧ _ from hA1
  obtain ⟨e0, e1, e2⟩ := show _ ∧ _ ∧ _ from hB1
  have a3 : Below w1.heap.size w1 wA := (Below.refl _ w1).drew.trans a2
  have HBB := hidB ((show Below w.heap.size w w1 from HB1).trans ((a3.trans (e2.mono a3.size)).mono (Nat.le_of_lt hz)))
  have l0 : w.heap.size < wA.heap.size := Nat.lt_of_lt_of_le hz a3.size
  have k0 := hidB ((e2.cell (p := ⟨w.heap.size, 0, none⟩) l0).trans ((a3.cell (p := ⟨w.heap.size, 0, none⟩) hz).trans c0))
  have k1 := hidB ((e2.cell (p := ⟨w.heap.size, 1, none⟩) l0).trans ((a3.cell (p := ⟨w.heap.size, 1, none⟩) hz).trans c1))
  have k2 := hidB ((e2.cell (p := ⟨w.heap.size, 2, none⟩) l0).trans ((a3.cell (p := ⟨w.heap.size, 2, none⟩) hz).trans c2))
  have k3 := hidB ((e2.cell (p := ⟨w1.heap.size, 0, none⟩) a1).trans a0)
  have k4 := hidB e0
  have wr : IntKind.i64.wrap (latQ r f + l) = latQ r f + l := by rw [IntKind.wrap_i64]; omega
  clear hA0 hA1 hB0 hB1 a0 a1 a2 e0 e1 e2 a3 l0 c0 c1 c2 c3 hz HB1
  generalize w1.heap.size = h1 at *
  generalize wA.heap.size = h2 at *
  have k0' : wB.cell? ⟨w.heap.size, 0, none⟩ = some (.int .i64 f) := k0
  have k1' : wB.cell? ⟨w.heap.size, 1, none⟩ = some (.int .i64 d) := k1
  have k2' : wB.cell? ⟨w.heap.size, 2, none⟩ = some (.int .i64 l) := k2
  have k3' : wB.cell? ⟨h1, 0, none⟩ = some (.int .i64 r) := k3
  have k4' : wB.cell? ⟨h2, 0, none⟩ = some (.int .i64 r) := k4
  go_wp2_with fail
  go_region_held3 (fun w' => w'.cell? ⟨w.heap.size, 0, none⟩ = some (.int .i64 f) ∧ w'.cell? ⟨w.heap.size, 1, none⟩ = some (.int .i64 d) ∧ w'.cell? ⟨w.heap.size, 2, none⟩ = some (.int .i64 l) ∧ w'.cell? ⟨h1, 0, none⟩ = some (.int .i64 r) ∧ w'.cell? ⟨h2, 0, none⟩ = some (.int .i64 r)) (go_keep)
    (first
      | (go_at_call 65; refine (latest1_any f r ⟨h1, 0, none⟩ _ (by omega) (by omega) (by omega) (by omega) ?_).mono ?_; (simp [*]); rintro e wC ⟨rfl, rfl⟩)
      | (go_at_call 67; refine (earliest1_any d r ⟨h2, 0, none⟩ _ (by omega) (by omega) (by omega) (by omega) ?_).mono ?_; (simp [*]); rintro e wD ⟨rfl, rfl⟩))
  all_goals go_wp2
  all_goals go_ret
  all_goals rw [show cokB f d l r = decide (latQ r f + l < earQ r d) from hr]
  all_goals exact ⟨rfl, by repeat (first | exact HBB | refine Below.drew ?_)⟩

end Go.Proofs.YtjjkppknojecjaaGreat

namespace Go.Proofs.YtjjkppknojecjaaGreat
open Go.RowKit
set_option linter.unusedVariables false
set_option maxRecDepth 100000

def hs1 (t : Int) (x : Hst) : Bool := betw x.st 0 2 && (betw x.gen 0 1000000 && betw x.ren 0 t)
end Go.Proofs.YtjjkppknojecjaaGreat

namespace Go.Proofs.YtjjkppknojecjaaGreat
open Go.RowKit
set_option linter.unusedVariables false
set_option maxRecDepth 100000

structure WlZ (m : Wld) : Prop where
  s : ∀ s ∈ m.ss, s.size ≤ maxLen
  x : ∀ x ∈ m.xs, x.data.size ≤ maxLen
  g : ∀ s ∈ m.g.shots, s.name.size ≤ maxLen ∧ s.table.length ≤ maxLen
theorem WlZ.of {w : World} {a : Wl4} {m : Wld} (h : WlS w a m) : WlZ m := ⟨h.s.sizes, h.i.sizes, fun s hs => by
  obtain ⟨j, hj, rfl⟩ := List.mem_iff_getElem.1 hs
  obtain ⟨_, _, _, _, _, _, _, _, h1, h2⟩ := h.g.s j hj
  exact ⟨h1, h2⟩⟩
theorem OwnWl.shw {w : World} {B : Nat} {a : Wl4} {m : Wld} {ts : List Value} (h : OwnWl w B a m ts) (hz : WlZ m) : WlS w a m := h.shows hz.s hz.x hz.g
structure LwW (W : World) (p n : Nat) (a : Wl4) (m : Wld) (ts : List Value) : Prop where
  v : VarW W p 37 a m
  o : OwnWl W n a m ts
  n : n ≤ W.heap.size
theorem LwW.new (W : World) (a : Wl4) (m : Wld) {n : Nat} {ts : List Value} (h : OwnWl W n a m ts) (hn : n ≤ W.heap.size) : LwW (W.alloc (.cells (wlC a m) 37)) W.heap.size n a m ts :=
  ⟨VarW.new W _ _ _, h.below (Joins.below_alloc1 _ _), by simp; omega⟩
theorem LwW.below {W W' : World} {p n : Nat} {a : Wl4} {m : Wld} {ts : List Value} (h : LwW W p n a m ts) (hb : Below W.heap.size W W') : LwW W' p n a m ts := ⟨h.v.below hb, h.o.below hb, Nat.le_trans h.n hb.size⟩
def AnsW (w w' : World) (e : Ending) (R : Wld × Int) : Prop := ∃ a ts, e = .returned (.tuple #[wlV a R.1, .int .i64 R.2]) ∧ OwnWl w' w.heap.size a R.1 ts ∧ Below w.heap.size w w'
theorem WlBd.L {m : Wld} (h : WlBd m) : WlL m := ⟨by have := h.s; unfold maxLen; omega, by have := h.i; unfold maxLen; omega, by have := h.h; unfold maxLen; omega, h.g.L, by have := h.q; unfold maxLen; omega⟩
theorem VarW.one {w : World} {x t : Nat} {a b : Wl4} {m n : Wld} (h : VarW w x t a m) (i : Nat) (u : Value) (e : (wlC a m).setIfInBounds i u = wlC b n) : VarW (w.setCell ⟨x, i, none⟩ u) x t b n := by
  unfold VarW; rw [← e]; exact set_wl (i := i) h u

end Go.Proofs.YtjjkppknojecjaaGreat

namespace Go.Proofs.YtjjkppknojecjaaGreat
open Go.RowKit
set_option linter.unusedVariables false
set_option maxRecDepth 100000

theorem l01In_any (n low high : Int) (w : World) : Calls Tryz.prog 14 #[.int .i64 n, .int .i64 low, .int .i64 high] w fun e w' => e = .returned (.bool (inB n low high)) ∧ w' = w := by
  go_enter Tryz.func14, Tryz.ntmps14
  go_wp2
  all_goals
    go_ret
    exact ⟨ret_bool (by rw [Bool.eq_iff_iff]; simp [inB]; omega), rfl⟩

theorem hostOK_any (n : Int) (w : World) : Calls Tryz.prog 70 #[.int .i64 n] w fun e w' => e = .returned (.bool (inB n 0 3)) ∧ w' = w := by
  go_enter Tryz.func70, Tryz.ntmps70
  go_wp2
  all_goals
    go_ret
    exact ⟨ret_bool (by rw [Bool.eq_iff_iff]; simp [inB]; omega), rfl⟩

theorem placeOK_any (n : Int) (w : World) : Calls Tryz.prog 99 #[.int .i64 n] w fun e w' => e = .returned (.bool (inB n 0 63)) ∧ w' = w := by
  go_enter Tryz.func99, Tryz.ntmps99
  go_wp2
  all_goals
    go_ret
    exact ⟨ret_bool (by rw [Bool.eq_iff_iff]; simp [inB]; omega), rfl⟩

set_option maxHeartbeats 800000 in
theorem sectorsOK_any (ao : Option Addr) (cap : Nat) (ss : List ByteArray) (w : World) (hl : ss.length ≤ maxLen) (hc : Ss w ao ss) :
    Calls Tryz.prog 91 #[.slice ao ss.length cap] w fun e w' => e = .returned (.bool (secB ss)) ∧ w' = w := by
  have HC := hide hc
  clear hc
  unfold maxLen at hl
  by_cases hle : ss.length = 64
  · have hb : ((ss.length : Int) != 64) = false := by simp; omega
    have HLE := hide hle
    clear hle
    go_enter Tryz.func91, Tryz.ntmps91
    go_wp2
    go_loop [4, 10] (fun _ i => ∃ k : Nat, k ≤ ss.length ∧ i = .int .i64 k ∧ Hid (∀ j (h : j < ss.length), j < k → decide (ss[j].size ≤ 80) = true)) (fun _ i => ss.length - (intOf i).toNat)
    case atStart => exact ⟨0, Nat.zero_le _, rfl, hide (fun j _ h => by omega)⟩
    case round =>
      obtain ⟨k, hk, rfl, HA⟩ := hrel
      by_cases hlt : k < ss.length
      · obtain ⟨b, off, rfl, hc, hz⟩ := unhide HC k hlt
        unfold maxLen at hz
        by_cases hs : 80 < ss[k].size
        · have H := hide (secB_false_at hlt hs)
          go_wp2
          go_ret
          exact ⟨ret_bool (unhide H).symm, rfl⟩
        · have HN := hide (all_succ (p := fun s : ByteArray => decide (s.size ≤ 80)) hlt (unhide HA) (by simp; omega))
          go_wp2
          go_round
          case rel => exact ⟨k + 1, by omega, by go_num, HN⟩
          case measure => simp [intOf]; omega
      · have H := hide (secB_true (unhide HLE) (fun j h => unhide HA j h (by omega)))
        go_wp2
        go_ret
        exact ⟨ret_bool (unhide H).symm, rfl⟩
  · have hb : ((ss.length : Int) != 64) = true := by simp; omega
    have H := hide (secB_false_len hle)
    clear hle
    go_enter Tryz.func91, Tryz.ntmps91
    go_wp2
    go_ret
    exact ⟨ret_bool (unhide H).symm, rfl⟩

set_option maxHeartbeats 1600000 in
theorem pendingOK_any (ao : Option Addr) (cap : Nat) (xs : List Wr) (w : World) (hl : xs.length ≤ maxLen) (hc : Ios w ao xs) :
    Calls Tryz.prog 92 #[.slice ao xs.length cap] w fun e w' => e = .returned (.bool (penB xs)) ∧ Below w.heap.size w w' := by
  have HC := hide hc
  clear hc
  unfold maxLen at hl
  by_cases hle : 200 < xs.length
  · have H := hide (penB_false_len (xs := xs) (by omega))
    go_enter Tryz.func92, Tryz.ntmps92
    go_wp2
    go_ret
    exact ⟨ret_bool (unhide H).symm, Below.refl _ _⟩
  go_enter Tryz.func92, Tryz.ntmps92
  go_wp2
  go_loopw [4, 10] (fun _ i wr => ∃ k : Nat, k ≤ xs.length ∧ i = .int .i64 k ∧ Hid (∀ j (h : j < xs.length), j < k → ioB xs[j] = true) ∧ Hid (Below w.heap.size w wr)) (fun _ i _ => xs.length - (intOf i).toNat)
  case atStart => exact ⟨0, Nat.zero_le _, rfl, hide (fun j _ h => by omega), hide (Below.refl _ _)⟩
  case round =>
    obtain ⟨k, hk, rfl, HA, HB⟩ := hrel
    by_cases hlt : k < xs.length
    · obtain ⟨b, off, rfl, hc0, hc1, hc2, hz⟩ := (unhide HC).below (unhide HB) k hlt
      unfold maxLen at hz
      have HE := hide (ioB_eq xs[k])
      have HBA := hide (fun o => (unhide HB).alloc (unhide HB).size o)
      cases h0 : inB xs[k].host 0 3
      · have H := hide (penB_false_at hlt (by rw [unhide HE, h0]; rfl))
        go_wp2_with (first | (go_at_call 70; refine (hostOK_any _ _).mono ?_; rintro e w' ⟨rfl, rfl⟩) | (go_at_call 99; refine (placeOK_any _ _).mono ?_; rintro e w' ⟨rfl, rfl⟩))
        go_ret
        exact ⟨ret_bool (unhide H).symm, unhide HBA _⟩
      · cases h1 : inB xs[k].at_ 0 63
        · have H := hide (penB_false_at hlt (by rw [unhide HE, h0, h1]; rfl))
          go_wp2_with (first | (go_at_call 70; refine (hostOK_any _ _).mono ?_; rintro e w' ⟨rfl, rfl⟩) | (go_at_call 99; refine (placeOK_any _ _).mono ?_; rintro e w' ⟨rfl, rfl⟩))
          go_ret
          exact ⟨ret_bool (unhide H).symm, unhide HBA _⟩
        · by_cases hs : 80 < xs[k].data.size
          · have H := hide (penB_false_at hlt (by rw [unhide HE, h0, h1]; simp; omega))
            go_wp2_with (first | (go_at_call 70; refine (hostOK_any _ _).mono ?_; rintro e w' ⟨rfl, rfl⟩) | (go_at_call 99; refine (placeOK_any _ _).mono ?_; rintro e w' ⟨rfl, rfl⟩))
            go_ret
            exact ⟨ret_bool (unhide H).symm, unhide HBA _⟩
          · have HN := hide (all_succ (p := ioB) hlt (unhide HA) (by rw [unhide HE, h0, h1]; simp; omega))
            go_wp2_with (first | (go_at_call 70; refine (hostOK_any _ _).mono ?_; rintro e w' ⟨rfl, rfl⟩) | (go_at_call 99; refine (placeOK_any _ _).mono ?_; rintro e w' ⟨rfl, rfl⟩))
            go_roundw
            case rel => exact ⟨k + 1, by omega, by go_num, HN, hide (unhide HBA _)⟩
            case measure => simp [intOf]; omega
    · have H := hide (penB_true (xs := xs) (by omega) (fun j h => unhide HA j h (by omega)))
      go_wp2
      go_ret
      exact ⟨ret_bool (unhide H).symm, unhide HB⟩

set_option maxHeartbeats 800000 in
theorem diskOK_impl (ao bo : Option Addr) (ca cb : Nat) (ss : List ByteArray) (xs : List Wr) (w : World) (hl : ss.length ≤ maxLen) (hm : xs.length ≤ maxLen) (h1 : Ss w ao ss) (h2 : Ios w bo xs) :
    Calls Tryz.prog 69 #[.agg #[.slice ao ss.length ca, .slice bo xs.length cb]] w fun e w' => e = .returned (.bool (diskB ss xs)) ∧ Below w.heap.size w w' := by
  have H1 := hide h1
  have H2 := hide h2
  have HL := hide hl
  have HM := hide hm
  clear h1 h2 hl hm
  have HA := hide (Joins.below_alloc1 w (.cells #[.slice ao ss.length ca, .slice bo xs.length cb] 27))
  cases h : secB ss
  · go_enter Tryz.func69, Tryz.ntmps69
    go_wp2_with fail
    refine (sectorsOK_any ao ca ss _ (unhide HL) ((unhide H1).below (unhide HA))).mono ?_
    rintro e w1 ⟨rfl, rfl⟩
    go_wp2
    go_ret
    exact ⟨ret_bool (by rw [diskB, h]; rfl), unhide HA⟩
  · go_enter Tryz.func69, Tryz.ntmps69
    go_wp2_with fail
    refine (sectorsOK_any ao ca ss _ (unhide HL) ((unhide H1).below (unhide HA))).mono ?_
    rintro e w1 ⟨rfl, rfl⟩
    go_wp2_with fail
    refine (pendingOK_any bo cb xs _ (unhide HM) ((unhide H2).below (unhide HA))).mono ?_
    rintro e w2 ⟨rfl, hb2⟩
    have HB := hide ((unhide HA).trans (hb2.mono (by simp)))
    clear hb2
    go_wp2
    go_ret
    exact ⟨ret_bool (by rw [diskB, h]; rfl), unhide HB⟩

end Go.Proofs.YtjjkppknojecjaaGreat

namespace Go.Proofs.YtjjkppknojecjaaGreat
open Go.RowKit
set_option linter.unusedVariables false
set_option maxRecDepth 100000

set_option maxHeartbeats 1600000 in
theorem hostFault_any (ao bo : Option Addr) (ca cb : Nat) (ss : List ByteArray) (xs : List Wr) (h : Int) (w : World) (hl : ss.length ≤ maxLen) (hm : xs.length ≤ maxLen) (h1 : Ss w ao ss) (h2 : Ios w bo xs) :
    Calls Tryz.prog 41 #[.agg #[.slice ao ss.length ca, .slice bo xs.length cb], .int .i64 h] w fun e w' => e = .returned (.int .i64 (hostC ss xs h)) ∧ Below w.heap.size w w' := by
  have HA := hide (Joins.below_alloc1 w (.cells #[.slice ao ss.length ca, .slice bo xs.length cb] 27))
  have H1 := hide (h1.below (unhide HA))
  have H2 := hide (h2.below (unhide HA))
  have HL := hide hl
  have HM := hide hm
  clear h1 h2 hl hm
  cases hd : diskB ss xs
  · have H := hide (hostC_bad (h := h) hd)
    go_enter Tryz.func41, Tryz.ntmps41
    go_wp2_with fail
    refine (diskOK_impl _ _ _ _ ss xs _ (unhide HL) (unhide HM) (unhide H1) (unhide H2)).mono ?_
    rintro e w1 ⟨rfl, hb⟩
    have HB := hide (fr (unhide HA) hb)
    clear hb
    go_wp2
    go_ret
    exact ⟨ret_int (unhide H).symm, unhide HB⟩
  · cases hh : inB h 0 3
    · have H := hide (hostC_range hd hh)
      go_enter Tryz.func41, Tryz.ntmps41
      go_wp2_with fail
      refine (diskOK_impl _ _ _ _ ss xs _ (unhide HL) (unhide HM) (unhide H1) (unhide H2)).mono ?_
      rintro e w1 ⟨rfl, hb⟩
      have HB := hide (fr (unhide HA) hb)
      clear hb
      go_wp2_with (go_at_call 70; refine (hostOK_any _ _).mono ?_; rintro e w' ⟨rfl, rfl⟩)
      go_ret
      exact ⟨ret_int (unhide H).symm, unhide HB⟩
    · have H := hide (hostC_ok hd hh)
      go_enter Tryz.func41, Tryz.ntmps41
      go_wp2_with fail
      refine (diskOK_impl _ _ _ _ ss xs _ (unhide HL) (unhide HM) (unhide H1) (unhide H2)).mono ?_
      rintro e w1 ⟨rfl, hb⟩
      have HB := hide (fr (unhide HA) hb)
      clear hb
      go_wp2_with (go_at_call 70; refine (hostOK_any _ _).mono ?_; rintro e w' ⟨rfl, rfl⟩)
      go_ret
      exact ⟨ret_int (unhide H).symm, unhide HB⟩

end Go.Proofs.YtjjkppknojecjaaGreat

namespace Go.Proofs.YtjjkppknojecjaaGreat
open Go.RowKit
set_option linter.unusedVariables false
set_option maxRecDepth 100000

section
variable {P : Program}

theorem run_copy_whole (w : World) (dT sT ty elem : TypeId) (size g n dCap : Nat) (a : Addr) (sCap : Nat) (cur : Array Value) (t : TypeId) (cs : List Value)
    (hu : P.underlying dT = some (.slice elem)) (hs : (P.info? elem).map (·.size) = some size)
    (hg : w.heap[g]? = some (.cells cur t (0, 0))) (hl : n * size = cs.length)
    (hsrc : ∀ j v, cs[j]? = some v → w.cell? (a.add j) = some v) (hfit : cs.length ≤ cur.size) (h1 : ∀ v ∈ cs, v.oneCell' = true) :
    (Builtin.copy_ #[dT, sT] ty #[.slice (some ⟨g, 0, none⟩) n dCap, .slice (some a) n sCap]).run P w = .ok (goInt n) (w.setRow g (cs ++ cur.toList.drop cs.length).toArray) := by
  have hld := run_loadCells_list (P := P) w a cs hsrc
  have hst := run_storeCells_at P g 0 t cs 0 cur w hg (by simpa using hfit) h1
  cases hq : P.info? elem with
  | none => simp [hq] at hs
  | some i =>
    have hi : i.size = size := by simpa [hq] using hs
    simp [Builtin.copy_, run_underlying hu, Builtin.lenOf, Builtin.firstCells, sizeOf, typeInfo, hq, hi, hl, hld, hst]

theorem wpList_copy_whole {w : World} {ops : Array Oper} {rest : List Oper} {o : Oper} {a : Act} {Q : Exit → Act → World → Prop} (hgd : o.guard = none) (d s : Operand) (dT sT : TypeId)
    (ho : o.op = .call { callee := .builtin .copy, args := #[d, s], argTypes := #[dT, sT] }) (elem : TypeId) (size : Nat) (hu : P.underlying dT = some (.slice elem)) (hsz : (P.info? elem).map (·.size) = some size)
    (B g n : Nat) (ad : Addr) (sCap : Nat) (hd : a.eval d = .slice (some ⟨g, 0, none⟩) n n) (hs : a.eval s = .slice (some ad) n sCap)
    (xs : List Value) (hown : w.ownsRow B elem size (.slice (some ⟨g, 0, none⟩) n n) n xs) (cs : List Value) (hn : cs.length = n * size)
    (hsrc : ∀ j v, cs[j]? = some v → w.cell? (ad.add j) = some v) (h1 : ∀ v ∈ cs, v.oneCell' = true)
    (h : ∀ w', w'.ownsRow B elem size (.slice (some ⟨g, 0, none⟩) n n) n cs → w.grownBy w' (some g) → wpList P ops Q rest (a.put o.dst (goInt n)) w') : wpList P ops Q (o :: rest) a w := by
  refine wpList_plain hgd fun K hK => ?_
  rcases hown.2 with ⟨e, _⟩ | ⟨g', cap', cur, e, hB, hg, hnc, hcm, hcs, ht⟩
  · simp at e
  · simp only [Value.slice.injEq, Option.some.injEq, Addr.mk.injEq, and_true, true_and] at e
    obtain ⟨rfl, rfl⟩ := e
    have hrun := run_copy_whole (P := P) w dT sT o.type elem size g n n ad sCap cur elem cs hu hsz hg hn.symm hsrc (by omega) h1
    unfold Oper.wp
    simp [execOp, ho, resolve, invoke, builtin, hd, hs, hrun, Result.andThen]
    refine hK _ _ (h _ ⟨hn, .inr ⟨g, n, _, rfl, hB, setRow_heap w g _ _ elem _ hg, hnc, hcm, ?_, ?_⟩⟩ ⟨rfl, rfl, rfl, by simp, fun k _ hk => setRow_other w g k _ (fun e => hk (by simp [e]))⟩)
    · simp; omega
    · rw [← hn]; simp
end

theorem infoS : (Tryz.prog.info? 9).map (fun i => (i.zero, i.size, i.bytes)) = some (some (.string ⟨#[]⟩), 1, 16) := by kernel_rfl
theorem infoW : (Tryz.prog.info? 95).map (fun i => (i.zero, i.size, i.bytes)) = some (some (.agg #[.int .i64 0, .int .i64 0, .string ⟨#[]⟩]), 3, 32) := by kernel_rfl
theorem sizeS : (Tryz.prog.info? 9).map (·.size) = some 1 := by kernel_rfl
theorem sizeW : (Tryz.prog.info? 95).map (·.size) = some 3 := by kernel_rfl

theorem strV_one (ss : List ByteArray) : ∀ v ∈ strV ss, v.oneCell' = true := by
  intro v hv
  simp only [strV, List.mem_map] at hv
  obtain ⟨s, _, rfl⟩ := hv
  rfl
theorem ioV_one (xs : List Wr) : ∀ v ∈ ioV xs, v.oneCell' = true := by
  intro v hv
  simp only [ioV, List.mem_flatMap] at hv
  obtain ⟨x, _, hv⟩ := hv
  simp at hv
  rcases hv with rfl | rfl | rfl <;> rfl
theorem Ss.at {w : World} {ao : Option Addr} {ss : List ByteArray} (h : Ss w ao ss) (hp : 0 < ss.length) : ∃ b off, ao = some ⟨b, off, none⟩ ∧ ∀ j v, (strV ss)[j]? = some v → w.cell? (Addr.add ⟨b, off, none⟩ j) = some v := by
  obtain ⟨b, off, rfl, _⟩ := h 0 hp
  refine ⟨b, off, rfl, fun j v hv => ?_⟩
  have hj : j < ss.length := by have := (List.getElem?_eq_some_iff.1 hv).1; rwa [strV_length] at this
  obtain ⟨b', off', e, hc, _⟩ := h j hj
  simp only [Option.some.injEq, Addr.mk.injEq, and_true] at e
  obtain ⟨rfl, rfl⟩ := e
  rw [strV_get hj] at hv
  cases hv
  rw [show Addr.add ⟨b, off, none⟩ j = ⟨b, off + j, none⟩ from by unfold Addr.add; split <;> simp_all]
  exact hc
theorem ioV_at {xs : List Wr} {j : Nat} {v : Value} (h : (ioV xs)[j]? = some v) : ∃ i r, ∃ hi : i < xs.length, j = i * 3 + r ∧ ((r = 0 ∧ v = .int .i64 xs[i].host) ∨ (r = 1 ∧ v = .int .i64 xs[i].at_) ∨ (r = 2 ∧ v = .string xs[i].data)) := by
  have hj : j < xs.length * 3 := by have := (List.getElem?_eq_some_iff.1 h).1; rwa [ioV_length] at this
  have hi : j / 3 < xs.length := by omega
  obtain ⟨g0, g1, g2⟩ := ioV_get hi
  rcases (show j % 3 = 0 ∨ j % 3 = 1 ∨ j % 3 = 2 by omega) with e | e | e
  · rw [show j = j / 3 * 3 by omega, g0] at h; cases h
    exact ⟨j / 3, 0, hi, by omega, .inl ⟨rfl, rfl⟩⟩
  · rw [show j = j / 3 * 3 + 1 by omega, g1] at h; cases h
    exact ⟨j / 3, 1, hi, by omega, .inr (.inl ⟨rfl, rfl⟩)⟩
  · rw [show j = j / 3 * 3 + 2 by omega, g2] at h; cases h
    exact ⟨j / 3, 2, hi, by omega, .inr (.inr ⟨rfl, rfl⟩)⟩
theorem Ios.at {w : World} {ao : Option Addr} {xs : List Wr} (h : Ios w ao xs) (hp : 0 < xs.length) : ∃ b off, ao = some ⟨b, off, none⟩ ∧ ∀ j v, (ioV xs)[j]? = some v → w.cell? (Addr.add ⟨b, off, none⟩ j) = some v := by
  obtain ⟨b, off, rfl, _⟩ := h 0 hp
  refine ⟨b, off, rfl, fun j v hv => ?_⟩
  obtain ⟨i, r, hi, rfl, hr⟩ := ioV_at hv
  obtain ⟨b', off', e, h0, h1, h2, _⟩ := h i hi
  simp only [Option.some.injEq, Addr.mk.injEq, and_true] at e
  obtain ⟨rfl, rfl⟩ := e
  rw [show Addr.add ⟨b, off, none⟩ (i * 3 + r) = ⟨b, off + i * 3 + r, none⟩ from by unfold Addr.add; split <;> simp_all [Nat.add_assoc]]
  rcases hr with ⟨rfl, rfl⟩ | ⟨rfl, rfl⟩ | ⟨rfl, rfl⟩
  · exact h0
  · exact h1
  · exact h2

set_option maxHeartbeats 1600000 in
theorem copyS_any (ao : Option Addr) (cap : Nat) (ss : List ByteArray) (w : World) (hl : ss.length ≤ 1048576) (hc : Ss w ao ss) :
    Calls Tryz.prog 78 #[.slice ao ss.length cap] w fun e w' => ∃ bo cb, e = .returned (.slice bo ss.length cb) ∧ OwnR w' w.heap.size 9 1 (.slice bo ss.length cb) ss.length (strV ss) ∧ Below w.heap.size w w' := by
  by_cases h0 : ss.length = 0
  · have hb : ((ss.length : Int) == 0) = true := by simp [h0]
    have HE := hide h0
    clear h0 hc
    go_enter Tryz.func78, Tryz.ntmps78
    go_wp2
    go_ret
    rw [unhide HE]
    exact ⟨none, 0, rfl, .inl ⟨rfl, List.eq_nil_of_length_eq_zero (by rw [strV_length, unhide HE]), none, rfl⟩, Below.refl _ _⟩
  · have hb : ((ss.length : Int) == 0) = false := beq_eq_false_iff_ne.2 (by omega)
    obtain ⟨b, off, rfl, hcs⟩ := hc.at (by omega)
    have hbl : b < w.heap.size := by
      obtain ⟨b', off', e, hc', _⟩ := hc 0 (by omega)
      simp only [Option.some.injEq, Addr.mk.injEq, and_true] at e
      obtain ⟨rfl, rfl⟩ := e
      exact World.block_lt_of_cell? _ _ hc'
    have HCS := hide hcs
    have HP := hide h0
    clear hc hcs h0
    obtain ⟨i0, hi, hz0, hz1, hz2⟩ := info_parts infoS
    go_enter Tryz.func78, Tryz.ntmps78
    go_wp2_with (first | (at_make; refine wpList_make_full _ rfl _ _ 24 rfl w.heap.size 9 i0 _ 1 Tryz.underlying24 hi hz0 hz1 _ _ _ _ ss.length rfl rfl rfl rfl ?c1 ?c2 ?c3 ?_))
    case c1 => rw [hz2]; omega
    case c2 => unfold maxLen; omega
    case c3 => exact Nat.le_refl _
    intro w1 hown hgrow
    have hB : Below w.heap.size w w1 := (Below.refl _ _).grown hgrow (Nat.le_refl _) (fun _ h => by cases h)
    have HO := hide hown
    have HB := hide hB
    have HC1 : Hid (∀ j v, (strV ss)[j]? = some v → w1.cell? (Addr.add ⟨b, off, none⟩ j) = some v) := hide (fun j v hv => ((unhide HB).cell (by unfold Addr.add; split <;> exact hbl)).trans (unhide HCS j v hv))
    clear hown hgrow hB
    go_wp2_with (refine wpList_copy_whole rfl _ _ 24 24 rfl 9 1 Tryz.underlying24 sizeS w.heap.size w.heap.size ss.length ⟨b, off, none⟩ _ rfl rfl _ (unhide HO) (strV ss) (by rw [strV_length]; omega) (unhide HC1) (strV_one ss) ?_; intro w2 ho2 hg2)
    have HB2 := hide ((unhide HB).grown hg2 (unhide HB).size (fun k h => by cases h; exact Nat.le_refl _))
    have HO2 := hide ho2
    clear ho2 hg2
    go_ret
    exact ⟨_, _, rfl, OwnR.of (unhide HO2) (fun h => absurd h (unhide HP)), unhide HB2⟩

set_option maxHeartbeats 1600000 in
theorem copyW_any (ao : Option Addr) (cap : Nat) (ss : List Wr) (w : World) (hl : ss.length ≤ 1048576) (hc : Ios w ao ss) :
    Calls Tryz.prog 79 #[.slice ao ss.length cap] w fun e w' => ∃ bo cb, e = .returned (.slice bo ss.length cb) ∧ OwnR w' w.heap.size 95 3 (.slice bo ss.length cb) ss.length (ioV ss) ∧ Below w.heap.size w w' := by
  by_cases h0 : ss.length = 0
  · have hb : ((ss.length : Int) == 0) = true := by simp [h0]
    have HE := hide h0
    clear h0 hc
    go_enter Tryz.func79, Tryz.ntmps79
    go_wp2
    go_ret
    rw [unhide HE]
    exact ⟨none, 0, rfl, .inl ⟨rfl, List.eq_nil_of_length_eq_zero (by rw [ioV_length, unhide HE]), none, rfl⟩, Below.refl _ _⟩
  · have hb : ((ss.length : Int) == 0) = false := beq_eq_false_iff_ne.2 (by omega)
    obtain ⟨b, off, rfl, hcs⟩ := hc.at (by omega)
    have hbl : b < w.heap.size := by
      obtain ⟨b', off', e, hc', _, _, _⟩ := hc 0 (by omega)
      simp only [Option.some.injEq, Addr.mk.injEq, and_true] at e
      obtain ⟨rfl, rfl⟩ := e
      exact World.block_lt_of_cell? _ _ hc'
    have HCS := hide hcs
    have HP := hide h0
    clear hc hcs h0
    obtain ⟨i0, hi, hz0, hz1, hz2⟩ := info_parts infoW
    go_enter Tryz.func79, Tryz.ntmps79
    go_wp2_with (first | (at_make; refine wpList_make_full _ rfl _ _ 25 rfl w.heap.size 95 i0 _ 3 Tryz.underlying25 hi hz0 hz1 _ _ _ _ ss.length rfl rfl rfl rfl ?c1 ?c2 ?c3 ?_))
    case c1 => rw [hz2]; omega
    case c2 => unfold maxLen; omega
    case c3 => exact Nat.le_refl _
    intro w1 hown hgrow
    have hB : Below w.heap.size w w1 := (Below.refl _ _).grown hgrow (Nat.le_refl _) (fun _ h => by cases h)
    have HO := hide hown
    have HB := hide hB
    have HC1 : Hid (∀ j v, (ioV ss)[j]? = some v → w1.cell? (Addr.add ⟨b, off, none⟩ j) = some v) := hide (fun j v hv => ((unhide HB).cell (by unfold Addr.add; split <;> exact hbl)).trans (unhide HCS j v hv))
    clear hown hgrow hB
    go_wp2_with (refine wpList_copy_whole rfl _ _ 25 25 rfl 95 3 Tryz.underlying25 sizeW w.heap.size w.heap.size ss.length ⟨b, off, none⟩ _ rfl rfl _ (unhide HO) (ioV ss) (by rw [ioV_length]) (unhide HC1) (ioV_one ss) ?_; intro w2 ho2 hg2)
    have HB2 := hide ((unhide HB).grown hg2 (unhide HB).size (fun k h => by cases h; exact Nat.le_refl _))
    have HO2 := hide ho2
    clear ho2 hg2
    go_ret
    exact ⟨_, _, rfl, OwnR.of (unhide HO2) (fun h => absurd h (unhide HP)), unhide HB2⟩

end Go.Proofs.YtjjkppknojecjaaGreat

namespace Go.Proofs.YtjjkppknojecjaaGreat
open Go.RowKit
set_option linter.unusedVariables false
set_option maxRecDepth 100000

theorem copyD_end {w wL : World} {po qo : Option Addr} {n pa m qa : Nat} {ss : List ByteArray} {xs : List Wr} (ho : OwnD wL (w.heap.size + 2) po n pa qo m qa ss xs) (hb : Below w.heap.size w wL) (a b : Value) :
    OwnD ((wL.setCell ⟨w.heap.size + 1, 0, none⟩ a).setCell ⟨w.heap.size + 1, 1, none⟩ b) w.heap.size po n pa qo m qa ss xs ∧ Below w.heap.size w ((wL.setCell ⟨w.heap.size + 1, 0, none⟩ a).setCell ⟨w.heap.size + 1, 1, none⟩ b) :=
  ⟨((ho.setCell (a := ⟨w.heap.size + 1, 0, none⟩) (by simp) a).setCell (a := ⟨w.heap.size + 1, 1, none⟩) (by simp) b).base (by omega),
    (hb.setCell (p := ⟨w.heap.size + 1, 0, none⟩) (by simp) a).setCell (p := ⟨w.heap.size + 1, 1, none⟩) (by simp) b⟩

set_option maxHeartbeats 3200000 in
theorem copyDisk_any (ao bo : Option Addr) (ca cb : Nat) (ss : List ByteArray) (xs : List Wr) (w : World) (hl : ss.length ≤ 1048576) (hm : xs.length ≤ 1048576) (h1 : Ss w ao ss) (h2 : Ios w bo xs) :
    Calls Tryz.prog 45 #[.agg #[.slice ao ss.length ca, .slice bo xs.length cb]] w fun e w' => ∃ po pa qo qa, e = .returned (.agg #[.slice po ss.length pa, .slice qo xs.length qa]) ∧ OwnD w' w.heap.size po ss.length pa qo xs.length qa ss xs ∧ Below w.heap.size w w' := by
  have HA := hide (Joins.below_alloc2 w (.cells #[.slice ao ss.length ca, .slice bo xs.length cb] 27) (.cells #[.slice none 0 0, .slice none 0 0] 27))
  have HS := hide (h1.below (unhide HA))
  have HX := hide (h2.below (unhide HA))
  have HSd := hide ((unhide HS).below (Below.refl _ _).drew)
  have HXd := hide ((unhide HX).below (Below.refl _ _).drew)
  have HV : Hid (VarD ((w.alloc (.cells #[.slice ao ss.length ca, .slice bo xs.length cb] 27)).alloc (.cells #[.slice none 0 0, .slice none 0 0] 27)).drew w.heap.size (.slice ao ss.length ca) (.slice bo xs.length cb)) := hide ((VarD.new w _ _).below (Joins.below_alloc1 _ _).drew)
  have HR : Hid (VarD ((w.alloc (.cells #[.slice ao ss.length ca, .slice bo xs.length cb] 27)).alloc (.cells #[.slice none 0 0, .slice none 0 0] 27)).drew (w.heap.size + 1) (.slice none 0 0) (.slice none 0 0)) := hide (by have := VarD.new (w.alloc (.cells #[.slice ao ss.length ca, .slice bo xs.length cb] 27)) (.slice none 0 0) (.slice none 0 0); simp only [World.size_alloc] at this; exact this)
  clear h1 h2
  go_enter Tryz.func45, Tryz.ntmps45
  go_wp2
  go_region_with (first
    | (go_at_call 78; refine (copyS_any ao ca ss _ hl (by first | exact unhide HSd | exact (unhide HSd).below hbW)).mono ?_; rintro e wS ⟨po, pa, rfl, hoS, hbS⟩; have HVS : Hid (VarD wS w.heap.size (.slice ao ss.length ca) (.slice bo xs.length cb)) := (by first | exact hide ((unhide HV).below hbS) | exact hide ((unhide HVW).below hbS)); have HRS : Hid (VarD wS (w.heap.size + 1) (.slice none 0 0) (.slice none 0 0)) := (by first | exact hide ((unhide HR).below hbS) | exact hide ((unhide HRW).below hbS)); obtain ⟨hs0, hs1⟩ := (unhide HVS).cells; obtain ⟨hs2, hs3⟩ := (unhide HRS).cells; have hs4 := Joins.unfrozen_of_block (unhide HRS) 0; have hs5 := Joins.unfrozen_of_block (unhide HRS) 1)
    | (go_at_call 79; refine (copyW_any bo cb xs _ hm (by first | exact unhide HXd | exact (unhide HXd).below hbS)).mono ?_; rintro e wW ⟨qo, qa, rfl, hoW, hbW⟩; have HVW : Hid (VarD wW w.heap.size (.slice ao ss.length ca) (.slice bo xs.length cb)) := (by first | exact hide ((unhide HV).below hbW) | exact hide ((unhide HVS).below hbW)); have HRW : Hid (VarD wW (w.heap.size + 1) (.slice none 0 0) (.slice none 0 0)) := (by first | exact hide ((unhide HR).below hbW) | exact hide ((unhide HRS).below hbW)); obtain ⟨hw0, hw1⟩ := (unhide HVW).cells; obtain ⟨hw2, hw3⟩ := (unhide HRW).cells; have hw4 := Joins.unfrozen_of_block (unhide HRW) 0; have hw5 := Joins.unfrozen_of_block (unhide HRW) 1))
  all_goals first
    | (have HL := hide (copyD_end (w := w) (wL := wW) (po := po) (qo := qo) (n := ss.length) (pa := pa) (m := xs.length) (qa := qa) (ss := ss) (xs := xs) ⟨(hoS.below hbW).base (by simp), hoW.base (by have := hbS.size; simp at this; omega)⟩ (fr (fr (unhide HA).drew hbS) hbW) (.slice po ss.length pa) (.slice qo xs.length qa))
       clear hoS hbS hoW hbW hs0 hs1 hs2 hs3 hs4 hs5
       go_wp2
       exact bodyPost_ret (v := .agg #[.slice po ss.length pa, .slice qo xs.length qa]) (by simp [results, Tryz.results45, go_sem, hw2, hw3]) rfl ⟨_, _, _, _, rfl, (unhide HL).1, (unhide HL).2⟩)
    | (have HL := hide (copyD_end (w := w) (wL := wS) (po := po) (qo := qo) (n := ss.length) (pa := pa) (m := xs.length) (qa := qa) (ss := ss) (xs := xs) ⟨hoS.base (by have := hbW.size; simp at this; omega), (hoW.below hbS).base (by simp)⟩ (fr (fr (unhide HA).drew hbW) hbS) (.slice po ss.length pa) (.slice qo xs.length qa))
       clear hoS hbS hoW hbW hw0 hw1 hw2 hw3 hw4 hw5
       go_wp2
       exact bodyPost_ret (v := .agg #[.slice po ss.length pa, .slice qo xs.length qa]) (by simp [results, Tryz.results45, go_sem, hs2, hs3]) rfl ⟨_, _, _, _, rfl, (unhide HL).1, (unhide HL).2⟩)

end Go.Proofs.YtjjkppknojecjaaGreat
