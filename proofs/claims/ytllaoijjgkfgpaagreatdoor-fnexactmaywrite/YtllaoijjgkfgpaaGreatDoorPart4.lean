import Derived.Laws.FloatArith
import Derived.KernelRfl
import Derived.Test.YtllaoijjgkfgpaaGreatDoorRows
import Derived.WalkKit
import Derived.WalkSpells
import Derived.WalkLawsBesides
import Derived.Laws.Externs
import Derived.Laws.Bits64b
import Derived.Laws.BitsAllLaws
import Derived.Test.YtllaoijjgkfgpaaGreatDoorPart1
import Derived.Lib.SmallJoins
import Derived.Deep.RegionHeld3
import Derived.Test.YtllaoijjgkfgpaaGreatDoorPart2
import Derived.Test.YtllaoijjgkfgpaaGreatDoorPart3
import Derived.OrdersHeld

namespace Go.Proofs.YtllaoijjgkfgpaaGreatDoor
open Ieee

theorem log2_of {n L : Nat} (h1 : 2 ^ L ≤ n) (h2 : n < 2 ^ (L + 1)) : n.log2 = L := by
  have hn : n ≠ 0 := by
    have := Nat.two_pow_pos L
    omega
  have a := (Nat.le_log2 hn).2 h1
  have b := (Nat.log2_lt hn).2 h2
  omega

theorem log2_bounds {n : Nat} (hn : n ≠ 0) : 2 ^ n.log2 ≤ n ∧ n < 2 ^ (n.log2 + 1) :=
  ⟨(Nat.le_log2 hn).1 (Nat.le_refl _), (Nat.log2_lt hn).1 (Nat.lt_succ_self _)⟩

theorem cut_even {neg : Bool} {n drop : Nat} (hd : drop ≤ n.log2 + 2) :
    2 * (Toward.even.cut neg n drop * 2 ^ drop) ≤ 2 * n + 2 ^ drop ∧ 2 * n ≤ 2 * (Toward.even.cut neg n drop * 2 ^ drop) + 2 ^ drop := by
  unfold Toward.cut
  simp only [Nat.min_eq_left hd, Nat.one_shiftLeft]
  have hg : 0 < 2 ^ drop := Nat.two_pow_pos drop
  generalize 2 ^ drop = g at *
  have e := Nat.div_add_mod n g
  have l := Nat.mod_lt n hg
  rw [Nat.mul_comm] at e
  generalize n / g = a at *
  generalize n % g = r at *
  by_cases c : (decide (g < 2 * r) || (g == 2 * r && a % 2 == 1)) = true
  · rw [c]
    simp only [Bool.toNat_true, Nat.add_mul, Nat.one_mul]
    simp only [Bool.or_eq_true, decide_eq_true_eq, Bool.and_eq_true, beq_iff_eq] at c
    generalize a * g = ag at *
    omega
  · rw [Bool.not_eq_true] at c
    rw [c]
    simp only [Bool.toNat_false, Nat.add_zero]
    simp only [Bool.or_eq_false_iff, decide_eq_false_iff_not] at c
    generalize a * g = ag at *
    omega

theorem cut_zero (way : Toward) (neg : Bool) (n : Nat) : way.cut neg n 0 = n := by
  unfold Toward.cut
  cases way <;> simp [Nat.mod_one]

theorem read_normal {E k : Nat} (h1 : 2 ^ 52 ≤ k) (h2 : k < 2 ^ 53) (hE : E ≤ 2045) :
    double.read (E * 2 ^ 52 + k) = .number false k (-1074 + (E : Int)) := by
  have hb : double.binade = 2 ^ 52 := rfl
  have hs : double.signWeight = 2 ^ 63 := rfl
  have hi : double.infRung = 2047 * 2 ^ 52 := rfl
  have hl : double.leastPlace = -1074 := rfl
  have lt : E * 2 ^ 52 + k < 2047 * 2 ^ 52 := by omega
  unfold Format.read
  simp only [hb, hs, hi, hl]
  have e1 : (E * 2 ^ 52 + k) / 2 ^ 63 = 0 := Nat.div_eq_of_lt (by omega)
  have e2 : (E * 2 ^ 52 + k) % 2 ^ 63 = E * 2 ^ 52 + k := Nat.mod_eq_of_lt (by omega)
  rw [e1, e2]
  rw [if_neg (by omega), if_pos lt]
  have e3 : (E * 2 ^ 52 + k) / 2 ^ 52 = E + 1 := by omega
  have e4 : (E * 2 ^ 52 + k) % 2 ^ 52 = k - 2 ^ 52 := by omega
  rw [e3, e4]
  have e5 : 2 ^ 52 + (k - 2 ^ 52) = k := by omega
  rw [e5]
  rfl

theorem nearest_normal {M s : Nat} {p : Int} (hM : 2 ^ 52 ≤ M) (hs : M.log2 = 52 + s) (hp : -1074 ≤ p + s) (hq : p + s ≤ 900) :
    double.nearest false M p = (p + s + 1074).toNat * 2 ^ 52 + Toward.even.cut false M s := by
  have hb : double.binade = 2 ^ 52 := rfl
  have hf : double.fractionBits = 52 := rfl
  have hi : double.infRung = 2047 * 2 ^ 52 := rfl
  have hl : double.leastPlace = -1074 := rfl
  have h0 : M ≠ 0 := by omega
  unfold Format.nearest
  rw [if_neg h0]
  simp only [hb, hf, hi, hl, hs]
  have e1 : max (p + ((52 + s : Nat) : Int) - ((52 : Nat) : Int)) (-1074) = p + s := by omega
  rw [e1]
  have e2 : (p - (p + s)).toNat = 0 := by omega
  have e3 : (p + (s : Int) - p).toNat = s := by omega
  have e4 : p + (s : Int) - (-1074) = p + s + 1074 := by omega
  rw [e2, e3, e4, Nat.shiftLeft_zero]
  have hc := (cut_even (neg := false) (n := M) (drop := s) (by omega)).1
  have hlt : M < 2 ^ (s + 53) := by
    have := (log2_bounds h0).2
    rw [hs] at this
    rwa [show 52 + s + 1 = s + 53 by omega] at this
  have hk : Toward.even.cut false M s ≤ 2 ^ 53 := by
    generalize Toward.even.cut false M s = c at *
    rw [Nat.pow_add] at hlt
    have hg : 0 < 2 ^ s := Nat.two_pow_pos s
    generalize 2 ^ s = g at *
    refine Nat.le_of_not_lt fun hh => ?_
    have := Nat.mul_le_mul_right g (show 2 ^ 53 + 1 ≤ c by omega)
    rw [Nat.add_mul, Nat.mul_comm (2 ^ 53) g] at this
    omega
  have hr : (p + (s : Int) + 1074).toNat ≤ 1974 := by omega
  rw [Nat.min_eq_left (by omega)]
  rfl

theorem nearest_whole {n L : Nat} (hn : n ≠ 0) (hL : n.log2 = L) (h : L ≤ 52) :
    floatOfInt .f64 (n : Int) = (L + 1022) * 2 ^ 52 + n * 2 ^ (52 - L) := by
  have hb : double.binade = 2 ^ 52 := rfl
  have hf : double.fractionBits = 52 := rfl
  have hi : double.infRung = 2047 * 2 ^ 52 := rfl
  have hl : double.leastPlace = -1074 := rfl
  unfold floatOfInt FloatKind.nearest FloatKind.encode FloatKind.format Format.write
  simp only
  have e0 : decide ((n : Int) < 0) = false := decide_eq_false (by omega)
  rw [e0, Int.natAbs_natCast]
  unfold Format.nearest
  rw [if_neg hn]
  simp only [hb, hf, hi, hl, hL]
  have e1 : max ((0 : Int) + (L : Int) - ((52 : Nat) : Int)) (-1074) = (L : Int) - 52 := by omega
  rw [e1]
  have e2 : ((0 : Int) - ((L : Int) - 52)).toNat = 52 - L := by omega
  have e3 : ((L : Int) - 52 - 0).toNat = 0 := by omega
  have e4 : ((L : Int) - 52 - (-1074)).toNat = L + 1022 := by omega
  rw [e2, e3, e4, cut_zero, Nat.shiftLeft_eq]
  have hlt : n * 2 ^ (52 - L) < 2 ^ 53 := by
    have := (log2_bounds hn).2
    rw [hL] at this
    have h2 := Nat.mul_lt_mul_of_pos_right this (Nat.two_pow_pos (52 - L))
    rw [← Nat.pow_add, show L + 1 + (52 - L) = 53 by omega] at h2
    exact h2
  rw [Nat.min_eq_left (by omega)]
  rfl

theorem whole_range {n L : Nat} (hn : n ≠ 0) (hL : n.log2 = L) (h : L ≤ 52) :
    2 ^ 52 ≤ n * 2 ^ (52 - L) ∧ n * 2 ^ (52 - L) < 2 ^ 53 := by
  have hb := log2_bounds hn
  rw [hL] at hb
  have hp := Nat.two_pow_pos (52 - L)
  have h2 := Nat.mul_lt_mul_of_pos_right hb.2 hp
  have h1 := Nat.mul_le_mul_right (2 ^ (52 - L)) hb.1
  rw [← Nat.pow_add, show L + 1 + (52 - L) = 53 by omega] at h2
  rw [← Nat.pow_add, show L + (52 - L) = 52 by omega] at h1
  exact ⟨h1, h2⟩

theorem read_whole {n L : Nat} (hn : n ≠ 0) (hL : n.log2 = L) (h : L ≤ 52) :
    double.read (floatOfInt .f64 (n : Int)) = .number false (n * 2 ^ (52 - L)) ((L : Int) - 52) := by
  have hr := whole_range hn hL h
  rw [nearest_whole hn hL h, read_normal hr.1 hr.2 (by omega)]
  have e : -1074 + ((L + 1022 : Nat) : Int) = (L : Int) - 52 := by omega
  rw [e]

def roundW (r : Nat) : Nat :=
  if r / 2 ^ 52 < 1023 then (if r / 2 ^ 52 = 1022 then 1023 * 2 ^ 52 else 0)
  else if r / 2 ^ 52 < 1075 then
    (r + 2 ^ (1074 - r / 2 ^ 52)) / 2 ^ (1075 - r / 2 ^ 52) * 2 ^ (1075 - r / 2 ^ 52)
  else r

theorem toInt_number {m t q : Nat} {i : Int} (hi : i = -(t : Int)) (hm : m = q * 2 ^ t) :
    (Datum.number false m i).toInt .zero = some (q : Int) := by
  subst hi hm
  unfold Datum.toInt Datum.integral
  have e1 : (-(t : Int)).toNat = 0 := by omega
  have e2 : (-(-(t : Int))).toNat = t := by omega
  simp only [e1, e2, Nat.shiftLeft_zero]
  have hc : Toward.zero.cut false (q * 2 ^ t) t = q := by
    unfold Toward.cut
    simp only [Bool.toNat_false, Nat.add_zero]
    by_cases hq : q = 0
    · subst hq; simp
    · have hle : t ≤ (q * 2 ^ t).log2 + 2 := by
        have : 2 ^ t ≤ q * 2 ^ t := Nat.le_mul_of_pos_left _ (by omega)
        have := (Nat.le_log2 (by have := Nat.two_pow_pos t; omega)).2 this
        omega
      rw [Nat.min_eq_left hle, Nat.one_shiftLeft, Nat.mul_div_cancel _ (Nat.two_pow_pos t)]
  rw [hc]
  simp [signed]

theorem round_toInt {E k t : Nat} (h1 : 2 ^ 52 ≤ k) (h2 : k < 2 ^ 53) (hE : E + t = 1074) (ht : 1 ≤ t) :
    (FloatKind.f64.decode (roundW (E * 2 ^ 52 + k))).toInt .zero = some (((k + 2 ^ (t - 1)) / 2 ^ t : Nat) : Int) := by
  have e0 : (E * 2 ^ 52 + k) / 2 ^ 52 = E + 1 := by omega
  unfold roundW FloatKind.decode FloatKind.format
  simp only [e0]
  by_cases c1 : E + 1 < 1023
  · rw [if_pos c1]
    by_cases c2 : E + 1 = 1022
    · rw [if_pos c2]
      have : t = 53 := by omega
      subst this
      have e : (k + 2 ^ (53 - 1)) / 2 ^ 53 = 1 := by omega
      rw [e]
      decide
    · rw [if_neg c2]
      have hlt : 2 ^ 53 ≤ 2 ^ (t - 1) := Nat.pow_le_pow_right (by decide) (by omega)
      have h3 : 2 ^ t = 2 * 2 ^ (t - 1) := by
        rw [← Nat.pow_succ', show (t - 1).succ = t by omega]
      have e : (k + 2 ^ (t - 1)) / 2 ^ t = 0 := Nat.div_eq_of_lt (by omega)
      rw [e]
      decide
  · rw [if_neg c1, if_pos (by omega)]
    have et : 1075 - (E + 1) = t := by omega
    have et1 : 1074 - (E + 1) = t - 1 := by omega
    rw [et, et1]
    -- j: the exponent
    obtain ⟨j, hj⟩ : ∃ j, t + j = 52 := ⟨52 - t, by omega⟩
    have hE' : E = 1022 + j := by omega
    subst hE'
    have hp : 0 < 2 ^ t := Nat.two_pow_pos t
    have hmul : (2 : Nat) ^ 52 = 2 ^ j * 2 ^ t := by rw [← Nat.pow_add, show j + t = 52 by omega]
    have e1 : ((1022 + j) * 2 ^ 52 + k + 2 ^ (t - 1)) / 2 ^ t = (1022 + j) * 2 ^ j + (k + 2 ^ (t - 1)) / 2 ^ t := by
      rw [hmul, ← Nat.mul_assoc, Nat.add_assoc, Nat.add_comm, Nat.add_mul_div_right _ _ hp, Nat.add_comm]
    rw [e1]
    have h3 : 2 ^ t = 2 * 2 ^ (t - 1) := by
      rw [← Nat.pow_succ', show (t - 1).succ = t by omega]
    have q1 : 2 ^ j ≤ (k + 2 ^ (t - 1)) / 2 ^ t := by
      rw [Nat.le_div_iff_mul_le hp, ← hmul]; omega
    have q2 : (k + 2 ^ (t - 1)) / 2 ^ t ≤ 2 ^ (j + 1) := by
      refine Nat.le_of_lt_succ ?_
      rw [Nat.div_lt_iff_lt_mul hp, Nat.succ_mul, Nat.pow_succ, Nat.mul_comm (2 ^ j) 2, Nat.mul_assoc, ← hmul]
      omega
    generalize (k + 2 ^ (t - 1)) / 2 ^ t = q at *
    rw [Nat.add_mul, Nat.mul_assoc, ← hmul]
    by_cases c : q < 2 ^ (j + 1)
    · have r1 : 2 ^ 52 ≤ q * 2 ^ t := by rw [hmul]; exact Nat.mul_le_mul_right _ q1
      have r2 : q * 2 ^ t < 2 ^ 53 := by
        have := Nat.mul_lt_mul_of_pos_right c hp
        rwa [← Nat.pow_add, show j + 1 + t = 53 by omega] at this
      rw [read_normal r1 r2 (by omega)]
      exact toInt_number (t := t) (by omega) rfl
    · have : q = 2 ^ (j + 1) := by omega
      subst this
      have e2 : 2 ^ (j + 1) * 2 ^ t = 2 ^ 53 := by rw [← Nat.pow_add, show j + 1 + t = 53 by omega]
      rw [e2, show (1022 + j) * 2 ^ 52 + 2 ^ 53 = (1022 + (j + 1)) * 2 ^ 52 + 2 ^ 52 by omega, read_normal (Nat.le_refl _) (by decide) (by omega)]
      refine toInt_number (t := t - 1) (by omega) ?_
      rw [← Nat.pow_add, show j + 1 + (t - 1) = 52 by omega]

theorem round_toInt' {r E k t : Nat} (hr : r = E * 2 ^ 52 + k) (h1 : 2 ^ 52 ≤ k) (h2 : k < 2 ^ 53) (hE : E + t = 1074) (ht : 1 ≤ t) :
    (FloatKind.f64.decode (roundW r)).toInt .zero = some (((k + 2 ^ (t - 1)) / 2 ^ t : Nat) : Int) := by
  subst hr
  exact round_toInt h1 h2 hE ht

theorem carry (E : Nat) : E * 2 ^ 52 + 2 ^ 53 = (E + 1) * 2 ^ 52 + 2 ^ 52 := by omega

theorem half_carry {t : Nat} (h : 2 ≤ t) : (2 ^ 53 + 2 ^ (t - 1)) / 2 ^ t = (2 ^ 52 + 2 ^ (t - 1 - 1)) / 2 ^ (t - 1) := by
  have h3 : 2 ^ t = 2 * 2 ^ (t - 1) := by
    rw [← Nat.pow_succ', show (t - 1).succ = t by omega]
  have h4 : 2 ^ (t - 1) = 2 * 2 ^ (t - 1 - 1) := by
    rw [← Nat.pow_succ', show (t - 1 - 1).succ = t - 1 by omega]
  rw [h3, show 2 ^ 53 + 2 ^ (t - 1) = 2 * (2 ^ 52 + 2 ^ (t - 1 - 1)) by omega, Nat.mul_div_mul_left _ _ (by decide)]

theorem quo_digits {n b L B N d : Nat} (hn : n ≠ 0) (hb : b ≠ 0) (hL : n.log2 = L) (hB : b.log2 = B) (h : L ≤ 52) (h' : B ≤ 52)
    (hN : n * 2 ^ (52 - L) = N) (hd : b * 2 ^ (52 - B) = d) :
    floatBits .quo .f64 (floatOfInt .f64 (n : Int)) (floatOfInt .f64 (b : Int))
      = some (double.nearest false (2 * (N * 2 ^ 54 / d) + (N * 2 ^ 54 % d != 0).toNat) ((L : Int) - B - 55)) := by
  have hf : double.fractionBits = 52 := rfl
  have rN := whole_range hn hL h
  have rd := whole_range hb hB h'
  rw [hN] at rN
  rw [hd] at rd
  have lN : N.log2 = 52 := log2_of rN.1 rN.2
  have ld : d.log2 = 52 := log2_of rd.1 rd.2
  show (((double.read (floatOfInt .f64 (n : Int))).quotient (double.fractionBits + 2) (double.read (floatOfInt .f64 (b : Int)))).map double.write) = _
  rw [read_whole hn hL h, read_whole hb hB h', hN, hd, hf]
  unfold Datum.quotient
  dsimp only
  rw [if_neg (by omega)]
  simp only [lN, ld, Option.map_some, Nat.shiftLeft_eq, Format.write, Bool.xor_self]
  have e : (L : Int) - 52 - ((B : Int) - 52) - ((52 + 2 + 52 - 52 : Nat) : Int) - 1 = (L : Int) - B - 55 := by omega
  rw [e]

theorem guess {n b : Nat} (hb : b ≠ 0) (hn : n < 2 ^ 40) (hb' : b < 2 ^ 40) :
    ∃ x q : Nat, floatBits .quo .f64 (floatOfInt .f64 (n : Int)) (floatOfInt .f64 (b : Int)) = some x ∧ x < 2 ^ 63
      ∧ (FloatKind.f64.decode (roundW x)).toInt .zero = some (q : Int) ∧ q * b < n + b ∧ n < q * b + b := by
  by_cases h0 : n = 0
  · subst h0
    refine ⟨0, 0, ?_, by decide, by decide, by omega, by omega⟩
    have hz : floatOfInt .f64 ((0 : Nat) : Int) = 0 := by decide
    obtain ⟨B, hB⟩ : ∃ B, b.log2 = B := ⟨_, rfl⟩
    have hB' : B ≤ 52 := by
      have := (Nat.log2_lt hb).2 hb'
      omega
    have rd := whole_range hb hB hB'
    show (((double.read (floatOfInt .f64 ((0 : Nat) : Int))).quotient (double.fractionBits + 2) (double.read (floatOfInt .f64 (b : Int)))).map double.write) = _
    rw [hz, read_whole hb hB hB', show double.read 0 = .number false 0 (-1074) from by decide]
    generalize b * 2 ^ (52 - B) = d at *
    unfold Datum.quotient
    dsimp only
    rw [if_neg (by omega)]
    simp [Nat.shiftLeft_eq, Format.write, Format.nearest, Format.word]
  · obtain ⟨L, hL⟩ : ∃ L, n.log2 = L := ⟨_, rfl⟩
    obtain ⟨B, hB⟩ : ∃ B, b.log2 = B := ⟨_, rfl⟩
    have hL' : L ≤ 39 := by
      have := (Nat.log2_lt h0).2 hn
      omega
    have hB' : B ≤ 39 := by
      have := (Nat.log2_lt hb).2 hb'
      omega
    obtain ⟨N, hN⟩ : ∃ N, n * 2 ^ (52 - L) = N := ⟨_, rfl⟩
    obtain ⟨d, hd⟩ : ∃ d, b * 2 ^ (52 - B) = d := ⟨_, rfl⟩
    have rN := whole_range h0 hL (by omega)
    have rd := whole_range hb hB (by omega)
    rw [hN] at rN
    rw [hd] at rd
    rw [quo_digits h0 hb hL hB (by omega) (by omega) hN hd]
    -- the dividend and its quotient
    obtain ⟨V, hV⟩ : ∃ V, N * 2 ^ 54 = V := ⟨_, rfl⟩
    rw [hV]
    have dpos : 0 < d := by omega
    obtain ⟨M, hM⟩ : ∃ M, 2 * (V / d) + (V % d != 0).toNat = M := ⟨_, rfl⟩
    rw [hM]
    have bit : (V % d != 0).toNat ≤ 1 := Bool.toNat_le _
    have hdm := Nat.div_add_mod V d
    have hml := Nat.mod_lt V dpos
    have a1 : 2 ^ 53 ≤ V / d := by
      rw [Nat.le_div_iff_mul_le dpos]
      have := Nat.mul_le_mul_left (2 ^ 53) (Nat.le_of_lt rd.2)
      omega
    have a2 : V / d < 2 ^ 55 := by
      rw [Nat.div_lt_iff_lt_mul dpos]
      have := Nat.mul_le_mul_left (2 ^ 55) rd.1
      omega
    have m1 : M * d ≤ 2 * V + d := by
      have : M ≤ 2 * (V / d) + 1 := by omega
      have := Nat.mul_le_mul_right d this
      rw [Nat.add_mul, Nat.one_mul, Nat.mul_assoc, Nat.mul_comm (V / d) d] at this
      omega
    have m2 : 2 * V < M * d + 2 * d := by
      have : 2 * (V / d) ≤ M := by omega
      have := Nat.mul_le_mul_right d this
      rw [Nat.mul_assoc, Nat.mul_comm (V / d) d] at this
      omega
    have M1 : 2 ^ 54 ≤ M := by omega
    have M2 : M < 2 ^ 56 := by omega
    obtain ⟨s, hs, s2, s3⟩ : ∃ s, M.log2 = 52 + s ∧ 2 ≤ s ∧ s ≤ 3 := by
      by_cases c : M < 2 ^ 55
      · exact ⟨2, log2_of (by omega) (by omega), by omega, by omega⟩
      · exact ⟨3, log2_of (by omega) (by omega), by omega, by omega⟩
    have k12 := cut_even (neg := false) (n := M) (drop := s) (by omega)
    have hMl := log2_bounds (n := M) (by omega)
    rw [nearest_normal (s := s) (by omega) hs (by omega) (by omega)]
    -- t: how many digits stand behind the point
    obtain ⟨t, ht⟩ : ∃ t : Nat, (t : Int) = -((L : Int) - B - 55 + s) := ⟨(-((L : Int) - B - 55 + s)).toNat, by omega⟩
    obtain ⟨E, hE⟩ : ∃ E : Nat, ((L : Int) - B - 55 + s + 1074).toNat = E := ⟨_, rfl⟩
    rw [hE]
    have hEt : E + t = 1074 := by omega
    have t1 : 13 ≤ t := by omega
    obtain ⟨k, hk⟩ : ∃ k, Toward.even.cut false M s = k := ⟨_, rfl⟩
    rw [hk] at k12
    rw [hk]
    have gs : 4 ≤ 2 ^ s := by
      have := Nat.pow_le_pow_right (n := 2) (by decide) s2
      omega
    have kr1 : 2 ^ 52 ≤ k := by
      rw [hs, Nat.pow_add] at hMl
      generalize 2 ^ s = g at *
      refine Nat.le_of_not_lt fun hh => ?_
      have := Nat.mul_le_mul_right g (show k + 1 ≤ 2 ^ 52 by omega)
      rw [Nat.add_mul, Nat.one_mul] at this
      omega
    have kr2 : k ≤ 2 ^ 53 := by
      have h2 := hMl.2
      rw [hs, show 52 + s + 1 = 53 + s by omega, Nat.pow_add] at h2
      generalize 2 ^ s = g at *
      refine Nat.le_of_not_lt fun hh => ?_
      have := Nat.mul_le_mul_right g (show 2 ^ 53 + 1 ≤ k by omega)
      rw [Nat.add_mul, Nat.one_mul] at this
      omega
    have h3 : 2 ^ t = 2 * 2 ^ (t - 1) := by
      rw [← Nat.pow_succ', show (t - 1).succ = t by omega]
    have tp : 0 < 2 ^ t := Nat.two_pow_pos t
    refine ⟨E * 2 ^ 52 + k, (k + 2 ^ (t - 1)) / 2 ^ t, rfl, by omega, ?_, ?_⟩
    · by_cases c : k < 2 ^ 53
      · exact round_toInt kr1 c hEt (by omega)
      · have : k = 2 ^ 53 := by omega
        subst this
        have e := round_toInt' (carry E) (Nat.le_refl _) (by decide) (show E + 1 + (t - 1) = 1074 from by clear k12; omega) (by clear k12; omega)
        rw [e, half_carry (by clear k12; omega)]
    · -- the same number, in the digits' own scale
      have scale : n * (d * 2 ^ (s + t)) = 2 * V * b := by
        rw [← hV, ← hN, ← hd]
        have e : 52 - B + (s + t) = 52 - L + 55 := by omega
        have c1 : n * (b * 2 ^ (52 - B) * 2 ^ (s + t)) = n * b * 2 ^ (52 - B + (s + t)) := by rw [Nat.pow_add 2 (52 - B)]; ac_rfl
        have c2 : n * b * 2 ^ (52 - L + 55) = 2 * (n * 2 ^ (52 - L) * 2 ^ 54) * b := by
          rw [Nat.pow_add 2 (52 - L), show (2 : Nat) ^ 55 = 2 * 2 ^ 54 from rfl]; generalize 2 ^ (52 - L) = u; generalize 2 ^ 54 = v; ac_rfl
        rw [c1, e, c2]
      have q1 := Nat.div_mul_le_self (k + 2 ^ (t - 1)) (2 ^ t)
      have q2 := Nat.lt_div_mul_add (a := k + 2 ^ (t - 1)) tp
      generalize (k + 2 ^ (t - 1)) / 2 ^ t = q at *
      have dg : 0 < d * 2 ^ (s + t) := Nat.mul_pos dpos (Nat.two_pow_pos _)
      have bpos : 0 < b := by omega
      -- in one scale
      have st : (2 : Nat) ^ (s + t) = 2 ^ s * 2 ^ t := Nat.pow_add ..
      have T : 2 ≤ 2 ^ t := by
        have := Nat.pow_le_pow_right (n := 2) (by decide) t1
        omega
      have lo : q * 2 ^ (s + t) + 1 < M + 2 ^ (s + t) := by
        rw [st]
        generalize 2 ^ s = g at *
        generalize 2 ^ t = T' at *
        have x1 := Nat.mul_le_mul_left g q1
        have x2 : g * (q * T') = q * (g * T') := by ac_rfl
        rw [x2, Nat.mul_add] at x1
        have x3 : g * T' = 2 * (g * 2 ^ (t - 1)) := by rw [h3]; ac_rfl
        have x4 : g * 2 ≤ g * T' := Nat.mul_le_mul_left g T
        have x5 : g * k = k * g := Nat.mul_comm ..
        generalize g * T' = gT at *
        generalize g * 2 ^ (t - 1) = gh at *
        generalize q * gT = y at *
        omega
      have hi : M + 2 ≤ q * 2 ^ (s + t) + 2 ^ (s + t) := by
        rw [st]
        generalize 2 ^ s = g at *
        generalize 2 ^ t = T' at *
        have x1 := Nat.mul_le_mul_left g (Nat.succ_le_of_lt q2)
        have x2 : g * (q * T' + T') = q * (g * T') + g * T' := by rw [Nat.mul_add]; ac_rfl
        rw [x2, Nat.mul_succ, Nat.mul_add] at x1
        have x3 : g * T' = 2 * (g * 2 ^ (t - 1)) := by rw [h3]; ac_rfl
        have x5 : g * k = k * g := Nat.mul_comm ..
        generalize g * T' = gT at *
        generalize g * 2 ^ (t - 1) = gh at *
        generalize q * gT = y at *
        omega
      constructor
      · refine Nat.lt_of_mul_lt_mul_right (a := d * 2 ^ (s + t)) ?_
        rw [Nat.add_mul, scale]
        generalize 2 ^ (s + t) = G at *
        have y1 := Nat.mul_lt_mul_of_pos_right (Nat.mul_lt_mul_of_pos_right lo dpos) bpos
        have y2 := Nat.mul_le_mul_right b m1
        have z1 : (q * G + 1) * d * b = q * b * (d * G) + d * b := by rw [Nat.add_mul, Nat.add_mul, Nat.one_mul]; ac_rfl
        have z2 : (M + G) * d * b = M * d * b + b * (d * G) := by rw [Nat.add_mul, Nat.add_mul]; ac_rfl
        rw [z1, z2] at y1
        rw [Nat.add_mul] at y2
        generalize q * b * (d * G) = a at *
        generalize b * (d * G) = bb at *
        generalize M * d * b = c at *
        generalize d * b = e at *
        generalize 2 * V * b = f at *
        omega
      · refine Nat.lt_of_mul_lt_mul_right (a := d * 2 ^ (s + t)) ?_
        rw [Nat.add_mul, scale]
        generalize 2 ^ (s + t) = G at *
        have y1 := Nat.mul_le_mul_right b (Nat.mul_le_mul_right d hi)
        have y2 := Nat.mul_lt_mul_of_pos_right m2 bpos
        have z1 : (q * G + G) * d * b = q * b * (d * G) + b * (d * G) := by rw [Nat.add_mul, Nat.add_mul]; ac_rfl
        have z2 : (M + 2) * d * b = M * d * b + 2 * d * b := by rw [Nat.add_mul, Nat.add_mul]
        rw [z1, z2] at y1
        rw [Nat.add_mul] at y2
        generalize q * b * (d * G) = a at *
        generalize b * (d * G) = bb at *
        generalize M * d * b = c at *
        generalize 2 * d * b = e at *
        generalize 2 * V * b = f at *
        omega

end Go.Proofs.YtllaoijjgkfgpaaGreatDoor

namespace Go.Proofs.YtllaoijjgkfgpaaGreatDoor
open Go.RowKit
set_option linter.unusedVariables false

theorem bits_of (x : Nat) (w : World) : (callFunc 173 #[.float .f64 x]).run Tryz.prog w = .ok (.value (.int .u64 x)) w := by
  rw [run_callFunc_extern Tryz.func173 (by kernel_rfl) (by kernel_rfl) (by kernel_rfl) (e := Extern.MathFloatBits.float64bits) (by kernel_rfl)]
  rfl
theorem of_bits (n : Int) (w : World) : (callFunc 174 #[.int .u64 n]).run Tryz.prog w = .ok (.value (.float .f64 n.toNat)) w := by
  rw [run_callFunc_extern Tryz.func174 (by kernel_rfl) (by kernel_rfl) (by kernel_rfl) (e := Extern.MathFloatBits.float64frombits) (by kernel_rfl)]
  rfl

theorem and_high {a t : Nat} (ha : a < 2 ^ 64) (ht : t ≤ 64) : a &&& (2 ^ 64 - 1 - (2 ^ t - 1)) = a / 2 ^ t * 2 ^ t := by
  have hp := Nat.two_pow_pos t
  have hle : 2 ^ t ≤ 2 ^ 64 := Nat.pow_le_pow_right (by decide) ht
  rw [show 2 ^ 64 - 1 - (2 ^ t - 1) = 2 ^ 64 - (2 ^ t - 1 + 1) by omega, ← Nat.shiftRight_eq_div_pow, ← Nat.shiftLeft_eq]
  apply Nat.eq_of_testBit_eq
  intro i
  rw [Nat.testBit_and, Nat.testBit_two_pow_sub_succ (by omega), Nat.testBit_two_pow_sub_one, Nat.testBit_shiftLeft, Nat.testBit_shiftRight]
  by_cases h1 : i < t
  · simp [h1, show ¬ t ≤ i by omega]
  · rw [show t + (i - t) = i by omega]
    by_cases h2 : i < 64
    · simp [h1, h2, show t ≤ i by omega]
    · have : a.testBit i = false := Nat.testBit_lt_two_pow (Nat.lt_of_lt_of_le ha (Nat.pow_le_pow_right (by decide) (by omega)))
      simp [this]

theorem bits_exp {x : Nat} (hx : x < 2 ^ 63) : bits .and .u64 ((x : Int) / 4503599627370496) 2047 = ((x / 2 ^ 52 : Nat) : Int) := by
  have h := bits_and_u64_nat (x / 2 ^ 52) 2047 (by omega) (by omega)
  have e1 : ((x : Int) / 4503599627370496) = ((x / 2 ^ 52 : Nat) : Int) := by omega
  have e2 : (2047 : Int) = ((2047 : Nat) : Int) := rfl
  rw [e1, e2, h, show (2047 : Nat) = 2 ^ 11 - 1 from rfl, Nat.and_two_pow_sub_one_eq_mod]
  omega
theorem bits_sign {x : Nat} (hx : x < 2 ^ 63) : bits .and .u64 (x : Int) 9223372036854775808 = 0 := by
  have h := bits_and_u64_nat x 9223372036854775808 (by omega) (by omega)
  have e2 : (9223372036854775808 : Int) = ((9223372036854775808 : Nat) : Int) := rfl
  have z : x &&& 2 ^ 63 = 0 := by
    apply Nat.eq_of_testBit_eq
    intro i
    rw [Nat.testBit_and, Nat.testBit_two_pow, Nat.zero_testBit]
    by_cases hi : 63 = i
    · subst hi
      rw [Nat.testBit_lt_two_pow hx]
      rfl
    · simp [hi]
  rw [e2, h, show (9223372036854775808 : Nat) = 2 ^ 63 from rfl, z]
  rfl
theorem bits_one : bits .or .u64 0 4607182418800017408 = 4607182418800017408 := by
  have h := bits_or_u64_nat 0 4607182418800017408 (by omega) (by omega)
  rw [Nat.zero_or] at h
  exact h
theorem bits_cut {x e : Nat} (hx : x < 2 ^ 63) (he : x / 2 ^ 52 = e) (h1 : 1023 ≤ e) (h2 : e < 1075) :
    bits .andNot .u64 (IntKind.u64.wrap ((x : Int) + 2251799813685248 / 2 ^ (e - 1023))) (4503599627370495 / 2 ^ (e - 1023)) = ((roundW x : Nat) : Int) := by
  obtain ⟨j, rfl⟩ : ∃ j, e = 1023 + j := ⟨e - 1023, by omega⟩
  obtain ⟨t, ht⟩ : ∃ t, t + j = 51 := ⟨51 - j, by omega⟩
  have ej : 1023 + j - 1023 = j := by omega
  have p1 : (2251799813685248 : Nat) / 2 ^ j = 2 ^ t := by
    rw [show (2251799813685248 : Nat) = 2 ^ t * 2 ^ j from by rw [← Nat.pow_add, ht]]
    exact Nat.mul_div_cancel _ (Nat.two_pow_pos j)
  have p2 : (4503599627370495 : Nat) / 2 ^ j = 2 ^ (t + 1) - 1 := by
    have hj := Nat.two_pow_pos j
    have e : (4503599627370495 : Nat) = (2 ^ (t + 1) - 1) * 2 ^ j + (2 ^ j - 1) := by
      have : 2 ^ (t + 1) * 2 ^ j = 4503599627370496 := by rw [← Nat.pow_add, show t + 1 + j = 52 by omega]
      have h3 := Nat.two_pow_pos (t + 1)
      rw [Nat.sub_mul, Nat.one_mul]
      have h4 : 2 ^ j ≤ 2 ^ (t + 1) * 2 ^ j := Nat.le_mul_of_pos_left _ h3
      omega
    rw [e, Nat.add_comm, Nat.add_mul_div_right _ _ hj, Nat.div_eq_of_lt (by omega), Nat.zero_add]
  have i1 : (2251799813685248 : Int) / 2 ^ j = ((2 ^ t : Nat) : Int) := by
    rw [← p1]; exact (Int.natCast_ediv _ _).symm
  have i2 : (4503599627370495 : Int) / 2 ^ j = ((2 ^ (t + 1) - 1 : Nat) : Int) := by
    rw [← p2]; exact (Int.natCast_ediv _ _).symm
  have tl : 2 ^ t ≤ 2 ^ 51 := Nat.pow_le_pow_right (by decide) (by omega)
  have tl2 : 2 ^ (t + 1) ≤ 2 ^ 52 := Nat.pow_le_pow_right (by decide) (by omega)
  have i3 : IntKind.u64.wrap ((x : Int) + ((2 ^ t : Nat) : Int)) = ((x + 2 ^ t : Nat) : Int) := by
    rw [IntKind.wrap_u64]
    generalize 2 ^ t = u at *
    omega
  rw [ej, i1, i2, i3, u64_andNot_nat _ _ (by omega) (by omega)]
  have hc := and_high (a := x + 2 ^ t) (t := t + 1) (by omega) (by omega)
  rw [show (18446744073709551615 : Nat) = 2 ^ 64 - 1 from rfl, hc]
  unfold roundW
  rw [he, if_neg (by omega), if_pos h2, show 1074 - (1023 + j) = t by omega, show 1075 - (1023 + j) = t + 1 by omega]

theorem hid {p : Prop} (h : p) : Hid p := h

set_option maxRecDepth 100000 in
set_option maxHeartbeats 1600000 in
theorem round_any (x : Nat) (w : World) (hx : x < 2 ^ 63) : Calls Tryz.prog 167 #[.float .f64 x] w fun e w' => e = .returned (.float .f64 (roundW x)) ∧ w' = w := by
  have hb := bits_of x
  have hf := of_bits
  obtain ⟨e, he⟩ : ∃ e, x / 2 ^ 52 = e := ⟨_, rfl⟩
  have hE := bits_exp hx
  have hS := bits_sign hx
  have hO := bits_one
  rw [he] at hE
  by_cases c1 : e < 1022
  · have hr : Hid (roundW x = 0) := hid (by unfold roundW; rw [he, if_pos (by omega), if_neg (by omega)])
    have i1 : (e : Int) < 1023 := by omega
    have i2 : ((e : Int) == 1022) = false := by simp; omega
    clear hx he c1
    go_enter Tryz.func167, Tryz.ntmps167
    go_wp2
    go_ret
    rw [show roundW x = 0 from hr]
    exact ⟨rfl, rfl⟩
  by_cases c2 : e = 1022
  · have hr : Hid (roundW x = 1023 * 2 ^ 52) := hid (by unfold roundW; rw [he, if_pos (by omega), if_pos c2])
    have i1 : (e : Int) < 1023 := by omega
    have i2 : ((e : Int) == 1022) = true := by simp; omega
    clear hx he c1 c2
    go_enter Tryz.func167, Tryz.ntmps167
    go_wp2
    go_ret
    rw [show roundW x = 1023 * 2 ^ 52 from hr]
    exact ⟨rfl, rfl⟩
  by_cases c3 : e < 1075
  · have hC := bits_cut hx he (by omega) c3
    have i1 : ¬ (e : Int) < 1023 := by omega
    have i3 : (e : Int) < 1075 := by omega
    generalize roundW x = r at *
    clear hx he c1 c2
    go_enter Tryz.func167, Tryz.ntmps167
    go_wp2
    go_ret
    refine ⟨?_, rfl⟩
    first
      | rfl
      | (show Ending.returned (.float .f64 (bits .andNot .u64 _ _).toNat) = _; rw [hC, Int.toNat_natCast])
  · have hr : Hid (roundW x = x) := hid (by unfold roundW; rw [he, if_neg (by omega), if_neg c3])
    have i1 : ¬ (e : Int) < 1023 := by omega
    have i3 : ¬ (e : Int) < 1075 := by omega
    clear hx he c1 c2 c3
    go_enter Tryz.func167, Tryz.ntmps167
    go_wp2
    go_ret
    rw [show roundW x = x from hr]
    exact ⟨rfl, rfl⟩

set_option maxRecDepth 100000 in
set_option maxHeartbeats 1600000 in
theorem near_any (n b : Nat) (w : World) (hb0 : b ≠ 0) (hn : n < 2 ^ 40) (hb : b < 2 ^ 40) :
    Calls Tryz.prog 153 #[.int .i64 (n : Int), .int .i64 (b : Int)] w fun e w' => (∃ q : Nat, e = .returned (.int .i64 (q : Int)) ∧ q * b < n + b ∧ n < q * b + b) ∧ w' = w := by
  obtain ⟨x, q, hq, hx, hi, h1, h2⟩ := guess hb0 hn hb
  have ql : q < 2 ^ 41 := by
    refine Nat.lt_of_le_of_lt (Nat.le_mul_of_pos_right q (Nat.pos_of_ne_zero hb0)) (Nat.lt_trans h1 ?_)
    omega
  have HV : Hid (floatToIntVal .f64 (roundW x) .i64 = some (q : Int)) := hid (by
    unfold floatToIntVal
    rw [hi]
    exact if_pos ⟨by show (-9223372036854775808 : Int) ≤ (q : Int); omega, by show (q : Int) ≤ 9223372036854775807; omega⟩)
  have HX := hid hx
  have H1 := hid h1
  have H2 := hid h2
  have hdiv := fun (W : World) (t : TypeId) => run_float_arith (P := Tryz.prog) W .quo t .f64 _ _ x hq
  have hcv := fun (W : World) => run_convert_float_int (P := Tryz.prog) W 206 3 .f64 .i64 (roundW x) (q : Int) (by kernel_rfl) (by kernel_rfl) HV
  have HR := hid (fun W => round_any x W hx)
  clear hq hx hi h1 h2 hn hb hb0 ql
  generalize roundW x = r at *
  go_enter Tryz.func153, Tryz.ntmps153
  go_wp2_with fail
  refine ((show ∀ W, _ from HR) _).mono ?_
  rintro e w1 ⟨rfl, rfl⟩
  go_wp2
  go_ret
  exact ⟨⟨q, rfl, H1, H2⟩, rfl⟩

theorem mend_down {n b q : Nat} (h1 : q * b < n + b) (h2 : n < q * b + b) : (n < q * b → (q : Int) - 1 = ((n / b : Nat) : Int)) ∧ (¬ n < q * b → (q : Int) = ((n / b : Nat) : Int)) := by
  have hb : 0 < b := Nat.pos_of_ne_zero (by rintro rfl; omega)
  constructor
  · intro h
    have hq : q ≠ 0 := by rintro rfl; omega
    obtain ⟨p, rfl⟩ : ∃ p, q = p + 1 := ⟨q - 1, by omega⟩
    rw [Nat.add_mul, Nat.one_mul] at h1 h
    have : n / b = p := Nat.div_eq_of_lt_le (by omega) (by rw [Nat.add_mul, Nat.one_mul]; omega)
    omega
  · intro h
    have : n / b = q := Nat.div_eq_of_lt_le (by omega) (by rw [Nat.add_mul, Nat.one_mul]; omega)
    omega
theorem mend_up {n b q : Nat} (h1 : q * b < n + b) (h2 : n < q * b + b) : (q * b < n → (q : Int) + 1 = (((n + b - 1) / b : Nat) : Int)) ∧ (¬ q * b < n → (q : Int) = (((n + b - 1) / b : Nat) : Int)) := by
  have hb : 0 < b := Nat.pos_of_ne_zero (by rintro rfl; omega)
  constructor
  · intro h
    have : (n + b - 1) / b = q + 1 := Nat.div_eq_of_lt_le (by rw [Nat.add_mul, Nat.one_mul]; omega) (by rw [Nat.add_mul, Nat.add_mul, Nat.one_mul]; omega)
    omega
  · intro h
    have : (n + b - 1) / b = q := Nat.div_eq_of_lt_le (by omega) (by rw [Nat.add_mul, Nat.one_mul]; omega)
    omega

set_option maxHeartbeats 1600000 in
theorem down_any (n b r : Nat) (hr : n / b = r) (w : World) (hb0 : b ≠ 0) (hn : n < 2 ^ 40) (hb : b < 2 ^ 40) :
    Calls Tryz.prog 135 #[.int .i64 (n : Int), .int .i64 (b : Int)] w fun e w' => e = .returned (.int .i64 (r : Int)) ∧ w' = w := by
  have HN := hid (near_any n b w hb0 hn hb)
  clear hb0
  replace hr := hid hr
  go_enter Tryz.func135, Tryz.ntmps135
  go_wp2_with fail
  refine (show Calls _ _ _ _ _ from HN).mono ?_
  rintro e w1 ⟨⟨q, rfl, h1, h2⟩, rfl⟩
  have HM := hid (mend_down h1 h2)
  rw [show _ = r from hr] at HM
  clear hr
  have hqb : ((q : Int) * (b : Int)) = ((q * b : Nat) : Int) := by rw [Int.natCast_mul]
  have l1 : q * b < 2 ^ 41 := by omega
  have lq : q < 2 ^ 41 := by
    have hb : 0 < b := Nat.pos_of_ne_zero (by rintro rfl; omega)
    exact Nat.lt_of_le_of_lt (Nat.le_mul_of_pos_right q hb) l1
  generalize q * b = y at *
  have hwy : IntKind.i64.wrap (y : Int) = (y : Int) := by rw [IntKind.wrap_i64]; omega
  by_cases c : n < y
  · have HR := hid ((show _ ∧ _ from HM).1 c)
    have ci : (n : Int) < (y : Int) := by omega
    have hw : IntKind.i64.wrap ((q : Int) - 1) = (q : Int) - 1 := by rw [IntKind.wrap_i64]; omega
    go_wp2
    go_ret
    exact ⟨congrArg (fun z => Ending.returned (.int .i64 z)) HR, rfl⟩
  · have HR := hid ((show _ ∧ _ from HM).2 c)
    have ci : ¬ (n : Int) < (y : Int) := by omega
    go_wp2
    go_ret
    exact ⟨congrArg (fun z => Ending.returned (.int .i64 z)) HR, rfl⟩

set_option maxHeartbeats 1600000 in
theorem up_any (n b r : Nat) (hr : (n + b - 1) / b = r) (w : World) (hb0 : b ≠ 0) (hn : n < 2 ^ 40) (hb : b < 2 ^ 40) :
    Calls Tryz.prog 133 #[.int .i64 (n : Int), .int .i64 (b : Int)] w fun e w' => e = .returned (.int .i64 (r : Int)) ∧ w' = w := by
  have HN := hid (near_any n b w hb0 hn hb)
  clear hb0
  replace hr := hid hr
  go_enter Tryz.func133, Tryz.ntmps133
  go_wp2_with fail
  refine (show Calls _ _ _ _ _ from HN).mono ?_
  rintro e w1 ⟨⟨q, rfl, h1, h2⟩, rfl⟩
  have HM := hid (mend_up h1 h2)
  rw [show _ = r from hr] at HM
  clear hr
  have hqb : ((q : Int) * (b : Int)) = ((q * b : Nat) : Int) := by rw [Int.natCast_mul]
  have l1 : q * b < 2 ^ 41 := by omega
  have lq : q < 2 ^ 41 := by
    have hb : 0 < b := Nat.pos_of_ne_zero (by rintro rfl; omega)
    exact Nat.lt_of_le_of_lt (Nat.le_mul_of_pos_right q hb) l1
  generalize q * b = y at *
  have hwy : IntKind.i64.wrap (y : Int) = (y : Int) := by rw [IntKind.wrap_i64]; omega
  by_cases c : y < n
  · have HR := hid ((show _ ∧ _ from HM).1 c)
    have ci : (y : Int) < (n : Int) := by omega
    have hw : IntKind.i64.wrap ((q : Int) + 1) = (q : Int) + 1 := by rw [IntKind.wrap_i64]; omega
    go_wp2
    go_ret
    exact ⟨congrArg (fun z => Ending.returned (.int .i64 z)) HR, rfl⟩
  · have HR := hid ((show _ ∧ _ from HM).2 c)
    have ci : ¬ (y : Int) < (n : Int) := by omega
    go_wp2
    go_ret
    exact ⟨congrArg (fun z => Ending.returned (.int .i64 z)) HR, rfl⟩

end Go.Proofs.YtllaoijjgkfgpaaGreatDoor

namespace Go.Proofs.YtllaoijjgkfgpaaGreatDoor
open Go.RowKit
set_option linter.unusedVariables false
set_option maxRecDepth 100000

theorem down_int (n b : Int) (w : World) (hn0 : 0 ≤ n) (hn : n < 1000000000000) (hb0 : 1 ≤ b) (hb : b < 1000000000000) :
    Calls Tryz.prog 135 #[.int .i64 n, .int .i64 b] w fun e w' => e = .returned (.int .i64 (n / b)) ∧ w' = w := by
  obtain ⟨n, rfl⟩ := Int.eq_ofNat_of_zero_le hn0
  obtain ⟨b, rfl⟩ := Int.eq_ofNat_of_zero_le (show 0 ≤ b by omega)
  exact (down_any n b _ rfl w (by omega) (by omega) (by omega)).mono fun e w' ⟨h1, h2⟩ => ⟨h1, h2⟩
theorem up_int (n b : Int) (w : World) (hn0 : 0 ≤ n) (hn : n < 1000000000000) (hb0 : 1 ≤ b) (hb : b < 1000000000000) :
    Calls Tryz.prog 133 #[.int .i64 n, .int .i64 b] w fun e w' => e = .returned (.int .i64 ((n + b - 1) / b)) ∧ w' = w := by
  obtain ⟨n, rfl⟩ := Int.eq_ofNat_of_zero_le hn0
  obtain ⟨b, rfl⟩ := Int.eq_ofNat_of_zero_le (show 0 ≤ b by omega)
  refine (up_any n b _ rfl w (by omega) (by omega) (by omega)).mono fun e w' ⟨h1, h2⟩ => ⟨?_, h2⟩
  rw [h1]
  have e1 : ((n + b - 1 : Nat) : Int) = (n : Int) + (b : Int) - 1 := by omega
  rw [← e1]
  rfl

theorem latQ_up (r x : Int) : ((x + 1) * 1000 + (1000 - r) - 1) / (1000 - r) = latQ r x := by
  unfold latQ
  congr 1
  omega

theorem latest1_any (x r : Int) (p : Addr) (w : World) (hx0 : 0 ≤ x) (hx : x ≤ 100000) (hr0 : 0 ≤ r) (hr : r ≤ 500) (hc : w.cell? p = some (.int .i64 r)) :
    Calls Tryz.prog 132 #[.int .i64 x, .pointer (some p)] w fun e w' => e = .returned (.int .i64 (latQ r x)) ∧ w' = w := by
  have HQ := hidB (latQ_up r x)
  go_enter Tryz.func132, Tryz.ntmps132
  go_wp2_with fail
  refine (up_int ((x + 1) * 1000) (1000 - r) _ (by omega) (by omega) (by omega) (by omega)).mono ?_
  rintro e w1 ⟨rfl, rfl⟩
  go_wp2
  go_ret
  rw [← show _ = latQ r x from HQ]
  exact ⟨rfl, rfl⟩
theorem earliest1_any (x r : Int) (p : Addr) (w : World) (hx0 : 1 ≤ x) (hx : x ≤ 100000) (hr0 : 0 ≤ r) (hr : r ≤ 500) (hc : w.cell? p = some (.int .i64 r)) :
    Calls Tryz.prog 134 #[.int .i64 x, .pointer (some p)] w fun e w' => e = .returned (.int .i64 (earQ r x)) ∧ w' = w := by
  go_enter Tryz.func134, Tryz.ntmps134
  go_wp2_with fail
  refine (down_int ((x - 1) * 1000) (1000 + r) _ (by omega) (by omega) (by omega) (by omega)).mono ?_
  rintro e w1 ⟨rfl, rfl⟩
  go_wp2
  go_ret
  exact ⟨rfl, rfl⟩

theorem latestBy_any (r : Int) (w : World) :
    Calls Tryz.prog 97 #[.int .i64 r] w fun e w' => e = .returned (.func (.func 132) #[] #[.pointer (some ⟨w.heap.size, 0, none⟩)]) ∧ w'.cell? ⟨w.heap.size, 0, none⟩ = some (.int .i64 r) ∧ w.heap.size < w'.heap.size ∧ Below w.heap.size w w' := by
  have hmf : ∀ (fn : Fn) (first cap : Array Value) (w : World), (Instr.makeFunc fn first cap).run Tryz.prog w = .ok (.func fn first cap) w := fun _ _ _ _ => rfl
  go_enter Tryz.func97, Tryz.ntmps97
  go_wp2
  go_ret
  exact ⟨rfl, by simp [go_sem], by simp, Joins.below_alloc1 _ _⟩
theorem earliestBy_any (r : Int) (w : World) :
    Calls Tryz.prog 98 #[.int .i64 r] w fun e w' => e = .returned (.func (.func 134) #[] #[.pointer (some ⟨w.heap.size, 0, none⟩)]) ∧ w'.cell? ⟨w.heap.size, 0, none⟩ = some (.int .i64 r) ∧ w.heap.size < w'.heap.size ∧ Below w.heap.size w w' := by
  have hmf : ∀ (fn : Fn) (first cap : Array Value) (w : World), (Instr.makeFunc fn first cap).run Tryz.prog w = .ok (.func fn first cap) w := fun _ _ _ _ => rfl
  go_enter Tryz.func98, Tryz.ntmps98
  go_wp2
  go_ret
  exact ⟨rfl, by simp [go_sem], by simp, Joins.below_alloc1 _ _⟩

theorem latestBy_keep (r : Int) (p : Addr) (v : Value) (w : World) (hp : w.cell? p = some v) :
    Calls Tryz.prog 97 #[.int .i64 r] w fun e w' => e = .returned (.func (.func 132) #[] #[.pointer (some ⟨w.heap.size, 0, none⟩)]) ∧ w'.cell? p = some v ∧ Hid (w'.cell? ⟨w.heap.size, 0, none⟩ = some (.int .i64 r) ∧ w.heap.size < w'.heap.size ∧ Below w.heap.size w w') :=
  (latestBy_any r w).mono fun e w' ⟨h1, h2, h3, h4⟩ => ⟨h1, (h4.cell (World.block_lt_of_cell? _ _ hp)).trans hp, hidB ⟨h2, h3, h4⟩⟩
theorem earliestBy_keep (r : Int) (p : Addr) (v : Value) (w : World) (hp : w.cell? p = some v) :
    Calls Tryz.prog 98 #[.int .i64 r] w fun e w' => e = .returned (.func (.func 134) #[] #[.pointer (some ⟨w.heap.size, 0, none⟩)]) ∧ w'.cell? p = some v ∧ Hid (w'.cell? ⟨w.heap.size, 0, none⟩ = some (.int .i64 r) ∧ w.heap.size < w'.heap.size ∧ Below w.heap.size w w') :=
  (earliestBy_any r w).mono fun e w' ⟨h1, h2, h3, h4⟩ => ⟨h1, (h4.cell (World.block_lt_of_cell? _ _ hp)).trans hp, hidB ⟨h2, h3, h4⟩⟩

end Go.Proofs.YtllaoijjgkfgpaaGreatDoor

namespace Go.Proofs.YtllaoijjgkfgpaaGreatDoor
open Go.RowKit
set_option linter.unusedVariables false
set_option maxRecDepth 100000

def cokB (f d l r : Int) : Bool := cfgB f d l r && decide (latQ r f + l < earQ r d)
theorem cok_no {f d l r : Int} (h : cfgB f d l r = false) : cokB f d l r = false := by simp [cokB, h]
theorem cok_yes {f d l r : Int} (h : cfgB f d l r = true) : cokB f d l r = decide (latQ r f + l < earQ r d) := by simp [cokB, h]
theorem latQ_le {r x : Int} (hr0 : 0 ≤ r) (hr : r ≤ 500) (hx0 : 0 ≤ x) (hx : x ≤ 100000) : 0 ≤ latQ r x ∧ latQ r x ≤ 1000000 := by
  unfold latQ
  refine ⟨Int.ediv_nonneg (by omega) (by omega), ?_⟩
  exact Int.le_of_lt_add_one (Int.ediv_lt_of_lt_mul (by omega) (by
    have : (1000000 + 1) * 500 ≤ (1000000 + 1) * (1000 - r) := Int.mul_le_mul_of_nonneg_left (by omega) (by omega)
    omega))
theorem earQ_le {r x : Int} (hr0 : 0 ≤ r) (hr : r ≤ 500) (hx0 : 1 ≤ x) (hx : x ≤ 100000) : 0 ≤ earQ r x ∧ earQ r x ≤ 100000000 := by
  unfold earQ
  refine ⟨Int.ediv_nonneg (by omega) (by omega), ?_⟩
  exact Int.le_trans (Int.ediv_le_self _ (by omega)) (Int.le_trans (b := 99999000) (by omega) (by omega))

set_option maxHeartbeats 1600000 in
theorem configOK_impl (f d l r : Int) (w : World) : Calls Tryz.prog 53 #[cfgV f d l r] w fun e w' => e = .returned (.bool (cokB f d l r)) ∧ Below w.heap.size w w' := by
  have f0 := fieldC0 f d l r
  have f1 := fieldC1 f d l r
  have f2 := fieldC2 f d l r
  have f3 := fieldC3 f d l r
  by_cases hb : cfgB f d l r = false
  · have hr := hidB (cok_no hb)
    go_enter Tryz.func53, Tryz.ntmps53
    go_wp2_with fail
    refine (bounds_impl f d l r _).mono ?_
    rintro e w1 ⟨rfl, hw⟩
    have HW := hidB hw
    clear hw
    go_wp2
    go_ret
    rw [show cokB f d l r = false from hr]
    exact ⟨rfl, (Joins.below_alloc1 _ _).trans (Below.mono HW (by simp))⟩
  rw [Bool.not_eq_false] at hb
  have hr := hidB (cok_yes hb)
  obtain ⟨⟨bf0, bf1⟩, ⟨bd0, bd1⟩, ⟨bl0, bl1⟩, br0, br1⟩ := cfgB_iff.1 hb
  obtain ⟨ql0, ql1⟩ := latQ_le (x := f) br0 br1 (by omega) (by omega)
  obtain ⟨qe0, qe1⟩ := earQ_le (x := d) br0 br1 (by omega) (by omega)
  go_enter Tryz.func53, Tryz.ntmps53
  go_wp2_with fail
  refine (bounds_impl f d l r _).mono ?_
  rintro e w1 ⟨rfl, hw⟩
  have HB1 := hidB ((Joins.below_alloc1 w _).trans (Below.mono hw (by simp)))
  have c0 := hidB ((hw.cell (p := ⟨w.heap.size, 0, none⟩) (by simp)).trans (by simp [go_sem] : _ = some (.int .i64 f)))
  have c1 := hidB ((hw.cell (p := ⟨w.heap.size, 1, none⟩) (by simp)).trans (by simp [go_sem] : _ = some (.int .i64 d)))
  have c2 := hidB ((hw.cell (p := ⟨w.heap.size, 2, none⟩) (by simp)).trans (by simp [go_sem] : _ = some (.int .i64 l)))
  have c3 := (hw.cell (p := ⟨w.heap.size, 3, none⟩) (by simp)).trans (by simp [go_sem] : _ = some (.int .i64 r))
  have hz : w.heap.size < w1.heap.size := Nat.lt_of_lt_of_le (by simp) hw.size
  clear hw
  go_wp2_with fail
  go_region_held3 (fun w' => w'.cell? ⟨w.heap.size, 3, none⟩ = some (.int .i64 r)) (go_keep)
    (first
      | (go_at_call 97; refine (latestBy_keep r ⟨w.heap.size, 3, none⟩ (.int .i64 r) _ ?_).mono ?_; (simp [*]); rintro e wA ⟨rfl, hA0, hA1⟩)
      | (go_at_call 98; refine (earliestBy_keep r ⟨w.heap.size, 3, none⟩ (.int .i64 r) _ ?_).mono ?_; (simp [*]); rintro e wB ⟨rfl, hB0, hB1⟩))
  obtain ⟨a0, a1, a2⟩ := show _ ∧ _ ∧ _ from hA1
  obtain ⟨e0, e1, e2⟩ := show _ ∧ _ ∧ _ from hB1
  have a3 : Below w1.heap.size w1 wA := (Below.refl _ w1).drew.trans a2
  have HBB := hidB ((show Below w.heap.size w w1 from HB1).trans ((a3.trans (e2.mono a3.size)).mono (Nat.le_of_lt hz)))
  have l0 : w.heap.size < wA.heap.size := Nat.lt_of_lt_of_le hz a3.size
  have k0 := hidB ((e2.cell (p := ⟨w.heap.size, 0, none⟩) l0).trans ((a3.cell (p := ⟨w.heap.size, 0, none⟩) hz).trans c0))
  have k1 := hidB ((e2.cell (p := ⟨w.heap.size, 1, none⟩) l0).trans ((a3.cell (p := ⟨w.heap.size, 1, none⟩) hz).trans c1))
  have k2 := hidB ((e2.cell (p := ⟨w.heap.size, 2, none⟩) l0).trans ((a3.cell (p := ⟨w.heap.size, 2, none⟩) hz).trans c2))
  have k3 := hidB ((e2.cell (p := ⟨w1.heap.size, 0, none⟩) a1).trans a0)
  have k4 := hidB e0
  have wr : IntKind.i64.wrap (latQ r f + l) = latQ r f + l := by rw [IntKind.wrap_i64]; omega
  clear hA0 hA1 hB0 hB1 a0 a1 a2 e0 e1 e2 a3 l0 c0 c1 c2 c3 hz HB1
  generalize w1.heap.size = h1 at *
  generalize wA.heap.size = h2 at *
  have k0' : wB.cell? ⟨w.heap.size, 0, none⟩ = some (.int .i64 f) := k0
  have k1' : wB.cell? ⟨w.heap.size, 1, none⟩ = some (.int .i64 d) := k1
  have k2' : wB.cell? ⟨w.heap.size, 2, none⟩ = some (.int .i64 l) := k2
  have k3' : wB.cell? ⟨h1, 0, none⟩ = some (.int .i64 r) := k3
  have k4' : wB.cell? ⟨h2, 0, none⟩ = some (.int .i64 r) := k4
  go_wp2_with fail
  go_region_held3 (fun w' => w'.cell? ⟨w.heap.size, 0, none⟩ = some (.int .i64 f) ∧ w'.cell? ⟨w.heap.size, 1, none⟩ = some (.int .i64 d) ∧ w'.cell? ⟨w.heap.size, 2, none⟩ = some (.int .i64 l) ∧ w'.cell? ⟨h1, 0, none⟩ = some (.int .i64 r) ∧ w'.cell? ⟨h2, 0, none⟩ = some (.int .i64 r)) (go_keep)
    (first
      | (go_at_call 132; refine (latest1_any f r ⟨h1, 0, none⟩ _ (by omega) (by omega) (by omega) (by omega) ?_).mono ?_; (simp [*]); rintro e wC ⟨rfl, rfl⟩)
      | (go_at_call 134; refine (earliest1_any d r ⟨h2, 0, none⟩ _ (by omega) (by omega) (by omega) (by omega) ?_).mono ?_; (simp [*]); rintro e wD ⟨rfl, rfl⟩))
  all_goals go_wp2
  all_goals go_ret
  all_goals rw [show cokB f d l r = decide (latQ r f + l < earQ r d) from hr]
  all_goals exact ⟨rfl, by repeat (first | exact HBB | refine Below.drew ?_)⟩

end Go.Proofs.YtllaoijjgkfgpaaGreatDoor

namespace Go.Proofs.YtllaoijjgkfgpaaGreatDoor
open Go.RowKit
set_option linter.unusedVariables false
set_option maxRecDepth 100000

def hs1 (t : Int) (x : Hst) : Bool := betw x.st 0 2 && (betw x.gen 0 1000000 && betw x.ren 0 t)
def hsB (hs : List Hst) (t : Int) : Bool := decide (hs.length = 4) && hs.all (hs1 t)
def maybB (q : Rq) : Bool := eqR q rq0 || rqB q
def wokB (m : Wld) : Bool := diskB m.ss m.xs && (decide (m.xs.length = 0) && (cokB m.cf m.cd m.cl m.cr && (betw m.t 0 1000000 && (hsB m.hs m.t && (gsB m.g && maybB m.q)))))
theorem hs_len {hs : List Hst} {t : Int} (h : ¬ hs.length = 4) : hsB hs t = false := by rw [hsB, decide_eq_false h]; rfl
theorem hs_bad {hs : List Hst} {t : Int} {k : Nat} (hk : k < hs.length) (h : hs1 t hs[k] = false) : hsB hs t = false := by
  rw [hsB, List.all_eq_false.2 ⟨_, List.getElem_mem hk, by rw [h]; decide⟩, Bool.and_false]
theorem hs_all {hs : List Hst} {t : Int} (h4 : hs.length = 4) (h : ∀ j (hj : j < hs.length), hs1 t hs[j] = true) : hsB hs t = true := by
  rw [hsB, decide_eq_true h4, Bool.true_and, List.all_eq_true]
  intro x hx
  obtain ⟨j, hj, rfl⟩ := List.mem_iff_getElem.1 hx
  exact h j hj
theorem hs1_1 {t : Int} {x : Hst} (h : betw x.st 0 2 = false) : hs1 t x = false := by rw [hs1, h]; rfl
theorem hs1_2 {t : Int} {x : Hst} (h : betw x.gen 0 1000000 = false) : hs1 t x = false := by rw [hs1, h, Bool.false_and, Bool.and_false]
theorem hs1_3 {t : Int} {x : Hst} (h1 : betw x.st 0 2 = true) (h2 : betw x.gen 0 1000000 = true) : hs1 t x = betw x.ren 0 t := by rw [hs1, h1, h2]; rfl
theorem wok_0 {m : Wld} (h : diskB m.ss m.xs = false) : wokB m = false := by rw [wokB, h]; rfl
theorem wok_x {m : Wld} (h : ¬ m.xs.length = 0) : wokB m = false := by rw [wokB, decide_eq_false h, Bool.false_and, Bool.and_false]
theorem wok_1 {m : Wld} (h : cokB m.cf m.cd m.cl m.cr = false) : wokB m = false := by rw [wokB, h]; simp
theorem wok_2 {m : Wld} (h : betw m.t 0 1000000 = false) : wokB m = false := by rw [wokB, h]; simp
theorem wok_3 {m : Wld} (h : hsB m.hs m.t = false) : wokB m = false := by rw [wokB, h]; simp
theorem wok_4 {m : Wld} (h : gsB m.g = false) : wokB m = false := by rw [wokB, h]; simp
theorem wok_6 {m : Wld} (h : maybB m.q = false) : wokB m = false := by rw [wokB, h]; simp
theorem wok_all {m : Wld} (h0 : diskB m.ss m.xs = true) (hx : m.xs.length = 0) (h1 : cokB m.cf m.cd m.cl m.cr = true) (h2 : betw m.t 0 1000000 = true) (h3 : hsB m.hs m.t = true) (h4 : gsB m.g = true) : wokB m = maybB m.q := by rw [wokB, h0, decide_eq_true hx, h1, h2, h3, h4]; rfl
theorem wok_h {m : Wld} (h0 : diskB m.ss m.xs = true) (hx : m.xs.length = 0) (h1 : cokB m.cf m.cd m.cl m.cr = true) (h2 : betw m.t 0 1000000 = true) (h4 : gsB m.g = true) (h6 : maybB m.q = true) : wokB m = hsB m.hs m.t := by rw [wokB, h0, decide_eq_true hx, h1, h2, h4, h6]; simp
theorem mayb_no {q : Rq} (h : eqR q ⟨0, 0, 0, noB⟩ = false) : maybB q = rqB q := by
  unfold maybB
  rw [show eqR q rq0 = false from h]; rfl
theorem mayb_yes {q : Rq} (h : eqR q ⟨0, 0, 0, noB⟩ = true) : maybB q = true := by
  unfold maybB
  rw [show eqR q rq0 = true from h]; rfl

end Go.Proofs.YtllaoijjgkfgpaaGreatDoor

namespace Go.Proofs.YtllaoijjgkfgpaaGreatDoor
open Go.RowKit
set_option linter.unusedVariables false
set_option maxRecDepth 100000

structure WlZ (m : Wld) : Prop where
  s : ∀ s ∈ m.ss, s.size ≤ maxLen
  x : ∀ x ∈ m.xs, x.data.size ≤ maxLen
  g : ∀ s ∈ m.g.shots, s.name.size ≤ maxLen ∧ s.table.length ≤ maxLen
theorem WlZ.of {w : World} {a : Wl4} {m : Wld} (h : WlS w a m) : WlZ m := ⟨h.s.sizes, h.i.sizes, fun s hs => by
  obtain ⟨j, hj, rfl⟩ := List.mem_iff_getElem.1 hs
  obtain ⟨_, _, _, _, _, _, _, _, h1, h2⟩ := h.g.s j hj
  exact ⟨h1, h2⟩⟩
theorem OwnWl.shw {w : World} {B : Nat} {a : Wl4} {m : Wld} {ts : List Value} (h : OwnWl w B a m ts) (hz : WlZ m) : WlS w a m := h.shows hz.s hz.x hz.g
structure LwW (W : World) (p n : Nat) (a : Wl4) (m : Wld) (ts : List Value) : Prop where
  v : VarW W p 50 a m
  o : OwnWl W n a m ts
  n : n ≤ W.heap.size
theorem LwW.new (W : World) (a : Wl4) (m : Wld) {n : Nat} {ts : List Value} (h : OwnWl W n a m ts) (hn : n ≤ W.heap.size) : LwW (W.alloc (.cells (wlC a m) 50)) W.heap.size n a m ts :=
  ⟨VarW.new W _ _ _, h.below (Joins.below_alloc1 _ _), by simp; omega⟩
theorem LwW.below {W W' : World} {p n : Nat} {a : Wl4} {m : Wld} {ts : List Value} (h : LwW W p n a m ts) (hb : Below W.heap.size W W') : LwW W' p n a m ts := ⟨h.v.below hb, h.o.below hb, Nat.le_trans h.n hb.size⟩
end Go.Proofs.YtllaoijjgkfgpaaGreatDoor

namespace Go.Proofs.YtllaoijjgkfgpaaGreatDoor
open Go.RowKit
set_option linter.unusedVariables false
set_option maxRecDepth 100000

theorem VarW.one {w : World} {x t : Nat} {a b : Wl4} {m n : Wld} (h : VarW w x t a m) (i : Nat) (u : Value) (e : (wlC a m).setIfInBounds i u = wlC b n) : VarW (w.setCell ⟨x, i, none⟩ u) x t b n := by
  unfold VarW; rw [← e]; exact set_wl (i := i) h u
theorem res_w {fn : Func} {p : Tmp} {x : Nat} {W : World} {tmps : Array Value} {a : Wl4} {m : Wld} (h : fn.results = #[.cell p 50]) (hp : tmps.getD p undef = .pointer (some ⟨x, 0, none⟩)) (hv : VarW W x 50 a m) :
    (results fn tmps).run Tryz.prog W = .ok (wlV a m) W := by
  obtain ⟨c0, c1, c2, c3, c4, c5, c6, c7, c8, c9, c10, c11, c12, c13, c14⟩ := hv.cells
  rw [Array.getD_eq_getD_getElem?] at hp
  simp [results, h, hp, go_sem, c0, c1, c2, c3, c4, c5, c6, c7, c8, c9, c10, c11, c12, c13, c14]

set_option maxHeartbeats 12800000 in
theorem toWorld_any (a : Wl4) (m : Wld) (w : World) (hB : WlBd m) (hc : WlS w a m) :
    Calls Tryz.prog 7 #[wlV a m] w fun e w' => ∃ a' ts, e = .returned (wlV a' m) ∧ OwnWl w' w.heap.size a' m ts ∧ Below w.heap.size w w' := by
  have HV0 : Hid (VarW3 w (((w.alloc (.cells (wlC a m) 36)).alloc (.cells #[.slice none 0 0, .slice none 0 0, .int .i64 0, .int .i64 0, .int .i64 0, .int .i64 0, .slice none 0 0, .int .i64 0, .slice none 0 0, .slice none 0 0, .int .i64 0, .int .i64 0, .int .i64 0, .string ⟨#[]⟩, .bool false] 50)).alloc (.cells #[.slice none 0 0, .slice none 0 0, .int .i64 0, .int .i64 0, .int .i64 0, .int .i64 0, .slice none 0 0, .int .i64 0, .slice none 0 0, .slice none 0 0, .int .i64 0, .int .i64 0, .int .i64 0, .string ⟨#[]⟩, .bool false] 50)) a m wa0 wl0) := hide (VarW3.new w a m)
  have HC := hide hc
  have HBD := hide hB
  clear hc hB
  go_enter Tryz.func7, Tryz.ntmps7
  go_upto_region 2 with fail
  revert HV0
  generalize (((w.alloc _).alloc _).alloc _) = W0
  intro HV0
  have hlt0 := (unhide HV0).lt
  obtain ⟨c0, c1, _, _, _, _, _, _, _, _, _, _, _, _, _⟩ := (unhide HV0).a.cells
  go_wp2_with fail
  refine (toDisk_any a.ao a.bo a.ca a.cb m.ss m.xs _ (unhide HBD).s (unhide HBD).i ((unhide HC).below (unhide HV0).b).s ((unhide HC).below (unhide HV0).b).i).mono ?_
  rintro e w1 ⟨g1, g2, rfl, ho1, ho2, hb⟩
  have hsz0 := (unhide HV0).lt
  have HV1 := hide ((unhide HV0).below hb)
  have HD1 : Hid (OwnD w1 (w.heap.size + 3) (some ⟨g1, 0, none⟩) m.ss.length m.ss.length (some ⟨g2, 0, none⟩) m.xs.length m.xs.length m.ss m.xs) := hide ⟨(OwnR.of ho1 (fun h => ⟨_, by rw [h]⟩)).base hsz0, (OwnR.of ho2 (fun h => ⟨_, by rw [h]⟩)).base hsz0⟩
  clear ho1 ho2
  clear hb HV0 c0 c1 
  have hlt1 := (unhide HV1).lt
  obtain ⟨_, _, c2, c3, c4, c5, _, _, _, _, _, _, _, _, _⟩ := (unhide HV1).a.cells
  obtain ⟨o0, o1, _, _, _, _, _, _, _, _, _, _, _, _, _⟩ := (unhide HV1).o.cells
  have f0 := (unhide HV1).o.free 0
  have f1 := (unhide HV1).o.free 1
  have HS1 := hide (VarW3.one (b' := ⟨(some ⟨g1, 0, none⟩), m.ss.length, (some ⟨g2, 0, none⟩), m.xs.length, none, 0, ⟨none, 0, none, 0⟩⟩) (n' := ⟨m.ss, m.xs, 0, 0, 0, 0, [], 0, ⟨[], []⟩, ⟨0, 0, 0, noB⟩, false⟩) (VarW3.one (b' := ⟨(some ⟨g1, 0, none⟩), m.ss.length, none, 0, none, 0, ⟨none, 0, none, 0⟩⟩) (n' := ⟨m.ss, [], 0, 0, 0, 0, [], 0, ⟨[], []⟩, ⟨0, 0, 0, noB⟩, false⟩) (unhide HV1) 0 (.slice (some ⟨g1, 0, none⟩) m.ss.length m.ss.length) rfl) 1 (.slice (some ⟨g2, 0, none⟩) m.xs.length m.xs.length) rfl)
  have HDS1 := hide (OwnD.setCell (OwnD.setCell (unhide HD1) (a := ⟨w.heap.size + 1 + 1, 0, none⟩) (by simp) (.slice (some ⟨g1, 0, none⟩) m.ss.length m.ss.length)) (a := ⟨w.heap.size + 1 + 1, 1, none⟩) (by simp) (.slice (some ⟨g2, 0, none⟩) m.xs.length m.xs.length))
  clear HV1 HD1
  go_wp2_with fail
  refine (toCfg_any m.cf m.cd m.cl m.cr _).mono ?_
  rintro e w2 ⟨rfl, hb⟩
  have hsz1 := (unhide HS1).lt
  have HV2 := hide ((unhide HS1).below hb)
  have HD2 := hide (OwnD.below (unhide HDS1) hb)
  clear hb HS1 c2 c3 c4 c5 o0 f0 o1 f1 HDS1
  have hlt2 := (unhide HV2).lt
  obtain ⟨_, _, _, _, _, _, c6, _, _, _, _, _, _, _, _⟩ := (unhide HV2).a.cells
  obtain ⟨_, _, o2, o3, o4, o5, _, _, _, _, _, _, _, _, _⟩ := (unhide HV2).o.cells
  have f2 := (unhide HV2).o.free 2
  have f3 := (unhide HV2).o.free 3
  have f4 := (unhide HV2).o.free 4
  have f5 := (unhide HV2).o.free 5
  have HS2 := hide (VarW3.one (b' := ⟨(some ⟨g1, 0, none⟩), m.ss.length, (some ⟨g2, 0, none⟩), m.xs.length, none, 0, ⟨none, 0, none, 0⟩⟩) (n' := ⟨m.ss, m.xs, m.cf, m.cd, m.cl, m.cr, [], 0, ⟨[], []⟩, ⟨0, 0, 0, noB⟩, false⟩) (VarW3.one (b' := ⟨(some ⟨g1, 0, none⟩), m.ss.length, (some ⟨g2, 0, none⟩), m.xs.length, none, 0, ⟨none, 0, none, 0⟩⟩) (n' := ⟨m.ss, m.xs, m.cf, m.cd, m.cl, 0, [], 0, ⟨[], []⟩, ⟨0, 0, 0, noB⟩, false⟩) (VarW3.one (b' := ⟨(some ⟨g1, 0, none⟩), m.ss.length, (some ⟨g2, 0, none⟩), m.xs.length, none, 0, ⟨none, 0, none, 0⟩⟩) (n' := ⟨m.ss, m.xs, m.cf, m.cd, 0, 0, [], 0, ⟨[], []⟩, ⟨0, 0, 0, noB⟩, false⟩) (VarW3.one (b' := ⟨(some ⟨g1, 0, none⟩), m.ss.length, (some ⟨g2, 0, none⟩), m.xs.length, none, 0, ⟨none, 0, none, 0⟩⟩) (n' := ⟨m.ss, m.xs, m.cf, 0, 0, 0, [], 0, ⟨[], []⟩, ⟨0, 0, 0, noB⟩, false⟩) (unhide HV2) 2 (.int .i64 m.cf) rfl) 3 (.int .i64 m.cd) rfl) 4 (.int .i64 m.cl) rfl) 5 (.int .i64 m.cr) rfl)
  have HDS2 := hide (OwnD.setCell (OwnD.setCell (OwnD.setCell (OwnD.setCell (unhide HD2) (a := ⟨w.heap.size + 1 + 1, 2, none⟩) (by simp) (.int .i64 m.cf)) (a := ⟨w.heap.size + 1 + 1, 3, none⟩) (by simp) (.int .i64 m.cd)) (a := ⟨w.heap.size + 1 + 1, 4, none⟩) (by simp) (.int .i64 m.cl)) (a := ⟨w.heap.size + 1 + 1, 5, none⟩) (by simp) (.int .i64 m.cr))
  clear HV2 HD2
  go_wp2_with fail
  refine (toHostS_any a.ho a.hc m.hs _ (unhide HBD).h ((unhide HC).below (unhide HS2).b).h).mono ?_
  rintro e w3 ⟨g3, rfl, ho, hb⟩
  have hsz2 := (unhide HS2).lt
  have HV3 := hide ((unhide HS2).below hb)
  have HD3 := hide (OwnD.below (unhide HDS2) hb)
  have HH3 : Hid (OwnR w3 (w.heap.size + 3) 93 3 (.slice (some ⟨g3, 0, none⟩) m.hs.length m.hs.length) m.hs.length (hssV m.hs)) := hide ((OwnR.of ho (fun h => ⟨_, by rw [h]⟩)).base hsz2)
  clear ho
  clear hb HS2 c6 o2 f2 o3 f3 o4 f4 o5 f5 HDS2
  have hlt3 := (unhide HV3).lt
  obtain ⟨_, _, _, _, _, _, _, c7, c8, c9, _, _, _, _, _⟩ := (unhide HV3).a.cells
  obtain ⟨_, _, _, _, _, _, o6, o7, _, _, _, _, _, _, _⟩ := (unhide HV3).o.cells
  have f6 := (unhide HV3).o.free 6
  have f7 := (unhide HV3).o.free 7
  have HS3 := hide (VarW3.one (b' := ⟨(some ⟨g1, 0, none⟩), m.ss.length, (some ⟨g2, 0, none⟩), m.xs.length, (some ⟨g3, 0, none⟩), m.hs.length, ⟨none, 0, none, 0⟩⟩) (n' := ⟨m.ss, m.xs, m.cf, m.cd, m.cl, m.cr, m.hs, m.t, ⟨[], []⟩, ⟨0, 0, 0, noB⟩, false⟩) (VarW3.one (b' := ⟨(some ⟨g1, 0, none⟩), m.ss.length, (some ⟨g2, 0, none⟩), m.xs.length, (some ⟨g3, 0, none⟩), m.hs.length, ⟨none, 0, none, 0⟩⟩) (n' := ⟨m.ss, m.xs, m.cf, m.cd, m.cl, m.cr, m.hs, 0, ⟨[], []⟩, ⟨0, 0, 0, noB⟩, false⟩) (unhide HV3) 6 (.slice (some ⟨g3, 0, none⟩) m.hs.length m.hs.length) rfl) 7 (.int .i64 m.t) rfl)
  have HDS3 := hide (OwnD.setCell (OwnD.setCell (unhide HD3) (a := ⟨w.heap.size + 1 + 1, 6, none⟩) (by simp) (.slice (some ⟨g3, 0, none⟩) m.hs.length m.hs.length)) (a := ⟨w.heap.size + 1 + 1, 7, none⟩) (by simp) (.int .i64 m.t))
  have HHS3 := hide (OwnR.setCell (OwnR.setCell (unhide HH3) (a := ⟨w.heap.size + 1 + 1, 6, none⟩) (by simp) (.slice (some ⟨g3, 0, none⟩) m.hs.length m.hs.length)) (a := ⟨w.heap.size + 1 + 1, 7, none⟩) (by simp) (.int .i64 m.t))
  clear HV3 HD3 HH3
  go_wp2_with fail
  refine (toGuest_any a.ga m.g _ (unhide HBD).g.v (unhide HBD).g.s (fun s hs => ((unhide HBD).g.st s hs).1) ((unhide HC).below (unhide HS3).b).g).mono ?_
  rintro e w4 ⟨a4, ts, rfl, ho, hb⟩
  have hsz3 := (unhide HS3).lt
  have HV4 := hide ((unhide HS3).below hb)
  have HD4 := hide (OwnD.below (unhide HDS3) hb)
  have HH4 := hide (OwnR.below (unhide HHS3) hb)
  have HG4 : Hid (OwnGs w4 (w.heap.size + 3) a4 m.g ts) := hide (OwnGs.base ho hsz3)
  clear ho
  clear hb HS3 c8 c9 c7 o6 f6 o7 f7 HDS3 HHS3
  have hlt4 := (unhide HV4).lt
  obtain ⟨_, _, _, _, _, _, _, _, _, _, c10, c11, c12, c13, _⟩ := (unhide HV4).a.cells
  obtain ⟨_, _, _, _, _, _, _, _, o8, o9, _, _, _, _, _⟩ := (unhide HV4).o.cells
  have f8 := (unhide HV4).o.free 8
  have f9 := (unhide HV4).o.free 9
  have HS4 := hide (VarW3.one (b' := ⟨(some ⟨g1, 0, none⟩), m.ss.length, (some ⟨g2, 0, none⟩), m.xs.length, (some ⟨g3, 0, none⟩), m.hs.length, ⟨a4.vo, a4.vc, a4.so, a4.sc⟩⟩) (n' := ⟨m.ss, m.xs, m.cf, m.cd, m.cl, m.cr, m.hs, m.t, ⟨m.g.vals, m.g.shots⟩, ⟨0, 0, 0, noB⟩, false⟩) (VarW3.one (b' := ⟨(some ⟨g1, 0, none⟩), m.ss.length, (some ⟨g2, 0, none⟩), m.xs.length, (some ⟨g3, 0, none⟩), m.hs.length, ⟨a4.vo, a4.vc, none, 0⟩⟩) (n' := ⟨m.ss, m.xs, m.cf, m.cd, m.cl, m.cr, m.hs, m.t, ⟨m.g.vals, []⟩, ⟨0, 0, 0, noB⟩, false⟩) (unhide HV4) 8 (.slice a4.vo m.g.vals.length a4.vc) rfl) 9 (.slice a4.so m.g.shots.length a4.sc) rfl)
  have HDS4 := hide (OwnD.setCell (OwnD.setCell (unhide HD4) (a := ⟨w.heap.size + 1 + 1, 8, none⟩) (by simp) (.slice a4.vo m.g.vals.length a4.vc)) (a := ⟨w.heap.size + 1 + 1, 9, none⟩) (by simp) (.slice a4.so m.g.shots.length a4.sc))
  have HHS4 := hide (OwnR.setCell (OwnR.setCell (unhide HH4) (a := ⟨w.heap.size + 1 + 1, 8, none⟩) (by simp) (.slice a4.vo m.g.vals.length a4.vc)) (a := ⟨w.heap.size + 1 + 1, 9, none⟩) (by simp) (.slice a4.so m.g.shots.length a4.sc))
  have HGS4 := hide (OwnGs.setCell (OwnGs.setCell (unhide HG4) (p := ⟨w.heap.size + 1 + 1, 8, none⟩) (by simp) (.slice a4.vo m.g.vals.length a4.vc)) (p := ⟨w.heap.size + 1 + 1, 9, none⟩) (by simp) (.slice a4.so m.g.shots.length a4.sc))
  clear HV4 HD4 HH4 HG4
  go_wp2_with fail
  refine (toReq_any m.q _).mono ?_
  rintro e w5 ⟨rfl, hb⟩
  have hsz4 := (unhide HS4).lt
  have HV5 := hide ((unhide HS4).below hb)
  have HD5 := hide (OwnD.below (unhide HDS4) hb)
  have HH5 := hide (OwnR.below (unhide HHS4) hb)
  have HG5 := hide (OwnGs.below (unhide HGS4) hb)
  clear hb HS4 c10 c11 c12 c13 o8 f8 o9 f9 HDS4 HHS4 HGS4
  obtain ⟨_, _, _, _, _, _, _, _, _, _, _, _, _, _, c14⟩ := (unhide HV5).a.cells
  obtain ⟨o0, o1, o2, o3, o4, o5, o6, o7, o8, o9, o10, o11, o12, o13, o14⟩ := (unhide HV5).o.cells
  obtain ⟨r0, r1, r2, r3, r4, r5, r6, r7, r8, r9, r10, r11, r12, r13, r14⟩ := (unhide HV5).r.cells
  have f10 := (unhide HV5).o.free 10
  have f11 := (unhide HV5).o.free 11
  have f12 := (unhide HV5).o.free 12
  have f13 := (unhide HV5).o.free 13
  have f14 := (unhide HV5).o.free 14
  have z0 := (unhide HV5).r.free 0
  have z1 := (unhide HV5).r.free 1
  have z2 := (unhide HV5).r.free 2
  have z3 := (unhide HV5).r.free 3
  have z4 := (unhide HV5).r.free 4
  have z5 := (unhide HV5).r.free 5
  have z6 := (unhide HV5).r.free 6
  have z7 := (unhide HV5).r.free 7
  have z8 := (unhide HV5).r.free 8
  have z9 := (unhide HV5).r.free 9
  have z10 := (unhide HV5).r.free 10
  have z11 := (unhide HV5).r.free 11
  have z12 := (unhide HV5).r.free 12
  have z13 := (unhide HV5).r.free 13
  have z14 := (unhide HV5).r.free 14
  have HS5 := hide (VarW3.one (b' := ⟨(some ⟨g1, 0, none⟩), m.ss.length, (some ⟨g2, 0, none⟩), m.xs.length, (some ⟨g3, 0, none⟩), m.hs.length, ⟨a4.vo, a4.vc, a4.so, a4.sc⟩⟩) (n' := ⟨m.ss, m.xs, m.cf, m.cd, m.cl, m.cr, m.hs, m.t, ⟨m.g.vals, m.g.shots⟩, ⟨m.q.k, m.q.g, m.q.v, m.q.n⟩, m.ag⟩) (VarW3.one (b' := ⟨(some ⟨g1, 0, none⟩), m.ss.length, (some ⟨g2, 0, none⟩), m.xs.length, (some ⟨g3, 0, none⟩), m.hs.length, ⟨a4.vo, a4.vc, a4.so, a4.sc⟩⟩) (n' := ⟨m.ss, m.xs, m.cf, m.cd, m.cl, m.cr, m.hs, m.t, ⟨m.g.vals, m.g.shots⟩, ⟨m.q.k, m.q.g, m.q.v, m.q.n⟩, false⟩) (VarW3.one (b' := ⟨(some ⟨g1, 0, none⟩), m.ss.length, (some ⟨g2, 0, none⟩), m.xs.length, (some ⟨g3, 0, none⟩), m.hs.length, ⟨a4.vo, a4.vc, a4.so, a4.sc⟩⟩) (n' := ⟨m.ss, m.xs, m.cf, m.cd, m.cl, m.cr, m.hs, m.t, ⟨m.g.vals, m.g.shots⟩, ⟨m.q.k, m.q.g, m.q.v, noB⟩, false⟩) (VarW3.one (b' := ⟨(some ⟨g1, 0, none⟩), m.ss.length, (some ⟨g2, 0, none⟩), m.xs.length, (some ⟨g3, 0, none⟩), m.hs.length, ⟨a4.vo, a4.vc, a4.so, a4.sc⟩⟩) (n' := ⟨m.ss, m.xs, m.cf, m.cd, m.cl, m.cr, m.hs, m.t, ⟨m.g.vals, m.g.shots⟩, ⟨m.q.k, m.q.g, 0, noB⟩, false⟩) (VarW3.one (b' := ⟨(some ⟨g1, 0, none⟩), m.ss.length, (some ⟨g2, 0, none⟩), m.xs.length, (some ⟨g3, 0, none⟩), m.hs.length, ⟨a4.vo, a4.vc, a4.so, a4.sc⟩⟩) (n' := ⟨m.ss, m.xs, m.cf, m.cd, m.cl, m.cr, m.hs, m.t, ⟨m.g.vals, m.g.shots⟩, ⟨m.q.k, 0, 0, noB⟩, false⟩) (unhide HV5) 10 (.int .i64 m.q.k) rfl) 11 (.int .i64 m.q.g) rfl) 12 (.int .i64 m.q.v) rfl) 13 (.string m.q.n) rfl) 14 (.bool m.ag) rfl)
  have HR := hide (VarW.one (b := ⟨(some ⟨g1, 0, none⟩), m.ss.length, (some ⟨g2, 0, none⟩), m.xs.length, (some ⟨g3, 0, none⟩), m.hs.length, ⟨a4.vo, a4.vc, a4.so, a4.sc⟩⟩) (n := ⟨m.ss, m.xs, m.cf, m.cd, m.cl, m.cr, m.hs, m.t, ⟨m.g.vals, m.g.shots⟩, ⟨m.q.k, m.q.g, m.q.v, m.q.n⟩, m.ag⟩) (VarW.one (b := ⟨(some ⟨g1, 0, none⟩), m.ss.length, (some ⟨g2, 0, none⟩), m.xs.length, (some ⟨g3, 0, none⟩), m.hs.length, ⟨a4.vo, a4.vc, a4.so, a4.sc⟩⟩) (n := ⟨m.ss, m.xs, m.cf, m.cd, m.cl, m.cr, m.hs, m.t, ⟨m.g.vals, m.g.shots⟩, ⟨m.q.k, m.q.g, m.q.v, m.q.n⟩, false⟩) (VarW.one (b := ⟨(some ⟨g1, 0, none⟩), m.ss.length, (some ⟨g2, 0, none⟩), m.xs.length, (some ⟨g3, 0, none⟩), m.hs.length, ⟨a4.vo, a4.vc, a4.so, a4.sc⟩⟩) (n := ⟨m.ss, m.xs, m.cf, m.cd, m.cl, m.cr, m.hs, m.t, ⟨m.g.vals, m.g.shots⟩, ⟨m.q.k, m.q.g, m.q.v, noB⟩, false⟩) (VarW.one (b := ⟨(some ⟨g1, 0, none⟩), m.ss.length, (some ⟨g2, 0, none⟩), m.xs.length, (some ⟨g3, 0, none⟩), m.hs.length, ⟨a4.vo, a4.vc, a4.so, a4.sc⟩⟩) (n := ⟨m.ss, m.xs, m.cf, m.cd, m.cl, m.cr, m.hs, m.t, ⟨m.g.vals, m.g.shots⟩, ⟨m.q.k, m.q.g, 0, noB⟩, false⟩) (VarW.one (b := ⟨(some ⟨g1, 0, none⟩), m.ss.length, (some ⟨g2, 0, none⟩), m.xs.length, (some ⟨g3, 0, none⟩), m.hs.length, ⟨a4.vo, a4.vc, a4.so, a4.sc⟩⟩) (n := ⟨m.ss, m.xs, m.cf, m.cd, m.cl, m.cr, m.hs, m.t, ⟨m.g.vals, m.g.shots⟩, ⟨m.q.k, 0, 0, noB⟩, false⟩) (VarW.one (b := ⟨(some ⟨g1, 0, none⟩), m.ss.length, (some ⟨g2, 0, none⟩), m.xs.length, (some ⟨g3, 0, none⟩), m.hs.length, ⟨a4.vo, a4.vc, a4.so, a4.sc⟩⟩) (n := ⟨m.ss, m.xs, m.cf, m.cd, m.cl, m.cr, m.hs, m.t, ⟨m.g.vals, m.g.shots⟩, ⟨0, 0, 0, noB⟩, false⟩) (VarW.one (b := ⟨(some ⟨g1, 0, none⟩), m.ss.length, (some ⟨g2, 0, none⟩), m.xs.length, (some ⟨g3, 0, none⟩), m.hs.length, ⟨a4.vo, a4.vc, none, 0⟩⟩) (n := ⟨m.ss, m.xs, m.cf, m.cd, m.cl, m.cr, m.hs, m.t, ⟨m.g.vals, []⟩, ⟨0, 0, 0, noB⟩, false⟩) (VarW.one (b := ⟨(some ⟨g1, 0, none⟩), m.ss.length, (some ⟨g2, 0, none⟩), m.xs.length, (some ⟨g3, 0, none⟩), m.hs.length, ⟨none, 0, none, 0⟩⟩) (n := ⟨m.ss, m.xs, m.cf, m.cd, m.cl, m.cr, m.hs, m.t, ⟨[], []⟩, ⟨0, 0, 0, noB⟩, false⟩) (VarW.one (b := ⟨(some ⟨g1, 0, none⟩), m.ss.length, (some ⟨g2, 0, none⟩), m.xs.length, (some ⟨g3, 0, none⟩), m.hs.length, ⟨none, 0, none, 0⟩⟩) (n := ⟨m.ss, m.xs, m.cf, m.cd, m.cl, m.cr, m.hs, 0, ⟨[], []⟩, ⟨0, 0, 0, noB⟩, false⟩) (VarW.one (b := ⟨(some ⟨g1, 0, none⟩), m.ss.length, (some ⟨g2, 0, none⟩), m.xs.length, none, 0, ⟨none, 0, none, 0⟩⟩) (n := ⟨m.ss, m.xs, m.cf, m.cd, m.cl, m.cr, [], 0, ⟨[], []⟩, ⟨0, 0, 0, noB⟩, false⟩) (VarW.one (b := ⟨(some ⟨g1, 0, none⟩), m.ss.length, (some ⟨g2, 0, none⟩), m.xs.length, none, 0, ⟨none, 0, none, 0⟩⟩) (n := ⟨m.ss, m.xs, m.cf, m.cd, m.cl, 0, [], 0, ⟨[], []⟩, ⟨0, 0, 0, noB⟩, false⟩) (VarW.one (b := ⟨(some ⟨g1, 0, none⟩), m.ss.length, (some ⟨g2, 0, none⟩), m.xs.length, none, 0, ⟨none, 0, none, 0⟩⟩) (n := ⟨m.ss, m.xs, m.cf, m.cd, 0, 0, [], 0, ⟨[], []⟩, ⟨0, 0, 0, noB⟩, false⟩) (VarW.one (b := ⟨(some ⟨g1, 0, none⟩), m.ss.length, (some ⟨g2, 0, none⟩), m.xs.length, none, 0, ⟨none, 0, none, 0⟩⟩) (n := ⟨m.ss, m.xs, m.cf, 0, 0, 0, [], 0, ⟨[], []⟩, ⟨0, 0, 0, noB⟩, false⟩) (VarW.one (b := ⟨(some ⟨g1, 0, none⟩), m.ss.length, (some ⟨g2, 0, none⟩), m.xs.length, none, 0, ⟨none, 0, none, 0⟩⟩) (n := ⟨m.ss, m.xs, 0, 0, 0, 0, [], 0, ⟨[], []⟩, ⟨0, 0, 0, noB⟩, false⟩) (VarW.one (b := ⟨(some ⟨g1, 0, none⟩), m.ss.length, none, 0, none, 0, ⟨none, 0, none, 0⟩⟩) (n := ⟨m.ss, [], 0, 0, 0, 0, [], 0, ⟨[], []⟩, ⟨0, 0, 0, noB⟩, false⟩) (unhide HS5).r 0 (.slice (some ⟨g1, 0, none⟩) m.ss.length m.ss.length) rfl) 1 (.slice (some ⟨g2, 0, none⟩) m.xs.length m.xs.length) rfl) 2 (.int .i64 m.cf) rfl) 3 (.int .i64 m.cd) rfl) 4 (.int .i64 m.cl) rfl) 5 (.int .i64 m.cr) rfl) 6 (.slice (some ⟨g3, 0, none⟩) m.hs.length m.hs.length) rfl) 7 (.int .i64 m.t) rfl) 8 (.slice a4.vo m.g.vals.length a4.vc) rfl) 9 (.slice a4.so m.g.shots.length a4.sc) rfl) 10 (.int .i64 m.q.k) rfl) 11 (.int .i64 m.q.g) rfl) 12 (.int .i64 m.q.v) rfl) 13 (.string m.q.n) rfl) 14 (.bool m.ag) rfl)
  have HB := hide ((((((((((((((((unhide HS5).b.setCell (p := ⟨w.heap.size + 1, 0, none⟩) (by simp) (.slice (some ⟨g1, 0, none⟩) m.ss.length m.ss.length)).setCell (p := ⟨w.heap.size + 1, 1, none⟩) (by simp) (.slice (some ⟨g2, 0, none⟩) m.xs.length m.xs.length)).setCell (p := ⟨w.heap.size + 1, 2, none⟩) (by simp) (.int .i64 m.cf)).setCell (p := ⟨w.heap.size + 1, 3, none⟩) (by simp) (.int .i64 m.cd)).setCell (p := ⟨w.heap.size + 1, 4, none⟩) (by simp) (.int .i64 m.cl)).setCell (p := ⟨w.heap.size + 1, 5, none⟩) (by simp) (.int .i64 m.cr)).setCell (p := ⟨w.heap.size + 1, 6, none⟩) (by simp) (.slice (some ⟨g3, 0, none⟩) m.hs.length m.hs.length)).setCell (p := ⟨w.heap.size + 1, 7, none⟩) (by simp) (.int .i64 m.t)).setCell (p := ⟨w.heap.size + 1, 8, none⟩) (by simp) (.slice a4.vo m.g.vals.length a4.vc)).setCell (p := ⟨w.heap.size + 1, 9, none⟩) (by simp) (.slice a4.so m.g.shots.length a4.sc)).setCell (p := ⟨w.heap.size + 1, 10, none⟩) (by simp) (.int .i64 m.q.k)).setCell (p := ⟨w.heap.size + 1, 11, none⟩) (by simp) (.int .i64 m.q.g)).setCell (p := ⟨w.heap.size + 1, 12, none⟩) (by simp) (.int .i64 m.q.v)).setCell (p := ⟨w.heap.size + 1, 13, none⟩) (by simp) (.string m.q.n)).setCell (p := ⟨w.heap.size + 1, 14, none⟩) (by simp) (.bool m.ag))
  have HDE := hide (OwnD.setCell (OwnD.setCell (OwnD.setCell (OwnD.setCell (OwnD.setCell (OwnD.setCell (OwnD.setCell (OwnD.setCell (OwnD.setCell (OwnD.setCell (OwnD.setCell (OwnD.setCell (OwnD.setCell (OwnD.setCell (OwnD.setCell (OwnD.setCell (OwnD.setCell (OwnD.setCell (OwnD.setCell (OwnD.setCell (unhide HD5) (a := ⟨w.heap.size + 1 + 1, 10, none⟩) (by simp; try omega) (.int .i64 m.q.k)) (a := ⟨w.heap.size + 1 + 1, 11, none⟩) (by simp; try omega) (.int .i64 m.q.g)) (a := ⟨w.heap.size + 1 + 1, 12, none⟩) (by simp; try omega) (.int .i64 m.q.v)) (a := ⟨w.heap.size + 1 + 1, 13, none⟩) (by simp; try omega) (.string m.q.n)) (a := ⟨w.heap.size + 1 + 1, 14, none⟩) (by simp; try omega) (.bool m.ag)) (a := ⟨w.heap.size + 1, 0, none⟩) (by simp; try omega) (.slice (some ⟨g1, 0, none⟩) m.ss.length m.ss.length)) (a := ⟨w.heap.size + 1, 1, none⟩) (by simp; try omega) (.slice (some ⟨g2, 0, none⟩) m.xs.length m.xs.length)) (a := ⟨w.heap.size + 1, 2, none⟩) (by simp; try omega) (.int .i64 m.cf)) (a := ⟨w.heap.size + 1, 3, none⟩) (by simp; try omega) (.int .i64 m.cd)) (a := ⟨w.heap.size + 1, 4, none⟩) (by simp; try omega) (.int .i64 m.cl)) (a := ⟨w.heap.size + 1, 5, none⟩) (by simp; try omega) (.int .i64 m.cr)) (a := ⟨w.heap.size + 1, 6, none⟩) (by simp; try omega) (.slice (some ⟨g3, 0, none⟩) m.hs.length m.hs.length)) (a := ⟨w.heap.size + 1, 7, none⟩) (by simp; try omega) (.int .i64 m.t)) (a := ⟨w.heap.size + 1, 8, none⟩) (by simp; try omega) (.slice a4.vo m.g.vals.length a4.vc)) (a := ⟨w.heap.size + 1, 9, none⟩) (by simp; try omega) (.slice a4.so m.g.shots.length a4.sc)) (a := ⟨w.heap.size + 1, 10, none⟩) (by simp; try omega) (.int .i64 m.q.k)) (a := ⟨w.heap.size + 1, 11, none⟩) (by simp; try omega) (.int .i64 m.q.g)) (a := ⟨w.heap.size + 1, 12, none⟩) (by simp; try omega) (.int .i64 m.q.v)) (a := ⟨w.heap.size + 1, 13, none⟩) (by simp; try omega) (.string m.q.n)) (a := ⟨w.heap.size + 1, 14, none⟩) (by simp; try omega) (.bool m.ag))
  have HHE := hide (OwnR.setCell (OwnR.setCell (OwnR.setCell (OwnR.setCell (OwnR.setCell (OwnR.setCell (OwnR.setCell (OwnR.setCell (OwnR.setCell (OwnR.setCell (OwnR.setCell (OwnR.setCell (OwnR.setCell (OwnR.setCell (OwnR.setCell (OwnR.setCell (OwnR.setCell (OwnR.setCell (OwnR.setCell (OwnR.setCell (unhide HH5) (a := ⟨w.heap.size + 1 + 1, 10, none⟩) (by simp; try omega) (.int .i64 m.q.k)) (a := ⟨w.heap.size + 1 + 1, 11, none⟩) (by simp; try omega) (.int .i64 m.q.g)) (a := ⟨w.heap.size + 1 + 1, 12, none⟩) (by simp; try omega) (.int .i64 m.q.v)) (a := ⟨w.heap.size + 1 + 1, 13, none⟩) (by simp; try omega) (.string m.q.n)) (a := ⟨w.heap.size + 1 + 1, 14, none⟩) (by simp; try omega) (.bool m.ag)) (a := ⟨w.heap.size + 1, 0, none⟩) (by simp; try omega) (.slice (some ⟨g1, 0, none⟩) m.ss.length m.ss.length)) (a := ⟨w.heap.size + 1, 1, none⟩) (by simp; try omega) (.slice (some ⟨g2, 0, none⟩) m.xs.length m.xs.length)) (a := ⟨w.heap.size + 1, 2, none⟩) (by simp; try omega) (.int .i64 m.cf)) (a := ⟨w.heap.size + 1, 3, none⟩) (by simp; try omega) (.int .i64 m.cd)) (a := ⟨w.heap.size + 1, 4, none⟩) (by simp; try omega) (.int .i64 m.cl)) (a := ⟨w.heap.size + 1, 5, none⟩) (by simp; try omega) (.int .i64 m.cr)) (a := ⟨w.heap.size + 1, 6, none⟩) (by simp; try omega) (.slice (some ⟨g3, 0, none⟩) m.hs.length m.hs.length)) (a := ⟨w.heap.size + 1, 7, none⟩) (by simp; try omega) (.int .i64 m.t)) (a := ⟨w.heap.size + 1, 8, none⟩) (by simp; try omega) (.slice a4.vo m.g.vals.length a4.vc)) (a := ⟨w.heap.size + 1, 9, none⟩) (by simp; try omega) (.slice a4.so m.g.shots.length a4.sc)) (a := ⟨w.heap.size + 1, 10, none⟩) (by simp; try omega) (.int .i64 m.q.k)) (a := ⟨w.heap.size + 1, 11, none⟩) (by simp; try omega) (.int .i64 m.q.g)) (a := ⟨w.heap.size + 1, 12, none⟩) (by simp; try omega) (.int .i64 m.q.v)) (a := ⟨w.heap.size + 1, 13, none⟩) (by simp; try omega) (.string m.q.n)) (a := ⟨w.heap.size + 1, 14, none⟩) (by simp; try omega) (.bool m.ag))
  have HGE := hide (OwnGs.setCell (OwnGs.setCell (OwnGs.setCell (OwnGs.setCell (OwnGs.setCell (OwnGs.setCell (OwnGs.setCell (OwnGs.setCell (OwnGs.setCell (OwnGs.setCell (OwnGs.setCell (OwnGs.setCell (OwnGs.setCell (OwnGs.setCell (OwnGs.setCell (OwnGs.setCell (OwnGs.setCell (OwnGs.setCell (OwnGs.setCell (OwnGs.setCell (unhide HG5) (p := ⟨w.heap.size + 1 + 1, 10, none⟩) (by simp; try omega) (.int .i64 m.q.k)) (p := ⟨w.heap.size + 1 + 1, 11, none⟩) (by simp; try omega) (.int .i64 m.q.g)) (p := ⟨w.heap.size + 1 + 1, 12, none⟩) (by simp; try omega) (.int .i64 m.q.v)) (p := ⟨w.heap.size + 1 + 1, 13, none⟩) (by simp; try omega) (.string m.q.n)) (p := ⟨w.heap.size + 1 + 1, 14, none⟩) (by simp; try omega) (.bool m.ag)) (p := ⟨w.heap.size + 1, 0, none⟩) (by simp; try omega) (.slice (some ⟨g1, 0, none⟩) m.ss.length m.ss.length)) (p := ⟨w.heap.size + 1, 1, none⟩) (by simp; try omega) (.slice (some ⟨g2, 0, none⟩) m.xs.length m.xs.length)) (p := ⟨w.heap.size + 1, 2, none⟩) (by simp; try omega) (.int .i64 m.cf)) (p := ⟨w.heap.size + 1, 3, none⟩) (by simp; try omega) (.int .i64 m.cd)) (p := ⟨w.heap.size + 1, 4, none⟩) (by simp; try omega) (.int .i64 m.cl)) (p := ⟨w.heap.size + 1, 5, none⟩) (by simp; try omega) (.int .i64 m.cr)) (p := ⟨w.heap.size + 1, 6, none⟩) (by simp; try omega) (.slice (some ⟨g3, 0, none⟩) m.hs.length m.hs.length)) (p := ⟨w.heap.size + 1, 7, none⟩) (by simp; try omega) (.int .i64 m.t)) (p := ⟨w.heap.size + 1, 8, none⟩) (by simp; try omega) (.slice a4.vo m.g.vals.length a4.vc)) (p := ⟨w.heap.size + 1, 9, none⟩) (by simp; try omega) (.slice a4.so m.g.shots.length a4.sc)) (p := ⟨w.heap.size + 1, 10, none⟩) (by simp; try omega) (.int .i64 m.q.k)) (p := ⟨w.heap.size + 1, 11, none⟩) (by simp; try omega) (.int .i64 m.q.g)) (p := ⟨w.heap.size + 1, 12, none⟩) (by simp; try omega) (.int .i64 m.q.v)) (p := ⟨w.heap.size + 1, 13, none⟩) (by simp; try omega) (.string m.q.n)) (p := ⟨w.heap.size + 1, 14, none⟩) (by simp; try omega) (.bool m.ag))
  clear HV5 HS5 HD5 HH5 HG5
  go_wp2
  refine bodyPost_ret (res_w (a := ⟨(some ⟨g1, 0, none⟩), m.ss.length, (some ⟨g2, 0, none⟩), m.xs.length, (some ⟨g3, 0, none⟩), m.hs.length, ⟨a4.vo, a4.vc, a4.so, a4.sc⟩⟩) (m := m) Tryz.results7 rfl (unhide HR)) rfl ⟨⟨(some ⟨g1, 0, none⟩), m.ss.length, (some ⟨g2, 0, none⟩), m.xs.length, (some ⟨g3, 0, none⟩), m.hs.length, ⟨a4.vo, a4.vc, a4.so, a4.sc⟩⟩, ts, rfl, ⟨(unhide HDE).base (by omega), OwnR.base (unhide HHE) (by omega), OwnGs.base (unhide HGE) (by omega)⟩, unhide HB⟩

end Go.Proofs.YtllaoijjgkfgpaaGreatDoor

namespace Go.Proofs.YtllaoijjgkfgpaaGreatDoor
open Go.RowKit
set_option linter.unusedVariables false

section
variable {P : Program} {Q : Exit → Act → World → Prop} {S S' : World → Prop} {C : Act → World → Prop} {l : List Oper} {hl : List Nat}

def wpAnyR (P : Program) (l : List Oper) (Q : Exit → Act → World → Prop) (S : World → Prop) (hl : List Nat) : Nat → Array Bool → Act → World → Prop
  | 0, listed, a, w => Region.ready .any l.toArray listed = [] ∧ Q .normal a w
  | fuel + 1, listed, a, w =>
    (Region.ready .any l.toArray listed = [] → Q .normal a w) ∧
    ∀ i ∈ Region.ready .any l.toArray listed, wpOp P l.toArray Q i (fun a' w' => (i ∈ hl → S w') ∧ wpAnyR P l Q S hl fuel (listed.setIfInBounds i true) a' w') a w
theorem wpAny_of_R : ∀ (fuel : Nat) (listed : Array Bool) (a : Act) (w : World), wpAnyR P l Q S hl fuel listed a w → wpAny P .any l.toArray Q fuel listed a w
  | 0, _, _, _, h => h
  | fuel + 1, _, _, _, h => ⟨h.1, fun i hi => wpOp_mono (fun a' w' h' => wpAny_of_R fuel _ a' w' h'.2) (h.2 i hi)⟩

abbrev lsD (listed : Array Bool) : Nat → Bool := fun j => listed.getD j false
theorem closed_set {listed : Array Bool} {i : Nat} (hc : Closed l (lsD listed)) (hi : i ∈ Region.ready .any l.toArray listed) : Closed l (lsD (listed.setIfInBounds i true)) := by
  intro j o ho hd e he hb
  by_cases hji : j = i
  · subst hji
    obtain ⟨_, o', ho', hp⟩ := mem_ready.1 hi
    have h2 : l.toArray[j]? = l[j]? := by simp
    rw [h2, ho] at ho'
    cases ho'
    exact getD_set_true (hp e he hb)
  · have : lsD listed j = true := by
      have hd' : (listed.setIfInBounds i true).getD j false = true := hd
      rwa [getD_set_ne false (Ne.symm hji)] at hd'
    exact getD_set_true (hc j o ho this e he hb)
def Anc (l : List Oper) (j i : Nat) : Prop := ∀ d : Nat → Bool, Closed l d → d j = true → d i = true
theorem rg_unlisted {listed : Array Bool} {i : Nat} (h : listed.getD i true = false) : i < listed.size ∧ listed.getD i false = false := by
  rw [Array.getD_eq_getD_getElem?] at h ⊢
  by_cases hi : i < listed.size
  · rw [Array.getElem?_eq_getElem hi] at h ⊢
    exact ⟨hi, by simpa using h⟩
  · rw [Array.getElem?_eq_none (Nat.le_of_not_lt hi)] at h
    simp at h
theorem ready_anc {listed : Array Bool} {i j : Nat} (hc : Closed l (lsD listed)) (hj : j ∈ Region.ready .any l.toArray listed) (hr : Anc l j i) (hne : j ≠ i) (hi : listed.getD i true = false) : False := by
  have h1 := (mem_ready.1 hj).1
  have h2 := hr _ (closed_set hc hj) (by
    show (listed.setIfInBounds j true).getD j false = true
    have := (rg_unlisted h1).1
    simp [Array.getD_eq_getD_getElem?, this])
  have h3 : (listed.setIfInBounds j true).getD i false = true := h2
  rw [getD_set_ne false hne, (rg_unlisted hi).2] at h3
  cases h3

theorem wpAnyR_first {i : Nat} {oi : Oper} {v : Value} (hi : l.toArray[i]? = some oi) (hsel : ∀ (j : Nat) (o : Oper) cs b, l.toArray[j]? = some o → o.op ≠ .select cs b)
    (hQ : ∀ c a w, Q (.panic c) (a.put oi.dst v) w → Q (.panic c) a w) (hSS : ∀ w, S w → S' w) (hst : ∀ j, j < l.length → j ∉ hl → j ≠ i → Anc l j i ∨ ((∀ w, S' w) ∧ i ∉ hl)) :
    ∀ (fuel : Nat) (listed : Array Bool) (a : Act) (w : World), Closed l (lsD listed) →
      (∀ j oj, l.toArray[j]? = some oj → j ≠ i → listed.getD j true = false → (∀ e ∈ oj.after, Region.binds .any e = true → e.on ≠ i) → oi.apart l.toArray oj = true) →
      i ∈ Region.ready .any l.toArray listed → YieldsIf P l.toArray S' oi v a → S' w → (i ∈ hl → S w) →
      wpAnyR P l Q S hl fuel (listed.setIfInBounds i true) (a.put oi.dst v) w → wpAnyR P l Q S hl (fuel + 1) listed a w := by
  intro fuel
  induction fuel with
  | zero =>
    intro listed a w hc _ hr hy hS hSw H
    refine ⟨fun h => (by rw [h] at hr; cases hr), fun j hj => ?_⟩
    by_cases hji : j = i
    · subst hji; exact hy.wpOp hi hS ⟨hSw, H⟩
    · have := ready_mono hj hji
      rw [H.1] at this
      cases this
  | succ fuel ih =>
    intro listed a w hc hfree hr hy hS hSw H
    refine ⟨fun h => (by rw [h] at hr; cases hr), fun j hj => ?_⟩
    by_cases hji : j = i
    · subst hji; exact hy.wpOp hi hS ⟨hSw, H⟩
    · have h1 := H.2 j (ready_mono hj hji)
      obtain ⟨hjun, oj, hoj, hall⟩ := mem_ready.1 hj
      have hiun := (mem_ready.1 hr).1
      have hnot : ∀ e ∈ oj.after, Region.binds .any e = true → e.on ≠ i := fun e he hb heq => by
        have h1 := hall e he hb
        rw [heq, (rg_unlisted hiun).2] at h1
        cases h1
      have h2 := wpOp_putIf hoj (hfree j oj hoj hji hjun hnot) (fun cs b => hsel i oi cs b hi) (fun cs b => hsel j oj cs b hoj) hQ hy h1
      have hfree' : ∀ k ok, l.toArray[k]? = some ok → k ≠ i → (listed.setIfInBounds j true).getD k true = false →
          (∀ e ∈ ok.after, Region.binds .any e = true → e.on ≠ i) → oi.apart l.toArray ok = true := fun k ok hk hki hun hno => by
        refine hfree k ok hk hki ?_ hno
        by_cases hjk : j = k
        · subst hjk; exact hjun
        · rw [getD_set_ne true hjk] at hun; exact hun
      have hjl : j < l.length := by have := (Array.getElem?_eq_some_iff.1 hoj).1; simpa using this
      have hkey : ∀ w', (j ∈ hl → S w') → S' w' ∧ (i ∈ hl → S w') := fun w' h => by
        by_cases hjh : j ∈ hl
        · exact ⟨hSS _ (h hjh), fun _ => h hjh⟩
        · rcases hst j hjl hjh hji with h5 | h5
          · exact (ready_anc hc hj h5 hji hiun).elim
          · exact ⟨h5.1 _, fun h6 => absurd h6 h5.2⟩
      refine wpOp_mono (fun a' w' h3 => ⟨h3.2.1, ih (listed.setIfInBounds j true) a' w' (closed_set hc hj) hfree' (ready_mono hr (Ne.symm hji)) h3.1 (hkey w' h3.2.1).1 (hkey w' h3.2.1).2 ?_⟩) h2
      rw [Array.setIfInBounds_comm _ _ hji]
      exact h3.2.2

def ancGo : List Oper → List (List Nat) → List (List Nat)
  | [], acc => acc
  | o :: r, acc => ancGo r (acc ++ [(o.after.toList.flatMap fun e => if Region.binds .any e then e.on :: acc.getD e.on [] else []).eraseDups])
def ancs (l : List Oper) : List (List Nat) := ancGo l []
theorem ancGo_spec (L : List Oper) : ∀ (r : List Oper) (acc : List (List Nat)), (∀ k, r[k]? = L[acc.length + k]?) → (∀ j, ∀ i ∈ acc.getD j [], Anc L j i) → ∀ j, ∀ i ∈ (ancGo r acc).getD j [], Anc L j i
  | [], acc, _, h => h
  | o :: r, acc, hr, h => by
    unfold ancGo
    refine ancGo_spec L r _ (fun k => ?_) (fun j i hi => ?_)
    · have := hr (k + 1)
      rw [List.length_append, List.length_singleton, Nat.add_assoc, Nat.add_comm 1 k]
      simpa using this
    · by_cases hj : j < acc.length
      · rw [List.getD_eq_getElem?_getD, List.getElem?_append_left hj, ← List.getD_eq_getElem?_getD] at hi
        exact h j i hi
      · by_cases hj2 : j = acc.length
        · subst hj2
          rw [List.getD_eq_getElem?_getD, List.getElem?_append_right (Nat.le_refl _), Nat.sub_self] at hi
          simp only [List.getElem?_cons_zero, Option.getD_some, List.mem_eraseDups, List.mem_flatMap] at hi
          obtain ⟨e, he, hie⟩ := hi
          have ho : L[acc.length]? = some o := by have := hr 0; simpa using this.symm
          intro d hc hd
          by_cases hb : Region.binds .any e = true
          · rw [if_pos hb] at hie
            have h1 := hc _ o ho hd e (by simpa using he) hb
            rcases List.mem_cons.1 hie with rfl | hie
            · exact h1
            · exact h e.on i hie d hc h1
          · rw [if_neg hb] at hie
            cases hie
        · rw [List.getD_eq_getElem?_getD, List.getElem?_eq_none (by rw [List.length_append, List.length_singleton]; omega)] at hi
          simp at hi
theorem ancs_spec {l : List Oper} {j i : Nat} (h : ((ancs l).getD j []).contains i = true) : Anc l j i :=
  ancGo_spec l l [] (fun k => by simp) (fun j i hi => by simp at hi) j i (by simpa [ancs] using h)

def rgFrB (l : List Oper) (listed : Array Bool) (i : Nat) : Bool := (Region.ready .any l.toArray listed).contains i && Region.free .any l.toArray listed i
def rgStB (l : List Oper) (hl : List Nat) (i : Nat) : Bool := (List.range l.length).all fun j => hl.contains j || j == i || ((ancs l).getD j []).contains i
def rgOrdB (l : List Oper) (hl : List Nat) : List (Nat × Nat) → Array Bool → Bool
  | [], _ => true
  | (i, k) :: r, listed => (match k with
      | 0 => rgFrB l listed i && rgStB l hl i
      | 2 => hl.contains i && (Region.ready .any l.toArray listed == [i])
      | 3 => !hl.contains i && (Region.ready .any l.toArray listed == [i])
      | 4 => !hl.contains i && rgFrB l listed i
      | 5 => rgFrB l listed i && rgStB l hl i
      | _ => !hl.contains i && rgFrB l listed i) && rgOrdB l hl r (listed.setIfInBounds i true)
def rgSet : List (Nat × Nat) → Array Bool → Array Bool
  | [], listed => listed
  | (i, _) :: r, listed => rgSet r (listed.setIfInBounds i true)
def wpOrd (P : Program) (l : List Oper) (Q : Exit → Act → World → Prop) (S : World → Prop) (C : Act → World → Prop) : List (Nat × Nat) → Act → World → Prop
  | [], a, w => C a w
  | (i, k) :: r, a, w => ∀ o, l[i]? = some o → match k with
      | 0 => Region.wanted o (yielded l.toArray a.tmps) = true ∧ S w ∧ ∃ v, (∀ w', S w' → (execOp a.eval o).run P w' = .ok (.value v) w') ∧ wpOrd P l Q S C r (a.put o.dst v) w
      | 2 => Region.wanted o (yielded l.toArray a.tmps) = true ∧ o.wp P a w (fun a' w' => S w' ∧ wpOrd P l Q S C r a' w') Q
      | 3 => Region.wanted o (yielded l.toArray a.tmps) = true ∧ o.wp P a w (wpOrd P l Q S C r) Q
      | 4 => Region.wanted o (yielded l.toArray a.tmps) = true ∧ ∃ v, (∀ w', (execOp a.eval o).run P w' = .ok (.value v) w') ∧ wpOrd P l Q S C r (a.put o.dst v) w
      | 5 => Region.wanted o (yielded l.toArray a.tmps) = false ∧ S w ∧ wpOrd P l Q S C r (a.put o.dst undef) w
      | _ => Region.wanted o (yielded l.toArray a.tmps) = false ∧ wpOrd P l Q S C r (a.put o.dst undef) w
theorem rgSt_spec {i : Nat} (h : rgStB l hl i = true) : ∀ j, j < l.length → j ∉ hl → j ≠ i → Anc l j i := fun j hj hh hne => by
  have := List.all_eq_true.1 h j (List.mem_range.2 hj)
  simp only [Bool.or_eq_true, List.contains_iff_mem, beq_iff_eq] at this
  rcases this with (h1 | h1) | h1
  · exact absurd h1 hh
  · exact absurd h1 hne
  · exact ancs_spec (by simpa using h1)
theorem anyR_of_ord (hs : Region.noSelect l.toArray = true) (hQ : ∀ c a w, Q (.panic c) a w → False) (fuel : Nat) : ∀ (ord : List (Nat × Nat)) (listed : Array Bool) (a : Act) (w : World), Closed l (lsD listed) → rgOrdB l hl ord listed = true → wpOrd P l Q S (fun a w => Closed l (lsD (rgSet ord listed)) → wpAnyR P l Q S hl fuel (rgSet ord listed) a w) ord a w → wpAnyR P l Q S hl (ord.length + fuel) listed a w
  | [], listed, a, w, hc, hB, h => by simpa [rgSet] using h hc
  | (i, k) :: r, listed, a, w, hc, hB, h => by
    rw [show ((i, k) :: r).length + fuel = (r.length + fuel) + 1 by simp only [List.length_cons]; omega]
    have hrs : rgSet ((i, k) :: r) listed = rgSet r (listed.setIfInBounds i true) := rfl
    rw [hrs] at h
    obtain ⟨C, hC⟩ : ∃ C, C = (fun a w => Closed l (lsD (rgSet r (listed.setIfInBounds i true))) → wpAnyR P l Q S hl fuel (rgSet r (listed.setIfInBounds i true)) a w) := ⟨_, rfl⟩
    rw [← hC] at h
    unfold rgOrdB at hB
    rw [Bool.and_eq_true] at hB
    obtain ⟨hB1, hB2⟩ := hB
    have hone : ∀ (hrd : Region.ready .any l.toArray listed = [i]) (hw : ∀ o, l[i]? = some o → Region.wanted o (yielded l.toArray a.tmps) = true ∧ o.wp P a w (fun a' w' => (i ∈ hl → S w') ∧ wpOrd P l Q S C r a' w') Q), wpAnyR P l Q S hl (r.length + fuel + 1) listed a w := by
      intro hrd hw
      refine ⟨fun h0 => (by rw [hrd] at h0; cases h0), fun j hj => ?_⟩
      have hji : j = i := by rw [hrd] at hj; simpa using hj
      subst hji
      obtain ⟨_, o, ho, _⟩ := mem_ready.1 hj
      have ho' : l[j]? = some o := by simpa using ho
      obtain ⟨h1, h2⟩ := hw o ho'
      unfold wpOp
      simp only [ho]
      rw [if_pos h1]
      exact .inl (Oper.wp_mono (fun a' w' h3 => ⟨h3.1, anyR_of_ord hs hQ fuel r _ a' w' (closed_set hc hj) hB2 (hC ▸ h3.2)⟩) h2)
    have hfirst : ∀ (v : Value) (S' : World → Prop) (hf : rgFrB l listed i = true) (hSS : ∀ w, S w → S' w) (hst : ∀ j, j < l.length → j ∉ hl → j ≠ i → Anc l j i ∨ ((∀ w, S' w) ∧ i ∉ hl)) (hS' : S' w) (hSw : i ∈ hl → S w)
        (hy : ∀ o, l[i]? = some o → YieldsIf P l.toArray S' o v a ∧ wpOrd P l Q S C r (a.put o.dst v) w), wpAnyR P l Q S hl (r.length + fuel + 1) listed a w := by
      intro v S' hf hSS hst hS' hSw hy
      unfold rgFrB at hf
      rw [Bool.and_eq_true] at hf
      have hir : i ∈ Region.ready .any l.toArray listed := by simpa using hf.1
      obtain ⟨_, o, ho, _⟩ := mem_ready.1 hir
      have ho' : l[i]? = some o := by simpa using ho
      obtain ⟨h1, h2⟩ := hy o ho'
      exact wpAnyR_first ho (Region.noSelect_spec hs) (fun c a w h => (hQ _ _ _ h).elim) hSS hst (r.length + fuel) listed a w hc (Region.free_spec ho hf.2) hir h1 hS' hSw (anyR_of_ord hs hQ fuel r _ _ _ (closed_set hc hir) hB2 (hC ▸ h2))
    match k, hB1, h with
    | 0, hB1, h =>
      simp only [Bool.and_eq_true] at hB1
      have hir : i ∈ Region.ready .any l.toArray listed := by have := hB1.1; unfold rgFrB at this; rw [Bool.and_eq_true] at this; simpa using this.1
      obtain ⟨_, o, ho, _⟩ := mem_ready.1 hir
      have ho' : l[i]? = some o := by simpa using ho
      obtain ⟨h1, h2, v, h3, h4⟩ := h o ho'
      exact hfirst v S hB1.1 (fun _ h => h) (fun j a b c => .inl (rgSt_spec hB1.2 j a b c)) h2 (fun _ => h2) (fun o2 ho2 => by
        rw [ho'] at ho2
        cases ho2
        exact ⟨.inl ⟨h1, h3⟩, h4⟩)
    | 1, hB1, h =>
      simp only [Bool.and_eq_true, Bool.not_eq_true'] at hB1
      exact hfirst undef (fun _ => True) hB1.2 (fun _ _ => trivial) (fun _ _ _ _ => .inr ⟨fun _ => trivial, by simpa using hB1.1⟩) trivial (fun h6 => absurd h6 (by simpa using hB1.1)) (fun o ho => ⟨.inr ⟨(h o ho).1, rfl⟩, (h o ho).2⟩)
    | 2, hB1, h =>
      simp only [Bool.and_eq_true, beq_iff_eq] at hB1
      exact hone hB1.2 (fun o ho => ⟨(h o ho).1, Oper.wp_mono (fun a' w' h3 => ⟨fun _ => h3.1, h3.2⟩) (h o ho).2⟩)
    | 3, hB1, h =>
      simp only [Bool.and_eq_true, beq_iff_eq, Bool.not_eq_true'] at hB1
      exact hone hB1.2 (fun o ho => ⟨(h o ho).1, Oper.wp_mono (fun a' w' h3 => ⟨fun h6 => absurd h6 (by simpa using hB1.1), h3⟩) (h o ho).2⟩)
    | 4, hB1, h =>
      simp only [Bool.and_eq_true, Bool.not_eq_true'] at hB1
      have hir : i ∈ Region.ready .any l.toArray listed := by have := hB1.2; unfold rgFrB at this; rw [Bool.and_eq_true] at this; simpa using this.1
      obtain ⟨_, o, ho, _⟩ := mem_ready.1 hir
      have ho' : l[i]? = some o := by simpa using ho
      obtain ⟨h1, v, h3, h4⟩ := h o ho'
      exact hfirst v (fun _ => True) hB1.2 (fun _ _ => trivial) (fun _ _ _ _ => .inr ⟨fun _ => trivial, by simpa using hB1.1⟩) trivial (fun h6 => absurd h6 (by simpa using hB1.1)) (fun o2 ho2 => by
        rw [ho'] at ho2
        cases ho2
        exact ⟨.inl ⟨h1, fun w' _ => h3 w'⟩, h4⟩)
    | 5, hB1, h =>
      simp only [Bool.and_eq_true] at hB1
      have hir : i ∈ Region.ready .any l.toArray listed := by have := hB1.1; unfold rgFrB at this; rw [Bool.and_eq_true] at this; simpa using this.1
      obtain ⟨_, o, ho, _⟩ := mem_ready.1 hir
      have ho' : l[i]? = some o := by simpa using ho
      obtain ⟨h1, h2, h4⟩ := h o ho'
      exact hfirst undef S hB1.1 (fun _ h => h) (fun j a b c => .inl (rgSt_spec hB1.2 j a b c)) h2 (fun _ => h2) (fun o2 ho2 => by
        rw [ho'] at ho2
        cases ho2
        exact ⟨.inr ⟨h1, rfl⟩, h4⟩)
    | n + 6, hB1, h =>
      simp only [Bool.and_eq_true, Bool.not_eq_true'] at hB1
      exact hfirst undef (fun _ => True) hB1.2 (fun _ _ => trivial) (fun _ _ _ _ => .inr ⟨fun _ => trivial, by simpa using hB1.1⟩) trivial (fun h6 => absurd h6 (by simpa using hB1.1)) (fun o ho => ⟨.inr ⟨(h o ho).1, rfl⟩, (h o ho).2⟩)

theorem closed_none (n : Nat) : Closed l (lsD (Array.replicate n false)) := fun j o _ hd => by
  have hd' : (Array.replicate n false).getD j false = true := hd
  rw [Array.getD_eq_getD_getElem?, Array.getElem?_replicate] at hd'
  split at hd' <;> simp at hd'
theorem ord_imp {C' : Act → World → Prop} (hC : ∀ a w, C a w → C' a w) : ∀ (ord : List (Nat × Nat)) (a : Act) (w : World), wpOrd P l Q S C ord a w → wpOrd P l Q S C' ord a w
  | [], a, w, h => hC a w h
  | (i, k) :: r, a, w, h => fun o ho => by
    have h1 := h o ho
    match k, h1 with
    | 0, h1 => exact ⟨h1.1, h1.2.1, h1.2.2.imp fun v hv => ⟨hv.1, ord_imp hC r _ _ hv.2⟩⟩
    | 1, h1 => exact ⟨h1.1, ord_imp hC r _ _ h1.2⟩
    | 2, h1 => exact ⟨h1.1, Oper.wp_mono (fun a' w' h3 => ⟨h3.1, ord_imp hC r _ _ h3.2⟩) h1.2⟩
    | 3, h1 => exact ⟨h1.1, Oper.wp_mono (fun a' w' h3 => ord_imp hC r _ _ h3) h1.2⟩
    | 4, h1 => exact ⟨h1.1, h1.2.imp fun v hv => ⟨hv.1, ord_imp hC r _ _ hv.2⟩⟩
    | 5, h1 => exact ⟨h1.1, h1.2.1, ord_imp hC r _ _ h1.2.2⟩
    | n + 6, h1 => exact ⟨h1.1, ord_imp hC r _ _ h1.2⟩
theorem wp_region_ord {id : Nat} {a : Act} {w : World} (S : World → Prop) (hl : List Nat) (ord : List (Nat × Nat)) (hm : P.follows .mixedOrders = true) (hs : Region.noSelect l.toArray = true) (hn : ord.length = l.length) (hB : (rgOrdB l hl ord (Array.replicate l.length false) && (Region.ready .any l.toArray (rgSet ord (Array.replicate l.length false))).isEmpty) = true)
    (h : wpOrd P l (NoPanic Q) S (fun a w => NoPanic Q .normal a w) ord a w.drew) : (Code.region id l.toArray true).wp P Q a w := by
  refine wp_region_noPanic (wp_region_any hm (wpAny_of_R (S := S) (hl := hl) _ _ _ _ ?_))
  rw [Bool.and_eq_true] at hB
  have := anyR_of_ord (P := P) (Q := NoPanic Q) (S := S) (hl := hl) hs (fun _ _ _ h => h) 0 ord _ a w.drew (closed_none _) hB.1 (ord_imp (fun a w h _ => ⟨by simpa using hB.2, h⟩) ord _ _ h)
  rw [Nat.add_zero, hn] at this
  simpa using this
theorem ord_read {i : Nat} {o : Oper} {r : List (Nat × Nat)} {a : Act} {w : World} (v : Value) (ho : l[i]? = some o) (hg : o.guard = none) (hS : S w) (hv : ∀ w', S w' → (execOp a.eval o).run P w' = .ok (.value v) w') (h : wpOrd P l Q S C r (a.put o.dst v) w) : wpOrd P l Q S C ((i, 0) :: r) a w := by
  intro o2 ho2
  rw [ho] at ho2
  cases ho2
  exact ⟨by simp [Region.wanted, hg], hS, v, hv, h⟩
theorem ord_held {i : Nat} {o : Oper} {r : List (Nat × Nat)} {a : Act} {w : World} (ho : l[i]? = some o) (hg : o.guard = none) (h : ∀ K : Act → World → Prop, (∀ a' w', S w' → wpOrd P l Q S C r a' w' → K a' w') → o.wp P a w K Q) : wpOrd P l Q S C ((i, 2) :: r) a w := by
  intro o2 ho2
  rw [ho] at ho2
  cases ho2
  exact ⟨by simp [Region.wanted, hg], h _ (fun a' w' h1 h2 => ⟨h1, h2⟩)⟩
theorem ord_done {a : Act} {w : World} (h : Q .normal a w) : wpOrd P l (NoPanic Q) S (fun a w => NoPanic Q .normal a w) [] a w := h
theorem ordG_read {i : Nat} {o : Oper} {r : List (Nat × Nat)} {a : Act} {w : World} (v : Value) (ho : l[i]? = some o) (hg : Region.wanted o (yielded l.toArray a.tmps) = true) (hS : S w) (hv : ∀ w', S w' → (execOp a.eval o).run P w' = .ok (.value v) w') (h : wpOrd P l Q S C r (a.put o.dst v) w) : wpOrd P l Q S C ((i, 0) :: r) a w := by
  intro o2 ho2
  rw [ho] at ho2
  cases ho2
  exact ⟨hg, hS, v, hv, h⟩
theorem ordG_held {i : Nat} {o : Oper} {r : List (Nat × Nat)} {a : Act} {w : World} (ho : l[i]? = some o) (hg : Region.wanted o (yielded l.toArray a.tmps) = true) (h : ∀ K : Act → World → Prop, (∀ a' w', S w' → wpOrd P l Q S C r a' w' → K a' w') → o.wp P a w K Q) : wpOrd P l Q S C ((i, 2) :: r) a w := by
  intro o2 ho2
  rw [ho] at ho2
  cases ho2
  exact ⟨hg, h _ (fun a' w' h1 h2 => ⟨h1, h2⟩)⟩
end

end Go.Proofs.YtllaoijjgkfgpaaGreatDoor
