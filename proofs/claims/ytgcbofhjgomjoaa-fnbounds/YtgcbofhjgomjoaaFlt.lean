import Derived.Laws.FloatArith
import Derived.KernelRfl
namespace Go.Proofs.Ytgcbofhjgomjoaa
open Ieee

theorem log2_of {n L : Nat} (h1 : 2 ^ L ≤ n) (h2 : n < 2 ^ (L + 1)) : n.log2 = L := by
  have hn : n ≠ 0 := by
    have := Nat.two_pow_pos L
    omega
  have a := (Nat.le_log2 hn).2 h1
  have b := (Nat.log2_lt hn).2 h2
  omega

theorem log2_bounds {n : Nat} (hn : n ≠ 0) : 2 ^ n.log2 ≤ n ∧ n < 2 ^ (n.log2 + 1) :=
  ⟨(Nat.le_log2 hn).1 (Nat.le_refl _), (Nat.log2_lt hn).1 (Nat.lt_succ_self _)⟩

/-- Cut to the nearest: what is dropped is at most half a unit. -/
theorem cut_even {neg : Bool} {n drop : Nat} (hd : drop ≤ n.log2 + 2) :
    2 * (Toward.even.cut neg n drop * 2 ^ drop) ≤ 2 * n + 2 ^ drop ∧ 2 * n ≤ 2 * (Toward.even.cut neg n drop * 2 ^ drop) + 2 ^ drop := by
  unfold Toward.cut
  simp only [Nat.min_eq_left hd, Nat.one_shiftLeft]
  have hg : 0 < 2 ^ drop := Nat.two_pow_pos drop
  generalize 2 ^ drop = g at *
  have e := Nat.div_add_mod n g
  have l := Nat.mod_lt n hg
  rw [Nat.mul_comm] at e
  generalize n / g = a at *
  generalize n % g = r at *
  by_cases c : (decide (g < 2 * r) || (g == 2 * r && a % 2 == 1)) = true
  · rw [c]
    simp only [Bool.toNat_true, Nat.add_mul, Nat.one_mul]
    simp only [Bool.or_eq_true, decide_eq_true_eq, Bool.and_eq_true, beq_iff_eq] at c
    generalize a * g = ag at *
    omega
  · rw [Bool.not_eq_true] at c
    rw [c]
    simp only [Bool.toNat_false, Nat.add_zero]
    simp only [Bool.or_eq_false_iff, decide_eq_false_iff_not] at c
    generalize a * g = ag at *
    omega

theorem cut_zero (way : Toward) (neg : Bool) (n : Nat) : way.cut neg n 0 = n := by
  unfold Toward.cut
  cases way <;> simp [Nat.mod_one]

/-- What a normal number's word stands for. -/
theorem read_normal {E k : Nat} (h1 : 2 ^ 52 ≤ k) (h2 : k < 2 ^ 53) (hE : E ≤ 2045) :
    double.read (E * 2 ^ 52 + k) = .number false k (-1074 + (E : Int)) := by
  have hb : double.binade = 2 ^ 52 := rfl
  have hs : double.signWeight = 2 ^ 63 := rfl
  have hi : double.infRung = 2047 * 2 ^ 52 := rfl
  have hl : double.leastPlace = -1074 := rfl
  have lt : E * 2 ^ 52 + k < 2047 * 2 ^ 52 := by omega
  unfold Format.read
  simp only [hb, hs, hi, hl]
  have e1 : (E * 2 ^ 52 + k) / 2 ^ 63 = 0 := Nat.div_eq_of_lt (by omega)
  have e2 : (E * 2 ^ 52 + k) % 2 ^ 63 = E * 2 ^ 52 + k := Nat.mod_eq_of_lt (by omega)
  rw [e1, e2]
  rw [if_neg (by omega), if_pos lt]
  have e3 : (E * 2 ^ 52 + k) / 2 ^ 52 = E + 1 := by omega
  have e4 : (E * 2 ^ 52 + k) % 2 ^ 52 = k - 2 ^ 52 := by omega
  rw [e3, e4]
  have e5 : 2 ^ 52 + (k - 2 ^ 52) = k := by omega
  rw [e5]
  rfl

/-- A number that is normal, written. -/
theorem nearest_normal {M s : Nat} {p : Int} (hM : 2 ^ 52 ≤ M) (hs : M.log2 = 52 + s) (hp : -1074 ≤ p + s) (hq : p + s ≤ 900) :
    double.nearest false M p = (p + s + 1074).toNat * 2 ^ 52 + Toward.even.cut false M s := by
  have hb : double.binade = 2 ^ 52 := rfl
  have hf : double.fractionBits = 52 := rfl
  have hi : double.infRung = 2047 * 2 ^ 52 := rfl
  have hl : double.leastPlace = -1074 := rfl
  have h0 : M ≠ 0 := by omega
  unfold Format.nearest
  rw [if_neg h0]
  simp only [hb, hf, hi, hl, hs]
  have e1 : max (p + ((52 + s : Nat) : Int) - ((52 : Nat) : Int)) (-1074) = p + s := by omega
  rw [e1]
  have e2 : (p - (p + s)).toNat = 0 := by omega
  have e3 : (p + (s : Int) - p).toNat = s := by omega
  have e4 : p + (s : Int) - (-1074) = p + s + 1074 := by omega
  rw [e2, e3, e4, Nat.shiftLeft_zero]
  have hc := (cut_even (neg := false) (n := M) (drop := s) (by omega)).1
  have hlt : M < 2 ^ (s + 53) := by
    have := (log2_bounds h0).2
    rw [hs] at this
    rwa [show 52 + s + 1 = s + 53 by omega] at this
  have hk : Toward.even.cut false M s ≤ 2 ^ 53 := by
    generalize Toward.even.cut false M s = c at *
    rw [Nat.pow_add] at hlt
    have hg : 0 < 2 ^ s := Nat.two_pow_pos s
    generalize 2 ^ s = g at *
    refine Nat.le_of_not_lt fun hh => ?_
    have := Nat.mul_le_mul_right g (show 2 ^ 53 + 1 ≤ c by omega)
    rw [Nat.add_mul, Nat.mul_comm (2 ^ 53) g] at this
    omega
  have hr : (p + (s : Int) + 1074).toNat ≤ 1974 := by omega
  rw [Nat.min_eq_left (by omega)]
  rfl

/-- A whole number, written: no digit is lost. -/
theorem nearest_whole {n L : Nat} (hn : n ≠ 0) (hL : n.log2 = L) (h : L ≤ 52) :
    floatOfInt .f64 (n : Int) = (L + 1022) * 2 ^ 52 + n * 2 ^ (52 - L) := by
  have hb : double.binade = 2 ^ 52 := rfl
  have hf : double.fractionBits = 52 := rfl
  have hi : double.infRung = 2047 * 2 ^ 52 := rfl
  have hl : double.leastPlace = -1074 := rfl
  unfold floatOfInt FloatKind.nearest FloatKind.encode FloatKind.format Format.write
  simp only
  have e0 : decide ((n : Int) < 0) = false := decide_eq_false (by omega)
  rw [e0, Int.natAbs_natCast]
  unfold Format.nearest
  rw [if_neg hn]
  simp only [hb, hf, hi, hl, hL]
  have e1 : max ((0 : Int) + (L : Int) - ((52 : Nat) : Int)) (-1074) = (L : Int) - 52 := by omega
  rw [e1]
  have e2 : ((0 : Int) - ((L : Int) - 52)).toNat = 52 - L := by omega
  have e3 : ((L : Int) - 52 - 0).toNat = 0 := by omega
  have e4 : ((L : Int) - 52 - (-1074)).toNat = L + 1022 := by omega
  rw [e2, e3, e4, cut_zero, Nat.shiftLeft_eq]
  have hlt : n * 2 ^ (52 - L) < 2 ^ 53 := by
    have := (log2_bounds hn).2
    rw [hL] at this
    have h2 := Nat.mul_lt_mul_of_pos_right this (Nat.two_pow_pos (52 - L))
    rw [← Nat.pow_add, show L + 1 + (52 - L) = 53 by omega] at h2
    exact h2
  rw [Nat.min_eq_left (by omega)]
  rfl

theorem whole_range {n L : Nat} (hn : n ≠ 0) (hL : n.log2 = L) (h : L ≤ 52) :
    2 ^ 52 ≤ n * 2 ^ (52 - L) ∧ n * 2 ^ (52 - L) < 2 ^ 53 := by
  have hb := log2_bounds hn
  rw [hL] at hb
  have hp := Nat.two_pow_pos (52 - L)
  have h2 := Nat.mul_lt_mul_of_pos_right hb.2 hp
  have h1 := Nat.mul_le_mul_right (2 ^ (52 - L)) hb.1
  rw [← Nat.pow_add, show L + 1 + (52 - L) = 53 by omega] at h2
  rw [← Nat.pow_add, show L + (52 - L) = 52 by omega] at h1
  exact ⟨h1, h2⟩

theorem read_whole {n L : Nat} (hn : n ≠ 0) (hL : n.log2 = L) (h : L ≤ 52) :
    double.read (floatOfInt .f64 (n : Int)) = .number false (n * 2 ^ (52 - L)) ((L : Int) - 52) := by
  have hr := whole_range hn hL h
  rw [nearest_whole hn hL h, read_normal hr.1 hr.2 (by omega)]
  have e : -1074 + ((L + 1022 : Nat) : Int) = (L : Int) - 52 := by omega
  rw [e]

/-- math.Round's bits, of a number that is not negative. -/
def roundW (r : Nat) : Nat :=
  if r / 2 ^ 52 < 1023 then (if r / 2 ^ 52 = 1022 then 1023 * 2 ^ 52 else 0)
  else if r / 2 ^ 52 < 1075 then
    (r + 2 ^ (1074 - r / 2 ^ 52)) / 2 ^ (1075 - r / 2 ^ 52) * 2 ^ (1075 - r / 2 ^ 52)
  else r

theorem toInt_number {m t q : Nat} {i : Int} (hi : i = -(t : Int)) (hm : m = q * 2 ^ t) :
    (Datum.number false m i).toInt .zero = some (q : Int) := by
  subst hi hm
  unfold Datum.toInt Datum.integral
  have e1 : (-(t : Int)).toNat = 0 := by omega
  have e2 : (-(-(t : Int))).toNat = t := by omega
  simp only [e1, e2, Nat.shiftLeft_zero]
  have hc : Toward.zero.cut false (q * 2 ^ t) t = q := by
    unfold Toward.cut
    simp only [Bool.toNat_false, Nat.add_zero]
    by_cases hq : q = 0
    · subst hq; simp
    · have hle : t ≤ (q * 2 ^ t).log2 + 2 := by
        have : 2 ^ t ≤ q * 2 ^ t := Nat.le_mul_of_pos_left _ (by omega)
        have := (Nat.le_log2 (by have := Nat.two_pow_pos t; omega)).2 this
        omega
      rw [Nat.min_eq_left hle, Nat.one_shiftLeft, Nat.mul_div_cancel _ (Nat.two_pow_pos t)]
  rw [hc]
  simp [signed]

/-- Rounded, as a whole number. -/
theorem round_toInt {E k t : Nat} (h1 : 2 ^ 52 ≤ k) (h2 : k < 2 ^ 53) (hE : E + t = 1074) (ht : 1 ≤ t) :
    (FloatKind.f64.decode (roundW (E * 2 ^ 52 + k))).toInt .zero = some (((k + 2 ^ (t - 1)) / 2 ^ t : Nat) : Int) := by
  have e0 : (E * 2 ^ 52 + k) / 2 ^ 52 = E + 1 := by omega
  unfold roundW FloatKind.decode FloatKind.format
  simp only [e0]
  by_cases c1 : E + 1 < 1023
  · rw [if_pos c1]
    by_cases c2 : E + 1 = 1022
    · rw [if_pos c2]
      have : t = 53 := by omega
      subst this
      have e : (k + 2 ^ (53 - 1)) / 2 ^ 53 = 1 := by omega
      rw [e]
      decide
    · rw [if_neg c2]
      have hlt : 2 ^ 53 ≤ 2 ^ (t - 1) := Nat.pow_le_pow_right (by decide) (by omega)
      have h3 : 2 ^ t = 2 * 2 ^ (t - 1) := by
        rw [← Nat.pow_succ', show (t - 1).succ = t by omega]
      have e : (k + 2 ^ (t - 1)) / 2 ^ t = 0 := Nat.div_eq_of_lt (by omega)
      rw [e]
      decide
  · rw [if_neg c1, if_pos (by omega)]
    have et : 1075 - (E + 1) = t := by omega
    have et1 : 1074 - (E + 1) = t - 1 := by omega
    rw [et, et1]
    -- j: the exponent
    obtain ⟨j, hj⟩ : ∃ j, t + j = 52 := ⟨52 - t, by omega⟩
    have hE' : E = 1022 + j := by omega
    subst hE'
    have hp : 0 < 2 ^ t := Nat.two_pow_pos t
    have hmul : (2 : Nat) ^ 52 = 2 ^ j * 2 ^ t := by rw [← Nat.pow_add, show j + t = 52 by omega]
    have e1 : ((1022 + j) * 2 ^ 52 + k + 2 ^ (t - 1)) / 2 ^ t = (1022 + j) * 2 ^ j + (k + 2 ^ (t - 1)) / 2 ^ t := by
      rw [hmul, ← Nat.mul_assoc, Nat.add_assoc, Nat.add_comm, Nat.add_mul_div_right _ _ hp, Nat.add_comm]
    rw [e1]
    have h3 : 2 ^ t = 2 * 2 ^ (t - 1) := by
      rw [← Nat.pow_succ', show (t - 1).succ = t by omega]
    have q1 : 2 ^ j ≤ (k + 2 ^ (t - 1)) / 2 ^ t := by
      rw [Nat.le_div_iff_mul_le hp, ← hmul]; omega
    have q2 : (k + 2 ^ (t - 1)) / 2 ^ t ≤ 2 ^ (j + 1) := by
      refine Nat.le_of_lt_succ ?_
      rw [Nat.div_lt_iff_lt_mul hp, Nat.succ_mul, Nat.pow_succ, Nat.mul_comm (2 ^ j) 2, Nat.mul_assoc, ← hmul]
      omega
    generalize (k + 2 ^ (t - 1)) / 2 ^ t = q at *
    rw [Nat.add_mul, Nat.mul_assoc, ← hmul]
    by_cases c : q < 2 ^ (j + 1)
    · have r1 : 2 ^ 52 ≤ q * 2 ^ t := by rw [hmul]; exact Nat.mul_le_mul_right _ q1
      have r2 : q * 2 ^ t < 2 ^ 53 := by
        have := Nat.mul_lt_mul_of_pos_right c hp
        rwa [← Nat.pow_add, show j + 1 + t = 53 by omega] at this
      rw [read_normal r1 r2 (by omega)]
      exact toInt_number (t := t) (by omega) rfl
    · have : q = 2 ^ (j + 1) := by omega
      subst this
      have e2 : 2 ^ (j + 1) * 2 ^ t = 2 ^ 53 := by rw [← Nat.pow_add, show j + 1 + t = 53 by omega]
      rw [e2, show (1022 + j) * 2 ^ 52 + 2 ^ 53 = (1022 + (j + 1)) * 2 ^ 52 + 2 ^ 52 by omega, read_normal (Nat.le_refl _) (by decide) (by omega)]
      refine toInt_number (t := t - 1) (by omega) ?_
      rw [← Nat.pow_add, show j + 1 + (t - 1) = 52 by omega]

theorem round_toInt' {r E k t : Nat} (hr : r = E * 2 ^ 52 + k) (h1 : 2 ^ 52 ≤ k) (h2 : k < 2 ^ 53) (hE : E + t = 1074) (ht : 1 ≤ t) :
    (FloatKind.f64.decode (roundW r)).toInt .zero = some (((k + 2 ^ (t - 1)) / 2 ^ t : Nat) : Int) := by
  subst hr
  exact round_toInt h1 h2 hE ht

theorem carry (E : Nat) : E * 2 ^ 52 + 2 ^ 53 = (E + 1) * 2 ^ 52 + 2 ^ 52 := by omega

theorem half_carry {t : Nat} (h : 2 ≤ t) : (2 ^ 53 + 2 ^ (t - 1)) / 2 ^ t = (2 ^ 52 + 2 ^ (t - 1 - 1)) / 2 ^ (t - 1) := by
  have h3 : 2 ^ t = 2 * 2 ^ (t - 1) := by
    rw [← Nat.pow_succ', show (t - 1).succ = t by omega]
  have h4 : 2 ^ (t - 1) = 2 * 2 ^ (t - 1 - 1) := by
    rw [← Nat.pow_succ', show (t - 1 - 1).succ = t - 1 by omega]
  rw [h3, show 2 ^ 53 + 2 ^ (t - 1) = 2 * (2 ^ 52 + 2 ^ (t - 1 - 1)) by omega, Nat.mul_div_mul_left _ _ (by decide)]

/-- The quotient's digits. -/
theorem quo_digits {n b L B N d : Nat} (hn : n ≠ 0) (hb : b ≠ 0) (hL : n.log2 = L) (hB : b.log2 = B) (h : L ≤ 52) (h' : B ≤ 52)
    (hN : n * 2 ^ (52 - L) = N) (hd : b * 2 ^ (52 - B) = d) :
    floatBits .quo .f64 (floatOfInt .f64 (n : Int)) (floatOfInt .f64 (b : Int))
      = some (double.nearest false (2 * (N * 2 ^ 54 / d) + (N * 2 ^ 54 % d != 0).toNat) ((L : Int) - B - 55)) := by
  have hf : double.fractionBits = 52 := rfl
  have rN := whole_range hn hL h
  have rd := whole_range hb hB h'
  rw [hN] at rN
  rw [hd] at rd
  have lN : N.log2 = 52 := log2_of rN.1 rN.2
  have ld : d.log2 = 52 := log2_of rd.1 rd.2
  show (((double.read (floatOfInt .f64 (n : Int))).quotient (double.fractionBits + 2) (double.read (floatOfInt .f64 (b : Int)))).map double.write) = _
  rw [read_whole hn hL h, read_whole hb hB h', hN, hd, hf]
  unfold Datum.quotient
  dsimp only
  rw [if_neg (by omega)]
  simp only [lN, ld, Option.map_some, Nat.shiftLeft_eq, Format.write, Bool.xor_self]
  have e : (L : Int) - 52 - ((B : Int) - 52) - ((52 + 2 + 52 - 52 : Nat) : Int) - 1 = (L : Int) - B - 55 := by omega
  rw [e]

/-- THE FIRST GUESS: it is off by less than one. -/
theorem guess {n b : Nat} (hb : b ≠ 0) (hn : n < 2 ^ 40) (hb' : b < 2 ^ 40) :
    ∃ x q : Nat, floatBits .quo .f64 (floatOfInt .f64 (n : Int)) (floatOfInt .f64 (b : Int)) = some x ∧ x < 2 ^ 63
      ∧ (FloatKind.f64.decode (roundW x)).toInt .zero = some (q : Int) ∧ q * b < n + b ∧ n < q * b + b := by
  by_cases h0 : n = 0
  · subst h0
    refine ⟨0, 0, ?_, by decide, by decide, by omega, by omega⟩
    have hz : floatOfInt .f64 ((0 : Nat) : Int) = 0 := by decide
    obtain ⟨B, hB⟩ : ∃ B, b.log2 = B := ⟨_, rfl⟩
    have hB' : B ≤ 52 := by
      have := (Nat.log2_lt hb).2 hb'
      omega
    have rd := whole_range hb hB hB'
    show (((double.read (floatOfInt .f64 ((0 : Nat) : Int))).quotient (double.fractionBits + 2) (double.read (floatOfInt .f64 (b : Int)))).map double.write) = _
    rw [hz, read_whole hb hB hB', show double.read 0 = .number false 0 (-1074) from by decide]
    generalize b * 2 ^ (52 - B) = d at *
    unfold Datum.quotient
    dsimp only
    rw [if_neg (by omega)]
    simp [Nat.shiftLeft_eq, Format.write, Format.nearest, Format.word]
  · obtain ⟨L, hL⟩ : ∃ L, n.log2 = L := ⟨_, rfl⟩
    obtain ⟨B, hB⟩ : ∃ B, b.log2 = B := ⟨_, rfl⟩
    have hL' : L ≤ 39 := by
      have := (Nat.log2_lt h0).2 hn
      omega
    have hB' : B ≤ 39 := by
      have := (Nat.log2_lt hb).2 hb'
      omega
    obtain ⟨N, hN⟩ : ∃ N, n * 2 ^ (52 - L) = N := ⟨_, rfl⟩
    obtain ⟨d, hd⟩ : ∃ d, b * 2 ^ (52 - B) = d := ⟨_, rfl⟩
    have rN := whole_range h0 hL (by omega)
    have rd := whole_range hb hB (by omega)
    rw [hN] at rN
    rw [hd] at rd
    rw [quo_digits h0 hb hL hB (by omega) (by omega) hN hd]
    -- the dividend and its quotient
    obtain ⟨V, hV⟩ : ∃ V, N * 2 ^ 54 = V := ⟨_, rfl⟩
    rw [hV]
    have dpos : 0 < d := by omega
    obtain ⟨M, hM⟩ : ∃ M, 2 * (V / d) + (V % d != 0).toNat = M := ⟨_, rfl⟩
    rw [hM]
    have bit : (V % d != 0).toNat ≤ 1 := Bool.toNat_le _
    have hdm := Nat.div_add_mod V d
    have hml := Nat.mod_lt V dpos
    have a1 : 2 ^ 53 ≤ V / d := by
      rw [Nat.le_div_iff_mul_le dpos]
      have := Nat.mul_le_mul_left (2 ^ 53) (Nat.le_of_lt rd.2)
      omega
    have a2 : V / d < 2 ^ 55 := by
      rw [Nat.div_lt_iff_lt_mul dpos]
      have := Nat.mul_le_mul_left (2 ^ 55) rd.1
      omega
    have m1 : M * d ≤ 2 * V + d := by
      have : M ≤ 2 * (V / d) + 1 := by omega
      have := Nat.mul_le_mul_right d this
      rw [Nat.add_mul, Nat.one_mul, Nat.mul_assoc, Nat.mul_comm (V / d) d] at this
      omega
    have m2 : 2 * V < M * d + 2 * d := by
      have : 2 * (V / d) ≤ M := by omega
      have := Nat.mul_le_mul_right d this
      rw [Nat.mul_assoc, Nat.mul_comm (V / d) d] at this
      omega
    have M1 : 2 ^ 54 ≤ M := by omega
    have M2 : M < 2 ^ 56 := by omega
    obtain ⟨s, hs, s2, s3⟩ : ∃ s, M.log2 = 52 + s ∧ 2 ≤ s ∧ s ≤ 3 := by
      by_cases c : M < 2 ^ 55
      · exact ⟨2, log2_of (by omega) (by omega), by omega, by omega⟩
      · exact ⟨3, log2_of (by omega) (by omega), by omega, by omega⟩
    have k12 := cut_even (neg := false) (n := M) (drop := s) (by omega)
    have hMl := log2_bounds (n := M) (by omega)
    rw [nearest_normal (s := s) (by omega) hs (by omega) (by omega)]
    -- t: how many digits stand behind the point
    obtain ⟨t, ht⟩ : ∃ t : Nat, (t : Int) = -((L : Int) - B - 55 + s) := ⟨(-((L : Int) - B - 55 + s)).toNat, by omega⟩
    obtain ⟨E, hE⟩ : ∃ E : Nat, ((L : Int) - B - 55 + s + 1074).toNat = E := ⟨_, rfl⟩
    rw [hE]
    have hEt : E + t = 1074 := by omega
    have t1 : 13 ≤ t := by omega
    obtain ⟨k, hk⟩ : ∃ k, Toward.even.cut false M s = k := ⟨_, rfl⟩
    rw [hk] at k12
    rw [hk]
    have gs : 4 ≤ 2 ^ s := by
      have := Nat.pow_le_pow_right (n := 2) (by decide) s2
      omega
    have kr1 : 2 ^ 52 ≤ k := by
      rw [hs, Nat.pow_add] at hMl
      generalize 2 ^ s = g at *
      refine Nat.le_of_not_lt fun hh => ?_
      have := Nat.mul_le_mul_right g (show k + 1 ≤ 2 ^ 52 by omega)
      rw [Nat.add_mul, Nat.one_mul] at this
      omega
    have kr2 : k ≤ 2 ^ 53 := by
      have h2 := hMl.2
      rw [hs, show 52 + s + 1 = 53 + s by omega, Nat.pow_add] at h2
      generalize 2 ^ s = g at *
      refine Nat.le_of_not_lt fun hh => ?_
      have := Nat.mul_le_mul_right g (show 2 ^ 53 + 1 ≤ k by omega)
      rw [Nat.add_mul, Nat.one_mul] at this
      omega
    have h3 : 2 ^ t = 2 * 2 ^ (t - 1) := by
      rw [← Nat.pow_succ', show (t - 1).succ = t by omega]
    have tp : 0 < 2 ^ t := Nat.two_pow_pos t
    refine ⟨E * 2 ^ 52 + k, (k + 2 ^ (t - 1)) / 2 ^ t, rfl, by omega, ?_, ?_⟩
    · by_cases c : k < 2 ^ 53
      · exact round_toInt kr1 c hEt (by omega)
      · have : k = 2 ^ 53 := by omega
        subst this
        have e := round_toInt' (carry E) (Nat.le_refl _) (by decide) (show E + 1 + (t - 1) = 1074 from by clear k12; omega) (by clear k12; omega)
        rw [e, half_carry (by clear k12; omega)]
    · -- the same number, in the digits' own scale
      have scale : n * (d * 2 ^ (s + t)) = 2 * V * b := by
        rw [← hV, ← hN, ← hd]
        have e : 52 - B + (s + t) = 52 - L + 55 := by omega
        have c1 : n * (b * 2 ^ (52 - B) * 2 ^ (s + t)) = n * b * 2 ^ (52 - B + (s + t)) := by rw [Nat.pow_add 2 (52 - B)]; ac_rfl
        have c2 : n * b * 2 ^ (52 - L + 55) = 2 * (n * 2 ^ (52 - L) * 2 ^ 54) * b := by
          rw [Nat.pow_add 2 (52 - L), show (2 : Nat) ^ 55 = 2 * 2 ^ 54 from rfl]; generalize 2 ^ (52 - L) = u; generalize 2 ^ 54 = v; ac_rfl
        rw [c1, e, c2]
      have q1 := Nat.div_mul_le_self (k + 2 ^ (t - 1)) (2 ^ t)
      have q2 := Nat.lt_div_mul_add (a := k + 2 ^ (t - 1)) tp
      generalize (k + 2 ^ (t - 1)) / 2 ^ t = q at *
      have dg : 0 < d * 2 ^ (s + t) := Nat.mul_pos dpos (Nat.two_pow_pos _)
      have bpos : 0 < b := by omega
      -- in one scale
      have st : (2 : Nat) ^ (s + t) = 2 ^ s * 2 ^ t := Nat.pow_add ..
      have T : 2 ≤ 2 ^ t := by
        have := Nat.pow_le_pow_right (n := 2) (by decide) t1
        omega
      have lo : q * 2 ^ (s + t) + 1 < M + 2 ^ (s + t) := by
        rw [st]
        generalize 2 ^ s = g at *
        generalize 2 ^ t = T' at *
        have x1 := Nat.mul_le_mul_left g q1
        have x2 : g * (q * T') = q * (g * T') := by ac_rfl
        rw [x2, Nat.mul_add] at x1
        have x3 : g * T' = 2 * (g * 2 ^ (t - 1)) := by rw [h3]; ac_rfl
        have x4 : g * 2 ≤ g * T' := Nat.mul_le_mul_left g T
        have x5 : g * k = k * g := Nat.mul_comm ..
        generalize g * T' = gT at *
        generalize g * 2 ^ (t - 1) = gh at *
        generalize q * gT = y at *
        omega
      have hi : M + 2 ≤ q * 2 ^ (s + t) + 2 ^ (s + t) := by
        rw [st]
        generalize 2 ^ s = g at *
        generalize 2 ^ t = T' at *
        have x1 := Nat.mul_le_mul_left g (Nat.succ_le_of_lt q2)
        have x2 : g * (q * T' + T') = q * (g * T') + g * T' := by rw [Nat.mul_add]; ac_rfl
        rw [x2, Nat.mul_succ, Nat.mul_add] at x1
        have x3 : g * T' = 2 * (g * 2 ^ (t - 1)) := by rw [h3]; ac_rfl
        have x5 : g * k = k * g := Nat.mul_comm ..
        generalize g * T' = gT at *
        generalize g * 2 ^ (t - 1) = gh at *
        generalize q * gT = y at *
        omega
      constructor
      · refine Nat.lt_of_mul_lt_mul_right (a := d * 2 ^ (s + t)) ?_
        rw [Nat.add_mul, scale]
        generalize 2 ^ (s + t) = G at *
        have y1 := Nat.mul_lt_mul_of_pos_right (Nat.mul_lt_mul_of_pos_right lo dpos) bpos
        have y2 := Nat.mul_le_mul_right b m1
        have z1 : (q * G + 1) * d * b = q * b * (d * G) + d * b := by rw [Nat.add_mul, Nat.add_mul, Nat.one_mul]; ac_rfl
        have z2 : (M + G) * d * b = M * d * b + b * (d * G) := by rw [Nat.add_mul, Nat.add_mul]; ac_rfl
        rw [z1, z2] at y1
        rw [Nat.add_mul] at y2
        generalize q * b * (d * G) = a at *
        generalize b * (d * G) = bb at *
        generalize M * d * b = c at *
        generalize d * b = e at *
        generalize 2 * V * b = f at *
        omega
      · refine Nat.lt_of_mul_lt_mul_right (a := d * 2 ^ (s + t)) ?_
        rw [Nat.add_mul, scale]
        generalize 2 ^ (s + t) = G at *
        have y1 := Nat.mul_le_mul_right b (Nat.mul_le_mul_right d hi)
        have y2 := Nat.mul_lt_mul_of_pos_right m2 bpos
        have z1 : (q * G + G) * d * b = q * b * (d * G) + b * (d * G) := by rw [Nat.add_mul, Nat.add_mul]; ac_rfl
        have z2 : (M + 2) * d * b = M * d * b + 2 * d * b := by rw [Nat.add_mul, Nat.add_mul]
        rw [z1, z2] at y1
        rw [Nat.add_mul] at y2
        generalize q * b * (d * G) = a at *
        generalize b * (d * G) = bb at *
        generalize M * d * b = c at *
        generalize 2 * d * b = e at *
        generalize 2 * V * b = f at *
        omega

end Go.Proofs.Ytgcbofhjgomjoaa
