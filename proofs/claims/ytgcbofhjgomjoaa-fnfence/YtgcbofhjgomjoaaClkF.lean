/- Contracts of math.Round and of a quotient that is guessed in floats and mended. -/
import Derived.Test.YtgcbofhjgomjoaaRows
import Derived.Test.YtgcbofhjgomjoaaFlt
import Derived.WalkKit
import Derived.WalkSpells
import Derived.WalkLawsBesides
import Derived.Laws.Externs
import Derived.Laws.Bits64b
import Derived.Laws.BitsAllLaws
import Derived.KernelRfl
namespace Go.Proofs.Ytgcbofhjgomjoaa
open Go.RowKit
set_option linter.unusedVariables false

theorem bits_of (x : Nat) (w : World) : (callFunc 74 #[.float .f64 x]).run Try.prog w = .ok (.value (.int .u64 x)) w := by
  rw [run_callFunc_extern Try.func74 (by kernel_rfl) (by kernel_rfl) (by kernel_rfl) (e := Extern.MathFloatBits.float64bits) (by kernel_rfl)]
  rfl
theorem of_bits (n : Int) (w : World) : (callFunc 75 #[.int .u64 n]).run Try.prog w = .ok (.value (.float .f64 n.toNat)) w := by
  rw [run_callFunc_extern Try.func75 (by kernel_rfl) (by kernel_rfl) (by kernel_rfl) (e := Extern.MathFloatBits.float64frombits) (by kernel_rfl)]
  rfl

theorem and_high {a t : Nat} (ha : a < 2 ^ 64) (ht : t ≤ 64) : a &&& (2 ^ 64 - 1 - (2 ^ t - 1)) = a / 2 ^ t * 2 ^ t := by
  have hp := Nat.two_pow_pos t
  have hle : 2 ^ t ≤ 2 ^ 64 := Nat.pow_le_pow_right (by decide) ht
  rw [show 2 ^ 64 - 1 - (2 ^ t - 1) = 2 ^ 64 - (2 ^ t - 1 + 1) by omega, ← Nat.shiftRight_eq_div_pow, ← Nat.shiftLeft_eq]
  apply Nat.eq_of_testBit_eq
  intro i
  rw [Nat.testBit_and, Nat.testBit_two_pow_sub_succ (by omega), Nat.testBit_two_pow_sub_one, Nat.testBit_shiftLeft, Nat.testBit_shiftRight]
  by_cases h1 : i < t
  · simp [h1, show ¬ t ≤ i by omega]
  · rw [show t + (i - t) = i by omega]
    by_cases h2 : i < 64
    · simp [h1, h2, show t ≤ i by omega]
    · have : a.testBit i = false := Nat.testBit_lt_two_pow (Nat.lt_of_lt_of_le ha (Nat.pow_le_pow_right (by decide) (by omega)))
      simp [this]

theorem bits_exp {x : Nat} (hx : x < 2 ^ 63) : bits .and .u64 ((x : Int) / 4503599627370496) 2047 = ((x / 2 ^ 52 : Nat) : Int) := by
  have h := bits_and_u64_nat (x / 2 ^ 52) 2047 (by omega) (by omega)
  have e1 : ((x : Int) / 4503599627370496) = ((x / 2 ^ 52 : Nat) : Int) := by omega
  have e2 : (2047 : Int) = ((2047 : Nat) : Int) := rfl
  rw [e1, e2, h, show (2047 : Nat) = 2 ^ 11 - 1 from rfl, Nat.and_two_pow_sub_one_eq_mod]
  omega
theorem bits_sign {x : Nat} (hx : x < 2 ^ 63) : bits .and .u64 (x : Int) 9223372036854775808 = 0 := by
  have h := bits_and_u64_nat x 9223372036854775808 (by omega) (by omega)
  have e2 : (9223372036854775808 : Int) = ((9223372036854775808 : Nat) : Int) := rfl
  have z : x &&& 2 ^ 63 = 0 := by
    apply Nat.eq_of_testBit_eq
    intro i
    rw [Nat.testBit_and, Nat.testBit_two_pow, Nat.zero_testBit]
    by_cases hi : 63 = i
    · subst hi
      rw [Nat.testBit_lt_two_pow hx]
      rfl
    · simp [hi]
  rw [e2, h, show (9223372036854775808 : Nat) = 2 ^ 63 from rfl, z]
  rfl
theorem bits_one : bits .or .u64 0 4607182418800017408 = 4607182418800017408 := by
  have h := bits_or_u64_nat 0 4607182418800017408 (by omega) (by omega)
  rw [Nat.zero_or] at h
  exact h
theorem bits_cut {x e : Nat} (hx : x < 2 ^ 63) (he : x / 2 ^ 52 = e) (h1 : 1023 ≤ e) (h2 : e < 1075) :
    bits .andNot .u64 (IntKind.u64.wrap ((x : Int) + 2251799813685248 / 2 ^ (e - 1023))) (4503599627370495 / 2 ^ (e - 1023)) = ((roundW x : Nat) : Int) := by
  obtain ⟨j, rfl⟩ : ∃ j, e = 1023 + j := ⟨e - 1023, by omega⟩
  obtain ⟨t, ht⟩ : ∃ t, t + j = 51 := ⟨51 - j, by omega⟩
  have ej : 1023 + j - 1023 = j := by omega
  have p1 : (2251799813685248 : Nat) / 2 ^ j = 2 ^ t := by
    rw [show (2251799813685248 : Nat) = 2 ^ t * 2 ^ j from by rw [← Nat.pow_add, ht]]
    exact Nat.mul_div_cancel _ (Nat.two_pow_pos j)
  have p2 : (4503599627370495 : Nat) / 2 ^ j = 2 ^ (t + 1) - 1 := by
    have hj := Nat.two_pow_pos j
    have e : (4503599627370495 : Nat) = (2 ^ (t + 1) - 1) * 2 ^ j + (2 ^ j - 1) := by
      have : 2 ^ (t + 1) * 2 ^ j = 4503599627370496 := by rw [← Nat.pow_add, show t + 1 + j = 52 by omega]
      have h3 := Nat.two_pow_pos (t + 1)
      rw [Nat.sub_mul, Nat.one_mul]
      have h4 : 2 ^ j ≤ 2 ^ (t + 1) * 2 ^ j := Nat.le_mul_of_pos_left _ h3
      omega
    rw [e, Nat.add_comm, Nat.add_mul_div_right _ _ hj, Nat.div_eq_of_lt (by omega), Nat.zero_add]
  have i1 : (2251799813685248 : Int) / 2 ^ j = ((2 ^ t : Nat) : Int) := by
    rw [← p1]; exact (Int.natCast_ediv _ _).symm
  have i2 : (4503599627370495 : Int) / 2 ^ j = ((2 ^ (t + 1) - 1 : Nat) : Int) := by
    rw [← p2]; exact (Int.natCast_ediv _ _).symm
  have tl : 2 ^ t ≤ 2 ^ 51 := Nat.pow_le_pow_right (by decide) (by omega)
  have tl2 : 2 ^ (t + 1) ≤ 2 ^ 52 := Nat.pow_le_pow_right (by decide) (by omega)
  have i3 : IntKind.u64.wrap ((x : Int) + ((2 ^ t : Nat) : Int)) = ((x + 2 ^ t : Nat) : Int) := by
    rw [IntKind.wrap_u64]
    generalize 2 ^ t = u at *
    omega
  rw [ej, i1, i2, i3, u64_andNot_nat _ _ (by omega) (by omega)]
  have hc := and_high (a := x + 2 ^ t) (t := t + 1) (by omega) (by omega)
  rw [show (18446744073709551615 : Nat) = 2 ^ 64 - 1 from rfl, hc]
  unfold roundW
  rw [he, if_neg (by omega), if_pos h2, show 1074 - (1023 + j) = t by omega, show 1075 - (1023 + j) = t + 1 by omega]

theorem hid {p : Prop} (h : p) : Hid p := h

set_option maxRecDepth 100000 in
set_option maxHeartbeats 1600000 in
theorem round_any (x : Nat) (w : World) (hx : x < 2 ^ 63) : Calls Try.prog 73 #[.float .f64 x] w fun e w' => e = .returned (.float .f64 (roundW x)) ∧ w' = w := by
  have hb := bits_of x
  have hf := of_bits
  obtain ⟨e, he⟩ : ∃ e, x / 2 ^ 52 = e := ⟨_, rfl⟩
  have hE := bits_exp hx
  have hS := bits_sign hx
  have hO := bits_one
  rw [he] at hE
  by_cases c1 : e < 1022
  · have hr : Hid (roundW x = 0) := hid (by unfold roundW; rw [he, if_pos (by omega), if_neg (by omega)])
    have i1 : (e : Int) < 1023 := by omega
    have i2 : ((e : Int) == 1022) = false := by simp; omega
    clear hx he c1
    go_enter Try.func73, Try.ntmps73
    go_wp2
    go_ret
    rw [show roundW x = 0 from hr]
    exact ⟨rfl, rfl⟩
  by_cases c2 : e = 1022
  · have hr : Hid (roundW x = 1023 * 2 ^ 52) := hid (by unfold roundW; rw [he, if_pos (by omega), if_pos c2])
    have i1 : (e : Int) < 1023 := by omega
    have i2 : ((e : Int) == 1022) = true := by simp; omega
    clear hx he c1 c2
    go_enter Try.func73, Try.ntmps73
    go_wp2
    go_ret
    rw [show roundW x = 1023 * 2 ^ 52 from hr]
    exact ⟨rfl, rfl⟩
  by_cases c3 : e < 1075
  · have hC := bits_cut hx he (by omega) c3
    have i1 : ¬ (e : Int) < 1023 := by omega
    have i3 : (e : Int) < 1075 := by omega
    generalize roundW x = r at *
    clear hx he c1 c2
    go_enter Try.func73, Try.ntmps73
    go_wp2
    go_ret
    refine ⟨?_, rfl⟩
    first
      | rfl
      | (show Ending.returned (.float .f64 (bits .andNot .u64 _ _).toNat) = _; rw [hC, Int.toNat_natCast])
  · have hr : Hid (roundW x = x) := hid (by unfold roundW; rw [he, if_neg (by omega), if_neg c3])
    have i1 : ¬ (e : Int) < 1023 := by omega
    have i3 : ¬ (e : Int) < 1075 := by omega
    clear hx he c1 c2 c3
    go_enter Try.func73, Try.ntmps73
    go_wp2
    go_ret
    rw [show roundW x = x from hr]
    exact ⟨rfl, rfl⟩

set_option maxRecDepth 100000 in
set_option maxHeartbeats 1600000 in
theorem near_any (n b : Nat) (w : World) (hb0 : b ≠ 0) (hn : n < 2 ^ 40) (hb : b < 2 ^ 40) :
    Calls Try.prog 70 #[.int .i64 (n : Int), .int .i64 (b : Int)] w fun e w' => (∃ q : Nat, e = .returned (.int .i64 (q : Int)) ∧ q * b < n + b ∧ n < q * b + b) ∧ w' = w := by
  obtain ⟨x, q, hq, hx, hi, h1, h2⟩ := guess hb0 hn hb
  have ql : q < 2 ^ 41 := by
    refine Nat.lt_of_le_of_lt (Nat.le_mul_of_pos_right q (Nat.pos_of_ne_zero hb0)) (Nat.lt_trans h1 ?_)
    omega
  have HV : Hid (floatToIntVal .f64 (roundW x) .i64 = some (q : Int)) := hid (by
    unfold floatToIntVal
    rw [hi]
    exact if_pos ⟨by show (-9223372036854775808 : Int) ≤ (q : Int); omega, by show (q : Int) ≤ 9223372036854775807; omega⟩)
  have HX := hid hx
  have H1 := hid h1
  have H2 := hid h2
  have hdiv := fun (W : World) (t : TypeId) => run_float_arith (P := Try.prog) W .quo t .f64 _ _ x hq
  have hcv := fun (W : World) => run_convert_float_int (P := Try.prog) W 83 3 .f64 .i64 (roundW x) (q : Int) (by kernel_rfl) (by kernel_rfl) HV
  have HR := hid (fun W => round_any x W hx)
  clear hq hx hi h1 h2 hn hb hb0 ql
  generalize roundW x = r at *
  go_enter Try.func70, Try.ntmps70
  go_wp2_with fail
  refine ((show ∀ W, _ from HR) _).mono ?_
  rintro e w1 ⟨rfl, rfl⟩
  go_wp2
  go_ret
  exact ⟨⟨q, rfl, H1, H2⟩, rfl⟩

theorem mend_down {n b q : Nat} (h1 : q * b < n + b) (h2 : n < q * b + b) : (n < q * b → (q : Int) - 1 = ((n / b : Nat) : Int)) ∧ (¬ n < q * b → (q : Int) = ((n / b : Nat) : Int)) := by
  have hb : 0 < b := Nat.pos_of_ne_zero (by rintro rfl; omega)
  constructor
  · intro h
    have hq : q ≠ 0 := by rintro rfl; omega
    obtain ⟨p, rfl⟩ : ∃ p, q = p + 1 := ⟨q - 1, by omega⟩
    rw [Nat.add_mul, Nat.one_mul] at h1 h
    have : n / b = p := Nat.div_eq_of_lt_le (by omega) (by rw [Nat.add_mul, Nat.one_mul]; omega)
    omega
  · intro h
    have : n / b = q := Nat.div_eq_of_lt_le (by omega) (by rw [Nat.add_mul, Nat.one_mul]; omega)
    omega
theorem mend_up {n b q : Nat} (h1 : q * b < n + b) (h2 : n < q * b + b) : (q * b < n → (q : Int) + 1 = (((n + b - 1) / b : Nat) : Int)) ∧ (¬ q * b < n → (q : Int) = (((n + b - 1) / b : Nat) : Int)) := by
  have hb : 0 < b := Nat.pos_of_ne_zero (by rintro rfl; omega)
  constructor
  · intro h
    have : (n + b - 1) / b = q + 1 := Nat.div_eq_of_lt_le (by rw [Nat.add_mul, Nat.one_mul]; omega) (by rw [Nat.add_mul, Nat.add_mul, Nat.one_mul]; omega)
    omega
  · intro h
    have : (n + b - 1) / b = q := Nat.div_eq_of_lt_le (by omega) (by rw [Nat.add_mul, Nat.one_mul]; omega)
    omega

set_option maxHeartbeats 1600000 in
theorem down_any (n b r : Nat) (hr : n / b = r) (w : World) (hb0 : b ≠ 0) (hn : n < 2 ^ 40) (hb : b < 2 ^ 40) :
    Calls Try.prog 55 #[.int .i64 (n : Int), .int .i64 (b : Int)] w fun e w' => e = .returned (.int .i64 (r : Int)) ∧ w' = w := by
  have HN := hid (near_any n b w hb0 hn hb)
  clear hb0
  replace hr := hid hr
  go_enter Try.func55, Try.ntmps55
  go_wp2_with fail
  refine (show Calls _ _ _ _ _ from HN).mono ?_
  rintro e w1 ⟨⟨q, rfl, h1, h2⟩, rfl⟩
  have HM := hid (mend_down h1 h2)
  rw [show _ = r from hr] at HM
  clear hr
  have hqb : ((q : Int) * (b : Int)) = ((q * b : Nat) : Int) := by rw [Int.natCast_mul]
  have l1 : q * b < 2 ^ 41 := by omega
  have lq : q < 2 ^ 41 := by
    have hb : 0 < b := Nat.pos_of_ne_zero (by rintro rfl; omega)
    exact Nat.lt_of_le_of_lt (Nat.le_mul_of_pos_right q hb) l1
  generalize q * b = y at *
  have hwy : IntKind.i64.wrap (y : Int) = (y : Int) := by rw [IntKind.wrap_i64]; omega
  by_cases c : n < y
  · have HR := hid ((show _ ∧ _ from HM).1 c)
    have ci : (n : Int) < (y : Int) := by omega
    have hw : IntKind.i64.wrap ((q : Int) - 1) = (q : Int) - 1 := by rw [IntKind.wrap_i64]; omega
    go_wp2
    go_ret
    exact ⟨congrArg (fun z => Ending.returned (.int .i64 z)) HR, rfl⟩
  · have HR := hid ((show _ ∧ _ from HM).2 c)
    have ci : ¬ (n : Int) < (y : Int) := by omega
    go_wp2
    go_ret
    exact ⟨congrArg (fun z => Ending.returned (.int .i64 z)) HR, rfl⟩

set_option maxHeartbeats 1600000 in
theorem up_any (n b r : Nat) (hr : (n + b - 1) / b = r) (w : World) (hb0 : b ≠ 0) (hn : n < 2 ^ 40) (hb : b < 2 ^ 40) :
    Calls Try.prog 68 #[.int .i64 (n : Int), .int .i64 (b : Int)] w fun e w' => e = .returned (.int .i64 (r : Int)) ∧ w' = w := by
  have HN := hid (near_any n b w hb0 hn hb)
  clear hb0
  replace hr := hid hr
  go_enter Try.func68, Try.ntmps68
  go_wp2_with fail
  refine (show Calls _ _ _ _ _ from HN).mono ?_
  rintro e w1 ⟨⟨q, rfl, h1, h2⟩, rfl⟩
  have HM := hid (mend_up h1 h2)
  rw [show _ = r from hr] at HM
  clear hr
  have hqb : ((q : Int) * (b : Int)) = ((q * b : Nat) : Int) := by rw [Int.natCast_mul]
  have l1 : q * b < 2 ^ 41 := by omega
  have lq : q < 2 ^ 41 := by
    have hb : 0 < b := Nat.pos_of_ne_zero (by rintro rfl; omega)
    exact Nat.lt_of_le_of_lt (Nat.le_mul_of_pos_right q hb) l1
  generalize q * b = y at *
  have hwy : IntKind.i64.wrap (y : Int) = (y : Int) := by rw [IntKind.wrap_i64]; omega
  by_cases c : y < n
  · have HR := hid ((show _ ∧ _ from HM).1 c)
    have ci : (y : Int) < (n : Int) := by omega
    have hw : IntKind.i64.wrap ((q : Int) + 1) = (q : Int) + 1 := by rw [IntKind.wrap_i64]; omega
    go_wp2
    go_ret
    exact ⟨congrArg (fun z => Ending.returned (.int .i64 z)) HR, rfl⟩
  · have HR := hid ((show _ ∧ _ from HM).2 c)
    have ci : ¬ (y : Int) < (n : Int) := by omega
    go_wp2
    go_ret
    exact ⟨congrArg (fun z => Ending.returned (.int .i64 z)) HR, rfl⟩

end Go.Proofs.Ytgcbofhjgomjoaa
