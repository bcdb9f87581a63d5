import Derived.Test.YtdigphemaccodaaRows
import Derived.WalkKit
import Derived.WalkSpells
import Derived.KernelRfl
import Derived.Lib.SmallJoins
import Derived.Test.YtdigphemaccodaaPart1
import Derived.Test.YtdigphemaccodaaPart2
import Derived.Test.YtdigphemaccodaaPart4
import Derived.Test.YtdigphemaccodaaPart3
import Derived.BigQuiet
import Derived.Deep.QuietTactic
import Derived.Deep.RegionWith
import Derived.Deep.RegionHeld3
import Derived.Deep.CutRange
import Derived.Deep.RegionLawGrows

/- Plain words of the clocks, and contracts of their tests: within, hourOK, configInBounds, l01In, l03Bounds. -/
namespace Go.Proofs.Ytdigphemaccodaa
open Go.RowKit
set_option linter.unusedVariables false
set_option maxRecDepth 100000

theorem hidB {p : Prop} (h : p) : Hid p := h
theorem frB {a b c : World} (h : Below a.heap.size a b) (k : Below b.heap.size b c) : Below a.heap.size a c := h.trans (k.mono h.size)
/-- A number within bounds. -/
def betw (n low high : Int) : Bool := decide (low ≤ n) && decide (n ≤ high)
theorem betw_yes {n low high : Int} (h : low ≤ n) (h' : n ≤ high) : betw n low high = true := by simp [betw, h, h']
theorem betw_no {n low high : Int} (h : ¬ (low ≤ n ∧ n ≤ high)) : betw n low high = false := by simp only [betw, Bool.and_eq_false_iff, decide_eq_false_iff_not]; omega
theorem betw_iff {n low high : Int} : betw n low high = true ↔ low ≤ n ∧ n ≤ high := by simp [betw]
/-- A configuration within its bounds. -/
def cfgB (f d l r : Int) : Bool := betw f 1 10000 && betw d 1 100000 && betw l 0 1000 && betw r 0 500
theorem cfgB_iff {f d l r : Int} : cfgB f d l r = true ↔ (1 ≤ f ∧ f ≤ 10000) ∧ (1 ≤ d ∧ d ≤ 100000) ∧ (0 ≤ l ∧ l ≤ 1000) ∧ 0 ≤ r ∧ r ≤ 500 := by
  simp only [cfgB, Bool.and_eq_true, betw_iff, and_assoc]
/-- The bounds of true time. -/
def latQ (r x : Int) : Int := ((x + 1) * 1000 + 999 - r) / (1000 - r)
def earQ (r x : Int) : Int := (x - 1) * 1000 / (1000 + r)
def locQ (o r t : Int) : Int := o + t * (1000 + r) / 1000
abbrev cfgV (f d l r : Int) : Value := .agg #[.int .i64 f, .int .i64 d, .int .i64 l, .int .i64 r]
abbrev clkV (o r : Int) : Value := .agg #[.int .i64 o, .int .i64 r]

/-- A configuration in a variable. -/
abbrev Four (w : World) (b : Nat) (f d l r : Int) : Prop := w.cell? ⟨b, 0, none⟩ = some (.int .i64 f) ∧ w.cell? ⟨b, 1, none⟩ = some (.int .i64 d) ∧ w.cell? ⟨b, 2, none⟩ = some (.int .i64 l) ∧ w.cell? ⟨b, 3, none⟩ = some (.int .i64 r)
theorem Four.below {w w' : World} {b : Nat} {f d l r : Int} (h : Four w b f d l r) (hb : Below w.heap.size w w') : Four w' b f d l r :=
  ⟨(hb.cell (World.block_lt_of_cell? _ _ h.1)).trans h.1, (hb.cell (World.block_lt_of_cell? _ _ h.2.1)).trans h.2.1, (hb.cell (World.block_lt_of_cell? _ _ h.2.2.1)).trans h.2.2.1, (hb.cell (World.block_lt_of_cell? _ _ h.2.2.2)).trans h.2.2.2⟩
set_option maxHeartbeats 800000 in
theorem within_any (n low high : Int) (w : World) : Calls Try.prog 45 #[.int .i64 n, .int .i64 low, .int .i64 high] w fun e w' => e = .returned (.bool (betw n low high)) ∧ w' = w := by
  by_cases h1 : low ≤ n
  · by_cases h2 : n ≤ high
    · have hr := hidB (betw_yes h1 h2)
      go_enter Try.func45, Try.ntmps45
      go_wp2
      go_ret
      rw [show betw n low high = true from hr]
      exact ⟨rfl, rfl⟩
    · have hr := hidB (betw_no (n := n) (low := low) (high := high) (by omega))
      go_enter Try.func45, Try.ntmps45
      go_wp2
      go_ret
      rw [show betw n low high = false from hr]
      exact ⟨rfl, rfl⟩
  · have hr := hidB (betw_no (n := n) (low := low) (high := high) (by omega))
    go_enter Try.func45, Try.ntmps45
    go_wp2
    go_ret
    rw [show betw n low high = false from hr]
    exact ⟨rfl, rfl⟩
set_option maxHeartbeats 800000 in
theorem in_any (n low high : Int) (w : World) : Calls Try.prog 48 #[.int .i64 n, .int .i64 low, .int .i64 high] w fun e w' => e = .returned (.bool (betw n low high)) ∧ w' = w := by
  by_cases h1 : low ≤ n
  · by_cases h2 : n ≤ high
    · have hr := hidB (betw_yes h1 h2)
      go_enter Try.func48, Try.ntmps48
      go_wp2
      go_ret
      rw [show betw n low high = true from hr]
      exact ⟨rfl, rfl⟩
    · have hr := hidB (betw_no (n := n) (low := low) (high := high) (by omega))
      go_enter Try.func48, Try.ntmps48
      go_wp2
      go_ret
      rw [show betw n low high = false from hr]
      exact ⟨rfl, rfl⟩
  · have hr := hidB (betw_no (n := n) (low := low) (high := high) (by omega))
    go_enter Try.func48, Try.ntmps48
    go_wp2
    go_ret
    rw [show betw n low high = false from hr]
    exact ⟨rfl, rfl⟩

theorem cfg_1 {f d l r : Int} (h : betw f 1 10000 = false) : cfgB f d l r = false := by simp [cfgB, h]
theorem cfg_2 {f d l r : Int} (h : betw d 1 100000 = false) : cfgB f d l r = false := by simp [cfgB, h]
theorem cfg_3 {f d l r : Int} (h : betw l 0 1000 = false) : cfgB f d l r = false := by simp [cfgB, h]
theorem cfg_4 {f d l r : Int} (h1 : betw f 1 10000 = true) (h2 : betw d 1 100000 = true) (h3 : betw l 0 1000 = true) : cfgB f d l r = betw r 0 500 := by simp [cfgB, h1, h2, h3]

end Go.Proofs.Ytdigphemaccodaa

/- Contracts of the program's blocks: verOK, BlockOK. -/
namespace Go.Proofs.Ytdigphemaccodaa
open Go.RowKit
set_option linter.unusedVariables false
set_option maxRecDepth 100000

theorem verOK_any (n : Int) (w : World) : Calls Try.prog 39 #[.int .i64 n] w fun e w' => e = .returned (.bool (inB n 0 1000000)) ∧ w' = w := by
  go_enter Try.func39, Try.ntmps39
  go_wp2_with fail
  refine (within_any n 0 1000000 _).mono ?_
  rintro e w1 ⟨rfl, rfl⟩
  go_wp2
  go_ret
  exact ⟨rfl, rfl⟩
theorem within_in (n low high : Int) (w : World) : Calls Try.prog 45 #[.int .i64 n, .int .i64 low, .int .i64 high] w fun e w' => e = .returned (.bool (inB n low high)) ∧ w' = w := within_any n low high w

set_option maxHeartbeats 1600000 in
theorem blockOK_impl (x : Bk) (w : World) : Calls Try.prog 20 #[bV x] w fun e w' => e = .returned (.bool (bkB x)) ∧ Below w.heap.size w w' := by
  go_enter Try.func20, Try.ntmps20
  go_wp2_with fail
  refine (verOK_any x.ver _).mono ?_
  rintro e w1 ⟨rfl, rfl⟩
  by_cases h1 : inB x.ver 0 1000000 = false
  · have hr := hide (bkB_1 h1)
    go_wp2
    go_ret
    rw [unhide hr]
    exact ⟨rfl, Joins.below_alloc1 _ _⟩
  rw [Bool.not_eq_false] at h1
  go_wp2_with fail
  refine (within_in x.mbal 0 1000000 _).mono ?_
  rintro e w1 ⟨rfl, rfl⟩
  by_cases h2 : inB x.mbal 0 1000000 = false
  · have hr := hide (bkB_2 h2)
    go_wp2
    go_ret
    rw [unhide hr]
    exact ⟨rfl, Joins.below_alloc1 _ _⟩
  rw [Bool.not_eq_false] at h2
  go_wp2_with fail
  refine (within_in x.bal 0 x.mbal _).mono ?_
  rintro e w1 ⟨rfl, rfl⟩
  by_cases h3 : inB x.bal 0 x.mbal = false
  · have hr := hide (bkB_3 h3)
    go_wp2
    go_ret
    rw [unhide hr]
    exact ⟨rfl, Joins.below_alloc1 _ _⟩
  rw [Bool.not_eq_false] at h3
  go_wp2_with fail
  refine (isNumber_any x.inp _).mono ?_
  rintro e w1 ⟨rfl, rfl⟩
  by_cases h4 : numB x.inp = false
  · have hr := hide (bkB_4 h4)
    go_wp2
    go_ret
    rw [unhide hr]
    exact ⟨rfl, Joins.below_alloc1 _ _⟩
  rw [Bool.not_eq_false] at h4
  have hr := hide (bkB_5 h1 h2 h3 h4)
  clear h1 h2 h3
  by_cases h5 : 0 < x.bal
  · have hv : Hid (bkB x = true) := hide (by rw [unhide hr]; simp [h5])
    go_wp2
    go_ret
    rw [unhide hv]
    exact ⟨rfl, Joins.below_alloc1 _ _⟩
  · have hv : Hid (bkB x = decide (x.inp = 0)) := hide (by rw [unhide hr]; simp [h5])
    go_wp2
    go_ret
    rw [unhide hv]
    exact ⟨ret_bool (by rw [Bool.eq_iff_iff]; simp <;> omega), Joins.below_alloc1 _ _⟩

end Go.Proofs.Ytdigphemaccodaa

/- Contracts of the program's ballotOK, PxOK, PxStart. -/
namespace Go.Proofs.Ytdigphemaccodaa
open Go.RowKit
set_option linter.unusedVariables false
set_option maxRecDepth 100000

set_option maxHeartbeats 3200000 in
theorem ballotOK_any (b h : Int) (w : World) : Calls Try.prog 46 #[.int .i64 b, .int .i64 h] w fun e w' => e = .returned (.bool (baB b h)) ∧ w' = w := by
  go_enter Try.func46, Try.ntmps46
  go_wp2_with fail
  refine (within_in b 1 1000000 _).mono ?_
  rintro e w1 ⟨rfl, rfl⟩
  by_cases h1 : inB b 1 1000000 = false
  · have hr : Hid (baB b h = false) := hide (by simp [baB, h1])
    go_wp2
    go_ret
    rw [unhide hr]
    exact ⟨rfl, rfl⟩
  rw [Bool.not_eq_false] at h1
  have hm := ball_mod h1
  have hr : Hid (baB b h = decide (b % 4 = h)) := hide (by simp [baB, h1])
  go_wp2
  go_ret
  rw [unhide hr]
  exact ⟨ret_bool (by rw [Bool.eq_iff_iff]; simp), rfl⟩

set_option maxHeartbeats 3200000 in
theorem pxOK_impl (p : Pxs) (w : World) : Calls Try.prog 19 #[pV p] w fun e w' => e = .returned (.bool (pxB p)) ∧ Below w.heap.size w w' := by
  go_enter Try.func19, Try.ntmps19
  go_wp2_with fail
  refine (hostOK_any p.host _).mono ?_
  rintro e w1 ⟨rfl, rfl⟩
  by_cases h1 : inB p.host 0 3 = false
  · have hr := hide (pxB_1 h1)
    go_wp2
    go_ret
    rw [unhide hr]
    exact ⟨rfl, Joins.below_alloc1 _ _⟩
  rw [Bool.not_eq_false] at h1
  go_wp2_with fail
  refine (verOK_any p.ver _).mono ?_
  rintro e w1 ⟨rfl, rfl⟩
  by_cases h2 : inB p.ver 0 1000000 = false
  · have hr := hide (pxB_2 h2)
    go_wp2
    go_ret
    rw [unhide hr]
    exact ⟨rfl, Joins.below_alloc1 _ _⟩
  rw [Bool.not_eq_false] at h2
  go_wp2_with fail
  refine (within_in p.phase 1 6 _).mono ?_
  rintro e w1 ⟨rfl, rfl⟩
  by_cases h3 : inB p.phase 1 6 = false
  · have hr := hide (pxB_3 h3)
    go_wp2
    go_ret
    rw [unhide hr]
    exact ⟨rfl, Joins.below_alloc1 _ _⟩
  rw [Bool.not_eq_false] at h3
  go_wp2_with fail
  refine (ballotOK_any p.ballot p.host _).mono ?_
  rintro e w1 ⟨rfl, rfl⟩
  by_cases h4 : baB p.ballot p.host = false
  · have hr := hide (pxB_ba h4)
    go_wp2
    go_ret
    rw [unhide hr]
    exact ⟨rfl, Joins.below_alloc1 _ _⟩
  rw [Bool.not_eq_false] at h4
  go_wp2_with fail
  refine (isNumber_any p.value _).mono ?_
  rintro e w1 ⟨rfl, rfl⟩
  by_cases h6 : numB p.value = false
  · have hr := hide (pxB_6 h6)
    go_wp2
    go_ret
    rw [unhide hr]
    exact ⟨rfl, Joins.below_alloc1 _ _⟩
  rw [Bool.not_eq_false] at h6
  go_wp2_with fail
  refine (within_in p.next 0 4 _).mono ?_
  rintro e w1 ⟨rfl, rfl⟩
  by_cases h7 : inB p.next 0 4 = false
  · have hr := hide (pxB_7 h7)
    go_wp2
    go_ret
    rw [unhide hr]
    exact ⟨rfl, Joins.below_alloc1 _ _⟩
  rw [Bool.not_eq_false] at h7
  go_wp2_with fail
  refine (isNumber_any p.best _).mono ?_
  rintro e w1 ⟨rfl, rfl⟩
  by_cases h8 : numB p.best = false
  · have hr := hide (pxB_8 h8)
    go_wp2
    go_ret
    rw [unhide hr]
    exact ⟨rfl, Joins.below_alloc1 _ _⟩
  rw [Bool.not_eq_false] at h8
  have hr := hide (pxB_9b h1 h2 h3 h4 h6 h7 h8)
  go_wp2_with fail
  refine (within_in p.bestBal 0 1000000 _).mono ?_
  rintro e w1 ⟨rfl, rfl⟩
  go_wp2
  go_ret
  rw [unhide hr]
  exact ⟨rfl, Joins.below_alloc1 _ _⟩

set_option maxHeartbeats 3200000 in
theorem pxStart_impl (h v b x : Int) (w : World) : Calls Try.prog 21 #[.int .i64 h, .int .i64 v, .int .i64 b, .int .i64 x] w fun e w' => e = .returned (.tuple #[pV (psP h v b x), .int .i64 (psC h v b x)]) ∧ Below w.heap.size w w' := by
  have HV := hide (VarP.new0 w 33)
  have HV2 : Hid (VarP ((w.alloc (.cells #[.int .i64 0, .int .i64 0, .int .i64 0, .int .i64 0, .int .i64 0, .int .i64 0, .int .i64 0, .int .i64 0] 33)).alloc (.cells #[.int .i64 h, .int .i64 v, .int .i64 1, .int .i64 b, .int .i64 x, .int .i64 0, .int .i64 0, .int .i64 0] 33)) (w.heap.size + 1) 33 (ps0 h v b x)) := hide (by
    have := VarP.new (w.alloc (.cells #[.int .i64 0, .int .i64 0, .int .i64 0, .int .i64 0, .int .i64 0, .int .i64 0, .int .i64 0, .int .i64 0] 33)) 33 (ps0 h v b x)
    simp only [World.size_alloc] at this
    exact this)
  have HB := hide (Joins.below_alloc2 w (.cells #[.int .i64 0, .int .i64 0, .int .i64 0, .int .i64 0, .int .i64 0, .int .i64 0, .int .i64 0, .int .i64 0] 33) (.cells #[.int .i64 h, .int .i64 v, .int .i64 1, .int .i64 b, .int .i64 x, .int .i64 0, .int .i64 0, .int .i64 0] 33))
  go_enter Try.func21, Try.ntmps21
  go_wp2_with fail
  refine (pxOK_impl (ps0 h v b x) _).mono ?_
  rintro e w1 ⟨rfl, hb⟩
  obtain ⟨c0, c1, c2, c3, c4, c5, c6, c7⟩ := ((unhide HV2).below hb).cells
  obtain ⟨d0, d1, d2, d3, d4, d5, d6, d7⟩ := (((unhide HV).below (Joins.below_alloc1 _ _)).below hb).cells
  obtain ⟨f0, f1, f2, f3, f4, f5, f6, f7⟩ := (((unhide HV).below (Joins.below_alloc1 _ _)).below hb).free
  have HB1 := hide (fun u0 u1 u2 u3 u4 u5 u6 u7 => below8 (fr (unhide HB) hb) (Nat.le_refl _) u0 u1 u2 u3 u4 u5 u6 u7)
  clear hb
  by_cases hd : pxB (ps0 h v b x) = true
  · have HE : Hid (psP h v b x = ps0 h v b x ∧ psC h v b x = 0) := hide ⟨if_pos hd, if_pos hd⟩
    go_wp2
    refine bodyPost_ret (v := .tuple #[pV (ps0 h v b x), .int .i64 0]) (by simp [results, Try.results21, go_sem, d0, d1, d2, d3, d4, d5, d6, d7, ps0]) rfl ⟨?_, unhide HB1 _ _ _ _ _ _ _ _⟩
    exact ret_pi (unhide HE).1.symm (unhide HE).2.symm
  · have HE : Hid (psP h v b x = p00 ∧ psC h v b x = 4) := hide ⟨if_neg hd, if_neg hd⟩
    rw [Bool.not_eq_true] at hd
    go_wp2
    refine bodyPost_ret (v := .tuple #[pV p00, .int .i64 4]) (by simp [results, Try.results21, go_sem, d0, d1, d2, d3, d4, d5, d6, d7, p00]) rfl ⟨?_, unhide HB1 _ _ _ _ _ _ _ _⟩
    exact ret_pi (unhide HE).1.symm (unhide HE).2.symm

end Go.Proofs.Ytdigphemaccodaa

/- Contracts of spec's blocks: BlockOK, l05Encode, EncodeBlock, l05Decode, DecodeBlock, l05Of. -/
namespace Go.Proofs.Ytdigphemaccodaa
open Go.RowKit
set_option linter.unusedVariables false
set_option maxRecDepth 100000

set_option maxHeartbeats 1600000 in
theorem blockOK_spec (x : Bk) (w : World) : Calls Try.prog 22 #[bV x] w fun e w' => e = .returned (.bool (bkB x)) ∧ Below w.heap.size w w' := by
  go_enter Try.func22, Try.ntmps22
  go_wp2_with fail
  refine (l01In_num x.ver 0 1000000 _).mono ?_
  rintro e w1 ⟨rfl, rfl⟩
  by_cases h1 : inB x.ver 0 1000000 = false
  · have hr := hide (bkB_1 h1)
    go_wp2
    go_ret
    rw [unhide hr]
    exact ⟨rfl, Joins.below_alloc1 _ _⟩
  rw [Bool.not_eq_false] at h1
  go_wp2_with fail
  refine (l01In_num x.mbal 0 1000000 _).mono ?_
  rintro e w1 ⟨rfl, rfl⟩
  by_cases h2 : inB x.mbal 0 1000000 = false
  · have hr := hide (bkB_2 h2)
    go_wp2
    go_ret
    rw [unhide hr]
    exact ⟨rfl, Joins.below_alloc1 _ _⟩
  rw [Bool.not_eq_false] at h2
  go_wp2_with fail
  refine (l01In_num x.bal 0 x.mbal _).mono ?_
  rintro e w1 ⟨rfl, rfl⟩
  by_cases h3 : inB x.bal 0 x.mbal = false
  · have hr := hide (bkB_3 h3)
    go_wp2
    go_ret
    rw [unhide hr]
    exact ⟨rfl, Joins.below_alloc1 _ _⟩
  rw [Bool.not_eq_false] at h3
  go_wp2_with fail
  refine (l01In_num x.inp 0 2147483647 _).mono ?_
  rintro e w1 ⟨rfl, rfl⟩
  by_cases h4 : inB x.inp 0 2147483647 = false
  · have hr := hide (bkB_4 h4)
    go_wp2
    go_ret
    rw [unhide hr]
    exact ⟨rfl, Joins.below_alloc1 _ _⟩
  rw [Bool.not_eq_false] at h4
  have hr := hide (bkB_5 h1 h2 h3 h4)
  clear h1 h2 h3
  by_cases h5 : 0 < x.bal
  · have hv : Hid (bkB x = true) := hide (by rw [unhide hr]; simp [h5])
    go_wp2
    go_ret
    rw [unhide hv]
    exact ⟨rfl, Joins.below_alloc1 _ _⟩
  · have hv : Hid (bkB x = decide (x.inp = 0)) := hide (by rw [unhide hr]; simp [h5])
    go_wp2
    go_ret
    rw [unhide hv]
    exact ⟨ret_bool (by rw [Bool.eq_iff_iff]; simp <;> omega), Joins.below_alloc1 _ _⟩

set_option maxHeartbeats 1600000 in
theorem l05Encode_bk (x : Bk) (w : World) (hd : bkB x = true) : Calls Try.prog 49 #[bV x] w fun e w' => e = .returned (.string (encB x)) ∧ Below w.heap.size w w' := by
  have HD := hide (b4_nums hd)
  clear hd
  go_enter Try.func49, Try.ntmps49
  go_wp2_with fail
  refine (l02Seal_any 5 _ 4 [x.ver, x.mbal, x.bal, x.inp] _ (by decide) (by simp) (unhide HD) (is4 _ _ _ _ _ _ _ (by simp))).mono ?_
  rintro e w1 ⟨rfl, hb⟩
  have HB := hide hb
  clear hb
  go_wp2
  go_ret
  exact ⟨rfl, fr (Joins.below_alloc2 _ _ _) (unhide HB)⟩

set_option maxHeartbeats 1600000 in
theorem encodeBlock_spec (x : Bk) (w : World) : Calls Try.prog 24 #[bV x] w fun e w' => e = .returned (.tuple #[.string (ebR x), .int .i64 (ebC x)]) ∧ Below w.heap.size w w' := by
  go_enter Try.func24, Try.ntmps24
  go_wp2_with fail
  refine (blockOK_spec x _).mono ?_
  rintro e w1 ⟨rfl, hb⟩
  have HB := hide hb
  obtain ⟨hc0, hc1, hc2, hc3⟩ := ((VarB.new w 42 x).below hb).cells
  clear hb
  by_cases hd : bkB x = true
  · have HE : Hid (ebR x = encB x ∧ ebC x = 0) := hide ⟨if_pos hd, if_pos hd⟩
    have HD := hide hd
    go_wp2_with fail
    refine (l05Encode_bk x _ (unhide HD)).mono ?_
    rintro e w2 ⟨rfl, hb⟩
    have HB2 := hide hb
    clear hb
    go_wp2
    go_ret2
    exact ⟨ret_se (unhide HE).1.symm (unhide HE).2.symm, fr (fr (Joins.below_alloc1 _ _) (unhide HB)) (unhide HB2)⟩
  · have HE : Hid (ebR x = ⟨#[]⟩ ∧ ebC x = 1) := hide ⟨if_neg hd, if_neg hd⟩
    rw [Bool.not_eq_true] at hd
    go_wp2
    go_ret2
    exact ⟨ret_se (unhide HE).1.symm (unhide HE).2.symm, fr (Joins.below_alloc1 _ _) (unhide HB)⟩

end Go.Proofs.Ytdigphemaccodaa

/- Contracts of loops over blocks: spec's l05Blocks, l05Next; the program's asOf, blocksFault, greatestBegun. -/
namespace Go.Proofs.Ytdigphemaccodaa
open Go.RowKit
set_option linter.unusedVariables false
set_option maxRecDepth 100000

theorem fieldB1 (x : Bk) (W : World) : (Instr.field 42 (bV x) 1).run Try.prog W = .ok (.int .i64 x.mbal) W := by kernel_rfl

set_option maxHeartbeats 1600000 in
theorem l05Blocks_any (ao : Option Addr) (cap : Nat) (xs : List Bk) (w : World) (hl : xs.length ≤ 1048576) (hc : Bks w ao xs) :
    Calls Try.prog 44 #[.slice ao xs.length cap] w fun e w' => e = .returned (.bool (bksB xs)) ∧ Below w.heap.size w w' := by
  have HC := hide hc
  clear hc
  go_enter Try.func44, Try.ntmps44
  go_wp2
  go_loopw [3] (fun i wr => ∃ k : Nat, k ≤ xs.length ∧ i = .int .i64 k ∧ Hid (∀ j (h : j < xs.length), j < k → bkB xs[j] = true) ∧ Hid (Below w.heap.size w wr)) (fun i _ => xs.length - (intOf i).toNat)
  case atStart => exact ⟨0, Nat.zero_le _, rfl, hide (fun j _ h => by omega), hide (Below.refl _ _)⟩
  case round =>
    obtain ⟨k, hk, rfl, HA, HB⟩ := hrel
    by_cases hlt : k < xs.length
    · obtain ⟨b, off, rfl, c0, c1, c2, c3⟩ := (unhide HC).below (unhide HB) k hlt
      by_cases hn : bkB xs[k] = true
      · have HN := hide (all_succ (p := bkB) hlt (unhide HA) hn)
        go_wp2_with fail
        refine (blockOK_spec xs[k] _).mono ?_
        rintro e w1 ⟨rfl, hb⟩
        have HB1 := hide (fr (unhide HB) hb)
        clear hb
        go_wp2_with fail
        go_roundw
        case rel => exact ⟨k + 1, by omega, by go_num, HN, HB1⟩
        case measure => simp [intOf]; omega
      · have hn' : bkB xs[k] = false := by simpa using hn
        have HF := hide (bksB_false_at hlt hn')
        clear hn
        go_wp2_with fail
        refine (blockOK_spec xs[k] _).mono ?_
        rintro e w1 ⟨rfl, hb⟩
        have HB1 := hide (fr (unhide HB) hb)
        clear hb
        go_wp2
        go_ret
        exact ⟨ret_bool (unhide HF).symm, unhide HB1⟩
    · have HF := hide (bksB_len (xs := xs) (fun j h => unhide HA j h (by omega)))
      go_wp2
      go_ret
      exact ⟨ret_bool (by rw [unhide HF, Bool.eq_iff_iff]; simp; omega), unhide HB⟩

end Go.Proofs.Ytdigphemaccodaa

/- Contracts of the next ballot: spec's l05Next, NextBallot; the program's asOf, blocksFault, greatestBegun, NextBallot. -/
namespace Go.Proofs.Ytdigphemaccodaa
open Go.RowKit
set_option linter.unusedVariables false
set_option maxRecDepth 100000

theorem max_le {n m : Int} (h : m ≤ n) : max n m = n := by omega
theorem max_gt {n m : Int} (h : ¬ m ≤ n) : max n m = m := by omega

set_option maxHeartbeats 1600000 in
theorem l05Next_any (h v : Int) (ao : Option Addr) (n cap : Nat) (xs : List Bk) (w : World) (hn : xs.length = n) (hl : n ≤ 1048576) (hh : 0 ≤ h ∧ h ≤ 3) (hm : ∀ i (hi : i < xs.length), xs[i].mbal ≤ 1000000000) (hc : Bks w ao xs) :
    Calls Try.prog 33 #[.int .i64 h, .int .i64 v, .slice ao n cap] w fun e w' => e = .returned (.int .i64 (nxBal h v xs)) ∧ Below w.heap.size w w' := by
  have HC := hide hc
  have HM := hide hm
  clear hc hm
  subst hn
  go_enter Try.func33, Try.ntmps33
  go_wp2
  go_loopw [7, 8] (fun c i wr => ∃ k : Nat, ∃ n : Int, k ≤ xs.length ∧ i = .int .i64 k ∧ c = .int .i64 n ∧ (0 ≤ n ∧ n ≤ 1000000000) ∧ Hid (nxMax v (xs.drop k) n = nxMax v xs 0) ∧ Hid (Below w.heap.size w wr)) (fun _ i _ => xs.length - (intOf i).toNat)
  case atStart => exact ⟨0, 0, Nat.zero_le _, rfl, rfl, by omega, hide rfl, hide (Below.refl _ _)⟩
  case round =>
    obtain ⟨k, n, hk, rfl, rfl, hn, HA, HB⟩ := hrel
    by_cases hlt : k < xs.length
    · obtain ⟨b, off, rfl, c0, c1, c2, c3⟩ := (unhide HC).below (unhide HB) k hlt
      have hf := fieldB1 (bkOf xs[k] v)
      have HN := hide ((nxMax_drop (v := v) hlt n).symm.trans (unhide HA))
      have hmb := bkOf_mbal xs[k] v
      have hm1 := unhide HM k hlt
      go_wp2_with fail
      refine (l05Of_any xs[k] v _).mono ?_
      rintro e w1 ⟨rfl, hb⟩
      have HB1 := hide (fr (unhide HB) hb)
      clear hb
      by_cases hx : (bkOf xs[k] v).mbal ≤ n
      · have HX : Hid (nxMax v (xs.drop (k + 1)) n = nxMax v xs 0) := hide (by rw [← unhide HN, max_le hx])
        go_wp2_with fail
        go_roundw
        case rel => exact ⟨k + 1, n, by omega, by go_num, by first | rfl | (rw [max_le hx]), hn, HX, HB1⟩
        case measure => simp [intOf]; omega
      · have HX : Hid (nxMax v (xs.drop (k + 1)) (bkOf xs[k] v).mbal = nxMax v xs 0) := hide (by rw [← unhide HN, max_gt hx])
        go_wp2_with fail
        go_roundw
        case rel => exact ⟨k + 1, (bkOf xs[k] v).mbal, by omega, by go_num, by first | rfl | (rw [max_gt hx]), by omega, HX, HB1⟩
        case measure => simp [intOf]; omega
    · have HF : Hid (nxBal h v xs = (Int.tdiv n 4 + 1) * 4 + h) := hide (by rw [nxBal, ← unhide HA, nxMax_done hlt])
      have hq : 0 ≤ Int.tdiv n 4 ∧ Int.tdiv n 4 ≤ 1000000000 := by rw [Int.tdiv_eq_ediv_of_nonneg hn.1]; omega
      have w1 : IntKind.i64.wrap (Int.tdiv n 4 + 1) = Int.tdiv n 4 + 1 := by rw [IntKind.wrap_i64]; omega
      have w2 : IntKind.i64.wrap ((Int.tdiv n 4 + 1) * 4) = (Int.tdiv n 4 + 1) * 4 := by rw [IntKind.wrap_i64]; omega
      have w3 : IntKind.i64.wrap ((Int.tdiv n 4 + 1) * 4 + h) = (Int.tdiv n 4 + 1) * 4 + h := by rw [IntKind.wrap_i64]; omega
      go_wp2
      go_ret
      exact ⟨ret_int (unhide HF).symm, unhide HB⟩

set_option maxHeartbeats 1600000 in
theorem asOf_any (x : Bk) (v : Int) (w : World) : Calls Try.prog 59 #[bV x, .int .i64 v] w fun e w' => e = .returned (bV (bkOf x v)) ∧ Below w.heap.size w w' := by
  by_cases h : x.ver < v
  · rw [show bkOf x v = ⟨v, 0, 0, 0⟩ from if_pos h]
    go_enter Try.func59, Try.ntmps59
    go_wp2
    exact bodyPost_ret (v := bV ⟨v, 0, 0, 0⟩) (by simp [results, Try.results59, go_sem]) rfl ⟨rfl, Joins.below_alloc2 _ _ _⟩
  · rw [show bkOf x v = x from if_neg h]
    go_enter Try.func59, Try.ntmps59
    go_wp2
    exact bodyPost_ret (v := bV x) (by simp [results, Try.results59, go_sem]) rfl ⟨rfl, Joins.below_alloc2 _ _ _⟩

set_option maxHeartbeats 1600000 in
theorem blocksFault_any (ao : Option Addr) (cap : Nat) (xs : List Bk) (w : World) (hl : xs.length ≤ 1048576) (hc : Bks w ao xs) :
    Calls Try.prog 37 #[.slice ao xs.length cap] w fun e w' => e = .returned (.int .i64 (bfC xs)) ∧ Below w.heap.size w w' := by
  have HC := hide hc
  clear hc
  by_cases h1 : 4096 < xs.length
  · have HE := hide (bfC_long h1)
    go_enter Try.func37, Try.ntmps37
    go_wp2
    go_ret
    exact ⟨ret_int (unhide HE).symm, Below.refl _ _⟩
  by_cases h4 : ¬ xs.length = 4
  · have HE := hide (bfC_bad h1 (bksB_false_len h4))
    have hb : ((xs.length : Int) != 4) = true := by simp; omega
    go_enter Try.func37, Try.ntmps37
    go_wp2
    go_ret
    exact ⟨ret_int (unhide HE).symm, Below.refl _ _⟩
  rw [Decidable.not_not] at h4
  have hb : ((xs.length : Int) != 4) = false := by simp; omega
  have H4 := hide h4
  clear h4
  go_enter Try.func37, Try.ntmps37
  go_wp2
  go_loopw [4, 13] (fun _ i wr => ∃ k : Nat, k ≤ xs.length ∧ i = .int .i64 k ∧ Hid (∀ j (h : j < xs.length), j < k → bkB xs[j] = true) ∧ Hid (Below w.heap.size w wr)) (fun _ i _ => xs.length - (intOf i).toNat)
  case atStart => exact ⟨0, Nat.zero_le _, rfl, hide (fun j _ h => by omega), hide (Below.refl _ _)⟩
  case round =>
    obtain ⟨k, hk, rfl, HA, HB⟩ := hrel
    by_cases hlt : k < xs.length
    · obtain ⟨b, off, rfl, c0, c1, c2, c3⟩ := (unhide HC).below (unhide HB) k hlt
      by_cases hn : bkB xs[k] = true
      · have HN := hide (all_succ (p := bkB) hlt (unhide HA) hn)
        go_wp2_with fail
        refine (blockOK_impl xs[k] _).mono ?_
        rintro e w1 ⟨rfl, hb⟩
        have HB1 := hide (fr (fr (unhide HB) (Joins.below_alloc1 _ _)) hb)
        clear hb
        go_wp2_with fail
        go_roundw
        case rel => exact ⟨k + 1, by omega, by go_num, HN, HB1⟩
        case measure => simp [intOf]; omega
      · have hn' : bkB xs[k] = false := by simpa using hn
        have HF := hide (bfC_bad h1 (bksB_false_at hlt hn'))
        clear hn
        go_wp2_with fail
        refine (blockOK_impl xs[k] _).mono ?_
        rintro e w1 ⟨rfl, hb⟩
        have HB1 := hide (fr (fr (unhide HB) (Joins.below_alloc1 _ _)) hb)
        clear hb
        go_wp2
        go_ret
        exact ⟨ret_int (unhide HF).symm, unhide HB1⟩
    · have HF := hide (bfC_ok h1 (bksB_true (unhide H4) (fun j h => unhide HA j h (by omega))))
      go_wp2
      go_ret
      exact ⟨ret_int (unhide HF).symm, unhide HB⟩

set_option maxHeartbeats 1600000 in
theorem greatestBegun_any (v : Int) (ao : Option Addr) (n cap : Nat) (xs : List Bk) (w : World) (hn : xs.length = n) (hl : n ≤ 1048576) (hm : ∀ i (hi : i < xs.length), xs[i].mbal ≤ 1000000000) (hc : Bks w ao xs) :
    Calls Try.prog 40 #[.slice ao n cap, .int .i64 v] w fun e w' => e = .returned (.int .i64 (nxMax v xs 0)) ∧ (0 ≤ nxMax v xs 0 ∧ nxMax v xs 0 ≤ 1000000000) ∧ Below w.heap.size w w' := by
  have HC := hide hc
  have HM := hide hm
  clear hc hm
  subst hn
  go_enter Try.func40, Try.ntmps40
  go_wp2
  go_loopw [5, 7, 10] (fun c _ i wr => ∃ k : Nat, ∃ n : Int, k ≤ xs.length ∧ i = .int .i64 k ∧ c = .int .i64 n ∧ (0 ≤ n ∧ n ≤ 1000000000) ∧ Hid (nxMax v (xs.drop k) n = nxMax v xs 0) ∧ Hid (Below w.heap.size w wr)) (fun _ _ i _ => xs.length - (intOf i).toNat)
  case atStart => exact ⟨0, 0, Nat.zero_le _, rfl, rfl, by omega, hide rfl, hide (Below.refl _ _)⟩
  case round =>
    obtain ⟨k, n, hk, rfl, rfl, hn, HA, HB⟩ := hrel
    by_cases hlt : k < xs.length
    · obtain ⟨b, off, rfl, c0, c1, c2, c3⟩ := (unhide HC).below (unhide HB) k hlt
      have hf := fieldB1 (bkOf xs[k] v)
      have HN := hide ((nxMax_drop (v := v) hlt n).symm.trans (unhide HA))
      have hmb := bkOf_mbal xs[k] v
      have hm1 := unhide HM k hlt
      go_wp2_with fail
      refine (asOf_any xs[k] v _).mono ?_
      rintro e w1 ⟨rfl, hb⟩
      have HB1 := hide (fr (fr (unhide HB) (Joins.below_alloc1 _ _)) hb)
      clear hb
      by_cases hx : (bkOf xs[k] v).mbal ≤ n
      · have HX : Hid (nxMax v (xs.drop (k + 1)) n = nxMax v xs 0) := hide (by rw [← unhide HN, max_le hx])
        go_wp2_with fail
        go_roundw
        case rel => exact ⟨k + 1, n, by omega, by go_num, by first | rfl | (rw [max_le hx]), hn, HX, HB1⟩
        case measure => simp [intOf]; omega
      · have HX : Hid (nxMax v (xs.drop (k + 1)) (bkOf xs[k] v).mbal = nxMax v xs 0) := hide (by rw [← unhide HN, max_gt hx])
        go_wp2_with fail
        go_roundw
        case rel => exact ⟨k + 1, (bkOf xs[k] v).mbal, by omega, by go_num, by first | rfl | (rw [max_gt hx]), by omega, HX, HB1⟩
        case measure => simp [intOf]; omega
    · have HF : Hid (nxMax v xs 0 = n) := hide (by rw [← unhide HA, nxMax_done hlt])
      go_wp2
      go_ret
      rw [unhide HF]
      exact ⟨rfl, hn, unhide HB⟩

theorem bks_mbal {xs : List Bk} (h : bksB xs = true) : ∀ i (hi : i < xs.length), xs[i].mbal ≤ 1000000000 := fun i hi => by
  have := (bksB_parts h).2 i hi
  have e : xs.getD i bk0 = xs[i] := by simp [hi]
  rw [e] at this
  have := (bkB_iff.1 this).2.1
  omega
theorem ret_ii {a b c d : Int} (h : a = b) (k : c = d) : Ending.returned (.tuple #[.int .i64 a, .int .i64 c]) = .returned (.tuple #[.int .i64 b, .int .i64 d]) := by rw [h, k]

set_option maxHeartbeats 3200000 in
theorem nextBallot_impl (h v : Int) (ao : Option Addr) (cap : Nat) (xs : List Bk) (w : World) (hl : xs.length ≤ 1048576) (hc : Bks w ao xs) :
    Calls Try.prog 16 #[.int .i64 h, .int .i64 v, .slice ao xs.length cap] w fun e w' => e = .returned (.tuple #[.int .i64 (nbN h v xs), .int .i64 (nbC h v xs)]) ∧ Below w.heap.size w w' := by
  have HC := hide hc
  clear hc
  go_enter Try.func16, Try.ntmps16
  go_wp2_with fail
  refine (blocksFault_any ao cap xs _ hl (unhide HC)).mono ?_
  rintro e w1 ⟨rfl, hb⟩
  have HB := hide hb
  clear hb
  by_cases h0 : ¬ bfC xs = 0
  · have HE := hide (nb_fault (h := h) (v := v) h0)
    have hb : (bfC xs != 0) = true := by simp [h0]
    go_wp2
    go_ret2
    exact ⟨ret_ii (unhide HE).1.symm (unhide HE).2.symm, unhide HB⟩
  rw [Decidable.not_not] at h0
  have hb : (bfC xs != 0) = false := by simp [h0]
  have H0 := hide h0
  clear h0
  go_wp2_with fail
  refine (hostOK_any h _).mono ?_
  rintro e w2 ⟨rfl, rfl⟩
  by_cases h1 : inB h 0 3 = false
  · have HE := hide (nb_range (h := h) (v := v) (unhide H0) (by rw [h1]; rfl))
    go_wp2
    go_ret2
    exact ⟨ret_ii (unhide HE).1.symm (unhide HE).2.symm, unhide HB⟩
  rw [Bool.not_eq_false] at h1
  go_wp2_with fail
  refine (verOK_any v _).mono ?_
  rintro e w2 ⟨rfl, rfl⟩
  by_cases h2 : inB v 0 1000000 = false
  · have HE := hide (nb_range (h := h) (v := v) (unhide H0) (by rw [h1, h2]; rfl))
    go_wp2
    go_ret2
    exact ⟨ret_ii (unhide HE).1.symm (unhide HE).2.symm, unhide HB⟩
  rw [Bool.not_eq_false] at h2
  go_wp2_with fail
  refine (greatestBegun_any v ao xs.length cap xs _ rfl hl (bks_mbal (bfC_zero (unhide H0))) ((unhide HC).below (unhide HB))).mono ?_
  rintro e w3 ⟨rfl, hn, hb3⟩
  have HB3 := hide (fr (unhide HB) hb3)
  clear hb3
  have HX : Hid (nxBal h v xs = (Int.tdiv (nxMax v xs 0) 4 + 1) * 4 + h) := hide rfl
  have hh : 0 ≤ h ∧ h ≤ 3 := by simpa [inB] using h1
  have HM := hide (fun e => nb_many (h := h) (v := v) (unhide H0) h1 h2 e)
  have HO := hide (fun e => nb_ok (h := h) (v := v) (unhide H0) h1 h2 e)
  revert HX hn
  generalize nxMax v xs 0 = n
  intro hn HX
  have hq : 0 ≤ Int.tdiv n 4 ∧ Int.tdiv n 4 ≤ 1000000000 := by rw [Int.tdiv_eq_ediv_of_nonneg hn.1]; omega
  have w1 : IntKind.i64.wrap (Int.tdiv n 4 + 1) = Int.tdiv n 4 + 1 := by rw [IntKind.wrap_i64]; omega
  have w2 : IntKind.i64.wrap ((Int.tdiv n 4 + 1) * 4) = (Int.tdiv n 4 + 1) * 4 := by rw [IntKind.wrap_i64]; omega
  have w3 : IntKind.i64.wrap ((Int.tdiv n 4 + 1) * 4 + h) = (Int.tdiv n 4 + 1) * 4 + h := by rw [IntKind.wrap_i64]; omega
  by_cases hm : 1000000 < (Int.tdiv n 4 + 1) * 4 + h
  · have HE := hide (unhide HM (by rw [unhide HX]; exact hm))
    go_wp2
    go_ret2
    exact ⟨ret_ii (unhide HE).1.symm (unhide HE).2.symm, unhide HB3⟩
  · have HE := hide (unhide HO (by rw [unhide HX]; exact hm))
    go_wp2
    go_ret2
    exact ⟨ret_ii ((unhide HX).symm.trans (unhide HE).1.symm) (unhide HE).2.symm, unhide HB3⟩

end Go.Proofs.Ytdigphemaccodaa

/- Contract of spec's l05Read. -/
namespace Go.Proofs.Ytdigphemaccodaa
open Go.RowKit
set_option linter.unusedVariables false
set_option maxRecDepth 100000

/-- A ballot in a variable, an answer's variable behind it. -/
structure PxAt (w W : World) (x : Nat) (p : Pxs) : Prop where
  v : VarP W x 33 p
  r : VarP W (x + 1) 33 p00
  k : Below w.heap.size w W
  ge : w.heap.size ≤ x
theorem PxAt.below {w W W' : World} {x : Nat} {p : Pxs} (h : PxAt w W x p) (hb : Below W.heap.size W W') : PxAt w W' x p := ⟨h.v.below hb, h.r.below hb, fr h.k hb, h.ge⟩
theorem PxAt.set {w W : World} {x : Nat} {p : Pxs} (h : PxAt w W x p) (i : Nat) (u : Value) (q : Pxs) (hv : VarP (W.setCell ⟨x, i, none⟩ u) x 33 q) : PxAt w (W.setCell ⟨x, i, none⟩ u) x q :=
  ⟨hv, h.r.keep ((Keep.refl (fun k => k = x) W).setCell (p := ⟨x, i, none⟩) rfl u) (by show ¬ x + 1 = x; omega), h.k.setCell (p := ⟨x, i, none⟩) h.ge u, h.ge⟩

def pxRd1 (p : Pxs) (bs : List Bk) : Pxs :=
  if p.next < 4 then
    (if p.ver < (bkOf (bs.getD p.next.toNat bk0) p.ver).ver ∨ p.ballot < (bkOf (bs.getD p.next.toNat bk0) p.ver).mbal then { p with phase := 6 } else pxEnd (pxLook p (bkOf (bs.getD p.next.toNat bk0) p.ver)))
  else pxEnd p
theorem pxRd_eq (p : Pxs) (bs : List Bk) : pxRd p bs = pxRd1 { p with next := skip p p.next } bs := rfl

set_option maxHeartbeats 6400000 in
theorem l05Read_any (p : Pxs) (ao : Option Addr) (n cap : Nat) (bs : List Bk) (w : World) (hn : bs.length = n) (h4 : n = 4) (hh : 0 ≤ p.host ∧ p.host ≤ 3) (hx : 0 ≤ p.next ∧ p.next ≤ 4) (hr : Bks w ao bs) :
    Calls Try.prog 56 #[pV p, .slice ao n cap] w fun e w' => e = .returned (pV (pxRd p bs)) ∧ Below w.heap.size w w' := by
  have H0 : Hid (PxAt w ((w.alloc (.cells #[.int .i64 p.host, .int .i64 p.ver, .int .i64 p.phase, .int .i64 p.ballot, .int .i64 p.value, .int .i64 p.next, .int .i64 p.best, .int .i64 p.bestBal] 33)).alloc (.cells #[.int .i64 0, .int .i64 0, .int .i64 0, .int .i64 0, .int .i64 0, .int .i64 0, .int .i64 0, .int .i64 0] 33)) w.heap.size p) :=
    hide ⟨(VarP.new w _ p).below (Joins.below_alloc1 _ _), by
      have := VarP.new0 (w.alloc (.cells #[.int .i64 p.host, .int .i64 p.ver, .int .i64 p.phase, .int .i64 p.ballot, .int .i64 p.value, .int .i64 p.next, .int .i64 p.best, .int .i64 p.bestBal] 33)) 33
      simp only [World.size_alloc] at this
      exact this, Joins.below_alloc2 _ _ _, Nat.le_refl _⟩
  have HR := hide hr
  clear hr
  go_enter Try.func56, Try.ntmps56
  go_upto_region 1 with fail
  revert H0
  generalize (w.alloc (.cells #[.int .i64 p.host, .int .i64 p.ver, .int .i64 p.phase, .int .i64 p.ballot, .int .i64 p.value, .int .i64 p.next, .int .i64 p.best, .int .i64 p.bestBal] 33)).alloc (.cells #[.int .i64 0, .int .i64 0, .int .i64 0, .int .i64 0, .int .i64 0, .int .i64 0, .int .i64 0, .int .i64 0] 33) = W0
  intro H0
  have wr1 : IntKind.i64.wrap (p.next + 1) = p.next + 1 := by rw [IntKind.wrap_i64]; omega
  obtain ⟨c0, c1, c2, c3, c4, c5, c6, c7⟩ := (unhide H0).v.cells
  obtain ⟨f0, f1, f2, f3, f4, f5, f6, f7⟩ := (unhide H0).v.free
  go_upto_if 10 with fail
  go_cut [] from 6 to 14 (fun wx => Hid (PxAt w wx w.heap.size { p with next := skip p p.next }))
  case first =>
    by_cases e : p.next = p.host
    · have es : Hid (skip p p.next = p.next + 1) := hide (if_pos e)
      have e' : (p.next == p.host) = true := by simp [e]
      have E9 := hide ((unhide H0).set 5 (.int .i64 (p.next + 1)) { p with next := p.next + 1 } ((unhide H0).v.set5 _))
      clear e
      go_wp2_with fail
      go_meet
      rw [unhide es]
      exact E9
    · have es : Hid (skip p p.next = p.next) := hide (if_neg e)
      have e' : (p.next == p.host) = false := by simp [e]
      clear e
      go_wp2_with fail
      go_meet
      rw [unhide es]
      exact H0
  case rest =>
    clear c0 c1 c2 c3 c4 c5 c6 c7 f0 f1 f2 f3 f4 f5 f6 f7 H0 wr1
    have hp0 : 0 ≤ skip p p.next ∧ skip p p.next ≤ 4 := by unfold skip; split <;> omega
    have hd : Hid (pxRd p bs = pxRd1 { p with next := skip p p.next } bs) := hide rfl
    revert hcut hd hp0
    have hh1 : 0 ≤ ({ p with next := skip p p.next } : Pxs).host ∧ ({ p with next := skip p p.next } : Pxs).host ≤ 3 := hh
    revert hh1
    rw [show skip p p.next = ({ p with next := skip p p.next } : Pxs).next from rfl]
    generalize ({ p with next := skip p p.next } : Pxs) = q
    intro hh1 hcut hp0 hd
    subst h4
    rename World => W1
    obtain ⟨c0, c1, c2, c3, c4, c5, c6, c7⟩ := (unhide hcut).v.cells
    obtain ⟨f0, f1, f2, f3, f4, f5, f6, f7⟩ := (unhide hcut).v.free
    obtain ⟨r0, r1, r2, r3, r4, r5, r6, r7⟩ := (unhide hcut).r.cells
    obtain ⟨s0, s1, s2, s3, s4, s5, s6, s7⟩ := (unhide hcut).r.free
    have HC := hcut
    clear hcut hh hx
    go_upto_if 17 with fail
    go_cut [] from 15 to 68 (fun wx => ∃ z : Pxs, Hid (PxAt w wx w.heap.size z) ∧ Hid (pxRd p bs = pxEnd z))
    case first =>
      by_cases h4 : q.next < 4
      · have hd1 : Hid (pxRd p bs = (if q.ver < (bkOf (bs.getD q.next.toNat bk0) q.ver).ver ∨ q.ballot < (bkOf (bs.getD q.next.toNat bk0) q.ver).mbal then { q with phase := 6 } else pxEnd (pxLook q (bkOf (bs.getD q.next.toNat bk0) q.ver)))) := hide ((unhide hd).trans (if_pos h4))
        clear hd
        obtain ⟨k, hk⟩ : ∃ k : Nat, q.next = k := ⟨q.next.toNat, by omega⟩
        have hkl : k < bs.length := by omega
        rw [show q.next.toNat = k by omega] at hd1
        obtain ⟨b, off, rfl, hb, g0, g1, g2, g3⟩ := ((unhide HR).below (unhide HC).k).get k hkl
        revert hd1 g0 g1 g2 g3
        generalize bs.getD k bk0 = y
        intro hd1 g0 g1 g2 g3
        have hk4 : k < 4 := by omega
        have hk5 : (k : Int) < 4 := by omega
        have hk6 : (0 : Int) ≤ (k : Int) := by omega
        have hbn : b ≠ W1.heap.size := by omega
        have hxn : w.heap.size ≠ W1.heap.size := by have := (unhide HC).v.lt; omega
        have hxn1 : w.heap.size + 1 ≠ W1.heap.size := by have := (unhide HC).r.lt; omega
        have hxl : w.heap.size < W1.heap.size := (unhide HC).v.lt
        have hxl1 : w.heap.size + 1 < W1.heap.size := (unhide HC).r.lt
        have hbn' : W1.heap.size ≠ b := by omega
        have hxn' : W1.heap.size ≠ w.heap.size := by omega
        have hxn1' : W1.heap.size ≠ w.heap.size + 1 := by omega
        rw [hk] at c5
        go_upto_region 4 with fail
        go_cut [5] from 15 to 25 (fun c wx => ∃ C : Nat, c = .pointer (some ⟨C, 0, none⟩) ∧ Hid (Got W1 wx C 42 (bkOf y q.ver)))
        case first =>
          go_region_held3 (fun w' => w'.cell? ⟨w.heap.size, 5, none⟩ = some (.int .i64 (k : Int)) ∧ w'.cell? ⟨w.heap.size, 1, none⟩ = some (.int .i64 q.ver) ∧ w'.cell? ⟨b, off + k * 4, none⟩ = some (.int .i64 y.ver) ∧ w'.cell? ⟨b, off + k * 4 + 1, none⟩ = some (.int .i64 y.mbal) ∧ w'.cell? ⟨b, off + k * 4 + 2, none⟩ = some (.int .i64 y.bal) ∧ w'.cell? ⟨b, off + k * 4 + 3, none⟩ = some (.int .i64 y.inp)) (go_keep)
            ((go_at_call 55; refine (l05Of_any y q.ver _).mono ?_; rintro e w2 ⟨rfl, hb2⟩; (first | (have hv2 : VarB w2 W1.heap.size 42 bk0 := (by exact ((VarB.new0 W1 _).below ((Below.refl _ _).drew)).below hb2); obtain ⟨x0, x1, x2, x3⟩ := hv2.cells; obtain ⟨y0, y1, y2, y3⟩ := hv2.free; have HB2 : Hid (Below W1.heap.size W1 w2) := (by exact hide (fr (Joins.below_alloc1 W1 _).drew hb2)); have HV2 := hide hv2; clear hv2 hb2) | (have HB2 : Hid (Below W1.heap.size W1 w2) := (by exact hide (fr ((Below.refl _ W1).drew) hb2)); clear hb2)); have m0 := ((unhide HB2).cell (p := ⟨w.heap.size, 5, none⟩) hxl).trans c5; have m1 := ((unhide HB2).cell (p := ⟨w.heap.size, 1, none⟩) hxl).trans c1; have m2 := ((unhide HB2).cell (p := ⟨b, off + k * 4, none⟩) hb).trans g0; have m3 := ((unhide HB2).cell (p := ⟨b, off + k * 4 + 1, none⟩) hb).trans g1; have m4 := ((unhide HB2).cell (p := ⟨b, off + k * 4 + 2, none⟩) hb).trans g2; have m5 := ((unhide HB2).cell (p := ⟨b, off + k * 4 + 3, none⟩) hb).trans g3))
          all_goals
            go_wp2_with fail
            go_meet
            first
              | exact ⟨_, rfl, hide (Got.set bk0 (unhide HB2) (unhide HV2) (Nat.le_refl _))⟩
              | exact ⟨_, rfl, hide (Got.top _ _ (unhide HB2))⟩
        case rest =>
          obtain ⟨C, rfl, HG⟩ := hcut
          have HC2 := hide ((unhide HC).below (unhide HG).k)
          have hCl : C ≠ w.heap.size := by have := (unhide HC).v.lt; have := (unhide HG).gt; omega
          have hCr : C ≠ w.heap.size + 1 := by have := (unhide HC).r.lt; have := (unhide HG).gt; omega
          have hCl' : w.heap.size ≠ C := fun e => hCl e.symm
          have hCr' : w.heap.size + 1 ≠ C := fun e => hCr e.symm
          clear c0 c1 c2 c3 c4 c5 c6 c7 f0 f1 f2 f3 f4 f5 f6 f7 r0 r1 r2 r3 r4 r5 r6 r7 s0 s1 s2 s3 s4 s5 s6 s7 g0 g1 g2 g3 hb hbn hbn' hxn hxn1 hxn' hxn1' hxl hxl1 hk hk4 hk5 hk6 hkl HR
          obtain ⟨c0, c1, c2, c3, c4, c5, c6, c7⟩ := (unhide HC2).v.cells
          obtain ⟨f0, f1, f2, f3, f4, f5, f6, f7⟩ := (unhide HC2).v.free
          obtain ⟨r0, r1, r2, r3, r4, r5, r6, r7⟩ := (unhide HC2).r.cells
          obtain ⟨s0, s1, s2, s3, s4, s5, s6, s7⟩ := (unhide HC2).r.free
          obtain ⟨v0, v1, v2, v3⟩ := (unhide HG).v.cells
          revert hd1 v0 v1 v2 v3 HG
          generalize bkOf y q.ver = z
          intro hd1 HG v0 v1 v2 v3
          by_cases ha : q.ver < z.ver ∨ q.ballot < z.mbal
          · have HE : Hid (pxRd p bs = { q with phase := 6 }) := hide ((unhide hd1).trans (if_pos ha))
            have HK := hide (fun u u0 u1 u2 u3 u4 u5 u6 u7 => below8 ((unhide HC2).k.setCell (p := ⟨w.heap.size, 2, none⟩) (Nat.le_refl _) u) (show w.heap.size ≤ w.heap.size + 1 by omega) u0 u1 u2 u3 u4 u5 u6 u7)
            rcases Classical.em (q.ver < z.ver) with h1 | h1
            · go_wp2
              exact bodyPost_ret (v := pV { q with phase := 6 }) (by simp [results, Try.results56, go_sem, r0, r1, r2, r3, r4, r5, r6, r7]) rfl ⟨by rw [unhide HE], unhide HK _ _ _ _ _ _ _ _ _⟩
            · have h2 : q.ballot < z.mbal := by rcases ha with h | h; exact absurd h h1; exact h
              go_wp2
              exact bodyPost_ret (v := pV { q with phase := 6 }) (by simp [results, Try.results56, go_sem, r0, r1, r2, r3, r4, r5, r6, r7]) rfl ⟨by rw [unhide HE], unhide HK _ _ _ _ _ _ _ _ _⟩
          · have HE : Hid (pxRd p bs = pxEnd (pxLook q z)) := hide ((unhide hd1).trans (if_neg ha))
            have ha1 : ¬ q.ver < z.ver := fun h => ha (.inl h)
            have ha2 : ¬ q.ballot < z.mbal := fun h => ha (.inr h)
            clear ha hd1
            have wr1 : IntKind.i64.wrap (q.next + 1) = q.next + 1 := by rw [IntKind.wrap_i64]; omega
            have wr2 : IntKind.i64.wrap (q.next + 1 + 1) = q.next + 1 + 1 := by rw [IntKind.wrap_i64]; omega
            by_cases hq2 : q.phase = 2
            · by_cases hbb : q.bestBal < z.bal
              · by_cases hs1 : q.next + 1 = q.host
                · have hs2 : (q.next + 1 == q.host) = true := by simp [hs1]
                  have EL : Hid (pxLook q z = { q with best := z.inp, bestBal := z.bal, next := q.next + 1 + 1 }) := hide (by simp [pxLook, skip, hs1, hq2, hbb])
                  have E9 := hide ((((((((unhide HC2).set 6 (.int .i64 (z.inp)) _ ((unhide HC2).v.set6 _))).set 7 (.int .i64 (z.bal)) _ ((((unhide HC2).set 6 (.int .i64 (z.inp)) _ ((unhide HC2).v.set6 _))).v.set7 _))).set 5 (.int .i64 (q.next + 1)) _ ((((((unhide HC2).set 6 (.int .i64 (z.inp)) _ ((unhide HC2).v.set6 _))).set 7 (.int .i64 (z.bal)) _ ((((unhide HC2).set 6 (.int .i64 (z.inp)) _ ((unhide HC2).v.set6 _))).v.set7 _))).v.set5 _))).set 5 (.int .i64 (q.next + 1 + 1)) _ ((((((((unhide HC2).set 6 (.int .i64 (z.inp)) _ ((unhide HC2).v.set6 _))).set 7 (.int .i64 (z.bal)) _ ((((unhide HC2).set 6 (.int .i64 (z.inp)) _ ((unhide HC2).v.set6 _))).v.set7 _))).set 5 (.int .i64 (q.next + 1)) _ ((((((unhide HC2).set 6 (.int .i64 (z.inp)) _ ((unhide HC2).v.set6 _))).set 7 (.int .i64 (z.bal)) _ ((((unhide HC2).set 6 (.int .i64 (z.inp)) _ ((unhide HC2).v.set6 _))).v.set7 _))).v.set5 _))).v.set5 _))
                  clear hs1
                  go_wp2_with fail
                  go_meet
                  exact ⟨_, E9, hide (by rw [unhide HE, unhide EL])⟩
                · have hs2 : (q.next + 1 == q.host) = false := by simp [hs1]
                  have EL : Hid (pxLook q z = { q with best := z.inp, bestBal := z.bal, next := q.next + 1 }) := hide (by simp [pxLook, skip, hs1, hq2, hbb])
                  have E9 := hide ((((((unhide HC2).set 6 (.int .i64 (z.inp)) _ ((unhide HC2).v.set6 _))).set 7 (.int .i64 (z.bal)) _ ((((unhide HC2).set 6 (.int .i64 (z.inp)) _ ((unhide HC2).v.set6 _))).v.set7 _))).set 5 (.int .i64 (q.next + 1)) _ ((((((unhide HC2).set 6 (.int .i64 (z.inp)) _ ((unhide HC2).v.set6 _))).set 7 (.int .i64 (z.bal)) _ ((((unhide HC2).set 6 (.int .i64 (z.inp)) _ ((unhide HC2).v.set6 _))).v.set7 _))).v.set5 _))
                  clear hs1
                  go_wp2_with fail
                  go_meet
                  exact ⟨_, E9, hide (by rw [unhide HE, unhide EL])⟩
              · by_cases hs1 : q.next + 1 = q.host
                · have hs2 : (q.next + 1 == q.host) = true := by simp [hs1]
                  have EL : Hid (pxLook q z = { q with next := q.next + 1 + 1 }) := hide (by simp [pxLook, skip, hs1, hbb])
                  have E9 := hide ((((unhide HC2).set 5 (.int .i64 (q.next + 1)) _ ((unhide HC2).v.set5 _))).set 5 (.int .i64 (q.next + 1 + 1)) _ ((((unhide HC2).set 5 (.int .i64 (q.next + 1)) _ ((unhide HC2).v.set5 _))).v.set5 _))
                  clear hs1
                  go_wp2_with fail
                  go_meet
                  exact ⟨_, E9, hide (by rw [unhide HE, unhide EL])⟩
                · have hs2 : (q.next + 1 == q.host) = false := by simp [hs1]
                  have EL : Hid (pxLook q z = { q with next := q.next + 1 }) := hide (by simp [pxLook, skip, hs1, hbb])
                  have E9 := hide ((unhide HC2).set 5 (.int .i64 (q.next + 1)) _ ((unhide HC2).v.set5 _))
                  clear hs1
                  go_wp2_with fail
                  go_meet
                  exact ⟨_, E9, hide (by rw [unhide HE, unhide EL])⟩
            · by_cases hs1 : q.next + 1 = q.host
              · have hs2 : (q.next + 1 == q.host) = true := by simp [hs1]
                have EL : Hid (pxLook q z = { q with next := q.next + 1 + 1 }) := hide (by simp [pxLook, skip, hs1, hq2])
                have E9 := hide ((((unhide HC2).set 5 (.int .i64 (q.next + 1)) _ ((unhide HC2).v.set5 _))).set 5 (.int .i64 (q.next + 1 + 1)) _ ((((unhide HC2).set 5 (.int .i64 (q.next + 1)) _ ((unhide HC2).v.set5 _))).v.set5 _))
                clear hs1
                go_wp2_with fail
                go_meet
                exact ⟨_, E9, hide (by rw [unhide HE, unhide EL])⟩
              · have hs2 : (q.next + 1 == q.host) = false := by simp [hs1]
                have EL : Hid (pxLook q z = { q with next := q.next + 1 }) := hide (by simp [pxLook, skip, hs1, hq2])
                have E9 := hide ((unhide HC2).set 5 (.int .i64 (q.next + 1)) _ ((unhide HC2).v.set5 _))
                clear hs1
                go_wp2_with fail
                go_meet
                exact ⟨_, E9, hide (by rw [unhide HE, unhide EL])⟩
      · have hd1 : Hid (pxRd p bs = pxEnd q) := hide ((unhide hd).trans (if_neg h4))
        clear hd
        go_wp2_with fail
        go_meet
        exact ⟨q, HC, hd1⟩
    case rest =>
      obtain ⟨z, HZ, HE⟩ := hcut
      clear c0 c1 c2 c3 c4 c5 c6 c7 f0 f1 f2 f3 f4 f5 f6 f7 r0 r1 r2 r3 r4 r5 r6 r7 s0 s1 s2 s3 s4 s5 s6 s7 HC hd HR hp0 hh1
      obtain ⟨c0, c1, c2, c3, c4, c5, c6, c7⟩ := (unhide HZ).v.cells
      obtain ⟨f0, f1, f2, f3, f4, f5, f6, f7⟩ := (unhide HZ).v.free
      obtain ⟨r0, r1, r2, r3, r4, r5, r6, r7⟩ := (unhide HZ).r.cells
      obtain ⟨s0, s1, s2, s3, s4, s5, s6, s7⟩ := (unhide HZ).r.free
      have hne : w.heap.size ≠ w.heap.size + 1 := by omega
      have hne' : w.heap.size + 1 ≠ w.heap.size := by omega
      have HK0 := hide (fun u0 u1 u2 u3 u4 u5 u6 u7 => below8 (unhide HZ).k (show w.heap.size ≤ w.heap.size + 1 by omega) u0 u1 u2 u3 u4 u5 u6 u7)
      have HK1 := hide (fun u u0 u1 u2 u3 u4 u5 u6 u7 => below8 ((unhide HZ).k.setCell (p := ⟨w.heap.size, 2, none⟩) (Nat.le_refl _) u) (show w.heap.size ≤ w.heap.size + 1 by omega) u0 u1 u2 u3 u4 u5 u6 u7)
      have HK2 := hide (fun u v u0 u1 u2 u3 u4 u5 u6 u7 => below8 (((unhide HZ).k.setCell (p := ⟨w.heap.size, 2, none⟩) (Nat.le_refl _) u).setCell (p := ⟨w.heap.size, 4, none⟩) (Nat.le_refl _) v) (show w.heap.size ≤ w.heap.size + 1 by omega) u0 u1 u2 u3 u4 u5 u6 u7)
      by_cases h4 : z.next < 4
      · have EE : Hid (pxRd p bs = z) := hide ((unhide HE).trans (pxEnd_lt h4))
        go_wp2
        exact bodyPost_ret (v := pV z) (by simp [results, Try.results56, go_sem, r0, r1, r2, r3, r4, r5, r6, r7]) rfl ⟨by rw [unhide EE], unhide HK0 _ _ _ _ _ _ _ _⟩
      · by_cases hq4 : z.phase = 4
        · have EE : Hid (pxRd p bs = { z with phase := 5 }) := hide ((unhide HE).trans (pxEnd_4 h4 hq4))
          go_wp2
          exact bodyPost_ret (v := pV { z with phase := 5 }) (by simp [results, Try.results56, go_sem, r0, r1, r2, r3, r4, r5, r6, r7]) rfl ⟨by rw [unhide EE], unhide HK1 _ _ _ _ _ _ _ _ _⟩
        · by_cases hbb : 0 < z.bestBal
          · have EE : Hid (pxRd p bs = { z with phase := 3, value := z.best }) := hide ((unhide HE).trans (by unfold pxEnd; rw [if_neg h4, if_neg hq4, if_pos hbb]))
            go_wp2
            exact bodyPost_ret (v := pV { z with phase := 3, value := z.best }) (by simp [results, Try.results56, go_sem, r0, r1, r2, r3, r4, r5, r6, r7]) rfl ⟨by rw [unhide EE], unhide HK2 _ _ _ _ _ _ _ _ _ _⟩
          · have EE : Hid (pxRd p bs = { z with phase := 3 }) := hide ((unhide HE).trans (by unfold pxEnd; rw [if_neg h4, if_neg hq4, if_neg hbb]))
            go_wp2
            exact bodyPost_ret (v := pV { z with phase := 3 }) (by simp [results, Try.results56, go_sem, r0, r1, r2, r3, r4, r5, r6, r7]) rfl ⟨by rw [unhide EE], unhide HK1 _ _ _ _ _ _ _ _ _⟩

end Go.Proofs.Ytdigphemaccodaa

/- Laws on append onto an empty literal, of no program's own. -/
namespace Go.Proofs.Ytdigphemaccodaa
open Go.RowKit
set_option linter.unusedVariables false
set_option maxRecDepth 100000

section
variable {P : Program}
theorem run_append_nothing (w : World) (t ty e : TypeId) (i : TypeInfo) (ht : P.underlying t = some (.slice e)) (hi : P.info? e = some i) (d so : Option Addr) (cap c : Nat) :
    (Builtin.append_ #[t, t] ty #[.slice d 0 cap, .slice so 0 c]).run P w = .ok (.slice d 0 cap) w := by
  have hl : ∀ (x : Addr), (loadCells x 0).run P w = .ok #[] w := fun x => by simpa using run_loadCells_list (P := P) w x [] (by simp)
  cases d <;> cases so <;> simp [Builtin.append_, run_underlying ht, sizeOf, typeInfo, hi, Builtin.lenOf, Builtin.firstCells, storeCells, hl]

theorem run_append_fresh (w : World) (t ty e : TypeId) (i : TypeInfo) (z : Value) (size bytes : Nat) (ht : P.underlying t = some (.slice e)) (hi : P.info? e = some i) (hz : i.zero = some z)
    (hsize : i.size = size) (hby : i.bytes = bytes) (hzs : z.cells.size = size) (hsz : 0 < size)
    (d : Addr) (so : Option Addr) (m c : Nat) (news : List Value) (hn : news.length = m * size) (hc : 0 < m → ∃ ad, so = some ad ∧ ∀ j u, news[j]? = some u → w.cell? (ad.add j) = some u)
    (b1 : m ≤ maxLen) (b2 : m * bytes ≤ 140737488355328) :
    ∃ ao cap w', (Builtin.append_ #[t, t] ty #[.slice (some d) 0 0, .slice so m c]).run P w = .ok (.slice ao m cap) w' ∧ OwnR w' w.heap.size e size (.slice ao m cap) m news ∧ w.grownBy w' none := by
  rcases Nat.eq_zero_or_pos m with h0 | h0
  · subst h0
    exact ⟨some d, 0, w, run_append_nothing w t ty e i ht hi _ _ _ _, .inl ⟨rfl, List.eq_nil_of_length_eq_zero (by simpa using hn), _, rfl⟩, World.grownBy.refl w none⟩
  · obtain ⟨ad, rfl, hcs⟩ := hc h0
    obtain ⟨v', w', hrun, r1, r2⟩ := run_append_arg_grows (P := P) w t ty e i z size bytes ht hi hz hsize hby hzs hsz d 0 0 [] (by simp) (by simp) ad m c news hn hcs (by omega) (by simpa using b1) (by simpa using b2)
    simp only [Nat.zero_add, List.nil_append] at r1
    obtain ⟨g, cap, cur, rfl, _, _⟩ := own_form h0 r1
    exact ⟨_, _, w', hrun, .inr ⟨h0, r1⟩, r2⟩

def isFresh : Value → Bool
  | .slice (some _) 0 0 => true
  | _ => false
theorem isFresh_form {v : Value} (h : isFresh v = true) : ∃ d, v = .slice (some d) 0 0 := by
  unfold isFresh at h
  split at h
  · exact ⟨_, rfl⟩
  · cases h

theorem step_append_fresh {ops : Array Oper} {o : Oper} {a : Act} {w : World} {K : Act → World → Prop} {Q : Exit → Act → World → Prop} {E : Prop}
    (hg : o.guard = none) (s x : Operand) (t : TypeId) (hop : o.op = Op.call { callee := Callee.builtin Builtin.append, args := #[s, x], argTypes := #[t, t] })
    (e : TypeId) (i : TypeInfo) (z : Value) (size bytes : Nat) (h1 : P.underlying t = some (.slice e)) (h2 : P.info? e = some i) (h3 : i.zero = some z) (h4 : i.size = size) (h5 : i.bytes = bytes) (h6 : z.cells.size = size) (h7 : 0 < size)
    (hs0 : isFresh (a.eval s) = true) (so : Option Addr) (m c : Nat) (news : List Value) (hx : a.eval x = .slice so m c) (hn : news.length = m * size)
    (hc : 0 < m → ∃ ad, so = some ad ∧ ∀ j u, news[j]? = some u → w.cell? (ad.add j) = some u) (b1 : m ≤ maxLen) (b2 : m * bytes ≤ 140737488355328)
    (hK : ∀ ao cap w', OwnR w' w.heap.size e size (.slice ao m cap) m news → w.grownBy w' none → K (a.put o.dst (.slice ao m cap)) w') :
    if Region.wanted o (yielded ops a.tmps) = true then Oper.wp P o a w K Q else E := by
  have hw : Region.wanted o (yielded ops a.tmps) = true := by simp [Region.wanted, hg]
  rw [if_pos hw]
  obtain ⟨d, hs⟩ := isFresh_form hs0
  obtain ⟨ao, cap, w', hrun, r1, r2⟩ := run_append_fresh (P := P) w t o.type e i z size bytes h1 h2 h3 h4 h5 h6 h7 d so m c news hn hc b1 b2
  unfold Oper.wp
  simp [execOp, hop, resolve, invoke, builtin, hs, hx, hrun, Result.andThen]
  exact hK _ _ _ r1 r2
end


theorem belowAl {W0 W : World} (h : Below W0.heap.size W0 W) (o : Obj) : Below W0.heap.size W0 (W.alloc o) := h.alloc h.size o
theorem belowGr {W0 W W' : World} (h : Below W0.heap.size W0 W) (hg : W.grownBy W' none) : Below W0.heap.size W0 W' := h.grown hg h.size (fun _ h => by cases h)
end Go.Proofs.Ytdigphemaccodaa

/- A law on append: a row behind an empty one, at a step that does not draw. -/
namespace Go.Proofs.Ytdigphemaccodaa
open Go.RowKit
set_option linter.unusedVariables false
section
variable {P : Program}
theorem wpList_append_fresh {w : World} {ops : Array Oper} {rest : List Oper} {o : Oper} {a : Act} {Q : Exit → Act → World → Prop} (hgd : o.guard = none) (s x : Operand) (t : TypeId)
    (ho : o.op = .call { callee := .builtin .append, args := #[s, x], argTypes := #[t, t] })
    (e : TypeId) (i : TypeInfo) (z : Value) (size bytes : Nat) (ht : P.underlying t = some (.slice e)) (hi : P.info? e = some i) (hz : i.zero = some z)
    (hsize : i.size = size) (hby : i.bytes = bytes) (hzs : z.cells.size = size) (hsz : 0 < size)
    (hs0 : isFresh (a.eval s) = true) (so : Option Addr) (m c : Nat) (news : List Value) (hx : a.eval x = .slice so m c) (hn : news.length = m * size)
    (hc : 0 < m → ∃ ad, so = some ad ∧ ∀ j u, news[j]? = some u → w.cell? (ad.add j) = some u) (b1 : m ≤ maxLen) (b2 : m * bytes ≤ 140737488355328)
    (hK : ∀ ao cap w', OwnR w' w.heap.size e size (.slice ao m cap) m news → w.grownBy w' none → wpList P ops Q rest (a.put o.dst (.slice ao m cap)) w') : wpList P ops Q (o :: rest) a w := by
  refine wpList_plain hgd fun K hK' => ?_
  obtain ⟨d, hs⟩ := isFresh_form hs0
  obtain ⟨ao, cap, w', hrun, r1, r2⟩ := run_append_fresh (P := P) w t o.type e i z size bytes ht hi hz hsize hby hzs hsz d so m c news hn hc b1 b2
  unfold Oper.wp
  simp [execOp, ho, resolve, invoke, builtin, hs, hx, hrun, Result.andThen]
  exact hK' _ _ (hK _ _ _ r1 r2)
end
end Go.Proofs.Ytdigphemaccodaa
