/- The walk of laws.FnFence. -/
import Derived.Test.YtgcbofhjgomjoaaRows
import Derived.Test.YtgcbofhjgomjoaaGen
import Derived.Test.YtgcbofhjgomjoaaKeep
import Derived.Test.YtgcbofhjgomjoaaSrc
import Derived.Test.YtgcbofhjgomjoaaSrcG
import Derived.Test.YtgcbofhjgomjoaaAtN
import Derived.Test.YtgcbofhjgomjoaaSrcC
import Derived.Test.YtgcbofhjgomjoaaSrcD
import Derived.Test.YtgcbofhjgomjoaaClkB
import Derived.Test.YtgcbofhjgomjoaaClkF
import Derived.Test.YtgcbofhjgomjoaaClkI
import Derived.Test.YtgcbofhjgomjoaaClkL
import Derived.Test.YtgcbofhjgomjoaaClkC
import Derived.Test.YtgcbofhjgomjoaaClkD
import Derived.Test.YtgcbofhjgomjoaaClkT
import Derived.Test.YtgcbofhjgomjoaaClkQ
import Derived.Test.YtgcbofhjgomjoaaLawSt
import Derived.Test.YtgcbofhjgomjoaaClkH
import Derived.Test.YtgcbofhjgomjoaaClkG
import Derived.WalkKit
import Derived.WalkSpells
import Derived.Deep.RegionHeld3
import Derived.Deep.RegionWith
namespace Go.Proofs.Ytgcbofhjgomjoaa
open Go.RowKit
set_option linter.unusedVariables false

theorem at_dead (C : Nat) (d : Int) (ao : Option Addr) (n cap : Nat) (i k : Int) (w : World) (hn : n ≤ 1048576) (hi0 : 0 ≤ i) (hi1 : i ≤ 1000) (hk0 : 1 ≤ k) (hk1 : k ≤ 100000) (hB : Bs w ao n) (hc : w.cell? ⟨C, 1, none⟩ = some (.int .i64 d)) :
    Calls Try.prog 8 #[.slice ao n cap, .int .i64 i, .int .i64 k] w fun e w' => ∃ r : Int, e = .returned (.int .i64 r) ∧ 0 ≤ r ∧ r < k ∧ w'.cell? ⟨C, 1, none⟩ = some (.int .i64 d) ∧ Hid (Below w.heap.size w w') :=
  (at_any ao n cap i k w hn hi0 hi1 hk0 hk1 hB).mono fun e w' ⟨r, h1, h2, h3, h4⟩ => ⟨r, h1, h2, h3, (h4.cell (World.block_lt_of_cell? _ _ hc)).trans hc, hide h4⟩

set_option maxRecDepth 100000 in
set_option maxHeartbeats 1200000 in
theorem lawFence (ao : Option Addr) (ca n1 : Nat) (bo : Option Addr) (cb n2 : Nat) (w : World) (hn : n1 ≤ maxLen) (hB : Bs w ao n1) (hm : n2 ≤ maxLen) (hD : Bs w bo n2) :
    Calls Try.prog 5 #[.slice ao n1 ca, .slice bo n2 cb] w fun e w' => e = .returned (.bool true) ∧ Below w.heap.size w w' := by
  unfold maxLen at hn hm
  have S0 : Hid (St w w ao bo n1 n2 []) := hide ⟨Below.refl _ _, hB, hD, fun p hp => by cases hp⟩
  clear hB hD
  by_cases h : 1048576 < n1
  · go_enter Try.func5, Try.ntmps5
    go_wp2
    go_ret
    exact ⟨rfl, Below.refl _ _⟩
  by_cases h' : 1048576 < n2
  · go_enter Try.func5, Try.ntmps5
    go_wp2
    go_ret
    exact ⟨rfl, Below.refl _ _⟩
  have hn' : n1 ≤ 1048576 := by omega
  have hm' : n2 ≤ 1048576 := by omega
  clear hn hm h h'
  go_enter Try.func5, Try.ntmps5
  go_wp2_with fail
  refine (configOf_any ao n1 ca _ hn' (unhide S0).b1).mono ?_
  rintro e w1 ⟨⟨f, d, l, r, rfl, f0, f1, d0, d1, l0, l1, r0, r1⟩, hb1⟩
  have S1 := hide (((unhide S0).next hb1).new (cfgO f d l r))
  clear hb1 S0
  have hbc : Hid (cfgB f d l r = true) := hide (cfgB_iff.2 ⟨⟨by omega, by omega⟩, ⟨by omega, by omega⟩, ⟨by omega, by omega⟩, by omega, by omega⟩)
  have hC : Hid (Four (w1.alloc (cfgO f d l r)) w1.heap.size f d l r) := hide (four_of (heap_alloc_new w1 _))
  go_wp2_with fail
  revert S1 hC
  generalize w1.alloc (cfgO f d l r) = W1
  generalize w1.heap.size = C
  intro S1 hC
  obtain ⟨k0, k1, k2, k3⟩ := unhide hC
  clear hC
  refine (configOK_impl f d l r _).mono ?_
  rintro e w2 ⟨rfl, hb2⟩
  have S2 := hide ((unhide S1).next hb2)
  clear hb2 S1 k0 k1 k2 k3
  obtain ⟨k0, k1, k2, k3⟩ := four_of ((unhide S2).blk (C, cfgO f d l r) (by simp))
  by_cases hok : cokB f d l r = false
  · go_wp2_with fail
    refine (configOK_spec_yes f d l r _ (unhide hbc)).mono ?_
    rintro e w3 ⟨rfl, hb3⟩
    have S3 := hide ((unhide S2).next hb3).below
    clear hb3 S2 k0 k1 k2 k3
    go_wp2
    go_ret
    exact ⟨rfl, unhide S3⟩
  rw [Bool.not_eq_false] at hok
  have hlt : Hid (latQ r f + l < earQ r d) := hide (by have := cok_yes (unhide hbc); rw [hok] at this; exact of_decide_eq_true this.symm)
  go_wp2_with fail
  refine (clockOf_any ao n1 ca r _ r0 r1 hn' (unhide S2).b1).mono ?_
  rintro e w3 ⟨⟨o1, p1, rfl, o10, o11, p10, p11⟩, hb3⟩
  have S3 := hide (((unhide S2).next hb3).new (clkO o1 p1))
  clear hb3 S2 k0 k1 k2 k3
  have hC3 : Hid (Four (w3.alloc (clkO o1 p1)) C f d l r) := hide (four_of ((unhide S3).blk (C, cfgO f d l r) (by simp)))
  obtain ⟨k0, k1, k2, k3⟩ := unhide hC3
  go_wp2_with fail
  clear k0 k1 k2 k3
  revert S3 hC3
  generalize w3.alloc (clkO o1 p1) = W3
  generalize w3.heap.size = K
  intro S3 hC3
  clear hC3
  refine (clockOf_any bo n2 cb r _ r0 r1 hm' (unhide S3).b2).mono ?_
  rintro e w4 ⟨⟨o2, p2, rfl, o20, o21, p20, p21⟩, hb4⟩
  have S4 := hide (((unhide S3).next hb4).new (clkO o2 p2))
  clear hb4 S3
  go_wp2_with fail
  revert S4
  generalize w4.alloc (clkO o2 p2) = W4
  generalize w4.heap.size = M
  intro S4
  refine (at_any bo n2 cb 0 2000 _ hm' (by omega) (by omega) (by omega) (by omega) (unhide S4).b2).mono ?_
  rintro e w5 ⟨ren, rfl, ren0, ren1, hb5⟩
  have S5 := hide ((unhide S4).next hb5)
  clear hb5 S4
  go_wp2_with fail
  refine (at_any bo n2 cb 1 60 _ hm' (by omega) (by omega) (by omega) (by omega) (unhide S5).b2).mono ?_
  rintro e w6 ⟨q2, rfl, q20, q21, hb6⟩
  have S6 := hide ((unhide S5).next hb6)
  clear hb6 S5
  obtain ⟨seen, hseen⟩ : ∃ seen, ren + q2 = seen := ⟨_, rfl⟩
  have sn0 : ren ≤ seen := by omega
  have sn1 : seen ≤ 2100 := by omega
  obtain ⟨k0, k1, k2, k3⟩ := four_of ((unhide S6).blk (C, cfgO f d l r) (by simp))
  clear k0 k2 k3
  go_wp2_with fail
  go_region_held3 (fun w' => w'.cell? ⟨C, 1, none⟩ = some (.int .i64 d)) (go_keep)
    (first
      | (go_at_call_of 8 (Value.int IntKind.i64 400); refine (at_dead C d bo n2 cb 2 400 _ hm' (by omega) (by omega) (by omega) (by omega) ?_ ?_).mono ?_; exact (unhide S6).b2.below ((Below.refl _ _).drew); (simp [*]); rintro e wA ⟨q3, rfl, q30, q31, hA0, hA⟩; have hwA : IntKind.i64.wrap (seen + q3) = seen + q3 := by (rw [IntKind.wrap_i64]; omega))
      | (go_at_call_of 8 (Value.int IntKind.i64 2); refine (at_dead C d bo n2 cb 3 2 _ hm' (by omega) (by omega) (by omega) (by omega) ?_ ?_).mono ?_; exact ((unhide S6).b2.below ((Below.refl _ _).drew)).below (unhide hA); (simp [*]); rintro e wB ⟨q4, rfl, q40, q41, hB0, hB⟩; have hqd : 0 ≤ q4 * d ∧ q4 * d ≤ 11300 := (by rcases (show q4 = 0 ∨ q4 = 1 by omega) with h4 | h4 <;> rw [h4] <;> omega); have hwB : IntKind.i64.wrap (q4 * d) = q4 * d := (by rw [IntKind.wrap_i64]; omega); have hwC : IntKind.i64.wrap (seen + q3 + q4 * d) = seen + q3 + q4 * d := (by rw [IntKind.wrap_i64]; omega)))
  have S7 := hide (((unhide S6).next ((Below.refl _ _).drew)).next (unhide hA) |>.next (unhide hB))
  obtain ⟨now, hnow⟩ : ∃ now, seen + q3 + q4 * d = now := ⟨_, rfl⟩
  have nw0 : seen ≤ now := by omega
  have nw1 : now ≤ 14000 := by omega
  rw [hnow]
  clear hA0 hA hB0 hB hqd hwA hwB hwC S6 k1 hnow
  have hp10 : -500 ≤ p1 := by omega
  have hp11 : p1 ≤ 500 := by omega
  have hp20 : -500 ≤ p2 := by omega
  have hp21 : p2 ≤ 500 := by omega
  obtain ⟨aa0, aa1⟩ := loc_le (o := o1) (p := p1) (t := ren) o10 (by omega) hp10 hp11 (by omega) (by omega)
  obtain ⟨bb0, bb1⟩ := loc_le (o := o2) (p := p2) (t := seen) o20 (by omega) hp20 hp21 (by omega) (by omega)
  obtain ⟨xx0, xx1⟩ := loc_le (o := o2) (p := p2) (t := now) o20 (by omega) hp20 hp21 (by omega) (by omega)
  have bx := loc_up (o := o2) hp20 nw0
  have HL : Hid (d ≤ locQ o2 p2 now - locQ o2 p2 seen → ren < now - l ∧ locQ o1 p1 ren + f ≤ locQ o1 p1 (now - l)) := hide (fun hd => lease r0 r1 p10 p11 p20 p21 f0 l0 (unhide hlt) sn0 nw0 hd)
  obtain ⟨k0, k1⟩ := two_of ((unhide S7).blk (K, clkO o1 p1) (by simp))
  go_wp2_with fail
  refine (local_in o1 p1 ren _ (by omega) (by omega) (by omega) (by omega) (by omega) (by omega)).mono ?_
  rintro e w8 ⟨rfl, hb8⟩
  have S8 := hide ((unhide S7).next hb8)
  clear hb8 S7 k0 k1
  obtain ⟨av, hav⟩ : ∃ av, locQ o1 p1 ren = av := ⟨_, rfl⟩
  rw [hav] at aa0 aa1 HL
  obtain ⟨k0, k1, k2, k3⟩ := four_of ((unhide S8).blk (C, cfgO f d l r) (by simp))
  go_wp2_with fail
  refine (fence_in f d l r av _ (unhide hbc) (betw_yes (by omega) (by omega))).mono ?_
  rintro e w9 ⟨rfl, hb9⟩
  have S9 := hide ((unhide S8).next hb9)
  clear hb9 S8 k0 k1 k2 k3
  obtain ⟨k0, k1⟩ := two_of ((unhide S9).blk (M, clkO o2 p2) (by simp))
  go_wp2_with fail
  refine (local_in o2 p2 seen _ (by omega) (by omega) (by omega) (by omega) (by omega) (by omega)).mono ?_
  rintro e w10 ⟨rfl, hb⟩
  have S10 := hide ((unhide S9).next hb)
  clear hb S9 k0 k1
  obtain ⟨bv, hbv⟩ : ∃ bv, locQ o2 p2 seen = bv := ⟨_, rfl⟩
  rw [hbv] at bb0 bb1 HL bx
  obtain ⟨k0, k1⟩ := two_of ((unhide S10).blk (M, clkO o2 p2) (by simp))
  go_wp2_with fail
  refine (local_in o2 p2 now _ (by omega) (by omega) (by omega) (by omega) (by omega) (by omega)).mono ?_
  rintro e w11 ⟨rfl, hb⟩
  have S11 := hide ((unhide S10).next hb)
  clear hb S10 k0 k1
  obtain ⟨xv, hxv⟩ : ∃ xv, locQ o2 p2 now = xv := ⟨_, rfl⟩
  rw [hxv] at xx0 xx1 HL bx
  obtain ⟨k0, k1, k2, k3⟩ := four_of ((unhide S11).blk (C, cfgO f d l r) (by simp))
  go_wp2_with fail
  refine (dead_in f d l r bv xv _ (unhide hbc) (betw_yes (by omega) (by omega)) (betw_yes (by omega) (by omega))).mono ?_
  rintro e w12 ⟨rfl, hb⟩
  have S12 := hide ((unhide S11).next hb)
  clear hb S11 k0 k1 k2 k3
  obtain ⟨k0, k1, k2, k3⟩ := four_of ((unhide S12).blk (C, cfgO f d l r) (by simp))
  go_wp2_with fail
  refine (deadS_in f d l r bv xv _ (unhide hbc) (betw_yes (by omega) (by omega)) (betw_yes (by omega) (by omega))).mono ?_
  rintro e w13 ⟨rfl, hb⟩
  have S13 := hide ((unhide S12).next hb)
  clear hb S12 k0 k1 k2 k3
  obtain ⟨k0, k1, k2, k3⟩ := four_of ((unhide S13).blk (C, cfgO f d l r) (by simp))
  by_cases hd : d ≤ xv - bv
  · have hdd : decide (d ≤ xv - bv) = true := decide_eq_true hd
    obtain ⟨e1, e2⟩ := unhide HL hd
    obtain ⟨yy0, yy1⟩ := loc_le (o := o1) (p := p1) (t := now - l) o10 (by omega) hp10 hp11 (by omega) (by omega)
    obtain ⟨j0, j1⟩ := two_of ((unhide S13).blk (K, clkO o1 p1) (by simp))
    rw [hdd]
    go_wp2_with fail
    refine (local_in o1 p1 (now - l) _ (by omega) (by omega) (by omega) (by omega) (by omega) (by omega)).mono ?_
    rintro e w14 ⟨rfl, hb⟩
    have S14 := hide ((unhide S13).next hb)
    clear hb k0 k1 k2 k3 j0 j1
    obtain ⟨k0, k1, k2, k3⟩ := four_of ((unhide S14).blk (C, cfgO f d l r) (by simp))
    clear S13
    generalize locQ o1 p1 (now - l) = yv at *
    go_wp2
    go_ret
    exact ⟨rfl, (unhide S14).below⟩
  · have hdd : decide (d ≤ xv - bv) = false := decide_eq_false hd
    rw [hdd]
    go_wp2
    go_ret
    exact ⟨rfl, (unhide S13).below⟩

end Go.Proofs.Ytgcbofhjgomjoaa
