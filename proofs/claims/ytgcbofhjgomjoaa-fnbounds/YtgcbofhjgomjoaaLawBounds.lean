/- The walk of laws.FnBounds. -/
import Derived.Test.YtgcbofhjgomjoaaRows
import Derived.Test.YtgcbofhjgomjoaaGen
import Derived.Test.YtgcbofhjgomjoaaKeep
import Derived.Test.YtgcbofhjgomjoaaSrc
import Derived.Test.YtgcbofhjgomjoaaSrcG
import Derived.Test.YtgcbofhjgomjoaaAtN
import Derived.Test.YtgcbofhjgomjoaaSrcC
import Derived.Test.YtgcbofhjgomjoaaSrcD
import Derived.Test.YtgcbofhjgomjoaaClkB
import Derived.Test.YtgcbofhjgomjoaaClkF
import Derived.Test.YtgcbofhjgomjoaaClkI
import Derived.Test.YtgcbofhjgomjoaaClkL
import Derived.Test.YtgcbofhjgomjoaaClkC
import Derived.Test.YtgcbofhjgomjoaaClkD
import Derived.Test.YtgcbofhjgomjoaaClkT
import Derived.Test.YtgcbofhjgomjoaaClkQ
import Derived.Test.YtgcbofhjgomjoaaLawSt
import Derived.WalkKit
import Derived.WalkSpells
import Derived.Deep.RegionHeld3
namespace Go.Proofs.Ytgcbofhjgomjoaa
open Go.RowKit
set_option linter.unusedVariables false

set_option maxHeartbeats 3200000 in
theorem lawBounds (ao : Option Addr) (ca n1 : Nat) (bo : Option Addr) (cb n2 : Nat) (w : World) (hn : n1 ≤ maxLen) (hB : Bs w ao n1) (hm : n2 ≤ maxLen) (hD : Bs w bo n2) :
    Calls Try.prog 6 #[.slice ao n1 ca, .slice bo n2 cb] w fun e w' => e = .returned (.bool true) ∧ Below w.heap.size w w' := by
  unfold maxLen at hn hm
  have S0 : Hid (St w w ao bo n1 n2 []) := hide ⟨Below.refl _ _, hB, hD, fun p hp => by cases hp⟩
  clear hB hD
  by_cases h : 1048576 < n1
  · go_enter Try.func6, Try.ntmps6
    go_wp2
    go_ret
    exact ⟨rfl, Below.refl _ _⟩
  by_cases h' : 1048576 < n2
  · go_enter Try.func6, Try.ntmps6
    go_wp2
    go_ret
    exact ⟨rfl, Below.refl _ _⟩
  have hn' : n1 ≤ 1048576 := by omega
  have hm' : n2 ≤ 1048576 := by omega
  go_enter Try.func6, Try.ntmps6
  go_wp2_with fail
  refine (configOf_any ao n1 ca _ hn' (unhide S0).b1).mono ?_
  rintro e w1 ⟨⟨f, d, l, r, rfl, f0, f1, d0, d1, l0, l1, r0, r1⟩, hb1⟩
  have S1 := hide (((unhide S0).next hb1).new (cfgO f d l r))
  clear hb1 S0
  have hbc : Hid (cfgB f d l r = true) := hide (cfgB_iff.2 ⟨⟨by omega, by omega⟩, ⟨by omega, by omega⟩, ⟨by omega, by omega⟩, by omega, by omega⟩)
  have hC : Hid (Four (w1.alloc (cfgO f d l r)) w1.heap.size f d l r) := hide (four_of (heap_alloc_new w1 _))
  go_wp2_with fail
  revert S1 hC
  generalize w1.alloc (cfgO f d l r) = W1
  generalize w1.heap.size = C
  intro S1 hC
  obtain ⟨k0, k1, k2, k3⟩ := unhide hC
  clear hC
  refine (clockOf_any bo n2 cb r _ r0 r1 hm' (unhide S1).b2).mono ?_
  rintro e w2 ⟨⟨o, p, rfl, o0, o1, p0, p1⟩, hb2⟩
  have S2 := hide (((unhide S1).next hb2).new (clkO o p))
  clear hb2 S1 k0 k1 k2 k3
  go_wp2_with fail
  revert S2
  generalize w2.alloc (clkO o p) = W2
  generalize w2.heap.size = K
  intro S2
  refine (at_any bo n2 cb 0 300 _ hm' (by omega) (by omega) (by omega) (by omega) (unhide S2).b2).mono ?_
  rintro e w3 ⟨q1, rfl, q10, q11, hb3⟩
  have S3 := hide ((unhide S2).next hb3)
  clear hb3 S2
  obtain ⟨x, hx⟩ : ∃ x, 1 + q1 = x := ⟨_, rfl⟩
  have hx0 : 1 ≤ x := by omega
  have hx1 : x ≤ 300 := by omega
  go_wp2_with fail
  refine (at_any bo n2 cb 1 3000 _ hm' (by omega) (by omega) (by omega) (by omega) (unhide S3).b2).mono ?_
  rintro e w4 ⟨t, rfl, t0, t1, hb4⟩
  have S4 := hide ((unhide S3).next hb4)
  clear hb4 S3
  obtain ⟨k0, k1, k2, k3⟩ := four_of ((unhide S4).blk (C, cfgO f d l r) (by simp))
  have hxb : Hid (betw x 1 100000 = true) := hide (betw_yes (by omega) (by omega))
  have ql := latQ_le2 (x := x) r0 r1 (by omega)
  have qe := earQ_le2 (x := x) r0 hx0
  obtain ⟨g1, g2, g3, g4⟩ := bounds_hold (o := o) (p := p) (t := t) (x := x) r0 r1 p0 p1 hx0
  obtain ⟨y0, y1⟩ := loc_le (o := o) (p := p) (t := t) o0 (by omega) (by omega) (by omega) (by omega) (by omega)
  obtain ⟨y2, y3⟩ := loc_le (o := o) (p := p) (t := t + latQ r x) o0 (by omega) (by omega) (by omega) (by omega) (by omega)
  obtain ⟨y4, y5⟩ := loc_le (o := o) (p := p) (t := t + earQ r x) o0 (by omega) (by omega) (by omega) (by omega) (by omega)
  go_wp2_with fail
  refine (latest_in f d l r x _ (unhide hbc) (unhide hxb)).mono ?_
  rintro e w5 ⟨rfl, hb5⟩
  have S5 := hide ((unhide S4).next hb5)
  clear hb5 S4 k0 k1 k2 k3
  obtain ⟨k0, k1, k2, k3⟩ := four_of ((unhide S5).blk (C, cfgO f d l r) (by simp))
  go_wp2_with fail
  refine (earliest_in f d l r x _ (unhide hbc) (unhide hxb)).mono ?_
  rintro e w6 ⟨rfl, hb6⟩
  have S6 := hide ((unhide S5).next hb6)
  clear hb6 S5 k0 k1 k2 k3
  obtain ⟨k0, k1⟩ := two_of ((unhide S6).blk (K, clkO o p) (by simp))
  go_wp2_with fail
  refine (local_in o p t _ (by omega) (by omega) (by omega) (by omega) (by omega) (by omega)).mono ?_
  rintro e w7 ⟨rfl, hb7⟩
  have S7 := hide ((unhide S6).next hb7)
  clear hb7 S6 k0 k1
  obtain ⟨k0, k1⟩ := two_of ((unhide S7).blk (K, clkO o p) (by simp))
  go_wp2_with fail
  refine (local_in o p (t + latQ r x) _ (by omega) (by omega) (by omega) (by omega) (by omega) (by omega)).mono ?_
  rintro e w8 ⟨rfl, hb8⟩
  have S8 := hide ((unhide S7).next hb8)
  clear hb8 S7 k0 k1
  obtain ⟨k0, k1⟩ := two_of ((unhide S8).blk (K, clkO o p) (by simp))
  go_wp2_with fail
  refine (local_in o p (t + earQ r x) _ (by omega) (by omega) (by omega) (by omega) (by omega) (by omega)).mono ?_
  rintro e w9 ⟨rfl, hb9⟩
  have S9 := hide ((unhide S8).next hb9).below
  clear hb9 S8 k0 k1
  generalize locQ o p (t + latQ r x) = u1 at *
  generalize locQ o p (t + earQ r x) = u2 at *
  generalize locQ o p t = u3 at *
  go_wp2
  go_ret
  exact ⟨rfl, unhide S9⟩

end Go.Proofs.Ytgcbofhjgomjoaa
