/- Contracts of the model's l08Add, RefUp, RefDown. -/
import Derived.Test.YtjmianalknnekabDoorRows
import Derived.Test.YtjmianalknnekabDoorGen
import Derived.Test.YtjmianalknnekabDoorKeep
import Derived.Test.YtjmianalknnekabDoorInts
import Derived.Test.YtjmianalknnekabDoorOwnN
import Derived.Test.YtjmianalknnekabDoorClkB
import Derived.Test.YtjmianalknnekabDoorArrV
import Derived.Test.YtjmianalknnekabDoorCtP
import Derived.Test.YtjmianalknnekabDoorOwnG
import Derived.Test.YtjmianalknnekabDoorAppF
import Derived.Test.YtjmianalknnekabDoorCtS
import Derived.WalkKit
import Derived.WalkSpells
import Derived.KernelRfl
import Derived.LoopN
import Derived.BigQuiet
import Derived.Deep.QuietTactic
import Derived.Deep.CutRange
import Derived.Deep.RegionWith
import Derived.Deep.MidRow
namespace Go.Proofs.YtjmianalknnekabDoor
open Go.RowKit
set_option linter.unusedVariables false
set_option maxRecDepth 100000

theorem Is.src {w : World} {ao : Option Addr} {xs : List Int} (h : Is w ao xs) : 0 < xs.length → ∃ ad, ao = some ad ∧ ∀ j u, (intV xs)[j]? = some u → w.cell? (ad.add j) = some u := fun hp => by
  obtain ⟨b, off, rfl, hr⟩ := h.range hp
  exact ⟨_, rfl, fun j u hu => by rw [Addr.add_mid]; exact hr j u hu⟩
theorem intV_setL (xs : List Int) (k : Nat) (n : Int) : (intV xs).set k (.int .i64 n) = intV (xs.set k n) := by simp [intV, List.map_set]

set_option maxHeartbeats 1600000 in
theorem l08Add_any (ao : Option Addr) (cap : Nat) (xs : List Int) (q : Nat) (by_ : Int) (w : World) (hq : q < xs.length) (hl : xs.length = 24) (h0 : -1000 ≤ xs[q] + by_) (h1 : xs[q] + by_ ≤ 1000) (hc : Is w ao xs) :
    Calls Tryd.prog 23 #[.slice ao xs.length cap, .int .i64 q, .int .i64 by_] w fun e w' => ∃ v, e = .returned v ∧ OwnN w' w.heap.size v (xs.set q (xs[q] + by_)) ∧ Below w.heap.size w w' := by
  obtain ⟨i0, hi, hz0, hz1, hz2⟩ := info_parts infoM
  have HA := hide (Joins.below_alloc1 w (.cells #[] 3))
  have HC := hide (hc.below (unhide HA))
  have HL := hide hl
  have hwr : IntKind.i64.wrap (xs[q] + by_) = xs[q] + by_ := by rw [IntKind.wrap_i64]; omega
  have hm : xs.length ≤ maxLen := by unfold maxLen; omega
  have hm8 : xs.length * 8 ≤ 140737488355328 := by omega
  have hqi : (q : Int) < (xs.length : Int) := by omega
  clear hc hl
  go_enter Tryd.func23, Tryd.ntmps23
  go_upto_region 2 with (at_builtin; refine wpList_append_fresh rfl _ _ 22 rfl 3 i0 (.int .i64 0) 1 8 Tryd.underlying22 hi hz0 hz1 hz2 rfl (by omega) rfl ao xs.length cap (intV xs) rfl (by rw [intV_length, Nat.mul_one]) (fun h => Is.src (unhide HC) h) hm hm8 ?_; intro qo qa W1 ho hg)
  have HB := hide ((unhide HA).grown hg (unhide HA).size (fun _ h => by cases h))
  rcases ho with ⟨e0, _⟩ | ⟨hp, ho⟩
  · omega
  obtain ⟨g, cp, cur, e, hBg, hg'⟩ := own_form hp ho
  cases e
  have HO := hide ho
  have hfr := ho.frozenAt q
  have hcx : W1.cell? ⟨g, q, none⟩ = some (.int .i64 xs[q]) := by rw [ho.cellAt q (by omega), intV_get hq]
  have HST := hide (ho.stored q (.int .i64 (xs[q] + by_)))
  have HSZ := hide (Nat.le_trans (unhide HA).size hBg)
  have HBG := hide ((unhide HB).setCell (p := ⟨g, q, none⟩) (unhide HSZ) (.int .i64 (xs[q] + by_)))
  have HBS := hide (unhide HA).size
  clear ho hg hg'
  go_wp2
  go_ret
  refine ⟨.slice (some ⟨g, 0, none⟩) xs.length qa, rfl, ⟨some ⟨g, 0, none⟩, qa, by rw [List.length_set], ?_⟩, unhide HBG⟩
  rw [List.length_set]
  refine .inr ⟨hp, ?_⟩
  have := (unhide HST).1
  rw [intV_setL] at this
  exact own_base this (unhide HBS)

theorem cwS_ne {n : Int} (h : n ≠ 0) : (n != 0) = true := by simpa using h

set_option maxHeartbeats 1600000 in
theorem refDown_spec (ao : Option Addr) (cap : Nat) (xs : List Int) (c : Int) (w : World) (hl : xs.length ≤ maxLen) (hc : Is w ao xs) :
    Calls Tryd.prog 6 #[.slice ao xs.length cap, .int .i64 c] w fun e w' => ∃ v, e = .returned (.tuple #[v, .int .i64 (dnF xs c)]) ∧ OwnN w' w.heap.size v (dnL xs c) ∧ Below w.heap.size w w' := by
  obtain ⟨i0, hi, hz0, hz1, hz2⟩ := info_parts infoM
  have HA := hide (Joins.below_alloc1 w (.cells #[] 3))
  have HCA := hide (hc.below (unhide HA))
  have HC := hide hc
  have HL := hide hl
  unfold maxLen at hl
  clear hc
  rcases cw_cases xs c with ⟨h0, h1, _, _, h2, h3⟩ | ⟨hb, h0, h1, q, rfl, hq⟩
  · have HE := hide (And.intro h2 h3)
    by_cases hlong : 4096 < xs.length
    · have HF : Hid (cwF xs c = 2) := hide (by rw [cwF, ctF_long hlong]; rfl)
      clear h0 h1 h2 h3
      go_enter Tryd.func6, Tryd.ntmps6
      go_wp2
      go_ret2
      exact ⟨.slice (some ⟨w.heap.size, 0, none⟩) 0 0, ret_ni rfl ((unhide HE).1.trans (unhide HF)).symm, by rw [(unhide HE).2]; exact OwnN.nil _ _ _, unhide HA⟩
    · have hne := cwS_ne h0
      clear h0 h1 h2 h3
      go_enter Tryd.func6, Tryd.ntmps6
      go_wp2_with (go_at_call 22; refine (l08Ask_any ao cap xs c _ (unhide HL) (unhide HC)).mono ?_; rintro e w' ⟨rfl, hw⟩; replace hw := hw.symm; subst hw)
      go_ret2
      exact ⟨.slice (some ⟨w.heap.size, 0, none⟩) 0 0, ret_ni rfl (unhide HE).1.symm, by rw [(unhide HE).2]; exact OwnN.nil _ _ _, unhide HA⟩
  · have hlen := ctB_len hb
    have H24 := hide hlen
    have HAT := hide (ctB_at hb q hq)
    have HUP := hide (dn_at h0 hq)
    have H0 := hide h0
    obtain ⟨b, off, rfl, hcell⟩ := unhide HC q hq
    have hqi : (q : Int) < (xs.length : Int) := by omega
    have hl4 : ¬ (4096 : Int) < (xs.length : Int) := by omega
    have hm : xs.length ≤ maxLen := by unfold maxLen; omega
    have hm8 : xs.length * 8 ≤ 140737488355328 := by omega
    clear h1 h0 hlen hb
    by_cases h15 : xs[q] = 0
    · have HE := hide ((unhide HUP).1 h15)
      have b15 : (xs[q] == 0) = true := by simp [h15]
      clear h15
      go_enter Tryd.func6, Tryd.ntmps6
      go_wp2_with (first | (go_at_call 22; refine (l08Ask_any _ cap xs q _ (unhide HL) (unhide HC)).mono ?_; rintro e w' ⟨rfl, hw⟩; replace hw := hw.symm; subst hw; rw [unhide H0]) | (at_builtin; refine wpList_append_fresh rfl _ _ 22 rfl 3 i0 (.int .i64 0) 1 8 Tryd.underlying22 hi hz0 hz1 hz2 rfl (by omega) rfl _ xs.length cap (intV xs) rfl (by rw [intV_length, Nat.mul_one]) (fun h => Is.src (unhide HCA) h) hm hm8 ?_; intro qo qa W1 ho hg; have HB := hide ((unhide HA).grown hg (unhide HA).size (fun _ h => by cases h)); have HO := hide (OwnR.base ho (unhide HA).size); clear ho hg))
      go_ret2
      exact ⟨_, ret_ni rfl (unhide HE).1.symm, by rw [(unhide HE).2]; exact ⟨qo, qa, rfl, unhide HO⟩, unhide HB⟩
    · have HE := hide ((unhide HUP).2 h15)
      have b15 : (xs[q] == 0) = false := by simp [h15]
      clear h15
      go_enter Tryd.func6, Tryd.ntmps6
      go_wp2_with (go_at_call 22; refine (l08Ask_any _ cap xs q _ (unhide HL) (unhide HC)).mono ?_; rintro e w' ⟨rfl, hw⟩; replace hw := hw.symm; subst hw; rw [unhide H0])
      refine (l08Add_any _ cap xs q (-1) _ hq (unhide H24) (by have := unhide HAT; omega) (by have := unhide HAT; omega) (unhide HC)).mono ?_
      rintro e w2 ⟨v, rfl, ho, hb⟩
      have HO := hide ho
      have HB := hide hb
      clear ho hb
      go_wp2
      go_ret2
      exact ⟨v, ret_ni rfl (unhide HE).1.symm, by rw [(unhide HE).2]; exact unhide HO, unhide HB⟩

end Go.Proofs.YtjmianalknnekabDoor
