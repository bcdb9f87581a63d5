import Derived.Test.YtboolfckaagfoaaRows
import Derived.Test.YtboolfckaagfoaaPart1
import Derived.Test.YtboolfckaagfoaaPart3
import Derived.Test.YtboolfckaagfoaaPart2
import Derived.Test.YtboolfckaagfoaaPart4
import Derived.Test.YtboolfckaagfoaaPart7
import Derived.Test.YtboolfckaagfoaaPart8
import Derived.WalkKit
import Derived.WalkSpells
import Derived.KernelRfl
import Derived.LoopN
import Derived.Lib.SmallJoins
import Derived.Deep.RegionWith
import Derived.Deep.RegionHeld3
import Derived.Test.YtboolfckaagfoaaPart5

/- Contracts of the program's journals: toBegin, updatesFault, JournalPlan. -/
namespace Go.Proofs.Ytboolfckaagfoaa
open Go.RowKit
set_option linter.unusedVariables false
set_option maxRecDepth 100000

theorem slN_inI {h : Int} (hh : inB h 0 3 = true) : 0 ≤ slN h ∧ slN h ≤ 1000 := by
  have : 0 ≤ h ∧ h ≤ 3 := by simpa [inB] using hh
  unfold slN; omega
theorem bg_parts (slot seq : Int) (us : List Up) (po qo : Option Addr) (pa qa : Nat) : plM [⟨po, pa, txL slot us⟩, ⟨qo, qa, [mvH slot us.length seq]⟩] = bgL slot seq us := by simp [plM, bgL]
theorem pl_parts (slot seq : Int) (us : List Up) (h : us.length ≠ 0) (po qo : Option Addr) (pa qa : Nat) : catL [⟨po, pa, bgL slot seq us⟩, ⟨qo, qa, apL slot seq us⟩] = plL slot seq us := by
  rw [plL, if_neg h]; simp [catL]
theorem ApS.ios {w W : World} {qo : Option Addr} {n qa : Nat} {ms : List Wr} (h : ApS w W qo n qa ms) (hz : short ms) : Ios W qo ms := by
  have e := h.len
  subst e
  exact ownMv h.o hz.sizes
theorem parts_two_of (w : World) (n : Nat) (t : TypeId) (p q : Part) (m k : Nat) (hm : m = p.ws.length) (hk : k = q.ws.length) (hn : w.heap.size = n) (hp : Ios w p.ao p.ws) (hp0 : 0 < m ∧ m ≤ 20) (hq : Ios w q.ao q.ws) (hq0 : 0 < k ∧ k ≤ 20) :
    Parts (w.alloc (.cells #[.slice p.ao m p.cap, .slice q.ao k q.cap] t)) n [p, q] := by
  subst hm hk
  exact parts_two w n t p q hn ⟨hp, hp0⟩ ⟨hq, hq0⟩
theorem planOf_two (p cap : Nat) (a b : Part) (w : World) (hp : Parts w p [a, b]) :
    Calls Try.prog 44 #[.slice (some ⟨p, 0, none⟩) 2 cap] w fun e w' => ∃ qo n qa, e = .returned (.slice qo n qa) ∧ ApS w w' qo n qa (plM [a, b]) := planOf_any p cap [a, b] w (by simp) hp
theorem concat_two (p cap : Nat) (a b : Part) (w : World) (hp : Parts w p [a, b]) :
    Calls Try.prog 43 #[.slice (some ⟨p, 0, none⟩) 2 cap] w fun e w' => ∃ qo n qa, e = .returned (.slice qo n qa) ∧ ApS w w' qo n qa (catL [a, b]) := concat_any p cap [a, b] w (by simp) (by simp) hp

set_option maxHeartbeats 6400000 in
theorem toBegin_any (slot seq : Int) (ao : Option Addr) (cap : Nat) (us : List Up) (w : World) (hsl : 0 ≤ slot ∧ slot ≤ 1000) (hl : us.length ≤ 5) (hs : numB seq = true) (hub : upsB us = true) (hu : Ups w ao us) :
    Calls Try.prog 32 #[jV slot seq ao us.length cap] w fun e w' => ∃ qo n qa, e = .returned (.slice qo n qa) ∧ ApS w w' qo n qa (plL slot seq us) := by
  have HA := hide (Joins.below_alloc1 w (.cells #[.int .i64 slot, .int .i64 seq, .slice ao us.length cap] 53))
  have HV := hide (VarJ.new w 53 slot seq (.slice ao us.length cap))
  by_cases h0 : us.length = 0
  · have hb0 : (((us.length : Nat) : Int) == 0) = true := by simp [h0]
    have HE : Hid (plL slot seq us = []) := hide (if_pos h0)
    clear h0 hs hu hub
    go_enter Try.func32, Try.ntmps32
    go_wp2
    go_ret
    exact ⟨_, _, _, rfl, by rw [unhide HE]; exact ⟨.inl ⟨rfl, rfl, _, rfl⟩, unhide HA⟩⟩
  have hb0 : (((us.length : Nat) : Int) == 0) = false := by rw [beq_eq_false_iff_ne]; omega
  have hp0 : 0 < us.length := by omega
  have HS := hide hs
  have HU := hide hu
  have HUB := hide hub
  have HPL := hide (pl_parts slot seq us h0)
  have HRP : Hid (rpL slot seq us = apL slot seq us) := hide (if_neg h0)
  clear hs hu hub h0
  obtain ⟨c0, c1, c2⟩ := (unhide HV).cells
  go_enter Try.func32, Try.ntmps32
  go_wp2
  go_region_held3 (fun w' => w'.cell? ⟨w.heap.size, 0, none⟩ = some (.int .i64 slot) ∧ w'.cell? ⟨w.heap.size, 1, none⟩ = some (.int .i64 seq) ∧ w'.cell? ⟨w.heap.size, 2, none⟩ = some (.slice ao us.length cap)) (go_keep)
    (first
      | (go_at_call 45; refine (texts_any slot seq ao cap us _ hsl hl (unhide HUB) (by exact ((unhide HU).below (unhide HA)).below (Below.refl _ _).drew)).mono ?_; rintro e w2 ⟨po, pa, rfl, hap⟩; have HB2 := hide (fr (Below.refl _ _).drew hap.k); have HI2 := hide (hap.ios (short_tx (unhide HUB))); obtain ⟨d0, d1, d2⟩ := ((unhide HV).below (unhide HB2)).cells; clear hap)
      | (go_at_call 46; refine (head_any slot seq ao us.length cap us.length _ (by omega) (unhide HS)).mono ?_; rintro e w3 ⟨qo, rfl, hi3, hb3⟩; have HB3 := hide (fr (unhide HB2) hb3); have HI3 := hide hi3; have HI23 := hide ((unhide HI2).below hb3); obtain ⟨e0, e1, e2⟩ := ((unhide HV).below (unhide HB3)).cells; have hlt3 := ((unhide HV).below (unhide HB3)).lt; clear hi3 hb3)
      | (go_at_call 44; refine (planOf_two w3.heap.size 2 ⟨po, pa, txL slot us⟩ ⟨qo, 1, [mvH slot us.length seq]⟩ _ (by exact parts_two_of w3 w3.heap.size 35 ⟨po, pa, txL slot us⟩ ⟨qo, 1, [mvH slot us.length seq]⟩ us.length 1 (txL_length slot us).symm rfl rfl (unhide HI23) (by omega) (unhide HI3) (by omega))).mono ?_; rintro e w4 ⟨ro, rn, ra, rfl, hap⟩; rw [bg_parts] at hap; have HB4 := hide (fr (unhide HB3) (fr (Joins.below_alloc1 _ _) hap.k)); have HI4 := hide (hap.ios (short_bg (unhide HUB))); have HN4 := hide (hap.len.trans (bgL_length _ _ _)); obtain ⟨f0, f1, f2⟩ := ((unhide HV).below (unhide HB4)).cells; clear hap)
      | (go_at_call 47; refine (toApply_any slot seq ao cap us _ hl (fun _ => unhide HS) (unhide HUB) (by exact ((unhide HU).below (unhide HA)).below (unhide HB4))).mono ?_; rintro e w5 ⟨so, sn, sa, rfl, hap⟩; rw [unhide HRP] at hap; have HB5 := hide (fr (unhide HB4) hap.k); have HI45 := hide ((unhide HI4).below hap.k); have HI5 := hide (hap.ios (short_ap (unhide HUB))); have HN5 := hide (hap.len.trans (apL_length _ _ _)); obtain ⟨g0, g1, g2⟩ := ((unhide HV).below (unhide HB5)).cells; have hlt5 := ((unhide HV).below (unhide HB5)).lt; clear hap)
      | (go_at_call 43; refine (concat_two w5.heap.size 2 ⟨ro, ra, bgL slot seq us⟩ ⟨so, sa, apL slot seq us⟩ _ (by exact parts_two_of w5 w5.heap.size 35 ⟨ro, ra, bgL slot seq us⟩ ⟨so, sa, apL slot seq us⟩ rn sn ((unhide HN4).trans (bgL_length _ _ _).symm) ((unhide HN5).trans (apL_length _ _ _).symm) rfl (unhide HI45) (by have := unhide HN4; omega) (unhide HI5) (by have := unhide HN5; omega))).mono ?_; rintro e w6 ⟨to, tn, ta, rfl, hap⟩; rw [unhide HPL] at hap; have HB6 := hide (fr (unhide HB5) (fr (Joins.below_alloc1 _ _) hap.k)); have HAP := hide hap; obtain ⟨h0, h1, h2⟩ := ((unhide HV).below (unhide HB6)).cells; clear hap))
  all_goals
    have HF : Hid (ApS w w6 to tn ta (plL slot seq us)) := hide ⟨(unhide HAP).o.base (by have h1 := (unhide HB5).size; have h2 := (unhide HA).size; simp at h1 ⊢; omega), fr (unhide HA) (unhide HB6)⟩
    go_wp2
    go_ret
    exact ⟨_, _, _, rfl, unhide HF⟩

set_option maxHeartbeats 1600000 in
theorem updatesFault_any (seq : Int) (ao : Option Addr) (cap : Nat) (us : List Up) (w : World) (hl : us.length ≤ 4096) (hu : Ups w ao us) :
    Calls Try.prog 31 #[.int .i64 seq, .slice ao us.length cap] w fun e w' => e = .returned (.int .i64 (if numB seq = false then 4 else fuC us)) ∧ Below w.heap.size w w' := by
  have HU := hide hu
  clear hu
  by_cases h3 : numB seq = false
  · rw [if_pos h3]
    go_enter Try.func31, Try.ntmps31
    go_wp2_with fail
    refine (isNumber_any seq _).mono ?_
    rintro e w1 ⟨rfl, rfl⟩
    rw [h3]
    go_wp2
    go_ret
    exact ⟨rfl, Below.refl _ _⟩
  rw [if_neg h3]
  rw [Bool.not_eq_false] at h3
  by_cases h5 : 5 < us.length
  · have HF := hide (fuC_many h5)
    go_enter Try.func31, Try.ntmps31
    go_wp2_with fail
    refine (isNumber_any seq _).mono ?_
    rintro e w1 ⟨rfl, rfl⟩
    rw [h3]
    go_wp2
    go_ret
    exact ⟨ret_int (unhide HF).symm, Below.refl _ _⟩
  go_enter Try.func31, Try.ntmps31
  go_wp2_with fail
  refine (isNumber_any seq _).mono ?_
  rintro e w1 ⟨rfl, hw⟩
  replace hw := hw.symm
  subst hw
  rw [h3]
  go_wp2
  go_loopw [15] (fun i wr => ∃ (k : Nat), k ≤ us.length ∧ i = .int .i64 k ∧ Hid (∀ j (h : j < us.length), j < k → upB us[j] = true) ∧ Hid (Below w.heap.size w wr)) (fun i _ => us.length - (intOf i).toNat)
  case atStart => exact ⟨0, Nat.zero_le _, rfl, hide (fun j h hj => by omega), hide (Below.refl _ _)⟩
  case round =>
    obtain ⟨k, hk, rfl, HP, HB⟩ := hrel
    by_cases hlt : k < us.length
    · obtain ⟨b, off, rfl, hc0, hc1, hcz⟩ := (unhide HU).below (unhide HB) k hlt
      have hbl := World.block_lt_of_cell? _ _ hc0
      have HZ := hide hcz
      clear hcz
      go_wp2_with fail
      refine (updateOK_any us[k] _ (unhide HZ)).mono ?_
      rintro e w2 ⟨rfl, hb⟩
      have HB2 := hide (fr (belowAl (unhide HB) _) hb)
      clear hb
      by_cases hp : upB us[k] = true
      · have HPP := hide (all_succ hlt (unhide HP) hp)
        go_wp2
        go_roundw
        case rel => exact ⟨k + 1, by omega, by go_num, HPP, HB2⟩
        case measure => simp [intOf]; omega
      · rw [Bool.not_eq_true] at hp
        have HF := hide (fuC_bad h5 (all_not hlt hp))
        go_wp2
        go_ret
        exact ⟨ret_int (unhide HF).symm, unhide HB2⟩
    · have HF := hide (fuC_ok h5 (all_of (fun i hi _ => unhide HP i hi (by omega))))
      go_wp2
      go_ret
      exact ⟨ret_int (unhide HF).symm, unhide HB⟩

set_option maxHeartbeats 1600000 in
theorem journalPlan_impl (h seq : Int) (ao : Option Addr) (cap : Nat) (us : List Up) (w : World) (hl : us.length ≤ 1048576) (hu : Ups w ao us) :
    Calls Try.prog 15 #[.int .i64 h, .int .i64 seq, .slice ao us.length cap] w fun e w' => ∃ qo qa n, e = .returned (.tuple #[.slice qo n qa, .int .i64 (jpC h seq us)]) ∧ ApS w w' qo n qa (jpL h seq us) := by
  have HU := hide hu
  have H0 : Hid (∀ W, Below w.heap.size w W → ApS w W none 0 0 []) := hide (fun W hb => ⟨.inl ⟨rfl, rfl, _, rfl⟩, hb⟩)
  clear hu
  by_cases h1 : 4096 < us.length
  · have HE : Hid (jpC h seq us = 2) := hide (jpC_long h1)
    have HL := hide (jpL_no (show jpC h seq us ≠ 0 by rw [unhide HE]; decide))
    go_enter Try.func15, Try.ntmps15
    go_wp2
    go_ret2
    exact ⟨_, _, _, ret_ni rfl (unhide HE).symm, by rw [unhide HL]; exact unhide H0 _ (Below.refl _ _)⟩
  by_cases h2 : inB h 0 3 = false
  · have HE : Hid (jpC h seq us = 4) := hide (jpC_host h1 h2)
    have HL := hide (jpL_no (show jpC h seq us ≠ 0 by rw [unhide HE]; decide))
    have hsc : slC h = 4 := by simp [slC, h2]
    go_enter Try.func15, Try.ntmps15
    go_wp2_with fail
    refine (slotOf_impl h _).mono ?_
    rintro e w1 ⟨rfl, hw⟩
    replace hw := hw.symm
    subst hw
    rw [hsc]
    go_wp2
    go_ret2
    exact ⟨_, _, _, ret_ni rfl (unhide HE).symm, by rw [unhide HL]; exact unhide H0 _ (Below.refl _ _)⟩
  rw [Bool.not_eq_false] at h2
  have hsc : slC h = 0 := by simp [slC, h2]
  have hsr : slR h = slN h := by simp [slR, h2]
  obtain ⟨C, hC⟩ : ∃ C : Int, C = if numB seq = false then 4 else fuC us := ⟨_, rfl⟩
  have HQ : Hid (jpC h seq us = C) := hide (by
    rw [hC]
    by_cases h3 : numB seq = false
    · rw [if_pos h3]; exact jpC_seq h1 h2 h3
    · rw [if_neg h3]; rw [Bool.not_eq_false] at h3; exact jpC_list h1 h2 h3)
  have HF : Hid (∀ W, Ups W ao us → Calls Try.prog 31 #[.int .i64 seq, .slice ao us.length cap] W fun e w' => e = .returned (.int .i64 C) ∧ Below W.heap.size W w') := hide (fun W hW => by rw [hC]; exact updatesFault_any seq ao cap us W (by omega) hW)
  have H2 := hide (slN_inI h2)
  have HCQ := hide hC
  clear hC
  go_enter Try.func15, Try.ntmps15
  go_wp2_with fail
  refine (slotOf_impl h _).mono ?_
  rintro e w1 ⟨rfl, hw⟩
  replace hw := hw.symm
  subst hw
  rw [hsc, hsr]
  go_wp2_with fail
  refine (unhide HF _ (unhide HU)).mono ?_
  rintro e w1 ⟨rfl, hb⟩
  have HB := hide hb
  clear hb
  by_cases hc : C = 0
  · have hcb : (C != 0) = false := by simp [hc]
    have HC : Hid (jpC h seq us = 0) := hide ((unhide HQ).trans hc)
    have hC := unhide HCQ
    have h3 : numB seq = true := by
      rw [hc] at hC
      cases h3 : numB seq with
      | true => rfl
      | false => rw [if_pos h3] at hC; cases hC
    have hfu : fuC us = 0 := by rw [hc, if_neg (by simp [h3])] at hC; exact hC.symm
    obtain ⟨h5, hub⟩ := fuC_zero hfu
    have HUB := hide hub
    have H3 := hide h3
    have HL := hide (jpL_yes (unhide HC))
    clear hub hfu h3 hC
    go_wp2_with fail
    refine (toBegin_any (slN h) seq ao cap us _ (unhide H2) h5 (unhide H3) (unhide HUB) ((unhide HU).below (unhide HB))).mono ?_
    rintro e w2 ⟨qo, n, qa, rfl, ha⟩
    have HA : Hid (ApS w w2 qo n qa (plL (slN h) seq us)) := hide ⟨ha.o.base (unhide HB).size, fr (unhide HB) ha.k⟩
    clear ha
    go_wp2
    go_ret2
    exact ⟨_, _, _, ret_ni rfl (unhide HC).symm, by rw [unhide HL]; exact unhide HA⟩
  · have hcb : (C != 0) = true := by simp [hc]
    have HL := hide (jpL_no (show jpC h seq us ≠ 0 by rw [unhide HQ]; exact hc))
    clear hc
    go_wp2
    go_ret2
    exact ⟨_, _, _, ret_ni rfl (unhide HQ).symm, by rw [unhide HL]; exact unhide H0 _ (unhide HB)⟩

end Go.Proofs.Ytboolfckaagfoaa

/- The walk of laws.FnExactJournalPlan. -/
namespace Go.Proofs.Ytboolfckaagfoaa
open Go.RowKit
set_option linter.unusedVariables false
set_option maxRecDepth 100000

theorem eqWB_self (xs : List Wr) : eqWB xs xs = true := @decide_eq_true (xs = xs) (decWrs xs xs) rfl
theorem jpL_right {h seq : Int} {us : List Up} : short (jpL h seq us) ∧ (jpL h seq us).length ≤ 16 := by
  by_cases hc : jpC h seq us = 0
  · rw [jpL_yes hc]
    have hf : us.length ≤ 5 ∧ upsB us = true := by
      unfold jpC at hc
      split at hc
      · cases hc
      · split at hc
        · cases hc
        · split at hc
          · cases hc
          · exact fuC_zero hc
    refine ⟨short_pl hf.2, ?_⟩
    unfold plL
    split
    · simp
    · rw [List.length_append, bgL_length, apL_length]; omega
  · rw [jpL_no hc]
    exact ⟨short_nil, by simp⟩
theorem ups_ne : (30 : Nat) ≠ 57 := by decide

set_option maxHeartbeats 3200000 in
theorem lawJournalPlan (h seq : Int) (ao : Option Addr) (ca : Nat) (us : List Up) (w : World) (hl : us.length ≤ maxLen) (hu : Ups w ao us) :
    Calls Try.prog 5 #[.int .i64 h, .int .i64 seq, .slice ao us.length ca] w fun e w' => e = .returned (.bool true) ∧ Below w.heap.size w w' := by
  have HU := hide hu
  have HZ := hide hu.sizes
  have HL := hide hl
  obtain ⟨hshort, hml⟩ := jpL_right (h := h) (seq := seq) (us := us)
  have HMZ := hide hshort.sizes
  clear hu hl hshort
  obtain ⟨ms, hms⟩ : ∃ ms, ms = jpL h seq us := ⟨_, rfl⟩
  have HMS := hide hms
  rw [← hms] at HMZ hml
  clear hms
  obtain ⟨cd, hcd⟩ : ∃ cd, cd = jpC h seq us := ⟨_, rfl⟩
  have HCD := hide hcd
  clear hcd
  go_enter Try.func5, Try.ntmps5
  go_wp2_with fail
  refine (szUpdateS_any ao ca us 1048576 _ (unhide HL) (unhide HU) (by omega) (by omega)).mono ?_
  rintro e w1 ⟨r, rfl, hr0, hr1, hr2, hb⟩
  have HB1 := hide hb
  clear hb
  by_cases hr : r < 0
  · go_wp2
    go_ret
    exact ⟨rfl, unhide HB1⟩
  have hls : us.length ≤ 1048576 := by have := hr2 (by omega); omega
  clear hr2
  -- the model's answer
  go_wp2_with fail
  refine (toUpdateS_any ao ca us _ hls ((unhide HU).below (unhide HB1))).mono ?_
  rintro e w2 ⟨g1, rfl, ho, hb⟩
  have HU2 := hide (ownUps (OwnR.of ho (fun h0 => ⟨_, by rw [h0]⟩)) (unhide HZ))
  have HB2 := hide (fr (unhide HB1) hb)
  clear ho hb
  go_wp2_with fail
  refine (journalPlan_spec h seq _ _ us _ hls (unhide HU2)).mono ?_
  rintro e w3 ⟨qo, qa, n, rfl, ha⟩
  rw [← unhide HMS] at ha
  rw [← unhide HCD]
  obtain rfl := ha.len
  have HW3 := hide ha.o
  have HB3 := hide (fr (unhide HB2) ha.k)
  clear ha
  -- the program's
  go_wp2_with fail
  refine (toUpdateS_any ao ca us _ hls ((unhide HU).below (unhide HB3))).mono ?_
  rintro e w4 ⟨g2, rfl, ho, hb⟩
  have HX4 : Hid (OwnR w4 w3.heap.size 30 2 (.slice (some ⟨g2, 0, none⟩) us.length us.length) us.length (upsV us)) := hide (OwnR.of ho (fun h0 => ⟨_, by rw [h0]⟩))
  have HW4 := hide ((unhide HW3).below hb)
  have HC4 : Hid (∀ k, Own (.slice qo ms.length qa) k → k < w4.heap.size) := hide (fun k hk => ((unhide HW4).ge k hk).2)
  have HB4 := hide (fr (unhide HB3) hb)
  clear ho hb
  go_wp2_with fail
  refine (journalPlan_impl h seq _ _ us _ hls (ownUps (unhide HX4) (unhide HZ))).mono ?_
  rintro e w5 ⟨po, pa, n, rfl, ha⟩
  rw [← unhide HMS] at ha
  rw [← unhide HCD]
  obtain rfl := ha.len
  have HG5 := hide ha.o
  have HX5 := hide ((unhide HX4).below ha.k)
  have HW5 := hide ((unhide HW4).below ha.k)
  have HB5 := hide (fr (unhide HB4) ha.k)
  clear ha
  have HEQ := hide (eqWB_self ms)
  have hml' : ms.length ≤ maxLen := by unfold maxLen; omega
  go_wp2_with fail
  refine (eqMoveS_any po qo pa qa ms ms _ hml' (ownMv (unhide HG5) (unhide HMZ)) (ownMv (unhide HW5) (unhide HMZ))).mono ?_
  rintro e w6 ⟨rfl, hb⟩
  rw [unhide HEQ]
  have HG6 := hide ((unhide HG5).below hb)
  have HX6 := hide ((unhide HX5).below hb)
  have HW6 := hide ((unhide HW5).below hb)
  have HB6 := hide (fr (unhide HB5) hb)
  clear hb
  go_wp2_with fail
  refine (toUpdateS_any ao ca us _ hls ((unhide HU).below (unhide HB6))).mono ?_
  rintro e w7 ⟨g3, rfl, ho, hb⟩
  have HU7 := hide (ownUps (OwnR.of ho (fun h0 => ⟨_, by rw [h0]⟩)) (unhide HZ))
  have HG7 := hide ((unhide HG6).below hb)
  have HX7 := hide ((unhide HX6).below hb)
  have HW7 := hide ((unhide HW6).below hb)
  have HB7 := hide (fr (unhide HB6) hb)
  clear ho hb
  go_wp2_with fail
  refine (eqUpdateS_same _ _ _ _ us _ hls (ownUps (unhide HX7) (unhide HZ)) (unhide HU7)).mono ?_
  rintro e w8 ⟨rfl, hb⟩
  have HG8 := hide ((unhide HG7).below hb)
  have HX8 := hide ((unhide HX7).below hb)
  have HW8 := hide ((unhide HW7).below hb)
  have HB8 := hide (fr (unhide HB7) hb)
  clear hb
  -- the argument is marked
  go_wp2_with fail
  refine (markUpdateS_any _ us.length 1 (upsV us) w3.heap.size _ (by omega) (by omega) (by omega) (unhide HX8)).mono ?_
  rintro e w9 ⟨rfl, _, hk⟩
  have HG9 := hide ((unhide HG8).keep hk (fun g hg hx => own_apart (unhide HX8) (unhide HG8) ups_ne g hx hg))
  have HW9 := hide ((unhide HW8).keep hk (fun g hg hx => own_apart (unhide HX8) (unhide HW8) ups_ne g hx hg))
  have HB9 := hide (belowKp (unhide HB8) hk (fun j hj => Nat.le_trans (unhide HB3).size ((unhide HX8).ge j hj).1))
  clear hk
  have hk1 : ¬ (((1 + 2 * us.length : Nat) : Int) < 0) := by omega
  go_wp2_with fail
  refine (eqMoveS_any po qo pa qa ms ms _ hml' (ownMv (unhide HG9) (unhide HMZ)) (ownMv (unhide HW9) (unhide HMZ))).mono ?_
  rintro e w10 ⟨rfl, hb⟩
  rw [unhide HEQ]
  have HG10 := hide ((unhide HG9).below hb)
  have HW10 := hide ((unhide HW9).below hb)
  have HB10 := hide (fr (unhide HB9) hb)
  clear hb
  -- the answer is marked
  go_wp2_with fail
  refine (markMoveS_any _ ms.length 1 (ioV ms) w4.heap.size _ (by omega) (by omega) (by omega) (unhide HG10)).mono ?_
  rintro e w11 ⟨rfl, ho, hk⟩
  have HG11 := hide ho
  have HW11 := hide ((unhide HW10).keep hk (fun g hg hx => by have h1 := unhide HC4 g hg; have h2 := ((unhide HG10).ge g hx).1; omega))
  have HB11 := hide (belowKp (unhide HB10) hk (fun j hj => Nat.le_trans (unhide HB4).size ((unhide HG10).ge j hj).1))
  clear ho hk
  go_wp2_with fail
  refine (heldMoveS_any _ ms.length 1 w4.heap.size _ (by omega) (by omega) (by omega) (unhide HG11)).mono ?_
  rintro e w12 ⟨rfl, hb⟩
  have HG12 := hide ((unhide HG11).below hb)
  have HW12 := hide ((unhide HW11).below hb)
  have HB12 := hide (fr (unhide HB11) hb)
  clear hb
  have hk3 : ¬ (((1 + 3 * ms.length : Nat) : Int) < 0) := by omega
  -- the program again
  go_wp2_with fail
  refine (toUpdateS_any ao ca us _ hls ((unhide HU).below (unhide HB12))).mono ?_
  rintro e w13 ⟨g4, rfl, ho, hb⟩
  have HU13 := hide (ownUps (OwnR.of ho (fun h0 => ⟨_, by rw [h0]⟩)) (unhide HZ))
  have HG13 := hide ((unhide HG12).below hb)
  have HW13 := hide ((unhide HW12).below hb)
  have HB13 := hide (fr (unhide HB12) hb)
  clear ho hb
  go_wp2_with fail
  refine (journalPlan_impl h seq _ _ us _ hls (unhide HU13)).mono ?_
  rintro e w14 ⟨ro, ra, n, rfl, ha⟩
  rw [← unhide HMS] at ha
  rw [← unhide HCD]
  obtain rfl := ha.len
  have HH14 := hide ha.o
  have HG14 := hide ((unhide HG13).below ha.k)
  have HW14 := hide ((unhide HW13).below ha.k)
  have HB14 := hide (fr (unhide HB13) ha.k)
  clear ha
  go_wp2_with fail
  refine (eqMoveS_any ro qo ra qa ms ms _ hml' (ownMv (unhide HH14) (unhide HMZ)) (ownMv (unhide HW14) (unhide HMZ))).mono ?_
  rintro e w15 ⟨rfl, hb⟩
  rw [unhide HEQ]
  have HG15 := hide ((unhide HG14).below hb)
  have HB15 := hide (fr (unhide HB14) hb)
  clear hb
  go_wp2_with fail
  refine (heldMoveS_any _ ms.length 1 w4.heap.size _ (by omega) (by omega) (by omega) (unhide HG15)).mono ?_
  rintro e w16 ⟨rfl, hb⟩
  have HB16 := hide (fr (unhide HB15) hb)
  clear hb
  go_wp2
  go_ret
  exact ⟨rfl, unhide HB16⟩

end Go.Proofs.Ytboolfckaagfoaa
