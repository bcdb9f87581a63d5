import Derived.Test.YtpdpnepnfhbonaaGreatRows
import Derived.Test.YtpdpnepnfhbonaaGreatXReqDoPart1
import Derived.Test.YtpdpnepnfhbonaaGreatXReqDoPart3
import Derived.WalkKit
import Derived.WalkSpells
import Derived.LoopN
import Derived.BigQuiet
import Derived.Deep.QuietTactic
import Derived.Deep.RegionWith
import Derived.Test.YtpdpnepnfhbonaaGreatXReqDoPart2
import Derived.Deep.RegionHeld3
import Derived.KernelRfl
import Derived.Deep.CutRange
import Derived.Orders
import Derived.Still

namespace Go.Proofs.YtpdpnepnfhbonaaGreat
open Go.RowKit
set_option linter.unusedVariables false
set_option maxRecDepth 100000

theorem snm_get {t : ByteArray} {k : Nat} (h : k < t.size) : t.data.toList[k]? = some t[k] := by
  rw [Array.getElem?_toList]; exact Array.getElem?_eq_getElem h
theorem snm_bad {t : ByteArray} {k : Nat} (h : k < t.size) (hb : nm1 t[k] = false) : snmB t = false := by
  have h2 : k < t.data.toList.length := by simpa using h
  have e : t.data.toList[k] = t[k] := by have := snm_get h; rw [List.getElem?_eq_getElem h2] at this; exact Option.some.inj this
  rw [snmB, all_not (p := nm1) h2 (by rw [e]; exact hb)]; rfl
theorem snm_all {t : ByteArray} (h : ∀ j (h : j < t.size), nm1 t[j] = true) : snmB t = betw (t.size : Int) 1 6 := by
  rw [snmB, all_of (p := nm1) (fun i hi _ => ?_)]
  · simp
  · have h1 : i < t.size := by simpa using hi
    have e : t.data.toList[i] = t[i] := by have := snm_get h1; rw [List.getElem?_eq_getElem hi] at this; exact Option.some.inj this
    rw [e]; exact h i h1

set_option maxHeartbeats 800000 in
theorem l10Name_any (t : ByteArray) (w : World) (hz : t.size ≤ maxLen) :
    Calls Tryz.prog 93 #[.string t] w fun e w' => e = .returned (.bool (snmB t)) ∧ w' = w := by
  unfold maxLen at hz
  go_enter Tryz.func93, Tryz.ntmps93
  go_wp2
  go_loop [3] (fun i => ∃ k : Nat, k ≤ t.size ∧ i = .int .i64 k ∧ Hid (∀ j (h : j < t.size), j < k → nm1 t[j] = true)) (fun i => t.size - (intOf i).toNat)
  case atStart => exact ⟨0, Nat.zero_le _, rfl, hide (fun j _ h => by omega)⟩
  case round =>
    obtain ⟨k, hk, rfl, HA⟩ := hrel
    by_cases hlt : k < t.size
    · by_cases hlo : 97 ≤ t[k].toNat
      · by_cases hhi : t[k].toNat ≤ 122
        · have HN : Hid (∀ j (h : j < t.size), j < k + 1 → nm1 t[j] = true) := hide (fun j h hj => by
            by_cases e : j = k
            · subst e; simp [nm1, hlo, hhi]
            · exact unhide HA j h (by omega))
          have h1 : ¬ ((t[k].toNat : Int) < 97) := by omega
          have h2 : ¬ (122 < (t[k].toNat : Int)) := by omega
          go_wp2
          go_round
          case rel => exact ⟨k + 1, by omega, by go_num, HN⟩
          case measure => simp [intOf]; omega
        · have HF := hide (snm_bad hlt (by simp [nm1]; omega))
          have h1 : ¬ ((t[k].toNat : Int) < 97) := by omega
          have h2 : (122 < (t[k].toNat : Int)) := by omega
          go_wp2
          go_ret
          exact ⟨ret_bool (unhide HF).symm, rfl⟩
      · have HF := hide (snm_bad hlt (by simp [nm1]; omega))
        have h1 : ((t[k].toNat : Int) < 97) := by omega
        go_wp2
        go_ret
        exact ⟨ret_bool (unhide HF).symm, rfl⟩
    · have HF := hide (snm_all (fun j h => unhide HA j h (by omega)))
      go_wp2_with (go_at_call 71; refine (in_any _ _ _ _).mono ?_; rintro e w' ⟨rfl, hw⟩; replace hw := hw.symm; subst hw)
      go_ret
      exact ⟨ret_bool (unhide HF).symm, rfl⟩

theorem nodup_snoc {α : Type} {xs : List α} {k : Nat} (hk : k < xs.length) (h : (xs.take k).Nodup) (hn : ∀ j (hj : j < xs.length), j < k → xs[j] ≠ xs[k]) : (xs.take (k + 1)).Nodup := by
  rw [List.take_succ_eq_append_getElem hk, List.nodup_append]
  refine ⟨h, by simp, ?_⟩
  intro a ha b hb
  rw [List.mem_singleton] at hb
  subst hb
  obtain ⟨j, hj, rfl⟩ := List.mem_iff_getElem.1 ha
  rw [List.length_take] at hj
  rw [List.getElem_take]
  exact hn j (by omega) (by omega)
theorem not_nodup {α : Type} {xs : List α} {i k : Nat} (hi : i < xs.length) (hk : k < i) (he : xs[i] = xs[k]) : ¬ xs.Nodup := by
  intro h
  exact (List.pairwise_iff_getElem.1 h) k i (by omega) hi hk he.symm

set_option maxHeartbeats 1600000 in
theorem l10Twice_any (ao : Option Addr) (cap : Nat) (xs : List Int) (w : World) (hb : tbB xs = true) (hc : Is w ao xs) :
    Calls Tryz.prog 54 #[.slice ao xs.length cap] w fun e w' => e = .returned (.bool (!onceB xs)) ∧ Below w.heap.size w w' := by
  have HC := hide hc
  have HX := hide (tbB_len hb)
  have HIN : Hid (∀ j (h : j < xs.length), -1000 ≤ xs[j] ∧ xs[j] ≤ 1000) := hide (fun j h => by have := tbB_at hb j h; omega)
  have HLC : Hid ((clA xs).length ≤ 12) := hide (by have := clTo_len xs xs.length; have := tbB_len hb; unfold clA; omega)
  clear hc hb
  go_enter Tryz.func54, Tryz.ntmps54
  go_wp2_with fail
  refine (l09Clusters_any ao cap xs _ (by have := unhide HX; omega) (unhide HIN) (unhide HC)).mono ?_
  rintro e w1 ⟨v, rfl, ⟨qo, qa, rfl, ho⟩, hb1⟩
  have HB1 := hide hb1
  have HI := hide (ownRN ho)
  clear ho hb1
  have HON : Hid (onceB xs = decide (clA xs).Nodup) := hide rfl
  generalize clA xs = L at *
  have hl := unhide HLC
  go_wp2
  go_loopw [4] (fun i wr => ∃ k : Nat, k ≤ L.length ∧ i = .int .i64 k ∧ Hid ((L.take k).Nodup) ∧ Hid (Below w1.heap.size w1 wr)) (fun i _ => L.length - (intOf i).toNat)
  case atStart => exact ⟨0, Nat.zero_le _, rfl, hide (by simp), hide (Below.refl _ _)⟩
  case round =>
    obtain ⟨i, hi, rfl, HN, HB⟩ := hrel
    by_cases hlt : i < L.length
    · go_wp2
      go_loopw [5] (fun k wq => ∃ j : Nat, j ≤ i ∧ k = .int .i64 j ∧ Hid (∀ p (hp : p < L.length), p < j → L[p] ≠ L[i]) ∧ Hid (Below w1.heap.size w1 wq)) (fun k _ => i - (intOf k).toNat)
      case atStart => exact ⟨0, Nat.zero_le _, rfl, hide (fun p _ h => by omega), HB⟩
      case round =>
        clear HB
        obtain ⟨j, hj, rfl, HP, HB⟩ := hrel
        by_cases hjl : j < i
        · obtain ⟨b, off, rfl, hc1⟩ := (unhide HI).below (unhide HB) i hlt
          obtain ⟨b2, off2, e2, hc2⟩ := (unhide HI).below (unhide HB) j (by omega)
          cases e2
          have hjL : j < L.length := by omega
          by_cases he : L[i] = L[j]
          · have HF : Hid (onceB xs = false) := hide (by rw [unhide HON]; exact decide_eq_false (not_nodup hlt hjl he))
            have be : (L[i] == L[j]) = true := by simp [he]
            clear he
            go_wp2
            go_quiet (fail)
            go_wp2
            go_ret
            exact ⟨ret_bool (by rw [unhide HF]; rfl), fr (unhide HB1) ((unhide HB).trans (Joins.below_draws _ _ _))⟩
          · have HP' : Hid (∀ p (hp : p < L.length), p < j + 1 → L[p] ≠ L[i]) := hide (fun p hp h => by
              by_cases e : p = j
              · subst e; exact fun e => he e.symm
              · exact unhide HP p hp (by omega))
            have be : (L[i] == L[j]) = false := by simp [he]
            clear he
            go_wp2
            go_quiet (fail)
            go_wp2
            go_roundw
            case rel => exact ⟨j + 1, by omega, by go_num, HP', hide ((unhide HB).trans (Joins.below_draws _ _ _))⟩
            case measure => simp [intOf]; omega
        · have HN' := hide (nodup_snoc hlt (unhide HN) (fun p hp h => unhide HP p hp (by omega)))
          go_wp2
          go_roundw
          case rel => exact ⟨i + 1, by omega, by go_num, HN', HB⟩
          case measure => simp [intOf]; omega
    · have HF : Hid (onceB xs = true) := hide (by
        rw [unhide HON]
        have := unhide HN
        rw [List.take_of_length_le (by omega)] at this
        exact decide_eq_true this)
      go_wp2
      go_ret
      exact ⟨ret_bool (by rw [unhide HF]; rfl), fr (unhide HB1) (unhide HB)⟩

end Go.Proofs.YtpdpnepnfhbonaaGreat

namespace Go.Proofs.YtpdpnepnfhbonaaGreat
open Go.RowKit
set_option linter.unusedVariables false
set_option maxRecDepth 100000

structure ImL (m : Img) : Prop where
  r : m.refs.length ≤ maxLen
  t : m.table.length ≤ maxLen
  s : m.snaps.length ≤ maxLen
  d : m.data.length ≤ maxLen
theorem fm_refs {m : Img} (h : ctB m.refs = false) : imFm m = false := by simp [imFm, h]
theorem fm_table {m : Img} (h : tbB m.table = false) : imFm m = false := by simp [imFm, h]
theorem fm_few {m : Img} (h : ¬ m.snaps.length ≤ 3) : imFm m = false := by simp [imFm, h]
theorem fm_data {m : Img} (h : ¬ m.data.length = 24) : imFm m = false := by simp [imFm, h]
theorem fm_snap {m : Img} {k : Nat} (hk : k < m.snaps.length) (h : (snmB m.snaps[k].name && tbB m.snaps[k].table) = false) : imFm m = false := by
  have e := all_not (p := fun s : Snp => snmB s.name && tbB s.table) hk h
  simp only [imFm, e, Bool.and_false, Bool.false_and]
theorem fm_twice {m : Img} {i k : Nat} (hi : i < m.snaps.length) (hk : k < i) (h : m.snaps[i].name = m.snaps[k].name) : imFm m = false := by
  have e : namesB m.snaps = false := decide_eq_false (not_nodup (xs := m.snaps.map (·.name)) (i := i) (k := k) (by simpa using hi) hk (by simpa using h))
  simp only [imFm, e, Bool.and_false, Bool.false_and]
theorem fm_num {m : Img} {k : Nat} (hk : k < m.data.length) (h : numB m.data[k] = false) : imFm m = false := by
  have e := all_not (p := numB) hk h
  simp only [imFm, e, Bool.and_false]
theorem fm_yes {m : Img} (h1 : ctB m.refs = true) (h2 : tbB m.table = true) (h3 : m.snaps.length ≤ 3) (h4 : m.data.length = 24) (h5 : ∀ j (hj : j < m.snaps.length), (snmB m.snaps[j].name && tbB m.snaps[j].table) = true) (h6 : (m.snaps.map (·.name)).Nodup) (h7 : ∀ j (hj : j < m.data.length), numB m.data[j] = true) : imFm m = true := by
  have e5 : m.snaps.all (fun s => snmB s.name && tbB s.table) = true := all_of (p := fun s : Snp => snmB s.name && tbB s.table) (fun i hi _ => h5 i hi)
  have e7 : m.data.all numB = true := all_of (p := numB) (fun i hi _ => h7 i hi)
  have e6 : namesB m.snaps = true := decide_eq_true h6
  simp only [imFm, h1, h2, h3, h4, e5, e6, e7, decide_true, Bool.and_true]

set_option maxHeartbeats 3200000 in
theorem l10Form_any (a : Im4) (m : Img) (w : World) (hL : ImL m) (hc : ImS w a m) :
    Calls Tryz.prog 53 #[imV a m] w fun e w' => e = .returned (.bool (imFm m)) ∧ Below w.heap.size w w' := by
  have HA := hide (Joins.below_alloc1 w (.cells #[.slice a.ro m.refs.length a.rc, .slice a.tq m.table.length a.tc, .slice a.so m.snaps.length a.sc, .slice a.dq m.data.length a.dc] 32))
  have HV := hide (VarM.new w 32 (.slice a.ro m.refs.length a.rc) (.slice a.tq m.table.length a.tc) (.slice a.so m.snaps.length a.sc) (.slice a.dq m.data.length a.dc))
  have HC := hide (hc.below (unhide HA))
  have HL := hide hL
  clear hc hL
  have hs64 : m.snaps.length ≤ 9223372036854775807 := (unhide HL).s
  have hd64 : m.data.length ≤ 9223372036854775807 := (unhide HL).d
  cases h1 : ctB m.refs
  · have HF := hide (fm_refs h1)
    go_enter Tryz.func53, Tryz.ntmps53
    go_upto_region 1 with fail
    revert HA HV HC
    generalize (w.alloc _) = W0
    intro HA HV HC
    obtain ⟨c0, c1, c2, c3⟩ := (unhide HV).cells
    go_wp2_with (go_at_call 91; refine (refsOK_spec _ _ m.refs _ (unhide HL).r (unhide HC).r).mono ?_; rintro e w' ⟨rfl, hw⟩; replace hw := hw.symm; subst hw; rw [h1])
    go_ret
    exact ⟨ret_bool (unhide HF).symm, unhide HA⟩
  cases h2 : tbB m.table
  · have HF := hide (fm_table h2)
    go_enter Tryz.func53, Tryz.ntmps53
    go_upto_region 1 with fail
    revert HA HV HC
    generalize (w.alloc _) = W0
    intro HA HV HC
    obtain ⟨c0, c1, c2, c3⟩ := (unhide HV).cells
    go_wp2_with (first | (go_at_call 91; refine (refsOK_spec _ _ m.refs _ (unhide HL).r (unhide HC).r).mono ?_; rintro e w' ⟨rfl, hw⟩; replace hw := hw.symm; subst hw; rw [h1]) | (go_at_call 92; refine (tableOK_spec _ _ m.table _ (unhide HL).t (unhide HC).t).mono ?_; rintro e w' ⟨rfl, hw⟩; replace hw := hw.symm; subst hw; rw [h2]))
    go_ret
    exact ⟨ret_bool (unhide HF).symm, unhide HA⟩
  by_cases h3 : m.snaps.length ≤ 3
  rotate_left
  · have HF := hide (fm_few h3)
    have h3i : (3 : Int) < (m.snaps.length : Int) := by omega
    go_enter Tryz.func53, Tryz.ntmps53
    go_upto_region 1 with fail
    revert HA HV HC
    generalize (w.alloc _) = W0
    intro HA HV HC
    obtain ⟨c0, c1, c2, c3⟩ := (unhide HV).cells
    go_wp2_with (first | (go_at_call 91; refine (refsOK_spec _ _ m.refs _ (unhide HL).r (unhide HC).r).mono ?_; rintro e w' ⟨rfl, hw⟩; replace hw := hw.symm; subst hw; rw [h1]) | (go_at_call 92; refine (tableOK_spec _ _ m.table _ (unhide HL).t (unhide HC).t).mono ?_; rintro e w' ⟨rfl, hw⟩; replace hw := hw.symm; subst hw; rw [h2]))
    go_ret
    exact ⟨ret_bool (unhide HF).symm, unhide HA⟩
  by_cases h4 : m.data.length = 24
  rotate_left
  · have HF := hide (fm_data h4)
    have h3i : ¬ (3 : Int) < (m.snaps.length : Int) := by omega
    have h4b : ((m.data.length : Int) != 24) = true := by simp; omega
    clear h4
    go_enter Tryz.func53, Tryz.ntmps53
    go_upto_region 1 with fail
    revert HA HV HC
    generalize (w.alloc _) = W0
    intro HA HV HC
    obtain ⟨c0, c1, c2, c3⟩ := (unhide HV).cells
    go_wp2_with (first | (go_at_call 91; refine (refsOK_spec _ _ m.refs _ (unhide HL).r (unhide HC).r).mono ?_; rintro e w' ⟨rfl, hw⟩; replace hw := hw.symm; subst hw; rw [h1]) | (go_at_call 92; refine (tableOK_spec _ _ m.table _ (unhide HL).t (unhide HC).t).mono ?_; rintro e w' ⟨rfl, hw⟩; replace hw := hw.symm; subst hw; rw [h2]))
    go_ret
    exact ⟨ret_bool (unhide HF).symm, unhide HA⟩
  have h3i : ¬ (3 : Int) < (m.snaps.length : Int) := by omega
  have h4b : ((m.data.length : Int) != 24) = false := by simp [h4]
  have H4 := hide h4
  have HYES := hide (fun h5 h6 h7 => fm_yes (m := m) h1 h2 h3 h4 h5 h6 h7)
  clear h4
  go_enter Tryz.func53, Tryz.ntmps53
  go_upto_region 1 with fail
  revert HA HV HC
  generalize (w.alloc _) = W0
  intro HA HV HC
  obtain ⟨c0, c1, c2, c3⟩ := (unhide HV).cells
  go_wp2_with (first | (go_at_call 91; refine (refsOK_spec _ _ m.refs _ (unhide HL).r (unhide HC).r).mono ?_; rintro e w' ⟨rfl, hw⟩; replace hw := hw.symm; subst hw; rw [h1]) | (go_at_call 92; refine (tableOK_spec _ _ m.table _ (unhide HL).t (unhide HC).t).mono ?_; rintro e w' ⟨rfl, hw⟩; replace hw := hw.symm; subst hw; rw [h2]))
  clear c0 c1 c2 c3 h1 h2
  go_loopw [3] (fun i wr => ∃ k : Nat, k ≤ m.snaps.length ∧ i = .int .i64 k ∧ Hid (∀ j (hj : j < m.snaps.length), j < k → (snmB m.snaps[j].name && tbB m.snaps[j].table) = true) ∧ Hid (((m.snaps.map (·.name)).take k).Nodup) ∧ Hid (Below W0.heap.size W0 wr)) (fun i _ => m.snaps.length - (intOf i).toNat)
  case atStart => exact ⟨0, Nat.zero_le _, rfl, hide (fun j _ h => by omega), hide (by simp), hide (Below.refl _ _)⟩
  case round =>
    obtain ⟨i, hi, rfl, HS, HN, HB⟩ := hrel
    obtain ⟨c0, c1, c2, c3⟩ := ((unhide HV).below (unhide HB)).cells
    by_cases hlt : i < m.snaps.length
    · obtain ⟨b, off, tq, tc, eb, hn0, ht0, hIs, hz, htl⟩ := ((unhide HC).s.below (unhide HB)) i hlt
      rw [eb] at c2
      have EB := hide eb
      clear eb
      have hlti : (i : Int) < (m.snaps.length : Int) := by omega
      have HIS := hide hIs
      have HZ := hide hz
      have HTL := hide htl
      clear hIs hz htl
      by_cases hok : snmB m.snaps[i].name = true
      rotate_left
      · have hok' : snmB m.snaps[i].name = false := by simpa using hok
        have HF := hide (fm_snap hlt (by rw [hok']; rfl))
        clear hok
        go_wp2_with (go_at_call 93; refine (l10Name_any _ _ (unhide HZ)).mono ?_; rintro e w' ⟨rfl, hw⟩; replace hw := hw.symm; subst hw; rw [hok'])
        go_ret
        exact ⟨ret_bool (unhide HF).symm, fr (unhide HA) (unhide HB)⟩
      by_cases htb : tbB m.snaps[i].table = true
      rotate_left
      · have htb' : tbB m.snaps[i].table = false := by simpa using htb
        have HF := hide (fm_snap hlt (by rw [htb', Bool.and_false]))
        clear htb
        go_wp2_with (first | (go_at_call 93; refine (l10Name_any _ _ (unhide HZ)).mono ?_; rintro e w' ⟨rfl, hw⟩; replace hw := hw.symm; subst hw; rw [hok]) | (go_at_call 92; refine (tableOK_spec _ _ m.snaps[i].table _ (unhide HTL) (unhide HIS)).mono ?_; rintro e w' ⟨rfl, hw⟩; replace hw := hw.symm; subst hw; rw [htb']))
        go_ret
        exact ⟨ret_bool (unhide HF).symm, fr (unhide HA) (unhide HB)⟩
      have HS' := hide (all_succ (p := fun s : Snp => snmB s.name && tbB s.table) hlt (unhide HS) (by rw [hok, htb]; rfl))
      go_wp2_with (first | (go_at_call 93; refine (l10Name_any _ _ (unhide HZ)).mono ?_; rintro e w' ⟨rfl, hw⟩; replace hw := hw.symm; subst hw; rw [hok]) | (go_at_call 92; refine (tableOK_spec _ _ m.snaps[i].table _ (unhide HTL) (unhide HIS)).mono ?_; rintro e w' ⟨rfl, hw⟩; replace hw := hw.symm; subst hw; rw [htb]))
      clear c0 c1 c2 c3 hn0 ht0 hok htb HIS HTL HZ
      go_loopw [4] (fun k wq => ∃ j : Nat, j ≤ i ∧ k = .int .i64 j ∧ Hid (∀ p (hp : p < (m.snaps.map (·.name)).length), p < j → (m.snaps.map (·.name))[p] ≠ (m.snaps.map (·.name))[i]'(by simpa using hlt)) ∧ Hid (Below W0.heap.size W0 wq)) (fun k _ => i - (intOf k).toNat)
      case atStart => exact ⟨0, Nat.zero_le _, rfl, hide (fun p _ h => by omega), HB⟩
      case round =>
        clear HB
        obtain ⟨j, hj, rfl, HP, HB⟩ := hrel
        obtain ⟨c0, c1, c2, c3⟩ := ((unhide HV).below (unhide HB)).cells
        by_cases hjl : j < i
        · have hjs : j < m.snaps.length := by omega
          have hjsi : (j : Int) < (m.snaps.length : Int) := by omega
          obtain ⟨b1, off1, tq1, tc1, e1, hn1, _, _, _, _⟩ := ((unhide HC).s.below (unhide HB)) i hlt
          obtain ⟨b2, off2, tq2, tc2, e2, hn2, _, _, _, _⟩ := ((unhide HC).s.below (unhide HB)) j hjs
          rw [unhide EB] at c2 e1 e2
          cases e1
          cases e2
          by_cases he : m.snaps[j].name = m.snaps[i].name
          · have HF := hide (fm_twice hlt hjl he.symm)
            have be : (m.snaps[j].name.toList == m.snaps[i].name.toList) = true := by simp [he]
            clear he
            go_wp2
            go_quiet (fail)
            go_wp2
            go_ret
            exact ⟨ret_bool (unhide HF).symm, fr (unhide HA) ((unhide HB).trans (Joins.below_draws _ _ _))⟩
          · have HP' : Hid (∀ p (hp : p < (m.snaps.map (·.name)).length), p < j + 1 → (m.snaps.map (·.name))[p] ≠ (m.snaps.map (·.name))[i]'(by simpa using hlt)) := hide (fun p hp h => by
              by_cases e : p = j
              · subst e; simpa using he
              · exact unhide HP p hp (by omega))
            have be : (m.snaps[j].name.toList == m.snaps[i].name.toList) = false := str_beq_false he
            clear he
            go_wp2
            go_quiet (fail)
            go_wp2
            go_roundw
            case rel => exact ⟨j + 1, by omega, by go_num, HP', hide ((unhide HB).trans (Joins.below_draws _ _ _))⟩
            case measure => simp [intOf]; omega
        · have HN' := hide (nodup_snoc (xs := m.snaps.map (·.name)) (k := i) (by simpa using hlt) (unhide HN) (fun p hp h => unhide HP p hp (by omega)))
          go_wp2
          go_roundw
          case rel => exact ⟨i + 1, by omega, by go_num, HS', HN', HB⟩
          case measure => simp [intOf]; omega
    · have HNN : Hid ((m.snaps.map (·.name)).Nodup) := hide (by
        have := unhide HN
        rwa [List.take_of_length_le (by simp; omega)] at this)
      have HBB := HB
      go_wp2
      clear c0 c1 c2 c3
      go_loopw [5] (fun k wq => ∃ j : Nat, j ≤ m.data.length ∧ k = .int .i64 j ∧ Hid (∀ p (hp : p < m.data.length), p < j → numB m.data[p] = true) ∧ Hid (Below W0.heap.size W0 wq)) (fun k _ => m.data.length - (intOf k).toNat)
      case atStart => exact ⟨0, Nat.zero_le _, rfl, hide (fun p _ h => by omega), HB⟩
      case round =>
        clear HB HBB
        obtain ⟨j, hj, rfl, HD, HBB⟩ := hrel
        obtain ⟨c0, c1, c2, c3⟩ := ((unhide HV).below (unhide HBB)).cells
        by_cases hjl : j < m.data.length
        · obtain ⟨b, off, ed, hcl⟩ := ((unhide HC).d.below (unhide HBB)) j hjl
          rw [ed] at c3
          clear ed
          have hjli : (j : Int) < (m.data.length : Int) := by omega
          by_cases hn : numB m.data[j] = true
          · have HD' := hide (all_succ hjl (unhide HD) hn)
            go_wp2_with (go_at_call 94; refine (l02Int_any _ _).mono ?_; rintro e w' ⟨rfl, hw⟩; replace hw := hw.symm; subst hw; rw [hn])
            go_roundw
            case rel => exact ⟨j + 1, by omega, by go_num, HD', HBB⟩
            case measure => simp [intOf]; omega
          · have hn' : numB m.data[j] = false := by simpa using hn
            have HF := hide (fm_num hjl hn')
            clear hn
            go_wp2_with (go_at_call 94; refine (l02Int_any _ _).mono ?_; rintro e w' ⟨rfl, hw⟩; replace hw := hw.symm; subst hw; rw [hn'])
            go_ret
            exact ⟨ret_bool (unhide HF).symm, fr (unhide HA) (unhide HBB)⟩
        · have HF := hide (unhide HYES (fun j h => unhide HS j h (by omega)) (unhide HNN) (fun p hp => unhide HD p hp (by omega)))
          go_wp2
          go_ret
          exact ⟨ret_bool (unhide HF).symm, fr (unhide HA) (unhide HBB)⟩

end Go.Proofs.YtpdpnepnfhbonaaGreat

namespace Go.Proofs.YtpdpnepnfhbonaaGreat
open Go.RowKit
set_option linter.unusedVariables false
set_option maxRecDepth 100000

theorem fm_parts {m : Img} (h : imFm m = true) : ctB m.refs = true ∧ m.snaps.length ≤ 3 ∧ m.data.length = 24 ∧ (∀ t ∈ imTabs m, tbB t = true) := by
  simp only [imFm, Bool.and_eq_true, decide_eq_true_eq, List.all_eq_true] at h
  obtain ⟨⟨⟨⟨⟨⟨h1, h2⟩, h3⟩, h4⟩, h5⟩, h6⟩, h7⟩ := h
  refine ⟨h1, h3, h4, fun t ht => ?_⟩
  unfold imTabs at ht
  rw [List.mem_cons, List.mem_map] at ht
  rcases ht with rfl | ⟨s, hs, rfl⟩
  · exact h2
  · exact (h5 s hs).2
theorem im_fm {m : Img} (h : imFm m = false) : imB m = false := by simp [imB, h]
theorem im_once {m : Img} {t : List Int} (ht : t ∈ imTabs m) (h : onceB t = false) : imB m = false := by
  have e : (imTabs m).all onceB = false := by
    cases hh : (imTabs m).all onceB with
    | false => rfl
    | true => rw [List.all_eq_true] at hh; rw [hh t ht] at h; cases h
  simp only [imB, e, Bool.and_false, Bool.false_and]
theorem im_cnt {m : Img} {i : Nat} (h1 : i < (imCnt m).length) (h2 : i < m.refs.length) (h : (imCnt m)[i] ≠ m.refs[i]) : imB m = false := by
  have e : decide (imCnt m = m.refs) = false := decide_eq_false (fun e => h (by simp only [e]))
  simp only [imB, e, Bool.and_false, Bool.false_and]
theorem im_clear {m : Img} {i : Nat} (hi : i < 24) (h1 : i < m.refs.length) (h2 : i < m.data.length) (hr : m.refs[i] = 0) (hd : m.data[i] ≠ 0) : imB m = false := by
  have e : clearB m = false := by
    unfold clearB
    cases hh : (List.range 24).all _ with
    | false => rfl
    | true =>
      rw [List.all_eq_true] at hh
      have := hh i (List.mem_range.2 hi)
      simp only [List.getD, List.getElem?_eq_getElem h1, List.getElem?_eq_getElem h2, Option.getD_some, decide_eq_true_eq] at this
      exact absurd (this hr) hd
  simp only [imB, e, Bool.and_false]
theorem im_yes {m : Img} (hf : imFm m = true) (h1 : ∀ t ∈ imTabs m, onceB t = true) (h2 : ∀ i (ha : i < (imCnt m).length) (hb : i < m.refs.length), (imCnt m)[i] = m.refs[i]) (h3 : ∀ i, i < 24 → m.refs.getD i 0 = 0 → m.data.getD i 0 = 0) : imB m = true := by
  have hl := ctB_len (fm_parts hf).1
  have e2 : imCnt m = m.refs := List.ext_getElem (by rw [imCnt_len, hl]) h2
  have e1 : (imTabs m).all onceB = true := List.all_eq_true.2 h1
  have e3 : clearB m = true := by
    unfold clearB
    rw [List.all_eq_true]
    intro i hi
    exact decide_eq_true (h3 i (List.mem_range.1 hi))
  simp only [imB, hf, e1, e2, e3, decide_true, Bool.and_true]

set_option maxHeartbeats 3200000 in
theorem imageOK_spec (a : Im4) (m : Img) (w : World) (hL : ImL m) (hc : ImS w a m) :
    Calls Tryz.prog 27 #[imV a m] w fun e w' => e = .returned (.bool (imB m)) ∧ Below w.heap.size w w' := by
  have HA := hide (Joins.below_alloc1 w (.cells #[.slice a.ro m.refs.length a.rc, .slice a.tq m.table.length a.tc, .slice a.so m.snaps.length a.sc, .slice a.dq m.data.length a.dc] 32))
  have HV := hide (VarM.new w 32 (.slice a.ro m.refs.length a.rc) (.slice a.tq m.table.length a.tc) (.slice a.so m.snaps.length a.sc) (.slice a.dq m.data.length a.dc))
  have HC := hide (hc.below (unhide HA))
  have HL := hide hL
  clear hc hL
  cases hfm : imFm m
  · have HF := hide (im_fm hfm)
    go_enter Tryz.func27, Tryz.ntmps27
    go_upto_region 1 with fail
    revert HA HV HC
    generalize (w.alloc _) = W0
    intro HA HV HC
    obtain ⟨c0, c1, c2, c3⟩ := (unhide HV).cells
    go_wp2_with fail
    refine (l10Form_any a m _ (unhide HL) (unhide HC)).mono ?_
    rintro e w1 ⟨rfl, hb⟩
    rw [hfm]
    have HB := hide (fr (unhide HA) hb)
    clear hb c0 c1 c2 c3
    go_wp2
    go_ret
    exact ⟨ret_bool (unhide HF).symm, unhide HB⟩
  obtain ⟨p1, p2, p3, p4⟩ := fm_parts hfm
  have HFM := hide hfm
  have HR24 := hide (ctB_len p1)
  have HD24 := hide p3
  have HTB := hide p4
  have hs3 : m.snaps.length ≤ 3 := p2
  clear p1 p2 p3 p4 hfm
  go_enter Tryz.func27, Tryz.ntmps27
  go_upto_region 1 with fail
  revert HA HV HC
  generalize (w.alloc _) = W0
  intro HA HV HC
  obtain ⟨c0, c1, c2, c3⟩ := (unhide HV).cells
  go_wp2_with fail
  refine (l10Form_any a m _ (unhide HL) (unhide HC)).mono ?_
  rintro e w1 ⟨rfl, hb⟩
  rw [unhide HFM]
  have HB1 := hide (fr (unhide HA) hb)
  have HC1 := hide ((unhide HC).below hb)
  have HV1 := hide ((unhide HV).below hb)
  clear hb c0 c1 c2 c3 HA HV HC
  obtain ⟨c0, c1, c2, c3⟩ := (unhide HV1).cells
  go_wp2_with fail
  refine (l10Twice_any a.tq a.tc m.table _ (unhide HTB _ (by simp [imTabs])) (unhide HC1).t).mono ?_
  rintro e w2 ⟨rfl, hb⟩
  have HB2 := hide (fr (unhide HB1) hb)
  have HC2 := hide ((unhide HC1).below hb)
  have HV2 := hide ((unhide HV1).below hb)
  clear hb c0 c1 c2 c3 HB1 HC1 HV1
  cases hon : onceB m.table
  · have HF := hide (im_once (m := m) (t := m.table) (by simp [imTabs]) hon)
    go_wp2
    go_ret
    exact ⟨ret_bool (unhide HF).symm, unhide HB2⟩
  have HON := hide hon
  clear hon
  obtain ⟨c0, c1, c2, c3⟩ := (unhide HV2).cells
  go_wp2
  clear c0 c1 c2 c3
  go_loopw [3] (fun i wr => ∃ k : Nat, k ≤ m.snaps.length ∧ i = .int .i64 k ∧ Hid (∀ j (hj : j < m.snaps.length), j < k → onceB m.snaps[j].table = true) ∧ Hid (Below w2.heap.size w2 wr)) (fun i _ => m.snaps.length - (intOf i).toNat)
  case atStart => exact ⟨0, Nat.zero_le _, rfl, hide (fun j _ h => by omega), hide (Below.refl _ _)⟩
  case round =>
    obtain ⟨i, hi, rfl, HS, HB⟩ := hrel
    obtain ⟨c0, c1, c2, c3⟩ := ((unhide HV2).below (unhide HB)).cells
    by_cases hlt : i < m.snaps.length
    · obtain ⟨b, off, tq, tc, eb, hn0, ht0, hIs, hz, htl⟩ := ((unhide HC2).s.below (unhide HB)) i hlt
      rw [eb] at c2
      clear eb
      have hlti : (i : Int) < (m.snaps.length : Int) := by omega
      have HIS := hide hIs
      have HMT : Hid (m.snaps[i].table ∈ imTabs m) := hide (by unfold imTabs; exact List.mem_cons_of_mem _ (List.mem_map.2 ⟨_, List.getElem_mem hlt, rfl⟩))
      clear hIs hz htl
      go_wp2_with fail
      refine (l10Twice_any tq tc m.snaps[i].table _ (unhide HTB _ (unhide HMT)) (unhide HIS)).mono ?_
      rintro e w3 ⟨rfl, hb⟩
      have HB3 := hide (fr (unhide HB) hb)
      clear hb c0 c1 c2 c3 hn0 ht0
      cases hon : onceB m.snaps[i].table
      · have HF := hide (im_once (unhide HMT) hon)
        go_wp2
        go_ret
        exact ⟨ret_bool (unhide HF).symm, fr (unhide HB2) (unhide HB3)⟩
      · have HS' := hide (all_succ (p := fun s : Snp => onceB s.table) hlt (unhide HS) hon)
        go_wp2
        go_roundw
        case rel => exact ⟨i + 1, by omega, by go_num, HS', HB3⟩
        case measure => simp [intOf]; omega
    · have HALL : Hid (∀ t ∈ imTabs m, onceB t = true) := hide (fun t ht => by
        unfold imTabs at ht
        rw [List.mem_cons, List.mem_map] at ht
        rcases ht with rfl | ⟨s, hs, rfl⟩
        · exact unhide HON
        · obtain ⟨j, hj, rfl⟩ := List.mem_iff_getElem.1 hs
          exact unhide HS j hj (by omega))
      have HCr := hide ((unhide HC2).below (unhide HB))
      go_wp2_with fail
      refine (l10Count_any a m _ hs3 (unhide HTB) (unhide HCr)).mono ?_
      rintro e w3 ⟨v, rfl, ⟨no, na, rfl, ho⟩, hb⟩
      have HLN := hide (imCnt_len m)
      have HI3 := hide (ownRN ho)
      have HB3 := hide (fr (unhide HB) hb)
      have HYES := hide (fun h2 h3 => im_yes (m := m) (unhide HFM) (unhide HALL) h2 h3)
      have HCNT := hide (fun (i : Nat) (h1 : i < (imCnt m).length) (h2 : i < m.refs.length) (h : (imCnt m)[i] ≠ m.refs[i]) => im_cnt h1 h2 h)
      clear ho hb c0 c1 c2 c3 HB
      generalize imCnt m = L at *
      go_wp2
      go_loopw [5] (fun i wq => ∃ k : Nat, k ≤ 24 ∧ i = .int .i64 k ∧ Hid (∀ j (h1 : j < L.length) (h2 : j < m.refs.length), j < k → L[j] = m.refs[j]) ∧ Hid (∀ j, j < k → m.refs.getD j 0 = 0 → m.data.getD j 0 = 0) ∧ Hid (Below w3.heap.size w3 wq)) (fun i _ => 24 - (intOf i).toNat)
      case atStart => exact ⟨0, by omega, rfl, hide (fun j _ _ h => by omega), hide (fun j h => by omega), hide (Below.refl _ _)⟩
      case round =>
        obtain ⟨k, hk, rfl, HE, HZ, HB⟩ := hrel
        by_cases hlt : k < 24
        · have hlti : (k : Int) < 24 := by omega
          have kl : k < L.length := by rw [unhide HLN]; exact hlt
          have kr : k < m.refs.length := by rw [unhide HR24]; exact hlt
          have kd : k < m.data.length := by rw [unhide HD24]; exact hlt
          have kli : (k : Int) < (L.length : Int) := by omega
          have kri : (k : Int) < (m.refs.length : Int) := by omega
          have kdi : (k : Int) < (m.data.length : Int) := by omega
          obtain ⟨c0, c1, c2, c3⟩ := ((unhide HV2).below (fr (unhide HB3) (unhide HB))).cells
          obtain ⟨b1, o1, e1, hx1⟩ := ((unhide HI3).below (unhide HB)) k kl
          obtain ⟨b2, o2, e2, hx2⟩ := ((unhide HC2).r.below (fr (unhide HB3) (unhide HB))) k kr
          obtain ⟨b3, o3, e3, hx3⟩ := ((unhide HC2).d.below (fr (unhide HB3) (unhide HB))) k kd
          subst e1
          rw [e2] at c0
          rw [e3] at c3
          clear e2 e3 c1 c2
          have HER : Hid (L[k] = m.refs[k] → ∀ j (h1 : j < L.length) (h2 : j < m.refs.length), j < k + 1 → L[j] = m.refs[j]) := hide (fun h => eq_succ kl kr (unhide HE) h)
          have HZR : Hid ((m.refs[k] = 0 → m.data[k] = 0) → ∀ j, j < k + 1 → m.refs.getD j 0 = 0 → m.data.getD j 0 = 0) := hide (fun h j hj => by
            by_cases e : j = k
            · subst e; simpa [List.getD, kr, kd] using h
            · exact unhide HZ j (by omega))
          have HF1 := hide (unhide HCNT k kl kr)
          have HF2 : Hid (m.refs[k] = 0 → m.data[k] ≠ 0 → imB m = false) := hide (fun h1 h2 => im_clear hlt kr kd h1 h2)
          generalize L[k] = X at *
          generalize m.refs[k] = R at *
          generalize m.data[k] = D at *
          by_cases hne : X = R
          · by_cases hz : X = 0
            · by_cases hd : D = 0
              · have HE' := hide (unhide HER hne)
                have HZ' := hide (unhide HZR (fun _ => hd))
                have b1' : (X != R) = false := by simp [hne]
                have b2' : (X == 0) = true := by simp [hz]
                have b3' : (D != 0) = false := by simp [hd]
                clear hne hz hd
                go_wp2
                go_quiet (fail)
                go_wp2
                go_roundw
                case rel => exact ⟨k + 1, by omega, by go_num, HE', HZ', hide ((unhide HB).trans (Joins.below_draws _ _ _))⟩
                case measure => simp [intOf]; omega
              · have HF := hide (unhide HF2 (hne ▸ hz) hd)
                have b1' : (X != R) = false := by simp [hne]
                have b2' : (X == 0) = true := by simp [hz]
                have b3' : (D != 0) = true := by simp [hd]
                clear hne hz hd
                go_wp2
                go_quiet (fail)
                go_wp2
                go_ret
                exact ⟨ret_bool (unhide HF).symm, fr (unhide HB2) (fr (unhide HB3) ((unhide HB).trans (Joins.below_draws _ _ _)))⟩
            · have HE' := hide (unhide HER hne)
              have HZ' := hide (unhide HZR (fun h => absurd (hne.trans h) hz))
              have b1' : (X != R) = false := by simp [hne]
              have b2' : (X == 0) = false := by simp [hz]
              clear hne hz
              go_wp2
              go_quiet (fail)
              go_wp2
              go_roundw
              case rel => exact ⟨k + 1, by omega, by go_num, HE', HZ', hide ((unhide HB).trans (Joins.below_draws _ _ _))⟩
              case measure => simp [intOf]; omega
          · have HF := hide (unhide HF1 hne)
            have b1' : (X != R) = true := by simp [hne]
            clear hne
            go_wp2
            go_quiet (fail)
            go_wp2
            go_ret
            exact ⟨ret_bool (unhide HF).symm, fr (unhide HB2) (fr (unhide HB3) ((unhide HB).trans (Joins.below_draws _ _ _)))⟩
        · have HF := hide (unhide HYES (fun i h1 h2 => unhide HE i h1 h2 (by have := unhide HLN; omega)) (fun i h => unhide HZ i (by omega)))
          go_wp2
          go_ret
          exact ⟨ret_bool (unhide HF).symm, fr (unhide HB2) (fr (unhide HB3) (unhide HB))⟩

end Go.Proofs.YtpdpnepnfhbonaaGreat

namespace Go.Proofs.YtpdpnepnfhbonaaGreat
open Go.RowKit
set_option linter.unusedVariables false
set_option maxRecDepth 100000

theorem OwnN.spot {w : World} {B c n k : Nat} {ao : Option Addr} {xs : List Int} (h : OwnN w B (.slice ao n k) xs) (hn : n = xs.length) (hc : c < xs.length) : ∃ g, ao = some ⟨g, 0, none⟩ ∧ w.cell? ⟨g, c, none⟩ = some (.int .i64 xs[c]) ∧ w.frozen? ⟨g, c, none⟩ = false ∧ Own (.slice ao n k) g ∧ ∀ y, OwnN (w.setCell ⟨g, c, none⟩ (.int .i64 y)) B (.slice ao n k) (xs.set c y) := by
  subst hn
  have hr := h.row
  have hp : 0 < xs.length := by omega
  obtain ⟨g, cap, cur, e, _, _⟩ := own_form hp (hr.row hp)
  simp only [Value.slice.injEq, true_and] at e
  obtain ⟨rfl, rfl⟩ := e
  refine ⟨g, rfl, ?_, (hr.row hp).frozenAt c, own_of hp rfl, fun y => ?_⟩
  · have := (hr.row hp).cellAt c (by omega)
    rwa [intV_get hc] at this
  · exact OwnN.mk' (own_setI hr hp y) (by simp)
theorem OwnIm.setR {w : World} {B c : Nat} {a : Im4} {m : Img} {ts : List Value} (h : OwnIm w B a m ts) (hc : c < m.refs.length) : ∃ g, a.ro = some ⟨g, 0, none⟩ ∧ w.cell? ⟨g, c, none⟩ = some (.int .i64 m.refs[c]) ∧ w.frozen? ⟨g, c, none⟩ = false ∧ ImB a m ts g ∧ ∀ y, OwnIm (w.setCell ⟨g, c, none⟩ (.int .i64 y)) B a { m with refs := m.refs.set c y } ts := by
  obtain ⟨g, e, h1, h2, h3, h4⟩ := (h.rows.own (.slice a.ro m.refs.length a.rc, m.refs) (by simp [imRows])).spot rfl hc
  have hk : ∀ y, Keep (Own (.slice a.ro m.refs.length a.rc)) w (w.setCell ⟨g, c, none⟩ (.int .i64 y)) := fun y => (Keep.refl _ w).setCell (p := ⟨g, c, none⟩) h3 _
  refine ⟨g, e, h1, h2, .inl h3, fun y => ⟨h.len, h.s.keep (hk y) (own_apartT h.s (h.rows.own (.slice a.ro m.refs.length a.rc, m.refs) (by simp [imRows])).row (by decide)), ?_⟩⟩
  have := h.rows.turn (j := 0) rfl (hk y) (h4 y)
  simp only [imRows, List.length_set]
  exact this
theorem OwnIm.setT {w : World} {B c : Nat} {a : Im4} {m : Img} {ts : List Value} (h : OwnIm w B a m ts) (hc : c < m.table.length) : ∃ g, a.tq = some ⟨g, 0, none⟩ ∧ w.cell? ⟨g, c, none⟩ = some (.int .i64 m.table[c]) ∧ w.frozen? ⟨g, c, none⟩ = false ∧ ImB a m ts g ∧ ∀ y, OwnIm (w.setCell ⟨g, c, none⟩ (.int .i64 y)) B a { m with table := m.table.set c y } ts := by
  obtain ⟨g, e, h1, h2, h3, h4⟩ := (h.rows.own (.slice a.tq m.table.length a.tc, m.table) (by simp [imRows])).spot rfl hc
  have hk : ∀ y, Keep (Own (.slice a.tq m.table.length a.tc)) w (w.setCell ⟨g, c, none⟩ (.int .i64 y)) := fun y => (Keep.refl _ w).setCell (p := ⟨g, c, none⟩) h3 _
  refine ⟨g, e, h1, h2, .inr (.inl h3), fun y => ⟨h.len, h.s.keep (hk y) (own_apartT h.s (h.rows.own (.slice a.tq m.table.length a.tc, m.table) (by simp [imRows])).row (by decide)), ?_⟩⟩
  have := h.rows.turn (j := 1) rfl (hk y) (h4 y)
  simp only [imRows, List.length_set]
  exact this
theorem OwnIm.setD {w : World} {B c : Nat} {a : Im4} {m : Img} {ts : List Value} (h : OwnIm w B a m ts) (hc : c < m.data.length) : ∃ g, a.dq = some ⟨g, 0, none⟩ ∧ w.cell? ⟨g, c, none⟩ = some (.int .i64 m.data[c]) ∧ w.frozen? ⟨g, c, none⟩ = false ∧ ImB a m ts g ∧ ∀ y, OwnIm (w.setCell ⟨g, c, none⟩ (.int .i64 y)) B a { m with data := m.data.set c y } ts := by
  obtain ⟨g, e, h1, h2, h3, h4⟩ := (h.rows.own (.slice a.dq m.data.length a.dc, m.data) (by simp [imRows])).spot rfl hc
  have hk : ∀ y, Keep (Own (.slice a.dq m.data.length a.dc)) w (w.setCell ⟨g, c, none⟩ (.int .i64 y)) := fun y => (Keep.refl _ w).setCell (p := ⟨g, c, none⟩) h3 _
  refine ⟨g, e, h1, h2, .inr (.inr (.inl h3)), fun y => ⟨h.len, h.s.keep (hk y) (own_apartT h.s (h.rows.own (.slice a.dq m.data.length a.dc, m.data) (by simp [imRows])).row (by decide)), ?_⟩⟩
  have := h.rows.turn (j := 2) rfl (hk y) (h4 y)
  simp only [imRows, List.length_set]
  exact this
theorem OwnIm.other {w : World} {B x : Nat} {a : Im4} {m : Img} {ts : List Value} {v0 v1 v2 v3 : Value} (h : OwnIm w B a m ts) (hv : VarM w x 32 v0 v1 v2 v3) : ¬ ImB a m ts x := by
  intro hx
  rcases hx with h1 | h1 | h1 | h1 | ⟨t, ht, h1⟩
  · exact (h.rows.own (.slice a.ro m.refs.length a.rc, m.refs) (by simp [imRows])).row.other hv (by decide) h1
  · exact (h.rows.own (.slice a.tq m.table.length a.tc, m.table) (by simp [imRows])).row.other hv (by decide) h1
  · exact (h.rows.own (.slice a.dq m.data.length a.dc, m.data) (by simp [imRows])).row.other hv (by decide) h1
  · exact h.s.other hv (by decide) h1
  · have hm : t ∈ (ts.zip (m.snaps.map (·.table))).map Prod.fst := by rw [zip_fst _ _ (by rw [List.length_map, h.len])]; exact ht
    obtain ⟨p, hp, rfl⟩ := List.mem_map.1 hm
    exact (h.rows.own p (by simp [imRows, hp])).row.other hv (by decide) h1
theorem VarM.keepIm {w w' : World} {B x : Nat} {a : Im4} {m : Img} {ts : List Value} {v0 v1 v2 v3 : Value} (hv : VarM w x 32 v0 v1 v2 v3) (h : OwnIm w B a m ts) (hk : Keep (ImB a m ts) w w') : VarM w' x 32 v0 v1 v2 v3 := (hk.block x hv.lt (h.other hv)).trans hv
theorem OwnIm.shows {w : World} {B : Nat} {a : Im4} {m : Img} {ts : List Value} (h : OwnIm w B a m ts) (hz : ∀ s ∈ m.snaps, s.name.size ≤ maxLen ∧ s.table.length ≤ maxLen) : ImS w a m := by
  refine ⟨ownRN (h.rows.own (.slice a.ro m.refs.length a.rc, m.refs) (by simp [imRows])).row, ownRN (h.rows.own (.slice a.tq m.table.length a.tc, m.table) (by simp [imRows])).row, fun i hi => ?_, ownRN (h.rows.own (.slice a.dq m.data.length a.dc, m.data) (by simp [imRows])).row⟩
  have hp : 0 < m.snaps.length := by omega
  have hit : i < ts.length := by rw [← h.len]; exact hi
  have hs := h.s.row hp
  obtain ⟨g, cap, cur, e, _, _⟩ := own_form hp hs
  rw [e] at hs
  simp only [Value.slice.injEq, true_and] at e
  obtain ⟨e1, e2⟩ := e
  have hgs := snC_get (List.getElem?_eq_getElem hi) (List.getElem?_eq_getElem hit)
  have hm : (ts[i], m.snaps[i].table) ∈ imRows a m ts := by
    have : (ts.zip (m.snaps.map (·.table)))[i]? = some (ts[i], m.snaps[i].table) := by
      rw [List.getElem?_zip_eq_some]
      exact ⟨List.getElem?_eq_getElem hit, by simp [hi]⟩
    simp [imRows, List.mem_of_getElem? this]
  obtain ⟨tq, tc, et, ho⟩ := h.rows.own _ hm
  simp only at et ho
  refine ⟨g, 0, tq, tc, e1, ?_, ?_, ownRN ho, (hz _ (List.getElem_mem hi)).1, (hz _ (List.getElem_mem hi)).2⟩
  · rw [Nat.zero_add]; exact (hs.cellAt (i * 2) (by omega)).trans hgs.1
  · rw [Nat.zero_add]; exact (hs.cellAt (i * 2 + 1) (by omega)).trans (by rw [hgs.2, et])

theorem l10Value_any (a : Im4) (m : Img) (e : Int) (w : World) (he0 : 0 ≤ e) (he1 : e - 2 < m.data.length) (hd : m.data.length ≤ 1000) (hc : Is w a.dq m.data) :
    Calls Tryz.prog 72 #[imV a m, .int .i64 e] w fun r w' => r = .returned (.int .i64 (imVal m e)) ∧ Below w.heap.size w w' := by
  have HA := hide (Joins.below_alloc1 w (.cells #[.slice a.ro m.refs.length a.rc, .slice a.tq m.table.length a.tc, .slice a.so m.snaps.length a.sc, .slice a.dq m.data.length a.dc] 32))
  have HV := hide (VarM.new w 32 (.slice a.ro m.refs.length a.rc) (.slice a.tq m.table.length a.tc) (.slice a.so m.snaps.length a.sc) (.slice a.dq m.data.length a.dc))
  have HC := hide (hc.below (unhide HA))
  clear hc
  by_cases h2 : e < 2
  · have HE : Hid (imVal m e = 0) := hide (if_pos h2)
    go_enter Tryz.func72, Tryz.ntmps72
    go_wp2
    go_ret
    exact ⟨ret_int (unhide HE).symm, unhide HA⟩
  · obtain ⟨c, hcc⟩ : ∃ c : Nat, e = (c : Int) + 2 := ⟨(e - 2).toNat, by omega⟩
    subst hcc
    have hcl : c < m.data.length := by omega
    have HE : Hid (imVal m ((c : Int) + 2) = m.data[c]) := hide (by
      rw [imVal, if_neg h2, show ((c : Int) + 2 - 2).toNat = c by omega]
      simp [List.getD, hcl])
    have hw2 : IntKind.i64.wrap ((c : Int) + 2 - 2) = (c : Int) := by rw [IntKind.wrap_i64]; omega
    have hcli : (c : Int) < (m.data.length : Int) := by omega
    go_enter Tryz.func72, Tryz.ntmps72
    go_upto_region 1 with fail
    revert HA HV HC
    generalize (w.alloc _) = W0
    intro HA HV HC
    obtain ⟨c0, c1, c2, c3⟩ := (unhide HV).cells
    obtain ⟨b, off, ed, hx⟩ := (unhide HC) c hcl
    rw [ed] at c3
    clear ed
    go_wp2
    go_ret
    exact ⟨ret_int (unhide HE).symm, unhide HA⟩

theorem drop_at {m : Img} {c : Nat} (hr : c < m.refs.length) (hd : c < m.data.length) : (m.refs[c] - 1 = 0 → imDrop m ((c : Int) + 2) = { m with refs := m.refs.set c (m.refs[c] - 1), data := m.data.set c 0 }) ∧ (¬ m.refs[c] - 1 = 0 → imDrop m ((c : Int) + 2) = { m with refs := m.refs.set c (m.refs[c] - 1) }) := by
  have e : ((c : Int) + 2 - 2).toNat = c := by omega
  have g : m.refs.getD c 0 = m.refs[c] := by simp [List.getD, hr]
  unfold imDrop
  rw [if_neg (by omega)]
  simp only [e, g]
  exact ⟨fun h => by rw [if_pos h], fun h => by rw [if_neg h]⟩
theorem keep_im {w w' : World} {a : Im4} {m : Img} {ts : List Value} (h : Keep (fun g => ImB a m ts g ∨ w.heap.size ≤ g) w w') (hg : ∀ g, ImB a m ts g → g < w.heap.size) : Keep (ImB a m ts) w w' :=
  ⟨h.os, h.tape, h.output, h.size, fun k hk hn => h.block k hk (fun hS => by
    rcases hS with hS | hS
    · exact hn hS
    · omega)⟩

set_option maxHeartbeats 1600000 in
theorem l10Drop_any (a : Im4) (m : Img) (ts : List Value) (B : Nat) (e : Int) (w : World) (he0 : -1000 ≤ e) (he1 : e ≤ 1000) (hr : e - 2 < m.refs.length) (hd : e - 2 < m.data.length) (hl : m.refs.length ≤ 1000 ∧ m.data.length ≤ 1000) (hv : ∀ c (h : c < m.refs.length), -1000 ≤ m.refs[c] ∧ m.refs[c] ≤ 1000) (ho : OwnIm w B a m ts) :
    Calls Tryz.prog 115 #[imV a m, .int .i64 e] w fun r w' => r = .returned (imV a m) ∧ OwnIm w' B a (imDrop m e) ts ∧ Keep (ImB a m ts) w w' := by
  have HA := hide (Joins.below_alloc2 w (.cells #[.slice a.ro m.refs.length a.rc, .slice a.tq m.table.length a.tc, .slice a.so m.snaps.length a.sc, .slice a.dq m.data.length a.dc] 32) (.cells #[.slice none 0 0, .slice none 0 0, .slice none 0 0, .slice none 0 0] 32))
  have HO := hide (ho.below (unhide HA))
  have HV := hide ((VarM.new w 32 (.slice a.ro m.refs.length a.rc) (.slice a.tq m.table.length a.tc) (.slice a.so m.snaps.length a.sc) (.slice a.dq m.data.length a.dc)).below (Joins.below_alloc1 _ (.cells #[.slice none 0 0, .slice none 0 0, .slice none 0 0, .slice none 0 0] 32)))
  have HR := hide ((VarM.new (w.alloc (.cells #[.slice a.ro m.refs.length a.rc, .slice a.tq m.table.length a.tc, .slice a.so m.snaps.length a.sc, .slice a.dq m.data.length a.dc] 32)) 32 (.slice none 0 0) (.slice none 0 0) (.slice none 0 0) (.slice none 0 0)).at (y := w.heap.size + 1) (by simp))
  have HGE : Hid (∀ g, ImB a m ts g → g < w.heap.size) := hide (fun g hg => (ho.ge g hg).2)
  clear ho
  by_cases h2 : e < 2
  · have HE : Hid (imDrop m e = m) := hide (if_pos h2)
    go_enter Tryz.func115, Tryz.ntmps115
    go_upto_region 1 with fail
    revert HA HO HV HR
    generalize ((w.alloc _).alloc _) = W0
    intro HA HO HV HR
    obtain ⟨c0, c1, c2, c3⟩ := (unhide HV).cells
    obtain ⟨r0, r1, r2, r3⟩ := (unhide HR).cells
    obtain ⟨z0, z1, z2, z3⟩ := (unhide HR).free
    have HK : Hid (Keep (fun g => ImB a m ts g ∨ w.heap.size ≤ g) w ((((W0.setCell ⟨w.heap.size + 1, 0, none⟩ (.slice a.ro m.refs.length a.rc)).setCell ⟨w.heap.size + 1, 1, none⟩ (.slice a.tq m.table.length a.tc)).setCell ⟨w.heap.size + 1, 2, none⟩ (.slice a.so m.snaps.length a.sc)).setCell ⟨w.heap.size + 1, 3, none⟩ (.slice a.dq m.data.length a.dc))) := hide (by
      have k0 : Keep (fun g => ImB a m ts g ∨ w.heap.size ≤ g) w W0 := Keep.of_below (unhide HA)
      exact (((k0.setCell (p := ⟨w.heap.size + 1, 0, none⟩) (.inr (Nat.le_succ _)) _).setCell (p := ⟨w.heap.size + 1, 1, none⟩) (.inr (Nat.le_succ _)) _).setCell (p := ⟨w.heap.size + 1, 2, none⟩) (.inr (Nat.le_succ _)) _).setCell (p := ⟨w.heap.size + 1, 3, none⟩) (.inr (Nat.le_succ _)) _)
    have HVN := hide ((((unhide HR).set0 (.slice a.ro m.refs.length a.rc)).set1 (.slice a.tq m.table.length a.tc)).set2 (.slice a.so m.snaps.length a.sc) |>.set3 (.slice a.dq m.data.length a.dc))
    have HON := hide ((unhide HO).keep (S := fun g => g = w.heap.size + 1) (((((Keep.refl (fun g => g = w.heap.size + 1) W0).setCell (p := ⟨w.heap.size + 1, 0, none⟩) rfl (.slice a.ro m.refs.length a.rc)).setCell (p := ⟨w.heap.size + 1, 1, none⟩) rfl (.slice a.tq m.table.length a.tc)).setCell (p := ⟨w.heap.size + 1, 2, none⟩) rfl (.slice a.so m.snaps.length a.sc)).setCell (p := ⟨w.heap.size + 1, 3, none⟩) rfl (.slice a.dq m.data.length a.dc)) (fun g hg he => by have := unhide HGE g hg; omega))
    go_wp2
    refine bodyPost_ret (res_im Tryz.results115 rfl (unhide HVN)) rfl ⟨rfl, ?_, ?_⟩
    · rw [unhide HE]; exact unhide HON
    · exact keep_im (unhide HK) (unhide HGE)
  · obtain ⟨c, hcc⟩ : ∃ c : Nat, e = (c : Int) + 2 := ⟨(e - 2).toNat, by omega⟩
    subst hcc
    have hcr : c < m.refs.length := by omega
    have hcd : c < m.data.length := by omega
    have hcri : (c : Int) < (m.refs.length : Int) := by omega
    have hcdi : (c : Int) < (m.data.length : Int) := by omega
    have hw2 : IntKind.i64.wrap ((c : Int) + 2 - 2) = (c : Int) := by rw [IntKind.wrap_i64]; omega
    obtain ⟨v0, v1⟩ := hv c hcr
    have HDR := hide (drop_at (m := m) hcr hcd)
    go_enter Tryz.func115, Tryz.ntmps115
    go_upto_region 1 with fail
    revert HA HO HV HR
    generalize ((w.alloc _).alloc _) = W0
    intro HA HO HV HR
    obtain ⟨g, eg, hcg, hfg, hig, hst⟩ := (unhide HO).setR hcr
    have HO1 := hide (hst (m.refs[c] - 1))
    have HK1 : Hid (Keep (ImB a m ts) W0 (W0.setCell ⟨g, c, none⟩ (.int .i64 (m.refs[c] - 1)))) := hide ((Keep.refl _ W0).setCell (p := ⟨g, c, none⟩) hig _)
    have HV1 := hide ((unhide HV).keepIm (unhide HO) (unhide HK1))
    have HR1 := hide ((unhide HR).keepIm (unhide HO) (unhide HK1))
    have hsame : (W0.setCell ⟨g, c, none⟩ (.int .i64 (m.refs[c] - 1))).cell? ⟨g, c, none⟩ = some (.int .i64 (m.refs[c] - 1)) := World.cell?_setCell_same _ _ _ hcg
    have HSM := hide hsame
    obtain ⟨c0, c1, c2, c3⟩ := (unhide HV).cells
    rw [eg] at c0
    have hw3 : IntKind.i64.wrap (m.refs[c] - 1) = m.refs[c] - 1 := by rw [IntKind.wrap_i64]; omega
    have EG := hide eg
    clear eg hst hig hsame c1 c2 c3
    have HDR' := HDR
    generalize m.refs[c] = R at *
    go_upto_region 5 with fail
    revert HO1 HK1 HV1 HR1 HSM
    generalize (W0.setCell _ _) = W1
    intro HO1 HK1 HV1 HR1 HSM
    clear c0 hcg hfg
    have hs := unhide HSM
    obtain ⟨c0, c1, c2, c3⟩ := (unhide HV1).cells
    rw [unhide EG] at c0
    have HKW : Hid (Keep (fun g => ImB a m ts g ∨ w.heap.size ≤ g) w W1) := hide ((Keep.of_below (unhide HA)).trans ((unhide HK1).mono (fun g h => .inl h)))
    by_cases hz : R - 1 = 0
    · have bz : (R - 1 == 0) = true := by simp [hz]
      obtain ⟨g2, eg2, hcg2, hfg2, hig2, hst2⟩ := (unhide HO1).setD (c := c) (by simpa using hcd)
      have HO2 := hide (hst2 0)
      have HE : Hid ({ ({ m with refs := m.refs.set c (R - 1) } : Img) with data := m.data.set c 0 } = imDrop m ((c : Int) + 2)) := hide ((unhide HDR).1 hz).symm
      have hig2' : ImB a m ts g2 := by simpa only [ImB, List.length_set] using hig2
      have HK2 : Hid (Keep (ImB a m ts) W1 (W1.setCell ⟨g2, c, none⟩ (.int .i64 0))) := hide ((Keep.refl _ W1).setCell (p := ⟨g2, c, none⟩) hig2' _)
      have hne1 : w.heap.size ≠ g2 := by have := unhide HGE g2 hig2'; omega
      have hne2 : w.heap.size + 1 ≠ g2 := by have := unhide HGE g2 hig2'; omega
      have HV2 := hide (VarM.other (unhide HV1) (p := ⟨g2, c, none⟩) hne1 (.int .i64 0))
      have HR2 := hide (VarM.other (unhide HR1) (p := ⟨g2, c, none⟩) hne2 (.int .i64 0))
      rw [eg2] at c3
      clear eg2 hst2 hig2 hz hne1 hne2
      go_upto_region 7 with fail
      revert HO2 HK2 HV2 HR2
      generalize (W1.setCell _ _) = W2
      intro HO2 HK2 HV2 HR2
      clear c0 c1 c2 c3 hs hcg2 hfg2
      obtain ⟨c0, c1, c2, c3⟩ := (unhide HV2).cells
      obtain ⟨r0, r1, r2, r3⟩ := (unhide HR2).cells
      obtain ⟨z0, z1, z2, z3⟩ := (unhide HR2).free
      have HK : Hid (Keep (fun g => ImB a m ts g ∨ w.heap.size ≤ g) w ((((W2.setCell ⟨w.heap.size + 1, 0, none⟩ (.slice a.ro m.refs.length a.rc)).setCell ⟨w.heap.size + 1, 1, none⟩ (.slice a.tq m.table.length a.tc)).setCell ⟨w.heap.size + 1, 2, none⟩ (.slice a.so m.snaps.length a.sc)).setCell ⟨w.heap.size + 1, 3, none⟩ (.slice a.dq m.data.length a.dc))) := hide (by
        have k0 := (unhide HKW).trans ((unhide HK2).mono (fun g h => .inl h))
        exact (((k0.setCell (p := ⟨w.heap.size + 1, 0, none⟩) (.inr (Nat.le_succ _)) _).setCell (p := ⟨w.heap.size + 1, 1, none⟩) (.inr (Nat.le_succ _)) _).setCell (p := ⟨w.heap.size + 1, 2, none⟩) (.inr (Nat.le_succ _)) _).setCell (p := ⟨w.heap.size + 1, 3, none⟩) (.inr (Nat.le_succ _)) _)
      have HVN := hide ((((unhide HR2).set0 (.slice a.ro m.refs.length a.rc)).set1 (.slice a.tq m.table.length a.tc)).set2 (.slice a.so m.snaps.length a.sc) |>.set3 (.slice a.dq m.data.length a.dc))
      have HON := hide ((unhide HO2).keep (S := fun g => g = w.heap.size + 1) (((((Keep.refl (fun g => g = w.heap.size + 1) W2).setCell (p := ⟨w.heap.size + 1, 0, none⟩) rfl (.slice a.ro m.refs.length a.rc)).setCell (p := ⟨w.heap.size + 1, 1, none⟩) rfl (.slice a.tq m.table.length a.tc)).setCell (p := ⟨w.heap.size + 1, 2, none⟩) rfl (.slice a.so m.snaps.length a.sc)).setCell (p := ⟨w.heap.size + 1, 3, none⟩) rfl (.slice a.dq m.data.length a.dc)) (fun g hg he => by have := unhide HGE g (by simpa only [ImB, List.length_set] using hg); omega))
      go_wp2
      refine bodyPost_ret (res_im Tryz.results115 rfl (unhide HVN)) rfl ⟨rfl, ?_, ?_⟩
      · rw [← unhide HE]; exact unhide HON
      · exact keep_im (unhide HK) (unhide HGE)
    · have bz : (R - 1 == 0) = false := by simpa using hz
      have HE : Hid (({ m with refs := m.refs.set c (R - 1) } : Img) = imDrop m ((c : Int) + 2)) := hide ((unhide HDR).2 hz).symm
      obtain ⟨r0, r1, r2, r3⟩ := (unhide HR1).cells
      obtain ⟨z0, z1, z2, z3⟩ := (unhide HR1).free
      clear hz
      go_upto_region 7 with fail
      clear c0 hs
      obtain ⟨c0, _, _, _⟩ := (unhide HV1).cells
      have HK : Hid (Keep (fun g => ImB a m ts g ∨ w.heap.size ≤ g) w ((((W1.setCell ⟨w.heap.size + 1, 0, none⟩ (.slice a.ro m.refs.length a.rc)).setCell ⟨w.heap.size + 1, 1, none⟩ (.slice a.tq m.table.length a.tc)).setCell ⟨w.heap.size + 1, 2, none⟩ (.slice a.so m.snaps.length a.sc)).setCell ⟨w.heap.size + 1, 3, none⟩ (.slice a.dq m.data.length a.dc))) := hide (by
        have k0 := unhide HKW
        exact (((k0.setCell (p := ⟨w.heap.size + 1, 0, none⟩) (.inr (Nat.le_succ _)) _).setCell (p := ⟨w.heap.size + 1, 1, none⟩) (.inr (Nat.le_succ _)) _).setCell (p := ⟨w.heap.size + 1, 2, none⟩) (.inr (Nat.le_succ _)) _).setCell (p := ⟨w.heap.size + 1, 3, none⟩) (.inr (Nat.le_succ _)) _)
      have HVN := hide ((((unhide HR1).set0 (.slice a.ro m.refs.length a.rc)).set1 (.slice a.tq m.table.length a.tc)).set2 (.slice a.so m.snaps.length a.sc) |>.set3 (.slice a.dq m.data.length a.dc))
      have HON := hide ((unhide HO1).keep (S := fun g => g = w.heap.size + 1) (((((Keep.refl (fun g => g = w.heap.size + 1) W1).setCell (p := ⟨w.heap.size + 1, 0, none⟩) rfl (.slice a.ro m.refs.length a.rc)).setCell (p := ⟨w.heap.size + 1, 1, none⟩) rfl (.slice a.tq m.table.length a.tc)).setCell (p := ⟨w.heap.size + 1, 2, none⟩) rfl (.slice a.so m.snaps.length a.sc)).setCell (p := ⟨w.heap.size + 1, 3, none⟩) rfl (.slice a.dq m.data.length a.dc)) (fun g hg he => by have := unhide HGE g (by simpa only [ImB, List.length_set] using hg); omega))
      go_wp2
      refine bodyPost_ret (res_im Tryz.results115 rfl (unhide HVN)) rfl ⟨rfl, ?_, ?_⟩
      · rw [← unhide HE]; exact unhide HON
      · exact keep_im (unhide HK) (unhide HGE)

end Go.Proofs.YtpdpnepnfhbonaaGreat

namespace Go.Proofs.YtpdpnepnfhbonaaGreat
open Go.RowKit
set_option linter.unusedVariables false
set_option maxRecDepth 100000

def frI (xs : List Int) : Int := if frN xs < xs.length then (frN xs : Int) else -1
theorem l08Free_any (ao : Option Addr) (cap : Nat) (xs : List Int) (w : World) (hl : xs.length ≤ maxLen) (hc : Is w ao xs) :
    Calls Tryz.prog 144 #[.slice ao xs.length cap] w fun e w' => e = .returned (.int .i64 (frI xs)) ∧ w' = w := by
  have HC := hide hc
  clear hc
  unfold maxLen at hl
  go_enter Tryz.func144, Tryz.ntmps144
  go_wp2
  go_loop [3] (fun i => ∃ k : Nat, k ≤ xs.length ∧ i = .int .i64 k ∧ Hid (∀ j (hj : j < xs.length), j < k → decide (xs[j] ≠ 0) = true)) (fun i => xs.length - (intOf i).toNat)
  case atStart => exact ⟨0, Nat.zero_le _, rfl, hide (fun j _ h => by omega)⟩
  case round =>
    obtain ⟨k, hk, rfl, HA⟩ := hrel
    by_cases hlt : k < xs.length
    · obtain ⟨b, off, rfl, hcl⟩ := unhide HC k hlt
      by_cases hz : xs[k] = 0
      · have HE : Hid (frI xs = (k : Int)) := hide (by have e := fr_here hlt hz (unhide HA); rw [frI, if_pos (by omega), e])
        have bz : (xs[k] == 0) = true := by simp [hz]
        clear hz
        go_wp2
        go_ret
        exact ⟨ret_int (unhide HE).symm, rfl⟩
      · have HN := hide (all_succ (p := fun n => decide (n ≠ 0)) hlt (unhide HA) (by simpa using hz))
        have bz : (xs[k] == 0) = false := by simp [hz]
        clear hz
        go_wp2
        go_round
        case rel => exact ⟨k + 1, by omega, by go_num, HN⟩
        case measure => simp [intOf]; omega
    · have HE : Hid (frI xs = -1) := hide (if_neg (fr_none (fun j hj => unhide HA j hj (by omega))))
      go_wp2
      go_ret
      exact ⟨ret_int (unhide HE).symm, rfl⟩

end Go.Proofs.YtpdpnepnfhbonaaGreat

namespace Go.Proofs.YtpdpnepnfhbonaaGreat
open Go.RowKit
set_option linter.unusedVariables false

section
variable {P : Program}
def linB (l : List Oper) : Bool := (List.range l.length).all fun i => ((l[i]?).map fun o => o.after.all fun e => decide (e.on < i)).getD true
theorem linB_spec {l : List Oper} (h : linB l = true) {i : Nat} {o : Oper} (hi : l[i]? = some o) {e : Edge} (he : e ∈ o.after) : e.on < i := by
  have hl := (List.getElem?_eq_some_iff.1 hi).1
  have := List.all_eq_true.1 h i (List.mem_range.2 hl)
  rw [hi] at this
  simp only [Option.map_some, Option.getD_some] at this
  have := Array.all_eq_true_iff_forall_mem.1 this e he
  exact of_decide_eq_true this

def noG (l : List Oper) : Bool := l.all fun o => o.guard.isNone
theorem noG_spec {l : List Oper} (h : noG l = true) (i : Nat) (o : Oper) (hi : l[i]? = some o) : o.guard = none := by
  have := List.all_eq_true.1 h o (List.mem_of_getElem? hi)
  simpa using this
def updD (d : Nat → Bool) (i : Nat) : Nat → Bool := fun j => d j || decide (j = i)

theorem wp_region_inv {id : Nat} {Q : Exit → Act → World → Prop} {a : Act} {w : World} {l : List Oper} (I : (Nat → Bool) → Act → World → Prop) (hm : P.follows .mixedOrders = true) (hl : linB l = true)
    (hg : ∀ (i : Nat) (o : Oper), l[i]? = some o → o.guard = none)
    (h0 : I (fun _ => false) a { w with drawn := w.drawn + 1 })
    (hs : ∀ (d : Nat → Bool) (a : Act) (w : World) (i : Nat) (o : Oper), I d a w → l[i]? = some o → d i = false → (∀ e ∈ o.after, Region.binds .any e = true → d e.on = true) → ∀ K : Act → World → Prop, (∀ a' w', I (updD d i) a' w' → K a' w') → o.wp P a w K Q)
    (he : ∀ (d : Nat → Bool) (a : Act) (w : World), I d a w → (∀ i, i < l.length → d i = true) → Q .normal a w) : (Code.region id l.toArray true).wp P Q a w := by
  refine wp_region_any hm ?_
  have key : ∀ (fuel : Nat) (listed : Array Bool) (a : Act) (w : World), listed.size = l.length → ((List.range l.length).filter fun i => !listed.getD i true).length ≤ fuel → I (fun j => listed.getD j true && decide (j < l.length)) a w → wpAny P .any l.toArray Q fuel listed a w := by
    intro fuel
    induction fuel with
    | zero =>
      intro listed a w hsz hn hI
      have hall : ∀ i, i < l.length → listed.getD i true = true := fun i hi => by
        cases h : listed.getD i true with
        | true => rfl
        | false =>
          have : i ∈ (List.range l.length).filter fun i => !listed.getD i true := List.mem_filter.2 ⟨List.mem_range.2 hi, by rw [h]; rfl⟩
          have := List.length_pos_of_mem this
          omega
      refine ⟨?_, he _ _ _ hI (fun i hi => by rw [hall i hi]; simp [hi])⟩
      rw [List.eq_nil_iff_forall_not_mem]
      intro i hi
      obtain ⟨h1, o, ho, _⟩ := mem_ready.1 hi
      have hil : i < l.length := by have := (Array.getElem?_eq_some_iff.1 ho).1; simpa using this
      rw [hall i hil] at h1
      cases h1
    | succ fuel ih =>
      intro listed a w hsz hn hI
      refine ⟨fun hr => he _ _ _ hI ?_, fun i hi => ?_⟩
      · have : ∀ n, ∀ i, i < n → i < l.length → listed.getD i true = true := by
          intro n
          induction n with
          | zero => intro i hi; omega
          | succ n ihn =>
            intro i hi hil
            by_cases hin : i < n
            · exact ihn i hin hil
            obtain rfl : i = n := by omega
            cases h : listed.getD i true with
            | true => rfl
            | false =>
              have hm' : i ∈ Region.ready .any l.toArray listed := mem_ready.2 ⟨h, l[i], by simp [hil], fun e he hb => by
                have hlt := linB_spec hl (List.getElem?_eq_getElem hil) he
                have h1 := ihn e.on hlt (by omega)
                have hz : e.on < listed.size := by omega
                rw [Array.getD_eq_getD_getElem?, Array.getElem?_eq_getElem hz] at h1 ⊢
                simpa only [Option.getD_some] using h1⟩
              rw [hr] at hm'
              cases hm'
        intro i hil
        rw [this (i + 1) i (by omega) hil]
        simp [hil]
      · obtain ⟨h1, o, ho, hp⟩ := mem_ready.1 hi
        have hil : i < l.length := by have := (Array.getElem?_eq_some_iff.1 ho).1; simpa using this
        have hoL : l[i]? = some o := by simpa using ho
        unfold wpOp
        simp only [ho]
        have hw : Region.wanted o (yielded l.toArray a.tmps) = true := by simp [Region.wanted, hg i o hoL]
        rw [if_pos hw]
        refine .inl (hs _ a w i o hI hoL (by rw [h1]; rfl) (fun e he hb => ?_) _ (fun a' w' hI' => ?_))
        · have h2 := hp e he hb
          have hlt := linB_spec hl hoL he
          have : e.on < listed.size := by omega
          rw [Array.getD_eq_getD_getElem?, Array.getElem?_eq_getElem this] at h2 ⊢
          simp only [Option.getD_some] at h2 ⊢
          rw [h2]
          simp
          omega
        · refine ih _ a' w' (by simpa using hsz) ?_ ?_
          · have hlt : ((List.range l.length).filter fun j => !(listed.setIfInBounds i true).getD j true).length < ((List.range l.length).filter fun j => !listed.getD j true).length := by
              have hsub : ((List.range l.length).filter fun j => !(listed.setIfInBounds i true).getD j true) = ((List.range l.length).filter fun j => !listed.getD j true).filter fun j => decide (j ≠ i) := by
                rw [List.filter_filter]
                congr 1
                funext j
                by_cases hji : j = i
                · subst hji
                  simp [Array.getD_eq_getD_getElem?, hsz, hil]
                · have : i ≠ j := fun e => hji e.symm
                  simp [Array.getD_eq_getD_getElem?, this, hji]
              rw [hsub]
              refine Nat.lt_of_le_of_ne (List.length_filter_le _ _) (fun e => ?_)
              have := List.length_filter_eq_length_iff.1 e i (List.mem_filter.2 ⟨List.mem_range.2 hil, by rw [h1]; rfl⟩)
              simp at this
            omega
          · have e : (fun j => (listed.setIfInBounds i true).getD j true && decide (j < l.length)) = updD (fun j => listed.getD j true && decide (j < l.length)) i := by
              funext j
              unfold updD
              by_cases hji : j = i
              · subst hji
                simp [Array.getD_eq_getD_getElem?, hsz, hil]
              · have : i ≠ j := fun e => hji e.symm
                simp [Array.getD_eq_getD_getElem?, this, hji]
            rw [e]
            exact hI'
  refine key _ _ _ _ (by simp) ?_ ?_
  · refine Nat.le_trans (List.length_filter_le _ _) ?_
    simp
  · have e : (fun j => (Array.replicate l.toArray.size false).getD j true && decide (j < l.length)) = fun _ => false := by
      funext j
      by_cases hj : j < l.length
      · simp [Array.getD_eq_getD_getElem?, hj]
      · simp [hj]
    rw [e]
    exact h0
def Closed (l : List Oper) (d : Nat → Bool) : Prop := ∀ (j : Nat) (o : Oper), l[j]? = some o → d j = true → ∀ e ∈ o.after, Region.binds .any e = true → d e.on = true
def reachB (l : List Oper) : Nat → Nat → Nat → Bool
  | 0, j, i => decide (j = i)
  | f + 1, j, i => decide (j = i) || ((l[j]?).map fun o => o.after.any fun e => Region.binds .any e && reachB l f e.on i).getD false
theorem reach_done {l : List Oper} {d : Nat → Bool} (hc : Closed l d) : ∀ {f j i : Nat}, reachB l f j i = true → d j = true → d i = true
  | 0, j, i, h, hj => by
    simp only [reachB, decide_eq_true_eq] at h
    rwa [← h]
  | f + 1, j, i, h, hj => by
    simp only [reachB, Bool.or_eq_true, decide_eq_true_eq] at h
    rcases h with h | h
    · rwa [← h]
    · cases ho : l[j]? with
      | none => rw [ho] at h; simp at h
      | some o =>
        rw [ho] at h
        simp only [Option.map_some, Option.getD_some] at h
        rw [Array.any_eq_true] at h
        obtain ⟨n, hn, he⟩ := h
        rw [Bool.and_eq_true] at he
        exact reach_done hc he.2 (hc j o ho hj o.after[n] (Array.getElem_mem hn) he.1)
theorem not_yet {l : List Oper} {d : Nat → Bool} (hc : Closed l d) (f : Nat) {j i : Nat} (hr : reachB l f j i = true) (hi : d i = false) : d j = false := by
  cases h : d j with
  | false => rfl
  | true => rw [reach_done hc hr h] at hi; cases hi
theorem wp_region_inv2 {id : Nat} {Q : Exit → Act → World → Prop} {a : Act} {w : World} {l : List Oper} (I : (Nat → Bool) → Act → World → Prop) (hm : P.follows .mixedOrders = true) (hl : linB l = true)
    (hg : ∀ (i : Nat) (o : Oper), l[i]? = some o → o.guard = none)
    (h0 : I (fun _ => false) a { w with drawn := w.drawn + 1 })
    (hs : ∀ (d : Nat → Bool) (a : Act) (w : World) (i : Nat) (o : Oper), Closed l d → I d a w → l[i]? = some o → d i = false → (∀ e ∈ o.after, Region.binds .any e = true → d e.on = true) → ∀ K : Act → World → Prop, (∀ a' w', I (updD d i) a' w' → K a' w') → o.wp P a w K Q)
    (he : ∀ (d : Nat → Bool) (a : Act) (w : World), I d a w → (∀ i, i < l.length → d i = true) → Q .normal a w) : (Code.region id l.toArray true).wp P Q a w := by
  refine wp_region_inv (fun d a w => Closed l d ∧ I d a w) hm hl hg ⟨fun j o _ h => (by cases h), h0⟩ (fun d a w i o hI ho hd hp K hK => ?_) (fun d a w hI hall => he d a w hI.2 hall)
  refine hs d a w i o hI.1 hI.2 ho hd hp K (fun a' w' hI' => hK a' w' ⟨fun j oj hj hd' e he' hb => ?_, hI'⟩)
  simp only [updD, Bool.or_eq_true, decide_eq_true_eq] at hd' ⊢
  rcases hd' with hd' | rfl
  · exact .inl (hI.1 j oj hj hd' e he' hb)
  · rw [ho] at hj
    cases hj
    exact .inl (hp e he' hb)
end

end Go.Proofs.YtpdpnepnfhbonaaGreat
