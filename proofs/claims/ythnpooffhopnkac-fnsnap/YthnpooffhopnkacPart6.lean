import Derived.Test.YthnpooffhopnkacRows
import Derived.Test.YthnpooffhopnkacPart1
import Derived.Test.YthnpooffhopnkacPart2
import Derived.Test.YthnpooffhopnkacPart3
import Derived.Test.YthnpooffhopnkacPart5
import Derived.Test.YthnpooffhopnkacPart4
import Derived.WalkKit
import Derived.WalkSpells
import Derived.LoopN
import Derived.BigQuiet
import Derived.Deep.QuietTactic
import Derived.Deep.RegionWith
import Derived.KernelRfl

/- Contract of the model's l10Form. (Made ahead of stage 10.) -/
namespace Go.Proofs.Ythnpooffhopnkac
open Go.RowKit
set_option linter.unusedVariables false
set_option maxRecDepth 100000

/-- How long an image's lists are, at most. -/
structure ImL (m : Img) : Prop where
  r : m.refs.length ≤ maxLen
  t : m.table.length ≤ maxLen
  s : m.snaps.length ≤ maxLen
  d : m.data.length ≤ maxLen
theorem fm_refs {m : Img} (h : ctB m.refs = false) : imFm m = false := by simp [imFm, h]
theorem fm_table {m : Img} (h : tbB m.table = false) : imFm m = false := by simp [imFm, h]
theorem fm_few {m : Img} (h : ¬ m.snaps.length ≤ 3) : imFm m = false := by simp [imFm, h]
theorem fm_data {m : Img} (h : ¬ m.data.length = 24) : imFm m = false := by simp [imFm, h]
theorem fm_snap {m : Img} {k : Nat} (hk : k < m.snaps.length) (h : (snmB m.snaps[k].name && tbB m.snaps[k].table) = false) : imFm m = false := by
  have e := all_not (p := fun s : Snp => snmB s.name && tbB s.table) hk h
  simp only [imFm, e, Bool.and_false, Bool.false_and]
theorem fm_twice {m : Img} {i k : Nat} (hi : i < m.snaps.length) (hk : k < i) (h : m.snaps[i].name = m.snaps[k].name) : imFm m = false := by
  have e : namesB m.snaps = false := decide_eq_false (not_nodup (xs := m.snaps.map (·.name)) (i := i) (k := k) (by simpa using hi) hk (by simpa using h))
  simp only [imFm, e, Bool.and_false, Bool.false_and]
theorem fm_num {m : Img} {k : Nat} (hk : k < m.data.length) (h : numB m.data[k] = false) : imFm m = false := by
  have e := all_not (p := numB) hk h
  simp only [imFm, e, Bool.and_false]
theorem fm_yes {m : Img} (h1 : ctB m.refs = true) (h2 : tbB m.table = true) (h3 : m.snaps.length ≤ 3) (h4 : m.data.length = 24) (h5 : ∀ j (hj : j < m.snaps.length), (snmB m.snaps[j].name && tbB m.snaps[j].table) = true) (h6 : (m.snaps.map (·.name)).Nodup) (h7 : ∀ j (hj : j < m.data.length), numB m.data[j] = true) : imFm m = true := by
  have e5 : m.snaps.all (fun s => snmB s.name && tbB s.table) = true := all_of (p := fun s : Snp => snmB s.name && tbB s.table) (fun i hi _ => h5 i hi)
  have e7 : m.data.all numB = true := all_of (p := numB) (fun i hi _ => h7 i hi)
  have e6 : namesB m.snaps = true := decide_eq_true h6
  simp only [imFm, h1, h2, h3, h4, e5, e6, e7, decide_true, Bool.and_true]

set_option maxHeartbeats 3200000 in
theorem l10Form_any (a : Im4) (m : Img) (w : World) (hL : ImL m) (hc : ImS w a m) :
    Calls Try.prog 62 #[imV a m] w fun e w' => e = .returned (.bool (imFm m)) ∧ Below w.heap.size w w' := by
  have HA := hide (Joins.below_alloc1 w (.cells #[.slice a.ro m.refs.length a.rc, .slice a.tq m.table.length a.tc, .slice a.so m.snaps.length a.sc, .slice a.dq m.data.length a.dc] 26))
  have HV := hide (VarM.new w 26 (.slice a.ro m.refs.length a.rc) (.slice a.tq m.table.length a.tc) (.slice a.so m.snaps.length a.sc) (.slice a.dq m.data.length a.dc))
  have HC := hide (hc.below (unhide HA))
  have HL := hide hL
  clear hc hL
  have hs64 : m.snaps.length ≤ 9223372036854775807 := (unhide HL).s
  have hd64 : m.data.length ≤ 9223372036854775807 := (unhide HL).d
  cases h1 : ctB m.refs
  · have HF := hide (fm_refs h1)
    go_enter Try.func62, Try.ntmps62
    go_upto_region 1 with fail
    revert HA HV HC
    generalize (w.alloc _) = W0
    intro HA HV HC
    obtain ⟨c0, c1, c2, c3⟩ := (unhide HV).cells
    go_wp2_with (go_at_call 85; refine (refsOK_spec _ _ m.refs _ (unhide HL).r (unhide HC).r).mono ?_; rintro e w' ⟨rfl, hw⟩; replace hw := hw.symm; subst hw; rw [h1])
    go_ret
    exact ⟨ret_bool (unhide HF).symm, unhide HA⟩
  cases h2 : tbB m.table
  · have HF := hide (fm_table h2)
    go_enter Try.func62, Try.ntmps62
    go_upto_region 1 with fail
    revert HA HV HC
    generalize (w.alloc _) = W0
    intro HA HV HC
    obtain ⟨c0, c1, c2, c3⟩ := (unhide HV).cells
    go_wp2_with (first | (go_at_call 85; refine (refsOK_spec _ _ m.refs _ (unhide HL).r (unhide HC).r).mono ?_; rintro e w' ⟨rfl, hw⟩; replace hw := hw.symm; subst hw; rw [h1]) | (go_at_call 86; refine (tableOK_spec _ _ m.table _ (unhide HL).t (unhide HC).t).mono ?_; rintro e w' ⟨rfl, hw⟩; replace hw := hw.symm; subst hw; rw [h2]))
    go_ret
    exact ⟨ret_bool (unhide HF).symm, unhide HA⟩
  by_cases h3 : m.snaps.length ≤ 3
  rotate_left
  · have HF := hide (fm_few h3)
    have h3i : (3 : Int) < (m.snaps.length : Int) := by omega
    go_enter Try.func62, Try.ntmps62
    go_upto_region 1 with fail
    revert HA HV HC
    generalize (w.alloc _) = W0
    intro HA HV HC
    obtain ⟨c0, c1, c2, c3⟩ := (unhide HV).cells
    go_wp2_with (first | (go_at_call 85; refine (refsOK_spec _ _ m.refs _ (unhide HL).r (unhide HC).r).mono ?_; rintro e w' ⟨rfl, hw⟩; replace hw := hw.symm; subst hw; rw [h1]) | (go_at_call 86; refine (tableOK_spec _ _ m.table _ (unhide HL).t (unhide HC).t).mono ?_; rintro e w' ⟨rfl, hw⟩; replace hw := hw.symm; subst hw; rw [h2]))
    go_ret
    exact ⟨ret_bool (unhide HF).symm, unhide HA⟩
  by_cases h4 : m.data.length = 24
  rotate_left
  · have HF := hide (fm_data h4)
    have h3i : ¬ (3 : Int) < (m.snaps.length : Int) := by omega
    have h4b : ((m.data.length : Int) != 24) = true := by simp; omega
    clear h4
    go_enter Try.func62, Try.ntmps62
    go_upto_region 1 with fail
    revert HA HV HC
    generalize (w.alloc _) = W0
    intro HA HV HC
    obtain ⟨c0, c1, c2, c3⟩ := (unhide HV).cells
    go_wp2_with (first | (go_at_call 85; refine (refsOK_spec _ _ m.refs _ (unhide HL).r (unhide HC).r).mono ?_; rintro e w' ⟨rfl, hw⟩; replace hw := hw.symm; subst hw; rw [h1]) | (go_at_call 86; refine (tableOK_spec _ _ m.table _ (unhide HL).t (unhide HC).t).mono ?_; rintro e w' ⟨rfl, hw⟩; replace hw := hw.symm; subst hw; rw [h2]))
    go_ret
    exact ⟨ret_bool (unhide HF).symm, unhide HA⟩
  have h3i : ¬ (3 : Int) < (m.snaps.length : Int) := by omega
  have h4b : ((m.data.length : Int) != 24) = false := by simp [h4]
  have H4 := hide h4
  have HYES := hide (fun h5 h6 h7 => fm_yes (m := m) h1 h2 h3 h4 h5 h6 h7)
  clear h4
  go_enter Try.func62, Try.ntmps62
  go_upto_region 1 with fail
  revert HA HV HC
  generalize (w.alloc _) = W0
  intro HA HV HC
  obtain ⟨c0, c1, c2, c3⟩ := (unhide HV).cells
  go_wp2_with (first | (go_at_call 85; refine (refsOK_spec _ _ m.refs _ (unhide HL).r (unhide HC).r).mono ?_; rintro e w' ⟨rfl, hw⟩; replace hw := hw.symm; subst hw; rw [h1]) | (go_at_call 86; refine (tableOK_spec _ _ m.table _ (unhide HL).t (unhide HC).t).mono ?_; rintro e w' ⟨rfl, hw⟩; replace hw := hw.symm; subst hw; rw [h2]))
  clear c0 c1 c2 c3 h1 h2
  go_loopw [3] (fun i wr => ∃ k : Nat, k ≤ m.snaps.length ∧ i = .int .i64 k ∧ Hid (∀ j (hj : j < m.snaps.length), j < k → (snmB m.snaps[j].name && tbB m.snaps[j].table) = true) ∧ Hid (((m.snaps.map (·.name)).take k).Nodup) ∧ Hid (Below W0.heap.size W0 wr)) (fun i _ => m.snaps.length - (intOf i).toNat)
  case atStart => exact ⟨0, Nat.zero_le _, rfl, hide (fun j _ h => by omega), hide (by simp), hide (Below.refl _ _)⟩
  case round =>
    obtain ⟨i, hi, rfl, HS, HN, HB⟩ := hrel
    obtain ⟨c0, c1, c2, c3⟩ := ((unhide HV).below (unhide HB)).cells
    by_cases hlt : i < m.snaps.length
    · obtain ⟨b, off, tq, tc, eb, hn0, ht0, hIs, hz, htl⟩ := ((unhide HC).s.below (unhide HB)) i hlt
      rw [eb] at c2
      have EB := hide eb
      clear eb
      have hlti : (i : Int) < (m.snaps.length : Int) := by omega
      have HIS := hide hIs
      have HZ := hide hz
      have HTL := hide htl
      clear hIs hz htl
      by_cases hok : snmB m.snaps[i].name = true
      rotate_left
      · have hok' : snmB m.snaps[i].name = false := by simpa using hok
        have HF := hide (fm_snap hlt (by rw [hok']; rfl))
        clear hok
        go_wp2_with (go_at_call 78; refine (l10Name_any _ _ (unhide HZ)).mono ?_; rintro e w' ⟨rfl, hw⟩; replace hw := hw.symm; subst hw; rw [hok'])
        go_ret
        exact ⟨ret_bool (unhide HF).symm, fr (unhide HA) (unhide HB)⟩
      by_cases htb : tbB m.snaps[i].table = true
      rotate_left
      · have htb' : tbB m.snaps[i].table = false := by simpa using htb
        have HF := hide (fm_snap hlt (by rw [htb', Bool.and_false]))
        clear htb
        go_wp2_with (first | (go_at_call 78; refine (l10Name_any _ _ (unhide HZ)).mono ?_; rintro e w' ⟨rfl, hw⟩; replace hw := hw.symm; subst hw; rw [hok]) | (go_at_call 86; refine (tableOK_spec _ _ m.snaps[i].table _ (unhide HTL) (unhide HIS)).mono ?_; rintro e w' ⟨rfl, hw⟩; replace hw := hw.symm; subst hw; rw [htb']))
        go_ret
        exact ⟨ret_bool (unhide HF).symm, fr (unhide HA) (unhide HB)⟩
      have HS' := hide (all_succ (p := fun s : Snp => snmB s.name && tbB s.table) hlt (unhide HS) (by rw [hok, htb]; rfl))
      go_wp2_with (first | (go_at_call 78; refine (l10Name_any _ _ (unhide HZ)).mono ?_; rintro e w' ⟨rfl, hw⟩; replace hw := hw.symm; subst hw; rw [hok]) | (go_at_call 86; refine (tableOK_spec _ _ m.snaps[i].table _ (unhide HTL) (unhide HIS)).mono ?_; rintro e w' ⟨rfl, hw⟩; replace hw := hw.symm; subst hw; rw [htb]))
      clear c0 c1 c2 c3 hn0 ht0 hok htb HIS HTL HZ
      go_loopw [4] (fun k wq => ∃ j : Nat, j ≤ i ∧ k = .int .i64 j ∧ Hid (∀ p (hp : p < (m.snaps.map (·.name)).length), p < j → (m.snaps.map (·.name))[p] ≠ (m.snaps.map (·.name))[i]'(by simpa using hlt)) ∧ Hid (Below W0.heap.size W0 wq)) (fun k _ => i - (intOf k).toNat)
      case atStart => exact ⟨0, Nat.zero_le _, rfl, hide (fun p _ h => by omega), HB⟩
      case round =>
        clear HB
        obtain ⟨j, hj, rfl, HP, HB⟩ := hrel
        obtain ⟨c0, c1, c2, c3⟩ := ((unhide HV).below (unhide HB)).cells
        by_cases hjl : j < i
        · have hjs : j < m.snaps.length := by omega
          have hjsi : (j : Int) < (m.snaps.length : Int) := by omega
          obtain ⟨b1, off1, tq1, tc1, e1, hn1, _, _, _, _⟩ := ((unhide HC).s.below (unhide HB)) i hlt
          obtain ⟨b2, off2, tq2, tc2, e2, hn2, _, _, _, _⟩ := ((unhide HC).s.below (unhide HB)) j hjs
          rw [unhide EB] at c2 e1 e2
          cases e1
          cases e2
          by_cases he : m.snaps[j].name = m.snaps[i].name
          · have HF := hide (fm_twice hlt hjl he.symm)
            have be : (m.snaps[j].name.toList == m.snaps[i].name.toList) = true := by simp [he]
            clear he
            go_wp2
            go_quiet (fail)
            go_wp2
            go_ret
            exact ⟨ret_bool (unhide HF).symm, fr (unhide HA) ((unhide HB).trans (Joins.below_draws _ _ _))⟩
          · have HP' : Hid (∀ p (hp : p < (m.snaps.map (·.name)).length), p < j + 1 → (m.snaps.map (·.name))[p] ≠ (m.snaps.map (·.name))[i]'(by simpa using hlt)) := hide (fun p hp h => by
              by_cases e : p = j
              · subst e; simpa using he
              · exact unhide HP p hp (by omega))
            have be : (m.snaps[j].name.toList == m.snaps[i].name.toList) = false := str_beq_false he
            clear he
            go_wp2
            go_quiet (fail)
            go_wp2
            go_roundw
            case rel => exact ⟨j + 1, by omega, by go_num, HP', hide ((unhide HB).trans (Joins.below_draws _ _ _))⟩
            case measure => simp [intOf]; omega
        · have HN' := hide (nodup_snoc (xs := m.snaps.map (·.name)) (k := i) (by simpa using hlt) (unhide HN) (fun p hp h => unhide HP p hp (by omega)))
          go_wp2
          go_roundw
          case rel => exact ⟨i + 1, by omega, by go_num, HS', HN', HB⟩
          case measure => simp [intOf]; omega
    · have HNN : Hid ((m.snaps.map (·.name)).Nodup) := hide (by
        have := unhide HN
        rwa [List.take_of_length_le (by simp; omega)] at this)
      have HBB := HB
      go_wp2
      clear c0 c1 c2 c3
      go_loopw [5] (fun k wq => ∃ j : Nat, j ≤ m.data.length ∧ k = .int .i64 j ∧ Hid (∀ p (hp : p < m.data.length), p < j → numB m.data[p] = true) ∧ Hid (Below W0.heap.size W0 wq)) (fun k _ => m.data.length - (intOf k).toNat)
      case atStart => exact ⟨0, Nat.zero_le _, rfl, hide (fun p _ h => by omega), HB⟩
      case round =>
        clear HB HBB
        obtain ⟨j, hj, rfl, HD, HBB⟩ := hrel
        obtain ⟨c0, c1, c2, c3⟩ := ((unhide HV).below (unhide HBB)).cells
        by_cases hjl : j < m.data.length
        · obtain ⟨b, off, ed, hcl⟩ := ((unhide HC).d.below (unhide HBB)) j hjl
          rw [ed] at c3
          clear ed
          have hjli : (j : Int) < (m.data.length : Int) := by omega
          by_cases hn : numB m.data[j] = true
          · have HD' := hide (all_succ hjl (unhide HD) hn)
            go_wp2_with (go_at_call 29; refine (l02Int_any _ _).mono ?_; rintro e w' ⟨rfl, hw⟩; replace hw := hw.symm; subst hw; rw [hn])
            go_roundw
            case rel => exact ⟨j + 1, by omega, by go_num, HD', HBB⟩
            case measure => simp [intOf]; omega
          · have hn' : numB m.data[j] = false := by simpa using hn
            have HF := hide (fm_num hjl hn')
            clear hn
            go_wp2_with (go_at_call 29; refine (l02Int_any _ _).mono ?_; rintro e w' ⟨rfl, hw⟩; replace hw := hw.symm; subst hw; rw [hn'])
            go_ret
            exact ⟨ret_bool (unhide HF).symm, fr (unhide HA) (unhide HBB)⟩
        · have HF := hide (unhide HYES (fun j h => unhide HS j h (by omega)) (unhide HNN) (fun p hp => unhide HD p hp (by omega)))
          go_wp2
          go_ret
          exact ⟨ret_bool (unhide HF).symm, fr (unhide HA) (unhide HBB)⟩

end Go.Proofs.Ythnpooffhopnkac

/- Contract of the model's l10Count. (Made ahead of stage 10.) -/
namespace Go.Proofs.Ythnpooffhopnkac
open Go.RowKit
set_option linter.unusedVariables false
set_option maxRecDepth 100000

theorem infoTb : (Try.prog.info? 23).map (fun i => (i.zero, i.size, i.bytes)) = some (some (.slice none 0 0), 1, 24) := by kernel_rfl
theorem infoIn : (Try.prog.info? 3).map (fun i => (i.zero, i.size, i.bytes)) = some (some (.int .i64 0), 1, 8) := by kernel_rfl
theorem slice_one (ao : Option Addr) (n c : Nat) : ∀ u ∈ [Value.slice ao n c], u.oneCell' = true := by
  intro u hu
  simp at hu
  subst hu
  rfl
/-- Tables as values. -/
def TabV (w : World) (vs : List Value) (ts : List (List Int)) : Prop := vs.length = ts.length ∧ ∀ j (h : j < ts.length), ∃ tq tc, vs[j]? = some (.slice tq ts[j].length tc) ∧ Is w tq ts[j]
theorem TabV.snoc {w : World} {vs : List Value} {ts : List (List Int)} {t : List Int} {tq : Option Addr} {tc : Nat} (h : TabV w vs ts) (ht : Is w tq t) : TabV w (vs ++ [.slice tq t.length tc]) (ts ++ [t]) := by
  refine ⟨by simp [h.1], fun j hj => ?_⟩
  rw [List.length_append, List.length_singleton] at hj
  by_cases e : j < ts.length
  · obtain ⟨a, b, h1, h2⟩ := h.2 j e
    refine ⟨a, b, ?_, ?_⟩
    · rw [List.getElem?_append_left (by rw [h.1]; exact e), List.getElem_append_left e]; exact h1
    · rw [List.getElem_append_left e]; exact h2
  · obtain rfl : j = ts.length := by omega
    refine ⟨tq, tc, ?_, ?_⟩
    · rw [List.getElem?_append_right (by rw [h.1]; exact Nat.le_refl _), h.1]; simp
    · simpa using ht
theorem TabV.below {w w' : World} {vs : List Value} {ts : List (List Int)} (h : TabV w vs ts) (hb : Below w.heap.size w w') : TabV w' vs ts := ⟨h.1, fun j hj => by
  obtain ⟨a, b, h1, h2⟩ := h.2 j hj
  exact ⟨a, b, h1, h2.below hb⟩⟩
theorem imTabs_len (m : Img) : (imTabs m).length = m.snaps.length + 1 := by simp [imTabs]
theorem imTabs_take {m : Img} {k : Nat} (h : k < m.snaps.length) : (imTabs m).take (k + 1 + 1) = (imTabs m).take (k + 1) ++ [m.snaps[k].table] := by
  rw [List.take_succ_eq_append_getElem (by rw [imTabs_len]; omega)]
  simp [imTabs]
/-- Clusters of a right table. -/
theorem clA_in {t : List Int} (h : tbB t = true) : ∀ j (hj : j < (clA t).length), 0 ≤ (clA t)[j] ∧ (clA t)[j] ≤ 23 := by
  intro j hj
  have hm := List.getElem_mem hj
  unfold clA clTo at hm
  rw [List.mem_filterMap] at hm
  obtain ⟨e, he, h2⟩ := hm
  rw [List.take_length] at he
  obtain ⟨i, hi, rfl⟩ := List.mem_iff_getElem.1 he
  have := tbB_at h i hi
  by_cases h3 : 2 ≤ t[i]
  · rw [if_pos h3] at h2
    have e : (clA t)[j] = t[i] - 2 := by unfold clA clTo; exact (Option.some.inj h2).symm
    omega
  · rw [if_neg h3] at h2; cases h2
theorem clA_len {t : List Int} (h : tbB t = true) : (clA t).length ≤ 12 := by
  have := clTo_len t t.length
  have := tbB_len h
  unfold clA
  omega
/-- Counts within bounds. -/
def CtI (ns : List Int) (b : Int) : Prop := ns.length = 24 ∧ ∀ i (h : i < ns.length), 0 ≤ ns[i] ∧ ns[i] ≤ b
theorem incr_set (ns : List Int) (c : Nat) : incr ns (c : Int) = ns.set c (ns.getD c 0 + 1) := by unfold incr; rw [Int.toNat_natCast]
theorem CtI.up {ns : List Int} {b : Int} {c : Nat} (h : CtI ns b) (hc : c < 24) : CtI (incr ns c) (b + 1) := by
  rw [incr_set]
  refine ⟨by rw [List.length_set]; exact h.1, fun i hi => ?_⟩
  rw [List.length_set] at hi
  have hb := h.2 i hi
  rw [List.getElem_set]
  by_cases e : c = i
  · have h2 : ns.getD c 0 = ns[i] := by simp [List.getD, e, hi]
    rw [if_pos e, h2]
    omega
  · rw [if_neg e]
    omega
theorem made_rep (q : Nat) (v : Value) : (madeCells #[v] q).toList = List.replicate q v := by
  apply List.ext_getElem?
  intro i
  simp [madeCells, List.getElem?_replicate, Nat.mod_one]
  by_cases hi : i < q <;> simp [hi]
theorem CtI.mono {ns : List Int} {b b' : Int} (h : CtI ns b) (hb : b ≤ b') : CtI ns b' := ⟨h.1, fun i hi => ⟨(h.2 i hi).1, by have := (h.2 i hi).2; omega⟩⟩
theorem CtI.zero : CtI zero24 0 := ⟨rfl, by decide⟩
theorem incr_take {L : List Int} {k : Nat} (h : k < L.length) (ns : List Int) : (L.take (k + 1)).foldl incr ns = incr ((L.take k).foldl incr ns) L[k] := by
  rw [List.take_succ_eq_append_getElem h, List.foldl_append]; rfl
theorem cntT_take {ts : List (List Int)} {k : Nat} (h : k < ts.length) (ns : List Int) : (ts.take (k + 1)).foldl cnt1T ns = cnt1T ((ts.take k).foldl cnt1T ns) ts[k] := by
  rw [List.take_succ_eq_append_getElem h, List.foldl_append]; rfl
/-- A row of numbers of the call's own, one of them set. -/
theorem own_setI {w : World} {B n cap g j : Nat} {xs : List Int} (h : OwnR w B 3 1 (.slice (some ⟨g, 0, none⟩) n cap) n (intV xs)) (hp : 0 < n) (y : Int) : OwnR (w.setCell ⟨g, j, none⟩ (.int .i64 y)) B 3 1 (.slice (some ⟨g, 0, none⟩) n cap) n (intV (xs.set j y)) := by
  refine .inr ⟨hp, ?_⟩
  have := ((h.row hp).stored j (.int .i64 y)).1
  rwa [show (intV xs).set j (.int .i64 y) = intV (xs.set j y) by simp [intV, List.map_set]] at this

set_option maxHeartbeats 3200000 in
theorem l10Count_any (a : Im4) (m : Img) (w : World) (hs : m.snaps.length ≤ 3) (htb : ∀ t ∈ imTabs m, tbB t = true) (hc : ImS w a m) :
    Calls Try.prog 64 #[imV a m] w fun e w' => ∃ v, e = .returned v ∧ OwnN w' w.heap.size v (imCnt m) ∧ Below w.heap.size w w' := by
  have HA := hide (Joins.below_alloc1 w (.cells #[.slice a.ro m.refs.length a.rc, .slice a.tq m.table.length a.tc, .slice a.so m.snaps.length a.sc, .slice a.dq m.data.length a.dc] 26))
  have HV := hide (VarM.new w 26 (.slice a.ro m.refs.length a.rc) (.slice a.tq m.table.length a.tc) (.slice a.so m.snaps.length a.sc) (.slice a.dq m.data.length a.dc))
  have HC := hide hc
  have HTB := hide htb
  clear hc htb
  obtain ⟨i0, hi, hz0, hz1, hz2⟩ := info_parts infoIn
  obtain ⟨j0, hj, hy0, hy1, hy2⟩ := info_parts infoTb
  go_enter Try.func64, Try.ntmps64
  go_upto_region 1 with fail
  revert HA HV
  generalize (w.alloc _) = W0
  intro HA HV
  have HSZ0 : Hid (w.heap.size < W0.heap.size) := hide (unhide HV).lt
  go_wp2_with (first | (at_make; refine wpList_make_full _ rfl _ _ 23 rfl W0.heap.size 3 i0 _ 1 Try.underlying23 hi hz0 hz1 _ _ _ _ 24 rfl rfl rfl rfl ?c1 ?c2 ?c3 ?_))
  case c1 => rw [hz2]; omega
  case c2 => unfold maxLen; omega
  case c3 => exact Nat.le_refl _
  intro w1 hown hgrow
  have hB1 : Below W0.heap.size W0 w1 := (Below.refl _ _).grown hgrow (Nat.le_refl _) (fun _ h => by cases h)
  have HO1 : Hid (OwnR w1 W0.heap.size 3 1 (.slice (some ⟨W0.heap.size, 0, none⟩) 24 24) 24 (intV zero24)) := hide (by
    rw [show intV zero24 = (madeCells #[Value.int .i64 0] 24).toList from (made_rep 24 _).symm]
    exact OwnR.of hown (fun h => by cases h))
  have HB1 := hide (fr (unhide HA) hB1)
  have HV1 := hide ((unhide HV).below hB1)
  have HG : Hid (W0.heap.size < w1.heap.size) := hide ((unhide HO1).ge _ (own_of (by omega) rfl)).2
  clear hown hgrow hB1 HV HA
  generalize hGG : W0.heap.size = G at *
  clear hGG
  obtain ⟨c0, c1, c2, c3⟩ := (unhide HV1).cells
  have HOT : Hid (OwnR (w1.alloc (.cells #[.slice a.tq m.table.length a.tc] 23)) w1.heap.size 23 1 (.slice (some ⟨w1.heap.size, 0, none⟩) 1 1) 1 [.slice a.tq m.table.length a.tc]) := hide (.inr ⟨by omega, rfl, .inr ⟨w1.heap.size, 1, #[.slice a.tq m.table.length a.tc], rfl, Nat.le_refl _, heap_alloc_new w1 _, Nat.le_refl _, by unfold maxLen; omega, rfl, rfl⟩⟩)
  have HBA := hide (Joins.below_alloc1 w1 (.cells #[.slice a.tq m.table.length a.tc] 23))
  go_upto_region 4 with fail
  revert HOT HBA
  generalize (w1.alloc _) = W1
  intro HOT HBA
  clear c0 c1 c2 c3
  go_loopw [4, 5] (fun o i wr => ∃ (k : Nat) (qo : Option Addr) (qa : Nat) (vs : List Value), k ≤ m.snaps.length ∧ i = .int .i64 k ∧ o = .slice qo (k + 1) qa ∧ Hid (OwnR wr w1.heap.size 23 1 (.slice qo (k + 1) qa) (k + 1) vs) ∧ Hid (TabV w vs ((imTabs m).take (k + 1))) ∧ Hid (Below w1.heap.size w1 wr)) (fun _ i _ => m.snaps.length - (intOf i).toNat)
  case atStart => exact ⟨0, _, _, [.slice a.tq m.table.length a.tc], Nat.zero_le _, rfl, rfl, HOT, hide (by
    have h0 : TabV w [] [] := ⟨rfl, fun j h => by simp at h⟩
    have := h0.snoc (tc := a.tc) (unhide HC).t
    simpa [imTabs] using this), HBA⟩
  case round =>
    clear HOT HBA
    obtain ⟨k, qo, qa, vs, hk, rfl, rfl, HO, HT, HB⟩ := hrel
    obtain ⟨c0, c1, c2, c3⟩ := ((unhide HV1).below (unhide HB)).cells
    by_cases hlt : k < m.snaps.length
    · obtain ⟨b, off, tq, tc, eb, hn0, ht0, hIs, hz, htl⟩ := ((unhide HC).s.below (fr (unhide HB1) (unhide HB))) k hlt
      obtain ⟨b', off', tq', tc', eb', _, ht0', hIs', _, _⟩ := (unhide HC).s k hlt
      rw [eb] at eb'
      cases eb'
      have ett : Value.slice tq' m.snaps[k].table.length tc' = .slice tq m.snaps[k].table.length tc := by
        have h1 := ((fr (unhide HB1) (unhide HB)).cell (p := ⟨b, off + k * 2 + 1, none⟩) (World.block_lt_of_cell? _ _ ht0')).trans ht0'
        rw [ht0] at h1
        exact (Option.some.inj h1).symm
      rw [eb] at c2
      clear eb
      have hlti : (k : Int) < (m.snaps.length : Int) := by omega
      have HT' : Hid (TabV w (vs ++ [.slice tq m.snaps[k].table.length tc]) ((imTabs m).take (k + 1 + 1))) := hide (by
        rw [imTabs_take hlt, ← ett]
        exact (unhide HT).snoc hIs')
      have HOA := hide ((unhide HO).below (Joins.below_alloc1 _ (.cells #[.slice tq m.snaps[k].table.length tc] 23)))
      have HBA := hide (fr (unhide HB) (Joins.below_alloc1 _ (.cells #[.slice tq m.snaps[k].table.length tc] 23)))
      have HSZ := hide (unhide HB).size
      clear hIs hIs' ht0' ett hz htl
      go_wp2_with (at_builtin; refine wpList_append_one rfl _ _ 90 rfl w1.heap.size 23 j0 (.slice none 0 0) 1 24 Try.underlying90 hj hy0 hy1 hy2 rfl (by omega) qo (k + 1) qa vs rfl (unhide HOA) (by have := unhide HSZ; simp; omega) ⟨wr.heap.size, 0, none⟩ _ [.slice tq m.snaps[k].table.length tc] rfl rfl (byte_news wr _ _) (slice_one _ _ _) (by unfold maxLen; omega) (by omega) ?_; intro g2 cap2 wA hoA hkA; have HSF := hide (And.intro hoA (keep_below (unhide HBA) (unhide HOA) (Nat.le_refl _) hkA)); clear hoA hkA)
      go_roundw
      case rel => exact ⟨k + 1, some ⟨g2, 0, none⟩, cap2, vs ++ [.slice tq m.snaps[k].table.length tc], by omega, by go_num, rfl, hide (.inr ⟨by omega, (unhide HSF).1⟩), HT', hide (unhide HSF).2⟩
      case measure => simp [intOf]; omega
    · obtain rfl : k = m.snaps.length := by omega
      have HTT : Hid (TabV w vs (imTabs m)) := hide (by
        have := unhide HT
        rwa [List.take_of_length_le (by rw [imTabs_len]; exact Nat.le_refl _)] at this)
      have HLT := hide (imTabs_len m)
      have HO2 := hide ((unhide HO1).below (unhide HB))
      have HB2 := hide (fr (unhide HB1) (unhide HB))
      have HSZ1 := hide (unhide HB).size
      have HCN : Hid (imCnt m = (imTabs m).foldl cnt1T zero24) := hide rfl
      clear HT HV1 HO1 HB1
      generalize imTabs m = ts at *
      generalize hNN : m.snaps.length + 1 = N at *
      have hN4 : N ≤ 4 := by omega
      have HNN : Hid ((m.snaps.length : Int) + 1 = (N : Int)) := hide (by omega)
      clear hNN
      go_wp2
      clear c0 c1 c2 c3
      go_loopw [6] (fun i wq => ∃ k : Nat, k ≤ N ∧ i = .int .i64 k ∧ Hid (CtI ((ts.take k).foldl cnt1T zero24) (20 * k)) ∧ Hid (OwnR wq G 3 1 (.slice (some ⟨G, 0, none⟩) 24 24) 24 (intV ((ts.take k).foldl cnt1T zero24))) ∧ Hid (OwnR wq w1.heap.size 23 1 (.slice qo N qa) N vs) ∧ Hid (Below w.heap.size w wq)) (fun i _ => N - (intOf i).toNat)
      case atStart => exact ⟨0, Nat.zero_le _, rfl, hide (by simpa using CtI.zero), by simpa using HO2, HO, HB2⟩
      case round =>
        clear HO HO2 HB2 HB
        obtain ⟨k, hk, rfl, HI, HO, HQ, HB⟩ := hrel
        by_cases hlt : k < N
        · have hkt : k < ts.length := by rw [unhide HLT]; exact hlt
          obtain ⟨tq, tc, hvk, hIs⟩ := (unhide HTT).2 k hkt
          obtain ⟨q2, cap2, cur2, eq2, _, _⟩ := own_form (by omega) ((unhide HQ).row (by omega))
          have hcell := ((unhide HQ).row (by omega))
          rw [eq2] at hcell
          have hck := (hcell.cellAt k (by omega)).trans hvk
          cases eq2
          have HIS := hide (hIs.below (unhide HB))
          have htk := unhide HTB ts[k] (List.getElem_mem hkt)
          have HTX := hide (tbB_len htk)
          have HIN : Hid (∀ j (h : j < ts[k].length), -1000 ≤ ts[k][j] ∧ ts[k][j] ≤ 1000) := hide (fun j h => by have := tbB_at htk j h; omega)
          have HCI := hide (clA_in htk)
          have HCL := hide (clA_len htk)
          have HCT := hide (cntT_take hkt zero24)
          clear hIs hcell hvk htk
          go_wp2_with fail
          refine (l09Clusters_any tq tc ts[k] _ (by have := unhide HTX; omega) (unhide HIN) (unhide HIS)).mono ?_
          rintro e w3 ⟨v, rfl, ⟨lo, la, rfl, hol⟩, hb3⟩
          have HB3 := hide (fr (unhide HB) hb3)
          have HO3 := hide ((unhide HO).below hb3)
          have HQ3 := hide ((unhide HQ).below hb3)
          have HL3 := hide hol
          have HGS : Hid (G < wr.heap.size) := hide ((unhide HO).ge _ (own_of (by omega) rfl)).2
          have HC1 : Hid (cnt1T ((ts.take k).foldl cnt1T zero24) ts[k] = (clA ts[k]).foldl incr ((ts.take k).foldl cnt1T zero24)) := hide rfl
          clear hol hb3 hck
          generalize clA ts[k] = L at *
          generalize hNS : (ts.take k).foldl cnt1T zero24 = ns at *
          clear hNS
          have hL12 := unhide HCL
          go_wp2
          go_loopw [8] (fun i wq => ∃ j : Nat, j ≤ L.length ∧ i = .int .i64 j ∧ Hid (CtI ((L.take j).foldl incr ns) (20 * k + j)) ∧ Hid (OwnR wq G 3 1 (.slice (some ⟨G, 0, none⟩) 24 24) 24 (intV ((L.take j).foldl incr ns))) ∧ Hid (Keep (fun g => g = G) w3 wq)) (fun i _ => L.length - (intOf i).toNat)
          case atStart => exact ⟨0, Nat.zero_le _, rfl, hide (by simpa using unhide HI), by simpa using HO3, hide (Keep.refl _ _)⟩
          case round =>
            obtain ⟨j, hj', rfl, HJ, HOJ, HKJ⟩ := hrel
            by_cases hjl : j < L.length
            · have HLJ := hide ((unhide HL3).keep (unhide HKJ) (fun g hg he => by have h1 := ((unhide HL3).ge g hg).1; have h2 := unhide HGS; omega))
              obtain ⟨b, off, rfl, hcl⟩ := (ownRN (unhide HLJ)) j hjl
              obtain ⟨l0, l1⟩ := unhide HCI j hjl
              obtain ⟨c, hcc⟩ := Int.eq_ofNat_of_zero_le l0
              rw [hcc] at hcl
              have hc24 : c < 24 := by omega
              have hc24i : (c : Int) < 24 := by omega
              have HST := hide (incr_take hjl ns)
              rw [hcc] at HST
              clear hcc l0 l1
              generalize hMS : (L.take j).foldl incr ns = ms at *
              clear hMS
              have hlen := (unhide HJ).1
              have hcm : c < ms.length := by omega
              obtain ⟨x0, x1⟩ := (unhide HJ).2 c hcm
              have hx := ((unhide HOJ).row (by omega)).cellAt c (by omega)
              rw [intV_get hcm] at hx
              have hf := ((unhide HOJ).row (by omega)).frozenAt c
              have HJ' : Hid (CtI ((L.take (j + 1)).foldl incr ns) (20 * k + (j + 1 : Nat))) := hide (by rw [unhide HST]; exact ((unhide HJ).up hc24).mono (by omega))
              have HO' : Hid (OwnR (wr.setCell ⟨G, c, none⟩ (.int .i64 (ms[c] + 1))) G 3 1 (.slice (some ⟨G, 0, none⟩) 24 24) 24 (intV ((L.take (j + 1)).foldl incr ns))) := hide (by
                rw [unhide HST]
                have e : incr ms (c : Int) = ms.set c (ms[c] + 1) := by rw [incr_set]; simp [List.getD, hcm]
                rw [e]
                exact own_setI (unhide HOJ) (by omega) _)
              have HK' := hide ((unhide HKJ).setCell (p := ⟨G, c, none⟩) rfl (.int .i64 (ms[c] + 1)))
              clear hlen
              generalize ms[c] = X at *
              have hw1 : IntKind.i64.wrap (X + 1) = X + 1 := by rw [IntKind.wrap_i64]; omega
              go_wp2
              go_roundw
              case rel => exact ⟨j + 1, by omega, by go_num, HJ', HO', HK'⟩
              case measure => simp [intOf]; omega
            · obtain rfl : j = L.length := by omega
              have HTL : Hid (L.take L.length = L) := hide (List.take_length)
              rw [List.take_length] at HJ HOJ
              have HQ4 := hide ((unhide HQ3).keep (unhide HKJ) (fun g hg he => own_apart (unhide HQ3) (unhide HO3) (by decide) g hg (own_of (by omega) he.symm)))
              have HB4 := hide ((unhide HB3).trans ((unhide HKJ).below (unhide HB3).size (fun g hg => by have := unhide HSZ0; omega)))
              have HI' : Hid (CtI ((ts.take (k + 1)).foldl cnt1T zero24) (20 * (k + 1 : Nat))) := hide (by rw [unhide HCT, unhide HC1]; exact (unhide HJ).mono (by omega))
              have HO' : Hid (OwnR wr G 3 1 (.slice (some ⟨G, 0, none⟩) 24 24) 24 (intV ((ts.take (k + 1)).foldl cnt1T zero24))) := hide (by rw [unhide HCT, unhide HC1]; exact unhide HOJ)
              go_wp2
              go_roundw
              case rel => exact ⟨k + 1, by omega, by go_num, HI', HO', HQ4, HB4⟩
              case measure => simp [intOf]; omega
        · have hkN : k = N := by omega
          subst hkN
          have HTK : Hid ((ts.take k).foldl cnt1T zero24 = imCnt m) := hide (by rw [unhide HCN, List.take_of_length_le (by rw [unhide HLT]; exact Nat.le_refl _)])
          have HLC := hide (imCnt_len m)
          go_wp2
          go_ret
          refine ⟨.slice (some ⟨G, 0, none⟩) 24 24, rfl, ?_, unhide HB⟩
          have h := unhide HO
          rw [unhide HTK] at h
          refine ⟨some ⟨G, 0, none⟩, 24, by rw [unhide HLC], ?_⟩
          rw [unhide HLC]
          exact h.base (by have := unhide HSZ0; omega)

end Go.Proofs.Ythnpooffhopnkac
