import Derived.Test.YthnpooffhopnkaaRows
import Derived.Test.YthnpooffhopnkaaPart1
import Derived.Test.YthnpooffhopnkaaPart2
import Derived.Test.YthnpooffhopnkaaPart3
import Derived.Test.YthnpooffhopnkaaPart6
import Derived.Test.YthnpooffhopnkaaPart5
import Derived.WalkKit
import Derived.WalkSpells
import Derived.KernelRfl
import Derived.LoopN
import Derived.Deep.RegionWith
import Derived.Test.YthnpooffhopnkaaPart4
import Derived.BigQuiet
import Derived.Deep.QuietTactic
import Derived.Laws.MakeOwn
import Derived.Laws.OwnMore
import Derived.Deep.MidRow
import Derived.Deep.RegionLawGrows
import Derived.Deep.RegionHeld3

/- Contract of the model's l10Count. (Made ahead of stage 10.) -/
namespace Go.Proofs.Ythnpooffhopnkaa
open Go.RowKit
set_option linter.unusedVariables false
set_option maxRecDepth 100000

theorem infoTb : (Try.prog.info? 22).map (fun i => (i.zero, i.size, i.bytes)) = some (some (.slice none 0 0), 1, 24) := by kernel_rfl
theorem infoIn : (Try.prog.info? 3).map (fun i => (i.zero, i.size, i.bytes)) = some (some (.int .i64 0), 1, 8) := by kernel_rfl
theorem slice_one (ao : Option Addr) (n c : Nat) : ∀ u ∈ [Value.slice ao n c], u.oneCell' = true := by
  intro u hu
  simp at hu
  subst hu
  rfl
/-- Tables as values. -/
def TabV (w : World) (vs : List Value) (ts : List (List Int)) : Prop := vs.length = ts.length ∧ ∀ j (h : j < ts.length), ∃ tq tc, vs[j]? = some (.slice tq ts[j].length tc) ∧ Is w tq ts[j]
theorem TabV.snoc {w : World} {vs : List Value} {ts : List (List Int)} {t : List Int} {tq : Option Addr} {tc : Nat} (h : TabV w vs ts) (ht : Is w tq t) : TabV w (vs ++ [.slice tq t.length tc]) (ts ++ [t]) := by
  refine ⟨by simp [h.1], fun j hj => ?_⟩
  rw [List.length_append, List.length_singleton] at hj
  by_cases e : j < ts.length
  · obtain ⟨a, b, h1, h2⟩ := h.2 j e
    refine ⟨a, b, ?_, ?_⟩
    · rw [List.getElem?_append_left (by rw [h.1]; exact e), List.getElem_append_left e]; exact h1
    · rw [List.getElem_append_left e]; exact h2
  · obtain rfl : j = ts.length := by omega
    refine ⟨tq, tc, ?_, ?_⟩
    · rw [List.getElem?_append_right (by rw [h.1]; exact Nat.le_refl _), h.1]; simp
    · simpa using ht
theorem TabV.below {w w' : World} {vs : List Value} {ts : List (List Int)} (h : TabV w vs ts) (hb : Below w.heap.size w w') : TabV w' vs ts := ⟨h.1, fun j hj => by
  obtain ⟨a, b, h1, h2⟩ := h.2 j hj
  exact ⟨a, b, h1, h2.below hb⟩⟩
theorem imTabs_len (m : Img) : (imTabs m).length = m.snaps.length + 1 := by simp [imTabs]
theorem imTabs_take {m : Img} {k : Nat} (h : k < m.snaps.length) : (imTabs m).take (k + 1 + 1) = (imTabs m).take (k + 1) ++ [m.snaps[k].table] := by
  rw [List.take_succ_eq_append_getElem (by rw [imTabs_len]; omega)]
  simp [imTabs]
/-- Clusters of a right table. -/
theorem clA_in {t : List Int} (h : tbB t = true) : ∀ j (hj : j < (clA t).length), 0 ≤ (clA t)[j] ∧ (clA t)[j] ≤ 23 := by
  intro j hj
  have hm := List.getElem_mem hj
  unfold clA clTo at hm
  rw [List.mem_filterMap] at hm
  obtain ⟨e, he, h2⟩ := hm
  rw [List.take_length] at he
  obtain ⟨i, hi, rfl⟩ := List.mem_iff_getElem.1 he
  have := tbB_at h i hi
  by_cases h3 : 2 ≤ t[i]
  · rw [if_pos h3] at h2
    have e : (clA t)[j] = t[i] - 2 := by unfold clA clTo; exact (Option.some.inj h2).symm
    omega
  · rw [if_neg h3] at h2; cases h2
theorem clA_len {t : List Int} (h : tbB t = true) : (clA t).length ≤ 12 := by
  have := clTo_len t t.length
  have := tbB_len h
  unfold clA
  omega
/-- Counts within bounds. -/
def CtI (ns : List Int) (b : Int) : Prop := ns.length = 24 ∧ ∀ i (h : i < ns.length), 0 ≤ ns[i] ∧ ns[i] ≤ b
theorem incr_set (ns : List Int) (c : Nat) : incr ns (c : Int) = ns.set c (ns.getD c 0 + 1) := by unfold incr; rw [Int.toNat_natCast]
theorem CtI.up {ns : List Int} {b : Int} {c : Nat} (h : CtI ns b) (hc : c < 24) : CtI (incr ns c) (b + 1) := by
  rw [incr_set]
  refine ⟨by rw [List.length_set]; exact h.1, fun i hi => ?_⟩
  rw [List.length_set] at hi
  have hb := h.2 i hi
  rw [List.getElem_set]
  by_cases e : c = i
  · have h2 : ns.getD c 0 = ns[i] := by simp [List.getD, e, hi]
    rw [if_pos e, h2]
    omega
  · rw [if_neg e]
    omega
theorem made_rep (q : Nat) (v : Value) : (madeCells #[v] q).toList = List.replicate q v := by
  apply List.ext_getElem?
  intro i
  simp [madeCells, List.getElem?_replicate, Nat.mod_one]
  by_cases hi : i < q <;> simp [hi]
theorem CtI.mono {ns : List Int} {b b' : Int} (h : CtI ns b) (hb : b ≤ b') : CtI ns b' := ⟨h.1, fun i hi => ⟨(h.2 i hi).1, by have := (h.2 i hi).2; omega⟩⟩
theorem CtI.zero : CtI zero24 0 := ⟨rfl, by decide⟩
theorem incr_take {L : List Int} {k : Nat} (h : k < L.length) (ns : List Int) : (L.take (k + 1)).foldl incr ns = incr ((L.take k).foldl incr ns) L[k] := by
  rw [List.take_succ_eq_append_getElem h, List.foldl_append]; rfl
theorem cntT_take {ts : List (List Int)} {k : Nat} (h : k < ts.length) (ns : List Int) : (ts.take (k + 1)).foldl cnt1T ns = cnt1T ((ts.take k).foldl cnt1T ns) ts[k] := by
  rw [List.take_succ_eq_append_getElem h, List.foldl_append]; rfl
/-- A row of numbers of the call's own, one of them set. -/
theorem own_setI {w : World} {B n cap g j : Nat} {xs : List Int} (h : OwnR w B 3 1 (.slice (some ⟨g, 0, none⟩) n cap) n (intV xs)) (hp : 0 < n) (y : Int) : OwnR (w.setCell ⟨g, j, none⟩ (.int .i64 y)) B 3 1 (.slice (some ⟨g, 0, none⟩) n cap) n (intV (xs.set j y)) := by
  refine .inr ⟨hp, ?_⟩
  have := ((h.row hp).stored j (.int .i64 y)).1
  rwa [show (intV xs).set j (.int .i64 y) = intV (xs.set j y) by simp [intV, List.map_set]] at this

set_option maxHeartbeats 3200000 in
theorem l10Count_any (a : Im4) (m : Img) (w : World) (hs : m.snaps.length ≤ 3) (htb : ∀ t ∈ imTabs m, tbB t = true) (hc : ImS w a m) :
    Calls Try.prog 82 #[imV a m] w fun e w' => ∃ v, e = .returned v ∧ OwnN w' w.heap.size v (imCnt m) ∧ Below w.heap.size w w' := by
  have HA := hide (Joins.below_alloc1 w (.cells #[.slice a.ro m.refs.length a.rc, .slice a.tq m.table.length a.tc, .slice a.so m.snaps.length a.sc, .slice a.dq m.data.length a.dc] 45))
  have HV := hide (VarM.new w 45 (.slice a.ro m.refs.length a.rc) (.slice a.tq m.table.length a.tc) (.slice a.so m.snaps.length a.sc) (.slice a.dq m.data.length a.dc))
  have HC := hide hc
  have HTB := hide htb
  clear hc htb
  obtain ⟨i0, hi, hz0, hz1, hz2⟩ := info_parts infoIn
  obtain ⟨j0, hj, hy0, hy1, hy2⟩ := info_parts infoTb
  go_enter Try.func82, Try.ntmps82
  go_upto_region 1 with fail
  revert HA HV
  generalize (w.alloc _) = W0
  intro HA HV
  have HSZ0 : Hid (w.heap.size < W0.heap.size) := hide (unhide HV).lt
  go_wp2_with (first | (at_make; refine wpList_make_full _ rfl _ _ 22 rfl W0.heap.size 3 i0 _ 1 Try.underlying22 hi hz0 hz1 _ _ _ _ 24 rfl rfl rfl rfl ?c1 ?c2 ?c3 ?_))
  case c1 => rw [hz2]; omega
  case c2 => unfold maxLen; omega
  case c3 => exact Nat.le_refl _
  intro w1 hown hgrow
  have hB1 : Below W0.heap.size W0 w1 := (Below.refl _ _).grown hgrow (Nat.le_refl _) (fun _ h => by cases h)
  have HO1 : Hid (OwnR w1 W0.heap.size 3 1 (.slice (some ⟨W0.heap.size, 0, none⟩) 24 24) 24 (intV zero24)) := hide (by
    rw [show intV zero24 = (madeCells #[Value.int .i64 0] 24).toList from (made_rep 24 _).symm]
    exact OwnR.of hown (fun h => by cases h))
  have HB1 := hide (fr (unhide HA) hB1)
  have HV1 := hide ((unhide HV).below hB1)
  have HG : Hid (W0.heap.size < w1.heap.size) := hide ((unhide HO1).ge _ (own_of (by omega) rfl)).2
  clear hown hgrow hB1 HV HA
  generalize hGG : W0.heap.size = G at *
  clear hGG
  obtain ⟨c0, c1, c2, c3⟩ := (unhide HV1).cells
  have HOT : Hid (OwnR (w1.alloc (.cells #[.slice a.tq m.table.length a.tc] 22)) w1.heap.size 22 1 (.slice (some ⟨w1.heap.size, 0, none⟩) 1 1) 1 [.slice a.tq m.table.length a.tc]) := hide (.inr ⟨by omega, rfl, .inr ⟨w1.heap.size, 1, #[.slice a.tq m.table.length a.tc], rfl, Nat.le_refl _, heap_alloc_new w1 _, Nat.le_refl _, by unfold maxLen; omega, rfl, rfl⟩⟩)
  have HBA := hide (Joins.below_alloc1 w1 (.cells #[.slice a.tq m.table.length a.tc] 22))
  go_upto_region 4 with fail
  revert HOT HBA
  generalize (w1.alloc _) = W1
  intro HOT HBA
  clear c0 c1 c2 c3
  go_loopw [4, 5] (fun o i wr => ∃ (k : Nat) (qo : Option Addr) (qa : Nat) (vs : List Value), k ≤ m.snaps.length ∧ i = .int .i64 k ∧ o = .slice qo (k + 1) qa ∧ Hid (OwnR wr w1.heap.size 22 1 (.slice qo (k + 1) qa) (k + 1) vs) ∧ Hid (TabV w vs ((imTabs m).take (k + 1))) ∧ Hid (Below w1.heap.size w1 wr)) (fun _ i _ => m.snaps.length - (intOf i).toNat)
  case atStart => exact ⟨0, _, _, [.slice a.tq m.table.length a.tc], Nat.zero_le _, rfl, rfl, HOT, hide (by
    have h0 : TabV w [] [] := ⟨rfl, fun j h => by simp at h⟩
    have := h0.snoc (tc := a.tc) (unhide HC).t
    simpa [imTabs] using this), HBA⟩
  case round =>
    clear HOT HBA
    obtain ⟨k, qo, qa, vs, hk, rfl, rfl, HO, HT, HB⟩ := hrel
    obtain ⟨c0, c1, c2, c3⟩ := ((unhide HV1).below (unhide HB)).cells
    by_cases hlt : k < m.snaps.length
    · obtain ⟨b, off, tq, tc, eb, hn0, ht0, hIs, hz, htl⟩ := ((unhide HC).s.below (fr (unhide HB1) (unhide HB))) k hlt
      obtain ⟨b', off', tq', tc', eb', _, ht0', hIs', _, _⟩ := (unhide HC).s k hlt
      rw [eb] at eb'
      cases eb'
      have ett : Value.slice tq' m.snaps[k].table.length tc' = .slice tq m.snaps[k].table.length tc := by
        have h1 := ((fr (unhide HB1) (unhide HB)).cell (p := ⟨b, off + k * 2 + 1, none⟩) (World.block_lt_of_cell? _ _ ht0')).trans ht0'
        rw [ht0] at h1
        exact (Option.some.inj h1).symm
      rw [eb] at c2
      clear eb
      have hlti : (k : Int) < (m.snaps.length : Int) := by omega
      have HT' : Hid (TabV w (vs ++ [.slice tq m.snaps[k].table.length tc]) ((imTabs m).take (k + 1 + 1))) := hide (by
        rw [imTabs_take hlt, ← ett]
        exact (unhide HT).snoc hIs')
      have HOA := hide ((unhide HO).below (Joins.below_alloc1 _ (.cells #[.slice tq m.snaps[k].table.length tc] 22)))
      have HBA := hide (fr (unhide HB) (Joins.below_alloc1 _ (.cells #[.slice tq m.snaps[k].table.length tc] 22)))
      have HSZ := hide (unhide HB).size
      clear hIs hIs' ht0' ett hz htl
      go_wp2_with (at_builtin; refine wpList_append_one rfl _ _ 139 rfl w1.heap.size 22 j0 (.slice none 0 0) 1 24 Try.underlying139 hj hy0 hy1 hy2 rfl (by omega) qo (k + 1) qa vs rfl (unhide HOA) (by have := unhide HSZ; simp; omega) ⟨wr.heap.size, 0, none⟩ _ [.slice tq m.snaps[k].table.length tc] rfl rfl (byte_news wr _ _) (slice_one _ _ _) (by unfold maxLen; omega) (by omega) ?_; intro g2 cap2 wA hoA hkA; have HSF := hide (And.intro hoA (keep_below (unhide HBA) (unhide HOA) (Nat.le_refl _) hkA)); clear hoA hkA)
      go_roundw
      case rel => exact ⟨k + 1, some ⟨g2, 0, none⟩, cap2, vs ++ [.slice tq m.snaps[k].table.length tc], by omega, by go_num, rfl, hide (.inr ⟨by omega, (unhide HSF).1⟩), HT', hide (unhide HSF).2⟩
      case measure => simp [intOf]; omega
    · obtain rfl : k = m.snaps.length := by omega
      have HTT : Hid (TabV w vs (imTabs m)) := hide (by
        have := unhide HT
        rwa [List.take_of_length_le (by rw [imTabs_len]; exact Nat.le_refl _)] at this)
      have HLT := hide (imTabs_len m)
      have HO2 := hide ((unhide HO1).below (unhide HB))
      have HB2 := hide (fr (unhide HB1) (unhide HB))
      have HSZ1 := hide (unhide HB).size
      have HCN : Hid (imCnt m = (imTabs m).foldl cnt1T zero24) := hide rfl
      clear HT HV1 HO1 HB1
      generalize imTabs m = ts at *
      generalize hNN : m.snaps.length + 1 = N at *
      have hN4 : N ≤ 4 := by omega
      have HNN : Hid ((m.snaps.length : Int) + 1 = (N : Int)) := hide (by omega)
      clear hNN
      go_wp2
      clear c0 c1 c2 c3
      go_loopw [6] (fun i wq => ∃ k : Nat, k ≤ N ∧ i = .int .i64 k ∧ Hid (CtI ((ts.take k).foldl cnt1T zero24) (20 * k)) ∧ Hid (OwnR wq G 3 1 (.slice (some ⟨G, 0, none⟩) 24 24) 24 (intV ((ts.take k).foldl cnt1T zero24))) ∧ Hid (OwnR wq w1.heap.size 22 1 (.slice qo N qa) N vs) ∧ Hid (Below w.heap.size w wq)) (fun i _ => N - (intOf i).toNat)
      case atStart => exact ⟨0, Nat.zero_le _, rfl, hide (by simpa using CtI.zero), by simpa using HO2, HO, HB2⟩
      case round =>
        clear HO HO2 HB2 HB
        obtain ⟨k, hk, rfl, HI, HO, HQ, HB⟩ := hrel
        by_cases hlt : k < N
        · have hkt : k < ts.length := by rw [unhide HLT]; exact hlt
          obtain ⟨tq, tc, hvk, hIs⟩ := (unhide HTT).2 k hkt
          obtain ⟨q2, cap2, cur2, eq2, _, _⟩ := own_form (by omega) ((unhide HQ).row (by omega))
          have hcell := ((unhide HQ).row (by omega))
          rw [eq2] at hcell
          have hck := (hcell.cellAt k (by omega)).trans hvk
          cases eq2
          have HIS := hide (hIs.below (unhide HB))
          have htk := unhide HTB ts[k] (List.getElem_mem hkt)
          have HTX := hide (tbB_len htk)
          have HIN : Hid (∀ j (h : j < ts[k].length), -1000 ≤ ts[k][j] ∧ ts[k][j] ≤ 1000) := hide (fun j h => by have := tbB_at htk j h; omega)
          have HCI := hide (clA_in htk)
          have HCL := hide (clA_len htk)
          have HCT := hide (cntT_take hkt zero24)
          clear hIs hcell hvk htk
          go_wp2_with fail
          refine (l09Clusters_any tq tc ts[k] _ (by have := unhide HTX; omega) (unhide HIN) (unhide HIS)).mono ?_
          rintro e w3 ⟨v, rfl, ⟨lo, la, rfl, hol⟩, hb3⟩
          have HB3 := hide (fr (unhide HB) hb3)
          have HO3 := hide ((unhide HO).below hb3)
          have HQ3 := hide ((unhide HQ).below hb3)
          have HL3 := hide hol
          have HGS : Hid (G < wr.heap.size) := hide ((unhide HO).ge _ (own_of (by omega) rfl)).2
          have HC1 : Hid (cnt1T ((ts.take k).foldl cnt1T zero24) ts[k] = (clA ts[k]).foldl incr ((ts.take k).foldl cnt1T zero24)) := hide rfl
          clear hol hb3 hck
          generalize clA ts[k] = L at *
          generalize hNS : (ts.take k).foldl cnt1T zero24 = ns at *
          clear hNS
          have hL12 := unhide HCL
          go_wp2
          go_loopw [8] (fun i wq => ∃ j : Nat, j ≤ L.length ∧ i = .int .i64 j ∧ Hid (CtI ((L.take j).foldl incr ns) (20 * k + j)) ∧ Hid (OwnR wq G 3 1 (.slice (some ⟨G, 0, none⟩) 24 24) 24 (intV ((L.take j).foldl incr ns))) ∧ Hid (Keep (fun g => g = G) w3 wq)) (fun i _ => L.length - (intOf i).toNat)
          case atStart => exact ⟨0, Nat.zero_le _, rfl, hide (by simpa using unhide HI), by simpa using HO3, hide (Keep.refl _ _)⟩
          case round =>
            obtain ⟨j, hj', rfl, HJ, HOJ, HKJ⟩ := hrel
            by_cases hjl : j < L.length
            · have HLJ := hide ((unhide HL3).keep (unhide HKJ) (fun g hg he => by have h1 := ((unhide HL3).ge g hg).1; have h2 := unhide HGS; omega))
              obtain ⟨b, off, rfl, hcl⟩ := (ownRN (unhide HLJ)) j hjl
              obtain ⟨l0, l1⟩ := unhide HCI j hjl
              obtain ⟨c, hcc⟩ := Int.eq_ofNat_of_zero_le l0
              rw [hcc] at hcl
              have hc24 : c < 24 := by omega
              have hc24i : (c : Int) < 24 := by omega
              have HST := hide (incr_take hjl ns)
              rw [hcc] at HST
              clear hcc l0 l1
              generalize hMS : (L.take j).foldl incr ns = ms at *
              clear hMS
              have hlen := (unhide HJ).1
              have hcm : c < ms.length := by omega
              obtain ⟨x0, x1⟩ := (unhide HJ).2 c hcm
              have hx := ((unhide HOJ).row (by omega)).cellAt c (by omega)
              rw [intV_get hcm] at hx
              have hf := ((unhide HOJ).row (by omega)).frozenAt c
              have HJ' : Hid (CtI ((L.take (j + 1)).foldl incr ns) (20 * k + (j + 1 : Nat))) := hide (by rw [unhide HST]; exact ((unhide HJ).up hc24).mono (by omega))
              have HO' : Hid (OwnR (wr.setCell ⟨G, c, none⟩ (.int .i64 (ms[c] + 1))) G 3 1 (.slice (some ⟨G, 0, none⟩) 24 24) 24 (intV ((L.take (j + 1)).foldl incr ns))) := hide (by
                rw [unhide HST]
                have e : incr ms (c : Int) = ms.set c (ms[c] + 1) := by rw [incr_set]; simp [List.getD, hcm]
                rw [e]
                exact own_setI (unhide HOJ) (by omega) _)
              have HK' := hide ((unhide HKJ).setCell (p := ⟨G, c, none⟩) rfl (.int .i64 (ms[c] + 1)))
              clear hlen
              generalize ms[c] = X at *
              have hw1 : IntKind.i64.wrap (X + 1) = X + 1 := by rw [IntKind.wrap_i64]; omega
              go_wp2
              go_roundw
              case rel => exact ⟨j + 1, by omega, by go_num, HJ', HO', HK'⟩
              case measure => simp [intOf]; omega
            · obtain rfl : j = L.length := by omega
              have HTL : Hid (L.take L.length = L) := hide (List.take_length)
              rw [List.take_length] at HJ HOJ
              have HQ4 := hide ((unhide HQ3).keep (unhide HKJ) (fun g hg he => own_apart (unhide HQ3) (unhide HO3) (by decide) g hg (own_of (by omega) he.symm)))
              have HB4 := hide ((unhide HB3).trans ((unhide HKJ).below (unhide HB3).size (fun g hg => by have := unhide HSZ0; omega)))
              have HI' : Hid (CtI ((ts.take (k + 1)).foldl cnt1T zero24) (20 * (k + 1 : Nat))) := hide (by rw [unhide HCT, unhide HC1]; exact (unhide HJ).mono (by omega))
              have HO' : Hid (OwnR wr G 3 1 (.slice (some ⟨G, 0, none⟩) 24 24) 24 (intV ((ts.take (k + 1)).foldl cnt1T zero24))) := hide (by rw [unhide HCT, unhide HC1]; exact unhide HOJ)
              go_wp2
              go_roundw
              case rel => exact ⟨k + 1, by omega, by go_num, HI', HO', HQ4, HB4⟩
              case measure => simp [intOf]; omega
        · have hkN : k = N := by omega
          subst hkN
          have HTK : Hid ((ts.take k).foldl cnt1T zero24 = imCnt m) := hide (by rw [unhide HCN, List.take_of_length_le (by rw [unhide HLT]; exact Nat.le_refl _)])
          have HLC := hide (imCnt_len m)
          go_wp2
          go_ret
          refine ⟨.slice (some ⟨G, 0, none⟩) 24 24, rfl, ?_, unhide HB⟩
          have h := unhide HO
          rw [unhide HTK] at h
          refine ⟨some ⟨G, 0, none⟩, 24, by rw [unhide HLC], ?_⟩
          rw [unhide HLC]
          exact h.base (by have := unhide HSZ0; omega)

end Go.Proofs.Ythnpooffhopnkaa

/- Contracts of the model's l10New, NewImage. (Made ahead of stage 10.) -/
namespace Go.Proofs.Ythnpooffhopnkaa
open Go.RowKit
set_option linter.unusedVariables false
set_option maxRecDepth 100000

/-- An image of holes alone. -/
def imNew (n : Nat) : Img := ⟨zero24, List.replicate n 0, [], zero24⟩
def niF (n : Int) : Int := if betw n 0 12 = true then 0 else 4
def im0 : Img := ⟨[], [], [], []⟩
def niI (n : Int) : Img := if niF n = 0 then imNew n.toNat else im0
/-- A row of zeros, as it is made. -/
theorem mkZ (n : Nat) (hn : n ≤ 1000) : ∀ W : World, (Instr.makeSlice 22 (.int .i64 (n : Int)) (.int .i64 (n : Int))).run Try.prog W = .ok (.slice (some ⟨W.heap.size, 0, none⟩) n n) (W.alloc (.cells (intV (List.replicate n 0)).toArray 3)) := by
  obtain ⟨i0, hi, hz0, hz1, hz2⟩ := info_parts infoIn
  intro W
  have := run_make (P := Try.prog) W 22 3 i0 (.int .i64 0) Try.underlying22 hi hz0 .i64 .i64 n n (by omega) (by omega) (by rw [hz2]; omega) (by omega)
  rw [hz1] at this
  have e : madeCells #[Value.int .i64 0] n = (intV (List.replicate n 0)).toArray := by
    apply Array.toList_inj.1
    rw [made_rep]
    simp [intV]
  rw [show (Value.int .i64 0).cells = #[Value.int .i64 0] from rfl, Int.toNat_natCast, Nat.mul_one, e] at this
  exact this
theorem mk24 : ∀ W : World, (Instr.makeSlice 22 (.int .i64 24) (.int .i64 24)).run Try.prog W = .ok (.slice (some ⟨W.heap.size, 0, none⟩) 24 24) (W.alloc (.cells (intV zero24).toArray 3)) := mkZ 24 (by omega)

section
variable (w : World) (r a b c d : Obj)
theorem chain0 : (((((w.alloc r).alloc a).alloc b).alloc c).alloc d).drew.heap[w.heap.size]? = some r := blk_belowI (blk_belowI (blk_belowI (blk_belowI (blk_belowI (heap_alloc_new w r) (Joins.below_alloc1 _ _)) (Joins.below_alloc1 _ _)) (Joins.below_alloc1 _ _)) (Joins.below_alloc1 _ _)) (Below.refl _ _).drew
theorem chain1 : (((((w.alloc r).alloc a).alloc b).alloc c).alloc d).drew.heap[w.heap.size + 1]? = some a := by
  have h := heap_alloc_new (w.alloc r) a
  rw [World.size_alloc] at h
  exact blk_belowI (blk_belowI (blk_belowI (blk_belowI h (Joins.below_alloc1 _ _)) (Joins.below_alloc1 _ _)) (Joins.below_alloc1 _ _)) (Below.refl _ _).drew
theorem chain2 : (((((w.alloc r).alloc a).alloc b).alloc c).alloc d).drew.heap[w.heap.size + 1 + 1]? = some b := by
  have h := heap_alloc_new ((w.alloc r).alloc a) b
  rw [World.size_alloc, World.size_alloc] at h
  exact blk_belowI (blk_belowI (blk_belowI h (Joins.below_alloc1 _ _)) (Joins.below_alloc1 _ _)) (Below.refl _ _).drew
theorem chain3 : (((((w.alloc r).alloc a).alloc b).alloc c).alloc d).drew.heap[w.heap.size + 1 + 1 + 1]? = some c := by
  have h := heap_alloc_new (((w.alloc r).alloc a).alloc b) c
  rw [World.size_alloc, World.size_alloc, World.size_alloc] at h
  exact blk_belowI (blk_belowI h (Joins.below_alloc1 _ _)) (Below.refl _ _).drew
theorem chain4 : (((((w.alloc r).alloc a).alloc b).alloc c).alloc d).drew.heap[w.heap.size + 1 + 1 + 1 + 1]? = some d := by
  have h := heap_alloc_new ((((w.alloc r).alloc a).alloc b).alloc c) d
  rw [World.size_alloc, World.size_alloc, World.size_alloc, World.size_alloc] at h
  exact blk_belowI h (Below.refl _ _).drew
theorem chainB : Below w.heap.size w (((((w.alloc r).alloc a).alloc b).alloc c).alloc d).drew := (fr (fr (Joins.below_alloc3 w r a b) (Joins.below_alloc1 _ c)) (Joins.below_alloc1 _ d)).drew
end
theorem own_made {W : World} {B g n : Nat} {xs : List Int} (h : W.heap[g]? = some (.cells (intV xs).toArray 3 (0, 0))) (hB : B ≤ g) (hn : xs.length = n) (hl : n ≤ 1000) : OwnN W B (.slice (some ⟨g, 0, none⟩) n n) xs := by
  refine OwnN.mk' ?_ hn
  subst hn
  rcases Nat.eq_zero_or_pos xs.length with h0 | h0
  · refine .inl ⟨h0, ?_, some ⟨g, 0, none⟩, by rw [h0]⟩
    rw [List.eq_nil_of_length_eq_zero h0]; rfl
  · exact .inr ⟨h0, by rw [intV_length]; omega, .inr ⟨g, xs.length, (intV xs).toArray, rfl, hB, h, Nat.le_refl _, by unfold maxLen; omega, by simp [intV_length], by rw [List.take_of_length_le (by simp [intV_length])]⟩⟩
theorem own_ne {v : Value} {g h n m c d : Nat} (hne : g ≠ h) : ∀ x, Own (.slice (some ⟨g, 0, none⟩) n c) x → ¬ Own (.slice (some ⟨h, 0, none⟩) m d) x := by
  rintro x ⟨a, k, e, h1, h2⟩ ⟨a', k', e', h1', h2'⟩
  cases h1
  cases h1'
  simp only at h2 h2'
  omega
theorem new_leaf {w W : World} {n g0 g1 gs g3 : Nat} (hn : n ≤ 1000) (h0 : W.heap[g0]? = some (.cells (intV zero24).toArray 3 (0, 0))) (h1 : W.heap[g1]? = some (.cells (intV (List.replicate n 0)).toArray 3 (0, 0))) (h3 : W.heap[g3]? = some (.cells (intV zero24).toArray 3 (0, 0)))
    (n1 : g0 ≠ g1) (n2 : g0 ≠ g3) (n3 : g1 ≠ g3) (b0 : w.heap.size ≤ g0) (b1 : w.heap.size ≤ g1) (b3 : w.heap.size ≤ g3) (hb : Below w.heap.size w W) :
    ∃ a, Ending.returned (.agg #[.slice (some ⟨g0, 0, none⟩) 24 24, .slice (some ⟨g1, 0, none⟩) n n, .slice (some ⟨gs, 0, none⟩) 0 0, .slice (some ⟨g3, 0, none⟩) 24 24]) = .returned (imV a (imNew n)) ∧ OwnIm W w.heap.size a (imNew n) [] ∧ Below w.heap.size w W := by
  have hl : (imNew n).table.length = n := by simp [imNew]
  refine ⟨⟨some ⟨g0, 0, none⟩, 24, some ⟨g1, 0, none⟩, n, some ⟨gs, 0, none⟩, 0, some ⟨g3, 0, none⟩, 24⟩, by simp only [imV, hl]; rfl, ⟨rfl, .inl ⟨rfl, rfl, _, _, rfl⟩, ?_⟩, hb⟩
  have o0 := own_made (B := w.heap.size) (n := 24) h0 b0 rfl (by omega)
  have o1 := own_made (B := w.heap.size) (n := n) h1 b1 (by simp) hn
  have o3 := own_made (B := w.heap.size) (n := 24) h3 b3 rfl (by omega)
  have e : imRows ⟨some ⟨g0, 0, none⟩, 24, some ⟨g1, 0, none⟩, n, some ⟨gs, 0, none⟩, 0, some ⟨g3, 0, none⟩, 24⟩ (imNew n) [] = [(.slice (some ⟨g0, 0, none⟩) 24 24, zero24), (.slice (some ⟨g1, 0, none⟩) n n, List.replicate n 0), (.slice (some ⟨g3, 0, none⟩) 24 24, zero24)] := by
    simp only [imRows, hl]; rfl
  rw [e]
  refine ⟨fun r hr => ?_, ?_⟩
  · simp only [List.mem_cons, List.not_mem_nil, or_false] at hr
    rcases hr with rfl | rfl | rfl
    · exact o0
    · exact o1
    · exact o3
  · simp only [List.pairwise_cons, List.mem_cons, List.not_mem_nil, or_false, forall_eq_or_imp, forall_eq, List.Pairwise.nil, and_true]
    exact ⟨⟨own_ne (v := undef) n1, own_ne (v := undef) n2⟩, own_ne (v := undef) n3, fun _ h => h.elim⟩
/-- A result in a cell: an image. -/
theorem res_im {fn : Func} {p : Tmp} {v0 v1 v2 v3 : Value} {x : Nat} {W : World} {tmps : Array Value} (h : fn.results = #[.cell p 45]) (hp : tmps.getD p undef = .pointer (some ⟨x, 0, none⟩)) (hv : W.heap[x]? = some (.cells #[v0, v1, v2, v3] 45 (0, 0))) :
    (results fn tmps).run Try.prog W = .ok (.agg #[v0, v1, v2, v3]) W := by
  obtain ⟨c0, c1, c2, c3⟩ := VarM.cells (t := 45) hv
  rw [Array.getD_eq_getD_getElem?] at hp
  simp [results, h, hp, go_sem, c0, c1, c2, c3]

/-- A result in a cell and a slot: an image and a code. -/
theorem res_ic {fn : Func} {p u : Tmp} {v0 v1 v2 v3 z : Value} {x : Nat} {W : World} {tmps : Array Value} (h : fn.results = #[.cell p 45, .tmp u]) (hp : tmps.getD p undef = .pointer (some ⟨x, 0, none⟩)) (hu : tmps.getD u undef = z) (hv : W.heap[x]? = some (.cells #[v0, v1, v2, v3] 45 (0, 0))) :
    (results fn tmps).run Try.prog W = .ok (.tuple #[.agg #[v0, v1, v2, v3], z]) W := by
  obtain ⟨c0, c1, c2, c3⟩ := VarM.cells (t := 45) hv
  rw [Array.getD_eq_getD_getElem?] at hp hu
  simp [results, h, hp, hu, go_sem, c0, c1, c2, c3]
theorem ret_mi {v u : Value} {a b : Int} (h : v = u) (k : a = b) : Ending.returned (.tuple #[v, .int .i64 a]) = .returned (.tuple #[u, .int .i64 b]) := by rw [h, k]
/-- An empty image, of which nothing is said. -/
theorem OwnIm.zero (w : World) (B : Nat) : OwnIm w B ⟨none, 0, none, 0, none, 0, none, 0⟩ im0 [] := ⟨rfl, .inl ⟨rfl, rfl, _, _, rfl⟩, by
  unfold imRows
  refine ⟨fun r hr => ?_, ?_⟩
  · simp only [im0, List.map_nil, List.zip_nil_right, List.mem_cons, List.not_mem_nil, or_false] at hr
    rcases hr with rfl | rfl | rfl <;> exact OwnN.nil _ _ _
  · simp only [im0, List.map_nil, List.zip_nil_right, List.pairwise_cons, List.mem_cons, List.not_mem_nil, or_false, List.Pairwise.nil, and_true]
    exact ⟨fun a ha g hg => absurd hg own_no, fun a ha g hg => absurd hg own_no, fun _ h => h.elim⟩⟩

/-- An image is put into a variable. -/
theorem OwnA.setCell' {w : World} {B : Nat} {rs : List (Value × List Int)} (h : OwnA w B rs) {a : Addr} (ha : a.block < B) (u : Value) : OwnA (w.setCell a u) B rs := ⟨fun r hr => (h.own r hr).setCell ha u, h.apart⟩
theorem OwnIm.setCell {w : World} {B : Nat} {a : Im4} {m : Img} {ts : List Value} (h : OwnIm w B a m ts) {p : Addr} (hp : p.block < B) (u : Value) : OwnIm (w.setCell p u) B a m ts := ⟨h.len, h.s.setCell hp u, h.rows.setCell' hp u⟩
theorem ImSt.put {w0 w : World} {x B : Nat} {t : TypeId} {v0 v1 v2 v3 : Value} {a : Im4} {m : Img} {ts : List Value} (hv : VarM w x t v0 v1 v2 v3) (ho : OwnIm w B a m ts) (hb : Below w0.heap.size w0 w) (hx : w0.heap.size ≤ x) (hB : x < B) (a' : Im4) (m' : Img) :
    VarM ((((w.setCell ⟨x, 0, none⟩ (.slice a'.ro m'.refs.length a'.rc)).setCell ⟨x, 1, none⟩ (.slice a'.tq m'.table.length a'.tc)).setCell ⟨x, 2, none⟩ (.slice a'.so m'.snaps.length a'.sc)).setCell ⟨x, 3, none⟩ (.slice a'.dq m'.data.length a'.dc)) x t (.slice a'.ro m'.refs.length a'.rc) (.slice a'.tq m'.table.length a'.tc) (.slice a'.so m'.snaps.length a'.sc) (.slice a'.dq m'.data.length a'.dc) ∧
    OwnIm ((((w.setCell ⟨x, 0, none⟩ (.slice a'.ro m'.refs.length a'.rc)).setCell ⟨x, 1, none⟩ (.slice a'.tq m'.table.length a'.tc)).setCell ⟨x, 2, none⟩ (.slice a'.so m'.snaps.length a'.sc)).setCell ⟨x, 3, none⟩ (.slice a'.dq m'.data.length a'.dc)) B a m ts ∧
    Below w0.heap.size w0 ((((w.setCell ⟨x, 0, none⟩ (.slice a'.ro m'.refs.length a'.rc)).setCell ⟨x, 1, none⟩ (.slice a'.tq m'.table.length a'.tc)).setCell ⟨x, 2, none⟩ (.slice a'.so m'.snaps.length a'.sc)).setCell ⟨x, 3, none⟩ (.slice a'.dq m'.data.length a'.dc)) :=
  ⟨(((hv.set0 _).set1 _).set2 _).set3 _, (((ho.setCell (p := ⟨x, 0, none⟩) hB _).setCell (p := ⟨x, 1, none⟩) hB _).setCell (p := ⟨x, 2, none⟩) hB _).setCell (p := ⟨x, 3, none⟩) hB _, (((hb.setCell (p := ⟨x, 0, none⟩) hx _).setCell (p := ⟨x, 1, none⟩) hx _).setCell (p := ⟨x, 2, none⟩) hx _).setCell (p := ⟨x, 3, none⟩) hx _⟩

end Go.Proofs.Ythnpooffhopnkaa

/- Contracts of the model's source of choices: byte, next. -/
namespace Go.Proofs.Ythnpooffhopnkaa
open Go.RowKit
set_option linter.unusedVariables false

/-- A slice shows these bytes. -/
def Bs (w : World) (ao : Option Addr) (n : Nat) : Prop := ∀ i, i < n → ∃ b off x, ao = some ⟨b, off, none⟩ ∧ w.cell? ⟨b, off + i, none⟩ = some (.int .u8 x) ∧ 0 ≤ x ∧ x ≤ 255
theorem Bs.below {w w' : World} {ao : Option Addr} {n : Nat} (h : Bs w ao n) (hb : Below w.heap.size w w') : Bs w' ao n := fun i hi => by
  obtain ⟨b, off, x, e, hc, h0, h1⟩ := h i hi
  exact ⟨b, off, x, e, (hb.cell (p := ⟨b, off + i, none⟩) (World.block_lt_of_cell? _ _ hc)).trans hc, h0, h1⟩
theorem set_block {w : World} {b i : Nat} {c : Array Value} {t : TypeId} (h : w.heap[b]? = some (.cells c t (0, 0))) (v : Value) : (w.setCell ⟨b, i, none⟩ v).heap[b]? = some (.cells (c.setIfInBounds i v) t (0, 0)) := by
  have hb : b < w.heap.size := (Array.getElem?_eq_some_iff.1 h).1
  have hg : w.heap[b] = .cells c t (0, 0) := by rw [Array.getElem?_eq_getElem hb] at h; simpa using h
  have hm : b < (w.setCell ⟨b, i, none⟩ v).heap.size := by simpa using hb
  rw [Array.getElem?_eq_getElem hm]
  congr 1
  unfold World.setCell
  simp only [Array.getElem_modify, if_true, hg]
  simp
theorem wrapI {x : Int} (h : -9223372036854775808 ≤ x) (h' : x ≤ 9223372036854775807) : IntKind.i64.wrap x = x := by rw [IntKind.wrap_i64]; omega

theorem Keep.drewN {S : Nat → Prop} {a b : World} (h : Keep S a b) (n : Nat) : Keep S a (b.drewN n) := ⟨h.os, h.tape, h.output, h.size, h.block⟩
theorem Keep.drew {S : Nat → Prop} {a b : World} (h : Keep S a b) : Keep S a b.drew := ⟨h.os, h.tape, h.output, h.size, h.block⟩

end Go.Proofs.Ythnpooffhopnkaa

/- Arrays of numbers in variables: whole loads and stores. -/
namespace Go.Proofs.Ythnpooffhopnkaa
open Go.RowKit
set_option linter.unusedVariables false
set_option maxRecDepth 100000

section
variable {P : Program}
theorem wpList_store_arr {ops : Array Oper} {rest : List Oper} {op : Oper} {a : Act} {w : World} {Q : Exit → Act → World → Prop} (hgd : op.guard = none) (ty : TypeId) (x y : Operand) (ho : op.op = .store ty x y)
    (g : Nat) (hx : a.eval x = .pointer (some ⟨g, 0, none⟩)) (c' : Array Value) (hy : a.eval y = .agg c') (c : Array Value) (t : TypeId) (hb : w.heap[g]? = some (.cells c t (0, 0)))
    (hi : (P.info? ty).map (·.size) = some c'.size) (hs : c.size = c'.size) (h1 : c'.all (·.oneCell') = true)
    (h : ∀ w', w'.heap[g]? = some (.cells c' t (0, 0)) → Keep (fun k => k = g) w w' → w'.heap.size = w.heap.size → wpList P ops Q rest (a.put op.dst undef) w') : wpList P ops Q (op :: rest) a w :=
  wpList_plain hgd fun _ hK => by
    unfold Oper.wp execOp
    simp only [ho, hx, hy, Instr.storeAt, Instr.sureAddr, Sem.run_bind, Sem.run_pure, Result.andThen_ok, run_storeVar_row w g t ty c c' hb hi hs h1]
    exact hK _ _ (h _ (setRow_heap w g c c' t (0, 0) hb) ⟨rfl, rfl, rfl, by simp, fun k _ hk => setRow_other w g k c' hk⟩ (setRow_size w g c'))
theorem wpList_load_arr {ops : Array Oper} {rest : List Oper} {op : Oper} {a : Act} {w : World} {Q : Exit → Act → World → Prop} (hgd : op.guard = none) (ty : TypeId) (x : Operand) (ho : op.op = .load ty x)
    (g : Nat) (hx : a.eval x = .pointer (some ⟨g, 0, none⟩)) (c : Array Value) (t : TypeId) (d : TypeDesc) (hb : w.heap[g]? = some (.cells c t (0, 0)))
    (hu : P.underlying ty = some d) (hd : (match d with | .struct _ | .array _ _ => true | _ => false) = true) (hi : (P.info? ty).map (·.size) = some c.size)
    (h : wpList P ops Q rest (a.put op.dst (.agg c)) w) : wpList P ops Q (op :: rest) a w :=
  wpList_plain hgd fun _ hK => by
    unfold Oper.wp execOp
    simp only [ho, hx, Instr.loadAt, Instr.sureAddr, Sem.run_bind, Sem.run_pure, Result.andThen_ok, run_loadVar_row w g t ty c (0, 0) d hb hu hd hi]
    exact hK _ _ h
end

theorem intV_one (xs : List Int) : (intV xs).toArray.all (·.oneCell') = true := by
  apply all_oneCell_toArray
  intro v hv
  simp only [intV, List.mem_map] at hv
  obtain ⟨n, _, rfl⟩ := hv
  rfl
theorem intV_size (xs : List Int) : (intV xs).toArray.size = xs.length := by simp [intV]
theorem Is.range {w : World} {ao : Option Addr} {xs : List Int} (h : Is w ao xs) (h0 : 0 < xs.length) : ∃ b off, ao = some ⟨b, off, none⟩ ∧ w.rangeAt b off (intV xs) := by
  obtain ⟨b, off, rfl, _⟩ := h 0 h0
  refine ⟨b, off, rfl, fun j v hv => ?_⟩
  have hj : j < xs.length := by have := (List.getElem?_eq_some_iff.1 hv).1; rw [intV_length] at this; exact this
  obtain ⟨b', off', e, hc⟩ := h j hj
  rw [intV_get hj] at hv
  cases e
  rw [hc]; exact hv
theorem Is.of_block {w : World} {g : Nat} {t : TypeId} {xs : List Int} (h : w.heap[g]? = some (.cells (intV xs).toArray t (0, 0))) : Is w (some ⟨g, 0, none⟩) xs := fun i hi => by
  refine ⟨g, 0, rfl, ?_⟩
  rw [Nat.zero_add, Joins.cell_of_block h]
  simpa using intV_get hi
theorem arr_cell {w : World} {g : Nat} {t : TypeId} {xs : List Int} (h : w.heap[g]? = some (.cells (intV xs).toArray t (0, 0))) {k : Nat} (hk : k < xs.length) : w.cell? ⟨g, k, none⟩ = some (.int .i64 xs[k]) := by
  rw [Joins.cell_of_block h]; simpa using intV_get hk
theorem intV_set (xs : List Int) (k : Nat) (n : Int) : (intV xs).toArray.setIfInBounds k (.int .i64 n) = (intV (xs.set k n)).toArray := by simp [intV, List.map_set]
theorem arr_set {w : World} {g : Nat} {t : TypeId} {xs : List Int} (h : w.heap[g]? = some (.cells (intV xs).toArray t (0, 0))) (k : Nat) (n : Int) : (w.setCell ⟨g, k, none⟩ (.int .i64 n)).heap[g]? = some (.cells (intV (xs.set k n)).toArray t (0, 0)) := by
  rw [set_block (i := k) h (.int .i64 n), intV_set]
theorem block_of_below {w w' : World} {g : Nat} {o : Obj} (h : w.heap[g]? = some o) (hb : Below w.heap.size w w') : w'.heap[g]? = some o := by
  rw [hb.block g (Array.getElem?_eq_some_iff.1 h).1]; exact h
theorem keep_one {w0 w w' : World} {g : Nat} (h : Below w0.heap.size w0 w) (hk : Keep (fun k => k = g) w w') (hg : w0.heap.size ≤ g) : Below w0.heap.size w0 w' :=
  h.trans (hk.below h.size (fun k e => by omega))

end Go.Proofs.Ythnpooffhopnkaa

/- Laws on append onto an empty literal, of no program's own. -/
namespace Go.Proofs.Ythnpooffhopnkaa
open Go.RowKit
set_option linter.unusedVariables false
set_option maxRecDepth 100000

section
variable {P : Program}
theorem run_append_nothing (w : World) (t ty e : TypeId) (i : TypeInfo) (ht : P.underlying t = some (.slice e)) (hi : P.info? e = some i) (d so : Option Addr) (cap c : Nat) :
    (Builtin.append_ #[t, t] ty #[.slice d 0 cap, .slice so 0 c]).run P w = .ok (.slice d 0 cap) w := by
  have hl : ∀ (x : Addr), (loadCells x 0).run P w = .ok #[] w := fun x => by simpa using run_loadCells_list (P := P) w x [] (by simp)
  cases d <;> cases so <;> simp [Builtin.append_, run_underlying ht, sizeOf, typeInfo, hi, Builtin.lenOf, Builtin.firstCells, storeCells, hl]

theorem run_append_fresh (w : World) (t ty e : TypeId) (i : TypeInfo) (z : Value) (size bytes : Nat) (ht : P.underlying t = some (.slice e)) (hi : P.info? e = some i) (hz : i.zero = some z)
    (hsize : i.size = size) (hby : i.bytes = bytes) (hzs : z.cells.size = size) (hsz : 0 < size)
    (d : Addr) (so : Option Addr) (m c : Nat) (news : List Value) (hn : news.length = m * size) (hc : 0 < m → ∃ ad, so = some ad ∧ ∀ j u, news[j]? = some u → w.cell? (ad.add j) = some u)
    (b1 : m ≤ maxLen) (b2 : m * bytes ≤ 140737488355328) :
    ∃ ao cap w', (Builtin.append_ #[t, t] ty #[.slice (some d) 0 0, .slice so m c]).run P w = .ok (.slice ao m cap) w' ∧ OwnR w' w.heap.size e size (.slice ao m cap) m news ∧ w.grownBy w' none := by
  rcases Nat.eq_zero_or_pos m with h0 | h0
  · subst h0
    exact ⟨some d, 0, w, run_append_nothing w t ty e i ht hi _ _ _ _, .inl ⟨rfl, List.eq_nil_of_length_eq_zero (by simpa using hn), _, rfl⟩, World.grownBy.refl w none⟩
  · obtain ⟨ad, rfl, hcs⟩ := hc h0
    obtain ⟨v', w', hrun, r1, r2⟩ := run_append_arg_grows (P := P) w t ty e i z size bytes ht hi hz hsize hby hzs hsz d 0 0 [] (by simp) (by simp) ad m c news hn hcs (by omega) (by simpa using b1) (by simpa using b2)
    simp only [Nat.zero_add, List.nil_append] at r1
    obtain ⟨g, cap, cur, rfl, _, _⟩ := own_form h0 r1
    exact ⟨_, _, w', hrun, .inr ⟨h0, r1⟩, r2⟩

def isFresh : Value → Bool
  | .slice (some _) 0 0 => true
  | _ => false
theorem isFresh_form {v : Value} (h : isFresh v = true) : ∃ d, v = .slice (some d) 0 0 := by
  unfold isFresh at h
  split at h
  · exact ⟨_, rfl⟩
  · cases h

theorem step_append_fresh {ops : Array Oper} {o : Oper} {a : Act} {w : World} {K : Act → World → Prop} {Q : Exit → Act → World → Prop} {E : Prop}
    (hg : o.guard = none) (s x : Operand) (t : TypeId) (hop : o.op = Op.call { callee := Callee.builtin Builtin.append, args := #[s, x], argTypes := #[t, t] })
    (e : TypeId) (i : TypeInfo) (z : Value) (size bytes : Nat) (h1 : P.underlying t = some (.slice e)) (h2 : P.info? e = some i) (h3 : i.zero = some z) (h4 : i.size = size) (h5 : i.bytes = bytes) (h6 : z.cells.size = size) (h7 : 0 < size)
    (hs0 : isFresh (a.eval s) = true) (so : Option Addr) (m c : Nat) (news : List Value) (hx : a.eval x = .slice so m c) (hn : news.length = m * size)
    (hc : 0 < m → ∃ ad, so = some ad ∧ ∀ j u, news[j]? = some u → w.cell? (ad.add j) = some u) (b1 : m ≤ maxLen) (b2 : m * bytes ≤ 140737488355328)
    (hK : ∀ ao cap w', OwnR w' w.heap.size e size (.slice ao m cap) m news → w.grownBy w' none → K (a.put o.dst (.slice ao m cap)) w') :
    if Region.wanted o (yielded ops a.tmps) = true then Oper.wp P o a w K Q else E := by
  have hw : Region.wanted o (yielded ops a.tmps) = true := by simp [Region.wanted, hg]
  rw [if_pos hw]
  obtain ⟨d, hs⟩ := isFresh_form hs0
  obtain ⟨ao, cap, w', hrun, r1, r2⟩ := run_append_fresh (P := P) w t o.type e i z size bytes h1 h2 h3 h4 h5 h6 h7 d so m c news hn hc b1 b2
  unfold Oper.wp
  simp [execOp, hop, resolve, invoke, builtin, hs, hx, hrun, Result.andThen]
  exact hK _ _ _ r1 r2
end


theorem belowAl {W0 W : World} (h : Below W0.heap.size W0 W) (o : Obj) : Below W0.heap.size W0 (W.alloc o) := h.alloc h.size o
theorem belowGr {W0 W W' : World} (h : Below W0.heap.size W0 W) (hg : W.grownBy W' none) : Below W0.heap.size W0 W' := h.grown hg h.size (fun _ h => by cases h)
end Go.Proofs.Ythnpooffhopnkaa

/- A law on append: a row behind an empty one, at a step that does not draw. -/
namespace Go.Proofs.Ythnpooffhopnkaa
open Go.RowKit
set_option linter.unusedVariables false
section
variable {P : Program}
theorem wpList_append_fresh {w : World} {ops : Array Oper} {rest : List Oper} {o : Oper} {a : Act} {Q : Exit → Act → World → Prop} (hgd : o.guard = none) (s x : Operand) (t : TypeId)
    (ho : o.op = .call { callee := .builtin .append, args := #[s, x], argTypes := #[t, t] })
    (e : TypeId) (i : TypeInfo) (z : Value) (size bytes : Nat) (ht : P.underlying t = some (.slice e)) (hi : P.info? e = some i) (hz : i.zero = some z)
    (hsize : i.size = size) (hby : i.bytes = bytes) (hzs : z.cells.size = size) (hsz : 0 < size)
    (hs0 : isFresh (a.eval s) = true) (so : Option Addr) (m c : Nat) (news : List Value) (hx : a.eval x = .slice so m c) (hn : news.length = m * size)
    (hc : 0 < m → ∃ ad, so = some ad ∧ ∀ j u, news[j]? = some u → w.cell? (ad.add j) = some u) (b1 : m ≤ maxLen) (b2 : m * bytes ≤ 140737488355328)
    (hK : ∀ ao cap w', OwnR w' w.heap.size e size (.slice ao m cap) m news → w.grownBy w' none → wpList P ops Q rest (a.put o.dst (.slice ao m cap)) w') : wpList P ops Q (o :: rest) a w := by
  refine wpList_plain hgd fun K hK' => ?_
  obtain ⟨d, hs⟩ := isFresh_form hs0
  obtain ⟨ao, cap, w', hrun, r1, r2⟩ := run_append_fresh (P := P) w t o.type e i z size bytes ht hi hz hsize hby hzs hsz d so m c news hn hc b1 b2
  unfold Oper.wp
  simp [execOp, ho, resolve, invoke, builtin, hs, hx, hrun, Result.andThen]
  exact hK' _ _ (hK _ _ _ r1 r2)
end
end Go.Proofs.Ythnpooffhopnkaa
