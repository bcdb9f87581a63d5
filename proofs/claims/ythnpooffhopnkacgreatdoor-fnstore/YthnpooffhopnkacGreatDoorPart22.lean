import Derived.Test.YthnpooffhopnkacGreatDoorRows
import Derived.Test.YthnpooffhopnkacGreatDoorPart1
import Derived.Test.YthnpooffhopnkacGreatDoorPart2
import Derived.Test.YthnpooffhopnkacGreatDoorPart3
import Derived.Test.YthnpooffhopnkacGreatDoorPart7
import Derived.Test.YthnpooffhopnkacGreatDoorPart21
import Derived.Test.YthnpooffhopnkacGreatDoorPart8
import Derived.Test.YthnpooffhopnkacGreatDoorPart9
import Derived.WalkKit
import Derived.WalkSpells
import Derived.KernelRfl
import Derived.LoopN
import Derived.Deep.RegionWith
import Derived.Test.YthnpooffhopnkacGreatDoorPart15
import Derived.BigQuiet
import Derived.Deep.QuietTactic

/- Contracts of impl.tablesOf, impl.addUses, impl.usesOf, impl.tablesOK. -/
namespace Go.Proofs.YthnpooffhopnkacGreatDoor
open Go.RowKit Go.Maps
set_option linter.unusedVariables false
set_option maxRecDepth 100000

/-- A snapshot in a variable. -/
def VarN (w : World) (x : Nat) (n : ByteArray) (v : Value) : Prop := w.heap[x]? = some (.cells #[.string n, v] 75 (0, 0))
theorem VarN.cells {w : World} {x : Nat} {n : ByteArray} {v : Value} (k : VarN w x n v) : w.cell? ⟨x, 0, none⟩ = some (.string n) ∧ w.cell? ⟨x, 1, none⟩ = some v := ⟨by rw [Joins.cell_of_block k]; rfl, by rw [Joins.cell_of_block k]; rfl⟩
theorem VarN.new (w : World) (n : ByteArray) (v : Value) : VarN (w.alloc (.cells #[.string n, v] 75)) w.heap.size n v := heap_alloc_new w _

set_option maxHeartbeats 1600000 in
theorem addUses_any (B n : Nat) (D : DataW Unit) (ns : List Int) (ao : Option Addr) (cap : Nat) (xs : List Int) (w : World) (hB : MpC w B n D ns) (hn : n ≤ 100000) (hns : CtI ns 1000) (hx : tbB xs = true) (hc : Is w ao xs) :
    Calls Tryz.prog 127 #[.map (some B), .slice ao xs.length cap] w fun e w' => e = .returned (.tuple #[]) ∧ (∃ D', MpC w' B (n + 12) D' (cnt1T ns xs)) ∧ Keep (fun g => g = B) w w' := by
  have HC := hide hc
  have HM := hide hB
  have HNS := hide hns
  have HTX := hide (tbB_len hx)
  have HIN : Hid (∀ j (h : j < xs.length), -1000 ≤ xs[j] ∧ xs[j] ≤ 1000) := hide (fun j h => by have := tbB_at hx j h; omega)
  have HCI := hide (clA_in hx)
  have HCL := hide (clA_len hx)
  clear hc hB hx hns
  go_enter Tryz.func127, Tryz.ntmps127
  go_wp2_with fail
  refine (takeEntries_any ao cap xs _ (by have := unhide HTX; omega) (unhide HIN) (unhide HC)).mono ?_
  rintro e w3 ⟨v, rfl, ⟨lo, la, rfl, hol⟩, hb3⟩
  have HB3 := hide hb3
  have HL3 := hide hol
  have HM3 := hide ((unhide HM).below hb3)
  have HBL := hide (unhide HM).lt
  have HCN : Hid (cnt1T ns xs = (clA xs).foldl incr ns) := hide rfl
  clear hol hb3
  generalize clA xs = L at *
  have hL12 := unhide HCL
  go_wp2
  go_loopw [9] (fun i wq => ∃ (j : Nat) (D' : DataW Unit), j ≤ L.length ∧ i = .int .i64 j ∧ Hid (CtI ((L.take j).foldl incr ns) (1000 + j)) ∧ Hid (MpC wq B (n + j) D' ((L.take j).foldl incr ns)) ∧ Hid (Keep (fun g => g = B) w3 wq)) (fun i _ => L.length - (intOf i).toNat)
  case atStart => exact ⟨0, D, Nat.zero_le _, rfl, hide (by simpa using unhide HNS), hide (by simpa using unhide HM3), hide (Keep.refl _ _)⟩
  case round =>
    obtain ⟨j, D', hj', rfl, HJ, HMJ, HKJ⟩ := hrel
    by_cases hjl : j < L.length
    · have HLJ := hide ((unhide HL3).keep (unhide HKJ) (fun g hg he => by have h1 := ((unhide HL3).ge g hg).1; have h2 := unhide HBL; omega))
      obtain ⟨b, off, rfl, hcl⟩ := (ownRN (unhide HLJ)) j hjl
      obtain ⟨l0, l1⟩ := unhide HCI j hjl
      obtain ⟨c, hcc⟩ := Int.eq_ofNat_of_zero_le l0
      rw [hcc] at hcl
      have hc24 : c < 24 := by omega
      have HST := hide (incr_take hjl ns)
      rw [hcc] at HST
      clear hcc l0 l1
      generalize hMS : (L.take j).foldl incr ns = ms at *
      clear hMS
      have hlen := (unhide HJ).1
      have hcm : c < ms.length := by omega
      obtain ⟨x0, x1⟩ := (unhide HJ).2 c hcm
      have hlk := (unhide HMJ).look hc24
      have egd : ms.getD c 0 = ms[c] := by simp [List.getD, hcm]
      rw [egd] at hlk
      have HJ' : Hid (CtI ((L.take (j + 1)).foldl incr ns) (1000 + (j + 1 : Nat))) := hide (by rw [unhide HST]; exact ((unhide HJ).up hc24).mono (by omega))
      have HE' : Hid (ms.set c (ms[c] + 1) = (L.take (j + 1)).foldl incr ns) := hide (by
        rw [unhide HST, incr_set, egd])
      clear egd hlen
      generalize ms[c] = X at *
      have hw1 : IntKind.i64.wrap (X + 1) = X + 1 := by rw [IntKind.wrap_i64]; omega
      go_wp2_with (at_mapUpdate; refine wpList_count rfl _ _ _ rfl rfl (unhide HMJ) (by omega) rfl hc24 (by first | rfl | (rw [hw1]; rfl)) ⟨by omega, by omega⟩ ?_; intro w5 D5 hm5 hk5; have HS5 := hide (And.intro hm5 hk5); clear hm5 hk5)
      go_roundw
      case rel => exact ⟨j + 1, D5, by omega, by go_num, HJ', hide (by rw [← unhide HE']; exact (unhide HS5).1), hide ((unhide HKJ).trans (unhide HS5).2)⟩
      case measure => simp [intOf]; omega
    · obtain rfl : j = L.length := by omega
      rw [List.take_length] at HMJ
      go_wp2
      go_end0
      exact ⟨rfl, ⟨D', by rw [unhide HCN]; exact (unhide HMJ).mono (by omega)⟩, (Keep.of_below (unhide HB3)).trans (unhide HKJ)⟩

/-- A row of tables, as a slice shows it. -/
def RowT (w : World) (qo : Option Addr) (ts : List (List Int)) : Prop := ∀ j (h : j < ts.length), ∃ b off tq tc, qo = some ⟨b, off, none⟩ ∧ w.cell? ⟨b, off + j, none⟩ = some (.slice tq ts[j].length tc) ∧ Is w tq ts[j]
theorem RowT.below {w w' : World} {qo : Option Addr} {ts : List (List Int)} (h : RowT w qo ts) (hb : Below w.heap.size w w') : RowT w' qo ts := fun j hj => by
  obtain ⟨b, off, tq, tc, e, h1, h2⟩ := h j hj
  exact ⟨b, off, tq, tc, e, (hb.cell (p := ⟨b, off + j, none⟩) (World.block_lt_of_cell? _ _ h1)).trans h1, h2.below hb⟩
theorem keep_cellM {S : Nat → Prop} {w w' : World} (hk : Keep S w w') {p : Addr} {v : Value} (h : w.cell? p = some v) (hs : ¬ S p.block) : w'.cell? p = some v :=
  (World.cell?_of_block (hk.block p.block (World.block_lt_of_cell? _ _ h) hs)).trans h
theorem Is.keepMap {w w' : World} {B n : Nat} {D : DataW Unit} {ns : List Int} {ao : Option Addr} {xs : List Int} (h : Is w ao xs) (hm : MpC w B n D ns) (hk : Keep (fun g => g = B) w w') : Is w' ao xs := fun i hi => by
  obtain ⟨b, off, e, hc⟩ := h i hi
  refine ⟨b, off, e, keep_cellM hk hc (fun he => ?_)⟩
  obtain ⟨⟨es, clock, hb, _⟩, _⟩ := hm
  simp only at he
  subst he
  simp [World.cell?, hb] at hc
theorem RowT.keepMap {w w' : World} {B n : Nat} {D : DataW Unit} {ns : List Int} {qo : Option Addr} {ts : List (List Int)} (h : RowT w qo ts) (hm : MpC w B n D ns) (hk : Keep (fun g => g = B) w w') : RowT w' qo ts := fun j hj => by
  obtain ⟨b, off, tq, tc, e, h1, h2⟩ := h j hj
  refine ⟨b, off, tq, tc, e, keep_cellM hk h1 (fun he => ?_), h2.keepMap hm hk⟩
  obtain ⟨⟨es, clock, hb, _⟩, _⟩ := hm
  simp only at he
  subst he
  simp [World.cell?, hb] at h1

set_option maxHeartbeats 1600000 in
theorem usesOf_any (qo : Option Addr) (qa : Nat) (ts : List (List Int)) (w : World) (hl : ts.length ≤ 4) (ht : ∀ t ∈ ts, tbB t = true) (hc : RowT w qo ts) :
    Calls Tryz.prog 103 #[.slice qo ts.length qa] w fun e w' => ∃ B D, e = .returned (.map (some B)) ∧ w.heap.size ≤ B ∧ MpC w' B 1000 D (ts.foldl cnt1T zero24) ∧ CtI (ts.foldl cnt1T zero24) 48 ∧ Below w.heap.size w w' := by
  have hmm := @run_makeMap Tryz.prog
  have HC := hide (hc.below (Joins.below_alloc1 w (.map #[] 0)))
  have HT := hide ht
  have HA := hide (Joins.below_alloc1 w (.map #[] 0))
  have HM := hide (MpC.made w)
  clear hc ht
  go_enter Tryz.func103, Tryz.ntmps103
  go_upto_region 2 with fail
  revert HA HM HC
  generalize (w.alloc _) = W0
  intro HC HA HM
  go_wp2
  go_loopw [9] (fun i wr => ∃ (k : Nat) (D : DataW Unit), k ≤ ts.length ∧ i = .int .i64 k ∧ Hid (CtI ((ts.take k).foldl cnt1T zero24) (12 * k)) ∧ Hid (MpC wr w.heap.size (12 * k) D ((ts.take k).foldl cnt1T zero24)) ∧ Hid (RowT wr qo ts) ∧ Hid (Below w.heap.size w wr)) (fun i _ => ts.length - (intOf i).toNat)
  case atStart => exact ⟨0, _, Nat.zero_le _, rfl, hide (by simpa using CtI.zero), hide (by simpa using unhide HM), HC, HA⟩
  case round =>
    obtain ⟨k, D, hk, rfl, HI, HMK, HR, HB⟩ := hrel
    by_cases hlt : k < ts.length
    · obtain ⟨b, off, tq, tc, rfl, hck, hIs⟩ := unhide HR k hlt
      have HIS := hide hIs
      have htk := unhide HT ts[k] (List.getElem_mem hlt)
      have HTK := hide htk
      have HCT := hide (cntT_take hlt zero24)
      clear hIs htk
      have HBD := hide (unhide HB).size
      go_wp2_with fail
      refine (addUses_any w.heap.size (12 * k) D _ tq tc ts[k] _ (unhide HMK) (by omega) ((unhide HI).mono (by omega)) (unhide HTK) (unhide HIS)).mono ?_
      rintro e w3 ⟨rfl, ⟨D3, hm3⟩, hk3⟩
      have HM3 : Hid (MpC w3 w.heap.size (12 * (k + 1)) D3 ((ts.take (k + 1)).foldl cnt1T zero24)) := hide (by rw [unhide HCT]; exact hm3)
      have HR3 := hide ((unhide HR).keepMap (unhide HMK) hk3)
      have HB3 : Hid (Below w.heap.size w w3) := hide ((unhide HB).trans (hk3.below (unhide HB).size (fun g hg => Nat.le_of_eq hg.symm)))
      have HI3 : Hid (CtI ((ts.take (k + 1)).foldl cnt1T zero24) (12 * (k + 1 : Nat))) := hide (by
        rw [unhide HCT]
        refine ⟨by rw [cnt1T_len]; exact (unhide HI).1, fun i hi => ?_⟩
        rw [cnt1T_len, (unhide HI).1] at hi
        have h1 := cnt1T_get (unhide HTK) (unhide HI).1 hi
        have h2 : ((ts.take k).foldl cnt1T zero24).getD i 0 = ((ts.take k).foldl cnt1T zero24)[i]'(by rw [(unhide HI).1]; exact hi) := by simp [List.getD, (unhide HI).1, hi]
        have h3 : (cnt1T ((ts.take k).foldl cnt1T zero24) ts[k]).getD i 0 = (cnt1T ((ts.take k).foldl cnt1T zero24) ts[k])[i]'(by rw [cnt1T_len, (unhide HI).1]; exact hi) := by simp [List.getD, cnt1T_len, (unhide HI).1, hi]
        have h4 := (unhide HI).2 i (by rw [(unhide HI).1]; exact hi)
        have h5 : (clA ts[k]).count (i : Int) ≤ (clA ts[k]).length := List.count_le_length
        have h6 := clA_len (unhide HTK)
        rw [← h3, h1, h2]
        omega)
      clear hm3 hk3
      go_wp2
      go_roundw
      case rel => exact ⟨k + 1, D3, by omega, by go_num, HI3, HM3, HR3, HB3⟩
      case measure => simp [intOf]; omega
    · obtain rfl : k = ts.length := by omega
      rw [List.take_length] at HMK HI
      go_wp2
      go_ret
      exact ⟨w.heap.size, D, rfl, Nat.le_refl _, (unhide HMK).mono (by omega), (unhide HI).mono (by omega), unhide HB⟩

set_option maxHeartbeats 3200000 in
theorem tablesOf_any (a : Im4) (m : Img) (w : World) (hs : m.snaps.length ≤ 3) (hc : ImS w a m) :
    Calls Tryz.prog 62 #[imV a m] w fun e w' => ∃ qo qa, e = .returned (.slice qo (imTabs m).length qa) ∧ RowT w' qo (imTabs m) ∧ Below w.heap.size w w' := by
  have HA := hide (Joins.below_alloc1 w (.cells #[.slice a.ro m.refs.length a.rc, .slice a.tq m.table.length a.tc, .slice a.so m.snaps.length a.sc, .slice a.dq m.data.length a.dc] 26))
  have HV := hide (VarM.new w 26 (.slice a.ro m.refs.length a.rc) (.slice a.tq m.table.length a.tc) (.slice a.so m.snaps.length a.sc) (.slice a.dq m.data.length a.dc))
  have HC := hide hc
  clear hc
  obtain ⟨j0, hj, hy0, hy1, hy2⟩ := info_parts infoTb
  go_enter Tryz.func62, Tryz.ntmps62
  go_upto_region 1 with fail
  revert HA HV
  generalize (w.alloc _) = w1
  intro HB1 HV1
  have HSZ0 : Hid (w.heap.size < w1.heap.size) := hide (unhide HV1).lt
  obtain ⟨c0, c1, c2, c3⟩ := (unhide HV1).cells
  have HOT : Hid (OwnR (w1.alloc (.cells #[.slice a.tq m.table.length a.tc] 23)) w1.heap.size 23 1 (.slice (some ⟨w1.heap.size, 0, none⟩) 1 1) 1 [.slice a.tq m.table.length a.tc]) := hide (.inr ⟨by omega, rfl, .inr ⟨w1.heap.size, 1, #[.slice a.tq m.table.length a.tc], rfl, Nat.le_refl _, heap_alloc_new w1 _, Nat.le_refl _, by unfold maxLen; omega, rfl, rfl⟩⟩)
  have HBA := hide (Joins.below_alloc1 w1 (.cells #[.slice a.tq m.table.length a.tc] 23))
  go_upto_region 2 with fail
  revert HOT HBA
  generalize (w1.alloc _) = W1
  intro HOT HBA
  clear c0 c1 c2 c3
  obtain ⟨c0, c1, c2, c3⟩ := ((unhide HV1).below (unhide HBA)).cells
  go_wp2
  clear c0 c1 c2 c3
  go_loopw [3, 12] (fun o i wr => ∃ (k : Nat) (qo : Option Addr) (qa : Nat) (vs : List Value), k ≤ m.snaps.length ∧ i = .int .i64 k ∧ o = .slice qo (k + 1) qa ∧ Hid (OwnR wr w1.heap.size 23 1 (.slice qo (k + 1) qa) (k + 1) vs) ∧ Hid (TabV w vs ((imTabs m).take (k + 1))) ∧ Hid (Below w1.heap.size w1 wr)) (fun _ i _ => m.snaps.length - (intOf i).toNat)
  case atStart => exact ⟨0, _, _, [.slice a.tq m.table.length a.tc], Nat.zero_le _, rfl, rfl, HOT, hide (by
    have h0 : TabV w [] [] := ⟨rfl, fun j h => by simp at h⟩
    have := h0.snoc (tc := a.tc) (unhide HC).t
    simpa [imTabs] using this), HBA⟩
  case round =>
    clear HOT HBA
    obtain ⟨k, qo, qa, vs, hk, rfl, rfl, HO, HT, HB⟩ := hrel
    by_cases hlt : k < m.snaps.length
    · obtain ⟨b, off, tq, tc, eb, hn0, ht0, hIs, hz, htl⟩ := ((unhide HC).s.below (fr (unhide HB1) (unhide HB))) k hlt
      obtain ⟨b', off', tq', tc', eb', _, ht0', hIs', _, _⟩ := (unhide HC).s k hlt
      rw [eb] at eb'
      cases eb'
      have ett : Value.slice tq' m.snaps[k].table.length tc' = .slice tq m.snaps[k].table.length tc := by
        have h1 := ((fr (unhide HB1) (unhide HB)).cell (p := ⟨b, off + k * 2 + 1, none⟩) (World.block_lt_of_cell? _ _ ht0')).trans ht0'
        rw [ht0] at h1
        exact (Option.some.inj h1).symm
      have hso := eb
      clear eb
      have hlti : (k : Int) < (m.snaps.length : Int) := by omega
      have HT' : Hid (TabV w (vs ++ [.slice tq m.snaps[k].table.length tc]) ((imTabs m).take (k + 1 + 1))) := hide (by
        rw [imTabs_take hlt, ← ett]
        exact (unhide HT).snoc hIs')
      have HX := hide (VarN.new wr m.snaps[k].name (.slice tq m.snaps[k].table.length tc))
      have HBX := hide (Joins.below_alloc1 wr (.cells #[.string m.snaps[k].name, .slice tq m.snaps[k].table.length tc] 75))
      have HSZ := hide (unhide HB).size
      clear hIs hIs' ht0' ett hz htl
      go_upto_region 5 with fail
      revert HX HBX
      generalize (wr.alloc _) = w2
      intro HX HBX
      obtain ⟨x0, x1⟩ := (unhide HX).cells
      have HO2 := hide ((unhide HO).below (unhide HBX))
      have HB2 := hide (fr (unhide HB) (unhide HBX))
      clear HX HBX hn0 ht0 hso
      have HOA := hide ((unhide HO2).below (Joins.below_alloc1 _ (.cells #[.slice tq m.snaps[k].table.length tc] 23)))
      have HBA := hide (fr (unhide HB2) (Joins.below_alloc1 _ (.cells #[.slice tq m.snaps[k].table.length tc] 23)))
      have HSZ2 := hide (unhide HB2).size
      go_wp2_with (at_builtin; refine wpList_append_one rfl _ _ 103 rfl w1.heap.size 23 j0 (.slice none 0 0) 1 24 Tryz.underlying103 hj hy0 hy1 hy2 rfl (by omega) qo (k + 1) qa vs rfl (unhide HOA) (by have := unhide HSZ2; simp; omega) ⟨w2.heap.size, 0, none⟩ _ [.slice tq m.snaps[k].table.length tc] rfl rfl (byte_news w2 _ _) (slice_one _ _ _) (by unfold maxLen; omega) (by omega) ?_; intro g2 cap2 wA hoA hkA; have HSF := hide (And.intro hoA (keep_below (unhide HBA) (unhide HOA) (Nat.le_refl _) hkA)); clear hoA hkA)
      go_roundw
      case rel => exact ⟨k + 1, some ⟨g2, 0, none⟩, cap2, vs ++ [.slice tq m.snaps[k].table.length tc], by omega, by go_num, rfl, hide (.inr ⟨by omega, (unhide HSF).1⟩), HT', hide (unhide HSF).2⟩
      case measure => simp [intOf]; omega
    · obtain rfl : k = m.snaps.length := by omega
      have HTT : Hid (TabV w vs (imTabs m)) := hide (by
        have := unhide HT
        rwa [List.take_of_length_le (by rw [imTabs_len]; exact Nat.le_refl _)] at this)
      have HLT := hide (imTabs_len m)
      have HB2 := hide (fr (unhide HB1) (unhide HB))
      have HR : Hid (RowT wr qo (imTabs m)) := hide (fun j hj => by
        have hjn : j < m.snaps.length + 1 := by rw [← unhide HLT]; exact hj
        obtain ⟨tq, tc, hvk, hIs⟩ := (unhide HTT).2 j hj
        obtain ⟨q2, cap2, cur2, eq2, _, _⟩ := own_form (by omega) ((unhide HO).row (by omega))
        have hcell := ((unhide HO).row (by omega))
        rw [eq2] at hcell
        have hck := (hcell.cellAt j (by omega)).trans hvk
        cases eq2
        exact ⟨q2, 0, tq, tc, rfl, by rw [Nat.zero_add]; exact hck, hIs.below (unhide HB2)⟩)
      go_wp2
      go_ret
      exact ⟨qo, qa, by rw [unhide HLT]; rfl, unhide HR, unhide HB2⟩

/-- What tablesOK answers. -/
def tabsB (ts : List (List Int)) : Bool := ts.all fun t => tbB t && onceB t
theorem tabs_yes {ts : List (List Int)} (h : ∀ j (hj : j < ts.length), (fun t => tbB t && onceB t) ts[j] = true) : tabsB ts = true := all_of (p := fun t => tbB t && onceB t) (fun j hj _ => h j hj)
theorem tabs_no {ts : List (List Int)} {k : Nat} (hk : k < ts.length) (h : (tbB ts[k] && onceB ts[k]) = false) : tabsB ts = false := all_not (p := fun t => tbB t && onceB t) hk h

set_option maxHeartbeats 3200000 in
theorem tablesOK_any (qo : Option Addr) (qa : Nat) (ts : List (List Int)) (w : World) (hl : ts.length ≤ 4) (hz : ∀ t ∈ ts, t.length ≤ maxLen) (hc : RowT w qo ts) :
    Calls Tryz.prog 102 #[.slice qo ts.length qa] w fun e w' => e = .returned (.bool (tabsB ts)) ∧ Below w.heap.size w w' := by
  have hmm := @run_makeMap Tryz.prog
  have HC := hide (hc.below (Joins.below_alloc1 w (.map #[] 0)))
  have HZ := hide hz
  have HA := hide (Joins.below_alloc1 w (.map #[] 0))
  have HM := hide (MpC.made w)
  clear hc hz
  go_enter Tryz.func102, Tryz.ntmps102
  go_upto_region 2 with fail
  revert HA HM HC
  generalize (w.alloc _) = W0
  intro HC HA HM
  go_wp2
  go_loopw [11] (fun i wr => ∃ (k n : Nat) (D : DataW Unit) (ns : List Int), k ≤ ts.length ∧ i = .int .i64 k ∧ Hid (MpC wr w.heap.size n D ns) ∧ Hid (RowT wr qo ts) ∧ Hid (∀ j (hj : j < ts.length), j < k → (tbB ts[j] && onceB ts[j]) = true) ∧ Hid (Below w.heap.size w wr)) (fun i _ => ts.length - (intOf i).toNat)
  case atStart => exact ⟨0, _, _, _, Nat.zero_le _, rfl, HM, HC, hide (fun j _ h => by omega), HA⟩
  case round =>
    obtain ⟨k, n, D, ns, hk, rfl, HMK, HR, HS, HB⟩ := hrel
    by_cases hlt : k < ts.length
    · obtain ⟨b, off, tq, tc, rfl, hck, hIs⟩ := unhide HR k hlt
      have HIS := hide hIs
      have HZK := hide (unhide HZ ts[k] (List.getElem_mem hlt))
      clear hIs
      cases htb : tbB ts[k]
      · have HF := hide (tabs_no hlt (by rw [htb]; rfl))
        go_wp2_with (go_at_call 121; refine (tableOK_impl _ _ ts[k] _ (unhide HZK) (unhide HIS)).mono ?_; rintro e w' ⟨rfl, hw⟩; replace hw := hw.symm; subst hw; rw [htb])
        go_ret
        exact ⟨ret_bool (unhide HF).symm, unhide HB⟩
      have HTK := hide htb
      obtain ⟨w4, hrun4, hm4, hk4⟩ := (unhide HMK).clear 0
      have HM4 := hide hm4
      have HR4 := hide ((unhide HR).keepMap (unhide HMK) hk4)
      have HIS4 := hide ((unhide HIS).keepMap (unhide HMK) hk4)
      have HB4 : Hid (Below w.heap.size w w4) := hide ((unhide HB).trans (hk4.below (unhide HB).size (fun g hg => Nat.le_of_eq hg.symm)))
      clear hm4 hk4
      go_wp2_with (first | (go_at_call 121; refine (tableOK_impl _ _ ts[k] _ (unhide HZK) (unhide HIS)).mono ?_; rintro e w' ⟨rfl, hw⟩; replace hw := hw.symm; subst hw; rw [htb]) | fail)
      clear hrun4 hck
      refine (addUses_any w.heap.size 0 _ zero24 tq tc ts[k] _ (unhide HM4) (by omega) (CtI.zero.mono (by omega)) (unhide HTK) (unhide HIS4)).mono ?_
      rintro e w5 ⟨rfl, ⟨D5, hm5⟩, hk5⟩
      have HM5 := hide hm5
      have HR5 := hide ((unhide HR4).keepMap (unhide HM4) hk5)
      have HB5 : Hid (Below w.heap.size w w5) := hide ((unhide HB4).trans (hk5.below (unhide HB4).size (fun g hg => Nat.le_of_eq hg.symm)))
      have HY := hide (once_yes (unhide HTK))
      have HN : Hid (∀ i : Nat, i < 24 → 1 < (cnt1T zero24 ts[k]).getD i 0 → onceB ts[k] = false) := hide (fun i => once_no (unhide HTK))
      clear hm5 hk5 HM4 HR4 HIS4 HB4
      generalize cnt1T zero24 ts[k] = cs at *
      have hown := (unhide HM5).1
      have HAT := hide (unhide HM5).2.2.1
      have HKY := hide (unhide HM5).2.2.2
      go_wp2_with (first | (at_range; refine wpList_range_own _ rfl _ 134 rfl 3 3 lawI Tryz.underlying134 _ w.heap.size _ _ rfl hown ?_; intro w6 hrg0 hg0 hs0) | go_in)
      go_frame
      have HB6 : Hid (Below w5.heap.size w5 w6) := hide ((Below.refl _ _).grown hg0 (Nat.le_refl _) (fun _ h => by cases h))
      have HST : Hid (∀ i : Nat, i < 24 → has D5 (.int .i64 (i : Int)) = false → cs.getD i 0 ≤ 1) := hide (fun i hi hh => by
        have h1 := unhide HAT i hi
        rw [atKey_of_not_has hh] at h1
        simp only [DataW.lit.injEq, Lit.int.injEq, true_and] at h1
        omega)
      clear hg0 hs0 hown
      generalize hRR : w5.heap.size = r at *
      have HRR := hide hRR
      clear hRR
      go_loopw [7] (fun _ wq => ∃ (left : Lit → Bool) (cnt : Nat), wq.ranges Tryz.prog 3 (plainElem Tryz.prog 3) w.heap.size r (0 + 12) D5 left cnt ∧ Hid (∀ i : Nat, i < 24 → left (.int .i64 (i : Int)) = false → cs.getD i 0 ≤ 1) ∧ Hid (∀ kl, left kl = true → has D5 kl = true) ∧ Hid (Below r w5 wq)) (fun _ wq => wq.rangeLeft w.heap.size r)
      case atStart => exact ⟨_, _, hrg0, HST, hide (fun _ h => h), HB6⟩
      case round =>
        obtain ⟨left, cnt, hrg, HLE, HLH, HBQ⟩ := hrel
        go_wp2_with (first | (at_next; refine wpList_next_ranges_ii _ rfl _ rfl 3 3 .i64 .i64 lawI Tryz.underlying3 Tryz.underlying3 w.heap.size r _ _ _ _ rfl hrg ?_ ?_) | go_in)
        · intro _ hl0
          have HON : Hid ((tbB ts[k] && onceB ts[k]) = true) := hide (by rw [unhide HTK, unhide HY (fun i hi => unhide HLE i hi (hl0 _))]; rfl)
          have HS' := hide (all_succ (p := fun t => tbB t && onceB t) hlt (unhide HS) (unhide HON))
          have HMQ : Hid (MpC wr w.heap.size (0 + 12) D5 cs) := hide ⟨hrg.owns, (unhide HM5).2⟩
          have HRQ := hide ((unhide HR5).below (by rw [unhide HRR]; exact unhide HBQ))
          have HBE := hide ((unhide HB5).trans ((unhide HBQ).mono (by rw [← unhide HRR]; exact (unhide HB5).size)))
          clear hrg hl0
          go_wp2
          go_roundw
          case rel => exact ⟨k + 1, _, D5, cs, by omega, by go_num, HMQ, HRQ, HS', HBE⟩
          case measure => simp [intOf]; omega
        · intro x c w7 cnt7 hwx hwc hlx hat hrg7 hlt7 hg7 hs7 hen
          have HB7 : Hid (Below r w5 w7) := hide ((unhide HBQ).grown hg7 (by rw [← unhide HRR]; exact (unhide HBQ).size) (fun j hj => by cases hj; exact Nat.le_refl _))
          obtain ⟨i, hi, ei⟩ := unhide HKY _ (unhide HLH _ hlx)
          simp only [Lit.int.injEq, true_and] at ei
          subst ei
          have hcs : cs.getD i 0 = c := by
            have h1 := unhide HAT i hi
            rw [hat] at h1
            simp only [DataW.lit.injEq, Lit.int.injEq, true_and] at h1
            exact h1.symm
          by_cases hc1 : 1 < c
          · have HF := hide (tabs_no hlt (by rw [unhide HTK, unhide HN i hi (by omega)]; rfl))
            have HBE := hide ((unhide HB5).trans ((unhide HB7).mono (by rw [← unhide HRR]; exact (unhide HB5).size)))
            clear hrg hrg7 hat
            go_wp2
            go_ret
            exact ⟨ret_bool (unhide HF).symm, unhide HBE⟩
          · have HLE' : Hid (∀ i' : Nat, i' < 24 → (left (.int .i64 (i' : Int)) && !(Lit.int .i64 (i' : Int)).sameKey (.int .i64 (i : Int))) = false → cs.getD i' 0 ≤ 1) := hide (fun i' hi' h => by
              by_cases e : i' = i
              · subst e; omega
              · have hk2 : (Lit.int .i64 (i' : Int)).sameKey (.int .i64 (i : Int)) = false := sameKey_ne (by intro h2; simp only [Lit.int.injEq, true_and] at h2; omega)
                rw [hk2] at h
                exact unhide HLE i' hi' (by simpa using h))
            have HLH' : Hid (∀ kl : Lit, (left kl && !kl.sameKey (.int .i64 (i : Int))) = true → has D5 kl = true) := hide (fun kl h => unhide HLH kl (by simp only [Bool.and_eq_true] at h; exact h.1))
            clear hcs hat
            go_wp2
            go_roundw
            case rel => exact ⟨_, cnt7, hrg7, HLE', HLH', HB7⟩
            case measure => rw [hrg7.left_eq, hrg.left_eq]; exact hlt7
    · have HF := hide (tabs_yes (fun j hj => unhide HS j hj (by omega)))
      go_wp2
      go_ret
      exact ⟨ret_bool (unhide HF).symm, unhide HB⟩

end Go.Proofs.YthnpooffhopnkacGreatDoor

/- Counts and data that follow the tables: imFit; the contract of impl.fitToTables. -/
namespace Go.Proofs.YthnpooffhopnkacGreatDoor
open Go.RowKit
set_option linter.unusedVariables false
set_option maxRecDepth 100000

/-- Counts and data as the tables have them. -/
def imFit (m : Img) : Img := { m with refs := imCnt m, data := (List.range 24).map fun i => if (imCnt m).getD i 0 = 0 then 0 else m.data.getD i 0 }
/-- .. of the first clusters. -/
def fitTo (m : Img) (cs : List Int) : Nat → Img
  | 0 => m
  | k + 1 => { fitTo m cs k with refs := (fitTo m cs k).refs.set k (cs.getD k 0), data := if cs.getD k 0 = 0 then (fitTo m cs k).data.set k 0 else (fitTo m cs k).data }
theorem fitTo_lens (m : Img) (cs : List Int) : ∀ k, (fitTo m cs k).refs.length = m.refs.length ∧ (fitTo m cs k).data.length = m.data.length ∧ (fitTo m cs k).table = m.table ∧ (fitTo m cs k).snaps = m.snaps
  | 0 => ⟨rfl, rfl, rfl, rfl⟩
  | k + 1 => by
    obtain ⟨h1, h2, h3, h4⟩ := fitTo_lens m cs k
    refine ⟨by simp [fitTo, h1], ?_, h3, h4⟩
    unfold fitTo
    simp only
    split
    · rw [List.length_set]; exact h2
    · exact h2
theorem fitTo_get (m : Img) (cs : List Int) (hr : m.refs.length = 24) (hd : m.data.length = 24) : ∀ k, k ≤ 24 → ∀ i, i < 24 → (fitTo m cs k).refs.getD i 0 = (if i < k then cs.getD i 0 else m.refs.getD i 0) ∧ (fitTo m cs k).data.getD i 0 = (if i < k ∧ cs.getD i 0 = 0 then 0 else m.data.getD i 0)
  | 0, _, i, _ => by simp [fitTo]
  | k + 1, hk, i, hi => by
    obtain ⟨h1, h2⟩ := fitTo_get m cs hr hd k (by omega) i hi
    obtain ⟨l1, l2, _, _⟩ := fitTo_lens m cs k
    constructor
    · have e : (fitTo m cs (k + 1)).refs = (fitTo m cs k).refs.set k (cs.getD k 0) := rfl
      rw [e]
      by_cases hik : i = k
      · subst hik
        rw [if_pos (by omega)]
        simp [List.getD, l1, hr, hi]
      · have : (i < k + 1) ↔ (i < k) := by omega
        simp only [this]
        rw [← h1]
        simp [List.getD, Ne.symm hik]
    · have e : (fitTo m cs (k + 1)).data = if cs.getD k 0 = 0 then (fitTo m cs k).data.set k 0 else (fitTo m cs k).data := rfl
      rw [e]
      by_cases hik : i = k
      · subst hik
        by_cases hz : cs.getD i 0 = 0
        · rw [if_pos hz, if_pos ⟨by omega, hz⟩]
          simp [List.getD, l2, hd, hi]
        · rw [if_neg hz, h2, if_neg (fun h => hz h.2), if_neg (fun h => hz h.2)]
      · have : (i < k + 1) ↔ (i < k) := by omega
        simp only [this]
        rw [← h2]
        split
        · simp [List.getD, Ne.symm hik]
        · rfl
theorem getD_ext {xs ys : List Int} (h1 : xs.length = 24) (h2 : ys.length = 24) (h : ∀ i, i < 24 → xs.getD i 0 = ys.getD i 0) : xs = ys :=
  List.ext_getElem (by rw [h1, h2]) (fun i ha hb => by
    have := h i (by omega)
    simpa [List.getD, ha, hb] using this)
theorem range_getD {f : Nat → Int} {i : Nat} (hi : i < 24) : ((List.range 24).map f).getD i 0 = f i := by simp [List.getD, hi]
theorem fitTo_all (m : Img) (hr : m.refs.length = 24) (hd : m.data.length = 24) : fitTo m (imCnt m) 24 = imFit m := by
  obtain ⟨l1, l2, l3, l4⟩ := fitTo_lens m (imCnt m) 24
  have e1 : (fitTo m (imCnt m) 24).refs = imCnt m := getD_ext (by rw [l1, hr]) (imCnt_len m) (fun i hi => by
    rw [(fitTo_get m (imCnt m) hr hd 24 (Nat.le_refl _) i hi).1, if_pos hi])
  have e2 : (fitTo m (imCnt m) 24).data = (List.range 24).map fun i => if (imCnt m).getD i 0 = 0 then 0 else m.data.getD i 0 := getD_ext (by rw [l2, hd]) (by simp) (fun i hi => by
    rw [(fitTo_get m (imCnt m) hr hd 24 (Nat.le_refl _) i hi).2, range_getD hi]
    simp [hi])
  have key : ∀ F : Img, F.refs = imCnt m → F.table = m.table → F.snaps = m.snaps → F.data = ((List.range 24).map fun i => if (imCnt m).getD i 0 = 0 then 0 else m.data.getD i 0) → F = imFit m := by
    rintro ⟨r, t, s, d⟩ h1 h2 h3 h4
    simp only at h1 h2 h3 h4
    subst h1 h2 h3 h4
    rfl
  exact key _ e1 l3 l4 e2
/-- Cells are no map. -/
theorem MpC.setCell {w : World} {B n : Nat} {D : DataW Unit} {ns : List Int} (h : MpC w B n D ns) {p : Addr} {u : Value} (hc : w.cell? p = some u) (v : Value) : MpC (w.setCell p v) B n D ns := by
  have hk : Keep (fun g => g = p.block) w (w.setCell p v) := (Keep.refl (fun g => g = p.block) w).setCell (p := p) rfl v
  refine h.keep hk (fun e => ?_)
  obtain ⟨⟨es, clock, hb, _⟩, _⟩ := h
  have e' : B = p.block := e
  rw [e'] at hb
  simp [World.cell?, hb] at hc
theorem ImB.lens {a : Im4} {m m' : Img} {ts : List Value} {g : Nat} (e1 : m'.refs.length = m.refs.length) (e2 : m'.table.length = m.table.length) (e3 : m'.snaps.length = m.snaps.length) (e4 : m'.data.length = m.data.length) (h : ImB a m' ts g) : ImB a m ts g := by
  unfold ImB at h ⊢
  rw [e1, e2, e3, e4] at h
  exact h

end Go.Proofs.YthnpooffhopnkacGreatDoor
