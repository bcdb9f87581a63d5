import Derived.Test.YtbmkdbccdnbbjaaGreatDoorRows
import Derived.Test.YtbmkdbccdnbbjaaGreatDoorPart1
import Derived.Test.YtbmkdbccdnbbjaaGreatDoorPart2
import Derived.Test.YtbmkdbccdnbbjaaGreatDoorPart5
import Derived.Test.YtbmkdbccdnbbjaaGreatDoorPart4
import Derived.Test.YtbmkdbccdnbbjaaGreatDoorPart12
import Derived.WalkKit
import Derived.WalkSpells
import Derived.KernelRfl
import Derived.LoopN
import Derived.Deep.RegionWith
import Derived.Test.YtbmkdbccdnbbjaaGreatDoorPart9
import Derived.BigQuiet
import Derived.Deep.QuietTactic

namespace Go.Proofs.YtbmkdbccdnbbjaaGreatDoor
open Go.RowKit
set_option linter.unusedVariables false
set_option maxRecDepth 100000

theorem clusterOfData_any (k c : Int) (w : World) :
    Calls Tryz.prog 200 #[.int .i64 k, .int .i64 c] w fun e w' => e = .returned (.tuple #[.int .i64 c, .bool (k == 2)]) ∧ w' = w := by
  go_enter Tryz.func200, Tryz.ntmps200
  go_wp2
  go_ret2
  exact ⟨rfl, rfl⟩

set_option maxHeartbeats 1600000 in
theorem takeEntries_any (ao : Option Addr) (cap : Nat) (xs : List Int) (w : World) (hl : xs.length ≤ 1048576) (hi : ∀ j (h : j < xs.length), -1000 ≤ xs[j] ∧ xs[j] ≤ 1000) (hc : Is w ao xs) :
    Calls Tryz.prog 199 #[.slice ao xs.length cap, .func (.func 200) #[] #[]] w fun e w' => ∃ v, e = .returned v ∧ OwnN w' w.heap.size v (clA xs) ∧ Below w.heap.size w w' := by
  obtain ⟨j0, hj, hy0, hy1, hy2⟩ := info_parts infoM
  have HC := hide hc
  have HI := hide hi
  clear hc hi
  go_enter Tryz.func199, Tryz.ntmps199
  go_wp2
  go_loopw [5, 12] (fun o i wr => ∃ (k : Nat) (ys : List Int) (qo : Option Addr) (qa : Nat), k ≤ xs.length ∧ i = .int .i64 k ∧ o = .slice qo ys.length qa ∧ Hid (ys = clTo xs k) ∧ Hid (OwnR wr w.heap.size 3 1 (.slice qo ys.length qa) ys.length (intV ys)) ∧ Hid (Below w.heap.size w wr)) (fun _ i _ => xs.length - (intOf i).toNat)
  case atStart => exact ⟨0, [], _, _, Nat.zero_le _, rfl, rfl, hide rfl, hide (.inl ⟨rfl, rfl, _, rfl⟩), hide (Below.refl _ _)⟩
  case round =>
    obtain ⟨k, ys, qo, qa, hk, rfl, rfl, HE, HO, HB⟩ := hrel
    by_cases hlt : k < xs.length
    · obtain ⟨b, off, rfl, hcl⟩ := (unhide HC).below (unhide HB) k hlt
      have HIK := hide (unhide HI k hlt)
      by_cases h2 : 2 ≤ xs[k]
      · have HS := hide (clTo_data hlt h2)
        have HYL : Hid (ys.length ≤ 1048576) := hide (by rw [unhide HE]; have := clTo_len xs k; omega)
        have hyl := unhide HYL
        have HV : Hid (min xs[k] 2 = 2 ∧ max 0 (xs[k] - 2) = xs[k] - 2) := hide ⟨by omega, by omega⟩
        have HOA := hide ((unhide HO).below (Joins.below_alloc1 _ (.cells #[.int .i64 (xs[k] - 2)] 3)))
        have HBA := hide (fr (unhide HB) (Joins.below_alloc1 _ (.cells #[.int .i64 (xs[k] - 2)] 3)))
        have HSZ := hide (unhide HB).size
        clear h2
        go_wp2_with (first | (go_at_call 188; refine (splitEntry_any _ _ (by have := unhide HIK; omega) (by have := unhide HIK; omega)).mono ?_; rintro e w' ⟨rfl, hw⟩; replace hw := hw.symm; subst hw; rw [(unhide HV).1, (unhide HV).2]) | (go_at_call 200; refine (clusterOfData_any _ _ _).mono ?_; rintro e w' ⟨rfl, hw⟩; replace hw := hw.symm; subst hw) | (at_builtin; refine wpList_append_one rfl _ _ 23 rfl w.heap.size 3 j0 (.int .i64 0) 1 8 Tryz.underlying23 hj hy0 hy1 hy2 rfl (by omega) qo ys.length qa (intV ys) rfl (unhide HOA) (by have := unhide HSZ; simp; omega) ⟨wr.heap.size, 0, none⟩ _ [.int .i64 (xs[k] - 2)] rfl rfl (byte_news wr _ _) (int_one _) (by unfold maxLen; omega) (by omega) ?_; intro g2 cap2 wA hoA hkA; have HSF := hide (And.intro hoA (keep_below (unhide HBA) (unhide HOA) (Nat.le_refl _) hkA)); clear hoA hkA))
        go_roundw
        case rel => exact ⟨k + 1, ys ++ [xs[k] - 2], some ⟨g2, 0, none⟩, cap2, by omega, by go_num, by simp, hide (by rw [unhide HS, unhide HE]), hide (by rw [List.length_append, intV_snoc]; exact .inr ⟨by simp, (unhide HSF).1⟩), hide (unhide HSF).2⟩
        case measure => simp [intOf]; omega
      · have HS := hide (clTo_none hlt h2)
        have HV : Hid (min xs[k] 2 = xs[k] ∧ max 0 (xs[k] - 2) = 0) := hide ⟨by omega, by omega⟩
        have hb2 : (xs[k] == 2) = false := beq_eq_false_iff_ne.2 (by omega)
        clear h2
        go_wp2_with (first | (go_at_call 188; refine (splitEntry_any _ _ (by have := unhide HIK; omega) (by have := unhide HIK; omega)).mono ?_; rintro e w' ⟨rfl, hw⟩; replace hw := hw.symm; subst hw; rw [(unhide HV).1, (unhide HV).2]) | (go_at_call 200; refine (clusterOfData_any _ _ _).mono ?_; rintro e w' ⟨rfl, hw⟩; replace hw := hw.symm; subst hw; rw [hb2]))
        go_roundw
        case rel => exact ⟨k + 1, ys, qo, qa, by omega, by go_num, rfl, hide (by rw [unhide HS, unhide HE]), HO, HB⟩
        case measure => simp [intOf]; omega
    · have HS : Hid (clA xs = ys) := hide (by rw [unhide HE, clA, show k = xs.length by omega])
      go_wp2
      go_ret
      exact ⟨.slice qo ys.length qa, rfl, by rw [unhide HS]; exact ⟨qo, qa, rfl, unhide HO⟩, unhide HB⟩

end Go.Proofs.YtbmkdbccdnbbjaaGreatDoor

namespace Go.Proofs.YtbmkdbccdnbbjaaGreatDoor
open Go.RowKit Go.Maps
set_option linter.unusedVariables false
set_option maxRecDepth 100000

def VarN (w : World) (x : Nat) (n : ByteArray) (v : Value) : Prop := w.heap[x]? = some (.cells #[.string n, v] 79 (0, 0))
theorem VarN.cells {w : World} {x : Nat} {n : ByteArray} {v : Value} (k : VarN w x n v) : w.cell? ⟨x, 0, none⟩ = some (.string n) ∧ w.cell? ⟨x, 1, none⟩ = some v := ⟨by rw [Joins.cell_of_block k]; rfl, by rw [Joins.cell_of_block k]; rfl⟩
theorem VarN.new (w : World) (n : ByteArray) (v : Value) : VarN (w.alloc (.cells #[.string n, v] 79)) w.heap.size n v := heap_alloc_new w _

set_option maxHeartbeats 1600000 in
theorem addUses_any (B n : Nat) (D : DataW Unit) (ns : List Int) (ao : Option Addr) (cap : Nat) (xs : List Int) (w : World) (hB : MpC w B n D ns) (hn : n ≤ 100000) (hns : CtI ns 1000) (hx : tbB xs = true) (hc : Is w ao xs) :
    Calls Tryz.prog 178 #[.map (some B), .slice ao xs.length cap] w fun e w' => e = .returned (.tuple #[]) ∧ (∃ D', MpC w' B (n + 12) D' (cnt1T ns xs)) ∧ Keep (fun g => g = B) w w' := by
  have HC := hide hc
  have HM := hide hB
  have HNS := hide hns
  have HTX := hide (tbB_len hx)
  have HIN : Hid (∀ j (h : j < xs.length), -1000 ≤ xs[j] ∧ xs[j] ≤ 1000) := hide (fun j h => by have := tbB_at hx j h; omega)
  have HCI := hide (clA_in hx)
  have HCL := hide (clA_len hx)
  clear hc hB hx hns
  go_enter Tryz.func178, Tryz.ntmps178
  go_wp2_with fail
  refine (takeEntries_any ao cap xs _ (by have := unhide HTX; omega) (unhide HIN) (unhide HC)).mono ?_
  rintro e w3 ⟨v, rfl, ⟨lo, la, rfl, hol⟩, hb3⟩
  have HB3 := hide hb3
  have HL3 := hide hol
  have HM3 := hide ((unhide HM).below hb3)
  have HBL := hide (unhide HM).lt
  have HCN : Hid (cnt1T ns xs = (clA xs).foldl incr ns) := hide rfl
  clear hol hb3
  generalize clA xs = L at *
  have hL12 := unhide HCL
  go_wp2
  go_loopw [9] (fun i wq => ∃ (j : Nat) (D' : DataW Unit), j ≤ L.length ∧ i = .int .i64 j ∧ Hid (CtI ((L.take j).foldl incr ns) (1000 + j)) ∧ Hid (MpC wq B (n + j) D' ((L.take j).foldl incr ns)) ∧ Hid (Keep (fun g => g = B) w3 wq)) (fun i _ => L.length - (intOf i).toNat)
  case atStart => exact ⟨0, D, Nat.zero_le _, rfl, hide (by simpa using unhide HNS), hide (by simpa using unhide HM3), hide (Keep.refl _ _)⟩
  case round =>
    obtain ⟨j, D', hj', rfl, HJ, HMJ, HKJ⟩ := hrel
    by_cases hjl : j < L.length
    · have HLJ := hide ((unhide HL3).keep (unhide HKJ) (fun g hg he => by have h1 := ((unhide HL3).ge g hg).1; have h2 := unhide HBL; omega))
      obtain ⟨b, off, rfl, hcl⟩ := (ownRN (unhide HLJ)) j hjl
      obtain ⟨l0, l1⟩ := unhide HCI j hjl
      obtain ⟨c, hcc⟩ := Int.eq_ofNat_of_zero_le l0
      rw [hcc] at hcl
      have hc24 : c < 24 := by omega
      have HST := hide (incr_take hjl ns)
      rw [hcc] at HST
      clear hcc l0 l1
      generalize hMS : (L.take j).foldl incr ns = ms at *
      clear hMS
      have hlen := (unhide HJ).1
      have hcm : c < ms.length := by omega
      obtain ⟨x0, x1⟩ := (unhide HJ).2 c hcm
      have hlk := (unhide HMJ).look hc24
      have egd : ms.getD c 0 = ms[c] := by simp [List.getD, hcm]
      rw [egd] at hlk
      have HJ' : Hid (CtI ((L.take (j + 1)).foldl incr ns) (1000 + (j + 1 : Nat))) := hide (by rw [unhide HST]; exact ((unhide HJ).up hc24).mono (by omega))
      have HE' : Hid (ms.set c (ms[c] + 1) = (L.take (j + 1)).foldl incr ns) := hide (by
        rw [unhide HST, incr_set, egd])
      clear egd hlen
      generalize ms[c] = X at *
      have hw1 : IntKind.i64.wrap (X + 1) = X + 1 := by rw [IntKind.wrap_i64]; omega
      go_wp2_with (at_mapUpdate; refine wpList_count rfl _ _ _ rfl rfl (unhide HMJ) (by omega) rfl hc24 (by first | rfl | (rw [hw1]; rfl)) ⟨by omega, by omega⟩ ?_; intro w5 D5 hm5 hk5; have HS5 := hide (And.intro hm5 hk5); clear hm5 hk5)
      go_roundw
      case rel => exact ⟨j + 1, D5, by omega, by go_num, HJ', hide (by rw [← unhide HE']; exact (unhide HS5).1), hide ((unhide HKJ).trans (unhide HS5).2)⟩
      case measure => simp [intOf]; omega
    · obtain rfl : j = L.length := by omega
      rw [List.take_length] at HMJ
      go_wp2
      go_end0
      exact ⟨rfl, ⟨D', by rw [unhide HCN]; exact (unhide HMJ).mono (by omega)⟩, (Keep.of_below (unhide HB3)).trans (unhide HKJ)⟩

def RowT (w : World) (qo : Option Addr) (ts : List (List Int)) : Prop := ∀ j (h : j < ts.length), ∃ b off tq tc, qo = some ⟨b, off, none⟩ ∧ w.cell? ⟨b, off + j, none⟩ = some (.slice tq ts[j].length tc) ∧ Is w tq ts[j]
theorem RowT.below {w w' : World} {qo : Option Addr} {ts : List (List Int)} (h : RowT w qo ts) (hb : Below w.heap.size w w') : RowT w' qo ts := fun j hj => by
  obtain ⟨b, off, tq, tc, e, h1, h2⟩ := h j hj
  exact ⟨b, off, tq, tc, e, (hb.cell (p := ⟨b, off + j, none⟩) (World.block_lt_of_cell? _ _ h1)).trans h1, h2.below hb⟩
theorem keep_cellM {S : Nat → Prop} {w w' : World} (hk : Keep S w w') {p : Addr} {v : Value} (h : w.cell? p = some v) (hs : ¬ S p.block) : w'.cell? p = some v :=
  (World.cell?_of_block (hk.block p.block (World.block_lt_of_cell? _ _ h) hs)).trans h
theorem Is.keepMap {w w' : World} {B n : Nat} {D : DataW Unit} {ns : List Int} {ao : Option Addr} {xs : List Int} (h : Is w ao xs) (hm : MpC w B n D ns) (hk : Keep (fun g => g = B) w w') : Is w' ao xs := fun i hi => by
  obtain ⟨b, off, e, hc⟩ := h i hi
  refine ⟨b, off, e, keep_cellM hk hc (fun he => ?_)⟩
  obtain ⟨⟨es, clock, hb, _⟩, _⟩ := hm
  simp only at he
  subst he
  simp [World.cell?, hb] at hc
theorem RowT.keepMap {w w' : World} {B n : Nat} {D : DataW Unit} {ns : List Int} {qo : Option Addr} {ts : List (List Int)} (h : RowT w qo ts) (hm : MpC w B n D ns) (hk : Keep (fun g => g = B) w w') : RowT w' qo ts := fun j hj => by
  obtain ⟨b, off, tq, tc, e, h1, h2⟩ := h j hj
  refine ⟨b, off, tq, tc, e, keep_cellM hk h1 (fun he => ?_), h2.keepMap hm hk⟩
  obtain ⟨⟨es, clock, hb, _⟩, _⟩ := hm
  simp only at he
  subst he
  simp [World.cell?, hb] at h1

set_option maxHeartbeats 1600000 in
theorem usesOf_any (qo : Option Addr) (qa : Nat) (ts : List (List Int)) (w : World) (hl : ts.length ≤ 4) (ht : ∀ t ∈ ts, tbB t = true) (hc : RowT w qo ts) :
    Calls Tryz.prog 131 #[.slice qo ts.length qa] w fun e w' => ∃ B D, e = .returned (.map (some B)) ∧ w.heap.size ≤ B ∧ MpC w' B 1000 D (ts.foldl cnt1T zero24) ∧ CtI (ts.foldl cnt1T zero24) 48 ∧ Below w.heap.size w w' := by
  have hmm := @run_makeMap Tryz.prog
  have HC := hide (hc.below (Joins.below_alloc1 w (.map #[] 0)))
  have HT := hide ht
  have HA := hide (Joins.below_alloc1 w (.map #[] 0))
  have HM := hide (MpC.made w)
  clear hc ht
  go_enter Tryz.func131, Tryz.ntmps131
  go_upto_region 2 with fail
  revert HA HM HC
  generalize (w.alloc _) = W0
  intro HC HA HM
  go_wp2
  go_loopw [9] (fun i wr => ∃ (k : Nat) (D : DataW Unit), k ≤ ts.length ∧ i = .int .i64 k ∧ Hid (CtI ((ts.take k).foldl cnt1T zero24) (12 * k)) ∧ Hid (MpC wr w.heap.size (12 * k) D ((ts.take k).foldl cnt1T zero24)) ∧ Hid (RowT wr qo ts) ∧ Hid (Below w.heap.size w wr)) (fun i _ => ts.length - (intOf i).toNat)
  case atStart => exact ⟨0, _, Nat.zero_le _, rfl, hide (by simpa using CtI.zero), hide (by simpa using unhide HM), HC, HA⟩
  case round =>
    obtain ⟨k, D, hk, rfl, HI, HMK, HR, HB⟩ := hrel
    by_cases hlt : k < ts.length
    · obtain ⟨b, off, tq, tc, rfl, hck, hIs⟩ := unhide HR k hlt
      have HIS := hide hIs
      have htk := unhide HT ts[k] (List.getElem_mem hlt)
      have HTK := hide htk
      have HCT := hide (cntT_take hlt zero24)
      clear hIs htk
      have HBD := hide (unhide HB).size
      go_wp2_with fail
      refine (addUses_any w.heap.size (12 * k) D _ tq tc ts[k] _ (unhide HMK) (by omega) ((unhide HI).mono (by omega)) (unhide HTK) (unhide HIS)).mono ?_
      rintro e w3 ⟨rfl, ⟨D3, hm3⟩, hk3⟩
      have HM3 : Hid (MpC w3 w.heap.size (12 * (k + 1)) D3 ((ts.take (k + 1)).foldl cnt1T zero24)) := hide (by rw [unhide HCT]; exact hm3)
      have HR3 := hide ((unhide HR).keepMap (unhide HMK) hk3)
      have HB3 : Hid (Below w.heap.size w w3) := hide ((unhide HB).trans (hk3.below (unhide HB).size (fun g hg => Nat.le_of_eq hg.symm)))
      have HI3 : Hid (CtI ((ts.take (k + 1)).foldl cnt1T zero24) (12 * (k + 1 : Nat))) := hide (by
        rw [unhide HCT]
        refine ⟨by rw [cnt1T_len]; exact (unhide HI).1, fun i hi => ?_⟩
        rw [cnt1T_len, (unhide HI).1] at hi
        have h1 := cnt1T_get (unhide HTK) (unhide HI).1 hi
        have h2 : ((ts.take k).foldl cnt1T zero24).getD i 0 = ((ts.take k).foldl cnt1T zero24)[i]'(by rw [(unhide HI).1]; exact hi) := by simp [List.getD, (unhide HI).1, hi]
        have h3 : (cnt1T ((ts.take k).foldl cnt1T zero24) ts[k]).getD i 0 = (cnt1T ((ts.take k).foldl cnt1T zero24) ts[k])[i]'(by rw [cnt1T_len, (unhide HI).1]; exact hi) := by simp [List.getD, cnt1T_len, (unhide HI).1, hi]
        have h4 := (unhide HI).2 i (by rw [(unhide HI).1]; exact hi)
        have h5 : (clA ts[k]).count (i : Int) ≤ (clA ts[k]).length := List.count_le_length
        have h6 := clA_len (unhide HTK)
        rw [← h3, h1, h2]
        omega)
      clear hm3 hk3
      go_wp2
      go_roundw
      case rel => exact ⟨k + 1, D3, by omega, by go_num, HI3, HM3, HR3, HB3⟩
      case measure => simp [intOf]; omega
    · obtain rfl : k = ts.length := by omega
      rw [List.take_length] at HMK HI
      go_wp2
      go_ret
      exact ⟨w.heap.size, D, rfl, Nat.le_refl _, (unhide HMK).mono (by omega), (unhide HI).mono (by omega), unhide HB⟩

set_option maxHeartbeats 3200000 in
theorem tablesOf_any (a : Im4) (m : Img) (w : World) (hs : m.snaps.length ≤ 3) (hc : ImS w a m) :
    Calls Tryz.prog 81 #[imV a m] w fun e w' => ∃ qo qa, e = .returned (.slice qo (imTabs m).length qa) ∧ RowT w' qo (imTabs m) ∧ Below w.heap.size w w' := by
  have HA := hide (Joins.below_alloc1 w (.cells #[.slice a.ro m.refs.length a.rc, .slice a.tq m.table.length a.tc, .slice a.so m.snaps.length a.sc, .slice a.dq m.data.length a.dc] 26))
  have HV := hide (VarM.new w 26 (.slice a.ro m.refs.length a.rc) (.slice a.tq m.table.length a.tc) (.slice a.so m.snaps.length a.sc) (.slice a.dq m.data.length a.dc))
  have HC := hide hc
  clear hc
  obtain ⟨j0, hj, hy0, hy1, hy2⟩ := info_parts infoTb
  go_enter Tryz.func81, Tryz.ntmps81
  go_upto_region 1 with fail
  revert HA HV
  generalize (w.alloc _) = w1
  intro HB1 HV1
  have HSZ0 : Hid (w.heap.size < w1.heap.size) := hide (unhide HV1).lt
  obtain ⟨c0, c1, c2, c3⟩ := (unhide HV1).cells
  have HOT : Hid (OwnR (w1.alloc (.cells #[.slice a.tq m.table.length a.tc] 23)) w1.heap.size 23 1 (.slice (some ⟨w1.heap.size, 0, none⟩) 1 1) 1 [.slice a.tq m.table.length a.tc]) := hide (.inr ⟨by omega, rfl, .inr ⟨w1.heap.size, 1, #[.slice a.tq m.table.length a.tc], rfl, Nat.le_refl _, heap_alloc_new w1 _, Nat.le_refl _, by unfold maxLen; omega, rfl, rfl⟩⟩)
  have HBA := hide (Joins.below_alloc1 w1 (.cells #[.slice a.tq m.table.length a.tc] 23))
  go_upto_region 2 with fail
  revert HOT HBA
  generalize (w1.alloc _) = W1
  intro HOT HBA
  clear c0 c1 c2 c3
  obtain ⟨c0, c1, c2, c3⟩ := ((unhide HV1).below (unhide HBA)).cells
  go_wp2
  clear c0 c1 c2 c3
  go_loopw [3, 12] (fun o i wr => ∃ (k : Nat) (qo : Option Addr) (qa : Nat) (vs : List Value), k ≤ m.snaps.length ∧ i = .int .i64 k ∧ o = .slice qo (k + 1) qa ∧ Hid (OwnR wr w1.heap.size 23 1 (.slice qo (k + 1) qa) (k + 1) vs) ∧ Hid (TabV w vs ((imTabs m).take (k + 1))) ∧ Hid (Below w1.heap.size w1 wr)) (fun _ i _ => m.snaps.length - (intOf i).toNat)
  case atStart => exact ⟨0, _, _, [.slice a.tq m.table.length a.tc], Nat.zero_le _, rfl, rfl, HOT, hide (by
    have h0 : TabV w [] [] := ⟨rfl, fun j h => by simp at h⟩
    have := h0.snoc (tc := a.tc) (unhide HC).t
    simpa [imTabs] using this), HBA⟩
  case round =>
    clear HOT HBA
    obtain ⟨k, qo, qa, vs, hk, rfl, rfl, HO, HT, HB⟩ := hrel
    by_cases hlt : k < m.snaps.length
    · obtain ⟨b, off, tq, tc, eb, hn0, ht0, hIs, hz, htl⟩ := ((unhide HC).s.below (fr (unhide HB1) (unhide HB))) k hlt
      obtain ⟨b', off', tq', tc', eb', _, ht0', hIs', _, _⟩ := (unhide HC).s k hlt
      rw [eb] at eb'
      cases eb'
      have ett : Value.slice tq' m.snaps[k].table.length tc' = .slice tq m.snaps[k].table.length tc := by
        have h1 := ((fr (unhide HB1) (unhide HB)).cell (p := ⟨b, off + k * 2 + 1, none⟩) (World.block_lt_of_cell? _ _ ht0')).trans ht0'
        rw [ht0] at h1
        exact (Option.some.inj h1).symm
      have hso := eb
      clear eb
      have hlti : (k : Int) < (m.snaps.length : Int) := by omega
      have HT' : Hid (TabV w (vs ++ [.slice tq m.snaps[k].table.length tc]) ((imTabs m).take (k + 1 + 1))) := hide (by
        rw [imTabs_take hlt, ← ett]
        exact (unhide HT).snoc hIs')
      have HX := hide (VarN.new wr m.snaps[k].name (.slice tq m.snaps[k].table.length tc))
      have HBX := hide (Joins.below_alloc1 wr (.cells #[.string m.snaps[k].name, .slice tq m.snaps[k].table.length tc] 79))
      have HSZ := hide (unhide HB).size
      clear hIs hIs' ht0' ett hz htl
      go_upto_region 5 with fail
      revert HX HBX
      generalize (wr.alloc _) = w2
      intro HX HBX
      obtain ⟨x0, x1⟩ := (unhide HX).cells
      have HO2 := hide ((unhide HO).below (unhide HBX))
      have HB2 := hide (fr (unhide HB) (unhide HBX))
      clear HX HBX hn0 ht0 hso
      have HOA := hide ((unhide HO2).below (Joins.below_alloc1 _ (.cells #[.slice tq m.snaps[k].table.length tc] 23)))
      have HBA := hide (fr (unhide HB2) (Joins.below_alloc1 _ (.cells #[.slice tq m.snaps[k].table.length tc] 23)))
      have HSZ2 := hide (unhide HB2).size
      go_wp2_with (at_builtin; refine wpList_append_one rfl _ _ 116 rfl w1.heap.size 23 j0 (.slice none 0 0) 1 24 Tryz.underlying116 hj hy0 hy1 hy2 rfl (by omega) qo (k + 1) qa vs rfl (unhide HOA) (by have := unhide HSZ2; simp; omega) ⟨w2.heap.size, 0, none⟩ _ [.slice tq m.snaps[k].table.length tc] rfl rfl (byte_news w2 _ _) (slice_one _ _ _) (by unfold maxLen; omega) (by omega) ?_; intro g2 cap2 wA hoA hkA; have HSF := hide (And.intro hoA (keep_below (unhide HBA) (unhide HOA) (Nat.le_refl _) hkA)); clear hoA hkA)
      go_roundw
      case rel => exact ⟨k + 1, some ⟨g2, 0, none⟩, cap2, vs ++ [.slice tq m.snaps[k].table.length tc], by omega, by go_num, rfl, hide (.inr ⟨by omega, (unhide HSF).1⟩), HT', hide (unhide HSF).2⟩
      case measure => simp [intOf]; omega
    · obtain rfl : k = m.snaps.length := by omega
      have HTT : Hid (TabV w vs (imTabs m)) := hide (by
        have := unhide HT
        rwa [List.take_of_length_le (by rw [imTabs_len]; exact Nat.le_refl _)] at this)
      have HLT := hide (imTabs_len m)
      have HB2 := hide (fr (unhide HB1) (unhide HB))
      have HR : Hid (RowT wr qo (imTabs m)) := hide (fun j hj => by
        have hjn : j < m.snaps.length + 1 := by rw [← unhide HLT]; exact hj
        obtain ⟨tq, tc, hvk, hIs⟩ := (unhide HTT).2 j hj
        obtain ⟨q2, cap2, cur2, eq2, _, _⟩ := own_form (by omega) ((unhide HO).row (by omega))
        have hcell := ((unhide HO).row (by omega))
        rw [eq2] at hcell
        have hck := (hcell.cellAt j (by omega)).trans hvk
        cases eq2
        exact ⟨q2, 0, tq, tc, rfl, by rw [Nat.zero_add]; exact hck, hIs.below (unhide HB2)⟩)
      go_wp2
      go_ret
      exact ⟨qo, qa, by rw [unhide HLT]; rfl, unhide HR, unhide HB2⟩

def tabsB (ts : List (List Int)) : Bool := ts.all fun t => tbB t && onceB t
theorem tabs_yes {ts : List (List Int)} (h : ∀ j (hj : j < ts.length), (fun t => tbB t && onceB t) ts[j] = true) : tabsB ts = true := all_of (p := fun t => tbB t && onceB t) (fun j hj _ => h j hj)
theorem tabs_no {ts : List (List Int)} {k : Nat} (hk : k < ts.length) (h : (tbB ts[k] && onceB ts[k]) = false) : tabsB ts = false := all_not (p := fun t => tbB t && onceB t) hk h

set_option maxHeartbeats 3200000 in
theorem tablesOK_any (qo : Option Addr) (qa : Nat) (ts : List (List Int)) (w : World) (hl : ts.length ≤ 4) (hz : ∀ t ∈ ts, t.length ≤ maxLen) (hc : RowT w qo ts) :
    Calls Tryz.prog 130 #[.slice qo ts.length qa] w fun e w' => e = .returned (.bool (tabsB ts)) ∧ Below w.heap.size w w' := by
  have hmm := @run_makeMap Tryz.prog
  have HC := hide (hc.below (Joins.below_alloc1 w (.map #[] 0)))
  have HZ := hide hz
  have HA := hide (Joins.below_alloc1 w (.map #[] 0))
  have HM := hide (MpC.made w)
  clear hc hz
  go_enter Tryz.func130, Tryz.ntmps130
  go_upto_region 2 with fail
  revert HA HM HC
  generalize (w.alloc _) = W0
  intro HC HA HM
  go_wp2
  go_loopw [11] (fun i wr => ∃ (k n : Nat) (D : DataW Unit) (ns : List Int), k ≤ ts.length ∧ i = .int .i64 k ∧ Hid (MpC wr w.heap.size n D ns) ∧ Hid (RowT wr qo ts) ∧ Hid (∀ j (hj : j < ts.length), j < k → (tbB ts[j] && onceB ts[j]) = true) ∧ Hid (Below w.heap.size w wr)) (fun i _ => ts.length - (intOf i).toNat)
  case atStart => exact ⟨0, _, _, _, Nat.zero_le _, rfl, HM, HC, hide (fun j _ h => by omega), HA⟩
  case round =>
    obtain ⟨k, n, D, ns, hk, rfl, HMK, HR, HS, HB⟩ := hrel
    by_cases hlt : k < ts.length
    · obtain ⟨b, off, tq, tc, rfl, hck, hIs⟩ := unhide HR k hlt
      have HIS := hide hIs
      have HZK := hide (unhide HZ ts[k] (List.getElem_mem hlt))
      clear hIs
      cases htb : tbB ts[k]
      · have HF := hide (tabs_no hlt (by rw [htb]; rfl))
        go_wp2_with (go_at_call 155; refine (tableOK_impl _ _ ts[k] _ (unhide HZK) (unhide HIS)).mono ?_; rintro e w' ⟨rfl, hw⟩; replace hw := hw.symm; subst hw; rw [htb])
        go_ret
        exact ⟨ret_bool (unhide HF).symm, unhide HB⟩
      have HTK := hide htb
      obtain ⟨w4, hrun4, hm4, hk4⟩ := (unhide HMK).clear 0
      have HM4 := hide hm4
      have HR4 := hide ((unhide HR).keepMap (unhide HMK) hk4)
      have HIS4 := hide ((unhide HIS).keepMap (unhide HMK) hk4)
      have HB4 : Hid (Below w.heap.size w w4) := hide ((unhide HB).trans (hk4.below (unhide HB).size (fun g hg => Nat.le_of_eq hg.symm)))
      clear hm4 hk4
      go_wp2_with (first | (go_at_call 155; refine (tableOK_impl _ _ ts[k] _ (unhide HZK) (unhide HIS)).mono ?_; rintro e w' ⟨rfl, hw⟩; replace hw := hw.symm; subst hw; rw [htb]) | fail)
      clear hrun4 hck
      refine (addUses_any w.heap.size 0 _ zero24 tq tc ts[k] _ (unhide HM4) (by omega) (CtI.zero.mono (by omega)) (unhide HTK) (unhide HIS4)).mono ?_
      rintro e w5 ⟨rfl, ⟨D5, hm5⟩, hk5⟩
      have HM5 := hide hm5
      have HR5 := hide ((unhide HR4).keepMap (unhide HM4) hk5)
      have HB5 : Hid (Below w.heap.size w w5) := hide ((unhide HB4).trans (hk5.below (unhide HB4).size (fun g hg => Nat.le_of_eq hg.symm)))
      have HY := hide (once_yes (unhide HTK))
      have HN : Hid (∀ i : Nat, i < 24 → 1 < (cnt1T zero24 ts[k]).getD i 0 → onceB ts[k] = false) := hide (fun i => once_no (unhide HTK))
      clear hm5 hk5 HM4 HR4 HIS4 HB4
      generalize cnt1T zero24 ts[k] = cs at *
      have hown := (unhide HM5).1
      have HAT := hide (unhide HM5).2.2.1
      have HKY := hide (unhide HM5).2.2.2
      go_wp2_with (first | (at_range; refine wpList_range_own _ rfl _ 161 rfl 3 3 lawI Tryz.underlying161 _ w.heap.size _ _ rfl hown ?_; intro w6 hrg0 hg0 hs0) | go_in)
      go_frame
      have HB6 : Hid (Below w5.heap.size w5 w6) := hide ((Below.refl _ _).grown hg0 (Nat.le_refl _) (fun _ h => by cases h))
      have HST : Hid (∀ i : Nat, i < 24 → has D5 (.int .i64 (i : Int)) = false → cs.getD i 0 ≤ 1) := hide (fun i hi hh => by
        have h1 := unhide HAT i hi
        rw [atKey_of_not_has hh] at h1
        simp only [DataW.lit.injEq, Lit.int.injEq, true_and] at h1
        omega)
      clear hg0 hs0 hown
      generalize hRR : w5.heap.size = r at *
      have HRR := hide hRR
      clear hRR
      go_loopw [7] (fun _ wq => ∃ (left : Lit → Bool) (cnt : Nat), wq.ranges Tryz.prog 3 (plainElem Tryz.prog 3) w.heap.size r (0 + 12) D5 left cnt ∧ Hid (∀ i : Nat, i < 24 → left (.int .i64 (i : Int)) = false → cs.getD i 0 ≤ 1) ∧ Hid (∀ kl, left kl = true → has D5 kl = true) ∧ Hid (Below r w5 wq)) (fun _ wq => wq.rangeLeft w.heap.size r)
      case atStart => exact ⟨_, _, hrg0, HST, hide (fun _ h => h), HB6⟩
      case round =>
        obtain ⟨left, cnt, hrg, HLE, HLH, HBQ⟩ := hrel
        go_wp2_with (first | (at_next; refine wpList_next_ranges_ii _ rfl _ rfl 3 3 .i64 .i64 lawI Tryz.underlying3 Tryz.underlying3 w.heap.size r _ _ _ _ rfl hrg ?_ ?_) | go_in)
        · intro _ hl0
          have HON : Hid ((tbB ts[k] && onceB ts[k]) = true) := hide (by rw [unhide HTK, unhide HY (fun i hi => unhide HLE i hi (hl0 _))]; rfl)
          have HS' := hide (all_succ (p := fun t => tbB t && onceB t) hlt (unhide HS) (unhide HON))
          have HMQ : Hid (MpC wr w.heap.size (0 + 12) D5 cs) := hide ⟨hrg.owns, (unhide HM5).2⟩
          have HRQ := hide ((unhide HR5).below (by rw [unhide HRR]; exact unhide HBQ))
          have HBE := hide ((unhide HB5).trans ((unhide HBQ).mono (by rw [← unhide HRR]; exact (unhide HB5).size)))
          clear hrg hl0
          go_wp2
          go_roundw
          case rel => exact ⟨k + 1, _, D5, cs, by omega, by go_num, HMQ, HRQ, HS', HBE⟩
          case measure => simp [intOf]; omega
        · intro x c w7 cnt7 hwx hwc hlx hat hrg7 hlt7 hg7 hs7 hen
          have HB7 : Hid (Below r w5 w7) := hide ((unhide HBQ).grown hg7 (by rw [← unhide HRR]; exact (unhide HBQ).size) (fun j hj => by cases hj; exact Nat.le_refl _))
          obtain ⟨i, hi, ei⟩ := unhide HKY _ (unhide HLH _ hlx)
          simp only [Lit.int.injEq, true_and] at ei
          subst ei
          have hcs : cs.getD i 0 = c := by
            have h1 := unhide HAT i hi
            rw [hat] at h1
            simp only [DataW.lit.injEq, Lit.int.injEq, true_and] at h1
            exact h1.symm
          by_cases hc1 : 1 < c
          · have HF := hide (tabs_no hlt (by rw [unhide HTK, unhide HN i hi (by omega)]; rfl))
            have HBE := hide ((unhide HB5).trans ((unhide HB7).mono (by rw [← unhide HRR]; exact (unhide HB5).size)))
            clear hrg hrg7 hat
            go_wp2
            go_ret
            exact ⟨ret_bool (unhide HF).symm, unhide HBE⟩
          · have HLE' : Hid (∀ i' : Nat, i' < 24 → (left (.int .i64 (i' : Int)) && !(Lit.int .i64 (i' : Int)).sameKey (.int .i64 (i : Int))) = false → cs.getD i' 0 ≤ 1) := hide (fun i' hi' h => by
              by_cases e : i' = i
              · subst e; omega
              · have hk2 : (Lit.int .i64 (i' : Int)).sameKey (.int .i64 (i : Int)) = false := sameKey_ne (by intro h2; simp only [Lit.int.injEq, true_and] at h2; omega)
                rw [hk2] at h
                exact unhide HLE i' hi' (by simpa using h))
            have HLH' : Hid (∀ kl : Lit, (left kl && !kl.sameKey (.int .i64 (i : Int))) = true → has D5 kl = true) := hide (fun kl h => unhide HLH kl (by simp only [Bool.and_eq_true] at h; exact h.1))
            clear hcs hat
            go_wp2
            go_roundw
            case rel => exact ⟨_, cnt7, hrg7, HLE', HLH', HB7⟩
            case measure => rw [hrg7.left_eq, hrg.left_eq]; exact hlt7
    · have HF := hide (tabs_yes (fun j hj => unhide HS j hj (by omega)))
      go_wp2
      go_ret
      exact ⟨ret_bool (unhide HF).symm, unhide HB⟩

end Go.Proofs.YtbmkdbccdnbbjaaGreatDoor

namespace Go.Proofs.YtbmkdbccdnbbjaaGreatDoor
open Go.RowKit
set_option linter.unusedVariables false
set_option maxRecDepth 100000

def imFit (m : Img) : Img := { m with refs := imCnt m, data := (List.range 24).map fun i => if (imCnt m).getD i 0 = 0 then 0 else m.data.getD i 0 }
theorem getD_ext {xs ys : List Int} (h1 : xs.length = 24) (h2 : ys.length = 24) (h : ∀ i, i < 24 → xs.getD i 0 = ys.getD i 0) : xs = ys :=
  List.ext_getElem (by rw [h1, h2]) (fun i ha hb => by
    have := h i (by omega)
    simpa [List.getD, ha, hb] using this)
theorem range_getD {f : Nat → Int} {i : Nat} (hi : i < 24) : ((List.range 24).map f).getD i 0 = f i := by simp [List.getD, hi]
end Go.Proofs.YtbmkdbccdnbbjaaGreatDoor

namespace Go.Proofs.YtbmkdbccdnbbjaaGreatDoor
open Go.RowKit
set_option linter.unusedVariables false
set_option maxRecDepth 100000

def cN (t : List Int) (i : Nat) : Int := (t.count ((i : Int) + 2) : Int)
theorem cN_nn (t : List Int) (i : Nat) : 0 ≤ cN t i := by unfold cN; omega
theorem clA_count (t : List Int) (i : Nat) : ((clA t).count (i : Int) : Int) = cN t i := by
  unfold clA clTo cN
  rw [List.take_length]
  induction t with
  | nil => rfl
  | cons e t ih =>
    rw [List.filterMap_cons, List.count_cons]
    by_cases h : 2 ≤ e
    · rw [if_pos h]
      simp only [List.count_cons]
      by_cases h2 : e = (i : Int) + 2
      · have h3 : e - 2 = (i : Int) := by omega
        simp [h2]; omega
      · have h3 : ¬ (e - 2 = (i : Int)) := by omega
        simp [h2, h3]; omega
    · rw [if_neg h]
      have h2 : ¬ (e = (i : Int) + 2) := by omega
      simp [h2]; omega
def sN (ts : List (List Int)) (i : Nat) : Int := (ts.map fun t => cN t i).sum
theorem sN_nn (ts : List (List Int)) (i : Nat) : 0 ≤ sN ts i := by
  unfold sN
  induction ts with
  | nil => exact Int.le_refl _
  | cons t ts ih => rw [List.map_cons, List.sum_cons]; have := cN_nn t i; omega
theorem fold_cnt (i : Nat) (hi : i < 24) : ∀ (ts : List (List Int)), (∀ t ∈ ts, tbB t = true) → ∀ ns : List Int, ns.length = 24 → (ts.foldl cnt1T ns).getD i 0 = ns.getD i 0 + sN ts i := by
  intro ts
  induction ts with
  | nil => intro _ ns _; simp [sN]
  | cons t ts ih =>
    intro ht ns hl
    rw [List.foldl_cons, ih (fun x hx => ht x (by simp [hx])) _ (by rw [cnt1T_len]; exact hl), cnt1T_get (ht t (by simp)) hl hi, clA_count]
    simp only [sN, List.map_cons, List.sum_cons]
    omega
theorem cnt_get {m : Img} (ht : ∀ t ∈ imTabs m, tbB t = true) {i : Nat} (hi : i < 24) : (imCnt m).getD i 0 = sN (imTabs m) i := by
  unfold imCnt
  rw [fold_cnt i hi _ ht _ rfl, zero24_get hi]; omega
theorem ImR.tabs {m : Img} (h : ImR m) : ∀ t ∈ imTabs m, tbB t = true := fun t ht => by
  unfold imTabs at ht
  rw [List.mem_cons, List.mem_map] at ht
  rcases ht with rfl | ⟨s, hs, rfl⟩
  · exact h.table
  · exact (h.snaps s hs).2
theorem ImR.cntA {m : Img} (h : ImR m) {i : Nat} (hi : i < 24) : m.refs.getD i 0 = sN (imTabs m) i := by rw [← h.cnt]; exact cnt_get h.tabs hi
theorem ImR.rl {m : Img} (h : ImR m) : m.refs.length = 24 := ctB_len h.refs
theorem sN_cons (t : List Int) (ts : List (List Int)) (i : Nat) : sN (t :: ts) i = cN t i + sN ts i := rfl
theorem sN_tabs (m : Img) (i : Nat) : sN (imTabs m) i = cN m.table i + sN (m.snaps.map (·.table)) i := rfl
theorem img_eq {m n : Img} (h1 : m.refs = n.refs) (h2 : m.table = n.table) (h3 : m.snaps = n.snaps) (h4 : m.data = n.data) : m = n := by
  cases m; cases n; simp only at h1 h2 h3 h4; subst h1 h2 h3 h4; rfl
theorem fit_eq {m1 n : Img} (ht : ∀ t ∈ imTabs m1, tbB t = true) (hr : n.refs.length = 24) (hd : n.data.length = 24) (h2 : m1.table = n.table) (h3 : m1.snaps = n.snaps) (hR : ∀ i, i < 24 → n.refs.getD i 0 = sN (imTabs m1) i) (hD : ∀ i, i < 24 → n.data.getD i 0 = if sN (imTabs m1) i = 0 then 0 else m1.data.getD i 0) : imFit m1 = n := by
  refine img_eq ?_ h2 h3 ?_
  · exact getD_ext (imCnt_len m1) hr (fun i hi => by rw [hR i hi]; exact cnt_get ht hi)
  · refine getD_ext (by simp [imFit]) hd (fun i hi => ?_)
    rw [hD i hi]
    unfold imFit
    simp only
    rw [range_getD hi, cnt_get ht hi]
theorem drop_get {m : Img} (hr : m.refs.length = 24) (hd : m.data.length = 24) (e : Int) {i : Nat} (hi : i < 24) : (imDrop m e).refs.getD i 0 = m.refs.getD i 0 - (if e = (i : Int) + 2 then 1 else 0) ∧ (imDrop m e).data.getD i 0 = if e = (i : Int) + 2 ∧ m.refs.getD i 0 = 1 then 0 else m.data.getD i 0 := by
  by_cases h : e < 2
  · have e1 : imDrop m e = m := if_pos h
    rw [e1, if_neg (by omega), if_neg (by omega)]
    exact ⟨by omega, rfl⟩
  · unfold imDrop
    rw [if_neg h]
    simp only
    by_cases h2 : e = (i : Int) + 2
    · have h3 : (e - 2).toNat = i := by omega
      rw [h3]
      constructor
      · simp [List.getD, hr, hi, h2]
      · by_cases h4 : m.refs.getD i 0 = 1
        · rw [if_pos (by omega), if_pos ⟨h2, h4⟩]
          simp [List.getD, hd, hi]
        · rw [if_neg (by omega), if_neg (fun h => h4 h.2)]
    · have h3 : (e - 2).toNat ≠ i := by omega
      constructor
      · simp [List.getD, h3, h2]
      · have hR : (if e = (i : Int) + 2 ∧ m.refs.getD i 0 = 1 then 0 else m.data.getD i 0) = m.data.getD i 0 := if_neg (fun h => h2 h.1)
        rw [hR]
        split
        · simp [List.getD, h3]
        · rfl
theorem drops_lens (m : Img) : ∀ es : List Int, (imDrops m es).refs.length = m.refs.length ∧ (imDrops m es).data.length = m.data.length ∧ (imDrops m es).table = m.table ∧ (imDrops m es).snaps = m.snaps := by
  intro es
  unfold imDrops
  induction es generalizing m with
  | nil => exact ⟨rfl, rfl, rfl, rfl⟩
  | cons e es ih =>
    obtain ⟨h1, h2, h3, h4⟩ := ih (imDrop m e)
    rw [List.foldl_cons]
    exact ⟨h1.trans (imDrop_refs m e), h2.trans (imDrop_data m e), h3.trans (imDrop_table m e).1, h4.trans (imDrop_table m e).2⟩
theorem drops_get {i : Nat} (hi : i < 24) : ∀ (es : List Int) (m : Img), m.refs.length = 24 → m.data.length = 24 → (imDrops m es).refs.getD i 0 = m.refs.getD i 0 - cN es i ∧ (imDrops m es).data.getD i 0 = if 1 ≤ m.refs.getD i 0 ∧ m.refs.getD i 0 ≤ cN es i then 0 else m.data.getD i 0 := by
  intro es
  induction es with
  | nil =>
    intro m _ _
    refine ⟨by simp [imDrops, cN], ?_⟩
    rw [if_neg (by simp only [cN, List.count_nil]; omega)]; rfl
  | cons e es ih =>
    intro m hr hd
    obtain ⟨h1, h2⟩ := drop_get hr hd e hi
    obtain ⟨h3, h4⟩ := ih (imDrop m e) (by rw [imDrop_refs]; exact hr) (by rw [imDrop_data]; exact hd)
    have hf : imDrops m (e :: es) = imDrops (imDrop m e) es := rfl
    have hc : cN (e :: es) i = cN es i + (if e = (i : Int) + 2 then 1 else 0) := by
      unfold cN
      rw [List.count_cons]
      by_cases h : e = (i : Int) + 2
      · simp [h]
      · simp [h]
    have hn := cN_nn es i
    rw [hf, h3, h4, h1, h2, hc]
    by_cases h : e = (i : Int) + 2
    · simp only [h, if_true, true_and]
      refine ⟨by omega, ?_⟩
      by_cases hx : 1 ≤ m.refs.getD i 0 ∧ m.refs.getD i 0 ≤ cN es i + 1
      · rw [if_pos hx]
        split
        · rfl
        · rw [if_pos (by omega)]
      · rw [if_neg hx, if_neg (by omega), if_neg (by omega)]
    · simp only [h, if_false, false_and]
      exact ⟨by omega, by simp⟩
theorem cN_set {t : List Int} {g : Nat} (hg : g < t.length) (e : Int) (i : Nat) : cN (t.set g e) i = cN t i - (if t[g] = (i : Int) + 2 then 1 else 0) + (if e = (i : Int) + 2 then 1 else 0) := by
  unfold cN
  rw [List.count_set hg]
  have hp : t[g] = (i : Int) + 2 → 0 < t.count ((i : Int) + 2) := fun h => List.count_pos_iff.2 (h ▸ List.getElem_mem hg)
  by_cases h : t[g] = (i : Int) + 2
  · have := hp h
    by_cases h2 : e = (i : Int) + 2
    · simp [h, h2]; omega
    · simp [h, h2]; omega
  · by_cases h2 : e = (i : Int) + 2
    · simp [h, h2]
    · simp [h, h2]
theorem cN_pos {t : List Int} {g i : Nat} (hg : g < t.length) (h : t[g] = (i : Int) + 2) : 1 ≤ cN t i := by
  unfold cN
  have : 0 < t.count ((i : Int) + 2) := List.count_pos_iff.2 (h ▸ List.getElem_mem hg)
  omega
theorem tbB_set {t : List Int} (h : tbB t = true) (g : Nat) {e : Int} (h0 : 0 ≤ e) (h1 : e ≤ 25) : tbB (t.set g e) = true := by
  refine tbB_of (by rw [List.length_set]; exact tbB_len h) (fun i hi => ?_)
  rw [List.getElem_set]
  split
  · exact betw_iff.2 ⟨h0, h1⟩
  · exact betw_iff.2 (tbB_at h i (by simpa using hi))
theorem tabs_with {m : Img} (h : ImR m) {t : List Int} (ht : tbB t = true) (d : List Int) : ∀ x ∈ imTabs { m with table := t, data := d }, tbB x = true := fun x hx => by
  have hx' : x ∈ t :: m.snaps.map (·.table) := hx
  rw [List.mem_cons] at hx'
  rcases hx' with rfl | hx'
  · exact ht
  · exact h.tabs x (by unfold imTabs; exact List.mem_cons_of_mem _ hx')
theorem fit_zero {m : Img} (h : ImR m) {g : Nat} (hg : g < m.table.length) : imFit { m with table := m.table.set g 1 } = imZero m g := by
  have ht := tbB_set h.table g (e := 1) (by omega) (by omega)
  have hgd : m.table.getD g 0 = m.table[g] := by simp [List.getD, hg]
  have hcs : ∀ i, sN (imTabs { m with table := m.table.set g 1 }) i = sN (imTabs m) i - (if m.table[g] = (i : Int) + 2 then 1 else 0) := fun i => by
    have e : sN (imTabs { m with table := m.table.set g 1 }) i = cN (m.table.set g 1) i + sN (m.snaps.map (·.table)) i := rfl
    rw [e, cN_set hg, sN_tabs, if_neg (show ¬ (1 : Int) = (i : Int) + 2 by omega)]
    omega
  refine fit_eq (tabs_with h ht m.data) ?_ ?_ ?_ ?_ (fun i hi => ?_) (fun i hi => ?_)
  · show (imDrop m _).refs.length = 24; rw [imDrop_refs]; exact h.rl
  · show (imDrop m _).data.length = 24; rw [imDrop_data]; exact h.len
  · show m.table.set g 1 = (imDrop m _).table.set g 1; rw [(imDrop_table m _).1]
  · show m.snaps = (imDrop m _).snaps; rw [(imDrop_table m _).2]
  · show (imDrop m _).refs.getD i 0 = _
    rw [(drop_get h.rl h.len _ hi).1, hcs, h.cntA hi, hgd]
  · show (imDrop m _).data.getD i 0 = _
    rw [(drop_get h.rl h.len _ hi).2, hcs, ← h.cntA hi, hgd]
    by_cases h1 : m.table[g] = (i : Int) + 2
    · simp only [h1, true_and, if_true]
      by_cases h2 : m.refs.getD i 0 = 1
      · rw [if_pos h2, if_pos (by omega)]
      · rw [if_neg h2, if_neg (by omega)]
    · simp only [h1, false_and, if_false]
      by_cases h2 : m.refs.getD i 0 = 0
      · rw [if_pos (by omega), h.clear i hi h2]
      · rw [if_neg (by omega)]

theorem fit_in {m : Img} (h : ImR m) {g c : Nat} (v : Int) (hg : g < m.table.length) (hc : m.table[g] = (c : Int) + 2) (h1 : m.refs.getD c 0 = 1) : imFit { m with table := m.table.set g (2 + (c : Int)), data := m.data.set c v } = { m with data := m.data.set c v } := by
  have hset : m.table.set g (2 + (c : Int)) = m.table := by
    rw [show (2 : Int) + (c : Int) = m.table[g] by omega]
    exact List.set_getElem_self hg
  have hb := tbB_at h.table g hg
  rw [hset]
  refine fit_eq (n := { m with data := m.data.set c v }) (tabs_with h h.table _) h.rl (by simp [h.len]) rfl rfl (fun i hi => h.cntA hi) (fun i hi => ?_)
  have e : sN (imTabs { m with data := m.data.set c v }) i = sN (imTabs m) i := rfl
  rw [e, ← h.cntA hi]
  by_cases hz : m.refs.getD i 0 = 0
  · rw [if_pos hz]
    have hne : c ≠ i := fun e => by rw [e, hz] at h1; cases h1
    have e2 : (m.data.set c v).getD i 0 = m.data.getD i 0 := by simp [List.getD, hne]
    exact e2.trans (h.clear i hi hz)
  · rw [if_neg hz]
theorem free_spec {xs : List Int} (h : frN xs < xs.length) : xs.getD (frN xs) 0 = 0 := by
  unfold frN at h ⊢
  have := List.findIdx_getElem (w := h)
  simpa [List.getD, h] using this
theorem fit_out {m : Img} (h : ImR m) {g c : Nat} (v : Int) (hg : g < m.table.length) (hc : c < 24) (h0 : m.refs.getD c 0 = 0) : imFit { m with table := m.table.set g (2 + (c : Int)), data := m.data.set c v } = { imDrop m m.table[g] with refs := (imDrop m m.table[g]).refs.set c 1, data := (imDrop m m.table[g]).data.set c v, table := (imDrop m m.table[g]).table.set g (2 + (c : Int)) } := by
  have ht := tbB_set h.table g (e := 2 + (c : Int)) (by omega) (by omega)
  have hcs : ∀ i, sN (imTabs { m with table := m.table.set g (2 + (c : Int)), data := m.data.set c v }) i = sN (imTabs m) i - (if m.table[g] = (i : Int) + 2 then 1 else 0) + (if c = i then 1 else 0) := fun i => by
    have e : sN (imTabs { m with table := m.table.set g (2 + (c : Int)), data := m.data.set c v }) i = cN (m.table.set g (2 + (c : Int))) i + sN (m.snaps.map (·.table)) i := rfl
    rw [e, cN_set hg, sN_tabs]
    by_cases hci : c = i
    · rw [if_pos hci, if_pos (show (2 : Int) + (c : Int) = (i : Int) + 2 by omega)]; omega
    · rw [if_neg hci, if_neg (show ¬ (2 : Int) + (c : Int) = (i : Int) + 2 by omega)]; omega
  have hne : ¬ m.table[g] = (c : Int) + 2 := fun e => by
    have h1 := cN_pos hg e
    have h2 := h.cntA hc
    have h3 := sN_nn (m.snaps.map (·.table)) c
    rw [sN_tabs] at h2
    omega
  refine fit_eq (tabs_with h ht _) ?_ ?_ ?_ ?_ (fun i hi => ?_) (fun i hi => ?_)
  · show ((imDrop m _).refs.set c 1).length = 24; rw [List.length_set, imDrop_refs]; exact h.rl
  · show ((imDrop m _).data.set c v).length = 24; rw [List.length_set, imDrop_data]; exact h.len
  · show m.table.set g _ = (imDrop m _).table.set g _; rw [(imDrop_table m _).1]
  · show m.snaps = (imDrop m _).snaps; rw [(imDrop_table m _).2]
  · show ((imDrop m m.table[g]).refs.set c 1).getD i 0 = _
    rw [hcs]
    by_cases hci : c = i
    · subst hci
      rw [if_pos rfl, if_neg hne, ← h.cntA hc, h0]
      simp [List.getD, imDrop_refs, h.rl, hc]
    · have e : ((imDrop m m.table[g]).refs.set c 1).getD i 0 = (imDrop m m.table[g]).refs.getD i 0 := by simp [List.getD, hci]
      rw [e, (drop_get h.rl h.len _ hi).1, h.cntA hi, if_neg hci]; omega
  · show ((imDrop m m.table[g]).data.set c v).getD i 0 = if _ then 0 else (m.data.set c v).getD i 0
    rw [hcs]
    by_cases hci : c = i
    · subst hci
      rw [if_neg (show ¬ (sN (imTabs m) c - (if m.table[g] = (c : Int) + 2 then 1 else 0) + (if c = c then 1 else 0) = 0) by rw [if_pos rfl, if_neg hne, ← h.cntA hc, h0]; omega)]
      simp [List.getD, imDrop_data, h.len, hc]
    · have e : ((imDrop m m.table[g]).data.set c v).getD i 0 = (imDrop m m.table[g]).data.getD i 0 := by simp [List.getD, hci]
      have e2 : (m.data.set c v).getD i 0 = m.data.getD i 0 := by simp [List.getD, hci]
      rw [e, e2, (drop_get h.rl h.len _ hi).2, ← h.cntA hi, if_neg hci]
      by_cases h1 : m.table[g] = (i : Int) + 2
      · simp only [h1, true_and, if_true]
        by_cases h2 : m.refs.getD i 0 = 1
        · rw [if_pos h2, if_pos (by omega)]
        · rw [if_neg h2, if_neg (by omega)]
      · simp only [h1, false_and, if_false]
        by_cases h2 : m.refs.getD i 0 = 0
        · rw [if_pos (by omega), h.clear i hi h2]
        · rw [if_neg (by omega)]
theorem cN_append (s t : List Int) (i : Nat) : cN (s ++ t) i = cN s i + cN t i := by unfold cN; rw [List.count_append]; omega
theorem cN_rz (t : List Int) (i : Nat) : ∀ n, cN (rzTo t n) i = cN (t.take n) i := by
  intro n
  induction n with
  | zero => simp [rzTo]
  | succ n ih =>
    rw [rzTo_succ, cN_append, ih]
    by_cases hn : n < t.length
    · rw [List.take_succ_eq_append_getElem hn, cN_append]
      have : t.getD n 0 = t[n] := by simp [List.getD, hn]
      rw [this]
    · have h1 : t.getD n 0 = 0 := by simp [List.getD, hn]
      have h2 : t.take (n + 1) = t.take n := by rw [List.take_of_length_le (by omega), List.take_of_length_le (by omega)]
      rw [h1, h2]
      have : cN [0] i = 0 := by
        unfold cN
        rw [List.count_cons]
        simp; omega
      omega
theorem tbB_rz {t : List Int} (h : tbB t = true) {n : Nat} (hn : n ≤ 12) : tbB (rzTo t n) = true := by
  refine tbB_of (by rw [rzTo_len]; exact hn) (fun i hi => ?_)
  rw [rzTo_len] at hi
  have e : (rzTo t n)[i]'(by rw [rzTo_len]; exact hi) = t.getD i 0 := by simp [rzTo]
  rw [e]
  by_cases hit : i < t.length
  · have := tbB_at h i hit
    rw [show t.getD i 0 = t[i] by simp [List.getD, hit]]
    exact betw_iff.2 this
  · rw [show t.getD i 0 = 0 by simp [List.getD, hit]]
    exact betw_iff.2 ⟨by omega, by omega⟩
theorem drops_fit {m : Img} (h : ImR m) (es : List Int) {i : Nat} (hi : i < 24) (hle : cN es i ≤ m.refs.getD i 0) : (imDrops m es).data.getD i 0 = if m.refs.getD i 0 - cN es i = 0 then 0 else m.data.getD i 0 := by
  rw [(drops_get hi es m h.rl h.len).2]
  have hn := cN_nn es i
  by_cases h1 : m.refs.getD i 0 - cN es i = 0
  · rw [if_pos h1]
    by_cases h2 : 1 ≤ m.refs.getD i 0
    · rw [if_pos ⟨h2, by omega⟩]
    · rw [if_neg (fun h => h2 h.1), h.clear i hi (by omega)]
  · rw [if_neg h1, if_neg (by omega)]
theorem fit_resize {m : Img} (h : ImR m) {n : Nat} (hn : n ≤ 12) : imFit { m with table := rzTo m.table n } = imResize m n := by
  have hcs : ∀ i, sN (imTabs { m with table := rzTo m.table n }) i = sN (imTabs m) i - cN (m.table.drop n) i := fun i => by
    have e : sN (imTabs { m with table := rzTo m.table n }) i = cN (rzTo m.table n) i + sN (m.snaps.map (·.table)) i := rfl
    have e2 : cN m.table i = cN (m.table.take n) i + cN (m.table.drop n) i := by rw [← cN_append, List.take_append_drop]
    rw [e, cN_rz, sN_tabs, e2]; omega
  obtain ⟨l1, l2, l3, l4⟩ := drops_lens m (m.table.drop n)
  have hle : ∀ i, i < 24 → cN (m.table.drop n) i ≤ m.refs.getD i 0 := fun i hi => by
    have e2 : cN m.table i = cN (m.table.take n) i + cN (m.table.drop n) i := by rw [← cN_append, List.take_append_drop]
    have := cN_nn (m.table.take n) i
    have := sN_nn (m.snaps.map (·.table)) i
    rw [h.cntA hi, sN_tabs]; omega
  refine fit_eq (tabs_with h (tbB_rz h.table hn) m.data) (l1.trans h.rl) (l2.trans h.len) rfl l4.symm (fun i hi => ?_) (fun i hi => ?_)
  · show (imDrops m _).refs.getD i 0 = _
    rw [(drops_get hi _ m h.rl h.len).1, hcs, h.cntA hi]
  · show (imDrops m _).data.getD i 0 = _
    rw [drops_fit h _ hi (hle i hi), hcs, h.cntA hi]

end Go.Proofs.YtbmkdbccdnbbjaaGreatDoor
