import Derived.Test.YtpdpnepnfhbonaaGreatDoorRows
import Derived.Test.YtpdpnepnfhbonaaGreatDoorXReadImagePart1
import Derived.Test.YtpdpnepnfhbonaaGreatDoorXReadImagePart2
import Derived.WalkKit
import Derived.WalkSpells
import Derived.KernelRfl
import Derived.LoopN
import Derived.Deep.RegionWith
import Derived.Test.YtpdpnepnfhbonaaGreatDoorXReadImagePart3
import Derived.Test.YtpdpnepnfhbonaaGreatDoorXReadImagePart5
import Derived.Test.YtpdpnepnfhbonaaGreatDoorXReadImagePart4
import Derived.BigQuiet
import Derived.Deep.QuietTactic
import Derived.Lib.SmallJoins
import Derived.ProofKit
import Derived.OpenShut
import Derived.ShutString
import Derived.SliceStrings
import Derived.OwnWalk
import Derived.Deep.RegionLawGrows
import Derived.Deep.RegionHeld3
import Derived.Deep.CutRange

namespace Go.Proofs.YtpdpnepnfhbonaaGreatDoor
open Go.RowKit
set_option linter.unusedVariables false
set_option maxRecDepth 100000

set_option maxHeartbeats 800000 in
theorem tableOK_impl (ao : Option Addr) (cap : Nat) (xs : List Int) (w : World) (hl : xs.length ≤ maxLen) (hc : Is w ao xs) :
    Calls Tryz.prog 72 #[.slice ao xs.length cap] w fun e w' => e = .returned (.bool (tbB xs)) ∧ w' = w := by
  have HC := hide hc
  clear hc
  unfold maxLen at hl
  by_cases hlong : 12 < xs.length
  · have HF := hide (tbB_nolen (xs := xs) (by omega))
    go_enter Tryz.func72, Tryz.ntmps72
    go_wp2
    go_ret
    exact ⟨ret_bool (unhide HF).symm, rfl⟩
  go_enter Tryz.func72, Tryz.ntmps72
  go_wp2
  go_loop [10] (fun i => ∃ k : Nat, k ≤ xs.length ∧ i = .int .i64 k ∧ Hid (∀ j (h : j < xs.length), j < k → ent1 xs[j] = true)) (fun i => xs.length - (intOf i).toNat)
  case atStart => exact ⟨0, Nat.zero_le _, rfl, hide (fun j _ h => by omega)⟩
  case round =>
    obtain ⟨k, hk, rfl, HA⟩ := hrel
    by_cases hlt : k < xs.length
    · obtain ⟨b, off, rfl, hc⟩ := unhide HC k hlt
      by_cases hn : ent1 xs[k] = true
      · have HN := hide (all_succ hlt (unhide HA) hn)
        have hn' : betw xs[k] 0 25 = true := hn
        clear hn
        go_wp2_with (go_at_call 86; refine (within_any _ _ _ _).mono ?_; rintro e w' ⟨rfl, rfl⟩)
        go_round
        case rel => exact ⟨k + 1, by omega, by go_num, HN⟩
        case measure => simp [intOf]; omega
      · have hn0 : ent1 xs[k] = false := by simpa using hn
        have hn' : betw xs[k] 0 25 = false := hn0
        have HF := hide (tbB_noat hlt hn0)
        clear hn hn0
        go_wp2_with (go_at_call 86; refine (within_any _ _ _ _).mono ?_; rintro e w' ⟨rfl, rfl⟩)
        go_ret
        exact ⟨ret_bool (unhide HF).symm, rfl⟩
    · have HF := hide (tbB_of (xs := xs) (by omega) (fun j h => unhide HA j h (by omega)))
      go_wp2
      go_ret
      exact ⟨ret_bool (unhide HF).symm, rfl⟩

theorem splitEntry_any (n : Int) (w : World) (h0 : -1000 ≤ n) (h1 : n ≤ 1000) :
    Calls Tryz.prog 105 #[.int .i64 n] w fun e w' => e = .returned (.tuple #[.int .i64 (min n 2), .int .i64 (max 0 (n - 2))]) ∧ w' = w := by
  by_cases h : n < 2
  · have HM : Hid (n = min n 2 ∧ (0 : Int) = max 0 (n - 2)) := hide ⟨by omega, by omega⟩
    go_enter Tryz.func105, Tryz.ntmps105
    go_wp2
    go_ret2
    exact ⟨ret_two2 (unhide HM).1 (unhide HM).2, rfl⟩
  · have HM : Hid ((2 : Int) = min n 2 ∧ n - 2 = max 0 (n - 2)) := hide ⟨by omega, by omega⟩
    have hw2 : IntKind.i64.wrap (n - 2) = n - 2 := by rw [IntKind.wrap_i64]; omega
    go_enter Tryz.func105, Tryz.ntmps105
    go_wp2
    go_ret2
    exact ⟨ret_two2 (unhide HM).1 (unhide HM).2, rfl⟩

end Go.Proofs.YtpdpnepnfhbonaaGreatDoor

namespace Go.Proofs.YtpdpnepnfhbonaaGreatDoor
open Go.RowKit
set_option linter.unusedVariables false
set_option maxRecDepth 100000

theorem clusterOfData_any (k c : Int) (w : World) :
    Calls Tryz.prog 104 #[.int .i64 k, .int .i64 c] w fun e w' => e = .returned (.tuple #[.int .i64 c, .bool (k == 2)]) ∧ w' = w := by
  go_enter Tryz.func104, Tryz.ntmps104
  go_wp2
  go_ret2
  exact ⟨rfl, rfl⟩

set_option maxHeartbeats 1600000 in
theorem takeEntries_any (ao : Option Addr) (cap : Nat) (xs : List Int) (w : World) (hl : xs.length ≤ 1048576) (hi : ∀ j (h : j < xs.length), -1000 ≤ xs[j] ∧ xs[j] ≤ 1000) (hc : Is w ao xs) :
    Calls Tryz.prog 103 #[.slice ao xs.length cap, .func (.func 104) #[] #[]] w fun e w' => ∃ v, e = .returned v ∧ OwnN w' w.heap.size v (clA xs) ∧ Below w.heap.size w w' := by
  obtain ⟨j0, hj, hy0, hy1, hy2⟩ := info_parts infoM
  have HC := hide hc
  have HI := hide hi
  clear hc hi
  go_enter Tryz.func103, Tryz.ntmps103
  go_wp2
  go_loopw [5, 12] (fun o i wr => ∃ (k : Nat) (ys : List Int) (qo : Option Addr) (qa : Nat), k ≤ xs.length ∧ i = .int .i64 k ∧ o = .slice qo ys.length qa ∧ Hid (ys = clTo xs k) ∧ Hid (OwnR wr w.heap.size 3 1 (.slice qo ys.length qa) ys.length (intV ys)) ∧ Hid (Below w.heap.size w wr)) (fun _ i _ => xs.length - (intOf i).toNat)
  case atStart => exact ⟨0, [], _, _, Nat.zero_le _, rfl, rfl, hide rfl, hide (.inl ⟨rfl, rfl, _, rfl⟩), hide (Below.refl _ _)⟩
  case round =>
    obtain ⟨k, ys, qo, qa, hk, rfl, rfl, HE, HO, HB⟩ := hrel
    by_cases hlt : k < xs.length
    · obtain ⟨b, off, rfl, hcl⟩ := (unhide HC).below (unhide HB) k hlt
      have HIK := hide (unhide HI k hlt)
      by_cases h2 : 2 ≤ xs[k]
      · have HS := hide (clTo_data hlt h2)
        have HYL : Hid (ys.length ≤ 1048576) := hide (by rw [unhide HE]; have := clTo_len xs k; omega)
        have hyl := unhide HYL
        have HV : Hid (min xs[k] 2 = 2 ∧ max 0 (xs[k] - 2) = xs[k] - 2) := hide ⟨by omega, by omega⟩
        have HOA := hide ((unhide HO).below (Joins.below_alloc1 _ (.cells #[.int .i64 (xs[k] - 2)] 3)))
        have HBA := hide (fr (unhide HB) (Joins.below_alloc1 _ (.cells #[.int .i64 (xs[k] - 2)] 3)))
        have HSZ := hide (unhide HB).size
        clear h2
        go_wp2_with (first | (go_at_call 105; refine (splitEntry_any _ _ (by have := unhide HIK; omega) (by have := unhide HIK; omega)).mono ?_; rintro e w' ⟨rfl, hw⟩; replace hw := hw.symm; subst hw; rw [(unhide HV).1, (unhide HV).2]) | (go_at_call 104; refine (clusterOfData_any _ _ _).mono ?_; rintro e w' ⟨rfl, hw⟩; replace hw := hw.symm; subst hw) | (at_builtin; refine wpList_append_one rfl _ _ 27 rfl w.heap.size 3 j0 (.int .i64 0) 1 8 Tryz.underlying27 hj hy0 hy1 hy2 rfl (by omega) qo ys.length qa (intV ys) rfl (unhide HOA) (by have := unhide HSZ; simp; omega) ⟨wr.heap.size, 0, none⟩ _ [.int .i64 (xs[k] - 2)] rfl rfl (byte_news wr _ _) (int_one _) (by unfold maxLen; omega) (by omega) ?_; intro g2 cap2 wA hoA hkA; have HSF := hide (And.intro hoA (keep_below (unhide HBA) (unhide HOA) (Nat.le_refl _) hkA)); clear hoA hkA))
        go_roundw
        case rel => exact ⟨k + 1, ys ++ [xs[k] - 2], some ⟨g2, 0, none⟩, cap2, by omega, by go_num, by simp, hide (by rw [unhide HS, unhide HE]), hide (by rw [List.length_append, intV_snoc]; exact .inr ⟨by simp, (unhide HSF).1⟩), hide (unhide HSF).2⟩
        case measure => simp [intOf]; omega
      · have HS := hide (clTo_none hlt h2)
        have HV : Hid (min xs[k] 2 = xs[k] ∧ max 0 (xs[k] - 2) = 0) := hide ⟨by omega, by omega⟩
        have hb2 : (xs[k] == 2) = false := beq_eq_false_iff_ne.2 (by omega)
        clear h2
        go_wp2_with (first | (go_at_call 105; refine (splitEntry_any _ _ (by have := unhide HIK; omega) (by have := unhide HIK; omega)).mono ?_; rintro e w' ⟨rfl, hw⟩; replace hw := hw.symm; subst hw; rw [(unhide HV).1, (unhide HV).2]) | (go_at_call 104; refine (clusterOfData_any _ _ _).mono ?_; rintro e w' ⟨rfl, hw⟩; replace hw := hw.symm; subst hw; rw [hb2]))
        go_roundw
        case rel => exact ⟨k + 1, ys, qo, qa, by omega, by go_num, rfl, hide (by rw [unhide HS, unhide HE]), HO, HB⟩
        case measure => simp [intOf]; omega
    · have HS : Hid (clA xs = ys) := hide (by rw [unhide HE, clA, show k = xs.length by omega])
      go_wp2
      go_ret
      exact ⟨.slice qo ys.length qa, rfl, by rw [unhide HS]; exact ⟨qo, qa, rfl, unhide HO⟩, unhide HB⟩

end Go.Proofs.YtpdpnepnfhbonaaGreatDoor

namespace Go.Proofs.YtpdpnepnfhbonaaGreatDoor
open Go.RowKit Go.Maps
set_option linter.unusedVariables false
set_option maxRecDepth 100000

def VarN (w : World) (x : Nat) (n : ByteArray) (v : Value) : Prop := w.heap[x]? = some (.cells #[.string n, v] 72 (0, 0))
theorem VarN.cells {w : World} {x : Nat} {n : ByteArray} {v : Value} (k : VarN w x n v) : w.cell? ⟨x, 0, none⟩ = some (.string n) ∧ w.cell? ⟨x, 1, none⟩ = some v := ⟨by rw [Joins.cell_of_block k]; rfl, by rw [Joins.cell_of_block k]; rfl⟩
theorem VarN.new (w : World) (n : ByteArray) (v : Value) : VarN (w.alloc (.cells #[.string n, v] 72)) w.heap.size n v := heap_alloc_new w _

set_option maxHeartbeats 1600000 in
theorem addUses_any (B n : Nat) (D : DataW Unit) (ns : List Int) (ao : Option Addr) (cap : Nat) (xs : List Int) (w : World) (hB : MpC w B n D ns) (hn : n ≤ 100000) (hns : CtI ns 1000) (hx : tbB xs = true) (hc : Is w ao xs) :
    Calls Tryz.prog 98 #[.map (some B), .slice ao xs.length cap] w fun e w' => e = .returned (.tuple #[]) ∧ (∃ D', MpC w' B (n + 12) D' (cnt1T ns xs)) ∧ Keep (fun g => g = B) w w' := by
  have HC := hide hc
  have HM := hide hB
  have HNS := hide hns
  have HTX := hide (tbB_len hx)
  have HIN : Hid (∀ j (h : j < xs.length), -1000 ≤ xs[j] ∧ xs[j] ≤ 1000) := hide (fun j h => by have := tbB_at hx j h; omega)
  have HCI := hide (clA_in hx)
  have HCL := hide (clA_len hx)
  clear hc hB hx hns
  go_enter Tryz.func98, Tryz.ntmps98
  go_wp2_with fail
  refine (takeEntries_any ao cap xs _ (by have := unhide HTX; omega) (unhide HIN) (unhide HC)).mono ?_
  rintro e w3 ⟨v, rfl, ⟨lo, la, rfl, hol⟩, hb3⟩
  have HB3 := hide hb3
  have HL3 := hide hol
  have HM3 := hide ((unhide HM).below hb3)
  have HBL := hide (unhide HM).lt
  have HCN : Hid (cnt1T ns xs = (clA xs).foldl incr ns) := hide rfl
  clear hol hb3
  generalize clA xs = L at *
  have hL12 := unhide HCL
  go_wp2
  go_loopw [9] (fun i wq => ∃ (j : Nat) (D' : DataW Unit), j ≤ L.length ∧ i = .int .i64 j ∧ Hid (CtI ((L.take j).foldl incr ns) (1000 + j)) ∧ Hid (MpC wq B (n + j) D' ((L.take j).foldl incr ns)) ∧ Hid (Keep (fun g => g = B) w3 wq)) (fun i _ => L.length - (intOf i).toNat)
  case atStart => exact ⟨0, D, Nat.zero_le _, rfl, hide (by simpa using unhide HNS), hide (by simpa using unhide HM3), hide (Keep.refl _ _)⟩
  case round =>
    obtain ⟨j, D', hj', rfl, HJ, HMJ, HKJ⟩ := hrel
    by_cases hjl : j < L.length
    · have HLJ := hide ((unhide HL3).keep (unhide HKJ) (fun g hg he => by have h1 := ((unhide HL3).ge g hg).1; have h2 := unhide HBL; omega))
      obtain ⟨b, off, rfl, hcl⟩ := (ownRN (unhide HLJ)) j hjl
      obtain ⟨l0, l1⟩ := unhide HCI j hjl
      obtain ⟨c, hcc⟩ := Int.eq_ofNat_of_zero_le l0
      rw [hcc] at hcl
      have hc24 : c < 24 := by omega
      have HST := hide (incr_take hjl ns)
      rw [hcc] at HST
      clear hcc l0 l1
      generalize hMS : (L.take j).foldl incr ns = ms at *
      clear hMS
      have hlen := (unhide HJ).1
      have hcm : c < ms.length := by omega
      obtain ⟨x0, x1⟩ := (unhide HJ).2 c hcm
      have hlk := (unhide HMJ).look hc24
      have egd : ms.getD c 0 = ms[c] := by simp [List.getD, hcm]
      rw [egd] at hlk
      have HJ' : Hid (CtI ((L.take (j + 1)).foldl incr ns) (1000 + (j + 1 : Nat))) := hide (by rw [unhide HST]; exact ((unhide HJ).up hc24).mono (by omega))
      have HE' : Hid (ms.set c (ms[c] + 1) = (L.take (j + 1)).foldl incr ns) := hide (by
        rw [unhide HST, incr_set, egd])
      clear egd hlen
      generalize ms[c] = X at *
      have hw1 : IntKind.i64.wrap (X + 1) = X + 1 := by rw [IntKind.wrap_i64]; omega
      go_wp2_with (at_mapUpdate; refine wpList_count rfl _ _ _ rfl rfl (unhide HMJ) (by omega) rfl hc24 (by first | rfl | (rw [hw1]; rfl)) ⟨by omega, by omega⟩ ?_; intro w5 D5 hm5 hk5; have HS5 := hide (And.intro hm5 hk5); clear hm5 hk5)
      go_roundw
      case rel => exact ⟨j + 1, D5, by omega, by go_num, HJ', hide (by rw [← unhide HE']; exact (unhide HS5).1), hide ((unhide HKJ).trans (unhide HS5).2)⟩
      case measure => simp [intOf]; omega
    · obtain rfl : j = L.length := by omega
      rw [List.take_length] at HMJ
      go_wp2
      go_end0
      exact ⟨rfl, ⟨D', by rw [unhide HCN]; exact (unhide HMJ).mono (by omega)⟩, (Keep.of_below (unhide HB3)).trans (unhide HKJ)⟩

def RowT (w : World) (qo : Option Addr) (ts : List (List Int)) : Prop := ∀ j (h : j < ts.length), ∃ b off tq tc, qo = some ⟨b, off, none⟩ ∧ w.cell? ⟨b, off + j, none⟩ = some (.slice tq ts[j].length tc) ∧ Is w tq ts[j]
theorem RowT.below {w w' : World} {qo : Option Addr} {ts : List (List Int)} (h : RowT w qo ts) (hb : Below w.heap.size w w') : RowT w' qo ts := fun j hj => by
  obtain ⟨b, off, tq, tc, e, h1, h2⟩ := h j hj
  exact ⟨b, off, tq, tc, e, (hb.cell (p := ⟨b, off + j, none⟩) (World.block_lt_of_cell? _ _ h1)).trans h1, h2.below hb⟩
theorem keep_cellM {S : Nat → Prop} {w w' : World} (hk : Keep S w w') {p : Addr} {v : Value} (h : w.cell? p = some v) (hs : ¬ S p.block) : w'.cell? p = some v :=
  (World.cell?_of_block (hk.block p.block (World.block_lt_of_cell? _ _ h) hs)).trans h
theorem Is.keepMap {w w' : World} {B n : Nat} {D : DataW Unit} {ns : List Int} {ao : Option Addr} {xs : List Int} (h : Is w ao xs) (hm : MpC w B n D ns) (hk : Keep (fun g => g = B) w w') : Is w' ao xs := fun i hi => by
  obtain ⟨b, off, e, hc⟩ := h i hi
  refine ⟨b, off, e, keep_cellM hk hc (fun he => ?_)⟩
  obtain ⟨⟨es, clock, hb, _⟩, _⟩ := hm
  simp only at he
  subst he
  simp [World.cell?, hb] at hc
theorem RowT.keepMap {w w' : World} {B n : Nat} {D : DataW Unit} {ns : List Int} {qo : Option Addr} {ts : List (List Int)} (h : RowT w qo ts) (hm : MpC w B n D ns) (hk : Keep (fun g => g = B) w w') : RowT w' qo ts := fun j hj => by
  obtain ⟨b, off, tq, tc, e, h1, h2⟩ := h j hj
  refine ⟨b, off, tq, tc, e, keep_cellM hk h1 (fun he => ?_), h2.keepMap hm hk⟩
  obtain ⟨⟨es, clock, hb, _⟩, _⟩ := hm
  simp only at he
  subst he
  simp [World.cell?, hb] at h1

set_option maxHeartbeats 1600000 in
theorem usesOf_any (qo : Option Addr) (qa : Nat) (ts : List (List Int)) (w : World) (hl : ts.length ≤ 4) (ht : ∀ t ∈ ts, tbB t = true) (hc : RowT w qo ts) :
    Calls Tryz.prog 92 #[.slice qo ts.length qa] w fun e w' => ∃ B D, e = .returned (.map (some B)) ∧ w.heap.size ≤ B ∧ MpC w' B 1000 D (ts.foldl cnt1T zero24) ∧ CtI (ts.foldl cnt1T zero24) 48 ∧ Below w.heap.size w w' := by
  have hmm := @run_makeMap Tryz.prog
  have HC := hide (hc.below (Joins.below_alloc1 w (.map #[] 0)))
  have HT := hide ht
  have HA := hide (Joins.below_alloc1 w (.map #[] 0))
  have HM := hide (MpC.made w)
  clear hc ht
  go_enter Tryz.func92, Tryz.ntmps92
  go_upto_region 2 with fail
  revert HA HM HC
  generalize (w.alloc _) = W0
  intro HC HA HM
  go_wp2
  go_loopw [9] (fun i wr => ∃ (k : Nat) (D : DataW Unit), k ≤ ts.length ∧ i = .int .i64 k ∧ Hid (CtI ((ts.take k).foldl cnt1T zero24) (12 * k)) ∧ Hid (MpC wr w.heap.size (12 * k) D ((ts.take k).foldl cnt1T zero24)) ∧ Hid (RowT wr qo ts) ∧ Hid (Below w.heap.size w wr)) (fun i _ => ts.length - (intOf i).toNat)
  case atStart => exact ⟨0, _, Nat.zero_le _, rfl, hide (by simpa using CtI.zero), hide (by simpa using unhide HM), HC, HA⟩
  case round =>
    obtain ⟨k, D, hk, rfl, HI, HMK, HR, HB⟩ := hrel
    by_cases hlt : k < ts.length
    · obtain ⟨b, off, tq, tc, rfl, hck, hIs⟩ := unhide HR k hlt
      have HIS := hide hIs
      have htk := unhide HT ts[k] (List.getElem_mem hlt)
      have HTK := hide htk
      have HCT := hide (cntT_take hlt zero24)
      clear hIs htk
      have HBD := hide (unhide HB).size
      go_wp2_with fail
      refine (addUses_any w.heap.size (12 * k) D _ tq tc ts[k] _ (unhide HMK) (by omega) ((unhide HI).mono (by omega)) (unhide HTK) (unhide HIS)).mono ?_
      rintro e w3 ⟨rfl, ⟨D3, hm3⟩, hk3⟩
      have HM3 : Hid (MpC w3 w.heap.size (12 * (k + 1)) D3 ((ts.take (k + 1)).foldl cnt1T zero24)) := hide (by rw [unhide HCT]; exact hm3)
      have HR3 := hide ((unhide HR).keepMap (unhide HMK) hk3)
      have HB3 : Hid (Below w.heap.size w w3) := hide ((unhide HB).trans (hk3.below (unhide HB).size (fun g hg => Nat.le_of_eq hg.symm)))
      have HI3 : Hid (CtI ((ts.take (k + 1)).foldl cnt1T zero24) (12 * (k + 1 : Nat))) := hide (by
        rw [unhide HCT]
        refine ⟨by rw [cnt1T_len]; exact (unhide HI).1, fun i hi => ?_⟩
        rw [cnt1T_len, (unhide HI).1] at hi
        have h1 := cnt1T_get (unhide HTK) (unhide HI).1 hi
        have h2 : ((ts.take k).foldl cnt1T zero24).getD i 0 = ((ts.take k).foldl cnt1T zero24)[i]'(by rw [(unhide HI).1]; exact hi) := by simp [List.getD, (unhide HI).1, hi]
        have h3 : (cnt1T ((ts.take k).foldl cnt1T zero24) ts[k]).getD i 0 = (cnt1T ((ts.take k).foldl cnt1T zero24) ts[k])[i]'(by rw [cnt1T_len, (unhide HI).1]; exact hi) := by simp [List.getD, cnt1T_len, (unhide HI).1, hi]
        have h4 := (unhide HI).2 i (by rw [(unhide HI).1]; exact hi)
        have h5 : (clA ts[k]).count (i : Int) ≤ (clA ts[k]).length := List.count_le_length
        have h6 := clA_len (unhide HTK)
        rw [← h3, h1, h2]
        omega)
      clear hm3 hk3
      go_wp2
      go_roundw
      case rel => exact ⟨k + 1, D3, by omega, by go_num, HI3, HM3, HR3, HB3⟩
      case measure => simp [intOf]; omega
    · obtain rfl : k = ts.length := by omega
      rw [List.take_length] at HMK HI
      go_wp2
      go_ret
      exact ⟨w.heap.size, D, rfl, Nat.le_refl _, (unhide HMK).mono (by omega), (unhide HI).mono (by omega), unhide HB⟩

set_option maxHeartbeats 3200000 in
theorem tablesOf_any (a : Im4) (m : Img) (w : World) (hs : m.snaps.length ≤ 3) (hc : ImS w a m) :
    Calls Tryz.prog 91 #[imV a m] w fun e w' => ∃ qo qa, e = .returned (.slice qo (imTabs m).length qa) ∧ RowT w' qo (imTabs m) ∧ Below w.heap.size w w' := by
  have HA := hide (Joins.below_alloc1 w (.cells #[.slice a.ro m.refs.length a.rc, .slice a.tq m.table.length a.tc, .slice a.so m.snaps.length a.sc, .slice a.dq m.data.length a.dc] 30))
  have HV := hide (VarM.new w 30 (.slice a.ro m.refs.length a.rc) (.slice a.tq m.table.length a.tc) (.slice a.so m.snaps.length a.sc) (.slice a.dq m.data.length a.dc))
  have HC := hide hc
  clear hc
  obtain ⟨j0, hj, hy0, hy1, hy2⟩ := info_parts infoTb
  go_enter Tryz.func91, Tryz.ntmps91
  go_upto_region 1 with fail
  revert HA HV
  generalize (w.alloc _) = w1
  intro HB1 HV1
  have HSZ0 : Hid (w.heap.size < w1.heap.size) := hide (unhide HV1).lt
  obtain ⟨c0, c1, c2, c3⟩ := (unhide HV1).cells
  have HOT : Hid (OwnR (w1.alloc (.cells #[.slice a.tq m.table.length a.tc] 27)) w1.heap.size 27 1 (.slice (some ⟨w1.heap.size, 0, none⟩) 1 1) 1 [.slice a.tq m.table.length a.tc]) := hide (.inr ⟨by omega, rfl, .inr ⟨w1.heap.size, 1, #[.slice a.tq m.table.length a.tc], rfl, Nat.le_refl _, heap_alloc_new w1 _, Nat.le_refl _, by unfold maxLen; omega, rfl, rfl⟩⟩)
  have HBA := hide (Joins.below_alloc1 w1 (.cells #[.slice a.tq m.table.length a.tc] 27))
  go_upto_region 2 with fail
  revert HOT HBA
  generalize (w1.alloc _) = W1
  intro HOT HBA
  clear c0 c1 c2 c3
  obtain ⟨c0, c1, c2, c3⟩ := ((unhide HV1).below (unhide HBA)).cells
  go_wp2
  clear c0 c1 c2 c3
  go_loopw [3, 12] (fun o i wr => ∃ (k : Nat) (qo : Option Addr) (qa : Nat) (vs : List Value), k ≤ m.snaps.length ∧ i = .int .i64 k ∧ o = .slice qo (k + 1) qa ∧ Hid (OwnR wr w1.heap.size 27 1 (.slice qo (k + 1) qa) (k + 1) vs) ∧ Hid (TabV w vs ((imTabs m).take (k + 1))) ∧ Hid (Below w1.heap.size w1 wr)) (fun _ i _ => m.snaps.length - (intOf i).toNat)
  case atStart => exact ⟨0, _, _, [.slice a.tq m.table.length a.tc], Nat.zero_le _, rfl, rfl, HOT, hide (by
    have h0 : TabV w [] [] := ⟨rfl, fun j h => by simp at h⟩
    have := h0.snoc (tc := a.tc) (unhide HC).t
    simpa [imTabs] using this), HBA⟩
  case round =>
    clear HOT HBA
    obtain ⟨k, qo, qa, vs, hk, rfl, rfl, HO, HT, HB⟩ := hrel
    by_cases hlt : k < m.snaps.length
    · obtain ⟨b, off, tq, tc, eb, hn0, ht0, hIs, hz, htl⟩ := ((unhide HC).s.below (fr (unhide HB1) (unhide HB))) k hlt
      obtain ⟨b', off', tq', tc', eb', _, ht0', hIs', _, _⟩ := (unhide HC).s k hlt
      rw [eb] at eb'
      cases eb'
      have ett : Value.slice tq' m.snaps[k].table.length tc' = .slice tq m.snaps[k].table.length tc := by
        have h1 := ((fr (unhide HB1) (unhide HB)).cell (p := ⟨b, off + k * 2 + 1, none⟩) (World.block_lt_of_cell? _ _ ht0')).trans ht0'
        rw [ht0] at h1
        exact (Option.some.inj h1).symm
      have hso := eb
      clear eb
      have hlti : (k : Int) < (m.snaps.length : Int) := by omega
      have HT' : Hid (TabV w (vs ++ [.slice tq m.snaps[k].table.length tc]) ((imTabs m).take (k + 1 + 1))) := hide (by
        rw [imTabs_take hlt, ← ett]
        exact (unhide HT).snoc hIs')
      have HX := hide (VarN.new wr m.snaps[k].name (.slice tq m.snaps[k].table.length tc))
      have HBX := hide (Joins.below_alloc1 wr (.cells #[.string m.snaps[k].name, .slice tq m.snaps[k].table.length tc] 72))
      have HSZ := hide (unhide HB).size
      clear hIs hIs' ht0' ett hz htl
      go_upto_region 5 with fail
      revert HX HBX
      generalize (wr.alloc _) = w2
      intro HX HBX
      obtain ⟨x0, x1⟩ := (unhide HX).cells
      have HO2 := hide ((unhide HO).below (unhide HBX))
      have HB2 := hide (fr (unhide HB) (unhide HBX))
      clear HX HBX hn0 ht0 hso
      have HOA := hide ((unhide HO2).below (Joins.below_alloc1 _ (.cells #[.slice tq m.snaps[k].table.length tc] 27)))
      have HBA := hide (fr (unhide HB2) (Joins.below_alloc1 _ (.cells #[.slice tq m.snaps[k].table.length tc] 27)))
      have HSZ2 := hide (unhide HB2).size
      go_wp2_with (at_builtin; refine wpList_append_one rfl _ _ 103 rfl w1.heap.size 27 j0 (.slice none 0 0) 1 24 Tryz.underlying103 hj hy0 hy1 hy2 rfl (by omega) qo (k + 1) qa vs rfl (unhide HOA) (by have := unhide HSZ2; simp; omega) ⟨w2.heap.size, 0, none⟩ _ [.slice tq m.snaps[k].table.length tc] rfl rfl (byte_news w2 _ _) (slice_one _ _ _) (by unfold maxLen; omega) (by omega) ?_; intro g2 cap2 wA hoA hkA; have HSF := hide (And.intro hoA (keep_below (unhide HBA) (unhide HOA) (Nat.le_refl _) hkA)); clear hoA hkA)
      go_roundw
      case rel => exact ⟨k + 1, some ⟨g2, 0, none⟩, cap2, vs ++ [.slice tq m.snaps[k].table.length tc], by omega, by go_num, rfl, hide (.inr ⟨by omega, (unhide HSF).1⟩), HT', hide (unhide HSF).2⟩
      case measure => simp [intOf]; omega
    · obtain rfl : k = m.snaps.length := by omega
      have HTT : Hid (TabV w vs (imTabs m)) := hide (by
        have := unhide HT
        rwa [List.take_of_length_le (by rw [imTabs_len]; exact Nat.le_refl _)] at this)
      have HLT := hide (imTabs_len m)
      have HB2 := hide (fr (unhide HB1) (unhide HB))
      have HR : Hid (RowT wr qo (imTabs m)) := hide (fun j hj => by
        have hjn : j < m.snaps.length + 1 := by rw [← unhide HLT]; exact hj
        obtain ⟨tq, tc, hvk, hIs⟩ := (unhide HTT).2 j hj
        obtain ⟨q2, cap2, cur2, eq2, _, _⟩ := own_form (by omega) ((unhide HO).row (by omega))
        have hcell := ((unhide HO).row (by omega))
        rw [eq2] at hcell
        have hck := (hcell.cellAt j (by omega)).trans hvk
        cases eq2
        exact ⟨q2, 0, tq, tc, rfl, by rw [Nat.zero_add]; exact hck, hIs.below (unhide HB2)⟩)
      go_wp2
      go_ret
      exact ⟨qo, qa, by rw [unhide HLT]; rfl, unhide HR, unhide HB2⟩

def tabsB (ts : List (List Int)) : Bool := ts.all fun t => tbB t && onceB t
theorem tabs_yes {ts : List (List Int)} (h : ∀ j (hj : j < ts.length), (fun t => tbB t && onceB t) ts[j] = true) : tabsB ts = true := all_of (p := fun t => tbB t && onceB t) (fun j hj _ => h j hj)
theorem tabs_no {ts : List (List Int)} {k : Nat} (hk : k < ts.length) (h : (tbB ts[k] && onceB ts[k]) = false) : tabsB ts = false := all_not (p := fun t => tbB t && onceB t) hk h

set_option maxHeartbeats 3200000 in
theorem tablesOK_any (qo : Option Addr) (qa : Nat) (ts : List (List Int)) (w : World) (hl : ts.length ≤ 4) (hz : ∀ t ∈ ts, t.length ≤ maxLen) (hc : RowT w qo ts) :
    Calls Tryz.prog 90 #[.slice qo ts.length qa] w fun e w' => e = .returned (.bool (tabsB ts)) ∧ Below w.heap.size w w' := by
  have hmm := @run_makeMap Tryz.prog
  have HC := hide (hc.below (Joins.below_alloc1 w (.map #[] 0)))
  have HZ := hide hz
  have HA := hide (Joins.below_alloc1 w (.map #[] 0))
  have HM := hide (MpC.made w)
  clear hc hz
  go_enter Tryz.func90, Tryz.ntmps90
  go_upto_region 2 with fail
  revert HA HM HC
  generalize (w.alloc _) = W0
  intro HC HA HM
  go_wp2
  go_loopw [11] (fun i wr => ∃ (k n : Nat) (D : DataW Unit) (ns : List Int), k ≤ ts.length ∧ i = .int .i64 k ∧ Hid (MpC wr w.heap.size n D ns) ∧ Hid (RowT wr qo ts) ∧ Hid (∀ j (hj : j < ts.length), j < k → (tbB ts[j] && onceB ts[j]) = true) ∧ Hid (Below w.heap.size w wr)) (fun i _ => ts.length - (intOf i).toNat)
  case atStart => exact ⟨0, _, _, _, Nat.zero_le _, rfl, HM, HC, hide (fun j _ h => by omega), HA⟩
  case round =>
    obtain ⟨k, n, D, ns, hk, rfl, HMK, HR, HS, HB⟩ := hrel
    by_cases hlt : k < ts.length
    · obtain ⟨b, off, tq, tc, rfl, hck, hIs⟩ := unhide HR k hlt
      have HIS := hide hIs
      have HZK := hide (unhide HZ ts[k] (List.getElem_mem hlt))
      clear hIs
      cases htb : tbB ts[k]
      · have HF := hide (tabs_no hlt (by rw [htb]; rfl))
        go_wp2_with (go_at_call 72; refine (tableOK_impl _ _ ts[k] _ (unhide HZK) (unhide HIS)).mono ?_; rintro e w' ⟨rfl, hw⟩; replace hw := hw.symm; subst hw; rw [htb])
        go_ret
        exact ⟨ret_bool (unhide HF).symm, unhide HB⟩
      have HTK := hide htb
      obtain ⟨w4, hrun4, hm4, hk4⟩ := (unhide HMK).clear 0
      have HM4 := hide hm4
      have HR4 := hide ((unhide HR).keepMap (unhide HMK) hk4)
      have HIS4 := hide ((unhide HIS).keepMap (unhide HMK) hk4)
      have HB4 : Hid (Below w.heap.size w w4) := hide ((unhide HB).trans (hk4.below (unhide HB).size (fun g hg => Nat.le_of_eq hg.symm)))
      clear hm4 hk4
      go_wp2_with (first | (go_at_call 72; refine (tableOK_impl _ _ ts[k] _ (unhide HZK) (unhide HIS)).mono ?_; rintro e w' ⟨rfl, hw⟩; replace hw := hw.symm; subst hw; rw [htb]) | fail)
      clear hrun4 hck
      refine (addUses_any w.heap.size 0 _ zero24 tq tc ts[k] _ (unhide HM4) (by omega) (CtI.zero.mono (by omega)) (unhide HTK) (unhide HIS4)).mono ?_
      rintro e w5 ⟨rfl, ⟨D5, hm5⟩, hk5⟩
      have HM5 := hide hm5
      have HR5 := hide ((unhide HR4).keepMap (unhide HM4) hk5)
      have HB5 : Hid (Below w.heap.size w w5) := hide ((unhide HB4).trans (hk5.below (unhide HB4).size (fun g hg => Nat.le_of_eq hg.symm)))
      have HY := hide (once_yes (unhide HTK))
      have HN : Hid (∀ i : Nat, i < 24 → 1 < (cnt1T zero24 ts[k]).getD i 0 → onceB ts[k] = false) := hide (fun i => once_no (unhide HTK))
      clear hm5 hk5 HM4 HR4 HIS4 HB4
      generalize cnt1T zero24 ts[k] = cs at *
      have hown := (unhide HM5).1
      have HAT := hide (unhide HM5).2.2.1
      have HKY := hide (unhide HM5).2.2.2
      go_wp2_with (first | (at_range; refine wpList_range_own _ rfl _ 107 rfl 3 3 lawI Tryz.underlying107 _ w.heap.size _ _ rfl hown ?_; intro w6 hrg0 hg0 hs0) | go_in)
      go_frame
      have HB6 : Hid (Below w5.heap.size w5 w6) := hide ((Below.refl _ _).grown hg0 (Nat.le_refl _) (fun _ h => by cases h))
      have HST : Hid (∀ i : Nat, i < 24 → has D5 (.int .i64 (i : Int)) = false → cs.getD i 0 ≤ 1) := hide (fun i hi hh => by
        have h1 := unhide HAT i hi
        rw [atKey_of_not_has hh] at h1
        simp only [DataW.lit.injEq, Lit.int.injEq, true_and] at h1
        omega)
      clear hg0 hs0 hown
      generalize hRR : w5.heap.size = r at *
      have HRR := hide hRR
      clear hRR
      go_loopw [7] (fun _ wq => ∃ (left : Lit → Bool) (cnt : Nat), wq.ranges Tryz.prog 3 (plainElem Tryz.prog 3) w.heap.size r (0 + 12) D5 left cnt ∧ Hid (∀ i : Nat, i < 24 → left (.int .i64 (i : Int)) = false → cs.getD i 0 ≤ 1) ∧ Hid (∀ kl, left kl = true → has D5 kl = true) ∧ Hid (Below r w5 wq)) (fun _ wq => wq.rangeLeft w.heap.size r)
      case atStart => exact ⟨_, _, hrg0, HST, hide (fun _ h => h), HB6⟩
      case round =>
        obtain ⟨left, cnt, hrg, HLE, HLH, HBQ⟩ := hrel
        go_wp2_with (first | (at_next; refine wpList_next_ranges_ii _ rfl _ rfl 3 3 .i64 .i64 lawI Tryz.underlying3 Tryz.underlying3 w.heap.size r _ _ _ _ rfl hrg ?_ ?_) | go_in)
        · intro _ hl0
          have HON : Hid ((tbB ts[k] && onceB ts[k]) = true) := hide (by rw [unhide HTK, unhide HY (fun i hi => unhide HLE i hi (hl0 _))]; rfl)
          have HS' := hide (all_succ (p := fun t => tbB t && onceB t) hlt (unhide HS) (unhide HON))
          have HMQ : Hid (MpC wr w.heap.size (0 + 12) D5 cs) := hide ⟨hrg.owns, (unhide HM5).2⟩
          have HRQ := hide ((unhide HR5).below (by rw [unhide HRR]; exact unhide HBQ))
          have HBE := hide ((unhide HB5).trans ((unhide HBQ).mono (by rw [← unhide HRR]; exact (unhide HB5).size)))
          clear hrg hl0
          go_wp2
          go_roundw
          case rel => exact ⟨k + 1, _, D5, cs, by omega, by go_num, HMQ, HRQ, HS', HBE⟩
          case measure => simp [intOf]; omega
        · intro x c w7 cnt7 hwx hwc hlx hat hrg7 hlt7 hg7 hs7 hen
          have HB7 : Hid (Below r w5 w7) := hide ((unhide HBQ).grown hg7 (by rw [← unhide HRR]; exact (unhide HBQ).size) (fun j hj => by cases hj; exact Nat.le_refl _))
          obtain ⟨i, hi, ei⟩ := unhide HKY _ (unhide HLH _ hlx)
          simp only [Lit.int.injEq, true_and] at ei
          subst ei
          have hcs : cs.getD i 0 = c := by
            have h1 := unhide HAT i hi
            rw [hat] at h1
            simp only [DataW.lit.injEq, Lit.int.injEq, true_and] at h1
            exact h1.symm
          by_cases hc1 : 1 < c
          · have HF := hide (tabs_no hlt (by rw [unhide HTK, unhide HN i hi (by omega)]; rfl))
            have HBE := hide ((unhide HB5).trans ((unhide HB7).mono (by rw [← unhide HRR]; exact (unhide HB5).size)))
            clear hrg hrg7 hat
            go_wp2
            go_ret
            exact ⟨ret_bool (unhide HF).symm, unhide HBE⟩
          · have HLE' : Hid (∀ i' : Nat, i' < 24 → (left (.int .i64 (i' : Int)) && !(Lit.int .i64 (i' : Int)).sameKey (.int .i64 (i : Int))) = false → cs.getD i' 0 ≤ 1) := hide (fun i' hi' h => by
              by_cases e : i' = i
              · subst e; omega
              · have hk2 : (Lit.int .i64 (i' : Int)).sameKey (.int .i64 (i : Int)) = false := sameKey_ne (by intro h2; simp only [Lit.int.injEq, true_and] at h2; omega)
                rw [hk2] at h
                exact unhide HLE i' hi' (by simpa using h))
            have HLH' : Hid (∀ kl : Lit, (left kl && !kl.sameKey (.int .i64 (i : Int))) = true → has D5 kl = true) := hide (fun kl h => unhide HLH kl (by simp only [Bool.and_eq_true] at h; exact h.1))
            clear hcs hat
            go_wp2
            go_roundw
            case rel => exact ⟨_, cnt7, hrg7, HLE', HLH', HB7⟩
            case measure => rw [hrg7.left_eq, hrg.left_eq]; exact hlt7
    · have HF := hide (tabs_yes (fun j hj => unhide HS j hj (by omega)))
      go_wp2
      go_ret
      exact ⟨ret_bool (unhide HF).symm, unhide HB⟩

end Go.Proofs.YtpdpnepnfhbonaaGreatDoor

namespace Go.Proofs.YtpdpnepnfhbonaaGreatDoor
open Go.RowKit
set_option linter.unusedVariables false
set_option maxRecDepth 100000

end Go.Proofs.YtpdpnepnfhbonaaGreatDoor

namespace Go.Proofs.YtpdpnepnfhbonaaGreatDoor
open Go.RowKit
set_option linter.unusedVariables false
set_option maxRecDepth 100000

end Go.Proofs.YtpdpnepnfhbonaaGreatDoor

namespace Go.Proofs.YtpdpnepnfhbonaaGreatDoor
open Go.RowKit
set_option linter.unusedVariables false
set_option maxRecDepth 100000

def srS (sec : Nat → ByteArray) : List Int := openL (sec 9) 1
def srN (sec : Nat → ByteArray) : Nat := ((srS sec).getD 0 0).toNat
def supB (sec : Nat → ByteArray) : Bool := openB (sec 9) 1 && decide (0 < (srS sec).length) && decide ((srS sec).getD 0 0 ≤ 3) && decide (((srS sec).length : Int) = 1 + (srS sec).getD 0 0)
def srR (sec : Nat → ByteArray) : List Int := if cdB (sec 10) = true then cdL (sec 10) else []
def srT (sec : Nat → ByteArray) : List Int := openL (sec 11) 3
def snB1 (sec : Nat → ByteArray) (i : Nat) : Bool := tdB (sec (12 + i)) && decide (nmN (unT ((srS sec).getD (1 + i) 0)) = (srS sec).getD (1 + i) 0)
def snR1 (sec : Nat → ByteArray) (i : Nat) : Snp := ⟨unT ((srS sec).getD (1 + i) 0), openL (sec (12 + i)) 3⟩
def srSn (sec : Nat → ByteArray) (k : Nat) : List Snp := (List.range k).map (snR1 sec)
def daB1 (sec : Nat → ByteArray) (c : Nat) : Bool := decide ((srR sec).getD c 0 = 0) || (openB (sec (15 + c)) 4 && decide ((openL (sec (15 + c)) 4).length = 1))
def daR1 (sec : Nat → ByteArray) (c : Nat) : Int := if (srR sec).getD c 0 = 0 then 0 else (openL (sec (15 + c)) 4).getD 0 0
def srM (sec : Nat → ByteArray) : Img := ⟨srR sec, srT sec, srSn sec (srN sec), (List.range 24).map (daR1 sec)⟩
def srP (sec : Nat → ByteArray) : Bool := supB sec && cdB (sec 10) && tdB (sec 11) && (List.range (srN sec)).all (snB1 sec) && (List.range 24).all (daB1 sec)
def srB (sec : Nat → ByteArray) : Bool := srP sec && imB (srM sec)

end Go.Proofs.YtpdpnepnfhbonaaGreatDoor

namespace Go.Proofs.YtpdpnepnfhbonaaGreatDoor
open Go.RowKit
set_option linter.unusedVariables false
set_option maxRecDepth 100000

def secV (ss : List ByteArray) (xs : List Wr) (h : Int) (k : Nat) : ByteArray := readV ss xs h k
def rdA (ss : List ByteArray) (xs : List Wr) (h : Int) : Img × Int := if hostC ss xs h = 0 then (if srB (secV ss xs h) = true then (srM (secV ss xs h), 0) else (im0, 18)) else (im0, hostC ss xs h)
def AnsR (W w' : World) (e : Ending) (sec : Nat → ByteArray) : Prop := ∃ a m ts, e = .returned (.tuple #[imV a m, .bool (srB sec)]) ∧ OwnIm w' W.heap.size a m ts ∧ (srB sec = true → m = srM sec) ∧ Below W.heap.size W w'

set_option maxHeartbeats 1600000 in
theorem readImage_spec (ao bo : Option Addr) (ca cb : Nat) (ss : List ByteArray) (xs : List Wr) (h : Int) (w : World) (hl : ss.length ≤ maxLen) (hm : xs.length ≤ maxLen) (h1 : Ss w ao ss) (h2 : Ios w bo xs)
    (hread : hostC ss xs h = 0 → ∀ W : World, Ss W ao ss → Ios W bo xs → Calls Tryz.prog 16 #[.agg #[.slice ao ss.length ca, .slice bo xs.length cb], .int .i64 h] W fun e w' => AnsR W w' e (secV ss xs h)) :
    Calls Tryz.prog 5 #[.agg #[.slice ao ss.length ca, .slice bo xs.length cb], .int .i64 h] w fun e w' => AnsI w w' e (rdA ss xs h) := by
  have HA := hide (Joins.below_alloc2 w (.cells #[.slice ao ss.length ca, .slice bo xs.length cb] 35) (.cells #[.slice none 0 0, .slice none 0 0, .slice none 0 0, .slice none 0 0] 30))
  have H1 := hide (h1.below (unhide HA))
  have H2 := hide (h2.below (unhide HA))
  have HV := hide ((VarD.new w (.slice ao ss.length ca) (.slice bo xs.length cb)).below (Joins.below_alloc1 _ (.cells #[.slice none 0 0, .slice none 0 0, .slice none 0 0, .slice none 0 0] 30)))
  have HR : Hid (VarM ((w.alloc (.cells #[.slice ao ss.length ca, .slice bo xs.length cb] 35)).alloc (.cells #[.slice none 0 0, .slice none 0 0, .slice none 0 0, .slice none 0 0] 30)) (w.heap.size + 1) 30 (.slice none 0 0) (.slice none 0 0) (.slice none 0 0) (.slice none 0 0)) := hide (by have := VarM.new (w.alloc (.cells #[.slice ao ss.length ca, .slice bo xs.length cb] 35)) 30 (.slice none 0 0) (.slice none 0 0) (.slice none 0 0) (.slice none 0 0); simpa using this)
  have HL := hide hl
  have HM := hide hm
  have HQ := hide (ask_zero ss xs h)
  have HRD := hide hread
  clear h1 h2 hl hm hread
  go_enter Tryz.func5, Tryz.ntmps5
  go_upto_region 1 with fail
  revert HR
  revert HV
  revert H2
  revert H1
  revert HA
  generalize ((w.alloc _).alloc _) = W0
  intro HA H1 H2 HV HR
  obtain ⟨hv0, hv1⟩ := (unhide HV).cells
  go_wp2_with fail
  refine (l01Ask_any _ _ _ _ ss xs h 0 _ (unhide HL) (unhide HM) (unhide H1) (unhide H2)).mono ?_
  rintro e w1 ⟨rfl, hb1⟩
  rw [unhide HQ]
  have HR1 := hide ((unhide HR).below hb1)
  have HV1 := hide ((unhide HV).below hb1)
  have HB1 := hide (fr (unhide HA) hb1)
  have HS1 := hide ((unhide H1).below hb1)
  have HX1 := hide ((unhide H2).below hb1)
  clear hb1 hv0 hv1 H1 H2 HV HR HA
  have HZ : ∀ W : World, VarM W (w.heap.size + 1) 30 (.slice none 0 0) (.slice none 0 0) (.slice none 0 0) (.slice none 0 0) → Below w.heap.size w W → Hid (VarM ((((W.setCell ⟨w.heap.size + 1, 0, none⟩ (.slice none 0 0)).setCell ⟨w.heap.size + 1, 1, none⟩ (.slice none 0 0)).setCell ⟨w.heap.size + 1, 2, none⟩ (.slice none 0 0)).setCell ⟨w.heap.size + 1, 3, none⟩ (.slice none 0 0)) (w.heap.size + 1) 30 (.slice none 0 0) (.slice none 0 0) (.slice none 0 0) (.slice none 0 0) ∧ Below w.heap.size w ((((W.setCell ⟨w.heap.size + 1, 0, none⟩ (.slice none 0 0)).setCell ⟨w.heap.size + 1, 1, none⟩ (.slice none 0 0)).setCell ⟨w.heap.size + 1, 2, none⟩ (.slice none 0 0)).setCell ⟨w.heap.size + 1, 3, none⟩ (.slice none 0 0))) := fun W hV hB =>
    hide ⟨(((hV.set0 _).set1 _).set2 _).set3 _, (((hB.setCell (p := ⟨w.heap.size + 1, 0, none⟩) (Nat.le_succ _) _).setCell (p := ⟨w.heap.size + 1, 1, none⟩) (Nat.le_succ _) _).setCell (p := ⟨w.heap.size + 1, 2, none⟩) (Nat.le_succ _) _).setCell (p := ⟨w.heap.size + 1, 3, none⟩) (Nat.le_succ _) _⟩
  have HZH := hide HZ
  clear HZ
  by_cases hc : hostC ss xs h = 0
  · have HC := hide hc
    rw [hc]
    obtain ⟨d0, d1⟩ := (unhide HV1).cells
    go_wp2_with fail
    refine (unhide HRD (unhide HC) _ (unhide HS1) (unhide HX1)).mono ?_
    rintro e w2 ⟨a, m, ts, rfl, ho, hm, hb2⟩
    have HO2 := hide ho
    have HMM := hide hm
    have HB2 := hide (fr (unhide HB1) hb2)
    have HR2 := hide ((unhide HR1).below hb2)
    have HLT := hide (unhide HR1).lt
    clear ho hm hb2 d0 d1 HV1 HS1 HX1
    have HAL := hide (Joins.below_alloc1 w2 (.cells #[.slice a.ro m.refs.length a.rc, .slice a.tq m.table.length a.tc, .slice a.so m.snaps.length a.sc, .slice a.dq m.data.length a.dc] 30))
    have HN3 := hide (VarM.new w2 30 (.slice a.ro m.refs.length a.rc) (.slice a.tq m.table.length a.tc) (.slice a.so m.snaps.length a.sc) (.slice a.dq m.data.length a.dc))
    have HO3 := hide ((unhide HO2).below (unhide HAL))
    have HB3 := hide (fr (unhide HB2) (unhide HAL))
    have HR3 := hide ((unhide HR2).below (unhide HAL))
    go_upto_region 5 with fail
    revert HR3
    revert HB3
    revert HO3
    revert HN3
    clear HAL HO2 HB2 HR2
    generalize (w2.alloc _) = W3
    generalize w2.heap.size = p3
    intro HN3 HO3 HB3 HR3
    obtain ⟨c0, c1, c2, c3⟩ := (unhide HR3).cells
    obtain ⟨f0, f1, f2, f3⟩ := (unhide HR3).free
    obtain ⟨n0, n1, n2, n3⟩ := (unhide HN3).cells
    cases hs : srB (secV ss xs h)
    · have HE := unhide HZH W3 (unhide HR3) (unhide HB3)
      have HF : Hid (rdA ss xs h = (im0, 18)) := hide (by rw [rdA, if_pos (unhide HC), hs]; rfl)
      go_wp2
      refine bodyPost_ret (res_ic Tryz.results5 rfl rfl (unhide HE).1) rfl ?_
      rw [unhide HF]
      exact AnsI.bad 18 (unhide HE).2
    · have HF : Hid (rdA ss xs h = (m, 0)) := hide (by rw [rdA, if_pos (unhide HC), if_pos hs, unhide HMM hs])
      have HS := hide (ImSt.put (unhide HR3) (unhide HO3) (unhide HB3) (Nat.le_succ _) (unhide HLT) a m)
      go_wp2
      refine bodyPost_ret (res_ic Tryz.results5 rfl rfl (unhide HS).1) rfl ?_
      rw [unhide HF]
      exact AnsI.of rfl rfl ((unhide HS).2.1.base (by have := (unhide HB1).size; omega)) (unhide HS).2.2
  · have hb : (hostC ss xs h != 0) = true := by simp [hc]
    have HF : Hid (rdA ss xs h = (im0, hostC ss xs h)) := hide (by rw [rdA, if_neg hc])
    have HE := unhide HZH w1 (unhide HR1) (unhide HB1)
    obtain ⟨c0, c1, c2, c3⟩ := (unhide HR1).cells
    obtain ⟨f0, f1, f2, f3⟩ := (unhide HR1).free
    go_wp2
    refine bodyPost_ret (res_ic Tryz.results5 rfl rfl (unhide HE).1) rfl ?_
    rw [unhide HF]
    exact AnsI.bad _ (unhide HE).2

end Go.Proofs.YtpdpnepnfhbonaaGreatDoor

namespace Go.Proofs.YtpdpnepnfhbonaaGreatDoor
open Go.RowKit
set_option linter.unusedVariables false
set_option maxRecDepth 100000

end Go.Proofs.YtpdpnepnfhbonaaGreatDoor

namespace Go.Proofs.YtpdpnepnfhbonaaGreatDoor
open Go.RowKit
set_option linter.unusedVariables false
set_option maxRecDepth 100000

theorem ret_rs {a b : ByteArray} (h : a = b) : Ending.returned (.string a) = .returned (.string b) := by rw [h]
theorem no_succ {xs : List Wr} {h a : Int} {k : Nat} (hk : k < xs.length) (hn : ∀ j (hj : j < xs.length), (k : Int) < j → ¬ mat xs[j] h a) (hx : ¬ mat xs[k] h a) : ∀ j (hj : j < xs.length), (k : Int) - 1 < j → ¬ mat xs[j] h a := by
  intro j hj hlt
  by_cases e : j = k
  · subst e; exact hx
  · exact hn j hj (by omega)

set_option maxHeartbeats 1600000 in
theorem seenBy_any (ao bo : Option Addr) (ca cb : Nat) (ss : List ByteArray) (xs : List Wr) (h : Int) (n : Nat) (w : World) (hlx : xs.length ≤ 200) (hn : n < ss.length) (hq : ss.length ≤ 1048576) (h1 : Ss w ao ss) (h2 : Ios w bo xs) :
    Calls Tryz.prog 21 #[.agg #[.slice ao ss.length ca, .slice bo xs.length cb], .int .i64 h, .int .i64 n] w fun e w' => e = .returned (.string (readV ss xs h n)) ∧ Below w.heap.size w w' := by
  have HA := hide (Joins.below_alloc1 w (.cells #[.slice ao ss.length ca, .slice bo xs.length cb] 35))
  have H1' := hide (h1.below (unhide HA))
  have H2' := hide (h2.below (unhide HA))
  have hc0 : (w.alloc (.cells #[.slice ao ss.length ca, .slice bo xs.length cb] 35)).cell? ⟨w.heap.size, 0, none⟩ = some (.slice ao ss.length ca) := by simp [go_sem]
  have hc1 : (w.alloc (.cells #[.slice ao ss.length ca, .slice bo xs.length cb] 35)).cell? ⟨w.heap.size, 1, none⟩ = some (.slice bo xs.length cb) := by simp [go_sem]
  have HC0 := hide hc0
  have HC1 := hide hc1
  have hlt : w.heap.size < (w.alloc (.cells #[.slice ao ss.length ca, .slice bo xs.length cb] 35)).heap.size := by simp
  clear h1 h2 hc0 hc1
  go_enter Tryz.func21, Tryz.ntmps21
  go_wp2
  revert HA H1' H2' HC0 HC1 hlt
  generalize w.alloc (.cells #[.slice ao ss.length ca, .slice bo xs.length cb] 35) = w1
  intro HA H1' H2' HC0 HC1 hlt
  go_loopw [7, 8] (fun i _ wr => ∃ m : Int, i = .int .i64 m ∧ -1 ≤ m ∧ m < xs.length ∧ Hid (∀ j (hj : j < xs.length), m < j → ¬ mat xs[j] h n) ∧ Hid (Below w1.heap.size w1 wr)) (fun i _ _ => (intOf i + 1).toNat)
  case atStart => exact ⟨_, rfl, by omega, by omega, hide (fun j hj hlt => by omega), hide (Below.refl _ _)⟩
  case round =>
    obtain ⟨m, rfl, hm0, hm1, HN, HB⟩ := hrel
    have hc0 : wr.cell? ⟨w.heap.size, 0, none⟩ = some (.slice ao ss.length ca) := ((unhide HB).cell (World.block_lt_of_cell? _ _ (unhide HC0))).trans (unhide HC0)
    have hc1 : wr.cell? ⟨w.heap.size, 1, none⟩ = some (.slice bo xs.length cb) := ((unhide HB).cell (World.block_lt_of_cell? _ _ (unhide HC1))).trans (unhide HC1)
    by_cases hge : 0 ≤ m
    · obtain ⟨k, rfl⟩ := Int.eq_ofNat_of_zero_le hge
      have hk : k < xs.length := by omega
      obtain ⟨b, off, rfl, hd0, hd1, hd2, hz⟩ := (unhide H2').below (unhide HB) k hk
      clear hz
      have HBA := hide (fun o => (unhide HB).alloc (unhide HB).size o)
      by_cases e0 : xs[k].host = h
      · have b0 : (xs[k].host == h) = true := by simp [e0]
        by_cases e1 : xs[k].at_ = n
        · have b1 : (xs[k].at_ == (n : Int)) = true := by simp [e1]
          have H := hide (readV_hit (ss := ss) hk ⟨e0, e1⟩ (fun j hj hlt => unhide HN j hj (by omega)))
          clear e0 e1
          go_wp2
          go_ret
          exact ⟨ret_rs (unhide H).symm, fr (unhide HA) (unhide HBA _)⟩
        · have b1 : (xs[k].at_ == (n : Int)) = false := by simp [e1]
          have HX := hide (no_succ hk (unhide HN) (fun hx => e1 hx.2))
          clear e0 e1
          go_wp2
          go_roundw
          case rel => exact ⟨_, rfl, by omega, by omega, HX, hide (unhide HBA _)⟩
          case measure => simp [intOf]
      · have b0 : (xs[k].host == h) = false := by simp [e0]
        have HX := hide (no_succ hk (unhide HN) (fun hx => e0 hx.1))
        clear e0
        go_wp2
        go_roundw
        case rel => exact ⟨_, rfl, by omega, by omega, HX, hide (unhide HBA _)⟩
        case measure => simp [intOf]
    · obtain ⟨b, off, rfl, hc, hz⟩ := (unhide H1').below (unhide HB) n hn
      clear hz
      have hg : ss.getD ((n : Int).toNat) ⟨#[]⟩ = ss[n] := by simp [List.getD, hn]
      have H := hide ((readV_none (ss := ss) (fun j hj => unhide HN j hj (by omega))).trans hg)
      clear hg
      go_wp2
      go_ret
      exact ⟨ret_rs (unhide H).symm, fr (unhide HA) (unhide HB)⟩

end Go.Proofs.YtpdpnepnfhbonaaGreatDoor

namespace Go.Proofs.YtpdpnepnfhbonaaGreatDoor
open Go.RowKit
set_option linter.unusedVariables false
set_option maxRecDepth 100000

set_option maxHeartbeats 1600000 in
theorem l01Read_any (ao bo : Option Addr) (ca cb : Nat) (ss : List ByteArray) (xs : List Wr) (h : Int) (a : Nat) (w : World) (ha : a < ss.length) (hs : ss.length ≤ 1048576) (hm : xs.length ≤ maxLen) (h1 : Ss w ao ss) (h2 : Ios w bo xs) :
    Calls Tryz.prog 40 #[.agg #[.slice ao ss.length ca, .slice bo xs.length cb], .int .i64 h, .int .i64 a] w fun e w' => e = .returned (.string (readV ss xs h a)) ∧ Below w.heap.size w w' := by
  have HA := hide (Joins.below_alloc1 w (.cells #[.slice ao ss.length ca, .slice bo xs.length cb] 35))
  have H1 := hide (h1.below (unhide HA))
  have H2 := hide (h2.below (unhide HA))
  clear h1 h2
  unfold maxLen at hm
  go_enter Tryz.func40, Tryz.ntmps40
  go_wp2
  go_loop [7] (fun i => ∃ m : Int, i = .int .i64 m ∧ -1 ≤ m ∧ m < xs.length ∧ Hid (∀ j (hj : j < xs.length), m < j → ¬ mat xs[j] h a)) (fun i => (intOf i + 1).toNat)
  case atStart => exact ⟨_, rfl, by omega, by omega, hide (fun j hj hlt => by omega)⟩
  case round =>
    obtain ⟨m, rfl, hm0, hm1, HN⟩ := hrel
    by_cases hge : 0 ≤ m
    · obtain ⟨k, rfl⟩ := Int.eq_ofNat_of_zero_le hge
      have hk : k < xs.length := by omega
      obtain ⟨b, off, rfl, hc0, hc1, hc2, hz⟩ := unhide H2 k hk
      clear hz
      by_cases e0 : xs[k].host = h
      · have b0 : (xs[k].host == h) = true := by simp [e0]
        by_cases e1 : xs[k].at_ = a
        · have b1 : (xs[k].at_ == (a : Int)) = true := by simp [e1]
          have H := hide (readV_hit (ss := ss) hk ⟨e0, e1⟩ (fun j hj hlt => unhide HN j hj (by omega)))
          clear e0 e1
          go_wp2
          go_ret
          exact ⟨ret_rs (unhide H).symm, unhide HA⟩
        · have b1 : (xs[k].at_ == (a : Int)) = false := by simp [e1]
          have HX := hide (no_succ hk (unhide HN) (fun hx => e1 hx.2))
          clear e0 e1
          go_wp2
          go_round
          case rel => exact ⟨_, rfl, by omega, by omega, HX⟩
          case measure => simp [intOf]
      · have b0 : (xs[k].host == h) = false := by simp [e0]
        have HX := hide (no_succ hk (unhide HN) (fun hx => e0 hx.1))
        clear e0
        go_wp2
        go_round
        case rel => exact ⟨_, rfl, by omega, by omega, HX⟩
        case measure => simp [intOf]
    · obtain ⟨b, off, rfl, hc, hz⟩ := unhide H1 a ha
      clear hz
      have hg : ss.getD ((a : Int).toNat) ⟨#[]⟩ = ss[a] := by simp [List.getD, ha]
      have H := hide ((readV_none (ss := ss) (fun j hj => unhide HN j hj (by omega))).trans hg)
      clear hg
      go_wp2
      go_ret
      exact ⟨ret_rs (unhide H).symm, unhide HA⟩

end Go.Proofs.YtpdpnepnfhbonaaGreatDoor

namespace Go.Proofs.YtpdpnepnfhbonaaGreatDoor
open Go.RowKit
set_option linter.unusedVariables false
set_option maxRecDepth 100000

end Go.Proofs.YtpdpnepnfhbonaaGreatDoor

namespace Go.Proofs.YtpdpnepnfhbonaaGreatDoor
set_option linter.unusedVariables false

theorem diskB_parts {ss : List ByteArray} {xs : List Wr} : diskB ss xs = true ↔ (ss.length = 64 ∧ ∀ s ∈ ss, s.size ≤ 80) ∧ xs.length ≤ 200 ∧ ∀ x ∈ xs, ioB x = true := by
  simp only [diskB, secB, penB, Bool.and_eq_true, decide_eq_true_eq, List.all_eq_true]
theorem ioB_parts {x : Wr} : ioB x = true ↔ (0 ≤ x.host ∧ x.host ≤ 3) ∧ (0 ≤ x.at_ ∧ x.at_ ≤ 63) ∧ x.data.size ≤ 80 := by
  simp only [ioB, Bool.and_eq_true, decide_eq_true_eq]
  omega
end Go.Proofs.YtpdpnepnfhbonaaGreatDoor

namespace Go.Proofs.YtpdpnepnfhbonaaGreatDoor
open Go.RowKit
set_option linter.unusedVariables false

theorem three {l : List Int} (h : l.length = 3) : ∃ a b c, l = [a, b, c] := by
  match l, h with
  | [a, b, c], _ => exact ⟨a, b, c, rfl⟩
theorem readV_size {ss : List ByteArray} {xs : List Wr} (hd : diskB ss xs = true) (h a : Int) : (readV ss xs h a).size ≤ 80 := by
  obtain ⟨⟨a1, a2⟩, a3, a4⟩ := diskB_parts.1 hd
  unfold readV
  cases hf : xs.reverse.find? (fun x => x.host == h && x.at_ == a) with
  | some x => exact (ioB_parts.1 (a4 x (List.mem_reverse.1 (List.mem_of_find?_eq_some hf)))).2.2
  | none =>
    simp only [Option.map_none, Option.getD_none]
    rw [List.getD_eq_getElem?_getD]
    cases hg : ss[a.toNat]? with
    | some s => exact a2 s (List.mem_of_getElem? hg)
    | none => exact Nat.zero_le _

end Go.Proofs.YtpdpnepnfhbonaaGreatDoor

namespace Go.Proofs.YtpdpnepnfhbonaaGreatDoor
open Go.RowKit
set_option linter.unusedVariables false
set_option maxRecDepth 100000

end Go.Proofs.YtpdpnepnfhbonaaGreatDoor

namespace Go.Proofs.YtpdpnepnfhbonaaGreatDoor
open Go.RowKit
set_option linter.unusedVariables false

end Go.Proofs.YtpdpnepnfhbonaaGreatDoor

namespace Go.Proofs.YtpdpnepnfhbonaaGreatDoor
open Go.RowKit
set_option linter.unusedVariables false
section
variable {P : Program}
end
def short (ms : List Wr) : Prop := ∀ x ∈ ms, x.data.size ≤ 80
end Go.Proofs.YtpdpnepnfhbonaaGreatDoor

namespace Go.Proofs.YtpdpnepnfhbonaaGreatDoor
open Go.RowKit
set_option linter.unusedVariables false

end Go.Proofs.YtpdpnepnfhbonaaGreatDoor

namespace Go.Proofs.YtpdpnepnfhbonaaGreatDoor
open Go.RowKit
set_option linter.unusedVariables false
set_option maxRecDepth 100000

end Go.Proofs.YtpdpnepnfhbonaaGreatDoor

namespace Go.Proofs.YtpdpnepnfhbonaaGreatDoor
open Go.RowKit
set_option linter.unusedVariables false
set_option maxRecDepth 100000

end Go.Proofs.YtpdpnepnfhbonaaGreatDoor

namespace Go.Proofs.YtpdpnepnfhbonaaGreatDoor
open Go.RowKit
set_option linter.unusedVariables false
set_option maxRecDepth 100000

end Go.Proofs.YtpdpnepnfhbonaaGreatDoor

namespace Go.Proofs.YtpdpnepnfhbonaaGreatDoor
open Go.RowKit
set_option linter.unusedVariables false
set_option maxRecDepth 100000

theorem l01ReadAt (ao bo : Option Addr) (ca cb : Nat) (ss : List ByteArray) (xs : List Wr) (h a : Int) (T : ByteArray) (w : World) (hd : diskB ss xs = true) (h0 : 0 ≤ a) (h3 : a ≤ 63) (hT : readV ss xs h a = T) (h1 : Ss w ao ss) (h2 : Ios w bo xs) :
    Calls Tryz.prog 40 #[.agg #[.slice ao ss.length ca, .slice bo xs.length cb], .int .i64 h, .int .i64 a] w fun e w' => e = .returned (.string T) ∧ Below w.heap.size w w' := by
  obtain ⟨l1, l2⟩ := diskB_len hd
  obtain ⟨n, rfl⟩ := Int.eq_ofNat_of_zero_le h0
  subst hT
  exact l01Read_any ao bo ca cb ss xs h n w (by omega) (by omega) (by unfold maxLen; omega) h1 h2
end Go.Proofs.YtpdpnepnfhbonaaGreatDoor

namespace Go.Proofs.YtpdpnepnfhbonaaGreatDoor
open Go.RowKit
set_option linter.unusedVariables false
set_option maxRecDepth 100000

def cdO (s : ByteArray) : List Int := if cdB s = true then cdL s else []
theorem cdN_iff (p : Int) : cdN p = true ↔ p / 16 ^ 6 = 0 := by simp [cdN]

set_option maxHeartbeats 3200000 in
theorem l08Decode_any (s : ByteArray) (w : World) (hs : s.size ≤ 65536) :
    Calls Tryz.prog 41 #[.string s] w fun e w' => ∃ v, e = .returned (.tuple #[v, .bool (cdB s)]) ∧ OwnN w' w.heap.size v (cdO s) ∧ Below w.heap.size w w' := by
  obtain ⟨j0, hj, hy0, hy1, hy2⟩ := info_parts infoM
  go_enter Tryz.func41, Tryz.ntmps41
  go_wp2_with fail
  refine (l02Open_any s 2 _ hs).mono ?_
  rintro e w1 ⟨v, rfl, ⟨qo, qa, rfl, ho⟩, hb1⟩
  have HB1 := hide hb1
  have HI := hide (ownRN ho)
  clear ho hb1
  cases hop : openB s 2
  · have HE := hide (cd_open hop)
    have HCO : Hid (cdO s = []) := hide (by rw [cdO, cd_open hop]; rfl)
    clear hop
    go_wp2
    go_ret2
    exact ⟨.slice (some ⟨w1.heap.size, 0, none⟩) 0 0, ret_nb rfl (unhide HE).symm, by rw [unhide HCO]; exact OwnN.nil _ _ _, fr (unhide HB1) (Joins.below_alloc1 _ _)⟩
  by_cases h4 : (openL s 2).length = 4
  · have HIN := hide (openL_in hop)
    have H4 := hide h4
    have HOP := hide hop
    have b4 : ((((openL s 2).length : Nat) : Int) != 4) = false := by simp [h4]
    have HA : Hid (Below w1.heap.size w1 (w1.alloc (.cells #[] 3))) := hide (Joins.below_alloc1 _ _)
    have HCL : Hid (cdL s = sxA (openL s 2) 4) := hide rfl
    have HNO : Hid (∀ k (hk : k < (openL s 2).length), cdN (openL s 2)[k] = false → cdB s = false) := hide (fun k hk h => cd_num hk h)
    have HYES : Hid ((∀ j (hj : j < (openL s 2).length), cdN (openL s 2)[j] = true) → cdB s = true) := hide (fun h => cd_yes (unhide HOP) (unhide H4) h)
    clear hop h4
    generalize openL s 2 = ns at *
    go_wp2
    go_loopw [6, 7] (fun o i wr => ∃ (k : Nat) (po : Option Addr) (pa : Nat), k ≤ ns.length ∧ i = .int .i64 k ∧ o = .slice po (6 * k) pa ∧ Hid (∀ j (h : j < ns.length), j < k → cdN ns[j] = true) ∧ Hid (OwnR wr w1.heap.size 3 1 (.slice po (6 * k) pa) (6 * k) (intV (sxA ns k))) ∧ Hid (Below w1.heap.size w1 wr)) (fun _ i _ => ns.length - (intOf i).toNat)
    case atStart => exact ⟨0, _, _, Nat.zero_le _, rfl, rfl, hide (fun j _ h => by omega), hide (.inl ⟨rfl, rfl, _, rfl⟩), HA⟩
    case round =>
      obtain ⟨k, po, pa, hk, rfl, rfl, HAL, HO, HB⟩ := hrel
      by_cases hlt : k < ns.length
      · obtain ⟨b, off, rfl, hcl⟩ := (unhide HI).below (unhide HB) k hlt
        obtain ⟨hp0, hp1⟩ := unhide HIN k hlt
        have HP := hide (And.intro hp0 hp1)
        have HK4 : Hid (k < 4) := hide (by have := unhide H4; omega)
        have HSU := hide (sxA_succ hlt)
        have HP6 : Hid (cdN ns[k] = true ↔ ns[k] / 16 ^ 6 = 0) := hide (cdN_iff _)
        have HNK := hide (unhide HNO k hlt)
        have HAK := hide (fun (h : cdN ns[k] = true) => all_succ hlt (unhide HAL) h)
        have HSL := hide (sxA_len ns k hk)
        go_wp2
        clear hcl
        generalize ns[k] = p at *
        go_loopw [6, 8, 9] (fun o n j wq => ∃ (m : Nat) (ro : Option Addr) (ra : Nat), m ≤ 6 ∧ j = .int .i64 m ∧ n = .int .i64 (p / 16 ^ m) ∧ o = .slice ro (6 * k + m) ra ∧ Hid (OwnR wq w1.heap.size 3 1 (.slice ro (6 * k + m) ra) (6 * k + m) (intV (sxA ns k ++ sxT p m))) ∧ Hid (Below w1.heap.size w1 wq)) (fun _ _ j _ => 6 - (intOf j).toNat)
        case atStart => exact ⟨0, po, pa, by omega, rfl, by simp, rfl, hide (by simpa [sxT] using unhide HO), HB⟩
        case round =>
          clear HO HB
          obtain ⟨m, ro, ra, hm, rfl, rfl, rfl, HO, HB⟩ := hrel
          by_cases hm6 : m < 6
          · obtain ⟨r0, r1⟩ := rest_in (unhide HP).1 (unhide HP).2 m
            have HRS := hide (rest_succ p m)
            have HSS := hide (sxT_succ p m)
            have hm6' : (m : Int) < 6 := by omega
            have hkm : 6 * k + m ≤ 1000 := by have := unhide HK4; omega
            generalize p / 16 ^ m = V at *
            have HOA := hide ((unhide HO).below (Joins.below_alloc1 _ (.cells #[.int .i64 (V % 16)] 3)))
            have HBA := hide (fr (unhide HB) (Joins.below_alloc1 _ (.cells #[.int .i64 (V % 16)] 3)))
            have HSZ := hide (unhide HB).size
            go_wp2_with (at_builtin; refine wpList_append_one rfl _ _ 27 rfl w1.heap.size 3 j0 (.int .i64 0) 1 8 Tryz.underlying27 hj hy0 hy1 hy2 rfl (by omega) ro (6 * k + m) ra (intV (sxA ns k ++ sxT p m)) rfl (unhide HOA) (by have := unhide HSZ; simp; omega) ⟨wr.heap.size, 0, none⟩ _ [.int .i64 (V % 16)] rfl rfl (byte_news wr _ _) (int_one _) (by unfold maxLen; omega) (by omega) ?_; intro g2 cap2 wA hoA hkA; have HSF := hide (And.intro hoA (keep_below (unhide HBA) (unhide HOA) (Nat.le_refl _) hkA)); clear hoA hkA)
            go_roundw
            case rel => exact ⟨m + 1, some ⟨g2, 0, none⟩, cap2, by omega, by go_num, by rw [← unhide HRS], by rfl, hide (.inr ⟨by omega, by rw [unhide HSS, ← List.append_assoc, intV_snoc]; exact (unhide HSF).1⟩), hide (unhide HSF).2⟩
            case measure => simp [intOf]; omega
          · have hm66 : m = 6 := by omega
            subst hm66
            obtain ⟨r0, r1⟩ := rest_in (unhide HP).1 (unhide HP).2 6
            have HON : Hid (OwnR wr w1.heap.size 3 1 (.slice ro (6 * (k + 1)) ra) (6 * (k + 1)) (intV (sxA ns (k + 1)))) := hide (by rw [← unhide HSU]; exact unhide HO)
            by_cases hz : p / 16 ^ 6 = 0
            · have HAN := hide (unhide HAK ((unhide HP6).2 hz))
              have hgt : ¬ (0 < p / 16 ^ 6) := by omega
              have hk4i : (k : Int) < 4 := by have := unhide HK4; omega
              clear hz
              generalize p / 16 ^ 6 = V at *
              go_wp2
              go_roundw
              case rel => exact ⟨k + 1, ro, ra, by omega, by go_num, by rfl, HAN, HON, HB⟩
              case measure => simp [intOf]; omega
            · have HE := hide (unhide HNK (by rw [← Bool.not_eq_true]; exact fun h => hz ((unhide HP6).1 h)))
              have HCO : Hid (cdO s = []) := hide (by rw [cdO, unhide HE]; rfl)
              have hgt : 0 < p / 16 ^ 6 := by omega
              clear hz
              generalize p / 16 ^ 6 = V at *
              go_wp2
              go_ret2
              exact ⟨.slice (some ⟨wr.heap.size, 0, none⟩) 0 0, ret_nb rfl (unhide HE).symm, by rw [unhide HCO]; exact OwnN.nil _ _ _, fr (unhide HB1) (fr (unhide HB) (Joins.below_alloc1 _ _))⟩
      · have hk4 : k = 4 := by have := unhide H4; omega
        subst hk4
        have HE := hide (unhide HYES (fun j h => unhide HAL j h (by have := unhide H4; omega)))
        have HCO : Hid (cdO s = sxA ns 4) := hide (by rw [cdO, unhide HE, if_pos rfl, unhide HCL])
        have HL24 := hide (sxA_len ns 4 (by have := unhide H4; omega))
        have HSZ := hide (unhide HB1).size
        go_wp2
        go_ret2
        refine ⟨.slice po (6 * 4) pa, ret_nb rfl (unhide HE).symm, ?_, fr (unhide HB1) (unhide HB)⟩
        rw [unhide HCO]
        refine ⟨po, pa, by rw [unhide HL24], ?_⟩
        rw [unhide HL24]
        exact (unhide HO).base (unhide HSZ)
  · have HE := hide (cd_len h4)
    have HCO : Hid (cdO s = []) := hide (by rw [cdO, cd_len h4]; rfl)
    have b4 : ((((openL s 2).length : Nat) : Int) != 4) = true := by simp; omega
    clear hop h4
    go_wp2
    go_ret2
    exact ⟨.slice (some ⟨w1.heap.size, 0, none⟩) 0 0, ret_nb rfl (unhide HE).symm, by rw [unhide HCO]; exact OwnN.nil _ _ _, fr (unhide HB1) (Joins.below_alloc1 _ _)⟩

end Go.Proofs.YtpdpnepnfhbonaaGreatDoor

namespace Go.Proofs.YtpdpnepnfhbonaaGreatDoor
open Go.RowKit
set_option linter.unusedVariables false
set_option maxRecDepth 100000

end Go.Proofs.YtpdpnepnfhbonaaGreatDoor

namespace Go.Proofs.YtpdpnepnfhbonaaGreatDoor
open Go.RowKit
set_option linter.unusedVariables false
set_option maxRecDepth 100000

def fdI (m : Img) (name : ByteArray) : Int := if imFind m name < m.snaps.length then (imFind m name : Int) else -1
theorem find_here {m : Img} {name : ByteArray} {k : Nat} (hk : k < m.snaps.length) (h0 : m.snaps[k].name = name) (h : ∀ j (hj : j < m.snaps.length), j < k → m.snaps[j].name ≠ name) : imFind m name = k := by
  unfold imFind
  rw [List.findIdx_eq hk]
  refine ⟨by simp [h0], fun j hj => ?_⟩
  have := h j (by omega) hj
  simp [this]
theorem find_none {m : Img} {name : ByteArray} (h : ∀ j (hj : j < m.snaps.length), m.snaps[j].name ≠ name) : ¬ imFind m name < m.snaps.length := by
  unfold imFind
  rw [List.findIdx_lt_length]
  rintro ⟨x, hx, h0⟩
  obtain ⟨j, hj, rfl⟩ := List.getElem_of_mem hx
  have := h j hj
  simp at h0
  exact this h0

theorem str_one (n : ByteArray) : ∀ u ∈ [Value.string n], u.oneCell' = true := by
  intro u hu
  simp at hu
  subst hu
  rfl
end Go.Proofs.YtpdpnepnfhbonaaGreatDoor

namespace Go.Proofs.YtpdpnepnfhbonaaGreatDoor
open Go.RowKit
set_option linter.unusedVariables false
set_option maxRecDepth 100000

end Go.Proofs.YtpdpnepnfhbonaaGreatDoor

namespace Go.Proofs.YtpdpnepnfhbonaaGreatDoor
open Go.RowKit
set_option linter.unusedVariables false
set_option maxRecDepth 100000

end Go.Proofs.YtpdpnepnfhbonaaGreatDoor
