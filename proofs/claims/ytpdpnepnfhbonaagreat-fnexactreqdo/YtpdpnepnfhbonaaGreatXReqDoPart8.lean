import Derived.Test.YtpdpnepnfhbonaaGreatRows
import Derived.Test.YtpdpnepnfhbonaaGreatXReqDoPart1
import Derived.Test.YtpdpnepnfhbonaaGreatXReqDoPart7
import Derived.WalkKit
import Derived.WalkSpells
import Derived.KernelRfl
import Derived.Deep.RegionWith
import Derived.Laws.CopyRow
import Derived.Laws.CopyOwn
import Derived.Test.YtpdpnepnfhbonaaGreatXReqDoPart3
import Derived.LoopN
import Derived.BigQuiet
import Derived.Deep.QuietTactic
import Derived.Deep.CutRange
import Derived.Laws.ResultCell
import Derived.Laws.Cover3
import Derived.Deep.MidRow
import Derived.Maps.Own
import Derived.Maps.OwnOps
import Derived.Maps.OwnSet
import Derived.Maps.RangeWalk
import Derived.Maps.Views
import Derived.Test.YtpdpnepnfhbonaaGreatXReqDoPart2
import Derived.Test.YtpdpnepnfhbonaaGreatXReqDoPart4
import Derived.Test.YtpdpnepnfhbonaaGreatXReqDoPart6

namespace Go.Proofs.YtpdpnepnfhbonaaGreat
open Go.RowKit
set_option linter.unusedVariables false
set_option maxRecDepth 100000

theorem ret_3i {a b c x y z : Int} (h1 : a = x) (h2 : b = y) (h3 : c = z) : Ending.returned (.tuple #[.int .i64 a, .int .i64 b, .int .i64 c]) = .returned (.tuple #[.int .i64 x, .int .i64 y, .int .i64 z]) := by rw [h1, h2, h3]

set_option maxHeartbeats 1600000 in
theorem entryOf_impl (ao : Option Addr) (cap : Nat) (xs : List Int) (g : Int) (w : World) (hl : xs.length ≤ maxLen) (hc : Is w ao xs) :
    Calls Tryz.prog 116 #[.slice ao xs.length cap, .int .i64 g] w fun e w' => e = .returned (.tuple #[.int .i64 (enK xs g), .int .i64 (enC xs g), .int .i64 (enF xs g)]) ∧ Below w.heap.size w w' := by
  have HC := hide hc
  have HL := hide hl
  unfold maxLen at hl
  clear hc
  have hws : IntKind.i64.wrap ((xs.length : Int) - 1) = (xs.length : Int) - 1 := by rw [IntKind.wrap_i64]; omega
  rcases en_cases xs g with ⟨h0, h1, h2, h3⟩ | ⟨hb, hg, h1, h2, h3⟩ | ⟨hb, q, rfl, hq, h1, h2, h3⟩
  · have HE := hide (And.intro h1 (And.intro h2 h3))
    have hne := tbF_ne h0
    clear h0 h1 h2 h3
    go_enter Tryz.func116, Tryz.ntmps116
    go_wp2_with (go_at_call 146; refine (tableFault_any _ _ xs _ (unhide HL) (unhide HC)).mono ?_; rintro e w' ⟨rfl, hw⟩; replace hw := hw.symm; subst hw)
    refine bodyPost_ret (v := .tuple #[.int .i64 0, .int .i64 0, .int .i64 (tbF xs)]) (by simp [results, Tryz.results116]) rfl ⟨?_, Below.refl _ _⟩
    exact ret_3i (unhide HE).2.1.symm (unhide HE).2.2.symm (unhide HE).1.symm
  · have HE := hide (And.intro h1 (And.intro h2 h3))
    have H0 := hide (tbF_ok hb)
    clear h1 h2 h3
    go_enter Tryz.func116, Tryz.ntmps116
    go_wp2_with (first | (go_at_call 146; refine (tableFault_any _ _ xs _ (unhide HL) (unhide HC)).mono ?_; rintro e w' ⟨rfl, hw⟩; replace hw := hw.symm; subst hw; rw [unhide H0]) | (go_at_call 124; refine (within_any _ _ _ _).mono ?_; rintro e w' ⟨rfl, hw⟩; replace hw := hw.symm; subst hw; rw [hg]))
    refine bodyPost_ret (v := .tuple #[.int .i64 0, .int .i64 0, .int .i64 4]) (by simp [results, Tryz.results116]) rfl ⟨?_, Below.refl _ _⟩
    exact ret_3i (unhide HE).2.1.symm (unhide HE).2.2.symm (unhide HE).1.symm
  · have HE := hide (And.intro h1 (And.intro h2 h3))
    have H0 := hide (tbF_ok hb)
    have hg : betw (q : Int) 0 ((xs.length : Int) - 1) = true := betw_yes (by omega) (by omega)
    have hqi : (q : Int) < (xs.length : Int) := by omega
    have HI := hide (tbB_at hb q hq)
    obtain ⟨b, off, rfl, hcl⟩ := unhide HC q hq
    clear h1 h2 h3
    go_enter Tryz.func116, Tryz.ntmps116
    go_wp2_with (first | (go_at_call 146; refine (tableFault_any _ _ xs _ (unhide HL) (unhide HC)).mono ?_; rintro e w' ⟨rfl, hw⟩; replace hw := hw.symm; subst hw; rw [unhide H0]) | (go_at_call 124; refine (within_any _ _ _ _).mono ?_; rintro e w' ⟨rfl, hw⟩; replace hw := hw.symm; subst hw; rw [hg]) | (go_at_call 147; refine (splitEntry_any _ _ (by have := unhide HI; omega) (by have := unhide HI; omega)).mono ?_; rintro e w' ⟨rfl, hw⟩; replace hw := hw.symm; subst hw))
    refine bodyPost_ret (v := .tuple #[.int .i64 (min xs[q] 2), .int .i64 (max 0 (xs[q] - 2)), .int .i64 0]) (by simp [results, Tryz.results116]) rfl ⟨?_, Below.refl _ _⟩
    exact ret_3i (unhide HE).2.1.symm (unhide HE).2.2.symm (unhide HE).1.symm

theorem rz_splice (xs : List Int) (q : Nat) (M : List Value) (hM : M = List.replicate q (.int .i64 0)) : splice M 0 (intV (xs.take q)) = intV (rzTo xs q) := by
  subst hM
  apply List.ext_getElem?
  intro i
  unfold splice rzTo intV
  simp only [List.take_zero, List.nil_append, Nat.zero_add, List.length_map, List.length_take, List.getElem?_append, List.getElem?_map, List.getElem?_take, List.drop_replicate, List.getElem?_replicate, List.getD]
  by_cases hi : i < min q xs.length
  · have h1 : i < q := by omega
    have h2 : i < xs.length := by omega
    simp [hi, h1, h2]
  · by_cases hq : i < q
    · have h2 : ¬ i < xs.length := by omega
      simp [hi, hq, List.getElem?_eq_none (show xs.length ≤ i by omega)]
      omega
    · simp [hi, hq]
      omega
theorem sizeN1 : (Tryz.prog.info? 3).map (·.size) = some 1 := by kernel_rfl
theorem takeV_one (xs : List Int) : ∀ v ∈ intV xs, v.oneCell' = true := by
  intro v hv
  simp only [intV, List.mem_map] at hv
  obtain ⟨n, _, rfl⟩ := hv
  rfl

set_option maxHeartbeats 1600000 in
theorem resizeTable_impl (ao : Option Addr) (cap : Nat) (xs : List Int) (n : Int) (w : World) (hl : xs.length ≤ maxLen) (hc : Is w ao xs) :
    Calls Tryz.prog 126 #[.slice ao xs.length cap, .int .i64 n] w fun e w' => ∃ v, e = .returned (.tuple #[v, .int .i64 (rzF xs n)]) ∧ OwnN w' w.heap.size v (rzL xs n) ∧ Below w.heap.size w w' := by
  have HC := hide hc
  have HL := hide hl
  unfold maxLen at hl
  clear hc
  rcases rz_cases xs n with ⟨h0, h1, h2⟩ | ⟨hb, hg, h1, h2⟩ | ⟨hb, q, rfl, hq, h1, h2⟩
  · have HE := hide (And.intro h1 h2)
    have hne := tbF_ne h0
    clear h0 h1 h2
    go_enter Tryz.func126, Tryz.ntmps126
    go_wp2_with (go_at_call 146; refine (tableFault_any _ _ xs _ (unhide HL) (unhide HC)).mono ?_; rintro e w' ⟨rfl, hw⟩; replace hw := hw.symm; subst hw)
    go_ret2
    exact ⟨.slice none 0 0, ret_ni rfl (unhide HE).1.symm, by rw [(unhide HE).2]; exact OwnN.nil _ _ _, Below.refl _ _⟩
  · have HE := hide (And.intro h1 h2)
    have H0 := hide (tbF_ok hb)
    clear h1 h2
    go_enter Tryz.func126, Tryz.ntmps126
    go_wp2_with (first | (go_at_call 146; refine (tableFault_any _ _ xs _ (unhide HL) (unhide HC)).mono ?_; rintro e w' ⟨rfl, hw⟩; replace hw := hw.symm; subst hw; rw [unhide H0]) | (go_at_call 124; refine (within_any _ _ _ _).mono ?_; rintro e w' ⟨rfl, hw⟩; replace hw := hw.symm; subst hw; rw [hg]))
    go_ret2
    exact ⟨.slice none 0 0, ret_ni rfl (unhide HE).1.symm, by rw [(unhide HE).2]; exact OwnN.nil _ _ _, Below.refl _ _⟩
  · have HE := hide (And.intro h1 h2)
    have H0 := hide (tbF_ok hb)
    have HX := hide (tbB_len hb)
    have hg : betw (q : Int) 0 12 = true := betw_yes (by omega) (by omega)
    obtain ⟨i0, hi, hz0, hz1, hz2⟩ := info_parts infoM
    have HCS : Hid (0 < (intV (xs.take q)).length → ∃ ad, ao = some ad ∧ ad.block < w.heap.size ∧ ∀ j v, (intV (xs.take q))[j]? = some v → w.cell? (ad.add j) = some v) := hide (fun hp => by
      rw [intV_length, List.length_take] at hp
      obtain ⟨b, off, e, hc'⟩ := unhide HC 0 (by omega)
      refine ⟨_, e, World.block_lt_of_cell? _ _ hc', fun j v hv => ?_⟩
      have hj : j < min q xs.length := by have := (List.getElem?_eq_some_iff.1 hv).1; rwa [intV_length, List.length_take] at this
      obtain ⟨b2, off2, e2, hc2⟩ := unhide HC j (by omega)
      rw [e] at e2
      simp only [Option.some.injEq, Addr.mk.injEq, and_true] at e2
      obtain ⟨rfl, rfl⟩ := e2
      rw [intV_get (by rw [List.length_take]; omega), List.getElem_take] at hv
      cases hv
      rw [show Addr.add ⟨b, off, none⟩ j = ⟨b, off + j, none⟩ from by unfold Addr.add; split <;> simp_all]
      exact hc2)
    clear h1 h2
    go_enter Tryz.func126, Tryz.ntmps126
    go_wp2_with (first | (go_at_call 146; refine (tableFault_any _ _ xs _ (unhide HL) (unhide HC)).mono ?_; rintro e w' ⟨rfl, hw⟩; replace hw := hw.symm; subst hw; rw [unhide H0]) | (go_at_call 124; refine (within_any _ _ _ _).mono ?_; rintro e w' ⟨rfl, hw⟩; replace hw := hw.symm; subst hw; rw [hg]) | (at_make; refine wpList_make_full _ rfl _ _ 22 rfl w.heap.size 3 i0 _ 1 Tryz.underlying22 hi hz0 hz1 _ _ _ _ q rfl rfl rfl rfl ?c1 ?c2 ?c3 ?_))
    case c1 => rw [hz2]; omega
    case c2 => unfold maxLen; omega
    case c3 => exact Nat.le_refl _
    intro w1 hown hgrow
    have hB : Below w.heap.size w w1 := (Below.refl _ _).grown hgrow (Nat.le_refl _) (fun _ h => by cases h)
    obtain ⟨M, hM⟩ : ∃ M, M = (madeCells #[Value.int .i64 0] q).toList := ⟨_, rfl⟩
    rw [← hM] at hown
    have HM : Hid (M = List.replicate q (.int .i64 0)) := hide (by
      rw [hM]
      apply List.ext_getElem?
      intro i
      simp [madeCells, List.getElem?_replicate, Nat.mod_one]
      by_cases hi : i < q <;> simp [hi])
    have HB := hide hB
    have HG : Hid (w1.heap[w.heap.size]? = some (.cells M.toArray 3 (0, 0))) := hide (by
      rcases hown.2 with ⟨e, _⟩ | ⟨g', cap', cur, e, hB', hg', hnc, hcm, hcs, ht⟩
      · simp at e
      · simp only [Value.slice.injEq, Option.some.injEq, Addr.mk.injEq, and_true, true_and] at e
        obtain ⟨rfl, rfl⟩ := e
        rw [hg', ← ht, List.take_of_length_le (by simp [hcs])])
    have HLM : Hid (M.length = q) := hide (by rw [unhide HM]; simp)
    have HLT : Hid ((intV (xs.take q)).length = Nat.min xs.length q) := hide (by rw [intV_length, List.length_take, Nat.min_comm])
    have HO1 := hide (takeV_one (xs.take q))
    have HSP := hide (rz_splice xs q M (unhide HM))
    have HLZ := hide (rzTo_len xs q)
    clear hown hgrow hB hM HM
    generalize intV (xs.take q) = cs at *
    go_wp2_with (refine wpList_copy_splice rfl _ _ 22 22 rfl 3 Tryz.underlying22 sizeN1 _ _ q q xs.length cap rfl rfl w.heap.size 0 M 3 (unhide HG) cs (unhide HLT) (fun hp => ⟨rfl, (unhide HCS hp).imp fun ad h => ⟨h.1, fun j v hv => ((unhide HB).cell (by unfold Addr.add; split <;> exact h.2.1)).trans (h.2.2 j v hv)⟩⟩) (by rw [unhide HLT, unhide HLM, Nat.zero_add]; exact Nat.min_le_right _ _) (unhide HO1) w.heap.size w (unhide HB) (Nat.le_refl _) ?_; intro w2 hg2 hb2; have HB2 := hide hb2; have HG2 := hide (unhide hg2); clear hb2 hg2)
    go_ret2
    refine ⟨.slice (some ⟨w.heap.size, 0, none⟩) q q, ret_ni rfl (unhide HE).1.symm, ?_, unhide HB2⟩
    rw [(unhide HE).2]
    refine ⟨some ⟨w.heap.size, 0, none⟩, q, by rw [unhide HLZ], ?_⟩
    rw [unhide HLZ]
    by_cases h0 : q = 0
    · subst h0
      exact .inl ⟨rfl, by simp [rzTo, intV], _, rfl⟩
    · refine .inr ⟨by omega, ?_, .inr ⟨w.heap.size, q, _, rfl, Nat.le_refl _, unhide HG2, Nat.le_refl _, by unfold maxLen; omega, ?_, ?_⟩⟩
      · rw [intV_length, unhide HLZ]; omega
      · rw [unhide HSP]; simp [intV_length, unhide HLZ]
      · rw [unhide HSP, List.take_of_length_le (by simp [intV_length, unhide HLZ])]

end Go.Proofs.YtpdpnepnfhbonaaGreat

namespace Go.Proofs.YtpdpnepnfhbonaaGreat
open Go.RowKit
set_option linter.unusedVariables false
set_option maxRecDepth 100000

theorem sizeA24 : (Tryz.prog.info? 99).map (·.size) = some 24 := by kernel_rfl
theorem und24 : Tryz.prog.underlying 99 = some (.array 24 3) := by kernel_rfl
theorem sizeA {xs : List Int} (h : xs.length = 24) : (Tryz.prog.info? 99).map (·.size) = some (intV xs).toArray.size := by rw [intV_size, h]; exact sizeA24
theorem sizeL {xs : List Int} (h : xs.length = 24) : (Tryz.prog.info? 99).map (·.size) = some (intV xs).length := by rw [intV_length, h]; exact sizeA24

set_option maxHeartbeats 800000 in
theorem refsOK_impl (ao : Option Addr) (cap : Nat) (xs : List Int) (w : World) (hl : xs.length ≤ maxLen) (hc : Is w ao xs) :
    Calls Tryz.prog 99 #[.slice ao xs.length cap] w fun e w' => e = .returned (.bool (ctB xs)) ∧ w' = w := by
  have HC := hide hc
  clear hc
  unfold maxLen at hl
  by_cases h24 : xs.length = 24
  · have hb : ((xs.length : Int) != 24) = false := by simp [h24]
    have H24 := hide h24
    clear h24
    go_enter Tryz.func99, Tryz.ntmps99
    go_wp2
    go_loop [10] (fun i => ∃ k : Nat, k ≤ xs.length ∧ i = .int .i64 k ∧ Hid (∀ j (h : j < xs.length), j < k → cnt1 xs[j] = true)) (fun i => xs.length - (intOf i).toNat)
    case atStart => exact ⟨0, Nat.zero_le _, rfl, hide (fun j _ h => by omega)⟩
    case round =>
      obtain ⟨k, hk, rfl, HA⟩ := hrel
      by_cases hlt : k < xs.length
      · obtain ⟨b, off, rfl, hc⟩ := unhide HC k hlt
        by_cases hn : cnt1 xs[k] = true
        · have HN := hide (all_succ hlt (unhide HA) hn)
          have hn' : betw xs[k] 0 15 = true := hn
          clear hn
          go_wp2_with (go_at_call 124; refine (within_any _ _ _ _).mono ?_; rintro e w' ⟨rfl, rfl⟩)
          go_round
          case rel => exact ⟨k + 1, by omega, by go_num, HN⟩
          case measure => simp [intOf]; omega
        · have hn0 : cnt1 xs[k] = false := by simpa using hn
          have hn' : betw xs[k] 0 15 = false := hn0
          have HF := hide (ctB_noat hlt hn0)
          clear hn hn0
          go_wp2_with (go_at_call 124; refine (within_any _ _ _ _).mono ?_; rintro e w' ⟨rfl, rfl⟩)
          go_ret
          exact ⟨ret_bool (unhide HF).symm, rfl⟩
      · have HF := hide (ctB_of (unhide H24) (fun j h => unhide HA j h (by omega)))
        go_wp2
        go_ret
        exact ⟨ret_bool (unhide HF).symm, rfl⟩
  · have hb : ((xs.length : Int) != 24) = true := by simp; omega
    have HF := hide (ctB_nolen h24)
    clear h24
    go_enter Tryz.func99, Tryz.ntmps99
    go_wp2
    go_ret
    exact ⟨ret_bool (unhide HF).symm, rfl⟩

abbrev ctV (xs : List Int) : Value := .agg (intV xs).toArray
theorem ret_ci {xs ys : List Int} {a b : Int} (h : xs = ys) (k : a = b) : Ending.returned (.tuple #[ctV xs, .int .i64 a]) = .returned (.tuple #[ctV ys, .int .i64 b]) := by rw [h, k]
theorem arr_new (w : World) : (w.alloc (.cells #[.int .i64 0, .int .i64 0, .int .i64 0, .int .i64 0, .int .i64 0, .int .i64 0, .int .i64 0, .int .i64 0, .int .i64 0, .int .i64 0, .int .i64 0, .int .i64 0, .int .i64 0, .int .i64 0, .int .i64 0, .int .i64 0, .int .i64 0, .int .i64 0, .int .i64 0, .int .i64 0, .int .i64 0, .int .i64 0, .int .i64 0, .int .i64 0] 99)).heap[w.heap.size]? = some (.cells (intV zero24).toArray 99 (0, 0)) := heap_alloc_new w _
theorem load_ct (W : World) {g : Nat} {xs : List Int} (h : W.heap[g]? = some (.cells (intV xs).toArray 99 (0, 0))) (hl : xs.length = 24) : (loadVar 99 ⟨g, 0, none⟩).run Tryz.prog W = .ok (ctV xs) W :=
  run_loadVar_row W g 99 99 (intV xs).toArray (0, 0) _ h und24 rfl (sizeA hl)

theorem res_ct {W : World} {g : Nat} {xs : List Int} {p u : Value} (h : W.heap[g]? = some (.cells (intV xs).toArray 99 (0, 0))) (hl : xs.length = 24) (hp : p = .pointer (some ⟨g, 0, none⟩)) : (((asAddr p).run Tryz.prog W).andThen fun a w₁ => ((loadVar 99 a).run Tryz.prog w₁).andThen fun v w₂ => .ok (Value.tuple #[v, u]) w₂) = .ok (Value.tuple #[ctV xs, u]) W := by
  subst hp
  simp only [asAddr, Sem.run_pure, Result.andThen_ok, load_ct W h hl]

set_option maxHeartbeats 1600000 in
theorem countsOf_any (ao : Option Addr) (cap : Nat) (xs : List Int) (w : World) (hl : xs.length ≤ maxLen) (hc : Is w ao xs) :
    Calls Tryz.prog 149 #[.slice ao xs.length cap] w fun e w' => e = .returned (.tuple #[ctV (coR xs), .int .i64 (ctF xs)]) ∧ Below w.heap.size w w' := by
  have HN := hide (arr_new w)
  have HA := hide (Joins.below_alloc1 w (.cells #[.int .i64 0, .int .i64 0, .int .i64 0, .int .i64 0, .int .i64 0, .int .i64 0, .int .i64 0, .int .i64 0, .int .i64 0, .int .i64 0, .int .i64 0, .int .i64 0, .int .i64 0, .int .i64 0, .int .i64 0, .int .i64 0, .int .i64 0, .int .i64 0, .int .i64 0, .int .i64 0, .int .i64 0, .int .i64 0, .int .i64 0, .int .i64 0] 99))
  have HC := hide (hc.below (unhide HA))
  have HL := hide hl
  unfold maxLen at hl
  clear hc
  rcases ctF_cases xs with ⟨h1, h2, h3⟩ | ⟨h1, hb, h2, h3⟩ | ⟨hb, h2, h3⟩
  · have HE := hide (And.intro h2 h3)
    clear h2 h3
    go_enter Tryz.func149, Tryz.ntmps149
    go_upto_region 1 with fail
    revert HN HA HC
    generalize (w.alloc _) = W1
    intro HN HA HC
    go_wp2_with (refine wpList_store_arr rfl 99 _ _ rfl w.heap.size rfl (intV zero24).toArray rfl _ _ (unhide HN) sizeA24 rfl (intV_one _) ?_; intro w2 hn2 hk2 hs2; have HN2 := hide hn2; have HB2 := hide (keep_one (unhide HA) hk2 (Nat.le_refl _)); clear hn2 hk2 hs2)
    refine bodyPost_ret (v := .tuple #[ctV zero24, .int .i64 2]) ?_ rfl ⟨?_, unhide HB2⟩
    · rw [results_cell_tmp Tryz.results149]
      exact res_ct (unhide HN2) rfl rfl
    · exact ret_ci (unhide HE).2.symm (unhide HE).1.symm
  · have HE := hide (And.intro h2 h3)
    clear h2 h3
    go_enter Tryz.func149, Tryz.ntmps149
    go_upto_region 1 with fail
    revert HN HA HC
    generalize (w.alloc _) = W1
    intro HN HA HC
    go_wp2_with (first | (go_at_call 99; refine (refsOK_impl ao cap xs _ (unhide HL) (unhide HC)).mono ?_; rintro e w' ⟨rfl, hw⟩; replace hw := hw.symm; subst hw; rw [hb]) | (refine wpList_store_arr rfl 99 _ _ rfl w.heap.size rfl (intV zero24).toArray rfl _ _ (unhide HN) sizeA24 rfl (intV_one _) ?_; intro w2 hn2 hk2 hs2; have HN2 := hide hn2; have HB2 := hide (keep_one (unhide HA) hk2 (Nat.le_refl _)); clear hn2 hk2 hs2))
    refine bodyPost_ret (v := .tuple #[ctV zero24, .int .i64 1]) ?_ rfl ⟨?_, unhide HB2⟩
    · rw [results_cell_tmp Tryz.results149]
      exact res_ct (unhide HN2) rfl rfl
    · exact ret_ci (unhide HE).2.symm (unhide HE).1.symm
  · have HE := hide (And.intro h2 h3)
    have hlen := ctB_len hb
    have H24 := hide hlen
    obtain ⟨b, off, rfl, hr⟩ := (unhide HC).range (by omega)
    have HR := hide hr
    have har : ∀ W : World, (Instr.arrayAt 99 (.slice (some ⟨b, off, none⟩) xs.length cap)).run Tryz.prog W = .ok (.pointer (some ⟨b, off, none⟩)) W := fun W => run_arrayAt (w := W) 99 3 24 _ _ _ und24 (by omega)
    have hle : ¬ (4096 : Int) < (xs.length : Int) := by omega
    clear h2 h3 hr hlen
    go_enter Tryz.func149, Tryz.ntmps149
    go_upto_region 1 with fail
    revert HN HA HC HR
    generalize (w.alloc _) = W1
    intro HN HA HC HR
    go_wp2_with (first | (go_at_call 99; refine (refsOK_impl _ cap xs _ (unhide HL) (unhide HC)).mono ?_; rintro e w' ⟨rfl, hw⟩; replace hw := hw.symm; subst hw; rw [hb]) | (refine wpList_load_mid rfl 99 _ rfl b off rfl (intV xs) _ (unhide HR) und24 rfl (sizeL (unhide H24)) ?_) | (refine wpList_store_arr rfl 99 _ _ rfl w.heap.size rfl (intV xs).toArray rfl _ _ (unhide HN) (sizeA (unhide H24)) (by rw [intV_size, intV_size, unhide H24]; rfl) (intV_one _) ?_; intro w2 hn2 hk2 hs2; have HN2 := hide hn2; have HB2 := hide (keep_one (unhide HA) hk2 (Nat.le_refl _)); clear hn2 hk2 hs2))
    refine bodyPost_ret (v := .tuple #[ctV xs, .int .i64 0]) ?_ rfl ⟨?_, unhide HB2⟩
    · rw [results_cell_tmp Tryz.results149]
      exact res_ct (unhide HN2) (unhide H24) rfl
    · exact ret_ci (unhide HE).2.symm (unhide HE).1.symm

abbrev VarC (W : World) (g : Nat) (xs : List Int) : Prop := W.heap[g]? = some (.cells (intV xs).toArray 99 (0, 0))
theorem ctF_ne (xs : List Int) (h : ctF xs ≠ 0) : (ctF xs != 0) = true := by simpa using h

theorem intV_ones (xs : List Int) : ∀ v ∈ intV xs, v.oneCell' = true := by
  intro v hv
  simp only [intV, List.mem_map] at hv
  obtain ⟨n, _, rfl⟩ := hv
  rfl
theorem sizeI1 : (Tryz.prog.info? 3).map (·.size) = some 1 := by kernel_rfl
set_option maxHeartbeats 1600000 in
theorem copyI_any (b off cap : Nat) (ss : List Int) (w : World) (hl : ss.length ≤ 1048576) (h0 : 0 < ss.length) (hbl : b < w.heap.size) (hc : w.rangeAt b off (intV ss)) :
    Calls Tryz.prog 117 #[.slice (some ⟨b, off, none⟩) ss.length cap] w fun e w' => e = .returned (.slice (some ⟨w.heap.size, 0, none⟩) ss.length ss.length) ∧ w'.ownsRow w.heap.size 3 1 (.slice (some ⟨w.heap.size, 0, none⟩) ss.length ss.length) ss.length (intV ss) ∧ Below w.heap.size w w' := by
  have hb : ((ss.length : Int) == 0) = false := beq_eq_false_iff_ne.2 (by omega)
  have HCS := hide hc
  have HP := hide h0
  clear hc h0
  obtain ⟨i0, hi, hz0, hz1, hz2⟩ := info_parts infoM
  go_enter Tryz.func117, Tryz.ntmps117
  go_wp2_with (first | (at_make; refine wpList_make_full _ rfl _ _ 22 rfl w.heap.size 3 i0 _ 1 Tryz.underlying22 hi hz0 hz1 _ _ _ _ ss.length rfl rfl rfl rfl ?c1 ?c2 ?c3 ?_))
  case c1 => rw [hz2]; omega
  case c2 => unfold maxLen; omega
  case c3 => exact Nat.le_refl _
  intro w1 hown hgrow
  have hB : Below w.heap.size w w1 := (Below.refl _ _).grown hgrow (Nat.le_refl _) (fun _ h => by cases h)
  have HO := hide hown
  have HB := hide hB
  have HC1 : Hid (∀ j v, (intV ss)[j]? = some v → w1.cell? (Addr.add ⟨b, off, none⟩ j) = some v) := hide (fun j v hv => ((unhide HB).cell (by unfold Addr.add; split <;> exact hbl)).trans (by rw [Addr.add_mid]; exact unhide HCS j v hv))
  clear hown hgrow hB
  go_wp2_with (refine wpList_copy_whole rfl _ _ 22 22 rfl 3 1 Tryz.underlying22 sizeI1 w.heap.size w.heap.size ss.length ⟨b, off, none⟩ _ rfl rfl _ (unhide HO) (intV ss) (by rw [intV_length]; omega) (unhide HC1) (intV_ones ss) ?_; intro w2 ho2 hg2)
  have HB2 := hide ((unhide HB).grown hg2 (unhide HB).size (fun k h => by cases h; exact Nat.le_refl _))
  have HO2 := hide ho2
  clear ho2 hg2
  go_ret
  exact ⟨rfl, unhide HO2, unhide HB2⟩

theorem idx24 (W : World) (xs : List Int) (k : Nat) (hl : xs.length = 24) (hk : k < xs.length) : (Instr.index 99 (ctV xs) (.int .i64 k)).run Tryz.prog W = .ok (.int .i64 xs[k]) W := by
  have hu := und24
  have hk' : k < 24 := by omega
  have h2 := sizeI1
  cases hq : Tryz.prog.info? 3 with
  | none => simp [hq] at h2
  | some i =>
    have hi : i.size = 1 := by simpa [hq] using h2
    simp [Instr.index, run_underlying, hu, sizeOf, typeInfo, hq, hi, intV, asIntOf, part, hk]
    intro h
    omega

end Go.Proofs.YtpdpnepnfhbonaaGreat

namespace Go.Proofs.YtpdpnepnfhbonaaGreat
open Go.RowKit Go.Maps
set_option linter.unusedVariables false
set_option maxRecDepth 100000

theorem lawI : Keyed Tryz.prog 3 := int_keyed Tryz.underlying3
theorem zeroI (w : World) : (zeroValue 3).run Tryz.prog w = .ok (.int .i64 0) w := by kernel_rfl
theorem wfI {n : Int} (h0 : -1000000 ≤ n) (h1 : n ≤ 1000000) : (Lit.int .i64 n).wf = true := WalkArith.wf_i64 (by omega)
theorem keyI {i : Nat} (h : i < 24) : keyOf Tryz.prog 3 (.int .i64 (i : Int)) = some (.int .i64 (i : Int)) := keyOf_int_mk Tryz.underlying3 (wfI (by omega) (by omega))
def MpC (w : World) (B n : Nat) (D : DataW Unit) (ns : List Int) : Prop := w.ownsMap Tryz.prog 3 (plainElem Tryz.prog 3) B n D ∧ ns.length = 24 ∧ (∀ i : Nat, i < 24 → D.atKey (.int .i64 (i : Int)) (.lit (.int .i64 0)) = .lit (.int .i64 (ns.getD i 0))) ∧ (∀ kl, has D kl = true → ∃ i : Nat, i < 24 ∧ kl = .int .i64 (i : Int))
theorem MpC.made (w : World) : MpC (w.alloc (.map #[] 0)) w.heap.size 0 (.map []) zero24 := ⟨World.ownsMap_made _ _ _ _, rfl, fun i hi => by
    have e : zero24.getD i 0 = 0 := by
      have h2 : ∀ i : Fin 24, zero24.getD i 0 = 0 := by decide
      exact h2 ⟨i, hi⟩
    rw [e]; rfl, fun kl h => by cases h⟩
theorem MpC.lt {w : World} {B n : Nat} {D : DataW Unit} {ns : List Int} (h : MpC w B n D ns) : B < w.heap.size := h.1.lt
theorem MpC.keep {S : Nat → Prop} {w w' : World} {B n : Nat} {D : DataW Unit} {ns : List Int} (h : MpC w B n D ns) (hk : Keep S w w') (hs : ¬ S B) : MpC w' B n D ns := by
  have hl := h.lt
  obtain ⟨⟨es, clock, hb, F, hn, hD⟩, h2⟩ := h
  exact ⟨⟨es, clock, (hk.block B hl hs).trans hb, F, hn, hD⟩, h2⟩
theorem MpC.below {w w' : World} {B n : Nat} {D : DataW Unit} {ns : List Int} (h : MpC w B n D ns) (hb : Below w.heap.size w w') : MpC w' B n D ns := h.keep (S := fun _ => False) (Keep.of_below hb) (fun h => h)
theorem MpC.mono {w : World} {B n n' : Nat} {D : DataW Unit} {ns : List Int} (h : MpC w B n D ns) (hn : n ≤ n') : MpC w B n' D ns := ⟨h.1.mono hn, h.2⟩
theorem keep_map {w w' : World} {B : Nat} (h : w.grownBy w' (some B)) : Keep (fun g => g = B) w w' := ⟨h.os, h.tape, h.output, h.size, fun k hk hs => h.block k hk (fun e => hs (Option.some.inj e))⟩
theorem MpC.put {w w' : World} {B n i : Nat} {D : DataW Unit} {ns : List Int} {c : Int} (h : MpC w B n D ns) (hi : i < 24) (ho : w'.ownsMap Tryz.prog 3 (plainElem Tryz.prog 3) B (n + 1) (D.put (.int .i64 (i : Int)) (.lit (.int .i64 c)))) : MpC w' B (n + 1) (D.put (.int .i64 (i : Int)) (.lit (.int .i64 c))) (ns.set i c) := by
  have hM : IsMap D := by obtain ⟨es, e, _⟩ := h.1.entries lawI; exact ⟨es, e⟩
  refine ⟨ho, by rw [List.length_set]; exact h.2.1, fun j hj => ?_, fun kl hk => ?_⟩
  · by_cases e : j = i
    · subst e
      rw [atKey_put_same (k := .int .i64 (j : Int)) hM trivial]
      simp [List.getD, h.2.1, hi]
    · rw [atKey_put_other (by intro h2; simp only [Lit.int.injEq, true_and] at h2; omega), h.2.2.1 j hj]
      simp [List.getD, Ne.symm e]
  · by_cases e : kl = .int .i64 (i : Int)
    · exact ⟨i, hi, e⟩
    · rw [has_put_other e] at hk
      exact h.2.2.2 kl hk
theorem MpC.look {w : World} {B n i : Nat} {D : DataW Unit} {ns : List Int} (h : MpC w B n D ns) (hi : i < 24) : (Instr.lookup 135 (.map (some B)) (.int .i64 (i : Int)) false).run Tryz.prog w = .ok (.int .i64 (ns.getD i 0)) w := by
  obtain ⟨c, hrun, hat, hwf⟩ := h.1.lookup_int lawI Tryz.underlying135 Tryz.underlying3 (zeroI _) (keyI hi)
  rw [h.2.2.1 i hi] at hat
  simp only [DataW.lit.injEq, Lit.int.injEq, true_and] at hat
  rw [hat]
  exact hrun
theorem fit_none : ∀ {clock : Nat}, Go.WideElems.Fit (H := Unit) Tryz.prog 3 (plainElem Tryz.prog 3) #[] clock := fun {clock} => ⟨by simp, MapKept.stamped_empty clock, by simp⟩
theorem MpC.clear {w : World} {B n : Nat} {D : DataW Unit} {ns : List Int} (h : MpC w B n D ns) (ty : TypeId) : ∃ w', (Builtin.clear_ #[135] ty #[.map (some B)]).run Tryz.prog w = .ok (.tuple #[]) w' ∧ MpC w' B 0 (.map []) zero24 ∧ Keep (fun g => g = B) w w' := by
  obtain ⟨⟨es, clock, hb, F, hn, hD⟩, h2⟩ := h
  refine ⟨ChangeMaps.setBlock w B (.map #[] clock), ?_, ⟨⟨#[], clock, ChangeMaps.heap_setBlock_same hb _, fit_none, Nat.le_refl _, rfl⟩, (MpC.made w).2⟩, ⟨rfl, rfl, rfl, by simp [ChangeMaps.setBlock], fun k _ hk => ChangeMaps.heap_setBlock_other hb _ hk⟩⟩
  simp [Builtin.clear_, run_underlying Tryz.underlying135, MapKept.run_getObj_map hb, MapKept.run_setObj_map _ hb, Result.andThen, ChangeMaps.setBlock]
theorem wpList_count {w : World} {ops : Array Oper} {rest : List Oper} {o : Oper} {a : Act} {Q : Exit → Act → World → Prop} (hg : o.guard = none) (m x v : Operand) (hop : o.op = Op.mapUpdate 135 m x v)
    {B n i : Nat} {D : DataW Unit} {ns : List Int} {c : Int} (hm : a.eval m = .map (some B)) (h : MpC w B n D ns) (hn : n < 1000000) (hx : a.eval x = .int .i64 (i : Int)) (hi : i < 24) (hv : a.eval v = .int .i64 c) (hc : -1000000 ≤ c ∧ c ≤ 1000000)
    (hK : ∀ w' D', MpC w' B (n + 1) D' (ns.set i c) → Keep (fun g => g = B) w w' → wpList Tryz.prog ops Q rest (a.put o.dst undef) w') : wpList Tryz.prog ops Q (o :: rest) a w :=
  wpList_mapUpdate_own w hg m x v 135 hop 3 3 lawI Tryz.underlying135 _ B n D hm h.1 (by unfold maxLen; omega) _ _ _ hx hv (keyI hi) _ [] (plainElem_int Tryz.underlying3 (wfI hc.1 hc.2)) (fun w' ho hg' => hK w' _ (h.put hi ho) (keep_map hg'))

theorem incr_get (ns : List Int) (hl : ns.length = 24) (c i : Nat) (hc : c < 24) (hi : i < 24) : (incr ns (c : Int)).getD i 0 = ns.getD i 0 + (if i = c then 1 else 0) := by
  rw [incr_set]
  simp only [List.getD, List.getElem?_set]
  by_cases e : i = c
  · subst e; simp [hl, hi]
  · simp [e, Ne.symm e]
theorem fold_incr_get (i : Nat) (hi : i < 24) : ∀ (L : List Int), (∀ c ∈ L, 0 ≤ c ∧ c ≤ 23) → ∀ ns : List Int, ns.length = 24 → (L.foldl incr ns).getD i 0 = ns.getD i 0 + (L.count (i : Int) : Int) := by
  intro L
  induction L with
  | nil => intro _ ns _; simp
  | cons c L ih =>
    intro hL ns hl
    obtain ⟨c0, c1⟩ := hL c (by simp)
    obtain ⟨q, rfl⟩ := Int.eq_ofNat_of_zero_le c0
    rw [List.foldl_cons, ih (fun d hd => hL d (by simp [hd])) _ (by rw [incr_len]; exact hl), incr_get ns hl q i (by omega) hi, List.count_cons]
    by_cases e : i = q
    · subst e; simp; omega
    · have e2 : ¬ ((q : Int) = (i : Int)) := by omega
      simp [e, e2]
theorem nodup_count : ∀ (L : List Int), L.Nodup ↔ ∀ x ∈ L, L.count x ≤ 1 := by
  intro L
  induction L with
  | nil => simp
  | cons c L ih =>
    rw [List.nodup_cons, ih]
    constructor
    · rintro ⟨h1, h2⟩ x hx
      rw [List.count_cons]
      by_cases e : c = x
      · subst e
        rw [List.count_eq_zero_of_not_mem h1]; simp
      · have : x ∈ L := by simpa [Ne.symm e] using hx
        have := h2 x this
        simp [e]; omega
    · intro h
      refine ⟨fun hm => ?_, fun x hx => ?_⟩
      · have h1 := h c (by simp)
        rw [List.count_cons] at h1
        have := List.count_pos_iff.2 hm
        simp at h1; omega
      · have h1 := h x (by simp [hx])
        rw [List.count_cons] at h1
        omega
theorem cl_mem {t : List Int} (h : tbB t = true) : ∀ c ∈ clA t, 0 ≤ c ∧ c ≤ 23 := fun c hc => by
  obtain ⟨j, hj, rfl⟩ := List.mem_iff_getElem.1 hc
  exact clA_in h j hj
theorem cnt1T_get {t : List Int} (h : tbB t = true) {ns : List Int} (hl : ns.length = 24) {i : Nat} (hi : i < 24) : (cnt1T ns t).getD i 0 = ns.getD i 0 + ((clA t).count (i : Int) : Int) := fold_incr_get i hi _ (cl_mem h) ns hl
theorem zero24_get {i : Nat} (hi : i < 24) : zero24.getD i 0 = 0 := by
  have h2 : ∀ i : Fin 24, zero24.getD i 0 = 0 := by decide
  exact h2 ⟨i, hi⟩
theorem once_yes {t : List Int} (h : tbB t = true) (hc : ∀ i, i < 24 → (cnt1T zero24 t).getD i 0 ≤ 1) : onceB t = true := by
  refine decide_eq_true ((nodup_count _).2 fun x hx => ?_)
  obtain ⟨c0, c1⟩ := cl_mem h x hx
  obtain ⟨q, rfl⟩ := Int.eq_ofNat_of_zero_le c0
  have := hc q (by omega)
  rw [cnt1T_get h rfl (by omega), zero24_get (by omega)] at this
  omega
theorem once_no {t : List Int} (h : tbB t = true) {i : Nat} (hi : i < 24) (hc : 1 < (cnt1T zero24 t).getD i 0) : onceB t = false := by
  refine decide_eq_false fun hn => ?_
  rw [cnt1T_get h rfl hi, zero24_get hi] at hc
  have hm : (i : Int) ∈ clA t := List.count_pos_iff.1 (by omega)
  have := (nodup_count _).1 hn _ hm
  omega

end Go.Proofs.YtpdpnepnfhbonaaGreat

namespace Go.Proofs.YtpdpnepnfhbonaaGreat
open Go.RowKit
set_option linter.unusedVariables false
set_option maxRecDepth 100000

theorem clusterOfData_any (k c : Int) (w : World) :
    Calls Tryz.prog 153 #[.int .i64 k, .int .i64 c] w fun e w' => e = .returned (.tuple #[.int .i64 c, .bool (k == 2)]) ∧ w' = w := by
  go_enter Tryz.func153, Tryz.ntmps153
  go_wp2
  go_ret2
  exact ⟨rfl, rfl⟩

set_option maxHeartbeats 1600000 in
theorem takeEntries_any (ao : Option Addr) (cap : Nat) (xs : List Int) (w : World) (hl : xs.length ≤ 1048576) (hi : ∀ j (h : j < xs.length), -1000 ≤ xs[j] ∧ xs[j] ≤ 1000) (hc : Is w ao xs) :
    Calls Tryz.prog 152 #[.slice ao xs.length cap, .func (.func 153) #[] #[]] w fun e w' => ∃ v, e = .returned v ∧ OwnN w' w.heap.size v (clA xs) ∧ Below w.heap.size w w' := by
  obtain ⟨j0, hj, hy0, hy1, hy2⟩ := info_parts infoM
  have HC := hide hc
  have HI := hide hi
  clear hc hi
  go_enter Tryz.func152, Tryz.ntmps152
  go_wp2
  go_loopw [5, 12] (fun o i wr => ∃ (k : Nat) (ys : List Int) (qo : Option Addr) (qa : Nat), k ≤ xs.length ∧ i = .int .i64 k ∧ o = .slice qo ys.length qa ∧ Hid (ys = clTo xs k) ∧ Hid (OwnR wr w.heap.size 3 1 (.slice qo ys.length qa) ys.length (intV ys)) ∧ Hid (Below w.heap.size w wr)) (fun _ i _ => xs.length - (intOf i).toNat)
  case atStart => exact ⟨0, [], _, _, Nat.zero_le _, rfl, rfl, hide rfl, hide (.inl ⟨rfl, rfl, _, rfl⟩), hide (Below.refl _ _)⟩
  case round =>
    obtain ⟨k, ys, qo, qa, hk, rfl, rfl, HE, HO, HB⟩ := hrel
    by_cases hlt : k < xs.length
    · obtain ⟨b, off, rfl, hcl⟩ := (unhide HC).below (unhide HB) k hlt
      have HIK := hide (unhide HI k hlt)
      by_cases h2 : 2 ≤ xs[k]
      · have HS := hide (clTo_data hlt h2)
        have HYL : Hid (ys.length ≤ 1048576) := hide (by rw [unhide HE]; have := clTo_len xs k; omega)
        have hyl := unhide HYL
        have HV : Hid (min xs[k] 2 = 2 ∧ max 0 (xs[k] - 2) = xs[k] - 2) := hide ⟨by omega, by omega⟩
        have HOA := hide ((unhide HO).below (Joins.below_alloc1 _ (.cells #[.int .i64 (xs[k] - 2)] 3)))
        have HBA := hide (fr (unhide HB) (Joins.below_alloc1 _ (.cells #[.int .i64 (xs[k] - 2)] 3)))
        have HSZ := hide (unhide HB).size
        clear h2
        go_wp2_with (first | (go_at_call 147; refine (splitEntry_any _ _ (by have := unhide HIK; omega) (by have := unhide HIK; omega)).mono ?_; rintro e w' ⟨rfl, hw⟩; replace hw := hw.symm; subst hw; rw [(unhide HV).1, (unhide HV).2]) | (go_at_call 153; refine (clusterOfData_any _ _ _).mono ?_; rintro e w' ⟨rfl, hw⟩; replace hw := hw.symm; subst hw) | (at_builtin; refine wpList_append_one rfl _ _ 22 rfl w.heap.size 3 j0 (.int .i64 0) 1 8 Tryz.underlying22 hj hy0 hy1 hy2 rfl (by omega) qo ys.length qa (intV ys) rfl (unhide HOA) (by have := unhide HSZ; simp; omega) ⟨wr.heap.size, 0, none⟩ _ [.int .i64 (xs[k] - 2)] rfl rfl (byte_news wr _ _) (int_one _) (by unfold maxLen; omega) (by omega) ?_; intro g2 cap2 wA hoA hkA; have HSF := hide (And.intro hoA (keep_below (unhide HBA) (unhide HOA) (Nat.le_refl _) hkA)); clear hoA hkA))
        go_roundw
        case rel => exact ⟨k + 1, ys ++ [xs[k] - 2], some ⟨g2, 0, none⟩, cap2, by omega, by go_num, by simp, hide (by rw [unhide HS, unhide HE]), hide (by rw [List.length_append, intV_snoc]; exact .inr ⟨by simp, (unhide HSF).1⟩), hide (unhide HSF).2⟩
        case measure => simp [intOf]; omega
      · have HS := hide (clTo_none hlt h2)
        have HV : Hid (min xs[k] 2 = xs[k] ∧ max 0 (xs[k] - 2) = 0) := hide ⟨by omega, by omega⟩
        have hb2 : (xs[k] == 2) = false := beq_eq_false_iff_ne.2 (by omega)
        clear h2
        go_wp2_with (first | (go_at_call 147; refine (splitEntry_any _ _ (by have := unhide HIK; omega) (by have := unhide HIK; omega)).mono ?_; rintro e w' ⟨rfl, hw⟩; replace hw := hw.symm; subst hw; rw [(unhide HV).1, (unhide HV).2]) | (go_at_call 153; refine (clusterOfData_any _ _ _).mono ?_; rintro e w' ⟨rfl, hw⟩; replace hw := hw.symm; subst hw; rw [hb2]))
        go_roundw
        case rel => exact ⟨k + 1, ys, qo, qa, by omega, by go_num, rfl, hide (by rw [unhide HS, unhide HE]), HO, HB⟩
        case measure => simp [intOf]; omega
    · have HS : Hid (clA xs = ys) := hide (by rw [unhide HE, clA, show k = xs.length by omega])
      go_wp2
      go_ret
      exact ⟨.slice qo ys.length qa, rfl, by rw [unhide HS]; exact ⟨qo, qa, rfl, unhide HO⟩, unhide HB⟩

end Go.Proofs.YtpdpnepnfhbonaaGreat

namespace Go.Proofs.YtpdpnepnfhbonaaGreat
open Go.RowKit Go.Maps
set_option linter.unusedVariables false
set_option maxRecDepth 100000

def VarN (w : World) (x : Nat) (n : ByteArray) (v : Value) : Prop := w.heap[x]? = some (.cells #[.string n, v] 83 (0, 0))
theorem VarN.cells {w : World} {x : Nat} {n : ByteArray} {v : Value} (k : VarN w x n v) : w.cell? ⟨x, 0, none⟩ = some (.string n) ∧ w.cell? ⟨x, 1, none⟩ = some v := ⟨by rw [Joins.cell_of_block k]; rfl, by rw [Joins.cell_of_block k]; rfl⟩
theorem VarN.new (w : World) (n : ByteArray) (v : Value) : VarN (w.alloc (.cells #[.string n, v] 83)) w.heap.size n v := heap_alloc_new w _

set_option maxHeartbeats 1600000 in
theorem addUses_any (B n : Nat) (D : DataW Unit) (ns : List Int) (ao : Option Addr) (cap : Nat) (xs : List Int) (w : World) (hB : MpC w B n D ns) (hn : n ≤ 100000) (hns : CtI ns 1000) (hx : tbB xs = true) (hc : Is w ao xs) :
    Calls Tryz.prog 136 #[.map (some B), .slice ao xs.length cap] w fun e w' => e = .returned (.tuple #[]) ∧ (∃ D', MpC w' B (n + 12) D' (cnt1T ns xs)) ∧ Keep (fun g => g = B) w w' := by
  have HC := hide hc
  have HM := hide hB
  have HNS := hide hns
  have HTX := hide (tbB_len hx)
  have HIN : Hid (∀ j (h : j < xs.length), -1000 ≤ xs[j] ∧ xs[j] ≤ 1000) := hide (fun j h => by have := tbB_at hx j h; omega)
  have HCI := hide (clA_in hx)
  have HCL := hide (clA_len hx)
  clear hc hB hx hns
  go_enter Tryz.func136, Tryz.ntmps136
  go_wp2_with fail
  refine (takeEntries_any ao cap xs _ (by have := unhide HTX; omega) (unhide HIN) (unhide HC)).mono ?_
  rintro e w3 ⟨v, rfl, ⟨lo, la, rfl, hol⟩, hb3⟩
  have HB3 := hide hb3
  have HL3 := hide hol
  have HM3 := hide ((unhide HM).below hb3)
  have HBL := hide (unhide HM).lt
  have HCN : Hid (cnt1T ns xs = (clA xs).foldl incr ns) := hide rfl
  clear hol hb3
  generalize clA xs = L at *
  have hL12 := unhide HCL
  go_wp2
  go_loopw [9] (fun i wq => ∃ (j : Nat) (D' : DataW Unit), j ≤ L.length ∧ i = .int .i64 j ∧ Hid (CtI ((L.take j).foldl incr ns) (1000 + j)) ∧ Hid (MpC wq B (n + j) D' ((L.take j).foldl incr ns)) ∧ Hid (Keep (fun g => g = B) w3 wq)) (fun i _ => L.length - (intOf i).toNat)
  case atStart => exact ⟨0, D, Nat.zero_le _, rfl, hide (by simpa using unhide HNS), hide (by simpa using unhide HM3), hide (Keep.refl _ _)⟩
  case round =>
    obtain ⟨j, D', hj', rfl, HJ, HMJ, HKJ⟩ := hrel
    by_cases hjl : j < L.length
    · have HLJ := hide ((unhide HL3).keep (unhide HKJ) (fun g hg he => by have h1 := ((unhide HL3).ge g hg).1; have h2 := unhide HBL; omega))
      obtain ⟨b, off, rfl, hcl⟩ := (ownRN (unhide HLJ)) j hjl
      obtain ⟨l0, l1⟩ := unhide HCI j hjl
      obtain ⟨c, hcc⟩ := Int.eq_ofNat_of_zero_le l0
      rw [hcc] at hcl
      have hc24 : c < 24 := by omega
      have HST := hide (incr_take hjl ns)
      rw [hcc] at HST
      clear hcc l0 l1
      generalize hMS : (L.take j).foldl incr ns = ms at *
      clear hMS
      have hlen := (unhide HJ).1
      have hcm : c < ms.length := by omega
      obtain ⟨x0, x1⟩ := (unhide HJ).2 c hcm
      have hlk := (unhide HMJ).look hc24
      have egd : ms.getD c 0 = ms[c] := by simp [List.getD, hcm]
      rw [egd] at hlk
      have HJ' : Hid (CtI ((L.take (j + 1)).foldl incr ns) (1000 + (j + 1 : Nat))) := hide (by rw [unhide HST]; exact ((unhide HJ).up hc24).mono (by omega))
      have HE' : Hid (ms.set c (ms[c] + 1) = (L.take (j + 1)).foldl incr ns) := hide (by
        rw [unhide HST, incr_set, egd])
      clear egd hlen
      generalize ms[c] = X at *
      have hw1 : IntKind.i64.wrap (X + 1) = X + 1 := by rw [IntKind.wrap_i64]; omega
      go_wp2_with (at_mapUpdate; refine wpList_count rfl _ _ _ rfl rfl (unhide HMJ) (by omega) rfl hc24 (by first | rfl | (rw [hw1]; rfl)) ⟨by omega, by omega⟩ ?_; intro w5 D5 hm5 hk5; have HS5 := hide (And.intro hm5 hk5); clear hm5 hk5)
      go_roundw
      case rel => exact ⟨j + 1, D5, by omega, by go_num, HJ', hide (by rw [← unhide HE']; exact (unhide HS5).1), hide ((unhide HKJ).trans (unhide HS5).2)⟩
      case measure => simp [intOf]; omega
    · obtain rfl : j = L.length := by omega
      rw [List.take_length] at HMJ
      go_wp2
      go_end0
      exact ⟨rfl, ⟨D', by rw [unhide HCN]; exact (unhide HMJ).mono (by omega)⟩, (Keep.of_below (unhide HB3)).trans (unhide HKJ)⟩

def RowT (w : World) (qo : Option Addr) (ts : List (List Int)) : Prop := ∀ j (h : j < ts.length), ∃ b off tq tc, qo = some ⟨b, off, none⟩ ∧ w.cell? ⟨b, off + j, none⟩ = some (.slice tq ts[j].length tc) ∧ Is w tq ts[j]
theorem RowT.below {w w' : World} {qo : Option Addr} {ts : List (List Int)} (h : RowT w qo ts) (hb : Below w.heap.size w w') : RowT w' qo ts := fun j hj => by
  obtain ⟨b, off, tq, tc, e, h1, h2⟩ := h j hj
  exact ⟨b, off, tq, tc, e, (hb.cell (p := ⟨b, off + j, none⟩) (World.block_lt_of_cell? _ _ h1)).trans h1, h2.below hb⟩
theorem keep_cellM {S : Nat → Prop} {w w' : World} (hk : Keep S w w') {p : Addr} {v : Value} (h : w.cell? p = some v) (hs : ¬ S p.block) : w'.cell? p = some v :=
  (World.cell?_of_block (hk.block p.block (World.block_lt_of_cell? _ _ h) hs)).trans h
theorem Is.keepMap {w w' : World} {B n : Nat} {D : DataW Unit} {ns : List Int} {ao : Option Addr} {xs : List Int} (h : Is w ao xs) (hm : MpC w B n D ns) (hk : Keep (fun g => g = B) w w') : Is w' ao xs := fun i hi => by
  obtain ⟨b, off, e, hc⟩ := h i hi
  refine ⟨b, off, e, keep_cellM hk hc (fun he => ?_)⟩
  obtain ⟨⟨es, clock, hb, _⟩, _⟩ := hm
  simp only at he
  subst he
  simp [World.cell?, hb] at hc
theorem RowT.keepMap {w w' : World} {B n : Nat} {D : DataW Unit} {ns : List Int} {qo : Option Addr} {ts : List (List Int)} (h : RowT w qo ts) (hm : MpC w B n D ns) (hk : Keep (fun g => g = B) w w') : RowT w' qo ts := fun j hj => by
  obtain ⟨b, off, tq, tc, e, h1, h2⟩ := h j hj
  refine ⟨b, off, tq, tc, e, keep_cellM hk h1 (fun he => ?_), h2.keepMap hm hk⟩
  obtain ⟨⟨es, clock, hb, _⟩, _⟩ := hm
  simp only at he
  subst he
  simp [World.cell?, hb] at h1

set_option maxHeartbeats 1600000 in
theorem usesOf_any (qo : Option Addr) (qa : Nat) (ts : List (List Int)) (w : World) (hl : ts.length ≤ 4) (ht : ∀ t ∈ ts, tbB t = true) (hc : RowT w qo ts) :
    Calls Tryz.prog 103 #[.slice qo ts.length qa] w fun e w' => ∃ B D, e = .returned (.map (some B)) ∧ w.heap.size ≤ B ∧ MpC w' B 1000 D (ts.foldl cnt1T zero24) ∧ CtI (ts.foldl cnt1T zero24) 48 ∧ Below w.heap.size w w' := by
  have hmm := @run_makeMap Tryz.prog
  have HC := hide (hc.below (Joins.below_alloc1 w (.map #[] 0)))
  have HT := hide ht
  have HA := hide (Joins.below_alloc1 w (.map #[] 0))
  have HM := hide (MpC.made w)
  clear hc ht
  go_enter Tryz.func103, Tryz.ntmps103
  go_upto_region 2 with fail
  revert HA HM HC
  generalize (w.alloc _) = W0
  intro HC HA HM
  go_wp2
  go_loopw [9] (fun i wr => ∃ (k : Nat) (D : DataW Unit), k ≤ ts.length ∧ i = .int .i64 k ∧ Hid (CtI ((ts.take k).foldl cnt1T zero24) (12 * k)) ∧ Hid (MpC wr w.heap.size (12 * k) D ((ts.take k).foldl cnt1T zero24)) ∧ Hid (RowT wr qo ts) ∧ Hid (Below w.heap.size w wr)) (fun i _ => ts.length - (intOf i).toNat)
  case atStart => exact ⟨0, _, Nat.zero_le _, rfl, hide (by simpa using CtI.zero), hide (by simpa using unhide HM), HC, HA⟩
  case round =>
    obtain ⟨k, D, hk, rfl, HI, HMK, HR, HB⟩ := hrel
    by_cases hlt : k < ts.length
    · obtain ⟨b, off, tq, tc, rfl, hck, hIs⟩ := unhide HR k hlt
      have HIS := hide hIs
      have htk := unhide HT ts[k] (List.getElem_mem hlt)
      have HTK := hide htk
      have HCT := hide (cntT_take hlt zero24)
      clear hIs htk
      have HBD := hide (unhide HB).size
      go_wp2_with fail
      refine (addUses_any w.heap.size (12 * k) D _ tq tc ts[k] _ (unhide HMK) (by omega) ((unhide HI).mono (by omega)) (unhide HTK) (unhide HIS)).mono ?_
      rintro e w3 ⟨rfl, ⟨D3, hm3⟩, hk3⟩
      have HM3 : Hid (MpC w3 w.heap.size (12 * (k + 1)) D3 ((ts.take (k + 1)).foldl cnt1T zero24)) := hide (by rw [unhide HCT]; exact hm3)
      have HR3 := hide ((unhide HR).keepMap (unhide HMK) hk3)
      have HB3 : Hid (Below w.heap.size w w3) := hide ((unhide HB).trans (hk3.below (unhide HB).size (fun g hg => Nat.le_of_eq hg.symm)))
      have HI3 : Hid (CtI ((ts.take (k + 1)).foldl cnt1T zero24) (12 * (k + 1 : Nat))) := hide (by
        rw [unhide HCT]
        refine ⟨by rw [cnt1T_len]; exact (unhide HI).1, fun i hi => ?_⟩
        rw [cnt1T_len, (unhide HI).1] at hi
        have h1 := cnt1T_get (unhide HTK) (unhide HI).1 hi
        have h2 : ((ts.take k).foldl cnt1T zero24).getD i 0 = ((ts.take k).foldl cnt1T zero24)[i]'(by rw [(unhide HI).1]; exact hi) := by simp [List.getD, (unhide HI).1, hi]
        have h3 : (cnt1T ((ts.take k).foldl cnt1T zero24) ts[k]).getD i 0 = (cnt1T ((ts.take k).foldl cnt1T zero24) ts[k])[i]'(by rw [cnt1T_len, (unhide HI).1]; exact hi) := by simp [List.getD, cnt1T_len, (unhide HI).1, hi]
        have h4 := (unhide HI).2 i (by rw [(unhide HI).1]; exact hi)
        have h5 : (clA ts[k]).count (i : Int) ≤ (clA ts[k]).length := List.count_le_length
        have h6 := clA_len (unhide HTK)
        rw [← h3, h1, h2]
        omega)
      clear hm3 hk3
      go_wp2
      go_roundw
      case rel => exact ⟨k + 1, D3, by omega, by go_num, HI3, HM3, HR3, HB3⟩
      case measure => simp [intOf]; omega
    · obtain rfl : k = ts.length := by omega
      rw [List.take_length] at HMK HI
      go_wp2
      go_ret
      exact ⟨w.heap.size, D, rfl, Nat.le_refl _, (unhide HMK).mono (by omega), (unhide HI).mono (by omega), unhide HB⟩

set_option maxHeartbeats 3200000 in
theorem tablesOf_any (a : Im4) (m : Img) (w : World) (hs : m.snaps.length ≤ 3) (hc : ImS w a m) :
    Calls Tryz.prog 69 #[imV a m] w fun e w' => ∃ qo qa, e = .returned (.slice qo (imTabs m).length qa) ∧ RowT w' qo (imTabs m) ∧ Below w.heap.size w w' := by
  have HA := hide (Joins.below_alloc1 w (.cells #[.slice a.ro m.refs.length a.rc, .slice a.tq m.table.length a.tc, .slice a.so m.snaps.length a.sc, .slice a.dq m.data.length a.dc] 32))
  have HV := hide (VarM.new w 32 (.slice a.ro m.refs.length a.rc) (.slice a.tq m.table.length a.tc) (.slice a.so m.snaps.length a.sc) (.slice a.dq m.data.length a.dc))
  have HC := hide hc
  clear hc
  obtain ⟨j0, hj, hy0, hy1, hy2⟩ := info_parts infoTb
  go_enter Tryz.func69, Tryz.ntmps69
  go_upto_region 1 with fail
  revert HA HV
  generalize (w.alloc _) = w1
  intro HB1 HV1
  have HSZ0 : Hid (w.heap.size < w1.heap.size) := hide (unhide HV1).lt
  obtain ⟨c0, c1, c2, c3⟩ := (unhide HV1).cells
  have HOT : Hid (OwnR (w1.alloc (.cells #[.slice a.tq m.table.length a.tc] 22)) w1.heap.size 22 1 (.slice (some ⟨w1.heap.size, 0, none⟩) 1 1) 1 [.slice a.tq m.table.length a.tc]) := hide (.inr ⟨by omega, rfl, .inr ⟨w1.heap.size, 1, #[.slice a.tq m.table.length a.tc], rfl, Nat.le_refl _, heap_alloc_new w1 _, Nat.le_refl _, by unfold maxLen; omega, rfl, rfl⟩⟩)
  have HBA := hide (Joins.below_alloc1 w1 (.cells #[.slice a.tq m.table.length a.tc] 22))
  go_upto_region 2 with fail
  revert HOT HBA
  generalize (w1.alloc _) = W1
  intro HOT HBA
  clear c0 c1 c2 c3
  obtain ⟨c0, c1, c2, c3⟩ := ((unhide HV1).below (unhide HBA)).cells
  go_wp2
  clear c0 c1 c2 c3
  go_loopw [3, 12] (fun o i wr => ∃ (k : Nat) (qo : Option Addr) (qa : Nat) (vs : List Value), k ≤ m.snaps.length ∧ i = .int .i64 k ∧ o = .slice qo (k + 1) qa ∧ Hid (OwnR wr w1.heap.size 22 1 (.slice qo (k + 1) qa) (k + 1) vs) ∧ Hid (TabV w vs ((imTabs m).take (k + 1))) ∧ Hid (Below w1.heap.size w1 wr)) (fun _ i _ => m.snaps.length - (intOf i).toNat)
  case atStart => exact ⟨0, _, _, [.slice a.tq m.table.length a.tc], Nat.zero_le _, rfl, rfl, HOT, hide (by
    have h0 : TabV w [] [] := ⟨rfl, fun j h => by simp at h⟩
    have := h0.snoc (tc := a.tc) (unhide HC).t
    simpa [imTabs] using this), HBA⟩
  case round =>
    clear HOT HBA
    obtain ⟨k, qo, qa, vs, hk, rfl, rfl, HO, HT, HB⟩ := hrel
    by_cases hlt : k < m.snaps.length
    · obtain ⟨b, off, tq, tc, eb, hn0, ht0, hIs, hz, htl⟩ := ((unhide HC).s.below (fr (unhide HB1) (unhide HB))) k hlt
      obtain ⟨b', off', tq', tc', eb', _, ht0', hIs', _, _⟩ := (unhide HC).s k hlt
      rw [eb] at eb'
      cases eb'
      have ett : Value.slice tq' m.snaps[k].table.length tc' = .slice tq m.snaps[k].table.length tc := by
        have h1 := ((fr (unhide HB1) (unhide HB)).cell (p := ⟨b, off + k * 2 + 1, none⟩) (World.block_lt_of_cell? _ _ ht0')).trans ht0'
        rw [ht0] at h1
        exact (Option.some.inj h1).symm
      have hso := eb
      clear eb
      have hlti : (k : Int) < (m.snaps.length : Int) := by omega
      have HT' : Hid (TabV w (vs ++ [.slice tq m.snaps[k].table.length tc]) ((imTabs m).take (k + 1 + 1))) := hide (by
        rw [imTabs_take hlt, ← ett]
        exact (unhide HT).snoc hIs')
      have HX := hide (VarN.new wr m.snaps[k].name (.slice tq m.snaps[k].table.length tc))
      have HBX := hide (Joins.below_alloc1 wr (.cells #[.string m.snaps[k].name, .slice tq m.snaps[k].table.length tc] 83))
      have HSZ := hide (unhide HB).size
      clear hIs hIs' ht0' ett hz htl
      go_upto_region 5 with fail
      revert HX HBX
      generalize (wr.alloc _) = w2
      intro HX HBX
      obtain ⟨x0, x1⟩ := (unhide HX).cells
      have HO2 := hide ((unhide HO).below (unhide HBX))
      have HB2 := hide (fr (unhide HB) (unhide HBX))
      clear HX HBX hn0 ht0 hso
      have HOA := hide ((unhide HO2).below (Joins.below_alloc1 _ (.cells #[.slice tq m.snaps[k].table.length tc] 22)))
      have HBA := hide (fr (unhide HB2) (Joins.below_alloc1 _ (.cells #[.slice tq m.snaps[k].table.length tc] 22)))
      have HSZ2 := hide (unhide HB2).size
      go_wp2_with (at_builtin; refine wpList_append_one rfl _ _ 101 rfl w1.heap.size 22 j0 (.slice none 0 0) 1 24 Tryz.underlying101 hj hy0 hy1 hy2 rfl (by omega) qo (k + 1) qa vs rfl (unhide HOA) (by have := unhide HSZ2; simp; omega) ⟨w2.heap.size, 0, none⟩ _ [.slice tq m.snaps[k].table.length tc] rfl rfl (byte_news w2 _ _) (slice_one _ _ _) (by unfold maxLen; omega) (by omega) ?_; intro g2 cap2 wA hoA hkA; have HSF := hide (And.intro hoA (keep_below (unhide HBA) (unhide HOA) (Nat.le_refl _) hkA)); clear hoA hkA)
      go_roundw
      case rel => exact ⟨k + 1, some ⟨g2, 0, none⟩, cap2, vs ++ [.slice tq m.snaps[k].table.length tc], by omega, by go_num, rfl, hide (.inr ⟨by omega, (unhide HSF).1⟩), HT', hide (unhide HSF).2⟩
      case measure => simp [intOf]; omega
    · obtain rfl : k = m.snaps.length := by omega
      have HTT : Hid (TabV w vs (imTabs m)) := hide (by
        have := unhide HT
        rwa [List.take_of_length_le (by rw [imTabs_len]; exact Nat.le_refl _)] at this)
      have HLT := hide (imTabs_len m)
      have HB2 := hide (fr (unhide HB1) (unhide HB))
      have HR : Hid (RowT wr qo (imTabs m)) := hide (fun j hj => by
        have hjn : j < m.snaps.length + 1 := by rw [← unhide HLT]; exact hj
        obtain ⟨tq, tc, hvk, hIs⟩ := (unhide HTT).2 j hj
        obtain ⟨q2, cap2, cur2, eq2, _, _⟩ := own_form (by omega) ((unhide HO).row (by omega))
        have hcell := ((unhide HO).row (by omega))
        rw [eq2] at hcell
        have hck := (hcell.cellAt j (by omega)).trans hvk
        cases eq2
        exact ⟨q2, 0, tq, tc, rfl, by rw [Nat.zero_add]; exact hck, hIs.below (unhide HB2)⟩)
      go_wp2
      go_ret
      exact ⟨qo, qa, by rw [unhide HLT]; rfl, unhide HR, unhide HB2⟩

def tabsB (ts : List (List Int)) : Bool := ts.all fun t => tbB t && onceB t
theorem tabs_yes {ts : List (List Int)} (h : ∀ j (hj : j < ts.length), (fun t => tbB t && onceB t) ts[j] = true) : tabsB ts = true := all_of (p := fun t => tbB t && onceB t) (fun j hj _ => h j hj)
theorem tabs_no {ts : List (List Int)} {k : Nat} (hk : k < ts.length) (h : (tbB ts[k] && onceB ts[k]) = false) : tabsB ts = false := all_not (p := fun t => tbB t && onceB t) hk h

set_option maxHeartbeats 3200000 in
theorem tablesOK_any (qo : Option Addr) (qa : Nat) (ts : List (List Int)) (w : World) (hl : ts.length ≤ 4) (hz : ∀ t ∈ ts, t.length ≤ maxLen) (hc : RowT w qo ts) :
    Calls Tryz.prog 102 #[.slice qo ts.length qa] w fun e w' => e = .returned (.bool (tabsB ts)) ∧ Below w.heap.size w w' := by
  have hmm := @run_makeMap Tryz.prog
  have HC := hide (hc.below (Joins.below_alloc1 w (.map #[] 0)))
  have HZ := hide hz
  have HA := hide (Joins.below_alloc1 w (.map #[] 0))
  have HM := hide (MpC.made w)
  clear hc hz
  go_enter Tryz.func102, Tryz.ntmps102
  go_upto_region 2 with fail
  revert HA HM HC
  generalize (w.alloc _) = W0
  intro HC HA HM
  go_wp2
  go_loopw [11] (fun i wr => ∃ (k n : Nat) (D : DataW Unit) (ns : List Int), k ≤ ts.length ∧ i = .int .i64 k ∧ Hid (MpC wr w.heap.size n D ns) ∧ Hid (RowT wr qo ts) ∧ Hid (∀ j (hj : j < ts.length), j < k → (tbB ts[j] && onceB ts[j]) = true) ∧ Hid (Below w.heap.size w wr)) (fun i _ => ts.length - (intOf i).toNat)
  case atStart => exact ⟨0, _, _, _, Nat.zero_le _, rfl, HM, HC, hide (fun j _ h => by omega), HA⟩
  case round =>
    obtain ⟨k, n, D, ns, hk, rfl, HMK, HR, HS, HB⟩ := hrel
    by_cases hlt : k < ts.length
    · obtain ⟨b, off, tq, tc, rfl, hck, hIs⟩ := unhide HR k hlt
      have HIS := hide hIs
      have HZK := hide (unhide HZ ts[k] (List.getElem_mem hlt))
      clear hIs
      cases htb : tbB ts[k]
      · have HF := hide (tabs_no hlt (by rw [htb]; rfl))
        go_wp2_with (go_at_call 135; refine (tableOK_impl _ _ ts[k] _ (unhide HZK) (unhide HIS)).mono ?_; rintro e w' ⟨rfl, hw⟩; replace hw := hw.symm; subst hw; rw [htb])
        go_ret
        exact ⟨ret_bool (unhide HF).symm, unhide HB⟩
      have HTK := hide htb
      obtain ⟨w4, hrun4, hm4, hk4⟩ := (unhide HMK).clear 0
      have HM4 := hide hm4
      have HR4 := hide ((unhide HR).keepMap (unhide HMK) hk4)
      have HIS4 := hide ((unhide HIS).keepMap (unhide HMK) hk4)
      have HB4 : Hid (Below w.heap.size w w4) := hide ((unhide HB).trans (hk4.below (unhide HB).size (fun g hg => Nat.le_of_eq hg.symm)))
      clear hm4 hk4
      go_wp2_with (first | (go_at_call 135; refine (tableOK_impl _ _ ts[k] _ (unhide HZK) (unhide HIS)).mono ?_; rintro e w' ⟨rfl, hw⟩; replace hw := hw.symm; subst hw; rw [htb]) | fail)
      clear hrun4 hck
      refine (addUses_any w.heap.size 0 _ zero24 tq tc ts[k] _ (unhide HM4) (by omega) (CtI.zero.mono (by omega)) (unhide HTK) (unhide HIS4)).mono ?_
      rintro e w5 ⟨rfl, ⟨D5, hm5⟩, hk5⟩
      have HM5 := hide hm5
      have HR5 := hide ((unhide HR4).keepMap (unhide HM4) hk5)
      have HB5 : Hid (Below w.heap.size w w5) := hide ((unhide HB4).trans (hk5.below (unhide HB4).size (fun g hg => Nat.le_of_eq hg.symm)))
      have HY := hide (once_yes (unhide HTK))
      have HN : Hid (∀ i : Nat, i < 24 → 1 < (cnt1T zero24 ts[k]).getD i 0 → onceB ts[k] = false) := hide (fun i => once_no (unhide HTK))
      clear hm5 hk5 HM4 HR4 HIS4 HB4
      generalize cnt1T zero24 ts[k] = cs at *
      have hown := (unhide HM5).1
      have HAT := hide (unhide HM5).2.2.1
      have HKY := hide (unhide HM5).2.2.2
      go_wp2_with (first | (at_range; refine wpList_range_own _ rfl _ 135 rfl 3 3 lawI Tryz.underlying135 _ w.heap.size _ _ rfl hown ?_; intro w6 hrg0 hg0 hs0) | go_in)
      go_frame
      have HB6 : Hid (Below w5.heap.size w5 w6) := hide ((Below.refl _ _).grown hg0 (Nat.le_refl _) (fun _ h => by cases h))
      have HST : Hid (∀ i : Nat, i < 24 → has D5 (.int .i64 (i : Int)) = false → cs.getD i 0 ≤ 1) := hide (fun i hi hh => by
        have h1 := unhide HAT i hi
        rw [atKey_of_not_has hh] at h1
        simp only [DataW.lit.injEq, Lit.int.injEq, true_and] at h1
        omega)
      clear hg0 hs0 hown
      generalize hRR : w5.heap.size = r at *
      have HRR := hide hRR
      clear hRR
      go_loopw [7] (fun _ wq => ∃ (left : Lit → Bool) (cnt : Nat), wq.ranges Tryz.prog 3 (plainElem Tryz.prog 3) w.heap.size r (0 + 12) D5 left cnt ∧ Hid (∀ i : Nat, i < 24 → left (.int .i64 (i : Int)) = false → cs.getD i 0 ≤ 1) ∧ Hid (∀ kl, left kl = true → has D5 kl = true) ∧ Hid (Below r w5 wq)) (fun _ wq => wq.rangeLeft w.heap.size r)
      case atStart => exact ⟨_, _, hrg0, HST, hide (fun _ h => h), HB6⟩
      case round =>
        obtain ⟨left, cnt, hrg, HLE, HLH, HBQ⟩ := hrel
        go_wp2_with (first | (at_next; refine wpList_next_ranges_ii _ rfl _ rfl 3 3 .i64 .i64 lawI Tryz.underlying3 Tryz.underlying3 w.heap.size r _ _ _ _ rfl hrg ?_ ?_) | go_in)
        · intro _ hl0
          have HON : Hid ((tbB ts[k] && onceB ts[k]) = true) := hide (by rw [unhide HTK, unhide HY (fun i hi => unhide HLE i hi (hl0 _))]; rfl)
          have HS' := hide (all_succ (p := fun t => tbB t && onceB t) hlt (unhide HS) (unhide HON))
          have HMQ : Hid (MpC wr w.heap.size (0 + 12) D5 cs) := hide ⟨hrg.owns, (unhide HM5).2⟩
          have HRQ := hide ((unhide HR5).below (by rw [unhide HRR]; exact unhide HBQ))
          have HBE := hide ((unhide HB5).trans ((unhide HBQ).mono (by rw [← unhide HRR]; exact (unhide HB5).size)))
          clear hrg hl0
          go_wp2
          go_roundw
          case rel => exact ⟨k + 1, _, D5, cs, by omega, by go_num, HMQ, HRQ, HS', HBE⟩
          case measure => simp [intOf]; omega
        · intro x c w7 cnt7 hwx hwc hlx hat hrg7 hlt7 hg7 hs7 hen
          have HB7 : Hid (Below r w5 w7) := hide ((unhide HBQ).grown hg7 (by rw [← unhide HRR]; exact (unhide HBQ).size) (fun j hj => by cases hj; exact Nat.le_refl _))
          obtain ⟨i, hi, ei⟩ := unhide HKY _ (unhide HLH _ hlx)
          simp only [Lit.int.injEq, true_and] at ei
          subst ei
          have hcs : cs.getD i 0 = c := by
            have h1 := unhide HAT i hi
            rw [hat] at h1
            simp only [DataW.lit.injEq, Lit.int.injEq, true_and] at h1
            exact h1.symm
          by_cases hc1 : 1 < c
          · have HF := hide (tabs_no hlt (by rw [unhide HTK, unhide HN i hi (by omega)]; rfl))
            have HBE := hide ((unhide HB5).trans ((unhide HB7).mono (by rw [← unhide HRR]; exact (unhide HB5).size)))
            clear hrg hrg7 hat
            go_wp2
            go_ret
            exact ⟨ret_bool (unhide HF).symm, unhide HBE⟩
          · have HLE' : Hid (∀ i' : Nat, i' < 24 → (left (.int .i64 (i' : Int)) && !(Lit.int .i64 (i' : Int)).sameKey (.int .i64 (i : Int))) = false → cs.getD i' 0 ≤ 1) := hide (fun i' hi' h => by
              by_cases e : i' = i
              · subst e; omega
              · have hk2 : (Lit.int .i64 (i' : Int)).sameKey (.int .i64 (i : Int)) = false := sameKey_ne (by intro h2; simp only [Lit.int.injEq, true_and] at h2; omega)
                rw [hk2] at h
                exact unhide HLE i' hi' (by simpa using h))
            have HLH' : Hid (∀ kl : Lit, (left kl && !kl.sameKey (.int .i64 (i : Int))) = true → has D5 kl = true) := hide (fun kl h => unhide HLH kl (by simp only [Bool.and_eq_true] at h; exact h.1))
            clear hcs hat
            go_wp2
            go_roundw
            case rel => exact ⟨_, cnt7, hrg7, HLE', HLH', HB7⟩
            case measure => rw [hrg7.left_eq, hrg.left_eq]; exact hlt7
    · have HF := hide (tabs_yes (fun j hj => unhide HS j hj (by omega)))
      go_wp2
      go_ret
      exact ⟨ret_bool (unhide HF).symm, unhide HB⟩

end Go.Proofs.YtpdpnepnfhbonaaGreat

namespace Go.Proofs.YtpdpnepnfhbonaaGreat
open Go.RowKit
set_option linter.unusedVariables false
set_option maxRecDepth 100000

def fdI (m : Img) (name : ByteArray) : Int := if imFind m name < m.snaps.length then (imFind m name : Int) else -1
theorem find_here {m : Img} {name : ByteArray} {k : Nat} (hk : k < m.snaps.length) (h0 : m.snaps[k].name = name) (h : ∀ j (hj : j < m.snaps.length), j < k → m.snaps[j].name ≠ name) : imFind m name = k := by
  unfold imFind
  rw [List.findIdx_eq hk]
  refine ⟨by simp [h0], fun j hj => ?_⟩
  have := h j (by omega) hj
  simp [this]
theorem find_none {m : Img} {name : ByteArray} (h : ∀ j (hj : j < m.snaps.length), m.snaps[j].name ≠ name) : ¬ imFind m name < m.snaps.length := by
  unfold imFind
  rw [List.findIdx_lt_length]
  rintro ⟨x, hx, h0⟩
  obtain ⟨j, hj, rfl⟩ := List.getElem_of_mem hx
  have := h j hj
  simp at h0
  exact this h0

set_option maxHeartbeats 1600000 in
theorem l10Find_any (a : Im4) (m : Img) (name : ByteArray) (w : World) (hs : m.snaps.length ≤ 1000) (hc : Sns w a.so m.snaps) :
    Calls Tryz.prog 113 #[imV a m, .string name] w fun e w' => e = .returned (.int .i64 (fdI m name)) ∧ Below w.heap.size w w' := by
  have HA := hide (Joins.below_alloc1 w (.cells #[.slice a.ro m.refs.length a.rc, .slice a.tq m.table.length a.tc, .slice a.so m.snaps.length a.sc, .slice a.dq m.data.length a.dc] 32))
  have HV := hide (VarM.new w 32 (.slice a.ro m.refs.length a.rc) (.slice a.tq m.table.length a.tc) (.slice a.so m.snaps.length a.sc) (.slice a.dq m.data.length a.dc))
  have HC := hide (hc.below (unhide HA))
  clear hc
  go_enter Tryz.func113, Tryz.ntmps113
  go_upto_region 1 with fail
  revert HA HV HC
  generalize (w.alloc _) = W0
  intro HA HV HC
  obtain ⟨c0, c1, c2, c3⟩ := (unhide HV).cells
  go_wp2
  go_loop [5] (fun i => ∃ k : Nat, k ≤ m.snaps.length ∧ i = .int .i64 k ∧ Hid (∀ j (hj : j < m.snaps.length), j < k → m.snaps[j].name ≠ name)) (fun i => m.snaps.length - (intOf i).toNat)
  case atStart => exact ⟨0, Nat.zero_le _, rfl, hide (fun j _ h => by omega)⟩
  case round =>
    obtain ⟨k, hk, rfl, HN⟩ := hrel
    by_cases hlt : k < m.snaps.length
    · obtain ⟨b, off, tq, tc, eb, hn0, _, _, _, _⟩ := (unhide HC) k hlt
      have c2' := c2
      rw [eb] at c2'
      clear eb c2
      have hlti : (k : Int) < (m.snaps.length : Int) := by omega
      by_cases he : m.snaps[k].name = name
      · have HF : Hid (fdI m name = (k : Int)) := hide (by have e := find_here hlt he (unhide HN); rw [fdI, if_pos (by omega), e])
        have be : (m.snaps[k].name.toList == name.toList) = true := by simp [he]
        clear he
        go_wp2
        go_ret
        exact ⟨ret_int (unhide HF).symm, unhide HA⟩
      · have HN' : Hid (∀ j (hj : j < m.snaps.length), j < k + 1 → m.snaps[j].name ≠ name) := hide (fun j hj h => by
          by_cases e : j = k
          · subst e; exact he
          · exact unhide HN j hj (by omega))
        have be : (m.snaps[k].name.toList == name.toList) = false := str_beq_false he
        clear he
        go_wp2
        go_round
        case rel => exact ⟨k + 1, by omega, by go_num, HN'⟩
        case measure => simp [intOf]; omega
    · have HF : Hid (fdI m name = -1) := hide (if_neg (find_none (fun j hj => unhide HN j hj (by omega))))
      go_wp2
      go_ret
      exact ⟨ret_int (unhide HF).symm, unhide HA⟩

theorem str_one (n : ByteArray) : ∀ u ∈ [Value.string n], u.oneCell' = true := by
  intro u hu
  simp at hu
  subst hu
  rfl
def nmL (m : Img) : List ByteArray := m.snaps.map (·.name)
def snA (m : Img) : List ByteArray × Int := if imB m = true then (nmL m, 0) else ([], 1)
set_option maxHeartbeats 1600000 in
theorem l10Names_any (a : Im4) (m : Img) (w : World) (hs : m.snaps.length ≤ 1000) (hc : Sns w a.so m.snaps) :
    Calls Tryz.prog 79 #[imV a m] w fun e w' => ∃ qo qa, e = .returned (.slice qo m.snaps.length qa) ∧ OwnR w' w.heap.size 9 1 (.slice qo m.snaps.length qa) m.snaps.length (strV (nmL m)) ∧ Below w.heap.size w w' := by
  have HA := hide (Joins.below_alloc1 w (.cells #[.slice a.ro m.refs.length a.rc, .slice a.tq m.table.length a.tc, .slice a.so m.snaps.length a.sc, .slice a.dq m.data.length a.dc] 32))
  have HV := hide (VarM.new w 32 (.slice a.ro m.refs.length a.rc) (.slice a.tq m.table.length a.tc) (.slice a.so m.snaps.length a.sc) (.slice a.dq m.data.length a.dc))
  have HC := hide (hc.below (unhide HA))
  clear hc
  obtain ⟨j0, hj, hy0, hy1, hy2⟩ := info_parts infoS
  go_enter Tryz.func79, Tryz.ntmps79
  go_upto_region 1 with fail
  revert HA HV HC
  generalize (w.alloc _) = W0
  intro HA HV HC
  have HA1 := hide (Joins.below_alloc1 W0 (.cells #[] 9))
  go_wp2
  go_loopw [3, 4] (fun o i wr => ∃ (k : Nat) (qo : Option Addr) (qa : Nat), k ≤ m.snaps.length ∧ i = .int .i64 k ∧ o = .slice qo k qa ∧ Hid (OwnR wr W0.heap.size 9 1 (.slice qo k qa) k (strV ((nmL m).take k))) ∧ Hid (Below W0.heap.size W0 wr)) (fun _ i _ => m.snaps.length - (intOf i).toNat)
  case atStart => exact ⟨0, _, _, Nat.zero_le _, rfl, rfl, hide (.inl ⟨rfl, by simp [strV], _, rfl⟩), HA1⟩
  case round =>
    obtain ⟨k, qo, qa, hk, rfl, rfl, HO, HB⟩ := hrel
    obtain ⟨c0, c1, c2, c3⟩ := ((unhide HV).below (unhide HB)).cells
    by_cases hlt : k < m.snaps.length
    · obtain ⟨b, off, tq, tc, eb, hn0, _, _, _, _⟩ := ((unhide HC).below (unhide HB)) k hlt
      rw [eb] at c2
      clear eb
      have hlti : (k : Int) < (m.snaps.length : Int) := by omega
      have HS : Hid (strV ((nmL m).take (k + 1)) = strV ((nmL m).take k) ++ [.string m.snaps[k].name]) := hide (by
        rw [List.take_succ_eq_append_getElem (by simpa [nmL] using hlt)]
        simp [strV, nmL])
      have HOA := hide ((unhide HO).below (Joins.below_alloc1 _ (.cells #[.string m.snaps[k].name] 9)))
      have HBA := hide (fr (unhide HB) (Joins.below_alloc1 _ (.cells #[.string m.snaps[k].name] 9)))
      have HSZ := hide (unhide HB).size
      go_wp2_with (at_builtin; refine wpList_append_one rfl _ _ 44 rfl W0.heap.size 9 j0 (.string ⟨#[]⟩) 1 16 Tryz.underlying44 hj hy0 hy1 hy2 rfl (by omega) qo k qa (strV ((nmL m).take k)) rfl (unhide HOA) (by have := unhide HSZ; simp; omega) ⟨wr.heap.size, 0, none⟩ _ [.string m.snaps[k].name] rfl rfl (byte_news wr _ _) (str_one _) (by unfold maxLen; omega) (by omega) ?_; intro g2 cap2 wA hoA hkA; have HSF := hide (And.intro hoA (keep_below (unhide HBA) (unhide HOA) (Nat.le_refl _) hkA)); clear hoA hkA)
      go_roundw
      case rel => exact ⟨k + 1, some ⟨g2, 0, none⟩, cap2, by omega, by go_num, rfl, hide (.inr ⟨by omega, by rw [unhide HS]; exact (unhide HSF).1⟩), hide (unhide HSF).2⟩
      case measure => simp [intOf]; omega
    · have hkl : k = m.snaps.length := by omega
      subst hkl
      have HT : Hid ((nmL m).take m.snaps.length = nmL m) := hide (List.take_of_length_le (by simp [nmL]))
      go_wp2
      go_ret
      have h := unhide HO
      rw [unhide HT] at h
      exact ⟨qo, qa, rfl, h.base (unhide HA).size, fr (unhide HA) (unhide HB)⟩

end Go.Proofs.YtpdpnepnfhbonaaGreat
