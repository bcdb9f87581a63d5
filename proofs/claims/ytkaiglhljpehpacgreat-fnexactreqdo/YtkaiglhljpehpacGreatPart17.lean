import Derived.Test.YtkaiglhljpehpacGreatRows
import Derived.Test.YtkaiglhljpehpacGreatPart1
import Derived.Test.YtkaiglhljpehpacGreatPart3
import Derived.Test.YtkaiglhljpehpacGreatPart16
import Derived.WalkKit
import Derived.WalkSpells
import Derived.KernelRfl
import Derived.Deep.RegionWith
import Derived.Laws.CopyRow
import Derived.Laws.CopyOwn
import Derived.Test.YtkaiglhljpehpacGreatPart7
import Derived.Test.YtkaiglhljpehpacGreatPart2
import Derived.LoopN
import Derived.BigQuiet
import Derived.Deep.QuietTactic
import Derived.Deep.CutRange
import Derived.Laws.ResultCell
import Derived.Laws.Cover3
import Derived.Deep.MidRow
import Derived.Maps.Own
import Derived.Maps.OwnOps
import Derived.Maps.OwnSet
import Derived.Maps.RangeWalk
import Derived.Maps.Views
import Derived.Test.YtkaiglhljpehpacGreatPart6

/- Contracts of impl.EntryOf and impl.ResizeTable. -/
namespace Go.Proofs.YtkaiglhljpehpacGreat
open Go.RowKit
set_option linter.unusedVariables false
set_option maxRecDepth 100000

theorem ret_3i {a b c x y z : Int} (h1 : a = x) (h2 : b = y) (h3 : c = z) : Ending.returned (.tuple #[.int .i64 a, .int .i64 b, .int .i64 c]) = .returned (.tuple #[.int .i64 x, .int .i64 y, .int .i64 z]) := by rw [h1, h2, h3]

set_option maxHeartbeats 1600000 in
theorem entryOf_impl (ao : Option Addr) (cap : Nat) (xs : List Int) (g : Int) (w : World) (hl : xs.length ≤ maxLen) (hc : Is w ao xs) :
    Calls Tryz.prog 83 #[.slice ao xs.length cap, .int .i64 g] w fun e w' => e = .returned (.tuple #[.int .i64 (enK xs g), .int .i64 (enC xs g), .int .i64 (enF xs g)]) ∧ Below w.heap.size w w' := by
  have HC := hide hc
  have HL := hide hl
  unfold maxLen at hl
  clear hc
  have hws : IntKind.i64.wrap ((xs.length : Int) - 1) = (xs.length : Int) - 1 := by rw [IntKind.wrap_i64]; omega
  rcases en_cases xs g with ⟨h0, h1, h2, h3⟩ | ⟨hb, hg, h1, h2, h3⟩ | ⟨hb, q, rfl, hq, h1, h2, h3⟩
  · have HE := hide (And.intro h1 (And.intro h2 h3))
    have hne := tbF_ne h0
    clear h0 h1 h2 h3
    go_enter Tryz.func83, Tryz.ntmps83
    go_wp2_with (go_at_call 105; refine (tableFault_any _ _ xs _ (unhide HL) (unhide HC)).mono ?_; rintro e w' ⟨rfl, hw⟩; replace hw := hw.symm; subst hw)
    refine bodyPost_ret (v := .tuple #[.int .i64 0, .int .i64 0, .int .i64 (tbF xs)]) (by simp [results, Tryz.results83]) rfl ⟨?_, Below.refl _ _⟩
    exact ret_3i (unhide HE).2.1.symm (unhide HE).2.2.symm (unhide HE).1.symm
  · have HE := hide (And.intro h1 (And.intro h2 h3))
    have H0 := hide (tbF_ok hb)
    clear h1 h2 h3
    go_enter Tryz.func83, Tryz.ntmps83
    go_wp2_with (first | (go_at_call 105; refine (tableFault_any _ _ xs _ (unhide HL) (unhide HC)).mono ?_; rintro e w' ⟨rfl, hw⟩; replace hw := hw.symm; subst hw; rw [unhide H0]) | (go_at_call 91; refine (within_any _ _ _ _).mono ?_; rintro e w' ⟨rfl, hw⟩; replace hw := hw.symm; subst hw; rw [hg]))
    refine bodyPost_ret (v := .tuple #[.int .i64 0, .int .i64 0, .int .i64 4]) (by simp [results, Tryz.results83]) rfl ⟨?_, Below.refl _ _⟩
    exact ret_3i (unhide HE).2.1.symm (unhide HE).2.2.symm (unhide HE).1.symm
  · have HE := hide (And.intro h1 (And.intro h2 h3))
    have H0 := hide (tbF_ok hb)
    have hg : betw (q : Int) 0 ((xs.length : Int) - 1) = true := betw_yes (by omega) (by omega)
    have hqi : (q : Int) < (xs.length : Int) := by omega
    have HI := hide (tbB_at hb q hq)
    obtain ⟨b, off, rfl, hcl⟩ := unhide HC q hq
    clear h1 h2 h3
    go_enter Tryz.func83, Tryz.ntmps83
    go_wp2_with (first | (go_at_call 105; refine (tableFault_any _ _ xs _ (unhide HL) (unhide HC)).mono ?_; rintro e w' ⟨rfl, hw⟩; replace hw := hw.symm; subst hw; rw [unhide H0]) | (go_at_call 91; refine (within_any _ _ _ _).mono ?_; rintro e w' ⟨rfl, hw⟩; replace hw := hw.symm; subst hw; rw [hg]) | (go_at_call 106; refine (splitEntry_any _ _ (by have := unhide HI; omega) (by have := unhide HI; omega)).mono ?_; rintro e w' ⟨rfl, hw⟩; replace hw := hw.symm; subst hw))
    refine bodyPost_ret (v := .tuple #[.int .i64 (min xs[q] 2), .int .i64 (max 0 (xs[q] - 2)), .int .i64 0]) (by simp [results, Tryz.results83]) rfl ⟨?_, Below.refl _ _⟩
    exact ret_3i (unhide HE).2.1.symm (unhide HE).2.2.symm (unhide HE).1.symm

/-- A table laid over a row of zeros is the table of that size. -/
theorem rz_splice (xs : List Int) (q : Nat) (M : List Value) (hM : M = List.replicate q (.int .i64 0)) : splice M 0 (intV (xs.take q)) = intV (rzTo xs q) := by
  subst hM
  apply List.ext_getElem?
  intro i
  unfold splice rzTo intV
  simp only [List.take_zero, List.nil_append, Nat.zero_add, List.length_map, List.length_take, List.getElem?_append, List.getElem?_map, List.getElem?_take, List.drop_replicate, List.getElem?_replicate, List.getD]
  by_cases hi : i < min q xs.length
  · have h1 : i < q := by omega
    have h2 : i < xs.length := by omega
    simp [hi, h1, h2]
  · by_cases hq : i < q
    · have h2 : ¬ i < xs.length := by omega
      simp [hi, hq, List.getElem?_eq_none (show xs.length ≤ i by omega)]
      omega
    · simp [hi, hq]
      omega
theorem sizeN1 : (Tryz.prog.info? 3).map (·.size) = some 1 := by kernel_rfl
theorem takeV_one (xs : List Int) : ∀ v ∈ intV xs, v.oneCell' = true := by
  intro v hv
  simp only [intV, List.mem_map] at hv
  obtain ⟨n, _, rfl⟩ := hv
  rfl

set_option maxHeartbeats 1600000 in
theorem resizeTable_impl (ao : Option Addr) (cap : Nat) (xs : List Int) (n : Int) (w : World) (hl : xs.length ≤ maxLen) (hc : Is w ao xs) :
    Calls Tryz.prog 93 #[.slice ao xs.length cap, .int .i64 n] w fun e w' => ∃ v, e = .returned (.tuple #[v, .int .i64 (rzF xs n)]) ∧ OwnN w' w.heap.size v (rzL xs n) ∧ Below w.heap.size w w' := by
  have HC := hide hc
  have HL := hide hl
  unfold maxLen at hl
  clear hc
  rcases rz_cases xs n with ⟨h0, h1, h2⟩ | ⟨hb, hg, h1, h2⟩ | ⟨hb, q, rfl, hq, h1, h2⟩
  · have HE := hide (And.intro h1 h2)
    have hne := tbF_ne h0
    clear h0 h1 h2
    go_enter Tryz.func93, Tryz.ntmps93
    go_wp2_with (go_at_call 105; refine (tableFault_any _ _ xs _ (unhide HL) (unhide HC)).mono ?_; rintro e w' ⟨rfl, hw⟩; replace hw := hw.symm; subst hw)
    go_ret2
    exact ⟨.slice none 0 0, ret_ni rfl (unhide HE).1.symm, by rw [(unhide HE).2]; exact OwnN.nil _ _ _, Below.refl _ _⟩
  · have HE := hide (And.intro h1 h2)
    have H0 := hide (tbF_ok hb)
    clear h1 h2
    go_enter Tryz.func93, Tryz.ntmps93
    go_wp2_with (first | (go_at_call 105; refine (tableFault_any _ _ xs _ (unhide HL) (unhide HC)).mono ?_; rintro e w' ⟨rfl, hw⟩; replace hw := hw.symm; subst hw; rw [unhide H0]) | (go_at_call 91; refine (within_any _ _ _ _).mono ?_; rintro e w' ⟨rfl, hw⟩; replace hw := hw.symm; subst hw; rw [hg]))
    go_ret2
    exact ⟨.slice none 0 0, ret_ni rfl (unhide HE).1.symm, by rw [(unhide HE).2]; exact OwnN.nil _ _ _, Below.refl _ _⟩
  · have HE := hide (And.intro h1 h2)
    have H0 := hide (tbF_ok hb)
    have HX := hide (tbB_len hb)
    have hg : betw (q : Int) 0 12 = true := betw_yes (by omega) (by omega)
    obtain ⟨i0, hi, hz0, hz1, hz2⟩ := info_parts infoM
    have HCS : Hid (0 < (intV (xs.take q)).length → ∃ ad, ao = some ad ∧ ad.block < w.heap.size ∧ ∀ j v, (intV (xs.take q))[j]? = some v → w.cell? (ad.add j) = some v) := hide (fun hp => by
      rw [intV_length, List.length_take] at hp
      obtain ⟨b, off, e, hc'⟩ := unhide HC 0 (by omega)
      refine ⟨_, e, World.block_lt_of_cell? _ _ hc', fun j v hv => ?_⟩
      have hj : j < min q xs.length := by have := (List.getElem?_eq_some_iff.1 hv).1; rwa [intV_length, List.length_take] at this
      obtain ⟨b2, off2, e2, hc2⟩ := unhide HC j (by omega)
      rw [e] at e2
      simp only [Option.some.injEq, Addr.mk.injEq, and_true] at e2
      obtain ⟨rfl, rfl⟩ := e2
      rw [intV_get (by rw [List.length_take]; omega), List.getElem_take] at hv
      cases hv
      rw [show Addr.add ⟨b, off, none⟩ j = ⟨b, off + j, none⟩ from by unfold Addr.add; split <;> simp_all]
      exact hc2)
    clear h1 h2
    go_enter Tryz.func93, Tryz.ntmps93
    go_wp2_with (first | (go_at_call 105; refine (tableFault_any _ _ xs _ (unhide HL) (unhide HC)).mono ?_; rintro e w' ⟨rfl, hw⟩; replace hw := hw.symm; subst hw; rw [unhide H0]) | (go_at_call 91; refine (within_any _ _ _ _).mono ?_; rintro e w' ⟨rfl, hw⟩; replace hw := hw.symm; subst hw; rw [hg]) | (at_make; refine wpList_make_full _ rfl _ _ 22 rfl w.heap.size 3 i0 _ 1 Tryz.underlying22 hi hz0 hz1 _ _ _ _ q rfl rfl rfl rfl ?c1 ?c2 ?c3 ?_))
    case c1 => rw [hz2]; omega
    case c2 => unfold maxLen; omega
    case c3 => exact Nat.le_refl _
    intro w1 hown hgrow
    have hB : Below w.heap.size w w1 := (Below.refl _ _).grown hgrow (Nat.le_refl _) (fun _ h => by cases h)
    obtain ⟨M, hM⟩ : ∃ M, M = (madeCells #[Value.int .i64 0] q).toList := ⟨_, rfl⟩
    rw [← hM] at hown
    have HM : Hid (M = List.replicate q (.int .i64 0)) := hide (by
      rw [hM]
      apply List.ext_getElem?
      intro i
      simp [madeCells, List.getElem?_replicate, Nat.mod_one]
      by_cases hi : i < q <;> simp [hi])
    have HB := hide hB
    have HG : Hid (w1.heap[w.heap.size]? = some (.cells M.toArray 3 (0, 0))) := hide (by
      rcases hown.2 with ⟨e, _⟩ | ⟨g', cap', cur, e, hB', hg', hnc, hcm, hcs, ht⟩
      · simp at e
      · simp only [Value.slice.injEq, Option.some.injEq, Addr.mk.injEq, and_true, true_and] at e
        obtain ⟨rfl, rfl⟩ := e
        rw [hg', ← ht, List.take_of_length_le (by simp [hcs])])
    have HLM : Hid (M.length = q) := hide (by rw [unhide HM]; simp)
    have HLT : Hid ((intV (xs.take q)).length = Nat.min xs.length q) := hide (by rw [intV_length, List.length_take, Nat.min_comm])
    have HO1 := hide (takeV_one (xs.take q))
    have HSP := hide (rz_splice xs q M (unhide HM))
    have HLZ := hide (rzTo_len xs q)
    clear hown hgrow hB hM HM
    generalize intV (xs.take q) = cs at *
    go_wp2_with (refine wpList_copy_splice rfl _ _ 22 22 rfl 3 Tryz.underlying22 sizeN1 _ _ q q xs.length cap rfl rfl w.heap.size 0 M 3 (unhide HG) cs (unhide HLT) (fun hp => ⟨rfl, (unhide HCS hp).imp fun ad h => ⟨h.1, fun j v hv => ((unhide HB).cell (by unfold Addr.add; split <;> exact h.2.1)).trans (h.2.2 j v hv)⟩⟩) (by rw [unhide HLT, unhide HLM, Nat.zero_add]; exact Nat.min_le_right _ _) (unhide HO1) w.heap.size w (unhide HB) (Nat.le_refl _) ?_; intro w2 hg2 hb2; have HB2 := hide hb2; have HG2 := hide (unhide hg2); clear hb2 hg2)
    go_ret2
    refine ⟨.slice (some ⟨w.heap.size, 0, none⟩) q q, ret_ni rfl (unhide HE).1.symm, ?_, unhide HB2⟩
    rw [(unhide HE).2]
    refine ⟨some ⟨w.heap.size, 0, none⟩, q, by rw [unhide HLZ], ?_⟩
    rw [unhide HLZ]
    by_cases h0 : q = 0
    · subst h0
      exact .inl ⟨rfl, by simp [rzTo, intV], _, rfl⟩
    · refine .inr ⟨by omega, ?_, .inr ⟨w.heap.size, q, _, rfl, Nat.le_refl _, unhide HG2, Nat.le_refl _, by unfold maxLen; omega, ?_, ?_⟩⟩
      · rw [intV_length, unhide HLZ]; omega
      · rw [unhide HSP]; simp [intV_length, unhide HLZ]
      · rw [unhide HSP, List.take_of_length_le (by simp [intV_length, unhide HLZ])]

end Go.Proofs.YtkaiglhljpehpacGreat

/- Contracts of the program's counts: RefsOK, clusterOK, countsOf, countsWith, list, RefUp. -/
namespace Go.Proofs.YtkaiglhljpehpacGreat
open Go.RowKit
set_option linter.unusedVariables false
set_option maxRecDepth 100000

theorem sizeA24 : (Tryz.prog.info? 126).map (·.size) = some 24 := by kernel_rfl
theorem arr24 : Tryz.prog.arrayLen 126 = 24 := by kernel_rfl
theorem und24 : Tryz.prog.underlying 126 = some (.array 24 3) := by kernel_rfl
theorem sizeA {xs : List Int} (h : xs.length = 24) : (Tryz.prog.info? 126).map (·.size) = some (intV xs).toArray.size := by rw [intV_size, h]; exact sizeA24
theorem sizeL {xs : List Int} (h : xs.length = 24) : (Tryz.prog.info? 126).map (·.size) = some (intV xs).length := by rw [intV_length, h]; exact sizeA24

set_option maxHeartbeats 800000 in
theorem refsOK_impl (ao : Option Addr) (cap : Nat) (xs : List Int) (w : World) (hl : xs.length ≤ maxLen) (hc : Is w ao xs) :
    Calls Tryz.prog 77 #[.slice ao xs.length cap] w fun e w' => e = .returned (.bool (ctB xs)) ∧ w' = w := by
  have HC := hide hc
  clear hc
  unfold maxLen at hl
  by_cases h24 : xs.length = 24
  · have hb : ((xs.length : Int) != 24) = false := by simp [h24]
    have H24 := hide h24
    clear h24
    go_enter Tryz.func77, Tryz.ntmps77
    go_wp2
    go_loop [10] (fun i => ∃ k : Nat, k ≤ xs.length ∧ i = .int .i64 k ∧ Hid (∀ j (h : j < xs.length), j < k → cnt1 xs[j] = true)) (fun i => xs.length - (intOf i).toNat)
    case atStart => exact ⟨0, Nat.zero_le _, rfl, hide (fun j _ h => by omega)⟩
    case round =>
      obtain ⟨k, hk, rfl, HA⟩ := hrel
      by_cases hlt : k < xs.length
      · obtain ⟨b, off, rfl, hc⟩ := unhide HC k hlt
        by_cases hn : cnt1 xs[k] = true
        · have HN := hide (all_succ hlt (unhide HA) hn)
          have hn' : betw xs[k] 0 15 = true := hn
          clear hn
          go_wp2_with (go_at_call 91; refine (within_any _ _ _ _).mono ?_; rintro e w' ⟨rfl, rfl⟩)
          go_round
          case rel => exact ⟨k + 1, by omega, by go_num, HN⟩
          case measure => simp [intOf]; omega
        · have hn0 : cnt1 xs[k] = false := by simpa using hn
          have hn' : betw xs[k] 0 15 = false := hn0
          have HF := hide (ctB_noat hlt hn0)
          clear hn hn0
          go_wp2_with (go_at_call 91; refine (within_any _ _ _ _).mono ?_; rintro e w' ⟨rfl, rfl⟩)
          go_ret
          exact ⟨ret_bool (unhide HF).symm, rfl⟩
      · have HF := hide (ctB_of (unhide H24) (fun j h => unhide HA j h (by omega)))
        go_wp2
        go_ret
        exact ⟨ret_bool (unhide HF).symm, rfl⟩
  · have hb : ((xs.length : Int) != 24) = true := by simp; omega
    have HF := hide (ctB_nolen h24)
    clear h24
    go_enter Tryz.func77, Tryz.ntmps77
    go_wp2
    go_ret
    exact ⟨ret_bool (unhide HF).symm, rfl⟩

/-- An array of counts as a value. -/
abbrev ctV (xs : List Int) : Value := .agg (intV xs).toArray
theorem zero_arr : (#[.int .i64 0, .int .i64 0, .int .i64 0, .int .i64 0, .int .i64 0, .int .i64 0, .int .i64 0, .int .i64 0, .int .i64 0, .int .i64 0, .int .i64 0, .int .i64 0, .int .i64 0, .int .i64 0, .int .i64 0, .int .i64 0, .int .i64 0, .int .i64 0, .int .i64 0, .int .i64 0, .int .i64 0, .int .i64 0, .int .i64 0, .int .i64 0] : Array Value) = (intV zero24).toArray := rfl
theorem ret_ci {xs ys : List Int} {a b : Int} (h : xs = ys) (k : a = b) : Ending.returned (.tuple #[ctV xs, .int .i64 a]) = .returned (.tuple #[ctV ys, .int .i64 b]) := by rw [h, k]
theorem arr_new (w : World) : (w.alloc (.cells #[.int .i64 0, .int .i64 0, .int .i64 0, .int .i64 0, .int .i64 0, .int .i64 0, .int .i64 0, .int .i64 0, .int .i64 0, .int .i64 0, .int .i64 0, .int .i64 0, .int .i64 0, .int .i64 0, .int .i64 0, .int .i64 0, .int .i64 0, .int .i64 0, .int .i64 0, .int .i64 0, .int .i64 0, .int .i64 0, .int .i64 0, .int .i64 0] 126)).heap[w.heap.size]? = some (.cells (intV zero24).toArray 126 (0, 0)) := heap_alloc_new w _
theorem load_ct (W : World) {g : Nat} {xs : List Int} (h : W.heap[g]? = some (.cells (intV xs).toArray 126 (0, 0))) (hl : xs.length = 24) : (loadVar 126 ⟨g, 0, none⟩).run Tryz.prog W = .ok (ctV xs) W :=
  run_loadVar_row W g 126 126 (intV xs).toArray (0, 0) _ h und24 rfl (sizeA hl)

theorem res_ct {W : World} {g : Nat} {xs : List Int} {p u : Value} (h : W.heap[g]? = some (.cells (intV xs).toArray 126 (0, 0))) (hl : xs.length = 24) (hp : p = .pointer (some ⟨g, 0, none⟩)) : (((asAddr p).run Tryz.prog W).andThen fun a w₁ => ((loadVar 126 a).run Tryz.prog w₁).andThen fun v w₂ => .ok (Value.tuple #[v, u]) w₂) = .ok (Value.tuple #[ctV xs, u]) W := by
  subst hp
  simp only [asAddr, Sem.run_pure, Result.andThen_ok, load_ct W h hl]

set_option maxHeartbeats 1600000 in
theorem countsOf_any (ao : Option Addr) (cap : Nat) (xs : List Int) (w : World) (hl : xs.length ≤ maxLen) (hc : Is w ao xs) :
    Calls Tryz.prog 108 #[.slice ao xs.length cap] w fun e w' => e = .returned (.tuple #[ctV (coR xs), .int .i64 (ctF xs)]) ∧ Below w.heap.size w w' := by
  have HN := hide (arr_new w)
  have HA := hide (Joins.below_alloc1 w (.cells #[.int .i64 0, .int .i64 0, .int .i64 0, .int .i64 0, .int .i64 0, .int .i64 0, .int .i64 0, .int .i64 0, .int .i64 0, .int .i64 0, .int .i64 0, .int .i64 0, .int .i64 0, .int .i64 0, .int .i64 0, .int .i64 0, .int .i64 0, .int .i64 0, .int .i64 0, .int .i64 0, .int .i64 0, .int .i64 0, .int .i64 0, .int .i64 0] 126))
  have HC := hide (hc.below (unhide HA))
  have HL := hide hl
  unfold maxLen at hl
  clear hc
  rcases ctF_cases xs with ⟨h1, h2, h3⟩ | ⟨h1, hb, h2, h3⟩ | ⟨hb, h2, h3⟩
  · have HE := hide (And.intro h2 h3)
    clear h2 h3
    go_enter Tryz.func108, Tryz.ntmps108
    go_upto_region 1 with fail
    revert HN HA HC
    generalize (w.alloc _) = W1
    intro HN HA HC
    go_wp2_with (refine wpList_store_arr rfl 126 _ _ rfl w.heap.size rfl (intV zero24).toArray rfl _ _ (unhide HN) sizeA24 rfl (intV_one _) ?_; intro w2 hn2 hk2 hs2; have HN2 := hide hn2; have HB2 := hide (keep_one (unhide HA) hk2 (Nat.le_refl _)); clear hn2 hk2 hs2)
    refine bodyPost_ret (v := .tuple #[ctV zero24, .int .i64 2]) ?_ rfl ⟨?_, unhide HB2⟩
    · rw [results_cell_tmp Tryz.results108]
      exact res_ct (unhide HN2) rfl rfl
    · exact ret_ci (unhide HE).2.symm (unhide HE).1.symm
  · have HE := hide (And.intro h2 h3)
    clear h2 h3
    go_enter Tryz.func108, Tryz.ntmps108
    go_upto_region 1 with fail
    revert HN HA HC
    generalize (w.alloc _) = W1
    intro HN HA HC
    go_wp2_with (first | (go_at_call 77; refine (refsOK_impl ao cap xs _ (unhide HL) (unhide HC)).mono ?_; rintro e w' ⟨rfl, hw⟩; replace hw := hw.symm; subst hw; rw [hb]) | (refine wpList_store_arr rfl 126 _ _ rfl w.heap.size rfl (intV zero24).toArray rfl _ _ (unhide HN) sizeA24 rfl (intV_one _) ?_; intro w2 hn2 hk2 hs2; have HN2 := hide hn2; have HB2 := hide (keep_one (unhide HA) hk2 (Nat.le_refl _)); clear hn2 hk2 hs2))
    refine bodyPost_ret (v := .tuple #[ctV zero24, .int .i64 1]) ?_ rfl ⟨?_, unhide HB2⟩
    · rw [results_cell_tmp Tryz.results108]
      exact res_ct (unhide HN2) rfl rfl
    · exact ret_ci (unhide HE).2.symm (unhide HE).1.symm
  · have HE := hide (And.intro h2 h3)
    have hlen := ctB_len hb
    have H24 := hide hlen
    obtain ⟨b, off, rfl, hr⟩ := (unhide HC).range (by omega)
    have HR := hide hr
    have har : ∀ W : World, (Instr.arrayAt 126 (.slice (some ⟨b, off, none⟩) xs.length cap)).run Tryz.prog W = .ok (.pointer (some ⟨b, off, none⟩)) W := fun W => run_arrayAt (w := W) 126 3 24 _ _ _ und24 (by omega)
    have hle : ¬ (4096 : Int) < (xs.length : Int) := by omega
    clear h2 h3 hr hlen
    go_enter Tryz.func108, Tryz.ntmps108
    go_upto_region 1 with fail
    revert HN HA HC HR
    generalize (w.alloc _) = W1
    intro HN HA HC HR
    go_wp2_with (first | (go_at_call 77; refine (refsOK_impl _ cap xs _ (unhide HL) (unhide HC)).mono ?_; rintro e w' ⟨rfl, hw⟩; replace hw := hw.symm; subst hw; rw [hb]) | (refine wpList_load_mid rfl 126 _ rfl b off rfl (intV xs) _ (unhide HR) und24 rfl (sizeL (unhide H24)) ?_) | (refine wpList_store_arr rfl 126 _ _ rfl w.heap.size rfl (intV xs).toArray rfl _ _ (unhide HN) (sizeA (unhide H24)) (by rw [intV_size, intV_size, unhide H24]; rfl) (intV_one _) ?_; intro w2 hn2 hk2 hs2; have HN2 := hide hn2; have HB2 := hide (keep_one (unhide HA) hk2 (Nat.le_refl _)); clear hn2 hk2 hs2))
    refine bodyPost_ret (v := .tuple #[ctV xs, .int .i64 0]) ?_ rfl ⟨?_, unhide HB2⟩
    · rw [results_cell_tmp Tryz.results108]
      exact res_ct (unhide HN2) (unhide H24) rfl
    · exact ret_ci (unhide HE).2.symm (unhide HE).1.symm

/-- An array of counts in a variable. -/
abbrev VarC (W : World) (g : Nat) (xs : List Int) : Prop := W.heap[g]? = some (.cells (intV xs).toArray 126 (0, 0))
theorem cw_bad {xs : List Int} {c : Int} (h : ctF xs ≠ 0) : cwF xs c = ctF xs ∧ cwR xs c = zero24 := by
  have e : cwF xs c = ctF xs := by rw [cwF, if_neg h]
  exact ⟨e, by rw [cwR, e, if_neg h]⟩
theorem cw_out {xs : List Int} {c : Int} (h : ctF xs = 0) (hc : betw c 0 23 = false) : cwF xs c = 4 ∧ cwR xs c = zero24 := by
  have e : cwF xs c = 4 := by rw [cwF, if_pos h, hc]; rfl
  exact ⟨e, by rw [cwR, e]; rfl⟩
theorem cw_in {xs : List Int} {c : Int} (h : ctF xs = 0) (hc : betw c 0 23 = true) : cwF xs c = 0 ∧ cwR xs c = xs := by
  have e : cwF xs c = 0 := by rw [cwF, if_pos h, hc]; rfl
  exact ⟨e, by rw [cwR, e]; rfl⟩
theorem ctF_ne (xs : List Int) (h : ctF xs ≠ 0) : (ctF xs != 0) = true := by simpa using h

theorem intV_ones (xs : List Int) : ∀ v ∈ intV xs, v.oneCell' = true := by
  intro v hv
  simp only [intV, List.mem_map] at hv
  obtain ⟨n, _, rfl⟩ := hv
  rfl
theorem sizeI1 : (Tryz.prog.info? 3).map (·.size) = some 1 := by kernel_rfl
theorem runI1 (W : World) : (Go.sizeOf 3).run Tryz.prog W = .ok 1 W := by
  have h := sizeI1
  cases hq : Tryz.prog.info? 3 with
  | none => simp [hq] at h
  | some i =>
    have hi : i.size = 1 := by simpa [hq] using h
    simp [Go.sizeOf, typeInfo, hq, hi]
set_option maxHeartbeats 1600000 in
theorem copyI_any (b off cap : Nat) (ss : List Int) (w : World) (hl : ss.length ≤ 1048576) (h0 : 0 < ss.length) (hbl : b < w.heap.size) (hc : w.rangeAt b off (intV ss)) :
    Calls Tryz.prog 84 #[.slice (some ⟨b, off, none⟩) ss.length cap] w fun e w' => e = .returned (.slice (some ⟨w.heap.size, 0, none⟩) ss.length ss.length) ∧ w'.ownsRow w.heap.size 3 1 (.slice (some ⟨w.heap.size, 0, none⟩) ss.length ss.length) ss.length (intV ss) ∧ Below w.heap.size w w' := by
  have hb : ((ss.length : Int) == 0) = false := beq_eq_false_iff_ne.2 (by omega)
  have HCS := hide hc
  have HP := hide h0
  clear hc h0
  obtain ⟨i0, hi, hz0, hz1, hz2⟩ := info_parts infoM
  go_enter Tryz.func84, Tryz.ntmps84
  go_wp2_with (first | (at_make; refine wpList_make_full _ rfl _ _ 22 rfl w.heap.size 3 i0 _ 1 Tryz.underlying22 hi hz0 hz1 _ _ _ _ ss.length rfl rfl rfl rfl ?c1 ?c2 ?c3 ?_))
  case c1 => rw [hz2]; omega
  case c2 => unfold maxLen; omega
  case c3 => exact Nat.le_refl _
  intro w1 hown hgrow
  have hB : Below w.heap.size w w1 := (Below.refl _ _).grown hgrow (Nat.le_refl _) (fun _ h => by cases h)
  have HO := hide hown
  have HB := hide hB
  have HC1 : Hid (∀ j v, (intV ss)[j]? = some v → w1.cell? (Addr.add ⟨b, off, none⟩ j) = some v) := hide (fun j v hv => ((unhide HB).cell (by unfold Addr.add; split <;> exact hbl)).trans (by rw [Addr.add_mid]; exact unhide HCS j v hv))
  clear hown hgrow hB
  go_wp2_with (refine wpList_copy_whole rfl _ _ 22 22 rfl 3 1 Tryz.underlying22 sizeI1 w.heap.size w.heap.size ss.length ⟨b, off, none⟩ _ rfl rfl _ (unhide HO) (intV ss) (by rw [intV_length]; omega) (unhide HC1) (intV_ones ss) ?_; intro w2 ho2 hg2)
  have HB2 := hide ((unhide HB).grown hg2 (unhide HB).size (fun k h => by cases h; exact Nat.le_refl _))
  have HO2 := hide ho2
  clear ho2 hg2
  go_ret
  exact ⟨rfl, unhide HO2, unhide HB2⟩

theorem slice24 (W : World) (g : Nat) : (Instr.sliceAt 126 (.pointer (some ⟨g, 0, none⟩)) none none none).run Tryz.prog W = .ok (.slice (some ⟨g, 0, none⟩) 24 24) W := by
  have hu : Tryz.prog.underlying 126 = some (.array (Tryz.prog.arrayLen 126) (Tryz.prog.elem 126)) := by kernel_rfl
  have he : Tryz.prog.elem 126 = 3 := by kernel_rfl
  rw [run_sliceAt_array_all W _ _ hu, he, runI1, arr24]
  simp only [Result.andThen, slicedAt, Nat.mul_one, Nat.sub_zero]
  rfl
theorem idx24 (W : World) (xs : List Int) (k : Nat) (hl : xs.length = 24) (hk : k < xs.length) : (Instr.index 126 (ctV xs) (.int .i64 k)).run Tryz.prog W = .ok (.int .i64 xs[k]) W := by
  have hu := und24
  have hk' : k < 24 := by omega
  have h2 := sizeI1
  cases hq : Tryz.prog.info? 3 with
  | none => simp [hq] at h2
  | some i =>
    have hi : i.size = 1 := by simpa [hq] using h2
    simp [Instr.index, run_underlying, hu, sizeOf, typeInfo, hq, hi, intV, asIntOf, part, hk]
    intro h
    omega

end Go.Proofs.YtkaiglhljpehpacGreat

/- Maps from clusters to counts. -/
namespace Go.Proofs.YtkaiglhljpehpacGreat
open Go.RowKit Go.Maps
set_option linter.unusedVariables false
set_option maxRecDepth 100000

theorem lawI : Keyed Tryz.prog 3 := int_keyed Tryz.underlying3
theorem zeroI (w : World) : (zeroValue 3).run Tryz.prog w = .ok (.int .i64 0) w := by kernel_rfl
theorem wfI {n : Int} (h0 : -1000000 ≤ n) (h1 : n ≤ 1000000) : (Lit.int .i64 n).wf = true := WalkArith.wf_i64 (by omega)
theorem keyI {i : Nat} (h : i < 24) : keyOf Tryz.prog 3 (.int .i64 (i : Int)) = some (.int .i64 (i : Int)) := keyOf_int_mk Tryz.underlying3 (wfI (by omega) (by omega))
/-- The map in block B has at most n entries, all of clusters, and says these counts. -/
def MpC (w : World) (B n : Nat) (D : DataW Unit) (ns : List Int) : Prop := w.ownsMap Tryz.prog 3 (plainElem Tryz.prog 3) B n D ∧ ns.length = 24 ∧ (∀ i : Nat, i < 24 → D.atKey (.int .i64 (i : Int)) (.lit (.int .i64 0)) = .lit (.int .i64 (ns.getD i 0))) ∧ (∀ kl, has D kl = true → ∃ i : Nat, i < 24 ∧ kl = .int .i64 (i : Int))
theorem MpC.made (w : World) : MpC (w.alloc (.map #[] 0)) w.heap.size 0 (.map []) zero24 := ⟨World.ownsMap_made _ _ _ _, rfl, fun i hi => by
    have e : zero24.getD i 0 = 0 := by
      have h2 : ∀ i : Fin 24, zero24.getD i 0 = 0 := by decide
      exact h2 ⟨i, hi⟩
    rw [e]; rfl, fun kl h => by cases h⟩
theorem MpC.lt {w : World} {B n : Nat} {D : DataW Unit} {ns : List Int} (h : MpC w B n D ns) : B < w.heap.size := h.1.lt
theorem grown_of_keep {S : Nat → Prop} {w w' : World} {B : Nat} (h : Keep S w w') (hs : ¬ S B) (hB : B < w.heap.size) : w'.heap[B]? = w.heap[B]? := h.block B hB hs
theorem MpC.keep {S : Nat → Prop} {w w' : World} {B n : Nat} {D : DataW Unit} {ns : List Int} (h : MpC w B n D ns) (hk : Keep S w w') (hs : ¬ S B) : MpC w' B n D ns := by
  have hl := h.lt
  obtain ⟨⟨es, clock, hb, F, hn, hD⟩, h2⟩ := h
  exact ⟨⟨es, clock, (hk.block B hl hs).trans hb, F, hn, hD⟩, h2⟩
theorem MpC.below {w w' : World} {B n : Nat} {D : DataW Unit} {ns : List Int} (h : MpC w B n D ns) (hb : Below w.heap.size w w') : MpC w' B n D ns := h.keep (S := fun _ => False) (Keep.of_below hb) (fun h => h)
theorem MpC.mono {w : World} {B n n' : Nat} {D : DataW Unit} {ns : List Int} (h : MpC w B n D ns) (hn : n ≤ n') : MpC w B n' D ns := ⟨h.1.mono hn, h.2⟩
theorem keep_map {w w' : World} {B : Nat} (h : w.grownBy w' (some B)) : Keep (fun g => g = B) w w' := ⟨h.os, h.tape, h.output, h.size, fun k hk hs => h.block k hk (fun e => hs (Option.some.inj e))⟩
/-- One cluster's count is set. -/
theorem MpC.put {w w' : World} {B n i : Nat} {D : DataW Unit} {ns : List Int} {c : Int} (h : MpC w B n D ns) (hi : i < 24) (ho : w'.ownsMap Tryz.prog 3 (plainElem Tryz.prog 3) B (n + 1) (D.put (.int .i64 (i : Int)) (.lit (.int .i64 c)))) : MpC w' B (n + 1) (D.put (.int .i64 (i : Int)) (.lit (.int .i64 c))) (ns.set i c) := by
  have hM : IsMap D := by obtain ⟨es, e, _⟩ := h.1.entries lawI; exact ⟨es, e⟩
  refine ⟨ho, by rw [List.length_set]; exact h.2.1, fun j hj => ?_, fun kl hk => ?_⟩
  · by_cases e : j = i
    · subst e
      rw [atKey_put_same (k := .int .i64 (j : Int)) hM trivial]
      simp [List.getD, h.2.1, hi]
    · rw [atKey_put_other (by intro h2; simp only [Lit.int.injEq, true_and] at h2; omega), h.2.2.1 j hj]
      simp [List.getD, Ne.symm e]
  · by_cases e : kl = .int .i64 (i : Int)
    · exact ⟨i, hi, e⟩
    · rw [has_put_other e] at hk
      exact h.2.2.2 kl hk
/-- What is looked up. -/
theorem MpC.look {w : World} {B n i : Nat} {D : DataW Unit} {ns : List Int} (h : MpC w B n D ns) (hi : i < 24) : (Instr.lookup 105 (.map (some B)) (.int .i64 (i : Int)) false).run Tryz.prog w = .ok (.int .i64 (ns.getD i 0)) w := by
  obtain ⟨c, hrun, hat, hwf⟩ := h.1.lookup_int lawI Tryz.underlying105 Tryz.underlying3 (zeroI _) (keyI hi)
  rw [h.2.2.1 i hi] at hat
  simp only [DataW.lit.injEq, Lit.int.injEq, true_and] at hat
  rw [hat]
  exact hrun
theorem fit_none : ∀ {clock : Nat}, Go.WideElems.Fit (H := Unit) Tryz.prog 3 (plainElem Tryz.prog 3) #[] clock := fun {clock} => ⟨by simp, MapKept.stamped_empty clock, by simp⟩
/-- clear. -/
theorem MpC.clear {w : World} {B n : Nat} {D : DataW Unit} {ns : List Int} (h : MpC w B n D ns) (ty : TypeId) : ∃ w', (Builtin.clear_ #[105] ty #[.map (some B)]).run Tryz.prog w = .ok (.tuple #[]) w' ∧ MpC w' B 0 (.map []) zero24 ∧ Keep (fun g => g = B) w w' := by
  obtain ⟨⟨es, clock, hb, F, hn, hD⟩, h2⟩ := h
  refine ⟨ChangeMaps.setBlock w B (.map #[] clock), ?_, ⟨⟨#[], clock, ChangeMaps.heap_setBlock_same hb _, fit_none, Nat.le_refl _, rfl⟩, (MpC.made w).2⟩, ⟨rfl, rfl, rfl, by simp [ChangeMaps.setBlock], fun k _ hk => ChangeMaps.heap_setBlock_other hb _ hk⟩⟩
  simp [Builtin.clear_, run_underlying Tryz.underlying105, MapKept.run_getObj_map hb, MapKept.run_setObj_map _ hb, Result.andThen, ChangeMaps.setBlock]
theorem wpList_clear {w : World} {ops : Array Oper} {rest : List Oper} {o : Oper} {a : Act} {Q : Exit → Act → World → Prop} (hg : o.guard = none) (m : Operand) (hop : o.op = Op.call { callee := Callee.builtin Builtin.clear, args := #[m], argTypes := #[105] })
    {B n : Nat} {D : DataW Unit} {ns : List Int} (hm : a.eval m = .map (some B)) (h : MpC w B n D ns) (hK : ∀ w', MpC w' B 0 (.map []) zero24 → Keep (fun g => g = B) w w' → wpList Tryz.prog ops Q rest (a.put o.dst (.tuple #[])) w') : wpList Tryz.prog ops Q (o :: rest) a w := by
  refine wpList_plain hg fun K' hK' => ?_
  obtain ⟨w', hrun, r1, r2⟩ := h.clear o.type
  unfold Oper.wp
  simp [execOp, hop, resolve, invoke, builtin, hm, hrun, Result.andThen]
  exact hK' _ _ (hK w' r1 r2)
theorem wpList_count {w : World} {ops : Array Oper} {rest : List Oper} {o : Oper} {a : Act} {Q : Exit → Act → World → Prop} (hg : o.guard = none) (m x v : Operand) (hop : o.op = Op.mapUpdate 105 m x v)
    {B n i : Nat} {D : DataW Unit} {ns : List Int} {c : Int} (hm : a.eval m = .map (some B)) (h : MpC w B n D ns) (hn : n < 1000000) (hx : a.eval x = .int .i64 (i : Int)) (hi : i < 24) (hv : a.eval v = .int .i64 c) (hc : -1000000 ≤ c ∧ c ≤ 1000000)
    (hK : ∀ w' D', MpC w' B (n + 1) D' (ns.set i c) → Keep (fun g => g = B) w w' → wpList Tryz.prog ops Q rest (a.put o.dst undef) w') : wpList Tryz.prog ops Q (o :: rest) a w :=
  wpList_mapUpdate_own w hg m x v 105 hop 3 3 lawI Tryz.underlying105 _ B n D hm h.1 (by unfold maxLen; omega) _ _ _ hx hv (keyI hi) _ [] (plainElem_int Tryz.underlying3 (wfI hc.1 hc.2)) (fun w' ho hg' => hK w' _ (h.put hi ho) (keep_map hg'))

/-- How often a table has a cluster. -/
theorem incr_get (ns : List Int) (hl : ns.length = 24) (c i : Nat) (hc : c < 24) (hi : i < 24) : (incr ns (c : Int)).getD i 0 = ns.getD i 0 + (if i = c then 1 else 0) := by
  rw [incr_set]
  simp only [List.getD, List.getElem?_set]
  by_cases e : i = c
  · subst e; simp [hl, hi]
  · simp [e, Ne.symm e]
theorem fold_incr_get (i : Nat) (hi : i < 24) : ∀ (L : List Int), (∀ c ∈ L, 0 ≤ c ∧ c ≤ 23) → ∀ ns : List Int, ns.length = 24 → (L.foldl incr ns).getD i 0 = ns.getD i 0 + (L.count (i : Int) : Int) := by
  intro L
  induction L with
  | nil => intro _ ns _; simp
  | cons c L ih =>
    intro hL ns hl
    obtain ⟨c0, c1⟩ := hL c (by simp)
    obtain ⟨q, rfl⟩ := Int.eq_ofNat_of_zero_le c0
    rw [List.foldl_cons, ih (fun d hd => hL d (by simp [hd])) _ (by rw [incr_len]; exact hl), incr_get ns hl q i (by omega) hi, List.count_cons]
    by_cases e : i = q
    · subst e; simp; omega
    · have e2 : ¬ ((q : Int) = (i : Int)) := by omega
      simp [e, e2]
theorem nodup_count : ∀ (L : List Int), L.Nodup ↔ ∀ x ∈ L, L.count x ≤ 1 := by
  intro L
  induction L with
  | nil => simp
  | cons c L ih =>
    rw [List.nodup_cons, ih]
    constructor
    · rintro ⟨h1, h2⟩ x hx
      rw [List.count_cons]
      by_cases e : c = x
      · subst e
        rw [List.count_eq_zero_of_not_mem h1]; simp
      · have : x ∈ L := by simpa [Ne.symm e] using hx
        have := h2 x this
        simp [e]; omega
    · intro h
      refine ⟨fun hm => ?_, fun x hx => ?_⟩
      · have h1 := h c (by simp)
        rw [List.count_cons] at h1
        have := List.count_pos_iff.2 hm
        simp at h1; omega
      · have h1 := h x (by simp [hx])
        rw [List.count_cons] at h1
        omega
theorem cl_mem {t : List Int} (h : tbB t = true) : ∀ c ∈ clA t, 0 ≤ c ∧ c ≤ 23 := fun c hc => by
  obtain ⟨j, hj, rfl⟩ := List.mem_iff_getElem.1 hc
  exact clA_in h j hj
theorem cnt1T_get {t : List Int} (h : tbB t = true) {ns : List Int} (hl : ns.length = 24) {i : Nat} (hi : i < 24) : (cnt1T ns t).getD i 0 = ns.getD i 0 + ((clA t).count (i : Int) : Int) := fold_incr_get i hi _ (cl_mem h) ns hl
theorem zero24_get {i : Nat} (hi : i < 24) : zero24.getD i 0 = 0 := by
  have h2 : ∀ i : Fin 24, zero24.getD i 0 = 0 := by decide
  exact h2 ⟨i, hi⟩
/-- A table has no cluster twice, told by counts. -/
theorem once_yes {t : List Int} (h : tbB t = true) (hc : ∀ i, i < 24 → (cnt1T zero24 t).getD i 0 ≤ 1) : onceB t = true := by
  refine decide_eq_true ((nodup_count _).2 fun x hx => ?_)
  obtain ⟨c0, c1⟩ := cl_mem h x hx
  obtain ⟨q, rfl⟩ := Int.eq_ofNat_of_zero_le c0
  have := hc q (by omega)
  rw [cnt1T_get h rfl (by omega), zero24_get (by omega)] at this
  omega
theorem once_no {t : List Int} (h : tbB t = true) {i : Nat} (hi : i < 24) (hc : 1 < (cnt1T zero24 t).getD i 0) : onceB t = false := by
  refine decide_eq_false fun hn => ?_
  rw [cnt1T_get h rfl hi, zero24_get hi] at hc
  have hm : (i : Int) ∈ clA t := List.count_pos_iff.1 (by omega)
  have := (nodup_count _).1 hn _ hm
  omega

end Go.Proofs.YtkaiglhljpehpacGreat

/- Contracts of impl.clusterOfData, impl.takeEntries at numbers, impl.ClustersOf. -/
namespace Go.Proofs.YtkaiglhljpehpacGreat
open Go.RowKit
set_option linter.unusedVariables false
set_option maxRecDepth 100000

theorem clusterOfData_any (k c : Int) (w : World) :
    Calls Tryz.prog 112 #[.int .i64 k, .int .i64 c] w fun e w' => e = .returned (.tuple #[.int .i64 c, .bool (k == 2)]) ∧ w' = w := by
  go_enter Tryz.func112, Tryz.ntmps112
  go_wp2
  go_ret2
  exact ⟨rfl, rfl⟩

set_option maxHeartbeats 1600000 in
theorem takeEntries_any (ao : Option Addr) (cap : Nat) (xs : List Int) (w : World) (hl : xs.length ≤ 1048576) (hi : ∀ j (h : j < xs.length), -1000 ≤ xs[j] ∧ xs[j] ≤ 1000) (hc : Is w ao xs) :
    Calls Tryz.prog 111 #[.slice ao xs.length cap, .func (.func 112) #[] #[]] w fun e w' => ∃ v, e = .returned v ∧ OwnN w' w.heap.size v (clA xs) ∧ Below w.heap.size w w' := by
  obtain ⟨j0, hj, hy0, hy1, hy2⟩ := info_parts infoM
  have HC := hide hc
  have HI := hide hi
  clear hc hi
  go_enter Tryz.func111, Tryz.ntmps111
  go_wp2
  go_loopw [5, 12] (fun o i wr => ∃ (k : Nat) (ys : List Int) (qo : Option Addr) (qa : Nat), k ≤ xs.length ∧ i = .int .i64 k ∧ o = .slice qo ys.length qa ∧ Hid (ys = clTo xs k) ∧ Hid (OwnR wr w.heap.size 3 1 (.slice qo ys.length qa) ys.length (intV ys)) ∧ Hid (Below w.heap.size w wr)) (fun _ i _ => xs.length - (intOf i).toNat)
  case atStart => exact ⟨0, [], _, _, Nat.zero_le _, rfl, rfl, hide rfl, hide (.inl ⟨rfl, rfl, _, rfl⟩), hide (Below.refl _ _)⟩
  case round =>
    obtain ⟨k, ys, qo, qa, hk, rfl, rfl, HE, HO, HB⟩ := hrel
    by_cases hlt : k < xs.length
    · obtain ⟨b, off, rfl, hcl⟩ := (unhide HC).below (unhide HB) k hlt
      have HIK := hide (unhide HI k hlt)
      by_cases h2 : 2 ≤ xs[k]
      · have HS := hide (clTo_data hlt h2)
        have HYL : Hid (ys.length ≤ 1048576) := hide (by rw [unhide HE]; have := clTo_len xs k; omega)
        have hyl := unhide HYL
        have HV : Hid (min xs[k] 2 = 2 ∧ max 0 (xs[k] - 2) = xs[k] - 2) := hide ⟨by omega, by omega⟩
        have HOA := hide ((unhide HO).below (Joins.below_alloc1 _ (.cells #[.int .i64 (xs[k] - 2)] 3)))
        have HBA := hide (fr (unhide HB) (Joins.below_alloc1 _ (.cells #[.int .i64 (xs[k] - 2)] 3)))
        have HSZ := hide (unhide HB).size
        clear h2
        go_wp2_with (first | (go_at_call 106; refine (splitEntry_any _ _ (by have := unhide HIK; omega) (by have := unhide HIK; omega)).mono ?_; rintro e w' ⟨rfl, hw⟩; replace hw := hw.symm; subst hw; rw [(unhide HV).1, (unhide HV).2]) | (go_at_call 112; refine (clusterOfData_any _ _ _).mono ?_; rintro e w' ⟨rfl, hw⟩; replace hw := hw.symm; subst hw) | (at_builtin; refine wpList_append_one rfl _ _ 22 rfl w.heap.size 3 j0 (.int .i64 0) 1 8 Tryz.underlying22 hj hy0 hy1 hy2 rfl (by omega) qo ys.length qa (intV ys) rfl (unhide HOA) (by have := unhide HSZ; simp; omega) ⟨wr.heap.size, 0, none⟩ _ [.int .i64 (xs[k] - 2)] rfl rfl (byte_news wr _ _) (int_one _) (by unfold maxLen; omega) (by omega) ?_; intro g2 cap2 wA hoA hkA; have HSF := hide (And.intro hoA (keep_below (unhide HBA) (unhide HOA) (Nat.le_refl _) hkA)); clear hoA hkA))
        go_roundw
        case rel => exact ⟨k + 1, ys ++ [xs[k] - 2], some ⟨g2, 0, none⟩, cap2, by omega, by go_num, by simp, hide (by rw [unhide HS, unhide HE]), hide (by rw [List.length_append, intV_snoc]; exact .inr ⟨by simp, (unhide HSF).1⟩), hide (unhide HSF).2⟩
        case measure => simp [intOf]; omega
      · have HS := hide (clTo_none hlt h2)
        have HV : Hid (min xs[k] 2 = xs[k] ∧ max 0 (xs[k] - 2) = 0) := hide ⟨by omega, by omega⟩
        have hb2 : (xs[k] == 2) = false := beq_eq_false_iff_ne.2 (by omega)
        clear h2
        go_wp2_with (first | (go_at_call 106; refine (splitEntry_any _ _ (by have := unhide HIK; omega) (by have := unhide HIK; omega)).mono ?_; rintro e w' ⟨rfl, hw⟩; replace hw := hw.symm; subst hw; rw [(unhide HV).1, (unhide HV).2]) | (go_at_call 112; refine (clusterOfData_any _ _ _).mono ?_; rintro e w' ⟨rfl, hw⟩; replace hw := hw.symm; subst hw; rw [hb2]))
        go_roundw
        case rel => exact ⟨k + 1, ys, qo, qa, by omega, by go_num, rfl, hide (by rw [unhide HS, unhide HE]), HO, HB⟩
        case measure => simp [intOf]; omega
    · have HS : Hid (clA xs = ys) := hide (by rw [unhide HE, clA, show k = xs.length by omega])
      go_wp2
      go_ret
      exact ⟨.slice qo ys.length qa, rfl, by rw [unhide HS]; exact ⟨qo, qa, rfl, unhide HO⟩, unhide HB⟩

end Go.Proofs.YtkaiglhljpehpacGreat
