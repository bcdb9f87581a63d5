/- Contracts of impl.EntryOf and impl.ResizeTable. -/
import Derived.Test.YtegkacocemminaaRows
import Derived.Test.YtegkacocemminaaGen
import Derived.Test.YtegkacocemminaaKeep
import Derived.Test.YtegkacocemminaaInts
import Derived.Test.YtegkacocemminaaOwnN
import Derived.Test.YtegkacocemminaaClkB
import Derived.Test.YtegkacocemminaaCopy
import Derived.Test.YtegkacocemminaaTbP
import Derived.Test.YtegkacocemminaaTbI
import Derived.WalkKit
import Derived.WalkSpells
import Derived.KernelRfl
import Derived.Deep.RegionWith
import Derived.Laws.CopyRow
import Derived.Laws.CopyOwn
namespace Go.Proofs.Ytegkacocemminaa
open Go.RowKit
set_option linter.unusedVariables false
set_option maxRecDepth 100000

theorem ret_3i {a b c x y z : Int} (h1 : a = x) (h2 : b = y) (h3 : c = z) : Ending.returned (.tuple #[.int .i64 a, .int .i64 b, .int .i64 c]) = .returned (.tuple #[.int .i64 x, .int .i64 y, .int .i64 z]) := by rw [h1, h2, h3]

set_option maxHeartbeats 1600000 in
theorem entryOf_impl (ao : Option Addr) (cap : Nat) (xs : List Int) (g : Int) (w : World) (hl : xs.length ≤ maxLen) (hc : Is w ao xs) :
    Calls Try.prog 15 #[.slice ao xs.length cap, .int .i64 g] w fun e w' => e = .returned (.tuple #[.int .i64 (enK xs g), .int .i64 (enC xs g), .int .i64 (enF xs g)]) ∧ Below w.heap.size w w' := by
  have HC := hide hc
  have HL := hide hl
  unfold maxLen at hl
  clear hc
  have hws : IntKind.i64.wrap ((xs.length : Int) - 1) = (xs.length : Int) - 1 := by rw [IntKind.wrap_i64]; omega
  rcases en_cases xs g with ⟨h0, h1, h2, h3⟩ | ⟨hb, hg, h1, h2, h3⟩ | ⟨hb, q, rfl, hq, h1, h2, h3⟩
  · have HE := hide (And.intro h1 (And.intro h2 h3))
    have hne := tbF_ne h0
    clear h0 h1 h2 h3
    go_enter Try.func15, Try.ntmps15
    go_wp2_with (go_at_call 25; refine (tableFault_any _ _ xs _ (unhide HL) (unhide HC)).mono ?_; rintro e w' ⟨rfl, hw⟩; replace hw := hw.symm; subst hw)
    refine bodyPost_ret (v := .tuple #[.int .i64 0, .int .i64 0, .int .i64 (tbF xs)]) (by simp [results, Try.results15]) rfl ⟨?_, Below.refl _ _⟩
    exact ret_3i (unhide HE).2.1.symm (unhide HE).2.2.symm (unhide HE).1.symm
  · have HE := hide (And.intro h1 (And.intro h2 h3))
    have H0 := hide (tbF_ok hb)
    clear h1 h2 h3
    go_enter Try.func15, Try.ntmps15
    go_wp2_with (first | (go_at_call 25; refine (tableFault_any _ _ xs _ (unhide HL) (unhide HC)).mono ?_; rintro e w' ⟨rfl, hw⟩; replace hw := hw.symm; subst hw; rw [unhide H0]) | (go_at_call 23; refine (within_any _ _ _ _).mono ?_; rintro e w' ⟨rfl, hw⟩; replace hw := hw.symm; subst hw; rw [hg]))
    refine bodyPost_ret (v := .tuple #[.int .i64 0, .int .i64 0, .int .i64 4]) (by simp [results, Try.results15]) rfl ⟨?_, Below.refl _ _⟩
    exact ret_3i (unhide HE).2.1.symm (unhide HE).2.2.symm (unhide HE).1.symm
  · have HE := hide (And.intro h1 (And.intro h2 h3))
    have H0 := hide (tbF_ok hb)
    have hg : betw (q : Int) 0 ((xs.length : Int) - 1) = true := betw_yes (by omega) (by omega)
    have hqi : (q : Int) < (xs.length : Int) := by omega
    have HI := hide (tbB_at hb q hq)
    obtain ⟨b, off, rfl, hcl⟩ := unhide HC q hq
    clear h1 h2 h3
    go_enter Try.func15, Try.ntmps15
    go_wp2_with (first | (go_at_call 25; refine (tableFault_any _ _ xs _ (unhide HL) (unhide HC)).mono ?_; rintro e w' ⟨rfl, hw⟩; replace hw := hw.symm; subst hw; rw [unhide H0]) | (go_at_call 23; refine (within_any _ _ _ _).mono ?_; rintro e w' ⟨rfl, hw⟩; replace hw := hw.symm; subst hw; rw [hg]) | (go_at_call 27; refine (splitEntry_any _ _ (by have := unhide HI; omega) (by have := unhide HI; omega)).mono ?_; rintro e w' ⟨rfl, hw⟩; replace hw := hw.symm; subst hw))
    refine bodyPost_ret (v := .tuple #[.int .i64 (min xs[q] 2), .int .i64 (max 0 (xs[q] - 2)), .int .i64 0]) (by simp [results, Try.results15]) rfl ⟨?_, Below.refl _ _⟩
    exact ret_3i (unhide HE).2.1.symm (unhide HE).2.2.symm (unhide HE).1.symm

/-- A table laid over a row of zeros is the table of that size. -/
theorem rz_splice (xs : List Int) (q : Nat) (M : List Value) (hM : M = List.replicate q (.int .i64 0)) : splice M 0 (intV (xs.take q)) = intV (rzTo xs q) := by
  subst hM
  apply List.ext_getElem?
  intro i
  unfold splice rzTo intV
  simp only [List.take_zero, List.nil_append, Nat.zero_add, List.length_map, List.length_take, List.getElem?_append, List.getElem?_map, List.getElem?_take, List.drop_replicate, List.getElem?_replicate, List.getD]
  by_cases hi : i < min q xs.length
  · have h1 : i < q := by omega
    have h2 : i < xs.length := by omega
    simp [hi, h1, h2]
  · by_cases hq : i < q
    · have h2 : ¬ i < xs.length := by omega
      simp [hi, hq, List.getElem?_eq_none (show xs.length ≤ i by omega)]
      omega
    · simp [hi, hq]
      omega
theorem sizeN1 : (Try.prog.info? 3).map (·.size) = some 1 := by kernel_rfl
theorem takeV_one (xs : List Int) : ∀ v ∈ intV xs, v.oneCell' = true := by
  intro v hv
  simp only [intV, List.mem_map] at hv
  obtain ⟨n, _, rfl⟩ := hv
  rfl

set_option maxHeartbeats 1600000 in
theorem resizeTable_impl (ao : Option Addr) (cap : Nat) (xs : List Int) (n : Int) (w : World) (hl : xs.length ≤ maxLen) (hc : Is w ao xs) :
    Calls Try.prog 17 #[.slice ao xs.length cap, .int .i64 n] w fun e w' => ∃ v, e = .returned (.tuple #[v, .int .i64 (rzF xs n)]) ∧ OwnN w' w.heap.size v (rzL xs n) ∧ Below w.heap.size w w' := by
  have HC := hide hc
  have HL := hide hl
  unfold maxLen at hl
  clear hc
  rcases rz_cases xs n with ⟨h0, h1, h2⟩ | ⟨hb, hg, h1, h2⟩ | ⟨hb, q, rfl, hq, h1, h2⟩
  · have HE := hide (And.intro h1 h2)
    have hne := tbF_ne h0
    clear h0 h1 h2
    go_enter Try.func17, Try.ntmps17
    go_wp2_with (go_at_call 25; refine (tableFault_any _ _ xs _ (unhide HL) (unhide HC)).mono ?_; rintro e w' ⟨rfl, hw⟩; replace hw := hw.symm; subst hw)
    go_ret2
    exact ⟨.slice none 0 0, ret_ni rfl (unhide HE).1.symm, by rw [(unhide HE).2]; exact OwnN.nil _ _ _, Below.refl _ _⟩
  · have HE := hide (And.intro h1 h2)
    have H0 := hide (tbF_ok hb)
    clear h1 h2
    go_enter Try.func17, Try.ntmps17
    go_wp2_with (first | (go_at_call 25; refine (tableFault_any _ _ xs _ (unhide HL) (unhide HC)).mono ?_; rintro e w' ⟨rfl, hw⟩; replace hw := hw.symm; subst hw; rw [unhide H0]) | (go_at_call 23; refine (within_any _ _ _ _).mono ?_; rintro e w' ⟨rfl, hw⟩; replace hw := hw.symm; subst hw; rw [hg]))
    go_ret2
    exact ⟨.slice none 0 0, ret_ni rfl (unhide HE).1.symm, by rw [(unhide HE).2]; exact OwnN.nil _ _ _, Below.refl _ _⟩
  · have HE := hide (And.intro h1 h2)
    have H0 := hide (tbF_ok hb)
    have HX := hide (tbB_len hb)
    have hg : betw (q : Int) 0 12 = true := betw_yes (by omega) (by omega)
    obtain ⟨i0, hi, hz0, hz1, hz2⟩ := info_parts infoM
    have HCS : Hid (0 < (intV (xs.take q)).length → ∃ ad, ao = some ad ∧ ad.block < w.heap.size ∧ ∀ j v, (intV (xs.take q))[j]? = some v → w.cell? (ad.add j) = some v) := hide (fun hp => by
      rw [intV_length, List.length_take] at hp
      obtain ⟨b, off, e, hc'⟩ := unhide HC 0 (by omega)
      refine ⟨_, e, World.block_lt_of_cell? _ _ hc', fun j v hv => ?_⟩
      have hj : j < min q xs.length := by have := (List.getElem?_eq_some_iff.1 hv).1; rwa [intV_length, List.length_take] at this
      obtain ⟨b2, off2, e2, hc2⟩ := unhide HC j (by omega)
      rw [e] at e2
      simp only [Option.some.injEq, Addr.mk.injEq, and_true] at e2
      obtain ⟨rfl, rfl⟩ := e2
      rw [intV_get (by rw [List.length_take]; omega), List.getElem_take] at hv
      cases hv
      rw [show Addr.add ⟨b, off, none⟩ j = ⟨b, off + j, none⟩ from by unfold Addr.add; split <;> simp_all]
      exact hc2)
    clear h1 h2
    go_enter Try.func17, Try.ntmps17
    go_wp2_with (first | (go_at_call 25; refine (tableFault_any _ _ xs _ (unhide HL) (unhide HC)).mono ?_; rintro e w' ⟨rfl, hw⟩; replace hw := hw.symm; subst hw; rw [unhide H0]) | (go_at_call 23; refine (within_any _ _ _ _).mono ?_; rintro e w' ⟨rfl, hw⟩; replace hw := hw.symm; subst hw; rw [hg]) | (at_make; refine wpList_make_full _ rfl _ _ 22 rfl w.heap.size 3 i0 _ 1 Try.underlying22 hi hz0 hz1 _ _ _ _ q rfl rfl rfl rfl ?c1 ?c2 ?c3 ?_))
    case c1 => rw [hz2]; omega
    case c2 => unfold maxLen; omega
    case c3 => exact Nat.le_refl _
    intro w1 hown hgrow
    have hB : Below w.heap.size w w1 := (Below.refl _ _).grown hgrow (Nat.le_refl _) (fun _ h => by cases h)
    obtain ⟨M, hM⟩ : ∃ M, M = (madeCells #[Value.int .i64 0] q).toList := ⟨_, rfl⟩
    rw [← hM] at hown
    have HM : Hid (M = List.replicate q (.int .i64 0)) := hide (by
      rw [hM]
      apply List.ext_getElem?
      intro i
      simp [madeCells, List.getElem?_replicate, Nat.mod_one]
      by_cases hi : i < q <;> simp [hi])
    have HB := hide hB
    have HG : Hid (w1.heap[w.heap.size]? = some (.cells M.toArray 3 (0, 0))) := hide (by
      rcases hown.2 with ⟨e, _⟩ | ⟨g', cap', cur, e, hB', hg', hnc, hcm, hcs, ht⟩
      · simp at e
      · simp only [Value.slice.injEq, Option.some.injEq, Addr.mk.injEq, and_true, true_and] at e
        obtain ⟨rfl, rfl⟩ := e
        rw [hg', ← ht, List.take_of_length_le (by simp [hcs])])
    have HLM : Hid (M.length = q) := hide (by rw [unhide HM]; simp)
    have HLT : Hid ((intV (xs.take q)).length = Nat.min xs.length q) := hide (by rw [intV_length, List.length_take, Nat.min_comm])
    have HO1 := hide (takeV_one (xs.take q))
    have HSP := hide (rz_splice xs q M (unhide HM))
    have HLZ := hide (rzTo_len xs q)
    clear hown hgrow hB hM HM
    generalize intV (xs.take q) = cs at *
    go_wp2_with (refine wpList_copy_splice rfl _ _ 22 22 rfl 3 Try.underlying22 sizeN1 _ _ q q xs.length cap rfl rfl w.heap.size 0 M 3 (unhide HG) cs (unhide HLT) (fun hp => ⟨rfl, (unhide HCS hp).imp fun ad h => ⟨h.1, fun j v hv => ((unhide HB).cell (by unfold Addr.add; split <;> exact h.2.1)).trans (h.2.2 j v hv)⟩⟩) (by rw [unhide HLT, unhide HLM, Nat.zero_add]; exact Nat.min_le_right _ _) (unhide HO1) w.heap.size w (unhide HB) (Nat.le_refl _) ?_; intro w2 hg2 hb2; have HB2 := hide hb2; have HG2 := hide (unhide hg2); clear hb2 hg2)
    go_ret2
    refine ⟨.slice (some ⟨w.heap.size, 0, none⟩) q q, ret_ni rfl (unhide HE).1.symm, ?_, unhide HB2⟩
    rw [(unhide HE).2]
    refine ⟨some ⟨w.heap.size, 0, none⟩, q, by rw [unhide HLZ], ?_⟩
    rw [unhide HLZ]
    by_cases h0 : q = 0
    · subst h0
      exact .inl ⟨rfl, by simp [rzTo, intV], _, rfl⟩
    · refine .inr ⟨by omega, ?_, .inr ⟨w.heap.size, q, _, rfl, Nat.le_refl _, unhide HG2, Nat.le_refl _, by unfold maxLen; omega, ?_, ?_⟩⟩
      · rw [intV_length, unhide HLZ]; omega
      · rw [unhide HSP]; simp [intV_length, unhide HLZ]
      · rw [unhide HSP, List.take_of_length_le (by simp [intV_length, unhide HLZ])]

end Go.Proofs.Ytegkacocemminaa
