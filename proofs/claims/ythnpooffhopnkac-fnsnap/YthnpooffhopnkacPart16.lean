import Derived.Test.YthnpooffhopnkacRows
import Derived.Test.YthnpooffhopnkacPart1
import Derived.Test.YthnpooffhopnkacPart2
import Derived.Test.YthnpooffhopnkacPart13
import Derived.Test.YthnpooffhopnkacPart3
import Derived.Test.YthnpooffhopnkacPart14
import Derived.WalkKit
import Derived.WalkSpells
import Derived.KernelRfl
import Derived.Deep.RegionWith
import Derived.Laws.CopyRow
import Derived.Laws.CopyOwn
import Derived.Test.YthnpooffhopnkacPart4
import Derived.Test.YthnpooffhopnkacPart7
import Derived.Test.YthnpooffhopnkacPart11
import Derived.Test.YthnpooffhopnkacPart12
import Derived.Test.YthnpooffhopnkacPart15
import Derived.LoopN
import Derived.BigQuiet
import Derived.Deep.QuietTactic
import Derived.Test.YthnpooffhopnkacPart5
import Derived.Test.YthnpooffhopnkacPart6
import Derived.Test.YthnpooffhopnkacImW

/- Contracts of impl.EntryOf and impl.ResizeTable. -/
namespace Go.Proofs.Ythnpooffhopnkac
open Go.RowKit
set_option linter.unusedVariables false
set_option maxRecDepth 100000

theorem ret_3i {a b c x y z : Int} (h1 : a = x) (h2 : b = y) (h3 : c = z) : Ending.returned (.tuple #[.int .i64 a, .int .i64 b, .int .i64 c]) = .returned (.tuple #[.int .i64 x, .int .i64 y, .int .i64 z]) := by rw [h1, h2, h3]

set_option maxHeartbeats 1600000 in
theorem entryOf_impl (ao : Option Addr) (cap : Nat) (xs : List Int) (g : Int) (w : World) (hl : xs.length ≤ maxLen) (hc : Is w ao xs) :
    Calls Try.prog 24 #[.slice ao xs.length cap, .int .i64 g] w fun e w' => e = .returned (.tuple #[.int .i64 (enK xs g), .int .i64 (enC xs g), .int .i64 (enF xs g)]) ∧ Below w.heap.size w w' := by
  have HC := hide hc
  have HL := hide hl
  unfold maxLen at hl
  clear hc
  have hws : IntKind.i64.wrap ((xs.length : Int) - 1) = (xs.length : Int) - 1 := by rw [IntKind.wrap_i64]; omega
  rcases en_cases xs g with ⟨h0, h1, h2, h3⟩ | ⟨hb, hg, h1, h2, h3⟩ | ⟨hb, q, rfl, hq, h1, h2, h3⟩
  · have HE := hide (And.intro h1 (And.intro h2 h3))
    have hne := tbF_ne h0
    clear h0 h1 h2 h3
    go_enter Try.func24, Try.ntmps24
    go_wp2_with (go_at_call 58; refine (tableFault_any _ _ xs _ (unhide HL) (unhide HC)).mono ?_; rintro e w' ⟨rfl, hw⟩; replace hw := hw.symm; subst hw)
    refine bodyPost_ret (v := .tuple #[.int .i64 0, .int .i64 0, .int .i64 (tbF xs)]) (by simp [results, Try.results24]) rfl ⟨?_, Below.refl _ _⟩
    exact ret_3i (unhide HE).2.1.symm (unhide HE).2.2.symm (unhide HE).1.symm
  · have HE := hide (And.intro h1 (And.intro h2 h3))
    have H0 := hide (tbF_ok hb)
    clear h1 h2 h3
    go_enter Try.func24, Try.ntmps24
    go_wp2_with (first | (go_at_call 58; refine (tableFault_any _ _ xs _ (unhide HL) (unhide HC)).mono ?_; rintro e w' ⟨rfl, hw⟩; replace hw := hw.symm; subst hw; rw [unhide H0]) | (go_at_call 59; refine (within_any _ _ _ _).mono ?_; rintro e w' ⟨rfl, hw⟩; replace hw := hw.symm; subst hw; rw [hg]))
    refine bodyPost_ret (v := .tuple #[.int .i64 0, .int .i64 0, .int .i64 4]) (by simp [results, Try.results24]) rfl ⟨?_, Below.refl _ _⟩
    exact ret_3i (unhide HE).2.1.symm (unhide HE).2.2.symm (unhide HE).1.symm
  · have HE := hide (And.intro h1 (And.intro h2 h3))
    have H0 := hide (tbF_ok hb)
    have hg : betw (q : Int) 0 ((xs.length : Int) - 1) = true := betw_yes (by omega) (by omega)
    have hqi : (q : Int) < (xs.length : Int) := by omega
    have HI := hide (tbB_at hb q hq)
    obtain ⟨b, off, rfl, hcl⟩ := unhide HC q hq
    clear h1 h2 h3
    go_enter Try.func24, Try.ntmps24
    go_wp2_with (first | (go_at_call 58; refine (tableFault_any _ _ xs _ (unhide HL) (unhide HC)).mono ?_; rintro e w' ⟨rfl, hw⟩; replace hw := hw.symm; subst hw; rw [unhide H0]) | (go_at_call 59; refine (within_any _ _ _ _).mono ?_; rintro e w' ⟨rfl, hw⟩; replace hw := hw.symm; subst hw; rw [hg]) | (go_at_call 60; refine (splitEntry_any _ _ (by have := unhide HI; omega) (by have := unhide HI; omega)).mono ?_; rintro e w' ⟨rfl, hw⟩; replace hw := hw.symm; subst hw))
    refine bodyPost_ret (v := .tuple #[.int .i64 (min xs[q] 2), .int .i64 (max 0 (xs[q] - 2)), .int .i64 0]) (by simp [results, Try.results24]) rfl ⟨?_, Below.refl _ _⟩
    exact ret_3i (unhide HE).2.1.symm (unhide HE).2.2.symm (unhide HE).1.symm

/-- A table laid over a row of zeros is the table of that size. -/
theorem rz_splice (xs : List Int) (q : Nat) (M : List Value) (hM : M = List.replicate q (.int .i64 0)) : splice M 0 (intV (xs.take q)) = intV (rzTo xs q) := by
  subst hM
  apply List.ext_getElem?
  intro i
  unfold splice rzTo intV
  simp only [List.take_zero, List.nil_append, Nat.zero_add, List.length_map, List.length_take, List.getElem?_append, List.getElem?_map, List.getElem?_take, List.drop_replicate, List.getElem?_replicate, List.getD]
  by_cases hi : i < min q xs.length
  · have h1 : i < q := by omega
    have h2 : i < xs.length := by omega
    simp [hi, h1, h2]
  · by_cases hq : i < q
    · have h2 : ¬ i < xs.length := by omega
      simp [hi, hq, List.getElem?_eq_none (show xs.length ≤ i by omega)]
      omega
    · simp [hi, hq]
      omega
theorem sizeN1 : (Try.prog.info? 3).map (·.size) = some 1 := by kernel_rfl
theorem takeV_one (xs : List Int) : ∀ v ∈ intV xs, v.oneCell' = true := by
  intro v hv
  simp only [intV, List.mem_map] at hv
  obtain ⟨n, _, rfl⟩ := hv
  rfl

set_option maxHeartbeats 1600000 in
theorem resizeTable_impl (ao : Option Addr) (cap : Nat) (xs : List Int) (n : Int) (w : World) (hl : xs.length ≤ maxLen) (hc : Is w ao xs) :
    Calls Try.prog 41 #[.slice ao xs.length cap, .int .i64 n] w fun e w' => ∃ v, e = .returned (.tuple #[v, .int .i64 (rzF xs n)]) ∧ OwnN w' w.heap.size v (rzL xs n) ∧ Below w.heap.size w w' := by
  have HC := hide hc
  have HL := hide hl
  unfold maxLen at hl
  clear hc
  rcases rz_cases xs n with ⟨h0, h1, h2⟩ | ⟨hb, hg, h1, h2⟩ | ⟨hb, q, rfl, hq, h1, h2⟩
  · have HE := hide (And.intro h1 h2)
    have hne := tbF_ne h0
    clear h0 h1 h2
    go_enter Try.func41, Try.ntmps41
    go_wp2_with (go_at_call 58; refine (tableFault_any _ _ xs _ (unhide HL) (unhide HC)).mono ?_; rintro e w' ⟨rfl, hw⟩; replace hw := hw.symm; subst hw)
    go_ret2
    exact ⟨.slice none 0 0, ret_ni rfl (unhide HE).1.symm, by rw [(unhide HE).2]; exact OwnN.nil _ _ _, Below.refl _ _⟩
  · have HE := hide (And.intro h1 h2)
    have H0 := hide (tbF_ok hb)
    clear h1 h2
    go_enter Try.func41, Try.ntmps41
    go_wp2_with (first | (go_at_call 58; refine (tableFault_any _ _ xs _ (unhide HL) (unhide HC)).mono ?_; rintro e w' ⟨rfl, hw⟩; replace hw := hw.symm; subst hw; rw [unhide H0]) | (go_at_call 59; refine (within_any _ _ _ _).mono ?_; rintro e w' ⟨rfl, hw⟩; replace hw := hw.symm; subst hw; rw [hg]))
    go_ret2
    exact ⟨.slice none 0 0, ret_ni rfl (unhide HE).1.symm, by rw [(unhide HE).2]; exact OwnN.nil _ _ _, Below.refl _ _⟩
  · have HE := hide (And.intro h1 h2)
    have H0 := hide (tbF_ok hb)
    have HX := hide (tbB_len hb)
    have hg : betw (q : Int) 0 12 = true := betw_yes (by omega) (by omega)
    obtain ⟨i0, hi, hz0, hz1, hz2⟩ := info_parts infoM
    have HCS : Hid (0 < (intV (xs.take q)).length → ∃ ad, ao = some ad ∧ ad.block < w.heap.size ∧ ∀ j v, (intV (xs.take q))[j]? = some v → w.cell? (ad.add j) = some v) := hide (fun hp => by
      rw [intV_length, List.length_take] at hp
      obtain ⟨b, off, e, hc'⟩ := unhide HC 0 (by omega)
      refine ⟨_, e, World.block_lt_of_cell? _ _ hc', fun j v hv => ?_⟩
      have hj : j < min q xs.length := by have := (List.getElem?_eq_some_iff.1 hv).1; rwa [intV_length, List.length_take] at this
      obtain ⟨b2, off2, e2, hc2⟩ := unhide HC j (by omega)
      rw [e] at e2
      simp only [Option.some.injEq, Addr.mk.injEq, and_true] at e2
      obtain ⟨rfl, rfl⟩ := e2
      rw [intV_get (by rw [List.length_take]; omega), List.getElem_take] at hv
      cases hv
      rw [show Addr.add ⟨b, off, none⟩ j = ⟨b, off + j, none⟩ from by unfold Addr.add; split <;> simp_all]
      exact hc2)
    clear h1 h2
    go_enter Try.func41, Try.ntmps41
    go_wp2_with (first | (go_at_call 58; refine (tableFault_any _ _ xs _ (unhide HL) (unhide HC)).mono ?_; rintro e w' ⟨rfl, hw⟩; replace hw := hw.symm; subst hw; rw [unhide H0]) | (go_at_call 59; refine (within_any _ _ _ _).mono ?_; rintro e w' ⟨rfl, hw⟩; replace hw := hw.symm; subst hw; rw [hg]) | (at_make; refine wpList_make_full _ rfl _ _ 23 rfl w.heap.size 3 i0 _ 1 Try.underlying23 hi hz0 hz1 _ _ _ _ q rfl rfl rfl rfl ?c1 ?c2 ?c3 ?_))
    case c1 => rw [hz2]; omega
    case c2 => unfold maxLen; omega
    case c3 => exact Nat.le_refl _
    intro w1 hown hgrow
    have hB : Below w.heap.size w w1 := (Below.refl _ _).grown hgrow (Nat.le_refl _) (fun _ h => by cases h)
    obtain ⟨M, hM⟩ : ∃ M, M = (madeCells #[Value.int .i64 0] q).toList := ⟨_, rfl⟩
    rw [← hM] at hown
    have HM : Hid (M = List.replicate q (.int .i64 0)) := hide (by
      rw [hM]
      apply List.ext_getElem?
      intro i
      simp [madeCells, List.getElem?_replicate, Nat.mod_one]
      by_cases hi : i < q <;> simp [hi])
    have HB := hide hB
    have HG : Hid (w1.heap[w.heap.size]? = some (.cells M.toArray 3 (0, 0))) := hide (by
      rcases hown.2 with ⟨e, _⟩ | ⟨g', cap', cur, e, hB', hg', hnc, hcm, hcs, ht⟩
      · simp at e
      · simp only [Value.slice.injEq, Option.some.injEq, Addr.mk.injEq, and_true, true_and] at e
        obtain ⟨rfl, rfl⟩ := e
        rw [hg', ← ht, List.take_of_length_le (by simp [hcs])])
    have HLM : Hid (M.length = q) := hide (by rw [unhide HM]; simp)
    have HLT : Hid ((intV (xs.take q)).length = Nat.min xs.length q) := hide (by rw [intV_length, List.length_take, Nat.min_comm])
    have HO1 := hide (takeV_one (xs.take q))
    have HSP := hide (rz_splice xs q M (unhide HM))
    have HLZ := hide (rzTo_len xs q)
    clear hown hgrow hB hM HM
    generalize intV (xs.take q) = cs at *
    go_wp2_with (refine wpList_copy_splice rfl _ _ 23 23 rfl 3 Try.underlying23 sizeN1 _ _ q q xs.length cap rfl rfl w.heap.size 0 M 3 (unhide HG) cs (unhide HLT) (fun hp => ⟨rfl, (unhide HCS hp).imp fun ad h => ⟨h.1, fun j v hv => ((unhide HB).cell (by unfold Addr.add; split <;> exact h.2.1)).trans (h.2.2 j v hv)⟩⟩) (by rw [unhide HLT, unhide HLM, Nat.zero_add]; exact Nat.min_le_right _ _) (unhide HO1) w.heap.size w (unhide HB) (Nat.le_refl _) ?_; intro w2 hg2 hb2; have HB2 := hide hb2; have HG2 := hide (unhide hg2); clear hb2 hg2)
    go_ret2
    refine ⟨.slice (some ⟨w.heap.size, 0, none⟩) q q, ret_ni rfl (unhide HE).1.symm, ?_, unhide HB2⟩
    rw [(unhide HE).2]
    refine ⟨some ⟨w.heap.size, 0, none⟩, q, by rw [unhide HLZ], ?_⟩
    rw [unhide HLZ]
    by_cases h0 : q = 0
    · subst h0
      exact .inl ⟨rfl, by simp [rzTo, intV], _, rfl⟩
    · refine .inr ⟨by omega, ?_, .inr ⟨w.heap.size, q, _, rfl, Nat.le_refl _, unhide HG2, Nat.le_refl _, by unfold maxLen; omega, ?_, ?_⟩⟩
      · rw [intV_length, unhide HLZ]; omega
      · rw [unhide HSP]; simp [intV_length, unhide HLZ]
      · rw [unhide HSP, List.take_of_length_le (by simp [intV_length, unhide HLZ])]

end Go.Proofs.Ythnpooffhopnkac

/- Contracts of impl.ReadCluster, impl.NewImage. -/
namespace Go.Proofs.Ythnpooffhopnkac
open Go.RowKit
set_option linter.unusedVariables false
set_option maxRecDepth 100000

set_option maxHeartbeats 1600000 in
theorem readCluster_impl (a : Im4) (m : Img) (g : Int) (w : World) (hL : ImL m) (hc : ImS w a m) :
    Calls Try.prog 12 #[imV a m, .int .i64 g] w fun e w' => e = .returned (.tuple #[.int .i64 (rcA m g).1, .int .i64 (rcA m g).2]) ∧ Below w.heap.size w w' := by
  have HA := hide (Joins.below_alloc1 w (.cells #[.slice a.ro m.refs.length a.rc, .slice a.tq m.table.length a.tc, .slice a.so m.snaps.length a.sc, .slice a.dq m.data.length a.dc] 26))
  have HV := hide (VarM.new w 26 (.slice a.ro m.refs.length a.rc) (.slice a.tq m.table.length a.tc) (.slice a.so m.snaps.length a.sc) (.slice a.dq m.data.length a.dc))
  have HC := hide (hc.below (unhide HA))
  have HL := hide hL
  obtain ⟨R, HR⟩ : ∃ R, Hid (R = rcA m g) := ⟨_, rfl⟩
  rw [← unhide HR]
  clear hc hL
  go_enter Try.func12, Try.ntmps12
  go_upto_region 1 with fail
  revert HA HV HC
  generalize (w.alloc _) = W0
  intro HA HV HC
  obtain ⟨c0, c1, c2, c3⟩ := (unhide HV).cells
  go_wp2_with fail
  refine (imageOK_impl a m _ (unhide HL) (unhide HC)).mono ?_
  rintro e w1 ⟨rfl, hb⟩
  have HB1 := hide (fr (unhide HA) hb)
  have HC1 := hide ((unhide HC).below hb)
  have HV1 := hide ((unhide HV).below hb)
  clear hb c0 c1 c2 c3 HA HV HC
  cases him : imB m
  · have HE : Hid (R = (0, 1)) := hide (by rw [unhide HR, rcA, him]; rfl)
    go_wp2
    go_ret2
    exact ⟨by rw [unhide HE]; rfl, unhide HB1⟩
  obtain ⟨c0, c1, c2, c3⟩ := (unhide HV1).cells
  have HM := hide (imB_iff.1 him)
  have HIM := hide him
  clear him
  go_wp2_with fail
  refine (entryOf_impl _ _ m.table g _ (unhide HL).t (unhide HC1).t).mono ?_
  rintro e w2 ⟨rfl, hb⟩
  have HB2 := hide (fr (unhide HB1) hb)
  have HC2 := hide ((unhide HC1).below hb)
  have HV2 := hide ((unhide HV1).below hb)
  clear hb c0 c1 c2 c3 HB1 HC1 HV1
  rcases en_cases m.table g with ⟨hf, _⟩ | ⟨hb, hg, e1, e2, e3⟩ | ⟨hb, q, rfl, hq, e1, e2, e3⟩
  · exact absurd (tbF_ok (unhide HM).table) hf
  · have HE : Hid (R = (0, 4)) := hide (by rw [unhide HR, rcA, if_pos (unhide HIM), hg]; rfl)
    rw [e1, e2, e3]
    clear e1 e2 e3 hg
    go_wp2
    go_ret2
    exact ⟨by rw [unhide HE]; rfl, unhide HB2⟩
  · have hr := tbB_at hb q hq
    have hgb : betw (q : Int) 0 ((m.table.length : Int) - 1) = true := betw_iff.2 ⟨by omega, by omega⟩
    have HE : Hid (R = (imVal m m.table[q], 0)) := hide (by rw [unhide HR, rcA, if_pos (unhide HIM), hgb]; simp [List.getD, hq])
    rw [e1, e2, e3]
    clear e1 e2 e3 hgb
    generalize m.table[q] = T at *
    by_cases hT : T < 2
    · have HE2 : Hid (R = (0, 0)) := hide (by rw [unhide HE, imVal, if_pos hT])
      have h1 : min T 2 = T := by omega
      have h2 : max 0 (T - 2) = 0 := by omega
      rw [h1, h2]
      have h3 : (T != 2) = true := by simp; omega
      clear h1 h2 hT
      go_wp2
      go_ret2
      exact ⟨by rw [unhide HE2]; rfl, unhide HB2⟩
    · obtain ⟨c, hcc⟩ := Int.eq_ofNat_of_zero_le (show 0 ≤ T - 2 by omega)
      have hd24 := (unhide HM).len
      have hcd : c < m.data.length := by omega
      have hcdi : (c : Int) < (m.data.length : Int) := by omega
      have HE2 : Hid (R = (m.data[c], 0)) := hide (by rw [unhide HE, imVal, if_neg hT, hcc, Int.toNat_natCast]; simp [List.getD, hcd])
      have h1 : min T 2 = 2 := by omega
      have h2 : max 0 (T - 2) = (c : Int) := by omega
      rw [h1, h2]
      obtain ⟨b3, o3, e3, hx3⟩ := (unhide HC2).d c hcd
      obtain ⟨c0, c1, c2, c3⟩ := (unhide HV2).cells
      rw [e3] at c3
      clear h1 h2 hT hcc hd24 e3
      go_wp2
      go_ret2
      exact ⟨by rw [unhide HE2]; rfl, unhide HB2⟩

section
variable (w : World) (r a b c : Obj)
theorem chI0 : ((((w.alloc r).alloc a).alloc b).alloc c).drew.heap[w.heap.size]? = some r := blk_belowI (blk_belowI (blk_belowI (blk_belowI (heap_alloc_new w r) (Joins.below_alloc1 _ _)) (Joins.below_alloc1 _ _)) (Joins.below_alloc1 _ _)) (Below.refl _ _).drew
theorem chI1 : ((((w.alloc r).alloc a).alloc b).alloc c).drew.heap[w.heap.size + 1]? = some a := by
  have h := heap_alloc_new (w.alloc r) a
  rw [World.size_alloc] at h
  exact blk_belowI (blk_belowI (blk_belowI h (Joins.below_alloc1 _ _)) (Joins.below_alloc1 _ _)) (Below.refl _ _).drew
theorem chI2 : ((((w.alloc r).alloc a).alloc b).alloc c).drew.heap[w.heap.size + 1 + 1]? = some b := by
  have h := heap_alloc_new ((w.alloc r).alloc a) b
  rw [World.size_alloc, World.size_alloc] at h
  exact blk_belowI (blk_belowI h (Joins.below_alloc1 _ _)) (Below.refl _ _).drew
theorem chI3 : ((((w.alloc r).alloc a).alloc b).alloc c).drew.heap[w.heap.size + 1 + 1 + 1]? = some c := by
  have h := heap_alloc_new (((w.alloc r).alloc a).alloc b) c
  rw [World.size_alloc, World.size_alloc, World.size_alloc] at h
  exact blk_belowI h (Below.refl _ _).drew
theorem chIB : Below w.heap.size w ((((w.alloc r).alloc a).alloc b).alloc c).drew := (fr (Joins.below_alloc3 w r a b) (Joins.below_alloc1 _ c)).drew
end
theorem new_leafI {w W : World} {n g0 g1 g3 : Nat} (hn : n ≤ 1000) (h0 : W.heap[g0]? = some (.cells (intV zero24).toArray 3 (0, 0))) (h1 : W.heap[g1]? = some (.cells (intV (List.replicate n 0)).toArray 3 (0, 0))) (h3 : W.heap[g3]? = some (.cells (intV zero24).toArray 3 (0, 0)))
    (n1 : g0 ≠ g1) (n2 : g0 ≠ g3) (n3 : g1 ≠ g3) (b0 : w.heap.size ≤ g0) (b1 : w.heap.size ≤ g1) (b3 : w.heap.size ≤ g3) (hb : Below w.heap.size w W) :
    AnsI w W (.returned (.tuple #[.agg #[.slice (some ⟨g0, 0, none⟩) 24 24, .slice (some ⟨g1, 0, none⟩) n n, .slice none 0 0, .slice (some ⟨g3, 0, none⟩) 24 24], .int .i64 0])) (imNew n, 0) := by
  have hl : (imNew n).table.length = n := by simp [imNew]
  refine ⟨⟨some ⟨g0, 0, none⟩, 24, some ⟨g1, 0, none⟩, n, none, 0, some ⟨g3, 0, none⟩, 24⟩, [], by simp only [imV, hl]; rfl, ⟨rfl, .inl ⟨rfl, rfl, _, _, rfl⟩, ?_⟩, hb⟩
  have o0 := own_made (B := w.heap.size) (n := 24) h0 b0 rfl (by omega)
  have o1 := own_made (B := w.heap.size) (n := n) h1 b1 (by simp) hn
  have o3 := own_made (B := w.heap.size) (n := 24) h3 b3 rfl (by omega)
  have e : imRows ⟨some ⟨g0, 0, none⟩, 24, some ⟨g1, 0, none⟩, n, none, 0, some ⟨g3, 0, none⟩, 24⟩ (imNew n) [] = [(.slice (some ⟨g0, 0, none⟩) 24 24, zero24), (.slice (some ⟨g1, 0, none⟩) n n, List.replicate n 0), (.slice (some ⟨g3, 0, none⟩) 24 24, zero24)] := by
    simp only [imRows, hl]; rfl
  rw [e]
  refine ⟨fun r hr => ?_, ?_⟩
  · simp only [List.mem_cons, List.not_mem_nil, or_false] at hr
    rcases hr with rfl | rfl | rfl
    · exact o0
    · exact o1
    · exact o3
  · simp only [List.pairwise_cons, List.mem_cons, List.not_mem_nil, or_false, forall_eq_or_imp, forall_eq, List.Pairwise.nil, and_true]
    exact ⟨⟨own_ne (v := undef) n1, own_ne (v := undef) n2⟩, own_ne (v := undef) n3, fun _ h => h.elim⟩

end Go.Proofs.Ythnpooffhopnkac

/- Counts and data that follow the tables: imFit; the contract of impl.fitToTables. -/
namespace Go.Proofs.Ythnpooffhopnkac
open Go.RowKit
set_option linter.unusedVariables false
set_option maxRecDepth 100000

/-- Counts and data as the tables have them. -/
def imFit (m : Img) : Img := { m with refs := imCnt m, data := (List.range 24).map fun i => if (imCnt m).getD i 0 = 0 then 0 else m.data.getD i 0 }
/-- .. of the first clusters. -/
def fitTo (m : Img) (cs : List Int) : Nat → Img
  | 0 => m
  | k + 1 => { fitTo m cs k with refs := (fitTo m cs k).refs.set k (cs.getD k 0), data := if cs.getD k 0 = 0 then (fitTo m cs k).data.set k 0 else (fitTo m cs k).data }
theorem fitTo_lens (m : Img) (cs : List Int) : ∀ k, (fitTo m cs k).refs.length = m.refs.length ∧ (fitTo m cs k).data.length = m.data.length ∧ (fitTo m cs k).table = m.table ∧ (fitTo m cs k).snaps = m.snaps
  | 0 => ⟨rfl, rfl, rfl, rfl⟩
  | k + 1 => by
    obtain ⟨h1, h2, h3, h4⟩ := fitTo_lens m cs k
    refine ⟨by simp [fitTo, h1], ?_, h3, h4⟩
    unfold fitTo
    simp only
    split
    · rw [List.length_set]; exact h2
    · exact h2
theorem fitTo_get (m : Img) (cs : List Int) (hr : m.refs.length = 24) (hd : m.data.length = 24) : ∀ k, k ≤ 24 → ∀ i, i < 24 → (fitTo m cs k).refs.getD i 0 = (if i < k then cs.getD i 0 else m.refs.getD i 0) ∧ (fitTo m cs k).data.getD i 0 = (if i < k ∧ cs.getD i 0 = 0 then 0 else m.data.getD i 0)
  | 0, _, i, _ => by simp [fitTo]
  | k + 1, hk, i, hi => by
    obtain ⟨h1, h2⟩ := fitTo_get m cs hr hd k (by omega) i hi
    obtain ⟨l1, l2, _, _⟩ := fitTo_lens m cs k
    constructor
    · have e : (fitTo m cs (k + 1)).refs = (fitTo m cs k).refs.set k (cs.getD k 0) := rfl
      rw [e]
      by_cases hik : i = k
      · subst hik
        rw [if_pos (by omega)]
        simp [List.getD, l1, hr, hi]
      · have : (i < k + 1) ↔ (i < k) := by omega
        simp only [this]
        rw [← h1]
        simp [List.getD, Ne.symm hik]
    · have e : (fitTo m cs (k + 1)).data = if cs.getD k 0 = 0 then (fitTo m cs k).data.set k 0 else (fitTo m cs k).data := rfl
      rw [e]
      by_cases hik : i = k
      · subst hik
        by_cases hz : cs.getD i 0 = 0
        · rw [if_pos hz, if_pos ⟨by omega, hz⟩]
          simp [List.getD, l2, hd, hi]
        · rw [if_neg hz, h2, if_neg (fun h => hz h.2), if_neg (fun h => hz h.2)]
      · have : (i < k + 1) ↔ (i < k) := by omega
        simp only [this]
        rw [← h2]
        split
        · simp [List.getD, Ne.symm hik]
        · rfl
theorem getD_ext {xs ys : List Int} (h1 : xs.length = 24) (h2 : ys.length = 24) (h : ∀ i, i < 24 → xs.getD i 0 = ys.getD i 0) : xs = ys :=
  List.ext_getElem (by rw [h1, h2]) (fun i ha hb => by
    have := h i (by omega)
    simpa [List.getD, ha, hb] using this)
theorem range_getD {f : Nat → Int} {i : Nat} (hi : i < 24) : ((List.range 24).map f).getD i 0 = f i := by simp [List.getD, hi]
theorem fitTo_all (m : Img) (hr : m.refs.length = 24) (hd : m.data.length = 24) : fitTo m (imCnt m) 24 = imFit m := by
  obtain ⟨l1, l2, l3, l4⟩ := fitTo_lens m (imCnt m) 24
  have e1 : (fitTo m (imCnt m) 24).refs = imCnt m := getD_ext (by rw [l1, hr]) (imCnt_len m) (fun i hi => by
    rw [(fitTo_get m (imCnt m) hr hd 24 (Nat.le_refl _) i hi).1, if_pos hi])
  have e2 : (fitTo m (imCnt m) 24).data = (List.range 24).map fun i => if (imCnt m).getD i 0 = 0 then 0 else m.data.getD i 0 := getD_ext (by rw [l2, hd]) (by simp) (fun i hi => by
    rw [(fitTo_get m (imCnt m) hr hd 24 (Nat.le_refl _) i hi).2, range_getD hi]
    simp [hi])
  have key : ∀ F : Img, F.refs = imCnt m → F.table = m.table → F.snaps = m.snaps → F.data = ((List.range 24).map fun i => if (imCnt m).getD i 0 = 0 then 0 else m.data.getD i 0) → F = imFit m := by
    rintro ⟨r, t, s, d⟩ h1 h2 h3 h4
    simp only at h1 h2 h3 h4
    subst h1 h2 h3 h4
    rfl
  exact key _ e1 l3 l4 e2
/-- Cells are no map. -/
theorem MpC.setCell {w : World} {B n : Nat} {D : DataW Unit} {ns : List Int} (h : MpC w B n D ns) {p : Addr} {u : Value} (hc : w.cell? p = some u) (v : Value) : MpC (w.setCell p v) B n D ns := by
  have hk : Keep (fun g => g = p.block) w (w.setCell p v) := (Keep.refl (fun g => g = p.block) w).setCell (p := p) rfl v
  refine h.keep hk (fun e => ?_)
  obtain ⟨⟨es, clock, hb, _⟩, _⟩ := h
  have e' : B = p.block := e
  rw [e'] at hb
  simp [World.cell?, hb] at hc
theorem ImB.lens {a : Im4} {m m' : Img} {ts : List Value} {g : Nat} (e1 : m'.refs.length = m.refs.length) (e2 : m'.table.length = m.table.length) (e3 : m'.snaps.length = m.snaps.length) (e4 : m'.data.length = m.data.length) (h : ImB a m' ts g) : ImB a m ts g := by
  unfold ImB at h ⊢
  rw [e1, e2, e3, e4] at h
  exact h

set_option maxHeartbeats 3200000 in
theorem fitToTables_any (a : Im4) (m : Img) (ts : List Value) (B p : Nat) (w : World) (hr : m.refs.length = 24) (hd : m.data.length = 24) (hs : m.snaps.length ≤ 3) (ht : ∀ t ∈ imTabs m, tbB t = true) (hz : ∀ s ∈ m.snaps, s.name.size ≤ maxLen ∧ s.table.length ≤ maxLen)
    (hv : VarM w p 26 (.slice a.ro m.refs.length a.rc) (.slice a.tq m.table.length a.tc) (.slice a.so m.snaps.length a.sc) (.slice a.dq m.data.length a.dc)) (ho : OwnIm w B a m ts) :
    Calls Try.prog 57 #[.pointer (some ⟨p, 0, none⟩)] w fun e w' => e = .returned (.tuple #[]) ∧ OwnIm w' B a (imFit m) ts ∧ Keep (ImB a m ts) w w' := by
  have HV := hide hv
  have HO := hide ho
  have HC := hide (ho.shows hz)
  have HR24 := hide hr
  have HD24 := hide hd
  have HTB := hide ht
  have HLT := hide (imTabs_len m)
  have HALL := hide (fitTo_all m hr hd)
  clear hv ho hr hd ht hz
  obtain ⟨c0, c1, c2, c3⟩ := (unhide HV).cells
  go_enter Try.func57, Try.ntmps57
  go_wp2_with fail
  refine (tablesOf_any a m _ hs (unhide HC)).mono ?_
  rintro e w1 ⟨qo, qa, rfl, hrow, hb⟩
  have HROW := hide hrow
  have HB1 := hide hb
  clear hb hrow c0 c1 c2 c3
  go_wp2_with fail
  refine (usesOf_any qo qa (imTabs m) _ (by rw [unhide HLT]; omega) (unhide HTB) (unhide HROW)).mono ?_
  rintro e w2 ⟨M, D, rfl, hBge, hmp, hct, hb⟩
  have HB2 := hide (fr (unhide HB1) hb)
  have HO2 := hide ((unhide HO).below (unhide HB2))
  have HV2 := hide ((unhide HV).below (unhide HB2))
  have HM : Hid (MpC w2 M 1000 D (imCnt m)) := hide hmp
  clear hb hmp hct hBge HB1 HROW HC HO HV
  generalize imCnt m = cs at *
  go_wp2
  go_loopw [9] (fun i wr => ∃ k : Nat, k ≤ 24 ∧ i = .int .i64 k ∧ Hid (OwnIm wr B a (fitTo m cs k) ts) ∧ Hid (VarM wr p 26 (.slice a.ro m.refs.length a.rc) (.slice a.tq m.table.length a.tc) (.slice a.so m.snaps.length a.sc) (.slice a.dq m.data.length a.dc)) ∧ Hid (MpC wr M 1000 D cs) ∧ Hid (Keep (ImB a m ts) w2 wr)) (fun i _ => 24 - (intOf i).toNat)
  case atStart => exact ⟨0, by omega, rfl, HO2, HV2, HM, hide (Keep.refl _ _)⟩
  case round =>
    clear HO2 HV2 HM
    obtain ⟨k, hk, rfl, HO, HV, HM, HK⟩ := hrel
    by_cases hlt : k < 24
    · have hlti : (k : Int) < 24 := by omega
      have HLS := hide (fitTo_lens m cs k)
      have HST : Hid (fitTo m cs (k + 1) = { fitTo m cs k with refs := (fitTo m cs k).refs.set k (cs.getD k 0), data := if cs.getD k 0 = 0 then (fitTo m cs k).data.set k 0 else (fitTo m cs k).data }) := hide rfl
      have kri : (k : Int) < (m.refs.length : Int) := by rw [unhide HR24]; omega
      have kdi : (k : Int) < (m.data.length : Int) := by rw [unhide HD24]; omega
      generalize fitTo m cs k = F at *
      have hlk := (unhide HM).look hlt
      have hlk2 : (Instr.lookup 92 (.map (some M)) (.int .i64 (k : Int)) false).run Try.prog wr.drew = .ok (.int .i64 (cs.getD k 0)) wr.drew := ((unhide HM).below (Below.refl _ _).drew).look hlt
      have HLK : Hid (∀ W, MpC W M 1000 D cs → (Instr.lookup 92 (.map (some M)) (.int .i64 (k : Int)) false).run Try.prog W = .ok (.int .i64 (cs.getD k 0)) W) := hide (fun W h => h.look hlt)
      generalize cs.getD k 0 = X at *
      obtain ⟨g1, e1, hg1, hf1, hi1, hs1⟩ := (unhide HO).setR (c := k) (by rw [(unhide HLS).1, unhide HR24]; exact hlt)
      have HO1 := hide ((hs1 X).below (Below.refl _ _).drew)
      have HI1 : Hid (ImB a m ts g1) := hide (ImB.lens (unhide HLS).1 (by rw [(unhide HLS).2.2.1]) (by rw [(unhide HLS).2.2.2]) (unhide HLS).2.1 hi1)
      have HK1 : Hid (Keep (ImB a m ts) w2 (wr.setCell ⟨g1, k, none⟩ (.int .i64 X)).drew) := hide (((unhide HK).setCell (p := ⟨g1, k, none⟩) (unhide HI1) _).trans (Keep.of_below (Below.refl _ _).drew))
      have HM1 := hide (((unhide HM).setCell hg1 (.int .i64 X)).below (Below.refl _ _).drew)
      have hpg : p ≠ g1 := fun e => (unhide HO).other (e ▸ unhide HV) hi1
      have HV1 := hide (((unhide HV).other (p := ⟨g1, k, none⟩) hpg (.int .i64 X)).below (Below.refl _ _).drew)
      obtain ⟨c0, c1, c2, c3⟩ := (unhide HV).cells
      rw [e1] at c0
      clear e1 hs1 hi1
      go_upto_region 4 with fail
      go_region
      revert HO1 HK1 HM1 HV1
      generalize (World.drew _) = W1
      intro HO1 HK1 HM1 HV1
      clear c0 c1 c2 c3 hg1 hf1 hlk hlk2 hpg
      have hlk3 := unhide HLK W1 (unhide HM1)
      obtain ⟨c0, c1, c2, c3⟩ := (unhide HV1).cells
      by_cases hz : X = 0
      · obtain ⟨g2, e2, hg2, hf2, hi2, hs2⟩ := (unhide HO1).setD (c := k) (by show k < F.data.length; rw [(unhide HLS).2.1, unhide HD24]; exact hlt)
        have HO2 : Hid (OwnIm (W1.setCell ⟨g2, k, none⟩ (.int .i64 0)) B a (fitTo m cs (k + 1)) ts) := hide (by rw [unhide HST, if_pos hz]; exact hs2 0)
        have HI2 : Hid (ImB a m ts g2) := hide (ImB.lens (m' := { F with refs := F.refs.set k X }) (by simp [(unhide HLS).1]) (by show F.table.length = _; rw [(unhide HLS).2.2.1]) (by show F.snaps.length = _; rw [(unhide HLS).2.2.2]) (unhide HLS).2.1 hi2)
        have HK2 := hide ((unhide HK1).setCell (p := ⟨g2, k, none⟩) (unhide HI2) (.int .i64 0))
        have HM2 := hide ((unhide HM1).setCell hg2 (.int .i64 0))
        have hpg : p ≠ g2 := fun e => (unhide HO1).other (e ▸ unhide HV1) hi2
        have HV2 := hide ((unhide HV1).other (p := ⟨g2, k, none⟩) hpg (.int .i64 0))
        have bz : (X == 0) = true := by simp [hz]
        rw [e2] at c3
        clear e2 hs2 hi2 hz
        go_wp2
        go_roundw
        case rel => exact ⟨k + 1, by omega, by go_num, HO2, HV2, HM2, HK2⟩
        case measure => simp [intOf]; omega
      · have HO2 : Hid (OwnIm W1 B a (fitTo m cs (k + 1)) ts) := hide (by rw [unhide HST, if_neg hz]; exact unhide HO1)
        have bz : (X == 0) = false := by simp [hz]
        clear hz
        go_wp2
        go_roundw
        case rel => exact ⟨k + 1, by omega, by go_num, HO2, HV1, HM1, HK1⟩
        case measure => simp [intOf]; omega
    · obtain rfl : k = 24 := by omega
      go_wp2
      go_end0
      exact ⟨rfl, by rw [← unhide HALL]; exact unhide HO, (Keep.of_below (unhide HB2)).trans (unhide HK)⟩

end Go.Proofs.Ythnpooffhopnkac

/- Contracts of impl.copyList at numbers and at snapshots. -/
namespace Go.Proofs.Ythnpooffhopnkac
open Go.RowKit
set_option linter.unusedVariables false
set_option maxRecDepth 100000

set_option maxHeartbeats 1600000 in
theorem copyN_any (ao : Option Addr) (cap : Nat) (xs : List Int) (w : World) (hl : xs.length ≤ 1048576) (hc : Is w ao xs) :
    Calls Try.prog 39 #[.slice ao xs.length cap] w fun e w' => ∃ v, e = .returned v ∧ OwnN w' w.heap.size v xs ∧ Below w.heap.size w w' := by
  by_cases h0 : xs.length = 0
  · have hb : ((xs.length : Int) == 0) = true := by simp [h0]
    have HE := hide (List.eq_nil_of_length_eq_zero h0)
    clear h0 hc
    go_enter Try.func39, Try.ntmps39
    go_wp2
    go_ret
    exact ⟨_, rfl, by rw [unhide HE]; exact OwnN.nil _ _ _, Below.refl _ _⟩
  · obtain ⟨b, off, rfl, hc0⟩ := hc 0 (by omega)
    have hbl := World.block_lt_of_cell? _ _ hc0
    refine (copyI_any b off cap xs w hl (by omega) hbl (fun j v hv => ?_)).mono ?_
    · have hj : j < xs.length := by have := (List.getElem?_eq_some_iff.1 hv).1; rwa [intV_length] at this
      obtain ⟨b2, off2, e2, hc2⟩ := hc j hj
      simp only [Option.some.injEq, Addr.mk.injEq, and_true] at e2
      obtain ⟨rfl, rfl⟩ := e2
      rw [intV_get hj] at hv
      cases hv
      exact hc2
    · rintro e w' ⟨rfl, ho, hb⟩
      exact ⟨_, rfl, ⟨_, _, rfl, .inr ⟨by omega, ho⟩⟩, hb⟩

/-- The tables' slices of a row of snapshots, as memory has them. -/
theorem Sns.cellsOf {w : World} {so : Option Addr} {ss : List Snp} (h : Sns w so ss) (hp : 0 < ss.length) : ∃ b off ts, so = some ⟨b, off, none⟩ ∧ b < w.heap.size ∧ ss.length = ts.length ∧ (∀ v ∈ snC ss ts, v.oneCell' = true) ∧ ∀ j v, (snC ss ts)[j]? = some v → w.cell? (Addr.add ⟨b, off, none⟩ j) = some v := by
  obtain ⟨b, off, tq0, tc0, e, hn0, _⟩ := h 0 hp
  have key : ∀ (l : List Snp) (o : Nat), (∀ i (hi : i < l.length), ∃ tq tc, w.cell? ⟨b, o + i * 2, none⟩ = some (.string l[i].name) ∧ w.cell? ⟨b, o + i * 2 + 1, none⟩ = some (.slice tq l[i].table.length tc)) → ∃ ts, l.length = ts.length ∧ (∀ v ∈ snC l ts, v.oneCell' = true) ∧ ∀ j v, (snC l ts)[j]? = some v → w.cell? ⟨b, o + j, none⟩ = some v := by
    intro l
    induction l with
    | nil => intro o _; exact ⟨[], rfl, fun v hv => (by cases hv), fun j v hv => (by simp [snC] at hv)⟩
    | cons s l ih =>
      intro o hh
      obtain ⟨tq, tc, h0, h1⟩ := hh 0 (by simp)
      obtain ⟨ts, e1, e2, e3⟩ := ih (o + 2) (fun i hi => by
        obtain ⟨tq, tc, k0, k1⟩ := hh (i + 1) (by simp; omega)
        refine ⟨tq, tc, ?_, ?_⟩
        · rw [show o + 2 + i * 2 = o + (i + 1) * 2 by omega]; exact k0
        · rw [show o + 2 + i * 2 + 1 = o + (i + 1) * 2 + 1 by omega]; exact k1)
      refine ⟨.slice tq s.table.length tc :: ts, by simp [e1], fun v hv => ?_, fun j v hv => ?_⟩
      · simp only [snC, List.mem_cons] at hv
        rcases hv with rfl | rfl | hv
        · rfl
        · rfl
        · exact e2 v hv
      · match j, hv with
        | 0, hv => cases hv; exact h0
        | 1, hv => cases hv; exact h1
        | j + 2, hv =>
          have := e3 j v (by simpa [snC] using hv)
          rw [show o + (j + 2) = o + 2 + j by omega]; exact this
  obtain ⟨ts, e1, e2, e3⟩ := key ss off (fun i hi => by
    obtain ⟨b2, off2, tq, tc, e', k0, k1, _⟩ := h i hi
    rw [e] at e'
    simp only [Option.some.injEq, Addr.mk.injEq, and_true] at e'
    obtain ⟨rfl, rfl⟩ := e'
    exact ⟨tq, tc, k0, k1⟩)
  refine ⟨b, off, ts, e, World.block_lt_of_cell? _ _ hn0, e1, e2, fun j v hv => ?_⟩
  rw [show Addr.add ⟨b, off, none⟩ j = ⟨b, off + j, none⟩ from by unfold Addr.add; split <;> simp_all]
  exact e3 j v hv
theorem infoSnK : (Try.prog.info? 63).map (fun i => (i.zero, i.size, i.bytes)) = some (some (.agg #[.string ⟨#[]⟩, .slice none 0 0]), 2, 40) := by kernel_rfl
theorem sizeSnK : (Try.prog.info? 63).map (·.size) = some 2 := by kernel_rfl
/-- A row of snapshots of the call's own; of its tables nothing is said. -/
def SnO (w : World) (B : Nat) (v : Value) (ss : List Snp) : Prop := ∃ qo qa ts, v = .slice qo ss.length qa ∧ ss.length = ts.length ∧ OwnR w B 63 2 (.slice qo ss.length qa) ss.length (snC ss ts)
theorem SnO.below {w w' : World} {B : Nat} {v : Value} {ss : List Snp} (h : SnO w B v ss) (hb : Below w.heap.size w w') : SnO w' B v ss := by
  obtain ⟨qo, qa, ts, e, l, o⟩ := h
  exact ⟨qo, qa, ts, e, l, o.below hb⟩
theorem SnO.base {w : World} {B B' : Nat} {v : Value} {ss : List Snp} (h : SnO w B v ss) (hB : B' ≤ B) : SnO w B' v ss := by
  obtain ⟨qo, qa, ts, e, l, o⟩ := h
  exact ⟨qo, qa, ts, e, l, o.base hB⟩

set_option maxHeartbeats 1600000 in
theorem copySn_any (so : Option Addr) (sc : Nat) (ss : List Snp) (w : World) (hl : ss.length ≤ 1048576) (hc : Sns w so ss) :
    Calls Try.prog 83 #[.slice so ss.length sc] w fun e w' => ∃ v, e = .returned v ∧ SnO w' w.heap.size v ss ∧ Below w.heap.size w w' := by
  by_cases h0 : ss.length = 0
  · have hb : ((ss.length : Int) == 0) = true := by simp [h0]
    have HE := hide (List.eq_nil_of_length_eq_zero h0)
    clear h0 hc
    go_enter Try.func83, Try.ntmps83
    go_wp2
    go_ret
    exact ⟨_, rfl, ⟨none, 0, [], by rw [unhide HE]; rfl, by rw [unhide HE]; rfl, by rw [unhide HE]; exact .inl ⟨rfl, rfl, _, rfl⟩⟩, Below.refl _ _⟩
  · have hb : ((ss.length : Int) == 0) = false := beq_eq_false_iff_ne.2 (by omega)
    obtain ⟨b, off, ts, rfl, hbl, hlt, h1c, hcs⟩ := hc.cellsOf (by omega)
    have HCS := hide hcs
    have HP := hide h0
    have HLT := hide hlt
    have H1C := hide h1c
    have HCL := hide (snC_length ss ts hlt)
    clear hc hcs h0 h1c hlt
    generalize hcsE : snC ss ts = cs at *
    have HCE := hide hcsE
    clear hcsE
    obtain ⟨i0, hi, hz0, hz1, hz2⟩ := info_parts infoSnK
    go_enter Try.func83, Try.ntmps83
    go_wp2_with (first | (at_make; refine wpList_make_full _ rfl _ _ 24 rfl w.heap.size 63 i0 _ 2 Try.underlying24 hi hz0 hz1 _ _ _ _ ss.length rfl rfl rfl rfl ?c1 ?c2 ?c3 ?_))
    case c1 => rw [hz2]; omega
    case c2 => unfold maxLen; omega
    case c3 => exact Nat.le_refl _
    intro w1 hown hgrow
    have hB : Below w.heap.size w w1 := (Below.refl _ _).grown hgrow (Nat.le_refl _) (fun _ h => by cases h)
    have HO := hide hown
    have HB := hide hB
    have HC1 : Hid (∀ j v, cs[j]? = some v → w1.cell? (Addr.add ⟨b, off, none⟩ j) = some v) := hide (fun j v hv => ((unhide HB).cell (by unfold Addr.add; split <;> exact hbl)).trans (unhide HCS j v hv))
    clear hown hgrow hB
    go_wp2_with (refine wpList_copy_whole rfl _ _ 24 24 rfl 63 2 Try.underlying24 sizeSnK w.heap.size w.heap.size ss.length ⟨b, off, none⟩ _ rfl rfl _ (unhide HO) cs (unhide HCL) (unhide HC1) (unhide H1C) ?_; intro w2 ho2 hg2)
    have HB2 := hide ((unhide HB).grown hg2 (unhide HB).size (fun k h => by cases h; exact Nat.le_refl _))
    have HO2 := hide ho2
    clear ho2 hg2
    go_ret
    exact ⟨_, rfl, ⟨_, _, ts, rfl, unhide HLT, by rw [unhide HCE]; exact OwnR.of (unhide HO2) (fun h => absurd h (unhide HP))⟩, unhide HB2⟩

end Go.Proofs.Ythnpooffhopnkac
