import Derived.Test.YtefnapcegeojoaaGreatDoorRows
import Derived.Test.YtefnapcegeojoaaGreatDoorXElectPart1
import Derived.WalkKit
import Derived.WalkSpells
import Derived.Laws.CopyRow
import Derived.Laws.CopyOwn
import Derived.Test.YtefnapcegeojoaaGreatDoorXElectPart2
import Derived.Deep.RegionWith
import Derived.Outline
import Derived.Deep.RegionLawGrows
import Derived.Deep.RegionHeld3
import Derived.Deep.AppendLies
import Derived.Laws.BytesArg

namespace Go.Proofs.YtefnapcegeojoaaGreatDoor
open Go.RowKit
set_option linter.unusedVariables false
set_option maxRecDepth 100000

section
variable {P : Program}

theorem run_copy_whole (w : World) (dT sT ty elem : TypeId) (size g n dCap : Nat) (a : Addr) (sCap : Nat) (cur : Array Value) (t : TypeId) (cs : List Value)
    (hu : P.underlying dT = some (.slice elem)) (hs : (P.info? elem).map (·.size) = some size)
    (hg : w.heap[g]? = some (.cells cur t (0, 0))) (hl : n * size = cs.length)
    (hsrc : ∀ j v, cs[j]? = some v → w.cell? (a.add j) = some v) (hfit : cs.length ≤ cur.size) (h1 : ∀ v ∈ cs, v.oneCell' = true) :
    (Builtin.copy_ #[dT, sT] ty #[.slice (some ⟨g, 0, none⟩) n dCap, .slice (some a) n sCap]).run P w = .ok (goInt n) (w.setRow g (cs ++ cur.toList.drop cs.length).toArray) := by
  have hld := run_loadCells_list (P := P) w a cs hsrc
  have hst := run_storeCells_at P g 0 t cs 0 cur w hg (by simpa using hfit) h1
  cases hq : P.info? elem with
  | none => simp [hq] at hs
  | some i =>
    have hi : i.size = size := by simpa [hq] using hs
    simp [Builtin.copy_, run_underlying hu, Builtin.lenOf, Builtin.firstCells, sizeOf, typeInfo, hq, hi, hl, hld, hst]

theorem wpList_copy_whole {w : World} {ops : Array Oper} {rest : List Oper} {o : Oper} {a : Act} {Q : Exit → Act → World → Prop} (hgd : o.guard = none) (d s : Operand) (dT sT : TypeId)
    (ho : o.op = .call { callee := .builtin .copy, args := #[d, s], argTypes := #[dT, sT] }) (elem : TypeId) (size : Nat) (hu : P.underlying dT = some (.slice elem)) (hsz : (P.info? elem).map (·.size) = some size)
    (B g n : Nat) (ad : Addr) (sCap : Nat) (hd : a.eval d = .slice (some ⟨g, 0, none⟩) n n) (hs : a.eval s = .slice (some ad) n sCap)
    (xs : List Value) (hown : w.ownsRow B elem size (.slice (some ⟨g, 0, none⟩) n n) n xs) (cs : List Value) (hn : cs.length = n * size)
    (hsrc : ∀ j v, cs[j]? = some v → w.cell? (ad.add j) = some v) (h1 : ∀ v ∈ cs, v.oneCell' = true)
    (h : ∀ w', w'.ownsRow B elem size (.slice (some ⟨g, 0, none⟩) n n) n cs → w.grownBy w' (some g) → wpList P ops Q rest (a.put o.dst (goInt n)) w') : wpList P ops Q (o :: rest) a w := by
  refine wpList_plain hgd fun K hK => ?_
  rcases hown.2 with ⟨e, _⟩ | ⟨g', cap', cur, e, hB, hg, hnc, hcm, hcs, ht⟩
  · simp at e
  · simp only [Value.slice.injEq, Option.some.injEq, Addr.mk.injEq, and_true, true_and] at e
    obtain ⟨rfl, rfl⟩ := e
    have hrun := run_copy_whole (P := P) w dT sT o.type elem size g n n ad sCap cur elem cs hu hsz hg hn.symm hsrc (by omega) h1
    unfold Oper.wp
    simp [execOp, ho, resolve, invoke, builtin, hd, hs, hrun, Result.andThen]
    refine hK _ _ (h _ ⟨hn, .inr ⟨g, n, _, rfl, hB, setRow_heap w g _ _ elem _ hg, hnc, hcm, ?_, ?_⟩⟩ ⟨rfl, rfl, rfl, by simp, fun k _ hk => setRow_other w g k _ (fun e => hk (by simp [e]))⟩)
    · simp; omega
    · rw [← hn]; simp
end

theorem infoS : (Tryz.prog.info? 9).map (fun i => (i.zero, i.size, i.bytes)) = some (some (.string ⟨#[]⟩), 1, 16) := by kernel_rfl
theorem infoW : (Tryz.prog.info? 75).map (fun i => (i.zero, i.size, i.bytes)) = some (some (.agg #[.int .i64 0, .int .i64 0, .string ⟨#[]⟩]), 3, 32) := by kernel_rfl
theorem sizeS : (Tryz.prog.info? 9).map (·.size) = some 1 := by kernel_rfl
theorem sizeW : (Tryz.prog.info? 75).map (·.size) = some 3 := by kernel_rfl

theorem strV_one (ss : List ByteArray) : ∀ v ∈ strV ss, v.oneCell' = true := by
  intro v hv
  simp only [strV, List.mem_map] at hv
  obtain ⟨s, _, rfl⟩ := hv
  rfl
theorem ioV_one (xs : List Wr) : ∀ v ∈ ioV xs, v.oneCell' = true := by
  intro v hv
  simp only [ioV, List.mem_flatMap] at hv
  obtain ⟨x, _, hv⟩ := hv
  simp at hv
  rcases hv with rfl | rfl | rfl <;> rfl
theorem Ss.at {w : World} {ao : Option Addr} {ss : List ByteArray} (h : Ss w ao ss) (hp : 0 < ss.length) : ∃ b off, ao = some ⟨b, off, none⟩ ∧ ∀ j v, (strV ss)[j]? = some v → w.cell? (Addr.add ⟨b, off, none⟩ j) = some v := by
  obtain ⟨b, off, rfl, _⟩ := h 0 hp
  refine ⟨b, off, rfl, fun j v hv => ?_⟩
  have hj : j < ss.length := by have := (List.getElem?_eq_some_iff.1 hv).1; rwa [strV_length] at this
  obtain ⟨b', off', e, hc, _⟩ := h j hj
  simp only [Option.some.injEq, Addr.mk.injEq, and_true] at e
  obtain ⟨rfl, rfl⟩ := e
  rw [strV_get hj] at hv
  cases hv
  rw [show Addr.add ⟨b, off, none⟩ j = ⟨b, off + j, none⟩ from by unfold Addr.add; split <;> simp_all]
  exact hc
theorem ioV_at {xs : List Wr} {j : Nat} {v : Value} (h : (ioV xs)[j]? = some v) : ∃ i r, ∃ hi : i < xs.length, j = i * 3 + r ∧ ((r = 0 ∧ v = .int .i64 xs[i].host) ∨ (r = 1 ∧ v = .int .i64 xs[i].at_) ∨ (r = 2 ∧ v = .string xs[i].data)) := by
  have hj : j < xs.length * 3 := by have := (List.getElem?_eq_some_iff.1 h).1; rwa [ioV_length] at this
  have hi : j / 3 < xs.length := by omega
  obtain ⟨g0, g1, g2⟩ := ioV_get hi
  rcases (show j % 3 = 0 ∨ j % 3 = 1 ∨ j % 3 = 2 by omega) with e | e | e
  · rw [show j = j / 3 * 3 by omega, g0] at h; cases h
    exact ⟨j / 3, 0, hi, by omega, .inl ⟨rfl, rfl⟩⟩
  · rw [show j = j / 3 * 3 + 1 by omega, g1] at h; cases h
    exact ⟨j / 3, 1, hi, by omega, .inr (.inl ⟨rfl, rfl⟩)⟩
  · rw [show j = j / 3 * 3 + 2 by omega, g2] at h; cases h
    exact ⟨j / 3, 2, hi, by omega, .inr (.inr ⟨rfl, rfl⟩)⟩
theorem Ios.at {w : World} {ao : Option Addr} {xs : List Wr} (h : Ios w ao xs) (hp : 0 < xs.length) : ∃ b off, ao = some ⟨b, off, none⟩ ∧ ∀ j v, (ioV xs)[j]? = some v → w.cell? (Addr.add ⟨b, off, none⟩ j) = some v := by
  obtain ⟨b, off, rfl, _⟩ := h 0 hp
  refine ⟨b, off, rfl, fun j v hv => ?_⟩
  obtain ⟨i, r, hi, rfl, hr⟩ := ioV_at hv
  obtain ⟨b', off', e, h0, h1, h2, _⟩ := h i hi
  simp only [Option.some.injEq, Addr.mk.injEq, and_true] at e
  obtain ⟨rfl, rfl⟩ := e
  rw [show Addr.add ⟨b, off, none⟩ (i * 3 + r) = ⟨b, off + i * 3 + r, none⟩ from by unfold Addr.add; split <;> simp_all [Nat.add_assoc]]
  rcases hr with ⟨rfl, rfl⟩ | ⟨rfl, rfl⟩ | ⟨rfl, rfl⟩
  · exact h0
  · exact h1
  · exact h2

set_option maxHeartbeats 1600000 in
theorem copyS_any (ao : Option Addr) (cap : Nat) (ss : List ByteArray) (w : World) (hl : ss.length ≤ 1048576) (hc : Ss w ao ss) :
    Calls Tryz.prog 112 #[.slice ao ss.length cap] w fun e w' => ∃ bo cb, e = .returned (.slice bo ss.length cb) ∧ OwnR w' w.heap.size 9 1 (.slice bo ss.length cb) ss.length (strV ss) ∧ Below w.heap.size w w' := by
  by_cases h0 : ss.length = 0
  · have hb : ((ss.length : Int) == 0) = true := by simp [h0]
    have HE := hide h0
    clear h0 hc
    go_enter Tryz.func112, Tryz.ntmps112
    go_wp2
    go_ret
    rw [unhide HE]
    exact ⟨none, 0, rfl, .inl ⟨rfl, List.eq_nil_of_length_eq_zero (by rw [strV_length, unhide HE]), none, rfl⟩, Below.refl _ _⟩
  · have hb : ((ss.length : Int) == 0) = false := beq_eq_false_iff_ne.2 (by omega)
    obtain ⟨b, off, rfl, hcs⟩ := hc.at (by omega)
    have hbl : b < w.heap.size := by
      obtain ⟨b', off', e, hc', _⟩ := hc 0 (by omega)
      simp only [Option.some.injEq, Addr.mk.injEq, and_true] at e
      obtain ⟨rfl, rfl⟩ := e
      exact World.block_lt_of_cell? _ _ hc'
    have HCS := hide hcs
    have HP := hide h0
    clear hc hcs h0
    obtain ⟨i0, hi, hz0, hz1, hz2⟩ := info_parts infoS
    go_enter Tryz.func112, Tryz.ntmps112
    go_wp2_with (first | (at_make; refine wpList_make_full _ rfl _ _ 23 rfl w.heap.size 9 i0 _ 1 Tryz.underlying23 hi hz0 hz1 _ _ _ _ ss.length rfl rfl rfl rfl ?c1 ?c2 ?c3 ?_))
    case c1 => rw [hz2]; omega
    case c2 => unfold maxLen; omega
    case c3 => exact Nat.le_refl _
    intro w1 hown hgrow
    have hB : Below w.heap.size w w1 := (Below.refl _ _).grown hgrow (Nat.le_refl _) (fun _ h => by cases h)
    have HO := hide hown
    have HB := hide hB
    have HC1 : Hid (∀ j v, (strV ss)[j]? = some v → w1.cell? (Addr.add ⟨b, off, none⟩ j) = some v) := hide (fun j v hv => ((unhide HB).cell (by unfold Addr.add; split <;> exact hbl)).trans (unhide HCS j v hv))
    clear hown hgrow hB
    go_wp2_with (refine wpList_copy_whole rfl _ _ 23 23 rfl 9 1 Tryz.underlying23 sizeS w.heap.size w.heap.size ss.length ⟨b, off, none⟩ _ rfl rfl _ (unhide HO) (strV ss) (by rw [strV_length]; omega) (unhide HC1) (strV_one ss) ?_; intro w2 ho2 hg2)
    have HB2 := hide ((unhide HB).grown hg2 (unhide HB).size (fun k h => by cases h; exact Nat.le_refl _))
    have HO2 := hide ho2
    clear ho2 hg2
    go_ret
    exact ⟨_, _, rfl, OwnR.of (unhide HO2) (fun h => absurd h (unhide HP)), unhide HB2⟩

set_option maxHeartbeats 1600000 in
theorem copyW_any (ao : Option Addr) (cap : Nat) (ss : List Wr) (w : World) (hl : ss.length ≤ 1048576) (hc : Ios w ao ss) :
    Calls Tryz.prog 113 #[.slice ao ss.length cap] w fun e w' => ∃ bo cb, e = .returned (.slice bo ss.length cb) ∧ OwnR w' w.heap.size 75 3 (.slice bo ss.length cb) ss.length (ioV ss) ∧ Below w.heap.size w w' := by
  by_cases h0 : ss.length = 0
  · have hb : ((ss.length : Int) == 0) = true := by simp [h0]
    have HE := hide h0
    clear h0 hc
    go_enter Tryz.func113, Tryz.ntmps113
    go_wp2
    go_ret
    rw [unhide HE]
    exact ⟨none, 0, rfl, .inl ⟨rfl, List.eq_nil_of_length_eq_zero (by rw [ioV_length, unhide HE]), none, rfl⟩, Below.refl _ _⟩
  · have hb : ((ss.length : Int) == 0) = false := beq_eq_false_iff_ne.2 (by omega)
    obtain ⟨b, off, rfl, hcs⟩ := hc.at (by omega)
    have hbl : b < w.heap.size := by
      obtain ⟨b', off', e, hc', _, _, _⟩ := hc 0 (by omega)
      simp only [Option.some.injEq, Addr.mk.injEq, and_true] at e
      obtain ⟨rfl, rfl⟩ := e
      exact World.block_lt_of_cell? _ _ hc'
    have HCS := hide hcs
    have HP := hide h0
    clear hc hcs h0
    obtain ⟨i0, hi, hz0, hz1, hz2⟩ := info_parts infoW
    go_enter Tryz.func113, Tryz.ntmps113
    go_wp2_with (first | (at_make; refine wpList_make_full _ rfl _ _ 24 rfl w.heap.size 75 i0 _ 3 Tryz.underlying24 hi hz0 hz1 _ _ _ _ ss.length rfl rfl rfl rfl ?c1 ?c2 ?c3 ?_))
    case c1 => rw [hz2]; omega
    case c2 => unfold maxLen; omega
    case c3 => exact Nat.le_refl _
    intro w1 hown hgrow
    have hB : Below w.heap.size w w1 := (Below.refl _ _).grown hgrow (Nat.le_refl _) (fun _ h => by cases h)
    have HO := hide hown
    have HB := hide hB
    have HC1 : Hid (∀ j v, (ioV ss)[j]? = some v → w1.cell? (Addr.add ⟨b, off, none⟩ j) = some v) := hide (fun j v hv => ((unhide HB).cell (by unfold Addr.add; split <;> exact hbl)).trans (unhide HCS j v hv))
    clear hown hgrow hB
    go_wp2_with (refine wpList_copy_whole rfl _ _ 24 24 rfl 75 3 Tryz.underlying24 sizeW w.heap.size w.heap.size ss.length ⟨b, off, none⟩ _ rfl rfl _ (unhide HO) (ioV ss) (by rw [ioV_length]) (unhide HC1) (ioV_one ss) ?_; intro w2 ho2 hg2)
    have HB2 := hide ((unhide HB).grown hg2 (unhide HB).size (fun k h => by cases h; exact Nat.le_refl _))
    have HO2 := hide ho2
    clear ho2 hg2
    go_ret
    exact ⟨_, _, rfl, OwnR.of (unhide HO2) (fun h => absurd h (unhide HP)), unhide HB2⟩

end Go.Proofs.YtefnapcegeojoaaGreatDoor

namespace Go.Proofs.YtefnapcegeojoaaGreatDoor
open Go.RowKit
set_option linter.unusedVariables false
set_option maxRecDepth 100000

theorem copyD_end {w wL : World} {po qo : Option Addr} {n pa m qa : Nat} {ss : List ByteArray} {xs : List Wr} (ho : OwnD wL (w.heap.size + 2) po n pa qo m qa ss xs) (hb : Below w.heap.size w wL) (a b : Value) :
    OwnD ((wL.setCell ⟨w.heap.size + 1, 0, none⟩ a).setCell ⟨w.heap.size + 1, 1, none⟩ b) w.heap.size po n pa qo m qa ss xs ∧ Below w.heap.size w ((wL.setCell ⟨w.heap.size + 1, 0, none⟩ a).setCell ⟨w.heap.size + 1, 1, none⟩ b) :=
  ⟨((ho.setCell (a := ⟨w.heap.size + 1, 0, none⟩) (by simp) a).setCell (a := ⟨w.heap.size + 1, 1, none⟩) (by simp) b).base (by omega),
    (hb.setCell (p := ⟨w.heap.size + 1, 0, none⟩) (by simp) a).setCell (p := ⟨w.heap.size + 1, 1, none⟩) (by simp) b⟩

set_option maxHeartbeats 3200000 in
theorem copyDisk_any (ao bo : Option Addr) (ca cb : Nat) (ss : List ByteArray) (xs : List Wr) (w : World) (hl : ss.length ≤ 1048576) (hm : xs.length ≤ 1048576) (h1 : Ss w ao ss) (h2 : Ios w bo xs) :
    Calls Tryz.prog 77 #[.agg #[.slice ao ss.length ca, .slice bo xs.length cb]] w fun e w' => ∃ po pa qo qa, e = .returned (.agg #[.slice po ss.length pa, .slice qo xs.length qa]) ∧ OwnD w' w.heap.size po ss.length pa qo xs.length qa ss xs ∧ Below w.heap.size w w' := by
  have HA := hide (Joins.below_alloc2 w (.cells #[.slice ao ss.length ca, .slice bo xs.length cb] 26) (.cells #[.slice none 0 0, .slice none 0 0] 26))
  have HS := hide (h1.below (unhide HA))
  have HX := hide (h2.below (unhide HA))
  have HSd := hide ((unhide HS).below (Below.refl _ _).drew)
  have HXd := hide ((unhide HX).below (Below.refl _ _).drew)
  have HV : Hid (VarD ((w.alloc (.cells #[.slice ao ss.length ca, .slice bo xs.length cb] 26)).alloc (.cells #[.slice none 0 0, .slice none 0 0] 26)).drew w.heap.size (.slice ao ss.length ca) (.slice bo xs.length cb)) := hide ((VarD.new w _ _).below (Joins.below_alloc1 _ _).drew)
  have HR : Hid (VarD ((w.alloc (.cells #[.slice ao ss.length ca, .slice bo xs.length cb] 26)).alloc (.cells #[.slice none 0 0, .slice none 0 0] 26)).drew (w.heap.size + 1) (.slice none 0 0) (.slice none 0 0)) := hide (by have := VarD.new (w.alloc (.cells #[.slice ao ss.length ca, .slice bo xs.length cb] 26)) (.slice none 0 0) (.slice none 0 0); simp only [World.size_alloc] at this; exact this)
  clear h1 h2
  go_enter Tryz.func77, Tryz.ntmps77
  go_wp2
  go_region_with (first
    | (go_at_call 112; refine (copyS_any ao ca ss _ hl (by first | exact unhide HSd | exact (unhide HSd).below hbW)).mono ?_; rintro e wS ⟨po, pa, rfl, hoS, hbS⟩; have HVS : Hid (VarD wS w.heap.size (.slice ao ss.length ca) (.slice bo xs.length cb)) := (by first | exact hide ((unhide HV).below hbS) | exact hide ((unhide HVW).below hbS)); have HRS : Hid (VarD wS (w.heap.size + 1) (.slice none 0 0) (.slice none 0 0)) := (by first | exact hide ((unhide HR).below hbS) | exact hide ((unhide HRW).below hbS)); obtain ⟨hs0, hs1⟩ := (unhide HVS).cells; obtain ⟨hs2, hs3⟩ := (unhide HRS).cells; have hs4 := Joins.unfrozen_of_block (unhide HRS) 0; have hs5 := Joins.unfrozen_of_block (unhide HRS) 1)
    | (go_at_call 113; refine (copyW_any bo cb xs _ hm (by first | exact unhide HXd | exact (unhide HXd).below hbS)).mono ?_; rintro e wW ⟨qo, qa, rfl, hoW, hbW⟩; have HVW : Hid (VarD wW w.heap.size (.slice ao ss.length ca) (.slice bo xs.length cb)) := (by first | exact hide ((unhide HV).below hbW) | exact hide ((unhide HVS).below hbW)); have HRW : Hid (VarD wW (w.heap.size + 1) (.slice none 0 0) (.slice none 0 0)) := (by first | exact hide ((unhide HR).below hbW) | exact hide ((unhide HRS).below hbW)); obtain ⟨hw0, hw1⟩ := (unhide HVW).cells; obtain ⟨hw2, hw3⟩ := (unhide HRW).cells; have hw4 := Joins.unfrozen_of_block (unhide HRW) 0; have hw5 := Joins.unfrozen_of_block (unhide HRW) 1))
  all_goals first
    | (have HL := hide (copyD_end (w := w) (wL := wW) (po := po) (qo := qo) (n := ss.length) (pa := pa) (m := xs.length) (qa := qa) (ss := ss) (xs := xs) ⟨(hoS.below hbW).base (by simp), hoW.base (by have := hbS.size; simp at this; omega)⟩ (fr (fr (unhide HA).drew hbS) hbW) (.slice po ss.length pa) (.slice qo xs.length qa))
       clear hoS hbS hoW hbW hs0 hs1 hs2 hs3 hs4 hs5
       go_wp2
       exact bodyPost_ret (v := .agg #[.slice po ss.length pa, .slice qo xs.length qa]) (by simp [results, Tryz.results77, go_sem, hw2, hw3]) rfl ⟨_, _, _, _, rfl, (unhide HL).1, (unhide HL).2⟩)
    | (have HL := hide (copyD_end (w := w) (wL := wS) (po := po) (qo := qo) (n := ss.length) (pa := pa) (m := xs.length) (qa := qa) (ss := ss) (xs := xs) ⟨hoS.base (by have := hbW.size; simp at this; omega), (hoW.below hbS).base (by simp)⟩ (fr (fr (unhide HA).drew hbW) hbS) (.slice po ss.length pa) (.slice qo xs.length qa))
       clear hoS hbS hoW hbW hw0 hw1 hw2 hw3 hw4 hw5
       go_wp2
       exact bodyPost_ret (v := .agg #[.slice po ss.length pa, .slice qo xs.length qa]) (by simp [results, Tryz.results77, go_sem, hs2, hs3]) rfl ⟨_, _, _, _, rfl, (unhide HL).1, (unhide HL).2⟩)

end Go.Proofs.YtefnapcegeojoaaGreatDoor

namespace Go.Proofs.YtefnapcegeojoaaGreatDoor
open Go.RowKit
set_option linter.unusedVariables false
set_option maxRecDepth 100000

section
variable {P : Program}
theorem run_append_nothing (w : World) (t ty e : TypeId) (i : TypeInfo) (ht : P.underlying t = some (.slice e)) (hi : P.info? e = some i) (d so : Option Addr) (cap c : Nat) :
    (Builtin.append_ #[t, t] ty #[.slice d 0 cap, .slice so 0 c]).run P w = .ok (.slice d 0 cap) w := by
  have hl : ∀ (x : Addr), (loadCells x 0).run P w = .ok #[] w := fun x => by simpa using run_loadCells_list (P := P) w x [] (by simp)
  cases d <;> cases so <;> simp [Builtin.append_, run_underlying ht, sizeOf, typeInfo, hi, Builtin.lenOf, Builtin.firstCells, storeCells, hl]

theorem run_append_fresh (w : World) (t ty e : TypeId) (i : TypeInfo) (z : Value) (size bytes : Nat) (ht : P.underlying t = some (.slice e)) (hi : P.info? e = some i) (hz : i.zero = some z)
    (hsize : i.size = size) (hby : i.bytes = bytes) (hzs : z.cells.size = size) (hsz : 0 < size)
    (d : Addr) (so : Option Addr) (m c : Nat) (news : List Value) (hn : news.length = m * size) (hc : 0 < m → ∃ ad, so = some ad ∧ ∀ j u, news[j]? = some u → w.cell? (ad.add j) = some u)
    (b1 : m ≤ maxLen) (b2 : m * bytes ≤ 140737488355328) :
    ∃ ao cap w', (Builtin.append_ #[t, t] ty #[.slice (some d) 0 0, .slice so m c]).run P w = .ok (.slice ao m cap) w' ∧ OwnR w' w.heap.size e size (.slice ao m cap) m news ∧ w.grownBy w' none := by
  rcases Nat.eq_zero_or_pos m with h0 | h0
  · subst h0
    exact ⟨some d, 0, w, run_append_nothing w t ty e i ht hi _ _ _ _, .inl ⟨rfl, List.eq_nil_of_length_eq_zero (by simpa using hn), _, rfl⟩, World.grownBy.refl w none⟩
  · obtain ⟨ad, rfl, hcs⟩ := hc h0
    obtain ⟨v', w', hrun, r1, r2⟩ := run_append_arg_grows (P := P) w t ty e i z size bytes ht hi hz hsize hby hzs hsz d 0 0 [] (by simp) (by simp) ad m c news hn hcs (by omega) (by simpa using b1) (by simpa using b2)
    simp only [Nat.zero_add, List.nil_append] at r1
    obtain ⟨g, cap, cur, rfl, _, _⟩ := own_form h0 r1
    exact ⟨_, _, w', hrun, .inr ⟨h0, r1⟩, r2⟩

def isFresh : Value → Bool
  | .slice (some _) 0 0 => true
  | _ => false
theorem isFresh_form {v : Value} (h : isFresh v = true) : ∃ d, v = .slice (some d) 0 0 := by
  unfold isFresh at h
  split at h
  · exact ⟨_, rfl⟩
  · cases h

theorem step_append_fresh {ops : Array Oper} {o : Oper} {a : Act} {w : World} {K : Act → World → Prop} {Q : Exit → Act → World → Prop} {E : Prop}
    (hg : o.guard = none) (s x : Operand) (t : TypeId) (hop : o.op = Op.call { callee := Callee.builtin Builtin.append, args := #[s, x], argTypes := #[t, t] })
    (e : TypeId) (i : TypeInfo) (z : Value) (size bytes : Nat) (h1 : P.underlying t = some (.slice e)) (h2 : P.info? e = some i) (h3 : i.zero = some z) (h4 : i.size = size) (h5 : i.bytes = bytes) (h6 : z.cells.size = size) (h7 : 0 < size)
    (hs0 : isFresh (a.eval s) = true) (so : Option Addr) (m c : Nat) (news : List Value) (hx : a.eval x = .slice so m c) (hn : news.length = m * size)
    (hc : 0 < m → ∃ ad, so = some ad ∧ ∀ j u, news[j]? = some u → w.cell? (ad.add j) = some u) (b1 : m ≤ maxLen) (b2 : m * bytes ≤ 140737488355328)
    (hK : ∀ ao cap w', OwnR w' w.heap.size e size (.slice ao m cap) m news → w.grownBy w' none → K (a.put o.dst (.slice ao m cap)) w') :
    if Region.wanted o (yielded ops a.tmps) = true then Oper.wp P o a w K Q else E := by
  have hw : Region.wanted o (yielded ops a.tmps) = true := by simp [Region.wanted, hg]
  rw [if_pos hw]
  obtain ⟨d, hs⟩ := isFresh_form hs0
  obtain ⟨ao, cap, w', hrun, r1, r2⟩ := run_append_fresh (P := P) w t o.type e i z size bytes h1 h2 h3 h4 h5 h6 h7 d so m c news hn hc b1 b2
  unfold Oper.wp
  simp [execOp, hop, resolve, invoke, builtin, hs, hx, hrun, Result.andThen]
  exact hK _ _ _ r1 r2
end

theorem belowAl {W0 W : World} (h : Below W0.heap.size W0 W) (o : Obj) : Below W0.heap.size W0 (W.alloc o) := h.alloc h.size o
theorem belowGr {W0 W W' : World} (h : Below W0.heap.size W0 W) (hg : W.grownBy W' none) : Below W0.heap.size W0 W' := h.grown hg h.size (fun _ h => by cases h)
end Go.Proofs.YtefnapcegeojoaaGreatDoor

namespace Go.Proofs.YtefnapcegeojoaaGreatDoor
open Go.RowKit
set_option linter.unusedVariables false
set_option maxRecDepth 100000

theorem Ss.src {w : World} {ao : Option Addr} {ss : List ByteArray} (h : Ss w ao ss) : 0 < ss.length → ∃ ad, ao = some ad ∧ ∀ j u, (strV ss)[j]? = some u → w.cell? (ad.add j) = some u := fun hp => by
  obtain ⟨b, off, rfl, hc⟩ := h.at hp
  exact ⟨_, rfl, hc⟩
theorem Ios.src {w : World} {ao : Option Addr} {xs : List Wr} (h : Ios w ao xs) : 0 < xs.length → ∃ ad, ao = some ad ∧ ∀ j u, (ioV xs)[j]? = some u → w.cell? (ad.add j) = some u := fun hp => by
  obtain ⟨b, off, rfl, hc⟩ := h.at hp
  exact ⟨_, rfl, hc⟩

theorem VarD.free {w : World} {x : Nat} {a b : Value} (h : VarD w x a b) (i : Nat) : w.frozen? ⟨x, i, none⟩ = false := Joins.unfrozen_of_block h i

set_option maxHeartbeats 6400000 in
theorem l01Own_any (ao bo : Option Addr) (ca cb : Nat) (ss : List ByteArray) (xs : List Wr) (w : World) (hl : ss.length ≤ 1048576) (hm : xs.length ≤ 1048576) (h1 : Ss w ao ss) (h2 : Ios w bo xs) :
    Calls Tryz.prog 31 #[.agg #[.slice ao ss.length ca, .slice bo xs.length cb]] w fun e w' => ∃ po pa qo qa, e = .returned (.agg #[.slice po ss.length pa, .slice qo xs.length qa]) ∧ OwnD w' w.heap.size po ss.length pa qo xs.length qa ss xs ∧ Below w.heap.size w w' := by
  have HA := hide (Joins.below_alloc2 w (.cells #[.slice ao ss.length ca, .slice bo xs.length cb] 26) (.cells #[.slice none 0 0, .slice none 0 0] 26))
  have HS := hide (h1.below (unhide HA))
  have HX := hide (h2.below (unhide HA))
  have HV := hide ((VarD.new w (.slice ao ss.length ca) (.slice bo xs.length cb)).below (Joins.below_alloc1 _ (.cells #[.slice none 0 0, .slice none 0 0] 26)))
  have HR : Hid (VarD ((w.alloc (.cells #[.slice ao ss.length ca, .slice bo xs.length cb] 26)).alloc (.cells #[.slice none 0 0, .slice none 0 0] 26)) (w.heap.size + 1) (.slice none 0 0) (.slice none 0 0)) := hide (by have := VarD.new (w.alloc (.cells #[.slice ao ss.length ca, .slice bo xs.length cb] 26)) (.slice none 0 0) (.slice none 0 0); simp only [World.size_alloc] at this; exact this)
  clear h1 h2
  obtain ⟨i0, hi, hz0, hz1, hz2⟩ := info_parts infoS
  obtain ⟨j0, hj, hy0, hy1, hy2⟩ := info_parts infoW
  go_enter Tryz.func31, Tryz.ntmps31
  go_wp2
  go_region_held3 (fun w' => w'.cell? ⟨w.heap.size, 0, none⟩ = some (.slice ao ss.length ca) ∧ w'.cell? ⟨w.heap.size, 1, none⟩ = some (.slice bo xs.length cb)) (go_keep)
    (first
      | (refine (step_append_fresh ?_ (.tmp 3) (.tmp 5) 23 ?_ 9 i0 (.string ⟨#[]⟩) 1 16 Tryz.underlying23 hi hz0 hz1 hz2 ?_ ?_ ?_ ao ss.length ca (strV ss) ?_ ?_ ?_ ?_ ?_ ?_)
         · rfl
         · rfl
         · rfl
         · omega
         · rfl
         · rfl
         · rw [strV_length]; omega
         · refine Ss.src ((unhide HS).below ?_)
           repeat (first | exact Below.refl _ _ | exact hbA | exact hbB | refine Below.drew ?_ | refine belowAl ?_ _)
         · unfold maxLen; omega
         · omega
         intro po pa wA hoA hgA
         have hbA : Below ((w.alloc (.cells #[.slice ao ss.length ca, .slice bo xs.length cb] 26)).alloc (.cells #[.slice none 0 0, .slice none 0 0] 26)).heap.size ((w.alloc (.cells #[.slice ao ss.length ca, .slice bo xs.length cb] 26)).alloc (.cells #[.slice none 0 0, .slice none 0 0] 26)) wA := belowGr (by repeat (first | exact Below.refl _ _ | exact hbA | exact hbB | refine Below.drew ?_ | refine belowAl ?_ _)) hgA
         obtain ⟨hA0, hA1⟩ := ((unhide HV).below hbA).cells
         obtain ⟨hA2, hA3⟩ := ((unhide HR).below hbA).cells
         have hA4 := ((unhide HR).below hbA).free 0
         have hA5 := ((unhide HR).below hbA).free 1)
      | (refine (step_append_fresh ?_ (.tmp 7) (.tmp 9) 24 ?_ 75 j0 (.agg #[.int .i64 0, .int .i64 0, .string ⟨#[]⟩]) 3 32 Tryz.underlying24 hj hy0 hy1 hy2 ?_ ?_ ?_ bo xs.length cb (ioV xs) ?_ ?_ ?_ ?_ ?_ ?_)
         · rfl
         · rfl
         · rfl
         · omega
         · rfl
         · rfl
         · rw [ioV_length]
         · refine Ios.src ((unhide HX).below ?_)
           repeat (first | exact Below.refl _ _ | exact hbA | exact hbB | refine Below.drew ?_ | refine belowAl ?_ _)
         · unfold maxLen; omega
         · omega
         intro qo qa wB hoB hgB
         have hbB : Below ((w.alloc (.cells #[.slice ao ss.length ca, .slice bo xs.length cb] 26)).alloc (.cells #[.slice none 0 0, .slice none 0 0] 26)).heap.size ((w.alloc (.cells #[.slice ao ss.length ca, .slice bo xs.length cb] 26)).alloc (.cells #[.slice none 0 0, .slice none 0 0] 26)) wB := belowGr (by repeat (first | exact Below.refl _ _ | exact hbA | exact hbB | refine Below.drew ?_ | refine belowAl ?_ _)) hgB
         obtain ⟨hB0, hB1⟩ := ((unhide HV).below hbB).cells
         obtain ⟨hB2, hB3⟩ := ((unhide HR).below hbB).cells
         have hB4 := ((unhide HR).below hbB).free 0
         have hB5 := ((unhide HR).below hbB).free 1))
  all_goals
    have hAB : Below wA.heap.size wA wB := belowGr (by repeat (first | exact Below.refl _ _ | refine Below.drew ?_ | refine belowAl ?_ _)) hgB
    have hsA : w.heap.size + 2 ≤ wA.heap.size := by have := hbA.size; simp at this; omega
    have HL := hide (copyD_end (w := w) (wL := wB) (po := po) (qo := qo) (n := ss.length) (pa := pa) (m := xs.length) (qa := qa) (ss := ss) (xs := xs) ⟨(hoA.below hAB).base (by first | omega | (simp <;> omega)), hoB.base (by first | omega | (simp <;> omega) | exact hsA)⟩ (fr (unhide HA) hbB) (.slice po ss.length pa) (.slice qo xs.length qa))
    clear hoA hoB hgA hgB hbA hbB hAB hA0 hA1 hA2 hA3 hA4 hA5
    go_wp2
    exact bodyPost_ret (v := .agg #[.slice po ss.length pa, .slice qo xs.length qa]) (by simp [results, Tryz.results31, go_sem, hB2, hB3]) rfl ⟨_, _, _, _, rfl, (unhide HL).1, (unhide HL).2⟩

end Go.Proofs.YtefnapcegeojoaaGreatDoor

namespace Go.Proofs.YtefnapcegeojoaaGreatDoor
open Go.RowKit
set_option linter.unusedVariables false

def wrV (x : Wr) : List Value := [.int .i64 x.host, .int .i64 x.at_, .string x.data]
theorem wrV_one (x : Wr) : ∀ u ∈ wrV x, u.oneCell' = true := by
  intro u hu
  simp [wrV] at hu
  rcases hu with rfl | rfl | rfl <;> rfl
def VarI (w : World) (y : Nat) (x : Wr) : Prop := w.heap[y]? = some (.cells #[.int .i64 x.host, .int .i64 x.at_, .string x.data] 75 (0, 0))
theorem VarI.lt {w : World} {y : Nat} {x : Wr} (h : VarI w y x) : y < w.heap.size := (Array.getElem?_eq_some_iff.1 h).1
theorem VarI.cells {w : World} {y : Nat} {x : Wr} (h : VarI w y x) : w.cell? ⟨y, 0, none⟩ = some (.int .i64 x.host) ∧ w.cell? ⟨y, 1, none⟩ = some (.int .i64 x.at_) ∧ w.cell? ⟨y, 2, none⟩ = some (.string x.data) := ⟨by rw [Joins.cell_of_block h]; rfl, by rw [Joins.cell_of_block h]; rfl, by rw [Joins.cell_of_block h]; rfl⟩
theorem VarI.below {w w' : World} {y : Nat} {x : Wr} (h : VarI w y x) (hb : Below w.heap.size w w') : VarI w' y x := by
  unfold VarI; rw [hb.block y h.lt]; exact h
theorem VarI.new (w : World) (x : Wr) : VarI (w.alloc (.cells #[.int .i64 x.host, .int .i64 x.at_, .string x.data] 75)) w.heap.size x := heap_alloc_new w _
theorem VarI.news {w : World} {y : Nat} {x : Wr} (h : VarI w y x) : ∀ j u, (wrV x)[j]? = some u → w.cell? ((⟨y, 0, none⟩ : Addr).add j) = some u := World.news_of_block (cs := #[.int .i64 x.host, .int .i64 x.at_, .string x.data]) h
theorem VarI.top {W : World} {y : Nat} {x : Wr} (h : W.heap.size = y) : VarI (W.alloc (.cells #[.int .i64 x.host, .int .i64 x.at_, .string x.data] 75)) y x := by rw [← h]; exact VarI.new W x
theorem VarI.under {W : World} {y : Nat} {x : Wr} (h : VarI W y x) (o : Obj) : VarI (W.alloc o) y x := h.below (Joins.below_alloc1 _ _)
theorem VarI.drew {W : World} {y : Nat} {x : Wr} (h : VarI W y x) : VarI W.drew y x := h
theorem VarI.grown {W W' : World} {y : Nat} {x : Wr} (h : VarI W y x) (hg : W.grownBy W' none) : VarI W' y x := by
  unfold VarI; rw [hg.block y h.lt (by simp)]; exact h
theorem ioV_snoc (xs : List Wr) (x : Wr) : ioV (xs ++ [x]) = ioV xs ++ wrV x := by simp [ioV, wrV]

theorem belowKp {W0 W W' : World} {S : Nat → Prop} (h : Below W0.heap.size W0 W) (hk : Keep S W W') (hs : ∀ j, S j → W0.heap.size ≤ j) : Below W0.heap.size W0 W' := h.trans (hk.below h.size hs)
theorem zeroD_own {w : World} {B : Nat} : OwnD w B none 0 0 none 0 0 [] [] := ⟨.inl ⟨rfl, rfl, none, rfl⟩, .inl ⟨rfl, rfl, none, rfl⟩⟩
theorem zero_end {w wL : World} (hb : Below w.heap.size w wL) (a b : Value) : Below w.heap.size w ((wL.setCell ⟨w.heap.size + 1, 0, none⟩ a).setCell ⟨w.heap.size + 1, 1, none⟩ b) :=
  (hb.setCell (p := ⟨w.heap.size + 1, 0, none⟩) (by simp) a).setCell (p := ⟨w.heap.size + 1, 1, none⟩) (by simp) b

theorem ask_zero (ss : List ByteArray) (xs : List Wr) (h : Int) : askC ss xs h 0 = hostC ss xs h := by
  unfold askC
  split
  · rename_i e; rw [e]; rfl
  · rfl
theorem land_end {w wL : World} {po qo : Option Addr} {n pa m qa : Nat} {ss : List ByteArray} {xs : List Wr} {B : Nat} (ho : OwnD wL B po n pa qo m qa ss xs) (hB : w.heap.size + 2 ≤ B) (hb : Below w.heap.size w wL) (a b : Value) :
    OwnD ((wL.setCell ⟨w.heap.size + 1, 0, none⟩ a).setCell ⟨w.heap.size + 1, 1, none⟩ b) w.heap.size po n pa qo m qa ss xs ∧ Below w.heap.size w ((wL.setCell ⟨w.heap.size + 1, 0, none⟩ a).setCell ⟨w.heap.size + 1, 1, none⟩ b) :=
  copyD_end (ho.base hB) hb a b

end Go.Proofs.YtefnapcegeojoaaGreatDoor

namespace Go.Proofs.YtefnapcegeojoaaGreatDoor
open Go.RowKit
set_option linter.unusedVariables false
set_option maxRecDepth 100000

set_option maxHeartbeats 1600000 in
theorem placeFault_any (ao bo : Option Addr) (ca cb : Nat) (ss : List ByteArray) (xs : List Wr) (h a : Int) (w : World) (hl : ss.length ≤ maxLen) (hm : xs.length ≤ maxLen) (h1 : Ss w ao ss) (h2 : Ios w bo xs) :
    Calls Tryz.prog 166 #[.agg #[.slice ao ss.length ca, .slice bo xs.length cb], .int .i64 h, .int .i64 a] w fun e w' => e = .returned (.int .i64 (askC ss xs h a)) ∧ Below w.heap.size w w' := by
  have HA := hide (Joins.below_alloc1 w (.cells #[.slice ao ss.length ca, .slice bo xs.length cb] 26))
  have H1 := hide (h1.below (unhide HA))
  have H2 := hide (h2.below (unhide HA))
  have HL := hide hl
  have HM := hide hm
  clear h1 h2 hl hm
  by_cases hc : hostC ss xs h = 0
  · have hb : (hostC ss xs h != 0) = false := by simp [hc]
    cases hh : inB a 0 63
    · have H := hide (askC_place hc hh)
      clear hc
      go_enter Tryz.func166, Tryz.ntmps166
      go_wp2_with fail
      refine (hostFault_any _ _ _ _ ss xs h _ (unhide HL) (unhide HM) (unhide H1) (unhide H2)).mono ?_
      rintro e w1 ⟨rfl, hb⟩
      have HB := hide (fr (unhide HA) hb)
      clear hb
      go_wp2_with (go_at_call 132; refine (placeOK_any _ _).mono ?_; rintro e w' ⟨rfl, rfl⟩)
      go_ret
      exact ⟨ret_int (unhide H).symm, unhide HB⟩
    · have H := hide (askC_ok hc hh)
      clear hc
      go_enter Tryz.func166, Tryz.ntmps166
      go_wp2_with fail
      refine (hostFault_any _ _ _ _ ss xs h _ (unhide HL) (unhide HM) (unhide H1) (unhide H2)).mono ?_
      rintro e w1 ⟨rfl, hb⟩
      have HB := hide (fr (unhide HA) hb)
      clear hb
      go_wp2_with (go_at_call 132; refine (placeOK_any _ _).mono ?_; rintro e w' ⟨rfl, rfl⟩)
      go_ret
      exact ⟨ret_int (unhide H).symm, unhide HB⟩
  · have H := hide (askC_host (a := a) hc)
    have hb : (hostC ss xs h != 0) = true := by simp [hc]
    clear hc
    go_enter Tryz.func166, Tryz.ntmps166
    go_wp2_with fail
    refine (hostFault_any _ _ _ _ ss xs h _ (unhide HL) (unhide HM) (unhide H1) (unhide H2)).mono ?_
    rintro e w1 ⟨rfl, hb⟩
    have HB := hide (fr (unhide HA) hb)
    clear hb
    go_wp2
    go_ret
    exact ⟨ret_int (unhide H).symm, unhide HB⟩

end Go.Proofs.YtefnapcegeojoaaGreatDoor

namespace Go.Proofs.YtefnapcegeojoaaGreatDoor
open Go.RowKit
set_option linter.unusedVariables false

def wrC (ss : List ByteArray) (xs : List Wr) (h a : Int) (d : ByteArray) : Int := if 65536 < d.size then 2 else if askC ss xs h a = 0 then (if 80 < d.size then 4 else if xs.length = 200 then 7 else 0) else askC ss xs h a
def wrS (ss : List ByteArray) (xs : List Wr) (h a : Int) (d : ByteArray) : List ByteArray := if 65536 < d.size then [] else if askC ss xs h a = 0 then ss else []
def wrX (ss : List ByteArray) (xs : List Wr) (h a : Int) (d : ByteArray) : List Wr := if 65536 < d.size then [] else if askC ss xs h a = 0 then (if 80 < d.size then xs else if xs.length = 200 then xs else xs ++ [⟨h, a, d⟩]) else []
theorem wr_long {ss : List ByteArray} {xs : List Wr} {h a : Int} {d : ByteArray} (h1 : 65536 < d.size) : wrS ss xs h a d = [] ∧ wrX ss xs h a d = [] ∧ wrC ss xs h a d = 2 := by simp [wrS, wrX, wrC, h1]
theorem wr_ask {ss : List ByteArray} {xs : List Wr} {h a : Int} {d : ByteArray} (h1 : ¬ 65536 < d.size) (h2 : askC ss xs h a ≠ 0) : wrS ss xs h a d = [] ∧ wrX ss xs h a d = [] ∧ wrC ss xs h a d = askC ss xs h a := by simp [wrS, wrX, wrC, h1, h2]
theorem wr_range {ss : List ByteArray} {xs : List Wr} {h a : Int} {d : ByteArray} (h1 : ¬ 65536 < d.size) (h2 : askC ss xs h a = 0) (h3 : 80 < d.size) : wrS ss xs h a d = ss ∧ wrX ss xs h a d = xs ∧ wrC ss xs h a d = 4 := by simp [wrS, wrX, wrC, h1, h2, h3]
theorem wr_full {ss : List ByteArray} {xs : List Wr} {h a : Int} {d : ByteArray} (h1 : ¬ 65536 < d.size) (h2 : askC ss xs h a = 0) (h3 : ¬ 80 < d.size) (h4 : xs.length = 200) : wrS ss xs h a d = ss ∧ wrX ss xs h a d = xs ∧ wrC ss xs h a d = 7 := by simp [wrS, wrX, wrC, h1, h2, h3, h4]
theorem wr_ok {ss : List ByteArray} {xs : List Wr} {h a : Int} {d : ByteArray} (h1 : ¬ 65536 < d.size) (h2 : askC ss xs h a = 0) (h3 : ¬ 80 < d.size) (h4 : ¬ xs.length = 200) : wrS ss xs h a d = ss ∧ wrX ss xs h a d = xs ++ [⟨h, a, d⟩] ∧ wrC ss xs h a d = 0 := by simp [wrS, wrX, wrC, h1, h2, h3, h4]
end Go.Proofs.YtefnapcegeojoaaGreatDoor

namespace Go.Proofs.YtefnapcegeojoaaGreatDoor
open Go.RowKit

theorem nums_append (a b : List Int) : strOfNums (a ++ b) = strOfNums a ++ strOfNums b := by
  apply ByteArray.ext
  simp [strOfNums]

def kindB (k : Int) : Bool := inB k 1 9
theorem kindB_in {k : Int} (h : kindB k = true) : 1 ≤ k ∧ k ≤ 9 := by simpa [kindB, inB] using h
def sumT (k : Int) (xs : List Int) : ByteArray := strOfNums [k, xs.length] ++ packS xs
def sumR (k : Int) (xs : List Int) : Int := sumS (sumT k xs)
def headR (k : Int) (xs : List Int) : List Int := [k, xs.length, sumR k xs, 0]
def sealS (k : Int) (xs : List Int) : ByteArray := strOfNums (headR k xs) ++ packS xs
theorem sumT_size (k : Int) (xs : List Int) : (sumT k xs).size = 2 + xs.length * 4 := by rw [sumT, ByteArray.size_append, strOfNums_size, packS_size]; rfl
theorem sealS_size (k : Int) (xs : List Int) : (sealS k xs).size = 4 + xs.length * 4 := by rw [sealS, ByteArray.size_append, strOfNums_size, packS_size]; rfl
theorem sumR_in (k : Int) (xs : List Int) : 0 ≤ sumR k xs ∧ sumR k xs ≤ 250 := sumTo_in _ _
theorem sealS_parts (k : Int) (xs : List Int) : strOfNums [k, (xs.length : Int)] ++ strOfNums [sumR k xs, 0] ++ packS xs = sealS k xs := by
  rw [← nums_append]; rfl

def sealC (k : Int) (xs : List Int) : Int := if listC xs = 0 then (if kindB k = true then 0 else 4) else listC xs
def sealT (k : Int) (xs : List Int) : ByteArray := if sealC k xs = 0 then sealS k xs else ⟨#[]⟩
theorem sealC_list {k : Int} {xs : List Int} (h : listC xs ≠ 0) : sealC k xs = listC xs := if_neg h
theorem sealC_kind {k : Int} {xs : List Int} (h : listC xs = 0) (hk : kindB k = false) : sealC k xs = 4 := by rw [sealC, if_pos h, if_neg (by simp [hk])]
theorem sealC_ok {k : Int} {xs : List Int} (h : listC xs = 0) (hk : kindB k = true) : sealC k xs = 0 := by rw [sealC, if_pos h, if_pos hk]
theorem sealT_ok {k : Int} {xs : List Int} (h : sealC k xs = 0) : sealT k xs = sealS k xs := if_pos h
theorem sealT_no {k : Int} {xs : List Int} (h : sealC k xs ≠ 0) : sealT k xs = ⟨#[]⟩ := if_neg h

end Go.Proofs.YtefnapcegeojoaaGreatDoor

namespace Go.Proofs.YtefnapcegeojoaaGreatDoor
open Go.RowKit
set_option linter.unusedVariables false

theorem byteAt_list (s : ByteArray) (k : Nat) : byteAt s k = ((s.data.toList[k]?.getD 0).toNat : Int) := by simp [byteAt]
theorem list_eq {a b : ByteArray} (h : a.data.toList = b.data.toList) : a = b := by
  cases a; cases b
  simpa using Array.toList_inj.1 h
theorem size_list (s : ByteArray) : s.data.toList.length = s.size := by simp
theorem bytes_eq {a b : ByteArray} (hs : a.size = b.size) (h : ∀ k, k < a.size → byteAt a k = byteAt b k) : a = b := by
  apply list_eq
  apply List.ext_getElem
  · rw [size_list, size_list, hs]
  · intro i h1 h2
    rw [size_list] at h1
    have := h i h1
    rw [byteAt_list, byteAt_list, List.getElem?_eq_getElem (by rw [size_list]; exact h1), List.getElem?_eq_getElem h2] at this
    simp only [Option.getD_some] at this
    exact UInt8.toNat_inj.1 (by omega)
theorem byteAt_nums {ns : List Int} {k : Nat} (h : k < ns.length) (h0 : 0 ≤ ns[k]) (h1 : ns[k] ≤ 255) : byteAt (strOfNums ns) k = ns[k] := by
  rw [byteAt_list, strOfNums_data, List.getElem?_map, List.getElem?_eq_getElem h]
  simp only [Option.map_some, Option.getD_some]
  have : ns[k].toNat < 256 := by omega
  rw [UInt8.toNat_ofNat_of_lt' (by simpa using this)]
  omega
theorem byteAt_left {a b : ByteArray} {k : Nat} (h : k < a.size) : byteAt (a ++ b) k = byteAt a k := by
  have e : (a ++ b).data.toList = a.data.toList ++ b.data.toList := by simp
  rw [byteAt_list, byteAt_list, e, List.getElem?_append_left (by rw [size_list]; exact h)]
theorem byteAt_right {a b : ByteArray} {k : Nat} (h : a.size ≤ k) : byteAt (a ++ b) k = byteAt b (k - a.size) := by
  have e : (a ++ b).data.toList = a.data.toList ++ b.data.toList := by simp
  rw [byteAt_list, byteAt_list, e, List.getElem?_append_right (by rw [size_list]; exact h), size_list]
theorem byteAt_cut {u : ByteArray} {a b j : Nat} (hb : b ≤ u.size) (h : a + j < b) : byteAt (u.extract a b) j = byteAt u (a + j) := by
  have e : (u.extract a b).data = u.data.extract a b := by simp
  unfold byteAt
  have : j < min b u.data.size - a := by have : b ≤ u.data.size := hb; omega
  rw [e, Array.getElem?_extract, if_pos this]

def bodyT (s : ByteArray) : ByteArray := s.extract 4 s.size
def headT (s : ByteArray) : ByteArray := s.extract 0 2
theorem bodyT_size (s : ByteArray) : (bodyT s).size = s.size - 4 := by simp [bodyT]
theorem headT_size {s : ByteArray} (h : 4 ≤ s.size) : (headT s).size = 2 := by simp [headT]; omega
theorem headT_eq {s : ByteArray} (h : 4 ≤ s.size) : headT s = strOfNums [byteAt s 0, byteAt s 1] := by
  have h0 := byteAt_in s 0
  have h1 := byteAt_in s 1
  apply bytes_eq
  · rw [headT_size h, strOfNums_size]; rfl
  · intro k hk
    rw [headT_size h] at hk
    rw [headT, byteAt_cut (by omega) (by omega)]
    rcases (show k = 0 ∨ k = 1 by omega) with rfl | rfl
    · rw [byteAt_nums (by simp) (by simp; omega) (by simp; omega)]; simp
    · rw [byteAt_nums (by simp) (by simp; omega) (by simp; omega)]; simp
theorem bodyT_byte {s : ByteArray} {k : Nat} (h : 4 + k < s.size) : byteAt (bodyT s) k = byteAt s (4 + k) := by rw [bodyT, byteAt_cut (Nat.le_refl _) h]

theorem four_num (s : ByteArray) (i j : Nat) (hj : j < 4) : byteN (numAt s i) j = byteAt s (i + j) := by
  have h0 := byteAt_in s i
  have h1 := byteAt_in s (i + 1)
  have h2 := byteAt_in s (i + 2)
  have h3 := byteAt_in s (i + 3)
  unfold byteN numAt
  rcases (show j = 0 ∨ j = 1 ∨ j = 2 ∨ j = 3 by omega) with rfl | rfl | rfl | rfl
  · simp only [Nat.add_zero]; omega
  · show (byteAt s i + byteAt s (i + 1) * 256 + byteAt s (i + 2) * 65536 + byteAt s (i + 3) * 16777216) / 256 % 256 = _; omega
  · show (byteAt s i + byteAt s (i + 1) * 256 + byteAt s (i + 2) * 65536 + byteAt s (i + 3) * 16777216) / 65536 % 256 = _; omega
  · show (byteAt s i + byteAt s (i + 1) * 256 + byteAt s (i + 2) * 65536 + byteAt s (i + 3) * 16777216) / 16777216 % 256 = _; omega
theorem packL_at : ∀ (xs : List Int) (i j : Nat) (hi : i < xs.length) (hj : j < 4), (packL xs)[i * 4 + j]? = some (byteN xs[i] j)
  | [], i, _, hi, _ => absurd hi (Nat.not_lt_zero _)
  | x :: xs, 0, j, _, hj => by
    show (four x ++ packL xs)[0 * 4 + j]? = _
    rw [List.getElem?_append_left (by rw [four, fourTo_length]; omega)]
    simp [four, fourTo, hj]
  | x :: xs, i + 1, j, hi, hj => by
    show (four x ++ packL xs)[(i + 1) * 4 + j]? = _
    rw [List.getElem?_append_right (by rw [four, fourTo_length]; omega), four, fourTo_length, show (i + 1) * 4 + j - 4 = i * 4 + j by omega]
    have := packL_at xs i j (by simpa using hi) hj
    simpa using this
theorem pack_un {s : ByteArray} (h4 : s.size % 4 = 0) : packS (unL s) = s := by
  apply bytes_eq
  · rw [packS_size, unL_length]; omega
  · intro k hk
    rw [packS_size, unL_length] at hk
    have hq : k / 4 < (unL s).length := by rw [unL_length]; omega
    have h1 := packL_at (unL s) (k / 4) (k % 4) hq (by omega)
    rw [show k / 4 * 4 + k % 4 = k by omega, unL_get hq, four_num s _ _ (by omega), show k / 4 * 4 + k % 4 = k by omega] at h1
    obtain ⟨hkl, h2⟩ := List.getElem?_eq_some_iff.1 h1
    have hb := byteAt_in s k
    rw [packS, byteAt_nums hkl (by rw [h2]; omega) (by rw [h2]; omega), h2]

def RecP (s : ByteArray) : Prop := 4 ≤ s.size ∧ kindB (byteAt s 0) = true ∧ byteAt s 3 = 0 ∧ ((bodyT s).size : Int) = byteAt s 1 * 4 ∧ byteAt s 2 = sumS (headT s ++ bodyT s) ∧ okU (bodyT s) = true
def recB (s : ByteArray) : Bool := decide (4 ≤ s.size) && (kindB (byteAt s 0) && (decide (byteAt s 3 = 0) && (decide (((bodyT s).size : Int) = byteAt s 1 * 4) && (decide (byteAt s 2 = sumS (headT s ++ bodyT s)) && okU (bodyT s)))))
theorem recB_iff {s : ByteArray} : recB s = true ↔ RecP s := by simp only [recB, RecP, Bool.and_eq_true, decide_eq_true_eq]
theorem recB_true {s : ByteArray} (h : RecP s) : recB s = true := recB_iff.2 h
theorem recB_false {s : ByteArray} (h : ¬ RecP s) : recB s = false := by
  rw [← Bool.not_eq_true]
  exact fun e => h (recB_iff.1 e)

theorem okU_parts {s : ByteArray} (h : okU s = true) : s.size % 4 = 0 ∧ s.size ≤ 64 ∧ intsB (unL s) = true := by
  by_cases h4 : s.size % 4 = 0
  · by_cases hl : 64 < s.size
    · rw [okU_long hl] at h; cases h
    · rw [okU_even h4] at h; exact ⟨h4, by omega, h⟩
  · rw [okU_rest h4] at h; cases h

theorem seal_iff {s : ByteArray} (hs : 4 ≤ s.size) (hk : kindB (byteAt s 0) = true) (hu : okU (bodyT s) = true) : sealS (byteAt s 0) (unL (bodyT s)) = s ↔ RecP s := by
  obtain ⟨h4, h64, hints⟩ := okU_parts hu
  have hp := pack_un h4
  have hl := unL_length (bodyT s)
  have hbs := bodyT_size s
  have hk' := kindB_in hk
  have hr := sumR_in (byteAt s 0) (unL (bodyT s))
  have hz := sealS_size (byteAt s 0) (unL (bodyT s))
  have b1 := byteAt_in s 1
  have hhs : (strOfNums (headR (byteAt s 0) (unL (bodyT s)))).size = 4 := strOfNums_size _
  have hhead : ∀ j (hj : j < 4), byteAt (sealS (byteAt s 0) (unL (bodyT s))) j = (headR (byteAt s 0) (unL (bodyT s)))[j]'(by simpa [headR] using hj) := by
    intro j hj
    rw [sealS, byteAt_left (by rw [hhs]; exact hj), byteAt_nums]
    · rcases (show j = 0 ∨ j = 1 ∨ j = 2 ∨ j = 3 by omega) with rfl | rfl | rfl | rfl <;> simp [headR] <;> omega
    · rcases (show j = 0 ∨ j = 1 ∨ j = 2 ∨ j = 3 by omega) with rfl | rfl | rfl | rfl <;> simp [headR] <;> omega
  have hrest : ∀ j, 4 ≤ j → byteAt (sealS (byteAt s 0) (unL (bodyT s))) j = byteAt (bodyT s) (j - 4) := by
    intro j hj
    rw [sealS, byteAt_right (by rw [hhs]; exact hj), hhs, hp]
  constructor
  · intro e
    have e1 := hhead 1 (by omega)
    have e2 := hhead 2 (by omega)
    have e3 := hhead 3 (by omega)
    rw [e] at e1 e2 e3
    simp only [headR, List.getElem_cons_succ, List.getElem_cons_zero] at e1 e2 e3
    refine ⟨hs, hk, e3, by omega, ?_, hu⟩
    rw [e2, sumR, sumT, hp, headT_eq hs, e1]
  · rintro ⟨_, _, h3, hcnt, hsum, _⟩
    have hlen : (((unL (bodyT s)).length : Nat) : Int) = byteAt s 1 := by omega
    have hsr : sumR (byteAt s 0) (unL (bodyT s)) = byteAt s 2 := by rw [sumR, sumT, hp, hlen, ← headT_eq hs, hsum]
    apply bytes_eq
    · rw [hz]; omega
    · intro k hk2
      rw [hz] at hk2
      by_cases hk4 : k < 4
      · rw [hhead k hk4]
        rcases (show k = 0 ∨ k = 1 ∨ k = 2 ∨ k = 3 by omega) with rfl | rfl | rfl | rfl
        · simp [headR]
        · simp [headR, hlen]
        · simp [headR, hsr]
        · simp [headR, h3]
      · rw [hrest k (by omega), bodyT_byte (by omega), show 4 + (k - 4) = k by omega]

end Go.Proofs.YtefnapcegeojoaaGreatDoor

namespace Go.Proofs.YtefnapcegeojoaaGreatDoor
open Go.RowKit
set_option linter.unusedVariables false

theorem infoM : (Tryz.prog.info? 3).map (fun i => (i.zero, i.size, i.bytes)) = some (some (.int .i64 0), 1, 8) := by kernel_rfl
theorem int_one (n : Int) : ∀ u ∈ [Value.int .i64 n], u.oneCell' = true := by
  intro u hu
  simp at hu
  subst hu
  rfl

def OwnN (w : World) (B : Nat) (v : Value) (xs : List Int) : Prop := ∃ qo qa, v = .slice qo xs.length qa ∧ OwnR w B 3 1 (.slice qo xs.length qa) xs.length (intV xs)
theorem OwnN.nil (w : World) (B : Nat) (ao : Option Addr) : OwnN w B (.slice ao 0 0) [] := ⟨ao, 0, rfl, .inl ⟨rfl, rfl, ao, rfl⟩⟩

theorem ret_nb {v u : Value} {a b : Bool} (h : v = u) (k : a = b) : Ending.returned (.tuple #[v, .bool a]) = .returned (.tuple #[u, .bool b]) := by rw [h, k]
end Go.Proofs.YtefnapcegeojoaaGreatDoor

namespace Go.Proofs.YtefnapcegeojoaaGreatDoor
open Go.RowKit
set_option linter.unusedVariables false
set_option maxRecDepth 100000

set_option maxHeartbeats 1600000 in
theorem l02Unpack_any (s : ByteArray) (w : World) (hs : s.size ≤ 65536) : Calls Tryz.prog 147 #[.string s] w fun e w' => ∃ v, e = .returned (.tuple #[v, .bool (okU s)]) ∧ OwnN w' w.heap.size v (listU s) ∧ Below w.heap.size w w' := by
  obtain ⟨j0, hj, hy0, hy1, hy2⟩ := info_parts infoM
  by_cases h4 : s.size % 4 = 0
  · have hb4 : ((s.size : Int) % 4 != 0) = false := by simp; omega
    have HU : Hid (listU s = unL s) := hide (if_pos h4)
    have HOK := hide (okU_even h4)
    go_enter Tryz.func147, Tryz.ntmps147
    go_wp2
    go_loopw [4, 5] (fun o i wr => ∃ (k : Nat) (qo : Option Addr) (qa : Nat), k ≤ s.size / 4 ∧ i = .int .i64 ((k : Int) * 4) ∧ o = .slice qo k qa ∧ Hid (OwnR wr w.heap.size 3 1 (.slice qo k qa) k (intV ((unL s).take k))) ∧ Hid (Below w.heap.size w wr)) (fun _ i _ => s.size - (intOf i).toNat)
    case atStart => exact ⟨0, _, _, Nat.zero_le _, rfl, rfl, hide (.inl ⟨rfl, rfl, _, rfl⟩), hide (by first | exact Below.refl _ _ | exact Joins.below_alloc1 _ _)⟩
    case round =>
      obtain ⟨k, qo, qa, hk, rfl, rfl, HO, HB⟩ := hrel
      by_cases hlt : k < s.size / 4
      · have hlt' : (k : Int) * 4 < (s.size : Int) := by omega
        go_wp2
        go_loopw [6, 7] (fun n j wq => ∃ m : Nat, m ≤ 4 ∧ j = .int .i64 (3 - (m : Int)) ∧ n = .int .i64 (hi s (k * 4) m) ∧ Hid (OwnR wq w.heap.size 3 1 (.slice qo k qa) k (intV ((unL s).take k))) ∧ Hid (Below w.heap.size w wq)) (fun _ j _ => (intOf j + 1).toNat)
        case atStart => exact ⟨0, by omega, rfl, rfl, HO, HB⟩
        case round =>
          clear HO HB
          obtain ⟨m, hm, rfl, rfl, HO, HB⟩ := hrel
          by_cases hm3 : m ≤ 3
          · obtain ⟨hh0, hh1⟩ := hi_in s (k * 4) m hm3
            have HS := hide (hi_step s (k * 4) m hm3 (by omega))
            have HW := hide (wrap_byte s[k * 4 + (3 - m)])
            go_wp2
            go_roundw
            case rel => exact ⟨m + 1, by omega, by go_num, by rw [← unhide HS, unhide HW], HO, HB⟩
            case measure => simp [intOf]; omega
          · have HE : Hid (hi s (k * 4) m = numAt s (k * 4)) := hide (by rw [show m = 4 by omega, hi_four])
            have HOA := hide ((unhide HO).below (Joins.below_alloc1 _ (.cells #[.int .i64 (hi s (k * 4) m)] 3)))
            have HBA := hide (fr (unhide HB) (Joins.below_alloc1 _ (.cells #[.int .i64 (hi s (k * 4) m)] 3)))
            have HSZ := hide (unhide HB).size
            go_wp2_with (at_builtin; refine wpList_append_one rfl _ _ 77 rfl w.heap.size 3 j0 (.int .i64 0) 1 8 Tryz.underlying77 hj hy0 hy1 hy2 rfl (by omega) qo k qa (intV ((unL s).take k)) rfl (unhide HOA) (by have := unhide HSZ; simp; omega) ⟨wr.heap.size, 0, none⟩ _ [.int .i64 (hi s (k * 4) m)] rfl rfl (byte_news wr _ _) (int_one _) (by unfold maxLen; omega) (by omega) ?_; intro g2 cap2 wA hoA hkA; have HSF := hide (And.intro hoA (keep_below (unhide HBA) (unhide HOA) (Nat.le_refl _) hkA)); clear hoA hkA)
            go_roundw
            case rel => exact ⟨k + 1, _, _, by omega, by go_num, rfl, hide (.inr ⟨by omega, by rw [unL_succ hlt, intV_snoc, ← unhide HE]; exact (unhide HSF).1⟩), hide (unhide HSF).2⟩
            case measure => simp [intOf]; omega
      · have hke : k = (unL s).length := by rw [unL_length]; omega
        have HT : Hid ((unL s).take k = unL s) := hide (List.take_of_length_le (by omega))
        have HON : Hid (OwnR wr w.heap.size 3 1 (.slice qo (unL s).length qa) (unL s).length (intV (unL s))) := hide (by have := unhide HO; rw [unhide HT, hke] at this; exact this)
        have HL := hide (unL_length s)
        have hlen : (unL s).length ≤ 1048576 := by rw [unhide HL]; omega
        subst hke
        go_wp2_with (go_at_call 161; refine (l02Ints_any _ _ (unL s) _ hlen (ownRN (unhide HON))).mono ?_; rintro e w' ⟨rfl, rfl⟩)
        go_ret2
        exact ⟨.slice qo (unL s).length qa, ret_nb rfl (unhide HOK).symm, by rw [unhide HU]; exact ⟨qo, qa, rfl, unhide HON⟩, unhide HB⟩
  · have hb4 : ((s.size : Int) % 4 != 0) = true := by simp; omega
    have HU : Hid (listU s = []) := hide (if_neg h4)
    have HOK := hide (okU_rest h4)
    go_enter Tryz.func147, Tryz.ntmps147
    go_wp2
    go_ret2
    exact ⟨.slice (some ⟨w.heap.size, 0, none⟩) 0 0, ret_nb rfl (unhide HOK).symm, by rw [unhide HU]; exact OwnN.nil _ _ _, by first | exact Below.refl _ _ | exact Joins.below_alloc1 _ _⟩

end Go.Proofs.YtefnapcegeojoaaGreatDoor

namespace Go.Proofs.YtefnapcegeojoaaGreatDoor
open Go.RowKit
set_option linter.unusedVariables false
set_option maxRecDepth 100000

theorem l02Sum_any (s : ByteArray) (w : World) (hs : s.size ≤ 1048576) :
    Calls Tryz.prog 128 #[.string s] w fun e w' => e = .returned (.int .i64 (sumS s)) ∧ w' = w := by
  go_enter Tryz.func128, Tryz.ntmps128
  go_wp2
  go_loop [3, 4] (fun n i => ∃ k : Nat, k ≤ s.size ∧ i = .int .i64 k ∧ n = .int .i64 (sumTo s k)) (fun _ i => s.size - (intOf i).toNat)
  case atStart => exact ⟨0, Nat.zero_le _, rfl, rfl⟩
  case round =>
    obtain ⟨k, hk, rfl, rfl⟩ := hrel
    by_cases hlt : k < s.size
    · have HN := hide (sumTo_walk hlt (by omega))
      go_wp2
      go_round
      case rel => exact ⟨k + 1, by omega, by go_num, by rw [← unhide HN]⟩
      case measure => simp [intOf]; omega
    · go_wp2
      go_ret
      exact ⟨ret_int (by rw [sumS, show k = s.size by omega]), rfl⟩

theorem sumOf_impl (s : ByteArray) (w : World) (hs : s.size ≤ 1048576) :
    Calls Tryz.prog 92 #[.string s] w fun e w' => e = .returned (.int .i64 (sumC s)) ∧ w' = w := by
  by_cases h1 : 65536 < s.size
  · have HF := hide (sumC_long h1)
    go_enter Tryz.func92, Tryz.ntmps92
    go_wp2
    go_ret
    exact ⟨ret_int (unhide HF).symm, rfl⟩
  have HF := hide (sumC_short (s := s) (by omega))
  go_enter Tryz.func92, Tryz.ntmps92
  go_wp2
  go_loop [3, 4] (fun n i => ∃ k : Nat, k ≤ s.size ∧ i = .int .i64 k ∧ n = .int .i64 (sumTo s k)) (fun _ i => s.size - (intOf i).toNat)
  case atStart => exact ⟨0, Nat.zero_le _, rfl, rfl⟩
  case round =>
    obtain ⟨k, hk, rfl, rfl⟩ := hrel
    by_cases hlt : k < s.size
    · have HN := hide (sumTo_walk hlt (by omega))
      go_wp2
      go_round
      case rel => exact ⟨k + 1, by omega, by go_num, by rw [← unhide HN]⟩
      case measure => simp [intOf]; omega
    · go_wp2
      go_ret
      exact ⟨ret_int (by rw [unhide HF, sumS, show k = s.size by omega]), rfl⟩

end Go.Proofs.YtefnapcegeojoaaGreatDoor

namespace Go.Proofs.YtefnapcegeojoaaGreatDoor
open Go.RowKit
set_option linter.unusedVariables false

theorem infoB : (Tryz.prog.info? 5).map (fun i => (i.zero, i.size, i.bytes)) = some (some (.int .u8 0), 1, 1) := by kernel_rfl

theorem ret_str {a b : ByteArray} (h : a = b) : Ending.returned (.string a) = .returned (.string b) := by rw [h]

set_option maxRecDepth 100000 in
set_option maxHeartbeats 1600000 in
theorem l02Pack_any (ao : Option Addr) (cap : Nat) (xs : List Int) (w : World) (hl : xs.length ≤ 4096) (hn : ∀ j (h : j < xs.length), 0 ≤ xs[j] ∧ xs[j] ≤ 2147483647) (hc : Is w ao xs) :
    Calls Tryz.prog 127 #[.slice ao xs.length cap] w fun e w' => e = .returned (.string (packS xs)) ∧ Below w.heap.size w w' := by
  have HC := hide hc
  have HN := hide hn
  clear hc hn
  obtain ⟨j0, hj, hy0, hy1, hy2⟩ := info_parts infoB
  go_enter Tryz.func127, Tryz.ntmps127
  go_wp2
  go_loopw [3, 4] (fun o i wr => ∃ (k : Nat) (qo : Option Addr) (qa : Nat), k ≤ xs.length ∧ i = .int .i64 k ∧ o = .slice qo (k * 4) qa ∧ Hid (OwnR wr w.heap.size 5 1 (.slice qo (k * 4) qa) (k * 4) (byteV (packL (xs.take k)))) ∧ Hid (Below w.heap.size w wr)) (fun _ i _ => xs.length - (intOf i).toNat)
  case atStart => exact ⟨0, _, _, Nat.zero_le _, rfl, rfl, hide (.inl ⟨rfl, rfl, _, rfl⟩), hide (by first | exact Below.refl _ _ | exact Joins.below_alloc1 _ _)⟩
  case round =>
    obtain ⟨k, qo, qa, hk, rfl, rfl, HO, HB⟩ := hrel
    by_cases hlt : k < xs.length
    · obtain ⟨b, off, rfl, hc⟩ := (unhide HC).below (unhide HB) k hlt
      obtain ⟨h0, h1⟩ := unhide HN k hlt
      go_wp2
      go_loopw [3, 5, 6] (fun o m i wq => ∃ (j : Nat) (qo : Option Addr) (qa : Nat), j ≤ 4 ∧ i = .int .i64 j ∧ m = .int .i64 (shN xs[k] j) ∧ o = .slice qo (k * 4 + j) qa ∧ Hid (OwnR wq w.heap.size 5 1 (.slice qo (k * 4 + j) qa) (k * 4 + j) (byteV (packL (xs.take k) ++ fourTo xs[k] j))) ∧ Hid (Below w.heap.size w wq)) (fun _ _ i _ => 4 - (intOf i).toNat)
      case atStart => exact ⟨0, qo, qa, by omega, rfl, by simp [shN], rfl, hide (by simpa [fourTo] using unhide HO), HB⟩
      case round =>
        clear HO HB
        obtain ⟨j, qo, qa, hj4, rfl, rfl, rfl, HO, HB⟩ := hrel
        obtain ⟨hs0, hs1⟩ := shN_in h0 h1 j
        by_cases hj4 : j < 4
        · have HOA := hide ((unhide HO).below (Joins.below_alloc1 _ (.cells #[.int .u8 (shN xs[k] j % 256)] 5)))
          have HBA := hide (fr (unhide HB) (Joins.below_alloc1 _ (.cells #[.int .u8 (shN xs[k] j % 256)] 5)))
          have HSZ := hide (unhide HB).size
          have HSH := hide (shN_succ xs[k] j)
          go_wp2_with (at_builtin; refine wpList_append_one rfl _ _ 22 rfl w.heap.size 5 j0 (.int .u8 0) 1 1 Tryz.underlying22 hj hy0 hy1 hy2 rfl (by omega) qo (k * 4 + j) qa (byteV (packL (xs.take k) ++ fourTo xs[k] j)) rfl (unhide HOA) (by have := unhide HSZ; simp; omega) ⟨wr.heap.size, 0, none⟩ _ [.int .u8 (shN xs[k] j % 256)] rfl rfl (byte_news wr _ _) (byte_one _) (by unfold maxLen; omega) (by omega) ?_; intro g2 cap2 wA hoA hkA; have HSF := hide (And.intro hoA (keep_below (unhide HBA) (unhide HOA) (Nat.le_refl _) hkA)); clear hoA hkA)
          go_roundw
          case rel => exact ⟨j + 1, _, _, by omega, by go_num, by rw [unhide HSH], rfl, hide (.inr ⟨by omega, by rw [fourTo_succ, ← List.append_assoc, byteV_snoc, ← shN_byte]; exact (unhide HSF).1⟩), hide (unhide HSF).2⟩
          case measure => simp [intOf]; omega
        · have HE : Hid (j = 4) := hide (by omega)
          go_wp2
          go_roundw
          case rel => exact ⟨k + 1, qo, qa, by omega, by go_num, by rw [unhide HE, show (k + 1) * 4 = k * 4 + 4 by omega], hide (by have := unhide HO; rw [unhide HE] at this; rw [packL_succ hlt, show (k + 1) * 4 = k * 4 + 4 by omega]; exact this), HB⟩
          case measure => simp [intOf]; omega
    · have HE : Hid (xs.take k = xs) := hide (List.take_of_length_le (by omega))
      have hcv := convert_own (P := Tryz.prog) Tryz.underlying22 Tryz.underlying5 Tryz.underlying9 (unhide HO)
      go_wp2
      go_ret
      exact ⟨ret_str (by rw [unhide HE]; rfl), unhide HB⟩

end Go.Proofs.YtefnapcegeojoaaGreatDoor

namespace Go.Proofs.YtefnapcegeojoaaGreatDoor
open Go.RowKit
set_option linter.unusedVariables false
set_option maxRecDepth 100000

theorem l02Kind_any (n : Int) (w : World) : Calls Tryz.prog 146 #[.int .i64 n] w fun e w' => e = .returned (.bool (kindB n)) ∧ w' = w := by
  go_enter Tryz.func146, Tryz.ntmps146
  go_wp2_with (go_at_call 40; refine (l01In_num _ _ _ _).mono ?_; rintro e w' ⟨rfl, rfl⟩)
  go_ret
  exact ⟨rfl, rfl⟩
theorem lit2 (W : World) (g : Nat) (a b : Int) (h : W.heap.size = g) : (convert 22 9 (.slice (some ⟨g, 0, none⟩) 2 2)).run Tryz.prog (W.alloc (.cells #[.int .u8 a, .int .u8 b] 5)) = .ok (.string (strOfNums [a, b])) (W.alloc (.cells #[.int .u8 a, .int .u8 b] 5)) := by
  subst h
  refine run_convert_bytes_arg _ 22 5 Tryz.underlying22 Tryz.underlying5 W.heap.size 0 2 2 [a, b] rfl ?_ 9 Tryz.underlying9
  intro i hi
  rcases (show i = 0 ∨ i = 1 by omega) with rfl | rfl <;> simp [go_sem, List.getD]

theorem sum_spec (k : Int) (xs : List Int) (w : World) (hl : xs.length ≤ 16) : Calls Tryz.prog 128 #[.string (strOfNums [k, (xs.length : Int)] ++ packS xs)] w fun e w' => e = .returned (.int .i64 (sumR k xs)) ∧ w' = w :=
  l02Sum_any (sumT k xs) w (by rw [sumT_size]; omega)
set_option maxHeartbeats 1600000 in
theorem l02Seal_any (k : Int) (ao : Option Addr) (cap : Nat) (xs : List Int) (w : World) (hk : 1 ≤ k ∧ k ≤ 9) (hl : xs.length ≤ 16) (hn : ∀ j (h : j < xs.length), 0 ≤ xs[j] ∧ xs[j] ≤ 2147483647) (hc : Is w ao xs) :
    Calls Tryz.prog 99 #[.int .i64 k, .slice ao xs.length cap] w fun e w' => e = .returned (.string (sealS k xs)) ∧ Below w.heap.size w w' := by
  have HC := hide hc
  have HN := hide hn
  clear hc hn
  have hp := packS_size xs
  have hs2 : (strOfNums [k, (xs.length : Int)]).size = 2 := strOfNums_size _
  go_enter Tryz.func99, Tryz.ntmps99
  go_wp2_with fail
  refine (l02Pack_any _ _ xs _ (by omega) (unhide HN) (unhide HC)).mono ?_
  rintro e w1 ⟨rfl, hb1⟩
  have HB1 := hide hb1
  have hc1 := lit2 w1 w1.heap.size k xs.length rfl
  clear hb1
  go_wp2_with fail
  refine (sum_spec k xs _ hl).mono ?_
  rintro e w2 ⟨rfl, rfl⟩
  obtain ⟨hr0, hr1⟩ := sumR_in k xs
  have hc2 := lit2 (w1.alloc (.cells #[.int .u8 k, .int .u8 xs.length] 5)) (w1.heap.size + 1) (sumR k xs) 0 (by simp)
  have hs3 : (strOfNums [sumR k xs, 0]).size = 2 := strOfNums_size _
  have hs4 : (strOfNums [k, (xs.length : Int)] ++ strOfNums [sumR k xs, 0]).size = 4 := by rw [ByteArray.size_append, hs2, hs3]
  have HE := hide (sealS_parts k xs)
  go_wp2
  go_ret
  exact ⟨ret_str (unhide HE), fr (unhide HB1) (Joins.below_alloc2 _ _ _)⟩

end Go.Proofs.YtefnapcegeojoaaGreatDoor

namespace Go.Proofs.YtefnapcegeojoaaGreatDoor
open Go.RowKit
set_option linter.unusedVariables false
set_option maxRecDepth 100000

def openB (s : ByteArray) (k : Int) : Bool := recB s && decide (byteAt s 0 = k)
def openL (s : ByteArray) (k : Int) : List Int := if openB s k = true then unL (bodyT s) else []
theorem openB_no {s : ByteArray} {k : Int} (h : ¬ RecP s) : openB s k = false := by rw [openB, recB_false h]; rfl
theorem openB_kind {s : ByteArray} {k : Int} (h : byteAt s 0 ≠ k) : openB s k = false := by rw [openB, decide_eq_false h]; simp
theorem openB_yes {s : ByteArray} {k : Int} (h : RecP s) (hk : byteAt s 0 = k) : openB s k = true := by rw [openB, recB_true h, decide_eq_true hk]; rfl
theorem openL_no {s : ByteArray} {k : Int} (h : openB s k = false) : openL s k = [] := if_neg (by simp [h])
theorem openL_yes {s : ByteArray} {k : Int} (h : openB s k = true) : openL s k = unL (bodyT s) := if_pos h

set_option maxHeartbeats 1600000 in
theorem l02Open_any (s : ByteArray) (k : Int) (w : World) (hs : s.size ≤ 65536) : Calls Tryz.prog 126 #[.string s, .int .i64 k] w fun e w' => ∃ v, e = .returned (.tuple #[v, .bool (openB s k)]) ∧ OwnN w' w.heap.size v (openL s k) ∧ Below w.heap.size w w' := by
  by_cases h4 : s.size < 4
  · have HB0 := hide (openB_no (s := s) (k := k) (fun h => by have := h.1; omega))
    have HL0 := hide (openL_no (unhide HB0))
    have h4i : (s.size : Int) < 4 := by omega
    go_enter Tryz.func126, Tryz.ntmps126
    go_wp2
    go_ret2
    exact ⟨.slice (some ⟨w.heap.size, 0, none⟩) 0 0, ret_nb rfl (unhide HB0).symm, by rw [unhide HL0]; exact OwnN.nil _ _ _, Joins.below_alloc1 _ _⟩
  have h4' : 4 ≤ s.size := by omega
  have h4i : ¬ (s.size : Int) < 4 := by omega
  have h0 : 0 < s.size := by omega
  have HG := hide (byteAt_get (s := s) (k := 0) h0)
  have hwb := wrap_byte s[0]
  by_cases hk : byteAt s 0 = k
  · have hkb : ((s[0].toNat : Int) != k) = false := by rw [← unhide HG, hk]; simp
    have HK := hide hk
    clear hk
    cases hkk : kindB k with
    | true =>
      have hkin := kindB_in hkk
      cases hok : okU (bodyT s) with
      | true =>
        have HP := hide (okU_parts hok)
        have HI := hide (seal_iff h4' (by rw [unhide HK]; exact hkk) hok)
        have HLU : Hid (listU (bodyT s) = unL (bodyT s)) := hide (if_pos (unhide HP).1)
        have HIN := hide (intsB_parts (unhide HP).2.2)
        have hbs : (bodyT s).size ≤ 65536 := by rw [bodyT_size]; omega
        by_cases hr : RecP s
        · have HB0 := hide (openB_yes hr (unhide HK))
          have HL0 := hide (openL_yes (unhide HB0))
          have hse : ((sealS k (unL (bodyT s))).toList == s.toList) = true := by
            have := (unhide HI).2 hr
            rw [unhide HK] at this
            rw [this]; simp
          clear hr
          go_enter Tryz.func126, Tryz.ntmps126
          go_wp2_with (go_at_call 146; refine (l02Kind_any _ _).mono ?_; rintro e w' ⟨rfl, hw⟩; replace hw := hw.symm; subst hw)
          refine (l02Unpack_any (bodyT s) _ hbs).mono ?_
          rintro e w1 ⟨v, rfl, ho, hb⟩
          rw [unhide HLU] at ho
          obtain ⟨qo, qa, rfl, ho⟩ := ho
          have HO := hide ho
          have HB := hide hb
          clear ho hb
          go_wp2_with (go_at_call 99; refine (l02Seal_any k _ _ (unL (bodyT s)) _ hkin (unhide HIN).2 (unhide HIN).1 (ownRN (unhide HO))).mono ?_; rintro e w2 ⟨rfl, hb2⟩; have HB2 := hide (fr (unhide HB) hb2); have HO2 := hide ((unhide HO).below hb2); clear hb2)
          go_ret2
          exact ⟨.slice qo (unL (bodyT s)).length qa, ret_nb rfl (unhide HB0).symm, by rw [unhide HL0]; exact ⟨qo, qa, rfl, unhide HO2⟩, unhide HB2⟩
        · have HB0 := hide (openB_no (k := k) hr)
          have HL0 := hide (openL_no (unhide HB0))
          have hse : ((sealS k (unL (bodyT s))).toList == s.toList) = false := str_beq_false (fun e => hr ((unhide HI).1 (by rw [unhide HK]; exact e)))
          clear hr
          go_enter Tryz.func126, Tryz.ntmps126
          go_wp2_with (go_at_call 146; refine (l02Kind_any _ _).mono ?_; rintro e w' ⟨rfl, hw⟩; replace hw := hw.symm; subst hw)
          refine (l02Unpack_any (bodyT s) _ hbs).mono ?_
          rintro e w1 ⟨v, rfl, ho, hb⟩
          rw [unhide HLU] at ho
          obtain ⟨qo, qa, rfl, ho⟩ := ho
          have HO := hide ho
          have HB := hide hb
          clear ho hb
          go_wp2_with (go_at_call 99; refine (l02Seal_any k _ _ (unL (bodyT s)) _ hkin (unhide HIN).2 (unhide HIN).1 (ownRN (unhide HO))).mono ?_; rintro e w2 ⟨rfl, hb2⟩; have HB2 := hide (fr (unhide HB) hb2); clear hb2)
          go_ret2
          exact ⟨.slice (some ⟨w2.heap.size, 0, none⟩) 0 0, ret_nb rfl (unhide HB0).symm, by rw [unhide HL0]; exact OwnN.nil _ _ _, fr (unhide HB2) (Joins.below_alloc1 _ _)⟩
      | false =>
        have HB0 := hide (openB_no (s := s) (k := k) (fun h => by have := h.2.2.2.2.2; rw [hok] at this; cases this))
        have HL0 := hide (openL_no (unhide HB0))
        have hbs : (bodyT s).size ≤ 65536 := by rw [bodyT_size]; omega
        go_enter Tryz.func126, Tryz.ntmps126
        go_wp2_with (go_at_call 146; refine (l02Kind_any _ _).mono ?_; rintro e w' ⟨rfl, hw⟩; replace hw := hw.symm; subst hw)
        refine (l02Unpack_any (bodyT s) _ hbs).mono ?_
        rintro e w1 ⟨v, rfl, ho, hb⟩
        have HB := hide hb
        clear ho hb
        go_wp2
        go_ret2
        exact ⟨.slice (some ⟨w1.heap.size, 0, none⟩) 0 0, ret_nb rfl (unhide HB0).symm, by rw [unhide HL0]; exact OwnN.nil _ _ _, fr (unhide HB) (Joins.below_alloc1 _ _)⟩
    | false =>
      have HB0 := hide (openB_no (s := s) (k := k) (fun h => by have := h.2.1; rw [unhide HK, hkk] at this; cases this))
      have HL0 := hide (openL_no (unhide HB0))
      go_enter Tryz.func126, Tryz.ntmps126
      go_wp2_with (go_at_call 146; refine (l02Kind_any _ _).mono ?_; rintro e w' ⟨rfl, hw⟩; replace hw := hw.symm; subst hw)
      go_ret2
      exact ⟨.slice (some ⟨w.heap.size, 0, none⟩) 0 0, ret_nb rfl (unhide HB0).symm, by rw [unhide HL0]; exact OwnN.nil _ _ _, Joins.below_alloc1 _ _⟩
  · have hkb : ((s[0].toNat : Int) != k) = true := by rw [← unhide HG]; simp [hk]
    have HB0 := hide (openB_kind hk)
    have HL0 := hide (openL_no (unhide HB0))
    clear hk
    go_enter Tryz.func126, Tryz.ntmps126
    go_wp2
    go_ret2
    exact ⟨.slice (some ⟨w.heap.size, 0, none⟩) 0 0, ret_nb rfl (unhide HB0).symm, by rw [unhide HL0]; exact OwnN.nil _ _ _, Joins.below_alloc1 _ _⟩

end Go.Proofs.YtefnapcegeojoaaGreatDoor

namespace Go.Proofs.YtefnapcegeojoaaGreatDoor
open Go.RowKit
set_option linter.unusedVariables false
set_option maxRecDepth 100000

end Go.Proofs.YtefnapcegeojoaaGreatDoor
