import Derived.Test.YtbmkdbccdnbbjaaGreatDoorRows
import Derived.Test.YtbmkdbccdnbbjaaGreatDoorPart1
import Derived.WalkKit
import Derived.WalkSpells
import Derived.Laws.CopyRow
import Derived.Laws.CopyOwn
import Derived.Test.YtbmkdbccdnbbjaaGreatDoorPart2
import Derived.Deep.RegionWith
import Derived.Outline
import Derived.Deep.RegionLawGrows
import Derived.Deep.RegionHeld3
import Derived.Deep.AppendLies

namespace Go.Proofs.YtbmkdbccdnbbjaaGreatDoor
open Go.RowKit
set_option linter.unusedVariables false
set_option maxRecDepth 100000

section
variable {P : Program}

theorem run_copy_whole (w : World) (dT sT ty elem : TypeId) (size g n dCap : Nat) (a : Addr) (sCap : Nat) (cur : Array Value) (t : TypeId) (cs : List Value)
    (hu : P.underlying dT = some (.slice elem)) (hs : (P.info? elem).map (·.size) = some size)
    (hg : w.heap[g]? = some (.cells cur t (0, 0))) (hl : n * size = cs.length)
    (hsrc : ∀ j v, cs[j]? = some v → w.cell? (a.add j) = some v) (hfit : cs.length ≤ cur.size) (h1 : ∀ v ∈ cs, v.oneCell' = true) :
    (Builtin.copy_ #[dT, sT] ty #[.slice (some ⟨g, 0, none⟩) n dCap, .slice (some a) n sCap]).run P w = .ok (goInt n) (w.setRow g (cs ++ cur.toList.drop cs.length).toArray) := by
  have hld := run_loadCells_list (P := P) w a cs hsrc
  have hst := run_storeCells_at P g 0 t cs 0 cur w hg (by simpa using hfit) h1
  cases hq : P.info? elem with
  | none => simp [hq] at hs
  | some i =>
    have hi : i.size = size := by simpa [hq] using hs
    simp [Builtin.copy_, run_underlying hu, Builtin.lenOf, Builtin.firstCells, sizeOf, typeInfo, hq, hi, hl, hld, hst]

theorem wpList_copy_whole {w : World} {ops : Array Oper} {rest : List Oper} {o : Oper} {a : Act} {Q : Exit → Act → World → Prop} (hgd : o.guard = none) (d s : Operand) (dT sT : TypeId)
    (ho : o.op = .call { callee := .builtin .copy, args := #[d, s], argTypes := #[dT, sT] }) (elem : TypeId) (size : Nat) (hu : P.underlying dT = some (.slice elem)) (hsz : (P.info? elem).map (·.size) = some size)
    (B g n : Nat) (ad : Addr) (sCap : Nat) (hd : a.eval d = .slice (some ⟨g, 0, none⟩) n n) (hs : a.eval s = .slice (some ad) n sCap)
    (xs : List Value) (hown : w.ownsRow B elem size (.slice (some ⟨g, 0, none⟩) n n) n xs) (cs : List Value) (hn : cs.length = n * size)
    (hsrc : ∀ j v, cs[j]? = some v → w.cell? (ad.add j) = some v) (h1 : ∀ v ∈ cs, v.oneCell' = true)
    (h : ∀ w', w'.ownsRow B elem size (.slice (some ⟨g, 0, none⟩) n n) n cs → w.grownBy w' (some g) → wpList P ops Q rest (a.put o.dst (goInt n)) w') : wpList P ops Q (o :: rest) a w := by
  refine wpList_plain hgd fun K hK => ?_
  rcases hown.2 with ⟨e, _⟩ | ⟨g', cap', cur, e, hB, hg, hnc, hcm, hcs, ht⟩
  · simp at e
  · simp only [Value.slice.injEq, Option.some.injEq, Addr.mk.injEq, and_true, true_and] at e
    obtain ⟨rfl, rfl⟩ := e
    have hrun := run_copy_whole (P := P) w dT sT o.type elem size g n n ad sCap cur elem cs hu hsz hg hn.symm hsrc (by omega) h1
    unfold Oper.wp
    simp [execOp, ho, resolve, invoke, builtin, hd, hs, hrun, Result.andThen]
    refine hK _ _ (h _ ⟨hn, .inr ⟨g, n, _, rfl, hB, setRow_heap w g _ _ elem _ hg, hnc, hcm, ?_, ?_⟩⟩ ⟨rfl, rfl, rfl, by simp, fun k _ hk => setRow_other w g k _ (fun e => hk (by simp [e]))⟩)
    · simp; omega
    · rw [← hn]; simp
end

theorem infoS : (Tryz.prog.info? 9).map (fun i => (i.zero, i.size, i.bytes)) = some (some (.string ⟨#[]⟩), 1, 16) := by kernel_rfl
theorem infoW : (Tryz.prog.info? 127).map (fun i => (i.zero, i.size, i.bytes)) = some (some (.agg #[.int .i64 0, .int .i64 0, .string ⟨#[]⟩]), 3, 32) := by kernel_rfl
theorem sizeS : (Tryz.prog.info? 9).map (·.size) = some 1 := by kernel_rfl
theorem sizeW : (Tryz.prog.info? 127).map (·.size) = some 3 := by kernel_rfl

theorem strV_one (ss : List ByteArray) : ∀ v ∈ strV ss, v.oneCell' = true := by
  intro v hv
  simp only [strV, List.mem_map] at hv
  obtain ⟨s, _, rfl⟩ := hv
  rfl
theorem ioV_one (xs : List Wr) : ∀ v ∈ ioV xs, v.oneCell' = true := by
  intro v hv
  simp only [ioV, List.mem_flatMap] at hv
  obtain ⟨x, _, hv⟩ := hv
  simp at hv
  rcases hv with rfl | rfl | rfl <;> rfl
theorem Ss.at {w : World} {ao : Option Addr} {ss : List ByteArray} (h : Ss w ao ss) (hp : 0 < ss.length) : ∃ b off, ao = some ⟨b, off, none⟩ ∧ ∀ j v, (strV ss)[j]? = some v → w.cell? (Addr.add ⟨b, off, none⟩ j) = some v := by
  obtain ⟨b, off, rfl, _⟩ := h 0 hp
  refine ⟨b, off, rfl, fun j v hv => ?_⟩
  have hj : j < ss.length := by have := (List.getElem?_eq_some_iff.1 hv).1; rwa [strV_length] at this
  obtain ⟨b', off', e, hc, _⟩ := h j hj
  simp only [Option.some.injEq, Addr.mk.injEq, and_true] at e
  obtain ⟨rfl, rfl⟩ := e
  rw [strV_get hj] at hv
  cases hv
  rw [show Addr.add ⟨b, off, none⟩ j = ⟨b, off + j, none⟩ from by unfold Addr.add; split <;> simp_all]
  exact hc
theorem ioV_at {xs : List Wr} {j : Nat} {v : Value} (h : (ioV xs)[j]? = some v) : ∃ i r, ∃ hi : i < xs.length, j = i * 3 + r ∧ ((r = 0 ∧ v = .int .i64 xs[i].host) ∨ (r = 1 ∧ v = .int .i64 xs[i].at_) ∨ (r = 2 ∧ v = .string xs[i].data)) := by
  have hj : j < xs.length * 3 := by have := (List.getElem?_eq_some_iff.1 h).1; rwa [ioV_length] at this
  have hi : j / 3 < xs.length := by omega
  obtain ⟨g0, g1, g2⟩ := ioV_get hi
  rcases (show j % 3 = 0 ∨ j % 3 = 1 ∨ j % 3 = 2 by omega) with e | e | e
  · rw [show j = j / 3 * 3 by omega, g0] at h; cases h
    exact ⟨j / 3, 0, hi, by omega, .inl ⟨rfl, rfl⟩⟩
  · rw [show j = j / 3 * 3 + 1 by omega, g1] at h; cases h
    exact ⟨j / 3, 1, hi, by omega, .inr (.inl ⟨rfl, rfl⟩)⟩
  · rw [show j = j / 3 * 3 + 2 by omega, g2] at h; cases h
    exact ⟨j / 3, 2, hi, by omega, .inr (.inr ⟨rfl, rfl⟩)⟩
theorem Ios.at {w : World} {ao : Option Addr} {xs : List Wr} (h : Ios w ao xs) (hp : 0 < xs.length) : ∃ b off, ao = some ⟨b, off, none⟩ ∧ ∀ j v, (ioV xs)[j]? = some v → w.cell? (Addr.add ⟨b, off, none⟩ j) = some v := by
  obtain ⟨b, off, rfl, _⟩ := h 0 hp
  refine ⟨b, off, rfl, fun j v hv => ?_⟩
  obtain ⟨i, r, hi, rfl, hr⟩ := ioV_at hv
  obtain ⟨b', off', e, h0, h1, h2, _⟩ := h i hi
  simp only [Option.some.injEq, Addr.mk.injEq, and_true] at e
  obtain ⟨rfl, rfl⟩ := e
  rw [show Addr.add ⟨b, off, none⟩ (i * 3 + r) = ⟨b, off + i * 3 + r, none⟩ from by unfold Addr.add; split <;> simp_all [Nat.add_assoc]]
  rcases hr with ⟨rfl, rfl⟩ | ⟨rfl, rfl⟩ | ⟨rfl, rfl⟩
  · exact h0
  · exact h1
  · exact h2

set_option maxHeartbeats 1600000 in
theorem copyS_any (ao : Option Addr) (cap : Nat) (ss : List ByteArray) (w : World) (hl : ss.length ≤ 1048576) (hc : Ss w ao ss) :
    Calls Tryz.prog 92 #[.slice ao ss.length cap] w fun e w' => ∃ bo cb, e = .returned (.slice bo ss.length cb) ∧ OwnR w' w.heap.size 9 1 (.slice bo ss.length cb) ss.length (strV ss) ∧ Below w.heap.size w w' := by
  by_cases h0 : ss.length = 0
  · have hb : ((ss.length : Int) == 0) = true := by simp [h0]
    have HE := hide h0
    clear h0 hc
    go_enter Tryz.func92, Tryz.ntmps92
    go_wp2
    go_ret
    rw [unhide HE]
    exact ⟨none, 0, rfl, .inl ⟨rfl, List.eq_nil_of_length_eq_zero (by rw [strV_length, unhide HE]), none, rfl⟩, Below.refl _ _⟩
  · have hb : ((ss.length : Int) == 0) = false := beq_eq_false_iff_ne.2 (by omega)
    obtain ⟨b, off, rfl, hcs⟩ := hc.at (by omega)
    have hbl : b < w.heap.size := by
      obtain ⟨b', off', e, hc', _⟩ := hc 0 (by omega)
      simp only [Option.some.injEq, Addr.mk.injEq, and_true] at e
      obtain ⟨rfl, rfl⟩ := e
      exact World.block_lt_of_cell? _ _ hc'
    have HCS := hide hcs
    have HP := hide h0
    clear hc hcs h0
    obtain ⟨i0, hi, hz0, hz1, hz2⟩ := info_parts infoS
    go_enter Tryz.func92, Tryz.ntmps92
    go_wp2_with (first | (at_make; refine wpList_make_full _ rfl _ _ 31 rfl w.heap.size 9 i0 _ 1 Tryz.underlying31 hi hz0 hz1 _ _ _ _ ss.length rfl rfl rfl rfl ?c1 ?c2 ?c3 ?_))
    case c1 => rw [hz2]; omega
    case c2 => unfold maxLen; omega
    case c3 => exact Nat.le_refl _
    intro w1 hown hgrow
    have hB : Below w.heap.size w w1 := (Below.refl _ _).grown hgrow (Nat.le_refl _) (fun _ h => by cases h)
    have HO := hide hown
    have HB := hide hB
    have HC1 : Hid (∀ j v, (strV ss)[j]? = some v → w1.cell? (Addr.add ⟨b, off, none⟩ j) = some v) := hide (fun j v hv => ((unhide HB).cell (by unfold Addr.add; split <;> exact hbl)).trans (unhide HCS j v hv))
    clear hown hgrow hB
    go_wp2_with (refine wpList_copy_whole rfl _ _ 31 31 rfl 9 1 Tryz.underlying31 sizeS w.heap.size w.heap.size ss.length ⟨b, off, none⟩ _ rfl rfl _ (unhide HO) (strV ss) (by rw [strV_length]; omega) (unhide HC1) (strV_one ss) ?_; intro w2 ho2 hg2)
    have HB2 := hide ((unhide HB).grown hg2 (unhide HB).size (fun k h => by cases h; exact Nat.le_refl _))
    have HO2 := hide ho2
    clear ho2 hg2
    go_ret
    exact ⟨_, _, rfl, OwnR.of (unhide HO2) (fun h => absurd h (unhide HP)), unhide HB2⟩

set_option maxHeartbeats 1600000 in
theorem copyW_any (ao : Option Addr) (cap : Nat) (ss : List Wr) (w : World) (hl : ss.length ≤ 1048576) (hc : Ios w ao ss) :
    Calls Tryz.prog 93 #[.slice ao ss.length cap] w fun e w' => ∃ bo cb, e = .returned (.slice bo ss.length cb) ∧ OwnR w' w.heap.size 127 3 (.slice bo ss.length cb) ss.length (ioV ss) ∧ Below w.heap.size w w' := by
  by_cases h0 : ss.length = 0
  · have hb : ((ss.length : Int) == 0) = true := by simp [h0]
    have HE := hide h0
    clear h0 hc
    go_enter Tryz.func93, Tryz.ntmps93
    go_wp2
    go_ret
    rw [unhide HE]
    exact ⟨none, 0, rfl, .inl ⟨rfl, List.eq_nil_of_length_eq_zero (by rw [ioV_length, unhide HE]), none, rfl⟩, Below.refl _ _⟩
  · have hb : ((ss.length : Int) == 0) = false := beq_eq_false_iff_ne.2 (by omega)
    obtain ⟨b, off, rfl, hcs⟩ := hc.at (by omega)
    have hbl : b < w.heap.size := by
      obtain ⟨b', off', e, hc', _, _, _⟩ := hc 0 (by omega)
      simp only [Option.some.injEq, Addr.mk.injEq, and_true] at e
      obtain ⟨rfl, rfl⟩ := e
      exact World.block_lt_of_cell? _ _ hc'
    have HCS := hide hcs
    have HP := hide h0
    clear hc hcs h0
    obtain ⟨i0, hi, hz0, hz1, hz2⟩ := info_parts infoW
    go_enter Tryz.func93, Tryz.ntmps93
    go_wp2_with (first | (at_make; refine wpList_make_full _ rfl _ _ 32 rfl w.heap.size 127 i0 _ 3 Tryz.underlying32 hi hz0 hz1 _ _ _ _ ss.length rfl rfl rfl rfl ?c1 ?c2 ?c3 ?_))
    case c1 => rw [hz2]; omega
    case c2 => unfold maxLen; omega
    case c3 => exact Nat.le_refl _
    intro w1 hown hgrow
    have hB : Below w.heap.size w w1 := (Below.refl _ _).grown hgrow (Nat.le_refl _) (fun _ h => by cases h)
    have HO := hide hown
    have HB := hide hB
    have HC1 : Hid (∀ j v, (ioV ss)[j]? = some v → w1.cell? (Addr.add ⟨b, off, none⟩ j) = some v) := hide (fun j v hv => ((unhide HB).cell (by unfold Addr.add; split <;> exact hbl)).trans (unhide HCS j v hv))
    clear hown hgrow hB
    go_wp2_with (refine wpList_copy_whole rfl _ _ 32 32 rfl 127 3 Tryz.underlying32 sizeW w.heap.size w.heap.size ss.length ⟨b, off, none⟩ _ rfl rfl _ (unhide HO) (ioV ss) (by rw [ioV_length]) (unhide HC1) (ioV_one ss) ?_; intro w2 ho2 hg2)
    have HB2 := hide ((unhide HB).grown hg2 (unhide HB).size (fun k h => by cases h; exact Nat.le_refl _))
    have HO2 := hide ho2
    clear ho2 hg2
    go_ret
    exact ⟨_, _, rfl, OwnR.of (unhide HO2) (fun h => absurd h (unhide HP)), unhide HB2⟩

end Go.Proofs.YtbmkdbccdnbbjaaGreatDoor

namespace Go.Proofs.YtbmkdbccdnbbjaaGreatDoor
open Go.RowKit
set_option linter.unusedVariables false
set_option maxRecDepth 100000

theorem copyD_end {w wL : World} {po qo : Option Addr} {n pa m qa : Nat} {ss : List ByteArray} {xs : List Wr} (ho : OwnD wL (w.heap.size + 2) po n pa qo m qa ss xs) (hb : Below w.heap.size w wL) (a b : Value) :
    OwnD ((wL.setCell ⟨w.heap.size + 1, 0, none⟩ a).setCell ⟨w.heap.size + 1, 1, none⟩ b) w.heap.size po n pa qo m qa ss xs ∧ Below w.heap.size w ((wL.setCell ⟨w.heap.size + 1, 0, none⟩ a).setCell ⟨w.heap.size + 1, 1, none⟩ b) :=
  ⟨((ho.setCell (a := ⟨w.heap.size + 1, 0, none⟩) (by simp) a).setCell (a := ⟨w.heap.size + 1, 1, none⟩) (by simp) b).base (by omega),
    (hb.setCell (p := ⟨w.heap.size + 1, 0, none⟩) (by simp) a).setCell (p := ⟨w.heap.size + 1, 1, none⟩) (by simp) b⟩

set_option maxHeartbeats 3200000 in
theorem copyDisk_any (ao bo : Option Addr) (ca cb : Nat) (ss : List ByteArray) (xs : List Wr) (w : World) (hl : ss.length ≤ 1048576) (hm : xs.length ≤ 1048576) (h1 : Ss w ao ss) (h2 : Ios w bo xs) :
    Calls Tryz.prog 33 #[.agg #[.slice ao ss.length ca, .slice bo xs.length cb]] w fun e w' => ∃ po pa qo qa, e = .returned (.agg #[.slice po ss.length pa, .slice qo xs.length qa]) ∧ OwnD w' w.heap.size po ss.length pa qo xs.length qa ss xs ∧ Below w.heap.size w w' := by
  have HA := hide (Joins.below_alloc2 w (.cells #[.slice ao ss.length ca, .slice bo xs.length cb] 34) (.cells #[.slice none 0 0, .slice none 0 0] 34))
  have HS := hide (h1.below (unhide HA))
  have HX := hide (h2.below (unhide HA))
  have HSd := hide ((unhide HS).below (Below.refl _ _).drew)
  have HXd := hide ((unhide HX).below (Below.refl _ _).drew)
  have HV : Hid (VarD ((w.alloc (.cells #[.slice ao ss.length ca, .slice bo xs.length cb] 34)).alloc (.cells #[.slice none 0 0, .slice none 0 0] 34)).drew w.heap.size (.slice ao ss.length ca) (.slice bo xs.length cb)) := hide ((VarD.new w _ _).below (Joins.below_alloc1 _ _).drew)
  have HR : Hid (VarD ((w.alloc (.cells #[.slice ao ss.length ca, .slice bo xs.length cb] 34)).alloc (.cells #[.slice none 0 0, .slice none 0 0] 34)).drew (w.heap.size + 1) (.slice none 0 0) (.slice none 0 0)) := hide (by have := VarD.new (w.alloc (.cells #[.slice ao ss.length ca, .slice bo xs.length cb] 34)) (.slice none 0 0) (.slice none 0 0); simp only [World.size_alloc] at this; exact this)
  clear h1 h2
  go_enter Tryz.func33, Tryz.ntmps33
  go_wp2
  go_region_with (first
    | (go_at_call 92; refine (copyS_any ao ca ss _ hl (by first | exact unhide HSd | exact (unhide HSd).below hbW)).mono ?_; rintro e wS ⟨po, pa, rfl, hoS, hbS⟩; have HVS : Hid (VarD wS w.heap.size (.slice ao ss.length ca) (.slice bo xs.length cb)) := (by first | exact hide ((unhide HV).below hbS) | exact hide ((unhide HVW).below hbS)); have HRS : Hid (VarD wS (w.heap.size + 1) (.slice none 0 0) (.slice none 0 0)) := (by first | exact hide ((unhide HR).below hbS) | exact hide ((unhide HRW).below hbS)); obtain ⟨hs0, hs1⟩ := (unhide HVS).cells; obtain ⟨hs2, hs3⟩ := (unhide HRS).cells; have hs4 := Joins.unfrozen_of_block (unhide HRS) 0; have hs5 := Joins.unfrozen_of_block (unhide HRS) 1)
    | (go_at_call 93; refine (copyW_any bo cb xs _ hm (by first | exact unhide HXd | exact (unhide HXd).below hbS)).mono ?_; rintro e wW ⟨qo, qa, rfl, hoW, hbW⟩; have HVW : Hid (VarD wW w.heap.size (.slice ao ss.length ca) (.slice bo xs.length cb)) := (by first | exact hide ((unhide HV).below hbW) | exact hide ((unhide HVS).below hbW)); have HRW : Hid (VarD wW (w.heap.size + 1) (.slice none 0 0) (.slice none 0 0)) := (by first | exact hide ((unhide HR).below hbW) | exact hide ((unhide HRS).below hbW)); obtain ⟨hw0, hw1⟩ := (unhide HVW).cells; obtain ⟨hw2, hw3⟩ := (unhide HRW).cells; have hw4 := Joins.unfrozen_of_block (unhide HRW) 0; have hw5 := Joins.unfrozen_of_block (unhide HRW) 1))
  all_goals first
    | (have HL := hide (copyD_end (w := w) (wL := wW) (po := po) (qo := qo) (n := ss.length) (pa := pa) (m := xs.length) (qa := qa) (ss := ss) (xs := xs) ⟨(hoS.below hbW).base (by simp), hoW.base (by have := hbS.size; simp at this; omega)⟩ (fr (fr (unhide HA).drew hbS) hbW) (.slice po ss.length pa) (.slice qo xs.length qa))
       clear hoS hbS hoW hbW hs0 hs1 hs2 hs3 hs4 hs5
       go_wp2
       exact bodyPost_ret (v := .agg #[.slice po ss.length pa, .slice qo xs.length qa]) (by simp [results, Tryz.results33, go_sem, hw2, hw3]) rfl ⟨_, _, _, _, rfl, (unhide HL).1, (unhide HL).2⟩)
    | (have HL := hide (copyD_end (w := w) (wL := wS) (po := po) (qo := qo) (n := ss.length) (pa := pa) (m := xs.length) (qa := qa) (ss := ss) (xs := xs) ⟨hoS.base (by have := hbW.size; simp at this; omega), (hoW.below hbS).base (by simp)⟩ (fr (fr (unhide HA).drew hbW) hbS) (.slice po ss.length pa) (.slice qo xs.length qa))
       clear hoS hbS hoW hbW hw0 hw1 hw2 hw3 hw4 hw5
       go_wp2
       exact bodyPost_ret (v := .agg #[.slice po ss.length pa, .slice qo xs.length qa]) (by simp [results, Tryz.results33, go_sem, hs2, hs3]) rfl ⟨_, _, _, _, rfl, (unhide HL).1, (unhide HL).2⟩)

end Go.Proofs.YtbmkdbccdnbbjaaGreatDoor

namespace Go.Proofs.YtbmkdbccdnbbjaaGreatDoor
open Go.RowKit
set_option linter.unusedVariables false
set_option maxRecDepth 100000

section
variable {P : Program}
theorem run_append_nothing (w : World) (t ty e : TypeId) (i : TypeInfo) (ht : P.underlying t = some (.slice e)) (hi : P.info? e = some i) (d so : Option Addr) (cap c : Nat) :
    (Builtin.append_ #[t, t] ty #[.slice d 0 cap, .slice so 0 c]).run P w = .ok (.slice d 0 cap) w := by
  have hl : ∀ (x : Addr), (loadCells x 0).run P w = .ok #[] w := fun x => by simpa using run_loadCells_list (P := P) w x [] (by simp)
  cases d <;> cases so <;> simp [Builtin.append_, run_underlying ht, sizeOf, typeInfo, hi, Builtin.lenOf, Builtin.firstCells, storeCells, hl]

theorem run_append_fresh (w : World) (t ty e : TypeId) (i : TypeInfo) (z : Value) (size bytes : Nat) (ht : P.underlying t = some (.slice e)) (hi : P.info? e = some i) (hz : i.zero = some z)
    (hsize : i.size = size) (hby : i.bytes = bytes) (hzs : z.cells.size = size) (hsz : 0 < size)
    (d : Addr) (so : Option Addr) (m c : Nat) (news : List Value) (hn : news.length = m * size) (hc : 0 < m → ∃ ad, so = some ad ∧ ∀ j u, news[j]? = some u → w.cell? (ad.add j) = some u)
    (b1 : m ≤ maxLen) (b2 : m * bytes ≤ 140737488355328) :
    ∃ ao cap w', (Builtin.append_ #[t, t] ty #[.slice (some d) 0 0, .slice so m c]).run P w = .ok (.slice ao m cap) w' ∧ OwnR w' w.heap.size e size (.slice ao m cap) m news ∧ w.grownBy w' none := by
  rcases Nat.eq_zero_or_pos m with h0 | h0
  · subst h0
    exact ⟨some d, 0, w, run_append_nothing w t ty e i ht hi _ _ _ _, .inl ⟨rfl, List.eq_nil_of_length_eq_zero (by simpa using hn), _, rfl⟩, World.grownBy.refl w none⟩
  · obtain ⟨ad, rfl, hcs⟩ := hc h0
    obtain ⟨v', w', hrun, r1, r2⟩ := run_append_arg_grows (P := P) w t ty e i z size bytes ht hi hz hsize hby hzs hsz d 0 0 [] (by simp) (by simp) ad m c news hn hcs (by omega) (by simpa using b1) (by simpa using b2)
    simp only [Nat.zero_add, List.nil_append] at r1
    obtain ⟨g, cap, cur, rfl, _, _⟩ := own_form h0 r1
    exact ⟨_, _, w', hrun, .inr ⟨h0, r1⟩, r2⟩

def isFresh : Value → Bool
  | .slice (some _) 0 0 => true
  | _ => false
theorem isFresh_form {v : Value} (h : isFresh v = true) : ∃ d, v = .slice (some d) 0 0 := by
  unfold isFresh at h
  split at h
  · exact ⟨_, rfl⟩
  · cases h

theorem step_append_fresh {ops : Array Oper} {o : Oper} {a : Act} {w : World} {K : Act → World → Prop} {Q : Exit → Act → World → Prop} {E : Prop}
    (hg : o.guard = none) (s x : Operand) (t : TypeId) (hop : o.op = Op.call { callee := Callee.builtin Builtin.append, args := #[s, x], argTypes := #[t, t] })
    (e : TypeId) (i : TypeInfo) (z : Value) (size bytes : Nat) (h1 : P.underlying t = some (.slice e)) (h2 : P.info? e = some i) (h3 : i.zero = some z) (h4 : i.size = size) (h5 : i.bytes = bytes) (h6 : z.cells.size = size) (h7 : 0 < size)
    (hs0 : isFresh (a.eval s) = true) (so : Option Addr) (m c : Nat) (news : List Value) (hx : a.eval x = .slice so m c) (hn : news.length = m * size)
    (hc : 0 < m → ∃ ad, so = some ad ∧ ∀ j u, news[j]? = some u → w.cell? (ad.add j) = some u) (b1 : m ≤ maxLen) (b2 : m * bytes ≤ 140737488355328)
    (hK : ∀ ao cap w', OwnR w' w.heap.size e size (.slice ao m cap) m news → w.grownBy w' none → K (a.put o.dst (.slice ao m cap)) w') :
    if Region.wanted o (yielded ops a.tmps) = true then Oper.wp P o a w K Q else E := by
  have hw : Region.wanted o (yielded ops a.tmps) = true := by simp [Region.wanted, hg]
  rw [if_pos hw]
  obtain ⟨d, hs⟩ := isFresh_form hs0
  obtain ⟨ao, cap, w', hrun, r1, r2⟩ := run_append_fresh (P := P) w t o.type e i z size bytes h1 h2 h3 h4 h5 h6 h7 d so m c news hn hc b1 b2
  unfold Oper.wp
  simp [execOp, hop, resolve, invoke, builtin, hs, hx, hrun, Result.andThen]
  exact hK _ _ _ r1 r2
end

theorem belowGr {W0 W W' : World} (h : Below W0.heap.size W0 W) (hg : W.grownBy W' none) : Below W0.heap.size W0 W' := h.grown hg h.size (fun _ h => by cases h)
end Go.Proofs.YtbmkdbccdnbbjaaGreatDoor

namespace Go.Proofs.YtbmkdbccdnbbjaaGreatDoor
open Go.RowKit
set_option linter.unusedVariables false
set_option maxRecDepth 100000

theorem Ss.src {w : World} {ao : Option Addr} {ss : List ByteArray} (h : Ss w ao ss) : 0 < ss.length → ∃ ad, ao = some ad ∧ ∀ j u, (strV ss)[j]? = some u → w.cell? (ad.add j) = some u := fun hp => by
  obtain ⟨b, off, rfl, hc⟩ := h.at hp
  exact ⟨_, rfl, hc⟩
theorem VarD.free {w : World} {x : Nat} {a b : Value} (h : VarD w x a b) (i : Nat) : w.frozen? ⟨x, i, none⟩ = false := Joins.unfrozen_of_block h i

end Go.Proofs.YtbmkdbccdnbbjaaGreatDoor

namespace Go.Proofs.YtbmkdbccdnbbjaaGreatDoor
open Go.RowKit
set_option linter.unusedVariables false

def wrV (x : Wr) : List Value := [.int .i64 x.host, .int .i64 x.at_, .string x.data]
theorem wrV_one (x : Wr) : ∀ u ∈ wrV x, u.oneCell' = true := by
  intro u hu
  simp [wrV] at hu
  rcases hu with rfl | rfl | rfl <;> rfl
def VarI (w : World) (y : Nat) (x : Wr) : Prop := w.heap[y]? = some (.cells #[.int .i64 x.host, .int .i64 x.at_, .string x.data] 127 (0, 0))
theorem VarI.new (w : World) (x : Wr) : VarI (w.alloc (.cells #[.int .i64 x.host, .int .i64 x.at_, .string x.data] 127)) w.heap.size x := heap_alloc_new w _
theorem VarI.news {w : World} {y : Nat} {x : Wr} (h : VarI w y x) : ∀ j u, (wrV x)[j]? = some u → w.cell? ((⟨y, 0, none⟩ : Addr).add j) = some u := World.news_of_block (cs := #[.int .i64 x.host, .int .i64 x.at_, .string x.data]) h
theorem VarI.top {W : World} {y : Nat} {x : Wr} (h : W.heap.size = y) : VarI (W.alloc (.cells #[.int .i64 x.host, .int .i64 x.at_, .string x.data] 127)) y x := by rw [← h]; exact VarI.new W x
theorem ioV_snoc (xs : List Wr) (x : Wr) : ioV (xs ++ [x]) = ioV xs ++ wrV x := by simp [ioV, wrV]

theorem belowKp {W0 W W' : World} {S : Nat → Prop} (h : Below W0.heap.size W0 W) (hk : Keep S W W') (hs : ∀ j, S j → W0.heap.size ≤ j) : Below W0.heap.size W0 W' := h.trans (hk.below h.size hs)
theorem zeroD_own {w : World} {B : Nat} : OwnD w B none 0 0 none 0 0 [] [] := ⟨.inl ⟨rfl, rfl, none, rfl⟩, .inl ⟨rfl, rfl, none, rfl⟩⟩
theorem zero_end {w wL : World} (hb : Below w.heap.size w wL) (a b : Value) : Below w.heap.size w ((wL.setCell ⟨w.heap.size + 1, 0, none⟩ a).setCell ⟨w.heap.size + 1, 1, none⟩ b) :=
  (hb.setCell (p := ⟨w.heap.size + 1, 0, none⟩) (by simp) a).setCell (p := ⟨w.heap.size + 1, 1, none⟩) (by simp) b

theorem ask_zero (ss : List ByteArray) (xs : List Wr) (h : Int) : askC ss xs h 0 = hostC ss xs h := by
  unfold askC
  split
  · rename_i e; rw [e]; rfl
  · rfl
theorem land_end {w wL : World} {po qo : Option Addr} {n pa m qa : Nat} {ss : List ByteArray} {xs : List Wr} {B : Nat} (ho : OwnD wL B po n pa qo m qa ss xs) (hB : w.heap.size + 2 ≤ B) (hb : Below w.heap.size w wL) (a b : Value) :
    OwnD ((wL.setCell ⟨w.heap.size + 1, 0, none⟩ a).setCell ⟨w.heap.size + 1, 1, none⟩ b) w.heap.size po n pa qo m qa ss xs ∧ Below w.heap.size w ((wL.setCell ⟨w.heap.size + 1, 0, none⟩ a).setCell ⟨w.heap.size + 1, 1, none⟩ b) :=
  copyD_end (ho.base hB) hb a b

end Go.Proofs.YtbmkdbccdnbbjaaGreatDoor

namespace Go.Proofs.YtbmkdbccdnbbjaaGreatDoor
open Go.RowKit
set_option linter.unusedVariables false

def stepF (h : Int) (lost : Bool) (st : List ByteArray × List Wr × Int) (x : Wr) : List ByteArray × List Wr × Int :=
  if x.host = h then (if 0 < st.2.2 then (st.1.set x.at_.toNat x.data, st.2.1, st.2.2 - 1) else if lost = true then st else (st.1, st.2.1 ++ [x], st.2.2)) else (st.1, st.2.1 ++ [x], st.2.2)
def landF (h : Int) (lost : Bool) (ss : List ByteArray) (xs : List Wr) (n : Int) : List ByteArray × List Wr × Int := xs.foldl (stepF h lost) (ss, [], n)
theorem landF_succ {h : Int} {lost : Bool} {ss : List ByteArray} {xs : List Wr} {n : Int} {k : Nat} (hk : k < xs.length) : landF h lost ss (xs.take (k + 1)) n = stepF h lost (landF h lost ss (xs.take k) n) xs[k] := by
  unfold landF
  rw [List.take_succ_eq_append_getElem hk, List.foldl_append]
  rfl
theorem step_other {h : Int} {lost : Bool} {x : Wr} (ha : x.host ≠ h) (SS : List ByteArray) (LX : List Wr) (N : Int) : stepF h lost (SS, LX, N) x = (SS, LX ++ [x], N) := by simp [stepF, ha]
theorem step_land {h : Int} {lost : Bool} {x : Wr} (ha : x.host = h) (SS : List ByteArray) (LX : List Wr) {N : Int} (hn : 0 < N) : stepF h lost (SS, LX, N) x = (SS.set x.at_.toNat x.data, LX, N - 1) := by simp [stepF, ha, hn]
theorem step_keep {h : Int} {x : Wr} (ha : x.host = h) (SS : List ByteArray) (LX : List Wr) {N : Int} (hn : ¬ 0 < N) : stepF h false (SS, LX, N) x = (SS, LX ++ [x], N) := by simp [stepF, ha, hn]

theorem VarD.set1 {w : World} {y : Nat} {a b : Value} (h : VarD w y a b) (c : Value) : VarD (w.setCell ⟨y, 1, none⟩ c) y a c := by
  unfold VarD
  rw [Joins.block_setCell h c]
  rfl
structure LandSt (w : World) (v : Nat) (po : Option Addr) (pa n : Nat) (wr : World) (SS : List ByteArray) (LX : List Wr) (qo : Option Addr) (qa : Nat) : Prop where
  var : VarD wr v (.slice po n pa) (.slice qo LX.length qa)
  s : OwnR wr (w.heap.size + 2) 9 1 (.slice po n pa) n (strV SS)
  i : OwnR wr (w.heap.size + 2) 127 3 (.slice qo LX.length qa) LX.length (ioV LX)
  r : VarD wr (w.heap.size + 1) (.slice none 0 0) (.slice none 0 0)
  b : Below w.heap.size w wr

theorem LandSt.below {w : World} {v : Nat} {po : Option Addr} {pa n : Nat} {wr wr' : World} {SS : List ByteArray} {LX : List Wr} {qo : Option Addr} {qa : Nat} (h : LandSt w v po pa n wr SS LX qo qa) (hb : Below wr.heap.size wr wr') : LandSt w v po pa n wr' SS LX qo qa :=
  ⟨h.var.below hb, h.s.below hb, h.i.below hb, h.r.below hb, fr h.b hb⟩

theorem strV_set (SS : List ByteArray) (j : Nat) (d : ByteArray) : (strV SS).set j (.string d) = strV (SS.set j d) := by simp [strV, List.map_set]

theorem LandSt.form {w : World} {v : Nat} {po : Option Addr} {pa n : Nat} {wr : World} {SS : List ByteArray} {LX : List Wr} {qo : Option Addr} {qa : Nat} (h : LandSt w v po pa n wr SS LX qo qa) {j : Nat} (hj : j < n) :
    ∃ g x, po = some ⟨g, 0, none⟩ ∧ g < wr.heap.size ∧ wr.cell? ⟨g, j, none⟩ = some x ∧ wr.frozen? ⟨g, j, none⟩ = false ∧ ∀ d, LandSt w v po pa n (wr.setCell ⟨g, j, none⟩ (.string d)) (SS.set j d) LX qo qa := by
  have hpos : 0 < n := by omega
  obtain ⟨h0, -, _⟩ | ⟨_, ho⟩ := h.s
  · omega
  obtain ⟨g, cap, cur, e0, hg, hcur⟩ := own_form hpos ho
  simp only [Value.slice.injEq, true_and] at e0
  obtain ⟨rfl, rfl⟩ := e0
  have hown : Own (.slice (some ⟨g, 0, none⟩) n pa) g := own_of hpos rfl
  have hlen : (strV SS).length = n := by have := h.s.len; omega
  refine ⟨g, _, rfl, (h.s.ge g hown).2, (ho.cellAt j (by omega)).trans (List.getElem?_eq_getElem (by rw [hlen]; exact hj)), ho.frozenAt j, fun d => ?_⟩
  have hk : Keep (fun k => k = g) wr (wr.setCell ⟨g, j, none⟩ (.string d)) := Keep.setCell (S := fun k => k = g) (Keep.refl _ _) (p := ⟨g, j, none⟩) rfl _
  refine ⟨h.var.keep hk (fun e => h.s.other h.var (by decide) (e ▸ hown)), .inr ⟨hpos, ?_⟩, h.i.keep hk (fun k hk' e => own_apart h.i h.s (by decide) k hk' (e ▸ hown)), h.r.keep hk (fun e => h.s.other h.r (by decide) (e ▸ hown)), h.b.setCell (p := ⟨g, j, none⟩) (by have := (h.s.ge g hown).1; simp; omega) _⟩
  rw [← strV_set]
  exact (ho.stored j (.string d)).1

theorem LandSt.app {w : World} {v : Nat} {po : Option Addr} {pa n : Nat} {wr wA : World} {SS : List ByteArray} {LX : List Wr} {qo : Option Addr} {qa : Nat} (h : LandSt w v po pa n wr SS LX qo qa) (hv : w.heap.size ≤ v) (hne : v ≠ w.heap.size + 1) {x : Wr} {g cap : Nat}
    (ho : wA.ownsRow (w.heap.size + 2) 127 3 (.slice (some ⟨g, 0, none⟩) (LX.length + 1) cap) (LX.length + 1) (ioV LX ++ wrV x)) (hk : Keep (Own (.slice qo LX.length qa)) wr wA) :
    VarD wA v (.slice po n pa) (.slice qo LX.length qa) ∧ LandSt w v po pa n (wA.setCell ⟨v, 1, none⟩ (.slice (some ⟨g, 0, none⟩) (LX.length + 1) cap)) SS (LX ++ [x]) (some ⟨g, 0, none⟩) cap := by
  have hva := h.var.keep hk (h.i.other h.var (by decide))
  have hra := h.r.keep hk (h.i.other h.r (by decide))
  have hsa := h.s.keep hk (own_apart h.s h.i (by decide))
  have hia : OwnR wA (w.heap.size + 2) 127 3 (.slice (some ⟨g, 0, none⟩) (LX.length + 1) cap) (LX.length + 1) (ioV (LX ++ [x])) := .inr ⟨Nat.succ_pos _, by rw [ioV_snoc]; exact ho⟩
  have hba : Below w.heap.size w wA := belowKp h.b hk (fun j hj => Nat.le_trans (by omega) (h.i.ge j hj).1)
  have hl : (LX ++ [x]).length = LX.length + 1 := by simp
  have hk2 : Keep (fun j => j = v) wA (wA.setCell ⟨v, 1, none⟩ (.slice (some ⟨g, 0, none⟩) (LX.length + 1) cap)) := Keep.setCell (S := fun j => j = v) (Keep.refl _ _) (p := ⟨v, 1, none⟩) rfl _
  refine ⟨hva, ?_, hsa.keep hk2 (fun j hj e => hsa.other hva (by decide) (e ▸ hj)), ?_, hra.keep hk2 (fun e => hne e.symm), hba.setCell (p := ⟨v, 1, none⟩) hv _⟩
  · rw [hl]; exact hva.set1 _
  · rw [hl]; exact hia.keep hk2 (fun j hj e => hia.other hva (by decide) (e ▸ hj))

set_option maxRecDepth 100000 in
set_option maxHeartbeats 3200000 in
theorem landFirst_any (ao bo : Option Addr) (ca cb : Nat) (ss : List ByteArray) (xs : List Wr) (h n : Int) (w : World) (hn0 : 0 ≤ n) (hn1 : n ≤ 1048576) (hl : ss.length ≤ 1048576) (hm : xs.length ≤ 200) (hat : ∀ i (hi : i < xs.length), 0 ≤ xs[i].at_ ∧ xs[i].at_ < ss.length) (h1 : Ss w ao ss) (h2 : Ios w bo xs) :
    Calls Tryz.prog 95 #[.agg #[.slice ao ss.length ca, .slice bo xs.length cb], .int .i64 h, .int .i64 n] w fun e w' => ∃ po pa qo qa, e = .returned (.agg #[.slice po ss.length pa, .slice qo (landF h false ss xs n).2.1.length qa]) ∧ OwnD w' w.heap.size po ss.length pa qo (landF h false ss xs n).2.1.length qa (landF h false ss xs n).1 (landF h false ss xs n).2.1 ∧ Below w.heap.size w w' := by
  have HA := hide (Joins.below_alloc2 w (.cells #[.slice ao ss.length ca, .slice bo xs.length cb] 34) (.cells #[.slice none 0 0, .slice none 0 0] 34))
  have H1 := hide (h1.below (unhide HA))
  have H2 := hide (h2.below (unhide HA))
  have HV := hide ((VarD.new w (.slice ao ss.length ca) (.slice bo xs.length cb)).below (Joins.below_alloc1 _ (.cells #[.slice none 0 0, .slice none 0 0] 34)))
  have HR : Hid (VarD ((w.alloc (.cells #[.slice ao ss.length ca, .slice bo xs.length cb] 34)).alloc (.cells #[.slice none 0 0, .slice none 0 0] 34)) (w.heap.size + 1) (.slice none 0 0) (.slice none 0 0)) := hide (by have := VarD.new (w.alloc (.cells #[.slice ao ss.length ca, .slice bo xs.length cb] 34)) (.slice none 0 0) (.slice none 0 0); simp only [World.size_alloc] at this; exact this)
  have HX0 := hide h2
  have HAT := hide hat
  have HLEN := hide hl
  clear h1 h2 hat hl
  obtain ⟨j0, hj, hy0, hy1, hy2⟩ := info_parts infoW
  go_enter Tryz.func95, Tryz.ntmps95
  go_wp2_with fail
  refine (copyS_any ao ca ss _ (unhide HLEN) (unhide H1)).mono ?_
  rintro e w1 ⟨po, pa, rfl, ho1, hb1⟩
  have HV1 := hide ((unhide HV).below hb1)
  have HR1 := hide ((unhide HR).below hb1)
  have HX1 := hide ((unhide H2).below hb1)
  have HB1 := hide (fr (unhide HA) hb1)
  have HO1 := hide (ho1.base (B' := w.heap.size + 2) (by simp))
  have hlt1 : w.heap.size + 1 < w1.heap.size := (unhide HR1).lt
  have hlt0 : w.heap.size < w1.heap.size := (unhide HV1).lt
  clear ho1 hb1
  obtain ⟨hv0, hv1⟩ := (unhide HV1).cells
  have HST : Hid (LandSt w w1.heap.size po pa ss.length (w1.alloc (.cells #[.slice po ss.length pa, .slice none 0 0] 34)) ss [] none 0) := hide ⟨VarD.new w1 _ _, (unhide HO1).below (Joins.below_alloc1 _ _), .inl ⟨rfl, rfl, none, rfl⟩, (unhide HR1).below (Joins.below_alloc1 _ _), fr (unhide HB1) (Joins.below_alloc1 _ _)⟩
  go_wp2
  go_loopw [2, 9, 17] (fun c _ i wr => ∃ (k : Nat) (SS : List ByteArray) (LX : List Wr) (N : Int) (qo : Option Addr) (qa : Nat), k ≤ xs.length ∧ i = .int .i64 k ∧ c = .int .i64 N ∧ 0 ≤ N ∧ N ≤ 1048576 ∧ LX.length ≤ k ∧ Hid (landF h false ss (xs.take k) n = (SS, LX, N)) ∧ Hid (LandSt w w1.heap.size po pa ss.length wr SS LX qo qa)) (fun _ _ i _ => xs.length - (intOf i).toNat)
  case atStart => exact ⟨0, ss, [], n, none, 0, Nat.zero_le _, rfl, rfl, hn0, hn1, Nat.le_refl _, hide rfl, HST⟩
  case round =>
    obtain ⟨k, SS, LX, N, qo, qa, hk, rfl, rfl, hN0, hN1, hLX, HL, HS⟩ := hrel
    clear HST
    obtain ⟨hw0, hw1⟩ := (unhide HS).var.cells
    obtain ⟨hr0, hr1⟩ := (unhide HS).r.cells
    have hlw := (unhide HS).var.lt
    by_cases hlt : k < xs.length
    · obtain ⟨b, off, rfl, hc0, hc1, hc2, hz⟩ := (unhide HX0).below (unhide HS).b k hlt
      clear hz
      obtain ⟨a, ha, hal⟩ : ∃ a : Nat, xs[k].at_ = (a : Int) ∧ a < ss.length := ⟨xs[k].at_.toNat, by have := unhide HAT k hlt; omega, by have := unhide HAT k hlt; omega⟩
      rw [ha] at hc1
      obtain ⟨g, x0, rfl, hgl, hgc, hgf, hset⟩ := ((unhide HS).below (Joins.below_alloc1 _ (.cells #[.int .i64 xs[k].host, .int .i64 a, .string xs[k].data] 127))).form hal
      have HSET := hide (hset xs[k].data)
      have HSA := hide ((unhide HS).below (Joins.below_alloc1 _ (.cells #[.int .i64 xs[k].host, .int .i64 a, .string xs[k].data] 127)))
      have HA := hide ha
      clear ha hset
      have HX := hide (show (⟨xs[k].host, a, xs[k].data⟩ : Wr) = xs[k] by rw [← unhide HA])
      have HSB := hide ((unhide HSA).below (Joins.below_alloc1 _ (.cells #[.int .i64 xs[k].host, .int .i64 a, .string xs[k].data] 127)))
      have HI : Hid (VarI ((wr.alloc (.cells #[.int .i64 xs[k].host, .int .i64 a, .string xs[k].data] 127)).alloc (.cells #[.int .i64 xs[k].host, .int .i64 a, .string xs[k].data] 127)) (wr.heap.size + 1) ⟨xs[k].host, a, xs[k].data⟩) := hide (VarI.top (x := ⟨xs[k].host, a, xs[k].data⟩) (by simp))
      by_cases e0 : xs[k].host = h
      · by_cases hN : 0 < N
        · have HN := hide (step_land (lost := false) e0 SS LX hN)
          have b0 : (xs[k].host == h) = true := by simp [e0]
          clear e0
          go_wp2
          go_roundw
          case rel => exact ⟨k + 1, SS.set a xs[k].data, LX, N - 1, qo, qa, by omega, by go_num, by go_num, by omega, by omega, by omega, hide (by rw [landF_succ hlt, unhide HL, unhide HN, unhide HA]; rfl), HSET⟩
          case measure => simp [intOf]; omega
        · have HN := hide (step_keep e0 SS LX hN)
          have b0 : (xs[k].host == h) = true := by simp [e0]
          clear e0
          go_wp2_with (at_builtin; refine wpList_append_one rfl _ _ 32 rfl (w.heap.size + 2) 127 j0 (.agg #[.int .i64 0, .int .i64 0, .string ⟨#[]⟩]) 3 32 Tryz.underlying32 hj hy0 hy1 hy2 rfl (by omega) qo LX.length qa (ioV LX) rfl (unhide HSB).i (by simp; omega) ⟨wr.heap.size + 1, 0, none⟩ _ (wrV ⟨xs[k].host, a, xs[k].data⟩) rfl rfl (unhide HI).news (wrV_one _) (by unfold maxLen; omega) (by omega) ?_; intro g2 cap wA hoA hkA; obtain ⟨hvA, hsA⟩ := (unhide HSB).app (by omega) (by omega) hoA hkA; have HSF := hide hsA; obtain ⟨hA0, hA1⟩ := hvA.cells; have hA2 := hvA.free 1; clear hoA hkA hvA hsA)
          go_roundw
          case rel => exact ⟨k + 1, SS, LX ++ [⟨xs[k].host, a, xs[k].data⟩], N, _, _, by omega, by go_num, by go_num, by omega, by omega, by simp; omega, hide (by rw [landF_succ hlt, unhide HL, unhide HN, unhide HX]), HSF⟩
          case measure => simp [intOf]; omega
      · have HN := hide (step_other (lost := false) e0 SS LX N)
        have b0 : (xs[k].host == h) = false := by simp [e0]
        clear e0
        go_wp2_with (at_builtin; refine wpList_append_one rfl _ _ 32 rfl (w.heap.size + 2) 127 j0 (.agg #[.int .i64 0, .int .i64 0, .string ⟨#[]⟩]) 3 32 Tryz.underlying32 hj hy0 hy1 hy2 rfl (by omega) qo LX.length qa (ioV LX) rfl (unhide HSB).i (by simp; omega) ⟨wr.heap.size + 1, 0, none⟩ _ (wrV ⟨xs[k].host, a, xs[k].data⟩) rfl rfl (unhide HI).news (wrV_one _) (by unfold maxLen; omega) (by omega) ?_; intro g2 cap wA hoA hkA; obtain ⟨hvA, hsA⟩ := (unhide HSB).app (by omega) (by omega) hoA hkA; have HSF := hide hsA; obtain ⟨hA0, hA1⟩ := hvA.cells; have hA2 := hvA.free 1; clear hoA hkA hvA hsA)
        go_roundw
        case rel => exact ⟨k + 1, SS, LX ++ [⟨xs[k].host, a, xs[k].data⟩], N, _, _, by omega, by go_num, by go_num, by omega, by omega, by simp; omega, hide (by rw [landF_succ hlt, unhide HL, unhide HN, unhide HX]), HSF⟩
        case measure => simp [intOf]; omega
    · have HF : Hid (landF h false ss xs n = (SS, LX, N)) := by
        have := unhide HL
        rw [List.take_of_length_le (by omega)] at this
        exact hide this
      have HE := hide (copyD_end (w := w) (wL := wr) ⟨(unhide HS).s, (unhide HS).i⟩ (unhide HS).b (.slice po ss.length pa) (.slice qo LX.length qa))
      have hr2 := (unhide HS).r.free 0
      have hr3 := (unhide HS).r.free 1
      have hlr := (unhide HS).r.lt
      go_wp2
      rw [unhide HF]
      exact bodyPost_ret (v := .agg #[.slice po ss.length pa, .slice qo LX.length qa]) (by simp [results, Tryz.results95, go_sem, hr0, hr1]) rfl ⟨po, pa, qo, qa, rfl, (unhide HE).1, (unhide HE).2⟩

end Go.Proofs.YtbmkdbccdnbbjaaGreatDoor

namespace Go.Proofs.YtbmkdbccdnbbjaaGreatDoor
open Go.RowKit
set_option linter.unusedVariables false

theorem step_drop {h : Int} {x : Wr} (ha : x.host = h) (SS : List ByteArray) (LX : List Wr) {N : Int} (hn : ¬ 0 < N) : stepF h true (SS, LX, N) x = (SS, LX, N) := by simp [stepF, ha, hn]

end Go.Proofs.YtbmkdbccdnbbjaaGreatDoor

namespace Go.Proofs.YtbmkdbccdnbbjaaGreatDoor
open Go.RowKit
set_option linter.unusedVariables false

theorem land_inv (h : Int) (lost : Bool) (P : ByteArray → Prop) : ∀ (xs : List Wr) (SS : List ByteArray) (LX : List Wr) (N : Int), (∀ s ∈ SS, P s) → (∀ x ∈ xs, P x.data) → (∀ x ∈ LX, P x.data) →
    (∀ s ∈ (xs.foldl (stepF h lost) (SS, LX, N)).1, P s) ∧ (∀ x ∈ (xs.foldl (stepF h lost) (SS, LX, N)).2.1, P x.data) ∧ (xs.foldl (stepF h lost) (SS, LX, N)).1.length = SS.length ∧ (xs.foldl (stepF h lost) (SS, LX, N)).2.1.length ≤ LX.length + xs.length
  | [], SS, LX, N, h1, _, h3 => ⟨h1, h3, rfl, Nat.le_refl _⟩
  | x :: xs, SS, LX, N, h1, h2, h3 => by
    have hx := h2 x (List.mem_cons_self ..)
    have hr : ∀ y ∈ xs, P y.data := fun y hy => h2 y (List.mem_cons_of_mem _ hy)
    have happ : ∀ y ∈ LX ++ [x], P y.data := by
      intro y hy
      rcases List.mem_append.1 hy with h | h
      · exact h3 y h
      · simp at h; subst h; exact hx
    have hset : ∀ s ∈ SS.set x.at_.toNat x.data, P s := by
      intro s hs
      rcases List.mem_or_eq_of_mem_set hs with h | h
      · exact h1 s h
      · rw [h]; exact hx
    rw [List.foldl_cons]
    by_cases ha : x.host = h
    · by_cases hn : 0 < N
      · rw [step_land ha SS LX hn]
        obtain ⟨q1, q2, q3, q4⟩ := land_inv h lost P xs (SS.set x.at_.toNat x.data) LX (N - 1) hset hr h3
        exact ⟨q1, q2, by rw [q3, List.length_set], by simp only [List.length_cons]; omega⟩
      · cases lost
        · rw [step_keep ha SS LX hn]
          obtain ⟨q1, q2, q3, q4⟩ := land_inv h false P xs SS (LX ++ [x]) N h1 hr happ
          exact ⟨q1, q2, q3, by simp only [List.length_cons, List.length_append, List.length_nil] at q4 ⊢; omega⟩
        · rw [step_drop ha SS LX hn]
          obtain ⟨q1, q2, q3, q4⟩ := land_inv h true P xs SS LX N h1 hr h3
          exact ⟨q1, q2, q3, by simp only [List.length_cons]; omega⟩
    · rw [step_other ha SS LX N]
      obtain ⟨q1, q2, q3, q4⟩ := land_inv h lost P xs SS (LX ++ [x]) N h1 hr happ
      exact ⟨q1, q2, q3, by simp only [List.length_cons, List.length_append, List.length_nil] at q4 ⊢; omega⟩
theorem landF_inv {h n : Int} {lost : Bool} {ss : List ByteArray} {xs : List Wr} (P : ByteArray → Prop) (h1 : ∀ s ∈ ss, P s) (h2 : ∀ x ∈ xs, P x.data) :
    (∀ s ∈ (landF h lost ss xs n).1, P s) ∧ (∀ x ∈ (landF h lost ss xs n).2.1, P x.data) ∧ (landF h lost ss xs n).1.length = ss.length ∧ (landF h lost ss xs n).2.1.length ≤ xs.length := by
  have := land_inv h lost P xs ss [] n h1 h2 (fun _ h => by cases h)
  simpa [landF] using this

theorem diskB_at {ss : List ByteArray} {xs : List Wr} (h : diskB ss xs = true) : ∀ i (hi : i < xs.length), 0 ≤ xs[i].at_ ∧ xs[i].at_ < ss.length := by
  intro i hi
  have hl := (diskB_len h).1
  simp only [diskB, penB, Bool.and_eq_true, List.all_eq_true] at h
  have := h.2.2 xs[i] (List.getElem_mem hi)
  simp only [ioB, Bool.and_eq_true, decide_eq_true_eq] at this
  omega

def flS (ss : List ByteArray) (xs : List Wr) (h : Int) : List ByteArray := if hostC ss xs h = 0 then (landF h false ss xs 200).1 else []
def flX (ss : List ByteArray) (xs : List Wr) (h : Int) : List Wr := if hostC ss xs h = 0 then (landF h false ss xs 200).2.1 else []
theorem fl_ok {ss : List ByteArray} {xs : List Wr} {h : Int} (h1 : hostC ss xs h = 0) : flS ss xs h = (landF h false ss xs 200).1 ∧ flX ss xs h = (landF h false ss xs 200).2.1 := by simp [flS, flX, h1]
theorem fl_bad {ss : List ByteArray} {xs : List Wr} {h : Int} (h1 : ¬ hostC ss xs h = 0) : flS ss xs h = [] ∧ flX ss xs h = [] := by simp [flS, flX, h1]
theorem landF_slen {h n : Int} {lost : Bool} {ss : List ByteArray} {xs : List Wr} : (landF h lost ss xs n).1.length = ss.length := (landF_inv (fun _ => True) (fun _ _ => trivial) (fun _ _ => trivial)).2.2.1

end Go.Proofs.YtbmkdbccdnbbjaaGreatDoor

namespace Go.Proofs.YtbmkdbccdnbbjaaGreatDoor
open Go.RowKit
set_option linter.unusedVariables false

def dropF (h : Int) (xs : List Wr) : List Wr := xs.filter fun x => x.host != h
end Go.Proofs.YtbmkdbccdnbbjaaGreatDoor

namespace Go.Proofs.YtbmkdbccdnbbjaaGreatDoor
open Go.RowKit
set_option linter.unusedVariables false

set_option maxRecDepth 100000 in
set_option maxHeartbeats 1600000 in
theorem flush_impl (ao bo : Option Addr) (ca cb : Nat) (ss : List ByteArray) (xs : List Wr) (h : Int) (w : World) (hl : ss.length ≤ maxLen) (hm : xs.length ≤ maxLen) (h1 : Ss w ao ss) (h2 : Ios w bo xs) :
    Calls Tryz.prog 35 #[.agg #[.slice ao ss.length ca, .slice bo xs.length cb], .int .i64 h] w fun e w' => ∃ po pa qo qa, e = .returned (.tuple #[.agg #[.slice po (flS ss xs h).length pa, .slice qo (flX ss xs h).length qa], .int .i64 (hostC ss xs h)]) ∧ OwnD w' w.heap.size po (flS ss xs h).length pa qo (flX ss xs h).length qa (flS ss xs h) (flX ss xs h) ∧ Below w.heap.size w w' := by
  have HA := hide (Joins.below_alloc2 w (.cells #[.slice ao ss.length ca, .slice bo xs.length cb] 34) (.cells #[.slice none 0 0, .slice none 0 0] 34))
  have H1 := hide (h1.below (unhide HA))
  have H2 := hide (h2.below (unhide HA))
  have HV := hide ((VarD.new w (.slice ao ss.length ca) (.slice bo xs.length cb)).below (Joins.below_alloc1 _ (.cells #[.slice none 0 0, .slice none 0 0] 34)))
  have HR : Hid (VarD ((w.alloc (.cells #[.slice ao ss.length ca, .slice bo xs.length cb] 34)).alloc (.cells #[.slice none 0 0, .slice none 0 0] 34)) (w.heap.size + 1) (.slice none 0 0) (.slice none 0 0)) := hide (by have := VarD.new (w.alloc (.cells #[.slice ao ss.length ca, .slice bo xs.length cb] 34)) (.slice none 0 0) (.slice none 0 0); simp only [World.size_alloc] at this; exact this)
  have HL := hide hl
  have HM := hide hm
  have HQ := hide (ask_zero ss xs h)
  clear h1 h2 hl hm
  by_cases hc : hostC ss xs h = 0
  · have hb : (hostC ss xs h != 0) = false := by simp [hc]
    have HW := hide (fl_ok hc)
    have HD := hide (hostC_eq hc).1
    have HC := hide hc
    have HLS : Hid (ss.length ≤ 1048576) := hide (by have := (diskB_len (unhide HD)).1; omega)
    have HLX := hide (diskB_len (unhide HD)).2
    clear hc
    go_enter Tryz.func35, Tryz.ntmps35
    go_wp2_with fail
    refine (hostFault_any _ _ _ _ ss xs h _ (unhide HL) (unhide HM) (unhide H1) (unhide H2)).mono ?_
    rintro e w1 ⟨rfl, hb1⟩
    have HV1 := hide ((unhide HV).below hb1)
    have HR1 := hide ((unhide HR).below hb1)
    have HB1 := hide (fr (unhide HA) hb1)
    have HS1 := hide ((unhide H1).below hb1)
    have HX1 := hide ((unhide H2).below hb1)
    have HZ1 := hide hb1.size
    clear hb1
    obtain ⟨hv0, hv1⟩ := (unhide HV1).cells
    go_wp2_with fail
    refine (landFirst_any ao bo ca cb ss xs h 200 _ (by omega) (by omega) (unhide HLS) (unhide HLX) (diskB_at (unhide HD)) (unhide HS1) (unhide HX1)).mono ?_
    rintro e w2 ⟨po, pa, qo, qa, rfl, ho2, hb2⟩
    have HO2 := hide (ho2.base (B' := w.heap.size + 2) (by have z1 := unhide HZ1; simp at z1; omega))
    have HR2 := hide ((unhide HR1).below hb2)
    have HB2 := hide (fr (unhide HB1) hb2)
    clear ho2 hb2 hv0 hv1
    obtain ⟨hr0, hr1⟩ := (unhide HR2).cells
    have hr2 := (unhide HR2).free 0
    have hr3 := (unhide HR2).free 1
    obtain ⟨RX, HRX⟩ : ∃ RX, Hid ((landF h false ss xs 200).2.1 = RX) := ⟨_, hide rfl⟩
    rw [unhide HRX] at HO2 ⊢
    have HE := hide (land_end (w := w) (unhide HO2) (Nat.le_refl _) (unhide HB2) (.slice po ss.length pa) (.slice qo RX.length qa))
    go_wp2
    obtain ⟨e1, e2⟩ := unhide HW
    rw [e1, e2, landF_slen, unhide HRX, unhide HC]
    exact bodyPost_ret (v := .tuple #[.agg #[.slice po ss.length pa, .slice qo RX.length qa], .int .i64 0]) (by simp [results, Tryz.results35, go_sem, hr0, hr1]) rfl ⟨po, pa, qo, qa, rfl, (unhide HE).1, (unhide HE).2⟩
  · have hb : (hostC ss xs h != 0) = true := by simp [hc]
    obtain ⟨e1, e2⟩ := fl_bad hc
    rw [e1, e2]
    clear e1 e2 hc
    go_enter Tryz.func35, Tryz.ntmps35
    go_wp2_with fail
    refine (hostFault_any _ _ _ _ ss xs h _ (unhide HL) (unhide HM) (unhide H1) (unhide H2)).mono ?_
    rintro e w1 ⟨rfl, hb1⟩
    have HR1 := hide ((unhide HR).below hb1)
    have HB1 := hide (fr (unhide HA) hb1)
    clear hb1
    obtain ⟨hr0, hr1⟩ := (unhide HR1).cells
    have hr2 := (unhide HR1).free 0
    have hr3 := (unhide HR1).free 1
    have HE := hide (zero_end (w := w) (wL := w1) (unhide HB1) (.slice none 0 0) (.slice none 0 0))
    go_wp2
    exact bodyPost_ret (v := .tuple #[.agg #[.slice none 0 0, .slice none 0 0], .int .i64 (hostC ss xs h)]) (by simp [results, Tryz.results35, go_sem, hr0, hr1]) rfl ⟨none, 0, none, 0, rfl, zeroD_own, unhide HE⟩

end Go.Proofs.YtbmkdbccdnbbjaaGreatDoor

namespace Go.Proofs.YtbmkdbccdnbbjaaGreatDoor
open Go.RowKit
set_option linter.unusedVariables false

theorem inB_eq {k a b : Int} (h : inB k a b = true) : a ≤ k ∧ k ≤ b := by simpa [inB] using h
end Go.Proofs.YtbmkdbccdnbbjaaGreatDoor

namespace Go.Proofs.YtbmkdbccdnbbjaaGreatDoor
set_option linter.unusedVariables false

def ofH (h : Int) (xs : List Wr) : List Wr := xs.filter fun x => x.host == h
def putW (ss : List ByteArray) (fs : List Wr) : List ByteArray := fs.foldl (fun s x => s.set x.at_.toNat x.data) ss
def remH (h : Int) : Nat → List Wr → List Wr
  | _, [] => []
  | 0, x :: xs => x :: remH h 0 xs
  | n + 1, x :: xs => if x.host = h then remH h n xs else x :: remH h (n + 1) xs

theorem remH_zero (h : Int) : ∀ xs : List Wr, remH h 0 xs = xs
  | [] => rfl
  | x :: xs => by rw [remH, remH_zero h xs]
theorem ofH_cons_hit {h : Int} {x : Wr} (xs : List Wr) (hx : x.host = h) : ofH h (x :: xs) = x :: ofH h xs := by simp [ofH, hx]
theorem ofH_cons_miss {h : Int} {x : Wr} (xs : List Wr) (hx : ¬ x.host = h) : ofH h (x :: xs) = ofH h xs := by simp [ofH, hx]
theorem remH_hit {h : Int} {x : Wr} (n : Nat) (xs : List Wr) (hx : x.host = h) : remH h (n + 1) (x :: xs) = remH h n xs := by rw [remH, if_pos hx]
theorem remH_miss {h : Int} {x : Wr} (n : Nat) (xs : List Wr) (hx : ¬ x.host = h) : remH h n (x :: xs) = x :: remH h n xs := by
  cases n with
  | zero => rw [remH]
  | succ n => rw [remH, if_neg hx]

theorem fold_land (h : Int) : ∀ (xs : List Wr) (SS : List ByteArray) (LX : List Wr) (n : Nat),
    xs.foldl (stepF h false) (SS, LX, (n : Int)) = (putW SS ((ofH h xs).take n), LX ++ remH h n xs, ((n - (ofH h xs).length : Nat) : Int))
  | [], SS, LX, n => by simp [ofH, putW, remH]
  | x :: xs, SS, LX, n => by
    rw [List.foldl_cons]
    by_cases hx : x.host = h
    · cases n with
      | zero =>
        rw [step_keep hx SS LX (by simp), show ((0 : Nat) : Int) = ((0 : Nat) : Int) from rfl, fold_land h xs, remH_zero, remH_zero]
        simp [putW]
      | succ n =>
        rw [step_land hx SS LX (by omega), show ((n + 1 : Nat) : Int) - 1 = (n : Int) by omega, fold_land h xs, ofH_cons_hit xs hx, remH_hit n xs hx]
        rw [List.take_succ_cons, List.length_cons, show n + 1 - ((ofH h xs).length + 1) = n - (ofH h xs).length by omega]
        rfl
    · rw [step_other hx, fold_land h xs, ofH_cons_miss xs hx, remH_miss n xs hx]
      simp
theorem landF_put (h : Int) (ss : List ByteArray) (xs : List Wr) (n : Nat) : (landF h false ss xs (n : Int)).1 = putW ss ((ofH h xs).take n) ∧ (landF h false ss xs (n : Int)).2.1 = remH h n xs := by
  unfold landF
  rw [fold_land]
  exact ⟨rfl, by simp⟩

theorem rem_all {h : Int} : ∀ (n : Nat) (xs : List Wr), (ofH h xs).length ≤ n → remH h n xs = dropF h xs
  | _, [], _ => by cases ‹Nat› <;> rfl
  | n, x :: xs, e => by
    by_cases hx : x.host = h
    · rw [ofH_cons_hit xs hx] at e
      cases n with
      | zero => simp at e
      | succ n =>
        rw [remH_hit n xs hx, rem_all n xs (by simpa using e)]; simp [dropF, hx]
    · rw [ofH_cons_miss xs hx] at e
      rw [remH_miss n xs hx, rem_all n xs e]; simp [dropF, hx]
theorem diskB_parts {ss : List ByteArray} {xs : List Wr} : diskB ss xs = true ↔ (ss.length = 64 ∧ ∀ s ∈ ss, s.size ≤ 80) ∧ xs.length ≤ 200 ∧ ∀ x ∈ xs, ioB x = true := by
  simp only [diskB, secB, penB, Bool.and_eq_true, decide_eq_true_eq, List.all_eq_true]
theorem ioB_parts {x : Wr} : ioB x = true ↔ (0 ≤ x.host ∧ x.host ≤ 3) ∧ (0 ≤ x.at_ ∧ x.at_ ≤ 63) ∧ x.data.size ≤ 80 := by
  simp only [ioB, Bool.and_eq_true, decide_eq_true_eq]
  omega
end Go.Proofs.YtbmkdbccdnbbjaaGreatDoor

namespace Go.Proofs.YtbmkdbccdnbbjaaGreatDoor
open Go.RowKit
set_option linter.unusedVariables false

theorem three {l : List Int} (h : l.length = 3) : ∃ a b c, l = [a, b, c] := by
  match l, h with
  | [a, b, c], _ => exact ⟨a, b, c, rfl⟩
theorem readV_size {ss : List ByteArray} {xs : List Wr} (hd : diskB ss xs = true) (h a : Int) : (readV ss xs h a).size ≤ 80 := by
  obtain ⟨⟨a1, a2⟩, a3, a4⟩ := diskB_parts.1 hd
  unfold readV
  cases hf : xs.reverse.find? (fun x => x.host == h && x.at_ == a) with
  | some x => exact (ioB_parts.1 (a4 x (List.mem_reverse.1 (List.mem_of_find?_eq_some hf)))).2.2
  | none =>
    simp only [Option.map_none, Option.getD_none]
    rw [List.getD_eq_getElem?_getD]
    cases hg : ss[a.toNat]? with
    | some s => exact a2 s (List.mem_of_getElem? hg)
    | none => exact Nat.zero_le _

end Go.Proofs.YtbmkdbccdnbbjaaGreatDoor
