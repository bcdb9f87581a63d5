import Derived.Test.YtefnapcegeojoabDoorRows
import Derived.Test.YtefnapcegeojoabDoorLRefsPart1
import Derived.WalkKit
import Derived.WalkSpells
import Derived.Laws.CopyRow
import Derived.Laws.CopyOwn
import Derived.Test.YtefnapcegeojoabDoorLRefsPart2
import Derived.KernelRfl
import Derived.LoopN
import Derived.BigQuiet
import Derived.Deep.QuietTactic
import Derived.Deep.CutRange
import Derived.Deep.RegionWith
import Derived.Laws.ResultCell
import Derived.Laws.Cover3
import Derived.Deep.MidRow
import Derived.Defers
import Derived.Recover

/- Contracts of copyList, at texts and at writes: what was there, in new memory. -/
namespace Go.Proofs.YtefnapcegeojoabDoor
open Go.RowKit
set_option linter.unusedVariables false
set_option maxRecDepth 100000

section
variable {P : Program}

/-- 'copy(out, src)', both of n elements of some cells each. -/
theorem run_copy_whole (w : World) (dT sT ty elem : TypeId) (size g n dCap : Nat) (a : Addr) (sCap : Nat) (cur : Array Value) (t : TypeId) (cs : List Value)
    (hu : P.underlying dT = some (.slice elem)) (hs : (P.info? elem).map (·.size) = some size)
    (hg : w.heap[g]? = some (.cells cur t (0, 0))) (hl : n * size = cs.length)
    (hsrc : ∀ j v, cs[j]? = some v → w.cell? (a.add j) = some v) (hfit : cs.length ≤ cur.size) (h1 : ∀ v ∈ cs, v.oneCell' = true) :
    (Builtin.copy_ #[dT, sT] ty #[.slice (some ⟨g, 0, none⟩) n dCap, .slice (some a) n sCap]).run P w = .ok (goInt n) (w.setRow g (cs ++ cur.toList.drop cs.length).toArray) := by
  have hld := run_loadCells_list (P := P) w a cs hsrc
  have hst := run_storeCells_at P g 0 t cs 0 cur w hg (by simpa using hfit) h1
  cases hq : P.info? elem with
  | none => simp [hq] at hs
  | some i =>
    have hi : i.size = size := by simpa [hq] using hs
    simp [Builtin.copy_, run_underlying hu, Builtin.lenOf, Builtin.firstCells, sizeOf, typeInfo, hq, hi, hl, hld, hst]

theorem wpList_copy_whole {w : World} {ops : Array Oper} {rest : List Oper} {o : Oper} {a : Act} {Q : Exit → Act → World → Prop} (hgd : o.guard = none) (d s : Operand) (dT sT : TypeId)
    (ho : o.op = .call { callee := .builtin .copy, args := #[d, s], argTypes := #[dT, sT] }) (elem : TypeId) (size : Nat) (hu : P.underlying dT = some (.slice elem)) (hsz : (P.info? elem).map (·.size) = some size)
    (B g n : Nat) (ad : Addr) (sCap : Nat) (hd : a.eval d = .slice (some ⟨g, 0, none⟩) n n) (hs : a.eval s = .slice (some ad) n sCap)
    (xs : List Value) (hown : w.ownsRow B elem size (.slice (some ⟨g, 0, none⟩) n n) n xs) (cs : List Value) (hn : cs.length = n * size)
    (hsrc : ∀ j v, cs[j]? = some v → w.cell? (ad.add j) = some v) (h1 : ∀ v ∈ cs, v.oneCell' = true)
    (h : ∀ w', w'.ownsRow B elem size (.slice (some ⟨g, 0, none⟩) n n) n cs → w.grownBy w' (some g) → wpList P ops Q rest (a.put o.dst (goInt n)) w') : wpList P ops Q (o :: rest) a w := by
  refine wpList_plain hgd fun K hK => ?_
  rcases hown.2 with ⟨e, _⟩ | ⟨g', cap', cur, e, hB, hg, hnc, hcm, hcs, ht⟩
  · simp at e
  · simp only [Value.slice.injEq, Option.some.injEq, Addr.mk.injEq, and_true, true_and] at e
    obtain ⟨rfl, rfl⟩ := e
    have hrun := run_copy_whole (P := P) w dT sT o.type elem size g n n ad sCap cur elem cs hu hsz hg hn.symm hsrc (by omega) h1
    unfold Oper.wp
    simp [execOp, ho, resolve, invoke, builtin, hd, hs, hrun, Result.andThen]
    refine hK _ _ (h _ ⟨hn, .inr ⟨g, n, _, rfl, hB, setRow_heap w g _ _ elem _ hg, hnc, hcm, ?_, ?_⟩⟩ ⟨rfl, rfl, rfl, by simp, fun k _ hk => setRow_other w g k _ (fun e => hk (by simp [e]))⟩)
    · simp; omega
    · rw [← hn]; simp
end

theorem infoS : (Tryd.prog.info? 9).map (fun i => (i.zero, i.size, i.bytes)) = some (some (.string ⟨#[]⟩), 1, 16) := by kernel_rfl
theorem infoW : (Tryd.prog.info? 108).map (fun i => (i.zero, i.size, i.bytes)) = some (some (.agg #[.int .i64 0, .int .i64 0, .string ⟨#[]⟩]), 3, 32) := by kernel_rfl
theorem sizeS : (Tryd.prog.info? 9).map (·.size) = some 1 := by kernel_rfl
theorem sizeW : (Tryd.prog.info? 108).map (·.size) = some 3 := by kernel_rfl

theorem strV_one (ss : List ByteArray) : ∀ v ∈ strV ss, v.oneCell' = true := by
  intro v hv
  simp only [strV, List.mem_map] at hv
  obtain ⟨s, _, rfl⟩ := hv
  rfl
theorem ioV_one (xs : List Wr) : ∀ v ∈ ioV xs, v.oneCell' = true := by
  intro v hv
  simp only [ioV, List.mem_flatMap] at hv
  obtain ⟨x, _, hv⟩ := hv
  simp at hv
  rcases hv with rfl | rfl | rfl <;> rfl
/-- A slice that is not empty has an address at which its cells lie. -/
theorem Ss.at {w : World} {ao : Option Addr} {ss : List ByteArray} (h : Ss w ao ss) (hp : 0 < ss.length) : ∃ b off, ao = some ⟨b, off, none⟩ ∧ ∀ j v, (strV ss)[j]? = some v → w.cell? (Addr.add ⟨b, off, none⟩ j) = some v := by
  obtain ⟨b, off, rfl, _⟩ := h 0 hp
  refine ⟨b, off, rfl, fun j v hv => ?_⟩
  have hj : j < ss.length := by have := (List.getElem?_eq_some_iff.1 hv).1; rwa [strV_length] at this
  obtain ⟨b', off', e, hc, _⟩ := h j hj
  simp only [Option.some.injEq, Addr.mk.injEq, and_true] at e
  obtain ⟨rfl, rfl⟩ := e
  rw [strV_get hj] at hv
  cases hv
  rw [show Addr.add ⟨b, off, none⟩ j = ⟨b, off + j, none⟩ from by unfold Addr.add; split <;> simp_all]
  exact hc
theorem ioV_at {xs : List Wr} {j : Nat} {v : Value} (h : (ioV xs)[j]? = some v) : ∃ i r, ∃ hi : i < xs.length, j = i * 3 + r ∧ ((r = 0 ∧ v = .int .i64 xs[i].host) ∨ (r = 1 ∧ v = .int .i64 xs[i].at_) ∨ (r = 2 ∧ v = .string xs[i].data)) := by
  have hj : j < xs.length * 3 := by have := (List.getElem?_eq_some_iff.1 h).1; rwa [ioV_length] at this
  have hi : j / 3 < xs.length := by omega
  obtain ⟨g0, g1, g2⟩ := ioV_get hi
  rcases (show j % 3 = 0 ∨ j % 3 = 1 ∨ j % 3 = 2 by omega) with e | e | e
  · rw [show j = j / 3 * 3 by omega, g0] at h; cases h
    exact ⟨j / 3, 0, hi, by omega, .inl ⟨rfl, rfl⟩⟩
  · rw [show j = j / 3 * 3 + 1 by omega, g1] at h; cases h
    exact ⟨j / 3, 1, hi, by omega, .inr (.inl ⟨rfl, rfl⟩)⟩
  · rw [show j = j / 3 * 3 + 2 by omega, g2] at h; cases h
    exact ⟨j / 3, 2, hi, by omega, .inr (.inr ⟨rfl, rfl⟩)⟩
theorem Ios.at {w : World} {ao : Option Addr} {xs : List Wr} (h : Ios w ao xs) (hp : 0 < xs.length) : ∃ b off, ao = some ⟨b, off, none⟩ ∧ ∀ j v, (ioV xs)[j]? = some v → w.cell? (Addr.add ⟨b, off, none⟩ j) = some v := by
  obtain ⟨b, off, rfl, _⟩ := h 0 hp
  refine ⟨b, off, rfl, fun j v hv => ?_⟩
  obtain ⟨i, r, hi, rfl, hr⟩ := ioV_at hv
  obtain ⟨b', off', e, h0, h1, h2, _⟩ := h i hi
  simp only [Option.some.injEq, Addr.mk.injEq, and_true] at e
  obtain ⟨rfl, rfl⟩ := e
  rw [show Addr.add ⟨b, off, none⟩ (i * 3 + r) = ⟨b, off + i * 3 + r, none⟩ from by unfold Addr.add; split <;> simp_all [Nat.add_assoc]]
  rcases hr with ⟨rfl, rfl⟩ | ⟨rfl, rfl⟩ | ⟨rfl, rfl⟩
  · exact h0
  · exact h1
  · exact h2

set_option maxHeartbeats 1600000 in
theorem copyS_any (ao : Option Addr) (cap : Nat) (ss : List ByteArray) (w : World) (hl : ss.length ≤ 1048576) (hc : Ss w ao ss) :
    Calls Tryd.prog 97 #[.slice ao ss.length cap] w fun e w' => ∃ bo cb, e = .returned (.slice bo ss.length cb) ∧ OwnR w' w.heap.size 9 1 (.slice bo ss.length cb) ss.length (strV ss) ∧ Below w.heap.size w w' := by
  by_cases h0 : ss.length = 0
  · have hb : ((ss.length : Int) == 0) = true := by simp [h0]
    have HE := hide h0
    clear h0 hc
    go_enter Tryd.func97, Tryd.ntmps97
    go_wp2
    go_ret
    rw [unhide HE]
    exact ⟨none, 0, rfl, .inl ⟨rfl, List.eq_nil_of_length_eq_zero (by rw [strV_length, unhide HE]), none, rfl⟩, Below.refl _ _⟩
  · have hb : ((ss.length : Int) == 0) = false := beq_eq_false_iff_ne.2 (by omega)
    obtain ⟨b, off, rfl, hcs⟩ := hc.at (by omega)
    have hbl : b < w.heap.size := by
      obtain ⟨b', off', e, hc', _⟩ := hc 0 (by omega)
      simp only [Option.some.injEq, Addr.mk.injEq, and_true] at e
      obtain ⟨rfl, rfl⟩ := e
      exact World.block_lt_of_cell? _ _ hc'
    have HCS := hide hcs
    have HP := hide h0
    clear hc hcs h0
    obtain ⟨i0, hi, hz0, hz1, hz2⟩ := info_parts infoS
    go_enter Tryd.func97, Tryd.ntmps97
    go_wp2_with (first | (at_make; refine wpList_make_full _ rfl _ _ 22 rfl w.heap.size 9 i0 _ 1 Tryd.underlying22 hi hz0 hz1 _ _ _ _ ss.length rfl rfl rfl rfl ?c1 ?c2 ?c3 ?_))
    case c1 => rw [hz2]; omega
    case c2 => unfold maxLen; omega
    case c3 => exact Nat.le_refl _
    intro w1 hown hgrow
    have hB : Below w.heap.size w w1 := (Below.refl _ _).grown hgrow (Nat.le_refl _) (fun _ h => by cases h)
    have HO := hide hown
    have HB := hide hB
    have HC1 : Hid (∀ j v, (strV ss)[j]? = some v → w1.cell? (Addr.add ⟨b, off, none⟩ j) = some v) := hide (fun j v hv => ((unhide HB).cell (by unfold Addr.add; split <;> exact hbl)).trans (unhide HCS j v hv))
    clear hown hgrow hB
    go_wp2_with (refine wpList_copy_whole rfl _ _ 22 22 rfl 9 1 Tryd.underlying22 sizeS w.heap.size w.heap.size ss.length ⟨b, off, none⟩ _ rfl rfl _ (unhide HO) (strV ss) (by rw [strV_length]; omega) (unhide HC1) (strV_one ss) ?_; intro w2 ho2 hg2)
    have HB2 := hide ((unhide HB).grown hg2 (unhide HB).size (fun k h => by cases h; exact Nat.le_refl _))
    have HO2 := hide ho2
    clear ho2 hg2
    go_ret
    exact ⟨_, _, rfl, OwnR.of (unhide HO2) (fun h => absurd h (unhide HP)), unhide HB2⟩

set_option maxHeartbeats 1600000 in
theorem copyW_any (ao : Option Addr) (cap : Nat) (ss : List Wr) (w : World) (hl : ss.length ≤ 1048576) (hc : Ios w ao ss) :
    Calls Tryd.prog 98 #[.slice ao ss.length cap] w fun e w' => ∃ bo cb, e = .returned (.slice bo ss.length cb) ∧ OwnR w' w.heap.size 108 3 (.slice bo ss.length cb) ss.length (ioV ss) ∧ Below w.heap.size w w' := by
  by_cases h0 : ss.length = 0
  · have hb : ((ss.length : Int) == 0) = true := by simp [h0]
    have HE := hide h0
    clear h0 hc
    go_enter Tryd.func98, Tryd.ntmps98
    go_wp2
    go_ret
    rw [unhide HE]
    exact ⟨none, 0, rfl, .inl ⟨rfl, List.eq_nil_of_length_eq_zero (by rw [ioV_length, unhide HE]), none, rfl⟩, Below.refl _ _⟩
  · have hb : ((ss.length : Int) == 0) = false := beq_eq_false_iff_ne.2 (by omega)
    obtain ⟨b, off, rfl, hcs⟩ := hc.at (by omega)
    have hbl : b < w.heap.size := by
      obtain ⟨b', off', e, hc', _, _, _⟩ := hc 0 (by omega)
      simp only [Option.some.injEq, Addr.mk.injEq, and_true] at e
      obtain ⟨rfl, rfl⟩ := e
      exact World.block_lt_of_cell? _ _ hc'
    have HCS := hide hcs
    have HP := hide h0
    clear hc hcs h0
    obtain ⟨i0, hi, hz0, hz1, hz2⟩ := info_parts infoW
    go_enter Tryd.func98, Tryd.ntmps98
    go_wp2_with (first | (at_make; refine wpList_make_full _ rfl _ _ 30 rfl w.heap.size 108 i0 _ 3 Tryd.underlying30 hi hz0 hz1 _ _ _ _ ss.length rfl rfl rfl rfl ?c1 ?c2 ?c3 ?_))
    case c1 => rw [hz2]; omega
    case c2 => unfold maxLen; omega
    case c3 => exact Nat.le_refl _
    intro w1 hown hgrow
    have hB : Below w.heap.size w w1 := (Below.refl _ _).grown hgrow (Nat.le_refl _) (fun _ h => by cases h)
    have HO := hide hown
    have HB := hide hB
    have HC1 : Hid (∀ j v, (ioV ss)[j]? = some v → w1.cell? (Addr.add ⟨b, off, none⟩ j) = some v) := hide (fun j v hv => ((unhide HB).cell (by unfold Addr.add; split <;> exact hbl)).trans (unhide HCS j v hv))
    clear hown hgrow hB
    go_wp2_with (refine wpList_copy_whole rfl _ _ 30 30 rfl 108 3 Tryd.underlying30 sizeW w.heap.size w.heap.size ss.length ⟨b, off, none⟩ _ rfl rfl _ (unhide HO) (ioV ss) (by rw [ioV_length]) (unhide HC1) (ioV_one ss) ?_; intro w2 ho2 hg2)
    have HB2 := hide ((unhide HB).grown hg2 (unhide HB).size (fun k h => by cases h; exact Nat.le_refl _))
    have HO2 := hide ho2
    clear ho2 hg2
    go_ret
    exact ⟨_, _, rfl, OwnR.of (unhide HO2) (fun h => absurd h (unhide HP)), unhide HB2⟩

end Go.Proofs.YtefnapcegeojoabDoor

/- Contracts of the program's counts: RefsOK, clusterOK, countsOf, countsWith, list, RefUp. -/
namespace Go.Proofs.YtefnapcegeojoabDoor
open Go.RowKit
set_option linter.unusedVariables false
set_option maxRecDepth 100000

theorem sizeA24 : (Tryd.prog.info? 93).map (·.size) = some 24 := by kernel_rfl
theorem arr24 : Tryd.prog.arrayLen 93 = 24 := by kernel_rfl
theorem und24 : Tryd.prog.underlying 93 = some (.array 24 3) := by kernel_rfl
theorem sizeA {xs : List Int} (h : xs.length = 24) : (Tryd.prog.info? 93).map (·.size) = some (intV xs).toArray.size := by rw [intV_size, h]; exact sizeA24
theorem sizeL {xs : List Int} (h : xs.length = 24) : (Tryd.prog.info? 93).map (·.size) = some (intV xs).length := by rw [intV_length, h]; exact sizeA24

set_option maxHeartbeats 800000 in
theorem refsOK_impl (ao : Option Addr) (cap : Nat) (xs : List Int) (w : World) (hl : xs.length ≤ maxLen) (hc : Is w ao xs) :
    Calls Tryd.prog 102 #[.slice ao xs.length cap] w fun e w' => e = .returned (.bool (ctB xs)) ∧ w' = w := by
  have HC := hide hc
  clear hc
  unfold maxLen at hl
  by_cases h24 : xs.length = 24
  · have hb : ((xs.length : Int) != 24) = false := by simp [h24]
    have H24 := hide h24
    clear h24
    go_enter Tryd.func102, Tryd.ntmps102
    go_wp2
    go_loop [10] (fun i => ∃ k : Nat, k ≤ xs.length ∧ i = .int .i64 k ∧ Hid (∀ j (h : j < xs.length), j < k → cnt1 xs[j] = true)) (fun i => xs.length - (intOf i).toNat)
    case atStart => exact ⟨0, Nat.zero_le _, rfl, hide (fun j _ h => by omega)⟩
    case round =>
      obtain ⟨k, hk, rfl, HA⟩ := hrel
      by_cases hlt : k < xs.length
      · obtain ⟨b, off, rfl, hc⟩ := unhide HC k hlt
        by_cases hn : cnt1 xs[k] = true
        · have HN := hide (all_succ hlt (unhide HA) hn)
          have hn' : betw xs[k] 0 15 = true := hn
          clear hn
          go_wp2_with (go_at_call 121; refine (within_any _ _ _ _).mono ?_; rintro e w' ⟨rfl, rfl⟩)
          go_round
          case rel => exact ⟨k + 1, by omega, by go_num, HN⟩
          case measure => simp [intOf]; omega
        · have hn0 : cnt1 xs[k] = false := by simpa using hn
          have hn' : betw xs[k] 0 15 = false := hn0
          have HF := hide (ctB_noat hlt hn0)
          clear hn hn0
          go_wp2_with (go_at_call 121; refine (within_any _ _ _ _).mono ?_; rintro e w' ⟨rfl, rfl⟩)
          go_ret
          exact ⟨ret_bool (unhide HF).symm, rfl⟩
      · have HF := hide (ctB_of (unhide H24) (fun j h => unhide HA j h (by omega)))
        go_wp2
        go_ret
        exact ⟨ret_bool (unhide HF).symm, rfl⟩
  · have hb : ((xs.length : Int) != 24) = true := by simp; omega
    have HF := hide (ctB_nolen h24)
    clear h24
    go_enter Tryd.func102, Tryd.ntmps102
    go_wp2
    go_ret
    exact ⟨ret_bool (unhide HF).symm, rfl⟩

theorem clusterOK_any (c : Int) (w : World) : Calls Tryd.prog 110 #[.int .i64 c] w fun e w' => e = .returned (.bool (betw c 0 23)) ∧ w' = w := by
  go_enter Tryd.func110, Tryd.ntmps110
  go_wp2_with (go_at_call 121; refine (within_any _ _ _ _).mono ?_; rintro e w' ⟨rfl, rfl⟩)
  go_ret
  exact ⟨rfl, rfl⟩

/-- An array of counts as a value. -/
abbrev ctV (xs : List Int) : Value := .agg (intV xs).toArray
theorem zero_arr : (#[.int .i64 0, .int .i64 0, .int .i64 0, .int .i64 0, .int .i64 0, .int .i64 0, .int .i64 0, .int .i64 0, .int .i64 0, .int .i64 0, .int .i64 0, .int .i64 0, .int .i64 0, .int .i64 0, .int .i64 0, .int .i64 0, .int .i64 0, .int .i64 0, .int .i64 0, .int .i64 0, .int .i64 0, .int .i64 0, .int .i64 0, .int .i64 0] : Array Value) = (intV zero24).toArray := rfl
theorem ret_ci {xs ys : List Int} {a b : Int} (h : xs = ys) (k : a = b) : Ending.returned (.tuple #[ctV xs, .int .i64 a]) = .returned (.tuple #[ctV ys, .int .i64 b]) := by rw [h, k]
theorem arr_new (w : World) : (w.alloc (.cells #[.int .i64 0, .int .i64 0, .int .i64 0, .int .i64 0, .int .i64 0, .int .i64 0, .int .i64 0, .int .i64 0, .int .i64 0, .int .i64 0, .int .i64 0, .int .i64 0, .int .i64 0, .int .i64 0, .int .i64 0, .int .i64 0, .int .i64 0, .int .i64 0, .int .i64 0, .int .i64 0, .int .i64 0, .int .i64 0, .int .i64 0, .int .i64 0] 93)).heap[w.heap.size]? = some (.cells (intV zero24).toArray 93 (0, 0)) := heap_alloc_new w _
theorem load_ct (W : World) {g : Nat} {xs : List Int} (h : W.heap[g]? = some (.cells (intV xs).toArray 93 (0, 0))) (hl : xs.length = 24) : (loadVar 93 ⟨g, 0, none⟩).run Tryd.prog W = .ok (ctV xs) W :=
  run_loadVar_row W g 93 93 (intV xs).toArray (0, 0) _ h und24 rfl (sizeA hl)

theorem res_ct {W : World} {g : Nat} {xs : List Int} {p u : Value} (h : W.heap[g]? = some (.cells (intV xs).toArray 93 (0, 0))) (hl : xs.length = 24) (hp : p = .pointer (some ⟨g, 0, none⟩)) : (((asAddr p).run Tryd.prog W).andThen fun a w₁ => ((loadVar 93 a).run Tryd.prog w₁).andThen fun v w₂ => .ok (Value.tuple #[v, u]) w₂) = .ok (Value.tuple #[ctV xs, u]) W := by
  subst hp
  simp only [asAddr, Sem.run_pure, Result.andThen_ok, load_ct W h hl]

set_option maxHeartbeats 1600000 in
theorem countsOf_any (ao : Option Addr) (cap : Nat) (xs : List Int) (w : World) (hl : xs.length ≤ maxLen) (hc : Is w ao xs) :
    Calls Tryd.prog 59 #[.slice ao xs.length cap] w fun e w' => e = .returned (.tuple #[ctV (coR xs), .int .i64 (ctF xs)]) ∧ Below w.heap.size w w' := by
  have HN := hide (arr_new w)
  have HA := hide (Joins.below_alloc1 w (.cells #[.int .i64 0, .int .i64 0, .int .i64 0, .int .i64 0, .int .i64 0, .int .i64 0, .int .i64 0, .int .i64 0, .int .i64 0, .int .i64 0, .int .i64 0, .int .i64 0, .int .i64 0, .int .i64 0, .int .i64 0, .int .i64 0, .int .i64 0, .int .i64 0, .int .i64 0, .int .i64 0, .int .i64 0, .int .i64 0, .int .i64 0, .int .i64 0] 93))
  have HC := hide (hc.below (unhide HA))
  have HL := hide hl
  unfold maxLen at hl
  clear hc
  rcases ctF_cases xs with ⟨h1, h2, h3⟩ | ⟨h1, hb, h2, h3⟩ | ⟨hb, h2, h3⟩
  · have HE := hide (And.intro h2 h3)
    clear h2 h3
    go_enter Tryd.func59, Tryd.ntmps59
    go_upto_region 1 with fail
    revert HN HA HC
    generalize (w.alloc _) = W1
    intro HN HA HC
    go_wp2_with (refine wpList_store_arr rfl 93 _ _ rfl w.heap.size rfl (intV zero24).toArray rfl _ _ (unhide HN) sizeA24 rfl (intV_one _) ?_; intro w2 hn2 hk2 hs2; have HN2 := hide hn2; have HB2 := hide (keep_one (unhide HA) hk2 (Nat.le_refl _)); clear hn2 hk2 hs2)
    refine bodyPost_ret (v := .tuple #[ctV zero24, .int .i64 2]) ?_ rfl ⟨?_, unhide HB2⟩
    · rw [results_cell_tmp Tryd.results59]
      exact res_ct (unhide HN2) rfl rfl
    · exact ret_ci (unhide HE).2.symm (unhide HE).1.symm
  · have HE := hide (And.intro h2 h3)
    clear h2 h3
    go_enter Tryd.func59, Tryd.ntmps59
    go_upto_region 1 with fail
    revert HN HA HC
    generalize (w.alloc _) = W1
    intro HN HA HC
    go_wp2_with (first | (go_at_call 102; refine (refsOK_impl ao cap xs _ (unhide HL) (unhide HC)).mono ?_; rintro e w' ⟨rfl, hw⟩; replace hw := hw.symm; subst hw; rw [hb]) | (refine wpList_store_arr rfl 93 _ _ rfl w.heap.size rfl (intV zero24).toArray rfl _ _ (unhide HN) sizeA24 rfl (intV_one _) ?_; intro w2 hn2 hk2 hs2; have HN2 := hide hn2; have HB2 := hide (keep_one (unhide HA) hk2 (Nat.le_refl _)); clear hn2 hk2 hs2))
    refine bodyPost_ret (v := .tuple #[ctV zero24, .int .i64 1]) ?_ rfl ⟨?_, unhide HB2⟩
    · rw [results_cell_tmp Tryd.results59]
      exact res_ct (unhide HN2) rfl rfl
    · exact ret_ci (unhide HE).2.symm (unhide HE).1.symm
  · have HE := hide (And.intro h2 h3)
    have hlen := ctB_len hb
    have H24 := hide hlen
    obtain ⟨b, off, rfl, hr⟩ := (unhide HC).range (by omega)
    have HR := hide hr
    have har : ∀ W : World, (Instr.arrayAt 93 (.slice (some ⟨b, off, none⟩) xs.length cap)).run Tryd.prog W = .ok (.pointer (some ⟨b, off, none⟩)) W := fun W => run_arrayAt (w := W) 93 3 24 _ _ _ und24 (by omega)
    have hle : ¬ (4096 : Int) < (xs.length : Int) := by omega
    clear h2 h3 hr hlen
    go_enter Tryd.func59, Tryd.ntmps59
    go_upto_region 1 with fail
    revert HN HA HC HR
    generalize (w.alloc _) = W1
    intro HN HA HC HR
    go_wp2_with (first | (go_at_call 102; refine (refsOK_impl _ cap xs _ (unhide HL) (unhide HC)).mono ?_; rintro e w' ⟨rfl, hw⟩; replace hw := hw.symm; subst hw; rw [hb]) | (refine wpList_load_mid rfl 93 _ rfl b off rfl (intV xs) _ (unhide HR) und24 rfl (sizeL (unhide H24)) ?_) | (refine wpList_store_arr rfl 93 _ _ rfl w.heap.size rfl (intV xs).toArray rfl _ _ (unhide HN) (sizeA (unhide H24)) (by rw [intV_size, intV_size, unhide H24]; rfl) (intV_one _) ?_; intro w2 hn2 hk2 hs2; have HN2 := hide hn2; have HB2 := hide (keep_one (unhide HA) hk2 (Nat.le_refl _)); clear hn2 hk2 hs2))
    refine bodyPost_ret (v := .tuple #[ctV xs, .int .i64 0]) ?_ rfl ⟨?_, unhide HB2⟩
    · rw [results_cell_tmp Tryd.results59]
      exact res_ct (unhide HN2) (unhide H24) rfl
    · exact ret_ci (unhide HE).2.symm (unhide HE).1.symm

/-- An array of counts in a variable. -/
abbrev VarC (W : World) (g : Nat) (xs : List Int) : Prop := W.heap[g]? = some (.cells (intV xs).toArray 93 (0, 0))
theorem cw_bad {xs : List Int} {c : Int} (h : ctF xs ≠ 0) : cwF xs c = ctF xs ∧ cwR xs c = zero24 := by
  have e : cwF xs c = ctF xs := by rw [cwF, if_neg h]
  exact ⟨e, by rw [cwR, e, if_neg h]⟩
theorem cw_out {xs : List Int} {c : Int} (h : ctF xs = 0) (hc : betw c 0 23 = false) : cwF xs c = 4 ∧ cwR xs c = zero24 := by
  have e : cwF xs c = 4 := by rw [cwF, if_pos h, hc]; rfl
  exact ⟨e, by rw [cwR, e]; rfl⟩
theorem cw_in {xs : List Int} {c : Int} (h : ctF xs = 0) (hc : betw c 0 23 = true) : cwF xs c = 0 ∧ cwR xs c = xs := by
  have e : cwF xs c = 0 := by rw [cwF, if_pos h, hc]; rfl
  exact ⟨e, by rw [cwR, e]; rfl⟩
theorem ctF_ne (xs : List Int) (h : ctF xs ≠ 0) : (ctF xs != 0) = true := by simpa using h

set_option maxHeartbeats 1600000 in
theorem countsWith_any (ao : Option Addr) (cap : Nat) (xs : List Int) (c : Int) (w : World) (hl : xs.length ≤ maxLen) (hc : Is w ao xs) :
    Calls Tryd.prog 66 #[.slice ao xs.length cap, .int .i64 c] w fun e w' => e = .returned (.tuple #[ctV (cwR xs c), .int .i64 (cwF xs c)]) ∧ Below w.heap.size w w' := by
  have HN := hide (arr_new w)
  have HA := hide (Joins.below_alloc1 w (.cells #[.int .i64 0, .int .i64 0, .int .i64 0, .int .i64 0, .int .i64 0, .int .i64 0, .int .i64 0, .int .i64 0, .int .i64 0, .int .i64 0, .int .i64 0, .int .i64 0, .int .i64 0, .int .i64 0, .int .i64 0, .int .i64 0, .int .i64 0, .int .i64 0, .int .i64 0, .int .i64 0, .int .i64 0, .int .i64 0, .int .i64 0, .int .i64 0] 93))
  have HC := hide (hc.below (unhide HA))
  have HL := hide hl
  have HLC := hide (coR_len xs)
  unfold maxLen at hl
  clear hc
  go_enter Tryd.func66, Tryd.ntmps66
  go_upto_region 1 with fail
  revert HN HA HC
  generalize (w.alloc _) = W1
  intro HN HA HC
  go_wp2_with fail
  refine (countsOf_any ao cap xs _ (unhide HL) (unhide HC)).mono ?_
  rintro e w1 ⟨rfl, hb⟩
  have HN1 := hide (block_of_below (unhide HN) hb)
  have HB1 := hide (fr (unhide HA) hb)
  have HLT : Hid (w.heap.size < w1.heap.size) := hide (Array.getElem?_eq_some_iff.1 (unhide HN1)).1
  clear hb HN HA HC
  have HNN := hide (arr_new w1)
  have HNO := hide (block_of_below (unhide HN1) (Joins.below_alloc1 w1 (.cells #[.int .i64 0, .int .i64 0, .int .i64 0, .int .i64 0, .int .i64 0, .int .i64 0, .int .i64 0, .int .i64 0, .int .i64 0, .int .i64 0, .int .i64 0, .int .i64 0, .int .i64 0, .int .i64 0, .int .i64 0, .int .i64 0, .int .i64 0, .int .i64 0, .int .i64 0, .int .i64 0, .int .i64 0, .int .i64 0, .int .i64 0, .int .i64 0] 93)))
  have HBB := hide (fr (unhide HB1) (Joins.below_alloc1 w1 (.cells #[.int .i64 0, .int .i64 0, .int .i64 0, .int .i64 0, .int .i64 0, .int .i64 0, .int .i64 0, .int .i64 0, .int .i64 0, .int .i64 0, .int .i64 0, .int .i64 0, .int .i64 0, .int .i64 0, .int .i64 0, .int .i64 0, .int .i64 0, .int .i64 0, .int .i64 0, .int .i64 0, .int .i64 0, .int .i64 0, .int .i64 0, .int .i64 0] 93)))
  have HGS : Hid (w.heap.size ≠ w1.heap.size) := hide (by have := unhide HLT; omega)
  have HGL : Hid (w.heap.size ≤ w1.heap.size) := hide (by have := unhide HLT; omega)
  have HSA := hide (World.size_alloc w1 (.cells #[.int .i64 0, .int .i64 0, .int .i64 0, .int .i64 0, .int .i64 0, .int .i64 0, .int .i64 0, .int .i64 0, .int .i64 0, .int .i64 0, .int .i64 0, .int .i64 0, .int .i64 0, .int .i64 0, .int .i64 0, .int .i64 0, .int .i64 0, .int .i64 0, .int .i64 0, .int .i64 0, .int .i64 0, .int .i64 0, .int .i64 0, .int .i64 0] 93))
  by_cases h0 : ctF xs = 0
  · by_cases hcc : betw c 0 23 = true
    · have HE := hide (cw_in h0 hcc)
      have HCO : Hid (coR xs = xs) := hide (by rw [coR, if_pos h0])
      have HL24 : Hid (xs.length = 24) := hide (by have := unhide HLC; rw [unhide HCO] at this; exact this)
      have HNW : Hid (∀ w2 : World, VarC w2 w1.heap.size (coR xs) → VarC w2 w1.heap.size xs) := hide (fun w2 h => by rw [unhide HCO] at h; exact h)
      rw [h0]
      clear h0
      go_wp2_with (first | (refine wpList_store_arr rfl 93 _ _ rfl w1.heap.size rfl (intV (coR xs)).toArray rfl _ _ (unhide HNN) (sizeA (unhide HLC)) (by rw [intV_size, intV_size, unhide HLC]; rfl) (intV_one _) ?_; intro w2 hn2 hk2 hs2; have HN2 := hide hn2; have HR2 : Hid (VarC w2 w.heap.size zero24) := hide ((hk2.block w.heap.size (by rw [unhide HSA]; have := unhide HLT; omega) (unhide HGS)).trans (unhide HNO)); have HB2 := hide (keep_one (unhide HBB) hk2 (unhide HGL)); clear hn2 hk2 hs2) | (go_at_call 110; refine (clusterOK_any _ _).mono ?_; rintro e w' ⟨rfl, hw⟩; replace hw := hw.symm; subst hw; rw [hcc]) | (refine wpList_load_arr rfl 93 _ rfl w1.heap.size rfl (intV xs).toArray _ _ (unhide HNW _ (unhide HN2)) und24 rfl (sizeA (unhide HL24)) ?_) | (refine wpList_store_arr rfl 93 _ _ rfl w.heap.size rfl (intV xs).toArray rfl _ _ (unhide HR2) (sizeA (unhide HL24)) (by rw [intV_size, intV_size, unhide HL24]; rfl) (intV_one _) ?_; intro w3 hn3 hk3 hs3; have HN3 := hide hn3; have HB3 := hide (keep_one (unhide HB2) hk3 (Nat.le_refl _)); clear hn3 hk3 hs3))
      refine bodyPost_ret (v := .tuple #[ctV xs, .int .i64 0]) ?_ rfl ⟨?_, unhide HB3⟩
      · rw [results_cell_tmp Tryd.results66]
        exact res_ct (unhide HN3) (unhide HL24) rfl
      · exact ret_ci (unhide HE).2.symm (unhide HE).1.symm
    · rw [Bool.not_eq_true] at hcc
      have HE := hide (cw_out h0 hcc)
      rw [h0]
      clear h0
      go_wp2_with (first | (refine wpList_store_arr rfl 93 _ _ rfl w1.heap.size rfl (intV (coR xs)).toArray rfl _ _ (unhide HNN) (sizeA (unhide HLC)) (by rw [intV_size, intV_size, unhide HLC]; rfl) (intV_one _) ?_; intro w2 hn2 hk2 hs2; have HN2 := hide hn2; have HR2 : Hid (VarC w2 w.heap.size zero24) := hide ((hk2.block w.heap.size (by rw [unhide HSA]; have := unhide HLT; omega) (unhide HGS)).trans (unhide HNO)); have HB2 := hide (keep_one (unhide HBB) hk2 (unhide HGL)); clear hn2 hk2 hs2) | (go_at_call 110; refine (clusterOK_any _ _).mono ?_; rintro e w' ⟨rfl, hw⟩; replace hw := hw.symm; subst hw; rw [hcc]) | (refine wpList_store_arr rfl 93 _ _ rfl w.heap.size rfl (intV zero24).toArray rfl _ _ (unhide HR2) sizeA24 rfl (intV_one _) ?_; intro w3 hn3 hk3 hs3; have HN3 := hide hn3; have HB3 := hide (keep_one (unhide HB2) hk3 (Nat.le_refl _)); clear hn3 hk3 hs3))
      refine bodyPost_ret (v := .tuple #[ctV zero24, .int .i64 4]) ?_ rfl ⟨?_, unhide HB3⟩
      · rw [results_cell_tmp Tryd.results66]
        exact res_ct (unhide HN3) rfl rfl
      · exact ret_ci (unhide HE).2.symm (unhide HE).1.symm
  · have hne := ctF_ne xs h0
    have HE := hide (cw_bad (c := c) h0)
    clear h0
    go_wp2_with (first | (refine wpList_store_arr rfl 93 _ _ rfl w1.heap.size rfl (intV (coR xs)).toArray rfl _ _ (unhide HNN) (sizeA (unhide HLC)) (by rw [intV_size, intV_size, unhide HLC]; rfl) (intV_one _) ?_; intro w2 hn2 hk2 hs2; have HN2 := hide hn2; have HR2 : Hid (VarC w2 w.heap.size zero24) := hide ((hk2.block w.heap.size (by rw [unhide HSA]; have := unhide HLT; omega) (unhide HGS)).trans (unhide HNO)); have HB2 := hide (keep_one (unhide HBB) hk2 (unhide HGL)); clear hn2 hk2 hs2) | (refine wpList_store_arr rfl 93 _ _ rfl w.heap.size rfl (intV zero24).toArray rfl _ _ (unhide HR2) sizeA24 rfl (intV_one _) ?_; intro w3 hn3 hk3 hs3; have HN3 := hide hn3; have HB3 := hide (keep_one (unhide HB2) hk3 (Nat.le_refl _)); clear hn3 hk3 hs3))
    refine bodyPost_ret (v := .tuple #[ctV zero24, .int .i64 (ctF xs)]) ?_ rfl ⟨?_, unhide HB3⟩
    · rw [results_cell_tmp Tryd.results66]
      exact res_ct (unhide HN3) rfl rfl
    · exact ret_ci (unhide HE).2.symm (unhide HE).1.symm

theorem intV_ones (xs : List Int) : ∀ v ∈ intV xs, v.oneCell' = true := by
  intro v hv
  simp only [intV, List.mem_map] at hv
  obtain ⟨n, _, rfl⟩ := hv
  rfl
theorem sizeI1 : (Tryd.prog.info? 3).map (·.size) = some 1 := by kernel_rfl
theorem runI1 (W : World) : (Go.sizeOf 3).run Tryd.prog W = .ok 1 W := by
  have h := sizeI1
  cases hq : Tryd.prog.info? 3 with
  | none => simp [hq] at h
  | some i =>
    have hi : i.size = 1 := by simpa [hq] using h
    simp [Go.sizeOf, typeInfo, hq, hi]
set_option maxHeartbeats 1600000 in
theorem copyI_any (b off cap : Nat) (ss : List Int) (w : World) (hl : ss.length ≤ 1048576) (h0 : 0 < ss.length) (hbl : b < w.heap.size) (hc : w.rangeAt b off (intV ss)) :
    Calls Tryd.prog 109 #[.slice (some ⟨b, off, none⟩) ss.length cap] w fun e w' => e = .returned (.slice (some ⟨w.heap.size, 0, none⟩) ss.length ss.length) ∧ w'.ownsRow w.heap.size 3 1 (.slice (some ⟨w.heap.size, 0, none⟩) ss.length ss.length) ss.length (intV ss) ∧ Below w.heap.size w w' := by
  have hb : ((ss.length : Int) == 0) = false := beq_eq_false_iff_ne.2 (by omega)
  have HCS := hide hc
  have HP := hide h0
  clear hc h0
  obtain ⟨i0, hi, hz0, hz1, hz2⟩ := info_parts infoM
  go_enter Tryd.func109, Tryd.ntmps109
  go_wp2_with (first | (at_make; refine wpList_make_full _ rfl _ _ 52 rfl w.heap.size 3 i0 _ 1 Tryd.underlying52 hi hz0 hz1 _ _ _ _ ss.length rfl rfl rfl rfl ?c1 ?c2 ?c3 ?_))
  case c1 => rw [hz2]; omega
  case c2 => unfold maxLen; omega
  case c3 => exact Nat.le_refl _
  intro w1 hown hgrow
  have hB : Below w.heap.size w w1 := (Below.refl _ _).grown hgrow (Nat.le_refl _) (fun _ h => by cases h)
  have HO := hide hown
  have HB := hide hB
  have HC1 : Hid (∀ j v, (intV ss)[j]? = some v → w1.cell? (Addr.add ⟨b, off, none⟩ j) = some v) := hide (fun j v hv => ((unhide HB).cell (by unfold Addr.add; split <;> exact hbl)).trans (by rw [Addr.add_mid]; exact unhide HCS j v hv))
  clear hown hgrow hB
  go_wp2_with (refine wpList_copy_whole rfl _ _ 52 52 rfl 3 1 Tryd.underlying52 sizeI1 w.heap.size w.heap.size ss.length ⟨b, off, none⟩ _ rfl rfl _ (unhide HO) (intV ss) (by rw [intV_length]; omega) (unhide HC1) (intV_ones ss) ?_; intro w2 ho2 hg2)
  have HB2 := hide ((unhide HB).grown hg2 (unhide HB).size (fun k h => by cases h; exact Nat.le_refl _))
  have HO2 := hide ho2
  clear ho2 hg2
  go_ret
  exact ⟨rfl, unhide HO2, unhide HB2⟩

theorem slice24 (W : World) (g : Nat) : (Instr.sliceAt 93 (.pointer (some ⟨g, 0, none⟩)) none none none).run Tryd.prog W = .ok (.slice (some ⟨g, 0, none⟩) 24 24) W := by
  have hu : Tryd.prog.underlying 93 = some (.array (Tryd.prog.arrayLen 93) (Tryd.prog.elem 93)) := by kernel_rfl
  have he : Tryd.prog.elem 93 = 3 := by kernel_rfl
  rw [run_sliceAt_array_all W _ _ hu, he, runI1, arr24]
  simp only [Result.andThen, slicedAt, Nat.mul_one, Nat.sub_zero]
  rfl
set_option maxHeartbeats 1600000 in
theorem list_any (xs : List Int) (w : World) (hl : xs.length = 24) :
    Calls Tryd.prog 65 #[ctV xs] w fun e w' => ∃ g, e = .returned (.slice (some ⟨g, 0, none⟩) 24 24) ∧ w'.ownsRow w.heap.size 3 1 (.slice (some ⟨g, 0, none⟩) 24 24) 24 (intV xs) ∧ Below w.heap.size w w' := by
  have HN : Hid (VarC (w.alloc (.cells (intV xs).toArray 93)) w.heap.size xs) := hide (heap_alloc_new w _)
  have HA := hide (Joins.below_alloc1 w (.cells (intV xs).toArray 93))
  have HL := hide hl
  have hsl := fun W => slice24 W w.heap.size
  clear hl
  go_enter Tryd.func65, Tryd.ntmps65
  go_upto_region 1 with fail
  revert HN HA
  generalize (w.alloc _) = W1
  intro HN HA
  go_wp2_with fail
  have k := copyI_any w.heap.size 0 24 xs W1 (by rw [unhide HL]; omega) (by rw [unhide HL]; omega) (Array.getElem?_eq_some_iff.1 (unhide HN)).1 (fun j v hv => by rw [Nat.zero_add, Joins.cell_of_block (unhide HN)]; simpa using hv)
  rw [unhide HL] at k
  refine k.mono ?_
  rintro e w2 ⟨rfl, ho, hb⟩
  have HO := hide (own_base ho (unhide HA).size)
  have HB := hide (fr (unhide HA) hb)
  clear ho hb k
  go_wp2
  go_ret
  exact ⟨_, rfl, unhide HO, unhide HB⟩

theorem idx24 (W : World) (xs : List Int) (k : Nat) (hl : xs.length = 24) (hk : k < xs.length) : (Instr.index 93 (ctV xs) (.int .i64 k)).run Tryd.prog W = .ok (.int .i64 xs[k]) W := by
  have hu := und24
  have hk' : k < 24 := by omega
  have h2 := sizeI1
  cases hq : Tryd.prog.info? 3 with
  | none => simp [hq] at h2
  | some i =>
    have hi : i.size = 1 := by simpa [hq] using h2
    simp [Instr.index, run_underlying, hu, sizeOf, typeInfo, hq, hi, intV, asIntOf, part, hk]
    intro h
    omega

end Go.Proofs.YtefnapcegeojoabDoor

/- Contract of impl.RefUp. -/
namespace Go.Proofs.YtefnapcegeojoabDoor
open Go.RowKit
set_option linter.unusedVariables false
set_option maxRecDepth 100000

/-- What the program's own lists of counts are like. -/
theorem own24 {W : World} {B g : Nat} {xs : List Int} (h : W.ownsRow B 3 1 (.slice (some ⟨g, 0, none⟩) 24 24) 24 (intV xs)) (hl : xs.length = 24) : OwnN W B (.slice (some ⟨g, 0, none⟩) 24 24) xs := by
  refine ⟨some ⟨g, 0, none⟩, 24, by rw [hl], ?_⟩
  rw [hl]
  exact .inr ⟨by omega, h⟩
theorem cw_ne {n : Int} (h : n ≠ 0) : (n != 0) = true := by simpa using h

set_option maxHeartbeats 1600000 in
theorem refUp_impl (ao : Option Addr) (cap : Nat) (xs : List Int) (c : Int) (w : World) (hl : xs.length ≤ maxLen) (hc : Is w ao xs) :
    Calls Tryd.prog 28 #[.slice ao xs.length cap, .int .i64 c] w fun e w' => ∃ v, e = .returned (.tuple #[v, .int .i64 (upF xs c)]) ∧ OwnN w' w.heap.size v (upL xs c) ∧ Below w.heap.size w w' := by
  have HC := hide hc
  have HL := hide hl
  have HLC := hide (cwR_len xs c)
  clear hc
  go_enter Tryd.func28, Tryd.ntmps28
  go_wp2_with fail
  refine (countsWith_any ao cap xs c _ (unhide HL) (unhide HC)).mono ?_
  rintro e w1 ⟨rfl, hb⟩
  have HB1 := hide hb
  have HSZ := hide hb.size
  clear hb HC
  have HNN := hide (arr_new w1)
  have HBB := hide (fr (unhide HB1) (Joins.below_alloc1 w1 (.cells #[.int .i64 0, .int .i64 0, .int .i64 0, .int .i64 0, .int .i64 0, .int .i64 0, .int .i64 0, .int .i64 0, .int .i64 0, .int .i64 0, .int .i64 0, .int .i64 0, .int .i64 0, .int .i64 0, .int .i64 0, .int .i64 0, .int .i64 0, .int .i64 0, .int .i64 0, .int .i64 0, .int .i64 0, .int .i64 0, .int .i64 0, .int .i64 0] 93)))
  rcases cw_cases xs c with ⟨h0, h1, h2, h3, _, _⟩ | ⟨hb, h0, h1, q, rfl, hq⟩
  · have hne := cw_ne h0
    have HE := hide (And.intro h2 h3)
    clear h0 h1 h2 h3
    go_upto_region 2 with (refine wpList_store_arr rfl 93 _ _ rfl w1.heap.size rfl (intV (cwR xs c)).toArray rfl _ _ (unhide HNN) (sizeA (unhide HLC)) (by rw [intV_size, intV_size, unhide HLC]; rfl) (intV_one _) ?_; intro w2 hn2 hk2 hs2; have HN2 := hide hn2; have HB2 := hide (keep_one (unhide HBB) hk2 (unhide HSZ)); clear hn2 hk2 hs2 HNN HBB HB1)
    go_wp2
    go_ret2
    exact ⟨.slice none 0 0, ret_ni rfl (unhide HE).1.symm, by rw [(unhide HE).2]; exact OwnN.nil _ _ _, unhide HB2⟩
  · have H24 := hide (ctB_len hb)
    have HAT := hide (ctB_at hb q hq)
    have HUP := hide (up_at h0 hq)
    have H1 := hide h1
    rw [h0]
    clear h1 h0
    go_upto_region 2 with (refine wpList_store_arr rfl 93 _ _ rfl w1.heap.size rfl (intV (cwR xs q)).toArray rfl _ _ (unhide HNN) (sizeA (unhide HLC)) (by rw [intV_size, intV_size, unhide HLC]; rfl) (intV_one _) ?_; intro w2 hn2 hk2 hs2; have HN2 := hide hn2; have HB2 := hide (keep_one (unhide HBB) hk2 (unhide HSZ)); clear hn2 hk2 hs2 HNN HBB HB1)
    have HN3 : Hid (VarC w2 w1.heap.size xs) := hide (by rw [← unhide H1]; exact unhide HN2)
    replace HN2 := HN3
    clear HN3 hb HLC
    generalize w1.heap.size = G at *
    have hcell := arr_cell (unhide HN2) hq
    have hfz := Joins.unfrozen_of_block (unhide HN2) q
    have hq24 : (q : Int) < 24 := by have := unhide H24; omega
    have hq24' : q < 24 := by have := unhide H24; omega
    have hgl := (Array.getElem?_eq_some_iff.1 (unhide HN2)).1
    by_cases h15 : xs[q] = 15
    · have HE := hide ((unhide HUP).1 h15)
      have b15 : (xs[q] == 15) = true := by simp [h15]
      clear h15
      go_wp2_with (first | (refine wpList_load_arr rfl 93 _ rfl G rfl (intV xs).toArray _ _ (unhide HN2) und24 rfl (sizeA (unhide H24)) ?_) | fail)
      refine (list_any xs _ (unhide H24)).mono ?_
      rintro e w3 ⟨g3, rfl, ho, hb⟩
      have HO := hide (own24 (own_base ho (unhide HB2).size) (unhide H24))
      have HB3 := hide (fr (unhide HB2) hb)
      clear ho hb
      go_wp2
      go_ret2
      exact ⟨_, ret_ni rfl (unhide HE).1.symm, by rw [(unhide HE).2]; exact unhide HO, unhide HB3⟩
    · have HE := hide ((unhide HUP).2 h15)
      have b15 : (xs[q] == 15) = false := by simp [h15]
      have hwr : IntKind.i64.wrap (xs[q] + 1) = xs[q] + 1 := by have := unhide HAT; rw [IntKind.wrap_i64]; omega
      have HS3 := hide (arr_set (unhide HN2) q (xs[q] + 1))
      have HL3 : Hid ((xs.set q (xs[q] + 1)).length = 24) := hide (by rw [List.length_set]; exact unhide H24)
      have HB3 := hide ((unhide HB2).setCell (p := ⟨G, q, none⟩) (unhide HSZ) (.int .i64 (xs[q] + 1)))
      clear h15
      go_upto_region 7 with fail
      revert HS3 HB3
      generalize w2.setCell _ _ = W3
      intro HS3 HB3
      go_wp2_with (first | (refine wpList_load_arr rfl 93 _ rfl G rfl (intV (xs.set q (xs[q] + 1))).toArray _ _ (unhide HS3) und24 rfl (sizeA (unhide HL3)) ?_) | fail)
      refine (list_any (xs.set q (xs[q] + 1)) _ (unhide HL3)).mono ?_
      rintro e w3 ⟨g3, rfl, ho, hb⟩
      have HO := hide (own24 (own_base ho (unhide HB3).size) (unhide HL3))
      have HB4 := hide (fr (unhide HB3) hb)
      clear ho hb
      go_wp2
      go_ret2
      exact ⟨_, ret_ni rfl (unhide HE).1.symm, by rw [(unhide HE).2]; exact unhide HO, unhide HB4⟩

end Go.Proofs.YtefnapcegeojoabDoor

/- Contracts of impl.RefDown and of what it calls: less, which panics below 0, and the deferred call that recovers it. -/
namespace Go.Proofs.YtefnapcegeojoabDoor
open Go.RowKit
set_option linter.unusedVariables false
set_option maxRecDepth 100000

def BzW (w : World) : Prop := ∃ u pv, w.cell? ⟨0, 0, none⟩ = some (.iface u pv)
theorem BzW.below {w w' : World} (h : BzW w) (hb : Below w.heap.size w w') : BzW w' := by
  obtain ⟨u, pv, hc⟩ := h
  exact ⟨u, pv, (hb.cell (p := ⟨0, 0, none⟩) (World.block_lt_of_cell? _ _ hc)).trans hc⟩
theorem BzW.keep {w w' : World} {S : Nat → Prop} (h : BzW w) (hk : Keep S w w') (hs : ∀ k, S k → 0 ≠ k) : BzW w' := by
  obtain ⟨u, pv, hc⟩ := h
  refine ⟨u, pv, ?_⟩
  have hl := World.block_lt_of_cell? _ _ hc
  rw [← hc]
  unfold World.cell?
  simp only [hk.block 0 hl (fun hS => hs _ hS rfl)]
theorem BzW.pos {w : World} (h : BzW w) : 0 < w.heap.size := by
  obtain ⟨u, pv, hc⟩ := h
  exact World.block_lt_of_cell? _ _ hc

set_option maxHeartbeats 1600000 in
theorem less_yes (g q : Nat) (xs : List Int) (w : World) (hv : VarC w g xs) (hl : xs.length = 24) (hq : q < xs.length) (h0 : ¬ xs[q] = 0) (hr : 0 ≤ xs[q] ∧ xs[q] ≤ 15) :
    Calls Tryd.prog 68 #[.pointer (some ⟨g, 0, none⟩), .int .i64 q] w fun e w' => e = .returned (.tuple #[]) ∧ VarC w' g (xs.set q (xs[q] - 1)) ∧ Keep (fun k => k = g) w w' := by
  have hcell := arr_cell hv hq
  have hfz := Joins.unfrozen_of_block hv q
  have hq24 : (q : Int) < 24 := by omega
  have hq24' : q < 24 := by omega
  have b0 : (xs[q] == 0) = false := by simp [h0]
  have hwr : IntKind.i64.wrap (xs[q] - 1) = xs[q] - 1 := by rw [IntKind.wrap_i64]; omega
  have HS := hide (arr_set hv q (xs[q] - 1))
  have HK := hide (Keep.setCell (S := fun k => k = g) (Keep.refl _ w) (p := ⟨g, q, none⟩) rfl (.int .i64 (xs[q] - 1)))
  clear hv h0 hl
  go_enter Tryd.func68, Tryd.ntmps68
  go_wp2
  go_region
  all_goals
    go_wp2
    go_end0
    exact ⟨rfl, unhide HS, ⟨(unhide HK).os, (unhide HK).tape, (unhide HK).output, (unhide HK).size, (unhide HK).block⟩⟩

set_option maxHeartbeats 1600000 in
theorem less_no (g q : Nat) (xs : List Int) (w : World) (hv : VarC w g xs) (hl : xs.length = 24) (hq : q < xs.length) (h0 : xs[q] = 0) (hE : BzW w) :
    Calls Tryd.prog 68 #[.pointer (some ⟨g, 0, none⟩), .int .i64 q] w fun e w' => (∃ u pv, e = .panicked [{ v := .iface u pv, recovered := false }]) ∧ w' = w := by
  obtain ⟨u, pv, hc⟩ := hE
  have hp := fun w => run_panic_iface Tryd.prog w u pv
  have hcell := arr_cell hv hq
  have hq24 : (q : Int) < 24 := by omega
  have hq24' : q < 24 := by omega
  have b0 : (xs[q] == 0) = true := by simp [h0]
  clear hv h0 hl
  go_enter Tryd.func68, Tryd.ntmps68
  go_wp2
  exact ⟨rfl, ⟨u, pv, rfl⟩, rfl⟩

/-- What the recovering call leaves behind. -/
structure Caught (w W : World) (O C g : Nat) (n : Int) (xs : List Int) : Prop where
  w1 : ∃ w1, W = (w1.setCell ⟨O, 0, none⟩ (.slice (some ⟨g, 0, none⟩) 24 24)).setCell ⟨C, 0, none⟩ (.int .i64 n) ∧ w1.ownsRow w.heap.size 3 1 (.slice (some ⟨g, 0, none⟩) 24 24) 24 (intV xs) ∧ Below w.heap.size w w1

set_option maxHeartbeats 1600000 in
theorem catchC_panicking (G O C : Nat) (xs : List Int) (x : Value) (y : Int) (u : TypeId) (pv : Value) (older : List PanicEntry) (w : World) (hv : VarC w G xs) (hl : xs.length = 24)
    (hO : w.heap[O]? = some (.cells #[x] 52 (0, 0))) (hC : w.heap[C]? = some (.cells #[.int .i64 y] 3 (0, 0))) (hOC : O ≠ C) :
    CallsD Tryd.prog 67 #[.pointer (some ⟨G, 0, none⟩), .pointer (some ⟨O, 0, none⟩), .pointer (some ⟨C, 0, none⟩)] (.panicking ({ v := .iface u pv, recovered := false } :: older)) w fun e u' w' =>
      e = .returned (.tuple #[]) ∧ u' = .panicking ({ v := .iface u pv, recovered := true } :: older) ∧ ∃ g, Caught w w' O C g 5 xs := by
  refine callsD_of_wpS Tryd.func67 rfl fun c₀ cs hu => ?_
  apply wpS_seq
  apply wpS_region
  simp [wpOpsS, go_sem, recoverD, hu, Tryd.ntmps67, Exit.thenS]
  refine wpS_cond (t := true) (by simp [Act.eval, Array.replicate]) ?_
  simp only [if_true]
  refine wpS_of_wp ?_
  have HV := hide hv
  have HL := hide hl
  have HOO := hide hO
  have HCC := hide hC
  have HOC := hide hOC
  clear hv hl hO hC hOC hu
  show Code.wp Tryd.prog _ _ ({ tmps := #[.pointer (some ⟨G, 0, none⟩), .pointer (some ⟨O, 0, none⟩), .pointer (some ⟨C, 0, none⟩), .iface u pv, .bool true, undef, undef], defers := [] } : Act) w
  go_wp2_with (refine wpList_load_arr rfl 93 _ rfl G rfl (intV xs).toArray _ _ (unhide HV) und24 rfl (sizeA (unhide HL)) ?_)
  refine (list_any xs _ (unhide HL)).mono ?_
  rintro e w1 ⟨g, rfl, ho, hb⟩
  have hOc := block_of_below (unhide HOO) hb
  have hCc := block_of_below (unhide HCC) hb
  have oc0 : w1.cell? ⟨O, 0, none⟩ = some x := by rw [Joins.cell_of_block hOc]; rfl
  have of0 := Joins.unfrozen_of_block hOc 0
  have cc0 : w1.cell? ⟨C, 0, none⟩ = some (.int .i64 y) := by rw [Joins.cell_of_block hCc]; rfl
  have cf0 := Joins.unfrozen_of_block hCc 0
  have hne : O ≠ C := unhide HOC
  have hne' : C ≠ O := fun h => unhide HOC h.symm
  have HR := hide (And.intro ho hb)
  clear ho hb hOc hCc
  go_wp2
  exact ⟨rfl, _, rfl, .tuple #[], by simp [results, Tryd.results67], rfl, rfl, g, ⟨⟨w1, rfl, (unhide HR).1, (unhide HR).2⟩⟩⟩

theorem catchC_idle (p q r : Addr) (w : World) :
    CallsD Tryd.prog 67 #[.pointer (some p), .pointer (some q), .pointer (some r)] .returning w fun e u' w' => e = .returned (.tuple #[]) ∧ u' = .returning ∧ w' = w := by
  refine callsD_of_wpS Tryd.func67 rfl fun c₀ cs hu => ?_
  apply wpS_seq
  apply wpS_region
  simp [wpOpsS, go_sem, recoverD, hu, Tryd.ntmps67, Exit.thenS]
  refine wpS_cond (t := false) (by simp [Act.eval, Array.replicate]) ?_
  simp only [Bool.false_eq_true, if_false]
  refine wpS_of_wp (wp_skip ?_)
  cases c₀
  simp_all [bodyPostS, results, Tryd.results67]

theorem cell_of1 {W : World} {b : Nat} {v : Value} {t : TypeId} (h : W.heap[b]? = some (.cells #[v] t (0, 0))) : W.cell? ⟨b, 0, none⟩ = some v ∧ W.frozen? ⟨b, 0, none⟩ = false := ⟨by rw [Joins.cell_of_block h]; rfl, Joins.unfrozen_of_block h 0⟩
theorem set_of1 {W : World} {b : Nat} {v : Value} {t : TypeId} (h : W.heap[b]? = some (.cells #[v] t (0, 0))) (u : Value) : (W.setCell ⟨b, 0, none⟩ u).heap[b]? = some (.cells #[u] t (0, 0)) := Joins.block_setCell h u
theorem set_oth {W : World} {b k : Nat} {o : Obj} (h : W.heap[k]? = some o) (hk : k ≠ b) (u : Value) : (W.setCell ⟨b, 0, none⟩ u).heap[k]? = some o := by
  rw [Below.heap_setCell W ⟨b, 0, none⟩ u k hk]; exact h

/-- RefDown's variables: the answer, its code, the counts. -/
structure Dn (w W : World) (O C G : Nat) (x : Value) (n : Int) (xs : List Int) : Prop where
  o : W.heap[O]? = some (.cells #[x] 52 (0, 0))
  c : W.heap[C]? = some (.cells #[.int .i64 n] 3 (0, 0))
  g : VarC W G xs
  k : Below w.heap.size w W
  oo : w.heap.size ≤ O
  oc : O < C
  cg : C < G
theorem Dn.step {w W W' : World} {O C G : Nat} {x : Value} {n : Int} {xs : List Int} (h : Dn w W O C G x n xs) (hb : Below W.heap.size W W') : Dn w W' O C G x n xs :=
  ⟨block_of_below h.o hb, block_of_below h.c hb, block_of_below h.g hb, fr h.k hb, h.oo, h.oc, h.cg⟩
theorem Dn.less {w W W' : World} {O C G : Nat} {x : Value} {n : Int} {xs ys : List Int} (h : Dn w W O C G x n xs) (hg : VarC W' G ys) (hk : Keep (fun k => k = G) W W') : Dn w W' O C G x n ys :=
  ⟨(hk.block O (Array.getElem?_eq_some_iff.1 h.o).1 (by have := h.oc; have := h.cg; omega)).trans h.o, (hk.block C (Array.getElem?_eq_some_iff.1 h.c).1 (by have := h.cg; omega)).trans h.c, hg, keep_one h.k hk (by have := h.oo; have := h.oc; have := h.cg; omega), h.oo, h.oc, h.cg⟩
/-- The row that is answered, behind the two last stores. -/
theorem dn_own {W : World} {B O C g : Nat} {xs : List Int} (ho : W.ownsRow B 3 1 (.slice (some ⟨g, 0, none⟩) 24 24) 24 (intV xs)) (hl : xs.length = 24) (hO : O < B) (hC : C < B) (u v : Value) {B' : Nat} (hB : B' ≤ B) : OwnN ((W.setCell ⟨O, 0, none⟩ u).setCell ⟨C, 0, none⟩ v) B' (.slice (some ⟨g, 0, none⟩) 24 24) xs := by
  have h := own24 ho hl
  obtain ⟨qo, qa, e, hr⟩ := h
  exact ⟨qo, qa, e, ((hr.setCell (a := ⟨O, 0, none⟩) hO u).setCell (a := ⟨C, 0, none⟩) hC v).base hB⟩
theorem two_cells {W : World} {O C : Nat} {x y u v : Value} (ho : W.cell? ⟨O, 0, none⟩ = some x) (hc : W.cell? ⟨C, 0, none⟩ = some y) (hne : O ≠ C) : ((W.setCell ⟨O, 0, none⟩ u).setCell ⟨C, 0, none⟩ v).cell? ⟨O, 0, none⟩ = some u ∧ ((W.setCell ⟨O, 0, none⟩ u).setCell ⟨C, 0, none⟩ v).cell? ⟨C, 0, none⟩ = some v := by
  have hne' : ¬ C = O := fun h => hne h.symm
  constructor
  · rw [World.cell?_setCell_other _ _ _ _ (by simp), World.cell?_setCell_same _ _ _ ho]
  · refine World.cell?_setCell_same _ _ _ (u := y) ?_
    rw [World.cell?_setCell_other _ _ _ _ (by simp), hc]

theorem Dn.setC {w W : World} {O C G : Nat} {x : Value} {n : Int} {xs : List Int} (h : Dn w W O C G x n xs) (m : Int) : Dn w (W.setCell ⟨C, 0, none⟩ (.int .i64 m)) O C G x m xs :=
  ⟨set_oth h.o (by have := h.oc; omega) _, set_of1 h.c _, set_oth h.g (by have := h.cg; omega) _, h.k.setCell (p := ⟨C, 0, none⟩) (by have := h.oo; have := h.oc; show w.heap.size ≤ C; omega) _, h.oo, h.oc, h.cg⟩
theorem Dn.setOC {w W : World} {O C G : Nat} {x : Value} {n : Int} {xs : List Int} (h : Dn w W O C G x n xs) (v : Value) (m : Int) : Dn w ((W.setCell ⟨O, 0, none⟩ v).setCell ⟨C, 0, none⟩ (.int .i64 m)) O C G v m xs :=
  Dn.setC ⟨set_of1 h.o _, set_oth h.c (by have := h.oc; omega) _, set_oth h.g (by have := h.oc; have := h.cg; omega) _, h.k.setCell (p := ⟨O, 0, none⟩) h.oo _, h.oo, h.oc, h.cg⟩ m

set_option maxHeartbeats 3200000 in
theorem refDown_impl (ao : Option Addr) (cap : Nat) (xs : List Int) (c : Int) (w : World) (hl : xs.length ≤ maxLen) (hc : Is w ao xs) (hE : BzW w) :
    Calls Tryd.prog 30 #[.slice ao xs.length cap, .int .i64 c] w fun e w' => ∃ v, e = .returned (.tuple #[v, .int .i64 (dnF xs c)]) ∧ OwnN w' w.heap.size v (dnL xs c) ∧ Below w.heap.size w w' := by
  have hmf : ∀ (fn : Fn) (first cap : Array Value) (w : World), (Instr.makeFunc fn first cap).run Tryd.prog w = .ok (.func fn first cap) w := fun _ _ _ _ => rfl
  have HA := hide (Joins.below_alloc2 w (.cells #[.slice none 0 0] 52) (.cells #[.int .i64 0] 3))
  have HO : Hid (((w.alloc (.cells #[.slice none 0 0] 52)).alloc (.cells #[.int .i64 0] 3)).heap[w.heap.size]? = some (.cells #[.slice none 0 0] 52 (0, 0))) := hide (block_of_below (heap_alloc_new w _) (Joins.below_alloc1 _ _))
  have HCC : Hid (((w.alloc (.cells #[.slice none 0 0] 52)).alloc (.cells #[.int .i64 0] 3)).heap[w.heap.size + 1]? = some (.cells #[.int .i64 0] 3 (0, 0))) := hide (heap_alloc2_new w _ _)
  have HI := hide (hc.below (unhide HA))
  have HE := hide (hE.below (unhide HA))
  have HL := hide hl
  have HLC := hide (cwR_len xs c)
  have HPS := hE.pos
  clear hc hE
  go_enter_defers Tryd.func30, Tryd.ntmps30
  go_upto_region 1 with fail
  revert HA HO HCC HI HE
  generalize ((w.alloc _).alloc _) = W0
  intro HA HO HCC HI HE
  go_wp2_with fail
  refine (countsWith_any ao cap xs c _ (unhide HL) (unhide HI)).mono ?_
  rintro e w1 ⟨rfl, hb⟩
  have HB1 := hide (fr (unhide HA) hb)
  have HO1 := hide (block_of_below (unhide HO) hb)
  have HC1 := hide (block_of_below (unhide HCC) hb)
  have HE1 := hide ((unhide HE).below hb)
  clear hb HA HO HCC HI HE
  have HNN := hide (arr_new w1)
  have HA1 := hide (Joins.below_alloc1 w1 (.cells #[.int .i64 0, .int .i64 0, .int .i64 0, .int .i64 0, .int .i64 0, .int .i64 0, .int .i64 0, .int .i64 0, .int .i64 0, .int .i64 0, .int .i64 0, .int .i64 0, .int .i64 0, .int .i64 0, .int .i64 0, .int .i64 0, .int .i64 0, .int .i64 0, .int .i64 0, .int .i64 0, .int .i64 0, .int .i64 0, .int .i64 0, .int .i64 0] 93))
  have HLT : Hid (w.heap.size + 1 < w1.heap.size) := hide (Array.getElem?_eq_some_iff.1 (unhide HC1)).1
  go_upto_region 2 with (refine wpList_store_arr rfl 93 _ _ rfl w1.heap.size rfl (intV (cwR xs c)).toArray rfl _ _ (unhide HNN) (sizeA (unhide HLC)) (by rw [intV_size, intV_size, unhide HLC]; rfl) (intV_one _) ?_; intro w2 hn2 hk2 hs2; have HD2 : Hid (Dn w w2 w.heap.size (w.heap.size + 1) w1.heap.size (.slice none 0 0) 0 (cwR xs c)) := hide ⟨(hk2.block w.heap.size (by rw [World.size_alloc]; have := unhide HLT; omega) (by have := unhide HLT; omega)).trans (block_of_below (unhide HO1) (unhide HA1)), (hk2.block (w.heap.size + 1) (by rw [World.size_alloc]; have := unhide HLT; omega) (by have := unhide HLT; omega)).trans (block_of_below (unhide HC1) (unhide HA1)), hn2, keep_one (fr (unhide HB1) (unhide HA1)) hk2 (by have := unhide HLT; omega), Nat.le_refl _, by omega, unhide HLT⟩; have HE2 := hide (((unhide HE1).below (unhide HA1)).keep hk2 (fun k hk => by have := (unhide HE1).pos; omega)); obtain ⟨cc2, cf2⟩ := cell_of1 (unhide HD2).c; clear hn2 hk2 hs2 HNN HB1 HO1 HC1 HE1 HA1)
  have HD3 := hide ((unhide HD2).setC (cwF xs c))
  have HE3 := hide ((unhide HE2).keep (Keep.setCell (S := fun k => k = w.heap.size + 1) (Keep.refl _ w2) (p := ⟨w.heap.size + 1, 0, none⟩) rfl (.int .i64 (cwF xs c))) (fun k hk => by have := HPS; omega))
  clear cc2 cf2 HD2 HE2
  revert HD3 HE3
  generalize (w2.setCell _ _) = W3
  intro HD3 HE3
  generalize w.heap.size + 1 = C at *
  generalize w1.heap.size = G at *
  obtain ⟨oc3, of3⟩ := cell_of1 (unhide HD3).o
  obtain ⟨cc3, cf3⟩ := cell_of1 (unhide HD3).c
  have hne : w.heap.size ≠ C := by have := (unhide HD3).oc; omega
  have hne' : C ≠ w.heap.size := by have := (unhide HD3).oc; omega
  rcases cw_cases xs c with ⟨h0, h1, _, _, h2, h3⟩ | ⟨hb, h0, h1, q, rfl, hq⟩
  · have b0 := cw_ne h0
    have HF := hide (And.intro h2 h3)
    have HD4 := hide ((unhide HD3).setOC (.slice none 0 0) (cwF xs c))
    clear h0 h1 h2 h3
    go_wp2
    go_region
    all_goals
      go_wp2
      obtain ⟨r1, r2⟩ := two_cells (u := .slice none 0 0) (v := .int .i64 (cwF xs c)) oc3 cc3 hne
      simp [bodyPostD, Leaves, results, Tryd.results30, go_sem, r1, r2]
      refine ⟨.slice none 0 0, ?_, by rw [(unhide HF).2]; exact OwnN.nil _ _ _, (unhide HD4).k.drew⟩
      first | exact ⟨rfl, (unhide HF).1.symm⟩ | exact ret_ni rfl (unhide HF).1.symm
  · have HAT := hide (ctB_at hb q hq)
    have HDN := hide (dn_at h0 hq)
    have H24 := hide (ctB_len hb)
    have HD4 : Hid (Dn w W3 w.heap.size C G (.slice none 0 0) (cwF xs q) xs) := hide (by have := unhide HD3; rw [h1] at this; exact this)
    rw [h0] at HD4 cc3
    rw [h0]
    clear h1 h0 hb HD3 HLC
    by_cases hz : xs[q] = 0
    · have HF := hide ((unhide HDN).1 hz)
      have HZ := hide hz
      clear hz
      go_wp2_with fail
      refine (less_no G q xs _ (unhide HD4).g (unhide H24) hq (unhide HZ) (unhide HE3)).mono ?_
      rintro e w4 ⟨⟨u, pv, rfl⟩, hw⟩
      replace hw := hw.symm
      subst hw
      go_wp2
      refine leaves_cons (f := 67) (args := #[.pointer (some ⟨G, 0, none⟩), .pointer (some ⟨w.heap.size, 0, none⟩), .pointer (some ⟨C, 0, none⟩)]) (by simp) (by simp [go_sem]) ?_
      refine (catchC_panicking G w.heap.size C xs _ _ u pv [] _ (unhide HD4).g (unhide H24) (unhide HD4).o (unhide HD4).c hne).mono ?_
      rintro e u' w'' ⟨rfl, rfl, g, ⟨w5, rfl, ho, hb⟩⟩
      have HD5 := hide ((unhide HD4).step hb)
      obtain ⟨r1, r2⟩ := two_cells (u := .slice (some ⟨g, 0, none⟩) 24 24) (v := .int .i64 5) (cell_of1 (unhide HD5).o).1 (cell_of1 (unhide HD5).c).1 hne
      have HOW := hide (dn_own ho (unhide H24) (Array.getElem?_eq_some_iff.1 (unhide HD4).o).1 (Array.getElem?_eq_some_iff.1 (unhide HD4).c).1 (.slice (some ⟨g, 0, none⟩) 24 24) (.int .i64 5) (unhide HD4).k.size)
      have HD6 := hide ((unhide HD5).setOC (.slice (some ⟨g, 0, none⟩) 24 24) 5)
      clear ho hb
      simp [Leaves, settle, results, Tryd.results30, go_sem, r1, r2]
      refine ⟨.slice (some ⟨g, 0, none⟩) 24 24, ?_, by rw [(unhide HF).2]; exact unhide HOW, (unhide HD6).k⟩
      first | exact ⟨rfl, (unhide HF).1.symm⟩ | exact ret_ni rfl (unhide HF).1.symm
    · have HF := hide ((unhide HDN).2 hz)
      have HZ := hide hz
      clear hz
      go_wp2_with fail
      refine (less_yes G q xs _ (unhide HD4).g (unhide H24) hq (unhide HZ) (unhide HAT)).mono ?_
      rintro e w4 ⟨rfl, hg4, hk4⟩
      have HD5 := hide ((unhide HD4).less hg4 hk4)
      have HL5 : Hid ((xs.set q (xs[q] - 1)).length = 24) := hide (by rw [List.length_set]; exact unhide H24)
      clear hg4 hk4 oc3 of3 cc3 cf3
      go_wp2_with (refine wpList_load_arr rfl 93 _ rfl G rfl (intV (xs.set q (xs[q] - 1))).toArray _ _ (unhide HD5).g und24 rfl (sizeA (unhide HL5)) ?_)
      refine (list_any (xs.set q (xs[q] - 1)) _ (unhide HL5)).mono ?_
      rintro e w5 ⟨g, rfl, ho, hb⟩
      have HD6 := hide ((unhide HD5).step hb)
      obtain ⟨oc6, of6⟩ := cell_of1 (unhide HD6).o
      obtain ⟨cc6, cf6⟩ := cell_of1 (unhide HD6).c
      obtain ⟨r1, r2⟩ := two_cells (u := .slice (some ⟨g, 0, none⟩) 24 24) (v := .int .i64 0) oc6 cc6 hne
      have HOW := hide (dn_own ho (unhide HL5) (Array.getElem?_eq_some_iff.1 (unhide HD5).o).1 (Array.getElem?_eq_some_iff.1 (unhide HD5).c).1 (.slice (some ⟨g, 0, none⟩) 24 24) (.int .i64 0) (unhide HD5).k.size)
      have HD7 := hide ((unhide HD6).setOC (.slice (some ⟨g, 0, none⟩) 24 24) 0)
      clear ho hb
      go_wp2
      refine leaves_cons (f := 67) (args := #[.pointer (some ⟨G, 0, none⟩), .pointer (some ⟨w.heap.size, 0, none⟩), .pointer (some ⟨C, 0, none⟩)]) (by simp) (by simp [go_sem]) ?_
      refine (catchC_idle _ _ _ _).mono ?_
      rintro e u' w'' ⟨rfl, rfl, rfl⟩
      simp [Leaves, settle, results, Tryd.results30, go_sem, r1, r2]
      refine ⟨.slice (some ⟨g, 0, none⟩) 24 24, ?_, by rw [(unhide HF).2]; exact unhide HOW, (unhide HD7).k⟩
      first | exact ⟨rfl, (unhide HF).1.symm⟩ | exact ret_ni rfl (unhide HF).1.symm

end Go.Proofs.YtefnapcegeojoabDoor
