import Derived.Test.YtmkegkpnomcnhabGreatRows
import Derived.Test.YtmkegkpnomcnhabGreatPart1
import Derived.Test.YtmkegkpnomcnhabGreatPart5
import Derived.Test.YtmkegkpnomcnhabGreatPart13
import Derived.WalkKit
import Derived.WalkSpells
import Derived.BigQuiet
import Derived.Deep.QuietTactic
import Derived.Deep.RegionWith
import Derived.LoopN
import Derived.Laws.CopyRow
import Derived.Laws.CopyOwn
import Derived.Outline
import Derived.Test.YtmkegkpnomcnhabGreatPart7
import Derived.Deep.RegionLawGrows
import Derived.Deep.RegionHeld3
import Derived.Deep.AppendLies
import Derived.Test.YtmkegkpnomcnhabGreatPart2

/- Contracts of the laws' own hands on lists of updates: toUpdateS, eqUpdateS, szUpdateS, markUpdateS, heldUpdateS. -/
namespace Go.Proofs.YtmkegkpnomcnhabGreat
open Go.RowKit
set_option linter.unusedVariables false
set_option maxRecDepth 100000

theorem infoUp : (Tryz.prog.info? 52).map (fun i => (i.zero, i.size, i.bytes)) = some (some (.agg #[.int .i64 0, .string ⟨#[]⟩]), 2, 24) := by kernel_rfl

set_option maxHeartbeats 1600000 in
theorem eqUpdateS_same (ao bo : Option Addr) (ca cb : Nat) (xs : List Up) (w : World) (hl : xs.length ≤ 1048576) (hc : Ups w ao xs) (hd : Ups w bo xs) :
    Calls Tryz.prog 9 #[.slice ao xs.length ca, .slice bo xs.length cb] w fun e w' => e = .returned (.bool true) ∧ Below w.heap.size w w' := by
  have HC := hide hc
  have HD := hide hd
  clear hc hd
  go_enter Tryz.func9, Tryz.ntmps9
  go_wp2
  go_loopw [5] (fun i wr => ∃ k : Nat, k ≤ xs.length ∧ i = .int .i64 k ∧ Hid (Below w.heap.size w wr)) (fun i _ => xs.length - (intOf i).toNat)
  case atStart => exact ⟨0, Nat.zero_le _, rfl, hide (Below.refl _ _)⟩
  case round =>
    obtain ⟨k, hk, rfl, HB⟩ := hrel
    by_cases hlt : k < xs.length
    · obtain ⟨b, off, rfl, hc0, hc1, hcz⟩ := (unhide HC).below (unhide HB) k hlt
      obtain ⟨b', off', rfl, hd0, hd1, hdz⟩ := (unhide HD).below (unhide HB) k hlt
      clear hcz hdz
      go_wp2
      go_region_with (go_at_call 25; refine (eqUpdate_same _ _).mono ?_; rintro e w2 ⟨rfl, hb2⟩)
      all_goals
        have HB2 : Hid (Below w.heap.size w w2) := hide (Below.trans (by repeat (first | exact unhide HB | apply Below.drew)) (hb2.mono (unhide HB).size))
        clear hb2
        go_wp2
        go_roundw
        case rel => exact ⟨k + 1, by omega, by go_num, HB2⟩
        case measure => simp [intOf]; omega
    · go_wp2
      go_ret
      exact ⟨rfl, unhide HB⟩

/-- The marks of a row of updates. -/
def mkU (k n : Nat) : List Up := (List.range n).map fun i => ⟨((k + 2 * i : Nat) : Int), mtB (k + 2 * i + 1)⟩
theorem mkU_length (k n : Nat) : (mkU k n).length = n := by simp [mkU]
theorem mkU_at {k n j : Nat} (h : j < (mkU k n).length) : (mkU k n)[j] = ⟨((k + 2 * j : Nat) : Int), mtB (k + 2 * j + 1)⟩ := by simp [mkU]

theorem mkU_take {ys : List Value} {k n j : Nat} (hj : j < n) (hl : ys.length = n * 2) (h : ys.take (j * 2) = (upsV (mkU k n)).take (j * 2)) :
    ((ys.set (j * 2) (.int .i64 ((k : Int) + 2 * (j : Int)))).set (j * 2 + 1) (.string (mtB (k + 2 * j + 1)))).take ((j + 1) * 2) = (upsV (mkU k n)).take ((j + 1) * 2) := by
  have := ups_take (xs := mkU k n) (k := j) (by rw [mkU_length]; exact hj) (by rw [mkU_length]; exact hl) h
  have e : ((k + 2 * j : Nat) : Int) = (k : Int) + 2 * (j : Int) := by omega
  rw [mkU_at] at this
  simp only [e] at this
  exact this
theorem mkU_cells {k n j : Nat} (hj : j < n) : (upsV (mkU k n))[j * 2]? = some (.int .i64 ((k : Int) + 2 * (j : Int))) ∧ (upsV (mkU k n))[j * 2 + 1]? = some (.string (mtB (k + 2 * j + 1))) := by
  have := upsV_get (xs := mkU k n) (i := j) (by rw [mkU_length]; exact hj)
  have e : ((k + 2 * j : Nat) : Int) = (k : Int) + 2 * (j : Int) := by omega
  rw [mkU_at] at this
  simp only [e] at this
  exact this

set_option maxHeartbeats 3200000 in
theorem markUpdateS_any (v : Value) (n k : Nat) (xs : List Value) (B : Nat) (w : World) (hn : n ≤ 4194304) (hk0 : 0 < k) (hk1 : k ≤ 268435456) (ho : OwnR w B 52 2 v n xs) :
    Calls Tryz.prog 12 #[v, .int .i64 k] w fun e w' => e = .returned (.int .i64 ((k + 2 * n : Nat) : Int)) ∧ OwnR w' B 52 2 v n (upsV (mkU k n)) ∧ Keep (Own v) w w' := by
  rcases ho with ⟨rfl, rfl, ao, rfl⟩ | ⟨hpos, ho'⟩
  · go_enter Tryz.func12, Tryz.ntmps12
    go_wp2
    refine wp_loop_rounds 1 ?_
    rw [rounds_succ]
    go_wp2
    go_ret
    refine ⟨ret_int (by simp), .inl ⟨rfl, rfl, ao, rfl⟩, Keep.refl _ _⟩
  · obtain ⟨g, cap, cur, rfl, _, _⟩ := own_form hpos ho'
    have HO := hide ho'
    clear ho'
    go_enter Tryz.func12, Tryz.ntmps12
    go_wp2
    go_loopw [1, 5] (fun kk i wr => ∃ (j : Nat) (ys : List Value), j ≤ n ∧ i = .int .i64 j ∧ kk = .int .i64 ((k + 2 * j : Nat) : Int) ∧ Hid (ys.length = n * 2) ∧ Hid (ys.take (j * 2) = (upsV (mkU k n)).take (j * 2)) ∧ Hid (wr.ownsRow B 52 2 (.slice (some ⟨g, 0, none⟩) n cap) n ys) ∧ Hid (Keep (Own (.slice (some ⟨g, 0, none⟩) n cap)) w wr)) (fun _ i _ => n - (intOf i).toNat)
    case atStart => exact ⟨0, xs, Nat.zero_le _, rfl, by simp, hide (by rw [(unhide HO).1]), hide (by simp), HO, hide (Keep.refl _ _)⟩
    case round =>
      obtain ⟨j, ys, hj, rfl, rfl, HL, HT, HO, HK⟩ := hrel
      by_cases hlt : j < n
      · have hf0 := (unhide HO).frozenAt (j * 2)
        have hf1 := (unhide HO).frozenAt (j * 2 + 1)
        obtain ⟨x0, hx0⟩ : ∃ x, wr.cell? ⟨g, j * 2, none⟩ = some x := ⟨_, ((unhide HO).cellAt (j * 2) (by omega)).trans (List.getElem?_eq_getElem (by rw [unhide HL]; omega))⟩
        obtain ⟨x1, hx1⟩ : ∃ x, wr.cell? ⟨g, j * 2 + 1, none⟩ = some x := ⟨_, ((unhide HO).cellAt (j * 2 + 1) (by omega)).trans (List.getElem?_eq_getElem (by rw [unhide HL]; omega))⟩
        have HO' := hide ((unhide HO).stored (j * 2) (.int .i64 ((k : Int) + 2 * (j : Int)))).1
        have HK' := hide ((unhide HK).setCell (p := ⟨g, j * 2, none⟩) (own_of hpos rfl) (.int .i64 ((k : Int) + 2 * (j : Int))))
        go_wp2_with fail
        rw [show ((k : Int) + 2 * (j : Int) + 1) = ((k + 2 * j + 1 : Nat) : Int) from by omega]
        refine (markText_any (k + 2 * j + 1) _ (by omega) (by omega)).mono ?_
        rintro e w2 ⟨rfl, hb2⟩
        have HO2 := hide (own_below (unhide HO') hb2)
        have HK2 := hide ((unhide HK').trans (Keep.of_below hb2))
        clear hb2 hf0 hf1 hx0 hx1
        have hf2 := (unhide HO2).frozenAt (j * 2 + 1)
        obtain ⟨x2, hx2⟩ : ∃ x, w2.cell? ⟨g, j * 2 + 1, none⟩ = some x := ⟨_, ((unhide HO2).cellAt (j * 2 + 1) (by omega)).trans (List.getElem?_eq_getElem (by rw [List.length_set, unhide HL]; omega))⟩
        have HST := hide ((unhide HO2).stored (j * 2 + 1) (.string (mtB (k + 2 * j + 1)))).1
        have HKS := hide ((unhide HK2).setCell (p := ⟨g, j * 2 + 1, none⟩) (own_of hpos rfl) (.string (mtB (k + 2 * j + 1))))
        go_wp2
        go_roundw
        case rel => exact ⟨j + 1, _, by omega, by go_num, by go_num, hide (by rw [List.length_set, List.length_set]; exact unhide HL), hide (mkU_take hlt (unhide HL) (unhide HT)), HST, HKS⟩
        case measure => simp [intOf]; omega
      · go_wp2
        go_ret
        have hjn : j = n := by omega
        subst hjn
        have hxs : ys = upsV (mkU k j) := by
          have := unhide HT
          rwa [List.take_of_length_le (by rw [unhide HL]; exact Nat.le_refl _), List.take_of_length_le (by rw [upsV_length, mkU_length]; exact Nat.le_refl _)] at this
        subst hxs
        exact ⟨rfl, .inr ⟨hpos, unhide HO⟩, unhide HK⟩

set_option maxHeartbeats 3200000 in
theorem heldUpdateS_any (v : Value) (n k : Nat) (B : Nat) (w : World) (hn : n ≤ 4194304) (hk0 : 0 < k) (hk1 : k ≤ 268435456) (ho : OwnR w B 52 2 v n (upsV (mkU k n))) :
    Calls Tryz.prog 13 #[v, .int .i64 k] w fun e w' => e = .returned (.int .i64 ((k + 2 * n : Nat) : Int)) ∧ Below w.heap.size w w' := by
  rcases ho with ⟨rfl, _, ao, rfl⟩ | ⟨hpos, ho'⟩
  · go_enter Tryz.func13, Tryz.ntmps13
    go_wp2
    refine wp_loop_rounds 1 ?_
    rw [rounds_succ]
    go_wp2
    go_ret
    exact ⟨ret_int (by simp), Below.refl _ _⟩
  · obtain ⟨g, cap, cur, rfl, _, _⟩ := own_form hpos ho'
    have HO := hide ho'
    clear ho'
    go_enter Tryz.func13, Tryz.ntmps13
    go_wp2
    go_loopw [1, 5] (fun kk i wr => ∃ (j : Nat), j ≤ n ∧ i = .int .i64 j ∧ kk = .int .i64 ((k + 2 * j : Nat) : Int) ∧ Hid (Below w.heap.size w wr)) (fun _ i _ => n - (intOf i).toNat)
    case atStart => exact ⟨0, Nat.zero_le _, rfl, by simp, hide (Below.refl _ _)⟩
    case round =>
      obtain ⟨j, hj, rfl, rfl, HB⟩ := hrel
      by_cases hlt : j < n
      · obtain ⟨g0, g1⟩ := mkU_cells (k := k) hlt
        have hc0 : wr.cell? ⟨g, j * 2, none⟩ = some (.int .i64 ((k : Int) + 2 * (j : Int))) := ((own_below (unhide HO) (unhide HB)).cellAt (j * 2) (by omega)).trans g0
        have hc1 : wr.cell? ⟨g, j * 2 + 1, none⟩ = some (.string (mtB (k + 2 * j + 1))) := ((own_below (unhide HO) (unhide HB)).cellAt (j * 2 + 1) (by omega)).trans g1
        have hgl : g < wr.heap.size := World.block_lt_of_cell? _ _ hc1
        clear g0 g1
        have HMT := hide (fun W => markText_any (k + 2 * j + 1) W (by omega) (by omega))
        go_wp2
        go_region_with (go_at_call 30; rw [show ((k : Int) + 2 * (j : Int) + 1) = ((k + 2 * j + 1 : Nat) : Int) from by omega]; refine (unhide HMT _).mono ?_; rintro e w2 ⟨rfl, hb2⟩; have hcy := (hb2.cell (p := ⟨g, j * 2 + 1, none⟩) hgl).trans hc1)
        all_goals
          have HB2 : Hid (Below w.heap.size w w2) := hide (Below.trans (by repeat (first | exact unhide HB | apply Below.drew)) (hb2.mono (unhide HB).size))
          clear hb2 hcy hc0 hc1 hgl
          go_wp2
          go_roundw
          case rel => exact ⟨j + 1, by omega, by go_num, by go_num, HB2⟩
          case measure => simp [intOf]; omega
      · go_wp2
        go_ret
        have hjn : j = n := by omega
        subst hjn
        exact ⟨rfl, unhide HB⟩

end Go.Proofs.YtmkegkpnomcnhabGreat

/- Contracts of DiskOK, of the program and of its model: both answer one plain function of the disk. -/
namespace Go.Proofs.YtmkegkpnomcnhabGreat
open Go.RowKit
set_option linter.unusedVariables false
set_option maxRecDepth 100000

theorem l01In_any (n low high : Int) (w : World) : Calls Tryz.prog 70 #[.int .i64 n, .int .i64 low, .int .i64 high] w fun e w' => e = .returned (.bool (inB n low high)) ∧ w' = w := by
  go_enter Tryz.func70, Tryz.ntmps70
  go_wp2
  all_goals
    go_ret
    exact ⟨ret_bool (by rw [Bool.eq_iff_iff]; simp [inB]; omega), rfl⟩

end Go.Proofs.YtmkegkpnomcnhabGreat

/- Contracts of the disk's codes and of ReadSector, of the program and of its model. -/
namespace Go.Proofs.YtmkegkpnomcnhabGreat
open Go.RowKit
set_option linter.unusedVariables false
set_option maxRecDepth 100000

end Go.Proofs.YtmkegkpnomcnhabGreat

/- A disk in rows of the call's own; variables that hold a disk. -/
namespace Go.Proofs.YtmkegkpnomcnhabGreat
open Go.RowKit
set_option linter.unusedVariables false

def OwnB (ao : Option Addr) (n ca : Nat) (bo : Option Addr) (m cb : Nat) (k : Nat) : Prop := Own (.slice ao n ca) k ∨ Own (.slice bo m cb) k

end Go.Proofs.YtmkegkpnomcnhabGreat

/- Contracts of copyList, at texts and at writes: what was there, in new memory. -/
namespace Go.Proofs.YtmkegkpnomcnhabGreat
open Go.RowKit
set_option linter.unusedVariables false
set_option maxRecDepth 100000

section
variable {P : Program}

/-- 'copy(out, src)', both of n elements of some cells each. -/
theorem run_copy_whole (w : World) (dT sT ty elem : TypeId) (size g n dCap : Nat) (a : Addr) (sCap : Nat) (cur : Array Value) (t : TypeId) (cs : List Value)
    (hu : P.underlying dT = some (.slice elem)) (hs : (P.info? elem).map (·.size) = some size)
    (hg : w.heap[g]? = some (.cells cur t (0, 0))) (hl : n * size = cs.length)
    (hsrc : ∀ j v, cs[j]? = some v → w.cell? (a.add j) = some v) (hfit : cs.length ≤ cur.size) (h1 : ∀ v ∈ cs, v.oneCell' = true) :
    (Builtin.copy_ #[dT, sT] ty #[.slice (some ⟨g, 0, none⟩) n dCap, .slice (some a) n sCap]).run P w = .ok (goInt n) (w.setRow g (cs ++ cur.toList.drop cs.length).toArray) := by
  have hld := run_loadCells_list (P := P) w a cs hsrc
  have hst := run_storeCells_at P g 0 t cs 0 cur w hg (by simpa using hfit) h1
  cases hq : P.info? elem with
  | none => simp [hq] at hs
  | some i =>
    have hi : i.size = size := by simpa [hq] using hs
    simp [Builtin.copy_, run_underlying hu, Builtin.lenOf, Builtin.firstCells, sizeOf, typeInfo, hq, hi, hl, hld, hst]

theorem wpList_copy_whole {w : World} {ops : Array Oper} {rest : List Oper} {o : Oper} {a : Act} {Q : Exit → Act → World → Prop} (hgd : o.guard = none) (d s : Operand) (dT sT : TypeId)
    (ho : o.op = .call { callee := .builtin .copy, args := #[d, s], argTypes := #[dT, sT] }) (elem : TypeId) (size : Nat) (hu : P.underlying dT = some (.slice elem)) (hsz : (P.info? elem).map (·.size) = some size)
    (B g n : Nat) (ad : Addr) (sCap : Nat) (hd : a.eval d = .slice (some ⟨g, 0, none⟩) n n) (hs : a.eval s = .slice (some ad) n sCap)
    (xs : List Value) (hown : w.ownsRow B elem size (.slice (some ⟨g, 0, none⟩) n n) n xs) (cs : List Value) (hn : cs.length = n * size)
    (hsrc : ∀ j v, cs[j]? = some v → w.cell? (ad.add j) = some v) (h1 : ∀ v ∈ cs, v.oneCell' = true)
    (h : ∀ w', w'.ownsRow B elem size (.slice (some ⟨g, 0, none⟩) n n) n cs → w.grownBy w' (some g) → wpList P ops Q rest (a.put o.dst (goInt n)) w') : wpList P ops Q (o :: rest) a w := by
  refine wpList_plain hgd fun K hK => ?_
  rcases hown.2 with ⟨e, _⟩ | ⟨g', cap', cur, e, hB, hg, hnc, hcm, hcs, ht⟩
  · simp at e
  · simp only [Value.slice.injEq, Option.some.injEq, Addr.mk.injEq, and_true, true_and] at e
    obtain ⟨rfl, rfl⟩ := e
    have hrun := run_copy_whole (P := P) w dT sT o.type elem size g n n ad sCap cur elem cs hu hsz hg hn.symm hsrc (by omega) h1
    unfold Oper.wp
    simp [execOp, ho, resolve, invoke, builtin, hd, hs, hrun, Result.andThen]
    refine hK _ _ (h _ ⟨hn, .inr ⟨g, n, _, rfl, hB, setRow_heap w g _ _ elem _ hg, hnc, hcm, ?_, ?_⟩⟩ ⟨rfl, rfl, rfl, by simp, fun k _ hk => setRow_other w g k _ (fun e => hk (by simp [e]))⟩)
    · simp; omega
    · rw [← hn]; simp
end

theorem infoS : (Tryz.prog.info? 9).map (fun i => (i.zero, i.size, i.bytes)) = some (some (.string ⟨#[]⟩), 1, 16) := by kernel_rfl
theorem sizeS : (Tryz.prog.info? 9).map (·.size) = some 1 := by kernel_rfl
theorem strV_one (ss : List ByteArray) : ∀ v ∈ strV ss, v.oneCell' = true := by
  intro v hv
  simp only [strV, List.mem_map] at hv
  obtain ⟨s, _, rfl⟩ := hv
  rfl
theorem ioV_one (xs : List Wr) : ∀ v ∈ ioV xs, v.oneCell' = true := by
  intro v hv
  simp only [ioV, List.mem_flatMap] at hv
  obtain ⟨x, _, hv⟩ := hv
  simp at hv
  rcases hv with rfl | rfl | rfl <;> rfl
/-- A slice that is not empty has an address at which its cells lie. -/
theorem Ss.at {w : World} {ao : Option Addr} {ss : List ByteArray} (h : Ss w ao ss) (hp : 0 < ss.length) : ∃ b off, ao = some ⟨b, off, none⟩ ∧ ∀ j v, (strV ss)[j]? = some v → w.cell? (Addr.add ⟨b, off, none⟩ j) = some v := by
  obtain ⟨b, off, rfl, _⟩ := h 0 hp
  refine ⟨b, off, rfl, fun j v hv => ?_⟩
  have hj : j < ss.length := by have := (List.getElem?_eq_some_iff.1 hv).1; rwa [strV_length] at this
  obtain ⟨b', off', e, hc, _⟩ := h j hj
  simp only [Option.some.injEq, Addr.mk.injEq, and_true] at e
  obtain ⟨rfl, rfl⟩ := e
  rw [strV_get hj] at hv
  cases hv
  rw [show Addr.add ⟨b, off, none⟩ j = ⟨b, off + j, none⟩ from by unfold Addr.add; split <;> simp_all]
  exact hc
theorem ioV_at {xs : List Wr} {j : Nat} {v : Value} (h : (ioV xs)[j]? = some v) : ∃ i r, ∃ hi : i < xs.length, j = i * 3 + r ∧ ((r = 0 ∧ v = .int .i64 xs[i].host) ∨ (r = 1 ∧ v = .int .i64 xs[i].at_) ∨ (r = 2 ∧ v = .string xs[i].data)) := by
  have hj : j < xs.length * 3 := by have := (List.getElem?_eq_some_iff.1 h).1; rwa [ioV_length] at this
  have hi : j / 3 < xs.length := by omega
  obtain ⟨g0, g1, g2⟩ := ioV_get hi
  rcases (show j % 3 = 0 ∨ j % 3 = 1 ∨ j % 3 = 2 by omega) with e | e | e
  · rw [show j = j / 3 * 3 by omega, g0] at h; cases h
    exact ⟨j / 3, 0, hi, by omega, .inl ⟨rfl, rfl⟩⟩
  · rw [show j = j / 3 * 3 + 1 by omega, g1] at h; cases h
    exact ⟨j / 3, 1, hi, by omega, .inr (.inl ⟨rfl, rfl⟩)⟩
  · rw [show j = j / 3 * 3 + 2 by omega, g2] at h; cases h
    exact ⟨j / 3, 2, hi, by omega, .inr (.inr ⟨rfl, rfl⟩)⟩
theorem Ios.at {w : World} {ao : Option Addr} {xs : List Wr} (h : Ios w ao xs) (hp : 0 < xs.length) : ∃ b off, ao = some ⟨b, off, none⟩ ∧ ∀ j v, (ioV xs)[j]? = some v → w.cell? (Addr.add ⟨b, off, none⟩ j) = some v := by
  obtain ⟨b, off, rfl, _⟩ := h 0 hp
  refine ⟨b, off, rfl, fun j v hv => ?_⟩
  obtain ⟨i, r, hi, rfl, hr⟩ := ioV_at hv
  obtain ⟨b', off', e, h0, h1, h2, _⟩ := h i hi
  simp only [Option.some.injEq, Addr.mk.injEq, and_true] at e
  obtain ⟨rfl, rfl⟩ := e
  rw [show Addr.add ⟨b, off, none⟩ (i * 3 + r) = ⟨b, off + i * 3 + r, none⟩ from by unfold Addr.add; split <;> simp_all [Nat.add_assoc]]
  rcases hr with ⟨rfl, rfl⟩ | ⟨rfl, rfl⟩ | ⟨rfl, rfl⟩
  · exact h0
  · exact h1
  · exact h2

end Go.Proofs.YtmkegkpnomcnhabGreat

/- Contract of impl.copyDisk: the disk as it was, in new memory. -/
namespace Go.Proofs.YtmkegkpnomcnhabGreat
open Go.RowKit
set_option linter.unusedVariables false
set_option maxRecDepth 100000

end Go.Proofs.YtmkegkpnomcnhabGreat

/- Contract of spec.l01Own: the disk as it was, in new memory. -/
namespace Go.Proofs.YtmkegkpnomcnhabGreat
open Go.RowKit
set_option linter.unusedVariables false
set_option maxRecDepth 100000

/-- The cells of a slice's texts, of its writes, for an append. -/
theorem Ss.src {w : World} {ao : Option Addr} {ss : List ByteArray} (h : Ss w ao ss) : 0 < ss.length → ∃ ad, ao = some ad ∧ ∀ j u, (strV ss)[j]? = some u → w.cell? (ad.add j) = some u := fun hp => by
  obtain ⟨b, off, rfl, hc⟩ := h.at hp
  exact ⟨_, rfl, hc⟩
theorem Ios.src {w : World} {ao : Option Addr} {xs : List Wr} (h : Ios w ao xs) : 0 < xs.length → ∃ ad, ao = some ad ∧ ∀ j u, (ioV xs)[j]? = some u → w.cell? (ad.add j) = some u := fun hp => by
  obtain ⟨b, off, rfl, hc⟩ := h.at hp
  exact ⟨_, rfl, hc⟩


end Go.Proofs.YtmkegkpnomcnhabGreat

/- Variables that hold a write; ends of calls that answer with a disk. -/
namespace Go.Proofs.YtmkegkpnomcnhabGreat
open Go.RowKit
set_option linter.unusedVariables false

def wrV (x : Wr) : List Value := [.int .i64 x.host, .int .i64 x.at_, .string x.data]
theorem wrV_one (x : Wr) : ∀ u ∈ wrV x, u.oneCell' = true := by
  intro u hu
  simp [wrV] at hu
  rcases hu with rfl | rfl | rfl <;> rfl
theorem ioV_snoc (xs : List Wr) (x : Wr) : ioV (xs ++ [x]) = ioV xs ++ wrV x := by simp [ioV, wrV]

theorem belowKp {W0 W W' : World} {S : Nat → Prop} (h : Below W0.heap.size W0 W) (hk : Keep S W W') (hs : ∀ j, S j → W0.heap.size ≤ j) : Below W0.heap.size W0 W' := h.trans (hk.below h.size hs)
theorem zero_end {w wL : World} (hb : Below w.heap.size w wL) (a b : Value) : Below w.heap.size w ((wL.setCell ⟨w.heap.size + 1, 0, none⟩ a).setCell ⟨w.heap.size + 1, 1, none⟩ b) :=
  (hb.setCell (p := ⟨w.heap.size + 1, 0, none⟩) (by simp) a).setCell (p := ⟨w.heap.size + 1, 1, none⟩) (by simp) b

theorem ask_zero (ss : List ByteArray) (xs : List Wr) (h : Int) : askC ss xs h 0 = hostC ss xs h := by
  unfold askC
  split
  · rename_i e; rw [e]; rfl
  · rfl
end Go.Proofs.YtmkegkpnomcnhabGreat

/- Contract of impl.PendingOf. -/
namespace Go.Proofs.YtmkegkpnomcnhabGreat
open Go.RowKit
set_option linter.unusedVariables false
set_option maxRecDepth 100000

/-- How many writes a host has. -/
def cntW (xs : List Wr) (h : Int) : Nat := (xs.filter fun x => x.host == h).length
theorem cntW_le (xs : List Wr) (h : Int) : cntW xs h ≤ xs.length := List.length_filter_le _ _
theorem cnt_hit {xs : List Wr} {h : Int} {k : Nat} (hk : k < xs.length) (he : xs[k].host = h) : cntW (xs.take (k + 1)) h = cntW (xs.take k) h + 1 := by
  rw [cntW, cntW, List.take_succ_eq_append_getElem hk, List.filter_append, List.length_append]; simp [he]
theorem cnt_miss {xs : List Wr} {h : Int} {k : Nat} (hk : k < xs.length) (he : ¬ xs[k].host = h) : cntW (xs.take (k + 1)) h = cntW (xs.take k) h := by
  rw [cntW, cntW, List.take_succ_eq_append_getElem hk, List.filter_append, List.length_append]; simp [he]
theorem askC_zero (ss : List ByteArray) (xs : List Wr) (h : Int) : askC ss xs h 0 = hostC ss xs h := by
  unfold askC
  split
  · rename_i e; rw [e]; rfl
  · rfl
def cntC (ss : List ByteArray) (xs : List Wr) (h : Int) : Int := if hostC ss xs h = 0 then (cntW xs h : Int) else 0
theorem ret_two {a b c d : Int} (h : a = b) (k : c = d) : Ending.returned (.tuple #[.int .i64 a, .int .i64 c]) = .returned (.tuple #[.int .i64 b, .int .i64 d]) := by rw [h, k]

end Go.Proofs.YtmkegkpnomcnhabGreat

/- Contract of impl.landFirst: of a host's writes the first ones are sure. -/
namespace Go.Proofs.YtmkegkpnomcnhabGreat
open Go.RowKit
set_option linter.unusedVariables false

/-- One write of a disk's, as a host's writes land: the sectors, what is left, how many may still land. -/
def stepF (h : Int) (lost : Bool) (st : List ByteArray × List Wr × Int) (x : Wr) : List ByteArray × List Wr × Int :=
  if x.host = h then (if 0 < st.2.2 then (st.1.set x.at_.toNat x.data, st.2.1, st.2.2 - 1) else if lost = true then st else (st.1, st.2.1 ++ [x], st.2.2)) else (st.1, st.2.1 ++ [x], st.2.2)
def landF (h : Int) (lost : Bool) (ss : List ByteArray) (xs : List Wr) (n : Int) : List ByteArray × List Wr × Int := xs.foldl (stepF h lost) (ss, [], n)
theorem landF_succ {h : Int} {lost : Bool} {ss : List ByteArray} {xs : List Wr} {n : Int} {k : Nat} (hk : k < xs.length) : landF h lost ss (xs.take (k + 1)) n = stepF h lost (landF h lost ss (xs.take k) n) xs[k] := by
  unfold landF
  rw [List.take_succ_eq_append_getElem hk, List.foldl_append]
  rfl
theorem step_other {h : Int} {lost : Bool} {x : Wr} (ha : x.host ≠ h) (SS : List ByteArray) (LX : List Wr) (N : Int) : stepF h lost (SS, LX, N) x = (SS, LX ++ [x], N) := by simp [stepF, ha]
theorem step_land {h : Int} {lost : Bool} {x : Wr} (ha : x.host = h) (SS : List ByteArray) (LX : List Wr) {N : Int} (hn : 0 < N) : stepF h lost (SS, LX, N) x = (SS.set x.at_.toNat x.data, LX, N - 1) := by simp [stepF, ha, hn]
theorem step_keep {h : Int} {x : Wr} (ha : x.host = h) (SS : List ByteArray) (LX : List Wr) {N : Int} (hn : ¬ 0 < N) : stepF h false (SS, LX, N) x = (SS, LX ++ [x], N) := by simp [stepF, ha, hn]

theorem strV_set (SS : List ByteArray) (j : Nat) (d : ByteArray) : (strV SS).set j (.string d) = strV (SS.set j d) := by simp [strV, List.map_set]

end Go.Proofs.YtmkegkpnomcnhabGreat

/- Contract of spec.l01Land: of a host's writes the first ones are sure, the others stay or are lost. -/
namespace Go.Proofs.YtmkegkpnomcnhabGreat
open Go.RowKit
set_option linter.unusedVariables false

theorem step_drop {h : Int} {x : Wr} (ha : x.host = h) (SS : List ByteArray) (LX : List Wr) {N : Int} (hn : ¬ 0 < N) : stepF h true (SS, LX, N) x = (SS, LX, N) := by simp [stepF, ha, hn]

end Go.Proofs.YtmkegkpnomcnhabGreat

/- What lands comes out of what was there; the bounds of a right disk. -/
namespace Go.Proofs.YtmkegkpnomcnhabGreat
open Go.RowKit
set_option linter.unusedVariables false

/-- What lands comes out of what was there. -/
theorem land_inv (h : Int) (lost : Bool) (P : ByteArray → Prop) : ∀ (xs : List Wr) (SS : List ByteArray) (LX : List Wr) (N : Int), (∀ s ∈ SS, P s) → (∀ x ∈ xs, P x.data) → (∀ x ∈ LX, P x.data) →
    (∀ s ∈ (xs.foldl (stepF h lost) (SS, LX, N)).1, P s) ∧ (∀ x ∈ (xs.foldl (stepF h lost) (SS, LX, N)).2.1, P x.data) ∧ (xs.foldl (stepF h lost) (SS, LX, N)).1.length = SS.length ∧ (xs.foldl (stepF h lost) (SS, LX, N)).2.1.length ≤ LX.length + xs.length
  | [], SS, LX, N, h1, _, h3 => ⟨h1, h3, rfl, Nat.le_refl _⟩
  | x :: xs, SS, LX, N, h1, h2, h3 => by
    have hx := h2 x (List.mem_cons_self ..)
    have hr : ∀ y ∈ xs, P y.data := fun y hy => h2 y (List.mem_cons_of_mem _ hy)
    have happ : ∀ y ∈ LX ++ [x], P y.data := by
      intro y hy
      rcases List.mem_append.1 hy with h | h
      · exact h3 y h
      · simp at h; subst h; exact hx
    have hset : ∀ s ∈ SS.set x.at_.toNat x.data, P s := by
      intro s hs
      rcases List.mem_or_eq_of_mem_set hs with h | h
      · exact h1 s h
      · rw [h]; exact hx
    rw [List.foldl_cons]
    by_cases ha : x.host = h
    · by_cases hn : 0 < N
      · rw [step_land ha SS LX hn]
        obtain ⟨q1, q2, q3, q4⟩ := land_inv h lost P xs (SS.set x.at_.toNat x.data) LX (N - 1) hset hr h3
        exact ⟨q1, q2, by rw [q3, List.length_set], by simp only [List.length_cons]; omega⟩
      · cases lost
        · rw [step_keep ha SS LX hn]
          obtain ⟨q1, q2, q3, q4⟩ := land_inv h false P xs SS (LX ++ [x]) N h1 hr happ
          exact ⟨q1, q2, q3, by simp only [List.length_cons, List.length_append, List.length_nil] at q4 ⊢; omega⟩
        · rw [step_drop ha SS LX hn]
          obtain ⟨q1, q2, q3, q4⟩ := land_inv h true P xs SS LX N h1 hr h3
          exact ⟨q1, q2, q3, by simp only [List.length_cons]; omega⟩
    · rw [step_other ha SS LX N]
      obtain ⟨q1, q2, q3, q4⟩ := land_inv h lost P xs SS (LX ++ [x]) N h1 hr happ
      exact ⟨q1, q2, q3, by simp only [List.length_cons, List.length_append, List.length_nil] at q4 ⊢; omega⟩
theorem landF_inv {h n : Int} {lost : Bool} {ss : List ByteArray} {xs : List Wr} (P : ByteArray → Prop) (h1 : ∀ s ∈ ss, P s) (h2 : ∀ x ∈ xs, P x.data) :
    (∀ s ∈ (landF h lost ss xs n).1, P s) ∧ (∀ x ∈ (landF h lost ss xs n).2.1, P x.data) ∧ (landF h lost ss xs n).1.length = ss.length ∧ (landF h lost ss xs n).2.1.length ≤ xs.length := by
  have := land_inv h lost P xs ss [] n h1 h2 (fun _ h => by cases h)
  simpa [landF] using this

theorem diskB_at {ss : List ByteArray} {xs : List Wr} (h : diskB ss xs = true) : ∀ i (hi : i < xs.length), 0 ≤ xs[i].at_ ∧ xs[i].at_ < ss.length := by
  intro i hi
  have hl := (diskB_len h).1
  simp only [diskB, penB, Bool.and_eq_true, List.all_eq_true] at h
  have := h.2.2 xs[i] (List.getElem_mem hi)
  simp only [ioB, Bool.and_eq_true, decide_eq_true_eq] at this
  omega

/-- What Flush answers. -/
def flS (ss : List ByteArray) (xs : List Wr) (h : Int) : List ByteArray := if hostC ss xs h = 0 then (landF h false ss xs 200).1 else []
def flX (ss : List ByteArray) (xs : List Wr) (h : Int) : List Wr := if hostC ss xs h = 0 then (landF h false ss xs 200).2.1 else []
theorem fl_ok {ss : List ByteArray} {xs : List Wr} {h : Int} (h1 : hostC ss xs h = 0) : flS ss xs h = (landF h false ss xs 200).1 ∧ flX ss xs h = (landF h false ss xs 200).2.1 := by simp [flS, flX, h1]
theorem fl_bad {ss : List ByteArray} {xs : List Wr} {h : Int} (h1 : ¬ hostC ss xs h = 0) : flS ss xs h = [] ∧ flX ss xs h = [] := by simp [flS, flX, h1]
theorem landF_slen {h n : Int} {lost : Bool} {ss : List ByteArray} {xs : List Wr} : (landF h lost ss xs n).1.length = ss.length := (landF_inv (fun _ => True) (fun _ _ => trivial) (fun _ _ => trivial)).2.2.1

end Go.Proofs.YtmkegkpnomcnhabGreat

/- Contract of impl.dropWrites: a host's writes are gone; and that what lands with the others lost is what lands, the host's writes dropped. -/
namespace Go.Proofs.YtmkegkpnomcnhabGreat
open Go.RowKit
set_option linter.unusedVariables false

/-- The writes of other hosts. -/
def dropF (h : Int) (xs : List Wr) : List Wr := xs.filter fun x => x.host != h
theorem dropF_succ_hit {h : Int} {xs : List Wr} {k : Nat} (hk : k < xs.length) (he : xs[k].host = h) : dropF h (xs.take (k + 1)) = dropF h (xs.take k) := by
  rw [dropF, dropF, List.take_succ_eq_append_getElem hk, List.filter_append]; simp [he]
theorem dropF_succ_miss {h : Int} {xs : List Wr} {k : Nat} (hk : k < xs.length) (he : ¬ xs[k].host = h) : dropF h (xs.take (k + 1)) = dropF h (xs.take k) ++ [xs[k]] := by
  rw [dropF, dropF, List.take_succ_eq_append_getElem hk, List.filter_append]; simp [he]
theorem land_drop (h : Int) : ∀ (xs : List Wr) (SS : List ByteArray) (LX : List Wr) (N : Int), xs.foldl (stepF h true) (SS, dropF h LX, N) = ((xs.foldl (stepF h false) (SS, LX, N)).1, dropF h (xs.foldl (stepF h false) (SS, LX, N)).2.1, (xs.foldl (stepF h false) (SS, LX, N)).2.2)
  | [], SS, LX, N => rfl
  | x :: xs, SS, LX, N => by
    rw [List.foldl_cons, List.foldl_cons]
    by_cases ha : x.host = h
    · by_cases hn : 0 < N
      · rw [step_land ha SS LX hn, step_land ha SS (dropF h LX) hn]
        exact land_drop h xs _ _ _
      · rw [step_keep ha SS LX hn, step_drop ha SS (dropF h LX) hn]
        have : dropF h LX = dropF h (LX ++ [x]) := by simp [dropF, ha]
        rw [this]
        exact land_drop h xs _ _ _
    · rw [step_other ha SS LX N, step_other ha SS (dropF h LX) N]
      have : dropF h LX ++ [x] = dropF h (LX ++ [x]) := by simp [dropF, ha]
      rw [this]
      exact land_drop h xs _ _ _
theorem landF_lost (h n : Int) (ss : List ByteArray) (xs : List Wr) : (landF h true ss xs n).1 = (landF h false ss xs n).1 ∧ (landF h true ss xs n).2.1 = dropF h (landF h false ss xs n).2.1 := by
  have := land_drop h xs ss [] n
  have e : landF h true ss xs n = xs.foldl (stepF h true) (ss, dropF h [], n) := rfl
  rw [e, this]
  exact ⟨rfl, rfl⟩

end Go.Proofs.YtmkegkpnomcnhabGreat

/- Flush: contracts of the model and of the program. -/
namespace Go.Proofs.YtmkegkpnomcnhabGreat
open Go.RowKit
set_option linter.unusedVariables false

end Go.Proofs.YtmkegkpnomcnhabGreat

/- LoseHost: contracts of the model and of the program. -/
namespace Go.Proofs.YtmkegkpnomcnhabGreat
open Go.RowKit
set_option linter.unusedVariables false

/-- What LoseHost answers. -/
def loS (ss : List ByteArray) (xs : List Wr) (h k : Int) : List ByteArray := if hostC ss xs h = 0 then (if inB k 0 200 = true then (landF h true ss xs k).1 else []) else []
def loX (ss : List ByteArray) (xs : List Wr) (h k : Int) : List Wr := if hostC ss xs h = 0 then (if inB k 0 200 = true then (landF h true ss xs k).2.1 else []) else []
def loC (ss : List ByteArray) (xs : List Wr) (h k : Int) : Int := if hostC ss xs h = 0 then (if inB k 0 200 = true then 0 else 4) else hostC ss xs h
theorem lo_ok {ss : List ByteArray} {xs : List Wr} {h k : Int} (h1 : hostC ss xs h = 0) (h2 : inB k 0 200 = true) : loS ss xs h k = (landF h true ss xs k).1 ∧ loX ss xs h k = (landF h true ss xs k).2.1 ∧ loC ss xs h k = 0 := by simp [loS, loX, loC, h1, h2]
theorem lo_range {ss : List ByteArray} {xs : List Wr} {h k : Int} (h1 : hostC ss xs h = 0) (h2 : inB k 0 200 = false) : loS ss xs h k = [] ∧ loX ss xs h k = [] ∧ loC ss xs h k = 4 := by simp [loS, loX, loC, h1, h2]
theorem lo_bad {ss : List ByteArray} {xs : List Wr} {h k : Int} (h1 : ¬ hostC ss xs h = 0) : loS ss xs h k = [] ∧ loX ss xs h k = [] ∧ loC ss xs h k = hostC ss xs h := by simp [loS, loX, loC, h1]
theorem inB_eq {k a b : Int} (h : inB k a b = true) : a ≤ k ∧ k ≤ b := by simpa [inB] using h
theorem inB_ne {k a b : Int} (h : inB k a b = false) (hk : ¬ k < a) : b < k := by
  simp [inB] at h
  omega

end Go.Proofs.YtmkegkpnomcnhabGreat
