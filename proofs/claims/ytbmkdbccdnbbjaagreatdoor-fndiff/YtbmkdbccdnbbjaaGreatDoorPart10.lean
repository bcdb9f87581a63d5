import Derived.Test.YtbmkdbccdnbbjaaGreatDoorRows
import Derived.Test.YtbmkdbccdnbbjaaGreatDoorPart1
import Derived.Test.YtbmkdbccdnbbjaaGreatDoorPart2
import Derived.Test.YtbmkdbccdnbbjaaGreatDoorPart9
import Derived.WalkKit
import Derived.WalkSpells
import Derived.KernelRfl
import Derived.LoopN
import Derived.BigQuiet
import Derived.Deep.QuietTactic
import Derived.Test.YtbmkdbccdnbbjaaGreatDoorPart6
import Derived.Laws.StructEq
import Derived.Test.YtbmkdbccdnbbjaaGreatDoorPart8
import Derived.Test.YtbmkdbccdnbbjaaGreatDoorPart3
import Derived.Deep.CutRange
import Derived.Deep.RegionWith
import Derived.Deep.MidRow
import Derived.Test.YtbmkdbccdnbbjaaGreatDoorPart4
import Derived.Test.YtbmkdbccdnbbjaaGreatDoorPart5
import Derived.Laws.OwnMore
import Derived.Lib.SmallJoins
import Derived.Deep.RegionHeld3

namespace Go.Proofs.YtbmkdbccdnbbjaaGreatDoor
open Go.RowKit
set_option linter.unusedVariables false
set_option maxRecDepth 100000

theorem sameNums_same (ao bo : Option Addr) (ca cb : Nat) (xs : List Int) (w : World) (hl : xs.length ≤ maxLen) (hc : Is w ao xs) (hd : Is w bo xs) :
    Calls Tryz.prog 42 #[.slice ao xs.length ca, .slice bo xs.length cb] w fun e w' => e = .returned (.bool true) ∧ Below w.heap.size w w' := by
  refine (sameInts_any ao bo ca cb xs xs w hl hc hd).mono ?_
  rintro e w' ⟨rfl, hb⟩
  rw [eqNB_self]
  exact ⟨rfl, hb⟩

set_option maxHeartbeats 800000 in
theorem sameInts_draws (ao bo : Option Addr) (ca cb : Nat) (ss : List Int) (w : World) (hl : ss.length ≤ maxLen) (hc : Is w ao ss) (hd : Is w bo ss) :
    Calls Tryz.prog 42 #[.slice ao ss.length ca, .slice bo ss.length cb] w fun e w' => e = .returned (.bool true) ∧ ∃ m, w' = w.drewN m := by
  have HC := hide hc
  have HD := hide hd
  clear hc hd
  unfold maxLen at hl
  have hb : ((ss.length : Int) != (ss.length : Int)) = false := by simp
  go_enter Tryz.func42, Tryz.ntmps42
  go_wp2
  go_loopw [5] (fun i wr => ∃ (k n : Nat), k ≤ ss.length ∧ i = .int .i64 k ∧ wr = w.drewN n) (fun i _ => ss.length - (intOf i).toNat)
  case atStart => exact ⟨0, 0, Nat.zero_le _, rfl, rfl⟩
  case round =>
    obtain ⟨k, n, hk, rfl, rfl⟩ := hrel
    by_cases hlt : k < ss.length
    · obtain ⟨b, off, rfl, hc⟩ := (unhide HC) k hlt
      obtain ⟨b', off', rfl, hc'⟩ := (unhide HD) k hlt
      generalize ss[k] = X at *
      go_wp2
      go_quiet (fail)
      go_wp2
      go_roundw
      case rel => exact ⟨k + 1, _, by omega, by go_num, rfl⟩
      case measure => simp [intOf]; omega
    · go_wp2
      go_ret
      exact ⟨rfl, n, rfl⟩

set_option maxHeartbeats 3200000 in
theorem sameImage_same (a b : Im4) (m : Img) (w : World) (hr : m.refs.length ≤ maxLen) (ht : m.table.length ≤ maxLen) (hs : m.snaps.length ≤ maxLen) (hd : m.data.length ≤ maxLen) (h1 : ImS w a m) (h2 : ImS w b m) :
    Calls Tryz.prog 14 #[imV a m, imV b m] w fun e w' => e = .returned (.bool true) ∧ Below w.heap.size w w' := by
  have HA := hide (Joins.below_alloc2 w (.cells #[.slice a.ro m.refs.length a.rc, .slice a.tq m.table.length a.tc, .slice a.so m.snaps.length a.sc, .slice a.dq m.data.length a.dc] 26) (.cells #[.slice b.ro m.refs.length b.rc, .slice b.tq m.table.length b.tc, .slice b.so m.snaps.length b.sc, .slice b.dq m.data.length b.dc] 26))
  have HV : Hid (((w.alloc (.cells #[.slice a.ro m.refs.length a.rc, .slice a.tq m.table.length a.tc, .slice a.so m.snaps.length a.sc, .slice a.dq m.data.length a.dc] 26)).alloc (.cells #[.slice b.ro m.refs.length b.rc, .slice b.tq m.table.length b.tc, .slice b.so m.snaps.length b.sc, .slice b.dq m.data.length b.dc] 26)).heap[w.heap.size]? = some (.cells #[.slice a.ro m.refs.length a.rc, .slice a.tq m.table.length a.tc, .slice a.so m.snaps.length a.sc, .slice a.dq m.data.length a.dc] 26 (0, 0))) := hide (by rw [(Joins.below_alloc1 _ _).block _ (by simp)]; exact heap_alloc_new w _)
  have HU : Hid (((w.alloc (.cells #[.slice a.ro m.refs.length a.rc, .slice a.tq m.table.length a.tc, .slice a.so m.snaps.length a.sc, .slice a.dq m.data.length a.dc] 26)).alloc (.cells #[.slice b.ro m.refs.length b.rc, .slice b.tq m.table.length b.tc, .slice b.so m.snaps.length b.sc, .slice b.dq m.data.length b.dc] 26)).heap[w.heap.size + 1]? = some (.cells #[.slice b.ro m.refs.length b.rc, .slice b.tq m.table.length b.tc, .slice b.so m.snaps.length b.sc, .slice b.dq m.data.length b.dc] 26 (0, 0))) := hide (heap_alloc2_new w _ _)
  have H1 := hide (h1.below (unhide HA))
  have H2 := hide (h2.below (unhide HA))
  have HR := hide hr
  have HT := hide ht
  have HS := hide hs
  have HD := hide hd
  clear h1 h2 hr ht hs hd
  go_enter Tryz.func14, Tryz.ntmps14
  go_upto_region 1 with fail
  revert HA HV HU H1 H2
  generalize ((w.alloc _).alloc _) = W0
  intro HA HV HU H1 H2
  have HCELL : Hid (∀ W, Below W0.heap.size W0 W → (W.cell? ⟨w.heap.size, 0, none⟩ = some (.slice a.ro m.refs.length a.rc) ∧ W.cell? ⟨w.heap.size, 1, none⟩ = some (.slice a.tq m.table.length a.tc) ∧ W.cell? ⟨w.heap.size, 2, none⟩ = some (.slice a.so m.snaps.length a.sc) ∧ W.cell? ⟨w.heap.size, 3, none⟩ = some (.slice a.dq m.data.length a.dc)) ∧ W.cell? ⟨w.heap.size + 1, 0, none⟩ = some (.slice b.ro m.refs.length b.rc) ∧ W.cell? ⟨w.heap.size + 1, 1, none⟩ = some (.slice b.tq m.table.length b.tc) ∧ W.cell? ⟨w.heap.size + 1, 2, none⟩ = some (.slice b.so m.snaps.length b.sc) ∧ W.cell? ⟨w.heap.size + 1, 3, none⟩ = some (.slice b.dq m.data.length b.dc)) := hide (fun W hW => by
    have n1 := (hW.block w.heap.size (Array.getElem?_eq_some_iff.1 (unhide HV)).1).trans (unhide HV)
    have n2 := (hW.block (w.heap.size + 1) (Array.getElem?_eq_some_iff.1 (unhide HU)).1).trans (unhide HU)
    refine ⟨⟨?_, ?_, ?_, ?_⟩, ?_, ?_, ?_, ?_⟩ <;> first | (rw [Joins.cell_of_block n1]; rfl) | (rw [Joins.cell_of_block n2]; rfl))
  have HVV : Hid (∀ W, Below W0.heap.size W0 W → VarM W w.heap.size 26 (.slice a.ro m.refs.length a.rc) (.slice a.tq m.table.length a.tc) (.slice a.so m.snaps.length a.sc) (.slice a.dq m.data.length a.dc) ∧ VarM W (w.heap.size + 1) 26 (.slice b.ro m.refs.length b.rc) (.slice b.tq m.table.length b.tc) (.slice b.so m.snaps.length b.sc) (.slice b.dq m.data.length b.dc)) := hide (fun W hW => ⟨VarM.below (unhide HV) hW, VarM.below (unhide HU) hW⟩)
  clear HV HU
  obtain ⟨⟨c0, c1, c2, c3⟩, d0, d1, d2, d3⟩ := unhide HCELL _ (Below.refl _ W0)
  go_wp2_with fail
  refine (sameNums_same a.ro b.ro a.rc b.rc m.refs _ (unhide HR) (unhide H1).r (unhide H2).r).mono ?_
  rintro e w1 ⟨rfl, hb⟩
  have HB1 := hide hb
  clear hb c0 c1 c2 c3 d0 d1 d2 d3
  obtain ⟨⟨c0, c1, c2, c3⟩, d0, d1, d2, d3⟩ := unhide HCELL _ (unhide HB1)
  go_wp2_with fail
  refine (sameNums_same a.tq b.tq a.tc b.tc m.table _ (unhide HT) ((unhide H1).below (unhide HB1)).t ((unhide H2).below (unhide HB1)).t).mono ?_
  rintro e w2 ⟨rfl, hb⟩
  have HB2 := hide (fr (unhide HB1) hb)
  clear hb c0 c1 c2 c3 d0 d1 d2 d3
  obtain ⟨⟨c0, c1, c2, c3⟩, d0, d1, d2, d3⟩ := unhide HCELL _ (unhide HB2)
  go_wp2_with fail
  refine (sameNums_same a.dq b.dq a.dc b.dc m.data _ (unhide HD) ((unhide H1).below (unhide HB2)).d ((unhide H2).below (unhide HB2)).d).mono ?_
  rintro e w3 ⟨rfl, hb⟩
  have HB3 := hide (fr (unhide HB2) hb)
  clear hb c0 c1 c2 c3 d0 d1 d2 d3
  obtain ⟨⟨c0, c1, c2, c3⟩, d0, d1, d2, d3⟩ := unhide HCELL _ (unhide HB3)
  have hsm := unhide HS
  unfold maxLen at hsm
  go_wp2
  clear c0 c1 c2 c3 d0 d1 d2 d3
  go_loopw [5] (fun i wr => ∃ k : Nat, k ≤ m.snaps.length ∧ i = .int .i64 k ∧ Hid (Below W0.heap.size W0 wr)) (fun i _ => m.snaps.length - (intOf i).toNat)
  case atStart => exact ⟨0, Nat.zero_le _, rfl, HB3⟩
  case round =>
    clear HB1 HB2 HB3
    obtain ⟨k, hk, rfl, HB⟩ := hrel
    obtain ⟨⟨c0, c1, c2, c3⟩, d0, d1, d2, d3⟩ := unhide HCELL _ (unhide HB)
    by_cases hlt : k < m.snaps.length
    · obtain ⟨b1, o1, q1, p1, e1, hn1, ht1, i1, _, hm1⟩ := ((unhide H1).below (unhide HB)).s k hlt
      obtain ⟨b2, o2, q2, p2, e2, hn2, ht2, i2, _, _⟩ := ((unhide H2).below (unhide HB)).s k hlt
      have hki : (k : Int) < (m.snaps.length : Int) := by omega
      have HI1 := hide i1
      have HI2 := hide i2
      have HML := hide hm1
      have l1 := World.block_lt_of_cell? _ _ hn1
      have l2 := World.block_lt_of_cell? _ _ hn2
      rw [e1] at c2
      rw [e2] at d2
      have hne : (m.snaps[k].name.toList != m.snaps[k].name.toList) = false := by simp
      have HCALL : Hid (∀ n, Calls Tryz.prog 42 #[.slice q1 m.snaps[k].table.length p1, .slice q2 m.snaps[k].table.length p2] (wr.drewN n) fun e w' => e = .returned (.bool true) ∧ ∃ m, w' = (wr.drewN n).drewN m) := hide (fun n => sameInts_draws q1 q2 p1 p2 m.snaps[k].table (wr.drewN n) (unhide HML) ((unhide HI1).below (Joins.below_draws _ _ _)) ((unhide HI2).below (Joins.below_draws _ _ _)))
      clear e1 e2 i1 i2 hm1
      generalize m.snaps[k].table.length = TL at *
      generalize m.snaps[k].name = NM at *
      go_upto_region 6 with fail
      go_quiet ((go_at_call 42; refine Calls.quiet_of (unhide HCALL _)))
      have HB5 : Hid (Below W0.heap.size W0 (wr.drewN nq)) := hide ((unhide HB).trans (Joins.below_draws _ _ _))
      clear c0 c1 c2 c3 d0 d1 d2 d3 hn1 ht1 hn2 ht2 HCALL
      go_wp2
      go_roundw
      case rel => exact ⟨k + 1, by omega, by go_num, HB5⟩
      case measure => simp [intOf]; omega
    · go_wp2
      go_ret
      exact ⟨rfl, fr (unhide HA) (unhide HB)⟩

end Go.Proofs.YtbmkdbccdnbbjaaGreatDoor

namespace Go.Proofs.YtbmkdbccdnbbjaaGreatDoor
open Go.RowKit
set_option linter.unusedVariables false
set_option maxRecDepth 100000

theorem eqUp_same (a : Int) (s : ByteArray) (w : World) : (Op.equalIn 10000 43 (.agg #[.int .i64 a, .string s]) (.agg #[.int .i64 a, .string s])).run Tryz.prog w = .ok true w := by
  have u3 := Tryz.underlying3
  have u9 := Tryz.underlying9
  have a3 := Tryz.isAgg3
  have a9 := Tryz.isAgg9
  have z3 := Tryz.sizeOf3
  have z9 := Tryz.sizeOf9
  have hS : Tryz.prog.underlying 43 = some (.struct (Tryz.prog.fieldsOf 43)) := by kernel_rfl
  rw [show (10000 : Nat) = 9999 + 1 from rfl, run_equalIn_agg w 9999 43 _ _ hS (by kernel_rfl)]
  simp only [Program.fieldsOf, Tryz.underlying43]
  go_simp

set_option maxHeartbeats 800000 in
theorem sameUpdates_draws (ao bo : Option Addr) (ca cb : Nat) (xs : List Up) (w : World) (hm : xs.length ≤ maxLen) (h1 : Ups w ao xs) (h2 : Ups w bo xs) :
    Calls Tryz.prog 13 #[.slice ao xs.length ca, .slice bo xs.length cb] w fun e w' => e = .returned (.bool true) ∧ ∃ m, w' = w.drewN m := by
  have P2 := hide h1
  have P4 := hide h2
  clear h1 h2
  have hb : ((xs.length : Int) != (xs.length : Int)) = false := by simp
  have heq := eqUp_same
  unfold maxLen at hm
  go_enter Tryz.func13, Tryz.ntmps13
  go_wp2
  go_loopw [5] (fun i wr => ∃ (k n : Nat), k ≤ xs.length ∧ i = .int .i64 k ∧ wr = w.drewN n) (fun i _ => xs.length - (intOf i).toNat)
  case atStart => exact ⟨0, 0, Nat.zero_le _, rfl, rfl⟩
  case round =>
    obtain ⟨k, n, hk, rfl, rfl⟩ := hrel
    by_cases hlt : k < xs.length
    · obtain ⟨b, off, rfl, c0, c1, hz⟩ := (unhide P2) k hlt
      obtain ⟨b', off', rfl, d0, d1, hz'⟩ := (unhide P4) k hlt
      clear hz hz'
      go_wp2
      go_quiet (fail)
      go_wp2
      go_roundw
      case rel => exact ⟨k + 1, _, by omega, by go_num, rfl⟩
      case measure => simp [intOf]; omega
    · go_wp2
      go_ret
      exact ⟨rfl, n, rfl⟩

end Go.Proofs.YtbmkdbccdnbbjaaGreatDoor

namespace Go.Proofs.YtbmkdbccdnbbjaaGreatDoor
open Go.RowKit
set_option linter.unusedVariables false
set_option maxRecDepth 100000

def sxT (p : Int) (m : Nat) : List Int := (List.range m).map fun i => p / 16 ^ i % 16
theorem sxT_len (p : Int) (m : Nat) : (sxT p m).length = m := by simp [sxT]
theorem sxT_succ (p : Int) (m : Nat) : sxT p (m + 1) = sxT p m ++ [p / 16 ^ m % 16] := by simp [sxT, List.range_succ]
theorem rest_succ (p : Int) (m : Nat) : p / 16 ^ m / 16 = p / 16 ^ (m + 1) := by
  rw [show (16 : Int) ^ (m + 1) = 16 ^ m * 16 from Int.pow_succ 16 m, Int.ediv_ediv_of_nonneg (by exact Int.le_of_lt (Int.pow_pos (by omega)))]
theorem rest_in {p : Int} (h0 : 0 ≤ p) (h1 : p ≤ 2147483647) : ∀ m, 0 ≤ p / 16 ^ m ∧ p / 16 ^ m ≤ 2147483647
  | 0 => by simpa using ⟨h0, h1⟩
  | m + 1 => by
    obtain ⟨g0, g1⟩ := rest_in h0 h1 m
    rw [← rest_succ]
    generalize p / 16 ^ m = V at *
    omega
def sxA (ns : List Int) (i : Nat) : List Int := (ns.take i).flatMap fun p => sxT p 6
theorem sxA_len (ns : List Int) : ∀ i, i ≤ ns.length → (sxA ns i).length = 6 * i
  | 0, _ => by simp [sxA]
  | i + 1, h => by
    have := sxA_len ns i (by omega)
    unfold sxA at *
    rw [List.take_succ_eq_append_getElem (by omega), List.flatMap_append, List.length_append, this]
    simp [sxT_len]; omega
theorem sxA_succ {ns : List Int} {i : Nat} (h : i < ns.length) : sxA ns i ++ sxT ns[i] 6 = sxA ns (i + 1) := by
  unfold sxA
  rw [List.take_succ_eq_append_getElem h, List.flatMap_append]; simp
def pad24 (xs : List Int) : List Int := xs ++ List.replicate (24 - xs.length) 0
theorem pad_len {xs : List Int} (h : xs.length ≤ 24) : (pad24 xs).length = 24 := by simp [pad24]; omega
theorem pad_full {xs : List Int} (h : xs.length = 24) : pad24 xs = xs := by simp [pad24, h]
theorem pad_set {xs : List Int} (h : xs.length < 24) (n : Int) : (pad24 xs).set xs.length n = pad24 (xs ++ [n]) := by
  unfold pad24
  rw [List.set_append, if_neg (by omega), Nat.sub_self, List.append_assoc]
  obtain ⟨k, hk⟩ : ∃ k, 24 - xs.length = k + 1 := ⟨24 - xs.length - 1, by omega⟩
  rw [hk, List.replicate_succ, List.set_cons_zero, List.length_append, show 24 - (xs.length + [n].length) = k by simp; omega]
  rfl
def cdN (p : Int) : Bool := decide (p / 16 ^ 6 = 0)
def cdB (s : ByteArray) : Bool := openB s 2 && decide ((openL s 2).length = 4) && (openL s 2).all cdN
def cdL (s : ByteArray) : List Int := sxA (openL s 2) 4
def cdC (s : ByteArray) : Int := if 65536 < s.size then 2 else if cdB s = true then 0 else 3
def cdR (s : ByteArray) : List Int := if cdC s = 0 then cdL s else []
theorem cd_open {s : ByteArray} (h : openB s 2 = false) : cdB s = false := by rw [cdB, h]; rfl
theorem cd_len {s : ByteArray} (h : ¬ (openL s 2).length = 4) : cdB s = false := by rw [cdB, decide_eq_false h]; simp
theorem cd_num {s : ByteArray} {k : Nat} (hk : k < (openL s 2).length) (h : cdN (openL s 2)[k] = false) : cdB s = false := by rw [cdB, all_not (p := cdN) hk h]; simp
theorem cd_yes {s : ByteArray} (h : openB s 2 = true) (hl : (openL s 2).length = 4) (ha : ∀ j (hj : j < (openL s 2).length), cdN (openL s 2)[j] = true) : cdB s = true := by
  rw [cdB, h, decide_eq_true hl, all_of (p := cdN) (fun i hi _ => ha i hi)]; rfl
theorem cdB_parts {s : ByteArray} (h : cdB s = true) : openB s 2 = true ∧ (openL s 2).length = 4 ∧ ∀ j (hj : j < (openL s 2).length), cdN (openL s 2)[j] = true := by
  simp only [cdB, Bool.and_eq_true, decide_eq_true_eq, List.all_eq_true] at h
  exact ⟨h.1.1, h.1.2, fun j hj => h.2 _ (List.getElem_mem hj)⟩
theorem cdL_len {s : ByteArray} (h : cdB s = true) : (cdL s).length = 24 := by
  obtain ⟨_, h4, _⟩ := cdB_parts h
  rw [cdL, sxA_len _ _ (by omega)]
theorem cd_ok {s : ByteArray} (h : ¬ 65536 < s.size) (hb : cdB s = true) : cdC s = 0 ∧ cdR s = cdL s := by
  have e : cdC s = 0 := by rw [cdC, if_neg h, hb]; rfl
  exact ⟨e, by rw [cdR, e]; rfl⟩
theorem openL_in {s : ByteArray} {k : Int} (h : openB s k = true) : ∀ j (hj : j < (openL s k).length), 0 ≤ (openL s k)[j] ∧ (openL s k)[j] ≤ 2147483647 := by
  intro j hj
  have hr : RecP s := by
    cases hq : recB s
    · rw [openB, hq] at h; cases h
    · exact recB_iff.1 hq
  rw [openL_yes h] at hj
  simp only [openL_yes h]
  have hu : okU (bodyT s) = true := hr.2.2.2.2.2
  exact (intsB_parts (okU_parts hu).2.2).1 j hj

end Go.Proofs.YtbmkdbccdnbbjaaGreatDoor

namespace Go.Proofs.YtbmkdbccdnbbjaaGreatDoor
open Go.RowKit
set_option linter.unusedVariables false
set_option maxRecDepth 100000

theorem lo_digit {xs : List Int} (i : Nat) (h : ∀ j, 0 ≤ xs.getD j 0 ∧ xs.getD j 0 ≤ 15) (t : Nat) (ht : t < 6) : lo6 xs i 6 / 16 ^ t % 16 = xs.getD (i + t) 0 := by
  have h0 := h (i + 0)
  have h1 := h (i + 1)
  have h2 := h (i + 2)
  have h3 := h (i + 3)
  have h4 := h (i + 4)
  have h5 := h (i + 5)
  simp only [lo6, show (16 : Int) ^ 0 = 1 from rfl, show (16 : Int) ^ 1 = 16 from rfl, show (16 : Int) ^ 2 = 256 from rfl, show (16 : Int) ^ 3 = 4096 from rfl, show (16 : Int) ^ 4 = 65536 from rfl, show (16 : Int) ^ 5 = 1048576 from rfl]
  generalize e0 : xs.getD (i + 0) 0 = a0 at *
  generalize e1 : xs.getD (i + 1) 0 = a1 at *
  generalize e2 : xs.getD (i + 2) 0 = a2 at *
  generalize e3 : xs.getD (i + 3) 0 = a3 at *
  generalize e4 : xs.getD (i + 4) 0 = a4 at *
  generalize e5 : xs.getD (i + 5) 0 = a5 at *
  match t, ht with
  | 0, _ => rw [show (16 : Int) ^ 0 = 1 from rfl, e0]; omega
  | 1, _ => rw [show (16 : Int) ^ 1 = 16 from rfl, e1]; omega
  | 2, _ => rw [show (16 : Int) ^ 2 = 256 from rfl, e2]; omega
  | 3, _ => rw [show (16 : Int) ^ 3 = 4096 from rfl, e3]; omega
  | 4, _ => rw [show (16 : Int) ^ 4 = 65536 from rfl, e4]; omega
  | 5, _ => rw [show (16 : Int) ^ 5 = 1048576 from rfl, e5]; omega
theorem sx_cut {xs : List Int} (hb : ctB xs = true) (i : Nat) (hi : i + 6 ≤ xs.length) : sxT (lo6 xs i 6) 6 = (xs.drop i).take 6 := by
  apply List.ext_getElem
  · rw [sxT_len, List.length_take, List.length_drop]; omega
  · intro t h1 h2
    have h6 : t < 6 := by rw [sxT_len] at h1; exact h1
    refine (show _ = lo6 xs i 6 / 16 ^ t % 16 by simp [sxT]).trans ?_
    rw [lo_digit i (ctB_getD hb) t h6, List.getElem_take, List.getElem_drop]
    simp [List.getD, show i + t < xs.length by omega]
theorem four_cuts {xs : List Int} (hl : xs.length = 24) : (xs.drop 0).take 6 ++ ((xs.drop 6).take 6 ++ ((xs.drop 12).take 6 ++ (xs.drop 18).take 6)) = xs := by
  have a : (xs.drop 18).take 6 = xs.drop 18 := List.take_of_length_le (by rw [List.length_drop]; omega)
  have b : (xs.drop 12).take 6 ++ xs.drop 18 = xs.drop 12 := by
    have := List.take_append_drop 6 (xs.drop 12)
    rw [List.drop_drop] at this; exact this
  have c : (xs.drop 6).take 6 ++ xs.drop 12 = xs.drop 6 := by
    have := List.take_append_drop 6 (xs.drop 6)
    rw [List.drop_drop] at this; exact this
  rw [a, b, c, List.drop_zero, List.take_append_drop]
theorem enc_cd {xs : List Int} (hb : ctB xs = true) : cdC (encT xs) = 0 ∧ cdR (encT xs) = xs := by
  have hl := ctB_len hb
  have hall : allB (ctNs xs) = true := allB_true (fun j hj => by have := ctNs_in hb j hj; simp [numB, inB]; omega)
  have hz : (encT xs).size = 20 := sealS_size 2 (ctNs xs)
  have ho : openB (encT xs) 2 = true := openB_yes (rec_seal (by decide) hall (by simp [ctNs])) (seal_kind (by decide) (by simp [ctNs]))
  have hL : openL (encT xs) 2 = ctNs xs := by rw [openL_yes ho, encT, body_seal, un_pack hall]
  have hB : cdB (encT xs) = true := by
    apply cd_yes ho
    · rw [hL]; rfl
    · simp only [hL]
      intro j hj
      have := ctNs_in hb j hj
      simp only [cdN, decide_eq_true_eq]
      rw [show (16 : Int) ^ 6 = 16777216 from rfl]
      omega
  obtain ⟨c1, c2⟩ := cd_ok (by omega) hB
  refine ⟨c1, c2.trans ?_⟩
  rw [cdL, hL]
  have e : sxA (ctNs xs) 4 = sxT (lo6 xs 0 6) 6 ++ (sxT (lo6 xs 6 6) 6 ++ (sxT (lo6 xs 12 6) 6 ++ sxT (lo6 xs 18 6) 6)) := by simp [sxA, ctNs]
  rw [e, sx_cut hb 0 (by omega), sx_cut hb 6 (by omega), sx_cut hb 12 (by omega), sx_cut hb 18 (by omega), four_cuts hl]
end Go.Proofs.YtbmkdbccdnbbjaaGreatDoor

namespace Go.Proofs.YtbmkdbccdnbbjaaGreatDoor
open Go.RowKit
set_option linter.unusedVariables false
set_option maxRecDepth 100000

def ch1 (n : Int) (b : UInt8) : Int := 27 * n + ((b.toNat : Int) - 97) % 256 + 1
def nmN (t : ByteArray) : Int := t.data.toList.foldl ch1 0
def lt1 (n : Nat) : UInt8 := UInt8.ofNat (97 + (n + 26) % 27)
def ltL : Nat → Nat → List UInt8
  | 0, _ => []
  | f + 1, n => if n = 0 then [] else ltL f (n / 27) ++ [lt1 n]
def unT (n : Int) : ByteArray := ⟨(ltL 8 n.toNat).toArray⟩
theorem ch1_in {n : Int} {b : UInt8} (hb : nm1 b = true) : ch1 n b = 27 * n + ((b.toNat : Int) - 96) := by
  simp only [nm1, Bool.and_eq_true, decide_eq_true_eq] at hb
  unfold ch1
  rw [Int.emod_eq_of_lt (by omega) (by omega)]; omega
theorem fold_lo : ∀ (l : List UInt8), l.all nm1 = true → ∀ n : Int, 0 ≤ n → 0 ≤ l.foldl ch1 n ∧ l.foldl ch1 n + 1 ≤ (n + 1) * 27 ^ l.length
  | [], _, n, hn => ⟨hn, by simp⟩
  | b :: l, h, n, hn => by
    simp only [List.all_cons, Bool.and_eq_true] at h
    have hb := h.1
    simp only [nm1, Bool.and_eq_true, decide_eq_true_eq] at hb
    rw [List.foldl_cons, ch1_in h.1]
    have := fold_lo l h.2 (27 * n + ((b.toNat : Int) - 96)) (by omega)
    refine ⟨this.1, Int.le_trans this.2 ?_⟩
    rw [List.length_cons, Int.pow_succ, Int.mul_comm _ 27, ← Int.mul_assoc]
    exact Int.mul_le_mul_of_nonneg_right (by omega) (Int.pow_nonneg (by omega))
theorem snm_parts {t : ByteArray} (h : snmB t = true) : t.data.toList.all nm1 = true ∧ 1 ≤ t.size ∧ t.size ≤ 6 := by
  simp only [snmB, Bool.and_eq_true] at h
  have := betw_iff.1 h.2
  exact ⟨h.1, by omega, by omega⟩
theorem nmN_in {t : ByteArray} (h : snmB t = true) : 0 ≤ nmN t ∧ nmN t ≤ 387420488 := by
  obtain ⟨h1, h2, h3⟩ := snm_parts h
  have h4 := fold_lo _ h1 0 (by omega)
  have hl : t.data.toList.length = t.size := by simp
  rw [hl] at h4
  refine ⟨h4.1, ?_⟩
  have : (27 : Int) ^ t.size ≤ 387420489 := by rcases (show t.size = 1 ∨ t.size = 2 ∨ t.size = 3 ∨ t.size = 4 ∨ t.size = 5 ∨ t.size = 6 by omega) with e | e | e | e | e | e <;> rw [e] <;> decide
  have h5 := h4.2
  unfold nmN
  omega
theorem lt1_ch1 {n : Nat} {b : UInt8} (hb : nm1 b = true) : lt1 (27 * n + (b.toNat - 96)) = b ∧ (27 * n + (b.toNat - 96)) / 27 = n ∧ 27 * n + (b.toNat - 96) ≠ 0 := by
  simp only [nm1, Bool.and_eq_true, decide_eq_true_eq] at hb
  refine ⟨?_, by omega, by omega⟩
  unfold lt1
  rw [show 97 + (27 * n + (b.toNat - 96) + 26) % 27 = b.toNat by omega]
  exact UInt8.ofNat_toNat
theorem ltL_fold : ∀ (l : List UInt8) (f n : Nat), l.all nm1 = true → ∃ N : Nat, l.foldl ch1 (n : Int) = (N : Int) ∧ ltL (f + l.length) N = ltL f n ++ l
  | [], f, n, _ => ⟨n, rfl, by simp⟩
  | b :: l, f, n, h => by
    simp only [List.all_cons, Bool.and_eq_true] at h
    obtain ⟨k1, k2, k3⟩ := lt1_ch1 (n := n) h.1
    have hb := h.1
    simp only [nm1, Bool.and_eq_true, decide_eq_true_eq] at hb
    obtain ⟨N, e, hN⟩ := ltL_fold l (f + 1) (27 * n + (b.toNat - 96)) h.2
    refine ⟨N, ?_, ?_⟩
    · rw [List.foldl_cons, ch1_in h.1, ← e]
      congr 1
      omega
    · rw [List.length_cons, show f + (l.length + 1) = f + 1 + l.length by omega, hN]
      have : ltL (f + 1) (27 * n + (b.toNat - 96)) = ltL f n ++ [b] := by
        rw [ltL, if_neg k3, k1, k2]
      rw [this, List.append_assoc]; rfl
theorem ltL_zero (f : Nat) : ltL f 0 = [] := by cases f <;> simp [ltL]
theorem un_nm {t : ByteArray} (h : snmB t = true) : unT (nmN t) = t := by
  obtain ⟨h1, h2, h3⟩ := snm_parts h
  have hl : t.data.toList.length = t.size := by simp
  obtain ⟨N, e, hN⟩ := ltL_fold t.data.toList (8 - t.size) 0 h1
  rw [hl, show 8 - t.size + t.size = 8 by omega, ltL_zero, List.nil_append] at hN
  have e2 : nmN t = (N : Int) := e
  rw [unT, e2, Int.toNat_natCast, hN]
def supL (m : Img) : List Int := (m.snaps.length : Int) :: m.snaps.map (fun s => nmN s.name)
def tabU : Nat → List Snp → List Up
  | _, [] => []
  | i, s :: ss => ⟨12 + (i : Int), encTb s.table⟩ :: tabU (i + 1) ss
def datU (m : Img) (c : Nat) : List Up := if 0 < m.refs.getD c 0 then [⟨15 + (c : Int), sealS 4 [m.data.getD c 0]⟩] else []
def headU (m : Img) : List Up := [⟨9, sealS 1 (supL m)⟩, ⟨10, encT m.refs⟩, ⟨11, encTb m.table⟩]
def dataU (m : Img) (k : Nat) : List Up := (List.range k).flatMap (datU m)
def allU (m : Img) : List Up := headU m ++ tabU 0 m.snaps ++ dataU m 24
theorem tabU_len : ∀ (ss : List Snp) (i : Nat), (tabU i ss).length = ss.length
  | [], i => rfl
  | s :: ss, i => by simp only [tabU, List.length_cons, tabU_len ss (i + 1)]
theorem tabU_snoc : ∀ (ss : List Snp) (i : Nat) (s : Snp), tabU i (ss ++ [s]) = tabU i ss ++ [⟨12 + ((i + ss.length : Nat) : Int), encTb s.table⟩]
  | [], i, s => by simp [tabU]
  | a :: ss, i, s => by
    simp only [List.cons_append, tabU, tabU_snoc ss (i + 1) s, List.length_cons]
    rw [show i + 1 + ss.length = i + (ss.length + 1) by omega]
theorem dataU_succ (m : Img) (k : Nat) : dataU m (k + 1) = dataU m k ++ datU m k := by
  unfold dataU
  rw [List.range_succ, List.flatMap_append]; simp
theorem dataU_len (m : Img) : ∀ k, (dataU m k).length ≤ k
  | 0 => by simp [dataU]
  | k + 1 => by
    rw [dataU_succ, List.length_append]
    have := dataU_len m k
    have h2 : (datU m k).length ≤ 1 := by unfold datU; split <;> simp
    omega
theorem allU_len {m : Img} (h : m.snaps.length ≤ 3) : (allU m).length ≤ 30 := by
  unfold allU
  rw [List.length_append, List.length_append, tabU_len]
  have := dataU_len m 24
  have : (headU m).length = 3 := rfl
  omega
def iuA (m : Img) : List Up × Int := if imB m = true then (allU m, 0) else ([], 1)
def upEq (u v : Up) : Bool := decide (u.at_ = v.at_) && decide (u.data = v.data)
def difU (a b : Img) : List Up := (allU b).filter fun u => !((allU a).any fun v => upEq v u)
def dfA (a b : Img) : List Up × Int := if imB a = true ∧ imB b = true then (difU a b, 0) else ([], 1)

end Go.Proofs.YtbmkdbccdnbbjaaGreatDoor

namespace Go.Proofs.YtbmkdbccdnbbjaaGreatDoor
open Go.RowKit
set_option linter.unusedVariables false
set_option maxRecDepth 100000

def srS (sec : Nat → ByteArray) : List Int := openL (sec 9) 1
def srN (sec : Nat → ByteArray) : Nat := ((srS sec).getD 0 0).toNat
def supB (sec : Nat → ByteArray) : Bool := openB (sec 9) 1 && decide (0 < (srS sec).length) && decide ((srS sec).getD 0 0 ≤ 3) && decide (((srS sec).length : Int) = 1 + (srS sec).getD 0 0)
def srR (sec : Nat → ByteArray) : List Int := if cdB (sec 10) = true then cdL (sec 10) else []
def srT (sec : Nat → ByteArray) : List Int := openL (sec 11) 3
def snB1 (sec : Nat → ByteArray) (i : Nat) : Bool := tdB (sec (12 + i)) && decide (nmN (unT ((srS sec).getD (1 + i) 0)) = (srS sec).getD (1 + i) 0)
def snR1 (sec : Nat → ByteArray) (i : Nat) : Snp := ⟨unT ((srS sec).getD (1 + i) 0), openL (sec (12 + i)) 3⟩
def srSn (sec : Nat → ByteArray) (k : Nat) : List Snp := (List.range k).map (snR1 sec)
def daB1 (sec : Nat → ByteArray) (c : Nat) : Bool := decide ((srR sec).getD c 0 = 0) || (openB (sec (15 + c)) 4 && decide ((openL (sec (15 + c)) 4).length = 1))
def daR1 (sec : Nat → ByteArray) (c : Nat) : Int := if (srR sec).getD c 0 = 0 then 0 else (openL (sec (15 + c)) 4).getD 0 0
def srM (sec : Nat → ByteArray) : Img := ⟨srR sec, srT sec, srSn sec (srN sec), (List.range 24).map (daR1 sec)⟩
def srP (sec : Nat → ByteArray) : Bool := supB sec && cdB (sec 10) && tdB (sec 11) && (List.range (srN sec)).all (snB1 sec) && (List.range 24).all (daB1 sec)
def srB (sec : Nat → ByteArray) : Bool := srP sec && imB (srM sec)

theorem open_seal1 {k : Int} {xs : List Int} (hk : 0 ≤ k ∧ k ≤ 255) (ha : allB xs = true) (hl : xs.length ≤ 16) (hk2 : 1 ≤ k ∧ k ≤ 9) : openB (sealS k xs) k = true ∧ openL (sealS k xs) k = xs := by
  have ho : openB (sealS k xs) k = true := openB_yes (rec_seal (by omega) ha (by omega)) (seal_kind (by omega) (by omega))
  exact ⟨ho, by rw [openL_yes ho, body_seal, un_pack ha]⟩
theorem tabU_mem : ∀ (ss : List Snp) (i : Nat) (j : Nat) (hj : j < ss.length), (⟨12 + ((i + j : Nat) : Int), encTb ss[j].table⟩ : Up) ∈ tabU i ss
  | s :: ss, i, 0, _ => by simp [tabU]
  | s :: ss, i, j + 1, hj => by
    have := tabU_mem ss (i + 1) j (by simpa using hj)
    simp only [tabU, List.mem_cons, List.getElem_cons_succ]
    right
    rwa [show i + (j + 1) = i + 1 + j by omega]
theorem allB_snm {m : Img} (h : ImR m) : allB (supL m) = true := by
  have hs := h.few
  unfold allB supL
  rw [List.all_cons, Bool.and_eq_true]
  refine ⟨by simp [numB, inB]; omega, ?_⟩
  rw [List.all_eq_true]
  intro x hx
  obtain ⟨s, hs', rfl⟩ := List.mem_map.1 hx
  have := nmN_in (h.snaps s hs').1
  simp [numB, inB]; omega
theorem sr_all {m : Img} (h : ImR m) {sec : Nat → ByteArray} (hs : ∀ u ∈ allU m, sec u.at_.toNat = u.data) : srB sec = true ∧ srM sec = m := by
  have hmem : ∀ u, u ∈ headU m ∨ u ∈ tabU 0 m.snaps ∨ u ∈ dataU m 24 → sec u.at_.toNat = u.data := fun u hu => hs u (by unfold allU; rw [List.mem_append, List.mem_append]; rcases hu with h | h | h <;> simp [h])
  have e9 : sec 9 = sealS 1 (supL m) := hmem ⟨9, sealS 1 (supL m)⟩ (.inl (by simp [headU]))
  have e10 : sec 10 = encT m.refs := hmem ⟨10, encT m.refs⟩ (.inl (by simp [headU]))
  have e11 : sec 11 = encTb m.table := hmem ⟨11, encTb m.table⟩ (.inl (by simp [headU]))
  have hf := h.few
  obtain ⟨o9, l9⟩ := open_seal1 (k := 1) (by omega) (allB_snm h) (by simp [supL]; omega) (by omega)
  have hS : srS sec = supL m := by rw [srS, e9, l9]
  have hN : srN sec = m.snaps.length := by rw [srN, hS]; simp [supL]
  have hsup : supB sec = true := by
    unfold supB
    rw [e9, o9, hS]
    simp [supL]
    omega
  obtain ⟨c1, c2⟩ := enc_cd h.refs
  have hcd : cdB (sec 10) = true := by
    rw [e10]
    cases hb : cdB (encT m.refs) with
    | true => rfl
    | false =>
      unfold cdC at c1
      rw [hb] at c1
      split at c1 <;> simp at c1
  have hR : srR sec = m.refs := by
    rw [srR, if_pos hcd, e10]
    rw [cdR, if_pos c1] at c2
    exact c2
  have tb : ∀ t : List Int, tbB t = true → tdB (encTb t) = true ∧ openL (encTb t) 3 = t := fun t ht => by
    obtain ⟨ho, hl⟩ := open_seal1 (k := 3) (by omega) (tb_all ht) (by have := tbB_len ht; omega) (by omega)
    have hl' : openL (encTb t) 3 = t := hl
    exact ⟨by rw [tdB, hl', ht, Bool.and_true]; exact ho, hl'⟩
  obtain ⟨t1, t2⟩ := tb m.table h.table
  have hT : srT sec = m.table := by rw [srT, e11, t2]
  have hsn : ∀ i (hi : i < m.snaps.length), snB1 sec i = true ∧ snR1 sec i = m.snaps[i] := fun i hi => by
    have e := hmem ⟨12 + ((0 + i : Nat) : Int), encTb m.snaps[i].table⟩ (.inr (.inl (tabU_mem m.snaps 0 i hi)))
    have e' : sec (12 + i) = encTb m.snaps[i].table := by
      have e2 : sec (12 + ((0 + i : Nat) : Int)).toNat = encTb m.snaps[i].table := e
      rwa [show (12 + ((0 + i : Nat) : Int)).toNat = 12 + i by omega] at e2
    obtain ⟨s1, s2⟩ := tb _ (h.snaps _ (List.getElem_mem hi)).2
    have hv : (srS sec).getD (1 + i) 0 = nmN m.snaps[i].name := by
      rw [hS, Nat.add_comm]
      simp [supL, List.getD, hi]
    have hnm := (h.snaps _ (List.getElem_mem hi)).1
    unfold snB1 snR1
    rw [e', s1, s2, hv, un_nm hnm]
    exact ⟨by simp, rfl⟩
  have hSn : srSn sec (srN sec) = m.snaps := by
    rw [hN]
    refine List.ext_getElem (by simp [srSn]) (fun i h1 h2 => ?_)
    simp only [srSn, List.getElem_map, List.getElem_range]
    exact (hsn i h2).2
  have hda : ∀ c, c < 24 → daB1 sec c = true ∧ daR1 sec c = m.data.getD c 0 := fun c hc => by
    unfold daB1 daR1
    rw [hR]
    by_cases hz : m.refs.getD c 0 = 0
    · rw [if_pos hz, decide_eq_true hz, h.clear c hc hz]
      exact ⟨rfl, rfl⟩
    · have hp : 0 < m.refs.getD c 0 := by
        have hcl : c < m.refs.length := by rw [h.rl]; exact hc
        have := ctB_at h.refs c hcl
        rw [show m.refs.getD c 0 = m.refs[c] by simp [List.getD, hcl]] at hz ⊢
        omega
      have e := hmem ⟨15 + (c : Int), sealS 4 [m.data.getD c 0]⟩ (.inr (.inr (by
        unfold dataU
        rw [List.mem_flatMap]
        exact ⟨c, List.mem_range.2 hc, by unfold datU; rw [if_pos hp]; simp⟩)))
      have e' : sec (15 + c) = sealS 4 [m.data.getD c 0] := by
        have e2 : sec (15 + (c : Int)).toNat = sealS 4 [m.data.getD c 0] := e
        rwa [show (15 + (c : Int)).toNat = 15 + c by omega] at e2
      have hnum : numB (m.data.getD c 0) = true := by
        have hcl : c < m.data.length := by rw [h.len]; exact hc
        rw [show m.data.getD c 0 = m.data[c] by simp [List.getD, hcl]]
        exact h.nums _ (List.getElem_mem hcl)
      obtain ⟨ho, hl⟩ := open_seal1 (k := 4) (xs := [m.data.getD c 0]) (by omega) (by unfold allB; rw [List.all_cons, hnum]; rfl) (by simp) (by omega)
      rw [if_neg hz, e', ho, hl]
      exact ⟨by simp, rfl⟩
  have hD : (List.range 24).map (daR1 sec) = m.data := by
    refine getD_ext (by simp) h.len (fun i hi => ?_)
    rw [range_getD hi]
    exact (hda i hi).2
  have hM : srM sec = m := by
    unfold srM
    rw [hR, hT, hSn, hD]
  refine ⟨?_, hM⟩
  unfold srB srP
  rw [hM, imB_iff.2 h, hsup, hcd, e11, t1, hN]
  simp only [Bool.and_true, Bool.true_and, Bool.and_eq_true, List.all_eq_true, List.mem_range]
  exact ⟨fun i hi => (hsn i hi).1, fun c hc => (hda c hc).1⟩

end Go.Proofs.YtbmkdbccdnbbjaaGreatDoor

namespace Go.Proofs.YtbmkdbccdnbbjaaGreatDoor
open Go.RowKit
set_option linter.unusedVariables false
set_option maxRecDepth 100000

theorem hx_in (xs : List Int) (i : Nat) (h : ∀ j, 0 ≤ xs.getD j 0 ∧ xs.getD j 0 ≤ 15) : ∀ m, 0 ≤ hx6 xs i m ∧ hx6 xs i m < 16 ^ m
  | 0 => by simp [hx6]
  | m + 1 => by
    obtain ⟨h0, h1⟩ := hx_in xs i h m
    obtain ⟨g0, g1⟩ := h (i + (5 - m))
    rw [hx6, show (16 : Int) ^ (m + 1) = 16 ^ m * 16 from Int.pow_succ 16 m]
    generalize (16 : Int) ^ m = P at *
    omega
theorem hx_le {xs : List Int} (hb : ctB xs = true) (i m : Nat) (hm : m ≤ 5) : 0 ≤ hx6 xs i m ∧ hx6 xs i m ≤ 1048576 := by
  obtain ⟨h0, h1⟩ := hx_in xs i (ctB_getD hb) m
  have hp : (16 : Int) ^ m ≤ 1048576 := by
    match m, hm with
    | 0, _ => decide
    | 1, _ => decide
    | 2, _ => decide
    | 3, _ => decide
    | 4, _ => decide
    | 5, _ => decide
  omega
theorem ctNs_get (xs : List Int) (q : Nat) (h : q < (ctNs xs).length) : (ctNs xs)[q] = lo6 xs (6 * q) 6 := by
  have h4 : q < 4 := h
  match q, h4 with
  | 0, _ => rfl
  | 1, _ => rfl
  | 2, _ => rfl
  | 3, _ => rfl
theorem take_snoc {xs : List Int} {q : Nat} {n : Int} (h : q < xs.length) (e : n = xs[q]) : xs.take (q + 1) = xs.take q ++ [n] := by
  rw [e, List.take_succ_eq_append_getElem h]

set_option maxHeartbeats 3200000 in
theorem l08Encode_any (ao : Option Addr) (cap : Nat) (xs : List Int) (w : World) (hb : ctB xs = true) (hc : Is w ao xs) :
    Calls Tryz.prog 86 #[.slice ao xs.length cap] w fun e w' => e = .returned (.string (encT xs)) ∧ Below w.heap.size w w' := by
  obtain ⟨j0, hj, hy0, hy1, hy2⟩ := info_parts infoM
  have HCB := hide hb
  have HL := hide (ctB_len hb)
  have HC := hide hc
  have HA : Hid (Below w.heap.size w (w.alloc (.cells #[] 3))) := hide (Joins.below_alloc1 _ _)
  clear hb hc
  go_enter Tryz.func86, Tryz.ntmps86
  go_wp2
  go_loopw [3, 4] (fun o i wr => ∃ (q : Nat) (qo : Option Addr) (qa : Nat), q ≤ 4 ∧ i = .int .i64 (6 * (q : Int)) ∧ o = .slice qo q qa ∧ Hid (OwnR wr w.heap.size 3 1 (.slice qo q qa) q (intV ((ctNs xs).take q))) ∧ Hid (Below w.heap.size w wr)) (fun _ i _ => 24 - (intOf i).toNat)
  case atStart => exact ⟨0, _, _, Nat.zero_le _, rfl, rfl, hide (.inl ⟨rfl, rfl, _, rfl⟩), HA⟩
  case round =>
    obtain ⟨q, qo, qa, hq, rfl, rfl, HO, HB⟩ := hrel
    by_cases hlt : q < 4
    · have hlt' : 6 * (q : Int) < 24 := by omega
      go_wp2
      go_loopw [5, 6] (fun n j wq => ∃ m : Nat, m ≤ 6 ∧ j = .int .i64 (5 - (m : Int)) ∧ n = .int .i64 (hx6 xs (6 * q) m) ∧ Hid (OwnR wq w.heap.size 3 1 (.slice qo q qa) q (intV ((ctNs xs).take q))) ∧ Hid (Below w.heap.size w wq)) (fun _ j _ => (intOf j + 1).toNat)
      case atStart => exact ⟨0, by omega, rfl, rfl, HO, HB⟩
      case round =>
        clear HO HB
        obtain ⟨m, hm, rfl, rfl, HO, HB⟩ := hrel
        by_cases hm5 : m ≤ 5
        · obtain ⟨hh0, hh1⟩ := hx_le (unhide HCB) (6 * q) m hm5
          have hk : 6 * q + (5 - m) < xs.length := by rw [unhide HL]; omega
          have hji : 6 * (q : Int) + (5 - (m : Int)) = ((6 * q + (5 - m) : Nat) : Int) := by omega
          have HS : Hid (hx6 xs (6 * q) (m + 1) = 16 * hx6 xs (6 * q) m + xs[6 * q + (5 - m)]) := hide (by rw [hx6]; simp [List.getD, hk])
          obtain ⟨g0, g1⟩ := ctB_at (unhide HCB) _ hk
          obtain ⟨b, off, rfl, hcl⟩ := (unhide HC).below (unhide HB) _ hk
          have hjl : ((6 * q + (5 - m) : Nat) : Int) < (xs.length : Int) := by omega
          generalize 6 * q + (5 - m) = J at *
          generalize hx6 xs (6 * q) m = V at *
          go_wp2
          go_roundw
          case rel => exact ⟨m + 1, by omega, by go_num, by rw [unhide HS], HO, HB⟩
          case measure => simp [intOf]; omega
        · have HE : Hid (hx6 xs (6 * q) m = (ctNs xs)[q]'(show q < 4 from hlt)) := hide (by rw [show m = 6 by omega, hx_lo]; exact (ctNs_get xs q hlt).symm)
          have HOA := hide ((unhide HO).below (Joins.below_alloc1 _ (.cells #[.int .i64 (hx6 xs (6 * q) m)] 3)))
          have HBA := hide (fr (unhide HB) (Joins.below_alloc1 _ (.cells #[.int .i64 (hx6 xs (6 * q) m)] 3)))
          have HSZ := hide (unhide HB).size
          go_wp2_with (at_builtin; refine wpList_append_one rfl _ _ 23 rfl w.heap.size 3 j0 (.int .i64 0) 1 8 Tryz.underlying23 hj hy0 hy1 hy2 rfl (by omega) qo q qa (intV ((ctNs xs).take q)) rfl (unhide HOA) (by have := unhide HSZ; simp; omega) ⟨wr.heap.size, 0, none⟩ _ [.int .i64 (hx6 xs (6 * q) m)] rfl rfl (byte_news wr _ _) (int_one _) (by unfold maxLen; omega) (by omega) ?_; intro g2 cap2 wA hoA hkA; have HSF := hide (And.intro hoA (keep_below (unhide HBA) (unhide HOA) (Nat.le_refl _) hkA)); clear hoA hkA)
          go_roundw
          case rel => exact ⟨q + 1, _, _, by omega, by go_num, rfl, hide (.inr ⟨by omega, by rw [take_snoc (show q < 4 from hlt) (unhide HE), intV_snoc]; exact (unhide HSF).1⟩), hide (unhide HSF).2⟩
          case measure => simp [intOf]; omega
    · have hq4 : q = 4 := by omega
      subst hq4
      have HT : Hid ((ctNs xs).take 4 = ctNs xs) := hide rfl
      have HON : Hid (Is wr qo (ctNs xs)) := hide (by have := unhide HO; rw [unhide HT] at this; exact ownRN (xs := ctNs xs) this)
      have HIN : Hid (∀ j (h : j < (ctNs xs).length), 0 ≤ (ctNs xs)[j] ∧ (ctNs xs)[j] ≤ 2147483647) := hide (fun j h => by have := ctNs_in (unhide HCB) j h; omega)
      go_wp2_with fail
      refine (l02Seal_any 2 qo qa (ctNs xs) _ (by omega) (show 4 ≤ 16 by omega) (unhide HIN) (unhide HON)).mono ?_
      rintro e w1 ⟨rfl, hb⟩
      have HBE := hide (fr (unhide HB) hb)
      clear hb
      go_wp2
      go_ret
      exact ⟨rfl, unhide HBE⟩

end Go.Proofs.YtbmkdbccdnbbjaaGreatDoor

namespace Go.Proofs.YtbmkdbccdnbbjaaGreatDoor
open Go.RowKit
set_option linter.unusedVariables false

structure UpS (w W : World) (qo : Option Addr) (n qa : Nat) (us : List Up) : Prop where
  o : OwnR W w.heap.size 43 2 (.slice qo n qa) n (upsV us)
  k : Below w.heap.size w W
theorem UpS.next {w W W' : World} {qo : Option Addr} {n qa : Nat} {us : List Up} (h : UpS w W qo n qa us) (hb : Below W.heap.size W W') : UpS w W' qo n qa us := ⟨h.o.below hb, fr h.k hb⟩
def upV (x : Up) : List Value := [.int .i64 x.at_, .string x.data]
theorem upV_one (x : Up) : ∀ u ∈ upV x, u.oneCell' = true := by
  intro u hu
  simp [upV] at hu
  rcases hu with rfl | rfl <;> rfl
theorem UpS.one {w W W' : World} {qo : Option Addr} {n qa g cap : Nat} {us : List Up} {x : Up} (h : UpS w W qo n qa us)
    (ho : W'.ownsRow w.heap.size 43 2 (.slice (some ⟨g, 0, none⟩) (n + 1) cap) (n + 1) (upsV us ++ upV x)) (hk : Keep (Own (.slice qo n qa)) W W') : UpS w W' (some ⟨g, 0, none⟩) (n + 1) cap (us ++ [x]) := by
  refine ⟨.inr ⟨by omega, ?_⟩, belowKp h.k hk (fun j hj => (h.o.ge j hj).1)⟩
  rw [upsV_append]; exact ho
theorem UpS.sz {w W : World} {qo : Option Addr} {n qa : Nat} {us : List Up} (h : UpS w W qo n qa us) : w.heap.size ≤ W.heap.size := h.k.size
theorem UpS.len {w W : World} {qo : Option Addr} {n qa : Nat} {us : List Up} (h : UpS w W qo n qa us) : n = us.length := by
  have := h.o.len; rw [upsV_length] at this; omega
theorem news2_at (w : World) (n : Nat) (x : Up) (t : TypeId) (hn : w.heap.size = n) : ∀ j u, (upV x)[j]? = some u → (w.alloc (.cells #[.int .i64 x.at_, .string x.data] t)).cell? ((⟨n, 0, none⟩ : Addr).add j) = some u := by
  subst hn
  exact World.news_of_block (cs := #[.int .i64 x.at_, .string x.data]) (heap_alloc_new w _)
end Go.Proofs.YtbmkdbccdnbbjaaGreatDoor

namespace Go.Proofs.YtbmkdbccdnbbjaaGreatDoor
open Go.RowKit
set_option linter.unusedVariables false
set_option maxRecDepth 100000

def nmK (t : ByteArray) (k : Nat) : Int := (t.data.toList.take k).foldl ch1 0
theorem nmK_succ {t : ByteArray} {k : Nat} (hk : k < t.size) : nmK t (k + 1) = ch1 (nmK t k) t.data.toList[k] := by
  unfold nmK
  rw [List.take_succ_eq_append_getElem (by simpa using hk), List.foldl_append]; rfl
theorem nmK_all (t : ByteArray) : nmK t t.size = nmN t := by
  unfold nmK nmN
  rw [List.take_of_length_le (by simp)]
theorem ch1_le {n : Int} {b : UInt8} (h0 : 0 ≤ n) : 0 ≤ ch1 n b ∧ ch1 n b ≤ 27 * n + 256 := by
  unfold ch1
  have h1 := Int.emod_nonneg ((b.toNat : Int) - 97) (show (256 : Int) ≠ 0 by decide)
  have h2 := Int.emod_lt_of_pos ((b.toNat : Int) - 97) (show (0 : Int) < 256 by decide)
  omega
theorem tl_lt {t : ByteArray} {k : Nat} (h : k + 1 ≤ t.size) : k < t.data.toList.length := by
  have : t.data.toList.length = t.size := by simp
  omega
def bd27 : Nat → Int
  | 0 => 0
  | k + 1 => 27 * bd27 k + 256
theorem nmK_le (t : ByteArray) : ∀ k, k ≤ t.size → 0 ≤ nmK t k ∧ nmK t k ≤ bd27 k
  | 0, _ => by simp [nmK, bd27]
  | k + 1, h => by
    have h1 := nmK_le t k (by omega)
    rw [nmK_succ (by omega)]
    have h2 := ch1_le (n := nmK t k) (b := t.data.toList[k]'(tl_lt h)) h1.1
    refine ⟨h2.1, Int.le_trans h2.2 ?_⟩
    rw [bd27]
    omega

theorem bd27_le : ∀ k, k ≤ 8 → 0 ≤ bd27 k ∧ bd27 k ≤ 10000000000000 := by
  intro k hk
  rcases (show k = 0 ∨ k = 1 ∨ k = 2 ∨ k = 3 ∨ k = 4 ∨ k = 5 ∨ k = 6 ∨ k = 7 ∨ k = 8 by omega) with rfl | rfl | rfl | rfl | rfl | rfl | rfl | rfl | rfl <;> decide

set_option maxHeartbeats 800000 in
theorem l11Name_any (t : ByteArray) (w : World) (hz : t.size ≤ 8) :
    Calls Tryz.prog 148 #[.string t] w fun e w' => e = .returned (.int .i64 (nmN t)) ∧ w' = w := by
  go_enter Tryz.func148, Tryz.ntmps148
  go_wp2
  go_loop [3, 4] (fun n i => ∃ k : Nat, k ≤ t.size ∧ i = .int .i64 k ∧ n = .int .i64 (nmK t k)) (fun _ i => t.size - (intOf i).toNat)
  case atStart => exact ⟨0, Nat.zero_le _, rfl, rfl⟩
  case round =>
    obtain ⟨k, hk, rfl, rfl⟩ := hrel
    by_cases hlt : k < t.size
    · have hlti : (k : Int) < (t.size : Int) := by omega
      have HS : Hid (nmK t (k + 1) = 27 * nmK t k + ((t[k].toNat : Int) - 97) % 256 + 1) := hide (by
        rw [nmK_succ hlt]
        have e : t.data.toList[k]'(by simpa using hlt) = t[k] := by have := snm_get hlt; rw [List.getElem?_eq_getElem (by simpa using hlt)] at this; exact Option.some.inj this
        rw [e]; rfl)
      obtain ⟨b0, b1⟩ := nmK_le t k hk
      obtain ⟨d0, d1⟩ := bd27_le k (by omega)
      have h1 := Int.emod_nonneg ((t[k].toNat : Int) - 97) (show (256 : Int) ≠ 0 by decide)
      have h2 := Int.emod_lt_of_pos ((t[k].toNat : Int) - 97) (show (0 : Int) < 256 by decide)
      have hu : IntKind.u8.wrap ((t[k].toNat : Int) - 97) = ((t[k].toNat : Int) - 97) % 256 := by simp [IntKind.wrap, IntKind.bits, IntKind.signed]
      generalize nmK t k = X at *
      generalize ((t[k].toNat : Int) - 97) % 256 = D at *
      have w1 : IntKind.i64.wrap (27 * X) = 27 * X := by rw [IntKind.wrap_i64]; omega
      have w2 : IntKind.i64.wrap D = D := by rw [IntKind.wrap_i64]; omega
      have w3 : IntKind.i64.wrap (27 * X + D) = 27 * X + D := by rw [IntKind.wrap_i64]; omega
      have w4 : IntKind.i64.wrap (27 * X + D + 1) = 27 * X + D + 1 := by rw [IntKind.wrap_i64]; omega
      go_wp2
      go_round
      case rel => exact ⟨k + 1, by omega, by go_num, by rw [unhide HS]⟩
      case measure => simp [intOf]; omega
    · obtain rfl : k = t.size := by omega
      have HF := hide (nmK_all t)
      go_wp2
      go_ret
      exact ⟨ret_int (unhide HF), rfl⟩

end Go.Proofs.YtbmkdbccdnbbjaaGreatDoor

namespace Go.Proofs.YtbmkdbccdnbbjaaGreatDoor
open Go.RowKit
set_option linter.unusedVariables false
set_option maxRecDepth 100000

theorem infoUs : (Tryz.prog.info? 43).map (fun i => (i.zero, i.size, i.bytes)) = some (some (.agg #[.int .i64 0, .string ⟨#[]⟩]), 2, 24) := by kernel_rfl
theorem supL_take {m : Img} {k : Nat} (hk : k < m.snaps.length) : (supL m).take (k + 1 + 1) = (supL m).take (k + 1) ++ [nmN m.snaps[k].name] := by
  have hl : k + 1 < (supL m).length := by simp [supL]; exact hk
  rw [List.take_succ_eq_append_getElem hl]
  simp [supL]

set_option maxHeartbeats 1600000 in
theorem l11Super_any (a : Im4) (m : Img) (w : World) (hR : ImR m) (hc : ImS w a m) :
    Calls Tryz.prog 85 #[imV a m] w fun e w' => e = .returned (.string (sealS 1 (supL m))) ∧ Below w.heap.size w w' := by
  have HA := hide (Joins.below_alloc1 w (.cells #[.slice a.ro m.refs.length a.rc, .slice a.tq m.table.length a.tc, .slice a.so m.snaps.length a.sc, .slice a.dq m.data.length a.dc] 26))
  have HV := hide (VarM.new w 26 (.slice a.ro m.refs.length a.rc) (.slice a.tq m.table.length a.tc) (.slice a.so m.snaps.length a.sc) (.slice a.dq m.data.length a.dc))
  have HC := hide (hc.s.below (unhide HA))
  have HNS : Hid (∀ k (h : k < m.snaps.length), m.snaps[k].name.size ≤ 6) := hide (fun k h => (snm_parts (hR.snaps _ (List.getElem_mem h)).1).2.2)
  have HSU : Hid (∀ j (h : j < (supL m).length), 0 ≤ (supL m)[j] ∧ (supL m)[j] ≤ 2147483647) := hide (fun j h => by
    have := List.all_eq_true.1 (allB_snm hR) _ (List.getElem_mem h)
    simpa [numB, inB] using this)
  have hs3 := hR.few
  have HSL : Hid ((supL m).length = m.snaps.length + 1) := hide (by simp [supL])
  clear hc hR
  obtain ⟨j0, hj, hy0, hy1, hy2⟩ := info_parts infoM
  go_enter Tryz.func85, Tryz.ntmps85
  go_upto_region 1 with fail
  revert HA HV HC
  generalize (w.alloc _) = W0
  intro HA HV HC
  obtain ⟨c0, c1, c2, c3⟩ := (unhide HV).cells
  have H0 : Hid (OwnR (W0.alloc (.cells #[.int .i64 (m.snaps.length : Int)] 3)) W0.heap.size 3 1 (.slice (some ⟨W0.heap.size, 0, none⟩) 1 1) 1 (intV ((supL m).take 1)) ∧ Below W0.heap.size W0 (W0.alloc (.cells #[.int .i64 (m.snaps.length : Int)] 3))) := hide
    ⟨.inr ⟨by omega, by have := World.ownsRow_lit (base := W0.heap.size) (e := 3) (size := 1) W0 #[.int .i64 (m.snaps.length : Int)] 1 (Nat.le_refl _) (by unfold maxLen; omega) rfl; simpa [supL, intV] using this⟩, Joins.below_alloc1 _ _⟩
  go_wp2
  clear c0 c1 c2 c3
  go_loopw [3, 4] (fun o i wr => ∃ (k : Nat) (qo : Option Addr) (qa : Nat), k ≤ m.snaps.length ∧ i = .int .i64 k ∧ o = .slice qo (k + 1) qa ∧ Hid (OwnR wr W0.heap.size 3 1 (.slice qo (k + 1) qa) (k + 1) (intV ((supL m).take (k + 1))) ∧ Below W0.heap.size W0 wr)) (fun _ i _ => m.snaps.length - (intOf i).toNat)
  case atStart => exact ⟨0, _, _, Nat.zero_le _, rfl, rfl, H0⟩
  case round =>
    clear H0
    obtain ⟨k, qo, qa, hk, rfl, rfl, HO⟩ := hrel
    obtain ⟨c0, c1, c2, c3⟩ := ((unhide HV).below (unhide HO).2).cells
    by_cases hlt : k < m.snaps.length
    · obtain ⟨b, off, tq, tc, eb, hn0, _, _, _, _⟩ := ((unhide HC).below (unhide HO).2) k hlt
      rw [eb] at c2
      clear eb
      have hlti : (k : Int) < (m.snaps.length : Int) := by omega
      have HST : Hid (intV ((supL m).take (k + 1 + 1)) = intV ((supL m).take (k + 1)) ++ [.int .i64 (nmN m.snaps[k].name)]) := hide (by rw [supL_take hlt]; simp [intV])
      go_wp2_with fail
      refine (l11Name_any m.snaps[k].name _ (by have := unhide HNS k hlt; omega)).mono ?_
      rintro e w' ⟨rfl, hw⟩
      replace hw := hw.symm
      subst hw
      generalize nmN m.snaps[k].name = NN at *
      have HOA := hide ((unhide HO).1.below (Joins.below_alloc1 _ (.cells #[.int .i64 NN] 3)))
      have HBA := hide (fr (unhide HO).2 (Joins.below_alloc1 _ (.cells #[.int .i64 NN] 3)))
      have HSZ := hide (unhide HO).2.size
      go_wp2_with (at_builtin; refine wpList_append_one rfl _ _ 23 rfl W0.heap.size 3 j0 (.int .i64 0) 1 8 Tryz.underlying23 hj hy0 hy1 hy2 rfl (by omega) qo (k + 1) qa (intV ((supL m).take (k + 1))) rfl (unhide HOA) (by have := unhide HSZ; simp; omega) ⟨wr.heap.size, 0, none⟩ _ [.int .i64 NN] rfl rfl (byte_news wr _ _) (int_one _) (by unfold maxLen; omega) (by omega) ?_; intro g2 cap2 wA hoA hkA; have HSF := hide (And.intro hoA (keep_below (unhide HBA) (unhide HOA) (Nat.le_refl _) hkA)); clear hoA hkA)
      go_roundw
      case rel => exact ⟨k + 1, some ⟨g2, 0, none⟩, cap2, by omega, by go_num, rfl, hide ⟨.inr ⟨by omega, by rw [unhide HST]; exact (unhide HSF).1⟩, (unhide HSF).2⟩⟩
      case measure => simp [intOf]; omega
    · obtain rfl : k = m.snaps.length := by omega
      have HIS : Hid (Is wr qo (supL m)) := hide (by
        have h := (unhide HO).1
        rw [List.take_of_length_le (by rw [unhide HSL]; exact Nat.le_refl _), ← unhide HSL] at h
        exact ownRN h)
      have HCALL : Hid (Calls Tryz.prog 88 #[.int .i64 1, .slice qo (m.snaps.length + 1) qa] wr fun e w' => e = .returned (.string (sealS 1 (supL m))) ∧ Below wr.heap.size wr w') := hide (by
        rw [← unhide HSL]
        exact l02Seal_any 1 qo qa (supL m) wr (by omega) (by rw [unhide HSL]; omega) (unhide HSU) (unhide HIS))
      go_wp2_with fail
      refine (unhide HCALL).mono ?_
      rintro e w2 ⟨rfl, hb⟩
      have HB2 := hide (fr (unhide HA) (fr (unhide HO).2 hb))
      clear hb c0 c1 c2 c3
      go_wp2
      go_ret
      exact ⟨rfl, unhide HB2⟩

theorem tab_snoc {m : Img} {k : Nat} (hk : k < m.snaps.length) : tabU 0 (m.snaps.take (k + 1)) = tabU 0 (m.snaps.take k) ++ [⟨12 + (k : Int), encTb m.snaps[k].table⟩] := by
  rw [List.take_succ_eq_append_getElem hk, tabU_snoc, List.length_take, Nat.zero_add, Nat.min_eq_left (by omega)]
set_option maxHeartbeats 6400000 in
theorem l11All_any (a : Im4) (m : Img) (w : World) (hR : ImR m) (hc : ImS w a m) :
    Calls Tryz.prog 30 #[imV a m] w fun e w' => ∃ qo qa, e = .returned (.slice qo (allU m).length qa) ∧ UpS w w' qo (allU m).length qa (allU m) := by
  have HA := hide (Joins.below_alloc1 w (.cells #[.slice a.ro m.refs.length a.rc, .slice a.tq m.table.length a.tc, .slice a.so m.snaps.length a.sc, .slice a.dq m.data.length a.dc] 26))
  have HV := hide (VarM.new w 26 (.slice a.ro m.refs.length a.rc) (.slice a.tq m.table.length a.tc) (.slice a.so m.snaps.length a.sc) (.slice a.dq m.data.length a.dc))
  have HC := hide (hc.below (unhide HA))
  have HR := hide hR
  have hs3 := hR.few
  have HRL := hide hR.rl
  have HDL := hide hR.len
  clear hc hR
  obtain ⟨j0, hj, hy0, hy1, hy2⟩ := info_parts infoUs
  go_enter Tryz.func30, Tryz.ntmps30
  go_upto_region 1 with fail
  revert HA HV HC
  generalize (w.alloc _) = W0
  intro HA HV HC
  have HBD : Hid (Below W0.heap.size W0 W0.drew) := hide (Below.refl _ _).drew
  have hS0 : VarM W0.drew w.heap.size 26 (.slice a.ro m.refs.length a.rc) (.slice a.tq m.table.length a.tc) (.slice a.so m.snaps.length a.sc) (.slice a.dq m.data.length a.dc) := (unhide HV).below (unhide HBD)
  refine wp_region_ord (fun w' => VarM w' w.heap.size 26 (.slice a.ro m.refs.length a.rc) (.slice a.tq m.table.length a.tc) (.slice a.so m.snaps.length a.sc) (.slice a.dq m.data.length a.dc)) [0, 1, 2, 3, 4, 5, 6, 7, 8, 9, 10, 11, 12] [(0, 0), (3, 0), (4, 0), (7, 0), (8, 0), (1, 2), (2, 0), (5, 2), (6, 0), (9, 2), (10, 0), (11, 2), (12, 0)] (by kernel_rfl) (by kernel_rfl) rfl (by kernel_rfl) ?_
  refine ord_read (.agg #[.slice a.ro m.refs.length a.rc, .slice a.tq m.table.length a.tc, .slice a.so m.snaps.length a.sc, .slice a.dq m.data.length a.dc]) rfl rfl hS0 (fun W hW => by obtain ⟨k0, k1, k2, k3⟩ := hW.cells; go_simp) ?_
  refine ord_read (.pointer (some ⟨w.heap.size, 0, none⟩)) rfl rfl hS0 (fun W hW => by go_simp) ?_
  refine ord_read (.slice a.ro m.refs.length a.rc) rfl rfl hS0 (fun W hW => by obtain ⟨k0, k1, k2, k3⟩ := hW.cells; go_simp) ?_
  refine ord_read (.pointer (some ⟨w.heap.size, 1, none⟩)) rfl rfl hS0 (fun W hW => by go_simp) ?_
  refine ord_read (.slice a.tq m.table.length a.tc) rfl rfl hS0 (fun W hW => by obtain ⟨k0, k1, k2, k3⟩ := hW.cells; go_simp) ?_
  clear hS0
  refine ord_held rfl rfl ?_
  intro K hK
  unfold Oper.wp
  go_simp
  refine (l11Super_any a m _ (unhide HR) ((unhide HC).below (unhide HBD))).mono ?_
  rintro e w1 ⟨rfl, hb⟩
  have HB1 := hide (fr (unhide HBD) hb)
  clear hb
  refine hK _ _ ((unhide HV).below (unhide HB1)) ?_
  clear hK K
  refine ord_read (.agg #[.int .i64 9, .string (sealS 1 (supL m))]) rfl rfl ((unhide HV).below (unhide HB1)) (fun W hW => by go_simp) ?_
  refine ord_held rfl rfl ?_
  intro K hK
  unfold Oper.wp
  go_simp
  refine (l08Encode_any a.ro a.rc m.refs _ (unhide HR).refs ((unhide HC).r.below (unhide HB1))).mono ?_
  rintro e w2 ⟨rfl, hb⟩
  have HB2 := hide (fr (unhide HB1) hb)
  clear hb
  refine hK _ _ ((unhide HV).below (unhide HB2)) ?_
  clear hK K
  refine ord_read (.agg #[.int .i64 10, .string (encT m.refs)]) rfl rfl ((unhide HV).below (unhide HB2)) (fun W hW => by go_simp) ?_
  refine ord_held rfl rfl ?_
  intro K hK
  unfold Oper.wp
  go_simp
  refine (l09Encode_any a.tq a.tc m.table _ (unhide HR).table ((unhide HC).t.below (unhide HB2))).mono ?_
  rintro e w3 ⟨rfl, hb⟩
  have HB3 := hide (fr (unhide HB2) hb)
  clear hb
  refine hK _ _ ((unhide HV).below (unhide HB3)) ?_
  clear hK K
  refine ord_read (.agg #[.int .i64 11, .string (encTb m.table)]) rfl rfl ((unhide HV).below (unhide HB3)) (fun W hW => by go_simp) ?_
  have HB4 := hide (fr (unhide HB3) (Joins.below_alloc1 w3 (.cells #[.int .i64 9, .string (sealS 1 (supL m)), .int .i64 10, .string (encT m.refs), .int .i64 11, .string (encTb m.table)] 43)))
  have HU4 : Hid (UpS W0 (w3.alloc (.cells #[.int .i64 9, .string (sealS 1 (supL m)), .int .i64 10, .string (encT m.refs), .int .i64 11, .string (encTb m.table)] 43)) (some ⟨w3.heap.size, 0, none⟩) 3 3 (headU m)) := hide
    ⟨.inr ⟨by omega, World.ownsRow_lit (base := W0.heap.size) (e := 43) (size := 2) w3 #[.int .i64 9, .string (sealS 1 (supL m)), .int .i64 10, .string (encT m.refs), .int .i64 11, .string (encTb m.table)] 3 (unhide HB3).size (by unfold maxLen; omega) rfl⟩, unhide HB4⟩
  have HV4 := hide ((unhide HV).below (unhide HB4))
  refine ord_held rfl rfl ?_
  intro K hK
  unfold Oper.wp
  go_simp
  refine hK _ _ (unhide HV4) ?_
  clear hK K
  refine ord_read (.slice (some ⟨w3.heap.size, 0, none⟩) 3 3) rfl rfl (unhide HV4) (fun W hW => by go_simp) ?_
  refine ord_done ?_
  clear HB4 HV4
  revert HU4
  generalize w3.heap.size = g3
  generalize (w3.alloc _) = W4
  intro HU4
  clear HB1 HB2 HB3 HBD
  have HTS : Hid (∀ k (h : k < m.snaps.length), tbB m.snaps[k].table = true) := hide (fun k h => ((unhide HR).snaps _ (List.getElem_mem h)).2)
  go_wp2
  go_loopw [3, 4] (fun o i wr => ∃ (k : Nat) (qo : Option Addr) (qa : Nat), k ≤ m.snaps.length ∧ i = .int .i64 k ∧ o = .slice qo (3 + k) qa ∧ Hid (UpS W0 wr qo (3 + k) qa (headU m ++ tabU 0 (m.snaps.take k)))) (fun _ i _ => m.snaps.length - (intOf i).toNat)
  case atStart => exact ⟨0, _, _, Nat.zero_le _, rfl, rfl, by simpa [tabU] using HU4⟩
  case round =>
    clear HU4
    obtain ⟨k, qo, qa, hk, rfl, rfl, HU⟩ := hrel
    obtain ⟨c0, c1, c2, c3⟩ := ((unhide HV).below (unhide HU).k).cells
    by_cases hlt : k < m.snaps.length
    · obtain ⟨b, off, tq, tc, eb, _, ht0, hIs, _, _⟩ := ((unhide HC).s.below (unhide HU).k) k hlt
      rw [eb] at c2
      have HIS := hide hIs
      clear eb hIs
      have hlti : (k : Int) < (m.snaps.length : Int) := by omega
      have hw12 : IntKind.i64.wrap (12 + (k : Int)) = 12 + (k : Int) := by rw [IntKind.wrap_i64]; omega
      have HSN : Hid (headU m ++ tabU 0 (m.snaps.take (k + 1)) = headU m ++ tabU 0 (m.snaps.take k) ++ [⟨12 + (k : Int), encTb m.snaps[k].table⟩]) := hide (by rw [tab_snoc hlt, List.append_assoc])
      go_wp2_with fail
      refine (l09Encode_any tq tc m.snaps[k].table _ (unhide HTS k hlt) (unhide HIS)).mono ?_
      rintro e w5 ⟨rfl, hb⟩
      have HU5 := hide ((unhide HU).next hb)
      clear hb c0 c1 c2 c3 ht0 HIS
      generalize encTb m.snaps[k].table = TX at *
      have HUA := hide ((unhide HU5).next (Joins.below_alloc1 w5 (.cells #[.int .i64 (12 + (k : Int)), .string TX] 43)))
      have HSZ := hide (unhide HUA).sz
      go_wp2_with (at_builtin; refine wpList_append_one rfl _ _ 28 rfl W0.heap.size 43 j0 (.agg #[.int .i64 0, .string ⟨#[]⟩]) 2 24 Tryz.underlying28 hj hy0 hy1 hy2 rfl (by omega) qo (3 + k) qa (upsV (headU m ++ tabU 0 (m.snaps.take k))) rfl (unhide HUA).o (unhide HSZ) ⟨w5.heap.size, 0, none⟩ _ (upV ⟨12 + (k : Int), TX⟩) rfl rfl (news2_at w5 _ ⟨12 + (k : Int), TX⟩ _ rfl) (upV_one _) (by unfold maxLen; omega) (by omega) ?_; intro g2 cap2 wA hoA hkA; have HU6 := hide (UpS.one (unhide HUA) hoA hkA); clear hoA hkA)
      go_roundw
      case rel => exact ⟨k + 1, some ⟨g2, 0, none⟩, cap2, by omega, by go_num, rfl, by rw [unhide HSN]; exact HU6⟩
      case measure => simp [intOf]; omega
    · obtain rfl : k = m.snaps.length := by omega
      rw [List.take_length] at HU
      have HNN : Hid (3 + m.snaps.length = (headU m ++ tabU 0 m.snaps ++ dataU m 0).length ∧ headU m ++ tabU 0 m.snaps = headU m ++ tabU 0 m.snaps ++ dataU m 0) := hide (by
        have e : dataU m 0 = [] := rfl
        rw [e, List.append_nil, List.length_append, tabU_len]; exact ⟨rfl, rfl⟩)
      obtain ⟨N0, hN0⟩ : ∃ N0, N0 = 3 + m.snaps.length := ⟨_, rfl⟩
      have hN6 : N0 ≤ 6 := by omega
      rw [← hN0] at HU HNN ⊢
      rw [(unhide HNN).2] at HU
      clear hN0 hlt
      go_wp2
      clear c0 c1 c2 c3
      go_loopw [3, 5] (fun o i wr => ∃ (k N : Nat) (qo : Option Addr) (qa : Nat), k ≤ 24 ∧ N ≤ 6 + k ∧ i = .int .i64 k ∧ o = .slice qo N qa ∧ Hid (UpS W0 wr qo N qa (headU m ++ tabU 0 m.snaps ++ dataU m k))) (fun _ i _ => 24 - (intOf i).toNat)
      case atStart => exact ⟨0, N0, qo, qa, by omega, by omega, rfl, rfl, HU⟩
      case round =>
        clear HU HNN hN6
        obtain ⟨k, N, qo, qa, hk, hN, rfl, rfl, HU⟩ := hrel
        obtain ⟨c0, c1, c2, c3⟩ := ((unhide HV).below (unhide HU).k).cells
        by_cases hlt : k < 24
        · have hlti : (k : Int) < 24 := by omega
          have hkr : k < m.refs.length := by rw [unhide HRL]; exact hlt
          have hkd : k < m.data.length := by rw [unhide HDL]; exact hlt
          have hkri : (k : Int) < (m.refs.length : Int) := by omega
          have hkdi : (k : Int) < (m.data.length : Int) := by omega
          obtain ⟨br, or, er, hcr⟩ := ((unhide HC).r.below (unhide HU).k) k hkr
          rw [er] at c0
          by_cases hp : 0 < m.refs[k]
          · obtain ⟨bd, od, ed, hcd⟩ := ((unhide HC).d.below (unhide HU).k) k hkd
            rw [ed] at c3
            have HDS : Hid (headU m ++ tabU 0 m.snaps ++ dataU m (k + 1) = headU m ++ tabU 0 m.snaps ++ dataU m k ++ [⟨15 + (k : Int), sealS 4 [m.data[k]]⟩]) := hide (by
              rw [dataU_succ, ← List.append_assoc]
              congr 1
              unfold datU
              rw [if_pos (by simpa [List.getD, hkr] using hp)]
              simp [List.getD, hkd])
            have HNB : Hid (∀ j (h : j < [m.data[k]].length), 0 ≤ [m.data[k]][j] ∧ [m.data[k]][j] ≤ 2147483647) := hide (fun j h => by
              have hj : j = 0 := by simpa using h
              subst hj
              have := (unhide HR).nums _ (List.getElem_mem hkd)
              simpa [numB, inB] using this)
            have hw15 : IntKind.i64.wrap (15 + (k : Int)) = 15 + (k : Int) := by rw [IntKind.wrap_i64]; omega
            clear er ed
            generalize m.refs[k] = RV at *
            generalize m.data[k] = DV at *
            have HUB := hide ((unhide HU).next (Joins.below_alloc1 wr (.cells #[.int .i64 DV] 3)))
            go_wp2_with fail
            refine (l02Seal_any 4 (some ⟨wr.heap.size, 0, none⟩) 1 [DV] _ (by omega) (by simp) (unhide HNB) (is1 wr _ _ DV rfl)).mono ?_
            rintro e w5 ⟨rfl, hb⟩
            have HU5 := hide ((unhide HUB).next hb)
            clear hb c0 c1 c2 c3 hcr hcd HUB
            generalize sealS 4 [DV] = TX at *
            have HUA := hide ((unhide HU5).next (Joins.below_alloc1 w5 (.cells #[.int .i64 (15 + (k : Int)), .string TX] 43)))
            have HSZ := hide (unhide HUA).sz
            go_wp2_with (at_builtin; refine wpList_append_one rfl _ _ 28 rfl W0.heap.size 43 j0 (.agg #[.int .i64 0, .string ⟨#[]⟩]) 2 24 Tryz.underlying28 hj hy0 hy1 hy2 rfl (by omega) qo N qa (upsV (headU m ++ tabU 0 m.snaps ++ dataU m k)) rfl (unhide HUA).o (unhide HSZ) ⟨w5.heap.size, 0, none⟩ _ (upV ⟨15 + (k : Int), TX⟩) rfl rfl (news2_at w5 _ ⟨15 + (k : Int), TX⟩ _ rfl) (upV_one _) (by unfold maxLen; omega) (by omega) ?_; intro g2 cap2 wA hoA hkA; have HU6 := hide (UpS.one (unhide HUA) hoA hkA); clear hoA hkA)
            go_roundw
            case rel => exact ⟨k + 1, N + 1, some ⟨g2, 0, none⟩, cap2, by omega, by omega, by go_num, rfl, by rw [unhide HDS]; exact HU6⟩
            case measure => simp [intOf]; omega
          · have HDS : Hid (headU m ++ tabU 0 m.snaps ++ dataU m (k + 1) = headU m ++ tabU 0 m.snaps ++ dataU m k) := hide (by
              rw [dataU_succ]
              unfold datU
              rw [if_neg (by simpa [List.getD, hkr] using hp), List.append_nil])
            clear er
            generalize m.refs[k] = RV at *
            go_wp2
            go_roundw
            case rel => exact ⟨k + 1, N, qo, qa, by omega, by omega, by go_num, rfl, by rw [unhide HDS]; exact HU⟩
            case measure => simp [intOf]; omega
        · obtain rfl : k = 24 := by omega
          have hNl := (unhide HU).len
          have HF : Hid (UpS w wr qo (allU m).length qa (allU m)) := hide (by
            have h := unhide HU
            rw [hNl] at h
            exact ⟨h.o.base (unhide HA).size, fr (unhide HA) h.k⟩)
          have HL2 : Hid (N = (allU m).length) := hide hNl
          clear c0 c1 c2 c3 hNl HU
          go_wp2
          go_ret
          rw [unhide HL2]
          exact ⟨qo, qa, rfl, unhide HF⟩

end Go.Proofs.YtbmkdbccdnbbjaaGreatDoor

namespace Go.Proofs.YtbmkdbccdnbbjaaGreatDoor
open Go.RowKit
set_option linter.unusedVariables false
set_option maxRecDepth 100000

theorem tabU_sz : ∀ (ss : List Snp) (i : Nat), (∀ s ∈ ss, s.table.length ≤ 12) → ∀ u ∈ tabU i ss, u.data.size ≤ 80
  | [], i, _, u, hu => by simp [tabU] at hu
  | s :: ss, i, h, u, hu => by
    simp only [tabU, List.mem_cons] at hu
    rcases hu with rfl | hu
    · have := h s (by simp)
      have e : (encTb s.table).size = 4 + s.table.length * 4 := sealS_size 3 s.table
      simp only
      omega
    · exact tabU_sz ss (i + 1) (fun s hs => h s (by simp [hs])) u hu
theorem allU_sz {m : Img} (h : ImR m) : ∀ u ∈ allU m, u.data.size ≤ 80 := fun u hu => by
  unfold allU at hu
  rw [List.mem_append, List.mem_append] at hu
  rcases hu with (hu | hu) | hu
  · have h1 : (sealS 1 (supL m)).size = 4 + (supL m).length * 4 := sealS_size 1 _
    have h2 : (encT m.refs).size = 20 := sealS_size 2 (ctNs m.refs)
    have h3 : (encTb m.table).size = 4 + m.table.length * 4 := sealS_size 3 m.table
    have h4 : (supL m).length = m.snaps.length + 1 := by simp [supL]
    have h5 := h.few
    have h6 := tbB_len h.table
    simp only [headU, List.mem_cons, List.not_mem_nil, or_false] at hu
    rcases hu with rfl | rfl | rfl <;> simp only <;> omega
  · exact tabU_sz m.snaps 0 (fun s hs => tbB_len (h.snaps s hs).2) u hu
  · unfold dataU at hu
    obtain ⟨c, _, hc⟩ := List.mem_flatMap.1 hu
    unfold datU at hc
    split at hc
    · rw [List.mem_singleton] at hc
      subst hc
      have : (sealS 4 [m.data.getD c 0]).size = 8 := sealS_size 4 _
      simp only
      omega
    · simp at hc
def anyK (X : List Up) (u : Up) (k : Nat) : Bool := (X.take k).any fun v => upEq v u
theorem anyK_succ {X : List Up} {u : Up} {k : Nat} (hk : k < X.length) : anyK X u (k + 1) = (anyK X u k || upEq X[k] u) := by
  unfold anyK
  rw [List.take_succ_eq_append_getElem hk, List.any_append]; simp
theorem anyK_all (X : List Up) (u : Up) : anyK X u X.length = X.any fun v => upEq v u := by rw [anyK, List.take_length]
def difK (X Y : List Up) (k : Nat) : List Up := (Y.take k).filter fun u => !(X.any fun v => upEq v u)
theorem difK_succ {X Y : List Up} {k : Nat} (hk : k < Y.length) : difK X Y (k + 1) = if (X.any fun v => upEq v Y[k]) = true then difK X Y k else difK X Y k ++ [Y[k]] := by
  unfold difK
  rw [List.take_succ_eq_append_getElem hk, List.filter_append]
  cases h : X.any fun v => upEq v Y[k] <;> simp [h]
theorem difK_all (X Y : List Up) : difK X Y Y.length = Y.filter fun u => !(X.any fun v => upEq v u) := by rw [difK, List.take_length]

set_option maxHeartbeats 3200000 in
theorem l11Diff_any (a b : Im4) (ma mb : Img) (w : World) (hA : ImR ma) (hB : ImR mb) (h1 : ImS w a ma) (h2 : ImS w b mb) :
    Calls Tryz.prog 47 #[imV a ma, imV b mb] w fun e w' => ∃ qo qa, e = .returned (.slice qo (difU ma mb).length qa) ∧ UpS w w' qo (difU ma mb).length qa (difU ma mb) := by
  have HA := hide (Joins.below_alloc2 w (.cells #[.slice a.ro ma.refs.length a.rc, .slice a.tq ma.table.length a.tc, .slice a.so ma.snaps.length a.sc, .slice a.dq ma.data.length a.dc] 26) (.cells #[.slice b.ro mb.refs.length b.rc, .slice b.tq mb.table.length b.tc, .slice b.so mb.snaps.length b.sc, .slice b.dq mb.data.length b.dc] 26))
  have HV := hide ((VarM.new w 26 (.slice a.ro ma.refs.length a.rc) (.slice a.tq ma.table.length a.tc) (.slice a.so ma.snaps.length a.sc) (.slice a.dq ma.data.length a.dc)).below (Joins.below_alloc1 _ (.cells #[.slice b.ro mb.refs.length b.rc, .slice b.tq mb.table.length b.tc, .slice b.so mb.snaps.length b.sc, .slice b.dq mb.data.length b.dc] 26)))
  have HU := hide ((VarM.new (w.alloc (.cells #[.slice a.ro ma.refs.length a.rc, .slice a.tq ma.table.length a.tc, .slice a.so ma.snaps.length a.sc, .slice a.dq ma.data.length a.dc] 26)) 26 (.slice b.ro mb.refs.length b.rc) (.slice b.tq mb.table.length b.tc) (.slice b.so mb.snaps.length b.sc) (.slice b.dq mb.data.length b.dc)).at (y := w.heap.size + 1) (by simp))
  have H1 := hide (h1.below (unhide HA))
  have H2 := hide (h2.below (unhide HA))
  have HIA := hide hA
  have HIB := hide hB
  have HXZ : Hid ((∀ u ∈ allU ma, u.data.size ≤ maxLen) ∧ (∀ u ∈ allU mb, u.data.size ≤ maxLen)) := hide ⟨fun u hu => by have := allU_sz hA u hu; unfold maxLen; omega, fun u hu => by have := allU_sz hB u hu; unfold maxLen; omega⟩
  have hlx := allU_len (m := ma) hA.few
  have hly := allU_len (m := mb) hB.few
  obtain ⟨R, hRR⟩ : ∃ R, R = difU ma mb := ⟨_, rfl⟩
  rw [← hRR]
  have HD : Hid (R = difK (allU ma) (allU mb) (allU mb).length) := hide (hRR.trans (difK_all _ _).symm)
  clear hRR
  clear h1 h2 hA hB
  obtain ⟨j0, hj, hy0, hy1, hy2⟩ := info_parts infoUs
  go_enter Tryz.func47, Tryz.ntmps47
  go_upto_region 1 with fail
  revert HA HV HU H1 H2
  generalize ((w.alloc _).alloc _) = W0
  intro HA HV HU H1 H2
  obtain ⟨c0, c1, c2, c3⟩ := (unhide HV).cells
  go_wp2_with fail
  refine (l11All_any a ma _ (unhide HIA) (unhide H1)).mono ?_
  rintro e w1 ⟨xo, xa, rfl, hu⟩
  have HX := hide (ownUps hu.o (unhide HXZ).1)
  have HB1 := hide hu.k
  clear hu c0 c1 c2 c3
  obtain ⟨c0, c1, c2, c3⟩ := ((unhide HU).below (unhide HB1)).cells
  go_wp2_with fail
  refine (l11All_any b mb _ (unhide HIB) ((unhide H2).below (unhide HB1))).mono ?_
  rintro e w2 ⟨yo, ya, rfl, hu⟩
  have HY := hide (ownUps hu.o (unhide HXZ).2)
  have HX2 := hide ((unhide HX).below hu.k)
  have HB2 := hide (fr (unhide HA) (fr (unhide HB1) hu.k))
  clear hu c0 c1 c2 c3 HX HB1 HV HU H1 H2 HA
  generalize allU ma = X at *
  generalize allU mb = Y at *
  have H0 : Hid (UpS w2 (w2.alloc (.cells #[] 43)) (some ⟨w2.heap.size, 0, none⟩) 0 0 (difK X Y 0)) := hide ⟨.inl ⟨rfl, rfl, _, rfl⟩, Joins.below_alloc1 _ _⟩
  go_wp2
  go_loopw [7, 8] (fun o i wr => ∃ (k N : Nat) (qo : Option Addr) (qa : Nat), k ≤ Y.length ∧ N ≤ k ∧ i = .int .i64 k ∧ o = .slice qo N qa ∧ Hid (UpS w2 wr qo N qa (difK X Y k))) (fun _ i _ => Y.length - (intOf i).toNat)
  case atStart => exact ⟨0, 0, _, _, Nat.zero_le _, Nat.le_refl _, rfl, rfl, H0⟩
  case round =>
    clear H0
    obtain ⟨k, N, qo, qa, hk, hN, rfl, rfl, HU⟩ := hrel
    by_cases hlt : k < Y.length
    · have hlti : (k : Int) < (Y.length : Int) := by omega
      obtain ⟨by_, oy, ey, hya, hyd, _⟩ := ((unhide HY).below (unhide HU).k) k hlt
      have HSU := hide (difK_succ (X := X) hlt)
      have HYW : Hid (wr.cell? ⟨by_, oy + k * 2, none⟩ = some (.int .i64 Y[k].at_) ∧ wr.cell? ⟨by_, oy + k * 2 + 1, none⟩ = some (.string Y[k].data)) := hide ⟨hya, hyd⟩
      have HXW : Hid (Ups wr xo X) := hide ((unhide HX2).below (unhide HU).k)
      clear hya hyd
      subst ey
      generalize hYk : Y[k] = u at *
      clear hYk
      go_wp2
      go_loopw [9, 10] (fun s j wq => ∃ (kk n : Nat), kk ≤ X.length ∧ j = .int .i64 kk ∧ s = .bool (anyK X u kk) ∧ wq = wr.drewN n) (fun _ j _ => X.length - (intOf j).toNat)
      case atStart => exact ⟨0, 0, Nat.zero_le _, rfl, rfl, rfl⟩
      case round =>
        obtain ⟨kk, n, hkk, rfl, rfl, rfl⟩ := hrel
        by_cases hl2 : kk < X.length
        · have hl2i : (kk : Int) < (X.length : Int) := by omega
          obtain ⟨bx, ox, ex, hxa, hxd, _⟩ := (unhide HXW) kk hl2
          obtain ⟨hya, hyd⟩ := unhide HYW
          have HSS := hide (anyK_succ (u := u) hl2)
          subst ex
          cases hs : anyK X u kk
          · by_cases ha : X[kk].at_ = u.at_
            · by_cases hd : X[kk].data = u.data
              · have HT : Hid (anyK X u (kk + 1) = true) := hide (by rw [unhide HSS, hs]; simp [upEq, ha, hd])
                rw [ha] at hxa
                rw [hd] at hxd
                clear ha hd hs
                go_wp2
                go_quiet (fail)
                go_wp2
                go_roundw
                case rel => exact ⟨kk + 1, _, by omega, by go_num, by rw [unhide HT], rfl⟩
                case measure => simp [intOf]; omega
              · have HT : Hid (anyK X u (kk + 1) = false) := hide (by rw [unhide HSS, hs]; simp [upEq, hd])
                have bd : (X[kk].data.toList == u.data.toList) = false := str_beq_false hd
                rw [ha] at hxa
                clear ha hd hs
                go_wp2
                go_quiet (fail)
                go_wp2
                go_roundw
                case rel => exact ⟨kk + 1, _, by omega, by go_num, by rw [unhide HT], rfl⟩
                case measure => simp [intOf]; omega
            · have HT : Hid (anyK X u (kk + 1) = false) := hide (by rw [unhide HSS, hs]; simp [upEq, ha])
              have bd : (X[kk].at_ == u.at_) = false := by simp [ha]
              clear ha hs
              go_wp2
              go_quiet (fail)
              go_wp2
              go_roundw
              case rel => exact ⟨kk + 1, _, by omega, by go_num, by rw [unhide HT], rfl⟩
              case measure => simp [intOf]; omega
          · have HT : Hid (anyK X u (kk + 1) = true) := hide (by rw [unhide HSS, hs]; rfl)
            clear hs
            go_wp2
            go_quiet (fail)
            go_wp2
            go_roundw
            case rel => exact ⟨kk + 1, _, by omega, by go_num, by rw [unhide HT], rfl⟩
            case measure => simp [intOf]; omega
        · obtain rfl : kk = X.length := by omega
          have HAL := hide (anyK_all X u)
          obtain ⟨hya, hyd⟩ := unhide HYW
          have HUN := hide ((unhide HU).next (Joins.below_draws _ wr n))
          have hya' : (wr.drewN n).cell? ⟨by_, oy + k * 2, none⟩ = some (.int .i64 u.at_) := hya
          have hyd' : (wr.drewN n).cell? ⟨by_, oy + k * 2 + 1, none⟩ = some (.string u.data) := hyd
          clear hya hyd
          cases hs : anyK X u X.length
          · have HNX : Hid (difK X Y (k + 1) = difK X Y k ++ [u]) := hide (by rw [unhide HSU, if_neg (by rw [← unhide HAL, hs]; simp)])
            clear hs
            generalize (wr.drewN n) = Wn at *
            have HUA := hide ((unhide HUN).next (Joins.below_alloc1 Wn (.cells #[.int .i64 u.at_, .string u.data] 43)))
            have HSZ := hide (unhide HUA).sz
            go_wp2_with (at_builtin; refine wpList_append_one rfl _ _ 28 rfl w2.heap.size 43 j0 (.agg #[.int .i64 0, .string ⟨#[]⟩]) 2 24 Tryz.underlying28 hj hy0 hy1 hy2 rfl (by omega) qo N qa (upsV (difK X Y k)) rfl (unhide HUA).o (unhide HSZ) ⟨Wn.heap.size, 0, none⟩ _ (upV u) rfl rfl (news2_at Wn _ u _ rfl) (upV_one _) (by unfold maxLen; omega) (by omega) ?_; intro g2 cap2 wA hoA hkA; have HU6 := hide (UpS.one (unhide HUA) hoA hkA); clear hoA hkA)
            go_roundw
            case rel => exact ⟨k + 1, N + 1, some ⟨g2, 0, none⟩, cap2, by omega, by omega, by go_num, rfl, by rw [unhide HNX]; exact HU6⟩
            case measure => simp [intOf]; omega
          · have HNX : Hid (difK X Y (k + 1) = difK X Y k) := hide (by rw [unhide HSU, if_pos (by rw [← unhide HAL, hs])])
            clear hs
            go_wp2
            go_roundw
            case rel => exact ⟨k + 1, N, qo, qa, by omega, by omega, by go_num, rfl, by rw [unhide HNX]; exact HUN⟩
            case measure => simp [intOf]; omega
    · obtain rfl : k = Y.length := by omega
      have hNl := (unhide HU).len
      have HF : Hid (UpS w wr qo R.length qa R) := hide (by
        have h := unhide HU
        rw [hNl, ← unhide HD] at h
        exact ⟨h.o.base (unhide HB2).size, fr (unhide HB2) h.k⟩)
      have HL2 : Hid (N = R.length) := hide (by rw [unhide HD]; exact hNl)
      clear hNl HU
      go_wp2
      go_ret
      rw [unhide HL2]
      exact ⟨qo, qa, rfl, unhide HF⟩

set_option maxHeartbeats 1600000 in
theorem diffUpdates_spec (a b : Im4) (ma mb : Img) (w : World) (hLa : ImL ma) (hLb : ImL mb) (h1 : ImS w a ma) (h2 : ImS w b mb) :
    Calls Tryz.prog 18 #[imV a ma, imV b mb] w fun e w' => ∃ qo qa, e = .returned (.tuple #[.slice qo (dfA ma mb).1.length qa, .int .i64 (dfA ma mb).2]) ∧ UpS w w' qo (dfA ma mb).1.length qa (dfA ma mb).1 := by
  have HA := hide (Joins.below_alloc2 w (.cells #[.slice a.ro ma.refs.length a.rc, .slice a.tq ma.table.length a.tc, .slice a.so ma.snaps.length a.sc, .slice a.dq ma.data.length a.dc] 26) (.cells #[.slice b.ro mb.refs.length b.rc, .slice b.tq mb.table.length b.tc, .slice b.so mb.snaps.length b.sc, .slice b.dq mb.data.length b.dc] 26))
  have HV := hide ((VarM.new w 26 (.slice a.ro ma.refs.length a.rc) (.slice a.tq ma.table.length a.tc) (.slice a.so ma.snaps.length a.sc) (.slice a.dq ma.data.length a.dc)).below (Joins.below_alloc1 _ (.cells #[.slice b.ro mb.refs.length b.rc, .slice b.tq mb.table.length b.tc, .slice b.so mb.snaps.length b.sc, .slice b.dq mb.data.length b.dc] 26)))
  have HU := hide ((VarM.new (w.alloc (.cells #[.slice a.ro ma.refs.length a.rc, .slice a.tq ma.table.length a.tc, .slice a.so ma.snaps.length a.sc, .slice a.dq ma.data.length a.dc] 26)) 26 (.slice b.ro mb.refs.length b.rc) (.slice b.tq mb.table.length b.tc) (.slice b.so mb.snaps.length b.sc) (.slice b.dq mb.data.length b.dc)).at (y := w.heap.size + 1) (by simp))
  have H1 := hide (h1.below (unhide HA))
  have H2 := hide (h2.below (unhide HA))
  have HLA := hide hLa
  have HLB := hide hLb
  clear h1 h2 hLa hLb
  obtain ⟨R, hRR⟩ : ∃ R, R = dfA ma mb := ⟨_, rfl⟩
  rw [← hRR]
  have HR := hide hRR
  clear hRR
  go_enter Tryz.func18, Tryz.ntmps18
  go_upto_region 1 with fail
  revert HA HV HU H1 H2
  generalize ((w.alloc _).alloc _) = W0
  intro HA HV HU H1 H2
  obtain ⟨c0, c1, c2, c3⟩ := (unhide HV).cells
  go_wp2_with fail
  refine (imageOK_spec a ma _ (unhide HLA) (unhide H1)).mono ?_
  rintro e w1 ⟨rfl, hb⟩
  have HB := hide hb
  clear hb c0 c1 c2 c3
  cases hia : imB ma
  · have HE : Hid (R = ([], 1)) := hide (by rw [unhide HR, dfA, hia]; rfl)
    have HF : Hid (UpS w (w1.alloc (.cells #[] 43)) (some ⟨w1.heap.size, 0, none⟩) 0 0 []) := hide ⟨.inl ⟨rfl, rfl, _, rfl⟩, fr (unhide HA) (fr (unhide HB) (Joins.below_alloc1 _ _))⟩
    go_wp2
    go_ret2
    rw [unhide HE]
    exact ⟨_, _, rfl, unhide HF⟩
  obtain ⟨c0, c1, c2, c3⟩ := ((unhide HU).below (unhide HB)).cells
  go_wp2_with fail
  refine (imageOK_spec b mb _ (unhide HLB) ((unhide H2).below (unhide HB))).mono ?_
  rintro e w2 ⟨rfl, hb⟩
  replace HB := hide (fr (unhide HB) hb)
  clear hb c0 c1 c2 c3
  cases hib : imB mb
  · have HE : Hid (R = ([], 1)) := hide (by rw [unhide HR, dfA, hia, hib]; rfl)
    have HF : Hid (UpS w (w2.alloc (.cells #[] 43)) (some ⟨w2.heap.size, 0, none⟩) 0 0 []) := hide ⟨.inl ⟨rfl, rfl, _, rfl⟩, fr (unhide HA) (fr (unhide HB) (Joins.below_alloc1 _ _))⟩
    go_wp2
    go_ret2
    rw [unhide HE]
    exact ⟨_, _, rfl, unhide HF⟩
  · have HE : Hid (R = (difU ma mb, 0)) := hide (by rw [unhide HR, dfA, hia, hib]; rfl)
    have HIA := hide (imB_iff.1 hia)
    have HIB := hide (imB_iff.1 hib)
    clear hia hib
    obtain ⟨c0, c1, c2, c3⟩ := ((unhide HV).below (unhide HB)).cells
    obtain ⟨d0, d1, d2, d3⟩ := ((unhide HU).below (unhide HB)).cells
    go_wp2_with fail
    refine (l11Diff_any a b ma mb _ (unhide HIA) (unhide HIB) ((unhide H1).below (unhide HB)) ((unhide H2).below (unhide HB))).mono ?_
    rintro e w3 ⟨qo, qa, rfl, hu⟩
    have HF : Hid (UpS w w3 qo (difU ma mb).length qa (difU ma mb)) := hide ⟨hu.o.base (fr (unhide HA) (unhide HB)).size, fr (fr (unhide HA) (unhide HB)) hu.k⟩
    clear hu c0 c1 c2 c3 d0 d1 d2 d3
    generalize difU ma mb = L at *
    go_wp2
    go_ret2
    rw [unhide HE]
    exact ⟨qo, qa, rfl, unhide HF⟩

end Go.Proofs.YtbmkdbccdnbbjaaGreatDoor

namespace Go.Proofs.YtbmkdbccdnbbjaaGreatDoor
open Go.RowKit
set_option linter.unusedVariables false
set_option maxRecDepth 100000

def secV (ss : List ByteArray) (xs : List Wr) (h : Int) (k : Nat) : ByteArray := readV ss xs h k
def rdA (ss : List ByteArray) (xs : List Wr) (h : Int) : Img × Int := if hostC ss xs h = 0 then (if srB (secV ss xs h) = true then (srM (secV ss xs h), 0) else (im0, 18)) else (im0, hostC ss xs h)
end Go.Proofs.YtbmkdbccdnbbjaaGreatDoor

namespace Go.Proofs.YtbmkdbccdnbbjaaGreatDoor
open Go.RowKit
set_option linter.unusedVariables false

end Go.Proofs.YtbmkdbccdnbbjaaGreatDoor

namespace Go.Proofs.YtbmkdbccdnbbjaaGreatDoor
open Go.RowKit
set_option linter.unusedVariables false
set_option maxRecDepth 100000

end Go.Proofs.YtbmkdbccdnbbjaaGreatDoor

namespace Go.Proofs.YtbmkdbccdnbbjaaGreatDoor
open Go.RowKit
set_option linter.unusedVariables false
set_option maxRecDepth 100000

end Go.Proofs.YtbmkdbccdnbbjaaGreatDoor

namespace Go.Proofs.YtbmkdbccdnbbjaaGreatDoor
open Go.RowKit
set_option linter.unusedVariables false
set_option maxRecDepth 100000

end Go.Proofs.YtbmkdbccdnbbjaaGreatDoor

namespace Go.Proofs.YtbmkdbccdnbbjaaGreatDoor
open Go.RowKit
set_option linter.unusedVariables false
set_option maxRecDepth 100000

end Go.Proofs.YtbmkdbccdnbbjaaGreatDoor

namespace Go.Proofs.YtbmkdbccdnbbjaaGreatDoor
open Go.RowKit
set_option linter.unusedVariables false
set_option maxRecDepth 100000

def noSs : List ByteArray := List.replicate 64 ⟨#[]⟩
theorem noSs_cells : (madeCells #[Value.string ⟨#[]⟩] 64).toList = strV noSs := by rw [toList_madeCells_one]; simp [strV, noSs]
theorem noSs_len : noSs.length = 64 := by simp [noSs]
theorem info9' : (Tryz.prog.info? 9).map (fun i => (i.zero, i.size, i.bytes)) = some (some (.string ⟨#[]⟩), 1, 16) := by kernel_rfl

theorem noSs_own {w : World} {B g : Nat} (h : w.ownsRow B 9 1 (.slice (some ⟨g, 0, none⟩) 64 64) 64 (madeCells #[Value.string ⟨#[]⟩] 64).toList) : w.ownsRow B 9 1 (.slice (some ⟨g, 0, none⟩) 64 64) 64 (strV noSs) := by
  rw [noSs_cells] at h; exact h

end Go.Proofs.YtbmkdbccdnbbjaaGreatDoor

namespace Go.Proofs.YtbmkdbccdnbbjaaGreatDoor
open Go.RowKit
set_option linter.unusedVariables false
set_option maxRecDepth 100000

def upW (ss : List ByteArray) (us : List Up) : List ByteArray := us.foldl (fun s u => s.set u.at_.toNat u.data) ss
theorem upW_len : ∀ (us : List Up) (ss : List ByteArray), (upW ss us).length = ss.length
  | [], ss => rfl
  | u :: us, ss => by
    show (upW (ss.set u.at_.toNat u.data) us).length = ss.length
    rw [upW_len us, List.length_set]
theorem upW_app (ss : List ByteArray) (us vs : List Up) : upW ss (us ++ vs) = upW (upW ss us) vs := by unfold upW; rw [List.foldl_append]
theorem upW_take {us : List Up} {k : Nat} (hk : k < us.length) (ss : List ByteArray) : upW ss (us.take (k + 1)) = (upW ss (us.take k)).set us[k].at_.toNat us[k].data := by
  rw [List.take_succ_eq_append_getElem hk, upW_app]; rfl
theorem upW_off : ∀ (us : List Up) (ss : List ByteArray) (k : Nat), (∀ u ∈ us, u.at_.toNat ≠ k) → ∀ d, (upW ss us).getD k d = ss.getD k d
  | [], ss, k, h, d => rfl
  | u :: us, ss, k, h, d => by
    show (upW (ss.set u.at_.toNat u.data) us).getD k d = _
    rw [upW_off us _ k (fun v hv => h v (by simp [hv])) d]
    have := h u (by simp)
    simp [List.getD_eq_getElem?_getD, this]
theorem upW_on : ∀ (us : List Up) (ss : List ByteArray), us.Pairwise (fun u v => u.at_.toNat ≠ v.at_.toNat) → (∀ u ∈ us, u.at_.toNat < ss.length) → ∀ u ∈ us, ∀ d, (upW ss us).getD u.at_.toNat d = u.data
  | [], ss, _, _, u, hu, d => by cases hu
  | v :: us, ss, hp, hb, u, hu, d => by
    show (upW (ss.set v.at_.toNat v.data) us).getD _ d = _
    rw [List.pairwise_cons] at hp
    rcases List.mem_cons.1 hu with h1 | h1
    · subst h1
      rw [upW_off us _ _ (fun x hx => (hp.1 x hx).symm) d]
      have := hb u (by simp)
      simp [List.getD_eq_getElem?_getD, this]
    · exact upW_on us _ hp.2 (fun x hx => by rw [List.length_set]; exact hb x (by simp [hx])) u h1 d
theorem upW_mem : ∀ (us : List Up) (ss : List ByteArray), ∀ s ∈ upW ss us, s ∈ ss ∨ ∃ u ∈ us, s = u.data
  | [], ss, s, hs => .inl hs
  | u :: us, ss, s, hs => by
    rcases upW_mem us (ss.set u.at_.toNat u.data) s hs with h | ⟨v, hv, rfl⟩
    · rcases List.mem_or_eq_of_mem_set h with h | h
      · exact .inl h
      · exact .inr ⟨u, by simp, h⟩
    · exact .inr ⟨v, by simp [hv], rfl⟩

theorem tabU_at : ∀ (ss : List Snp) (i : Nat), ∀ u ∈ tabU i ss, 12 + (i : Int) ≤ u.at_ ∧ u.at_ < 12 + (i : Int) + ss.length
  | [], i, u, hu => by cases hu
  | s :: ss, i, u, hu => by
    simp only [tabU, List.mem_cons] at hu
    simp only [List.length_cons]
    rcases hu with rfl | hu
    · simp; omega
    · have := tabU_at ss (i + 1) u hu
      omega
theorem tabU_up : ∀ (ss : List Snp) (i : Nat), (tabU i ss).Pairwise (fun u v => u.at_ < v.at_)
  | [], i => .nil
  | s :: ss, i => by
    simp only [tabU]
    refine List.pairwise_cons.2 ⟨fun v hv => ?_, tabU_up ss (i + 1)⟩
    have := tabU_at ss (i + 1) v hv
    simp; omega
theorem datU_at {m : Img} {c : Nat} {u : Up} (h : u ∈ datU m c) : u.at_ = 15 + (c : Int) := by
  unfold datU at h
  split at h
  · rw [List.mem_singleton] at h; subst h; rfl
  · cases h
theorem dataU_at {m : Img} {k : Nat} {u : Up} (h : u ∈ dataU m k) : 15 ≤ u.at_ ∧ u.at_ < 15 + (k : Int) := by
  unfold dataU at h
  obtain ⟨c, hc, hu⟩ := List.mem_flatMap.1 h
  rw [List.mem_range] at hc
  rw [datU_at hu]; omega
theorem dataU_up (m : Img) : ∀ k, (dataU m k).Pairwise (fun u v => u.at_ < v.at_)
  | 0 => by simp [dataU]
  | k + 1 => by
    rw [dataU_succ, List.pairwise_append]
    refine ⟨dataU_up m k, ?_, fun u hu v hv => ?_⟩
    · unfold datU; split <;> simp
    · have := dataU_at hu; rw [datU_at hv]; omega
theorem headU_at {m : Img} {u : Up} (h : u ∈ headU m) : 9 ≤ u.at_ ∧ u.at_ < 12 := by
  simp only [headU, List.mem_cons, List.not_mem_nil, or_false] at h
  rcases h with rfl | rfl | rfl <;> simp
theorem headU_up (m : Img) : (headU m).Pairwise (fun u v => u.at_ < v.at_) := by simp [headU]
theorem allU_up {m : Img} (h : m.snaps.length ≤ 3) : (allU m).Pairwise (fun u v => u.at_ < v.at_) := by
  unfold allU
  refine List.pairwise_append.2 ⟨List.pairwise_append.2 ⟨headU_up m, tabU_up _ _, fun u hu v hv => ?_⟩, dataU_up m 24, fun u hu v hv => ?_⟩
  · have := headU_at hu; have := tabU_at _ _ v hv; omega
  · have h2 := dataU_at hv
    rcases List.mem_append.1 hu with h1 | h1
    · have := headU_at h1; omega
    · have := tabU_at _ _ u h1; omega
theorem allU_at {m : Img} (h : m.snaps.length ≤ 3) : ∀ u ∈ allU m, 9 ≤ u.at_ ∧ u.at_ < 39 := fun u hu => by
  unfold allU at hu
  rcases List.mem_append.1 hu with h1 | h1
  · rcases List.mem_append.1 h1 with h1 | h1
    · have := headU_at h1; omega
    · have := tabU_at _ _ u h1; omega
  · have := dataU_at h1; omega
theorem allU_ne {m : Img} (h : m.snaps.length ≤ 3) : (allU m).Pairwise (fun u v => u.at_.toNat ≠ v.at_.toNat) :=
  List.Pairwise.imp_of_mem (fun {u v} hu hv huv => by have := allU_at h u hu; have := allU_at h v hv; omega) (allU_up h)

theorem secV_nil (ss : List ByteArray) (h : Int) (k : Nat) : secV ss [] h k = ss.getD k ⟨#[]⟩ := by
  unfold secV; rw [readV_none (fun j hj => by cases hj)]; rfl
theorem diskB_nil {ss : List ByteArray} (hl : ss.length = 64) (hs : ∀ s ∈ ss, s.size ≤ 80) : diskB ss [] = true := diskB_parts.2 ⟨⟨hl, hs⟩, by simp, fun x hx => by cases hx⟩
theorem rdA_ok {ss : List ByteArray} {h : Int} {m : Img} (hl : ss.length = 64) (hs : ∀ s ∈ ss, s.size ≤ 80) (hh : 0 ≤ h ∧ h ≤ 3) (hm : ImR m) (hv : ∀ u ∈ allU m, ss.getD u.at_.toNat ⟨#[]⟩ = u.data) : rdA ss [] h = (m, 0) := by
  obtain ⟨h1, h2⟩ := sr_all hm (sec := secV ss [] h) (fun u hu => by rw [secV_nil]; exact hv u hu)
  have hc : hostC ss [] h = 0 := hostC_ok (diskB_nil hl hs) (by simp [inB]; omega)
  rw [rdA, if_pos hc, if_pos h1, h2]

theorem upW_small {ss : List ByteArray} {us : List Up} (hs : ∀ s ∈ ss, s.size ≤ 80) (hu : ∀ u ∈ us, u.data.size ≤ 80) : ∀ s ∈ upW ss us, s.size ≤ 80 := fun s h => by
  rcases upW_mem us ss s h with h1 | ⟨u, h1, rfl⟩
  · exact hs s h1
  · exact hu u h1
theorem rd_all {ss : List ByteArray} {h : Int} {m : Img} (hl : ss.length = 64) (hs : ∀ s ∈ ss, s.size ≤ 80) (hh : 0 ≤ h ∧ h ≤ 3) (hm : ImR m) : rdA (upW ss (allU m)) [] h = (m, 0) :=
  rdA_ok (by rw [upW_len, hl]) (upW_small hs (allU_sz hm)) hh hm (fun u hu => upW_on _ _ (allU_ne hm.few) (fun v hv => by have := allU_at hm.few v hv; omega) u hu _)

theorem pw_at : ∀ {us : List Up}, us.Pairwise (fun u v => u.at_.toNat ≠ v.at_.toNat) → ∀ {u v : Up}, u ∈ us → v ∈ us → u.at_.toNat = v.at_.toNat → u = v
  | [], _, u, v, hu, _, _ => by cases hu
  | x :: us, hp, u, v, hu, hv, he => by
    rw [List.pairwise_cons] at hp
    rcases List.mem_cons.1 hu with h1 | h1 <;> rcases List.mem_cons.1 hv with h2 | h2
    · rw [h1, h2]
    · subst h1; exact absurd he (hp.1 v h2)
    · subst h2; exact absurd he.symm (hp.1 u h1)
    · exact pw_at hp.2 h1 h2 he

theorem difU_sub {a b : Img} {u : Up} (h : u ∈ difU a b) : u ∈ allU b := (List.mem_filter.1 h).1
theorem rd_dif {ss : List ByteArray} {h : Int} {a b : Img} (hl : ss.length = 64) (hs : ∀ s ∈ ss, s.size ≤ 80) (hh : 0 ≤ h ∧ h ≤ 3) (ha : ImR a) (hb : ImR b) : rdA (upW (upW ss (allU a)) (difU a b)) [] h = (b, 0) := by
  have hd : (difU a b).Pairwise (fun u v => u.at_.toNat ≠ v.at_.toNat) := (allU_ne hb.few).filter _
  have hB : ∀ u ∈ allU b, u.at_.toNat < 64 := fun u hu => by have := allU_at hb.few u hu; omega
  refine rdA_ok (by rw [upW_len, upW_len, hl]) (upW_small (upW_small hs (allU_sz ha)) fun u hu => allU_sz hb u (difU_sub hu)) hh hb fun u hu => ?_
  by_cases hin : u ∈ difU a b
  · exact upW_on _ _ hd (fun v hv => by rw [upW_len, hl]; exact hB v (difU_sub hv)) u hin _
  · rw [upW_off _ _ _ (fun v hv he => ?_)]
    · have hA : u ∈ allU a := by
        have h1 : ¬ (!(allU a).any fun v => upEq v u) = true := fun h1 => hin (List.mem_filter.2 ⟨hu, h1⟩)
        simp only [Bool.not_eq_true', Bool.not_eq_false, List.any_eq_true, upEq, Bool.and_eq_true, decide_eq_true_eq] at h1
        obtain ⟨v, hv, e1, e2⟩ := h1
        have : v = u := by cases v; cases u; simp only at e1 e2; rw [e1, e2]
        rw [← this]; exact hv
      exact upW_on _ _ (allU_ne ha.few) (fun v hv => by have := allU_at ha.few v hv; omega) u hA _
    · -- another update of b at the same sector is u itself
      have hv' := difU_sub hv
      have : v = u := pw_at (allU_ne hb.few) hv' hu he
      exact hin (this ▸ hv)
theorem difU_self (a : Img) : difU a a = [] := by
  unfold difU
  rw [List.filter_eq_nil_iff]
  intro u hu
  simp only [Bool.not_eq_true', Bool.not_eq_false, List.any_eq_true]
  exact ⟨u, hu, by simp [upEq]⟩
theorem noSs_mem {s : ByteArray} (h : s ∈ noSs) : s.size ≤ 80 := by rw [List.eq_of_mem_replicate h]; decide
end Go.Proofs.YtbmkdbccdnbbjaaGreatDoor
