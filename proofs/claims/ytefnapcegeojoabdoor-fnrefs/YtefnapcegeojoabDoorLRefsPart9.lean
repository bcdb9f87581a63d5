import Derived.Test.YtefnapcegeojoabDoorRows
import Derived.Test.YtefnapcegeojoabDoorLRefsPart1
import Derived.Test.YtefnapcegeojoabDoorLRefsPart7
import Derived.WalkKit
import Derived.WalkSpells
import Derived.Test.YtefnapcegeojoabDoorLRefsPart3
import Derived.Deep.RegionLawGrows
import Derived.Deep.RegionLaw
import Derived.Deep.AppendLies
import Derived.Test.YtefnapcegeojoabDoorLRefsPart2
import Derived.Test.YtefnapcegeojoabDoorLRefsPart4
import Derived.Test.YtefnapcegeojoabDoorLRefsPart8
import Derived.KernelRfl
import Derived.Lib.SmallJoins
import Derived.Deep.RegionHeld3
import Derived.Deep.RegionWith
import Derived.BigQuiet
import Derived.Deep.QuietTactic
import Derived.Test.YtefnapcegeojoabDoorLRefsPart5
import Derived.Test.YtefnapcegeojoabDoorLRefsPart6

/- Contracts of the program's code of a place. -/
namespace Go.Proofs.YtefnapcegeojoabDoor
open Go.RowKit
set_option linter.unusedVariables false
set_option maxRecDepth 100000

set_option maxHeartbeats 1600000 in
theorem placeFault_any (ao bo : Option Addr) (ca cb : Nat) (ss : List ByteArray) (xs : List Wr) (h a : Int) (w : World) (hl : ss.length ≤ maxLen) (hm : xs.length ≤ maxLen) (h1 : Ss w ao ss) (h2 : Ios w bo xs) :
    Calls Tryd.prog 128 #[.agg #[.slice ao ss.length ca, .slice bo xs.length cb], .int .i64 h, .int .i64 a] w fun e w' => e = .returned (.int .i64 (askC ss xs h a)) ∧ Below w.heap.size w w' := by
  have HA := hide (Joins.below_alloc1 w (.cells #[.slice ao ss.length ca, .slice bo xs.length cb] 32))
  have H1 := hide (h1.below (unhide HA))
  have H2 := hide (h2.below (unhide HA))
  have HL := hide hl
  have HM := hide hm
  clear h1 h2 hl hm
  by_cases hc : hostC ss xs h = 0
  · have hb : (hostC ss xs h != 0) = false := by simp [hc]
    cases hh : inB a 0 63
    · have H := hide (askC_place hc hh)
      clear hc
      go_enter Tryd.func128, Tryd.ntmps128
      go_wp2_with fail
      refine (hostFault_any _ _ _ _ ss xs h _ (unhide HL) (unhide HM) (unhide H1) (unhide H2)).mono ?_
      rintro e w1 ⟨rfl, hb⟩
      have HB := hide (fr (unhide HA) hb)
      clear hb
      go_wp2_with (go_at_call 126; refine (placeOK_any _ _).mono ?_; rintro e w' ⟨rfl, rfl⟩)
      go_ret
      exact ⟨ret_int (unhide H).symm, unhide HB⟩
    · have H := hide (askC_ok hc hh)
      clear hc
      go_enter Tryd.func128, Tryd.ntmps128
      go_wp2_with fail
      refine (hostFault_any _ _ _ _ ss xs h _ (unhide HL) (unhide HM) (unhide H1) (unhide H2)).mono ?_
      rintro e w1 ⟨rfl, hb⟩
      have HB := hide (fr (unhide HA) hb)
      clear hb
      go_wp2_with (go_at_call 126; refine (placeOK_any _ _).mono ?_; rintro e w' ⟨rfl, rfl⟩)
      go_ret
      exact ⟨ret_int (unhide H).symm, unhide HB⟩
  · have H := hide (askC_host (a := a) hc)
    have hb : (hostC ss xs h != 0) = true := by simp [hc]
    clear hc
    go_enter Tryd.func128, Tryd.ntmps128
    go_wp2_with fail
    refine (hostFault_any _ _ _ _ ss xs h _ (unhide HL) (unhide HM) (unhide H1) (unhide H2)).mono ?_
    rintro e w1 ⟨rfl, hb⟩
    have HB := hide (fr (unhide HA) hb)
    clear hb
    go_wp2
    go_ret
    exact ⟨ret_int (unhide H).symm, unhide HB⟩

end Go.Proofs.YtefnapcegeojoabDoor

/- Contracts of impl.seenBy, impl.ReadSector. -/
namespace Go.Proofs.YtefnapcegeojoabDoor
open Go.RowKit
set_option linter.unusedVariables false
set_option maxRecDepth 100000

theorem ret_rs {a b : ByteArray} (h : a = b) : Ending.returned (.string a) = .returned (.string b) := by rw [h]
theorem ret_rd {a b : ByteArray} {c d : Int} (h : a = b) (k : c = d) : Ending.returned (.tuple #[.string a, .int .i64 c]) = .returned (.tuple #[.string b, .int .i64 d]) := by rw [h, k]
theorem no_succ {xs : List Wr} {h a : Int} {k : Nat} (hk : k < xs.length) (hn : ∀ j (hj : j < xs.length), (k : Int) < j → ¬ mat xs[j] h a) (hx : ¬ mat xs[k] h a) : ∀ j (hj : j < xs.length), (k : Int) - 1 < j → ¬ mat xs[j] h a := by
  intro j hj hlt
  by_cases e : j = k
  · subst e; exact hx
  · exact hn j hj (by omega)

set_option maxHeartbeats 1600000 in
theorem seenBy_any (ao bo : Option Addr) (ca cb : Nat) (ss : List ByteArray) (xs : List Wr) (h : Int) (n : Nat) (w : World) (hlx : xs.length ≤ 200) (hn : n < ss.length) (hq : ss.length ≤ 1048576) (h1 : Ss w ao ss) (h2 : Ios w bo xs) :
    Calls Tryd.prog 75 #[.agg #[.slice ao ss.length ca, .slice bo xs.length cb], .int .i64 h, .int .i64 n] w fun e w' => e = .returned (.string (readV ss xs h n)) ∧ Below w.heap.size w w' := by
  have HA := hide (Joins.below_alloc1 w (.cells #[.slice ao ss.length ca, .slice bo xs.length cb] 32))
  have H1' := hide (h1.below (unhide HA))
  have H2' := hide (h2.below (unhide HA))
  have hc0 : (w.alloc (.cells #[.slice ao ss.length ca, .slice bo xs.length cb] 32)).cell? ⟨w.heap.size, 0, none⟩ = some (.slice ao ss.length ca) := by simp [go_sem]
  have hc1 : (w.alloc (.cells #[.slice ao ss.length ca, .slice bo xs.length cb] 32)).cell? ⟨w.heap.size, 1, none⟩ = some (.slice bo xs.length cb) := by simp [go_sem]
  have HC0 := hide hc0
  have HC1 := hide hc1
  have hlt : w.heap.size < (w.alloc (.cells #[.slice ao ss.length ca, .slice bo xs.length cb] 32)).heap.size := by simp
  clear h1 h2 hc0 hc1
  go_enter Tryd.func75, Tryd.ntmps75
  go_wp2
  revert HA H1' H2' HC0 HC1 hlt
  generalize w.alloc (.cells #[.slice ao ss.length ca, .slice bo xs.length cb] 32) = w1
  intro HA H1' H2' HC0 HC1 hlt
  go_loopw [7, 8] (fun i _ wr => ∃ m : Int, i = .int .i64 m ∧ -1 ≤ m ∧ m < xs.length ∧ Hid (∀ j (hj : j < xs.length), m < j → ¬ mat xs[j] h n) ∧ Hid (Below w1.heap.size w1 wr)) (fun i _ _ => (intOf i + 1).toNat)
  case atStart => exact ⟨_, rfl, by omega, by omega, hide (fun j hj hlt => by omega), hide (Below.refl _ _)⟩
  case round =>
    obtain ⟨m, rfl, hm0, hm1, HN, HB⟩ := hrel
    have hc0 : wr.cell? ⟨w.heap.size, 0, none⟩ = some (.slice ao ss.length ca) := ((unhide HB).cell (World.block_lt_of_cell? _ _ (unhide HC0))).trans (unhide HC0)
    have hc1 : wr.cell? ⟨w.heap.size, 1, none⟩ = some (.slice bo xs.length cb) := ((unhide HB).cell (World.block_lt_of_cell? _ _ (unhide HC1))).trans (unhide HC1)
    by_cases hge : 0 ≤ m
    · obtain ⟨k, rfl⟩ := Int.eq_ofNat_of_zero_le hge
      have hk : k < xs.length := by omega
      obtain ⟨b, off, rfl, hd0, hd1, hd2, hz⟩ := (unhide H2').below (unhide HB) k hk
      clear hz
      have HBA := hide (fun o => (unhide HB).alloc (unhide HB).size o)
      by_cases e0 : xs[k].host = h
      · have b0 : (xs[k].host == h) = true := by simp [e0]
        by_cases e1 : xs[k].at_ = n
        · have b1 : (xs[k].at_ == (n : Int)) = true := by simp [e1]
          have H := hide (readV_hit (ss := ss) hk ⟨e0, e1⟩ (fun j hj hlt => unhide HN j hj (by omega)))
          clear e0 e1
          go_wp2
          go_ret
          exact ⟨ret_rs (unhide H).symm, fr (unhide HA) (unhide HBA _)⟩
        · have b1 : (xs[k].at_ == (n : Int)) = false := by simp [e1]
          have HX := hide (no_succ hk (unhide HN) (fun hx => e1 hx.2))
          clear e0 e1
          go_wp2
          go_roundw
          case rel => exact ⟨_, rfl, by omega, by omega, HX, hide (unhide HBA _)⟩
          case measure => simp [intOf]
      · have b0 : (xs[k].host == h) = false := by simp [e0]
        have HX := hide (no_succ hk (unhide HN) (fun hx => e0 hx.1))
        clear e0
        go_wp2
        go_roundw
        case rel => exact ⟨_, rfl, by omega, by omega, HX, hide (unhide HBA _)⟩
        case measure => simp [intOf]
    · obtain ⟨b, off, rfl, hc, hz⟩ := (unhide H1').below (unhide HB) n hn
      clear hz
      have hg : ss.getD ((n : Int).toNat) ⟨#[]⟩ = ss[n] := by simp [List.getD, hn]
      have H := hide ((readV_none (ss := ss) (fun j hj => unhide HN j hj (by omega))).trans hg)
      clear hg
      go_wp2
      go_ret
      exact ⟨ret_rs (unhide H).symm, fr (unhide HA) (unhide HB)⟩

end Go.Proofs.YtefnapcegeojoabDoor

/- Contracts of ReadSector, of the program and of its model. -/
namespace Go.Proofs.YtefnapcegeojoabDoor
open Go.RowKit
set_option linter.unusedVariables false
set_option maxRecDepth 100000

set_option maxHeartbeats 1600000 in
theorem l01Read_any (ao bo : Option Addr) (ca cb : Nat) (ss : List ByteArray) (xs : List Wr) (h : Int) (a : Nat) (w : World) (ha : a < ss.length) (hs : ss.length ≤ 1048576) (hm : xs.length ≤ maxLen) (h1 : Ss w ao ss) (h2 : Ios w bo xs) :
    Calls Tryd.prog 112 #[.agg #[.slice ao ss.length ca, .slice bo xs.length cb], .int .i64 h, .int .i64 a] w fun e w' => e = .returned (.string (readV ss xs h a)) ∧ Below w.heap.size w w' := by
  have HA := hide (Joins.below_alloc1 w (.cells #[.slice ao ss.length ca, .slice bo xs.length cb] 32))
  have H1 := hide (h1.below (unhide HA))
  have H2 := hide (h2.below (unhide HA))
  clear h1 h2
  unfold maxLen at hm
  go_enter Tryd.func112, Tryd.ntmps112
  go_wp2
  go_loop [7] (fun i => ∃ m : Int, i = .int .i64 m ∧ -1 ≤ m ∧ m < xs.length ∧ Hid (∀ j (hj : j < xs.length), m < j → ¬ mat xs[j] h a)) (fun i => (intOf i + 1).toNat)
  case atStart => exact ⟨_, rfl, by omega, by omega, hide (fun j hj hlt => by omega)⟩
  case round =>
    obtain ⟨m, rfl, hm0, hm1, HN⟩ := hrel
    by_cases hge : 0 ≤ m
    · obtain ⟨k, rfl⟩ := Int.eq_ofNat_of_zero_le hge
      have hk : k < xs.length := by omega
      obtain ⟨b, off, rfl, hc0, hc1, hc2, hz⟩ := unhide H2 k hk
      clear hz
      by_cases e0 : xs[k].host = h
      · have b0 : (xs[k].host == h) = true := by simp [e0]
        by_cases e1 : xs[k].at_ = a
        · have b1 : (xs[k].at_ == (a : Int)) = true := by simp [e1]
          have H := hide (readV_hit (ss := ss) hk ⟨e0, e1⟩ (fun j hj hlt => unhide HN j hj (by omega)))
          clear e0 e1
          go_wp2
          go_ret
          exact ⟨ret_rs (unhide H).symm, unhide HA⟩
        · have b1 : (xs[k].at_ == (a : Int)) = false := by simp [e1]
          have HX := hide (no_succ hk (unhide HN) (fun hx => e1 hx.2))
          clear e0 e1
          go_wp2
          go_round
          case rel => exact ⟨_, rfl, by omega, by omega, HX⟩
          case measure => simp [intOf]
      · have b0 : (xs[k].host == h) = false := by simp [e0]
        have HX := hide (no_succ hk (unhide HN) (fun hx => e0 hx.1))
        clear e0
        go_wp2
        go_round
        case rel => exact ⟨_, rfl, by omega, by omega, HX⟩
        case measure => simp [intOf]
    · obtain ⟨b, off, rfl, hc, hz⟩ := unhide H1 a ha
      clear hz
      have hg : ss.getD ((a : Int).toNat) ⟨#[]⟩ = ss[a] := by simp [List.getD, ha]
      have H := hide ((readV_none (ss := ss) (fun j hj => unhide HN j hj (by omega))).trans hg)
      clear hg
      go_wp2
      go_ret
      exact ⟨ret_rs (unhide H).symm, unhide HA⟩

end Go.Proofs.YtefnapcegeojoabDoor

/- Contract of spec.l01Write: the disk with one write more, whose row of writes is new. -/
namespace Go.Proofs.YtefnapcegeojoabDoor
open Go.RowKit
set_option linter.unusedVariables false

theorem write_end {w wL : World} {g k cap : Nat} {cs : List Value} (ho : wL.ownsRow (w.heap.size + 1 + 1 + 1) 108 3 (.slice (some ⟨g, 0, none⟩) k cap) k cs) (hb : Below w.heap.size w wL) (a b c : Value) :
    (((wL.setCell ⟨w.heap.size, 1, none⟩ a).setCell ⟨w.heap.size + 1 + 1, 0, none⟩ b).setCell ⟨w.heap.size + 1 + 1, 1, none⟩ c).ownsRow w.heap.size 108 3 (.slice (some ⟨g, 0, none⟩) k cap) k cs ∧ Below w.heap.size w (((wL.setCell ⟨w.heap.size, 1, none⟩ a).setCell ⟨w.heap.size + 1 + 1, 0, none⟩ b).setCell ⟨w.heap.size + 1 + 1, 1, none⟩ c) :=
  ⟨own_base (ownsRow_setCell_below (ownsRow_setCell_below (ownsRow_setCell_below ho (a := ⟨w.heap.size, 1, none⟩) (by simp; omega) a) (a := ⟨w.heap.size + 1 + 1, 0, none⟩) (by simp) b) (a := ⟨w.heap.size + 1 + 1, 1, none⟩) (by simp) c) (by omega),
    ((hb.setCell (p := ⟨w.heap.size, 1, none⟩) (by simp) a).setCell (p := ⟨w.heap.size + 1 + 1, 0, none⟩) (by simp; omega) b).setCell (p := ⟨w.heap.size + 1 + 1, 1, none⟩) (by simp; omega) c⟩


end Go.Proofs.YtefnapcegeojoabDoor

/- What WriteSector answers. -/
namespace Go.Proofs.YtefnapcegeojoabDoor
open Go.RowKit
set_option linter.unusedVariables false

/-- What WriteSector answers. -/
def wrC (ss : List ByteArray) (xs : List Wr) (h a : Int) (d : ByteArray) : Int := if 65536 < d.size then 2 else if askC ss xs h a = 0 then (if 80 < d.size then 4 else if xs.length = 200 then 7 else 0) else askC ss xs h a
def wrS (ss : List ByteArray) (xs : List Wr) (h a : Int) (d : ByteArray) : List ByteArray := if 65536 < d.size then [] else if askC ss xs h a = 0 then ss else []
def wrX (ss : List ByteArray) (xs : List Wr) (h a : Int) (d : ByteArray) : List Wr := if 65536 < d.size then [] else if askC ss xs h a = 0 then (if 80 < d.size then xs else if xs.length = 200 then xs else xs ++ [⟨h, a, d⟩]) else []
theorem wr_long {ss : List ByteArray} {xs : List Wr} {h a : Int} {d : ByteArray} (h1 : 65536 < d.size) : wrS ss xs h a d = [] ∧ wrX ss xs h a d = [] ∧ wrC ss xs h a d = 2 := by simp [wrS, wrX, wrC, h1]
theorem wr_ask {ss : List ByteArray} {xs : List Wr} {h a : Int} {d : ByteArray} (h1 : ¬ 65536 < d.size) (h2 : askC ss xs h a ≠ 0) : wrS ss xs h a d = [] ∧ wrX ss xs h a d = [] ∧ wrC ss xs h a d = askC ss xs h a := by simp [wrS, wrX, wrC, h1, h2]
theorem wr_range {ss : List ByteArray} {xs : List Wr} {h a : Int} {d : ByteArray} (h1 : ¬ 65536 < d.size) (h2 : askC ss xs h a = 0) (h3 : 80 < d.size) : wrS ss xs h a d = ss ∧ wrX ss xs h a d = xs ∧ wrC ss xs h a d = 4 := by simp [wrS, wrX, wrC, h1, h2, h3]
theorem wr_full {ss : List ByteArray} {xs : List Wr} {h a : Int} {d : ByteArray} (h1 : ¬ 65536 < d.size) (h2 : askC ss xs h a = 0) (h3 : ¬ 80 < d.size) (h4 : xs.length = 200) : wrS ss xs h a d = ss ∧ wrX ss xs h a d = xs ∧ wrC ss xs h a d = 7 := by simp [wrS, wrX, wrC, h1, h2, h3, h4]
theorem wr_ok {ss : List ByteArray} {xs : List Wr} {h a : Int} {d : ByteArray} (h1 : ¬ 65536 < d.size) (h2 : askC ss xs h a = 0) (h3 : ¬ 80 < d.size) (h4 : ¬ xs.length = 200) : wrS ss xs h a d = ss ∧ wrX ss xs h a d = xs ++ [⟨h, a, d⟩] ∧ wrC ss xs h a d = 0 := by simp [wrS, wrX, wrC, h1, h2, h3, h4]
theorem wr_sizes {xs : List Wr} {h a : Int} {d : ByteArray} (hx : ∀ x ∈ xs, x.data.size ≤ maxLen) (hd : d.size ≤ 2 ^ 63 - 1) : ∀ x ∈ xs ++ [(⟨h, a, d⟩ : Wr)], x.data.size ≤ maxLen := by
  intro x hxm
  rcases List.mem_append.1 hxm with h1 | h1
  · exact hx x h1
  · simp at h1; subst h1; exact hd
end Go.Proofs.YtefnapcegeojoabDoor

/- Contracts of spec's generations, the plain ones: l04Host, DeltaOK, l04Encode, l04Decode. -/
namespace Go.Proofs.YtefnapcegeojoabDoor
open Go.RowKit
set_option linter.unusedVariables false
set_option maxRecDepth 100000

theorem l04Host_any (h : Int) (w : World) : Calls Tryd.prog 50 #[.int .i64 h] w fun e w' => e = .returned (.bool (inB h 0 3)) ∧ w' = w := by
  go_enter Tryd.func50, Tryd.ntmps50
  go_wp2_with fail
  refine (l01In_num h 0 3 _).mono ?_
  rintro e w1 ⟨rfl, rfl⟩
  go_wp2
  go_ret
  exact ⟨rfl, rfl⟩

theorem d3_nums {h g s : Int} (hd : dltB h g s = true) : ∀ j (hj : j < [h, g, s].length), 0 ≤ [h, g, s][j] ∧ [h, g, s][j] ≤ 2147483647 := by
  obtain ⟨h1, h2, h3⟩ := dltB_iff.1 hd
  intro j hj
  have hj' : j < 3 := hj
  rcases (show j = 0 ∨ j = 1 ∨ j = 2 by omega) with rfl | rfl | rfl <;> simp <;> omega
theorem is3 (w : World) (n : Nat) (t : TypeId) (a b c : Int) (hn : w.heap.size = n) : Is (w.alloc (.cells #[.int .i64 a, .int .i64 b, .int .i64 c] t)) (some ⟨n, 0, none⟩) [a, b, c] := by
  subst hn
  intro i hi
  have hi' : i < 3 := hi
  refine ⟨w.heap.size, 0, rfl, ?_⟩
  rcases (show i = 0 ∨ i = 1 ∨ i = 2 by omega) with rfl | rfl | rfl <;> simp [go_sem]

theorem ret_db {a b c a' b' c' : Int} {x y : Bool} (h1 : a = a') (h2 : b = b') (h3 : c = c') (k : x = y) : Ending.returned (.tuple #[dltV a b c, .bool x]) = .returned (.tuple #[dltV a' b' c', .bool y]) := by rw [h1, h2, h3, k]
end Go.Proofs.YtefnapcegeojoabDoor

/- Contracts of spec's generations on a disk: l04Read, l04Room, l04Put. -/
namespace Go.Proofs.YtefnapcegeojoabDoor
open Go.RowKit
set_option linter.unusedVariables false
set_option maxRecDepth 100000

theorem ret_dd {a b c a' b' c' : Int} (h1 : a = a') (h2 : b = b') (h3 : c = c') : Ending.returned (dltV a b c) = .returned (dltV a' b' c') := by rw [h1, h2, h3]

/-- What l04Room answers. -/
def roomC (ss : List ByteArray) (xs : List Wr) (h now : Int) : Int := if hostC ss xs h = 0 then (if inB now 0 10000000 = true then (if xs.length = 200 then 7 else 0) else 4) else hostC ss xs h
theorem room_ask {ss : List ByteArray} {xs : List Wr} {h now : Int} (e : hostC ss xs h ≠ 0) : roomC ss xs h now = hostC ss xs h := if_neg e
theorem room_now {ss : List ByteArray} {xs : List Wr} {h now : Int} (e : hostC ss xs h = 0) (e1 : inB now 0 10000000 = false) : roomC ss xs h now = 4 := by simp [roomC, e, e1]
theorem room_full {ss : List ByteArray} {xs : List Wr} {h now : Int} (e : hostC ss xs h = 0) (e1 : inB now 0 10000000 = true) (e2 : xs.length = 200) : roomC ss xs h now = 7 := by simp [roomC, e, e1, e2]
theorem room_ok {ss : List ByteArray} {xs : List Wr} {h now : Int} (e : hostC ss xs h = 0) (e1 : inB now 0 10000000 = true) (e2 : ¬ xs.length = 200) : roomC ss xs h now = 0 := by simp [roomC, e, e1, e2]
theorem room_eq {ss : List ByteArray} {xs : List Wr} {h now : Int} (e : roomC ss xs h now = 0) : hostC ss xs h = 0 ∧ (0 ≤ now ∧ now ≤ 10000000) ∧ xs.length < 200 := by
  by_cases e0 : hostC ss xs h = 0
  · by_cases e1 : inB now 0 10000000 = true
    · by_cases e2 : xs.length = 200
      · rw [room_full e0 e1 e2] at e; cases e
      · have := (diskB_len (hostC_eq e0).1).2
        refine ⟨e0, by simpa [inB] using e1, by omega⟩
    · rw [Bool.not_eq_true] at e1
      rw [room_now e0 e1] at e; cases e
  · rw [room_ask e0] at e; exact absurd e e0
theorem ret_i {a b : Int} (h : a = b) : Ending.returned (.int .i64 a) = .returned (.int .i64 b) := by rw [h]

/-- The disk behind a write of a generation that is sure. -/
def dwr (h g s : Int) : Wr := ⟨h, 5 + h, encD h g s⟩
def pS (ss : List ByteArray) (xs : List Wr) (h g s : Int) : List ByteArray := putW ss (ofH h (xs ++ [dwr h g s]))
def pX (xs : List Wr) (h g s : Int) : List Wr := dropF h (xs ++ [dwr h g s])
theorem dwr_io {h g s : Int} (h0 : 0 ≤ h) (h3 : h ≤ 3) : ioB (dwr h g s) = true := ioB_parts.2 ⟨⟨h0, h3⟩, ⟨by show 0 ≤ 5 + h; omega, by show 5 + h ≤ 63; omega⟩, by show (encD h g s).size ≤ 80; rw [encD_size]; decide⟩
theorem put_right {ss : List ByteArray} {xs : List Wr} {h g s : Int} (hd : diskB ss xs = true) (hl : xs.length < 200) (h0 : 0 ≤ h) (h3 : h ≤ 3) : diskB ss (xs ++ [dwr h g s]) = true := diskB_snoc hd hl (dwr_io h0 h3)
theorem put_land {ss : List ByteArray} {xs : List Wr} {h : Int} (hl : xs.length ≤ 200) : (landF h false ss xs 200).1 = putW ss (ofH h xs) ∧ (landF h false ss xs 200).2.1 = dropF h xs := by
  have hc : (ofH h xs).length ≤ 200 := Nat.le_trans (List.length_filter_le _ _) hl
  obtain ⟨p1, p2⟩ := landF_put h ss xs 200
  have p1' : (landF h false ss xs 200).1 = putW ss ((ofH h xs).take 200) := p1
  have p2' : (landF h false ss xs 200).2.1 = remH h 200 xs := p2
  rw [List.take_of_length_le hc] at p1'
  rw [rem_all 200 xs hc] at p2'
  exact ⟨p1', p2'⟩
theorem pS_right {ss : List ByteArray} {xs : List Wr} {h g s : Int} (hd : diskB ss xs = true) (hl : xs.length < 200) (h0 : 0 ≤ h) (h3 : h ≤ 3) : diskB (pS ss xs h g s) (pX xs h g s) = true :=
  diskB_put (put_right (g := g) (s := s) hd hl h0 h3) (fun x hx => of_mem hx) (fun x hx => drop_mem hx) (drop_le h _)
theorem pS_len (ss : List ByteArray) (xs : List Wr) (h g s : Int) : (pS ss xs h g s).length = ss.length := put_len _ _

theorem rightX {ss : List ByteArray} {xs : List Wr} (hd : diskB ss xs = true) : ∀ x ∈ xs, x.data.size ≤ maxLen := fun x hx => Nat.le_trans (ioB_parts.1 ((diskB_parts.1 hd).2.2 x hx)).2.2 (by decide)
end Go.Proofs.YtefnapcegeojoabDoor

/- Plain: texts as the model draws them; what is read behind a write of a generation that is sure. -/
namespace Go.Proofs.YtefnapcegeojoabDoor
open Go.RowKit
set_option linter.unusedVariables false

/-- Short, too long for a sector, or a record of small numbers. -/
def Drw (t : ByteArray) : Prop := t.size ≤ 4 ∨ 80 < t.size ∨ ∃ (k : Int) (xs : List Int), t = sealS k xs ∧ (1 ≤ k ∧ k ≤ 9) ∧ xs.length ≤ 16 ∧ ∀ x ∈ xs, 0 ≤ x ∧ x ≤ 20
theorem small_all {xs : List Int} (h : ∀ x ∈ xs, 0 ≤ x ∧ x ≤ 20) : allB xs = true := by
  rw [allB, List.all_eq_true]
  intro x hx
  have := h x hx
  simp [numB, inB]; omega
theorem openB_in {t : ByteArray} {k : Int} : openB t k = true ↔ RecP t ∧ byteAt t 0 = k := by
  simp only [openB, Bool.and_eq_true, decide_eq_true_eq, recB_iff]
theorem dec_list {t : ByteArray} (h : decB t = true) : ∃ a b c, unL (bodyT t) = [a, b, c] ∧ decG t = b := by
  have h' := h
  simp only [decB, Bool.and_eq_true, decide_eq_true_eq] at h'
  obtain ⟨ho, hl, hd⟩ := h'
  obtain ⟨a, b, c, e⟩ := three hl
  exact ⟨a, b, c, by rw [← e, decL, openL_yes ho], (dec_yes h e).2.1⟩
theorem drw_gen {t : ByteArray} (h : Drw t) (h80 : t.size ≤ 80) : decG t ≤ 20 := by
  cases hb : decB t with
  | false => rw [(dec_no hb).2.1]; omega
  | true =>
    obtain ⟨a, b, c, hl, hg⟩ := dec_list hb
    rw [hg]
    rcases h with h | h | ⟨k, xs, rfl, hk, hx, hs⟩
    · have := congrArg List.length hl
      rw [unL_length, bodyT_size] at this
      simp at this
      omega
    · omega
    · rw [body_seal, un_pack (small_all hs)] at hl
      subst hl
      exact (hs b (by simp)).2
theorem dec_enc {h g s : Int} (hd : dltB h g s = true) : decB (encD h g s) = true ∧ decH (encD h g s) = h ∧ decG (encD h g s) = g ∧ decS (encD h g s) = s := by
  obtain ⟨h1, h2, h3⟩ := dltB_iff.1 hd
  have ha : allB [h, g, s] = true := by simp [allB, numB, inB]; omega
  have ho : openB (encD h g s) 9 = true := openB_in.2 ⟨rec_seal ⟨by omega, by omega⟩ ha (by simp), seal_kind ⟨by omega, by omega⟩ (by simp)⟩
  have hl : decL (encD h g s) = [h, g, s] := by rw [decL, openL_yes ho, encD, body_seal, un_pack ha]
  have hb : decB (encD h g s) = true := by rw [decB_at ho hl]; exact hd
  exact ⟨hb, dec_yes hb hl⟩

theorem pX_nil (h g s : Int) : pX [] h g s = [] := by simp [pX, dropF, dwr]
theorem pS_nil (ss : List ByteArray) (h g s : Int) : pS ss [] h g s = ss.set (5 + h).toNat (encD h g s) := by simp [pS, ofH, dwr, putW]
theorem read_nil (ss : List ByteArray) (o a : Int) : readV ss [] o a = ss.getD a.toNat ⟨#[]⟩ := readV_none (fun j hj => absurd hj (Nat.not_lt_zero _))
/-- What is read behind it, by whatever host. -/
theorem red_put {ss : List ByteArray} {h g s : Int} (o : Int) (hl : ss.length = 64) (hx : dltB h g s = true) : redB (pS ss [] h g s) [] o h = true ∧ redG (pS ss [] h g s) [] o h = g ∧ redS (pS ss [] h g s) [] o h = s := by
  obtain ⟨⟨h0, h3⟩, _⟩ := dltB_iff.1 hx
  obtain ⟨e0, e1, e2, e3⟩ := dec_enc hx
  have hr : readV (pS ss [] h g s) [] o (5 + h) = encD h g s := by
    rw [read_nil, pS_nil, List.getD_eq_getElem?_getD, List.getElem?_set_self (by omega)]; rfl
  obtain ⟨y1, y2, y3⟩ := red_yes (ss := pS ss [] h g s) (xs := []) (h := o) (o := h) (by rw [hr]; exact e0) (by rw [hr]; exact e1)
  rw [hr] at y2 y3
  exact ⟨y1, y2.trans e2, y3.trans e3⟩
theorem red_small {ss : List ByteArray} {xs : List Wr} {h o : Int} (hd : diskB ss xs = true) (hs : ∀ s ∈ ss, Drw s) (hx : ∀ x ∈ xs, Drw x.data) : redG ss xs h o ≤ 20 := by
  cases e : redB ss xs h o with
  | false => rw [(red_no e).1]; omega
  | true =>
    rw [redG, if_pos e]
    refine drw_gen ?_ (readV_size hd h (5 + o))
    unfold readV
    cases hf : xs.reverse.find? (fun x => x.host == h && x.at_ == 5 + o) with
    | some x => exact hx x (List.mem_reverse.1 (List.mem_of_find?_eq_some hf))
    | none =>
      simp only [Option.map_none, Option.getD_none]
      rw [List.getD_eq_getElem?_getD]
      cases hg : ss[(5 + o).toNat]? with
      | some s => exact hs s (List.mem_of_getElem? hg)
      | none => exact .inl (Nat.zero_le _)
theorem right_nil {ss : List ByteArray} {h g s : Int} (hd : diskB ss [] = true) (hx : dltB h g s = true) : diskB (pS ss [] h g s) [] = true := by
  obtain ⟨⟨h0, h3⟩, _⟩ := dltB_iff.1 hx
  have := pS_right (g := g) (s := s) hd (by simp) h0 h3
  rw [pX_nil] at this
  exact this

end Go.Proofs.YtefnapcegeojoabDoor

/- Contracts of the model's draws: chance, delta, leader, block; of l05Encode, l06Encode. -/
namespace Go.Proofs.YtefnapcegeojoabDoor
open Go.RowKit
set_option linter.unusedVariables false
set_option maxRecDepth 100000

set_option maxHeartbeats 1600000 in
theorem chance_k (b : Nat) (ao : Option Addr) (n cap m : Nat) (k : Int) (w : World) (hk0 : 1 ≤ k) (hk1 : k ≤ 1000000) (hm : m ≤ 900000) (hn : n ≤ 1048576) (hs : SrcK w b ao n cap m) :
    Calls Tryd.prog 101 #[.pointer (some ⟨b, 0, none⟩), .int .i64 k] w fun e w' => ∃ q : Bool, e = .returned (.bool q) ∧ SrcK w' b ao n cap (m + 3) ∧ Keep (fun j => j = b) w w' := by
  go_enter Tryd.func101, Tryd.ntmps101
  go_wp2_with fail
  refine (next_k b ao n cap m k _ hk0 hk1 hm hn hs).mono ?_
  rintro e w1 ⟨q, rfl, q0, q1, hs1, hk1'⟩
  have HS := hide hs1
  have HK := hide hk1'
  clear hs1 hk1' hs
  go_wp2
  go_ret
  exact ⟨_, rfl, unhide HS, unhide HK⟩

/-- The world of such a draw: the source, the answer's variable. -/
structure DrS (w W : World) (b : Nat) (ao : Option Addr) (n cap m : Nat) (o : Obj) : Prop where
  s : SrcK W b ao n cap m
  k : Keep (fun k => k = b) w W
  r : W.heap[w.heap.size]? = some o
theorem DrS.new {w : World} {b : Nat} {ao : Option Addr} {n cap m : Nat} (hs : SrcK w b ao n cap m) (c : Array Value) (t : TypeId) : DrS w (w.alloc (.cells c t)) b ao n cap m (.cells c t (0, 0)) :=
  ⟨hs.below (Joins.below_alloc1 _ _), Keep.of_below (Joins.below_alloc1 _ _), heap_alloc_new w _⟩
theorem DrS.src {w W W' : World} {b : Nat} {ao : Option Addr} {n cap m m' : Nat} {o : Obj} (h : DrS w W b ao n cap m o) (hb : b < w.heap.size) (hs : SrcK W' b ao n cap m') (hk : Keep (fun k => k = b) W W') : DrS w W' b ao n cap m' o :=
  ⟨hs, h.k.trans hk, blk_keep hk (by omega) h.r⟩
/-- The answer is stored: three numbers. -/
theorem DrS.end3 {w W : World} {b : Nat} {ao : Option Addr} {n cap m : Nat} {o : Obj} (h : DrS w W b ao n cap m o) (h0 : SrcK w b ao n cap 0 ∨ True) (hb : b < w.heap.size) (hm0 : ∃ m0, SrcK w b ao n cap m0) (u v x : Value) :
    SrcK (((W.setCell ⟨w.heap.size, 0, none⟩ u).setCell ⟨w.heap.size, 1, none⟩ v).setCell ⟨w.heap.size, 2, none⟩ x) b ao n cap m ∧ Keep (fun k => k = b) w (((W.setCell ⟨w.heap.size, 0, none⟩ u).setCell ⟨w.heap.size, 1, none⟩ v).setCell ⟨w.heap.size, 2, none⟩ x) := by
  obtain ⟨m0, h1⟩ := hm0
  have hk : Keep (fun k => k = w.heap.size) W (((W.setCell ⟨w.heap.size, 0, none⟩ u).setCell ⟨w.heap.size, 1, none⟩ v).setCell ⟨w.heap.size, 2, none⟩ x) := (((Keep.refl (fun k => k = w.heap.size) W).setCell (p := ⟨w.heap.size, 0, none⟩) rfl _).setCell (p := ⟨w.heap.size, 1, none⟩) rfl _).setCell (p := ⟨w.heap.size, 2, none⟩) rfl _
  have hw := keep_new h.k hk (fun k e => .inl (by omega))
  exact ⟨h1.other h.s hw hk (by omega), hw⟩

end Go.Proofs.YtefnapcegeojoabDoor

/- Contracts of the model's drawn counts: refs, RefsOf. -/
namespace Go.Proofs.YtefnapcegeojoabDoor
open Go.RowKit
set_option linter.unusedVariables false
set_option maxRecDepth 100000

theorem all_snoc {xs : List Int} {n : Int} (h : xs.all cnt1 = true) (hn : cnt1 n = true) : (xs ++ [n]).all cnt1 = true := by simp [List.all_append, h, hn]
theorem all_setC {xs : List Int} {k : Nat} {n : Int} (h : xs.all cnt1 = true) (hn : cnt1 n = true) : (xs.set k n).all cnt1 = true := by
  rw [List.all_eq_true] at *
  intro x hx
  rcases List.mem_or_eq_of_mem_set hx with h1 | h1
  · exact h x h1
  · rw [h1]; exact hn
theorem intV_setY (xs : List Int) (k : Nat) (n : Int) : (intV xs).set k (.int .i64 n) = intV (xs.set k n) := by simp [intV, List.map_set]

set_option maxHeartbeats 3200000 in
theorem refs_k (b : Nat) (ao : Option Addr) (n cap m : Nat) (w : World) (hm : m ≤ 700000) (hn : n ≤ 1048576) (hs : SrcK w b ao n cap m) :
    Calls Tryd.prog 58 #[.pointer (some ⟨b, 0, none⟩)] w fun e w' => ∃ v xs, e = .returned v ∧ OwnN w' w.heap.size v xs ∧ ctB xs = true ∧ Keep (fun k => k = b) w w' := by
  have hbl := hs.lt
  have HS0 := hide hs
  clear hs
  obtain ⟨j0, hj, hy0, hy1, hy2⟩ := info_parts infoM
  have HSA := hide ((unhide HS0).below (Joins.below_alloc1 w (.cells #[] 3)))
  have HKA : Hid (Keep (fun k => k = b) w (w.alloc (.cells #[] 3))) := hide (Keep.of_below (Joins.below_alloc1 _ _))
  go_enter Tryd.func58, Tryd.ntmps58
  go_wp2_with fail
  refine (next_k b ao n cap m 15 _ (by omega) (by omega) (by omega) hn (unhide HSA)).mono ?_
  rintro e w1 ⟨r1, rfl, hr10, hr11, hs1, hk1⟩
  have HS1 := hide hs1
  have HK1 := hide ((unhide HKA).trans hk1)
  clear hs1 hk1
  go_wp2
  go_loopw [3, 5] (fun o i wr => ∃ (xs : List Int) (qo : Option Addr) (qa : Nat), xs.length ≤ 24 ∧ i = .int .i64 xs.length ∧ o = .slice qo xs.length qa ∧ Hid (xs.all cnt1 = true) ∧ Hid (OwnR wr w.heap.size 3 1 (.slice qo xs.length qa) xs.length (intV xs)) ∧ Hid (Keep (fun k => k = b) w wr) ∧ Hid (SrcK wr b ao n cap (m + 3 + 3 * xs.length))) (fun _ i _ => 24 - (intOf i).toNat)
  case atStart => exact ⟨[], _, _, by simp, rfl, rfl, hide rfl, hide (.inl ⟨rfl, rfl, _, rfl⟩), HK1, HS1⟩
  case round =>
    obtain ⟨xs, qo, qa, hxj, rfl, rfl, HA, HO, HK, HS⟩ := hrel
    by_cases hlt : xs.length < 24
    · have hlti : (xs.length : Int) < 24 := by omega
      go_wp2_with fail
      refine (next_k b ao n cap (m + 3 + 3 * xs.length) (2 + r1) _ (by omega) (by omega) (by omega) hn (unhide HS)).mono ?_
      rintro e w2 ⟨r, rfl, hr0, hr1, hs2, hk2⟩
      have HO2 := hide ((unhide HO).keep hk2 (fun g hg e => by have := ((unhide HO).ge g hg).1; omega))
      have HK2 := hide ((unhide HK).trans hk2)
      have HS2 := hide hs2
      clear hs2 hk2
      have HOA := hide ((unhide HO2).below (Joins.below_alloc1 _ (.cells #[.int .i64 r] 3)))
      have HKB := hide ((unhide HK2).trans (Keep.of_below (Joins.below_alloc1 _ (.cells #[.int .i64 r] 3))))
      have HSB := hide ((unhide HS2).below (Joins.below_alloc1 _ (.cells #[.int .i64 r] 3)))
      have HSZ := hide (unhide HK2).size
      have HCN : Hid (cnt1 r = true) := hide (by simp [cnt1, betw]; omega)
      go_wp2_with (at_builtin; refine wpList_append_one rfl _ _ 52 rfl w.heap.size 3 j0 (.int .i64 0) 1 8 Tryd.underlying52 hj hy0 hy1 hy2 rfl (by omega) qo xs.length qa (intV xs) rfl (unhide HOA) (by have := unhide HSZ; simp; omega) ⟨w2.heap.size, 0, none⟩ _ [.int .i64 r] rfl rfl (byte_news w2 _ _) (int_one _) (by unfold maxLen; omega) (by omega) ?_; intro g2 cap2 wA hoA hkA; have HSF := hide (And.intro hoA (keep_new (unhide HKB) hkA (fun k hk => .inl ((unhide HOA).ge k hk).1))); have HSC := hide ((unhide HS0).other (unhide HSB) (unhide HSF).2 hkA (fun hk => by have := ((unhide HOA).ge _ hk).1; omega)); clear hoA hkA)
      go_roundw
      case rel => exact ⟨xs ++ [r], some ⟨g2, 0, none⟩, cap2, by simp; omega, by rw [List.length_append]; go_num, by simp, hide (all_snoc (unhide HA) (unhide HCN)), hide (by rw [List.length_append, intV_snoc]; exact .inr ⟨by simp, (unhide HSF).1⟩), hide (unhide HSF).2, hide (by rw [List.length_append]; exact (unhide HSC).more (by simp; omega))⟩
      case measure => simp [intOf]; omega
    · have h24 : xs.length = 24 := by omega
      have H24 := hide h24
      have HO24 : Hid (OwnR wr w.heap.size 3 1 (.slice qo 24 qa) 24 (intV xs)) := hide (by rw [← h24]; exact unhide HO)
      have HS24 : Hid (SrcK wr b ao n cap 800000) := hide ((unhide HS).more (by omega))
      rw [h24]
      clear HO HS hlt hxj h24
      have h2424 : ¬ (24 : Int) < 24 := by omega
      go_wp2_with fail
      refine (chance_k b ao n cap 800000 6 _ (by omega) (by omega) (by omega) hn (unhide HS24)).mono ?_
      rintro e w2 ⟨q, rfl, hs2, hk2⟩
      have HO2 := hide ((unhide HO24).keep hk2 (fun g hg e => by have := ((unhide HO24).ge g hg).1; omega))
      have HK2 := hide ((unhide HK).trans hk2)
      clear hs2 hk2 HO24 HS24
      cases q
      · go_wp2
        go_ret
        exact ⟨.slice qo 24 qa, xs, rfl, ⟨qo, qa, by rw [unhide H24], by rw [unhide H24]; exact unhide HO2⟩, by rw [ctB, unhide HA, unhide H24]; rfl, unhide HK2⟩
      · rcases unhide HO2 with ⟨e0, _⟩ | ⟨hp, ho⟩
        · omega
        obtain ⟨g, cp, cur, e, hBg, _⟩ := own_form hp ho
        cases e
        have HOW := hide ho
        clear ho
        go_wp2
        go_loopw [6] (fun i wr => ∃ (k : Nat) (ys : List Int), k ≤ 24 ∧ i = .int .i64 k ∧ Hid (ys.length = 24) ∧ Hid (ys.all cnt1 = true) ∧ Hid (wr.ownsRow w.heap.size 3 1 (.slice (some ⟨g, 0, none⟩) 24 qa) 24 (intV ys)) ∧ Hid (Keep (fun k => k = b) w wr)) (fun i _ => 24 - (intOf i).toNat)
        case atStart => exact ⟨0, xs, by omega, rfl, H24, HA, HOW, HK2⟩
        case round =>
          clear HA HOW HK HK2
          obtain ⟨k, ys, hk, rfl, HL, HA, HO, HK⟩ := hrel
          by_cases hlt : k < 24
          · have hky : k < ys.length := by rw [unhide HL]; exact hlt
            have hki : (k : Int) < 24 := by omega
            have hfr := (unhide HO).frozenAt k
            have hcx : wr.cell? ⟨g, k, none⟩ = some (.int .i64 ys[k]) := by rw [(unhide HO).cellAt k (by omega), intV_get hky]
            have hcn : cnt1 ys[k] = true := List.all_eq_true.1 (unhide HA) ys[k] (List.getElem_mem hky)
            have HCN : Hid (cnt1 (if 1 < ys[k] then ys[k] else 1) = true) := hide (by
              obtain ⟨c0, c1⟩ := betw_iff.1 hcn
              split
              · exact betw_yes (by omega) (by omega)
              · exact betw_yes (by omega) (by omega))
            have HST := hide ((unhide HO).stored k (.int .i64 (if 1 < ys[k] then ys[k] else 1)))
            have HKS := hide (keep_new (unhide HK) (Keep.setCell (S := fun j => j = g) (Keep.refl _ wr) (p := ⟨g, k, none⟩) rfl (.int .i64 (if 1 < ys[k] then ys[k] else 1))) (fun j hj => .inl (by omega)))
            clear hcn
            go_wp2
            go_roundw
            case rel => exact ⟨k + 1, ys.set k (if 1 < ys[k] then ys[k] else 1), by omega, by go_num, hide (by rw [List.length_set]; exact unhide HL), hide (all_setC (unhide HA) (unhide HCN)), hide (by rw [← intV_setY]; exact (unhide HST).1), HKS⟩
            case measure => simp [intOf]; omega
          · go_wp2
            go_ret
            exact ⟨.slice (some ⟨g, 0, none⟩) 24 qa, ys, rfl, ⟨some ⟨g, 0, none⟩, qa, by rw [unhide HL], by rw [unhide HL]; exact .inr ⟨by omega, unhide HO⟩⟩, by rw [ctB, unhide HA, unhide HL]; rfl, unhide HK⟩

theorem refsOf_any (ao : Option Addr) (n cap : Nat) (w : World) (hn : n ≤ 1048576) (hB : Bs w ao n) :
    Calls Tryd.prog 23 #[.slice ao n cap] w fun e w' => ∃ v xs, e = .returned v ∧ OwnN w' w.heap.size v xs ∧ ctB xs = true ∧ Below w.heap.size w w' := by
  go_enter Tryd.func23, Tryd.ntmps23
  go_wp2_with fail
  refine (source_any ao n cap _ hn hB).mono ?_
  rintro e w1 ⟨rfl, hs1, hb1, hz⟩
  go_wp2_with fail
  refine (refs_k _ ao n cap 0 _ (by omega) hn hs1).mono ?_
  rintro e w2 ⟨v, xs, rfl, ho, ha, hk⟩
  have HO := hide (ho.base (B' := w.heap.size) (by omega))
  have HB := hide (hb1.trans (hk.below (B := w.heap.size) (by omega) (fun k hk => by omega)))
  clear ho hb1 hk hs1
  go_wp2
  go_ret
  exact ⟨v, xs, rfl, unhide HO, ha, unhide HB⟩

end Go.Proofs.YtefnapcegeojoabDoor

/- The walk of laws.FnRefs. -/
namespace Go.Proofs.YtefnapcegeojoabDoor
open Go.RowKit
set_option linter.unusedVariables false
set_option maxRecDepth 100000

theorem same_at (ao bo : Option Addr) (ca cb n m : Nat) (xs ys : List Int) (w : World) (he : ys = xs) (hn : xs.length = n) (hm : ys.length = m) (hl : n ≤ maxLen) (hc : Is w ao ys) (hd : Is w bo xs) :
    Calls Tryd.prog 29 #[.slice ao m ca, .slice bo n cb] w fun e w' => e = .returned (.bool true) ∧ Below w.heap.size w w' := by
  subst he hn hm
  refine (sameInts_any ao bo ca cb ys ys w hl hc hd).mono ?_
  rintro e w' ⟨rfl, hb⟩
  rw [eqNB_self]
  exact ⟨rfl, hb⟩

set_option maxHeartbeats 400000 in
theorem lawRefs (ao : Option Addr) (ca n : Nat) (bo : Option Addr) (cb m : Nat) (w : World) (hn : n ≤ maxLen) (hB : Bs w ao n) (hm : m ≤ maxLen) (hC : Bs w bo m) (hE : ErrW w ∧ BzW w) :
    Calls Tryd.prog 5 #[.slice ao n ca, .slice bo m cb] w fun e w' => e = .returned (.bool true) ∧ Below w.heap.size w w' := by
  have HE := hide hE.1
  have HZ := hide hE.2
  have HBS := hide hB
  have HCS := hide hC
  clear hE hB hC
  unfold maxLen at hn hm
  by_cases h : 1048576 < n
  · go_enter Tryd.func5, Tryd.ntmps5
    go_wp2
    go_ret
    exact ⟨rfl, Below.refl _ _⟩
  by_cases h' : 1048576 < m
  · go_enter Tryd.func5, Tryd.ntmps5
    go_wp2
    go_ret
    exact ⟨rfl, Below.refl _ _⟩
  have hn' : n ≤ 1048576 := by omega
  have hm' : m ≤ 1048576 := by omega
  go_enter Tryd.func5, Tryd.ntmps5
  go_wp2_with fail
  refine (refsOf_any ao n ca _ hn' (unhide HBS)).mono ?_
  rintro e w1 ⟨v, xs, rfl, ⟨qo, qa, rfl, ho⟩, hcb, hb1⟩
  have HB1 := hide hb1
  have HI1 := hide (ownRN ho)
  have HCB := hide hcb
  have H24 := hide (ctB_len hcb)
  have HM : Hid (xs.length ≤ maxLen) := hide (by rw [ctB_len hcb]; unfold maxLen; omega)
  have HEC : Hid (erR xs = encT xs ∧ ctF xs = 0) := hide ⟨if_pos (ctF_ok hcb), ctF_ok hcb⟩
  have HDC := hide (enc_cd hcb)
  clear ho hb1 hcb
  go_wp2_with fail
  refine (encodeRefs_impl qo qa xs _ (unhide HM) (unhide HI1)).mono ?_
  rintro e w2 ⟨rfl, hb⟩
  rw [(unhide HEC).1, (unhide HEC).2]
  have HB2 := hide (fr (unhide HB1) hb)
  have HI2 := hide ((unhide HI1).below hb)
  clear hb HB1 HI1
  go_wp2_with fail
  refine (encodeRefs_spec qo qa xs _ (unhide HM) (unhide HI2)).mono ?_
  rintro e w3 ⟨rfl, hb⟩
  rw [(unhide HEC).1, (unhide HEC).2]
  have HB3 := hide (fr (unhide HB2) hb)
  have HI3 := hide ((unhide HI2).below hb)
  clear hb HB2 HI2
  go_wp2_with fail
  refine (decodeRefs_impl (encT xs) _ ((unhide HE).below (unhide HB3))).mono ?_
  rintro e w4 ⟨v4, rfl, ⟨do4, da4, rfl, ho⟩, hb⟩
  rw [(unhide HDC).1]
  have HJ4 := hide (ownRN ho)
  have HB4 := hide (fr (unhide HB3) hb)
  have HI4 := hide ((unhide HI3).below hb)
  clear hb ho HB3 HI3
  generalize cdR (encT xs) = L4 at *
  generalize encT xs = T4 at *
  go_wp2_with fail
  refine (at_any bo m cb 0 24 _ hm' (by omega) (by omega) (by omega) (by omega) ((unhide HCS).below (unhide HB4))).mono ?_
  rintro e w5 ⟨r, rfl, hr0, hr1, hb⟩
  obtain ⟨q, rfl⟩ := Int.eq_ofNat_of_zero_le hr0
  have HB5 := hide (fr (unhide HB4) hb)
  have HI5 := hide ((unhide HI4).below hb)
  have HJ5 := hide ((unhide HJ4).below hb)
  clear hb HB4 HI4 HJ4
  have hq : q < xs.length := by rw [unhide H24]; omega
  go_wp2_with fail
  refine (refSum_impl qo qa xs _ (unhide HM) (unhide HI5)).mono ?_
  rintro e w6 ⟨rfl, hb⟩
  rw [(unhide HEC).2]
  have HB6 := hide (fr (unhide HB5) hb)
  have HI6 := hide ((unhide HI5).below hb)
  have HJ6 := hide ((unhide HJ5).below hb)
  clear hb HB5 HI5 HJ5
  go_wp2_with fail
  refine (refUp_impl qo qa xs q _ (unhide HM) (unhide HI6)).mono ?_
  rintro e w7 ⟨v7, rfl, ⟨uo, ua, rfl, ho⟩, hb⟩
  have HU7 := hide (ownRN ho)
  have HB7 := hide (fr (unhide HB6) hb)
  have HI7 := hide ((unhide HI6).below hb)
  have HJ7 := hide ((unhide HJ6).below hb)
  clear hb ho HB6 HI6 HJ6
  have HSR := hide (sum_in (unhide HCB) xs.length (Nat.le_refl _))
  have HSM : Hid (smR xs = (xs.take xs.length).sum) := hide (sum_all (unhide HCB) (by omega))
  have hs0 : 0 ≤ smR xs := by have := unhide HSR; rw [← unhide HSM] at this; omega
  have hs1 : smR xs ≤ 1000 := by have := unhide HSR; rw [← unhide HSM] at this; have := unhide H24; omega
  obtain ⟨b, off, rfl, hcl0⟩ := (unhide HI7) q hq
  have hqi : (q : Int) < (xs.length : Int) := by omega
  by_cases h15 : xs[q] = 15
  · have h0 : cwF xs (q : Int) = 0 := by rw [cwF, if_pos (unhide HEC).2, if_pos (betw_yes (by omega) (by omega))]
    obtain ⟨u1, u2⟩ := (up_at h0 hq).1 h15
    have HUP := hide u2
    have b15 : (xs[q] == 15) = true := by simp [h15]
    have bul : (((upL xs q).length : Int) != 24) = false := by rw [u2]; have := unhide H24; simp; omega
    rw [u1]
    clear h15 h0 u1 u2
    generalize upL xs q = U at *
    go_wp2_with fail
    refine (same_at do4 _ da4 _ _ _ xs L4 _ (unhide HDC).2 rfl rfl (unhide HM) (unhide HJ7) (unhide HI7)).mono ?_
    rintro e w8 ⟨rfl, hb⟩
    have HB8 := hide (fr (unhide HB7) hb)
    have HI8 := hide ((unhide HI7).below hb)
    have HU8 := hide ((unhide HU7).below hb)
    have hcl := (hb.cell (World.block_lt_of_cell? _ _ hcl0)).trans hcl0
    clear hb
    go_wp2_with fail
    refine (same_at uo _ ua _ _ _ xs U _ (unhide HUP) rfl rfl (unhide HM) (unhide HU8) (unhide HI8)).mono ?_
    rintro e w9 ⟨rfl, hb⟩
    have HB9 := hide (fr (unhide HB8) hb)
    clear hb
    go_wp2
    go_ret
    exact ⟨rfl, unhide HB9⟩
  · obtain ⟨u1, u2, u3, u4, u5, u6, u7⟩ := up_down (unhide HCB) hq h15
    have HUB := hide u2
    have HUL := hide u3
    have HU4 := hide u4
    have HUM : Hid ((upL xs q).length ≤ maxLen) := hide (by rw [u3]; unfold maxLen; omega)
    have HDN := hide (And.intro u5 u6)
    have HUS := hide u7
    have HUF : Hid (ctF (upL xs q) = 0) := hide (ctF_ok u2)
    have HAT := hide (ctB_at (unhide HCB) q hq)
    have b15 : (xs[q] == 15) = false := by simp [h15]
    have bul : (((upL xs q).length : Int) != 24) = false := by rw [u3]; rfl
    rw [u1]
    clear h15 u1 u2 u3 u4 u5 u6 u7
    generalize upL xs q = U at *
    go_wp2_with fail
    refine (same_at do4 _ da4 _ _ _ xs L4 _ (unhide HDC).2 rfl rfl (unhide HM) (unhide HJ7) (unhide HI7)).mono ?_
    rintro e w8 ⟨rfl, hb⟩
    have HB8 := hide (fr (unhide HB7) hb)
    have HI8 := hide ((unhide HI7).below hb)
    have HU8 := hide ((unhide HU7).below hb)
    have hcl := (hb.cell (World.block_lt_of_cell? _ _ hcl0)).trans hcl0
    clear hb
    go_wp2_with fail
    refine (refDown_impl uo ua U q _ (unhide HUM) (unhide HU8) ((unhide HZ).below (unhide HB8))).mono ?_
    rintro e w9 ⟨v9, rfl, ⟨po, pa, rfl, ho⟩, hb⟩
    have HP9 := hide (ownRN ho)
    have HB9 := hide (fr (unhide HB8) hb)
    have HI9 := hide ((unhide HI8).below hb)
    have HU9 := hide ((unhide HU8).below hb)
    rw [(unhide HDN).1]
    have HPE := hide (unhide HDN).2
    clear hb ho HB8 HI8 HU8 hcl
    generalize dnL U q = D at *
    go_wp2_with fail
    refine (refSum_impl uo ua U _ (unhide HUM) (unhide HU9)).mono ?_
    rintro e w10 ⟨rfl, hb⟩
    rw [unhide HUF, unhide HUS]
    have HP10 := hide ((unhide HP9).below hb)
    have HB10 := hide (fr (unhide HB9) hb)
    have HI10 := hide ((unhide HI9).below hb)
    have HU10 := hide ((unhide HU9).below hb)
    clear hb HP9 HB9 HI9 HU9
    obtain ⟨b2, off2, e2, hc2⟩ := (unhide HI10) q hq
    cases e2
    have hqU : q < U.length := by rw [unhide HUL]; have := unhide H24; omega
    have hUq : U[q] = xs[q] + 1 := by have := unhide HU4; rw [List.getElem?_eq_getElem hqU] at this; exact Option.some.inj this
    obtain ⟨bu, offu, rfl, hcu⟩ := (unhide HU10) q hqU
    rw [hUq] at hcu
    have hqUi : (q : Int) < (U.length : Int) := by omega
    obtain ⟨a0, a1⟩ := unhide HAT
    have hw1 : IntKind.i64.wrap (xs[q] + 1) = xs[q] + 1 := by rw [IntKind.wrap_i64]; omega
    have hw2 : IntKind.i64.wrap (smR xs + 1) = smR xs + 1 := by rw [IntKind.wrap_i64]; omega
    have HCALL : Hid (∀ W, Below w10.heap.size w10 W → Calls Tryd.prog 29 #[.slice po D.length pa, .slice (some ⟨b, off, none⟩) xs.length qa] W fun e w' => e = .returned (.bool true) ∧ Below W.heap.size W w') := hide (fun W hW => same_at po _ pa _ _ _ xs D W (unhide HPE) rfl rfl (unhide HM) ((unhide HP10).below hW) ((unhide HI10).below hW))
    clear hUq
    generalize smR xs = S at *
    generalize xs[q] = X at *
    go_wp2_with fail
    go_region_held3 (fun w' => w'.cell? ⟨b, off + q, none⟩ = some (.int .i64 X) ∧ w'.cell? ⟨bu, offu + q, none⟩ = some (.int .i64 (X + 1))) (go_keep)
      ((go_at_call 29; refine (unhide HCALL _ (by exact (Below.refl _ w10).drew)).mono ?_; rintro e wE ⟨rfl, hb⟩; have HBX := hide hb; have m0 := ((fr (Below.refl _ w10).drew hb).cell (World.block_lt_of_cell? _ _ hc2)).trans hc2; have m1 := ((fr (Below.refl _ w10).drew hb).cell (World.block_lt_of_cell? _ _ hcu)).trans hcu; clear hb))
    all_goals
      go_wp2
      go_ret
      exact ⟨rfl, fr (fr (unhide HB10) (Below.refl _ w10).drew) (unhide HBX)⟩

end Go.Proofs.YtefnapcegeojoabDoor
