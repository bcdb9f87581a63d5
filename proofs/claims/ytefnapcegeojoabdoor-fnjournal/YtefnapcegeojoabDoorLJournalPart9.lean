import Derived.Test.YtefnapcegeojoabDoorRows
import Derived.Test.YtefnapcegeojoabDoorLJournalPart1
import Derived.Test.YtefnapcegeojoabDoorLJournalPart3
import Derived.Test.YtefnapcegeojoabDoorLJournalPart4
import Derived.WalkKit
import Derived.WalkSpells
import Derived.Deep.RegionLawGrows
import Derived.Deep.RegionLaw
import Derived.Deep.AppendLies
import Derived.Test.YtefnapcegeojoabDoorLJournalPart8
import Derived.Test.YtefnapcegeojoabDoorLJournalPart5
import Derived.KernelRfl
import Derived.Deep.RegionHeld3
import Derived.Test.YtefnapcegeojoabDoorLJournalPart6
import Derived.LoopN
import Derived.Lib.SmallJoins
import Derived.BigQuiet
import Derived.Deep.QuietTactic
import Derived.Deep.CutRange
import Derived.Deep.RegionWith
import Derived.Test.YtefnapcegeojoabDoorLJournalPart2

/- Contract of spec.l01Write: the disk with one write more, whose row of writes is new. -/
namespace Go.Proofs.YtefnapcegeojoabDoor
open Go.RowKit
set_option linter.unusedVariables false

theorem write_end {w wL : World} {g k cap : Nat} {cs : List Value} (ho : wL.ownsRow (w.heap.size + 1 + 1 + 1) 108 3 (.slice (some ⟨g, 0, none⟩) k cap) k cs) (hb : Below w.heap.size w wL) (a b c : Value) :
    (((wL.setCell ⟨w.heap.size, 1, none⟩ a).setCell ⟨w.heap.size + 1 + 1, 0, none⟩ b).setCell ⟨w.heap.size + 1 + 1, 1, none⟩ c).ownsRow w.heap.size 108 3 (.slice (some ⟨g, 0, none⟩) k cap) k cs ∧ Below w.heap.size w (((wL.setCell ⟨w.heap.size, 1, none⟩ a).setCell ⟨w.heap.size + 1 + 1, 0, none⟩ b).setCell ⟨w.heap.size + 1 + 1, 1, none⟩ c) :=
  ⟨own_base (ownsRow_setCell_below (ownsRow_setCell_below (ownsRow_setCell_below ho (a := ⟨w.heap.size, 1, none⟩) (by simp; omega) a) (a := ⟨w.heap.size + 1 + 1, 0, none⟩) (by simp) b) (a := ⟨w.heap.size + 1 + 1, 1, none⟩) (by simp) c) (by omega),
    ((hb.setCell (p := ⟨w.heap.size, 1, none⟩) (by simp) a).setCell (p := ⟨w.heap.size + 1 + 1, 0, none⟩) (by simp; omega) b).setCell (p := ⟨w.heap.size + 1 + 1, 1, none⟩) (by simp; omega) c⟩


end Go.Proofs.YtefnapcegeojoabDoor

/- Contracts of impl.seenBy, impl.ReadSector. -/
namespace Go.Proofs.YtefnapcegeojoabDoor
open Go.RowKit
set_option linter.unusedVariables false
set_option maxRecDepth 100000

theorem ret_rs {a b : ByteArray} (h : a = b) : Ending.returned (.string a) = .returned (.string b) := by rw [h]
theorem ret_rd {a b : ByteArray} {c d : Int} (h : a = b) (k : c = d) : Ending.returned (.tuple #[.string a, .int .i64 c]) = .returned (.tuple #[.string b, .int .i64 d]) := by rw [h, k]
theorem no_succ {xs : List Wr} {h a : Int} {k : Nat} (hk : k < xs.length) (hn : ∀ j (hj : j < xs.length), (k : Int) < j → ¬ mat xs[j] h a) (hx : ¬ mat xs[k] h a) : ∀ j (hj : j < xs.length), (k : Int) - 1 < j → ¬ mat xs[j] h a := by
  intro j hj hlt
  by_cases e : j = k
  · subst e; exact hx
  · exact hn j hj (by omega)

set_option maxHeartbeats 1600000 in
theorem seenBy_any (ao bo : Option Addr) (ca cb : Nat) (ss : List ByteArray) (xs : List Wr) (h : Int) (n : Nat) (w : World) (hlx : xs.length ≤ 200) (hn : n < ss.length) (hq : ss.length ≤ 1048576) (h1 : Ss w ao ss) (h2 : Ios w bo xs) :
    Calls Tryd.prog 75 #[.agg #[.slice ao ss.length ca, .slice bo xs.length cb], .int .i64 h, .int .i64 n] w fun e w' => e = .returned (.string (readV ss xs h n)) ∧ Below w.heap.size w w' := by
  have HA := hide (Joins.below_alloc1 w (.cells #[.slice ao ss.length ca, .slice bo xs.length cb] 32))
  have H1' := hide (h1.below (unhide HA))
  have H2' := hide (h2.below (unhide HA))
  have hc0 : (w.alloc (.cells #[.slice ao ss.length ca, .slice bo xs.length cb] 32)).cell? ⟨w.heap.size, 0, none⟩ = some (.slice ao ss.length ca) := by simp [go_sem]
  have hc1 : (w.alloc (.cells #[.slice ao ss.length ca, .slice bo xs.length cb] 32)).cell? ⟨w.heap.size, 1, none⟩ = some (.slice bo xs.length cb) := by simp [go_sem]
  have HC0 := hide hc0
  have HC1 := hide hc1
  have hlt : w.heap.size < (w.alloc (.cells #[.slice ao ss.length ca, .slice bo xs.length cb] 32)).heap.size := by simp
  clear h1 h2 hc0 hc1
  go_enter Tryd.func75, Tryd.ntmps75
  go_wp2
  revert HA H1' H2' HC0 HC1 hlt
  generalize w.alloc (.cells #[.slice ao ss.length ca, .slice bo xs.length cb] 32) = w1
  intro HA H1' H2' HC0 HC1 hlt
  go_loopw [7, 8] (fun i _ wr => ∃ m : Int, i = .int .i64 m ∧ -1 ≤ m ∧ m < xs.length ∧ Hid (∀ j (hj : j < xs.length), m < j → ¬ mat xs[j] h n) ∧ Hid (Below w1.heap.size w1 wr)) (fun i _ _ => (intOf i + 1).toNat)
  case atStart => exact ⟨_, rfl, by omega, by omega, hide (fun j hj hlt => by omega), hide (Below.refl _ _)⟩
  case round =>
    obtain ⟨m, rfl, hm0, hm1, HN, HB⟩ := hrel
    have hc0 : wr.cell? ⟨w.heap.size, 0, none⟩ = some (.slice ao ss.length ca) := ((unhide HB).cell (World.block_lt_of_cell? _ _ (unhide HC0))).trans (unhide HC0)
    have hc1 : wr.cell? ⟨w.heap.size, 1, none⟩ = some (.slice bo xs.length cb) := ((unhide HB).cell (World.block_lt_of_cell? _ _ (unhide HC1))).trans (unhide HC1)
    by_cases hge : 0 ≤ m
    · obtain ⟨k, rfl⟩ := Int.eq_ofNat_of_zero_le hge
      have hk : k < xs.length := by omega
      obtain ⟨b, off, rfl, hd0, hd1, hd2, hz⟩ := (unhide H2').below (unhide HB) k hk
      clear hz
      have HBA := hide (fun o => (unhide HB).alloc (unhide HB).size o)
      by_cases e0 : xs[k].host = h
      · have b0 : (xs[k].host == h) = true := by simp [e0]
        by_cases e1 : xs[k].at_ = n
        · have b1 : (xs[k].at_ == (n : Int)) = true := by simp [e1]
          have H := hide (readV_hit (ss := ss) hk ⟨e0, e1⟩ (fun j hj hlt => unhide HN j hj (by omega)))
          clear e0 e1
          go_wp2
          go_ret
          exact ⟨ret_rs (unhide H).symm, fr (unhide HA) (unhide HBA _)⟩
        · have b1 : (xs[k].at_ == (n : Int)) = false := by simp [e1]
          have HX := hide (no_succ hk (unhide HN) (fun hx => e1 hx.2))
          clear e0 e1
          go_wp2
          go_roundw
          case rel => exact ⟨_, rfl, by omega, by omega, HX, hide (unhide HBA _)⟩
          case measure => simp [intOf]
      · have b0 : (xs[k].host == h) = false := by simp [e0]
        have HX := hide (no_succ hk (unhide HN) (fun hx => e0 hx.1))
        clear e0
        go_wp2
        go_roundw
        case rel => exact ⟨_, rfl, by omega, by omega, HX, hide (unhide HBA _)⟩
        case measure => simp [intOf]
    · obtain ⟨b, off, rfl, hc, hz⟩ := (unhide H1').below (unhide HB) n hn
      clear hz
      have hg : ss.getD ((n : Int).toNat) ⟨#[]⟩ = ss[n] := by simp [List.getD, hn]
      have H := hide ((readV_none (ss := ss) (fun j hj => unhide HN j hj (by omega))).trans hg)
      clear hg
      go_wp2
      go_ret
      exact ⟨ret_rs (unhide H).symm, fr (unhide HA) (unhide HB)⟩

end Go.Proofs.YtefnapcegeojoabDoor

/- Contracts of ReadSector, of the program and of its model. -/
namespace Go.Proofs.YtefnapcegeojoabDoor
open Go.RowKit
set_option linter.unusedVariables false
set_option maxRecDepth 100000

set_option maxHeartbeats 1600000 in
theorem l01Read_any (ao bo : Option Addr) (ca cb : Nat) (ss : List ByteArray) (xs : List Wr) (h : Int) (a : Nat) (w : World) (ha : a < ss.length) (hs : ss.length ≤ 1048576) (hm : xs.length ≤ maxLen) (h1 : Ss w ao ss) (h2 : Ios w bo xs) :
    Calls Tryd.prog 112 #[.agg #[.slice ao ss.length ca, .slice bo xs.length cb], .int .i64 h, .int .i64 a] w fun e w' => e = .returned (.string (readV ss xs h a)) ∧ Below w.heap.size w w' := by
  have HA := hide (Joins.below_alloc1 w (.cells #[.slice ao ss.length ca, .slice bo xs.length cb] 32))
  have H1 := hide (h1.below (unhide HA))
  have H2 := hide (h2.below (unhide HA))
  clear h1 h2
  unfold maxLen at hm
  go_enter Tryd.func112, Tryd.ntmps112
  go_wp2
  go_loop [7] (fun i => ∃ m : Int, i = .int .i64 m ∧ -1 ≤ m ∧ m < xs.length ∧ Hid (∀ j (hj : j < xs.length), m < j → ¬ mat xs[j] h a)) (fun i => (intOf i + 1).toNat)
  case atStart => exact ⟨_, rfl, by omega, by omega, hide (fun j hj hlt => by omega)⟩
  case round =>
    obtain ⟨m, rfl, hm0, hm1, HN⟩ := hrel
    by_cases hge : 0 ≤ m
    · obtain ⟨k, rfl⟩ := Int.eq_ofNat_of_zero_le hge
      have hk : k < xs.length := by omega
      obtain ⟨b, off, rfl, hc0, hc1, hc2, hz⟩ := unhide H2 k hk
      clear hz
      by_cases e0 : xs[k].host = h
      · have b0 : (xs[k].host == h) = true := by simp [e0]
        by_cases e1 : xs[k].at_ = a
        · have b1 : (xs[k].at_ == (a : Int)) = true := by simp [e1]
          have H := hide (readV_hit (ss := ss) hk ⟨e0, e1⟩ (fun j hj hlt => unhide HN j hj (by omega)))
          clear e0 e1
          go_wp2
          go_ret
          exact ⟨ret_rs (unhide H).symm, unhide HA⟩
        · have b1 : (xs[k].at_ == (a : Int)) = false := by simp [e1]
          have HX := hide (no_succ hk (unhide HN) (fun hx => e1 hx.2))
          clear e0 e1
          go_wp2
          go_round
          case rel => exact ⟨_, rfl, by omega, by omega, HX⟩
          case measure => simp [intOf]
      · have b0 : (xs[k].host == h) = false := by simp [e0]
        have HX := hide (no_succ hk (unhide HN) (fun hx => e0 hx.1))
        clear e0
        go_wp2
        go_round
        case rel => exact ⟨_, rfl, by omega, by omega, HX⟩
        case measure => simp [intOf]
    · obtain ⟨b, off, rfl, hc, hz⟩ := unhide H1 a ha
      clear hz
      have hg : ss.getD ((a : Int).toNat) ⟨#[]⟩ = ss[a] := by simp [List.getD, ha]
      have H := hide ((readV_none (ss := ss) (fun j hj => unhide HN j hj (by omega))).trans hg)
      clear hg
      go_wp2
      go_ret
      exact ⟨ret_rs (unhide H).symm, unhide HA⟩

end Go.Proofs.YtefnapcegeojoabDoor

/- Contracts of spec's generations on a disk: l04Read, l04Room, l04Put. -/
namespace Go.Proofs.YtefnapcegeojoabDoor
open Go.RowKit
set_option linter.unusedVariables false
set_option maxRecDepth 100000

theorem ret_dd {a b c a' b' c' : Int} (h1 : a = a') (h2 : b = b') (h3 : c = c') : Ending.returned (dltV a b c) = .returned (dltV a' b' c') := by rw [h1, h2, h3]

/-- What l04Room answers. -/
def roomC (ss : List ByteArray) (xs : List Wr) (h now : Int) : Int := if hostC ss xs h = 0 then (if inB now 0 10000000 = true then (if xs.length = 200 then 7 else 0) else 4) else hostC ss xs h
theorem room_ask {ss : List ByteArray} {xs : List Wr} {h now : Int} (e : hostC ss xs h ≠ 0) : roomC ss xs h now = hostC ss xs h := if_neg e
theorem room_now {ss : List ByteArray} {xs : List Wr} {h now : Int} (e : hostC ss xs h = 0) (e1 : inB now 0 10000000 = false) : roomC ss xs h now = 4 := by simp [roomC, e, e1]
theorem room_full {ss : List ByteArray} {xs : List Wr} {h now : Int} (e : hostC ss xs h = 0) (e1 : inB now 0 10000000 = true) (e2 : xs.length = 200) : roomC ss xs h now = 7 := by simp [roomC, e, e1, e2]
theorem room_ok {ss : List ByteArray} {xs : List Wr} {h now : Int} (e : hostC ss xs h = 0) (e1 : inB now 0 10000000 = true) (e2 : ¬ xs.length = 200) : roomC ss xs h now = 0 := by simp [roomC, e, e1, e2]
theorem room_eq {ss : List ByteArray} {xs : List Wr} {h now : Int} (e : roomC ss xs h now = 0) : hostC ss xs h = 0 ∧ (0 ≤ now ∧ now ≤ 10000000) ∧ xs.length < 200 := by
  by_cases e0 : hostC ss xs h = 0
  · by_cases e1 : inB now 0 10000000 = true
    · by_cases e2 : xs.length = 200
      · rw [room_full e0 e1 e2] at e; cases e
      · have := (diskB_len (hostC_eq e0).1).2
        refine ⟨e0, by simpa [inB] using e1, by omega⟩
    · rw [Bool.not_eq_true] at e1
      rw [room_now e0 e1] at e; cases e
  · rw [room_ask e0] at e; exact absurd e e0
theorem ret_i {a b : Int} (h : a = b) : Ending.returned (.int .i64 a) = .returned (.int .i64 b) := by rw [h]

/-- The disk behind a write of a generation that is sure. -/
def dwr (h g s : Int) : Wr := ⟨h, 5 + h, encD h g s⟩
def pS (ss : List ByteArray) (xs : List Wr) (h g s : Int) : List ByteArray := putW ss (ofH h (xs ++ [dwr h g s]))
def pX (xs : List Wr) (h g s : Int) : List Wr := dropF h (xs ++ [dwr h g s])
theorem dwr_io {h g s : Int} (h0 : 0 ≤ h) (h3 : h ≤ 3) : ioB (dwr h g s) = true := ioB_parts.2 ⟨⟨h0, h3⟩, ⟨by show 0 ≤ 5 + h; omega, by show 5 + h ≤ 63; omega⟩, by show (encD h g s).size ≤ 80; rw [encD_size]; decide⟩
theorem put_right {ss : List ByteArray} {xs : List Wr} {h g s : Int} (hd : diskB ss xs = true) (hl : xs.length < 200) (h0 : 0 ≤ h) (h3 : h ≤ 3) : diskB ss (xs ++ [dwr h g s]) = true := diskB_snoc hd hl (dwr_io h0 h3)
theorem put_land {ss : List ByteArray} {xs : List Wr} {h : Int} (hl : xs.length ≤ 200) : (landF h false ss xs 200).1 = putW ss (ofH h xs) ∧ (landF h false ss xs 200).2.1 = dropF h xs := by
  have hc : (ofH h xs).length ≤ 200 := Nat.le_trans (List.length_filter_le _ _) hl
  obtain ⟨p1, p2⟩ := landF_put h ss xs 200
  have p1' : (landF h false ss xs 200).1 = putW ss ((ofH h xs).take 200) := p1
  have p2' : (landF h false ss xs 200).2.1 = remH h 200 xs := p2
  rw [List.take_of_length_le hc] at p1'
  rw [rem_all 200 xs hc] at p2'
  exact ⟨p1', p2'⟩
theorem pS_right {ss : List ByteArray} {xs : List Wr} {h g s : Int} (hd : diskB ss xs = true) (hl : xs.length < 200) (h0 : 0 ≤ h) (h3 : h ≤ 3) : diskB (pS ss xs h g s) (pX xs h g s) = true :=
  diskB_put (put_right (g := g) (s := s) hd hl h0 h3) (fun x hx => of_mem hx) (fun x hx => drop_mem hx) (drop_le h _)
theorem pS_len (ss : List ByteArray) (xs : List Wr) (h g s : Int) : (pS ss xs h g s).length = ss.length := put_len _ _

theorem rightX {ss : List ByteArray} {xs : List Wr} (hd : diskB ss xs = true) : ∀ x ∈ xs, x.data.size ≤ maxLen := fun x hx => Nat.le_trans (ioB_parts.1 ((diskB_parts.1 hd).2.2 x hx)).2.2 (by decide)
end Go.Proofs.YtefnapcegeojoabDoor

/- Contracts of spec's moves: l07Move, l07Do, MovesDo. -/
namespace Go.Proofs.YtefnapcegeojoabDoor
open Go.RowKit
set_option linter.unusedVariables false
set_option maxRecDepth 100000

abbrev wV (x : Wr) : Value := .agg #[.int .i64 x.host, .int .i64 x.at_, .string x.data]
theorem text_none {t : ByteArray} : t.toList.isEmpty = decide (t.size = 0) := by
  by_cases h : t.size = 0
  · obtain rfl := bytes0 h; rw [ByteArray.toList_eq]; rfl
  · rw [text_full h, decide_eq_false h]

end Go.Proofs.YtefnapcegeojoabDoor

/- Contract of spec's MovesDo. -/
namespace Go.Proofs.YtefnapcegeojoabDoor
open Go.RowKit
set_option linter.unusedVariables false
set_option maxRecDepth 100000

theorem ret_md {po qo : Option Addr} {n n' m m' pa qa : Nat} {c c' : Int} (h1 : n = n') (h2 : m = m') (h3 : c = c') : Ending.returned (.tuple #[.agg #[.slice po n pa, .slice qo m qa], .int .i64 c]) = Ending.returned (.tuple #[.agg #[.slice po n' pa, .slice qo m' qa], .int .i64 c']) := by rw [h1, h2, h3]
/-- The end of a call that lays its answer into the variable R. -/
theorem md_end {w W : World} {R n m pa qa : Nat} {po qo : Option Addr} {SS : List ByteArray} {XX : List Wr} (hR : VarD W R (.slice none 0 0) (.slice none 0 0)) (hb : Below w.heap.size w W) (hr : w.heap.size ≤ R) (ho : OwnD W w.heap.size po n pa qo m qa SS XX) (u v : Value) :
    OwnD ((W.setCell ⟨R, 0, none⟩ u).setCell ⟨R, 1, none⟩ v) w.heap.size po n pa qo m qa SS XX ∧ Below w.heap.size w ((W.setCell ⟨R, 0, none⟩ u).setCell ⟨R, 1, none⟩ v) :=
  ⟨ho.keep (((Keep.refl (fun j => j = R) W).setCell (p := ⟨R, 0, none⟩) rfl u).setCell (p := ⟨R, 1, none⟩) rfl v) (fun g hg e => ho.other hR (by decide) (by decide) (e ▸ hg)), below2 hb hr 0 1 u v⟩

end Go.Proofs.YtefnapcegeojoabDoor

/- Contracts of the program's moves: moveOK, movesOK, doneBy, MovesDo. -/
namespace Go.Proofs.YtefnapcegeojoabDoor
open Go.RowKit
set_option linter.unusedVariables false
set_option maxRecDepth 100000

set_option maxHeartbeats 1600000 in
theorem moveOK_any (m : Wr) (w : World) (hz : m.data.size ≤ maxLen) : Calls Tryd.prog 96 #[wV m] w fun e w' => e = .returned (.bool (mvB m)) ∧ Below w.heap.size w w' := by
  unfold maxLen at hz
  obtain ⟨k, a, d⟩ := m
  by_cases h1 : k = 1
  · subst h1
    have HE : Hid (mvB ⟨1, a, d⟩ = (inB a 0 63 && decide ((d.size : Int) ≤ 80))) := hide (by
      have e : decide (d.size ≤ 80) = decide ((d.size : Int) ≤ 80) := by rw [decide_eq_decide]; omega
      simp only [mvB, if_true]; rw [e])
    go_enter Tryd.func96, Tryd.ntmps96
    go_wp2_with fail
    refine (placeOK_any a _).mono ?_
    rintro e w1 ⟨rfl, rfl⟩
    by_cases h2 : inB a 0 63 = false
    · go_wp2
      go_ret
      rw [unhide HE, h2]
      exact ⟨rfl, Joins.below_alloc1 _ _⟩
    rw [Bool.not_eq_false] at h2
    go_wp2
    go_ret
    rw [unhide HE, h2]
    exact ⟨rfl, Joins.below_alloc1 _ _⟩
  · have h1b : (k == 1) = false := by simp [h1]
    by_cases h2 : k = 2
    · subst h2
      have HE : Hid (mvB ⟨2, a, d⟩ = (decide (a = 0) && decide (d.size = 0))) := hide (by simp [mvB])
      by_cases h3 : a = 0
      · subst h3
        by_cases h4 : d.size = 0
        · obtain rfl := bytes0 h4
          clear h4
          go_enter Tryd.func96, Tryd.ntmps96
          go_wp2
          go_ret
          rw [unhide HE]
          exact ⟨rfl, Joins.below_alloc1 _ _⟩
        · have h4b := text_full h4
          have HE2 : Hid (mvB ⟨2, 0, d⟩ = false) := hide (by rw [unhide HE, decide_eq_false h4]; simp)
          clear h4 HE
          go_enter Tryd.func96, Tryd.ntmps96
          go_wp2
          go_ret
          rw [unhide HE2]
          exact ⟨rfl, Joins.below_alloc1 _ _⟩
      · have h3b : (a == 0) = false := by simp [h3]
        have HE2 : Hid (mvB ⟨2, a, d⟩ = false) := hide (by rw [unhide HE, decide_eq_false h3]; simp)
        clear h3
        go_enter Tryd.func96, Tryd.ntmps96
        go_wp2
        all_goals
          go_ret
          rw [unhide HE2]
          exact ⟨rfl, Joins.below_alloc1 _ _⟩
    · have h2b : (k == 2) = false := by simp [h2]
      have HE : Hid (mvB ⟨k, a, d⟩ = false) := hide (by simp [mvB, h1, h2])
      clear h1 h2
      go_enter Tryd.func96, Tryd.ntmps96
      go_wp2
      all_goals
        go_ret
        rw [unhide HE]
        exact ⟨rfl, Joins.below_alloc1 _ _⟩

set_option maxHeartbeats 1600000 in
theorem movesOK_any (mo : Option Addr) (mc : Nat) (ms : List Wr) (w : World) (hn : ms.length ≤ 4096) (h3 : Ios w mo ms) : Calls Tryd.prog 55 #[.slice mo ms.length mc] w fun e w' => e = .returned (.bool (msB ms)) ∧ Below w.heap.size w w' := by
  have HM := hide h3
  clear h3
  go_enter Tryd.func55, Tryd.ntmps55
  go_wp2
  go_loopw [7] (fun i wr => ∃ (k : Nat), k ≤ ms.length ∧ i = .int .i64 k ∧ Hid (∀ j (h : j < ms.length), j < k → mvB ms[j] = true) ∧ Hid (Below w.heap.size w wr)) (fun i _ => ms.length - (intOf i).toNat)
  case atStart => exact ⟨0, Nat.zero_le _, rfl, hide (fun j h hj => by omega), hide (Below.refl _ _)⟩
  case round =>
    obtain ⟨k, hk, rfl, HP, HB⟩ := hrel
    by_cases hlt : k < ms.length
    · obtain ⟨b, off, rfl, hc0, hc1, hc2, hcz⟩ := (unhide HM).below (unhide HB) k hlt
      have HZk := hide hcz
      clear hcz
      go_wp2_with fail
      refine (moveOK_any ms[k] _ (unhide HZk)).mono ?_
      rintro e w2 ⟨rfl, hb⟩
      have HB2 := hide (fr (belowAl (unhide HB) _) hb)
      clear hb
      by_cases hp : mvB ms[k] = true
      · have HPP := hide (all_succ hlt (unhide HP) hp)
        go_wp2
        go_roundw
        case rel => exact ⟨k + 1, by omega, by go_num, HPP, HB2⟩
        case measure => simp [intOf]; omega
      · rw [Bool.not_eq_true] at hp
        have HF : Hid (msB ms = false) := hide (all_not hlt hp)
        go_wp2
        go_ret
        exact ⟨ret_bool (unhide HF).symm, unhide HB2⟩
    · have HF : Hid (msB ms = true) := hide (all_of (fun i hi _ => unhide HP i hi (by omega)))
      go_wp2
      go_ret
      exact ⟨ret_bool (unhide HF).symm, unhide HB⟩

set_option maxHeartbeats 3200000 in
theorem doneBy_any (m : Wr) (ao bo : Option Addr) (ca cb : Nat) (ss : List ByteArray) (xs : List Wr) (h : Int) (S : List ByteArray) (X : List Wr) (w : World) (hSX : dm1 h (ss, xs) m = (S, X)) (hh : 0 ≤ h ∧ h ≤ 3) (hd : diskB ss xs = true) (hl : xs.length < 200) (hm : mvB m = true) (h1 : Ss w ao ss) (h2 : Ios w bo xs) :
    Calls Tryd.prog 57 #[wV m, .agg #[.slice ao ss.length ca, .slice bo xs.length cb], .int .i64 h] w fun e w' => ∃ po pa qo qa, e = .returned (.agg #[.slice po S.length pa, .slice qo X.length qa]) ∧ OwnD w' w.heap.size po S.length pa qo X.length qa S X ∧ Below w.heap.size w w' := by
  obtain ⟨hh0, hh3⟩ := hh
  have HA := hide (Joins.below_alloc3 w (.cells #[.int .i64 m.host, .int .i64 m.at_, .string m.data] 76) (.cells #[.slice ao ss.length ca, .slice bo xs.length cb] 32) (.cells #[.slice none 0 0, .slice none 0 0] 32))
  have HV : Hid (VarD (((w.alloc (.cells #[.int .i64 m.host, .int .i64 m.at_, .string m.data] 76)).alloc (.cells #[.slice ao ss.length ca, .slice bo xs.length cb] 32)).alloc (.cells #[.slice none 0 0, .slice none 0 0] 32)) (w.heap.size + 1) (.slice ao ss.length ca) (.slice bo xs.length cb)) := hide (VarD.below (by have := VarD.new (w.alloc (.cells #[.int .i64 m.host, .int .i64 m.at_, .string m.data] 76)) (.slice ao ss.length ca) (.slice bo xs.length cb); simp only [World.size_alloc] at this; exact this) (Joins.below_alloc1 _ _))
  have HR : Hid (VarD (((w.alloc (.cells #[.int .i64 m.host, .int .i64 m.at_, .string m.data] 76)).alloc (.cells #[.slice ao ss.length ca, .slice bo xs.length cb] 32)).alloc (.cells #[.slice none 0 0, .slice none 0 0] 32)) (w.heap.size + 1 + 1) (.slice none 0 0) (.slice none 0 0)) := hide (by have := VarD.new ((w.alloc (.cells #[.int .i64 m.host, .int .i64 m.at_, .string m.data] 76)).alloc (.cells #[.slice ao ss.length ca, .slice bo xs.length cb] 32)) (.slice none 0 0) (.slice none 0 0); simp only [World.size_alloc] at this; exact this)
  have H1 := hide (h1.below (unhide HA))
  have H2 := hide (h2.below (unhide HA))
  have HD := hide hd
  have HMB := hide hm
  have HEND : Hid (∀ W po pa qo qa, OwnD W w.heap.size po S.length pa qo X.length qa S X → Below w.heap.size w W → VarD W (w.heap.size + 1) (.slice ao ss.length ca) (.slice bo xs.length cb) → VarD W (w.heap.size + 1 + 1) (.slice none 0 0) (.slice none 0 0) → ∀ a b c d, OwnD ((((W.setCell ⟨w.heap.size + 1, 0, none⟩ a).setCell ⟨w.heap.size + 1, 1, none⟩ b).setCell ⟨w.heap.size + 1 + 1, 0, none⟩ c).setCell ⟨w.heap.size + 1 + 1, 1, none⟩ d) w.heap.size po S.length pa qo X.length qa S X ∧ Below w.heap.size w ((((W.setCell ⟨w.heap.size + 1, 0, none⟩ a).setCell ⟨w.heap.size + 1, 1, none⟩ b).setCell ⟨w.heap.size + 1 + 1, 0, none⟩ c).setCell ⟨w.heap.size + 1 + 1, 1, none⟩ d)) := hide (fun W po pa qo qa ho hb hv hr a b c d =>
    ⟨ho.keep (((((Keep.refl (fun j => j = w.heap.size + 1 ∨ j = w.heap.size + 1 + 1) W).setCell (p := ⟨w.heap.size + 1, 0, none⟩) (.inl rfl) a).setCell (p := ⟨w.heap.size + 1, 1, none⟩) (.inl rfl) b).setCell (p := ⟨w.heap.size + 1 + 1, 0, none⟩) (.inr rfl) c).setCell (p := ⟨w.heap.size + 1 + 1, 1, none⟩) (.inr rfl) d) (fun g hg e => by
        rcases e with e | e
        · exact ho.other hv (by decide) (by decide) (e ▸ hg)
        · exact ho.other hr (by decide) (by decide) (e ▸ hg)),
      below2 (g := w.heap.size + 1 + 1) (below2 (g := w.heap.size + 1) hb (by omega) 0 1 a b) (by omega) 0 1 c d⟩)
  clear h1 h2 hd hm
  by_cases hf : m.host = 2
  · have hfb : (m.host == 2) = true := by simp [hf]
    have hst := dm1_flush (h := h) (S := ss) (X := xs) hf
    rw [hSX] at hst
    obtain ⟨eS, eX⟩ : putW ss (ofH h xs) = S ∧ dropF h xs = X := by cases hst; exact ⟨rfl, rfl⟩
    have HS := hide eS
    have HX := hide eX
    clear hst hSX hf eS eX
    go_enter Tryd.func57, Tryd.ntmps57
    go_wp2_with fail
    refine (flush_own ao bo ca cb ss xs h S X _ (unhide HS) (unhide HX) (unhide HD) hh0 hh3 (unhide H1) (unhide H2)).mono ?_
    rintro e w2 ⟨po, pa, qo, qa, rfl, ho, hb⟩
    have HB := hide (fr (unhide HA) hb)
    have HO := hide (ho.base (unhide HA).size)
    have HV2 := hide ((unhide HV).below hb)
    have HR2 := hide ((unhide HR).below hb)
    clear ho hb
    obtain ⟨v0, v1⟩ := (unhide HV2).cells
    have vf0 := (unhide HV2).free 0
    have vf1 := (unhide HV2).free 1
    obtain ⟨r0, r1⟩ := (unhide HR2).cells
    have rf0 := (unhide HR2).free 0
    have rf1 := (unhide HR2).free 1
    have HF := hide (unhide HEND w2 po pa qo qa (unhide HO) (unhide HB) (unhide HV2) (unhide HR2))
    go_wp2
    exact bodyPost_ret (v := .agg #[.slice po S.length pa, .slice qo X.length qa]) (by simp [results, Tryd.results57, go_sem, r0, r1]) rfl ⟨po, pa, qo, qa, rfl, unhide HF _ _ _ _⟩
  · have hfb : (m.host == 2) = false := by simp [hf]
    have hst := dm1_write (h := h) (S := ss) (X := xs) hf
    rw [hSX] at hst
    obtain ⟨eS, eX⟩ : ss = S ∧ xs ++ [(⟨h, m.at_, m.data⟩ : Wr)] = X := by cases hst; exact ⟨rfl, rfl⟩
    obtain ⟨p1, p2⟩ := mvB_write (unhide HMB) hf
    have HX := hide eX
    subst eS
    clear hst hSX hf eX
    go_enter Tryd.func57, Tryd.ntmps57
    go_wp2_with fail
    refine (write_own ao bo ca cb ss xs h m.at_ m.data X _ (unhide HX) (unhide HD) hl p2 hh0 hh3 p1.1 p1.2 (unhide H1) (unhide H2)).mono ?_
    rintro e w2 ⟨po, pa, qo, qa, rfl, ho, hb⟩
    have HB := hide (fr (unhide HA) hb)
    have HO := hide (ho.base (unhide HA).size)
    have HV2 := hide ((unhide HV).below hb)
    have HR2 := hide ((unhide HR).below hb)
    clear ho hb
    obtain ⟨v0, v1⟩ := (unhide HV2).cells
    have vf0 := (unhide HV2).free 0
    have vf1 := (unhide HV2).free 1
    obtain ⟨r0, r1⟩ := (unhide HR2).cells
    have rf0 := (unhide HR2).free 0
    have rf1 := (unhide HR2).free 1
    have HF := hide (unhide HEND w2 po pa qo qa (unhide HO) (unhide HB) (unhide HV2) (unhide HR2))
    go_wp2
    exact bodyPost_ret (v := .agg #[.slice po ss.length pa, .slice qo X.length qa]) (by simp [results, Tryd.results57, go_sem, r0, r1]) rfl ⟨po, pa, qo, qa, rfl, unhide HF _ _ _ _⟩

end Go.Proofs.YtefnapcegeojoabDoor

/- Contract of the program's MovesDo. -/
namespace Go.Proofs.YtefnapcegeojoabDoor
open Go.RowKit
set_option linter.unusedVariables false
set_option maxRecDepth 100000

/-- An owned disk beside a variable that is written. -/
theorem own_beside {W : World} {B n pa m qa x : Nat} {po qo : Option Addr} {SS : List ByteArray} {XX : List Wr} {a b : Value} (ho : OwnD W B po n pa qo m qa SS XX) (hv : VarD W x a b) (u v : Value) : OwnD ((W.setCell ⟨x, 0, none⟩ u).setCell ⟨x, 1, none⟩ v) B po n pa qo m qa SS XX :=
  ho.keep (((Keep.refl (fun j => j = x) W).setCell (p := ⟨x, 0, none⟩) rfl u).setCell (p := ⟨x, 1, none⟩) rfl v) (fun g hg e => ho.other hv (by decide) (by decide) (e ▸ hg))

set_option maxHeartbeats 3200000 in
theorem movesDo_impl (ao bo : Option Addr) (ca cb : Nat) (ss : List ByteArray) (xs : List Wr) (h : Int) (mo : Option Addr) (mc : Nat) (ms : List Wr) (w : World) (hl : ss.length ≤ 1048576) (hm : xs.length ≤ 1048576) (hn : ms.length ≤ 1048576) (h1 : Ss w ao ss) (h2 : Ios w bo xs) (h3 : Ios w mo ms) :
    Calls Tryd.prog 19 #[.agg #[.slice ao ss.length ca, .slice bo xs.length cb], .int .i64 h, .slice mo ms.length mc] w fun e w' => ∃ po pa qo qa, e = .returned (.tuple #[.agg #[.slice po (mdS ss xs h ms).length pa, .slice qo (mdX ss xs h ms).length qa], .int .i64 (mdC ss xs h ms)]) ∧ OwnD w' w.heap.size po (mdS ss xs h ms).length pa qo (mdX ss xs h ms).length qa (mdS ss xs h ms) (mdX ss xs h ms) ∧ Below w.heap.size w w' := by
  have HA := hide (Joins.below_alloc2 w (.cells #[.slice ao ss.length ca, .slice bo xs.length cb] 32) (.cells #[.slice none 0 0, .slice none 0 0] 32))
  have HR : Hid (VarD ((w.alloc (.cells #[.slice ao ss.length ca, .slice bo xs.length cb] 32)).alloc (.cells #[.slice none 0 0, .slice none 0 0] 32)) (w.heap.size + 1) (.slice none 0 0) (.slice none 0 0)) := hide (by have := VarD.new (w.alloc (.cells #[.slice ao ss.length ca, .slice bo xs.length cb] 32)) (.slice none 0 0) (.slice none 0 0); simp only [World.size_alloc] at this; exact this)
  have HV := hide ((VarD.new w (.slice ao ss.length ca) (.slice bo xs.length cb)).below (Joins.below_alloc1 _ (.cells #[.slice none 0 0, .slice none 0 0] 32)))
  have H1 := hide (h1.below (unhide HA))
  have H2 := hide (h2.below (unhide HA))
  have HM := hide h3
  have HL : Hid (ss.length ≤ maxLen) := hide (by unfold maxLen; omega)
  have HX : Hid (xs.length ≤ maxLen) := hide (by unfold maxLen; omega)
  have HZ : Hid (∀ c, (mdC ss xs h ms = c ∧ mdS ss xs h ms = [] ∧ mdX ss xs h ms = []) → ∀ W, VarD W (w.heap.size + 1) (.slice none 0 0) (.slice none 0 0) → Below w.heap.size w W → ∀ u v, ∃ po pa qo qa, Ending.returned (.tuple #[.agg #[.slice none 0 0, .slice none 0 0], .int .i64 c]) = .returned (.tuple #[.agg #[.slice po (mdS ss xs h ms).length pa, .slice qo (mdX ss xs h ms).length qa], .int .i64 (mdC ss xs h ms)]) ∧ OwnD ((W.setCell ⟨w.heap.size + 1, 0, none⟩ u).setCell ⟨w.heap.size + 1, 1, none⟩ v) w.heap.size po (mdS ss xs h ms).length pa qo (mdX ss xs h ms).length qa (mdS ss xs h ms) (mdX ss xs h ms) ∧ Below w.heap.size w ((W.setCell ⟨w.heap.size + 1, 0, none⟩ u).setCell ⟨w.heap.size + 1, 1, none⟩ v)) := hide (fun c ⟨e1, e2, e3⟩ W hR hb u v => by
    rw [e1, e2, e3]
    obtain ⟨o1, o2⟩ := md_end hR hb (Nat.le_succ _) (zeroD_own (w := W) (B := w.heap.size)) u v
    exact ⟨none, 0, none, 0, rfl, o1, o2⟩)
  clear h1 h2 h3
  obtain ⟨r0, r1⟩ := (unhide HR).cells
  have rf0 := (unhide HR).free 0
  have rf1 := (unhide HR).free 1
  by_cases hlong : 4096 < ms.length
  · have HE := hide (md_long (ss := ss) (xs := xs) (h := h) hlong)
    go_enter Tryd.func19, Tryd.ntmps19
    go_wp2
    refine bodyPost_ret (v := .tuple #[.agg #[.slice none 0 0, .slice none 0 0], .int .i64 2]) (by simp [results, Tryd.results19, go_sem, r0, r1]) rfl ?_
    first
      | exact unhide HZ 2 (unhide HE) _ (unhide HR) (unhide HA) _ _
      | (rw [(unhide HE).1, (unhide HE).2.1, (unhide HE).2.2]; exact ⟨none, 0, none, 0, rfl, zeroD_own, unhide HA⟩)
  clear r0 r1 rf0 rf1
  go_enter Tryd.func19, Tryd.ntmps19
  go_wp2_with fail
  refine (hostFault_any ao bo ca cb ss xs h _ (unhide HL) (unhide HX) (unhide H1) (unhide H2)).mono ?_
  rintro e W1 ⟨rfl, hb⟩
  have HB1 := hide (fr (unhide HA) hb)
  have HR1 := hide ((unhide HR).below hb)
  have HV1 := hide ((unhide HV).below hb)
  have H11 := hide ((unhide H1).below hb)
  have H21 := hide ((unhide H2).below hb)
  clear hb HR HV H1 H2
  by_cases e0 : hostC ss xs h = 0
  case neg =>
    have e0b : (hostC ss xs h != 0) = true := by simp [e0]
    have HE := hide (md_host (ms := ms) hlong e0)
    obtain ⟨r0, r1⟩ := (unhide HR1).cells
    have rf0 := (unhide HR1).free 0
    have rf1 := (unhide HR1).free 1
    clear e0
    go_wp2
    refine bodyPost_ret (v := .tuple #[.agg #[.slice none 0 0, .slice none 0 0], .int .i64 (hostC ss xs h)]) (by simp [results, Tryd.results19, go_sem, r0, r1]) rfl ?_
    exact unhide HZ _ (unhide HE) _ (unhide HR1) (unhide HB1) _ _
  have e0b : (hostC ss xs h != 0) = false := by simp [e0]
  obtain ⟨hd, hh0, hh3⟩ := hostC_eq e0
  obtain ⟨hd1, hd2⟩ := diskB_len hd
  have HD := hide hd
  have HE0 := hide e0
  clear hd hd1 e0
  have hms : ms.length ≤ 4096 := by omega
  go_wp2_with fail
  refine (movesOK_any mo mc ms _ hms ((unhide HM).below (unhide HB1))).mono ?_
  rintro e W2 ⟨rfl, hb⟩
  have HB2 := hide (fr (unhide HB1) hb)
  have HR2 := hide ((unhide HR1).below hb)
  have HV2 := hide ((unhide HV1).below hb)
  have H12 := hide ((unhide H11).below hb)
  have H22 := hide ((unhide H21).below hb)
  clear hb HR1 HV1 H11 H21
  by_cases hmb : msB ms = true
  case neg =>
    rw [Bool.not_eq_true] at hmb
    have HE := hide (md_bad (ss := ss) (xs := xs) hlong (unhide HE0) hmb)
    obtain ⟨r0, r1⟩ := (unhide HR2).cells
    have rf0 := (unhide HR2).free 0
    have rf1 := (unhide HR2).free 1
    rw [hmb]
    go_wp2
    refine bodyPost_ret (v := .tuple #[.agg #[.slice none 0 0, .slice none 0 0], .int .i64 1]) (by simp [results, Tryd.results19, go_sem, r0, r1]) rfl ?_
    exact unhide HZ _ (unhide HE) _ (unhide HR2) (unhide HB2) _ _
  have HMB := hide hmb
  rw [hmb]
  clear hmb
  obtain ⟨d0, d1⟩ := (unhide HV2).cells
  go_wp2_with fail
  refine (copyDisk_any ao bo ca cb ss xs _ hl hm (unhide H12) (unhide H22)).mono ?_
  rintro e W3 ⟨po, pa, qo, qa, rfl, ho, hb⟩
  have HA3 := hide (Joins.below_alloc1 W3 (.cells #[.slice po ss.length pa, .slice qo xs.length qa] 32))
  have HB3 := hide (fr (fr (unhide HB2) hb) (unhide HA3))
  have HO3 := hide ((ho.base (unhide HB2).size).below (unhide HA3))
  have HO4 := hide (VarD.new W3 (.slice po ss.length pa) (.slice qo xs.length qa))
  have HR3 := hide (((unhide HR2).below hb).below (unhide HA3))
  have HV3 := hide (((unhide HV2).below hb).below (unhide HA3))
  have hltV : w.heap.size < W3.heap.size := ((unhide HV2).below hb).lt
  have hltR : w.heap.size + 1 < W3.heap.size := ((unhide HR2).below hb).lt
  have hxv := ((unhide HV2).below hb).cells
  have HXV := hide hxv
  clear ho hb d0 d1 HR2 HV2 H12 H22 hxv
  have wr1 : IntKind.i64.wrap ((xs.length : Int) + (ms.length : Int)) = (xs.length : Int) + (ms.length : Int) := by rw [IntKind.wrap_i64]; omega
  obtain ⟨d0, d1⟩ := unhide HXV
  by_cases hfull : 200 < xs.length + ms.length
  · have HE := hide (md_full hlong (unhide HE0) (unhide HMB) hfull)
    have hfi : (xs.length : Int) + (ms.length : Int) > 200 := by omega
    have HO := hide (fun u v => md_end (unhide HR3) (unhide HB3) (Nat.le_succ _) (unhide HO3) u v)
    go_upto_region 10 with fail
    revert HR3 HO4 HV3 HO HO3 HB3
    generalize (W3.alloc (.cells #[.slice po ss.length pa, .slice qo xs.length qa] 32)) = W4
    intro HB3 HO3 HO4 HR3 HV3 HO
    obtain ⟨r0, r1⟩ := (unhide HR3).cells
    have rf0 := (unhide HR3).free 0
    have rf1 := (unhide HR3).free 1
    obtain ⟨q0, q1⟩ := (unhide HO4).cells
    go_wp2
    refine bodyPost_ret (v := .tuple #[.agg #[.slice po ss.length pa, .slice qo xs.length qa], .int .i64 7]) (by simp [results, Tryd.results19, go_sem, r0, r1]) rfl ?_
    rw [(unhide HE).1, (unhide HE).2.1, (unhide HE).2.2]
    exact ⟨po, pa, qo, qa, rfl, unhide HO _ _⟩
  have HE := hide (md_ok hlong (unhide HE0) (unhide HMB) hfull)
  have hfi : ¬ ((xs.length : Int) + (ms.length : Int) > 200) := by omega
  have HRT := hide (dmL_right (ms := ms) ⟨hh0, hh3⟩ (unhide HD) (unhide HMB) (by omega))
  have hOv : w.heap.size ≤ W3.heap.size := by omega
  go_wp2
  revert HR3 HO4 HV3 HO3 HB3
  generalize (W3.alloc (.cells #[.slice po ss.length pa, .slice qo xs.length qa] 32)) = W4
  intro HB3 HO3 HO4 HR3 HV3
  have hRO : w.heap.size + 1 ≠ W3.heap.size := by omega
  generalize W3.heap.size = V at *
  go_loopw [39] (fun i wr => ∃ (k : Nat) (SS : List ByteArray) (XX : List Wr) (po : Option Addr) (pa : Nat) (qo : Option Addr) (qa : Nat), k ≤ ms.length ∧ i = .int .i64 k ∧ Hid (dmL h ss xs (ms.take k) = (SS, XX)) ∧ Hid (VarD wr V (.slice po SS.length pa) (.slice qo XX.length qa)) ∧ Hid (OwnD wr w.heap.size po SS.length pa qo XX.length qa SS XX) ∧ Hid (VarD wr (w.heap.size + 1) (.slice none 0 0) (.slice none 0 0)) ∧ Hid (Below w.heap.size w wr)) (fun i _ => ms.length - (intOf i).toNat)
  case atStart => exact ⟨0, ss, xs, po, pa, qo, qa, Nat.zero_le _, rfl, hide rfl, HO4, HO3, HR3, HB3⟩
  case round =>
    obtain ⟨k, SS, XX, po, pa, qo, qa, hk, rfl, HEk, HVk, HOk, HRk, HBk⟩ := hrel
    have hr := unhide HRT k hk
    rw [unhide HEk] at hr
    obtain ⟨hr1, hr2⟩ := hr
    have HDB := hide hr1
    simp only at hr2
    by_cases hlt : k < ms.length
    · obtain ⟨b, off, rfl, hc0, hc1, hc2, hcz⟩ := (unhide HM).below (unhide HBk) k hlt
      have hXl : XX.length < 200 := by omega
      have HMk := hide (msB_at (unhide HMB) hlt)
      obtain ⟨S2, X2, HN⟩ : ∃ S2 X2, Hid (dm1 h (SS, XX) ms[k] = (S2, X2)) := ⟨_, _, hide rfl⟩
      have HNN : Hid (dmL h ss xs (ms.take (k + 1)) = (S2, X2)) := hide (by rw [dmL_succ hlt, unhide HEk]; exact unhide HN)
      have hbl := World.block_lt_of_cell? _ _ hc0
      have HAl := hide (Joins.below_alloc1 wr (.cells #[.int .i64 ms[k].host, .int .i64 ms[k].at_, .string ms[k].data] 76))
      have HVa := hide ((unhide HVk).below (unhide HAl))
      have HOa := hide ((unhide HOk).below (unhide HAl))
      have HRZ := hide (right_sz2 (unhide HDB))
      obtain ⟨q0, q1⟩ := (unhide HVk).cells
      have hVl := (unhide HVk).lt
      clear hr1 hr2 hcz
      go_wp2_with fail
      refine (doneBy_any ms[k] po qo pa qa SS XX h S2 X2 _ (unhide HN) ⟨hh0, hh3⟩ (unhide HDB) hXl (unhide HMk) ((unhide HOa).ss (unhide HRZ).1) ((unhide HOa).ios (unhide HRZ).2)).mono ?_
      rintro e w2 ⟨po2, pa2, qo2, qa2, rfl, ho, hb⟩
      have HB2x := hide (fr (fr (unhide HBk) (unhide HAl)) hb)
      have HV2x := hide ((unhide HVa).below hb)
      have HR2x := hide (((unhide HRk).below (unhide HAl)).below hb)
      have HO2x := hide (ho.base (Nat.le_trans (unhide HBk).size (unhide HAl).size))
      obtain ⟨t0, t1⟩ := (unhide HV2x).cells
      have tf0 := (unhide HV2x).free 0
      have tf1 := (unhide HV2x).free 1
      have HVn := hide ((unhide HV2x).put (.slice po2 S2.length pa2) (.slice qo2 X2.length qa2))
      have HOn := hide (own_beside (unhide HO2x) (unhide HV2x) (.slice po2 S2.length pa2) (.slice qo2 X2.length qa2))
      have HRn := hide (((unhide HR2x).apart (y := V) hRO 0 (.slice po2 S2.length pa2)).apart (y := V) hRO 1 (.slice qo2 X2.length qa2))
      have HBn := hide (below2 (g := V) (unhide HB2x) hOv 0 1 (.slice po2 S2.length pa2) (.slice qo2 X2.length qa2))
      clear ho hb q0 q1
      go_wp2
      go_roundw
      case rel => exact ⟨k + 1, S2, X2, po2, pa2, qo2, qa2, by omega, by go_num, HNN, HVn, HOn, HRn, HBn⟩
      case measure => simp [intOf]; omega
    · have hke : k = ms.length := by omega
      have HEE : Hid (dmL h ss xs ms = (SS, XX)) := hide (by have := unhide HEk; rwa [hke, List.take_of_length_le (Nat.le_refl _)] at this)
      obtain ⟨q0, q1⟩ := (unhide HVk).cells
      obtain ⟨r0, r1⟩ := (unhide HRk).cells
      have rf0 := (unhide HRk).free 0
      have rf1 := (unhide HRk).free 1
      have HO := hide (fun u v => md_end (unhide HRk) (unhide HBk) (Nat.le_succ _) (unhide HOk) u v)
      clear hke hr1 hr2
      go_wp2
      refine bodyPost_ret (v := .tuple #[.agg #[.slice po SS.length pa, .slice qo XX.length qa], .int .i64 0]) (by simp [results, Tryd.results19, go_sem, r0, r1]) rfl ?_
      rw [(unhide HE).1, (unhide HE).2.1, (unhide HE).2.2, unhide HEE]
      exact ⟨po, pa, qo, qa, rfl, unhide HO _ _⟩

end Go.Proofs.YtefnapcegeojoabDoor

/- Contract of impl.readNumbers. -/
namespace Go.Proofs.YtefnapcegeojoabDoor
open Go.RowKit
set_option linter.unusedVariables false
set_option maxRecDepth 100000

def txt : Value → ByteArray
  | .string s => s
  | _ => ⟨#[]⟩
/-- What is left of a text behind some bytes. -/
def Rest (s u : ByteArray) (k : Nat) : Prop := u.size + k = s.size ∧ ∀ j, j < u.size → byteAt u j = byteAt s (k + j)
theorem Rest.zero (s : ByteArray) : Rest s s 0 := ⟨rfl, fun j _ => by rw [Nat.zero_add]⟩
theorem Rest.num {s u : ByteArray} {k : Nat} (h : Rest s u k) (h4 : 4 ≤ u.size) : numAt u 0 = numAt s k := by
  unfold numAt
  rw [h.2 0 (by omega), h.2 (0 + 1) (by omega), h.2 (0 + 2) (by omega), h.2 (0 + 3) (by omega)]
  simp

theorem cut_size {u : ByteArray} (a : Nat) : (u.extract a u.size).size = u.size - a := by simp
theorem cut_byte {u : ByteArray} {a j : Nat} (h : a + j < u.size) : byteAt (u.extract a u.size) j = byteAt u (a + j) := by
  have h' : a + j < u.data.size := h
  have e : (u.extract a u.size).data = u.data.extract a u.size := by simp
  unfold byteAt
  rw [e, Array.getElem?_extract]
  have : j < u.size - a := by omega
  simp [this]
theorem Rest.cut {s u : ByteArray} {k : Nat} (h : Rest s u k) (h4 : 4 ≤ u.size) : Rest s (u.extract 4 u.size) (k + 4) := by
  refine ⟨by rw [cut_size]; have := h.1; omega, fun j hj => ?_⟩
  rw [cut_size] at hj
  rw [cut_byte (by omega), h.2 (4 + j) (by omega), Nat.add_assoc]

set_option maxHeartbeats 1600000 in
theorem readNumbers_ok (s : ByteArray) (w : World) (h4 : s.size % 4 = 0) (hl : s.size ≤ 64) (hn : ∀ k, k < s.size / 4 → numB (numAt s (k * 4)) = true) :
    Calls Tryd.prog 142 #[.string s] w fun e w' => ∃ v, e = .returned v ∧ OwnN w' w.heap.size v (unL s) ∧ Below w.heap.size w w' := by
  obtain ⟨j0, hj, hy0, hy1, hy2⟩ := info_parts infoM
  have hb4 : ((s.size : Int) % 4 == 0) = true := by simp; omega
  have hli : (s.size : Int) ≤ 64 := by omega
  have HN := hide hn
  clear hn
  go_enter Tryd.func142, Tryd.ntmps142
  go_wp2_with (go_at_call 108; refine (demand_true _).mono ?_; rintro e w' ⟨rfl, hw⟩; replace hw := hw.symm; subst hw)
  go_loopw [0, 3] (fun t o wr => ∃ (k : Nat) (u : ByteArray) (qo : Option Addr) (qa : Nat), k ≤ s.size / 4 ∧ t = .string u ∧ o = .slice qo k qa ∧ u.size + k * 4 = s.size ∧ Hid (Rest s u (k * 4)) ∧ Hid (OwnR wr w.heap.size 3 1 (.slice qo k qa) k (intV ((unL s).take k))) ∧ Hid (Below w.heap.size w wr)) (fun t _ _ => (txt t).size)
  case atStart => exact ⟨0, s, _, _, Nat.zero_le _, rfl, rfl, rfl, hide (Rest.zero s), hide (.inl ⟨rfl, rfl, _, rfl⟩), hide (Below.refl _ _)⟩
  case round =>
    obtain ⟨k, u, qo, qa, hk, rfl, rfl, hu, HR, HO, HB⟩ := hrel
    by_cases hlt : k < s.size / 4
    · have hu4 : 4 ≤ u.size := by omega
      have HNU : Hid (numB (numAt u 0) = true) := hide (by rw [(unhide HR).num hu4]; exact unhide HN k hlt)
      have HNE := hide ((unhide HR).num hu4)
      have hu0 : 0 < u.size := by omega
      have HSZU := hide (cut_size (u := u) 4)
      go_wp2_with fail
      refine (readNumber_ok u _ hu4 (unhide HNU)).mono ?_
      rintro e w1 ⟨rfl, hb1⟩
      have HB1 := hide (fr (unhide HB) hb1)
      have HO1 := hide ((unhide HO).below hb1)
      clear hb1
      have HOA := hide ((unhide HO1).below (Joins.below_alloc1 _ (.cells #[.int .i64 (numAt u 0)] 3)))
      have HBA := hide (fr (unhide HB1) (Joins.below_alloc1 _ (.cells #[.int .i64 (numAt u 0)] 3)))
      have HSZ := hide (unhide HB1).size
      go_wp2_with (at_builtin; refine wpList_append_one rfl _ _ 52 rfl w.heap.size 3 j0 (.int .i64 0) 1 8 Tryd.underlying52 hj hy0 hy1 hy2 rfl (by omega) qo k qa (intV ((unL s).take k)) rfl (unhide HOA) (by have := unhide HSZ; simp; omega) ⟨w1.heap.size, 0, none⟩ _ [.int .i64 (numAt u 0)] rfl rfl (byte_news w1 _ _) (int_one _) (by unfold maxLen; omega) (by omega) ?_; intro g2 cap2 wA hoA hkA; have HSF := hide (And.intro hoA (keep_below (unhide HBA) (unhide HOA) (Nat.le_refl _) hkA)); clear hoA hkA)
      go_roundw
      case rel => exact ⟨k + 1, _, _, _, by omega, rfl, rfl, by rw [unhide HSZU]; omega, hide (by rw [show (k + 1) * 4 = k * 4 + 4 by omega]; exact (unhide HR).cut hu4), hide (.inr ⟨by omega, by rw [unL_succ hlt, intV_snoc, ← unhide HNE]; exact (unhide HSF).1⟩), hide (unhide HSF).2⟩
      case measure => show (u.extract 4 u.size).size < u.size; rw [unhide HSZU]; omega
    · have hke : k = (unL s).length := by rw [unL_length]; omega
      have hu0 : u.size = 0 := by omega
      have HT : Hid ((unL s).take k = unL s) := hide (List.take_of_length_le (by omega))
      have HON : Hid (OwnR wr w.heap.size 3 1 (.slice qo (unL s).length qa) (unL s).length (intV (unL s))) := hide (by have := unhide HO; rw [unhide HT, hke] at this; exact this)
      subst hke
      go_wp2
      go_ret
      exact ⟨.slice qo (unL s).length qa, rfl, ⟨qo, qa, rfl, unhide HON⟩, unhide HB⟩

set_option maxHeartbeats 1600000 in
theorem readNumbers_bad (s : ByteArray) (w : World) (k0 : Nat) (h4 : s.size % 4 = 0) (hl : s.size ≤ 64) (hk0 : k0 < s.size / 4) (hn : ∀ k, k < k0 → numB (numAt s (k * 4)) = true) (hn0 : numB (numAt s (k0 * 4)) = false) (hE : ErrW w) :
    Calls Tryd.prog 142 #[.string s] w fun e w' => (∃ u pv, e = .panicked [{ v := .iface u pv, recovered := false }]) ∧ Below w.heap.size w w' := by
  obtain ⟨j0, hj, hy0, hy1, hy2⟩ := info_parts infoM
  have hb4 : ((s.size : Int) % 4 == 0) = true := by simp; omega
  have hli : (s.size : Int) ≤ 64 := by omega
  have HN := hide hn
  have HN0 := hide hn0
  have HE := hide hE
  clear hn hn0 hE
  go_enter Tryd.func142, Tryd.ntmps142
  go_wp2_with (go_at_call 108; refine (demand_true _).mono ?_; rintro e w' ⟨rfl, hw⟩; replace hw := hw.symm; subst hw)
  go_loopw [0, 3] (fun t o wr => ∃ (k : Nat) (u : ByteArray) (qo : Option Addr) (qa : Nat), k ≤ k0 ∧ t = .string u ∧ o = .slice qo k qa ∧ u.size + k * 4 = s.size ∧ Hid (Rest s u (k * 4)) ∧ Hid (OwnR wr w.heap.size 3 1 (.slice qo k qa) k (intV ((unL s).take k))) ∧ Hid (Below w.heap.size w wr)) (fun t _ _ => (txt t).size)
  case atStart => exact ⟨0, s, _, _, Nat.zero_le _, rfl, rfl, rfl, hide (Rest.zero s), hide (.inl ⟨rfl, rfl, _, rfl⟩), hide (Below.refl _ _)⟩
  case round =>
    obtain ⟨k, u, qo, qa, hk, rfl, rfl, hu, HR, HO, HB⟩ := hrel
    have hlt0 : k < s.size / 4 := by omega
    by_cases hlt : k < k0
    · have hu4 : 4 ≤ u.size := by omega
      have HNU : Hid (numB (numAt u 0) = true) := hide (by rw [(unhide HR).num hu4]; exact unhide HN k hlt)
      have HNE := hide ((unhide HR).num hu4)
      have hu0 : 0 < u.size := by omega
      have HSZU := hide (cut_size (u := u) 4)
      go_wp2_with fail
      refine (readNumber_ok u _ hu4 (unhide HNU)).mono ?_
      rintro e w1 ⟨rfl, hb1⟩
      have HB1 := hide (fr (unhide HB) hb1)
      have HO1 := hide ((unhide HO).below hb1)
      clear hb1
      have HOA := hide ((unhide HO1).below (Joins.below_alloc1 _ (.cells #[.int .i64 (numAt u 0)] 3)))
      have HBA := hide (fr (unhide HB1) (Joins.below_alloc1 _ (.cells #[.int .i64 (numAt u 0)] 3)))
      have HSZ := hide (unhide HB1).size
      go_wp2_with (at_builtin; refine wpList_append_one rfl _ _ 52 rfl w.heap.size 3 j0 (.int .i64 0) 1 8 Tryd.underlying52 hj hy0 hy1 hy2 rfl (by omega) qo k qa (intV ((unL s).take k)) rfl (unhide HOA) (by have := unhide HSZ; simp; omega) ⟨w1.heap.size, 0, none⟩ _ [.int .i64 (numAt u 0)] rfl rfl (byte_news w1 _ _) (int_one _) (by unfold maxLen; omega) (by omega) ?_; intro g2 cap2 wA hoA hkA; have HSF := hide (And.intro hoA (keep_below (unhide HBA) (unhide HOA) (Nat.le_refl _) hkA)); clear hoA hkA)
      go_roundw
      case rel => exact ⟨k + 1, _, _, _, by omega, rfl, rfl, by rw [unhide HSZU]; omega, hide (by rw [show (k + 1) * 4 = k * 4 + 4 by omega]; exact (unhide HR).cut hu4), hide (.inr ⟨by omega, by rw [unL_succ hlt0, intV_snoc, ← unhide HNE]; exact (unhide HSF).1⟩), hide (unhide HSF).2⟩
      case measure => show (u.extract 4 u.size).size < u.size; rw [unhide HSZU]; omega
    · have hu4 : 4 ≤ u.size := by omega
      have hu0 : 0 < u.size := by omega
      have hke : k = k0 := by omega
      have HNU : Hid (numB (numAt u 0) = false) := hide (by rw [(unhide HR).num hu4, hke]; exact unhide HN0)
      go_wp2_with fail
      refine (readNumber_no u _ hu4 (unhide HNU) ((unhide HE).below (unhide HB))).mono ?_
      rintro e w1 ⟨⟨u1, pv, rfl⟩, hb1⟩
      have HB1 := hide (fr (unhide HB) hb1)
      clear hb1
      go_wp2
      exact ⟨rfl, ⟨u1, pv, rfl⟩, unhide HB1⟩

set_option maxHeartbeats 800000 in
theorem readNumbers_form (s : ByteArray) (w : World) (h : s.size % 4 ≠ 0 ∨ 64 < s.size) (hE : ErrW w) :
    Calls Tryd.prog 142 #[.string s] w fun e w' => (∃ u pv, e = .panicked [{ v := .iface u pv, recovered := false }]) ∧ Below w.heap.size w w' := by
  have HE := hide hE
  clear hE
  by_cases h4 : s.size % 4 = 0
  · have hb4 : ((s.size : Int) % 4 == 0) = true := by simp; omega
    have hli : ¬ (s.size : Int) ≤ 64 := by omega
    go_enter Tryd.func142, Tryd.ntmps142
    go_wp2_with (go_at_call 108; refine (demand_false _ (unhide HE)).mono ?_; rintro e w' ⟨⟨u1, pv, rfl⟩, hw⟩; replace hw := hw.symm; subst hw)
    exact ⟨rfl, ⟨_, _, rfl⟩, Below.refl _ _⟩
  · have hb4 : ((s.size : Int) % 4 == 0) = false := by simp; omega
    go_enter Tryd.func142, Tryd.ntmps142
    go_wp2_with (go_at_call 108; refine (demand_false _ (unhide HE)).mono ?_; rintro e w' ⟨⟨u1, pv, rfl⟩, hw⟩; replace hw := hw.symm; subst hw)
    exact ⟨rfl, ⟨_, _, rfl⟩, Below.refl _ _⟩

theorem first_bad {p : Nat → Bool} : ∀ n, (∀ k, k < n → p k = true) ∨ ∃ k0, k0 < n ∧ (∀ k, k < k0 → p k = true) ∧ p k0 = false
  | 0 => .inl (fun k hk => by omega)
  | n + 1 => by
    rcases first_bad (p := p) n with h | ⟨k0, h0, h1, h2⟩
    · cases hp : p n with
      | true => exact .inl (fun k hk => by
          by_cases e : k = n
          · subst e; exact hp
          · exact h k (by omega))
      | false => exact .inr ⟨n, by omega, h, hp⟩
    · exact .inr ⟨k0, by omega, h1, h2⟩

/-- readNumbers, by what the text is. -/
theorem readNumbers_yes (s : ByteArray) (w : World) (h : okU s = true) :
    Calls Tryd.prog 142 #[.string s] w fun e w' => ∃ v, e = .returned v ∧ OwnN w' w.heap.size v (unL s) ∧ Below w.heap.size w w' := by
  have h4 : s.size % 4 = 0 := by
    by_cases h4 : s.size % 4 = 0
    · exact h4
    · rw [okU_rest h4] at h; cases h
  have hl : s.size ≤ 64 := by
    by_cases hl : 64 < s.size
    · rw [okU_long hl] at h; cases h
    · omega
  refine readNumbers_ok s w h4 hl (fun k hk => ?_)
  cases hb : numB (numAt s (k * 4)) with
  | true => rfl
  | false => rw [okU_bad hk hb] at h; cases h
theorem readNumbers_no (s : ByteArray) (w : World) (h : okU s = false) (hE : ErrW w) :
    Calls Tryd.prog 142 #[.string s] w fun e w' => (∃ u pv, e = .panicked [{ v := .iface u pv, recovered := false }]) ∧ Below w.heap.size w w' := by
  by_cases h4 : s.size % 4 = 0
  · by_cases hl : s.size ≤ 64
    · rcases first_bad (p := fun k => numB (numAt s (k * 4))) (s.size / 4) with hg | ⟨k0, h0, h1, h2⟩
      · rw [okU_true h4 hl hg] at h; cases h
      · exact readNumbers_bad s w k0 h4 hl h0 h1 h2 hE
    · exact readNumbers_form s w (.inr (by omega)) hE
  · exact readNumbers_form s w (.inl h4) hE

end Go.Proofs.YtefnapcegeojoabDoor
