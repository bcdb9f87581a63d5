import Derived.Test.YtefnapcegeojoabDoorRows
import Derived.Test.YtefnapcegeojoabDoorXReplayPlanPart1
import Derived.Test.YtefnapcegeojoabDoorXReplayPlanPart4
import Derived.WalkKit
import Derived.WalkSpells
import Derived.Test.YtefnapcegeojoabDoorXReplayPlanPart3
import Derived.Test.YtefnapcegeojoabDoorXReplayPlanPart6
import Derived.KernelRfl
import Derived.Lib.SmallJoins
import Derived.Test.YtefnapcegeojoabDoorXReplayPlanPart2
import Derived.Test.YtefnapcegeojoabDoorXReplayPlanPart5
import Derived.LoopN
import Derived.BigQuiet
import Derived.Deep.QuietTactic
import Derived.Deep.CutRange
import Derived.Deep.RegionWith
import Derived.Deep.RegionHeld3
import Derived.Deep.RegionLawGrows
import Derived.Laws.BytesArg
import Derived.Laws.CopyRow
import Derived.Laws.CopyOwn
import Derived.Deep.RegionLaw
import Derived.Deep.AppendLies

/- Contracts of the program's code of a place. -/
namespace Go.Proofs.YtefnapcegeojoabDoor
open Go.RowKit
set_option linter.unusedVariables false
set_option maxRecDepth 100000

set_option maxHeartbeats 1600000 in
theorem placeFault_any (ao bo : Option Addr) (ca cb : Nat) (ss : List ByteArray) (xs : List Wr) (h a : Int) (w : World) (hl : ss.length ≤ maxLen) (hm : xs.length ≤ maxLen) (h1 : Ss w ao ss) (h2 : Ios w bo xs) :
    Calls Tryd.prog 128 #[.agg #[.slice ao ss.length ca, .slice bo xs.length cb], .int .i64 h, .int .i64 a] w fun e w' => e = .returned (.int .i64 (askC ss xs h a)) ∧ Below w.heap.size w w' := by
  have HA := hide (Joins.below_alloc1 w (.cells #[.slice ao ss.length ca, .slice bo xs.length cb] 32))
  have H1 := hide (h1.below (unhide HA))
  have H2 := hide (h2.below (unhide HA))
  have HL := hide hl
  have HM := hide hm
  clear h1 h2 hl hm
  by_cases hc : hostC ss xs h = 0
  · have hb : (hostC ss xs h != 0) = false := by simp [hc]
    cases hh : inB a 0 63
    · have H := hide (askC_place hc hh)
      clear hc
      go_enter Tryd.func128, Tryd.ntmps128
      go_wp2_with fail
      refine (hostFault_any _ _ _ _ ss xs h _ (unhide HL) (unhide HM) (unhide H1) (unhide H2)).mono ?_
      rintro e w1 ⟨rfl, hb⟩
      have HB := hide (fr (unhide HA) hb)
      clear hb
      go_wp2_with (go_at_call 126; refine (placeOK_any _ _).mono ?_; rintro e w' ⟨rfl, rfl⟩)
      go_ret
      exact ⟨ret_int (unhide H).symm, unhide HB⟩
    · have H := hide (askC_ok hc hh)
      clear hc
      go_enter Tryd.func128, Tryd.ntmps128
      go_wp2_with fail
      refine (hostFault_any _ _ _ _ ss xs h _ (unhide HL) (unhide HM) (unhide H1) (unhide H2)).mono ?_
      rintro e w1 ⟨rfl, hb⟩
      have HB := hide (fr (unhide HA) hb)
      clear hb
      go_wp2_with (go_at_call 126; refine (placeOK_any _ _).mono ?_; rintro e w' ⟨rfl, rfl⟩)
      go_ret
      exact ⟨ret_int (unhide H).symm, unhide HB⟩
  · have H := hide (askC_host (a := a) hc)
    have hb : (hostC ss xs h != 0) = true := by simp [hc]
    clear hc
    go_enter Tryd.func128, Tryd.ntmps128
    go_wp2_with fail
    refine (hostFault_any _ _ _ _ ss xs h _ (unhide HL) (unhide HM) (unhide H1) (unhide H2)).mono ?_
    rintro e w1 ⟨rfl, hb⟩
    have HB := hide (fr (unhide HA) hb)
    clear hb
    go_wp2
    go_ret
    exact ⟨ret_int (unhide H).symm, unhide HB⟩

end Go.Proofs.YtefnapcegeojoabDoor

/- Contracts of impl.seenBy, impl.ReadSector. -/
namespace Go.Proofs.YtefnapcegeojoabDoor
open Go.RowKit
set_option linter.unusedVariables false
set_option maxRecDepth 100000

theorem ret_rs {a b : ByteArray} (h : a = b) : Ending.returned (.string a) = .returned (.string b) := by rw [h]
theorem ret_rd {a b : ByteArray} {c d : Int} (h : a = b) (k : c = d) : Ending.returned (.tuple #[.string a, .int .i64 c]) = .returned (.tuple #[.string b, .int .i64 d]) := by rw [h, k]
theorem no_succ {xs : List Wr} {h a : Int} {k : Nat} (hk : k < xs.length) (hn : ∀ j (hj : j < xs.length), (k : Int) < j → ¬ mat xs[j] h a) (hx : ¬ mat xs[k] h a) : ∀ j (hj : j < xs.length), (k : Int) - 1 < j → ¬ mat xs[j] h a := by
  intro j hj hlt
  by_cases e : j = k
  · subst e; exact hx
  · exact hn j hj (by omega)

set_option maxHeartbeats 1600000 in
theorem seenBy_any (ao bo : Option Addr) (ca cb : Nat) (ss : List ByteArray) (xs : List Wr) (h : Int) (n : Nat) (w : World) (hlx : xs.length ≤ 200) (hn : n < ss.length) (hq : ss.length ≤ 1048576) (h1 : Ss w ao ss) (h2 : Ios w bo xs) :
    Calls Tryd.prog 75 #[.agg #[.slice ao ss.length ca, .slice bo xs.length cb], .int .i64 h, .int .i64 n] w fun e w' => e = .returned (.string (readV ss xs h n)) ∧ Below w.heap.size w w' := by
  have HA := hide (Joins.below_alloc1 w (.cells #[.slice ao ss.length ca, .slice bo xs.length cb] 32))
  have H1' := hide (h1.below (unhide HA))
  have H2' := hide (h2.below (unhide HA))
  have hc0 : (w.alloc (.cells #[.slice ao ss.length ca, .slice bo xs.length cb] 32)).cell? ⟨w.heap.size, 0, none⟩ = some (.slice ao ss.length ca) := by simp [go_sem]
  have hc1 : (w.alloc (.cells #[.slice ao ss.length ca, .slice bo xs.length cb] 32)).cell? ⟨w.heap.size, 1, none⟩ = some (.slice bo xs.length cb) := by simp [go_sem]
  have HC0 := hide hc0
  have HC1 := hide hc1
  have hlt : w.heap.size < (w.alloc (.cells #[.slice ao ss.length ca, .slice bo xs.length cb] 32)).heap.size := by simp
  clear h1 h2 hc0 hc1
  go_enter Tryd.func75, Tryd.ntmps75
  go_wp2
  revert HA H1' H2' HC0 HC1 hlt
  generalize w.alloc (.cells #[.slice ao ss.length ca, .slice bo xs.length cb] 32) = w1
  intro HA H1' H2' HC0 HC1 hlt
  go_loopw [7, 8] (fun i _ wr => ∃ m : Int, i = .int .i64 m ∧ -1 ≤ m ∧ m < xs.length ∧ Hid (∀ j (hj : j < xs.length), m < j → ¬ mat xs[j] h n) ∧ Hid (Below w1.heap.size w1 wr)) (fun i _ _ => (intOf i + 1).toNat)
  case atStart => exact ⟨_, rfl, by omega, by omega, hide (fun j hj hlt => by omega), hide (Below.refl _ _)⟩
  case round =>
    obtain ⟨m, rfl, hm0, hm1, HN, HB⟩ := hrel
    have hc0 : wr.cell? ⟨w.heap.size, 0, none⟩ = some (.slice ao ss.length ca) := ((unhide HB).cell (World.block_lt_of_cell? _ _ (unhide HC0))).trans (unhide HC0)
    have hc1 : wr.cell? ⟨w.heap.size, 1, none⟩ = some (.slice bo xs.length cb) := ((unhide HB).cell (World.block_lt_of_cell? _ _ (unhide HC1))).trans (unhide HC1)
    by_cases hge : 0 ≤ m
    · obtain ⟨k, rfl⟩ := Int.eq_ofNat_of_zero_le hge
      have hk : k < xs.length := by omega
      obtain ⟨b, off, rfl, hd0, hd1, hd2, hz⟩ := (unhide H2').below (unhide HB) k hk
      clear hz
      have HBA := hide (fun o => (unhide HB).alloc (unhide HB).size o)
      by_cases e0 : xs[k].host = h
      · have b0 : (xs[k].host == h) = true := by simp [e0]
        by_cases e1 : xs[k].at_ = n
        · have b1 : (xs[k].at_ == (n : Int)) = true := by simp [e1]
          have H := hide (readV_hit (ss := ss) hk ⟨e0, e1⟩ (fun j hj hlt => unhide HN j hj (by omega)))
          clear e0 e1
          go_wp2
          go_ret
          exact ⟨ret_rs (unhide H).symm, fr (unhide HA) (unhide HBA _)⟩
        · have b1 : (xs[k].at_ == (n : Int)) = false := by simp [e1]
          have HX := hide (no_succ hk (unhide HN) (fun hx => e1 hx.2))
          clear e0 e1
          go_wp2
          go_roundw
          case rel => exact ⟨_, rfl, by omega, by omega, HX, hide (unhide HBA _)⟩
          case measure => simp [intOf]
      · have b0 : (xs[k].host == h) = false := by simp [e0]
        have HX := hide (no_succ hk (unhide HN) (fun hx => e0 hx.1))
        clear e0
        go_wp2
        go_roundw
        case rel => exact ⟨_, rfl, by omega, by omega, HX, hide (unhide HBA _)⟩
        case measure => simp [intOf]
    · obtain ⟨b, off, rfl, hc, hz⟩ := (unhide H1').below (unhide HB) n hn
      clear hz
      have hg : ss.getD ((n : Int).toNat) ⟨#[]⟩ = ss[n] := by simp [List.getD, hn]
      have H := hide ((readV_none (ss := ss) (fun j hj => unhide HN j hj (by omega))).trans hg)
      clear hg
      go_wp2
      go_ret
      exact ⟨ret_rs (unhide H).symm, fr (unhide HA) (unhide HB)⟩

end Go.Proofs.YtefnapcegeojoabDoor

/- Contracts of ReadSector, of the program and of its model. -/
namespace Go.Proofs.YtefnapcegeojoabDoor
open Go.RowKit
set_option linter.unusedVariables false
set_option maxRecDepth 100000

set_option maxHeartbeats 1600000 in
theorem l01Read_any (ao bo : Option Addr) (ca cb : Nat) (ss : List ByteArray) (xs : List Wr) (h : Int) (a : Nat) (w : World) (ha : a < ss.length) (hs : ss.length ≤ 1048576) (hm : xs.length ≤ maxLen) (h1 : Ss w ao ss) (h2 : Ios w bo xs) :
    Calls Tryd.prog 112 #[.agg #[.slice ao ss.length ca, .slice bo xs.length cb], .int .i64 h, .int .i64 a] w fun e w' => e = .returned (.string (readV ss xs h a)) ∧ Below w.heap.size w w' := by
  have HA := hide (Joins.below_alloc1 w (.cells #[.slice ao ss.length ca, .slice bo xs.length cb] 32))
  have H1 := hide (h1.below (unhide HA))
  have H2 := hide (h2.below (unhide HA))
  clear h1 h2
  unfold maxLen at hm
  go_enter Tryd.func112, Tryd.ntmps112
  go_wp2
  go_loop [7] (fun i => ∃ m : Int, i = .int .i64 m ∧ -1 ≤ m ∧ m < xs.length ∧ Hid (∀ j (hj : j < xs.length), m < j → ¬ mat xs[j] h a)) (fun i => (intOf i + 1).toNat)
  case atStart => exact ⟨_, rfl, by omega, by omega, hide (fun j hj hlt => by omega)⟩
  case round =>
    obtain ⟨m, rfl, hm0, hm1, HN⟩ := hrel
    by_cases hge : 0 ≤ m
    · obtain ⟨k, rfl⟩ := Int.eq_ofNat_of_zero_le hge
      have hk : k < xs.length := by omega
      obtain ⟨b, off, rfl, hc0, hc1, hc2, hz⟩ := unhide H2 k hk
      clear hz
      by_cases e0 : xs[k].host = h
      · have b0 : (xs[k].host == h) = true := by simp [e0]
        by_cases e1 : xs[k].at_ = a
        · have b1 : (xs[k].at_ == (a : Int)) = true := by simp [e1]
          have H := hide (readV_hit (ss := ss) hk ⟨e0, e1⟩ (fun j hj hlt => unhide HN j hj (by omega)))
          clear e0 e1
          go_wp2
          go_ret
          exact ⟨ret_rs (unhide H).symm, unhide HA⟩
        · have b1 : (xs[k].at_ == (a : Int)) = false := by simp [e1]
          have HX := hide (no_succ hk (unhide HN) (fun hx => e1 hx.2))
          clear e0 e1
          go_wp2
          go_round
          case rel => exact ⟨_, rfl, by omega, by omega, HX⟩
          case measure => simp [intOf]
      · have b0 : (xs[k].host == h) = false := by simp [e0]
        have HX := hide (no_succ hk (unhide HN) (fun hx => e0 hx.1))
        clear e0
        go_wp2
        go_round
        case rel => exact ⟨_, rfl, by omega, by omega, HX⟩
        case measure => simp [intOf]
    · obtain ⟨b, off, rfl, hc, hz⟩ := unhide H1 a ha
      clear hz
      have hg : ss.getD ((a : Int).toNat) ⟨#[]⟩ = ss[a] := by simp [List.getD, ha]
      have H := hide ((readV_none (ss := ss) (fun j hj => unhide HN j hj (by omega))).trans hg)
      clear hg
      go_wp2
      go_ret
      exact ⟨ret_rs (unhide H).symm, unhide HA⟩

end Go.Proofs.YtefnapcegeojoabDoor

/- Contracts of spec's l07Decode, DecodeUpdate. -/
namespace Go.Proofs.YtefnapcegeojoabDoor
open Go.RowKit
set_option linter.unusedVariables false
set_option maxRecDepth 100000

set_option maxHeartbeats 1600000 in
theorem l07Decode_any (t : ByteArray) (w : World) (hs : t.size ≤ 65536) : Calls Tryd.prog 114 #[.string t] w fun e w' => e = .returned (.tuple #[uV (duU t), .bool (duB t)]) ∧ Below w.heap.size w w' := by
  have HA := hide (Joins.below_alloc1 w (.cells #[.int .i64 0, .string ⟨#[]⟩] 49))
  have HV := hide (VarU.new w 49 up0)
  by_cases h8 : t.size < 8
  · have HE := hide (duB_short h8)
    obtain ⟨hc0, hc1⟩ := (unhide HV).cells
    obtain ⟨hf0, hf1⟩ := (unhide HV).free
    simp only [up0] at hc0 hc1
    have HR := hide (fun u v => below2 (unhide HA) (Nat.le_refl _) 0 1 u v)
    go_enter Tryd.func114, Tryd.ntmps114
    go_wp2
    refine bodyPost_ret (v := .tuple #[uV up0, .bool false]) (by simp [results, Tryd.results114, go_sem, hc0, hc1, up0]) rfl ⟨?_, by first | exact unhide HR _ _ | exact unhide HA⟩
    exact ret_ub (du_no (unhide HE)).symm (unhide HE).symm
  go_enter Tryd.func114, Tryd.ntmps114
  go_wp2_with fail
  refine (l02Open_any (duH t) 8 _ (by rw [duH_size (by omega)]; omega)).mono ?_
  rintro e w1 ⟨v, rfl, ⟨qo, qa, rfl, ho⟩, hb⟩
  have HB := hide (fr (unhide HA) hb)
  have HB1 := hide hb
  have HO := hide ho
  obtain ⟨hc0, hc1⟩ := ((unhide HV).below hb).cells
  obtain ⟨hf0, hf1⟩ := ((unhide HV).below hb).free
  have HR := hide (fun u v => below2 (unhide HB) (Nat.le_refl _) 0 1 u v)
  clear hb ho
  by_cases hb : openB (duH t) 8 = false
  · have HE := hide (duB_open hb)
    go_wp2
    refine bodyPost_ret (v := .tuple #[uV up0, .bool false]) (by simp [results, Tryd.results114, go_sem, hc0, hc1, up0]) rfl ⟨?_, unhide HR _ _⟩
    exact ret_ub (du_no (unhide HE)).symm (unhide HE).symm
  rw [Bool.not_eq_false] at hb
  obtain ⟨a, hl⟩ : ∃ a, openL (t.extract 0 8) 8 = [a] := ⟨_, duL_eq (by omega) hb⟩
  have HX : Hid (duX t = ⟨a, t.extract 8 t.size⟩) := hide (duX_at hl)
  have HE := hide (duB_at (by omega) hb)
  rw [unhide HX] at HE
  have HZ : Hid ((t.extract 8 t.size).size ≤ maxLen) := hide (by rw [duT_size]; unfold maxLen; omega)
  have hI := ownRN (unhide HO)
  rw [hl] at hI ⊢
  obtain ⟨g, off, rfl, hi0⟩ := hI 0 (by simp)
  simp only [List.getElem_cons_zero, Nat.add_zero] at hi0
  have hg := World.block_lt_of_cell? _ _ hi0
  clear hI
  have HL := hide hl
  clear hl
  simp only [List.length_cons, List.length_nil, Nat.zero_add]
  go_wp2_with fail
  have HA2 := hide (Joins.below_alloc1 w1 (.cells #[.int .i64 a, .string (t.extract 8 t.size)] 49)).drew
  have HV2 := hide (((unhide HV).below (unhide HB1)).below (unhide HA2))
  have HV3 : Hid (VarU (w1.alloc (.cells #[.int .i64 a, .string (t.extract 8 t.size)] 49)).drew w1.heap.size 49 ⟨a, t.extract 8 t.size⟩) := hide ((VarU.new w1 49 ⟨a, t.extract 8 t.size⟩).below (Below.refl _ _).drew)
  have HB2 := hide (fr (unhide HB) (unhide HA2))
  clear hc0 hc1 hf0 hf1 HR
  go_region
  go_wp2_with fail
  refine (l07Update_any ⟨a, t.extract 8 t.size⟩ _ (unhide HZ)).mono ?_
  rintro e w2 ⟨rfl, hb2⟩
  have HB3 := hide (fr (unhide HB2) hb2)
  obtain ⟨hc0, hc1⟩ := ((unhide HV2).below hb2).cells
  obtain ⟨hf0, hf1⟩ := ((unhide HV2).below hb2).free
  obtain ⟨hx0, hx1⟩ := ((unhide HV3).below hb2).cells
  have HR := hide (fun u v => below2 (unhide HB3) (Nat.le_refl _) 0 1 u v)
  clear hb2 hi0
  by_cases hd : upB ⟨a, t.extract 8 t.size⟩ = true
  · go_wp2
    refine bodyPost_ret (v := .tuple #[uV ⟨a, t.extract 8 t.size⟩, .bool true]) (by simp [results, Tryd.results114, go_sem, hc0, hc1]) rfl ⟨?_, unhide HR _ _⟩
    exact ret_ub ((du_yes (by rw [unhide HE]; exact hd)).trans (unhide HX)).symm (by rw [unhide HE]; exact hd.symm)
  · rw [Bool.not_eq_true] at hd
    go_wp2
    refine bodyPost_ret (v := .tuple #[uV up0, .bool false]) (by simp [results, Tryd.results114, go_sem, hc0, hc1, up0]) rfl ⟨?_, unhide HR _ _⟩
    exact ret_ub (du_no (by rw [unhide HE]; exact hd)).symm (by rw [unhide HE]; exact hd.symm)

end Go.Proofs.YtefnapcegeojoabDoor

/- Contracts of spec's journals that are read: l07Of, l07Ask, JournalOf, l07Replay, ReplayPlan. -/
namespace Go.Proofs.YtefnapcegeojoabDoor
open Go.RowKit
set_option linter.unusedVariables false
set_option maxRecDepth 100000

theorem infoUx : (Tryd.prog.info? 49).map (fun i => (i.zero, i.size, i.bytes)) = some (some (.agg #[.int .i64 0, .string ⟨#[]⟩]), 2, 24) := by kernel_rfl
theorem l01ReadAt (ao bo : Option Addr) (ca cb : Nat) (ss : List ByteArray) (xs : List Wr) (h a : Int) (T : ByteArray) (w : World) (hd : diskB ss xs = true) (h0 : 0 ≤ a) (h3 : a ≤ 63) (hT : readV ss xs h a = T) (h1 : Ss w ao ss) (h2 : Ios w bo xs) :
    Calls Tryd.prog 112 #[.agg #[.slice ao ss.length ca, .slice bo xs.length cb], .int .i64 h, .int .i64 a] w fun e w' => e = .returned (.string T) ∧ Below w.heap.size w w' := by
  obtain ⟨l1, l2⟩ := diskB_len hd
  obtain ⟨n, rfl⟩ := Int.eq_ofNat_of_zero_le h0
  subst hT
  exact l01Read_any ao bo ca cb ss xs h n w (by omega) (by omega) (by unfold maxLen; omega) h1 h2
theorem slN_at {o : Int} (h : inB o 0 3 = true) : 39 ≤ slN o ∧ slN o ≤ 57 := by
  have : 0 ≤ o ∧ o ≤ 3 := by simpa [inB] using h
  unfold slN; omega

set_option maxHeartbeats 6400000 in
theorem l07Of_any (ao bo : Option Addr) (ca cb : Nat) (ss : List ByteArray) (xs : List Wr) (h o : Int) (w : World) (hd : diskB ss xs = true) (ho : inB o 0 3 = true) (h1 : Ss w ao ss) (h2 : Ios w bo xs) :
    Calls Tryd.prog 71 #[.agg #[.slice ao ss.length ca, .slice bo xs.length cb], .int .i64 h, .int .i64 o] w fun e w' =>
      ∃ qo qa n, e = .returned (.tuple #[.slice qo n qa, .int .i64 (jkS (joH ss xs h o) (joF ss xs h o)), .bool (jkB (joH ss xs h o) (joF ss xs h o))]) ∧ UpS w w' qo n qa (jkL (joH ss xs h o) (joF ss xs h o)) := by
  obtain ⟨i0, hi, hz0, hz1, hz2⟩ := info_parts infoUx
  obtain ⟨hs0, hs1⟩ := slN_at ho
  obtain ⟨T, HT⟩ : ∃ T, Hid (joH ss xs h o = T) := ⟨_, hide rfl⟩
  obtain ⟨F, HF⟩ : ∃ F, Hid (joF ss xs h o = F) := ⟨_, hide rfl⟩
  have HTS : Hid (T.size ≤ 65536) := hide (by rw [← unhide HT]; have := readV_size hd h (slN o); show (readV ss xs h (slN o)).size ≤ 65536; omega)
  have HFS : Hid (∀ i, (F i).size ≤ 65536) := hide (fun i => by rw [← unhide HF]; have := readV_size hd h (slN o + 1 + (i : Int)); show (readV ss xs h (slN o + 1 + (i : Int))).size ≤ 65536; omega)
  have HTR : Hid (readV ss xs h (slN o) = T) := HT
  have HFR : Hid (∀ i : Nat, readV ss xs h (slN o + 1 + (i : Int)) = F i) := hide (fun i => by rw [← unhide HF]; rfl)
  rw [unhide HT, unhide HF]
  have HD := hide hd
  have HH := hide ho
  have HA := hide (Joins.below_alloc2 w (.cells #[.slice ao ss.length ca, .slice bo xs.length cb] 32) (.cells #[] 49))
  have HV := hide ((VarD.new w (.slice ao ss.length ca) (.slice bo xs.length cb)).below (Joins.below_alloc1 _ (.cells #[] 49)))
  have H1 := hide (h1.below (unhide HA))
  have H2 := hide (h2.below (unhide HA))
  have HS1 := hide h1
  have HS2 := hide h2
  have H0 : Hid (∀ g W, Below w.heap.size w W → UpS w W (some ⟨g, 0, none⟩) 0 0 []) := hide (fun g W hb => ⟨.inl ⟨rfl, rfl, _, rfl⟩, hb⟩)
  have wr1 : IntKind.i64.wrap (slN o + 1) = slN o + 1 := by rw [IntKind.wrap_i64]; omega
  clear h1 h2 hd ho HT HF
  obtain ⟨c0, c1⟩ := (unhide HV).cells
  go_enter Tryd.func71, Tryd.ntmps71
  go_wp2_with fail
  go_region_held3 (fun w' => w'.cell? ⟨w.heap.size, 0, none⟩ = some (.slice ao ss.length ca) ∧ w'.cell? ⟨w.heap.size, 1, none⟩ = some (.slice bo xs.length cb)) (go_keep)
    (first
      | (go_at_call 92; refine (l07Slot_any o _ (unhide HH)).mono ?_; rintro e w1 ⟨rfl, hw⟩; replace hw := hw.symm; subst hw)
      | (go_at_call 112; refine (l01ReadAt ao bo ca cb ss xs h (slN o) T _ (unhide HD) (by omega) (by omega) (unhide HTR) (by exact (unhide H1).below (Below.refl _ _).drew) (by exact (unhide H2).below (Below.refl _ _).drew)).mono ?_; rintro e W1 ⟨rfl, hb⟩; have HBd := hide (fr (Below.refl _ _).drew hb); have HV1 := hide ((unhide HV).below (unhide HBd)); have HB1 := hide (fr (unhide HA) (unhide HBd)); obtain ⟨d0, d1⟩ := (unhide HV1).cells; clear hb))
  clear c0 c1 HV
  by_cases hT0 : T.size = 0
  · obtain rfl := bytes0 hT0
    obtain ⟨e1, e2, e3⟩ := sd_empty hT0
    have HE : Hid (jkB ⟨#[]⟩ F = true ∧ jkL ⟨#[]⟩ F = [] ∧ jkS ⟨#[]⟩ F = 0) := hide (by
      obtain ⟨k1, k2, k3⟩ := jk_yes (F := F) e1 (fuB_yes (fun i hi => by rw [e2] at hi; omega))
      rw [e2] at k2; rw [e3] at k3
      exact ⟨k1, k2.trans rfl, k3⟩)
    clear e1 e2 e3 hT0
    go_wp2
    refine bodyPost_ret (v := .tuple #[.slice (some ⟨w.heap.size + 1, 0, none⟩) 0 0, .int .i64 0, .bool true]) (by simp [results, Tryd.results71, go_sem]) rfl ⟨some ⟨w.heap.size + 1, 0, none⟩, 0, 0, ?_, ?_⟩
    · rw [(unhide HE).1, (unhide HE).2.2]
    · rw [(unhide HE).2.1]; exact unhide H0 _ _ (unhide HB1)
  have hTb := text_full hT0
  go_wp2_with fail
  refine (l02Open_any T 7 _ (unhide HTS)).mono ?_
  rintro e W2 ⟨v, rfl, ⟨qo, qa, rfl, hown⟩, hb⟩
  have HB2 := hide (fr (unhide HB1) hb)
  have HV2 := hide ((unhide HV1).below hb)
  have HO := hide hown
  clear hb hown d0 d1
  by_cases hop : openB T 7 = false
  · obtain ⟨e1, e2, e3⟩ := jk_shut (F := F) (sd_shut hT0 hop)
    have HE := hide (And.intro e1 (And.intro e2 e3))
    clear e1 e2 e3
    go_wp2
    refine bodyPost_ret (v := .tuple #[.slice (some ⟨w.heap.size + 1, 0, none⟩) 0 0, .int .i64 0, .bool false]) (by simp [results, Tryd.results71, go_sem]) rfl ⟨some ⟨w.heap.size + 1, 0, none⟩, 0, 0, ?_, ?_⟩
    · rw [(unhide HE).1, (unhide HE).2.2]
    · rw [(unhide HE).2.1]; exact unhide H0 _ _ (unhide HB2)
  rw [Bool.not_eq_false] at hop
  by_cases hl2 : (openL T 7).length = 2
  case neg =>
    obtain ⟨e1, e2, e3⟩ := jk_shut (F := F) (sd_len hT0 hl2)
    have HE := hide (And.intro e1 (And.intro e2 e3))
    have hl2b : (((openL T 7).length : Int) != 2) = true := by simp; omega
    clear e1 e2 e3
    go_wp2
    refine bodyPost_ret (v := .tuple #[.slice (some ⟨w.heap.size + 1, 0, none⟩) 0 0, .int .i64 0, .bool false]) (by simp [results, Tryd.results71, go_sem]) rfl ⟨some ⟨w.heap.size + 1, 0, none⟩, 0, 0, ?_, ?_⟩
    · rw [(unhide HE).1, (unhide HE).2.2]
    · rw [(unhide HE).2.1]; exact unhide H0 _ _ (unhide HB2)
  obtain ⟨a, b, hl⟩ := two_ofJ hl2
  have hI := ownRN (unhide HO)
  rw [hl] at hI ⊢
  obtain ⟨g, off, rfl, hi0⟩ := hI 0 (by simp)
  obtain ⟨g', off', he, hi1⟩ := hI 1 (by simp)
  cases he
  simp only [List.getElem_cons_zero, List.getElem_cons_succ, Nat.add_zero] at hi0 hi1
  simp only [List.length_cons, List.length_nil, Nat.zero_add, Nat.reduceAdd]
  have hg := World.block_lt_of_cell? _ _ hi0
  clear hI hl2
  by_cases ha5 : a ≤ 5
  case neg =>
    obtain ⟨e1, e2, e3⟩ := jk_shut (F := F) (sd_many hT0 hl ha5)
    have HE := hide (And.intro e1 (And.intro e2 e3))
    have ha5' : a > 5 := by omega
    clear e1 e2 e3 hl
    go_wp2
    refine bodyPost_ret (v := .tuple #[.slice (some ⟨w.heap.size + 1, 0, none⟩) 0 0, .int .i64 0, .bool false]) (by simp [results, Tryd.results71, go_sem]) rfl ⟨some ⟨w.heap.size + 1, 0, none⟩, 0, 0, ?_, ?_⟩
    · rw [(unhide HE).1, (unhide HE).2.2]
    · rw [(unhide HE).2.1]; exact unhide H0 _ _ (unhide HB2)
  obtain ⟨y1, y2, y3, y4, y5⟩ := sd_yes hT0 hop hl ha5
  have HY := hide (And.intro y1 y4)
  obtain ⟨N, hN⟩ : ∃ N, N = sdN T := ⟨_, rfl⟩
  have HN := hide hN
  rw [← hN] at y2 y3
  subst y2
  clear y1 y4 y5 hN hl
  have HC := hide (And.intro hi0 hi1)
  have HG := hide hg
  have ha5n : ¬ ((N : Int) > 5) := by omega
  go_wp2
  go_loopw [9, 13] (fun q i wr => ∃ (k : Nat) (ro : Option Addr) (ra : Nat), k ≤ N ∧ i = .int .i64 k ∧ q = .slice ro k ra ∧ Hid (UpS W2 wr ro k ra ((fuL F N).take k)) ∧ Hid (∀ j, j < k → duB (F j) = true)) (fun _ i _ => N - (intOf i).toNat)
  case atStart => exact ⟨0, _, _, Nat.zero_le _, rfl, rfl, hide ⟨.inl ⟨rfl, rfl, _, rfl⟩, Below.refl _ _⟩, hide (fun j hj => by omega)⟩
  case round =>
    obtain ⟨k, ro, ra, hk, rfl, rfl, HU, HP⟩ := hrel
    have HW := hide (unhide HU).k
    have r0 := ((unhide HW).cell (p := ⟨g, off, none⟩) (unhide HG)).trans (unhide HC).1
    by_cases hlt : k < N
    · have hki : (k : Int) < (N : Int) := by omega
      have HVr := hide ((unhide HV2).below (unhide HW))
      obtain ⟨d0, d1⟩ := (unhide HVr).cells
      have hvl := (unhide HVr).lt
      have hvn : w.heap.size ≠ wr.heap.size := Nat.ne_of_lt hvl
      have hvn' : wr.heap.size ≠ w.heap.size := Ne.symm hvn
      have wr2 : IntKind.i64.wrap (slN o + 1 + (k : Int)) = slN o + 1 + (k : Int) := by rw [IntKind.wrap_i64]; omega
      have HFk := hide (unhide HFS k)
      have HRk := hide (unhide HFR k)
      have HBr := hide (fr (unhide HB2) (unhide HU).k)
      go_upto_region 11 with fail
      go_cut [14, 15] from 44 to 69 (fun c q wx => ∃ C : Nat, c = .pointer (some ⟨C, 0, none⟩) ∧ q = .bool (duB (F k)) ∧ Hid (GotU wr wx C 49 (duU (F k))))
      case first =>
        go_region_held3 (fun w' => w'.cell? ⟨w.heap.size, 0, none⟩ = some (.slice ao ss.length ca) ∧ w'.cell? ⟨w.heap.size, 1, none⟩ = some (.slice bo xs.length cb)) (go_keep)
          (first
            | (go_at_call 92; refine (l07Slot_any o _ (unhide HH)).mono ?_; rintro e w1 ⟨rfl, hw⟩; replace hw := hw.symm; subst hw)
            | (go_at_call 112; refine (l01ReadAt ao bo ca cb ss xs h (slN o + 1 + (k : Int)) (F k) _ (unhide HD) (by omega) (by omega) (unhide HRk) (by first | exact ((unhide HS1).below (unhide HBr)).below (Below.refl _ _).drew | exact ((unhide HS1).below (unhide HBr)).below (Joins.below_alloc1 _ _).drew) (by first | exact ((unhide HS2).below (unhide HBr)).below (Below.refl _ _).drew | exact ((unhide HS2).below (unhide HBr)).below (Joins.below_alloc1 _ _).drew)).mono ?_; rintro e w3 ⟨rfl, hb⟩; (first | (have HV3 : Hid (VarU w3 wr.heap.size 49 up0) := (by exact hide (((VarU.new wr 49 up0).below (Below.refl _ _).drew).below hb)); have HB3 : Hid (Below wr.heap.size wr w3) := (by exact hide (fr (Joins.below_alloc1 wr _).drew hb)); clear hb) | (have HB3 : Hid (Below wr.heap.size wr w3) := (by exact hide (fr ((Below.refl _ wr).drew) hb)); clear hb)); obtain ⟨m0, m1⟩ := ((unhide HVr).below (unhide HB3)).cells; have hvl3 := ((unhide HVr).below (unhide HB3)).lt; have hvn3 : w.heap.size ≠ w3.heap.size := Nat.ne_of_lt hvl3; have hvn3' : w3.heap.size ≠ w.heap.size := Ne.symm hvn3)
            | (go_at_call 114; refine (l07Decode_any (F k) _ (unhide HFk)).mono ?_; rintro e w4 ⟨rfl, hb⟩; (first | (have HV4 : Hid (VarU w4 wr.heap.size 49 up0) := (by exact hide ((unhide HV3).below hb)); have HB4 : Hid (Below wr.heap.size wr w4) := (by exact hide (fr (unhide HB3) hb)); obtain ⟨z0, z1⟩ := (unhide HV4).cells; obtain ⟨q0, q1⟩ := (unhide HV4).free; clear hb) | (have HV4 : Hid (VarU w4 w3.heap.size 49 up0) := (by exact hide ((VarU.new w3 49 up0).below hb)); have HB4 : Hid (Below wr.heap.size wr w4) := (by exact hide (fr (belowAl (unhide HB3) _) hb)); obtain ⟨z0, z1⟩ := (unhide HV4).cells; obtain ⟨q0, q1⟩ := (unhide HV4).free; clear hb) | (have HB4 : Hid (Below wr.heap.size wr w4) := (by exact hide (fr (unhide HB3) hb)); clear hb)); obtain ⟨n0, n1⟩ := ((unhide HVr).below (unhide HB4)).cells; have hvl4 := ((unhide HVr).below (unhide HB4)).lt; have hvn4 : w.heap.size ≠ w4.heap.size := Nat.ne_of_lt hvl4; have hvn4' : w4.heap.size ≠ w.heap.size := Ne.symm hvn4))
        all_goals
          go_wp2_with fail
          go_meet
          first
            | exact ⟨_, rfl, rfl, hide (GotU.set (unhide HB4) (unhide HV4) (by first | exact Nat.le_refl _ | exact (unhide HB3).size))⟩
            | exact ⟨_, rfl, rfl, hide (GotU.top _ _ (unhide HB4))⟩
      case rest =>
        obtain ⟨C, rfl, rfl, HGU⟩ := hcut
        rename World => W3
        have HU3 := hide ((unhide HU).next (unhide HGU).k)
        obtain ⟨x0, x1⟩ := (unhide HGU).v.cells
        have hCl := (unhide HGU).v.lt
        clear d0 d1 r0 hvl hvn hvn'
        by_cases hdk : duB (F k) = true
        · have HPP : Hid (∀ j, j < k + 1 → duB (F j) = true) := hide (fun j hj => by
            by_cases e : j = k
            · rw [e]; exact hdk
            · exact unhide HP j (by omega))
          have HUA := hide ((unhide HU3).next (Joins.below_alloc1 W3 (.cells #[.int .i64 (duU (F k)).at_, .string (duU (F k)).data] 49)))
          have HSZ := hide (unhide HUA).sz
          rw [hdk]
          go_wp2_with (at_builtin; refine wpList_append_one rfl _ _ 40 rfl W2.heap.size 49 i0 (.agg #[.int .i64 0, .string ⟨#[]⟩]) 2 24 Tryd.underlying40 hi hz0 hz1 hz2 rfl (by omega) ro k ra (upsV ((fuL F N).take k)) rfl (unhide HUA).o (unhide HSZ) ⟨W3.heap.size, 0, none⟩ _ (upV (duU (F k))) rfl rfl (news2_at W3 _ _ _ rfl) (upV_one _) (by unfold maxLen; omega) (by omega) ?_; intro g2 cap2 wA hoA hkA; have HN2 := hide (UpS.one (unhide HUA) hoA hkA); clear hoA hkA)
          go_roundw
          case rel => exact ⟨k + 1, _, _, by omega, by go_num, rfl, hide (by rw [fuL_take hlt]; exact unhide HN2), HPP⟩
          case measure => simp [intOf]; omega
        · rw [Bool.not_eq_true] at hdk
          have HE := hide (jk_bad (T := T) (F := F) (by rw [← unhide HN]; exact fuB_no hlt hdk))
          rw [hdk]
          go_wp2
          refine bodyPost_ret (v := .tuple #[.slice (some ⟨W3.heap.size, 0, none⟩) 0 0, .int .i64 0, .bool false]) (by simp [results, Tryd.results71, go_sem]) rfl ⟨some ⟨W3.heap.size, 0, none⟩, 0, 0, ?_, ?_⟩
          · rw [(unhide HE).1, (unhide HE).2.2]
          · rw [(unhide HE).2.1]; exact unhide H0 _ _ (belowAl (fr (unhide HB2) (unhide HU3).k) _)
    · have hke : k = N := by omega
      subst hke
      have r1 := ((unhide HW).cell (p := ⟨g, off + 1, none⟩) (unhide HG)).trans (unhide HC).2
      have HE := hide (jk_yes (F := F) (unhide HY).1 (by rw [← unhide HN]; exact fuB_yes (unhide HP)))
      have hkn : ¬ ((k : Int) < (k : Int)) := by omega
      go_wp2
      go_region
      all_goals
        go_wp2
        refine bodyPost_ret (v := .tuple #[.slice ro k ra, .int .i64 b, .bool true]) (by simp [results, Tryd.results71, go_sem]) rfl ⟨ro, ra, k, ?_, ?_⟩
        · rw [(unhide HE).1, (unhide HE).2.2, (unhide HY).2]
        · rw [(unhide HE).2.1, ← unhide HN]
          have := unhide HU
          rw [fuL_done (Nat.le_refl _)] at this
          exact ⟨(this.o.base (unhide HB2).size).below (Below.refl _ _).drew, fr (fr (unhide HB2) this.k) (Below.refl _ _).drew⟩

end Go.Proofs.YtefnapcegeojoabDoor

/- Contracts of spec's journals that are read: l07Ask, JournalOf, l07Replay, ReplayPlan. -/
namespace Go.Proofs.YtefnapcegeojoabDoor
open Go.RowKit
set_option linter.unusedVariables false
set_option maxRecDepth 100000

def jaC (ss : List ByteArray) (xs : List Wr) (h o : Int) : Int := if hostC ss xs h = 0 then (if inB o 0 3 = true then 0 else 4) else hostC ss xs h
theorem ja_host {ss : List ByteArray} {xs : List Wr} {h o : Int} (e : hostC ss xs h ≠ 0) : jaC ss xs h o = hostC ss xs h := if_neg e
theorem ja_range {ss : List ByteArray} {xs : List Wr} {h o : Int} (e : hostC ss xs h = 0) (e1 : inB o 0 3 = false) : jaC ss xs h o = 4 := by rw [jaC, if_pos e, if_neg (by simp [e1])]
theorem ja_ok {ss : List ByteArray} {xs : List Wr} {h o : Int} (e : hostC ss xs h = 0) (e1 : inB o 0 3 = true) : jaC ss xs h o = 0 := by rw [jaC, if_pos e, if_pos e1]
theorem ja_zero {ss : List ByteArray} {xs : List Wr} {h o : Int} (e : jaC ss xs h o = 0) : hostC ss xs h = 0 ∧ inB o 0 3 = true := by
  unfold jaC at e
  split at e
  · split at e
    · exact ⟨by assumption, by assumption⟩
    · cases e
  · rename_i h1; exact absurd e h1
theorem ja_jo {ss : List ByteArray} {xs : List Wr} {h o : Int} (e : jaC ss xs h o ≠ 0) : joC ss xs h o = jaC ss xs h o := by
  by_cases e0 : hostC ss xs h = 0
  · by_cases e1 : inB o 0 3 = true
    · exact absurd (ja_ok e0 e1) e
    · rw [Bool.not_eq_true] at e1; rw [ja_range e0 e1, joC_range e0 e1]
  · rw [ja_host e0, joC_host e0]
theorem ja_yes {ss : List ByteArray} {xs : List Wr} {h o : Int} (e : jaC ss xs h o = 0) : joC ss xs h o = if jkB (joH ss xs h o) (joF ss xs h o) = true then 0 else 18 := by
  obtain ⟨e0, e1⟩ := ja_zero e
  rw [joC, if_pos e0, if_pos e1]

set_option maxHeartbeats 1600000 in
theorem l07Ask_any (ao bo : Option Addr) (ca cb : Nat) (ss : List ByteArray) (xs : List Wr) (h o : Int) (w : World) (hl : ss.length ≤ maxLen) (hm : xs.length ≤ maxLen) (h1 : Ss w ao ss) (h2 : Ios w bo xs) :
    Calls Tryd.prog 33 #[.agg #[.slice ao ss.length ca, .slice bo xs.length cb], .int .i64 h, .int .i64 o] w fun e w' => e = .returned (.int .i64 (jaC ss xs h o)) ∧ Below w.heap.size w w' := by
  have HA := hide (Joins.below_alloc1 w (.cells #[.slice ao ss.length ca, .slice bo xs.length cb] 32))
  have H1 := hide (h1.below (unhide HA))
  have H2 := hide (h2.below (unhide HA))
  have HL := hide hl
  have HM := hide hm
  clear h1 h2 hl hm
  go_enter Tryd.func33, Tryd.ntmps33
  go_wp2_with fail
  refine (l01Ask_any ao bo ca cb ss xs h 0 _ (unhide HL) (unhide HM) (unhide H1) (unhide H2)).mono ?_
  rintro e w1 ⟨rfl, hb⟩
  have HB := hide (fr (unhide HA) hb)
  clear hb
  rw [ask_zero]
  by_cases e0 : hostC ss xs h = 0
  · have e0b : (hostC ss xs h != 0) = false := by simp [e0]
    go_wp2_with fail
    refine (l04Host_any o _).mono ?_
    rintro e w2 ⟨rfl, hw⟩
    replace hw := hw.symm
    subst hw
    by_cases e1 : inB o 0 3 = true
    · have HE := hide (ja_ok e0 e1)
      clear e0
      rw [e1]
      go_wp2
      go_ret
      exact ⟨ret_int (unhide HE).symm, unhide HB⟩
    · rw [Bool.not_eq_true] at e1
      have HE := hide (ja_range e0 e1)
      clear e0
      rw [e1]
      go_wp2
      go_ret
      exact ⟨ret_int (unhide HE).symm, unhide HB⟩
  · have e0b : (hostC ss xs h != 0) = true := by simp [e0]
    have HE := hide (ja_host (o := o) e0)
    clear e0
    go_wp2
    go_ret
    exact ⟨ret_int (unhide HE).symm, unhide HB⟩

theorem ret_jf {v u : Value} {a b c d : Int} (h : v = u) (k : a = b) (l : c = d) : Ending.returned (.tuple #[v, .int .i64 a, .int .i64 c]) = .returned (.tuple #[u, .int .i64 b, .int .i64 d]) := by rw [h, k, l]

theorem ret_vb {v u : Value} {a b : Bool} (h : v = u) (k : a = b) : Ending.returned (.tuple #[v, .bool a]) = .returned (.tuple #[u, .bool b]) := by rw [h, k]
def jkM (o : Int) (T : ByteArray) (F : Nat → ByteArray) : List Wr := rpL (slN o) (jkS T F) (jkL T F)

set_option maxHeartbeats 1600000 in
theorem l07Replay_any (ao bo : Option Addr) (ca cb : Nat) (ss : List ByteArray) (xs : List Wr) (h o : Int) (w : World) (hd : diskB ss xs = true) (ho : inB o 0 3 = true) (h1 : Ss w ao ss) (h2 : Ios w bo xs) :
    Calls Tryd.prog 34 #[.agg #[.slice ao ss.length ca, .slice bo xs.length cb], .int .i64 h, .int .i64 o] w fun e w' => ∃ qo qa n, e = .returned (.tuple #[.slice qo n qa, .bool (jkB (joH ss xs h o) (joF ss xs h o))]) ∧ ApS w w' qo n qa (jkM o (joH ss xs h o) (joF ss xs h o)) := by
  have HA := hide (Joins.below_alloc1 w (.cells #[.slice ao ss.length ca, .slice bo xs.length cb] 32))
  have H1 := hide (h1.below (unhide HA))
  have H2 := hide (h2.below (unhide HA))
  have HD := hide hd
  have HO := hide ho
  have H0 : Hid (∀ g W, Below w.heap.size w W → ApS w W (some ⟨g, 0, none⟩) 0 0 []) := hide (fun g W hb => ⟨.inl ⟨rfl, rfl, _, rfl⟩, hb⟩)
  obtain ⟨T, HT⟩ : ∃ T, Hid (joH ss xs h o = T) := ⟨_, hide rfl⟩
  obtain ⟨F, HF⟩ : ∃ F, Hid (joF ss xs h o = F) := ⟨_, hide rfl⟩
  have HOF : Hid (∀ W, Ss W ao ss → Ios W bo xs → Calls Tryd.prog 71 #[.agg #[.slice ao ss.length ca, .slice bo xs.length cb], .int .i64 h, .int .i64 o] W fun e w' =>
      ∃ qo qa n, e = .returned (.tuple #[.slice qo n qa, .int .i64 (jkS T F), .bool (jkB T F)]) ∧ UpS W w' qo n qa (jkL T F)) := hide (fun W k1 k2 => by
    have := l07Of_any ao bo ca cb ss xs h o W (unhide HD) (unhide HO) k1 k2
    rw [unhide HT, unhide HF] at this; exact this)
  rw [unhide HT, unhide HF]
  have HR := hide (jk_right T F)
  clear h1 h2 hd ho HT HF
  go_enter Tryd.func34, Tryd.ntmps34
  go_wp2_with fail
  refine (unhide HOF _ (unhide H1) (unhide H2)).mono ?_
  rintro e w2 ⟨qo, qa, n, rfl, hu⟩
  have HU := hide hu
  have HB := hide (fr (unhide HA) hu.k)
  have hnl := hu.len
  clear hu
  subst hnl
  by_cases hk : jkB T F = true
  · by_cases hn : (jkL T F).length = 0
    · have HM : Hid (jkM o T F = []) := hide (if_pos hn)
      have hnb : (((jkL T F).length : Int) == 0) = true := by simp [hn]
      clear hn
      rw [hk]
      go_wp2
      refine bodyPost_ret (v := .tuple #[.slice (some ⟨w2.heap.size, 0, none⟩) 0 0, .bool true]) (by simp [results, Tryd.results34, go_sem]) rfl ⟨_, _, _, ret_vb rfl hk.symm, ?_⟩
      rw [unhide HM]; exact unhide H0 _ _ (belowAl (unhide HB) _)
    · have hnb : (((jkL T F).length : Int) == 0) = false := by rw [beq_eq_false_iff_ne]; omega
      have HM : Hid (jkM o T F = apL (slN o) (jkS T F) (jkL T F)) := hide (if_neg hn)
      have HS := hide ((unhide HR).2.2 hn)
      have HUP := hide ((unhide HU).ups (unhide HR).1)
      have hl5 : (jkL T F).length ≤ 5 := (unhide HR).2.1
      rw [hk]
      clear hn
      go_wp2_with fail
      refine (l07Apply_any o (jkS T F) qo qa (jkL T F) _ (unhide HO) (unhide HS) hl5 (unhide HUP)).mono ?_
      rintro e w3 ⟨po, pa, rfl, ha⟩
      have HAP : Hid (ApS w w3 po ((jkL T F).length + 3) pa (jkM o T F)) := hide (by rw [unhide HM]; exact ⟨ha.o.base (unhide HB).size, fr (unhide HB) ha.k⟩)
      clear ha
      go_wp2
      exact bodyPost_ret (v := .tuple #[.slice po ((jkL T F).length + 3) pa, .bool true]) (by simp [results, Tryd.results34, go_sem]) rfl ⟨_, _, _, ret_vb rfl hk.symm, unhide HAP⟩
  · have HM : Hid (jkM o T F = []) := hide (by
      have e1 : jkL T F = [] := if_neg hk
      rw [jkM, e1]; rfl)
    rw [Bool.not_eq_true] at hk
    rw [hk]
    go_wp2
    refine bodyPost_ret (v := .tuple #[.slice (some ⟨w2.heap.size, 0, none⟩) 0 0, .bool false]) (by simp [results, Tryd.results34, go_sem]) rfl ⟨_, _, _, ret_vb rfl hk.symm, ?_⟩
    rw [unhide HM]; exact unhide H0 _ _ (belowAl (unhide HB) _)

set_option maxHeartbeats 1600000 in
theorem replayPlan_spec (ao bo : Option Addr) (ca cb : Nat) (ss : List ByteArray) (xs : List Wr) (h o : Int) (w : World) (hl : ss.length ≤ maxLen) (hm : xs.length ≤ maxLen) (h1 : Ss w ao ss) (h2 : Ios w bo xs) :
    Calls Tryd.prog 7 #[.agg #[.slice ao ss.length ca, .slice bo xs.length cb], .int .i64 h, .int .i64 o] w fun e w' => ∃ qo qa n, e = .returned (.tuple #[.slice qo n qa, .int .i64 (joC ss xs h o)]) ∧ ApS w w' qo n qa (joM ss xs h o) := by
  have HA := hide (Joins.below_alloc1 w (.cells #[.slice ao ss.length ca, .slice bo xs.length cb] 32))
  have HV := hide (VarD.new w (.slice ao ss.length ca) (.slice bo xs.length cb))
  have H1 := hide (h1.below (unhide HA))
  have H2 := hide (h2.below (unhide HA))
  have HL := hide hl
  have HM := hide hm
  have H0 : Hid (∀ g W, Below w.heap.size w W → ApS w W (some ⟨g, 0, none⟩) 0 0 []) := hide (fun g W hb => ⟨.inl ⟨rfl, rfl, _, rfl⟩, hb⟩)
  clear h1 h2 hl hm
  go_enter Tryd.func7, Tryd.ntmps7
  go_wp2_with fail
  refine (l07Ask_any ao bo ca cb ss xs h o _ (unhide HL) (unhide HM) (unhide H1) (unhide H2)).mono ?_
  rintro e w1 ⟨rfl, hb⟩
  have HB := hide (fr (unhide HA) hb)
  have HV1 := hide ((unhide HV).below hb)
  have H11 := hide ((unhide H1).below hb)
  have H21 := hide ((unhide H2).below hb)
  clear hb
  obtain ⟨d0, d1⟩ := (unhide HV1).cells
  by_cases e0 : jaC ss xs h o = 0
  · have e0b : (jaC ss xs h o != 0) = false := by simp [e0]
    obtain ⟨e1, e2⟩ := ja_zero e0
    have HD := hide (hostC_eq e1).1
    have HO := hide e2
    have HY := hide (ja_yes e0)
    clear e0 e1 e2
    go_wp2_with fail
    refine (l07Replay_any ao bo ca cb ss xs h o _ (unhide HD) (unhide HO) (unhide H11) (unhide H21)).mono ?_
    rintro e w2 ⟨qo, qa, n, rfl, hu⟩
    have HU : Hid (ApS w w2 qo n qa (jkM o (joH ss xs h o) (joF ss xs h o))) := hide ⟨hu.o.base (unhide HB).size, fr (unhide HB) hu.k⟩
    clear hu
    by_cases hk : jkB (joH ss xs h o) (joF ss xs h o) = true
    · have HC : Hid (joC ss xs h o = 0) := hide ((unhide HY).trans (if_pos hk))
      have HJ : Hid (joM ss xs h o = jkM o (joH ss xs h o) (joF ss xs h o)) := hide (by rw [joM, (jo_yes (unhide HC)).1, (jo_yes (unhide HC)).2]; rfl)
      rw [hk]
      go_wp2
      refine bodyPost_ret (v := .tuple #[.slice qo n qa, .int .i64 0]) (by simp [results, Tryd.results7, go_sem]) rfl ⟨qo, qa, n, ret_ni rfl (unhide HC).symm, ?_⟩
      rw [unhide HJ]; exact unhide HU
    · have HC : Hid (joC ss xs h o = 18) := hide ((unhide HY).trans (if_neg hk))
      have HJ := hide (jo_no (show joC ss xs h o ≠ 0 by rw [unhide HC]; decide))
      rw [Bool.not_eq_true] at hk
      rw [hk]
      go_wp2
      refine bodyPost_ret (v := .tuple #[.slice (some ⟨w2.heap.size, 0, none⟩) 0 0, .int .i64 18]) (by simp [results, Tryd.results7, go_sem]) rfl ⟨_, _, _, ret_ni rfl (unhide HC).symm, ?_⟩
      rw [(unhide HJ).2.2]; exact unhide H0 _ _ (belowAl (unhide HU).k _)
  · have e0b : (jaC ss xs h o != 0) = true := by simp [e0]
    have HC := hide (ja_jo e0)
    have HJ := hide (jo_no (show joC ss xs h o ≠ 0 by rw [unhide HC]; exact e0))
    clear e0
    go_wp2
    refine bodyPost_ret (v := .tuple #[.slice (some ⟨w1.heap.size, 0, none⟩) 0 0, .int .i64 (jaC ss xs h o)]) (by simp [results, Tryd.results7, go_sem]) rfl ⟨_, _, _, ret_ni rfl (unhide HC).symm, ?_⟩
    rw [(unhide HJ).2.2]; exact unhide H0 _ _ (belowAl (unhide HB) _)

end Go.Proofs.YtefnapcegeojoabDoor

/- Plain words of the clocks, and contracts of their tests: within, hourOK, configInBounds, l01In, l03Bounds. -/
namespace Go.Proofs.YtefnapcegeojoabDoor
open Go.RowKit
set_option linter.unusedVariables false
set_option maxRecDepth 100000

theorem hidB {p : Prop} (h : p) : Hid p := h
theorem frB {a b c : World} (h : Below a.heap.size a b) (k : Below b.heap.size b c) : Below a.heap.size a c := h.trans (k.mono h.size)
/-- A number within bounds. -/
def betw (n low high : Int) : Bool := decide (low ≤ n) && decide (n ≤ high)
theorem betw_yes {n low high : Int} (h : low ≤ n) (h' : n ≤ high) : betw n low high = true := by simp [betw, h, h']
theorem betw_no {n low high : Int} (h : ¬ (low ≤ n ∧ n ≤ high)) : betw n low high = false := by simp only [betw, Bool.and_eq_false_iff, decide_eq_false_iff_not]; omega
theorem betw_iff {n low high : Int} : betw n low high = true ↔ low ≤ n ∧ n ≤ high := by simp [betw]
/-- A configuration within its bounds. -/
def cfgB (f d l r : Int) : Bool := betw f 1 10000 && betw d 1 100000 && betw l 0 1000 && betw r 0 500
theorem cfgB_iff {f d l r : Int} : cfgB f d l r = true ↔ (1 ≤ f ∧ f ≤ 10000) ∧ (1 ≤ d ∧ d ≤ 100000) ∧ (0 ≤ l ∧ l ≤ 1000) ∧ 0 ≤ r ∧ r ≤ 500 := by
  simp only [cfgB, Bool.and_eq_true, betw_iff, and_assoc]
/-- The bounds of true time. -/
def latQ (r x : Int) : Int := ((x + 1) * 1000 + 999 - r) / (1000 - r)
def earQ (r x : Int) : Int := (x - 1) * 1000 / (1000 + r)
def locQ (o r t : Int) : Int := o + t * (1000 + r) / 1000
abbrev cfgV (f d l r : Int) : Value := .agg #[.int .i64 f, .int .i64 d, .int .i64 l, .int .i64 r]
abbrev clkV (o r : Int) : Value := .agg #[.int .i64 o, .int .i64 r]

/-- A configuration in a variable. -/
abbrev Four (w : World) (b : Nat) (f d l r : Int) : Prop := w.cell? ⟨b, 0, none⟩ = some (.int .i64 f) ∧ w.cell? ⟨b, 1, none⟩ = some (.int .i64 d) ∧ w.cell? ⟨b, 2, none⟩ = some (.int .i64 l) ∧ w.cell? ⟨b, 3, none⟩ = some (.int .i64 r)
theorem Four.below {w w' : World} {b : Nat} {f d l r : Int} (h : Four w b f d l r) (hb : Below w.heap.size w w') : Four w' b f d l r :=
  ⟨(hb.cell (World.block_lt_of_cell? _ _ h.1)).trans h.1, (hb.cell (World.block_lt_of_cell? _ _ h.2.1)).trans h.2.1, (hb.cell (World.block_lt_of_cell? _ _ h.2.2.1)).trans h.2.2.1, (hb.cell (World.block_lt_of_cell? _ _ h.2.2.2)).trans h.2.2.2⟩
set_option maxHeartbeats 800000 in
theorem within_any (n low high : Int) (w : World) : Calls Tryd.prog 121 #[.int .i64 n, .int .i64 low, .int .i64 high] w fun e w' => e = .returned (.bool (betw n low high)) ∧ w' = w := by
  by_cases h1 : low ≤ n
  · by_cases h2 : n ≤ high
    · have hr := hidB (betw_yes h1 h2)
      go_enter Tryd.func121, Tryd.ntmps121
      go_wp2
      go_ret
      rw [show betw n low high = true from hr]
      exact ⟨rfl, rfl⟩
    · have hr := hidB (betw_no (n := n) (low := low) (high := high) (by omega))
      go_enter Tryd.func121, Tryd.ntmps121
      go_wp2
      go_ret
      rw [show betw n low high = false from hr]
      exact ⟨rfl, rfl⟩
  · have hr := hidB (betw_no (n := n) (low := low) (high := high) (by omega))
    go_enter Tryd.func121, Tryd.ntmps121
    go_wp2
    go_ret
    rw [show betw n low high = false from hr]
    exact ⟨rfl, rfl⟩
set_option maxHeartbeats 800000 in
theorem in_any (n low high : Int) (w : World) : Calls Tryd.prog 90 #[.int .i64 n, .int .i64 low, .int .i64 high] w fun e w' => e = .returned (.bool (betw n low high)) ∧ w' = w := by
  by_cases h1 : low ≤ n
  · by_cases h2 : n ≤ high
    · have hr := hidB (betw_yes h1 h2)
      go_enter Tryd.func90, Tryd.ntmps90
      go_wp2
      go_ret
      rw [show betw n low high = true from hr]
      exact ⟨rfl, rfl⟩
    · have hr := hidB (betw_no (n := n) (low := low) (high := high) (by omega))
      go_enter Tryd.func90, Tryd.ntmps90
      go_wp2
      go_ret
      rw [show betw n low high = false from hr]
      exact ⟨rfl, rfl⟩
  · have hr := hidB (betw_no (n := n) (low := low) (high := high) (by omega))
    go_enter Tryd.func90, Tryd.ntmps90
    go_wp2
    go_ret
    rw [show betw n low high = false from hr]
    exact ⟨rfl, rfl⟩

theorem cfg_1 {f d l r : Int} (h : betw f 1 10000 = false) : cfgB f d l r = false := by simp [cfgB, h]
theorem cfg_2 {f d l r : Int} (h : betw d 1 100000 = false) : cfgB f d l r = false := by simp [cfgB, h]
theorem cfg_3 {f d l r : Int} (h : betw l 0 1000 = false) : cfgB f d l r = false := by simp [cfgB, h]
theorem cfg_4 {f d l r : Int} (h1 : betw f 1 10000 = true) (h2 : betw d 1 100000 = true) (h3 : betw l 0 1000 = true) : cfgB f d l r = betw r 0 500 := by simp [cfgB, h1, h2, h3]

end Go.Proofs.YtefnapcegeojoabDoor

/- Contract of impl.packNumbers. -/
namespace Go.Proofs.YtefnapcegeojoabDoor
open Go.RowKit
set_option linter.unusedVariables false
set_option maxRecDepth 100000

theorem block_alloc {w : World} {g : Nat} {c : Array Value} {t : TypeId} {f : Nat × Nat} (h : w.heap[g]? = some (.cells c t f)) (o : Obj) : (w.alloc o).heap[g]? = some (.cells c t f) := by
  rw [(Joins.below_alloc1 w o).block g (Array.getElem?_eq_some_iff.1 h).1]; exact h

/-- The bytes that stand in the array when k numbers are in it. -/
def arrL (xs : List Int) (k : Nat) : List Value := byteV (packL (xs.take k)) ++ List.replicate (64 - k * 4) (.int .u8 0)
theorem arrL_zero (xs : List Int) : arrL xs 0 = List.replicate 64 (.int .u8 0) := by simp [arrL, packL, byteV]
theorem four_lit {n : Int} (h : 0 ≤ n) (h' : n ≤ 2147483647) : [Value.int .u8 (n % 256), .int .u8 (n / 256 % 256), .int .u8 (n / 65536 % 256), .int .u8 (n / 16777216)] = byteV (four n) := by
  have e : n / 16777216 = n / 16777216 % 256 := by omega
  have : byteV (four n) = [Value.int .u8 (n / (256 : Int) ^ 0 % 256), .int .u8 (n / (256 : Int) ^ 1 % 256), .int .u8 (n / (256 : Int) ^ 2 % 256), .int .u8 (n / (256 : Int) ^ 3 % 256)] := rfl
  rw [this, e]
  simp
theorem arrL_length {xs : List Int} {k : Nat} (hl : xs.length ≤ 16) (hk : k ≤ xs.length) : (arrL xs k).length = 64 := by
  rw [arrL, List.length_append, byteV_length, packL_length, List.length_replicate, List.length_take, Nat.min_eq_left hk]
  omega
theorem arrL_splice {xs : List Int} {k : Nat} (hl : xs.length ≤ 16) (hk : k < xs.length) : splice (arrL xs k) (k * 4) (byteV (four xs[k])) = arrL xs (k + 1) := by
  have h1 : (byteV (packL (xs.take k))).length = k * 4 := by rw [byteV_length, packL_length, List.length_take, Nat.min_eq_left (by omega)]
  have h4 : (byteV (four xs[k])).length = 4 := by rw [byteV_length, four, fourTo_length]
  unfold splice arrL
  rw [h4, List.take_append_of_le_length (by omega), List.take_of_length_le (by omega), List.drop_append, List.drop_of_length_le (by omega), List.nil_append, h1, packL_succ hk, List.drop_replicate]
  rw [show k * 4 + 4 - k * 4 = 4 by omega, show 64 - k * 4 - 4 = 64 - (k + 1) * 4 by omega]
  simp [byteV]
theorem arrL_cells {W : World} {g : Nat} {t : TypeId} {xs : List Int} (h : W.heap[g]? = some (.cells (arrL xs xs.length).toArray t (0, 0))) : ∀ i, i < xs.length * 4 → W.cell? ⟨g, 0 + i, none⟩ = some (.int .u8 ((packL xs).getD i 0)) := by
  intro i hi
  rw [Nat.zero_add, Joins.cell_of_block h]
  have hl : i < (packL xs).length := by rw [packL_length]; exact hi
  simp [arrL, byteV, List.getElem?_append_left, hl, List.getD]
theorem byteV_one (ns : List Int) : ∀ v ∈ byteV ns, v.oneCell' = true := by
  intro v hv
  simp only [byteV, List.mem_map] at hv
  obtain ⟨s, _, rfl⟩ := hv
  rfl
theorem lit_one (a b c d : Int) : ∀ v ∈ [Value.int .u8 a, .int .u8 b, .int .u8 c, .int .u8 d], v.oneCell' = true := by
  intro v hv
  simp at hv
  rcases hv with rfl | rfl | rfl | rfl <;> rfl
theorem sizeB : (Tryd.prog.info? 5).map (·.size) = some 1 := by kernel_rfl
theorem runB (W : World) : (Go.sizeOf 5).run Tryd.prog W = .ok 1 W := by
  have h := sizeB
  cases hq : Tryd.prog.info? 5 with
  | none => simp [hq] at h
  | some i =>
    have hi : i.size = 1 := by simpa [hq] using h
    simp [Go.sizeOf, typeInfo, hq, hi]
theorem arr64 : Tryd.prog.arrayLen 167 = 64 := by kernel_rfl
theorem und64 : Tryd.prog.underlying 167 = some (.array (Tryd.prog.arrayLen 167) (Tryd.prog.elem 167)) := by kernel_rfl
theorem elem64 : Tryd.prog.elem 167 = 5 := by kernel_rfl
theorem wrap4 (k : Nat) (hk : k ≤ 16) : IntKind.i64.wrap ((k : Int) * 4) = ((k * 4 : Nat) : Int) := by
  rw [IntKind.wrap_i64]
  omega
theorem slice64 (W : World) (g k : Nat) (hk : k < 16) : (Instr.sliceAt 167 (.pointer (some ⟨g, 0, none⟩)) (some (.int .i64 (IntKind.i64.wrap ((k : Int) * 4)))) none none).run Tryd.prog W = .ok (.slice (some ⟨g, k * 4, none⟩) (64 - k * 4) (64 - k * 4)) W := by
  rw [wrap4 k (by omega), run_sliceAt_array_l W _ _ und64 .i64 _ (by omega) (by rw [arr64]; omega), elem64, runB, arr64]
  simp only [Result.andThen, slicedAt, Int.toNat_natCast, Nat.mul_one]
  rw [if_neg (by omega), show Addr.add ⟨g, 0, none⟩ (k * 4) = ⟨g, k * 4, none⟩ from by unfold Addr.add; split <;> simp_all]
theorem slice64h (W : World) (g k : Nat) (hk : k ≤ 16) : (Instr.sliceAt 167 (.pointer (some ⟨g, 0, none⟩)) none (some (.int .i64 ((k : Int) * 4))) none).run Tryd.prog W = .ok (.slice (some ⟨g, 0, none⟩) (k * 4) 64) W := by
  rw [run_sliceAt_array_h W _ _ und64 .i64 _ (by omega) (by rw [arr64]; omega), elem64, runB, arr64]
  simp only [Result.andThen, slicedAt, Nat.mul_one, Nat.sub_zero]
  rw [if_neg (by omega), show ((k : Int) * 4).toNat = k * 4 by omega]
  rfl

set_option maxHeartbeats 1600000 in
theorem packNumbers_any (ao : Option Addr) (cap : Nat) (xs : List Int) (w : World) (hl : xs.length ≤ 16) (hn : ∀ j (h : j < xs.length), 0 ≤ xs[j] ∧ xs[j] ≤ 2147483647) (hc : Is w ao xs) :
    Calls Tryd.prog 131 #[.slice ao xs.length cap] w fun e w' => e = .returned (.string (packS xs)) ∧ Below w.heap.size w w' := by
  have HC := hide hc
  have HN := hide hn
  clear hc hn
  go_enter Tryd.func131, Tryd.ntmps131
  go_wp2
  go_loopw [9] (fun i wr => ∃ k : Nat, k ≤ xs.length ∧ i = .int .i64 k ∧ Hid (wr.heap[w.heap.size]? = some (.cells (arrL xs k).toArray 167 (0, 0))) ∧ Hid (Below w.heap.size w wr)) (fun i _ => xs.length - (intOf i).toNat)
  case atStart => exact ⟨0, Nat.zero_le _, rfl, hide (by rw [arrL_zero]; exact heap_alloc_new w _), hide (Joins.below_alloc1 _ _)⟩
  case round =>
    obtain ⟨k, hk, rfl, HO, HB⟩ := hrel
    by_cases hlt : k < xs.length
    · obtain ⟨b, off, rfl, hc⟩ := (unhide HC).below (unhide HB) k hlt
      obtain ⟨h0, h1⟩ := unhide HN k hlt
      have HBA := hide (fr (unhide HB) (Joins.below_alloc1 _ (.cells #[.int .u8 (xs[k] % 256), .int .u8 (xs[k] / 256 % 256), .int .u8 (xs[k] / 65536 % 256), .int .u8 (xs[k] / 16777216)] 159)))
      have HOA := hide (block_alloc (unhide HO) (.cells #[.int .u8 (xs[k] % 256), .int .u8 (xs[k] / 256 % 256), .int .u8 (xs[k] / 65536 % 256), .int .u8 (xs[k] / 16777216)] 159))
      have HL := hide (arrL_length hl hk)
      have HNW := hide (World.news_of_block (cs := #[.int .u8 (xs[k] % 256), .int .u8 (xs[k] / 256 % 256), .int .u8 (xs[k] / 65536 % 256), .int .u8 (xs[k] / 16777216)]) (heap_alloc_new wr (.cells #[.int .u8 (xs[k] % 256), .int .u8 (xs[k] / 256 % 256), .int .u8 (xs[k] / 65536 % 256), .int .u8 (xs[k] / 16777216)] 159)))
      have HE := hide (four_lit h0 h1)
      have HSP := hide (arrL_splice hl hlt)
      have hsl := fun W => slice64 W w.heap.size k (by omega)
      go_wp2
      go_region_law (refine step_copy_splice ?_ (.tmp 28) (.tmp 29) 39 39 ?_ 5 Tryd.underlying39 sizeB (some ⟨w.heap.size, k * 4, none⟩) (some ⟨wr.heap.size, 0, none⟩) (64 - k * 4) (64 - k * 4) 4 4 ?_ ?_ w.heap.size (k * 4) (arrL xs k) 167 ?_ [.int .u8 (xs[k] % 256), .int .u8 (xs[k] / 256 % 256), .int .u8 (xs[k] / 65536 % 256), .int .u8 (xs[k] / 16777216)] ?_ ?_ ?_ (lit_one _ _ _ _) w.heap.size w ?_ (Nat.le_refl _) ?_
                     · rfl
                     · rfl
                     · rfl
                     · rfl
                     · exact unhide HOA
                     · simp only [List.length_cons, List.length_nil]; exact (Nat.min_eq_left (by omega)).symm
                     · exact fun _ => ⟨rfl, _, rfl, unhide HNW⟩
                     · rw [unhide HL]; simp only [List.length_cons, List.length_nil]; omega
                     · exact (unhide HBA).drew
                     intro w4 hg4 hb4)
      all_goals
        have HSF : Hid (w4.heap[w.heap.size]? = some (.cells (arrL xs (k + 1)).toArray 167 (0, 0))) := by rw [← unhide HSP, ← unhide HE]; exact hg4
        have HBF := hide hb4
        clear hg4 hb4 hsl
        go_wp2
        go_roundw
        case rel => exact ⟨k + 1, by omega, by go_num, HSF, HBF⟩
        case measure => simp [intOf]; omega
    · have hkn : k = xs.length := by omega
      subst hkn
      have hsl := slice64h wr w.heap.size xs.length hl
      have hcv := run_convert_bytes_arg (P := Tryd.prog) wr 39 5 Tryd.underlying39 Tryd.underlying5 w.heap.size 0 (xs.length * 4) 64 (packL xs) (packL_length xs) (arrL_cells (unhide HO)) 9 Tryd.underlying9
      go_wp2
      go_ret
      exact ⟨rfl, unhide HB⟩

end Go.Proofs.YtefnapcegeojoabDoor

/- Contract of impl.areNumbers. -/
namespace Go.Proofs.YtefnapcegeojoabDoor
open Go.RowKit
set_option linter.unusedVariables false
set_option maxRecDepth 100000

theorem nums_no {xs : List Int} {k : Nat} (hk : k < xs.length) (h : numB xs[k] = false) : xs.all numB = false := all_not (p := numB) hk h
theorem nums_all {xs : List Int} (h : ∀ j (hj : j < xs.length), numB xs[j] = true) : xs.all numB = true := all_of (p := numB) (fun i hi _ => h i hi)

set_option maxHeartbeats 800000 in
theorem areNumbers_any (ao : Option Addr) (cap : Nat) (xs : List Int) (w : World) (hl : xs.length ≤ maxLen) (hc : Is w ao xs) :
    Calls Tryd.prog 141 #[.slice ao xs.length cap] w fun e w' => e = .returned (.bool (xs.all numB)) ∧ w' = w := by
  have HC := hide hc
  clear hc
  unfold maxLen at hl
  obtain ⟨R, HR⟩ : ∃ R, Hid (R = xs.all numB) := ⟨_, hide rfl⟩
  rw [← unhide HR]
  go_enter Tryd.func141, Tryd.ntmps141
  go_wp2
  go_loop [7] (fun i => ∃ k : Nat, k ≤ xs.length ∧ i = .int .i64 k ∧ Hid (∀ j (h : j < xs.length), j < k → numB xs[j] = true)) (fun i => xs.length - (intOf i).toNat)
  case atStart => exact ⟨0, Nat.zero_le _, rfl, hide (fun j _ h => by omega)⟩
  case round =>
    obtain ⟨k, hk, rfl, HA⟩ := hrel
    by_cases hlt : k < xs.length
    · obtain ⟨b, off, rfl, hc⟩ := unhide HC k hlt
      cases hn : numB xs[k]
      · have HF := hide (nums_no hlt hn)
        go_wp2_with (go_at_call 86; refine (isNumber_any _ _).mono ?_; rintro e w' ⟨rfl, hw⟩; replace hw := hw.symm; subst hw; rw [hn])
        go_ret
        exact ⟨ret_bool (by rw [unhide HR, unhide HF]), rfl⟩
      · have HN := hide (all_succ hlt (unhide HA) hn)
        go_wp2_with (go_at_call 86; refine (isNumber_any _ _).mono ?_; rintro e w' ⟨rfl, hw⟩; replace hw := hw.symm; subst hw; rw [hn])
        go_round
        case rel => exact ⟨k + 1, by omega, by go_num, HN⟩
        case measure => simp [intOf]; omega
    · have HF := hide (nums_all (fun j h => unhide HA j h (by omega)))
      go_wp2
      go_ret
      exact ⟨ret_bool (by rw [unhide HR, unhide HF]), rfl⟩

end Go.Proofs.YtefnapcegeojoabDoor
