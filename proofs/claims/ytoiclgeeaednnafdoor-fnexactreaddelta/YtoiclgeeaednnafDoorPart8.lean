import Derived.Test.YtoiclgeeaednnafDoorRows
import Derived.Test.YtoiclgeeaednnafDoorPart1
import Derived.Test.YtoiclgeeaednnafDoorPart4
import Derived.Test.YtoiclgeeaednnafDoorPart7
import Derived.WalkKit
import Derived.WalkSpells
import Derived.Deep.RegionLawGrows
import Derived.Deep.RegionLaw
import Derived.Deep.AppendLies
import Derived.KernelRfl
import Derived.Deep.RegionHeld3

/- Contracts of ReadSector, of the program and of its model. -/
namespace Go.Proofs.YtoiclgeeaednnafDoor
open Go.RowKit
set_option linter.unusedVariables false
set_option maxRecDepth 100000

set_option maxHeartbeats 1600000 in
theorem l01Read_any (ao bo : Option Addr) (ca cb : Nat) (ss : List ByteArray) (xs : List Wr) (h : Int) (a : Nat) (w : World) (ha : a < ss.length) (hs : ss.length ≤ 1048576) (hm : xs.length ≤ maxLen) (h1 : Ss w ao ss) (h2 : Ios w bo xs) :
    Calls Tryd.prog 57 #[.agg #[.slice ao ss.length ca, .slice bo xs.length cb], .int .i64 h, .int .i64 a] w fun e w' => e = .returned (.string (readV ss xs h a)) ∧ Below w.heap.size w w' := by
  have HA := hide (Joins.below_alloc1 w (.cells #[.slice ao ss.length ca, .slice bo xs.length cb] 35))
  have H1 := hide (h1.below (unhide HA))
  have H2 := hide (h2.below (unhide HA))
  clear h1 h2
  unfold maxLen at hm
  go_enter Tryd.func57, Tryd.ntmps57
  go_wp2
  go_loop [7] (fun i => ∃ m : Int, i = .int .i64 m ∧ -1 ≤ m ∧ m < xs.length ∧ Hid (∀ j (hj : j < xs.length), m < j → ¬ mat xs[j] h a)) (fun i => (intOf i + 1).toNat)
  case atStart => exact ⟨_, rfl, by omega, by omega, hide (fun j hj hlt => by omega)⟩
  case round =>
    obtain ⟨m, rfl, hm0, hm1, HN⟩ := hrel
    by_cases hge : 0 ≤ m
    · obtain ⟨k, rfl⟩ := Int.eq_ofNat_of_zero_le hge
      have hk : k < xs.length := by omega
      obtain ⟨b, off, rfl, hc0, hc1, hc2, hz⟩ := unhide H2 k hk
      clear hz
      by_cases e0 : xs[k].host = h
      · have b0 : (xs[k].host == h) = true := by simp [e0]
        by_cases e1 : xs[k].at_ = a
        · have b1 : (xs[k].at_ == (a : Int)) = true := by simp [e1]
          have H := hide (readV_hit (ss := ss) hk ⟨e0, e1⟩ (fun j hj hlt => unhide HN j hj (by omega)))
          clear e0 e1
          go_wp2
          go_ret
          exact ⟨ret_rs (unhide H).symm, unhide HA⟩
        · have b1 : (xs[k].at_ == (a : Int)) = false := by simp [e1]
          have HX := hide (no_succ hk (unhide HN) (fun hx => e1 hx.2))
          clear e0 e1
          go_wp2
          go_round
          case rel => exact ⟨_, rfl, by omega, by omega, HX⟩
          case measure => simp [intOf]
      · have b0 : (xs[k].host == h) = false := by simp [e0]
        have HX := hide (no_succ hk (unhide HN) (fun hx => e0 hx.1))
        clear e0
        go_wp2
        go_round
        case rel => exact ⟨_, rfl, by omega, by omega, HX⟩
        case measure => simp [intOf]
    · obtain ⟨b, off, rfl, hc, hz⟩ := unhide H1 a ha
      clear hz
      have hg : ss.getD ((a : Int).toNat) ⟨#[]⟩ = ss[a] := by simp [List.getD, ha]
      have H := hide ((readV_none (ss := ss) (fun j hj => unhide HN j hj (by omega))).trans hg)
      clear hg
      go_wp2
      go_ret
      exact ⟨ret_rs (unhide H).symm, unhide HA⟩

end Go.Proofs.YtoiclgeeaednnafDoor

/- Contract of spec.l01Write: the disk with one write more, whose row of writes is new. -/
namespace Go.Proofs.YtoiclgeeaednnafDoor
open Go.RowKit
set_option linter.unusedVariables false

theorem write_end {w wL : World} {g k cap : Nat} {cs : List Value} (ho : wL.ownsRow (w.heap.size + 1 + 1 + 1) 80 3 (.slice (some ⟨g, 0, none⟩) k cap) k cs) (hb : Below w.heap.size w wL) (a b c : Value) :
    (((wL.setCell ⟨w.heap.size, 1, none⟩ a).setCell ⟨w.heap.size + 1 + 1, 0, none⟩ b).setCell ⟨w.heap.size + 1 + 1, 1, none⟩ c).ownsRow w.heap.size 80 3 (.slice (some ⟨g, 0, none⟩) k cap) k cs ∧ Below w.heap.size w (((wL.setCell ⟨w.heap.size, 1, none⟩ a).setCell ⟨w.heap.size + 1 + 1, 0, none⟩ b).setCell ⟨w.heap.size + 1 + 1, 1, none⟩ c) :=
  ⟨own_base (ownsRow_setCell_below (ownsRow_setCell_below (ownsRow_setCell_below ho (a := ⟨w.heap.size, 1, none⟩) (by simp; omega) a) (a := ⟨w.heap.size + 1 + 1, 0, none⟩) (by simp) b) (a := ⟨w.heap.size + 1 + 1, 1, none⟩) (by simp) c) (by omega),
    ((hb.setCell (p := ⟨w.heap.size, 1, none⟩) (by simp) a).setCell (p := ⟨w.heap.size + 1 + 1, 0, none⟩) (by simp; omega) b).setCell (p := ⟨w.heap.size + 1 + 1, 1, none⟩) (by simp; omega) c⟩


set_option maxRecDepth 100000 in
set_option maxHeartbeats 6400000 in
theorem l01Write_any (ao bo : Option Addr) (n ca cb : Nat) (xs : List Wr) (x : Wr) (w : World) (hm : xs.length ≤ 1048576) (h2 : Ios w bo xs) :
    Calls Tryd.prog 59 #[.agg #[.slice ao n ca, .slice bo xs.length cb], .agg #[.int .i64 x.host, .int .i64 x.at_, .string x.data]] w fun e w' => ∃ g cap, e = .returned (.agg #[.slice ao n ca, .slice (some ⟨g, 0, none⟩) (xs.length + 1) cap]) ∧ w'.ownsRow w.heap.size 80 3 (.slice (some ⟨g, 0, none⟩) (xs.length + 1) cap) (xs.length + 1) (ioV (xs ++ [x])) ∧ Below w.heap.size w w' := by
  have HA := hide (Joins.below_alloc3 w (.cells #[.slice ao n ca, .slice bo xs.length cb] 35) (.cells #[.int .i64 x.host, .int .i64 x.at_, .string x.data] 80) (.cells #[.slice none 0 0, .slice none 0 0] 35))
  have HX := hide (h2.below (unhide HA))
  have HV := hide ((VarD.new w (.slice ao n ca) (.slice bo xs.length cb)).below (Joins.below_alloc2 _ (.cells #[.int .i64 x.host, .int .i64 x.at_, .string x.data] 80) (.cells #[.slice none 0 0, .slice none 0 0] 35)))
  have HR : Hid (VarD (((w.alloc (.cells #[.slice ao n ca, .slice bo xs.length cb] 35)).alloc (.cells #[.int .i64 x.host, .int .i64 x.at_, .string x.data] 80)).alloc (.cells #[.slice none 0 0, .slice none 0 0] 35)) (w.heap.size + 1 + 1) (.slice none 0 0) (.slice none 0 0)) := hide (by have := VarD.new ((w.alloc (.cells #[.slice ao n ca, .slice bo xs.length cb] 35)).alloc (.cells #[.int .i64 x.host, .int .i64 x.at_, .string x.data] 80)) (.slice none 0 0) (.slice none 0 0); simp only [World.size_alloc] at this; exact this)
  have HI : Hid (VarI (((w.alloc (.cells #[.slice ao n ca, .slice bo xs.length cb] 35)).alloc (.cells #[.int .i64 x.host, .int .i64 x.at_, .string x.data] 80)).alloc (.cells #[.slice none 0 0, .slice none 0 0] 35)) (w.heap.size + 1) x) := hide (VarI.below (by have := VarI.new (w.alloc (.cells #[.slice ao n ca, .slice bo xs.length cb] 35)) x; simp only [World.size_alloc] at this; exact this) (Joins.below_alloc1 _ _))
  clear h2
  obtain ⟨j0, hj, hy0, hy1, hy2⟩ := info_parts infoW
  go_enter Tryd.func59, Tryd.ntmps59
  go_wp2
  go_region_law
    (first
      | (refine (step_append_fresh ?_ (.tmp 5) (.tmp 7) 33 ?_ 80 j0 (.agg #[.int .i64 0, .int .i64 0, .string ⟨#[]⟩]) 3 32 Tryd.underlying33 hj hy0 hy1 hy2 ?_ ?_ ?_ bo xs.length cb (ioV xs) ?_ ?_ ?_ ?_ ?_ ?_)
         · rfl
         · rfl
         · rfl
         · omega
         · rfl
         · rfl
         · rw [ioV_length]
         · refine Ios.src ((unhide HX).below ?_)
           repeat (first | exact Below.refl _ _ | exact hbA | refine Below.drew ?_ | refine belowAl ?_ _)
         · unfold maxLen; omega
         · omega
         intro qo qa wA hoA hgA
         have hbA : Below (((w.alloc (.cells #[.slice ao n ca, .slice bo xs.length cb] 35)).alloc (.cells #[.int .i64 x.host, .int .i64 x.at_, .string x.data] 80)).alloc (.cells #[.slice none 0 0, .slice none 0 0] 35)).heap.size (((w.alloc (.cells #[.slice ao n ca, .slice bo xs.length cb] 35)).alloc (.cells #[.int .i64 x.host, .int .i64 x.at_, .string x.data] 80)).alloc (.cells #[.slice none 0 0, .slice none 0 0] 35)) wA := belowGr (by repeat (first | exact Below.refl _ _ | exact hbA | refine Below.drew ?_ | refine belowAl ?_ _)) hgA
         obtain ⟨hA0, hA1⟩ := ((unhide HV).below hbA).cells
         obtain ⟨hA2, hA3, hA4⟩ := ((unhide HI).below hbA).cells)
      | (refine (step_append_at ?_ (.tmp 8) (.tmp 10) 33 ?_ (w.heap.size + 1 + 1 + 1) 80 j0 (.agg #[.int .i64 0, .int .i64 0, .string ⟨#[]⟩]) 3 32 Tryd.underlying33 hj hy0 hy1 hy2 ?_ ?_ qo xs.length qa (ioV xs) ?_ ?_ ?_ (wrV x) ?_ ?_ ?_ ?_ ?_ ?_)
         · rfl
         · rfl
         · rfl
         · omega
         · rfl
         · refine OwnR.base (OwnR.below hoA ?_) ?_
           · repeat (first | exact Below.refl _ _ | refine Below.drew ?_ | refine belowAl ?_ _)
           · first | omega | (simp <;> omega)
         · have := hbA.size
           simp at this ⊢
           omega
         · refine ⟨_, _, rfl, VarI.news ?_⟩
           first | exact VarI.new _ _ | (refine VarI.grown ?_ hgA; refine VarI.drew ?_; refine VarI.top ?_; simp) | (refine VarI.grown ?_ hgA; refine VarI.drew ?_; refine VarI.under ?_ _; refine VarI.top ?_; simp)
         · rfl
         · exact wrV_one x
         · unfold maxLen; omega
         · omega
         intro g cap wB hoB hkB
         have hkA := hkB
         have hbB : Below (((w.alloc (.cells #[.slice ao n ca, .slice bo xs.length cb] 35)).alloc (.cells #[.int .i64 x.host, .int .i64 x.at_, .string x.data] 80)).alloc (.cells #[.slice none 0 0, .slice none 0 0] 35)).heap.size (((w.alloc (.cells #[.slice ao n ca, .slice bo xs.length cb] 35)).alloc (.cells #[.int .i64 x.host, .int .i64 x.at_, .string x.data] 80)).alloc (.cells #[.slice none 0 0, .slice none 0 0] 35)) wB := belowKp (by repeat (first | exact hbA | refine Below.drew ?_ | refine belowAl ?_ _)) hkB (fun j hj => Nat.le_trans (by first | (simp; done) | (simp; omega)) (hoA.ge j hj).1)
         obtain ⟨hB0, hB1⟩ := ((unhide HV).below hbB).cells
         have hB6 := ((unhide HV).below hbB).free 1
         obtain ⟨hB2, hB3⟩ := ((unhide HR).below hbB).cells
         have hB4 := ((unhide HR).below hbB).free 0
         have hB5 := ((unhide HR).below hbB).free 1
         obtain ⟨hB7, hB8, hB9⟩ := ((unhide HI).below hbB).cells))
  all_goals
    have HL := hide (write_end (w := w) (wL := wB) hoB (fr (unhide HA) hbB) (.slice (some ⟨g, 0, none⟩) (xs.length + 1) cap) (.slice ao n ca) (.slice (some ⟨g, 0, none⟩) (xs.length + 1) cap))
    clear hoA hoB hgA hkA hkB hbA hbB hA0 hA1 hA2 hA3 hA4 hB7 hB8 hB9
    go_wp2
    exact bodyPost_ret (v := .agg #[.slice ao n ca, .slice (some ⟨g, 0, none⟩) (xs.length + 1) cap]) (by simp [results, Tryd.results59, go_sem, hB2, hB3]) rfl ⟨_, _, rfl, by rw [ioV_snoc]; exact (unhide HL).1, (unhide HL).2⟩

theorem l01Write_hd (ao bo : Option Addr) (n ca cb : Nat) (xs : List Wr) (h a : Int) (d : ByteArray) (w : World) (hm : xs.length ≤ 1048576) (h2 : Ios w bo xs) :
    Calls Tryd.prog 59 #[.agg #[.slice ao n ca, .slice bo xs.length cb], .agg #[.int .i64 h, .int .i64 a, .string d]] w fun e w' => ∃ g cap, e = .returned (.agg #[.slice ao n ca, .slice (some ⟨g, 0, none⟩) (xs.length + 1) cap]) ∧ w'.ownsRow w.heap.size 80 3 (.slice (some ⟨g, 0, none⟩) (xs.length + 1) cap) (xs.length + 1) (ioV (xs ++ [⟨h, a, d⟩])) ∧ Below w.heap.size w w' :=
  l01Write_any ao bo n ca cb xs ⟨h, a, d⟩ w hm h2

end Go.Proofs.YtoiclgeeaednnafDoor

/- What WriteSector answers. -/
namespace Go.Proofs.YtoiclgeeaednnafDoor
open Go.RowKit
set_option linter.unusedVariables false

/-- What WriteSector answers. -/
def wrC (ss : List ByteArray) (xs : List Wr) (h a : Int) (d : ByteArray) : Int := if 65536 < d.size then 2 else if askC ss xs h a = 0 then (if 80 < d.size then 4 else if xs.length = 200 then 7 else 0) else askC ss xs h a
def wrS (ss : List ByteArray) (xs : List Wr) (h a : Int) (d : ByteArray) : List ByteArray := if 65536 < d.size then [] else if askC ss xs h a = 0 then ss else []
def wrX (ss : List ByteArray) (xs : List Wr) (h a : Int) (d : ByteArray) : List Wr := if 65536 < d.size then [] else if askC ss xs h a = 0 then (if 80 < d.size then xs else if xs.length = 200 then xs else xs ++ [⟨h, a, d⟩]) else []
theorem wr_long {ss : List ByteArray} {xs : List Wr} {h a : Int} {d : ByteArray} (h1 : 65536 < d.size) : wrS ss xs h a d = [] ∧ wrX ss xs h a d = [] ∧ wrC ss xs h a d = 2 := by simp [wrS, wrX, wrC, h1]
theorem wr_ask {ss : List ByteArray} {xs : List Wr} {h a : Int} {d : ByteArray} (h1 : ¬ 65536 < d.size) (h2 : askC ss xs h a ≠ 0) : wrS ss xs h a d = [] ∧ wrX ss xs h a d = [] ∧ wrC ss xs h a d = askC ss xs h a := by simp [wrS, wrX, wrC, h1, h2]
theorem wr_range {ss : List ByteArray} {xs : List Wr} {h a : Int} {d : ByteArray} (h1 : ¬ 65536 < d.size) (h2 : askC ss xs h a = 0) (h3 : 80 < d.size) : wrS ss xs h a d = ss ∧ wrX ss xs h a d = xs ∧ wrC ss xs h a d = 4 := by simp [wrS, wrX, wrC, h1, h2, h3]
theorem wr_full {ss : List ByteArray} {xs : List Wr} {h a : Int} {d : ByteArray} (h1 : ¬ 65536 < d.size) (h2 : askC ss xs h a = 0) (h3 : ¬ 80 < d.size) (h4 : xs.length = 200) : wrS ss xs h a d = ss ∧ wrX ss xs h a d = xs ∧ wrC ss xs h a d = 7 := by simp [wrS, wrX, wrC, h1, h2, h3, h4]
theorem wr_ok {ss : List ByteArray} {xs : List Wr} {h a : Int} {d : ByteArray} (h1 : ¬ 65536 < d.size) (h2 : askC ss xs h a = 0) (h3 : ¬ 80 < d.size) (h4 : ¬ xs.length = 200) : wrS ss xs h a d = ss ∧ wrX ss xs h a d = xs ++ [⟨h, a, d⟩] ∧ wrC ss xs h a d = 0 := by simp [wrS, wrX, wrC, h1, h2, h3, h4]
theorem wr_sizes {xs : List Wr} {h a : Int} {d : ByteArray} (hx : ∀ x ∈ xs, x.data.size ≤ maxLen) (hd : d.size ≤ 2 ^ 63 - 1) : ∀ x ∈ xs ++ [(⟨h, a, d⟩ : Wr)], x.data.size ≤ maxLen := by
  intro x hxm
  rcases List.mem_append.1 hxm with h1 | h1
  · exact hx x h1
  · simp at h1; subst h1; exact hd
theorem l01Own_len (ao bo : Option Addr) (ca cb : Nat) (ss : List ByteArray) (xs : List Wr) (n m : Nat) (w : World) (hn : n = ss.length) (hm' : m = xs.length) (hl : ss.length ≤ 1048576) (hm : xs.length ≤ 1048576) (h1 : Ss w ao ss) (h2 : Ios w bo xs) :
    Calls Tryd.prog 29 #[.agg #[.slice ao n ca, .slice bo m cb]] w fun e w' => ∃ po pa qo qa, e = .returned (.agg #[.slice po n pa, .slice qo m qa]) ∧ OwnD w' w.heap.size po n pa qo m qa ss xs ∧ Below w.heap.size w w' := by
  subst hn hm'
  exact l01Own_any ao bo ca cb ss xs w hl hm h1 h2

end Go.Proofs.YtoiclgeeaednnafDoor

/- Contracts of spec's generations on a disk: l04Read, l04Room, l04Put. -/
namespace Go.Proofs.YtoiclgeeaednnafDoor
open Go.RowKit
set_option linter.unusedVariables false
set_option maxRecDepth 100000

theorem ret_dd {a b c a' b' c' : Int} (h1 : a = a') (h2 : b = b') (h3 : c = c') : Ending.returned (dltV a b c) = .returned (dltV a' b' c') := by rw [h1, h2, h3]

set_option maxHeartbeats 1600000 in
theorem l04Read_any (ao bo : Option Addr) (ca cb : Nat) (ss : List ByteArray) (xs : List Wr) (h o : Int) (w : World) (hd : diskB ss xs = true) (h0 : 0 ≤ o) (h3 : o ≤ 3) (h1 : Ss w ao ss) (h2 : Ios w bo xs) :
    Calls Tryd.prog 28 #[.agg #[.slice ao ss.length ca, .slice bo xs.length cb], .int .i64 h, .int .i64 o] w fun e w' => e = .returned (dltV o (redG ss xs h o) (redS ss xs h o)) ∧ Below w.heap.size w w' := by
  obtain ⟨n, rfl⟩ := Int.eq_ofNat_of_zero_le h0
  have HS := hide (readV_size hd h (5 + (n : Int)))
  obtain ⟨hlen, hlx⟩ := diskB_len hd
  have HL : Hid (ss.length ≤ 1048576) := hide (by omega)
  have HN : Hid (5 + n < ss.length) := hide (by omega)
  have HM : Hid (xs.length ≤ maxLen) := hide (by unfold maxLen; omega)
  have HA := hide (Joins.below_alloc2 w (.cells #[.slice ao ss.length ca, .slice bo xs.length cb] 35) (.cells #[.int .i64 0, .int .i64 0, .int .i64 0] 23))
  have H1 := hide (h1.below (unhide HA))
  have H2 := hide (h2.below (unhide HA))
  have HR : Hid (VarT ((w.alloc (.cells #[.slice ao ss.length ca, .slice bo xs.length cb] 35)).alloc (.cells #[.int .i64 0, .int .i64 0, .int .i64 0] 23)) (w.heap.size + 1) 23 0 0 0) := hide (by have := VarT.new (w.alloc (.cells #[.slice ao ss.length ca, .slice bo xs.length cb] 35)) 23 0 0 0; simp only [World.size_alloc] at this; exact this)
  clear h1 h2 hd hlen hlx
  go_enter Tryd.func28, Tryd.ntmps28
  go_wp2_with fail
  refine Calls.mono (show Calls _ _ #[.agg #[.slice ao ss.length ca, .slice bo xs.length cb], .int .i64 h, .int .i64 (5 + (n : Int))] _ _ from l01Read_any _ _ _ _ ss xs h (5 + n) _ (unhide HN) (unhide HL) (unhide HM) (unhide H1) (unhide H2)) ?_
  rintro e w1 ⟨rfl, hb1⟩
  have HB1 := hide (fr (unhide HA) hb1)
  have HR1 := hide ((unhide HR).below hb1)
  obtain ⟨T, HT⟩ : ∃ T, Hid (readV ss xs h ((5 + n : Nat) : Int) = T) := ⟨_, hide rfl⟩
  have HT' : Hid (readV ss xs h (5 + (n : Int)) = T) := hide (by rw [← unhide HT]; rfl)
  rw [unhide HT'] at HS
  rw [unhide HT]
  clear hb1
  go_wp2_with fail
  refine (l04Decode_any T _ (Nat.le_trans (unhide HS) (by decide))).mono ?_
  rintro e w2 ⟨rfl, hb2⟩
  have HB2 := hide (fr (unhide HB1) hb2)
  have HR2 := hide ((unhide HR1).below hb2)
  obtain ⟨hc0, hc1, hc2⟩ := (unhide HR2).cells
  obtain ⟨hf0, hf1, hf2⟩ := (unhide HR2).free
  have hlt := (unhide HR2).lt
  have HE := hide (fun u v x => fr (below3 (g := w.heap.size + 1) (unhide HB2) (by omega) 0 1 2 u v x) (Joins.below_alloc1 _ (.cells #[.int .i64 (decH T), .int .i64 (decG T), .int .i64 (decS T)] 23)))
  clear hb2
  by_cases hd : decB T = true
  · by_cases ho : decH T = n
    · have HX : Hid (redB ss xs h n = true ∧ redG ss xs h n = decG T ∧ redS ss xs h n = decS T) := hide (by rw [← unhide HT']; exact red_yes (by rw [unhide HT']; exact hd) (by rw [unhide HT']; exact ho))
      rw [ho] at HE
      go_wp2
      refine bodyPost_ret (v := dltV n (decG T) (decS T)) (by simp [results, Tryd.results28, go_sem, hc0, hc1, hc2, hlt]) rfl ⟨?_, unhide HE _ _ _⟩
      exact ret_dd rfl (unhide HX).2.1.symm (unhide HX).2.2.symm
    · have HX : Hid (redG ss xs h n = 0 ∧ redS ss xs h n = 0) := hide (red_no (red_other (by rw [unhide HT']; exact ho)))
      go_wp2
      refine bodyPost_ret (v := dltV n 0 0) (by simp [results, Tryd.results28, go_sem, hc0, hc1, hc2, hlt]) rfl ⟨?_, unhide HE _ _ _⟩
      exact ret_dd rfl (unhide HX).1.symm (unhide HX).2.symm
  · rw [Bool.not_eq_true] at hd
    have HX : Hid (redG ss xs h n = 0 ∧ redS ss xs h n = 0) := hide (red_no (red_none (by rw [unhide HT']; exact hd)))
    go_wp2
    refine bodyPost_ret (v := dltV n 0 0) (by simp [results, Tryd.results28, go_sem, hc0, hc1, hc2, hlt]) rfl ⟨?_, unhide HE _ _ _⟩
    exact ret_dd rfl (unhide HX).1.symm (unhide HX).2.symm

/-- What l04Room answers. -/
def roomC (ss : List ByteArray) (xs : List Wr) (h now : Int) : Int := if hostC ss xs h = 0 then (if inB now 0 10000000 = true then (if xs.length = 200 then 7 else 0) else 4) else hostC ss xs h
theorem room_ask {ss : List ByteArray} {xs : List Wr} {h now : Int} (e : hostC ss xs h ≠ 0) : roomC ss xs h now = hostC ss xs h := if_neg e
theorem room_now {ss : List ByteArray} {xs : List Wr} {h now : Int} (e : hostC ss xs h = 0) (e1 : inB now 0 10000000 = false) : roomC ss xs h now = 4 := by simp [roomC, e, e1]
theorem room_full {ss : List ByteArray} {xs : List Wr} {h now : Int} (e : hostC ss xs h = 0) (e1 : inB now 0 10000000 = true) (e2 : xs.length = 200) : roomC ss xs h now = 7 := by simp [roomC, e, e1, e2]
theorem room_ok {ss : List ByteArray} {xs : List Wr} {h now : Int} (e : hostC ss xs h = 0) (e1 : inB now 0 10000000 = true) (e2 : ¬ xs.length = 200) : roomC ss xs h now = 0 := by simp [roomC, e, e1, e2]
theorem room_eq {ss : List ByteArray} {xs : List Wr} {h now : Int} (e : roomC ss xs h now = 0) : hostC ss xs h = 0 ∧ (0 ≤ now ∧ now ≤ 10000000) ∧ xs.length < 200 := by
  by_cases e0 : hostC ss xs h = 0
  · by_cases e1 : inB now 0 10000000 = true
    · by_cases e2 : xs.length = 200
      · rw [room_full e0 e1 e2] at e; cases e
      · have := (diskB_len (hostC_eq e0).1).2
        refine ⟨e0, by simpa [inB] using e1, by omega⟩
    · rw [Bool.not_eq_true] at e1
      rw [room_now e0 e1] at e; cases e
  · rw [room_ask e0] at e; exact absurd e e0
theorem ret_i {a b : Int} (h : a = b) : Ending.returned (.int .i64 a) = .returned (.int .i64 b) := by rw [h]

set_option maxHeartbeats 1600000 in
theorem l04Room_any (ao bo : Option Addr) (ca cb : Nat) (ss : List ByteArray) (xs : List Wr) (h now : Int) (w : World) (hl : ss.length ≤ maxLen) (hm : xs.length ≤ maxLen) (h1 : Ss w ao ss) (h2 : Ios w bo xs) :
    Calls Tryd.prog 27 #[.agg #[.slice ao ss.length ca, .slice bo xs.length cb], .int .i64 h, .int .i64 now] w fun e w' => e = .returned (.int .i64 (roomC ss xs h now)) ∧ Below w.heap.size w w' := by
  have HA := hide (Joins.below_alloc1 w (.cells #[.slice ao ss.length ca, .slice bo xs.length cb] 35))
  have H1 := hide (h1.below (unhide HA))
  have H2 := hide (h2.below (unhide HA))
  have HV := hide (VarD.new w (.slice ao ss.length ca) (.slice bo xs.length cb))
  have HL := hide hl
  have HM := hide hm
  clear h1 h2 hl hm
  go_enter Tryd.func27, Tryd.ntmps27
  go_wp2_with fail
  refine (l01Ask_any _ _ _ _ ss xs h 0 _ (unhide HL) (unhide HM) (unhide H1) (unhide H2)).mono ?_
  rintro e w1 ⟨rfl, hb1⟩
  have HB1 := hide (fr (unhide HA) hb1)
  obtain ⟨hc0, hc1⟩ := ((unhide HV).below hb1).cells
  clear hb1
  rw [ask_zero]
  by_cases e0 : hostC ss xs h = 0
  · have hb : (hostC ss xs h != 0) = false := by simp [e0]
    go_wp2_with fail
    refine (l01In_num now 0 10000000 _).mono ?_
    rintro e w2 ⟨rfl, rfl⟩
    by_cases e1 : inB now 0 10000000 = true
    · by_cases e2 : xs.length = 200
      · have HX := hide (room_full e0 e1 e2)
        have hfb : ((xs.length : Int) == 200) = true := by simp [e2]
        go_wp2
        go_ret
        exact ⟨ret_i (unhide HX).symm, unhide HB1⟩
      · have HX := hide (room_ok e0 e1 e2)
        have hfb : ((xs.length : Int) == 200) = false := by exact beq_eq_false_iff_ne.2 (by omega)
        go_wp2
        go_ret
        exact ⟨ret_i (unhide HX).symm, unhide HB1⟩
    · rw [Bool.not_eq_true] at e1
      have HX := hide (room_now e0 e1)
      go_wp2
      go_ret
      exact ⟨ret_i (unhide HX).symm, unhide HB1⟩
  · have hb : (hostC ss xs h != 0) = true := by simp [e0]
    have HX := hide (room_ask (now := now) e0)
    go_wp2
    go_ret
    exact ⟨ret_i (unhide HX).symm, unhide HB1⟩

/-- The disk behind a write of a generation that is sure. -/
def dwr (h g s : Int) : Wr := ⟨h, 5 + h, encD h g s⟩
def pS (ss : List ByteArray) (xs : List Wr) (h g s : Int) : List ByteArray := putW ss (ofH h (xs ++ [dwr h g s]))
def pX (xs : List Wr) (h g s : Int) : List Wr := dropF h (xs ++ [dwr h g s])
theorem dwr_io {h g s : Int} (h0 : 0 ≤ h) (h3 : h ≤ 3) : ioB (dwr h g s) = true := ioB_parts.2 ⟨⟨h0, h3⟩, ⟨by show 0 ≤ 5 + h; omega, by show 5 + h ≤ 63; omega⟩, by show (encD h g s).size ≤ 80; rw [encD_size]; decide⟩
theorem put_right {ss : List ByteArray} {xs : List Wr} {h g s : Int} (hd : diskB ss xs = true) (hl : xs.length < 200) (h0 : 0 ≤ h) (h3 : h ≤ 3) : diskB ss (xs ++ [dwr h g s]) = true := diskB_snoc hd hl (dwr_io h0 h3)
theorem put_land {ss : List ByteArray} {xs : List Wr} {h : Int} (hl : xs.length ≤ 200) : (landF h false ss xs 200).1 = putW ss (ofH h xs) ∧ (landF h false ss xs 200).2.1 = dropF h xs := by
  have hc : (ofH h xs).length ≤ 200 := Nat.le_trans (List.length_filter_le _ _) hl
  obtain ⟨p1, p2⟩ := landF_put h ss xs 200
  have p1' : (landF h false ss xs 200).1 = putW ss ((ofH h xs).take 200) := p1
  have p2' : (landF h false ss xs 200).2.1 = remH h 200 xs := p2
  rw [List.take_of_length_le hc] at p1'
  rw [rem_all 200 xs hc] at p2'
  exact ⟨p1', p2'⟩
theorem pS_right {ss : List ByteArray} {xs : List Wr} {h g s : Int} (hd : diskB ss xs = true) (hl : xs.length < 200) (h0 : 0 ≤ h) (h3 : h ≤ 3) : diskB (pS ss xs h g s) (pX xs h g s) = true :=
  diskB_put (put_right (g := g) (s := s) hd hl h0 h3) (fun x hx => of_mem hx) (fun x hx => drop_mem hx) (drop_le h _)
theorem pS_len (ss : List ByteArray) (xs : List Wr) (h g s : Int) : (pS ss xs h g s).length = ss.length := put_len _ _

theorem rightX {ss : List ByteArray} {xs : List Wr} (hd : diskB ss xs = true) : ∀ x ∈ xs, x.data.size ≤ maxLen := fun x hx => Nat.le_trans (ioB_parts.1 ((diskB_parts.1 hd).2.2 x hx)).2.2 (by decide)
theorem l01Flush_put (ao bo : Option Addr) (ca cb : Nat) (ss : List ByteArray) (xs : List Wr) (h : Int) (n m : Nat) (S : List ByteArray) (X : List Wr) (w : World) (hn : ss.length = n) (hm : xs.length = m) (hS : putW ss (ofH h xs) = S) (hX : dropF h xs = X) (hd : diskB ss xs = true) (h1 : Ss w ao ss) (h2 : Ios w bo xs) :
    Calls Tryd.prog 58 #[.agg #[.slice ao n ca, .slice bo m cb], .int .i64 h] w fun e w' => ∃ po pa qo qa, e = .returned (.agg #[.slice po n pa, .slice qo X.length qa]) ∧ OwnD w' w.heap.size po n pa qo X.length qa S X ∧ Below w.heap.size w w' := by
  subst hn hm hS hX
  obtain ⟨l1, l2⟩ := diskB_len hd
  obtain ⟨e1, e2⟩ := put_land (ss := ss) (h := h) l2
  have k := l01Flush_any ao bo ca cb ss xs h 200 w rfl (by decide) (by omega) l2 (diskB_at hd) h1 h2
  rw [e1, e2] at k
  exact k

set_option maxHeartbeats 3200000 in
theorem l04Put_any (ao bo : Option Addr) (ca cb : Nat) (ss : List ByteArray) (xs : List Wr) (h g s : Int) (w : World) (hd : diskB ss xs = true) (hl : xs.length < 200) (hx : dltB h g s = true) (h1 : Ss w ao ss) (h2 : Ios w bo xs) :
    Calls Tryd.prog 30 #[.agg #[.slice ao ss.length ca, .slice bo xs.length cb], dltV h g s] w fun e w' => ∃ po pa qo qa, e = .returned (.agg #[.slice po ss.length pa, .slice qo (pX xs h g s).length qa]) ∧ OwnD w' w.heap.size po ss.length pa qo (pX xs h g s).length qa (pS ss xs h g s) (pX xs h g s) ∧ Below w.heap.size w w' := by
  obtain ⟨⟨d0, d3⟩, _⟩ := dltB_iff.1 hx
  have HP := hide (put_right (g := g) (s := s) hd hl d0 d3)
  have HX := hide hx
  have HXL : Hid (xs.length ≤ 1048576) := hide (by omega)
  have HXN : Hid ((xs ++ [dwr h g s]).length = xs.length + 1) := hide (by simp)
  have HZ : Hid (∀ x ∈ xs ++ [dwr h g s], x.data.size ≤ maxLen) := hide (rightX (unhide HP))
  obtain ⟨S, HS⟩ : ∃ S, Hid (pS ss xs h g s = S) := ⟨_, hide rfl⟩
  obtain ⟨X, HXX⟩ : ∃ X, Hid (pX xs h g s = X) := ⟨_, hide rfl⟩
  rw [unhide HS, unhide HXX]
  have HA := hide (fr (Joins.below_alloc2 w (.cells #[.slice ao ss.length ca, .slice bo xs.length cb] 35) (.cells #[.int .i64 h, .int .i64 g, .int .i64 s] 23)) (Joins.below_alloc1 _ (.cells #[.slice none 0 0, .slice none 0 0] 35)))
  have HV := hide ((VarD.new w (.slice ao ss.length ca) (.slice bo xs.length cb)).below (fr (Joins.below_alloc1 _ (.cells #[.int .i64 h, .int .i64 g, .int .i64 s] 23)) (Joins.below_alloc1 _ (.cells #[.slice none 0 0, .slice none 0 0] 35))))
  have HT : Hid (VarT (((w.alloc (.cells #[.slice ao ss.length ca, .slice bo xs.length cb] 35)).alloc (.cells #[.int .i64 h, .int .i64 g, .int .i64 s] 23)).alloc (.cells #[.slice none 0 0, .slice none 0 0] 35)) (w.heap.size + 1) 23 h g s) := hide (by have := (VarT.new (w.alloc (.cells #[.slice ao ss.length ca, .slice bo xs.length cb] 35)) 23 h g s).below (Joins.below_alloc1 _ (.cells #[.slice none 0 0, .slice none 0 0] 35)); simp only [World.size_alloc] at this; exact this)
  have HR : Hid (VarD (((w.alloc (.cells #[.slice ao ss.length ca, .slice bo xs.length cb] 35)).alloc (.cells #[.int .i64 h, .int .i64 g, .int .i64 s] 23)).alloc (.cells #[.slice none 0 0, .slice none 0 0] 35)) (w.heap.size + 1 + 1) (.slice none 0 0) (.slice none 0 0)) := hide (by have := VarD.new ((w.alloc (.cells #[.slice ao ss.length ca, .slice bo xs.length cb] 35)).alloc (.cells #[.int .i64 h, .int .i64 g, .int .i64 s] 23)) (.slice none 0 0) (.slice none 0 0); simp only [World.size_alloc] at this; exact this)
  have HS0 := hide (h1.below (unhide HA))
  have HX0 := hide (h2.below (unhide HA))
  have HW : Hid (w.heap.size + 3 ≤ (((w.alloc (.cells #[.slice ao ss.length ca, .slice bo xs.length cb] 35)).alloc (.cells #[.int .i64 h, .int .i64 g, .int .i64 s] 23)).alloc (.cells #[.slice none 0 0, .slice none 0 0] 35)).heap.size) := hide (by simp)
  have wr5 : IntKind.i64.wrap (5 + h) = 5 + h := by rw [IntKind.wrap_i64]; omega
  clear h1 h2 hx hd
  go_enter Tryd.func30, Tryd.ntmps30
  go_wp2_with fail
  revert HA HV HT HR HS0 HX0 HW
  generalize (((w.alloc (.cells #[.slice ao ss.length ca, .slice bo xs.length cb] 35)).alloc (.cells #[.int .i64 h, .int .i64 g, .int .i64 s] 23)).alloc (.cells #[.slice none 0 0, .slice none 0 0] 35)) = W0
  intro HA HV HT HR HS0 HX0 HW
  have HQ : Hid (w.heap.size + 1 + 1 < w.heap.size + 3) := hide (by omega)
  generalize hB2 : w.heap.size + 1 + 1 = B2 at *
  generalize hB1 : w.heap.size + 1 = B1 at *
  have n1 : B2 ≠ w.heap.size := by omega
  have n2 : B2 ≠ B1 := by omega
  have HB2 : Hid (w.heap.size ≤ B2) := hide (by omega)
  have n1' := n1.symm
  have n2' := n2.symm
  replace hB1 := hide hB1
  replace hB2 := hide hB2
  obtain ⟨v0, v1⟩ := (unhide HV).cells
  obtain ⟨t0, t1, t2⟩ := (unhide HT).cells
  go_region_held3 (fun w' => w'.cell? ⟨w.heap.size, 0, none⟩ = some (.slice ao ss.length ca) ∧ w'.cell? ⟨w.heap.size, 1, none⟩ = some (.slice bo xs.length cb) ∧ w'.cell? ⟨B1, 0, none⟩ = some (.int .i64 h) ∧ w'.cell? ⟨B1, 1, none⟩ = some (.int .i64 g) ∧ w'.cell? ⟨B1, 2, none⟩ = some (.int .i64 s)) (go_keep)
    (first
      | (go_at_call 60; refine (l04Encode_any h g s _ (unhide HX)).mono ?_; rintro e wA ⟨rfl, hbA⟩; have HBA := hide (fr (Below.refl _ W0).drew hbA); obtain ⟨a0, a1⟩ := ((unhide HV).below (unhide HBA)).cells; obtain ⟨a2, a3, a4⟩ := ((unhide HT).below (unhide HBA)).cells; clear hbA)
      | (go_at_call 59; refine (l01Write_hd ao bo ss.length ca cb xs h (5 + h) (encD h g s) _ (unhide HXL) ((unhide HX0).below (unhide HBA))).mono ?_; rintro e wB ⟨gg, cap, rfl, hoB, hbB⟩; have HOB := hide hoB; have HBB := hide (fr (unhide HBA) hbB); obtain ⟨b0, b1⟩ := ((unhide HV).below (unhide HBB)).cells; obtain ⟨b2, b3, b4⟩ := ((unhide HT).below (unhide HBB)).cells; clear hoB hbB)
      | (go_at_call 58; refine (l01Flush_put ao (some ⟨gg, 0, none⟩) ca cap ss (xs ++ [dwr h g s]) h ss.length (xs.length + 1) S X _ rfl (unhide HXN) (unhide HS) (unhide HXX) (unhide HP) ((unhide HS0).below (unhide HBB)) (ownI (xs := xs ++ [dwr h g s]) (by rw [unhide HXN]; exact unhide HOB) (unhide HZ))).mono ?_; rintro e wC ⟨po, pa, qo, qa, rfl, hoC, hbC⟩; have HOC := hide hoC; have HBC := hide (fr (unhide HBB) hbC); obtain ⟨c0, c1⟩ := ((unhide HV).below (unhide HBC)).cells; obtain ⟨c2, c3, c4⟩ := ((unhide HT).below (unhide HBC)).cells; obtain ⟨r0, r1⟩ := ((unhide HR).below (unhide HBC)).cells; have r2 := ((unhide HR).below (unhide HBC)).free 0; have r3 := ((unhide HR).below (unhide HBC)).free 1; clear hoC hbC))
  have z : B2 < wB.heap.size := by have z0 := unhide HW; have z1 := unhide HQ; have z2 := (unhide HBB).size; omega
  have HE := hide (show OwnD ((wC.setCell ⟨B2, 0, none⟩ (.slice po ss.length pa)).setCell ⟨B2, 1, none⟩ (.slice qo X.length qa)) w.heap.size po ss.length pa qo X.length qa S X ∧ Below w.heap.size w ((wC.setCell ⟨B2, 0, none⟩ (.slice po ss.length pa)).setCell ⟨B2, 1, none⟩ (.slice qo X.length qa)) from
    ⟨(((unhide HOC).setCell (a := ⟨B2, 0, none⟩) z _).setCell (a := ⟨B2, 1, none⟩) z _).base (by have := unhide HB2; omega), ((fr (unhide HA) (unhide HBC)).setCell (p := ⟨B2, 0, none⟩) (unhide HB2) _).setCell (p := ⟨B2, 1, none⟩) (unhide HB2) _⟩)
  clear a0 a1 a2 a3 a4 b0 b1 b2 b3 b4 c0 c1 c2 c3 c4 v0 v1 t0 t1 t2
  go_wp2
  exact bodyPost_ret (v := .agg #[.slice po ss.length pa, .slice qo X.length qa]) (by simp [results, Tryd.results30, go_sem, r0, r1]) rfl ⟨po, pa, qo, qa, rfl, (unhide HE).1, (unhide HE).2⟩

end Go.Proofs.YtoiclgeeaednnafDoor

/- Contract of spec.ReadDelta. -/
namespace Go.Proofs.YtoiclgeeaednnafDoor
open Go.RowKit
set_option linter.unusedVariables false
set_option maxRecDepth 100000

/-- What ReadDelta answers. -/
def rdC (ss : List ByteArray) (xs : List Wr) (h o : Int) : Int := if hostC ss xs h = 0 then (if inB o 0 3 = true then (if redB ss xs h o = true then 0 else 5) else 4) else hostC ss xs h
def rdH (ss : List ByteArray) (xs : List Wr) (h o : Int) : Int := if rdC ss xs h o = 0 then o else 0
def rdG (ss : List ByteArray) (xs : List Wr) (h o : Int) : Int := if rdC ss xs h o = 0 then redG ss xs h o else 0
def rdT (ss : List ByteArray) (xs : List Wr) (h o : Int) : Int := if rdC ss xs h o = 0 then redS ss xs h o else 0
theorem rd_no {ss : List ByteArray} {xs : List Wr} {h o c : Int} (e : rdC ss xs h o = c) (hc : c ≠ 0) : rdH ss xs h o = 0 ∧ rdG ss xs h o = 0 ∧ rdT ss xs h o = 0 ∧ rdC ss xs h o = c :=
  ⟨if_neg (by rw [e]; exact hc), if_neg (by rw [e]; exact hc), if_neg (by rw [e]; exact hc), e⟩
theorem rd_yes {ss : List ByteArray} {xs : List Wr} {h o : Int} (e : rdC ss xs h o = 0) : rdH ss xs h o = o ∧ rdG ss xs h o = redG ss xs h o ∧ rdT ss xs h o = redS ss xs h o ∧ rdC ss xs h o = 0 := ⟨if_pos e, if_pos e, if_pos e, e⟩
theorem red_pos {ss : List ByteArray} {xs : List Wr} {h o : Int} (e : redB ss xs h o = true) : 1 ≤ redG ss xs h o := by
  have hb : decB (readV ss xs h (5 + o)) = true := by simp only [redB, Bool.and_eq_true] at e; exact e.1
  have := (dltB_iff.1 (dec_right hb)).2.1
  rw [redG, if_pos e]
  omega

set_option maxHeartbeats 1600000 in
theorem readDelta_spec (ao bo : Option Addr) (ca cb : Nat) (ss : List ByteArray) (xs : List Wr) (h o : Int) (w : World) (hl : ss.length ≤ maxLen) (hm : xs.length ≤ maxLen) (h1 : Ss w ao ss) (h2 : Ios w bo xs) :
    Calls Tryd.prog 20 #[.agg #[.slice ao ss.length ca, .slice bo xs.length cb], .int .i64 h, .int .i64 o] w fun e w' => e = .returned (.tuple #[dltV (rdH ss xs h o) (rdG ss xs h o) (rdT ss xs h o), .int .i64 (rdC ss xs h o)]) ∧ Below w.heap.size w w' := by
  have HA := hide (Joins.below_alloc2 w (.cells #[.slice ao ss.length ca, .slice bo xs.length cb] 35) (.cells #[.int .i64 0, .int .i64 0, .int .i64 0] 23))
  have H1 := hide (h1.below (unhide HA))
  have H2 := hide (h2.below (unhide HA))
  have HV := hide ((VarD.new w (.slice ao ss.length ca) (.slice bo xs.length cb)).below (Joins.below_alloc1 _ (.cells #[.int .i64 0, .int .i64 0, .int .i64 0] 23)))
  have HR : Hid (VarT ((w.alloc (.cells #[.slice ao ss.length ca, .slice bo xs.length cb] 35)).alloc (.cells #[.int .i64 0, .int .i64 0, .int .i64 0] 23)) (w.heap.size + 1) 23 0 0 0) := hide (by have := VarT.new (w.alloc (.cells #[.slice ao ss.length ca, .slice bo xs.length cb] 35)) 23 0 0 0; simp only [World.size_alloc] at this; exact this)
  have HL := hide hl
  have HM := hide hm
  clear h1 h2 hl hm
  go_enter Tryd.func20, Tryd.ntmps20
  go_wp2_with fail
  refine (l01Ask_any _ _ _ _ ss xs h 0 _ (unhide HL) (unhide HM) (unhide H1) (unhide H2)).mono ?_
  rintro e w1 ⟨rfl, hb1⟩
  have HB1 := hide (fr (unhide HA) hb1)
  have HV1 := hide ((unhide HV).below hb1)
  have HR1 := hide ((unhide HR).below hb1)
  have HS1 := hide ((unhide H1).below hb1)
  have HX1 := hide ((unhide H2).below hb1)
  clear hb1
  rw [ask_zero]
  by_cases e0 : hostC ss xs h = 0
  · have hb : (hostC ss xs h != 0) = false := by simp [e0]
    obtain ⟨ed, eh0, eh3⟩ := hostC_eq e0
    have HD := hide ed
    obtain ⟨d0, d1⟩ := (unhide HV1).cells
    clear ed
    go_wp2_with fail
    refine (l04Host_any o _).mono ?_
    rintro e w2 ⟨rfl, rfl⟩
    by_cases e1 : inB o 0 3 = true
    · have hoo : 0 ≤ o ∧ o ≤ 3 := by simpa [inB] using e1
      go_wp2_with fail
      refine (l04Read_any _ _ _ _ ss xs h o _ (unhide HD) hoo.1 hoo.2 (unhide HS1) (unhide HX1)).mono ?_
      rintro e w3 ⟨rfl, hb3⟩
      have HB3 := hide (fr (unhide HB1) hb3)
      have HR3 := hide ((unhide HR1).below hb3)
      obtain ⟨G, HG⟩ : ∃ G, Hid (redG ss xs h o = G) := ⟨_, hide rfl⟩
      obtain ⟨S0, HS0⟩ : ∃ G, Hid (redS ss xs h o = G) := ⟨_, hide rfl⟩
      rw [unhide HG, unhide HS0]
      clear hb3 d0 d1
      obtain ⟨c0, c1, c2⟩ := (unhide HR3).cells
      obtain ⟨f0, f1, f2⟩ := (unhide HR3).free
      have hlt := (unhide HR3).lt
      have HE := hide (fun u v x => fr (below3 (g := w.heap.size + 1) (unhide HB3) (by omega) 0 1 2 u v x) (Joins.below_alloc1 _ (.cells #[.int .i64 o, .int .i64 G, .int .i64 S0] 23)))
      by_cases e2 : redB ss xs h o = true
      · have hg : (G == 0) = false := by rw [← unhide HG]; have := red_pos e2; simp only [beq_eq_false_iff_ne, ne_eq]; omega
        have HY := hide (rd_yes (ss := ss) (xs := xs) (h := h) (o := o) (by rw [rdC, if_pos e0, if_pos e1, if_pos e2]))
        go_wp2
        refine bodyPost_ret (v := .tuple #[dltV o G S0, .int .i64 0]) (by simp [results, Tryd.results20, go_sem, c0, c1, c2, hlt]) rfl ⟨?_, unhide HE _ _ _⟩
        obtain ⟨y1, y2, y3, y4⟩ := unhide HY
        exact ret_di y1.symm (by rw [y2, unhide HG]) (by rw [y3, unhide HS0]) y4.symm
      · rw [Bool.not_eq_true] at e2
        have hg : (G == 0) = true := by rw [← unhide HG, (red_no e2).1]; rfl
        have HY := hide (rd_no (ss := ss) (xs := xs) (h := h) (o := o) (c := 5) (by rw [rdC, if_pos e0, if_pos e1, if_neg (by simp [e2])]) (by decide))
        go_wp2
        refine bodyPost_ret (v := .tuple #[dltV 0 0 0, .int .i64 5]) (by simp [results, Tryd.results20, go_sem, c0, c1, c2, hlt]) rfl ⟨?_, unhide HE _ _ _⟩
        obtain ⟨y1, y2, y3, y4⟩ := unhide HY
        exact ret_di y1.symm y2.symm y3.symm y4.symm
    · rw [Bool.not_eq_true] at e1
      have HY := hide (rd_no (ss := ss) (xs := xs) (h := h) (o := o) (c := 4) (by rw [rdC, if_pos e0, if_neg (by simp [e1])]) (by decide))
      obtain ⟨c0, c1, c2⟩ := (unhide HR1).cells
      obtain ⟨f0, f1, f2⟩ := (unhide HR1).free
      have HE := hide (fun u v x => below3 (g := w.heap.size + 1) (unhide HB1) (by omega) 0 1 2 u v x)
      clear d0 d1
      go_wp2
      refine bodyPost_ret (v := .tuple #[dltV 0 0 0, .int .i64 4]) (by simp [results, Tryd.results20, go_sem, c0, c1, c2]) rfl ⟨?_, unhide HE _ _ _⟩
      obtain ⟨y1, y2, y3, y4⟩ := unhide HY
      exact ret_di y1.symm y2.symm y3.symm y4.symm
  · have hb : (hostC ss xs h != 0) = true := by simp [e0]
    have HY := hide (rd_no (ss := ss) (xs := xs) (h := h) (o := o) (by rw [rdC, if_neg e0]) e0)
    obtain ⟨c0, c1, c2⟩ := (unhide HR1).cells
    obtain ⟨f0, f1, f2⟩ := (unhide HR1).free
    have HE := hide (fun u v x => below3 (g := w.heap.size + 1) (unhide HB1) (by omega) 0 1 2 u v x)
    go_wp2
    refine bodyPost_ret (v := .tuple #[dltV 0 0 0, .int .i64 (hostC ss xs h)]) (by simp [results, Tryd.results20, go_sem, c0, c1, c2]) rfl ⟨?_, unhide HE _ _ _⟩
    obtain ⟨y1, y2, y3, y4⟩ := unhide HY
    exact ret_di y1.symm y2.symm y3.symm y4.symm

end Go.Proofs.YtoiclgeeaednnafDoor

/- Contracts of laws.toDelta, laws.eqDelta. -/
namespace Go.Proofs.YtoiclgeeaednnafDoor
open Go.RowKit
set_option linter.unusedVariables false
set_option maxRecDepth 100000

set_option maxHeartbeats 1600000 in
theorem toDelta_any (h g s : Int) (w : World) : Calls Tryd.prog 18 #[dltV h g s] w fun e w' => e = .returned (dltV h g s) ∧ Below w.heap.size w w' := by
  go_enter Tryd.func18, Tryd.ntmps18
  go_wp2
  exact bodyPost_ret (v := dltV h g s) (by simp [results, Tryd.results18, go_sem]) rfl ⟨rfl, fr (Joins.below_alloc2 _ _ _) (Joins.below_alloc1 _ _)⟩

set_option maxHeartbeats 1600000 in
theorem eqDelta_same (h g s : Int) (w : World) : Calls Tryd.prog 9 #[dltV h g s, dltV h g s] w fun e w' => e = .returned (.bool true) ∧ Below w.heap.size w w' := by
  go_enter Tryd.func9, Tryd.ntmps9
  go_wp2
  go_ret
  exact ⟨rfl, Joins.below_alloc2 _ _ _⟩

end Go.Proofs.YtoiclgeeaednnafDoor
