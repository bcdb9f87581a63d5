import Derived.Test.YtoiclgeeaednnafDoorRows
import Derived.Test.YtoiclgeeaednnafDoorPart1
import Derived.Test.YtoiclgeeaednnafDoorPart2
import Derived.Test.YtoiclgeeaednnafDoorPart7
import Derived.Test.YtoiclgeeaednnafDoorPart9
import Derived.Test.YtoiclgeeaednnafDoorPart10
import Derived.WalkKit
import Derived.WalkSpells
import Derived.Defers
import Derived.Recover
import Derived.Test.YtoiclgeeaednnafDoorPart4
import Derived.Test.YtoiclgeeaednnafDoorPart8
import Derived.KernelRfl

/- Contracts of impl.readText at a generation, impl.DecodeDelta. -/
namespace Go.Proofs.YtoiclgeeaednnafDoor
open Go.RowKit
set_option linter.unusedVariables false
set_option maxRecDepth 100000

theorem two_new {w w1 : World} (hb : Below ((w.alloc (.cells #[.int .i64 0, .int .i64 0, .int .i64 0] 23)).alloc (.cells #[.int .i64 0] 3)).heap.size ((w.alloc (.cells #[.int .i64 0, .int .i64 0, .int .i64 0] 23)).alloc (.cells #[.int .i64 0] 3)) w1) : VarT w1 w.heap.size 23 0 0 0 ∧ w1.heap[w.heap.size + 1]? = some (.cells #[.int .i64 0] 3 (0, 0)) := by
  constructor
  · exact ((VarT.new w _ 0 0 0).below (Joins.below_alloc1 _ _)).below hb
  · rw [hb.block _ (by simp)]
    have := heap_alloc_new (w.alloc (.cells #[.int .i64 0, .int .i64 0, .int .i64 0] 23)) (.cells #[.int .i64 0] 3)
    simp only [World.size_alloc] at this
    exact this

set_option maxHeartbeats 1600000 in
theorem readTextD_yes (s : ByteArray) (w : World) (hs : s.size ≤ 65536) (hd : decB s = true) :
    Calls Tryd.prog 23 #[.string s, .func (.func 24) #[] #[]] w fun e w' => e = .returned (.tuple #[dltV (decH s) (decG s) (decS s), .int .i64 0]) ∧ Below w.heap.size w w' := by
  have hmf : ∀ (fn : Fn) (first cap : Array Value) (w : World), (Instr.makeFunc fn first cap).run Tryd.prog w = .ok (.func fn first cap) w := fun _ _ _ _ => rfl
  have HD := hide hd
  clear hd
  go_enter_defers Tryd.func23, Tryd.ntmps23
  go_wp2_with fail
  refine (readDelta_yes s _ hs (unhide HD)).mono ?_
  rintro e w1 ⟨rfl, hb1⟩
  obtain ⟨hv, hblk⟩ := two_new hb1
  obtain ⟨v0, v1, v2⟩ := hv.cells
  obtain ⟨f0, f1, f2⟩ := hv.free
  have hc0 := Joins.cell_of_block hblk 0
  have hf0 := Joins.unfrozen_of_block hblk 0
  simp only [List.size_toArray, List.length_cons, List.length_nil, Nat.zero_add, Nat.lt_add_one, getElem?_pos, List.getElem_toArray, List.getElem_cons_zero] at hc0
  have HB := hide (fr (Joins.below_alloc2 w _ _) hb1)
  clear hb1 hblk hv
  go_wp2
  refine leaves_cons (f := 52) (args := #[.pointer (some ⟨w.heap.size + 1, 0, none⟩)]) (by simp) (by simp [go_sem]) ?_
  refine (catchD_idle ⟨w.heap.size + 1, 0, none⟩ _).mono ?_
  rintro e u' w'' ⟨rfl, rfl, rfl⟩
  simp [Leaves, settle, results, Tryd.results23, go_sem, v0, v1, v2, hc0]
  exact (below3 (unhide HB) (Nat.le_refl _) 0 1 2 _ _ _).setCell (p := ⟨w.heap.size + 1, 0, none⟩) (Nat.le_succ _) _

set_option maxHeartbeats 1600000 in
theorem readTextD_no (s : ByteArray) (w : World) (hs : s.size ≤ 65536) (hd : decB s = false) (hE : ErrW w) :
    Calls Tryd.prog 23 #[.string s, .func (.func 24) #[] #[]] w fun e w' => e = .returned (.tuple #[dltV 0 0 0, .int .i64 3]) ∧ Below w.heap.size w w' := by
  have hmf : ∀ (fn : Fn) (first cap : Array Value) (w : World), (Instr.makeFunc fn first cap).run Tryd.prog w = .ok (.func fn first cap) w := fun _ _ _ _ => rfl
  have HD := hide hd
  have HE := hide (hE.below (Joins.below_alloc2 w (.cells #[.int .i64 0, .int .i64 0, .int .i64 0] 23) (.cells #[.int .i64 0] 3)))
  clear hd hE
  go_enter_defers Tryd.func23, Tryd.ntmps23
  go_wp2_with fail
  refine (readDelta_no s _ hs (unhide HD) (unhide HE)).mono ?_
  rintro e w1 ⟨⟨u, pv, rfl⟩, hb1⟩
  obtain ⟨hv, hblk⟩ := two_new hb1
  obtain ⟨v0, v1, v2⟩ := hv.cells
  have hc0 := Joins.cell_of_block hblk 0
  have hf0 := Joins.unfrozen_of_block hblk 0
  simp only [List.size_toArray, List.length_cons, List.length_nil, Nat.zero_add, Nat.lt_add_one, getElem?_pos, List.getElem_toArray, List.getElem_cons_zero] at hc0
  have HB := hide (fr (Joins.below_alloc2 w _ _) hb1)
  clear hb1 hblk hv
  go_wp2
  refine leaves_cons (f := 52) (args := #[.pointer (some ⟨w.heap.size + 1, 0, none⟩)]) (by simp) (by simp [go_sem]) ?_
  refine (catchD_panicking ⟨w.heap.size + 1, 0, none⟩ 0 u pv [] _ hc0 hf0).mono ?_
  rintro e u' w'' ⟨rfl, rfl, rfl⟩
  simp [Leaves, settle, results, Tryd.results23, go_sem, v0, v1, v2, hc0]
  exact (unhide HB).setCell (p := ⟨w.heap.size + 1, 0, none⟩) (Nat.le_succ _) _

theorem readTextD_long (s : ByteArray) (w : World) (hs : 65536 < s.size) (f : Value) :
    Calls Tryd.prog 23 #[.string s, f] w fun e w' => e = .returned (.tuple #[dltV 0 0 0, .int .i64 2]) ∧ Below w.heap.size w w' := by
  go_enter_defers Tryd.func23, Tryd.ntmps23
  go_wp2
  simp [bodyPostD, Leaves, results, Tryd.results23, go_sem]
  exact Joins.below_alloc2 _ _ _

set_option maxHeartbeats 1600000 in
theorem decodeDelta_impl (t : ByteArray) (w : World) (hE : ErrW w) : Calls Tryd.prog 8 #[.string t] w fun e w' => e = .returned (.tuple #[dltV (dcH t) (dcG t) (dcS t), .int .i64 (dcC t)]) ∧ Below w.heap.size w w' := by
  have hmf : ∀ (fn : Fn) (first cap : Array Value) (w : World), (Instr.makeFunc fn first cap).run Tryd.prog w = .ok (.func fn first cap) w := fun _ _ _ _ => rfl
  have HA := hide (Joins.below_alloc1 w (.cells #[.int .i64 0, .int .i64 0, .int .i64 0] 23))
  have HE := hide (hE.below (unhide HA))
  have HV := hide (VarT.new w 23 0 0 0)
  clear hE
  obtain ⟨K, HK⟩ : ∃ K : Prop, Hid K := ⟨True, trivial⟩
  have key : ∀ (a b c d : Int), (dcH t = a ∧ dcG t = b ∧ dcS t = c ∧ dcC t = d) → (∀ W, ErrW W → Calls Tryd.prog 23 #[.string t, .func (.func 24) #[] #[]] W fun e w' => e = .returned (.tuple #[dltV a b c, .int .i64 d]) ∧ Below W.heap.size W w') →
      Calls Tryd.prog 8 #[.string t] w fun e w' => e = .returned (.tuple #[dltV (dcH t) (dcG t) (dcS t), .int .i64 (dcC t)]) ∧ Below w.heap.size w w' := by
    intro a b c d hq hc
    have HQ := hide hq
    have HC := hide hc
    clear hq hc
    go_enter Tryd.func8, Tryd.ntmps8
    go_wp2_with fail
    refine (unhide HC _ (unhide HE)).mono ?_
    rintro e w1 ⟨rfl, hb⟩
    have HV1 := hide ((unhide HV).below hb)
    obtain ⟨hc0, hc1, hc2⟩ := (unhide HV1).cells
    obtain ⟨hf0, hf1, hf2⟩ := (unhide HV1).free
    have HB := hide (fun u v x => below3 (fr (unhide HA) hb) (Nat.le_refl _) 0 1 2 u v x)
    clear hb
    go_wp2
    refine bodyPost_ret (v := .tuple #[dltV a b c, .int .i64 d]) (by simp [results, Tryd.results8, go_sem, hc0, hc1, hc2]) rfl ⟨?_, unhide HB _ _ _⟩
    obtain ⟨e1, e2, e3, e4⟩ := unhide HQ
    exact ret_di e1.symm e2.symm e3.symm e4.symm
  by_cases h1 : 65536 < t.size
  · exact key _ _ _ _ (dc_long h1) (fun W _ => readTextD_long t W h1 _)
  · by_cases hd : decB t = true
    · exact key _ _ _ _ (dc_yes h1 hd) (fun W _ => readTextD_yes t W (by omega) hd)
    · rw [Bool.not_eq_true] at hd
      exact key _ _ _ _ (dc_no h1 hd) (fun W hW => readTextD_no t W (by omega) hd hW)

end Go.Proofs.YtoiclgeeaednnafDoor

/- Contracts of impl.ReadDelta, impl.ownDelta, impl.hourFault. -/
namespace Go.Proofs.YtoiclgeeaednnafDoor
open Go.RowKit
set_option linter.unusedVariables false
set_option maxRecDepth 100000

theorem seenD (ao bo : Option Addr) (ca cb : Nat) (ss : List ByteArray) (xs : List Wr) (h o : Int) (T : ByteArray) (w : World) (hd : diskB ss xs = true) (h0 : 0 ≤ o) (h3 : o ≤ 3) (hT : readV ss xs h (5 + o) = T) (h1 : Ss w ao ss) (h2 : Ios w bo xs) :
    Calls Tryd.prog 50 #[.agg #[.slice ao ss.length ca, .slice bo xs.length cb], .int .i64 h, .int .i64 (5 + o)] w fun e w' => e = .returned (.string T) ∧ Below w.heap.size w w' := by
  obtain ⟨l1, l2⟩ := diskB_len hd
  obtain ⟨n, hn⟩ := Int.eq_ofNat_of_zero_le (show 0 ≤ 5 + o by omega)
  subst hT
  rw [hn]
  exact seenBy_any ao bo ca cb ss xs h n w l2 (by omega) (by omega) h1 h2
theorem rdC_yes {ss : List ByteArray} {xs : List Wr} {h o : Int} (e0 : hostC ss xs h = 0) (e1 : inB o 0 3 = true) (e2 : redB ss xs h o = true) : rdC ss xs h o = 0 := by rw [rdC, if_pos e0, if_pos e1, if_pos e2]
theorem rdC_none {ss : List ByteArray} {xs : List Wr} {h o : Int} (e0 : hostC ss xs h = 0) (e1 : inB o 0 3 = true) (e2 : redB ss xs h o = false) : rdC ss xs h o = 5 := by rw [rdC, if_pos e0, if_pos e1, if_neg (by simp [e2])]
theorem rdC_range {ss : List ByteArray} {xs : List Wr} {h o : Int} (e0 : hostC ss xs h = 0) (e1 : inB o 0 3 = false) : rdC ss xs h o = 4 := by rw [rdC, if_pos e0, if_neg (by simp [e1])]
theorem rdC_host {ss : List ByteArray} {xs : List Wr} {h o : Int} (e0 : hostC ss xs h ≠ 0) : rdC ss xs h o = hostC ss xs h := by rw [rdC, if_neg e0]

set_option maxHeartbeats 1600000 in
theorem readDelta_impl (ao bo : Option Addr) (ca cb : Nat) (ss : List ByteArray) (xs : List Wr) (h o : Int) (w : World) (hl : ss.length ≤ maxLen) (hm : xs.length ≤ maxLen) (h1 : Ss w ao ss) (h2 : Ios w bo xs) (hE : ErrW w) :
    Calls Tryd.prog 21 #[.agg #[.slice ao ss.length ca, .slice bo xs.length cb], .int .i64 h, .int .i64 o] w fun e w' => e = .returned (.tuple #[dltV (rdH ss xs h o) (rdG ss xs h o) (rdT ss xs h o), .int .i64 (rdC ss xs h o)]) ∧ Below w.heap.size w w' := by
  have HA := hide (Joins.below_alloc2 w (.cells #[.slice ao ss.length ca, .slice bo xs.length cb] 35) (.cells #[.int .i64 0, .int .i64 0, .int .i64 0] 23))
  have H1 := hide (h1.below (unhide HA))
  have H2 := hide (h2.below (unhide HA))
  have HE := hide (hE.below (unhide HA))
  have HV := hide ((VarD.new w (.slice ao ss.length ca) (.slice bo xs.length cb)).below (Joins.below_alloc1 _ (.cells #[.int .i64 0, .int .i64 0, .int .i64 0] 23)))
  have HR : Hid (VarT ((w.alloc (.cells #[.slice ao ss.length ca, .slice bo xs.length cb] 35)).alloc (.cells #[.int .i64 0, .int .i64 0, .int .i64 0] 23)) (w.heap.size + 1) 23 0 0 0) := hide (by have := VarT.new (w.alloc (.cells #[.slice ao ss.length ca, .slice bo xs.length cb] 35)) 23 0 0 0; simp only [World.size_alloc] at this; exact this)
  have HL := hide hl
  have HM := hide hm
  clear h1 h2 hl hm hE
  go_enter Tryd.func21, Tryd.ntmps21
  go_wp2_with fail
  refine (hostFault_any _ _ _ _ ss xs h _ (unhide HL) (unhide HM) (unhide H1) (unhide H2)).mono ?_
  rintro e w1 ⟨rfl, hb1⟩
  have HB1 := hide (fr (unhide HA) hb1)
  have HV1 := hide ((unhide HV).below hb1)
  have HR1 := hide ((unhide HR).below hb1)
  have HS1 := hide ((unhide H1).below hb1)
  have HX1 := hide ((unhide H2).below hb1)
  have HE1 := hide ((unhide HE).below hb1)
  clear hb1
  by_cases e0 : hostC ss xs h = 0
  · have hb : (hostC ss xs h != 0) = false := by simp [e0]
    obtain ⟨ed, eh0, eh3⟩ := hostC_eq e0
    have HD := hide ed
    clear ed
    go_wp2_with fail
    refine (hostOK_any o _).mono ?_
    rintro e w2 ⟨rfl, rfl⟩
    by_cases e1 : inB o 0 3 = true
    · have hoo : 0 ≤ o ∧ o ≤ 3 := by simpa [inB] using e1
      have wr5 : IntKind.i64.wrap (5 + o) = 5 + o := by rw [IntKind.wrap_i64]; omega
      obtain ⟨T, HT⟩ : ∃ T, Hid (readV ss xs h (5 + o) = T) := ⟨_, hide rfl⟩
      have HTZ : Hid (T.size ≤ 80) := hide (by rw [← unhide HT]; exact readV_size (unhide HD) h (5 + o))
      obtain ⟨d0, d1⟩ := (unhide HV1).cells
      go_wp2_with fail
      refine (seenD _ _ _ _ ss xs h o T _ (unhide HD) hoo.1 hoo.2 (unhide HT) (unhide HS1) (unhide HX1)).mono ?_
      rintro e w2 ⟨rfl, hb2⟩
      have HB2 := hide (fr (unhide HB1) hb2)
      have HR2 := hide ((unhide HR1).below hb2)
      have HE2 := hide ((unhide HE1).below hb2)
      clear hb2 d0 d1
      go_wp2_with fail
      refine (decodeDelta_impl T _ (unhide HE2)).mono ?_
      rintro e w3 ⟨rfl, hb3⟩
      have HB3 := hide (fr (unhide HB2) hb3)
      have HR3 := hide ((unhide HR2).below hb3)
      clear hb3
      obtain ⟨c0, c1, c2⟩ := (unhide HR3).cells
      obtain ⟨f0, f1, f2⟩ := (unhide HR3).free
      have hlt := (unhide HR3).lt
      by_cases hd : decB T = true
      · obtain ⟨y1, y2, y3, y4⟩ := dc_yes (t := T) (by have := unhide HTZ; omega) hd
        rw [y1, y2, y3, y4]
        clear y1 y2 y3 y4
        have HE3 := hide (fun u v x => below3 (g := w.heap.size + 1) (fr (unhide HB3) (Joins.below_alloc1 _ (.cells #[.int .i64 (decH T), .int .i64 (decG T), .int .i64 (decS T)] 23))) (by omega) 0 1 2 u v x)
        by_cases ho : decH T = o
        · have hbo : (decH T != o) = false := by simp [ho]
          have HX : Hid (redB ss xs h o = true ∧ redG ss xs h o = decG T ∧ redS ss xs h o = decS T) := hide (by rw [← unhide HT]; exact red_yes (by rw [unhide HT]; exact hd) (by rw [unhide HT]; exact ho))
          have HY := hide (rd_yes (rdC_yes e0 e1 (unhide HX).1))
          have HO := hide ho
          clear ho
          go_wp2
          refine bodyPost_ret (v := .tuple #[dltV (decH T) (decG T) (decS T), .int .i64 0]) (by simp [results, Tryd.results21, go_sem, c0, c1, c2, hlt]) rfl ⟨?_, by first | exact unhide HE3 _ _ _ | exact fr (below3 (g := w.heap.size + 1) (unhide HB3) (by omega) 0 1 2 _ _ _) (Joins.below_alloc1 _ _)⟩
          obtain ⟨y1, y2, y3, y4⟩ := unhide HY
          exact ret_di (by rw [y1]; exact unhide HO) (by rw [y2, (unhide HX).2.1]) (by rw [y3, (unhide HX).2.2]) y4.symm
        · have hbo : (decH T != o) = true := by simp [ho]
          have HX := hide (red_other (ss := ss) (xs := xs) (h := h) (o := o) (by rw [unhide HT]; exact ho))
          have HY := hide (rd_no (rdC_none e0 e1 (unhide HX)) (by decide))
          clear ho
          go_wp2
          refine bodyPost_ret (v := .tuple #[dltV 0 0 0, .int .i64 5]) (by simp [results, Tryd.results21, go_sem, c0, c1, c2, hlt]) rfl ⟨?_, by first | exact unhide HE3 _ _ _ | exact fr (below3 (g := w.heap.size + 1) (unhide HB3) (by omega) 0 1 2 _ _ _) (Joins.below_alloc1 _ _)⟩
          obtain ⟨y1, y2, y3, y4⟩ := unhide HY
          exact ret_di y1.symm y2.symm y3.symm y4.symm
      · rw [Bool.not_eq_true] at hd
        obtain ⟨y1, y2, y3, y4⟩ := dc_no (t := T) (by have := unhide HTZ; omega) hd
        rw [y1, y2, y3, y4]
        clear y1 y2 y3 y4
        have HX := hide (red_none (ss := ss) (xs := xs) (h := h) (o := o) (by rw [unhide HT]; exact hd))
        have HY := hide (rd_no (rdC_none e0 e1 (unhide HX)) (by decide))
        have HE3 := hide (fun u v x => below3 (g := w.heap.size + 1) (fr (unhide HB3) (Joins.below_alloc1 _ (.cells #[.int .i64 0, .int .i64 0, .int .i64 0] 23))) (by omega) 0 1 2 u v x)
        go_wp2
        refine bodyPost_ret (v := .tuple #[dltV 0 0 0, .int .i64 5]) (by simp [results, Tryd.results21, go_sem, c0, c1, c2, hlt]) rfl ⟨?_, by first | exact unhide HE3 _ _ _ | exact fr (below3 (g := w.heap.size + 1) (unhide HB3) (by omega) 0 1 2 _ _ _) (Joins.below_alloc1 _ _)⟩
        obtain ⟨y1, y2, y3, y4⟩ := unhide HY
        exact ret_di y1.symm y2.symm y3.symm y4.symm
    · rw [Bool.not_eq_true] at e1
      have HY := hide (rd_no (rdC_range e0 e1) (by decide))
      obtain ⟨c0, c1, c2⟩ := (unhide HR1).cells
      obtain ⟨f0, f1, f2⟩ := (unhide HR1).free
      have HE3 := hide (fun u v x => below3 (g := w.heap.size + 1) (unhide HB1) (by omega) 0 1 2 u v x)
      go_wp2
      refine bodyPost_ret (v := .tuple #[dltV 0 0 0, .int .i64 4]) (by simp [results, Tryd.results21, go_sem, c0, c1, c2]) rfl ⟨?_, unhide HE3 _ _ _⟩
      obtain ⟨y1, y2, y3, y4⟩ := unhide HY
      exact ret_di y1.symm y2.symm y3.symm y4.symm
  · have hb : (hostC ss xs h != 0) = true := by simp [e0]
    have HY := hide (rd_no (rdC_host (o := o) e0) e0)
    obtain ⟨c0, c1, c2⟩ := (unhide HR1).cells
    obtain ⟨f0, f1, f2⟩ := (unhide HR1).free
    have HE3 := hide (fun u v x => below3 (g := w.heap.size + 1) (unhide HB1) (by omega) 0 1 2 u v x)
    go_wp2
    refine bodyPost_ret (v := .tuple #[dltV 0 0 0, .int .i64 (hostC ss xs h)]) (by simp [results, Tryd.results21, go_sem, c0, c1, c2]) rfl ⟨?_, unhide HE3 _ _ _⟩
    obtain ⟨y1, y2, y3, y4⟩ := unhide HY
    exact ret_di y1.symm y2.symm y3.symm y4.symm

end Go.Proofs.YtoiclgeeaednnafDoor

/- The walk of laws.FnExactReadDelta, whole. -/
namespace Go.Proofs.YtoiclgeeaednnafDoor
open Go.RowKit
theorem readDelta_law (ao bo : Option Addr) (ca cb : Nat) (ss : List ByteArray) (xs : List Wr) (h a : Int) (w : World) (hl : ss.length ≤ maxLen) (hm : xs.length ≤ maxLen) (hc : Ss w ao ss) (hd : Ios w bo xs) (hE : ErrW w) :
    Calls Tryd.prog 6 #[.agg #[.slice ao ss.length ca, .slice bo xs.length cb], .int .i64 h, .int .i64 a] w fun e w' => e = .returned (.bool true) ∧ Below w.heap.size w w' :=
  lawReadDelta ao bo ca cb ss xs h a w hl hm hc hd (fun ao bo ca cb W hb h1 h2 => readDelta_impl ao bo ca cb ss xs h a W hl hm h1 h2 (hE.below hb))
end Go.Proofs.YtoiclgeeaednnafDoor
