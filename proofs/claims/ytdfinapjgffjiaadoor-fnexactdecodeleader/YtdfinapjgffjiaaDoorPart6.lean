import Derived.Test.YtdfinapjgffjiaaDoorRows
import Derived.Test.YtdfinapjgffjiaaDoorPart1
import Derived.Test.YtdfinapjgffjiaaDoorPart2
import Derived.Test.YtdfinapjgffjiaaDoorPart3
import Derived.Test.YtdfinapjgffjiaaDoorPart5
import Derived.WalkKit
import Derived.WalkSpells
import Derived.Defers
import Derived.Recover
import Derived.KernelRfl
import Derived.Lib.SmallJoins

/- Contracts of impl.readText at a leader, impl.DecodeLeader. -/
namespace Go.Proofs.YtdfinapjgffjiaaDoor
open Go.RowKit
set_option linter.unusedVariables false
set_option maxRecDepth 100000

theorem two_newL {w w1 : World} (hb : Below ((w.alloc (.cells #[.int .i64 0, .int .i64 0, .int .i64 0] 23)).alloc (.cells #[.int .i64 0] 3)).heap.size ((w.alloc (.cells #[.int .i64 0, .int .i64 0, .int .i64 0] 23)).alloc (.cells #[.int .i64 0] 3)) w1) : VarT w1 w.heap.size 23 0 0 0 ∧ w1.heap[w.heap.size + 1]? = some (.cells #[.int .i64 0] 3 (0, 0)) := by
  constructor
  · exact ((VarT.new w _ 0 0 0).below (Joins.below_alloc1 _ _)).below hb
  · rw [hb.block _ (by simp)]
    have := heap_alloc_new (w.alloc (.cells #[.int .i64 0, .int .i64 0, .int .i64 0] 23)) (.cells #[.int .i64 0] 3)
    simp only [World.size_alloc] at this
    exact this

set_option maxHeartbeats 1600000 in
theorem readTextL_yes (s : ByteArray) (w : World) (hs : s.size ≤ 65536) (hd : ldD s = true) :
    Calls Tryd.prog 8 #[.string s, .func (.func 9) #[] #[]] w fun e w' => e = .returned (.tuple #[lV (ldK s), .int .i64 0]) ∧ Below w.heap.size w w' := by
  have hmf : ∀ (fn : Fn) (first cap : Array Value) (w : World), (Instr.makeFunc fn first cap).run Tryd.prog w = .ok (.func fn first cap) w := fun _ _ _ _ => rfl
  have HD := hide hd
  clear hd
  go_enter_defers Tryd.func8, Tryd.ntmps8
  go_wp2_with fail
  refine (readLeader_yes s _ hs (unhide HD)).mono ?_
  rintro e w1 ⟨rfl, hb1⟩
  obtain ⟨hv, hblk⟩ := two_newL hb1
  obtain ⟨v0, v1, v2⟩ := hv.cells
  obtain ⟨f0, f1, f2⟩ := hv.free
  have hc0 := Joins.cell_of_block hblk 0
  have hf0 := Joins.unfrozen_of_block hblk 0
  simp only [List.size_toArray, List.length_cons, List.length_nil, Nat.zero_add, Nat.lt_add_one, getElem?_pos, List.getElem_toArray, List.getElem_cons_zero] at hc0
  have HB := hide (fr (Joins.below_alloc2 w _ _) hb1)
  clear hb1 hblk hv
  go_wp2
  refine leaves_cons (f := 12) (args := #[.pointer (some ⟨w.heap.size + 1, 0, none⟩)]) (by simp) (by simp [go_sem]) ?_
  refine (catchL_idle ⟨w.heap.size + 1, 0, none⟩ _).mono ?_
  rintro e u' w'' ⟨rfl, rfl, rfl⟩
  simp [Leaves, settle, results, Tryd.results8, go_sem, v0, v1, v2, hc0]
  exact (below3 (unhide HB) (Nat.le_refl _) 0 1 2 _ _ _).setCell (p := ⟨w.heap.size + 1, 0, none⟩) (Nat.le_succ _) _

set_option maxHeartbeats 1600000 in
theorem readTextL_no (s : ByteArray) (w : World) (hs : s.size ≤ 65536) (hd : ldD s = false) (hE : ErrW w) :
    Calls Tryd.prog 8 #[.string s, .func (.func 9) #[] #[]] w fun e w' => e = .returned (.tuple #[lV ld0, .int .i64 3]) ∧ Below w.heap.size w w' := by
  have hmf : ∀ (fn : Fn) (first cap : Array Value) (w : World), (Instr.makeFunc fn first cap).run Tryd.prog w = .ok (.func fn first cap) w := fun _ _ _ _ => rfl
  have HD := hide hd
  have HE := hide (hE.below (Joins.below_alloc2 w (.cells #[.int .i64 0, .int .i64 0, .int .i64 0] 23) (.cells #[.int .i64 0] 3)))
  clear hd hE
  go_enter_defers Tryd.func8, Tryd.ntmps8
  go_wp2_with fail
  refine (readLeader_no s _ hs (unhide HD) (unhide HE)).mono ?_
  rintro e w1 ⟨⟨u, pv, rfl⟩, hb1⟩
  obtain ⟨hv, hblk⟩ := two_newL hb1
  obtain ⟨v0, v1, v2⟩ := hv.cells
  have hc0 := Joins.cell_of_block hblk 0
  have hf0 := Joins.unfrozen_of_block hblk 0
  simp only [List.size_toArray, List.length_cons, List.length_nil, Nat.zero_add, Nat.lt_add_one, getElem?_pos, List.getElem_toArray, List.getElem_cons_zero] at hc0
  have HB := hide (fr (Joins.below_alloc2 w _ _) hb1)
  clear hb1 hblk hv
  go_wp2
  refine leaves_cons (f := 12) (args := #[.pointer (some ⟨w.heap.size + 1, 0, none⟩)]) (by simp) (by simp [go_sem]) ?_
  refine (catchL_panicking ⟨w.heap.size + 1, 0, none⟩ 0 u pv [] _ hc0 hf0).mono ?_
  rintro e u' w'' ⟨rfl, rfl, rfl⟩
  simp [Leaves, settle, results, Tryd.results8, go_sem, v0, v1, v2, hc0, ld0]
  exact (unhide HB).setCell (p := ⟨w.heap.size + 1, 0, none⟩) (Nat.le_succ _) _

theorem readTextL_long (s : ByteArray) (w : World) (hs : 65536 < s.size) (f : Value) :
    Calls Tryd.prog 8 #[.string s, f] w fun e w' => e = .returned (.tuple #[lV ld0, .int .i64 2]) ∧ Below w.heap.size w w' := by
  go_enter_defers Tryd.func8, Tryd.ntmps8
  go_wp2
  simp [bodyPostD, Leaves, results, Tryd.results8, go_sem, ld0]
  exact Joins.below_alloc2 _ _ _

set_option maxHeartbeats 1600000 in
theorem decodeLeader_impl (t : ByteArray) (w : World) (hE : ErrW w) : Calls Tryd.prog 5 #[.string t] w fun e w' => e = .returned (.tuple #[lV (lcK t), .int .i64 (lcC t)]) ∧ Below w.heap.size w w' := by
  have hmf : ∀ (fn : Fn) (first cap : Array Value) (w : World), (Instr.makeFunc fn first cap).run Tryd.prog w = .ok (.func fn first cap) w := fun _ _ _ _ => rfl
  have HA := hide (Joins.below_alloc1 w (.cells #[.int .i64 0, .int .i64 0, .int .i64 0] 23))
  have HE := hide (hE.below (unhide HA))
  have HV := hide (VarT.new w 23 0 0 0)
  clear hE
  obtain ⟨K, HK⟩ : ∃ K : Prop, Hid K := ⟨True, trivial⟩
  have key : ∀ (K1 : Ld) (d : Int), (lcK t = K1 ∧ lcC t = d) → (∀ W, ErrW W → Calls Tryd.prog 8 #[.string t, .func (.func 9) #[] #[]] W fun e w' => e = .returned (.tuple #[lV K1, .int .i64 d]) ∧ Below W.heap.size W w') →
      Calls Tryd.prog 5 #[.string t] w fun e w' => e = .returned (.tuple #[lV (lcK t), .int .i64 (lcC t)]) ∧ Below w.heap.size w w' := by
    intro K1 d hq hc
    have HQ := hide hq
    have HC := hide hc
    clear hq hc
    go_enter Tryd.func5, Tryd.ntmps5
    go_wp2_with fail
    refine (unhide HC _ (unhide HE)).mono ?_
    rintro e w1 ⟨rfl, hb⟩
    have HV1 := hide ((unhide HV).below hb)
    obtain ⟨hc0, hc1, hc2⟩ := (unhide HV1).cells
    obtain ⟨hf0, hf1, hf2⟩ := (unhide HV1).free
    have HB := hide (fun u v x => below3 (fr (unhide HA) hb) (Nat.le_refl _) 0 1 2 u v x)
    clear hb
    go_wp2
    refine bodyPost_ret (v := .tuple #[lV K1, .int .i64 d]) (by simp [results, Tryd.results5, go_sem, hc0, hc1, hc2]) rfl ⟨?_, unhide HB _ _ _⟩
    exact ret_li (unhide HQ).1.symm (unhide HQ).2.symm
  by_cases h1 : 65536 < t.size
  · exact key _ _ (lc_long h1) (fun W _ => readTextL_long t W h1 _)
  · by_cases hd : ldD t = true
    · exact key _ _ (lc_yes h1 hd) (fun W _ => readTextL_yes t W (by omega) hd)
    · rw [Bool.not_eq_true] at hd
      exact key _ _ (lc_no h1 hd) (fun W hW => readTextL_no t W (by omega) hd hW)

end Go.Proofs.YtdfinapjgffjiaaDoor

/- Contracts of laws.toLeader, laws.eqLeader. -/
namespace Go.Proofs.YtdfinapjgffjiaaDoor
open Go.RowKit
set_option linter.unusedVariables false
set_option maxRecDepth 100000

set_option maxHeartbeats 1600000 in
theorem eqLeader_same (x : Ld) (w : World) : Calls Tryd.prog 6 #[lV x, lV x] w fun e w' => e = .returned (.bool true) ∧ Below w.heap.size w w' := by
  go_enter Tryd.func6, Tryd.ntmps6
  go_wp2
  go_ret
  exact ⟨rfl, Joins.below_alloc2 _ _ _⟩

end Go.Proofs.YtdfinapjgffjiaaDoor

/- The walk of laws.FnExactDecodeLeader. -/
namespace Go.Proofs.YtdfinapjgffjiaaDoor
open Go.RowKit
set_option linter.unusedVariables false
set_option maxRecDepth 100000

set_option maxHeartbeats 1600000 in
theorem lawDecodeLeader (t : ByteArray) (w : World) (hz : t.size ≤ maxLen) (hE : ErrW w) : Calls Tryd.prog 3 #[.string t] w fun e w' => e = .returned (.bool true) ∧ Below w.heap.size w w' := by
  have HE := hide hE
  have HZ := hide hz
  unfold maxLen at hz
  clear hE
  by_cases h1 : 1048576 < t.size
  · go_enter Tryd.func3, Tryd.ntmps3
    go_wp2
    go_ret
    exact ⟨rfl, Below.refl _ _⟩
  go_enter Tryd.func3, Tryd.ntmps3
  go_wp2_with fail
  refine (decodeLeader_spec t _ (unhide HZ)).mono ?_
  rintro e w1 ⟨rfl, hb⟩
  have HA1 := hide (Joins.below_alloc1 w1 (.cells #[.int .i64 (lcK t).ver, .int .i64 (lcK t).own, .int .i64 (lcK t).gen] 23))
  have HV1 := hide (VarT.new w1 23 (lcK t).ver (lcK t).own (lcK t).gen)
  have HB1 := hide (fr hb (unhide HA1))
  have HE1 := hide ((unhide HE).below (unhide HB1))
  clear hb
  go_wp2_with fail
  refine (decodeLeader_impl t _ (unhide HE1)).mono ?_
  rintro e w2 ⟨rfl, hb⟩
  have HV2 := hide ((unhide HV1).below hb)
  have HB2 := hide (fr (fr (unhide HB1) hb) (Joins.below_alloc1 _ (.cells #[.int .i64 (lcK t).ver, .int .i64 (lcK t).own, .int .i64 (lcK t).gen] 23)))
  clear hb
  obtain ⟨q0, q1, q2⟩ := (unhide HV2).cells
  have hlt := (unhide HV2).lt
  go_wp2_with fail
  refine (eqLeader_same (lcK t) _).mono ?_
  rintro e w3 ⟨rfl, hb⟩
  have HB3 := hide (fr (unhide HB2) hb)
  clear hb q0 q1 q2 hlt
  go_wp2
  go_ret
  exact ⟨rfl, unhide HB3⟩

end Go.Proofs.YtdfinapjgffjiaaDoor
