/- Contracts of the program's useOf, plainReq, ReqOK. (Written by gens/reqi.py.) -/
import Derived.Test.YtkaiglhljpehpacGreatRows
import Derived.Test.YtkaiglhljpehpacGreatPart1
import Derived.Test.YtkaiglhljpehpacGreatPart5
import Derived.Test.YtkaiglhljpehpacGreatPart3
import Derived.WalkKit
import Derived.WalkSpells
import Derived.WalkLawsBesides
import Derived.KernelRfl
import Derived.BigQuiet
import Derived.Deep.QuietTactic
import Derived.Deep.RegionWith
import Derived.Deep.RegionHeld3
import Derived.Laws.StructEq

namespace Go.Proofs.YtkaiglhljpehpacGreat
open Go.RowKit
set_option linter.unusedVariables false
set_option maxRecDepth 100000

/-- A request as the type of its kind. -/
def usV (q : Rq) : Value :=
  if q.k = 1 then .iface 77 (.agg #[.int .i64 q.g])
  else if q.k = 2 then .iface 81 (.agg #[.int .i64 q.g, .int .i64 q.v])
  else if q.k = 3 then .iface 83 (.agg #[.int .i64 q.g])
  else if q.k = 4 then .iface 85 (.agg #[.int .i64 q.g])
  else if q.k = 5 then .iface 87 (.agg #[.string q.n])
  else if q.k = 6 then .iface 88 (.agg #[.string q.n])
  else if q.k = 7 then .iface 89 (.agg #[.string q.n])
  else .iface 93 (.agg #[])

theorem us_1 {q : Rq} (h : q.k = 1) : usV q = .iface 77 (.agg #[.int .i64 q.g]) := by
  unfold usV
  rw [if_pos h]
theorem pl_1 {q : Rq} (h : q.k = 1) : qV (plR q) = .agg #[.int .i64 1, .int .i64 q.g, .int .i64 0, .string ⟨#[]⟩] := by
  unfold plR
  rw [if_pos h]
theorem us_2 {q : Rq} (h : q.k = 2) : usV q = .iface 81 (.agg #[.int .i64 q.g, .int .i64 q.v]) := by
  unfold usV
  rw [if_neg (by omega), if_pos h]
theorem pl_2 {q : Rq} (h : q.k = 2) : qV (plR q) = .agg #[.int .i64 2, .int .i64 q.g, .int .i64 q.v, .string ⟨#[]⟩] := by
  unfold plR
  rw [if_neg (by omega), if_pos h]
theorem us_3 {q : Rq} (h : q.k = 3) : usV q = .iface 83 (.agg #[.int .i64 q.g]) := by
  unfold usV
  rw [if_neg (by omega), if_neg (by omega), if_pos h]
theorem pl_3 {q : Rq} (h : q.k = 3) : qV (plR q) = .agg #[.int .i64 3, .int .i64 q.g, .int .i64 0, .string ⟨#[]⟩] := by
  unfold plR
  rw [if_neg (by omega), if_neg (by omega), if_pos h]
theorem us_4 {q : Rq} (h : q.k = 4) : usV q = .iface 85 (.agg #[.int .i64 q.g]) := by
  unfold usV
  rw [if_neg (by omega), if_neg (by omega), if_neg (by omega), if_pos h]
theorem pl_4 {q : Rq} (h : q.k = 4) : qV (plR q) = .agg #[.int .i64 4, .int .i64 q.g, .int .i64 0, .string ⟨#[]⟩] := by
  unfold plR
  rw [if_neg (by omega), if_neg (by omega), if_neg (by omega), if_pos h]
theorem us_5 {q : Rq} (h : q.k = 5) : usV q = .iface 87 (.agg #[.string q.n]) := by
  unfold usV
  rw [if_neg (by omega), if_neg (by omega), if_neg (by omega), if_neg (by omega), if_pos h]
theorem pl_5 {q : Rq} (h : q.k = 5) : qV (plR q) = .agg #[.int .i64 5, .int .i64 0, .int .i64 0, .string q.n] := by
  unfold plR
  rw [if_neg (by omega), if_neg (by omega), if_neg (by omega), if_neg (by omega), if_pos h]
theorem us_6 {q : Rq} (h : q.k = 6) : usV q = .iface 88 (.agg #[.string q.n]) := by
  unfold usV
  rw [if_neg (by omega), if_neg (by omega), if_neg (by omega), if_neg (by omega), if_neg (by omega), if_pos h]
theorem pl_6 {q : Rq} (h : q.k = 6) : qV (plR q) = .agg #[.int .i64 6, .int .i64 0, .int .i64 0, .string q.n] := by
  unfold plR
  rw [if_neg (by omega), if_neg (by omega), if_neg (by omega), if_neg (by omega), if_neg (by omega), if_pos h]
theorem us_7 {q : Rq} (h : q.k = 7) : usV q = .iface 89 (.agg #[.string q.n]) := by
  unfold usV
  rw [if_neg (by omega), if_neg (by omega), if_neg (by omega), if_neg (by omega), if_neg (by omega), if_neg (by omega), if_pos h]
theorem pl_7 {q : Rq} (h : q.k = 7) : qV (plR q) = .agg #[.int .i64 7, .int .i64 0, .int .i64 0, .string q.n] := by
  unfold plR
  rw [if_neg (by omega), if_neg (by omega), if_neg (by omega), if_neg (by omega), if_neg (by omega), if_neg (by omega), if_pos h]
theorem us_8 {q : Rq} (h : ¬ q.k = 1 ∧ ¬ q.k = 2 ∧ ¬ q.k = 3 ∧ ¬ q.k = 4 ∧ ¬ q.k = 5 ∧ ¬ q.k = 6 ∧ ¬ q.k = 7) : usV q = .iface 93 (.agg #[]) := by
  unfold usV
  rw [if_neg (by omega), if_neg (by omega), if_neg (by omega), if_neg (by omega), if_neg (by omega), if_neg (by omega), if_neg (by omega)]
theorem pl_8 {q : Rq} (h : ¬ q.k = 1 ∧ ¬ q.k = 2 ∧ ¬ q.k = 3 ∧ ¬ q.k = 4 ∧ ¬ q.k = 5 ∧ ¬ q.k = 6 ∧ ¬ q.k = 7) : qV (plR q) = .agg #[.int .i64 8, .int .i64 0, .int .i64 0, .string ⟨#[]⟩] := by
  unfold plR
  rw [if_neg (by omega), if_neg (by omega), if_neg (by omega), if_neg (by omega), if_neg (by omega), if_neg (by omega), if_neg (by omega)]
theorem rq_8 (q : Rq) : q.k = 1 ∨ q.k = 2 ∨ q.k = 3 ∨ q.k = 4 ∨ q.k = 5 ∨ q.k = 6 ∨ q.k = 7 ∨ (¬ q.k = 1 ∧ ¬ q.k = 2 ∧ ¬ q.k = 3 ∧ ¬ q.k = 4 ∧ ¬ q.k = 5 ∧ ¬ q.k = 6 ∧ ¬ q.k = 7) := by omega
/-- A request in a variable. -/
abbrev VarR (w : World) (x : Nat) (q : Rq) : Prop := VarM w x 39 (.int .i64 q.k) (.int .i64 q.g) (.int .i64 q.v) (.string q.n)

set_option maxHeartbeats 3200000 in
theorem useOf_any (q : Rq) (w : World) : Calls Tryz.prog 27 #[qV q] w fun e w' => e = .returned (usV q) ∧ Below w.heap.size w w' := by
  have HA := hide (Joins.below_alloc1 w (.cells #[.int .i64 q.k, .int .i64 q.g, .int .i64 q.v, .string q.n] 39))
  have HV := hide (VarM.new w 39 (.int .i64 q.k) (.int .i64 q.g) (.int .i64 q.v) (.string q.n))
  obtain ⟨R, HR⟩ : ∃ R, Hid (R = usV q) := ⟨_, hide rfl⟩
  rw [← unhide HR]
  go_enter Tryz.func27, Tryz.ntmps27
  go_upto_region 1 with fail
  revert HA HV
  generalize (w.alloc _) = W0
  intro HA HV
  obtain ⟨c0, c1, c2, c3⟩ := (unhide HV).cells
  rcases rq_8 q with h | h | h | h | h | h | h | h
  · have HX := hide ((unhide HR).trans (us_1 h))
    rw [h] at c0
    clear HR h
    go_wp2
    go_ret
    exact ⟨by rw [unhide HX]; rfl, unhide HA⟩
  · have HX := hide ((unhide HR).trans (us_2 h))
    rw [h] at c0
    clear HR h
    go_wp2
    go_ret
    exact ⟨by rw [unhide HX]; rfl, unhide HA⟩
  · have HX := hide ((unhide HR).trans (us_3 h))
    rw [h] at c0
    clear HR h
    go_wp2
    go_ret
    exact ⟨by rw [unhide HX]; rfl, unhide HA⟩
  · have HX := hide ((unhide HR).trans (us_4 h))
    rw [h] at c0
    clear HR h
    go_wp2
    go_ret
    exact ⟨by rw [unhide HX]; rfl, unhide HA⟩
  · have HX := hide ((unhide HR).trans (us_5 h))
    rw [h] at c0
    clear HR h
    go_wp2
    go_ret
    exact ⟨by rw [unhide HX]; rfl, unhide HA⟩
  · have HX := hide ((unhide HR).trans (us_6 h))
    rw [h] at c0
    clear HR h
    go_wp2
    go_ret
    exact ⟨by rw [unhide HX]; rfl, unhide HA⟩
  · have HX := hide ((unhide HR).trans (us_7 h))
    rw [h] at c0
    clear HR h
    go_wp2
    go_ret
    exact ⟨by rw [unhide HX]; rfl, unhide HA⟩
  · have HX := hide ((unhide HR).trans (us_8 h))
    have b1 : (q.k == 1) = false := by rw [beq_eq_false_iff_ne]; omega
    have b2 : (q.k == 2) = false := by rw [beq_eq_false_iff_ne]; omega
    have b3 : (q.k == 3) = false := by rw [beq_eq_false_iff_ne]; omega
    have b4 : (q.k == 4) = false := by rw [beq_eq_false_iff_ne]; omega
    have b5 : (q.k == 5) = false := by rw [beq_eq_false_iff_ne]; omega
    have b6 : (q.k == 6) = false := by rw [beq_eq_false_iff_ne]; omega
    have b7 : (q.k == 7) = false := by rw [beq_eq_false_iff_ne]; omega
    clear HR h
    go_wp2
    go_ret
    exact ⟨by rw [unhide HX]; rfl, unhide HA⟩

theorem as_1_1 (v : Value) (W : World) : (Instr.typeAssert (.iface 77 v) 20 77 true).run Tryz.prog W = .ok (.tuple #[v, .bool true]) W := by kernel_rfl
theorem as_2_1 (v : Value) (W : World) : (Instr.typeAssert (.iface 81 v) 20 77 true).run Tryz.prog W = .ok (.tuple #[.agg #[.int .i64 0], .bool false]) W := by kernel_rfl
theorem as_2_2 (v : Value) (W : World) : (Instr.typeAssert (.iface 81 v) 20 81 true).run Tryz.prog W = .ok (.tuple #[v, .bool true]) W := by kernel_rfl
theorem as_3_1 (v : Value) (W : World) : (Instr.typeAssert (.iface 83 v) 20 77 true).run Tryz.prog W = .ok (.tuple #[.agg #[.int .i64 0], .bool false]) W := by kernel_rfl
theorem as_3_2 (v : Value) (W : World) : (Instr.typeAssert (.iface 83 v) 20 81 true).run Tryz.prog W = .ok (.tuple #[.agg #[.int .i64 0, .int .i64 0], .bool false]) W := by kernel_rfl
theorem as_3_3 (v : Value) (W : World) : (Instr.typeAssert (.iface 83 v) 20 83 true).run Tryz.prog W = .ok (.tuple #[v, .bool true]) W := by kernel_rfl
theorem as_4_1 (v : Value) (W : World) : (Instr.typeAssert (.iface 85 v) 20 77 true).run Tryz.prog W = .ok (.tuple #[.agg #[.int .i64 0], .bool false]) W := by kernel_rfl
theorem as_4_2 (v : Value) (W : World) : (Instr.typeAssert (.iface 85 v) 20 81 true).run Tryz.prog W = .ok (.tuple #[.agg #[.int .i64 0, .int .i64 0], .bool false]) W := by kernel_rfl
theorem as_4_3 (v : Value) (W : World) : (Instr.typeAssert (.iface 85 v) 20 83 true).run Tryz.prog W = .ok (.tuple #[.agg #[.int .i64 0], .bool false]) W := by kernel_rfl
theorem as_4_4 (v : Value) (W : World) : (Instr.typeAssert (.iface 85 v) 20 85 true).run Tryz.prog W = .ok (.tuple #[v, .bool true]) W := by kernel_rfl
theorem as_5_1 (v : Value) (W : World) : (Instr.typeAssert (.iface 87 v) 20 77 true).run Tryz.prog W = .ok (.tuple #[.agg #[.int .i64 0], .bool false]) W := by kernel_rfl
theorem as_5_2 (v : Value) (W : World) : (Instr.typeAssert (.iface 87 v) 20 81 true).run Tryz.prog W = .ok (.tuple #[.agg #[.int .i64 0, .int .i64 0], .bool false]) W := by kernel_rfl
theorem as_5_3 (v : Value) (W : World) : (Instr.typeAssert (.iface 87 v) 20 83 true).run Tryz.prog W = .ok (.tuple #[.agg #[.int .i64 0], .bool false]) W := by kernel_rfl
theorem as_5_4 (v : Value) (W : World) : (Instr.typeAssert (.iface 87 v) 20 85 true).run Tryz.prog W = .ok (.tuple #[.agg #[.int .i64 0], .bool false]) W := by kernel_rfl
theorem as_5_5 (v : Value) (W : World) : (Instr.typeAssert (.iface 87 v) 20 87 true).run Tryz.prog W = .ok (.tuple #[v, .bool true]) W := by kernel_rfl
theorem as_6_1 (v : Value) (W : World) : (Instr.typeAssert (.iface 88 v) 20 77 true).run Tryz.prog W = .ok (.tuple #[.agg #[.int .i64 0], .bool false]) W := by kernel_rfl
theorem as_6_2 (v : Value) (W : World) : (Instr.typeAssert (.iface 88 v) 20 81 true).run Tryz.prog W = .ok (.tuple #[.agg #[.int .i64 0, .int .i64 0], .bool false]) W := by kernel_rfl
theorem as_6_3 (v : Value) (W : World) : (Instr.typeAssert (.iface 88 v) 20 83 true).run Tryz.prog W = .ok (.tuple #[.agg #[.int .i64 0], .bool false]) W := by kernel_rfl
theorem as_6_4 (v : Value) (W : World) : (Instr.typeAssert (.iface 88 v) 20 85 true).run Tryz.prog W = .ok (.tuple #[.agg #[.int .i64 0], .bool false]) W := by kernel_rfl
theorem as_6_5 (v : Value) (W : World) : (Instr.typeAssert (.iface 88 v) 20 87 true).run Tryz.prog W = .ok (.tuple #[.agg #[.string ⟨#[]⟩], .bool false]) W := by kernel_rfl
theorem as_6_6 (v : Value) (W : World) : (Instr.typeAssert (.iface 88 v) 20 88 true).run Tryz.prog W = .ok (.tuple #[v, .bool true]) W := by kernel_rfl
theorem as_7_1 (v : Value) (W : World) : (Instr.typeAssert (.iface 89 v) 20 77 true).run Tryz.prog W = .ok (.tuple #[.agg #[.int .i64 0], .bool false]) W := by kernel_rfl
theorem as_7_2 (v : Value) (W : World) : (Instr.typeAssert (.iface 89 v) 20 81 true).run Tryz.prog W = .ok (.tuple #[.agg #[.int .i64 0, .int .i64 0], .bool false]) W := by kernel_rfl
theorem as_7_3 (v : Value) (W : World) : (Instr.typeAssert (.iface 89 v) 20 83 true).run Tryz.prog W = .ok (.tuple #[.agg #[.int .i64 0], .bool false]) W := by kernel_rfl
theorem as_7_4 (v : Value) (W : World) : (Instr.typeAssert (.iface 89 v) 20 85 true).run Tryz.prog W = .ok (.tuple #[.agg #[.int .i64 0], .bool false]) W := by kernel_rfl
theorem as_7_5 (v : Value) (W : World) : (Instr.typeAssert (.iface 89 v) 20 87 true).run Tryz.prog W = .ok (.tuple #[.agg #[.string ⟨#[]⟩], .bool false]) W := by kernel_rfl
theorem as_7_6 (v : Value) (W : World) : (Instr.typeAssert (.iface 89 v) 20 88 true).run Tryz.prog W = .ok (.tuple #[.agg #[.string ⟨#[]⟩], .bool false]) W := by kernel_rfl
theorem as_7_7 (v : Value) (W : World) : (Instr.typeAssert (.iface 89 v) 20 89 true).run Tryz.prog W = .ok (.tuple #[v, .bool true]) W := by kernel_rfl
theorem as_8_1 (v : Value) (W : World) : (Instr.typeAssert (.iface 93 v) 20 77 true).run Tryz.prog W = .ok (.tuple #[.agg #[.int .i64 0], .bool false]) W := by kernel_rfl
theorem as_8_2 (v : Value) (W : World) : (Instr.typeAssert (.iface 93 v) 20 81 true).run Tryz.prog W = .ok (.tuple #[.agg #[.int .i64 0, .int .i64 0], .bool false]) W := by kernel_rfl
theorem as_8_3 (v : Value) (W : World) : (Instr.typeAssert (.iface 93 v) 20 83 true).run Tryz.prog W = .ok (.tuple #[.agg #[.int .i64 0], .bool false]) W := by kernel_rfl
theorem as_8_4 (v : Value) (W : World) : (Instr.typeAssert (.iface 93 v) 20 85 true).run Tryz.prog W = .ok (.tuple #[.agg #[.int .i64 0], .bool false]) W := by kernel_rfl
theorem as_8_5 (v : Value) (W : World) : (Instr.typeAssert (.iface 93 v) 20 87 true).run Tryz.prog W = .ok (.tuple #[.agg #[.string ⟨#[]⟩], .bool false]) W := by kernel_rfl
theorem as_8_6 (v : Value) (W : World) : (Instr.typeAssert (.iface 93 v) 20 88 true).run Tryz.prog W = .ok (.tuple #[.agg #[.string ⟨#[]⟩], .bool false]) W := by kernel_rfl
theorem as_8_7 (v : Value) (W : World) : (Instr.typeAssert (.iface 93 v) 20 89 true).run Tryz.prog W = .ok (.tuple #[.agg #[.string ⟨#[]⟩], .bool false]) W := by kernel_rfl
theorem res_q {fn : Func} {p : Tmp} {v0 v1 v2 v3 : Value} {x : Nat} {W : World} {tmps : Array Value} (h : fn.results = #[.cell p 39]) (hp : tmps.getD p undef = .pointer (some ⟨x, 0, none⟩)) (hv : W.heap[x]? = some (.cells #[v0, v1, v2, v3] 39 (0, 0))) :
    (results fn tmps).run Tryz.prog W = .ok (.agg #[v0, v1, v2, v3]) W := by
  obtain ⟨c0, c1, c2, c3⟩ := VarM.cells (t := 39) hv
  rw [Array.getD_eq_getD_getElem?] at hp
  simp [results, h, hp, go_sem, c0, c1, c2, c3]
/-- A request that is put. -/
theorem VarM.put4 {w W : World} {x t : Nat} {u0 u1 u2 u3 : Value} (h : VarM W x t u0 u1 u2 u3) (hb : Below w.heap.size w W) (hx : w.heap.size ≤ x) (v0 v1 v2 v3 : Value) :
    VarM ((((W.setCell ⟨x, 0, none⟩ v0).setCell ⟨x, 1, none⟩ v1).setCell ⟨x, 2, none⟩ v2).setCell ⟨x, 3, none⟩ v3) x t v0 v1 v2 v3 ∧ Below w.heap.size w ((((W.setCell ⟨x, 0, none⟩ v0).setCell ⟨x, 1, none⟩ v1).setCell ⟨x, 2, none⟩ v2).setCell ⟨x, 3, none⟩ v3) :=
  ⟨(((h.set0 _).set1 _).set2 _).set3 _, (((hb.setCell (p := ⟨x, 0, none⟩) hx _).setCell (p := ⟨x, 1, none⟩) hx _).setCell (p := ⟨x, 2, none⟩) hx _).setCell (p := ⟨x, 3, none⟩) hx _⟩

set_option maxHeartbeats 6400000 in
theorem plainReq_any (q : Rq) (w : World) : Calls Tryz.prog 53 #[usV q] w fun e w' => e = .returned (qV (plR q)) ∧ Below w.heap.size w w' := by
  have HA := hide (Joins.below_alloc1 w (.cells #[.int .i64 0, .int .i64 0, .int .i64 0, .string ⟨#[]⟩] 39))
  have HV := hide (VarM.new w 39 (.int .i64 0) (.int .i64 0) (.int .i64 0) (.string ⟨#[]⟩))
  obtain ⟨R, HR⟩ : ∃ R, Hid (R = qV (plR q)) := ⟨_, hide rfl⟩
  rw [← unhide HR]
  rcases rq_8 q with h | h | h | h | h | h | h | h
  · have HX := hide ((unhide HR).trans (pl_1 h))
    rw [us_1 h]
    clear HR h
    have a1 := as_1_1
    go_enter Tryz.func53, Tryz.ntmps53
    have HA2 := hide (fr (unhide HA) (Joins.below_alloc1 _ (.cells #[.int .i64 q.g] 77)))
    have HV2 := hide ((unhide HV).below (Joins.below_alloc1 _ (.cells #[.int .i64 q.g] 77)))
    have HC0 : Hid (((w.alloc (.cells #[.int .i64 0, .int .i64 0, .int .i64 0, .string ⟨#[]⟩] 39)).alloc (.cells #[.int .i64 q.g] 77)).cell? ⟨w.heap.size + 1, 0, none⟩ = some (.int .i64 q.g)) := hide (by simp)
    go_upto_region 4 with fail
    revert HC0
    revert HV2
    revert HA2
    generalize ((w.alloc _).alloc _) = W2
    intro HA2 HV2 HC0
    have k0 := unhide HC0
    have HP := hide ((unhide HV2).put4 (unhide HA2) (Nat.le_refl _) (.int .i64 1) (.int .i64 q.g) (.int .i64 0) (.string ⟨#[]⟩))
    obtain ⟨c0, c1, c2, c3⟩ := (unhide HV2).cells
    obtain ⟨f0, f1, f2, f3⟩ := (unhide HV2).free
    go_wp2
    refine bodyPost_ret (res_q Tryz.results53 rfl (unhide HP).1) rfl ⟨by rw [unhide HX], (unhide HP).2⟩
  · have HX := hide ((unhide HR).trans (pl_2 h))
    rw [us_2 h]
    clear HR h
    have a1 := as_2_1
    have a2 := as_2_2
    go_enter Tryz.func53, Tryz.ntmps53
    have HA2 := hide (fr (unhide HA) (Joins.below_alloc1 _ (.cells #[.int .i64 q.g, .int .i64 q.v] 81)))
    have HV2 := hide ((unhide HV).below (Joins.below_alloc1 _ (.cells #[.int .i64 q.g, .int .i64 q.v] 81)))
    have HC0 : Hid (((w.alloc (.cells #[.int .i64 0, .int .i64 0, .int .i64 0, .string ⟨#[]⟩] 39)).alloc (.cells #[.int .i64 q.g, .int .i64 q.v] 81)).cell? ⟨w.heap.size + 1, 0, none⟩ = some (.int .i64 q.g)) := hide (by simp)
    have HC1 : Hid (((w.alloc (.cells #[.int .i64 0, .int .i64 0, .int .i64 0, .string ⟨#[]⟩] 39)).alloc (.cells #[.int .i64 q.g, .int .i64 q.v] 81)).cell? ⟨w.heap.size + 1, 1, none⟩ = some (.int .i64 q.v)) := hide (by simp)
    go_upto_region 7 with fail
    revert HC0
    revert HC1
    revert HV2
    revert HA2
    generalize ((w.alloc _).alloc _) = W2
    intro HA2 HV2 HC1 HC0
    have k0 := unhide HC0
    have k1 := unhide HC1
    have HP := hide ((unhide HV2).put4 (unhide HA2) (Nat.le_refl _) (.int .i64 2) (.int .i64 q.g) (.int .i64 q.v) (.string ⟨#[]⟩))
    obtain ⟨c0, c1, c2, c3⟩ := (unhide HV2).cells
    obtain ⟨f0, f1, f2, f3⟩ := (unhide HV2).free
    go_wp2
    refine bodyPost_ret (res_q Tryz.results53 rfl (unhide HP).1) rfl ⟨by rw [unhide HX], (unhide HP).2⟩
  · have HX := hide ((unhide HR).trans (pl_3 h))
    rw [us_3 h]
    clear HR h
    have a1 := as_3_1
    have a2 := as_3_2
    have a3 := as_3_3
    go_enter Tryz.func53, Tryz.ntmps53
    have HA2 := hide (fr (unhide HA) (Joins.below_alloc1 _ (.cells #[.int .i64 q.g] 83)))
    have HV2 := hide ((unhide HV).below (Joins.below_alloc1 _ (.cells #[.int .i64 q.g] 83)))
    have HC0 : Hid (((w.alloc (.cells #[.int .i64 0, .int .i64 0, .int .i64 0, .string ⟨#[]⟩] 39)).alloc (.cells #[.int .i64 q.g] 83)).cell? ⟨w.heap.size + 1, 0, none⟩ = some (.int .i64 q.g)) := hide (by simp)
    go_upto_region 10 with fail
    revert HC0
    revert HV2
    revert HA2
    generalize ((w.alloc _).alloc _) = W2
    intro HA2 HV2 HC0
    have k0 := unhide HC0
    have HP := hide ((unhide HV2).put4 (unhide HA2) (Nat.le_refl _) (.int .i64 3) (.int .i64 q.g) (.int .i64 0) (.string ⟨#[]⟩))
    obtain ⟨c0, c1, c2, c3⟩ := (unhide HV2).cells
    obtain ⟨f0, f1, f2, f3⟩ := (unhide HV2).free
    go_wp2
    refine bodyPost_ret (res_q Tryz.results53 rfl (unhide HP).1) rfl ⟨by rw [unhide HX], (unhide HP).2⟩
  · have HX := hide ((unhide HR).trans (pl_4 h))
    rw [us_4 h]
    clear HR h
    have a1 := as_4_1
    have a2 := as_4_2
    have a3 := as_4_3
    have a4 := as_4_4
    go_enter Tryz.func53, Tryz.ntmps53
    have HA2 := hide (fr (unhide HA) (Joins.below_alloc1 _ (.cells #[.int .i64 q.g] 85)))
    have HV2 := hide ((unhide HV).below (Joins.below_alloc1 _ (.cells #[.int .i64 q.g] 85)))
    have HC0 : Hid (((w.alloc (.cells #[.int .i64 0, .int .i64 0, .int .i64 0, .string ⟨#[]⟩] 39)).alloc (.cells #[.int .i64 q.g] 85)).cell? ⟨w.heap.size + 1, 0, none⟩ = some (.int .i64 q.g)) := hide (by simp)
    go_upto_region 13 with fail
    revert HC0
    revert HV2
    revert HA2
    generalize ((w.alloc _).alloc _) = W2
    intro HA2 HV2 HC0
    have k0 := unhide HC0
    have HP := hide ((unhide HV2).put4 (unhide HA2) (Nat.le_refl _) (.int .i64 4) (.int .i64 q.g) (.int .i64 0) (.string ⟨#[]⟩))
    obtain ⟨c0, c1, c2, c3⟩ := (unhide HV2).cells
    obtain ⟨f0, f1, f2, f3⟩ := (unhide HV2).free
    go_wp2
    refine bodyPost_ret (res_q Tryz.results53 rfl (unhide HP).1) rfl ⟨by rw [unhide HX], (unhide HP).2⟩
  · have HX := hide ((unhide HR).trans (pl_5 h))
    rw [us_5 h]
    clear HR h
    have a1 := as_5_1
    have a2 := as_5_2
    have a3 := as_5_3
    have a4 := as_5_4
    have a5 := as_5_5
    go_enter Tryz.func53, Tryz.ntmps53
    have HA2 := hide (fr (unhide HA) (Joins.below_alloc1 _ (.cells #[.string q.n] 87)))
    have HV2 := hide ((unhide HV).below (Joins.below_alloc1 _ (.cells #[.string q.n] 87)))
    have HC0 : Hid (((w.alloc (.cells #[.int .i64 0, .int .i64 0, .int .i64 0, .string ⟨#[]⟩] 39)).alloc (.cells #[.string q.n] 87)).cell? ⟨w.heap.size + 1, 0, none⟩ = some (.string q.n)) := hide (by simp)
    go_upto_region 16 with fail
    revert HC0
    revert HV2
    revert HA2
    generalize ((w.alloc _).alloc _) = W2
    intro HA2 HV2 HC0
    have k0 := unhide HC0
    have HP := hide ((unhide HV2).put4 (unhide HA2) (Nat.le_refl _) (.int .i64 5) (.int .i64 0) (.int .i64 0) (.string q.n))
    obtain ⟨c0, c1, c2, c3⟩ := (unhide HV2).cells
    obtain ⟨f0, f1, f2, f3⟩ := (unhide HV2).free
    go_wp2
    refine bodyPost_ret (res_q Tryz.results53 rfl (unhide HP).1) rfl ⟨by rw [unhide HX], (unhide HP).2⟩
  · have HX := hide ((unhide HR).trans (pl_6 h))
    rw [us_6 h]
    clear HR h
    have a1 := as_6_1
    have a2 := as_6_2
    have a3 := as_6_3
    have a4 := as_6_4
    have a5 := as_6_5
    have a6 := as_6_6
    go_enter Tryz.func53, Tryz.ntmps53
    have HA2 := hide (fr (unhide HA) (Joins.below_alloc1 _ (.cells #[.string q.n] 88)))
    have HV2 := hide ((unhide HV).below (Joins.below_alloc1 _ (.cells #[.string q.n] 88)))
    have HC0 : Hid (((w.alloc (.cells #[.int .i64 0, .int .i64 0, .int .i64 0, .string ⟨#[]⟩] 39)).alloc (.cells #[.string q.n] 88)).cell? ⟨w.heap.size + 1, 0, none⟩ = some (.string q.n)) := hide (by simp)
    go_upto_region 19 with fail
    revert HC0
    revert HV2
    revert HA2
    generalize ((w.alloc _).alloc _) = W2
    intro HA2 HV2 HC0
    have k0 := unhide HC0
    have HP := hide ((unhide HV2).put4 (unhide HA2) (Nat.le_refl _) (.int .i64 6) (.int .i64 0) (.int .i64 0) (.string q.n))
    obtain ⟨c0, c1, c2, c3⟩ := (unhide HV2).cells
    obtain ⟨f0, f1, f2, f3⟩ := (unhide HV2).free
    go_wp2
    refine bodyPost_ret (res_q Tryz.results53 rfl (unhide HP).1) rfl ⟨by rw [unhide HX], (unhide HP).2⟩
  · have HX := hide ((unhide HR).trans (pl_7 h))
    rw [us_7 h]
    clear HR h
    have a1 := as_7_1
    have a2 := as_7_2
    have a3 := as_7_3
    have a4 := as_7_4
    have a5 := as_7_5
    have a6 := as_7_6
    have a7 := as_7_7
    go_enter Tryz.func53, Tryz.ntmps53
    have HA2 := hide (fr (unhide HA) (Joins.below_alloc1 _ (.cells #[.string q.n] 89)))
    have HV2 := hide ((unhide HV).below (Joins.below_alloc1 _ (.cells #[.string q.n] 89)))
    have HC0 : Hid (((w.alloc (.cells #[.int .i64 0, .int .i64 0, .int .i64 0, .string ⟨#[]⟩] 39)).alloc (.cells #[.string q.n] 89)).cell? ⟨w.heap.size + 1, 0, none⟩ = some (.string q.n)) := hide (by simp)
    go_upto_region 22 with fail
    revert HC0
    revert HV2
    revert HA2
    generalize ((w.alloc _).alloc _) = W2
    intro HA2 HV2 HC0
    have k0 := unhide HC0
    have HP := hide ((unhide HV2).put4 (unhide HA2) (Nat.le_refl _) (.int .i64 7) (.int .i64 0) (.int .i64 0) (.string q.n))
    obtain ⟨c0, c1, c2, c3⟩ := (unhide HV2).cells
    obtain ⟨f0, f1, f2, f3⟩ := (unhide HV2).free
    go_wp2
    refine bodyPost_ret (res_q Tryz.results53 rfl (unhide HP).1) rfl ⟨by rw [unhide HX], (unhide HP).2⟩
  · have HX := hide ((unhide HR).trans (pl_8 h))
    rw [us_8 h]
    clear HR h
    have a1 := as_8_1
    have a2 := as_8_2
    have a3 := as_8_3
    have a4 := as_8_4
    have a5 := as_8_5
    have a6 := as_8_6
    have a7 := as_8_7
    go_enter Tryz.func53, Tryz.ntmps53
    have HA2 := HA
    have HV2 := HV
    go_upto_region 23 with fail
    revert HV2
    revert HA2
    generalize (w.alloc _) = W2
    intro HA2 HV2
    have HP := hide ((unhide HV2).put4 (unhide HA2) (Nat.le_refl _) (.int .i64 8) (.int .i64 0) (.int .i64 0) (.string ⟨#[]⟩))
    obtain ⟨c0, c1, c2, c3⟩ := (unhide HV2).cells
    obtain ⟨f0, f1, f2, f3⟩ := (unhide HV2).free
    go_wp2
    refine bodyPost_ret (res_q Tryz.results53 rfl (unhide HP).1) rfl ⟨by rw [unhide HX], (unhide HP).2⟩

theorem eqR_run (a b : Rq) (W : World) : (binOp .eql 39 (qV a) (qV b)).run Tryz.prog W = .ok (.bool (eqR a b)) W := by
  have u1 := Tryz.underlying39
  have u2 := Tryz.underlying3
  have u3 := Tryz.underlying9
  rw [run_eql_struct, run_equalIn_struct W 9999 39 _ _ (by kernel_rfl) (by kernel_rfl)]
  cases h1 : a.k == b.k <;> cases h2 : a.g == b.g <;> cases h3 : a.v == b.v <;> cases h4 : a.n.toList == b.n.toList <;> simp [Op.eqFields, Program.fieldsOf, u1, u2, u3, part, sizeOf, typeInfo, go_sem, eqR, h1, h2, h3, h4]

end Go.Proofs.YtkaiglhljpehpacGreat
