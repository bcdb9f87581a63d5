/- Contracts of the program's reader of numbers: demand, readNumber. -/
import Derived.Test.YtlhinknmbgijeaaDoorRows
import Derived.Test.YtlhinknmbgijeaaDoorGen
import Derived.Test.YtlhinknmbgijeaaDoorKeep
import Derived.Test.YtlhinknmbgijeaaDoorApp
import Derived.Test.YtlhinknmbgijeaaDoorInts
import Derived.Test.YtlhinknmbgijeaaDoorNums
import Derived.Test.YtlhinknmbgijeaaDoorUnP
import Derived.WalkKit
import Derived.WalkSpells
import Derived.Lib.LazyBuf
namespace Go.Proofs.YtlhinknmbgijeaaDoor
open Go.RowKit
set_option linter.unusedVariables false
set_option maxRecDepth 100000

def ErrW (w : World) : Prop := ∃ u pv, w.cell? ⟨0, 0, none⟩ = some (.iface u pv)

theorem demand_true (w : World) : Calls Tryd.prog 66 #[.bool true] w fun e w' => e = .returned (.tuple #[]) ∧ w' = w := by
  go_enter Tryd.func66, Tryd.ntmps66
  go_wp2
  go_end0
  exact ⟨rfl, rfl⟩
theorem run_panic_iface (P : Program) (w : World) (u : TypeId) (pv : Value) : (Instr.panic (.iface u pv)).run P w = .halt (.panic (.iface u pv)) w := by
  simp [Instr.panic, goPanic, go_sem]
theorem demand_false (w : World) (h : ErrW w) : Calls Tryd.prog 66 #[.bool false] w fun e w' => (∃ u pv, e = .panicked [{ v := .iface u pv, recovered := false }]) ∧ w' = w := by
  obtain ⟨u, pv, hc⟩ := h
  have hp := fun w => run_panic_iface Tryd.prog w u pv
  go_enter Tryd.func66, Tryd.ntmps66
  go_wp2
  exact ⟨rfl, ⟨u, pv, rfl⟩, rfl⟩

theorem demand_if (b : Bool) (w : World) (hb : b = true) : Calls Tryd.prog 66 #[.bool b] w fun e w' => e = .returned (.tuple #[]) ∧ w' = w := by
  subst hb; exact demand_true w
theorem demand_not (b : Bool) (w : World) (hb : b = false) (h : ErrW w) : Calls Tryd.prog 66 #[.bool b] w fun e w' => (∃ u pv, e = .panicked [{ v := .iface u pv, recovered := false }]) ∧ w' = w := by
  subst hb; exact demand_false w h

theorem alloc_row (w : World) (c d : Array Value) (t : TypeId) : (w.alloc (.cells c t)).setRow w.heap.size d = w.alloc (.cells d t) := by
  have h : ((w.heap.push (.cells c t)).modify w.heap.size fun | .cells _ elem frozen => .cells d elem frozen | o => o) = w.heap.push (.cells d t) := by
    apply Array.ext
    · simp
    · intro i h1 h2
      rw [Array.getElem_modify]
      by_cases hi : w.heap.size = i
      · subst hi; simp
      · rw [if_neg hi]
        simp at h1
        rw [Array.getElem_push_lt (by omega), Array.getElem_push_lt (by omega)]
  unfold World.setRow
  have h' : ∀ X : Array Obj, X = w.heap.push (.cells d t) → ({ w.alloc (.cells c t) with heap := X } : World) = w.alloc (.cells d t) := by
    rintro X rfl
    rfl
  exact h' _ h
theorem first4 {s : ByteArray} (hs : 4 ≤ s.size) : (s.data.toList.map fun b : UInt8 => Value.int .u8 (b.toNat : Int)).take 4 = [.int .u8 (byteAt s 0), .int .u8 (byteAt s 1), .int .u8 (byteAt s 2), .int .u8 (byteAt s 3)] := by
  have hl : 4 ≤ s.data.toList.length := by simpa using hs
  obtain ⟨a, b, c, d, r, e⟩ : ∃ a b c d r, s.data.toList = a :: b :: c :: d :: r := by
    match h : s.data.toList with
    | a :: b :: c :: d :: r => exact ⟨a, b, c, d, r, rfl⟩
    | [] => simp [h] at hl
    | [a] => simp [h] at hl
    | [a, b] => simp [h] at hl
    | [a, b, c] => simp [h] at hl
  have hb : ∀ k, byteAt s k = ((s.data.toList[k]?.getD 0).toNat : Int) := fun k => by simp [byteAt]
  rw [hb, hb, hb, hb, e]
  simp
theorem copy4 (w : World) (s : ByteArray) (hs : 4 ≤ s.size) : (Builtin.copy_ #[22, 9] 3 #[.slice (some ⟨w.heap.size, 0, none⟩) 4 4, .string s]).run Tryd.prog (w.alloc (.cells #[.int .u8 0, .int .u8 0, .int .u8 0, .int .u8 0] 64)) = .ok (.int .i64 4) (w.alloc (.cells #[.int .u8 (byteAt s 0), .int .u8 (byteAt s 1), .int .u8 (byteAt s 2), .int .u8 (byteAt s 3)] 64)) := by
  have hsz : (Tryd.prog.info? 5).map (·.size) = some 1 := by kernel_rfl
  have hst := run_storeCells_at Tryd.prog w.heap.size 0 64 [.int .u8 (byteAt s 0), .int .u8 (byteAt s 1), .int .u8 (byteAt s 2), .int .u8 (byteAt s 3)] 0 #[.int .u8 0, .int .u8 0, .int .u8 0, .int .u8 0] (w.alloc (.cells #[.int .u8 0, .int .u8 0, .int .u8 0, .int .u8 0] 64)) (heap_alloc_new w _) (by simp) (by
    intro v hv
    simp at hv
    rcases hv with rfl | rfl | rfl | rfl <;> rfl)
  have hmin : Nat.min s.size 4 = 4 := Nat.min_eq_right hs
  cases hq : Tryd.prog.info? 5 with
  | none => simp [hq] at hsz
  | some i =>
    simp [Builtin.copy_, run_underlying Tryd.underlying22, Builtin.lenOf, Builtin.firstCells, sizeOf, typeInfo, hq, hmin]
    rw [first4 hs, hst]
    simp [Result.andThen, alloc_row]
    rfl

theorem copy4_at (W : World) (g : Nat) (s : ByteArray) (hg : W.heap.size = g) (hs : 4 ≤ s.size) : (Builtin.copy_ #[22, 9] 3 #[.slice (some ⟨g, 0, none⟩) 4 4, .string s]).run Tryd.prog (W.alloc (.cells #[.int .u8 0, .int .u8 0, .int .u8 0, .int .u8 0] 64)) = .ok (.int .i64 4) (W.alloc (.cells #[.int .u8 (byteAt s 0), .int .u8 (byteAt s 1), .int .u8 (byteAt s 2), .int .u8 (byteAt s 3)] 64)) := by
  subst hg; exact copy4 W s hs

theorem readNumber_ok (s : ByteArray) (w : World) (hs : 4 ≤ s.size) (hn : numB (numAt s 0) = true) : Calls Tryd.prog 67 #[.string s] w fun e w' => e = .returned (.int .i64 (numAt s 0)) ∧ Below w.heap.size w w' := by
  have hc4 := copy4 w s hs
  have hnum := num_impl s
  go_enter Tryd.func67, Tryd.ntmps67
  go_wp2_with (first | (go_at_call 89; refine (isNumber_any _ _).mono ?_; rintro e w' ⟨rfl, rfl⟩) | (go_at_call 66; refine (demand_true _).mono ?_; rintro e w' ⟨rfl, rfl⟩))
  go_ret
  exact ⟨rfl, Joins.below_alloc1 _ _⟩
theorem ErrW.below {w w' : World} (h : ErrW w) (hb : Below w.heap.size w w') : ErrW w' := by
  obtain ⟨u, pv, hc⟩ := h
  exact ⟨u, pv, (hb.cell (World.block_lt_of_cell? _ _ hc)).trans hc⟩
theorem readNumber_no (s : ByteArray) (w : World) (hs : 4 ≤ s.size) (hn : numB (numAt s 0) = false) (hE : ErrW w) : Calls Tryd.prog 67 #[.string s] w fun e w' => (∃ u pv, e = .panicked [{ v := .iface u pv, recovered := false }]) ∧ Below w.heap.size w w' := by
  have hc4 := copy4 w s hs
  have hnum := num_impl s
  have HE := hide (hE.below (Joins.below_alloc1 w (.cells #[.int .u8 (byteAt s 0), .int .u8 (byteAt s 1), .int .u8 (byteAt s 2), .int .u8 (byteAt s 3)] 64)))
  clear hE
  go_enter Tryd.func67, Tryd.ntmps67
  go_wp2_with (first | (go_at_call 89; refine (isNumber_any _ _).mono ?_; rintro e w' ⟨rfl, rfl⟩) | (go_at_call 66; refine (demand_false _ (unhide HE)).mono ?_; rintro e w' ⟨⟨u, pv, rfl⟩, rfl⟩))
  exact ⟨rfl, ⟨_, _, rfl⟩, Joins.below_alloc1 _ _⟩

end Go.Proofs.YtlhinknmbgijeaaDoor
