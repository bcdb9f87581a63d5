/- The contract of the model's l11Unname once more: it only lays blocks behind the world that it got. -/
import Derived.Test.YtkaiglhljpehpabGreatDoorRows
import Derived.Test.YtkaiglhljpehpabGreatDoorPart1
import Derived.Test.YtkaiglhljpehpabGreatDoorPart15
import Derived.Test.YtkaiglhljpehpabGreatDoorPart21
import Derived.WalkKit
import Derived.WalkSpells
import Derived.KernelRfl
import Derived.LoopN
import Derived.Laws.BytesArg
import Derived.Sort.Grow
import Derived.Shelf.SlSortCmp.QuietGrown

namespace Go.Proofs.YtkaiglhljpehpabGreatDoor
open Go.RowKit Go.Sort
set_option linter.unusedVariables false
set_option maxRecDepth 100000

theorem lit1K {w W : World} (_ : Hid (∃ os, W = grow w os)) (a : Int) : (convert 89 9 (.slice (some ⟨W.heap.size, 0, none⟩) 1 1)).run Tryz.prog (W.alloc (.cells #[.int .u8 a] 5)) = .ok (.string (strOfNums [a])) (W.alloc (.cells #[.int .u8 a] 5)) := lit1 W a
theorem grown_alloc {w W : World} (h : ∃ os, W = grow w os) (o : Obj) : ∃ os, W.alloc o = grow w os := by
  obtain ⟨os, rfl⟩ := h
  exact ⟨os ++ #[o], by rw [alloc_eq_grow, grow_grow]⟩
theorem grown_below {w : World} (n : Nat) (os : Array Obj) : Below w.heap.size w (grow (w.drewN n) os) := by
  have h1 : Below w.heap.size w (w.drewN n) := ⟨rfl, rfl, rfl, Nat.le_refl _, fun _ _ => rfl⟩
  refine h1.trans ?_
  exact ⟨rfl, rfl, rfl, by simp [grow], fun k hk => heap_grow_old _ _ (by exact hk)⟩

set_option maxHeartbeats 800000 in
theorem l11Unname_grown (N : Nat) (w : World) (hz : N ≤ 2147483647) :
    Calls Tryz.prog 44 #[.int .i64 N] w fun e w' => e = .returned (.string (unT N)) ∧ ∃ os, w' = grow w os := by
  have HJ0 := hide (UnJ.start hz)
  clear hz
  go_enter Tryz.func44, Tryz.ntmps44
  go_wp2
  go_loopw [0, 3] (fun n o wr => ∃ (m : Nat) (s : ByteArray), n = .int .i64 m ∧ o = .string s ∧ Hid (UnJ N m s) ∧ Hid (∃ os, wr = grow w os)) (fun n _ _ => (intOf n).toNat)
  case atStart => exact ⟨N, _, rfl, rfl, HJ0, hide ⟨#[], (grow_empty _).symm⟩⟩
  case round =>
    obtain ⟨m, s, rfl, rfl, HJ, HB⟩ := hrel
    obtain ⟨b1, b2⟩ := (unhide HJ).small
    by_cases hlt : 0 < m
    · have hlti : (0 : Int) < (m : Int) := by omega
      obtain ⟨hj, hsz⟩ := (unhide HJ).step hlt
      have HJ2 := hide hj
      clear hj
      have hcv := lit1K HB (97 + ((m : Int) + 26) % 27)
      have w1 : IntKind.i64.wrap ((m : Int) + 26) = (m : Int) + 26 := by rw [IntKind.wrap_i64]; omega
      have hs1 : (strOfNums [97 + ((m : Int) + 26) % 27]).size = 1 := strOfNums_size _
      clear hsz
      have h1 := Int.emod_nonneg ((m : Int) + 26) (show (27 : Int) ≠ 0 by decide)
      have h2 := Int.emod_lt_of_pos ((m : Int) + 26) (show (0 : Int) < 27 by decide)
      go_wp2
      go_roundw
      case rel => exact ⟨m / 27, _, by go_num, rfl, HJ2, hide (grown_alloc (unhide HB) _)⟩
      case measure => simp [intOf]; omega
    · obtain rfl : m = 0 := by omega
      have HF := hide (unhide HJ).stop
      go_wp2
      go_ret
      exact ⟨ret_str (unhide HF), unhide HB⟩

/-- At a call within a region that only reads. -/
theorem unname_g (V : Nat) (hz : V ≤ 2147483647) (w : World) (n : Nat) (os : Array Obj) : Calls Tryz.prog 44 #[.int .i64 V] (grow (w.drewN n) os) fun e w'' => e = .returned (.string (unT V)) ∧ ∃ p : GrownBy, w'' = grow (w.drewN p.n) p.os :=
  Calls.grown_of ((l11Unname_grown V _ hz).mono (fun e w' h => by
    obtain ⟨h1, os', h2⟩ := h
    exact ⟨h1, 0, os', h2⟩))
theorem name_g (t : ByteArray) (hz : t.size ≤ 8) (w : World) (n : Nat) (os : Array Obj) : Calls Tryz.prog 43 #[.string t] (grow (w.drewN n) os) fun e w'' => e = .returned (.int .i64 (nmN t)) ∧ ∃ p : GrownBy, w'' = grow (w.drewN p.n) p.os :=
  Calls.grown_of ((l11Name_any t _ hz).mono (fun e w' h => ⟨h.1, 0, #[], by rw [h.2, World.drewN_zero, grow_empty]⟩))

end Go.Proofs.YtkaiglhljpehpabGreatDoor
