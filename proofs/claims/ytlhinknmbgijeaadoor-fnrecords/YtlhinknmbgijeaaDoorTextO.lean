/- Contract of impl.OpenRecord. -/
import Derived.Test.YtlhinknmbgijeaaDoorRows
import Derived.Test.YtlhinknmbgijeaaDoorGen
import Derived.Test.YtlhinknmbgijeaaDoorKeep
import Derived.Test.YtlhinknmbgijeaaDoorInts
import Derived.Test.YtlhinknmbgijeaaDoorUnP
import Derived.Test.YtlhinknmbgijeaaDoorOwnN
import Derived.Test.YtlhinknmbgijeaaDoorUnI
import Derived.Test.YtlhinknmbgijeaaDoorUnR
import Derived.Test.YtlhinknmbgijeaaDoorText
import Derived.Test.YtlhinknmbgijeaaDoorKindI
import Derived.Test.YtlhinknmbgijeaaDoorRecM
import Derived.Test.YtlhinknmbgijeaaDoorRecI
import Derived.Test.YtlhinknmbgijeaaDoorKindR
import Derived.WalkKit
import Derived.WalkSpells
import Derived.Defers
import Derived.Recover
import Derived.BigQuiet
import Derived.Deep.QuietTactic
import Derived.Deep.RegionWith
namespace Go.Proofs.YtlhinknmbgijeaaDoor
open Go.RowKit
set_option linter.unusedVariables false
set_option maxRecDepth 100000

set_option maxHeartbeats 1600000 in
theorem open1_yes (s : ByteArray) (k : Int) (w : World) (b : Nat) (hs : s.size ≤ 65536) (hr : RecP s) (hk : byteAt s 0 = k) (hc : w.cell? ⟨b, 0, none⟩ = some (.int .i64 k)) :
    Calls Tryd.prog 37 #[.string s, .pointer (some ⟨b, 0, none⟩)] w fun e w' => ∃ v, e = .returned v ∧ OwnN w' w.heap.size v (unL (bodyT s)) ∧ Below w.heap.size w w' := by
  go_enter Tryd.func37, Tryd.ntmps37
  go_wp2_with fail
  refine (readKind_yes s k _ hs hr hk).mono ?_
  rintro e w1 ⟨v, rfl, ho, hb⟩
  have HO := hide ho
  have HB := hide hb
  clear ho hb
  go_wp2
  go_ret
  exact ⟨v, rfl, unhide HO, unhide HB⟩

set_option maxHeartbeats 1600000 in
theorem open1_no (s : ByteArray) (k : Int) (w : World) (b : Nat) (hs : s.size ≤ 65536) (hr : ¬ (RecP s ∧ byteAt s 0 = k)) (hc : w.cell? ⟨b, 0, none⟩ = some (.int .i64 k)) (hE : ErrW w) :
    Calls Tryd.prog 37 #[.string s, .pointer (some ⟨b, 0, none⟩)] w fun e w' => (∃ u pv, e = .panicked [{ v := .iface u pv, recovered := false }]) ∧ Below w.heap.size w w' := by
  go_enter Tryd.func37, Tryd.ntmps37
  go_wp2_with fail
  refine (readKind_no s k _ hs hr hE).mono ?_
  rintro e w1 ⟨⟨u, pv, rfl⟩, hb⟩
  have HB := hide hb
  clear hb
  go_wp2
  exact ⟨rfl, ⟨_, _, rfl⟩, unhide HB⟩

set_option maxHeartbeats 1600000 in
theorem readTextO_yes (s : ByteArray) (k : Int) (w : World) (b : Nat) (hs : s.size ≤ 65536) (hr : RecP s) (hk : byteAt s 0 = k) (hc : w.cell? ⟨b, 0, none⟩ = some (.int .i64 k)) :
    Calls Tryd.prog 32 #[.string s, .func (.func 37) #[] #[.pointer (some ⟨b, 0, none⟩)]] w fun e w' => ∃ v, e = .returned (.tuple #[v, .int .i64 0]) ∧ OwnN w' w.heap.size v (unL (bodyT s)) ∧ Below w.heap.size w w' := by
  have hmf : ∀ (fn : Fn) (first cap : Array Value) (w : World), (Instr.makeFunc fn first cap).run Tryd.prog w = .ok (.func fn first cap) w := fun _ _ _ _ => rfl
  have HC := hide (((Joins.below_alloc1 w (.cells #[.int .i64 0] 3)).cell (World.block_lt_of_cell? _ _ hc)).trans hc)
  clear hc
  go_enter_defers Tryd.func32, Tryd.ntmps32
  go_wp2_with fail
  refine (open1_yes s k _ b hs hr hk (unhide HC)).mono ?_
  rintro e w1 ⟨v, rfl, ho1, hb1⟩
  have hblk := code_block hb1
  have hc0 := Joins.cell_of_block hblk 0
  have hf0 := Joins.unfrozen_of_block hblk 0
  simp only [List.size_toArray, List.length_cons, List.length_nil, Nat.zero_add, Nat.lt_add_one, getElem?_pos, List.getElem_toArray, List.getElem_cons_zero] at hc0
  have HO := hide (ho1.base (B' := w.heap.size + 1) (by simp))
  have HB := hide (fr (Joins.below_alloc1 w _) hb1)
  clear ho1 hb1 hblk
  go_wp2
  refine leaves_cons (f := 65) (args := #[.pointer (some ⟨w.heap.size, 0, none⟩)]) (by simp) (by simp [go_sem]) ?_
  refine (catch_idle ⟨w.heap.size, 0, none⟩ _).mono ?_
  rintro e u' w'' ⟨rfl, rfl, rfl⟩
  have hcs : (w1.setCell ⟨w.heap.size, 0, none⟩ (.int .i64 0)).cell? ⟨w.heap.size, 0, none⟩ = some (.int .i64 0) := by simp [go_sem, hc0]
  simp only [Leaves, settle, results, Tryd.results32]
  exact ⟨.tuple #[v, .int .i64 0], by simp [go_sem, hcs], v, rfl, ((unhide HO).setCell (a := ⟨w.heap.size, 0, none⟩) (Nat.lt_succ_self _) _).base (Nat.le_succ _), (unhide HB).setCell (p := ⟨w.heap.size, 0, none⟩) (Nat.le_refl _) _⟩

set_option maxHeartbeats 1600000 in
theorem readTextO_no (s : ByteArray) (k : Int) (w : World) (b : Nat) (hs : s.size ≤ 65536) (hr : ¬ (RecP s ∧ byteAt s 0 = k)) (hc : w.cell? ⟨b, 0, none⟩ = some (.int .i64 k)) (hE : ErrW w) :
    Calls Tryd.prog 32 #[.string s, .func (.func 37) #[] #[.pointer (some ⟨b, 0, none⟩)]] w fun e w' => e = .returned (.tuple #[.slice none 0 0, .int .i64 3]) ∧ Below w.heap.size w w' := by
  have hmf : ∀ (fn : Fn) (first cap : Array Value) (w : World), (Instr.makeFunc fn first cap).run Tryd.prog w = .ok (.func fn first cap) w := fun _ _ _ _ => rfl
  have HE := hide (hE.below (Joins.below_alloc1 w (.cells #[.int .i64 0] 3)))
  have HC := hide (((Joins.below_alloc1 w (.cells #[.int .i64 0] 3)).cell (World.block_lt_of_cell? _ _ hc)).trans hc)
  clear hE hc
  go_enter_defers Tryd.func32, Tryd.ntmps32
  go_wp2_with fail
  refine (open1_no s k _ b hs hr (unhide HC) (unhide HE)).mono ?_
  rintro e w1 ⟨⟨u, pv, rfl⟩, hb1⟩
  have hblk := code_block hb1
  have hc0 := Joins.cell_of_block hblk 0
  have hf0 := Joins.unfrozen_of_block hblk 0
  simp only [List.size_toArray, List.length_cons, List.length_nil, Nat.zero_add, Nat.lt_add_one, getElem?_pos, List.getElem_toArray, List.getElem_cons_zero] at hc0
  have HB := hide (fr (Joins.below_alloc1 w _) hb1)
  clear hb1 hblk
  go_wp2
  refine leaves_cons (f := 65) (args := #[.pointer (some ⟨w.heap.size, 0, none⟩)]) (by simp) (by simp [go_sem]) ?_
  refine (catch_panicking ⟨w.heap.size, 0, none⟩ 0 u pv [] _ hc0 hf0).mono ?_
  rintro e u' w'' ⟨rfl, rfl, rfl⟩
  have hcs : (w1.setCell ⟨w.heap.size, 0, none⟩ (.int .i64 3)).cell? ⟨w.heap.size, 0, none⟩ = some (.int .i64 3) := by simp [go_sem, hc0]
  simp [Leaves, settle, results, Tryd.results32, go_sem, hcs]
  exact (unhide HB).setCell (p := ⟨w.heap.size, 0, none⟩) (Nat.le_refl _) _

set_option maxHeartbeats 800000 in
theorem openRecord_impl (s : ByteArray) (k : Int) (w : World) (hE : ErrW w) : Calls Tryd.prog 14 #[.string s, .int .i64 k] w fun e w' => ∃ v, e = .returned (.tuple #[v, .int .i64 (opC s k)]) ∧ OwnN w' w.heap.size v (opR s k) ∧ Below w.heap.size w w' := by
  have hmf : ∀ (fn : Fn) (first cap : Array Value) (w : World), (Instr.makeFunc fn first cap).run Tryd.prog w = .ok (.func fn first cap) w := fun _ _ _ _ => rfl
  have HA := hide (Joins.below_alloc1 w (.cells #[.int .i64 k] 3))
  have HE := hide (hE.below (unhide HA))
  have HC : Hid ((w.alloc (.cells #[.int .i64 k] 3)).cell? ⟨w.heap.size, 0, none⟩ = some (.int .i64 k)) := hide (by simp [go_sem])
  clear hE
  by_cases h1 : 65536 < s.size
  · have HF := hide (opC_long (k := k) h1)
    have HR := hide (opR_no (s := s) (k := k) (by rw [unhide HF]; decide))
    go_enter Tryd.func14, Tryd.ntmps14
    go_wp2
    go_ret2
    exact ⟨.slice none 0 0, ret_ni rfl (unhide HF).symm, by rw [unhide HR]; exact OwnN.nil _ _ _, unhide HA⟩
  have h2 : s.size ≤ 65536 := by omega
  cases hkk : kindB k with
  | false =>
    have HF := hide (opC_kind h1 hkk)
    have HR := hide (opR_no (s := s) (k := k) (by rw [unhide HF]; decide))
    go_enter Tryd.func14, Tryd.ntmps14
    go_wp2_with (go_at_call 34; refine (kindOK_any _ _).mono ?_; rintro e w' ⟨rfl, hw⟩; replace hw := hw.symm; subst hw)
    go_ret2
    exact ⟨.slice none 0 0, ret_ni rfl (unhide HF).symm, by rw [unhide HR]; exact OwnN.nil _ _ _, unhide HA⟩
  | true =>
    by_cases hr : RecP s ∧ byteAt s 0 = k
    · have HF := hide (opC_ok h1 hkk (recB_true hr.1) hr.2)
      have HR := hide (opR_ok (unhide HF))
      go_enter Tryd.func14, Tryd.ntmps14
      go_wp2_with (go_at_call 34; refine (kindOK_any _ _).mono ?_; rintro e w' ⟨rfl, hw⟩; replace hw := hw.symm; subst hw)
      refine (readTextO_yes s k _ w.heap.size h2 hr.1 hr.2 (unhide HC)).mono ?_
      rintro e w1 ⟨v, rfl, ho, hb⟩
      have HO := hide (ho.base (B' := w.heap.size) (by simp))
      have HB := hide (fr (unhide HA) hb)
      clear ho hb
      go_wp2
      go_ret2
      exact ⟨v, ret_ni rfl (unhide HF).symm, by rw [unhide HR]; exact unhide HO, unhide HB⟩
    · have HF := hide (opC_no h1 hkk (fun h => hr ⟨recB_iff.1 h.1, h.2⟩))
      have HR := hide (opR_no (s := s) (k := k) (by rw [unhide HF]; decide))
      go_enter Tryd.func14, Tryd.ntmps14
      go_wp2_with (go_at_call 34; refine (kindOK_any _ _).mono ?_; rintro e w' ⟨rfl, hw⟩; replace hw := hw.symm; subst hw)
      refine (readTextO_no s k _ w.heap.size h2 hr (unhide HC) (unhide HE)).mono ?_
      rintro e w1 ⟨rfl, hb⟩
      have HB := hide (fr (unhide HA) hb)
      clear hb
      go_wp2
      go_ret2
      exact ⟨.slice none 0 0, ret_ni rfl (unhide HF).symm, by rw [unhide HR]; exact OwnN.nil _ _ _, unhide HB⟩

end Go.Proofs.YtlhinknmbgijeaaDoor
