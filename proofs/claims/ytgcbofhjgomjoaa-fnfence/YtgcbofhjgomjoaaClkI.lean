/- Contracts of the clocks' closures over a drift. -/
import Derived.Test.YtgcbofhjgomjoaaRows
import Derived.Test.YtgcbofhjgomjoaaFlt
import Derived.Test.YtgcbofhjgomjoaaClkF
import Derived.Test.YtgcbofhjgomjoaaClkB
import Derived.WalkKit
import Derived.WalkSpells
import Derived.KernelRfl
import Derived.Lib.SmallJoins
namespace Go.Proofs.Ytgcbofhjgomjoaa
open Go.RowKit
set_option linter.unusedVariables false

theorem down_int (n b : Int) (w : World) (hn0 : 0 ≤ n) (hn : n < 1000000000000) (hb0 : 1 ≤ b) (hb : b < 1000000000000) :
    Calls Try.prog 55 #[.int .i64 n, .int .i64 b] w fun e w' => e = .returned (.int .i64 (n / b)) ∧ w' = w := by
  obtain ⟨n, rfl⟩ := Int.eq_ofNat_of_zero_le hn0
  obtain ⟨b, rfl⟩ := Int.eq_ofNat_of_zero_le (show 0 ≤ b by omega)
  exact (down_any n b _ rfl w (by omega) (by omega) (by omega)).mono fun e w' ⟨h1, h2⟩ => ⟨h1, h2⟩
theorem up_int (n b : Int) (w : World) (hn0 : 0 ≤ n) (hn : n < 1000000000000) (hb0 : 1 ≤ b) (hb : b < 1000000000000) :
    Calls Try.prog 68 #[.int .i64 n, .int .i64 b] w fun e w' => e = .returned (.int .i64 ((n + b - 1) / b)) ∧ w' = w := by
  obtain ⟨n, rfl⟩ := Int.eq_ofNat_of_zero_le hn0
  obtain ⟨b, rfl⟩ := Int.eq_ofNat_of_zero_le (show 0 ≤ b by omega)
  refine (up_any n b _ rfl w (by omega) (by omega) (by omega)).mono fun e w' ⟨h1, h2⟩ => ⟨?_, h2⟩
  rw [h1]
  have e1 : ((n + b - 1 : Nat) : Int) = (n : Int) + (b : Int) - 1 := by omega
  rw [← e1]
  rfl

theorem latQ_up (r x : Int) : ((x + 1) * 1000 + (1000 - r) - 1) / (1000 - r) = latQ r x := by
  unfold latQ
  congr 1
  omega

theorem latest1_any (x r : Int) (p : Addr) (w : World) (hx0 : 0 ≤ x) (hx : x ≤ 100000) (hr0 : 0 ≤ r) (hr : r ≤ 500) (hc : w.cell? p = some (.int .i64 r)) :
    Calls Try.prog 67 #[.int .i64 x, .pointer (some p)] w fun e w' => e = .returned (.int .i64 (latQ r x)) ∧ w' = w := by
  have HQ := hidB (latQ_up r x)
  go_enter Try.func67, Try.ntmps67
  go_wp2_with fail
  refine (up_int ((x + 1) * 1000) (1000 - r) _ (by omega) (by omega) (by omega) (by omega)).mono ?_
  rintro e w1 ⟨rfl, rfl⟩
  go_wp2
  go_ret
  rw [← show _ = latQ r x from HQ]
  exact ⟨rfl, rfl⟩
theorem earliest1_any (x r : Int) (p : Addr) (w : World) (hx0 : 1 ≤ x) (hx : x ≤ 100000) (hr0 : 0 ≤ r) (hr : r ≤ 500) (hc : w.cell? p = some (.int .i64 r)) :
    Calls Try.prog 69 #[.int .i64 x, .pointer (some p)] w fun e w' => e = .returned (.int .i64 (earQ r x)) ∧ w' = w := by
  go_enter Try.func69, Try.ntmps69
  go_wp2_with fail
  refine (down_int ((x - 1) * 1000) (1000 + r) _ (by omega) (by omega) (by omega) (by omega)).mono ?_
  rintro e w1 ⟨rfl, rfl⟩
  go_wp2
  go_ret
  exact ⟨rfl, rfl⟩

theorem latestBy_any (r : Int) (w : World) :
    Calls Try.prog 48 #[.int .i64 r] w fun e w' => e = .returned (.func (.func 67) #[] #[.pointer (some ⟨w.heap.size, 0, none⟩)]) ∧ w'.cell? ⟨w.heap.size, 0, none⟩ = some (.int .i64 r) ∧ w.heap.size < w'.heap.size ∧ Below w.heap.size w w' := by
  have hmf : ∀ (fn : Fn) (first cap : Array Value) (w : World), (Instr.makeFunc fn first cap).run Try.prog w = .ok (.func fn first cap) w := fun _ _ _ _ => rfl
  go_enter Try.func48, Try.ntmps48
  go_wp2
  go_ret
  exact ⟨rfl, by simp [go_sem], by simp, Joins.below_alloc1 _ _⟩
theorem earliestBy_any (r : Int) (w : World) :
    Calls Try.prog 49 #[.int .i64 r] w fun e w' => e = .returned (.func (.func 69) #[] #[.pointer (some ⟨w.heap.size, 0, none⟩)]) ∧ w'.cell? ⟨w.heap.size, 0, none⟩ = some (.int .i64 r) ∧ w.heap.size < w'.heap.size ∧ Below w.heap.size w w' := by
  have hmf : ∀ (fn : Fn) (first cap : Array Value) (w : World), (Instr.makeFunc fn first cap).run Try.prog w = .ok (.func fn first cap) w := fun _ _ _ _ => rfl
  go_enter Try.func49, Try.ntmps49
  go_wp2
  go_ret
  exact ⟨rfl, by simp [go_sem], by simp, Joins.below_alloc1 _ _⟩

theorem latestBy_keep (r : Int) (p : Addr) (v : Value) (w : World) (hp : w.cell? p = some v) :
    Calls Try.prog 48 #[.int .i64 r] w fun e w' => e = .returned (.func (.func 67) #[] #[.pointer (some ⟨w.heap.size, 0, none⟩)]) ∧ w'.cell? p = some v ∧ Hid (w'.cell? ⟨w.heap.size, 0, none⟩ = some (.int .i64 r) ∧ w.heap.size < w'.heap.size ∧ Below w.heap.size w w') :=
  (latestBy_any r w).mono fun e w' ⟨h1, h2, h3, h4⟩ => ⟨h1, (h4.cell (World.block_lt_of_cell? _ _ hp)).trans hp, hidB ⟨h2, h3, h4⟩⟩
theorem earliestBy_keep (r : Int) (p : Addr) (v : Value) (w : World) (hp : w.cell? p = some v) :
    Calls Try.prog 49 #[.int .i64 r] w fun e w' => e = .returned (.func (.func 69) #[] #[.pointer (some ⟨w.heap.size, 0, none⟩)]) ∧ w'.cell? p = some v ∧ Hid (w'.cell? ⟨w.heap.size, 0, none⟩ = some (.int .i64 r) ∧ w.heap.size < w'.heap.size ∧ Below w.heap.size w w') :=
  (earliestBy_any r w).mono fun e w' ⟨h1, h2, h3, h4⟩ => ⟨h1, (h4.cell (World.block_lt_of_cell? _ _ hp)).trans hp, hidB ⟨h2, h3, h4⟩⟩

end Go.Proofs.Ytgcbofhjgomjoaa
