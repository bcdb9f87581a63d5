/- Contract of laws.at: one of some choices. -/
import Derived.Test.YtlhinknmbgijeaaDoorRows
import Derived.Test.YtlhinknmbgijeaaDoorGen
import Derived.Test.YtlhinknmbgijeaaDoorSrc
import Derived.WalkKit
import Derived.WalkSpells
import Derived.BigQuiet
import Derived.Deep.QuietTactic
import Derived.Deep.RegionWith
namespace Go.Proofs.YtlhinknmbgijeaaDoor
open Go.RowKit
set_option linter.unusedVariables false
set_option maxRecDepth 100000

set_option maxHeartbeats 3200000 in
theorem at_any (ao : Option Addr) (n cap : Nat) (i k : Int) (w : World) (hn : n ≤ 1048576) (hi0 : 0 ≤ i) (hi1 : i ≤ 1000) (hk0 : 1 ≤ k) (hk1 : k ≤ 100000) (hB : Bs w ao n) :
    Calls Tryd.prog 11 #[.slice ao n cap, .int .i64 i, .int .i64 k] w fun e w' => ∃ r : Int, e = .returned (.int .i64 r) ∧ 0 ≤ r ∧ r < k ∧ Below w.heap.size w w' := by
  by_cases h1 : k ≤ 1
  · go_enter Tryd.func11, Tryd.ntmps11
    go_wp2
    go_ret
    exact ⟨0, rfl, by omega, by omega, Below.refl _ _⟩
  by_cases h0 : n = 0
  · have hb0 : ((n : Int) == 0) = true := by simp [h0]
    go_enter Tryd.func11, Tryd.ntmps11
    go_wp2
    go_ret
    have q0 := Int.emod_nonneg (i * 7) (show k ≠ 0 by omega)
    have q1 := Int.emod_lt_of_pos (i * 7) (show 0 < k by omega)
    exact ⟨i * 7 % k, rfl, q0, q1, Below.refl _ _⟩
  have hb0 : ((n : Int) == 0) = false := by simp [h0]
  have hnp : (0 : Int) < n := by omega
  have p0 := Int.emod_nonneg i (show (n : Int) ≠ 0 by omega)
  have p1 := Int.emod_lt_of_pos i hnp
  have p2 := Int.emod_nonneg (i + 1) (show (n : Int) ≠ 0 by omega)
  have p3 := Int.emod_lt_of_pos (i + 1) hnp
  obtain ⟨u, hu⟩ := Int.eq_ofNat_of_zero_le p0
  obtain ⟨v, hv⟩ := Int.eq_ofNat_of_zero_le p2
  have q0 : i / (n : Int) ≤ 1000 := Int.le_trans (Int.ediv_le_self _ hi0) hi1
  have q1 : 0 ≤ i / (n : Int) := Int.ediv_nonneg hi0 (by omega)
  obtain ⟨b, off, x, rfl, hcx, hx0, hx1⟩ := hB u (by omega)
  obtain ⟨b2, off2, y, he, hcy, hy0, hy1⟩ := hB v (by omega)
  simp only [Option.some.injEq, Addr.mk.injEq, and_true] at he
  obtain ⟨rfl, rfl⟩ := he
  have hn0 : ((n : Int) == 0) = false := hb0
  have hn1 : ¬ (n : Int) = 0 := by omega
  have hk2 : ¬ k = 0 := by omega
  have t1 : i.tmod (n : Int) = (u : Int) := by rw [Int.tmod_eq_emod_of_nonneg hi0]; exact hu
  have w1 : IntKind.i64.wrap (i + 1) = i + 1 := wrapI (by omega) (by omega)
  have t2 : (i + 1).tmod (n : Int) = (v : Int) := by rw [Int.tmod_eq_emod_of_nonneg (by omega)]; exact hv
  have w2 : IntKind.i64.wrap x = x := wrapI (by omega) (by omega)
  have w3 : IntKind.i64.wrap (x * 31) = x * 31 := wrapI (by omega) (by omega)
  have w4 : IntKind.i64.wrap y = y := wrapI (by omega) (by omega)
  have w5 : IntKind.i64.wrap (x * 31 + y) = x * 31 + y := wrapI (by omega) (by omega)
  have t3 : i.tdiv (n : Int) = i / (n : Int) := Int.tdiv_eq_ediv_of_nonneg hi0
  have w6 : IntKind.i64.wrap (i / (n : Int)) = i / (n : Int) := wrapI (by omega) (by omega)
  have w7 : IntKind.i64.wrap (x * 31 + y + i / (n : Int)) = x * 31 + y + i / (n : Int) := wrapI (by omega) (by omega)
  have t4 : (x * 31 + y + i / (n : Int)).tmod k = (x * 31 + y + i / (n : Int)) % k := Int.tmod_eq_emod_of_nonneg (by omega)
  have z0 := Int.emod_nonneg (x * 31 + y + i / (n : Int)) (show k ≠ 0 by omega)
  have z1 := Int.emod_lt_of_pos (x * 31 + y + i / (n : Int)) (show 0 < k by omega)
  go_enter Tryd.func11, Tryd.ntmps11
  go_wp2
  go_quiet (fail)
  go_wp2
  go_ret
  exact ⟨_, rfl, z0, z1, Joins.below_draws _ _ _⟩

end Go.Proofs.YtlhinknmbgijeaaDoor
