/- Contracts of the model's drawn clocks and configurations: clock, ClockOf, config, ConfigOf. -/
import Derived.Test.YtgcbofhjgomjoaaRows
import Derived.Test.YtgcbofhjgomjoaaGen
import Derived.Test.YtgcbofhjgomjoaaKeep
import Derived.Test.YtgcbofhjgomjoaaSrc
import Derived.Test.YtgcbofhjgomjoaaSrcG
import Derived.Test.YtgcbofhjgomjoaaClkB
import Derived.WalkKit
import Derived.WalkSpells
namespace Go.Proofs.Ytgcbofhjgomjoaa
open Go.RowKit
set_option linter.unusedVariables false

set_option maxHeartbeats 1600000 in
theorem clock_k (b : Nat) (ao : Option Addr) (n cap m : Nat) (dr : Int) (w : World) (hd0 : 0 ≤ dr) (hd1 : dr ≤ 500) (hm : m ≤ 700000) (hn : n ≤ 1048576) (hs : SrcK w b ao n cap m) :
    Calls Try.prog 53 #[.pointer (some ⟨b, 0, none⟩), .int .i64 dr] w fun e w' => (∃ o r : Int, e = .returned (clkV o r) ∧ 0 ≤ o ∧ o < 100 ∧ -dr ≤ r ∧ r ≤ dr) ∧ Keep (fun k => k = b) w w' := by
  have HS := hide hs
  have hlt := hs.lt
  clear hs
  have HK0 : Hid (Keep (fun k => k = b) w (w.alloc (.cells #[.int .i64 0, .int .i64 0] 46))) := hide (Keep.of_below (Joins.below_alloc1 _ _))
  have HS0 := hide ((unhide HS).below (Joins.below_alloc1 w (.cells #[.int .i64 0, .int .i64 0] 46)))
  have HR0 : Hid ((w.alloc (.cells #[.int .i64 0, .int .i64 0] 46)).heap[w.heap.size]? = some (.cells #[.int .i64 0, .int .i64 0] 46 (0, 0))) := hide (heap_alloc_new w _)
  go_enter Try.func53, Try.ntmps53
  go_wp2_with fail
  refine (next_k b ao n cap m 100 _ (by omega) (by omega) (by omega) hn (unhide HS0)).mono ?_
  rintro e w1 ⟨r1, rfl, hr10, hr11, hs1, hk1⟩
  have HS1 := hide hs1
  have HK1 := hide ((unhide HK0).trans hk1)
  have HR1 := hide (blk_keep hk1 (by omega) (unhide HR0))
  clear hs1 hk1
  go_wp2_with fail
  refine (next_k b ao n cap (m + 3) (2 * dr + 1) _ (by omega) (by omega) (by omega) hn (unhide HS1)).mono ?_
  rintro e w2 ⟨r2, rfl, hr20, hr21, hs2, hk2⟩
  have HK2 := hide ((unhide HK1).trans hk2)
  have HR2 := hide (blk_keep hk2 (by omega) (unhide HR1))
  have c0 := Joins.cell_of_block (unhide HR2) 0
  have c1 := Joins.cell_of_block (unhide HR2) 1
  have z0 := Joins.unfrozen_of_block (unhide HR2) 0
  have z1 := Joins.unfrozen_of_block (unhide HR2) 1
  simp at c0 c1
  clear hs2 hk2
  go_wp2
  have HKE : Keep (fun k => k = b ∨ w.heap.size ≤ k) w ((w2.setCell ⟨w.heap.size, 0, none⟩ (.int .i64 r1)).setCell ⟨w.heap.size, 1, none⟩ (.int .i64 (r2 - dr))) := (((unhide HK2).mono (fun k h => .inl h)).setCell (p := ⟨w.heap.size, 0, none⟩) (.inr (Nat.le_refl _)) _).setCell (p := ⟨w.heap.size, 1, none⟩) (.inr (Nat.le_refl _)) _
  exact bodyPost_ret (v := clkV r1 (r2 - dr)) (by simp [results, Try.results53, go_sem, c0, c1]) rfl ⟨⟨r1, r2 - dr, rfl, hr10, hr11, by omega, by omega⟩, keep_drop HKE⟩

set_option maxHeartbeats 800000 in
theorem clockOf_any (ao : Option Addr) (n cap : Nat) (dr : Int) (w : World) (hd0 : 0 ≤ dr) (hd1 : dr ≤ 500) (hn : n ≤ 1048576) (hB : Bs w ao n) :
    Calls Try.prog 23 #[.slice ao n cap, .int .i64 dr] w fun e w' => (∃ o r : Int, e = .returned (clkV o r) ∧ 0 ≤ o ∧ o < 100 ∧ -dr ≤ r ∧ r ≤ dr) ∧ Below w.heap.size w w' := by
  have HB0 := hide (hB.below (Joins.below_alloc1 w (.cells #[.int .i64 0, .int .i64 0] 46)))
  have HW0 := hide (Joins.below_alloc1 w (.cells #[.int .i64 0, .int .i64 0] 46))
  have HR0 : Hid ((w.alloc (.cells #[.int .i64 0, .int .i64 0] 46)).heap[w.heap.size]? = some (.cells #[.int .i64 0, .int .i64 0] 46 (0, 0))) := hide (heap_alloc_new w _)
  clear hB
  go_enter Try.func23, Try.ntmps23
  go_wp2_with fail
  refine (source_any ao n cap _ hn (unhide HB0)).mono ?_
  rintro e w1 ⟨rfl, hs1, hb1, hz⟩
  have HR1 := hide (blk_below hb1 (unhide HR0))
  have HW1 := hide (fr (unhide HW0) hb1)
  simp only [World.size_alloc] at hs1
  have hz1 : w1.heap.size = w.heap.size + 2 := by rw [hz]; simp
  clear hb1 hz
  go_wp2_with fail
  refine (clock_k _ ao n cap 0 dr _ hd0 hd1 (by omega) hn hs1).mono ?_
  rintro e w2 ⟨⟨o, r, rfl, ho0, ho1, hr0, hr1⟩, hk⟩
  have HR2 := hide (blk_keep hk (by simp) (unhide HR1))
  have HW2 := hide ((unhide HW1).trans (hk.below (B := w.heap.size) (by omega) (fun k hk => by rw [hk]; simp)))
  clear hk hs1
  have c0 := Joins.cell_of_block (unhide HR2) 0
  have c1 := Joins.cell_of_block (unhide HR2) 1
  have z0 := Joins.unfrozen_of_block (unhide HR2) 0
  have z1 := Joins.unfrozen_of_block (unhide HR2) 1
  simp at c0 c1
  go_wp2
  exact bodyPost_ret (v := clkV o r) (by simp [results, Try.results23, go_sem, c0, c1]) rfl ⟨⟨o, r, rfl, ho0, ho1, hr0, hr1⟩, ((unhide HW2).setCell (p := ⟨w.heap.size, 0, none⟩) (Nat.le_refl _) _).setCell (p := ⟨w.heap.size, 1, none⟩) (Nat.le_refl _) _⟩

end Go.Proofs.Ytgcbofhjgomjoaa
