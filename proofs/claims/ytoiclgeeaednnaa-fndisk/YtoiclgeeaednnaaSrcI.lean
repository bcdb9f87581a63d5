/- Contracts of spec.DiskOf and spec.TextOf. -/
import Derived.Test.YtoiclgeeaednnaaRows
import Derived.Test.YtoiclgeeaednnaaGen
import Derived.Test.YtoiclgeeaednnaaKeep
import Derived.Test.YtoiclgeeaednnaaDiskW
import Derived.Test.YtoiclgeeaednnaaOwnF
import Derived.Test.YtoiclgeeaednnaaSrc
import Derived.Test.YtoiclgeeaednnaaSrcG
import Derived.Test.YtoiclgeeaednnaaSrcT
import Derived.Test.YtoiclgeeaednnaaSrcE
import Derived.Test.YtoiclgeeaednnaaSrcF
import Derived.WalkKit
import Derived.WalkSpells
namespace Go.Proofs.Ytoiclgeeaednnaa
open Go.RowKit
set_option linter.unusedVariables false
set_option maxRecDepth 100000

set_option maxHeartbeats 1600000 in
theorem diskOf_any (so : Option Addr) (n cap : Nat) (w : World) (hn : n ≤ 1048576) (hB : Bs w so n) :
    Calls Try.prog 7 #[.slice so n cap] w fun e w' => ∃ ss xs po pa qo qa, e = .returned (.agg #[.slice po ss.length pa, .slice qo xs.length qa]) ∧ diskB ss xs = true ∧ xs.length ≤ 19 ∧ Ss w' po ss ∧ Ios w' qo xs ∧ Below w.heap.size w w' := by
  have HB0 := hide (hB.below (Joins.below_alloc1 w (.cells #[.slice none 0 0, .slice none 0 0] 26)))
  have HW0 := hide (Joins.below_alloc1 w (.cells #[.slice none 0 0, .slice none 0 0] 26))
  have HR0 : Hid (VarD (w.alloc (.cells #[.slice none 0 0, .slice none 0 0] 26)) w.heap.size (.slice none 0 0) (.slice none 0 0)) := hide (heap_alloc_new w _)
  clear hB
  go_enter Try.func7, Try.ntmps7
  go_wp2_with fail
  refine (source_any so n cap _ hn (unhide HB0)).mono ?_
  rintro e w1 ⟨rfl, hs1, hb1, hz⟩
  have HR1 := hide ((unhide HR0).below hb1)
  have HW1 := hide (fr (unhide HW0) hb1)
  simp only [World.size_alloc] at hs1
  have hz1 : w1.heap.size = w.heap.size + 2 := by rw [hz]; simp
  clear hb1 hz
  go_wp2_with fail
  refine (disk_k _ so n cap 0 _ (by omega) hn hs1).mono ?_
  rintro e w2 ⟨⟨ss, xs, po, pa, qo, qa, rfl, hd, hl, h1, h2⟩, hk⟩
  have HR2 := hide ((unhide HR1).keep hk (by omega))
  have HW2 := hide ((unhide HW1).trans (hk.below (B := w.heap.size) (by omega) (fun k hk => by rw [hk]; simp)))
  have H1 := hide h1
  have H2 := hide h2
  have HD := hide hd
  clear hk hs1 h1 h2 hd
  obtain ⟨y0, y1⟩ := (unhide HR2).cells
  have z0 := (unhide HR2).free 0
  have z1 := (unhide HR2).free 1
  go_wp2
  obtain ⟨hdv, hkr⟩ := DV.store (ca := pa) (cb := qa) (unhide HR2) (unhide H1) (unhide H2)
  exact bodyPost_ret (v := .agg #[.slice po ss.length pa, .slice qo xs.length qa]) (by simp [results, Try.results7, go_sem, y0, y1]) rfl ⟨ss, xs, po, pa, qo, qa, rfl, unhide HD, hl, hdv.s, hdv.i, ((unhide HW2).setCell (p := ⟨w.heap.size, 0, none⟩) (Nat.le_refl _) _).setCell (p := ⟨w.heap.size, 1, none⟩) (Nat.le_refl _) _⟩

set_option maxHeartbeats 1600000 in
theorem textOf_any (so : Option Addr) (n cap k : Nat) (w : World) (hk : k ≤ 100) (hn : n ≤ 1048576) (hB : Bs w so n) :
    Calls Try.prog 9 #[.slice so n cap, .int .i64 k] w fun e w' => ∃ t : ByteArray, e = .returned (.string t) ∧ t.size = k ∧ Below w.heap.size w w' := by
  go_enter Try.func9, Try.ntmps9
  go_wp2_with fail
  refine (source_any so n cap _ hn hB).mono ?_
  rintro e w1 ⟨rfl, hs1, hb1, hz⟩
  go_wp2_with fail
  refine (some_k _ so n cap 0 k _ hk (by omega) hn hs1).mono ?_
  rintro e w2 ⟨t, rfl, ht, hs2, hk2⟩
  have HB := hide (hb1.trans (hk2.below (B := w.heap.size) (by omega) (fun k hk => by omega)))
  clear hb1 hk2 hs1 hs2
  go_wp2
  go_ret
  exact ⟨t, rfl, ht, unhide HB⟩

end Go.Proofs.Ytoiclgeeaednnaa
