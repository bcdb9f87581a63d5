/- Contract of impl.readKind. -/
import Derived.Test.YtlhinknmbgijeaaDoorRows
import Derived.Test.YtlhinknmbgijeaaDoorGen
import Derived.Test.YtlhinknmbgijeaaDoorKeep
import Derived.Test.YtlhinknmbgijeaaDoorInts
import Derived.Test.YtlhinknmbgijeaaDoorUnP
import Derived.Test.YtlhinknmbgijeaaDoorOwnN
import Derived.Test.YtlhinknmbgijeaaDoorUnI
import Derived.Test.YtlhinknmbgijeaaDoorUnR
import Derived.Test.YtlhinknmbgijeaaDoorKindI
import Derived.Test.YtlhinknmbgijeaaDoorRecM
import Derived.Test.YtlhinknmbgijeaaDoorRecI
import Derived.WalkKit
import Derived.WalkSpells
import Derived.Defers
import Derived.Recover
import Derived.BigQuiet
import Derived.Deep.QuietTactic
import Derived.Deep.RegionWith
namespace Go.Proofs.YtlhinknmbgijeaaDoor
open Go.RowKit
set_option linter.unusedVariables false
set_option maxRecDepth 100000

set_option maxHeartbeats 1600000 in
theorem readKind_yes (s : ByteArray) (k : Int) (w : World) (hs : s.size ≤ 65536) (hr : RecP s) (hk : byteAt s 0 = k) :
    Calls Tryd.prog 38 #[.string s, .int .i64 k] w fun e w' => ∃ v, e = .returned v ∧ OwnN w' w.heap.size v (unL (bodyT s)) ∧ Below w.heap.size w w' := by
  subst hk
  go_enter Tryd.func38, Tryd.ntmps38
  go_wp2_with fail
  refine (readRecord_yes s _ hs hr).mono ?_
  rintro e w1 ⟨v, rfl, ⟨qo, qa, rfl, ho⟩, hb⟩
  have HO := hide (ho.below (Joins.below_alloc1 _ (.cells #[.int .i64 (byteAt s 0), .slice qo (unL (bodyT s)).length qa] 69)))
  have HB := hide (fr hb (Joins.below_alloc1 _ (.cells #[.int .i64 (byteAt s 0), .slice qo (unL (bodyT s)).length qa] 69)))
  clear ho hb
  go_wp2_with (go_at_call 66; refine (demand_true _).mono ?_; rintro e w' ⟨rfl, hw⟩; replace hw := hw.symm; subst hw)
  go_ret
  exact ⟨.slice qo (unL (bodyT s)).length qa, rfl, ⟨qo, qa, rfl, unhide HO⟩, unhide HB⟩

set_option maxHeartbeats 1600000 in
theorem readKind_no (s : ByteArray) (k : Int) (w : World) (hs : s.size ≤ 65536) (hr : ¬ (RecP s ∧ byteAt s 0 = k)) (hE : ErrW w) :
    Calls Tryd.prog 38 #[.string s, .int .i64 k] w fun e w' => (∃ u pv, e = .panicked [{ v := .iface u pv, recovered := false }]) ∧ Below w.heap.size w w' := by
  by_cases hp : RecP s
  · have hkb : (byteAt s 0 == k) = false := by rw [beq_eq_false_iff_ne]; exact fun e => hr ⟨hp, e⟩
    have HE := hide hE
    clear hr hE
    go_enter Tryd.func38, Tryd.ntmps38
    go_wp2_with fail
    refine (readRecord_yes s _ hs hp).mono ?_
    rintro e w1 ⟨v, rfl, ⟨qo, qa, rfl, ho⟩, hb⟩
    have HB := hide (fr hb (Joins.below_alloc1 _ (.cells #[.int .i64 (byteAt s 0), .slice qo (unL (bodyT s)).length qa] 69)))
    clear ho hb
    go_wp2_with (go_at_call 66; refine (demand_false _ ((unhide HE).below (unhide HB))).mono ?_; rintro e w' ⟨⟨u, pv, rfl⟩, hw⟩; replace hw := hw.symm; subst hw)
    exact ⟨rfl, ⟨_, _, rfl⟩, unhide HB⟩
  · go_enter Tryd.func38, Tryd.ntmps38
    go_wp2_with fail
    refine (readRecord_no s _ hs hp hE).mono ?_
    rintro e w1 ⟨⟨u, pv, rfl⟩, hb⟩
    have HB := hide hb
    clear hb
    go_wp2
    exact ⟨rfl, ⟨_, _, rfl⟩, unhide HB⟩

end Go.Proofs.YtlhinknmbgijeaaDoor
