/- Contracts of the laws' own copies of requests: toReq, szReq, eqReq. -/
import Derived.Test.YtkaiglhljpehpabRows
import Derived.Test.YtkaiglhljpehpabGen
import Derived.Test.YtkaiglhljpehpabInts
import Derived.Test.YtkaiglhljpehpabRqP
import Derived.WalkKit
import Derived.WalkSpells
import Derived.Laws.ResultCell
namespace Go.Proofs.Ytkaiglhljpehpab
open Go.RowKit
set_option linter.unusedVariables false
set_option maxRecDepth 100000

set_option maxHeartbeats 1600000 in
theorem toReq_any (q : Rq) (w : World) : Calls Try.prog 26 #[qV q] w fun e w' => e = .returned (qV q) ∧ Below w.heap.size w w' := by
  go_enter Try.func26, Try.ntmps26
  go_wp2
  exact bodyPost_ret (v := qV q) (by simp [results, Try.results26, go_sem]) rfl ⟨rfl, fr (Joins.below_alloc2 _ _ _) (Joins.below_alloc1 _ _)⟩

set_option maxHeartbeats 1600000 in
theorem szReq_any (q : Rq) (left : Int) (w : World) (hz : q.n.size ≤ maxLen) (h0 : 0 ≤ left) (h1 : left ≤ 1048576) :
    Calls Try.prog 24 #[qV q, .int .i64 left] w fun e w' => ∃ r : Int, e = .returned (.int .i64 r) ∧ -1 ≤ r ∧ r ≤ left ∧ (0 ≤ r → (q.n.size : Int) ≤ left) ∧ Below w.heap.size w w' := by
  unfold maxLen at hz
  have wr1 : IntKind.i64.wrap (left - (q.n.size : Int)) = left - (q.n.size : Int) := by rw [IntKind.wrap_i64]; omega
  by_cases h : left - (q.n.size : Int) < 0
  · go_enter Try.func24, Try.ntmps24
    go_wp2
    go_ret
    exact ⟨-1, rfl, by omega, by omega, by omega, Joins.below_alloc1 _ _⟩
  · go_enter Try.func24, Try.ntmps24
    go_wp2
    go_ret
    exact ⟨_, rfl, by omega, by omega, by omega, Joins.below_alloc1 _ _⟩

end Go.Proofs.Ytkaiglhljpehpab
