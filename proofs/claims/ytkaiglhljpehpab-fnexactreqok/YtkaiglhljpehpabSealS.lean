/- Contracts of the model's l02Kind, l02Seal. -/
import Derived.Test.YtkaiglhljpehpabRows
import Derived.Test.YtkaiglhljpehpabGen
import Derived.Test.YtkaiglhljpehpabInts
import Derived.Test.YtkaiglhljpehpabNums
import Derived.Test.YtkaiglhljpehpabSum
import Derived.Test.YtkaiglhljpehpabPack
import Derived.Test.YtkaiglhljpehpabSealP
import Derived.WalkKit
import Derived.WalkSpells
import Derived.Laws.BytesArg
import Derived.Deep.RegionWith
namespace Go.Proofs.Ytkaiglhljpehpab
open Go.RowKit
set_option linter.unusedVariables false
set_option maxRecDepth 100000

/-- 'string([]byte{a, b})'. -/
theorem lit2 (W : World) (g : Nat) (a b : Int) (h : W.heap.size = g) : (convert 99 9 (.slice (some ⟨g, 0, none⟩) 2 2)).run Try.prog (W.alloc (.cells #[.int .u8 a, .int .u8 b] 5)) = .ok (.string (strOfNums [a, b])) (W.alloc (.cells #[.int .u8 a, .int .u8 b] 5)) := by
  subst h
  refine run_convert_bytes_arg _ 99 5 Try.underlying99 Try.underlying5 W.heap.size 0 2 2 [a, b] rfl ?_ 9 Try.underlying9
  intro i hi
  rcases (show i = 0 ∨ i = 1 by omega) with rfl | rfl <;> simp [go_sem, List.getD]

end Go.Proofs.Ytkaiglhljpehpab
