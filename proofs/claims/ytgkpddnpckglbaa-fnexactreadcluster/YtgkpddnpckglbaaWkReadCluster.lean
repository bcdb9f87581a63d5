/- The walk of laws.FnExactReadCluster. -/
import Derived.Test.YtgkpddnpckglbaaPart14
import Derived.Test.YtgkpddnpckglbaaPart15
import Derived.Test.YtgkpddnpckglbaaPart18

namespace Go.Proofs.Ytgkpddnpckglbaa
open Go.RowKit
set_option linter.unusedVariables false
set_option maxRecDepth 100000

theorem wkReadCluster (a : Im4) (m : Img) (g : Int) (w : World) (hl : m.refs.length ≤ maxLen ∧ m.table.length ≤ maxLen ∧ m.snaps.length ≤ maxLen ∧ m.data.length ≤ maxLen) (hc : ImS w a m) :
    Calls Try.prog 6 #[imV a m, .int .i64 g] w fun e w' => e = .returned (.bool true) ∧ Below w.heap.size w w' :=
  have hL : ImL m := ⟨hl.1, hl.2.1, hl.2.2.1, hl.2.2.2⟩
  lawImReadCluster a m g (rcA m g) w hL hc (fun s hs => by obtain ⟨j, hj, rfl⟩ := List.mem_iff_getElem.1 hs; obtain ⟨_, _, _, _, _, _, _, _, h1, h2⟩ := hc.s j hj; exact ⟨h1, h2⟩) (fun b W h => readCluster_spec b m g W hL h) (fun b W h => readCluster_impl b m g W hL h)

end Go.Proofs.Ytgkpddnpckglbaa
