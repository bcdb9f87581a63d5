/- The walk of laws.FnExactTakeDelta, whole. -/
import Derived.Test.YtlhinknmbgijeaaDoorXTakeDeltaPart7
import Derived.Test.YtlhinknmbgijeaaDoorXTakeDeltaPart10

namespace Go.Proofs.YtlhinknmbgijeaaDoor
open Go.RowKit
theorem takeDelta_law (ao bo : Option Addr) (ca cb : Nat) (ss : List ByteArray) (xs : List Wr) (h a : Int) (w : World) (hl : ss.length ≤ maxLen) (hm : xs.length ≤ maxLen) (hc : Ss w ao ss) (hd : Ios w bo xs) (hE : ErrW w) :
    Calls Tryd.prog 5 #[.agg #[.slice ao ss.length ca, .slice bo xs.length cb], .int .i64 h, .int .i64 a] w fun e w' => e = .returned (.bool true) ∧ Below w.heap.size w w' :=
  lawTakeDelta ao bo ca cb ss xs h a w hl hm hc hd (fun RS RX RH RG RT RC he ao bo ca cb W hb h1 h2 => takeDelta_impl RS RX RH RG RT RC ao bo ca cb ss xs h a W he hl hm h1 h2 (hE.below hb))
end Go.Proofs.YtlhinknmbgijeaaDoor
