/-
  No cell of these rows narrows 'for every input' (looked for: loops, veiled, ifaces, maps, wideKeys, modest, calm, conditions, laid).
  DERIVED. THE GIVEN ROWS OF THIS SEAT. 5 by the template 'for every input the law returns true; each argument reads behind the call as it read before'; 0 by the template 'total and deterministic' (their statements: YtjoafbkcnnhdiaaTotals.lean).
  GIVEN WITH THE SEED: the statements are not yours to turn. If you find one false, say at which input.
  Laid BY PROGRAM, IN A SANDBOX (cutbox-rows.mjs): the forced cells as the released guide's own fill.sh prints them over the translation 3002f0d8275096f5… (all of the seat's roots in one cut). By AI agents, Wed Nov 11 2026. No macro, syntax, notation, axiom, sorry.
-/
import Derived.Test.YtjoafbkcnnhdiaaChecked
import GoSem.Claim
import GoSem.ClaimJoined
import GoSem.ClaimMapViews
import Derived.JoinedTies
import Derived.KernelRfl
namespace Go.Proofs.Ytjoafbkcnnhdiaa
/- THE CELL 'sum', in the pinned program and in every row, IS THE sha256 OF THE DUMP (.gsa) THAT YtjoafbkcnnhdiaaProg.lean LOADS. Nothing in Lean hashes anything: it is a label: what it is worth is what the hold of that sum in a sandbox is worth. -/
noncomputable def Try.pinned : Pinned := { name := "ytjoafbkcnnhdiaa", sum := "3002f0d8275096f56fafe5892167ba028b3c346692450a7f834208d1435c4c09", checked := Try.checked }
namespace Rows
def none {H : Type} : Left H := { results := [], args := [] }

/-- 'laws.FnExactEncodeTable': WHATEVER THE INPUT: true; the input reads as it did. -/
def fnExactEncodeTableSpec : ChangeSpec := { name := "fnExactEncodeTable", fn := fun _ => fun
  | [d] => { results := [.lit (.bool true)], args := [d] }
  | _ => none }
def fnExactEncodeTableRow : OpenClaim := { program := "ytjoafbkcnnhdiaa", sum := "3002f0d8275096f56fafe5892167ba028b3c346692450a7f834208d1435c4c09", func := "loop.example/g00456/laws.FnExactEncodeTable", spec := "fnExactEncodeTable", apart := false }
def FnExactEncodeTableSaid : Prop := fnExactEncodeTableRow.holds Try.pinned (OpenSpec.ofChange fnExactEncodeTableSpec)

/-- ITS FALSE NEIGHBOUR: 'it returns false'. Refute it at one input. -/
def fnExactEncodeTableWrong : ChangeSpec := { name := "fnExactEncodeTable", fn := fun _ => fun
  | [d] => { results := [.lit (.bool false)], args := [d] }
  | _ => none }
def FnExactEncodeTableWrongFalsely : Prop := fnExactEncodeTableRow.holds Try.pinned (OpenSpec.ofChange fnExactEncodeTableWrong)

/-- 'laws.FnExactEncodeRefs': WHATEVER THE INPUT: true; the input reads as it did. -/
def fnExactEncodeRefsSpec : ChangeSpec := { name := "fnExactEncodeRefs", fn := fun _ => fun
  | [d] => { results := [.lit (.bool true)], args := [d] }
  | _ => none }
def fnExactEncodeRefsRow : OpenClaim := { program := "ytjoafbkcnnhdiaa", sum := "3002f0d8275096f56fafe5892167ba028b3c346692450a7f834208d1435c4c09", func := "loop.example/g00456/laws.FnExactEncodeRefs", spec := "fnExactEncodeRefs", apart := false }
def FnExactEncodeRefsSaid : Prop := fnExactEncodeRefsRow.holds Try.pinned (OpenSpec.ofChange fnExactEncodeRefsSpec)

/-- ITS FALSE NEIGHBOUR: 'it returns false'. Refute it at one input. -/
def fnExactEncodeRefsWrong : ChangeSpec := { name := "fnExactEncodeRefs", fn := fun _ => fun
  | [d] => { results := [.lit (.bool false)], args := [d] }
  | _ => none }
def FnExactEncodeRefsWrongFalsely : Prop := fnExactEncodeRefsRow.holds Try.pinned (OpenSpec.ofChange fnExactEncodeRefsWrong)

/-- 'laws.FnExactImageOK': WHATEVER THE INPUT: true; the input reads as it did. -/
def fnExactImageOKSpec : ChangeSpec := { name := "fnExactImageOK", fn := fun _ => fun
  | [d] => { results := [.lit (.bool true)], args := [d] }
  | _ => none }
def fnExactImageOKRow : OpenClaim := { program := "ytjoafbkcnnhdiaa", sum := "3002f0d8275096f56fafe5892167ba028b3c346692450a7f834208d1435c4c09", func := "loop.example/g00456/laws.FnExactImageOK", spec := "fnExactImageOK", unfollowed := true, recurses := true, apart := false }
def FnExactImageOKSaid : Prop := fnExactImageOKRow.holds Try.pinned (OpenSpec.ofChange fnExactImageOKSpec)

/-- ITS FALSE NEIGHBOUR: 'it returns false'. Refute it at one input. -/
def fnExactImageOKWrong : ChangeSpec := { name := "fnExactImageOK", fn := fun _ => fun
  | [d] => { results := [.lit (.bool false)], args := [d] }
  | _ => none }
def FnExactImageOKWrongFalsely : Prop := fnExactImageOKRow.holds Try.pinned (OpenSpec.ofChange fnExactImageOKWrong)

/-- 'laws.FnExactReadCluster': WHATEVER THE INPUT: true; the input reads as it did. -/
def fnExactReadClusterSpec : ChangeSpec := { name := "fnExactReadCluster", fn := fun _ => fun
  | [d1, d2] => { results := [.lit (.bool true)], args := [d1, d2] }
  | _ => none }
def fnExactReadClusterRow : OpenClaim := { program := "ytjoafbkcnnhdiaa", sum := "3002f0d8275096f56fafe5892167ba028b3c346692450a7f834208d1435c4c09", func := "loop.example/g00456/laws.FnExactReadCluster", spec := "fnExactReadCluster", unfollowed := true, recurses := true, apart := false }
def FnExactReadClusterSaid : Prop := fnExactReadClusterRow.holds Try.pinned (OpenSpec.ofChange fnExactReadClusterSpec)

/-- ITS FALSE NEIGHBOUR: 'it returns false'. Refute it at one input. -/
def fnExactReadClusterWrong : ChangeSpec := { name := "fnExactReadCluster", fn := fun _ => fun
  | [d1, d2] => { results := [.lit (.bool false)], args := [d1, d2] }
  | _ => none }
def FnExactReadClusterWrongFalsely : Prop := fnExactReadClusterRow.holds Try.pinned (OpenSpec.ofChange fnExactReadClusterWrong)

/-- 'laws.FnExactWriteCluster': WHATEVER THE INPUT: true; the input reads as it did. -/
def fnExactWriteClusterSpec : ChangeSpec := { name := "fnExactWriteCluster", fn := fun _ => fun
  | [d1, d2, d3] => { results := [.lit (.bool true)], args := [d1, d2, d3] }
  | _ => none }
def fnExactWriteClusterRow : OpenClaim := { program := "ytjoafbkcnnhdiaa", sum := "3002f0d8275096f56fafe5892167ba028b3c346692450a7f834208d1435c4c09", func := "loop.example/g00456/laws.FnExactWriteCluster", spec := "fnExactWriteCluster", unfollowed := true, recurses := true, apart := false }
def FnExactWriteClusterSaid : Prop := fnExactWriteClusterRow.holds Try.pinned (OpenSpec.ofChange fnExactWriteClusterSpec)

/-- ITS FALSE NEIGHBOUR: 'it returns false'. Refute it at one input. -/
def fnExactWriteClusterWrong : ChangeSpec := { name := "fnExactWriteCluster", fn := fun _ => fun
  | [d1, d2, d3] => { results := [.lit (.bool false)], args := [d1, d2, d3] }
  | _ => none }
def FnExactWriteClusterWrongFalsely : Prop := fnExactWriteClusterRow.holds Try.pinned (OpenSpec.ofChange fnExactWriteClusterWrong)

/- THE SECOND FORM. 'bulk': how many values and letters a reading holds, each counted each time it is reached (what is shared counts as often as it is met; a slice's spare places count too). A statement '..UptoSaid' is the law's where the arguments, and the package variables that the reading takes, are together of bulk at most 1048576: NARROWER than '..Said'. Prove '..Said' where nothing that the law and all that it calls make is longer than what came in: it says more and counts as full. Else prove '..UptoSaid'. A law counts once. -/
mutual
def uptoBulk {H : Type} : DataW H → Nat
  | .lit (.string bytes) => bytes.length + 1
  | .lit _ => 1
  | .nil => 1
  | .ptr d => uptoBulk d + 1
  | .slice elems spare => uptoBulkAll elems + uptoBulkAll spare + 1
  | .agg parts => uptoBulkAll parts + 1
  | .iface _ d => uptoBulk d + 1
  | .map entries => uptoBulkEntries entries + 1
  | .held _ => 1
def uptoBulkAll {H : Type} : List (DataW H) → Nat
  | [] => 0
  | d :: r => uptoBulk d + uptoBulkAll r
def uptoBulkEntries {H : Type} : List (Lit × DataW H) → Nat
  | [] => 0
  | x :: r => uptoBulkEntry x + uptoBulkEntries r
def uptoBulkEntry {H : Type} : Lit × DataW H → Nat
  | (.string bytes, d) => bytes.length + uptoBulk d + 1
  | (_, d) => uptoBulk d + 1
 end
def uptoSmall : (H : Type) → List (DataW H) → Bool := fun _ ds => decide (uptoBulkAll ds ≤ 1048576)
def OpenSpec.upto (s : _root_.Go.ChangeSpec) : _root_.Go.OpenSpec := { _root_.Go.OpenSpec.ofChange s with cond := some uptoSmall }

/-- 'laws.FnExactEncodeTable', WHERE WHAT IT READS IS OF BULK AT MOST 1048576: true; the input reads as it did. -/
def fnExactEncodeTableUptoRow : OpenClaim := { program := "ytjoafbkcnnhdiaa", sum := "3002f0d8275096f56fafe5892167ba028b3c346692450a7f834208d1435c4c09", func := "loop.example/g00456/laws.FnExactEncodeTable", spec := "fnExactEncodeTable", apart := false, narrowed := true }
def FnExactEncodeTableUptoSaid : Prop := fnExactEncodeTableUptoRow.holds Try.pinned (OpenSpec.upto fnExactEncodeTableSpec)

/-- 'laws.FnExactEncodeRefs', WHERE WHAT IT READS IS OF BULK AT MOST 1048576: true; the input reads as it did. -/
def fnExactEncodeRefsUptoRow : OpenClaim := { program := "ytjoafbkcnnhdiaa", sum := "3002f0d8275096f56fafe5892167ba028b3c346692450a7f834208d1435c4c09", func := "loop.example/g00456/laws.FnExactEncodeRefs", spec := "fnExactEncodeRefs", apart := false, narrowed := true }
def FnExactEncodeRefsUptoSaid : Prop := fnExactEncodeRefsUptoRow.holds Try.pinned (OpenSpec.upto fnExactEncodeRefsSpec)

/-- 'laws.FnExactImageOK', WHERE WHAT IT READS IS OF BULK AT MOST 1048576: true; the input reads as it did. -/
def fnExactImageOKUptoRow : OpenClaim := { program := "ytjoafbkcnnhdiaa", sum := "3002f0d8275096f56fafe5892167ba028b3c346692450a7f834208d1435c4c09", func := "loop.example/g00456/laws.FnExactImageOK", spec := "fnExactImageOK", unfollowed := true, recurses := true, apart := false, narrowed := true }
def FnExactImageOKUptoSaid : Prop := fnExactImageOKUptoRow.holds Try.pinned (OpenSpec.upto fnExactImageOKSpec)

/-- 'laws.FnExactReadCluster', WHERE WHAT IT READS IS OF BULK AT MOST 1048576: true; the input reads as it did. -/
def fnExactReadClusterUptoRow : OpenClaim := { program := "ytjoafbkcnnhdiaa", sum := "3002f0d8275096f56fafe5892167ba028b3c346692450a7f834208d1435c4c09", func := "loop.example/g00456/laws.FnExactReadCluster", spec := "fnExactReadCluster", unfollowed := true, recurses := true, apart := false, narrowed := true }
def FnExactReadClusterUptoSaid : Prop := fnExactReadClusterUptoRow.holds Try.pinned (OpenSpec.upto fnExactReadClusterSpec)

/-- 'laws.FnExactWriteCluster', WHERE WHAT IT READS IS OF BULK AT MOST 1048576: true; the input reads as it did. -/
def fnExactWriteClusterUptoRow : OpenClaim := { program := "ytjoafbkcnnhdiaa", sum := "3002f0d8275096f56fafe5892167ba028b3c346692450a7f834208d1435c4c09", func := "loop.example/g00456/laws.FnExactWriteCluster", spec := "fnExactWriteCluster", unfollowed := true, recurses := true, apart := false, narrowed := true }
def FnExactWriteClusterUptoSaid : Prop := fnExactWriteClusterUptoRow.holds Try.pinned (OpenSpec.upto fnExactWriteClusterSpec)

end Rows
end Go.Proofs.Ytjoafbkcnnhdiaa
