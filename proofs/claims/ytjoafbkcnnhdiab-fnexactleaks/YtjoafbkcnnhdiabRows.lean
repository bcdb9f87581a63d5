/-
  No cell of these rows narrows 'for every input' (looked for: loops, veiled, ifaces, maps, wideKeys, modest, calm, conditions, laid).
  DERIVED. THE GIVEN ROWS OF THIS SEAT. 6 by the template 'for every input the law returns true; each argument reads behind the call as it read before'; 0 by the template 'total and deterministic' (their statements: YtjoafbkcnnhdiabTotals.lean).
  GIVEN WITH THE SEED: the statements are not yours to turn. If you find one false, say at which input.
  Laid BY PROGRAM, IN A SANDBOX (cutbox-rows.mjs): the forced cells as the released guide's own fill.sh prints them over the translation 9a2e09317e405522… (all of the seat's roots in one cut). By AI agents, Wed Nov 11 2026. No macro, syntax, notation, axiom, sorry.
-/
import Derived.Test.YtjoafbkcnnhdiabChecked
import GoSem.Claim
import GoSem.ClaimJoined
import GoSem.ClaimMapViews
import Derived.JoinedTies
import Derived.KernelRfl
namespace Go.Proofs.Ytjoafbkcnnhdiab
/- THE CELL 'sum', in the pinned program and in every row, IS THE sha256 OF THE DUMP (.gsa) THAT YtjoafbkcnnhdiabProg.lean LOADS. Nothing in Lean hashes anything: it is a label: what it is worth is what the hold of that sum in a sandbox is worth. -/
noncomputable def Try.pinned : Pinned := { name := "ytjoafbkcnnhdiab", sum := "9a2e09317e405522ea6bb02ef68249664126111cc0213c54c3d69dcd31e63b8b", checked := Try.checked }
namespace Rows
def none {H : Type} : Left H := { results := [], args := [] }

/-- 'laws.FnExactZeroCluster': WHATEVER THE INPUT: true; the input reads as it did. -/
def fnExactZeroClusterSpec : ChangeSpec := { name := "fnExactZeroCluster", fn := fun _ => fun
  | [d1, d2] => { results := [.lit (.bool true)], args := [d1, d2] }
  | _ => none }
def fnExactZeroClusterRow : OpenClaim := { program := "ytjoafbkcnnhdiab", sum := "9a2e09317e405522ea6bb02ef68249664126111cc0213c54c3d69dcd31e63b8b", func := "loop.example/g00456/laws.FnExactZeroCluster", spec := "fnExactZeroCluster", unfollowed := true, recurses := true, apart := false }
def FnExactZeroClusterSaid : Prop := fnExactZeroClusterRow.holds Try.pinned (OpenSpec.ofChange fnExactZeroClusterSpec)

/-- ITS FALSE NEIGHBOUR: 'it returns false'. Refute it at one input. -/
def fnExactZeroClusterWrong : ChangeSpec := { name := "fnExactZeroCluster", fn := fun _ => fun
  | [d1, d2] => { results := [.lit (.bool false)], args := [d1, d2] }
  | _ => none }
def FnExactZeroClusterWrongFalsely : Prop := fnExactZeroClusterRow.holds Try.pinned (OpenSpec.ofChange fnExactZeroClusterWrong)

/-- 'laws.FnExactResizeImage': WHATEVER THE INPUT: true; the input reads as it did. -/
def fnExactResizeImageSpec : ChangeSpec := { name := "fnExactResizeImage", fn := fun _ => fun
  | [d1, d2] => { results := [.lit (.bool true)], args := [d1, d2] }
  | _ => none }
def fnExactResizeImageRow : OpenClaim := { program := "ytjoafbkcnnhdiab", sum := "9a2e09317e405522ea6bb02ef68249664126111cc0213c54c3d69dcd31e63b8b", func := "loop.example/g00456/laws.FnExactResizeImage", spec := "fnExactResizeImage", unfollowed := true, recurses := true, apart := false }
def FnExactResizeImageSaid : Prop := fnExactResizeImageRow.holds Try.pinned (OpenSpec.ofChange fnExactResizeImageSpec)

/-- ITS FALSE NEIGHBOUR: 'it returns false'. Refute it at one input. -/
def fnExactResizeImageWrong : ChangeSpec := { name := "fnExactResizeImage", fn := fun _ => fun
  | [d1, d2] => { results := [.lit (.bool false)], args := [d1, d2] }
  | _ => none }
def FnExactResizeImageWrongFalsely : Prop := fnExactResizeImageRow.holds Try.pinned (OpenSpec.ofChange fnExactResizeImageWrong)

/-- 'laws.FnExactSnapNames': WHATEVER THE INPUT: true; the input reads as it did. -/
def fnExactSnapNamesSpec : ChangeSpec := { name := "fnExactSnapNames", fn := fun _ => fun
  | [d] => { results := [.lit (.bool true)], args := [d] }
  | _ => none }
def fnExactSnapNamesRow : OpenClaim := { program := "ytjoafbkcnnhdiab", sum := "9a2e09317e405522ea6bb02ef68249664126111cc0213c54c3d69dcd31e63b8b", func := "loop.example/g00456/laws.FnExactSnapNames", spec := "fnExactSnapNames", unfollowed := true, recurses := true, apart := false }
def FnExactSnapNamesSaid : Prop := fnExactSnapNamesRow.holds Try.pinned (OpenSpec.ofChange fnExactSnapNamesSpec)

/-- ITS FALSE NEIGHBOUR: 'it returns false'. Refute it at one input. -/
def fnExactSnapNamesWrong : ChangeSpec := { name := "fnExactSnapNames", fn := fun _ => fun
  | [d] => { results := [.lit (.bool false)], args := [d] }
  | _ => none }
def FnExactSnapNamesWrongFalsely : Prop := fnExactSnapNamesRow.holds Try.pinned (OpenSpec.ofChange fnExactSnapNamesWrong)

/-- 'laws.FnExactCountRefs': WHATEVER THE INPUT: true; the input reads as it did. -/
def fnExactCountRefsSpec : ChangeSpec := { name := "fnExactCountRefs", fn := fun _ => fun
  | [d] => { results := [.lit (.bool true)], args := [d] }
  | _ => none }
def fnExactCountRefsRow : OpenClaim := { program := "ytjoafbkcnnhdiab", sum := "9a2e09317e405522ea6bb02ef68249664126111cc0213c54c3d69dcd31e63b8b", func := "loop.example/g00456/laws.FnExactCountRefs", spec := "fnExactCountRefs", unfollowed := true, recurses := true, apart := false }
def FnExactCountRefsSaid : Prop := fnExactCountRefsRow.holds Try.pinned (OpenSpec.ofChange fnExactCountRefsSpec)

/-- ITS FALSE NEIGHBOUR: 'it returns false'. Refute it at one input. -/
def fnExactCountRefsWrong : ChangeSpec := { name := "fnExactCountRefs", fn := fun _ => fun
  | [d] => { results := [.lit (.bool false)], args := [d] }
  | _ => none }
def FnExactCountRefsWrongFalsely : Prop := fnExactCountRefsRow.holds Try.pinned (OpenSpec.ofChange fnExactCountRefsWrong)

/-- 'laws.FnExactWrongRefs': WHATEVER THE INPUT: true; the input reads as it did. -/
def fnExactWrongRefsSpec : ChangeSpec := { name := "fnExactWrongRefs", fn := fun _ => fun
  | [d] => { results := [.lit (.bool true)], args := [d] }
  | _ => none }
def fnExactWrongRefsRow : OpenClaim := { program := "ytjoafbkcnnhdiab", sum := "9a2e09317e405522ea6bb02ef68249664126111cc0213c54c3d69dcd31e63b8b", func := "loop.example/g00456/laws.FnExactWrongRefs", spec := "fnExactWrongRefs", unfollowed := true, recurses := true, apart := false }
def FnExactWrongRefsSaid : Prop := fnExactWrongRefsRow.holds Try.pinned (OpenSpec.ofChange fnExactWrongRefsSpec)

/-- ITS FALSE NEIGHBOUR: 'it returns false'. Refute it at one input. -/
def fnExactWrongRefsWrong : ChangeSpec := { name := "fnExactWrongRefs", fn := fun _ => fun
  | [d] => { results := [.lit (.bool false)], args := [d] }
  | _ => none }
def FnExactWrongRefsWrongFalsely : Prop := fnExactWrongRefsRow.holds Try.pinned (OpenSpec.ofChange fnExactWrongRefsWrong)

/-- 'laws.FnExactLeaks': WHATEVER THE INPUT: true; the input reads as it did. -/
def fnExactLeaksSpec : ChangeSpec := { name := "fnExactLeaks", fn := fun _ => fun
  | [d] => { results := [.lit (.bool true)], args := [d] }
  | _ => none }
def fnExactLeaksRow : OpenClaim := { program := "ytjoafbkcnnhdiab", sum := "9a2e09317e405522ea6bb02ef68249664126111cc0213c54c3d69dcd31e63b8b", func := "loop.example/g00456/laws.FnExactLeaks", spec := "fnExactLeaks", unfollowed := true, recurses := true, apart := false }
def FnExactLeaksSaid : Prop := fnExactLeaksRow.holds Try.pinned (OpenSpec.ofChange fnExactLeaksSpec)

/-- ITS FALSE NEIGHBOUR: 'it returns false'. Refute it at one input. -/
def fnExactLeaksWrong : ChangeSpec := { name := "fnExactLeaks", fn := fun _ => fun
  | [d] => { results := [.lit (.bool false)], args := [d] }
  | _ => none }
def FnExactLeaksWrongFalsely : Prop := fnExactLeaksRow.holds Try.pinned (OpenSpec.ofChange fnExactLeaksWrong)

/- THE SECOND FORM. 'bulk': how many values and letters a reading holds, each counted each time it is reached (what is shared counts as often as it is met; a slice's spare places count too). A statement '..UptoSaid' is the law's where the arguments, and the package variables that the reading takes, are together of bulk at most 1048576: NARROWER than '..Said'. Prove '..Said' where nothing that the law and all that it calls make is longer than what came in: it says more and counts as full. Else prove '..UptoSaid'. A law counts once. -/
mutual
def uptoBulk {H : Type} : DataW H → Nat
  | .lit (.string bytes) => bytes.length + 1
  | .lit _ => 1
  | .nil => 1
  | .ptr d => uptoBulk d + 1
  | .slice elems spare => uptoBulkAll elems + uptoBulkAll spare + 1
  | .agg parts => uptoBulkAll parts + 1
  | .iface _ d => uptoBulk d + 1
  | .map entries => uptoBulkEntries entries + 1
  | .held _ => 1
def uptoBulkAll {H : Type} : List (DataW H) → Nat
  | [] => 0
  | d :: r => uptoBulk d + uptoBulkAll r
def uptoBulkEntries {H : Type} : List (Lit × DataW H) → Nat
  | [] => 0
  | x :: r => uptoBulkEntry x + uptoBulkEntries r
def uptoBulkEntry {H : Type} : Lit × DataW H → Nat
  | (.string bytes, d) => bytes.length + uptoBulk d + 1
  | (_, d) => uptoBulk d + 1
 end
def uptoSmall : (H : Type) → List (DataW H) → Bool := fun _ ds => decide (uptoBulkAll ds ≤ 1048576)
def OpenSpec.upto (s : _root_.Go.ChangeSpec) : _root_.Go.OpenSpec := { _root_.Go.OpenSpec.ofChange s with cond := some uptoSmall }

/-- 'laws.FnExactZeroCluster', WHERE WHAT IT READS IS OF BULK AT MOST 1048576: true; the input reads as it did. -/
def fnExactZeroClusterUptoRow : OpenClaim := { program := "ytjoafbkcnnhdiab", sum := "9a2e09317e405522ea6bb02ef68249664126111cc0213c54c3d69dcd31e63b8b", func := "loop.example/g00456/laws.FnExactZeroCluster", spec := "fnExactZeroCluster", unfollowed := true, recurses := true, apart := false, narrowed := true }
def FnExactZeroClusterUptoSaid : Prop := fnExactZeroClusterUptoRow.holds Try.pinned (OpenSpec.upto fnExactZeroClusterSpec)

/-- 'laws.FnExactResizeImage', WHERE WHAT IT READS IS OF BULK AT MOST 1048576: true; the input reads as it did. -/
def fnExactResizeImageUptoRow : OpenClaim := { program := "ytjoafbkcnnhdiab", sum := "9a2e09317e405522ea6bb02ef68249664126111cc0213c54c3d69dcd31e63b8b", func := "loop.example/g00456/laws.FnExactResizeImage", spec := "fnExactResizeImage", unfollowed := true, recurses := true, apart := false, narrowed := true }
def FnExactResizeImageUptoSaid : Prop := fnExactResizeImageUptoRow.holds Try.pinned (OpenSpec.upto fnExactResizeImageSpec)

/-- 'laws.FnExactSnapNames', WHERE WHAT IT READS IS OF BULK AT MOST 1048576: true; the input reads as it did. -/
def fnExactSnapNamesUptoRow : OpenClaim := { program := "ytjoafbkcnnhdiab", sum := "9a2e09317e405522ea6bb02ef68249664126111cc0213c54c3d69dcd31e63b8b", func := "loop.example/g00456/laws.FnExactSnapNames", spec := "fnExactSnapNames", unfollowed := true, recurses := true, apart := false, narrowed := true }
def FnExactSnapNamesUptoSaid : Prop := fnExactSnapNamesUptoRow.holds Try.pinned (OpenSpec.upto fnExactSnapNamesSpec)

/-- 'laws.FnExactCountRefs', WHERE WHAT IT READS IS OF BULK AT MOST 1048576: true; the input reads as it did. -/
def fnExactCountRefsUptoRow : OpenClaim := { program := "ytjoafbkcnnhdiab", sum := "9a2e09317e405522ea6bb02ef68249664126111cc0213c54c3d69dcd31e63b8b", func := "loop.example/g00456/laws.FnExactCountRefs", spec := "fnExactCountRefs", unfollowed := true, recurses := true, apart := false, narrowed := true }
def FnExactCountRefsUptoSaid : Prop := fnExactCountRefsUptoRow.holds Try.pinned (OpenSpec.upto fnExactCountRefsSpec)

/-- 'laws.FnExactWrongRefs', WHERE WHAT IT READS IS OF BULK AT MOST 1048576: true; the input reads as it did. -/
def fnExactWrongRefsUptoRow : OpenClaim := { program := "ytjoafbkcnnhdiab", sum := "9a2e09317e405522ea6bb02ef68249664126111cc0213c54c3d69dcd31e63b8b", func := "loop.example/g00456/laws.FnExactWrongRefs", spec := "fnExactWrongRefs", unfollowed := true, recurses := true, apart := false, narrowed := true }
def FnExactWrongRefsUptoSaid : Prop := fnExactWrongRefsUptoRow.holds Try.pinned (OpenSpec.upto fnExactWrongRefsSpec)

/-- 'laws.FnExactLeaks', WHERE WHAT IT READS IS OF BULK AT MOST 1048576: true; the input reads as it did. -/
def fnExactLeaksUptoRow : OpenClaim := { program := "ytjoafbkcnnhdiab", sum := "9a2e09317e405522ea6bb02ef68249664126111cc0213c54c3d69dcd31e63b8b", func := "loop.example/g00456/laws.FnExactLeaks", spec := "fnExactLeaks", unfollowed := true, recurses := true, apart := false, narrowed := true }
def FnExactLeaksUptoSaid : Prop := fnExactLeaksUptoRow.holds Try.pinned (OpenSpec.upto fnExactLeaksSpec)

end Rows
end Go.Proofs.Ytjoafbkcnnhdiab
