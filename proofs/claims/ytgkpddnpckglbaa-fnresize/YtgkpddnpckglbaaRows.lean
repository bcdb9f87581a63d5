/-
  No cell of these rows narrows 'for every input' (looked for: loops, veiled, ifaces, maps, wideKeys, modest, calm, conditions, laid).
  DERIVED. THE GIVEN ROWS OF THIS SEAT. 6 by the template 'for every input the law returns true; each argument reads behind the call as it read before'; 0 by the template 'total and deterministic' (their statements: YtgkpddnpckglbaaTotals.lean).
  GIVEN WITH THE SEED: the statements are not yours to turn. If you find one false, say at which input.
  Laid BY PROGRAM, IN A SANDBOX (cutbox-rows.mjs): the forced cells as the released guide's own fill.sh prints them over the translation 55801cd9fe5b39d3… (all of the seat's roots in one cut). By AI agents, Wed Nov 11 2026. No macro, syntax, notation, axiom, sorry.
-/
import Derived.Test.YtgkpddnpckglbaaChecked
import GoSem.Claim
import GoSem.ClaimJoined
import GoSem.ClaimMapViews
import Derived.JoinedTies
import Derived.KernelRfl
namespace Go.Proofs.Ytgkpddnpckglbaa
/- THE CELL 'sum', in the pinned program and in every row, IS THE sha256 OF THE DUMP (.gsa) THAT YtgkpddnpckglbaaProg.lean LOADS. Nothing in Lean hashes anything: it is a label: what it is worth is what the hold of that sum in a sandbox is worth. -/
noncomputable def Try.pinned : Pinned := { name := "ytgkpddnpckglbaa", sum := "55801cd9fe5b39d3b4cca713443114a8c464d34fcf90cac9faf15215c4a30bf2", checked := Try.checked }
namespace Rows
def none {H : Type} : Left H := { results := [], args := [] }

/-- 'laws.FnResize': WHATEVER THE INPUT: true; the input reads as it did. -/
def fnResizeSpec : ChangeSpec := { name := "fnResize", fn := fun _ => fun
  | [d1, d2] => { results := [.lit (.bool true)], args := [d1, d2] }
  | _ => none }
def fnResizeRow : OpenClaim := { program := "ytgkpddnpckglbaa", sum := "55801cd9fe5b39d3b4cca713443114a8c464d34fcf90cac9faf15215c4a30bf2", func := "loop.example/g00456/laws.FnResize", spec := "fnResize", unfollowed := true, recurses := true, apart := false }
def FnResizeSaid : Prop := fnResizeRow.holds Try.pinned (OpenSpec.ofChange fnResizeSpec)

/-- ITS FALSE NEIGHBOUR: 'it returns false'. Refute it at one input. -/
def fnResizeWrong : ChangeSpec := { name := "fnResize", fn := fun _ => fun
  | [d1, d2] => { results := [.lit (.bool false)], args := [d1, d2] }
  | _ => none }
def FnResizeWrongFalsely : Prop := fnResizeRow.holds Try.pinned (OpenSpec.ofChange fnResizeWrong)

/-- 'laws.FnExactNewImage': WHATEVER THE INPUT: true; the input reads as it did. -/
def fnExactNewImageSpec : ChangeSpec := { name := "fnExactNewImage", fn := fun _ => fun
  | [d] => { results := [.lit (.bool true)], args := [d] }
  | _ => none }
def fnExactNewImageRow : OpenClaim := { program := "ytgkpddnpckglbaa", sum := "55801cd9fe5b39d3b4cca713443114a8c464d34fcf90cac9faf15215c4a30bf2", func := "loop.example/g00456/laws.FnExactNewImage", spec := "fnExactNewImage", apart := false }
def FnExactNewImageSaid : Prop := fnExactNewImageRow.holds Try.pinned (OpenSpec.ofChange fnExactNewImageSpec)

/-- ITS FALSE NEIGHBOUR: 'it returns false'. Refute it at one input. -/
def fnExactNewImageWrong : ChangeSpec := { name := "fnExactNewImage", fn := fun _ => fun
  | [d] => { results := [.lit (.bool false)], args := [d] }
  | _ => none }
def FnExactNewImageWrongFalsely : Prop := fnExactNewImageRow.holds Try.pinned (OpenSpec.ofChange fnExactNewImageWrong)

/-- 'laws.FnExactImageOK': WHATEVER THE INPUT: true; the input reads as it did. -/
def fnExactImageOKSpec : ChangeSpec := { name := "fnExactImageOK", fn := fun _ => fun
  | [d] => { results := [.lit (.bool true)], args := [d] }
  | _ => none }
def fnExactImageOKRow : OpenClaim := { program := "ytgkpddnpckglbaa", sum := "55801cd9fe5b39d3b4cca713443114a8c464d34fcf90cac9faf15215c4a30bf2", func := "loop.example/g00456/laws.FnExactImageOK", spec := "fnExactImageOK", unfollowed := true, recurses := true, apart := false }
def FnExactImageOKSaid : Prop := fnExactImageOKRow.holds Try.pinned (OpenSpec.ofChange fnExactImageOKSpec)

/-- ITS FALSE NEIGHBOUR: 'it returns false'. Refute it at one input. -/
def fnExactImageOKWrong : ChangeSpec := { name := "fnExactImageOK", fn := fun _ => fun
  | [d] => { results := [.lit (.bool false)], args := [d] }
  | _ => none }
def FnExactImageOKWrongFalsely : Prop := fnExactImageOKRow.holds Try.pinned (OpenSpec.ofChange fnExactImageOKWrong)

/-- 'laws.FnExactReadCluster': WHATEVER THE INPUT: true; the input reads as it did. -/
def fnExactReadClusterSpec : ChangeSpec := { name := "fnExactReadCluster", fn := fun _ => fun
  | [d1, d2] => { results := [.lit (.bool true)], args := [d1, d2] }
  | _ => none }
def fnExactReadClusterRow : OpenClaim := { program := "ytgkpddnpckglbaa", sum := "55801cd9fe5b39d3b4cca713443114a8c464d34fcf90cac9faf15215c4a30bf2", func := "loop.example/g00456/laws.FnExactReadCluster", spec := "fnExactReadCluster", unfollowed := true, recurses := true, apart := false }
def FnExactReadClusterSaid : Prop := fnExactReadClusterRow.holds Try.pinned (OpenSpec.ofChange fnExactReadClusterSpec)

/-- ITS FALSE NEIGHBOUR: 'it returns false'. Refute it at one input. -/
def fnExactReadClusterWrong : ChangeSpec := { name := "fnExactReadCluster", fn := fun _ => fun
  | [d1, d2] => { results := [.lit (.bool false)], args := [d1, d2] }
  | _ => none }
def FnExactReadClusterWrongFalsely : Prop := fnExactReadClusterRow.holds Try.pinned (OpenSpec.ofChange fnExactReadClusterWrong)

/-- 'laws.FnExactWriteCluster': WHATEVER THE INPUT: true; the input reads as it did. -/
def fnExactWriteClusterSpec : ChangeSpec := { name := "fnExactWriteCluster", fn := fun _ => fun
  | [d1, d2, d3] => { results := [.lit (.bool true)], args := [d1, d2, d3] }
  | _ => none }
def fnExactWriteClusterRow : OpenClaim := { program := "ytgkpddnpckglbaa", sum := "55801cd9fe5b39d3b4cca713443114a8c464d34fcf90cac9faf15215c4a30bf2", func := "loop.example/g00456/laws.FnExactWriteCluster", spec := "fnExactWriteCluster", unfollowed := true, recurses := true, apart := false }
def FnExactWriteClusterSaid : Prop := fnExactWriteClusterRow.holds Try.pinned (OpenSpec.ofChange fnExactWriteClusterSpec)

/-- ITS FALSE NEIGHBOUR: 'it returns false'. Refute it at one input. -/
def fnExactWriteClusterWrong : ChangeSpec := { name := "fnExactWriteCluster", fn := fun _ => fun
  | [d1, d2, d3] => { results := [.lit (.bool false)], args := [d1, d2, d3] }
  | _ => none }
def FnExactWriteClusterWrongFalsely : Prop := fnExactWriteClusterRow.holds Try.pinned (OpenSpec.ofChange fnExactWriteClusterWrong)

/-- 'laws.FnExactZeroCluster': WHATEVER THE INPUT: true; the input reads as it did. -/
def fnExactZeroClusterSpec : ChangeSpec := { name := "fnExactZeroCluster", fn := fun _ => fun
  | [d1, d2] => { results := [.lit (.bool true)], args := [d1, d2] }
  | _ => none }
def fnExactZeroClusterRow : OpenClaim := { program := "ytgkpddnpckglbaa", sum := "55801cd9fe5b39d3b4cca713443114a8c464d34fcf90cac9faf15215c4a30bf2", func := "loop.example/g00456/laws.FnExactZeroCluster", spec := "fnExactZeroCluster", unfollowed := true, recurses := true, apart := false }
def FnExactZeroClusterSaid : Prop := fnExactZeroClusterRow.holds Try.pinned (OpenSpec.ofChange fnExactZeroClusterSpec)

/-- ITS FALSE NEIGHBOUR: 'it returns false'. Refute it at one input. -/
def fnExactZeroClusterWrong : ChangeSpec := { name := "fnExactZeroCluster", fn := fun _ => fun
  | [d1, d2] => { results := [.lit (.bool false)], args := [d1, d2] }
  | _ => none }
def FnExactZeroClusterWrongFalsely : Prop := fnExactZeroClusterRow.holds Try.pinned (OpenSpec.ofChange fnExactZeroClusterWrong)

/- THE SECOND FORM. 'bulk': how many values and letters a reading holds, each counted each time it is reached (what is shared counts as often as it is met; a slice's spare places count too). A statement '..UptoSaid' is the law's where the arguments, and the package variables that the reading takes, are together of bulk at most 1048576: NARROWER than '..Said'. Prove '..Said' where nothing that the law and all that it calls make is longer than what came in: it says more and counts as full. Else prove '..UptoSaid'. A law counts once. -/
mutual
def uptoBulk {H : Type} : DataW H → Nat
  | .lit (.string bytes) => bytes.length + 1
  | .lit _ => 1
  | .nil => 1
  | .ptr d => uptoBulk d + 1
  | .slice elems spare => uptoBulkAll elems + uptoBulkAll spare + 1
  | .agg parts => uptoBulkAll parts + 1
  | .iface _ d => uptoBulk d + 1
  | .map entries => uptoBulkEntries entries + 1
  | .held _ => 1
def uptoBulkAll {H : Type} : List (DataW H) → Nat
  | [] => 0
  | d :: r => uptoBulk d + uptoBulkAll r
def uptoBulkEntries {H : Type} : List (Lit × DataW H) → Nat
  | [] => 0
  | x :: r => uptoBulkEntry x + uptoBulkEntries r
def uptoBulkEntry {H : Type} : Lit × DataW H → Nat
  | (.string bytes, d) => bytes.length + uptoBulk d + 1
  | (_, d) => uptoBulk d + 1
 end
def uptoSmall : (H : Type) → List (DataW H) → Bool := fun _ ds => decide (uptoBulkAll ds ≤ 1048576)
def OpenSpec.upto (s : _root_.Go.ChangeSpec) : _root_.Go.OpenSpec := { _root_.Go.OpenSpec.ofChange s with cond := some uptoSmall }

/-- 'laws.FnResize', WHERE WHAT IT READS IS OF BULK AT MOST 1048576: true; the input reads as it did. -/
def fnResizeUptoRow : OpenClaim := { program := "ytgkpddnpckglbaa", sum := "55801cd9fe5b39d3b4cca713443114a8c464d34fcf90cac9faf15215c4a30bf2", func := "loop.example/g00456/laws.FnResize", spec := "fnResize", unfollowed := true, recurses := true, apart := false, narrowed := true }
def FnResizeUptoSaid : Prop := fnResizeUptoRow.holds Try.pinned (OpenSpec.upto fnResizeSpec)

/-- 'laws.FnExactNewImage', WHERE WHAT IT READS IS OF BULK AT MOST 1048576: true; the input reads as it did. -/
def fnExactNewImageUptoRow : OpenClaim := { program := "ytgkpddnpckglbaa", sum := "55801cd9fe5b39d3b4cca713443114a8c464d34fcf90cac9faf15215c4a30bf2", func := "loop.example/g00456/laws.FnExactNewImage", spec := "fnExactNewImage", apart := false, narrowed := true }
def FnExactNewImageUptoSaid : Prop := fnExactNewImageUptoRow.holds Try.pinned (OpenSpec.upto fnExactNewImageSpec)

/-- 'laws.FnExactImageOK', WHERE WHAT IT READS IS OF BULK AT MOST 1048576: true; the input reads as it did. -/
def fnExactImageOKUptoRow : OpenClaim := { program := "ytgkpddnpckglbaa", sum := "55801cd9fe5b39d3b4cca713443114a8c464d34fcf90cac9faf15215c4a30bf2", func := "loop.example/g00456/laws.FnExactImageOK", spec := "fnExactImageOK", unfollowed := true, recurses := true, apart := false, narrowed := true }
def FnExactImageOKUptoSaid : Prop := fnExactImageOKUptoRow.holds Try.pinned (OpenSpec.upto fnExactImageOKSpec)

/-- 'laws.FnExactReadCluster', WHERE WHAT IT READS IS OF BULK AT MOST 1048576: true; the input reads as it did. -/
def fnExactReadClusterUptoRow : OpenClaim := { program := "ytgkpddnpckglbaa", sum := "55801cd9fe5b39d3b4cca713443114a8c464d34fcf90cac9faf15215c4a30bf2", func := "loop.example/g00456/laws.FnExactReadCluster", spec := "fnExactReadCluster", unfollowed := true, recurses := true, apart := false, narrowed := true }
def FnExactReadClusterUptoSaid : Prop := fnExactReadClusterUptoRow.holds Try.pinned (OpenSpec.upto fnExactReadClusterSpec)

/-- 'laws.FnExactWriteCluster', WHERE WHAT IT READS IS OF BULK AT MOST 1048576: true; the input reads as it did. -/
def fnExactWriteClusterUptoRow : OpenClaim := { program := "ytgkpddnpckglbaa", sum := "55801cd9fe5b39d3b4cca713443114a8c464d34fcf90cac9faf15215c4a30bf2", func := "loop.example/g00456/laws.FnExactWriteCluster", spec := "fnExactWriteCluster", unfollowed := true, recurses := true, apart := false, narrowed := true }
def FnExactWriteClusterUptoSaid : Prop := fnExactWriteClusterUptoRow.holds Try.pinned (OpenSpec.upto fnExactWriteClusterSpec)

/-- 'laws.FnExactZeroCluster', WHERE WHAT IT READS IS OF BULK AT MOST 1048576: true; the input reads as it did. -/
def fnExactZeroClusterUptoRow : OpenClaim := { program := "ytgkpddnpckglbaa", sum := "55801cd9fe5b39d3b4cca713443114a8c464d34fcf90cac9faf15215c4a30bf2", func := "loop.example/g00456/laws.FnExactZeroCluster", spec := "fnExactZeroCluster", unfollowed := true, recurses := true, apart := false, narrowed := true }
def FnExactZeroClusterUptoSaid : Prop := fnExactZeroClusterUptoRow.holds Try.pinned (OpenSpec.upto fnExactZeroClusterSpec)

end Rows
end Go.Proofs.Ytgkpddnpckglbaa
