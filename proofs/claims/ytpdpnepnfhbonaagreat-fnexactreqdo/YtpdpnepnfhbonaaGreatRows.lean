/-
  No cell of these rows narrows 'for every input' (looked for: loops, veiled, ifaces, maps, wideKeys, modest, calm, conditions, laid).
  DERIVED. THE GIVEN ROWS OF THIS SEAT. 3 by the template 'for every input the law returns true; each argument reads behind the call as it read before'; 0 by the template 'total and deterministic' (their statements: YtpdpnepnfhbonaaGreatTotals.lean).
  GIVEN WITH THE SEED: the statements are not yours to turn. If you find one false, say at which input.
  Laid BY PROGRAM, IN A SANDBOX (cutbox-rows.mjs): the forced cells as the released guide's own fill.sh prints them over the translation b48efc39fb034d47… (all of the seat's roots in one cut). By AI agents, Wed Nov 11 2026. No macro, syntax, notation, axiom, sorry.
-/
import Derived.Test.YtpdpnepnfhbonaaGreatChecked
import GoSem.Claim
import GoSem.ClaimJoined
import GoSem.ClaimMapViews
import Derived.JoinedTies
import Derived.KernelRfl
namespace Go.Proofs.YtpdpnepnfhbonaaGreat
/- THE CELL 'sum', in the pinned program and in every row, IS THE sha256 OF THE DUMP (.gsa) THAT YtpdpnepnfhbonaaGreatProg.lean LOADS. Nothing in Lean hashes anything: it is a label: what it is worth is what the hold of that sum in a sandbox is worth. -/
noncomputable def Tryz.pinned : Pinned := { name := "ytpdpnepnfhbonaagreat", sum := "b48efc39fb034d474d266db3dfe9ab923c39549eb3d3a7b2fb2f30a5402729d7", checked := Tryz.checked }
namespace Rows
def none {H : Type} : Left H := { results := [], args := [] }

/-- 'laws.FnExactImageUpdates': WHATEVER THE INPUT: true; the input reads as it did. -/
def fnExactImageUpdatesSpec : ChangeSpec := { name := "fnExactImageUpdates", fn := fun _ => fun
  | [d] => { results := [.lit (.bool true)], args := [d] }
  | _ => none }
def fnExactImageUpdatesRow : OpenClaim := { program := "ytpdpnepnfhbonaagreat", sum := "b48efc39fb034d474d266db3dfe9ab923c39549eb3d3a7b2fb2f30a5402729d7", func := "loop.example/g00456/laws.FnExactImageUpdates", spec := "fnExactImageUpdates", unfollowed := true, recurses := true, apart := false }
def FnExactImageUpdatesSaid : Prop := fnExactImageUpdatesRow.holds Tryz.pinned (OpenSpec.ofChange fnExactImageUpdatesSpec)

/-- ITS FALSE NEIGHBOUR: 'it returns false'. Refute it at one input. -/
def fnExactImageUpdatesWrong : ChangeSpec := { name := "fnExactImageUpdates", fn := fun _ => fun
  | [d] => { results := [.lit (.bool false)], args := [d] }
  | _ => none }
def FnExactImageUpdatesWrongFalsely : Prop := fnExactImageUpdatesRow.holds Tryz.pinned (OpenSpec.ofChange fnExactImageUpdatesWrong)

/-- 'laws.FnExactDiffUpdates': WHATEVER THE INPUT: true; the input reads as it did. -/
def fnExactDiffUpdatesSpec : ChangeSpec := { name := "fnExactDiffUpdates", fn := fun _ => fun
  | [d1, d2] => { results := [.lit (.bool true)], args := [d1, d2] }
  | _ => none }
def fnExactDiffUpdatesRow : OpenClaim := { program := "ytpdpnepnfhbonaagreat", sum := "b48efc39fb034d474d266db3dfe9ab923c39549eb3d3a7b2fb2f30a5402729d7", func := "loop.example/g00456/laws.FnExactDiffUpdates", spec := "fnExactDiffUpdates", unfollowed := true, recurses := true, apart := false }
def FnExactDiffUpdatesSaid : Prop := fnExactDiffUpdatesRow.holds Tryz.pinned (OpenSpec.ofChange fnExactDiffUpdatesSpec)

/-- ITS FALSE NEIGHBOUR: 'it returns false'. Refute it at one input. -/
def fnExactDiffUpdatesWrong : ChangeSpec := { name := "fnExactDiffUpdates", fn := fun _ => fun
  | [d1, d2] => { results := [.lit (.bool false)], args := [d1, d2] }
  | _ => none }
def FnExactDiffUpdatesWrongFalsely : Prop := fnExactDiffUpdatesRow.holds Tryz.pinned (OpenSpec.ofChange fnExactDiffUpdatesWrong)

/-- 'laws.FnExactReqDo': WHATEVER THE INPUT: true; the input reads as it did. -/
def fnExactReqDoSpec : ChangeSpec := { name := "fnExactReqDo", fn := fun _ => fun
  | [d1, d2] => { results := [.lit (.bool true)], args := [d1, d2] }
  | _ => none }
def fnExactReqDoRow : OpenClaim := { program := "ytpdpnepnfhbonaagreat", sum := "b48efc39fb034d474d266db3dfe9ab923c39549eb3d3a7b2fb2f30a5402729d7", func := "loop.example/g00456/laws.FnExactReqDo", spec := "fnExactReqDo", unfollowed := true, recurses := true, apart := false }
def FnExactReqDoSaid : Prop := fnExactReqDoRow.holds Tryz.pinned (OpenSpec.ofChange fnExactReqDoSpec)

/-- ITS FALSE NEIGHBOUR: 'it returns false'. Refute it at one input. -/
def fnExactReqDoWrong : ChangeSpec := { name := "fnExactReqDo", fn := fun _ => fun
  | [d1, d2] => { results := [.lit (.bool false)], args := [d1, d2] }
  | _ => none }
def FnExactReqDoWrongFalsely : Prop := fnExactReqDoRow.holds Tryz.pinned (OpenSpec.ofChange fnExactReqDoWrong)

/- THE SECOND FORM. 'bulk': how many values and letters a reading holds, each counted each time it is reached (what is shared counts as often as it is met; a slice's spare places count too). A statement '..UptoSaid' is the law's where the arguments, and the package variables that the reading takes, are together of bulk at most 1048576: NARROWER than '..Said'. Prove '..Said' where nothing that the law and all that it calls make is longer than what came in: it says more and counts as full. Else prove '..UptoSaid'. A law counts once. -/
mutual
def uptoBulk {H : Type} : DataW H → Nat
  | .lit (.string bytes) => bytes.length + 1
  | .lit _ => 1
  | .nil => 1
  | .ptr d => uptoBulk d + 1
  | .slice elems spare => uptoBulkAll elems + uptoBulkAll spare + 1
  | .agg parts => uptoBulkAll parts + 1
  | .iface _ d => uptoBulk d + 1
  | .map entries => uptoBulkEntries entries + 1
  | .held _ => 1
def uptoBulkAll {H : Type} : List (DataW H) → Nat
  | [] => 0
  | d :: r => uptoBulk d + uptoBulkAll r
def uptoBulkEntries {H : Type} : List (Lit × DataW H) → Nat
  | [] => 0
  | x :: r => uptoBulkEntry x + uptoBulkEntries r
def uptoBulkEntry {H : Type} : Lit × DataW H → Nat
  | (.string bytes, d) => bytes.length + uptoBulk d + 1
  | (_, d) => uptoBulk d + 1
 end
def uptoSmall : (H : Type) → List (DataW H) → Bool := fun _ ds => decide (uptoBulkAll ds ≤ 1048576)
def OpenSpec.upto (s : _root_.Go.ChangeSpec) : _root_.Go.OpenSpec := { _root_.Go.OpenSpec.ofChange s with cond := some uptoSmall }

/-- 'laws.FnExactImageUpdates', WHERE WHAT IT READS IS OF BULK AT MOST 1048576: true; the input reads as it did. -/
def fnExactImageUpdatesUptoRow : OpenClaim := { program := "ytpdpnepnfhbonaagreat", sum := "b48efc39fb034d474d266db3dfe9ab923c39549eb3d3a7b2fb2f30a5402729d7", func := "loop.example/g00456/laws.FnExactImageUpdates", spec := "fnExactImageUpdates", unfollowed := true, recurses := true, apart := false, narrowed := true }
def FnExactImageUpdatesUptoSaid : Prop := fnExactImageUpdatesUptoRow.holds Tryz.pinned (OpenSpec.upto fnExactImageUpdatesSpec)

/-- 'laws.FnExactDiffUpdates', WHERE WHAT IT READS IS OF BULK AT MOST 1048576: true; the input reads as it did. -/
def fnExactDiffUpdatesUptoRow : OpenClaim := { program := "ytpdpnepnfhbonaagreat", sum := "b48efc39fb034d474d266db3dfe9ab923c39549eb3d3a7b2fb2f30a5402729d7", func := "loop.example/g00456/laws.FnExactDiffUpdates", spec := "fnExactDiffUpdates", unfollowed := true, recurses := true, apart := false, narrowed := true }
def FnExactDiffUpdatesUptoSaid : Prop := fnExactDiffUpdatesUptoRow.holds Tryz.pinned (OpenSpec.upto fnExactDiffUpdatesSpec)

/-- 'laws.FnExactReqDo', WHERE WHAT IT READS IS OF BULK AT MOST 1048576: true; the input reads as it did. -/
def fnExactReqDoUptoRow : OpenClaim := { program := "ytpdpnepnfhbonaagreat", sum := "b48efc39fb034d474d266db3dfe9ab923c39549eb3d3a7b2fb2f30a5402729d7", func := "loop.example/g00456/laws.FnExactReqDo", spec := "fnExactReqDo", unfollowed := true, recurses := true, apart := false, narrowed := true }
def FnExactReqDoUptoSaid : Prop := fnExactReqDoUptoRow.holds Tryz.pinned (OpenSpec.upto fnExactReqDoSpec)

end Rows
end Go.Proofs.YtpdpnepnfhbonaaGreat
