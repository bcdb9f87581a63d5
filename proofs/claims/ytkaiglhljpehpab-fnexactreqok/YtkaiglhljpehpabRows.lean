/-
  No cell of these rows narrows 'for every input' (looked for: loops, veiled, ifaces, maps, wideKeys, modest, calm, conditions, laid).
  DERIVED. THE GIVEN ROWS OF THIS SEAT. 5 by the template 'for every input the law returns true; each argument reads behind the call as it read before'; 0 by the template 'total and deterministic' (their statements: YtkaiglhljpehpabTotals.lean).
  GIVEN WITH THE SEED: the statements are not yours to turn. If you find one false, say at which input.
  Laid BY PROGRAM, IN A SANDBOX (cutbox-rows.mjs): the forced cells as the released guide's own fill.sh prints them over the translation 50f73ba678f48384… (all of the seat's roots in one cut). By AI agents, Wed Nov 11 2026. No macro, syntax, notation, axiom, sorry.
-/
import Derived.Test.YtkaiglhljpehpabChecked
import GoSem.Claim
import GoSem.ClaimJoined
import GoSem.ClaimMapViews
import Derived.JoinedTies
import Derived.KernelRfl
namespace Go.Proofs.Ytkaiglhljpehpab
/- THE CELL 'sum', in the pinned program and in every row, IS THE sha256 OF THE DUMP (.gsa) THAT YtkaiglhljpehpabProg.lean LOADS. Nothing in Lean hashes anything: it is a label: what it is worth is what the hold of that sum in a sandbox is worth. -/
noncomputable def Try.pinned : Pinned := { name := "ytkaiglhljpehpab", sum := "50f73ba678f4838444aa6a53b7cc07cc2df61788aa92cb8c389206210a37a9e5", checked := Try.checked }
namespace Rows
def none {H : Type} : Left H := { results := [], args := [] }

/-- 'laws.FnExactCountRefs': WHATEVER THE INPUT: true; the input reads as it did. -/
def fnExactCountRefsSpec : ChangeSpec := { name := "fnExactCountRefs", fn := fun _ => fun
  | [d] => { results := [.lit (.bool true)], args := [d] }
  | _ => none }
def fnExactCountRefsRow : OpenClaim := { program := "ytkaiglhljpehpab", sum := "50f73ba678f4838444aa6a53b7cc07cc2df61788aa92cb8c389206210a37a9e5", func := "loop.example/g00456/laws.FnExactCountRefs", spec := "fnExactCountRefs", unfollowed := true, recurses := true, apart := false }
def FnExactCountRefsSaid : Prop := fnExactCountRefsRow.holds Try.pinned (OpenSpec.ofChange fnExactCountRefsSpec)

/-- ITS FALSE NEIGHBOUR: 'it returns false'. Refute it at one input. -/
def fnExactCountRefsWrong : ChangeSpec := { name := "fnExactCountRefs", fn := fun _ => fun
  | [d] => { results := [.lit (.bool false)], args := [d] }
  | _ => none }
def FnExactCountRefsWrongFalsely : Prop := fnExactCountRefsRow.holds Try.pinned (OpenSpec.ofChange fnExactCountRefsWrong)

/-- 'laws.FnExactWrongRefs': WHATEVER THE INPUT: true; the input reads as it did. -/
def fnExactWrongRefsSpec : ChangeSpec := { name := "fnExactWrongRefs", fn := fun _ => fun
  | [d] => { results := [.lit (.bool true)], args := [d] }
  | _ => none }
def fnExactWrongRefsRow : OpenClaim := { program := "ytkaiglhljpehpab", sum := "50f73ba678f4838444aa6a53b7cc07cc2df61788aa92cb8c389206210a37a9e5", func := "loop.example/g00456/laws.FnExactWrongRefs", spec := "fnExactWrongRefs", unfollowed := true, recurses := true, apart := false }
def FnExactWrongRefsSaid : Prop := fnExactWrongRefsRow.holds Try.pinned (OpenSpec.ofChange fnExactWrongRefsSpec)

/-- ITS FALSE NEIGHBOUR: 'it returns false'. Refute it at one input. -/
def fnExactWrongRefsWrong : ChangeSpec := { name := "fnExactWrongRefs", fn := fun _ => fun
  | [d] => { results := [.lit (.bool false)], args := [d] }
  | _ => none }
def FnExactWrongRefsWrongFalsely : Prop := fnExactWrongRefsRow.holds Try.pinned (OpenSpec.ofChange fnExactWrongRefsWrong)

/-- 'laws.FnExactLeaks': WHATEVER THE INPUT: true; the input reads as it did. -/
def fnExactLeaksSpec : ChangeSpec := { name := "fnExactLeaks", fn := fun _ => fun
  | [d] => { results := [.lit (.bool true)], args := [d] }
  | _ => none }
def fnExactLeaksRow : OpenClaim := { program := "ytkaiglhljpehpab", sum := "50f73ba678f4838444aa6a53b7cc07cc2df61788aa92cb8c389206210a37a9e5", func := "loop.example/g00456/laws.FnExactLeaks", spec := "fnExactLeaks", unfollowed := true, recurses := true, apart := false }
def FnExactLeaksSaid : Prop := fnExactLeaksRow.holds Try.pinned (OpenSpec.ofChange fnExactLeaksSpec)

/-- ITS FALSE NEIGHBOUR: 'it returns false'. Refute it at one input. -/
def fnExactLeaksWrong : ChangeSpec := { name := "fnExactLeaks", fn := fun _ => fun
  | [d] => { results := [.lit (.bool false)], args := [d] }
  | _ => none }
def FnExactLeaksWrongFalsely : Prop := fnExactLeaksRow.holds Try.pinned (OpenSpec.ofChange fnExactLeaksWrong)

/-- 'laws.FnExactRepair': WHATEVER THE INPUT: true; the input reads as it did. -/
def fnExactRepairSpec : ChangeSpec := { name := "fnExactRepair", fn := fun _ => fun
  | [d] => { results := [.lit (.bool true)], args := [d] }
  | _ => none }
def fnExactRepairRow : OpenClaim := { program := "ytkaiglhljpehpab", sum := "50f73ba678f4838444aa6a53b7cc07cc2df61788aa92cb8c389206210a37a9e5", func := "loop.example/g00456/laws.FnExactRepair", spec := "fnExactRepair", unfollowed := true, recurses := true, apart := false }
def FnExactRepairSaid : Prop := fnExactRepairRow.holds Try.pinned (OpenSpec.ofChange fnExactRepairSpec)

/-- ITS FALSE NEIGHBOUR: 'it returns false'. Refute it at one input. -/
def fnExactRepairWrong : ChangeSpec := { name := "fnExactRepair", fn := fun _ => fun
  | [d] => { results := [.lit (.bool false)], args := [d] }
  | _ => none }
def FnExactRepairWrongFalsely : Prop := fnExactRepairRow.holds Try.pinned (OpenSpec.ofChange fnExactRepairWrong)

/-- 'laws.FnExactReqOK': WHATEVER THE INPUT: true; the input reads as it did. -/
def fnExactReqOKSpec : ChangeSpec := { name := "fnExactReqOK", fn := fun _ => fun
  | [d] => { results := [.lit (.bool true)], args := [d] }
  | _ => none }
def fnExactReqOKRow : OpenClaim := { program := "ytkaiglhljpehpab", sum := "50f73ba678f4838444aa6a53b7cc07cc2df61788aa92cb8c389206210a37a9e5", func := "loop.example/g00456/laws.FnExactReqOK", spec := "fnExactReqOK", apart := false }
def FnExactReqOKSaid : Prop := fnExactReqOKRow.holds Try.pinned (OpenSpec.ofChange fnExactReqOKSpec)

/-- ITS FALSE NEIGHBOUR: 'it returns false'. Refute it at one input. -/
def fnExactReqOKWrong : ChangeSpec := { name := "fnExactReqOK", fn := fun _ => fun
  | [d] => { results := [.lit (.bool false)], args := [d] }
  | _ => none }
def FnExactReqOKWrongFalsely : Prop := fnExactReqOKRow.holds Try.pinned (OpenSpec.ofChange fnExactReqOKWrong)

/- THE SECOND FORM. 'bulk': how many values and letters a reading holds, each counted each time it is reached (what is shared counts as often as it is met; a slice's spare places count too). A statement '..UptoSaid' is the law's where the arguments, and the package variables that the reading takes, are together of bulk at most 1048576: NARROWER than '..Said'. Prove '..Said' where nothing that the law and all that it calls make is longer than what came in: it says more and counts as full. Else prove '..UptoSaid'. A law counts once. -/
mutual
def uptoBulk {H : Type} : DataW H → Nat
  | .lit (.string bytes) => bytes.length + 1
  | .lit _ => 1
  | .nil => 1
  | .ptr d => uptoBulk d + 1
  | .slice elems spare => uptoBulkAll elems + uptoBulkAll spare + 1
  | .agg parts => uptoBulkAll parts + 1
  | .iface _ d => uptoBulk d + 1
  | .map entries => uptoBulkEntries entries + 1
  | .held _ => 1
def uptoBulkAll {H : Type} : List (DataW H) → Nat
  | [] => 0
  | d :: r => uptoBulk d + uptoBulkAll r
def uptoBulkEntries {H : Type} : List (Lit × DataW H) → Nat
  | [] => 0
  | x :: r => uptoBulkEntry x + uptoBulkEntries r
def uptoBulkEntry {H : Type} : Lit × DataW H → Nat
  | (.string bytes, d) => bytes.length + uptoBulk d + 1
  | (_, d) => uptoBulk d + 1
 end
def uptoSmall : (H : Type) → List (DataW H) → Bool := fun _ ds => decide (uptoBulkAll ds ≤ 1048576)
def OpenSpec.upto (s : _root_.Go.ChangeSpec) : _root_.Go.OpenSpec := { _root_.Go.OpenSpec.ofChange s with cond := some uptoSmall }

/-- 'laws.FnExactCountRefs', WHERE WHAT IT READS IS OF BULK AT MOST 1048576: true; the input reads as it did. -/
def fnExactCountRefsUptoRow : OpenClaim := { program := "ytkaiglhljpehpab", sum := "50f73ba678f4838444aa6a53b7cc07cc2df61788aa92cb8c389206210a37a9e5", func := "loop.example/g00456/laws.FnExactCountRefs", spec := "fnExactCountRefs", unfollowed := true, recurses := true, apart := false, narrowed := true }
def FnExactCountRefsUptoSaid : Prop := fnExactCountRefsUptoRow.holds Try.pinned (OpenSpec.upto fnExactCountRefsSpec)

/-- 'laws.FnExactWrongRefs', WHERE WHAT IT READS IS OF BULK AT MOST 1048576: true; the input reads as it did. -/
def fnExactWrongRefsUptoRow : OpenClaim := { program := "ytkaiglhljpehpab", sum := "50f73ba678f4838444aa6a53b7cc07cc2df61788aa92cb8c389206210a37a9e5", func := "loop.example/g00456/laws.FnExactWrongRefs", spec := "fnExactWrongRefs", unfollowed := true, recurses := true, apart := false, narrowed := true }
def FnExactWrongRefsUptoSaid : Prop := fnExactWrongRefsUptoRow.holds Try.pinned (OpenSpec.upto fnExactWrongRefsSpec)

/-- 'laws.FnExactLeaks', WHERE WHAT IT READS IS OF BULK AT MOST 1048576: true; the input reads as it did. -/
def fnExactLeaksUptoRow : OpenClaim := { program := "ytkaiglhljpehpab", sum := "50f73ba678f4838444aa6a53b7cc07cc2df61788aa92cb8c389206210a37a9e5", func := "loop.example/g00456/laws.FnExactLeaks", spec := "fnExactLeaks", unfollowed := true, recurses := true, apart := false, narrowed := true }
def FnExactLeaksUptoSaid : Prop := fnExactLeaksUptoRow.holds Try.pinned (OpenSpec.upto fnExactLeaksSpec)

/-- 'laws.FnExactRepair', WHERE WHAT IT READS IS OF BULK AT MOST 1048576: true; the input reads as it did. -/
def fnExactRepairUptoRow : OpenClaim := { program := "ytkaiglhljpehpab", sum := "50f73ba678f4838444aa6a53b7cc07cc2df61788aa92cb8c389206210a37a9e5", func := "loop.example/g00456/laws.FnExactRepair", spec := "fnExactRepair", unfollowed := true, recurses := true, apart := false, narrowed := true }
def FnExactRepairUptoSaid : Prop := fnExactRepairUptoRow.holds Try.pinned (OpenSpec.upto fnExactRepairSpec)

/-- 'laws.FnExactReqOK', WHERE WHAT IT READS IS OF BULK AT MOST 1048576: true; the input reads as it did. -/
def fnExactReqOKUptoRow : OpenClaim := { program := "ytkaiglhljpehpab", sum := "50f73ba678f4838444aa6a53b7cc07cc2df61788aa92cb8c389206210a37a9e5", func := "loop.example/g00456/laws.FnExactReqOK", spec := "fnExactReqOK", apart := false, narrowed := true }
def FnExactReqOKUptoSaid : Prop := fnExactReqOKUptoRow.holds Try.pinned (OpenSpec.upto fnExactReqOKSpec)

end Rows
end Go.Proofs.Ytkaiglhljpehpab
