/-
  No cell of these rows narrows 'for every input' (looked for: loops, veiled, ifaces, maps, wideKeys, modest, calm, conditions, laid).
  DERIVED. THE GIVEN ROWS OF THIS SEAT. 5 by the template 'for every input the law returns true; each argument reads behind the call as it read before'; 0 by the template 'total and deterministic' (their statements: YtdigphemaccodabTotals.lean).
  GIVEN WITH THE SEED: the statements are not yours to turn. If you find one false, say at which input.
  Laid BY PROGRAM, IN A SANDBOX (cutbox-rows.mjs): the forced cells as the released guide's own fill.sh prints them over the translation a8e12ec5c92bf65c… (all of the seat's roots in one cut). By AI agents, Wed Nov 11 2026. No macro, syntax, notation, axiom, sorry.
-/
import Derived.Test.YtdigphemaccodabChecked
import GoSem.Claim
import GoSem.ClaimJoined
import GoSem.ClaimMapViews
import Derived.JoinedTies
import Derived.KernelRfl
namespace Go.Proofs.Ytdigphemaccodab
/- THE CELL 'sum', in the pinned program and in every row, IS THE sha256 OF THE DUMP (.gsa) THAT YtdigphemaccodabProg.lean LOADS. Nothing in Lean hashes anything: it is a label: what it is worth is what the hold of that sum in a sandbox is worth. -/
noncomputable def Try.pinned : Pinned := { name := "ytdigphemaccodab", sum := "a8e12ec5c92bf65c95d66701067d6a50ff7ebd33ce1b599e6f8142f07c3f85f5", checked := Try.checked }
namespace Rows
def none {H : Type} : Left H := { results := [], args := [] }

/-- 'laws.FnExactPxOK': WHATEVER THE INPUT: true; the input reads as it did. -/
def fnExactPxOKSpec : ChangeSpec := { name := "fnExactPxOK", fn := fun _ => fun
  | [d] => { results := [.lit (.bool true)], args := [d] }
  | _ => none }
def fnExactPxOKRow : OpenClaim := { program := "ytdigphemaccodab", sum := "a8e12ec5c92bf65c95d66701067d6a50ff7ebd33ce1b599e6f8142f07c3f85f5", func := "loop.example/g00456/laws.FnExactPxOK", spec := "fnExactPxOK", apart := false }
def FnExactPxOKSaid : Prop := fnExactPxOKRow.holds Try.pinned (OpenSpec.ofChange fnExactPxOKSpec)

/-- ITS FALSE NEIGHBOUR: 'it returns false'. Refute it at one input. -/
def fnExactPxOKWrong : ChangeSpec := { name := "fnExactPxOK", fn := fun _ => fun
  | [d] => { results := [.lit (.bool false)], args := [d] }
  | _ => none }
def FnExactPxOKWrongFalsely : Prop := fnExactPxOKRow.holds Try.pinned (OpenSpec.ofChange fnExactPxOKWrong)

/-- 'laws.FnExactPxStart': WHATEVER THE INPUT: true; the input reads as it did. -/
def fnExactPxStartSpec : ChangeSpec := { name := "fnExactPxStart", fn := fun _ => fun
  | [d1, d2, d3, d4] => { results := [.lit (.bool true)], args := [d1, d2, d3, d4] }
  | _ => none }
def fnExactPxStartRow : OpenClaim := { program := "ytdigphemaccodab", sum := "a8e12ec5c92bf65c95d66701067d6a50ff7ebd33ce1b599e6f8142f07c3f85f5", func := "loop.example/g00456/laws.FnExactPxStart", spec := "fnExactPxStart", apart := false }
def FnExactPxStartSaid : Prop := fnExactPxStartRow.holds Try.pinned (OpenSpec.ofChange fnExactPxStartSpec)

/-- ITS FALSE NEIGHBOUR: 'it returns false'. Refute it at one input. -/
def fnExactPxStartWrong : ChangeSpec := { name := "fnExactPxStart", fn := fun _ => fun
  | [d1, d2, d3, d4] => { results := [.lit (.bool false)], args := [d1, d2, d3, d4] }
  | _ => none }
def FnExactPxStartWrongFalsely : Prop := fnExactPxStartRow.holds Try.pinned (OpenSpec.ofChange fnExactPxStartWrong)

/-- 'laws.FnExactPxStep': WHATEVER THE INPUT: true; the input reads as it did. -/
def fnExactPxStepSpec : ChangeSpec := { name := "fnExactPxStep", fn := fun _ => fun
  | [d1, d2] => { results := [.lit (.bool true)], args := [d1, d2] }
  | _ => none }
def fnExactPxStepRow : OpenClaim := { program := "ytdigphemaccodab", sum := "a8e12ec5c92bf65c95d66701067d6a50ff7ebd33ce1b599e6f8142f07c3f85f5", func := "loop.example/g00456/laws.FnExactPxStep", spec := "fnExactPxStep", unfollowed := true, recurses := true, apart := false }
def FnExactPxStepSaid : Prop := fnExactPxStepRow.holds Try.pinned (OpenSpec.ofChange fnExactPxStepSpec)

/-- ITS FALSE NEIGHBOUR: 'it returns false'. Refute it at one input. -/
def fnExactPxStepWrong : ChangeSpec := { name := "fnExactPxStep", fn := fun _ => fun
  | [d1, d2] => { results := [.lit (.bool false)], args := [d1, d2] }
  | _ => none }
def FnExactPxStepWrongFalsely : Prop := fnExactPxStepRow.holds Try.pinned (OpenSpec.ofChange fnExactPxStepWrong)

/-- 'laws.FnExactNextBallot': WHATEVER THE INPUT: true; the input reads as it did. -/
def fnExactNextBallotSpec : ChangeSpec := { name := "fnExactNextBallot", fn := fun _ => fun
  | [d1, d2, d3] => { results := [.lit (.bool true)], args := [d1, d2, d3] }
  | _ => none }
def fnExactNextBallotRow : OpenClaim := { program := "ytdigphemaccodab", sum := "a8e12ec5c92bf65c95d66701067d6a50ff7ebd33ce1b599e6f8142f07c3f85f5", func := "loop.example/g00456/laws.FnExactNextBallot", spec := "fnExactNextBallot", apart := false }
def FnExactNextBallotSaid : Prop := fnExactNextBallotRow.holds Try.pinned (OpenSpec.ofChange fnExactNextBallotSpec)

/-- ITS FALSE NEIGHBOUR: 'it returns false'. Refute it at one input. -/
def fnExactNextBallotWrong : ChangeSpec := { name := "fnExactNextBallot", fn := fun _ => fun
  | [d1, d2, d3] => { results := [.lit (.bool false)], args := [d1, d2, d3] }
  | _ => none }
def FnExactNextBallotWrongFalsely : Prop := fnExactNextBallotRow.holds Try.pinned (OpenSpec.ofChange fnExactNextBallotWrong)

/-- 'laws.FnExactRunPaxos': WHATEVER THE INPUT: true; the input reads as it did. -/
def fnExactRunPaxosSpec : ChangeSpec := { name := "fnExactRunPaxos", fn := fun _ => fun
  | [d1, d2] => { results := [.lit (.bool true)], args := [d1, d2] }
  | _ => none }
def fnExactRunPaxosRow : OpenClaim := { program := "ytdigphemaccodab", sum := "a8e12ec5c92bf65c95d66701067d6a50ff7ebd33ce1b599e6f8142f07c3f85f5", func := "loop.example/g00456/laws.FnExactRunPaxos", spec := "fnExactRunPaxos", unfollowed := true, recurses := true, apart := false }
def FnExactRunPaxosSaid : Prop := fnExactRunPaxosRow.holds Try.pinned (OpenSpec.ofChange fnExactRunPaxosSpec)

/-- ITS FALSE NEIGHBOUR: 'it returns false'. Refute it at one input. -/
def fnExactRunPaxosWrong : ChangeSpec := { name := "fnExactRunPaxos", fn := fun _ => fun
  | [d1, d2] => { results := [.lit (.bool false)], args := [d1, d2] }
  | _ => none }
def FnExactRunPaxosWrongFalsely : Prop := fnExactRunPaxosRow.holds Try.pinned (OpenSpec.ofChange fnExactRunPaxosWrong)

/- THE SECOND FORM. 'bulk': how many values and letters a reading holds, each counted each time it is reached (what is shared counts as often as it is met; a slice's spare places count too). A statement '..UptoSaid' is the law's where the arguments, and the package variables that the reading takes, are together of bulk at most 1048576: NARROWER than '..Said'. Prove '..Said' where nothing that the law and all that it calls make is longer than what came in: it says more and counts as full. Else prove '..UptoSaid'. A law counts once. -/
mutual
def uptoBulk {H : Type} : DataW H → Nat
  | .lit (.string bytes) => bytes.length + 1
  | .lit _ => 1
  | .nil => 1
  | .ptr d => uptoBulk d + 1
  | .slice elems spare => uptoBulkAll elems + uptoBulkAll spare + 1
  | .agg parts => uptoBulkAll parts + 1
  | .iface _ d => uptoBulk d + 1
  | .map entries => uptoBulkEntries entries + 1
  | .held _ => 1
def uptoBulkAll {H : Type} : List (DataW H) → Nat
  | [] => 0
  | d :: r => uptoBulk d + uptoBulkAll r
def uptoBulkEntries {H : Type} : List (Lit × DataW H) → Nat
  | [] => 0
  | x :: r => uptoBulkEntry x + uptoBulkEntries r
def uptoBulkEntry {H : Type} : Lit × DataW H → Nat
  | (.string bytes, d) => bytes.length + uptoBulk d + 1
  | (_, d) => uptoBulk d + 1
 end
def uptoSmall : (H : Type) → List (DataW H) → Bool := fun _ ds => decide (uptoBulkAll ds ≤ 1048576)
def OpenSpec.upto (s : _root_.Go.ChangeSpec) : _root_.Go.OpenSpec := { _root_.Go.OpenSpec.ofChange s with cond := some uptoSmall }

/-- 'laws.FnExactPxOK', WHERE WHAT IT READS IS OF BULK AT MOST 1048576: true; the input reads as it did. -/
def fnExactPxOKUptoRow : OpenClaim := { program := "ytdigphemaccodab", sum := "a8e12ec5c92bf65c95d66701067d6a50ff7ebd33ce1b599e6f8142f07c3f85f5", func := "loop.example/g00456/laws.FnExactPxOK", spec := "fnExactPxOK", apart := false, narrowed := true }
def FnExactPxOKUptoSaid : Prop := fnExactPxOKUptoRow.holds Try.pinned (OpenSpec.upto fnExactPxOKSpec)

/-- 'laws.FnExactPxStart', WHERE WHAT IT READS IS OF BULK AT MOST 1048576: true; the input reads as it did. -/
def fnExactPxStartUptoRow : OpenClaim := { program := "ytdigphemaccodab", sum := "a8e12ec5c92bf65c95d66701067d6a50ff7ebd33ce1b599e6f8142f07c3f85f5", func := "loop.example/g00456/laws.FnExactPxStart", spec := "fnExactPxStart", apart := false, narrowed := true }
def FnExactPxStartUptoSaid : Prop := fnExactPxStartUptoRow.holds Try.pinned (OpenSpec.upto fnExactPxStartSpec)

/-- 'laws.FnExactPxStep', WHERE WHAT IT READS IS OF BULK AT MOST 1048576: true; the input reads as it did. -/
def fnExactPxStepUptoRow : OpenClaim := { program := "ytdigphemaccodab", sum := "a8e12ec5c92bf65c95d66701067d6a50ff7ebd33ce1b599e6f8142f07c3f85f5", func := "loop.example/g00456/laws.FnExactPxStep", spec := "fnExactPxStep", unfollowed := true, recurses := true, apart := false, narrowed := true }
def FnExactPxStepUptoSaid : Prop := fnExactPxStepUptoRow.holds Try.pinned (OpenSpec.upto fnExactPxStepSpec)

/-- 'laws.FnExactNextBallot', WHERE WHAT IT READS IS OF BULK AT MOST 1048576: true; the input reads as it did. -/
def fnExactNextBallotUptoRow : OpenClaim := { program := "ytdigphemaccodab", sum := "a8e12ec5c92bf65c95d66701067d6a50ff7ebd33ce1b599e6f8142f07c3f85f5", func := "loop.example/g00456/laws.FnExactNextBallot", spec := "fnExactNextBallot", apart := false, narrowed := true }
def FnExactNextBallotUptoSaid : Prop := fnExactNextBallotUptoRow.holds Try.pinned (OpenSpec.upto fnExactNextBallotSpec)

/-- 'laws.FnExactRunPaxos', WHERE WHAT IT READS IS OF BULK AT MOST 1048576: true; the input reads as it did. -/
def fnExactRunPaxosUptoRow : OpenClaim := { program := "ytdigphemaccodab", sum := "a8e12ec5c92bf65c95d66701067d6a50ff7ebd33ce1b599e6f8142f07c3f85f5", func := "loop.example/g00456/laws.FnExactRunPaxos", spec := "fnExactRunPaxos", unfollowed := true, recurses := true, apart := false, narrowed := true }
def FnExactRunPaxosUptoSaid : Prop := fnExactRunPaxosUptoRow.holds Try.pinned (OpenSpec.upto fnExactRunPaxosSpec)

end Rows
end Go.Proofs.Ytdigphemaccodab
