/-
  No cell of these rows narrows 'for every input' (looked for: loops, veiled, ifaces, maps, wideKeys, modest, calm, conditions, laid).
  DERIVED. THE GIVEN ROWS OF THIS SEAT. 5 by the template 'for every input the law returns true; each argument reads behind the call as it read before'; 0 by the template 'total and deterministic' (their statements: YtdigphemaccodaaTotals.lean).
  GIVEN WITH THE SEED: the statements are not yours to turn. If you find one false, say at which input.
  Laid BY PROGRAM, IN A SANDBOX (cutbox-rows.mjs): the forced cells as the released guide's own fill.sh prints them over the translation 8c1cce040592b7ad… (all of the seat's roots in one cut). By AI agents, Wed Nov 11 2026. No macro, syntax, notation, axiom, sorry.
-/
import Derived.Test.YtdigphemaccodaaChecked
import GoSem.Claim
import GoSem.ClaimJoined
import GoSem.ClaimMapViews
import Derived.JoinedTies
import Derived.KernelRfl
namespace Go.Proofs.Ytdigphemaccodaa
/- THE CELL 'sum', in the pinned program and in every row, IS THE sha256 OF THE DUMP (.gsa) THAT YtdigphemaccodaaProg.lean LOADS. Nothing in Lean hashes anything: it is a label: what it is worth is what the hold of that sum in a sandbox is worth. -/
noncomputable def Try.pinned : Pinned := { name := "ytdigphemaccodaa", sum := "8c1cce040592b7ad4d5a524f705b87be8c0526fddaf3667836fae08644f68de2", checked := Try.checked }
namespace Rows
def none {H : Type} : Left H := { results := [], args := [] }

/-- 'laws.FnAgree': WHATEVER THE INPUT: true; the input reads as it did. -/
def fnAgreeSpec : ChangeSpec := { name := "fnAgree", fn := fun _ => fun
  | [d1, d2] => { results := [.lit (.bool true)], args := [d1, d2] }
  | _ => none }
def fnAgreeRow : OpenClaim := { program := "ytdigphemaccodaa", sum := "8c1cce040592b7ad4d5a524f705b87be8c0526fddaf3667836fae08644f68de2", func := "loop.example/g00456/laws.FnAgree", spec := "fnAgree", unfollowed := true, recurses := true, apart := false }
def FnAgreeSaid : Prop := fnAgreeRow.holds Try.pinned (OpenSpec.ofChange fnAgreeSpec)

/-- ITS FALSE NEIGHBOUR: 'it returns false'. Refute it at one input. -/
def fnAgreeWrong : ChangeSpec := { name := "fnAgree", fn := fun _ => fun
  | [d1, d2] => { results := [.lit (.bool false)], args := [d1, d2] }
  | _ => none }
def FnAgreeWrongFalsely : Prop := fnAgreeRow.holds Try.pinned (OpenSpec.ofChange fnAgreeWrong)

/-- 'laws.FnAlone': WHATEVER THE INPUT: true; the input reads as it did. -/
def fnAloneSpec : ChangeSpec := { name := "fnAlone", fn := fun _ => fun
  | [d1, d2] => { results := [.lit (.bool true)], args := [d1, d2] }
  | _ => none }
def fnAloneRow : OpenClaim := { program := "ytdigphemaccodaa", sum := "8c1cce040592b7ad4d5a524f705b87be8c0526fddaf3667836fae08644f68de2", func := "loop.example/g00456/laws.FnAlone", spec := "fnAlone", unfollowed := true, recurses := true, apart := false }
def FnAloneSaid : Prop := fnAloneRow.holds Try.pinned (OpenSpec.ofChange fnAloneSpec)

/-- ITS FALSE NEIGHBOUR: 'it returns false'. Refute it at one input. -/
def fnAloneWrong : ChangeSpec := { name := "fnAlone", fn := fun _ => fun
  | [d1, d2] => { results := [.lit (.bool false)], args := [d1, d2] }
  | _ => none }
def FnAloneWrongFalsely : Prop := fnAloneRow.holds Try.pinned (OpenSpec.ofChange fnAloneWrong)

/-- 'laws.FnBallot': WHATEVER THE INPUT: true; the input reads as it did. -/
def fnBallotSpec : ChangeSpec := { name := "fnBallot", fn := fun _ => fun
  | [d1, d2] => { results := [.lit (.bool true)], args := [d1, d2] }
  | _ => none }
def fnBallotRow : OpenClaim := { program := "ytdigphemaccodaa", sum := "8c1cce040592b7ad4d5a524f705b87be8c0526fddaf3667836fae08644f68de2", func := "loop.example/g00456/laws.FnBallot", spec := "fnBallot", unfollowed := true, recurses := true, apart := false }
def FnBallotSaid : Prop := fnBallotRow.holds Try.pinned (OpenSpec.ofChange fnBallotSpec)

/-- ITS FALSE NEIGHBOUR: 'it returns false'. Refute it at one input. -/
def fnBallotWrong : ChangeSpec := { name := "fnBallot", fn := fun _ => fun
  | [d1, d2] => { results := [.lit (.bool false)], args := [d1, d2] }
  | _ => none }
def FnBallotWrongFalsely : Prop := fnBallotRow.holds Try.pinned (OpenSpec.ofChange fnBallotWrong)

/-- 'laws.FnExactBlockOK': WHATEVER THE INPUT: true; the input reads as it did. -/
def fnExactBlockOKSpec : ChangeSpec := { name := "fnExactBlockOK", fn := fun _ => fun
  | [d] => { results := [.lit (.bool true)], args := [d] }
  | _ => none }
def fnExactBlockOKRow : OpenClaim := { program := "ytdigphemaccodaa", sum := "8c1cce040592b7ad4d5a524f705b87be8c0526fddaf3667836fae08644f68de2", func := "loop.example/g00456/laws.FnExactBlockOK", spec := "fnExactBlockOK", apart := false }
def FnExactBlockOKSaid : Prop := fnExactBlockOKRow.holds Try.pinned (OpenSpec.ofChange fnExactBlockOKSpec)

/-- ITS FALSE NEIGHBOUR: 'it returns false'. Refute it at one input. -/
def fnExactBlockOKWrong : ChangeSpec := { name := "fnExactBlockOK", fn := fun _ => fun
  | [d] => { results := [.lit (.bool false)], args := [d] }
  | _ => none }
def FnExactBlockOKWrongFalsely : Prop := fnExactBlockOKRow.holds Try.pinned (OpenSpec.ofChange fnExactBlockOKWrong)

/-- 'laws.FnExactEncodeBlock': WHATEVER THE INPUT: true; the input reads as it did. -/
def fnExactEncodeBlockSpec : ChangeSpec := { name := "fnExactEncodeBlock", fn := fun _ => fun
  | [d] => { results := [.lit (.bool true)], args := [d] }
  | _ => none }
def fnExactEncodeBlockRow : OpenClaim := { program := "ytdigphemaccodaa", sum := "8c1cce040592b7ad4d5a524f705b87be8c0526fddaf3667836fae08644f68de2", func := "loop.example/g00456/laws.FnExactEncodeBlock", spec := "fnExactEncodeBlock", apart := false }
def FnExactEncodeBlockSaid : Prop := fnExactEncodeBlockRow.holds Try.pinned (OpenSpec.ofChange fnExactEncodeBlockSpec)

/-- ITS FALSE NEIGHBOUR: 'it returns false'. Refute it at one input. -/
def fnExactEncodeBlockWrong : ChangeSpec := { name := "fnExactEncodeBlock", fn := fun _ => fun
  | [d] => { results := [.lit (.bool false)], args := [d] }
  | _ => none }
def FnExactEncodeBlockWrongFalsely : Prop := fnExactEncodeBlockRow.holds Try.pinned (OpenSpec.ofChange fnExactEncodeBlockWrong)

/- THE SECOND FORM. 'bulk': how many values and letters a reading holds, each counted each time it is reached (what is shared counts as often as it is met; a slice's spare places count too). A statement '..UptoSaid' is the law's where the arguments, and the package variables that the reading takes, are together of bulk at most 1048576: NARROWER than '..Said'. Prove '..Said' where nothing that the law and all that it calls make is longer than what came in: it says more and counts as full. Else prove '..UptoSaid'. A law counts once. -/
mutual
def uptoBulk {H : Type} : DataW H → Nat
  | .lit (.string bytes) => bytes.length + 1
  | .lit _ => 1
  | .nil => 1
  | .ptr d => uptoBulk d + 1
  | .slice elems spare => uptoBulkAll elems + uptoBulkAll spare + 1
  | .agg parts => uptoBulkAll parts + 1
  | .iface _ d => uptoBulk d + 1
  | .map entries => uptoBulkEntries entries + 1
  | .held _ => 1
def uptoBulkAll {H : Type} : List (DataW H) → Nat
  | [] => 0
  | d :: r => uptoBulk d + uptoBulkAll r
def uptoBulkEntries {H : Type} : List (Lit × DataW H) → Nat
  | [] => 0
  | x :: r => uptoBulkEntry x + uptoBulkEntries r
def uptoBulkEntry {H : Type} : Lit × DataW H → Nat
  | (.string bytes, d) => bytes.length + uptoBulk d + 1
  | (_, d) => uptoBulk d + 1
 end
def uptoSmall : (H : Type) → List (DataW H) → Bool := fun _ ds => decide (uptoBulkAll ds ≤ 1048576)
def OpenSpec.upto (s : _root_.Go.ChangeSpec) : _root_.Go.OpenSpec := { _root_.Go.OpenSpec.ofChange s with cond := some uptoSmall }

/-- 'laws.FnAgree', WHERE WHAT IT READS IS OF BULK AT MOST 1048576: true; the input reads as it did. -/
def fnAgreeUptoRow : OpenClaim := { program := "ytdigphemaccodaa", sum := "8c1cce040592b7ad4d5a524f705b87be8c0526fddaf3667836fae08644f68de2", func := "loop.example/g00456/laws.FnAgree", spec := "fnAgree", unfollowed := true, recurses := true, apart := false, narrowed := true }
def FnAgreeUptoSaid : Prop := fnAgreeUptoRow.holds Try.pinned (OpenSpec.upto fnAgreeSpec)

/-- 'laws.FnAlone', WHERE WHAT IT READS IS OF BULK AT MOST 1048576: true; the input reads as it did. -/
def fnAloneUptoRow : OpenClaim := { program := "ytdigphemaccodaa", sum := "8c1cce040592b7ad4d5a524f705b87be8c0526fddaf3667836fae08644f68de2", func := "loop.example/g00456/laws.FnAlone", spec := "fnAlone", unfollowed := true, recurses := true, apart := false, narrowed := true }
def FnAloneUptoSaid : Prop := fnAloneUptoRow.holds Try.pinned (OpenSpec.upto fnAloneSpec)

/-- 'laws.FnBallot', WHERE WHAT IT READS IS OF BULK AT MOST 1048576: true; the input reads as it did. -/
def fnBallotUptoRow : OpenClaim := { program := "ytdigphemaccodaa", sum := "8c1cce040592b7ad4d5a524f705b87be8c0526fddaf3667836fae08644f68de2", func := "loop.example/g00456/laws.FnBallot", spec := "fnBallot", unfollowed := true, recurses := true, apart := false, narrowed := true }
def FnBallotUptoSaid : Prop := fnBallotUptoRow.holds Try.pinned (OpenSpec.upto fnBallotSpec)

/-- 'laws.FnExactBlockOK', WHERE WHAT IT READS IS OF BULK AT MOST 1048576: true; the input reads as it did. -/
def fnExactBlockOKUptoRow : OpenClaim := { program := "ytdigphemaccodaa", sum := "8c1cce040592b7ad4d5a524f705b87be8c0526fddaf3667836fae08644f68de2", func := "loop.example/g00456/laws.FnExactBlockOK", spec := "fnExactBlockOK", apart := false, narrowed := true }
def FnExactBlockOKUptoSaid : Prop := fnExactBlockOKUptoRow.holds Try.pinned (OpenSpec.upto fnExactBlockOKSpec)

/-- 'laws.FnExactEncodeBlock', WHERE WHAT IT READS IS OF BULK AT MOST 1048576: true; the input reads as it did. -/
def fnExactEncodeBlockUptoRow : OpenClaim := { program := "ytdigphemaccodaa", sum := "8c1cce040592b7ad4d5a524f705b87be8c0526fddaf3667836fae08644f68de2", func := "loop.example/g00456/laws.FnExactEncodeBlock", spec := "fnExactEncodeBlock", apart := false, narrowed := true }
def FnExactEncodeBlockUptoSaid : Prop := fnExactEncodeBlockUptoRow.holds Try.pinned (OpenSpec.upto fnExactEncodeBlockSpec)

end Rows
end Go.Proofs.Ytdigphemaccodaa
