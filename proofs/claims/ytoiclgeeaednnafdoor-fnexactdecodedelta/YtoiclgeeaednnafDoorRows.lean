/-
  NARROWER THAN 'FOR EVERY INPUT', by the rows' own cells (each row's printed sentence says how): FnExactDecodeDelta: ifaces, laid · FnExactTakeDelta: ifaces, laid · FnExactRenewDelta: ifaces, laid · FnExactReadDelta: ifaces, laid.
  DERIVED. THE GIVEN ROWS OF THIS SEAT. 4 by the template 'for every input the law returns true; each argument reads behind the call as it read before'; 0 by the template 'total and deterministic' (their statements: YtoiclgeeaednnafDoorTotals.lean).
  GIVEN WITH THE SEED: the statements are not yours to turn. If you find one false, say at which input.
  Laid BY PROGRAM, IN A SANDBOX (cutbox-rows.mjs): the forced cells as the released guide's own fill.sh prints them over the translation 04fd59ace8318bee… (all of the seat's roots in one cut). By AI agents, Wed Nov 11 2026. No macro, syntax, notation, axiom, sorry.
-/
import Derived.Test.YtoiclgeeaednnafDoorChecked
import GoSem.Claim
import GoSem.ClaimJoined
import GoSem.ClaimMapViews
import Derived.JoinedTies
import Derived.KernelRfl
namespace Go.Proofs.YtoiclgeeaednnafDoor
/- THE CELL 'sum', in the pinned program and in every row, IS THE sha256 OF THE DUMP (.gsa) THAT YtoiclgeeaednnafDoorProg.lean LOADS. Nothing in Lean hashes anything: it is a label: what it is worth is what the hold of that sum in a sandbox is worth. -/
noncomputable def Tryd.pinned : Pinned := { name := "ytoiclgeeaednnafdoor", sum := "04fd59ace8318beeb75d8cc8da630dc8d5bb0912b9aa5121e6e826cb341f1c1b", checked := Tryd.checked }
namespace Rows
def none {H : Type} : Left H := { results := [], args := [] }

/- WHAT THE LISTED PACKAGE-LEVEL VARIABLES READ AS WHEN THE CALL BEGINS. Each datum BY PROGRAM (the guide's laid-datum.mjs) off the statement by which the dump's own 'gosem.cut.vars' lays the variable. In a bare row this is a premise. The card (YtoiclgeeaednnafDoorCards.lean) ties it to the program's text. -/
def laid_loop_example_g00456_impl_errNoForm {H : Type} : DataW H := .iface "*errors.errorString" (.ptr (.agg [.lit (.string [110, 111, 32, 115, 117, 99, 104, 32, 102, 111, 114, 109])]))

/-- 'laws.FnExactDecodeDelta': WHATEVER THE INPUT: true; the input reads as it did. -/
def fnExactDecodeDeltaSpec : ChangeSpec := { name := "fnExactDecodeDelta", vars := ["loop.example/g00456/impl.errNoForm"], fn := fun _ => fun
  | [d, g1] => { results := [.lit (.bool true)], args := [d], vars := [g1] }
  | _ => none }
def fnExactDecodeDeltaRow : OpenClaim := { program := "ytoiclgeeaednnafdoor", sum := "04fd59ace8318beeb75d8cc8da630dc8d5bb0912b9aa5121e6e826cb341f1c1b", func := "loop.example/g00456/laws.FnExactDecodeDelta", spec := "fnExactDecodeDelta", unfollowed := true, recurses := true, named := ["loop.example/g00456/impl.errNoForm"], ifaces := true, apart := false, laid := [("loop.example/g00456/impl.errNoForm", laid_loop_example_g00456_impl_errNoForm)] }
def FnExactDecodeDeltaSaid : Prop := fnExactDecodeDeltaRow.holds Tryd.pinned (OpenSpec.ofChange fnExactDecodeDeltaSpec)

/-- ITS FALSE NEIGHBOUR: 'it returns false'. Refute it at one input. -/
def fnExactDecodeDeltaWrong : ChangeSpec := { name := "fnExactDecodeDelta", vars := ["loop.example/g00456/impl.errNoForm"], fn := fun _ => fun
  | [d, g1] => { results := [.lit (.bool false)], args := [d], vars := [g1] }
  | _ => none }
def FnExactDecodeDeltaWrongFalsely : Prop := fnExactDecodeDeltaRow.holds Tryd.pinned (OpenSpec.ofChange fnExactDecodeDeltaWrong)

/-- 'laws.FnExactTakeDelta': WHATEVER THE INPUT: true; the input reads as it did. -/
def fnExactTakeDeltaSpec : ChangeSpec := { name := "fnExactTakeDelta", vars := ["loop.example/g00456/impl.errNoForm"], fn := fun _ => fun
  | [d1, d2, d3, g1] => { results := [.lit (.bool true)], args := [d1, d2, d3], vars := [g1] }
  | _ => none }
def fnExactTakeDeltaRow : OpenClaim := { program := "ytoiclgeeaednnafdoor", sum := "04fd59ace8318beeb75d8cc8da630dc8d5bb0912b9aa5121e6e826cb341f1c1b", func := "loop.example/g00456/laws.FnExactTakeDelta", spec := "fnExactTakeDelta", unfollowed := true, recurses := true, named := ["loop.example/g00456/impl.errNoForm"], ifaces := true, apart := false, laid := [("loop.example/g00456/impl.errNoForm", laid_loop_example_g00456_impl_errNoForm)] }
def FnExactTakeDeltaSaid : Prop := fnExactTakeDeltaRow.holds Tryd.pinned (OpenSpec.ofChange fnExactTakeDeltaSpec)

/-- ITS FALSE NEIGHBOUR: 'it returns false'. Refute it at one input. -/
def fnExactTakeDeltaWrong : ChangeSpec := { name := "fnExactTakeDelta", vars := ["loop.example/g00456/impl.errNoForm"], fn := fun _ => fun
  | [d1, d2, d3, g1] => { results := [.lit (.bool false)], args := [d1, d2, d3], vars := [g1] }
  | _ => none }
def FnExactTakeDeltaWrongFalsely : Prop := fnExactTakeDeltaRow.holds Tryd.pinned (OpenSpec.ofChange fnExactTakeDeltaWrong)

/-- 'laws.FnExactRenewDelta': WHATEVER THE INPUT: true; the input reads as it did. -/
def fnExactRenewDeltaSpec : ChangeSpec := { name := "fnExactRenewDelta", vars := ["loop.example/g00456/impl.errNoForm"], fn := fun _ => fun
  | [d1, d2, d3, g1] => { results := [.lit (.bool true)], args := [d1, d2, d3], vars := [g1] }
  | _ => none }
def fnExactRenewDeltaRow : OpenClaim := { program := "ytoiclgeeaednnafdoor", sum := "04fd59ace8318beeb75d8cc8da630dc8d5bb0912b9aa5121e6e826cb341f1c1b", func := "loop.example/g00456/laws.FnExactRenewDelta", spec := "fnExactRenewDelta", unfollowed := true, recurses := true, named := ["loop.example/g00456/impl.errNoForm"], ifaces := true, apart := false, laid := [("loop.example/g00456/impl.errNoForm", laid_loop_example_g00456_impl_errNoForm)] }
def FnExactRenewDeltaSaid : Prop := fnExactRenewDeltaRow.holds Tryd.pinned (OpenSpec.ofChange fnExactRenewDeltaSpec)

/-- ITS FALSE NEIGHBOUR: 'it returns false'. Refute it at one input. -/
def fnExactRenewDeltaWrong : ChangeSpec := { name := "fnExactRenewDelta", vars := ["loop.example/g00456/impl.errNoForm"], fn := fun _ => fun
  | [d1, d2, d3, g1] => { results := [.lit (.bool false)], args := [d1, d2, d3], vars := [g1] }
  | _ => none }
def FnExactRenewDeltaWrongFalsely : Prop := fnExactRenewDeltaRow.holds Tryd.pinned (OpenSpec.ofChange fnExactRenewDeltaWrong)

/-- 'laws.FnExactReadDelta': WHATEVER THE INPUT: true; the input reads as it did. -/
def fnExactReadDeltaSpec : ChangeSpec := { name := "fnExactReadDelta", vars := ["loop.example/g00456/impl.errNoForm"], fn := fun _ => fun
  | [d1, d2, d3, g1] => { results := [.lit (.bool true)], args := [d1, d2, d3], vars := [g1] }
  | _ => none }
def fnExactReadDeltaRow : OpenClaim := { program := "ytoiclgeeaednnafdoor", sum := "04fd59ace8318beeb75d8cc8da630dc8d5bb0912b9aa5121e6e826cb341f1c1b", func := "loop.example/g00456/laws.FnExactReadDelta", spec := "fnExactReadDelta", unfollowed := true, recurses := true, named := ["loop.example/g00456/impl.errNoForm"], ifaces := true, apart := false, laid := [("loop.example/g00456/impl.errNoForm", laid_loop_example_g00456_impl_errNoForm)] }
def FnExactReadDeltaSaid : Prop := fnExactReadDeltaRow.holds Tryd.pinned (OpenSpec.ofChange fnExactReadDeltaSpec)

/-- ITS FALSE NEIGHBOUR: 'it returns false'. Refute it at one input. -/
def fnExactReadDeltaWrong : ChangeSpec := { name := "fnExactReadDelta", vars := ["loop.example/g00456/impl.errNoForm"], fn := fun _ => fun
  | [d1, d2, d3, g1] => { results := [.lit (.bool false)], args := [d1, d2, d3], vars := [g1] }
  | _ => none }
def FnExactReadDeltaWrongFalsely : Prop := fnExactReadDeltaRow.holds Tryd.pinned (OpenSpec.ofChange fnExactReadDeltaWrong)

/- THE SECOND FORM. 'bulk': how many values and letters a reading holds, each counted each time it is reached (what is shared counts as often as it is met; a slice's spare places count too). A statement '..UptoSaid' is the law's where the arguments, and the package variables that the reading takes, are together of bulk at most 1048576: NARROWER than '..Said'. Prove '..Said' where nothing that the law and all that it calls make is longer than what came in: it says more and counts as full. Else prove '..UptoSaid'. A law counts once. -/
mutual
def uptoBulk {H : Type} : DataW H → Nat
  | .lit (.string bytes) => bytes.length + 1
  | .lit _ => 1
  | .nil => 1
  | .ptr d => uptoBulk d + 1
  | .slice elems spare => uptoBulkAll elems + uptoBulkAll spare + 1
  | .agg parts => uptoBulkAll parts + 1
  | .iface _ d => uptoBulk d + 1
  | .map entries => uptoBulkEntries entries + 1
  | .held _ => 1
def uptoBulkAll {H : Type} : List (DataW H) → Nat
  | [] => 0
  | d :: r => uptoBulk d + uptoBulkAll r
def uptoBulkEntries {H : Type} : List (Lit × DataW H) → Nat
  | [] => 0
  | x :: r => uptoBulkEntry x + uptoBulkEntries r
def uptoBulkEntry {H : Type} : Lit × DataW H → Nat
  | (.string bytes, d) => bytes.length + uptoBulk d + 1
  | (_, d) => uptoBulk d + 1
 end
def uptoSmall : (H : Type) → List (DataW H) → Bool := fun _ ds => decide (uptoBulkAll ds ≤ 1048576)
def OpenSpec.upto (s : _root_.Go.ChangeSpec) : _root_.Go.OpenSpec := { _root_.Go.OpenSpec.ofChange s with cond := some uptoSmall }

/-- 'laws.FnExactDecodeDelta', WHERE WHAT IT READS IS OF BULK AT MOST 1048576: true; the input reads as it did. -/
def fnExactDecodeDeltaUptoRow : OpenClaim := { program := "ytoiclgeeaednnafdoor", sum := "04fd59ace8318beeb75d8cc8da630dc8d5bb0912b9aa5121e6e826cb341f1c1b", func := "loop.example/g00456/laws.FnExactDecodeDelta", spec := "fnExactDecodeDelta", unfollowed := true, recurses := true, named := ["loop.example/g00456/impl.errNoForm"], ifaces := true, apart := false, laid := [("loop.example/g00456/impl.errNoForm", laid_loop_example_g00456_impl_errNoForm)], narrowed := true }
def FnExactDecodeDeltaUptoSaid : Prop := fnExactDecodeDeltaUptoRow.holds Tryd.pinned (OpenSpec.upto fnExactDecodeDeltaSpec)

/-- 'laws.FnExactTakeDelta', WHERE WHAT IT READS IS OF BULK AT MOST 1048576: true; the input reads as it did. -/
def fnExactTakeDeltaUptoRow : OpenClaim := { program := "ytoiclgeeaednnafdoor", sum := "04fd59ace8318beeb75d8cc8da630dc8d5bb0912b9aa5121e6e826cb341f1c1b", func := "loop.example/g00456/laws.FnExactTakeDelta", spec := "fnExactTakeDelta", unfollowed := true, recurses := true, named := ["loop.example/g00456/impl.errNoForm"], ifaces := true, apart := false, laid := [("loop.example/g00456/impl.errNoForm", laid_loop_example_g00456_impl_errNoForm)], narrowed := true }
def FnExactTakeDeltaUptoSaid : Prop := fnExactTakeDeltaUptoRow.holds Tryd.pinned (OpenSpec.upto fnExactTakeDeltaSpec)

/-- 'laws.FnExactRenewDelta', WHERE WHAT IT READS IS OF BULK AT MOST 1048576: true; the input reads as it did. -/
def fnExactRenewDeltaUptoRow : OpenClaim := { program := "ytoiclgeeaednnafdoor", sum := "04fd59ace8318beeb75d8cc8da630dc8d5bb0912b9aa5121e6e826cb341f1c1b", func := "loop.example/g00456/laws.FnExactRenewDelta", spec := "fnExactRenewDelta", unfollowed := true, recurses := true, named := ["loop.example/g00456/impl.errNoForm"], ifaces := true, apart := false, laid := [("loop.example/g00456/impl.errNoForm", laid_loop_example_g00456_impl_errNoForm)], narrowed := true }
def FnExactRenewDeltaUptoSaid : Prop := fnExactRenewDeltaUptoRow.holds Tryd.pinned (OpenSpec.upto fnExactRenewDeltaSpec)

/-- 'laws.FnExactReadDelta', WHERE WHAT IT READS IS OF BULK AT MOST 1048576: true; the input reads as it did. -/
def fnExactReadDeltaUptoRow : OpenClaim := { program := "ytoiclgeeaednnafdoor", sum := "04fd59ace8318beeb75d8cc8da630dc8d5bb0912b9aa5121e6e826cb341f1c1b", func := "loop.example/g00456/laws.FnExactReadDelta", spec := "fnExactReadDelta", unfollowed := true, recurses := true, named := ["loop.example/g00456/impl.errNoForm"], ifaces := true, apart := false, laid := [("loop.example/g00456/impl.errNoForm", laid_loop_example_g00456_impl_errNoForm)], narrowed := true }
def FnExactReadDeltaUptoSaid : Prop := fnExactReadDeltaUptoRow.holds Tryd.pinned (OpenSpec.upto fnExactReadDeltaSpec)

end Rows
end Go.Proofs.YtoiclgeeaednnafDoor
