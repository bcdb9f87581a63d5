/-
  NARROWER THAN 'FOR EVERY INPUT', by the rows' own cells (each row's printed sentence says how): FnExactUnpackInts: ifaces, laid · FnExactOpenRecord: ifaces, laid · FnExactKindOf: ifaces, laid.
  DERIVED. THE GIVEN ROWS OF THIS SEAT. 3 by the template 'for every input the law returns true; each argument reads behind the call as it read before'; 0 by the template 'total and deterministic' (their statements: YtoiclgeeaednnadDoorTotals.lean).
  GIVEN WITH THE SEED: the statements are not yours to turn. If you find one false, say at which input.
  Laid BY PROGRAM, IN A SANDBOX (cutbox-rows.mjs): the forced cells as the released guide's own fill.sh prints them over the translation d757f6e1d868eae3… (all of the seat's roots in one cut). By AI agents, Wed Nov 11 2026. No macro, syntax, notation, axiom, sorry.
-/
import Derived.Test.YtoiclgeeaednnadDoorChecked
import GoSem.Claim
import GoSem.ClaimJoined
import GoSem.ClaimMapViews
import Derived.JoinedTies
import Derived.KernelRfl
namespace Go.Proofs.YtoiclgeeaednnadDoor
/- THE CELL 'sum', in the pinned program and in every row, IS THE sha256 OF THE DUMP (.gsa) THAT YtoiclgeeaednnadDoorProg.lean LOADS. Nothing in Lean hashes anything: it is a label: what it is worth is what the hold of that sum in a sandbox is worth. -/
noncomputable def Tryd.pinned : Pinned := { name := "ytoiclgeeaednnaddoor", sum := "d757f6e1d868eae318d04960fb88fc268543c9a9fe4e21728db5dc463c4595a0", checked := Tryd.checked }
namespace Rows
def none {H : Type} : Left H := { results := [], args := [] }

/- WHAT THE LISTED PACKAGE-LEVEL VARIABLES READ AS WHEN THE CALL BEGINS. Each datum BY PROGRAM (the guide's laid-datum.mjs) off the statement by which the dump's own 'gosem.cut.vars' lays the variable. In a bare row this is a premise. The card (YtoiclgeeaednnadDoorCards.lean) ties it to the program's text. -/
def laid_loop_example_g00456_impl_errNoForm {H : Type} : DataW H := .iface "*errors.errorString" (.ptr (.agg [.lit (.string [110, 111, 32, 115, 117, 99, 104, 32, 102, 111, 114, 109])]))

/-- 'laws.FnExactUnpackInts': WHATEVER THE INPUT: true; the input reads as it did. -/
def fnExactUnpackIntsSpec : ChangeSpec := { name := "fnExactUnpackInts", vars := ["loop.example/g00456/impl.errNoForm"], fn := fun _ => fun
  | [d, g1] => { results := [.lit (.bool true)], args := [d], vars := [g1] }
  | _ => none }
def fnExactUnpackIntsRow : OpenClaim := { program := "ytoiclgeeaednnaddoor", sum := "d757f6e1d868eae318d04960fb88fc268543c9a9fe4e21728db5dc463c4595a0", func := "loop.example/g00456/laws.FnExactUnpackInts", spec := "fnExactUnpackInts", unfollowed := true, recurses := true, named := ["loop.example/g00456/impl.errNoForm"], ifaces := true, apart := false, laid := [("loop.example/g00456/impl.errNoForm", laid_loop_example_g00456_impl_errNoForm)] }
def FnExactUnpackIntsSaid : Prop := fnExactUnpackIntsRow.holds Tryd.pinned (OpenSpec.ofChange fnExactUnpackIntsSpec)

/-- ITS FALSE NEIGHBOUR: 'it returns false'. Refute it at one input. -/
def fnExactUnpackIntsWrong : ChangeSpec := { name := "fnExactUnpackInts", vars := ["loop.example/g00456/impl.errNoForm"], fn := fun _ => fun
  | [d, g1] => { results := [.lit (.bool false)], args := [d], vars := [g1] }
  | _ => none }
def FnExactUnpackIntsWrongFalsely : Prop := fnExactUnpackIntsRow.holds Tryd.pinned (OpenSpec.ofChange fnExactUnpackIntsWrong)

/-- 'laws.FnExactOpenRecord': WHATEVER THE INPUT: true; the input reads as it did. -/
def fnExactOpenRecordSpec : ChangeSpec := { name := "fnExactOpenRecord", vars := ["loop.example/g00456/impl.errNoForm"], fn := fun _ => fun
  | [d1, d2, g1] => { results := [.lit (.bool true)], args := [d1, d2], vars := [g1] }
  | _ => none }
def fnExactOpenRecordRow : OpenClaim := { program := "ytoiclgeeaednnaddoor", sum := "d757f6e1d868eae318d04960fb88fc268543c9a9fe4e21728db5dc463c4595a0", func := "loop.example/g00456/laws.FnExactOpenRecord", spec := "fnExactOpenRecord", unfollowed := true, recurses := true, named := ["loop.example/g00456/impl.errNoForm"], ifaces := true, apart := false, laid := [("loop.example/g00456/impl.errNoForm", laid_loop_example_g00456_impl_errNoForm)] }
def FnExactOpenRecordSaid : Prop := fnExactOpenRecordRow.holds Tryd.pinned (OpenSpec.ofChange fnExactOpenRecordSpec)

/-- ITS FALSE NEIGHBOUR: 'it returns false'. Refute it at one input. -/
def fnExactOpenRecordWrong : ChangeSpec := { name := "fnExactOpenRecord", vars := ["loop.example/g00456/impl.errNoForm"], fn := fun _ => fun
  | [d1, d2, g1] => { results := [.lit (.bool false)], args := [d1, d2], vars := [g1] }
  | _ => none }
def FnExactOpenRecordWrongFalsely : Prop := fnExactOpenRecordRow.holds Tryd.pinned (OpenSpec.ofChange fnExactOpenRecordWrong)

/-- 'laws.FnExactKindOf': WHATEVER THE INPUT: true; the input reads as it did. -/
def fnExactKindOfSpec : ChangeSpec := { name := "fnExactKindOf", vars := ["loop.example/g00456/impl.errNoForm"], fn := fun _ => fun
  | [d, g1] => { results := [.lit (.bool true)], args := [d], vars := [g1] }
  | _ => none }
def fnExactKindOfRow : OpenClaim := { program := "ytoiclgeeaednnaddoor", sum := "d757f6e1d868eae318d04960fb88fc268543c9a9fe4e21728db5dc463c4595a0", func := "loop.example/g00456/laws.FnExactKindOf", spec := "fnExactKindOf", unfollowed := true, recurses := true, named := ["loop.example/g00456/impl.errNoForm"], ifaces := true, apart := false, laid := [("loop.example/g00456/impl.errNoForm", laid_loop_example_g00456_impl_errNoForm)] }
def FnExactKindOfSaid : Prop := fnExactKindOfRow.holds Tryd.pinned (OpenSpec.ofChange fnExactKindOfSpec)

/-- ITS FALSE NEIGHBOUR: 'it returns false'. Refute it at one input. -/
def fnExactKindOfWrong : ChangeSpec := { name := "fnExactKindOf", vars := ["loop.example/g00456/impl.errNoForm"], fn := fun _ => fun
  | [d, g1] => { results := [.lit (.bool false)], args := [d], vars := [g1] }
  | _ => none }
def FnExactKindOfWrongFalsely : Prop := fnExactKindOfRow.holds Tryd.pinned (OpenSpec.ofChange fnExactKindOfWrong)

/- THE SECOND FORM. 'bulk': how many values and letters a reading holds, each counted each time it is reached (what is shared counts as often as it is met; a slice's spare places count too). A statement '..UptoSaid' is the law's where the arguments, and the package variables that the reading takes, are together of bulk at most 1048576: NARROWER than '..Said'. Prove '..Said' where nothing that the law and all that it calls make is longer than what came in: it says more and counts as full. Else prove '..UptoSaid'. A law counts once. -/
mutual
def uptoBulk {H : Type} : DataW H → Nat
  | .lit (.string bytes) => bytes.length + 1
  | .lit _ => 1
  | .nil => 1
  | .ptr d => uptoBulk d + 1
  | .slice elems spare => uptoBulkAll elems + uptoBulkAll spare + 1
  | .agg parts => uptoBulkAll parts + 1
  | .iface _ d => uptoBulk d + 1
  | .map entries => uptoBulkEntries entries + 1
  | .held _ => 1
def uptoBulkAll {H : Type} : List (DataW H) → Nat
  | [] => 0
  | d :: r => uptoBulk d + uptoBulkAll r
def uptoBulkEntries {H : Type} : List (Lit × DataW H) → Nat
  | [] => 0
  | x :: r => uptoBulkEntry x + uptoBulkEntries r
def uptoBulkEntry {H : Type} : Lit × DataW H → Nat
  | (.string bytes, d) => bytes.length + uptoBulk d + 1
  | (_, d) => uptoBulk d + 1
 end
def uptoSmall : (H : Type) → List (DataW H) → Bool := fun _ ds => decide (uptoBulkAll ds ≤ 1048576)
def OpenSpec.upto (s : _root_.Go.ChangeSpec) : _root_.Go.OpenSpec := { _root_.Go.OpenSpec.ofChange s with cond := some uptoSmall }

/-- 'laws.FnExactUnpackInts', WHERE WHAT IT READS IS OF BULK AT MOST 1048576: true; the input reads as it did. -/
def fnExactUnpackIntsUptoRow : OpenClaim := { program := "ytoiclgeeaednnaddoor", sum := "d757f6e1d868eae318d04960fb88fc268543c9a9fe4e21728db5dc463c4595a0", func := "loop.example/g00456/laws.FnExactUnpackInts", spec := "fnExactUnpackInts", unfollowed := true, recurses := true, named := ["loop.example/g00456/impl.errNoForm"], ifaces := true, apart := false, laid := [("loop.example/g00456/impl.errNoForm", laid_loop_example_g00456_impl_errNoForm)], narrowed := true }
def FnExactUnpackIntsUptoSaid : Prop := fnExactUnpackIntsUptoRow.holds Tryd.pinned (OpenSpec.upto fnExactUnpackIntsSpec)

/-- 'laws.FnExactOpenRecord', WHERE WHAT IT READS IS OF BULK AT MOST 1048576: true; the input reads as it did. -/
def fnExactOpenRecordUptoRow : OpenClaim := { program := "ytoiclgeeaednnaddoor", sum := "d757f6e1d868eae318d04960fb88fc268543c9a9fe4e21728db5dc463c4595a0", func := "loop.example/g00456/laws.FnExactOpenRecord", spec := "fnExactOpenRecord", unfollowed := true, recurses := true, named := ["loop.example/g00456/impl.errNoForm"], ifaces := true, apart := false, laid := [("loop.example/g00456/impl.errNoForm", laid_loop_example_g00456_impl_errNoForm)], narrowed := true }
def FnExactOpenRecordUptoSaid : Prop := fnExactOpenRecordUptoRow.holds Tryd.pinned (OpenSpec.upto fnExactOpenRecordSpec)

/-- 'laws.FnExactKindOf', WHERE WHAT IT READS IS OF BULK AT MOST 1048576: true; the input reads as it did. -/
def fnExactKindOfUptoRow : OpenClaim := { program := "ytoiclgeeaednnaddoor", sum := "d757f6e1d868eae318d04960fb88fc268543c9a9fe4e21728db5dc463c4595a0", func := "loop.example/g00456/laws.FnExactKindOf", spec := "fnExactKindOf", unfollowed := true, recurses := true, named := ["loop.example/g00456/impl.errNoForm"], ifaces := true, apart := false, laid := [("loop.example/g00456/impl.errNoForm", laid_loop_example_g00456_impl_errNoForm)], narrowed := true }
def FnExactKindOfUptoSaid : Prop := fnExactKindOfUptoRow.holds Tryd.pinned (OpenSpec.upto fnExactKindOfSpec)

end Rows
end Go.Proofs.YtoiclgeeaednnadDoor
