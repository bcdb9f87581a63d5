/-
  NARROWER THAN 'FOR EVERY INPUT', by the rows' own cells (each row's printed sentence says how): FnExactReplayPlan: ifaces, laid · FnJournal: ifaces, laid · FnRefs: ifaces, laid.
  DERIVED. THE GIVEN ROWS OF THIS SEAT. 3 by the template 'for every input the law returns true; each argument reads behind the call as it read before'; 0 by the template 'total and deterministic' (their statements: YtefnapcegeojoabDoorTotals.lean).
  GIVEN WITH THE SEED: the statements are not yours to turn. If you find one false, say at which input.
  Laid BY PROGRAM, IN A SANDBOX (cutbox-rows.mjs): the forced cells as the released guide's own fill.sh prints them over the translation 322c38646e405870… (all of the seat's roots in one cut). By AI agents, Wed Nov 11 2026. No macro, syntax, notation, axiom, sorry.
-/
import Derived.Test.YtefnapcegeojoabDoorChecked
import GoSem.Claim
import GoSem.ClaimJoined
import GoSem.ClaimMapViews
import Derived.JoinedTies
import Derived.KernelRfl
namespace Go.Proofs.YtefnapcegeojoabDoor
/- THE CELL 'sum', in the pinned program and in every row, IS THE sha256 OF THE DUMP (.gsa) THAT YtefnapcegeojoabDoorProg.lean LOADS. Nothing in Lean hashes anything: it is a label: what it is worth is what the hold of that sum in a sandbox is worth. -/
noncomputable def Tryd.pinned : Pinned := { name := "ytefnapcegeojoabdoor", sum := "322c38646e405870ac471eecdc67a897fce7ca246d83cf98dca9d0b5966467be", checked := Tryd.checked }
namespace Rows
def none {H : Type} : Left H := { results := [], args := [] }

/- WHAT THE LISTED PACKAGE-LEVEL VARIABLES READ AS WHEN THE CALL BEGINS. Each datum BY PROGRAM (the guide's laid-datum.mjs) off the statement by which the dump's own 'gosem.cut.vars' lays the variable. In a bare row this is a premise. The card (YtefnapcegeojoabDoorCards.lean) ties it to the program's text. -/
def laid_loop_example_g00456_impl_errNoForm {H : Type} : DataW H := .iface "*errors.errorString" (.ptr (.agg [.lit (.string [110, 111, 32, 115, 117, 99, 104, 32, 102, 111, 114, 109])]))
def laid_loop_example_g00456_impl_errBelowZero {H : Type} : DataW H := .iface "*errors.errorString" (.ptr (.agg [.lit (.string [97, 32, 99, 111, 117, 110, 116, 32, 98, 101, 108, 111, 119, 32, 48])]))

/-- 'laws.FnExactReplayPlan': WHATEVER THE INPUT: true; the input reads as it did. -/
def fnExactReplayPlanSpec : ChangeSpec := { name := "fnExactReplayPlan", vars := ["loop.example/g00456/impl.errNoForm"], fn := fun _ => fun
  | [d1, d2, d3, g1] => { results := [.lit (.bool true)], args := [d1, d2, d3], vars := [g1] }
  | _ => none }
def fnExactReplayPlanRow : OpenClaim := { program := "ytefnapcegeojoabdoor", sum := "322c38646e405870ac471eecdc67a897fce7ca246d83cf98dca9d0b5966467be", func := "loop.example/g00456/laws.FnExactReplayPlan", spec := "fnExactReplayPlan", unfollowed := true, recurses := true, named := ["loop.example/g00456/impl.errNoForm"], ifaces := true, apart := false, laid := [("loop.example/g00456/impl.errNoForm", laid_loop_example_g00456_impl_errNoForm)] }
def FnExactReplayPlanSaid : Prop := fnExactReplayPlanRow.holds Tryd.pinned (OpenSpec.ofChange fnExactReplayPlanSpec)

/-- ITS FALSE NEIGHBOUR: 'it returns false'. Refute it at one input. -/
def fnExactReplayPlanWrong : ChangeSpec := { name := "fnExactReplayPlan", vars := ["loop.example/g00456/impl.errNoForm"], fn := fun _ => fun
  | [d1, d2, d3, g1] => { results := [.lit (.bool false)], args := [d1, d2, d3], vars := [g1] }
  | _ => none }
def FnExactReplayPlanWrongFalsely : Prop := fnExactReplayPlanRow.holds Tryd.pinned (OpenSpec.ofChange fnExactReplayPlanWrong)

/-- 'laws.FnJournal': WHATEVER THE INPUT: true; the input reads as it did. -/
def fnJournalSpec : ChangeSpec := { name := "fnJournal", vars := ["loop.example/g00456/impl.errNoForm"], fn := fun _ => fun
  | [d1, d2, g1] => { results := [.lit (.bool true)], args := [d1, d2], vars := [g1] }
  | _ => none }
def fnJournalRow : OpenClaim := { program := "ytefnapcegeojoabdoor", sum := "322c38646e405870ac471eecdc67a897fce7ca246d83cf98dca9d0b5966467be", func := "loop.example/g00456/laws.FnJournal", spec := "fnJournal", unfollowed := true, recurses := true, named := ["loop.example/g00456/impl.errNoForm"], ifaces := true, apart := false, laid := [("loop.example/g00456/impl.errNoForm", laid_loop_example_g00456_impl_errNoForm)] }
def FnJournalSaid : Prop := fnJournalRow.holds Tryd.pinned (OpenSpec.ofChange fnJournalSpec)

/-- ITS FALSE NEIGHBOUR: 'it returns false'. Refute it at one input. -/
def fnJournalWrong : ChangeSpec := { name := "fnJournal", vars := ["loop.example/g00456/impl.errNoForm"], fn := fun _ => fun
  | [d1, d2, g1] => { results := [.lit (.bool false)], args := [d1, d2], vars := [g1] }
  | _ => none }
def FnJournalWrongFalsely : Prop := fnJournalRow.holds Tryd.pinned (OpenSpec.ofChange fnJournalWrong)

/-- 'laws.FnRefs': WHATEVER THE INPUT: true; the input reads as it did. -/
def fnRefsSpec : ChangeSpec := { name := "fnRefs", vars := ["loop.example/g00456/impl.errNoForm", "loop.example/g00456/impl.errBelowZero"], fn := fun _ => fun
  | [d1, d2, g1, g2] => { results := [.lit (.bool true)], args := [d1, d2], vars := [g1, g2] }
  | _ => none }
def fnRefsRow : OpenClaim := { program := "ytefnapcegeojoabdoor", sum := "322c38646e405870ac471eecdc67a897fce7ca246d83cf98dca9d0b5966467be", func := "loop.example/g00456/laws.FnRefs", spec := "fnRefs", unfollowed := true, recurses := true, named := ["loop.example/g00456/impl.errNoForm", "loop.example/g00456/impl.errBelowZero"], ifaces := true, apart := false, laid := [("loop.example/g00456/impl.errNoForm", laid_loop_example_g00456_impl_errNoForm), ("loop.example/g00456/impl.errBelowZero", laid_loop_example_g00456_impl_errBelowZero)] }
def FnRefsSaid : Prop := fnRefsRow.holds Tryd.pinned (OpenSpec.ofChange fnRefsSpec)

/-- ITS FALSE NEIGHBOUR: 'it returns false'. Refute it at one input. -/
def fnRefsWrong : ChangeSpec := { name := "fnRefs", vars := ["loop.example/g00456/impl.errNoForm", "loop.example/g00456/impl.errBelowZero"], fn := fun _ => fun
  | [d1, d2, g1, g2] => { results := [.lit (.bool false)], args := [d1, d2], vars := [g1, g2] }
  | _ => none }
def FnRefsWrongFalsely : Prop := fnRefsRow.holds Tryd.pinned (OpenSpec.ofChange fnRefsWrong)

/- THE SECOND FORM. 'bulk': how many values and letters a reading holds, each counted each time it is reached (what is shared counts as often as it is met; a slice's spare places count too). A statement '..UptoSaid' is the law's where the arguments, and the package variables that the reading takes, are together of bulk at most 1048576: NARROWER than '..Said'. Prove '..Said' where nothing that the law and all that it calls make is longer than what came in: it says more and counts as full. Else prove '..UptoSaid'. A law counts once. -/
mutual
def uptoBulk {H : Type} : DataW H → Nat
  | .lit (.string bytes) => bytes.length + 1
  | .lit _ => 1
  | .nil => 1
  | .ptr d => uptoBulk d + 1
  | .slice elems spare => uptoBulkAll elems + uptoBulkAll spare + 1
  | .agg parts => uptoBulkAll parts + 1
  | .iface _ d => uptoBulk d + 1
  | .map entries => uptoBulkEntries entries + 1
  | .held _ => 1
def uptoBulkAll {H : Type} : List (DataW H) → Nat
  | [] => 0
  | d :: r => uptoBulk d + uptoBulkAll r
def uptoBulkEntries {H : Type} : List (Lit × DataW H) → Nat
  | [] => 0
  | x :: r => uptoBulkEntry x + uptoBulkEntries r
def uptoBulkEntry {H : Type} : Lit × DataW H → Nat
  | (.string bytes, d) => bytes.length + uptoBulk d + 1
  | (_, d) => uptoBulk d + 1
 end
def uptoSmall : (H : Type) → List (DataW H) → Bool := fun _ ds => decide (uptoBulkAll ds ≤ 1048576)
def OpenSpec.upto (s : _root_.Go.ChangeSpec) : _root_.Go.OpenSpec := { _root_.Go.OpenSpec.ofChange s with cond := some uptoSmall }

/-- 'laws.FnExactReplayPlan', WHERE WHAT IT READS IS OF BULK AT MOST 1048576: true; the input reads as it did. -/
def fnExactReplayPlanUptoRow : OpenClaim := { program := "ytefnapcegeojoabdoor", sum := "322c38646e405870ac471eecdc67a897fce7ca246d83cf98dca9d0b5966467be", func := "loop.example/g00456/laws.FnExactReplayPlan", spec := "fnExactReplayPlan", unfollowed := true, recurses := true, named := ["loop.example/g00456/impl.errNoForm"], ifaces := true, apart := false, laid := [("loop.example/g00456/impl.errNoForm", laid_loop_example_g00456_impl_errNoForm)], narrowed := true }
def FnExactReplayPlanUptoSaid : Prop := fnExactReplayPlanUptoRow.holds Tryd.pinned (OpenSpec.upto fnExactReplayPlanSpec)

/-- 'laws.FnJournal', WHERE WHAT IT READS IS OF BULK AT MOST 1048576: true; the input reads as it did. -/
def fnJournalUptoRow : OpenClaim := { program := "ytefnapcegeojoabdoor", sum := "322c38646e405870ac471eecdc67a897fce7ca246d83cf98dca9d0b5966467be", func := "loop.example/g00456/laws.FnJournal", spec := "fnJournal", unfollowed := true, recurses := true, named := ["loop.example/g00456/impl.errNoForm"], ifaces := true, apart := false, laid := [("loop.example/g00456/impl.errNoForm", laid_loop_example_g00456_impl_errNoForm)], narrowed := true }
def FnJournalUptoSaid : Prop := fnJournalUptoRow.holds Tryd.pinned (OpenSpec.upto fnJournalSpec)

/-- 'laws.FnRefs', WHERE WHAT IT READS IS OF BULK AT MOST 1048576: true; the input reads as it did. -/
def fnRefsUptoRow : OpenClaim := { program := "ytefnapcegeojoabdoor", sum := "322c38646e405870ac471eecdc67a897fce7ca246d83cf98dca9d0b5966467be", func := "loop.example/g00456/laws.FnRefs", spec := "fnRefs", unfollowed := true, recurses := true, named := ["loop.example/g00456/impl.errNoForm", "loop.example/g00456/impl.errBelowZero"], ifaces := true, apart := false, laid := [("loop.example/g00456/impl.errNoForm", laid_loop_example_g00456_impl_errNoForm), ("loop.example/g00456/impl.errBelowZero", laid_loop_example_g00456_impl_errBelowZero)], narrowed := true }
def FnRefsUptoSaid : Prop := fnRefsUptoRow.holds Tryd.pinned (OpenSpec.upto fnRefsSpec)

end Rows
end Go.Proofs.YtefnapcegeojoabDoor
