/-
  NARROWER THAN 'FOR EVERY INPUT', by the rows' own cells (each row's printed sentence says how): FnExactDecodeUpdate: ifaces, laid · FnExactJournalOf: ifaces, laid · FnExactReplayPlan: ifaces, laid.
  DERIVED. THE GIVEN ROWS OF THIS SEAT. 3 by the template 'for every input the law returns true; each argument reads behind the call as it read before'; 0 by the template 'total and deterministic' (their statements: YtboolfckaagfoaaDoorTotals.lean).
  GIVEN WITH THE SEED: the statements are not yours to turn. If you find one false, say at which input.
  Laid BY PROGRAM, IN A SANDBOX (cutbox-rows.mjs): the forced cells as the released guide's own fill.sh prints them over the translation d8282e3cb2df1d16… (all of the seat's roots in one cut). By AI agents, Wed Nov 11 2026. No macro, syntax, notation, axiom, sorry.
-/
import Derived.Test.YtboolfckaagfoaaDoorChecked
import GoSem.Claim
import GoSem.ClaimJoined
import GoSem.ClaimMapViews
import Derived.JoinedTies
import Derived.KernelRfl
namespace Go.Proofs.YtboolfckaagfoaaDoor
/- THE CELL 'sum', in the pinned program and in every row, IS THE sha256 OF THE DUMP (.gsa) THAT YtboolfckaagfoaaDoorProg.lean LOADS. Nothing in Lean hashes anything: it is a label: what it is worth is what the hold of that sum in a sandbox is worth. -/
noncomputable def Tryd.pinned : Pinned := { name := "ytboolfckaagfoaadoor", sum := "d8282e3cb2df1d1636653997cc73571e9b1c860cd78030a49c58927a2005f28e", checked := Tryd.checked }
namespace Rows
def none {H : Type} : Left H := { results := [], args := [] }

/- WHAT THE LISTED PACKAGE-LEVEL VARIABLES READ AS WHEN THE CALL BEGINS. Each datum BY PROGRAM (the guide's laid-datum.mjs) off the statement by which the dump's own 'gosem.cut.vars' lays the variable. In a bare row this is a premise. The card (YtboolfckaagfoaaDoorCards.lean) ties it to the program's text. -/
def laid_loop_example_g00456_impl_errNoForm {H : Type} : DataW H := .iface "*errors.errorString" (.ptr (.agg [.lit (.string [110, 111, 32, 115, 117, 99, 104, 32, 102, 111, 114, 109])]))

/-- 'laws.FnExactDecodeUpdate': WHATEVER THE INPUT: true; the input reads as it did. -/
def fnExactDecodeUpdateSpec : ChangeSpec := { name := "fnExactDecodeUpdate", vars := ["loop.example/g00456/impl.errNoForm"], fn := fun _ => fun
  | [d, g1] => { results := [.lit (.bool true)], args := [d], vars := [g1] }
  | _ => none }
def fnExactDecodeUpdateRow : OpenClaim := { program := "ytboolfckaagfoaadoor", sum := "d8282e3cb2df1d1636653997cc73571e9b1c860cd78030a49c58927a2005f28e", func := "loop.example/g00456/laws.FnExactDecodeUpdate", spec := "fnExactDecodeUpdate", unfollowed := true, recurses := true, named := ["loop.example/g00456/impl.errNoForm"], ifaces := true, apart := false, laid := [("loop.example/g00456/impl.errNoForm", laid_loop_example_g00456_impl_errNoForm)] }
def FnExactDecodeUpdateSaid : Prop := fnExactDecodeUpdateRow.holds Tryd.pinned (OpenSpec.ofChange fnExactDecodeUpdateSpec)

/-- ITS FALSE NEIGHBOUR: 'it returns false'. Refute it at one input. -/
def fnExactDecodeUpdateWrong : ChangeSpec := { name := "fnExactDecodeUpdate", vars := ["loop.example/g00456/impl.errNoForm"], fn := fun _ => fun
  | [d, g1] => { results := [.lit (.bool false)], args := [d], vars := [g1] }
  | _ => none }
def FnExactDecodeUpdateWrongFalsely : Prop := fnExactDecodeUpdateRow.holds Tryd.pinned (OpenSpec.ofChange fnExactDecodeUpdateWrong)

/-- 'laws.FnExactJournalOf': WHATEVER THE INPUT: true; the input reads as it did. -/
def fnExactJournalOfSpec : ChangeSpec := { name := "fnExactJournalOf", vars := ["loop.example/g00456/impl.errNoForm"], fn := fun _ => fun
  | [d1, d2, d3, g1] => { results := [.lit (.bool true)], args := [d1, d2, d3], vars := [g1] }
  | _ => none }
def fnExactJournalOfRow : OpenClaim := { program := "ytboolfckaagfoaadoor", sum := "d8282e3cb2df1d1636653997cc73571e9b1c860cd78030a49c58927a2005f28e", func := "loop.example/g00456/laws.FnExactJournalOf", spec := "fnExactJournalOf", unfollowed := true, recurses := true, named := ["loop.example/g00456/impl.errNoForm"], ifaces := true, apart := false, laid := [("loop.example/g00456/impl.errNoForm", laid_loop_example_g00456_impl_errNoForm)] }
def FnExactJournalOfSaid : Prop := fnExactJournalOfRow.holds Tryd.pinned (OpenSpec.ofChange fnExactJournalOfSpec)

/-- ITS FALSE NEIGHBOUR: 'it returns false'. Refute it at one input. -/
def fnExactJournalOfWrong : ChangeSpec := { name := "fnExactJournalOf", vars := ["loop.example/g00456/impl.errNoForm"], fn := fun _ => fun
  | [d1, d2, d3, g1] => { results := [.lit (.bool false)], args := [d1, d2, d3], vars := [g1] }
  | _ => none }
def FnExactJournalOfWrongFalsely : Prop := fnExactJournalOfRow.holds Tryd.pinned (OpenSpec.ofChange fnExactJournalOfWrong)

/-- 'laws.FnExactReplayPlan': WHATEVER THE INPUT: true; the input reads as it did. -/
def fnExactReplayPlanSpec : ChangeSpec := { name := "fnExactReplayPlan", vars := ["loop.example/g00456/impl.errNoForm"], fn := fun _ => fun
  | [d1, d2, d3, g1] => { results := [.lit (.bool true)], args := [d1, d2, d3], vars := [g1] }
  | _ => none }
def fnExactReplayPlanRow : OpenClaim := { program := "ytboolfckaagfoaadoor", sum := "d8282e3cb2df1d1636653997cc73571e9b1c860cd78030a49c58927a2005f28e", func := "loop.example/g00456/laws.FnExactReplayPlan", spec := "fnExactReplayPlan", unfollowed := true, recurses := true, named := ["loop.example/g00456/impl.errNoForm"], ifaces := true, apart := false, laid := [("loop.example/g00456/impl.errNoForm", laid_loop_example_g00456_impl_errNoForm)] }
def FnExactReplayPlanSaid : Prop := fnExactReplayPlanRow.holds Tryd.pinned (OpenSpec.ofChange fnExactReplayPlanSpec)

/-- ITS FALSE NEIGHBOUR: 'it returns false'. Refute it at one input. -/
def fnExactReplayPlanWrong : ChangeSpec := { name := "fnExactReplayPlan", vars := ["loop.example/g00456/impl.errNoForm"], fn := fun _ => fun
  | [d1, d2, d3, g1] => { results := [.lit (.bool false)], args := [d1, d2, d3], vars := [g1] }
  | _ => none }
def FnExactReplayPlanWrongFalsely : Prop := fnExactReplayPlanRow.holds Tryd.pinned (OpenSpec.ofChange fnExactReplayPlanWrong)

/- THE SECOND FORM. 'bulk': how many values and letters a reading holds, each counted each time it is reached (what is shared counts as often as it is met; a slice's spare places count too). A statement '..UptoSaid' is the law's where the arguments, and the package variables that the reading takes, are together of bulk at most 1048576: NARROWER than '..Said'. Prove '..Said' where nothing that the law and all that it calls make is longer than what came in: it says more and counts as full. Else prove '..UptoSaid'. A law counts once. -/
mutual
def uptoBulk {H : Type} : DataW H → Nat
  | .lit (.string bytes) => bytes.length + 1
  | .lit _ => 1
  | .nil => 1
  | .ptr d => uptoBulk d + 1
  | .slice elems spare => uptoBulkAll elems + uptoBulkAll spare + 1
  | .agg parts => uptoBulkAll parts + 1
  | .iface _ d => uptoBulk d + 1
  | .map entries => uptoBulkEntries entries + 1
  | .held _ => 1
def uptoBulkAll {H : Type} : List (DataW H) → Nat
  | [] => 0
  | d :: r => uptoBulk d + uptoBulkAll r
def uptoBulkEntries {H : Type} : List (Lit × DataW H) → Nat
  | [] => 0
  | x :: r => uptoBulkEntry x + uptoBulkEntries r
def uptoBulkEntry {H : Type} : Lit × DataW H → Nat
  | (.string bytes, d) => bytes.length + uptoBulk d + 1
  | (_, d) => uptoBulk d + 1
 end
def uptoSmall : (H : Type) → List (DataW H) → Bool := fun _ ds => decide (uptoBulkAll ds ≤ 1048576)
def OpenSpec.upto (s : _root_.Go.ChangeSpec) : _root_.Go.OpenSpec := { _root_.Go.OpenSpec.ofChange s with cond := some uptoSmall }

/-- 'laws.FnExactDecodeUpdate', WHERE WHAT IT READS IS OF BULK AT MOST 1048576: true; the input reads as it did. -/
def fnExactDecodeUpdateUptoRow : OpenClaim := { program := "ytboolfckaagfoaadoor", sum := "d8282e3cb2df1d1636653997cc73571e9b1c860cd78030a49c58927a2005f28e", func := "loop.example/g00456/laws.FnExactDecodeUpdate", spec := "fnExactDecodeUpdate", unfollowed := true, recurses := true, named := ["loop.example/g00456/impl.errNoForm"], ifaces := true, apart := false, laid := [("loop.example/g00456/impl.errNoForm", laid_loop_example_g00456_impl_errNoForm)], narrowed := true }
def FnExactDecodeUpdateUptoSaid : Prop := fnExactDecodeUpdateUptoRow.holds Tryd.pinned (OpenSpec.upto fnExactDecodeUpdateSpec)

/-- 'laws.FnExactJournalOf', WHERE WHAT IT READS IS OF BULK AT MOST 1048576: true; the input reads as it did. -/
def fnExactJournalOfUptoRow : OpenClaim := { program := "ytboolfckaagfoaadoor", sum := "d8282e3cb2df1d1636653997cc73571e9b1c860cd78030a49c58927a2005f28e", func := "loop.example/g00456/laws.FnExactJournalOf", spec := "fnExactJournalOf", unfollowed := true, recurses := true, named := ["loop.example/g00456/impl.errNoForm"], ifaces := true, apart := false, laid := [("loop.example/g00456/impl.errNoForm", laid_loop_example_g00456_impl_errNoForm)], narrowed := true }
def FnExactJournalOfUptoSaid : Prop := fnExactJournalOfUptoRow.holds Tryd.pinned (OpenSpec.upto fnExactJournalOfSpec)

/-- 'laws.FnExactReplayPlan', WHERE WHAT IT READS IS OF BULK AT MOST 1048576: true; the input reads as it did. -/
def fnExactReplayPlanUptoRow : OpenClaim := { program := "ytboolfckaagfoaadoor", sum := "d8282e3cb2df1d1636653997cc73571e9b1c860cd78030a49c58927a2005f28e", func := "loop.example/g00456/laws.FnExactReplayPlan", spec := "fnExactReplayPlan", unfollowed := true, recurses := true, named := ["loop.example/g00456/impl.errNoForm"], ifaces := true, apart := false, laid := [("loop.example/g00456/impl.errNoForm", laid_loop_example_g00456_impl_errNoForm)], narrowed := true }
def FnExactReplayPlanUptoSaid : Prop := fnExactReplayPlanUptoRow.holds Tryd.pinned (OpenSpec.upto fnExactReplayPlanSpec)

end Rows
end Go.Proofs.YtboolfckaagfoaaDoor
