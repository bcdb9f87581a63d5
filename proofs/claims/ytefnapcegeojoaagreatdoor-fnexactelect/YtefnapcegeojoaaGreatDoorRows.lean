/-
  NARROWER THAN 'FOR EVERY INPUT', by the rows' own cells (each row's printed sentence says how): FnElect: ifaces, laid · FnRelease: ifaces, laid · FnExactElect: ifaces, laid · FnExactRelease: ifaces, laid.
  DERIVED. THE GIVEN ROWS OF THIS SEAT. 4 by the template 'for every input the law returns true; each argument reads behind the call as it read before'; 0 by the template 'total and deterministic' (their statements: YtefnapcegeojoaaGreatDoorTotals.lean).
  GIVEN WITH THE SEED: the statements are not yours to turn. If you find one false, say at which input.
  Laid BY PROGRAM, IN A SANDBOX (cutbox-rows.mjs): the forced cells as the released guide's own fill.sh prints them over the translation a20c17aeaaf6e867… (all of the seat's roots in one cut). By AI agents, Wed Nov 11 2026. No macro, syntax, notation, axiom, sorry.
-/
import Derived.Test.YtefnapcegeojoaaGreatDoorChecked
import GoSem.Claim
import GoSem.ClaimJoined
import GoSem.ClaimMapViews
import Derived.JoinedTies
import Derived.KernelRfl
namespace Go.Proofs.YtefnapcegeojoaaGreatDoor
/- THE CELL 'sum', in the pinned program and in every row, IS THE sha256 OF THE DUMP (.gsa) THAT YtefnapcegeojoaaGreatDoorProg.lean LOADS. Nothing in Lean hashes anything: it is a label: what it is worth is what the hold of that sum in a sandbox is worth. -/
noncomputable def Tryz.pinned : Pinned := { name := "ytefnapcegeojoaagreatdoor", sum := "a20c17aeaaf6e867876c7a48d040ae770eb47a30db37cb73b8790ed7dccbad5f", checked := Tryz.checked }
namespace Rows
def none {H : Type} : Left H := { results := [], args := [] }

/- WHAT THE LISTED PACKAGE-LEVEL VARIABLES READ AS WHEN THE CALL BEGINS. Each datum BY PROGRAM (the guide's laid-datum.mjs) off the statement by which the dump's own 'gosem.cut.vars' lays the variable. In a bare row this is a premise. The card (YtefnapcegeojoaaGreatDoorCards.lean) ties it to the program's text. -/
def laid_loop_example_g00456_impl_errNoForm {H : Type} : DataW H := .iface "*errors.errorString" (.ptr (.agg [.lit (.string [110, 111, 32, 115, 117, 99, 104, 32, 102, 111, 114, 109])]))

/-- 'laws.FnElect': WHATEVER THE INPUT: true; the input reads as it did. -/
def fnElectSpec : ChangeSpec := { name := "fnElect", vars := ["loop.example/g00456/impl.errNoForm"], fn := fun _ => fun
  | [d1, d2, g1] => { results := [.lit (.bool true)], args := [d1, d2], vars := [g1] }
  | _ => none }
def fnElectRow : OpenClaim := { program := "ytefnapcegeojoaagreatdoor", sum := "a20c17aeaaf6e867876c7a48d040ae770eb47a30db37cb73b8790ed7dccbad5f", func := "loop.example/g00456/laws.FnElect", spec := "fnElect", unfollowed := true, recurses := true, named := ["loop.example/g00456/impl.errNoForm"], ifaces := true, apart := false, laid := [("loop.example/g00456/impl.errNoForm", laid_loop_example_g00456_impl_errNoForm)] }
def FnElectSaid : Prop := fnElectRow.holds Tryz.pinned (OpenSpec.ofChange fnElectSpec)

/-- ITS FALSE NEIGHBOUR: 'it returns false'. Refute it at one input. -/
def fnElectWrong : ChangeSpec := { name := "fnElect", vars := ["loop.example/g00456/impl.errNoForm"], fn := fun _ => fun
  | [d1, d2, g1] => { results := [.lit (.bool false)], args := [d1, d2], vars := [g1] }
  | _ => none }
def FnElectWrongFalsely : Prop := fnElectRow.holds Tryz.pinned (OpenSpec.ofChange fnElectWrong)

/-- 'laws.FnRelease': WHATEVER THE INPUT: true; the input reads as it did. -/
def fnReleaseSpec : ChangeSpec := { name := "fnRelease", vars := ["loop.example/g00456/impl.errNoForm"], fn := fun _ => fun
  | [d1, d2, g1] => { results := [.lit (.bool true)], args := [d1, d2], vars := [g1] }
  | _ => none }
def fnReleaseRow : OpenClaim := { program := "ytefnapcegeojoaagreatdoor", sum := "a20c17aeaaf6e867876c7a48d040ae770eb47a30db37cb73b8790ed7dccbad5f", func := "loop.example/g00456/laws.FnRelease", spec := "fnRelease", unfollowed := true, recurses := true, named := ["loop.example/g00456/impl.errNoForm"], ifaces := true, apart := false, laid := [("loop.example/g00456/impl.errNoForm", laid_loop_example_g00456_impl_errNoForm)] }
def FnReleaseSaid : Prop := fnReleaseRow.holds Tryz.pinned (OpenSpec.ofChange fnReleaseSpec)

/-- ITS FALSE NEIGHBOUR: 'it returns false'. Refute it at one input. -/
def fnReleaseWrong : ChangeSpec := { name := "fnRelease", vars := ["loop.example/g00456/impl.errNoForm"], fn := fun _ => fun
  | [d1, d2, g1] => { results := [.lit (.bool false)], args := [d1, d2], vars := [g1] }
  | _ => none }
def FnReleaseWrongFalsely : Prop := fnReleaseRow.holds Tryz.pinned (OpenSpec.ofChange fnReleaseWrong)

/-- 'laws.FnExactElect': WHATEVER THE INPUT: true; the input reads as it did. -/
def fnExactElectSpec : ChangeSpec := { name := "fnExactElect", vars := ["loop.example/g00456/impl.errNoForm"], fn := fun _ => fun
  | [d1, d2, d3, d4, g1] => { results := [.lit (.bool true)], args := [d1, d2, d3, d4], vars := [g1] }
  | _ => none }
def fnExactElectRow : OpenClaim := { program := "ytefnapcegeojoaagreatdoor", sum := "a20c17aeaaf6e867876c7a48d040ae770eb47a30db37cb73b8790ed7dccbad5f", func := "loop.example/g00456/laws.FnExactElect", spec := "fnExactElect", unfollowed := true, recurses := true, named := ["loop.example/g00456/impl.errNoForm"], ifaces := true, apart := false, laid := [("loop.example/g00456/impl.errNoForm", laid_loop_example_g00456_impl_errNoForm)] }
def FnExactElectSaid : Prop := fnExactElectRow.holds Tryz.pinned (OpenSpec.ofChange fnExactElectSpec)

/-- ITS FALSE NEIGHBOUR: 'it returns false'. Refute it at one input. -/
def fnExactElectWrong : ChangeSpec := { name := "fnExactElect", vars := ["loop.example/g00456/impl.errNoForm"], fn := fun _ => fun
  | [d1, d2, d3, d4, g1] => { results := [.lit (.bool false)], args := [d1, d2, d3, d4], vars := [g1] }
  | _ => none }
def FnExactElectWrongFalsely : Prop := fnExactElectRow.holds Tryz.pinned (OpenSpec.ofChange fnExactElectWrong)

/-- 'laws.FnExactRelease': WHATEVER THE INPUT: true; the input reads as it did. -/
def fnExactReleaseSpec : ChangeSpec := { name := "fnExactRelease", vars := ["loop.example/g00456/impl.errNoForm"], fn := fun _ => fun
  | [d1, d2, d3, g1] => { results := [.lit (.bool true)], args := [d1, d2, d3], vars := [g1] }
  | _ => none }
def fnExactReleaseRow : OpenClaim := { program := "ytefnapcegeojoaagreatdoor", sum := "a20c17aeaaf6e867876c7a48d040ae770eb47a30db37cb73b8790ed7dccbad5f", func := "loop.example/g00456/laws.FnExactRelease", spec := "fnExactRelease", unfollowed := true, recurses := true, named := ["loop.example/g00456/impl.errNoForm"], ifaces := true, apart := false, laid := [("loop.example/g00456/impl.errNoForm", laid_loop_example_g00456_impl_errNoForm)] }
def FnExactReleaseSaid : Prop := fnExactReleaseRow.holds Tryz.pinned (OpenSpec.ofChange fnExactReleaseSpec)

/-- ITS FALSE NEIGHBOUR: 'it returns false'. Refute it at one input. -/
def fnExactReleaseWrong : ChangeSpec := { name := "fnExactRelease", vars := ["loop.example/g00456/impl.errNoForm"], fn := fun _ => fun
  | [d1, d2, d3, g1] => { results := [.lit (.bool false)], args := [d1, d2, d3], vars := [g1] }
  | _ => none }
def FnExactReleaseWrongFalsely : Prop := fnExactReleaseRow.holds Tryz.pinned (OpenSpec.ofChange fnExactReleaseWrong)

/- THE SECOND FORM. 'bulk': how many values and letters a reading holds, each counted each time it is reached (what is shared counts as often as it is met; a slice's spare places count too). A statement '..UptoSaid' is the law's where the arguments, and the package variables that the reading takes, are together of bulk at most 1048576: NARROWER than '..Said'. Prove '..Said' where nothing that the law and all that it calls make is longer than what came in: it says more and counts as full. Else prove '..UptoSaid'. A law counts once. -/
mutual
def uptoBulk {H : Type} : DataW H → Nat
  | .lit (.string bytes) => bytes.length + 1
  | .lit _ => 1
  | .nil => 1
  | .ptr d => uptoBulk d + 1
  | .slice elems spare => uptoBulkAll elems + uptoBulkAll spare + 1
  | .agg parts => uptoBulkAll parts + 1
  | .iface _ d => uptoBulk d + 1
  | .map entries => uptoBulkEntries entries + 1
  | .held _ => 1
def uptoBulkAll {H : Type} : List (DataW H) → Nat
  | [] => 0
  | d :: r => uptoBulk d + uptoBulkAll r
def uptoBulkEntries {H : Type} : List (Lit × DataW H) → Nat
  | [] => 0
  | x :: r => uptoBulkEntry x + uptoBulkEntries r
def uptoBulkEntry {H : Type} : Lit × DataW H → Nat
  | (.string bytes, d) => bytes.length + uptoBulk d + 1
  | (_, d) => uptoBulk d + 1
 end
def uptoSmall : (H : Type) → List (DataW H) → Bool := fun _ ds => decide (uptoBulkAll ds ≤ 1048576)
def OpenSpec.upto (s : _root_.Go.ChangeSpec) : _root_.Go.OpenSpec := { _root_.Go.OpenSpec.ofChange s with cond := some uptoSmall }

/-- 'laws.FnElect', WHERE WHAT IT READS IS OF BULK AT MOST 1048576: true; the input reads as it did. -/
def fnElectUptoRow : OpenClaim := { program := "ytefnapcegeojoaagreatdoor", sum := "a20c17aeaaf6e867876c7a48d040ae770eb47a30db37cb73b8790ed7dccbad5f", func := "loop.example/g00456/laws.FnElect", spec := "fnElect", unfollowed := true, recurses := true, named := ["loop.example/g00456/impl.errNoForm"], ifaces := true, apart := false, laid := [("loop.example/g00456/impl.errNoForm", laid_loop_example_g00456_impl_errNoForm)], narrowed := true }
def FnElectUptoSaid : Prop := fnElectUptoRow.holds Tryz.pinned (OpenSpec.upto fnElectSpec)

/-- 'laws.FnRelease', WHERE WHAT IT READS IS OF BULK AT MOST 1048576: true; the input reads as it did. -/
def fnReleaseUptoRow : OpenClaim := { program := "ytefnapcegeojoaagreatdoor", sum := "a20c17aeaaf6e867876c7a48d040ae770eb47a30db37cb73b8790ed7dccbad5f", func := "loop.example/g00456/laws.FnRelease", spec := "fnRelease", unfollowed := true, recurses := true, named := ["loop.example/g00456/impl.errNoForm"], ifaces := true, apart := false, laid := [("loop.example/g00456/impl.errNoForm", laid_loop_example_g00456_impl_errNoForm)], narrowed := true }
def FnReleaseUptoSaid : Prop := fnReleaseUptoRow.holds Tryz.pinned (OpenSpec.upto fnReleaseSpec)

/-- 'laws.FnExactElect', WHERE WHAT IT READS IS OF BULK AT MOST 1048576: true; the input reads as it did. -/
def fnExactElectUptoRow : OpenClaim := { program := "ytefnapcegeojoaagreatdoor", sum := "a20c17aeaaf6e867876c7a48d040ae770eb47a30db37cb73b8790ed7dccbad5f", func := "loop.example/g00456/laws.FnExactElect", spec := "fnExactElect", unfollowed := true, recurses := true, named := ["loop.example/g00456/impl.errNoForm"], ifaces := true, apart := false, laid := [("loop.example/g00456/impl.errNoForm", laid_loop_example_g00456_impl_errNoForm)], narrowed := true }
def FnExactElectUptoSaid : Prop := fnExactElectUptoRow.holds Tryz.pinned (OpenSpec.upto fnExactElectSpec)

/-- 'laws.FnExactRelease', WHERE WHAT IT READS IS OF BULK AT MOST 1048576: true; the input reads as it did. -/
def fnExactReleaseUptoRow : OpenClaim := { program := "ytefnapcegeojoaagreatdoor", sum := "a20c17aeaaf6e867876c7a48d040ae770eb47a30db37cb73b8790ed7dccbad5f", func := "loop.example/g00456/laws.FnExactRelease", spec := "fnExactRelease", unfollowed := true, recurses := true, named := ["loop.example/g00456/impl.errNoForm"], ifaces := true, apart := false, laid := [("loop.example/g00456/impl.errNoForm", laid_loop_example_g00456_impl_errNoForm)], narrowed := true }
def FnExactReleaseUptoSaid : Prop := fnExactReleaseUptoRow.holds Tryz.pinned (OpenSpec.upto fnExactReleaseSpec)

end Rows
end Go.Proofs.YtefnapcegeojoaaGreatDoor
