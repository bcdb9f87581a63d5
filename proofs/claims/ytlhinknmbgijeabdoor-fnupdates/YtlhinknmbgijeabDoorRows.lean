/-
  NARROWER THAN 'FOR EVERY INPUT', by the rows' own cells (each row's printed sentence says how): FnDelta: ifaces, laid · FnBlocks: ifaces, laid · FnUpdates: ifaces, laid.
  DERIVED. THE GIVEN ROWS OF THIS SEAT. 3 by the template 'for every input the law returns true; each argument reads behind the call as it read before'; 0 by the template 'total and deterministic' (their statements: YtlhinknmbgijeabDoorTotals.lean).
  GIVEN WITH THE SEED: the statements are not yours to turn. If you find one false, say at which input.
  Laid BY PROGRAM, IN A SANDBOX (cutbox-rows.mjs): the forced cells as the released guide's own fill.sh prints them over the translation 6900867b8bea48ed… (all of the seat's roots in one cut). By AI agents, Wed Nov 11 2026. No macro, syntax, notation, axiom, sorry.
-/
import Derived.Test.YtlhinknmbgijeabDoorChecked
import GoSem.Claim
import GoSem.ClaimJoined
import GoSem.ClaimMapViews
import Derived.JoinedTies
import Derived.KernelRfl
namespace Go.Proofs.YtlhinknmbgijeabDoor
/- THE CELL 'sum', in the pinned program and in every row, IS THE sha256 OF THE DUMP (.gsa) THAT YtlhinknmbgijeabDoorProg.lean LOADS. Nothing in Lean hashes anything: it is a label: what it is worth is what the hold of that sum in a sandbox is worth. -/
noncomputable def Tryd.pinned : Pinned := { name := "ytlhinknmbgijeabdoor", sum := "6900867b8bea48ed5f04a8cd24186dfd3018f72bbcdbe9aadc809ed8b09e9bea", checked := Tryd.checked }
namespace Rows
def none {H : Type} : Left H := { results := [], args := [] }

/- WHAT THE LISTED PACKAGE-LEVEL VARIABLES READ AS WHEN THE CALL BEGINS. Each datum BY PROGRAM (the guide's laid-datum.mjs) off the statement by which the dump's own 'gosem.cut.vars' lays the variable. In a bare row this is a premise. The card (YtlhinknmbgijeabDoorCards.lean) ties it to the program's text. -/
def laid_loop_example_g00456_impl_errNoForm {H : Type} : DataW H := .iface "*errors.errorString" (.ptr (.agg [.lit (.string [110, 111, 32, 115, 117, 99, 104, 32, 102, 111, 114, 109])]))

/-- 'laws.FnDelta': WHATEVER THE INPUT: true; the input reads as it did. -/
def fnDeltaSpec : ChangeSpec := { name := "fnDelta", vars := ["loop.example/g00456/impl.errNoForm"], fn := fun _ => fun
  | [d1, d2, g1] => { results := [.lit (.bool true)], args := [d1, d2], vars := [g1] }
  | _ => none }
def fnDeltaRow : OpenClaim := { program := "ytlhinknmbgijeabdoor", sum := "6900867b8bea48ed5f04a8cd24186dfd3018f72bbcdbe9aadc809ed8b09e9bea", func := "loop.example/g00456/laws.FnDelta", spec := "fnDelta", unfollowed := true, recurses := true, named := ["loop.example/g00456/impl.errNoForm"], ifaces := true, apart := false, laid := [("loop.example/g00456/impl.errNoForm", laid_loop_example_g00456_impl_errNoForm)] }
def FnDeltaSaid : Prop := fnDeltaRow.holds Tryd.pinned (OpenSpec.ofChange fnDeltaSpec)

/-- ITS FALSE NEIGHBOUR: 'it returns false'. Refute it at one input. -/
def fnDeltaWrong : ChangeSpec := { name := "fnDelta", vars := ["loop.example/g00456/impl.errNoForm"], fn := fun _ => fun
  | [d1, d2, g1] => { results := [.lit (.bool false)], args := [d1, d2], vars := [g1] }
  | _ => none }
def FnDeltaWrongFalsely : Prop := fnDeltaRow.holds Tryd.pinned (OpenSpec.ofChange fnDeltaWrong)

/-- 'laws.FnBlocks': WHATEVER THE INPUT: true; the input reads as it did. -/
def fnBlocksSpec : ChangeSpec := { name := "fnBlocks", vars := ["loop.example/g00456/impl.errNoForm"], fn := fun _ => fun
  | [d1, d2, g1] => { results := [.lit (.bool true)], args := [d1, d2], vars := [g1] }
  | _ => none }
def fnBlocksRow : OpenClaim := { program := "ytlhinknmbgijeabdoor", sum := "6900867b8bea48ed5f04a8cd24186dfd3018f72bbcdbe9aadc809ed8b09e9bea", func := "loop.example/g00456/laws.FnBlocks", spec := "fnBlocks", unfollowed := true, recurses := true, named := ["loop.example/g00456/impl.errNoForm"], ifaces := true, apart := false, laid := [("loop.example/g00456/impl.errNoForm", laid_loop_example_g00456_impl_errNoForm)] }
def FnBlocksSaid : Prop := fnBlocksRow.holds Tryd.pinned (OpenSpec.ofChange fnBlocksSpec)

/-- ITS FALSE NEIGHBOUR: 'it returns false'. Refute it at one input. -/
def fnBlocksWrong : ChangeSpec := { name := "fnBlocks", vars := ["loop.example/g00456/impl.errNoForm"], fn := fun _ => fun
  | [d1, d2, g1] => { results := [.lit (.bool false)], args := [d1, d2], vars := [g1] }
  | _ => none }
def FnBlocksWrongFalsely : Prop := fnBlocksRow.holds Tryd.pinned (OpenSpec.ofChange fnBlocksWrong)

/-- 'laws.FnUpdates': WHATEVER THE INPUT: true; the input reads as it did. -/
def fnUpdatesSpec : ChangeSpec := { name := "fnUpdates", vars := ["loop.example/g00456/impl.errNoForm"], fn := fun _ => fun
  | [d1, d2, g1] => { results := [.lit (.bool true)], args := [d1, d2], vars := [g1] }
  | _ => none }
def fnUpdatesRow : OpenClaim := { program := "ytlhinknmbgijeabdoor", sum := "6900867b8bea48ed5f04a8cd24186dfd3018f72bbcdbe9aadc809ed8b09e9bea", func := "loop.example/g00456/laws.FnUpdates", spec := "fnUpdates", unfollowed := true, recurses := true, named := ["loop.example/g00456/impl.errNoForm"], ifaces := true, apart := false, laid := [("loop.example/g00456/impl.errNoForm", laid_loop_example_g00456_impl_errNoForm)] }
def FnUpdatesSaid : Prop := fnUpdatesRow.holds Tryd.pinned (OpenSpec.ofChange fnUpdatesSpec)

/-- ITS FALSE NEIGHBOUR: 'it returns false'. Refute it at one input. -/
def fnUpdatesWrong : ChangeSpec := { name := "fnUpdates", vars := ["loop.example/g00456/impl.errNoForm"], fn := fun _ => fun
  | [d1, d2, g1] => { results := [.lit (.bool false)], args := [d1, d2], vars := [g1] }
  | _ => none }
def FnUpdatesWrongFalsely : Prop := fnUpdatesRow.holds Tryd.pinned (OpenSpec.ofChange fnUpdatesWrong)

/- THE SECOND FORM. 'bulk': how many values and letters a reading holds, each counted each time it is reached (what is shared counts as often as it is met; a slice's spare places count too). A statement '..UptoSaid' is the law's where the arguments, and the package variables that the reading takes, are together of bulk at most 1048576: NARROWER than '..Said'. Prove '..Said' where nothing that the law and all that it calls make is longer than what came in: it says more and counts as full. Else prove '..UptoSaid'. A law counts once. -/
mutual
def uptoBulk {H : Type} : DataW H → Nat
  | .lit (.string bytes) => bytes.length + 1
  | .lit _ => 1
  | .nil => 1
  | .ptr d => uptoBulk d + 1
  | .slice elems spare => uptoBulkAll elems + uptoBulkAll spare + 1
  | .agg parts => uptoBulkAll parts + 1
  | .iface _ d => uptoBulk d + 1
  | .map entries => uptoBulkEntries entries + 1
  | .held _ => 1
def uptoBulkAll {H : Type} : List (DataW H) → Nat
  | [] => 0
  | d :: r => uptoBulk d + uptoBulkAll r
def uptoBulkEntries {H : Type} : List (Lit × DataW H) → Nat
  | [] => 0
  | x :: r => uptoBulkEntry x + uptoBulkEntries r
def uptoBulkEntry {H : Type} : Lit × DataW H → Nat
  | (.string bytes, d) => bytes.length + uptoBulk d + 1
  | (_, d) => uptoBulk d + 1
 end
def uptoSmall : (H : Type) → List (DataW H) → Bool := fun _ ds => decide (uptoBulkAll ds ≤ 1048576)
def OpenSpec.upto (s : _root_.Go.ChangeSpec) : _root_.Go.OpenSpec := { _root_.Go.OpenSpec.ofChange s with cond := some uptoSmall }

/-- 'laws.FnDelta', WHERE WHAT IT READS IS OF BULK AT MOST 1048576: true; the input reads as it did. -/
def fnDeltaUptoRow : OpenClaim := { program := "ytlhinknmbgijeabdoor", sum := "6900867b8bea48ed5f04a8cd24186dfd3018f72bbcdbe9aadc809ed8b09e9bea", func := "loop.example/g00456/laws.FnDelta", spec := "fnDelta", unfollowed := true, recurses := true, named := ["loop.example/g00456/impl.errNoForm"], ifaces := true, apart := false, laid := [("loop.example/g00456/impl.errNoForm", laid_loop_example_g00456_impl_errNoForm)], narrowed := true }
def FnDeltaUptoSaid : Prop := fnDeltaUptoRow.holds Tryd.pinned (OpenSpec.upto fnDeltaSpec)

/-- 'laws.FnBlocks', WHERE WHAT IT READS IS OF BULK AT MOST 1048576: true; the input reads as it did. -/
def fnBlocksUptoRow : OpenClaim := { program := "ytlhinknmbgijeabdoor", sum := "6900867b8bea48ed5f04a8cd24186dfd3018f72bbcdbe9aadc809ed8b09e9bea", func := "loop.example/g00456/laws.FnBlocks", spec := "fnBlocks", unfollowed := true, recurses := true, named := ["loop.example/g00456/impl.errNoForm"], ifaces := true, apart := false, laid := [("loop.example/g00456/impl.errNoForm", laid_loop_example_g00456_impl_errNoForm)], narrowed := true }
def FnBlocksUptoSaid : Prop := fnBlocksUptoRow.holds Tryd.pinned (OpenSpec.upto fnBlocksSpec)

/-- 'laws.FnUpdates', WHERE WHAT IT READS IS OF BULK AT MOST 1048576: true; the input reads as it did. -/
def fnUpdatesUptoRow : OpenClaim := { program := "ytlhinknmbgijeabdoor", sum := "6900867b8bea48ed5f04a8cd24186dfd3018f72bbcdbe9aadc809ed8b09e9bea", func := "loop.example/g00456/laws.FnUpdates", spec := "fnUpdates", unfollowed := true, recurses := true, named := ["loop.example/g00456/impl.errNoForm"], ifaces := true, apart := false, laid := [("loop.example/g00456/impl.errNoForm", laid_loop_example_g00456_impl_errNoForm)], narrowed := true }
def FnUpdatesUptoSaid : Prop := fnUpdatesUptoRow.holds Tryd.pinned (OpenSpec.upto fnUpdatesSpec)

end Rows
end Go.Proofs.YtlhinknmbgijeabDoor
