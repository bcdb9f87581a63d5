/-
  No cell of these rows narrows 'for every input' (looked for: loops, veiled, ifaces, maps, wideKeys, modest, calm, conditions, laid).
  DERIVED. THE GIVEN ROWS OF THIS SEAT. 3 by the template 'for every input the law returns true; each argument reads behind the call as it read before'; 0 by the template 'total and deterministic' (their statements: YtlhinknmbgijeabTotals.lean).
  GIVEN WITH THE SEED: the statements are not yours to turn. If you find one false, say at which input.
  Laid BY PROGRAM, IN A SANDBOX (cutbox-rows.mjs): the forced cells as the released guide's own fill.sh prints them over the translation f67b3c7dd8e4e583… (all of the seat's roots in one cut). By AI agents, Wed Nov 11 2026. No macro, syntax, notation, axiom, sorry.
-/
import Derived.Test.YtlhinknmbgijeabChecked
import GoSem.Claim
import GoSem.ClaimJoined
import GoSem.ClaimMapViews
import Derived.JoinedTies
import Derived.KernelRfl
namespace Go.Proofs.Ytlhinknmbgijeab
/- THE CELL 'sum', in the pinned program and in every row, IS THE sha256 OF THE DUMP (.gsa) THAT YtlhinknmbgijeabProg.lean LOADS. Nothing in Lean hashes anything: it is a label: what it is worth is what the hold of that sum in a sandbox is worth. -/
noncomputable def Try.pinned : Pinned := { name := "ytlhinknmbgijeab", sum := "f67b3c7dd8e4e583ff0dbe4f4c57bbb59898a335c936a42dee819cfd62818155", checked := Try.checked }
namespace Rows
def none {H : Type} : Left H := { results := [], args := [] }

/-- 'laws.FnExactEncodeBlock': WHATEVER THE INPUT: true; the input reads as it did. -/
def fnExactEncodeBlockSpec : ChangeSpec := { name := "fnExactEncodeBlock", fn := fun _ => fun
  | [d] => { results := [.lit (.bool true)], args := [d] }
  | _ => none }
def fnExactEncodeBlockRow : OpenClaim := { program := "ytlhinknmbgijeab", sum := "f67b3c7dd8e4e583ff0dbe4f4c57bbb59898a335c936a42dee819cfd62818155", func := "loop.example/g00456/laws.FnExactEncodeBlock", spec := "fnExactEncodeBlock", apart := false }
def FnExactEncodeBlockSaid : Prop := fnExactEncodeBlockRow.holds Try.pinned (OpenSpec.ofChange fnExactEncodeBlockSpec)

/-- ITS FALSE NEIGHBOUR: 'it returns false'. Refute it at one input. -/
def fnExactEncodeBlockWrong : ChangeSpec := { name := "fnExactEncodeBlock", fn := fun _ => fun
  | [d] => { results := [.lit (.bool false)], args := [d] }
  | _ => none }
def FnExactEncodeBlockWrongFalsely : Prop := fnExactEncodeBlockRow.holds Try.pinned (OpenSpec.ofChange fnExactEncodeBlockWrong)

/-- 'laws.FnExactEncodeLeader': WHATEVER THE INPUT: true; the input reads as it did. -/
def fnExactEncodeLeaderSpec : ChangeSpec := { name := "fnExactEncodeLeader", fn := fun _ => fun
  | [d] => { results := [.lit (.bool true)], args := [d] }
  | _ => none }
def fnExactEncodeLeaderRow : OpenClaim := { program := "ytlhinknmbgijeab", sum := "f67b3c7dd8e4e583ff0dbe4f4c57bbb59898a335c936a42dee819cfd62818155", func := "loop.example/g00456/laws.FnExactEncodeLeader", spec := "fnExactEncodeLeader", apart := false }
def FnExactEncodeLeaderSaid : Prop := fnExactEncodeLeaderRow.holds Try.pinned (OpenSpec.ofChange fnExactEncodeLeaderSpec)

/-- ITS FALSE NEIGHBOUR: 'it returns false'. Refute it at one input. -/
def fnExactEncodeLeaderWrong : ChangeSpec := { name := "fnExactEncodeLeader", fn := fun _ => fun
  | [d] => { results := [.lit (.bool false)], args := [d] }
  | _ => none }
def FnExactEncodeLeaderWrongFalsely : Prop := fnExactEncodeLeaderRow.holds Try.pinned (OpenSpec.ofChange fnExactEncodeLeaderWrong)

/-- 'laws.FnExactEncodeUpdate': WHATEVER THE INPUT: true; the input reads as it did. -/
def fnExactEncodeUpdateSpec : ChangeSpec := { name := "fnExactEncodeUpdate", fn := fun _ => fun
  | [d] => { results := [.lit (.bool true)], args := [d] }
  | _ => none }
def fnExactEncodeUpdateRow : OpenClaim := { program := "ytlhinknmbgijeab", sum := "f67b3c7dd8e4e583ff0dbe4f4c57bbb59898a335c936a42dee819cfd62818155", func := "loop.example/g00456/laws.FnExactEncodeUpdate", spec := "fnExactEncodeUpdate", apart := false }
def FnExactEncodeUpdateSaid : Prop := fnExactEncodeUpdateRow.holds Try.pinned (OpenSpec.ofChange fnExactEncodeUpdateSpec)

/-- ITS FALSE NEIGHBOUR: 'it returns false'. Refute it at one input. -/
def fnExactEncodeUpdateWrong : ChangeSpec := { name := "fnExactEncodeUpdate", fn := fun _ => fun
  | [d] => { results := [.lit (.bool false)], args := [d] }
  | _ => none }
def FnExactEncodeUpdateWrongFalsely : Prop := fnExactEncodeUpdateRow.holds Try.pinned (OpenSpec.ofChange fnExactEncodeUpdateWrong)

/- THE SECOND FORM. 'bulk': how many values and letters a reading holds, each counted each time it is reached (what is shared counts as often as it is met; a slice's spare places count too). A statement '..UptoSaid' is the law's where the arguments, and the package variables that the reading takes, are together of bulk at most 1048576: NARROWER than '..Said'. Prove '..Said' where nothing that the law and all that it calls make is longer than what came in: it says more and counts as full. Else prove '..UptoSaid'. A law counts once. -/
mutual
def uptoBulk {H : Type} : DataW H → Nat
  | .lit (.string bytes) => bytes.length + 1
  | .lit _ => 1
  | .nil => 1
  | .ptr d => uptoBulk d + 1
  | .slice elems spare => uptoBulkAll elems + uptoBulkAll spare + 1
  | .agg parts => uptoBulkAll parts + 1
  | .iface _ d => uptoBulk d + 1
  | .map entries => uptoBulkEntries entries + 1
  | .held _ => 1
def uptoBulkAll {H : Type} : List (DataW H) → Nat
  | [] => 0
  | d :: r => uptoBulk d + uptoBulkAll r
def uptoBulkEntries {H : Type} : List (Lit × DataW H) → Nat
  | [] => 0
  | x :: r => uptoBulkEntry x + uptoBulkEntries r
def uptoBulkEntry {H : Type} : Lit × DataW H → Nat
  | (.string bytes, d) => bytes.length + uptoBulk d + 1
  | (_, d) => uptoBulk d + 1
 end
def uptoSmall : (H : Type) → List (DataW H) → Bool := fun _ ds => decide (uptoBulkAll ds ≤ 1048576)
def OpenSpec.upto (s : _root_.Go.ChangeSpec) : _root_.Go.OpenSpec := { _root_.Go.OpenSpec.ofChange s with cond := some uptoSmall }

/-- 'laws.FnExactEncodeBlock', WHERE WHAT IT READS IS OF BULK AT MOST 1048576: true; the input reads as it did. -/
def fnExactEncodeBlockUptoRow : OpenClaim := { program := "ytlhinknmbgijeab", sum := "f67b3c7dd8e4e583ff0dbe4f4c57bbb59898a335c936a42dee819cfd62818155", func := "loop.example/g00456/laws.FnExactEncodeBlock", spec := "fnExactEncodeBlock", apart := false, narrowed := true }
def FnExactEncodeBlockUptoSaid : Prop := fnExactEncodeBlockUptoRow.holds Try.pinned (OpenSpec.upto fnExactEncodeBlockSpec)

/-- 'laws.FnExactEncodeLeader', WHERE WHAT IT READS IS OF BULK AT MOST 1048576: true; the input reads as it did. -/
def fnExactEncodeLeaderUptoRow : OpenClaim := { program := "ytlhinknmbgijeab", sum := "f67b3c7dd8e4e583ff0dbe4f4c57bbb59898a335c936a42dee819cfd62818155", func := "loop.example/g00456/laws.FnExactEncodeLeader", spec := "fnExactEncodeLeader", apart := false, narrowed := true }
def FnExactEncodeLeaderUptoSaid : Prop := fnExactEncodeLeaderUptoRow.holds Try.pinned (OpenSpec.upto fnExactEncodeLeaderSpec)

/-- 'laws.FnExactEncodeUpdate', WHERE WHAT IT READS IS OF BULK AT MOST 1048576: true; the input reads as it did. -/
def fnExactEncodeUpdateUptoRow : OpenClaim := { program := "ytlhinknmbgijeab", sum := "f67b3c7dd8e4e583ff0dbe4f4c57bbb59898a335c936a42dee819cfd62818155", func := "loop.example/g00456/laws.FnExactEncodeUpdate", spec := "fnExactEncodeUpdate", apart := false, narrowed := true }
def FnExactEncodeUpdateUptoSaid : Prop := fnExactEncodeUpdateUptoRow.holds Try.pinned (OpenSpec.upto fnExactEncodeUpdateSpec)

end Rows
end Go.Proofs.Ytlhinknmbgijeab
