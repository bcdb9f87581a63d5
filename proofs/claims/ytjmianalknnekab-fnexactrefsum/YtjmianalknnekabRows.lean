/-
  No cell of these rows narrows 'for every input' (looked for: loops, veiled, ifaces, maps, wideKeys, modest, calm, conditions, laid).
  DERIVED. THE GIVEN ROWS OF THIS SEAT. 2 by the template 'for every input the law returns true; each argument reads behind the call as it read before'; 0 by the template 'total and deterministic' (their statements: YtjmianalknnekabTotals.lean).
  GIVEN WITH THE SEED: the statements are not yours to turn. If you find one false, say at which input.
  Laid BY PROGRAM, IN A SANDBOX (cutbox-rows.mjs): the forced cells as the released guide's own fill.sh prints them over the translation 75446133b6de024a… (all of the seat's roots in one cut). By AI agents, Wed Nov 11 2026. No macro, syntax, notation, axiom, sorry.
-/
import Derived.Test.YtjmianalknnekabChecked
import GoSem.Claim
import GoSem.ClaimJoined
import GoSem.ClaimMapViews
import Derived.JoinedTies
import Derived.KernelRfl
namespace Go.Proofs.Ytjmianalknnekab
/- THE CELL 'sum', in the pinned program and in every row, IS THE sha256 OF THE DUMP (.gsa) THAT YtjmianalknnekabProg.lean LOADS. Nothing in Lean hashes anything: it is a label: what it is worth is what the hold of that sum in a sandbox is worth. -/
noncomputable def Try.pinned : Pinned := { name := "ytjmianalknnekab", sum := "75446133b6de024ab69610701bad324904c37683a402a1aaee9c6dcb7bf2e3a6", checked := Try.checked }
namespace Rows
def none {H : Type} : Left H := { results := [], args := [] }

/-- 'laws.FnExactFreeCluster': WHATEVER THE INPUT: true; the input reads as it did. -/
def fnExactFreeClusterSpec : ChangeSpec := { name := "fnExactFreeCluster", fn := fun _ => fun
  | [d] => { results := [.lit (.bool true)], args := [d] }
  | _ => none }
def fnExactFreeClusterRow : OpenClaim := { program := "ytjmianalknnekab", sum := "75446133b6de024ab69610701bad324904c37683a402a1aaee9c6dcb7bf2e3a6", func := "loop.example/g00456/laws.FnExactFreeCluster", spec := "fnExactFreeCluster", apart := false }
def FnExactFreeClusterSaid : Prop := fnExactFreeClusterRow.holds Try.pinned (OpenSpec.ofChange fnExactFreeClusterSpec)

/-- ITS FALSE NEIGHBOUR: 'it returns false'. Refute it at one input. -/
def fnExactFreeClusterWrong : ChangeSpec := { name := "fnExactFreeCluster", fn := fun _ => fun
  | [d] => { results := [.lit (.bool false)], args := [d] }
  | _ => none }
def FnExactFreeClusterWrongFalsely : Prop := fnExactFreeClusterRow.holds Try.pinned (OpenSpec.ofChange fnExactFreeClusterWrong)

/-- 'laws.FnExactRefSum': WHATEVER THE INPUT: true; the input reads as it did. -/
def fnExactRefSumSpec : ChangeSpec := { name := "fnExactRefSum", fn := fun _ => fun
  | [d] => { results := [.lit (.bool true)], args := [d] }
  | _ => none }
def fnExactRefSumRow : OpenClaim := { program := "ytjmianalknnekab", sum := "75446133b6de024ab69610701bad324904c37683a402a1aaee9c6dcb7bf2e3a6", func := "loop.example/g00456/laws.FnExactRefSum", spec := "fnExactRefSum", apart := false }
def FnExactRefSumSaid : Prop := fnExactRefSumRow.holds Try.pinned (OpenSpec.ofChange fnExactRefSumSpec)

/-- ITS FALSE NEIGHBOUR: 'it returns false'. Refute it at one input. -/
def fnExactRefSumWrong : ChangeSpec := { name := "fnExactRefSum", fn := fun _ => fun
  | [d] => { results := [.lit (.bool false)], args := [d] }
  | _ => none }
def FnExactRefSumWrongFalsely : Prop := fnExactRefSumRow.holds Try.pinned (OpenSpec.ofChange fnExactRefSumWrong)

/- THE SECOND FORM. 'bulk': how many values and letters a reading holds, each counted each time it is reached (what is shared counts as often as it is met; a slice's spare places count too). A statement '..UptoSaid' is the law's where the arguments, and the package variables that the reading takes, are together of bulk at most 1048576: NARROWER than '..Said'. Prove '..Said' where nothing that the law and all that it calls make is longer than what came in: it says more and counts as full. Else prove '..UptoSaid'. A law counts once. -/
mutual
def uptoBulk {H : Type} : DataW H → Nat
  | .lit (.string bytes) => bytes.length + 1
  | .lit _ => 1
  | .nil => 1
  | .ptr d => uptoBulk d + 1
  | .slice elems spare => uptoBulkAll elems + uptoBulkAll spare + 1
  | .agg parts => uptoBulkAll parts + 1
  | .iface _ d => uptoBulk d + 1
  | .map entries => uptoBulkEntries entries + 1
  | .held _ => 1
def uptoBulkAll {H : Type} : List (DataW H) → Nat
  | [] => 0
  | d :: r => uptoBulk d + uptoBulkAll r
def uptoBulkEntries {H : Type} : List (Lit × DataW H) → Nat
  | [] => 0
  | x :: r => uptoBulkEntry x + uptoBulkEntries r
def uptoBulkEntry {H : Type} : Lit × DataW H → Nat
  | (.string bytes, d) => bytes.length + uptoBulk d + 1
  | (_, d) => uptoBulk d + 1
 end
def uptoSmall : (H : Type) → List (DataW H) → Bool := fun _ ds => decide (uptoBulkAll ds ≤ 1048576)
def OpenSpec.upto (s : _root_.Go.ChangeSpec) : _root_.Go.OpenSpec := { _root_.Go.OpenSpec.ofChange s with cond := some uptoSmall }

/-- 'laws.FnExactFreeCluster', WHERE WHAT IT READS IS OF BULK AT MOST 1048576: true; the input reads as it did. -/
def fnExactFreeClusterUptoRow : OpenClaim := { program := "ytjmianalknnekab", sum := "75446133b6de024ab69610701bad324904c37683a402a1aaee9c6dcb7bf2e3a6", func := "loop.example/g00456/laws.FnExactFreeCluster", spec := "fnExactFreeCluster", apart := false, narrowed := true }
def FnExactFreeClusterUptoSaid : Prop := fnExactFreeClusterUptoRow.holds Try.pinned (OpenSpec.upto fnExactFreeClusterSpec)

/-- 'laws.FnExactRefSum', WHERE WHAT IT READS IS OF BULK AT MOST 1048576: true; the input reads as it did. -/
def fnExactRefSumUptoRow : OpenClaim := { program := "ytjmianalknnekab", sum := "75446133b6de024ab69610701bad324904c37683a402a1aaee9c6dcb7bf2e3a6", func := "loop.example/g00456/laws.FnExactRefSum", spec := "fnExactRefSum", apart := false, narrowed := true }
def FnExactRefSumUptoSaid : Prop := fnExactRefSumUptoRow.holds Try.pinned (OpenSpec.upto fnExactRefSumSpec)

end Rows
end Go.Proofs.Ytjmianalknnekab
