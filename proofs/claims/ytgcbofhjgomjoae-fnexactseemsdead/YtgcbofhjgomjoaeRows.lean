/-
  No cell of these rows narrows 'for every input' (looked for: loops, veiled, ifaces, maps, wideKeys, modest, calm, conditions, laid).
  DERIVED. THE GIVEN ROWS OF THIS SEAT. 5 by the template 'for every input the law returns true; each argument reads behind the call as it read before'; 0 by the template 'total and deterministic' (their statements: YtgcbofhjgomjoaeTotals.lean).
  GIVEN WITH THE SEED: the statements are not yours to turn. If you find one false, say at which input.
  Laid BY PROGRAM, IN A SANDBOX (cutbox-rows.mjs): the forced cells as the released guide's own fill.sh prints them over the translation 140c08f1e6c49145… (all of the seat's roots in one cut). By AI agents, Wed Nov 11 2026. No macro, syntax, notation, axiom, sorry.
-/
import Derived.Test.YtgcbofhjgomjoaeChecked
import GoSem.Claim
import GoSem.ClaimJoined
import GoSem.ClaimMapViews
import Derived.JoinedTies
import Derived.KernelRfl
namespace Go.Proofs.Ytgcbofhjgomjoae
/- THE CELL 'sum', in the pinned program and in every row, IS THE sha256 OF THE DUMP (.gsa) THAT YtgcbofhjgomjoaeProg.lean LOADS. Nothing in Lean hashes anything: it is a label: what it is worth is what the hold of that sum in a sandbox is worth. -/
noncomputable def Try.pinned : Pinned := { name := "ytgcbofhjgomjoae", sum := "140c08f1e6c491450dc647ad144781226afa7449aca732f16019257745a1da2c", checked := Try.checked }
namespace Rows
def none {H : Type} : Left H := { results := [], args := [] }

/-- 'laws.FnExactLocalOf': WHATEVER THE INPUT: true; the input reads as it did. -/
def fnExactLocalOfSpec : ChangeSpec := { name := "fnExactLocalOf", fn := fun _ => fun
  | [d1, d2] => { results := [.lit (.bool true)], args := [d1, d2] }
  | _ => none }
def fnExactLocalOfRow : OpenClaim := { program := "ytgcbofhjgomjoae", sum := "140c08f1e6c491450dc647ad144781226afa7449aca732f16019257745a1da2c", func := "loop.example/g00456/laws.FnExactLocalOf", spec := "fnExactLocalOf", inPlace := ["math.Float64bits", "math.Float64frombits"], apart := false }
def FnExactLocalOfSaid : Prop := fnExactLocalOfRow.holds Try.pinned (OpenSpec.ofChange fnExactLocalOfSpec)

/-- ITS FALSE NEIGHBOUR: 'it returns false'. Refute it at one input. -/
def fnExactLocalOfWrong : ChangeSpec := { name := "fnExactLocalOf", fn := fun _ => fun
  | [d1, d2] => { results := [.lit (.bool false)], args := [d1, d2] }
  | _ => none }
def FnExactLocalOfWrongFalsely : Prop := fnExactLocalOfRow.holds Try.pinned (OpenSpec.ofChange fnExactLocalOfWrong)

/-- 'laws.FnExactLatestTrue': WHATEVER THE INPUT: true; the input reads as it did. -/
def fnExactLatestTrueSpec : ChangeSpec := { name := "fnExactLatestTrue", fn := fun _ => fun
  | [d1, d2] => { results := [.lit (.bool true)], args := [d1, d2] }
  | _ => none }
def fnExactLatestTrueRow : OpenClaim := { program := "ytgcbofhjgomjoae", sum := "140c08f1e6c491450dc647ad144781226afa7449aca732f16019257745a1da2c", func := "loop.example/g00456/laws.FnExactLatestTrue", spec := "fnExactLatestTrue", inPlace := ["math.Float64bits", "math.Float64frombits"], unfollowed := true, recurses := true, apart := false }
def FnExactLatestTrueSaid : Prop := fnExactLatestTrueRow.holds Try.pinned (OpenSpec.ofChange fnExactLatestTrueSpec)

/-- ITS FALSE NEIGHBOUR: 'it returns false'. Refute it at one input. -/
def fnExactLatestTrueWrong : ChangeSpec := { name := "fnExactLatestTrue", fn := fun _ => fun
  | [d1, d2] => { results := [.lit (.bool false)], args := [d1, d2] }
  | _ => none }
def FnExactLatestTrueWrongFalsely : Prop := fnExactLatestTrueRow.holds Try.pinned (OpenSpec.ofChange fnExactLatestTrueWrong)

/-- 'laws.FnExactEarliestTrue': WHATEVER THE INPUT: true; the input reads as it did. -/
def fnExactEarliestTrueSpec : ChangeSpec := { name := "fnExactEarliestTrue", fn := fun _ => fun
  | [d1, d2] => { results := [.lit (.bool true)], args := [d1, d2] }
  | _ => none }
def fnExactEarliestTrueRow : OpenClaim := { program := "ytgcbofhjgomjoae", sum := "140c08f1e6c491450dc647ad144781226afa7449aca732f16019257745a1da2c", func := "loop.example/g00456/laws.FnExactEarliestTrue", spec := "fnExactEarliestTrue", inPlace := ["math.Float64bits", "math.Float64frombits"], unfollowed := true, recurses := true, apart := false }
def FnExactEarliestTrueSaid : Prop := fnExactEarliestTrueRow.holds Try.pinned (OpenSpec.ofChange fnExactEarliestTrueSpec)

/-- ITS FALSE NEIGHBOUR: 'it returns false'. Refute it at one input. -/
def fnExactEarliestTrueWrong : ChangeSpec := { name := "fnExactEarliestTrue", fn := fun _ => fun
  | [d1, d2] => { results := [.lit (.bool false)], args := [d1, d2] }
  | _ => none }
def FnExactEarliestTrueWrongFalsely : Prop := fnExactEarliestTrueRow.holds Try.pinned (OpenSpec.ofChange fnExactEarliestTrueWrong)

/-- 'laws.FnExactFenceAt': WHATEVER THE INPUT: true; the input reads as it did. -/
def fnExactFenceAtSpec : ChangeSpec := { name := "fnExactFenceAt", fn := fun _ => fun
  | [d1, d2] => { results := [.lit (.bool true)], args := [d1, d2] }
  | _ => none }
def fnExactFenceAtRow : OpenClaim := { program := "ytgcbofhjgomjoae", sum := "140c08f1e6c491450dc647ad144781226afa7449aca732f16019257745a1da2c", func := "loop.example/g00456/laws.FnExactFenceAt", spec := "fnExactFenceAt", apart := false }
def FnExactFenceAtSaid : Prop := fnExactFenceAtRow.holds Try.pinned (OpenSpec.ofChange fnExactFenceAtSpec)

/-- ITS FALSE NEIGHBOUR: 'it returns false'. Refute it at one input. -/
def fnExactFenceAtWrong : ChangeSpec := { name := "fnExactFenceAt", fn := fun _ => fun
  | [d1, d2] => { results := [.lit (.bool false)], args := [d1, d2] }
  | _ => none }
def FnExactFenceAtWrongFalsely : Prop := fnExactFenceAtRow.holds Try.pinned (OpenSpec.ofChange fnExactFenceAtWrong)

/-- 'laws.FnExactSeemsDead': WHATEVER THE INPUT: true; the input reads as it did. -/
def fnExactSeemsDeadSpec : ChangeSpec := { name := "fnExactSeemsDead", fn := fun _ => fun
  | [d1, d2, d3] => { results := [.lit (.bool true)], args := [d1, d2, d3] }
  | _ => none }
def fnExactSeemsDeadRow : OpenClaim := { program := "ytgcbofhjgomjoae", sum := "140c08f1e6c491450dc647ad144781226afa7449aca732f16019257745a1da2c", func := "loop.example/g00456/laws.FnExactSeemsDead", spec := "fnExactSeemsDead", apart := false }
def FnExactSeemsDeadSaid : Prop := fnExactSeemsDeadRow.holds Try.pinned (OpenSpec.ofChange fnExactSeemsDeadSpec)

/-- ITS FALSE NEIGHBOUR: 'it returns false'. Refute it at one input. -/
def fnExactSeemsDeadWrong : ChangeSpec := { name := "fnExactSeemsDead", fn := fun _ => fun
  | [d1, d2, d3] => { results := [.lit (.bool false)], args := [d1, d2, d3] }
  | _ => none }
def FnExactSeemsDeadWrongFalsely : Prop := fnExactSeemsDeadRow.holds Try.pinned (OpenSpec.ofChange fnExactSeemsDeadWrong)

/- THE SECOND FORM. 'bulk': how many values and letters a reading holds, each counted each time it is reached (what is shared counts as often as it is met; a slice's spare places count too). A statement '..UptoSaid' is the law's where the arguments, and the package variables that the reading takes, are together of bulk at most 1048576: NARROWER than '..Said'. Prove '..Said' where nothing that the law and all that it calls make is longer than what came in: it says more and counts as full. Else prove '..UptoSaid'. A law counts once. -/
mutual
def uptoBulk {H : Type} : DataW H → Nat
  | .lit (.string bytes) => bytes.length + 1
  | .lit _ => 1
  | .nil => 1
  | .ptr d => uptoBulk d + 1
  | .slice elems spare => uptoBulkAll elems + uptoBulkAll spare + 1
  | .agg parts => uptoBulkAll parts + 1
  | .iface _ d => uptoBulk d + 1
  | .map entries => uptoBulkEntries entries + 1
  | .held _ => 1
def uptoBulkAll {H : Type} : List (DataW H) → Nat
  | [] => 0
  | d :: r => uptoBulk d + uptoBulkAll r
def uptoBulkEntries {H : Type} : List (Lit × DataW H) → Nat
  | [] => 0
  | x :: r => uptoBulkEntry x + uptoBulkEntries r
def uptoBulkEntry {H : Type} : Lit × DataW H → Nat
  | (.string bytes, d) => bytes.length + uptoBulk d + 1
  | (_, d) => uptoBulk d + 1
 end
def uptoSmall : (H : Type) → List (DataW H) → Bool := fun _ ds => decide (uptoBulkAll ds ≤ 1048576)
def OpenSpec.upto (s : _root_.Go.ChangeSpec) : _root_.Go.OpenSpec := { _root_.Go.OpenSpec.ofChange s with cond := some uptoSmall }

/-- 'laws.FnExactLocalOf', WHERE WHAT IT READS IS OF BULK AT MOST 1048576: true; the input reads as it did. -/
def fnExactLocalOfUptoRow : OpenClaim := { program := "ytgcbofhjgomjoae", sum := "140c08f1e6c491450dc647ad144781226afa7449aca732f16019257745a1da2c", func := "loop.example/g00456/laws.FnExactLocalOf", spec := "fnExactLocalOf", inPlace := ["math.Float64bits", "math.Float64frombits"], apart := false, narrowed := true }
def FnExactLocalOfUptoSaid : Prop := fnExactLocalOfUptoRow.holds Try.pinned (OpenSpec.upto fnExactLocalOfSpec)

/-- 'laws.FnExactLatestTrue', WHERE WHAT IT READS IS OF BULK AT MOST 1048576: true; the input reads as it did. -/
def fnExactLatestTrueUptoRow : OpenClaim := { program := "ytgcbofhjgomjoae", sum := "140c08f1e6c491450dc647ad144781226afa7449aca732f16019257745a1da2c", func := "loop.example/g00456/laws.FnExactLatestTrue", spec := "fnExactLatestTrue", inPlace := ["math.Float64bits", "math.Float64frombits"], unfollowed := true, recurses := true, apart := false, narrowed := true }
def FnExactLatestTrueUptoSaid : Prop := fnExactLatestTrueUptoRow.holds Try.pinned (OpenSpec.upto fnExactLatestTrueSpec)

/-- 'laws.FnExactEarliestTrue', WHERE WHAT IT READS IS OF BULK AT MOST 1048576: true; the input reads as it did. -/
def fnExactEarliestTrueUptoRow : OpenClaim := { program := "ytgcbofhjgomjoae", sum := "140c08f1e6c491450dc647ad144781226afa7449aca732f16019257745a1da2c", func := "loop.example/g00456/laws.FnExactEarliestTrue", spec := "fnExactEarliestTrue", inPlace := ["math.Float64bits", "math.Float64frombits"], unfollowed := true, recurses := true, apart := false, narrowed := true }
def FnExactEarliestTrueUptoSaid : Prop := fnExactEarliestTrueUptoRow.holds Try.pinned (OpenSpec.upto fnExactEarliestTrueSpec)

/-- 'laws.FnExactFenceAt', WHERE WHAT IT READS IS OF BULK AT MOST 1048576: true; the input reads as it did. -/
def fnExactFenceAtUptoRow : OpenClaim := { program := "ytgcbofhjgomjoae", sum := "140c08f1e6c491450dc647ad144781226afa7449aca732f16019257745a1da2c", func := "loop.example/g00456/laws.FnExactFenceAt", spec := "fnExactFenceAt", apart := false, narrowed := true }
def FnExactFenceAtUptoSaid : Prop := fnExactFenceAtUptoRow.holds Try.pinned (OpenSpec.upto fnExactFenceAtSpec)

/-- 'laws.FnExactSeemsDead', WHERE WHAT IT READS IS OF BULK AT MOST 1048576: true; the input reads as it did. -/
def fnExactSeemsDeadUptoRow : OpenClaim := { program := "ytgcbofhjgomjoae", sum := "140c08f1e6c491450dc647ad144781226afa7449aca732f16019257745a1da2c", func := "loop.example/g00456/laws.FnExactSeemsDead", spec := "fnExactSeemsDead", apart := false, narrowed := true }
def FnExactSeemsDeadUptoSaid : Prop := fnExactSeemsDeadUptoRow.holds Try.pinned (OpenSpec.upto fnExactSeemsDeadSpec)

end Rows
end Go.Proofs.Ytgcbofhjgomjoae
