/-
  No cell of these rows narrows 'for every input' (looked for: loops, veiled, ifaces, maps, wideKeys, modest, calm, conditions, laid).
  DERIVED. THE GIVEN ROWS OF THIS SEAT. 3 by the template 'for every input the law returns true; each argument reads behind the call as it read before'; 0 by the template 'total and deterministic' (their statements: YtdfinapjgffjiaaTotals.lean).
  GIVEN WITH THE SEED: the statements are not yours to turn. If you find one false, say at which input.
  Laid BY PROGRAM, IN A SANDBOX (cutbox-rows.mjs): the forced cells as the released guide's own fill.sh prints them over the translation 2a3154e85a17d236… (all of the seat's roots in one cut). By AI agents, Wed Nov 11 2026. No macro, syntax, notation, axiom, sorry.
-/
import Derived.Test.YtdfinapjgffjiaaChecked
import GoSem.Claim
import GoSem.ClaimJoined
import GoSem.ClaimMapViews
import Derived.JoinedTies
import Derived.KernelRfl
namespace Go.Proofs.Ytdfinapjgffjiaa
/- THE CELL 'sum', in the pinned program and in every row, IS THE sha256 OF THE DUMP (.gsa) THAT YtdfinapjgffjiaaProg.lean LOADS. Nothing in Lean hashes anything: it is a label: what it is worth is what the hold of that sum in a sandbox is worth. -/
noncomputable def Try.pinned : Pinned := { name := "ytdfinapjgffjiaa", sum := "2a3154e85a17d2367227b3c96d64a02f2cb39237dc2e3b122a6201103582bb88", checked := Try.checked }
namespace Rows
def none {H : Type} : Left H := { results := [], args := [] }

/-- 'laws.FnBallot': WHATEVER THE INPUT: true; the input reads as it did. -/
def fnBallotSpec : ChangeSpec := { name := "fnBallot", fn := fun _ => fun
  | [d1, d2] => { results := [.lit (.bool true)], args := [d1, d2] }
  | _ => none }
def fnBallotRow : OpenClaim := { program := "ytdfinapjgffjiaa", sum := "2a3154e85a17d2367227b3c96d64a02f2cb39237dc2e3b122a6201103582bb88", func := "loop.example/g00456/laws.FnBallot", spec := "fnBallot", unfollowed := true, recurses := true, apart := false }
def FnBallotSaid : Prop := fnBallotRow.holds Try.pinned (OpenSpec.ofChange fnBallotSpec)

/-- ITS FALSE NEIGHBOUR: 'it returns false'. Refute it at one input. -/
def fnBallotWrong : ChangeSpec := { name := "fnBallot", fn := fun _ => fun
  | [d1, d2] => { results := [.lit (.bool false)], args := [d1, d2] }
  | _ => none }
def FnBallotWrongFalsely : Prop := fnBallotRow.holds Try.pinned (OpenSpec.ofChange fnBallotWrong)

/-- 'laws.FnExactLeaderOK': WHATEVER THE INPUT: true; the input reads as it did. -/
def fnExactLeaderOKSpec : ChangeSpec := { name := "fnExactLeaderOK", fn := fun _ => fun
  | [d] => { results := [.lit (.bool true)], args := [d] }
  | _ => none }
def fnExactLeaderOKRow : OpenClaim := { program := "ytdfinapjgffjiaa", sum := "2a3154e85a17d2367227b3c96d64a02f2cb39237dc2e3b122a6201103582bb88", func := "loop.example/g00456/laws.FnExactLeaderOK", spec := "fnExactLeaderOK", apart := false }
def FnExactLeaderOKSaid : Prop := fnExactLeaderOKRow.holds Try.pinned (OpenSpec.ofChange fnExactLeaderOKSpec)

/-- ITS FALSE NEIGHBOUR: 'it returns false'. Refute it at one input. -/
def fnExactLeaderOKWrong : ChangeSpec := { name := "fnExactLeaderOK", fn := fun _ => fun
  | [d] => { results := [.lit (.bool false)], args := [d] }
  | _ => none }
def FnExactLeaderOKWrongFalsely : Prop := fnExactLeaderOKRow.holds Try.pinned (OpenSpec.ofChange fnExactLeaderOKWrong)

/-- 'laws.FnExactEncodeLeader': WHATEVER THE INPUT: true; the input reads as it did. -/
def fnExactEncodeLeaderSpec : ChangeSpec := { name := "fnExactEncodeLeader", fn := fun _ => fun
  | [d] => { results := [.lit (.bool true)], args := [d] }
  | _ => none }
def fnExactEncodeLeaderRow : OpenClaim := { program := "ytdfinapjgffjiaa", sum := "2a3154e85a17d2367227b3c96d64a02f2cb39237dc2e3b122a6201103582bb88", func := "loop.example/g00456/laws.FnExactEncodeLeader", spec := "fnExactEncodeLeader", apart := false }
def FnExactEncodeLeaderSaid : Prop := fnExactEncodeLeaderRow.holds Try.pinned (OpenSpec.ofChange fnExactEncodeLeaderSpec)

/-- ITS FALSE NEIGHBOUR: 'it returns false'. Refute it at one input. -/
def fnExactEncodeLeaderWrong : ChangeSpec := { name := "fnExactEncodeLeader", fn := fun _ => fun
  | [d] => { results := [.lit (.bool false)], args := [d] }
  | _ => none }
def FnExactEncodeLeaderWrongFalsely : Prop := fnExactEncodeLeaderRow.holds Try.pinned (OpenSpec.ofChange fnExactEncodeLeaderWrong)

/- THE SECOND FORM. 'bulk': how many values and letters a reading holds, each counted each time it is reached (what is shared counts as often as it is met; a slice's spare places count too). A statement '..UptoSaid' is the law's where the arguments, and the package variables that the reading takes, are together of bulk at most 1048576: NARROWER than '..Said'. Prove '..Said' where nothing that the law and all that it calls make is longer than what came in: it says more and counts as full. Else prove '..UptoSaid'. A law counts once. -/
mutual
def uptoBulk {H : Type} : DataW H → Nat
  | .lit (.string bytes) => bytes.length + 1
  | .lit _ => 1
  | .nil => 1
  | .ptr d => uptoBulk d + 1
  | .slice elems spare => uptoBulkAll elems + uptoBulkAll spare + 1
  | .agg parts => uptoBulkAll parts + 1
  | .iface _ d => uptoBulk d + 1
  | .map entries => uptoBulkEntries entries + 1
  | .held _ => 1
def uptoBulkAll {H : Type} : List (DataW H) → Nat
  | [] => 0
  | d :: r => uptoBulk d + uptoBulkAll r
def uptoBulkEntries {H : Type} : List (Lit × DataW H) → Nat
  | [] => 0
  | x :: r => uptoBulkEntry x + uptoBulkEntries r
def uptoBulkEntry {H : Type} : Lit × DataW H → Nat
  | (.string bytes, d) => bytes.length + uptoBulk d + 1
  | (_, d) => uptoBulk d + 1
 end
def uptoSmall : (H : Type) → List (DataW H) → Bool := fun _ ds => decide (uptoBulkAll ds ≤ 1048576)
def OpenSpec.upto (s : _root_.Go.ChangeSpec) : _root_.Go.OpenSpec := { _root_.Go.OpenSpec.ofChange s with cond := some uptoSmall }

/-- 'laws.FnBallot', WHERE WHAT IT READS IS OF BULK AT MOST 1048576: true; the input reads as it did. -/
def fnBallotUptoRow : OpenClaim := { program := "ytdfinapjgffjiaa", sum := "2a3154e85a17d2367227b3c96d64a02f2cb39237dc2e3b122a6201103582bb88", func := "loop.example/g00456/laws.FnBallot", spec := "fnBallot", unfollowed := true, recurses := true, apart := false, narrowed := true }
def FnBallotUptoSaid : Prop := fnBallotUptoRow.holds Try.pinned (OpenSpec.upto fnBallotSpec)

/-- 'laws.FnExactLeaderOK', WHERE WHAT IT READS IS OF BULK AT MOST 1048576: true; the input reads as it did. -/
def fnExactLeaderOKUptoRow : OpenClaim := { program := "ytdfinapjgffjiaa", sum := "2a3154e85a17d2367227b3c96d64a02f2cb39237dc2e3b122a6201103582bb88", func := "loop.example/g00456/laws.FnExactLeaderOK", spec := "fnExactLeaderOK", apart := false, narrowed := true }
def FnExactLeaderOKUptoSaid : Prop := fnExactLeaderOKUptoRow.holds Try.pinned (OpenSpec.upto fnExactLeaderOKSpec)

/-- 'laws.FnExactEncodeLeader', WHERE WHAT IT READS IS OF BULK AT MOST 1048576: true; the input reads as it did. -/
def fnExactEncodeLeaderUptoRow : OpenClaim := { program := "ytdfinapjgffjiaa", sum := "2a3154e85a17d2367227b3c96d64a02f2cb39237dc2e3b122a6201103582bb88", func := "loop.example/g00456/laws.FnExactEncodeLeader", spec := "fnExactEncodeLeader", apart := false, narrowed := true }
def FnExactEncodeLeaderUptoSaid : Prop := fnExactEncodeLeaderUptoRow.holds Try.pinned (OpenSpec.upto fnExactEncodeLeaderSpec)

end Rows
end Go.Proofs.Ytdfinapjgffjiaa
