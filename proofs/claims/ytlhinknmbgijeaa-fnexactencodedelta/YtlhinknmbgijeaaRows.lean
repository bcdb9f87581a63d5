/-
  No cell of these rows narrows 'for every input' (looked for: loops, veiled, ifaces, maps, wideKeys, modest, calm, conditions, laid).
  DERIVED. THE GIVEN ROWS OF THIS SEAT. 3 by the template 'for every input the law returns true; each argument reads behind the call as it read before'; 0 by the template 'total and deterministic' (their statements: YtlhinknmbgijeaaTotals.lean).
  GIVEN WITH THE SEED: the statements are not yours to turn. If you find one false, say at which input.
  Laid BY PROGRAM, IN A SANDBOX (cutbox-rows.mjs): the forced cells as the released guide's own fill.sh prints them over the translation 51c33a7789499765… (all of the seat's roots in one cut). By AI agents, Wed Nov 11 2026. No macro, syntax, notation, axiom, sorry.
-/
import Derived.Test.YtlhinknmbgijeaaChecked
import GoSem.Claim
import GoSem.ClaimJoined
import GoSem.ClaimMapViews
import Derived.JoinedTies
import Derived.KernelRfl
namespace Go.Proofs.Ytlhinknmbgijeaa
/- THE CELL 'sum', in the pinned program and in every row, IS THE sha256 OF THE DUMP (.gsa) THAT YtlhinknmbgijeaaProg.lean LOADS. Nothing in Lean hashes anything: it is a label: what it is worth is what the hold of that sum in a sandbox is worth. -/
noncomputable def Try.pinned : Pinned := { name := "ytlhinknmbgijeaa", sum := "51c33a77894997654b592dccef8254c81d32baf0f60b1525bcc61d3de722a820", checked := Try.checked }
namespace Rows
def none {H : Type} : Left H := { results := [], args := [] }

/-- 'laws.FnExactPackInts': WHATEVER THE INPUT: true; the input reads as it did. -/
def fnExactPackIntsSpec : ChangeSpec := { name := "fnExactPackInts", fn := fun _ => fun
  | [d] => { results := [.lit (.bool true)], args := [d] }
  | _ => none }
def fnExactPackIntsRow : OpenClaim := { program := "ytlhinknmbgijeaa", sum := "51c33a77894997654b592dccef8254c81d32baf0f60b1525bcc61d3de722a820", func := "loop.example/g00456/laws.FnExactPackInts", spec := "fnExactPackInts", apart := false }
def FnExactPackIntsSaid : Prop := fnExactPackIntsRow.holds Try.pinned (OpenSpec.ofChange fnExactPackIntsSpec)

/-- ITS FALSE NEIGHBOUR: 'it returns false'. Refute it at one input. -/
def fnExactPackIntsWrong : ChangeSpec := { name := "fnExactPackInts", fn := fun _ => fun
  | [d] => { results := [.lit (.bool false)], args := [d] }
  | _ => none }
def FnExactPackIntsWrongFalsely : Prop := fnExactPackIntsRow.holds Try.pinned (OpenSpec.ofChange fnExactPackIntsWrong)

/-- 'laws.FnExactSealRecord': WHATEVER THE INPUT: true; the input reads as it did. -/
def fnExactSealRecordSpec : ChangeSpec := { name := "fnExactSealRecord", fn := fun _ => fun
  | [d1, d2] => { results := [.lit (.bool true)], args := [d1, d2] }
  | _ => none }
def fnExactSealRecordRow : OpenClaim := { program := "ytlhinknmbgijeaa", sum := "51c33a77894997654b592dccef8254c81d32baf0f60b1525bcc61d3de722a820", func := "loop.example/g00456/laws.FnExactSealRecord", spec := "fnExactSealRecord", apart := false }
def FnExactSealRecordSaid : Prop := fnExactSealRecordRow.holds Try.pinned (OpenSpec.ofChange fnExactSealRecordSpec)

/-- ITS FALSE NEIGHBOUR: 'it returns false'. Refute it at one input. -/
def fnExactSealRecordWrong : ChangeSpec := { name := "fnExactSealRecord", fn := fun _ => fun
  | [d1, d2] => { results := [.lit (.bool false)], args := [d1, d2] }
  | _ => none }
def FnExactSealRecordWrongFalsely : Prop := fnExactSealRecordRow.holds Try.pinned (OpenSpec.ofChange fnExactSealRecordWrong)

/-- 'laws.FnExactEncodeDelta': WHATEVER THE INPUT: true; the input reads as it did. -/
def fnExactEncodeDeltaSpec : ChangeSpec := { name := "fnExactEncodeDelta", fn := fun _ => fun
  | [d] => { results := [.lit (.bool true)], args := [d] }
  | _ => none }
def fnExactEncodeDeltaRow : OpenClaim := { program := "ytlhinknmbgijeaa", sum := "51c33a77894997654b592dccef8254c81d32baf0f60b1525bcc61d3de722a820", func := "loop.example/g00456/laws.FnExactEncodeDelta", spec := "fnExactEncodeDelta", apart := false }
def FnExactEncodeDeltaSaid : Prop := fnExactEncodeDeltaRow.holds Try.pinned (OpenSpec.ofChange fnExactEncodeDeltaSpec)

/-- ITS FALSE NEIGHBOUR: 'it returns false'. Refute it at one input. -/
def fnExactEncodeDeltaWrong : ChangeSpec := { name := "fnExactEncodeDelta", fn := fun _ => fun
  | [d] => { results := [.lit (.bool false)], args := [d] }
  | _ => none }
def FnExactEncodeDeltaWrongFalsely : Prop := fnExactEncodeDeltaRow.holds Try.pinned (OpenSpec.ofChange fnExactEncodeDeltaWrong)

/- THE SECOND FORM. 'bulk': how many values and letters a reading holds, each counted each time it is reached (what is shared counts as often as it is met; a slice's spare places count too). A statement '..UptoSaid' is the law's where the arguments, and the package variables that the reading takes, are together of bulk at most 1048576: NARROWER than '..Said'. Prove '..Said' where nothing that the law and all that it calls make is longer than what came in: it says more and counts as full. Else prove '..UptoSaid'. A law counts once. -/
mutual
def uptoBulk {H : Type} : DataW H → Nat
  | .lit (.string bytes) => bytes.length + 1
  | .lit _ => 1
  | .nil => 1
  | .ptr d => uptoBulk d + 1
  | .slice elems spare => uptoBulkAll elems + uptoBulkAll spare + 1
  | .agg parts => uptoBulkAll parts + 1
  | .iface _ d => uptoBulk d + 1
  | .map entries => uptoBulkEntries entries + 1
  | .held _ => 1
def uptoBulkAll {H : Type} : List (DataW H) → Nat
  | [] => 0
  | d :: r => uptoBulk d + uptoBulkAll r
def uptoBulkEntries {H : Type} : List (Lit × DataW H) → Nat
  | [] => 0
  | x :: r => uptoBulkEntry x + uptoBulkEntries r
def uptoBulkEntry {H : Type} : Lit × DataW H → Nat
  | (.string bytes, d) => bytes.length + uptoBulk d + 1
  | (_, d) => uptoBulk d + 1
 end
def uptoSmall : (H : Type) → List (DataW H) → Bool := fun _ ds => decide (uptoBulkAll ds ≤ 1048576)
def OpenSpec.upto (s : _root_.Go.ChangeSpec) : _root_.Go.OpenSpec := { _root_.Go.OpenSpec.ofChange s with cond := some uptoSmall }

/-- 'laws.FnExactPackInts', WHERE WHAT IT READS IS OF BULK AT MOST 1048576: true; the input reads as it did. -/
def fnExactPackIntsUptoRow : OpenClaim := { program := "ytlhinknmbgijeaa", sum := "51c33a77894997654b592dccef8254c81d32baf0f60b1525bcc61d3de722a820", func := "loop.example/g00456/laws.FnExactPackInts", spec := "fnExactPackInts", apart := false, narrowed := true }
def FnExactPackIntsUptoSaid : Prop := fnExactPackIntsUptoRow.holds Try.pinned (OpenSpec.upto fnExactPackIntsSpec)

/-- 'laws.FnExactSealRecord', WHERE WHAT IT READS IS OF BULK AT MOST 1048576: true; the input reads as it did. -/
def fnExactSealRecordUptoRow : OpenClaim := { program := "ytlhinknmbgijeaa", sum := "51c33a77894997654b592dccef8254c81d32baf0f60b1525bcc61d3de722a820", func := "loop.example/g00456/laws.FnExactSealRecord", spec := "fnExactSealRecord", apart := false, narrowed := true }
def FnExactSealRecordUptoSaid : Prop := fnExactSealRecordUptoRow.holds Try.pinned (OpenSpec.upto fnExactSealRecordSpec)

/-- 'laws.FnExactEncodeDelta', WHERE WHAT IT READS IS OF BULK AT MOST 1048576: true; the input reads as it did. -/
def fnExactEncodeDeltaUptoRow : OpenClaim := { program := "ytlhinknmbgijeaa", sum := "51c33a77894997654b592dccef8254c81d32baf0f60b1525bcc61d3de722a820", func := "loop.example/g00456/laws.FnExactEncodeDelta", spec := "fnExactEncodeDelta", apart := false, narrowed := true }
def FnExactEncodeDeltaUptoSaid : Prop := fnExactEncodeDeltaUptoRow.holds Try.pinned (OpenSpec.upto fnExactEncodeDeltaSpec)

end Rows
end Go.Proofs.Ytlhinknmbgijeaa
