/-
  No cell of these rows narrows 'for every input' (looked for: loops, veiled, ifaces, maps, wideKeys, modest, calm, conditions, laid).
  DERIVED. THE GIVEN ROWS OF THIS SEAT. 5 by the template 'for every input the law returns true; each argument reads behind the call as it read before'; 0 by the template 'total and deterministic' (their statements: YthnpooffhopnkaaTotals.lean).
  GIVEN WITH THE SEED: the statements are not yours to turn. If you find one false, say at which input.
  Laid BY PROGRAM, IN A SANDBOX (cutbox-rows.mjs): the forced cells as the released guide's own fill.sh prints them over the translation 769ea18589c3d20e… (all of the seat's roots in one cut). By AI agents, Wed Nov 11 2026. No macro, syntax, notation, axiom, sorry.
-/
import Derived.Test.YthnpooffhopnkaaChecked
import GoSem.Claim
import GoSem.ClaimJoined
import GoSem.ClaimMapViews
import Derived.JoinedTies
import Derived.KernelRfl
namespace Go.Proofs.Ythnpooffhopnkaa
/- THE CELL 'sum', in the pinned program and in every row, IS THE sha256 OF THE DUMP (.gsa) THAT YthnpooffhopnkaaProg.lean LOADS. Nothing in Lean hashes anything: it is a label: what it is worth is what the hold of that sum in a sandbox is worth. -/
noncomputable def Try.pinned : Pinned := { name := "ythnpooffhopnkaa", sum := "769ea18589c3d20e90077d7894ff3113949eb9fe8a21f4a55f92e55f7e6affcb", checked := Try.checked }
namespace Rows
def none {H : Type} : Left H := { results := [], args := [] }

/-- 'laws.FnExactGuestOK': WHATEVER THE INPUT: true; the input reads as it did. -/
def fnExactGuestOKSpec : ChangeSpec := { name := "fnExactGuestOK", fn := fun _ => fun
  | [d] => { results := [.lit (.bool true)], args := [d] }
  | _ => none }
def fnExactGuestOKRow : OpenClaim := { program := "ythnpooffhopnkaa", sum := "769ea18589c3d20e90077d7894ff3113949eb9fe8a21f4a55f92e55f7e6affcb", func := "loop.example/g00456/laws.FnExactGuestOK", spec := "fnExactGuestOK", apart := false }
def FnExactGuestOKSaid : Prop := fnExactGuestOKRow.holds Try.pinned (OpenSpec.ofChange fnExactGuestOKSpec)

/-- ITS FALSE NEIGHBOUR: 'it returns false'. Refute it at one input. -/
def fnExactGuestOKWrong : ChangeSpec := { name := "fnExactGuestOK", fn := fun _ => fun
  | [d] => { results := [.lit (.bool false)], args := [d] }
  | _ => none }
def FnExactGuestOKWrongFalsely : Prop := fnExactGuestOKRow.holds Try.pinned (OpenSpec.ofChange fnExactGuestOKWrong)

/-- 'laws.FnExactNewGuest': WHATEVER THE INPUT: true; the input reads as it did. -/
def fnExactNewGuestSpec : ChangeSpec := { name := "fnExactNewGuest", fn := fun _ => fun
  | [d] => { results := [.lit (.bool true)], args := [d] }
  | _ => none }
def fnExactNewGuestRow : OpenClaim := { program := "ythnpooffhopnkaa", sum := "769ea18589c3d20e90077d7894ff3113949eb9fe8a21f4a55f92e55f7e6affcb", func := "loop.example/g00456/laws.FnExactNewGuest", spec := "fnExactNewGuest", apart := false }
def FnExactNewGuestSaid : Prop := fnExactNewGuestRow.holds Try.pinned (OpenSpec.ofChange fnExactNewGuestSpec)

/-- ITS FALSE NEIGHBOUR: 'it returns false'. Refute it at one input. -/
def fnExactNewGuestWrong : ChangeSpec := { name := "fnExactNewGuest", fn := fun _ => fun
  | [d] => { results := [.lit (.bool false)], args := [d] }
  | _ => none }
def FnExactNewGuestWrongFalsely : Prop := fnExactNewGuestRow.holds Try.pinned (OpenSpec.ofChange fnExactNewGuestWrong)

/-- 'laws.FnExactGuestOf': WHATEVER THE INPUT: true; the input reads as it did. -/
def fnExactGuestOfSpec : ChangeSpec := { name := "fnExactGuestOf", fn := fun _ => fun
  | [d] => { results := [.lit (.bool true)], args := [d] }
  | _ => none }
def fnExactGuestOfRow : OpenClaim := { program := "ythnpooffhopnkaa", sum := "769ea18589c3d20e90077d7894ff3113949eb9fe8a21f4a55f92e55f7e6affcb", func := "loop.example/g00456/laws.FnExactGuestOf", spec := "fnExactGuestOf", unfollowed := true, recurses := true, apart := false }
def FnExactGuestOfSaid : Prop := fnExactGuestOfRow.holds Try.pinned (OpenSpec.ofChange fnExactGuestOfSpec)

/-- ITS FALSE NEIGHBOUR: 'it returns false'. Refute it at one input. -/
def fnExactGuestOfWrong : ChangeSpec := { name := "fnExactGuestOf", fn := fun _ => fun
  | [d] => { results := [.lit (.bool false)], args := [d] }
  | _ => none }
def FnExactGuestOfWrongFalsely : Prop := fnExactGuestOfRow.holds Try.pinned (OpenSpec.ofChange fnExactGuestOfWrong)

/-- 'laws.FnExactGuestDo': WHATEVER THE INPUT: true; the input reads as it did. -/
def fnExactGuestDoSpec : ChangeSpec := { name := "fnExactGuestDo", fn := fun _ => fun
  | [d1, d2] => { results := [.lit (.bool true)], args := [d1, d2] }
  | _ => none }
def fnExactGuestDoRow : OpenClaim := { program := "ythnpooffhopnkaa", sum := "769ea18589c3d20e90077d7894ff3113949eb9fe8a21f4a55f92e55f7e6affcb", func := "loop.example/g00456/laws.FnExactGuestDo", spec := "fnExactGuestDo", unfollowed := true, recurses := true, apart := false }
def FnExactGuestDoSaid : Prop := fnExactGuestDoRow.holds Try.pinned (OpenSpec.ofChange fnExactGuestDoSpec)

/-- ITS FALSE NEIGHBOUR: 'it returns false'. Refute it at one input. -/
def fnExactGuestDoWrong : ChangeSpec := { name := "fnExactGuestDo", fn := fun _ => fun
  | [d1, d2] => { results := [.lit (.bool false)], args := [d1, d2] }
  | _ => none }
def FnExactGuestDoWrongFalsely : Prop := fnExactGuestDoRow.holds Try.pinned (OpenSpec.ofChange fnExactGuestDoWrong)

/-- 'laws.FnExactSameGuest': WHATEVER THE INPUT: true; the input reads as it did. -/
def fnExactSameGuestSpec : ChangeSpec := { name := "fnExactSameGuest", fn := fun _ => fun
  | [d1, d2] => { results := [.lit (.bool true)], args := [d1, d2] }
  | _ => none }
def fnExactSameGuestRow : OpenClaim := { program := "ythnpooffhopnkaa", sum := "769ea18589c3d20e90077d7894ff3113949eb9fe8a21f4a55f92e55f7e6affcb", func := "loop.example/g00456/laws.FnExactSameGuest", spec := "fnExactSameGuest", unfollowed := true, recurses := true, apart := false }
def FnExactSameGuestSaid : Prop := fnExactSameGuestRow.holds Try.pinned (OpenSpec.ofChange fnExactSameGuestSpec)

/-- ITS FALSE NEIGHBOUR: 'it returns false'. Refute it at one input. -/
def fnExactSameGuestWrong : ChangeSpec := { name := "fnExactSameGuest", fn := fun _ => fun
  | [d1, d2] => { results := [.lit (.bool false)], args := [d1, d2] }
  | _ => none }
def FnExactSameGuestWrongFalsely : Prop := fnExactSameGuestRow.holds Try.pinned (OpenSpec.ofChange fnExactSameGuestWrong)

/- THE SECOND FORM. 'bulk': how many values and letters a reading holds, each counted each time it is reached (what is shared counts as often as it is met; a slice's spare places count too). A statement '..UptoSaid' is the law's where the arguments, and the package variables that the reading takes, are together of bulk at most 1048576: NARROWER than '..Said'. Prove '..Said' where nothing that the law and all that it calls make is longer than what came in: it says more and counts as full. Else prove '..UptoSaid'. A law counts once. -/
mutual
def uptoBulk {H : Type} : DataW H → Nat
  | .lit (.string bytes) => bytes.length + 1
  | .lit _ => 1
  | .nil => 1
  | .ptr d => uptoBulk d + 1
  | .slice elems spare => uptoBulkAll elems + uptoBulkAll spare + 1
  | .agg parts => uptoBulkAll parts + 1
  | .iface _ d => uptoBulk d + 1
  | .map entries => uptoBulkEntries entries + 1
  | .held _ => 1
def uptoBulkAll {H : Type} : List (DataW H) → Nat
  | [] => 0
  | d :: r => uptoBulk d + uptoBulkAll r
def uptoBulkEntries {H : Type} : List (Lit × DataW H) → Nat
  | [] => 0
  | x :: r => uptoBulkEntry x + uptoBulkEntries r
def uptoBulkEntry {H : Type} : Lit × DataW H → Nat
  | (.string bytes, d) => bytes.length + uptoBulk d + 1
  | (_, d) => uptoBulk d + 1
 end
def uptoSmall : (H : Type) → List (DataW H) → Bool := fun _ ds => decide (uptoBulkAll ds ≤ 1048576)
def OpenSpec.upto (s : _root_.Go.ChangeSpec) : _root_.Go.OpenSpec := { _root_.Go.OpenSpec.ofChange s with cond := some uptoSmall }

/-- 'laws.FnExactGuestOK', WHERE WHAT IT READS IS OF BULK AT MOST 1048576: true; the input reads as it did. -/
def fnExactGuestOKUptoRow : OpenClaim := { program := "ythnpooffhopnkaa", sum := "769ea18589c3d20e90077d7894ff3113949eb9fe8a21f4a55f92e55f7e6affcb", func := "loop.example/g00456/laws.FnExactGuestOK", spec := "fnExactGuestOK", apart := false, narrowed := true }
def FnExactGuestOKUptoSaid : Prop := fnExactGuestOKUptoRow.holds Try.pinned (OpenSpec.upto fnExactGuestOKSpec)

/-- 'laws.FnExactNewGuest', WHERE WHAT IT READS IS OF BULK AT MOST 1048576: true; the input reads as it did. -/
def fnExactNewGuestUptoRow : OpenClaim := { program := "ythnpooffhopnkaa", sum := "769ea18589c3d20e90077d7894ff3113949eb9fe8a21f4a55f92e55f7e6affcb", func := "loop.example/g00456/laws.FnExactNewGuest", spec := "fnExactNewGuest", apart := false, narrowed := true }
def FnExactNewGuestUptoSaid : Prop := fnExactNewGuestUptoRow.holds Try.pinned (OpenSpec.upto fnExactNewGuestSpec)

/-- 'laws.FnExactGuestOf', WHERE WHAT IT READS IS OF BULK AT MOST 1048576: true; the input reads as it did. -/
def fnExactGuestOfUptoRow : OpenClaim := { program := "ythnpooffhopnkaa", sum := "769ea18589c3d20e90077d7894ff3113949eb9fe8a21f4a55f92e55f7e6affcb", func := "loop.example/g00456/laws.FnExactGuestOf", spec := "fnExactGuestOf", unfollowed := true, recurses := true, apart := false, narrowed := true }
def FnExactGuestOfUptoSaid : Prop := fnExactGuestOfUptoRow.holds Try.pinned (OpenSpec.upto fnExactGuestOfSpec)

/-- 'laws.FnExactGuestDo', WHERE WHAT IT READS IS OF BULK AT MOST 1048576: true; the input reads as it did. -/
def fnExactGuestDoUptoRow : OpenClaim := { program := "ythnpooffhopnkaa", sum := "769ea18589c3d20e90077d7894ff3113949eb9fe8a21f4a55f92e55f7e6affcb", func := "loop.example/g00456/laws.FnExactGuestDo", spec := "fnExactGuestDo", unfollowed := true, recurses := true, apart := false, narrowed := true }
def FnExactGuestDoUptoSaid : Prop := fnExactGuestDoUptoRow.holds Try.pinned (OpenSpec.upto fnExactGuestDoSpec)

/-- 'laws.FnExactSameGuest', WHERE WHAT IT READS IS OF BULK AT MOST 1048576: true; the input reads as it did. -/
def fnExactSameGuestUptoRow : OpenClaim := { program := "ythnpooffhopnkaa", sum := "769ea18589c3d20e90077d7894ff3113949eb9fe8a21f4a55f92e55f7e6affcb", func := "loop.example/g00456/laws.FnExactSameGuest", spec := "fnExactSameGuest", unfollowed := true, recurses := true, apart := false, narrowed := true }
def FnExactSameGuestUptoSaid : Prop := fnExactSameGuestUptoRow.holds Try.pinned (OpenSpec.upto fnExactSameGuestSpec)

end Rows
end Go.Proofs.Ythnpooffhopnkaa
