/-
  NARROWER THAN 'FOR EVERY INPUT', by the rows' own cells (each row's printed sentence says how): FnExactReqText: laid · FnExactReadReq: ifaces, laid · FnExactReplyText: laid · FnExactGuestText: laid · FnReqText: ifaces, laid · FnShots: laid.
  DERIVED. THE GIVEN ROWS OF THIS SEAT. 6 by the template 'for every input the law returns true; each argument reads behind the call as it read before'; 0 by the template 'total and deterministic' (their statements: YtkndabnngdjcgaaDoorTotals.lean).
  GIVEN WITH THE SEED: the statements are not yours to turn. If you find one false, say at which input.
  Laid BY PROGRAM, IN A SANDBOX (cutbox-rows.mjs): the forced cells as the released guide's own fill.sh prints them over the translation dc7f65a3bcef272a… (all of the seat's roots in one cut). By AI agents, Wed Nov 11 2026. No macro, syntax, notation, axiom, sorry.
-/
import Derived.Test.YtkndabnngdjcgaaDoorChecked
import GoSem.Claim
import GoSem.ClaimJoined
import GoSem.ClaimMapViews
import Derived.JoinedTies
import Derived.KernelRfl
namespace Go.Proofs.YtkndabnngdjcgaaDoor
/- THE CELL 'sum', in the pinned program and in every row, IS THE sha256 OF THE DUMP (.gsa) THAT YtkndabnngdjcgaaDoorProg.lean LOADS. Nothing in Lean hashes anything: it is a label: what it is worth is what the hold of that sum in a sandbox is worth. -/
noncomputable def Tryd.pinned : Pinned := { name := "ytkndabnngdjcgaadoor", sum := "dc7f65a3bcef272aba345603c251e4a543bc8ff031223a8af6a7eb1193ff7ce7", checked := Tryd.checked }
namespace Rows
def none {H : Type} : Left H := { results := [], args := [] }

/- WHAT THE LISTED PACKAGE-LEVEL VARIABLES READ AS WHEN THE CALL BEGINS. Each datum BY PROGRAM (the guide's laid-datum.mjs) off the statement by which the dump's own 'gosem.cut.vars' lays the variable. In a bare row this is a premise. The card (YtkndabnngdjcgaaDoorCards.lean) ties it to the program's text. -/
def laid_math_bits_deBruijn32tab {H : Type} : DataW H := .agg [.lit (.int .u8 0), .lit (.int .u8 1), .lit (.int .u8 28), .lit (.int .u8 2), .lit (.int .u8 29), .lit (.int .u8 14), .lit (.int .u8 24), .lit (.int .u8 3), .lit (.int .u8 30), .lit (.int .u8 22), .lit (.int .u8 20), .lit (.int .u8 15), .lit (.int .u8 25), .lit (.int .u8 17), .lit (.int .u8 4), .lit (.int .u8 8), .lit (.int .u8 31), .lit (.int .u8 27), .lit (.int .u8 13), .lit (.int .u8 23), .lit (.int .u8 21), .lit (.int .u8 19), .lit (.int .u8 16), .lit (.int .u8 7), .lit (.int .u8 26), .lit (.int .u8 12), .lit (.int .u8 18), .lit (.int .u8 6), .lit (.int .u8 11), .lit (.int .u8 5), .lit (.int .u8 10), .lit (.int .u8 9)]
def laid_math_bits_deBruijn64tab {H : Type} : DataW H := .agg [.lit (.int .u8 0), .lit (.int .u8 1), .lit (.int .u8 56), .lit (.int .u8 2), .lit (.int .u8 57), .lit (.int .u8 49), .lit (.int .u8 28), .lit (.int .u8 3), .lit (.int .u8 61), .lit (.int .u8 58), .lit (.int .u8 42), .lit (.int .u8 50), .lit (.int .u8 38), .lit (.int .u8 29), .lit (.int .u8 17), .lit (.int .u8 4), .lit (.int .u8 62), .lit (.int .u8 47), .lit (.int .u8 59), .lit (.int .u8 36), .lit (.int .u8 45), .lit (.int .u8 43), .lit (.int .u8 51), .lit (.int .u8 22), .lit (.int .u8 53), .lit (.int .u8 39), .lit (.int .u8 33), .lit (.int .u8 30), .lit (.int .u8 24), .lit (.int .u8 18), .lit (.int .u8 12), .lit (.int .u8 5), .lit (.int .u8 63), .lit (.int .u8 55), .lit (.int .u8 48), .lit (.int .u8 27), .lit (.int .u8 60), .lit (.int .u8 41), .lit (.int .u8 37), .lit (.int .u8 16), .lit (.int .u8 46), .lit (.int .u8 35), .lit (.int .u8 44), .lit (.int .u8 21), .lit (.int .u8 52), .lit (.int .u8 32), .lit (.int .u8 23), .lit (.int .u8 11), .lit (.int .u8 54), .lit (.int .u8 26), .lit (.int .u8 40), .lit (.int .u8 15), .lit (.int .u8 34), .lit (.int .u8 20), .lit (.int .u8 31), .lit (.int .u8 10), .lit (.int .u8 25), .lit (.int .u8 14), .lit (.int .u8 19), .lit (.int .u8 9), .lit (.int .u8 13), .lit (.int .u8 8), .lit (.int .u8 7), .lit (.int .u8 6)]
def laid_internal_strconv_uint64pow10 {H : Type} : DataW H := .agg [.lit (.int .u64 1), .lit (.int .u64 10), .lit (.int .u64 100), .lit (.int .u64 1000), .lit (.int .u64 10000), .lit (.int .u64 100000), .lit (.int .u64 1000000), .lit (.int .u64 10000000), .lit (.int .u64 100000000), .lit (.int .u64 1000000000), .lit (.int .u64 10000000000), .lit (.int .u64 100000000000), .lit (.int .u64 1000000000000), .lit (.int .u64 10000000000000), .lit (.int .u64 100000000000000), .lit (.int .u64 1000000000000000), .lit (.int .u64 10000000000000000), .lit (.int .u64 100000000000000000), .lit (.int .u64 1000000000000000000), .lit (.int .u64 10000000000000000000)]
def laid_loop_example_g00456_impl_reqWords {H : Type} : DataW H := .agg [.lit (.string []), .lit (.string [114, 101, 97, 100]), .lit (.string [119, 114, 105, 116, 101]), .lit (.string [122, 101, 114, 111]), .lit (.string [114, 101, 115, 105, 122, 101]), .lit (.string [99, 114, 101, 97, 116, 101]), .lit (.string [100, 101, 108, 101, 116, 101]), .lit (.string [114, 101, 118, 101, 114, 116]), .lit (.string [108, 105, 115, 116])]
def laid_loop_example_g00456_impl_errNoForm {H : Type} : DataW H := .iface "*errors.errorString" (.ptr (.agg [.lit (.string [110, 111, 32, 115, 117, 99, 104, 32, 102, 111, 114, 109])]))
def laid_loop_example_g00456_impl_codeWords {H : Type} : DataW H := .agg [.lit (.string [111, 107]), .lit (.string [98, 97, 100]), .lit (.string [108, 111, 110, 103]), .lit (.string [102, 111, 114, 109]), .lit (.string [114, 97, 110, 103, 101]), .lit (.string [110, 111, 110, 101]), .lit (.string [109, 97, 110, 121]), .lit (.string [102, 117, 108, 108]), .lit (.string [116, 119, 105, 99, 101]), .lit (.string [104, 101, 108, 100]), .lit (.string [102, 101, 110, 99, 101, 100]), .lit (.string [97, 108, 105, 118, 101]), .lit (.string [110, 97, 109, 101]), .lit (.string [115, 116, 97, 108, 101]), .lit (.string [112, 108, 97, 99, 101]), .lit (.string [99, 108, 111, 115, 101, 100]), .lit (.string [111, 112, 101, 110]), .lit (.string [111, 114, 100, 101, 114]), .lit (.string [98, 114, 111, 107, 101, 110]), .lit (.string [97, 98, 111, 114, 116])]

/-- 'laws.FnExactReqText': WHATEVER THE INPUT: true; the input reads as it did. -/
def fnExactReqTextSpec : ChangeSpec := { name := "fnExactReqText", vars := ["loop.example/g00456/impl.reqWords"], fn := fun _ => fun
  | [d, g1] => { results := [.lit (.bool true)], args := [d], vars := [g1] }
  | _ => none }
def fnExactReqTextRow : OpenClaim := { program := "ytkndabnngdjcgaadoor", sum := "dc7f65a3bcef272aba345603c251e4a543bc8ff031223a8af6a7eb1193ff7ce7", func := "loop.example/g00456/laws.FnExactReqText", spec := "fnExactReqText", inPlace := ["internal/abi.NoEscape", "internal/bytealg.MakeNoZero"], recurses := true, named := ["loop.example/g00456/impl.reqWords", "internal/strconv.uint64pow10", "math/bits.deBruijn32tab", "math/bits.deBruijn64tab"], apart := false, laid := [("math/bits.deBruijn32tab", laid_math_bits_deBruijn32tab), ("math/bits.deBruijn64tab", laid_math_bits_deBruijn64tab), ("internal/strconv.uint64pow10", laid_internal_strconv_uint64pow10), ("loop.example/g00456/impl.reqWords", laid_loop_example_g00456_impl_reqWords)] }
def FnExactReqTextSaid : Prop := fnExactReqTextRow.holds Tryd.pinned (OpenSpec.ofChange fnExactReqTextSpec)

/-- ITS FALSE NEIGHBOUR: 'it returns false'. Refute it at one input. -/
def fnExactReqTextWrong : ChangeSpec := { name := "fnExactReqText", vars := ["loop.example/g00456/impl.reqWords"], fn := fun _ => fun
  | [d, g1] => { results := [.lit (.bool false)], args := [d], vars := [g1] }
  | _ => none }
def FnExactReqTextWrongFalsely : Prop := fnExactReqTextRow.holds Tryd.pinned (OpenSpec.ofChange fnExactReqTextWrong)

/-- 'laws.FnExactReadReq': WHATEVER THE INPUT: true; the input reads as it did. -/
def fnExactReadReqSpec : ChangeSpec := { name := "fnExactReadReq", vars := ["loop.example/g00456/impl.errNoForm", "loop.example/g00456/impl.reqWords"], fn := fun _ => fun
  | [d, g1, g2] => { results := [.lit (.bool true)], args := [d], vars := [g1, g2] }
  | _ => none }
def fnExactReadReqRow : OpenClaim := { program := "ytkndabnngdjcgaadoor", sum := "dc7f65a3bcef272aba345603c251e4a543bc8ff031223a8af6a7eb1193ff7ce7", func := "loop.example/g00456/laws.FnExactReadReq", spec := "fnExactReadReq", unfollowed := true, recurses := true, named := ["loop.example/g00456/impl.errNoForm", "loop.example/g00456/impl.reqWords"], ifaces := true, apart := false, laid := [("loop.example/g00456/impl.errNoForm", laid_loop_example_g00456_impl_errNoForm), ("loop.example/g00456/impl.reqWords", laid_loop_example_g00456_impl_reqWords)] }
def FnExactReadReqSaid : Prop := fnExactReadReqRow.holds Tryd.pinned (OpenSpec.ofChange fnExactReadReqSpec)

/-- ITS FALSE NEIGHBOUR: 'it returns false'. Refute it at one input. -/
def fnExactReadReqWrong : ChangeSpec := { name := "fnExactReadReq", vars := ["loop.example/g00456/impl.errNoForm", "loop.example/g00456/impl.reqWords"], fn := fun _ => fun
  | [d, g1, g2] => { results := [.lit (.bool false)], args := [d], vars := [g1, g2] }
  | _ => none }
def FnExactReadReqWrongFalsely : Prop := fnExactReadReqRow.holds Tryd.pinned (OpenSpec.ofChange fnExactReadReqWrong)

/-- 'laws.FnExactReplyText': WHATEVER THE INPUT: true; the input reads as it did. -/
def fnExactReplyTextSpec : ChangeSpec := { name := "fnExactReplyText", vars := ["loop.example/g00456/impl.codeWords"], fn := fun _ => fun
  | [d1, d2, g1] => { results := [.lit (.bool true)], args := [d1, d2], vars := [g1] }
  | _ => none }
def fnExactReplyTextRow : OpenClaim := { program := "ytkndabnngdjcgaadoor", sum := "dc7f65a3bcef272aba345603c251e4a543bc8ff031223a8af6a7eb1193ff7ce7", func := "loop.example/g00456/laws.FnExactReplyText", spec := "fnExactReplyText", inPlace := ["internal/abi.NoEscape", "internal/bytealg.MakeNoZero"], unfollowed := true, recurses := true, named := ["loop.example/g00456/impl.codeWords", "internal/strconv.uint64pow10", "math/bits.deBruijn32tab", "math/bits.deBruijn64tab"], apart := false, laid := [("math/bits.deBruijn32tab", laid_math_bits_deBruijn32tab), ("math/bits.deBruijn64tab", laid_math_bits_deBruijn64tab), ("internal/strconv.uint64pow10", laid_internal_strconv_uint64pow10), ("loop.example/g00456/impl.codeWords", laid_loop_example_g00456_impl_codeWords)] }
def FnExactReplyTextSaid : Prop := fnExactReplyTextRow.holds Tryd.pinned (OpenSpec.ofChange fnExactReplyTextSpec)

/-- ITS FALSE NEIGHBOUR: 'it returns false'. Refute it at one input. -/
def fnExactReplyTextWrong : ChangeSpec := { name := "fnExactReplyText", vars := ["loop.example/g00456/impl.codeWords"], fn := fun _ => fun
  | [d1, d2, g1] => { results := [.lit (.bool false)], args := [d1, d2], vars := [g1] }
  | _ => none }
def FnExactReplyTextWrongFalsely : Prop := fnExactReplyTextRow.holds Tryd.pinned (OpenSpec.ofChange fnExactReplyTextWrong)

/-- 'laws.FnExactGuestText': WHATEVER THE INPUT: true; the input reads as it did. -/
def fnExactGuestTextSpec : ChangeSpec := { name := "fnExactGuestText", fn := fun _ => fun
  | [d] => { results := [.lit (.bool true)], args := [d] }
  | _ => none }
def fnExactGuestTextRow : OpenClaim := { program := "ytkndabnngdjcgaadoor", sum := "dc7f65a3bcef272aba345603c251e4a543bc8ff031223a8af6a7eb1193ff7ce7", func := "loop.example/g00456/laws.FnExactGuestText", spec := "fnExactGuestText", inPlace := ["internal/abi.NoEscape", "internal/bytealg.MakeNoZero"], recurses := true, named := ["internal/strconv.uint64pow10", "math/bits.deBruijn32tab", "math/bits.deBruijn64tab"], apart := false, laid := [("math/bits.deBruijn32tab", laid_math_bits_deBruijn32tab), ("math/bits.deBruijn64tab", laid_math_bits_deBruijn64tab), ("internal/strconv.uint64pow10", laid_internal_strconv_uint64pow10)] }
def FnExactGuestTextSaid : Prop := fnExactGuestTextRow.holds Tryd.pinned (OpenSpec.ofChange fnExactGuestTextSpec)

/-- ITS FALSE NEIGHBOUR: 'it returns false'. Refute it at one input. -/
def fnExactGuestTextWrong : ChangeSpec := { name := "fnExactGuestText", fn := fun _ => fun
  | [d] => { results := [.lit (.bool false)], args := [d] }
  | _ => none }
def FnExactGuestTextWrongFalsely : Prop := fnExactGuestTextRow.holds Tryd.pinned (OpenSpec.ofChange fnExactGuestTextWrong)

/-- 'laws.FnReqText': WHATEVER THE INPUT: true; the input reads as it did. -/
def fnReqTextSpec : ChangeSpec := { name := "fnReqText", vars := ["loop.example/g00456/impl.reqWords", "loop.example/g00456/impl.errNoForm"], fn := fun _ => fun
  | [d, g1, g2] => { results := [.lit (.bool true)], args := [d], vars := [g1, g2] }
  | _ => none }
def fnReqTextRow : OpenClaim := { program := "ytkndabnngdjcgaadoor", sum := "dc7f65a3bcef272aba345603c251e4a543bc8ff031223a8af6a7eb1193ff7ce7", func := "loop.example/g00456/laws.FnReqText", spec := "fnReqText", inPlace := ["internal/abi.NoEscape", "internal/bytealg.MakeNoZero"], unfollowed := true, recurses := true, named := ["loop.example/g00456/impl.reqWords", "internal/strconv.uint64pow10", "math/bits.deBruijn32tab", "math/bits.deBruijn64tab", "loop.example/g00456/impl.errNoForm"], ifaces := true, apart := false, laid := [("math/bits.deBruijn32tab", laid_math_bits_deBruijn32tab), ("math/bits.deBruijn64tab", laid_math_bits_deBruijn64tab), ("internal/strconv.uint64pow10", laid_internal_strconv_uint64pow10), ("loop.example/g00456/impl.errNoForm", laid_loop_example_g00456_impl_errNoForm), ("loop.example/g00456/impl.reqWords", laid_loop_example_g00456_impl_reqWords)] }
def FnReqTextSaid : Prop := fnReqTextRow.holds Tryd.pinned (OpenSpec.ofChange fnReqTextSpec)

/-- ITS FALSE NEIGHBOUR: 'it returns false'. Refute it at one input. -/
def fnReqTextWrong : ChangeSpec := { name := "fnReqText", vars := ["loop.example/g00456/impl.reqWords", "loop.example/g00456/impl.errNoForm"], fn := fun _ => fun
  | [d, g1, g2] => { results := [.lit (.bool false)], args := [d], vars := [g1, g2] }
  | _ => none }
def FnReqTextWrongFalsely : Prop := fnReqTextRow.holds Tryd.pinned (OpenSpec.ofChange fnReqTextWrong)

/-- 'laws.FnShots': WHATEVER THE INPUT: true; the input reads as it did. -/
def fnShotsSpec : ChangeSpec := { name := "fnShots", fn := fun _ => fun
  | [d1, d2] => { results := [.lit (.bool true)], args := [d1, d2] }
  | _ => none }
def fnShotsRow : OpenClaim := { program := "ytkndabnngdjcgaadoor", sum := "dc7f65a3bcef272aba345603c251e4a543bc8ff031223a8af6a7eb1193ff7ce7", func := "loop.example/g00456/laws.FnShots", spec := "fnShots", inPlace := ["internal/abi.NoEscape", "internal/bytealg.MakeNoZero"], unfollowed := true, recurses := true, named := ["internal/strconv.uint64pow10", "math/bits.deBruijn32tab", "math/bits.deBruijn64tab"], apart := false, laid := [("math/bits.deBruijn32tab", laid_math_bits_deBruijn32tab), ("math/bits.deBruijn64tab", laid_math_bits_deBruijn64tab), ("internal/strconv.uint64pow10", laid_internal_strconv_uint64pow10)] }
def FnShotsSaid : Prop := fnShotsRow.holds Tryd.pinned (OpenSpec.ofChange fnShotsSpec)

/-- ITS FALSE NEIGHBOUR: 'it returns false'. Refute it at one input. -/
def fnShotsWrong : ChangeSpec := { name := "fnShots", fn := fun _ => fun
  | [d1, d2] => { results := [.lit (.bool false)], args := [d1, d2] }
  | _ => none }
def FnShotsWrongFalsely : Prop := fnShotsRow.holds Tryd.pinned (OpenSpec.ofChange fnShotsWrong)

/- THE SECOND FORM. 'bulk': how many values and letters a reading holds, each counted each time it is reached (what is shared counts as often as it is met; a slice's spare places count too). A statement '..UptoSaid' is the law's where the arguments, and the package variables that the reading takes, are together of bulk at most 1048576: NARROWER than '..Said'. Prove '..Said' where nothing that the law and all that it calls make is longer than what came in: it says more and counts as full. Else prove '..UptoSaid'. A law counts once. -/
mutual
def uptoBulk {H : Type} : DataW H → Nat
  | .lit (.string bytes) => bytes.length + 1
  | .lit _ => 1
  | .nil => 1
  | .ptr d => uptoBulk d + 1
  | .slice elems spare => uptoBulkAll elems + uptoBulkAll spare + 1
  | .agg parts => uptoBulkAll parts + 1
  | .iface _ d => uptoBulk d + 1
  | .map entries => uptoBulkEntries entries + 1
  | .held _ => 1
def uptoBulkAll {H : Type} : List (DataW H) → Nat
  | [] => 0
  | d :: r => uptoBulk d + uptoBulkAll r
def uptoBulkEntries {H : Type} : List (Lit × DataW H) → Nat
  | [] => 0
  | x :: r => uptoBulkEntry x + uptoBulkEntries r
def uptoBulkEntry {H : Type} : Lit × DataW H → Nat
  | (.string bytes, d) => bytes.length + uptoBulk d + 1
  | (_, d) => uptoBulk d + 1
 end
def uptoSmall : (H : Type) → List (DataW H) → Bool := fun _ ds => decide (uptoBulkAll ds ≤ 1048576)
def OpenSpec.upto (s : _root_.Go.ChangeSpec) : _root_.Go.OpenSpec := { _root_.Go.OpenSpec.ofChange s with cond := some uptoSmall }

/-- 'laws.FnExactReqText', WHERE WHAT IT READS IS OF BULK AT MOST 1048576: true; the input reads as it did. -/
def fnExactReqTextUptoRow : OpenClaim := { program := "ytkndabnngdjcgaadoor", sum := "dc7f65a3bcef272aba345603c251e4a543bc8ff031223a8af6a7eb1193ff7ce7", func := "loop.example/g00456/laws.FnExactReqText", spec := "fnExactReqText", inPlace := ["internal/abi.NoEscape", "internal/bytealg.MakeNoZero"], recurses := true, named := ["loop.example/g00456/impl.reqWords", "internal/strconv.uint64pow10", "math/bits.deBruijn32tab", "math/bits.deBruijn64tab"], apart := false, laid := [("math/bits.deBruijn32tab", laid_math_bits_deBruijn32tab), ("math/bits.deBruijn64tab", laid_math_bits_deBruijn64tab), ("internal/strconv.uint64pow10", laid_internal_strconv_uint64pow10), ("loop.example/g00456/impl.reqWords", laid_loop_example_g00456_impl_reqWords)], narrowed := true }
def FnExactReqTextUptoSaid : Prop := fnExactReqTextUptoRow.holds Tryd.pinned (OpenSpec.upto fnExactReqTextSpec)

/-- 'laws.FnExactReadReq', WHERE WHAT IT READS IS OF BULK AT MOST 1048576: true; the input reads as it did. -/
def fnExactReadReqUptoRow : OpenClaim := { program := "ytkndabnngdjcgaadoor", sum := "dc7f65a3bcef272aba345603c251e4a543bc8ff031223a8af6a7eb1193ff7ce7", func := "loop.example/g00456/laws.FnExactReadReq", spec := "fnExactReadReq", unfollowed := true, recurses := true, named := ["loop.example/g00456/impl.errNoForm", "loop.example/g00456/impl.reqWords"], ifaces := true, apart := false, laid := [("loop.example/g00456/impl.errNoForm", laid_loop_example_g00456_impl_errNoForm), ("loop.example/g00456/impl.reqWords", laid_loop_example_g00456_impl_reqWords)], narrowed := true }
def FnExactReadReqUptoSaid : Prop := fnExactReadReqUptoRow.holds Tryd.pinned (OpenSpec.upto fnExactReadReqSpec)

/-- 'laws.FnExactReplyText', WHERE WHAT IT READS IS OF BULK AT MOST 1048576: true; the input reads as it did. -/
def fnExactReplyTextUptoRow : OpenClaim := { program := "ytkndabnngdjcgaadoor", sum := "dc7f65a3bcef272aba345603c251e4a543bc8ff031223a8af6a7eb1193ff7ce7", func := "loop.example/g00456/laws.FnExactReplyText", spec := "fnExactReplyText", inPlace := ["internal/abi.NoEscape", "internal/bytealg.MakeNoZero"], unfollowed := true, recurses := true, named := ["loop.example/g00456/impl.codeWords", "internal/strconv.uint64pow10", "math/bits.deBruijn32tab", "math/bits.deBruijn64tab"], apart := false, laid := [("math/bits.deBruijn32tab", laid_math_bits_deBruijn32tab), ("math/bits.deBruijn64tab", laid_math_bits_deBruijn64tab), ("internal/strconv.uint64pow10", laid_internal_strconv_uint64pow10), ("loop.example/g00456/impl.codeWords", laid_loop_example_g00456_impl_codeWords)], narrowed := true }
def FnExactReplyTextUptoSaid : Prop := fnExactReplyTextUptoRow.holds Tryd.pinned (OpenSpec.upto fnExactReplyTextSpec)

/-- 'laws.FnExactGuestText', WHERE WHAT IT READS IS OF BULK AT MOST 1048576: true; the input reads as it did. -/
def fnExactGuestTextUptoRow : OpenClaim := { program := "ytkndabnngdjcgaadoor", sum := "dc7f65a3bcef272aba345603c251e4a543bc8ff031223a8af6a7eb1193ff7ce7", func := "loop.example/g00456/laws.FnExactGuestText", spec := "fnExactGuestText", inPlace := ["internal/abi.NoEscape", "internal/bytealg.MakeNoZero"], recurses := true, named := ["internal/strconv.uint64pow10", "math/bits.deBruijn32tab", "math/bits.deBruijn64tab"], apart := false, laid := [("math/bits.deBruijn32tab", laid_math_bits_deBruijn32tab), ("math/bits.deBruijn64tab", laid_math_bits_deBruijn64tab), ("internal/strconv.uint64pow10", laid_internal_strconv_uint64pow10)], narrowed := true }
def FnExactGuestTextUptoSaid : Prop := fnExactGuestTextUptoRow.holds Tryd.pinned (OpenSpec.upto fnExactGuestTextSpec)

/-- 'laws.FnReqText', WHERE WHAT IT READS IS OF BULK AT MOST 1048576: true; the input reads as it did. -/
def fnReqTextUptoRow : OpenClaim := { program := "ytkndabnngdjcgaadoor", sum := "dc7f65a3bcef272aba345603c251e4a543bc8ff031223a8af6a7eb1193ff7ce7", func := "loop.example/g00456/laws.FnReqText", spec := "fnReqText", inPlace := ["internal/abi.NoEscape", "internal/bytealg.MakeNoZero"], unfollowed := true, recurses := true, named := ["loop.example/g00456/impl.reqWords", "internal/strconv.uint64pow10", "math/bits.deBruijn32tab", "math/bits.deBruijn64tab", "loop.example/g00456/impl.errNoForm"], ifaces := true, apart := false, laid := [("math/bits.deBruijn32tab", laid_math_bits_deBruijn32tab), ("math/bits.deBruijn64tab", laid_math_bits_deBruijn64tab), ("internal/strconv.uint64pow10", laid_internal_strconv_uint64pow10), ("loop.example/g00456/impl.errNoForm", laid_loop_example_g00456_impl_errNoForm), ("loop.example/g00456/impl.reqWords", laid_loop_example_g00456_impl_reqWords)], narrowed := true }
def FnReqTextUptoSaid : Prop := fnReqTextUptoRow.holds Tryd.pinned (OpenSpec.upto fnReqTextSpec)

/-- 'laws.FnShots', WHERE WHAT IT READS IS OF BULK AT MOST 1048576: true; the input reads as it did. -/
def fnShotsUptoRow : OpenClaim := { program := "ytkndabnngdjcgaadoor", sum := "dc7f65a3bcef272aba345603c251e4a543bc8ff031223a8af6a7eb1193ff7ce7", func := "loop.example/g00456/laws.FnShots", spec := "fnShots", inPlace := ["internal/abi.NoEscape", "internal/bytealg.MakeNoZero"], unfollowed := true, recurses := true, named := ["internal/strconv.uint64pow10", "math/bits.deBruijn32tab", "math/bits.deBruijn64tab"], apart := false, laid := [("math/bits.deBruijn32tab", laid_math_bits_deBruijn32tab), ("math/bits.deBruijn64tab", laid_math_bits_deBruijn64tab), ("internal/strconv.uint64pow10", laid_internal_strconv_uint64pow10)], narrowed := true }
def FnShotsUptoSaid : Prop := fnShotsUptoRow.holds Tryd.pinned (OpenSpec.upto fnShotsSpec)

end Rows
end Go.Proofs.YtkndabnngdjcgaaDoor
