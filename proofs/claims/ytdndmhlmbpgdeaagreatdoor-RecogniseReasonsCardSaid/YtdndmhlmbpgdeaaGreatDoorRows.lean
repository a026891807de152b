/-
  NARROWER THAN 'FOR EVERY INPUT', by the rows' own cells (each row's printed sentence says how): RecogniseMatchesReference: laid · RecogniseWriteMatchesReference: laid · RecogniseParts: laid · RecogniseWrites: laid · RecogniseReads: laid · RecogniseReasons: laid · RecogniseTables: laid · RecogniseNoticed: laid · RecogniseBounded: laid.
  DERIVED. THE GIVEN ROWS OF THIS SEAT. 9 by the template 'for every input the law returns true; each argument reads behind the call as it read before'; 0 by the template 'total and deterministic' (their statements: YtdndmhlmbpgdeaaGreatDoorTotals.lean).
  GIVEN WITH THE SEED: the statements are not yours to turn. If you find one false, say at which input.
  Laid BY PROGRAM, IN A SANDBOX (cutbox-rows.mjs): the forced cells as the released guide's own fill.sh prints them over the translation fd71b46d8fbd6931… (all of the seat's roots in one cut). By AI agents, Wed Nov 11 2026. No macro, syntax, notation, axiom, sorry.
-/
import Derived.Test.YtdndmhlmbpgdeaaGreatDoorChecked
import GoSem.Claim
import GoSem.ClaimJoined
import GoSem.ClaimMapViews
import Derived.JoinedTies
import Derived.KernelRfl
namespace Go.Proofs.YtdndmhlmbpgdeaaGreatDoor
/- THE CELL 'sum', in the pinned program and in every row, IS THE sha256 OF THE DUMP (.gsa) THAT YtdndmhlmbpgdeaaGreatDoorProg.lean LOADS. Nothing in Lean hashes anything: it is a label: what it is worth is what the hold of that sum in a sandbox is worth. -/
noncomputable def Tryz.pinned : Pinned := { name := "ytdndmhlmbpgdeaagreatdoor", sum := "fd71b46d8fbd6931d4acf123b2e089b1633a24e82d131b29faa4c22681f11455", checked := Tryz.checked }
namespace Rows
def none {H : Type} : Left H := { results := [], args := [] }

/- WHAT THE LISTED PACKAGE-LEVEL VARIABLES READ AS WHEN THE CALL BEGINS. Each datum BY PROGRAM (the guide's laid-datum.mjs) off the statement by which the dump's own 'gosem.cut.vars' lays the variable. In a bare row this is a premise. The card (YtdndmhlmbpgdeaaGreatDoorCards.lean) ties it to the program's text. -/
def laid_math_bits_deBruijn32tab {H : Type} : DataW H := .agg [.lit (.int .u8 0), .lit (.int .u8 1), .lit (.int .u8 28), .lit (.int .u8 2), .lit (.int .u8 29), .lit (.int .u8 14), .lit (.int .u8 24), .lit (.int .u8 3), .lit (.int .u8 30), .lit (.int .u8 22), .lit (.int .u8 20), .lit (.int .u8 15), .lit (.int .u8 25), .lit (.int .u8 17), .lit (.int .u8 4), .lit (.int .u8 8), .lit (.int .u8 31), .lit (.int .u8 27), .lit (.int .u8 13), .lit (.int .u8 23), .lit (.int .u8 21), .lit (.int .u8 19), .lit (.int .u8 16), .lit (.int .u8 7), .lit (.int .u8 26), .lit (.int .u8 12), .lit (.int .u8 18), .lit (.int .u8 6), .lit (.int .u8 11), .lit (.int .u8 5), .lit (.int .u8 10), .lit (.int .u8 9)]
def laid_math_bits_deBruijn64tab {H : Type} : DataW H := .agg [.lit (.int .u8 0), .lit (.int .u8 1), .lit (.int .u8 56), .lit (.int .u8 2), .lit (.int .u8 57), .lit (.int .u8 49), .lit (.int .u8 28), .lit (.int .u8 3), .lit (.int .u8 61), .lit (.int .u8 58), .lit (.int .u8 42), .lit (.int .u8 50), .lit (.int .u8 38), .lit (.int .u8 29), .lit (.int .u8 17), .lit (.int .u8 4), .lit (.int .u8 62), .lit (.int .u8 47), .lit (.int .u8 59), .lit (.int .u8 36), .lit (.int .u8 45), .lit (.int .u8 43), .lit (.int .u8 51), .lit (.int .u8 22), .lit (.int .u8 53), .lit (.int .u8 39), .lit (.int .u8 33), .lit (.int .u8 30), .lit (.int .u8 24), .lit (.int .u8 18), .lit (.int .u8 12), .lit (.int .u8 5), .lit (.int .u8 63), .lit (.int .u8 55), .lit (.int .u8 48), .lit (.int .u8 27), .lit (.int .u8 60), .lit (.int .u8 41), .lit (.int .u8 37), .lit (.int .u8 16), .lit (.int .u8 46), .lit (.int .u8 35), .lit (.int .u8 44), .lit (.int .u8 21), .lit (.int .u8 52), .lit (.int .u8 32), .lit (.int .u8 23), .lit (.int .u8 11), .lit (.int .u8 54), .lit (.int .u8 26), .lit (.int .u8 40), .lit (.int .u8 15), .lit (.int .u8 34), .lit (.int .u8 20), .lit (.int .u8 31), .lit (.int .u8 10), .lit (.int .u8 25), .lit (.int .u8 14), .lit (.int .u8 19), .lit (.int .u8 9), .lit (.int .u8 13), .lit (.int .u8 8), .lit (.int .u8 7), .lit (.int .u8 6)]
def laid_internal_strconv_uint64pow10 {H : Type} : DataW H := .agg [.lit (.int .u64 1), .lit (.int .u64 10), .lit (.int .u64 100), .lit (.int .u64 1000), .lit (.int .u64 10000), .lit (.int .u64 100000), .lit (.int .u64 1000000), .lit (.int .u64 10000000), .lit (.int .u64 100000000), .lit (.int .u64 1000000000), .lit (.int .u64 10000000000), .lit (.int .u64 100000000000), .lit (.int .u64 1000000000000), .lit (.int .u64 10000000000000), .lit (.int .u64 100000000000000), .lit (.int .u64 1000000000000000), .lit (.int .u64 10000000000000000), .lit (.int .u64 100000000000000000), .lit (.int .u64 1000000000000000000), .lit (.int .u64 10000000000000000000)]
def laid_errors_errorType {H : Type} : DataW H := .iface "internal/reflectlite.rtype" (.agg [.ptr (.lit (.string [101, 114, 114, 111, 114]))])
def laid_strconv_ErrRange {H : Type} : DataW H := .iface "*errors.errorString" (.ptr (.agg [.lit (.string [118, 97, 108, 117, 101, 32, 111, 117, 116, 32, 111, 102, 32, 114, 97, 110, 103, 101])]))
def laid_strconv_ErrSyntax {H : Type} : DataW H := .iface "*errors.errorString" (.ptr (.agg [.lit (.string [105, 110, 118, 97, 108, 105, 100, 32, 115, 121, 110, 116, 97, 120])]))
def laid_evergreen_format_errWrong {H : Type} : DataW H := .iface "*errors.errorString" (.ptr (.agg [.lit (.string [102, 111, 114, 109, 97, 116, 58, 32, 110, 111, 116, 32, 118, 97, 108, 105, 100])]))

/-- 'evergreenlaw05.RecogniseMatchesReference': WHATEVER THE INPUT: true; the input reads as it did. -/
def recogniseMatchesReferenceSpec : ChangeSpec := { name := "recogniseMatchesReference", fn := fun _ => fun
  | [d1, d2, d3, d4, d5, d6, d7, d8] => { results := [.lit (.bool true)], args := [d1, d2, d3, d4, d5, d6, d7, d8] }
  | _ => none }
def recogniseMatchesReferenceRow : OpenClaim := { program := "ytdndmhlmbpgdeaagreatdoor", sum := "fd71b46d8fbd6931d4acf123b2e089b1633a24e82d131b29faa4c22681f11455", func := "evergreen/evergreenlaw05.RecogniseMatchesReference", spec := "recogniseMatchesReference", inPlace := ["internal/abi.NoEscape", "internal/reflectlite.ValueOf", "(internal/reflectlite.Value).Type", "(internal/reflectlite.Value).IsNil", "internal/reflectlite.TypeOf", "(internal/reflectlite.Value).Elem", "(internal/reflectlite.Value).Set"], unfollowed := true, recurses := true, named := ["evergreen/format.errWrong", "strconv.ErrSyntax", "strconv.ErrRange", "internal/strconv.uint64pow10", "math/bits.deBruijn32tab", "math/bits.deBruijn64tab", "errors.errorType"], apart := false, laid := [("math/bits.deBruijn32tab", laid_math_bits_deBruijn32tab), ("math/bits.deBruijn64tab", laid_math_bits_deBruijn64tab), ("internal/strconv.uint64pow10", laid_internal_strconv_uint64pow10), ("errors.errorType", laid_errors_errorType), ("strconv.ErrRange", laid_strconv_ErrRange), ("strconv.ErrSyntax", laid_strconv_ErrSyntax), ("evergreen/format.errWrong", laid_evergreen_format_errWrong)] }
def RecogniseMatchesReferenceSaid : Prop := recogniseMatchesReferenceRow.holds Tryz.pinned (OpenSpec.ofChange recogniseMatchesReferenceSpec)

/-- ITS FALSE NEIGHBOUR: 'it returns false'. Refute it at one input. -/
def recogniseMatchesReferenceWrong : ChangeSpec := { name := "recogniseMatchesReference", fn := fun _ => fun
  | [d1, d2, d3, d4, d5, d6, d7, d8] => { results := [.lit (.bool false)], args := [d1, d2, d3, d4, d5, d6, d7, d8] }
  | _ => none }
def RecogniseMatchesReferenceWrongFalsely : Prop := recogniseMatchesReferenceRow.holds Tryz.pinned (OpenSpec.ofChange recogniseMatchesReferenceWrong)

/-- 'evergreenlaw05.RecogniseWriteMatchesReference': WHATEVER THE INPUT: true; the input reads as it did. -/
def recogniseWriteMatchesReferenceSpec : ChangeSpec := { name := "recogniseWriteMatchesReference", fn := fun _ => fun
  | [d1, d2, d3, d4, d5, d6] => { results := [.lit (.bool true)], args := [d1, d2, d3, d4, d5, d6] }
  | _ => none }
def recogniseWriteMatchesReferenceRow : OpenClaim := { program := "ytdndmhlmbpgdeaagreatdoor", sum := "fd71b46d8fbd6931d4acf123b2e089b1633a24e82d131b29faa4c22681f11455", func := "evergreen/evergreenlaw05.RecogniseWriteMatchesReference", spec := "recogniseWriteMatchesReference", inPlace := ["internal/abi.NoEscape", "internal/reflectlite.ValueOf", "(internal/reflectlite.Value).Type", "(internal/reflectlite.Value).IsNil", "internal/reflectlite.TypeOf", "(internal/reflectlite.Value).Elem", "(internal/reflectlite.Value).Set"], unfollowed := true, recurses := true, named := ["evergreen/format.errWrong", "strconv.ErrSyntax", "strconv.ErrRange", "internal/strconv.uint64pow10", "math/bits.deBruijn32tab", "math/bits.deBruijn64tab", "errors.errorType"], apart := false, laid := [("math/bits.deBruijn32tab", laid_math_bits_deBruijn32tab), ("math/bits.deBruijn64tab", laid_math_bits_deBruijn64tab), ("internal/strconv.uint64pow10", laid_internal_strconv_uint64pow10), ("errors.errorType", laid_errors_errorType), ("strconv.ErrRange", laid_strconv_ErrRange), ("strconv.ErrSyntax", laid_strconv_ErrSyntax), ("evergreen/format.errWrong", laid_evergreen_format_errWrong)] }
def RecogniseWriteMatchesReferenceSaid : Prop := recogniseWriteMatchesReferenceRow.holds Tryz.pinned (OpenSpec.ofChange recogniseWriteMatchesReferenceSpec)

/-- ITS FALSE NEIGHBOUR: 'it returns false'. Refute it at one input. -/
def recogniseWriteMatchesReferenceWrong : ChangeSpec := { name := "recogniseWriteMatchesReference", fn := fun _ => fun
  | [d1, d2, d3, d4, d5, d6] => { results := [.lit (.bool false)], args := [d1, d2, d3, d4, d5, d6] }
  | _ => none }
def RecogniseWriteMatchesReferenceWrongFalsely : Prop := recogniseWriteMatchesReferenceRow.holds Tryz.pinned (OpenSpec.ofChange recogniseWriteMatchesReferenceWrong)

/-- 'evergreenlaw05.RecogniseParts': WHATEVER THE INPUT: true; the input reads as it did. -/
def recognisePartsSpec : ChangeSpec := { name := "recogniseParts", fn := fun _ => fun
  | [d1, d2, d3] => { results := [.lit (.bool true)], args := [d1, d2, d3] }
  | _ => none }
def recognisePartsRow : OpenClaim := { program := "ytdndmhlmbpgdeaagreatdoor", sum := "fd71b46d8fbd6931d4acf123b2e089b1633a24e82d131b29faa4c22681f11455", func := "evergreen/evergreenlaw05.RecogniseParts", spec := "recogniseParts", inPlace := ["internal/abi.NoEscape", "internal/reflectlite.ValueOf", "(internal/reflectlite.Value).Type", "(internal/reflectlite.Value).IsNil", "internal/reflectlite.TypeOf", "(internal/reflectlite.Value).Elem", "(internal/reflectlite.Value).Set"], unfollowed := true, recurses := true, named := ["evergreen/format.errWrong", "strconv.ErrSyntax", "strconv.ErrRange", "internal/strconv.uint64pow10", "math/bits.deBruijn32tab", "math/bits.deBruijn64tab", "errors.errorType"], apart := false, laid := [("math/bits.deBruijn32tab", laid_math_bits_deBruijn32tab), ("math/bits.deBruijn64tab", laid_math_bits_deBruijn64tab), ("internal/strconv.uint64pow10", laid_internal_strconv_uint64pow10), ("errors.errorType", laid_errors_errorType), ("strconv.ErrRange", laid_strconv_ErrRange), ("strconv.ErrSyntax", laid_strconv_ErrSyntax), ("evergreen/format.errWrong", laid_evergreen_format_errWrong)] }
def RecognisePartsSaid : Prop := recognisePartsRow.holds Tryz.pinned (OpenSpec.ofChange recognisePartsSpec)

/-- ITS FALSE NEIGHBOUR: 'it returns false'. Refute it at one input. -/
def recognisePartsWrong : ChangeSpec := { name := "recogniseParts", fn := fun _ => fun
  | [d1, d2, d3] => { results := [.lit (.bool false)], args := [d1, d2, d3] }
  | _ => none }
def RecognisePartsWrongFalsely : Prop := recognisePartsRow.holds Tryz.pinned (OpenSpec.ofChange recognisePartsWrong)

/-- 'evergreenlaw05.RecogniseWrites': WHATEVER THE INPUT: true; the input reads as it did. -/
def recogniseWritesSpec : ChangeSpec := { name := "recogniseWrites", fn := fun _ => fun
  | [d1, d2, d3] => { results := [.lit (.bool true)], args := [d1, d2, d3] }
  | _ => none }
def recogniseWritesRow : OpenClaim := { program := "ytdndmhlmbpgdeaagreatdoor", sum := "fd71b46d8fbd6931d4acf123b2e089b1633a24e82d131b29faa4c22681f11455", func := "evergreen/evergreenlaw05.RecogniseWrites", spec := "recogniseWrites", inPlace := ["internal/abi.NoEscape", "internal/reflectlite.ValueOf", "(internal/reflectlite.Value).Type", "(internal/reflectlite.Value).IsNil", "internal/reflectlite.TypeOf", "(internal/reflectlite.Value).Elem", "(internal/reflectlite.Value).Set"], unfollowed := true, recurses := true, named := ["evergreen/format.errWrong", "strconv.ErrSyntax", "strconv.ErrRange", "internal/strconv.uint64pow10", "math/bits.deBruijn32tab", "math/bits.deBruijn64tab", "errors.errorType"], apart := false, laid := [("math/bits.deBruijn32tab", laid_math_bits_deBruijn32tab), ("math/bits.deBruijn64tab", laid_math_bits_deBruijn64tab), ("internal/strconv.uint64pow10", laid_internal_strconv_uint64pow10), ("errors.errorType", laid_errors_errorType), ("strconv.ErrRange", laid_strconv_ErrRange), ("strconv.ErrSyntax", laid_strconv_ErrSyntax), ("evergreen/format.errWrong", laid_evergreen_format_errWrong)] }
def RecogniseWritesSaid : Prop := recogniseWritesRow.holds Tryz.pinned (OpenSpec.ofChange recogniseWritesSpec)

/-- ITS FALSE NEIGHBOUR: 'it returns false'. Refute it at one input. -/
def recogniseWritesWrong : ChangeSpec := { name := "recogniseWrites", fn := fun _ => fun
  | [d1, d2, d3] => { results := [.lit (.bool false)], args := [d1, d2, d3] }
  | _ => none }
def RecogniseWritesWrongFalsely : Prop := recogniseWritesRow.holds Tryz.pinned (OpenSpec.ofChange recogniseWritesWrong)

/-- 'evergreenlaw05.RecogniseReads': WHATEVER THE INPUT: true; the input reads as it did. -/
def recogniseReadsSpec : ChangeSpec := { name := "recogniseReads", fn := fun _ => fun
  | [d1, d2, d3, d4, d5, d6] => { results := [.lit (.bool true)], args := [d1, d2, d3, d4, d5, d6] }
  | _ => none }
def recogniseReadsRow : OpenClaim := { program := "ytdndmhlmbpgdeaagreatdoor", sum := "fd71b46d8fbd6931d4acf123b2e089b1633a24e82d131b29faa4c22681f11455", func := "evergreen/evergreenlaw05.RecogniseReads", spec := "recogniseReads", inPlace := ["internal/abi.NoEscape", "internal/reflectlite.ValueOf", "(internal/reflectlite.Value).Type", "(internal/reflectlite.Value).IsNil", "internal/reflectlite.TypeOf", "(internal/reflectlite.Value).Elem", "(internal/reflectlite.Value).Set"], unfollowed := true, recurses := true, named := ["evergreen/format.errWrong", "strconv.ErrSyntax", "strconv.ErrRange", "internal/strconv.uint64pow10", "math/bits.deBruijn32tab", "math/bits.deBruijn64tab", "errors.errorType"], apart := false, laid := [("math/bits.deBruijn32tab", laid_math_bits_deBruijn32tab), ("math/bits.deBruijn64tab", laid_math_bits_deBruijn64tab), ("internal/strconv.uint64pow10", laid_internal_strconv_uint64pow10), ("errors.errorType", laid_errors_errorType), ("strconv.ErrRange", laid_strconv_ErrRange), ("strconv.ErrSyntax", laid_strconv_ErrSyntax), ("evergreen/format.errWrong", laid_evergreen_format_errWrong)] }
def RecogniseReadsSaid : Prop := recogniseReadsRow.holds Tryz.pinned (OpenSpec.ofChange recogniseReadsSpec)

/-- ITS FALSE NEIGHBOUR: 'it returns false'. Refute it at one input. -/
def recogniseReadsWrong : ChangeSpec := { name := "recogniseReads", fn := fun _ => fun
  | [d1, d2, d3, d4, d5, d6] => { results := [.lit (.bool false)], args := [d1, d2, d3, d4, d5, d6] }
  | _ => none }
def RecogniseReadsWrongFalsely : Prop := recogniseReadsRow.holds Tryz.pinned (OpenSpec.ofChange recogniseReadsWrong)

/-- 'evergreenlaw05.RecogniseReasons': WHATEVER THE INPUT: true; the input reads as it did. -/
def recogniseReasonsSpec : ChangeSpec := { name := "recogniseReasons", fn := fun _ => fun
  | [d1, d2, d3, d4, d5, d6] => { results := [.lit (.bool true)], args := [d1, d2, d3, d4, d5, d6] }
  | _ => none }
def recogniseReasonsRow : OpenClaim := { program := "ytdndmhlmbpgdeaagreatdoor", sum := "fd71b46d8fbd6931d4acf123b2e089b1633a24e82d131b29faa4c22681f11455", func := "evergreen/evergreenlaw05.RecogniseReasons", spec := "recogniseReasons", inPlace := ["internal/abi.NoEscape", "internal/reflectlite.ValueOf", "(internal/reflectlite.Value).Type", "(internal/reflectlite.Value).IsNil", "internal/reflectlite.TypeOf", "(internal/reflectlite.Value).Elem", "(internal/reflectlite.Value).Set"], unfollowed := true, recurses := true, named := ["evergreen/format.errWrong", "strconv.ErrSyntax", "strconv.ErrRange", "internal/strconv.uint64pow10", "math/bits.deBruijn32tab", "math/bits.deBruijn64tab", "errors.errorType"], apart := false, laid := [("math/bits.deBruijn32tab", laid_math_bits_deBruijn32tab), ("math/bits.deBruijn64tab", laid_math_bits_deBruijn64tab), ("internal/strconv.uint64pow10", laid_internal_strconv_uint64pow10), ("errors.errorType", laid_errors_errorType), ("strconv.ErrRange", laid_strconv_ErrRange), ("strconv.ErrSyntax", laid_strconv_ErrSyntax), ("evergreen/format.errWrong", laid_evergreen_format_errWrong)] }
def RecogniseReasonsSaid : Prop := recogniseReasonsRow.holds Tryz.pinned (OpenSpec.ofChange recogniseReasonsSpec)

/-- ITS FALSE NEIGHBOUR: 'it returns false'. Refute it at one input. -/
def recogniseReasonsWrong : ChangeSpec := { name := "recogniseReasons", fn := fun _ => fun
  | [d1, d2, d3, d4, d5, d6] => { results := [.lit (.bool false)], args := [d1, d2, d3, d4, d5, d6] }
  | _ => none }
def RecogniseReasonsWrongFalsely : Prop := recogniseReasonsRow.holds Tryz.pinned (OpenSpec.ofChange recogniseReasonsWrong)

/-- 'evergreenlaw05.RecogniseTables': WHATEVER THE INPUT: true; the input reads as it did. -/
def recogniseTablesSpec : ChangeSpec := { name := "recogniseTables", fn := fun _ => fun
  | [d1, d2, d3, d4, d5] => { results := [.lit (.bool true)], args := [d1, d2, d3, d4, d5] }
  | _ => none }
def recogniseTablesRow : OpenClaim := { program := "ytdndmhlmbpgdeaagreatdoor", sum := "fd71b46d8fbd6931d4acf123b2e089b1633a24e82d131b29faa4c22681f11455", func := "evergreen/evergreenlaw05.RecogniseTables", spec := "recogniseTables", inPlace := ["internal/abi.NoEscape", "internal/reflectlite.ValueOf", "(internal/reflectlite.Value).Type", "(internal/reflectlite.Value).IsNil", "internal/reflectlite.TypeOf", "(internal/reflectlite.Value).Elem", "(internal/reflectlite.Value).Set"], unfollowed := true, recurses := true, named := ["evergreen/format.errWrong", "strconv.ErrSyntax", "strconv.ErrRange", "internal/strconv.uint64pow10", "math/bits.deBruijn32tab", "math/bits.deBruijn64tab", "errors.errorType"], apart := false, laid := [("math/bits.deBruijn32tab", laid_math_bits_deBruijn32tab), ("math/bits.deBruijn64tab", laid_math_bits_deBruijn64tab), ("internal/strconv.uint64pow10", laid_internal_strconv_uint64pow10), ("errors.errorType", laid_errors_errorType), ("strconv.ErrRange", laid_strconv_ErrRange), ("strconv.ErrSyntax", laid_strconv_ErrSyntax), ("evergreen/format.errWrong", laid_evergreen_format_errWrong)] }
def RecogniseTablesSaid : Prop := recogniseTablesRow.holds Tryz.pinned (OpenSpec.ofChange recogniseTablesSpec)

/-- ITS FALSE NEIGHBOUR: 'it returns false'. Refute it at one input. -/
def recogniseTablesWrong : ChangeSpec := { name := "recogniseTables", fn := fun _ => fun
  | [d1, d2, d3, d4, d5] => { results := [.lit (.bool false)], args := [d1, d2, d3, d4, d5] }
  | _ => none }
def RecogniseTablesWrongFalsely : Prop := recogniseTablesRow.holds Tryz.pinned (OpenSpec.ofChange recogniseTablesWrong)

/-- 'evergreenlaw05.RecogniseNoticed': WHATEVER THE INPUT: true; the input reads as it did. -/
def recogniseNoticedSpec : ChangeSpec := { name := "recogniseNoticed", fn := fun _ => fun
  | [d1, d2, d3, d4, d5, d6] => { results := [.lit (.bool true)], args := [d1, d2, d3, d4, d5, d6] }
  | _ => none }
def recogniseNoticedRow : OpenClaim := { program := "ytdndmhlmbpgdeaagreatdoor", sum := "fd71b46d8fbd6931d4acf123b2e089b1633a24e82d131b29faa4c22681f11455", func := "evergreen/evergreenlaw05.RecogniseNoticed", spec := "recogniseNoticed", inPlace := ["internal/abi.NoEscape", "internal/reflectlite.ValueOf", "(internal/reflectlite.Value).Type", "(internal/reflectlite.Value).IsNil", "internal/reflectlite.TypeOf", "(internal/reflectlite.Value).Elem", "(internal/reflectlite.Value).Set"], unfollowed := true, recurses := true, named := ["evergreen/format.errWrong", "strconv.ErrSyntax", "strconv.ErrRange", "internal/strconv.uint64pow10", "math/bits.deBruijn32tab", "math/bits.deBruijn64tab", "errors.errorType"], apart := false, laid := [("math/bits.deBruijn32tab", laid_math_bits_deBruijn32tab), ("math/bits.deBruijn64tab", laid_math_bits_deBruijn64tab), ("internal/strconv.uint64pow10", laid_internal_strconv_uint64pow10), ("errors.errorType", laid_errors_errorType), ("strconv.ErrRange", laid_strconv_ErrRange), ("strconv.ErrSyntax", laid_strconv_ErrSyntax), ("evergreen/format.errWrong", laid_evergreen_format_errWrong)] }
def RecogniseNoticedSaid : Prop := recogniseNoticedRow.holds Tryz.pinned (OpenSpec.ofChange recogniseNoticedSpec)

/-- ITS FALSE NEIGHBOUR: 'it returns false'. Refute it at one input. -/
def recogniseNoticedWrong : ChangeSpec := { name := "recogniseNoticed", fn := fun _ => fun
  | [d1, d2, d3, d4, d5, d6] => { results := [.lit (.bool false)], args := [d1, d2, d3, d4, d5, d6] }
  | _ => none }
def RecogniseNoticedWrongFalsely : Prop := recogniseNoticedRow.holds Tryz.pinned (OpenSpec.ofChange recogniseNoticedWrong)

/-- 'evergreenlaw05.RecogniseBounded': WHATEVER THE INPUT: true; the input reads as it did. -/
def recogniseBoundedSpec : ChangeSpec := { name := "recogniseBounded", fn := fun _ => fun
  | [d1, d2] => { results := [.lit (.bool true)], args := [d1, d2] }
  | _ => none }
def recogniseBoundedRow : OpenClaim := { program := "ytdndmhlmbpgdeaagreatdoor", sum := "fd71b46d8fbd6931d4acf123b2e089b1633a24e82d131b29faa4c22681f11455", func := "evergreen/evergreenlaw05.RecogniseBounded", spec := "recogniseBounded", inPlace := ["internal/abi.NoEscape", "internal/reflectlite.ValueOf", "(internal/reflectlite.Value).Type", "(internal/reflectlite.Value).IsNil", "internal/reflectlite.TypeOf", "(internal/reflectlite.Value).Elem", "(internal/reflectlite.Value).Set"], unfollowed := true, recurses := true, named := ["evergreen/format.errWrong", "strconv.ErrSyntax", "strconv.ErrRange", "internal/strconv.uint64pow10", "math/bits.deBruijn32tab", "math/bits.deBruijn64tab", "errors.errorType"], apart := false, laid := [("math/bits.deBruijn32tab", laid_math_bits_deBruijn32tab), ("math/bits.deBruijn64tab", laid_math_bits_deBruijn64tab), ("internal/strconv.uint64pow10", laid_internal_strconv_uint64pow10), ("errors.errorType", laid_errors_errorType), ("strconv.ErrRange", laid_strconv_ErrRange), ("strconv.ErrSyntax", laid_strconv_ErrSyntax), ("evergreen/format.errWrong", laid_evergreen_format_errWrong)] }
def RecogniseBoundedSaid : Prop := recogniseBoundedRow.holds Tryz.pinned (OpenSpec.ofChange recogniseBoundedSpec)

/-- ITS FALSE NEIGHBOUR: 'it returns false'. Refute it at one input. -/
def recogniseBoundedWrong : ChangeSpec := { name := "recogniseBounded", fn := fun _ => fun
  | [d1, d2] => { results := [.lit (.bool false)], args := [d1, d2] }
  | _ => none }
def RecogniseBoundedWrongFalsely : Prop := recogniseBoundedRow.holds Tryz.pinned (OpenSpec.ofChange recogniseBoundedWrong)

/- THE SECOND FORM. 'bulk': how many values and letters a reading holds, each counted each time it is reached (what is shared counts as often as it is met; a slice's spare places count too). A statement '..UptoSaid' is the law's where the arguments, and the package variables that the reading takes, are together of bulk at most 1048576: NARROWER than '..Said'. Prove '..Said' where nothing that the law and all that it calls make is longer than what came in: it says more and counts as full. Else prove '..UptoSaid'. A law counts once. -/
mutual
def uptoBulk {H : Type} : DataW H → Nat
  | .lit (.string bytes) => bytes.length + 1
  | .lit _ => 1
  | .nil => 1
  | .ptr d => uptoBulk d + 1
  | .slice elems spare => uptoBulkAll elems + uptoBulkAll spare + 1
  | .agg parts => uptoBulkAll parts + 1
  | .iface _ d => uptoBulk d + 1
  | .map entries => uptoBulkEntries entries + 1
  | .held _ => 1
def uptoBulkAll {H : Type} : List (DataW H) → Nat
  | [] => 0
  | d :: r => uptoBulk d + uptoBulkAll r
def uptoBulkEntries {H : Type} : List (Lit × DataW H) → Nat
  | [] => 0
  | x :: r => uptoBulkEntry x + uptoBulkEntries r
def uptoBulkEntry {H : Type} : Lit × DataW H → Nat
  | (.string bytes, d) => bytes.length + uptoBulk d + 1
  | (_, d) => uptoBulk d + 1
 end
def uptoSmall : (H : Type) → List (DataW H) → Bool := fun _ ds => decide (uptoBulkAll ds ≤ 1048576)
def OpenSpec.upto (s : _root_.Go.ChangeSpec) : _root_.Go.OpenSpec := { _root_.Go.OpenSpec.ofChange s with cond := some uptoSmall }

/-- 'evergreenlaw05.RecogniseMatchesReference', WHERE WHAT IT READS IS OF BULK AT MOST 1048576: true; the input reads as it did. -/
def recogniseMatchesReferenceUptoRow : OpenClaim := { program := "ytdndmhlmbpgdeaagreatdoor", sum := "fd71b46d8fbd6931d4acf123b2e089b1633a24e82d131b29faa4c22681f11455", func := "evergreen/evergreenlaw05.RecogniseMatchesReference", spec := "recogniseMatchesReference", inPlace := ["internal/abi.NoEscape", "internal/reflectlite.ValueOf", "(internal/reflectlite.Value).Type", "(internal/reflectlite.Value).IsNil", "internal/reflectlite.TypeOf", "(internal/reflectlite.Value).Elem", "(internal/reflectlite.Value).Set"], unfollowed := true, recurses := true, named := ["evergreen/format.errWrong", "strconv.ErrSyntax", "strconv.ErrRange", "internal/strconv.uint64pow10", "math/bits.deBruijn32tab", "math/bits.deBruijn64tab", "errors.errorType"], apart := false, laid := [("math/bits.deBruijn32tab", laid_math_bits_deBruijn32tab), ("math/bits.deBruijn64tab", laid_math_bits_deBruijn64tab), ("internal/strconv.uint64pow10", laid_internal_strconv_uint64pow10), ("errors.errorType", laid_errors_errorType), ("strconv.ErrRange", laid_strconv_ErrRange), ("strconv.ErrSyntax", laid_strconv_ErrSyntax), ("evergreen/format.errWrong", laid_evergreen_format_errWrong)], narrowed := true }
def RecogniseMatchesReferenceUptoSaid : Prop := recogniseMatchesReferenceUptoRow.holds Tryz.pinned (OpenSpec.upto recogniseMatchesReferenceSpec)

/-- 'evergreenlaw05.RecogniseWriteMatchesReference', WHERE WHAT IT READS IS OF BULK AT MOST 1048576: true; the input reads as it did. -/
def recogniseWriteMatchesReferenceUptoRow : OpenClaim := { program := "ytdndmhlmbpgdeaagreatdoor", sum := "fd71b46d8fbd6931d4acf123b2e089b1633a24e82d131b29faa4c22681f11455", func := "evergreen/evergreenlaw05.RecogniseWriteMatchesReference", spec := "recogniseWriteMatchesReference", inPlace := ["internal/abi.NoEscape", "internal/reflectlite.ValueOf", "(internal/reflectlite.Value).Type", "(internal/reflectlite.Value).IsNil", "internal/reflectlite.TypeOf", "(internal/reflectlite.Value).Elem", "(internal/reflectlite.Value).Set"], unfollowed := true, recurses := true, named := ["evergreen/format.errWrong", "strconv.ErrSyntax", "strconv.ErrRange", "internal/strconv.uint64pow10", "math/bits.deBruijn32tab", "math/bits.deBruijn64tab", "errors.errorType"], apart := false, laid := [("math/bits.deBruijn32tab", laid_math_bits_deBruijn32tab), ("math/bits.deBruijn64tab", laid_math_bits_deBruijn64tab), ("internal/strconv.uint64pow10", laid_internal_strconv_uint64pow10), ("errors.errorType", laid_errors_errorType), ("strconv.ErrRange", laid_strconv_ErrRange), ("strconv.ErrSyntax", laid_strconv_ErrSyntax), ("evergreen/format.errWrong", laid_evergreen_format_errWrong)], narrowed := true }
def RecogniseWriteMatchesReferenceUptoSaid : Prop := recogniseWriteMatchesReferenceUptoRow.holds Tryz.pinned (OpenSpec.upto recogniseWriteMatchesReferenceSpec)

/-- 'evergreenlaw05.RecogniseParts', WHERE WHAT IT READS IS OF BULK AT MOST 1048576: true; the input reads as it did. -/
def recognisePartsUptoRow : OpenClaim := { program := "ytdndmhlmbpgdeaagreatdoor", sum := "fd71b46d8fbd6931d4acf123b2e089b1633a24e82d131b29faa4c22681f11455", func := "evergreen/evergreenlaw05.RecogniseParts", spec := "recogniseParts", inPlace := ["internal/abi.NoEscape", "internal/reflectlite.ValueOf", "(internal/reflectlite.Value).Type", "(internal/reflectlite.Value).IsNil", "internal/reflectlite.TypeOf", "(internal/reflectlite.Value).Elem", "(internal/reflectlite.Value).Set"], unfollowed := true, recurses := true, named := ["evergreen/format.errWrong", "strconv.ErrSyntax", "strconv.ErrRange", "internal/strconv.uint64pow10", "math/bits.deBruijn32tab", "math/bits.deBruijn64tab", "errors.errorType"], apart := false, laid := [("math/bits.deBruijn32tab", laid_math_bits_deBruijn32tab), ("math/bits.deBruijn64tab", laid_math_bits_deBruijn64tab), ("internal/strconv.uint64pow10", laid_internal_strconv_uint64pow10), ("errors.errorType", laid_errors_errorType), ("strconv.ErrRange", laid_strconv_ErrRange), ("strconv.ErrSyntax", laid_strconv_ErrSyntax), ("evergreen/format.errWrong", laid_evergreen_format_errWrong)], narrowed := true }
def RecognisePartsUptoSaid : Prop := recognisePartsUptoRow.holds Tryz.pinned (OpenSpec.upto recognisePartsSpec)

/-- 'evergreenlaw05.RecogniseWrites', WHERE WHAT IT READS IS OF BULK AT MOST 1048576: true; the input reads as it did. -/
def recogniseWritesUptoRow : OpenClaim := { program := "ytdndmhlmbpgdeaagreatdoor", sum := "fd71b46d8fbd6931d4acf123b2e089b1633a24e82d131b29faa4c22681f11455", func := "evergreen/evergreenlaw05.RecogniseWrites", spec := "recogniseWrites", inPlace := ["internal/abi.NoEscape", "internal/reflectlite.ValueOf", "(internal/reflectlite.Value).Type", "(internal/reflectlite.Value).IsNil", "internal/reflectlite.TypeOf", "(internal/reflectlite.Value).Elem", "(internal/reflectlite.Value).Set"], unfollowed := true, recurses := true, named := ["evergreen/format.errWrong", "strconv.ErrSyntax", "strconv.ErrRange", "internal/strconv.uint64pow10", "math/bits.deBruijn32tab", "math/bits.deBruijn64tab", "errors.errorType"], apart := false, laid := [("math/bits.deBruijn32tab", laid_math_bits_deBruijn32tab), ("math/bits.deBruijn64tab", laid_math_bits_deBruijn64tab), ("internal/strconv.uint64pow10", laid_internal_strconv_uint64pow10), ("errors.errorType", laid_errors_errorType), ("strconv.ErrRange", laid_strconv_ErrRange), ("strconv.ErrSyntax", laid_strconv_ErrSyntax), ("evergreen/format.errWrong", laid_evergreen_format_errWrong)], narrowed := true }
def RecogniseWritesUptoSaid : Prop := recogniseWritesUptoRow.holds Tryz.pinned (OpenSpec.upto recogniseWritesSpec)

/-- 'evergreenlaw05.RecogniseReads', WHERE WHAT IT READS IS OF BULK AT MOST 1048576: true; the input reads as it did. -/
def recogniseReadsUptoRow : OpenClaim := { program := "ytdndmhlmbpgdeaagreatdoor", sum := "fd71b46d8fbd6931d4acf123b2e089b1633a24e82d131b29faa4c22681f11455", func := "evergreen/evergreenlaw05.RecogniseReads", spec := "recogniseReads", inPlace := ["internal/abi.NoEscape", "internal/reflectlite.ValueOf", "(internal/reflectlite.Value).Type", "(internal/reflectlite.Value).IsNil", "internal/reflectlite.TypeOf", "(internal/reflectlite.Value).Elem", "(internal/reflectlite.Value).Set"], unfollowed := true, recurses := true, named := ["evergreen/format.errWrong", "strconv.ErrSyntax", "strconv.ErrRange", "internal/strconv.uint64pow10", "math/bits.deBruijn32tab", "math/bits.deBruijn64tab", "errors.errorType"], apart := false, laid := [("math/bits.deBruijn32tab", laid_math_bits_deBruijn32tab), ("math/bits.deBruijn64tab", laid_math_bits_deBruijn64tab), ("internal/strconv.uint64pow10", laid_internal_strconv_uint64pow10), ("errors.errorType", laid_errors_errorType), ("strconv.ErrRange", laid_strconv_ErrRange), ("strconv.ErrSyntax", laid_strconv_ErrSyntax), ("evergreen/format.errWrong", laid_evergreen_format_errWrong)], narrowed := true }
def RecogniseReadsUptoSaid : Prop := recogniseReadsUptoRow.holds Tryz.pinned (OpenSpec.upto recogniseReadsSpec)

/-- 'evergreenlaw05.RecogniseReasons', WHERE WHAT IT READS IS OF BULK AT MOST 1048576: true; the input reads as it did. -/
def recogniseReasonsUptoRow : OpenClaim := { program := "ytdndmhlmbpgdeaagreatdoor", sum := "fd71b46d8fbd6931d4acf123b2e089b1633a24e82d131b29faa4c22681f11455", func := "evergreen/evergreenlaw05.RecogniseReasons", spec := "recogniseReasons", inPlace := ["internal/abi.NoEscape", "internal/reflectlite.ValueOf", "(internal/reflectlite.Value).Type", "(internal/reflectlite.Value).IsNil", "internal/reflectlite.TypeOf", "(internal/reflectlite.Value).Elem", "(internal/reflectlite.Value).Set"], unfollowed := true, recurses := true, named := ["evergreen/format.errWrong", "strconv.ErrSyntax", "strconv.ErrRange", "internal/strconv.uint64pow10", "math/bits.deBruijn32tab", "math/bits.deBruijn64tab", "errors.errorType"], apart := false, laid := [("math/bits.deBruijn32tab", laid_math_bits_deBruijn32tab), ("math/bits.deBruijn64tab", laid_math_bits_deBruijn64tab), ("internal/strconv.uint64pow10", laid_internal_strconv_uint64pow10), ("errors.errorType", laid_errors_errorType), ("strconv.ErrRange", laid_strconv_ErrRange), ("strconv.ErrSyntax", laid_strconv_ErrSyntax), ("evergreen/format.errWrong", laid_evergreen_format_errWrong)], narrowed := true }
def RecogniseReasonsUptoSaid : Prop := recogniseReasonsUptoRow.holds Tryz.pinned (OpenSpec.upto recogniseReasonsSpec)

/-- 'evergreenlaw05.RecogniseTables', WHERE WHAT IT READS IS OF BULK AT MOST 1048576: true; the input reads as it did. -/
def recogniseTablesUptoRow : OpenClaim := { program := "ytdndmhlmbpgdeaagreatdoor", sum := "fd71b46d8fbd6931d4acf123b2e089b1633a24e82d131b29faa4c22681f11455", func := "evergreen/evergreenlaw05.RecogniseTables", spec := "recogniseTables", inPlace := ["internal/abi.NoEscape", "internal/reflectlite.ValueOf", "(internal/reflectlite.Value).Type", "(internal/reflectlite.Value).IsNil", "internal/reflectlite.TypeOf", "(internal/reflectlite.Value).Elem", "(internal/reflectlite.Value).Set"], unfollowed := true, recurses := true, named := ["evergreen/format.errWrong", "strconv.ErrSyntax", "strconv.ErrRange", "internal/strconv.uint64pow10", "math/bits.deBruijn32tab", "math/bits.deBruijn64tab", "errors.errorType"], apart := false, laid := [("math/bits.deBruijn32tab", laid_math_bits_deBruijn32tab), ("math/bits.deBruijn64tab", laid_math_bits_deBruijn64tab), ("internal/strconv.uint64pow10", laid_internal_strconv_uint64pow10), ("errors.errorType", laid_errors_errorType), ("strconv.ErrRange", laid_strconv_ErrRange), ("strconv.ErrSyntax", laid_strconv_ErrSyntax), ("evergreen/format.errWrong", laid_evergreen_format_errWrong)], narrowed := true }
def RecogniseTablesUptoSaid : Prop := recogniseTablesUptoRow.holds Tryz.pinned (OpenSpec.upto recogniseTablesSpec)

/-- 'evergreenlaw05.RecogniseNoticed', WHERE WHAT IT READS IS OF BULK AT MOST 1048576: true; the input reads as it did. -/
def recogniseNoticedUptoRow : OpenClaim := { program := "ytdndmhlmbpgdeaagreatdoor", sum := "fd71b46d8fbd6931d4acf123b2e089b1633a24e82d131b29faa4c22681f11455", func := "evergreen/evergreenlaw05.RecogniseNoticed", spec := "recogniseNoticed", inPlace := ["internal/abi.NoEscape", "internal/reflectlite.ValueOf", "(internal/reflectlite.Value).Type", "(internal/reflectlite.Value).IsNil", "internal/reflectlite.TypeOf", "(internal/reflectlite.Value).Elem", "(internal/reflectlite.Value).Set"], unfollowed := true, recurses := true, named := ["evergreen/format.errWrong", "strconv.ErrSyntax", "strconv.ErrRange", "internal/strconv.uint64pow10", "math/bits.deBruijn32tab", "math/bits.deBruijn64tab", "errors.errorType"], apart := false, laid := [("math/bits.deBruijn32tab", laid_math_bits_deBruijn32tab), ("math/bits.deBruijn64tab", laid_math_bits_deBruijn64tab), ("internal/strconv.uint64pow10", laid_internal_strconv_uint64pow10), ("errors.errorType", laid_errors_errorType), ("strconv.ErrRange", laid_strconv_ErrRange), ("strconv.ErrSyntax", laid_strconv_ErrSyntax), ("evergreen/format.errWrong", laid_evergreen_format_errWrong)], narrowed := true }
def RecogniseNoticedUptoSaid : Prop := recogniseNoticedUptoRow.holds Tryz.pinned (OpenSpec.upto recogniseNoticedSpec)

/-- 'evergreenlaw05.RecogniseBounded', WHERE WHAT IT READS IS OF BULK AT MOST 1048576: true; the input reads as it did. -/
def recogniseBoundedUptoRow : OpenClaim := { program := "ytdndmhlmbpgdeaagreatdoor", sum := "fd71b46d8fbd6931d4acf123b2e089b1633a24e82d131b29faa4c22681f11455", func := "evergreen/evergreenlaw05.RecogniseBounded", spec := "recogniseBounded", inPlace := ["internal/abi.NoEscape", "internal/reflectlite.ValueOf", "(internal/reflectlite.Value).Type", "(internal/reflectlite.Value).IsNil", "internal/reflectlite.TypeOf", "(internal/reflectlite.Value).Elem", "(internal/reflectlite.Value).Set"], unfollowed := true, recurses := true, named := ["evergreen/format.errWrong", "strconv.ErrSyntax", "strconv.ErrRange", "internal/strconv.uint64pow10", "math/bits.deBruijn32tab", "math/bits.deBruijn64tab", "errors.errorType"], apart := false, laid := [("math/bits.deBruijn32tab", laid_math_bits_deBruijn32tab), ("math/bits.deBruijn64tab", laid_math_bits_deBruijn64tab), ("internal/strconv.uint64pow10", laid_internal_strconv_uint64pow10), ("errors.errorType", laid_errors_errorType), ("strconv.ErrRange", laid_strconv_ErrRange), ("strconv.ErrSyntax", laid_strconv_ErrSyntax), ("evergreen/format.errWrong", laid_evergreen_format_errWrong)], narrowed := true }
def RecogniseBoundedUptoSaid : Prop := recogniseBoundedUptoRow.holds Tryz.pinned (OpenSpec.upto recogniseBoundedSpec)

end Rows
end Go.Proofs.YtdndmhlmbpgdeaaGreatDoor
