/-
  NARROWER THAN 'FOR EVERY INPUT', by the rows' own cells (each row's printed sentence says how): SetTells: laid · ProgTells: laid · ProgBack: laid.
  DERIVED. THE GIVEN ROWS OF THIS SEAT. 3 by the template 'for every input the law returns true; each argument reads behind the call as it read before'; 0 by the template 'total and deterministic' (their statements: YtakmmpbkojhmhaaGreatDoorTotals.lean).
  GIVEN WITH THE SEED: the statements are not yours to turn. If you find one false, say at which input.
  Laid BY PROGRAM, IN A SANDBOX (cutbox-rows.mjs): the forced cells as the released guide's own fill.sh prints them over the translation b127cd6c74635c23… (all of the seat's roots in one cut). By AI agents, Wed Nov 11 2026. No macro, syntax, notation, axiom, sorry.
-/
import Derived.Test.YtakmmpbkojhmhaaGreatDoorChecked
import GoSem.PinnedTables
import GoSem.Claim
import GoSem.ClaimJoined
import GoSem.ClaimMapViews
import Derived.JoinedTies
import Derived.KernelRfl
namespace Go.Proofs.YtakmmpbkojhmhaaGreatDoor
/- THE CELL 'sum', in the pinned program and in every row, IS THE sha256 OF THE DUMP (.gsa) THAT YtakmmpbkojhmhaaGreatDoorProg.lean LOADS. Nothing in Lean hashes anything: it is a label: what it is worth is what the hold of that sum in a sandbox is worth. -/
noncomputable def Tryz.pinned : Pinned := { name := "ytakmmpbkojhmhaagreatdoor", sum := "b127cd6c74635c23ed30e6d8904b843a9e522924a920609b490e79f5d2bb500e", checked := Tryz.checked }
namespace Rows
def none {H : Type} : Left H := { results := [], args := [] }

/- WHAT THE LISTED PACKAGE-LEVEL VARIABLES READ AS WHEN THE CALL BEGINS. Each datum BY PROGRAM (the guide's laid-datum.mjs) off the statement by which the dump's own 'gosem.cut.vars' lays the variable. In a bare row this is a premise. The card (YtakmmpbkojhmhaaGreatDoorCards.lean) ties it to the program's text. -/
def laid_math_bits_deBruijn32tab {H : Type} : DataW H := .agg [.lit (.int .u8 0), .lit (.int .u8 1), .lit (.int .u8 28), .lit (.int .u8 2), .lit (.int .u8 29), .lit (.int .u8 14), .lit (.int .u8 24), .lit (.int .u8 3), .lit (.int .u8 30), .lit (.int .u8 22), .lit (.int .u8 20), .lit (.int .u8 15), .lit (.int .u8 25), .lit (.int .u8 17), .lit (.int .u8 4), .lit (.int .u8 8), .lit (.int .u8 31), .lit (.int .u8 27), .lit (.int .u8 13), .lit (.int .u8 23), .lit (.int .u8 21), .lit (.int .u8 19), .lit (.int .u8 16), .lit (.int .u8 7), .lit (.int .u8 26), .lit (.int .u8 12), .lit (.int .u8 18), .lit (.int .u8 6), .lit (.int .u8 11), .lit (.int .u8 5), .lit (.int .u8 10), .lit (.int .u8 9)]
def laid_math_bits_deBruijn64tab {H : Type} : DataW H := .agg [.lit (.int .u8 0), .lit (.int .u8 1), .lit (.int .u8 56), .lit (.int .u8 2), .lit (.int .u8 57), .lit (.int .u8 49), .lit (.int .u8 28), .lit (.int .u8 3), .lit (.int .u8 61), .lit (.int .u8 58), .lit (.int .u8 42), .lit (.int .u8 50), .lit (.int .u8 38), .lit (.int .u8 29), .lit (.int .u8 17), .lit (.int .u8 4), .lit (.int .u8 62), .lit (.int .u8 47), .lit (.int .u8 59), .lit (.int .u8 36), .lit (.int .u8 45), .lit (.int .u8 43), .lit (.int .u8 51), .lit (.int .u8 22), .lit (.int .u8 53), .lit (.int .u8 39), .lit (.int .u8 33), .lit (.int .u8 30), .lit (.int .u8 24), .lit (.int .u8 18), .lit (.int .u8 12), .lit (.int .u8 5), .lit (.int .u8 63), .lit (.int .u8 55), .lit (.int .u8 48), .lit (.int .u8 27), .lit (.int .u8 60), .lit (.int .u8 41), .lit (.int .u8 37), .lit (.int .u8 16), .lit (.int .u8 46), .lit (.int .u8 35), .lit (.int .u8 44), .lit (.int .u8 21), .lit (.int .u8 52), .lit (.int .u8 32), .lit (.int .u8 23), .lit (.int .u8 11), .lit (.int .u8 54), .lit (.int .u8 26), .lit (.int .u8 40), .lit (.int .u8 15), .lit (.int .u8 34), .lit (.int .u8 20), .lit (.int .u8 31), .lit (.int .u8 10), .lit (.int .u8 25), .lit (.int .u8 14), .lit (.int .u8 19), .lit (.int .u8 9), .lit (.int .u8 13), .lit (.int .u8 8), .lit (.int .u8 7), .lit (.int .u8 6)]
def laid_internal_strconv_uint64pow10 {H : Type} : DataW H := .agg [.lit (.int .u64 1), .lit (.int .u64 10), .lit (.int .u64 100), .lit (.int .u64 1000), .lit (.int .u64 10000), .lit (.int .u64 100000), .lit (.int .u64 1000000), .lit (.int .u64 10000000), .lit (.int .u64 100000000), .lit (.int .u64 1000000000), .lit (.int .u64 10000000000), .lit (.int .u64 100000000000), .lit (.int .u64 1000000000000), .lit (.int .u64 10000000000000), .lit (.int .u64 100000000000000), .lit (.int .u64 1000000000000000), .lit (.int .u64 10000000000000000), .lit (.int .u64 100000000000000000), .lit (.int .u64 1000000000000000000), .lit (.int .u64 10000000000000000000)]
def laid_unicode_utf8_acceptRanges {H : Type} : DataW H := .agg [.agg [.lit (.int .u8 128), .lit (.int .u8 191)], .agg [.lit (.int .u8 160), .lit (.int .u8 191)], .agg [.lit (.int .u8 128), .lit (.int .u8 159)], .agg [.lit (.int .u8 144), .lit (.int .u8 191)], .agg [.lit (.int .u8 128), .lit (.int .u8 143)], .agg [.lit (.int .u8 0), .lit (.int .u8 0)], .agg [.lit (.int .u8 0), .lit (.int .u8 0)], .agg [.lit (.int .u8 0), .lit (.int .u8 0)], .agg [.lit (.int .u8 0), .lit (.int .u8 0)], .agg [.lit (.int .u8 0), .lit (.int .u8 0)], .agg [.lit (.int .u8 0), .lit (.int .u8 0)], .agg [.lit (.int .u8 0), .lit (.int .u8 0)], .agg [.lit (.int .u8 0), .lit (.int .u8 0)], .agg [.lit (.int .u8 0), .lit (.int .u8 0)], .agg [.lit (.int .u8 0), .lit (.int .u8 0)], .agg [.lit (.int .u8 0), .lit (.int .u8 0)]]
def laid_errors_errorType {H : Type} : DataW H := .iface "internal/reflectlite.rtype" (.agg [.ptr (.lit (.string [101, 114, 114, 111, 114]))])
def laid_fingerpost_api_ErrText {H : Type} : DataW H := .iface "*errors.errorString" (.ptr (.agg [.lit (.string [102, 105, 110, 103, 101, 114, 112, 111, 115, 116, 58, 32, 116, 101, 120, 116])]))
def laid_fingerpost_api_ErrBound {H : Type} : DataW H := .iface "*errors.errorString" (.ptr (.agg [.lit (.string [102, 105, 110, 103, 101, 114, 112, 111, 115, 116, 58, 32, 98, 111, 117, 110, 100])]))
def laid_fingerpost_api_ErrShape {H : Type} : DataW H := .iface "*errors.errorString" (.ptr (.agg [.lit (.string [102, 105, 110, 103, 101, 114, 112, 111, 115, 116, 58, 32, 115, 104, 97, 112, 101])]))
def laid_fingerpost_api_ErrKind {H : Type} : DataW H := .iface "*errors.errorString" (.ptr (.agg [.lit (.string [102, 105, 110, 103, 101, 114, 112, 111, 115, 116, 58, 32, 107, 105, 110, 100])]))
def laid_fingerpost_api_ErrName {H : Type} : DataW H := .iface "*errors.errorString" (.ptr (.agg [.lit (.string [102, 105, 110, 103, 101, 114, 112, 111, 115, 116, 58, 32, 110, 97, 109, 101])]))
def laid_fingerpost_api_ErrNone {H : Type} : DataW H := .iface "*errors.errorString" (.ptr (.agg [.lit (.string [102, 105, 110, 103, 101, 114, 112, 111, 115, 116, 58, 32, 110, 111, 110, 101])]))
def laid_fingerpost_api_ErrExist {H : Type} : DataW H := .iface "*errors.errorString" (.ptr (.agg [.lit (.string [102, 105, 110, 103, 101, 114, 112, 111, 115, 116, 58, 32, 101, 120, 105, 115, 116])]))
def laid_fingerpost_api_ErrFull {H : Type} : DataW H := .iface "*errors.errorString" (.ptr (.agg [.lit (.string [102, 105, 110, 103, 101, 114, 112, 111, 115, 116, 58, 32, 102, 117, 108, 108])]))
def laid_fingerpost_api_ErrArgs {H : Type} : DataW H := .iface "*errors.errorString" (.ptr (.agg [.lit (.string [102, 105, 110, 103, 101, 114, 112, 111, 115, 116, 58, 32, 97, 114, 103, 115])]))
def laid_fingerpost_api_ErrOrder {H : Type} : DataW H := .iface "*errors.errorString" (.ptr (.agg [.lit (.string [102, 105, 110, 103, 101, 114, 112, 111, 115, 116, 58, 32, 111, 114, 100, 101, 114])]))
def laid_fingerpost_api_ErrSum {H : Type} : DataW H := .iface "*errors.errorString" (.ptr (.agg [.lit (.string [102, 105, 110, 103, 101, 114, 112, 111, 115, 116, 58, 32, 115, 117, 109])]))
/-- One of Go's own tables, pinned by name: the form's constant. -/
def laid_unicode_utf8_first : DataW Unit := Go.Pinned.utf8First

/-- 'fingerpostlaw1.SetTells': WHATEVER THE INPUT: true; the input reads as it did. -/
def setTellsSpec : ChangeSpec := { name := "setTells", fn := fun _ => fun
  | [d1, d2, d3, d4] => { results := [.lit (.bool true)], args := [d1, d2, d3, d4] }
  | _ => none }
def setTellsRow : OpenClaim := { program := "ytakmmpbkojhmhaagreatdoor", sum := "b127cd6c74635c23ed30e6d8904b843a9e522924a920609b490e79f5d2bb500e", func := "fingerpost/fingerpostlaw1.SetTells", spec := "setTells", inPlace := ["internal/abi.NoEscape", "internal/bytealg.MakeNoZero", "internal/reflectlite.ValueOf", "(internal/reflectlite.Value).Type", "(internal/reflectlite.Value).IsNil", "internal/reflectlite.TypeOf", "(internal/reflectlite.Value).Elem", "(internal/reflectlite.Value).Set", "internal/bytealg.CountString", "internal/bytealg.IndexByteString", "internal/bytealg.IndexString"], unfollowed := true, recurses := true, named := ["fingerpost/api.ErrOrder", "fingerpost/api.ErrBound", "internal/strconv.uint64pow10", "math/bits.deBruijn32tab", "math/bits.deBruijn64tab", "fingerpost/api.ErrText", "fingerpost/api.ErrShape", "fingerpost/api.ErrKind", "fingerpost/api.ErrName", "fingerpost/api.ErrNone", "fingerpost/api.ErrExist", "fingerpost/api.ErrFull", "fingerpost/api.ErrArgs", "fingerpost/api.ErrSum", "errors.errorType", "unicode/utf8.first", "unicode/utf8.acceptRanges", "internal/bytealg.MaxLen"], apart := false, laid := [("math/bits.deBruijn32tab", laid_math_bits_deBruijn32tab), ("math/bits.deBruijn64tab", laid_math_bits_deBruijn64tab), ("internal/strconv.uint64pow10", laid_internal_strconv_uint64pow10), ("unicode/utf8.acceptRanges", laid_unicode_utf8_acceptRanges), ("errors.errorType", laid_errors_errorType), ("fingerpost/api.ErrText", laid_fingerpost_api_ErrText), ("fingerpost/api.ErrBound", laid_fingerpost_api_ErrBound), ("fingerpost/api.ErrShape", laid_fingerpost_api_ErrShape), ("fingerpost/api.ErrKind", laid_fingerpost_api_ErrKind), ("fingerpost/api.ErrName", laid_fingerpost_api_ErrName), ("fingerpost/api.ErrNone", laid_fingerpost_api_ErrNone), ("fingerpost/api.ErrExist", laid_fingerpost_api_ErrExist), ("fingerpost/api.ErrFull", laid_fingerpost_api_ErrFull), ("fingerpost/api.ErrArgs", laid_fingerpost_api_ErrArgs), ("fingerpost/api.ErrOrder", laid_fingerpost_api_ErrOrder), ("fingerpost/api.ErrSum", laid_fingerpost_api_ErrSum), ("unicode/utf8.first", laid_unicode_utf8_first)] }
def SetTellsSaid : Prop := setTellsRow.holds Tryz.pinned (OpenSpec.ofChange setTellsSpec)

/-- ITS FALSE NEIGHBOUR: 'it returns false'. Refute it at one input. -/
def setTellsWrong : ChangeSpec := { name := "setTells", fn := fun _ => fun
  | [d1, d2, d3, d4] => { results := [.lit (.bool false)], args := [d1, d2, d3, d4] }
  | _ => none }
def SetTellsWrongFalsely : Prop := setTellsRow.holds Tryz.pinned (OpenSpec.ofChange setTellsWrong)

/-- 'fingerpostlaw1.ProgTells': WHATEVER THE INPUT: true; the input reads as it did. -/
def progTellsSpec : ChangeSpec := { name := "progTells", fn := fun _ => fun
  | [d1, d2, d3] => { results := [.lit (.bool true)], args := [d1, d2, d3] }
  | _ => none }
def progTellsRow : OpenClaim := { program := "ytakmmpbkojhmhaagreatdoor", sum := "b127cd6c74635c23ed30e6d8904b843a9e522924a920609b490e79f5d2bb500e", func := "fingerpost/fingerpostlaw1.ProgTells", spec := "progTells", inPlace := ["internal/abi.NoEscape", "internal/bytealg.MakeNoZero", "internal/reflectlite.ValueOf", "(internal/reflectlite.Value).Type", "(internal/reflectlite.Value).IsNil", "internal/reflectlite.TypeOf", "(internal/reflectlite.Value).Elem", "(internal/reflectlite.Value).Set", "internal/bytealg.IndexByteString", "internal/bytealg.IndexString", "internal/bytealg.CountString"], unfollowed := true, recurses := true, named := ["fingerpost/api.ErrFull", "fingerpost/api.ErrName", "fingerpost/api.ErrExist", "fingerpost/api.ErrArgs", "fingerpost/api.ErrBound", "fingerpost/api.ErrKind", "fingerpost/api.ErrShape", "fingerpost/api.ErrText", "fingerpost/api.ErrNone", "fingerpost/api.ErrOrder", "fingerpost/api.ErrSum", "errors.errorType", "internal/bytealg.MaxLen", "unicode/utf8.first", "unicode/utf8.acceptRanges"], apart := false, laid := [("unicode/utf8.acceptRanges", laid_unicode_utf8_acceptRanges), ("errors.errorType", laid_errors_errorType), ("fingerpost/api.ErrText", laid_fingerpost_api_ErrText), ("fingerpost/api.ErrBound", laid_fingerpost_api_ErrBound), ("fingerpost/api.ErrShape", laid_fingerpost_api_ErrShape), ("fingerpost/api.ErrKind", laid_fingerpost_api_ErrKind), ("fingerpost/api.ErrName", laid_fingerpost_api_ErrName), ("fingerpost/api.ErrNone", laid_fingerpost_api_ErrNone), ("fingerpost/api.ErrExist", laid_fingerpost_api_ErrExist), ("fingerpost/api.ErrFull", laid_fingerpost_api_ErrFull), ("fingerpost/api.ErrArgs", laid_fingerpost_api_ErrArgs), ("fingerpost/api.ErrOrder", laid_fingerpost_api_ErrOrder), ("fingerpost/api.ErrSum", laid_fingerpost_api_ErrSum), ("unicode/utf8.first", laid_unicode_utf8_first)] }
def ProgTellsSaid : Prop := progTellsRow.holds Tryz.pinned (OpenSpec.ofChange progTellsSpec)

/-- ITS FALSE NEIGHBOUR: 'it returns false'. Refute it at one input. -/
def progTellsWrong : ChangeSpec := { name := "progTells", fn := fun _ => fun
  | [d1, d2, d3] => { results := [.lit (.bool false)], args := [d1, d2, d3] }
  | _ => none }
def ProgTellsWrongFalsely : Prop := progTellsRow.holds Tryz.pinned (OpenSpec.ofChange progTellsWrong)

/-- 'fingerpostlaw1.ProgBack': WHATEVER THE INPUT: true; the input reads as it did. -/
def progBackSpec : ChangeSpec := { name := "progBack", fn := fun _ => fun
  | [d] => { results := [.lit (.bool true)], args := [d] }
  | _ => none }
def progBackRow : OpenClaim := { program := "ytakmmpbkojhmhaagreatdoor", sum := "b127cd6c74635c23ed30e6d8904b843a9e522924a920609b490e79f5d2bb500e", func := "fingerpost/fingerpostlaw1.ProgBack", spec := "progBack", inPlace := ["internal/abi.NoEscape", "internal/bytealg.MakeNoZero", "internal/bytealg.IndexByteString", "internal/bytealg.IndexString", "internal/bytealg.CountString", "internal/reflectlite.ValueOf", "(internal/reflectlite.Value).Type", "(internal/reflectlite.Value).IsNil", "internal/reflectlite.TypeOf", "(internal/reflectlite.Value).Elem", "(internal/reflectlite.Value).Set"], unfollowed := true, recurses := true, named := ["fingerpost/api.ErrFull", "fingerpost/api.ErrName", "fingerpost/api.ErrExist", "fingerpost/api.ErrArgs", "fingerpost/api.ErrBound", "fingerpost/api.ErrKind", "fingerpost/api.ErrShape", "fingerpost/api.ErrText", "internal/bytealg.MaxLen", "fingerpost/api.ErrNone", "unicode/utf8.first", "unicode/utf8.acceptRanges", "errors.errorType"], apart := false, laid := [("unicode/utf8.acceptRanges", laid_unicode_utf8_acceptRanges), ("errors.errorType", laid_errors_errorType), ("fingerpost/api.ErrText", laid_fingerpost_api_ErrText), ("fingerpost/api.ErrBound", laid_fingerpost_api_ErrBound), ("fingerpost/api.ErrShape", laid_fingerpost_api_ErrShape), ("fingerpost/api.ErrKind", laid_fingerpost_api_ErrKind), ("fingerpost/api.ErrName", laid_fingerpost_api_ErrName), ("fingerpost/api.ErrNone", laid_fingerpost_api_ErrNone), ("fingerpost/api.ErrExist", laid_fingerpost_api_ErrExist), ("fingerpost/api.ErrFull", laid_fingerpost_api_ErrFull), ("fingerpost/api.ErrArgs", laid_fingerpost_api_ErrArgs), ("unicode/utf8.first", laid_unicode_utf8_first)] }
def ProgBackSaid : Prop := progBackRow.holds Tryz.pinned (OpenSpec.ofChange progBackSpec)

/-- ITS FALSE NEIGHBOUR: 'it returns false'. Refute it at one input. -/
def progBackWrong : ChangeSpec := { name := "progBack", fn := fun _ => fun
  | [d] => { results := [.lit (.bool false)], args := [d] }
  | _ => none }
def ProgBackWrongFalsely : Prop := progBackRow.holds Tryz.pinned (OpenSpec.ofChange progBackWrong)

/- THE SECOND FORM. 'bulk': how many values and letters a reading holds, each counted each time it is reached (what is shared counts as often as it is met; a slice's spare places count too). A statement '..UptoSaid' is the law's where the arguments, and the package variables that the reading takes, are together of bulk at most 1048576: NARROWER than '..Said'. Prove '..Said' where nothing that the law and all that it calls make is longer than what came in: it says more and counts as full. Else prove '..UptoSaid'. A law counts once. -/
mutual
def uptoBulk {H : Type} : DataW H → Nat
  | .lit (.string bytes) => bytes.length + 1
  | .lit _ => 1
  | .nil => 1
  | .ptr d => uptoBulk d + 1
  | .slice elems spare => uptoBulkAll elems + uptoBulkAll spare + 1
  | .agg parts => uptoBulkAll parts + 1
  | .iface _ d => uptoBulk d + 1
  | .map entries => uptoBulkEntries entries + 1
  | .held _ => 1
def uptoBulkAll {H : Type} : List (DataW H) → Nat
  | [] => 0
  | d :: r => uptoBulk d + uptoBulkAll r
def uptoBulkEntries {H : Type} : List (Lit × DataW H) → Nat
  | [] => 0
  | x :: r => uptoBulkEntry x + uptoBulkEntries r
def uptoBulkEntry {H : Type} : Lit × DataW H → Nat
  | (.string bytes, d) => bytes.length + uptoBulk d + 1
  | (_, d) => uptoBulk d + 1
 end
def uptoSmall : (H : Type) → List (DataW H) → Bool := fun _ ds => decide (uptoBulkAll ds ≤ 1048576)
def OpenSpec.upto (s : _root_.Go.ChangeSpec) : _root_.Go.OpenSpec := { _root_.Go.OpenSpec.ofChange s with cond := some uptoSmall }

/-- 'fingerpostlaw1.SetTells', WHERE WHAT IT READS IS OF BULK AT MOST 1048576: true; the input reads as it did. -/
def setTellsUptoRow : OpenClaim := { program := "ytakmmpbkojhmhaagreatdoor", sum := "b127cd6c74635c23ed30e6d8904b843a9e522924a920609b490e79f5d2bb500e", func := "fingerpost/fingerpostlaw1.SetTells", spec := "setTells", inPlace := ["internal/abi.NoEscape", "internal/bytealg.MakeNoZero", "internal/reflectlite.ValueOf", "(internal/reflectlite.Value).Type", "(internal/reflectlite.Value).IsNil", "internal/reflectlite.TypeOf", "(internal/reflectlite.Value).Elem", "(internal/reflectlite.Value).Set", "internal/bytealg.CountString", "internal/bytealg.IndexByteString", "internal/bytealg.IndexString"], unfollowed := true, recurses := true, named := ["fingerpost/api.ErrOrder", "fingerpost/api.ErrBound", "internal/strconv.uint64pow10", "math/bits.deBruijn32tab", "math/bits.deBruijn64tab", "fingerpost/api.ErrText", "fingerpost/api.ErrShape", "fingerpost/api.ErrKind", "fingerpost/api.ErrName", "fingerpost/api.ErrNone", "fingerpost/api.ErrExist", "fingerpost/api.ErrFull", "fingerpost/api.ErrArgs", "fingerpost/api.ErrSum", "errors.errorType", "unicode/utf8.first", "unicode/utf8.acceptRanges", "internal/bytealg.MaxLen"], apart := false, laid := [("math/bits.deBruijn32tab", laid_math_bits_deBruijn32tab), ("math/bits.deBruijn64tab", laid_math_bits_deBruijn64tab), ("internal/strconv.uint64pow10", laid_internal_strconv_uint64pow10), ("unicode/utf8.acceptRanges", laid_unicode_utf8_acceptRanges), ("errors.errorType", laid_errors_errorType), ("fingerpost/api.ErrText", laid_fingerpost_api_ErrText), ("fingerpost/api.ErrBound", laid_fingerpost_api_ErrBound), ("fingerpost/api.ErrShape", laid_fingerpost_api_ErrShape), ("fingerpost/api.ErrKind", laid_fingerpost_api_ErrKind), ("fingerpost/api.ErrName", laid_fingerpost_api_ErrName), ("fingerpost/api.ErrNone", laid_fingerpost_api_ErrNone), ("fingerpost/api.ErrExist", laid_fingerpost_api_ErrExist), ("fingerpost/api.ErrFull", laid_fingerpost_api_ErrFull), ("fingerpost/api.ErrArgs", laid_fingerpost_api_ErrArgs), ("fingerpost/api.ErrOrder", laid_fingerpost_api_ErrOrder), ("fingerpost/api.ErrSum", laid_fingerpost_api_ErrSum), ("unicode/utf8.first", laid_unicode_utf8_first)], narrowed := true }
def SetTellsUptoSaid : Prop := setTellsUptoRow.holds Tryz.pinned (OpenSpec.upto setTellsSpec)

/-- 'fingerpostlaw1.ProgTells', WHERE WHAT IT READS IS OF BULK AT MOST 1048576: true; the input reads as it did. -/
def progTellsUptoRow : OpenClaim := { program := "ytakmmpbkojhmhaagreatdoor", sum := "b127cd6c74635c23ed30e6d8904b843a9e522924a920609b490e79f5d2bb500e", func := "fingerpost/fingerpostlaw1.ProgTells", spec := "progTells", inPlace := ["internal/abi.NoEscape", "internal/bytealg.MakeNoZero", "internal/reflectlite.ValueOf", "(internal/reflectlite.Value).Type", "(internal/reflectlite.Value).IsNil", "internal/reflectlite.TypeOf", "(internal/reflectlite.Value).Elem", "(internal/reflectlite.Value).Set", "internal/bytealg.IndexByteString", "internal/bytealg.IndexString", "internal/bytealg.CountString"], unfollowed := true, recurses := true, named := ["fingerpost/api.ErrFull", "fingerpost/api.ErrName", "fingerpost/api.ErrExist", "fingerpost/api.ErrArgs", "fingerpost/api.ErrBound", "fingerpost/api.ErrKind", "fingerpost/api.ErrShape", "fingerpost/api.ErrText", "fingerpost/api.ErrNone", "fingerpost/api.ErrOrder", "fingerpost/api.ErrSum", "errors.errorType", "internal/bytealg.MaxLen", "unicode/utf8.first", "unicode/utf8.acceptRanges"], apart := false, laid := [("unicode/utf8.acceptRanges", laid_unicode_utf8_acceptRanges), ("errors.errorType", laid_errors_errorType), ("fingerpost/api.ErrText", laid_fingerpost_api_ErrText), ("fingerpost/api.ErrBound", laid_fingerpost_api_ErrBound), ("fingerpost/api.ErrShape", laid_fingerpost_api_ErrShape), ("fingerpost/api.ErrKind", laid_fingerpost_api_ErrKind), ("fingerpost/api.ErrName", laid_fingerpost_api_ErrName), ("fingerpost/api.ErrNone", laid_fingerpost_api_ErrNone), ("fingerpost/api.ErrExist", laid_fingerpost_api_ErrExist), ("fingerpost/api.ErrFull", laid_fingerpost_api_ErrFull), ("fingerpost/api.ErrArgs", laid_fingerpost_api_ErrArgs), ("fingerpost/api.ErrOrder", laid_fingerpost_api_ErrOrder), ("fingerpost/api.ErrSum", laid_fingerpost_api_ErrSum), ("unicode/utf8.first", laid_unicode_utf8_first)], narrowed := true }
def ProgTellsUptoSaid : Prop := progTellsUptoRow.holds Tryz.pinned (OpenSpec.upto progTellsSpec)

/-- 'fingerpostlaw1.ProgBack', WHERE WHAT IT READS IS OF BULK AT MOST 1048576: true; the input reads as it did. -/
def progBackUptoRow : OpenClaim := { program := "ytakmmpbkojhmhaagreatdoor", sum := "b127cd6c74635c23ed30e6d8904b843a9e522924a920609b490e79f5d2bb500e", func := "fingerpost/fingerpostlaw1.ProgBack", spec := "progBack", inPlace := ["internal/abi.NoEscape", "internal/bytealg.MakeNoZero", "internal/bytealg.IndexByteString", "internal/bytealg.IndexString", "internal/bytealg.CountString", "internal/reflectlite.ValueOf", "(internal/reflectlite.Value).Type", "(internal/reflectlite.Value).IsNil", "internal/reflectlite.TypeOf", "(internal/reflectlite.Value).Elem", "(internal/reflectlite.Value).Set"], unfollowed := true, recurses := true, named := ["fingerpost/api.ErrFull", "fingerpost/api.ErrName", "fingerpost/api.ErrExist", "fingerpost/api.ErrArgs", "fingerpost/api.ErrBound", "fingerpost/api.ErrKind", "fingerpost/api.ErrShape", "fingerpost/api.ErrText", "internal/bytealg.MaxLen", "fingerpost/api.ErrNone", "unicode/utf8.first", "unicode/utf8.acceptRanges", "errors.errorType"], apart := false, laid := [("unicode/utf8.acceptRanges", laid_unicode_utf8_acceptRanges), ("errors.errorType", laid_errors_errorType), ("fingerpost/api.ErrText", laid_fingerpost_api_ErrText), ("fingerpost/api.ErrBound", laid_fingerpost_api_ErrBound), ("fingerpost/api.ErrShape", laid_fingerpost_api_ErrShape), ("fingerpost/api.ErrKind", laid_fingerpost_api_ErrKind), ("fingerpost/api.ErrName", laid_fingerpost_api_ErrName), ("fingerpost/api.ErrNone", laid_fingerpost_api_ErrNone), ("fingerpost/api.ErrExist", laid_fingerpost_api_ErrExist), ("fingerpost/api.ErrFull", laid_fingerpost_api_ErrFull), ("fingerpost/api.ErrArgs", laid_fingerpost_api_ErrArgs), ("unicode/utf8.first", laid_unicode_utf8_first)], narrowed := true }
def ProgBackUptoSaid : Prop := progBackUptoRow.holds Tryz.pinned (OpenSpec.upto progBackSpec)

end Rows
end Go.Proofs.YtakmmpbkojhmhaaGreatDoor
