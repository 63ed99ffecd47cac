/-
  NARROWER THAN 'FOR EVERY INPUT', by the rows' own cells (each row's printed sentence says how): SolveFix: laid · SolveAdds: laid · SolveSteps: laid.
  DERIVED. THE GIVEN ROWS OF THIS SEAT. 3 by the template 'for every input the law returns true; each argument reads behind the call as it read before'; 0 by the template 'total and deterministic' (their statements: YtglonlpfnllocaaGreatDoorTotals.lean).
  GIVEN WITH THE SEED: the statements are not yours to turn. If you find one false, say at which input.
  Laid BY PROGRAM, IN A SANDBOX (cutbox-rows.mjs): the forced cells as the released guide's own fill.sh prints them over the translation eb6ab3e03391c99e… (all of the seat's roots in one cut). By AI agents, Wed Nov 11 2026. No macro, syntax, notation, axiom, sorry.
-/
import Derived.Test.YtglonlpfnllocaaGreatDoorChecked
import GoSem.Claim
import GoSem.ClaimJoined
import GoSem.ClaimMapViews
import Derived.JoinedTies
import Derived.KernelRfl
namespace Go.Proofs.YtglonlpfnllocaaGreatDoor
/- THE CELL 'sum', in the pinned program and in every row, IS THE sha256 OF THE DUMP (.gsa) THAT YtglonlpfnllocaaGreatDoorProg.lean LOADS. Nothing in Lean hashes anything: it is a label: what it is worth is what the hold of that sum in a sandbox is worth. -/
noncomputable def Tryz.pinned : Pinned := { name := "ytglonlpfnllocaagreatdoor", sum := "eb6ab3e03391c99ecaa2f43ea11cdcef3b2c05f89bfa2dcb1f7df8a868af68ef", checked := Tryz.checked }
namespace Rows
def none {H : Type} : Left H := { results := [], args := [] }

/- WHAT THE LISTED PACKAGE-LEVEL VARIABLES READ AS WHEN THE CALL BEGINS. Each datum BY PROGRAM (the guide's laid-datum.mjs) off the statement by which the dump's own 'gosem.cut.vars' lays the variable. In a bare row this is a premise. The card (YtglonlpfnllocaaGreatDoorCards.lean) ties it to the program's text. -/
def laid_fingerpost_api_ErrBound {H : Type} : DataW H := .iface "*errors.errorString" (.ptr (.agg [.lit (.string [102, 105, 110, 103, 101, 114, 112, 111, 115, 116, 58, 32, 98, 111, 117, 110, 100])]))
def laid_fingerpost_api_ErrShape {H : Type} : DataW H := .iface "*errors.errorString" (.ptr (.agg [.lit (.string [102, 105, 110, 103, 101, 114, 112, 111, 115, 116, 58, 32, 115, 104, 97, 112, 101])]))
def laid_fingerpost_api_ErrKind {H : Type} : DataW H := .iface "*errors.errorString" (.ptr (.agg [.lit (.string [102, 105, 110, 103, 101, 114, 112, 111, 115, 116, 58, 32, 107, 105, 110, 100])]))
def laid_fingerpost_api_ErrName {H : Type} : DataW H := .iface "*errors.errorString" (.ptr (.agg [.lit (.string [102, 105, 110, 103, 101, 114, 112, 111, 115, 116, 58, 32, 110, 97, 109, 101])]))
def laid_fingerpost_api_ErrExist {H : Type} : DataW H := .iface "*errors.errorString" (.ptr (.agg [.lit (.string [102, 105, 110, 103, 101, 114, 112, 111, 115, 116, 58, 32, 101, 120, 105, 115, 116])]))
def laid_fingerpost_api_ErrFull {H : Type} : DataW H := .iface "*errors.errorString" (.ptr (.agg [.lit (.string [102, 105, 110, 103, 101, 114, 112, 111, 115, 116, 58, 32, 102, 117, 108, 108])]))
def laid_fingerpost_api_ErrArgs {H : Type} : DataW H := .iface "*errors.errorString" (.ptr (.agg [.lit (.string [102, 105, 110, 103, 101, 114, 112, 111, 115, 116, 58, 32, 97, 114, 103, 115])]))
def laid_fingerpost_api_ErrOrder {H : Type} : DataW H := .iface "*errors.errorString" (.ptr (.agg [.lit (.string [102, 105, 110, 103, 101, 114, 112, 111, 115, 116, 58, 32, 111, 114, 100, 101, 114])]))
def laid_errors_errorType {H : Type} : DataW H := .iface "internal/reflectlite.rtype" (.agg [.ptr (.lit (.string [101, 114, 114, 111, 114]))])
def laid_fingerpost_api_ErrText {H : Type} : DataW H := .iface "*errors.errorString" (.ptr (.agg [.lit (.string [102, 105, 110, 103, 101, 114, 112, 111, 115, 116, 58, 32, 116, 101, 120, 116])]))
def laid_fingerpost_api_ErrNone {H : Type} : DataW H := .iface "*errors.errorString" (.ptr (.agg [.lit (.string [102, 105, 110, 103, 101, 114, 112, 111, 115, 116, 58, 32, 110, 111, 110, 101])]))
def laid_fingerpost_api_ErrSum {H : Type} : DataW H := .iface "*errors.errorString" (.ptr (.agg [.lit (.string [102, 105, 110, 103, 101, 114, 112, 111, 115, 116, 58, 32, 115, 117, 109])]))

/-- 'fingerpostlaw2.SolveFix': WHATEVER THE INPUT: true; the input reads as it did. -/
def solveFixSpec : ChangeSpec := { name := "solveFix", fn := fun _ => fun
  | [d] => { results := [.lit (.bool true)], args := [d] }
  | _ => none }
def solveFixRow : OpenClaim := { program := "ytglonlpfnllocaagreatdoor", sum := "eb6ab3e03391c99ecaa2f43ea11cdcef3b2c05f89bfa2dcb1f7df8a868af68ef", func := "fingerpost/fingerpostlaw2.SolveFix", spec := "solveFix", inPlace := ["slices.overlaps[int]"], unfollowed := true, recurses := true, named := ["fingerpost/api.ErrFull", "fingerpost/api.ErrName", "fingerpost/api.ErrExist", "fingerpost/api.ErrArgs", "fingerpost/api.ErrBound", "fingerpost/api.ErrKind", "fingerpost/api.ErrShape", "fingerpost/api.ErrOrder"], plainKeys := false, apart := false, laid := [("fingerpost/api.ErrBound", laid_fingerpost_api_ErrBound), ("fingerpost/api.ErrShape", laid_fingerpost_api_ErrShape), ("fingerpost/api.ErrKind", laid_fingerpost_api_ErrKind), ("fingerpost/api.ErrName", laid_fingerpost_api_ErrName), ("fingerpost/api.ErrExist", laid_fingerpost_api_ErrExist), ("fingerpost/api.ErrFull", laid_fingerpost_api_ErrFull), ("fingerpost/api.ErrArgs", laid_fingerpost_api_ErrArgs), ("fingerpost/api.ErrOrder", laid_fingerpost_api_ErrOrder)] }
def SolveFixSaid : Prop := solveFixRow.holds Tryz.pinned (OpenSpec.ofChange solveFixSpec)

/-- ITS FALSE NEIGHBOUR: 'it returns false'. Refute it at one input. -/
def solveFixWrong : ChangeSpec := { name := "solveFix", fn := fun _ => fun
  | [d] => { results := [.lit (.bool false)], args := [d] }
  | _ => none }
def SolveFixWrongFalsely : Prop := solveFixRow.holds Tryz.pinned (OpenSpec.ofChange solveFixWrong)

/-- 'fingerpostlaw2.SolveAdds': WHATEVER THE INPUT: true; the input reads as it did. -/
def solveAddsSpec : ChangeSpec := { name := "solveAdds", fn := fun _ => fun
  | [d1, d2, d3] => { results := [.lit (.bool true)], args := [d1, d2, d3] }
  | _ => none }
def solveAddsRow : OpenClaim := { program := "ytglonlpfnllocaagreatdoor", sum := "eb6ab3e03391c99ecaa2f43ea11cdcef3b2c05f89bfa2dcb1f7df8a868af68ef", func := "fingerpost/fingerpostlaw2.SolveAdds", spec := "solveAdds", inPlace := ["slices.overlaps[int]", "internal/reflectlite.ValueOf", "(internal/reflectlite.Value).Type", "(internal/reflectlite.Value).IsNil", "internal/reflectlite.TypeOf", "(internal/reflectlite.Value).Elem", "(internal/reflectlite.Value).Set"], unfollowed := true, recurses := true, named := ["fingerpost/api.ErrFull", "fingerpost/api.ErrName", "fingerpost/api.ErrExist", "fingerpost/api.ErrArgs", "fingerpost/api.ErrBound", "fingerpost/api.ErrKind", "fingerpost/api.ErrShape", "errors.errorType", "fingerpost/api.ErrOrder", "fingerpost/api.ErrText", "fingerpost/api.ErrNone", "fingerpost/api.ErrSum"], plainKeys := false, apart := false, laid := [("errors.errorType", laid_errors_errorType), ("fingerpost/api.ErrText", laid_fingerpost_api_ErrText), ("fingerpost/api.ErrBound", laid_fingerpost_api_ErrBound), ("fingerpost/api.ErrShape", laid_fingerpost_api_ErrShape), ("fingerpost/api.ErrKind", laid_fingerpost_api_ErrKind), ("fingerpost/api.ErrName", laid_fingerpost_api_ErrName), ("fingerpost/api.ErrNone", laid_fingerpost_api_ErrNone), ("fingerpost/api.ErrExist", laid_fingerpost_api_ErrExist), ("fingerpost/api.ErrFull", laid_fingerpost_api_ErrFull), ("fingerpost/api.ErrArgs", laid_fingerpost_api_ErrArgs), ("fingerpost/api.ErrOrder", laid_fingerpost_api_ErrOrder), ("fingerpost/api.ErrSum", laid_fingerpost_api_ErrSum)] }
def SolveAddsSaid : Prop := solveAddsRow.holds Tryz.pinned (OpenSpec.ofChange solveAddsSpec)

/-- ITS FALSE NEIGHBOUR: 'it returns false'. Refute it at one input. -/
def solveAddsWrong : ChangeSpec := { name := "solveAdds", fn := fun _ => fun
  | [d1, d2, d3] => { results := [.lit (.bool false)], args := [d1, d2, d3] }
  | _ => none }
def SolveAddsWrongFalsely : Prop := solveAddsRow.holds Tryz.pinned (OpenSpec.ofChange solveAddsWrong)

/-- 'fingerpostlaw2.SolveSteps': WHATEVER THE INPUT: true; the input reads as it did. -/
def solveStepsSpec : ChangeSpec := { name := "solveSteps", fn := fun _ => fun
  | [d1, d2] => { results := [.lit (.bool true)], args := [d1, d2] }
  | _ => none }
def solveStepsRow : OpenClaim := { program := "ytglonlpfnllocaagreatdoor", sum := "eb6ab3e03391c99ecaa2f43ea11cdcef3b2c05f89bfa2dcb1f7df8a868af68ef", func := "fingerpost/fingerpostlaw2.SolveSteps", spec := "solveSteps", inPlace := ["slices.overlaps[int]", "internal/reflectlite.ValueOf", "(internal/reflectlite.Value).Type", "(internal/reflectlite.Value).IsNil", "internal/reflectlite.TypeOf", "(internal/reflectlite.Value).Elem", "(internal/reflectlite.Value).Set"], unfollowed := true, recurses := true, named := ["fingerpost/api.ErrFull", "fingerpost/api.ErrName", "fingerpost/api.ErrExist", "fingerpost/api.ErrArgs", "fingerpost/api.ErrBound", "fingerpost/api.ErrKind", "fingerpost/api.ErrShape", "fingerpost/api.ErrText", "fingerpost/api.ErrNone", "fingerpost/api.ErrOrder", "fingerpost/api.ErrSum", "errors.errorType"], plainKeys := false, apart := false, laid := [("errors.errorType", laid_errors_errorType), ("fingerpost/api.ErrText", laid_fingerpost_api_ErrText), ("fingerpost/api.ErrBound", laid_fingerpost_api_ErrBound), ("fingerpost/api.ErrShape", laid_fingerpost_api_ErrShape), ("fingerpost/api.ErrKind", laid_fingerpost_api_ErrKind), ("fingerpost/api.ErrName", laid_fingerpost_api_ErrName), ("fingerpost/api.ErrNone", laid_fingerpost_api_ErrNone), ("fingerpost/api.ErrExist", laid_fingerpost_api_ErrExist), ("fingerpost/api.ErrFull", laid_fingerpost_api_ErrFull), ("fingerpost/api.ErrArgs", laid_fingerpost_api_ErrArgs), ("fingerpost/api.ErrOrder", laid_fingerpost_api_ErrOrder), ("fingerpost/api.ErrSum", laid_fingerpost_api_ErrSum)] }
def SolveStepsSaid : Prop := solveStepsRow.holds Tryz.pinned (OpenSpec.ofChange solveStepsSpec)

/-- ITS FALSE NEIGHBOUR: 'it returns false'. Refute it at one input. -/
def solveStepsWrong : ChangeSpec := { name := "solveSteps", fn := fun _ => fun
  | [d1, d2] => { results := [.lit (.bool false)], args := [d1, d2] }
  | _ => none }
def SolveStepsWrongFalsely : Prop := solveStepsRow.holds Tryz.pinned (OpenSpec.ofChange solveStepsWrong)

/- THE SECOND FORM. 'bulk': how many values and letters a reading holds, each counted each time it is reached (what is shared counts as often as it is met; a slice's spare places count too). A statement '..UptoSaid' is the law's where the arguments, and the package variables that the reading takes, are together of bulk at most 1048576: NARROWER than '..Said'. Prove '..Said' where nothing that the law and all that it calls make is longer than what came in: it says more and counts as full. Else prove '..UptoSaid'. A law counts once. -/
mutual
def uptoBulk {H : Type} : DataW H → Nat
  | .lit (.string bytes) => bytes.length + 1
  | .lit _ => 1
  | .nil => 1
  | .ptr d => uptoBulk d + 1
  | .slice elems spare => uptoBulkAll elems + uptoBulkAll spare + 1
  | .agg parts => uptoBulkAll parts + 1
  | .iface _ d => uptoBulk d + 1
  | .map entries => uptoBulkEntries entries + 1
  | .held _ => 1
def uptoBulkAll {H : Type} : List (DataW H) → Nat
  | [] => 0
  | d :: r => uptoBulk d + uptoBulkAll r
def uptoBulkEntries {H : Type} : List (Lit × DataW H) → Nat
  | [] => 0
  | x :: r => uptoBulkEntry x + uptoBulkEntries r
def uptoBulkEntry {H : Type} : Lit × DataW H → Nat
  | (.string bytes, d) => bytes.length + uptoBulk d + 1
  | (_, d) => uptoBulk d + 1
 end
def uptoSmall : (H : Type) → List (DataW H) → Bool := fun _ ds => decide (uptoBulkAll ds ≤ 1048576)
def OpenSpec.upto (s : _root_.Go.ChangeSpec) : _root_.Go.OpenSpec := { _root_.Go.OpenSpec.ofChange s with cond := some uptoSmall }

/-- 'fingerpostlaw2.SolveFix', WHERE WHAT IT READS IS OF BULK AT MOST 1048576: true; the input reads as it did. -/
def solveFixUptoRow : OpenClaim := { program := "ytglonlpfnllocaagreatdoor", sum := "eb6ab3e03391c99ecaa2f43ea11cdcef3b2c05f89bfa2dcb1f7df8a868af68ef", func := "fingerpost/fingerpostlaw2.SolveFix", spec := "solveFix", inPlace := ["slices.overlaps[int]"], unfollowed := true, recurses := true, named := ["fingerpost/api.ErrFull", "fingerpost/api.ErrName", "fingerpost/api.ErrExist", "fingerpost/api.ErrArgs", "fingerpost/api.ErrBound", "fingerpost/api.ErrKind", "fingerpost/api.ErrShape", "fingerpost/api.ErrOrder"], plainKeys := false, apart := false, laid := [("fingerpost/api.ErrBound", laid_fingerpost_api_ErrBound), ("fingerpost/api.ErrShape", laid_fingerpost_api_ErrShape), ("fingerpost/api.ErrKind", laid_fingerpost_api_ErrKind), ("fingerpost/api.ErrName", laid_fingerpost_api_ErrName), ("fingerpost/api.ErrExist", laid_fingerpost_api_ErrExist), ("fingerpost/api.ErrFull", laid_fingerpost_api_ErrFull), ("fingerpost/api.ErrArgs", laid_fingerpost_api_ErrArgs), ("fingerpost/api.ErrOrder", laid_fingerpost_api_ErrOrder)], narrowed := true }
def SolveFixUptoSaid : Prop := solveFixUptoRow.holds Tryz.pinned (OpenSpec.upto solveFixSpec)

/-- 'fingerpostlaw2.SolveAdds', WHERE WHAT IT READS IS OF BULK AT MOST 1048576: true; the input reads as it did. -/
def solveAddsUptoRow : OpenClaim := { program := "ytglonlpfnllocaagreatdoor", sum := "eb6ab3e03391c99ecaa2f43ea11cdcef3b2c05f89bfa2dcb1f7df8a868af68ef", func := "fingerpost/fingerpostlaw2.SolveAdds", spec := "solveAdds", inPlace := ["slices.overlaps[int]", "internal/reflectlite.ValueOf", "(internal/reflectlite.Value).Type", "(internal/reflectlite.Value).IsNil", "internal/reflectlite.TypeOf", "(internal/reflectlite.Value).Elem", "(internal/reflectlite.Value).Set"], unfollowed := true, recurses := true, named := ["fingerpost/api.ErrFull", "fingerpost/api.ErrName", "fingerpost/api.ErrExist", "fingerpost/api.ErrArgs", "fingerpost/api.ErrBound", "fingerpost/api.ErrKind", "fingerpost/api.ErrShape", "errors.errorType", "fingerpost/api.ErrOrder", "fingerpost/api.ErrText", "fingerpost/api.ErrNone", "fingerpost/api.ErrSum"], plainKeys := false, apart := false, laid := [("errors.errorType", laid_errors_errorType), ("fingerpost/api.ErrText", laid_fingerpost_api_ErrText), ("fingerpost/api.ErrBound", laid_fingerpost_api_ErrBound), ("fingerpost/api.ErrShape", laid_fingerpost_api_ErrShape), ("fingerpost/api.ErrKind", laid_fingerpost_api_ErrKind), ("fingerpost/api.ErrName", laid_fingerpost_api_ErrName), ("fingerpost/api.ErrNone", laid_fingerpost_api_ErrNone), ("fingerpost/api.ErrExist", laid_fingerpost_api_ErrExist), ("fingerpost/api.ErrFull", laid_fingerpost_api_ErrFull), ("fingerpost/api.ErrArgs", laid_fingerpost_api_ErrArgs), ("fingerpost/api.ErrOrder", laid_fingerpost_api_ErrOrder), ("fingerpost/api.ErrSum", laid_fingerpost_api_ErrSum)], narrowed := true }
def SolveAddsUptoSaid : Prop := solveAddsUptoRow.holds Tryz.pinned (OpenSpec.upto solveAddsSpec)

/-- 'fingerpostlaw2.SolveSteps', WHERE WHAT IT READS IS OF BULK AT MOST 1048576: true; the input reads as it did. -/
def solveStepsUptoRow : OpenClaim := { program := "ytglonlpfnllocaagreatdoor", sum := "eb6ab3e03391c99ecaa2f43ea11cdcef3b2c05f89bfa2dcb1f7df8a868af68ef", func := "fingerpost/fingerpostlaw2.SolveSteps", spec := "solveSteps", inPlace := ["slices.overlaps[int]", "internal/reflectlite.ValueOf", "(internal/reflectlite.Value).Type", "(internal/reflectlite.Value).IsNil", "internal/reflectlite.TypeOf", "(internal/reflectlite.Value).Elem", "(internal/reflectlite.Value).Set"], unfollowed := true, recurses := true, named := ["fingerpost/api.ErrFull", "fingerpost/api.ErrName", "fingerpost/api.ErrExist", "fingerpost/api.ErrArgs", "fingerpost/api.ErrBound", "fingerpost/api.ErrKind", "fingerpost/api.ErrShape", "fingerpost/api.ErrText", "fingerpost/api.ErrNone", "fingerpost/api.ErrOrder", "fingerpost/api.ErrSum", "errors.errorType"], plainKeys := false, apart := false, laid := [("errors.errorType", laid_errors_errorType), ("fingerpost/api.ErrText", laid_fingerpost_api_ErrText), ("fingerpost/api.ErrBound", laid_fingerpost_api_ErrBound), ("fingerpost/api.ErrShape", laid_fingerpost_api_ErrShape), ("fingerpost/api.ErrKind", laid_fingerpost_api_ErrKind), ("fingerpost/api.ErrName", laid_fingerpost_api_ErrName), ("fingerpost/api.ErrNone", laid_fingerpost_api_ErrNone), ("fingerpost/api.ErrExist", laid_fingerpost_api_ErrExist), ("fingerpost/api.ErrFull", laid_fingerpost_api_ErrFull), ("fingerpost/api.ErrArgs", laid_fingerpost_api_ErrArgs), ("fingerpost/api.ErrOrder", laid_fingerpost_api_ErrOrder), ("fingerpost/api.ErrSum", laid_fingerpost_api_ErrSum)], narrowed := true }
def SolveStepsUptoSaid : Prop := solveStepsUptoRow.holds Tryz.pinned (OpenSpec.upto solveStepsSpec)

end Rows
end Go.Proofs.YtglonlpfnllocaaGreatDoor
