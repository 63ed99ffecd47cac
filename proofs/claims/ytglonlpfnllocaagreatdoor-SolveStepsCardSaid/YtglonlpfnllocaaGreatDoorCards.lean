/-
  DERIVED. GIVEN WITH THE SEED: THE CARDS: each row of YtglonlpfnllocaaGreatDoorRows.lean that lists a variable, with what it lists TIED to the program's text (the seventh form; the later family's looks); each row that meets fmt, with fmt's text TOLD by the authors' own Lean function (tested against real Go, not proved from fmt's source: count such statements apart). THE CARD IS WHAT COUNTS. Prove the row's statement (the work); the ties are given (YtglonlpfnllocaaGreatDoorTie.lean); close each card by the builder's one call (the guide's Derived/Test/ToyasCard.lean, 'card_holds'). Laid BY PROGRAM, IN A SANDBOX (cutbox-door.mjs). By AI agents, Wed Nov 11 2026. No macro, syntax, notation, axiom, sorry.
-/
import Derived.Test.YtglonlpfnllocaaGreatDoorRows
import GoSem.ClaimSeven
namespace Go.Proofs.YtglonlpfnllocaaGreatDoor
namespace Rows

/-- THE TIED CARD OF 'fingerpostlaw2.SolveFix'. -/
def solveFixCard : Claim7 := { stood := { row := solveFixRow, standIns := [], harness := (true, "ca42ea31239884b76ed2376fa8d8e2eee0b1b557fa6f66d412bf3eef663c52ee"), looks := true }, kinds := [], alts := [], laidByText := true, laidKinds := [.sentinel, .sentinel, .sentinel, .sentinel, .sentinel, .sentinel, .sentinel, .sentinel], laidTests := true, laidLooks := .later }
def SolveFixCardSaid : Prop := Claim7.holds Tryz.pinned (.plain (OpenSpec.ofChange solveFixSpec)) solveFixCard

/-- THE TIED CARD OF 'fingerpostlaw2.SolveAdds'. -/
def solveAddsCard : Claim7 := { stood := { row := solveAddsRow, standIns := [], harness := (true, "ca42ea31239884b76ed2376fa8d8e2eee0b1b557fa6f66d412bf3eef663c52ee"), looks := true }, kinds := [], alts := [], laidByText := true, laidKinds := [.handle, .sentinel, .sentinel, .sentinel, .sentinel, .sentinel, .sentinel, .sentinel, .sentinel, .sentinel, .sentinel, .sentinel], laidTests := true, laidLooks := .later }
def SolveAddsCardSaid : Prop := Claim7.holds Tryz.pinned (.plain (OpenSpec.ofChange solveAddsSpec)) solveAddsCard

/-- THE TIED CARD OF 'fingerpostlaw2.SolveSteps'. -/
def solveStepsCard : Claim7 := { stood := { row := solveStepsRow, standIns := [], harness := (true, "ca42ea31239884b76ed2376fa8d8e2eee0b1b557fa6f66d412bf3eef663c52ee"), looks := true }, kinds := [], alts := [], laidByText := true, laidKinds := [.handle, .sentinel, .sentinel, .sentinel, .sentinel, .sentinel, .sentinel, .sentinel, .sentinel, .sentinel, .sentinel, .sentinel], laidTests := true, laidLooks := .later }
def SolveStepsCardSaid : Prop := Claim7.holds Tryz.pinned (.plain (OpenSpec.ofChange solveStepsSpec)) solveStepsCard

/-- THE SECOND FORM's CARD OF 'fingerpostlaw2.SolveFix'. -/
def solveFixUptoCard : Claim7 := { stood := { row := solveFixUptoRow, standIns := [], harness := (true, "ca42ea31239884b76ed2376fa8d8e2eee0b1b557fa6f66d412bf3eef663c52ee"), looks := true }, kinds := [], alts := [], laidByText := true, laidKinds := [.sentinel, .sentinel, .sentinel, .sentinel, .sentinel, .sentinel, .sentinel, .sentinel], laidTests := true, laidLooks := .later }
def SolveFixUptoCardSaid : Prop := Claim7.holds Tryz.pinned (.plain (OpenSpec.upto solveFixSpec)) solveFixUptoCard

/-- THE SECOND FORM's CARD OF 'fingerpostlaw2.SolveAdds'. -/
def solveAddsUptoCard : Claim7 := { stood := { row := solveAddsUptoRow, standIns := [], harness := (true, "ca42ea31239884b76ed2376fa8d8e2eee0b1b557fa6f66d412bf3eef663c52ee"), looks := true }, kinds := [], alts := [], laidByText := true, laidKinds := [.handle, .sentinel, .sentinel, .sentinel, .sentinel, .sentinel, .sentinel, .sentinel, .sentinel, .sentinel, .sentinel, .sentinel], laidTests := true, laidLooks := .later }
def SolveAddsUptoCardSaid : Prop := Claim7.holds Tryz.pinned (.plain (OpenSpec.upto solveAddsSpec)) solveAddsUptoCard

/-- THE SECOND FORM's CARD OF 'fingerpostlaw2.SolveSteps'. -/
def solveStepsUptoCard : Claim7 := { stood := { row := solveStepsUptoRow, standIns := [], harness := (true, "ca42ea31239884b76ed2376fa8d8e2eee0b1b557fa6f66d412bf3eef663c52ee"), looks := true }, kinds := [], alts := [], laidByText := true, laidKinds := [.handle, .sentinel, .sentinel, .sentinel, .sentinel, .sentinel, .sentinel, .sentinel, .sentinel, .sentinel, .sentinel, .sentinel], laidTests := true, laidLooks := .later }
def SolveStepsUptoCardSaid : Prop := Claim7.holds Tryz.pinned (.plain (OpenSpec.upto solveStepsSpec)) solveStepsUptoCard
end Rows
end Go.Proofs.YtglonlpfnllocaaGreatDoor
