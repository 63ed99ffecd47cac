/-
  DERIVED. GIVEN WITH THE SEED: THE CARDS: each row of YteekjigaicmohaaGreatDoorRows.lean that lists a variable, with what it lists TIED to the program's text (the seventh form; the later family's looks); each row that meets fmt, with fmt's text TOLD by the authors' own Lean function (tested against real Go, not proved from fmt's source: count such statements apart). THE CARD IS WHAT COUNTS. Prove the row's statement (the work); the ties are given (YteekjigaicmohaaGreatDoorTie.lean); close each card by the builder's one call (the guide's Derived/Test/ToyasCard.lean, 'card_holds'). Laid BY PROGRAM, IN A SANDBOX (cutbox-door.mjs). By AI agents, Wed Nov 11 2026. No macro, syntax, notation, axiom, sorry.
-/
import Derived.Test.YteekjigaicmohaaGreatDoorRows
import GoSem.ClaimSeven
namespace Go.Proofs.YteekjigaicmohaaGreatDoor
namespace Rows

/-- THE TIED CARD OF 'fingerpostlaw2.SolveFix'. -/
def solveFixCard : Claim7 := { stood := { row := solveFixRow, standIns := [], harness := (true, "6c601191c7aa1536c08f54452166e7ff1db41acf4f8148797dd72e4afbf5c9c8"), looks := true }, kinds := [], alts := [], laidByText := true, laidKinds := [.sentinel, .sentinel, .sentinel, .sentinel, .sentinel, .sentinel, .sentinel, .sentinel], laidTests := true, laidLooks := .later }
def SolveFixCardSaid : Prop := Claim7.holds Tryz.pinned (.plain (OpenSpec.ofChange solveFixSpec)) solveFixCard

/-- THE TIED CARD OF 'fingerpostlaw2.SolveAdds'. -/
def solveAddsCard : Claim7 := { stood := { row := solveAddsRow, standIns := [], harness := (true, "6c601191c7aa1536c08f54452166e7ff1db41acf4f8148797dd72e4afbf5c9c8"), looks := true }, kinds := [], alts := [], laidByText := true, laidKinds := [.handle, .sentinel, .sentinel, .sentinel, .sentinel, .sentinel, .sentinel, .sentinel, .sentinel, .sentinel, .sentinel, .sentinel], laidTests := true, laidLooks := .later }
def SolveAddsCardSaid : Prop := Claim7.holds Tryz.pinned (.plain (OpenSpec.ofChange solveAddsSpec)) solveAddsCard

/-- THE TIED CARD OF 'fingerpostlaw2.SolveSteps'. -/
def solveStepsCard : Claim7 := { stood := { row := solveStepsRow, standIns := [], harness := (true, "6c601191c7aa1536c08f54452166e7ff1db41acf4f8148797dd72e4afbf5c9c8"), looks := true }, kinds := [], alts := [], laidByText := true, laidKinds := [.handle, .sentinel, .sentinel, .sentinel, .sentinel, .sentinel, .sentinel, .sentinel, .sentinel, .sentinel, .sentinel, .sentinel], laidTests := true, laidLooks := .later }
def SolveStepsCardSaid : Prop := Claim7.holds Tryz.pinned (.plain (OpenSpec.ofChange solveStepsSpec)) solveStepsCard

/-- THE TIED CARD OF 'fingerpostlaw2.CallsTell'. -/
def callsTellCard : Claim7 := { stood := { row := callsTellRow, standIns := [], harness := (true, "6c601191c7aa1536c08f54452166e7ff1db41acf4f8148797dd72e4afbf5c9c8"), looks := true }, kinds := [], alts := [], laidByText := true, laidKinds := [.handle, .sentinel, .sentinel, .sentinel, .sentinel, .sentinel, .sentinel, .sentinel, .sentinel, .sentinel, .sentinel, .sentinel], laidTests := true, laidLooks := .later }
def CallsTellCardSaid : Prop := Claim7.holds Tryz.pinned (.plain (OpenSpec.ofChange callsTellSpec)) callsTellCard

/-- THE TIED CARD OF 'fingerpostlaw2.CallsAlias'. -/
def callsAliasCard : Claim7 := { stood := { row := callsAliasRow, standIns := [], harness := (true, "6c601191c7aa1536c08f54452166e7ff1db41acf4f8148797dd72e4afbf5c9c8"), looks := true }, kinds := [], alts := [], laidByText := true, laidKinds := [.sentinel, .sentinel, .sentinel, .sentinel, .sentinel, .sentinel, .sentinel, .sentinel], laidTests := true, laidLooks := .later }
def CallsAliasCardSaid : Prop := Claim7.holds Tryz.pinned (.plain (OpenSpec.ofChange callsAliasSpec)) callsAliasCard

/-- THE TIED CARD OF 'fingerpostlaw2.CallsMay'. -/
def callsMayCard : Claim7 := { stood := { row := callsMayRow, standIns := [], harness := (true, "6c601191c7aa1536c08f54452166e7ff1db41acf4f8148797dd72e4afbf5c9c8"), looks := true }, kinds := [], alts := [], laidByText := true, laidKinds := [.sentinel, .sentinel, .sentinel, .sentinel, .sentinel, .sentinel, .sentinel, .sentinel], laidTests := true, laidLooks := .later }
def CallsMayCardSaid : Prop := Claim7.holds Tryz.pinned (.plain (OpenSpec.ofChange callsMaySpec)) callsMayCard

/-- THE SECOND FORM's CARD OF 'fingerpostlaw2.SolveFix'. -/
def solveFixUptoCard : Claim7 := { stood := { row := solveFixUptoRow, standIns := [], harness := (true, "6c601191c7aa1536c08f54452166e7ff1db41acf4f8148797dd72e4afbf5c9c8"), looks := true }, kinds := [], alts := [], laidByText := true, laidKinds := [.sentinel, .sentinel, .sentinel, .sentinel, .sentinel, .sentinel, .sentinel, .sentinel], laidTests := true, laidLooks := .later }
def SolveFixUptoCardSaid : Prop := Claim7.holds Tryz.pinned (.plain (OpenSpec.upto solveFixSpec)) solveFixUptoCard

/-- THE SECOND FORM's CARD OF 'fingerpostlaw2.SolveAdds'. -/
def solveAddsUptoCard : Claim7 := { stood := { row := solveAddsUptoRow, standIns := [], harness := (true, "6c601191c7aa1536c08f54452166e7ff1db41acf4f8148797dd72e4afbf5c9c8"), looks := true }, kinds := [], alts := [], laidByText := true, laidKinds := [.handle, .sentinel, .sentinel, .sentinel, .sentinel, .sentinel, .sentinel, .sentinel, .sentinel, .sentinel, .sentinel, .sentinel], laidTests := true, laidLooks := .later }
def SolveAddsUptoCardSaid : Prop := Claim7.holds Tryz.pinned (.plain (OpenSpec.upto solveAddsSpec)) solveAddsUptoCard

/-- THE SECOND FORM's CARD OF 'fingerpostlaw2.SolveSteps'. -/
def solveStepsUptoCard : Claim7 := { stood := { row := solveStepsUptoRow, standIns := [], harness := (true, "6c601191c7aa1536c08f54452166e7ff1db41acf4f8148797dd72e4afbf5c9c8"), looks := true }, kinds := [], alts := [], laidByText := true, laidKinds := [.handle, .sentinel, .sentinel, .sentinel, .sentinel, .sentinel, .sentinel, .sentinel, .sentinel, .sentinel, .sentinel, .sentinel], laidTests := true, laidLooks := .later }
def SolveStepsUptoCardSaid : Prop := Claim7.holds Tryz.pinned (.plain (OpenSpec.upto solveStepsSpec)) solveStepsUptoCard

/-- THE SECOND FORM's CARD OF 'fingerpostlaw2.CallsTell'. -/
def callsTellUptoCard : Claim7 := { stood := { row := callsTellUptoRow, standIns := [], harness := (true, "6c601191c7aa1536c08f54452166e7ff1db41acf4f8148797dd72e4afbf5c9c8"), looks := true }, kinds := [], alts := [], laidByText := true, laidKinds := [.handle, .sentinel, .sentinel, .sentinel, .sentinel, .sentinel, .sentinel, .sentinel, .sentinel, .sentinel, .sentinel, .sentinel], laidTests := true, laidLooks := .later }
def CallsTellUptoCardSaid : Prop := Claim7.holds Tryz.pinned (.plain (OpenSpec.upto callsTellSpec)) callsTellUptoCard

/-- THE SECOND FORM's CARD OF 'fingerpostlaw2.CallsAlias'. -/
def callsAliasUptoCard : Claim7 := { stood := { row := callsAliasUptoRow, standIns := [], harness := (true, "6c601191c7aa1536c08f54452166e7ff1db41acf4f8148797dd72e4afbf5c9c8"), looks := true }, kinds := [], alts := [], laidByText := true, laidKinds := [.sentinel, .sentinel, .sentinel, .sentinel, .sentinel, .sentinel, .sentinel, .sentinel], laidTests := true, laidLooks := .later }
def CallsAliasUptoCardSaid : Prop := Claim7.holds Tryz.pinned (.plain (OpenSpec.upto callsAliasSpec)) callsAliasUptoCard

/-- THE SECOND FORM's CARD OF 'fingerpostlaw2.CallsMay'. -/
def callsMayUptoCard : Claim7 := { stood := { row := callsMayUptoRow, standIns := [], harness := (true, "6c601191c7aa1536c08f54452166e7ff1db41acf4f8148797dd72e4afbf5c9c8"), looks := true }, kinds := [], alts := [], laidByText := true, laidKinds := [.sentinel, .sentinel, .sentinel, .sentinel, .sentinel, .sentinel, .sentinel, .sentinel], laidTests := true, laidLooks := .later }
def CallsMayUptoCardSaid : Prop := Claim7.holds Tryz.pinned (.plain (OpenSpec.upto callsMaySpec)) callsMayUptoCard
end Rows
end Go.Proofs.YteekjigaicmohaaGreatDoor
