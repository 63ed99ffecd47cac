/-
  DERIVED. GIVEN WITH THE SEED: THE CARDS: each row of YtimmkenmahagjaaGreatDoorRows.lean that lists a variable, with what it lists TIED to the program's text (the seventh form; the later family's looks); each row that meets fmt, with fmt's text TOLD by the authors' own Lean function (tested against real Go, not proved from fmt's source: count such statements apart). THE CARD IS WHAT COUNTS. Prove the row's statement (the work); the ties are given (YtimmkenmahagjaaGreatDoorTie.lean); close each card by the builder's one call (the guide's Derived/Test/ToyasCard.lean, 'card_holds'). Laid BY PROGRAM, IN A SANDBOX (cutbox-door.mjs). By AI agents, Wed Nov 11 2026. No macro, syntax, notation, axiom, sorry.
-/
import Derived.Test.YtimmkenmahagjaaGreatDoorRows
import GoSem.ClaimSeven
namespace Go.Proofs.YtimmkenmahagjaaGreatDoor
namespace Rows

/-- THE TIED CARD OF 'fingerpostlaw1.ConsTells'. -/
def consTellsCard : Claim7 := { stood := { row := consTellsRow, standIns := [], harness := (true, "c1ba222680edc405b235d59b764ee0df30899af1ec12d380d8098ed3712822b8"), looks := true }, kinds := [], alts := [], laidByText := true, laidKinds := [.handle, .sentinel, .sentinel, .sentinel, .sentinel, .sentinel, .sentinel, .sentinel, .sentinel, .sentinel, .sentinel, .sentinel], laidTests := true, laidLooks := .later }
def ConsTellsCardSaid : Prop := Claim7.holds Tryz.pinned (.plain (OpenSpec.ofChange consTellsSpec)) consTellsCard

/-- THE TIED CARD OF 'fingerpostlaw1.ConsMore'. -/
def consMoreCard : Claim7 := { stood := { row := consMoreRow, standIns := [], harness := (true, "c1ba222680edc405b235d59b764ee0df30899af1ec12d380d8098ed3712822b8"), looks := true }, kinds := [], alts := [], laidByText := true, laidKinds := [.sentinel, .sentinel, .sentinel, .sentinel, .sentinel, .sentinel, .sentinel, .sentinel], laidTests := true, laidLooks := .later }
def ConsMoreCardSaid : Prop := Claim7.holds Tryz.pinned (.plain (OpenSpec.ofChange consMoreSpec)) consMoreCard

/-- THE TIED CARD OF 'fingerpostlaw1.ConsOrder'. -/
def consOrderCard : Claim7 := { stood := { row := consOrderRow, standIns := [], harness := (true, "c1ba222680edc405b235d59b764ee0df30899af1ec12d380d8098ed3712822b8"), looks := true }, kinds := [], alts := [], laidByText := true, laidKinds := [.sentinel, .sentinel, .sentinel, .sentinel, .sentinel, .sentinel, .sentinel, .sentinel], laidTests := true, laidLooks := .later }
def ConsOrderCardSaid : Prop := Claim7.holds Tryz.pinned (.plain (OpenSpec.ofChange consOrderSpec)) consOrderCard

/-- THE TIED CARD OF 'fingerpostlaw2.FixLeast'. -/
def fixLeastCard : Claim7 := { stood := { row := fixLeastRow, standIns := [], harness := (true, "c1ba222680edc405b235d59b764ee0df30899af1ec12d380d8098ed3712822b8"), looks := true }, kinds := [], alts := [], laidByText := true, laidKinds := [.handle, .sentinel, .sentinel, .sentinel, .sentinel, .sentinel, .sentinel, .sentinel, .sentinel, .sentinel, .sentinel, .sentinel], laidTests := true, laidLooks := .later }
def FixLeastCardSaid : Prop := Claim7.holds Tryz.pinned (.plain (OpenSpec.ofChange fixLeastSpec)) fixLeastCard

/-- THE TIED CARD OF 'fingerpostlaw2.FixClosed'. -/
def fixClosedCard : Claim7 := { stood := { row := fixClosedRow, standIns := [], harness := (true, "c1ba222680edc405b235d59b764ee0df30899af1ec12d380d8098ed3712822b8"), looks := true }, kinds := [], alts := [], laidByText := true, laidKinds := [.sentinel, .sentinel, .sentinel, .sentinel, .sentinel, .sentinel, .sentinel, .sentinel], laidTests := true, laidLooks := .later }
def FixClosedCardSaid : Prop := Claim7.holds Tryz.pinned (.plain (OpenSpec.ofChange fixClosedSpec)) fixClosedCard

/-- THE TIED CARD OF 'fingerpostlaw2.FixOrder'. -/
def fixOrderCard : Claim7 := { stood := { row := fixOrderRow, standIns := [], harness := (true, "c1ba222680edc405b235d59b764ee0df30899af1ec12d380d8098ed3712822b8"), looks := true }, kinds := [], alts := [], laidByText := true, laidKinds := [.sentinel, .sentinel, .sentinel, .sentinel, .sentinel, .sentinel, .sentinel, .sentinel], laidTests := true, laidLooks := .later }
def FixOrderCardSaid : Prop := Claim7.holds Tryz.pinned (.plain (OpenSpec.ofChange fixOrderSpec)) fixOrderCard

/-- THE SECOND FORM's CARD OF 'fingerpostlaw1.ConsTells'. -/
def consTellsUptoCard : Claim7 := { stood := { row := consTellsUptoRow, standIns := [], harness := (true, "c1ba222680edc405b235d59b764ee0df30899af1ec12d380d8098ed3712822b8"), looks := true }, kinds := [], alts := [], laidByText := true, laidKinds := [.handle, .sentinel, .sentinel, .sentinel, .sentinel, .sentinel, .sentinel, .sentinel, .sentinel, .sentinel, .sentinel, .sentinel], laidTests := true, laidLooks := .later }
def ConsTellsUptoCardSaid : Prop := Claim7.holds Tryz.pinned (.plain (OpenSpec.upto consTellsSpec)) consTellsUptoCard

/-- THE SECOND FORM's CARD OF 'fingerpostlaw1.ConsMore'. -/
def consMoreUptoCard : Claim7 := { stood := { row := consMoreUptoRow, standIns := [], harness := (true, "c1ba222680edc405b235d59b764ee0df30899af1ec12d380d8098ed3712822b8"), looks := true }, kinds := [], alts := [], laidByText := true, laidKinds := [.sentinel, .sentinel, .sentinel, .sentinel, .sentinel, .sentinel, .sentinel, .sentinel], laidTests := true, laidLooks := .later }
def ConsMoreUptoCardSaid : Prop := Claim7.holds Tryz.pinned (.plain (OpenSpec.upto consMoreSpec)) consMoreUptoCard

/-- THE SECOND FORM's CARD OF 'fingerpostlaw1.ConsOrder'. -/
def consOrderUptoCard : Claim7 := { stood := { row := consOrderUptoRow, standIns := [], harness := (true, "c1ba222680edc405b235d59b764ee0df30899af1ec12d380d8098ed3712822b8"), looks := true }, kinds := [], alts := [], laidByText := true, laidKinds := [.sentinel, .sentinel, .sentinel, .sentinel, .sentinel, .sentinel, .sentinel, .sentinel], laidTests := true, laidLooks := .later }
def ConsOrderUptoCardSaid : Prop := Claim7.holds Tryz.pinned (.plain (OpenSpec.upto consOrderSpec)) consOrderUptoCard

/-- THE SECOND FORM's CARD OF 'fingerpostlaw2.FixLeast'. -/
def fixLeastUptoCard : Claim7 := { stood := { row := fixLeastUptoRow, standIns := [], harness := (true, "c1ba222680edc405b235d59b764ee0df30899af1ec12d380d8098ed3712822b8"), looks := true }, kinds := [], alts := [], laidByText := true, laidKinds := [.handle, .sentinel, .sentinel, .sentinel, .sentinel, .sentinel, .sentinel, .sentinel, .sentinel, .sentinel, .sentinel, .sentinel], laidTests := true, laidLooks := .later }
def FixLeastUptoCardSaid : Prop := Claim7.holds Tryz.pinned (.plain (OpenSpec.upto fixLeastSpec)) fixLeastUptoCard

/-- THE SECOND FORM's CARD OF 'fingerpostlaw2.FixClosed'. -/
def fixClosedUptoCard : Claim7 := { stood := { row := fixClosedUptoRow, standIns := [], harness := (true, "c1ba222680edc405b235d59b764ee0df30899af1ec12d380d8098ed3712822b8"), looks := true }, kinds := [], alts := [], laidByText := true, laidKinds := [.sentinel, .sentinel, .sentinel, .sentinel, .sentinel, .sentinel, .sentinel, .sentinel], laidTests := true, laidLooks := .later }
def FixClosedUptoCardSaid : Prop := Claim7.holds Tryz.pinned (.plain (OpenSpec.upto fixClosedSpec)) fixClosedUptoCard

/-- THE SECOND FORM's CARD OF 'fingerpostlaw2.FixOrder'. -/
def fixOrderUptoCard : Claim7 := { stood := { row := fixOrderUptoRow, standIns := [], harness := (true, "c1ba222680edc405b235d59b764ee0df30899af1ec12d380d8098ed3712822b8"), looks := true }, kinds := [], alts := [], laidByText := true, laidKinds := [.sentinel, .sentinel, .sentinel, .sentinel, .sentinel, .sentinel, .sentinel, .sentinel], laidTests := true, laidLooks := .later }
def FixOrderUptoCardSaid : Prop := Claim7.holds Tryz.pinned (.plain (OpenSpec.upto fixOrderSpec)) fixOrderUptoCard
end Rows
end Go.Proofs.YtimmkenmahagjaaGreatDoor
