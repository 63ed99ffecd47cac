/-
  DERIVED. GIVEN WITH THE SEED: THE CARDS: each row of YtfajpkdpnpdfkaaGreatDoorRows.lean that lists a variable, with what it lists TIED to the program's text (the seventh form; the later family's looks); each row that meets fmt, with fmt's text TOLD by the authors' own Lean function (tested against real Go, not proved from fmt's source: count such statements apart). THE CARD IS WHAT COUNTS. Prove the row's statement (the work); the ties are given (YtfajpkdpnpdfkaaGreatDoorTie.lean); close each card by the builder's one call (the guide's Derived/Test/ToyasCard.lean, 'card_holds'). Laid BY PROGRAM, IN A SANDBOX (cutbox-door.mjs). By AI agents, Wed Nov 11 2026. No macro, syntax, notation, axiom, sorry.
-/
import Derived.Test.YtfajpkdpnpdfkaaGreatDoorRows
import GoSem.ClaimSeven
namespace Go.Proofs.YtfajpkdpnpdfkaaGreatDoor
namespace Rows

/-- THE TIED CARD OF 'fingerpostlaw1.ConsTells'. -/
def consTellsCard : Claim7 := { stood := { row := consTellsRow, standIns := [], harness := (true, "2122663978b486f070e64b9e44f917864ffe99ff0e68e043aa435a88bfa3fbbc"), looks := true }, kinds := [], alts := [], laidByText := true, laidKinds := [.handle, .sentinel, .sentinel, .sentinel, .sentinel, .sentinel, .sentinel, .sentinel, .sentinel, .sentinel, .sentinel, .sentinel], laidTests := true, laidLooks := .later }
def ConsTellsCardSaid : Prop := Claim7.holds Tryz.pinned (.plain (OpenSpec.ofChange consTellsSpec)) consTellsCard

/-- THE TIED CARD OF 'fingerpostlaw2.FixLeast'. -/
def fixLeastCard : Claim7 := { stood := { row := fixLeastRow, standIns := [], harness := (true, "2122663978b486f070e64b9e44f917864ffe99ff0e68e043aa435a88bfa3fbbc"), looks := true }, kinds := [], alts := [], laidByText := true, laidKinds := [.handle, .sentinel, .sentinel, .sentinel, .sentinel, .sentinel, .sentinel, .sentinel, .sentinel, .sentinel, .sentinel, .sentinel], laidTests := true, laidLooks := .later }
def FixLeastCardSaid : Prop := Claim7.holds Tryz.pinned (.plain (OpenSpec.ofChange fixLeastSpec)) fixLeastCard

/-- THE TIED CARD OF 'fingerpostlaw2.FixSound'. -/
def fixSoundCard : Claim7 := { stood := { row := fixSoundRow, standIns := [], harness := (true, "2122663978b486f070e64b9e44f917864ffe99ff0e68e043aa435a88bfa3fbbc"), looks := true }, kinds := [], alts := [], laidByText := true, laidKinds := [.sentinel, .sentinel, .sentinel, .sentinel, .sentinel, .sentinel, .sentinel, .sentinel], laidTests := true, laidLooks := .later }
def FixSoundCardSaid : Prop := Claim7.holds Tryz.pinned (.plain (OpenSpec.ofChange fixSoundSpec)) fixSoundCard

/-- THE TIED CARD OF 'fingerpostlaw2.WhyChecks'. -/
def whyChecksCard : Claim7 := { stood := { row := whyChecksRow, standIns := [], harness := (true, "2122663978b486f070e64b9e44f917864ffe99ff0e68e043aa435a88bfa3fbbc"), looks := true }, kinds := [], alts := [], laidByText := true, laidKinds := [.handle, .sentinel, .sentinel, .sentinel, .sentinel, .sentinel, .sentinel, .sentinel, .sentinel, .sentinel, .sentinel, .sentinel], laidTests := true, laidLooks := .later }
def WhyChecksCardSaid : Prop := Claim7.holds Tryz.pinned (.plain (OpenSpec.ofChange whyChecksSpec)) whyChecksCard

/-- THE SECOND FORM's CARD OF 'fingerpostlaw1.ConsTells'. -/
def consTellsUptoCard : Claim7 := { stood := { row := consTellsUptoRow, standIns := [], harness := (true, "2122663978b486f070e64b9e44f917864ffe99ff0e68e043aa435a88bfa3fbbc"), looks := true }, kinds := [], alts := [], laidByText := true, laidKinds := [.handle, .sentinel, .sentinel, .sentinel, .sentinel, .sentinel, .sentinel, .sentinel, .sentinel, .sentinel, .sentinel, .sentinel], laidTests := true, laidLooks := .later }
def ConsTellsUptoCardSaid : Prop := Claim7.holds Tryz.pinned (.plain (OpenSpec.upto consTellsSpec)) consTellsUptoCard

/-- THE SECOND FORM's CARD OF 'fingerpostlaw2.FixLeast'. -/
def fixLeastUptoCard : Claim7 := { stood := { row := fixLeastUptoRow, standIns := [], harness := (true, "2122663978b486f070e64b9e44f917864ffe99ff0e68e043aa435a88bfa3fbbc"), looks := true }, kinds := [], alts := [], laidByText := true, laidKinds := [.handle, .sentinel, .sentinel, .sentinel, .sentinel, .sentinel, .sentinel, .sentinel, .sentinel, .sentinel, .sentinel, .sentinel], laidTests := true, laidLooks := .later }
def FixLeastUptoCardSaid : Prop := Claim7.holds Tryz.pinned (.plain (OpenSpec.upto fixLeastSpec)) fixLeastUptoCard

/-- THE SECOND FORM's CARD OF 'fingerpostlaw2.FixSound'. -/
def fixSoundUptoCard : Claim7 := { stood := { row := fixSoundUptoRow, standIns := [], harness := (true, "2122663978b486f070e64b9e44f917864ffe99ff0e68e043aa435a88bfa3fbbc"), looks := true }, kinds := [], alts := [], laidByText := true, laidKinds := [.sentinel, .sentinel, .sentinel, .sentinel, .sentinel, .sentinel, .sentinel, .sentinel], laidTests := true, laidLooks := .later }
def FixSoundUptoCardSaid : Prop := Claim7.holds Tryz.pinned (.plain (OpenSpec.upto fixSoundSpec)) fixSoundUptoCard

/-- THE SECOND FORM's CARD OF 'fingerpostlaw2.WhyChecks'. -/
def whyChecksUptoCard : Claim7 := { stood := { row := whyChecksUptoRow, standIns := [], harness := (true, "2122663978b486f070e64b9e44f917864ffe99ff0e68e043aa435a88bfa3fbbc"), looks := true }, kinds := [], alts := [], laidByText := true, laidKinds := [.handle, .sentinel, .sentinel, .sentinel, .sentinel, .sentinel, .sentinel, .sentinel, .sentinel, .sentinel, .sentinel, .sentinel], laidTests := true, laidLooks := .later }
def WhyChecksUptoCardSaid : Prop := Claim7.holds Tryz.pinned (.plain (OpenSpec.upto whyChecksSpec)) whyChecksUptoCard
end Rows
end Go.Proofs.YtfajpkdpnpdfkaaGreatDoor
