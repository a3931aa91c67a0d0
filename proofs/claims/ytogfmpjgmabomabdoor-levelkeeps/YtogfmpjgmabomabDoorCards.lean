/-
  DERIVED. GIVEN WITH THE SEED: THE CARDS: each row of YtogfmpjgmabomabDoorRows.lean that lists a variable, with what it lists TIED to the program's text (the seventh form; the later family's looks); each row that meets fmt, with fmt's text TOLD by the authors' own Lean function (tested against real Go, not proved from fmt's source: count such statements apart). THE CARD IS WHAT COUNTS. Prove the row's statement (the work); the ties are given (YtogfmpjgmabomabDoorTie.lean); close each card by the builder's one call (the guide's Derived/Test/ToyasCard.lean, 'card_holds'). Laid BY PROGRAM, IN A SANDBOX (cutbox-door.mjs). By AI agents, Wed Nov 11 2026. No macro, syntax, notation, axiom, sorry.
-/
import Derived.Test.YtogfmpjgmabomabDoorRows
import GoSem.ClaimSeven
namespace Go.Proofs.YtogfmpjgmabomabDoor
namespace Rows

/-- THE TIED CARD OF 'touchstonelaw4.LevelKeeps'. -/
def levelKeepsCard : Claim7 := { stood := { row := levelKeepsRow, standIns := [], harness := (true, "63ec8708d051ef4561ba1b93cb04573598fb94e4c422bf3d5b2a151d440d3b4d"), looks := false }, kinds := [], alts := [], laidByText := true, laidKinds := [.data, .data], laidTests := true, laidLooks := .later }
def LevelKeepsCardSaid : Prop := Claim7.holds Tryd.pinned (.plain (OpenSpec.ofChange levelKeepsSpec)) levelKeepsCard

/-- THE TIED CARD OF 'touchstonelaw4.LevelPlaces'. -/
def levelPlacesCard : Claim7 := { stood := { row := levelPlacesRow, standIns := [], harness := (true, "63ec8708d051ef4561ba1b93cb04573598fb94e4c422bf3d5b2a151d440d3b4d"), looks := false }, kinds := [], alts := [], laidByText := true, laidKinds := [.data, .data], laidTests := true, laidLooks := .later }
def LevelPlacesCardSaid : Prop := Claim7.holds Tryd.pinned (.plain (OpenSpec.ofChange levelPlacesSpec)) levelPlacesCard

/-- THE TIED CARD OF 'touchstonelaw4.LevelShapes'. -/
def levelShapesCard : Claim7 := { stood := { row := levelShapesRow, standIns := [], harness := (true, "63ec8708d051ef4561ba1b93cb04573598fb94e4c422bf3d5b2a151d440d3b4d"), looks := false }, kinds := [], alts := [], laidByText := true, laidKinds := [.data, .data], laidTests := true, laidLooks := .later }
def LevelShapesCardSaid : Prop := Claim7.holds Tryd.pinned (.plain (OpenSpec.ofChange levelShapesSpec)) levelShapesCard

/-- THE SECOND FORM's CARD OF 'touchstonelaw4.LevelKeeps'. -/
def levelKeepsUptoCard : Claim7 := { stood := { row := levelKeepsUptoRow, standIns := [], harness := (true, "63ec8708d051ef4561ba1b93cb04573598fb94e4c422bf3d5b2a151d440d3b4d"), looks := false }, kinds := [], alts := [], laidByText := true, laidKinds := [.data, .data], laidTests := true, laidLooks := .later }
def LevelKeepsUptoCardSaid : Prop := Claim7.holds Tryd.pinned (.plain (OpenSpec.upto levelKeepsSpec)) levelKeepsUptoCard

/-- THE SECOND FORM's CARD OF 'touchstonelaw4.LevelPlaces'. -/
def levelPlacesUptoCard : Claim7 := { stood := { row := levelPlacesUptoRow, standIns := [], harness := (true, "63ec8708d051ef4561ba1b93cb04573598fb94e4c422bf3d5b2a151d440d3b4d"), looks := false }, kinds := [], alts := [], laidByText := true, laidKinds := [.data, .data], laidTests := true, laidLooks := .later }
def LevelPlacesUptoCardSaid : Prop := Claim7.holds Tryd.pinned (.plain (OpenSpec.upto levelPlacesSpec)) levelPlacesUptoCard

/-- THE SECOND FORM's CARD OF 'touchstonelaw4.LevelShapes'. -/
def levelShapesUptoCard : Claim7 := { stood := { row := levelShapesUptoRow, standIns := [], harness := (true, "63ec8708d051ef4561ba1b93cb04573598fb94e4c422bf3d5b2a151d440d3b4d"), looks := false }, kinds := [], alts := [], laidByText := true, laidKinds := [.data, .data], laidTests := true, laidLooks := .later }
def LevelShapesUptoCardSaid : Prop := Claim7.holds Tryd.pinned (.plain (OpenSpec.upto levelShapesSpec)) levelShapesUptoCard
end Rows
end Go.Proofs.YtogfmpjgmabomabDoor
