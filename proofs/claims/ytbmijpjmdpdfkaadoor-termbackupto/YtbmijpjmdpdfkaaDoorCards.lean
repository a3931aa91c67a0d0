/-
  DERIVED. GIVEN WITH THE SEED: THE CARDS: each row of YtbmijpjmdpdfkaaDoorRows.lean that lists a variable, with what it lists TIED to the program's text (the seventh form; the later family's looks); each row that meets fmt, with fmt's text TOLD by the authors' own Lean function (tested against real Go, not proved from fmt's source: count such statements apart). THE CARD IS WHAT COUNTS. Prove the row's statement (the work); the ties are given (YtbmijpjmdpdfkaaDoorTie.lean); close each card by the builder's one call (the guide's Derived/Test/ToyasCard.lean, 'card_holds'). Laid BY PROGRAM, IN A SANDBOX (cutbox-door.mjs). By AI agents, Wed Nov 11 2026. No macro, syntax, notation, axiom, sorry.
-/
import Derived.Test.YtbmijpjmdpdfkaaDoorRows
import GoSem.ClaimSeven
namespace Go.Proofs.YtbmijpjmdpdfkaaDoor
namespace Rows

/-- THE TIED CARD OF 'touchstonelaw5.TermMay'. -/
def termMayCard : Claim7 := { stood := { row := termMayRow, standIns := [], harness := (true, "70c8374663c3193aba6da9cb5c797e9fe54567bb7549735f64a50f15e4ceab06"), looks := false }, kinds := [], alts := [], laidByText := true, laidKinds := [.data, .data, .data], laidTests := true, laidLooks := .later }
def TermMayCardSaid : Prop := Claim7.holds Tryd.pinned (.plain (OpenSpec.ofChange termMaySpec)) termMayCard

/-- THE TIED CARD OF 'touchstonelaw5.TermTurns'. -/
def termTurnsCard : Claim7 := { stood := { row := termTurnsRow, standIns := [], harness := (true, "70c8374663c3193aba6da9cb5c797e9fe54567bb7549735f64a50f15e4ceab06"), looks := false }, kinds := [], alts := [], laidByText := true, laidKinds := [.data, .data, .data], laidTests := true, laidLooks := .later }
def TermTurnsCardSaid : Prop := Claim7.holds Tryd.pinned (.plain (OpenSpec.ofChange termTurnsSpec)) termTurnsCard

/-- THE TIED CARD OF 'touchstonelaw5.TermBack'. -/
def termBackCard : Claim7 := { stood := { row := termBackRow, standIns := [], harness := (true, "70c8374663c3193aba6da9cb5c797e9fe54567bb7549735f64a50f15e4ceab06"), looks := false }, kinds := [], alts := [], laidByText := true, laidKinds := [.data, .data, .data], laidTests := true, laidLooks := .later }
def TermBackCardSaid : Prop := Claim7.holds Tryd.pinned (.plain (OpenSpec.ofChange termBackSpec)) termBackCard

/-- THE TIED CARD OF 'touchstonelaw5.TermThrough'. -/
def termThroughCard : Claim7 := { stood := { row := termThroughRow, standIns := [], harness := (true, "70c8374663c3193aba6da9cb5c797e9fe54567bb7549735f64a50f15e4ceab06"), looks := false }, kinds := [], alts := [], laidByText := true, laidKinds := [.data, .data, .data], laidTests := true, laidLooks := .later }
def TermThroughCardSaid : Prop := Claim7.holds Tryd.pinned (.plain (OpenSpec.ofChange termThroughSpec)) termThroughCard

/-- THE SECOND FORM's CARD OF 'touchstonelaw5.TermMay'. -/
def termMayUptoCard : Claim7 := { stood := { row := termMayUptoRow, standIns := [], harness := (true, "70c8374663c3193aba6da9cb5c797e9fe54567bb7549735f64a50f15e4ceab06"), looks := false }, kinds := [], alts := [], laidByText := true, laidKinds := [.data, .data, .data], laidTests := true, laidLooks := .later }
def TermMayUptoCardSaid : Prop := Claim7.holds Tryd.pinned (.plain (OpenSpec.upto termMaySpec)) termMayUptoCard

/-- THE SECOND FORM's CARD OF 'touchstonelaw5.TermTurns'. -/
def termTurnsUptoCard : Claim7 := { stood := { row := termTurnsUptoRow, standIns := [], harness := (true, "70c8374663c3193aba6da9cb5c797e9fe54567bb7549735f64a50f15e4ceab06"), looks := false }, kinds := [], alts := [], laidByText := true, laidKinds := [.data, .data, .data], laidTests := true, laidLooks := .later }
def TermTurnsUptoCardSaid : Prop := Claim7.holds Tryd.pinned (.plain (OpenSpec.upto termTurnsSpec)) termTurnsUptoCard

/-- THE SECOND FORM's CARD OF 'touchstonelaw5.TermBack'. -/
def termBackUptoCard : Claim7 := { stood := { row := termBackUptoRow, standIns := [], harness := (true, "70c8374663c3193aba6da9cb5c797e9fe54567bb7549735f64a50f15e4ceab06"), looks := false }, kinds := [], alts := [], laidByText := true, laidKinds := [.data, .data, .data], laidTests := true, laidLooks := .later }
def TermBackUptoCardSaid : Prop := Claim7.holds Tryd.pinned (.plain (OpenSpec.upto termBackSpec)) termBackUptoCard

/-- THE SECOND FORM's CARD OF 'touchstonelaw5.TermThrough'. -/
def termThroughUptoCard : Claim7 := { stood := { row := termThroughUptoRow, standIns := [], harness := (true, "70c8374663c3193aba6da9cb5c797e9fe54567bb7549735f64a50f15e4ceab06"), looks := false }, kinds := [], alts := [], laidByText := true, laidKinds := [.data, .data, .data], laidTests := true, laidLooks := .later }
def TermThroughUptoCardSaid : Prop := Claim7.holds Tryd.pinned (.plain (OpenSpec.upto termThroughSpec)) termThroughUptoCard
end Rows
end Go.Proofs.YtbmijpjmdpdfkaaDoor
