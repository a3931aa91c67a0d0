/-
  DERIVED. GIVEN WITH THE SEED: THE CARDS: each row of YtpibpjbeedcefaaDoorRows.lean that lists a variable, with what it lists TIED to the program's text (the seventh form; the later family's looks); each row that meets fmt, with fmt's text TOLD by the authors' own Lean function (tested against real Go, not proved from fmt's source: count such statements apart). THE CARD IS WHAT COUNTS. Prove the row's statement (the work); the ties are given (YtpibpjbeedcefaaDoorTie.lean); close each card by the builder's one call (the guide's Derived/Test/ToyasCard.lean, 'card_holds'). Laid BY PROGRAM, IN A SANDBOX (cutbox-door.mjs). By AI agents, Wed Nov 11 2026. No macro, syntax, notation, axiom, sorry.
-/
import Derived.Test.YtpibpjbeedcefaaDoorRows
import GoSem.ClaimSeven
namespace Go.Proofs.YtpibpjbeedcefaaDoor
namespace Rows

/-- THE TIED CARD OF 'touchstonelaw2.DigestAll'. -/
def digestAllCard : Claim7 := { stood := { row := digestAllRow, standIns := [], harness := (true, "d7db571ab0b86cc4fe67695cea8b476c36154871bba3faa02d8eea7dcc82f675"), looks := false }, kinds := [], alts := [], laidByText := true, laidKinds := [.data], laidTests := true, laidLooks := .later }
def DigestAllCardSaid : Prop := Claim7.holds Tryd.pinned (.plain (OpenSpec.ofChange digestAllSpec)) digestAllCard

/-- THE TIED CARD OF 'touchstonelaw2.DigestCuts'. -/
def digestCutsCard : Claim7 := { stood := { row := digestCutsRow, standIns := [], harness := (true, "d7db571ab0b86cc4fe67695cea8b476c36154871bba3faa02d8eea7dcc82f675"), looks := false }, kinds := [], alts := [], laidByText := true, laidKinds := [.data], laidTests := true, laidLooks := .later }
def DigestCutsCardSaid : Prop := Claim7.holds Tryd.pinned (.plain (OpenSpec.ofChange digestCutsSpec)) digestCutsCard

/-- THE TIED CARD OF 'touchstonelaw2.DigestEnds'. -/
def digestEndsCard : Claim7 := { stood := { row := digestEndsRow, standIns := [], harness := (true, "d7db571ab0b86cc4fe67695cea8b476c36154871bba3faa02d8eea7dcc82f675"), looks := false }, kinds := [], alts := [], laidByText := true, laidKinds := [.data], laidTests := true, laidLooks := .later }
def DigestEndsCardSaid : Prop := Claim7.holds Tryd.pinned (.plain (OpenSpec.ofChange digestEndsSpec)) digestEndsCard

/-- THE TIED CARD OF 'touchstonelaw2.DigestFirst'. -/
def digestFirstCard : Claim7 := { stood := { row := digestFirstRow, standIns := [], harness := (true, "d7db571ab0b86cc4fe67695cea8b476c36154871bba3faa02d8eea7dcc82f675"), looks := false }, kinds := [], alts := [], laidByText := true, laidKinds := [.data], laidTests := true, laidLooks := .later }
def DigestFirstCardSaid : Prop := Claim7.holds Tryd.pinned (.plain (OpenSpec.ofChange digestFirstSpec)) digestFirstCard

/-- THE SECOND FORM's CARD OF 'touchstonelaw2.DigestAll'. -/
def digestAllUptoCard : Claim7 := { stood := { row := digestAllUptoRow, standIns := [], harness := (true, "d7db571ab0b86cc4fe67695cea8b476c36154871bba3faa02d8eea7dcc82f675"), looks := false }, kinds := [], alts := [], laidByText := true, laidKinds := [.data], laidTests := true, laidLooks := .later }
def DigestAllUptoCardSaid : Prop := Claim7.holds Tryd.pinned (.plain (OpenSpec.upto digestAllSpec)) digestAllUptoCard

/-- THE SECOND FORM's CARD OF 'touchstonelaw2.DigestCuts'. -/
def digestCutsUptoCard : Claim7 := { stood := { row := digestCutsUptoRow, standIns := [], harness := (true, "d7db571ab0b86cc4fe67695cea8b476c36154871bba3faa02d8eea7dcc82f675"), looks := false }, kinds := [], alts := [], laidByText := true, laidKinds := [.data], laidTests := true, laidLooks := .later }
def DigestCutsUptoCardSaid : Prop := Claim7.holds Tryd.pinned (.plain (OpenSpec.upto digestCutsSpec)) digestCutsUptoCard

/-- THE SECOND FORM's CARD OF 'touchstonelaw2.DigestEnds'. -/
def digestEndsUptoCard : Claim7 := { stood := { row := digestEndsUptoRow, standIns := [], harness := (true, "d7db571ab0b86cc4fe67695cea8b476c36154871bba3faa02d8eea7dcc82f675"), looks := false }, kinds := [], alts := [], laidByText := true, laidKinds := [.data], laidTests := true, laidLooks := .later }
def DigestEndsUptoCardSaid : Prop := Claim7.holds Tryd.pinned (.plain (OpenSpec.upto digestEndsSpec)) digestEndsUptoCard

/-- THE SECOND FORM's CARD OF 'touchstonelaw2.DigestFirst'. -/
def digestFirstUptoCard : Claim7 := { stood := { row := digestFirstUptoRow, standIns := [], harness := (true, "d7db571ab0b86cc4fe67695cea8b476c36154871bba3faa02d8eea7dcc82f675"), looks := false }, kinds := [], alts := [], laidByText := true, laidKinds := [.data], laidTests := true, laidLooks := .later }
def DigestFirstUptoCardSaid : Prop := Claim7.holds Tryd.pinned (.plain (OpenSpec.upto digestFirstSpec)) digestFirstUptoCard
end Rows
end Go.Proofs.YtpibpjbeedcefaaDoor
