/-
  DERIVED. GIVEN WITH THE SEED: THE CARDS: each row of YtogfmpjgmabomaaDoorRows.lean that lists a variable, with what it lists TIED to the program's text (the seventh form; the later family's looks); each row that meets fmt, with fmt's text TOLD by the authors' own Lean function (tested against real Go, not proved from fmt's source: count such statements apart). THE CARD IS WHAT COUNTS. Prove the row's statement (the work); the ties are given (YtogfmpjgmabomaaDoorTie.lean); close each card by the builder's one call (the guide's Derived/Test/ToyasCard.lean, 'card_holds'). Laid BY PROGRAM, IN A SANDBOX (cutbox-door.mjs). By AI agents, Wed Nov 11 2026. No macro, syntax, notation, axiom, sorry.
-/
import Derived.Test.YtogfmpjgmabomaaDoorRows
import GoSem.ClaimSeven
namespace Go.Proofs.YtogfmpjgmabomaaDoor
namespace Rows

/-- THE TIED CARD OF 'touchstonelaw4.LevelMay'. -/
def levelMayCard : Claim7 := { stood := { row := levelMayRow, standIns := [], harness := (true, "f1c80c1b53b16e41e7c013b64268e62c8d1937ddb01067b7a4076b2cf3ec0c6a"), looks := false }, kinds := [], alts := [], laidByText := true, laidKinds := [.data, .data], laidTests := true, laidLooks := .later }
def LevelMayCardSaid : Prop := Claim7.holds Tryd.pinned (.plain (OpenSpec.ofChange levelMaySpec)) levelMayCard

/-- THE TIED CARD OF 'touchstonelaw4.LevelEval'. -/
def levelEvalCard : Claim7 := { stood := { row := levelEvalRow, standIns := [], harness := (true, "f1c80c1b53b16e41e7c013b64268e62c8d1937ddb01067b7a4076b2cf3ec0c6a"), looks := false }, kinds := [], alts := [], laidByText := true, laidKinds := [.data, .data], laidTests := true, laidLooks := .later }
def LevelEvalCardSaid : Prop := Claim7.holds Tryd.pinned (.plain (OpenSpec.ofChange levelEvalSpec)) levelEvalCard

/-- THE TIED CARD OF 'touchstonelaw4.LevelLeq'. -/
def levelLeqCard : Claim7 := { stood := { row := levelLeqRow, standIns := [], harness := (true, "f1c80c1b53b16e41e7c013b64268e62c8d1937ddb01067b7a4076b2cf3ec0c6a"), looks := false }, kinds := [], alts := [], laidByText := true, laidKinds := [.data, .data], laidTests := true, laidLooks := .later }
def LevelLeqCardSaid : Prop := Claim7.holds Tryd.pinned (.plain (OpenSpec.ofChange levelLeqSpec)) levelLeqCard

/-- THE TIED CARD OF 'touchstonelaw4.LevelHolds'. -/
def levelHoldsCard : Claim7 := { stood := { row := levelHoldsRow, standIns := [], harness := (true, "f1c80c1b53b16e41e7c013b64268e62c8d1937ddb01067b7a4076b2cf3ec0c6a"), looks := false }, kinds := [], alts := [], laidByText := true, laidKinds := [.data, .data], laidTests := true, laidLooks := .later }
def LevelHoldsCardSaid : Prop := Claim7.holds Tryd.pinned (.plain (OpenSpec.ofChange levelHoldsSpec)) levelHoldsCard

/-- THE TIED CARD OF 'touchstonelaw4.LevelOrder'. -/
def levelOrderCard : Claim7 := { stood := { row := levelOrderRow, standIns := [], harness := (true, "f1c80c1b53b16e41e7c013b64268e62c8d1937ddb01067b7a4076b2cf3ec0c6a"), looks := false }, kinds := [], alts := [], laidByText := true, laidKinds := [.data, .data], laidTests := true, laidLooks := .later }
def LevelOrderCardSaid : Prop := Claim7.holds Tryd.pinned (.plain (OpenSpec.ofChange levelOrderSpec)) levelOrderCard

/-- THE TIED CARD OF 'touchstonelaw4.LevelPut'. -/
def levelPutCard : Claim7 := { stood := { row := levelPutRow, standIns := [], harness := (true, "f1c80c1b53b16e41e7c013b64268e62c8d1937ddb01067b7a4076b2cf3ec0c6a"), looks := false }, kinds := [], alts := [], laidByText := true, laidKinds := [.data, .data], laidTests := true, laidLooks := .later }
def LevelPutCardSaid : Prop := Claim7.holds Tryd.pinned (.plain (OpenSpec.ofChange levelPutSpec)) levelPutCard

/-- THE SECOND FORM's CARD OF 'touchstonelaw4.LevelMay'. -/
def levelMayUptoCard : Claim7 := { stood := { row := levelMayUptoRow, standIns := [], harness := (true, "f1c80c1b53b16e41e7c013b64268e62c8d1937ddb01067b7a4076b2cf3ec0c6a"), looks := false }, kinds := [], alts := [], laidByText := true, laidKinds := [.data, .data], laidTests := true, laidLooks := .later }
def LevelMayUptoCardSaid : Prop := Claim7.holds Tryd.pinned (.plain (OpenSpec.upto levelMaySpec)) levelMayUptoCard

/-- THE SECOND FORM's CARD OF 'touchstonelaw4.LevelEval'. -/
def levelEvalUptoCard : Claim7 := { stood := { row := levelEvalUptoRow, standIns := [], harness := (true, "f1c80c1b53b16e41e7c013b64268e62c8d1937ddb01067b7a4076b2cf3ec0c6a"), looks := false }, kinds := [], alts := [], laidByText := true, laidKinds := [.data, .data], laidTests := true, laidLooks := .later }
def LevelEvalUptoCardSaid : Prop := Claim7.holds Tryd.pinned (.plain (OpenSpec.upto levelEvalSpec)) levelEvalUptoCard

/-- THE SECOND FORM's CARD OF 'touchstonelaw4.LevelLeq'. -/
def levelLeqUptoCard : Claim7 := { stood := { row := levelLeqUptoRow, standIns := [], harness := (true, "f1c80c1b53b16e41e7c013b64268e62c8d1937ddb01067b7a4076b2cf3ec0c6a"), looks := false }, kinds := [], alts := [], laidByText := true, laidKinds := [.data, .data], laidTests := true, laidLooks := .later }
def LevelLeqUptoCardSaid : Prop := Claim7.holds Tryd.pinned (.plain (OpenSpec.upto levelLeqSpec)) levelLeqUptoCard

/-- THE SECOND FORM's CARD OF 'touchstonelaw4.LevelHolds'. -/
def levelHoldsUptoCard : Claim7 := { stood := { row := levelHoldsUptoRow, standIns := [], harness := (true, "f1c80c1b53b16e41e7c013b64268e62c8d1937ddb01067b7a4076b2cf3ec0c6a"), looks := false }, kinds := [], alts := [], laidByText := true, laidKinds := [.data, .data], laidTests := true, laidLooks := .later }
def LevelHoldsUptoCardSaid : Prop := Claim7.holds Tryd.pinned (.plain (OpenSpec.upto levelHoldsSpec)) levelHoldsUptoCard

/-- THE SECOND FORM's CARD OF 'touchstonelaw4.LevelOrder'. -/
def levelOrderUptoCard : Claim7 := { stood := { row := levelOrderUptoRow, standIns := [], harness := (true, "f1c80c1b53b16e41e7c013b64268e62c8d1937ddb01067b7a4076b2cf3ec0c6a"), looks := false }, kinds := [], alts := [], laidByText := true, laidKinds := [.data, .data], laidTests := true, laidLooks := .later }
def LevelOrderUptoCardSaid : Prop := Claim7.holds Tryd.pinned (.plain (OpenSpec.upto levelOrderSpec)) levelOrderUptoCard

/-- THE SECOND FORM's CARD OF 'touchstonelaw4.LevelPut'. -/
def levelPutUptoCard : Claim7 := { stood := { row := levelPutUptoRow, standIns := [], harness := (true, "f1c80c1b53b16e41e7c013b64268e62c8d1937ddb01067b7a4076b2cf3ec0c6a"), looks := false }, kinds := [], alts := [], laidByText := true, laidKinds := [.data, .data], laidTests := true, laidLooks := .later }
def LevelPutUptoCardSaid : Prop := Claim7.holds Tryd.pinned (.plain (OpenSpec.upto levelPutSpec)) levelPutUptoCard
end Rows
end Go.Proofs.YtogfmpjgmabomaaDoor
