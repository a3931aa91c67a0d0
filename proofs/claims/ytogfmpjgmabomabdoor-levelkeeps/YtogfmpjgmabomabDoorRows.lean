/-
  NARROWER THAN 'FOR EVERY INPUT', by the rows' own cells (each row's printed sentence says how): LevelKeeps: laid · LevelPlaces: laid · LevelShapes: laid.
  DERIVED. THE GIVEN ROWS OF THIS SEAT. 3 by the template 'for every input the law returns true; each argument reads behind the call as it read before'; 0 by the template 'total and deterministic' (their statements: YtogfmpjgmabomabDoorTotals.lean).
  GIVEN WITH THE SEED: the statements are not yours to turn. If you find one false, say at which input.
  Laid BY PROGRAM, IN A SANDBOX (cutbox-rows.mjs): the forced cells as the released guide's own fill.sh prints them over the translation 38cd477d5820cc3c… (all of the seat's roots in one cut). By AI agents, Wed Nov 11 2026. No macro, syntax, notation, axiom, sorry.
-/
import Derived.Test.YtogfmpjgmabomabDoorChecked
import GoSem.Claim
import GoSem.ClaimJoined
import GoSem.ClaimMapViews
import Derived.JoinedTies
import Derived.KernelRfl
namespace Go.Proofs.YtogfmpjgmabomabDoor
/- THE CELL 'sum', in the pinned program and in every row, IS THE sha256 OF THE DUMP (.gsa) THAT YtogfmpjgmabomabDoorProg.lean LOADS. Nothing in Lean hashes anything: it is a label: what it is worth is what the hold of that sum in a sandbox is worth. -/
noncomputable def Tryd.pinned : Pinned := { name := "ytogfmpjgmabomabdoor", sum := "38cd477d5820cc3c4ccc6323583b5a79b8525127cca4509ef41f4fa1ab69fd31", checked := Tryd.checked }
namespace Rows
def none {H : Type} : Left H := { results := [], args := [] }

/- WHAT THE LISTED PACKAGE-LEVEL VARIABLES READ AS WHEN THE CALL BEGINS. Each datum BY PROGRAM (the guide's laid-datum.mjs) off the statement by which the dump's own 'gosem.cut.vars' lays the variable. In a bare row this is a premise. The card (YtogfmpjgmabomabDoorCards.lean) ties it to the program's text. -/
def laid_touchstone_level_argCounts {H : Type} : DataW H := .agg [.lit (.int .i64 0), .lit (.int .i64 1), .lit (.int .i64 2), .lit (.int .i64 2), .lit (.int .i64 0)]
def laid_touchstone_level_telling {H : Type} : DataW H := .agg [.lit (.int .i64 0), .lit (.int .i64 1), .lit (.int .i64 1099511627776)]

/-- 'touchstonelaw4.LevelKeeps': WHATEVER THE INPUT: true; the input reads as it did. -/
def levelKeepsSpec : ChangeSpec := { name := "levelKeeps", fn := fun _ => fun
  | [d1, d2] => { results := [.lit (.bool true)], args := [d1, d2] }
  | _ => none }
def levelKeepsRow : OpenClaim := { program := "ytogfmpjgmabomabdoor", sum := "38cd477d5820cc3c4ccc6323583b5a79b8525127cca4509ef41f4fa1ab69fd31", func := "touchstone/touchstonelaw4.LevelKeeps", spec := "levelKeeps", unfollowed := true, recurses := true, named := ["touchstone/level.argCounts", "touchstone/level.telling"], apart := false, laid := [("touchstone/level.argCounts", laid_touchstone_level_argCounts), ("touchstone/level.telling", laid_touchstone_level_telling)] }
def LevelKeepsSaid : Prop := levelKeepsRow.holds Tryd.pinned (OpenSpec.ofChange levelKeepsSpec)

/-- ITS FALSE NEIGHBOUR: 'it returns false'. Refute it at one input. -/
def levelKeepsWrong : ChangeSpec := { name := "levelKeeps", fn := fun _ => fun
  | [d1, d2] => { results := [.lit (.bool false)], args := [d1, d2] }
  | _ => none }
def LevelKeepsWrongFalsely : Prop := levelKeepsRow.holds Tryd.pinned (OpenSpec.ofChange levelKeepsWrong)

/-- 'touchstonelaw4.LevelPlaces': WHATEVER THE INPUT: true; the input reads as it did. -/
def levelPlacesSpec : ChangeSpec := { name := "levelPlaces", fn := fun _ => fun
  | [d] => { results := [.lit (.bool true)], args := [d] }
  | _ => none }
def levelPlacesRow : OpenClaim := { program := "ytogfmpjgmabomabdoor", sum := "38cd477d5820cc3c4ccc6323583b5a79b8525127cca4509ef41f4fa1ab69fd31", func := "touchstone/touchstonelaw4.LevelPlaces", spec := "levelPlaces", unfollowed := true, recurses := true, named := ["touchstone/level.argCounts", "touchstone/level.telling"], apart := false, laid := [("touchstone/level.argCounts", laid_touchstone_level_argCounts), ("touchstone/level.telling", laid_touchstone_level_telling)] }
def LevelPlacesSaid : Prop := levelPlacesRow.holds Tryd.pinned (OpenSpec.ofChange levelPlacesSpec)

/-- ITS FALSE NEIGHBOUR: 'it returns false'. Refute it at one input. -/
def levelPlacesWrong : ChangeSpec := { name := "levelPlaces", fn := fun _ => fun
  | [d] => { results := [.lit (.bool false)], args := [d] }
  | _ => none }
def LevelPlacesWrongFalsely : Prop := levelPlacesRow.holds Tryd.pinned (OpenSpec.ofChange levelPlacesWrong)

/-- 'touchstonelaw4.LevelShapes': WHATEVER THE INPUT: true; the input reads as it did. -/
def levelShapesSpec : ChangeSpec := { name := "levelShapes", fn := fun _ => fun
  | [d] => { results := [.lit (.bool true)], args := [d] }
  | _ => none }
def levelShapesRow : OpenClaim := { program := "ytogfmpjgmabomabdoor", sum := "38cd477d5820cc3c4ccc6323583b5a79b8525127cca4509ef41f4fa1ab69fd31", func := "touchstone/touchstonelaw4.LevelShapes", spec := "levelShapes", unfollowed := true, recurses := true, named := ["touchstone/level.argCounts", "touchstone/level.telling"], apart := false, laid := [("touchstone/level.argCounts", laid_touchstone_level_argCounts), ("touchstone/level.telling", laid_touchstone_level_telling)] }
def LevelShapesSaid : Prop := levelShapesRow.holds Tryd.pinned (OpenSpec.ofChange levelShapesSpec)

/-- ITS FALSE NEIGHBOUR: 'it returns false'. Refute it at one input. -/
def levelShapesWrong : ChangeSpec := { name := "levelShapes", fn := fun _ => fun
  | [d] => { results := [.lit (.bool false)], args := [d] }
  | _ => none }
def LevelShapesWrongFalsely : Prop := levelShapesRow.holds Tryd.pinned (OpenSpec.ofChange levelShapesWrong)

/- THE SECOND FORM. 'bulk': how many values and letters a reading holds, each counted each time it is reached (what is shared counts as often as it is met; a slice's spare places count too). A statement '..UptoSaid' is the law's where the arguments, and the package variables that the reading takes, are together of bulk at most 1048576: NARROWER than '..Said'. Prove '..Said' where nothing that the law and all that it calls make is longer than what came in: it says more and counts as full. Else prove '..UptoSaid'. A law counts once. -/
mutual
def uptoBulk {H : Type} : DataW H → Nat
  | .lit (.string bytes) => bytes.length + 1
  | .lit _ => 1
  | .nil => 1
  | .ptr d => uptoBulk d + 1
  | .slice elems spare => uptoBulkAll elems + uptoBulkAll spare + 1
  | .agg parts => uptoBulkAll parts + 1
  | .iface _ d => uptoBulk d + 1
  | .map entries => uptoBulkEntries entries + 1
  | .held _ => 1
def uptoBulkAll {H : Type} : List (DataW H) → Nat
  | [] => 0
  | d :: r => uptoBulk d + uptoBulkAll r
def uptoBulkEntries {H : Type} : List (Lit × DataW H) → Nat
  | [] => 0
  | x :: r => uptoBulkEntry x + uptoBulkEntries r
def uptoBulkEntry {H : Type} : Lit × DataW H → Nat
  | (.string bytes, d) => bytes.length + uptoBulk d + 1
  | (_, d) => uptoBulk d + 1
 end
def uptoSmall : (H : Type) → List (DataW H) → Bool := fun _ ds => decide (uptoBulkAll ds ≤ 1048576)
def OpenSpec.upto (s : _root_.Go.ChangeSpec) : _root_.Go.OpenSpec := { _root_.Go.OpenSpec.ofChange s with cond := some uptoSmall }

/-- 'touchstonelaw4.LevelKeeps', WHERE WHAT IT READS IS OF BULK AT MOST 1048576: true; the input reads as it did. -/
def levelKeepsUptoRow : OpenClaim := { program := "ytogfmpjgmabomabdoor", sum := "38cd477d5820cc3c4ccc6323583b5a79b8525127cca4509ef41f4fa1ab69fd31", func := "touchstone/touchstonelaw4.LevelKeeps", spec := "levelKeeps", unfollowed := true, recurses := true, named := ["touchstone/level.argCounts", "touchstone/level.telling"], apart := false, laid := [("touchstone/level.argCounts", laid_touchstone_level_argCounts), ("touchstone/level.telling", laid_touchstone_level_telling)], narrowed := true }
def LevelKeepsUptoSaid : Prop := levelKeepsUptoRow.holds Tryd.pinned (OpenSpec.upto levelKeepsSpec)

/-- 'touchstonelaw4.LevelPlaces', WHERE WHAT IT READS IS OF BULK AT MOST 1048576: true; the input reads as it did. -/
def levelPlacesUptoRow : OpenClaim := { program := "ytogfmpjgmabomabdoor", sum := "38cd477d5820cc3c4ccc6323583b5a79b8525127cca4509ef41f4fa1ab69fd31", func := "touchstone/touchstonelaw4.LevelPlaces", spec := "levelPlaces", unfollowed := true, recurses := true, named := ["touchstone/level.argCounts", "touchstone/level.telling"], apart := false, laid := [("touchstone/level.argCounts", laid_touchstone_level_argCounts), ("touchstone/level.telling", laid_touchstone_level_telling)], narrowed := true }
def LevelPlacesUptoSaid : Prop := levelPlacesUptoRow.holds Tryd.pinned (OpenSpec.upto levelPlacesSpec)

/-- 'touchstonelaw4.LevelShapes', WHERE WHAT IT READS IS OF BULK AT MOST 1048576: true; the input reads as it did. -/
def levelShapesUptoRow : OpenClaim := { program := "ytogfmpjgmabomabdoor", sum := "38cd477d5820cc3c4ccc6323583b5a79b8525127cca4509ef41f4fa1ab69fd31", func := "touchstone/touchstonelaw4.LevelShapes", spec := "levelShapes", unfollowed := true, recurses := true, named := ["touchstone/level.argCounts", "touchstone/level.telling"], apart := false, laid := [("touchstone/level.argCounts", laid_touchstone_level_argCounts), ("touchstone/level.telling", laid_touchstone_level_telling)], narrowed := true }
def LevelShapesUptoSaid : Prop := levelShapesUptoRow.holds Tryd.pinned (OpenSpec.upto levelShapesSpec)

end Rows
end Go.Proofs.YtogfmpjgmabomabDoor
