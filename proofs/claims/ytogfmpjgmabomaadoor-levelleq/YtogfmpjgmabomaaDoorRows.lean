/-
  NARROWER THAN 'FOR EVERY INPUT', by the rows' own cells (each row's printed sentence says how): LevelMay: loops, laid · LevelEval: loops, laid · LevelLeq: loops, laid · LevelHolds: laid · LevelOrder: laid · LevelPut: loops, laid.
  DERIVED. THE GIVEN ROWS OF THIS SEAT. 6 by the template 'for every input the law returns true; each argument reads behind the call as it read before'; 0 by the template 'total and deterministic' (their statements: YtogfmpjgmabomaaDoorTotals.lean).
  GIVEN WITH THE SEED: the statements are not yours to turn. If you find one false, say at which input.
  Laid BY PROGRAM, IN A SANDBOX (cutbox-rows.mjs): the forced cells as the released guide's own fill.sh prints them over the translation 848da242934ea4b3… (all of the seat's roots in one cut). By AI agents, Wed Nov 11 2026. No macro, syntax, notation, axiom, sorry.
-/
import Derived.Test.YtogfmpjgmabomaaDoorChecked
import GoSem.Claim
import GoSem.ClaimJoined
import GoSem.ClaimMapViews
import Derived.JoinedTies
import Derived.KernelRfl
namespace Go.Proofs.YtogfmpjgmabomaaDoor
/- THE CELL 'sum', in the pinned program and in every row, IS THE sha256 OF THE DUMP (.gsa) THAT YtogfmpjgmabomaaDoorProg.lean LOADS. Nothing in Lean hashes anything: it is a label: what it is worth is what the hold of that sum in a sandbox is worth. -/
noncomputable def Tryd.pinned : Pinned := { name := "ytogfmpjgmabomaadoor", sum := "848da242934ea4b32bf4870fd548a29100aadc5326928a47883acf0ecf30fdea", checked := Tryd.checked }
namespace Rows
def none {H : Type} : Left H := { results := [], args := [] }

/- WHAT THE LISTED PACKAGE-LEVEL VARIABLES READ AS WHEN THE CALL BEGINS. Each datum BY PROGRAM (the guide's laid-datum.mjs) off the statement by which the dump's own 'gosem.cut.vars' lays the variable. In a bare row this is a premise. The card (YtogfmpjgmabomaaDoorCards.lean) ties it to the program's text. -/
def laid_touchstone_level_argCounts {H : Type} : DataW H := .agg [.lit (.int .i64 0), .lit (.int .i64 1), .lit (.int .i64 2), .lit (.int .i64 2), .lit (.int .i64 0)]
def laid_touchstone_level_telling {H : Type} : DataW H := .agg [.lit (.int .i64 0), .lit (.int .i64 1), .lit (.int .i64 1099511627776)]

/-- 'touchstonelaw4.LevelMay': WHATEVER THE INPUT: true; the input reads as it did. -/
def levelMaySpec : ChangeSpec := { name := "levelMay", fn := fun _ => fun
  | [d1, d2] => { results := [.lit (.bool true)], args := [d1, d2] }
  | _ => none }
def levelMayRow : OpenClaim := { program := "ytogfmpjgmabomaadoor", sum := "848da242934ea4b32bf4870fd548a29100aadc5326928a47883acf0ecf30fdea", func := "touchstone/touchstonelaw4.LevelMay", spec := "levelMay", unfollowed := true, recurses := true, named := ["touchstone/level.argCounts", "touchstone/level.telling"], loops := true, apart := false, laid := [("touchstone/level.argCounts", laid_touchstone_level_argCounts), ("touchstone/level.telling", laid_touchstone_level_telling)] }
def LevelMaySaid : Prop := levelMayRow.holds Tryd.pinned (OpenSpec.ofChange levelMaySpec)

/-- ITS FALSE NEIGHBOUR: 'it returns false'. Refute it at one input. -/
def levelMayWrong : ChangeSpec := { name := "levelMay", fn := fun _ => fun
  | [d1, d2] => { results := [.lit (.bool false)], args := [d1, d2] }
  | _ => none }
def LevelMayWrongFalsely : Prop := levelMayRow.holds Tryd.pinned (OpenSpec.ofChange levelMayWrong)

/-- 'touchstonelaw4.LevelEval': WHATEVER THE INPUT: true; the input reads as it did. -/
def levelEvalSpec : ChangeSpec := { name := "levelEval", fn := fun _ => fun
  | [d1, d2] => { results := [.lit (.bool true)], args := [d1, d2] }
  | _ => none }
def levelEvalRow : OpenClaim := { program := "ytogfmpjgmabomaadoor", sum := "848da242934ea4b32bf4870fd548a29100aadc5326928a47883acf0ecf30fdea", func := "touchstone/touchstonelaw4.LevelEval", spec := "levelEval", unfollowed := true, recurses := true, named := ["touchstone/level.argCounts", "touchstone/level.telling"], loops := true, apart := false, laid := [("touchstone/level.argCounts", laid_touchstone_level_argCounts), ("touchstone/level.telling", laid_touchstone_level_telling)] }
def LevelEvalSaid : Prop := levelEvalRow.holds Tryd.pinned (OpenSpec.ofChange levelEvalSpec)

/-- ITS FALSE NEIGHBOUR: 'it returns false'. Refute it at one input. -/
def levelEvalWrong : ChangeSpec := { name := "levelEval", fn := fun _ => fun
  | [d1, d2] => { results := [.lit (.bool false)], args := [d1, d2] }
  | _ => none }
def LevelEvalWrongFalsely : Prop := levelEvalRow.holds Tryd.pinned (OpenSpec.ofChange levelEvalWrong)

/-- 'touchstonelaw4.LevelLeq': WHATEVER THE INPUT: true; the input reads as it did. -/
def levelLeqSpec : ChangeSpec := { name := "levelLeq", fn := fun _ => fun
  | [d1, d2, d3, d4] => { results := [.lit (.bool true)], args := [d1, d2, d3, d4] }
  | _ => none }
def levelLeqRow : OpenClaim := { program := "ytogfmpjgmabomaadoor", sum := "848da242934ea4b32bf4870fd548a29100aadc5326928a47883acf0ecf30fdea", func := "touchstone/touchstonelaw4.LevelLeq", spec := "levelLeq", unfollowed := true, recurses := true, named := ["touchstone/level.argCounts", "touchstone/level.telling"], loops := true, apart := false, laid := [("touchstone/level.argCounts", laid_touchstone_level_argCounts), ("touchstone/level.telling", laid_touchstone_level_telling)] }
def LevelLeqSaid : Prop := levelLeqRow.holds Tryd.pinned (OpenSpec.ofChange levelLeqSpec)

/-- ITS FALSE NEIGHBOUR: 'it returns false'. Refute it at one input. -/
def levelLeqWrong : ChangeSpec := { name := "levelLeq", fn := fun _ => fun
  | [d1, d2, d3, d4] => { results := [.lit (.bool false)], args := [d1, d2, d3, d4] }
  | _ => none }
def LevelLeqWrongFalsely : Prop := levelLeqRow.holds Tryd.pinned (OpenSpec.ofChange levelLeqWrong)

/-- 'touchstonelaw4.LevelHolds': WHATEVER THE INPUT: true; the input reads as it did. -/
def levelHoldsSpec : ChangeSpec := { name := "levelHolds", fn := fun _ => fun
  | [d1, d2] => { results := [.lit (.bool true)], args := [d1, d2] }
  | _ => none }
def levelHoldsRow : OpenClaim := { program := "ytogfmpjgmabomaadoor", sum := "848da242934ea4b32bf4870fd548a29100aadc5326928a47883acf0ecf30fdea", func := "touchstone/touchstonelaw4.LevelHolds", spec := "levelHolds", unfollowed := true, recurses := true, named := ["touchstone/level.argCounts", "touchstone/level.telling"], apart := false, laid := [("touchstone/level.argCounts", laid_touchstone_level_argCounts), ("touchstone/level.telling", laid_touchstone_level_telling)] }
def LevelHoldsSaid : Prop := levelHoldsRow.holds Tryd.pinned (OpenSpec.ofChange levelHoldsSpec)

/-- ITS FALSE NEIGHBOUR: 'it returns false'. Refute it at one input. -/
def levelHoldsWrong : ChangeSpec := { name := "levelHolds", fn := fun _ => fun
  | [d1, d2] => { results := [.lit (.bool false)], args := [d1, d2] }
  | _ => none }
def LevelHoldsWrongFalsely : Prop := levelHoldsRow.holds Tryd.pinned (OpenSpec.ofChange levelHoldsWrong)

/-- 'touchstonelaw4.LevelOrder': WHATEVER THE INPUT: true; the input reads as it did. -/
def levelOrderSpec : ChangeSpec := { name := "levelOrder", fn := fun _ => fun
  | [d] => { results := [.lit (.bool true)], args := [d] }
  | _ => none }
def levelOrderRow : OpenClaim := { program := "ytogfmpjgmabomaadoor", sum := "848da242934ea4b32bf4870fd548a29100aadc5326928a47883acf0ecf30fdea", func := "touchstone/touchstonelaw4.LevelOrder", spec := "levelOrder", unfollowed := true, recurses := true, named := ["touchstone/level.argCounts", "touchstone/level.telling"], apart := false, laid := [("touchstone/level.argCounts", laid_touchstone_level_argCounts), ("touchstone/level.telling", laid_touchstone_level_telling)] }
def LevelOrderSaid : Prop := levelOrderRow.holds Tryd.pinned (OpenSpec.ofChange levelOrderSpec)

/-- ITS FALSE NEIGHBOUR: 'it returns false'. Refute it at one input. -/
def levelOrderWrong : ChangeSpec := { name := "levelOrder", fn := fun _ => fun
  | [d] => { results := [.lit (.bool false)], args := [d] }
  | _ => none }
def LevelOrderWrongFalsely : Prop := levelOrderRow.holds Tryd.pinned (OpenSpec.ofChange levelOrderWrong)

/-- 'touchstonelaw4.LevelPut': WHATEVER THE INPUT: true; the input reads as it did. -/
def levelPutSpec : ChangeSpec := { name := "levelPut", fn := fun _ => fun
  | [d1, d2] => { results := [.lit (.bool true)], args := [d1, d2] }
  | _ => none }
def levelPutRow : OpenClaim := { program := "ytogfmpjgmabomaadoor", sum := "848da242934ea4b32bf4870fd548a29100aadc5326928a47883acf0ecf30fdea", func := "touchstone/touchstonelaw4.LevelPut", spec := "levelPut", unfollowed := true, recurses := true, named := ["touchstone/level.argCounts", "touchstone/level.telling"], loops := true, apart := false, laid := [("touchstone/level.argCounts", laid_touchstone_level_argCounts), ("touchstone/level.telling", laid_touchstone_level_telling)] }
def LevelPutSaid : Prop := levelPutRow.holds Tryd.pinned (OpenSpec.ofChange levelPutSpec)

/-- ITS FALSE NEIGHBOUR: 'it returns false'. Refute it at one input. -/
def levelPutWrong : ChangeSpec := { name := "levelPut", fn := fun _ => fun
  | [d1, d2] => { results := [.lit (.bool false)], args := [d1, d2] }
  | _ => none }
def LevelPutWrongFalsely : Prop := levelPutRow.holds Tryd.pinned (OpenSpec.ofChange levelPutWrong)

/- THE SECOND FORM. 'bulk': how many values and letters a reading holds, each counted each time it is reached (what is shared counts as often as it is met; a slice's spare places count too). A statement '..UptoSaid' is the law's where the arguments, and the package variables that the reading takes, are together of bulk at most 1048576: NARROWER than '..Said'. Prove '..Said' where nothing that the law and all that it calls make is longer than what came in: it says more and counts as full. Else prove '..UptoSaid'. A law counts once. -/
mutual
def uptoBulk {H : Type} : DataW H → Nat
  | .lit (.string bytes) => bytes.length + 1
  | .lit _ => 1
  | .nil => 1
  | .ptr d => uptoBulk d + 1
  | .slice elems spare => uptoBulkAll elems + uptoBulkAll spare + 1
  | .agg parts => uptoBulkAll parts + 1
  | .iface _ d => uptoBulk d + 1
  | .map entries => uptoBulkEntries entries + 1
  | .held _ => 1
def uptoBulkAll {H : Type} : List (DataW H) → Nat
  | [] => 0
  | d :: r => uptoBulk d + uptoBulkAll r
def uptoBulkEntries {H : Type} : List (Lit × DataW H) → Nat
  | [] => 0
  | x :: r => uptoBulkEntry x + uptoBulkEntries r
def uptoBulkEntry {H : Type} : Lit × DataW H → Nat
  | (.string bytes, d) => bytes.length + uptoBulk d + 1
  | (_, d) => uptoBulk d + 1
 end
def uptoSmall : (H : Type) → List (DataW H) → Bool := fun _ ds => decide (uptoBulkAll ds ≤ 1048576)
def OpenSpec.upto (s : _root_.Go.ChangeSpec) : _root_.Go.OpenSpec := { _root_.Go.OpenSpec.ofChange s with cond := some uptoSmall }

/-- 'touchstonelaw4.LevelMay', WHERE WHAT IT READS IS OF BULK AT MOST 1048576: true; the input reads as it did. -/
def levelMayUptoRow : OpenClaim := { program := "ytogfmpjgmabomaadoor", sum := "848da242934ea4b32bf4870fd548a29100aadc5326928a47883acf0ecf30fdea", func := "touchstone/touchstonelaw4.LevelMay", spec := "levelMay", unfollowed := true, recurses := true, named := ["touchstone/level.argCounts", "touchstone/level.telling"], loops := true, apart := false, laid := [("touchstone/level.argCounts", laid_touchstone_level_argCounts), ("touchstone/level.telling", laid_touchstone_level_telling)], narrowed := true }
def LevelMayUptoSaid : Prop := levelMayUptoRow.holds Tryd.pinned (OpenSpec.upto levelMaySpec)

/-- 'touchstonelaw4.LevelEval', WHERE WHAT IT READS IS OF BULK AT MOST 1048576: true; the input reads as it did. -/
def levelEvalUptoRow : OpenClaim := { program := "ytogfmpjgmabomaadoor", sum := "848da242934ea4b32bf4870fd548a29100aadc5326928a47883acf0ecf30fdea", func := "touchstone/touchstonelaw4.LevelEval", spec := "levelEval", unfollowed := true, recurses := true, named := ["touchstone/level.argCounts", "touchstone/level.telling"], loops := true, apart := false, laid := [("touchstone/level.argCounts", laid_touchstone_level_argCounts), ("touchstone/level.telling", laid_touchstone_level_telling)], narrowed := true }
def LevelEvalUptoSaid : Prop := levelEvalUptoRow.holds Tryd.pinned (OpenSpec.upto levelEvalSpec)

/-- 'touchstonelaw4.LevelLeq', WHERE WHAT IT READS IS OF BULK AT MOST 1048576: true; the input reads as it did. -/
def levelLeqUptoRow : OpenClaim := { program := "ytogfmpjgmabomaadoor", sum := "848da242934ea4b32bf4870fd548a29100aadc5326928a47883acf0ecf30fdea", func := "touchstone/touchstonelaw4.LevelLeq", spec := "levelLeq", unfollowed := true, recurses := true, named := ["touchstone/level.argCounts", "touchstone/level.telling"], loops := true, apart := false, laid := [("touchstone/level.argCounts", laid_touchstone_level_argCounts), ("touchstone/level.telling", laid_touchstone_level_telling)], narrowed := true }
def LevelLeqUptoSaid : Prop := levelLeqUptoRow.holds Tryd.pinned (OpenSpec.upto levelLeqSpec)

/-- 'touchstonelaw4.LevelHolds', WHERE WHAT IT READS IS OF BULK AT MOST 1048576: true; the input reads as it did. -/
def levelHoldsUptoRow : OpenClaim := { program := "ytogfmpjgmabomaadoor", sum := "848da242934ea4b32bf4870fd548a29100aadc5326928a47883acf0ecf30fdea", func := "touchstone/touchstonelaw4.LevelHolds", spec := "levelHolds", unfollowed := true, recurses := true, named := ["touchstone/level.argCounts", "touchstone/level.telling"], apart := false, laid := [("touchstone/level.argCounts", laid_touchstone_level_argCounts), ("touchstone/level.telling", laid_touchstone_level_telling)], narrowed := true }
def LevelHoldsUptoSaid : Prop := levelHoldsUptoRow.holds Tryd.pinned (OpenSpec.upto levelHoldsSpec)

/-- 'touchstonelaw4.LevelOrder', WHERE WHAT IT READS IS OF BULK AT MOST 1048576: true; the input reads as it did. -/
def levelOrderUptoRow : OpenClaim := { program := "ytogfmpjgmabomaadoor", sum := "848da242934ea4b32bf4870fd548a29100aadc5326928a47883acf0ecf30fdea", func := "touchstone/touchstonelaw4.LevelOrder", spec := "levelOrder", unfollowed := true, recurses := true, named := ["touchstone/level.argCounts", "touchstone/level.telling"], apart := false, laid := [("touchstone/level.argCounts", laid_touchstone_level_argCounts), ("touchstone/level.telling", laid_touchstone_level_telling)], narrowed := true }
def LevelOrderUptoSaid : Prop := levelOrderUptoRow.holds Tryd.pinned (OpenSpec.upto levelOrderSpec)

/-- 'touchstonelaw4.LevelPut', WHERE WHAT IT READS IS OF BULK AT MOST 1048576: true; the input reads as it did. -/
def levelPutUptoRow : OpenClaim := { program := "ytogfmpjgmabomaadoor", sum := "848da242934ea4b32bf4870fd548a29100aadc5326928a47883acf0ecf30fdea", func := "touchstone/touchstonelaw4.LevelPut", spec := "levelPut", unfollowed := true, recurses := true, named := ["touchstone/level.argCounts", "touchstone/level.telling"], loops := true, apart := false, laid := [("touchstone/level.argCounts", laid_touchstone_level_argCounts), ("touchstone/level.telling", laid_touchstone_level_telling)], narrowed := true }
def LevelPutUptoSaid : Prop := levelPutUptoRow.holds Tryd.pinned (OpenSpec.upto levelPutSpec)

end Rows
end Go.Proofs.YtogfmpjgmabomaaDoor
