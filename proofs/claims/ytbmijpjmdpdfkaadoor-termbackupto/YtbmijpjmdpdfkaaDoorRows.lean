/-
  NARROWER THAN 'FOR EVERY INPUT', by the rows' own cells (each row's printed sentence says how): TermMay: loops, laid · TermTurns: loops, laid · TermBack: loops, laid · TermThrough: loops, laid.
  DERIVED. THE GIVEN ROWS OF THIS SEAT. 4 by the template 'for every input the law returns true; each argument reads behind the call as it read before'; 0 by the template 'total and deterministic' (their statements: YtbmijpjmdpdfkaaDoorTotals.lean).
  GIVEN WITH THE SEED: the statements are not yours to turn. If you find one false, say at which input.
  Laid BY PROGRAM, IN A SANDBOX (cutbox-rows.mjs): the forced cells as the released guide's own fill.sh prints them over the translation ebfc3464ac444483… (all of the seat's roots in one cut). By AI agents, Wed Nov 11 2026. No macro, syntax, notation, axiom, sorry.
-/
import Derived.Test.YtbmijpjmdpdfkaaDoorChecked
import GoSem.Claim
import GoSem.ClaimJoined
import GoSem.ClaimMapViews
import Derived.JoinedTies
import Derived.KernelRfl
namespace Go.Proofs.YtbmijpjmdpdfkaaDoor
/- THE CELL 'sum', in the pinned program and in every row, IS THE sha256 OF THE DUMP (.gsa) THAT YtbmijpjmdpdfkaaDoorProg.lean LOADS. Nothing in Lean hashes anything: it is a label: what it is worth is what the hold of that sum in a sandbox is worth. -/
noncomputable def Tryd.pinned : Pinned := { name := "ytbmijpjmdpdfkaadoor", sum := "ebfc3464ac4444836927eeb456dd368c582e9fad29e45ad5ee129250edc9eb1c", checked := Tryd.checked }
namespace Rows
def none {H : Type} : Left H := { results := [], args := [] }

/- WHAT THE LISTED PACKAGE-LEVEL VARIABLES READ AS WHEN THE CALL BEGINS. Each datum BY PROGRAM (the guide's laid-datum.mjs) off the statement by which the dump's own 'gosem.cut.vars' lays the variable. In a bare row this is a premise. The card (YtbmijpjmdpdfkaaDoorCards.lean) ties it to the program's text. -/
def laid_touchstone_level_argCounts {H : Type} : DataW H := .agg [.lit (.int .i64 0), .lit (.int .i64 1), .lit (.int .i64 2), .lit (.int .i64 2), .lit (.int .i64 0)]
def laid_touchstone_term_argCounts {H : Type} : DataW H := .agg [.lit (.int .i64 0), .lit (.int .i64 0), .lit (.int .i64 0), .lit (.int .i64 2), .lit (.int .i64 2), .lit (.int .i64 2), .lit (.int .i64 3)]
def laid_touchstone_term_boundArgs {H : Type} : DataW H := .agg [.lit (.int .i64 0), .lit (.int .i64 0), .lit (.int .i64 0), .lit (.int .i64 0), .lit (.int .i64 1), .lit (.int .i64 1), .lit (.int .i64 2)]

/-- 'touchstonelaw5.TermMay': WHATEVER THE INPUT: true; the input reads as it did. -/
def termMaySpec : ChangeSpec := { name := "termMay", fn := fun _ => fun
  | [d1, d2, d3, d4] => { results := [.lit (.bool true)], args := [d1, d2, d3, d4] }
  | _ => none }
def termMayRow : OpenClaim := { program := "ytbmijpjmdpdfkaadoor", sum := "ebfc3464ac4444836927eeb456dd368c582e9fad29e45ad5ee129250edc9eb1c", func := "touchstone/touchstonelaw5.TermMay", spec := "termMay", unfollowed := true, recurses := true, named := ["touchstone/term.boundArgs", "touchstone/term.argCounts", "touchstone/level.argCounts"], loops := true, plainKeys := false, apart := false, laid := [("touchstone/level.argCounts", laid_touchstone_level_argCounts), ("touchstone/term.argCounts", laid_touchstone_term_argCounts), ("touchstone/term.boundArgs", laid_touchstone_term_boundArgs)] }
def TermMaySaid : Prop := termMayRow.holds Tryd.pinned (OpenSpec.ofChange termMaySpec)

/-- ITS FALSE NEIGHBOUR: 'it returns false'. Refute it at one input. -/
def termMayWrong : ChangeSpec := { name := "termMay", fn := fun _ => fun
  | [d1, d2, d3, d4] => { results := [.lit (.bool false)], args := [d1, d2, d3, d4] }
  | _ => none }
def TermMayWrongFalsely : Prop := termMayRow.holds Tryd.pinned (OpenSpec.ofChange termMayWrong)

/-- 'touchstonelaw5.TermTurns': WHATEVER THE INPUT: true; the input reads as it did. -/
def termTurnsSpec : ChangeSpec := { name := "termTurns", fn := fun _ => fun
  | [d1, d2, d3, d4, d5] => { results := [.lit (.bool true)], args := [d1, d2, d3, d4, d5] }
  | _ => none }
def termTurnsRow : OpenClaim := { program := "ytbmijpjmdpdfkaadoor", sum := "ebfc3464ac4444836927eeb456dd368c582e9fad29e45ad5ee129250edc9eb1c", func := "touchstone/touchstonelaw5.TermTurns", spec := "termTurns", unfollowed := true, recurses := true, named := ["touchstone/term.boundArgs", "touchstone/term.argCounts", "touchstone/level.argCounts"], loops := true, plainKeys := false, apart := false, laid := [("touchstone/level.argCounts", laid_touchstone_level_argCounts), ("touchstone/term.argCounts", laid_touchstone_term_argCounts), ("touchstone/term.boundArgs", laid_touchstone_term_boundArgs)] }
def TermTurnsSaid : Prop := termTurnsRow.holds Tryd.pinned (OpenSpec.ofChange termTurnsSpec)

/-- ITS FALSE NEIGHBOUR: 'it returns false'. Refute it at one input. -/
def termTurnsWrong : ChangeSpec := { name := "termTurns", fn := fun _ => fun
  | [d1, d2, d3, d4, d5] => { results := [.lit (.bool false)], args := [d1, d2, d3, d4, d5] }
  | _ => none }
def TermTurnsWrongFalsely : Prop := termTurnsRow.holds Tryd.pinned (OpenSpec.ofChange termTurnsWrong)

/-- 'touchstonelaw5.TermBack': WHATEVER THE INPUT: true; the input reads as it did. -/
def termBackSpec : ChangeSpec := { name := "termBack", fn := fun _ => fun
  | [d1, d2, d3, d4, d5] => { results := [.lit (.bool true)], args := [d1, d2, d3, d4, d5] }
  | _ => none }
def termBackRow : OpenClaim := { program := "ytbmijpjmdpdfkaadoor", sum := "ebfc3464ac4444836927eeb456dd368c582e9fad29e45ad5ee129250edc9eb1c", func := "touchstone/touchstonelaw5.TermBack", spec := "termBack", unfollowed := true, recurses := true, named := ["touchstone/term.boundArgs", "touchstone/term.argCounts", "touchstone/level.argCounts"], loops := true, plainKeys := false, apart := false, laid := [("touchstone/level.argCounts", laid_touchstone_level_argCounts), ("touchstone/term.argCounts", laid_touchstone_term_argCounts), ("touchstone/term.boundArgs", laid_touchstone_term_boundArgs)] }
def TermBackSaid : Prop := termBackRow.holds Tryd.pinned (OpenSpec.ofChange termBackSpec)

/-- ITS FALSE NEIGHBOUR: 'it returns false'. Refute it at one input. -/
def termBackWrong : ChangeSpec := { name := "termBack", fn := fun _ => fun
  | [d1, d2, d3, d4, d5] => { results := [.lit (.bool false)], args := [d1, d2, d3, d4, d5] }
  | _ => none }
def TermBackWrongFalsely : Prop := termBackRow.holds Tryd.pinned (OpenSpec.ofChange termBackWrong)

/-- 'touchstonelaw5.TermThrough': WHATEVER THE INPUT: true; the input reads as it did. -/
def termThroughSpec : ChangeSpec := { name := "termThrough", fn := fun _ => fun
  | [d1, d2, d3] => { results := [.lit (.bool true)], args := [d1, d2, d3] }
  | _ => none }
def termThroughRow : OpenClaim := { program := "ytbmijpjmdpdfkaadoor", sum := "ebfc3464ac4444836927eeb456dd368c582e9fad29e45ad5ee129250edc9eb1c", func := "touchstone/touchstonelaw5.TermThrough", spec := "termThrough", unfollowed := true, recurses := true, named := ["touchstone/term.boundArgs", "touchstone/term.argCounts", "touchstone/level.argCounts"], loops := true, plainKeys := false, apart := false, laid := [("touchstone/level.argCounts", laid_touchstone_level_argCounts), ("touchstone/term.argCounts", laid_touchstone_term_argCounts), ("touchstone/term.boundArgs", laid_touchstone_term_boundArgs)] }
def TermThroughSaid : Prop := termThroughRow.holds Tryd.pinned (OpenSpec.ofChange termThroughSpec)

/-- ITS FALSE NEIGHBOUR: 'it returns false'. Refute it at one input. -/
def termThroughWrong : ChangeSpec := { name := "termThrough", fn := fun _ => fun
  | [d1, d2, d3] => { results := [.lit (.bool false)], args := [d1, d2, d3] }
  | _ => none }
def TermThroughWrongFalsely : Prop := termThroughRow.holds Tryd.pinned (OpenSpec.ofChange termThroughWrong)

/- THE SECOND FORM. 'bulk': how many values and letters a reading holds, each counted each time it is reached (what is shared counts as often as it is met; a slice's spare places count too). A statement '..UptoSaid' is the law's where the arguments, and the package variables that the reading takes, are together of bulk at most 1048576: NARROWER than '..Said'. Prove '..Said' where nothing that the law and all that it calls make is longer than what came in: it says more and counts as full. Else prove '..UptoSaid'. A law counts once. -/
mutual
def uptoBulk {H : Type} : DataW H → Nat
  | .lit (.string bytes) => bytes.length + 1
  | .lit _ => 1
  | .nil => 1
  | .ptr d => uptoBulk d + 1
  | .slice elems spare => uptoBulkAll elems + uptoBulkAll spare + 1
  | .agg parts => uptoBulkAll parts + 1
  | .iface _ d => uptoBulk d + 1
  | .map entries => uptoBulkEntries entries + 1
  | .held _ => 1
def uptoBulkAll {H : Type} : List (DataW H) → Nat
  | [] => 0
  | d :: r => uptoBulk d + uptoBulkAll r
def uptoBulkEntries {H : Type} : List (Lit × DataW H) → Nat
  | [] => 0
  | x :: r => uptoBulkEntry x + uptoBulkEntries r
def uptoBulkEntry {H : Type} : Lit × DataW H → Nat
  | (.string bytes, d) => bytes.length + uptoBulk d + 1
  | (_, d) => uptoBulk d + 1
 end
def uptoSmall : (H : Type) → List (DataW H) → Bool := fun _ ds => decide (uptoBulkAll ds ≤ 1048576)
def OpenSpec.upto (s : _root_.Go.ChangeSpec) : _root_.Go.OpenSpec := { _root_.Go.OpenSpec.ofChange s with cond := some uptoSmall }

/-- 'touchstonelaw5.TermMay', WHERE WHAT IT READS IS OF BULK AT MOST 1048576: true; the input reads as it did. -/
def termMayUptoRow : OpenClaim := { program := "ytbmijpjmdpdfkaadoor", sum := "ebfc3464ac4444836927eeb456dd368c582e9fad29e45ad5ee129250edc9eb1c", func := "touchstone/touchstonelaw5.TermMay", spec := "termMay", unfollowed := true, recurses := true, named := ["touchstone/term.boundArgs", "touchstone/term.argCounts", "touchstone/level.argCounts"], loops := true, plainKeys := false, apart := false, laid := [("touchstone/level.argCounts", laid_touchstone_level_argCounts), ("touchstone/term.argCounts", laid_touchstone_term_argCounts), ("touchstone/term.boundArgs", laid_touchstone_term_boundArgs)], narrowed := true }
def TermMayUptoSaid : Prop := termMayUptoRow.holds Tryd.pinned (OpenSpec.upto termMaySpec)

/-- 'touchstonelaw5.TermTurns', WHERE WHAT IT READS IS OF BULK AT MOST 1048576: true; the input reads as it did. -/
def termTurnsUptoRow : OpenClaim := { program := "ytbmijpjmdpdfkaadoor", sum := "ebfc3464ac4444836927eeb456dd368c582e9fad29e45ad5ee129250edc9eb1c", func := "touchstone/touchstonelaw5.TermTurns", spec := "termTurns", unfollowed := true, recurses := true, named := ["touchstone/term.boundArgs", "touchstone/term.argCounts", "touchstone/level.argCounts"], loops := true, plainKeys := false, apart := false, laid := [("touchstone/level.argCounts", laid_touchstone_level_argCounts), ("touchstone/term.argCounts", laid_touchstone_term_argCounts), ("touchstone/term.boundArgs", laid_touchstone_term_boundArgs)], narrowed := true }
def TermTurnsUptoSaid : Prop := termTurnsUptoRow.holds Tryd.pinned (OpenSpec.upto termTurnsSpec)

/-- 'touchstonelaw5.TermBack', WHERE WHAT IT READS IS OF BULK AT MOST 1048576: true; the input reads as it did. -/
def termBackUptoRow : OpenClaim := { program := "ytbmijpjmdpdfkaadoor", sum := "ebfc3464ac4444836927eeb456dd368c582e9fad29e45ad5ee129250edc9eb1c", func := "touchstone/touchstonelaw5.TermBack", spec := "termBack", unfollowed := true, recurses := true, named := ["touchstone/term.boundArgs", "touchstone/term.argCounts", "touchstone/level.argCounts"], loops := true, plainKeys := false, apart := false, laid := [("touchstone/level.argCounts", laid_touchstone_level_argCounts), ("touchstone/term.argCounts", laid_touchstone_term_argCounts), ("touchstone/term.boundArgs", laid_touchstone_term_boundArgs)], narrowed := true }
def TermBackUptoSaid : Prop := termBackUptoRow.holds Tryd.pinned (OpenSpec.upto termBackSpec)

/-- 'touchstonelaw5.TermThrough', WHERE WHAT IT READS IS OF BULK AT MOST 1048576: true; the input reads as it did. -/
def termThroughUptoRow : OpenClaim := { program := "ytbmijpjmdpdfkaadoor", sum := "ebfc3464ac4444836927eeb456dd368c582e9fad29e45ad5ee129250edc9eb1c", func := "touchstone/touchstonelaw5.TermThrough", spec := "termThrough", unfollowed := true, recurses := true, named := ["touchstone/term.boundArgs", "touchstone/term.argCounts", "touchstone/level.argCounts"], loops := true, plainKeys := false, apart := false, laid := [("touchstone/level.argCounts", laid_touchstone_level_argCounts), ("touchstone/term.argCounts", laid_touchstone_term_argCounts), ("touchstone/term.boundArgs", laid_touchstone_term_boundArgs)], narrowed := true }
def TermThroughUptoSaid : Prop := termThroughUptoRow.holds Tryd.pinned (OpenSpec.upto termThroughSpec)

end Rows
end Go.Proofs.YtbmijpjmdpdfkaaDoor
