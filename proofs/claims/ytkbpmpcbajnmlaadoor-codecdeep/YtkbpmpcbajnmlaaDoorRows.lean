/-
  NARROWER THAN 'FOR EVERY INPUT', by the rows' own cells (each row's printed sentence says how): CodecReads: laid · CodecOnly: laid · CodecDeep: laid.
  DERIVED. THE GIVEN ROWS OF THIS SEAT. 3 by the template 'for every input the law returns true; each argument reads behind the call as it read before'; 0 by the template 'total and deterministic' (their statements: YtkbpmpcbajnmlaaDoorTotals.lean).
  GIVEN WITH THE SEED: the statements are not yours to turn. If you find one false, say at which input.
  Laid BY PROGRAM, IN A SANDBOX (cutbox-rows.mjs): the forced cells as the released guide's own fill.sh prints them over the translation f27d9ef46e9cb3d3… (all of the seat's roots in one cut). By AI agents, Wed Nov 11 2026. No macro, syntax, notation, axiom, sorry.
-/
import Derived.Test.YtkbpmpcbajnmlaaDoorChecked
import GoSem.Claim
import GoSem.ClaimJoined
import GoSem.ClaimMapViews
import Derived.JoinedTies
import Derived.KernelRfl
namespace Go.Proofs.YtkbpmpcbajnmlaaDoor
/- THE CELL 'sum', in the pinned program and in every row, IS THE sha256 OF THE DUMP (.gsa) THAT YtkbpmpcbajnmlaaDoorProg.lean LOADS. Nothing in Lean hashes anything: it is a label: what it is worth is what the hold of that sum in a sandbox is worth. -/
noncomputable def Tryd.pinned : Pinned := { name := "ytkbpmpcbajnmlaadoor", sum := "f27d9ef46e9cb3d3a58df693544db6acec545caf8745652bc94e524ad163d252", checked := Tryd.checked }
namespace Rows
def none {H : Type} : Left H := { results := [], args := [] }

/- WHAT THE LISTED PACKAGE-LEVEL VARIABLES READ AS WHEN THE CALL BEGINS. Each datum BY PROGRAM (the guide's laid-datum.mjs) off the statement by which the dump's own 'gosem.cut.vars' lays the variable. In a bare row this is a premise. The card (YtkbpmpcbajnmlaaDoorCards.lean) ties it to the program's text. -/
def laid_touchstone_codec_levelArgs {H : Type} : DataW H := .agg [.lit (.int .i64 0), .lit (.int .i64 1), .lit (.int .i64 2), .lit (.int .i64 2), .lit (.int .i64 0)]
def laid_touchstone_codec_termArgs {H : Type} : DataW H := .agg [.lit (.int .i64 0), .lit (.int .i64 0), .lit (.int .i64 0), .lit (.int .i64 2), .lit (.int .i64 2), .lit (.int .i64 2), .lit (.int .i64 3)]

/-- 'touchstonelaw6.CodecReads': WHATEVER THE INPUT: true; the input reads as it did. -/
def codecReadsSpec : ChangeSpec := { name := "codecReads", fn := fun _ => fun
  | [d] => { results := [.lit (.bool true)], args := [d] }
  | _ => none }
def codecReadsRow : OpenClaim := { program := "ytkbpmpcbajnmlaadoor", sum := "f27d9ef46e9cb3d3a58df693544db6acec545caf8745652bc94e524ad163d252", func := "touchstone/touchstonelaw6.CodecReads", spec := "codecReads", unfollowed := true, recurses := true, named := ["touchstone/codec.termArgs", "touchstone/codec.levelArgs"], plainKeys := false, apart := false, laid := [("touchstone/codec.levelArgs", laid_touchstone_codec_levelArgs), ("touchstone/codec.termArgs", laid_touchstone_codec_termArgs)] }
def CodecReadsSaid : Prop := codecReadsRow.holds Tryd.pinned (OpenSpec.ofChange codecReadsSpec)

/-- ITS FALSE NEIGHBOUR: 'it returns false'. Refute it at one input. -/
def codecReadsWrong : ChangeSpec := { name := "codecReads", fn := fun _ => fun
  | [d] => { results := [.lit (.bool false)], args := [d] }
  | _ => none }
def CodecReadsWrongFalsely : Prop := codecReadsRow.holds Tryd.pinned (OpenSpec.ofChange codecReadsWrong)

/-- 'touchstonelaw6.CodecOnly': WHATEVER THE INPUT: true; the input reads as it did. -/
def codecOnlySpec : ChangeSpec := { name := "codecOnly", fn := fun _ => fun
  | [d] => { results := [.lit (.bool true)], args := [d] }
  | _ => none }
def codecOnlyRow : OpenClaim := { program := "ytkbpmpcbajnmlaadoor", sum := "f27d9ef46e9cb3d3a58df693544db6acec545caf8745652bc94e524ad163d252", func := "touchstone/touchstonelaw6.CodecOnly", spec := "codecOnly", unfollowed := true, recurses := true, named := ["touchstone/codec.termArgs", "touchstone/codec.levelArgs"], plainKeys := false, apart := false, laid := [("touchstone/codec.levelArgs", laid_touchstone_codec_levelArgs), ("touchstone/codec.termArgs", laid_touchstone_codec_termArgs)] }
def CodecOnlySaid : Prop := codecOnlyRow.holds Tryd.pinned (OpenSpec.ofChange codecOnlySpec)

/-- ITS FALSE NEIGHBOUR: 'it returns false'. Refute it at one input. -/
def codecOnlyWrong : ChangeSpec := { name := "codecOnly", fn := fun _ => fun
  | [d] => { results := [.lit (.bool false)], args := [d] }
  | _ => none }
def CodecOnlyWrongFalsely : Prop := codecOnlyRow.holds Tryd.pinned (OpenSpec.ofChange codecOnlyWrong)

/-- 'touchstonelaw6.CodecDeep': WHATEVER THE INPUT: true; the input reads as it did. -/
def codecDeepSpec : ChangeSpec := { name := "codecDeep", fn := fun _ => fun
  | [d1, d2] => { results := [.lit (.bool true)], args := [d1, d2] }
  | _ => none }
def codecDeepRow : OpenClaim := { program := "ytkbpmpcbajnmlaadoor", sum := "f27d9ef46e9cb3d3a58df693544db6acec545caf8745652bc94e524ad163d252", func := "touchstone/touchstonelaw6.CodecDeep", spec := "codecDeep", unfollowed := true, recurses := true, named := ["touchstone/codec.termArgs", "touchstone/codec.levelArgs"], plainKeys := false, apart := false, laid := [("touchstone/codec.levelArgs", laid_touchstone_codec_levelArgs), ("touchstone/codec.termArgs", laid_touchstone_codec_termArgs)] }
def CodecDeepSaid : Prop := codecDeepRow.holds Tryd.pinned (OpenSpec.ofChange codecDeepSpec)

/-- ITS FALSE NEIGHBOUR: 'it returns false'. Refute it at one input. -/
def codecDeepWrong : ChangeSpec := { name := "codecDeep", fn := fun _ => fun
  | [d1, d2] => { results := [.lit (.bool false)], args := [d1, d2] }
  | _ => none }
def CodecDeepWrongFalsely : Prop := codecDeepRow.holds Tryd.pinned (OpenSpec.ofChange codecDeepWrong)

/- THE SECOND FORM. 'bulk': how many values and letters a reading holds, each counted each time it is reached (what is shared counts as often as it is met; a slice's spare places count too). A statement '..UptoSaid' is the law's where the arguments, and the package variables that the reading takes, are together of bulk at most 1048576: NARROWER than '..Said'. Prove '..Said' where nothing that the law and all that it calls make is longer than what came in: it says more and counts as full. Else prove '..UptoSaid'. A law counts once. -/
mutual
def uptoBulk {H : Type} : DataW H → Nat
  | .lit (.string bytes) => bytes.length + 1
  | .lit _ => 1
  | .nil => 1
  | .ptr d => uptoBulk d + 1
  | .slice elems spare => uptoBulkAll elems + uptoBulkAll spare + 1
  | .agg parts => uptoBulkAll parts + 1
  | .iface _ d => uptoBulk d + 1
  | .map entries => uptoBulkEntries entries + 1
  | .held _ => 1
def uptoBulkAll {H : Type} : List (DataW H) → Nat
  | [] => 0
  | d :: r => uptoBulk d + uptoBulkAll r
def uptoBulkEntries {H : Type} : List (Lit × DataW H) → Nat
  | [] => 0
  | x :: r => uptoBulkEntry x + uptoBulkEntries r
def uptoBulkEntry {H : Type} : Lit × DataW H → Nat
  | (.string bytes, d) => bytes.length + uptoBulk d + 1
  | (_, d) => uptoBulk d + 1
 end
def uptoSmall : (H : Type) → List (DataW H) → Bool := fun _ ds => decide (uptoBulkAll ds ≤ 1048576)
def OpenSpec.upto (s : _root_.Go.ChangeSpec) : _root_.Go.OpenSpec := { _root_.Go.OpenSpec.ofChange s with cond := some uptoSmall }

/-- 'touchstonelaw6.CodecReads', WHERE WHAT IT READS IS OF BULK AT MOST 1048576: true; the input reads as it did. -/
def codecReadsUptoRow : OpenClaim := { program := "ytkbpmpcbajnmlaadoor", sum := "f27d9ef46e9cb3d3a58df693544db6acec545caf8745652bc94e524ad163d252", func := "touchstone/touchstonelaw6.CodecReads", spec := "codecReads", unfollowed := true, recurses := true, named := ["touchstone/codec.termArgs", "touchstone/codec.levelArgs"], plainKeys := false, apart := false, laid := [("touchstone/codec.levelArgs", laid_touchstone_codec_levelArgs), ("touchstone/codec.termArgs", laid_touchstone_codec_termArgs)], narrowed := true }
def CodecReadsUptoSaid : Prop := codecReadsUptoRow.holds Tryd.pinned (OpenSpec.upto codecReadsSpec)

/-- 'touchstonelaw6.CodecOnly', WHERE WHAT IT READS IS OF BULK AT MOST 1048576: true; the input reads as it did. -/
def codecOnlyUptoRow : OpenClaim := { program := "ytkbpmpcbajnmlaadoor", sum := "f27d9ef46e9cb3d3a58df693544db6acec545caf8745652bc94e524ad163d252", func := "touchstone/touchstonelaw6.CodecOnly", spec := "codecOnly", unfollowed := true, recurses := true, named := ["touchstone/codec.termArgs", "touchstone/codec.levelArgs"], plainKeys := false, apart := false, laid := [("touchstone/codec.levelArgs", laid_touchstone_codec_levelArgs), ("touchstone/codec.termArgs", laid_touchstone_codec_termArgs)], narrowed := true }
def CodecOnlyUptoSaid : Prop := codecOnlyUptoRow.holds Tryd.pinned (OpenSpec.upto codecOnlySpec)

/-- 'touchstonelaw6.CodecDeep', WHERE WHAT IT READS IS OF BULK AT MOST 1048576: true; the input reads as it did. -/
def codecDeepUptoRow : OpenClaim := { program := "ytkbpmpcbajnmlaadoor", sum := "f27d9ef46e9cb3d3a58df693544db6acec545caf8745652bc94e524ad163d252", func := "touchstone/touchstonelaw6.CodecDeep", spec := "codecDeep", unfollowed := true, recurses := true, named := ["touchstone/codec.termArgs", "touchstone/codec.levelArgs"], plainKeys := false, apart := false, laid := [("touchstone/codec.levelArgs", laid_touchstone_codec_levelArgs), ("touchstone/codec.termArgs", laid_touchstone_codec_termArgs)], narrowed := true }
def CodecDeepUptoSaid : Prop := codecDeepUptoRow.holds Tryd.pinned (OpenSpec.upto codecDeepSpec)

end Rows
end Go.Proofs.YtkbpmpcbajnmlaaDoor
