/- What the listed tables give; a world that has them. No condition. -/
import Derived.Test.YtekdalbhgdkckaaGreatDoorRows
import Derived.Test.YtekdalbhgdkckaaGreatDoorE20
import Derived.LaidMore
import Derived.Lib.LaidTab
import Derived.Stop.Joined
namespace Go.Proofs.YtekdalbhgdkckaaGreatDoor
open Go.RowKit

/-! ### The tables -/
def laid : List (String × DataW Unit) := [("math/bits.deBruijn32tab", Rows.laid_math_bits_deBruijn32tab), ("math/bits.deBruijn64tab", Rows.laid_math_bits_deBruijn64tab), ("internal/strconv.uint64pow10", Rows.laid_internal_strconv_uint64pow10), ("touchstone/level.argCounts", Rows.laid_touchstone_level_argCounts), ("touchstone/term.argCounts", Rows.laid_touchstone_term_argCounts), ("touchstone/term.boundArgs", Rows.laid_touchstone_term_boundArgs), ("touchstone/text.levelSigns", Rows.laid_touchstone_text_levelSigns)]
theorem gA : Tryz.prog.globalNamed "touchstone/level.argCounts" = some 3 := by kernel_rfl
theorem gB : Tryz.prog.globalNamed "touchstone/term.argCounts" = some 0 := by kernel_rfl
theorem gC : Tryz.prog.globalNamed "touchstone/term.boundArgs" = some 1 := by kernel_rfl
theorem tA : (Tryz.prog.globals[3]?).map (·.type) = some 224 := by kernel_rfl
theorem tB' : (Tryz.prog.globals[0]?).map (·.type) = some 205 := by kernel_rfl
theorem tC' : (Tryz.prog.globals[1]?).map (·.type) = some 205 := by kernel_rfl
theorem cells3 : Tryz.prog.cellsOf 3 = 1 := by kernel_rfl
theorem cells78 : Tryz.prog.cellsOf 227 = 1 := by kernel_rfl
theorem gD : Tryz.prog.globalNamed "internal/strconv.uint64pow10" = some 4 := by kernel_rfl
theorem tD : (Tryz.prog.globals[4]?).map (·.type) = some 233 := by kernel_rfl
theorem cells233 : Tryz.prog.cellsOf 233 = 20 := by kernel_rfl
theorem cells224 : Tryz.prog.cellsOf 224 = 5 := by kernel_rfl
theorem cells205 : Tryz.prog.cellsOf 205 = 7 := by kernel_rfl
theorem laid_is : (laid : List (String × DataW Unit)) = [("math/bits.deBruijn32tab", Rows.laid_math_bits_deBruijn32tab), ("math/bits.deBruijn64tab", Rows.laid_math_bits_deBruijn64tab), ("internal/strconv.uint64pow10", Lib.tabData .u64 [1, 10, 100, 1000, 10000, 100000, 1000000, 10000000, 100000000, 1000000000, 10000000000, 100000000000, 1000000000000, 10000000000000, 100000000000000, 1000000000000000, 10000000000000000, 100000000000000000, 1000000000000000000, 10000000000000000000]), ("touchstone/level.argCounts", Lib.tabData .i64 [0, 1, 2, 2, 0]), ("touchstone/term.argCounts", Lib.tabData .i64 [0, 0, 0, 2, 2, 2, 3]), ("touchstone/term.boundArgs", Lib.tabData .i64 [0, 0, 0, 0, 1, 1, 2]), ("touchstone/text.levelSigns", Rows.laid_touchstone_text_levelSigns)] := rfl

theorem tabs_of_laid {W : World} (h : laidMetH Tryz.prog laid W) : Tabs W := by
  rw [MakeChecks.laidMetH_plain _ _ _ (by kernel_rfl), laid_is] at h
  obtain ⟨_, ⟨_, _, _, _, _, _, _, _, _, _, ⟨_, _, _, _, _, _, _, _, _, _, ⟨g0, t0, cs0, fuel0, p0, q0, hg0, ht0, hvar0, hd0, ⟨g1, t1, cs1, fuel1, p1, q1, hg1, ht1, hvar1, hd1, ⟨g2, t2, cs2, fuel2, p2, q2, hg2, ht2, hvar2, hd2, ⟨g3, t3, cs3, fuel3, p3, q3, hg3, ht3, hvar3, hd3, _, _⟩, _⟩, _⟩, _⟩, _⟩, _⟩, _⟩ := h
  have hD : Lib.TabIs Tryz.prog W "internal/strconv.uint64pow10" .u64 [1, 10, 100, 1000, 10000, 100000, 1000000, 10000000, 100000000, 1000000000, 10000000000, 100000000000, 1000000000000, 10000000000000, 100000000000000, 1000000000000000, 10000000000000000, 100000000000000000, 1000000000000000000, 10000000000000000000] := by
    obtain rfl := Option.some.inj (gD.symm.trans hg0)
    obtain rfl := Option.some.inj (tD.symm.trans ht0)
    unfold Lib.TabIs
    rw [hvar0, ← Lib.cells_of_tab Tryz.underlying233 Tryz.underlying227 cells78 cells233 hd0]
  have hA : Lib.TabIs Tryz.prog W "touchstone/level.argCounts" .i64 [0, 1, 2, 2, 0] := by
    obtain rfl := Option.some.inj (gA.symm.trans hg1)
    obtain rfl := Option.some.inj (tA.symm.trans ht1)
    unfold Lib.TabIs
    rw [hvar1, ← Lib.cells_of_tab Tryz.underlying224 Tryz.underlying3 cells3 cells224 hd1]
  have hB : Lib.TabIs Tryz.prog W "touchstone/term.argCounts" .i64 [0, 0, 0, 2, 2, 2, 3] := by
    obtain rfl := Option.some.inj (gB.symm.trans hg2)
    obtain rfl := Option.some.inj (tB'.symm.trans ht2)
    unfold Lib.TabIs
    rw [hvar2, ← Lib.cells_of_tab Tryz.underlying205 Tryz.underlying3 cells3 cells205 hd2]
  have hC : Lib.TabIs Tryz.prog W "touchstone/term.boundArgs" .i64 [0, 0, 0, 0, 1, 1, 2] := by
    obtain rfl := Option.some.inj (gC.symm.trans hg3)
    obtain rfl := Option.some.inj (tC'.symm.trans ht3)
    unfold Lib.TabIs
    rw [hvar3, ← Lib.cells_of_tab Tryz.underlying205 Tryz.underlying3 cells3 cells205 hd3]
  refine ⟨fun i hi => ?_, fun i hi => ?_, fun i hi => ?_, World.block_lt_of_cell? W _ (hD.cell gD 0 (by decide))⟩
  · rw [hB.cell gB i (by simpa using hi)]
    match i, hi with
    | 0, _ => rfl
    | 1, _ => rfl
    | 2, _ => rfl
    | 3, _ => rfl
    | 4, _ => rfl
    | 5, _ => rfl
    | 6, _ => rfl
  · rw [hC.cell gC i (by simpa using hi)]
    match i, hi with
    | 0, _ => rfl
    | 1, _ => rfl
    | 2, _ => rfl
    | 3, _ => rfl
    | 4, _ => rfl
    | 5, _ => rfl
    | 6, _ => rfl
  · rw [hA.cell gA i (by simpa using hi)]
    match i, hi with
    | 0, _ => rfl
    | 1, _ => rfl
    | 2, _ => rfl
    | 3, _ => rfl
    | 4, _ => rfl

theorem door_met (os : Os) (args : Array Value) : laidMetH Tryz.prog laid ((World.doorLaid Tryz.prog 44 os).forCall (fun _ _ => 0) ⟨#[], args, []⟩).memory :=
  laidMetH_of_parts3 (fuel := 8) (laidMet_of_run' 8 (by kernel_rfl) (by kernel_rfl)) (by kernel_rfl) (by kernel_rfl)
end Go.Proofs.YtekdalbhgdkckaaGreatDoor
