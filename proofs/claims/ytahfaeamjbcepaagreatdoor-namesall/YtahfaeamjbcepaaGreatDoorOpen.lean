/- What lists of texts that came in read as; what the listed tables give; a world that has them. No condition. -/
import Derived.Test.YtahfaeamjbcepaaGreatDoorBgn
import Derived.Test.YtahfaeamjbcepaaGreatDoorRows
import Derived.OpenShut
import Derived.ProofKit
import Derived.LaidMore
import Derived.Lib.LaidTab
import Derived.Stop.Joined
import Derived.Deep.Slices
import Derived.SliceStrings
namespace Go.Proofs.YtahfaeamjbcepaaGreatDoor
open Go.RowKit Go.Deep Go.WideShapes

theorem cells9 : Tryz.prog.cellsOf 9 = 1 := by kernel_rfl
theorem cells3 : Tryz.prog.cellsOf 3 = 1 := by kernel_rfl

theorem tx_data (s : ByteArray) : Value.string s = tx s.data.toList := by
  cases s
  simp [tx]

theorem strs_of_row {H : Type} {enc : TypeId × Value → H} {W : World} {a : Option Addr} {len cap : Nat} {d : DataW H} {p : List MemPlace} (h : DataW.Trod enc Tryz.prog W 0 (fun _ => true) true 22 (.slice a len cap) d p) : ∃ ss, SR W a len cap ss := by
  obtain ⟨fuel, hf⟩ := h
  rcases Go.ChangeShapes.open_strings Tryz.underlying22 Tryz.underlying9 cells9 hf with ⟨hcs, _⟩ | ⟨x, l, c, bs, hcs, _, hl, hm, hlen, _, hcell, _⟩
  · simp [Value.cells] at hcs
    obtain ⟨rfl, rfl, rfl⟩ := hcs
    exact ⟨[], SR.nil W⟩
  · simp [Value.cells] at hcs
    obtain ⟨rfl, rfl, rfl⟩ := hcs
    simp only [if_true] at hlen
    refine ⟨(bs.take len).map fun s => s.data.toList, by simp; omega, hl, hm, fun j s hj => ?_⟩
    rw [List.getElem?_map, Option.map_eq_some_iff] at hj
    obtain ⟨q, hq, rfl⟩ := hj
    have hjl : j < len := by
      have := (List.getElem?_eq_some_iff.1 hq).1
      simp at this
      omega
    rw [List.getElem?_take_of_lt hjl] at hq
    have hc := hcell j (by omega)
    rw [List.getD_eq_getElem?_getD, hq] at hc
    simp only [Option.getD_some] at hc
    have hsp := World.cell?_spot (hcell 0 (by omega))
    obtain ⟨b, off, spot⟩ := x
    have h3 : spot = none := by simpa [Addr.add] using hsp
    subst h3
    rw [Addr.add_lit] at hc
    exact ⟨b, off, rfl, World.block_lt_of_cell? W _ hc, by rw [hc, tx_data]⟩

/-! ### The tables -/
def laid : List (String × DataW Unit) := [("math/bits.deBruijn32tab", Rows.laid_math_bits_deBruijn32tab), ("math/bits.deBruijn64tab", Rows.laid_math_bits_deBruijn64tab), ("internal/strconv.uint64pow10", Rows.laid_internal_strconv_uint64pow10), ("touchstone/level.argCounts", Rows.laid_touchstone_level_argCounts), ("touchstone/term.argCounts", Rows.laid_touchstone_term_argCounts), ("touchstone/term.boundArgs", Rows.laid_touchstone_term_boundArgs), ("touchstone/text.levelSigns", Rows.laid_touchstone_text_levelSigns)]
theorem gA : Tryz.prog.globalNamed "touchstone/level.argCounts" = some 4 := by kernel_rfl
theorem gB : Tryz.prog.globalNamed "touchstone/term.argCounts" = some 1 := by kernel_rfl
theorem gC : Tryz.prog.globalNamed "touchstone/term.boundArgs" = some 2 := by kernel_rfl
theorem tA : (Tryz.prog.globals[4]?).map (·.type) = some 137 := by kernel_rfl
theorem tB' : (Tryz.prog.globals[1]?).map (·.type) = some 121 := by kernel_rfl
theorem tC' : (Tryz.prog.globals[2]?).map (·.type) = some 121 := by kernel_rfl
theorem cells137 : Tryz.prog.cellsOf 137 = 5 := by kernel_rfl
theorem cells121 : Tryz.prog.cellsOf 121 = 7 := by kernel_rfl
theorem laid_is : (laid : List (String × DataW Unit)) = [("math/bits.deBruijn32tab", Rows.laid_math_bits_deBruijn32tab), ("math/bits.deBruijn64tab", Rows.laid_math_bits_deBruijn64tab), ("internal/strconv.uint64pow10", Rows.laid_internal_strconv_uint64pow10), ("touchstone/level.argCounts", Lib.tabData .i64 [0, 1, 2, 2, 0]), ("touchstone/term.argCounts", Lib.tabData .i64 [0, 0, 0, 2, 2, 2, 3]), ("touchstone/term.boundArgs", Lib.tabData .i64 [0, 0, 0, 0, 1, 1, 2]), ("touchstone/text.levelSigns", Rows.laid_touchstone_text_levelSigns)] := rfl

theorem tabs_of_laid {W : World} (h : laidMetH Tryz.prog laid W) : Tabs W := by
  rw [MakeChecks.laidMetH_plain _ _ _ (by kernel_rfl), laid_is] at h
  obtain ⟨_, ⟨_, _, _, _, _, _, _, _, _, _, ⟨_, _, _, _, _, _, _, _, _, _, ⟨_, _, _, _, _, _, _, _, _, _, ⟨g1, t1, cs1, fuel1, p1, q1, hg1, ht1, hvar1, hd1, ⟨g2, t2, cs2, fuel2, p2, q2, hg2, ht2, hvar2, hd2, ⟨g3, t3, cs3, fuel3, p3, q3, hg3, ht3, hvar3, hd3, _, _⟩, _⟩, _⟩, _⟩, _⟩, _⟩, _⟩ := h
  have hA : Lib.TabIs Tryz.prog W "touchstone/level.argCounts" .i64 [0, 1, 2, 2, 0] := by
    obtain rfl := Option.some.inj (gA.symm.trans hg1)
    obtain rfl := Option.some.inj (tA.symm.trans ht1)
    unfold Lib.TabIs
    rw [hvar1, ← Lib.cells_of_tab Tryz.underlying137 Tryz.underlying3 cells3 cells137 hd1]
  have hB : Lib.TabIs Tryz.prog W "touchstone/term.argCounts" .i64 [0, 0, 0, 2, 2, 2, 3] := by
    obtain rfl := Option.some.inj (gB.symm.trans hg2)
    obtain rfl := Option.some.inj (tB'.symm.trans ht2)
    unfold Lib.TabIs
    rw [hvar2, ← Lib.cells_of_tab Tryz.underlying121 Tryz.underlying3 cells3 cells121 hd2]
  have hC : Lib.TabIs Tryz.prog W "touchstone/term.boundArgs" .i64 [0, 0, 0, 0, 1, 1, 2] := by
    obtain rfl := Option.some.inj (gC.symm.trans hg3)
    obtain rfl := Option.some.inj (tC'.symm.trans ht3)
    unfold Lib.TabIs
    rw [hvar3, ← Lib.cells_of_tab Tryz.underlying121 Tryz.underlying3 cells3 cells121 hd3]
  refine ⟨fun i hi => ?_, fun i hi => ?_, fun i hi => ?_⟩
  · rw [hB.cell gB i (by simpa using hi)]
    match i, hi with
    | 0, _ => rfl
    | 1, _ => rfl
    | 2, _ => rfl
    | 3, _ => rfl
    | 4, _ => rfl
    | 5, _ => rfl
    | 6, _ => rfl
  · rw [hC.cell gC i (by simpa using hi)]
    match i, hi with
    | 0, _ => rfl
    | 1, _ => rfl
    | 2, _ => rfl
    | 3, _ => rfl
    | 4, _ => rfl
    | 5, _ => rfl
    | 6, _ => rfl
  · rw [hA.cell gA i (by simpa using hi)]
    match i, hi with
    | 0, _ => rfl
    | 1, _ => rfl
    | 2, _ => rfl
    | 3, _ => rfl
    | 4, _ => rfl

theorem door_met (os : Os) (args : Array Value) : laidMetH Tryz.prog laid ((World.doorLaid Tryz.prog 44 os).forCall (fun _ _ => 0) ⟨#[], args, []⟩).memory :=
  laidMetH_of_parts3 (fuel := 8) (laidMet_of_run' 8 (by kernel_rfl) (by kernel_rfl)) (by kernel_rfl) (by kernel_rfl)
end Go.Proofs.YtahfaeamjbcepaaGreatDoor
