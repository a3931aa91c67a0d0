/- What bytes that came in read as; what the listed tables give; a world that has them. No condition. -/
import Derived.Test.YtkbpmpcbajnmlaaDoorLev4
import Derived.Test.YtkbpmpcbajnmlaaDoorRows
import Derived.OpenShut
import Derived.ProofKit
import Derived.LaidMore
import Derived.Lib.LaidTab
import Derived.Stop.Joined
import Derived.Deep.Slices
import Derived.Deep.Strs
namespace Go.Proofs.YtkbpmpcbajnmlaaDoor
open Go.RowKit Go.Deep Go.WideShapes Go.ChangeShapes

theorem cells3 : Tryd.prog.cellsOf 3 = 1 := by kernel_rfl

/-- A []byte that came in. -/
theorem bts_of_row {H : Type} {enc : TypeId × Value → H} {W : World} {a : Option Addr} {len cap : Nat} {d : DataW H} {p : List MemPlace} (h : DataW.Trod enc Tryd.prog W 0 (fun _ => true) true 22 (.slice a len cap) d p) : ∃ bs, Rd W a len cap bs := by
  obtain ⟨fuel, hf⟩ := h
  rcases open_ints Tryd.underlying22 Tryd.underlying5 (by kernel_rfl) hf with ⟨hcs, _⟩ | ⟨x, l, c, zs, hcs, _, hl, hm, hz, _, hcell, hwf⟩
  · simp [Value.cells] at hcs
    obtain ⟨rfl, rfl, rfl⟩ := hcs
    exact ⟨[], Rd.none' W none⟩
  · simp [Value.cells] at hcs
    obtain ⟨rfl, rfl, rfl⟩ := hcs
    have hz' : zs.length = cap := by simpa using hz
    refine ⟨(zs.take len).map fun z => z.toNat.toUInt8, ⟨by simp; omega, hl, hm, (fun h0 => by cases h0), fun b hb j u hu => ?_⟩⟩
    · obtain rfl : x = b := by simpa using hb
      rw [List.getElem?_map] at hu
      cases hj : (zs.take len)[j]? with
      | none => rw [hj] at hu; cases hu
      | some z =>
        rw [hj] at hu
        simp only [Option.map_some, Option.some.injEq] at hu
        have hjl := (List.getElem?_eq_some_iff.1 hj).1
        simp at hjl
        rw [List.getElem?_take_of_lt (by omega)] at hj
        have hmem : z ∈ zs := List.mem_of_getElem? hj
        obtain ⟨z0, z1⟩ := bounds_u8 (hwf z hmem)
        rw [hcell j (by omega), List.getD_eq_getElem?_getD, hj]
        subst hu
        have : z.toNat.toUInt8.toNat = z.toNat := by simp; omega
        rw [this]
        simp
        omega

set_option maxRecDepth 100000 in
/-- Where it lies there is a block. -/
theorem low_of_row {W : World} {base : Nat} {x : Addr} {len cap : Nat} (h : Value.okWide Tryd.prog W .any base 22 (.slice (some x) len cap)) : x.block < W.heap.size := by
  simp only [Value.okWide, Tryd.underlying22, Cell.okWide, Cell.ok] at h
  obtain ⟨-, -, -, -, row, cells, hs, -⟩ := h
  by_cases hlt : x.block < W.heap.size
  · exact hlt
  · have hn : W.heap[x.block]? = none := by simp; omega
    simp [World.shape?, hn] at hs

/-! ### The tables -/
def laid : List (String × DataW Unit) := [("touchstone/codec.levelArgs", Rows.laid_touchstone_codec_levelArgs), ("touchstone/codec.termArgs", Rows.laid_touchstone_codec_termArgs)]
theorem gA : Tryd.prog.globalNamed "touchstone/codec.levelArgs" = some 0 := by kernel_rfl
theorem gB : Tryd.prog.globalNamed "touchstone/codec.termArgs" = some 1 := by kernel_rfl
theorem tA : (Tryd.prog.globals[0]?).map (·.type) = some 89 := by kernel_rfl
theorem tB : (Tryd.prog.globals[1]?).map (·.type) = some 95 := by kernel_rfl
theorem cells89 : Tryd.prog.cellsOf 89 = 5 := by kernel_rfl
theorem cells95 : Tryd.prog.cellsOf 95 = 7 := by kernel_rfl
theorem laid_is : (laid : List (String × DataW Unit)) = [("touchstone/codec.levelArgs", Lib.tabData .i64 [0, 1, 2, 2, 0]), ("touchstone/codec.termArgs", Lib.tabData .i64 [0, 0, 0, 2, 2, 2, 3])] := rfl

theorem tabs_of_laid {W : World} (h : laidMetH Tryd.prog laid W) : Tabs W := by
  rw [MakeChecks.laidMetH_plain _ _ _ (by kernel_rfl), laid_is] at h
  have hA := Lib.tabIs_of_head gA tA Tryd.underlying89 Tryd.underlying3 cells3 cells89 h
  have hB : Lib.TabIs Tryd.prog W "touchstone/codec.termArgs" .i64 [0, 0, 0, 2, 2, 2, 3] := by
    obtain ⟨ps, ⟨g', t', cs, fuel, p, q, hg', ht', hvar, hd, ⟨g2, t2, cs2, fuel2, p2, q2, hg2, ht2, hvar2, hd2, _, _⟩, _⟩, _⟩ := h
    obtain rfl := Option.some.inj (gB.symm.trans hg2)
    obtain rfl := Option.some.inj (tB.symm.trans ht2)
    unfold Lib.TabIs
    rw [hvar2, ← Lib.cells_of_tab Tryd.underlying95 Tryd.underlying3 cells3 cells95 hd2]
  refine ⟨fun i hi => ?_, fun i hi => ?_⟩
  · rw [hA.cell gA i (by simpa using hi)]
    match i, hi with
    | 0, _ => rfl
    | 1, _ => rfl
    | 2, _ => rfl
    | 3, _ => rfl
    | 4, _ => rfl
  · rw [hB.cell gB i (by simpa using hi)]
    match i, hi with
    | 0, _ => rfl
    | 1, _ => rfl
    | 2, _ => rfl
    | 3, _ => rfl
    | 4, _ => rfl
    | 5, _ => rfl
    | 6, _ => rfl

theorem door_met (os : Os) (args : Array Value) : laidMetH Tryd.prog laid ((World.doorLaid Tryd.prog 19 os).forCall (fun _ _ => 0) ⟨#[], args, []⟩).memory :=
  laidMetH_of_parts3 (fuel := 8) (laidMet_of_run' 8 (by kernel_rfl) (by kernel_rfl)) (by kernel_rfl) (by kernel_rfl)
end Go.Proofs.YtkbpmpcbajnmlaaDoor
