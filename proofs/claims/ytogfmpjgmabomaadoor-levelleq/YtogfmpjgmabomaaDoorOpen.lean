/- What a level, a list of levels, numbers, that came in read as; what the listed tables give; a world that has them. No condition. -/
import Derived.Test.YtogfmpjgmabomaaDoorMayLaw
import Derived.Test.YtogfmpjgmabomaaDoorRows
import Derived.OpenShut
import Derived.ProofKit
import Derived.LaidMore
import Derived.Lib.LaidTab
import Derived.Stop.Joined
import Derived.Deep.Slices
import Derived.Deep.Strs
namespace Go.Proofs.YtogfmpjgmabomaaDoor
open Go.RowKit Go.Deep Go.WideShapes

theorem cells24 : Tryd.prog.cellsOf 24 = 3 := by kernel_rfl
theorem cells22 : Tryd.prog.cellsOf 22 = 1 := by kernel_rfl
theorem cells3 : Tryd.prog.cellsOf 3 = 1 := by kernel_rfl

theorem addr_none {w : World} {b off : Nat} {spot : Option Nat} {v : Value} (h : w.cell? ((⟨b, off, spot⟩ : Addr).add (0 * 3)) = some v) : spot = none := by
  have := World.cell?_spot h
  simpa [Addr.add] using this

instance : Inhabited Lv := ⟨.mk 0 0 []⟩
/-- Each of the elements of a slice of levels that came in is a level. -/
theorem rows_of_trod {H : Type} {enc : TypeId × Value → H} {W : World} {spare : Nat → Bool} {held : Bool} {a : Addr} {len n : Nat} {elems : List (DataW H × List MemPlace)}
    (hel : ∀ i, i < len → (W.cells? 0 (a.add (i * Tryd.prog.cellsOf 24)) (Tryd.prog.cellsOf 24)).bind (DataW.trod enc Tryd.prog W 0 spare held n 24) = elems[i]?) (hlen : elems.length = len)
    (ih : ∀ cs x, DataW.trod enc Tryd.prog W 0 spare held n 24 cs = some x → ∃ L c0 c1 c2, cs = [c0, c1, c2] ∧ In W (· < W.heap.size) L (.agg #[c0, c1, c2])) :
    ∃ args : List Lv, args.length = len ∧ (args = [] ∨ ∃ b off, a = ⟨b, off, none⟩ ∧ b < W.heap.size ∧ InAll W (· < W.heap.size) b off args) := by
  obtain ⟨b, off, spot⟩ := a
  obtain ⟨f, hf⟩ := choose_lt (α := Lv) (n := len) (p := fun i L => ∃ c0 c1 c2, W.cell? ((⟨b, off, spot⟩ : Addr).add (i * 3)) = some c0 ∧ W.cell? (((⟨b, off, spot⟩ : Addr).add (i * 3)).add 1) = some c1 ∧ W.cell? (((⟨b, off, spot⟩ : Addr).add (i * 3)).add 2) = some c2 ∧ In W (· < W.heap.size) L (.agg #[c0, c1, c2])) (fun i hi => by
    have h1 := hel i hi
    rw [List.getElem?_eq_getElem (by omega)] at h1
    obtain ⟨cs, hcs, htr⟩ := Option.bind_eq_some_iff.1 h1
    obtain ⟨L, c0, c1, c2, rfl, hin⟩ := ih cs _ htr
    rw [cells24] at hcs
    obtain ⟨_, _, hc⟩ := World.cells?_some hcs
    refine ⟨L, c0, c1, c2, ?_, ?_, ?_, hin⟩
    · have := hc 0 (by decide); simpa [Addr.add] using this
    · have := hc 1 (by decide); simpa using this
    · have := hc 2 (by decide); simpa using this)
  refine ⟨(List.range len).map f, by simp, ?_⟩
  by_cases h0 : len = 0
  · subst h0; exact .inl rfl
  · obtain ⟨c0, c1, c2, e0, _⟩ := hf 0 (by omega)
    obtain rfl := addr_none e0
    have hb : b < W.heap.size := by have := World.block_lt_of_cell? W _ e0; simpa [Addr.add] using this
    refine .inr ⟨b, off, rfl, hb, InAll.of_get fun i L hi => ?_⟩
    by_cases hi' : i < len
    · rw [List.getElem?_map, List.getElem?_range hi'] at hi
      simp only [Option.map_some, Option.some.injEq] at hi
      subst hi
      obtain ⟨d0, d1, d2, e0, e1, e2, hin⟩ := hf i hi'
      rw [Addr.add_lit] at e0
      rw [Addr.add_lit, Addr.add_lit] at e1 e2
      exact ⟨d0, d1, d2, e0, e1, e2, hin⟩
    · rw [List.getElem?_eq_none (by simp; omega)] at hi; cases hi

theorem bounds64 {n : Int} (h : (Lit.int .i64 n).wf = true) : -9223372036854775808 ≤ n ∧ n ≤ 9223372036854775807 := bounds_i64 h

/-- A level that came in is one. -/
theorem lv_of_trod {H : Type} {enc : TypeId × Value → H} {W : World} {spare : Nat → Bool} {held : Bool} (fuel : Nat) : ∀ cs x, DataW.trod enc Tryd.prog W 0 spare held fuel 24 cs = some x → ∃ L c0 c1 c2, cs = [c0, c1, c2] ∧ In W (· < W.heap.size) L (.agg #[c0, c1, c2]) := by
  induction fuel using Nat.strongRecOn with
  | _ fuel ih =>
    intro cs x h
    obtain ⟨xs, n, hn, _, hl, hlen, hf⟩ := DataW.trod_struct Tryd.underlying24 h
    rw [cells24] at hl
    match cs, hl with
    | [c0, c1, c2], _ =>
      match xs, hlen with
      | [y0, y1, y2], _ =>
        have f0 := hf 0 _ rfl
        have f1 := hf 1 _ rfl
        have f2 := hf 2 _ rfl
        simp [cells3, cells22] at f0 f1 f2
        obtain ⟨k, e0, _, wk⟩ := DataW.trod_int Tryd.underlying3 f0
        obtain ⟨m, e1, _, wm⟩ := DataW.trod_int Tryd.underlying3 f1
        simp at e0 e1
        subst e0 e1
        rcases DataW.trod_slice Tryd.underlying22 f2 with ⟨e2, _⟩ | ⟨a, len, cap, elems, rest, n', hn', e2, _, _, hlc, hcm, hel, hall, _, _⟩
        · simp at e2
          subst e2
          refine ⟨.mk k m [], _, _, _, rfl, ?_⟩
          rw [in_mk]
          exact ⟨none, 0, rfl, bounds64 wk, bounds64 wm, by simp, by decide, .inl rfl⟩
        · simp at e2
          subst e2
          obtain ⟨args, hal, hargs⟩ := rows_of_trod hall hel (fun cs x h => ih n' (by omega) cs x h)
          refine ⟨.mk k m args, _, _, _, rfl, ?_⟩
          rw [in_mk]
          refine ⟨some a, cap, by rw [hal], bounds64 wk, bounds64 wm, by omega, hcm, ?_⟩
          rcases hargs with h0 | ⟨b, off, rfl, hb, hin⟩
          · exact .inl h0
          · exact .inr ⟨b, off, rfl, hb, hin⟩

theorem lv_of_row {H : Type} {enc : TypeId × Value → H} {W : World} {r : Reach} {base : Nat} {v : Value} {d : DataW H} {p : List MemPlace} (hv : Value.okWide Tryd.prog W r base 24 v) (h : DataW.Trod enc Tryd.prog W 0 (fun _ => true) true 24 v d p) : ∃ L, In W (· < W.heap.size) L v := by
  obtain ⟨cs, rfl, _⟩ := okWide_struct Tryd.underlying24 hv
  obtain ⟨fuel, hf⟩ := h
  obtain ⟨L, c0, c1, c2, e, hin⟩ := lv_of_trod fuel _ _ hf
  obtain ⟨l⟩ := cs
  simp [Value.cells] at e
  subst e
  exact ⟨L, hin⟩

/-! ### The tables -/
def laid : List (String × DataW Unit) := [("touchstone/level.argCounts", Rows.laid_touchstone_level_argCounts), ("touchstone/level.telling", Rows.laid_touchstone_level_telling)]
theorem gA : Tryd.prog.globalNamed "touchstone/level.argCounts" = some 0 := by kernel_rfl
theorem gB : Tryd.prog.globalNamed "touchstone/level.telling" = some 1 := by kernel_rfl
theorem tA : (Tryd.prog.globals[0]?).map (·.type) = some 68 := by kernel_rfl
theorem tB : (Tryd.prog.globals[1]?).map (·.type) = some 75 := by kernel_rfl
theorem cells68 : Tryd.prog.cellsOf 68 = 5 := by kernel_rfl
theorem cells75 : Tryd.prog.cellsOf 75 = 3 := by kernel_rfl
theorem laid_is : (laid : List (String × DataW Unit)) = [("touchstone/level.argCounts", Lib.tabData .i64 [0, 1, 2, 2, 0]), ("touchstone/level.telling", Lib.tabData .i64 [0, 1, 1099511627776])] := rfl

theorem tabs_of_laid {W : World} (h : laidMetH Tryd.prog laid W) : Tabs W := by
  rw [MakeChecks.laidMetH_plain _ _ _ (by kernel_rfl), laid_is] at h
  have hA := Lib.tabIs_of_head gA tA Tryd.underlying68 Tryd.underlying3 cells3 cells68 h
  have hB : Lib.TabIs Tryd.prog W "touchstone/level.telling" .i64 [0, 1, 1099511627776] := by
    obtain ⟨ps, ⟨g', t', cs, fuel, p, q, hg', ht', hvar, hd, ⟨g2, t2, cs2, fuel2, p2, q2, hg2, ht2, hvar2, hd2, _, _⟩, _⟩, _⟩ := h
    obtain rfl := Option.some.inj (gB.symm.trans hg2)
    obtain rfl := Option.some.inj (tB.symm.trans ht2)
    unfold Lib.TabIs
    rw [hvar2, ← Lib.cells_of_tab Tryd.underlying75 Tryd.underlying3 cells3 cells75 hd2]
  refine ⟨fun i hi => ?_, fun i hi => ?_⟩
  · rw [hA.cell gA i (by simpa using hi)]
    match i, hi with
    | 0, _ => rfl
    | 1, _ => rfl
    | 2, _ => rfl
    | 3, _ => rfl
    | 4, _ => rfl
  · exact hB.cell gB i (by simpa using hi)

theorem door_met (os : Os) (args : Array Value) : laidMetH Tryd.prog laid ((World.doorLaid Tryd.prog 19 os).forCall (fun _ _ => 0) ⟨#[], args, []⟩).memory :=
  laidMetH_of_parts3 (fuel := 8) (laidMet_of_run' 8 (by kernel_rfl) (by kernel_rfl)) (by kernel_rfl) (by kernel_rfl)
end Go.Proofs.YtogfmpjgmabomaaDoor
