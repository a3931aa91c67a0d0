/- A place written whole, as a step of a turn. Plain facts of worlds, of no program. -/
import Derived.Test.YtbmijpjmdpdfkaaDoorWand
namespace Go.Proofs.YtbmijpjmdpdfkaaDoor
open Go.RowKit

theorem xb_set (w : World) (g j : Nat) (v : Value) (k : Nat) : XB (w.setCell ⟨g, j, none⟩ v) k ↔ XB w k := by
  by_cases e : k = g
  · subst e
    cases h : w.heap[k]? with
    | none => simp [XB, World.setCell, Array.getElem?_modify, h]
    | some o =>
      cases o with
      | cells c e f =>
        have h2 : (w.setCell ⟨k, j, none⟩ v).heap[k]? = some (.cells (c.setIfInBounds j v) e f) := by simp [World.setCell, Array.getElem?_modify, h]
        unfold XB
        rw [h, h2]
        exact ⟨fun ⟨_, _, _, h3, h4⟩ => by cases h3; exact ⟨_, _, _, rfl, h4⟩, fun ⟨_, _, _, h3, h4⟩ => by cases h3; exact ⟨_, _, _, rfl, h4⟩⟩
      | _ => simp [XB, World.setCell, Array.getElem?_modify, h]
  · exact XB.carry (Below.heap_setCell _ _ _ _ e)
theorem xb_put5 (w : World) (g j : Nat) (a0 a1 a2 a3 a4 : Value) (k : Nat) : XB (put5 w g j a0 a1 a2 a3 a4) k ↔ XB w k := by
  unfold put5; rw [xb_set, xb_set, xb_set, xb_set, xb_set]
theorem put5_out (w : World) (g j : Nat) (a0 a1 a2 a3 a4 : Value) (k c : Nat) (h : k = g → c < j ∨ j + 5 ≤ c) : (put5 w g j a0 a1 a2 a3 a4).cell? ⟨k, c, none⟩ = w.cell? ⟨k, c, none⟩ := by
  have ne : ∀ i, i < 5 → (⟨g, j + i, none⟩ : Addr) ≠ ⟨k, c, none⟩ := fun i hi e => by
    simp only [Addr.mk.injEq, and_true] at e
    have := h e.1.symm; omega
  have ne0 : (⟨g, j, none⟩ : Addr) ≠ ⟨k, c, none⟩ := ne 0 (by omega)
  unfold put5
  rw [World.cell?_setCell_other _ _ _ _ (ne 4 (by omega)), World.cell?_setCell_other _ _ _ _ (ne 3 (by omega)), World.cell?_setCell_other _ _ _ _ (ne 2 (by omega)), World.cell?_setCell_other _ _ _ _ (ne 1 (by omega)), World.cell?_setCell_other _ _ _ _ ne0]
theorem put5_in {w : World} {g j : Nat} (hh : Hole w g j) (a0 a1 a2 a3 a4 : Value) : (put5 w g j a0 a1 a2 a3 a4).cell? ⟨g, j, none⟩ = some a0 ∧ (put5 w g j a0 a1 a2 a3 a4).cell? ⟨g, j + 1, none⟩ = some a1 ∧ (put5 w g j a0 a1 a2 a3 a4).cell? ⟨g, j + 2, none⟩ = some a2 ∧ (put5 w g j a0 a1 a2 a3 a4).cell? ⟨g, j + 3, none⟩ = some a3 ∧ (put5 w g j a0 a1 a2 a3 a4).cell? ⟨g, j + 4, none⟩ = some a4 := by
  obtain ⟨cs, t, h, hs⟩ := hh
  have hp : (put5 w g j a0 a1 a2 a3 a4).heap[g]? = some (.cells (((((cs.setIfInBounds j a0).setIfInBounds (j + 1) a1).setIfInBounds (j + 2) a2).setIfInBounds (j + 3) a3).setIfInBounds (j + 4) a4) t (0, 0)) := by
    simp [put5, World.setCell, Array.getElem?_modify, h]
  have key := fun i => cell_of_row _ g i _ t (0, 0) hp
  refine ⟨?_, ?_, ?_, ?_, ?_⟩ <;> rw [key] <;> simp [Array.getElem?_setIfInBounds] <;> omega
theorem later_put5 {w w2 : World} (hb : Below w.heap.size w w2) (p : Pt) (tb toff : Nat) (a0 a1 a2 a3 a4 : Value) : Later w (put5 w2 tb toff a0 a1 a2 a3 a4) [(p, tb, toff)] := by
  refine ⟨?_, fun k hk h h' => h ((XB.carry (hb.block k hk)).1 ((xb_put5 _ _ _ _ _ _ _ _ k).1 h')), fun k hk _ hJ => ?_, fun k c hk _ hJ => ?_⟩
  · simp [put5, World.setCell]; exact hb.size
  · have hne : k ≠ tb := fun e => hJ _ (List.mem_singleton.2 rfl) e.symm
    unfold put5
    rw [Below.heap_setCell _ _ _ _ hne, Below.heap_setCell _ _ _ _ hne, Below.heap_setCell _ _ _ _ hne, Below.heap_setCell _ _ _ _ hne, Below.heap_setCell _ _ _ _ hne]
    exact hb.block k hk
  · rw [put5_out _ _ _ _ _ _ _ _ _ _ (fun e => hJ _ (List.mem_singleton.2 rfl) e.symm)]
    exact (bcell hb).1 k c hk

/-- What a step that writes a place whole leaves: a term of new blocks in it. -/
theorem put5_leaf {w w1 w2 w' : World} (hb1 : Below w.heap.size w w1) (hb2 : Below w1.heap.size w1 w2) {T : Tr} {p : Pt} {tb toff : Nat} (hh : Hole w tb toff) (ht : TIn w2 (fun k => w1.heap.size ≤ k ∧ k < w2.heap.size ∧ ¬ XB w2 k) T) (hw' : w' = put5 w2 tb toff (.int .i64 T.k) (.int .i64 T.n) (.string T.s) (.slice T.la T.ls.length T.lc) (.slice T.a T.args.length T.c)) :
    Later w w' [(p, tb, toff)] ∧ TCells w' tb toff T ∧ TIn w' (fun k => w.heap.size ≤ k ∧ k < w'.heap.size ∧ ¬ XB w' k) T := by
  subst hw'
  have hb := hb1.trans (hb2.mono hb1.size)
  have h1 := hb1.size
  have hlt := hh.lt
  obtain ⟨c0, c1, c2, c3, c4⟩ := put5_in (hh.on hb) (.int .i64 T.k) (.int .i64 T.n) (.string T.s) (.slice T.la T.ls.length T.lc) (.slice T.a T.args.length T.c)
  have hK : Keep w2 (put5 w2 tb toff (.int .i64 T.k) (.int .i64 T.n) (.string T.s) (.slice T.la T.ls.length T.lc) (.slice T.a T.args.length T.c)) (fun k => k = tb) :=
    (((((Keep.refl w2 (fun k => k = tb)).setCell (g := tb) (fun _ => rfl) toff _).setCell (g := tb) (fun _ => rfl) (toff + 1) _).setCell (g := tb) (fun _ => rfl) (toff + 2) _).setCell (g := tb) (fun _ => rfl) (toff + 3) _).setCell (g := tb) (fun _ => rfl) (toff + 4) _
  have hs := hK.size
  refine ⟨later_put5 hb p tb toff _ _ _ _ _, ⟨c0, c1, c2, c3, c4⟩, ?_⟩
  exact TIn.carry (fun b hb' => hK.block b hb'.2.1 (by have := hb'.1; omega)) (fun b hb' => ⟨by have := hb'.1; omega, by have := hb'.2.1; omega, fun h => hb'.2.2 ((xb_put5 _ _ _ _ _ _ _ _ b).1 h)⟩) T ht
end Go.Proofs.YtbmijpjmdpdfkaaDoor
