/- Worlds that have grown: one walk serves every order of a region whose calls make memory and leave what was there. Of no program; no condition. -/
import Derived.Test.YtemgmphddmlmlaaMem
namespace Go.Proofs.Ytemgmphddmlmlaa
open Go.RowKit

/-- The world w with what u has behind it. -/
def over (w u : World) : World := { w with heap := w.heap ++ u.heap.extract w.heap.size u.heap.size, drawn := u.drawn }

theorem over_below (w u : World) : Below w.heap.size w (over w u) :=
  ⟨rfl, rfl, rfl, by simp [over], fun k hk => by simp [over, Array.getElem?_append, hk]⟩

theorem over_of {w w' : World} (h : Below w.heap.size w w') : w' = over w w' := by
  obtain ⟨heap, tape, drawn, os, output⟩ := w
  obtain ⟨heap', tape', drawn', os', output'⟩ := w'
  have h1 := h.os
  have h2 := h.tape
  have h3 := h.output
  have h4 := h.size
  have h5 := h.block
  simp only at h1 h2 h3 h4 h5
  subst h1 h2 h3
  unfold over
  congr 1
  apply Array.ext_getElem?
  intro i
  rw [Array.getElem?_append]
  by_cases hi : i < heap.size
  · rw [if_pos hi]; exact h5 i hi
  · rw [if_neg hi, Array.getElem?_extract]
    by_cases hj : i < heap'.size
    · rw [if_pos (by simp; omega)]; congr 1; simp only at hi ⊢; omega
    · rw [if_neg (by simp; omega), Array.getElem?_eq_none (by omega)]

theorem over_cell {w : World} {b o : Nat} {v : Value} (h : w.cell? ⟨b, o, none⟩ = some v) : ∀ u, (over w u).cell? ⟨b, o, none⟩ = some v := fun u =>
  (World.cell?_of_block (w := w) ((over_below w u).block b (World.block_lt_of_cell? w _ h))).trans h

/-- A callee that makes memory and leaves what was there. -/
theorem Calls.over {P : Program} {f : FuncId} {args : Array Value} {w u : World} {v : Value}
    (h : Calls P f args (over w u) fun e w' => e = .returned v ∧ Below (over w u).heap.size (over w u) w') : Calls P f args (over w u) fun e w'' => e = .returned v ∧ ∃ u', w'' = over w u' :=
  h.mono fun _ w'' ⟨he, hb⟩ => ⟨he, w'', over_of ((over_below w u).trans (hb.mono (over_below w u).size))⟩

theorem wp_region_over {P : Program} {id : Nat} {Q : Exit → Act → World → Prop} {a : Act} (w : World) {w0 : World} {l : List Oper} (hw : Below w.heap.size w w0) (hm : P.follows .mixedOrders = true) (hB : Region.lexB .any l.toArray = true)
    (h : wpQuiet P l.toArray (fun w' => ∃ u, w' = over w u) (fun a' => ∀ w', (∃ u, w' = over w u) → Q .normal a' w') l a) : (Code.region id l.toArray true).wp P Q a w0 :=
  wp_region_quiet (C := fun w' => ∃ u, w' = over w u) hm hB ⟨_, over_of (w := w) (w' := { w0 with drawn := w0.drawn + 1 }) ⟨hw.os, hw.tape, hw.output, hw.size, hw.block⟩⟩ (by simpa using h)

end Go.Proofs.Ytemgmphddmlmlaa
