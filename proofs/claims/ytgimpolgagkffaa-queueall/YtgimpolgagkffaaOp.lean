/- What a []Op that came in reads as. No condition. -/
import Derived.Test.YtgimpolgagkffaaAl1
import Derived.OpenShut
import Derived.ProofKit
import Derived.Deep.Slices
namespace Go.Proofs.Ytgimpolgagkffaa
open Go.RowKit Go.Deep Go.WideShapes

theorem cells31 : Try.prog.cellsOf 31 = 3 := by kernel_rfl
theorem cells3 : Try.prog.cellsOf 3 = 1 := by kernel_rfl

set_option maxRecDepth 100000 in
theorem op_of_trod {H : Type} {enc : TypeId × Value → H} {W : World} {spare : Nat → Bool} {held : Bool} (fuel : Nat) (cs : List Value) (x : DataW H × List MemPlace) (h : DataW.trod enc Try.prog W 0 spare held fuel 31 cs = some x) : ∃ x y z : Int, cs = [.int .i64 x, .int .i64 y, .int .i64 z] := by
  obtain ⟨xs, n, _, _, hl, hlen, hfd⟩ := DataW.trod_struct Try.underlying31 h
  rw [cells31] at hl
  match cs, hl with
  | [c0, c1, c2], _ =>
    match xs, hlen with
    | [y0, y1, y2], _ =>
      have f0 := hfd 0 _ rfl
      have f1 := hfd 1 _ rfl
      have f2 := hfd 2 _ rfl
      simp [cells3] at f0 f1 f2
      obtain ⟨x, e0, _, _⟩ := DataW.trod_int Try.underlying3 f0
      obtain ⟨y, e1, _, _⟩ := DataW.trod_int Try.underlying3 f1
      obtain ⟨z, e2, _, _⟩ := DataW.trod_int Try.underlying3 f2
      simp at e0 e1 e2
      subst e0 e1 e2
      exact ⟨x, y, z, rfl⟩

set_option maxRecDepth 100000 in
theorem ops_of_row {H : Type} {enc : TypeId × Value → H} {W : World} {a : Option Addr} {len cap : Nat} {d : DataW H} {p : List MemPlace} (h : DataW.Trod enc Try.prog W 0 (fun _ => true) true 22 (.slice a len cap) d p) : OpR W a len cap := by
  obtain ⟨fuel, hf⟩ := h
  rcases DataW.trod_slice Try.underlying22 hf with ⟨e, _⟩ | ⟨x, l, c, elems, rest, n', hn', e, _, _, hlc, hcm, hel, hall, _, _⟩
  · simp [Value.cells] at e
    obtain ⟨rfl, rfl, rfl⟩ := e
    exact ⟨Nat.le_refl _, by decide, fun j hj => absurd hj (Nat.not_lt_zero j)⟩
  · simp [Value.cells] at e
    obtain ⟨rfl, rfl, rfl⟩ := e
    obtain ⟨b, off, spot⟩ := x
    refine ⟨hlc, hcm, fun j hj => ?_⟩
    have one : ∀ i, i < len → ∃ x y z : Int, W.cell? ((⟨b, off, spot⟩ : Addr).add (i * 3)) = some (.int .i64 x) ∧ W.cell? (((⟨b, off, spot⟩ : Addr).add (i * 3)).add 1) = some (.int .i64 y) ∧ W.cell? (((⟨b, off, spot⟩ : Addr).add (i * 3)).add 2) = some (.int .i64 z) := fun i hi => by
      have h1 := hall i hi
      rw [List.getElem?_eq_getElem (by omega)] at h1
      obtain ⟨cs, hcs, htr⟩ := Option.bind_eq_some_iff.1 h1
      rw [cells31] at hcs
      obtain ⟨_, _, hc⟩ := World.cells?_some hcs
      obtain ⟨x, y, z, rfl⟩ := op_of_trod n' cs _ htr
      exact ⟨x, y, z, by have := hc 0 (by decide); simpa [Addr.add] using this, by have := hc 1 (by decide); simpa using this, by have := hc 2 (by decide); simpa using this⟩
    obtain rfl : spot = none := by
      obtain ⟨_, _, _, g0, _⟩ := one 0 (by omega)
      have := World.cell?_spot g0
      simpa [Addr.add] using this
    obtain ⟨x, y, z, g0, g1, g2⟩ := one j hj
    rw [Addr.add_lit] at g0
    rw [Addr.add_lit, Addr.add_lit] at g1 g2
    exact ⟨b, off, rfl, x, y, z, g0, g1, g2⟩
end Go.Proofs.Ytgimpolgagkffaa
