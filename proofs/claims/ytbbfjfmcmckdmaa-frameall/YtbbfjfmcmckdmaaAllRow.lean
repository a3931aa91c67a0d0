/- Proved: 'FrameAllSaid': for all pieces FrameAll answers true (which frames come of any pieces, and when it is spoilt), and its argument reads as it did. No condition. -/
import Derived.Test.YtbbfjfmcmckdmaaRows
import Derived.WalkKit
import Derived.ProofKit
import Derived.OpenShut
import Derived.ShutString
import Derived.ChangeOld
import Derived.Below
import Derived.Deep.Slices
import Derived.Test.YtbbfjfmcmckdmaaAllW
import Derived.Test.YtbbfjfmcmckdmaaOpen
namespace Go.Proofs.Ytbbfjfmcmckdmaa.frameAll
open Go.ChangeShapes Go.WideShapes Go.ChangeAt Go.RowKit
open Go.ChangeMaps (open_string shut_string)
set_option linter.unusedVariables false

theorem own : ownKnob Try.prog.godebug = none := by kernel_rfl
theorem laidOut : laidOutB Try.prog = true := by kernel_rfl

set_option maxRecDepth 100000 in
theorem lifted (os : Os) (started : os.Started) (H : Type) (enc : TypeId × Value → H) :
    ReturnsInHanded {} Try.checked os 3 .any (Rows.frameAllSpec.pre6 enc Try.prog Try.f3 Rows.frameAllRow.domain false) (Rows.frameAllSpec.post enc Try.prog Try.f3 false true false false) := by
  refine returnsInHanded_of_change (C := Try.checked) own started (by kernel_rfl) Try.func3
    (ChangeSpec.witness6 (enc := enc) (C := Try.checked) false ⟨#[], #[.slice none 0 0], []⟩ 8 (by kernel_rfl) (by kernel_rfl) (by kernel_rfl) (by kernel_rfl)) ?_
  intro W base args ds gs before hval0 hW hcnd _
  have hval : ∀ (j : Nat) t v, Try.f3.params[j]? = some t → args[j]? = some v → Value.okWide Try.prog W .any base t v := hval0
  have hW' := hW
  obtain ⟨p, q, hA0, hV, rfl, hfz, hnd⟩ := hW
  have hA : DataW.TrodAll enc Try.prog W 0 (fun _ => true) true Try.f3.params.toList args.toList ds p := hA0
  rw [Try.params3] at hA hval
  obtain ⟨v0, vs0, d0, ds0, p0, q0, hargs, rfl, rfl, h0, r0⟩ := trodAll_cons hA
  obtain ⟨rfl, rfl, rfl⟩ := trodAll_nil r0
  obtain rfl : args = #[v0] := by cases args; simp_all
  obtain ⟨rfl, rfl⟩ := trodVars_none hV
  obtain ⟨a0, len0, cap0, rfl⟩ := okWide_slice Try.underlying22 (hval 0 22 v0 rfl rfl)
  have k0 := h0
  have lt0 : ∀ x ∈ p0, x.block < W.heap.size := by obtain ⟨m, hm⟩ := k0; exact DataW.trod_lt m _ _ _ hm
  obtain ⟨l0, w0⟩ : ∃ ls, Parts W W.heap.size a0 len0 cap0 ls := by
    obtain ⟨fuel, hf⟩ := h0
    rcases Go.Deep.open_slice1 Try.underlying22 (by kernel_rfl) hf with ⟨hcs, _⟩ | ⟨a, l, c, m, n, V, D, Pl, hcs, _, hl, hm, hmm, _, hx⟩
    · simp [Value.cells] at hcs
      obtain ⟨rfl, rfl, rfl⟩ := hcs
      exact ⟨[], parts_nil _ _⟩
    · simp [Value.cells] at hcs
      obtain ⟨rfl, rfl, rfl⟩ := hcs
      have hmc : len0 ≤ m := by rw [hmm]; split <;> omega
      obtain ⟨f, hff⟩ := Go.Deep.choose_lt (α := Option Addr × Nat × Nat × List UInt8) (n := len0) (p := fun i t => W.cell? (a.add i) = some (.slice t.1 t.2.1 t.2.2.1) ∧ Rd W t.1 t.2.1 t.2.2.1 t.2.2.2) (fun i hi => by
        obtain ⟨hc, htr⟩ := hx i (by omega)
        rcases open_ints Try.underlying28 Try.underlying5 (by kernel_rfl) htr with ⟨hcs, _⟩ | ⟨x, l', c', zs, hcs, _, hl', hm', hz', _, hcell, hwz⟩
        · simp at hcs
          exact ⟨(none, 0, 0, []), by rw [hc, hcs], Rd.none' W none⟩
        · simp at hcs
          obtain ⟨bs, hbs⟩ := rd_of_row (w := W) (a := some x) (len := l') (cap := c') (zs := zs) (.inr ⟨x, rfl, hl', hm', by simpa using hz', hcell, hwz⟩)
          exact ⟨(some x, l', c', bs), by rw [hc, hcs], hbs⟩)
      refine ⟨(List.range len0).map fun i => (f i).2.2.2, ⟨by simp, hl, hm, fun i l hil => ?_⟩⟩
      by_cases hi : i < len0
      · rw [List.getElem?_map, List.getElem?_range hi] at hil
        simp only [Option.map_some, Option.some.injEq] at hil
        subst hil
        have h2 := World.cell?_spot (hff 0 (by omega)).1
        obtain ⟨b, off, spot⟩ := a
        have h3 : spot = none := by simpa [Addr.add] using h2
        subst h3
        obtain ⟨hc, hr⟩ := hff i hi
        rw [Addr.add_lit] at hc
        exact ⟨b, off, _, rfl, World.block_lt_of_cell? W _ hc, hc, part_of hr hr.lowSize⟩
      · rw [List.getElem?_eq_none (by simp; omega)] at hil
        cases hil
  clear hA0 hval0
  refine (all_walk a0 len0 cap0 l0 W w0).mono fun e W' ⟨he, bel⟩ => ?_
  subst he
  exact ⟨_, rfl, _, _, _, [], _, [], hW', trodAll_mk1 (shut_bool Try.underlying4 _), (trodAll_cons_mk (Below.trod laidOut (by kernel_rfl) (of_decide_eq_true (by kernel_rfl)) k0 bel lt0) trodAll_mk0), rfl, bel.frame _, fun h => by cases h⟩

theorem over : Rows.frameAllRow.holds Try.pinned (OpenSpec.ofChange Rows.frameAllSpec) :=
  OpenClaim.holds_of_wide 3 Try.f3 rfl rfl rfl rfl rfl rfl rfl ⟨rfl, rfl, rfl, rfl, rfl⟩ rfl rfl rfl rfl rfl (by kernel_rfl) Try.func3 (by kernel_rfl)
    (of_decide_eq_true (by kernel_rfl)) (by unfold Func.isWrapper; first | (rw [if_pos (by decide +kernel)]; kernel_rfl) | (rw [if_neg (by decide +kernel)]; exact ⟨rfl, rfl⟩))
    (fun os started H enc _ => lifted os started H enc)

end Go.Proofs.Ytbbfjfmcmckdmaa.frameAll

namespace Go.Proofs.Ytbbfjfmcmckdmaa
theorem frameAll_holds : Rows.FrameAllSaid := frameAll.over
end Go.Proofs.Ytbbfjfmcmckdmaa
