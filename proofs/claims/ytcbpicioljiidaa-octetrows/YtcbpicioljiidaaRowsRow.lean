/- Proved: 'OctetRowsSaid': for all numbers and texts OctetRows answers true (numbers and texts that stand in a row are read on, one by one), and its arguments read as they did. No condition. -/
import Derived.Test.YtcbpicioljiidaaRows
import Derived.WalkKit
import Derived.ProofKit
import Derived.OpenShut
import Derived.ShutString
import Derived.ChangeOld
import Derived.Below
import Derived.Test.YtcbpicioljiidaaRowsLaw
import Derived.Test.YtcbpicioljiidaaOpen
import Derived.Deep.Slices
namespace Go.Proofs.Ytcbpicioljiidaa.octetRows
open Go.ChangeShapes Go.WideShapes Go.ChangeAt Go.RowKit
open Go.ChangeMaps (open_string shut_string)
set_option linter.unusedVariables false

theorem own : ownKnob Try.prog.godebug = none := by kernel_rfl
theorem laidOut : laidOutB Try.prog = true := by kernel_rfl

def IsRow (k : IntKind) (w : World) (a : Option Addr) (len cap : Nat) (zs : List Int) : Prop :=
  (a = none ∧ len = 0 ∧ cap = 0 ∧ zs = []) ∨
  ∃ x, a = some x ∧ len ≤ cap ∧ cap ≤ maxLen ∧ zs.length = cap ∧ (∀ i, i < zs.length → w.cell? (x.add i) = some (.int k (zs.getD i 0))) ∧ ∀ n ∈ zs, (Lit.int k n).wf = true

theorem cells_of_row {w : World} {a : Option Addr} {len cap : Nat} {zs : List Int} (h : IsRow .u64 w a len cap zs) :
    ∃ vl : List Nat, Cells w a len cap (vl.map fun x : Nat => Value.int .u64 (x : Int)) ∧ ∀ (j x : Nat), vl[j]? = some x → x < 18446744073709551616 := by
  rcases h with ⟨rfl, rfl, rfl, rfl⟩ | ⟨x, rfl, hl, hm, hz, hcell, hwf⟩
  · exact ⟨[], ⟨rfl, Nat.le_refl _, Nat.zero_le _, (fun _ => rfl), (fun _ h0 => by cases h0)⟩, fun j x h0 => by simp at h0⟩
  · refine ⟨(zs.take len).map fun z => z.toNat, ⟨by simp; omega, hl, hm, (fun h0 => by cases h0), fun b hb j u hu => ?_⟩, fun j y hy => ?_⟩
    · obtain rfl : x = b := by simpa using hb
      rw [List.map_map, List.getElem?_map] at hu
      cases hj : (zs.take len)[j]? with
      | none => rw [hj] at hu; cases hu
      | some z =>
        rw [hj] at hu
        simp only [Option.map_some, Option.some.injEq, Function.comp] at hu
        have hjl := (List.getElem?_eq_some_iff.1 hj).1
        simp at hjl
        rw [List.getElem?_take_of_lt (by omega)] at hj
        obtain ⟨z0, z1⟩ := bounds_u64 (hwf z (List.mem_of_getElem? hj))
        rw [hcell j (by omega), List.getD_eq_getElem?_getD, hj]
        subst hu
        simp
        omega
    · rw [List.getElem?_map] at hy
      cases hj : (zs.take len)[j]? with
      | none => rw [hj] at hy; cases hy
      | some z =>
        rw [hj] at hy
        simp only [Option.map_some, Option.some.injEq] at hy
        obtain ⟨z0, z1⟩ := bounds_u64 (hwf z (List.mem_of_mem_take (List.mem_of_getElem? hj)))
        omega

theorem walk (a0 : Option Addr) (len0 cap0 : Nat) (z0 : List Int) (a1 : Option Addr) (len1 cap1 : Nat) (tl : List (Option Addr × Nat × Nat × List UInt8)) (w : World) (w0 : IsRow .u64 w a0 len0 cap0 z0)
    (w1 : Cells w a1 len1 cap1 (tl.map fun t : Option Addr × Nat × Nat × List UInt8 => Value.slice t.1 t.2.1 t.2.2.1)) (w2 : ∀ (j : Nat) (t : Option Addr × Nat × Nat × List UInt8), tl[j]? = some t → Rd w t.1 t.2.1 t.2.2.1 t.2.2.2) :
    Calls Try.prog 8 #[.slice a0 len0 cap0, .slice a1 len1 cap1] w fun e w' => e = .returned (.bool true) ∧ Below w.heap.size w w' := by
  obtain ⟨vl, c0, b0⟩ := cells_of_row w0
  exact rows_walk a0 len0 cap0 vl a1 len1 cap1 tl w c0 b0 w1 w2

set_option maxRecDepth 100000 in
theorem lifted (os : Os) (started : os.Started) (H : Type) (enc : TypeId × Value → H) :
    ReturnsInHanded {} Try.checked os 8 .any (Rows.octetRowsSpec.pre6 enc Try.prog Try.f8 Rows.octetRowsRow.domain false) (Rows.octetRowsSpec.post enc Try.prog Try.f8 false true false false) := by
  refine returnsInHanded_of_change (C := Try.checked) own started (by kernel_rfl) Try.func8
    (ChangeSpec.witness6 (enc := enc) (C := Try.checked) false ⟨#[], #[.slice none 0 0, .slice none 0 0], []⟩ 8 (by kernel_rfl) (by kernel_rfl) (by kernel_rfl) (by kernel_rfl)) ?_
  intro W base args ds gs before hval0 hW hcnd _
  have hval : ∀ (j : Nat) t v, Try.f8.params[j]? = some t → args[j]? = some v → Value.okWide Try.prog W .any base t v := hval0
  have hW' := hW
  obtain ⟨p, q, hA0, hV, rfl, hfz, hnd⟩ := hW
  have hA : DataW.TrodAll enc Try.prog W 0 (fun _ => true) true Try.f8.params.toList args.toList ds p := hA0
  rw [Try.params8] at hA hval
  obtain ⟨v0, vs0, d0, ds0, p0, q0, hargs, rfl, rfl, h0, r0⟩ := trodAll_cons hA
  obtain ⟨v1, vs1, d1, ds1, p1, q1, rfl, rfl, rfl, h1, r1⟩ := trodAll_cons r0
  obtain ⟨rfl, rfl, rfl⟩ := trodAll_nil r1
  obtain rfl : args = #[v0, v1] := by cases args; simp_all
  obtain ⟨rfl, rfl⟩ := trodVars_none hV
  obtain ⟨a0, len0, cap0, rfl⟩ := okWide_slice Try.underlying44 (hval 0 44 v0 rfl rfl)
  have k0 := h0
  have lt0 : ∀ x ∈ p0, x.block < W.heap.size := by obtain ⟨m, hm⟩ := k0; exact DataW.trod_lt m _ _ _ hm
  obtain ⟨z0, w0⟩ : ∃ zs, IsRow .u64 W a0 len0 cap0 zs := by
    obtain ⟨fuel, hf⟩ := h0
    rcases open_ints Try.underlying44 Try.underlying23 (by kernel_rfl) hf with ⟨hcs, _⟩ | ⟨x, l, c, zs, hcs, _, hl, hm, hz, _, hcell, hwz⟩
    · simp [Value.cells] at hcs
      obtain ⟨rfl, rfl, rfl⟩ := hcs
      exact ⟨[], .inl ⟨rfl, rfl, rfl, rfl⟩⟩
    · simp [Value.cells] at hcs
      obtain ⟨rfl, rfl, rfl⟩ := hcs
      exact ⟨zs, .inr ⟨_, rfl, hl, hm, by simpa using hz, hcell, hwz⟩⟩
  obtain ⟨a1, len1, cap1, rfl⟩ := okWide_slice Try.underlying45 (hval 1 45 v1 rfl rfl)
  have k1 := h1
  have lt1 : ∀ x ∈ p1, x.block < W.heap.size := by obtain ⟨m, hm⟩ := k1; exact DataW.trod_lt m _ _ _ hm
  obtain ⟨tl, w1, w2⟩ : ∃ tl : List (Option Addr × Nat × Nat × List UInt8), Cells W a1 len1 cap1 (tl.map fun t : Option Addr × Nat × Nat × List UInt8 => Value.slice t.1 t.2.1 t.2.2.1) ∧ ∀ (j : Nat) (t : Option Addr × Nat × Nat × List UInt8), tl[j]? = some t → Rd W t.1 t.2.1 t.2.2.1 t.2.2.2 := by
    obtain ⟨fuel, hf⟩ := h1
    rcases Go.Deep.open_slice1 Try.underlying45 (by kernel_rfl) hf with ⟨hcs, _⟩ | ⟨a, l, c, m, n, V, D, Pl, hcs, _, hl, hm, hmm, _, hx⟩
    · simp [Value.cells] at hcs
      obtain ⟨rfl, rfl, rfl⟩ := hcs
      exact ⟨[], ⟨rfl, Nat.le_refl _, Nat.zero_le _, (fun _ => rfl), (fun _ h0 => by cases h0)⟩, fun j t h0 => by simp at h0⟩
    · simp [Value.cells] at hcs
      obtain ⟨rfl, rfl, rfl⟩ := hcs
      have hmc : len1 ≤ m := by rw [hmm]; split <;> omega
      obtain ⟨f, hff⟩ := Go.Deep.choose_lt (α := Option Addr × Nat × Nat × List UInt8) (n := len1) (p := fun i t => W.cell? (a.add i) = some (.slice t.1 t.2.1 t.2.2.1) ∧ Rd W t.1 t.2.1 t.2.2.1 t.2.2.2) (fun i hi => by
        obtain ⟨hc, htr⟩ := hx i (by omega)
        rcases open_ints Try.underlying22 Try.underlying5 (by kernel_rfl) htr with ⟨hcs, _⟩ | ⟨x, l', c', zs, hcs, _, hl', hm', hz', _, hcell, hwz⟩
        · simp at hcs
          exact ⟨(none, 0, 0, []), by rw [hc, hcs], Rd.none' W none⟩
        · simp at hcs
          obtain ⟨bs, hbs⟩ := rd_of_row (w := W) (a := some x) (len := l') (cap := c') (zs := zs) (.inr ⟨x, rfl, hl', hm', by simpa using hz', hcell, hwz⟩)
          exact ⟨(some x, l', c', bs), by rw [hc, hcs], hbs⟩)
      refine ⟨(List.range len1).map f, ⟨by simp, hl, hm, (fun h0 => by cases h0), fun b hb j u hu => ?_⟩, fun j t hjt => ?_⟩
      · obtain rfl : a = b := by simpa using hb
        rw [List.map_map, List.getElem?_map] at hu
        by_cases hj : j < len1
        · rw [List.getElem?_range hj] at hu
          simp only [Option.map_some, Option.some.injEq, Function.comp] at hu
          rw [(hff j hj).1, hu]
        · rw [List.getElem?_eq_none (by simp; omega)] at hu
          cases hu
      · rw [List.getElem?_map] at hjt
        by_cases hj : j < len1
        · rw [List.getElem?_range hj] at hjt
          simp only [Option.map_some, Option.some.injEq] at hjt
          subst hjt
          exact (hff j hj).2
        · rw [List.getElem?_eq_none (by simp; omega)] at hjt
          cases hjt
  clear hA0 hval0
  refine (walk a0 len0 cap0 z0 a1 len1 cap1 tl W w0 w1 w2).mono fun e W' ⟨he, bel⟩ => ?_
  subst he
  exact ⟨_, rfl, _, _, _, [], _, [], hW', trodAll_mk1 (shut_bool Try.underlying4 _), (trodAll_cons_mk (Below.trod laidOut (by kernel_rfl) (of_decide_eq_true (by kernel_rfl)) k0 bel lt0) (trodAll_cons_mk (Below.trod laidOut (by kernel_rfl) (of_decide_eq_true (by kernel_rfl)) k1 bel lt1) trodAll_mk0)), rfl, bel.frame _, fun h => by cases h⟩

theorem over : Rows.octetRowsRow.holds Try.pinned (OpenSpec.ofChange Rows.octetRowsSpec) :=
  OpenClaim.holds_of_wide 8 Try.f8 rfl rfl rfl rfl rfl rfl rfl ⟨rfl, rfl, rfl, rfl, rfl⟩ rfl rfl rfl rfl rfl (by kernel_rfl) Try.func8 (by kernel_rfl)
    (of_decide_eq_true (by kernel_rfl)) (by unfold Func.isWrapper; first | (rw [if_pos (by decide +kernel)]; kernel_rfl) | (rw [if_neg (by decide +kernel)]; exact ⟨rfl, rfl⟩))
    (fun os started H enc _ => lifted os started H enc)

end Go.Proofs.Ytcbpicioljiidaa.octetRows

namespace Go.Proofs.Ytcbpicioljiidaa
theorem octetRows_holds : Rows.OctetRowsSaid := octetRows.over
end Go.Proofs.Ytcbpicioljiidaa
