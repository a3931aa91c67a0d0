/- What a []byte, a []int, that came in reads as. No condition. -/
import Derived.Test.YtbbfjfmcmckdmaaLists
import Derived.OpenShut
import Derived.ProofKit
namespace Go.Proofs.Ytbbfjfmcmckdmaa
open Go.RowKit

theorem rd_of_row {w : World} {a : Option Addr} {len cap : Nat} {zs : List Int}
    (h : (a = none ∧ len = 0 ∧ cap = 0 ∧ zs = []) ∨
      ∃ x, a = some x ∧ len ≤ cap ∧ cap ≤ maxLen ∧ zs.length = cap ∧ (∀ i, i < zs.length → w.cell? (x.add i) = some (.int .u8 (zs.getD i 0))) ∧ ∀ n ∈ zs, (Lit.int .u8 n).wf = true) : ∃ bs, Rd w a len cap bs := by
  rcases h with ⟨rfl, rfl, rfl, rfl⟩ | ⟨x, rfl, hl, hm, hz, hcell, hwf⟩
  · exact ⟨[], Rd.none' w none⟩
  · refine ⟨(zs.take len).map fun z => z.toNat.toUInt8, ⟨by simp; omega, hl, hm, (fun h0 => by cases h0), fun b hb j u hu => ?_⟩⟩
    obtain rfl : x = b := by simpa using hb
    rw [List.getElem?_map] at hu
    cases hj : (zs.take len)[j]? with
    | none => rw [hj] at hu; cases hu
    | some z =>
      rw [hj] at hu
      simp only [Option.map_some, Option.some.injEq] at hu
      have hjl := (List.getElem?_eq_some_iff.1 hj).1
      simp at hjl
      rw [List.getElem?_take_of_lt (by omega)] at hj
      have hmem : z ∈ zs := List.mem_of_getElem? hj
      obtain ⟨z0, z1⟩ := bounds_u8 (hwf z hmem)
      rw [hcell j (by omega), List.getD_eq_getElem?_getD, hj]
      subst hu
      have : z.toNat.toUInt8.toNat = z.toNat := by simp; omega
      rw [this]
      simp
      omega

theorem rdi_of_row {w : World} {a : Option Addr} {len cap : Nat} {zs : List Int}
    (h : (a = none ∧ len = 0 ∧ cap = 0 ∧ zs = []) ∨
      ∃ x, a = some x ∧ len ≤ cap ∧ cap ≤ maxLen ∧ zs.length = cap ∧ (∀ i, i < zs.length → w.cell? (x.add i) = some (.int .i64 (zs.getD i 0))) ∧ ∀ n ∈ zs, (Lit.int .i64 n).wf = true) : RdI w a len cap (zs.take len) := by
  rcases h with ⟨rfl, rfl, rfl, rfl⟩ | ⟨x, rfl, hl, hm, hz, hcell, _⟩
  · exact ⟨rfl, Nat.le_refl _, by decide, fun j z hz => by simp at hz⟩
  · refine ⟨by simp; omega, hl, hm, fun j z hj => ?_⟩
    have hjl := (List.getElem?_eq_some_iff.1 hj).1
    simp at hjl
    rw [List.getElem?_take_of_lt (by omega)] at hj
    have h0 := hcell j (by omega)
    rw [List.getD_eq_getElem?_getD, hj] at h0
    have h2 := World.cell?_spot (hcell 0 (by omega))
    obtain ⟨b, off, spot⟩ := x
    have h3 : spot = none := by simpa [Addr.add] using h2
    subst h3
    rw [Addr.add_lit] at h0
    exact ⟨b, off, rfl, h0⟩
end Go.Proofs.Ytbbfjfmcmckdmaa
