/- What a []byte that came in reads as. No condition. -/
import Derived.Test.YtgimpolgagkffaaBegun
import Derived.OpenShut
import Derived.ProofKit
namespace Go.Proofs.Ytgimpolgagkffaa
open Go.RowKit

/-- The slice value 'ao, n, cap' can be read, and reads as the bytes bs. -/
structure Rd (w : World) (ao : Option Addr) (n cap : Nat) (bs : List UInt8) : Prop where
  len : bs.length = n
  le : n ≤ cap
  max : cap ≤ maxLen
  cells : ∀ j u, bs[j]? = some u → ∃ b off, ao = some ⟨b, off, none⟩ ∧ w.cell? ⟨b, off + j, none⟩ = some (.int .u8 (u.toNat : Int))

theorem Rd.below {C : Nat} {w w' : World} {ao : Option Addr} {n cap : Nat} {bs : List UInt8} (h : Rd w ao n cap bs) (hb : Below C w w') (hC : w.heap.size ≤ C) : Rd w' ao n cap bs :=
  ⟨h.len, h.le, h.max, fun j u hu => by
    obtain ⟨b, off, e, hc⟩ := h.cells j u hu
    exact ⟨b, off, e, (World.cell?_of_block (hb.block b (Nat.lt_of_lt_of_le (World.block_lt_of_cell? w _ hc) hC))).trans hc⟩⟩

theorem rd_of_row {w : World} {a : Option Addr} {len cap : Nat} {zs : List Int}
    (h : (a = none ∧ len = 0 ∧ cap = 0 ∧ zs = []) ∨
      ∃ x, a = some x ∧ len ≤ cap ∧ cap ≤ maxLen ∧ zs.length = cap ∧ (∀ i, i < zs.length → w.cell? (x.add i) = some (.int .u8 (zs.getD i 0))) ∧ ∀ n ∈ zs, (Lit.int .u8 n).wf = true) : ∃ bs, Rd w a len cap bs := by
  rcases h with ⟨rfl, rfl, rfl, rfl⟩ | ⟨x, rfl, hl, hm, hz, hcell, hwf⟩
  · exact ⟨[], rfl, Nat.le_refl _, by decide, fun j u hu => by simp at hu⟩
  · refine ⟨(zs.take len).map fun z => z.toNat.toUInt8, ⟨by simp; omega, hl, hm, fun j u hu => ?_⟩⟩
    rw [List.getElem?_map] at hu
    cases hj : (zs.take len)[j]? with
    | none => rw [hj] at hu; cases hu
    | some z =>
      rw [hj] at hu
      simp only [Option.map_some, Option.some.injEq] at hu
      have hjl := (List.getElem?_eq_some_iff.1 hj).1
      simp at hjl
      rw [List.getElem?_take_of_lt (by omega)] at hj
      have hmem : z ∈ zs := List.mem_of_getElem? hj
      obtain ⟨z0, z1⟩ := bounds_u8 (hwf z hmem)
      have h0 := hcell j (by omega)
      rw [List.getD_eq_getElem?_getD, hj] at h0
      have h2 := World.cell?_spot (hcell 0 (by omega))
      obtain ⟨b, off, spot⟩ := x
      have h3 : spot = none := by simpa [Addr.add] using h2
      subst h3
      rw [Addr.add_lit] at h0
      refine ⟨b, off, rfl, ?_⟩
      rw [h0]
      subst hu
      have : z.toNat.toUInt8.toNat = z.toNat := by simp; omega
      rw [this]
      simp
      omega
end Go.Proofs.Ytgimpolgagkffaa
