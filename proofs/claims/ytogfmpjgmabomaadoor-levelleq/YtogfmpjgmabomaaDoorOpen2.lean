/- What numbers, bytes, lists of levels that came in read as. No condition. -/
import Derived.Test.YtogfmpjgmabomaaDoorOpen
namespace Go.Proofs.YtogfmpjgmabomaaDoor
open Go.RowKit Go.Deep Go.WideShapes Go.ChangeShapes Go.ChangeAt

/-- The slice value is the bytes bs; they lie in blocks below B. -/
structure Bts (w : World) (B : Nat) (ao : Option Addr) (n cap : Nat) (bs : List Nat) : Prop where
  len : bs.length = n
  le : n ≤ cap
  max : cap ≤ 9223372036854775807
  get : ∀ (j x : Nat), bs[j]? = some x → x < 256 ∧ ∃ b off, ao = some ⟨b, off, none⟩ ∧ b < B ∧ w.cell? ⟨b, off + j, none⟩ = some (.int .u8 (x : Int))
theorem Bts.below {w w' : World} {B C : Nat} {ao : Option Addr} {n cap : Nat} {bs : List Nat} (h : Bts w B ao n cap bs) (hb : Below C w w') (hB : B ≤ C) : Bts w' B ao n cap bs :=
  ⟨h.len, h.le, h.max, fun j z hz => by
    obtain ⟨h0, b, off, h1, h2, h3⟩ := h.get j z hz
    exact ⟨h0, b, off, h1, h2, (hb.cell (p := ⟨b, off + j, none⟩) (Nat.lt_of_lt_of_le h2 hB)).trans h3⟩⟩

theorem addr0 {w : World} {x : Addr} {v : Value} (h : w.cell? (x.add 0) = some v) : ∃ b off, x = ⟨b, off, none⟩ := by
  obtain ⟨b, off, spot⟩ := x
  have h2 := World.cell?_spot h
  have h3 : spot = none := by simpa [Addr.add] using h2
  subst h3
  exact ⟨b, off, rfl⟩

theorem ints_of_row {H : Type} {enc : TypeId × Value → H} {W : World} {a : Option Addr} {len cap : Nat} {d : DataW H} {p : List MemPlace} (h : DataW.Trod enc Tryd.prog W 0 (fun _ => true) true 27 (.slice a len cap) d p) : ∃ zs, Ints W W.heap.size a len cap zs := by
  obtain ⟨fuel, hf⟩ := h
  rcases open_ints Tryd.underlying27 Tryd.underlying3 (by kernel_rfl) hf with ⟨hcs, _⟩ | ⟨x, l, c, zs, hcs, _, hl, hm, hz, _, hcell, hwz⟩
  · simp [Value.cells] at hcs
    obtain ⟨rfl, rfl, rfl⟩ := hcs
    exact ⟨[], Ints.none _ _⟩
  · simp [Value.cells] at hcs
    obtain ⟨rfl, rfl, rfl⟩ := hcs
    have hz' : zs.length = cap := by simpa using hz
    refine ⟨zs.take len, by simp; omega, hl, hm, fun j z hj => ?_⟩
    have hjl := (List.getElem?_eq_some_iff.1 hj).1
    simp at hjl
    rw [List.getElem?_take_of_lt (by omega)] at hj
    have h0 := hcell j (by omega)
    rw [List.getD_eq_getElem?_getD, hj] at h0
    obtain ⟨b, off, rfl⟩ := addr0 (hcell 0 (by omega))
    rw [Addr.add_lit] at h0
    exact ⟨b, off, rfl, World.block_lt_of_cell? W _ h0, h0⟩

theorem bts_of_row {H : Type} {enc : TypeId × Value → H} {W : World} {a : Option Addr} {len cap : Nat} {d : DataW H} {p : List MemPlace} (h : DataW.Trod enc Tryd.prog W 0 (fun _ => true) true 31 (.slice a len cap) d p) : ∃ bs, Bts W W.heap.size a len cap bs := by
  obtain ⟨fuel, hf⟩ := h
  rcases open_ints Tryd.underlying31 Tryd.underlying5 (by kernel_rfl) hf with ⟨hcs, _⟩ | ⟨x, l, c, zs, hcs, _, hl, hm, hz, _, hcell, hwz⟩
  · simp [Value.cells] at hcs
    obtain ⟨rfl, rfl, rfl⟩ := hcs
    exact ⟨[], rfl, Nat.le_refl _, by decide, fun j z hz => by simp at hz⟩
  · simp [Value.cells] at hcs
    obtain ⟨rfl, rfl, rfl⟩ := hcs
    have hz' : zs.length = cap := by simpa using hz
    refine ⟨(zs.take len).map Int.toNat, by simp; omega, hl, hm, fun j y hj => ?_⟩
    rw [List.getElem?_map] at hj
    cases hz0 : (zs.take len)[j]? with
    | none => rw [hz0] at hj; cases hj
    | some z =>
      rw [hz0] at hj
      simp only [Option.map_some, Option.some.injEq] at hj
      have hjl := (List.getElem?_eq_some_iff.1 hz0).1
      simp at hjl
      rw [List.getElem?_take_of_lt (by omega)] at hz0
      have h0 := hcell j (by omega)
      rw [List.getD_eq_getElem?_getD, hz0] at h0
      obtain ⟨b, off, rfl⟩ := addr0 (hcell 0 (by omega))
      rw [Addr.add_lit] at h0
      obtain ⟨z0, z1⟩ := bounds_u8 (hwz z (List.mem_of_getElem? hz0))
      subst hj
      have he : ((z.toNat : Nat) : Int) = z := by omega
      refine ⟨by omega, b, off, rfl, World.block_lt_of_cell? W _ h0, ?_⟩
      rw [he]; exact h0

theorem lvs_of_row {H : Type} {enc : TypeId × Value → H} {W : World} {a : Option Addr} {len cap : Nat} {d : DataW H} {p : List MemPlace} (h : DataW.Trod enc Tryd.prog W 0 (fun _ => true) true 22 (.slice a len cap) d p) : ∃ Ls : List Lv, Ls.length = len ∧ Node W (· < W.heap.size) 0 0 Ls a cap := by
  obtain ⟨fuel, hf⟩ := h
  rcases DataW.trod_slice Tryd.underlying22 hf with ⟨e, _⟩ | ⟨x, l, c, elems, rest, n', hn', e, _, _, hlc, hcm, hel, hall, _, _⟩
  · simp [Value.cells] at e
    obtain ⟨rfl, rfl, rfl⟩ := e
    exact ⟨[], rfl, by omega, by omega, by omega, by omega, by simp, by omega, .inl rfl⟩
  · simp [Value.cells] at e
    obtain ⟨rfl, rfl, rfl⟩ := e
    obtain ⟨args, hal, hargs⟩ := rows_of_trod hall hel (fun cs x h => lv_of_trod n' cs x h)
    refine ⟨args, hal, by omega, by omega, by omega, by omega, by omega, hcm, ?_⟩
    rcases hargs with h0 | ⟨b, off, rfl, hb, hin⟩
    · exact .inl h0
    · exact .inr ⟨b, off, rfl, hb, hin⟩

theorem arr_of_row {H : Type} {enc : TypeId × Value → H} {W : World} {r : Reach} {base : Nat} {v : Value} {d : DataW H} {p : List MemPlace} (hv : Value.okWide Tryd.prog W r base 38 v) (h : DataW.Trod enc Tryd.prog W 0 (fun _ => true) true 38 v d p) :
    ∃ x0 x1 x2 x3 : Int, v = .agg #[.int .i64 x0, .int .i64 x1, .int .i64 x2, .int .i64 x3] ∧ ∀ x ∈ [x0, x1, x2, x3], -9223372036854775808 ≤ x ∧ x ≤ 9223372036854775807 := by
  obtain ⟨fuel, hf⟩ := h
  have hw : ∃ cs, v = .agg cs := by
    simp only [Value.okWide, Tryd.underlying38] at hv
    obtain ⟨cs, h1, _⟩ := hv
    exact ⟨cs, h1⟩
  obtain ⟨⟨cs⟩, rfl⟩ := hw
  obtain ⟨xs, n, _, _, hl, hlen, hx⟩ := DataW.trod_array Tryd.underlying38 hf
  rw [show Tryd.prog.cellsOf 38 = 4 by kernel_rfl] at hl
  rw [cells3] at hx
  have hl' : cs.length = 4 := by simpa [Value.cells] using hl
  have one : ∀ i, i < 4 → ∃ z, cs[i]? = some (.int .i64 z) ∧ (-9223372036854775808 ≤ z ∧ z ≤ 9223372036854775807) := fun i hi => by
    have h1 := hx i hi
    rw [List.getElem?_eq_getElem (show i < xs.length by omega)] at h1
    obtain ⟨z, e, _, wz⟩ := DataW.trod_int Tryd.underlying3 h1
    refine ⟨z, ?_, bounds64 wz⟩
    have e2 := congrArg (fun l => l[0]?) e
    simpa [Value.cells] using e2
  obtain ⟨x0, e0, b0⟩ := one 0 (by decide)
  obtain ⟨x1, e1, b1⟩ := one 1 (by decide)
  obtain ⟨x2, e2, b2⟩ := one 2 (by decide)
  obtain ⟨x3, e3, b3⟩ := one 3 (by decide)
  match cs, hl', e0, e1, e2, e3 with
  | [c0, c1, c2, c3], _, e0, e1, e2, e3 =>
    simp only [List.getElem?_cons_zero, List.getElem?_cons_succ, Option.some.injEq] at e0 e1 e2 e3
    subst e0 e1 e2 e3
    refine ⟨x0, x1, x2, x3, rfl, fun x hx => ?_⟩
    simp at hx
    rcases hx with rfl | rfl | rfl | rfl
    · exact b0
    · exact b1
    · exact b2
    · exact b3
end Go.Proofs.YtogfmpjgmabomaaDoor
