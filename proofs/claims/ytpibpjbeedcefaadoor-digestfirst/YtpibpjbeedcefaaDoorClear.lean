/- The builtin clear on a piece of a block that is known whole; what a copy into it leaves. Of no program. -/
import Derived.Test.YtpibpjbeedcefaaDoorMix
import Derived.Deep.RegionLaw
namespace Go.Proofs.YtpibpjbeedcefaaDoor
open Go.RowKit

theorem setCells_grown (w : World) (g o : Nat) (vs : List Value) : w.grownBy (w.setCells g o vs) (some g) :=
  ⟨(below_setCells (Below.refl 0 w) g (Nat.zero_le _) vs o).os, (below_setCells (Below.refl 0 w) g (Nat.zero_le _) vs o).tape, (below_setCells (Below.refl 0 w) g (Nat.zero_le _) vs o).output, by rw [setCells_size]; exact Nat.le_refl _, fun k _ hk => setCells_heap g _ _ _ k (fun e => hk (by rw [e]))⟩

theorem zeroCells_list (n : Nat) : (Builtin.zeroCells (Value.cells (.int .u8 0)) n).toList = List.replicate n (.int .u8 0) := by
  have h : Value.cells (.int .u8 0) = #[.int .u8 0] := rfl
  rw [h]
  apply List.ext_getElem
  · simp [Builtin.zeroCells]
  · intro i h1 h2
    have : i % 1 = 0 := Nat.mod_one i
    simp [Builtin.zeroCells, this]

section
variable {P : Program}
theorem run_clear (w : World) (t e ty : TypeId) (ht : P.underlying t = some (.slice e)) (hz : (zeroValue e).run P w = .ok (.int .u8 0) w) (g off n cap : Nat) (tt : TypeId) (cur : List Value) (hb : Blk w g tt cur) (hfit : off + n ≤ cur.length) (ao : Option Addr) (hao : 0 < n → ao = some ⟨g, off, none⟩) :
    ∃ w', (Builtin.clear_ #[t] ty #[.slice ao n cap]).run P w = .ok (.tuple #[]) w' ∧ Blk w' g tt (splice cur off (List.replicate n (.int .u8 0))) ∧ w.grownBy w' (some g) := by
  by_cases h0 : n = 0
  · subst h0
    refine ⟨w, ?_, by rw [List.replicate_zero, splice_nil]; exact hb, grown_refl _ _⟩
    cases ao <;> simp [Builtin.clear_, run_underlying ht]
  · obtain rfl := hao (by omega)
    have hth := hb.there off n hfit
    have hst := run_storeCells_cells (P := P) g off (List.replicate n (.int .u8 0)) 0 w (fun j hj => by simpa using (hth j (by simpa using hj)).1) (fun j hj => by simpa using (hth j (by simpa using hj)).2) (fun v hv => by rw [(List.mem_replicate.1 hv).2]; rfl)
    refine ⟨w.setCells g off (List.replicate n (.int .u8 0)), ?_, Blk.setCells _ _ _ _ hb (by simpa using hfit), setCells_grown _ _ _ _⟩
    obtain ⟨m, rfl⟩ : ∃ m, n = m + 1 := ⟨n - 1, by omega⟩
    simp only [Nat.add_zero] at hst
    simp [Builtin.clear_, run_underlying ht, hz, zeroCells_list, hst]

theorem step_clear {ops : Array Oper} {o : Oper} {a : Act} {w : World} {K : Act → World → Prop} {Q : Exit → Act → World → Prop} {E : Prop} (hgd : o.guard = none) (d : Operand) (t : TypeId)
    (ho : o.op = .call { callee := .builtin .clear, args := #[d], argTypes := #[t] }) (e : TypeId) (ht : P.underlying t = some (.slice e)) (hz : ∀ w, (zeroValue e).run P w = .ok (.int .u8 0) w)
    (ao : Option Addr) (n cap : Nat) (hd : a.eval d = .slice ao n cap) (g off : Nat) (tt : TypeId) (cur : List Value) (hb : Blk w g tt cur) (hfit : off + n ≤ cur.length) (hao : 0 < n → ao = some ⟨g, off, none⟩)
    (h : ∀ w', Blk w' g tt (splice cur off (List.replicate n (.int .u8 0))) → w.grownBy w' (some g) → K (a.put o.dst (.tuple #[])) w') :
    if Region.wanted o (yielded ops a.tmps) = true then Oper.wp P o a w K Q else E := by
  have hw : Region.wanted o (yielded ops a.tmps) = true := by simp [Region.wanted, hgd]
  rw [if_pos hw]
  obtain ⟨w', hrun, h1, h2⟩ := run_clear (P := P) w t e o.type ht (hz w) g off n cap tt cur hb hfit ao hao
  unfold Oper.wp
  simp [execOp, ho, resolve, invoke, builtin, hd, hrun, Result.andThen]
  exact h w' h1 h2
end

theorem zero5 (w : World) : (zeroValue 5).run Tryd.prog w = .ok (.int .u8 0) w := by
  obtain ⟨i5, hi, hz0, _, _⟩ := info_parts Tryd.info5
  simp [zeroValue, typeInfo, hi, hz0]

/-- Bytes written over others, from a place on. -/
def put (blk : List UInt8) (o : Nat) (cs : List UInt8) : List UInt8 := splice blk o cs

theorem splice_mid {α : Type} (a b c vs : List α) (o : Nat) (h : o + vs.length ≤ b.length) : splice (a ++ (b ++ c)) (a.length + o) vs = a ++ (splice b o vs ++ c) := by
  unfold splice
  rw [List.take_append, List.take_append, List.drop_append, List.drop_append]
  simp only [Nat.add_sub_cancel_left, show a.length + o + vs.length - a.length = o + vs.length by omega]
  rw [List.take_of_length_le (show a.length ≤ a.length + o by omega), List.drop_eq_nil_of_le (show a.length ≤ a.length + o + vs.length by omega), show o - b.length = 0 by omega, List.take_zero, show o + vs.length - b.length = 0 by omega, List.drop_zero]
  simp
theorem splice_map {α β : Type} (f : α → β) (b vs : List α) (o : Nat) : splice (b.map f) o (vs.map f) = (splice b o vs).map f := by
  unfold splice
  simp
theorem splice_length {α : Type} (b vs : List α) (o : Nat) (h : o + vs.length ≤ b.length) : (splice b o vs).length = b.length := by
  unfold splice
  simp
  omega

/-- Bytes written into a state's block. -/
theorem St.splice {w w' : World} {g : Nat} {v : V8} {blk : List UInt8} {held len : Nat} (h : St w g v blk held len) (o : Nat) (cs : List UInt8) (ho : o + cs.length ≤ 64) (hb : Blk w' g 49 (splice (stCells v blk held len) (8 + o) (cs.map bval))) : St w' g v (put blk o cs) held len := by
  refine ⟨?_, h.ok, by unfold put; rw [splice_length _ _ _ (by rw [h.l64]; exact ho)]; exact h.l64⟩
  have e := splice_mid (u32s v.list) (blk.map bval) [.int .i64 (held : Int), .int .u64 (len : Int)] (cs.map bval) o (by simp [h.l64]; exact ho)
  rw [u32s_length, V8.list_length, splice_map] at e
  unfold stCells at hb ⊢
  rw [e] at hb
  exact hb
end Go.Proofs.YtpibpjbeedcefaaDoor
