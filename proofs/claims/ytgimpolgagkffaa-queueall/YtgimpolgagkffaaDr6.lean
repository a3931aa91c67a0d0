/- The walk of slices' DeleteFunc over a queue's row, with has of another row. No condition but sizes. -/
import Derived.Test.YtgimpolgagkffaaDr5
import Derived.Laws.IdiomCopy
namespace Go.Proofs.Ytgimpolgagkffaa
open Go.RowKit

theorem zero3_mem (n : Nat) : ∀ v ∈ (Builtin.zeroCells (Value.cells (.agg #[.int .i64 0, .int .i64 0, .int .i64 0])) n).toList, v = .int .i64 0 := by
  have h : Value.cells (.agg #[.int .i64 0, .int .i64 0, .int .i64 0]) = #[.int .i64 0, .int .i64 0, .int .i64 0] := rfl
  rw [h]
  intro v hv
  simp only [Builtin.zeroCells, Array.toList_map, List.mem_map] at hv
  obtain ⟨i, _, rfl⟩ := hv
  have h3 : i % 3 = 0 ∨ i % 3 = 1 ∨ i % 3 = 2 := by omega
  have hsz : (#[Value.int .i64 0, .int .i64 0, .int .i64 0] : Array Value).size = 3 := rfl
  rw [hsz]
  rcases h3 with e | e | e <;> rw [e] <;> rfl
theorem zero3_len (n : Nat) : (Builtin.zeroCells (Value.cells (.agg #[.int .i64 0, .int .i64 0, .int .i64 0])) n).toList.length = n * 3 := by
  have h : Value.cells (.agg #[.int .i64 0, .int .i64 0, .int .i64 0]) = #[.int .i64 0, .int .i64 0, .int .i64 0] := rfl
  rw [h]
  simp [Builtin.zeroCells]

theorem set_beyond (b : Nat) : ∀ (vs : List Value) (o : Nat) (w : World) (cap : Nat) (M : List En), Row w b cap M → M.length * 3 ≤ o → Row (w.setCells b o vs) b cap M ∧ Keep w (w.setCells b o vs) (· = b)
  | [], _, w, _, _, h, _ => ⟨h, Keep.refl _ _⟩
  | v :: r, o, w, cap, M, h, ho => by
    have h1 : Row (w.setCell ⟨b, o, none⟩ v) b cap M := by
      have := owns_set h o v
      rwa [List.set_eq_of_length_le (by rw [flat_length]; exact ho)] at this
    obtain ⟨h2, k2⟩ := set_beyond b r (o + 1) _ cap M h1 (by omega)
    exact ⟨h2, ((Keep.refl w (· = b)).setCell (g := b) (fun _ => rfl) _ _).trans k2 (fun _ _ e => e)⟩

theorem run_clear3 (w : World) (ty : TypeId) (b cap : Nat) (M : List En) (h : Row w b cap M) (i n cap2 : Nat) (hn : M.length = n) (hi : i < n) :
    ∃ w', (Builtin.clear_ #[49] ty #[.slice (some ⟨b, i * 3, none⟩) (n - i) cap2]).run Try.prog w = .ok (.tuple #[]) w' ∧ Row w' b cap (M.take i) ∧ Keep w w' (· = b) := by
  have hz : (zeroValue 57).run Try.prog w = .ok (.agg #[.int .i64 0, .int .i64 0, .int .i64 0]) w := Try.zeroValue57 w
  have hst := run_storeCells_cells (P := Try.prog) b (i * 3) (Builtin.zeroCells (Value.cells (.agg #[.int .i64 0, .int .i64 0, .int .i64 0])) (n - i)).toList 0 w
    (fun j hj => by
      rw [zero3_len] at hj
      have hl : (i * 3 + 0 + j) < (flat M).length := by rw [flat_length, hn]; omega
      obtain ⟨g, e, _, _, _, _, hc⟩ := owns_cell h (List.getElem?_eq_getElem hl)
      obtain rfl : b = g := by simpa using e
      rw [hc]; rfl)
    (fun j _ => h.frozen _) (fun v hv => by rw [zero3_mem _ v hv]; rfl)
  simp only [Nat.add_zero] at hst
  obtain ⟨h2, k2⟩ := set_beyond b (Builtin.zeroCells (Value.cells (.agg #[.int .i64 0, .int .i64 0, .int .i64 0])) (n - i)).toList (i * 3) w cap (M.take i) (h.cut i (by omega)) (by rw [List.length_take]; omega)
  refine ⟨_, ?_, h2, k2⟩
  obtain ⟨m, hm⟩ : ∃ m, n - i = m + 1 := ⟨n - i - 1, by omega⟩
  rw [hm] at hst ⊢
  simp [Builtin.clear_, run_underlying Try.underlying49, hz, hst]

theorem wpList_clear3 {ops : Array Oper} {rest : List Oper} {o : Oper} {a : Act} {w : World} {Q : Exit → Act → World → Prop}
    (hg : o.guard = none) (x : Operand) (hop : o.op = Op.call { callee := Callee.builtin Builtin.clear, args := #[x], argTypes := #[49] })
    (b cap : Nat) (M : List En) (h : Row w b cap M) (i n cap2 : Nat) (hx : a.eval x = .slice (some ⟨b, i * 3, none⟩) (n - i) cap2) (hn : M.length = n) (hi : i < n)
    (hK : ∀ w', Row w' b cap (M.take i) → Keep w w' (· = b) → wpList Try.prog ops Q rest (a.put o.dst (.tuple #[])) w') :
    wpList Try.prog ops Q (o :: rest) a w :=
  wpList_plain hg fun K hK' => by
    obtain ⟨w', hrun, r1, r2⟩ := run_clear3 w o.type b cap M h i n cap2 hn hi
    unfold Oper.wp
    simp [execOp, hop, resolve, invoke, builtin, hx, hrun, Result.andThen]
    exact hK' _ _ (hK w' r1 r2)
end Go.Proofs.Ytgimpolgagkffaa
