/- The walks of slices.Clone at a row, and of a Queue's Copy, Pop and Drop of no function. No condition but sizes. -/
import Derived.Test.YtgimpolgagkffaaQs
namespace Go.Proofs.Ytgimpolgagkffaa
open Go.RowKit

/-- append onto a row of the call's own, for the walk. -/
theorem wpList_append_two {P : Program} {ops : Array Oper} {rest : List Oper} {o : Oper} {a : Act} {w : World} {Q : Exit → Act → World → Prop}
    (hg : o.guard = none) (s x : Operand) (t : TypeId) (hop : o.op = Op.call { callee := Callee.builtin Builtin.append, args := #[s, x], argTypes := #[t, t] })
    (base : Nat) (e : TypeId) (i : TypeInfo) (z : Value) (size bytes : Nat) (h1 : P.underlying t = some (.slice e)) (h2 : P.info? e = some i) (h3 : i.zero = some z) (h4 : i.size = size) (h5 : i.bytes = bytes) (h6 : z.cells.size = size) (h7 : 0 < size)
    (v : Value) (n : Nat) (xs : List Value) (hs : a.eval s = v) (hown : w.ownsRow base e size v n xs)
    (ad : Addr) (m c : Nat) (news : List Value) (hx : a.eval x = .slice (some ad) m c) (hn : news.length = m * size) (hc : ∀ j u, news[j]? = some u → w.cell? (ad.add j) = some u) (h1c : ∀ u ∈ news, u.oneCell' = true)
    (b1 : n + m ≤ maxLen) (b2 : (n + m) * bytes ≤ 140737488355328) (hbase : base ≤ w.heap.size)
    (hm : 0 < m) (hK : ∀ v' w', w'.ownsRow base e size v' (n + m) (xs ++ news) → w.grownBy w' v.ownBlock → (v'.ownBlock = v.ownBlock ∨ ∃ b, v'.ownBlock = some b ∧ w.heap.size ≤ b) → wpList P ops Q rest (a.put o.dst v') w') :
    wpList P ops Q (o :: rest) a w :=
  wpList_plain hg fun K hK' => by
    obtain ⟨v', w', hrun, r1, r2, r3⟩ := run_append_two (P := P) w base t o.type e i z size bytes h1 h2 h3 h4 h5 h6 h7 v n xs hown ad m c news hn hc h1c b1 b2 hbase hm
    unfold Oper.wp
    simp [execOp, hop, resolve, invoke, builtin, hs, hx, hrun, Result.andThen]
    exact hK' _ _ (hK v' w' r1 r2 r3)


theorem flat_one (L : List En) : ∀ u ∈ flat L, u.oneCell' = true := fun u hu => by
  unfold flat at hu
  obtain ⟨l, hl, hu⟩ := List.mem_flatten.1 hu
  obtain ⟨x, _, rfl⟩ := List.mem_map.1 hl
  simp only [En.vals, List.mem_cons, List.not_mem_nil, or_false] at hu
  rcases hu with rfl | rfl | rfl <;> rfl

theorem eqnil_no (a : Addr) (n cap : Nat) (w : World) : Sem.run Try.prog (binOp BinOp.eql 49 (.slice (some a) n cap) (.slice none 0 0)) w = .ok (.bool false) w := by kernel_rfl
theorem eqnil_yes (w : World) : Sem.run Try.prog (binOp BinOp.eql 49 (.slice none 0 0) (.slice none 0 0)) w = .ok (.bool true) w := by kernel_rfl

set_option maxRecDepth 100000 in
set_option maxHeartbeats 1000000 in
theorem clone_nil (w : World) : Calls Try.prog 23 #[.slice none 0 0] w fun e w' => e = .returned (.slice none 0 0) ∧ w = w' := by
  have en := eqnil_yes
  go_enter Try.func23, Try.ntmps23
  go_wp2_with fail
  go_ret
  exact ⟨rfl, rfl⟩

set_option maxRecDepth 100000 in
set_option maxHeartbeats 1000000 in
theorem clone_none (b cap : Nat) (w : World) : Calls Try.prog 23 #[.slice (some ⟨b, 0, none⟩) 0 cap] w fun e w' => ∃ v, e = .returned v ∧ w'.ownsRow 0 57 3 v 0 [] ∧ (∀ k, v.ownBlock = some k → w.heap.size ≤ k) ∧ Below w.heap.size w w' := by
  have en := eqnil_no
  go_enter Try.func23, Try.ntmps23
  go_wp2_with fail
  go_ret
  exact ⟨_, rfl, ⟨rfl, .inr ⟨w.heap.size, 0, #[], rfl, Nat.zero_le _, heap_alloc_new w _, Nat.le_refl _, by decide, rfl, rfl⟩⟩, fun k e => by simp [Value.ownBlock] at e; omega, (Below.refl _ _).alloc (Nat.le_refl _) _⟩

set_option maxRecDepth 100000 in
set_option maxHeartbeats 1000000 in
theorem clone_some (b cap : Nat) (L : List En) (w : World) (h : Row w b cap L) (h0 : 0 < L.length) (hm : L.length ≤ 1000000) : Calls Try.prog 23 #[.slice (some ⟨b, 0, none⟩) L.length cap] w fun e w' => ∃ v, e = .returned v ∧ w'.ownsRow 0 57 3 v L.length (flat L) ∧ (∀ k, v.ownBlock = some k → w.heap.size ≤ k) ∧ Below w.heap.size w w' := by
  have en := eqnil_no
  obtain ⟨i57, hi57, hz57, hs57, hb57⟩ := info57
  obtain ⟨w1, hw1, hb1, hs1⟩ : ∃ w1, w.alloc (.cells #[] 57) = w1 ∧ Below w.heap.size w w1 ∧ w1.heap.size = w.heap.size + 1 := ⟨_, rfl, (Below.refl _ _).alloc (Nat.le_refl _) _, by simp⟩
  have o1 : w1.ownsRow w.heap.size 57 3 (.slice (some ⟨w.heap.size, 0, none⟩) 0 0) 0 [] := ⟨rfl, .inr ⟨w.heap.size, 0, #[], rfl, Nat.le_refl _, by rw [← hw1]; exact heap_alloc_new w _, Nat.le_refl _, by decide, rfl, rfl⟩⟩
  have h1 := h.below hb1 h.lt
  have hbl : w.heap.size ≤ w1.heap.size := by omega
  have hnw : ∀ j u, (flat L)[j]? = some u → w1.cell? ((⟨b, 0, none⟩ : Addr).add j) = some u := fun j u hj => by
    rw [Addr.add_lit, Nat.zero_add]
    obtain ⟨g', e, _, _, _, _, hc⟩ := owns_cell h1 hj
    obtain rfl : b = g' := by simpa using e
    exact hc
  have HS : Hid _ := hs1
  clear hs1
  go_enter Try.func23, Try.ntmps23
  go_wp2_with (at_builtin; go_loud (refine wpList_append_two (P := Try.prog) (by rfl) (.tmp 5) (.tmp 6) 49 (by rfl) w.heap.size 57 i57 _ 3 24 Try.underlying49 hi57 hz57 hs57 hb57 (by rfl) (by decide) (.slice (some ⟨w.heap.size, 0, none⟩) 0 0) 0 [] (by rfl) o1 ⟨b, 0, none⟩ L.length cap (flat L) (by rfl) (flat_length L) hnw (flat_one L) (by unfold maxLen; omega) (by omega) hbl h0 ?_; intro v' w2 ho2 hg2 hw2))
  go_ret
  refine ⟨_, rfl, by rw [Nat.zero_add, List.nil_append] at ho2; exact owns_base ho2 (fun _ _ => Nat.zero_le _), fun k e => (owns_own ho2 e).1, hb1.trans ?_⟩
  exact ⟨hg2.os, hg2.tape, hg2.output, hg2.size, fun k hk => hg2.block k (by omega) (by simp [Value.ownBlock]; omega)⟩
end Go.Proofs.Ytgimpolgagkffaa
