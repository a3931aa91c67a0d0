/- The document's queue: the walk of Take. No condition but sizes. -/
import Derived.Test.YtgimpolgagkffaaRf1
namespace Go.Proofs.Ytgimpolgagkffaa
open Go.RowKit

/-- append onto a row of the call's own, of any many, in a region that draws its order. -/
theorem step_append_base {P : Program} {ops : Array Oper} {o : Oper} {a : Act} {w : World} {K : Act → World → Prop} {Q : Exit → Act → World → Prop} {E : Prop}
    (hg : o.guard = none) (s x : Operand) (t : TypeId) (hop : o.op = Op.call { callee := Callee.builtin Builtin.append, args := #[s, x], argTypes := #[t, t] })
    (base : Nat) (e : TypeId) (i : TypeInfo) (z : Value) (size bytes : Nat) (h1 : P.underlying t = some (.slice e)) (h2 : P.info? e = some i) (h3 : i.zero = some z) (h4 : i.size = size) (h5 : i.bytes = bytes) (h6 : z.cells.size = size) (h7 : 0 < size)
    (v : Value) (n : Nat) (xs : List Value) (hs : a.eval s = v) (hown : w.ownsRow base e size v n xs)
    (ad : Addr) (m c : Nat) (news : List Value) (hx : a.eval x = .slice (some ad) m c) (hn : news.length = m * size) (hc : ∀ j u, news[j]? = some u → w.cell? (ad.add j) = some u) (h1c : ∀ u ∈ news, u.oneCell' = true)
    (b1 : n + m ≤ maxLen) (b2 : (n + m) * bytes ≤ 140737488355328) (hbase : base ≤ w.heap.size)
    (hK : ∀ v' w', w'.ownsRow base e size v' (n + m) (xs ++ news) → w.grownBy w' v.ownBlock → K (a.put o.dst v') w') :
    if Region.wanted o (yielded ops a.tmps) = true then Oper.wp P o a w K Q else E := by
  have hw : Region.wanted o (yielded ops a.tmps) = true := by simp [Region.wanted, hg]
  rw [if_pos hw]
  obtain ⟨v', w', hrun, r1, r2, _⟩ := run_append_own (P := P) w base t o.type e i z size bytes h1 h2 h3 h4 h5 h6 h7 v n xs hown ad m c news hn hc h1c b1 b2 hbase
  unfold Oper.wp
  simp [execOp, hop, resolve, invoke, builtin, hs, hx, hrun, Result.andThen]
  exact hK v' w' r1 r2

theorem info36 : ∃ i, Try.prog.info? 36 = some i ∧ i.zero = some (.agg #[.int .i64 0, .int .i64 0]) ∧ i.size = 2 ∧ i.bytes = 16 := by
  have h : (Try.prog.info? 36).map (fun i => (i.zero, i.size, i.bytes)) = some (some (.agg #[.int .i64 0, .int .i64 0]), 2, 16) := by kernel_rfl
  obtain ⟨i, hi, he⟩ := Option.map_eq_some_iff.1 h
  simp only [Prod.mk.injEq] at he
  exact ⟨i, hi, he⟩

theorem flat2_one (L : List En) : ∀ u ∈ flat2 L, u.oneCell' = true := fun u hu => by
  unfold flat2 at hu
  obtain ⟨l, hl, hu⟩ := List.mem_flatten.1 hu
  obtain ⟨x, _, rfl⟩ := List.mem_map.1 hl
  simp only [En.its, List.mem_cons, List.not_mem_nil, or_false] at hu
  rcases hu with rfl | rfl <;> rfl

/-- What Take leaves. -/
structure Tk (w w' : World) (r base : Nat) (E : List En) (v : Value) : Prop where
  rq : ∃ ao cap, RQ w' r base ao cap E ∧ v = .slice ao E.length cap
  new : ∀ k, v.ownBlock = some k → w.heap.size ≤ k
  keep : Keep w w' (· = r)

set_option maxRecDepth 100000 in
set_option maxHeartbeats 4000000 in
theorem take2_any (r base : Nat) (ao : Option Addr) (cap : Nat) (E : List En) (k : Nat) (w : World) (h : RQ w r base ao cap E) (hbase : base ≤ w.heap.size) (hk : k < E.length) (hm : E.length ≤ 1000000) :
    Calls Try.prog 11 #[.pointer (some ⟨r, 0, none⟩), .int .i64 (k : Int)] w fun e w' => e = .returned (.agg #[.int .i64 (nth E k).wt, .int .i64 (nth E k).num]) ∧ ∃ v, Tk w w' r base (E.take k ++ E.drop (k + 1)) v := by
  obtain ⟨b, rfl, lb, hc1, hc2, y0, y1⟩ := h.cells (i := k) hk
  have lr := h.blk.lt
  obtain ⟨n, HN⟩ : ∃ n, Hid (E.length = n) := ⟨_, rfl⟩
  obtain ⟨x, hx⟩ : ∃ x, nth E k = x := ⟨_, rfl⟩
  rw [hx] at y0 y1 ⊢
  obtain ⟨xw, xn, xt⟩ := x
  simp only at y0 y1 ⊢
  have c0 := h.blk.cell (j := 0) rfl
  rw [HN.out] at c0 hc1 hm hk
  obtain ⟨w1, hw1, hb1, P1, hs1⟩ := one_new w [.int .i64 0, .int .i64 0] 36
  obtain ⟨w2, hw2, hb2, P2, hs2⟩ := one_new w1 [.int .i64 xw, .int .i64 xn] 36
  have hb12 : Below w.heap.size w w2 := hb1.trans (hb2.mono hb1.size)
  have h2 := h.below hb12
  have c2 := h2.blk.cell (j := 0) rfl
  rw [HN.out] at c2
  have y0' := (hb1.cell (p := ⟨b, k * 2, none⟩) lb).trans y0
  have y1' := (hb1.cell (p := ⟨b, k * 2 + 1, none⟩) lb).trans y1
  have c1 := (h.below hb1).blk.cell (j := 0) rfl
  rw [HN.out] at c1
  have HW1 : Hid _ := hw1
  have HW2 : Hid _ := hw2
  have HX : Hid _ := hx
  clear hw1 hw2 hx
  go_enter Try.func11, Try.ntmps11
  go_wp2_with fail
  rw [HW1.out]
  go_wp2_with fail
  rw [HW2.out]
  obtain ⟨i36, hi36, hz36, hs36, hb36⟩ := info36
  have hb3 : Below w2.heap.size w2 (w2.drew.alloc (.cells #[] 36)) := ((Below.refl _ _).drew).alloc (Nat.le_refl _) _
  have h3 := h2.below hb3
  have c3 := h3.blk.cell (j := 0) rfl
  rw [HN.out] at c3
  have c3' : (w2.alloc (.cells #[] 36)).cell? ⟨r, 0, none⟩ = some (.slice (some ⟨b, 0, none⟩) n cap) := by have := (h2.blk.alloc (.cells #[] 36)).cell (j := 0) rfl; rwa [HN.out] at this
  have o3 : (w2.drew.alloc (.cells #[] 36)).ownsRow w2.heap.size 36 2 (.slice (some ⟨w2.heap.size, 0, none⟩) 0 0) 0 [] := ⟨rfl, .inr ⟨w2.heap.size, 0, #[], rfl, Nat.le_refl _, heap_alloc_new w2.drew _, Nat.le_refl _, by decide, rfl, rfl⟩⟩
  have src : ∀ (u : World), RQ u r base (some ⟨b, 0, none⟩) cap E → ∀ (o : Nat) (F : List En) (j : Nat) (x : Value), (∀ j, j < F.length * 2 → (flat2 E)[o + j]? = (flat2 F)[j]?) → (flat2 F)[j]? = some x → u.cell? ((⟨b, o, none⟩ : Addr).add j) = some x := fun u hu o F j x hF hj => by
    rw [Addr.add_lit]
    have hl := (List.getElem?_eq_some_iff.1 hj).1
    rw [flat2_length] at hl
    obtain ⟨g', e, _, _, _, _, hc⟩ := owns_cell hu.row ((hF j hl).trans hj)
    obtain rfl : b = g' := by simpa using e
    exact hc
  have hsplit : flat2 E = flat2 (E.take k) ++ flat2 (E.drop k) := by rw [← flat2_append, List.take_append_drop]
  have hsplit' : flat2 E = flat2 (E.take (k + 1)) ++ flat2 (E.drop (k + 1)) := by rw [← flat2_append, List.take_append_drop]
  have lt1 : (E.take k).length = k := by rw [List.length_take, HN.out]; omega
  have lt2 : (E.drop (k + 1)).length = n - (k + 1) := by rw [List.length_drop, HN.out]
  have lt3 : (E.take (k + 1)).length = k + 1 := by rw [List.length_take, HN.out]; omega
  have F1 : ∀ j, j < (E.take k).length * 2 → (flat2 E)[0 + j]? = (flat2 (E.take k))[j]? := fun j hj => by rw [hsplit, Nat.zero_add, List.getElem?_append_left (by rw [flat2_length]; exact hj)]
  have F2 : ∀ j, j < (E.drop (k + 1)).length * 2 → (flat2 E)[(k + 1) * 2 + j]? = (flat2 (E.drop (k + 1)))[j]? := fun j _ => by
    rw [hsplit', List.getElem?_append_right (by rw [flat2_length, lt3]; omega), flat2_length, lt3]; congr 1; omega
  have G1 : Hid (∀ u, RQ u r base (some ⟨b, 0, none⟩) cap E → ∀ j x, (flat2 (E.take k))[j]? = some x → u.cell? ((⟨b, 0, none⟩ : Addr).add j) = some x) := fun u hu j x hj => src u hu 0 _ j x F1 hj
  have G2 : Hid (∀ u, RQ u r base (some ⟨b, 0, none⟩) cap E → ∀ j x, (flat2 (E.drop (k + 1)))[j]? = some x → u.cell? ((⟨b, (k + 1) * 2, none⟩ : Addr).add j) = some x) := fun u hu j x hj => src u hu _ _ j x F2 hj
  have L1 : Hid _ := lt1
  have L2 : Hid _ := lt2
  clear src hsplit hsplit' lt1 lt2 lt3 F1 F2 y0 y1 c0
  have hwz : w.heap.size ≤ w2.heap.size := by omega
  have hkc : k ≤ cap := by omega
  have hk1n : k + 1 ≤ n := by omega
  have hk1c : k + 1 ≤ cap := by omega
  have hr1 : 0 ≤ (k : Int) + 1 := by omega
  have hr2 : (k : Int) + 1 ≤ (n : Int) := by omega
  have hwk : IntKind.i64.wrap ((k : Int) + 1) = ((k + 1 : Nat) : Int) := by simp [IntKind.wrap, IntKind.bits, IntKind.signed]; omega
  by_cases hcap : cap = k + 1
  · obtain rfl : n = k + 1 := by omega
    subst hcap
    have HD : Hid (E.drop (k + 1) = []) := List.eq_nil_of_length_eq_zero (by rw [L2.out]; omega)
    clear y0' y1' c1 hk1n hk1c hr2
    have hr2 : (k : Int) + 1 ≤ ((k + 1 : Nat) : Int) := by omega
    have hr3 : (k : Int) ≤ (k : Int) + 1 := by omega
    go_region_law (first
      | (refine step_append_base (by rfl) (.tmp 14) (.tmp 20) 27 (by rfl) w2.heap.size 36 i36 _ 2 16 Try.underlying27 hi36 hz36 hs36 hb36 (by rfl) (by decide) (.slice (some ⟨w2.heap.size, 0, none⟩) 0 0) 0 [] (by rfl) o3 ⟨b, 0, none⟩ k (k + 1) (flat2 (E.take k)) (by rfl) (by rw [flat2_length, L1.out]) (G1.out _ h3) (flat2_one _) (by unfold maxLen; omega) (by omega) (by simp) ?_; intro v4 w4 o4 g4; rw [Nat.zero_add, List.nil_append] at o4; obtain ⟨a4, cp4, rfl⟩ := slice_of o4; have k4 : Keep w2 w4 (· = w2.heap.size) := ((Keep.of_below hb3 (Nat.le_refl _)).trans ⟨g4.os, g4.tape, g4.output, g4.size, fun i hi hn => g4.block i hi (fun e => hn (by simp [Value.ownBlock] at e; exact e))⟩ (fun _ _ e => e)); have h4 := h2.keep k4 (by omega) (fun i e => by have := (owns_own h2.row e).2; omega); have c4 := h4.blk.cell (j := 0) rfl; rw [HN.out] at c4)
      | (refine step_append_base (by rfl) (.tmp 21) (.tmp 28) 27 (by rfl) w2.heap.size 36 i36 _ 2 16 Try.underlying27 hi36 hz36 hs36 hb36 (by rfl) (by decide) (.slice a4 k cp4) k (flat2 (E.take k)) (by rfl) o4 ⟨b, 0, none⟩ 0 0 [] (by rfl) (by rfl) (fun j u hj => by simp at hj) (fun u hu => by simp at hu) (by unfold maxLen; omega) (by omega) (by have := k4.size; omega) ?_; intro v5 w5 o5 g5; rw [Nat.add_zero, List.append_nil] at o5; obtain ⟨a5, cp5, rfl⟩ := slice_of o5; have B5 := h4.blk.carry (g5.block r h4.blk.lt (fun e => by have h9 := (owns_own o4 e.symm).1; omega)); have f5 := B5.frozen 0; have c5 := B5.cell (j := 0) rfl))
    all_goals
      have HFL : Hid (flat2 (E.take k ++ E.drop (k + 1)) = flat2 (E.take k)) := (show _ = _ by rw [HD.out, List.append_nil])
      have HLN : Hid ((E.take k ++ E.drop (k + 1)).length = k) := (show _ = _ by rw [HD.out, List.append_nil, L1.out])
      obtain ⟨w6, hw6, B6, K6⟩ : ∃ w6, w5.setCell ⟨r, 0, none⟩ (.slice a5 k cp5) = w6 ∧ Blk w6 r 29 [.slice a5 k cp5] ∧ Keep w5 w6 (· = r) := ⟨_, rfl, B5.set 0 _, (Keep.refl w5 (· = r)).setCell (g := r) (fun _ => rfl) _ _⟩
      rw [hw6]
      have HW6 : Hid _ := hw6
      clear hw6
      have k5 : Keep w4 w5 (fun i => (Value.slice a4 k cp4).ownBlock = some i) := Keep.of_grownS g5
      have nb : ∀ i, i < w2.heap.size → ¬ (Value.slice a4 k cp4).ownBlock = some i := fun i hi e => by have := (owns_own o4 e).1; omega
      have z1 : w1.heap.size = w.heap.size + 1 := by rw [← HW1.out]; simp
      have Q1 := (((P1.below hb2 P1.lt).keep k4 (by omega)).keep k5 (nb _ (by omega))).keep K6 (by omega)
      have Q2 := ((P2.keep k4 (by omega)).keep k5 (nb _ (by omega))).keep K6 (by omega)
      rw [z1] at Q2
      have o6 : w6.ownsRow w2.heap.size 36 2 (.slice a5 k cp5) k (flat2 (E.take k ++ E.drop (k + 1))) := by
        rw [HFL.out]
        exact owns_block o5 (fun i e => K6.block i (owns_own o5 e).2 (fun e' => by have := (owns_own o5 e).1; omega))
      have KK : Keep w w6 (· = r) := ((((Keep.of_below hb12 (Nat.le_refl _)).trans k4 (fun i hi e => by omega)).trans k5 (fun i hi e => absurd e (nb i (by omega)))).trans K6 (fun _ _ e => e))
      have hz6 : w2.heap.size ≤ w6.heap.size := Nat.le_trans k4.size (Nat.le_trans k5.size K6.size)
      have q0 := Q2.cell (j := 0) rfl
      have q1 := Q2.cell (j := 1) rfl
      have p0 := Q1.cell (j := 0) rfl
      have p1 := Q1.cell (j := 1) rfl
      have pf := Q1.frozen
      have e0 := ((Q1.set 0 (.int .i64 xw)).set 1 (.int .i64 xn)).cell (j := 0) rfl
      have e1 := ((Q1.set 0 (.int .i64 xw)).set 1 (.int .i64 xn)).cell (j := 1) rfl
      have K7 : Keep w6 ((w6.setCell ⟨w.heap.size, 0, none⟩ (.int .i64 xw)).setCell ⟨w.heap.size, 1, none⟩ (.int .i64 xn)) (· = w.heap.size) := ((Keep.refl w6 (· = w.heap.size)).setCell (g := w.heap.size) (fun _ => rfl) _ _).setCell (g := w.heap.size) (fun _ => rfl) _ _
      have FF : Hid (∃ v, Tk w ((w6.setCell ⟨w.heap.size, 0, none⟩ (.int .i64 xw)).setCell ⟨w.heap.size, 1, none⟩ (.int .i64 xn)) r base (E.take k ++ E.drop (k + 1)) v) := by
        have B7 := B6.keep K7 (by omega)
        have o7 := owns_block o6 (fun i e => K7.block i (owns_own o6 e).2 (fun e' => by have := (owns_own o6 e).1; omega))
        refine ⟨.slice a5 k cp5, ⟨a5, cp5, ⟨?_, ?_⟩, ?_⟩, fun i e => by have := (owns_own o6 e).1; omega, KK.trans K7 (fun i hi e => by omega)⟩
        · rw [HLN.out]; exact B7
        · rw [HLN.out]; exact owns_base o7 (fun i e => by have := (owns_own o7 e).1; omega)
        · rw [HLN.out]
      clear o3 h3 h2 P1 P2 B5 f5 c5 g4 g5 k4 k5 h4 o4 o5 o6 B6 K6 KK K7 nb Q1 Q2 c4
      go_wp2_with fail
      exact bodyPost_ret (v := .agg #[.int .i64 xw, .int .i64 xn]) (by simp [results, Try.results11, go_sem, e0, e1]) rfl ⟨rfl, FF.out⟩
  · have hcap' : k + 1 < cap := by omega
    clear y0' y1' c1
    go_region_law (first
      | (refine step_append_base (by rfl) (.tmp 14) (.tmp 20) 27 (by rfl) w2.heap.size 36 i36 _ 2 16 Try.underlying27 hi36 hz36 hs36 hb36 (by rfl) (by decide) (.slice (some ⟨w2.heap.size, 0, none⟩) 0 0) 0 [] (by rfl) o3 ⟨b, 0, none⟩ k cap (flat2 (E.take k)) (by rfl) (by rw [flat2_length, L1.out]) (G1.out _ h3) (flat2_one _) (by unfold maxLen; omega) (by omega) (by simp) ?_; intro v4 w4 o4 g4; rw [Nat.zero_add, List.nil_append] at o4; obtain ⟨a4, cp4, rfl⟩ := slice_of o4; have k4 : Keep w2 w4 (· = w2.heap.size) := ((Keep.of_below hb3 (Nat.le_refl _)).trans ⟨g4.os, g4.tape, g4.output, g4.size, fun i hi hn => g4.block i hi (fun e => hn (by simp [Value.ownBlock] at e; exact e))⟩ (fun _ _ e => e)); have h4 := h2.keep k4 (by omega) (fun i e => by have := (owns_own h2.row e).2; omega); have c4 := h4.blk.cell (j := 0) rfl; rw [HN.out] at c4)
      | (refine step_append_base (by rfl) (.tmp 21) (.tmp 28) 27 (by rfl) w2.heap.size 36 i36 _ 2 16 Try.underlying27 hi36 hz36 hs36 hb36 (by rfl) (by decide) (.slice a4 k cp4) k (flat2 (E.take k)) (by rfl) o4 ⟨b, (k + 1) * 2, none⟩ (n - (k + 1)) (cap - (k + 1)) (flat2 (E.drop (k + 1))) (by rfl) (by rw [flat2_length, L2.out]) (G2.out _ h4) (flat2_one _) (by unfold maxLen; omega) (by omega) (by have := k4.size; omega) ?_; intro v5 w5 o5 g5; obtain ⟨a5, cp5, rfl⟩ := slice_of o5; have B5 := h4.blk.carry (g5.block r h4.blk.lt (fun e => by have h9 := (owns_own o4 e.symm).1; omega)); have f5 := B5.frozen 0; have c5 := B5.cell (j := 0) rfl))
    all_goals
      have HFL : Hid (flat2 (E.take k ++ E.drop (k + 1)) = flat2 (E.take k) ++ flat2 (E.drop (k + 1))) := flat2_append _ _
      have HLN : Hid ((E.take k ++ E.drop (k + 1)).length = k + (n - (k + 1))) := (show _ = _ by rw [List.length_append, L1.out, L2.out])
      obtain ⟨w6, hw6, B6, K6⟩ : ∃ w6, w5.setCell ⟨r, 0, none⟩ (.slice a5 (k + (n - (k + 1))) cp5) = w6 ∧ Blk w6 r 29 [.slice a5 (k + (n - (k + 1))) cp5] ∧ Keep w5 w6 (· = r) := ⟨_, rfl, B5.set 0 _, (Keep.refl w5 (· = r)).setCell (g := r) (fun _ => rfl) _ _⟩
      rw [hw6]
      have HW6 : Hid _ := hw6
      clear hw6
      have k5 : Keep w4 w5 (fun i => (Value.slice a4 k cp4).ownBlock = some i) := Keep.of_grownS g5
      have nb : ∀ i, i < w2.heap.size → ¬ (Value.slice a4 k cp4).ownBlock = some i := fun i hi e => by have := (owns_own o4 e).1; omega
      have z1 : w1.heap.size = w.heap.size + 1 := by rw [← HW1.out]; simp
      have Q1 := (((P1.below hb2 P1.lt).keep k4 (by omega)).keep k5 (nb _ (by omega))).keep K6 (by omega)
      have Q2 := ((P2.keep k4 (by omega)).keep k5 (nb _ (by omega))).keep K6 (by omega)
      rw [z1] at Q2
      have o6 : w6.ownsRow w2.heap.size 36 2 (.slice a5 (k + (n - (k + 1))) cp5) (k + (n - (k + 1))) (flat2 (E.take k ++ E.drop (k + 1))) := by
        rw [HFL.out]
        exact owns_block o5 (fun i e => K6.block i (owns_own o5 e).2 (fun e' => by have := (owns_own o5 e).1; omega))
      have KK : Keep w w6 (· = r) := ((((Keep.of_below hb12 (Nat.le_refl _)).trans k4 (fun i hi e => by omega)).trans k5 (fun i hi e => absurd e (nb i (by omega)))).trans K6 (fun _ _ e => e))
      have hz6 : w2.heap.size ≤ w6.heap.size := Nat.le_trans k4.size (Nat.le_trans k5.size K6.size)
      have q0 := Q2.cell (j := 0) rfl
      have q1 := Q2.cell (j := 1) rfl
      have p0 := Q1.cell (j := 0) rfl
      have p1 := Q1.cell (j := 1) rfl
      have pf := Q1.frozen
      have e0 := ((Q1.set 0 (.int .i64 xw)).set 1 (.int .i64 xn)).cell (j := 0) rfl
      have e1 := ((Q1.set 0 (.int .i64 xw)).set 1 (.int .i64 xn)).cell (j := 1) rfl
      have K7 : Keep w6 ((w6.setCell ⟨w.heap.size, 0, none⟩ (.int .i64 xw)).setCell ⟨w.heap.size, 1, none⟩ (.int .i64 xn)) (· = w.heap.size) := ((Keep.refl w6 (· = w.heap.size)).setCell (g := w.heap.size) (fun _ => rfl) _ _).setCell (g := w.heap.size) (fun _ => rfl) _ _
      have FF : Hid (∃ v, Tk w ((w6.setCell ⟨w.heap.size, 0, none⟩ (.int .i64 xw)).setCell ⟨w.heap.size, 1, none⟩ (.int .i64 xn)) r base (E.take k ++ E.drop (k + 1)) v) := by
        have B7 := B6.keep K7 (by omega)
        have o7 := owns_block o6 (fun i e => K7.block i (owns_own o6 e).2 (fun e' => by have := (owns_own o6 e).1; omega))
        refine ⟨.slice a5 (k + (n - (k + 1))) cp5, ⟨a5, cp5, ⟨?_, ?_⟩, ?_⟩, fun i e => by have := (owns_own o6 e).1; omega, KK.trans K7 (fun i hi e => by omega)⟩
        · rw [HLN.out]; exact B7
        · rw [HLN.out]; exact owns_base o7 (fun i e => by have := (owns_own o7 e).1; omega)
        · rw [HLN.out]
      clear o3 h3 h2 P1 P2 B5 f5 c5 g4 g5 k4 k5 h4 o4 o5 o6 B6 K6 KK K7 nb Q1 Q2 c4
      go_wp2_with fail
      exact bodyPost_ret (v := .agg #[.int .i64 xw, .int .i64 xn]) (by simp [results, Try.results11, go_sem, e0, e1]) rfl ⟨rfl, FF.out⟩
end Go.Proofs.Ytgimpolgagkffaa
