/- The document's places: lists of lists of numbers in memory. No condition. -/
import Derived.Test.YtogfmpjgmabomaaDoorREq
import Derived.Test.YtogfmpjgmabomaaDoorFree
import Derived.Test.YtogfmpjgmabomaaDoorMath
import Derived.Laws.OwnMore
namespace Go.Proofs.YtogfmpjgmabomaaDoor
open Go.RowKit

def q3 (k : Nat) : Int := if k = 0 then 0 else if k = 1 then 1 else 1000
def tri (p : List Int) : List (List Int) := [p ++ [0], p ++ [1], p ++ [1000]]
theorem tri_take (p : List Int) {k : Nat} (h : k < 3) : (tri p).take (k + 1) = (tri p).take k ++ [p ++ [q3 k]] := by
  match k, h with
  | 0, _ => rfl
  | 1, _ => rfl
  | 2, _ => rfl
def pls : Nat → List (List Int)
  | 0 => [[]]
  | n + 1 => (pls n).flatMap tri
theorem tri_len (l : List (List Int)) : (l.flatMap tri).length = 3 * l.length := by
  induction l with
  | nil => rfl
  | cons x r ih => rw [List.flatMap_cons, List.length_append, ih]; simp [tri]; omega
theorem pls_len (n : Nat) : (pls n).length = 3 ^ n := by
  induction n with
  | zero => rfl
  | succ n ih => rw [pls, tri_len, ih, Nat.pow_succ, Nat.mul_comm]
theorem pls_each (n : Nat) : ∀ p ∈ pls n, p.length = n := by
  induction n with
  | zero => intro p hp; simp [pls] at hp; subst hp; rfl
  | succ n ih =>
    intro p hp
    rw [pls, List.mem_flatMap] at hp
    obtain ⟨q, hq, hp⟩ := hp
    have := ih q hq
    simp only [tri, List.mem_cons, List.not_mem_nil, or_false] at hp
    rcases hp with rfl | rfl | rfl <;> simp [this]
theorem take_tri {l : List (List Int)} {i : Nat} {p : List Int} (h : l[i]? = some p) : (l.take (i + 1)).flatMap tri = (l.take i).flatMap tri ++ tri p := by
  have hi := (List.getElem?_eq_some_iff.1 h).1
  rw [List.take_succ_eq_append_getElem hi, (List.getElem?_eq_some_iff.1 h).2, List.flatMap_append]
  simp

def nums (ps : List Int) : List Value := ps.map fun z => .int .i64 z
theorem nums_len (ps : List Int) : (nums ps).length = ps.length := by simp [nums]
theorem nums_get {ps : List Int} {j : Nat} {z : Int} (h : ps[j]? = some z) : (nums ps)[j]? = some (.int .i64 z) := by simp [nums, h]

/-- A row of numbers, nil where it is empty. -/
def IntsT (w : World) (B : Nat) (a : Option Addr) (m c : Nat) (ps : List Int) : Prop :=
  m = ps.length ∧ m ≤ c ∧ c ≤ maxLen ∧ ((ps = [] ∧ a = none ∧ c = 0) ∨ (ps ≠ [] ∧ ∃ g cur, a = some ⟨g, 0, none⟩ ∧ B ≤ g ∧ w.heap[g]? = some (.cells cur 3 (0, 0)) ∧ ∀ (j : Nat) (z : Int), ps[j]? = some z → cur[j]? = some (Value.int .i64 z)))
theorem IntsT.carry {w w' : World} {B : Nat} {a : Option Addr} {m c : Nat} {ps : List Int} (h : IntsT w B a m c ps) (hb : ∀ b cur, B ≤ b → b < w.heap.size → w.heap[b]? = some (.cells cur 3 (0, 0)) → w'.heap[b]? = w.heap[b]?) : IntsT w' B a m c ps := by
  obtain ⟨h1, h2, h3, h4⟩ := h
  refine ⟨h1, h2, h3, ?_⟩
  rcases h4 with h4 | ⟨h4, g, cur, e, hB, hg, hc⟩
  · exact .inl h4
  · exact .inr ⟨h4, g, cur, e, hB, (hb g cur hB (Array.getElem?_eq_some_iff.1 hg).1 hg).trans hg, hc⟩
theorem IntsT.ints {w : World} {B : Nat} {a : Option Addr} {m c : Nat} {ps : List Int} (h : IntsT w B a m c ps) : Ints w w.heap.size a m c ps := by
  obtain ⟨h1, h2, h3, h4⟩ := h
  refine ⟨h1.symm, h2, h3, fun j z hz => ?_⟩
  rcases h4 with ⟨rfl, _⟩ | ⟨_, g, cur, e, _, hg, hc⟩
  · simp at hz
  · refine ⟨g, 0, e, (Array.getElem?_eq_some_iff.1 hg).1, ?_⟩
    rw [Nat.zero_add, cell_of_row w g j cur 3 (0, 0) hg]
    exact hc j z hz
/-- A row of the call's own is such a row. -/
theorem IntsT.of_own {w : World} {B C : Nat} {v : Value} {n : Nat} {ps : List Int} (h : w.ownsRow C 3 1 v n (nums ps)) (hBC : B ≤ C) (hn : ps ≠ []) (hl : n = ps.length) : ∃ a c, v = .slice a n c ∧ IntsT w B a n c ps := by
  have hpos : 0 < ps.length := List.length_pos_iff.2 hn
  rcases h.2 with ⟨_, h0⟩ | ⟨g, cap, cur, rfl, hb, hg, h1, h2, h3, h4⟩
  · omega
  · refine ⟨_, cap, rfl, hl, h1, h2, .inr ⟨hn, g, cur, rfl, by omega, hg, fun j z hz => ?_⟩⟩
    have hj := (List.getElem?_eq_some_iff.1 hz).1
    have := nums_get hz
    rw [← h4, List.getElem?_take_of_lt (by omega)] at this
    simpa using this

/-- append onto a row of the call's own, of any such row. -/
theorem run_append_ints {w : World} {base B : Nat} {ty : TypeId} {v : Value} {n : Nat} {xs : List Value} (hown : w.ownsRow base 3 1 v n xs) {a : Option Addr} {m c : Nat} {ps : List Int} (h : IntsT w B a m c ps) (hn : n + m ≤ 1000) (hbase : base ≤ w.heap.size) :
    ∃ v' w', (Builtin.append_ #[27, 27] ty #[v, .slice a m c]).run Tryd.prog w = .ok v' w' ∧ w'.ownsRow base 3 1 v' (n + m) (xs ++ nums ps) ∧ w.grownBy w' v.ownBlock := by
  obtain ⟨i, hi, hz, hs, hb⟩ : ∃ i, Tryd.prog.info? 3 = some i ∧ i.zero = some (.int .i64 0) ∧ i.size = 1 ∧ i.bytes = 8 := by
    have h : (Tryd.prog.info? 3).map (fun i => (i.zero, i.size, i.bytes)) = some (some (.int .i64 0), 1, 8) := by kernel_rfl
    obtain ⟨i, hi, he⟩ := Option.map_eq_some_iff.1 h
    simp only [Prod.mk.injEq] at he
    exact ⟨i, hi, he⟩
  obtain ⟨h1, h2, h3, h4⟩ := h
  rcases h4 with ⟨rfl, rfl, rfl⟩ | ⟨hne, g, cur, rfl, hB, hg, hc⟩
  · obtain rfl : m = 0 := by simpa using h1
    refine ⟨v, w, run_append_owned_none w base 27 ty 3 i 1 Tryd.underlying27 hi v n xs hown, ?_, ⟨rfl, rfl, rfl, Nat.le_refl _, fun _ _ _ => rfl⟩⟩
    simpa [nums] using hown
  · obtain ⟨v', w', r1, r2, r3, _⟩ := run_append_own (P := Tryd.prog) w base 27 ty 3 i (.int .i64 0) 1 8 Tryd.underlying27 hi hz hs hb (by rfl) (by decide) v n xs hown ⟨g, 0, none⟩ m c (nums ps) (by rw [nums_len, ← h1, Nat.mul_one]) (fun j u hu => by
        rw [Addr.add_lit, Nat.zero_add, cell_of_row w g j cur 3 (0, 0) hg]
        simp only [nums, List.getElem?_map, Option.map_eq_some_iff] at hu
        obtain ⟨z, hz, rfl⟩ := hu
        exact hc j z hz) (by intro u hu; simp only [nums, List.mem_map] at hu; obtain ⟨z, _, rfl⟩ := hu; rfl) (by unfold maxLen; omega) (by omega) hbase
    exact ⟨v', w', r1, r2, r3⟩

/-- append, in a region that draws its order, by what it comes to. -/
theorem step_append_run {P : Program} {ops : Array Oper} {o : Oper} {a : Act} {w : World} {K : Act → World → Prop} {Q : Exit → Act → World → Prop} {E : Prop}
    (hg : o.guard = none) (s x : Operand) (t : TypeId) (hop : o.op = Op.call { callee := Callee.builtin Builtin.append, args := #[s, x], argTypes := #[t, t] }) {v u : Value} (hs : a.eval s = v) (hx : a.eval x = u)
    {v' : Value} {w' : World} (hrun : (Builtin.append_ #[t, t] o.type #[v, u]).run P w = .ok v' w') (hK : K (a.put o.dst v') w') :
    if Region.wanted o (yielded ops a.tmps) = true then Oper.wp P o a w K Q else E := by
  have hw : Region.wanted o (yielded ops a.tmps) = true := by simp [Region.wanted, hg]
  rw [if_pos hw]
  unfold Oper.wp
  simp [execOp, hop, resolve, invoke, builtin, hs, hx, hrun, Result.andThen]
  exact hK

/-- append of a row of numbers, in a region that draws its order. -/
theorem step_append_ints {ops : Array Oper} {o : Oper} {a : Act} {w : World} {K : Act → World → Prop} {Q : Exit → Act → World → Prop} {E : Prop}
    (hg : o.guard = none) (s x : Operand) (hop : o.op = Op.call { callee := Callee.builtin Builtin.append, args := #[s, x], argTypes := #[27, 27] }) (base B : Nat) (v : Value) (n : Nat) (xs : List Value) (hs : a.eval s = v) (hown : w.ownsRow base 3 1 v n xs)
    (ad : Option Addr) (m c : Nat) (ps : List Int) (hx : a.eval x = .slice ad m c) (h : IntsT w B ad m c ps) (hn : n + m ≤ 1000) (hbase : base ≤ w.heap.size)
    (hK : ∀ v' w', w'.ownsRow base 3 1 v' (n + m) (xs ++ nums ps) → w.grownBy w' v.ownBlock → K (a.put o.dst v') w') :
    if Region.wanted o (yielded ops a.tmps) = true then Oper.wp Tryd.prog o a w K Q else E := by
  obtain ⟨v', w', hrun, r1, r2⟩ := run_append_ints (ty := o.type) hown h hn hbase
  exact step_append_run hg s x 27 hop hs hx hrun (hK v' w' r1 r2)

theorem wp_append_ints {o : Oper} {a : Act} {w : World} {K : Act → World → Prop} {Q : Exit → Act → World → Prop}
    (hg : o.guard = none) (s x : Operand) (hop : o.op = Op.call { callee := Callee.builtin Builtin.append, args := #[s, x], argTypes := #[27, 27] }) (base B : Nat) (v : Value) (n : Nat) (xs : List Value) (hs : a.eval s = v) (hown : w.ownsRow base 3 1 v n xs)
    (ad : Option Addr) (m c : Nat) (ps : List Int) (hx : a.eval x = .slice ad m c) (h : IntsT w B ad m c ps) (hn : n + m ≤ 1000) (hbase : base ≤ w.heap.size)
    (hK : ∀ v' w', w'.ownsRow base 3 1 v' (n + m) (xs ++ nums ps) → w.grownBy w' v.ownBlock → K (a.put o.dst v') w') : Oper.wp Tryd.prog o a w K Q := by
  have := step_append_ints (ops := #[]) (Q := Q) (E := False) hg s x hop base B v n xs hs hown ad m c ps hx h hn hbase hK
  rw [if_pos (by simp [Region.wanted, hg])] at this
  exact this
theorem wp_append_list {P : Program} {o : Oper} {a : Act} {w : World} {K : Act → World → Prop} {Q : Exit → Act → World → Prop}
    (hg : o.guard = none) (s x : Operand) (t : TypeId) (hop : o.op = Op.call { callee := Callee.builtin Builtin.append, args := #[s, x], argTypes := #[t, t] })
    (base : Nat) (e : TypeId) (i : TypeInfo) (z : Value) (size bytes : Nat) (h1 : P.underlying t = some (.slice e)) (h2 : P.info? e = some i) (h3 : i.zero = some z) (h4 : i.size = size) (h5 : i.bytes = bytes) (h6 : z.cells.size = size) (h7 : 0 < size)
    (v : Value) (n : Nat) (xs : List Value) (hs : a.eval s = v) (hown : w.ownsRow base e size v n xs)
    (ad : Addr) (m c : Nat) (news : List Value) (hx : a.eval x = .slice (some ad) m c) (hn : news.length = m * size) (hc : ∀ j u, news[j]? = some u → w.cell? (ad.add j) = some u) (h1c : ∀ u ∈ news, u.oneCell' = true)
    (b1 : n + m ≤ maxLen) (b2 : (n + m) * bytes ≤ 140737488355328) (hbase : base ≤ w.heap.size)
    (hm : 0 < m) (hK : ∀ v' w', w'.ownsRow base e size v' (n + m) (xs ++ news) → w.grownBy w' v.ownBlock → (v'.ownBlock = v.ownBlock ∨ ∃ b, v'.ownBlock = some b ∧ w.heap.size ≤ b) → K (a.put o.dst v') w') : Oper.wp P o a w K Q := by
  have := step_append_own (ops := #[]) (Q := Q) (E := False) hg s x t hop base e i z size bytes h1 h2 h3 h4 h5 h6 h7 v n xs hs hown ad m c news hx hn hc h1c b1 b2 hbase hm hK
  rw [if_pos (by simp [Region.wanted, hg])] at this
  exact this

/-! ### A list of rows that is appended to -/
structure IL (B : Nat) (w : World) (pss : List (List Int)) (ao : Option Addr) (capo : Nat) : Prop where
  row : ∃ xs, w.ownsRow B 27 1 (.slice ao pss.length capo) pss.length xs ∧ ∀ (i : Nat) (ps : List Int), pss[i]? = some ps → ∃ a m c, xs[i]? = some (Value.slice a m c) ∧ IntsT w B a m c ps
  cap : pss.length ≤ capo
  max : capo ≤ maxLen
theorem IL.start (B : Nat) (w : World) : IL B w [] none 0 := ⟨⟨[], ⟨by simp, .inl ⟨rfl, rfl⟩⟩, fun i l h => by simp at h⟩, by simp, by decide⟩
theorem owns_block {w : World} {B : Nat} {e : TypeId} {size n cap : Nat} {ao : Option Addr} {xs : List Value} (h : w.ownsRow B e size (.slice ao n cap) n xs) {b : Nat} (hb : (Value.slice ao n cap).ownBlock = some b) : B ≤ b ∧ b < w.heap.size ∧ ∃ cur, w.heap[b]? = some (.cells cur e (0, 0)) := by
  rcases h.2 with ⟨e, _⟩ | ⟨g', c', cur, e, h1, hcur, _⟩
  · rw [e] at hb; cases hb
  · rw [e] at hb; simp [Value.ownBlock] at hb; subst hb; exact ⟨h1, (Array.getElem?_eq_some_iff.1 hcur).1, cur, hcur⟩
theorem owns_carry {w w' : World} {B : Nat} {e : TypeId} {size n cap : Nat} {ao : Option Addr} {xs : List Value} (h : w.ownsRow B e size (.slice ao n cap) n xs) (hb : ∀ b, (Value.slice ao n cap).ownBlock = some b → w'.heap[b]? = w.heap[b]?) : w'.ownsRow B e size (.slice ao n cap) n xs := by
  refine ⟨h.1, ?_⟩
  rcases h.2 with h0 | ⟨g, c, cur, e, h1, hcur, r⟩
  · exact .inl h0
  · exact .inr ⟨g, c, cur, e, h1, (hb g (by rw [e]; rfl)).trans hcur, r⟩
theorem owns_any {w w' : World} {B : Nat} {e : TypeId} {size n : Nat} {v : Value} {xs : List Value} (h : w.ownsRow B e size v n xs) (hb : ∀ b cur, w.heap[b]? = some (.cells cur e (0, 0)) → v.ownBlock = some b → w'.heap[b]? = w.heap[b]?) : w'.ownsRow B e size v n xs := by
  refine ⟨h.1, ?_⟩
  rcases h.2 with h0 | ⟨g, c, cur, e, h1, hcur, r⟩
  · exact .inl h0
  · exact .inr ⟨g, c, cur, e, h1, (hb g cur hcur (by rw [e]; rfl)).trans hcur, r⟩

/-- Behind a round: the list that was appended to, and the other one. -/
theorem IL.other {B : Nat} {w w' : World} {pss : List (List Int)} {ao : Option Addr} {capo : Nat} {own : Option Nat} (h : IL B w pss ao capo) (hk : Keep w w' (fun b => own = some b)) (hown : ∀ b, own = some b → ∃ cur, w.heap[b]? = some (.cells cur 27 (0, 0))) (hne : ∀ b, own = some b → (Value.slice ao pss.length capo).ownBlock ≠ some b) : IL B w' pss ao capo := by
  obtain ⟨xs, h1, h2⟩ := h.row
  refine ⟨⟨xs, owns_carry h1 (fun b e => hk.block b (owns_block h1 e).2.1 (fun e' => hne b e' e)), fun i ps hi => ?_⟩, h.cap, h.max⟩
  obtain ⟨a, m, c, e, hI⟩ := h2 i ps hi
  refine ⟨a, m, c, e, hI.carry (fun b cur _ hlt hb => hk.block b hlt (fun e' => ?_))⟩
  obtain ⟨cur', hc⟩ := hown b e'
  rw [hb] at hc; simp at hc
theorem IL.step {B : Nat} {w w' : World} {pss : List (List Int)} {ao : Option Addr} {capo : Nat} (hB : B ≤ w.heap.size) {xs : List Value} (h1 : w.ownsRow B 27 1 (.slice ao pss.length capo) pss.length xs) (h2 : ∀ (i : Nat) (ps : List Int), pss[i]? = some ps → ∃ a m c, xs[i]? = some (Value.slice a m c) ∧ IntsT w B a m c ps)
    (hk : Keep w w' (fun b => (Value.slice ao pss.length capo).ownBlock = some b)) {ao' : Option Addr} {cap' : Nat} {r : Value} {ps : List Int} (ho : w'.ownsRow B 27 1 (.slice ao' (pss.length + 1) cap') (pss.length + 1) (xs ++ [r])) (hr : w'.ownsRow w.heap.size 3 1 r ps.length (nums ps)) (hps : ps ≠ []) (hc : pss.length + 1 ≤ cap' ∧ cap' ≤ maxLen) : IL B w' (pss ++ [ps]) ao' cap' := by
  have hlen : (pss ++ [ps]).length = pss.length + 1 := by simp
  refine ⟨⟨xs ++ [r], by rw [hlen]; exact ho, fun i qs hi => ?_⟩, by rw [hlen]; exact hc.1, hc.2⟩
  have hx : xs.length = pss.length := by have := h1.1; omega
  by_cases e : i < pss.length
  · rw [List.getElem?_append_left e] at hi
    obtain ⟨a, m, c, ex, hI⟩ := h2 i qs hi
    refine ⟨a, m, c, by rw [List.getElem?_append_left (by omega)]; exact ex, hI.carry (fun b cur _ hlt hb => hk.block b hlt (fun e' => ?_))⟩
    obtain ⟨_, _, cur', hc'⟩ := owns_block h1 e'
    rw [hb] at hc'; simp at hc'
  · have hi' : i = pss.length := by
      have := (List.getElem?_eq_some_iff.1 hi).1
      rw [hlen] at this; omega
    subst hi'
    rw [List.getElem?_append_right (Nat.le_refl _), Nat.sub_self] at hi
    simp at hi
    subst hi
    obtain ⟨a, c, rfl, hI⟩ := IntsT.of_own hr hB hps rfl
    exact ⟨a, ps.length, c, by rw [List.getElem?_append_right (by omega), show pss.length - xs.length = 0 by omega]; rfl, hI⟩
theorem IL.below {B : Nat} {w w' : World} {pss : List (List Int)} {ao : Option Addr} {capo : Nat} (h : IL B w pss ao capo) (hb : Below w.heap.size w w') : IL B w' pss ao capo := by
  obtain ⟨xs, h1, h2⟩ := h.row
  refine ⟨⟨xs, owns_carry h1 (fun b e => hb.block b (owns_block h1 e).2.1), fun i ps hi => ?_⟩, h.cap, h.max⟩
  obtain ⟨a, m, c, e, hI⟩ := h2 i ps hi
  exact ⟨a, m, c, e, hI.carry (fun b _ _ hlt _ => hb.block b hlt)⟩
/-- The i-th row, where it lies. -/
theorem IL.get {B : Nat} {w : World} {pss : List (List Int)} {ao : Option Addr} {capo : Nat} (h : IL B w pss ao capo) {i : Nat} {ps : List Int} (hi : pss[i]? = some ps) : ∃ g a m c, ao = some ⟨g, 0, none⟩ ∧ B ≤ g ∧ g < w.heap.size ∧ w.cell? ⟨g, i, none⟩ = some (.slice a m c) ∧ IntsT w B a m c ps := by
  obtain ⟨xs, h1, h2⟩ := h.row
  obtain ⟨a, m, c, e, hI⟩ := h2 i ps hi
  obtain ⟨g, rfl, hB, hlt, _, _, hc⟩ := owns_cell h1 e
  exact ⟨g, a, m, c, rfl, hB, hlt, hc, hI⟩
end Go.Proofs.YtogfmpjgmabomaaDoor
