/- Rows of levels and of numbers that are appended to; values go through Put. No condition. -/
import Derived.Test.YtogfmpjgmabomabDoorOrderLaw
namespace Go.Proofs.YtogfmpjgmabomabDoor
open Go.RowKit

/-! ### Values go through Put -/
theorem Lev.val_put (by_ : List Lev) (v : Nat → Nat) (l : Lev) (h : l.low by_.length) : (l.put by_).val v = l.val (fun n => (by_.getD n .zero).val v) := by
  induction l with
  | zero => rfl
  | succ a ih => simp only [Lev.put, Lev.val]; rw [ih h]
  | max a b iha ihb => simp only [Lev.put, Lev.val]; rw [iha h.1, ihb h.2]
  | imax a b iha ihb => simp only [Lev.put, Lev.val]; rw [iha h.1, ihb h.2]
  | par n =>
    have hn : n < by_.length := h
    simp only [Lev.put, Lev.val, List.getD_eq_getElem?_getD, List.getElem?_eq_getElem hn, Option.getD_some]
theorem k_order {a b x y : Lev} {by_ : List Lev} (ha : a.low by_.length) (hb : b.low by_.length) (hx : x = a.put by_) (hy : y = b.put by_) (fb : Fine b) (fy : Fine y) (h : evB leR a b = true) : evB leR x y = true :=
  (leq_iff fy).2 fun v => by rw [hx, hy, Lev.val_put by_ v a ha, Lev.val_put by_ v b hb]; exact (leq_iff fb).1 h _
theorem k_eval {a x : Lev} {by_ : List Lev} {zs vs : List Int} (ha : a.low by_.length) (hx : x = a.put by_) (hv : ∀ (i : Nat) (l : Lev), by_[i]? = some l → vs[i]? = some ((l.val (vv zs) : Nat) : Int)) (hs : ∀ l ∈ by_, l.val (vv zs) ≤ 1099511627776) :
    x.val (vv zs) = a.val (vv vs) := by
  rw [hx, Lev.val_put by_ _ a ha]
  refine a.val_congr ha fun i hi => ?_
  have h1 : by_[i]? = some by_[i] := List.getElem?_eq_getElem hi
  have h2 := hv i _ h1
  have h3 := hs _ (List.mem_of_getElem? h1)
  show (by_.getD i .zero).val (vv zs) = (min (max (vs.getD i 0) 0) 1099511627776).toNat
  rw [List.getD_eq_getElem?_getD, List.getD_eq_getElem?_getD, h1, h2]
  simp only [Option.getD_some]
  omega

/-- append onto a row of the call's own. -/
theorem wpList_append_two {P : Program} {ops : Array Oper} {rest : List Oper} {o : Oper} {a : Act} {w : World} {Q : Exit → Act → World → Prop}
    (hg : o.guard = none) (s x : Operand) (t : TypeId) (hop : o.op = Op.call { callee := Callee.builtin Builtin.append, args := #[s, x], argTypes := #[t, t] })
    (base : Nat) (e : TypeId) (i : TypeInfo) (z : Value) (size bytes : Nat) (h1 : P.underlying t = some (.slice e)) (h2 : P.info? e = some i) (h3 : i.zero = some z) (h4 : i.size = size) (h5 : i.bytes = bytes) (h6 : z.cells.size = size) (h7 : 0 < size)
    (v : Value) (n : Nat) (xs : List Value) (hs : a.eval s = v) (hown : w.ownsRow base e size v n xs)
    (ad : Addr) (m c : Nat) (news : List Value) (hx : a.eval x = .slice (some ad) m c) (hn : news.length = m * size) (hc : ∀ j u, news[j]? = some u → w.cell? (ad.add j) = some u) (h1c : ∀ u ∈ news, u.oneCell' = true)
    (b1 : n + m ≤ maxLen) (b2 : (n + m) * bytes ≤ 140737488355328) (hbase : base ≤ w.heap.size)
    (hm : 0 < m) (hK : ∀ v' w', w'.ownsRow base e size v' (n + m) (xs ++ news) → w.grownBy w' v.ownBlock → (v'.ownBlock = v.ownBlock ∨ ∃ b, v'.ownBlock = some b ∧ w.heap.size ≤ b) → wpList P ops Q rest (a.put o.dst v') w') :
    wpList P ops Q (o :: rest) a w :=
  wpList_plain hg fun K hK' => by
    obtain ⟨v', w', hrun, r1, r2, r3⟩ := run_append_two (P := P) w base t o.type e i z size bytes h1 h2 h3 h4 h5 h6 h7 v n xs hown ad m c news hn hc h1c b1 b2 hbase hm
    unfold Oper.wp
    simp [execOp, hop, resolve, invoke, builtin, hs, hx, hrun, Result.andThen]
    exact hK' _ _ (hK v' w' r1 r2 r3)

/-! ### A row of levels that is appended to -/
structure BY (B : Nat) (w : World) (ls : List Lev) (ao : Option Addr) (capo : Nat) (av : Option Nat) : Prop where
  row : ∃ xs, w.ownsRow B 29 3 (.slice ao ls.length capo) ls.length xs ∧ ∀ i l, ls[i]? = some l → ∃ c0 c1 c2, xs[i * 3]? = some c0 ∧ xs[i * 3 + 1]? = some c1 ∧ xs[i * 3 + 2]? = some c2 ∧
    In w (fun b => B ≤ b ∧ b < w.heap.size ∧ (Value.slice ao ls.length capo).ownBlock ≠ some b ∧ av ≠ some b) l.lv (.agg #[c0, c1, c2])
  cap : ls.length ≤ capo
  max : capo ≤ maxLen

theorem owns_block {w : World} {B : Nat} {e : TypeId} {size n cap : Nat} {ao : Option Addr} {xs : List Value} (h : w.ownsRow B e size (.slice ao n cap) n xs) {b : Nat} (hb : (Value.slice ao n cap).ownBlock = some b) : B ≤ b ∧ b < w.heap.size ∧ ∃ cur, w.heap[b]? = some (.cells cur e (0, 0)) := by
  rcases h.2 with ⟨e, _⟩ | ⟨g', c', cur, e, h1, hcur, _⟩
  · rw [e] at hb; cases hb
  · rw [e] at hb; simp [Value.ownBlock] at hb; subst hb; exact ⟨h1, (Array.getElem?_eq_some_iff.1 hcur).1, cur, hcur⟩
theorem owns_carry {w w' : World} {B : Nat} {e : TypeId} {size n cap : Nat} {ao : Option Addr} {xs : List Value} (h : w.ownsRow B e size (.slice ao n cap) n xs) (hb : ∀ b, (Value.slice ao n cap).ownBlock = some b → w'.heap[b]? = w.heap[b]?) : w'.ownsRow B e size (.slice ao n cap) n xs := by
  refine ⟨h.1, ?_⟩
  rcases h.2 with h0 | ⟨g, c, cur, e, h1, hcur, r⟩
  · exact .inl h0
  · exact .inr ⟨g, c, cur, e, h1, (hb g (by rw [e]; rfl)).trans hcur, r⟩

/-- It stays where its blocks stay; another row may be what it keeps off. -/
theorem BY.carry {B : Nat} {w w' : World} {ls : List Lev} {ao : Option Addr} {capo : Nat} {av av' : Option Nat} (h : BY B w ls ao capo av) (hz : w.heap.size ≤ w'.heap.size) (hb : ∀ b, B ≤ b → b < w.heap.size → av ≠ some b → w'.heap[b]? = w.heap[b]?)
    (ho : ∀ b, (Value.slice ao ls.length capo).ownBlock = some b → av ≠ some b) (ha : ∀ b, b < w.heap.size → av ≠ some b → av' ≠ some b) : BY B w' ls ao capo av' := by
  obtain ⟨xs, h1, h2⟩ := h.row
  refine ⟨⟨xs, owns_carry h1 (fun b e => hb b (owns_block h1 e).1 (owns_block h1 e).2.1 (ho b e)), fun i l hl => ?_⟩, h.cap, h.max⟩
  obtain ⟨c0, c1, c2, e0, e1, e2, hi⟩ := h2 i l hl
  exact ⟨c0, c1, c2, e0, e1, e2, In.carry (fun b hb' => hb b hb'.1 hb'.2.1 hb'.2.2.2) (fun b hb' => ⟨hb'.1, by omega, hb'.2.2.1, ha b hb'.2.1 hb'.2.2.2⟩) _ _ hi⟩
theorem BY.below {B : Nat} {w w' : World} {ls : List Lev} {ao : Option Addr} {capo : Nat} {av : Option Nat} (h : BY B w ls ao capo av) (hb : Below w.heap.size w w') : BY B w' ls ao capo av := by
  obtain ⟨xs, h1, h2⟩ := h.row
  refine ⟨⟨xs, owns_carry h1 (fun b e => hb.block b (owns_block h1 e).2.1), fun i l hl => ?_⟩, h.cap, h.max⟩
  obtain ⟨c0, c1, c2, e0, e1, e2, hi⟩ := h2 i l hl
  exact ⟨c0, c1, c2, e0, e1, e2, In.carry (fun b hb' => hb.block b hb'.2.1) (fun b hb' => ⟨hb'.1, Nat.lt_of_lt_of_le hb'.2.1 hb.size, hb'.2.2⟩) _ _ hi⟩
theorem BY.start (B : Nat) (w : World) : BY B w [] none 0 none := ⟨⟨[], ⟨by simp, .inl ⟨rfl, rfl⟩⟩, fun i l h => by simp at h⟩, by simp, by decide⟩

/-- One level more. -/
theorem BY.step {B : Nat} {w w1 w2 w3 : World} {ls : List Lev} {ao : Option Addr} {capo : Nat} {av : Option Nat} (hB : B ≤ w.heap.size) {g : Nat} (hg : g < B) (hk : Keep w w1 (· = g)) {l : Lev} {v0 v1 v2 : Value}
    (hi : In w1 (fun b => w.heap.size ≤ b ∧ b < w1.heap.size) l.lv (.agg #[v0, v1, v2])) (h2 : Below w1.heap.size w1 w2) (hav : ∀ b, av = some b → b < w.heap.size) {xs : List Value} (hxs : w.ownsRow B 29 3 (.slice ao ls.length capo) ls.length xs)
    (hxi : ∀ i l, ls[i]? = some l → ∃ c0 c1 c2, xs[i * 3]? = some c0 ∧ xs[i * 3 + 1]? = some c1 ∧ xs[i * 3 + 2]? = some c2 ∧ In w (fun b => B ≤ b ∧ b < w.heap.size ∧ (Value.slice ao ls.length capo).ownBlock ≠ some b ∧ av ≠ some b) l.lv (.agg #[c0, c1, c2]))
    {ao' : Option Addr} {cap' : Nat} (ho : w3.ownsRow B 29 3 (.slice ao' (ls.length + 1) cap') (ls.length + 1) (xs ++ [v0, v1, v2])) (hg3 : w2.grownBy w3 (Value.slice ao ls.length capo).ownBlock)
    (hnb : (Value.slice ao' (ls.length + 1) cap').ownBlock = (Value.slice ao ls.length capo).ownBlock ∨ ∃ b, (Value.slice ao' (ls.length + 1) cap').ownBlock = some b ∧ w2.heap.size ≤ b) (hc : ls.length + 1 ≤ cap' ∧ cap' ≤ maxLen) : BY B w3 (ls ++ [l]) ao' cap' av := by
  have z1 := hk.size
  have z2 := h2.size
  have z3 := hg3.size
  have hlen : (ls ++ [l]).length = ls.length + 1 := by simp
  have st : ∀ b, b < w2.heap.size → (Value.slice ao ls.length capo).ownBlock ≠ some b → w3.heap[b]? = w2.heap[b]? := fun b hb hn => hg3.block b hb (fun e => hn e.symm)
  have nb : ∀ b, b < w2.heap.size → (Value.slice ao ls.length capo).ownBlock ≠ some b → (Value.slice ao' (ls.length + 1) cap').ownBlock ≠ some b := fun b hb hn e => by
    rcases hnb with h4 | ⟨c, h4, h5⟩
    · rw [h4] at e; exact hn e
    · rw [h4] at e; simp at e; omega
  refine ⟨⟨xs ++ [v0, v1, v2], by rw [hlen]; exact ho, fun i m hm => ?_⟩, by rw [hlen]; exact hc.1, hc.2⟩
  rw [hlen]
  have hx3 : xs.length = ls.length * 3 := hxs.1
  by_cases e : i < ls.length
  · obtain ⟨c0, c1, c2, e0, e1, e2, hin⟩ := hxi i m (by rw [List.getElem?_append_left e] at hm; exact hm)
    refine ⟨c0, c1, c2, ?_, ?_, ?_, ?_⟩
    · rw [List.getElem?_append_left (by omega)]; exact e0
    · rw [List.getElem?_append_left (by omega)]; exact e1
    · rw [List.getElem?_append_left (by omega)]; exact e2
    · exact In.carry (fun b hb => ((st b (by omega) hb.2.2.1).trans (h2.block b (by omega))).trans (hk.block b hb.2.1 (by omega))) (fun b hb => ⟨hb.1, by omega, nb b (by omega) hb.2.2.1, hb.2.2.2⟩) _ _ hin
  · have hi' : i = ls.length := by
      have := (List.getElem?_eq_some_iff.1 hm).1
      rw [hlen] at this; omega
    subst hi'
    rw [List.getElem?_append_right (Nat.le_refl _), Nat.sub_self] at hm
    simp at hm
    subst hm
    have own : ∀ b, w.heap.size ≤ b → (Value.slice ao ls.length capo).ownBlock ≠ some b := fun b hb e => by have := (owns_block hxs e).2.1; omega
    refine ⟨v0, v1, v2, ?_, ?_, ?_, ?_⟩
    · rw [List.getElem?_append_right (by omega), show ls.length * 3 - xs.length = 0 by omega]; rfl
    · rw [List.getElem?_append_right (by omega), show ls.length * 3 + 1 - xs.length = 1 by omega]; rfl
    · rw [List.getElem?_append_right (by omega), show ls.length * 3 + 2 - xs.length = 2 by omega]; rfl
    · exact In.carry (fun b hb => (st b (by omega) (own b hb.1)).trans (h2.block b hb.2)) (fun b hb => ⟨by omega, by omega, nb b (by omega) (own b hb.1), fun e => by have := hav b e; omega⟩) _ _ hi

/-- As a list of levels that lies anywhere. -/
theorem BY.node {B : Nat} {w : World} {ls : List Lev} {ao : Option Addr} {capo : Nat} {av : Option Nat} (h : BY B w ls ao capo av) : Node w (· < w.heap.size) 0 0 (ls.map Lev.lv) ao capo := by
  obtain ⟨xs, h1, h2⟩ := h.row
  refine ⟨by omega, by omega, by omega, by omega, by rw [List.length_map]; exact h.cap, h.max, ?_⟩
  by_cases h0 : ls = []
  · subst h0; exact .inl rfl
  · have hpos : 0 < ls.length := List.length_pos_iff.2 h0
    obtain ⟨c, hc⟩ : ∃ c, xs[0]? = some c := ⟨_, List.getElem?_eq_getElem (by rw [h1.1]; omega)⟩
    obtain ⟨g, rfl, hg1, hg2, _⟩ := owns_cell h1 hc
    refine .inr ⟨g, 0, rfl, hg2, InAll.of_get fun i L hi => ?_⟩
    rw [List.getElem?_map] at hi
    cases hli : ls[i]? with
    | none => rw [hli] at hi; cases hi
    | some l =>
      rw [hli] at hi
      simp only [Option.map_some, Option.some.injEq] at hi
      subst hi
      obtain ⟨c0, c1, c2, e0, e1, e2, hin⟩ := h2 i l hli
      have cc : ∀ {i c}, xs[i]? = some c → w.cell? ⟨g, i, none⟩ = some c := fun {i c} hi => by
        obtain ⟨g', e, _, _, _, _, h5⟩ := owns_cell h1 hi
        obtain rfl : g = g' := by simpa using e
        exact h5
      rw [Nat.zero_add]
      exact ⟨c0, c1, c2, cc e0, cc e1, cc e2, hin.mono (fun b hb => hb.2.1)⟩

/-! ### A row of numbers that is appended to -/
structure VS (B : Nat) (w : World) (zs : List Int) (vo : Option Addr) (vcap : Nat) : Prop where
  row : w.ownsRow B 3 1 (.slice vo zs.length vcap) zs.length (zs.map fun z => .int .i64 z)
  cap : zs.length ≤ vcap
  max : vcap ≤ maxLen
theorem VS.start (B : Nat) (w : World) : VS B w [] none 0 := ⟨⟨by simp, .inl ⟨rfl, rfl⟩⟩, by simp, by decide⟩
theorem VS.carry {B : Nat} {w w' : World} {zs : List Int} {vo : Option Addr} {vcap : Nat} (h : VS B w zs vo vcap) (hb : ∀ b, (Value.slice vo zs.length vcap).ownBlock = some b → w'.heap[b]? = w.heap[b]?) : VS B w' zs vo vcap :=
  ⟨owns_carry h.row hb, h.cap, h.max⟩
theorem VS.below {B : Nat} {w w' : World} {zs : List Int} {vo : Option Addr} {vcap : Nat} (h : VS B w zs vo vcap) (hb : Below w.heap.size w w') : VS B w' zs vo vcap := h.carry (fun b e => hb.block b (owns_block h.row e).2.1)
theorem VS.ints {B : Nat} {w : World} {zs : List Int} {vo : Option Addr} {vcap : Nat} (h : VS B w zs vo vcap) : Ints w w.heap.size vo zs.length vcap zs := by
  refine ⟨rfl, h.cap, h.max, fun j z hz => ?_⟩
  obtain ⟨g, rfl, _, hg, _, _, hc⟩ := owns_cell h.row (i := j) (c := .int .i64 z) (by rw [List.getElem?_map, hz]; rfl)
  exact ⟨g, 0, rfl, hg, by rw [Nat.zero_add]; exact hc⟩
/-- Rows of levels and rows of numbers are apart. -/
theorem apart_rows {B : Nat} {w : World} {e e' : TypeId} (hne : e ≠ e') {s s' n n' cap cap' : Nat} {ao ao' : Option Addr} {xs xs' : List Value} (h : w.ownsRow B e s (.slice ao n cap) n xs) (h' : w.ownsRow B e' s' (.slice ao' n' cap') n' xs') (b : Nat) (hb : (Value.slice ao n cap).ownBlock = some b) : (Value.slice ao' n' cap').ownBlock ≠ some b := fun hb' => by
  obtain ⟨_, _, c, hc⟩ := owns_block h hb
  obtain ⟨_, _, c', hc'⟩ := owns_block h' hb'
  rw [hc] at hc'
  simp at hc'
  exact hne hc'.2

theorem info3' : ∃ i, Tryd.prog.info? 3 = some i ∧ i.zero = some (.int .i64 0) ∧ i.size = 1 ∧ i.bytes = 8 := by
  have h : (Tryd.prog.info? 3).map (fun i => (i.zero, i.size, i.bytes)) = some (some (.int .i64 0), 1, 8) := by kernel_rfl
  obtain ⟨i, hi, he⟩ := Option.map_eq_some_iff.1 h
  simp only [Prod.mk.injEq] at he
  exact ⟨i, hi, he⟩
theorem enter10 (args : Array Value) (w : World) : (callFunc 10 args).run Tryd.prog w = .ok (.enter 10 args) w := enter_of Tryd.func10 (by kernel_rfl) rfl args w
theorem Lev.put_size (by_ : List Lev) (hb : ∀ x ∈ by_, x.size ≤ 64) (l : Lev) : (l.put by_).size ≤ l.size * 64 := by
  induction l with
  | zero => simp only [Lev.put, Lev.size]; omega
  | succ a ih => simp only [Lev.put, Lev.size]; omega
  | max a b iha ihb => simp only [Lev.put, Lev.size]; omega
  | imax a b iha ihb => simp only [Lev.put, Lev.size]; omega
  | par n =>
    simp only [Lev.put, Lev.size, List.getD_eq_getElem?_getD]
    cases h : by_[n]? with
    | none => simp [Lev.size]
    | some x => simpa using hb x (List.mem_of_getElem? h)
theorem Own.fresh {w w' : World} {L : Lv} {v : Value} (h : Own w' (w.heap.size ≤ ·) L v) : In w' (fun b => w.heap.size ≤ b ∧ b < w'.heap.size) L v :=
  Own.is_in L v (Own.carry (S := (w.heap.size ≤ ·)) (fun _ _ _ => rfl) (fun _ h hlt => ⟨h, hlt⟩) L v h)

/-- The loop of LevelKeeps, behind so many levels. -/
structure KI (w0 : World) (g : Nat) (a : Option Addr) (n cap : Nat) (zs : List Int) (wr : World) (ls : List Lev) (vs : List Int) (at_ : Nat) (ao : Option Addr) (capo : Nat) (vo : Option Addr) (vcap : Nat) : Prop where
  keep : Keep w0 wr (· = g)
  picks : Blk wr g 44 [.slice a n cap, .int .i64 (at_ : Int)]
  upto : at_ ≤ n
  by_ : BY w0.heap.size wr ls ao capo (Value.slice vo vs.length vcap).ownBlock
  nums : VS w0.heap.size wr vs vo vcap
  len : vs.length = ls.length
  val : ∀ (i : Nat) (l : Lev), ls[i]? = some l → vs[i]? = some ((l.val (vv zs) : Nat) : Int)
  may : ∀ l ∈ ls, mayB l.lv 4 = true
  low : ∀ l ∈ ls, l.low 4

/-- One round more. -/
theorem KI.step {w0 : World} {g : Nat} {a : Option Addr} {n cap : Nat} {zs : List Int} {wr : World} {ls : List Lev} {vs : List Int} {at_ : Nat} {ao : Option Addr} {capo : Nat} {vo : Option Addr} {vcap : Nat} (h : KI w0 g a n cap zs wr ls vs at_ ao capo vo vcap) (hg : g < w0.heap.size)
    {w3 w4 w5 w6 w7 : World} {l : Lev} {at' : Nat} {ao' : Option Addr} {cap' : Nat} {vo' : Option Addr} {vcap' : Nat} (hk3 : Keep wr w3 (fun b => b = g ∨ (Value.slice ao ls.length capo).ownBlock = some b)) (hp3 : Blk w3 g 44 [.slice a n cap, .int .i64 (at' : Int)]) (hat : at' ≤ n) (hlow : l.low 4)
    (hby : BY w0.heap.size w3 (ls ++ [l]) ao' cap' (Value.slice vo vs.length vcap).ownBlock) (h4 : Below w3.heap.size w3 w4) (hmay : mayB l.lv 4 = true) (h5 : Below w4.heap.size w4 w5) (h6 : Below w5.heap.size w5 w6)
    (ho : w7.ownsRow w0.heap.size 3 1 (.slice vo' (vs.length + 1) vcap') (vs.length + 1) (vs.map (fun z => .int .i64 z) ++ [.int .i64 ((l.val (vv zs) : Nat) : Int)])) (hg7 : w6.grownBy w7 (Value.slice vo vs.length vcap).ownBlock)
    (hnb : (Value.slice vo' (vs.length + 1) vcap').ownBlock = (Value.slice vo vs.length vcap).ownBlock ∨ ∃ b, (Value.slice vo' (vs.length + 1) vcap').ownBlock = some b ∧ w6.heap.size ≤ b) (hc : vs.length + 1 ≤ vcap' ∧ vcap' ≤ maxLen) :
    KI w0 g a n cap zs w7 (ls ++ [l]) (vs ++ [((l.val (vv zs) : Nat) : Int)]) at' ao' cap' vo' vcap' := by
  have z3 := hk3.size
  have z4 := h4.size
  have z5 := h5.size
  have z6 := h6.size
  have z7 := hg7.size
  have b36 : Below w3.heap.size w3 w6 := (h4.trans (h5.mono z4)).trans (h6.mono (by omega))
  have vown : ∀ b, (Value.slice vo vs.length vcap).ownBlock = some b → w0.heap.size ≤ b ∧ b < wr.heap.size := fun b e => ⟨(owns_block h.nums.row e).1, (owns_block h.nums.row e).2.1⟩
  have bown : ∀ b, (Value.slice ao ls.length capo).ownBlock = some b → w0.heap.size ≤ b := fun b e => by obtain ⟨xs, hx, _⟩ := h.by_.row; exact (owns_block hx e).1
  have v3 : VS w0.heap.size w3 vs vo vcap := h.nums.carry (fun b e => by
    obtain ⟨xs, hx, _⟩ := h.by_.row
    refine hk3.block b (vown b e).2 (fun hb => ?_)
    rcases hb with rfl | hb
    · have := (vown _ e).1; omega
    · exact apart_rows (by decide) hx h.nums.row b hb e)
  have by6 := hby.below b36
  have v6 := v3.below b36
  have gv : ∀ b, b < w6.heap.size → (Value.slice vo vs.length vcap).ownBlock ≠ some b → w7.heap[b]? = w6.heap[b]? := fun b hb hn => hg7.block b hb (fun e => hn e.symm)
  refine ⟨?_, ?_, hat, ?_, ?_, by simp [h.len], ?_, ?_, ?_⟩
  · refine ⟨hg7.os.trans (b36.os.trans (hk3.os.trans h.keep.os)), hg7.tape.trans (b36.tape.trans (hk3.tape.trans h.keep.tape)), hg7.output.trans (b36.output.trans (hk3.output.trans h.keep.output)), ?_, ?_⟩
    · have := h.keep.size; omega
    · intro b hb hn
      have zk := h.keep.size
      have e1 : w7.heap[b]? = w6.heap[b]? := gv b (by omega) (fun e => by have := (vown b e).1; omega)
      have e2 : w3.heap[b]? = wr.heap[b]? := hk3.block b (by omega) (fun hb' => by
        rcases hb' with e | e
        · exact hn e
        · have := bown b e; omega)
      rw [e1, b36.block b (by omega), e2]
      exact h.keep.block b hb hn
  · exact hp3.carry ((gv g (by have := hp3.lt; omega) (fun e => by have := (vown g e).1; omega)).trans (b36.block g hp3.lt))
  · have hl : (vs ++ [((l.val (vv zs) : Nat) : Int)]).length = vs.length + 1 := by simp
    rw [hl]
    refine by6.carry z7 (fun b _ h2 h3 => gv b h2 h3) (fun b e => ?_) (fun b hb hne => ?_)
    · obtain ⟨xs, hx, _⟩ := by6.row
      exact apart_rows (by decide) hx v6.row b e
    · rcases hnb with e | ⟨c, e, hc'⟩
      · rw [e]; exact hne
      · rw [e]; intro e2; simp at e2; omega
  · have hl : (vs ++ [((l.val (vv zs) : Nat) : Int)]).length = vs.length + 1 := by simp
    exact ⟨by rw [hl, List.map_append]; exact ho, by rw [hl]; exact hc.1, hc.2⟩
  · intro i m hm
    by_cases e : i < ls.length
    · rw [List.getElem?_append_left e] at hm
      rw [List.getElem?_append_left (by rw [h.len]; exact e)]
      exact h.val i m hm
    · have hi' : i = ls.length := by
        have := (List.getElem?_eq_some_iff.1 hm).1
        simp at this; omega
      subst hi'
      rw [List.getElem?_append_right (Nat.le_refl _), Nat.sub_self] at hm
      simp at hm
      subst hm
      rw [List.getElem?_append_right (by rw [h.len]; exact Nat.le_refl _), h.len, Nat.sub_self]
      rfl
  · intro m hm
    rcases List.mem_append.1 hm with hm | hm
    · exact h.may m hm
    · simp at hm; subst hm; exact hmay
  · intro m hm
    rcases List.mem_append.1 hm with hm | hm
    · exact h.low m hm
    · simp at hm; subst hm; exact hlow
end Go.Proofs.YtogfmpjgmabomabDoor
