/- The walks of the document's Put, Copy. No condition but that what was given are levels in memory. -/
import Derived.Test.YtogfmpjgmabomaaDoorPut3
import Derived.ArgAppend
namespace Go.Proofs.YtogfmpjgmabomaaDoor
open Go.RowKit

/-- append onto a row of the call's own: into its block, or into a new one. -/
theorem run_append_two {P : Program} (w : World) (base : Nat) (t ty e : TypeId) (i : TypeInfo) (z : Value) (size bytes : Nat) (ht : P.underlying t = some (.slice e)) (hi : P.info? e = some i) (hz : i.zero = some z)
    (hsize : i.size = size) (hby : i.bytes = bytes) (hzs : z.cells.size = size) (hsz : 0 < size) (v : Value) (n : Nat) (xs : List Value) (hown : w.ownsRow base e size v n xs)
    (a : Addr) (m c : Nat) (news : List Value) (hl : news.length = m * size) (hnews : ∀ j u, news[j]? = some u → w.cell? (a.add j) = some u) (h1 : ∀ u ∈ news, u.oneCell' = true)
    (h63 : n + m ≤ maxLen) (hbytes : (n + m) * bytes ≤ 140737488355328) (hbase : base ≤ w.heap.size) (hm : 0 < m) :
    ∃ v' w', (Builtin.append_ #[t, t] ty #[v, .slice (some a) m c]).run P w = .ok v' w' ∧ w'.ownsRow base e size v' (n + m) (xs ++ news) ∧ w.grownBy w' v.ownBlock ∧
      (v'.ownBlock = v.ownBlock ∨ ∃ b, v'.ownBlock = some b ∧ w.heap.size ≤ b) := by
  have fresh : ∀ {v' : Value} {w' : World} {ys : List Value}, w'.ownsRow w.heap.size e size v' (n + m) ys → ∃ b, v'.ownBlock = some b ∧ w.heap.size ≤ b := fun {v' w' ys} h => by
    rcases h.2 with ⟨_, h0⟩ | ⟨g, cap, cur, rfl, hb, _⟩
    · omega
    · exact ⟨g, rfl, hb⟩
  obtain ⟨v', w', hrun, r1, r2, _⟩ := run_append_own (P := P) w base t ty e i z size bytes ht hi hz hsize hby hzs hsz v n xs hown a m c news hl hnews h1 h63 hbytes hbase
  refine ⟨v', w', hrun, r1, r2, ?_⟩
  rcases hown.2 with ⟨rfl, rfl⟩ | ⟨g, cap, cur, rfl, hb, hcur, hn, hmx, hcs, htk⟩
  · obtain ⟨v2, w2, hrun2, s1, _, _⟩ := run_append_own (P := P) w w.heap.size t ty e i z size bytes ht hi hz hsize hby hzs hsz _ 0 xs ⟨hown.1, .inl ⟨rfl, rfl⟩⟩ a m c news hl hnews h1 h63 hbytes (Nat.le_refl _)
    rw [hrun] at hrun2
    simp only [Result.ok.injEq] at hrun2
    obtain ⟨rfl, rfl⟩ := hrun2
    exact .inr (fresh s1)
  · by_cases hroom : n + m ≤ cap
    · have hbd : ∀ j, j < news.length → 0 + n * i.size + j < cur.size := fun j hj => by
        rw [hcs, ← hsize]
        have : (n + m) * i.size ≤ cap * i.size := Nat.mul_le_mul_right _ hroom
        rw [Nat.add_mul] at this
        rw [hl, ← hsize] at hj
        omega
      have := run_append_room_cells (P := P) w t ty e i ht hi g 0 n cap a m c news (by rw [hsize]; exact hl) hnews h1 hroom
        (fun j hj => by rw [cell_of_row w g _ cur e (0, 0) hcur, Array.getElem?_eq_getElem (hbd j hj)]; rfl) (fun j _ => by simp [World.frozen?, hcur])
      rw [hrun] at this
      simp only [Result.ok.injEq] at this
      obtain ⟨rfl, _⟩ := this
      exact .inl rfl
    · obtain ⟨v2, w2, hrun2, s1, _⟩ := run_append_arg_grows (P := P) w t ty e i z size bytes ht hi hz hsize hby hzs hsz ⟨g, 0, none⟩ n cap xs hown.1 (fun j u hj => by
          have hl' := (List.getElem?_eq_some_iff.1 hj).1
          rw [Addr.add_lit, Nat.zero_add, cell_of_row w g j cur e (0, 0) hcur]
          rw [← htk, List.getElem?_take_of_lt (by rw [← hown.1]; exact hl')] at hj
          simpa using hj) a m c news hl hnews (by omega) h63 hbytes
      rw [hrun] at hrun2
      simp only [Result.ok.injEq] at hrun2
      obtain ⟨rfl, rfl⟩ := hrun2
      exact .inr (fresh s1)

/-- append onto a row of the call's own, in a region that draws its order. -/
theorem step_append_own {P : Program} {ops : Array Oper} {o : Oper} {a : Act} {w : World} {K : Act → World → Prop} {Q : Exit → Act → World → Prop} {E : Prop}
    (hg : o.guard = none) (s x : Operand) (t : TypeId) (hop : o.op = Op.call { callee := Callee.builtin Builtin.append, args := #[s, x], argTypes := #[t, t] })
    (base : Nat) (e : TypeId) (i : TypeInfo) (z : Value) (size bytes : Nat) (h1 : P.underlying t = some (.slice e)) (h2 : P.info? e = some i) (h3 : i.zero = some z) (h4 : i.size = size) (h5 : i.bytes = bytes) (h6 : z.cells.size = size) (h7 : 0 < size)
    (v : Value) (n : Nat) (xs : List Value) (hs : a.eval s = v) (hown : w.ownsRow base e size v n xs)
    (ad : Addr) (m c : Nat) (news : List Value) (hx : a.eval x = .slice (some ad) m c) (hn : news.length = m * size) (hc : ∀ j u, news[j]? = some u → w.cell? (ad.add j) = some u) (h1c : ∀ u ∈ news, u.oneCell' = true)
    (b1 : n + m ≤ maxLen) (b2 : (n + m) * bytes ≤ 140737488355328) (hbase : base ≤ w.heap.size)
    (hm : 0 < m) (hK : ∀ v' w', w'.ownsRow base e size v' (n + m) (xs ++ news) → w.grownBy w' v.ownBlock → (v'.ownBlock = v.ownBlock ∨ ∃ b, v'.ownBlock = some b ∧ w.heap.size ≤ b) → K (a.put o.dst v') w') :
    if Region.wanted o (yielded ops a.tmps) = true then Oper.wp P o a w K Q else E := by
  have hw : Region.wanted o (yielded ops a.tmps) = true := by simp [Region.wanted, hg]
  rw [if_pos hw]
  obtain ⟨v', w', hrun, r1, r2, r3⟩ := run_append_two (P := P) w base t o.type e i z size bytes h1 h2 h3 h4 h5 h6 h7 v n xs hown ad m c news hn hc h1c b1 b2 hbase hm
  unfold Oper.wp
  simp [execOp, hop, resolve, invoke, builtin, hs, hx, hrun, Result.andThen]
  exact hK v' w' r1 r2 r3

/-- Put at one level. -/
def RPutAt (by_ : List Lv) (x : Lv) : Prop := ∀ (w : World) (B : Nat) (va : Value) (ab : Option Addr) (capb : Nat), B ≤ w.heap.size → In w (· < B) x va → Node w (· < B) 0 0 by_ ab capb →
    Calls Tryd.prog 29 #[va, .slice ab by_.length capb] w fun e w' => ∃ v, e = .returned v ∧ In w' (fun b => w.heap.size ≤ b ∧ b < w'.heap.size) (x.put by_) v ∧ Below w.heap.size w w'

/-- Put's loop, behind j of the args. -/
structure RL (w wr : World) (by_ args : List Lv) (k n : Int) (a : Option Addr) (cap : Nat) (j : Nat) (ao : Option Addr) (capo : Nat) : Prop where
  bel : Below w.heap.size w wr
  box : Blk wr w.heap.size 24 [.int .i64 k, .int .i64 n, .slice a args.length cap]
  res : Blk wr (w.heap.size + 1) 24 [.int .i64 0, .int .i64 0, .slice none 0 0]
  out : Blk wr (w.heap.size + 1 + 1) 24 [.int .i64 k, .int .i64 n, .slice ao j capo]
  row : ∃ xs, wr.ownsRow (w.heap.size + 3) 24 3 (.slice ao j capo) j xs ∧ ∀ i x, i < j → args[i]? = some x → ∃ c0 c1 c2, xs[i * 3]? = some c0 ∧ xs[i * 3 + 1]? = some c1 ∧ xs[i * 3 + 2]? = some c2 ∧
      In wr (fun b => w.heap.size + 3 ≤ b ∧ b < wr.heap.size ∧ (Value.slice ao j capo).ownBlock ≠ some b) (x.put by_) (.agg #[c0, c1, c2])

theorem RL.step {w wr w6 w7 w8 : World} {by_ args : List Lv} {k n : Int} {a : Option Addr} {cap j : Nat} {ao : Option Addr} {capo : Nat} (h : RL w wr by_ args k n a cap j ao capo) (hsz : w.heap.size + 3 ≤ wr.heap.size) (h6 : Below wr.heap.size wr w6) {x : Lv} (hx : args[j]? = some x)
    {v0 v1 v2 : Value} (hin : In w6 (fun b => wr.heap.size ≤ b ∧ b < w6.heap.size) (x.put by_) (.agg #[v0, v1, v2])) (h7 : Below w6.heap.size w6 w7) {xs : List Value}
    (hall : ∀ i x, i < j → args[i]? = some x → ∃ c0 c1 c2, xs[i * 3]? = some c0 ∧ xs[i * 3 + 1]? = some c1 ∧ xs[i * 3 + 2]? = some c2 ∧ In wr (fun b => w.heap.size + 3 ≤ b ∧ b < wr.heap.size ∧ (Value.slice ao j capo).ownBlock ≠ some b) (x.put by_) (.agg #[c0, c1, c2]))
    (hxs : xs.length = j * 3) {ao' : Option Addr} {cap' : Nat} (ho : w8.ownsRow (w.heap.size + 3) 24 3 (.slice ao' (j + 1) cap') (j + 1) (xs ++ [v0, v1, v2])) (hg : w7.grownBy w8 (Value.slice ao j capo).ownBlock) (hob : ∀ b, (Value.slice ao j capo).ownBlock = some b → w.heap.size + 3 ≤ b ∧ b < wr.heap.size)
    (hnb : (Value.slice ao' (j + 1) cap').ownBlock = (Value.slice ao j capo).ownBlock ∨ ∃ b, (Value.slice ao' (j + 1) cap').ownBlock = some b ∧ w7.heap.size ≤ b) :
    RL w (w8.setCell ⟨w.heap.size + 1 + 1, 2, none⟩ (.slice ao' (j + 1) cap')) by_ args k n a cap (j + 1) ao' cap' := by
  have s6 := h6.size
  have s7 := h7.size
  have s8 := hg.size
  have hs9 : (w8.setCell ⟨w.heap.size + 1 + 1, 2, none⟩ (.slice ao' (j + 1) cap')).heap.size = w8.heap.size := by simp [World.setCell]
  -- what stays from w7 on
  have st : ∀ b, b < w7.heap.size → (Value.slice ao j capo).ownBlock ≠ some b → b ≠ w.heap.size + 1 + 1 → (w8.setCell ⟨w.heap.size + 1 + 1, 2, none⟩ (.slice ao' (j + 1) cap')).heap[b]? = w7.heap[b]? := fun b hb hn hne =>
    (Below.heap_setCell _ _ _ _ (by simpa using hne)).trans (hg.block b hb (fun e => hn e.symm))
  have st6 : ∀ b, b < wr.heap.size → (Value.slice ao j capo).ownBlock ≠ some b → b ≠ w.heap.size + 1 + 1 → (w8.setCell ⟨w.heap.size + 1 + 1, 2, none⟩ (.slice ao' (j + 1) cap')).heap[b]? = wr.heap[b]? := fun b hb hn hne =>
    (st b (by omega) hn hne).trans ((h7.block b (by omega)).trans (h6.block b hb))
  have low : ∀ b, b < w.heap.size + 3 → (Value.slice ao j capo).ownBlock ≠ some b := fun b hb e => by have := hob b e; omega
  refine ⟨⟨?_, ?_, ?_, ?_, ?_⟩, ?_, ?_, ?_, xs ++ [v0, v1, v2], ?_, ?_⟩
  · exact hg.os.trans (h7.os.trans (h6.os.trans h.bel.os))
  · exact hg.tape.trans (h7.tape.trans (h6.tape.trans h.bel.tape))
  · exact hg.output.trans (h7.output.trans (h6.output.trans h.bel.output))
  · omega
  · exact fun b hb => (st6 b (by omega) (low b (by omega)) (by omega)).trans (h.bel.block b hb)
  · exact h.box.carry (st6 _ (by omega) (low _ (by omega)) (by omega))
  · exact h.res.carry (st6 _ (by omega) (low _ (by omega)) (by omega))
  · have ho8 : Blk w8 (w.heap.size + 1 + 1) 24 [.int .i64 k, .int .i64 n, .slice ao j capo] := h.out.carry ((hg.block _ (by omega) (fun e => low _ (by omega) e.symm)).trans ((h7.block _ (by omega)).trans (h6.block _ (by omega))))
    exact ho8.set 2 _
  · obtain ⟨o1, o2⟩ := ho
    refine ⟨o1, ?_⟩
    rcases o2 with o2 | ⟨g, c, cur, e, hb, hcur, r⟩
    · exact .inl o2
    · exact .inr ⟨g, c, cur, e, hb, (Below.heap_setCell _ _ _ _ (by simp; omega)).trans hcur, r⟩
  · intro i y hi hy
    have nb : ∀ b, w.heap.size ≤ b → b < w7.heap.size → (Value.slice ao j capo).ownBlock ≠ some b → (Value.slice ao' (j + 1) cap').ownBlock ≠ some b := fun b _ h2 h3 e => by
      rcases hnb with h4 | ⟨g, h4, h5⟩
      · rw [h4] at e; exact h3 e
      · rw [h4] at e; simp at e; omega
    by_cases e : i = j
    · subst e
      obtain rfl : x = y := by rw [hx] at hy; simpa using hy
      refine ⟨v0, v1, v2, ?_, ?_, ?_, ?_⟩
      · rw [List.getElem?_append_right (by omega), show i * 3 - xs.length = 0 by omega]; rfl
      · rw [List.getElem?_append_right (by omega), show i * 3 + 1 - xs.length = 1 by omega]; rfl
      · rw [List.getElem?_append_right (by omega), show i * 3 + 2 - xs.length = 2 by omega]; rfl
      · have hno : ∀ b, wr.heap.size ≤ b → (Value.slice ao i capo).ownBlock ≠ some b := fun b hb e => by have := hob b e; omega
        refine In.carry (fun b hb => ?_) (fun b hb => ?_) _ _ hin
        · exact (st b (by omega) (hno b hb.1) (by omega)).trans (h7.block b (by omega))
        · exact ⟨by omega, by omega, nb b (by omega) (by omega) (hno b hb.1)⟩
    · obtain ⟨c0, c1, c2, e0, e1, e2, hi'⟩ := hall i y (by omega) hy
      refine ⟨c0, c1, c2, ?_, ?_, ?_, ?_⟩
      · rw [List.getElem?_append_left (by omega)]; exact e0
      · rw [List.getElem?_append_left (by omega)]; exact e1
      · rw [List.getElem?_append_left (by omega)]; exact e2
      · refine In.carry (fun b hb => ?_) (fun b hb => ?_) _ _ hi'
        · exact st6 b hb.2.1 hb.2.2 (by omega)
        · exact ⟨hb.1, by omega, nb b (by omega) (by omega) hb.2.2⟩

theorem owns_cell {w : World} {base : Nat} {e : TypeId} {size n cap : Nat} {ao : Option Addr} {xs : List Value} (h : w.ownsRow base e size (.slice ao n cap) n xs) {i : Nat} {c : Value} (hi : xs[i]? = some c) : ∃ g, ao = some ⟨g, 0, none⟩ ∧ base ≤ g ∧ g < w.heap.size ∧ n ≤ cap ∧ cap ≤ maxLen ∧ w.cell? ⟨g, i, none⟩ = some c := by
  obtain ⟨h1, h2⟩ := h
  have hl := (List.getElem?_eq_some_iff.1 hi).1
  rcases h2 with ⟨_, h2⟩ | ⟨g, c', cur, he, hb, hcur, hn, hm, _, ht⟩
  · subst h2; simp at h1; subst h1; simp at hi
  · simp only [Value.slice.injEq] at he
    obtain ⟨rfl, _, rfl⟩ := he
    refine ⟨g, rfl, hb, (Array.getElem?_eq_some_iff.1 hcur).1, hn, hm, ?_⟩
    rw [cell_of_row w g i cur e (0, 0) hcur]
    rw [← ht, List.getElem?_take_of_lt (by omega)] at hi
    simpa using hi

theorem RL.done {w wr : World} {by_ args : List Lv} {k n : Int} {a : Option Addr} {cap : Nat} {ao : Option Addr} {capo : Nat} (h : RL w wr by_ args k n a cap args.length ao capo) (hsz : w.heap.size + 3 ≤ wr.heap.size) (hcap : args.length ≤ capo ∧ capo ≤ maxLen) (hk : -9223372036854775808 ≤ k ∧ k ≤ 9223372036854775807) (hn : -9223372036854775808 ≤ n ∧ n ≤ 9223372036854775807) :
    In (((wr.setCell ⟨w.heap.size + 1, 0, none⟩ (.int .i64 k)).setCell ⟨w.heap.size + 1, 1, none⟩ (.int .i64 n)).setCell ⟨w.heap.size + 1, 2, none⟩ (.slice ao args.length capo)) (fun b => w.heap.size ≤ b ∧ b < wr.heap.size) (.mk k n (Lv.puts by_ args)) (.agg #[.int .i64 k, .int .i64 n, .slice ao args.length capo]) ∧
      Below w.heap.size w (((wr.setCell ⟨w.heap.size + 1, 0, none⟩ (.int .i64 k)).setCell ⟨w.heap.size + 1, 1, none⟩ (.int .i64 n)).setCell ⟨w.heap.size + 1, 2, none⟩ (.slice ao args.length capo)) := by
  obtain ⟨xs, hown, hall⟩ := h.row
  obtain ⟨_, K7⟩ := st3 h.res (.int .i64 k) (.int .i64 n) (.slice ao args.length capo)
  refine ⟨?_, h.bel.trans (K7.below (by omega) (by omega))⟩
  rw [in_mk]
  refine ⟨ao, capo, by rw [Lv.puts_length], hk, hn, by rw [Lv.puts_length]; exact hcap.1, hcap.2, ?_⟩
  by_cases h0 : args = []
  · subst h0; exact .inl (by rw [Lv.puts])
  · have hpos : 0 < args.length := List.length_pos_iff.2 h0
    obtain ⟨c, hc⟩ : ∃ c, xs[0]? = some c := ⟨_, List.getElem?_eq_getElem (by rw [hown.1]; omega)⟩
    obtain ⟨g, rfl, hg1, hg2, _⟩ := owns_cell hown hc
    refine .inr ⟨g, 0, rfl, by omega, InAll.of_get fun i L hi => ?_⟩
    obtain ⟨x, hx, rfl⟩ := Lv.puts_get hi
    obtain ⟨c0, c1, c2, e0, e1, e2, ho⟩ := hall i x (List.getElem?_eq_some_iff.1 hx).1 hx
    have cc : ∀ {i c}, xs[i]? = some c → (((wr.setCell ⟨w.heap.size + 1, 0, none⟩ (.int .i64 k)).setCell ⟨w.heap.size + 1, 1, none⟩ (.int .i64 n)).setCell ⟨w.heap.size + 1, 2, none⟩ (.slice (some ⟨g, 0, none⟩) args.length capo)).cell? ⟨g, i, none⟩ = some c := fun {i c} hi => by
      obtain ⟨g', e, _, _, _, _, h5⟩ := owns_cell hown hi
      obtain rfl : g = g' := by simpa using e
      exact (World.cell?_of_block (w := wr) (a := ⟨g, i, none⟩) (K7.block g hg2 (by omega))).trans h5
    rw [Nat.zero_add]
    exact ⟨c0, c1, c2, cc e0, cc e1, cc e2, In.carry (fun b hb => K7.block b hb.2.1 (by omega)) (fun b hb => ⟨by omega, hb.2.1⟩) _ _ ho⟩
end Go.Proofs.YtogfmpjgmabomaaDoor
