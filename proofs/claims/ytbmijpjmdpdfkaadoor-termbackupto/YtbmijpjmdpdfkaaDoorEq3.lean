/- The walk of term's Equal of a term and itself. No condition but that it lies in memory, has fewer than 2^20 parts, and no Levels. -/
import Derived.Test.YtbmijpjmdpdfkaaDoorCg4
import Derived.Test.YtbmijpjmdpdfkaaDoorWeigh
namespace Go.Proofs.YtbmijpjmdpdfkaaDoor
open Go.RowKit

/-- Where a walk is, when pre have come. -/
structure Wk (N B g : Nat) (root : Pt) (wr : World) (pre : List Pt) (f : Option Addr) (st : Stk) (v : Value) : Prop where
  ws : WS wr N g f st v
  ini : (f = some ⟨root.b, root.off, none⟩ ∧ st = [] ∧ pre = [] ∧ v = .slice none 0 0) ∨ (f = none ∧ root.seq = pre ++ Stk.rem st)
  ops : ∀ x ∈ st, Op1 wr B root.b pre.length x.1 x.2
  len : st.length ≤ pre.length
  own : ∀ k, v.ownBlock = some k → N ≤ k
  size : N ≤ wr.heap.size
  tabs : Tabs wr
  rt : TCells wr root.b root.off root.t ∧ TIn wr (· < B) root.t

theorem Wk.next {N B g : Nat} {root : Pt} {wr : World} {pre : List Pt} {f : Option Addr} {st : Stk} {v : Value} (h : Wk N B g root wr pre f st v)
    (hd : root.d = 1) (hm : root.m = 0) (hB : B ≤ N) (hg : N ≤ g) (hrb : root.b < N) (hsz : root.t.size < 1048576) :
    (pre = root.seq ∧ f = none ∧ st = []) ∨ ∃ x st', root.seq = pre ++ x :: Stk.rem st' ∧ (Calls Tryd.prog 57 #[.pointer (some ⟨g, 0, none⟩)] wr fun e w' => e = .returned (.tuple #[x.val, .bool true]) ∧ Nxt wr w' N g v st') ∧
      st'.length ≤ pre.length + 1 ∧ ∀ y ∈ st', Op1 wr B root.b (pre.length + 1) y.1 y.2 := by
  have hs := h.size
  rcases h.ini with ⟨rfl, rfl, rfl, rfl⟩ | ⟨rfl, hseq⟩
  · refine .inr ⟨root, push root [], by simpa [Stk.rem] using (push_rem root []).symm, next_first root hd hm g N wr (· < B) h.rt.1 h.rt.2 (by omega) (by omega) h.ws, push_length _ _, fun y hy => ?_⟩
    rcases push_mem hy with hy | ⟨rfl, hne⟩
    · cases hy
    · exact ⟨h.rt.1, h.rt.2, .inr rfl, List.length_pos_iff.2 hne, by simp [hd], by simp [hm]⟩
  · have hlen : (root.seq).length = root.t.size := Tr.seq_len _ _ _ _ _
    have hpl : pre.length ≤ root.t.size := by rw [← hlen, hseq]; simp
    match st, h, hseq with
    | [], h, hseq => exact .inl ⟨by simpa [Stk.rem] using hseq.symm, rfl, rfl⟩
    | (p, j) :: st, h, hseq =>
      have hop := h.ops (p, j) (by simp)
      have hl := h.len
      simp only [List.length_cons] at hl
      obtain ⟨T, hT⟩ : ∃ T, p.t.args[j]? = some T := ⟨_, List.getElem?_eq_getElem hop.lt⟩
      have h1 := hop.d
      have h2 := hop.m
      simp only at h1 h2
      have h3 := hop.at'
      simp only at h3
      refine .inr ⟨p.kid j T, push (p.kid j T) (took p j st), ?_, ?_, ?_, ?_⟩
      · rw [push_rem, ← took_rem p j st hT]; exact hseq
      · exact next_top p j st T hT (by omega) (by omega) g N B wr h.tabs hop.cells hop.tin (by omega) (by omega) (by omega) (by omega) v h.ws (by omega) (fun k e => by have := h.own k e; omega)
      · unfold took
        split
        · have := push_length (p.kid j T) st; omega
        · have := push_length (p.kid j T) ((p, j + 1) :: st); simp only [List.length_cons] at this; omega
      · intro y hy
        rcases push_mem hy with hy | ⟨rfl, hne⟩
        · unfold took at hy
          split at hy
          · exact (h.ops y (by simp [hy])).up (by omega)
          · rcases List.mem_cons.1 hy with rfl | hy
            · exact ⟨hop.cells, hop.tin, hop.at', by have := hop.lt; simp only at this ⊢; omega, by simp only; omega, by simp only; omega⟩
            · exact (h.ops y (by simp [hy])).up (by omega)
        · exact hop.child hT (List.length_pos_iff.2 hne)

theorem Wk.carry {N B g : Nat} {root : Pt} {wr w' : World} {pre : List Pt} {f : Option Addr} {st : Stk} {v : Value} (h : Wk N B g root wr pre f st v) (h3 : 3 ≤ B)
    (hb : ∀ k, k < B ∨ k = root.b ∨ k = g ∨ v.ownBlock = some k → w'.heap[k]? = wr.heap[k]?) (hs : wr.heap.size ≤ w'.heap.size) : Wk N B g root w' pre f st v :=
  ⟨⟨h.ws.blk.carry (hb _ (.inr (.inr (.inl rfl)))), owns_block h.ws.row (fun k e => hb k (.inr (.inr (.inr e))))⟩, h.ini, fun x hx => (h.ops x hx).carry (fun k hk => hb k (hk.elim .inl (fun h => .inr (.inl h)))), h.len, h.own, Nat.le_trans h.size hs,
    h.tabs.carry (fun k hk => hb k (.inl (by omega))), h.rt.1.carry (hb _ (.inr (.inl rfl))), TIn.carry (fun b hlt => hb b (.inl hlt)) (fun _ h => h) _ h.rt.2⟩

theorem Wk.step {N B g : Nat} {root : Pt} {wr w' : World} {pre : List Pt} {f : Option Addr} {st st' : Stk} {v : Value} {x : Pt} (h : Wk N B g root wr pre f st v) (h3 : 3 ≤ B) (hB : B ≤ N) (hg : N ≤ g) (hrb : root.b < N)
    (hseq : root.seq = pre ++ x :: Stk.rem st') (hst : st'.length ≤ pre.length + 1) (hops : ∀ y ∈ st', Op1 wr B root.b (pre.length + 1) y.1 y.2) (hn : Nxt wr w' N g v st') :
    ∃ v', Wk N B g root w' (pre ++ [x]) none st' v' ∧ ∀ k, v'.ownBlock = some k → v.ownBlock = some k ∨ wr.heap.size ≤ k := by
  obtain ⟨v', hws, hv⟩ := hn.ws
  have hs := h.size
  have hlow : ∀ k, k < N → w'.heap[k]? = wr.heap[k]? := fun k hk => hn.keep.block k (by omega) (fun e => by
    rcases e with e | e
    · omega
    · have := h.own k e; omega)
  have hz := hn.keep.size
  refine ⟨v', ⟨hws, .inr ⟨rfl, by rw [hseq]; simp⟩, fun y hy => ?_, by simpa using hst, fun k e => ?_, by omega, h.tabs.carry (fun k hk => hlow k (by omega)), h.rt.1.carry (hlow _ hrb), TIn.carry (fun b hlt => hlow b (by omega)) (fun _ h => h) _ h.rt.2⟩, hv⟩
  · have := hops y hy
    simp only [List.length_append, List.length_cons, List.length_nil, Nat.zero_add]
    exact this.carry (fun k hk => hlow k (by omega))
  · rcases hv k e with h1 | h1
    · exact h.own k h1
    · omega

theorem seq_same (T : Tr) (g g' i : Nat) (x y : Pt) (hx : (Pt.mk g 0 T 1 0).seq[i]? = some x) (hy : (Pt.mk g' 0 T 1 0).seq[i]? = some y) : x.t = y.t ∧ x.off = y.off ∧ x.d = y.d ∧ x.m = y.m := by
  rw [Pt.seq_eq] at hx hy
  cases i with
  | zero => simp at hx hy; subst hx hy; exact ⟨rfl, rfl, rfl, rfl⟩
  | succ i =>
    simp only [List.getElem?_cons_succ] at hx hy
    have : (Pt.mk g 0 T 1 0).from 0 = (Pt.mk g' 0 T 1 0).from 0 := rfl
    rw [this] at hx
    rw [hx] at hy
    cases hy
    exact ⟨rfl, rfl, rfl, rfl⟩
end Go.Proofs.YtbmijpjmdpdfkaaDoor

/- The walk of term's Equal of a term and itself. No condition but that it lies in memory, has fewer than 2^20 parts, and no Levels. -/
namespace Go.Proofs.YtbmijpjmdpdfkaaDoor
open Go.RowKit

theorem owns_apart {w : World} {b b' : Nat} {e e' : TypeId} {s s' n n' k : Nat} {v v' : Value} {xs xs' : List Value} (h : w.ownsRow b e s v n xs) (h' : w.ownsRow b' e' s' v' n' xs') (hne : e ≠ e') (hk : v.ownBlock = some k) : v'.ownBlock ≠ some k := fun hk' => by
  rcases h.2 with ⟨rfl, _⟩ | ⟨g, cap, cur, rfl, _, hcur, _⟩
  · cases hk
  · rcases h'.2 with ⟨rfl, _⟩ | ⟨g', cap', cur', rfl, _, hcur', _⟩
    · cases hk'
    · simp [Value.ownBlock] at hk hk'
      subst hk hk'
      rw [hcur] at hcur'
      simp only [Option.some.injEq, Obj.cells.injEq] at hcur'
      exact hne hcur'.2.1

/-- Where Equal is between two rounds. -/
structure EqS (W5 : World) (H B : Nat) (T : Tr) (wr : World) (pre preB : List Pt) (fA fB : Option Addr) (stA stB : Stk) (vA vB vL : Value) : Prop where
  a : Wk (H + 2) B (H + 2) ⟨H, 0, T, 1, 0⟩ wr pre fA stA vA
  b : Wk (H + 2) B (H + 3) ⟨H + 1, 0, T, 1, 0⟩ wr preB fB stB vB
  lk : Lk wr (H + 2) (H + 4) (.int .i64 0) (.map none) vL
  dis : ∀ k, vA.ownBlock = some k → vB.ownBlock ≠ some k
  low : Below (H + 2) W5 wr

theorem EqS.stepA {W5 : World} {H B : Nat} {T : Tr} {wr w' : World} {pre preB : List Pt} {fA fB : Option Addr} {stA stB st' : Stk} {vA vB vL : Value} {x : Pt} (h : EqS W5 H B T wr pre preB fA fB stA stB vA vB vL) (h3 : 3 ≤ B) (hB : B ≤ H)
    (hseq : (Pt.mk H 0 T 1 0).seq = pre ++ x :: Stk.rem st') (hst : st'.length ≤ pre.length + 1) (hops : ∀ y ∈ st', Op1 wr B H (pre.length + 1) y.1 y.2) (hn : Nxt wr w' (H + 2) (H + 2) vA st') :
    ∃ vA', EqS W5 H B T w' (pre ++ [x]) preB none fB st' stB vA' vB vL := by
  obtain ⟨vA', ha, hv⟩ := h.a.step h3 (by omega) (Nat.le_refl _) (by show H < H + 2; omega) hseq hst hops hn
  have hk := hn.keep
  have hkb : ∀ k, k < wr.heap.size → k ≠ H + 2 → vA.ownBlock ≠ some k → w'.heap[k]? = wr.heap[k]? := fun k h1 h2 h4 => hk.block k h1 (fun e => e.elim h2 h4)
  have lowA : ∀ k, k < H + 2 → w'.heap[k]? = wr.heap[k]? := fun k h1 => hkb k (by have := h.a.size; omega) (by omega) (fun e => by have := h.a.own k e; omega)
  refine ⟨vA', ha, h.b.carry h3 (fun k hk' => ?_) hk.size, ⟨h.lk.blk.carry (hkb _ h.lk.blk.lt (by omega) (owns_ne h.a.ws.row h.lk.blk (by decide))), owns_block h.lk.row (fun k e => hkb k (owns_own h.lk.row e).2 (fun e2 => owns_ne h.lk.row h.a.ws.blk (by decide) (by rw [e, e2])) (owns_apart h.lk.row h.a.ws.row (by decide) e))⟩, fun k e e2 => ?_, h.low.trans (hk.below (by have := h.a.size; omega) (fun k e => by rcases e with e | e; (omega); (exact h.a.own k e)))⟩
  · rcases hk' with h1 | h1 | h1 | h1
    · exact lowA k (by omega)
    · exact lowA k (by simp only at h1; omega)
    · subst h1; exact hkb _ h.b.ws.blk.lt (by omega) (owns_ne h.a.ws.row h.b.ws.blk (by decide))
    · exact hkb k (owns_own h.b.ws.row h1).2 (fun e2 => owns_ne h.b.ws.row h.a.ws.blk (by decide) (by rw [h1, e2])) (fun e => h.dis k e h1)
  · rcases hv k e with h1 | h1
    · exact h.dis k h1 e2
    · have := (owns_own h.b.ws.row e2).2; omega

theorem EqS.stepB {W5 : World} {H B : Nat} {T : Tr} {wr w' : World} {pre preB : List Pt} {fA fB : Option Addr} {stA stB st' : Stk} {vA vB vL : Value} {x : Pt} (h : EqS W5 H B T wr pre preB fA fB stA stB vA vB vL) (h3 : 3 ≤ B) (hB : B ≤ H)
    (hseq : (Pt.mk (H + 1) 0 T 1 0).seq = preB ++ x :: Stk.rem st') (hst : st'.length ≤ preB.length + 1) (hops : ∀ y ∈ st', Op1 wr B (H + 1) (preB.length + 1) y.1 y.2) (hn : Nxt wr w' (H + 2) (H + 3) vB st') :
    ∃ vB', EqS W5 H B T w' pre (preB ++ [x]) fA none stA st' vA vB' vL := by
  obtain ⟨vB', hb, hv⟩ := h.b.step h3 (by omega) (by omega) (by show H + 1 < H + 2; omega) hseq hst hops hn
  have hk := hn.keep
  have hkb : ∀ k, k < wr.heap.size → k ≠ H + 3 → vB.ownBlock ≠ some k → w'.heap[k]? = wr.heap[k]? := fun k h1 h2 h4 => hk.block k h1 (fun e => e.elim h2 h4)
  have lowA : ∀ k, k < H + 2 → w'.heap[k]? = wr.heap[k]? := fun k h1 => hkb k (by have := h.a.size; omega) (by omega) (fun e => by have := h.b.own k e; omega)
  refine ⟨vB', h.a.carry h3 (fun k hk' => ?_) hk.size, hb, ⟨h.lk.blk.carry (hkb _ h.lk.blk.lt (by omega) (owns_ne h.b.ws.row h.lk.blk (by decide))), owns_block h.lk.row (fun k e => hkb k (owns_own h.lk.row e).2 (fun e2 => owns_ne h.lk.row h.b.ws.blk (by decide) (by rw [e, e2])) (owns_apart h.lk.row h.b.ws.row (by decide) e))⟩, fun k e e2 => ?_, h.low.trans (hk.below (by have := h.a.size; omega) (fun k e => by rcases e with e | e; (omega); (exact h.b.own k e)))⟩
  · rcases hk' with h1 | h1 | h1 | h1
    · exact lowA k (by omega)
    · exact lowA k (by simp only at h1; omega)
    · subst h1; exact hkb _ h.a.ws.blk.lt (by omega) (owns_ne h.b.ws.row h.a.ws.blk (by decide))
    · exact hkb k (owns_own h.a.ws.row h1).2 (fun e2 => owns_ne h.a.ws.row h.b.ws.blk (by decide) (by rw [h1, e2])) (h.dis k h1)
  · rcases hv k e2 with h1 | h1
    · exact h.dis k e h1
    · have := (owns_own h.a.ws.row e).2; omega

theorem EqS.below {W5 : World} {H B : Nat} {T : Tr} {wr w' : World} {pre preB : List Pt} {fA fB : Option Addr} {stA stB : Stk} {vA vB vL : Value} (h : EqS W5 H B T wr pre preB fA fB stA stB vA vB vL) (h3 : 3 ≤ B) (hB : B ≤ H) (hb : Below wr.heap.size wr w') :
    EqS W5 H B T w' pre preB fA fB stA stB vA vB vL := by
  have hz := h.a.size
  refine ⟨h.a.carry h3 (fun k hk => hb.block k ?_) hb.size, h.b.carry h3 (fun k hk => hb.block k ?_) hb.size, ⟨h.lk.blk.below hb h.lk.blk.lt, owns_below h.lk.row hb⟩, h.dis, h.low.trans (hb.mono hz)⟩
  · rcases hk with h1 | h1 | h1 | h1
    · omega
    · simp only at h1; omega
    · subst h1; exact h.a.ws.blk.lt
    · exact (owns_own h.a.ws.row h1).2
  · rcases hk with h1 | h1 | h1 | h1
    · omega
    · simp only at h1; omega
    · subst h1; exact h.b.ws.blk.lt
    · exact (owns_own h.b.ws.row h1).2

theorem EqS.held {W5 : World} {H B : Nat} {T : Tr} {wr w' : World} {pre preB : List Pt} {fA fB : Option Addr} {stA stB : Stk} {vA vB vL vL' : Value} (h : EqS W5 H B T wr pre preB fA fB stA stB vA vB vL) (h3 : 3 ≤ B) (hB : B ≤ H)
    (hl : Lk w' (H + 2) (H + 4) (.int .i64 0) (.map none) vL') (hk : Keep wr w' (fun k => k = H + 4 ∨ vL.ownBlock = some k)) : EqS W5 H B T w' pre preB fA fB stA stB vA vB vL' := by
  have hz := h.a.size
  have hkb : ∀ k, k < wr.heap.size → k ≠ H + 4 → vL.ownBlock ≠ some k → w'.heap[k]? = wr.heap[k]? := fun k h1 h2 h4 => hk.block k h1 (fun e => e.elim h2 h4)
  have lowA : ∀ k, k < H + 2 → w'.heap[k]? = wr.heap[k]? := fun k h1 => hkb k (by omega) (by omega) (fun e => by have := (owns_own h.lk.row e).1; omega)
  refine ⟨h.a.carry h3 (fun k hk => ?_) hk.size, h.b.carry h3 (fun k hk => ?_) hk.size, hl, h.dis, h.low.trans (hk.below hz (fun k e => by rcases e with e | e; (omega); (exact (owns_own h.lk.row e).1)))⟩
  · rcases hk with h1 | h1 | h1 | h1
    · exact lowA k (by omega)
    · exact lowA k (by simp only at h1; omega)
    · subst h1; exact hkb _ h.a.ws.blk.lt (by omega) (owns_ne h.lk.row h.a.ws.blk (by decide))
    · exact hkb k (owns_own h.a.ws.row h1).2 (fun e2 => owns_ne h.a.ws.row h.lk.blk (by decide) (by rw [h1, e2])) (owns_apart h.a.ws.row h.lk.row (by decide) h1)
  · rcases hk with h1 | h1 | h1 | h1
    · exact lowA k (by omega)
    · exact lowA k (by simp only at h1; omega)
    · subst h1; exact hkb _ h.b.ws.blk.lt (by omega) (owns_ne h.lk.row h.b.ws.blk (by decide))
    · exact hkb k (owns_own h.b.ws.row h1).2 (fun e2 => owns_ne h.b.ws.row h.lk.blk (by decide) (by rw [h1, e2])) (owns_apart h.b.ws.row h.lk.row (by decide) h1)
end Go.Proofs.YtbmijpjmdpdfkaaDoor

/- The walk of term's Equal of a term and itself. No condition but that it lies in memory, has fewer than 2^20 parts, and no Levels. -/
namespace Go.Proofs.YtbmijpjmdpdfkaaDoor
open Go.RowKit

theorem enter58 (args : Array Value) (w : World) : (callFunc 58 args).run Tryd.prog w = .ok (.enter 58 args) w := enter_of Tryd.func58 (by kernel_rfl) rfl args w
theorem enter59 (args : Array Value) (w : World) : (callFunc 59 args).run Tryd.prog w = .ok (.enter 59 args) w := enter_of Tryd.func59 (by kernel_rfl) rfl args w

/-- A call with three arguments whose guard lets it run. -/
theorem step_call3 {P : Program} {ops : Array Oper} {o : Oper} {a : Act} {w : World} {K : Act → World → Prop} {Q : Exit → Act → World → Prop} {E : Prop}
    (hw : Region.wanted o (yielded ops a.tmps) = true) (f : FuncId) (hrun : ∀ (args : Array Value) (w : World), (callFunc f args).run P w = .ok (.enter f args) w) (x y z : Operand) (ts : Array TypeId) (hop : o.op = Op.call { callee := Callee.value (Operand.func f), args := #[x, y, z], argTypes := ts })
    (u v t : Value) (hx : a.eval x = u) (hy : a.eval y = v) (hz : a.eval z = t) (h : Calls P f #[u, v, t] w fun e w' => ∃ r, e = .returned r ∧ K (a.put o.dst r) w') :
    if Region.wanted o (yielded ops a.tmps) = true then Oper.wp P o a w K Q else E := by
  rw [if_pos hw]
  subst hx hy hz
  unfold Oper.wp
  have he : (execOp a.eval o).run P w = .ok (.enter f #[a.eval x, a.eval y, a.eval z]) w := by
    have := hrun #[a.eval x, a.eval y, a.eval z] w
    simpa [go_sem, execOp, hop] using this
  rw [he]
  refine h.mono ?_
  rintro e w' ⟨r, rfl, hr⟩
  exact hr

theorem five_new (w : World) (l0 l1 l2 l3 l4 : List Value) (t0 t1 t2 t3 t4 : TypeId) : ∃ w1, ((((w.alloc (.cells l0.toArray t0)).alloc (.cells l1.toArray t1)).alloc (.cells l2.toArray t2)).alloc (.cells l3.toArray t3)).alloc (.cells l4.toArray t4) = w1 ∧ Below w.heap.size w w1 ∧
    Blk w1 w.heap.size t0 l0 ∧ Blk w1 (w.heap.size + 1) t1 l1 ∧ Blk w1 (w.heap.size + 2) t2 l2 ∧ Blk w1 (w.heap.size + 3) t3 l3 ∧ Blk w1 (w.heap.size + 4) t4 l4 ∧ w1.heap.size = w.heap.size + 5 := by
  obtain ⟨w1, h1, hb, A, B, C, D, hs⟩ := four_new w l0 l1 l2 l3 t0 t1 t2 t3
  rw [h1]
  refine ⟨_, rfl, hb.alloc (by omega) _, A.alloc _, B.alloc _, C.alloc _, D.alloc _, ?_, by simp [hs]⟩
  have := Blk.new w1 t4 l4
  rwa [hs] at this

set_option maxRecDepth 100000 in
set_option maxHeartbeats 1000000 in
theorem equal_self (T : Tr) (w : World) (B : Nat) (hT : Tabs w) (h3 : 3 ≤ B) (hB : B ≤ w.heap.size) (hin : TIn w (· < B) T) (hsz : T.size < 1048576) (hpl : ∀ g, Plainly (Pt.mk g 0 T 1 0).seq) :
    Calls Tryd.prog 32 #[T.val, T.val] w fun e w' => e = .returned (.bool true) ∧ Below w.heap.size w w' := by
  unfold Tr.val
  obtain ⟨w5, hw5, hb5, BA, BB, CA, CB, CL, hs5⟩ := five_new w ([.int .i64 T.k, .int .i64 T.n, .string T.s, .slice T.la T.ls.length T.lc, .slice T.a T.args.length T.c] : List Value) ([.int .i64 T.k, .int .i64 T.n, .string T.s, .slice T.la T.ls.length T.lc, .slice T.a T.args.length T.c] : List Value) [.pointer (some ⟨w.heap.size, 0, none⟩), .slice none 0 0] [.pointer (some ⟨w.heap.size + 1, 0, none⟩), .slice none 0 0] [.slice none 0 0, .int .i64 0, .map none] 25 25 86 86 90
  have T5 := hT.on hb5
  have I5 := hin.below hb5 hB
  have cA : TCells w5 w.heap.size 0 T := tcells_box BA
  have cB : TCells w5 (w.heap.size + 1) 0 T := tcells_box BB
  have rA := root_at w5 B w.heap.size T cA I5
  have rB := root_at w5 B (w.heap.size + 1) T cB I5
  have S0 : EqS w5 w.heap.size B T w5 [] [] (some ⟨w.heap.size, 0, none⟩) (some ⟨w.heap.size + 1, 0, none⟩) [] [] (.slice none 0 0) (.slice none 0 0) (.slice none 0 0) :=
    ⟨⟨⟨CA, rfl, .inl ⟨rfl, rfl⟩⟩, .inl ⟨rfl, rfl, rfl, rfl⟩, (fun x hx => by cases hx), Nat.le_refl _, (fun k e => by cases e), by omega, T5, cA, I5⟩,
     ⟨⟨CB, rfl, .inl ⟨rfl, rfl⟩⟩, .inl ⟨rfl, rfl, rfl, rfl⟩, (fun x hx => by cases hx), Nat.le_refl _, (fun k e => by cases e), by omega, T5, cB, I5⟩,
     ⟨CL, rfl, .inl ⟨rfl, rfl⟩⟩, (fun k e => by cases e), Below.refl _ _⟩
  clear BA BB CA CB CL cA cB I5 T5
  go_enter Tryd.func32, Tryd.ntmps32
  go_wp2_with fail
  go_loopw [14] (fun i wr => ∃ pre preB fA fB stA stB vA vB vL, i = .int .i64 ((pre.length : Nat) : Int) ∧ EqS w5 w.heap.size B T wr pre preB fA fB stA stB vA vB vL ∧ preB.length = pre.length) (fun i _ => T.size + 1 - (intOf i).toNat)
  case atStart => exact ⟨[], [], _, _, [], [], _, _, _, rfl, S0, rfl⟩
  case round =>
    clear S0 hw5
    obtain ⟨pre, preB, fA, fB, stA, stB, vA, vB, vL, rfl, I, hlp⟩ := hrel
    have hlen : ((Pt.mk w.heap.size 0 T 1 0).seq).length = T.size := Tr.seq_len _ _ _ _ _
    have hlenB : ((Pt.mk (w.heap.size + 1) 0 T 1 0).seq).length = T.size := Tr.seq_len _ _ _ _ _
    rcases I.a.next rfl rfl (by omega) (Nat.le_refl _) (by show w.heap.size < w.heap.size + 2; omega) hsz with ⟨hpre, rfl, rfl⟩ | ⟨x, stA', hseq, hcallA, hstA, hopsA⟩
    · have hpl2 : pre.length < 1048576 := by rw [hpre, hlen]; exact hsz
      have hdl : decide ((pre.length : Int) < 1048576) = true := by simp; omega
      have HH : Hid (pre.length < 1048576) := hpl2
      have HP : Hid (pre = (Pt.mk w.heap.size 0 T 1 0).seq) := hpre
      clear hpl2 hsz hlen hlenB hpre hlp hpl rA rB
      have hn := next_none (w.heap.size + 2) (w.heap.size + 2) wr vA I.a.ws
      go_wp2_with (go_at_call 57; refine hn.mono ?_; rintro e w6 ⟨rfl, hb6⟩)
      go_ret
      exact ⟨rfl, hb5.trans ((I.low.mono (by omega)).trans ((hb6.mono (by have := I.a.size; omega)).alloc (by have := I.a.size; have := hb6.size; omega) _))⟩
    · have hpl2 : pre.length < 1048576 := by rw [hseq] at hlen; simp at hlen; omega
      have hdl : decide ((pre.length : Int) < 1048576) = true := by simp; omega
      have HL : Hid (pre.length + 1 ≤ T.size ∧ pre.length ≤ 4611686018427387904) := by
        show _ ∧ _
        rw [hseq] at hlen
        simp only [List.length_append, List.length_cons] at hlen
        exact ⟨by omega, by omega⟩
      have HQ : Hid ((Pt.mk w.heap.size 0 T 1 0).seq = pre ++ x :: Stk.rem stA') := hseq
      have HB : Hid (preB.length = pre.length) := hlp
      have HS : Hid (T.size < 1048576) := hsz
      have HLB : Hid (((Pt.mk (w.heap.size + 1) 0 T 1 0).seq).length = T.size) := hlenB
      have hxm : x ∈ (Pt.mk w.heap.size 0 T 1 0).seq := by rw [hseq]; simp
      have hxi : (Pt.mk w.heap.size 0 T 1 0).seq[pre.length]? = some x := by rw [hseq]; simp
      clear hpl2 hsz hlen hlenB hseq hlp
      have hzr := I.a.size
      have hgl := I.b.ws.blk.lt
      have hll := I.lk.blk.lt
      go_wp2_with fail
      refine hcallA.mono ?_
      rintro e w1 ⟨rfl, hx1⟩
      obtain ⟨vA', I1⟩ := I.stepA h3 hB HQ.out hstA hopsA hx1
      have hz1 := hx1.keep.size
      have hPx := hpl _ x hxm
      have hAx := rA x hxm
      obtain ⟨xb, xoff, xt, xd, xm⟩ := x
      obtain ⟨w2, hw2, hb2, P2, hs2⟩ := one_new w1 [.pointer (some ⟨xb, xoff, none⟩), .int .i64 (xd : Int), .int .i64 (xm : Int)] 50
      have I2 := I1.below h3 hB hb2
      rcases I2.b.next rfl rfl (by omega) (by omega) (by show w.heap.size + 1 < w.heap.size + 2; omega) HS.out with ⟨hpre, _, _⟩ | ⟨y, stB', hseqB, hcallB, hstB, hopsB⟩
      · have h1 := HLB.out
        rw [← hpre] at h1
        have h2 := HL.out.1
        have h3 := HB.out
        omega
      · have HQB : Hid ((Pt.mk (w.heap.size + 1) 0 T 1 0).seq = preB ++ y :: Stk.rem stB') := hseqB
        have hym : y ∈ (Pt.mk (w.heap.size + 1) 0 T 1 0).seq := by rw [hseqB]; simp
        have hyi : (Pt.mk (w.heap.size + 1) 0 T 1 0).seq[pre.length]? = some y := by rw [hseqB, ← HB.out]; simp
        clear hseqB
        have hAy := rB y hym
        have hst := (seq_same T _ _ _ _ _ hxi hyi).1
        obtain ⟨yb, yoff, yt, yd, ym⟩ := y
        simp only at hst hPx
        subst hst
        dsimp only [Pt.val]
        have p0 := P2.cell (j := 0) rfl
        have p1 := P2.cell (j := 1) rfl
        have p2 := P2.cell (j := 2) rfl
        go_wp2_with fail
        refine hcallB.mono ?_
        rintro e w3 ⟨rfl, hx3⟩
        obtain ⟨vB', I3⟩ := I2.stepB h3 hB HQB.out hstB hopsB hx3
        have hz3 := hx3.keep.size
        have P3 : Blk w3 w1.heap.size 50 [.pointer (some ⟨xb, xoff, none⟩), .int .i64 (xd : Int), .int .i64 (xm : Int)] := P2.carry (hx3.keep.block _ P2.lt (fun e => e.elim (fun e => by omega) (owns_ne I2.b.ws.row P2 (by decide))))
        obtain ⟨w4, hw4, hb4, Q4, hs4⟩ := one_new w3 [.pointer (some ⟨yb, yoff, none⟩), .int .i64 (yd : Int), .int .i64 (ym : Int)] 50
        have I4 := I3.below h3 hB hb4
        have P4 := P3.below hb4 P3.lt
        have X4 : TCells w4 xb xoff xt := (hAx.carry (fun k hk => I4.low.block k (by omega))).cells
        have Y4 : TCells w4 yb yoff xt := (hAy.carry (fun k hk => I4.low.block k (by omega))).cells
        have hcall58 := alike_self xb xoff xd xm yb yoff yd ym xt w4.drew (X4.carry rfl) (Y4.carry rfl)
        have x0 := P4.cell (j := 0) rfl
        have x1 := P4.cell (j := 1) rfl
        have x2 := P4.cell (j := 2) rfl
        have y0 := Q4.cell (j := 0) rfl
        have y1 := Q4.cell (j := 1) rfl
        have y2 := Q4.cell (j := 2) rfl
        have hls : xt.ls.length = 0 := by rw [hPx.2]; rfl
        dsimp only [Pt.val]
        have hz4 := I4.a.size
        clear hw2 hcallA hcallB p0 p1 p2
        go_wp2_with fail
        go_region_law (first
          | (refine step_call (by rfl) 58 enter58 (.tmp 26) (.tmp 27) #[50, 50] (by rfl) _ _ (by rfl) (by rfl) (hcall58.mono ?_); rintro e w6 ⟨rfl, hb6'⟩; refine ⟨_, rfl, ?_⟩; have hb6 : Below w4.heap.size w4 w6 := Below.trans (Below.refl _ _).drew hb6'; have I6 := I4.below h3 hB hb6; have P6 := P4.below hb6 P4.lt; have Q6 := Q4.below hb6 Q4.lt; have s0 := P6.cell (j := 0) rfl; have r0 := Q6.cell (j := 0) rfl; have s3 := (hAx.carry (fun k hk => I6.low.block k (by omega))).cells.c3; have r3 := (hAy.carry (fun k hk => I6.low.block k (by omega))).cells.c3; rw [hls] at s3 r3; have hcall59 := holds_nil (w.heap.size + 2) (w.heap.size + 4) (.int .i64 0) (.map none) vL xt.la xt.la xt.lc xt.lc w6 I6.lk I6.a.size)
          | (refine step_call3 (by rfl) 59 enter59 (.tmp 7) (.tmp 35) (.tmp 40) #[90, 22, 22] (by rfl) _ _ _ (by rfl) (by rfl) (by rfl) (hcall59.mono ?_); rintro e w7 ⟨rfl, ⟨vL', hl7, _⟩, hk7⟩; refine ⟨_, rfl, ?_⟩; have I7 := I6.held h3 hB hl7 hk7))
        all_goals
          clear hcall59 s3 r3 s0 r0 P6 Q6 hb6' hb6 I6 hk7 hl7 hcall58 X4 Y4 x0 x1 x2 y0 y1 y2 hls hz4 P4 Q4 I4 hb4 hw4 hs4 P3 hz3 hx3 I3 hstB hopsB hym hyi hAy hPx hAx P2 hs2 I2 hb2 hz1 hx1 I1 hstA hopsA hxm hxi rA rB hpl HQ HQB HLB HS hzr hgl hll I hT hin
          simp only [List.getElem_toArray, List.getElem_cons_succ, List.getElem_cons_zero, Act.put, List.setIfInBounds_toArray, List.set_cons_succ, List.set_cons_zero]
          go_wp2_with fail
          go_roundw
          case rel =>
            have hwr : wrap64 ((pre.length : Int) + 1) = (pre.length : Int) + 1 := wrap64_small _ (by omega) (by have := HL.out.2; omega)
            exact ⟨_, _, _, _, _, _, _, _, _, by simp [hwr], I7, by simp [HB.out]⟩
          case measure => exact meas_go _ _ HL.out.1 HL.out.2
end Go.Proofs.YtbmijpjmdpdfkaaDoor
