/- The walk of term's Equal of a term and itself. No condition but that it lies in memory, has fewer than 2^20 parts, and no Levels. -/
import Derived.Test.YtbmijpjmdpdfkaaDoorEq
namespace Go.Proofs.YtbmijpjmdpdfkaaDoor
open Go.RowKit

theorem owns_apart {w : World} {b b' : Nat} {e e' : TypeId} {s s' n n' k : Nat} {v v' : Value} {xs xs' : List Value} (h : w.ownsRow b e s v n xs) (h' : w.ownsRow b' e' s' v' n' xs') (hne : e ≠ e') (hk : v.ownBlock = some k) : v'.ownBlock ≠ some k := fun hk' => by
  rcases h.2 with ⟨rfl, _⟩ | ⟨g, cap, cur, rfl, _, hcur, _⟩
  · cases hk
  · rcases h'.2 with ⟨rfl, _⟩ | ⟨g', cap', cur', rfl, _, hcur', _⟩
    · cases hk'
    · simp [Value.ownBlock] at hk hk'
      subst hk hk'
      rw [hcur] at hcur'
      simp only [Option.some.injEq, Obj.cells.injEq] at hcur'
      exact hne hcur'.2.1

/-- Where Equal is between two rounds. -/
structure EqS (W5 : World) (H B : Nat) (T : Tr) (wr : World) (pre preB : List Pt) (fA fB : Option Addr) (stA stB : Stk) (vA vB vL : Value) : Prop where
  a : Wk (H + 2) B (H + 2) ⟨H, 0, T, 1, 0⟩ wr pre fA stA vA
  b : Wk (H + 2) B (H + 3) ⟨H + 1, 0, T, 1, 0⟩ wr preB fB stB vB
  lk : Lk wr (H + 2) (H + 4) (.int .i64 0) (.map none) vL
  dis : ∀ k, vA.ownBlock = some k → vB.ownBlock ≠ some k
  low : Below (H + 2) W5 wr

theorem EqS.stepA {W5 : World} {H B : Nat} {T : Tr} {wr w' : World} {pre preB : List Pt} {fA fB : Option Addr} {stA stB st' : Stk} {vA vB vL : Value} {x : Pt} (h : EqS W5 H B T wr pre preB fA fB stA stB vA vB vL) (h3 : 3 ≤ B) (hB : B ≤ H)
    (hseq : (Pt.mk H 0 T 1 0).seq = pre ++ x :: Stk.rem st') (hst : st'.length ≤ pre.length + 1) (hops : ∀ y ∈ st', Op1 wr B H (pre.length + 1) y.1 y.2) (hn : Nxt wr w' (H + 2) (H + 2) vA st') :
    ∃ vA', EqS W5 H B T w' (pre ++ [x]) preB none fB st' stB vA' vB vL := by
  obtain ⟨vA', ha, hv⟩ := h.a.step h3 (by omega) (Nat.le_refl _) (by show H < H + 2; omega) hseq hst hops hn
  have hk := hn.keep
  have hkb : ∀ k, k < wr.heap.size → k ≠ H + 2 → vA.ownBlock ≠ some k → w'.heap[k]? = wr.heap[k]? := fun k h1 h2 h4 => hk.block k h1 (fun e => e.elim h2 h4)
  have lowA : ∀ k, k < H + 2 → w'.heap[k]? = wr.heap[k]? := fun k h1 => hkb k (by have := h.a.size; omega) (by omega) (fun e => by have := h.a.own k e; omega)
  refine ⟨vA', ha, h.b.carry h3 (fun k hk' => ?_) hk.size, ⟨h.lk.blk.carry (hkb _ h.lk.blk.lt (by omega) (owns_ne h.a.ws.row h.lk.blk (by decide))), owns_block h.lk.row (fun k e => hkb k (owns_own h.lk.row e).2 (fun e2 => owns_ne h.lk.row h.a.ws.blk (by decide) (by rw [e, e2])) (owns_apart h.lk.row h.a.ws.row (by decide) e))⟩, fun k e e2 => ?_, h.low.trans (hk.below (by have := h.a.size; omega) (fun k e => by rcases e with e | e; (omega); (exact h.a.own k e)))⟩
  · rcases hk' with h1 | h1 | h1 | h1
    · exact lowA k (by omega)
    · exact lowA k (by simp only at h1; omega)
    · subst h1; exact hkb _ h.b.ws.blk.lt (by omega) (owns_ne h.a.ws.row h.b.ws.blk (by decide))
    · exact hkb k (owns_own h.b.ws.row h1).2 (fun e2 => owns_ne h.b.ws.row h.a.ws.blk (by decide) (by rw [h1, e2])) (fun e => h.dis k e h1)
  · rcases hv k e with h1 | h1
    · exact h.dis k h1 e2
    · have := (owns_own h.b.ws.row e2).2; omega

theorem EqS.stepB {W5 : World} {H B : Nat} {T : Tr} {wr w' : World} {pre preB : List Pt} {fA fB : Option Addr} {stA stB st' : Stk} {vA vB vL : Value} {x : Pt} (h : EqS W5 H B T wr pre preB fA fB stA stB vA vB vL) (h3 : 3 ≤ B) (hB : B ≤ H)
    (hseq : (Pt.mk (H + 1) 0 T 1 0).seq = preB ++ x :: Stk.rem st') (hst : st'.length ≤ preB.length + 1) (hops : ∀ y ∈ st', Op1 wr B (H + 1) (preB.length + 1) y.1 y.2) (hn : Nxt wr w' (H + 2) (H + 3) vB st') :
    ∃ vB', EqS W5 H B T w' pre (preB ++ [x]) fA none stA st' vA vB' vL := by
  obtain ⟨vB', hb, hv⟩ := h.b.step h3 (by omega) (by omega) (by show H + 1 < H + 2; omega) hseq hst hops hn
  have hk := hn.keep
  have hkb : ∀ k, k < wr.heap.size → k ≠ H + 3 → vB.ownBlock ≠ some k → w'.heap[k]? = wr.heap[k]? := fun k h1 h2 h4 => hk.block k h1 (fun e => e.elim h2 h4)
  have lowA : ∀ k, k < H + 2 → w'.heap[k]? = wr.heap[k]? := fun k h1 => hkb k (by have := h.a.size; omega) (by omega) (fun e => by have := h.b.own k e; omega)
  refine ⟨vB', h.a.carry h3 (fun k hk' => ?_) hk.size, hb, ⟨h.lk.blk.carry (hkb _ h.lk.blk.lt (by omega) (owns_ne h.b.ws.row h.lk.blk (by decide))), owns_block h.lk.row (fun k e => hkb k (owns_own h.lk.row e).2 (fun e2 => owns_ne h.lk.row h.b.ws.blk (by decide) (by rw [e, e2])) (owns_apart h.lk.row h.b.ws.row (by decide) e))⟩, fun k e e2 => ?_, h.low.trans (hk.below (by have := h.a.size; omega) (fun k e => by rcases e with e | e; (omega); (exact h.b.own k e)))⟩
  · rcases hk' with h1 | h1 | h1 | h1
    · exact lowA k (by omega)
    · exact lowA k (by simp only at h1; omega)
    · subst h1; exact hkb _ h.a.ws.blk.lt (by omega) (owns_ne h.b.ws.row h.a.ws.blk (by decide))
    · exact hkb k (owns_own h.a.ws.row h1).2 (fun e2 => owns_ne h.a.ws.row h.b.ws.blk (by decide) (by rw [h1, e2])) (h.dis k h1)
  · rcases hv k e2 with h1 | h1
    · exact h.dis k e h1
    · have := (owns_own h.a.ws.row e).2; omega

theorem EqS.below {W5 : World} {H B : Nat} {T : Tr} {wr w' : World} {pre preB : List Pt} {fA fB : Option Addr} {stA stB : Stk} {vA vB vL : Value} (h : EqS W5 H B T wr pre preB fA fB stA stB vA vB vL) (h3 : 3 ≤ B) (hB : B ≤ H) (hb : Below wr.heap.size wr w') :
    EqS W5 H B T w' pre preB fA fB stA stB vA vB vL := by
  have hz := h.a.size
  refine ⟨h.a.carry h3 (fun k hk => hb.block k ?_) hb.size, h.b.carry h3 (fun k hk => hb.block k ?_) hb.size, ⟨h.lk.blk.below hb h.lk.blk.lt, owns_below h.lk.row hb⟩, h.dis, h.low.trans (hb.mono hz)⟩
  · rcases hk with h1 | h1 | h1 | h1
    · omega
    · simp only at h1; omega
    · subst h1; exact h.a.ws.blk.lt
    · exact (owns_own h.a.ws.row h1).2
  · rcases hk with h1 | h1 | h1 | h1
    · omega
    · simp only at h1; omega
    · subst h1; exact h.b.ws.blk.lt
    · exact (owns_own h.b.ws.row h1).2

theorem EqS.held {W5 : World} {H B : Nat} {T : Tr} {wr w' : World} {pre preB : List Pt} {fA fB : Option Addr} {stA stB : Stk} {vA vB vL vL' : Value} (h : EqS W5 H B T wr pre preB fA fB stA stB vA vB vL) (h3 : 3 ≤ B) (hB : B ≤ H)
    (hl : Lk w' (H + 2) (H + 4) (.int .i64 0) (.map none) vL') (hk : Keep wr w' (fun k => k = H + 4 ∨ vL.ownBlock = some k)) : EqS W5 H B T w' pre preB fA fB stA stB vA vB vL' := by
  have hz := h.a.size
  have hkb : ∀ k, k < wr.heap.size → k ≠ H + 4 → vL.ownBlock ≠ some k → w'.heap[k]? = wr.heap[k]? := fun k h1 h2 h4 => hk.block k h1 (fun e => e.elim h2 h4)
  have lowA : ∀ k, k < H + 2 → w'.heap[k]? = wr.heap[k]? := fun k h1 => hkb k (by omega) (by omega) (fun e => by have := (owns_own h.lk.row e).1; omega)
  refine ⟨h.a.carry h3 (fun k hk => ?_) hk.size, h.b.carry h3 (fun k hk => ?_) hk.size, hl, h.dis, h.low.trans (hk.below hz (fun k e => by rcases e with e | e; (omega); (exact (owns_own h.lk.row e).1)))⟩
  · rcases hk with h1 | h1 | h1 | h1
    · exact lowA k (by omega)
    · exact lowA k (by simp only at h1; omega)
    · subst h1; exact hkb _ h.a.ws.blk.lt (by omega) (owns_ne h.lk.row h.a.ws.blk (by decide))
    · exact hkb k (owns_own h.a.ws.row h1).2 (fun e2 => owns_ne h.a.ws.row h.lk.blk (by decide) (by rw [h1, e2])) (owns_apart h.a.ws.row h.lk.row (by decide) h1)
  · rcases hk with h1 | h1 | h1 | h1
    · exact lowA k (by omega)
    · exact lowA k (by simp only at h1; omega)
    · subst h1; exact hkb _ h.b.ws.blk.lt (by omega) (owns_ne h.lk.row h.b.ws.blk (by decide))
    · exact hkb k (owns_own h.b.ws.row h1).2 (fun e2 => owns_ne h.b.ws.row h.lk.blk (by decide) (by rw [h1, e2])) (owns_apart h.b.ws.row h.lk.row (by decide) h1)
end Go.Proofs.YtbmijpjmdpdfkaaDoor
