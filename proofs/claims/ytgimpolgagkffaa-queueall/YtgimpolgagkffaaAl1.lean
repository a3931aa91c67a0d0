/- A Queue and the document's one beside each other: what holds between them, and how each operation keeps it. Of no walk; no condition. -/
import Derived.Test.YtgimpolgagkffaaRf2
import Derived.Test.YtgimpolgagkffaaOpen
namespace Go.Proofs.Ytgimpolgagkffaa
open Go.RowKit

/-- By rising turns. -/
def Asc (E : List En) : Prop := E.Pairwise (fun x y => x.turn < y.turn)

theorem Asc.lt {E : List En} (h : Asc E) {i j : Nat} (hij : i < j) (hj : j < E.length) : (nth E i).turn < (nth E j).turn := by
  have hp := List.pairwise_iff_getElem.1 h i j (by omega) hj hij
  rw [← nth_of (List.getElem?_eq_getElem (show i < E.length by omega)), ← nth_of (List.getElem?_eq_getElem hj)] at hp
  exact hp

theorem Asc.push {E : List En} {x : En} (h : Asc E) (ht : ∀ y ∈ E, y.turn < x.turn) : Asc (E ++ [x]) :=
  List.pairwise_append.2 ⟨h, List.pairwise_singleton _ _, fun y hy z hz => by rw [List.mem_singleton.1 hz]; exact ht y hy⟩

theorem split_at {E : List En} {j : Nat} (hj : j < E.length) : E = E.take j ++ nth E j :: E.drop (j + 1) := by
  have h1 : E.drop j = nth E j :: E.drop (j + 1) := by rw [List.drop_eq_getElem_cons hj, nth_of (List.getElem?_eq_getElem hj)]
  rw [← h1, List.take_append_drop]

theorem least_first {E S : List En} {s : En} {j : Nat} (hE : Asc E) (hp : (s :: S).Perm E) (hs : Srt (s :: S)) (hl : leastAt E j E.length) :
    nth E j = s ∧ S.Perm (E.take j ++ E.drop (j + 1)) ∧ Asc (E.take j ++ E.drop (j + 1)) := by
  have hj : j < E.length := hl.1
  have e : nth E j = s := by
    have hm : nth E j ∈ s :: S := hp.mem_iff.2 (nth_mem hj)
    rcases List.mem_cons.1 hm with h | h
    · exact h
    · have hb := (List.pairwise_cons.1 hs).1 _ h
      rw [before_iff] at hb
      obtain ⟨i, hi, ei⟩ := mem_nth (hp.mem_iff.1 (List.mem_cons_self (a := s) (l := S)))
      have h1 := hl.2.1 i hi
      rw [ei] at h1
      rcases (show i < j ∨ i = j ∨ j < i by omega) with h2 | h2 | h2
      · have := hl.2.2 i h2; rw [ei] at this; omega
      · rw [h2] at ei; exact ei
      · have := hE.lt h2 hi; rw [ei] at this; omega
  have hsp := split_at hj
  refine ⟨e, ?_, ?_⟩
  · have h1 : (s :: S).Perm (s :: (E.take j ++ E.drop (j + 1))) := by
      refine hp.trans ?_
      conv => lhs; rw [hsp]
      rw [e]
      exact List.perm_middle
    exact h1.cons_inv
  · have h2 : (E.take j ++ E.drop (j + 1)).Sublist E := by
      conv => rhs; rw [hsp]
      exact List.Sublist.append (List.Sublist.refl _) (List.sublist_cons_self _ _)
    exact List.Pairwise.sublist h2 hE

theorem owns_apart {w : World} {b1 b2 : Nat} {e1 e2 : TypeId} {s1 s2 n1 n2 : Nat} {v1 v2 : Value} {x1 x2 : List Value} (h1 : w.ownsRow b1 e1 s1 v1 n1 x1) (h2 : w.ownsRow b2 e2 s2 v2 n2 x2) (hne : e1 ≠ e2) (k : Nat) (k1 : v1.ownBlock = some k) : v2.ownBlock ≠ some k := fun k2 => by
  rcases h1.2 with ⟨rfl, _⟩ | ⟨g, c, cur, rfl, _, hc, _⟩
  · cases k1
  · rcases h2.2 with ⟨rfl, _⟩ | ⟨g', c', cur', rfl, _, hc', _⟩
    · cases k2
    · simp [Value.ownBlock] at k1 k2
      subst k1 k2
      rw [hc] at hc'
      simp at hc'
      exact hne hc'.2

theorem blk_apart {w : World} {g g' : Nat} {t t' : TypeId} {l l' : List Value} (h : Blk w g t l) (h' : Blk w g' t' l') (hne : t ≠ t') : g ≠ g' := fun e => by
  subst e
  unfold Blk at h h'
  rw [h] at h'
  simp at h'
  exact hne h'.2

/-- A Queue in block g and the document's in block r have the same. -/
structure LS (w wr : World) (g : Nat) (q : Option Nat) (S : List En) (n r : Nat) (ao : Option Addr) (cap : Nat) (E : List En) : Prop where
  qs : QS wr g q S n
  rq : RQ wr r w.heap.size ao cap E
  perm : S.Perm E
  asc : Asc E
  gnew : w.heap.size ≤ g
  qnew : ∀ b, q = some b → w.heap.size ≤ b
  rnew : w.heap.size ≤ r
  bel : Below w.heap.size w wr

theorem LS.len {w wr : World} {g : Nat} {q : Option Nat} {S : List En} {n r : Nat} {ao : Option Addr} {cap : Nat} {E : List En} (h : LS w wr g q S n r ao cap E) : S.length = E.length := h.perm.length_eq

/-- The blocks of the Queue are not those of the document's. -/
theorem LS.apart {w wr : World} {g : Nat} {q : Option Nat} {S : List En} {n r : Nat} {ao : Option Addr} {cap : Nat} {E : List En} (h : LS w wr g q S n r ao cap E) :
    r ≠ g ∧ q ≠ some r ∧ (Value.slice ao E.length cap).ownBlock ≠ some g ∧ ∀ k, (Value.slice ao E.length cap).ownBlock = some k → q ≠ some k := by
  obtain ⟨v, L, h1, h2, _⟩ := h.qs.is
  refine ⟨blk_apart h.rq.blk h1.blk (by decide), ?_, owns_ne h.rq.row h1.blk (by decide), fun k e => ?_⟩
  · rw [← h2]; exact owns_ne h1.row h.rq.blk (by decide)
  · rw [← h2]; exact owns_apart h.rq.row h1.row (by decide) k e

theorem LS.low {w wr w' : World} {g : Nat} {q : Option Nat} {S : List En} {n r : Nat} {ao : Option Addr} {cap : Nat} {E : List En} (h : LS w wr g q S n r ao cap E) (hb : Below wr.heap.size wr w') : LS w w' g q S n r ao cap E :=
  ⟨h.qs.below hb, h.rq.below hb, h.perm, h.asc, h.gnew, h.qnew, h.rnew, h.bel.trans (hb.mono h.bel.size)⟩

/-- The Queue has turned: the document's stands. -/
theorem LS.side {w wr w' : World} {g : Nat} {q : Option Nat} {S : List En} {n r : Nat} {ao : Option Addr} {cap : Nat} {E : List En} (h : LS w wr g q S n r ao cap E) (hk : Keep wr w' (fun k => k = g ∨ q = some k)) : RQ w' r w.heap.size ao cap E ∧ Below w.heap.size w w' := by
  obtain ⟨a1, a2, a3, a4⟩ := h.apart
  refine ⟨h.rq.keep hk (fun e => e.elim a1 a2) (fun k e e' => e'.elim (fun e2 => a3 (by rw [← e2]; exact e)) (a4 k e)), h.bel.trans (hk.below h.bel.size (fun k e => e.elim (fun e2 => by rw [e2]; exact h.gnew) (h.qnew k)))⟩

/-- The document's has turned: the Queue stands. -/
theorem LS.other {w wr w' : World} {g : Nat} {q : Option Nat} {S : List En} {n r : Nat} {ao : Option Addr} {cap : Nat} {E : List En} (h : LS w wr g q S n r ao cap E) (hk : Keep wr w' (fun k => k = r ∨ (Value.slice ao E.length cap).ownBlock = some k)) : QS w' g q S n ∧ Below w.heap.size w w' := by
  obtain ⟨a1, a2, a3, a4⟩ := h.apart
  refine ⟨h.qs.keep hk (fun e => e.elim (fun e2 => a1 e2.symm) a3) (fun b e e' => e'.elim (fun e2 => a2 (by rw [← e2]; exact e)) (fun e2 => a4 b e2 e)), h.bel.trans (hk.below h.bel.size (fun k e => e.elim (fun e2 => by rw [e2]; exact h.rnew) (fun e2 => (owns_own h.rq.row e2).1)))⟩

/-- What a []Op that came in reads as. -/
structure OpR (w : World) (ao : Option Addr) (n cap : Nat) : Prop where
  le : n ≤ cap
  max : cap ≤ maxLen
  cells : ∀ j, j < n → ∃ b off, ao = some ⟨b, off, none⟩ ∧ ∃ x y z : Int, w.cell? ⟨b, off + j * 3, none⟩ = some (.int .i64 x) ∧ w.cell? ⟨b, off + j * 3 + 1, none⟩ = some (.int .i64 y) ∧ w.cell? ⟨b, off + j * 3 + 2, none⟩ = some (.int .i64 z)

theorem OpR.below {C : Nat} {w w' : World} {ao : Option Addr} {n cap : Nat} (h : OpR w ao n cap) (hb : Below C w w') (hC : w.heap.size ≤ C) : OpR w' ao n cap :=
  ⟨h.le, h.max, fun j hj => by
    obtain ⟨b, off, e, x, y, z, c0, c1, c2⟩ := h.cells j hj
    have hl := Nat.lt_of_lt_of_le (World.block_lt_of_cell? w _ c0) hC
    exact ⟨b, off, e, x, y, z, (World.cell?_of_block (hb.block b hl)).trans c0, (World.cell?_of_block (hb.block b hl)).trans c1, (World.cell?_of_block (hb.block b hl)).trans c2⟩⟩
end Go.Proofs.Ytgimpolgagkffaa
