/- The walk of term's Equal of a term and itself. No condition but that it lies in memory, has fewer than 2^20 parts, and no Levels. -/
import Derived.Test.YtbmijpjmdpdfkaaDoorAl
import Derived.Test.YtbmijpjmdpdfkaaDoorWeigh
namespace Go.Proofs.YtbmijpjmdpdfkaaDoor
open Go.RowKit

/-- Where a walk is, when pre have come. -/
structure Wk (N B g : Nat) (root : Pt) (wr : World) (pre : List Pt) (f : Option Addr) (st : Stk) (v : Value) : Prop where
  ws : WS wr N g f st v
  ini : (f = some ⟨root.b, root.off, none⟩ ∧ st = [] ∧ pre = [] ∧ v = .slice none 0 0) ∨ (f = none ∧ root.seq = pre ++ Stk.rem st)
  ops : ∀ x ∈ st, Op1 wr B root.b pre.length x.1 x.2
  len : st.length ≤ pre.length
  own : ∀ k, v.ownBlock = some k → N ≤ k
  size : N ≤ wr.heap.size
  tabs : Tabs wr
  rt : TCells wr root.b root.off root.t ∧ TIn wr (· < B) root.t

theorem Wk.next {N B g : Nat} {root : Pt} {wr : World} {pre : List Pt} {f : Option Addr} {st : Stk} {v : Value} (h : Wk N B g root wr pre f st v)
    (hd : root.d = 1) (hm : root.m = 0) (hB : B ≤ N) (hg : N ≤ g) (hrb : root.b < N) (hsz : root.t.size < 1048576) :
    (pre = root.seq ∧ f = none ∧ st = []) ∨ ∃ x st', root.seq = pre ++ x :: Stk.rem st' ∧ (Calls Tryd.prog 57 #[.pointer (some ⟨g, 0, none⟩)] wr fun e w' => e = .returned (.tuple #[x.val, .bool true]) ∧ Nxt wr w' N g v st') ∧
      st'.length ≤ pre.length + 1 ∧ ∀ y ∈ st', Op1 wr B root.b (pre.length + 1) y.1 y.2 := by
  have hs := h.size
  rcases h.ini with ⟨rfl, rfl, rfl, rfl⟩ | ⟨rfl, hseq⟩
  · refine .inr ⟨root, push root [], by simpa [Stk.rem] using (push_rem root []).symm, next_first root hd hm g N wr (· < B) h.rt.1 h.rt.2 (by omega) (by omega) h.ws, push_length _ _, fun y hy => ?_⟩
    rcases push_mem hy with hy | ⟨rfl, hne⟩
    · cases hy
    · exact ⟨h.rt.1, h.rt.2, .inr rfl, List.length_pos_iff.2 hne, by simp [hd], by simp [hm]⟩
  · have hlen : (root.seq).length = root.t.size := Tr.seq_len _ _ _ _ _
    have hpl : pre.length ≤ root.t.size := by rw [← hlen, hseq]; simp
    match st, h, hseq with
    | [], h, hseq => exact .inl ⟨by simpa [Stk.rem] using hseq.symm, rfl, rfl⟩
    | (p, j) :: st, h, hseq =>
      have hop := h.ops (p, j) (by simp)
      have hl := h.len
      simp only [List.length_cons] at hl
      obtain ⟨T, hT⟩ : ∃ T, p.t.args[j]? = some T := ⟨_, List.getElem?_eq_getElem hop.lt⟩
      have h1 := hop.d
      have h2 := hop.m
      simp only at h1 h2
      have h3 := hop.at'
      simp only at h3
      refine .inr ⟨p.kid j T, push (p.kid j T) (took p j st), ?_, ?_, ?_, ?_⟩
      · rw [push_rem, ← took_rem p j st hT]; exact hseq
      · exact next_top p j st T hT (by omega) (by omega) g N B wr h.tabs hop.cells hop.tin (by omega) (by omega) (by omega) (by omega) v h.ws (by omega) (fun k e => by have := h.own k e; omega)
      · unfold took
        split
        · have := push_length (p.kid j T) st; omega
        · have := push_length (p.kid j T) ((p, j + 1) :: st); simp only [List.length_cons] at this; omega
      · intro y hy
        rcases push_mem hy with hy | ⟨rfl, hne⟩
        · unfold took at hy
          split at hy
          · exact (h.ops y (by simp [hy])).up (by omega)
          · rcases List.mem_cons.1 hy with rfl | hy
            · exact ⟨hop.cells, hop.tin, hop.at', by have := hop.lt; simp only at this ⊢; omega, by simp only; omega, by simp only; omega⟩
            · exact (h.ops y (by simp [hy])).up (by omega)
        · exact hop.child hT (List.length_pos_iff.2 hne)

theorem Wk.carry {N B g : Nat} {root : Pt} {wr w' : World} {pre : List Pt} {f : Option Addr} {st : Stk} {v : Value} (h : Wk N B g root wr pre f st v) (h3 : 3 ≤ B)
    (hb : ∀ k, k < B ∨ k = root.b ∨ k = g ∨ v.ownBlock = some k → w'.heap[k]? = wr.heap[k]?) (hs : wr.heap.size ≤ w'.heap.size) : Wk N B g root w' pre f st v :=
  ⟨⟨h.ws.blk.carry (hb _ (.inr (.inr (.inl rfl)))), owns_block h.ws.row (fun k e => hb k (.inr (.inr (.inr e))))⟩, h.ini, fun x hx => (h.ops x hx).carry (fun k hk => hb k (hk.elim .inl (fun h => .inr (.inl h)))), h.len, h.own, Nat.le_trans h.size hs,
    h.tabs.carry (fun k hk => hb k (.inl (by omega))), h.rt.1.carry (hb _ (.inr (.inl rfl))), TIn.carry (fun b hlt => hb b (.inl hlt)) (fun _ h => h) _ h.rt.2⟩

theorem Wk.step {N B g : Nat} {root : Pt} {wr w' : World} {pre : List Pt} {f : Option Addr} {st st' : Stk} {v : Value} {x : Pt} (h : Wk N B g root wr pre f st v) (h3 : 3 ≤ B) (hB : B ≤ N) (hg : N ≤ g) (hrb : root.b < N)
    (hseq : root.seq = pre ++ x :: Stk.rem st') (hst : st'.length ≤ pre.length + 1) (hops : ∀ y ∈ st', Op1 wr B root.b (pre.length + 1) y.1 y.2) (hn : Nxt wr w' N g v st') :
    ∃ v', Wk N B g root w' (pre ++ [x]) none st' v' ∧ ∀ k, v'.ownBlock = some k → v.ownBlock = some k ∨ wr.heap.size ≤ k := by
  obtain ⟨v', hws, hv⟩ := hn.ws
  have hs := h.size
  have hlow : ∀ k, k < N → w'.heap[k]? = wr.heap[k]? := fun k hk => hn.keep.block k (by omega) (fun e => by
    rcases e with e | e
    · omega
    · have := h.own k e; omega)
  have hz := hn.keep.size
  refine ⟨v', ⟨hws, .inr ⟨rfl, by rw [hseq]; simp⟩, fun y hy => ?_, by simpa using hst, fun k e => ?_, by omega, h.tabs.carry (fun k hk => hlow k (by omega)), h.rt.1.carry (hlow _ hrb), TIn.carry (fun b hlt => hlow b (by omega)) (fun _ h => h) _ h.rt.2⟩, hv⟩
  · have := hops y hy
    simp only [List.length_append, List.length_cons, List.length_nil, Nat.zero_add]
    exact this.carry (fun k hk => hlow k (by omega))
  · rcases hv k e with h1 | h1
    · exact h.own k h1
    · omega

theorem seq_same (T : Tr) (g g' i : Nat) (x y : Pt) (hx : (Pt.mk g 0 T 1 0).seq[i]? = some x) (hy : (Pt.mk g' 0 T 1 0).seq[i]? = some y) : x.t = y.t ∧ x.off = y.off ∧ x.d = y.d ∧ x.m = y.m := by
  rw [Pt.seq_eq] at hx hy
  cases i with
  | zero => simp at hx hy; subst hx hy; exact ⟨rfl, rfl, rfl, rfl⟩
  | succ i =>
    simp only [List.getElem?_cons_succ] at hx hy
    have : (Pt.mk g 0 T 1 0).from 0 = (Pt.mk g' 0 T 1 0).from 0 := rfl
    rw [this] at hx
    rw [hx] at hy
    cases hy
    exact ⟨rfl, rfl, rfl, rfl⟩
end Go.Proofs.YtbmijpjmdpdfkaaDoor
