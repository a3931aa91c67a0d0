/- A tally's steps: a list is entered, left, or its next level taken. No condition but that the levels and the tally lie in memory and few parts are met. -/
import Derived.Test.YtbmijpjmdpdfkaaDoorTa4
namespace Go.Proofs.YtbmijpjmdpdfkaaDoor
open Go.RowKit

theorem TS.low {w0 wr : World} {B tg : Nat} {v0 v : Value} {N M bsz met : Nat} {st : List Sp} (h : TS w0 wr B tg v0 N M bsz met st v) (htg : B ≤ tg) (h0 : ∀ k, v0.ownBlock = some k → B ≤ k) (hB : B ≤ w0.heap.size) : Below B w0 wr :=
  h.keep.below hB (fun k e => by rcases e with e | e; (omega); exact h0 k e)
theorem TS.drewN {w0 wr : World} {B tg : Nat} {v0 v : Value} {N M bsz met : Nat} {st : List Sp} (h : TS w0 wr B tg v0 N M bsz met st v) (q : Nat) : TS w0 (wr.drewN q) B tg v0 N M bsz met st v :=
  ⟨h.blk.drewN q, owns_block h.row (fun _ _ => rfl), h.own, h.keep.drewN q, h.spans, h.tot, h.met⟩
theorem TS.drew {w0 wr : World} {B tg : Nat} {v0 v : Value} {N M bsz met : Nat} {st : List Sp} (h : TS w0 wr B tg v0 N M bsz met st v) : TS w0 wr.drew B tg v0 N M bsz met st v :=
  ⟨h.blk.drew, owns_block h.row (fun _ _ => rfl), h.own, h.keep.drew, h.spans, h.tot, h.met⟩
theorem spLen_meas (st : List Sp) : st.length ≤ spMeas st := by
  induction st with
  | nil => exact Nat.le_refl _
  | cons s r ih => simp only [List.length_cons, spMeas]; omega

theorem TS.enter {w0 wr : World} {B tg : Nat} {v0 v : Value} {N M bsz met : Nat} {st : List Sp} (h : TS w0 wr B tg v0 N M bsz met st v) (hB : B ≤ w0.heap.size) {k n : Int} {args : List Lv} {a : Option Addr} {c : Nat} (hN : Node w0 (· < B) k n args a c) (hM : M + Lv.sizes args ≤ 262144) (hst : spMeas st ≤ 1073741823) :
    Calls Tryd.prog 89 #[.pointer (some ⟨tg, 0, none⟩), .slice a args.length c, .bool true] wr fun e w' => e = .returned (.tuple #[]) ∧ ∃ met' st' v', TS w0 w' B tg v0 (N + Lv.sizes args) (M + Lv.sizes args) bsz met' st' v' ∧ spMeas st' ≤ spMeas st + 1 + 2 * Lv.sizes args := by
  rcases hN.all with rfl | ⟨b, off, rfl, hb, hall⟩
  · refine (enter_nil tg c a wr).mono ?_
    rintro e w' ⟨rfl, rfl⟩
    exact ⟨rfl, met, st, v, by simpa [Lv.sizes] using h, by omega⟩
  · cases args with
    | nil =>
      refine (enter_nil tg c _ wr).mono ?_
      rintro e w' ⟨rfl, rfl⟩
      exact ⟨rfl, met, st, v, by simpa [Lv.sizes] using h, by omega⟩
    | cons x r =>
      have hsz := Lv.sizes_belows (x :: r)
      have hm := h.met
      have hl := spLen_meas st
      refine (enter_new B tg (st.length + 1) met b off (x :: r).length c v (spCells bsz st) wr h.blk h.row (by simp) (by omega) (Nat.le_trans hB h.keep.size) (by omega)).mono ?_
      rintro e w' ⟨rfl, v', hE⟩
      refine ⟨rfl, met + (x :: r).length, ⟨x :: r, b, off, c, 0, (x :: r).length⟩ :: st, v', ⟨hE.blk, hE.row, own_trans h.keep.size h.own hE.own, h.keep.own h.own hE.keep, ?_, ?_, ?_⟩, ?_⟩
      · intro s hs
        rcases List.mem_cons.1 hs with rfl | hs
        · exact ⟨hb, hall, Nat.zero_le _, by simp, hN.le, hN.max⟩
        · exact h.spans s hs
      · have := h.tot
        simp only [spSum, spLeft, Sp.left, List.drop_zero]
        omega
      · simp only [spLeft, Sp.left, List.drop_zero]
        omega
      · simp only [spMeas, List.drop_zero]
        omega

theorem TS.leave {w0 wr : World} {B tg : Nat} {v0 v : Value} {N M bsz met : Nat} {s : Sp} {r : List Sp} (h : TS w0 wr B tg v0 N M bsz met (s :: r) v) (hi : s.i = s.ls.length) (hM : M ≤ 262144) (hN : N ≤ 67108865) (hst : spMeas (s :: r) ≤ 1073741823) :
    Calls Tryd.prog 91 #[.pointer (some ⟨tg, 0, none⟩)] wr fun e w' => e = .returned (.tuple #[]) ∧ ∃ bsz' st' v', TS w0 w' B tg v0 N M bsz' met st' v' ∧ spMeas st' < spMeas (s :: r) := by
  obtain ⟨xs, x0, x1, x2, t, e1, e2, e3⟩ := spAdd_cells s.sz bsz r
  have hS := h.spans s (List.mem_cons_self ..)
  obtain ⟨g, cap, rfl, _, _, _, _⟩ := owns_shape h.row (by simp)
  have row := h.row
  simp only [spCells, Sp.cells, List.length_cons] at row
  rw [e1] at row
  have hl := spLen_meas (s :: r)
  simp only [List.length_cons] at hl
  have ht := h.tot
  have hm := h.met
  simp only [spSum, spLeft] at ht hm
  have hlf : s.left = 0 := by unfold Sp.left; rw [hi, List.drop_length]; rfl
  refine (leave_any B tg r.length met s.b s.off s.ls.length s.c g cap s.sz t true x0 x1 x2 (s.i : Int) xs wr h.blk row hS.pos (by omega) (by omega) (by omega)).mono ?_
  rintro e w' ⟨rfl, hE⟩
  refine ⟨rfl, (spAdd s.sz bsz r).1, (spAdd s.sz bsz r).2, _, ⟨hE.blk, ?_, own_trans h.keep.size h.own hE.own, h.keep.own h.own hE.keep, spAdd_ok (fun x hx => h.spans x (List.mem_cons_of_mem _ hx)), ?_, ?_⟩, ?_⟩
  · rw [spAdd_len, e2]; exact hE.row
  · rw [spAdd_sum, spAdd_left]; omega
  · rw [spAdd_left]; omega
  · rw [spAdd_meas]; simp only [spMeas]; omega

theorem TS.step {w0 wr : World} {B tg g cap : Nat} {v0 : Value} {N M bsz met : Nat} {s : Sp} {r : List Sp} (h : TS w0 wr B tg v0 N M bsz met (s :: r) (.slice (some ⟨g, 0, none⟩) (r.length + 2) cap)) {k n : Int} {args : List Lv} (hx : s.ls[s.i]? = some (.mk k n args)) :
    ∃ N0 M0, N = N0 + Lv.sizes args ∧ M = M0 + Lv.sizes args ∧ TS w0 (wr.setCell ⟨g, (r.length + 1) * 4 + 2, none⟩ (.int .i64 ((s.i : Int) + 1))) B tg v0 N0 M0 bsz met ({ s with i := s.i + 1 } :: r) (.slice (some ⟨g, 0, none⟩) (r.length + 2) cap) ∧
      spMeas ({ s with i := s.i + 1 } :: r) + 2 * Lv.sizes args + 2 = spMeas (s :: r) := by
  have hS := h.spans s (List.mem_cons_self ..)
  have hlt := (List.getElem?_eq_some_iff.1 hx).1
  have hd := Lv.belows_drop hx
  have hds : Lv.sizes (s.ls.drop s.i) = Lv.sizes args + 1 + Lv.sizes (s.ls.drop (s.i + 1)) := by
    rw [List.drop_eq_getElem_cons hlt, (List.getElem?_eq_some_iff.1 hx).2, Lv.sizes, Lv.size_mk]
  have ht := h.tot
  have hm := h.met
  simp only [spSum, spLeft, Sp.left] at ht hm
  refine ⟨bsz + (s.sz + spSum r) + (Lv.belows (s.ls.drop (s.i + 1)) + spLeft r), met + (Lv.belows (s.ls.drop (s.i + 1)) + spLeft r), by omega, by omega, ⟨?_, ?_, h.own, ?_, ?_, rfl, rfl⟩, ?_⟩
  · exact h.blk.other _ (fun e => owns_ne h.row h.blk (by decide) (by rw [e]; rfl))
  · have row := owns_set (n := r.length + 2) h.row ((r.length + 1) * 4 + 2) (.int .i64 ((s.i : Int) + 1))
    simp only [spCells] at row ⊢
    rw [List.set_append_right _ _ (by rw [spCells_len]; omega), spCells_len, show (r.length + 1) * 4 + 2 - (r.length + 1) * 4 = 2 from by omega] at row
    exact row
  · exact h.keep.own h.own ((Keep.refl wr _).setCell (g := g) (fun _ => .inr rfl) _ _)
  · intro x hx
    rcases List.mem_cons.1 hx with rfl | hx
    · exact hS.same (sz := s.sz) (by omega)
    · exact h.spans x (List.mem_cons_of_mem _ hx)
  · simp only [spMeas]
    omega
end Go.Proofs.YtbmijpjmdpdfkaaDoor
