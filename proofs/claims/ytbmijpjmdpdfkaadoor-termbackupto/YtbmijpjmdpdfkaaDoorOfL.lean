/- A turn's step at a Var, a Sort or a Const: the place is written whole. Plain facts of worlds, of no program. -/
import Derived.Test.YtbmijpjmdpdfkaaDoorOfS
namespace Go.Proofs.YtbmijpjmdpdfkaaDoor
open Go.RowKit

theorem xb_arr {w : World} {fa : Nat} {l : List Value} (h : Blk w fa 111 l) : XB w fa := ⟨_, _, _, h, .inr (.inr rfl)⟩

theorem OfS.leafed {Fit : Pt → Prop} {G : World → Prop} {Im : Pt → Tr → Prop} {w0 wr w1 w2 w' : World} {B gu fa rb : Nat} {fv v : Value} {p : Pt} {tb toff : Nat} {js : Jobs} (h : OfS Fit G Im w0 wr B gu fa rb fv ((p, tb, toff) :: js) js v)
    (hb1 : Below wr.heap.size wr w1) (hb2 : Below w1.heap.size w1 w2) {T : Tr} (ht : TIn w2 (fun k => w1.heap.size ≤ k ∧ k < w2.heap.size ∧ ¬ XB w2 k) T) (hi : Im p T) (hs : B ≤ wr.heap.size)
    (hw' : w' = put5 w2 tb toff (.int .i64 T.k) (.int .i64 T.n) (.string T.s) (.slice T.la T.ls.length T.lc) (.slice T.a T.args.length T.c)) : OfS Fit G Im w0 w' B gu fa rb fv js js v := by
  have J := h.jobs _ (List.mem_cons_self ..)
  have hb := hb1.trans (hb2.mono hb1.size)
  obtain ⟨L, hc, hin⟩ := put5_leaf (p := p) hb1 hb2 J.hole ht hw'
  have hK : Keep w2 w' (fun k => k = tb) := by rw [hw']; exact put5_keep _ _ _ _ _ _ _ _
  have hKw : Keep wr w' (fun k => k = tb) := (Keep.of_below hb (Nat.le_refl _)).trans hK (fun _ _ e => e)
  have hge : B ≤ tb := J.ge
  have hne : ∀ k, XB wr k → k ≠ tb := fun k hx e => J.nx (by show XB wr tb; rw [← e]; exact hx)
  have hH : ∀ b o, Hole wr b o → Hole w' b o := fun b o hh => by rw [hw']; exact (hh.on hb).put5 _ _ _ _ _ _ _
  refine ⟨⟨h.row.blk.keep hKw (hne _ (xb_gu h.row.blk)), owns_block h.row.row (fun g e => hKw.block g (owns_own h.row.row e).2 (hne _ (xb_row h.row.row e)))⟩, h.low.trans (hKw.below hs (fun k e => by omega)), fun x hx => ?_, (List.pairwise_cons.1 h.dis).2, hH _ _ h.root, h.arr.keep hKw (hne _ (xb_arr h.arr)), ?_⟩
  · have Jx := h.jobs x (List.mem_cons_of_mem _ hx)
    exact ⟨Jx.cells, Jx.tin, Jx.lt, Jx.fit, hH _ _ Jx.hole, Jx.ge, L.xb _ Jx.hole.lt Jx.nx⟩
  · refine wand_step (K := []) h.wand L (fun y hy => by cases hy) (fun W hL _ => ?_)
    refine leaf_done (N := wr.heap.size) hi hc hin hs (fun x hx => (h.jobs x (List.mem_cons_of_mem _ hx)).hole.lt) (L.xb _ J.hole.lt J.nx) (fun x hx e => ?_) W hL
    have := (List.pairwise_cons.1 h.dis).1 x hx e.symm
    exact this
end Go.Proofs.YtbmijpjmdpdfkaaDoor
