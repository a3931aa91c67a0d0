/- A turn's step at a Var that a put turns, as a contract of doVar; and the walk of term's Put of a small term. No condition but that the terms lie in memory, are as their Kinds ask, have no Levels and small numbers. -/
import Derived.Test.YtbmijpjmdpdfkaaDoorLf
import Derived.Test.YtbmijpjmdpdfkaaDoorPuts
namespace Go.Proofs.YtbmijpjmdpdfkaaDoor
open Go.RowKit

/-- What a put makes of a Var. -/
def PutV (bv ov : Nat) (V : Tr) (p : Pt) (T' : Tr) : Prop := (p.freeB = true ∧ p.freeN = 0 ∧ LiftI (p.m : Int) 0 ⟨bv, ov, V, 1, 0⟩ T') ∨ (¬ (p.freeB = true ∧ p.freeN = 0) ∧ IsVar (pvn p) T')

theorem do77_put {G : World → Prop} {w0 : World} {B gu fa rb M M0 : Nat} (bv ov : Nat) (V : Tr) (hM0 : M0 ≤ 1073741824) (hT : Tabs w0) (h3 : 3 ≤ B) (hcv : TCells w0 bv ov V) (hbv : bv < B) (hinv : TIn w0 (· < B) V) (hbare : Bare V) (hsz : V.size ≤ 1000) :
    DoOk (FitB M0) G (Img (PutV bv ov V) NoLv) w0 B gu fa rb M (.func (.func 43) #[.agg #[.pointer (some ⟨bv, ov, none⟩)]] #[]) 77 (fun k => k = 0) := by
  intro wr js v p tb toff hk h hrb hs _
  have J := h.jobs _ (List.mem_cons_self ..)
  have hlt : p.b < B := J.lt
  have hng : tb ≠ gu := fun e => J.nx (by show XB wr tb; rw [e]; exact xb_gu h.row.blk)
  have hc : TCells wr p.b p.off p.t := J.cells.carry (h.low.block _ hlt)
  have f1 := (fitB_all hM0 p J.fit).2.1
  obtain ⟨f2, f3⟩ : p.t.n ≤ 1073741824 ∧ -1073741824 ≤ p.t.n := by
    obtain ⟨h, _, _⟩ := J.fit
    cases h with | mk _ _ _ h4 h5 _ _ _ _ => exact ⟨h5, h4⟩
  have hbd : -1073741825 ≤ pvn p ∧ pvn p ≤ 1073741824 := by unfold pvn; split <;> omega
  refine (doVar43_any (fun w' w'' k n s la ll lc a al ac => ∃ T' : Tr, T'.k = k ∧ T'.n = n ∧ T'.s = s ∧ T'.la = la ∧ T'.ls.length = ll ∧ T'.lc = lc ∧ T'.a = a ∧ T'.args.length = al ∧ T'.c = ac ∧ PutV bv ov V p T' ∧ TIn w'' (fun j => w'.heap.size ≤ j ∧ j < w''.heap.size ∧ ¬ XB w'' j) T') _ gu _ v p tb toff wr h.row.blk J.hole hng (fun w' hb => ?_)).mono ?_
  · by_cases hz : p.freeB = true ∧ p.freeN = 0
    · refine (pvar_zero (fun w' w'' k n s la ll lc a al ac => ∃ T' : Tr, T'.k = k ∧ T'.n = n ∧ T'.s = s ∧ T'.la = la ∧ T'.ls.length = ll ∧ T'.lc = lc ∧ T'.a = a ∧ T'.args.length = al ∧ T'.c = ac ∧ PutV bv ov V p T' ∧ TIn w'' (fun j => w'.heap.size ≤ j ∧ j < w''.heap.size ∧ ¬ XB w'' j) T') (some ⟨bv, ov, none⟩) p w' (hc.on hb) f1 f2 hz.1 hz.2 (fun w1 hb1 => ?_)).mono ?_
      · have hbb : Below B w0 w1 := h.low.trans ((hb.mono hs).trans (hb1.mono (Nat.le_trans hs hb.size)))
        have hs1 : B ≤ w1.heap.size := Nat.le_trans hs (Nat.le_trans hb.size hb1.size)
        refine (lifted_bare bv ov V (p.m : Int) 0 w1 (hT.below hbb h3) (by omega) (hcv.carry (hbb.block _ hbv)) ((hinv.below hbb (Nat.le_refl _)).mono (fun k hk => by omega)) hbare hsz (by omega) (by omega)).mono ?_
        rintro e w2 ⟨T', hi, rfl, ht, hb2⟩
        exact ⟨_, _, _, _, _, _, _, _, _, rfl, ⟨T', rfl, rfl, rfl, rfl, rfl, rfl, rfl, rfl, rfl, .inl ⟨hz.1, hz.2, hi⟩, ht⟩, hb2⟩
      · rintro e w5 ⟨k, n, s, la, ll, lc, a, al, ac, w1, w2, rfl, hb1, ⟨T', h1, h2, h4, h5, h6, h7, h8, h9, h10, hP, ht⟩, hb2, hK⟩
        refine ⟨_, _, _, _, _, _, _, _, _, rfl, ⟨T', h1, h2, h4, h5, h6, h7, h8, h9, h10, hP, TIn.carry (fun j hj => hK.block j hj.2.1 (fun e => by omega)) (fun j hj => ⟨Nat.le_trans hb1.size hj.1, Nat.lt_of_lt_of_le hj.2.1 hK.size, fun hx => hj.2.2 ((XB.carry (hK.block j hj.2.1 (fun e => by omega))).1 hx)⟩) T' ht⟩, ?_⟩
        exact (hb1.trans (hb2.mono hb1.size)).trans (hK.below (Nat.le_trans hb1.size hb2.size) (fun k e => e.1))
    · refine (pvar_other (some ⟨bv, ov, none⟩) p w' (hc.on hb) f1 f2 f3 hz).mono ?_
      rintro e w'' ⟨rfl, hb2⟩
      exact ⟨_, _, _, _, _, _, _, _, _, rfl, ⟨varT (pvn p), rfl, rfl, rfl, rfl, rfl, rfl, rfl, rfl, rfl, .inr ⟨hz, varT_is _⟩, varT_in _ (by omega) (by omega) _ _⟩, hb2⟩
  · rintro e w' ⟨rfl, w1, w2, k, n, s, la, ll, lc, a, al, ac, hb1, ⟨T', rfl, rfl, rfl, rfl, rfl, rfl, rfl, rfl, rfl, hP, ht⟩, hb2, hw'⟩
    have hb := hb1.trans (hb2.mono hb1.size)
    refine ⟨rfl, js, v, h.leafed (T := T') hb1 hb2 ht (.var hk hP) hs hw', fun hx => ?_, ?_, ?_⟩
    · rw [hw', xb_put5] at hx
      exact hrb ((XB.carry (hb.block rb h.root.lt)).1 hx)
    · rw [hw']; simp [put5, World.setCell]; exact hb.size
    · have := p.t.size_pos
      simp only [mass]; omega
end Go.Proofs.YtbmijpjmdpdfkaaDoor
