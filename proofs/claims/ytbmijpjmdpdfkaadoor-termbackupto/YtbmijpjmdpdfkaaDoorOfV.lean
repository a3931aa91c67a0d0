/- A turn's step at a Var that a lift turns, as a contract of doVar. No condition but that its number has no overflow. -/
import Derived.Test.YtbmijpjmdpdfkaaDoorOfD
namespace Go.Proofs.YtbmijpjmdpdfkaaDoor
open Go.RowKit

/-- A Var of that number. -/
def IsVar (n : Int) (T' : Tr) : Prop := T'.k = 0 ∧ T'.n = n ∧ T'.s = { data := #[] } ∧ T'.ls = [] ∧ T'.args = []
def varT (n : Int) : Tr := .mk 0 n { data := #[] } [] none 0 none 0 0 0 []
theorem varT_is (n : Int) : IsVar n (varT n) := ⟨rfl, rfl, rfl, rfl, rfl⟩
theorem varT_in (n : Int) (h0 : -9223372036854775808 ≤ n) (h1 : n ≤ 9223372036854775807) (w : World) (S : Nat → Prop) : TIn w S (varT n) :=
  tin_iff.2 ⟨by show -9223372036854775808 ≤ (0 : Int); omega, by show (0 : Int) ≤ 9223372036854775807; omega, h0, h1, ⟨by omega, by omega, by omega, by omega, Nat.le_refl _, by show 0 ≤ 9223372036854775807; omega, .inl rfl⟩, Nat.le_refl _, by show 0 ≤ 9223372036854775807; omega, .inl rfl⟩

theorem do77_lift {Fit : Pt → Prop} {G : World → Prop} {RL : List Lv → List Lv → Prop} {w0 : World} {B gu fa rb M : Nat} {by_ from_ : Int} (hb0 : 0 ≤ by_) (hb1 : by_ ≤ 1073741824)
    (hF : ∀ p, Fit p → p.m ≤ 1073741824 ∧ p.t.n ≤ 1073741824 ∧ -1073741824 ≤ p.t.n) :
    DoOk Fit G (Img (fun p T' => IsVar (lvn by_ from_ p) T') RL) w0 B gu fa rb M (.func (.func 49) #[.agg #[.int .i64 by_, .int .i64 from_]] #[]) 77 (fun k => k = 0) := by
  intro wr js v p tb toff hk h hrb hs _
  have J := h.jobs _ (List.mem_cons_self ..)
  have hlt : p.b < B := J.lt
  have hng : tb ≠ gu := fun e => J.nx (by show XB wr tb; rw [e]; exact xb_gu h.row.blk)
  have hc : TCells wr p.b p.off p.t := J.cells.carry (h.low.block _ hlt)
  obtain ⟨f1, f2, f3⟩ := hF p J.fit
  have hbd : -1073741824 ≤ lvn by_ from_ p ∧ lvn by_ from_ p ≤ 2147483648 := by unfold lvn; split <;> omega
  refine (doVar49_any (fun _ _ k n s la ll lc a al ac => k = 0 ∧ n = lvn by_ from_ p ∧ s = { data := #[] } ∧ la = none ∧ ll = 0 ∧ lc = 0 ∧ a = none ∧ al = 0 ∧ ac = 0) _ gu _ v p tb toff wr h.row.blk J.hole hng (fun w' hb => (lvar_any by_ from_ p w' (hc.on hb) f1 f2 f3 hb0 hb1).mono ?_)).mono ?_
  · rintro e w'' ⟨rfl, hb⟩
    exact ⟨0, lvn by_ from_ p, { data := #[] }, none, 0, 0, none, 0, 0, rfl, ⟨rfl, rfl, rfl, rfl, rfl, rfl, rfl, rfl, rfl⟩, hb⟩
  · rintro e w' ⟨rfl, w1, w2, k, n, s, la, ll, lc, a, al, ac, hb1, ⟨rfl, rfl, rfl, rfl, rfl, rfl, rfl, rfl, rfl⟩, hb2, hw'⟩
    have hb := hb1.trans (hb2.mono hb1.size)
    refine ⟨rfl, js, v, h.leafed (T := varT (lvn by_ from_ p)) hb1 hb2 (varT_in _ (by omega) (by omega) _ _) (.var hk (varT_is _)) hs hw', fun hx => ?_, ?_, ?_⟩
    · rw [hw', xb_put5] at hx
      exact hrb ((XB.carry (hb.block rb h.root.lt)).1 hx)
    · rw [hw']; simp [put5, World.setCell]; exact hb.size
    · have := p.t.size_pos
      simp only [mass]; omega
end Go.Proofs.YtbmijpjmdpdfkaaDoor
