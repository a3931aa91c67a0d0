/- A turn's steps at Sorts, Consts and parts with args as contracts of doLeaf and doBranch. No condition but that copied keeps its own. -/
import Derived.Test.YtbmijpjmdpdfkaaDoorOfB
namespace Go.Proofs.YtbmijpjmdpdfkaaDoor
open Go.RowKit

theorem exists_least {P : Nat → Prop} (h : ∃ n, P n) : ∃ n, P n ∧ ∀ m, P m → n ≤ m := by
  obtain ⟨n, hn⟩ := h
  induction n using Nat.strongRecOn with
  | ind n ih =>
    by_cases hx : ∃ m, m < n ∧ P m
    · obtain ⟨m, h1, h2⟩ := hx
      exact ih m h1 h2
    · exact ⟨n, hn, fun m hm => Nat.le_of_not_lt (fun hl => hx ⟨m, hl, hm⟩)⟩
open Classical in
/-- The least number of which P holds. -/
noncomputable def leastOf (P : Nat → Prop) : Nat := if h : ∃ n, P n then Classical.choose (exists_least h) else 0
theorem leastOf_is {P : Nat → Prop} (h : ∃ n, P n) : P (leastOf P) := by
  unfold leastOf; rw [dif_pos h]; exact (Classical.choose_spec (exists_least h)).1
theorem leastOf_le {P : Nat → Prop} {n : Nat} (h : P n) : leastOf P ≤ n := by
  unfold leastOf; rw [dif_pos ⟨n, h⟩]; exact (Classical.choose_spec (exists_least ⟨n, h⟩)).2 n h

/-- The parts that are still to be turned. -/
def mass : Jobs → Nat
  | [] => 0
  | x :: r => x.1.t.size + mass r
theorem mass_append (a b : Jobs) : mass (a ++ b) = mass a + mass b := by
  induction a with
  | nil => simp [mass]
  | cons x r ih => simp only [List.cons_append, mass, ih]; omega

/-- What a function that does a job must keep. -/
def DoOk (Fit : Pt → Prop) (G : World → Prop) (Im : Pt → Tr → Prop) (w0 : World) (B gu fa rb M : Nat) (fv : Value) (f : FuncId) (kind : Int → Prop) : Prop :=
  ∀ (wr : World) (js : Jobs) (v : Value) (p : Pt) (tb toff : Nat), kind p.t.k → OfS Fit G Im w0 wr B gu fa rb fv ((p, tb, toff) :: js) js v → ¬ XB wr rb → B ≤ wr.heap.size → mass ((p, tb, toff) :: js) ≤ M →
    Calls Tryd.prog f #[.pointer (some ⟨gu, 0, none⟩), .agg #[.pointer (some ⟨p.b, p.off, none⟩), .int .i64 (p.d : Int), .int .i64 (p.m : Int), .pointer (some ⟨tb, toff, none⟩)]] wr fun e w' =>
      e = .returned (.tuple #[]) ∧ ∃ js' v', OfS Fit G Im w0 w' B gu fa rb fv js' js' v' ∧ ¬ XB w' rb ∧ wr.heap.size ≤ w'.heap.size ∧ mass js' < mass ((p, tb, toff) :: js)

theorem do78 {Fit : Pt → Prop} {G : World → Prop} {RV : Pt → Tr → Prop} {RL : List Lv → List Lv → Prop} {w0 : World} {B gu fa rb M : Nat} {fv : Value}
    (hcop : ∀ p w', Fit p → TIn w' (· < B) p.t → Calls Tryd.prog 44 #[.slice p.t.la p.t.ls.length p.t.lc] w' fun e w'' => ∃ oa ol oc, e = .returned (.slice oa ol oc) ∧ RCop RL p.t.ls w' w'' oa ol oc ∧ Below w'.heap.size w' w'') :
    DoOk Fit G (Img RV RL) w0 B gu fa rb M fv 78 (fun k => k = 1 ∨ k = 2) := by
  intro wr js v p tb toff hk h hrb hs _
  have J := h.jobs _ (List.mem_cons_self ..)
  have hlt : p.b < B := J.lt
  have hge : B ≤ tb := J.ge
  have hng : tb ≠ gu := fun e => J.nx (by show XB wr tb; rw [e]; exact xb_gu h.row.blk)
  have hc : TCells wr p.b p.off p.t := J.cells.carry (h.low.block _ hlt)
  have hi : TIn wr (· < B) p.t := TIn.below J.tin h.low (Nat.le_refl _)
  refine (doLeaf_any (RCop RL p.t.ls) gu fv v p tb toff wr h.row.blk hc J.hole (by omega) hng (fun w' hb => hcop p w' J.fit (hi.below hb hs))).mono ?_
  rintro e w' ⟨rfl, w1, w2, oa, ol, oc, hb1, ⟨ls', hrl, rfl, hno⟩, hb2, hw'⟩
  have hN := tin_iff.1 hi
  have hT : TIn w2 (fun k => w1.heap.size ≤ k ∧ k < w2.heap.size ∧ ¬ XB w2 k) (.mk p.t.k p.t.n p.t.s ls' oa oc none 0 0 0 []) := tin_iff.2 ⟨hN.k0, hN.k1, hN.n0, hN.n1, hno, Nat.le_refl _, by show 0 ≤ 9223372036854775807; omega, .inl rfl⟩
  have hb := hb1.trans (hb2.mono hb1.size)
  refine ⟨rfl, js, v, h.leafed hb1 hb2 hT (.leaf hk rfl rfl rfl hrl rfl) hs hw', fun hx => ?_, ?_, ?_⟩
  · rw [hw', xb_put5] at hx
    exact hrb ((XB.carry (hb.block rb h.root.lt)).1 hx)
  · rw [hw']; simp [put5, World.setCell]; exact hb.size
  · have := p.t.size_pos
    simp only [mass]; omega

theorem mass_push (p : Pt) (nb : Nat) (l : List Tr) : ∀ (i : Nat) (js : Jobs), mass (Jobs.push p nb l i js) = Tr.sizes l + mass js := by
  induction l with
  | nil => intro i js; simp [Jobs.push, Tr.sizes]
  | cons x r ih => intro i js; simp only [Jobs.push, ih, mass, Tr.sizes, Pt.kid]; omega
theorem mass_len (js : Jobs) : js.length ≤ mass js := by
  induction js with
  | nil => exact Nat.le_refl _
  | cons x r ih => have := x.1.t.size_pos; simp only [List.length_cons, mass]; omega

theorem do79 {Fit : Pt → Prop} {G : World → Prop} {RV : Pt → Tr → Prop} {RL : List Lv → List Lv → Prop} {w0 : World} {B gu fa rb M : Nat} {fv : Value} (h3 : 3 ≤ B) (hT : Tabs w0) (hgu : B ≤ gu) (hM : M ≤ 1073741824)
    (hF : ∀ p, Fit p → p.d ≤ 1073741824 ∧ p.m ≤ 1073741824 ∧ (3 ≤ p.t.k → 0 < p.t.args.length ∧ p.t.args.length ≤ 1000) ∧ ∀ i T, p.t.args[i]? = some T → Fit (p.kid i T))
    (hcop : ∀ p w', Fit p → TIn w' (· < B) p.t → Calls Tryd.prog 44 #[.slice p.t.la p.t.ls.length p.t.lc] w' fun e w'' => ∃ oa ol oc, e = .returned (.slice oa ol oc) ∧ RCop RL p.t.ls w' w'' oa ol oc ∧ Below w'.heap.size w' w'') :
    DoOk Fit G (Img RV RL) w0 B gu fa rb M fv 79 (fun k => 3 ≤ k ∧ k ≤ 6) := by
  intro wr js v p tb toff hk h hrb hs hm
  have J := h.jobs _ (List.mem_cons_self ..)
  have hlt : p.b < B := J.lt
  have hge : B ≤ tb := J.ge
  have hng : tb ≠ gu := fun e => J.nx (by show XB wr tb; rw [e]; exact xb_gu h.row.blk)
  have hc : TCells wr p.b p.off p.t := J.cells.carry (h.low.block _ hlt)
  have hi : TIn wr (· < B) p.t := TIn.below J.tin h.low (Nat.le_refl _)
  obtain ⟨f1, f2, f3, f4⟩ := hF p J.fit
  have f3 := f3 hk.1
  have hml := mass_len ((p, tb, toff) :: js)
  simp only [List.length_cons] at hml
  refine (doBranch_any (RCop RL p.t.ls) B gu tb toff fv v js p wr (hT.below h.low h3) h.row hc hi hlt h3 hs hge hgu hng (fun e => J.nx (xb_row h.row.row e)) J.hole f1 f2 f3.1 f3.2 (by omega) (fun w' hb => hcop p w' J.fit (hi.below hb hs))).mono ?_
  rintro e w' ⟨rfl, w1, w2, oa, ol, oc, nb, v', hp⟩
  have hnX : ¬ XB w' nb := fun ⟨cs, t, fr, h1, h2⟩ => by
    obtain ⟨cs', h3⟩ := hp.ty
    rw [h3] at h1
    simp only [Option.some.injEq, Obj.cells.injEq] at h1
    obtain ⟨_, rfl, _⟩ := h1
    exact absurd h2 (by decide)
  have hb := hp.b1.trans (hp.b2.mono hp.b1.size)
  have hr := h.root.lt
  have hk0 := hp.keep
  have hsz := hk0.size
  have hs0 : ((put5 w2 tb toff (.int .i64 p.t.k) (.int .i64 p.t.n) (.string p.t.s) (.slice oa ol oc) (.slice none 0 0)).setCell ⟨tb, toff + 4, none⟩ (.slice (some ⟨nb, 0, none⟩) p.t.args.length p.t.args.length)).heap.size = w2.heap.size := by simp [put5, World.setCell]
  have hbs := hb.size
  refine ⟨rfl, _, v', h.branched hp hs hgu hrb hk.1 hk.2 f3.2 f3.1 f4 hnX, fun hx => ?_, by omega, ?_⟩
  · have h1 := (XB.carry (hk0.block rb (by omega) (fun e => by
      rcases e with e | e
      · exact hrb (by rw [e]; exact xb_gu h.row.blk)
      · exact hrb (xb_row h.row.row e)))).1 hx
    rw [xb_set, xb_put5] at h1
    exact hrb ((XB.carry (hb.block rb hr)).1 h1)
  · rw [mass_push]
    have := p.t.size_eq
    simp only [mass]; omega
end Go.Proofs.YtbmijpjmdpdfkaaDoor
