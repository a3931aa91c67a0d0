/- A turn's step at a part with args: its own cells are written, and a job for each arg is laid. Plain facts of worlds, of no program. -/
import Derived.Test.YtbmijpjmdpdfkaaDoorOfL
namespace Go.Proofs.YtbmijpjmdpdfkaaDoor
open Go.RowKit

theorem Jobs.push_app (p : Pt) (nb : Nat) (l : List Tr) : ∀ (i : Nat) (js : Jobs), Jobs.push p nb l i js = Jobs.push p nb l i [] ++ js := by
  induction l with
  | nil => intro i js; rfl
  | cons x r ih => intro i js; simp only [Jobs.push]; rw [ih, ih (i + 1) [(p.kid i x, nb, i * 5)]]; simp
theorem Jobs.push_mem (p : Pt) (nb : Nat) (l : List Tr) : ∀ (i : Nat) (x : Pt × Nat × Nat), x ∈ Jobs.push p nb l i [] ↔ ∃ j T, l[j]? = some T ∧ x = (p.kid (i + j) T, nb, (i + j) * 5) := by
  induction l with
  | nil => intro i x; simp [Jobs.push]
  | cons y r ih =>
    intro i x
    simp only [Jobs.push]
    rw [Jobs.push_app, List.mem_append, ih]
    constructor
    · rintro (⟨j, T, h1, h2⟩ | h)
      · exact ⟨j + 1, T, by simpa using h1, by rw [h2, show i + 1 + j = i + (j + 1) from by omega]⟩
      · simp at h; exact ⟨0, y, by simp, by simpa using h⟩
    · rintro ⟨j, T, h1, h2⟩
      cases j with
      | zero => simp at h1; subst h1; exact .inr (by simpa using h2)
      | succ j => exact .inl ⟨j, T, by simpa using h1, by rw [h2, show i + 1 + j = i + (j + 1) from by omega]⟩
theorem Jobs.push_apart (p : Pt) (nb : Nat) (l : List Tr) : ∀ (i : Nat), (Jobs.push p nb l i []).Pairwise apart := by
  induction l with
  | nil => intro i; exact List.Pairwise.nil
  | cons y r ih =>
    intro i
    simp only [Jobs.push]
    rw [Jobs.push_app]
    refine List.pairwise_append.2 ⟨ih _, by simp, fun a ha b hb => ?_⟩
    obtain ⟨j, T, _, rfl⟩ := (Jobs.push_mem p nb r (i + 1) a).1 ha
    simp at hb
    subst hb
    intro _
    show (i + 1 + j) * 5 + 5 ≤ i * 5 ∨ i * 5 + 5 ≤ (i + 1 + j) * 5
    omega

/-- What copied must tell of a part's Levels. -/
def RCop (RL : List Lv → List Lv → Prop) (ls : List Lv) (w1 w2 : World) (oa : Option Addr) (ol oc : Nat) : Prop :=
  ∃ ls', RL ls ls' ∧ ol = ls'.length ∧ Node w2 (fun k => w1.heap.size ≤ k ∧ k < w2.heap.size ∧ ¬ XB w2 k) 0 0 ls' oa oc

theorem OfS.branched {Fit : Pt → Prop} {G : World → Prop} {RV : Pt → Tr → Prop} {RL : List Lv → List Lv → Prop} {w0 wr w' w1 w2 : World} {B gu fa rb : Nat} {fv v v' : Value} {p : Pt} {tb toff : Nat} {js : Jobs} {oa : Option Addr} {ol oc nb : Nat} (h : OfS Fit G (Img RV RL) w0 wr B gu fa rb fv ((p, tb, toff) :: js) js v)
    (hp : BrP (RCop RL p.t.ls) wr w' B gu tb toff fv v js p w1 w2 oa ol oc nb v') (hs : B ≤ wr.heap.size) (hgu : B ≤ gu) (hrb : ¬ XB wr rb) (hk3 : 3 ≤ p.t.k) (hk6 : p.t.k ≤ 6) (hl2 : p.t.args.length ≤ 1000) (hl1 : 0 < p.t.args.length) (hfit : ∀ i T, p.t.args[i]? = some T → Fit (p.kid i T)) (hnbX : ¬ XB w' nb) :
    OfS Fit G (Img RV RL) w0 w' B gu fa rb fv (Jobs.push p nb p.t.args 0 js) (Jobs.push p nb p.t.args 0 js) v' := by
  have J := h.jobs _ (List.mem_cons_self ..)
  have hb := hp.b1.trans (hp.b2.mono hp.b1.size)
  have hsz := hb.size
  have hge : B ≤ tb := J.ge
  have hlt : tb < wr.heap.size := J.hole.lt
  have hgX := xb_gu h.row.blk
  have hgl := h.row.blk.lt
  have hne : ∀ k, XB wr k → k ≠ tb := fun k hx e => J.nx (by show XB wr tb; rw [← e]; exact hx)
  -- the world with the place written
  obtain ⟨W0, hW0⟩ : ∃ W0, (put5 w2 tb toff (.int .i64 p.t.k) (.int .i64 p.t.n) (.string p.t.s) (.slice oa ol oc) (.slice none 0 0)).setCell ⟨tb, toff + 4, none⟩ (.slice (some ⟨nb, 0, none⟩) p.t.args.length p.t.args.length) = W0 := ⟨_, rfl⟩
  have hk0 := hp.keep
  rw [hW0] at hk0
  have K0 : Keep w2 W0 (fun k => k = tb) := by rw [← hW0]; exact (put5_keep _ _ _ _ _ _ _ _).setCell (fun _ => rfl) _ _
  have hsW : W0.heap.size = w2.heap.size := by rw [← hW0]; simp [put5, World.setCell]
  have H5 := (J.hole.on hb).put5 tb toff (.int .i64 p.t.k) (.int .i64 p.t.n) (.string p.t.s) (.slice oa ol oc) (.slice none 0 0)
  obtain ⟨c0, c1, c2, c3, c4⟩ := put5_in (J.hole.on hb) (.int .i64 p.t.k) (.int .i64 p.t.n) (.string p.t.s) (.slice oa ol oc) (.slice none 0 0)
  have xb0 : ∀ k, XB W0 k ↔ XB w2 k := fun k => by rw [← hW0, xb_set, xb_put5]
  have xbw : ∀ k, k < wr.heap.size → (XB W0 k ↔ XB wr k) := fun k hk => (xb0 k).trans (XB.carry (hb.block k hk))
  have hown : ∀ k, v.ownBlock = some k → XB wr k ∧ k < wr.heap.size := fun k e => ⟨xb_row h.row.row e, (owns_own h.row.row e).2⟩
  -- blocks that are no job's
  have blk : ∀ k, k < w2.heap.size → (k < wr.heap.size → ¬ XB wr k) → w'.heap[k]? = W0.heap[k]? := fun k hk hn => hk0.block k (by omega) (fun e => by
    rcases e with e | e
    · exact hn (by omega) (by rw [e]; exact hgX)
    · exact hn (hown k e).2 (hown k e).1)
  have cW : ∀ c, (∀ i, c = toff + i → i ≠ 4) → w'.cell? ⟨tb, c, none⟩ = (put5 w2 tb toff (.int .i64 p.t.k) (.int .i64 p.t.n) (.string p.t.s) (.slice oa ol oc) (.slice none 0 0)).cell? ⟨tb, c, none⟩ := fun c hc => by
    rw [World.cell?_of_block (blk tb (by omega) (fun _ => J.nx)), ← hW0]
    exact World.cell?_setCell_other _ _ _ _ (fun e => by simp only [Addr.mk.injEq, and_true, true_and] at e; exact hc 4 e.symm rfl)
  have d4 : w'.cell? ⟨tb, toff + 4, none⟩ = some (.slice (some ⟨nb, 0, none⟩) p.t.args.length p.t.args.length) := by
    rw [World.cell?_of_block (blk tb (by omega) (fun _ => J.nx)), ← hW0]
    exact World.cell?_setCell_same _ _ _ c4
  have L : Later wr w' [(p, tb, toff)] := by
    refine ⟨by have := hk0.size; omega, fun k hk hn hx => ?_, fun k hk hn hJ => ?_, fun k c hk hn hJ => ?_⟩
    · exact hn ((xbw k hk).1 ((XB.carry (blk k (by omega) (fun _ => hn))).1 hx))
    · have e : k ≠ tb := fun e => hJ _ (List.mem_singleton.2 rfl) e.symm
      exact (blk k (by omega) (fun _ => hn)).trans ((K0.block k (by omega) e).trans (hb.block k hk))
    · by_cases e : k = tb
      · subst e
        have hc := hJ _ (List.mem_singleton.2 rfl) rfl
        simp only at hc
        rw [cW c (fun i hi => by omega), put5_out _ _ _ _ _ _ _ _ _ _ (fun _ => hc)]
        exact (bcell hb).1 k c hk
      · exact World.cell?_of_block ((blk k (by omega) (fun _ => hn)).trans ((K0.block k (by omega) e).trans (hb.block k hk)))
  have hH : ∀ b o, ¬ XB wr b → Hole wr b o → Hole w' b o := fun b o hn hh => by
    have h2 : Hole W0 b o := by rw [← hW0]; exact ((hh.on hb).put5 _ _ _ _ _ _ _).set _ _ _
    exact h2.carry (blk b (by have := hh.lt; omega) (fun _ => hn))
  have hlow : Below B wr w' := by
    have h1 : Below B w2 W0 := K0.below (by omega) (fun k e => by omega)
    have h2 : Below B W0 w' := hk0.below (by omega) (fun k e => by
      rcases e with e | e
      · omega
      · exact (owns_own h.row.row e).1)
    exact (hb.mono hs).trans (h1.trans h2)
  have hnl : nb < w'.heap.size := (hp.holes 0 hl1).lt
  have hnb := hp.hnb
  have hN := tin_iff.1 J.tin
  have hmem := Jobs.push_mem p nb p.t.args 0
  have harr : Blk w' fa 111 doers := by
    have hf := h.arr.lt
    have f1 : ¬ (fa = gu ∨ v.ownBlock = some fa) := fun e => by
      rcases e with e | e
      · have h1 := h.arr
        have h2 := h.row.blk
        rw [e] at h1
        unfold Blk at h1 h2
        rw [h1] at h2
        simp at h2
      · exact owns_ne h.row.row h.arr (by decide) e
    exact h.arr.carry ((hk0.block fa (by omega) f1).trans ((K0.block fa (by omega) (hne _ (xb_arr h.arr))).trans (hb.block fa hf)))
  refine ⟨hp.row, h.low.trans hlow, fun x hx => ?_, ?_, hH _ _ hrb h.root, harr, ?_⟩
  · rw [Jobs.push_app] at hx
    rcases List.mem_append.1 hx with hx | hx
    · obtain ⟨j, T, hT, rfl⟩ := (hmem x).1 hx
      have g := J.tin.get hT
      have hj : j < p.t.args.length := (List.getElem?_eq_some_iff.1 hT).1
      simp only [Nat.zero_add]
      exact ⟨g.2.2.1, g.2.2.2, g.2.1, hfit j T hT, hp.holes j hj, by show B ≤ nb; omega, hnbX⟩
    · have Jx := h.jobs x (List.mem_cons_of_mem _ hx)
      exact ⟨Jx.cells, Jx.tin, Jx.lt, Jx.fit, hH _ _ Jx.nx Jx.hole, Jx.ge, L.xb _ Jx.hole.lt Jx.nx⟩
  · rw [Jobs.push_app]
    refine List.pairwise_append.2 ⟨Jobs.push_apart _ _ _ _, (List.pairwise_cons.1 h.dis).2, fun a ha b hb' e => ?_⟩
    obtain ⟨j, T, hT, rfl⟩ := (hmem a).1 ha
    have := (h.jobs b (List.mem_cons_of_mem _ hb')).hole.lt
    simp only at e
    omega
  · rw [Jobs.push_app]
    obtain ⟨ls', hrl, rfl, hno⟩ := hp.r
    have hno' : Node w' (fun k => wr.heap.size ≤ k ∧ k < w'.heap.size ∧ ¬ XB w' k ∧ k ≠ nb) 0 0 ls' oa oc := by
      have hbe : ∀ k, w1.heap.size ≤ k → k < w2.heap.size → w'.heap[k]? = w2.heap[k]? := fun k h1 h2 => by
        have := hp.b1.size
        exact (blk k h2 (fun h3 => by omega)).trans (K0.block k h2 (by omega))
      exact hno.carry (fun b hb' => hbe b hb'.1 hb'.2.1) (fun b hb' => by
        have h1 := hb'.1
        have h2 := hb'.2.1
        have := hp.b1.size
        have := hk0.size
        exact ⟨by omega, by omega, fun hx => hb'.2.2 ((XB.carry (hbe b h1 h2)).1 hx), by omega⟩)
    refine wand_step h.wand L (fun y hy => ?_) (branch_done (N := wr.heap.size) hk3 hk6 hN.n0 hN.n1 hrl rfl hl2 ((cW toff (fun i hi => by omega)).trans c0) ((cW (toff + 1) (fun i hi => by omega)).trans c1) ((cW (toff + 2) (fun i hi => by omega)).trans c2) ((cW (toff + 3) (fun i hi => by omega)).trans c3) d4 hno' hs (by omega) hnl hnbX hlt (L.xb _ hlt J.nx) (fun x hx => (h.jobs x (List.mem_cons_of_mem _ hx)).hole.lt) (fun x hx e => (List.pairwise_cons.1 h.dis).1 x hx e.symm) (fun x hx => ?_) (fun i T hT => (hmem _).2 ⟨i, T, hT, by simp⟩))
    · obtain ⟨j, T, hT, rfl⟩ := (hmem y).1 hy
      show wr.heap.size ≤ nb; omega
    · obtain ⟨j, T, hT, rfl⟩ := (hmem x).1 hx
      rfl
end Go.Proofs.YtbmijpjmdpdfkaaDoor
