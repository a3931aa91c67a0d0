/- A place written whole, as a step of a turn. Plain facts of worlds, of no program. -/
import Derived.Test.YtbmijpjmdpdfkaaDoorWand
import Derived.Test.YtbmijpjmdpdfkaaDoorBr
namespace Go.Proofs.YtbmijpjmdpdfkaaDoor
open Go.RowKit

theorem xb_set (w : World) (g j : Nat) (v : Value) (k : Nat) : XB (w.setCell ⟨g, j, none⟩ v) k ↔ XB w k := by
  by_cases e : k = g
  · subst e
    cases h : w.heap[k]? with
    | none => simp [XB, World.setCell, Array.getElem?_modify, h]
    | some o =>
      cases o with
      | cells c e f =>
        have h2 : (w.setCell ⟨k, j, none⟩ v).heap[k]? = some (.cells (c.setIfInBounds j v) e f) := by simp [World.setCell, Array.getElem?_modify, h]
        unfold XB
        rw [h, h2]
        exact ⟨fun ⟨_, _, _, h3, h4⟩ => by cases h3; exact ⟨_, _, _, rfl, h4⟩, fun ⟨_, _, _, h3, h4⟩ => by cases h3; exact ⟨_, _, _, rfl, h4⟩⟩
      | _ => simp [XB, World.setCell, Array.getElem?_modify, h]
  · exact XB.carry (Below.heap_setCell _ _ _ _ e)
theorem xb_put5 (w : World) (g j : Nat) (a0 a1 a2 a3 a4 : Value) (k : Nat) : XB (put5 w g j a0 a1 a2 a3 a4) k ↔ XB w k := by
  unfold put5; rw [xb_set, xb_set, xb_set, xb_set, xb_set]
theorem put5_out (w : World) (g j : Nat) (a0 a1 a2 a3 a4 : Value) (k c : Nat) (h : k = g → c < j ∨ j + 5 ≤ c) : (put5 w g j a0 a1 a2 a3 a4).cell? ⟨k, c, none⟩ = w.cell? ⟨k, c, none⟩ := by
  have ne : ∀ i, i < 5 → (⟨g, j + i, none⟩ : Addr) ≠ ⟨k, c, none⟩ := fun i hi e => by
    simp only [Addr.mk.injEq, and_true] at e
    have := h e.1.symm; omega
  have ne0 : (⟨g, j, none⟩ : Addr) ≠ ⟨k, c, none⟩ := ne 0 (by omega)
  unfold put5
  rw [World.cell?_setCell_other _ _ _ _ (ne 4 (by omega)), World.cell?_setCell_other _ _ _ _ (ne 3 (by omega)), World.cell?_setCell_other _ _ _ _ (ne 2 (by omega)), World.cell?_setCell_other _ _ _ _ (ne 1 (by omega)), World.cell?_setCell_other _ _ _ _ ne0]
theorem put5_in {w : World} {g j : Nat} (hh : Hole w g j) (a0 a1 a2 a3 a4 : Value) : (put5 w g j a0 a1 a2 a3 a4).cell? ⟨g, j, none⟩ = some a0 ∧ (put5 w g j a0 a1 a2 a3 a4).cell? ⟨g, j + 1, none⟩ = some a1 ∧ (put5 w g j a0 a1 a2 a3 a4).cell? ⟨g, j + 2, none⟩ = some a2 ∧ (put5 w g j a0 a1 a2 a3 a4).cell? ⟨g, j + 3, none⟩ = some a3 ∧ (put5 w g j a0 a1 a2 a3 a4).cell? ⟨g, j + 4, none⟩ = some a4 := by
  obtain ⟨cs, t, h, hs⟩ := hh
  have hp : (put5 w g j a0 a1 a2 a3 a4).heap[g]? = some (.cells (((((cs.setIfInBounds j a0).setIfInBounds (j + 1) a1).setIfInBounds (j + 2) a2).setIfInBounds (j + 3) a3).setIfInBounds (j + 4) a4) t (0, 0)) := by
    simp [put5, World.setCell, Array.getElem?_modify, h]
  have key := fun i => cell_of_row _ g i _ t (0, 0) hp
  refine ⟨?_, ?_, ?_, ?_, ?_⟩ <;> rw [key] <;> simp [Array.getElem?_setIfInBounds] <;> omega
theorem later_put5 {w w2 : World} (hb : Below w.heap.size w w2) (p : Pt) (tb toff : Nat) (a0 a1 a2 a3 a4 : Value) : Later w (put5 w2 tb toff a0 a1 a2 a3 a4) [(p, tb, toff)] := by
  refine ⟨?_, fun k hk h h' => h ((XB.carry (hb.block k hk)).1 ((xb_put5 _ _ _ _ _ _ _ _ k).1 h')), fun k hk _ hJ => ?_, fun k c hk _ hJ => ?_⟩
  · simp [put5, World.setCell]; exact hb.size
  · have hne : k ≠ tb := fun e => hJ _ (List.mem_singleton.2 rfl) e.symm
    unfold put5
    rw [Below.heap_setCell _ _ _ _ hne, Below.heap_setCell _ _ _ _ hne, Below.heap_setCell _ _ _ _ hne, Below.heap_setCell _ _ _ _ hne, Below.heap_setCell _ _ _ _ hne]
    exact hb.block k hk
  · rw [put5_out _ _ _ _ _ _ _ _ _ _ (fun e => hJ _ (List.mem_singleton.2 rfl) e.symm)]
    exact (bcell hb).1 k c hk

/-- What a step that writes a place whole leaves: a term of new blocks in it. -/
theorem put5_leaf {w w1 w2 w' : World} (hb1 : Below w.heap.size w w1) (hb2 : Below w1.heap.size w1 w2) {T : Tr} {p : Pt} {tb toff : Nat} (hh : Hole w tb toff) (ht : TIn w2 (fun k => w1.heap.size ≤ k ∧ k < w2.heap.size ∧ ¬ XB w2 k) T) (hw' : w' = put5 w2 tb toff (.int .i64 T.k) (.int .i64 T.n) (.string T.s) (.slice T.la T.ls.length T.lc) (.slice T.a T.args.length T.c)) :
    Later w w' [(p, tb, toff)] ∧ TCells w' tb toff T ∧ TIn w' (fun k => w.heap.size ≤ k ∧ k < w'.heap.size ∧ ¬ XB w' k) T := by
  subst hw'
  have hb := hb1.trans (hb2.mono hb1.size)
  have h1 := hb1.size
  have hlt := hh.lt
  obtain ⟨c0, c1, c2, c3, c4⟩ := put5_in (hh.on hb) (.int .i64 T.k) (.int .i64 T.n) (.string T.s) (.slice T.la T.ls.length T.lc) (.slice T.a T.args.length T.c)
  have hK : Keep w2 (put5 w2 tb toff (.int .i64 T.k) (.int .i64 T.n) (.string T.s) (.slice T.la T.ls.length T.lc) (.slice T.a T.args.length T.c)) (fun k => k = tb) :=
    (((((Keep.refl w2 (fun k => k = tb)).setCell (g := tb) (fun _ => rfl) toff _).setCell (g := tb) (fun _ => rfl) (toff + 1) _).setCell (g := tb) (fun _ => rfl) (toff + 2) _).setCell (g := tb) (fun _ => rfl) (toff + 3) _).setCell (g := tb) (fun _ => rfl) (toff + 4) _
  have hs := hK.size
  refine ⟨later_put5 hb p tb toff _ _ _ _ _, ⟨c0, c1, c2, c3, c4⟩, ?_⟩
  exact TIn.carry (fun b hb' => hK.block b hb'.2.1 (by have := hb'.1; omega)) (fun b hb' => ⟨by have := hb'.1; omega, by have := hb'.2.1; omega, fun h => hb'.2.2 ((xb_put5 _ _ _ _ _ _ _ _ b).1 h)⟩) T ht
end Go.Proofs.YtbmijpjmdpdfkaaDoor

/- The state of a turn between two of its jobs, and how a job is taken off. Plain facts of worlds, of no program. -/
namespace Go.Proofs.YtbmijpjmdpdfkaaDoor
open Go.RowKit

def doers : List Value := [.func (.func 77) #[] #[], .func (.func 78) #[] #[], .func (.func 78) #[] #[], .func (.func 79) #[] #[], .func (.func 79) #[] #[], .func (.func 79) #[] #[], .func (.func 79) #[] #[]]

/-- A job as it must be: its part lies below B, its place from B on. Fit says what else is asked of the part. -/
structure JOk (Fit : Pt → Prop) (w0 wr : World) (B : Nat) (x : Pt × Nat × Nat) : Prop where
  cells : TCells w0 x.1.b x.1.off x.1.t
  tin : TIn w0 (· < B) x.1.t
  lt : x.1.b < B
  fit : Fit x.1
  hole : Hole wr x.2.1 x.2.2
  ge : B ≤ x.2.1
  nx : ¬ XB wr x.2.1

def apart (x y : Pt × Nat × Nat) : Prop := x.2.1 = y.2.1 → x.2.2 + 5 ≤ y.2.2 ∨ y.2.2 + 5 ≤ x.2.2

/-- The turn's state: jobs js stand in its list, and all must be done. -/
structure OfS (Fit : Pt → Prop) (G : World → Prop) (Im : Pt → Tr → Prop) (w0 wr : World) (B gu fa rb : Nat) (fv : Value) (todo js : Jobs) (v : Value) : Prop where
  row : JRow wr B gu fv (.func (.func 44) #[] #[]) js v
  low : Below B w0 wr
  jobs : ∀ x ∈ todo, JOk Fit w0 wr B x
  dis : todo.Pairwise apart
  root : Hole wr rb 0
  arr : Blk wr fa 111 doers
  wand : ∀ W, Later wr W todo → (∀ x ∈ todo, DoneB Im B W x) → G W

theorem xb_gu {w : World} {gu : Nat} {l : List Value} (h : Blk w gu 71 l) : XB w gu := ⟨_, _, _, h, .inr (.inl rfl)⟩
theorem xb_row {w : World} {B n g : Nat} {v : Value} {xs : List Value} (h : w.ownsRow B 114 4 v n xs) (hg : v.ownBlock = some g) : XB w g := by
  rcases h.2 with ⟨rfl, h0⟩ | ⟨g', cap, cur, rfl, h1, hcur, r⟩
  · cases hg
  · simp [Value.ownBlock] at hg; subst hg; exact ⟨_, _, _, hcur, .inl rfl⟩

/-- Worlds that differ in the turn's own block alone (and in new ones): the same is owed. -/
theorem later_keep {w w' : World} {gu : Nat} {J : List (Pt × Nat × Nat)} (hk : Keep w w' (fun k => k = gu)) (hg : XB w gu) : Later w w' J := by
  have hb : ∀ k, k < w.heap.size → ¬ XB w k → w'.heap[k]? = w.heap[k]? := fun k hk' hn => hk.block k hk' (fun e => hn (by rw [e]; exact hg))
  exact ⟨hk.size, fun k hk' hn h => hn ((XB.carry (hb k hk' hn)).1 h), fun k hk' hn _ => hb k hk' hn, fun k c hk' hn _ => World.cell?_of_block (hb k hk' hn)⟩

theorem OfS.turned {Fit : Pt → Prop} {G : World → Prop} {Im : Pt → Tr → Prop} {w0 wr w' : World} {B gu fa rb : Nat} {fv v v' : Value} {todo js js' : Jobs} (h : OfS Fit G Im w0 wr B gu fa rb fv todo js v) (hk : Keep wr w' (fun k => k = gu)) (hB : B ≤ gu) (hrow : JRow w' B gu fv (.func (.func 44) #[] #[]) js' v') (hrb : ¬ XB wr rb) (hs : B ≤ wr.heap.size) :
    OfS Fit G Im w0 w' B gu fa rb fv todo js' v' := by
  have hX := xb_gu h.row.blk
  have hne : ∀ k, ¬ XB wr k → k ≠ gu := fun k hn e => hn (by rw [e]; exact hX)
  have hfa : fa ≠ gu := fun e => by
    have h1 := h.arr
    have h2 := h.row.blk
    rw [e] at h1
    unfold Blk at h1 h2
    rw [h1] at h2
    simp at h2
  refine ⟨hrow, h.low.trans (hk.below hs (fun k e => by omega)), fun x hx => ?_, h.dis, h.root.keep hk (hne rb hrb), h.arr.keep hk hfa, fun W hL hd => ?_⟩
  · have J := h.jobs x hx
    exact ⟨J.cells, J.tin, J.lt, J.fit, J.hole.keep hk (hne _ J.nx), J.ge, fun hx' => J.nx ((XB.carry (hk.block _ J.hole.lt (hne _ J.nx))).1 hx')⟩
  · exact h.wand W ((later_keep (J := []) hk hX).trans hL (fun x hx => by cases hx) (fun x hx => .inl hx)) hd
end Go.Proofs.YtbmijpjmdpdfkaaDoor

/- A turn's step at a Var, a Sort or a Const: the place is written whole. Plain facts of worlds, of no program. -/
namespace Go.Proofs.YtbmijpjmdpdfkaaDoor
open Go.RowKit

theorem xb_arr {w : World} {fa : Nat} {l : List Value} (h : Blk w fa 111 l) : XB w fa := ⟨_, _, _, h, .inr (.inr rfl)⟩

theorem OfS.leafed {Fit : Pt → Prop} {G : World → Prop} {Im : Pt → Tr → Prop} {w0 wr w1 w2 w' : World} {B gu fa rb : Nat} {fv v : Value} {p : Pt} {tb toff : Nat} {js : Jobs} (h : OfS Fit G Im w0 wr B gu fa rb fv ((p, tb, toff) :: js) js v)
    (hb1 : Below wr.heap.size wr w1) (hb2 : Below w1.heap.size w1 w2) {T : Tr} (ht : TIn w2 (fun k => w1.heap.size ≤ k ∧ k < w2.heap.size ∧ ¬ XB w2 k) T) (hi : Im p T) (hs : B ≤ wr.heap.size)
    (hw' : w' = put5 w2 tb toff (.int .i64 T.k) (.int .i64 T.n) (.string T.s) (.slice T.la T.ls.length T.lc) (.slice T.a T.args.length T.c)) : OfS Fit G Im w0 w' B gu fa rb fv js js v := by
  have J := h.jobs _ (List.mem_cons_self ..)
  have hb := hb1.trans (hb2.mono hb1.size)
  obtain ⟨L, hc, hin⟩ := put5_leaf (p := p) hb1 hb2 J.hole ht hw'
  have hK : Keep w2 w' (fun k => k = tb) := by rw [hw']; exact put5_keep _ _ _ _ _ _ _ _
  have hKw : Keep wr w' (fun k => k = tb) := (Keep.of_below hb (Nat.le_refl _)).trans hK (fun _ _ e => e)
  have hge : B ≤ tb := J.ge
  have hne : ∀ k, XB wr k → k ≠ tb := fun k hx e => J.nx (by show XB wr tb; rw [← e]; exact hx)
  have hH : ∀ b o, Hole wr b o → Hole w' b o := fun b o hh => by rw [hw']; exact (hh.on hb).put5 _ _ _ _ _ _ _
  refine ⟨⟨h.row.blk.keep hKw (hne _ (xb_gu h.row.blk)), owns_block h.row.row (fun g e => hKw.block g (owns_own h.row.row e).2 (hne _ (xb_row h.row.row e)))⟩, h.low.trans (hKw.below hs (fun k e => by omega)), fun x hx => ?_, (List.pairwise_cons.1 h.dis).2, hH _ _ h.root, h.arr.keep hKw (hne _ (xb_arr h.arr)), ?_⟩
  · have Jx := h.jobs x (List.mem_cons_of_mem _ hx)
    exact ⟨Jx.cells, Jx.tin, Jx.lt, Jx.fit, hH _ _ Jx.hole, Jx.ge, L.xb _ Jx.hole.lt Jx.nx⟩
  · refine wand_step (K := []) h.wand L (fun y hy => by cases hy) (fun W hL _ => ?_)
    refine leaf_done (N := wr.heap.size) hi hc hin hs (fun x hx => (h.jobs x (List.mem_cons_of_mem _ hx)).hole.lt) (L.xb _ J.hole.lt J.nx) (fun x hx e => ?_) W hL
    have := (List.pairwise_cons.1 h.dis).1 x hx e.symm
    exact this
end Go.Proofs.YtbmijpjmdpdfkaaDoor

/- A turn's step at a part with args: its own cells are written, and a job for each arg is laid. Plain facts of worlds, of no program. -/
namespace Go.Proofs.YtbmijpjmdpdfkaaDoor
open Go.RowKit

theorem Jobs.push_app (p : Pt) (nb : Nat) (l : List Tr) : ∀ (i : Nat) (js : Jobs), Jobs.push p nb l i js = Jobs.push p nb l i [] ++ js := by
  induction l with
  | nil => intro i js; rfl
  | cons x r ih => intro i js; simp only [Jobs.push]; rw [ih, ih (i + 1) [(p.kid i x, nb, i * 5)]]; simp
theorem Jobs.push_mem (p : Pt) (nb : Nat) (l : List Tr) : ∀ (i : Nat) (x : Pt × Nat × Nat), x ∈ Jobs.push p nb l i [] ↔ ∃ j T, l[j]? = some T ∧ x = (p.kid (i + j) T, nb, (i + j) * 5) := by
  induction l with
  | nil => intro i x; simp [Jobs.push]
  | cons y r ih =>
    intro i x
    simp only [Jobs.push]
    rw [Jobs.push_app, List.mem_append, ih]
    constructor
    · rintro (⟨j, T, h1, h2⟩ | h)
      · exact ⟨j + 1, T, by simpa using h1, by rw [h2, show i + 1 + j = i + (j + 1) from by omega]⟩
      · simp at h; exact ⟨0, y, by simp, by simpa using h⟩
    · rintro ⟨j, T, h1, h2⟩
      cases j with
      | zero => simp at h1; subst h1; exact .inr (by simpa using h2)
      | succ j => exact .inl ⟨j, T, by simpa using h1, by rw [h2, show i + 1 + j = i + (j + 1) from by omega]⟩
theorem Jobs.push_apart (p : Pt) (nb : Nat) (l : List Tr) : ∀ (i : Nat), (Jobs.push p nb l i []).Pairwise apart := by
  induction l with
  | nil => intro i; exact List.Pairwise.nil
  | cons y r ih =>
    intro i
    simp only [Jobs.push]
    rw [Jobs.push_app]
    refine List.pairwise_append.2 ⟨ih _, by simp, fun a ha b hb => ?_⟩
    obtain ⟨j, T, _, rfl⟩ := (Jobs.push_mem p nb r (i + 1) a).1 ha
    simp at hb
    subst hb
    intro _
    show (i + 1 + j) * 5 + 5 ≤ i * 5 ∨ i * 5 + 5 ≤ (i + 1 + j) * 5
    omega

/-- What copied must tell of a part's Levels. -/
def RCop (RL : List Lv → List Lv → Prop) (ls : List Lv) (w1 w2 : World) (oa : Option Addr) (ol oc : Nat) : Prop :=
  ∃ ls', RL ls ls' ∧ ol = ls'.length ∧ Node w2 (fun k => w1.heap.size ≤ k ∧ k < w2.heap.size ∧ ¬ XB w2 k) 0 0 ls' oa oc

theorem OfS.branched {Fit : Pt → Prop} {G : World → Prop} {RV : Pt → Tr → Prop} {RL : List Lv → List Lv → Prop} {w0 wr w' w1 w2 : World} {B gu fa rb : Nat} {fv v v' : Value} {p : Pt} {tb toff : Nat} {js : Jobs} {oa : Option Addr} {ol oc nb : Nat} (h : OfS Fit G (Img RV RL) w0 wr B gu fa rb fv ((p, tb, toff) :: js) js v)
    (hp : BrP (RCop RL p.t.ls) wr w' B gu tb toff fv v js p w1 w2 oa ol oc nb v') (hs : B ≤ wr.heap.size) (hgu : B ≤ gu) (hrb : ¬ XB wr rb) (hk3 : 3 ≤ p.t.k) (hk6 : p.t.k ≤ 6) (hl2 : p.t.args.length ≤ 1000) (hl1 : 0 < p.t.args.length) (hfit : ∀ i T, p.t.args[i]? = some T → Fit (p.kid i T)) (hnbX : ¬ XB w' nb) :
    OfS Fit G (Img RV RL) w0 w' B gu fa rb fv (Jobs.push p nb p.t.args 0 js) (Jobs.push p nb p.t.args 0 js) v' := by
  have J := h.jobs _ (List.mem_cons_self ..)
  have hb := hp.b1.trans (hp.b2.mono hp.b1.size)
  have hsz := hb.size
  have hge : B ≤ tb := J.ge
  have hlt : tb < wr.heap.size := J.hole.lt
  have hgX := xb_gu h.row.blk
  have hgl := h.row.blk.lt
  have hne : ∀ k, XB wr k → k ≠ tb := fun k hx e => J.nx (by show XB wr tb; rw [← e]; exact hx)
  -- the world with the place written
  obtain ⟨W0, hW0⟩ : ∃ W0, (put5 w2 tb toff (.int .i64 p.t.k) (.int .i64 p.t.n) (.string p.t.s) (.slice oa ol oc) (.slice none 0 0)).setCell ⟨tb, toff + 4, none⟩ (.slice (some ⟨nb, 0, none⟩) p.t.args.length p.t.args.length) = W0 := ⟨_, rfl⟩
  have hk0 := hp.keep
  rw [hW0] at hk0
  have K0 : Keep w2 W0 (fun k => k = tb) := by rw [← hW0]; exact (put5_keep _ _ _ _ _ _ _ _).setCell (fun _ => rfl) _ _
  have hsW : W0.heap.size = w2.heap.size := by rw [← hW0]; simp [put5, World.setCell]
  have H5 := (J.hole.on hb).put5 tb toff (.int .i64 p.t.k) (.int .i64 p.t.n) (.string p.t.s) (.slice oa ol oc) (.slice none 0 0)
  obtain ⟨c0, c1, c2, c3, c4⟩ := put5_in (J.hole.on hb) (.int .i64 p.t.k) (.int .i64 p.t.n) (.string p.t.s) (.slice oa ol oc) (.slice none 0 0)
  have xb0 : ∀ k, XB W0 k ↔ XB w2 k := fun k => by rw [← hW0, xb_set, xb_put5]
  have xbw : ∀ k, k < wr.heap.size → (XB W0 k ↔ XB wr k) := fun k hk => (xb0 k).trans (XB.carry (hb.block k hk))
  have hown : ∀ k, v.ownBlock = some k → XB wr k ∧ k < wr.heap.size := fun k e => ⟨xb_row h.row.row e, (owns_own h.row.row e).2⟩
  -- blocks that are no job's
  have blk : ∀ k, k < w2.heap.size → (k < wr.heap.size → ¬ XB wr k) → w'.heap[k]? = W0.heap[k]? := fun k hk hn => hk0.block k (by omega) (fun e => by
    rcases e with e | e
    · exact hn (by omega) (by rw [e]; exact hgX)
    · exact hn (hown k e).2 (hown k e).1)
  have cW : ∀ c, (∀ i, c = toff + i → i ≠ 4) → w'.cell? ⟨tb, c, none⟩ = (put5 w2 tb toff (.int .i64 p.t.k) (.int .i64 p.t.n) (.string p.t.s) (.slice oa ol oc) (.slice none 0 0)).cell? ⟨tb, c, none⟩ := fun c hc => by
    rw [World.cell?_of_block (blk tb (by omega) (fun _ => J.nx)), ← hW0]
    exact World.cell?_setCell_other _ _ _ _ (fun e => by simp only [Addr.mk.injEq, and_true, true_and] at e; exact hc 4 e.symm rfl)
  have d4 : w'.cell? ⟨tb, toff + 4, none⟩ = some (.slice (some ⟨nb, 0, none⟩) p.t.args.length p.t.args.length) := by
    rw [World.cell?_of_block (blk tb (by omega) (fun _ => J.nx)), ← hW0]
    exact World.cell?_setCell_same _ _ _ c4
  have L : Later wr w' [(p, tb, toff)] := by
    refine ⟨by have := hk0.size; omega, fun k hk hn hx => ?_, fun k hk hn hJ => ?_, fun k c hk hn hJ => ?_⟩
    · exact hn ((xbw k hk).1 ((XB.carry (blk k (by omega) (fun _ => hn))).1 hx))
    · have e : k ≠ tb := fun e => hJ _ (List.mem_singleton.2 rfl) e.symm
      exact (blk k (by omega) (fun _ => hn)).trans ((K0.block k (by omega) e).trans (hb.block k hk))
    · by_cases e : k = tb
      · subst e
        have hc := hJ _ (List.mem_singleton.2 rfl) rfl
        simp only at hc
        rw [cW c (fun i hi => by omega), put5_out _ _ _ _ _ _ _ _ _ _ (fun _ => hc)]
        exact (bcell hb).1 k c hk
      · exact World.cell?_of_block ((blk k (by omega) (fun _ => hn)).trans ((K0.block k (by omega) e).trans (hb.block k hk)))
  have hH : ∀ b o, ¬ XB wr b → Hole wr b o → Hole w' b o := fun b o hn hh => by
    have h2 : Hole W0 b o := by rw [← hW0]; exact ((hh.on hb).put5 _ _ _ _ _ _ _).set _ _ _
    exact h2.carry (blk b (by have := hh.lt; omega) (fun _ => hn))
  have hlow : Below B wr w' := by
    have h1 : Below B w2 W0 := K0.below (by omega) (fun k e => by omega)
    have h2 : Below B W0 w' := hk0.below (by omega) (fun k e => by
      rcases e with e | e
      · omega
      · exact (owns_own h.row.row e).1)
    exact (hb.mono hs).trans (h1.trans h2)
  have hnl : nb < w'.heap.size := (hp.holes 0 hl1).lt
  have hnb := hp.hnb
  have hN := tin_iff.1 J.tin
  have hmem := Jobs.push_mem p nb p.t.args 0
  have harr : Blk w' fa 111 doers := by
    have hf := h.arr.lt
    have f1 : ¬ (fa = gu ∨ v.ownBlock = some fa) := fun e => by
      rcases e with e | e
      · have h1 := h.arr
        have h2 := h.row.blk
        rw [e] at h1
        unfold Blk at h1 h2
        rw [h1] at h2
        simp at h2
      · exact owns_ne h.row.row h.arr (by decide) e
    exact h.arr.carry ((hk0.block fa (by omega) f1).trans ((K0.block fa (by omega) (hne _ (xb_arr h.arr))).trans (hb.block fa hf)))
  refine ⟨hp.row, h.low.trans hlow, fun x hx => ?_, ?_, hH _ _ hrb h.root, harr, ?_⟩
  · rw [Jobs.push_app] at hx
    rcases List.mem_append.1 hx with hx | hx
    · obtain ⟨j, T, hT, rfl⟩ := (hmem x).1 hx
      have g := J.tin.get hT
      have hj : j < p.t.args.length := (List.getElem?_eq_some_iff.1 hT).1
      simp only [Nat.zero_add]
      exact ⟨g.2.2.1, g.2.2.2, g.2.1, hfit j T hT, hp.holes j hj, by show B ≤ nb; omega, hnbX⟩
    · have Jx := h.jobs x (List.mem_cons_of_mem _ hx)
      exact ⟨Jx.cells, Jx.tin, Jx.lt, Jx.fit, hH _ _ Jx.nx Jx.hole, Jx.ge, L.xb _ Jx.hole.lt Jx.nx⟩
  · rw [Jobs.push_app]
    refine List.pairwise_append.2 ⟨Jobs.push_apart _ _ _ _, (List.pairwise_cons.1 h.dis).2, fun a ha b hb' e => ?_⟩
    obtain ⟨j, T, hT, rfl⟩ := (hmem a).1 ha
    have := (h.jobs b (List.mem_cons_of_mem _ hb')).hole.lt
    simp only at e
    omega
  · rw [Jobs.push_app]
    obtain ⟨ls', hrl, rfl, hno⟩ := hp.r
    have hno' : Node w' (fun k => wr.heap.size ≤ k ∧ k < w'.heap.size ∧ ¬ XB w' k ∧ k ≠ nb) 0 0 ls' oa oc := by
      have hbe : ∀ k, w1.heap.size ≤ k → k < w2.heap.size → w'.heap[k]? = w2.heap[k]? := fun k h1 h2 => by
        have := hp.b1.size
        exact (blk k h2 (fun h3 => by omega)).trans (K0.block k h2 (by omega))
      exact hno.carry (fun b hb' => hbe b hb'.1 hb'.2.1) (fun b hb' => by
        have h1 := hb'.1
        have h2 := hb'.2.1
        have := hp.b1.size
        have := hk0.size
        exact ⟨by omega, by omega, fun hx => hb'.2.2 ((XB.carry (hbe b h1 h2)).1 hx), by omega⟩)
    refine wand_step h.wand L (fun y hy => ?_) (branch_done (N := wr.heap.size) hk3 hk6 hN.n0 hN.n1 hrl rfl hl2 ((cW toff (fun i hi => by omega)).trans c0) ((cW (toff + 1) (fun i hi => by omega)).trans c1) ((cW (toff + 2) (fun i hi => by omega)).trans c2) ((cW (toff + 3) (fun i hi => by omega)).trans c3) d4 hno' hs (by omega) hnl hnbX hlt (L.xb _ hlt J.nx) (fun x hx => (h.jobs x (List.mem_cons_of_mem _ hx)).hole.lt) (fun x hx e => (List.pairwise_cons.1 h.dis).1 x hx e.symm) (fun x hx => ?_) (fun i T hT => (hmem _).2 ⟨i, T, hT, by simp⟩))
    · obtain ⟨j, T, hT, rfl⟩ := (hmem y).1 hy
      show wr.heap.size ≤ nb; omega
    · obtain ⟨j, T, hT, rfl⟩ := (hmem x).1 hx
      rfl
end Go.Proofs.YtbmijpjmdpdfkaaDoor

/- A turn's steps at Sorts, Consts and parts with args as contracts of doLeaf and doBranch. No condition but that copied keeps its own. -/
namespace Go.Proofs.YtbmijpjmdpdfkaaDoor
open Go.RowKit

theorem exists_least {P : Nat → Prop} (h : ∃ n, P n) : ∃ n, P n ∧ ∀ m, P m → n ≤ m := by
  obtain ⟨n, hn⟩ := h
  induction n using Nat.strongRecOn with
  | ind n ih =>
    by_cases hx : ∃ m, m < n ∧ P m
    · obtain ⟨m, h1, h2⟩ := hx
      exact ih m h1 h2
    · exact ⟨n, hn, fun m hm => Nat.le_of_not_lt (fun hl => hx ⟨m, hl, hm⟩)⟩
open Classical in
/-- The least number of which P holds. -/
noncomputable def leastOf (P : Nat → Prop) : Nat := if h : ∃ n, P n then Classical.choose (exists_least h) else 0
theorem leastOf_is {P : Nat → Prop} (h : ∃ n, P n) : P (leastOf P) := by
  unfold leastOf; rw [dif_pos h]; exact (Classical.choose_spec (exists_least h)).1
theorem leastOf_le {P : Nat → Prop} {n : Nat} (h : P n) : leastOf P ≤ n := by
  unfold leastOf; rw [dif_pos ⟨n, h⟩]; exact (Classical.choose_spec (exists_least ⟨n, h⟩)).2 n h

/-- The parts that are still to be turned. -/
def mass : Jobs → Nat
  | [] => 0
  | x :: r => x.1.t.size + mass r
theorem mass_append (a b : Jobs) : mass (a ++ b) = mass a + mass b := by
  induction a with
  | nil => simp [mass]
  | cons x r ih => simp only [List.cons_append, mass, ih]; omega

/-- What a function that does a job must keep. -/
def DoOk (Fit : Pt → Prop) (G : World → Prop) (Im : Pt → Tr → Prop) (w0 : World) (B gu fa rb M : Nat) (fv : Value) (f : FuncId) (kind : Int → Prop) : Prop :=
  ∀ (wr : World) (js : Jobs) (v : Value) (p : Pt) (tb toff : Nat), kind p.t.k → OfS Fit G Im w0 wr B gu fa rb fv ((p, tb, toff) :: js) js v → ¬ XB wr rb → B ≤ wr.heap.size → mass ((p, tb, toff) :: js) ≤ M →
    Calls Tryd.prog f #[.pointer (some ⟨gu, 0, none⟩), .agg #[.pointer (some ⟨p.b, p.off, none⟩), .int .i64 (p.d : Int), .int .i64 (p.m : Int), .pointer (some ⟨tb, toff, none⟩)]] wr fun e w' =>
      e = .returned (.tuple #[]) ∧ ∃ js' v', OfS Fit G Im w0 w' B gu fa rb fv js' js' v' ∧ ¬ XB w' rb ∧ wr.heap.size ≤ w'.heap.size ∧ mass js' < mass ((p, tb, toff) :: js)

theorem do78 {Fit : Pt → Prop} {G : World → Prop} {RV : Pt → Tr → Prop} {RL : List Lv → List Lv → Prop} {w0 : World} {B gu fa rb M : Nat} {fv : Value}
    (hcop : ∀ p w', Fit p → TIn w' (· < B) p.t → Calls Tryd.prog 44 #[.slice p.t.la p.t.ls.length p.t.lc] w' fun e w'' => ∃ oa ol oc, e = .returned (.slice oa ol oc) ∧ RCop RL p.t.ls w' w'' oa ol oc ∧ Below w'.heap.size w' w'') :
    DoOk Fit G (Img RV RL) w0 B gu fa rb M fv 78 (fun k => k = 1 ∨ k = 2) := by
  intro wr js v p tb toff hk h hrb hs _
  have J := h.jobs _ (List.mem_cons_self ..)
  have hlt : p.b < B := J.lt
  have hge : B ≤ tb := J.ge
  have hng : tb ≠ gu := fun e => J.nx (by show XB wr tb; rw [e]; exact xb_gu h.row.blk)
  have hc : TCells wr p.b p.off p.t := J.cells.carry (h.low.block _ hlt)
  have hi : TIn wr (· < B) p.t := TIn.below J.tin h.low (Nat.le_refl _)
  refine (doLeaf_any (RCop RL p.t.ls) gu fv v p tb toff wr h.row.blk hc J.hole (by omega) hng (fun w' hb => hcop p w' J.fit (hi.below hb hs))).mono ?_
  rintro e w' ⟨rfl, w1, w2, oa, ol, oc, hb1, ⟨ls', hrl, rfl, hno⟩, hb2, hw'⟩
  have hN := tin_iff.1 hi
  have hT : TIn w2 (fun k => w1.heap.size ≤ k ∧ k < w2.heap.size ∧ ¬ XB w2 k) (.mk p.t.k p.t.n p.t.s ls' oa oc none 0 0 0 []) := tin_iff.2 ⟨hN.k0, hN.k1, hN.n0, hN.n1, hno, Nat.le_refl _, by show 0 ≤ 9223372036854775807; omega, .inl rfl⟩
  have hb := hb1.trans (hb2.mono hb1.size)
  refine ⟨rfl, js, v, h.leafed hb1 hb2 hT (.leaf hk rfl rfl rfl hrl rfl) hs hw', fun hx => ?_, ?_, ?_⟩
  · rw [hw', xb_put5] at hx
    exact hrb ((XB.carry (hb.block rb h.root.lt)).1 hx)
  · rw [hw']; simp [put5, World.setCell]; exact hb.size
  · have := p.t.size_pos
    simp only [mass]; omega

theorem mass_push (p : Pt) (nb : Nat) (l : List Tr) : ∀ (i : Nat) (js : Jobs), mass (Jobs.push p nb l i js) = Tr.sizes l + mass js := by
  induction l with
  | nil => intro i js; simp [Jobs.push, Tr.sizes]
  | cons x r ih => intro i js; simp only [Jobs.push, ih, mass, Tr.sizes, Pt.kid]; omega
theorem mass_len (js : Jobs) : js.length ≤ mass js := by
  induction js with
  | nil => exact Nat.le_refl _
  | cons x r ih => have := x.1.t.size_pos; simp only [List.length_cons, mass]; omega

theorem do79 {Fit : Pt → Prop} {G : World → Prop} {RV : Pt → Tr → Prop} {RL : List Lv → List Lv → Prop} {w0 : World} {B gu fa rb M : Nat} {fv : Value} (h3 : 3 ≤ B) (hT : Tabs w0) (hgu : B ≤ gu) (hM : M ≤ 1073741824)
    (hF : ∀ p, Fit p → p.d ≤ 1073741824 ∧ p.m ≤ 1073741824 ∧ (3 ≤ p.t.k → 0 < p.t.args.length ∧ p.t.args.length ≤ 1000) ∧ ∀ i T, p.t.args[i]? = some T → Fit (p.kid i T))
    (hcop : ∀ p w', Fit p → TIn w' (· < B) p.t → Calls Tryd.prog 44 #[.slice p.t.la p.t.ls.length p.t.lc] w' fun e w'' => ∃ oa ol oc, e = .returned (.slice oa ol oc) ∧ RCop RL p.t.ls w' w'' oa ol oc ∧ Below w'.heap.size w' w'') :
    DoOk Fit G (Img RV RL) w0 B gu fa rb M fv 79 (fun k => 3 ≤ k ∧ k ≤ 6) := by
  intro wr js v p tb toff hk h hrb hs hm
  have J := h.jobs _ (List.mem_cons_self ..)
  have hlt : p.b < B := J.lt
  have hge : B ≤ tb := J.ge
  have hng : tb ≠ gu := fun e => J.nx (by show XB wr tb; rw [e]; exact xb_gu h.row.blk)
  have hc : TCells wr p.b p.off p.t := J.cells.carry (h.low.block _ hlt)
  have hi : TIn wr (· < B) p.t := TIn.below J.tin h.low (Nat.le_refl _)
  obtain ⟨f1, f2, f3, f4⟩ := hF p J.fit
  have f3 := f3 hk.1
  have hml := mass_len ((p, tb, toff) :: js)
  simp only [List.length_cons] at hml
  refine (doBranch_any (RCop RL p.t.ls) B gu tb toff fv v js p wr (hT.below h.low h3) h.row hc hi hlt h3 hs hge hgu hng (fun e => J.nx (xb_row h.row.row e)) J.hole f1 f2 f3.1 f3.2 (by omega) (fun w' hb => hcop p w' J.fit (hi.below hb hs))).mono ?_
  rintro e w' ⟨rfl, w1, w2, oa, ol, oc, nb, v', hp⟩
  have hnX : ¬ XB w' nb := fun ⟨cs, t, fr, h1, h2⟩ => by
    obtain ⟨cs', h3⟩ := hp.ty
    rw [h3] at h1
    simp only [Option.some.injEq, Obj.cells.injEq] at h1
    obtain ⟨_, rfl, _⟩ := h1
    exact absurd h2 (by decide)
  have hb := hp.b1.trans (hp.b2.mono hp.b1.size)
  have hr := h.root.lt
  have hk0 := hp.keep
  have hsz := hk0.size
  have hs0 : ((put5 w2 tb toff (.int .i64 p.t.k) (.int .i64 p.t.n) (.string p.t.s) (.slice oa ol oc) (.slice none 0 0)).setCell ⟨tb, toff + 4, none⟩ (.slice (some ⟨nb, 0, none⟩) p.t.args.length p.t.args.length)).heap.size = w2.heap.size := by simp [put5, World.setCell]
  have hbs := hb.size
  refine ⟨rfl, _, v', h.branched hp hs hgu hrb hk.1 hk.2 f3.2 f3.1 f4 hnX, fun hx => ?_, by omega, ?_⟩
  · have h1 := (XB.carry (hk0.block rb (by omega) (fun e => by
      rcases e with e | e
      · exact hrb (by rw [e]; exact xb_gu h.row.blk)
      · exact hrb (xb_row h.row.row e)))).1 hx
    rw [xb_set, xb_put5] at h1
    exact hrb ((XB.carry (hb.block rb hr)).1 h1)
  · rw [mass_push]
    have := p.t.size_eq
    simp only [mass]; omega
end Go.Proofs.YtbmijpjmdpdfkaaDoor

/- A turn's step at a Var that a lift turns, as a contract of doVar. No condition but that its number has no overflow. -/
namespace Go.Proofs.YtbmijpjmdpdfkaaDoor
open Go.RowKit

/-- A Var of that number. -/
def IsVar (n : Int) (T' : Tr) : Prop := T'.k = 0 ∧ T'.n = n ∧ T'.s = { data := #[] } ∧ T'.ls = [] ∧ T'.args = []
def varT (n : Int) : Tr := .mk 0 n { data := #[] } [] none 0 none 0 0 0 []
theorem varT_is (n : Int) : IsVar n (varT n) := ⟨rfl, rfl, rfl, rfl, rfl⟩
theorem varT_in (n : Int) (h0 : -9223372036854775808 ≤ n) (h1 : n ≤ 9223372036854775807) (w : World) (S : Nat → Prop) : TIn w S (varT n) :=
  tin_iff.2 ⟨by show -9223372036854775808 ≤ (0 : Int); omega, by show (0 : Int) ≤ 9223372036854775807; omega, h0, h1, ⟨by omega, by omega, by omega, by omega, Nat.le_refl _, by show 0 ≤ 9223372036854775807; omega, .inl rfl⟩, Nat.le_refl _, by show 0 ≤ 9223372036854775807; omega, .inl rfl⟩

theorem do77_lift {Fit : Pt → Prop} {G : World → Prop} {RL : List Lv → List Lv → Prop} {w0 : World} {B gu fa rb M : Nat} {by_ from_ : Int} (hb0 : 0 ≤ by_) (hb1 : by_ ≤ 1073741824)
    (hF : ∀ p, Fit p → p.m ≤ 1073741824 ∧ p.t.n ≤ 1073741824 ∧ -1073741824 ≤ p.t.n) :
    DoOk Fit G (Img (fun p T' => IsVar (lvn by_ from_ p) T') RL) w0 B gu fa rb M (.func (.func 49) #[.agg #[.int .i64 by_, .int .i64 from_]] #[]) 77 (fun k => k = 0) := by
  intro wr js v p tb toff hk h hrb hs _
  have J := h.jobs _ (List.mem_cons_self ..)
  have hlt : p.b < B := J.lt
  have hng : tb ≠ gu := fun e => J.nx (by show XB wr tb; rw [e]; exact xb_gu h.row.blk)
  have hc : TCells wr p.b p.off p.t := J.cells.carry (h.low.block _ hlt)
  obtain ⟨f1, f2, f3⟩ := hF p J.fit
  have hbd : -1073741824 ≤ lvn by_ from_ p ∧ lvn by_ from_ p ≤ 2147483648 := by unfold lvn; split <;> omega
  refine (doVar49_any (fun _ _ k n s la ll lc a al ac => k = 0 ∧ n = lvn by_ from_ p ∧ s = { data := #[] } ∧ la = none ∧ ll = 0 ∧ lc = 0 ∧ a = none ∧ al = 0 ∧ ac = 0) _ gu _ v p tb toff wr h.row.blk J.hole hng (fun w' hb => (lvar_any by_ from_ p w' (hc.on hb) f1 f2 f3 hb0 hb1).mono ?_)).mono ?_
  · rintro e w'' ⟨rfl, hb⟩
    exact ⟨0, lvn by_ from_ p, { data := #[] }, none, 0, 0, none, 0, 0, rfl, ⟨rfl, rfl, rfl, rfl, rfl, rfl, rfl, rfl, rfl⟩, hb⟩
  · rintro e w' ⟨rfl, w1, w2, k, n, s, la, ll, lc, a, al, ac, hb1, ⟨rfl, rfl, rfl, rfl, rfl, rfl, rfl, rfl, rfl⟩, hb2, hw'⟩
    have hb := hb1.trans (hb2.mono hb1.size)
    refine ⟨rfl, js, v, h.leafed (T := varT (lvn by_ from_ p)) hb1 hb2 (varT_in _ (by omega) (by omega) _ _) (.var hk (varT_is _)) hs hw', fun hx => ?_, ?_, ?_⟩
    · rw [hw', xb_put5] at hx
      exact hrb ((XB.carry (hb.block rb h.root.lt)).1 hx)
    · rw [hw']; simp [put5, World.setCell]; exact hb.size
    · have := p.t.size_pos
      simp only [mass]; omega
end Go.Proofs.YtbmijpjmdpdfkaaDoor

/- A turn's state as its first job has been laid. Plain facts of worlds, of no program. -/
namespace Go.Proofs.YtbmijpjmdpdfkaaDoor
open Go.RowKit

theorem OfS.start {Fit : Pt → Prop} {Im : Pt → Tr → Prop} {w wA w9 w10 : World} {B gu b off : Nat} {T : Tr} {fv v' : Value} {o : List Value} (hgu : B ≤ gu) (hgl : gu < w.heap.size) (hB : B ≤ w.heap.size) (hc : TCells w b off T) (hin : TIn w (· < B) T) (hb : b < B) (hfit : Fit ⟨b, off, T, 1, 0⟩)
    (hbA : Below w.heap.size w wA) (O : Blk wA w.heap.size 25 o) (ho : o.length = 5) (F : Blk wA (w.heap.size + 1) 111 doers) (hb9 : Below wA.heap.size wA w9) (hg10 : w9.grownBy w10 none)
    (ho10 : w10.ownsRow B 114 4 v' 1 [.pointer (some ⟨b, off, none⟩), .int .i64 1, .int .i64 0, .pointer (some ⟨w.heap.size, 0, none⟩)]) (U10 : Blk w10 gu 71 [fv, .func (.func 44) #[] #[], .slice none 0 0]) :
    OfS Fit (fun W => DoneB Im B W (⟨b, off, T, 1, 0⟩, w.heap.size, 0)) Im w (w10.setCell ⟨gu, 2, none⟩ v') B gu (w.heap.size + 1) w.heap.size fv [(⟨b, off, T, 1, 0⟩, w.heap.size, 0)] [(⟨b, off, T, 1, 0⟩, w.heap.size, 0)] v' ∧ ¬ XB (w10.setCell ⟨gu, 2, none⟩ v') w.heap.size ∧ w.heap.size ≤ (w10.setCell ⟨gu, 2, none⟩ v').heap.size := by
  have hbw : Below w.heap.size w w10 := (hbA.trans (hb9.mono hbA.size)).trans ⟨hg10.os, hg10.tape, hg10.output, hg10.size, fun k hk => hg10.block k (by have := hbA.size; have := hb9.size; omega) (fun e => by cases e)⟩
  have hF := F.lt
  have O10 : Blk w10 w.heap.size 25 o := (O.below hb9 O.lt).carry (hg10.block _ (O.below hb9 O.lt).lt (fun e => by cases e))
  have F10 : Blk w10 (w.heap.size + 1) 111 doers := (F.below hb9 F.lt).carry (hg10.block _ (F.below hb9 F.lt).lt (fun e => by cases e))
  have O11 : Blk (w10.setCell ⟨gu, 2, none⟩ v') w.heap.size 25 o := O10.other v' (by omega)
  have F11 : Blk (w10.setCell ⟨gu, 2, none⟩ v') (w.heap.size + 1) 111 doers := F10.other v' (by omega)
  have hX : ¬ XB (w10.setCell ⟨gu, 2, none⟩ v') w.heap.size := fun ⟨cs, t, fr, h1, h2⟩ => by
    have h3 := O11
    unfold Blk at h3
    rw [h3] at h1
    simp only [Option.some.injEq, Obj.cells.injEq] at h1
    obtain ⟨_, rfl, _⟩ := h1
    exact absurd h2 (by decide)
  have hH : Hole (w10.setCell ⟨gu, 2, none⟩ v') w.heap.size 0 := ⟨_, _, O11, by simp [ho]⟩
  have hlow : Below B w (w10.setCell ⟨gu, 2, none⟩ v') := (hbw.mono hB).setCell (by show B ≤ gu; omega) v'
  refine ⟨⟨⟨U10.set 2 v', ?_⟩, hlow, fun x hx => ?_, by simp, hH, F11, fun W _ hd => hd _ (List.mem_singleton.2 rfl)⟩, hX, by simp [World.setCell]; exact hbw.size⟩
  · exact owns_block ho10 (fun g e => Below.heap_setCell _ _ _ _ (fun h => owns_ne ho10 U10 (by decide) (by rw [e]; exact congrArg some h)))
  · rw [List.mem_singleton.1 hx]
    exact ⟨hc, hin, hb, hfit, hH, hB, hX⟩

theorem set_same {w : World} {b c : Nat} {v : Value} (h : w.cell? ⟨b, c, none⟩ = some v) (k : Nat) : (w.setCell ⟨b, c, none⟩ v).heap[k]? = w.heap[k]? := by
  by_cases e : k = b
  · subst e
    cases hk : w.heap[k]? with
    | none => simp [World.setCell, Array.getElem?_modify, hk]
    | some o =>
      cases o with
      | cells cs t f =>
        rw [cell_of_row w k c cs t f hk] at h
        have hs : cs.setIfInBounds c v = cs := by
          obtain ⟨hc, hv⟩ := Array.getElem?_eq_some_iff.1 h
          apply Array.ext
          · simp
          · intro i h1 h2
            rw [Array.getElem_setIfInBounds]
            split
            · rename_i h3; subst h3; exact hv.symm
            · rfl
        simp [World.setCell, Array.getElem?_modify, hk, hs]
      | _ => simp [World.setCell, Array.getElem?_modify, hk]
  · exact Below.heap_setCell _ _ _ _ e
theorem put5_same {w : World} {b o : Nat} {T : Tr} (h : TCells w b o T) (k : Nat) : (put5 w b o (.int .i64 T.k) (.int .i64 T.n) (.string T.s) (.slice T.la T.ls.length T.lc) (.slice T.a T.args.length T.c)).heap[k]? = w.heap[k]? := by
  have s0 := set_same h.c0
  have s1 := set_same (h.carry (s0 b)).c1
  have s2 := set_same ((h.carry (s0 b)).carry (s1 b)).c2
  have s3 := set_same (((h.carry (s0 b)).carry (s1 b)).carry (s2 b)).c3
  have s4 := set_same ((((h.carry (s0 b)).carry (s1 b)).carry (s2 b)).carry (s3 b)).c4
  unfold put5
  rw [s4, s3, s2, s1, s0]
end Go.Proofs.YtbmijpjmdpdfkaaDoor

/- The walk of a turn's of. No condition but that the term lies in memory and the functions that do its jobs keep what they must. -/
namespace Go.Proofs.YtbmijpjmdpdfkaaDoor
open Go.RowKit

theorem enter80 (args : Array Value) (w : World) : (callFunc 80 args).run Tryd.prog w = .ok (.enter 80 args) w := enter_of Tryd.func80 (by kernel_rfl) rfl args w

theorem enter77 (args : Array Value) (w : World) : (callFunc 77 args).run Tryd.prog w = .ok (.enter 77 args) w := enter_of Tryd.func77 (by kernel_rfl) rfl args w
theorem enter78 (args : Array Value) (w : World) : (callFunc 78 args).run Tryd.prog w = .ok (.enter 78 args) w := enter_of Tryd.func78 (by kernel_rfl) rfl args w

/-- A call of a function value that stands in an operand, with two arguments. -/
theorem step_callv {P : Program} {ops : Array Oper} {o : Oper} {a : Act} {w : World} {K : Act → World → Prop} {Q : Exit → Act → World → Prop} {E : Prop}
    (hg : o.guard = none) (c x y : Operand) (ts : Array TypeId) (hop : o.op = Op.call { callee := Callee.value c, args := #[x, y], argTypes := ts }) (f : FuncId) (hrun : ∀ (args : Array Value) (w : World), (callFunc f args).run P w = .ok (.enter f args) w)
    (hc : a.eval c = .func (.func f) #[] #[]) (u v : Value) (hx : a.eval x = u) (hy : a.eval y = v) (h : Calls P f #[u, v] w fun e w' => ∃ r, e = .returned r ∧ K (a.put o.dst r) w') :
    if Region.wanted o (yielded ops a.tmps) = true then Oper.wp P o a w K Q else E := by
  have hw : Region.wanted o (yielded ops a.tmps) = true := by simp [Region.wanted, hg]
  rw [if_pos hw]
  subst hx hy
  unfold Oper.wp
  have he : (execOp a.eval o).run P w = .ok (.enter f #[a.eval x, a.eval y]) w := by
    have := hrun #[a.eval x, a.eval y] w
    simp [execOp, hop, resolve, Deferred.ofValue, invoke, hc, this]
  rw [he]
  refine h.mono ?_
  rintro e w' ⟨r, rfl, hr⟩
  exact hr

set_option maxRecDepth 100000 in
set_option maxHeartbeats 8000000 in
theorem of_any {Fit : Pt → Prop} {RV : Pt → Tr → Prop} {RL : List Lv → List Lv → Prop} (B gu M : Nat) (fv : Value) (b off : Nat) (T : Tr) (w : World) (hu : Blk w gu 71 [fv, .func (.func 44) #[] #[], .slice none 0 0]) (hgu : B ≤ gu) (hB : B ≤ w.heap.size) (hc : TCells w b off T) (hin : TIn w (· < B) T) (hb : b < B) (hfit : Fit ⟨b, off, T, 1, 0⟩) (hk : ∀ p, Fit p → 0 ≤ p.t.k ∧ p.t.k ≤ 6) (hM : T.size ≤ M)
    (h77 : DoOk Fit (fun W => DoneB (Img RV RL) B W (⟨b, off, T, 1, 0⟩, w.heap.size, 0)) (Img RV RL) w B gu (w.heap.size + 1) w.heap.size M fv 77 (fun k => k = 0))
    (h78 : DoOk Fit (fun W => DoneB (Img RV RL) B W (⟨b, off, T, 1, 0⟩, w.heap.size, 0)) (Img RV RL) w B gu (w.heap.size + 1) w.heap.size M fv 78 (fun k => k = 1 ∨ k = 2))
    (h79 : DoOk Fit (fun W => DoneB (Img RV RL) B W (⟨b, off, T, 1, 0⟩, w.heap.size, 0)) (Img RV RL) w B gu (w.heap.size + 1) w.heap.size M fv 79 (fun k => 3 ≤ k ∧ k ≤ 6)) :
    Calls Tryd.prog 45 #[.pointer (some ⟨gu, 0, none⟩), .pointer (some ⟨b, off, none⟩)] w fun e w' => ∃ T', Img RV RL ⟨b, off, T, 1, 0⟩ T' ∧ e = .returned (.agg #[.int .i64 T'.k, .int .i64 T'.n, .string T'.s, .slice T'.la T'.ls.length T'.lc, .slice T'.a T'.args.length T'.c]) ∧ TIn w' (fun k => B ≤ k ∧ k < w'.heap.size ∧ ¬ XB w' k) T' ∧ Below B w w' := by
  have hrs : ∀ (w : World) (a : Addr) (f : Nat), (store a (Value.func (Fn.func f) #[] #[])).run Tryd.prog w = _ := fun w a f => run_store Tryd.prog w a (.func (.func f) #[] #[]) .plain rfl
  obtain ⟨wA, hwA, hbA, O, F, hsA⟩ := two_new w ([.int .i64 0, .int .i64 0, .string { data := #[] }, .slice none 0 0, .slice none 0 0] : List Value) [.func (.func 77) #[] #[], .func (.func 78) #[] #[], .func (.func 78) #[] #[], .func (.func 79) #[] #[], .func (.func 79) #[] #[], .func (.func 79) #[] #[], .func (.func 79) #[] #[]] 25 111
  have U := hu.below hbA hu.lt
  have u2 := U.cell (j := 2) rfl
  have lu := hu.lt
  have hcall := root_any b off wA.drew
  obtain ⟨i114, hi114, hz114, hs114, hb114⟩ := info114
  go_enter Tryd.func45, Tryd.ntmps45
  go_wp2_with fail
  go_region_law (first
    | (refine step_call1 (by rfl) 80 enter80 (.tmp 14) #[48] (by rfl) _ (by rfl) (hcall.mono ?_); rintro e w8 ⟨rfl, hb8'⟩; refine ⟨_, rfl, ?_⟩; have hb8 : Below wA.heap.size wA w8 := Below.trans (Below.refl _ _).drew hb8'; have U8 := U.below hb8 U.lt; have y2 := U8.cell (j := 2) rfl; have hs8 := hb8.size; obtain ⟨w9, hw9, hb9, X9, hs9⟩ := one_new w8 [.pointer (some ⟨b, off, none⟩), .int .i64 1, .int .i64 0, .pointer (some ⟨w.heap.size, 0, none⟩)] 114; have U9 := U8.below hb9 U8.lt; have t2 := U9.cell (j := 2) rfl)
    | (refine step_append_own (by rfl) (.tmp 13) (.tmp 17) 69 (by rfl) B 114 i114 _ 4 32 Tryd.underlying69 hi114 hz114 hs114 hb114 (by rfl) (by decide) (.slice none 0 0) 0 [] (by rfl) ⟨rfl, .inl ⟨rfl, rfl⟩⟩ ⟨w8.heap.size, 0, none⟩ 1 1 [.pointer (some ⟨b, off, none⟩), .int .i64 1, .int .i64 0, .pointer (some ⟨w.heap.size, 0, none⟩)] (by rfl) (by rfl) (fun i u hu => by rw [Addr.add_lit, Nat.zero_add]; exact X9.cell hu) (by simp [Value.oneCell']) (by unfold maxLen; omega) (by omega) (by omega) (by decide) ?_; intro v' w10 ho10 hg10 hn10; obtain ⟨g', c', rfl, hg'1, hg'2, hg'3, hg'4⟩ := owns_shape ho10 (by omega); have U10 := U9.carry (hg10.block gu U9.lt (fun e => by cases e)); have t3 := U10.cell (j := 2) rfl; have t4 := U10.frozen 2))
  all_goals
    go_wp2_with fail
    obtain ⟨S0, X0, Z0⟩ := OfS.start (Im := Img RV RL) hgu lu hB hc hin hb hfit hbA O rfl F (hb8.trans (hb9.mono hb8.size)) hg10 ho10 U10
    obtain ⟨w11, hw11⟩ : ∃ w11, w10.setCell ⟨gu, 2, none⟩ (.slice (some ⟨g', 0, none⟩) 1 c') = w11 := ⟨_, rfl⟩
    rw [hw11] at S0 X0 Z0
    rw [hw11]
    clear hwA hw9 hcall
    go_loopw [] (fun wr => ∃ js v, OfS Fit (fun W => DoneB (Img RV RL) B W (⟨b, off, T, 1, 0⟩, w.heap.size, 0)) (Img RV RL) w wr B gu (w.heap.size + 1) w.heap.size fv js js v ∧ ¬ XB wr w.heap.size ∧ w.heap.size ≤ wr.heap.size ∧ mass js ≤ M) (fun wr => leastOf (fun n => ∃ js v, mass js = n ∧ OfS Fit (fun W => DoneB (Img RV RL) B W (⟨b, off, T, 1, 0⟩, w.heap.size, 0)) (Img RV RL) w wr B gu (w.heap.size + 1) w.heap.size fv js js v))
    case atStart => exact ⟨_, _, S0, X0, Z0, by simp only [mass]; omega⟩
    case round =>
      obtain ⟨js0, v0, I0, hx0, hz0, hm0⟩ := hrel
      obtain ⟨js, v, hmass, I⟩ := leastOf_is (P := fun n => ∃ js v, mass js = n ∧ OfS Fit (fun W => DoneB (Img RV RL) B W (⟨b, off, T, 1, 0⟩, w.heap.size, 0)) (Img RV RL) w wr B gu (w.heap.size + 1) w.heap.size fv js js v) ⟨_, js0, v0, rfl, I0⟩
      have hle : mass js ≤ M := by rw [hmass]; exact Nat.le_trans (leastOf_le ⟨js0, v0, rfl, I0⟩) hm0
      have HM : Hid (mass js = leastOf (fun n => ∃ js v, mass js = n ∧ OfS Fit (fun W => DoneB (Img RV RL) B W (⟨b, off, T, 1, 0⟩, w.heap.size, 0)) (Img RV RL) w wr B gu (w.heap.size + 1) w.heap.size fv js js v)) := hmass
      clear hmass I0 hm0 S0 X0 Z0
      cases js with
      | nil =>
        obtain ⟨T', hi, hcl, htin⟩ := I.wand wr (Later.refl _ _) (fun x hx => by cases hx)
        obtain ⟨ao, cap, rfl⟩ := owns_sl I.row.row
        have u : wr.cell? ⟨gu, 2, none⟩ = some (.slice ao 0 cap) := I.row.blk.cell (j := 2) rfl
        have c0 : wr.cell? ⟨w.heap.size, 0, none⟩ = some (.int .i64 T'.k) := hcl.c0
        have c1 : wr.cell? ⟨w.heap.size, 1, none⟩ = some (.int .i64 T'.n) := hcl.c1
        have c2 : wr.cell? ⟨w.heap.size, 2, none⟩ = some (.string T'.s) := hcl.c2
        have c3 : wr.cell? ⟨w.heap.size, 3, none⟩ = some (.slice T'.la T'.ls.length T'.lc) := hcl.c3
        have c4 : wr.cell? ⟨w.heap.size, 4, none⟩ = some (.slice T'.a T'.args.length T'.c) := hcl.c4
        have f0 := I.root.frozen 0
        have f1 := I.root.frozen 1
        have f2 := I.root.frozen 2
        have f3 := I.root.frozen 3
        have f4 := I.root.frozen 4
        have hsame := put5_same hcl
        have hin5 := put5_in I.root (.int .i64 T'.k) (.int .i64 T'.n) (.string T'.s) (.slice T'.la T'.ls.length T'.lc) (.slice T'.a T'.args.length T'.c)
        unfold put5 at hsame hin5
        simp only [Nat.zero_add] at hsame hin5
        obtain ⟨d0, d1, d2, d3, d4⟩ := hin5
        go_wp2_with fail
        exact bodyPost_ret (v := .agg #[.int .i64 T'.k, .int .i64 T'.n, .string T'.s, .slice T'.la T'.ls.length T'.lc, .slice T'.a T'.args.length T'.c]) (by simp [results, Tryd.results45, go_sem, d0, d1, d2, d3, d4]) rfl ⟨T', hi, rfl, TIn.carry (fun b _ => hsame b) (fun k hk => ⟨hk.1, by simp [World.setCell]; exact hk.2.1, fun hx => hk.2.2 ((XB.carry (hsame k)).1 hx)⟩) T' htin, I.low.trans ⟨rfl, rfl, rfl, by simp [World.setCell], fun k _ => hsame k⟩⟩
      | cons x r =>
        obtain ⟨p, tb, toff⟩ := x
        obtain ⟨g, cap, hv, hg1, hg2, hg3, hg4⟩ := owns_shape I.row.row (by simp)
        subst hv
        have J := I.jobs _ (List.mem_cons_self ..)
        have hkk := hk p J.fit
        have row := I.row.row
        have U := I.row.blk
        obtain ⟨n, hn⟩ : ∃ n, r.length = n := ⟨_, rfl⟩
        simp only [Jobs.cells, List.length_cons, hn] at row U hg3
        have hcl : (Jobs.cells r).length = n * 4 := by rw [Jobs.cells_len, hn]
        have at_ : ∀ i c, ([.pointer (some ⟨p.b, p.off, none⟩), .int .i64 (p.d : Int), .int .i64 (p.m : Int), .pointer (some ⟨tb, toff, none⟩)] : List Value)[i]? = some c → wr.cell? ⟨g, n * 4 + i, none⟩ = some c := fun i c hi => by
          obtain ⟨g2, h1, _, _, _, _, h2⟩ := owns_cell row (i := n * 4 + i) (c := c) (by rw [List.getElem?_append_right (by omega), hcl, show n * 4 + i - n * 4 = i from by omega]; exact hi)
          simp only [Option.some.injEq, Addr.mk.injEq, and_true] at h1
          rw [h1]; exact h2
        have e0 : wr.cell? ⟨g, n * 4, none⟩ = _ := at_ 0 _ rfl
        have e1 := at_ 1 _ rfl
        have e2 := at_ 2 _ rfl
        have e3 := at_ 3 _ rfl
        have u2 := U.cell (j := 2) rfl
        have uf := U.frozen 2
        have lgu := U.lt
        have HN : Hid (r.length = n) := hn
        clear at_ hn hcl
        have hnb : n ≤ 9223372036854775806 := by unfold maxLen at hg4; omega
        have hnc : n ≤ cap := by omega
        have hng : gu ≠ wr.heap.size := by omega
        have hng' : wr.heap.size ≠ gu := by omega
        go_wp2_with fail
        obtain ⟨w5, hw5, K5, U5, X5, hs5⟩ : ∃ w5, (wr.setCell ⟨gu, 2, none⟩ (.slice (some ⟨g, 0, none⟩) n cap)).alloc (.cells #[.pointer (some ⟨p.b, p.off, none⟩), .int .i64 (p.d : Int), .int .i64 (p.m : Int), .pointer (some ⟨tb, toff, none⟩)] 114) = w5 ∧ Keep wr w5 (fun k => k = gu) ∧ Blk w5 gu 71 [fv, .func (.func 44) #[] #[], .slice (some ⟨g, 0, none⟩) n cap] ∧ Blk w5 wr.heap.size 114 [.pointer (some ⟨p.b, p.off, none⟩), .int .i64 (p.d : Int), .int .i64 (p.m : Int), .pointer (some ⟨tb, toff, none⟩)] ∧ wr.heap.size ≤ w5.heap.size := by
          refine ⟨_, rfl, ((Keep.refl wr (fun k => k = gu)).setCell (g := gu) (fun _ => rfl) _ _).alloc _, (U.set 2 _).alloc _, ?_, by simp [World.setCell]⟩
          have := Blk.new (wr.setCell ⟨gu, 2, none⟩ (.slice (some ⟨g, 0, none⟩) n cap)) 114 [.pointer (some ⟨p.b, p.off, none⟩), .int .i64 (p.d : Int), .int .i64 (p.m : Int), .pointer (some ⟨tb, toff, none⟩)]
          rwa [show (wr.setCell ⟨gu, 2, none⟩ (.slice (some ⟨g, 0, none⟩) n cap)).heap.size = wr.heap.size from by simp [World.setCell]] at this
        rw [hw5]
        have K6 : Keep wr w5.drew (fun k => k = gu) := ⟨K5.os, K5.tape, K5.output, K5.size, K5.block⟩
        have row6 : w5.drew.ownsRow B 114 4 (.slice (some ⟨g, 0, none⟩) n cap) n (Jobs.cells r) := owns_block (owns_cut row (by rw [Jobs.cells_len, HN.out]) (by omega)) (fun k e => K6.block k (by simp [Value.ownBlock] at e; omega) (fun h => by simp [Value.ownBlock] at e; exact owns_ne row U (by decide) (by simp [Value.ownBlock]; omega)))
        have I6 := I.turned K6 hgu (js' := r) (v' := .slice (some ⟨g, 0, none⟩) n cap) ⟨U5.drew, by rw [HN.out]; exact row6⟩ hx0 (by omega)
        have hX6 : ¬ XB w5.drew w.heap.size := fun hx => hx0 ((XB.carry (K6.block w.heap.size I.root.lt (fun e => by omega))).1 hx)
        have hB6 : B ≤ w5.drew.heap.size := by show B ≤ w5.heap.size; omega
        have x0 := X5.cell (j := 0) rfl
        have x1 := X5.cell (j := 1) rfl
        have x2 := X5.cell (j := 2) rfl
        have x3 := X5.cell (j := 3) rfl
        have hplt : p.b < B := J.lt
        have cp : w5.cell? ⟨p.b, p.off, none⟩ = some (.int .i64 p.t.k) := (J.cells.carry (I6.low.block _ hplt)).c0
        have A := I6.arr
        have a0 : w5.cell? ⟨w.heap.size + 1, 0, none⟩ = some (.func (.func 77) #[] #[]) := A.cell (j := 0) rfl
        have a1 : w5.cell? ⟨w.heap.size + 1, 1, none⟩ = some (.func (.func 78) #[] #[]) := A.cell (j := 1) rfl
        have a2 : w5.cell? ⟨w.heap.size + 1, 2, none⟩ = some (.func (.func 78) #[] #[]) := A.cell (j := 2) rfl
        have a3 : w5.cell? ⟨w.heap.size + 1, 3, none⟩ = some (.func (.func 79) #[] #[]) := A.cell (j := 3) rfl
        have a4 : w5.cell? ⟨w.heap.size + 1, 4, none⟩ = some (.func (.func 79) #[] #[]) := A.cell (j := 4) rfl
        have a5 : w5.cell? ⟨w.heap.size + 1, 5, none⟩ = some (.func (.func 79) #[] #[]) := A.cell (j := 5) rfl
        have a6 : w5.cell? ⟨w.heap.size + 1, 6, none⟩ = some (.func (.func 79) #[] #[]) := A.cell (j := 6) rfl
        obtain ⟨j, hj⟩ : ∃ j : Nat, p.t.k = j := ⟨p.t.k.toNat, by omega⟩
        have hj7 : j < 7 := by omega
        have k77 := fun h => h77 w5.drew r _ p tb toff h I6 hX6 hB6 hle
        have k78 := fun h => h78 w5.drew r _ p tb toff h I6 hX6 hB6 hle
        have k79 := fun h => h79 w5.drew r _ p tb toff h I6 hX6 hB6 hle
        rw [hj] at cp k77 k78 k79
        clear hj hkk hw5
        have hj0 : (0 : Int) ≤ (j : Int) := by omega
        have hj6 : (j : Int) < 7 := by omega
        obtain ⟨F, haF, hrunF, kc⟩ : ∃ F, w5.cell? ⟨w.heap.size + 1, j, none⟩ = some (.func (.func F) #[] #[]) ∧ (∀ (args : Array Value) (w : World), (callFunc F args).run Tryd.prog w = .ok (.enter F args) w) ∧ Calls Tryd.prog F #[.pointer (some ⟨gu, 0, none⟩), .agg #[.pointer (some ⟨p.b, p.off, none⟩), .int .i64 (p.d : Int), .int .i64 (p.m : Int), .pointer (some ⟨tb, toff, none⟩)]] w5.drew (fun e w' => e = .returned (.tuple #[]) ∧ ∃ js' v', OfS Fit (fun W => DoneB (Img RV RL) B W (⟨b, off, T, 1, 0⟩, w.heap.size, 0)) (Img RV RL) w w' B gu (w.heap.size + 1) w.heap.size fv js' js' v' ∧ ¬ XB w' w.heap.size ∧ w5.drew.heap.size ≤ w'.heap.size ∧ mass js' < mass ((p, tb, toff) :: r)) := by
          match j, hj7 with
          | 0, _ => exact ⟨77, a0, enter77, k77 rfl⟩
          | 1, _ => exact ⟨78, a1, enter78, k78 (.inl rfl)⟩
          | 2, _ => exact ⟨78, a2, enter78, k78 (.inr rfl)⟩
          | 3, _ => exact ⟨79, a3, enter79, k79 ⟨by omega, by omega⟩⟩
          | 4, _ => exact ⟨79, a4, enter79, k79 ⟨by omega, by omega⟩⟩
          | 5, _ => exact ⟨79, a5, enter79, k79 ⟨by omega, by omega⟩⟩
          | 6, _ => exact ⟨79, a6, enter79, k79 ⟨by omega, by omega⟩⟩
        clear k77 k78 k79 a0 a1 a2 a3 a4 a5 a6
        have haF : w5.drew.cell? ⟨w.heap.size + 1, j, none⟩ = some (.func (.func F) #[] #[]) := haF
        go_region_law (refine step_callv (by rfl) (.tmp 56) (.tmp 57) (.tmp 58) #[108, 114] (by rfl) F hrunF (by rfl) _ _ (by rfl) (by rfl) (kc.mono ?_); rintro e w6 ⟨rfl, js6, v6, I7, hX7, hz7, hm7⟩; refine ⟨_, rfl, ?_⟩)
        all_goals
          go_wp2_with fail
          go_roundw
          case rel => exact ⟨js6, v6, I7, hX7, by have : w5.heap.size ≤ w6.heap.size := hz7; omega, by omega⟩
          case measure => exact Nat.lt_of_le_of_lt (leastOf_le ⟨js6, v6, rfl, I7⟩) (by rw [← HM.out]; exact hm7)
end Go.Proofs.YtbmijpjmdpdfkaaDoor
