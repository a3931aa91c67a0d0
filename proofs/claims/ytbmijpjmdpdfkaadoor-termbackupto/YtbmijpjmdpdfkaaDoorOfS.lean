/- The state of a turn between two of its jobs, and how a job is taken off. Plain facts of worlds, of no program. -/
import Derived.Test.YtbmijpjmdpdfkaaDoorBr
import Derived.Test.YtbmijpjmdpdfkaaDoorLeaf
namespace Go.Proofs.YtbmijpjmdpdfkaaDoor
open Go.RowKit

def doers : List Value := [.func (.func 77) #[] #[], .func (.func 78) #[] #[], .func (.func 78) #[] #[], .func (.func 79) #[] #[], .func (.func 79) #[] #[], .func (.func 79) #[] #[], .func (.func 79) #[] #[]]

/-- A job as it must be: its part lies below B, its place from B on. Fit says what else is asked of the part. -/
structure JOk (Fit : Pt → Prop) (w0 wr : World) (B : Nat) (x : Pt × Nat × Nat) : Prop where
  cells : TCells w0 x.1.b x.1.off x.1.t
  tin : TIn w0 (· < B) x.1.t
  lt : x.1.b < B
  fit : Fit x.1
  hole : Hole wr x.2.1 x.2.2
  ge : B ≤ x.2.1
  nx : ¬ XB wr x.2.1

def apart (x y : Pt × Nat × Nat) : Prop := x.2.1 = y.2.1 → x.2.2 + 5 ≤ y.2.2 ∨ y.2.2 + 5 ≤ x.2.2

/-- The turn's state: jobs js stand in its list, and all must be done. -/
structure OfS (Fit : Pt → Prop) (G : World → Prop) (Im : Pt → Tr → Prop) (w0 wr : World) (B gu fa rb : Nat) (fv : Value) (todo js : Jobs) (v : Value) : Prop where
  row : JRow wr B gu fv (.func (.func 44) #[] #[]) js v
  low : Below B w0 wr
  jobs : ∀ x ∈ todo, JOk Fit w0 wr B x
  dis : todo.Pairwise apart
  root : Hole wr rb 0
  arr : Blk wr fa 111 doers
  wand : ∀ W, Later wr W todo → (∀ x ∈ todo, DoneB Im B W x) → G W

theorem xb_gu {w : World} {gu : Nat} {l : List Value} (h : Blk w gu 71 l) : XB w gu := ⟨_, _, _, h, .inr (.inl rfl)⟩
theorem xb_row {w : World} {B n g : Nat} {v : Value} {xs : List Value} (h : w.ownsRow B 114 4 v n xs) (hg : v.ownBlock = some g) : XB w g := by
  rcases h.2 with ⟨rfl, h0⟩ | ⟨g', cap, cur, rfl, h1, hcur, r⟩
  · cases hg
  · simp [Value.ownBlock] at hg; subst hg; exact ⟨_, _, _, hcur, .inl rfl⟩

/-- Worlds that differ in the turn's own block alone (and in new ones): the same is owed. -/
theorem later_keep {w w' : World} {gu : Nat} {J : List (Pt × Nat × Nat)} (hk : Keep w w' (fun k => k = gu)) (hg : XB w gu) : Later w w' J := by
  have hb : ∀ k, k < w.heap.size → ¬ XB w k → w'.heap[k]? = w.heap[k]? := fun k hk' hn => hk.block k hk' (fun e => hn (by rw [e]; exact hg))
  exact ⟨hk.size, fun k hk' hn h => hn ((XB.carry (hb k hk' hn)).1 h), fun k hk' hn _ => hb k hk' hn, fun k c hk' hn _ => World.cell?_of_block (hb k hk' hn)⟩

theorem OfS.turned {Fit : Pt → Prop} {G : World → Prop} {Im : Pt → Tr → Prop} {w0 wr w' : World} {B gu fa rb : Nat} {fv v v' : Value} {todo js js' : Jobs} (h : OfS Fit G Im w0 wr B gu fa rb fv todo js v) (hk : Keep wr w' (fun k => k = gu)) (hB : B ≤ gu) (hrow : JRow w' B gu fv (.func (.func 44) #[] #[]) js' v') (hrb : ¬ XB wr rb) (hs : B ≤ wr.heap.size) :
    OfS Fit G Im w0 w' B gu fa rb fv todo js' v' := by
  have hX := xb_gu h.row.blk
  have hne : ∀ k, ¬ XB wr k → k ≠ gu := fun k hn e => hn (by rw [e]; exact hX)
  have hfa : fa ≠ gu := fun e => by
    have h1 := h.arr
    have h2 := h.row.blk
    rw [e] at h1
    unfold Blk at h1 h2
    rw [h1] at h2
    simp at h2
  refine ⟨hrow, h.low.trans (hk.below hs (fun k e => by omega)), fun x hx => ?_, h.dis, h.root.keep hk (hne rb hrb), h.arr.keep hk hfa, fun W hL hd => ?_⟩
  · have J := h.jobs x hx
    exact ⟨J.cells, J.tin, J.lt, J.fit, J.hole.keep hk (hne _ J.nx), J.ge, fun hx' => J.nx ((XB.carry (hk.block _ J.hole.lt (hne _ J.nx))).1 hx')⟩
  · exact h.wand W ((later_keep (J := []) hk hX).trans hL (fun x hx => by cases hx) (fun x hx => .inl hx)) hd
end Go.Proofs.YtbmijpjmdpdfkaaDoor
