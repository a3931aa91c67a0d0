/- Small laws on worlds that grow. Of no program; no condition. -/
import Derived.Test.YtemgmphddmlmlaaTm
namespace Go.Proofs.Ytemgmphddmlmlaa
open Go.RowKit

theorem kcell {W w1 : World} {g : Nat} (hk : Keep W w1 (· = g)) : ∀ b o, b < W.heap.size → b ≠ g → w1.cell? ⟨b, o, none⟩ = W.cell? ⟨b, o, none⟩ := fun b _ h hn =>
  World.cell?_of_block (w := W) (hk.block b h hn)

theorem bel_drew {B : Nat} {a w : World} (h : Below B a w) : Below B a w.drew := h.trans ⟨rfl, rfl, rfl, Nat.le_refl _, fun _ _ => rfl⟩

theorem below_alloc (w : World) (o : Obj) : Below w.heap.size w (w.alloc o) := (Below.refl _ _).alloc (Nat.le_refl _) o

theorem one_new (w : World) (l : List Value) (t : TypeId) : ∃ w1, w.alloc (.cells l.toArray t) = w1 ∧ Below w.heap.size w w1 ∧ Blk w1 w.heap.size t l ∧ w.heap.size < w1.heap.size :=
  ⟨_, rfl, (Below.refl _ _).alloc (Nat.le_refl _) _, Blk.new _ _ _, by simp⟩

/-- Two blocks made, one behind the other. -/
theorem two_new (w : World) (l l' : List Value) (t t' : TypeId) : ∃ w1, (w.alloc (.cells l.toArray t)).alloc (.cells l'.toArray t') = w1 ∧ Below w.heap.size w w1 ∧ Blk w1 w.heap.size t l ∧ Blk w1 (w.heap.size + 1) t' l' ∧ w1.heap.size = w.heap.size + 2 := by
  refine ⟨_, rfl, ((Below.refl _ _).alloc (Nat.le_refl _) _).alloc (by simp) _, (Blk.new _ _ _).alloc _, ?_, by simp⟩
  have := Blk.new (w.alloc (.cells l.toArray t)) t' l'
  simpa using this

theorem three_new (w : World) (l0 l1 l2 : List Value) (t0 t1 t2 : TypeId) : ∃ w1, ((w.alloc (.cells l0.toArray t0)).alloc (.cells l1.toArray t1)).alloc (.cells l2.toArray t2) = w1 ∧ Below w.heap.size w w1 ∧
    Blk w1 w.heap.size t0 l0 ∧ Blk w1 (w.heap.size + 1) t1 l1 ∧ Blk w1 (w.heap.size + 1 + 1) t2 l2 ∧ w1.heap.size = w.heap.size + 3 := by
  obtain ⟨a, ha, hb, p0, p1, hs⟩ := two_new w l0 l1 t0 t1
  obtain ⟨a', ha', hb', p2, hs'⟩ := one_new a l2 t2
  subst ha
  rw [hs] at p2
  refine ⟨a', ha', hb.trans (hb'.mono (by omega)), p0.below hb' p0.lt, p1.below hb' p1.lt, p2, ?_⟩
  rw [← ha']; simp

/-- Three cells written over. -/
theorem st3 {w : World} {g : Nat} {t : TypeId} {x y z : Value} (h : Blk w g t [x, y, z]) (a b c : Value) : Blk (((w.setCell ⟨g, 0, none⟩ a).setCell ⟨g, 1, none⟩ b).setCell ⟨g, 2, none⟩ c) g t [a, b, c] ∧ Keep w (((w.setCell ⟨g, 0, none⟩ a).setCell ⟨g, 1, none⟩ b).setCell ⟨g, 2, none⟩ c) (· = g) :=
  ⟨((h.set 0 a).set 1 b).set 2 c, (((Keep.refl w (· = g)).setCell (g := g) (fun _ => rfl) 0 a).setCell (g := g) (fun _ => rfl) 1 b).setCell (g := g) (fun _ => rfl) 2 c⟩

/-- Five cells written over. -/
theorem st5 {w : World} {g : Nat} {t : TypeId} {x0 x1 x2 x3 x4 : Value} (h : Blk w g t [x0, x1, x2, x3, x4]) (a0 a1 a2 a3 a4 : Value) :
    Blk (((((w.setCell ⟨g, 0, none⟩ a0).setCell ⟨g, 1, none⟩ a1).setCell ⟨g, 2, none⟩ a2).setCell ⟨g, 3, none⟩ a3).setCell ⟨g, 4, none⟩ a4) g t [a0, a1, a2, a3, a4] ∧
    Keep w (((((w.setCell ⟨g, 0, none⟩ a0).setCell ⟨g, 1, none⟩ a1).setCell ⟨g, 2, none⟩ a2).setCell ⟨g, 3, none⟩ a3).setCell ⟨g, 4, none⟩ a4) (· = g) :=
  ⟨((((h.set 0 a0).set 1 a1).set 2 a2).set 3 a3).set 4 a4, (((((Keep.refl w (· = g)).setCell (g := g) (fun _ => rfl) 0 a0).setCell (g := g) (fun _ => rfl) 1 a1).setCell (g := g) (fun _ => rfl) 2 a2).setCell (g := g) (fun _ => rfl) 3 a3).setCell (g := g) (fun _ => rfl) 4 a4⟩

theorem wrap64_small (z : Int) (h0 : 0 ≤ z) (h1 : z ≤ 9223372036854775807) : wrap64 z = z := by
  unfold wrap64; omega

theorem st2 {w : World} {g : Nat} {t : TypeId} {x y : Value} (h : Blk w g t [x, y]) (a b : Value) : Blk ((w.setCell ⟨g, 0, none⟩ a).setCell ⟨g, 1, none⟩ b) g t [a, b] ∧ Keep w ((w.setCell ⟨g, 0, none⟩ a).setCell ⟨g, 1, none⟩ b) (· = g) :=
  ⟨(h.set 0 a).set 1 b, ((Keep.refl w (· = g)).setCell (g := g) (fun _ => rfl) 0 a).setCell (g := g) (fun _ => rfl) 1 b⟩

end Go.Proofs.Ytemgmphddmlmlaa
