/- The walk of LevelOrder. No condition but that the bytes lie in memory, and that the tables hold what the program's text lays. -/
import Derived.Test.YtogfmpjgmabomabDoorTwo
import Derived.Deep.CutRange
namespace Go.Proofs.YtogfmpjgmabomabDoor
open Go.RowKit

theorem keep_below {w cur : World} {zs : List Nat} {ls : List (Lev × Value)} (h : St w cur zs ls) {p : Nat} (hp : p ∈ zs) (a b c : Value) : Below w.heap.size w (((cur.setCell ⟨p, 0, none⟩ a).setCell ⟨p, 1, none⟩ b).setCell ⟨p, 2, none⟩ c) :=
  ((h.bel.setCell (h.blk p hp).1 _).setCell (h.blk p hp).1 _).setCell (h.blk p hp).1 _

theorem keep_below2 {w cur : World} {zs : List Nat} {ls : List (Lev × Value)} (h : St w cur zs ls) {p q : Nat} (hp : p ∈ zs) (hq : q ∈ zs) (a b c d e f : Value) : Below w.heap.size w ((((((cur.setCell ⟨p, 0, none⟩ a).setCell ⟨p, 1, none⟩ b).setCell ⟨p, 2, none⟩ c).setCell ⟨q, 0, none⟩ d).setCell ⟨q, 1, none⟩ e).setCell ⟨q, 2, none⟩ f) :=
  (((keep_below h hp a b c).setCell (h.blk q hq).1 _).setCell (h.blk q hq).1 _).setCell (h.blk q hq).1 _

theorem St.done {w cur : World} {zs : List Nat} {ls : List (Lev × Value)} (h : St w cur zs ls) {p q : Nat} (hp : p ∈ zs) (hq : q ∈ zs) (hpq : p ≠ q) {l m : Lev} {k1 n1 k2 n2 : Int} {a1 a2 : Option Addr} {j1 c1 j2 c2 : Nat}
    (hl : (l, Value.agg #[.int .i64 k1, .int .i64 n1, .slice a1 j1 c1]) ∈ ls) (hm : (m, Value.agg #[.int .i64 k2, .int .i64 n2, .slice a2 j2 c2]) ∈ ls) :
    Below w.heap.size w ((((((cur.setCell ⟨p, 0, none⟩ (.int .i64 k1)).setCell ⟨p, 1, none⟩ (.int .i64 n1)).setCell ⟨p, 2, none⟩ (.slice a1 j1 c1)).setCell ⟨q, 0, none⟩ (.int .i64 k2)).setCell ⟨q, 1, none⟩ (.int .i64 n2)).setCell ⟨q, 2, none⟩ (.slice a2 j2 c2)) ∧
      Has ((((((cur.setCell ⟨p, 0, none⟩ (.int .i64 k1)).setCell ⟨p, 1, none⟩ (.int .i64 n1)).setCell ⟨p, 2, none⟩ (.slice a1 j1 c1)).setCell ⟨q, 0, none⟩ (.int .i64 k2)).setCell ⟨q, 1, none⟩ (.int .i64 n2)).setCell ⟨q, 2, none⟩ (.slice a2 j2 c2)) p l k1 n1 a1 j1 c1 ∧
      Has ((((((cur.setCell ⟨p, 0, none⟩ (.int .i64 k1)).setCell ⟨p, 1, none⟩ (.int .i64 n1)).setCell ⟨p, 2, none⟩ (.slice a1 j1 c1)).setCell ⟨q, 0, none⟩ (.int .i64 k2)).setCell ⟨q, 1, none⟩ (.int .i64 n2)).setCell ⟨q, 2, none⟩ (.slice a2 j2 c2)) q m k2 n2 a2 j2 c2 := by
  obtain ⟨w', e, h1, h2, h3⟩ := h.stored hp hq hpq hl hm
  rw [e]
  exact ⟨h1, h2, h3⟩

def Room (w : World) (q : Nat) : Prop := w.cell? ⟨q, 0, none⟩ = some (.int .i64 0) ∧ w.cell? ⟨q, 1, none⟩ = some (.int .i64 0) ∧ w.cell? ⟨q, 2, none⟩ = some (.slice none 0 0) ∧ w.frozen? ⟨q, 0, none⟩ = false ∧ w.frozen? ⟨q, 1, none⟩ = false ∧ w.frozen? ⟨q, 2, none⟩ = false

theorem St.after {w cur : World} {p q : Nat} {ls : List (Lev × Value)} (h : St w cur [p, q] ls) (a b c : Value) : Room (((cur.setCell ⟨p, 0, none⟩ a).setCell ⟨p, 1, none⟩ b).setCell ⟨p, 2, none⟩ c) q ∧ Room (((cur.setCell ⟨q, 0, none⟩ a).setCell ⟨q, 1, none⟩ b).setCell ⟨q, 2, none⟩ c) p := by
  have hp := (h.blk p (by simp)).2
  have hq := (h.blk q (by simp)).2
  have hn := h.nd
  simp at hn
  have hq' := hq.keep (st3 hp a b c).2 (fun e => hn e.symm)
  have hp' := hp.keep (st3 hq a b c).2 hn
  exact ⟨⟨hq'.cell rfl, hq'.cell rfl, hq'.cell rfl, hq'.frozen _, hq'.frozen _, hq'.frozen _⟩, ⟨hp'.cell rfl, hp'.cell rfl, hp'.cell rfl, hp'.frozen _, hp'.frozen _, hp'.frozen _⟩⟩

theorem o_refl (a : Lev) (h : Fine a) : evB leR a a = true := (leq_iff h).2 fun _ => Nat.le_refl _

theorem o_left (a b : Lev) (h : Fine (.max a b)) : evB leR a (.max a b) = true := (leq_iff h).2 fun _ => Nat.le_max_left _ _

theorem o_right (a b : Lev) (h : Fine (.imax a b)) : evB leR b (.imax a b) = true := (leq_iff h).2 fun v => by
  simp only [Lev.val]
  split
  · omega
  · exact Nat.le_max_right _ _

theorem o_imax (a b : Lev) (h : Fine (.max a b)) : evB leR (.imax a b) (.max a b) = true := (leq_iff h).2 fun v => by
  simp only [Lev.val]
  split
  · omega
  · exact Nat.le_refl _

theorem o_same (a b : Lev) (h1 : Fine (.imax a b)) (h2 : Fine (.max a b)) (hn : decide (0 < b.least) = true) : evB eqR (.imax a b) (.max a b) = true := (same_iff h1 h2).2 fun v => by
  have := (never_iff b).1 hn v
  simp only [Lev.val]
  rw [if_neg (by omega)]

theorem o_through (a b c : Lev) (hb : Fine b) (hc : Fine c) (h1 : evB leR a b = true) (h2 : evB leR b c = true) : evB leR a c = true := (leq_iff hc).2 fun v => Nat.le_trans ((leq_iff hb).1 h1 v) ((leq_iff hc).1 h2 v)

theorem o_least (a b c : Lev) (hc : Fine c) : evB leR (.max a b) c = (evB leR a c && evB leR b c) := by
  rw [Bool.eq_iff_iff, Bool.and_eq_true, leq_iff hc, leq_iff hc, leq_iff hc]
  refine ⟨fun h => ⟨fun v => Nat.le_trans (Nat.le_max_left _ _) (h v), fun v => Nat.le_trans (Nat.le_max_right _ _) (h v)⟩, fun h v => ?_⟩
  exact Nat.max_le.2 ⟨h.1 v, h.2 v⟩

theorem o_strict (a : Lev) (h : Fine a) : evB leR (.succ a) a = false := by
  cases he : evB leR (.succ a) a with
  | false => rfl
  | true =>
    have := (leq_iff h).1 he (fun _ => 0)
    simp only [Lev.val] at this
    omega

end Go.Proofs.YtogfmpjgmabomabDoor
