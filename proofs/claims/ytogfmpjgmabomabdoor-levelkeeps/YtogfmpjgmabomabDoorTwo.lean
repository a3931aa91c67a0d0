/- Two variables are made of what two calls make, in whatever order their room is made. Of no program; no condition. -/
import Derived.Test.YtogfmpjgmabomabDoorHoldsLaw
namespace Go.Proofs.YtogfmpjgmabomabDoor
open Go.RowKit

abbrev Z3 : List Value := [.int .i64 0, .int .i64 0, .slice none 0 0]

/-- What has come since w: rooms that are new and empty, levels that are new. -/
structure St (w cur : World) (zs : List Nat) (ls : List (Lev × Value)) : Prop where
  bel : Below w.heap.size w cur
  blk : ∀ p ∈ zs, w.heap.size ≤ p ∧ Blk cur p 29 Z3
  lvl : ∀ x ∈ ls, In cur (fun b => w.heap.size ≤ b ∧ b < cur.heap.size ∧ b ∉ zs) x.1.lv x.2
  nd : zs.Nodup

theorem St.start (w : World) : St w w [] [] := ⟨Below.refl _ _, (fun _ h => by cases h), (fun _ h => by cases h), List.nodup_nil⟩

theorem St.drew {w cur : World} {zs : List Nat} {ls : List (Lev × Value)} (h : St w cur zs ls) : St w cur.drew zs ls :=
  ⟨h.bel.drew, fun p hp => ⟨(h.blk p hp).1, (h.blk p hp).2.drew⟩, fun x hx => In.carry (w := cur) (w' := cur.drew) (T := fun b => w.heap.size ≤ b ∧ b < cur.drew.heap.size ∧ b ∉ zs) (S := fun b => w.heap.size ≤ b ∧ b < cur.heap.size ∧ b ∉ zs) (fun _ _ => rfl) (fun _ h' => h') _ _ (h.lvl x hx), h.nd⟩

theorem St.room {w cur : World} {zs : List Nat} {ls : List (Lev × Value)} (h : St w cur zs ls) {cur' : World} (hb : Below cur.heap.size cur cur') (hX : Blk cur' cur.heap.size 29 Z3) : St w cur' (cur.heap.size :: zs) ls := by
  have hz := h.bel.size
  refine ⟨h.bel.trans (hb.mono hz), fun p hp => ?_, fun x hx => ?_, ?_⟩
  · rcases List.mem_cons.1 hp with rfl | hp
    · exact ⟨hz, hX⟩
    · exact ⟨(h.blk p hp).1, (h.blk p hp).2.below hb (h.blk p hp).2.lt⟩
  · refine In.carry (fun b hb' => hb.block b hb'.2.1) (fun b hb' => ⟨hb'.1, Nat.lt_of_lt_of_le hb'.2.1 hb.size, fun hm => ?_⟩) _ _ (h.lvl x hx)
    rcases List.mem_cons.1 hm with rfl | hm
    · exact Nat.lt_irrefl _ hb'.2.1
    · exact hb'.2.2 hm
  · exact List.nodup_cons.2 ⟨fun hm => Nat.lt_irrefl _ (h.blk _ hm).2.lt, h.nd⟩

theorem St.made {w cur : World} {zs : List Nat} {ls : List (Lev × Value)} (h : St w cur zs ls) {cur' : World} (hb : Below cur.heap.size cur cur') {l : Lev} {v : Value} (hi : In cur' (fun b => cur.heap.size ≤ b ∧ b < cur'.heap.size) l.lv v) : St w cur' zs ((l, v) :: ls) := by
  have hz := h.bel.size
  refine ⟨h.bel.trans (hb.mono hz), fun p hp => ⟨(h.blk p hp).1, (h.blk p hp).2.below hb (h.blk p hp).2.lt⟩, fun x hx => ?_, h.nd⟩
  rcases List.mem_cons.1 hx with rfl | hx
  · exact hi.mono fun b hb' => ⟨by omega, hb'.2, fun hm => by have := (h.blk b hm).2.lt; omega⟩
  · exact In.carry (fun b hb' => hb.block b hb'.2.1) (fun b hb' => ⟨hb'.1, Nat.lt_of_lt_of_le hb'.2.1 hb.size, hb'.2.2⟩) _ _ (h.lvl x hx)

/-- What a walk wants of two empty rooms. -/
def Rooms (w : World) (p q : Nat) : Prop := (w.cell? ⟨p, 0, none⟩ = some (.int .i64 0) ∧ w.cell? ⟨p, 1, none⟩ = some (.int .i64 0) ∧ w.cell? ⟨p, 2, none⟩ = some (.slice none 0 0) ∧ w.frozen? ⟨p, 0, none⟩ = false ∧ w.frozen? ⟨p, 1, none⟩ = false ∧ w.frozen? ⟨p, 2, none⟩ = false) ∧
    (w.cell? ⟨q, 0, none⟩ = some (.int .i64 0) ∧ w.cell? ⟨q, 1, none⟩ = some (.int .i64 0) ∧ w.cell? ⟨q, 2, none⟩ = some (.slice none 0 0) ∧ w.frozen? ⟨q, 0, none⟩ = false ∧ w.frozen? ⟨q, 1, none⟩ = false ∧ w.frozen? ⟨q, 2, none⟩ = false) ∧ p ≠ q ∧ q ≠ p

theorem St.two {w cur : World} {p q : Nat} {ls : List (Lev × Value)} (h : St w cur [p, q] ls) : Rooms cur p q := by
  have hp := (h.blk p (by simp)).2
  have hq := (h.blk q (by simp)).2
  have hn := h.nd
  simp at hn
  exact ⟨⟨hp.cell rfl, hp.cell rfl, hp.cell rfl, hp.frozen _, hp.frozen _, hp.frozen _⟩, ⟨hq.cell rfl, hq.cell rfl, hq.cell rfl, hq.frozen _, hq.frozen _, hq.frozen _⟩, hn, fun e => hn e.symm⟩

/-- Both are stored. -/
theorem St.stored {w cur : World} {zs : List Nat} {ls : List (Lev × Value)} (h : St w cur zs ls) {p q : Nat} (hp : p ∈ zs) (hq : q ∈ zs) (hpq : p ≠ q) {l m : Lev} {k1 n1 k2 n2 : Int} {a1 a2 : Option Addr} {j1 c1 j2 c2 : Nat}
    (hl : (l, Value.agg #[.int .i64 k1, .int .i64 n1, .slice a1 j1 c1]) ∈ ls) (hm : (m, Value.agg #[.int .i64 k2, .int .i64 n2, .slice a2 j2 c2]) ∈ ls) :
    ∃ w', (((((cur.setCell ⟨p, 0, none⟩ (.int .i64 k1)).setCell ⟨p, 1, none⟩ (.int .i64 n1)).setCell ⟨p, 2, none⟩ (.slice a1 j1 c1)).setCell ⟨q, 0, none⟩ (.int .i64 k2)).setCell ⟨q, 1, none⟩ (.int .i64 n2)).setCell ⟨q, 2, none⟩ (.slice a2 j2 c2) = w' ∧
      Below w.heap.size w w' ∧ Has w' p l k1 n1 a1 j1 c1 ∧ Has w' q m k2 n2 a2 j2 c2 := by
  obtain ⟨hp1, hpB⟩ := h.blk p hp
  obtain ⟨hq1, hqB⟩ := h.blk q hq
  obtain ⟨P1, K1⟩ := st3 hpB (.int .i64 k1) (.int .i64 n1) (.slice a1 j1 c1)
  obtain ⟨Q2, K2⟩ := st3 (hqB.keep K1 (fun e => hpq e.symm)) (.int .i64 k2) (.int .i64 n2) (.slice a2 j2 c2)
  have hz := h.bel.size
  have hz1 := K1.size
  have hz2 := K2.size
  have lift : ∀ x ∈ ls, In ((((((cur.setCell ⟨p, 0, none⟩ (.int .i64 k1)).setCell ⟨p, 1, none⟩ (.int .i64 n1)).setCell ⟨p, 2, none⟩ (.slice a1 j1 c1)).setCell ⟨q, 0, none⟩ (.int .i64 k2)).setCell ⟨q, 1, none⟩ (.int .i64 n2)).setCell ⟨q, 2, none⟩ (.slice a2 j2 c2)) (· < ((((((cur.setCell ⟨p, 0, none⟩ (.int .i64 k1)).setCell ⟨p, 1, none⟩ (.int .i64 n1)).setCell ⟨p, 2, none⟩ (.slice a1 j1 c1)).setCell ⟨q, 0, none⟩ (.int .i64 k2)).setCell ⟨q, 1, none⟩ (.int .i64 n2)).setCell ⟨q, 2, none⟩ (.slice a2 j2 c2)).heap.size) x.1.lv x.2 := fun x hx =>
    In.carry (fun b hb => (K2.block b (by omega) (fun e => hb.2.2 (by rw [e]; exact hq))).trans (K1.block b hb.2.1 (fun e => hb.2.2 (by rw [e]; exact hp)))) (fun b hb => by omega) _ _ (h.lvl x hx)
  exact ⟨_, rfl, (h.bel.trans (K1.below hz (by omega))).trans (K2.below (by omega) (by omega)), ⟨lift _ hl, P1.keep K2 hpq⟩, ⟨lift _ hm, Q2⟩⟩

/-- Levels in a row, just made. -/
theorem flat_get (xs : List (Lv × Value × Value × Value)) : ∀ i x, xs[i]? = some x → (xs.flatMap fun x => [x.2.1, x.2.2.1, x.2.2.2])[i * 3]? = some x.2.1 ∧ (xs.flatMap fun x => [x.2.1, x.2.2.1, x.2.2.2])[i * 3 + 1]? = some x.2.2.1 ∧ (xs.flatMap fun x => [x.2.1, x.2.2.1, x.2.2.2])[i * 3 + 2]? = some x.2.2.2 := by
  induction xs with
  | nil => intro i x h; simp at h
  | cons y r ih =>
    intro i x h
    cases i with
    | zero => simp at h; subst h; simp
    | succ i =>
      have := ih i x (by simpa using h)
      refine ⟨?_, ?_, ?_⟩
      · rw [show (i + 1) * 3 = i * 3 + 1 + 1 + 1 by omega]; simpa using this.1
      · rw [show (i + 1) * 3 + 1 = i * 3 + 1 + 1 + 1 + 1 by omega]; simpa using this.2.1
      · rw [show (i + 1) * 3 + 2 = i * 3 + 2 + 1 + 1 + 1 by omega]; simpa using this.2.2

theorem node_row {w : World} (xs : List (Lv × Value × Value × Value)) (hx : ∀ x ∈ xs, In w (· < w.heap.size) x.1 (.agg #[x.2.1, x.2.2.1, x.2.2.2])) {w' : World} (hb : Below w.heap.size w w') (hR : Blk w' w.heap.size 29 (xs.flatMap fun x => [x.2.1, x.2.2.1, x.2.2.2])) (hl : xs.length ≤ 1000) :
    Node w' (· < w'.heap.size) 0 0 (xs.map (·.1)) (some ⟨w.heap.size, 0, none⟩) xs.length := by
  refine ⟨by omega, by omega, by omega, by omega, by simp, by omega, .inr ⟨w.heap.size, 0, rfl, hR.lt, InAll.of_get fun i L hi => ?_⟩⟩
  rw [List.getElem?_map] at hi
  cases hxi : xs[i]? with
  | none => rw [hxi] at hi; cases hi
  | some x =>
    rw [hxi] at hi
    simp only [Option.map_some, Option.some.injEq] at hi
    subst hi
    obtain ⟨f0, f1, f2⟩ := flat_get xs i x hxi
    rw [Nat.zero_add]
    exact ⟨_, _, _, hR.cell f0, hR.cell f1, hR.cell f2, ((hx x (List.mem_of_getElem? hxi)).below hb (Nat.le_refl _)).up hb.size⟩

end Go.Proofs.YtogfmpjgmabomabDoor
