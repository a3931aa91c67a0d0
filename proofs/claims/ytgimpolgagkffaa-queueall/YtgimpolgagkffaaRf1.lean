/- The document's queue: a list of items in memory; the walk of First. No condition but sizes. -/
import Derived.Test.YtgimpolgagkffaaDr8
namespace Go.Proofs.Ytgimpolgagkffaa
open Go.RowKit

/-- An entry as the document has it. -/
def En.its (x : En) : List Value := [.int .i64 x.wt, .int .i64 x.num]
def flat2 (L : List En) : List Value := (L.map En.its).flatten

theorem flat2_length (L : List En) : (flat2 L).length = L.length * 2 := by
  induction L with
  | nil => rfl
  | cons x r ih => unfold flat2 at ih ⊢; simp only [List.map_cons, List.flatten_cons, List.length_append, ih, List.length_cons, En.its, List.length_nil]; omega

theorem flat2_append (L M : List En) : flat2 (L ++ M) = flat2 L ++ flat2 M := by simp [flat2]

theorem flat2_get {L : List En} : ∀ {i j : Nat} {x : En}, L[i]? = some x → j < 2 → (flat2 L)[i * 2 + j]? = x.its[j]? := by
  induction L with
  | nil => intro i j x h; simp at h
  | cons y r ih =>
    intro i j x h hj
    have e : flat2 (y :: r) = y.its ++ flat2 r := rfl
    rw [e]
    cases i with
    | zero => simp at h; subst h; rw [Nat.zero_mul, Nat.zero_add, List.getElem?_append_left (by simpa [En.its] using hj)]
    | succ i =>
      rw [List.getElem?_append_right (by simp [En.its]; omega), show (i + 1) * 2 + j - y.its.length = i * 2 + j by simp [En.its]; omega]
      exact ih (by simpa using h) hj

/-- Block r is the document's queue, and has the items of E. -/
structure RQ (w : World) (r base : Nat) (ao : Option Addr) (cap : Nat) (E : List En) : Prop where
  blk : Blk w r 29 [.slice ao E.length cap]
  row : w.ownsRow base 36 2 (.slice ao E.length cap) E.length (flat2 E)

theorem RQ.carry {w w' : World} {r base : Nat} {ao : Option Addr} {cap : Nat} {E : List En} (h : RQ w r base ao cap E) (hr : w'.heap[r]? = w.heap[r]?) (hb : ∀ k, (Value.slice ao E.length cap).ownBlock = some k → w'.heap[k]? = w.heap[k]?) : RQ w' r base ao cap E :=
  ⟨h.blk.carry hr, owns_block h.row hb⟩
theorem RQ.below {w w' : World} {r base : Nat} {ao : Option Addr} {cap : Nat} {E : List En} (h : RQ w r base ao cap E) (hb : Below w.heap.size w w') : RQ w' r base ao cap E :=
  h.carry (hb.block r h.blk.lt) (fun k e => hb.block k (owns_own h.row e).2)
theorem RQ.keep {w w' : World} {r base : Nat} {ao : Option Addr} {cap : Nat} {E : List En} {T : Nat → Prop} (h : RQ w r base ao cap E) (hk : Keep w w' T) (hr : ¬ T r) (hb : ∀ k, (Value.slice ao E.length cap).ownBlock = some k → ¬ T k) : RQ w' r base ao cap E :=
  h.carry (hk.block r h.blk.lt hr) (fun k e => hk.block k (owns_own h.row e).2 (hb k e))

theorem RQ.cells {w : World} {r base : Nat} {ao : Option Addr} {cap : Nat} {E : List En} (h : RQ w r base ao cap E) {i : Nat} (hi : i < E.length) :
    ∃ b, ao = some ⟨b, 0, none⟩ ∧ b < w.heap.size ∧ E.length ≤ cap ∧ cap ≤ maxLen ∧ w.cell? ⟨b, i * 2, none⟩ = some (.int .i64 (nth E i).wt) ∧ w.cell? ⟨b, i * 2 + 1, none⟩ = some (.int .i64 (nth E i).num) := by
  obtain ⟨b, e, _, hb, hl, hc, c0⟩ := owns_cell h.row ((flat2_get (j := 0) (nth_get hi) (by omega)).trans rfl)
  obtain ⟨b', e', _, _, _, _, c1⟩ := owns_cell h.row ((flat2_get (j := 1) (nth_get hi) (by omega)).trans rfl)
  obtain rfl : b = b' := by rw [e] at e'; simpa using e'
  exact ⟨b, e, hb, hl, hc, c0, c1⟩

/-- The first of the least weight. -/
def leastAt (E : List En) (k : Nat) (i : Nat) : Prop := k < i ∧ (∀ j, j < i → (nth E k).wt ≤ (nth E j).wt) ∧ ∀ j, j < k → (nth E k).wt < (nth E j).wt

set_option maxRecDepth 100000 in
set_option maxHeartbeats 4000000 in
theorem rfirst2_any (r base : Nat) (ao : Option Addr) (cap : Nat) (E : List En) (w : World) (h : RQ w r base ao cap E) (hm : E.length ≤ 1000000) :
    Calls Try.prog 10 #[.pointer (some ⟨r, 0, none⟩)] w fun e w' => ∃ k : Int, e = .returned (.int .i64 k) ∧ Hid ((k = -1 ∧ E = []) ∨ ∃ j : Nat, k = (j : Int) ∧ leastAt E j E.length) ∧ Below w.heap.size w w' := by
  obtain ⟨n, HN⟩ : ∃ n, Hid (E.length = n) := ⟨_, rfl⟩
  rw [HN.out] at hm
  have c0 := h.blk.cell (j := 0) rfl
  have lr := h.blk.lt
  rw [HN.out] at c0
  go_enter Try.func10, Try.ntmps10
  go_wp2_with fail
  go_loopw [3, 4] (fun vk vi wr => ∃ (i : Nat) (k : Int), vk = .int .i64 k ∧ vi = .int .i64 (i : Int) ∧ i ≤ n ∧ Hid ((k = -1 ∧ i = 0) ∨ ∃ j : Nat, k = (j : Int) ∧ leastAt E j i) ∧ ∃ q, wr = w.drewN q) (fun _ vi _ => n - (intOf vi).toNat)
  case atStart => exact ⟨0, -1, rfl, rfl, Nat.zero_le _, .inl ⟨rfl, rfl⟩, 0, rfl⟩
  case round =>
    obtain ⟨i, k, rfl, rfl, hi, hk, q, rfl⟩ := hrel
    have HBQ : Hid (Below w.heap.size w (w.drewN q)) := bel_drewN (Below.refl _ _) q
    by_cases hin : i < n
    · obtain ⟨b, rfl, lb, hc1, hc2, y0, y1⟩ := h.cells (i := i) (by have := HN.out; omega)
      rw [HN.out] at hc1
      by_cases hk0 : k < 0
      · obtain ⟨rfl, rfl⟩ : k = -1 ∧ i = 0 := by
          rcases hk.out with e | ⟨j, e, _⟩
          · exact e
          · omega
        have REL : Hid ((((0 : Nat) : Int) = -1 ∧ 0 + 1 = 0) ∨ ∃ j : Nat, ((0 : Nat) : Int) = (j : Int) ∧ leastAt E j (0 + 1)) := .inr ⟨0, rfl, by omega, fun j hj => by rw [show j = 0 by omega]; omega, fun j hj => by omega⟩
        clear hk hk0 h
        go_wp2_with fail
        go_quiet (fail)
        go_wp2_with fail
        go_roundw
        case rel => exact ⟨0 + 1, _, rfl, by go_num, hin, REL.out, _, rfl⟩
        case measure => simp [intOf]; omega
      · obtain ⟨j, rfl, hj⟩ : ∃ j : Nat, k = (j : Int) ∧ leastAt E j i := by
          rcases hk.out with ⟨e, _⟩ | e
          · omega
          · exact e
        clear hk0
        have hji : j < i := hj.1
        obtain ⟨b', e', _, _, _, x0, x1⟩ := h.cells (i := j) (by have := HN.out; omega)
        obtain rfl : b = b' := by simpa using e'
        obtain ⟨xw, hxw⟩ : ∃ xw, (nth E j).wt = xw := ⟨_, rfl⟩
        obtain ⟨yw, hyw⟩ : ∃ yw, (nth E i).wt = yw := ⟨_, rfl⟩
        rw [hxw] at x0
        rw [hyw] at y0
        have HX : Hid _ := hxw
        have HY : Hid _ := hyw
        have HJ : Hid _ := hj
        have hjd : decide ((j : Int) < 0) = false := decide_eq_false (by omega)
        have hj0 : ¬ ((j : Int) < 0) := by omega
        clear hk hxw hyw hj e' x1 y1 h
        by_cases hlt : yw < xw
        · have REL : Hid (((i : Int) = -1 ∧ i + 1 = 0) ∨ ∃ j : Nat, (i : Int) = (j : Int) ∧ leastAt E j (i + 1)) := .inr ⟨i, rfl, by omega, fun m hm' => by
              have h1 := HJ.out.2.1
              rw [HY.out]
              rcases (show m < i ∨ m = i by omega) with e | e
              · have := h1 m e; rw [HX.out] at this; omega
              · rw [e, HY.out]; omega, fun m hm' => by
              have := HJ.out.2.1 m hm'
              rw [HX.out] at this
              rw [HY.out]; omega⟩
          clear HJ
          go_wp2_with fail
          go_quiet (fail)
          go_wp2_with fail
          go_roundw
          case rel => exact ⟨i + 1, _, rfl, by go_num, hin, REL.out, _, rfl⟩
          case measure => simp [intOf]; omega
        · have REL : Hid (((j : Int) = -1 ∧ i + 1 = 0) ∨ ∃ j' : Nat, (j : Int) = (j' : Int) ∧ leastAt E j' (i + 1)) := .inr ⟨j, rfl, by omega, fun m hm' => by
              have h1 := HJ.out.2.1
              rcases (show m < i ∨ m = i by omega) with e | e
              · exact h1 m e
              · rw [e, HY.out, HX.out]; omega, HJ.out.2.2⟩
          clear HJ
          go_wp2_with fail
          go_quiet (fail)
          go_wp2_with fail
          go_roundw
          case rel => exact ⟨i + 1, _, rfl, by go_num, hin, REL.out, _, rfl⟩
          case measure => simp [intOf]; omega
    · obtain rfl : i = n := by omega
      have FF : Hid (Hid ((k = -1 ∧ E = []) ∨ ∃ j : Nat, k = (j : Int) ∧ leastAt E j E.length)) := by
        rcases hk.out with ⟨e, e0⟩ | ⟨j, e, hj⟩
        · exact .inl ⟨e, List.eq_nil_of_length_eq_zero (by rw [HN.out]; exact e0)⟩
        · exact .inr ⟨j, e, by rw [HN.out]; exact hj⟩
      clear hk h
      go_wp2_with fail
      go_ret
      exact ⟨k, rfl, FF.out, HBQ.out⟩
end Go.Proofs.Ytgimpolgagkffaa
