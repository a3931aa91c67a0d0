/- Sorting by sort.Sort's parts over a queue's row: whatever they do, the row holds what it held, in some order: insertionSort, reverseRange, order2, median, medianAdjacent. No condition but sizes. -/
import Derived.Test.YtgimpolgagkffaaQs3
namespace Go.Proofs.Ytgimpolgagkffaa
open Go.RowKit

/-- From w on, the row in block b holds what L had, in some order; all else stays. -/
def PR (w : World) (b cap n : Nat) (L : List En) (wr : World) : Prop := L.length = n ∧ ∃ L', L'.Perm L ∧ Row wr b cap L' ∧ Keep w wr (· = b)

theorem PR.low {w wr w' : World} {b cap n : Nat} {L : List En} (h : PR w b cap n L wr) (hb : Below wr.heap.size wr w') : PR w b cap n L w' := by
  obtain ⟨hn, L', hp, hr, hk⟩ := h
  exact ⟨hn, L', hp, hr.below hb hr.lt, hk.low hb hk.size⟩

theorem PR.start {w : World} {b cap : Nat} {L : List En} (h : Row w b cap L) : PR w b cap L.length L w := ⟨rfl, L, List.Perm.refl _, h, Keep.refl _ _⟩

theorem PR.size {w wr : World} {b cap n : Nat} {L : List En} (h : PR w b cap n L wr) : w.heap.size ≤ wr.heap.size := by
  obtain ⟨_, L', _, _, hk⟩ := h
  exact hk.size

theorem PR.lt {w wr : World} {b cap n : Nat} {L : List En} (h : PR w b cap n L wr) : b < wr.heap.size := by
  obtain ⟨_, L', _, hr, _⟩ := h
  exact hr.lt

/-- What another one that begins where this one is does. -/
theorem PR.then {w w1 w2 : World} {b cap n : Nat} {L : List En} (h : PR w b cap n L w1) (k : ∀ L1, L1.length = n → Row w1 b cap L1 → PR w1 b cap n L1 w2) : PR w b cap n L w2 := by
  obtain ⟨hn, L', hp, hr, hk⟩ := h
  obtain ⟨hn2, L2, hp2, hr2, hk2⟩ := k L' (hp.length_eq.trans hn) hr
  exact ⟨hn, L2, hp2.trans hp, hr2, hk.trans hk2 (fun _ _ e => e)⟩

def rv (b n cap : Nat) : Value := .slice (some ⟨b, 0, none⟩) n cap

theorem m_lessV (b n cap : Nat) (w : World) : Sem.run Try.prog (method 223 49 (.slice (some ⟨b, 0, none⟩) n cap) "Less") w = .ok (67, .slice (some ⟨b, 0, none⟩) n cap) w := by kernel_rfl
theorem m_swapV (b n cap : Nat) (w : World) : Sem.run Try.prog (method 223 49 (.slice (some ⟨b, 0, none⟩) n cap) "Swap") w = .ok (68, .slice (some ⟨b, 0, none⟩) n cap) w := by kernel_rfl
theorem m_lenV (b n cap : Nat) (w : World) : Sem.run Try.prog (method 223 49 (.slice (some ⟨b, 0, none⟩) n cap) "Len") w = .ok (66, .slice (some ⟨b, 0, none⟩) n cap) w := by kernel_rfl

theorem less_w {w : World} {b cap n : Nat} {L : List En} (i j : Int) (wr : World) (h : PR w b cap n L wr) (hi : 0 ≤ i) (hi' : i < (n : Int)) (hj : 0 ≤ j) (hj' : j < (n : Int)) :
    Calls Try.prog 67 #[.slice (some ⟨b, 0, none⟩) n cap, .int .i64 i, .int .i64 j] wr fun e w' => (∃ r, e = .returned (.bool r)) ∧ Below wr.heap.size wr w' := by
  obtain ⟨hn, L', hp, hr, hk⟩ := h
  obtain ⟨i, rfl⟩ := Int.eq_ofNat_of_zero_le hi
  obtain ⟨j, rfl⟩ := Int.eq_ofNat_of_zero_le hj
  have hl : L'.length = n := hp.length_eq.trans hn
  have := less_any b cap L' i j wr hr (by omega) (by omega)
  rw [hl] at this
  exact this.mono fun e w' ⟨he, hb⟩ => ⟨⟨_, he⟩, hb⟩

theorem swap_w {w : World} {b cap n : Nat} {L : List En} (i j : Int) (wr : World) (h : PR w b cap n L wr) (hi : 0 ≤ i) (hi' : i < (n : Int)) (hj : 0 ≤ j) (hj' : j < (n : Int)) :
    Calls Try.prog 68 #[.slice (some ⟨b, 0, none⟩) n cap, .int .i64 i, .int .i64 j] wr fun e w' => e = .returned (.tuple #[]) ∧ PR w b cap n L w' := by
  obtain ⟨hn, L', hp, hr, hk⟩ := h
  obtain ⟨i, rfl⟩ := Int.eq_ofNat_of_zero_le hi
  obtain ⟨j, rfl⟩ := Int.eq_ofNat_of_zero_le hj
  have hl : L'.length = n := hp.length_eq.trans hn
  have := swap_any b cap L' i j wr hr (by omega) (by omega)
  rw [hl] at this
  exact this.mono fun e w' ⟨he, hr', hk'⟩ => ⟨he, hn, _, (swp_perm (by omega) (by omega)).trans hp, hr', hk.trans hk' (fun _ _ e => e)⟩

theorem e67 : ∀ args w, (callFunc 67 args).run Try.prog w = .ok (.enter 67 args) w := enter_of Try.func67 (by kernel_rfl) rfl
theorem e68 : ∀ args w, (callFunc 68 args).run Try.prog w = .ok (.enter 68 args) w := enter_of Try.func68 (by kernel_rfl) rfl

set_option maxRecDepth 100000 in
set_option maxHeartbeats 2000000 in
theorem ins_any (b cap n : Nat) (L : List En) (x y : Int) (w0 w : World) (h : PR w0 b cap n L w) (hx : 0 ≤ x) (hy : y ≤ (n : Int)) (hm : n ≤ 1000000) (hxy : x ≤ (n : Int)) :
    Calls Try.prog 36 #[.iface 49 (.slice (some ⟨b, 0, none⟩) n cap), .int .i64 x, .int .i64 y] w fun e w' => e = .returned (.tuple #[]) ∧ PR w0 b cap n L w' := by
  have e67 := e67
  have e68 := e68
  have mL := m_lessV b n cap
  have mS := m_swapV b n cap
  go_enter Try.func36, Try.ntmps36
  go_wp2_with fail
  go_loopw [6] (fun vi wr => ∃ i : Int, vi = .int .i64 i ∧ x < i ∧ i ≤ (n : Int) + 1 ∧ PR w0 b cap n L wr) (fun vi _ => (y - intOf vi).toNat)
  case atStart => exact ⟨x + 1, by go_num, by omega, by omega, h⟩
  case round =>
    clear h
    obtain ⟨i, rfl, hi, hi9, hR⟩ := hrel
    obtain ⟨wo, hwo⟩ : ∃ wo, wo = wr := ⟨_, rfl⟩
    subst hwo
    by_cases hiy : i < y
    · go_wp2_with fail
      go_loopw [7] (fun vj wr => ∃ j : Int, vj = .int .i64 j ∧ x ≤ j ∧ j ≤ i ∧ PR w0 b cap n L wr) (fun vj _ => (intOf vj).toNat)
      case atStart => exact ⟨i, rfl, by omega, by omega, hR⟩
      case round =>
        clear hR
        obtain ⟨j, rfl, hj, hji, hR⟩ := hrel
        by_cases hjx : x < j
        · go_wp2_with fail
          refine (less_w j (j - 1) wr hR (by omega) (by omega) (by omega) (by omega)).mono ?_
          rintro e w1 ⟨⟨r, rfl⟩, hb⟩
          have hR1 := hR.low hb
          clear hR hb
          cases r with
          | false =>
            go_wp2_with fail
            exact ⟨⟨i + 1, by go_num, by omega, by omega, hR1⟩, by simp [intOf]; omega⟩
          | true =>
            go_wp2_with fail
            refine (swap_w j (j - 1) w1 hR1 (by omega) (by omega) (by omega) (by omega)).mono ?_
            rintro e w2 ⟨rfl, hR2⟩
            clear hR1
            go_wp2_with fail
            go_roundw
            case rel => exact ⟨j - 1, by go_num, by omega, by omega, hR2⟩
            case measure => simp [intOf]; omega
        · go_wp2_with fail
          exact ⟨⟨i + 1, by go_num, by omega, by omega, hR⟩, by simp [intOf]; omega⟩
    · go_wp2_with fail
      go_end0
      exact ⟨rfl, hR⟩

set_option maxRecDepth 100000 in
set_option maxHeartbeats 2000000 in
theorem rev_any (b cap n : Nat) (L : List En) (x y : Int) (w0 w : World) (h : PR w0 b cap n L w) (hx : 0 ≤ x) (hy : y ≤ (n : Int)) (hm : n ≤ 1000000) (hxy : x ≤ y) :
    Calls Try.prog 40 #[.iface 49 (.slice (some ⟨b, 0, none⟩) n cap), .int .i64 x, .int .i64 y] w fun e w' => e = .returned (.tuple #[]) ∧ PR w0 b cap n L w' := by
  have e68 := e68
  have mS := m_swapV b n cap
  go_enter Try.func40, Try.ntmps40
  go_wp2_with fail
  go_loopw [6, 7] (fun vi vj wr => ∃ i j : Int, vi = .int .i64 i ∧ vj = .int .i64 j ∧ 0 ≤ i ∧ i ≤ (n : Int) + 1 ∧ -1 ≤ j ∧ j < (n : Int) ∧ PR w0 b cap n L wr) (fun vi vj _ => (intOf vj - intOf vi).toNat)
  case atStart => exact ⟨x, y - 1, rfl, by go_num, by omega, by omega, by omega, by omega, h⟩
  case round =>
    clear h
    obtain ⟨i, j, rfl, rfl, hi, hi9, hj, hj9, hR⟩ := hrel
    by_cases hij : i < j
    · go_wp2_with fail
      refine (swap_w i j wr hR (by omega) (by omega) (by omega) (by omega)).mono ?_
      rintro e w2 ⟨rfl, hR2⟩
      clear hR
      go_wp2_with fail
      go_roundw
      case rel => exact ⟨i + 1, j - 1, by go_num, by go_num, by omega, by omega, by omega, by omega, hR2⟩
      case measure => simp [intOf]; omega
    · go_wp2_with fail
      go_end0
      exact ⟨rfl, hR⟩
end Go.Proofs.Ytgimpolgagkffaa
