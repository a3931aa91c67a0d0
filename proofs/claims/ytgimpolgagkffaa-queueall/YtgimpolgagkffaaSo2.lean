/- siftDown and heapSort over a queue's row: it holds what it held, in some order. No condition but sizes. -/
import Derived.Test.YtgimpolgagkffaaSo1
namespace Go.Proofs.Ytgimpolgagkffaa
open Go.RowKit

set_option maxRecDepth 100000 in
set_option maxHeartbeats 2000000 in
theorem sift_any (b cap n : Nat) (L : List En) (lo hi x : Int) (w0 w : World) (h : PR w0 b cap n L w) (hx : 0 ≤ x) (hlo : 0 ≤ lo) (hlo9 : lo ≤ (n : Int)) (hhi : x + hi ≤ (n : Int)) (hm : n ≤ 1000000) :
    Calls Try.prog 44 #[.iface 49 (.slice (some ⟨b, 0, none⟩) n cap), .int .i64 lo, .int .i64 hi, .int .i64 x] w fun e w' => e = .returned (.tuple #[]) ∧ PR w0 b cap n L w' := by
  have e67 := e67
  have e68 := e68
  have mL := m_lessV b n cap
  have mS := m_swapV b n cap
  go_enter Try.func44, Try.ntmps44
  go_wp2_with fail
  go_loopw [8] (fun vi wr => ∃ i : Int, vi = .int .i64 i ∧ 0 ≤ i ∧ i ≤ (n : Int) ∧ PR w0 b cap n L wr) (fun vi _ => (hi - intOf vi).toNat)
  case atStart => exact ⟨lo, rfl, hlo, hlo9, h⟩
  case round =>
    clear h
    obtain ⟨i, rfl, hi0, hi9, hR⟩ := hrel
    obtain ⟨j, HJ⟩ : ∃ j, Hid (j = 2 * i + 1) := ⟨_, rfl⟩
    have hj1 : (2 : Int) * i + 1 = j := HJ.out.symm
    have hji : i < j := by have := HJ.out; omega
    have hj9 : j ≤ 2000001 := by have := HJ.out; omega
    by_cases hjh : hi ≤ j
    · go_wp2_with fail
      go_end0
      exact ⟨rfl, hR⟩
    · by_cases h2 : j + 1 < hi
      · go_wp2_with fail
        refine (less_w (x + j) (x + j + 1) wr hR (by omega) (by omega) (by omega) (by omega)).mono ?_
        rintro e w1 ⟨⟨r, rfl⟩, hb⟩
        have hR1 := hR.low hb
        clear hR hb
        cases r with
        | false =>
          go_wp2_with fail
          refine (less_w (x + i) (x + j) w1 hR1 (by omega) (by omega) (by omega) (by omega)).mono ?_
          rintro e w2 ⟨⟨r, rfl⟩, hb⟩
          have hR2 := hR1.low hb
          clear hR1 hb
          cases r with
          | false =>
            go_wp2_with fail
            (try simp only [Exit.inBlock, Exit.then])
            refine bodyPost_ret (results_none rfl _ _ _) rfl ?_
            exact ⟨rfl, hR2⟩
          | true =>
            go_wp2_with fail
            refine (swap_w (x + i) (x + j) w2 hR2 (by omega) (by omega) (by omega) (by omega)).mono ?_
            rintro e w3 ⟨rfl, hR3⟩
            clear hR2
            go_wp2_with fail
            go_roundw
            case rel => exact ⟨j, rfl, by omega, by omega, hR3⟩
            case measure => simp [intOf]; omega
        | true =>
          go_wp2_with fail
          refine (less_w (x + i) (x + (j + 1)) w1 hR1 (by omega) (by omega) (by omega) (by omega)).mono ?_
          rintro e w2 ⟨⟨r, rfl⟩, hb⟩
          have hR2 := hR1.low hb
          clear hR1 hb
          cases r with
          | false =>
            go_wp2_with fail
            (try simp only [Exit.inBlock, Exit.then])
            refine bodyPost_ret (results_none rfl _ _ _) rfl ?_
            exact ⟨rfl, hR2⟩
          | true =>
            go_wp2_with fail
            refine (swap_w (x + i) (x + (j + 1)) w2 hR2 (by omega) (by omega) (by omega) (by omega)).mono ?_
            rintro e w3 ⟨rfl, hR3⟩
            clear hR2
            go_wp2_with fail
            go_roundw
            case rel => exact ⟨j + 1, rfl, by omega, by omega, hR3⟩
            case measure => simp [intOf]; omega
      · go_wp2_with fail
        refine (less_w (x + i) (x + j) wr hR (by omega) (by omega) (by omega) (by omega)).mono ?_
        rintro e w2 ⟨⟨r, rfl⟩, hb⟩
        have hR2 := hR.low hb
        clear hR hb
        cases r with
        | false =>
          go_wp2_with fail
          (try simp only [Exit.inBlock, Exit.then])
          refine bodyPost_ret (results_none rfl _ _ _) rfl ?_
          exact ⟨rfl, hR2⟩
        | true =>
          go_wp2_with fail
          refine (swap_w (x + i) (x + j) w2 hR2 (by omega) (by omega) (by omega) (by omega)).mono ?_
          rintro e w3 ⟨rfl, hR3⟩
          clear hR2
          go_wp2_with fail
          go_roundw
          case rel => exact ⟨j, rfl, by omega, by omega, hR3⟩
          case measure => simp [intOf]; omega

set_option maxRecDepth 100000 in
set_option maxHeartbeats 2000000 in
theorem heap_any (b cap n : Nat) (L : List En) (x y : Int) (w0 w : World) (h : PR w0 b cap n L w) (hx : 0 ≤ x) (hxy : x < y) (hy : y ≤ (n : Int)) (hm : n ≤ 1000000) :
    Calls Try.prog 37 #[.iface 49 (.slice (some ⟨b, 0, none⟩) n cap), .int .i64 x, .int .i64 y] w fun e w' => e = .returned (.tuple #[]) ∧ PR w0 b cap n L w' := by
  have e68 := e68
  have mS := m_swapV b n cap
  obtain ⟨m, HM⟩ : ∃ m, Hid (y - x = m) := ⟨_, rfl⟩
  have hm0 : 0 < m := by have := HM.out; omega
  have hm9 : x + m ≤ (n : Int) := by have := HM.out; omega
  have hm1 : y - x = m := HM.out
  obtain ⟨q, hq⟩ : ∃ q, (m - 1).tdiv 2 = q := ⟨_, rfl⟩
  have hq0 : 0 ≤ q ∧ q < m := by
    rw [← hq, Int.tdiv_eq_ediv_of_nonneg (by omega)]; omega
  go_enter Try.func37, Try.ntmps37
  go_wp2_with fail
  go_loopw [9] (fun vi wr => ∃ i : Int, vi = .int .i64 i ∧ -1 ≤ i ∧ i < m ∧ PR w0 b cap n L wr) (fun vi _ => (intOf vi + 1).toNat)
  case atStart => exact ⟨q, rfl, by omega, by omega, h⟩
  case round =>
    clear h hq
    obtain ⟨i, rfl, hi0, hi9, hR⟩ := hrel
    obtain ⟨wo, hwo⟩ : ∃ wo, wo = wr := ⟨_, rfl⟩
    subst hwo
    by_cases hi : 0 ≤ i
    · go_wp2_with (go_at_call 44; refine (sift_any b cap n L i m x w0 wo hR hx hi (by omega) hm9 hm).mono ?_; rintro e w1 ⟨rfl, hR1⟩)
      clear hR
      go_roundw
      case rel => exact ⟨i - 1, by go_num, by omega, by omega, hR1⟩
      case measure => simp [intOf]; omega
    · go_wp2_with fail
      clear hi hi0 hi9
      go_loopw [10] (fun vi wr => ∃ i : Int, vi = .int .i64 i ∧ -1 ≤ i ∧ i < m ∧ PR w0 b cap n L wr) (fun vi _ => (intOf vi + 1).toNat)
      case atStart => exact ⟨m - 1, by go_num, by omega, by omega, hR⟩
      case round =>
        clear hR
        obtain ⟨i, rfl, hi0, hi9, hR⟩ := hrel
        by_cases hi : 0 ≤ i
        · go_wp2_with fail
          refine (swap_w x (x + i) wr hR (by omega) (by omega) (by omega) (by omega)).mono ?_
          rintro e w1 ⟨rfl, hR1⟩
          clear hR
          go_wp2_with (go_at_call 44; refine (sift_any b cap n L 0 i x w0 w1 hR1 hx (by omega) (by omega) (by omega) hm).mono ?_; rintro e w2 ⟨rfl, hR2⟩)
          clear hR1
          go_roundw
          case rel => exact ⟨i - 1, by go_num, by omega, by omega, hR2⟩
          case measure => simp [intOf]; omega
        · go_wp2_with fail
          go_end0
          exact ⟨rfl, hR⟩
end Go.Proofs.Ytgimpolgagkffaa
