/- partialInsertionSort over a queue's row: it holds what it held, in some order. No condition but sizes. -/
import Derived.Test.YtgimpolgagkffaaSo1
namespace Go.Proofs.Ytgimpolgagkffaa
open Go.RowKit

set_option maxRecDepth 100000 in
set_option maxHeartbeats 8000000 in
theorem part_any (b cap n : Nat) (L : List En) (x y : Int) (w0 w : World) (h : PR w0 b cap n L w) (hx : 0 ≤ x) (hxy : x < y) (hy : y ≤ (n : Int)) (hm : n ≤ 1000000) :
    Calls Try.prog 41 #[.iface 49 (.slice (some ⟨b, 0, none⟩) n cap), .int .i64 x, .int .i64 y] w fun e w' => IsBool e ∧ PR w0 b cap n L w' := by
  have e67 := e67
  have e68 := e68
  have mL := m_lessV b n cap
  have mS := m_swapV b n cap
  go_enter Try.func41, Try.ntmps41
  go_wp2_with fail
  go_loopw [7, 8] (fun vi vj wr => ∃ i j : Int, vi = .int .i64 i ∧ vj = .int .i64 j ∧ x < i ∧ i ≤ y ∧ 0 ≤ j ∧ j ≤ 5 ∧ PR w0 b cap n L wr) (fun _ vj _ => (5 - intOf vj).toNat)
  case atStart => exact ⟨x + 1, 0, by go_num, rfl, by omega, by omega, by omega, by omega, h⟩
  case round =>
    clear h
    obtain ⟨i, j, rfl, rfl, hi, hi9, hj, hj9, hR⟩ := hrel
    obtain ⟨wo, hwo⟩ : ∃ wo, wo = wr := ⟨_, rfl⟩
    subst hwo
    by_cases hj5 : j < 5
    · go_wp2_with fail
      go_loopw [7] (fun vi wr => ∃ i : Int, vi = .int .i64 i ∧ x < i ∧ i ≤ y ∧ PR w0 b cap n L wr) (fun vi _ => (y - intOf vi).toNat)
      case atStart => exact ⟨i, rfl, by omega, by omega, hR⟩
      case round =>
        clear hR hi hi9
        obtain ⟨i, rfl, hi, hi9, hR⟩ := hrel
        obtain ⟨wq, hwq⟩ : ∃ wq, wq = wr := ⟨_, rfl⟩
        subst hwq
        by_cases hiy0 : i < y
        · go_wp2_with fail
          refine (less_w i (i - 1) wq hR (by omega) (by omega) (by omega) (by omega)).mono ?_
          rintro e w1 ⟨⟨r, rfl⟩, hb⟩
          have hR1 := hR.low hb
          clear hR hb
          cases r with
          | false =>
            go_wp2_with fail
            go_roundw
            case rel => exact ⟨i + 1, by go_num, by omega, by omega, hR1⟩
            case measure => simp [intOf]; omega
          | true =>
            have hiy' : (i == y) = false := beq_eq_false_iff_ne.2 (by omega)
            by_cases h50 : y - x < 50
            · go_wp2_with fail
              go_ret
              exact ⟨⟨_, rfl⟩, hR1⟩
            · go_wp2_with fail
              refine (swap_w i (i - 1) w1 hR1 (by omega) (by omega) (by omega) (by omega)).mono ?_
              rintro e w2 ⟨rfl, hR2⟩
              clear hR1
              by_cases hix : 2 ≤ i - x
              · skip
                go_wp2_with fail
                go_loopw [9] (fun vk wr => ∃ k : Int, vk = .int .i64 k ∧ 0 ≤ k ∧ k < i ∧ PR w0 b cap n L wr) (fun vk _ => (intOf vk).toNat)
                case atStart => exact ⟨i - 1, by go_num, by omega, by omega, hR2⟩
                case round =>
                  clear hR2
                  obtain ⟨k, rfl, hk, hk9, hR3⟩ := hrel
                  obtain ⟨wp, hwp⟩ : ∃ wp, wp = wr := ⟨_, rfl⟩
                  subst hwp
                  by_cases hk1 : 1 ≤ k
                  · go_wp2_with fail
                    refine (less_w k (k - 1) wp hR3 (by omega) (by omega) (by omega) (by omega)).mono ?_
                    rintro e u1 ⟨⟨r, rfl⟩, hb⟩
                    have hR4 := hR3.low hb
                    clear hR3 hb
                    cases r with
                    | false =>
                      by_cases hyi : 2 ≤ y - i
                      · go_wp2_with fail
                        go_loopw [10] (fun vk wr => ∃ k : Int, vk = .int .i64 k ∧ i < k ∧ k ≤ y ∧ PR w0 b cap n L wr) (fun vk _ => (y - intOf vk).toNat)
                        case atStart => exact ⟨i + 1, by go_num, by omega, by omega, hR4⟩
                        case round =>
                          clear hR4
                          obtain ⟨k, rfl, hk, hk9, hS⟩ := hrel
                          by_cases hky : k < y
                          · go_wp2_with fail
                            refine (less_w k (k - 1) wr hS (by omega) (by omega) (by omega) (by omega)).mono ?_
                            rintro e v1 ⟨⟨r, rfl⟩, hb⟩
                            have hS1 := hS.low hb
                            clear hS hb
                            cases r with
                            | false =>
                              go_wp2_with fail
                              exact ⟨⟨i, j + 1, rfl, by go_num, by omega, by omega, by omega, by omega, hS1⟩, by simp [intOf]; omega⟩
                            | true =>
                              go_wp2_with fail
                              refine (swap_w k (k - 1) v1 hS1 (by omega) (by omega) (by omega) (by omega)).mono ?_
                              rintro e v2 ⟨rfl, hS2⟩
                              clear hS1
                              go_wp2_with fail
                              go_roundw
                              case rel => exact ⟨k + 1, by go_num, by omega, by omega, hS2⟩
                              case measure => simp [intOf]; omega
                          · go_wp2_with fail
                            exact ⟨⟨i, j + 1, rfl, by go_num, by omega, by omega, by omega, by omega, hS⟩, by simp [intOf]; omega⟩
                      · go_wp2_with fail
                        exact ⟨⟨i, j + 1, rfl, by go_num, by omega, by omega, by omega, by omega, hR4⟩, by simp [intOf]; omega⟩
                    | true =>
                      go_wp2_with fail
                      refine (swap_w k (k - 1) u1 hR4 (by omega) (by omega) (by omega) (by omega)).mono ?_
                      rintro e u2 ⟨rfl, hR5⟩
                      clear hR4
                      go_wp2_with fail
                      go_roundw
                      case rel => exact ⟨k - 1, by go_num, by omega, by omega, hR5⟩
                      case measure => simp [intOf]; omega
                  · clear hk hk9
                    by_cases hyi : 2 ≤ y - i
                    · go_wp2_with fail
                      go_loopw [10] (fun vk wr => ∃ k : Int, vk = .int .i64 k ∧ i < k ∧ k ≤ y ∧ PR w0 b cap n L wr) (fun vk _ => (y - intOf vk).toNat)
                      case atStart => exact ⟨i + 1, by go_num, by omega, by omega, hR3⟩
                      case round =>
                        clear hR3
                        obtain ⟨k, rfl, hk, hk9, hS⟩ := hrel
                        by_cases hky : k < y
                        · go_wp2_with fail
                          refine (less_w k (k - 1) wr hS (by omega) (by omega) (by omega) (by omega)).mono ?_
                          rintro e v1 ⟨⟨r, rfl⟩, hb⟩
                          have hS1 := hS.low hb
                          clear hS hb
                          cases r with
                          | false =>
                            go_wp2_with fail
                            exact ⟨⟨i, j + 1, rfl, by go_num, by omega, by omega, by omega, by omega, hS1⟩, by simp [intOf]; omega⟩
                          | true =>
                            go_wp2_with fail
                            refine (swap_w k (k - 1) v1 hS1 (by omega) (by omega) (by omega) (by omega)).mono ?_
                            rintro e v2 ⟨rfl, hS2⟩
                            clear hS1
                            go_wp2_with fail
                            go_roundw
                            case rel => exact ⟨k + 1, by go_num, by omega, by omega, hS2⟩
                            case measure => simp [intOf]; omega
                        · go_wp2_with fail
                          exact ⟨⟨i, j + 1, rfl, by go_num, by omega, by omega, by omega, by omega, hS⟩, by simp [intOf]; omega⟩
                    · go_wp2_with fail
                      exact ⟨⟨i, j + 1, rfl, by go_num, by omega, by omega, by omega, by omega, hR3⟩, by simp [intOf]; omega⟩
              · skip
                have hyi : 2 ≤ y - i := by omega
                · go_wp2_with fail
                  go_loopw [10] (fun vk wr => ∃ k : Int, vk = .int .i64 k ∧ i < k ∧ k ≤ y ∧ PR w0 b cap n L wr) (fun vk _ => (y - intOf vk).toNat)
                  case atStart => exact ⟨i + 1, by go_num, by omega, by omega, hR2⟩
                  case round =>
                    clear hR2
                    obtain ⟨k, rfl, hk, hk9, hS⟩ := hrel
                    by_cases hky : k < y
                    · go_wp2_with fail
                      refine (less_w k (k - 1) wr hS (by omega) (by omega) (by omega) (by omega)).mono ?_
                      rintro e v1 ⟨⟨r, rfl⟩, hb⟩
                      have hS1 := hS.low hb
                      clear hS hb
                      cases r with
                      | false =>
                        go_wp2_with fail
                        exact ⟨⟨i, j + 1, rfl, by go_num, by omega, by omega, by omega, by omega, hS1⟩, by simp [intOf]; omega⟩
                      | true =>
                        go_wp2_with fail
                        refine (swap_w k (k - 1) v1 hS1 (by omega) (by omega) (by omega) (by omega)).mono ?_
                        rintro e v2 ⟨rfl, hS2⟩
                        clear hS1
                        go_wp2_with fail
                        go_roundw
                        case rel => exact ⟨k + 1, by go_num, by omega, by omega, hS2⟩
                        case measure => simp [intOf]; omega
                    · go_wp2_with fail
                      exact ⟨⟨i, j + 1, rfl, by go_num, by omega, by omega, by omega, by omega, hS⟩, by simp [intOf]; omega⟩
        · obtain rfl : i = y := by omega
          have FF : Hid (PR w0 b cap n L wq) := hR
          clear hR
          go_wp2_with fail
          go_ret
          exact ⟨⟨_, rfl⟩, FF.out⟩
    · go_wp2_with fail
      go_ret
      exact ⟨⟨_, rfl⟩, hR⟩
end Go.Proofs.Ytgimpolgagkffaa
