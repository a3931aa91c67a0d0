/- partition over a queue's row: it holds what it held, in some order; a place within bounds. No condition but sizes. -/
import Derived.Test.YtgimpolgagkffaaSo4
namespace Go.Proofs.Ytgimpolgagkffaa
open Go.RowKit


set_option maxRecDepth 100000 in
set_option maxHeartbeats 8000000 in
theorem ptn_any (b cap n : Nat) (L : List En) (x y p : Int) (w0 w : World) (h : PR w0 b cap n L w) (hx : 0 ≤ x) (hxy : x < y) (hy : y ≤ (n : Int)) (hp : x ≤ p) (hp9 : p < y) (hm : n ≤ 1000000) :
    Calls Try.prog 43 #[.iface 49 (.slice (some ⟨b, 0, none⟩) n cap), .int .i64 x, .int .i64 y, .int .i64 p] w fun e w' => ∃ m r, e = .returned (.tuple #[.int .i64 m, .bool r]) ∧ Pt w0 b cap n L x (y - 1) w' m := by
  have e67 := e67
  have e68 := e68
  have mL := m_lessV b n cap
  have mS := m_swapV b n cap
  go_enter Try.func43, Try.ntmps43
  go_wp2_with fail
  refine (swap_w x p w h (by omega) (by omega) (by omega) (by omega)).mono ?_
  rintro e w3 ⟨rfl, hR⟩
  clear h
  go_wp2_with fail
  obtain ⟨i0, hi0⟩ : ∃ i0, x + 1 = i0 := ⟨_, rfl⟩
  obtain ⟨j, hj0⟩ : ∃ j, y - 1 = j := ⟨_, rfl⟩
  rw [hi0, hj0]
  have hi3 : x < i0 ∧ i0 ≤ x + 1 := by omega
  have hj3 : j < y ∧ y - 1 ≤ j := by omega
  clear hi0 hj0
  go_loopw [10] (fun vi wr => ∃ i : Int, vi = .int .i64 i ∧ x < i ∧ i0 ≤ i ∧ i ≤ y ∧ i ≤ j + 2 ∧ PR w0 b cap n L wr) (fun vi _ => (y + 1 - intOf vi).toNat)
  case atStart => exact ⟨i0, rfl, by omega, by omega, by omega, by omega, hR⟩
  case round =>
    clear hR
    obtain ⟨i, rfl, hi, hii, hi9, hij9, hR⟩ := hrel
    obtain ⟨wp, hwp⟩ : ∃ wp, wp = wr := ⟨_, rfl⟩
    subst hwp
    obtain ⟨j0, hj0⟩ : ∃ j0, j0 = j := ⟨_, rfl⟩
    subst hj0
    by_cases hij : i ≤ j0
    · go_wp2_with fail
      refine (less_w i x wp hR (by omega) (by omega) (by omega) (by omega)).mono ?_
      rintro e w1 ⟨⟨r, rfl⟩, hb⟩
      have hR1 := hR.low hb
      clear hR hb
      cases r with
      | true =>
        go_wp2_with fail
        go_roundw
        case rel => exact ⟨i + 1, by go_num, by omega, by omega, by omega, by omega, hR1⟩
        case measure => simp [intOf]; omega
      | false =>
        clear hij
        go_wp2_with fail
        go_loopw [11] (fun vj wr => ∃ j : Int, vj = .int .i64 j ∧ x ≤ j ∧ j ≤ j0 ∧ j < y ∧ i ≤ j + 2 ∧ PR w0 b cap n L wr) (fun vj _ => (intOf vj - x).toNat)
        case atStart => exact ⟨j0, rfl, by omega, by omega, by omega, by omega, hR1⟩
        case round =>
          clear hR1
          obtain ⟨j, rfl, hj, hjj, hj9, hij9, hR⟩ := hrel
          obtain ⟨wq, hwq⟩ : ∃ wq, wq = wr := ⟨_, rfl⟩
          subst hwq
          by_cases hij : i ≤ j
          · go_wp2_with fail
            refine (less_w j x wq hR (by omega) (by omega) (by omega) (by omega)).mono ?_
            rintro e w1 ⟨⟨r, rfl⟩, hb⟩
            have hR1 := hR.low hb
            clear hR hb
            cases r with
            | false =>
              go_wp2_with fail
              go_roundw
              case rel => exact ⟨j - 1, by go_num, by omega, by omega, by omega, by omega, hR1⟩
              case measure => simp [intOf]; omega
            | true =>
              go_wp2_with fail
              refine (swap_w i j w1 hR1 (by omega) (by omega) (by omega) (by omega)).mono ?_
              rintro e w2 ⟨rfl, hR2⟩
              clear hR1
              go_wp2_with fail
              obtain ⟨i5, hi5⟩ : ∃ i5, i5 = i := ⟨_, rfl⟩
              subst hi5
              obtain ⟨j5, hj5⟩ : ∃ j5, j5 = j := ⟨_, rfl⟩
              subst hj5
              go_loopw [10, 11] (fun vi vj wr => ∃ i j : Int, vi = .int .i64 i ∧ vj = .int .i64 j ∧ x < i ∧ i ≤ y ∧ x ≤ j ∧ j < y ∧ i ≤ j + 2 ∧ PR w0 b cap n L wr) (fun vi vj _ => (intOf vj + 2 - intOf vi).toNat)
              case atStart => exact ⟨i5 + 1, j5 - 1, by go_num, by go_num, by omega, by omega, by omega, by omega, by omega, hR2⟩
              case round =>
                clear hR2
                obtain ⟨i, j, rfl, rfl, hi, hi9, hj, hj9, hij9, hR⟩ := hrel
                obtain ⟨wo, hwo⟩ : ∃ wo, wo = wr := ⟨_, rfl⟩
                subst hwo
                obtain ⟨i0, hi0⟩ : ∃ i0, i0 = i := ⟨_, rfl⟩
                subst hi0
                go_wp2_with fail
                go_loopw [10] (fun vi wr => ∃ i : Int, vi = .int .i64 i ∧ x < i ∧ i0 ≤ i ∧ i ≤ y ∧ i ≤ j + 2 ∧ PR w0 b cap n L wr) (fun vi _ => (y + 1 - intOf vi).toNat)
                case atStart => exact ⟨i0, rfl, by omega, by omega, by omega, by omega, hR⟩
                case round =>
                  clear hR
                  obtain ⟨i, rfl, hi, hii, hi9, hij9, hR⟩ := hrel
                  obtain ⟨wp, hwp⟩ : ∃ wp, wp = wr := ⟨_, rfl⟩
                  subst hwp
                  obtain ⟨j0, hj0⟩ : ∃ j0, j0 = j := ⟨_, rfl⟩
                  subst hj0
                  by_cases hij : i ≤ j0
                  · go_wp2_with fail
                    refine (less_w i x wp hR (by omega) (by omega) (by omega) (by omega)).mono ?_
                    rintro e w1 ⟨⟨r, rfl⟩, hb⟩
                    have hR1 := hR.low hb
                    clear hR hb
                    cases r with
                    | true =>
                      go_wp2_with fail
                      go_roundw
                      case rel => exact ⟨i + 1, by go_num, by omega, by omega, by omega, by omega, hR1⟩
                      case measure => simp [intOf]; omega
                    | false =>
                      clear hij
                      go_wp2_with fail
                      go_loopw [11] (fun vj wr => ∃ j : Int, vj = .int .i64 j ∧ x ≤ j ∧ j ≤ j0 ∧ j < y ∧ i ≤ j + 2 ∧ PR w0 b cap n L wr) (fun vj _ => (intOf vj - x).toNat)
                      case atStart => exact ⟨j0, rfl, by omega, by omega, by omega, by omega, hR1⟩
                      case round =>
                        clear hR1
                        obtain ⟨j, rfl, hj, hjj, hj9, hij9, hR⟩ := hrel
                        obtain ⟨wq, hwq⟩ : ∃ wq, wq = wr := ⟨_, rfl⟩
                        subst hwq
                        by_cases hij : i ≤ j
                        · go_wp2_with fail
                          refine (less_w j x wq hR (by omega) (by omega) (by omega) (by omega)).mono ?_
                          rintro e w1 ⟨⟨r, rfl⟩, hb⟩
                          have hR1 := hR.low hb
                          clear hR hb
                          cases r with
                          | false =>
                            go_wp2_with fail
                            go_roundw
                            case rel => exact ⟨j - 1, by go_num, by omega, by omega, by omega, by omega, hR1⟩
                            case measure => simp [intOf]; omega
                          | true =>
                            go_wp2_with fail
                            refine (swap_w i j w1 hR1 (by omega) (by omega) (by omega) (by omega)).mono ?_
                            rintro e w2 ⟨rfl, hR2⟩
                            clear hR1
                            go_wp2_with fail
                            exact ⟨⟨i + 1, j - 1, by go_num, by go_num, by omega, by omega, by omega, by omega, by omega, hR2⟩, by simp [intOf]; omega⟩
                        · skip
                          go_wp2_with fail
                          refine (swap_w j x wq hR (by omega) (by omega) (by omega) (by omega)).mono ?_
                          rintro e w2 ⟨rfl, hR2⟩
                          have FF : Hid (PR w0 b cap n L w2) := hR2
                          clear hR hR2
                          go_wp2_with fail
                          refine bodyPost_ret (v := .tuple #[.int .i64 j, .bool false]) (by simp [results, Try.results43, go_sem]) rfl ⟨j, _, rfl, ⟨by omega, by omega, FF.out⟩⟩
                  · go_wp2_with fail
                    go_loopw [11] (fun vj wr => ∃ j : Int, vj = .int .i64 j ∧ x ≤ j ∧ j ≤ j0 ∧ j < y ∧ i ≤ j + 2 ∧ PR w0 b cap n L wr) (fun vj _ => (intOf vj - x).toNat)
                    case atStart => exact ⟨j0, rfl, by omega, by omega, by omega, by omega, hR⟩
                    case round =>
                      clear hR
                      obtain ⟨j, rfl, hj, hjj, hj9, hij9, hR⟩ := hrel
                      obtain ⟨wq, hwq⟩ : ∃ wq, wq = wr := ⟨_, rfl⟩
                      subst hwq
                      have hij5 : ¬ i ≤ j := by omega
                      go_wp2_with fail
                      refine (swap_w j x wq hR (by omega) (by omega) (by omega) (by omega)).mono ?_
                      rintro e w2 ⟨rfl, hR2⟩
                      have FF : Hid (PR w0 b cap n L w2) := hR2
                      clear hR hR2
                      go_wp2_with fail
                      refine bodyPost_ret (v := .tuple #[.int .i64 j, .bool false]) (by simp [results, Try.results43, go_sem]) rfl ⟨j, _, rfl, ⟨by omega, by omega, FF.out⟩⟩
          · skip
            go_wp2_with fail
            refine (swap_w j x wq hR (by omega) (by omega) (by omega) (by omega)).mono ?_
            rintro e w2 ⟨rfl, hR2⟩
            have FF : Hid (PR w0 b cap n L w2) := hR2
            clear hR hR2
            go_wp2_with fail
            refine bodyPost_ret (v := .tuple #[.int .i64 j, .bool true]) (by simp [results, Try.results43, go_sem]) rfl ⟨j, _, rfl, ⟨by omega, by omega, FF.out⟩⟩
    · go_wp2_with fail
      go_loopw [11] (fun vj wr => ∃ j : Int, vj = .int .i64 j ∧ x ≤ j ∧ j ≤ j0 ∧ j < y ∧ i ≤ j + 2 ∧ PR w0 b cap n L wr) (fun vj _ => (intOf vj - x).toNat)
      case atStart => exact ⟨j0, rfl, by omega, by omega, by omega, by omega, hR⟩
      case round =>
        clear hR
        obtain ⟨j, rfl, hj, hjj, hj9, hij9, hR⟩ := hrel
        obtain ⟨wq, hwq⟩ : ∃ wq, wq = wr := ⟨_, rfl⟩
        subst hwq
        have hij5 : ¬ i ≤ j := by omega
        go_wp2_with fail
        refine (swap_w j x wq hR (by omega) (by omega) (by omega) (by omega)).mono ?_
        rintro e w2 ⟨rfl, hR2⟩
        have FF : Hid (PR w0 b cap n L w2) := hR2
        clear hR hR2
        go_wp2_with fail
        refine bodyPost_ret (v := .tuple #[.int .i64 j, .bool true]) (by simp [results, Try.results43, go_sem]) rfl ⟨j, _, rfl, ⟨by omega, by omega, FF.out⟩⟩
end Go.Proofs.Ytgimpolgagkffaa
