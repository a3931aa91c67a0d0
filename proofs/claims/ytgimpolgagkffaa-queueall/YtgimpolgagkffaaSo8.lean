/- pdqsort over a queue's row: it holds what it held, in some order. No condition but sizes. -/
import Derived.Test.YtgimpolgagkffaaSo2
import Derived.Test.YtgimpolgagkffaaSo3
import Derived.Test.YtgimpolgagkffaaSo4b
import Derived.Test.YtgimpolgagkffaaSo6b
import Derived.Test.YtgimpolgagkffaaSo7
import Derived.Deep.CutRange
namespace Go.Proofs.Ytgimpolgagkffaa
open Go.RowKit

set_option maxRecDepth 100000 in
set_option maxHeartbeats 20000000 in
theorem pdq_any (b cap n : Nat) (L : List En) (w0 : World) (hm : n ≤ 256) (N : Nat) : ∀ (x y l : Int) (w : World) (_ : PR w0 b cap n L w) (_ : 0 ≤ x) (_ : x ≤ y) (_ : y ≤ (n : Int)) (_ : (y - x).toNat ≤ N) (_ : 0 ≤ l) (_ : l ≤ 100),
    Calls Try.prog 32 #[.iface 49 (.slice (some ⟨b, 0, none⟩) n cap), .int .i64 x, .int .i64 y, .int .i64 l] w fun e w' => e = .returned (.tuple #[]) ∧ PR w0 b cap n L w' := by
  induction N using Nat.strongRecOn with
  | _ N ih =>
  intro x0 y0 l0 w h hx0 hxy0 hy0 hN hl0 hl09
  have IH : Hid (∀ M, M < N → ∀ (x y l : Int) (w : World) (_ : PR w0 b cap n L w) (_ : 0 ≤ x) (_ : x ≤ y) (_ : y ≤ (n : Int)) (_ : (y - x).toNat ≤ M) (_ : 0 ≤ l) (_ : l ≤ 100), Calls Try.prog 32 #[.iface 49 (.slice (some ⟨b, 0, none⟩) n cap), .int .i64 x, .int .i64 y, .int .i64 l] w fun e w' => e = .returned (.tuple #[]) ∧ PR w0 b cap n L w') := ih
  clear ih
  have e67 := e67
  have mL := m_lessV b n cap
  go_enter Try.func32, Try.ntmps32
  go_wp2_with fail
  go_loopw [1, 2, 3, 8, 9] (fun va vb vl v8 v9 wr => ∃ (x y l : Int) (wb wp : Bool), va = .int .i64 x ∧ vb = .int .i64 y ∧ vl = .int .i64 l ∧ v8 = .bool wb ∧ v9 = .bool wp ∧ x0 ≤ x ∧ x ≤ y ∧ y ≤ y0 ∧ 0 ≤ l ∧ l ≤ 100 ∧ 0 ≤ x ∧ PR w0 b cap n L wr) (fun va vb _ _ _ _ => (intOf vb - intOf va).toNat)
  case atStart => exact ⟨x0, y0, l0, true, true, rfl, rfl, rfl, rfl, rfl, by omega, by omega, by omega, by omega, by omega, by omega, h⟩
  case round =>
    clear h
    obtain ⟨x, y, l, wb, wp, rfl, rfl, rfl, rfl, rfl, hxx, hxy, hyy, hl, hl9, hx, hR⟩ := hrel
    have hy : y ≤ (n : Int) := by omega
    have hNN : (y - x).toNat ≤ N := by omega
    obtain ⟨wo, hwo⟩ : ∃ wo, wo = wr := ⟨_, rfl⟩
    subst hwo
    clear hl0 hl09 hN hxy0 hy0 hx0
    by_cases h12 : y - x ≤ 12
    · go_wp2_with fail
      refine (ins_any b cap n L x y w0 wo hR hx hy (by omega) (by omega)).mono ?_
      rintro e w1 ⟨rfl, hR1⟩
      clear hR
      go_wp2_with fail
      (try simp only [Exit.inBlock, Exit.then])
      refine bodyPost_ret (results_none rfl _ _ _) rfl ?_
      exact ⟨rfl, hR1⟩
    · by_cases hlz : l = 0
      · subst hlz
        go_wp2_with fail
        refine (heap_any b cap n L x y w0 wo hR hx (by omega) hy (by omega)).mono ?_
        rintro e w1 ⟨rfl, hR1⟩
        clear hR
        go_wp2_with fail
        (try simp only [Exit.inBlock, Exit.then])
        refine bodyPost_ret (results_none rfl _ _ _) rfl ?_
        exact ⟨rfl, hR1⟩
      · have hlz' : (l == 0) = false := beq_eq_false_iff_ne.2 hlz
        obtain ⟨q8, hq8⟩ : ∃ q8 : Int, (y - x).tdiv 8 = q8 := ⟨_, rfl⟩
        go_upto_if 35 with fail
        go_cut [3] from 19 to 128 (fun s3 wx => ∃ l' : Int, s3 = .int .i64 l' ∧ 0 ≤ l' ∧ l' ≤ 100 ∧ PR w0 b cap n L wx)
        case first =>
          cases wb with
          | false =>
            go_wp2_with fail
            refine (brk_any b cap n L x y w0 wo hR hx (by omega) hy hm).mono ?_
            rintro e w1 ⟨rfl, hR1⟩
            clear hR
            go_wp2_with fail
            go_meet
            case rel => exact ⟨l - 1, by go_num, by omega, by omega, hR1⟩
          | true =>
            go_wp2_with fail
            go_meet
            case rel => exact ⟨l, rfl, hl, hl9, hR⟩
        case rest =>
          clear hR hl hl9 hlz hlz'
          obtain ⟨l, rfl, hl, hl9, h1⟩ := hcut
          obtain ⟨wa, hwa⟩ : ∃ wa, wa = wc := ⟨_, rfl⟩
          subst hwa
          go_upto_if 50 with (go_at_call 39; refine (choose_any b cap n L x y w0 wa h1 hx (by omega) hy hm).mono ?_; rintro e u1 ⟨p, t, rfl, hC⟩)
          clear h1
          go_cut [11, 12] from 19 to 128 (fun s11 s12 wx => ∃ P t : Int, s11 = .int .i64 P ∧ s12 = .int .i64 t ∧ x ≤ P ∧ P < y ∧ PR w0 b cap n L wx)
          case first =>
            have hp0 := hC.p0
            have hp9 := hC.p9
            have hU := hC.pr
            clear hC
            by_cases ht2 : t = 2
            · subst ht2
              go_wp2_with fail
              refine (rev_any b cap n L x y w0 u1 hU hx hy (by omega) (by omega)).mono ?_
              rintro e u2 ⟨rfl, hU2⟩
              clear hU
              go_wp2_with fail
              go_meet
              case rel => exact ⟨y - 1 - (p - x), 1, by go_num, rfl, by omega, by omega, hU2⟩
            · have ht2' : (t == 2) = false := beq_eq_false_iff_ne.2 ht2
              go_wp2_with fail
              go_meet
              case rel => exact ⟨p, t, rfl, rfl, hp0, hp9, hU⟩
          case rest =>
            clear hC
            obtain ⟨P, t, rfl, rfl, hP0, hP9, h3⟩ := hcut
            obtain ⟨wa, hwa⟩ : ∃ wa, wa = wc := ⟨_, rfl⟩
            subst hwa
            go_upto_region 15 with fail
            go_cut [68] from 19 to 128 (fun s68 wx => ∃ r, s68 = .bool r ∧ PR w0 b cap n L wx)
            case first =>
              by_cases ht1 : t = 1
              · subst ht1
                cases wb with
                | false =>
                  go_wp2_with fail
                  go_meet
                  case rel => exact ⟨_, rfl, h3⟩
                | true =>
                  cases wp with
                  | false =>
                    go_wp2_with fail
                    go_meet
                    case rel => exact ⟨_, rfl, h3⟩
                  | true =>
                    go_wp2_with fail
                    go_meet
                    case rel => exact ⟨_, rfl, h3⟩
              · have ht1' : (t == 1) = false := beq_eq_false_iff_ne.2 ht1
                cases wb with
                | false =>
                  go_wp2_with fail
                  go_meet
                  case rel => exact ⟨_, rfl, h3⟩
                | true =>
                  cases wp with
                  | false =>
                    go_wp2_with fail
                    go_meet
                    case rel => exact ⟨_, rfl, h3⟩
                  | true =>
                    go_wp2_with fail
                    go_meet
                    case rel => exact ⟨_, rfl, h3⟩
            case rest =>
              clear h3
              obtain ⟨r, rfl, h4⟩ := hcut
              obtain ⟨wa, hwa⟩ : ∃ wa, wa = wc := ⟨_, rfl⟩
              subst hwa
              go_upto_if 68 with fail
              go_cut [11] from 19 to 128 (fun s11 wx => s11 = .int .i64 P ∧ PR w0 b cap n L wx)
              case first =>
                cases r with
                | false =>
                  go_wp2_with fail
                  go_meet
                  case rel => exact ⟨rfl, h4⟩
                | true =>
                  go_wp2_with fail
                  refine (part_any b cap n L x y w0 wa h4 hx (by omega) hy (by omega)).mono ?_
                  rintro e v0 ⟨⟨r0, rfl⟩, hS0⟩
                  clear h4
                  cases r0 with
                  | true =>
                    go_wp2_with fail
                    (try simp only [Exit.inBlock, Exit.then])
                    refine bodyPost_ret (results_none rfl _ _ _) rfl ?_
                    exact ⟨rfl, hS0⟩
                  | false =>
                    go_wp2_with fail
                    go_meet
                    case rel => exact ⟨rfl, hS0⟩
              case rest =>
                clear h4
                obtain ⟨rfl, h4⟩ := hcut
                obtain ⟨wa, hwa⟩ : ∃ wa, wa = wc := ⟨_, rfl⟩
                subst hwa
                go_upto_region 17 with fail
                go_cut [82] from 19 to 128 (fun s82 wx => ∃ r, s82 = .bool r ∧ PR w0 b cap n L wx)
                case first =>
                  by_cases hx0 : 0 < x
                  · go_wp2_with fail
                    refine (less_w (x - 1) P wa h4 (by omega) (by omega) (by omega) (by omega)).mono ?_
                    rintro e v1 ⟨⟨r, rfl⟩, hb⟩
                    have hS1 := h4.low hb
                    clear h4 hb
                    go_wp2_with fail
                    go_meet
                    case rel => exact ⟨_, rfl, hS1⟩
                  · go_wp2_with fail
                    go_meet
                    case rel => exact ⟨_, rfl, h4⟩
                case rest =>
                  clear h4
                  obtain ⟨r, rfl, h5⟩ := hcut
                  cases r with
                  | true =>
                    go_wp2_with fail
                    refine (pteq_any b cap n L x y P w0 wc h5 hx (by omega) hy hP0 hP9 (by omega)).mono ?_
                    rintro e v2 ⟨m, rfl, hM⟩
                    have hm0 := hM.lo
                    have hm9 := hM.hi
                    have hS2 := hM.pr
                    clear hM h5
                    go_wp2_with fail
                    go_roundw
                    case rel => exact ⟨m, y, l, _, _, by first | rfl | go_num, by first | rfl | go_num, rfl, rfl, rfl, by omega, by omega, by omega, by omega, by omega, by omega, hS2⟩
                    case measure => simp [intOf]; omega
                  | false =>
                    go_wp2_with fail
                    refine (ptn_any b cap n L x y P w0 wc h5 hx (by omega) hy hP0 hP9 (by omega)).mono ?_
                    rintro e v3 ⟨m, r3, rfl, hM⟩
                    have hm0 := hM.lo
                    have hm9 := hM.hi
                    have hS3 := hM.pr
                    clear hM h5
                    by_cases hlr : m - x < y - m
                    · go_wp2_with fail
                      refine (IH.out (m - x).toNat (by omega) x m l v3 hS3 hx (by omega) (by omega) (by omega) (by omega) (by omega)).mono ?_
                      rintro e v4 ⟨rfl, hS4⟩
                      clear hS3
                      go_wp2_with fail
                      go_roundw
                      case rel => exact ⟨m + 1, y, l, _, _, by first | rfl | go_num, by first | rfl | go_num, rfl, rfl, rfl, by omega, by omega, by omega, by omega, by omega, by omega, hS4⟩
                      case measure => simp [intOf]; omega
                    · go_wp2_with fail
                      refine (IH.out (y - (m + 1)).toNat (by omega) (m + 1) y l v3 hS3 (by omega) (by omega) (by omega) (by omega) (by omega) (by omega)).mono ?_
                      rintro e v4 ⟨rfl, hS4⟩
                      clear hS3
                      go_wp2_with fail
                      go_roundw
                      case rel => exact ⟨x, m, l, _, _, by first | rfl | go_num, by first | rfl | go_num, rfl, rfl, rfl, by omega, by omega, by omega, by omega, by omega, by omega, hS4⟩
                      case measure => simp [intOf]; omega
end Go.Proofs.Ytgimpolgagkffaa
