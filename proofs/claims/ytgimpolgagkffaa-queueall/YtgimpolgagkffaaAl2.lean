/- QueueAll's walk: whatever is done, the Queue tells what the document's does. No condition. -/
import Derived.Test.YtgimpolgagkffaaAl20
import Derived.Test.YtgimpolgagkffaaAl21
import Derived.Test.YtgimpolgagkffaaAl22
import Derived.Test.YtgimpolgagkffaaAl23
import Derived.Test.YtgimpolgagkffaaAl24
namespace Go.Proofs.Ytgimpolgagkffaa
open Go.RowKit

set_option maxRecDepth 100000 in
set_option maxHeartbeats 8000000 in
theorem all_any (a0 : Option Addr) (n0 cap0 : Nat) (w : World) (hO : OpR w a0 n0 cap0) : Calls Try.prog 3 #[.slice a0 n0 cap0] w fun e w' => e = .returned (.bool true) ∧ Below w.heap.size w w' := by
  have hle := hO.le
  have hmx := hO.max
  unfold maxLen at hmx
  by_cases hn : 300 < n0
  · go_enter Try.func3, Try.ntmps3
    go_wp2_with (go_at_call 6; refine (begun_any w).mono ?_; rintro e w0 ⟨rfl, hb0⟩)
    go_ret
    exact ⟨rfl, hb0⟩
  have hn' : n0 ≤ 300 := by omega
  clear hn
  go_enter Try.func3, Try.ntmps3
  go_wp2_with (first
    | (go_at_call 6; refine (begun_any w).mono ?_; rintro e w0 ⟨rfl, hb0⟩)
    | (go_at_call 7; refine (new_any w0).mono ?_; rintro e w1 ⟨g, rfl, hg, Q1, hb1⟩))
  obtain ⟨w2, hw2, hb2, P2, hs2⟩ := one_new w1 [.slice none 0 0] 29
  rw [hw2]
  obtain ⟨r, hr⟩ : ∃ r, w1.heap.size = r := ⟨_, rfl⟩
  rw [hr] at P2 ⊢
  have b1 : Below w.heap.size w w1 := hb0.trans (hb1.mono hb0.size)
  have ST : LS w w2 g none [] 0 r none 0 [] := ⟨Q1.below hb2, ⟨P2, ⟨rfl, .inl ⟨rfl, rfl⟩⟩⟩, List.Perm.refl _, List.Pairwise.nil, Nat.le_trans hb0.size hg, (fun b e => by cases e), by have := b1.size; omega, b1.trans (hb2.mono b1.size)⟩
  clear hw2 hr P2 hs2 hb2 b1 Q1 hb1 hb0 hg
  go_loopw [3, 5] (fun v3 v5 wr => ∃ (i g : Nat) (q : Option Nat) (St : List En) (n : Nat) (ao : Option Addr) (cap : Nat) (E : List En), v3 = .pointer (some ⟨g, 0, none⟩) ∧ v5 = .int .i64 (i : Int) ∧ i ≤ n0 ∧ n ≤ i ∧ LS w wr g q St n r ao cap E) (fun _ v5 _ => n0 - (intOf v5).toNat)
  case atStart => exact ⟨0, g, none, [], 0, none, 0, [], rfl, rfl, Nat.zero_le _, Nat.le_refl _, ST⟩
  case round =>
    clear ST
    obtain ⟨i, g, q, St, n, ao, cap, E, rfl, rfl, hi, hni, hL0⟩ := hrel
    by_cases hin : i < n0
    · obtain ⟨b, off, rfl, x, y, z, k0, k1, k2⟩ := (hO.below hL0.bel (Nat.le_refl _)).cells i hin
      have kl : b < wr.heap.size := World.block_lt_of_cell? wr _ k0
      have hx5 : -4 ≤ x.tmod 5 ∧ x.tmod 5 ≤ 4 := by
        rcases Int.le_total 0 x with h | h
        · rw [Int.tmod_eq_emod_of_nonneg h]; omega
        · have := Int.neg_tmod (-x) 5
          rw [Int.neg_neg] at this
          rw [this, Int.tmod_eq_emod_of_nonneg (by omega)]; omega
      obtain ⟨hx5a, hx5b⟩ := hx5
      obtain ⟨wo, hwo, hbo, Po, hso⟩ := one_new wr [.int .i64 x, .int .i64 y, .int .i64 z] 31
      obtain ⟨ob, hob⟩ : ∃ ob, wr.heap.size = ob := ⟨_, rfl⟩
      have hL := hL0.low hbo
      have hLglt := hL0.qs.glt
      have hLqlt : ∀ b', q = some b' → b' < wr.heap.size := fun b' e => hL0.qs.qlt e
      rw [hob] at Po
      have o0 := Po.cell (j := 0) rfl
      have o1 := Po.cell (j := 1) rfl
      have o2 := Po.cell (j := 2) rfl
      have HWO : Hid _ := hwo
      have HOB : Hid _ := hob
      clear hwo
      clear hob
      clear hL0
      clear hbo hso
      obtain ⟨c, hc⟩ : ∃ c, (x.tmod 5 + 5) % 5 = c := ⟨_, rfl⟩
      have hc0 : 0 ≤ c ∧ c < 5 := by omega
      go_upto_region 10 with fail
      rw [HWO.out, HOB.out]
      clear k0 k1 k2 kl
      have hobn : ob ≠ g ∧ ∀ b', q = some b' → b' ≠ ob := by
        have := HOB.out
        exact ⟨fun e => by have := hLglt; omega, fun b' e => by have := hLqlt b' e; omega⟩
      go_cut [39] from 25 to 204 (fun s39 wx => s39 = .int .i64 c ∧ wx = wo)
      case first =>
        go_wp2_with fail
        go_meet
        case rel => exact ⟨by rw [hc], rfl⟩
      case rest =>
        obtain ⟨rfl, rfl⟩ := hcut
        obtain ⟨wo, hwo⟩ : ∃ wo, wo = wc := ⟨_, rfl⟩
        subst hwo
        clear hx5a hx5b hc
        go_upto_block 2 with fail
        go_cut [3] from 25 to 204 (fun s3 wx => ∃ (g : Nat) (q : Option Nat) (St : List En) (n : Nat) (ao : Option Addr) (cap : Nat) (E : List En), s3 = .pointer (some ⟨g, 0, none⟩) ∧ n ≤ i + 1 ∧ LS w wx g q St n r ao cap E)
        case first =>
          rcases (show c = 0 ∨ c = 1 ∨ c = 2 ∨ c = 3 ∨ c = 4 by omega) with h5 | h5 | h5 | h5 | h5
          · subst h5
            exact case0_any hn' hin hni hobn Po hL (by unfold Left; assumption) (by assumption) (fun _ _ _ _ hd h => ⟨hd.symm.trans h.1, h.2⟩)
          · subst h5
            exact case1_any hn' hin hni hobn Po hL (by unfold Left; assumption) (by assumption) (fun _ _ _ _ hd h => ⟨hd.symm.trans h.1, h.2⟩)
          · subst h5
            exact case2_any hn' hin hni hobn Po hL (by unfold Left; assumption) (by assumption) (fun _ _ _ _ hd h => ⟨hd.symm.trans h.1, h.2⟩)
          · subst h5
            exact case3_any hn' hin hni hobn Po hL (by unfold Left; assumption) (by assumption) (fun _ _ _ _ hd h => ⟨hd.symm.trans h.1, h.2⟩)
          · subst h5
            exact case4_any hn' hin hni hobn Po hL (by unfold Left; assumption) (by assumption) (fun _ _ _ _ hd h => ⟨hd.symm.trans h.1, h.2⟩)
        case rest =>
          clear hL Po o0 o1 o2 hobn hLglt hLqlt
          obtain ⟨g, q, St, n, ao, cap, E, rfl, hn1, hL⟩ := hcut
          have c42 := hL.rq.blk.cell (j := 0) rfl
          obtain ⟨s, hs⟩ : ∃ s, (E).length = s := ⟨_, rfl⟩
          have hsS : (St).length = s := hL.len.trans hs
          rw [hs] at c42
          have c15 : ∀ m, Calls Try.prog 15 #[.pointer (some ⟨g, 0, none⟩)] (wc.drewN m) fun e w' => e = .returned (.int .i64 (s : Int)) ∧ w' = wc.drewN m := fun m => (qlen_any g q (St) n (wc.drewN m) (hL.qs.carry rfl (fun _ _ => rfl))).mono fun e w' ⟨he, hw⟩ => ⟨by rw [he, hsS], hw.symm⟩
          have LL : Hid _ := hL
          clear hL hs hsS
          go_wp2_with fail
          go_quiet (first | (go_at_call 15; exact Calls.quiet_of_same (c15 _)))
          clear c15 c42
          go_wp2_with fail
          go_roundw
          case rel => exact ⟨i + 1, g, q, (St), n, ao, cap, (E), rfl, by go_num, hin, by omega, LL.out.low (bel_drewN (Below.refl _ _) _)⟩
          case measure => simp [intOf]; omega
    · have bel := hL0.bel
      clear hL0
      go_wp2_with fail
      go_ret
      exact ⟨rfl, bel⟩
end Go.Proofs.Ytgimpolgagkffaa
