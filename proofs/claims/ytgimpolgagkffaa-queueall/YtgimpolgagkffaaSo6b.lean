/- xorshift's Next: a number of 64 bits; breakPatterns over a queue's row. No condition but sizes. -/
import Derived.Test.YtgimpolgagkffaaSo6
import Derived.Laws.Bits64
import Derived.Laws.Bits64b
namespace Go.Proofs.Ytgimpolgagkffaa
open Go.RowKit

theorem xor_rng (a b : Int) (ha : 0 ≤ a) (ha9 : a < 18446744073709551616) (hb : 0 ≤ b) (hb9 : b < 18446744073709551616) : 0 ≤ bits BinOp.xor IntKind.u64 a b ∧ bits BinOp.xor IntKind.u64 a b < 18446744073709551616 := by
  obtain ⟨a, rfl⟩ := Int.eq_ofNat_of_zero_le ha
  obtain ⟨b, rfl⟩ := Int.eq_ofNat_of_zero_le hb
  rw [bits_xor_u64_nat a b (by omega) (by omega)]
  have hx : a ^^^ b < 2 ^ 64 := Nat.xor_lt_two_pow (by omega) (by omega)
  omega

theorem wrap_rng (a : Int) : 0 ≤ IntKind.u64.wrap a ∧ IntKind.u64.wrap a < 18446744073709551616 := by
  simp [IntKind.wrap, IntKind.bits, IntKind.signed]; omega

set_option maxRecDepth 100000 in
set_option maxHeartbeats 2000000 in
theorem next_any (s : Nat) (c : Int) (w : World) (h : Blk w s 98 [.int .u64 c]) (h0 : 0 ≤ c) (h9 : c < 18446744073709551616) : Calls Try.prog 46 #[.pointer (some ⟨s, 0, none⟩)] w fun e w' => ∃ v : Int, e = .returned (.int .u64 v) ∧ 0 ≤ v ∧ v < 18446744073709551616 ∧ Blk w' s 98 [.int .u64 v] ∧ Keep w w' (· = s) := by
  have c0 := h.cell (j := 0) rfl
  have f0 := h.frozen 0
  have l0 := h.lt
  go_enter Try.func46, Try.ntmps46
  go_wp2_with fail
  go_region
  obtain ⟨c1, hc1⟩ : ∃ c1, bits BinOp.xor IntKind.u64 c (IntKind.u64.wrap (c * 8192)) = c1 := ⟨_, rfl⟩
  have r1 : 0 ≤ c1 ∧ c1 < 18446744073709551616 := by rw [← hc1]; exact xor_rng _ _ h0 h9 (wrap_rng _).1 (wrap_rng _).2
  rw [hc1]
  obtain ⟨w1, hw1, B1, K1⟩ : ∃ w1, (w.setCell ⟨s, 0, none⟩ (.int .u64 c1)).drew = w1 ∧ Blk w1 s 98 [.int .u64 c1] ∧ Keep w w1 (· = s) := ⟨_, rfl, (h.set 0 _).drew, (Keep.setCell (Keep.refl w (· = s)) (g := s) (fun _ => rfl) _ _).drew⟩
  rw [hw1]
  clear hw1 hc1 c0 f0 l0
  have c0 := B1.cell (j := 0) rfl
  have f0 := B1.frozen 0
  have l0 := B1.lt
  go_wp2_with fail
  go_region
  obtain ⟨c2, hc2⟩ : ∃ c2, bits BinOp.xor IntKind.u64 c1 (c1 / 128) = c2 := ⟨_, rfl⟩
  have r2 : 0 ≤ c2 ∧ c2 < 18446744073709551616 := by rw [← hc2]; exact xor_rng _ _ r1.1 r1.2 (by omega) (by omega)
  rw [hc2]
  obtain ⟨w2, hw2, B2, K2⟩ : ∃ w2, (w1.setCell ⟨s, 0, none⟩ (.int .u64 c2)).drew = w2 ∧ Blk w2 s 98 [.int .u64 c2] ∧ Keep w w2 (· = s) := ⟨_, rfl, (B1.set 0 _).drew, (Keep.setCell K1 (g := s) (fun _ => rfl) _ _).drew⟩
  rw [hw2]
  clear hw2 hc2 c0 f0 l0 B1 K1
  have c0 := B2.cell (j := 0) rfl
  have f0 := B2.frozen 0
  have l0 := B2.lt
  go_wp2_with fail
  go_region
  obtain ⟨c3, hc3⟩ : ∃ c3, bits BinOp.xor IntKind.u64 c2 (IntKind.u64.wrap (c2 * 131072)) = c3 := ⟨_, rfl⟩
  have r3 : 0 ≤ c3 ∧ c3 < 18446744073709551616 := by rw [← hc3]; exact xor_rng _ _ r2.1 r2.2 (wrap_rng _).1 (wrap_rng _).2
  rw [hc3]
  obtain ⟨w3, hw3, B3, K3⟩ : ∃ w3, (w2.setCell ⟨s, 0, none⟩ (.int .u64 c3)).drew = w3 ∧ Blk w3 s 98 [.int .u64 c3] ∧ Keep w w3 (· = s) := ⟨_, rfl, (B2.set 0 _).drew, (Keep.setCell K2 (g := s) (fun _ => rfl) _ _).drew⟩
  rw [hw3]
  clear hw3 hc3 c0 f0 l0 B2 K2
  have c0 := B3.cell (j := 0) rfl
  have f0 := B3.frozen 0
  have l0 := B3.lt
  go_wp2_with fail
  go_ret
  exact ⟨c3, rfl, r3.1, r3.2, B3, K3⟩

theorem and_rng (a b : Int) (ha : 0 ≤ a) (ha9 : a < 18446744073709551616) (hb : 0 ≤ b) (hb9 : b < 18446744073709551616) : 0 ≤ bits BinOp.and IntKind.u64 a b ∧ bits BinOp.and IntKind.u64 a b ≤ b := by
  obtain ⟨a, rfl⟩ := Int.eq_ofNat_of_zero_le ha
  obtain ⟨b, rfl⟩ := Int.eq_ofNat_of_zero_le hb
  rw [bits_and_u64_nat a b (by omega) (by omega)]
  have hx : a &&& b ≤ b := Nat.and_le_right
  omega

/-- The cell of random numbers lies in block s, apart from the row. -/
structure RC (w0 : World) (b cap n : Nat) (L : List En) (s : Nat) (w : World) (c : Int) : Prop where
  pr : PR w0 b cap n L w
  new : w0.heap.size ≤ s
  blk : Blk w s 98 [.int .u64 c]
  ne : s ≠ b
  c0 : 0 ≤ c
  c9 : c < 18446744073709551616

theorem RC.next {w0 w w' : World} {b cap n : Nat} {L : List En} {s : Nat} {c d : Int} (h : RC w0 b cap n L s w c) (h0 : 0 ≤ d) (h9 : d < 18446744073709551616) (hB : Blk w' s 98 [.int .u64 d]) (hK : Keep w w' (· = s)) : RC w0 b cap n L s w' d := by
  obtain ⟨hn, L', hp, hr, hk⟩ := h.pr
  exact ⟨⟨hn, L', hp, hr.carry (hK.block b hr.lt (fun e => h.ne e.symm)), hk.trans hK (fun i hi e => by have := h.new; omega)⟩, h.new, hB, h.ne, h0, h9⟩

/-- Swap beside a cell of one's own. -/
theorem swap_r {w0 : World} {b cap n : Nat} {L : List En} {s : Nat} {c : Int} (i j : Int) (wr : World) (h : RC w0 b cap n L s wr c) (hi : 0 ≤ i) (hi' : i < (n : Int)) (hj : 0 ≤ j) (hj' : j < (n : Int)) :
    Calls Try.prog 68 #[.slice (some ⟨b, 0, none⟩) n cap, .int .i64 i, .int .i64 j] wr fun e w' => e = .returned (.tuple #[]) ∧ RC w0 b cap n L s w' c := by
  obtain ⟨hn, L', hp, hr, hk⟩ := h.pr
  obtain ⟨i, rfl⟩ := Int.eq_ofNat_of_zero_le hi
  obtain ⟨j, rfl⟩ := Int.eq_ofNat_of_zero_le hj
  have hl : L'.length = n := hp.length_eq.trans hn
  have := swap_any b cap L' i j wr hr (by omega) (by omega)
  rw [hl] at this
  exact this.mono fun e w' ⟨he, hr', hk'⟩ => ⟨he, ⟨hn, _, (swp_perm (by omega) (by omega)).trans hp, hr', hk.trans hk' (fun _ _ e => e)⟩, h.new, h.blk.keep hk' h.ne, h.ne, h.c0, h.c9⟩

set_option maxRecDepth 100000 in
set_option maxHeartbeats 4000000 in
theorem brk_any (b cap n : Nat) (L : List En) (x y : Int) (w0 w : World) (h : PR w0 b cap n L w) (hx : 0 ≤ x) (hxy : x + 13 ≤ y) (hy : y ≤ (n : Int)) (hm : n ≤ 256) :
    Calls Try.prog 38 #[.iface 49 (.slice (some ⟨b, 0, none⟩) n cap), .int .i64 x, .int .i64 y] w fun e w' => e = .returned (.tuple #[]) ∧ PR w0 b cap n L w' := by
  have e68 := e68
  have mS := m_swapV b n cap
  obtain ⟨l, HL⟩ : ∃ l : Nat, Hid (y - x = (l : Int)) := ⟨(y - x).toNat, show y - x = _ by omega⟩
  have hl0 : y - x = (l : Int) := HL.out
  have hl13 : 13 ≤ l := by omega
  have hl9 : l ≤ 256 := by omega
  have hlx : x + (l : Int) ≤ (n : Int) := by omega
  obtain ⟨q, hq⟩ : ∃ q : Int, (l : Int).tdiv 4 = q := ⟨_, rfl⟩
  have hq0 : 3 ≤ q ∧ q * 4 ≤ (l : Int) := by
    rw [← hq, Int.tdiv_eq_ediv_of_nonneg (by omega)]; omega
  obtain ⟨w1, hw1, hb1, P1, hs1⟩ := one_new w [.int .u64 (l : Int)] 98
  have h1 : RC w0 b cap n L w.heap.size w1 (l : Int) := ⟨h.low hb1, h.size, P1, by have := h.lt; omega, by omega, by omega⟩
  have HW : Hid _ := hw1
  clear hw1
  have c45 := npt_any l w1 hl9 hl13
  go_enter Try.func38, Try.ntmps38
  go_wp2_with fail
  rw [HW.out]
  refine c45.mono ?_
  rintro e _ ⟨m, rfl, hm2, hm1, rfl⟩
  clear c45 h
  have hm512 : m ≤ 512 := by omega
  go_wp2_with fail
  go_loopw [9] (fun vi wr => ∃ (i c : Int), vi = .int .i64 i ∧ x + q * 2 - 1 ≤ i ∧ i ≤ x + q * 2 + 2 ∧ RC w0 b cap n L w.heap.size wr c) (fun vi _ => (x + q * 2 + 2 - intOf vi).toNat)
  case atStart => exact ⟨x + q * 2 - 1, _, by go_num, by omega, by omega, h1⟩
  case round =>
    clear h1 P1
    obtain ⟨i, c, rfl, hi, hi9, hR⟩ := hrel
    by_cases hiq : i ≤ x + q * 2 + 1
    · go_wp2_with fail
      refine (next_any w.heap.size c wr hR.blk hR.c0 hR.c9).mono ?_
      rintro e w2 ⟨v, rfl, hv0, hv9, hB2, hK2⟩
      have hR2 := hR.next hv0 hv9 hB2 hK2
      clear hR hB2 hK2
      obtain ⟨o, ho⟩ : ∃ o, bits BinOp.and IntKind.u64 v ((m : Int) - 1) = o := ⟨_, rfl⟩
      have ho0 := and_rng v ((m : Int) - 1) hv0 hv9 (by omega) (by omega)
      rw [ho] at ho0
      obtain ⟨ho0, ho9⟩ := ho0
      by_cases hol : (l : Int) ≤ o
      · go_wp2_with fail
        refine (swap_r i (x + (o - (l : Int))) w2 hR2 (by omega) (by omega) (by omega) (by omega)).mono ?_
        rintro e w3 ⟨rfl, hR3⟩
        clear hR2
        go_wp2_with fail
        go_roundw
        case rel => exact ⟨i + 1, v, by go_num, by omega, by omega, hR3⟩
        case measure => simp [intOf]; omega
      · go_wp2_with fail
        refine (swap_r i (x + o) w2 hR2 (by omega) (by omega) (by omega) (by omega)).mono ?_
        rintro e w3 ⟨rfl, hR3⟩
        clear hR2
        go_wp2_with fail
        go_roundw
        case rel => exact ⟨i + 1, v, by go_num, by omega, by omega, hR3⟩
        case measure => simp [intOf]; omega
    · go_wp2_with fail
      go_end0
      exact ⟨rfl, hR.pr⟩
end Go.Proofs.Ytgimpolgagkffaa
