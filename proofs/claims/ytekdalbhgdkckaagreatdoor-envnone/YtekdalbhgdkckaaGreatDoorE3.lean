/- The walk of env's weigh, of one declaration without lists. No condition but that the declaration has no lists. -/
import Derived.Test.YtekdalbhgdkckaaGreatDoorE2
import Derived.Laws.ResultCell
namespace Go.Proofs.YtekdalbhgdkckaaGreatDoor
open Go.RowKit

theorem new_oneE (w : World) (l : List Value) (t : TypeId) : ∃ w1, w.alloc (.cells l.toArray t) = w1 ∧ Below w.heap.size w w1 ∧ Blk w1 w.heap.size t l ∧ w1.heap.size = w.heap.size + 1 :=
  ⟨_, rfl, (Below.refl _ _).alloc (Nat.le_refl _) _, Blk.new _ _ _, by simp⟩

theorem Blk.on {w w' : World} {g : Nat} {t : TypeId} {l : List Value} (h : Blk w g t l) (hb : Below w.heap.size w w') : Blk w' g t l := h.below hb h.lt

set_option maxRecDepth 100000 in
set_option maxHeartbeats 1000000 in
theorem weigh_any (p cap b : Nat) (k most : Int) (s : ByteArray) (w : World) (hm0 : 240 ≤ most) (hm1 : most ≤ 2147483647) (hp : w.cell? ⟨p, 0, none⟩ = some (.pointer (some ⟨b, 0, none⟩))) (hB : Blk w b 32 (dcl k s)) :
    Calls Tryz.prog 26 #[.slice (some ⟨p, 0, none⟩) 1 cap, .int .i64 most] w fun e w' => e = .returned (.tuple #[.agg #[.int .i64 0, .int .i64 0, .int .i64 0], .bool true]) ∧ Below w.heap.size w w' := by
  obtain ⟨w1, hw1, hb1, R1, hs1⟩ := new_oneE w [.int .i64 0, .int .i64 0, .int .i64 0] 64
  obtain ⟨w2, hw2, hb2, I2, hs2⟩ := new_oneE w1 [.int .i64 (most - 240)] 3
  rw [hs1] at I2 hs2
  obtain ⟨w3, hw3, hb3, C3, hs3⟩ := new_oneE w2 [.int .i64 0, .int .i64 96, .pointer (some ⟨w.heap.size + 1, 0, none⟩), .slice none 0 0] 79
  rw [hs2] at C3 hs3
  obtain ⟨w4, hw4, hb4, T4, hs4⟩ := new_oneE w3 [.int .i64 0, .int .i64 80, .pointer (some ⟨w.heap.size + 1, 0, none⟩), .slice none 0 0] 82
  rw [hs3] at T4 hs4
  obtain ⟨w5, hw5, hb5, L5, hs5⟩ := new_oneE w4 [.int .i64 0, .int .i64 40, .pointer (some ⟨w.heap.size + 1, 0, none⟩), .slice none 0 0] 85
  rw [hs4] at L5 hs5
  obtain ⟨w6, hw6, hb6, K6, hs6⟩ := new_oneE w5 (lookV (w.heap.size + 1 + 1) (w.heap.size + 1 + 1 + 1) (w.heap.size + 1 + 1 + 1 + 1)) 94
  rw [hs5] at K6 hs6
  have b6 : Below w.heap.size w w6 := (((((hb1.trans (hb2.mono hb1.size)).trans (hb3.mono (by omega))).trans (hb4.mono (by omega))).trans (hb5.mono (by omega))).trans (hb6.mono (by omega)))
  have R6 := ((((R1.on hb2).on hb3).on hb4).on hb5).on hb6
  have I6 := (((I2.on hb3).on hb4).on hb5).on hb6
  have C6 := ((C3.on hb4).on hb5).on hb6
  have T6 := (T4.on hb5).on hb6
  have L6 := L5.on hb6
  have B6 := hB.on b6
  have p6 := (World.cell?_of_block (w := w) (w' := w6) (b6.block p (World.block_lt_of_cell? w _ hp))).trans hp
  have lw : w.heap.size < w6.heap.size := by omega
  have H1 : Hid _ := hw1
  have H2 : Hid _ := hw2
  have H3 : Hid _ := hw3
  have H4 : Hid _ := hw4
  have H5 : Hid _ := hw5
  have H6 : Hid _ := hw6
  clear hw1 hw2 hw3 hw4 hw5 hw6 hs1 hs2 hs3 hs4 hs5 hs6 hb1 hb2 hb3 hb4 hb5 hb6 R1 I2 C3 T4 L5 hB hp
  unfold lookV at H6
  have hrs : ∀ (w : World) (a : Addr) (f : Nat) (x : Value), (store a (Value.func (Fn.func f) #[x] #[])).run Tryz.prog w = _ := fun w a f x => run_store Tryz.prog w a (.func (.func f) #[x] #[]) .plain rfl
  go_enter Tryz.func26, Tryz.ntmps26
  go_wp2_with fail
  rw [H1.out, H2.out, H3.out, H4.out, H5.out]
  clear H1 H2 H3 H4 H5
  go_wp2_with fail
  rw [H6.out]
  clear H6
  go_wp2_with fail
  go_loopw [27] (fun vi wr => ∃ i : Nat, vi = .int .i64 (i : Int) ∧ i ≤ 1 ∧ Below w6.heap.size w6 wr) (fun vi _ => 1 - (intOf vi).toNat)
  case atStart => exact ⟨0, rfl, by omega, Below.refl _ _⟩
  case round =>
    obtain ⟨i, rfl, hi, hbr⟩ := hrel
    have Kr := K6.on hbr
    have Br := B6.on hbr
    have pr := (World.cell?_of_block (w := w6) (w' := wr) (hbr.block p (World.block_lt_of_cell? w6 _ p6))).trans p6
    by_cases hi1 : i < 1
    · obtain rfl : i = 0 := by omega
      have c36 := ldecl_any (w.heap.size + 1 + 1) (w.heap.size + 1 + 1 + 1) (w.heap.size + 1 + 1 + 1 + 1) b k s wr Br
      have x0 := Kr.cell (j := 0) rfl
      have x1 := Kr.cell (j := 1) rfl
      have x2 := Kr.cell (j := 2) rfl
      unfold lookV at c36
      clear Kr Br K6 B6 p6 R6 I6 C6 T6 L6
      go_wp2_with fail
      refine c36.mono ?_
      rintro e w7 ⟨rfl, hb7⟩
      clear c36 x0 x1 x2 pr
      go_wp2_with fail
      go_roundw
      case rel => exact ⟨1, rfl, by omega, hbr.trans (hb7.mono hbr.size)⟩
      case measure => simp [intOf]
    · obtain rfl : i = 1 := by omega
      have x0 := Kr.cell (j := 0) rfl
      have x1 := Kr.cell (j := 1) rfl
      have x2 := Kr.cell (j := 2) rfl
      have Cr := C6.on hbr
      have Tr' := T6.on hbr
      have Lr := L6.on hbr
      have i0 := (I6.on hbr).cell (j := 0) rfl
      have y0 := Cr.cell (j := 0) rfl
      have y1 := Tr'.cell (j := 0) rfl
      have y2 := Lr.cell (j := 0) rfl
      have Rr := R6.on hbr
      have bel : Below w.heap.size w wr := b6.trans (hbr.mono (Nat.le_of_lt lw))
      have rf0 := Rr.frozen 0
      have rf1 := Rr.frozen 1
      have rf2 := Rr.frozen 2
      clear Kr Br K6 B6 p6 R6 I6 C6 T6 L6 pr hbr b6
      go_wp2_with (first
        | (go_at_call 37; refine (lfin37 (w.heap.size + 1 + 1) _ _ _ _ wr Cr).mono ?_; rintro e _ ⟨rfl, rfl⟩)
        | (go_at_call 39; refine (lfin39 (w.heap.size + 1 + 1 + 1) _ _ _ _ wr Tr').mono ?_; rintro e _ ⟨rfl, rfl⟩)
        | (go_at_call 41; refine (lfin41 (w.heap.size + 1 + 1 + 1 + 1) _ _ _ _ wr Lr).mono ?_; rintro e _ ⟨rfl, rfl⟩))
      have hge : decide (0 ≤ most - 240) = true := by simp; omega
      have bel' : ∀ x y z : Value, Below w.heap.size w (((wr.setCell ⟨w.heap.size, 0, none⟩ x).setCell ⟨w.heap.size, 1, none⟩ y).setCell ⟨w.heap.size, 2, none⟩ z) := fun x y z => ((bel.setCell (Nat.le_refl _) x).setCell (Nat.le_refl _) y).setCell (Nat.le_refl _) z
      have z0 := Rr.cell (j := 0) rfl
      have z1 := Rr.cell (j := 1) rfl
      have z2 := Rr.cell (j := 2) rfl
      clear Rr Cr Tr' Lr
      go_region
      all_goals
        go_wp2_with fail
        refine bodyPost_ret (v := .tuple #[.agg #[.int .i64 0, .int .i64 0, .int .i64 0], .bool true]) ?_ rfl ⟨rfl, (bel' _ _ _).trans ⟨rfl, rfl, rfl, Nat.le_refl _, fun _ _ => rfl⟩⟩
        rw [results_cell_tmp rfl]
        go_simp
end Go.Proofs.YtekdalbhgdkckaaGreatDoor
