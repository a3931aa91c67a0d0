/- The walk of LevelPut. No condition but that what was given are levels in memory, and that the tables hold what the program's text lays. -/
import Derived.Test.YtogfmpjgmabomaaDoorWipeW
import Derived.Test.YtogfmpjgmabomaaDoorEvalLaw
import Derived.Deep.RegionHeld3
namespace Go.Proofs.YtogfmpjgmabomaaDoor
open Go.RowKit

theorem Lev.put_size (by_ : List Lev) (hb : ∀ x ∈ by_, x.size ≤ 64) (l : Lev) : (l.put by_).size ≤ l.size * 64 := by
  induction l with
  | zero => simp only [Lev.put, Lev.size]; omega
  | succ a ih => simp only [Lev.put, Lev.size]; omega
  | max a b iha ihb => simp only [Lev.put, Lev.size]; omega
  | imax a b iha ihb => simp only [Lev.put, Lev.size]; omega
  | par n =>
    simp only [Lev.put, Lev.size, List.getD_eq_getElem?_getD]
    cases h : by_[n]? with
    | none => simp [Lev.size]
    | some x => simpa using hb x (List.mem_of_getElem? h)
theorem levs_of_all (Ls : List Lv) (h : (Ls.all fun L => mayB L 4) = true) : ∃ ls : List Lev, Ls = ls.map Lev.lv ∧ ∀ x ∈ ls, x.size ≤ 64 := by
  induction Ls with
  | nil => exact ⟨[], rfl, fun _ h => by cases h⟩
  | cons x r ih =>
    simp only [List.all_cons, Bool.and_eq_true] at h
    obtain ⟨l, rfl, _, hs⟩ := fine_of_may h.1
    obtain ⟨ls, rfl, hr⟩ := ih h.2
    exact ⟨l :: ls, rfl, fun y hy => by rcases List.mem_cons.1 hy with rfl | hy; exact hs; exact hr y hy⟩

set_option maxRecDepth 100000 in
set_option maxHeartbeats 2000000 in
theorem putLaw_walk (L : Lv) (Ls : List Lv) (a : Option Addr) (cap : Nat) (w : World) (v : Value) (hT : Tabs w) (hin : In w (· < w.heap.size) L v) (hN : Node w (· < w.heap.size) 0 0 Ls a cap) :
    Calls Tryd.prog 8 #[v, .slice a Ls.length cap] w fun e w' => e = .returned (.bool true) ∧ Below w.heap.size w w' := by
  obtain ⟨k0, n0, a0, len0, cap0, rfl⟩ := hin.shape
  have hlt := hT.lt
  have hle := hN.le
  have hmx := hN.max
  obtain ⟨w1, hw1, hb1, P1, hs1⟩ := one_new w [.int .i64 k0, .int .i64 n0, .slice a0 len0 cap0] 24
  have hbg := begun_any w1 (hT.on hb1)
  have hlight : ∀ w2, Below w.heap.size w w2 → ∃ w3, w2.alloc (.cells #[.int .i64 k0, .int .i64 n0, .slice a0 len0 cap0] 24) = w3 ∧ Below w2.heap.size w2 w3 ∧ Calls Tryd.prog 12 #[.slice (some ⟨w2.heap.size, 0, none⟩) 1 1] w3 fun e w' => e = .returned (.bool (mayB L 4)) ∧ Below w3.heap.size w3 w' := fun w2 h2 => by
    obtain ⟨w3, hw3, hb3, X3, _⟩ := one_new w2 [.int .i64 k0, .int .i64 n0, .slice a0 len0 cap0] 24
    have := light_any [L] _ 1 w3 w3.heap.size (Nat.le_refl _) (node_one ((hin.below h2 (Nat.le_refl _)).up h2.size) hb3 X3)
    simp only [List.all_cons, List.all_nil, Bool.and_true] at this
    exact ⟨w3, hw3, hb3, this⟩
  have hmany : ∀ w2, Below w.heap.size w w2 → Calls Tryd.prog 12 #[.slice a Ls.length cap] w2 fun e w' => e = .returned (.bool (Ls.all fun L => mayB L 4)) ∧ Below w2.heap.size w2 w' := fun w2 h2 =>
    light_any Ls a cap w2 w.heap.size h2.size (hN.below h2 (Nat.le_refl _))
  have ARM : ∀ w2, Below w1.heap.size w1 w2 → Below w.heap.size w w2 ∧ Blk w2 w.heap.size 24 [.int .i64 k0, .int .i64 n0, .slice a0 len0 cap0] := fun w2 h2 => ⟨hb1.trans (h2.mono (by omega)), P1.below h2 (by omega)⟩
  by_cases h6 : 6 < Ls.length
  · go_enter Tryd.func8, Tryd.ntmps8
    go_wp2_with (go_at_call 9; go_must (refine hbg.mono ?_); rintro e w2 ⟨rfl, hb2⟩)
    go_ret
    exact ⟨rfl, (ARM w2 hb2).1⟩
  · cases hmay : mayB L 4 with
    | false =>
      rw [hmay] at hlight
      go_enter Tryd.func8, Tryd.ntmps8
      go_wp2_with (first
        | (go_at_call 9; go_must (refine hbg.mono ?_); rintro e w2 ⟨rfl, hb2⟩; obtain ⟨hb02, P2⟩ := ARM w2 hb2; have p0 := P2.cell (j := 0) rfl; have p1 := P2.cell (j := 1) rfl; have p2 := P2.cell (j := 2) rfl; obtain ⟨w3, hw3, hb3, hc3⟩ := hlight w2 hb02)
        | (go_at_call 12; go_must (refine hc3.mono ?_); rintro e w4 ⟨rfl, hb4⟩))
      go_ret
      exact ⟨rfl, (hb02.trans (hb3.mono hb02.size)).trans (hb4.mono (Nat.le_trans hb02.size hb3.size))⟩
    | true =>
      rw [hmay] at hlight
      cases hall : (Ls.all fun L => mayB L 4) with
      | false =>
        rw [hall] at hmany
        go_enter Tryd.func8, Tryd.ntmps8
        go_wp2_with (first
          | (go_at_call 9; go_must (refine hbg.mono ?_); rintro e w2 ⟨rfl, hb2⟩; obtain ⟨hb02, P2⟩ := ARM w2 hb2; have p0 := P2.cell (j := 0) rfl; have p1 := P2.cell (j := 1) rfl; have p2 := P2.cell (j := 2) rfl; obtain ⟨w3, hw3, hb3, hc3⟩ := hlight w2 hb02)
          | (go_at_call_of 12 w2.heap.size; refine hc3.mono ?_; rintro e w4 ⟨rfl, hb4⟩; have hb04 := (hb02.trans (hb3.mono hb02.size)).trans (hb4.mono (Nat.le_trans hb02.size hb3.size)))
          | (go_at_call_of 12 Ls.length; refine (hmany w4 hb04).mono ?_; rintro e w5 ⟨rfl, hb5⟩))
        go_ret
        exact ⟨rfl, hb04.trans (hb5.mono hb04.size)⟩
      | true =>
        rw [hall] at hmany
        obtain ⟨l, hl, hf, hs64⟩ := fine_of_may hmay
        obtain ⟨ls, hls, hss⟩ := levs_of_all Ls hall
        have hps : (l.put ls).size ≤ 65536 := by have := Lev.put_size ls hss l; omega
        have HL : Hid (L = l.lv ∧ Ls = ls.map Lev.lv ∧ Ls.length = ls.length) := ⟨hl, hls, by rw [hls]; simp⟩
        clear hl hls
        have cPut : ∀ w2, Below w.heap.size w w2 → Calls Tryd.prog 28 #[.agg #[.int .i64 k0, .int .i64 n0, .slice a0 len0 cap0], .slice a Ls.length cap] w2 fun e w' => ∃ v, e = .returned v ∧ Own w' (w2.heap.size ≤ ·) (l.put ls).lv v ∧ Below w2.heap.size w2 w' := fun w2 h2 => by
          have := Put_any l ls w2 w.heap.size _ a cap h2.size hps (by rw [← HL.out.1]; exact hin.below h2 (Nat.le_refl _)) (by rw [← HL.out.2.1]; exact hN.below h2 (Nat.le_refl _))
          rw [← HL.out.2.2] at this
          exact this
        have cRPut : ∀ w2, Below w.heap.size w w2 → Calls Tryd.prog 29 #[.agg #[.int .i64 k0, .int .i64 n0, .slice a0 len0 cap0], .slice a Ls.length cap] w2 fun e w' => ∃ v, e = .returned v ∧ In w' (fun b => w2.heap.size ≤ b ∧ b < w'.heap.size) (l.put ls).lv v ∧ Below w2.heap.size w2 w' := fun w2 h2 => by
          have := rput_any ls l w2 w.heap.size _ a cap h2.size (by rw [← HL.out.1]; exact hin.below h2 (Nat.le_refl _)) (by rw [← HL.out.2.1]; exact hN.below h2 (Nat.le_refl _))
          rw [Lev.put_lv, List.length_map, ← HL.out.2.2] at this
          exact this
        have cEq : ∀ w2 va vb, In w2 (· < w2.heap.size) (l.put ls).lv va → In w2 (· < w2.heap.size) (l.put ls).lv vb → Calls Tryd.prog 24 #[va, vb] w2 fun e w' => e = .returned (.bool true) ∧ Below w2.heap.size w2 w' := fun w2 va vb ha hb => by
          have := req_any (l.put ls).lv (l.put ls).lv w2 w2.heap.size va vb (Nat.le_refl _) ha hb
          rw [Lv.eqB_refl] at this
          exact this
        clear hps hmay hall hf hs64 hss
        go_enter Tryd.func8, Tryd.ntmps8
        go_wp2_with (first
          | (go_at_call 9; go_must (refine hbg.mono ?_); rintro e w2 ⟨rfl, hb2⟩; obtain ⟨hb02, P2⟩ := ARM w2 hb2; have p0 := P2.cell (j := 0) rfl; have p1 := P2.cell (j := 1) rfl; have p2 := P2.cell (j := 2) rfl; obtain ⟨w3, hw3, hb3, hc3⟩ := hlight w2 hb02)
          | (go_at_call_of 12 w2.heap.size; refine hc3.mono ?_; rintro e w4 ⟨rfl, hb4⟩; have hb04 := (hb02.trans (hb3.mono hb02.size)).trans (hb4.mono (Nat.le_trans hb02.size hb3.size)))
          | (go_at_call_of 12 Ls.length; refine (hmany w4 hb04).mono ?_; rintro e w5 ⟨rfl, hb5⟩; have hb05 := hb04.trans (hb5.mono hb04.size); have P5 := ((P2.below hb3 P2.lt).below hb4 (Nat.lt_of_lt_of_le P2.lt hb3.size)).below hb5 (Nat.lt_of_lt_of_le P2.lt (Nat.le_trans hb3.size hb4.size)); have o0 := P5.cell (j := 0) rfl; have o1 := P5.cell (j := 1) rfl; have o2 := P5.cell (j := 2) rfl; clear hlight hmany hc3 p0 p1 p2)
          | (go_at_call 28; refine (cPut w5 hb05).mono ?_; rintro e w6 ⟨vx, rfl, ox, hb6⟩; obtain ⟨kx, nx, ax, lx, cx, rfl⟩ := ox.shape; obtain ⟨w7, hw7, hb7, X7, -⟩ := one_new w6 [.int .i64 kx, .int .i64 nx, .slice ax lx cx] 24; have hz6 := hb6.size; have hz7 := hb7.size; have hb07 := (hb05.trans (hb6.mono hb05.size)).trans (hb7.mono (Nat.le_trans hb05.size hz6)); have P7 := (P5.below hb6 P5.lt).below hb7 (Nat.lt_of_lt_of_le P5.lt hz6); have u0 := P7.cell (j := 0) rfl; have u1 := P7.cell (j := 1) rfl; have u2 := P7.cell (j := 2) rfl)
          | (go_at_call 29; refine (cRPut w7 hb07).mono ?_; rintro e w8 ⟨vy, rfl, iy, hb8⟩; obtain ⟨ky, ny, ay, ly, cy, rfl⟩ := iy.shape; obtain ⟨w9, hw9, hb9, Y9, -⟩ := one_new w8 [.int .i64 ky, .int .i64 ny, .slice ay ly cy] 24; have hz8 := hb8.size; have hz9 := hb9.size; have hb79 := hb8.trans (hb9.mono hz8); have X9 := X7.below hb79 X7.lt; have P9 := P7.below hb79 P7.lt; have s0 := X9.cell (j := 0) rfl; have s1 := X9.cell (j := 1) rfl; have s2 := X9.cell (j := 2) rfl; have t0 := Y9.cell (j := 0) rfl; have t1 := Y9.cell (j := 1) rfl; have t2 := Y9.cell (j := 2) rfl)
          | (go_at_call 24; refine (cEq w9 _ _ (((ox.low.below hb7 (Nat.le_refl _)).below hb79 hz7).up (Nat.le_trans hz7 (Nat.le_trans hz8 hz9))) (((fresh_low iy).below hb9 (Nat.le_refl _)).up hz9)).mono ?_; rintro e w10 ⟨rfl, hb10⟩; have hz10 := hb10.size; have X10 := X9.below hb10 X9.lt; have Y10 := Y9.below hb10 Y9.lt; have P10 := P9.below hb10 P9.lt; have r0 := X10.cell (j := 0) rfl; have r1 := X10.cell (j := 1) rfl; have r2 := X10.cell (j := 2) rfl; have hb610 : Below w6.heap.size w6 w10 := (hb7.trans (hb79.mono hz7)).trans (hb10.mono (Nat.le_trans hz7 (Nat.le_trans hz8 hz9))); have cW := wipe_any _ (fun b => w5.heap.size ≤ b ∧ b < w6.heap.size) _ w10 _ (Nat.le_refl _) (fun b hb => Nat.lt_of_lt_of_le hb.2 hb610.size) (Own.carry (fun b _ hlt => hb610.block b hlt) (fun b h hlt => ⟨h, hlt⟩) _ _ ox))
          | (go_at_call 30; refine cW.mono ?_; rintro e w11 ⟨rfl, hW⟩))
        clear cW
        have hx := X7.lt
        have hy := Y9.lt
        have hpl := P5.lt
        have hz05 := hb05.size
        have hz02 := hb02.size
        have hz23 := hb3.size
        have hz34 := hb4.size
        have hz45 := hb5.size
        have hz11 := hW.keep.size
        have hb011 : Below w.heap.size w w11 := ((hb07.trans (hb79.mono (by omega))).trans (hb10.mono (by omega))).trans (hW.keep.below (by omega) (by omega))
        have P11 := P10.keep hW.keep (by omega)
        have Y11 := Y10.keep hW.keep (by omega)
        have hwant : In w11 (· < w11.heap.size) (l.put ls).lv (.agg #[.int .i64 ky, .int .i64 ny, .slice ay ly cy]) :=
          In.carry (fun b hb => (hW.keep.block b (by omega) (by omega)).trans ((hb10.block b (by omega)).trans (hb9.block b (by omega)))) (fun b hb => by omega) _ _ iy
        have hkeep : ∀ w', Below w11.heap.size w11 w' → w'.cell? ⟨w.heap.size, 0, none⟩ = some (.int .i64 k0) ∧ w'.cell? ⟨w.heap.size, 1, none⟩ = some (.int .i64 n0) ∧ w'.cell? ⟨w.heap.size, 2, none⟩ = some (.slice a0 len0 cap0) ∧ w'.cell? ⟨w8.heap.size, 0, none⟩ = some (.int .i64 ky) ∧ w'.cell? ⟨w8.heap.size, 1, none⟩ = some (.int .i64 ny) ∧ w'.cell? ⟨w8.heap.size, 2, none⟩ = some (.slice ay ly cy) := fun w' h =>
          ⟨(P11.below h P11.lt).cell (j := 0) rfl, (P11.below h P11.lt).cell (j := 1) rfl, (P11.below h P11.lt).cell (j := 2) rfl, (Y11.below h Y11.lt).cell (j := 0) rfl, (Y11.below h Y11.lt).cell (j := 1) rfl, (Y11.below h Y11.lt).cell (j := 2) rfl⟩
        have h0d : Below w11.heap.size w11 w11.drew := (Below.refl _ _).drew
        have cP := cRPut w11.drew hb011.drew
        have cE := cEq
        clear cPut cRPut cEq ox iy X7 X9 X10 Y9 Y10 P5 P7 P9 P10 P11 Y11 hW o0 o1 o2 u0 u1 u2 s0 s1 s2 t0 t1 t2 r0 r1 r2 hb610 P1 P2 ARM hbg
        go_region_held3 (fun w' => w'.cell? ⟨w.heap.size, 0, none⟩ = some (.int .i64 k0) ∧ w'.cell? ⟨w.heap.size, 1, none⟩ = some (.int .i64 n0) ∧ w'.cell? ⟨w.heap.size, 2, none⟩ = some (.slice a0 len0 cap0) ∧ w'.cell? ⟨w8.heap.size, 0, none⟩ = some (.int .i64 ky) ∧ w'.cell? ⟨w8.heap.size, 1, none⟩ = some (.int .i64 ny) ∧ w'.cell? ⟨w8.heap.size, 2, none⟩ = some (.slice ay ly cy)) (first | with_reducible exact hkeep _ h0d | with_reducible exact hkeep _ h12 | with_reducible exact hkeep _ h13)
          (first
          | (go_at_call 29; refine cP.mono ?_; rintro e w12 ⟨v12, rfl, i12, d12⟩; obtain ⟨k12, n12, a12, l12, c12, rfl⟩ := i12.shape; have h12 := h0d.trans (d12.mono h0d.size))
          | (go_at_call 24; refine (cE w12 _ _ (fresh_low i12) ((hwant.below h12 (Nat.le_refl _)).up h12.size)).mono ?_; rintro e w13 ⟨rfl, d13⟩; have h13 := h12.trans (d13.mono h12.size)))
        all_goals
          go_wp2_with fail
          go_ret
          exact ⟨rfl, hb011.trans (h13.mono hb011.size)⟩
end Go.Proofs.YtogfmpjgmabomaaDoor
