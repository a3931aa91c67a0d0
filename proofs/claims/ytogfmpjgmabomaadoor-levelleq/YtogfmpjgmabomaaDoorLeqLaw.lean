/- The walk of LevelLeq. No condition but that what was given are levels, and bytes, in memory, and that the tables hold what the program's text lays. -/
import Derived.Test.YtogfmpjgmabomaaDoorRLeq
import Derived.Test.YtogfmpjgmabomaaDoorHoldsLaw
import Derived.Deep.CutRange
namespace Go.Proofs.YtogfmpjgmabomaaDoor
open Go.RowKit

set_option maxRecDepth 100000 in
set_option maxHeartbeats 4000000 in
theorem leqLaw_walk (L0 L1 : Lv) (a : Option Addr) (n cap : Nat) (bs : List Nat) (made : Bool) (w : World) (v0 v1 : Value) (hT : Tabs w) (h0 : In w (· < w.heap.size) L0 v0) (h1 : In w (· < w.heap.size) L1 v1) (hb : Bts w w.heap.size a n cap bs) :
    Calls Tryd.prog 5 #[v0, v1, .slice a n cap, .bool made] w fun e w' => e = .returned (.bool true) ∧ Below w.heap.size w w' := by
  obtain ⟨k0, n0, a0, j0, c0, rfl⟩ := h0.shape
  obtain ⟨k1, n1, a1, j1, c1, rfl⟩ := h1.shape
  have hle := hb.le
  have hmx := hb.max
  have hlt := hT.lt
  obtain ⟨w1, hw1, hb1, P1, Q1, hs1⟩ := two_new w [.int .i64 k0, .int .i64 n0, .slice a0 j0 c0] [.int .i64 k1, .int .i64 n1, .slice a1 j1 c1] 24 24
  have hbg := begun_any w1 (hT.on hb1)
  go_enter Tryd.func5, Tryd.ntmps5
  go_upto_region 3 with (go_at_call 9; go_must (refine hbg.mono ?_); rintro e w2 ⟨rfl, hb2⟩)
  have hz2 := hb2.size
  have hb02 : Below w.heap.size w w2 := hb1.trans (hb2.mono (by omega))
  have P2 := P1.below hb2 (by omega)
  have Q2 := Q1.below hb2 (by omega)
  clear hbg P1 Q1 hw1
  cases made with
  | false =>
    have Ia := (h0.below hb02 (Nat.le_refl _)).up hb02.size
    have Ib := (h1.below hb02 (Nat.le_refl _)).up hb02.size
    have PA := P2
    have PB := Q2
    have hbc := hb02
    clear P2 Q2 hb02 hb2 hz2 h0 h1
    have p0 := PA.cell (j := 0) rfl
    have p1 := PA.cell (j := 1) rfl
    have p2 := PA.cell (j := 2) rfl
    have q0 := PB.cell (j := 0) rfl
    have q1 := PB.cell (j := 1) rfl
    have q2 := PB.cell (j := 2) rfl
    obtain ⟨w8, hw8, hb8, X8, hs8⟩ := one_new w2 [.int .i64 k0, .int .i64 n0, .slice a0 j0 c0, .int .i64 k1, .int .i64 n1, .slice a1 j1 c1] 24
    have L8 := light_any [L0, L1] _ 2 w8 w8.heap.size (Nat.le_refl _) (node_two Ia Ib hb8 X8)
    rw [show ([L0, L1].all fun L => mayB L 4) = (mayB L0 4 && mayB L1 4) by simp] at L8
    cases hmay : (mayB L0 4 && mayB L1 4) with
    | false =>
      rw [hmay] at L8
      go_wp2_with (go_at_call 12; go_must (refine L8.mono ?_); rintro e w9 ⟨rfl, hb9⟩)
      go_ret
      exact ⟨rfl, hbc.trans ((hb8.trans (hb9.mono hb8.size)).mono hbc.size)⟩
    | true =>
      rw [hmay] at L8
      simp only [Bool.and_eq_true] at hmay
      obtain ⟨la, rfl, fa, za⟩ := fine_of_may hmay.1
      obtain ⟨lb, rfl, fb, zb⟩ := fine_of_may hmay.2
      clear hmay
      by_cases h100 : 100 < n
      · go_wp2_with (go_at_call 12; go_must (refine L8.mono ?_); rintro e w9 ⟨rfl, hb9⟩)
        go_ret
        exact ⟨rfl, hbc.trans ((hb8.trans (hb9.mono hb8.size)).mono hbc.size)⟩
      · go_upto_region 9 with (go_at_call 12; go_must (refine L8.mono ?_); rintro e v ⟨rfl, hb9⟩)
        have hcv : Below w2.heap.size w2 v := hb8.trans (hb9.mono hb8.size)
        have hb0v := hbc.trans (hcv.mono hbc.size)
        replace Ia := (Ia.below hcv (Nat.le_refl _)).up hcv.size
        replace Ib := (Ib.below hcv (Nat.le_refl _)).up hcv.size
        have PAv := PA.below hcv PA.lt
        have PBv := PB.below hcv PB.lt
        have Tv := hT.on hb0v
        have hlv : 2 ≤ v.heap.size := by have := hb0v.size; omega
        clear p0 p1 p2 q0 q1 q2 L8 X8 hw8 hs8 hb8 hb9 PA PB hbc hcv hb h100
        have p0 := over_cell (PAv.cell (j := 0) rfl)
        have p1 := over_cell (PAv.cell (j := 1) rfl)
        have p2 := over_cell (PAv.cell (j := 2) rfl)
        have q0 := over_cell (PBv.cell (j := 0) rfl)
        have q1 := over_cell (PBv.cell (j := 1) rfl)
        have q2 := over_cell (PBv.cell (j := 2) rfl)
        have ob : ∀ u, Below v.heap.size v (over v u) := fun u => over_below v u
        have ct1 : ∀ w', Below v.heap.size v w' → Calls Tryd.prog 17 #[.agg #[.int .i64 k0, .int .i64 n0, .slice a0 j0 c0], .agg #[.int .i64 k1, .int .i64 n1, .slice a1 j1 c1]] w' fun e w'' => e = .returned (.bool (evB leR la lb)) ∧ Below w'.heap.size w' w'' := fun w' h => by
          have hia := Ia.below h (Nat.le_refl _)
          have hib := Ib.below h (Nat.le_refl _)
          have := leq_any la lb fa fb w' v.heap.size _ _ hlv h.size (Tv.on h) hia hib
          exact this
        have ct2 : ∀ w', Below v.heap.size v w' → Calls Tryd.prog 18 #[.agg #[.int .i64 k0, .int .i64 n0, .slice a0 j0 c0], .agg #[.int .i64 k1, .int .i64 n1, .slice a1 j1 c1]] w' fun e w'' => e = .returned (.bool (evB leR la lb)) ∧ Below w'.heap.size w' w'' := fun w' h => by
          have hia := Ia.below h (Nat.le_refl _)
          have hib := Ib.below h (Nat.le_refl _)
          have := rleq_any la lb fa.low fb.low fa.size fb.size w' v.heap.size _ _ h.size hia hib
          rw [rleq_is fa.low fb.low zb fb] at this
          exact this
        have ct3 : ∀ w', Below v.heap.size v w' → Calls Tryd.prog 17 #[.agg #[.int .i64 k1, .int .i64 n1, .slice a1 j1 c1], .agg #[.int .i64 k0, .int .i64 n0, .slice a0 j0 c0]] w' fun e w'' => e = .returned (.bool (evB leR lb la)) ∧ Below w'.heap.size w' w'' := fun w' h => by
          have hia := Ia.below h (Nat.le_refl _)
          have hib := Ib.below h (Nat.le_refl _)
          have := leq_any lb la fb fa w' v.heap.size _ _ hlv h.size (Tv.on h) hib hia
          exact this
        have ct4 : ∀ w', Below v.heap.size v w' → Calls Tryd.prog 18 #[.agg #[.int .i64 k1, .int .i64 n1, .slice a1 j1 c1], .agg #[.int .i64 k0, .int .i64 n0, .slice a0 j0 c0]] w' fun e w'' => e = .returned (.bool (evB leR lb la)) ∧ Below w'.heap.size w' w'' := fun w' h => by
          have hia := Ia.below h (Nat.le_refl _)
          have hib := Ib.below h (Nat.le_refl _)
          have := rleq_any lb la fb.low fa.low fb.size fa.size w' v.heap.size _ _ h.size hib hia
          rw [rleq_is fb.low fa.low za fa] at this
          exact this
        have ct5 : ∀ w', Below v.heap.size v w' → Calls Tryd.prog 19 #[.agg #[.int .i64 k0, .int .i64 n0, .slice a0 j0 c0], .agg #[.int .i64 k1, .int .i64 n1, .slice a1 j1 c1]] w' fun e w'' => e = .returned (.bool (evB eqR la lb)) ∧ Below w'.heap.size w' w'' := fun w' h => by
          have hia := Ia.below h (Nat.le_refl _)
          have hib := Ib.below h (Nat.le_refl _)
          have := same_any la lb fa fb w' v.heap.size _ _ hlv h.size (Tv.on h) hia hib
          exact this
        have ct6 : ∀ w', Below v.heap.size v w' → Calls Tryd.prog 20 #[.agg #[.int .i64 k0, .int .i64 n0, .slice a0 j0 c0], .agg #[.int .i64 k1, .int .i64 n1, .slice a1 j1 c1]] w' fun e w'' => e = .returned (.bool (evB eqR la lb)) ∧ Below w'.heap.size w' w'' := fun w' h => by
          have hia := Ia.below h (Nat.le_refl _)
          have hib := Ib.below h (Nat.le_refl _)
          have := rsame_any la lb fa.low fb.low fa.size fb.size w' v.heap.size _ _ h.size hia hib
          rw [rsame_is fa.low fb.low za zb fa fb] at this
          exact this
        have ct7 : ∀ w', Below v.heap.size v w' → Calls Tryd.prog 21 #[.agg #[.int .i64 k0, .int .i64 n0, .slice a0 j0 c0]] w' fun e w'' => e = .returned (.bool (decide (0 < la.least))) ∧ Below w'.heap.size w' w'' := fun w' h => by
          have hia := Ia.below h (Nat.le_refl _)
          have := never_any la fa w' v.heap.size _ hlv h.size (Tv.on h) hia
          exact this
        have ct8 : ∀ w', Below v.heap.size v w' → Calls Tryd.prog 22 #[.agg #[.int .i64 k0, .int .i64 n0, .slice a0 j0 c0]] w' fun e w'' => e = .returned (.bool (decide (0 < la.least))) ∧ Below w'.heap.size w' w'' := fun w' h => by
          have hia := Ia.below h (Nat.le_refl _)
          have := rnever_any la fa.low fa.size w' v.heap.size _ h.size hia
          rw [rnev_is] at this
          exact this
        have ct9 : ∀ w', Below v.heap.size v w' → Calls Tryd.prog 23 #[.agg #[.int .i64 k0, .int .i64 n0, .slice a0 j0 c0], .agg #[.int .i64 k1, .int .i64 n1, .slice a1 j1 c1]] w' fun e w'' => e = .returned (.bool (la.lv.eqB lb.lv)) ∧ Below w'.heap.size w' w'' := fun w' h => by
          have hia := Ia.below h (Nat.le_refl _)
          have hib := Ib.below h (Nat.le_refl _)
          have := Equal_any la.lv lb.lv w' v.heap.size _ _ h.size (by rw [Lev.size_lv]; exact fa.size) hia hib
          exact this
        have ct10 : ∀ w', Below v.heap.size v w' → Calls Tryd.prog 24 #[.agg #[.int .i64 k0, .int .i64 n0, .slice a0 j0 c0], .agg #[.int .i64 k1, .int .i64 n1, .slice a1 j1 c1]] w' fun e w'' => e = .returned (.bool (la.lv.eqB lb.lv)) ∧ Below w'.heap.size w' w'' := fun w' h => by
          have hia := Ia.below h (Nat.le_refl _)
          have hib := Ib.below h (Nat.le_refl _)
          have := req_any la.lv lb.lv w' v.heap.size _ _ h.size hia hib
          exact this
        have ct11 : ∀ w', Below v.heap.size v w' → Calls Tryd.prog 23 #[.agg #[.int .i64 k0, .int .i64 n0, .slice a0 j0 c0], .agg #[.int .i64 k0, .int .i64 n0, .slice a0 j0 c0]] w' fun e w'' => e = .returned (.bool true) ∧ Below w'.heap.size w' w'' := fun w' h => by
          have hia := Ia.below h (Nat.le_refl _)
          have := Equal_any la.lv la.lv w' v.heap.size _ _ h.size (by rw [Lev.size_lv]; exact fa.size) hia hia
          rw [Lv.eqB_refl] at this
          exact this
        obtain ⟨x1, hx1⟩ : ∃ x, evB leR la lb = x := ⟨_, rfl⟩
        obtain ⟨x2, hx2⟩ : ∃ x, evB leR lb la = x := ⟨_, rfl⟩
        obtain ⟨x3, hx3⟩ : ∃ x, evB eqR la lb = x := ⟨_, rfl⟩
        obtain ⟨x4, hx4⟩ : ∃ x, decide (0 < la.least) = x := ⟨_, rfl⟩
        obtain ⟨x5, hx5⟩ : ∃ x, la.lv.eqB lb.lv = x := ⟨_, rfl⟩
        simp only [hx1] at ct1 ct2
        simp only [hx2] at ct3 ct4
        simp only [hx3] at ct5 ct6
        simp only [hx4] at ct7 ct8
        simp only [hx5] at ct9 ct10
        clear hx1 hx2 hx3 hx4 hx5 Ia Ib fa fb za zb Tv hlv PAv PBv
        refine wp_region_over v (Below.refl _ _) (by kernel_rfl) (by kernel_rfl) ?_
        repeat (go_big_quiet_step (first
          | (go_at_call 17; first | with_reducible exact Calls.over (ct1 _ (ob _)) | with_reducible exact Calls.over (ct3 _ (ob _)))
          | (go_at_call 18; first | with_reducible exact Calls.over (ct2 _ (ob _)) | with_reducible exact Calls.over (ct4 _ (ob _)))
          | (go_at_call 19; exact Calls.over (ct5 _ (ob _)))
          | (go_at_call 20; exact Calls.over (ct6 _ (ob _)))
          | (go_at_call 21; exact Calls.over (ct7 _ (ob _)))
          | (go_at_call 22; exact Calls.over (ct8 _ (ob _)))
          | (go_at_call 23; first | with_reducible exact Calls.over (ct9 _ (ob _)) | with_reducible exact Calls.over (ct11 _ (ob _)))
          | (go_at_call 24; exact Calls.over (ct10 _ (ob _)))))
        refine wpQuiet_nil ?_
        rintro _ ⟨u, rfl⟩
        go_wp2_with fail
        go_ret
        exact ⟨ret_bool (by simp), hb0v.trans ((ob u).mono hb0v.size)⟩
  | true =>
    go_wp2_with (go_at_call 15; go_must (refine (made_any a n cap w2).mono ?_); rintro e w3 ⟨rfl, hb3, G3, hs3⟩; have hb03 := hb02.trans (hb3.mono hb02.size); have L3 := level_any w2.heap.size a n cap bs 4 (by omega) (by omega) n 0 (by omega) (by omega) w3 w.heap.size G3 (hb.below hb03 (Nat.le_refl _)) (by omega))
    refine L3.mono ?_
    rintro e w4 ⟨la, va, at4, rfl, m4⟩
    obtain ⟨k4, n4, a4, j4, c4, rfl⟩ := m4.is.shape
    have hz4 := m4.keep.size
    have P4 := (P2.below hb3 (by omega)).keep m4.keep (by omega)
    have Q4 := (Q2.below hb3 (by omega)).keep m4.keep (by omega)
    have hb04 := hb03.trans (m4.keep.below (B := w.heap.size) (by omega) (by omega))
    obtain ⟨P5, K5⟩ := st3 P4 (.int .i64 k4) (.int .i64 n4) (.slice a4 j4 c4)
    have p0 := P4.cell (j := 0) rfl
    have p1 := P4.cell (j := 1) rfl
    have p2 := P4.cell (j := 2) rfl
    have f0 := P4.frozen 0
    have f1 := P4.frozen 1
    have f2 := P4.frozen 2
    obtain ⟨w5, hw5⟩ : ∃ w5, ((w4.setCell ⟨w.heap.size, 0, none⟩ (.int .i64 k4)).setCell ⟨w.heap.size, 1, none⟩ (.int .i64 n4)).setCell ⟨w.heap.size, 2, none⟩ (.slice a4 j4 c4) = w5 := ⟨_, rfl⟩
    rw [hw5] at P5 K5
    have Q5 := Q4.keep K5 (by omega)
    have hz5 := K5.size
    have hb05 := hb04.trans (K5.below (B := w.heap.size) (by omega) (by omega))
    have G5 := m4.picks.keep K5 (by omega)
    have L5 := level_any w2.heap.size a n cap bs 4 (by omega) (by omega) n at4 m4.upto (by omega) w5 w.heap.size G5 (hb.below hb05 (Nat.le_refl _)) (by omega)
    clear L3
    go_wp2_with fail
    refine L5.mono ?_
    rintro e w6 ⟨lb, vb, at6, rfl, m6⟩
    obtain ⟨k6, n6, a6, j6, c6, rfl⟩ := m6.is.shape
    have hz6 := m6.keep.size
    have P6 := P5.keep m6.keep (by omega)
    have Q6 := Q5.keep m6.keep (by omega)
    have hb06 := hb05.trans (m6.keep.below (B := w.heap.size) (by omega) (by omega))
    obtain ⟨Q7, K7⟩ := st3 Q6 (.int .i64 k6) (.int .i64 n6) (.slice a6 j6 c6)
    have q0 := Q6.cell (j := 0) rfl
    have q1 := Q6.cell (j := 1) rfl
    have q2 := Q6.cell (j := 2) rfl
    have g0 := Q6.frozen 0
    have g1 := Q6.frozen 1
    have g2 := Q6.frozen 2
    have P7 := P6.keep K7 (by omega)
    have hz7 := K7.size
    have hb07 := hb06.trans (K7.below (B := w.heap.size) (by omega) (by omega))
    have Ia := In.carry (w' := _) (T := (· < (((w6.setCell ⟨w.heap.size + 1, 0, none⟩ (.int .i64 k6)).setCell ⟨w.heap.size + 1, 1, none⟩ (.int .i64 n6)).setCell ⟨w.heap.size + 1, 2, none⟩ (.slice a6 j6 c6)).heap.size)) (fun b hb => ((K7.block b (by omega) (by omega)).trans (m6.keep.block b (show b < w5.heap.size by omega) (by omega))).trans (K5.block b hb.2 (by omega))) (fun b hb => by omega) _ _ m4.is
    have Ib := In.carry (w' := _) (T := (· < (((w6.setCell ⟨w.heap.size + 1, 0, none⟩ (.int .i64 k6)).setCell ⟨w.heap.size + 1, 1, none⟩ (.int .i64 n6)).setCell ⟨w.heap.size + 1, 2, none⟩ (.slice a6 j6 c6)).heap.size)) (fun b hb => K7.block b hb.2 (by omega)) (fun b hb => by omega) _ _ m6.is
    obtain ⟨w7, hw7⟩ : ∃ w7, ((w6.setCell ⟨w.heap.size + 1, 0, none⟩ (.int .i64 k6)).setCell ⟨w.heap.size + 1, 1, none⟩ (.int .i64 n6)).setCell ⟨w.heap.size + 1, 2, none⟩ (.slice a6 j6 c6) = w7 := ⟨_, rfl⟩
    rw [hw7] at P7 Q7 hb07 Ia Ib
    have PA := P7
    have PB := Q7
    have hbc := hb07
    obtain ⟨LA, hLA⟩ : ∃ L, la.lv = L := ⟨_, rfl⟩
    obtain ⟨LB, hLB⟩ : ∃ L, lb.lv = L := ⟨_, rfl⟩
    rw [hLA] at Ia
    rw [hLB] at Ib
    clear hLA hLB L5 m4 m6 K5 K7 P4 Q4 P5 Q5 P6 Q6 P7 Q7 G3 G5 hb03 hb04 hb05 hb06 hb07 hb3 hs3 p0 p1 p2 f0 f1 f2
    clear P2 Q2 hb02 hb2 h0 h1
    have p0 := PA.cell (j := 0) rfl
    have p1 := PA.cell (j := 1) rfl
    have p2 := PA.cell (j := 2) rfl
    have q0 := PB.cell (j := 0) rfl
    have q1 := PB.cell (j := 1) rfl
    have q2 := PB.cell (j := 2) rfl
    obtain ⟨w8, hw8, hb8, X8, hs8⟩ := one_new w7 [.int .i64 k4, .int .i64 n4, .slice a4 j4 c4, .int .i64 k6, .int .i64 n6, .slice a6 j6 c6] 24
    have L8 := light_any [LA, LB] _ 2 w8 w8.heap.size (Nat.le_refl _) (node_two Ia Ib hb8 X8)
    rw [show ([LA, LB].all fun L => mayB L 4) = (mayB LA 4 && mayB LB 4) by simp] at L8
    cases hmay : (mayB LA 4 && mayB LB 4) with
    | false =>
      rw [hmay] at L8
      go_wp2_with (go_at_call 12; go_must (refine L8.mono ?_); rintro e w9 ⟨rfl, hb9⟩)
      go_ret
      exact ⟨rfl, hbc.trans ((hb8.trans (hb9.mono hb8.size)).mono hbc.size)⟩
    | true =>
      rw [hmay] at L8
      simp only [Bool.and_eq_true] at hmay
      obtain ⟨la', rfl, fa, za⟩ := fine_of_may hmay.1
      obtain ⟨lb', rfl, fb, zb⟩ := fine_of_may hmay.2
      clear hmay
      by_cases h100 : 100 < n
      · go_wp2_with (go_at_call 12; go_must (refine L8.mono ?_); rintro e w9 ⟨rfl, hb9⟩)
        go_ret
        exact ⟨rfl, hbc.trans ((hb8.trans (hb9.mono hb8.size)).mono hbc.size)⟩
      · go_upto_region 9 with (go_at_call 12; go_must (refine L8.mono ?_); rintro e v ⟨rfl, hb9⟩)
        have hcv : Below w7.heap.size w7 v := hb8.trans (hb9.mono hb8.size)
        have hb0v := hbc.trans (hcv.mono hbc.size)
        replace Ia := (Ia.below hcv (Nat.le_refl _)).up hcv.size
        replace Ib := (Ib.below hcv (Nat.le_refl _)).up hcv.size
        have PAv := PA.below hcv PA.lt
        have PBv := PB.below hcv PB.lt
        have Tv := hT.on hb0v
        have hlv : 2 ≤ v.heap.size := by have := hb0v.size; omega
        clear p0 p1 p2 q0 q1 q2 L8 X8 hw8 hs8 hb8 hb9 PA PB hbc hcv hb h100
        have p0 := over_cell (PAv.cell (j := 0) rfl)
        have p1 := over_cell (PAv.cell (j := 1) rfl)
        have p2 := over_cell (PAv.cell (j := 2) rfl)
        have q0 := over_cell (PBv.cell (j := 0) rfl)
        have q1 := over_cell (PBv.cell (j := 1) rfl)
        have q2 := over_cell (PBv.cell (j := 2) rfl)
        have ob : ∀ u, Below v.heap.size v (over v u) := fun u => over_below v u
        have ct1 : ∀ w', Below v.heap.size v w' → Calls Tryd.prog 17 #[.agg #[.int .i64 k4, .int .i64 n4, .slice a4 j4 c4], .agg #[.int .i64 k6, .int .i64 n6, .slice a6 j6 c6]] w' fun e w'' => e = .returned (.bool (evB leR la' lb')) ∧ Below w'.heap.size w' w'' := fun w' h => by
          have hia := Ia.below h (Nat.le_refl _)
          have hib := Ib.below h (Nat.le_refl _)
          have := leq_any la' lb' fa fb w' v.heap.size _ _ hlv h.size (Tv.on h) hia hib
          exact this
        have ct2 : ∀ w', Below v.heap.size v w' → Calls Tryd.prog 18 #[.agg #[.int .i64 k4, .int .i64 n4, .slice a4 j4 c4], .agg #[.int .i64 k6, .int .i64 n6, .slice a6 j6 c6]] w' fun e w'' => e = .returned (.bool (evB leR la' lb')) ∧ Below w'.heap.size w' w'' := fun w' h => by
          have hia := Ia.below h (Nat.le_refl _)
          have hib := Ib.below h (Nat.le_refl _)
          have := rleq_any la' lb' fa.low fb.low fa.size fb.size w' v.heap.size _ _ h.size hia hib
          rw [rleq_is fa.low fb.low zb fb] at this
          exact this
        have ct3 : ∀ w', Below v.heap.size v w' → Calls Tryd.prog 17 #[.agg #[.int .i64 k6, .int .i64 n6, .slice a6 j6 c6], .agg #[.int .i64 k4, .int .i64 n4, .slice a4 j4 c4]] w' fun e w'' => e = .returned (.bool (evB leR lb' la')) ∧ Below w'.heap.size w' w'' := fun w' h => by
          have hia := Ia.below h (Nat.le_refl _)
          have hib := Ib.below h (Nat.le_refl _)
          have := leq_any lb' la' fb fa w' v.heap.size _ _ hlv h.size (Tv.on h) hib hia
          exact this
        have ct4 : ∀ w', Below v.heap.size v w' → Calls Tryd.prog 18 #[.agg #[.int .i64 k6, .int .i64 n6, .slice a6 j6 c6], .agg #[.int .i64 k4, .int .i64 n4, .slice a4 j4 c4]] w' fun e w'' => e = .returned (.bool (evB leR lb' la')) ∧ Below w'.heap.size w' w'' := fun w' h => by
          have hia := Ia.below h (Nat.le_refl _)
          have hib := Ib.below h (Nat.le_refl _)
          have := rleq_any lb' la' fb.low fa.low fb.size fa.size w' v.heap.size _ _ h.size hib hia
          rw [rleq_is fb.low fa.low za fa] at this
          exact this
        have ct5 : ∀ w', Below v.heap.size v w' → Calls Tryd.prog 19 #[.agg #[.int .i64 k4, .int .i64 n4, .slice a4 j4 c4], .agg #[.int .i64 k6, .int .i64 n6, .slice a6 j6 c6]] w' fun e w'' => e = .returned (.bool (evB eqR la' lb')) ∧ Below w'.heap.size w' w'' := fun w' h => by
          have hia := Ia.below h (Nat.le_refl _)
          have hib := Ib.below h (Nat.le_refl _)
          have := same_any la' lb' fa fb w' v.heap.size _ _ hlv h.size (Tv.on h) hia hib
          exact this
        have ct6 : ∀ w', Below v.heap.size v w' → Calls Tryd.prog 20 #[.agg #[.int .i64 k4, .int .i64 n4, .slice a4 j4 c4], .agg #[.int .i64 k6, .int .i64 n6, .slice a6 j6 c6]] w' fun e w'' => e = .returned (.bool (evB eqR la' lb')) ∧ Below w'.heap.size w' w'' := fun w' h => by
          have hia := Ia.below h (Nat.le_refl _)
          have hib := Ib.below h (Nat.le_refl _)
          have := rsame_any la' lb' fa.low fb.low fa.size fb.size w' v.heap.size _ _ h.size hia hib
          rw [rsame_is fa.low fb.low za zb fa fb] at this
          exact this
        have ct7 : ∀ w', Below v.heap.size v w' → Calls Tryd.prog 21 #[.agg #[.int .i64 k4, .int .i64 n4, .slice a4 j4 c4]] w' fun e w'' => e = .returned (.bool (decide (0 < la'.least))) ∧ Below w'.heap.size w' w'' := fun w' h => by
          have hia := Ia.below h (Nat.le_refl _)
          have := never_any la' fa w' v.heap.size _ hlv h.size (Tv.on h) hia
          exact this
        have ct8 : ∀ w', Below v.heap.size v w' → Calls Tryd.prog 22 #[.agg #[.int .i64 k4, .int .i64 n4, .slice a4 j4 c4]] w' fun e w'' => e = .returned (.bool (decide (0 < la'.least))) ∧ Below w'.heap.size w' w'' := fun w' h => by
          have hia := Ia.below h (Nat.le_refl _)
          have := rnever_any la' fa.low fa.size w' v.heap.size _ h.size hia
          rw [rnev_is] at this
          exact this
        have ct9 : ∀ w', Below v.heap.size v w' → Calls Tryd.prog 23 #[.agg #[.int .i64 k4, .int .i64 n4, .slice a4 j4 c4], .agg #[.int .i64 k6, .int .i64 n6, .slice a6 j6 c6]] w' fun e w'' => e = .returned (.bool (la'.lv.eqB lb'.lv)) ∧ Below w'.heap.size w' w'' := fun w' h => by
          have hia := Ia.below h (Nat.le_refl _)
          have hib := Ib.below h (Nat.le_refl _)
          have := Equal_any la'.lv lb'.lv w' v.heap.size _ _ h.size (by rw [Lev.size_lv]; exact fa.size) hia hib
          exact this
        have ct10 : ∀ w', Below v.heap.size v w' → Calls Tryd.prog 24 #[.agg #[.int .i64 k4, .int .i64 n4, .slice a4 j4 c4], .agg #[.int .i64 k6, .int .i64 n6, .slice a6 j6 c6]] w' fun e w'' => e = .returned (.bool (la'.lv.eqB lb'.lv)) ∧ Below w'.heap.size w' w'' := fun w' h => by
          have hia := Ia.below h (Nat.le_refl _)
          have hib := Ib.below h (Nat.le_refl _)
          have := req_any la'.lv lb'.lv w' v.heap.size _ _ h.size hia hib
          exact this
        have ct11 : ∀ w', Below v.heap.size v w' → Calls Tryd.prog 23 #[.agg #[.int .i64 k4, .int .i64 n4, .slice a4 j4 c4], .agg #[.int .i64 k4, .int .i64 n4, .slice a4 j4 c4]] w' fun e w'' => e = .returned (.bool true) ∧ Below w'.heap.size w' w'' := fun w' h => by
          have hia := Ia.below h (Nat.le_refl _)
          have := Equal_any la'.lv la'.lv w' v.heap.size _ _ h.size (by rw [Lev.size_lv]; exact fa.size) hia hia
          rw [Lv.eqB_refl] at this
          exact this
        obtain ⟨x1, hx1⟩ : ∃ x, evB leR la' lb' = x := ⟨_, rfl⟩
        obtain ⟨x2, hx2⟩ : ∃ x, evB leR lb' la' = x := ⟨_, rfl⟩
        obtain ⟨x3, hx3⟩ : ∃ x, evB eqR la' lb' = x := ⟨_, rfl⟩
        obtain ⟨x4, hx4⟩ : ∃ x, decide (0 < la'.least) = x := ⟨_, rfl⟩
        obtain ⟨x5, hx5⟩ : ∃ x, la'.lv.eqB lb'.lv = x := ⟨_, rfl⟩
        simp only [hx1] at ct1 ct2
        simp only [hx2] at ct3 ct4
        simp only [hx3] at ct5 ct6
        simp only [hx4] at ct7 ct8
        simp only [hx5] at ct9 ct10
        clear hx1 hx2 hx3 hx4 hx5 Ia Ib fa fb za zb Tv hlv PAv PBv
        refine wp_region_over v (Below.refl _ _) (by kernel_rfl) (by kernel_rfl) ?_
        repeat (go_big_quiet_step (first
          | (go_at_call 17; first | with_reducible exact Calls.over (ct1 _ (ob _)) | with_reducible exact Calls.over (ct3 _ (ob _)))
          | (go_at_call 18; first | with_reducible exact Calls.over (ct2 _ (ob _)) | with_reducible exact Calls.over (ct4 _ (ob _)))
          | (go_at_call 19; exact Calls.over (ct5 _ (ob _)))
          | (go_at_call 20; exact Calls.over (ct6 _ (ob _)))
          | (go_at_call 21; exact Calls.over (ct7 _ (ob _)))
          | (go_at_call 22; exact Calls.over (ct8 _ (ob _)))
          | (go_at_call 23; first | with_reducible exact Calls.over (ct9 _ (ob _)) | with_reducible exact Calls.over (ct11 _ (ob _)))
          | (go_at_call 24; exact Calls.over (ct10 _ (ob _)))))
        refine wpQuiet_nil ?_
        rintro _ ⟨u, rfl⟩
        go_wp2_with fail
        go_ret
        exact ⟨ret_bool (by simp), hb0v.trans ((ob u).mono hb0v.size)⟩
end Go.Proofs.YtogfmpjgmabomaaDoor
