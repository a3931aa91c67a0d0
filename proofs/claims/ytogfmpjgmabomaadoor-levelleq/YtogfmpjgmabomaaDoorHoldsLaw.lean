/- The walk of LevelHolds. No condition but that the bytes and numbers lie in memory, and that the tables hold what the program's text lays. -/
import Derived.Test.YtogfmpjgmabomaaDoorMath
import Derived.Test.YtogfmpjgmabomaaDoorEvalLaw
namespace Go.Proofs.YtogfmpjgmabomaaDoor
open Go.RowKit

theorem arr_ints {w : World} {g : Nat} {t : TypeId} {x0 x1 x2 x3 : Int} (h : Blk w g t [.int .i64 x0, .int .i64 x1, .int .i64 x2, .int .i64 x3]) {B : Nat} (hB : g < B) : Ints w B (some ⟨g, 0, none⟩) 4 4 [x0, x1, x2, x3] :=
  ⟨rfl, Nat.le_refl _, by decide, fun j z hz => ⟨g, 0, rfl, hB, by
    rw [Nat.zero_add]
    match j, hz with
    | 0, hz => simp at hz; subst hz; exact h.cell rfl
    | 1, hz => simp at hz; subst hz; exact h.cell rfl
    | 2, hz => simp at hz; subst hz; exact h.cell rfl
    | 3, hz => simp at hz; subst hz; exact h.cell rfl
    | j + 4, hz => simp at hz⟩⟩

/-- A level that was made and put into a variable, as seen later. -/
structure Has (w : World) (b : Nat) (l : Lev) (k n : Int) (a : Option Addr) (len cap : Nat) : Prop where
  is : In w (· < w.heap.size) l.lv (.agg #[.int .i64 k, .int .i64 n, .slice a len cap])
  at_ : Blk w b 24 [.int .i64 k, .int .i64 n, .slice a len cap]
theorem Has.on {w w' : World} {b : Nat} {l : Lev} {k n : Int} {a : Option Addr} {len cap : Nat} (h : Has w b l k n a len cap) (hb : Below w.heap.size w w') : Has w' b l k n a len cap :=
  ⟨(h.is.below hb (Nat.le_refl _)).up hb.size, h.at_.below hb h.at_.lt⟩

set_option maxRecDepth 100000 in
set_option maxHeartbeats 2000000 in
theorem holdsLaw_walk (a : Option Addr) (n cap : Nat) (bs : List Nat) (x0 x1 x2 x3 : Int) (w : World) (hT : Tabs w) (hb : Bts w w.heap.size a n cap bs) :
    Calls Tryd.prog 6 #[.slice a n cap, .agg #[.int .i64 x0, .int .i64 x1, .int .i64 x2, .int .i64 x3]] w fun e w' => e = .returned (.bool true) ∧ Below w.heap.size w w' := by
  have hle := hb.le
  have hmx := hb.max
  have hlt := hT.lt
  obtain ⟨w1, hw1, hb1, A1, hs1⟩ := one_new w [.int .i64 x0, .int .i64 x1, .int .i64 x2, .int .i64 x3] 38
  have hbg := begun_any w1 (hT.on hb1)
  by_cases h100 : 100 < n
  · go_enter Tryd.func6, Tryd.ntmps6
    go_wp2_with (go_at_call 9; go_must (refine hbg.mono ?_); rintro e w2 ⟨rfl, hb2⟩)
    go_ret
    exact ⟨rfl, hb1.trans (hb2.mono (by omega))⟩
  · go_enter Tryd.func6, Tryd.ntmps6
    go_wp2_with (first
      | (go_at_call 9; go_must (refine hbg.mono ?_); rintro e w2 ⟨rfl, hb2⟩; have hb02 := hb1.trans (hb2.mono (show w.heap.size ≤ w1.heap.size by omega)); have hz2 := hb2.size; clear hbg)
      | (go_at_call 15; go_must (refine (made_any a n cap w2).mono ?_); rintro e w3 ⟨rfl, hb3, G3, hs3⟩; have hb03 := hb02.trans (hb3.mono hb02.size); have L3 := level_any w2.heap.size a n cap bs 4 (by omega) (by omega) n 0 (by omega) (by omega) w3 w.heap.size G3 (hb.below hb03 (Nat.le_refl _)) (by omega))
      | (go_at_call 16; refine L3.mono ?_; rintro e w4 ⟨la, va, at4, rfl, m4⟩; obtain ⟨k4, n4, a4, j4, c4, rfl⟩ := m4.is.shape; have hz4 := m4.keep.size; obtain ⟨w5, hw5, hb5, X5, hs5⟩ := one_new w4 [.int .i64 k4, .int .i64 n4, .slice a4 j4 c4] 24; have hb04 := hb03.trans (m4.keep.below (B := w.heap.size) (by omega) (by omega)); have hb05 := hb04.trans (hb5.mono hb04.size); have L5 := level_any w2.heap.size a n cap bs 4 (by omega) (by omega) n at4 m4.upto (by omega) w5 w.heap.size (m4.picks.below hb5 (by omega)) (hb.below hb05 (Nat.le_refl _)) (by omega); clear L3))
    refine L5.mono ?_
    rintro e w6 ⟨lb, vb, at6, rfl, m6⟩
    obtain ⟨k6, n6, a6, j6, c6, rfl⟩ := m6.is.shape
    have hz6 := m6.keep.size
    obtain ⟨w7, hw7, hb7, X7, hs7⟩ := one_new w6 [.int .i64 k6, .int .i64 n6, .slice a6 j6 c6] 24
    have hs7' := X7.lt
    clear hs7
    have hb06 := hb05.trans (m6.keep.below (B := w.heap.size) (by omega) (by omega))
    have hb07 := hb06.trans (hb7.mono hb06.size)
    have Ha6 : Has w6 w4.heap.size la k4 n4 a4 j4 c4 := ⟨In.carry (fun b hb => (m6.keep.block b (show b < w5.heap.size by omega) (by omega)).trans (hb5.block b hb.2)) (fun b hb => by omega) _ _ m4.is, X5.keep m6.keep (by omega)⟩
    have Ha := Ha6.on hb7
    have Hb : Has w7 w6.heap.size lb k6 n6 a6 j6 c6 := ⟨((fresh_low m6.is).below hb7 (Nat.le_refl _)).up hb7.size, X7⟩
    have x0' := Ha.at_.cell (j := 0) rfl
    have x1' := Ha.at_.cell (j := 1) rfl
    have x2' := Ha.at_.cell (j := 2) rfl
    have y0 := Hb.at_.cell (j := 0) rfl
    have y1 := Hb.at_.cell (j := 1) rfl
    have y2 := Hb.at_.cell (j := 2) rfl
    obtain ⟨w8, hw8, hb8, X8, hs8⟩ := one_new w7 [.int .i64 k4, .int .i64 n4, .slice a4 j4 c4, .int .i64 k6, .int .i64 n6, .slice a6 j6 c6] 24
    have L8 := light_any [la.lv, lb.lv] _ 2 w8 w8.heap.size (Nat.le_refl _) (node_two Ha.is Hb.is hb8 X8)
    clear L5
    have hl : ([la.lv, lb.lv].all fun L => mayB L 4) = (mayB la.lv 4 && mayB lb.lv 4) := by simp
    rw [hl] at L8
    clear hl
    cases hmay : (mayB la.lv 4 && mayB lb.lv 4) with
    | false =>
      rw [hmay] at L8
      go_wp2_with (go_at_call 12; go_must (refine L8.mono ?_); rintro e w9 ⟨rfl, hb9⟩)
      go_ret
      exact ⟨rfl, (hb07.trans (hb8.mono hb07.size)).trans (hb9.mono (by have := hb07.size; have := hb8.size; omega))⟩
    | true =>
      rw [hmay] at L8
      simp only [Bool.and_eq_true] at hmay
      obtain ⟨fa, _⟩ := fine_lev la hmay.1
      obtain ⟨fb, _⟩ := fine_lev lb hmay.2
      clear hmay
      go_wp2_with (go_at_call 12; go_must (refine L8.mono ?_); rintro e w9 ⟨rfl, hb9⟩)
      have hz8 := hb8.size
      have hb79 : Below w7.heap.size w7 w9 := hb8.trans (hb9.mono hz8)
      have hb09 : Below w.heap.size w w9 := hb07.trans (hb79.mono hb07.size)
      have A9 : Blk w9 w.heap.size 38 [.int .i64 x0, .int .i64 x1, .int .i64 x2, .int .i64 x3] := A1.below (((hb2.trans (hb3.mono hz2)).trans (m4.keep.below (B := w1.heap.size) (by omega) (by omega))).trans ((hb5.mono (by omega)).trans ((m6.keep.below (B := w1.heap.size) (by omega) (by omega)).trans ((hb7.mono (by omega)).trans (hb79.mono (by omega)))))) (by omega)
      have Ha9 := Ha.on hb79
      have Hb9 := Hb.on hb79
      clear Ha Hb Ha6 X5 X7 X8 x0' x1' x2' y0 y1 y2 L8 hb8 hb9 hw8 hw7 hw5 hw1 m4 m6 hb2 hb3 hb5 hb7 G3
      have p0 := over_cell (Ha9.at_.cell (j := 0) rfl)
      have p1 := over_cell (Ha9.at_.cell (j := 1) rfl)
      have p2 := over_cell (Ha9.at_.cell (j := 2) rfl)
      have q0 := over_cell (Hb9.at_.cell (j := 0) rfl)
      have q1 := over_cell (Hb9.at_.cell (j := 1) rfl)
      have q2 := over_cell (Hb9.at_.cell (j := 2) rfl)
      have I9 := arr_ints A9 (B := w9.heap.size) A9.lt
      have T9 := hT.on hb09
      have hlt9 : 2 ≤ w9.heap.size := by have := hb09.size; omega
      go_wp2_with fail
      refine wp_region_over w9 (Below.refl _ _) (by kernel_rfl) (by kernel_rfl) ?_
      repeat (go_big_quiet_step (first
        | (go_at_call_of 13 k4; exact Calls.over (eval_any la fa (some ⟨w.heap.size, 0, none⟩) 4 4 [x0, x1, x2, x3] _ w9.heap.size _ hlt9 (over_below w9 _).size (T9.on (over_below w9 _)) (Ha9.is.below (over_below w9 _) (Nat.le_refl _)) (I9.below (over_below w9 _) (Nat.le_refl _))))
        | (go_at_call_of 13 k6; exact Calls.over (eval_any lb fb (some ⟨w.heap.size, 0, none⟩) 4 4 [x0, x1, x2, x3] _ w9.heap.size _ hlt9 (over_below w9 _).size (T9.on (over_below w9 _)) (Hb9.is.below (over_below w9 _) (Nat.le_refl _)) (I9.below (over_below w9 _) (Nat.le_refl _))))))
      refine wpQuiet_nil ?_
      rintro _ ⟨u, rfl⟩
      obtain ⟨wA, hwA⟩ : ∃ wA, over w9 u = wA := ⟨_, rfl⟩
      have hbA : Below w9.heap.size w9 wA := by rw [← hwA]; exact over_below w9 u
      rw [hwA]
      clear hwA p0 p1 p2 q0 q1 q2
      have hb0A : Below w.heap.size w wA := hb09.trans (hbA.mono hb09.size)
      have HaA := Ha9.on hbA
      have HbA := Hb9.on hbA
      have TA := T9.on hbA
      have hltA : 2 ≤ wA.heap.size := by have := hbA.size; omega
      clear Ha9 Hb9 A9 I9 T9 hb79
      have cL : ∀ w', Below wA.heap.size wA w' → Calls Tryd.prog 17 #[.agg #[.int .i64 k4, .int .i64 n4, .slice a4 j4 c4], .agg #[.int .i64 k6, .int .i64 n6, .slice a6 j6 c6]] w' fun e w'' => e = .returned (.bool (evB leR la lb)) ∧ Below w'.heap.size w' w'' := fun w' h =>
        leq_any la lb fa fb w' wA.heap.size _ _ hltA h.size (TA.on h) (HaA.is.below h (Nat.le_refl _)) (HbA.is.below h (Nat.le_refl _))
      have cS : ∀ w', Below wA.heap.size wA w' → Calls Tryd.prog 19 #[.agg #[.int .i64 k4, .int .i64 n4, .slice a4 j4 c4], .agg #[.int .i64 k6, .int .i64 n6, .slice a6 j6 c6]] w' fun e w'' => e = .returned (.bool (evB eqR la lb)) ∧ Below w'.heap.size w' w'' := fun w' h =>
        same_any la lb fa fb w' wA.heap.size _ _ hltA h.size (TA.on h) (HaA.is.below h (Nat.le_refl _)) (HbA.is.below h (Nat.le_refl _))
      have cN : ∀ w', Below wA.heap.size wA w' → Calls Tryd.prog 21 #[.agg #[.int .i64 k4, .int .i64 n4, .slice a4 j4 c4]] w' fun e w'' => e = .returned (.bool (decide (0 < la.least))) ∧ Below w'.heap.size w' w'' := fun w' h =>
        never_any la fa w' wA.heap.size _ hltA h.size (TA.on h) (HaA.is.below h (Nat.le_refl _))
      have hcell : ∀ w', Below wA.heap.size wA w' → Has w' w4.heap.size la k4 n4 a4 j4 c4 ∧ Has w' w6.heap.size lb k6 n6 a6 j6 c6 := fun w' h => ⟨HaA.on h, HbA.on h⟩
      have m1 : evB leR la lb = true → la.val (vv [x0, x1, x2, x3]) ≤ lb.val (vv [x0, x1, x2, x3]) := fun h => (leq_iff fb).1 h _
      have m2 : evB eqR la lb = true → la.val (vv [x0, x1, x2, x3]) = lb.val (vv [x0, x1, x2, x3]) := fun h => (same_iff fa fb).1 h _
      have m3 : decide (0 < la.least) = true → 0 < la.val (vv [x0, x1, x2, x3]) := fun h => (never_iff la).1 h _
      obtain ⟨X, hX⟩ : ∃ X, la.val (vv [x0, x1, x2, x3]) = X := ⟨_, rfl⟩
      obtain ⟨Y, hY⟩ : ∃ Y, lb.val (vv [x0, x1, x2, x3]) = Y := ⟨_, rfl⟩
      rw [hX] at m1 m2 m3 ⊢
      rw [hY] at m1 m2 ⊢
      obtain ⟨bl, hbl⟩ : ∃ b, evB leR la lb = b := ⟨_, rfl⟩
      obtain ⟨bs', hbs⟩ : ∃ b, evB eqR la lb = b := ⟨_, rfl⟩
      obtain ⟨bn, hbn⟩ : ∃ b, decide (0 < la.least) = b := ⟨_, rfl⟩
      rw [hbl] at m1
      rw [hbs] at m2
      rw [hbn] at m3
      simp only [hbl] at cL
      simp only [hbs] at cS
      simp only [hbn] at cN
      clear hX hY hbl hbs hbn TA hltA fa fb
      have x0' := HaA.at_.cell (j := 0) rfl
      have x1' := HaA.at_.cell (j := 1) rfl
      have x2' := HaA.at_.cell (j := 2) rfl
      have y0 := HbA.at_.cell (j := 0) rfl
      have y1 := HbA.at_.cell (j := 1) rfl
      have y2 := HbA.at_.cell (j := 2) rfl
      have rA := Below.refl wA.heap.size wA
      have key : ∀ wl, Below wA.heap.size wA wl → Below w.heap.size w wl := fun wl h => hb0A.trans (h.mono hb0A.size)
      have hc1 : bl = false ∨ (bl = true ∧ X ≤ Y) := by cases bl; exact .inl rfl; exact .inr ⟨rfl, m1 rfl⟩
      have hc2 : bs' = false ∨ (bs' = true ∧ ((X : Int) == (Y : Int)) = true) := by cases bs'; exact .inl rfl; exact .inr ⟨rfl, by have := m2 rfl; simp; omega⟩
      have hc3 : bn = false ∨ (bn = true ∧ 0 < X) := by cases bn; exact .inl rfl; exact .inr ⟨rfl, m3 rfl⟩
      clear m1 m2 m3
      rcases hc1 with rfl | ⟨rfl, hxy⟩
      all_goals
        rcases hc2 with rfl | ⟨rfl, hxe⟩
        all_goals
          rcases hc3 with rfl | ⟨rfl, hx0⟩
          all_goals
            go_wp2_with (first
              | (go_at_call 17; refine (cL wA rA).mono ?_; rintro e wB ⟨rfl, dB⟩; obtain ⟨HaB, HbB⟩ := hcell wB dB; have u0 := HaB.at_.cell (j := 0) rfl; have u1 := HaB.at_.cell (j := 1) rfl; have u2 := HaB.at_.cell (j := 2) rfl; have v0 := HbB.at_.cell (j := 0) rfl; have v1 := HbB.at_.cell (j := 1) rfl; have v2 := HbB.at_.cell (j := 2) rfl)
              | (go_at_call 19; refine (cS wB dB).mono ?_; rintro e wC ⟨rfl, dC⟩; have dC' := dB.trans (dC.mono dB.size); obtain ⟨HaC, HbC⟩ := hcell wC dC'; have s0 := HaC.at_.cell (j := 0) rfl; have s1 := HaC.at_.cell (j := 1) rfl; have s2 := HaC.at_.cell (j := 2) rfl)
              | (go_at_call 21; refine (cN wC dC').mono ?_; rintro e wD ⟨rfl, dD⟩))
            go_ret
            exact ⟨rfl, key _ (dC'.trans (dD.mono dC'.size))⟩
end Go.Proofs.YtogfmpjgmabomaaDoor
