/- The walks of Fits and of MeterAll. No condition but that the term lies in memory, and that what it has of parts and Levels is at most 2^20. -/
import Derived.Test.YtemgmphddmlmlaaG6
namespace Go.Proofs.Ytemgmphddmlmlaa
open Go.RowKit

set_option maxRecDepth 100000 in
set_option maxHeartbeats 1000000 in
theorem fits_any (T : Tr) (f c : Int) (w : World) (B : Nat) (hc : c ≤ 9223372036854775807) (hw : T.wt ≤ 1048576) (hs : T.size ≤ 524288) (hB : B ≤ w.heap.size) (hin : TIn w (· < B) T) :
    Calls Try.prog 11 #[mv f c, T.val] w fun e w' => e = .returned (.int .i64 (fitE T c)) ∧ Below w.heap.size w w' := by
  obtain ⟨left, hleft⟩ : ∃ left : Nat, max c 0 = (left : Int) := ⟨(max c 0).toNat, by omega⟩
  have hmax : (if c < 0 then (0 : Int) else c) = (left : Int) := by rw [← hleft]; split <;> omega
  obtain ⟨w1, hw1, hb1, P0, P1, P2, hs1⟩ := three_new w ([.int .i64 f, .int .i64 c] : List Value) (tl T) ([.int .i64 (left : Int), .int .i64 0, .slice none 0 0, .map none, .map none, .slice none 0 0] : List Value) 23 27 48
  have I1 : TIn w1 (· < w.heap.size + 2) T := TIn.mono (hin.below hb1 hB) (fun b hb => by omega)
  have C1 : TCells w1 (w.heap.size + 1) 0 T := ⟨P1.cell (j := 0) rfl, P1.cell (j := 1) rfl, P1.cell (j := 2) rfl, P1.cell (j := 3) rfl, P1.cell (j := 4) rfl⟩
  have G1 : GS (w.heap.size + 2) (w.heap.size + 1 + 1) left 0 [] (.slice none 0 0) w1 := ⟨P2, ⟨rfl, .inl ⟨rfl, rfl⟩⟩, by omega, fun s hs => by cases hs⟩
  have kh := holds_any G1 (by omega) T (w.heap.size + 1) 0 (by omega) C1 I1 hw hs (by omega)
  have HE : Hid (fitE T c = if (decide (T.size ≤ left) && T.fit) = true then 0 else 12) := by
    show _ = _
    unfold fitE
    rw [hleft]
    by_cases h : T.size ≤ left
    · simp [h]
    · simp [h]
  obtain ⟨A, hA⟩ : ∃ A, (decide (T.size ≤ left) && T.fit) = A := ⟨_, rfl⟩
  rw [hA] at kh
  have HE2 : Hid (fitE T c = if A = true then 0 else 12) := by show _ = _; rw [HE.out, hA]
  have HW : Hid (((w.alloc (.cells #[.int .i64 f, .int .i64 c] 23)).alloc (.cells (tl T).toArray 27)).alloc (.cells #[.int .i64 (left : Int), .int .i64 0, .slice none 0 0, .map none, .map none, .slice none 0 0] 48) = w1) := hw1
  clear hw1 P0 P1 P2 I1 C1 G1 HE hA hin hw hs
  unfold tl at HW
  unfold mv Tr.val
  cases A
  · rw [HE2.out, if_neg (by simp)]
    clear HE2
    go_enter Try.func11, Try.ntmps11
    go_wp2_with (go_at_call 15; rw [HW.out]; refine kh.mono ?_; rintro e w2 ⟨rfl, b2⟩)
    go_ret
    exact ⟨rfl, hb1.trans (b2.mono (by omega))⟩
  · rw [HE2.out, if_pos rfl]
    clear HE2
    go_enter Try.func11, Try.ntmps11
    go_wp2_with (go_at_call 15; rw [HW.out]; refine kh.mono ?_; rintro e w2 ⟨rfl, b2⟩)
    go_ret
    exact ⟨rfl, hb1.trans (b2.mono (by omega))⟩

set_option maxRecDepth 100000 in
set_option maxHeartbeats 1000000 in
theorem all_any (T : Tr) (fuel cells f c steps : Int) (w : World) (B : Nat) (hf : f ≤ 9223372036854775807) (hc : c ≤ 9223372036854775807) (hw : T.size ≤ 3000 → T.wt ≤ 1048576) (hB : B ≤ w.heap.size) (hin : TIn w (· < B) T) :
    Calls Try.prog 3 #[.int .i64 fuel, .int .i64 cells, mv f c, T.val, .int .i64 steps] w fun e w' => e = .returned (.bool true) ∧ Below w.heap.size w w' := by
  obtain ⟨w1, hw1, hb1, P0, P1, hs1⟩ := two_new w ([.int .i64 f, .int .i64 c] : List Value) (tl T) 23 27
  have hbeg := begun_any w1
  unfold mv Tr.val
  unfold tl at hw1
  go_enter Try.func3, Try.ntmps3
  go_wp2_with fail
  refine hbeg.mono ?_
  rintro e w2 ⟨rfl, hb2⟩
  have hb12 := hb1.trans (hb2.mono (by omega))
  have hz2 := hb12.size
  have P2 := P1.below hb2 P1.lt
  have M2 := P0.below hb2 P0.lt
  have x0 := P2.cell (j := 0) rfl
  have x1 := P2.cell (j := 1) rfl
  have x2 := P2.cell (j := 2) rfl
  have x3 := P2.cell (j := 3) rfl
  have x4 := P2.cell (j := 4) rfl
  have h8 := rsize_any T 3000 w2 B (by omega) (.inl (by omega)) (by omega) (hin.below hb12 hB)
  unfold Tr.val at h8
  clear hbeg hw1
  by_cases hsz : T.size ≤ 3000
  · obtain ⟨S, hS⟩ : ∃ S, min (T.size : Int) (max 3000 0 + 1) = S := ⟨_, rfl⟩
    rw [hS] at h8
    have hd : decide ((3000 : Int) < S) = false := by simp; omega
    clear hS
    go_wp2_with fail
    refine h8.mono ?_
    rintro e w3 ⟨rfl, hb3⟩
    have hb13 := hb12.trans (hb3.mono hb12.size)
    have hz3 := hb13.size
    have P3 := P2.below hb3 P2.lt
    have M3 := M2.below hb3 M2.lt
    have m0 := M3.cell (j := 0) rfl
    have m1 := M3.cell (j := 1) rfl
    have ks := step_any f c hf w3
    unfold mv at ks
    obtain ⟨f1, hf1⟩ : ∃ f1, (if f ≤ 0 then f else f - 1) = f1 := ⟨_, rfl⟩
    obtain ⟨e1, he1⟩ : ∃ e1 : Int, (if f ≤ 0 then 11 else 0) = e1 := ⟨_, rfl⟩
    rw [hf1, he1] at ks
    clear h8 x0 x1 x2 x3 x4 P2 P1 M2 P0
    go_wp2_with (go_at_call 7; refine ks.mono ?_; rintro e w4 ⟨rfl, hb4⟩; have M4 := M3.below hb4 M3.lt; have N4 := M4.alloc (.cells #[.int .i64 f1, .int .i64 c] 23); have n0 := N4.cell (j := 0) rfl; have n1 := N4.cell (j := 1) rfl)
    obtain ⟨w5, hw5, hb5, X5, hs5⟩ := one_new w4 ([.int .i64 f1, .int .i64 c] : List Value) 23
    rw [hw5]
    have hb14 := hb13.trans (hb4.mono hz3)
    have hb15 := hb14.trans (hb5.mono hb14.size)
    have hz4 := hb14.size
    have hz5 := hb15.size
    have M5 := M4.below hb5 M4.lt
    have P5 := (P3.below hb4 P3.lt).below hb5 (P3.below hb4 P3.lt).lt
    have kr := rstep_any f c hf w5
    unfold mv at kr
    rw [hf1, he1] at kr
    refine kr.mono ?_
    rintro e w6 ⟨rfl, hb6⟩
    have hb16 := hb15.trans (hb6.mono hz5)
    have hz6 := hb16.size
    obtain ⟨w7, hw7, hb7, Y7, hs7⟩ := one_new w6 ([.int .i64 f1, .int .i64 c] : List Value) 23
    have hb17 := hb16.trans (hb7.mono hz6)
    have hz7 := hb17.size
    have M7 := (M5.below hb6 M5.lt).below hb7 (M5.below hb6 M5.lt).lt
    have P7 := (P5.below hb6 P5.lt).below hb7 (P5.below hb6 P5.lt).lt
    have X7 := (X5.below hb6 X5.lt).below hb7 (X5.below hb6 X5.lt).lt
    have y0 := over_cell (P7.cell (j := 0) rfl)
    have y1 := over_cell (P7.cell (j := 1) rfl)
    have y2 := over_cell (P7.cell (j := 2) rfl)
    have y3 := over_cell (P7.cell (j := 3) rfl)
    have y4 := over_cell (P7.cell (j := 4) rfl)
    have a0 := over_cell (M7.cell (j := 0) rfl)
    have a1 := over_cell (M7.cell (j := 1) rfl)
    have b0 := over_cell (X7.cell (j := 0) rfl)
    have b1 := over_cell (X7.cell (j := 1) rfl)
    have d0 := over_cell (Y7.cell (j := 0) rfl)
    have d1 := over_cell (Y7.cell (j := 1) rfl)
    have I7 := hin.below hb17 hB
    have c9 : ∀ u, Calls Try.prog 9 #[.int .i64 fuel, .int .i64 cells] (over w7 u) fun e w'' => e = .returned (.agg #[.int .i64 (fit fuel 1073741824), .int .i64 (fit cells 100000)]) ∧ ∃ u', w'' = over w7 u' := fun u => Calls.over (new_any fuel cells _)
    have c10 : ∀ u, Calls Try.prog 10 #[.int .i64 fuel, .int .i64 cells] (over w7 u) fun e w'' => e = .returned (.agg #[.int .i64 (fit fuel 1073741824), .int .i64 (fit cells 100000)]) ∧ ∃ u', w'' = over w7 u' := fun u => Calls.over (rnew_any fuel cells _)
    have c11 : ∀ u, Calls Try.prog 11 #[.agg #[.int .i64 f, .int .i64 c], .agg #[.int .i64 T.k, .int .i64 T.n, .string T.s, .slice T.la T.ls.length T.lc, .slice T.a T.args.length T.c]] (over w7 u) fun e w'' => e = .returned (.int .i64 (fitE T c)) ∧ ∃ u', w'' = over w7 u' := fun u => Calls.over (fits_any T f c (over w7 u) B hc (hw hsz) (by omega) (by have := (over_below w7 u).size; omega) (I7.below (over_below w7 u) (by omega)))
    have c12 : ∀ u, Calls Try.prog 12 #[.agg #[.int .i64 f, .int .i64 c], .agg #[.int .i64 T.k, .int .i64 T.n, .string T.s, .slice T.la T.ls.length T.lc, .slice T.a T.args.length T.c]] (over w7 u) fun e w'' => e = .returned (.int .i64 (fitE T c)) ∧ ∃ u', w'' = over w7 u' := fun u => Calls.over (rfits_any T f c (over w7 u) B hc (by omega) (by have := (over_below w7 u).size; omega) (I7.below (over_below w7 u) (by omega)))
    have c13 : ∀ u, Calls Try.prog 13 #[.agg #[.int .i64 f, .int .i64 c], .int .i64 steps] (over w7 u) fun e w'' => e = .returned (.agg #[.int .i64 (max f 0 - min (max steps 0) (max f 0)), .int .i64 c]) ∧ ∃ u', w'' = over w7 u' := fun u => Calls.over (less_any f c steps hf _)
    have c14 : ∀ u, Calls Try.prog 14 #[.agg #[.int .i64 f, .int .i64 c], .int .i64 steps] (over w7 u) fun e w'' => e = .returned (.agg #[.int .i64 (max f 0 - min (max steps 0) (max f 0)), .int .i64 c]) ∧ ∃ u', w'' = over w7 u' := fun u => Calls.over (rless_any f c steps hf _)
    generalize fit fuel 1073741824 = r1 at c9 c10
    generalize fit cells 100000 = r2 at c9 c10
    generalize fitE T c = r3 at c11 c12
    generalize max f 0 - min (max steps 0) (max f 0) = r4 at c13 c14
    have HW7 : Hid (w6.alloc (.cells #[.int .i64 f1, .int .i64 c] 23) = w7) := hw7
    clear ks kr hf1 he1 hw5 hw7 hb1 hb2 hb3 hb4 hb5 hb6 hb7 I7 hin M3 M4 M5 M7 P3 P5 P7 X5 X7 Y7 N4 n0 n1 m0 m1 hb12 hb13 hb14 hb15 hb16
    go_wp2_with fail
    rw [HW7.out]
    refine wp_region_over w7 (Below.refl _ _) (by kernel_rfl) (by kernel_rfl) ?_
    repeat (go_big_quiet_step (first | (go_at_call 9; exact c9 _) | (go_at_call 10; exact c10 _) | (go_at_call 11; exact c11 _) | (go_at_call 12; exact c12 _) | (go_at_call 13; exact c13 _) | (go_at_call 14; exact c14 _)))
    refine wpQuiet_nil ?_
    rintro _ ⟨u, rfl⟩
    go_wp2_with fail
    go_ret
    exact ⟨rfl, hb17.trans ((over_below w7 u).mono (by omega))⟩
  · have hS : min (T.size : Int) (max 3000 0 + 1) = 3001 := by omega
    rw [hS] at h8
    go_wp2_with fail
    refine h8.mono ?_
    rintro e w3 ⟨rfl, hb3⟩
    go_wp2_with fail
    go_ret
    exact ⟨rfl, hb12.trans (hb3.mono hb12.size)⟩

end Go.Proofs.Ytemgmphddmlmlaa
