/- The walk of the document's Fits. No condition but that the term lies in memory, and has at most 2^62 parts. -/
import Derived.Test.YtemgmphddmlmlaaRLvs
namespace Go.Proofs.Ytemgmphddmlmlaa
open Go.RowKit

/-- What Fits answers. -/
def fitE (T : Tr) (c : Int) : Int := if (T.size : Int) ≤ max c 0 ∧ T.fit = true then 0 else 12

set_option maxRecDepth 100000 in
set_option maxHeartbeats 400000 in
theorem rfits_any (T : Tr) (f c : Int) (w : World) (B : Nat) (hc : c ≤ 9223372036854775807) (hsz : T.size ≤ 4611686018427387904) (hB : B ≤ w.heap.size) (hin : TIn w (· < B) T) :
    Calls Try.prog 12 #[mv f c, T.val] w fun e w' => e = .returned (.int .i64 (fitE T c)) ∧ Below w.heap.size w w' := by
  obtain ⟨w1, hw1, hb1, P0, P1, hs1⟩ := two_new w ([.int .i64 f, .int .i64 c] : List Value) (tl T) 23 27
  have x0 := over_cell (P0.cell (j := 0) rfl)
  have x1 := over_cell (P0.cell (j := 1) rfl)
  have y0 := over_cell (P1.cell (j := 0) rfl)
  have y1 := over_cell (P1.cell (j := 1) rfl)
  have y2 := over_cell (P1.cell (j := 2) rfl)
  have y3 := over_cell (P1.cell (j := 3) rfl)
  have y4 := over_cell (P1.cell (j := 4) rfl)
  have I1 := hin.below hb1 hB
  obtain ⟨m, hm⟩ : ∃ m : Int, max c 0 = m := ⟨_, rfl⟩
  have c6 : ∀ u, Calls Try.prog 6 #[.agg #[.int .i64 T.k, .int .i64 T.n, .string T.s, .slice T.la T.ls.length T.lc, .slice T.a T.args.length T.c], .int .i64 m] (over w1 u) fun e w'' => e = .returned (.int .i64 (min (T.size : Int) (m + 1))) ∧ ∃ u', w'' = over w1 u' := fun u => Calls.over (by
    have := rsize_any T m (over w1 u) B (by omega) (.inr hsz) (by have := (over_below w1 u).size; omega) (I1.below (over_below w1 u) (by omega))
    rw [show max m 0 = m by omega] at this
    exact this)
  have c16 : ∀ u, Calls Try.prog 16 #[.agg #[.int .i64 T.k, .int .i64 T.n, .string T.s, .slice T.la T.ls.length T.lc, .slice T.a T.args.length T.c]] (over w1 u) fun e w'' => e = .returned (.bool T.fit) ∧ ∃ u', w'' = over w1 u' := fun u => Calls.over (rlevels_any T (over w1 u) B (by have := (over_below w1 u).size; omega) (I1.below (over_below w1 u) (by omega)))
  have HW : Hid (((w.alloc (.cells #[.int .i64 f, .int .i64 c] 23)).alloc (.cells (tl T).toArray 27)) = w1) := hw1
  clear hw1
  unfold fitE
  rw [hm]
  unfold mv Tr.val
  unfold tl at HW
  have hmax : (if c < 0 then (0 : Int) else c) = m := by rw [← hm]; split <;> omega
  obtain ⟨q, hq⟩ : ∃ q : Int, min (T.size : Int) (m + 1) = q := ⟨_, rfl⟩
  rw [hq] at c6
  have HF : Hid (∀ u, Below w.heap.size w (over w1 u)) := fun u => hb1.trans ((over_below w1 u).mono hb1.size)
  clear P0 P1 I1 hb1 hin hs1
  by_cases hs : (T.size : Int) ≤ m
  · have hd : decide (m < q) = false := by simp; omega
    clear hm hq
    cases hf : T.fit
    · rw [hf] at c16
      rw [if_neg (by simp)]
      clear hf hs
      go_enter Try.func12, Try.ntmps12
      go_wp2_with fail
      rw [HW.out]
      refine wp_region_over w1 (Below.refl _ _) (by kernel_rfl) (by kernel_rfl) ?_
      repeat (go_big_quiet_step (first | (go_at_call 6; exact c6 _) | (go_at_call 16; exact c16 _)))
      refine wpQuiet_nil ?_
      rintro _ ⟨u, rfl⟩
      go_wp2_with fail
      go_ret
      exact ⟨rfl, HF.out u⟩
    · rw [hf] at c16
      rw [if_pos ⟨hs, rfl⟩]
      clear hf hs
      go_enter Try.func12, Try.ntmps12
      go_wp2_with fail
      rw [HW.out]
      refine wp_region_over w1 (Below.refl _ _) (by kernel_rfl) (by kernel_rfl) ?_
      repeat (go_big_quiet_step (first | (go_at_call 6; exact c6 _) | (go_at_call 16; exact c16 _)))
      refine wpQuiet_nil ?_
      rintro _ ⟨u, rfl⟩
      go_wp2_with fail
      go_ret
      exact ⟨rfl, HF.out u⟩
  · have hd : decide (m < q) = true := by simp; omega
    rw [if_neg (fun h => hs h.1)]
    clear hm hq hs c16
    go_enter Try.func12, Try.ntmps12
    go_wp2_with fail
    rw [HW.out]
    refine wp_region_over w1 (Below.refl _ _) (by kernel_rfl) (by kernel_rfl) ?_
    repeat (go_big_quiet_step (first | (go_at_call 6; exact c6 _)))
    refine wpQuiet_nil ?_
    rintro _ ⟨u, rfl⟩
    go_wp2_with fail
    go_ret
    exact ⟨rfl, HF.out u⟩

end Go.Proofs.Ytemgmphddmlmlaa
