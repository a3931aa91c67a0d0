/- The walk of TermMay. No condition but that the term lies in memory, the numbers are int's, and that the tables hold what the program's text lays. -/
import Derived.Test.YthoomofmjdhfbaaDoorBg2
import Derived.Test.YthoomofmjdhfbaaDoorRTMay2
namespace Go.Proofs.YthoomofmjdhfbaaDoor
open Go.RowKit

theorem Tr.depth_le (T : Tr) : T.depth ≤ T.size := by
  refine Tr.ind' (P := fun T => T.depth ≤ T.size) ?_ T
  intro T ih
  rw [T.depth_eq, T.size_eq]
  have key : ∀ l : List Tr, (∀ x ∈ l, x.depth ≤ x.size) → Tr.depths l ≤ Tr.sizes l := by
    intro l
    induction l with
    | nil => intro _; simp [Tr.depths, Tr.sizes]
    | cons x r ihr =>
      intro h
      have h1 := h x (by simp)
      have h2 := ihr (fun y hy => h y (by simp [hy]))
      simp only [Tr.depths, Tr.sizes]
      omega
  have := key T.args ih
  omega

set_option maxRecDepth 100000 in
set_option maxHeartbeats 1000000 in
theorem may_law (T : Tr) (bd q most : Int) (w : World) (B : Nat) (hT : Tabs w) (h3 : 3 ≤ B) (hB : B ≤ w.heap.size) (hin : TIn w (· < B) T) (hbd : bd ≤ 9223372036854775807) (hmost : most ≤ 9223372036854775807) :
    Calls Tryd.prog 3 #[T.val, .int .i64 bd, .int .i64 q, .int .i64 most] w fun e w' => e = .returned (.bool true) ∧ Below w.heap.size w w' := by
  obtain ⟨w1, hw1, hb1, P1, hs1⟩ := one_new w ([.int .i64 T.k, .int .i64 T.n, .string T.s, .slice T.la T.ls.length T.lc, .slice T.a T.args.length T.c] : List Value) 25
  have hbeg := begun_any w1 (hT.on hb1) (by omega)
  unfold Tr.val
  go_enter Tryd.func3, Tryd.ntmps3
  go_wp2_with fail
  refine hbeg.mono ?_
  rintro e w2 ⟨rfl, hb2⟩
  have hb12 := hb1.trans (hb2.mono hb1.size)
  have hz2 := hb12.size
  have P2 := P1.below hb2 P1.lt
  have x0 := P2.cell (j := 0) rfl
  have x1 := P2.cell (j := 1) rfl
  have x2 := P2.cell (j := 2) rfl
  have x3 := P2.cell (j := 3) rfl
  have x4 := P2.cell (j := 4) rfl
  have h8 := rsize_any T 3000 w2 B (by omega) (.inl (by omega)) (by omega) (hin.below hb12 hB)
  unfold Tr.val at h8
  clear hbeg hw1
  by_cases hsz : T.size ≤ 3000
  · obtain ⟨S, hS⟩ : ∃ S, min (T.size : Int) (max 3000 0 + 1) = S := ⟨_, rfl⟩
    rw [hS] at h8
    have hle : S ≤ 3000 := by omega
    have hd : decide ((3000 : Int) < S) = false := by simp; omega
    clear hS
    go_wp2_with fail
    refine h8.mono ?_
    rintro e w3 ⟨rfl, hb3⟩
    have hb13 := hb12.trans (hb3.mono hb12.size)
    have hz3 := hb13.size
    have P3 := P2.below hb3 P2.lt
    have y0 := over_cell (P3.cell (j := 0) rfl)
    have y1 := over_cell (P3.cell (j := 1) rfl)
    have y2 := over_cell (P3.cell (j := 2) rfl)
    have y3 := over_cell (P3.cell (j := 3) rfl)
    have y4 := over_cell (P3.cell (j := 4) rfl)
    have T3 := hT.on hb13
    have I3 := hin.below hb13 hB
    have hds := T.depth_le
    have c9 : ∀ u, Calls Tryd.prog 9 #[.agg #[.int .i64 T.k, .int .i64 T.n, .string T.s, .slice T.la T.ls.length T.lc, .slice T.a T.args.length T.c], .int .i64 bd, .int .i64 q] (over w3 u) fun e w'' => e = .returned (.int .i64 (rmayE T bd q)) ∧ ∃ u', w'' = over w3 u' := fun u => Calls.over (by
      have := tmay_any T bd q (over w3 u) B (T3.on (over_below w3 u)) h3 (by have := (over_below w3 u).size; omega) (I3.below (over_below w3 u) (by omega)) (by omega)
      rw [may_same _ _ _ _ (by omega)] at this
      exact this)
    have c10 : ∀ u, Calls Tryd.prog 10 #[.agg #[.int .i64 T.k, .int .i64 T.n, .string T.s, .slice T.la T.ls.length T.lc, .slice T.a T.args.length T.c], .int .i64 bd, .int .i64 q] (over w3 u) fun e w'' => e = .returned (.int .i64 (rmayE T bd q)) ∧ ∃ u', w'' = over w3 u' := fun u => Calls.over (rtmay_any T bd q (over w3 u) B hbd (by have := (over_below w3 u).size; omega) (I3.below (over_below w3 u) (by omega)))
    have c11 : ∀ u, Calls Tryd.prog 11 #[.agg #[.int .i64 T.k, .int .i64 T.n, .string T.s, .slice T.la T.ls.length T.lc, .slice T.a T.args.length T.c], .int .i64 most] (over w3 u) fun e w'' => e = .returned (.int .i64 (min (T.size : Int) (max most 0 + 1))) ∧ ∃ u', w'' = over w3 u' := fun u => Calls.over (size_any T most (over w3 u) B (T3.on (over_below w3 u)) h3 (by have := (over_below w3 u).size; omega) (I3.below (over_below w3 u) (by omega)) (by omega))
    have c8 : ∀ u, Calls Tryd.prog 8 #[.agg #[.int .i64 T.k, .int .i64 T.n, .string T.s, .slice T.la T.ls.length T.lc, .slice T.a T.args.length T.c], .int .i64 most] (over w3 u) fun e w'' => e = .returned (.int .i64 (min (T.size : Int) (max most 0 + 1))) ∧ ∃ u', w'' = over w3 u' := fun u => Calls.over (rsize_any T most (over w3 u) B hmost (.inr (by omega)) (by have := (over_below w3 u).size; omega) (I3.below (over_below w3 u) (by omega)))
    have c12 : ∀ u, Calls Tryd.prog 12 #[.agg #[.int .i64 T.k, .int .i64 T.n, .string T.s, .slice T.la T.ls.length T.lc, .slice T.a T.args.length T.c], .int .i64 most] (over w3 u) fun e w'' => e = .returned (.int .i64 (min (T.depth : Int) (max most 0 + 1))) ∧ ∃ u', w'' = over w3 u' := fun u => Calls.over (depth_any T most (over w3 u) B (T3.on (over_below w3 u)) h3 (by have := (over_below w3 u).size; omega) (I3.below (over_below w3 u) (by omega)) (by omega))
    have c13 : ∀ u, Calls Tryd.prog 13 #[.agg #[.int .i64 T.k, .int .i64 T.n, .string T.s, .slice T.la T.ls.length T.lc, .slice T.a T.args.length T.c], .int .i64 most] (over w3 u) fun e w'' => e = .returned (.int .i64 (min (T.depth : Int) (max most 0 + 1))) ∧ ∃ u', w'' = over w3 u' := fun u => Calls.over (rdepth_any T most (over w3 u) B hmost (.inr (by omega)) (by have := (over_below w3 u).size; omega) (I3.below (over_below w3 u) (by omega)))
    generalize rmayE T bd q = r1 at c9 c10
    generalize min (T.size : Int) (max most 0 + 1) = r2 at c8 c11
    generalize min (T.depth : Int) (max most 0 + 1) = r3 at c12 c13
    clear h8 x0 x1 x2 x3 x4 P2 P1
    go_wp2_with fail
    refine wp_region_over w3 (Below.refl _ _) (by kernel_rfl) (by kernel_rfl) ?_
    repeat (go_big_quiet_step (first | (go_at_call 9; exact c9 _) | (go_at_call 10; exact c10 _) | (go_at_call 11; exact c11 _) | (go_at_call 8; exact c8 _) | (go_at_call 12; exact c12 _) | (go_at_call 13; exact c13 _)))
    refine wpQuiet_nil ?_
    rintro _ ⟨u, rfl⟩
    go_wp2_with fail
    go_ret
    exact ⟨rfl, hb13.trans ((over_below w3 u).mono (by omega))⟩
  · have hS : min (T.size : Int) (max 3000 0 + 1) = 3001 := by omega
    rw [hS] at h8
    go_wp2_with fail
    refine h8.mono ?_
    rintro e w3 ⟨rfl, hb3⟩
    go_wp2_with fail
    go_ret
    exact ⟨rfl, hb12.trans (hb3.mono hb12.size)⟩
end Go.Proofs.YthoomofmjdhfbaaDoor
