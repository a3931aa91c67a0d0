/- The walks of level.values' zero, succ, greater, imax, param, and so of its of. No condition but that what was given is a level that may be, in memory. -/
import Derived.Test.YtogfmpjgmabomaaDoorOf
import Derived.Test.YtogfmpjgmabomaaDoorOver
namespace Go.Proofs.YtogfmpjgmabomaaDoor
open Go.RowKit

theorem two_new (w : World) (c d : List Value) (s t : TypeId) : ∃ w1, (w.alloc (.cells c.toArray s)).alloc (.cells d.toArray t) = w1 ∧ Below w.heap.size w w1 ∧ Blk w1 w.heap.size s c ∧ Blk w1 (w.heap.size + 1) t d ∧ w1.heap.size = w.heap.size + 2 := by
  refine ⟨_, rfl, ((Below.refl _ _).alloc (Nat.le_refl _) _).alloc (by simp) _, (Blk.new _ _ _).alloc _, ?_, by simp⟩
  have := Blk.new (w.alloc (.cells c.toArray s)) t d
  simpa using this

set_option maxRecDepth 100000 in
set_option maxHeartbeats 400000 in
theorem zero_any (v : Nat → Nat) (w : World) (a : Option Addr) (cap : Nat) :
    Calls Tryd.prog 49 #[.agg #[.int .i64 ((v 0 : Nat) : Int), .int .i64 ((v 1 : Nat) : Int), .int .i64 ((v 2 : Nat) : Int), .int .i64 ((v 3 : Nat) : Int)], .agg #[.int .i64 0, .int .i64 0, .slice a 0 cap]] w fun e w' => e = .returned (.int .i64 ((0 : Nat) : Int)) ∧ Below w.heap.size w w' := by
  obtain ⟨w1, hw1, hb1, _, _, _⟩ := two_new w [.int .i64 ((v 0 : Nat) : Int), .int .i64 ((v 1 : Nat) : Int), .int .i64 ((v 2 : Nat) : Int), .int .i64 ((v 3 : Nat) : Int)] [.int .i64 0, .int .i64 0, .slice a 0 cap] 53 24
  go_enter Tryd.func49, Tryd.ntmps49
  go_wp2_with fail
  go_ret
  exact ⟨rfl, hb1⟩

set_option maxRecDepth 100000 in
set_option maxHeartbeats 400000 in
theorem param_any (v : Nat → Nat) (w : World) (n : Nat) (a : Option Addr) (cap : Nat) (hn : n < 4) :
    Calls Tryd.prog 53 #[.agg #[.int .i64 ((v 0 : Nat) : Int), .int .i64 ((v 1 : Nat) : Int), .int .i64 ((v 2 : Nat) : Int), .int .i64 ((v 3 : Nat) : Int)], .agg #[.int .i64 4, .int .i64 (n : Int), .slice a 0 cap]] w fun e w' => e = .returned (.int .i64 ((v n : Nat) : Int)) ∧ Below w.heap.size w w' := by
  obtain ⟨w1, hw1, hb1, X, Y, hs⟩ := two_new w [.int .i64 ((v 0 : Nat) : Int), .int .i64 ((v 1 : Nat) : Int), .int .i64 ((v 2 : Nat) : Int), .int .i64 ((v 3 : Nat) : Int)] [.int .i64 4, .int .i64 (n : Int), .slice a 0 cap] 53 24
  have hc : w1.cell? ⟨w.heap.size, n, none⟩ = some (.int .i64 ((v n : Nat) : Int)) := by
    match n, hn with
    | 0, _ => exact X.cell rfl
    | 1, _ => exact X.cell rfl
    | 2, _ => exact X.cell rfl
    | 3, _ => exact X.cell rfl
  have y1 := Y.cell (j := 1) rfl
  go_enter Tryd.func53, Tryd.ntmps53
  go_wp2_with fail
  go_ret
  exact ⟨rfl, hb1⟩

set_option maxRecDepth 100000 in
set_option maxHeartbeats 400000 in
theorem succ_any (x : Lv) (r : Nat) (v : Nat → Nat) (w : World) (B : Nat) (a : Option Addr) (cap : Nat) (hB : B ≤ w.heap.size) (hN : Node w (· < B) 1 0 [x] a cap) (hr : r < 9223372036854775807)
    (hx : ∀ (w : World) (val : Value), B ≤ w.heap.size → In w (· < B) x val → Calls Tryd.prog 38 #[.agg #[.int .i64 ((v 0 : Nat) : Int), .int .i64 ((v 1 : Nat) : Int), .int .i64 ((v 2 : Nat) : Int), .int .i64 ((v 3 : Nat) : Int)], val] w fun e w' => e = .returned (.int .i64 (r : Int)) ∧ Below w.heap.size w w') :
    Calls Tryd.prog 50 #[.agg #[.int .i64 ((v 0 : Nat) : Int), .int .i64 ((v 1 : Nat) : Int), .int .i64 ((v 2 : Nat) : Int), .int .i64 ((v 3 : Nat) : Int)], .agg #[.int .i64 1, .int .i64 0, .slice a 1 cap]] w fun e w' => e = .returned (.int .i64 ((r + 1 : Nat) : Int)) ∧ Below w.heap.size w w' := by
  obtain ⟨w1, hw1, hb1, X, Y, hs⟩ := two_new w [.int .i64 ((v 0 : Nat) : Int), .int .i64 ((v 1 : Nat) : Int), .int .i64 ((v 2 : Nat) : Int), .int .i64 ((v 3 : Nat) : Int)] [.int .i64 1, .int .i64 0, .slice a 1 cap] 53 24
  have hlen := hN.le
  have hmx := hN.max
  have N1 := hN.below hb1 hB
  obtain ⟨b, off, k0, n0, args0, a0, cap0, rfl, hS, rfl, e0, e1, e2, M0⟩ := N1.get (i := 0) rfl
  simp only [Nat.zero_mul, Nat.add_zero] at e0 e1 e2
  have E0 := over_cell e0
  have E1 := over_cell e1
  have E2 := over_cell e2
  have x0 := over_cell (X.cell (j := 0) rfl)
  have x1 := over_cell (X.cell (j := 1) rfl)
  have x2 := over_cell (X.cell (j := 2) rfl)
  have x3 := over_cell (X.cell (j := 3) rfl)
  have y2 := over_cell (Y.cell (j := 2) rfl)
  simp at hlen
  go_enter Tryd.func50, Tryd.ntmps50
  go_wp2_with fail
  refine wp_region_over w1 (Below.refl _ _) (by kernel_rfl) (by kernel_rfl) ?_
  repeat (go_big_quiet_step (first | (go_at_call 38; exact Calls.over (hx _ _ (Nat.le_trans hB (Nat.le_trans hb1.size (over_below w1 _).size)) (M0.below (over_below w1 _) (by omega)).is))))
  refine wpQuiet_nil ?_
  rintro _ ⟨u, rfl⟩
  go_wp2_with fail
  go_ret
  exact ⟨ret_int (by first | omega | (rw [IntKind.wrap_i64, wrap64_in _ (by omega)]; omega)), hb1.trans ((over_below w1 u).mono (by omega))⟩

set_option maxRecDepth 100000 in
set_option maxHeartbeats 400000 in
theorem greater_any (x y : Lv) (r s : Nat) (v : Nat → Nat) (w : World) (B : Nat) (a : Option Addr) (cap : Nat) (hB : B ≤ w.heap.size) (hN : Node w (· < B) 2 0 [x, y] a cap)
    (hx : ∀ (w : World) (val : Value), B ≤ w.heap.size → In w (· < B) x val → Calls Tryd.prog 38 #[.agg #[.int .i64 ((v 0 : Nat) : Int), .int .i64 ((v 1 : Nat) : Int), .int .i64 ((v 2 : Nat) : Int), .int .i64 ((v 3 : Nat) : Int)], val] w fun e w' => e = .returned (.int .i64 (r : Int)) ∧ Below w.heap.size w w')
    (hy : ∀ (w : World) (val : Value), B ≤ w.heap.size → In w (· < B) y val → Calls Tryd.prog 38 #[.agg #[.int .i64 ((v 0 : Nat) : Int), .int .i64 ((v 1 : Nat) : Int), .int .i64 ((v 2 : Nat) : Int), .int .i64 ((v 3 : Nat) : Int)], val] w fun e w' => e = .returned (.int .i64 (s : Int)) ∧ Below w.heap.size w w') :
    Calls Tryd.prog 51 #[.agg #[.int .i64 ((v 0 : Nat) : Int), .int .i64 ((v 1 : Nat) : Int), .int .i64 ((v 2 : Nat) : Int), .int .i64 ((v 3 : Nat) : Int)], .agg #[.int .i64 2, .int .i64 0, .slice a 2 cap]] w fun e w' => e = .returned (.int .i64 ((Nat.max r s : Nat) : Int)) ∧ Below w.heap.size w w' := by
  obtain ⟨w1, hw1, hb1, X, Y, hs⟩ := two_new w [.int .i64 ((v 0 : Nat) : Int), .int .i64 ((v 1 : Nat) : Int), .int .i64 ((v 2 : Nat) : Int), .int .i64 ((v 3 : Nat) : Int)] [.int .i64 2, .int .i64 0, .slice a 2 cap] 53 24
  have hlen := hN.le
  have hmx := hN.max
  have N1 := hN.below hb1 hB
  obtain ⟨b, off, k0, n0, args0, a0, cap0, rfl, hS, rfl, e0, e1, e2, M0⟩ := N1.get (i := 0) rfl
  simp only [Nat.zero_mul, Nat.add_zero] at e0 e1 e2
  have E0 := over_cell e0
  have E1 := over_cell e1
  have E2 := over_cell e2
  obtain ⟨b', off', k1, n1, args1, a1, cap1, hab, hS', rfl, d0, d1, d2, M1⟩ := N1.get (i := 1) rfl
  simp only [Option.some.injEq, Addr.mk.injEq, and_true] at hab
  obtain ⟨rfl, rfl⟩ := hab
  simp only [Nat.one_mul] at d0 d1 d2
  have D0 := over_cell d0
  have D1 := over_cell d1
  have D2 := over_cell d2
  have x0 := over_cell (X.cell (j := 0) rfl)
  have x1 := over_cell (X.cell (j := 1) rfl)
  have x2 := over_cell (X.cell (j := 2) rfl)
  have x3 := over_cell (X.cell (j := 3) rfl)
  have y2 := over_cell (Y.cell (j := 2) rfl)
  simp at hlen
  go_enter Tryd.func51, Tryd.ntmps51
  go_wp2_with fail
  refine wp_region_over w1 (Below.refl _ _) (by kernel_rfl) (by kernel_rfl) ?_
  repeat (go_big_quiet_step (first | (go_at_call 38; exact Calls.over (hx _ _ (Nat.le_trans hB (Nat.le_trans hb1.size (over_below w1 _).size)) (M0.below (over_below w1 _) (by omega)).is)) | (go_at_call 38; exact Calls.over (hy _ _ (Nat.le_trans hB (Nat.le_trans hb1.size (over_below w1 _).size)) (M1.below (over_below w1 _) (by omega)).is))))
  refine wpQuiet_nil ?_
  rintro _ ⟨u, rfl⟩
  go_wp2_with fail
  all_goals
    go_ret
    exact ⟨ret_int (by simp only [Nat.max_def]; split <;> omega), hb1.trans ((over_below w1 u).mono (by omega))⟩

set_option maxRecDepth 100000 in
set_option maxHeartbeats 400000 in
theorem imax_any (x y : Lv) (r s : Nat) (v : Nat → Nat) (w : World) (B : Nat) (a : Option Addr) (cap : Nat) (hB : B ≤ w.heap.size) (hN : Node w (· < B) 3 0 [x, y] a cap)
    (hx : ∀ (w : World) (val : Value), B ≤ w.heap.size → In w (· < B) x val → Calls Tryd.prog 38 #[.agg #[.int .i64 ((v 0 : Nat) : Int), .int .i64 ((v 1 : Nat) : Int), .int .i64 ((v 2 : Nat) : Int), .int .i64 ((v 3 : Nat) : Int)], val] w fun e w' => e = .returned (.int .i64 (r : Int)) ∧ Below w.heap.size w w')
    (hy : ∀ (w : World) (val : Value), B ≤ w.heap.size → In w (· < B) y val → Calls Tryd.prog 38 #[.agg #[.int .i64 ((v 0 : Nat) : Int), .int .i64 ((v 1 : Nat) : Int), .int .i64 ((v 2 : Nat) : Int), .int .i64 ((v 3 : Nat) : Int)], val] w fun e w' => e = .returned (.int .i64 (s : Int)) ∧ Below w.heap.size w w') :
    Calls Tryd.prog 52 #[.agg #[.int .i64 ((v 0 : Nat) : Int), .int .i64 ((v 1 : Nat) : Int), .int .i64 ((v 2 : Nat) : Int), .int .i64 ((v 3 : Nat) : Int)], .agg #[.int .i64 3, .int .i64 0, .slice a 2 cap]] w fun e w' => e = .returned (.int .i64 ((if s = 0 then 0 else Nat.max r s : Nat) : Int)) ∧ Below w.heap.size w w' := by
  obtain ⟨w1, hw1, hb1, X, Y, hs⟩ := two_new w [.int .i64 ((v 0 : Nat) : Int), .int .i64 ((v 1 : Nat) : Int), .int .i64 ((v 2 : Nat) : Int), .int .i64 ((v 3 : Nat) : Int)] [.int .i64 3, .int .i64 0, .slice a 2 cap] 53 24
  have hlen := hN.le
  have hmx := hN.max
  have N1 := hN.below hb1 hB
  obtain ⟨b, off, k0, n0, args0, a0, cap0, rfl, hS, rfl, e0, e1, e2, M0⟩ := N1.get (i := 0) rfl
  simp only [Nat.zero_mul, Nat.add_zero] at e0 e1 e2
  have E0 := over_cell e0
  have E1 := over_cell e1
  have E2 := over_cell e2
  obtain ⟨b', off', k1, n1, args1, a1, cap1, hab, hS', rfl, d0, d1, d2, M1⟩ := N1.get (i := 1) rfl
  simp only [Option.some.injEq, Addr.mk.injEq, and_true] at hab
  obtain ⟨rfl, rfl⟩ := hab
  simp only [Nat.one_mul] at d0 d1 d2
  have D0 := over_cell d0
  have D1 := over_cell d1
  have D2 := over_cell d2
  have x0 := over_cell (X.cell (j := 0) rfl)
  have x1 := over_cell (X.cell (j := 1) rfl)
  have x2 := over_cell (X.cell (j := 2) rfl)
  have x3 := over_cell (X.cell (j := 3) rfl)
  have y2 := over_cell (Y.cell (j := 2) rfl)
  simp at hlen
  by_cases h0 : s = 0
  · subst h0
    go_enter Tryd.func52, Tryd.ntmps52
    go_wp2_with fail
    refine wp_region_over w1 (Below.refl _ _) (by kernel_rfl) (by kernel_rfl) ?_
    repeat (go_big_quiet_step (first | (go_at_call 38; exact Calls.over (hy _ _ (Nat.le_trans hB (Nat.le_trans hb1.size (over_below w1 _).size)) (M1.below (over_below w1 _) (by omega)).is))))
    refine wpQuiet_nil ?_
    rintro _ ⟨u, rfl⟩
    go_wp2_with fail
    go_ret
    exact ⟨rfl, hb1.trans ((over_below w1 u).mono (by omega))⟩
  · rw [if_neg h0]
    go_enter Tryd.func52, Tryd.ntmps52
    go_wp2_with fail
    refine wp_region_over w1 (Below.refl _ _) (by kernel_rfl) (by kernel_rfl) ?_
    repeat (go_big_quiet_step (first | (go_at_call 38; exact Calls.over (hy _ _ (Nat.le_trans hB (Nat.le_trans hb1.size (over_below w1 _).size)) (M1.below (over_below w1 _) (by omega)).is))))
    refine wpQuiet_nil ?_
    rintro _ ⟨u, rfl⟩
    go_wp2_with fail
    refine wp_region_over w1 (over_below w1 _) (by kernel_rfl) (by kernel_rfl) ?_
    repeat (go_big_quiet_step (first | (go_at_call 38; exact Calls.over (hx _ _ (Nat.le_trans hB (Nat.le_trans hb1.size (over_below w1 _).size)) (M0.below (over_below w1 _) (by omega)).is))))
    refine wpQuiet_nil ?_
    rintro _ ⟨u, rfl⟩
    go_wp2_with fail
    all_goals
      go_ret
      exact ⟨ret_int (by simp only [Nat.max_def]; split <;> omega), hb1.trans ((over_below w1 _).mono (by omega))⟩

theorem of_any (v : Nat → Nat) (hv : ∀ i, v i ≤ 1099511627776) (l : Lev) : ∀ (w : World) (B : Nat) (val : Value), l.low 4 → l.size ≤ 65536 → B ≤ w.heap.size → In w (· < B) l.lv val →
    Calls Tryd.prog 38 #[.agg #[.int .i64 ((v 0 : Nat) : Int), .int .i64 ((v 1 : Nat) : Int), .int .i64 ((v 2 : Nat) : Int), .int .i64 ((v 3 : Nat) : Int)], val] w fun e w' => e = .returned (.int .i64 ((l.val v : Nat) : Int)) ∧ Below w.heap.size w w' := by
  induction l with
  | zero =>
    intro w B val _ _ hB hin
    obtain ⟨a, cap, rfl, hN⟩ := hin.node
    exact of_0 0 0 [] a cap v w (fun w' _ => zero_any v w' a cap)
  | par n =>
    intro w B val hl _ hB hin
    obtain ⟨a, cap, rfl, hN⟩ := hin.node
    exact of_4 (v n) n [] a cap v w (fun w' _ => param_any v w' n a cap hl)
  | succ x ih =>
    intro w B val hl hs hB hin
    obtain ⟨a, cap, rfl, hN⟩ := hin.node
    simp only [Lev.size] at hs
    have hle := Lev.val_le x v 1099511627776 hv
    exact of_1 (x.val v + 1) 0 [x.lv] a cap v w (fun w' hb => succ_any x.lv (x.val v) v w' B a cap (Nat.le_trans hB hb.size) (hN.below hb hB) (by omega) (fun w'' val hB' hin' => ih w'' B val hl (by omega) hB' hin'))
  | max x y ihx ihy =>
    intro w B val hl hs hB hin
    obtain ⟨a, cap, rfl, hN⟩ := hin.node
    simp only [Lev.size] at hs
    exact of_2 (Nat.max (x.val v) (y.val v)) 0 [x.lv, y.lv] a cap v w (fun w' hb => greater_any x.lv y.lv (x.val v) (y.val v) v w' B a cap (Nat.le_trans hB hb.size) (hN.below hb hB)
      (fun w'' val hB' hin' => ihx w'' B val hl.1 (by omega) hB' hin') (fun w'' val hB' hin' => ihy w'' B val hl.2 (by omega) hB' hin'))
  | imax x y ihx ihy =>
    intro w B val hl hs hB hin
    obtain ⟨a, cap, rfl, hN⟩ := hin.node
    simp only [Lev.size] at hs
    exact of_3 (if y.val v = 0 then 0 else Nat.max (x.val v) (y.val v)) 0 [x.lv, y.lv] a cap v w (fun w' hb => imax_any x.lv y.lv (x.val v) (y.val v) v w' B a cap (Nat.le_trans hB hb.size) (hN.below hb hB)
      (fun w'' val hB' hin' => ihx w'' B val hl.1 (by omega) hB' hin') (fun w'' val hB' hin' => ihy w'' B val hl.2 (by omega) hB' hin'))
end Go.Proofs.YtogfmpjgmabomaaDoor
