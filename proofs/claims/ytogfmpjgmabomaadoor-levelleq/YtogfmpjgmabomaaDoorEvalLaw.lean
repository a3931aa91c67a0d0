/- The walk of LevelEval. No condition but that what was given is a level, and numbers, in memory, and that the tables hold what the program's text lays. -/
import Derived.Test.YtogfmpjgmabomaaDoorREval
namespace Go.Proofs.YtogfmpjgmabomaaDoor
open Go.RowKit

/-- A row of one level, of two, just made. -/
theorem node_one {w : World} {x : Lv} {x0 x1 x2 : Value} (hx : In w (· < w.heap.size) x (.agg #[x0, x1, x2])) {w' : World} (hb : Below w.heap.size w w') (hR : Blk w' w.heap.size 24 [x0, x1, x2]) : Node w' (· < w'.heap.size) 0 0 [x] (some ⟨w.heap.size, 0, none⟩) 1 :=
  ((in_one hx (fun _ h => h) 0 (by omega) hb hR).mono (fun b h => by have := hR.lt; have := hb.size; omega)).agg.2.2.2
theorem node_two {w : World} {x y : Lv} {x0 x1 x2 y0 y1 y2 : Value} (hx : In w (· < w.heap.size) x (.agg #[x0, x1, x2])) (hy : In w (· < w.heap.size) y (.agg #[y0, y1, y2])) {w' : World} (hb : Below w.heap.size w w') (hR : Blk w' w.heap.size 24 [x0, x1, x2, y0, y1, y2]) : Node w' (· < w'.heap.size) 0 0 [x, y] (some ⟨w.heap.size, 0, none⟩) 2 :=
  ((in_two hx hy (fun _ h => h) 0 (by omega) hb hR).mono (fun b h => by have := hR.lt; have := hb.size; omega)).agg.2.2.2

set_option maxRecDepth 100000 in
set_option maxHeartbeats 400000 in
theorem evalLaw_walk (L : Lv) (ao : Option Addr) (n cap' : Nat) (zs : List Int) (w : World) (v : Value) (hT : Tabs w) (hin : In w (· < w.heap.size) L v) (hI : Ints w w.heap.size ao n cap' zs) :
    Calls Tryd.prog 4 #[v, .slice ao n cap'] w fun e w' => e = .returned (.bool true) ∧ Below w.heap.size w w' := by
  obtain ⟨k, m, args⟩ := L
  obtain ⟨a, cap, rfl, hN⟩ := hin.node
  have hlt := hT.lt
  have hle := hI.le
  have hmx := hI.max
  obtain ⟨w1, hw1, hb1, P1, hs1⟩ := one_new w [.int .i64 k, .int .i64 m, .slice a args.length cap] 24
  have hbg := begun_any w1 (hT.on hb1)
  have hlight : ∀ w2, Below w.heap.size w w2 → ∃ w3, w2.alloc (.cells #[.int .i64 k, .int .i64 m, .slice a args.length cap] 24) = w3 ∧ Below w2.heap.size w2 w3 ∧ Calls Tryd.prog 12 #[.slice (some ⟨w2.heap.size, 0, none⟩) 1 1] w3 fun e w' => e = .returned (.bool (mayB (.mk k m args) 4)) ∧ Below w3.heap.size w3 w' := fun w2 h2 => by
    obtain ⟨w3, hw3, hb3, X3, _⟩ := one_new w2 [.int .i64 k, .int .i64 m, .slice a args.length cap] 24
    have := light_any [.mk k m args] _ 1 w3 w3.heap.size (Nat.le_refl _) (node_one ((hin.below h2 (Nat.le_refl _)).up h2.size) hb3 X3)
    simp only [List.all_cons, List.all_nil, Bool.and_true] at this
    exact ⟨w3, hw3, hb3, this⟩
  have ARM : ∀ w2, Below w1.heap.size w1 w2 → Below w.heap.size w w2 ∧ Blk w2 w.heap.size 24 [.int .i64 k, .int .i64 m, .slice a args.length cap] := fun w2 h2 => ⟨hb1.trans (h2.mono (by omega)), P1.below h2 (by omega)⟩
  cases hmay : mayB (.mk k m args) 4 with
  | false =>
    rw [hmay] at hlight
    go_enter Tryd.func4, Tryd.ntmps4
    go_wp2_with (first
      | (go_at_call 9; go_must (refine hbg.mono ?_); rintro e w2 ⟨rfl, hb2⟩; obtain ⟨hb02, P2⟩ := ARM w2 hb2; have p0 := P2.cell (j := 0) rfl; have p1 := P2.cell (j := 1) rfl; have p2 := P2.cell (j := 2) rfl; obtain ⟨w3, hw3, hb3, hc3⟩ := hlight w2 hb02)
      | (go_at_call 12; go_must (refine hc3.mono ?_); rintro e w4 ⟨rfl, hb4⟩))
    go_ret
    exact ⟨rfl, (hb02.trans (hb3.mono hb02.size)).trans (hb4.mono (Nat.le_trans hb02.size hb3.size))⟩
  | true =>
    rw [hmay] at hlight
    obtain ⟨l, hl, hf, hs64⟩ := fine_of_may hmay
    have HL : Hid (Lv.mk k m args = l.lv) := hl
    clear hl
    by_cases h20 : 20 < n
    · go_enter Tryd.func4, Tryd.ntmps4
      go_wp2_with (first
        | (go_at_call 9; go_must (refine hbg.mono ?_); rintro e w2 ⟨rfl, hb2⟩; obtain ⟨hb02, P2⟩ := ARM w2 hb2; have p0 := P2.cell (j := 0) rfl; have p1 := P2.cell (j := 1) rfl; have p2 := P2.cell (j := 2) rfl; obtain ⟨w3, hw3, hb3, hc3⟩ := hlight w2 hb02)
        | (go_at_call 12; go_must (refine hc3.mono ?_); rintro e w4 ⟨rfl, hb4⟩))
      go_ret
      exact ⟨rfl, (hb02.trans (hb3.mono hb02.size)).trans (hb4.mono (Nat.le_trans hb02.size hb3.size))⟩
    · go_enter Tryd.func4, Tryd.ntmps4
      go_wp2_with (first
        | (go_at_call 9; go_must (refine hbg.mono ?_); rintro e w2 ⟨rfl, hb2⟩; obtain ⟨hb02, P2⟩ := ARM w2 hb2; have p0 := P2.cell (j := 0) rfl; have p1 := P2.cell (j := 1) rfl; have p2 := P2.cell (j := 2) rfl; obtain ⟨w3, hw3, hb3, hc3⟩ := hlight w2 hb02)
        | (go_at_call 12; go_must (refine hc3.mono ?_); rintro e w4 ⟨rfl, hb4⟩))
      have hb04 : Below w.heap.size w w4 := (hb02.trans (hb3.mono hb02.size)).trans (hb4.mono (Nat.le_trans hb02.size hb3.size))
      have P4 := (P2.below hb3 P2.lt).below hb4 (Nat.lt_of_lt_of_le P2.lt hb3.size)
      have q0 := over_cell (P4.cell (j := 0) rfl)
      have q1 := over_cell (P4.cell (j := 1) rfl)
      have q2 := over_cell (P4.cell (j := 2) rfl)
      have hbu : ∀ u, Below w.heap.size w (over w4 u) := fun u => hb04.trans ((over_below w4 u).mono hb04.size)
      have hin' := hin
      rw [HL.out] at hin'
      refine wp_region_over w4 (Below.refl _ _) (by kernel_rfl) (by kernel_rfl) ?_
      repeat (go_big_quiet_step (first
        | (go_at_call 13; exact Calls.over (eval_any l hf ao n cap' zs _ w.heap.size _ (by omega) (hbu _).size (hT.on (hbu _)) (hin'.below (hbu _) (Nat.le_refl _)) (hI.below (hbu _) (Nat.le_refl _))))
        | (go_at_call 14; exact Calls.over (reval_any zs l _ w.heap.size _ ao n cap' hf.low hf.size (hbu _).size (hin'.below (hbu _) (Nat.le_refl _)) (hI.below (hbu _) (Nat.le_refl _))))))
      refine wpQuiet_nil ?_
      rintro _ ⟨u, rfl⟩
      go_wp2_with fail
      go_ret
      exact ⟨ret_bool (by simp), hbu u⟩
end Go.Proofs.YtogfmpjgmabomaaDoor
