/- The walk of LevelMay. No condition but that what was given is a level in memory, and that the tables hold what the program's text lays. -/
import Derived.Test.YtogfmpjgmabomaaDoorBegun
namespace Go.Proofs.YtogfmpjgmabomaaDoor
open Go.RowKit

set_option maxRecDepth 100000 in
set_option maxHeartbeats 400000 in
theorem mayLaw_walk (L : Lv) (params : Int) (w : World) (v : Value) (hT : Tabs w) (hin : In w (· < w.heap.size) L v) :
    Calls Tryd.prog 3 #[v, .int .i64 params] w fun e w' => e = .returned (.bool true) ∧ Below w.heap.size w w' := by
  obtain ⟨k, n, args⟩ := L
  obtain ⟨a, cap, rfl, hN⟩ := hin.node
  have hlt := hT.lt
  obtain ⟨w1, hw1, hb1, P1, hs1⟩ := one_new w [.int .i64 k, .int .i64 n, .slice a args.length cap] 24
  have p0 := over_cell (P1.cell (j := 0) rfl)
  have p1 := over_cell (P1.cell (j := 1) rfl)
  have p2 := over_cell (P1.cell (j := 2) rfl)
  have hbu : ∀ u, Below w.heap.size w (over w1 u) := fun u => hb1.trans ((over_below w1 u).mono hb1.size)
  go_enter Tryd.func3, Tryd.ntmps3
  go_wp2_with fail
  refine wp_region_over w1 (Below.refl _ _) (by kernel_rfl) (by kernel_rfl) ?_
  repeat (go_big_quiet_step (first
    | (go_at_call 9; exact Calls.over (begun_any _ (hT.on (hbu _))))
    | (go_at_call 10; exact Calls.over (may_any (.mk k n args) params _ w.heap.size _ (by omega) (hbu _).size (hT.on (hbu _)) (hin.below (hbu _) (Nat.le_refl _))))
    | (go_at_call 11; exact Calls.over (rmay_any (.mk k n args) params _ w.heap.size _ (hbu _).size (hin.below (hbu _) (Nat.le_refl _))))))
  refine wpQuiet_nil ?_
  rintro _ ⟨u, rfl⟩
  go_wp2_with fail
  go_ret
  exact ⟨ret_bool (by simp), hbu u⟩
end Go.Proofs.YtogfmpjgmabomaaDoor
