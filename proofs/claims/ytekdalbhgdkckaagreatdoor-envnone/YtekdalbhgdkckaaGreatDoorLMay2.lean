/- The walks of level.May and level.walks. No condition but that what was given is a level in memory, and that argCounts holds what the program's text lays. -/
import Derived.Test.YtekdalbhgdkckaaGreatDoorLMay
namespace Go.Proofs.YtekdalbhgdkckaaGreatDoor
open Go.RowKit

theorem holdB_may (L : Lv) (params : Int) : holdB (min (max params 0) 4) 32 1 64 L = mayB L params := by
  unfold holdB mayB
  rw [Bool.and_comm]
  congr 1
  simp; omega

theorem room_call (k n : Int) (args : List Lv) (a : Option Addr) (cap : Nat) (P D q : Int) (w : World) (B : Nat) (hB2 : 5 ≤ B) (hB : B ≤ w.heap.size) (hT : Tabs w) (hN : Node w (· < B) k n args a cap) (hP0 : 0 ≤ P) (hP : P ≤ 65536) (hD : D ≤ 65536) (hq0 : 0 ≤ q) (hq : q ≤ 65536) :
    Calls Tryz.prog 130 #[.pointer (some ⟨w.heap.size + 1, 0, none⟩), .agg #[.int .i64 k, .int .i64 n, .slice a args.length cap], .int .i64 1]
      ((w.alloc (.cells #[.int .i64 k, .int .i64 n, .slice a args.length cap] 92)).alloc (.cells #[.int .i64 P, .int .i64 D, .int .i64 q, .int .i64 0] 217)) fun e w' => e = .returned (.bool (holdB q D 1 P (.mk k n args))) ∧ Below w.heap.size w w' ∧
        ∃ P' U', Blk w' (w.heap.size + 1) 217 (rcells P' D q U') ∧ (holdB q D 1 P (.mk k n args) = true → U' = (Lv.mk k n args).used) := by
  have hb : Below w.heap.size w ((w.alloc (.cells #[.int .i64 k, .int .i64 n, .slice a args.length cap] 92)).alloc (.cells #[.int .i64 P, .int .i64 D, .int .i64 q, .int .i64 0] 217)) := ((Below.refl _ _).alloc (Nat.le_refl _) _).alloc (by simp) _
  have hg := Blk.new (w.alloc (.cells #[.int .i64 k, .int .i64 n, .slice a args.length cap] 92)) 217 (rcells P D q 0)
  simp only [World.size_alloc] at hg
  refine (holds_any q D (w.heap.size + 1) hq0 hq hD (.mk k n args) 1 P 0 _ B _ hP hP0 (by omega) (by omega) (by omega) hB2 (by omega) (hT.on hb) (hN.below hb hB).is hg).mono ?_
  rintro e w' ⟨rfl, hh⟩
  obtain ⟨P', U', h1, h2⟩ := hh.room
  refine ⟨rfl, hb.trans (hh.keep.below (by simp; omega) (by omega)), P', U', h1, fun h => ?_⟩
  have := (h2 h).2
  have := Lv.used_nonneg (.mk k n args)
  omega

set_option maxRecDepth 100000 in
set_option maxHeartbeats 400000 in
theorem may_any (L : Lv) (params : Int) (w : World) (B : Nat) (v : Value) (hB2 : 5 ≤ B) (hB : B ≤ w.heap.size) (hT : Tabs w) (hin : In w (· < B) L v) :
    Calls Tryz.prog 124 #[v, .int .i64 params] w fun e w' => e = .returned (.bool (mayB L params)) ∧ Below w.heap.size w w' := by
  obtain ⟨k, n, args⟩ := L
  obtain ⟨a, cap, rfl, hN⟩ := hin.node
  rw [← holdB_may]
  obtain ⟨q, HQ, hcase⟩ : ∃ q, Hid (min (max params 0) 4 = q) ∧ ((params < 0 ∧ q = 0) ∨ (0 ≤ params ∧ params ≤ 4 ∧ q = params) ∨ (4 < params ∧ 0 ≤ params ∧ q = 4)) := ⟨_, rfl, by omega⟩
  rw [HQ.out]
  clear HQ
  rcases hcase with ⟨hl, rfl⟩ | ⟨hl, hu, rfl⟩ | ⟨hl, hu, rfl⟩
  all_goals
    go_enter Tryz.func124, Tryz.ntmps124
    go_wp2_with (go_at_call 130; go_must (refine (room_call k n args a cap 64 32 _ w B hB2 hB hT hN (by omega) (by omega) (by omega) (by omega) (by omega)).mono ?_); rintro e w' ⟨rfl, hb, _⟩)
    go_ret
    exact ⟨rfl, hb⟩

end Go.Proofs.YtekdalbhgdkckaaGreatDoor
