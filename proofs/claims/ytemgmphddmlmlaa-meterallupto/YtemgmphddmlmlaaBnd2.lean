/- The walks of bounds' spend and lend, and of areWithin. No condition but that the levels lie in memory. -/
import Derived.Test.YtemgmphddmlmlaaBnd
namespace Go.Proofs.Ytemgmphddmlmlaa
open Go.RowKit

/-- A call of a Go function with three arguments, in a region that draws its order. -/
theorem step_callt {P : Program} {ops : Array Oper} {o : Oper} {a : Act} {w : World} {K : Act → World → Prop} {Q : Exit → Act → World → Prop} {E : Prop}
    (hg : o.guard = none) (f : FuncId) (hrun : ∀ (args : Array Value) (w : World), (callFunc f args).run P w = .ok (.enter f args) w) (x y z : Operand) (ts : Array TypeId) (hop : o.op = Op.call { callee := Callee.value (Operand.func f), args := #[x, y, z], argTypes := ts })
    (t u v : Value) (hx : a.eval x = t) (hy : a.eval y = u) (hz : a.eval z = v) (h : Calls P f #[t, u, v] w fun e w' => ∃ r, e = .returned r ∧ K (a.put o.dst r) w') :
    if Region.wanted o (yielded ops a.tmps) = true then Oper.wp P o a w K Q else E := by
  have hw : Region.wanted o (yielded ops a.tmps) = true := by simp [Region.wanted, hg]
  rw [if_pos hw]
  subst hx hy hz
  unfold Oper.wp
  have he : (execOp a.eval o).run P w = .ok (.enter f #[a.eval x, a.eval y, a.eval z]) w := by
    have := hrun #[a.eval x, a.eval y, a.eval z] w
    simpa [go_sem, execOp, hop] using this
  rw [he]
  refine h.mono ?_
  rintro e w' ⟨r, rfl, hr⟩
  exact hr

theorem bel_d (w : World) : Below w.heap.size w w.drew := bel_drew (Below.refl _ _)

theorem bel_ad (w : World) (o : Obj) : Below w.heap.size w (w.alloc o).drew := bel_drew (bel1 w o)

theorem new_ad (w : World) (t : TypeId) (l : List Value) : Blk (w.alloc (.cells l.toArray t)).drew w.heap.size t l := (Blk.new w t l).drew

theorem lt_ad (w : World) (o : Obj) : w.heap.size < (w.alloc o).drew.heap.size := by show w.heap.size < (w.alloc o).heap.size; simp

theorem costs_size (ls : List Lv) : costs Lv.size ls = Lv.sizes ls := by
  induction ls with
  | nil => simp only [costs, Lv.sizes]
  | cons a r ih => simp only [costs, Lv.sizes, ih]

theorem roomB_size (d : Nat) (ls : List Lv) : ∀ p, roomB Lv.size d p ls = decide (Lv.sizes ls ≤ p ∧ Lv.deeps ls ≤ d) := by
  induction ls with
  | nil => intro p; simp [roomB, Lv.sizes, Lv.deeps]
  | cons a r ih =>
    intro p
    rw [roomB, ih, ← Bool.decide_and, Lv.sizes, Lv.deeps]
    exact decide_eq_decide.2 ⟨fun h => by omega, fun h => by omega⟩

theorem roomB_none (ls : List Lv) : roomB (fun _ => 0) 32 64 ls = ls.all Lv.fits := by
  induction ls with
  | nil => rfl
  | cons a r ih => rw [roomB, Nat.sub_zero, ih, List.all_cons]; rfl

theorem enter36 (args : Array Value) (w : World) : (callFunc 36 args).run Try.prog w = .ok (.enter 36 args) w := enter_of Try.func36 (by kernel_rfl) rfl args w

theorem enter39 (args : Array Value) (w : World) : (callFunc 39 args).run Try.prog w = .ok (.enter 39 args) w := enter_of Try.func39 (by kernel_rfl) rfl args w

theorem enter35 (args : Array Value) (w : World) : (callFunc 35 args).run Try.prog w = .ok (.enter 35 args) w := enter_of Try.func35 (by kernel_rfl) rfl args w

theorem two_a {w w6 : World} {x y p d : Value} (N6 : Blk w6 (w.heap.size + 2) 75 [.int .i64 0, .int .i64 0]) (P6 : Blk w6 w.heap.size 75 [p, d]) (Q6 : Blk w6 (w.heap.size + 1) 75 [.int .i64 0, .int .i64 0]) (hB : Below w.heap.size w w6) :
    ∃ g6 W6, w.heap.size + 2 = g6 ∧ (w6.setCell ⟨w.heap.size + 2, 0, none⟩ x).setCell ⟨w.heap.size + 2, 1, none⟩ y = W6 ∧ Blk W6 g6 75 [x, y] ∧ Blk W6 w.heap.size 75 [p, d] ∧ Blk W6 (w.heap.size + 1) 75 [.int .i64 0, .int .i64 0] ∧ Below w.heap.size w W6 ∧ w.heap.size + 2 ≤ W6.heap.size := by
  obtain ⟨N8, K8⟩ := st2 N6 x y
  have h1 := N6.lt
  have h2 := K8.size
  exact ⟨_, _, rfl, rfl, N8, P6.keep K8 (by omega), Q6.keep K8 (by omega), hB.trans (K8.below (by omega) (by omega)), by omega⟩

theorem two_b {w w6 : World} {x y p d : Value} (P6 : Blk w6 w.heap.size 75 [p, d]) (Q6 : Blk w6 (w.heap.size + 1) 75 [.int .i64 0, .int .i64 0]) (hB : Below w.heap.size w w6) (hz : w.heap.size + 2 ≤ w6.heap.size) :
    ∃ g6 W6, w6.heap.size = g6 ∧ w6.alloc (.cells #[x, y] 75) = W6 ∧ Blk W6 g6 75 [x, y] ∧ Blk W6 w.heap.size 75 [p, d] ∧ Blk W6 (w.heap.size + 1) 75 [.int .i64 0, .int .i64 0] ∧ Below w.heap.size w W6 ∧ w.heap.size + 2 ≤ W6.heap.size :=
  ⟨_, _, rfl, rfl, Blk.new w6 75 [x, y], P6.alloc _, Q6.alloc _, hB.alloc (by omega) _, by simp; omega⟩

theorem after6 {w w1 W w6 : World} (hb1 : Below w.heap.size w w1) (hs1 : w1.heap.size = w.heap.size + 2) (hb6 : Below W.heap.size W w6) (hW : Below w1.heap.size w1 W) : Below w.heap.size w w6 ∧ Below w1.heap.size w1 w6 := by
  have h := hW.trans (hb6.mono hW.size)
  exact ⟨hb1.trans (h.mono (by omega)), h⟩

set_option maxRecDepth 100000 in
set_option maxHeartbeats 4000000 in
theorem spend_node (k n : Int) (args : List Lv) (ih : ∀ L ∈ args, UseAt 39 Lv.size L) : UseAt 39 Lv.size (.mk k n args) := by
  intro p d w B b off k' n' args' a cap he hp hd hB hL
  simp only [Lv.mk.injEq] at he
  obtain ⟨rfl, rfl, rfl⟩ := he
  obtain ⟨w1, hw1, hb1, P0, P1, hs1⟩ := two_new w ([.int .i64 (p : Int), .int .i64 (d : Int)] : List Value) ([.int .i64 0, .int .i64 0] : List Value) 75 75
  have hN1 := hL.node.below hb1 hB
  have c2 : w1.cell? ⟨b, off + 2, none⟩ = some (.slice a args.length cap) := (hb1.cell (p := ⟨b, off + 2, none⟩) (by have := hL.lt; show b < w.heap.size; omega)).trans hL.c2
  have p0 := P0.cell (j := 0) rfl
  have p1 := P0.cell (j := 1) rfl
  have q0 := P1.cell (j := 0) rfl
  have q1 := P1.cell (j := 1) rfl
  have g0 := P1.frozen 0
  have g1 := P1.frozen 1
  rw [Lv.size_mk, Lv.deep_mk]
  by_cases h0 : p = 0 ∨ d = 0
  · rw [decide_eq_false (by omega)]
    clear P0 P1 p0 p1 q0 q1 g0 g1 hb1 hw1 hs1
    clear hN1 ih hL c2
    rcases h0 with rfl | rfl
    · go_enter Try.func39, Try.ntmps39
      go_wp2_with fail
      exact bodyPost_ret (v := .tuple #[.agg #[.int .i64 0, .int .i64 0], .bool false]) (by simp [results, Try.results39, go_sem]) rfl ⟨bel2 _ _ _, 0, 0, rfl, fun h => by cases h⟩
    · by_cases hp0 : p = 0
      · subst hp0
        go_enter Try.func39, Try.ntmps39
        go_wp2_with fail
        exact bodyPost_ret (v := .tuple #[.agg #[.int .i64 0, .int .i64 0], .bool false]) (by simp [results, Try.results39, go_sem]) rfl ⟨bel2 _ _ _, 0, 0, rfl, fun h => by cases h⟩
      · have hd1 : decide ((p : Int) = 0) = false := by simp; omega
        go_enter Try.func39, Try.ntmps39
        go_wp2_with fail
        exact bodyPost_ret (v := .tuple #[.agg #[.int .i64 0, .int .i64 0], .bool false]) (by simp [results, Try.results39, go_sem]) rfl ⟨bel2 _ _ _, 0, 0, rfl, fun h => by cases h⟩
  · have hd1 : ((p : Int) == 0) = false := by simp; omega
    have hd2 : ((d : Int) == 0) = false := by simp; omega
    have kc : ∀ W, Below w1.heap.size w1 W → Calls Try.prog 35 #[.agg #[.int .i64 ((p : Int) - 1), .int .i64 ((d : Int) - 1)], .slice a args.length cap, .func (.func 39) #[] #[]] W (Told (decide (Lv.sizes args + 1 ≤ p ∧ Lv.deeps args + 1 ≤ d)) (p - (Lv.sizes args + 1)) (d - 1) W) := fun W hW => by
      have kc := each_any 39 enter39 Lv.size args ih (p - 1) (d - 1) W B a cap (by omega) (by omega) (by have := hW.size; omega) k n (hN1.below hW (by omega))
      rw [roomB_size, costs_size, show decide (Lv.sizes args ≤ p - 1 ∧ Lv.deeps args ≤ d - 1) = decide (Lv.sizes args + 1 ≤ p ∧ Lv.deeps args + 1 ≤ d) from decide_eq_decide.2 ⟨fun h => by omega, fun h => by omega⟩,
        show p - 1 - Lv.sizes args = p - (Lv.sizes args + 1) by omega, show (((p - 1 : Nat)) : Int) = (p : Int) - 1 by omega, show (((d - 1 : Nat)) : Int) = (d : Int) - 1 by omega] at kc
      exact kc
    have hwp : IntKind.i64.wrap ((p : Int) - 1) = (p : Int) - 1 := by rw [IntKind.wrap_i64]; omega
    have hwd : IntKind.i64.wrap ((d : Int) - 1) = (d : Int) - 1 := by rw [IntKind.wrap_i64]; omega
    generalize decide (Lv.sizes args + 1 ≤ p ∧ Lv.deeps args + 1 ≤ d) = ok at kc ⊢
    generalize p - (Lv.sizes args + 1) = left at kc ⊢
    have c2' : (w1.alloc (.cells #[.int .i64 0, .int .i64 0] 75)).cell? ⟨b, off + 2, none⟩ = some (.slice a args.length cap) := ((bel1 w1 (.cells #[.int .i64 0, .int .i64 0] 75)).cell (p := ⟨b, off + 2, none⟩) (by have := hL.lt; show b < w1.heap.size; omega)).trans c2
    have p0' := (P0.alloc (.cells #[.int .i64 0, .int .i64 0] 75)).cell (j := 0) rfl
    have p1' := (P0.alloc (.cells #[.int .i64 0, .int .i64 0] 75)).cell (j := 1) rfl
    clear ih hL hN1
    go_enter Try.func39, Try.ntmps39
    go_wp2_with fail
    go_region_law (refine step_callt (by rfl) 35 enter35 (.tmp 23) (.tmp 27) (.func 39) #[75, 24, 78] (by rfl) _ _ _ (by rfl) (by rfl) (by rfl) ((kc _ (by with_reducible first | exact bel_d _ | exact bel_ad _ _)).mono ?_); rintro e w6 ⟨hb6, x, y, rfl, hxy⟩; have HX : Hid _ := hxy; clear hxy; have hB6 := after6 hb1 hs1 hb6 (by with_reducible first | exact bel_d _ | exact bel_ad _ _); have P6 := P0.below hB6.2 (by omega); have Q6 := P1.below hB6.2 (by omega); first | (have N6 := (new_ad w1 75 [.int .i64 0, .int .i64 0]).below hb6 (lt_ad _ _); rw [hs1] at N6; have n0 := N6.cell (j := 0) rfl; have n1 := N6.cell (j := 1) rfl; have m0 := N6.frozen 0; have m1 := N6.frozen 1; have E6 : Hid _ := two_a (x := .int .i64 x) (y := .int .i64 y) N6 P6 Q6 hB6.1) | (have E6 : Hid _ := two_b (x := .int .i64 x) (y := .int .i64 y) P6 Q6 hB6.1 (by have := hB6.2.size; omega)); refine ⟨_, rfl, ?_⟩)
    all_goals
      obtain ⟨g6, W6, hg6, hW6, N8, P8, Q8, B8, hs8⟩ := E6.out
      rw [hW6]
      rw [hg6]
      have n0 := N8.cell (j := 0) rfl
      have n1 := N8.cell (j := 1) rfl
      have p1 := P8.cell (j := 1) rfl
      have q0 := Q8.cell (j := 0) rfl
      have q1 := Q8.cell (j := 1) rfl
      have g0 := Q8.frozen 0
      have g1 := Q8.frozen 1
      obtain ⟨R8, K8⟩ := st2 Q8 (.int .i64 x) (.int .i64 (d : Int))
      have z0 := R8.cell (j := 0) rfl
      have z1 := R8.cell (j := 1) rfl
      clear hW6 hg6
      go_wp2_with fail
      exact bodyPost_ret (v := .tuple #[.agg #[.int .i64 x, .int .i64 (d : Int)], .bool ok]) (by simp [results, Try.results39, go_sem, z0, z1]) rfl ⟨B8.trans (K8.below (by omega) (by omega)), x, (d : Int), rfl, fun h => ⟨(HX.out h).1, rfl⟩⟩

end Go.Proofs.Ytemgmphddmlmlaa
