/- The walks of the document's Var, leaf, Copy, App and Const, of terms without Levels and Args, as the first look at term makes them. No condition. -/
import Derived.Test.YtbmijpjmdpdfkaaDoorWeigh
namespace Go.Proofs.YtbmijpjmdpdfkaaDoor
open Go.RowKit

/-- Five cells written over. -/
theorem st5 {w : World} {g : Nat} {t : TypeId} {x0 x1 x2 x3 x4 : Value} (h : Blk w g t [x0, x1, x2, x3, x4]) (a0 a1 a2 a3 a4 : Value) :
    Blk (((((w.setCell ⟨g, 0, none⟩ a0).setCell ⟨g, 1, none⟩ a1).setCell ⟨g, 2, none⟩ a2).setCell ⟨g, 3, none⟩ a3).setCell ⟨g, 4, none⟩ a4) g t [a0, a1, a2, a3, a4] ∧
    Keep w (((((w.setCell ⟨g, 0, none⟩ a0).setCell ⟨g, 1, none⟩ a1).setCell ⟨g, 2, none⟩ a2).setCell ⟨g, 3, none⟩ a3).setCell ⟨g, 4, none⟩ a4) (· = g) :=
  ⟨((((h.set 0 a0).set 1 a1).set 2 a2).set 3 a3).set 4 a4, (((((Keep.refl w (· = g)).setCell (g := g) (fun _ => rfl) 0 a0).setCell (g := g) (fun _ => rfl) 1 a1).setCell (g := g) (fun _ => rfl) 2 a2).setCell (g := g) (fun _ => rfl) 3 a3).setCell (g := g) (fun _ => rfl) 4 a4⟩

set_option maxRecDepth 100000 in
theorem var_any (n : Int) (w : World) : Calls Tryd.prog 30 #[.int .i64 n] w fun e w' => e = .returned ((Value.agg #[.int .i64 0, .int .i64 n, .string { data := #[] }, .slice none 0 0, .slice none 0 0])) ∧ Below w.heap.size w w' := by
  go_enter Tryd.func30, Tryd.ntmps30
  go_wp2
  exact bodyPost_ret (v := (Value.agg #[.int .i64 0, .int .i64 n, .string { data := #[] }, .slice none 0 0, .slice none 0 0])) (by simp [results, Tryd.results30, go_sem]) rfl ⟨rfl, below_alloc _ _⟩

set_option maxRecDepth 100000 in
set_option maxHeartbeats 400000 in
theorem leaf_bare (k n : Int) (s : ByteArray) (w : World) : Calls Tryd.prog 53 #[(Value.agg #[.int .i64 k, .int .i64 n, .string s, .slice none 0 0, .slice none 0 0])] w fun e w' => e = .returned ((Value.agg #[.int .i64 k, .int .i64 n, .string s, .slice none 0 0, .slice none 0 0])) ∧ Below w.heap.size w w' := by
  obtain ⟨w1, hw1, hb1, P0, P1, P2, hs1⟩ := three_new w ([Value.int .i64 k, .int .i64 n, .string s, .slice none 0 0, .slice none 0 0] : List Value) ([Value.int .i64 0, .int .i64 0, .string { data := #[] }, .slice none 0 0, .slice none 0 0] : List Value) ([Value.int .i64 k, .int .i64 n, .string s, .slice none 0 0, .slice none 0 0] : List Value) 25 25 25
  have a3 := P0.cell (j := 3) rfl
  revert hw1
  generalize hE : ((w.alloc (.cells #[Value.int .i64 k, .int .i64 n, .string s, .slice none 0 0, .slice none 0 0] 25)).alloc (.cells #[Value.int .i64 0, .int .i64 0, .string { data := #[] }, .slice none 0 0, .slice none 0 0] 25)).alloc (.cells #[Value.int .i64 k, .int .i64 n, .string s, .slice none 0 0, .slice none 0 0] 25) = wE
  intro hw1
  have HW : Hid (((w.alloc (.cells #[Value.int .i64 k, .int .i64 n, .string s, .slice none 0 0, .slice none 0 0] 25)).alloc (.cells #[Value.int .i64 0, .int .i64 0, .string { data := #[] }, .slice none 0 0, .slice none 0 0] 25)).alloc (.cells #[Value.int .i64 k, .int .i64 n, .string s, .slice none 0 0, .slice none 0 0] 25) = w1) := hE.trans hw1
  clear hE hw1
  go_enter Tryd.func53, Tryd.ntmps53
  go_wp2_with fail
  go_loopw [4] (fun i wr => i = .int .i64 0 ∧ wr = w1) (fun _ _ => 0)
  case atStart => exact ⟨rfl, HW.out⟩
  case round =>
    obtain ⟨rfl, rfl⟩ := hrel
    have c0 := P2.cell (j := 0) rfl
    have c1 := P2.cell (j := 1) rfl
    have c2 := P2.cell (j := 2) rfl
    have c3 := P2.cell (j := 3) rfl
    have c4 := P2.cell (j := 4) rfl
    have b0 := P1.cell (j := 0) rfl
    have b1 := P1.cell (j := 1) rfl
    have b2 := P1.cell (j := 2) rfl
    have b3 := P1.cell (j := 3) rfl
    have b4 := P1.cell (j := 4) rfl
    have f0 := P1.frozen 0
    have f1 := P1.frozen 1
    have f2 := P1.frozen 2
    have f3 := P1.frozen 3
    have f4 := P1.frozen 4
    obtain ⟨Q, K⟩ := st5 P1 (.int .i64 k) (.int .i64 n) (.string s) (.slice none 0 0) (.slice none 0 0)
    have z0 := Q.cell (j := 0) rfl
    have z1 := Q.cell (j := 1) rfl
    have z2 := Q.cell (j := 2) rfl
    have z3 := Q.cell (j := 3) rfl
    have z4 := Q.cell (j := 4) rfl
    go_wp2_with fail
    exact bodyPost_ret (v := (Value.agg #[.int .i64 k, .int .i64 n, .string s, .slice none 0 0, .slice none 0 0])) (by simp [results, Tryd.results53, go_sem, z0, z1, z2, z3, z4]) rfl ⟨rfl, hb1.trans (K.below (by omega) (by omega))⟩

set_option maxRecDepth 100000 in
set_option maxHeartbeats 400000 in
theorem lift_bare (n : Int) (s : ByteArray) (w : World) (hn : 0 ≤ n) (hn1 : n ≤ 9223372036854775807) : Calls Tryd.prog 39 #[(Value.agg #[.int .i64 0, .int .i64 n, .string s, .slice none 0 0, .slice none 0 0]), .int .i64 0, .int .i64 0] w fun e w' => e = .returned ((Value.agg #[.int .i64 0, .int .i64 n, .string s, .slice none 0 0, .slice none 0 0])) ∧ Below w.heap.size w w' := by
  obtain ⟨w1, hw1, hb1, P0, P1, hs1⟩ := two_new w ([Value.int .i64 0, .int .i64 n, .string s, .slice none 0 0, .slice none 0 0] : List Value) ([Value.int .i64 0, .int .i64 0, .string { data := #[] }, .slice none 0 0, .slice none 0 0] : List Value) 25 25
  have hcall := leaf_bare 0 n s w1
  have x0 := P0.cell (j := 0) rfl
  have x1 := P0.cell (j := 1) rfl
  have x2 := P0.cell (j := 2) rfl
  have x3 := P0.cell (j := 3) rfl
  have x4 := P0.cell (j := 4) rfl
  go_enter Tryd.func39, Tryd.ntmps39
  go_wp2_with (go_at_call 53; refine hcall.mono ?_; rintro e w2 ⟨rfl, hb2⟩; have QA := (P0.below hb2 P0.lt).alloc (.cells #[Value.int .i64 0, .int .i64 n, .string s, .slice none 0 0, .slice none 0 0] 25); have y0 := QA.cell (j := 0) rfl; have y1 := QA.cell (j := 1) rfl)
  obtain ⟨w3, hw3, hb3, P3, hs3⟩ := one_new w2 ([Value.int .i64 0, .int .i64 n, .string s, .slice none 0 0, .slice none 0 0] : List Value) 25
  have hb23 := hb2.trans (hb3.mono hb2.size)
  have Q0 := P0.below hb23 P0.lt
  rw [hw3]
  clear QA y0 y1 hw3
  have hs2 := hb2.size
  obtain ⟨w4, hw4, hk4⟩ : ∃ w4, w3 = w4 ∧ Keep w3 w4 (fun k => k = w2.heap.size) := ⟨_, rfl, Keep.refl w3 _⟩
  have P4 : Blk w4 w2.heap.size 25 ([Value.int .i64 0, .int .i64 n, .string s, .slice none 0 0, .slice none 0 0] : List Value) := by rw [← hw4]; exact P3
  rw [hw4]
  have hs4 := hk4.size
  have Z0 := Q0.keep hk4 (by omega)
  have z4 := Z0.cell (j := 4) rfl
  have R4 := (P1.below hb23 P1.lt).keep hk4 (by omega)
  have b4 : Below w.heap.size w w4 := (hb1.trans (hb23.mono (by omega))).trans (hk4.below (by omega) (by omega))
  go_loopw [8] (fun i wr => i = .int .i64 0 ∧ wr = w4) (fun _ _ => 0)
  case atStart => exact ⟨rfl, rfl⟩
  case round =>
    obtain ⟨rfl, rfl⟩ := hrel
    have c0 := P4.cell (j := 0) rfl
    have c1 := P4.cell (j := 1) rfl
    have c2 := P4.cell (j := 2) rfl
    have c3 := P4.cell (j := 3) rfl
    have c4 := P4.cell (j := 4) rfl
    have r0 := R4.cell (j := 0) rfl
    have r1 := R4.cell (j := 1) rfl
    have r2 := R4.cell (j := 2) rfl
    have r3 := R4.cell (j := 3) rfl
    have r4 := R4.cell (j := 4) rfl
    have f0 := R4.frozen 0
    have f1 := R4.frozen 1
    have f2 := R4.frozen 2
    have f3 := R4.frozen 3
    have f4 := R4.frozen 4
    obtain ⟨Q, K⟩ := st5 R4 (.int .i64 0) (.int .i64 n) (.string s) (.slice none 0 0) (.slice none 0 0)
    have q0 := Q.cell (j := 0) rfl
    have q1 := Q.cell (j := 1) rfl
    have q2 := Q.cell (j := 2) rfl
    have q3 := Q.cell (j := 3) rfl
    have q4 := Q.cell (j := 4) rfl
    go_wp2_with fail
    exact bodyPost_ret (v := (Value.agg #[.int .i64 0, .int .i64 n, .string s, .slice none 0 0, .slice none 0 0])) (by simp [results, Tryd.results39, go_sem, q0, q1, q2, q3, q4]) rfl ⟨rfl, b4.trans (K.below (by omega) (by omega))⟩

set_option maxRecDepth 100000 in
set_option maxHeartbeats 400000 in
theorem copy_bare (n : Int) (s : ByteArray) (w : World) (hn : 0 ≤ n) (hn1 : n ≤ 9223372036854775807) : Calls Tryd.prog 17 #[(Value.agg #[.int .i64 0, .int .i64 n, .string s, .slice none 0 0, .slice none 0 0])] w fun e w' => e = .returned ((Value.agg #[.int .i64 0, .int .i64 n, .string s, .slice none 0 0, .slice none 0 0])) ∧ Below w.heap.size w w' := by
  obtain ⟨w1, hw1, hb1, P0, P1, hs1⟩ := two_new w ([Value.int .i64 0, .int .i64 n, .string s, .slice none 0 0, .slice none 0 0] : List Value) ([Value.int .i64 0, .int .i64 0, .string { data := #[] }, .slice none 0 0, .slice none 0 0] : List Value) 25 25
  have hcall := lift_bare n s w1 hn hn1
  have x0 := P0.cell (j := 0) rfl
  have x1 := P0.cell (j := 1) rfl
  have x2 := P0.cell (j := 2) rfl
  have x3 := P0.cell (j := 3) rfl
  have x4 := P0.cell (j := 4) rfl
  go_enter Tryd.func17, Tryd.ntmps17
  go_wp2_with (go_at_call 39; refine hcall.mono ?_; rintro e w2 ⟨rfl, hb2⟩; have Q1 := P1.below hb2 P1.lt; have y0 := Q1.cell (j := 0) rfl; have y1 := Q1.cell (j := 1) rfl; have y2 := Q1.cell (j := 2) rfl; have y3 := Q1.cell (j := 3) rfl; have y4 := Q1.cell (j := 4) rfl; have f0 := Q1.frozen 0; have f1 := Q1.frozen 1; have f2 := Q1.frozen 2; have f3 := Q1.frozen 3; have f4 := Q1.frozen 4)
  obtain ⟨Q, K⟩ := st5 Q1 (.int .i64 0) (.int .i64 n) (.string s) (.slice none 0 0) (.slice none 0 0)
  have q0 := Q.cell (j := 0) rfl
  have q1 := Q.cell (j := 1) rfl
  have q2 := Q.cell (j := 2) rfl
  have q3 := Q.cell (j := 3) rfl
  have q4 := Q.cell (j := 4) rfl
  have hs2 := hb2.size
  exact bodyPost_ret (v := (Value.agg #[.int .i64 0, .int .i64 n, .string s, .slice none 0 0, .slice none 0 0])) (by simp [results, Tryd.results17, go_sem, q0, q1, q2, q3, q4]) rfl ⟨rfl, (hb1.trans (hb2.mono (by omega))).trans (K.below (by omega) (by omega))⟩

set_option maxRecDepth 100000 in
set_option maxHeartbeats 400000 in
theorem const_bare (s : ByteArray) (w : World) : Calls Tryd.prog 31 #[.string s, .slice none 0 0] w fun e w' => e = .returned ((Value.agg #[.int .i64 2, .int .i64 0, .string s, .slice none 0 0, .slice none 0 0])) ∧ Below w.heap.size w w' := by
  obtain ⟨w1, hw1, hb1, P1, hs1⟩ := one_new w ([Value.int .i64 0, .int .i64 0, .string { data := #[] }, .slice none 0 0, .slice none 0 0] : List Value) 25
  have hcall := leaf_bare 2 0 s w1
  go_enter Tryd.func31, Tryd.ntmps31
  go_wp2_with (go_at_call 53; refine hcall.mono ?_; rintro e w2 ⟨rfl, hb2⟩; have Q1 := P1.below hb2 P1.lt; have y0 := Q1.cell (j := 0) rfl; have y1 := Q1.cell (j := 1) rfl; have y2 := Q1.cell (j := 2) rfl; have y3 := Q1.cell (j := 3) rfl; have y4 := Q1.cell (j := 4) rfl; have f0 := Q1.frozen 0; have f1 := Q1.frozen 1; have f2 := Q1.frozen 2; have f3 := Q1.frozen 3; have f4 := Q1.frozen 4)
  obtain ⟨Q, K⟩ := st5 Q1 (.int .i64 2) (.int .i64 0) (.string s) (.slice none 0 0) (.slice none 0 0)
  have q0 := Q.cell (j := 0) rfl
  have q1 := Q.cell (j := 1) rfl
  have q2 := Q.cell (j := 2) rfl
  have q3 := Q.cell (j := 3) rfl
  have q4 := Q.cell (j := 4) rfl
  have hs2 := hb2.size
  exact bodyPost_ret (v := (Value.agg #[.int .i64 2, .int .i64 0, .string s, .slice none 0 0, .slice none 0 0])) (by simp [results, Tryd.results31, go_sem, q0, q1, q2, q3, q4]) rfl ⟨rfl, (hb1.trans (hb2.mono (by omega))).trans (K.below (by omega) (by omega))⟩

theorem enter17 (args : Array Value) (w : World) : (callFunc 17 args).run Tryd.prog w = .ok (.enter 17 args) w := enter_of Tryd.func17 (by kernel_rfl) rfl args w
/-- A call of a Go function of one operand, in a region that draws its order. -/
theorem step_call1 {P : Program} {ops : Array Oper} {o : Oper} {a : Act} {w : World} {K : Act → World → Prop} {Q : Exit → Act → World → Prop} {E : Prop}
    (hg : o.guard = none) (f : FuncId) (hrun : ∀ (args : Array Value) (w : World), (callFunc f args).run P w = .ok (.enter f args) w) (x : Operand) (ts : Array TypeId) (hop : o.op = Op.call { callee := Callee.value (Operand.func f), args := #[x], argTypes := ts })
    (u : Value) (hx : a.eval x = u) (h : Calls P f #[u] w fun e w' => ∃ r, e = .returned r ∧ K (a.put o.dst r) w') :
    if Region.wanted o (yielded ops a.tmps) = true then Oper.wp P o a w K Q else E := by
  have hw : Region.wanted o (yielded ops a.tmps) = true := by simp [Region.wanted, hg]
  rw [if_pos hw]
  subst hx
  unfold Oper.wp
  have he : (execOp a.eval o).run P w = .ok (.enter f #[a.eval x]) w := by
    have := hrun #[a.eval x] w
    simpa [go_sem, execOp, hop] using this
  rw [he]
  refine h.mono ?_
  rintro e w' ⟨r, rfl, hr⟩
  exact hr

set_option maxRecDepth 100000 in
set_option maxHeartbeats 400000 in
theorem app_bare (n : Int) (m : Int) (w : World) (hm : 0 ≤ m) (hm1 : m ≤ 9223372036854775807) : Calls Tryd.prog 29 #[(Value.agg #[.int .i64 0, .int .i64 n, .string { data := #[] }, .slice none 0 0, .slice none 0 0]), (Value.agg #[.int .i64 0, .int .i64 m, .string { data := #[] }, .slice none 0 0, .slice none 0 0])] w fun e w' => ∃ g, e = .returned (.agg #[.int .i64 3, .int .i64 0, .string { data := #[] }, .slice none 0 0, .slice (some ⟨g, 0, none⟩) 2 2]) ∧
    Blk w' g 25 [Value.int .i64 0, .int .i64 n, .string { data := #[] }, .slice none 0 0, .slice none 0 0, .int .i64 0, .int .i64 m, .string { data := #[] }, .slice none 0 0, .slice none 0 0] ∧ w.heap.size ≤ g ∧ Below w.heap.size w w' := by
  obtain ⟨w1, hw1, hb1, P0, P1, P2, hs1⟩ := three_new w ([Value.int .i64 0, .int .i64 n, .string { data := #[] }, .slice none 0 0, .slice none 0 0] : List Value) ([Value.int .i64 0, .int .i64 m, .string { data := #[] }, .slice none 0 0, .slice none 0 0] : List Value) ([Value.int .i64 0, .int .i64 0, .string { data := #[] }, .slice none 0 0, .slice none 0 0] : List Value) 25 25 25
  have x0 := P0.cell (j := 0) rfl
  have x1 := P0.cell (j := 1) rfl
  have x2 := P0.cell (j := 2) rfl
  have x3 := P0.cell (j := 3) rfl
  have x4 := P0.cell (j := 4) rfl
  have v0 := P1.cell (j := 0) rfl
  have v1 := P1.cell (j := 1) rfl
  have v2 := P1.cell (j := 2) rfl
  have v3 := P1.cell (j := 3) rfl
  have v4 := P1.cell (j := 4) rfl
  have hcall := copy_bare m { data := #[] } w1.drew hm hm1
  go_enter Tryd.func29, Tryd.ntmps29
  go_wp2_with fail
  go_region_law (refine step_call1 (by rfl) 17 enter17 (.tmp 6) #[25] (by rfl) _ (by rfl) (hcall.mono ?_); rintro e w2 ⟨rfl, hb2'⟩; refine ⟨_, rfl, ?_⟩; have hb2 : Below w1.heap.size w1 w2 := Below.trans (Below.refl _ _).drew hb2'; have Q0 := P0.below hb2 P0.lt; have a0 := Q0.cell (j := 0) rfl; have a1 := Q0.cell (j := 1) rfl; have a2 := Q0.cell (j := 2) rfl; have a3 := Q0.cell (j := 3) rfl; have a4 := Q0.cell (j := 4) rfl; obtain ⟨w3, hw3, hb3, P3, hs3⟩ := one_new w2 [Value.int .i64 0, .int .i64 n, .string { data := #[] }, .slice none 0 0, .slice none 0 0, .int .i64 0, .int .i64 m, .string { data := #[] }, .slice none 0 0, .slice none 0 0] 25; have Q2 := (P2.below hb2 P2.lt).below hb3 (by have := hb2.size; omega); have y0 := Q2.cell (j := 0) rfl; have y1 := Q2.cell (j := 1) rfl; have y2 := Q2.cell (j := 2) rfl; have y3 := Q2.cell (j := 3) rfl; have y4 := Q2.cell (j := 4) rfl; have f0 := Q2.frozen 0; have f1 := Q2.frozen 1; have f2 := Q2.frozen 2; have f3 := Q2.frozen 3; have f4 := Q2.frozen 4)
  all_goals
    go_wp2_with fail
    obtain ⟨Q, K⟩ := st5 Q2 (.int .i64 3) (.int .i64 0) (.string { data := #[] }) (.slice none 0 0) (.slice (some ⟨w2.heap.size, 0, none⟩) 2 2)
    have q0 := Q.cell (j := 0) rfl
    have q1 := Q.cell (j := 1) rfl
    have q2 := Q.cell (j := 2) rfl
    have q3 := Q.cell (j := 3) rfl
    have q4 := Q.cell (j := 4) rfl
    have hs2 := hb2.size
    exact bodyPost_ret (v := .agg #[.int .i64 3, .int .i64 0, .string { data := #[] }, .slice none 0 0, .slice (some ⟨w2.heap.size, 0, none⟩) 2 2]) (by simp [results, Tryd.results29, go_sem, q0, q1, q2, q3, q4]) rfl ⟨_, rfl, P3.keep K (by omega), by omega, ((hb1.trans (hb2.mono (by omega))).trans (hb3.mono (by omega))).trans (K.below (by omega) (by omega))⟩
end Go.Proofs.YtbmijpjmdpdfkaaDoor
