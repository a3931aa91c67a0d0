/- The walks of level's work.equal, Equal. No condition but that what was given are levels in memory, the first of at most 65,536 parts. -/
import Derived.Test.YtogfmpjgmabomaaDoorEq
namespace Go.Proofs.YtogfmpjgmabomaaDoor
open Go.RowKit

set_option maxRecDepth 100000 in
set_option maxHeartbeats 1000000 in
theorem equal_node (g : Nat) (k n : Int) (args : List Lv) (ih : ∀ x ∈ args, EqAt g x) (k' n' : Int) (args' : List Lv) (a a' : Option Addr) (cap cap' : Nat) (l : Int) (w : World) (B : Nat)
    (hsl : ((Lv.sizes args + 1 : Nat) : Int) ≤ l) (hl : l ≤ 65536) (hB : B ≤ g) (hN : Node w (· < B) k n args a cap) (hN' : Node w (· < B) k' n' args' a' cap') (hg : Blk w g 66 [.int .i64 l]) :
    Calls Tryd.prog 44 #[.pointer (some ⟨g, 0, none⟩), .agg #[.int .i64 k, .int .i64 n, .slice a args.length cap], .agg #[.int .i64 k', .int .i64 n', .slice a' args'.length cap']] w (EP w g l ((Lv.mk k n args).eqB (.mk k' n' args')) ((Lv.sizes args + 1 : Nat) : Int)) := by
  have hgl := hg.lt
  obtain ⟨w1, hw1, hb1, P1, Q1, hs1⟩ := two_new w [.int .i64 k, .int .i64 n, .slice a args.length cap] [.int .i64 k', .int .i64 n', .slice a' args'.length cap'] 24 24
  have hk0 : Keep w w1 (· = g) := Keep.of_below hb1 (Nat.le_refl _)
  have hg1 := hg.below hb1 hgl
  have tk := take_any g l 1 w1 hg1 (by omega) (by omega) hl
  have hmf : ∀ (P : Program) (fn : Fn) (first cap : Array Value) (w : World), (Instr.makeFunc fn first cap).run P w = .ok (.func fn first cap) w := fun _ _ _ _ _ => rfl
  have ARM : ∀ w2, Keep w1 w2 (· = g) → Blk w2 g 66 [.int .i64 (l - 1)] → Blk w2 w.heap.size 24 [.int .i64 k, .int .i64 n, .slice a args.length cap] ∧ Blk w2 (w.heap.size + 1) 24 [.int .i64 k', .int .i64 n', .slice a' args'.length cap'] :=
    fun w2 h _ => ⟨P1.keep h (by omega), Q1.keep h (by omega)⟩
  by_cases hk : k = k'
  · subst hk
    by_cases hn : n = n'
    · subst hn
      go_enter Tryd.func44, Tryd.ntmps44
      go_wp2_with (first
        | (go_at_call 56; go_must (refine tk.mono ?_); rintro e w2 ⟨rfl, hk2, hg2⟩; obtain ⟨P2, Q2⟩ := ARM w2 hk2 hg2; have p0 := P2.cell (j := 0) rfl; have p1 := P2.cell (j := 1) rfl; have p2 := P2.cell (j := 2) rfl; have q0 := Q2.cell (j := 0) rfl; have q1 := Q2.cell (j := 1) rfl; have q2 := Q2.cell (j := 2) rfl)
        | (go_at_call 57; go_must (refine (eqf_any g args args' ih k n k n a a' cap cap' (l - 1) w2 B (by omega) (by omega) hB ((hN.keep hk0 (by omega) (by omega)).keep hk2 (by omega) (by omega)) ((hN'.keep hk0 (by omega) (by omega)).keep hk2 (by omega) (by omega)) hg2).mono ?_); rintro e w3 ⟨rfl, hk3, l3, hg3, hl3⟩))
      go_ret
      have hE : (Lv.mk k n args).eqB (.mk k n args') = Lv.eqs args args' := by rw [Lv.eqB_mk]; simp
      rw [hE]
      exact ⟨rfl, (hk0.trans hk2 (fun _ _ h => h)).trans hk3 (fun _ _ h => h), l3, hg3, fun h => by have := hl3 h; omega⟩
    · have HR : Hid ((Lv.mk k n args).eqB (.mk k n' args') = false) := by show _ = _; rw [Lv.eqB_mk]; simp [hn]
      have hn' : (n == n') = false := by simpa using hn
      go_enter Tryd.func44, Tryd.ntmps44
      go_wp2_with (go_at_call 56; go_must (refine tk.mono ?_); rintro e w2 ⟨rfl, hk2, hg2⟩; obtain ⟨P2, Q2⟩ := ARM w2 hk2 hg2; have p0 := P2.cell (j := 0) rfl; have p1 := P2.cell (j := 1) rfl; have q0 := Q2.cell (j := 0) rfl; have q1 := Q2.cell (j := 1) rfl)
      go_ret
      exact ⟨ret_bool HR.out.symm, hk0.trans hk2 (fun _ _ h => h), _, hg2, fun h => by rw [HR.out] at h; cases h⟩
  · have HR : Hid ((Lv.mk k n args).eqB (.mk k' n' args') = false) := by show _ = _; rw [Lv.eqB_mk]; simp [hk]
    have hk' : (k == k') = false := by simpa using hk
    go_enter Tryd.func44, Tryd.ntmps44
    go_wp2_with (go_at_call 56; go_must (refine tk.mono ?_); rintro e w2 ⟨rfl, hk2, hg2⟩; obtain ⟨P2, Q2⟩ := ARM w2 hk2 hg2; have p0 := P2.cell (j := 0) rfl; have p1 := P2.cell (j := 1) rfl; have q0 := Q2.cell (j := 0) rfl; have q1 := Q2.cell (j := 1) rfl)
    go_ret
    exact ⟨ret_bool HR.out.symm, hk0.trans hk2 (fun _ _ h => h), _, hg2, fun h => by rw [HR.out] at h; cases h⟩

theorem equal_any (g : Nat) (x : Lv) : EqAt g x := by
  refine Lv.ind (P := fun x => EqAt g x) ?_ x
  intro k n args ih y l w B va vb hs hl hB ha hb hg
  obtain ⟨k', n', args'⟩ := y
  obtain ⟨a, cap, rfl, hN⟩ := ha.node
  obtain ⟨a', cap', rfl, hN'⟩ := hb.node
  rw [Lv.size_mk] at hs ⊢
  exact equal_node g k n args ih k' n' args' a a' cap cap' l w B hs hl hB hN hN' hg

set_option maxRecDepth 100000 in
set_option maxHeartbeats 400000 in
theorem Equal_any (x y : Lv) (w : World) (B : Nat) (va vb : Value) (hB : B ≤ w.heap.size) (hs : x.size ≤ 65536) (ha : In w (· < B) x va) (hb : In w (· < B) y vb) :
    Calls Tryd.prog 23 #[va, vb] w fun e w' => e = .returned (.bool (x.eqB y)) ∧ Below w.heap.size w w' := by
  obtain ⟨k, n, args⟩ := x
  obtain ⟨k', n', args'⟩ := y
  obtain ⟨a, cap, rfl, hN⟩ := ha.node
  obtain ⟨a', cap', rfl, hN'⟩ := hb.node
  obtain ⟨w1, hw1, hb1, P1, Q1, hs1⟩ := two_new w [.int .i64 k, .int .i64 n, .slice a args.length cap] [.int .i64 k', .int .i64 n', .slice a' args'.length cap'] 24 24
  obtain ⟨w2, hw2, hb2, G2, hs2⟩ := one_new w1 [.int .i64 65536] 66
  have P2 := P1.below hb2 P1.lt
  have Q2 := Q1.below hb2 Q1.lt
  have p0 := P2.cell (j := 0) rfl
  have p1 := P2.cell (j := 1) rfl
  have p2 := P2.cell (j := 2) rfl
  have q0 := Q2.cell (j := 0) rfl
  have q1 := Q2.cell (j := 1) rfl
  have q2 := Q2.cell (j := 2) rfl
  have hb12 : Below w.heap.size w w2 := hb1.trans (hb2.mono (by omega))
  have hc := equal_any w1.heap.size (.mk k n args) (.mk k' n' args') 65536 w2 B _ _ (by omega) (by omega) (by omega) (ha.below hb12 hB) (hb.below hb12 hB) G2
  go_enter Tryd.func23, Tryd.ntmps23
  go_wp2_with (go_at_call 44; go_must (refine (show Calls Tryd.prog 44 _ _ _ from by rw [hs1] at hc; exact hc).mono ?_); rintro e w3 ⟨rfl, hk3, l3, hg3, _⟩)
  go_ret
  exact ⟨rfl, hb12.trans (hk3.below (by omega) (by omega))⟩
end Go.Proofs.YtogfmpjgmabomaaDoor
