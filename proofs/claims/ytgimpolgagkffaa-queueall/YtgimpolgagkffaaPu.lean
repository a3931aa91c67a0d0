/- The walk of a row's own Push. No condition but sizes. -/
import Derived.Test.YtgimpolgagkffaaDown
import Derived.Deep.RegionLaw
namespace Go.Proofs.Ytgimpolgagkffaa
open Go.RowKit

theorem one_new (w : World) (l : List Value) (t : TypeId) : ∃ w1, w.alloc (.cells l.toArray t) = w1 ∧ Below w.heap.size w w1 ∧ Blk w1 w.heap.size t l ∧ w.heap.size < w1.heap.size :=
  ⟨_, rfl, (Below.refl _ _).alloc (Nat.le_refl _) _, Blk.new _ _ _, by simp⟩

theorem owns_ne {w : World} {base : Nat} {e t : TypeId} {size n g : Nat} {v : Value} {xs l : List Value} (h : w.ownsRow base e size v n xs) (hb : Blk w g t l) (hne : t ≠ e) : v.ownBlock ≠ some g := fun e' => by
  rcases h.2 with ⟨rfl, _⟩ | ⟨g', cap, cur, rfl, _, hcur, _⟩
  · cases e'
  · simp [Value.ownBlock] at e'
    subst e'
    unfold Blk at hb
    rw [hb] at hcur
    simp at hcur
    exact hne hcur.2

theorem Keep.of_grownS {w w' : World} {v : Value} (h : w.grownBy w' v.ownBlock) : Keep w w' (fun k => v.ownBlock = some k) := ⟨h.os, h.tape, h.output, h.size, fun k hk hn => h.block k hk (fun e => hn e.symm)⟩

theorem info57 : ∃ i, Try.prog.info? 57 = some i ∧ i.zero = some (.agg #[.int .i64 0, .int .i64 0, .int .i64 0]) ∧ i.size = 3 ∧ i.bytes = 24 := by
  have h : (Try.prog.info? 57).map (fun i => (i.zero, i.size, i.bytes)) = some (some (.agg #[.int .i64 0, .int .i64 0, .int .i64 0]), 3, 24) := by kernel_rfl
  obtain ⟨i, hi, he⟩ := Option.map_eq_some_iff.1 h
  simp only [Prod.mk.injEq] at he
  exact ⟨i, hi, he⟩

/-- What a row's Push leaves. -/
structure Pushed (w w' : World) (g n : Nat) (v v' : Value) (L : List En) : Prop where
  blk : Blk w' g 51 [v', .int .i64 (n : Int)]
  row : w'.ownsRow 0 57 3 v' L.length (flat L)
  own : v'.ownBlock = v.ownBlock ∨ ∃ k, v'.ownBlock = some k ∧ w.heap.size ≤ k
  keep : Keep w w' (fun k => k = g ∨ v.ownBlock = some k)

set_option maxRecDepth 100000 in
set_option maxHeartbeats 2000000 in
theorem rpush_any (g n : Nat) (v : Value) (L : List En) (x : En) (w : World) (hB : Blk w g 51 [v, .int .i64 (n : Int)]) (hO : w.ownsRow 0 57 3 v L.length (flat L)) (hm : L.length ≤ 1000000) :
    Calls Try.prog 71 #[.pointer (some ⟨g, 0, none⟩), .iface 57 x.val] w fun e w' => e = .returned (.tuple #[]) ∧ ∃ v', Pushed w w' g n v v' (L ++ [x]) := by
  have hfl : flat (L ++ [x]) = flat L ++ x.vals := by rw [flat_append]; simp [flat]
  obtain ⟨xw, xn, xt⟩ := x
  have HF : Hid _ := hfl
  clear hfl
  unfold En.val
  have hta : ∀ w, Sem.run Try.prog (Instr.typeAssert (.iface 57 (.agg #[.int .i64 xw, .int .i64 xn, .int .i64 (xt : Int)])) 20 57 true) w = .ok (.tuple #[.agg #[.int .i64 xw, .int .i64 xn, .int .i64 (xt : Int)], .bool true]) w := fun _ => by kernel_rfl
  obtain ⟨w5, hw5, hb5, P5, hs5⟩ := one_new w [.int .i64 xw, .int .i64 xn, .int .i64 (xt : Int)] 57
  have hO5 := owns_below hO hb5
  have B5 := hB.below hb5 hB.lt
  have lg := hB.lt
  have X6 := Blk.new w5.drew 57 [.int .i64 xw, .int .i64 xn, .int .i64 (xt : Int)]
  have hb6 : Below w5.heap.size w5 (w5.drew.alloc (.cells #[.int .i64 xw, .int .i64 xn, .int .i64 (xt : Int)] 57)) := ((Below.refl _ _).drew).alloc (Nat.le_refl _) _
  have h6 := owns_below hO5 hb6
  have B6 := B5.below hb6 B5.lt
  have g2 := B5.cell (j := 0) rfl
  have g2' := B6.cell (j := 0) rfl
  have q0 := P5.cell (j := 0) rfl
  have q1 := P5.cell (j := 1) rfl
  have q2 := P5.cell (j := 2) rfl
  obtain ⟨i57, hi57, hz57, hs57, hb57⟩ := info57
  obtain ⟨ao, cap, rfl⟩ : ∃ ao cap, v = .slice ao L.length cap := by
    rcases hO.2 with ⟨h0, h1⟩ | ⟨g, cap, cur, rfl, _⟩
    · exact ⟨none, 0, by rw [h0, h1]⟩
    · exact ⟨_, _, rfl⟩
  have g3' : (w5.alloc (.cells #[.int .i64 xw, .int .i64 xn, .int .i64 (xt : Int)] 57)).cell? ⟨g, 0, none⟩ = some (.slice ao L.length cap) := (B5.alloc _).cell (j := 0) rfl
  have HW : Hid _ := hw5
  clear hw5
  go_enter Try.func71, Try.ntmps71
  go_wp2_with fail
  rw [HW.out]
  go_region_law (refine step_append_own (by rfl) (.tmp 15) (.tmp 17) 49 (by rfl) 0 57 i57 _ 3 24 Try.underlying49 hi57 hz57 hs57 hb57 (by rfl) (by decide) (.slice ao L.length cap) L.length (flat L) (by rfl) h6 ⟨w5.heap.size, 0, none⟩ 1 1 [.int .i64 xw, .int .i64 xn, .int .i64 (xt : Int)] (by rfl) (by rfl) (fun i u hu => by rw [Addr.add_lit, Nat.zero_add]; exact X6.cell hu) (by simp [Value.oneCell']) (by unfold maxLen; omega) (by omega) (Nat.zero_le _) (by decide) ?_; intro v' w7 h7 hg7 hn7; obtain ⟨g', c', rfl, _, _, _, _⟩ := owns_shape h7 (by omega); have B7 := B6.carry (hg7.block g B6.lt (fun e => owns_ne h6 B6 (by decide) e.symm)); have r2 := B7.cell (j := 0) rfl; have rf := B7.frozen 0)
  all_goals
    go_wp2_with fail
    go_end0
    have K6 : Keep w w5 (fun k => k = g ∨ (Value.slice ao L.length cap).ownBlock = some k) := Keep.of_below hb5 (Nat.le_refl _)
    have K7 := K6.low hb6 (by omega)
    have K8 := K7.trans (Keep.of_grownS hg7) (fun k hk e => .inr e)
    refine ⟨rfl, _, B7.set 0 _, ?_, ?_, K8.setCell (g := g) (fun _ => .inl rfl) _ _⟩
    · rw [HF.out, List.length_append]
      exact owns_block h7 (fun g e => Below.heap_setCell _ _ _ _ (fun h => owns_ne h7 B7 (by decide) (by rw [e]; exact congrArg some h)))
    · rcases hn7 with h | ⟨k, h, hk⟩
      · exact .inl h
      · exact .inr ⟨k, h, by have h9 : w5.heap.size ≤ k := Nat.le_trans hb6.size hk; omega⟩
end Go.Proofs.Ytgimpolgagkffaa
