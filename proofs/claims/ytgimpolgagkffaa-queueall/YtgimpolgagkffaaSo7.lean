/- choosePivot over a queue's row: a place within bounds. No condition but sizes. -/
import Derived.Test.YtgimpolgagkffaaSo5
namespace Go.Proofs.Ytgimpolgagkffaa
open Go.RowKit

/-- What choosePivot tells. -/
structure Cp (w0 : World) (b cap n : Nat) (L : List En) (lo hi : Int) (w' : World) (p : Int) : Prop where
  p0 : lo ≤ p
  p9 : p < hi
  pr : PR w0 b cap n L w'

set_option maxRecDepth 100000 in
set_option maxHeartbeats 4000000 in
theorem choose_any (b cap n : Nat) (L : List En) (x y : Int) (w0 w : World) (h : PR w0 b cap n L w) (hx : 0 ≤ x) (hxy : x + 13 ≤ y) (hy : y ≤ (n : Int)) (hm : n ≤ 256) :
    Calls Try.prog 39 #[.iface 49 (.slice (some ⟨b, 0, none⟩) n cap), .int .i64 x, .int .i64 y] w fun e w' => ∃ (p t : Int), e = .returned (.tuple #[.int .i64 p, .int .i64 t]) ∧ Cp w0 b cap n L x y w' p := by
  obtain ⟨l, HL⟩ : ∃ l : Int, Hid (y - x = l) := ⟨_, rfl⟩
  have hl0 : y - x = l := HL.out
  have hl13 : 13 ≤ l := by omega
  have hly : x + l ≤ y := by omega
  have hl9 : l ≤ 256 := by omega
  obtain ⟨q, hq⟩ : ∃ q : Int, l.tdiv 4 = q := ⟨_, rfl⟩
  have hq0 : 3 ≤ q ∧ q * 4 ≤ l := by
    rw [← hq, Int.tdiv_eq_ediv_of_nonneg (by omega)]; omega
  have hq9 : q ≤ 64 := by omega
  obtain ⟨w1, hw1, hb1, P1, hs1⟩ := one_new w [.int .i64 0] 3
  have h1 : SC w0 b cap n L w.heap.size w1 0 := ⟨h.low hb1, h.size, P1, by have := h.lt; omega⟩
  have HW : Hid _ := hw1
  clear hw1 h P1
  have tail : ∀ (w2 : World) (p d : Int), Hid (Md w0 b cap n L w.heap.size d x y w2 p d) → True := fun _ _ _ _ => trivial
  clear tail
  by_cases h50 : 50 ≤ l
  · have hq12 : 12 ≤ q := by
      rw [← hq, Int.tdiv_eq_ediv_of_nonneg (by omega)]; omega
    go_enter Try.func39, Try.ntmps39
    go_wp2_with fail
    rw [HW.out]
    refine (medAdj_any b cap n L w.heap.size 0 x y (x + q) w0 w1 h1 hx hy (by omega) (by omega) (by omega) (by omega) (by omega)).mono ?_
    rintro e w2 ⟨p2, rfl, d2, h2⟩
    obtain ⟨a1, a2, a3, a4, s2⟩ := h2
    clear h1
    go_wp2_with fail
    refine (medAdj_any b cap n L w.heap.size d2 x y (x + q * 2) w0 w2 s2 hx hy (by omega) (by omega) (by omega) (by omega) (by omega)).mono ?_
    rintro e w3 ⟨p3, rfl, d3, h3⟩
    obtain ⟨b1, b2, b3, b4, s3⟩ := h3
    clear s2
    go_wp2_with fail
    refine (medAdj_any b cap n L w.heap.size d3 x y (x + q * 3) w0 w3 s3 hx hy (by omega) (by omega) (by omega) (by omega) (by omega)).mono ?_
    rintro e w4 ⟨p4, rfl, d4, h4⟩
    obtain ⟨e1, e2, e3, e4, s4⟩ := h4
    clear s3
    go_wp2_with fail
    refine (median_any b cap n L w.heap.size d4 x y p2 p3 p4 w0 w4 s4 hx hy a1 a2 b1 b2 e1 e2 (by omega) (by omega)).mono ?_
    rintro e w5 ⟨p5, rfl, d5, h5⟩
    obtain ⟨f1, f2, f3, f4, s5⟩ := h5
    clear s4
    have c0 := s5.blk.cell (j := 0) rfl
    have FF : Hid (Cp w0 b cap n L x y w5 p5) := ⟨f1, f2, s5.pr⟩
    clear s5
    by_cases hd0 : d5 = 0
    · subst hd0
      go_wp2_with fail
      refine bodyPost_ret (v := .tuple #[.int .i64 p5, .int .i64 1]) (by simp [results, Try.results39, go_sem]) rfl ⟨p5, 1, rfl, FF.out⟩
    · have hd0' : (d5 == 0) = false := beq_eq_false_iff_ne.2 hd0
      by_cases hd12 : d5 = 12
      · subst hd12
        go_wp2_with fail
        refine bodyPost_ret (v := .tuple #[.int .i64 p5, .int .i64 2]) (by simp [results, Try.results39, go_sem]) rfl ⟨p5, 2, rfl, FF.out⟩
      · have hd12' : (d5 == 12) = false := beq_eq_false_iff_ne.2 hd12
        go_wp2_with fail
        refine bodyPost_ret (v := .tuple #[.int .i64 p5, .int .i64 0]) (by simp [results, Try.results39, go_sem]) rfl ⟨p5, 0, rfl, FF.out⟩
  · go_enter Try.func39, Try.ntmps39
    go_wp2_with fail
    rw [HW.out]
    refine (median_any b cap n L w.heap.size 0 x y (x + q) (x + q * 2) (x + q * 3) w0 w1 h1 hx hy (by omega) (by omega) (by omega) (by omega) (by omega) (by omega) (by omega) (by omega)).mono ?_
    rintro e w5 ⟨p5, rfl, d5, h5⟩
    obtain ⟨f1, f2, f3, f4, s5⟩ := h5
    clear h1
    have c0 := s5.blk.cell (j := 0) rfl
    have FF : Hid (Cp w0 b cap n L x y w5 p5) := ⟨f1, f2, s5.pr⟩
    clear s5
    by_cases hd0 : d5 = 0
    · subst hd0
      go_wp2_with fail
      refine bodyPost_ret (v := .tuple #[.int .i64 p5, .int .i64 1]) (by simp [results, Try.results39, go_sem]) rfl ⟨p5, 1, rfl, FF.out⟩
    · have hd0' : (d5 == 0) = false := beq_eq_false_iff_ne.2 hd0
      have hd12' : (d5 == 12) = false := beq_eq_false_iff_ne.2 (by omega)
      go_wp2_with fail
      refine bodyPost_ret (v := .tuple #[.int .i64 p5, .int .i64 0]) (by simp [results, Try.results39, go_sem]) rfl ⟨p5, 0, rfl, FF.out⟩
end Go.Proofs.Ytgimpolgagkffaa
