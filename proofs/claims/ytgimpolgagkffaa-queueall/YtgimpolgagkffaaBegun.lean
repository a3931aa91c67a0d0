/- The walk of the laws' begun: it tells true. No condition. -/
import Derived.Test.YtgimpolgagkffaaQs3
namespace Go.Proofs.Ytgimpolgagkffaa
open Go.RowKit

set_option maxRecDepth 100000 in
set_option maxHeartbeats 1000000 in
theorem begun_any (w : World) : Calls Try.prog 6 #[] w fun e w' => e = .returned (.bool true) ∧ Below w.heap.size w w' := by
  go_enter Try.func6, Try.ntmps6
  go_wp2_with (go_at_call 7; refine (new_any w).mono ?_; rintro e w1 ⟨g, rfl, hg, Q1, hb1⟩)
  refine (qpush_any g none [] 0 3 1 w1 Q1 (by simp) (by omega)).mono ?_
  rintro e w2 ⟨rfl, q2, hP2⟩
  go_wp2_with fail
  refine (qpush_any g q2 [⟨3, 1, 0⟩] 1 1 2 w2 hP2.qs (by simp) (by omega)).mono ?_
  rintro e w3 ⟨rfl, q3, hP3⟩
  have Q3 : QS w3 g q3 [⟨1, 2, 1⟩, ⟨3, 1, 0⟩] 2 := hP3.qs
  go_wp2_with fail
  refine (qpop_any g q3 ⟨1, 2, 1⟩ [⟨3, 1, 0⟩] 2 w3 Q3).mono ?_
  rintro e w4 ⟨rfl, Q4, hK4⟩
  have B4 : Below w.heap.size w w4 := by
    have k2 := hP2.keep
    have k3 := hP3.keep
    have s1 := hb1.size
    have s2 := k2.size
    have s3 := k3.size
    have o2 : ∀ k, q2 = some k → w.heap.size ≤ k := fun k e => by
      rcases hP2.own with h | ⟨k', h, hk⟩
      · rw [h] at e; cases e
      · rw [h] at e; simp at e; omega
    have o3 : ∀ k, q3 = some k → w.heap.size ≤ k := fun k e => by
      rcases hP3.own with h | ⟨k', h, hk⟩
      · rw [h] at e; exact o2 k e
      · rw [h] at e; simp at e; omega
    exact ((hb1.trans (k2.below s1 (fun k h => h.elim (fun e => by omega) (fun e => by cases e)))).trans (k3.below (by omega) (fun k h => h.elim (fun e => by omega) (o2 k)))).trans (hK4.below (by omega) (fun k h => h.elim (fun e => by omega) (o3 k)))
  have HB : Hid _ := B4
  clear hP2 hP3 Q3 hK4 Q1 hb1 B4
  have lg := Q4.glt
  obtain ⟨w5, hw5, hb5, P5, hs5⟩ := one_new w4 [.int .i64 1, .int .i64 2] 35
  have Q5 := Q4.below hb5
  have HW : Hid _ := hw5
  have p1 := P5.cell (j := 1) rfl
  clear hw5
  go_wp2_with fail
  rw [HW.out]
  refine (qlen_any g q3 [⟨3, 1, 0⟩] 2 w5 Q5).mono ?_
  rintro e _ ⟨rfl, rfl⟩
  go_wp2_with fail
  refine (qdrop_nil g w5).mono ?_
  rintro e _ ⟨rfl, rfl⟩
  go_wp2_with fail
  go_ret
  exact ⟨rfl, HB.out.trans (hb5.mono HB.out.size)⟩
end Go.Proofs.Ytgimpolgagkffaa
