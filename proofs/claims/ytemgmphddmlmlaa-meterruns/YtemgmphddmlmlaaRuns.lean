/- The walk of MeterRuns. No condition but that the numbers are bytes. -/
import Derived.Test.YtemgmphddmlmlaaBegun
import Derived.OpenShut
namespace Go.Proofs.Ytemgmphddmlmlaa
open Go.RowKit

theorem new_7 (f : Int) (h0 : 0 ≤ f) (h1 : f ≤ 255) (w : World) : Calls Try.prog 9 #[.int .i64 f, .int .i64 7] w fun e w' => e = .returned (.agg #[.int .i64 f, .int .i64 7]) ∧ Below w.heap.size w w' := by
  have := new_any f 7 w
  rw [show fit f 1073741824 = f by unfold fit; omega] at this
  exact this

theorem step_7 (f : Int) (h1 : f ≤ 255) (w : World) : Calls Try.prog 7 #[.agg #[.int .i64 f, .int .i64 7]] w fun e w' => e = .returned (.tuple #[.agg #[.int .i64 (if f ≤ 0 then f else f - 1), .int .i64 7], .int .i64 (if f ≤ 0 then 11 else 0)]) ∧ Below w.heap.size w w' := step_any f 7 (by omega) w

theorem less_7 (f s : Int) (h0 : 0 ≤ f) (h1 : f ≤ 255) (hs : 0 ≤ s) (w : World) : Calls Try.prog 13 #[.agg #[.int .i64 f, .int .i64 7], .int .i64 s] w fun e w' => e = .returned (.agg #[.int .i64 (max (f - s) 0), .int .i64 7]) ∧ Below w.heap.size w w' := by
  have := less_any f 7 s (by omega) w
  rw [show max f 0 - min (max s 0) (max f 0) = max (f - s) 0 by omega] at this
  exact this

set_option maxRecDepth 100000 in
set_option maxHeartbeats 1000000 in
theorem runs_any (f s : Nat) (hf : f < 256) (hs : s < 256) (w : World) : Calls Try.prog 4 #[.int .u8 (f : Int), .int .u8 (s : Int)] w fun e w' => e = .returned (.bool true) ∧ Below w.heap.size w w' := by
  have hw1 : IntKind.i64.wrap (f : Int) = (f : Int) := by rw [IntKind.wrap_i64]; omega
  have hw2 : IntKind.i64.wrap (s : Int) = (s : Int) := by rw [IntKind.wrap_i64]; omega
  go_enter Try.func4, Try.ntmps4
  go_wp2_with (first
    | (go_at_call 5; refine (begun_any w).mono ?_; rintro e w1 ⟨rfl, hb1⟩)
    | (go_at_call 9; refine (new_7 (f : Int) (by omega) (by omega) w1).mono ?_; rintro e w2 ⟨rfl, hb2⟩))
  have hb12 := hb1.trans (hb2.mono hb1.size)
  obtain ⟨w3, hw3, hb3, P3, hs3⟩ := one_new w2 ([.int .i64 (f : Int), .int .i64 7] : List Value) 23
  have hb := hb12.trans (hb3.mono hb12.size)
  obtain ⟨g, hg⟩ : ∃ g, w2.heap.size = g := ⟨_, rfl⟩
  have hgw : w.heap.size ≤ g := by have := hb12.size; omega
  rw [hg] at P3 ⊢
  rw [hw3]
  clear hb1 hb2 hb12 hb3 hs3 hw3 hg
  go_loopw [6] (fun s6 wr => ∃ k : Nat, k ≤ s ∧ s6 = .int .i64 (k : Int) ∧ Blk wr g 23 [.int .i64 (max ((f : Int) - k) 0), .int .i64 7] ∧ Below w.heap.size w wr) (fun s6 _ => s - (intOf s6).toNat)
  case atStart => exact ⟨0, by omega, rfl, by simpa using P3, hb⟩
  case round =>
    clear P3 hb
    obtain ⟨k, hks, rfl, hR, hB⟩ := hrel
    have hBs := hB.size
    have hgl := hR.lt
    by_cases hlt : k < s
    · have hls : decide ((k : Int) < (s : Int)) = true := by simp; omega
      have hwk : wrap64 ((k : Int) + 1) = (k : Int) + 1 := wr64 _ (by omega) (by omega)
      by_cases hkf : k < f
      · have hd : decide ((k : Int) < (f : Int)) = true := by simp; omega
        obtain ⟨m, hm⟩ : ∃ m : Int, max ((f : Int) - k) 0 = m := ⟨_, rfl⟩
        have hm1 : 0 < m := by omega
        have Hm : Hid (m - 1 = max ((f : Int) - (k + 1 : Nat)) 0) := by unfold Hid; omega
        rw [hm] at hR
        have c0 := hR.cell (j := 0) rfl
        have c1 := hR.cell (j := 1) rfl
        have hst := step_7 m (by omega) wr
        rw [if_neg (by omega), if_neg (by omega)] at hst
        clear hm
        go_wp2_with (go_at_call 7; refine hst.mono ?_; rintro e w4 ⟨rfl, hb4⟩; have R4 := (hR.below hb4 hR.lt).alloc (.cells #[.int .i64 (m - 1), .int .i64 7] 23); have d0 := R4.cell (j := 0) rfl; have d1 := R4.cell (j := 1) rfl; have f0 := R4.frozen 0; have f1 := R4.frozen 1)
        obtain ⟨Q, K⟩ := st2 R4 (.int .i64 (m - 1)) (.int .i64 7)
        refine ⟨⟨k + 1, by omega, by go_num, by rw [← Hm.out]; exact Q, ?_⟩, by simp [intOf]; omega⟩
        have hB4 := hB.trans (hb4.mono hB.size)
        exact (hB4.alloc hB4.size _).trans (K.below (by simp; have := hb4.size; omega) (by omega))
      · have hd : decide ((k : Int) < (f : Int)) = false := by simp; omega
        have Hm : Hid ((0 : Int) = max ((f : Int) - (k + 1 : Nat)) 0) := by unfold Hid; omega
        rw [show max ((f : Int) - k) 0 = 0 by omega] at hR
        have c0 := hR.cell (j := 0) rfl
        have c1 := hR.cell (j := 1) rfl
        have hst := step_7 0 (by omega) wr
        rw [if_pos (by omega), if_pos (by omega)] at hst
        go_wp2_with (go_at_call 7; refine hst.mono ?_; rintro e w4 ⟨rfl, hb4⟩; have R4 := (hR.below hb4 hR.lt).alloc (.cells #[.int .i64 0, .int .i64 7] 23); have d0 := R4.cell (j := 0) rfl; have d1 := R4.cell (j := 1) rfl; have f0 := R4.frozen 0; have f1 := R4.frozen 1)
        obtain ⟨Q, K⟩ := st2 R4 (.int .i64 0) (.int .i64 7)
        refine ⟨⟨k + 1, by omega, by go_num, by rw [← Hm.out]; exact Q, ?_⟩, by simp [intOf]; omega⟩
        have hB4 := hB.trans (hb4.mono hB.size)
        exact (hB4.alloc hB4.size _).trans (K.below (by simp; have := hb4.size; omega) (by omega))
    · have hls : decide ((k : Int) < (s : Int)) = false := by simp; omega
      obtain ⟨m, Hm⟩ : ∃ m : Int, Hid (max ((f : Int) - s) 0 = m) := ⟨_, rfl⟩
      rw [show k = s by omega, Hm.out] at hR
      have c0 := over_cell (hR.cell (j := 0) rfl)
      have c1 := over_cell (hR.cell (j := 1) rfl)
      have k9 : ∀ u, Calls Try.prog 9 #[.int .i64 (f : Int), .int .i64 7] (over wr u) fun e w'' => e = .returned (.agg #[.int .i64 (f : Int), .int .i64 7]) ∧ ∃ u', w'' = over wr u' := fun u => Calls.over (new_7 (f : Int) (by omega) (by omega) _)
      have k13 : ∀ u, Calls Try.prog 13 #[.agg #[.int .i64 (f : Int), .int .i64 7], .int .i64 (s : Int)] (over wr u) fun e w'' => e = .returned (.agg #[.int .i64 m, .int .i64 7]) ∧ ∃ u', w'' = over wr u' := fun u => Calls.over (by rw [← Hm.out]; exact less_7 (f : Int) (s : Int) (by omega) (by omega) (by omega) _)
      go_wp2_with fail
      refine wp_region_over wr (Below.refl _ _) (by kernel_rfl) (by kernel_rfl) ?_
      repeat (go_big_quiet_step (first | (go_at_call 9; exact k9 _) | (go_at_call 13; exact k13 _)))
      refine wpQuiet_nil ?_
      rintro _ ⟨u, rfl⟩
      go_wp2_with fail
      go_ret
      exact ⟨rfl, hB.trans ((over_below wr u).mono (by omega))⟩

theorem runs_row (a b : Int) (w : World) (ha : (Lit.int .u8 a).wf = true) (hb : (Lit.int .u8 b).wf = true) : Calls Try.prog 4 #[.int .u8 a, .int .u8 b] w fun e w' => e = .returned (.bool true) ∧ Below w.heap.size w w' := by
  have h1 : 0 ≤ a ∧ a < 256 := by have := Go.bounds_u8 ha; omega
  have h2 : 0 ≤ b ∧ b < 256 := by have := Go.bounds_u8 hb; omega
  obtain ⟨f, rfl⟩ : ∃ f : Nat, a = (f : Int) := ⟨a.toNat, by omega⟩
  obtain ⟨s, rfl⟩ : ∃ s : Nat, b = (s : Int) := ⟨b.toNat, by omega⟩
  exact runs_any f s (by omega) (by omega) w

end Go.Proofs.Ytemgmphddmlmlaa
