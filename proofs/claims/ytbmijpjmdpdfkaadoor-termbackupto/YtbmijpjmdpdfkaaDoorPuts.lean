/- The walks of term's mayBeTold and puts. No condition but that the terms lie in memory, have fewer than 2^20 parts and no Levels, and that what comes of it may be told. -/
import Derived.Test.YtbmijpjmdpdfkaaDoorWeigh
namespace Go.Proofs.YtbmijpjmdpdfkaaDoor
open Go.RowKit

set_option maxRecDepth 100000 in
set_option maxHeartbeats 400000 in
theorem told_few (n : Nat) (w : World) (hn : n ≤ 33554432) : Calls Tryd.prog 75 #[.agg #[.int .i64 (n : Int), .int .i64 0]] w fun e w' => e = .returned (.bool true) ∧ Below w.heap.size w w' := by
  obtain ⟨w1, hw1, hb1, P1, hs1⟩ := one_new w [.int .i64 (n : Int), .int .i64 0] 60
  have p0 := P1.cell (j := 0) rfl
  have p1 := P1.cell (j := 1) rfl
  have hd : decide ((n : Int) ≤ 33554432) = true := by simp; omega
  go_enter Tryd.func75, Tryd.ntmps75
  go_wp2_with fail
  go_ret
  exact ⟨rfl, hb1⟩

set_option maxRecDepth 100000 in
set_option maxHeartbeats 400000 in
theorem puts_one (bt ot bv ov : Nat) (T V : Tr) (w : World) (B : Nat) (hT : Tabs w) (h3 : 3 ≤ B) (hB : B ≤ w.heap.size) (hc : TCells w bt ot T) (hin : TIn w (· < B) T) (hsz : T.size < 1048576) (hpl : Plainly (Pt.mk bt ot T 1 0).seq)
    (hcv : TCells w bv ov V) (hinv : TIn w (· < B) V) (hszv : V.size = 1) (hplv : Plainly (Pt.mk bv ov V 1 0).seq) (htm : 1 ≤ cntF 0 (Pt.mk bt ot T 1 0).seq) :
    Calls Tryd.prog 42 #[.pointer (some ⟨bt, ot, none⟩), .pointer (some ⟨bv, ov, none⟩)] w fun e w' => e = .returned (.bool true) ∧ Below w.heap.size w w' := by
  have h40 := weigh_plain bt ot T w B hT h3 hB hc hin hsz hpl
  have hlt := hc.lt
  have hlv := hcv.lt
  have hle := cntF_le 0 (Pt.mk bt ot T 1 0).seq
  rw [show ((Pt.mk bt ot T 1 0).seq).length = T.size from Tr.seq_len _ _ _ _ _] at hle
  obtain ⟨S, hS⟩ : ∃ S, T.size = S := ⟨_, rfl⟩
  obtain ⟨k, hk⟩ : ∃ k, cntF 0 (Pt.mk bt ot T 1 0).seq = k := ⟨_, rfl⟩
  have hsz2 := hsz
  rw [hk] at htm hle
  rw [hS] at hle hsz h40
  have hk0 : decide ((k : Int) = 0) = false := by simp; omega
  have hk1 : ¬ ((k : Int) = 0) := by omega
  go_enter Tryd.func42, Tryd.ntmps42
  go_wp2_with fail
  refine h40.mono ?_
  rintro e w1 ⟨rfl, hb1⟩
  obtain ⟨w2, hw2, hb2, A2, hs2⟩ := one_new w1 [.int .i64 (S : Int), .int .i64 0] 60
  have hb12 := hb1.trans (hb2.mono hb1.size)
  have hz2 := hb12.size
  have h55 := count_any bt ot T 0 w2 B (hT.on hb12) h3 (by omega) (hc.on hb12) (hin.below hb12 hB) hsz2
  rw [hk] at h55
  have HW2 : Hid (w1.alloc (.cells #[.int .i64 (S : Int), .int .i64 0] 60) = w2) := hw2
  clear h40 hw2
  go_wp2_with fail
  rw [HW2.out]
  refine h55.mono ?_
  rintro e w3 ⟨rfl, hb3⟩
  have hb13 := hb12.trans (hb3.mono hb12.size)
  have hz3 := hb13.size
  have h40v := weigh_plain bv ov V w3 B (hT.on hb13) h3 (by omega) (hcv.on hb13) (hinv.below hb13 hB) (by omega) hplv
  rw [hszv] at h40v
  have A3 := A2.below hb3 A2.lt
  clear h55
  go_wp2_with fail
  refine h40v.mono ?_
  rintro e w4 ⟨rfl, hb4⟩
  have A4 := A3.below hb4 A3.lt
  obtain ⟨w5, hw5, hb5, C5, hs5⟩ := one_new w4 [.int .i64 1, .int .i64 0] 60
  have A5 := A4.below hb5 A4.lt
  have n1 : w1.heap.size ≠ w4.heap.size := by have := A4.lt; omega
  have n2 : w4.heap.size ≠ w1.heap.size := by omega
  have HW5 : Hid (w4.alloc (.cells #[.int .i64 1, .int .i64 0] 60) = w5) := hw5
  have a0 : (w4.alloc (.cells #[.int .i64 1, .int .i64 0] 60)).cell? ⟨w1.heap.size, 0, none⟩ = some (.int .i64 (S : Int)) := by rw [HW5.out]; exact A5.cell (j := 0) rfl
  have a1 : (w4.alloc (.cells #[.int .i64 1, .int .i64 0] 60)).cell? ⟨w1.heap.size, 1, none⟩ = some (.int .i64 0) := by rw [HW5.out]; exact A5.cell (j := 1) rfl
  have f0 : (w4.alloc (.cells #[.int .i64 1, .int .i64 0] 60)).frozen? ⟨w1.heap.size, 0, none⟩ = false := by rw [HW5.out]; exact A5.frozen 0
  have f1 : (w4.alloc (.cells #[.int .i64 1, .int .i64 0] 60)).frozen? ⟨w1.heap.size, 1, none⟩ = false := by rw [HW5.out]; exact A5.frozen 1
  clear h40v hw5
  go_wp2_with fail
  refine (told_few S _ (by omega)).mono ?_
  rintro e w6 ⟨rfl, hb6⟩
  have hz1 := hb1.size
  have hb14 : Below w.heap.size w w4 := hb13.trans (hb4.mono hb13.size)
  have hb15 : Below w.heap.size w (((w4.alloc (.cells #[.int .i64 1, .int .i64 0] 60)).setCell ⟨w1.heap.size, 0, none⟩ (.int .i64 (S : Int))).setCell ⟨w1.heap.size, 1, none⟩ (.int .i64 0)) := ((hb14.alloc hb14.size _).setCell (p := ⟨w1.heap.size, 0, none⟩) hz1 _).setCell (p := ⟨w1.heap.size, 1, none⟩) hz1 _
  go_wp2_with fail
  go_ret
  exact ⟨rfl, hb15.trans (hb6.mono hb15.size)⟩
end Go.Proofs.YtbmijpjmdpdfkaaDoor
