/- The walk of Env's Find, where one declaration named "a" is there, and where nothing is. No condition but that the declaration has no lists. -/
import Derived.Test.YtekdalbhgdkckaaGreatDoorE15
import Derived.Laws.ResultCell
namespace Go.Proofs.YtekdalbhgdkckaaGreatDoor
open Go.RowKit

set_option maxRecDepth 100000 in
set_option maxHeartbeats 1000000 in
theorem efind_nil (s : ByteArray) (w : World) : Calls Tryz.prog 4 #[.pointer none, .string s] w fun e w' => e = .returned (.tuple #[.agg (dcl 0 ⟨#[]⟩).toArray, .bool false]) ∧ Below w.heap.size w w' := by
  obtain ⟨w1, hw1, hb1, B1, _⟩ := new_oneE w (dcl 0 ⟨#[]⟩) 32
  have y0 := B1.cell (j := 0) rfl
  have y1 := B1.cell (j := 1) rfl
  have y2 := B1.cell (j := 2) rfl
  have y3 := B1.cell (j := 3) rfl
  have y4 := B1.cell (j := 4) rfl
  have y5 := B1.cell (j := 5) rfl
  have y6 := B1.cell (j := 6) rfl
  have y7 := B1.cell (j := 7) rfl
  have y8 := B1.cell (j := 8) rfl
  have y9 := B1.cell (j := 9) rfl
  have y10 := B1.cell (j := 10) rfl
  have y11 := B1.cell (j := 11) rfl
  have y12 := B1.cell (j := 12) rfl
  have y13 := B1.cell (j := 13) rfl
  have y14 := B1.cell (j := 14) rfl
  have y15 := B1.cell (j := 15) rfl
  have f0 := B1.frozen 0
  have f1 := B1.frozen 1
  have f2 := B1.frozen 2
  have f3 := B1.frozen 3
  have f4 := B1.frozen 4
  have f5 := B1.frozen 5
  have f6 := B1.frozen 6
  have f7 := B1.frozen 7
  have f8 := B1.frozen 8
  have f9 := B1.frozen 9
  have f10 := B1.frozen 10
  have f11 := B1.frozen 11
  have f12 := B1.frozen 12
  have f13 := B1.frozen 13
  have f14 := B1.frozen 14
  have f15 := B1.frozen 15
  have H1 : Hid (w.alloc (.cells #[.int .i64 0, .int .i64 0, .int .i64 0, .string ⟨#[]⟩, .string ⟨#[]⟩, .int .i64 0, .int .i64 0, .string ⟨#[]⟩, .slice none 0 0, .slice none 0 0, .int .i64 0, .int .i64 0, .string ⟨#[]⟩, .slice none 0 0, .slice none 0 0, .slice none 0 0] 32) = w1) := hw1
  clear hw1 B1
  go_enter Tryz.func4, Tryz.ntmps4
  go_wp2_with fail
  rw [H1.out]
  refine bodyPost_ret (v := .tuple #[.agg (dcl 0 ⟨#[]⟩).toArray, .bool false]) ?_ rfl ⟨rfl, hb1⟩
  rw [results_cell_tmp rfl]
  unfold dcl
  clear H1
  go_simp

set_option maxRecDepth 100000 in
set_option maxHeartbeats 1000000 in
theorem efind_one (g sh b : Nat) (n k : Int) (w : World) (hG : Blk w g 25 [.pointer (some ⟨sh, 0, none⟩), .int .i64 n]) (hS : Sheet w sh b k) : Calls Tryz.prog 4 #[.pointer (some ⟨g, 0, none⟩), .string aB] w fun e w' => e = .returned (.tuple #[.agg (dcl k aB).toArray, .bool true]) ∧ Below w.heap.size w w' := by
  obtain ⟨w1, hw1, hb1, B1, _⟩ := new_oneE w (dcl 0 ⟨#[]⟩) 32
  have H1 : Hid (w.alloc (.cells #[.int .i64 0, .int .i64 0, .int .i64 0, .string ⟨#[]⟩, .string ⟨#[]⟩, .int .i64 0, .int .i64 0, .string ⟨#[]⟩, .slice none 0 0, .slice none 0 0, .int .i64 0, .int .i64 0, .string ⟨#[]⟩, .slice none 0 0, .slice none 0 0, .slice none 0 0] 32) = w1) := hw1
  have x0 := hG.cell (j := 0) rfl
  have x00 : (w.alloc (.cells #[.int .i64 0, .int .i64 0, .int .i64 0, .string ⟨#[]⟩, .string ⟨#[]⟩, .int .i64 0, .int .i64 0, .string ⟨#[]⟩, .slice none 0 0, .slice none 0 0, .int .i64 0, .int .i64 0, .string ⟨#[]⟩, .slice none 0 0, .slice none 0 0, .slice none 0 0] 32)).cell? ⟨g, 0, none⟩ = some (.pointer (some ⟨sh, 0, none⟩)) := (hG.alloc _).cell (j := 0) rfl
  have cF := find_one sh b k w1 (hS.on hb1)
  have D1 := hS.decl.on hb1
  clear hw1 hG hS
  go_enter Tryz.func4, Tryz.ntmps4
  go_wp2_with fail
  rw [H1.out]
  refine cF.mono ?_
  rintro e w2 ⟨rfl, hb2⟩
  obtain ⟨w3, hw3, hb3, G3, hs3⟩ := new_oneE w2 [.pointer (some ⟨b, 0, none⟩)] 43
  have cT := told_any w2.heap.size 1 b k aB w3 (G3.cell (j := 0) rfl) ((D1.on hb2).on hb3)
  have H3 : Hid _ := hw3
  have B3 := (B1.on hb2).on hb3
  clear hw3 cF x0 x00 D1 B1 G3 hs3
  go_wp2_with fail
  rw [H3.out]
  refine cT.mono ?_
  rintro e w4 ⟨o, rfl, O4, ho, hb4⟩
  have B4 := B3.on hb4
  have bel4 : Below w.heap.size w w4 := ((hb1.trans (hb2.mono hb1.size)).trans (hb3.mono (Nat.le_trans hb1.size hb2.size))).trans (hb4.mono (Nat.le_trans (Nat.le_trans hb1.size hb2.size) hb3.size))
  have y0 := O4.cell (j := 0) rfl
  have y1 := O4.cell (j := 1) rfl
  have y2 := O4.cell (j := 2) rfl
  have y3 := O4.cell (j := 3) rfl
  have y4 := O4.cell (j := 4) rfl
  have y5 := O4.cell (j := 5) rfl
  have y6 := O4.cell (j := 6) rfl
  have y7 := O4.cell (j := 7) rfl
  have y8 := O4.cell (j := 8) rfl
  have y9 := O4.cell (j := 9) rfl
  have y10 := O4.cell (j := 10) rfl
  have y11 := O4.cell (j := 11) rfl
  have y12 := O4.cell (j := 12) rfl
  have y13 := O4.cell (j := 13) rfl
  have y14 := O4.cell (j := 14) rfl
  have y15 := O4.cell (j := 15) rfl
  have c0 := B4.cell (j := 0) rfl
  have c1 := B4.cell (j := 1) rfl
  have c2 := B4.cell (j := 2) rfl
  have c3 := B4.cell (j := 3) rfl
  have c4 := B4.cell (j := 4) rfl
  have c5 := B4.cell (j := 5) rfl
  have c6 := B4.cell (j := 6) rfl
  have c7 := B4.cell (j := 7) rfl
  have c8 := B4.cell (j := 8) rfl
  have c9 := B4.cell (j := 9) rfl
  have c10 := B4.cell (j := 10) rfl
  have c11 := B4.cell (j := 11) rfl
  have c12 := B4.cell (j := 12) rfl
  have c13 := B4.cell (j := 13) rfl
  have c14 := B4.cell (j := 14) rfl
  have c15 := B4.cell (j := 15) rfl
  have f0 := B4.frozen 0
  have f1 := B4.frozen 1
  have f2 := B4.frozen 2
  have f3 := B4.frozen 3
  have f4 := B4.frozen 4
  have f5 := B4.frozen 5
  have f6 := B4.frozen 6
  have f7 := B4.frozen 7
  have f8 := B4.frozen 8
  have f9 := B4.frozen 9
  have f10 := B4.frozen 10
  have f11 := B4.frozen 11
  have f12 := B4.frozen 12
  have f13 := B4.frozen 13
  have f14 := B4.frozen 14
  have f15 := B4.frozen 15
  have B5 : Blk _ w.heap.size 32 (dcl k aB) := ((((((((((((((((B4.set 0 (.int .i64 k)).set 1 (.int .i64 0)).set 2 (.int .i64 0)).set 3 (.string aB)).set 4 (.string ⟨#[]⟩)).set 5 (.int .i64 0)).set 6 (.int .i64 0)).set 7 (.string ⟨#[]⟩)).set 8 (.slice none 0 0)).set 9 (.slice none 0 0)).set 10 (.int .i64 0)).set 11 (.int .i64 0)).set 12 (.string ⟨#[]⟩)).set 13 (.slice none 0 0)).set 14 (.slice none 0 0)).set 15 (.slice none 0 0))
  have b5 : Below w.heap.size w _ := ((((((((((((((((bel4.setCell (p := ⟨w.heap.size, 0, none⟩) (Nat.le_refl _) (.int .i64 k)).setCell (p := ⟨w.heap.size, 1, none⟩) (Nat.le_refl _) (.int .i64 0)).setCell (p := ⟨w.heap.size, 2, none⟩) (Nat.le_refl _) (.int .i64 0)).setCell (p := ⟨w.heap.size, 3, none⟩) (Nat.le_refl _) (.string aB)).setCell (p := ⟨w.heap.size, 4, none⟩) (Nat.le_refl _) (.string ⟨#[]⟩)).setCell (p := ⟨w.heap.size, 5, none⟩) (Nat.le_refl _) (.int .i64 0)).setCell (p := ⟨w.heap.size, 6, none⟩) (Nat.le_refl _) (.int .i64 0)).setCell (p := ⟨w.heap.size, 7, none⟩) (Nat.le_refl _) (.string ⟨#[]⟩)).setCell (p := ⟨w.heap.size, 8, none⟩) (Nat.le_refl _) (.slice none 0 0)).setCell (p := ⟨w.heap.size, 9, none⟩) (Nat.le_refl _) (.slice none 0 0)).setCell (p := ⟨w.heap.size, 10, none⟩) (Nat.le_refl _) (.int .i64 0)).setCell (p := ⟨w.heap.size, 11, none⟩) (Nat.le_refl _) (.int .i64 0)).setCell (p := ⟨w.heap.size, 12, none⟩) (Nat.le_refl _) (.string ⟨#[]⟩)).setCell (p := ⟨w.heap.size, 13, none⟩) (Nat.le_refl _) (.slice none 0 0)).setCell (p := ⟨w.heap.size, 14, none⟩) (Nat.le_refl _) (.slice none 0 0)).setCell (p := ⟨w.heap.size, 15, none⟩) (Nat.le_refl _) (.slice none 0 0))
  obtain ⟨w5, hw5⟩ : ∃ w5, ((((((((((((((((w4.setCell ⟨w.heap.size, 0, none⟩ (.int .i64 k)).setCell ⟨w.heap.size, 1, none⟩ (.int .i64 0)).setCell ⟨w.heap.size, 2, none⟩ (.int .i64 0)).setCell ⟨w.heap.size, 3, none⟩ (.string aB)).setCell ⟨w.heap.size, 4, none⟩ (.string ⟨#[]⟩)).setCell ⟨w.heap.size, 5, none⟩ (.int .i64 0)).setCell ⟨w.heap.size, 6, none⟩ (.int .i64 0)).setCell ⟨w.heap.size, 7, none⟩ (.string ⟨#[]⟩)).setCell ⟨w.heap.size, 8, none⟩ (.slice none 0 0)).setCell ⟨w.heap.size, 9, none⟩ (.slice none 0 0)).setCell ⟨w.heap.size, 10, none⟩ (.int .i64 0)).setCell ⟨w.heap.size, 11, none⟩ (.int .i64 0)).setCell ⟨w.heap.size, 12, none⟩ (.string ⟨#[]⟩)).setCell ⟨w.heap.size, 13, none⟩ (.slice none 0 0)).setCell ⟨w.heap.size, 14, none⟩ (.slice none 0 0)).setCell ⟨w.heap.size, 15, none⟩ (.slice none 0 0)) = w5 := ⟨_, rfl⟩
  rw [hw5] at B5 b5
  have H5 : Hid _ := hw5
  clear hw5 cT B3 B4 O4 bel4 hb1 hb2 hb3 hb4
  go_wp2_with fail
  rw [H5.out]
  clear y0 c0 f0 y1 c1 f1 y2 c2 f2 y3 c3 f3 y4 c4 f4 y5 c5 f5 y6 c6 f6 y7 c7 f7 y8 c8 f8 y9 c9 f9 y10 c10 f10 y11 c11 f11 y12 c12 f12 y13 c13 f13 y14 c14 f14 y15 c15 f15 H5
  have z0 := B5.cell (j := 0) rfl
  have z1 := B5.cell (j := 1) rfl
  have z2 := B5.cell (j := 2) rfl
  have z3 := B5.cell (j := 3) rfl
  have z4 := B5.cell (j := 4) rfl
  have z5 := B5.cell (j := 5) rfl
  have z6 := B5.cell (j := 6) rfl
  have z7 := B5.cell (j := 7) rfl
  have z8 := B5.cell (j := 8) rfl
  have z9 := B5.cell (j := 9) rfl
  have z10 := B5.cell (j := 10) rfl
  have z11 := B5.cell (j := 11) rfl
  have z12 := B5.cell (j := 12) rfl
  have z13 := B5.cell (j := 13) rfl
  have z14 := B5.cell (j := 14) rfl
  have z15 := B5.cell (j := 15) rfl
  clear B5
  refine bodyPost_ret (v := .tuple #[.agg (dcl k aB).toArray, .bool true]) ?_ rfl ⟨rfl, b5⟩
  rw [results_cell_tmp rfl]
  unfold dcl
  go_simp
end Go.Proofs.YtekdalbhgdkckaaGreatDoor
