/- The walks of env's copies and told, of one declaration without lists, and of sheet.end, sheet.find. No condition but that the declaration has no lists. -/
import Derived.Test.YtekdalbhgdkckaaGreatDoorE10
namespace Go.Proofs.YtekdalbhgdkckaaGreatDoor
open Go.RowKit

set_option maxRecDepth 100000 in
theorem copiesS (pl cap b : Nat) (k : Int) (s : ByteArray) (w : World) (hp : w.cell? ⟨pl, 0, none⟩ = some (.pointer (some ⟨b, 0, none⟩))) (hB : Blk w b 32 (dcl k s)) :
    Calls Tryz.prog 21 #[.slice (some ⟨pl, 0, none⟩) 1 cap, .int .i64 2147483647, .func (.func 22) #[] #[]] w fun e w' => ∃ o, e = .returned (.slice (some ⟨o, 0, none⟩) 1 1) ∧ Blk w' o 32 (dcl k s) ∧ w.heap.size ≤ o ∧ Below w.heap.size w w' := by
  have cW := weigh_any pl cap b k 2147483647 s w (by omega) (by omega) hp hB
  go_enter Tryz.func21, Tryz.ntmps21
  go_wp2_with fail
  refine cW.mono ?_
  rintro e w1 ⟨rfl, hb1⟩
  have B1 := hB.on hb1
  have p1 := (World.cell?_of_block (w := w) (w' := w1) (hb1.block pl (World.block_lt_of_cell? w _ hp))).trans hp
  obtain ⟨w2, hw2, hb2, W2, hs2⟩ := new_oneE w1 [.int .i64 0, .int .i64 0, .int .i64 0] 64
  have cA := apart_any pl cap b k s w2 ((World.cell?_of_block (w := w1) (w' := w2) (hb2.block pl (World.block_lt_of_cell? w1 _ p1))).trans p1) (B1.on hb2)
  have H2 : Hid _ := hw2
  clear cW hw2 B1 p1 W2
  go_wp2_with fail
  rw [H2.out]
  refine cA.mono ?_
  rintro e w3 ⟨o, rfl, O3, ho, hb3⟩
  have := hb1.size
  go_wp2_with fail
  go_ret
  exact ⟨o, rfl, O3, by omega, (hb1.trans (hb2.mono hb1.size)).trans (hb3.mono (by omega))⟩

set_option maxRecDepth 100000 in
theorem told_any (pl cap b : Nat) (k : Int) (s : ByteArray) (w : World) (hp : w.cell? ⟨pl, 0, none⟩ = some (.pointer (some ⟨b, 0, none⟩))) (hB : Blk w b 32 (dcl k s)) :
    Calls Tryz.prog 13 #[.slice (some ⟨pl, 0, none⟩) 1 cap] w fun e w' => ∃ o, e = .returned (.slice (some ⟨o, 0, none⟩) 1 1) ∧ Blk w' o 32 (dcl k s) ∧ w.heap.size ≤ o ∧ Below w.heap.size w w' := by
  have c := copiesS pl cap b k s w hp hB
  go_enter Tryz.func13, Tryz.ntmps13
  go_wp2_with fail
  refine c.mono ?_
  rintro e w3 ⟨o, rfl, O3, ho, hb3⟩
  go_wp2_with fail
  go_ret
  exact ⟨o, rfl, O3, ho, hb3⟩

/-- A sheet with one declaration, named "a", with nothing beneath. -/
structure Sheet (w : World) (sh b : Nat) (k : Int) : Prop where
  is : ∃ q m c, Blk w sh 54 [.pointer none, .int .i64 0, .slice (some ⟨q, 0, none⟩) 1 1, .map (some m)] ∧ Blk w q 43 [.pointer (some ⟨b, 0, none⟩)] ∧ w.heap[m]? = some (.map #[⟨.string aB, .int .i64 0, 0⟩] c)
  decl : Blk w b 32 (dcl k aB)
theorem Sheet.on {w w' : World} {sh b : Nat} {k : Int} (h : Sheet w sh b k) (hb : Below w.heap.size w w') : Sheet w' sh b k := by
  obtain ⟨q, m, c, h1, h2, h3⟩ := h.is
  exact ⟨⟨q, m, c, h1.on hb, h2.on hb, (hb.block m (Array.getElem?_eq_some_iff.1 h3).1).trans h3⟩, h.decl.on hb⟩

set_option maxRecDepth 100000 in
theorem end_nil (w : World) : Calls Tryz.prog 19 #[.pointer none] w fun e w' => e = .returned (.int .i64 0) ∧ w = w' := by
  go_enter Tryz.func19, Tryz.ntmps19
  go_wp2_with fail
  go_ret
  exact ⟨rfl, rfl⟩

set_option maxRecDepth 100000 in
theorem end_one (sh b : Nat) (k : Int) (w : World) (h : Sheet w sh b k) : Calls Tryz.prog 19 #[.pointer (some ⟨sh, 0, none⟩)] w fun e w' => e = .returned (.int .i64 1) ∧ Below w.heap.size w w' := by
  obtain ⟨q, m, c, h1, h2, h3⟩ := h.is
  have x1 := over_cell (h1.cell (j := 1) rfl)
  have x2 := over_cell (h1.cell (j := 2) rfl)
  clear h h1 h2 h3
  go_enter Tryz.func19, Tryz.ntmps19
  go_wp2_with fail
  refine wp_region_over w (Below.refl _ _) (by kernel_rfl) (by kernel_rfl) ?_
  repeat (go_big_quiet_step (fail))
  refine wpQuiet_nil ?_
  rintro _ ⟨u, rfl⟩
  go_wp2_with fail
  go_ret
  exact ⟨rfl, over_below w u⟩

set_option maxRecDepth 100000 in
theorem find_nil (w : World) : Calls Tryz.prog 12 #[.pointer none, .string aB] w fun e w' => e = .returned (.tuple #[.pointer none, .int .i64 0]) ∧ w = w' := by
  have hsz : aB.size = 1 := rfl
  go_enter Tryz.func12, Tryz.ntmps12
  go_wp2_with fail
  go_loopw [0] (fun v wr => v = .pointer none ∧ wr = w) (fun _ _ => 0)
  case atStart => exact ⟨rfl, rfl⟩
  case round =>
    obtain ⟨rfl, rfl⟩ := hrel
    go_wp2_with fail
    go_ret2
    exact ⟨rfl, rfl⟩

set_option maxRecDepth 100000 in
theorem find_one (sh b : Nat) (k : Int) (w : World) (h : Sheet w sh b k) : Calls Tryz.prog 12 #[.pointer (some ⟨sh, 0, none⟩), .string aB] w fun e w' => e = .returned (.tuple #[.pointer (some ⟨b, 0, none⟩), .int .i64 0]) ∧ Below w.heap.size w w' := by
  have hsz : aB.size = 1 := rfl
  obtain ⟨q, m, c, h1, h2, h3⟩ := h.is
  have hl := look_one h3
  have x3 := h1.cell (j := 3) rfl
  have y1 := over_cell (h1.cell (j := 1) rfl)
  have y2 := over_cell (h1.cell (j := 2) rfl)
  have z0 := over_cell (h2.cell (j := 0) rfl)
  clear h h1 h2 h3
  go_enter Tryz.func12, Tryz.ntmps12
  go_wp2_with fail
  go_loopw [0] (fun v wr => v = .pointer (some ⟨sh, 0, none⟩) ∧ wr = w) (fun _ _ => 0)
  case atStart => exact ⟨rfl, rfl⟩
  case round =>
    obtain ⟨rfl, rfl⟩ := hrel
    go_wp2_with fail
    refine wp_region_over wr (Below.refl _ _) (by kernel_rfl) (by kernel_rfl) ?_
    repeat (go_big_quiet_step (fail))
    refine wpQuiet_nil ?_
    rintro _ ⟨u, rfl⟩
    go_wp2_with fail
    go_ret2
    exact ⟨rfl, over_below wr u⟩
end Go.Proofs.YtekdalbhgdkckaaGreatDoor
