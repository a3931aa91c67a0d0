/- The walks of Env's Len, All, Over, Own and Find, where one declaration named "a" is there, and Find where nothing is. No condition but that the declaration has no lists. -/
import Derived.Test.YtekdalbhgdkckaaGreatDoorE15
import Derived.Laws.ResultCell
namespace Go.Proofs.YtekdalbhgdkckaaGreatDoor
open Go.RowKit

set_option maxRecDepth 100000 in
theorem len_one (g sh b : Nat) (k : Int) (w : World) (hG : Blk w g 25 [.pointer (some ⟨sh, 0, none⟩), .int .i64 0]) (hS : Sheet w sh b k) :
    Calls Tryz.prog 7 #[.pointer (some ⟨g, 0, none⟩)] w fun e w' => e = .returned (.int .i64 1) ∧ Below w.heap.size w w' := by
  have x0 := over_cell (hG.cell (j := 0) rfl)
  have x1 := over_cell (hG.cell (j := 1) rfl)
  have cE : ∀ u, Calls Tryz.prog 19 #[.pointer (some ⟨sh, 0, none⟩)] (over w u) fun e w'' => e = .returned (.int .i64 1) ∧ ∃ u', w'' = over w u' := fun u => Calls.over (end_one sh b k (over w u) (hS.on (over_below w u)))
  clear hG hS
  go_enter Tryz.func7, Tryz.ntmps7
  go_wp2_with fail
  refine wp_region_over w (Below.refl _ _) (by kernel_rfl) (by kernel_rfl) ?_
  repeat (go_big_quiet_step (first | (go_at_call 19; exact cE _)))
  refine wpQuiet_nil ?_
  rintro _ ⟨u, rfl⟩
  go_wp2_with fail
  go_ret
  exact ⟨rfl, over_below w u⟩

set_option maxRecDepth 100000 in
theorem all_one (g sh b : Nat) (n k : Int) (w : World) (hG : Blk w g 25 [.pointer (some ⟨sh, 0, none⟩), .int .i64 n]) (hS : Sheet w sh b k) :
    Calls Tryz.prog 8 #[.pointer (some ⟨g, 0, none⟩)] w fun e w' => ∃ o, e = .returned (.slice (some ⟨o, 0, none⟩) 1 1) ∧ Below w.heap.size w w' := by
  have x0 := hG.cell (j := 0) rfl
  have cA := all_any sh b k w hS
  have hB := hS.decl
  clear hG hS
  go_enter Tryz.func8, Tryz.ntmps8
  go_wp2_with fail
  refine cA.mono ?_
  rintro e w1 ⟨o, rfl, hp, hb1⟩
  have cT := told_any o 1 b k aB w1 hp (hB.on hb1)
  clear cA x0 hB hp
  go_wp2_with fail
  refine cT.mono ?_
  rintro e w2 ⟨o2, rfl, _, _, hb2⟩
  clear cT
  go_wp2_with fail
  go_ret
  exact ⟨o2, rfl, hb1.trans (hb2.mono hb1.size)⟩

set_option maxRecDepth 100000 in
theorem over_one (g sh b : Nat) (k : Int) (w : World) (hG : Blk w g 25 [.pointer (some ⟨sh, 0, none⟩), .int .i64 0]) (hS : Sheet w sh b k) :
    Calls Tryz.prog 9 #[.pointer (some ⟨g, 0, none⟩)] w fun e w' => ∃ g2, e = .returned (.pointer (some ⟨g2, 0, none⟩)) ∧ Blk w' g2 25 [.pointer (some ⟨sh, 0, none⟩), .int .i64 1] ∧ Below w.heap.size w w' := by
  have x0 := hG.cell (j := 0) rfl
  have cE := end_one sh b k w.drew (by
    obtain ⟨q, m, c, h1, h2, h3⟩ := hS.is
    exact ⟨⟨q, m, c, h1.drew, h2.drew, h3⟩, hS.decl.drew⟩)
  have FK : Hid (∀ w2, Below w.drew.heap.size w.drew w2 → w2.cell? ⟨g, 0, none⟩ = some (.pointer (some ⟨sh, 0, none⟩)) ∧ (w2.alloc (.cells #[.pointer (some ⟨sh, 0, none⟩), .int .i64 1] 25)).cell? ⟨g, 0, none⟩ = some (.pointer (some ⟨sh, 0, none⟩))) := fun w2 hb => by
    have G2 := hG.drew.on hb
    exact ⟨G2.cell (j := 0) rfl, (G2.alloc _).cell (j := 0) rfl⟩
  clear hG hS
  go_enter Tryz.func9, Tryz.ntmps9
  go_wp2_with fail
  go_region_held3 (fun w' => w'.cell? ⟨g, 0, none⟩ = some (.pointer (some ⟨sh, 0, none⟩))) (go_keep) ((go_at_call 19; refine cE.mono ?_; rintro e w2 ⟨rfl, hb2⟩; obtain ⟨z1, z2⟩ := FK.out w2 hb2))
  go_wp2_with fail
  obtain ⟨w3, hw3, hb3, G3, _⟩ := new_oneE w2 [.pointer (some ⟨sh, 0, none⟩), .int .i64 1] 25
  have H3 : Hid _ := hw3
  clear hw3
  rw [H3.out]
  go_ret
  exact ⟨_, rfl, G3, (Below.drew (Below.refl w.heap.size w)).trans (hb2.trans (hb3.mono hb2.size))⟩

set_option maxRecDepth 100000 in
theorem own_0 (g sh b : Nat) (k : Int) (w : World) (hG : Blk w g 25 [.pointer (some ⟨sh, 0, none⟩), .int .i64 0]) (hS : Sheet w sh b k) :
    Calls Tryz.prog 11 #[.pointer (some ⟨g, 0, none⟩), .string aB] w fun e w' => e = .returned (.bool true) ∧ Below w.heap.size w w' := by
  have x0 := hG.cell (j := 0) rfl
  have cF := find_one sh b k w hS
  go_enter Tryz.func11, Tryz.ntmps11
  go_wp2_with fail
  refine cF.mono ?_
  rintro e w1 ⟨rfl, hb1⟩
  have x1 := (hG.on hb1).cell (j := 1) rfl
  clear cF x0 hG hS
  go_wp2_with fail
  go_ret
  exact ⟨rfl, hb1⟩

set_option maxRecDepth 100000 in
theorem own_1 (g sh b : Nat) (k : Int) (w : World) (hG : Blk w g 25 [.pointer (some ⟨sh, 0, none⟩), .int .i64 1]) (hS : Sheet w sh b k) :
    Calls Tryz.prog 11 #[.pointer (some ⟨g, 0, none⟩), .string aB] w fun e w' => e = .returned (.bool false) ∧ Below w.heap.size w w' := by
  have x0 := hG.cell (j := 0) rfl
  have cF := find_one sh b k w hS
  go_enter Tryz.func11, Tryz.ntmps11
  go_wp2_with fail
  refine cF.mono ?_
  rintro e w1 ⟨rfl, hb1⟩
  have x1 := (hG.on hb1).cell (j := 1) rfl
  clear cF x0 hG hS
  go_wp2_with fail
  go_ret
  exact ⟨rfl, hb1⟩
end Go.Proofs.YtekdalbhgdkckaaGreatDoor
