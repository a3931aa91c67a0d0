/- The walks of env's weigh, of declarations without lists, and of what it calls. No condition but that the declarations have no lists. -/
import Derived.Test.YtekdalbhgdkckaaGreatDoorMp
import Derived.Test.YtekdalbhgdkckaaGreatDoorMem
import Derived.Test.YtekdalbhgdkckaaGreatDoorOver
import Derived.Deep.RegionHeld3
namespace Go.Proofs.YtekdalbhgdkckaaGreatDoor
open Go.RowKit

theorem one_newE (w : World) (l : List Value) (t : TypeId) : ∃ w1, w.alloc (.cells l.toArray t) = w1 ∧ Below w.heap.size w w1 ∧ Blk w1 w.heap.size t l ∧ w.heap.size < w1.heap.size :=
  ⟨_, rfl, (Below.refl _ _).alloc (Nat.le_refl _) _, Blk.new _ _ _, by simp⟩

theorem take33 (c : Nat) (w : World) : Calls Tryz.prog 33 #[.pointer (some ⟨c, 0, none⟩), .slice none 0 0] w fun e w' => e = .returned (.tuple #[]) ∧ w = w' := by
  go_enter Tryz.func33, Tryz.ntmps33
  go_wp2_with fail
  refine bodyPost_ret (results_none rfl _ _ _) rfl ?_
  exact ⟨rfl, rfl⟩
theorem take34 (c : Nat) (w : World) : Calls Tryz.prog 34 #[.pointer (some ⟨c, 0, none⟩), .slice none 0 0] w fun e w' => e = .returned (.tuple #[]) ∧ w = w' := by
  go_enter Tryz.func34, Tryz.ntmps34
  go_wp2_with fail
  refine bodyPost_ret (results_none rfl _ _ _) rfl ?_
  exact ⟨rfl, rfl⟩
theorem take35 (c : Nat) (w : World) : Calls Tryz.prog 35 #[.pointer (some ⟨c, 0, none⟩), .slice none 0 0] w fun e w' => e = .returned (.tuple #[]) ∧ w = w' := by
  go_enter Tryz.func35, Tryz.ntmps35
  go_wp2_with fail
  refine bodyPost_ret (results_none rfl _ _ _) rfl ?_
  exact ⟨rfl, rfl⟩

/-- A look's three functions. -/
def lookV (c1 c2 c3 : Nat) : List Value := [.func (.func 33) #[.pointer (some ⟨c1, 0, none⟩)] #[], .func (.func 34) #[.pointer (some ⟨c2, 0, none⟩)] #[], .func (.func 35) #[.pointer (some ⟨c3, 0, none⟩)] #[]]

set_option maxRecDepth 100000 in
theorem lterm_any (c1 c2 c3 b off : Nat) (w : World) (h3 : w.cell? ⟨b, off + 3, none⟩ = some (.slice none 0 0)) (h4 : w.cell? ⟨b, off + 4, none⟩ = some (.slice none 0 0)) :
    Calls Tryz.prog 40 #[.agg (lookV c1 c2 c3).toArray, .pointer (some ⟨b, off, none⟩)] w fun e w' => e = .returned (.tuple #[]) ∧ Below w.heap.size w w' := by
  obtain ⟨w1, hw1, hb1, B1, -⟩ := one_newE w (lookV c1 c2 c3) 94
  have hbl := World.block_lt_of_cell? w _ h3
  have g3 := over_cell ((World.cell?_of_block (w := w) (w' := w1) (hb1.block b hbl)).trans h3)
  have g4 := (World.cell?_of_block (w := w) (w' := w1) (hb1.block b hbl)).trans h4
  have x2 := over_cell (B1.cell (j := 2) rfl)
  have C35 : ∀ u, Calls Tryz.prog 35 #[.pointer (some ⟨c3, 0, none⟩), .slice none 0 0] (over w1 u) fun e w'' => e = .returned (.tuple #[]) ∧ ∃ u', w'' = over w1 u' := fun u => (take35 c3 _).mono fun e w'' ⟨he, hw⟩ => ⟨he, u, hw.symm⟩
  have HW1 : Hid _ := hw1
  unfold lookV at HW1 ⊢
  clear hw1 h3 h4 hbl
  go_enter Tryz.func40, Tryz.ntmps40
  go_wp2_with fail
  rw [HW1.out]
  refine wp_region_over w1 (Below.refl _ _) (by kernel_rfl) (by kernel_rfl) ?_
  repeat (go_big_quiet_step (first | (go_at_call 35; exact C35 _)))
  refine wpQuiet_nil ?_
  rintro _ ⟨u, rfl⟩
  have hb2 := over_below w1 u
  obtain ⟨w2, hw2⟩ : ∃ w2, over w1 u = w2 := ⟨_, rfl⟩
  rw [hw2] at hb2 ⊢
  have g4' := over_cell ((World.cell?_of_block (w := w1) (w' := w2) (hb2.block b (World.block_lt_of_cell? w1 _ g4))).trans g4)
  have x1 := over_cell ((B1.below hb2 B1.lt).cell (j := 1) rfl)
  have C34 : ∀ u, Calls Tryz.prog 34 #[.pointer (some ⟨c2, 0, none⟩), .slice none 0 0] (over w2 u) fun e w'' => e = .returned (.tuple #[]) ∧ ∃ u', w'' = over w2 u' := fun u => (take34 c2 _).mono fun e w'' ⟨he, hw⟩ => ⟨he, u, hw.symm⟩
  clear C35 g3 g4 x2 hw2 B1
  go_wp2_with fail
  refine wp_region_over w2 (Below.refl _ _) (by kernel_rfl) (by kernel_rfl) ?_
  repeat (go_big_quiet_step (first | (go_at_call 34; exact C34 _)))
  refine wpQuiet_nil ?_
  rintro _ ⟨u, rfl⟩
  go_wp2_with fail
  go_end0
  exact ⟨rfl, (hb1.trans (hb2.mono hb1.size)).trans ((over_below w2 u).mono (Nat.le_trans hb1.size hb2.size))⟩
end Go.Proofs.YtekdalbhgdkckaaGreatDoor
