/- The walks of env's look.decl, load.finish and weigh, of declarations without lists. No condition but that the declarations have no lists. -/
import Derived.Test.YtekdalbhgdkckaaGreatDoorE1
import Derived.Deep.MidRow
namespace Go.Proofs.YtekdalbhgdkckaaGreatDoor
open Go.RowKit

/-- A declaration without lists. -/
def dcl (k : Int) (s : ByteArray) : List Value := [.int .i64 k, .int .i64 0, .int .i64 0, .string s, .string ⟨#[]⟩, .int .i64 0, .int .i64 0, .string ⟨#[]⟩, .slice none 0 0, .slice none 0 0, .int .i64 0, .int .i64 0, .string ⟨#[]⟩, .slice none 0 0, .slice none 0 0, .slice none 0 0]

theorem over_at {w u : World} {v : Value} {b o : Nat} (h : w.cell? ⟨b, o, none⟩ = some v) : (over w u).cell? ⟨b, o, none⟩ = some v := over_cell h u

set_option maxRecDepth 100000 in
theorem ldecl_any (c1 c2 c3 b : Nat) (k : Int) (s : ByteArray) (w : World) (hB : Blk w b 32 (dcl k s)) :
    Calls Tryz.prog 36 #[.agg (lookV c1 c2 c3).toArray, .pointer (some ⟨b, 0, none⟩)] w fun e w' => e = .returned (.tuple #[]) ∧ Below w.heap.size w w' := by
  obtain ⟨w1, hw1, hb1, L1, -⟩ := one_newE w (lookV c1 c2 c3) 94
  have B1 := hB.below hb1 hB.lt
  have x0 := over_cell (L1.cell (j := 0) rfl)
  have x1 := over_cell (L1.cell (j := 1) rfl)
  have x2 := over_cell (L1.cell (j := 2) rfl)
  have C40 : ∀ u, Calls Tryz.prog 40 #[.agg (lookV c1 c2 c3).toArray, .pointer (some ⟨b, 5, none⟩)] (over w1 u) fun e w'' => e = .returned (.tuple #[]) ∧ ∃ u', w'' = over w1 u' := fun u =>
    Calls.over (lterm_any c1 c2 c3 b 5 (over w1 u) (over_cell (B1.cell (j := 8) rfl) u) (over_cell (B1.cell (j := 9) rfl) u))
  have HW1 : Hid _ := hw1
  unfold lookV at HW1 C40 ⊢
  clear hw1 hB
  go_enter Tryz.func36, Tryz.ntmps36
  go_wp2_with fail
  rw [HW1.out]
  refine wp_region_over w1 (Below.refl _ _) (by kernel_rfl) (by kernel_rfl) ?_
  repeat (go_big_quiet_step (first | (go_at_call 40; exact C40 _)))
  refine wpQuiet_nil ?_
  rintro _ ⟨u, rfl⟩
  have hb2 := over_below w1 u
  obtain ⟨w2, hw2⟩ : ∃ w2, over w1 u = w2 := ⟨_, rfl⟩
  rw [hw2] at hb2 ⊢
  clear C40 x0 x1 x2 hw2
  have L2 := L1.below hb2 L1.lt
  have B2 := B1.below hb2 B1.lt
  have x0 := over_cell (L2.cell (j := 0) rfl)
  have x1 := over_cell (L2.cell (j := 1) rfl)
  have x2 := over_cell (L2.cell (j := 2) rfl)
  have C40 : ∀ u, Calls Tryz.prog 40 #[.agg (lookV c1 c2 c3).toArray, .pointer (some ⟨b, 10, none⟩)] (over w2 u) fun e w'' => e = .returned (.tuple #[]) ∧ ∃ u', w'' = over w2 u' := fun u =>
    Calls.over (lterm_any c1 c2 c3 b 10 (over w2 u) (over_cell (B2.cell (j := 13) rfl) u) (over_cell (B2.cell (j := 14) rfl) u))
  unfold lookV at C40
  go_wp2_with fail
  refine wp_region_over w2 (Below.refl _ _) (by kernel_rfl) (by kernel_rfl) ?_
  repeat (go_big_quiet_step (first | (go_at_call 40; exact C40 _)))
  refine wpQuiet_nil ?_
  rintro _ ⟨u, rfl⟩
  have hb3 := over_below w2 u
  obtain ⟨w3, hw3⟩ : ∃ w3, over w2 u = w3 := ⟨_, rfl⟩
  rw [hw3] at hb3 ⊢
  clear C40 x0 x1 x2 hw3
  have L3 := L2.below hb3 L2.lt
  have B3 := B2.below hb3 B2.lt
  have x0 := over_cell (L3.cell (j := 0) rfl)
  have z := over_cell (B3.cell (j := 15) rfl)
  have C33 : ∀ u, Calls Tryz.prog 33 #[.pointer (some ⟨c1, 0, none⟩), .slice none 0 0] (over w3 u) fun e w'' => e = .returned (.tuple #[]) ∧ ∃ u', w'' = over w3 u' := fun u => (take33 c1 _).mono fun e w'' ⟨he, hw⟩ => ⟨he, u, hw.symm⟩
  clear L1 L2 L3 B1 B2 B3
  go_wp2_with fail
  refine wp_region_over w3 (Below.refl _ _) (by kernel_rfl) (by kernel_rfl) ?_
  repeat (go_big_quiet_step (first | (go_at_call 33; exact C33 _)))
  refine wpQuiet_nil ?_
  rintro _ ⟨u, rfl⟩
  go_wp2_with fail
  go_end0
  exact ⟨rfl, ((hb1.trans (hb2.mono hb1.size)).trans (hb3.mono (Nat.le_trans hb1.size hb2.size))).trans ((over_below w3 u).mono (Nat.le_trans (Nat.le_trans hb1.size hb2.size) hb3.size))⟩

set_option maxRecDepth 100000 in
theorem lfin37 (c : Nat) (v0 v1 v2 f : Value) (w : World) (h : Blk w c 79 [v0, v1, v2, .slice none 0 0]) : Calls Tryz.prog 37 #[.pointer (some ⟨c, 0, none⟩), f] w fun e w' => e = .returned (.tuple #[]) ∧ w = w' := by
  have x3 := h.cell (j := 3) rfl
  clear h
  go_enter Tryz.func37, Tryz.ntmps37
  go_wp2_with fail
  go_loopw [] (fun wr => wr = w) (fun _ => 0)
  case atStart => rfl
  case round =>
    subst hrel
    go_wp2_with fail
    go_end0
    exact ⟨rfl, rfl⟩

set_option maxRecDepth 100000 in
theorem lfin39 (c : Nat) (v0 v1 v2 f : Value) (w : World) (h : Blk w c 82 [v0, v1, v2, .slice none 0 0]) : Calls Tryz.prog 39 #[.pointer (some ⟨c, 0, none⟩), f] w fun e w' => e = .returned (.tuple #[]) ∧ w = w' := by
  have x3 := h.cell (j := 3) rfl
  clear h
  go_enter Tryz.func39, Tryz.ntmps39
  go_wp2_with fail
  go_loopw [] (fun wr => wr = w) (fun _ => 0)
  case atStart => rfl
  case round =>
    subst hrel
    go_wp2_with fail
    go_end0
    exact ⟨rfl, rfl⟩

set_option maxRecDepth 100000 in
theorem lfin41 (c : Nat) (v0 v1 v2 f : Value) (w : World) (h : Blk w c 85 [v0, v1, v2, .slice none 0 0]) : Calls Tryz.prog 41 #[.pointer (some ⟨c, 0, none⟩), f] w fun e w' => e = .returned (.tuple #[]) ∧ w = w' := by
  have x3 := h.cell (j := 3) rfl
  clear h
  go_enter Tryz.func41, Tryz.ntmps41
  go_wp2_with fail
  go_loopw [] (fun wr => wr = w) (fun _ => 0)
  case atStart => rfl
  case round =>
    subst hrel
    go_wp2_with fail
    go_end0
    exact ⟨rfl, rfl⟩
end Go.Proofs.YtekdalbhgdkckaaGreatDoor
