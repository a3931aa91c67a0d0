/- The walks of env's newSlab, of no room, and of the slabs' finish. No condition. -/
import Derived.Test.YtekdalbhgdkckaaGreatDoorE4
namespace Go.Proofs.YtekdalbhgdkckaaGreatDoor
open Go.RowKit

/-- A slab in block c that has nothing. -/
structure Slab (w : World) (t : TypeId) (base c : Nat) : Prop where
  is : ∃ a cap, Blk w c t [.slice a 0 cap]
  new : base ≤ c
theorem Slab.on {w w' : World} {t : TypeId} {base c : Nat} (h : Slab w t base c) (hb : Below w.heap.size w w') : Slab w' t base c := by
  obtain ⟨a, cap, h1⟩ := h.is
  exact ⟨⟨a, cap, h1.on hb⟩, h.new⟩
theorem Slab.drew {w : World} {t : TypeId} {base c : Nat} (h : Slab w t base c) : Slab w.drew t base c := by
  obtain ⟨a, cap, h1⟩ := h.is
  exact ⟨⟨a, cap, h1.drew⟩, h.new⟩

set_option maxRecDepth 100000 in
theorem slab43 (w : World) : Calls Tryz.prog 43 #[.int .i64 0] w fun e w' => ∃ c, e = .returned (.pointer (some ⟨c, 0, none⟩)) ∧ Slab w' 142 w.heap.size c ∧ Below w.heap.size w w' := by
  have hmk : (Instr.makeSlice 30 (.int .i64 0) (.int .i64 0)).run Tryz.prog w = .ok (.slice (some ⟨w.heap.size, 0, none⟩) 0 0) (w.alloc (.cells #[] 88)) := by kernel_rfl
  obtain ⟨w1, hw1, hb1, _, hs1⟩ := new_oneE w [] 88
  obtain ⟨w2, hw2, hb2, B2, _⟩ := new_oneE w1 [.slice (some ⟨w.heap.size, 0, none⟩) 0 0] 142
  rw [hs1] at B2
  have H1 : Hid _ := hw1
  have H2 : Hid _ := hw2
  have bel : Below w.heap.size w w2 := hb1.trans (hb2.mono hb1.size)
  clear hw1 hw2 hb1 hb2 hs1
  go_enter Tryz.func43, Tryz.ntmps43
  go_wp2_with fail
  rw [H1.out, H2.out]
  go_ret
  exact ⟨w.heap.size + 1, rfl, ⟨⟨_, _, B2⟩, by omega⟩, bel⟩

set_option maxRecDepth 100000 in
theorem slab44 (w : World) : Calls Tryz.prog 44 #[.int .i64 0] w fun e w' => ∃ c, e = .returned (.pointer (some ⟨c, 0, none⟩)) ∧ Slab w' 144 w.heap.size c ∧ Below w.heap.size w w' := by
  have hmk : (Instr.makeSlice 27 (.int .i64 0) (.int .i64 0)).run Tryz.prog w = .ok (.slice (some ⟨w.heap.size, 0, none⟩) 0 0) (w.alloc (.cells #[] 29)) := by kernel_rfl
  obtain ⟨w1, hw1, hb1, _, hs1⟩ := new_oneE w [] 29
  obtain ⟨w2, hw2, hb2, B2, _⟩ := new_oneE w1 [.slice (some ⟨w.heap.size, 0, none⟩) 0 0] 144
  rw [hs1] at B2
  have H1 : Hid _ := hw1
  have H2 : Hid _ := hw2
  have bel : Below w.heap.size w w2 := hb1.trans (hb2.mono hb1.size)
  clear hw1 hw2 hb1 hb2 hs1
  go_enter Tryz.func44, Tryz.ntmps44
  go_wp2_with fail
  rw [H1.out, H2.out]
  go_ret
  exact ⟨w.heap.size + 1, rfl, ⟨⟨_, _, B2⟩, by omega⟩, bel⟩

set_option maxRecDepth 100000 in
theorem slab45 (w : World) : Calls Tryz.prog 45 #[.int .i64 0] w fun e w' => ∃ c, e = .returned (.pointer (some ⟨c, 0, none⟩)) ∧ Slab w' 146 w.heap.size c ∧ Below w.heap.size w w' := by
  have hmk : (Instr.makeSlice 26 (.int .i64 0) (.int .i64 0)).run Tryz.prog w = .ok (.slice (some ⟨w.heap.size, 0, none⟩) 0 0) (w.alloc (.cells #[] 92)) := by kernel_rfl
  obtain ⟨w1, hw1, hb1, _, hs1⟩ := new_oneE w [] 92
  obtain ⟨w2, hw2, hb2, B2, _⟩ := new_oneE w1 [.slice (some ⟨w.heap.size, 0, none⟩) 0 0] 146
  rw [hs1] at B2
  have H1 : Hid _ := hw1
  have H2 : Hid _ := hw2
  have bel : Below w.heap.size w w2 := hb1.trans (hb2.mono hb1.size)
  clear hw1 hw2 hb1 hb2 hs1
  go_enter Tryz.func45, Tryz.ntmps45
  go_wp2_with fail
  rw [H1.out, H2.out]
  go_ret
  exact ⟨w.heap.size + 1, rfl, ⟨⟨_, _, B2⟩, by omega⟩, bel⟩

set_option maxRecDepth 100000 in
theorem sfin52 (c : Nat) (cap : Nat) (a : Option Addr) (f : Value) (w : World) (h : Blk w c 144 [.slice a 0 cap]) : Calls Tryz.prog 52 #[.pointer (some ⟨c, 0, none⟩), f] w fun e w' => e = .returned (.tuple #[]) ∧ w = w' := by
  have x0 := h.cell (j := 0) rfl
  clear h
  go_enter Tryz.func52, Tryz.ntmps52
  go_wp2_with fail
  go_loopw [4] (fun v wr => v = .int .i64 0 ∧ wr = w) (fun _ _ => 0)
  case atStart => exact ⟨rfl, rfl⟩
  case round =>
    obtain ⟨rfl, rfl⟩ := hrel
    go_wp2_with fail
    go_end0
    exact ⟨rfl, rfl⟩

set_option maxRecDepth 100000 in
theorem sfin54 (c : Nat) (cap : Nat) (a : Option Addr) (f : Value) (w : World) (h : Blk w c 146 [.slice a 0 cap]) : Calls Tryz.prog 54 #[.pointer (some ⟨c, 0, none⟩), f] w fun e w' => e = .returned (.tuple #[]) ∧ w = w' := by
  have x0 := h.cell (j := 0) rfl
  clear h
  go_enter Tryz.func54, Tryz.ntmps54
  go_wp2_with fail
  go_loopw [4] (fun v wr => v = .int .i64 0 ∧ wr = w) (fun _ _ => 0)
  case atStart => exact ⟨rfl, rfl⟩
  case round =>
    obtain ⟨rfl, rfl⟩ := hrel
    go_wp2_with fail
    go_end0
    exact ⟨rfl, rfl⟩
end Go.Proofs.YtekdalbhgdkckaaGreatDoor
