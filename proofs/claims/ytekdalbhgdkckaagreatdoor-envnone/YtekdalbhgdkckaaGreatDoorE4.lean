/- The walks of env's slabs and of turn.term, turn.decl with the text function same, of what has no lists. No condition but that there are no lists. -/
import Derived.Test.YtekdalbhgdkckaaGreatDoorE3
namespace Go.Proofs.YtekdalbhgdkckaaGreatDoor
open Go.RowKit

theorem same_any (s : ByteArray) (w : World) : Calls Tryz.prog 22 #[.string s] w fun e w' => e = .returned (.string s) ∧ w = w' := by
  go_enter Tryz.func22, Tryz.ntmps22
  go_wp2_with fail
  go_ret
  exact ⟨rfl, rfl⟩

theorem copied46 (c : Nat) (w : World) : Calls Tryz.prog 46 #[.pointer (some ⟨c, 0, none⟩), .slice none 0 0] w fun e w' => e = .returned (.slice none 0 0) ∧ w = w' := by
  go_enter Tryz.func46, Tryz.ntmps46
  go_wp2_with fail
  go_ret
  exact ⟨rfl, rfl⟩
theorem copied47 (c : Nat) (w : World) : Calls Tryz.prog 47 #[.pointer (some ⟨c, 0, none⟩), .slice none 0 0] w fun e w' => e = .returned (.slice none 0 0) ∧ w = w' := by
  go_enter Tryz.func47, Tryz.ntmps47
  go_wp2_with fail
  go_ret
  exact ⟨rfl, rfl⟩
theorem copied48 (c : Nat) (w : World) : Calls Tryz.prog 48 #[.pointer (some ⟨c, 0, none⟩), .slice none 0 0] w fun e w' => e = .returned (.slice none 0 0) ∧ w = w' := by
  go_enter Tryz.func48, Tryz.ntmps48
  go_wp2_with fail
  go_ret
  exact ⟨rfl, rfl⟩

/-- A turn's four functions, the first one of which is same. -/
def turnV (f : Value) (c1 c2 c3 : Nat) : List Value := [f, .func (.func 46) #[.pointer (some ⟨c1, 0, none⟩)] #[], .func (.func 47) #[.pointer (some ⟨c2, 0, none⟩)] #[], .func (.func 48) #[.pointer (some ⟨c3, 0, none⟩)] #[]]

set_option maxRecDepth 100000 in
theorem sfin50 (c : Nat) (cap : Nat) (a : Option Addr) (f : Value) (w : World) (h : Blk w c 142 [.slice a 0 cap]) : Calls Tryz.prog 50 #[.pointer (some ⟨c, 0, none⟩), f] w fun e w' => e = .returned (.tuple #[]) ∧ w = w' := by
  have x0 := h.cell (j := 0) rfl
  clear h
  go_enter Tryz.func50, Tryz.ntmps50
  go_wp2_with fail
  go_loopw [4] (fun v wr => v = .int .i64 0 ∧ wr = w) (fun _ _ => 0)
  case atStart => exact ⟨rfl, rfl⟩
  case round =>
    obtain ⟨rfl, rfl⟩ := hrel
    go_wp2_with fail
    go_end0
    exact ⟨rfl, rfl⟩
end Go.Proofs.YtekdalbhgdkckaaGreatDoor
