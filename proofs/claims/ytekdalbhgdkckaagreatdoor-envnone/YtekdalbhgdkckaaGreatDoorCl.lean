/- The walks of a word's fresh and of names.each with it: the same texts in a new row. No condition but that the list can be read and is not too great. -/
import Derived.Test.YtekdalbhgdkckaaGreatDoorShelf
import Derived.Test.YtekdalbhgdkckaaGreatDoorSl
import Derived.OwnWalk
namespace Go.Proofs.YtekdalbhgdkckaaGreatDoor
open Go.RowKit

theorem clone48 (s : ByteArray) (w : World) (h : s.size ≤ 281474976710656) : Calls Tryz.prog 71 #[.string s] w fun e w' => e = .returned (.string s) ∧ Below w.heap.size w w' := Any.stringslite_Clone laysM316 s w h

theorem clone29 (s : ByteArray) (w : World) (h : s.size ≤ 281474976710656) : Calls Tryz.prog 31 #[.string s] w fun e w' => e = .returned (.string s) ∧ Below w.heap.size w w' := by
  go_enter Tryz.func31, Tryz.ntmps31
  go_wp2_with (go_at_call 71; refine (clone48 s w h).mono ?_; rintro e w' ⟨rfl, hb⟩)
  go_ret
  exact ⟨rfl, hb⟩

theorem info9 : ∃ i, Tryz.prog.info? 9 = some i ∧ i.zero = some (.string ⟨#[]⟩) ∧ i.size = 1 ∧ i.bytes = 16 := by
  have h : (Tryz.prog.info? 9).map (fun i => (i.zero, i.size, i.bytes)) = some (some (.string ⟨#[]⟩), 1, 16) := by kernel_rfl
  obtain ⟨i, hi, he⟩ := Option.map_eq_some_iff.1 h
  simp only [Prod.mk.injEq] at he
  exact ⟨i, hi, he⟩
end Go.Proofs.YtekdalbhgdkckaaGreatDoor
