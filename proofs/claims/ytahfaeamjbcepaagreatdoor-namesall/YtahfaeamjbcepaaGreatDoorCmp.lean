/- The walks of strings.Compare, of a word's order, of names.Less, and of the document's Less. No condition. -/
import Derived.Test.YtahfaeamjbcepaaGreatDoorProg
import Derived.Test.YtahfaeamjbcepaaGreatDoorSl
import Derived.Lib.Bytealg
import Derived.Sort.Walk0
import Derived.Shelf.SlSortCmp.Insertion
namespace Go.Proofs.YtahfaeamjbcepaaGreatDoor
open Go.RowKit

set_option maxRecDepth 100000 in
theorem cmp47 (a b : ByteArray) (w : World) : Calls Tryz.prog 47 #[.string a, .string b] w fun e w' => e = .returned (.int .i64 (Lib.compareBytes a.data.toList b.data.toList)) ∧ w = w' := by
  go_enter Tryz.func47, Tryz.ntmps47
  go_wp2
  rw [run_callFunc_extern Tryz.func67 (by kernel_rfl) (by kernel_rfl) (by kernel_rfl) (e := Extern.BytealgCompare.compare) (by kernel_rfl), Lib.run_compareString]
  simp only [Result.andThen]
  rw [Oper.upon_value]
  go_wp2
  go_ret
  exact ⟨rfl, rfl⟩

theorem cmp28 (a b : ByteArray) (w : World) : Calls Tryz.prog 28 #[.string a, .string b] w fun e w' => e = .returned (.int .i64 (Lib.compareBytes a.data.toList b.data.toList)) ∧ w = w' := by
  go_enter Tryz.func28, Tryz.ntmps28
  go_wp2_with (go_at_call 47; refine (cmp47 a b w).mono ?_; rintro e w' ⟨rfl, rfl⟩)
  go_ret
  exact ⟨rfl, rfl⟩

theorem order_any (a b : ByteArray) (w : World) : Calls Tryz.prog 19 #[.string a, .string b] w fun e w' => e = .returned (.int .i64 (Lib.compareBytes a.data.toList b.data.toList)) ∧ w = w' := by
  go_enter Tryz.func19, Tryz.ntmps19
  go_wp2_with (go_at_call 28; refine (cmp28 a b w).mono ?_; rintro e w' ⟨rfl, rfl⟩)
  go_ret
  exact ⟨rfl, rfl⟩

theorem less_any (x y : List UInt8) (w : World) : Calls Tryz.prog 15 #[tx x, tx y] w fun e w' => e = .returned (.bool (decide (Lib.compareBytes x y < 0))) ∧ w = w' := by
  unfold tx
  obtain ⟨c, hc⟩ : ∃ c, Lib.compareBytes x y = c := ⟨_, rfl⟩
  have h := order_any ⟨x.toArray⟩ ⟨y.toArray⟩ w
  simp only at h
  rw [hc] at h ⊢
  by_cases h0 : c < 0
  · have hd : decide (c < 0) = true := by simpa using h0
    rw [hd]
    go_enter Tryz.func15, Tryz.ntmps15
    go_wp2_with (go_at_call 19; refine h.mono ?_; rintro e w' ⟨rfl, rfl⟩)
    go_ret
    exact ⟨by simp, rfl⟩
  · have hd : decide (c < 0) = false := by simpa using h0
    rw [hd]
    go_enter Tryz.func15, Tryz.ntmps15
    go_wp2_with (go_at_call 19; refine h.mono ?_; rintro e w' ⟨rfl, rfl⟩)
    go_ret
    exact ⟨by simp, rfl⟩
end Go.Proofs.YtahfaeamjbcepaaGreatDoor
