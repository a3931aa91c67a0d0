/- The walk of the statements' own 'begun': it answers true, and turns nothing that was there. No condition. -/
import Derived.Test.YtcbpicioljiidabEight
import Derived.Test.YtcbpicioljiidabHex
namespace Go.Proofs.Ytcbpicioljiidab
open Go.RowKit

theorem rd_built (e : TypeId) (w : World) (bs : List UInt8) (hb : bs.length ≤ maxLen) : Rd (w.alloc (.cells (bs.map bval).toArray e)) (some ⟨w.heap.size, 0, none⟩) bs.length bs.length bs :=
  ⟨rfl, Nat.le_refl _, hb, (fun h => by cases h), fun a ha j u hu => by
    obtain rfl : ⟨w.heap.size, 0, none⟩ = a := by simpa using ha
    rw [Addr.add_lit, Nat.zero_add, cell_of_row _ w.heap.size j _ e (0, 0) (heap_alloc_new w _)]
    simp [hu, bval]⟩

theorem begun_take (w : World) : Calls Try.prog 7 #[.slice (some ⟨w.heap.size, 0, none⟩) 3 3] (w.alloc (.cells #[.int .u8 172, .int .u8 2, .int .u8 9] 5)) fun e w' =>
    e = .returned (.tuple #[.int .u64 300, .int .i64 2, .int .i64 0]) ∧ w.alloc (.cells #[.int .u8 172, .int .u8 2, .int .u8 9] 5) = w' := by
  have r1 := rd_built 5 w [172, 2, 9] (by decide)
  have c1 := takeVar_any (some ⟨w.heap.size, 0, none⟩) 3 3 [172, 2, 9] _ r1
  rw [show tv 0 0 [172, 2, 9] = (300, 2, 0) by decide] at c1
  exact c1

theorem begun_hex (w : World) : Calls Try.prog 12 #[.slice (some ⟨w.heap.size, 0, none⟩) 2 2] (w.alloc (.cells #[.int .u8 10, .int .u8 255] 5)) fun e w' =>
    e = .returned (.string ⟨#[48, 97, 102, 102]⟩) ∧ Below w.heap.size w w' := by
  have r1 := rd_built 5 w [10, 255] (by decide)
  have c1 := hex_any (some ⟨w.heap.size, 0, none⟩) 2 2 [10, 255] _ r1 (by decide)
  rw [show Lib.Hx.encode [10, 255] = [48, 97, 102, 102] by decide] at c1
  refine c1.mono ?_
  rintro e w' ⟨rfl, hb⟩
  exact ⟨rfl, ((Below.refl w.heap.size w).alloc (Nat.le_refl _) _).trans (hb.mono (by simp))⟩

theorem begun_eight (w : World) : Calls Try.prog 10 #[.slice none 0 0, .int .u64 1] w fun e w' => ∃ g cap, e = .returned (.slice (some ⟨g, 0, none⟩) 8 cap) ∧ Below w.heap.size w w' := by
  refine (eight_any none 0 0 [] 1 w (App.nil 5 0 w).1 (by decide) (by decide)).mono ?_
  rintro e w' ⟨g, cap, rfl, _, hb⟩
  exact ⟨g, cap, rfl, hb⟩

set_option maxRecDepth 100000 in
set_option maxHeartbeats 400000 in
theorem begun_any (w : World) : Calls Try.prog 4 #[] w fun e w' => e = .returned (.bool true) ∧ Below w.heap.size w w' := by
  have b1 : Below w.heap.size w (w.alloc (.cells #[.int .u8 172, .int .u8 2, .int .u8 9] 5)) := (Below.refl _ _).alloc (Nat.le_refl _) _
  go_enter Try.func4, Try.ntmps4
  go_wp2_with fail
  refine (begun_take w).mono ?_
  rintro e w1 ⟨rfl, rfl⟩
  generalize w.alloc (.cells #[.int .u8 172, .int .u8 2, .int .u8 9] 5) = w1 at b1
  go_wp2_with fail
  refine (begun_hex w1).mono ?_
  rintro e w2 ⟨rfl, b2⟩
  have b3 := b1.trans (b2.mono b1.size)
  go_wp2_with fail
  refine (begun_eight w2).mono ?_
  rintro e w3 ⟨g, cap, rfl, b4⟩
  have b5 := b3.trans (b4.mono b3.size)
  go_wp2
  go_ret
  exact ⟨rfl, b5⟩
end Go.Proofs.Ytcbpicioljiidab
