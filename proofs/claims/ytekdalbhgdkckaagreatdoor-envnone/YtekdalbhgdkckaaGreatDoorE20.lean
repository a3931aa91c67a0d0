/- The walk of EnvNone. No condition but that the tables hold what the program's text lays. -/
import Derived.Test.YtekdalbhgdkckaaGreatDoorE19
namespace Go.Proofs.YtekdalbhgdkckaaGreatDoor
open Go.RowKit

set_option maxRecDepth 100000 in
set_option maxHeartbeats 2000000 in
theorem none_any (w : World) (hT : Tabs w) : Calls Tryz.prog 3 #[] w fun e w' => e = .returned (.bool true) ∧ Below w.heap.size w w' := by
  obtain ⟨w1, hw1, hb1, Z1, -⟩ := new_oneE w [.pointer none, .int .i64 0] 25
  have H1 : Hid _ := hw1
  have cF := efind_nil aB w1
  unfold dcl at cF
  have hz := Nat.le_refl w.heap.size
  clear hw1
  go_enter Tryz.func3, Tryz.ntmps3
  go_wp2_with fail
  rw [H1.out]
  refine cF.mono ?_
  rintro e w2 ⟨rfl, hb2⟩
  obtain ⟨w3, hw3, hb3, _, -⟩ := new_oneE w2 (dcl 0 ⟨#[]⟩) 32
  have H3 : Hid (w2.alloc (.cells #[.int .i64 0, .int .i64 0, .int .i64 0, .string ⟨#[]⟩, .string ⟨#[]⟩, .int .i64 0, .int .i64 0, .string ⟨#[]⟩, .slice none 0 0, .slice none 0 0, .int .i64 0, .int .i64 0, .string ⟨#[]⟩, .slice none 0 0, .slice none 0 0, .slice none 0 0] 32) = w3) := hw3
  have b3 : Below w.heap.size w w3 := (hb1.trans (hb2.mono hb1.size)).trans (hb3.mono (Nat.le_trans hb1.size hb2.size))
  have Z3 := (Z1.on hb2).on hb3
  have cB := begun_any w3 (hT.on b3)
  clear cF H1 hw3 Z1 hb1 hb2 hb3
  go_wp2_with fail
  rw [H3.out]
  refine cB.mono ?_
  rintro e w4 ⟨rfl, hb4⟩
  obtain ⟨w5, hw5, hb5, _, -⟩ := new_oneE w4 (dcl 0 aB) 32
  have H5 : Hid (w4.alloc (.cells #[.int .i64 0, .int .i64 0, .int .i64 0, .string ⟨#[97]⟩, .string ⟨#[]⟩, .int .i64 0, .int .i64 0, .string ⟨#[]⟩, .slice none 0 0, .slice none 0 0, .int .i64 0, .int .i64 0, .string ⟨#[]⟩, .slice none 0 0, .slice none 0 0, .slice none 0 0] 32) = w5) := hw5
  have Z5 := (Z3.on hb4).on hb5
  have b5 : Below w.heap.size w w5 := (b3.trans (hb4.mono b3.size)).trans (hb5.mono (Nat.le_trans b3.size hb4.size))
  clear cB H3 hw5 Z3 b3 hb4 hb5
  go_wp2_with fail
  rw [H5.out]
  refine (add_nil _ w5).mono ?_
  rintro e _ ⟨rfl, rfl⟩
  go_wp2_with fail
  refine (len_nil w5).mono ?_
  rintro e _ ⟨rfl, rfl⟩
  go_wp2_with fail
  refine (all_nil w5).mono ?_
  rintro e _ ⟨rfl, rfl⟩
  go_wp2_with fail
  refine (over_nil w5).mono ?_
  rintro e _ ⟨rfl, rfl⟩
  go_wp2_with fail
  refine (copy_nil w5).mono ?_
  rintro e _ ⟨rfl, rfl⟩
  go_wp2_with fail
  refine (own_nil _ w5).mono ?_
  rintro e _ ⟨rfl, rfl⟩
  obtain ⟨w6, hw6, hb6, D6, -⟩ := new_oneE w5 (dcl 0 aB) 32
  have H6 : Hid (w5.alloc (.cells #[.int .i64 0, .int .i64 0, .int .i64 0, .string ⟨#[97]⟩, .string ⟨#[]⟩, .int .i64 0, .int .i64 0, .string ⟨#[]⟩, .slice none 0 0, .slice none 0 0, .int .i64 0, .int .i64 0, .string ⟨#[]⟩, .slice none 0 0, .slice none 0 0, .slice none 0 0] 32) = w6) := hw6
  have b6 : Below w.heap.size w w6 := b5.trans (hb6.mono b5.size)
  have cA := add_ok w.heap.size w5.heap.size 0 0 w6 (hT.on b6) (Z5.on hb6) D6
  clear H5 hw6 Z5 D6 b5 hb6
  go_wp2_with fail
  rw [H6.out]
  refine cA.mono ?_
  rintro e w7 ⟨rfl, ⟨sh, o, G7, S7⟩, k7⟩
  have b7 : Below w.heap.size w w7 := b6.trans (k7.below b6.size (fun j e => by omega))
  have cL := len_one w.heap.size sh o 0 w7 G7 S7
  clear cA H6 k7 b6
  go_wp2_with fail
  refine cL.mono ?_
  rintro e w8 ⟨rfl, hb8⟩
  clear cL
  go_wp2_with fail
  go_ret
  exact ⟨rfl, b7.trans (hb8.mono b7.size)⟩
end Go.Proofs.YtekdalbhgdkckaaGreatDoor
