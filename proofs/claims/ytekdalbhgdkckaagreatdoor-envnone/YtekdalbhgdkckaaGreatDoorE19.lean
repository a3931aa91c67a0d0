/- The walks of the laws' begun and of EnvNone. No condition but that the tables hold what the program's text lays. -/
import Derived.Test.YtekdalbhgdkckaaGreatDoorE16
import Derived.Test.YtekdalbhgdkckaaGreatDoorE17
import Derived.Test.YtekdalbhgdkckaaGreatDoorE18
namespace Go.Proofs.YtekdalbhgdkckaaGreatDoor
open Go.RowKit

set_option maxRecDepth 100000 in
theorem new_env (w : World) : Calls Tryz.prog 14 #[] w fun e w' => ∃ g, e = .returned (.pointer (some ⟨g, 0, none⟩)) ∧ Blk w' g 25 [.pointer none, .int .i64 0] ∧ w.heap.size ≤ g ∧ Below w.heap.size w w' := by
  obtain ⟨w1, hw1, hb1, B1, _⟩ := new_oneE w [.pointer none, .int .i64 0] 25
  have H1 : Hid _ := hw1
  clear hw1
  go_enter Tryz.func14, Tryz.ntmps14
  go_wp2_with fail
  rw [H1.out]
  go_ret
  exact ⟨_, rfl, B1, Nat.le_refl _, hb1⟩

set_option maxRecDepth 100000 in
set_option maxHeartbeats 2000000 in
theorem begun_any (w : World) (hT : Tabs w) : Calls Tryz.prog 5 #[] w fun e w' => e = .returned (.bool true) ∧ Below w.heap.size w w' := by
  go_enter Tryz.func5, Tryz.ntmps5
  go_wp2_with fail
  refine (new_env w).mono ?_
  rintro e w1 ⟨g, rfl, G1, hg, hb1⟩
  obtain ⟨w2, hw2, hb2, D2, _⟩ := new_oneE w1 (dcl 1 aB) 32
  have H2 : Hid (w1.alloc (.cells #[.int .i64 1, .int .i64 0, .int .i64 0, .string ⟨#[97]⟩, .string ⟨#[]⟩, .int .i64 0, .int .i64 0, .string ⟨#[]⟩, .slice none 0 0, .slice none 0 0, .int .i64 0, .int .i64 0, .string ⟨#[]⟩, .slice none 0 0, .slice none 0 0, .slice none 0 0] 32) = w2) := hw2
  have b2 : Below w.heap.size w w2 := hb1.trans (hb2.mono hb1.size)
  have cA := add_ok g w1.heap.size 0 1 w2 (hT.on b2) (G1.on hb2) D2
  clear hw2 G1 D2
  go_wp2_with fail
  rw [H2.out]
  refine cA.mono ?_
  rintro e w3 ⟨rfl, ⟨sh, o, G3, S3⟩, k3⟩
  have b3 : Below w.heap.size w w3 := b2.trans (k3.below b2.size (fun j e => by omega))
  clear cA H2 k3 hb1 hb2 b2
  go_wp2_with fail
  refine (over_one g sh o 1 w3 G3 S3).mono ?_
  rintro e w4 ⟨g2, rfl, E4, hb4⟩
  have cF := efind_one g2 sh o 1 1 w4 E4 (S3.on hb4)
  unfold dcl at cF
  have G4 := G3.on hb4
  have S4 := S3.on hb4
  have b4 : Below w.heap.size w w4 := b3.trans (hb4.mono b3.size)
  clear G3 S3 b3 hb4
  go_wp2_with fail
  refine cF.mono ?_
  rintro e w5 ⟨rfl, hb5⟩
  obtain ⟨w6, hw6, hb6, _, _⟩ := new_oneE w5 (dcl 1 aB) 32
  have H6 : Hid (w5.alloc (.cells #[.int .i64 1, .int .i64 0, .int .i64 0, .string aB, .string ⟨#[]⟩, .int .i64 0, .int .i64 0, .string ⟨#[]⟩, .slice none 0 0, .slice none 0 0, .int .i64 0, .int .i64 0, .string ⟨#[]⟩, .slice none 0 0, .slice none 0 0, .slice none 0 0] 32) = w6) := hw6
  have E6 := (E4.on hb5).on hb6
  have G6 := (G4.on hb5).on hb6
  have S6 := (S4.on hb5).on hb6
  have b6 : Below w.heap.size w w6 := (b4.trans (hb5.mono b4.size)).trans (hb6.mono (Nat.le_trans b4.size hb5.size))
  have c1 := own_1 g2 sh o 1 w6 E6 S6
  clear cF hw6 E4 G4 S4 b4 hb5 hb6
  go_wp2_with fail
  rw [H6.out]
  refine c1.mono ?_
  rintro e w7 ⟨rfl, hb7⟩
  have c0 := own_0 g sh o 1 w7 (G6.on hb7) (S6.on hb7)
  clear c1 H6
  go_wp2_with fail
  refine c0.mono ?_
  rintro e w8 ⟨rfl, hb8⟩
  obtain ⟨w9, hw9, hb9, D9, _⟩ := new_oneE w8 (dcl 0 aB) 32
  have H9 : Hid (w8.alloc (.cells #[.int .i64 0, .int .i64 0, .int .i64 0, .string ⟨#[97]⟩, .string ⟨#[]⟩, .int .i64 0, .int .i64 0, .string ⟨#[]⟩, .slice none 0 0, .slice none 0 0, .int .i64 0, .int .i64 0, .string ⟨#[]⟩, .slice none 0 0, .slice none 0 0, .slice none 0 0] 32) = w9) := hw9
  have E9 := ((E6.on hb7).on hb8).on hb9
  have S9 := ((S6.on hb7).on hb8).on hb9
  have b9 : Below w.heap.size w w9 := ((b6.trans (hb7.mono b6.size)).trans (hb8.mono (Nat.le_trans b6.size hb7.size))).trans (hb9.mono (Nat.le_trans (Nat.le_trans b6.size hb7.size) hb8.size))
  have cA := add_taken g2 sh o w8.heap.size 1 1 1 0 w9 (hT.on b9) E9 S9 D9
  clear c0 hw9 E6 S6 G6 b6 hb7 hb8 hb9 D9
  go_wp2_with fail
  rw [H9.out]
  refine cA.mono ?_
  rintro e w10 ⟨rfl, hb10⟩
  have cL := all_one g2 sh o 1 1 w10 (E9.on hb10) (S9.on hb10)
  clear cA H9 E9 S9
  go_wp2_with fail
  refine cL.mono ?_
  rintro e w11 ⟨q, rfl, hb11⟩
  clear cL
  go_wp2_with fail
  go_ret
  exact ⟨rfl, (b9.trans (hb10.mono b9.size)).trans (hb11.mono (Nat.le_trans b9.size hb10.size))⟩

end Go.Proofs.YtekdalbhgdkckaaGreatDoor
