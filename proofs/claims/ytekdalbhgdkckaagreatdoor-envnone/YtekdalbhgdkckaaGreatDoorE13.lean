/- The walks of env's areNamed and isTaken, of one declaration named "a". No condition but that the tables hold what the program's text lays. -/
import Derived.Test.YtekdalbhgdkckaaGreatDoorE11
import Derived.Test.YtekdalbhgdkckaaGreatDoorShw
namespace Go.Proofs.YtekdalbhgdkckaaGreatDoor
open Go.RowKit

set_option maxRecDepth 100000 in
theorem named_any (b cap : Nat) (k : Int) (w : World) (hT : Tabs w) (hB : Blk w b 32 (dcl k aB)) :
    Calls Tryz.prog 15 #[.slice (some ⟨b, 0, none⟩) 1 cap] w fun e w' => e = .returned (.bool true) ∧ Below w.heap.size w w' := by
  have hM := may_name [97] w hT (by decide)
  rw [show nmB [97] = true by decide] at hM
  have hM' : Calls Tryz.prog 23 #[.string aB] w fun e w' => e = .returned (.bool true) ∧ Below w.heap.size w w' := hM
  have n3 := hB.cell (j := 3) rfl
  clear hM hT hB
  go_enter Tryz.func15, Tryz.ntmps15
  go_wp2_with fail
  go_loopw [6] (fun v wr => (v = .int .i64 0 ∧ wr = w) ∨ (v = .int .i64 1 ∧ Below w.heap.size w wr)) (fun v _ => 1 - (intOf v).toNat)
  case atStart => exact .inl ⟨rfl, rfl⟩
  case round =>
    rcases hrel with ⟨rfl, rfl⟩ | ⟨rfl, hF⟩
    · go_wp2_with fail
      refine hM'.mono ?_
      rintro e w2 ⟨rfl, hb2⟩
      clear hM' n3
      go_wp2_with fail
      go_roundw
      case rel => exact .inr ⟨rfl, hb2⟩
      case measure => simp [intOf]
    · clear hM' n3
      go_wp2_with fail
      go_ret
      exact ⟨rfl, hF⟩

theorem make52 (w : World) : (Instr.makeMap 52 (some (.int .i64 1))).run Tryz.prog w = .ok (.map (some w.heap.size)) (w.alloc (.map #[] 0)) := by kernel_rfl

set_option maxRecDepth 100000 in
theorem taken_one (g sh b b2 cap : Nat) (n k k2 : Int) (w : World) (hG : Blk w g 25 [.pointer (some ⟨sh, 0, none⟩), .int .i64 n]) (hS : Sheet w sh b k) (hB : Blk w b2 32 (dcl k2 aB)) :
    Calls Tryz.prog 16 #[.pointer (some ⟨g, 0, none⟩), .slice (some ⟨b2, 0, none⟩) 1 cap] w fun e w' => e = .returned (.bool true) ∧ Below w.heap.size w w' := by
  have hmk := make52
  obtain ⟨w1, hw1⟩ : ∃ w1, w.alloc (.map #[] 0) = w1 := ⟨_, rfl⟩
  have hb1 : Below w.heap.size w w1 := by rw [← hw1]; exact (Below.refl _ _).alloc (Nat.le_refl _) _
  have n3 := (hB.on hb1).cell (j := 3) rfl
  have g0 := (hG.on hb1).cell (j := 0) rfl
  have cF := find_one sh b k w1 (hS.on hb1)
  have H1 : Hid _ := hw1
  clear hw1 hG hS hB
  go_enter Tryz.func16, Tryz.ntmps16
  go_wp2_with fail
  rw [H1.out]
  go_loopw [15] (fun v wr => v = .int .i64 0 ∧ wr = w1) (fun _ _ => 0)
  case atStart => exact ⟨rfl, rfl⟩
  case round =>
    obtain ⟨rfl, rfl⟩ := hrel
    go_wp2_with fail
    refine cF.mono ?_
    rintro e w2 ⟨rfl, hb2⟩
    clear cF n3 g0 hmk
    go_wp2_with fail
    go_ret
    exact ⟨rfl, hb1.trans (hb2.mono hb1.size)⟩

set_option maxRecDepth 100000 in
theorem taken_none (g b2 cap : Nat) (n k2 : Int) (w : World) (hG : Blk w g 25 [.pointer none, .int .i64 n]) (hB : Blk w b2 32 (dcl k2 aB)) :
    Calls Tryz.prog 16 #[.pointer (some ⟨g, 0, none⟩), .slice (some ⟨b2, 0, none⟩) 1 cap] w fun e w' => e = .returned (.bool false) ∧ Below w.heap.size w w' := by
  have hmk := make52
  obtain ⟨w1, hw1⟩ : ∃ w1, w.alloc (.map #[] 0) = w1 := ⟨_, rfl⟩
  have hb1 : Below w.heap.size w w1 := by rw [← hw1]; exact (Below.refl _ _).alloc (Nat.le_refl _) _
  have m1 : w1.heap[w.heap.size]? = some (.map #[] 0) := by rw [← hw1]; exact (MapKept.heap_alloc w _).1
  have n3 := (hB.on hb1).cell (j := 3) rfl
  have g0 := (hG.on hb1).cell (j := 0) rfl
  have cF := find_nil w1
  have hmu := put_first52 (v := .int .i64 0) m1
  obtain ⟨w2, hw2⟩ : ∃ w2, ({ w1 with heap := w1.heap.setIfInBounds w.heap.size (.map #[⟨.string aB, .int .i64 0, 0⟩] (0 + 1)) } : World) = w2 := ⟨_, rfl⟩
  rw [hw2] at hmu
  have m2 : w2.heap[w.heap.size]? = some (.map #[⟨.string aB, .int .i64 0, 0⟩] (0 + 1)) := by rw [← hw2]; exact (MapKept.heap_set m1).1
  have hb2 : Below w.heap.size w1 w2 := by
    rw [← hw2]
    exact ⟨rfl, rfl, rfl, by simp, fun j hj => by show (w1.heap.setIfInBounds w.heap.size _)[j]? = _; simp [show w.heap.size ≠ j by omega]⟩
  have hlen : (Builtin.len_ #[52] 3 #[.map (some w.heap.size)]).run Tryz.prog w2 = .ok (goInt 1) w2 := run_len_map w2 52 3 w.heap.size #[⟨.string aB, .int .i64 0, 0⟩] (0 + 1) Tryz.underlying52 m2
  have H1 : Hid _ := hw1
  clear hw1 hw2 hG hB m1
  go_enter Tryz.func16, Tryz.ntmps16
  go_wp2_with fail
  rw [H1.out]
  go_loopw [15] (fun v wr => (v = .int .i64 0 ∧ wr = w1) ∨ (v = .int .i64 1 ∧ wr = w2)) (fun v _ => 1 - (intOf v).toNat)
  case atStart => exact .inl ⟨rfl, rfl⟩
  case round =>
    rcases hrel with ⟨rfl, hh⟩ | ⟨rfl, hh⟩
    · subst hh
      go_wp2_with fail
      refine cF.mono ?_
      rintro e _ ⟨rfl, rfl⟩
      clear cF n3 g0 hmk
      go_wp2_with fail
      go_roundw
      case rel => exact .inr ⟨rfl, by first | rfl | trivial⟩
      case measure => simp [intOf]
    · subst hh
      clear cF n3 g0 hmk hmu
      go_wp2_with fail
      go_ret
      exact ⟨rfl, hb1.trans hb2⟩
end Go.Proofs.YtekdalbhgdkckaaGreatDoor
