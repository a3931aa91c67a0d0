/- The walks of takesParts, takes and holds where there is no room, of Fits of a zero meter, and of begun. No condition. -/
import Derived.Test.YtemgmphddmlmlaaNums
import Derived.Test.YtemgmphddmlmlaaOver
namespace Go.Proofs.Ytemgmphddmlmlaa
open Go.RowKit

/-- A gauge without notes. -/
def gv (left met : Int) (a : Option Addr) (n c : Nat) : List Value := [.int .i64 left, .int .i64 met, .slice a n c, .map none, .map none, .slice none 0 0]

set_option maxRecDepth 100000 in
theorem parts_no (g : Nat) (left met : Int) (a : Option Addr) (n c : Nat) (count : Int) (hc : left < count) (w : World) (hG : Blk w g 48 (gv left met a n c)) :
    Calls Try.prog 21 #[.pointer (some ⟨g, 0, none⟩), .int .i64 count] w fun e w' => e = .returned (.bool false) ∧ w = w' := by
  have c0 : w.cell? ⟨g, 0, none⟩ = some (.int .i64 left) := hG.cell rfl
  go_enter Try.func21, Try.ntmps21
  go_wp2
  go_ret
  exact ⟨rfl, rfl⟩

set_option maxRecDepth 100000 in
theorem takes_no (g : Nat) (left met : Int) (a : Option Addr) (n c : Nat) (hc : left < 1) (p : Value) (w : World) (hG : Blk w g 48 (gv left met a n c)) :
    Calls Try.prog 17 #[.pointer (some ⟨g, 0, none⟩), p] w fun e w' => e = .returned (.bool false) ∧ w = w' := by
  have hcall := parts_no g left met a n c 1 hc w hG
  go_enter Try.func17, Try.ntmps17
  go_wp2_with (go_at_call 21; refine hcall.mono ?_; rintro e w2 ⟨rfl, rfl⟩)
  go_ret
  exact ⟨rfl, rfl⟩

set_option maxRecDepth 100000 in
theorem holds_no (g : Nat) (left met : Int) (a : Option Addr) (n c : Nat) (hc : left < 1) (p : Value) (w : World) (hG : Blk w g 48 (gv left met a n c)) :
    Calls Try.prog 15 #[.pointer (some ⟨g, 0, none⟩), p] w fun e w' => e = .returned (.bool false) ∧ w = w' := by
  have hcall := takes_no g left met a n c hc p w hG
  go_enter Try.func15, Try.ntmps15
  go_wp2_with (go_at_call 17; refine hcall.mono ?_; rintro e w2 ⟨rfl, rfl⟩)
  go_loopw [5] (fun s5 wr => s5 = .bool false ∧ wr = w) (fun _ _ => 0)
  case atStart => exact ⟨rfl, rfl⟩
  case round =>
    obtain ⟨rfl, rfl⟩ := hrel
    go_wp2
    go_ret
    exact ⟨rfl, rfl⟩

set_option maxRecDepth 100000 in
theorem fits_none (w : World) : Calls Try.prog 11 #[mv 0 0, .agg #[.int .i64 0, .int .i64 0, .string { data := #[] }, .slice none 0 0, .slice none 0 0]] w fun e w' => e = .returned (.int .i64 12) ∧ Below w.heap.size w w' := by
  unfold mv
  obtain ⟨w1, hw1, hb1, P0, P1, P2, hs1⟩ := three_new w ([Value.int .i64 0, .int .i64 0] : List Value) ([Value.int .i64 0, .int .i64 0, .string { data := #[] }, .slice none 0 0, .slice none 0 0] : List Value) ([Value.int .i64 0, .int .i64 0, .slice none 0 0, .map none, .map none, .slice none 0 0] : List Value) 23 27 48
  have hcall := holds_no _ 0 0 none 0 0 (by decide) (.pointer (some ⟨w.heap.size + 1, 0, none⟩)) w1 P2
  clear P0 P1 P2 hs1
  have H1 : Hid _ := hw1
  clear hw1
  go_enter Try.func11, Try.ntmps11
  go_wp2_with (go_at_call 15; rw [H1.out]; refine hcall.mono ?_; rintro e w2 ⟨rfl, rfl⟩)
  go_ret
  exact ⟨rfl, hb1⟩

theorem new_25 (w : World) : Calls Try.prog 9 #[.int .i64 2, .int .i64 5] w fun e w' => e = .returned (.agg #[.int .i64 2, .int .i64 5]) ∧ Below w.heap.size w w' := new_any 2 5 w

theorem step_25 (w : World) : Calls Try.prog 7 #[.agg #[.int .i64 2, .int .i64 5]] w fun e w' => e = .returned (.tuple #[.agg #[.int .i64 1, .int .i64 5], .int .i64 0]) ∧ Below w.heap.size w w' := step_any 2 5 (by decide) w

theorem fits_none' (w : World) : Calls Try.prog 11 #[.agg #[.int .i64 0, .int .i64 0], .agg #[.int .i64 0, .int .i64 0, .string { data := #[] }, .slice none 0 0, .slice none 0 0]] w fun e w' => e = .returned (.int .i64 12) ∧ Below w.heap.size w w' := fits_none w

set_option maxRecDepth 100000 in
theorem begun_any (w : World) : Calls Try.prog 5 #[] w fun e w' => e = .returned (.bool true) ∧ Below w.heap.size w w' := by
  go_enter Try.func5, Try.ntmps5
  go_wp2_with (first
    | (go_at_call 9; refine (new_25 _).mono ?_; rintro e w2 ⟨rfl, hb2⟩)
    | (go_at_call 7; refine (step_25 w2).mono ?_; rintro e w3 ⟨rfl, hb3⟩)
    | (go_at_call 11; refine (fits_none' _).mono ?_; rintro e w4 ⟨rfl, hb4⟩))
  go_ret
  have h3 := hb2.trans (hb3.mono hb2.size)
  have h4 := h3.alloc h3.size (.cells #[.int .i64 1, .int .i64 5] 23)
  exact ⟨rfl, h4.trans (hb4.mono h4.size)⟩

end Go.Proofs.Ytemgmphddmlmlaa
