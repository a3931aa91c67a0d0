/- The walks of package text's writer as far as a Const without Levels asks them: spoil, add, newWriter. No condition but that the text is short. -/
import Derived.Test.YtekdalbhgdkckaaGreatDoorNm2
import Derived.Test.YtekdalbhgdkckaaGreatDoorKit
import Derived.Test.YtekdalbhgdkckaaGreatDoorTMay
namespace Go.Proofs.YtekdalbhgdkckaaGreatDoor
open Go.RowKit

theorem info5 : ∃ i, Tryz.prog.info? 5 = some i ∧ i.zero = some (.int .u8 0) ∧ i.size = 1 ∧ i.bytes = 1 := by
  have h : (Tryz.prog.info? 5).map (fun i => (i.zero, i.size, i.bytes)) = some (some (.int .u8 0), 1, 1) := by kernel_rfl
  obtain ⟨i, hi, he⟩ := Option.map_eq_some_iff.1 h
  simp only [Prod.mk.injEq] at he
  exact ⟨i, hi, he⟩

theorem spoil_any (g : Nat) (t sp tv : Value) (w : World) (hg : Blk w g 135 [t, sp, tv]) :
    Calls Tryz.prog 113 #[.pointer (some ⟨g, 0, none⟩)] w fun e w' => e = .returned (.tuple #[]) ∧ Blk w' g 135 [.slice none 0 0, .bool true, tv] ∧ Keep w w' (· = g) := by
  have c0 := hg.cell (j := 0) rfl
  have c1 := hg.cell (j := 1) rfl
  have f0 := hg.frozen 0
  have f1 := hg.frozen 1
  have X1 := hg.set 0 (.slice none 0 0)
  have d1 := X1.cell (j := 1) rfl
  have e1 := X1.frozen 1
  go_enter Tryz.func113, Tryz.ntmps113
  go_wp2_with fail
  go_end0
  exact ⟨rfl, X1.set 1 (.bool true), ((Keep.refl w (· = g)).setCell (fun _ => rfl) _ _).setCell (fun _ => rfl) _ _⟩

set_option maxRecDepth 100000 in
set_option maxHeartbeats 1000000 in
theorem add_any (g : Nat) (s : List UInt8) (tv : Value) (w : World) (hg : Blk w g 135 [.slice none 0 0, .bool false, tv]) (h0 : 0 < s.length) (h1 : s.length ≤ 4000) :
    Calls Tryz.prog 114 #[.pointer (some ⟨g, 0, none⟩), tx s] w fun e w' => e = .returned (.tuple #[]) ∧ (∃ gt cap, Blk w' g 135 [.slice (some ⟨gt, 0, none⟩) s.length cap, .bool false, tv] ∧ Rd w' (some ⟨gt, 0, none⟩) s.length cap s) ∧ Keep w w' (· = g) := by
  obtain ⟨i5, hi5, hz5, hs5, hb5⟩ := info5
  have c0 := hg.cell (j := 0) rfl
  have c1 := hg.cell (j := 1) rfl
  have hgl := hg.lt
  have hsz : (ByteArray.mk s.toArray).size = s.length := by simp [ByteArray.size]
  have hd : decide ((4000 : Int) < (s.length : Int)) = false := by simp; omega
  have hsrc : Src Tryz.prog 1 9 (.string ⟨s.toArray⟩) s.length (s.map bval) w := by
    have h := Src.ofString (P := Tryz.prog) w Tryz.underlying9 ⟨s.toArray⟩
    rw [hsz] at h
    exact h
  unfold tx
  go_enter Tryz.func114, Tryz.ntmps114
  go_wp2_with (refine wpList_append_bytes w (by rfl) (.tmp 25) (.tmp 26) 132 9 (by rfl) 5 i5 Tryz.underlying132 hi5 hz5 hs5 hb5 w.heap.size (Nat.le_refl _) (by rfl) (App.nil _ _ _) s (by rfl) hsrc (.inl h0) (by omega) ?_; intro gt cap w3 o3 b3 g3 n3; have X3 := hg.below b3 hgl; have d0 := X3.cell (j := 0) rfl; have f0 := X3.frozen 0)
  have o4 : Own 5 w.heap.size w3 gt s.length cap s := by simpa using o3
  have hne : gt ≠ g := by have := o4.new; omega
  go_end0
  exact ⟨rfl, ⟨gt, cap, X3.set 0 _, (o4.carry (Below.heap_setCell _ _ _ _ (fun e => hne (by simpa using e)))).rd⟩, (Keep.of_below (S := (· = g)) b3 (Nat.le_refl _)).setCell (fun _ => rfl) _ _⟩

set_option maxRecDepth 100000 in
theorem newWriter_any (w : World) : Calls Tryz.prog 69 #[] w fun e w' => ∃ g tg c3 c4 c5 c6, e = .returned (.pointer (some ⟨g, 0, none⟩)) ∧ w.heap.size ≤ g ∧ Blk w' g 135 [.slice none 0 0, .bool false, .slice (some ⟨tg, 0, none⟩) 7 7] ∧ tg ≠ g ∧
    Blk w' tg 99 [.func (.func 92) #[.pointer (some ⟨g, 0, none⟩)] #[], .func (.func 93) #[.pointer (some ⟨g, 0, none⟩)] #[], .func (.func 94) #[.pointer (some ⟨g, 0, none⟩)] #[], c3, c4, c5, c6] ∧ Below w.heap.size w w' := by
  have hmf : ∀ fn first cap w, (Instr.makeFunc fn first cap).run Tryz.prog w = .ok (.func fn first cap) w := fun _ _ _ _ => rfl
  go_enter Tryz.func69, Tryz.ntmps69
  go_wp2_with fail
  obtain ⟨w1, hw1, hb1, P1, Q1, hs1⟩ := two_new w [.slice none 0 0, .bool false, .slice (some ⟨w.heap.size + 1, 0, none⟩) 7 7] [.func (.func 92) #[.pointer (some ⟨w.heap.size, 0, none⟩)] #[], .func (.func 93) #[.pointer (some ⟨w.heap.size, 0, none⟩)] #[], .func (.func 94) #[.pointer (some ⟨w.heap.size, 0, none⟩)] #[], .func (.func 95) #[.pointer (some ⟨w.heap.size, 0, none⟩)] #[], .func (.func 96) #[.pointer (some ⟨w.heap.size, 0, none⟩)] #[], .func (.func 97) #[.pointer (some ⟨w.heap.size, 0, none⟩)] #[], .func (.func 98) #[.pointer (some ⟨w.heap.size, 0, none⟩)] #[]] 135 99
  rw [hw1]
  go_ret
  exact ⟨w.heap.size, w.heap.size + 1, _, _, _, _, rfl, Nat.le_refl _, P1, by omega, Q1, hb1⟩

end Go.Proofs.YtekdalbhgdkckaaGreatDoor
