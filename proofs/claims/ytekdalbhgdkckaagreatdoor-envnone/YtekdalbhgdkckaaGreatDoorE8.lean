/- The walk of env's pool.keep, at the text "a" where the pool is new, and at the empty text. No condition. -/
import Derived.Test.YtekdalbhgdkckaaGreatDoorE7
namespace Go.Proofs.YtekdalbhgdkckaaGreatDoor
open Go.RowKit

set_option maxRecDepth 100000 in
theorem keepE (p : Nat) (v : Value) (w : World) (hP : Blk w p 62 [v, .int .i64 1]) :
    Calls Tryz.prog 25 #[.pointer (some ⟨p, 0, none⟩), .string ⟨#[]⟩] w fun e w' => e = .returned (.string ⟨#[]⟩) ∧ Blk w' p 62 [v, .int .i64 1] ∧ Keep w w' (· = p) := by
  have c1 := hP.cell (j := 1) rfl
  have rf := hP.frozen 1
  have PP : Blk _ p 62 _ := hP.same (j := 1) (v := .int .i64 1) rfl
  have KK : Keep w _ (· = p) := (Keep.refl w (· = p)).setCell (g := p) (fun _ => rfl) 1 (.int .i64 1)
  clear hP
  go_enter Tryz.func25, Tryz.ntmps25
  go_wp2_with fail
  go_ret
  exact ⟨rfl, PP, KK⟩

set_option maxRecDepth 100000 in
theorem keepA (p : Nat) (w : World) (hP : Blk w p 62 [.map none, .int .i64 0]) :
    Calls Tryz.prog 25 #[.pointer (some ⟨p, 0, none⟩), .string aB] w fun e w' => e = .returned (.string aB) ∧ (∃ m, Blk w' p 62 [.map (some m), .int .i64 1]) ∧ Keep w w' (· = p) := by
  have hlk := look_none
  have hsz : aB.size = 1 := rfl
  have hl : aB.toList = [97] := by kernel_rfl
  have hne : (aB == (⟨#[]⟩ : ByteArray)) = false := by decide
  have c0 := hP.cell (j := 0) rfl
  have c1 := hP.cell (j := 1) rfl
  have rf := hP.frozen 1
  have lp := hP.lt
  obtain ⟨w1, hw1⟩ : ∃ w1, w.setCell ⟨p, 1, none⟩ (.int .i64 1) = w1 := ⟨_, rfl⟩
  have k1 : Keep w (w.setCell ⟨p, 1, none⟩ (.int .i64 1)) (· = p) := (Keep.refl w (· = p)).setCell (g := p) (fun _ => rfl) 1 (.int .i64 1)
  have P1 := hP.set 1 (.int .i64 1)
  rw [hw1] at k1 P1
  have H1 : Hid _ := hw1
  have hz1 : w1.heap.size = w.heap.size := by rw [← hw1]; simp [World.setCell]
  obtain ⟨w2, hw2, hb2, O2, hs2⟩ := new_oneE w1 [.string ⟨#[]⟩] 73
  rw [hz1] at O2 hs2
  have H2 : Hid _ := hw2
  have P2 := P1.on hb2
  have k2 : Keep w w2 (· = p) := k1.trans (Keep.of_below hb2 (Nat.le_refl _)) (fun _ _ e => e)
  have hpo : p ≠ w.heap.size := Nat.ne_of_lt lp
  clear hw1 hP hw2 hb2 hz1 k1 P1
  go_enter Tryz.func25, Tryz.ntmps25
  go_wp2_with fail
  rw [H1.out, H2.out]
  refine (clone29 aB w2 (by decide)).mono ?_
  rintro e w3 ⟨rfl, hb3⟩
  have P3 := P2.on hb3
  have O3 := O2.on hb3
  have o0 := O3.cell (j := 0) rfl
  have rf3 := O3.frozen 0
  have k3 : Keep w w3 (· = p) := k2.trans (Keep.of_below hb3 (Nat.le_refl _)) (fun _ _ e => e)
  have l3 := O3.lt
  obtain ⟨w4, hw4⟩ : ∃ w4, w3.setCell ⟨w.heap.size, 0, none⟩ (.string aB) = w4 := ⟨_, rfl⟩
  have kk : Keep w3 (w3.setCell ⟨w.heap.size, 0, none⟩ (.string aB)) (· = w.heap.size) := (Keep.refl w3 (· = w.heap.size)).setCell (g := w.heap.size) (fun _ => rfl) 0 _
  have O4 := O3.set 0 (.string aB)
  rw [hw4] at kk O4
  have P4 := P3.keep kk hpo
  have k4 : Keep w w4 (· = p) := k3.trans kk (fun i hi e => by omega)
  have H4 : Hid _ := hw4
  clear hw4 P2 O2 P3 O3 k2 k3 kk hb3 c0 c1 rf hlk
  go_wp2_with fail
  rw [H4.out]
  refine (put_any p (.int .i64 1) w4 P4).mono ?_
  rintro e w5 ⟨rfl, ⟨m, P5⟩, k5⟩
  have o5 := (O4.keep k5 (fun e => hpo e.symm)).cell (j := 0) rfl
  clear o0 rf3
  go_wp2_with fail
  go_ret
  exact ⟨rfl, ⟨m, P5⟩, k4.trans k5 (fun _ _ e => e)⟩
end Go.Proofs.YtekdalbhgdkckaaGreatDoor
