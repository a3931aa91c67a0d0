/- The walks of env's kept, of one declaration without lists, of sheet.with onto nothing, of sheet.all, of areNamed and isTaken. No condition but that the declaration has no lists and is named "a". -/
import Derived.Test.YtekdalbhgdkckaaGreatDoorE10b
import Derived.Test.YtekdalbhgdkckaaGreatDoorE11
import Derived.Test.YtekdalbhgdkckaaGreatDoorShw
namespace Go.Proofs.YtekdalbhgdkckaaGreatDoor
open Go.RowKit

set_option maxRecDepth 100000 in
theorem copiesK (pl cap b p : Nat) (k : Int) (w : World) (hp : w.cell? ⟨pl, 0, none⟩ = some (.pointer (some ⟨b, 0, none⟩))) (hB : Blk w b 32 (dcl k aB)) (hP : Blk w p 62 [.map none, .int .i64 0]) :
    Calls Tryz.prog 21 #[.slice (some ⟨pl, 0, none⟩) 1 cap, .int .i64 1048576, keepF p] w fun e w' => ∃ o, e = .returned (.slice (some ⟨o, 0, none⟩) 1 1) ∧ Blk w' o 32 (dcl k aB) ∧ w.heap.size ≤ o ∧ Keep w w' (· = p) := by
  have cW := weigh_any pl cap b k 1048576 aB w (by omega) (by omega) hp hB
  go_enter Tryz.func21, Tryz.ntmps21
  go_wp2_with fail
  refine cW.mono ?_
  rintro e w1 ⟨rfl, hb1⟩
  have B1 := hB.on hb1
  have P1 := hP.on hb1
  have p1 := (World.cell?_of_block (w := w) (w' := w1) (hb1.block pl (World.block_lt_of_cell? w _ hp))).trans hp
  obtain ⟨w2, hw2, hb2, W2, hs2⟩ := new_oneE w1 [.int .i64 0, .int .i64 0, .int .i64 0] 64
  have cA := apartK pl cap b p k w2 ((World.cell?_of_block (w := w1) (w' := w2) (hb2.block pl (World.block_lt_of_cell? w1 _ p1))).trans p1) (B1.on hb2) (P1.on hb2)
  have H2 : Hid _ := hw2
  have k2 : Keep w w2 (· = p) := Keep.of_below (hb1.trans (hb2.mono hb1.size)) (Nat.le_refl _)
  clear cW hw2 B1 p1 W2 P1
  go_wp2_with fail
  rw [H2.out]
  refine cA.mono ?_
  rintro e w3 ⟨o, rfl, O3, ho, hk3⟩
  have := hb1.size
  go_wp2_with fail
  go_ret
  exact ⟨o, rfl, O3, by omega, k2.trans hk3 (fun _ _ e => e)⟩

set_option maxRecDepth 100000 in
theorem kept_any (b cap : Nat) (k : Int) (w : World) (hB : Blk w b 32 (dcl k aB)) :
    Calls Tryz.prog 18 #[.slice (some ⟨b, 0, none⟩) 1 cap] w fun e w' => ∃ q o, e = .returned (.slice (some ⟨q, 0, none⟩) 1 1) ∧ Blk w' q 43 [.pointer (some ⟨o, 0, none⟩)] ∧ Blk w' o 32 (dcl k aB) ∧ w.heap.size ≤ o ∧ w.heap.size ≤ q ∧ Below w.heap.size w w' := by
  have hmk : ∀ w : World, (Instr.makeSlice 47 (.int .i64 1) (.int .i64 1)).run Tryz.prog w = .ok (.slice (some ⟨w.heap.size, 0, none⟩) 1 1) (w.alloc (.cells #[.pointer none] 43)) := fun w => by kernel_rfl
  obtain ⟨w1, hw1, hb1, G1, hs1⟩ := new_oneE w [.pointer none] 43
  have B1 := hB.on hb1
  have H1 : Hid _ := hw1
  have lb := hB.lt
  clear hw1
  go_enter Tryz.func18, Tryz.ntmps18
  go_wp2_with fail
  rw [H1.out]
  go_loopw [13] (fun v wr => (v = .int .i64 0 ∧ wr = w1) ∨ (v = .int .i64 1 ∧ Hid (Blk wr w.heap.size 43 [.pointer (some ⟨b, 0, none⟩)] ∧ Keep w1 wr (· = w.heap.size)))) (fun v _ => 1 - (intOf v).toNat)
  case atStart => exact .inl ⟨rfl, rfl⟩
  case round =>
    rcases hrel with ⟨rfl, rfl⟩ | ⟨rfl, hF⟩
    · have g0 := G1.cell (j := 0) rfl
      have rf := G1.frozen 0
      have GG : Blk _ w.heap.size 43 _ := G1.set 0 (.pointer (some ⟨b, 0, none⟩))
      have KK : Keep wr _ (· = w.heap.size) := (Keep.refl wr (· = w.heap.size)).setCell (g := w.heap.size) (fun _ => rfl) 0 (.pointer (some ⟨b, 0, none⟩))
      clear G1 B1
      go_wp2_with fail
      go_roundw
      case rel => exact .inr ⟨rfl, GG, KK⟩
      case measure => simp [intOf]
    · have G2 := hF.out.1
      have B2 := B1.keep hF.out.2 (fun e => by omega)
      obtain ⟨w2, hw2, hb2, P2, hs2⟩ := new_oneE wr [.map none, .int .i64 0] 62
      have hz := hF.out.2.size
      have cC := copiesK w.heap.size 1 b wr.heap.size k w2 ((G2.on hb2).cell (j := 0) rfl) (B2.on hb2) P2
      have k2 : Below w.heap.size w w2 := (hb1.trans (hF.out.2.below (by omega) (fun j e => by omega))).trans (hb2.mono (by omega))
      have H2 : Hid _ := hw2
      have g0 := G2.cell (j := 0) rfl
      clear hw2 hF G1 B1
      unfold keepF at cC
      go_wp2_with fail
      rw [H2.out]
      refine cC.mono ?_
      rintro e w3 ⟨o, rfl, O3, ho, hk3⟩
      have k3 : Below w.heap.size w w3 := k2.trans (hk3.below (by omega) (fun j e => by omega))
      obtain ⟨w4, hw4, hb4, G4, hs4⟩ := new_oneE w3 [.pointer none] 43
      have O4 := O3.on hb4
      have H4 : Hid _ := hw4
      have l3 := O3.lt
      have hs3 := k3.size
      clear hw4 cC G2 B2 P2 O3 hk3 g0
      go_wp2_with fail
      rw [H4.out]
      obtain ⟨wo, hwo⟩ : ∃ wo, wo = wr := ⟨_, rfl⟩
      subst hwo
      go_loopw [32] (fun v wr => (v = .int .i64 0 ∧ wr = w4) ∨ (v = .int .i64 1 ∧ Hid (Blk wr w3.heap.size 43 [.pointer (some ⟨o, 0, none⟩)] ∧ Keep w4 wr (· = w3.heap.size)))) (fun v _ => 1 - (intOf v).toNat)
      case atStart => exact .inl ⟨rfl, rfl⟩
      case round =>
        rcases hrel with ⟨rfl, hh⟩ | ⟨rfl, hF⟩
        · subst hh
          have g0 := G4.cell (j := 0) rfl
          have rf := G4.frozen 0
          have o0 := O4.cell (j := 0) rfl
          have GG : Blk _ w3.heap.size 43 _ := G4.set 0 (.pointer (some ⟨o, 0, none⟩))
          have KK : Keep wr _ (· = w3.heap.size) := (Keep.refl wr (· = w3.heap.size)).setCell (g := w3.heap.size) (fun _ => rfl) 0 (.pointer (some ⟨o, 0, none⟩))
          clear G4 O4
          go_wp2_with fail
          go_roundw
          case rel => exact .inr ⟨rfl, GG, KK⟩
          case measure => simp [intOf]
        · have G5 := hF.out.1
          have O5 := O4.keep hF.out.2 (fun e => by omega)
          have k5 := (k3.trans (hb4.mono hs3)).trans (hF.out.2.below (by omega) (fun j e => by omega))
          go_wp2_with fail
          go_ret
          exact ⟨w3.heap.size, o, rfl, G5, O5, by omega, by omega, k5⟩
end Go.Proofs.YtekdalbhgdkckaaGreatDoor
