/- The walks of env's sheet.all, of one declaration, and of Env's New, Len, All, Over, Own, Find. No condition but that the declaration has no lists and is named "a". -/
import Derived.Test.YtekdalbhgdkckaaGreatDoorE14
import Derived.Laws.IdiomCopy
namespace Go.Proofs.YtekdalbhgdkckaaGreatDoor
open Go.RowKit

/-- 1 for what points somewhere. -/
def isPt : Value → Nat
  | .pointer none => 0
  | _ => 1

set_option maxRecDepth 100000 in
theorem all_any (sh b : Nat) (k : Int) (w : World) (h : Sheet w sh b k) :
    Calls Tryz.prog 20 #[.pointer (some ⟨sh, 0, none⟩)] w fun e w' => ∃ o, e = .returned (.slice (some ⟨o, 0, none⟩) 1 1) ∧ w'.cell? ⟨o, 0, none⟩ = some (.pointer (some ⟨b, 0, none⟩)) ∧ Below w.heap.size w w' := by
  have hmk : ∀ w : World, (Instr.makeSlice 47 (.int .i64 1) (.int .i64 1)).run Tryz.prog w = .ok (.slice (some ⟨w.heap.size, 0, none⟩) 1 1) (w.alloc (.cells #[.pointer none] 43)) := fun w => by kernel_rfl
  have cE := end_one sh b k w h
  go_enter Tryz.func20, Tryz.ntmps20
  go_wp2_with fail
  refine cE.mono ?_
  rintro e w1 ⟨rfl, hb1⟩
  obtain ⟨w2, hw2, hb2, G2, hs2⟩ := new_oneE w1 [.pointer none] 43
  have S2 := (h.on hb1).on hb2
  obtain ⟨g, hg⟩ : ∃ g, w1.heap.size = g := ⟨_, rfl⟩
  have hgw : w.heap.size ≤ g := by have := hb1.size; omega
  have bel2 : Below w.heap.size w w2 := hb1.trans (hb2.mono hb1.size)
  have H2 : Hid _ := hw2
  have HG : Hid _ := hg
  rw [hg] at G2
  clear hw2 hg hb1 hb2 cE h hs2
  go_wp2_with fail
  rw [H2.out, HG.out]
  clear hmk
  go_loopw [0] (fun v wr => (v = .pointer (some ⟨sh, 0, none⟩) ∧ wr = w2) ∨ (v = .pointer none ∧ Hid (wr.cell? ⟨g, 0, none⟩ = some (.pointer (some ⟨b, 0, none⟩)) ∧ Below w.heap.size w wr))) (fun v _ => isPt v)
  case atStart => exact .inl ⟨rfl, rfl⟩
  case round =>
    rcases hrel with ⟨rfl, hh⟩ | ⟨rfl, hF⟩
    · subst hh
      obtain ⟨q, m, c, h1, h2, h3⟩ := S2.is
      have x0 := h1.cell (j := 0) rfl
      have x1 := h1.cell (j := 1) rfl
      have x2 := h1.cell (j := 2) rfl
      have hcp : (Builtin.copy_ #[47, 47] 3 #[.slice (some ⟨g, 0, none⟩) 1 1, .slice (some ⟨q, 0, none⟩) 1 1]).run Tryz.prog wr.drew = .ok (goInt 1) (wr.drew.setCell ⟨g, 0, none⟩ (.pointer (some ⟨b, 0, none⟩))) :=
        run_copy_cells (P := Tryz.prog) wr.drew 47 47 3 43 g 0 1 1 ⟨q, 0, none⟩ 1 1 [.pointer (some ⟨b, 0, none⟩)] Tryz.underlying47 (by kernel_rfl) rfl (fun j v hj => by
          cases j with
          | zero => simp at hj; subst hj; exact h2.drew.cell (j := 0) rfl
          | succ j => simp at hj) (fun j hj => by
          obtain rfl : j = 0 := by simp at hj; exact hj
          show (wr.drew.cell? ⟨g, 0, none⟩).isSome = true
          rw [G2.drew.cell (j := 0) rfl]; rfl) (fun j hj => by
          obtain rfl : j = 0 := by simp at hj; exact hj
          exact G2.drew.frozen 0) (by simp [Value.oneCell'])
      have lg := G2.lt
      have hne : sh ≠ g := fun e => by
        subst e
        unfold Blk at h1 G2
        rw [h1] at G2
        simp at G2
      have kk : Keep wr (wr.drew.setCell ⟨g, 0, none⟩ (.pointer (some ⟨b, 0, none⟩))) (· = g) := (Keep.drew (Keep.refl wr (· = g))).setCell (g := g) (fun _ => rfl) 0 _
      have FF : Hid ((wr.drew.setCell ⟨g, 0, none⟩ (.pointer (some ⟨b, 0, none⟩))).cell? ⟨g, 0, none⟩ = some (.pointer (some ⟨b, 0, none⟩)) ∧ Below w.heap.size w (wr.drew.setCell ⟨g, 0, none⟩ (.pointer (some ⟨b, 0, none⟩)))) := ⟨(G2.drew.set 0 (.pointer (some ⟨b, 0, none⟩))).cell (j := 0) rfl, bel2.trans (kk.below bel2.size (fun j e => by omega))⟩
      have x0' := ((h1.keep kk hne).cell (j := 0) rfl)
      obtain ⟨w5, hw5⟩ : ∃ w5, wr.drew.setCell ⟨g, 0, none⟩ (.pointer (some ⟨b, 0, none⟩)) = w5 := ⟨_, rfl⟩
      rw [hw5] at hcp FF x0'
      clear h1 h2 h3 S2 G2 hw5 kk bel2
      go_wp2_with fail
      go_region
      all_goals
        go_wp2_with fail
        go_roundw
        case rel => exact .inr ⟨rfl, FF⟩
        case measure => simp [isPt]
    · go_wp2_with fail
      go_ret
      exact ⟨g, rfl, hF.out.1, hF.out.2⟩

set_option maxRecDepth 100000 in
theorem new_any (w : World) : Calls Tryz.prog 14 #[] w fun e w' => ∃ g, e = .returned (.pointer (some ⟨g, 0, none⟩)) ∧ Blk w' g 25 [.pointer none, .int .i64 0] ∧ Below w.heap.size w w' := by
  obtain ⟨w1, hw1, hb1, B1, _⟩ := new_oneE w [.pointer none, .int .i64 0] 25
  have H1 : Hid _ := hw1
  clear hw1
  go_enter Tryz.func14, Tryz.ntmps14
  go_wp2_with fail
  rw [H1.out]
  go_ret
  exact ⟨_, rfl, B1, hb1⟩

theorem len_nil (w : World) : Calls Tryz.prog 7 #[.pointer none] w fun e w' => e = .returned (.int .i64 0) ∧ w = w' := by
  go_enter Tryz.func7, Tryz.ntmps7
  go_wp2_with fail
  go_ret
  exact ⟨rfl, rfl⟩
theorem all_nil (w : World) : Calls Tryz.prog 8 #[.pointer none] w fun e w' => e = .returned (.slice none 0 0) ∧ w = w' := by
  go_enter Tryz.func8, Tryz.ntmps8
  go_wp2_with fail
  go_ret
  exact ⟨rfl, rfl⟩
theorem over_nil (w : World) : Calls Tryz.prog 9 #[.pointer none] w fun e w' => e = .returned (.pointer none) ∧ w = w' := by
  go_enter Tryz.func9, Tryz.ntmps9
  go_wp2_with fail
  go_ret
  exact ⟨rfl, rfl⟩
theorem copy_nil (w : World) : Calls Tryz.prog 10 #[.pointer none] w fun e w' => e = .returned (.pointer none) ∧ w = w' := by
  go_enter Tryz.func10, Tryz.ntmps10
  go_wp2_with fail
  go_ret
  exact ⟨rfl, rfl⟩
theorem own_nil (s : ByteArray) (w : World) : Calls Tryz.prog 11 #[.pointer none, .string s] w fun e w' => e = .returned (.bool false) ∧ w = w' := by
  go_enter Tryz.func11, Tryz.ntmps11
  go_wp2_with fail
  go_ret
  exact ⟨rfl, rfl⟩
theorem add_nil (v : Value) (w : World) : Calls Tryz.prog 6 #[.pointer none, v] w fun e w' => e = .returned (.int .i64 1) ∧ w = w' := by
  go_enter Tryz.func6, Tryz.ntmps6
  go_wp2_with fail
  go_ret
  exact ⟨rfl, rfl⟩
end Go.Proofs.YtekdalbhgdkckaaGreatDoor
