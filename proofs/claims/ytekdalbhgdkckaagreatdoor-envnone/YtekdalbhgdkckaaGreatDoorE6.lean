/- The walks of env's turn.term and turn.decl with the text function same, of what has no lists. No condition but that there are no lists. -/
import Derived.Test.YtekdalbhgdkckaaGreatDoorE5
namespace Go.Proofs.YtekdalbhgdkckaaGreatDoor
open Go.RowKit

theorem Blk.same {w : World} {g : Nat} {t : TypeId} {l : List Value} (h : Blk w g t l) {j : Nat} {v : Value} (hj : l[j]? = some v) : Blk (w.setCell ⟨g, j, none⟩ v) g t l := by
  have h1 := h.set j v
  have e : l.set j v = l := by
    apply List.ext_getElem?
    intro i
    by_cases hi : j = i
    · subst hi
      rw [List.getElem?_set_self (List.getElem?_eq_some_iff.1 hj).1, hj]
    · rw [List.getElem?_set_ne hi]
  rw [e] at h1
  exact h1

set_option maxRecDepth 100000 in
theorem tterm_any (c1 c2 c3 b off : Nat) (l : List Value) (w : World) (hB : Blk w b 32 l) (h2 : l[off + 2]? = some (.string ⟨#[]⟩)) (h3 : l[off + 3]? = some (.slice none 0 0)) (h4 : l[off + 4]? = some (.slice none 0 0)) :
    Calls Tryz.prog 53 #[.agg (turnV (.func (.func 22) #[] #[]) c1 c2 c3).toArray, .pointer (some ⟨b, off, none⟩)] w fun e w' => e = .returned (.tuple #[]) ∧ Blk w' b 32 l ∧ Keep w w' (· = b) := by
  obtain ⟨w1, hw1, hb1, T1, hs1⟩ := new_oneE w (turnV (.func (.func 22) #[] #[]) c1 c2 c3) 112
  have B1 := hB.on hb1
  have hne : b ≠ w.heap.size := Nat.ne_of_lt hB.lt
  have H1 : Hid _ := hw1
  have k1 : Keep w w1 (· = b) := Keep.of_below hb1 (Nat.le_refl _)
  clear hw1 hb1 hB hs1
  have x0 := T1.cell (j := 0) rfl
  have y2 := B1.cell h2
  have rf := B1.frozen (off + 2)
  have z2 : (w1.setCell ⟨b, off + 2, none⟩ (.string ⟨#[]⟩)).drew.cell? ⟨b, off + 2, none⟩ = some (.string ⟨#[]⟩) := (B1.same h2).drew.cell h2
  unfold turnV at H1 ⊢
  go_enter Tryz.func53, Tryz.ntmps53
  go_wp2_with fail
  rw [H1.out]
  go_region_held3 (fun w' => w'.cell? ⟨w.heap.size, 0, none⟩ = some (.func (.func 22) #[] #[]) ∧ w'.cell? ⟨b, off + 2, none⟩ = some (.string ⟨#[]⟩)) (go_keep) ((go_at_call 22; refine (same_any _ _).mono ?_; rintro e _ ⟨rfl, rfl⟩))
  obtain ⟨w2, hw2⟩ : ∃ w2, (w1.setCell ⟨b, off + 2, none⟩ (.string ⟨#[]⟩)).drew = w2 := ⟨_, rfl⟩
  have B2 := (B1.same h2).drew
  have k2 : Keep w1 (w1.setCell ⟨b, off + 2, none⟩ (.string ⟨#[]⟩)).drew (· = b) := Keep.drew ((Keep.refl w1 (· = b)).setCell (g := b) (fun _ => rfl) _ _)
  have T2 := T1.keep k2 (fun e => hne e.symm)
  rw [hw2] at B2 k2 T2 ⊢
  clear x0 y2 rf z2 hw2 B1 T1
  have x3 := T2.cell (j := 3) rfl
  have y3 := B2.cell h3
  have rf := B2.frozen (off + 3)
  have z2 : (w2.setCell ⟨b, off + 3, none⟩ (.slice none 0 0)).drew.cell? ⟨b, off + 3, none⟩ = some (.slice none 0 0) := (B2.same h3).drew.cell h3
  go_wp2_with fail
  go_region_held3 (fun w' => w'.cell? ⟨w.heap.size, 3, none⟩ = some (.func (.func 48) #[.pointer (some ⟨c3, 0, none⟩)] #[]) ∧ w'.cell? ⟨b, off + 3, none⟩ = some (.slice none 0 0)) (go_keep) ((go_at_call 48; refine (copied48 _ _).mono ?_; rintro e _ ⟨rfl, rfl⟩))
  obtain ⟨w3, hw3⟩ : ∃ w3, (w2.setCell ⟨b, off + 3, none⟩ (.slice none 0 0)).drew = w3 := ⟨_, rfl⟩
  have B3 := (B2.same h3).drew
  have k3 : Keep w2 (w2.setCell ⟨b, off + 3, none⟩ (.slice none 0 0)).drew (· = b) := Keep.drew ((Keep.refl w2 (· = b)).setCell (g := b) (fun _ => rfl) _ _)
  have T3 := T2.keep k3 (fun e => hne e.symm)
  rw [hw3] at B3 k3 T3 ⊢
  clear x3 y3 rf z2 hw3 B2 T2
  have x2 := T3.cell (j := 2) rfl
  have y4 := B3.cell h4
  have rf := B3.frozen (off + 4)
  have z2 : (w3.setCell ⟨b, off + 4, none⟩ (.slice none 0 0)).drew.cell? ⟨b, off + 4, none⟩ = some (.slice none 0 0) := (B3.same h4).drew.cell h4
  go_wp2_with fail
  go_region_held3 (fun w' => w'.cell? ⟨w.heap.size, 2, none⟩ = some (.func (.func 47) #[.pointer (some ⟨c2, 0, none⟩)] #[]) ∧ w'.cell? ⟨b, off + 4, none⟩ = some (.slice none 0 0)) (go_keep) ((go_at_call 47; refine (copied47 _ _).mono ?_; rintro e _ ⟨rfl, rfl⟩))
  go_wp2_with fail
  go_end0
  exact ⟨rfl, (B3.same h4).drew, (((k1.trans k2 (fun _ _ e => e)).trans k3 (fun _ _ e => e)).trans (Keep.drew ((Keep.refl w3 (· = b)).setCell (g := b) (fun _ => rfl) _ _)) (fun _ _ e => e))⟩
end Go.Proofs.YtekdalbhgdkckaaGreatDoor
