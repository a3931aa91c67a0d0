/- The walks of env's turn.term with the text function keep, and of turn.decl with same and with keep, of what has no lists. No condition but that there are no lists. -/
import Derived.Test.YtekdalbhgdkckaaGreatDoorE8
namespace Go.Proofs.YtekdalbhgdkckaaGreatDoor
open Go.RowKit

/-- keep, of the pool in block p. -/
def keepF (p : Nat) : Value := .func (.func 25) #[.pointer (some ⟨p, 0, none⟩)] #[]

set_option maxRecDepth 100000 in
theorem ttermK (c1 c2 c3 b off p : Nat) (v : Value) (l : List Value) (w : World) (hP : Blk w p 62 [v, .int .i64 1]) (hpb : p ≠ b) (hB : Blk w b 32 l) (h2 : l[off + 2]? = some (.string ⟨#[]⟩)) (h3 : l[off + 3]? = some (.slice none 0 0)) (h4 : l[off + 4]? = some (.slice none 0 0)) :
    Calls Tryz.prog 53 #[.agg (turnV (keepF p) c1 c2 c3).toArray, .pointer (some ⟨b, off, none⟩)] w fun e w' => e = .returned (.tuple #[]) ∧ Blk w' b 32 l ∧ Blk w' p 62 [v, .int .i64 1] ∧ Keep w w' (fun k => k = b ∨ k = p) := by
  obtain ⟨w1, hw1, hb1, T1, hs1⟩ := new_oneE w (turnV (keepF p) c1 c2 c3) 112
  have B1 := hB.on hb1
  have hne : b ≠ w.heap.size := Nat.ne_of_lt hB.lt
  have P1 := hP.on hb1
  have hnp : p ≠ w.heap.size := Nat.ne_of_lt hP.lt
  have H1 : Hid _ := hw1
  have k1 : Keep w w1 (fun k => k = b ∨ k = p) := Keep.of_below hb1 (Nat.le_refl _)
  clear hw1 hb1 hB hs1 hP
  unfold turnV keepF at H1 ⊢
  unfold turnV keepF at T1
  go_enter Tryz.func53, Tryz.ntmps53
  go_wp2_with fail
  rw [H1.out]
  have cK := keepE p v w1.drew P1.drew
  have x := T1.cell (j := 0) rfl
  have y := B1.cell (j := off + 2) h2
  have FK : Hid (∀ w2, Keep w1.drew w2 (· = p) → w2.cell? ⟨w.heap.size, 0, none⟩ = some (.func (.func 25) #[.pointer (some ⟨p, 0, none⟩)] #[]) ∧ w2.cell? ⟨b, off + 2, none⟩ = some (.string ⟨#[]⟩) ∧ w2.frozen? ⟨b, off + 2, none⟩ = false ∧ (w2.setCell ⟨b, off + 2, none⟩ (.string ⟨#[]⟩)).cell? ⟨b, off + 2, none⟩ = some (.string ⟨#[]⟩) ∧ (w2.setCell ⟨b, off + 2, none⟩ (.string ⟨#[]⟩)).cell? ⟨w.heap.size, 0, none⟩ = some (.func (.func 25) #[.pointer (some ⟨p, 0, none⟩)] #[])) := fun w2 hk => by
    have T2 := T1.drew.keep hk (fun e => hnp e.symm)
    have B2 := B1.drew.keep hk (fun e => hpb e.symm)
    exact ⟨T2.cell (j := 0) rfl, B2.cell h2, B2.frozen _, (B2.same (j := off + 2) h2).cell h2, (T2.keep ((Keep.refl w2 (· = b)).setCell (g := b) (fun _ => rfl) (off + 2) (.string ⟨#[]⟩)) (fun e => hne e.symm)).cell (j := 0) rfl⟩
  go_wp2_with fail
  go_region_held3 (fun w' => w'.cell? ⟨w.heap.size, 0, none⟩ = some (.func (.func 25) #[.pointer (some ⟨p, 0, none⟩)] #[]) ∧ w'.cell? ⟨b, off + 2, none⟩ = some (.string ⟨#[]⟩)) (go_keep) ((go_at_call 25; refine cK.mono ?_; rintro e w2 ⟨rfl, P2, kd2⟩; obtain ⟨z1, z2, z3, z4, z5⟩ := FK.out w2 kd2))
  obtain ⟨w3, hw⟩ : ∃ w3, w2.setCell ⟨b, off + 2, none⟩ (.string ⟨#[]⟩) = w3 := ⟨_, rfl⟩
  have T2 := T1.drew.keep kd2 (fun e => hnp e.symm)
  have B2 := B1.drew.keep kd2 (fun e => hpb e.symm)
  have k2 : Keep w1 w2 (· = p) := (Keep.drew (Keep.refl w1 (· = p))).trans kd2 (fun _ _ e => e)
  have k3 : Keep w2 (w2.setCell ⟨b, off + 2, none⟩ (.string ⟨#[]⟩)) (· = b) := (Keep.refl w2 (· = b)).setCell (g := b) (fun _ => rfl) _ _
  have B3 := B2.same (j := off + 2) h2
  have T3 := T2.keep k3 (fun e => hne e.symm)
  have P3 := P2.keep k3 (fun e => hpb e)
  rw [hw] at k3 B3 T3 P3 ⊢
  clear cK x y FK z1 z2 z3 z4 z5 hw kd2 B1 T1 P1 B2 T2 P2
  have x := T3.cell (j := 3) rfl
  have y := B3.cell (j := off + 3) h3
  have rf := B3.frozen (off + 3)
  have z2 : (w3.setCell ⟨b, off + 3, none⟩ (.slice none 0 0)).drew.cell? ⟨b, off + 3, none⟩ = some (.slice none 0 0) := (B3.same (j := off + 3) h3).drew.cell h3
  go_wp2_with fail
  go_region_held3 (fun w' => w'.cell? ⟨w.heap.size, 3, none⟩ = some (.func (.func 48) #[.pointer (some ⟨c3, 0, none⟩)] #[]) ∧ w'.cell? ⟨b, off + 3, none⟩ = some (.slice none 0 0)) (go_keep) ((go_at_call 48; refine (copied48 _ _).mono ?_; rintro e _ ⟨rfl, rfl⟩))
  obtain ⟨w4, hw⟩ : ∃ w2, (w3.setCell ⟨b, off + 3, none⟩ (.slice none 0 0)).drew = w2 := ⟨_, rfl⟩
  have B4 := (B3.same (j := off + 3) h3).drew
  have k4 : Keep w3 (w3.setCell ⟨b, off + 3, none⟩ (.slice none 0 0)).drew (· = b) := Keep.drew ((Keep.refl w3 (· = b)).setCell (g := b) (fun _ => rfl) _ _)
  have T4 := T3.keep k4 (fun e => hne e.symm)
  have P4 := P3.keep k4 (fun e => hpb e)
  rw [hw] at B4 k4 T4 P4 ⊢
  clear x y rf z2 hw B3 T3 P3
  have x := T4.cell (j := 2) rfl
  have y := B4.cell (j := off + 4) h4
  have rf := B4.frozen (off + 4)
  have z2 : (w4.setCell ⟨b, off + 4, none⟩ (.slice none 0 0)).drew.cell? ⟨b, off + 4, none⟩ = some (.slice none 0 0) := (B4.same (j := off + 4) h4).drew.cell h4
  go_wp2_with fail
  go_region_held3 (fun w' => w'.cell? ⟨w.heap.size, 2, none⟩ = some (.func (.func 47) #[.pointer (some ⟨c2, 0, none⟩)] #[]) ∧ w'.cell? ⟨b, off + 4, none⟩ = some (.slice none 0 0)) (go_keep) ((go_at_call 47; refine (copied47 _ _).mono ?_; rintro e _ ⟨rfl, rfl⟩))
  obtain ⟨w5, hw⟩ : ∃ w2, (w4.setCell ⟨b, off + 4, none⟩ (.slice none 0 0)).drew = w2 := ⟨_, rfl⟩
  have B5 := (B4.same (j := off + 4) h4).drew
  have k5 : Keep w4 (w4.setCell ⟨b, off + 4, none⟩ (.slice none 0 0)).drew (· = b) := Keep.drew ((Keep.refl w4 (· = b)).setCell (g := b) (fun _ => rfl) _ _)
  have T5 := T4.keep k5 (fun e => hne e.symm)
  have P5 := P4.keep k5 (fun e => hpb e)
  rw [hw] at B5 k5 T5 P5 ⊢
  clear x y rf z2 hw B4 T4 P4
  go_wp2_with fail
  go_end0
  exact ⟨rfl, B5, P5, ((((k1.trans k2 (fun _ _ e => .inr e)).trans k3 (fun _ _ e => .inl e)).trans k4 (fun _ _ e => .inl e)).trans k5 (fun _ _ e => .inl e))⟩
end Go.Proofs.YtekdalbhgdkckaaGreatDoor
