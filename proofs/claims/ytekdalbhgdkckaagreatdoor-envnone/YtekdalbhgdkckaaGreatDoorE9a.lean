/- The walks of env's turn.term with the text function keep, and of turn.decl with same and with keep, of what has no lists. No condition but that there are no lists. -/
import Derived.Test.YtekdalbhgdkckaaGreatDoorE9
namespace Go.Proofs.YtekdalbhgdkckaaGreatDoor
open Go.RowKit


set_option maxRecDepth 100000 in
set_option maxHeartbeats 1000000 in
theorem tdecl_any (c1 c2 c3 b : Nat) (k : Int) (s : ByteArray) (w : World) (hB : Blk w b 32 (dcl k s)) :
    Calls Tryz.prog 49 #[.agg (turnV (.func (.func 22) #[] #[]) c1 c2 c3).toArray, .pointer (some ⟨b, 0, none⟩)] w fun e w' => e = .returned (.tuple #[]) ∧ Blk w' b 32 (dcl k s) ∧ Keep w w' (· = b) := by
  obtain ⟨w1, hw1, hb1, T1, hs1⟩ := new_oneE w (turnV (.func (.func 22) #[] #[]) c1 c2 c3) 112
  have B1 := hB.on hb1
  have hne : b ≠ w.heap.size := Nat.ne_of_lt hB.lt
  have H1 : Hid _ := hw1
  have k1 : Keep w w1 (· = b) := Keep.of_below hb1 (Nat.le_refl _)
  clear hw1 hb1 hB hs1 
  unfold turnV at H1 ⊢
  unfold turnV at T1
  go_enter Tryz.func49, Tryz.ntmps49
  go_wp2_with fail
  rw [H1.out]
  have x := T1.cell (j := 0) rfl
  have y := B1.cell (j := 3) (show (dcl k s)[3]? = some (.string s) from rfl)
  have rf := B1.frozen (3)
  have z2 : (w1.setCell ⟨b, 3, none⟩ (.string s)).drew.cell? ⟨b, 3, none⟩ = some (.string s) := (B1.same (j := 3) (show (dcl k s)[3]? = some (.string s) from rfl)).drew.cell (show (dcl k s)[3]? = some (.string s) from rfl)
  go_wp2_with fail
  go_region_held3 (fun w' => w'.cell? ⟨w.heap.size, 0, none⟩ = some (.func (.func 22) #[] #[]) ∧ w'.cell? ⟨b, 3, none⟩ = some (.string s)) (go_keep) ((go_at_call 22; refine (same_any _ _).mono ?_; rintro e _ ⟨rfl, rfl⟩))
  obtain ⟨w2, hw⟩ : ∃ ww, (w1.setCell ⟨b, 3, none⟩ (.string s)).drew = ww := ⟨_, rfl⟩
  have B2 := (B1.same (j := 3) (show (dcl k s)[3]? = some (.string s) from rfl)).drew
  have k2 : Keep w1 (w1.setCell ⟨b, 3, none⟩ (.string s)).drew (· = b) := Keep.drew ((Keep.refl w1 (· = b)).setCell (g := b) (fun _ => rfl) _ _)
  have T2 := T1.keep k2 (fun e => hne e.symm)
  rw [hw] at B2 k2 T2 ⊢
  clear x y rf z2 hw B1 T1 
  have x := T2.cell (j := 0) rfl
  have y := B2.cell (j := 4) (show (dcl k s)[4]? = some (.string ⟨#[]⟩) from rfl)
  have rf := B2.frozen (4)
  have z2 : (w2.setCell ⟨b, 4, none⟩ (.string ⟨#[]⟩)).drew.cell? ⟨b, 4, none⟩ = some (.string ⟨#[]⟩) := (B2.same (j := 4) (show (dcl k s)[4]? = some (.string ⟨#[]⟩) from rfl)).drew.cell (show (dcl k s)[4]? = some (.string ⟨#[]⟩) from rfl)
  go_wp2_with fail
  go_region_held3 (fun w' => w'.cell? ⟨w.heap.size, 0, none⟩ = some (.func (.func 22) #[] #[]) ∧ w'.cell? ⟨b, 4, none⟩ = some (.string ⟨#[]⟩)) (go_keep) ((go_at_call 22; refine (same_any _ _).mono ?_; rintro e _ ⟨rfl, rfl⟩))
  obtain ⟨w3, hw⟩ : ∃ ww, (w2.setCell ⟨b, 4, none⟩ (.string ⟨#[]⟩)).drew = ww := ⟨_, rfl⟩
  have B3 := (B2.same (j := 4) (show (dcl k s)[4]? = some (.string ⟨#[]⟩) from rfl)).drew
  have k3 : Keep w2 (w2.setCell ⟨b, 4, none⟩ (.string ⟨#[]⟩)).drew (· = b) := Keep.drew ((Keep.refl w2 (· = b)).setCell (g := b) (fun _ => rfl) _ _)
  have T3 := T2.keep k3 (fun e => hne e.symm)
  rw [hw] at B3 k3 T3 ⊢
  clear x y rf z2 hw B2 T2 
  have cT := tterm_any c1 c2 c3 b 5 (dcl k s) w3.drew B3.drew rfl rfl rfl
  unfold turnV at cT
  have x0 := T3.cell (j := 0) rfl
  have x1 := T3.cell (j := 1) rfl
  have x2 := T3.cell (j := 2) rfl
  have x3 := T3.cell (j := 3) rfl
  have FT : Hid (∀ w2, Keep w3.drew w2 (· = b) → w2.cell? ⟨w.heap.size, 0, none⟩ = some (.func (.func 22) #[] #[]) ∧ w2.cell? ⟨w.heap.size, 1, none⟩ = some (.func (.func 46) #[.pointer (some ⟨c1, 0, none⟩)] #[]) ∧ w2.cell? ⟨w.heap.size, 2, none⟩ = some (.func (.func 47) #[.pointer (some ⟨c2, 0, none⟩)] #[]) ∧ w2.cell? ⟨w.heap.size, 3, none⟩ = some (.func (.func 48) #[.pointer (some ⟨c3, 0, none⟩)] #[])) := fun w2 hk => by
    have T2 := T3.drew.keep hk (fun e => hne e.symm)
    exact ⟨T2.cell (j := 0) rfl, T2.cell (j := 1) rfl, T2.cell (j := 2) rfl, T2.cell (j := 3) rfl⟩
  go_wp2_with fail
  go_region_held3 (fun w' => w'.cell? ⟨w.heap.size, 0, none⟩ = some (.func (.func 22) #[] #[]) ∧ w'.cell? ⟨w.heap.size, 1, none⟩ = some (.func (.func 46) #[.pointer (some ⟨c1, 0, none⟩)] #[]) ∧ w'.cell? ⟨w.heap.size, 2, none⟩ = some (.func (.func 47) #[.pointer (some ⟨c2, 0, none⟩)] #[]) ∧ w'.cell? ⟨w.heap.size, 3, none⟩ = some (.func (.func 48) #[.pointer (some ⟨c3, 0, none⟩)] #[])) (go_keep) ((go_at_call 53; refine cT.mono ?_; rintro e w4 ⟨rfl, B4, kd4⟩; obtain ⟨z0, z1, z2, z3⟩ := FT.out w4 kd4))
  have T4 := T3.drew.keep kd4 (fun e => hne e.symm)
  have k4 : Keep w3 w4 (· = b) := (Keep.drew (Keep.refl w3 (· = b))).trans kd4 (fun _ _ e => e)
  clear cT x0 x1 x2 x3 FT z0 z1 z2 z3 kd4 B3 T3 
  have cT := tterm_any c1 c2 c3 b 10 (dcl k s) w4.drew B4.drew rfl rfl rfl
  unfold turnV at cT
  have x0 := T4.cell (j := 0) rfl
  have x1 := T4.cell (j := 1) rfl
  have x2 := T4.cell (j := 2) rfl
  have x3 := T4.cell (j := 3) rfl
  have FT : Hid (∀ w2, Keep w4.drew w2 (· = b) → w2.cell? ⟨w.heap.size, 0, none⟩ = some (.func (.func 22) #[] #[]) ∧ w2.cell? ⟨w.heap.size, 1, none⟩ = some (.func (.func 46) #[.pointer (some ⟨c1, 0, none⟩)] #[]) ∧ w2.cell? ⟨w.heap.size, 2, none⟩ = some (.func (.func 47) #[.pointer (some ⟨c2, 0, none⟩)] #[]) ∧ w2.cell? ⟨w.heap.size, 3, none⟩ = some (.func (.func 48) #[.pointer (some ⟨c3, 0, none⟩)] #[])) := fun w2 hk => by
    have T2 := T4.drew.keep hk (fun e => hne e.symm)
    exact ⟨T2.cell (j := 0) rfl, T2.cell (j := 1) rfl, T2.cell (j := 2) rfl, T2.cell (j := 3) rfl⟩
  go_wp2_with fail
  go_region_held3 (fun w' => w'.cell? ⟨w.heap.size, 0, none⟩ = some (.func (.func 22) #[] #[]) ∧ w'.cell? ⟨w.heap.size, 1, none⟩ = some (.func (.func 46) #[.pointer (some ⟨c1, 0, none⟩)] #[]) ∧ w'.cell? ⟨w.heap.size, 2, none⟩ = some (.func (.func 47) #[.pointer (some ⟨c2, 0, none⟩)] #[]) ∧ w'.cell? ⟨w.heap.size, 3, none⟩ = some (.func (.func 48) #[.pointer (some ⟨c3, 0, none⟩)] #[])) (go_keep) ((go_at_call 53; refine cT.mono ?_; rintro e w5 ⟨rfl, B5, kd5⟩; obtain ⟨z0, z1, z2, z3⟩ := FT.out w5 kd5))
  have T5 := T4.drew.keep kd5 (fun e => hne e.symm)
  have k5 : Keep w4 w5 (· = b) := (Keep.drew (Keep.refl w4 (· = b))).trans kd5 (fun _ _ e => e)
  clear cT x0 x1 x2 x3 FT z0 z1 z2 z3 kd5 B4 T4 
  have x := T5.cell (j := 1) rfl
  have y := B5.cell (j := 15) (show (dcl k s)[15]? = some (.slice none 0 0) from rfl)
  have rf := B5.frozen (15)
  have z2 : (w5.setCell ⟨b, 15, none⟩ (.slice none 0 0)).drew.cell? ⟨b, 15, none⟩ = some (.slice none 0 0) := (B5.same (j := 15) (show (dcl k s)[15]? = some (.slice none 0 0) from rfl)).drew.cell (show (dcl k s)[15]? = some (.slice none 0 0) from rfl)
  go_wp2_with fail
  go_region_held3 (fun w' => w'.cell? ⟨w.heap.size, 1, none⟩ = some (.func (.func 46) #[.pointer (some ⟨c1, 0, none⟩)] #[]) ∧ w'.cell? ⟨b, 15, none⟩ = some (.slice none 0 0)) (go_keep) ((go_at_call 46; refine (copied46 _ _).mono ?_; rintro e _ ⟨rfl, rfl⟩))
  obtain ⟨w6, hw⟩ : ∃ ww, (w5.setCell ⟨b, 15, none⟩ (.slice none 0 0)).drew = ww := ⟨_, rfl⟩
  have B6 := (B5.same (j := 15) (show (dcl k s)[15]? = some (.slice none 0 0) from rfl)).drew
  have k6 : Keep w5 (w5.setCell ⟨b, 15, none⟩ (.slice none 0 0)).drew (· = b) := Keep.drew ((Keep.refl w5 (· = b)).setCell (g := b) (fun _ => rfl) _ _)
  have T6 := T5.keep k6 (fun e => hne e.symm)
  rw [hw] at B6 k6 T6 ⊢
  clear x y rf z2 hw B5 T5 
  go_wp2_with fail
  go_end0
  exact ⟨rfl, B6, (((((k1.trans k2 (fun _ _ e => e)).trans k3 (fun _ _ e => e)).trans k4 (fun _ _ e => e)).trans k5 (fun _ _ e => e)).trans k6 (fun _ _ e => e))⟩
end Go.Proofs.YtekdalbhgdkckaaGreatDoor
