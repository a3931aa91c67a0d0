/- The walks of env's turn.term with the text function keep, and of turn.decl with same and with keep, of what has no lists. No condition but that there are no lists. -/
import Derived.Test.YtekdalbhgdkckaaGreatDoorE9
namespace Go.Proofs.YtekdalbhgdkckaaGreatDoor
open Go.RowKit


set_option maxRecDepth 100000 in
set_option maxHeartbeats 1000000 in
theorem tdeclK (c1 c2 c3 b p : Nat) (k : Int) (w : World) (hP : Blk w p 62 [.map none, .int .i64 0]) (hpb : p ≠ b) (hB : Blk w b 32 (dcl k aB)) :
    Calls Tryz.prog 49 #[.agg (turnV (keepF p) c1 c2 c3).toArray, .pointer (some ⟨b, 0, none⟩)] w fun e w' => e = .returned (.tuple #[]) ∧ Blk w' b 32 (dcl k aB) ∧ Keep w w' (fun k => k = b ∨ k = p) := by
  obtain ⟨w1, hw1, hb1, T1, hs1⟩ := new_oneE w (turnV (keepF p) c1 c2 c3) 112
  have B1 := hB.on hb1
  have hne : b ≠ w.heap.size := Nat.ne_of_lt hB.lt
  have P1 := hP.on hb1
  have hnp : p ≠ w.heap.size := Nat.ne_of_lt hP.lt
  have H1 : Hid _ := hw1
  have k1 : Keep w w1 (fun k => k = b ∨ k = p) := Keep.of_below hb1 (Nat.le_refl _)
  clear hw1 hb1 hB hs1 hP
  unfold turnV keepF at H1 ⊢
  unfold turnV keepF at T1
  go_enter Tryz.func49, Tryz.ntmps49
  go_wp2_with fail
  rw [H1.out]
  have cK := keepA p w1.drew P1.drew
  have x := T1.cell (j := 0) rfl
  have y := B1.cell (j := 3) (show (dcl k aB)[3]? = some (.string aB) from rfl)
  have FK : Hid (∀ w2, Keep w1.drew w2 (· = p) → w2.cell? ⟨w.heap.size, 0, none⟩ = some (.func (.func 25) #[.pointer (some ⟨p, 0, none⟩)] #[]) ∧ w2.cell? ⟨b, 3, none⟩ = some (.string aB) ∧ w2.frozen? ⟨b, 3, none⟩ = false ∧ (w2.setCell ⟨b, 3, none⟩ (.string aB)).cell? ⟨b, 3, none⟩ = some (.string aB) ∧ (w2.setCell ⟨b, 3, none⟩ (.string aB)).cell? ⟨w.heap.size, 0, none⟩ = some (.func (.func 25) #[.pointer (some ⟨p, 0, none⟩)] #[])) := fun w2 hk => by
    have T2 := T1.drew.keep hk (fun e => hnp e.symm)
    have B2 := B1.drew.keep hk (fun e => hpb e.symm)
    exact ⟨T2.cell (j := 0) rfl, B2.cell (show (dcl k aB)[3]? = some (.string aB) from rfl), B2.frozen _, (B2.same (j := 3) (show (dcl k aB)[3]? = some (.string aB) from rfl)).cell (show (dcl k aB)[3]? = some (.string aB) from rfl), (T2.keep ((Keep.refl w2 (· = b)).setCell (g := b) (fun _ => rfl) (3) (.string aB)) (fun e => hne e.symm)).cell (j := 0) rfl⟩
  go_wp2_with fail
  go_region_held3 (fun w' => w'.cell? ⟨w.heap.size, 0, none⟩ = some (.func (.func 25) #[.pointer (some ⟨p, 0, none⟩)] #[]) ∧ w'.cell? ⟨b, 3, none⟩ = some (.string aB)) (go_keep) ((go_at_call 25; refine cK.mono ?_; rintro e w2 ⟨rfl, ⟨m, P2⟩, kd2⟩; obtain ⟨z1, z2, z3, z4, z5⟩ := FK.out w2 kd2))
  obtain ⟨w3, hw⟩ : ∃ w3, w2.setCell ⟨b, 3, none⟩ (.string aB) = w3 := ⟨_, rfl⟩
  have T2 := T1.drew.keep kd2 (fun e => hnp e.symm)
  have B2 := B1.drew.keep kd2 (fun e => hpb e.symm)
  have k2 : Keep w1 w2 (· = p) := (Keep.drew (Keep.refl w1 (· = p))).trans kd2 (fun _ _ e => e)
  have k3 : Keep w2 (w2.setCell ⟨b, 3, none⟩ (.string aB)) (· = b) := (Keep.refl w2 (· = b)).setCell (g := b) (fun _ => rfl) _ _
  have B3 := B2.same (j := 3) (show (dcl k aB)[3]? = some (.string aB) from rfl)
  have T3 := T2.keep k3 (fun e => hne e.symm)
  have P3 := P2.keep k3 (fun e => hpb e)
  rw [hw] at k3 B3 T3 P3 ⊢
  clear cK x y FK z1 z2 z3 z4 z5 hw kd2 B1 T1 P1 B2 T2 P2
  have cK := keepE p (.map (some m)) w3.drew P3.drew
  have x := T3.cell (j := 0) rfl
  have y := B3.cell (j := 4) (show (dcl k aB)[4]? = some (.string ⟨#[]⟩) from rfl)
  have FK : Hid (∀ w2, Keep w3.drew w2 (· = p) → w2.cell? ⟨w.heap.size, 0, none⟩ = some (.func (.func 25) #[.pointer (some ⟨p, 0, none⟩)] #[]) ∧ w2.cell? ⟨b, 4, none⟩ = some (.string ⟨#[]⟩) ∧ w2.frozen? ⟨b, 4, none⟩ = false ∧ (w2.setCell ⟨b, 4, none⟩ (.string ⟨#[]⟩)).cell? ⟨b, 4, none⟩ = some (.string ⟨#[]⟩) ∧ (w2.setCell ⟨b, 4, none⟩ (.string ⟨#[]⟩)).cell? ⟨w.heap.size, 0, none⟩ = some (.func (.func 25) #[.pointer (some ⟨p, 0, none⟩)] #[])) := fun w2 hk => by
    have T2 := T3.drew.keep hk (fun e => hnp e.symm)
    have B2 := B3.drew.keep hk (fun e => hpb e.symm)
    exact ⟨T2.cell (j := 0) rfl, B2.cell (show (dcl k aB)[4]? = some (.string ⟨#[]⟩) from rfl), B2.frozen _, (B2.same (j := 4) (show (dcl k aB)[4]? = some (.string ⟨#[]⟩) from rfl)).cell (show (dcl k aB)[4]? = some (.string ⟨#[]⟩) from rfl), (T2.keep ((Keep.refl w2 (· = b)).setCell (g := b) (fun _ => rfl) (4) (.string ⟨#[]⟩)) (fun e => hne e.symm)).cell (j := 0) rfl⟩
  go_wp2_with fail
  go_region_held3 (fun w' => w'.cell? ⟨w.heap.size, 0, none⟩ = some (.func (.func 25) #[.pointer (some ⟨p, 0, none⟩)] #[]) ∧ w'.cell? ⟨b, 4, none⟩ = some (.string ⟨#[]⟩)) (go_keep) ((go_at_call 25; refine cK.mono ?_; rintro e w4 ⟨rfl, P4, kd4⟩; obtain ⟨z1, z2, z3, z4, z5⟩ := FK.out w4 kd4))
  obtain ⟨w5, hw⟩ : ∃ w3, w4.setCell ⟨b, 4, none⟩ (.string ⟨#[]⟩) = w3 := ⟨_, rfl⟩
  have T4 := T3.drew.keep kd4 (fun e => hnp e.symm)
  have B4 := B3.drew.keep kd4 (fun e => hpb e.symm)
  have k4 : Keep w3 w4 (· = p) := (Keep.drew (Keep.refl w3 (· = p))).trans kd4 (fun _ _ e => e)
  have k5 : Keep w4 (w4.setCell ⟨b, 4, none⟩ (.string ⟨#[]⟩)) (· = b) := (Keep.refl w4 (· = b)).setCell (g := b) (fun _ => rfl) _ _
  have B5 := B4.same (j := 4) (show (dcl k aB)[4]? = some (.string ⟨#[]⟩) from rfl)
  have T5 := T4.keep k5 (fun e => hne e.symm)
  have P5 := P4.keep k5 (fun e => hpb e)
  rw [hw] at k5 B5 T5 P5 ⊢
  clear cK x y FK z1 z2 z3 z4 z5 hw kd4 B3 T3 P3 B4 T4 P4
  have cT := ttermK c1 c2 c3 b 5 p (.map (some m)) (dcl k aB) w5.drew P5.drew hpb B5.drew rfl rfl rfl
  unfold turnV keepF at cT
  have x0 := T5.cell (j := 0) rfl
  have x1 := T5.cell (j := 1) rfl
  have x2 := T5.cell (j := 2) rfl
  have x3 := T5.cell (j := 3) rfl
  have FT : Hid (∀ w2, Keep w5.drew w2 (fun k => k = b ∨ k = p) → w2.cell? ⟨w.heap.size, 0, none⟩ = some (.func (.func 25) #[.pointer (some ⟨p, 0, none⟩)] #[]) ∧ w2.cell? ⟨w.heap.size, 1, none⟩ = some (.func (.func 46) #[.pointer (some ⟨c1, 0, none⟩)] #[]) ∧ w2.cell? ⟨w.heap.size, 2, none⟩ = some (.func (.func 47) #[.pointer (some ⟨c2, 0, none⟩)] #[]) ∧ w2.cell? ⟨w.heap.size, 3, none⟩ = some (.func (.func 48) #[.pointer (some ⟨c3, 0, none⟩)] #[])) := fun w2 hk => by
    have T2 := T5.drew.keep hk (fun e => e.elim (fun e => hne e.symm) (fun e => hnp e.symm))
    exact ⟨T2.cell (j := 0) rfl, T2.cell (j := 1) rfl, T2.cell (j := 2) rfl, T2.cell (j := 3) rfl⟩
  go_wp2_with fail
  go_region_held3 (fun w' => w'.cell? ⟨w.heap.size, 0, none⟩ = some (.func (.func 25) #[.pointer (some ⟨p, 0, none⟩)] #[]) ∧ w'.cell? ⟨w.heap.size, 1, none⟩ = some (.func (.func 46) #[.pointer (some ⟨c1, 0, none⟩)] #[]) ∧ w'.cell? ⟨w.heap.size, 2, none⟩ = some (.func (.func 47) #[.pointer (some ⟨c2, 0, none⟩)] #[]) ∧ w'.cell? ⟨w.heap.size, 3, none⟩ = some (.func (.func 48) #[.pointer (some ⟨c3, 0, none⟩)] #[])) (go_keep) ((go_at_call 53; refine cT.mono ?_; rintro e w6 ⟨rfl, B6, P6, kd6⟩; obtain ⟨z0, z1, z2, z3⟩ := FT.out w6 kd6))
  have T6 := T5.drew.keep kd6 (fun e => e.elim (fun e => hne e.symm) (fun e => hnp e.symm))
  have k6 : Keep w5 w6 (fun k => k = b ∨ k = p) := (Keep.drew (Keep.refl w5 (fun k => k = b ∨ k = p))).trans kd6 (fun _ _ e => e)
  clear cT x0 x1 x2 x3 FT z0 z1 z2 z3 kd6 B5 T5 P5
  have cT := ttermK c1 c2 c3 b 10 p (.map (some m)) (dcl k aB) w6.drew P6.drew hpb B6.drew rfl rfl rfl
  unfold turnV keepF at cT
  have x0 := T6.cell (j := 0) rfl
  have x1 := T6.cell (j := 1) rfl
  have x2 := T6.cell (j := 2) rfl
  have x3 := T6.cell (j := 3) rfl
  have FT : Hid (∀ w2, Keep w6.drew w2 (fun k => k = b ∨ k = p) → w2.cell? ⟨w.heap.size, 0, none⟩ = some (.func (.func 25) #[.pointer (some ⟨p, 0, none⟩)] #[]) ∧ w2.cell? ⟨w.heap.size, 1, none⟩ = some (.func (.func 46) #[.pointer (some ⟨c1, 0, none⟩)] #[]) ∧ w2.cell? ⟨w.heap.size, 2, none⟩ = some (.func (.func 47) #[.pointer (some ⟨c2, 0, none⟩)] #[]) ∧ w2.cell? ⟨w.heap.size, 3, none⟩ = some (.func (.func 48) #[.pointer (some ⟨c3, 0, none⟩)] #[])) := fun w2 hk => by
    have T2 := T6.drew.keep hk (fun e => e.elim (fun e => hne e.symm) (fun e => hnp e.symm))
    exact ⟨T2.cell (j := 0) rfl, T2.cell (j := 1) rfl, T2.cell (j := 2) rfl, T2.cell (j := 3) rfl⟩
  go_wp2_with fail
  go_region_held3 (fun w' => w'.cell? ⟨w.heap.size, 0, none⟩ = some (.func (.func 25) #[.pointer (some ⟨p, 0, none⟩)] #[]) ∧ w'.cell? ⟨w.heap.size, 1, none⟩ = some (.func (.func 46) #[.pointer (some ⟨c1, 0, none⟩)] #[]) ∧ w'.cell? ⟨w.heap.size, 2, none⟩ = some (.func (.func 47) #[.pointer (some ⟨c2, 0, none⟩)] #[]) ∧ w'.cell? ⟨w.heap.size, 3, none⟩ = some (.func (.func 48) #[.pointer (some ⟨c3, 0, none⟩)] #[])) (go_keep) ((go_at_call 53; refine cT.mono ?_; rintro e w7 ⟨rfl, B7, P7, kd7⟩; obtain ⟨z0, z1, z2, z3⟩ := FT.out w7 kd7))
  have T7 := T6.drew.keep kd7 (fun e => e.elim (fun e => hne e.symm) (fun e => hnp e.symm))
  have k7 : Keep w6 w7 (fun k => k = b ∨ k = p) := (Keep.drew (Keep.refl w6 (fun k => k = b ∨ k = p))).trans kd7 (fun _ _ e => e)
  clear cT x0 x1 x2 x3 FT z0 z1 z2 z3 kd7 B6 T6 P6
  have x := T7.cell (j := 1) rfl
  have y := B7.cell (j := 15) (show (dcl k aB)[15]? = some (.slice none 0 0) from rfl)
  have rf := B7.frozen (15)
  have z2 : (w7.setCell ⟨b, 15, none⟩ (.slice none 0 0)).drew.cell? ⟨b, 15, none⟩ = some (.slice none 0 0) := (B7.same (j := 15) (show (dcl k aB)[15]? = some (.slice none 0 0) from rfl)).drew.cell (show (dcl k aB)[15]? = some (.slice none 0 0) from rfl)
  go_wp2_with fail
  go_region_held3 (fun w' => w'.cell? ⟨w.heap.size, 1, none⟩ = some (.func (.func 46) #[.pointer (some ⟨c1, 0, none⟩)] #[]) ∧ w'.cell? ⟨b, 15, none⟩ = some (.slice none 0 0)) (go_keep) ((go_at_call 46; refine (copied46 _ _).mono ?_; rintro e _ ⟨rfl, rfl⟩))
  obtain ⟨w8, hw⟩ : ∃ w2, (w7.setCell ⟨b, 15, none⟩ (.slice none 0 0)).drew = w2 := ⟨_, rfl⟩
  have B8 := (B7.same (j := 15) (show (dcl k aB)[15]? = some (.slice none 0 0) from rfl)).drew
  have k8 : Keep w7 (w7.setCell ⟨b, 15, none⟩ (.slice none 0 0)).drew (· = b) := Keep.drew ((Keep.refl w7 (· = b)).setCell (g := b) (fun _ => rfl) _ _)
  have T8 := T7.keep k8 (fun e => hne e.symm)
  have P8 := P7.keep k8 (fun e => hpb e)
  rw [hw] at B8 k8 T8 P8 ⊢
  clear x y rf z2 hw B7 T7 P7
  go_wp2_with fail
  go_end0
  exact ⟨rfl, B8, (((((((k1.trans k2 (fun _ _ e => .inr e)).trans k3 (fun _ _ e => .inl e)).trans k4 (fun _ _ e => .inr e)).trans k5 (fun _ _ e => .inl e)).trans k6 (fun _ _ e => e)).trans k7 (fun _ _ e => e)).trans k8 (fun _ _ e => .inl e))⟩
end Go.Proofs.YtekdalbhgdkckaaGreatDoor
