/- The walk of env's apart, of one declaration without lists, with same. No condition but that the declaration has no lists. -/
import Derived.Test.YtekdalbhgdkckaaGreatDoorE9a
import Derived.Deep.CutBlock
namespace Go.Proofs.YtekdalbhgdkckaaGreatDoor
open Go.RowKit

set_option maxRecDepth 100000 in
set_option maxHeartbeats 2000000 in
theorem apart_any (pl cap b : Nat) (k : Int) (s : ByteArray) (w : World) (hp : w.cell? ⟨pl, 0, none⟩ = some (.pointer (some ⟨b, 0, none⟩))) (hB : Blk w b 32 (dcl k s)) :
    Calls Tryz.prog 27 #[.slice (some ⟨pl, 0, none⟩) 1 cap, .agg #[.int .i64 0, .int .i64 0, .int .i64 0], .func (.func 22) #[] #[]] w fun e w' => ∃ o, e = .returned (.slice (some ⟨o, 0, none⟩) 1 1) ∧ Blk w' o 32 (dcl k s) ∧ w.heap.size ≤ o ∧ Below w.heap.size w w' := by
  have hrs : ∀ (w : World) (a : Addr) (f : Nat) (x : Value), (store a (Value.func (Fn.func f) #[x] #[])).run Tryz.prog w = _ := fun w a f x => run_store Tryz.prog w a (.func (.func f) #[x] #[]) .plain rfl
  have hrs0 : ∀ (w : World) (a : Addr) (f : Nat), (store a (Value.func (Fn.func f) #[] #[])).run Tryz.prog w = _ := fun w a f => run_store Tryz.prog w a (.func (.func f) #[] #[]) .plain rfl
  have hmk : ∀ w : World, (Instr.makeSlice 39 (.int .i64 1) (.int .i64 1)).run Tryz.prog w = .ok (.slice (some ⟨w.heap.size, 0, none⟩) 1 1) (w.alloc (.cells (dcl 0 ⟨#[]⟩).toArray 32)) := fun w => by kernel_rfl
  obtain ⟨w1, hw1, hb1, W1, hs1⟩ := new_oneE w [.int .i64 0, .int .i64 0, .int .i64 0] 64
  have H1 : Hid _ := hw1
  clear hw1
  have y0 := W1.cell (j := 0) rfl
  have y1 := W1.cell (j := 1) rfl
  have y2 := W1.cell (j := 2) rfl
  have FS : Hid (∀ w2, Below w1.heap.size w1.drew w2 → w2.cell? ⟨w.heap.size, 0, none⟩ = some (.int .i64 0) ∧ w2.cell? ⟨w.heap.size, 1, none⟩ = some (.int .i64 0) ∧ w2.cell? ⟨w.heap.size, 2, none⟩ = some (.int .i64 0)) := fun w2 hb => by
    have W2 := W1.drew.on (show Below w1.drew.heap.size w1.drew w2 from hb)
    exact ⟨W2.cell (j := 0) rfl, W2.cell (j := 1) rfl, W2.cell (j := 2) rfl⟩

  go_enter Tryz.func27, Tryz.ntmps27
  go_wp2_with fail
  rw [H1.out]
  go_region_held3 (fun w' => w'.cell? ⟨w.heap.size, 0, none⟩ = some (.int .i64 0) ∧ w'.cell? ⟨w.heap.size, 1, none⟩ = some (.int .i64 0) ∧ w'.cell? ⟨w.heap.size, 2, none⟩ = some (.int .i64 0)) (go_keep) ((first
    | (go_at_call 43; refine (slab43 w1.drew).mono ?_; rintro e w2 ⟨c1, rfl, S2, hb2⟩; obtain ⟨z0, z1, z2⟩ := FS.out w2 hb2)
    | (go_at_call 44; refine (slab44 w2).mono ?_; rintro e w3 ⟨c2, rfl, S3, hb3⟩; obtain ⟨z0', z1', z2'⟩ := FS.out w3 (hb2.trans (hb3.mono hb2.size)))
    | (go_at_call 45; refine (slab45 w3).mono ?_; rintro e w4 ⟨c3, rfl, S4, hb4⟩; obtain ⟨z0'', z1'', z2''⟩ := FS.out w4 ((hb2.trans (hb3.mono hb2.size)).trans (hb4.mono (Nat.le_trans hb2.size hb3.size))))))
  have bel4 : Below w.heap.size w w4 := hb1.trans (((Below.drew (Below.refl w1.heap.size w1)).trans ((hb2.trans (hb3.mono hb2.size)).trans (hb4.mono (Nat.le_trans hb2.size hb3.size)))).mono hb1.size)
  have lw : w.heap.size < w4.heap.size := by have := hb2.size; have := hb3.size; have := hb4.size; have e : w1.drew.heap.size = w1.heap.size := rfl; omega
  have SA := (S2.on hb3).on hb4
  have SB := S3.on hb4
  clear FS z0 z1 z2 z0' z1' z2' z0'' z1'' z2'' y0 y1 y2 W1 S2 S3 H1
  have B4 := hB.on bel4

  have p4 := (World.cell?_of_block (w := w) (w' := w4) (bel4.block pl (World.block_lt_of_cell? w _ hp))).trans hp
  have sA : w.heap.size ≤ c1 := Nat.le_trans hb1.size SA.new
  have sB : w.heap.size ≤ c2 := Nat.le_trans (Nat.le_trans hb1.size hb2.size) SB.new
  have sC : w.heap.size ≤ c3 := Nat.le_trans (Nat.le_trans (Nat.le_trans hb1.size hb2.size) hb3.size) S4.new
  have cA : c1 < w4.heap.size := by obtain ⟨_, _, h⟩ := SA.is; exact h.lt
  have cB : c2 < w4.heap.size := by obtain ⟨_, _, h⟩ := SB.is; exact h.lt
  have cC : c3 < w4.heap.size := by obtain ⟨_, _, h⟩ := S4.is; exact h.lt
  have lb4 := hB.lt

  obtain ⟨w5, hw5, hb5, T5, hs5⟩ := new_oneE w4 (turnV (.func (.func 22) #[] #[]) c1 c2 c3) 112
  obtain ⟨w6, hw6, hb6, O6, hs6⟩ := new_oneE w5 (dcl 0 ⟨#[]⟩) 32
  rw [hs5] at O6 hs6
  have H6 : Hid _ := hw6
  have bel6 : Below w4.heap.size w4 w6 := hb5.trans (hb6.mono hb5.size)
  have T6 := T5.on hb6
  have B6 := B4.on bel6

  have p6 := (World.cell?_of_block (w := w4) (w' := w6) (bel6.block pl (World.block_lt_of_cell? w4 _ p4))).trans p4
  have SA6 := SA.on bel6
  have SB6 := SB.on bel6
  have SC6 := S4.on bel6
  have H5 : Hid _ := hw5
  unfold turnV at H5
  clear hw5 hw6 hb5 hb6 T5 SA SB S4 p4 B4 hp hB hb2 hb3 hb4 hb1 hs1
  go_wp2_with fail
  rw [H5.out, H6.out]
  clear hmk
  go_loopw [36] (fun v36 wr => (v36 = .int .i64 0 ∧ wr = w6) ∨ (v36 = .int .i64 1 ∧ Hid (Blk wr (w4.heap.size + 1) 32 (dcl k s) ∧ Keep w6 wr (· = w4.heap.size + 1)))) (fun v36 _ => 1 - (intOf v36).toNat)
  case atStart => exact .inl ⟨rfl, rfl⟩
  case round =>
    rcases hrel with ⟨rfl, rfl⟩ | ⟨rfl, hF⟩
    · have y0 := B6.cell (j := 0) rfl
      have y1 := B6.cell (j := 1) rfl
      have y2 := B6.cell (j := 2) rfl
      have y3 := B6.cell (j := 3) rfl
      have y4 := B6.cell (j := 4) rfl
      have y5 := B6.cell (j := 5) rfl
      have y6 := B6.cell (j := 6) rfl
      have y7 := B6.cell (j := 7) rfl
      have y8 := B6.cell (j := 8) rfl
      have y9 := B6.cell (j := 9) rfl
      have y10 := B6.cell (j := 10) rfl
      have y11 := B6.cell (j := 11) rfl
      have y12 := B6.cell (j := 12) rfl
      have y13 := B6.cell (j := 13) rfl
      have y14 := B6.cell (j := 14) rfl
      have y15 := B6.cell (j := 15) rfl
      have o0 := O6.cell (j := 0) rfl
      have o1 := O6.cell (j := 1) rfl
      have o2 := O6.cell (j := 2) rfl
      have o3 := O6.cell (j := 3) rfl
      have o4 := O6.cell (j := 4) rfl
      have o5 := O6.cell (j := 5) rfl
      have o6 := O6.cell (j := 6) rfl
      have o7 := O6.cell (j := 7) rfl
      have o8 := O6.cell (j := 8) rfl
      have o9 := O6.cell (j := 9) rfl
      have o10 := O6.cell (j := 10) rfl
      have o11 := O6.cell (j := 11) rfl
      have o12 := O6.cell (j := 12) rfl
      have o13 := O6.cell (j := 13) rfl
      have o14 := O6.cell (j := 14) rfl
      have o15 := O6.cell (j := 15) rfl
      have f0 := O6.frozen 0
      have f1 := O6.frozen 1
      have f2 := O6.frozen 2
      have f3 := O6.frozen 3
      have f4 := O6.frozen 4
      have f5 := O6.frozen 5
      have f6 := O6.frozen 6
      have f7 := O6.frozen 7
      have f8 := O6.frozen 8
      have f9 := O6.frozen 9
      have f10 := O6.frozen 10
      have f11 := O6.frozen 11
      have f12 := O6.frozen 12
      have f13 := O6.frozen 13
      have f14 := O6.frozen 14
      have f15 := O6.frozen 15
      have O7 : Blk _ (w4.heap.size + 1) 32 (dcl k s) := ((((((((((((((((O6.set 0 (.int .i64 k)).set 1 (.int .i64 0)).set 2 (.int .i64 0)).set 3 (.string s)).set 4 (.string ⟨#[]⟩)).set 5 (.int .i64 0)).set 6 (.int .i64 0)).set 7 (.string ⟨#[]⟩)).set 8 (.slice none 0 0)).set 9 (.slice none 0 0)).set 10 (.int .i64 0)).set 11 (.int .i64 0)).set 12 (.string ⟨#[]⟩)).set 13 (.slice none 0 0)).set 14 (.slice none 0 0)).set 15 (.slice none 0 0))
      have k7 : Keep wr _ (· = w4.heap.size + 1) := (((((((((((((((((Keep.refl wr (· = w4.heap.size + 1)).setCell (g := w4.heap.size + 1) (fun _ => rfl) 0 (.int .i64 k)).setCell (g := w4.heap.size + 1) (fun _ => rfl) 1 (.int .i64 0)).setCell (g := w4.heap.size + 1) (fun _ => rfl) 2 (.int .i64 0)).setCell (g := w4.heap.size + 1) (fun _ => rfl) 3 (.string s)).setCell (g := w4.heap.size + 1) (fun _ => rfl) 4 (.string ⟨#[]⟩)).setCell (g := w4.heap.size + 1) (fun _ => rfl) 5 (.int .i64 0)).setCell (g := w4.heap.size + 1) (fun _ => rfl) 6 (.int .i64 0)).setCell (g := w4.heap.size + 1) (fun _ => rfl) 7 (.string ⟨#[]⟩)).setCell (g := w4.heap.size + 1) (fun _ => rfl) 8 (.slice none 0 0)).setCell (g := w4.heap.size + 1) (fun _ => rfl) 9 (.slice none 0 0)).setCell (g := w4.heap.size + 1) (fun _ => rfl) 10 (.int .i64 0)).setCell (g := w4.heap.size + 1) (fun _ => rfl) 11 (.int .i64 0)).setCell (g := w4.heap.size + 1) (fun _ => rfl) 12 (.string ⟨#[]⟩)).setCell (g := w4.heap.size + 1) (fun _ => rfl) 13 (.slice none 0 0)).setCell (g := w4.heap.size + 1) (fun _ => rfl) 14 (.slice none 0 0)).setCell (g := w4.heap.size + 1) (fun _ => rfl) 15 (.slice none 0 0))
      obtain ⟨w7, hw7⟩ : ∃ w7, ((((((((((((((((wr.setCell ⟨w4.heap.size + 1, 0, none⟩ (.int .i64 k)).setCell ⟨w4.heap.size + 1, 1, none⟩ (.int .i64 0)).setCell ⟨w4.heap.size + 1, 2, none⟩ (.int .i64 0)).setCell ⟨w4.heap.size + 1, 3, none⟩ (.string s)).setCell ⟨w4.heap.size + 1, 4, none⟩ (.string ⟨#[]⟩)).setCell ⟨w4.heap.size + 1, 5, none⟩ (.int .i64 0)).setCell ⟨w4.heap.size + 1, 6, none⟩ (.int .i64 0)).setCell ⟨w4.heap.size + 1, 7, none⟩ (.string ⟨#[]⟩)).setCell ⟨w4.heap.size + 1, 8, none⟩ (.slice none 0 0)).setCell ⟨w4.heap.size + 1, 9, none⟩ (.slice none 0 0)).setCell ⟨w4.heap.size + 1, 10, none⟩ (.int .i64 0)).setCell ⟨w4.heap.size + 1, 11, none⟩ (.int .i64 0)).setCell ⟨w4.heap.size + 1, 12, none⟩ (.string ⟨#[]⟩)).setCell ⟨w4.heap.size + 1, 13, none⟩ (.slice none 0 0)).setCell ⟨w4.heap.size + 1, 14, none⟩ (.slice none 0 0)).setCell ⟨w4.heap.size + 1, 15, none⟩ (.slice none 0 0)) = w7 := ⟨_, rfl⟩
      rw [hw7] at O7 k7
      have H7 : Hid _ := hw7
      have T7 := T6.keep k7 (fun e => by omega)

      clear hw7 B6 O6 SA6 SB6 SC6
      go_upto_region 8 with fail
      rw [H7.out]
      clear H7 y0 o0 f0 y1 o1 f1 y2 o2 f2 y3 o3 f3 y4 o4 f4 y5 o5 f5 y6 o6 f6 y7 o7 f7 y8 o8 f8 y9 o9 f9 y10 o10 f10 y11 o11 f11 y12 o12 f12 y13 o13 f13 y14 o14 f14 y15 o15 f15 p6
      have cT := tdecl_any c1 c2 c3 (w4.heap.size + 1) k s w7.drew O7.drew
      unfold turnV at cT
      have x0 := T7.cell (j := 0) rfl
      have x1 := T7.cell (j := 1) rfl
      have x2 := T7.cell (j := 2) rfl
      have x3 := T7.cell (j := 3) rfl
      have FT : Hid (∀ w2, Keep w7.drew w2 (· = w4.heap.size + 1) → w2.cell? ⟨w4.heap.size, 0, none⟩ = some (.func (.func 22) #[] #[]) ∧ w2.cell? ⟨w4.heap.size, 1, none⟩ = some (.func (.func 46) #[.pointer (some ⟨c1, 0, none⟩)] #[]) ∧ w2.cell? ⟨w4.heap.size, 2, none⟩ = some (.func (.func 47) #[.pointer (some ⟨c2, 0, none⟩)] #[]) ∧ w2.cell? ⟨w4.heap.size, 3, none⟩ = some (.func (.func 48) #[.pointer (some ⟨c3, 0, none⟩)] #[])) := fun w2 hk => by
        have T2 := T7.drew.keep hk (fun e => by omega)
        exact ⟨T2.cell (j := 0) rfl, T2.cell (j := 1) rfl, T2.cell (j := 2) rfl, T2.cell (j := 3) rfl⟩
      go_region_held3 (fun w' => w'.cell? ⟨w4.heap.size, 0, none⟩ = some (.func (.func 22) #[] #[]) ∧ w'.cell? ⟨w4.heap.size, 1, none⟩ = some (.func (.func 46) #[.pointer (some ⟨c1, 0, none⟩)] #[]) ∧ w'.cell? ⟨w4.heap.size, 2, none⟩ = some (.func (.func 47) #[.pointer (some ⟨c2, 0, none⟩)] #[]) ∧ w'.cell? ⟨w4.heap.size, 3, none⟩ = some (.func (.func 48) #[.pointer (some ⟨c3, 0, none⟩)] #[])) (go_keep) ((go_at_call 49; refine cT.mono ?_; rintro e w8 ⟨rfl, O8, kd8⟩; obtain ⟨z0, z1, z2, z3⟩ := FT.out w8 kd8))
      have k8 : Keep wr w8 (· = w4.heap.size + 1) := (k7).trans ((Keep.drew (Keep.refl w7 (· = w4.heap.size + 1))).trans kd8 (fun _ _ e => e)) (fun _ _ e => e)
      clear cT x0 x1 x2 x3 FT z0 z1 z2 z3 T7 kd8 k7 O7
      go_wp2_with fail
      go_roundw
      case rel => exact .inr ⟨rfl, O8, k8⟩
      case measure => simp [intOf]
    · have kF := hF.out.2
      have Tr' := T6.keep kF (fun e => by omega)
      obtain ⟨a1, g1, S1⟩ := SA6.is
      obtain ⟨a2, g2, S2⟩ := SB6.is
      obtain ⟨a3, g3, S3⟩ := SC6.is
      have S1r := S1.keep kF (fun e => by omega)
      have S2r := S2.keep kF (fun e => by omega)
      have S3r := S3.keep kF (fun e => by omega)
      have x0 := Tr'.cell (j := 0) rfl
      have x1 := Tr'.cell (j := 1) rfl
      have x2 := Tr'.cell (j := 2) rfl
      have x3 := Tr'.cell (j := 3) rfl
      have FIN : Hid (Blk wr (w4.heap.size + 1) 32 (dcl k s) ∧ Below w.heap.size w wr) := ⟨hF.out.1, (bel4.trans (bel6.mono (Nat.le_of_lt lw))).trans (kF.below (by have := bel6.size; omega) (fun j e => by omega))⟩
      clear hF kF T6 Tr' SA6 SB6 SC6 S1 S2 S3 B6 O6 p6 bel4 bel6 
      go_wp2_with (first
        | (go_at_call 50; refine (sfin50 c1 _ _ _ wr S1r).mono ?_; rintro e _ ⟨rfl, rfl⟩)
        | (go_at_call 52; refine (sfin52 c2 _ _ _ wr S2r).mono ?_; rintro e _ ⟨rfl, rfl⟩)
        | (go_at_call 54; refine (sfin54 c3 _ _ _ wr S3r).mono ?_; rintro e _ ⟨rfl, rfl⟩))
      go_ret
      exact ⟨w4.heap.size + 1, rfl, FIN.out.1, by omega, FIN.out.2⟩
end Go.Proofs.YtekdalbhgdkckaaGreatDoor
