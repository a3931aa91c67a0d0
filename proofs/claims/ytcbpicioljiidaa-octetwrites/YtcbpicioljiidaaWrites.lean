/- OctetWrites, the walk: how numbers and texts are written behind bytes. -/
import Derived.Test.YtcbpicioljiidaaReads
import Derived.Deep.DrawnRows
namespace Go.Proofs.Ytcbpicioljiidaa
open Go.RowKit

theorem spoil_own {B : Nat} {w : World} {g n cap : Nat} {bs : List UInt8} (h : Own 5 B w g n cap bs) :
    Calls Try.prog 18 #[.slice (some ⟨g, 0, none⟩) n cap] w fun e w' => e = .returned (.tuple #[]) ∧ w.grownBy w' (some g) := by
  obtain ⟨l, hr, hl⟩ := h.rowIs
  exact spoil_any g n cap l w hr hl h.max

/-- The condition that is held through a region may be turned to a stronger one. -/
theorem wpAnyH_mono {P : Program} {md : Region.Mode} {ops : Array Oper} {Q : Exit → Act → World → Prop} {S S' : World → Prop} (hs : ∀ w, S' w → S w) :
    ∀ {fuel : Nat} {listed : Array Bool} {a : Act} {w : World}, wpAnyH P md ops Q S' fuel listed a w → wpAnyH P md ops Q S fuel listed a w
  | 0, _, _, _, h => h
  | _ + 1, _, _, _, h => ⟨h.1, fun i hi => wpOp_mono (fun _ w' h' => ⟨hs w' h'.1, wpAnyH_mono hs h'.2⟩) (h.2 i hi)⟩

set_option maxRecDepth 100000 in
set_option maxHeartbeats 1000000 in
theorem writes_walk (bo : Option Addr) (n cap : Nat) (bs : List UInt8) (so : Option Addr) (m scap : Nat) (ss : List UInt8) (v : Nat) (w : World) (h : Rd w bo n cap bs) (hs : Rd w so m scap ss) (hv : v < 18446744073709551616) :
    Calls Try.prog 3 #[.slice bo n cap, .slice so m scap, .int .u64 (v : Int)] w fun e w' => e = .returned (.bool true) ∧ Below w.heap.size w w' := by
  have hle := h.le
  have hmax := h.max
  have sle := hs.le
  have smax := hs.max
  unfold maxLen at hmax smax
  by_cases h1 : 65536 < n
  · go_enter Try.func3, Try.ntmps3
    go_wp2_with (go_at_call 9; refine (begun_any _).mono ?_; rintro e w0 ⟨rfl, hb0⟩)
    go_ret
    exact ⟨rfl, hb0⟩
  · by_cases h2 : 65536 < m
    · go_enter Try.func3, Try.ntmps3
      go_wp2_with (go_at_call 9; refine (begun_any _).mono ?_; rintro e w0 ⟨rfl, hb0⟩)
      go_ret
      exact ⟨rfl, hb0⟩
    · have HL : Hid (bs.length = n) := h.len
      have HM : Hid (ss.length = m) := hs.len
      have hvl := Lib.uvarint_length64 hv
      have hml := Lib.uvarint_length64 (x := m) (by omega)
      go_enter Try.func3, Try.ntmps3
      go_wp2_with (go_at_call 9; refine (begun_any _).mono ?_; rintro e w0 ⟨rfl, hb0⟩)
      have r0 := h.below hb0 (Nat.le_refl _)
      have s0 := hs.below hb0 (Nat.le_refl _)
      have z0 := hb0.size
      refine (twin_any bo n cap bs _ r0 (by omega)).mono ?_
      rintro e w1 ⟨rfl, hrow, hb1⟩
      have z1 := hb1.size
      have l1 := hrow.lt
      have s1 := s0.below hb1 (Nat.le_refl _)
      go_wp2_with fail
      refine (twin_any so m scap ss _ s1 (by omega)).mono ?_
      rintro e w2 ⟨rfl, hrow2, hb2⟩
      have z2 := hb2.size
      have l2 := hrow2.lt
      have b2 := (hb0.trans (hb1.mono z0)).trans (hb2.mono (by omega))
      have row1 := hrow.carry (hb2.block w0.heap.size l1)
      generalize w0.heap.size = gt at *
      generalize w1.heap.size = gu at *
      clear r0 s0 s1 hb0 hb1 hb2 hrow
      go_wp2_with fail
      go_loopw [9] (fun i wr => ∃ k : Nat, k ≤ 2 ∧ i = .int .i64 (k : Int) ∧ RowIs wr gt (twinRow bs) ∧ RowIs wr gu (twinRow ss) ∧ w2.heap.size ≤ wr.heap.size ∧ Below w.heap.size w wr) (fun i _ => 2 - (intOf i).toNat)
      case atStart => exact ⟨0, by omega, rfl, row1, hrow2, Nat.le_refl _, b2⟩
      case round =>
        clear row1 hrow2 b2
        obtain ⟨k, hk, rfl, row1, row2, zr, hb⟩ := hrel
        by_cases hlt : k < 2
        · have t1 := twin_rd row1 HL.out (by omega)
          have u1 := twin_rd row2 HM.out (by omega)
          have lt1 := row1.lt
          have lt2 := row2.lt
          go_wp2_with fail
          refine (var_any _ n (n + 3) bs v _ t1 (by omega) hv).mono ?_
          rintro e w3 ⟨g3, c3, rfl, o3, hb3⟩
          have z3 := hb3.size
          have t3 := t1.below hb3 (Nat.le_refl _)
          have u3 := u1.below hb3 (Nat.le_refl _)
          have b3 := hb.trans (hb3.mono (by omega))
          go_wp2_with fail
          refine (text_any _ n (n + 3) bs _ m (m + 3) ss _ t3 u3 (by omega) (by omega)).mono ?_
          rintro e w4 ⟨g4, c4, rfl, o4, hb4⟩
          have z4 := hb4.size
          have t4 := t3.below hb4 (Nat.le_refl _)
          have b4 := b3.trans (hb4.mono (by omega))
          go_wp2_with fail
          refine (eight_any _ n (n + 3) bs v _ t4 (by omega) hv).mono ?_
          rintro e w5 ⟨g5, c5, rfl, o5, hb5⟩
          have z5 := hb5.size
          have b5 := b4.trans (hb5.mono (by omega))
          have l3 := o3.lt
          have l4 := o4.lt
          have l5 := o5.lt
          have n3 := o3.new
          have n4 := o4.new
          have n5 := o5.new
          have p3 := (o3.below hb4 l3).below hb5 (by omega)
          have p4 := o4.below hb5 l4
          have row5 := ((row1.carry (hb3.block gt lt1)).carry (hb4.block gt (by omega))).carry (hb5.block gt (by omega))
          have rou5 := ((row2.carry (hb3.block gu lt2)).carry (hb4.block gu (by omega))).carry (hb5.block gu (by omega))
          have r5 := h.below b5 (Nat.le_refl _)
          have s5 := hs.below b5 (Nat.le_refl _)
          clear t1 u1 t3 u3 t4 hb3 hb4 hb5 b3 b4 row1 row2 o3 o4
          go_wp2_with fail
          refine wp_region_held_drew (S := fun w' => Below w5.heap.size w5 w') (by kernel_rfl) (Below.refl _ _).drew (fun hS => ?_)
          refine wpAnyH_take (i := 0) (v := ?_) rfl (by kernel_rfl) (by kernel_rfl) (by kernel_rfl) (fun _ _ _ h => h) (Or.inl ⟨by rfl, ?_⟩) hS ?_
          rotate_left
          · (intro wq hq; go_simp; (try with_reducible rfl))
          simp only [Act.put, List.getElem_toArray, List.getElem_cons_zero, List.setIfInBounds_toArray, List.set_cons_zero, List.set_cons_succ]
          refine wpAnyH_take (i := 1) (v := Value.string ⟨(bs ++ Lib.uvarint v).toArray⟩) rfl (by kernel_rfl) (by kernel_rfl) (by kernel_rfl) (fun _ _ _ h => h) (Or.inl ⟨by rfl, ?_⟩) hS ?_
          · (intro wq hq; have hcv := str_of (p3.below hq (by omega)).rd; go_simp)
          simp only [Act.put, List.getElem_toArray, List.getElem_cons_succ, List.getElem_cons_zero, List.setIfInBounds_toArray, List.set_cons_zero, List.set_cons_succ]
          refine wpAnyH_take (i := 2) (v := ?_) rfl (by kernel_rfl) (by kernel_rfl) (by kernel_rfl) (fun _ _ _ h => h) (Or.inl ⟨by rfl, ?_⟩) hS ?_
          rotate_left
          · (intro wq hq; go_simp; (try with_reducible rfl))
          simp only [Act.put, List.getElem_toArray, List.getElem_cons_succ, List.getElem_cons_zero, List.setIfInBounds_toArray, List.set_cons_zero, List.set_cons_succ]
          refine wpAnyH_take (i := 3) (v := ?_) rfl (by kernel_rfl) (by kernel_rfl) (by kernel_rfl) (fun _ _ _ h => h) (Or.inl ⟨by rfl, ?_⟩) hS ?_
          rotate_left
          · (intro wq hq; go_simp; (try with_reducible rfl))
          simp only [Act.put, List.getElem_toArray, List.getElem_cons_succ, List.getElem_cons_zero, List.setIfInBounds_toArray, List.set_cons_zero, List.set_cons_succ]
          refine wpAnyH_ready (rs := [4]) (by kernel_rfl) (by simp) ?_
          refine AllReadyH.cons rfl (fun K hK => ?_) AllReadyH.nil
          go_simp
          (try go_wp2_with fail)
          refine (rvar_any bo n cap bs v _ r5.drew (by omega) hv).mono ?_
          rintro e w6 ⟨g6, c6, rfl, o6, hb6⟩
          have z6 : w5.heap.size ≤ w6.heap.size := hb6.size
          have b56 : Below w5.heap.size w5 w6 := (Below.refl _ _).drew.trans hb6
          (try go_wp2_with fail)
          refine hK.out _ _ b56 (fun hS => ?_)
          clear hK K
          clear hS
          refine wpAnyH_mono (S' := fun w' => Below w6.heap.size w6 w') (fun w' h => b56.trans (h.mono z6)) ?_
          have hS := Below.refl w6.heap.size w6
          have p36 := p3.below b56 (by omega)
          have p46 := p4.below b56 (by omega)
          have p56 := o5.below b56 (by omega)
          have r6 := r5.below b56 (Nat.le_refl _)
          have s6 := s5.below b56 (Nat.le_refl _)
          have row6 := row5.carry (b56.block gt (by omega))
          have rou6 := rou5.carry (b56.block gu (by omega))
          have b6 := b5.trans (b56.mono (by omega))
          have l6 := o6.lt
          clear p3 p4 o5 r5 s5 row5 rou5 b5 hb6 b56
          refine wpAnyH_take (i := 5) (v := Value.string ⟨(bs ++ Lib.uvarint v).toArray⟩) rfl (by kernel_rfl) (by kernel_rfl) (by kernel_rfl) (fun _ _ _ h => h) (Or.inl ⟨by rfl, ?_⟩) hS ?_
          · (intro wq hq; have hcv := str_of (o6.below hq (by omega)).rd; go_simp)
          simp only [Act.put, List.getElem_toArray, List.getElem_cons_succ, List.getElem_cons_zero, List.setIfInBounds_toArray, List.set_cons_zero, List.set_cons_succ]
          refine wpAnyH_take (i := 6) (v := ?_) rfl (by kernel_rfl) (by kernel_rfl) (by kernel_rfl) (fun _ _ _ h => h) (Or.inl ⟨by rfl, ?_⟩) hS ?_
          rotate_left
          · (intro wq hq; go_simp; (try with_reducible rfl))
          simp only [Act.put, List.getElem_toArray, List.getElem_cons_succ, List.getElem_cons_zero, List.setIfInBounds_toArray, List.set_cons_zero, List.set_cons_succ]
          refine wpAnyH_take (i := 7) (v := ?_) rfl (by kernel_rfl) (by kernel_rfl) (by kernel_rfl) (fun _ _ _ h => h) (Or.inl ⟨by rfl, ?_⟩) hS ?_
          rotate_left
          · (intro wq hq; go_simp; (try with_reducible rfl))
          simp only [Act.put, List.getElem_toArray, List.getElem_cons_succ, List.getElem_cons_zero, List.setIfInBounds_toArray, List.set_cons_zero, List.set_cons_succ]
          clear o6
          refine wpAnyH_take (i := 8) (v := ?_) rfl (by kernel_rfl) (by kernel_rfl) (by kernel_rfl) (fun _ _ _ h => h) (Or.inl ⟨by rfl, ?_⟩) hS ?_
          rotate_left
          · (intro wq hq; go_simp; (try with_reducible rfl))
          simp only [Act.put, List.getElem_toArray, List.getElem_cons_succ, List.getElem_cons_zero, List.setIfInBounds_toArray, List.set_cons_zero, List.set_cons_succ]
          refine wpAnyH_take (i := 9) (v := Value.string ⟨(bs ++ Lib.uvarint m ++ ss).toArray⟩) rfl (by kernel_rfl) (by kernel_rfl) (by kernel_rfl) (fun _ _ _ h => h) (Or.inl ⟨by rfl, ?_⟩) hS ?_
          · (intro wq hq; have hcv := str_of (p46.below hq (by omega)).rd; go_simp)
          simp only [Act.put, List.getElem_toArray, List.getElem_cons_succ, List.getElem_cons_zero, List.setIfInBounds_toArray, List.set_cons_zero, List.set_cons_succ]
          refine wpAnyH_take (i := 10) (v := ?_) rfl (by kernel_rfl) (by kernel_rfl) (by kernel_rfl) (fun _ _ _ h => h) (Or.inl ⟨by rfl, ?_⟩) hS ?_
          rotate_left
          · (intro wq hq; go_simp; (try with_reducible rfl))
          simp only [Act.put, List.getElem_toArray, List.getElem_cons_succ, List.getElem_cons_zero, List.setIfInBounds_toArray, List.set_cons_zero, List.set_cons_succ]
          refine wpAnyH_take (i := 11) (v := ?_) rfl (by kernel_rfl) (by kernel_rfl) (by kernel_rfl) (fun _ _ _ h => h) (Or.inl ⟨by rfl, ?_⟩) hS ?_
          rotate_left
          · (intro wq hq; go_simp; (try with_reducible rfl))
          simp only [Act.put, List.getElem_toArray, List.getElem_cons_succ, List.getElem_cons_zero, List.setIfInBounds_toArray, List.set_cons_zero, List.set_cons_succ]
          refine wpAnyH_ready (rs := [12]) (by kernel_rfl) (by simp) ?_
          refine AllReadyH.cons rfl (fun K hK => ?_) AllReadyH.nil
          go_simp
          (try go_wp2_with fail)
          refine (rtext_any bo n cap bs so m scap ss _ r6 s6 (by omega) (by omega)).mono ?_
          rintro e w7 ⟨g7, c7, rfl, o7, hb7⟩
          have z7 := hb7.size
          (try go_wp2_with fail)
          refine hK.out _ _ hb7 (fun hS => ?_)
          clear hK K
          clear hS
          refine wpAnyH_mono (S' := fun w' => Below w7.heap.size w7 w') (fun w' h => hb7.trans (h.mono z7)) ?_
          have hS := Below.refl w7.heap.size w7
          have p37 := p36.below hb7 (by omega)
          have p47 := p46.below hb7 (by omega)
          have p57 := p56.below hb7 (by omega)
          have r7 := r6.below hb7 (Nat.le_refl _)
          have s7 := s6.below hb7 (Nat.le_refl _)
          have row7 := row6.carry (hb7.block gt (by omega))
          have rou7 := rou6.carry (hb7.block gu (by omega))
          have b7 := b6.trans (hb7.mono (by omega))
          have l7 := o7.lt
          clear p36 p46 p56 r6 s6 row6 rou6 b6 hb7
          refine wpAnyH_take (i := 13) (v := Value.string ⟨(bs ++ Lib.uvarint m ++ ss).toArray⟩) rfl (by kernel_rfl) (by kernel_rfl) (by kernel_rfl) (fun _ _ _ h => h) (Or.inl ⟨by rfl, ?_⟩) hS ?_
          · (intro wq hq; have hcv := str_of (o7.below hq (by omega)).rd; go_simp)
          simp only [Act.put, List.getElem_toArray, List.getElem_cons_succ, List.getElem_cons_zero, List.setIfInBounds_toArray, List.set_cons_zero, List.set_cons_succ]
          refine wpAnyH_take (i := 14) (v := ?_) rfl (by kernel_rfl) (by kernel_rfl) (by kernel_rfl) (fun _ _ _ h => h) (Or.inl ⟨by rfl, ?_⟩) hS ?_
          rotate_left
          · (intro wq hq; go_simp; (try with_reducible rfl))
          simp only [Act.put, List.getElem_toArray, List.getElem_cons_succ, List.getElem_cons_zero, List.setIfInBounds_toArray, List.set_cons_zero, List.set_cons_succ]
          refine wpAnyH_take (i := 15) (v := ?_) rfl (by kernel_rfl) (by kernel_rfl) (by kernel_rfl) (fun _ _ _ h => h) (Or.inl ⟨by rfl, ?_⟩) hS ?_
          rotate_left
          · (intro wq hq; go_simp; (try with_reducible rfl))
          simp only [Act.put, List.getElem_toArray, List.getElem_cons_succ, List.getElem_cons_zero, List.setIfInBounds_toArray, List.set_cons_zero, List.set_cons_succ]
          refine wpAnyH_take (i := 16) (v := ?_) rfl (by kernel_rfl) (by kernel_rfl) (by kernel_rfl) (fun _ _ _ h => h) (Or.inl ⟨by rfl, ?_⟩) hS ?_
          rotate_left
          · (intro wq hq; go_simp; (try with_reducible rfl))
          simp only [Act.put, List.getElem_toArray, List.getElem_cons_succ, List.getElem_cons_zero, List.setIfInBounds_toArray, List.set_cons_zero, List.set_cons_succ]
          clear o7
          refine wpAnyH_take (i := 17) (v := ?_) rfl (by kernel_rfl) (by kernel_rfl) (by kernel_rfl) (fun _ _ _ h => h) (Or.inl ⟨by rfl, ?_⟩) hS ?_
          rotate_left
          · (intro wq hq; go_simp; (try with_reducible rfl))
          simp only [Act.put, List.getElem_toArray, List.getElem_cons_succ, List.getElem_cons_zero, List.setIfInBounds_toArray, List.set_cons_zero, List.set_cons_succ]
          refine wpAnyH_take (i := 18) (v := Value.string ⟨(bs ++ e8 v).toArray⟩) rfl (by kernel_rfl) (by kernel_rfl) (by kernel_rfl) (fun _ _ _ h => h) (Or.inl ⟨by rfl, ?_⟩) hS ?_
          · (intro wq hq; have hcv := str_of (p57.below hq (by omega)).rd; go_simp)
          simp only [Act.put, List.getElem_toArray, List.getElem_cons_succ, List.getElem_cons_zero, List.setIfInBounds_toArray, List.set_cons_zero, List.set_cons_succ]
          refine wpAnyH_take (i := 19) (v := ?_) rfl (by kernel_rfl) (by kernel_rfl) (by kernel_rfl) (fun _ _ _ h => h) (Or.inl ⟨by rfl, ?_⟩) hS ?_
          rotate_left
          · (intro wq hq; go_simp; (try with_reducible rfl))
          simp only [Act.put, List.getElem_toArray, List.getElem_cons_succ, List.getElem_cons_zero, List.setIfInBounds_toArray, List.set_cons_zero, List.set_cons_succ]
          refine wpAnyH_take (i := 20) (v := ?_) rfl (by kernel_rfl) (by kernel_rfl) (by kernel_rfl) (fun _ _ _ h => h) (Or.inl ⟨by rfl, ?_⟩) hS ?_
          rotate_left
          · (intro wq hq; go_simp; (try with_reducible rfl))
          simp only [Act.put, List.getElem_toArray, List.getElem_cons_succ, List.getElem_cons_zero, List.setIfInBounds_toArray, List.set_cons_zero, List.set_cons_succ]
          refine wpAnyH_ready (rs := [21]) (by kernel_rfl) (by simp) ?_
          refine AllReadyH.cons rfl (fun K hK => ?_) AllReadyH.nil
          go_simp
          (try go_wp2_with fail)
          refine (reight_any bo n cap bs v _ r7 (by omega) hv).mono ?_
          rintro e w8 ⟨g8, c8, rfl, o8, hb8⟩
          have z8 := hb8.size
          (try go_wp2_with fail)
          refine hK.out _ _ hb8 (fun hS => ?_)
          clear hK K
          clear hS
          refine wpAnyH_mono (S' := fun w' => Below w8.heap.size w8 w') (fun w' h => hb8.trans (h.mono z8)) ?_
          have hS := Below.refl w8.heap.size w8
          have p38 := p37.below hb8 (by omega)
          have p48 := p47.below hb8 (by omega)
          have p58 := p57.below hb8 (by omega)
          have r8 := r7.below hb8 (Nat.le_refl _)
          have s8 := s7.below hb8 (Nat.le_refl _)
          have row8 := row7.carry (hb8.block gt (by omega))
          have rou8 := rou7.carry (hb8.block gu (by omega))
          have b8 := b7.trans (hb8.mono (by omega))
          have l8 := o8.lt
          clear p37 p47 p57 r7 s7 row7 rou7 b7 hb8
          refine wpAnyH_take (i := 22) (v := Value.string ⟨(bs ++ e8 v).toArray⟩) rfl (by kernel_rfl) (by kernel_rfl) (by kernel_rfl) (fun _ _ _ h => h) (Or.inl ⟨by rfl, ?_⟩) hS ?_
          · (intro wq hq; have hcv := str_of (o8.below hq (by omega)).rd; go_simp)
          simp only [Act.put, List.getElem_toArray, List.getElem_cons_succ, List.getElem_cons_zero, List.setIfInBounds_toArray, List.set_cons_zero, List.set_cons_succ]
          refine wpAnyH_take (i := 23) (v := ?_) rfl (by kernel_rfl) (by kernel_rfl) (by kernel_rfl) (fun _ _ _ h => h) (Or.inl ⟨by rfl, ?_⟩) hS ?_
          rotate_left
          · (intro wq hq; go_simp; (try with_reducible rfl))
          simp only [Act.put, List.getElem_toArray, List.getElem_cons_succ, List.getElem_cons_zero, List.setIfInBounds_toArray, List.set_cons_zero, List.set_cons_succ]
          refine wpAnyH_take (i := 24) (v := ?_) rfl (by kernel_rfl) (by kernel_rfl) (by kernel_rfl) (fun _ _ _ h => h) (Or.inl ⟨by rfl, ?_⟩) hS ?_
          rotate_left
          · (intro wq hq; go_simp; (try with_reducible rfl))
          simp only [Act.put, List.getElem_toArray, List.getElem_cons_succ, List.getElem_cons_zero, List.setIfInBounds_toArray, List.set_cons_zero, List.set_cons_succ]
          refine wpAnyH_take (i := 25) (v := ?_) rfl (by kernel_rfl) (by kernel_rfl) (by kernel_rfl) (fun _ _ _ h => h) (Or.inl ⟨by rfl, ?_⟩) hS ?_
          rotate_left
          · (intro wq hq; go_simp; (try with_reducible rfl))
          simp only [Act.put, List.getElem_toArray, List.getElem_cons_succ, List.getElem_cons_zero, List.setIfInBounds_toArray, List.set_cons_zero, List.set_cons_succ]
          clear o8
          refine wpAnyH_take (i := 26) (v := ?_) rfl (by kernel_rfl) (by kernel_rfl) (by kernel_rfl) (fun _ _ _ h => h) (Or.inl ⟨by rfl, ?_⟩) hS ?_
          rotate_left
          · (intro wq hq; go_simp; (try with_reducible rfl))
          simp only [Act.put, List.getElem_toArray, List.getElem_cons_succ, List.getElem_cons_zero, List.setIfInBounds_toArray, List.set_cons_zero, List.set_cons_succ]
          refine wpAnyH_take (i := 27) (v := ?_) rfl (by kernel_rfl) (by kernel_rfl) (by kernel_rfl) (fun _ _ _ h => h) (Or.inl ⟨by rfl, ?_⟩) hS ?_
          rotate_left
          · (intro wq hq; go_simp; (try with_reducible rfl))
          simp only [Act.put, List.getElem_toArray, List.getElem_cons_succ, List.getElem_cons_zero, List.setIfInBounds_toArray, List.set_cons_zero, List.set_cons_succ]
          refine wpAnyH_ready (rs := [28]) (by kernel_rfl) (by simp) ?_
          refine AllReadyH.cons rfl (fun K hK => ?_) AllReadyH.nil
          go_simp
          (try go_wp2_with fail)
          refine (kept_any gt n bo cap bs _ row8 r8 (by omega)).mono ?_
          rintro e w9 ⟨rfl, rfl⟩
          (try go_wp2_with fail)
          refine hK.out _ _ hS (fun hS => ?_)
          clear hK K
          refine wpAnyH_take (i := 29) (v := ?_) rfl (by kernel_rfl) (by kernel_rfl) (by kernel_rfl) (fun _ _ _ h => h) (Or.inl ⟨by rfl, ?_⟩) hS ?_
          rotate_left
          · (intro wq hq; go_simp; (try with_reducible rfl))
          simp only [Act.put, List.getElem_toArray, List.getElem_cons_succ, List.getElem_cons_zero, List.setIfInBounds_toArray, List.set_cons_zero, List.set_cons_succ]
          refine wpAnyH_take (i := 30) (v := ?_) rfl (by kernel_rfl) (by kernel_rfl) (by kernel_rfl) (fun _ _ _ h => h) (Or.inl ⟨by rfl, ?_⟩) hS ?_
          rotate_left
          · (intro wq hq; go_simp; (try with_reducible rfl))
          simp only [Act.put, List.getElem_toArray, List.getElem_cons_succ, List.getElem_cons_zero, List.setIfInBounds_toArray, List.set_cons_zero, List.set_cons_succ]
          refine wpAnyH_take (i := 31) (v := ?_) rfl (by kernel_rfl) (by kernel_rfl) (by kernel_rfl) (fun _ _ _ h => h) (Or.inl ⟨by rfl, ?_⟩) hS ?_
          rotate_left
          · (intro wq hq; go_simp; (try with_reducible rfl))
          simp only [Act.put, List.getElem_toArray, List.getElem_cons_succ, List.getElem_cons_zero, List.setIfInBounds_toArray, List.set_cons_zero, List.set_cons_succ]
          refine wpAnyH_take (i := 32) (v := ?_) rfl (by kernel_rfl) (by kernel_rfl) (by kernel_rfl) (fun _ _ _ h => h) (Or.inl ⟨by rfl, ?_⟩) hS ?_
          rotate_left
          · (intro wq hq; go_simp; (try with_reducible rfl))
          simp only [Act.put, List.getElem_toArray, List.getElem_cons_succ, List.getElem_cons_zero, List.setIfInBounds_toArray, List.set_cons_zero, List.set_cons_succ]
          refine wpAnyH_take (i := 33) (v := ?_) rfl (by kernel_rfl) (by kernel_rfl) (by kernel_rfl) (fun _ _ _ h => h) (Or.inl ⟨by rfl, ?_⟩) hS ?_
          rotate_left
          · (intro wq hq; go_simp; (try with_reducible rfl))
          simp only [Act.put, List.getElem_toArray, List.getElem_cons_succ, List.getElem_cons_zero, List.setIfInBounds_toArray, List.set_cons_zero, List.set_cons_succ]
          refine wpAnyH_ready (rs := [34]) (by kernel_rfl) (by simp) ?_
          refine AllReadyH.cons rfl (fun K hK => ?_) AllReadyH.nil
          go_simp
          (try go_wp2_with fail)
          refine (kept_any gu m so scap ss _ rou8 s8 (by omega)).mono ?_
          rintro e w9 ⟨rfl, rfl⟩
          (try go_wp2_with fail)
          refine hK.out _ _ hS (fun hS => ?_)
          clear hK K
          refine wpAnyH_take (i := 35) (v := ?_) rfl (by kernel_rfl) (by kernel_rfl) (by kernel_rfl) (fun _ _ _ h => h) (Or.inl ⟨by rfl, ?_⟩) hS ?_
          rotate_left
          · (intro wq hq; go_simp; (try with_reducible rfl))
          simp only [Act.put, List.getElem_toArray, List.getElem_cons_succ, List.getElem_cons_zero, List.setIfInBounds_toArray, List.set_cons_zero, List.set_cons_succ]
          refine wpAnyH_take (i := 36) (v := ?_) rfl (by kernel_rfl) (by kernel_rfl) (by kernel_rfl) (fun _ _ _ h => h) (Or.inl ⟨by rfl, ?_⟩) hS ?_
          rotate_left
          · (intro wq hq; go_simp; (try with_reducible rfl))
          simp only [Act.put, List.getElem_toArray, List.getElem_cons_succ, List.getElem_cons_zero, List.setIfInBounds_toArray, List.set_cons_zero, List.set_cons_succ]
          refine wpAnyH_done (by kernel_rfl) ?_ _
          go_wp2_with fail
          refine (spoil_own p38).mono ?_
          rintro e w9 ⟨rfl, k9⟩
          have z9 := k9.size
          have p49 := p48.carry (k9.block g4 (by omega) (by simp; omega))
          have p59 := p58.carry (k9.block g5 (by omega) (by simp; omega))
          have row9 := row8.carry (k9.block gt (by omega) (by simp; omega))
          have rou9 := rou8.carry (k9.block gu (by omega) (by simp; omega))
          have b9 := b8.grown k9 (by omega) (fun j hj => by simp at hj; omega)
          clear p38 p48 p58 r8 s8 row8 rou8 b8 k9
          go_wp2_with fail
          refine (spoil_own p49).mono ?_
          rintro e w10 ⟨rfl, k10⟩
          have z10 := k10.size
          have p510 := p59.carry (k10.block g5 (by omega) (by simp; omega))
          have row10 := row9.carry (k10.block gt (by omega) (by simp; omega))
          have rou10 := rou9.carry (k10.block gu (by omega) (by simp; omega))
          have b10 := b9.grown k10 (by omega) (fun j hj => by simp at hj; omega)
          clear p49 p59 row9 rou9 b9 k10
          go_wp2_with fail
          refine (spoil_own p510).mono ?_
          rintro e w11 ⟨rfl, k11⟩
          have z11 := k11.size
          have row11 := row10.carry (k11.block gt (by omega) (by simp; omega))
          have rou11 := rou10.carry (k11.block gu (by omega) (by simp; omega))
          have b11 := b10.grown k11 (by omega) (fun j hj => by simp at hj; omega)
          clear p510 row10 rou10 b10 k11
          go_wp2
          go_roundw
          case rel => exact ⟨k + 1, by omega, by go_num, row11, rou11, by omega, b11⟩
          case measure => simp [intOf]; omega
        · go_wp2
          go_ret
          exact ⟨rfl, hb⟩
end Go.Proofs.Ytcbpicioljiidaa
