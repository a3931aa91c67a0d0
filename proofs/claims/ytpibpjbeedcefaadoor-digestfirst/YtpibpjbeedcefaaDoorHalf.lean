/- DigestFirst, the walk. -/
import Derived.Test.YtpibpjbeedcefaaDoorRFirst
import Derived.Deep.DrawnRows
import Derived.Deep.RegionHeld
namespace Go.Proofs.YtpibpjbeedcefaaDoor
open Go.RowKit

/-- The condition that is held through a region may be turned to a stronger one. -/
theorem wpAnyH_mono {P : Program} {md : Region.Mode} {ops : Array Oper} {Q : Exit → Act → World → Prop} {S S' : World → Prop} (hs : ∀ w, S' w → S w) :
    ∀ {fuel : Nat} {listed : Array Bool} {a : Act} {w : World}, wpAnyH P md ops Q S' fuel listed a w → wpAnyH P md ops Q S fuel listed a w
  | 0, _, _, _, h => h
  | _ + 1, _, _, _, h => ⟨h.1, fun i hi => wpOp_mono (fun _ w' h' => ⟨hs w' h'.1, wpAnyH_mono hs h'.2⟩) (h.2 i hi)⟩

theorem e8_n8 (l : List UInt8) (hl : l.length = 8) : e8 (n8 l) = l := by
  match l, hl with
  | [a, b, c, d, e, f, g, h], _ =>
    have ha := a.toNat_lt
    have hb := b.toNat_lt
    have hc := c.toNat_lt
    have hd := d.toNat_lt
    have he := e.toNat_lt
    have hf := f.toNat_lt
    have hg := g.toNat_lt
    have hh := h.toNat_lt
    simp only [e8, n8, List.foldl_cons, List.foldl_nil, show List.range 8 = [0, 1, 2, 3, 4, 5, 6, 7] from rfl, List.map_cons, List.map_nil, List.cons.injEq, and_true]
    refine ⟨?_, ?_, ?_, ?_, ?_, ?_, ?_, ?_⟩ <;> (apply UInt8.toNat_inj.1; simp; try omega)

theorem halves (s : List UInt8) (hs : s.length = 32) : [] ++ e8 (high s 8) ++ e8 (low s 8) = (s.drop 0).take 16 := by
  unfold high low
  rw [e8_n8 _ (by simp [hs]), e8_n8 _ (by simp [hs]), List.nil_append, List.drop_zero, show (16 : Nat) = 8 + 8 from rfl, List.take_add]
theorem n8_lt64 (l : List UInt8) : n8 (l.take 8) < 18446744073709551616 := by
  have h1 := n8_lt (l.take 8)
  have h2 : 256 ^ (l.take 8).length ≤ 256 ^ 8 := Nat.pow_le_pow_right (by decide) (by rw [List.length_take]; omega)
  omega

set_option maxRecDepth 100000 in
set_option maxHeartbeats 1000000 in
theorem half_walk (ao : Option Addr) (n cap : Nat) (bs : List UInt8) (w : World) (h : Rd w ao n cap bs) (hk : Keys w) :
    Calls Tryd.prog 6 #[.slice ao n cap] w fun e w' => e = .returned (.bool true) ∧ Below w.heap.size w w' := by
  obtain ⟨zs, Hzs⟩ : ∃ zs, Hid (zs = (List.range 32).map bz) := ⟨_, rfl⟩
  have hz27 : ∀ w : World, (zeroValue 27).run Tryd.prog w = .ok (.agg zs.toArray) w := by rw [Hzs.out]; exact (zero_of_info (n := 32) (by kernel_rfl)).1
  have HLz : Hid (((sha bs).map bval).length = zs.length) := by unfold Hid; rw [Hzs.out, List.length_map, sha_length]; simp
  have HSz : Hid ((Tryd.prog.info? 27).map (·.size) = some ((sha bs).map bval).length) := by unfold Hid; rw [List.length_map, sha_length]; exact Tryd.size27
  have hle := h.le
  have hmx := h.max
  unfold maxLen at hmx
  go_enter Tryd.func6, Tryd.ntmps6
  go_wp2_with fail
  refine (begun_any w hk).mono ?_
  rintro e w1 ⟨rfl, hb1⟩
  have h1 := h.below hb1 (Nat.le_refl _)
  have k1 := hk.below hb1 hk.lt
  clear h hk
  by_cases hbig : 1000 < n
  · go_wp2_with fail
    go_ret
    exact ⟨rfl, hb1⟩
  · go_wp2_with fail
    refine (sum_one ao n cap bs w1 h1 k1 (by omega)).mono ?_
    rintro e w2 ⟨rfl, hb2⟩
    have h2 := h1.below hb2 (Nat.le_refl _)
    have k2 := k1.below hb2 k1.lt
    have B2 := hb1.trans (hb2.mono hb1.size)
    have HS32 : Hid ((sha bs).length = 32) := sha_length bs
    clear h1 k1 hb1 hb2
    go_wp2_with (refine wpList_store_new (by rfl) 27 (.tmp 3) (.tmp 12) (by rfl) w2 zs _ (by rfl) (by rfl) HLz.out HSz.out (one_bytes _) ?_; intro w3 hS3 hb3)
    have h3 := h2.below hb3 (Nat.le_refl _)
    have k3 := k2.below hb3 k2.lt
    have B3 := B2.trans (hb3.mono B2.size)
    have l3 := hS3.lt
    have z3 := B3.size
    have z2 := B2.size
    clear h2 k2 hb3 B2
    refine (first_any ao n cap bs w3 h3 k3 (by omega)).mono ?_
    rintro e w4 ⟨rfl, hb4⟩
    have h4 := h3.below hb4 (Nat.le_refl _)
    have B4 := B3.trans (hb4.mono B3.size)
    have S4 := hS3.below hb4 l3
    have l4 := S4.lt
    obtain ⟨s, Hs⟩ : ∃ s, Hid (s = sha bs) := ⟨_, rfl⟩
    rw [← Hs.out] at S4 HS32 ⊢
    clear h3 k3 hb4 B3 hS3
    have HL2 : Hid ((hcells (high s 8) (low s 8)).length = (hcells 0 0).length) := rfl
    have HSz2 : Hid ((Tryd.prog.info? 32).map (·.size) = some (hcells (high s 8) (low s 8)).length) := Tryd.size32
    have H1 : Hid (∀ v ∈ hcells (high s 8) (low s 8), v.oneCell' = true) := by intro v hv; simp only [hcells, List.mem_cons, List.not_mem_nil, or_false] at hv; rcases hv with rfl | rfl <;> rfl
    go_wp2_with (refine wpList_store_new (by rfl) 32 (.tmp 4) (.tmp 14) (by rfl) w4 (hcells 0 0) _ (by rfl) (by rfl) HL2.out HSz2.out H1.out ?_; intro w5 hH5 hb5)
    have h5 := h4.below hb5 (Nat.le_refl _)
    have B5 := B4.trans (hb5.mono B4.size)
    have S5 := S4.below hb5 l4
    have l5 := hH5.lt
    have z5 := hb5.size
    have z4 := B4.size
    obtain ⟨gs, hgs⟩ : ∃ gs, w2.heap.size = gs := ⟨_, rfl⟩
    obtain ⟨gh, hgh⟩ : ∃ gh, w4.heap.size = gh := ⟨_, rfl⟩
    rw [hgs] at S5 l4 l3 ⊢
    rw [hgh] at hH5 l5 z5 l4 ⊢
    have Hhalf : Hid _ := halves s HS32.out
    have bhi : high s 8 < 18446744073709551616 := n8_lt64 s
    have blo : low s 8 < 18446744073709551616 := n8_lt64 (s.drop 8)
    obtain ⟨hi, Hhi⟩ : ∃ x, Hid (x = high s 8) := ⟨_, rfl⟩
    obtain ⟨lo, Hlo⟩ : ∃ x, Hid (x = low s 8) := ⟨_, rfl⟩
    rw [← Hhi.out] at hH5 Hhalf bhi
    rw [← Hlo.out] at hH5 Hhalf blo
    have HSs : Hid ((Tryd.prog.info? 27).map (·.size) = some (s.map bval).length) := by unfold Hid; rw [List.length_map, HS32.out]; exact Tryd.size27
    have heq := fun w => eql_same w s HS32.out
    have heq2 := fun w => equalIn_same w s HS32.out
    have f16 : ∀ w3, (Instr.sliceAt 27 (.pointer (some ⟨gs, 0, none⟩)) none (some (.int .i64 16)) none).run Tryd.prog w3 = .ok (.slice (some ⟨gs, 0, none⟩) 16 32) w3 := fun w3 => slice27 gs 0 16 none (.inl ⟨rfl, rfl⟩) (by decide) (by decide) (by decide) w3
    obtain ⟨txt, Htxt⟩ : ∃ t : ByteArray, Hid (t = ⟨((s.drop 0).take 16).toArray⟩) := ⟨_, rfl⟩
    clear h4 S4 B4 hb5 HL2 HSz2 H1 hz27 HLz HSz
    refine wp_region_held_drew (S := fun w' => Below w5.heap.size w5 w') (by kernel_rfl) (Below.refl _ _).drew (fun hS => ?_)
    refine wpAnyH_take (i := 0) (v := ?_) rfl (by kernel_rfl) (by kernel_rfl) (by kernel_rfl) (fun _ _ _ h => h) (Or.inl ⟨by rfl, ?_⟩) hS ?_
    rotate_left
    · (intro wq hq; go_simp; (try with_reducible rfl))
    simp only [Act.put, List.getElem_toArray, List.getElem_cons_zero, List.setIfInBounds_toArray, List.set_cons_zero, List.set_cons_succ]
    refine wpAnyH_take (i := 1) (v := Value.int .u64 (hi : Int)) rfl (by kernel_rfl) (by kernel_rfl) (by kernel_rfl) (fun _ _ _ h => h) (Or.inl ⟨by rfl, ?_⟩) hS ?_
    · (intro wq hq; have hc : wq.cell? ⟨gh, 0, none⟩ = some (.int .u64 (hi : Int)) := (hH5.below hq l5).cell rfl; go_simp)
    simp only [Act.put, List.getElem_toArray, List.getElem_cons_succ, List.getElem_cons_zero, List.setIfInBounds_toArray, List.set_cons_zero, List.set_cons_succ]
    refine wpAnyH_take (i := 3) (v := ?_) rfl (by kernel_rfl) (by kernel_rfl) (by kernel_rfl) (fun _ _ _ h => h) (Or.inl ⟨by rfl, ?_⟩) hS ?_
    rotate_left
    · (intro wq hq; go_simp; (try with_reducible rfl))
    simp only [Act.put, List.getElem_toArray, List.getElem_cons_succ, List.getElem_cons_zero, List.setIfInBounds_toArray, List.set_cons_zero, List.set_cons_succ]
    refine wpAnyH_take (i := 4) (v := Value.int .u64 (lo : Int)) rfl (by kernel_rfl) (by kernel_rfl) (by kernel_rfl) (fun _ _ _ h => h) (Or.inl ⟨by rfl, ?_⟩) hS ?_
    · (intro wq hq; have hc : wq.cell? ⟨gh, 1, none⟩ = some (.int .u64 (lo : Int)) := (hH5.below hq l5).cell rfl; go_simp)
    simp only [Act.put, List.getElem_toArray, List.getElem_cons_succ, List.getElem_cons_zero, List.setIfInBounds_toArray, List.set_cons_zero, List.set_cons_succ]
    refine wpAnyH_take (i := 7) (v := Value.slice (some ⟨gs, 0, none⟩) 16 32) rfl (by kernel_rfl) (by kernel_rfl) (by kernel_rfl) (fun _ _ _ h => h) (Or.inl ⟨by rfl, ?_⟩) hS ?_
    · (intro wq hq; have hc := f16 wq; go_simp)
    simp only [Act.put, List.getElem_toArray, List.getElem_cons_succ, List.getElem_cons_zero, List.setIfInBounds_toArray, List.set_cons_zero, List.set_cons_succ]
    refine wpAnyH_take (i := 8) (v := Value.string txt) rfl (by kernel_rfl) (by kernel_rfl) (by kernel_rfl) (fun _ _ _ h => h) (Or.inl ⟨by rfl, ?_⟩) hS ?_
    · (intro wq hq; have hcv := str_of ((S5.below hq (by omega)).piece HS32.out 0 16 32 (by decide) (by decide) (by decide)); rw [← Htxt.out] at hcv; go_simp)
    simp only [Act.put, List.getElem_toArray, List.getElem_cons_succ, List.getElem_cons_zero, List.setIfInBounds_toArray, List.set_cons_zero, List.set_cons_succ]
    refine wpAnyH_ready (rs := [2]) (by kernel_rfl) (by simp) ?_
    refine AllReadyH.cons rfl (fun K hK => ?_) AllReadyH.nil
    go_simp
    (try go_wp2_with fail)
    refine (reight_any none 0 0 [] hi _ (Rd.none' _ none) (by decide) bhi).mono ?_
    rintro e w6 ⟨g6, c6, rfl, o6, hb6⟩
    have z6 : w5.heap.size ≤ w6.heap.size := hb6.size
    have b56 : Below w5.heap.size w5 w6 := (Below.refl _ _).drew.trans hb6
    (try go_wp2_with fail)
    refine hK.out _ _ b56 (fun hS => ?_)
    clear hK K
    clear hS
    refine wpAnyH_mono (S' := fun w' => Below w6.heap.size w6 w') (fun w' h => b56.trans (h.mono z6)) ?_
    have hS := Below.refl w6.heap.size w6
    have S6 := S5.below b56 (by omega)
    have h6 := h5.below b56 (Nat.le_refl _)
    have B6 := B5.trans (b56.mono B5.size)
    have l6 := o6.lt
    have r6 := o6.rd
    clear S5 h5 B5 hb6 b56 o6
    refine wpAnyH_ready (rs := [5]) (by kernel_rfl) (by simp) ?_
    refine AllReadyH.cons rfl (fun K hK => ?_) AllReadyH.nil
    go_simp
    (try go_wp2_with fail)
    refine (reight_any _ (0 + 8) c6 _ lo _ r6 (by decide) blo).mono ?_
    rintro e w7 ⟨g7, c7, rfl, o7, hb7⟩
    have z7 := hb7.size
    (try go_wp2_with fail)
    refine hK.out _ _ hb7 (fun hS => ?_)
    clear hK K
    clear hS
    refine wpAnyH_mono (S' := fun w' => Below w7.heap.size w7 w') (fun w' h => hb7.trans (h.mono z7)) ?_
    have hS := Below.refl w7.heap.size w7
    have S7 := S6.below hb7 (by omega)
    have h7 := h6.below hb7 (Nat.le_refl _)
    have B7 := B6.trans (hb7.mono B6.size)
    have l7 := o7.lt
    rw [Hhalf.out] at o7
    clear S6 h6 B6 hb7 r6
    refine wpAnyH_take (i := 6) (v := Value.string txt) rfl (by kernel_rfl) (by kernel_rfl) (by kernel_rfl) (fun _ _ _ h => h) (Or.inl ⟨by rfl, ?_⟩) hS ?_
    · (intro wq hq; have hcv := str_of (o7.below hq l7).rd; rw [← Htxt.out] at hcv; go_simp)
    simp only [Act.put, List.getElem_toArray, List.getElem_cons_succ, List.getElem_cons_zero, List.setIfInBounds_toArray, List.set_cons_zero, List.set_cons_succ]
    clear o7 Hhalf Htxt
    refine wpAnyH_take (i := 9) (v := ?_) rfl (by kernel_rfl) (by kernel_rfl) (by kernel_rfl) (fun _ _ _ h => h) (Or.inl ⟨by rfl, ?_⟩) hS ?_
    rotate_left
    · (intro wq hq; go_simp; (try with_reducible rfl))
    simp only [Act.put, List.getElem_toArray, List.getElem_cons_succ, List.getElem_cons_zero, List.setIfInBounds_toArray, List.set_cons_zero, List.set_cons_succ]
    refine wpAnyH_take (i := 10) (v := ?_) rfl (by kernel_rfl) (by kernel_rfl) (by kernel_rfl) (fun _ _ _ h => h) (Or.inl ⟨by rfl, ?_⟩) hS ?_
    rotate_left
    · (intro wq hq; go_simp; (try with_reducible rfl))
    simp only [Act.put, List.getElem_toArray, List.getElem_cons_succ, List.getElem_cons_zero, List.setIfInBounds_toArray, List.set_cons_zero, List.set_cons_succ]
    refine wpAnyH_take (i := 11) (v := ?_) rfl (by kernel_rfl) (by kernel_rfl) (by kernel_rfl) (fun _ _ _ h => h) (Or.inl ⟨by rfl, ?_⟩) hS ?_
    rotate_left
    · (intro wq hq; go_simp; (try with_reducible rfl))
    simp only [Act.put, List.getElem_toArray, List.getElem_cons_succ, List.getElem_cons_zero, List.setIfInBounds_toArray, List.set_cons_zero, List.set_cons_succ]
    refine wpAnyH_take (i := 13) (v := .agg (s.map bval).toArray) rfl (by kernel_rfl) (by kernel_rfl) (by kernel_rfl) (fun _ _ _ h => h) (yieldsIf_load_mid (by rfl) _ _ rfl gs 0 rfl _ _ (fun wq hq => (S7.below hq (by omega)).whole) Tryd.underlying27 rfl HSs.out) hS ?_
    simp only [Act.put, List.getElem_toArray, List.getElem_cons_succ, List.getElem_cons_zero, List.setIfInBounds_toArray, List.set_cons_zero, List.set_cons_succ]
    refine wpAnyH_ready (rs := [12]) (by kernel_rfl) (by simp) ?_
    refine AllReadyH.cons rfl (fun K hK => ?_) AllReadyH.nil
    go_simp
    (try go_wp2_with fail)
    refine (one_any ao n cap bs _ h7 (by omega)).mono ?_
    rintro e w8 ⟨rfl, hb8⟩
    have z8 := hb8.size
    rw [← Hs.out]
    (try go_wp2_with fail)
    refine hK.out _ _ hb8 (fun hS => ?_)
    clear hK K
    clear hS
    refine wpAnyH_mono (S' := fun w' => Below w8.heap.size w8 w') (fun w' h => hb8.trans (h.mono z8)) ?_
    have hS := Below.refl w8.heap.size w8
    have B8 := B7.trans (hb8.mono B7.size)
    clear S7 h7 B7 hb8
    generalize s.map bval = cs at heq heq2 ⊢
    refine wpAnyH_take (i := 14) (v := ?_) rfl (by kernel_rfl) (by kernel_rfl) (by kernel_rfl) (fun _ _ _ h => h) (Or.inl ⟨by rfl, ?_⟩) hS ?_
    rotate_left
    · (intro wq hq; go_simp; (try with_reducible rfl))
    simp only [Act.put, List.getElem_toArray, List.getElem_cons_succ, List.getElem_cons_zero, List.setIfInBounds_toArray, List.set_cons_zero, List.set_cons_succ]
    refine wpAnyH_take (i := 15) (v := ?_) rfl (by kernel_rfl) (by kernel_rfl) (by kernel_rfl) (fun _ _ _ h => h) (Or.inl ⟨by rfl, ?_⟩) hS ?_
    rotate_left
    · (intro wq hq; go_simp; (try with_reducible rfl))
    simp only [Act.put, List.getElem_toArray, List.getElem_cons_succ, List.getElem_cons_zero, List.setIfInBounds_toArray, List.set_cons_zero, List.set_cons_succ]
    refine wpAnyH_take (i := 16) (v := ?_) rfl (by kernel_rfl) (by kernel_rfl) (by kernel_rfl) (fun _ _ _ h => h) (Or.inl ⟨by rfl, ?_⟩) hS ?_
    rotate_left
    · (intro wq hq; go_simp; (try with_reducible rfl))
    simp only [Act.put, List.getElem_toArray, List.getElem_cons_succ, List.getElem_cons_zero, List.setIfInBounds_toArray, List.set_cons_zero, List.set_cons_succ]
    refine wpAnyH_done (by kernel_rfl) ?_ _
    go_wp2_with fail
    go_ret
    exact ⟨rfl, B8⟩
end Go.Proofs.YtpibpjbeedcefaaDoor
