/- OctetCuts, the walk: a number, a text, that is cut off is told so. -/
import Derived.Test.YtcbpicioljiidabSmall
namespace Go.Proofs.Ytcbpicioljiidab
open Go.RowKit

theorem Rd.front {w : World} {ao : Option Addr} {n cap : Nat} {bs : List UInt8} (h : Rd w ao n cap bs) (k : Nat) (hk : k ≤ n) : Rd w ao k cap (bs.take k) :=
  ⟨by have := h.len; simp; omega, Nat.le_trans hk h.le, h.max, h.nil, fun a ha j u hu => by
    have hj : j < k := by have := (List.getElem?_eq_some_iff.1 hu).1; simp at this; omega
    rw [List.getElem?_take_of_lt hj] at hu
    exact h.cells a ha j u hu⟩

/-- A varint that is cut off is short. -/
theorem tv_short (x : Nat) : ∀ (i acc k : Nat), x * 2 ^ (7 * i) < 2 ^ 64 → i ≤ 9 → k < (Lib.uvarint x).length → tv i acc ((Lib.uvarint x).take k) = (0, 0, 2) := by
  induction x using Nat.strongRecOn with
  | _ x ih =>
    intro i acc k hx h9 hk
    cases k with
    | zero => rw [List.take_zero, tv]
    | succ k =>
      by_cases hs : x < 128
      · rw [Lib.uvarint_small hs] at hk
        simp at hk
      · rw [Lib.uvarint_big (by omega)] at hk ⊢
        have hp9 : i = 9 → x ≤ 1 := fun h => by subst h; omega
        have hc := toU8 (x % 128 + 128) (by omega)
        have hpw : 2 ^ (7 * (i + 1)) = 128 * 2 ^ (7 * i) := by rw [Nat.mul_add, Nat.pow_add, Nat.mul_comm]
        have hle : x / 128 * (128 * 2 ^ (7 * i)) + x % 128 * 2 ^ (7 * i) = x * 2 ^ (7 * i) := by
          rw [← Nat.mul_assoc, ← Nat.add_mul]
          congr 1
          omega
        rw [List.take_succ_cons, tv, hc, if_neg (by omega), if_pos (by omega)]
        exact ih (x / 128) (by omega) (i + 1) _ k (by rw [hpw]; omega) (by omega) (by simpa using hk)

/-- A text that is cut off is short. -/
theorem tt_short (ss : List UInt8) (k : Nat) (hs : ss.length ≤ 300) (hk : k < (Lib.uvarint ss.length ++ ss).length) : tt ((Lib.uvarint ss.length ++ ss).take k) 300 = ([], 0, 2) := by
  by_cases h : k < (Lib.uvarint ss.length).length
  · unfold tt
    rw [List.take_append_of_le_length (by omega), tv_short ss.length 0 0 k (by omega) (by omega) h]
    simp
  · rw [List.length_append] at hk
    have e1 : (Lib.uvarint ss.length ++ ss).take k = Lib.uvarint ss.length ++ ss.take (k - (Lib.uvarint ss.length).length) := by
      rw [List.take_append, List.take_of_length_le (by omega)]
    unfold tt
    rw [e1, tv_back ss.length (by omega)]
    simp only
    rw [if_neg (by simp), if_neg (by omega), if_pos (by simp; omega)]

theorem te_short (bs : List UInt8) (k : Nat) (hk : k < 8) : te (bs.take k) = (0, 2) := by
  unfold te
  rw [if_pos (by simp; omega)]

set_option maxRecDepth 100000 in
set_option maxHeartbeats 2000000 in
theorem cuts_walk (v : Nat) (so : Option Addr) (m scap : Nat) (ss : List UInt8) (c : Nat) (w : World) (hv : v < 18446744073709551616) (hs : Rd w so m scap ss) (hc : c < 65536) :
    Calls Try.prog 3 #[.int .u64 (v : Int), .slice so m scap, .int .u16 (c : Int)] w fun e w' => e = .returned (.bool true) ∧ Below w.heap.size w w' := by
  have sle := hs.le
  have smax := hs.max
  unfold maxLen at smax
  by_cases h1 : 300 < m
  · go_enter Try.func3, Try.ntmps3
    go_wp2_with (go_at_call 4; refine (begun_any _).mono ?_; rintro e w0 ⟨rfl, hb0⟩)
    go_ret
    exact ⟨rfl, hb0⟩
  · have HSL : Hid (ss.length = m) := hs.len
    have hvl := Lib.uvarint_length64 hv
    have hvp := Lib.uvarint_pos v
    have hml := Lib.uvarint_length64 (x := m) (by omega)
    have hmp := Lib.uvarint_pos m
    obtain ⟨ka, hka⟩ : ∃ ka, ka = c % (Lib.uvarint v).length := ⟨_, rfl⟩
    obtain ⟨kb, hkb⟩ : ∃ kb, kb = c % ((Lib.uvarint m).length + m) := ⟨_, rfl⟩
    have hka1 : ka < (Lib.uvarint v).length := by rw [hka]; exact Nat.mod_lt _ (by omega)
    have hkb1 : kb < (Lib.uvarint m).length + m := by rw [hkb]; exact Nat.mod_lt _ (by omega)
    have HR1 : Hid _ := tv_short v 0 0 ka (by simpa using hv) (by omega) hka1
    have HR2 : Hid (tt ((Lib.uvarint m ++ ss).take kb) 300 = ([], 0, 2)) := by
      unfold Hid
      have := tt_short ss kb (by rw [HSL.out]; omega) (by rw [List.length_append, HSL.out]; exact hkb1)
      rw [HSL.out] at this
      exact this
    have HR3 : Hid _ := te_short (e8 v) (c % 8) (by omega)
    have ra : ((c : Int) % ((Lib.uvarint v).length : Int)) = (ka : Int) := by rw [hka]; simp
    have rb : ((c : Int) % (((Lib.uvarint m).length : Int) + (m : Int))) = (kb : Int) := by rw [hkb]; simp
    clear hka hkb
    go_enter Try.func3, Try.ntmps3
    go_wp2_with (go_at_call 4; refine (begun_any _).mono ?_; rintro e w0 ⟨rfl, hb0⟩)
    refine (var_nil v _ hv).mono ?_
    rintro e w1 ⟨g1, c1, rfl, o1, hb1⟩
    have z0 := hb0.size
    have z1 := hb1.size
    have b1 := hb0.trans (hb1.mono z0)
    have s1 := hs.below b1 (Nat.le_refl _)
    go_wp2_with fail
    refine (text_nil so m scap ss _ s1 (by omega)).mono ?_
    rintro e w2 ⟨g2, c2, rfl, o2, hb2⟩
    have z2 := hb2.size
    have b2 := b1.trans (hb2.mono (by omega))
    have p1 := o1.below hb2 o1.lt
    have lc1 := o1.le
    have lc2 := o2.le
    have mc1 := o1.max
    have mc2 := o2.max
    unfold maxLen at mc1 mc2
    have f1 := p1.rd.front ka (by omega)
    have f2 := o2.rd.front kb (by omega)
    clear s1 hb0 hb1 hb2 b1
    go_wp2_with fail
    refine (takeVar_at f1 HR1.out).mono ?_
    rintro e w3 ⟨rfl, rfl⟩
    go_wp2_with fail
    refine (takeText_at f2 (by omega) (by omega) (by omega) HR2.out).mono ?_
    rintro e w3 ⟨a3, c3, rfl, r3, hb3⟩
    have z3 := hb3.size
    have b3 := b2.trans (hb3.mono (by omega))
    have p2 := o2.below hb3 o2.lt
    clear f1 f2 p1 o1 b2 hb3 r3
    go_wp2_with fail
    refine (eight_nil v _ hv).mono ?_
    rintro e w5 ⟨g4, c4, rfl, o4, hb4⟩
    have z4 := hb4.size
    have l2 := p2.lt
    have p2 := p2.below hb4 l2
    have b5 := b3.trans (hb4.mono (by omega))
    have lc4 := o4.le
    have mc4 := o4.max
    unfold maxLen at mc4
    have f4 := o4.rd.front (c % 8) (by omega)
    have hcz : ((c : Int) % 8).toNat = c % 8 := by omega
    have s5 := hs.below b5 (Nat.le_refl _)
    clear b3 hb4 o4 o2
    go_wp2_with fail
    refine (takeEight_at f4 HR3.out).mono ?_
    rintro e w6 ⟨rfl, rfl⟩
    clear f4 ra rb
    go_wp2_with fail
    refine wp_region_held_drew (S := fun w' => Below w5.heap.size w5 w') (by kernel_rfl) (Below.refl _ _).drew (fun hS => ?_)
    refine wpAnyH_take (i := 0) (v := ?_) rfl (by kernel_rfl) (by kernel_rfl) (by kernel_rfl) (fun _ _ _ h => h) (Or.inl ⟨by rfl, ?_⟩) hS ?_
    rotate_left
    · (intro wq hq; go_simp; (try with_reducible rfl))
    simp only [Act.put, List.getElem_toArray, List.getElem_cons_zero, List.setIfInBounds_toArray, List.set_cons_zero, List.set_cons_succ]
    refine wpAnyH_take (i := 1) (v := ?_) rfl (by kernel_rfl) (by kernel_rfl) (by kernel_rfl) (fun _ _ _ h => h) (Or.inl ⟨by rfl, ?_⟩) hS ?_
    rotate_left
    · (intro wq hq; go_simp; (try with_reducible rfl))
    simp only [Act.put, List.getElem_toArray, List.getElem_cons_succ, List.getElem_cons_zero, List.setIfInBounds_toArray, List.set_cons_zero, List.set_cons_succ]
    refine wpAnyH_take (i := 2) (v := ?_) rfl (by kernel_rfl) (by kernel_rfl) (by kernel_rfl) (fun _ _ _ h => h) (Or.inl ⟨by rfl, ?_⟩) hS ?_
    rotate_left
    · (intro wq hq; go_simp; (try with_reducible rfl))
    simp only [Act.put, List.getElem_toArray, List.getElem_cons_succ, List.getElem_cons_zero, List.setIfInBounds_toArray, List.set_cons_zero, List.set_cons_succ]
    refine wpAnyH_take (i := 3) (v := ?_) rfl (by kernel_rfl) (by kernel_rfl) (by kernel_rfl) (fun _ _ _ h => h) (Or.inl ⟨by rfl, ?_⟩) hS ?_
    rotate_left
    · (intro wq hq; go_simp; (try with_reducible rfl))
    simp only [Act.put, List.getElem_toArray, List.getElem_cons_succ, List.getElem_cons_zero, List.setIfInBounds_toArray, List.set_cons_zero, List.set_cons_succ]
    refine wpAnyH_take (i := 4) (v := ?_) rfl (by kernel_rfl) (by kernel_rfl) (by kernel_rfl) (fun _ _ _ h => h) (Or.inl ⟨by rfl, ?_⟩) hS ?_
    rotate_left
    · (intro wq hq; go_simp; (try with_reducible rfl))
    simp only [Act.put, List.getElem_toArray, List.getElem_cons_succ, List.getElem_cons_zero, List.setIfInBounds_toArray, List.set_cons_zero, List.set_cons_succ]
    refine wpAnyH_take (i := 5) (v := ?_) rfl (by kernel_rfl) (by kernel_rfl) (by kernel_rfl) (fun _ _ _ h => h) (Or.inl ⟨by rfl, ?_⟩) hS ?_
    rotate_left
    · (intro wq hq; go_simp; (try with_reducible rfl))
    simp only [Act.put, List.getElem_toArray, List.getElem_cons_succ, List.getElem_cons_zero, List.setIfInBounds_toArray, List.set_cons_zero, List.set_cons_succ]
    refine wpAnyH_take (i := 6) (v := ?_) rfl (by kernel_rfl) (by kernel_rfl) (by kernel_rfl) (fun _ _ _ h => h) (Or.inl ⟨by rfl, ?_⟩) hS ?_
    rotate_left
    · (intro wq hq; go_simp; (try with_reducible rfl))
    simp only [Act.put, List.getElem_toArray, List.getElem_cons_succ, List.getElem_cons_zero, List.setIfInBounds_toArray, List.set_cons_zero, List.set_cons_succ]
    refine wpAnyH_take (i := 7) (v := ?_) rfl (by kernel_rfl) (by kernel_rfl) (by kernel_rfl) (fun _ _ _ h => h) (Or.inl ⟨by rfl, ?_⟩) hS ?_
    rotate_left
    · (intro wq hq; go_simp; (try with_reducible rfl))
    simp only [Act.put, List.getElem_toArray, List.getElem_cons_succ, List.getElem_cons_zero, List.setIfInBounds_toArray, List.set_cons_zero, List.set_cons_succ]
    refine wpAnyH_take (i := 8) (v := ?_) rfl (by kernel_rfl) (by kernel_rfl) (by kernel_rfl) (fun _ _ _ h => h) (Or.inl ⟨by rfl, ?_⟩) hS ?_
    rotate_left
    · (intro wq hq; go_simp; (try with_reducible rfl))
    simp only [Act.put, List.getElem_toArray, List.getElem_cons_succ, List.getElem_cons_zero, List.setIfInBounds_toArray, List.set_cons_zero, List.set_cons_succ]
    refine wpAnyH_take (i := 9) (v := ?_) rfl (by kernel_rfl) (by kernel_rfl) (by kernel_rfl) (fun _ _ _ h => h) (Or.inl ⟨by rfl, ?_⟩) hS ?_
    rotate_left
    · (intro wq hq; go_simp; (try with_reducible rfl))
    simp only [Act.put, List.getElem_toArray, List.getElem_cons_succ, List.getElem_cons_zero, List.setIfInBounds_toArray, List.set_cons_zero, List.set_cons_succ]
    refine wpAnyH_take (i := 10) (v := ?_) rfl (by kernel_rfl) (by kernel_rfl) (by kernel_rfl) (fun _ _ _ h => h) (Or.inl ⟨by rfl, ?_⟩) hS ?_
    rotate_left
    · (intro wq hq; go_simp; (try with_reducible rfl))
    simp only [Act.put, List.getElem_toArray, List.getElem_cons_succ, List.getElem_cons_zero, List.setIfInBounds_toArray, List.set_cons_zero, List.set_cons_succ]
    refine wpAnyH_take (i := 11) (v := ?_) rfl (by kernel_rfl) (by kernel_rfl) (by kernel_rfl) (fun _ _ _ h => h) (Or.inl ⟨by rfl, ?_⟩) hS ?_
    rotate_left
    · (intro wq hq; go_simp; (try with_reducible rfl))
    simp only [Act.put, List.getElem_toArray, List.getElem_cons_succ, List.getElem_cons_zero, List.setIfInBounds_toArray, List.set_cons_zero, List.set_cons_succ]
    refine wpAnyH_take (i := 12) (v := ?_) rfl (by kernel_rfl) (by kernel_rfl) (by kernel_rfl) (fun _ _ _ h => h) (Or.inl ⟨by rfl, ?_⟩) hS ?_
    rotate_left
    · (intro wq hq; go_simp; (try with_reducible rfl))
    simp only [Act.put, List.getElem_toArray, List.getElem_cons_succ, List.getElem_cons_zero, List.setIfInBounds_toArray, List.set_cons_zero, List.set_cons_succ]
    refine wpAnyH_take (i := 13) (v := ?_) rfl (by kernel_rfl) (by kernel_rfl) (by kernel_rfl) (fun _ _ _ h => h) (Or.inl ⟨by rfl, ?_⟩) hS ?_
    rotate_left
    · (intro wq hq; go_simp; (try with_reducible rfl))
    simp only [Act.put, List.getElem_toArray, List.getElem_cons_succ, List.getElem_cons_zero, List.setIfInBounds_toArray, List.set_cons_zero, List.set_cons_succ]
    refine wpAnyH_take (i := 14) (v := ?_) rfl (by kernel_rfl) (by kernel_rfl) (by kernel_rfl) (fun _ _ _ h => h) (Or.inl ⟨by rfl, ?_⟩) hS ?_
    rotate_left
    · (intro wq hq; go_simp; (try with_reducible rfl))
    simp only [Act.put, List.getElem_toArray, List.getElem_cons_succ, List.getElem_cons_zero, List.setIfInBounds_toArray, List.set_cons_zero, List.set_cons_succ]
    refine wpAnyH_take (i := 15) (v := ?_) rfl (by kernel_rfl) (by kernel_rfl) (by kernel_rfl) (fun _ _ _ h => h) (Or.inl ⟨by rfl, ?_⟩) hS ?_
    rotate_left
    · (intro wq hq; go_simp; (try with_reducible rfl))
    simp only [Act.put, List.getElem_toArray, List.getElem_cons_succ, List.getElem_cons_zero, List.setIfInBounds_toArray, List.set_cons_zero, List.set_cons_succ]
    refine wpAnyH_take (i := 16) (v := ?_) rfl (by kernel_rfl) (by kernel_rfl) (by kernel_rfl) (fun _ _ _ h => h) (Or.inl ⟨by rfl, ?_⟩) hS ?_
    rotate_left
    · (intro wq hq; go_simp; (try with_reducible rfl))
    simp only [Act.put, List.getElem_toArray, List.getElem_cons_succ, List.getElem_cons_zero, List.setIfInBounds_toArray, List.set_cons_zero, List.set_cons_succ]
    refine wpAnyH_take (i := 17) (v := ?_) rfl (by kernel_rfl) (by kernel_rfl) (by kernel_rfl) (fun _ _ _ h => h) (Or.inl ⟨by rfl, ?_⟩) hS ?_
    rotate_left
    · (intro wq hq; go_simp; (try with_reducible rfl))
    simp only [Act.put, List.getElem_toArray, List.getElem_cons_succ, List.getElem_cons_zero, List.setIfInBounds_toArray, List.set_cons_zero, List.set_cons_succ]
    refine wpAnyH_take (i := 18) (v := ?_) rfl (by kernel_rfl) (by kernel_rfl) (by kernel_rfl) (fun _ _ _ h => h) (Or.inl ⟨by rfl, ?_⟩) hS ?_
    rotate_left
    · (intro wq hq; go_simp; (try with_reducible rfl))
    simp only [Act.put, List.getElem_toArray, List.getElem_cons_succ, List.getElem_cons_zero, List.setIfInBounds_toArray, List.set_cons_zero, List.set_cons_succ]
    refine wpAnyH_take (i := 19) (v := ?_) rfl (by kernel_rfl) (by kernel_rfl) (by kernel_rfl) (fun _ _ _ h => h) (Or.inl ⟨by rfl, ?_⟩) hS ?_
    rotate_left
    · (intro wq hq; go_simp; (try with_reducible rfl))
    simp only [Act.put, List.getElem_toArray, List.getElem_cons_succ, List.getElem_cons_zero, List.setIfInBounds_toArray, List.set_cons_zero, List.set_cons_succ]
    refine wpAnyH_take (i := 20) (v := ?_) rfl (by kernel_rfl) (by kernel_rfl) (by kernel_rfl) (fun _ _ _ h => h) (Or.inl ⟨by rfl, ?_⟩) hS ?_
    rotate_left
    · (intro wq hq; go_simp; (try with_reducible rfl))
    simp only [Act.put, List.getElem_toArray, List.getElem_cons_succ, List.getElem_cons_zero, List.setIfInBounds_toArray, List.set_cons_zero, List.set_cons_succ]
    refine wpAnyH_take (i := 21) (v := ?_) rfl (by kernel_rfl) (by kernel_rfl) (by kernel_rfl) (fun _ _ _ h => h) (Or.inl ⟨by rfl, ?_⟩) hS ?_
    rotate_left
    · (intro wq hq; go_simp; (try with_reducible rfl))
    simp only [Act.put, List.getElem_toArray, List.getElem_cons_succ, List.getElem_cons_zero, List.setIfInBounds_toArray, List.set_cons_zero, List.set_cons_succ]
    refine wpAnyH_take (i := 22) (v := ?_) rfl (by kernel_rfl) (by kernel_rfl) (by kernel_rfl) (fun _ _ _ h => h) (Or.inl ⟨by rfl, ?_⟩) hS ?_
    rotate_left
    · (intro wq hq; go_simp; (try with_reducible rfl))
    simp only [Act.put, List.getElem_toArray, List.getElem_cons_succ, List.getElem_cons_zero, List.setIfInBounds_toArray, List.set_cons_zero, List.set_cons_succ]
    refine wpAnyH_take (i := 23) (v := ?_) rfl (by kernel_rfl) (by kernel_rfl) (by kernel_rfl) (fun _ _ _ h => h) (Or.inl ⟨by rfl, ?_⟩) hS ?_
    rotate_left
    · (intro wq hq; go_simp; (try with_reducible rfl))
    simp only [Act.put, List.getElem_toArray, List.getElem_cons_succ, List.getElem_cons_zero, List.setIfInBounds_toArray, List.set_cons_zero, List.set_cons_succ]
    refine wpAnyH_take (i := 24) (v := ?_) rfl (by kernel_rfl) (by kernel_rfl) (by kernel_rfl) (fun _ _ _ h => h) (Or.inl ⟨by rfl, ?_⟩) hS ?_
    rotate_left
    · (intro wq hq; go_simp; (try with_reducible rfl))
    simp only [Act.put, List.getElem_toArray, List.getElem_cons_succ, List.getElem_cons_zero, List.setIfInBounds_toArray, List.set_cons_zero, List.set_cons_succ]
    refine wpAnyH_take (i := 27) (v := ?_) rfl (by kernel_rfl) (by kernel_rfl) (by kernel_rfl) (fun _ _ _ h => h) (Or.inl ⟨by rfl, ?_⟩) hS ?_
    rotate_left
    · (intro wq hq; go_simp; (try with_reducible rfl))
    simp only [Act.put, List.getElem_toArray, List.getElem_cons_succ, List.getElem_cons_zero, List.setIfInBounds_toArray, List.set_cons_zero, List.set_cons_succ]
    refine wpAnyH_take (i := 28) (v := Value.string ⟨(Lib.uvarint m ++ ss).toArray⟩) rfl (by kernel_rfl) (by kernel_rfl) (by kernel_rfl) (fun _ _ _ h => h) (Or.inl ⟨by rfl, ?_⟩) hS ?_
    · (intro wq hq; have hcv := str_of (p2.below hq (by omega)).rd; go_simp)
    simp only [Act.put, List.getElem_toArray, List.getElem_cons_succ, List.getElem_cons_zero, List.setIfInBounds_toArray, List.set_cons_zero, List.set_cons_succ]
    refine wpAnyH_ready (rs := [25]) (by kernel_rfl) (by simp) ?_
    refine AllReadyH.cons rfl (fun K hK => ?_) AllReadyH.nil
    go_simp
    (try go_wp2_with fail)
    refine (rtext_any none 0 0 [] so m scap ss _ (App.nil 5 0 _).1 s5.drew (by omega) (by omega)).mono ?_
    rintro e w6 ⟨g6, c6, rfl, o6, hb6⟩
    have z6 : w5.heap.size ≤ w6.heap.size := hb6.size
    have b56 : Below w5.heap.size w5 w6 := (Below.refl _ _).drew.trans hb6
    simp only [Nat.zero_add, List.nil_append] at o6
    (try go_wp2_with fail)
    refine hK.out _ _ b56 (fun hS => ?_)
    clear hK K
    clear hS
    refine wpAnyH_mono (S' := fun w' => Below w6.heap.size w6 w') (fun w' h => b56.trans (h.mono z6)) ?_
    have hS := Below.refl w6.heap.size w6
    have l6 := o6.lt
    have b6 := b5.trans (b56.mono (by omega))
    refine wpAnyH_take (i := 26) (v := Value.string ⟨(Lib.uvarint m ++ ss).toArray⟩) rfl (by kernel_rfl) (by kernel_rfl) (by kernel_rfl) (fun _ _ _ h => h) (Or.inl ⟨by rfl, ?_⟩) hS ?_
    · (intro wq hq; have hcv := str_of (o6.below hq (by omega)).rd; go_simp)
    simp only [Act.put, List.getElem_toArray, List.getElem_cons_succ, List.getElem_cons_zero, List.setIfInBounds_toArray, List.set_cons_zero, List.set_cons_succ]
    refine wpAnyH_take (i := 29) (v := ?_) rfl (by kernel_rfl) (by kernel_rfl) (by kernel_rfl) (fun _ _ _ h => h) (Or.inl ⟨by rfl, ?_⟩) hS ?_
    rotate_left
    · (intro wq hq; go_simp; (try with_reducible rfl))
    simp only [Act.put, List.getElem_toArray, List.getElem_cons_succ, List.getElem_cons_zero, List.setIfInBounds_toArray, List.set_cons_zero, List.set_cons_succ]
    refine wpAnyH_take (i := 30) (v := ?_) rfl (by kernel_rfl) (by kernel_rfl) (by kernel_rfl) (fun _ _ _ h => h) (Or.inl ⟨by rfl, ?_⟩) hS ?_
    rotate_left
    · (intro wq hq; go_simp; (try with_reducible rfl))
    simp only [Act.put, List.getElem_toArray, List.getElem_cons_succ, List.getElem_cons_zero, List.setIfInBounds_toArray, List.set_cons_zero, List.set_cons_succ]
    refine wpAnyH_take (i := 31) (v := ?_) rfl (by kernel_rfl) (by kernel_rfl) (by kernel_rfl) (fun _ _ _ h => h) (Or.inl ⟨by rfl, ?_⟩) hS ?_
    rotate_left
    · (intro wq hq; go_simp; (try with_reducible rfl))
    simp only [Act.put, List.getElem_toArray, List.getElem_cons_succ, List.getElem_cons_zero, List.setIfInBounds_toArray, List.set_cons_zero, List.set_cons_succ]
    refine wpAnyH_done (by kernel_rfl) ?_ _
    clear p2 s5 o6 b56 hb6 hS
    go_wp2
    go_ret
    exact ⟨by simp, b6⟩
end Go.Proofs.Ytcbpicioljiidab
