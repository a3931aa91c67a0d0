/- The walk of the statement CodecDeep, the first of four ways. No condition but that the tables hold what the program's text lays. -/
import Derived.Test.YtkbpmpcbajnmlaaDoorDp3
import Derived.Test.YtkbpmpcbajnmlaaDoorOpen
namespace Go.Proofs.YtkbpmpcbajnmlaaDoor
open Go.RowKit

theorem tkL_er {w w' : World} {n : Nat} {res : Er (Lv × Bs)} {x : Ending} (h : TkL w n res x w') : ∃ (k m : Int) (ao : Option Addr) (l cap : Nat) (nn : Int), x = .returned (.tuple #[.agg #[.int .i64 k, .int .i64 m, .slice ao l cap], .int .i64 nn, .int .i64 ((erC res : Nat) : Int)]) ∧ Below w.heap.size w w' := by
  cases res with
  | bad c => exact ⟨0, 0, none, 0, 0, 0, h.2.1, h.1⟩
  | ok y =>
    obtain ⟨hb, k, m, ao, l, cap, h1, _⟩ := h
    exact ⟨k, m, ao, l, cap, _, h1, hb⟩
theorem tkT_er {w w' : World} {n : Nat} {res : Er (Pm × Bs)} {x : Ending} (h : TkT w n res x w') : ∃ (k m : Int) (s : ByteArray) (la : Option Addr) (ll lc : Nat) (ao : Option Addr) (l cap : Nat) (nn : Int), x = .returned (.tuple #[.agg #[.int .i64 k, .int .i64 m, .string s, .slice la ll lc, .slice ao l cap], .int .i64 nn, .int .i64 ((erC res : Nat) : Int)]) ∧ Below w.heap.size w w' := by
  cases res with
  | bad c => exact ⟨0, 0, { data := #[] }, none, 0, 0, none, 0, 0, 0, h.2.1, h.1⟩
  | ok y =>
    obtain ⟨hb, T, h1, _⟩ := h
    exact ⟨_, _, _, _, _, _, _, _, _, _, h1, hb⟩

/-- The row that grows. -/
structure DpS (w0 wr : World) (ao : Option Addr) (n cap : Nat) (bs : Bs) : Prop where
  app : App 5 w0.heap.size wr ao n cap bs
  bel : Below w0.heap.size w0 wr

theorem DpS.nil (w : World) : DpS w w none 0 0 [] := ⟨App.nil 5 _ w, Below.refl _ _⟩

set_option maxRecDepth 100000 in
set_option maxHeartbeats 4000000 in
theorem deep0_any (n wh d : Nat) (hm : wh % 4 = 0) (hd : n % 6 = d) (w : World) (ht : Tabs w) :
    Calls Tryd.prog 5 #[.int .u8 (n : Int), .int .u8 (wh : Int)] w fun e w' => e = .returned (.bool true) ∧ Below w.heap.size w w' := by
  have hb := begun_any w ht
  have hd6 : d < 6 := by omega
  have e1 : (n : Int) % 6 = (d : Int) := by omega
  have e2 : (wh : Int) % 4 = 0 := by omega
  have hE := deep_S d hd6
  clear hd hm
  obtain ⟨i5, hi5, hz0, hz1, hz2⟩ := info_parts Tryd.info5t
  go_enter Tryd.func5, Tryd.ntmps5
  go_wp2_with fail
  refine hb.mono ?_
  rintro e w0 ⟨rfl, b0⟩
  have t0 := ht.up b0
  clear hb ht
  go_wp2_with fail
  have HE1 : Hid _ := e1
  have HE2 : Hid _ := e2
  clear e1 e2
  go_loopw [5, 9] (fun b i wr => ∃ (j : Nat) (ao : Option Addr) (cap : Nat), b = .slice ao j cap ∧ i = .int .i64 ((j : Int) + 1) ∧ j ≤ 28 + d ∧ DpS w0 wr ao j cap (List.replicate j 1)) (fun _ i _ => 40 - (intOf i).toNat)
  case atStart => exact ⟨0, none, 0, rfl, rfl, by omega, DpS.nil w0⟩
  case round =>
    obtain ⟨j, ao, cap, rfl, rfl, hj, R⟩ := hrel
    have zr := R.bel.size
    by_cases hlt : j < 28 + d
    · have hd1 : decide ((j : Int) + 1 < 32 + ((d : Int) - 3)) = true := decide_eq_true (by omega)
      obtain ⟨wa, hwa, ba, Ga, za⟩ := one_newE wr [.int .u8 1] 5
      have HA : App 5 w0.heap.size wa ao j cap (List.replicate j 1) := by rw [← hwa]; exact R.app.alloc _
      have hsrc := src_one (P := Tryd.prog) (w := wa) Tryd.underlying22 wr.heap.size 1 1 (Ga.cell (j := 0) rfl)
      have HR : Hid _ := R
      clear R
      go_wp2_with (at_builtin; refine wpList_append_bytes (P := Tryd.prog) _ (by rfl) _ _ 22 22 (by rfl) 5 i5 Tryd.underlying22 hi5 hz0 hz1 hz2 w0.heap.size (by omega) (by rfl) HA [1] (by rfl) hsrc (.inl (by decide)) (by omega) ?_; intro g1 cap1 w1 ho1 hb1 hg1 hw1)
      go_roundw
      case rel => exact ⟨j + 1, _, cap1, rfl, by simp, by omega, by rw [List.replicate_succ']; exact ho1.app, (HR.out.bel.trans (ba.mono (by omega))).trans hb1⟩
      case measure => simp [intOf]; omega
    · have hd1 : decide ((j : Int) + 1 < 32 + ((d : Int) - 3)) = false := decide_eq_false (by omega)
      have hjc : j = 28 + d := by omega
      have HJ : Hid _ := hjc
      have e2 := HE2.out
      have e1 := HE1.out
      obtain ⟨wa, hwa, ba, Ga, za⟩ := one_newE wr [.int .u8 0] 5
      have HA : App 5 w0.heap.size wa ao j cap (List.replicate j 1) := by rw [← hwa]; exact R.app.alloc _
      have hsrc := src_one (P := Tryd.prog) (w := wa) Tryd.underlying22 wr.heap.size 1 0 (Ga.cell (j := 0) rfl)
      have HR : Hid _ := R
      clear R hjc
      go_wp2_with (at_builtin; refine wpList_append_bytes (P := Tryd.prog) _ (by rfl) _ _ 22 22 (by rfl) 5 i5 Tryd.underlying22 hi5 hz0 hz1 hz2 w0.heap.size (by omega) (by rfl) HA [0] (by rfl) hsrc (.inl (by decide)) (by omega) ?_; intro g1 cap1 w1 ho1 hb1 hg1 hw1)
      have b01 : Below w0.heap.size w0 w1 := (HR.out.bel.trans (ba.mono (by omega))).trans hb1
      have kt := takeLevel_any (some ⟨g1, 0, none⟩) (j + 1) cap1 (List.replicate j 1 ++ [0]) w1 (t0.up b01) ⟨ho1.rd, fun a ha => by simp at ha; subst ha; exact ho1.lt, by omega⟩
      clear hwa hsrc HA Ga
      go_wp2_with fail
      refine kt.mono ?_
      intro e w2 hP
      obtain ⟨rk, rm, ra, rl, rc, rn, rfl, b2⟩ := tkL_er hP
      rw [show erC (rLevel (List.replicate j 1 ++ [0])) = erC (rLevel (bS (28 + d))) by rw [HJ.out]; rfl, hE]
      have bf : Below w.heap.size w w2 := (b0.trans (b01.mono b0.size)).trans (b2.mono (Nat.le_trans b0.size b01.size))
      clear kt hP
      by_cases h3 : d ≤ 3
      · rw [if_pos h3]
        have h4 : decide ((d : Int) - 3 ≤ 0) = true := decide_eq_true (by omega)
        go_wp2_with fail
        go_ret
        exact ⟨rfl, bf.alloc (by have := bf.size; omega) _⟩
      · rw [if_neg h3]
        have h4 : decide ((d : Int) - 3 ≤ 0) = false := decide_eq_false (by omega)
        go_wp2_with fail
        go_ret
        exact ⟨rfl, bf.alloc (by have := bf.size; omega) _⟩
end Go.Proofs.YtkbpmpcbajnmlaaDoor

/- The walk of the statement CodecDeep, the second of four ways. No condition but that the tables hold what the program's text lays. -/
namespace Go.Proofs.YtkbpmpcbajnmlaaDoor
open Go.RowKit

theorem src_blk (w : World) (b : Nat) (bs : Bs) (h : Blk w b 5 (bs.map bval)) (hm : bs.length ≤ maxLen := by decide) : Src Tryd.prog 1 22 (.slice (some ⟨b, 0, none⟩) bs.length bs.length) bs.length (bs.map bval) w := by
  refine Rd.src (P := Tryd.prog) (w := w) Tryd.underlying22 ⟨rfl, Nat.le_refl _, hm, (fun e => by cases e), fun a ha j u hu => ?_⟩
  simp at ha
  subst ha
  rw [Addr.add_lit, Nat.zero_add]
  exact h.cell (j := j) (by rw [List.getElem?_map, hu]; rfl)

set_option maxRecDepth 100000 in
set_option maxHeartbeats 4000000 in
theorem deep1_any (n wh d : Nat) (hm : wh % 4 = 1) (hd : n % 6 = d) (w : World) (ht : Tabs w) :
    Calls Tryd.prog 5 #[.int .u8 (n : Int), .int .u8 (wh : Int)] w fun e w' => e = .returned (.bool true) ∧ Below w.heap.size w w' := by
  have hb := begun_any w ht
  have hd6 : d < 6 := by omega
  have e1 : (n : Int) % 6 = (d : Int) := by omega
  have e2 : (wh : Int) % 4 = 1 := by omega
  have hE := deep_L d hd6
  clear hd hm
  obtain ⟨i5, hi5, hz0, hz1, hz2⟩ := info_parts Tryd.info5t
  go_enter Tryd.func5, Tryd.ntmps5
  go_wp2_with fail
  refine hb.mono ?_
  rintro e w0 ⟨rfl, b0⟩
  have t0 := ht.up b0
  clear hb ht
  go_wp2_with fail
  have HE1 : Hid _ := e1
  have HE2 : Hid _ := e2
  clear e1 e2
  go_loopw [5, 10] (fun b i wr => ∃ (j : Nat) (ao : Option Addr) (cap : Nat), b = .slice ao (3 * j) cap ∧ i = .int .i64 ((j : Int) + 1) ∧ j ≤ 96 + d ∧ DpS w0 wr ao (3 * j) cap (List.replicate j ([4, 0, 0] : Bs)).flatten) (fun _ i _ => 110 - (intOf i).toNat)
  case atStart => exact ⟨0, none, 0, rfl, rfl, by omega, DpS.nil w0⟩
  case round =>
    obtain ⟨j, ao, cap, rfl, rfl, hj, R⟩ := hrel
    have zr := R.bel.size
    by_cases hlt : j < 96 + d
    · have hd1 : decide ((j : Int) + 1 < 100 + ((d : Int) - 3)) = true := decide_eq_true (by omega)
      obtain ⟨wa, hwa, ba, Ga, za⟩ := one_newE wr [.int .u8 4, .int .u8 0, .int .u8 0] 5
      have HA : App 5 w0.heap.size wa ao (3 * j) cap (List.replicate j ([4, 0, 0] : Bs)).flatten := by rw [← hwa]; exact R.app.alloc _
      have hsrc : Src Tryd.prog 1 22 (.slice (some ⟨wr.heap.size, 0, none⟩) 3 3) 3 (([4, 0, 0] : Bs).map bval) wa := src_blk wa wr.heap.size [4, 0, 0] Ga
      have HR : Hid _ := R
      clear R
      go_wp2_with (at_builtin; refine wpList_append_bytes (P := Tryd.prog) _ (by rfl) _ _ 22 22 (by rfl) 5 i5 Tryd.underlying22 hi5 hz0 hz1 hz2 w0.heap.size (by omega) (by rfl) HA [4, 0, 0] (by rfl) hsrc (.inl (by decide)) (by omega) ?_; intro g1 cap1 w1 ho1 hb1 hg1 hw1)
      go_roundw
      case rel => exact ⟨j + 1, _, cap1, rfl, by simp, by omega, by rw [List.replicate_succ', List.flatten_append, List.flatten_singleton]; exact ho1.app, (HR.out.bel.trans (ba.mono (by omega))).trans hb1⟩
      case measure => simp [intOf]; omega
    · have hd1 : decide ((j : Int) + 1 < 100 + ((d : Int) - 3)) = false := decide_eq_false (by omega)
      have hjc : j = 96 + d := by omega
      have HJ : Hid _ := hjc
      have e2 := HE2.out
      have e1 := HE1.out
      obtain ⟨wa, hwa, ba, Ga, za⟩ := one_newE wr [.int .u8 0, .int .u8 0] 5
      have HA : App 5 w0.heap.size wa ao (3 * j) cap (List.replicate j ([4, 0, 0] : Bs)).flatten := by rw [← hwa]; exact R.app.alloc _
      have hsrc : Src Tryd.prog 1 22 (.slice (some ⟨wr.heap.size, 0, none⟩) 2 2) 2 (([0, 0] : Bs).map bval) wa := src_blk wa wr.heap.size [0, 0] Ga
      have HR : Hid _ := R
      clear R hjc
      go_wp2_with (at_builtin; refine wpList_append_bytes (P := Tryd.prog) _ (by rfl) _ _ 22 22 (by rfl) 5 i5 Tryd.underlying22 hi5 hz0 hz1 hz2 w0.heap.size (by omega) (by rfl) HA [0, 0] (by rfl) hsrc (.inl (by decide)) (by omega) ?_; intro g1 cap1 w1 ho1 hb1 hg1 hw1)
      have b01 : Below w0.heap.size w0 w1 := (HR.out.bel.trans (ba.mono (by omega))).trans hb1
      have kt := takeTerm_any (some ⟨g1, 0, none⟩) (3 * j + 2) cap1 ((List.replicate j ([4, 0, 0] : Bs)).flatten ++ [0, 0]) w1 (t0.up b01) ⟨ho1.rd, fun a ha => by simp at ha; subst ha; exact ho1.lt, by omega⟩
      clear hwa hsrc HA Ga
      go_wp2_with fail
      refine kt.mono ?_
      intro e w2 hP
      obtain ⟨rk, rm, rs, rla, rll, rlc, ra, rl, rc, rn, rfl, b2⟩ := tkT_er hP
      rw [show erC (rTerm ((List.replicate j ([4, 0, 0] : Bs)).flatten ++ [0, 0])) = erC (rTerm (bL (96 + d))) by rw [HJ.out]; rfl, hE]
      have bf : Below w.heap.size w w2 := (b0.trans (b01.mono b0.size)).trans (b2.mono (Nat.le_trans b0.size b01.size))
      clear kt hP
      by_cases h3 : d ≤ 3
      · rw [if_pos h3]
        have h4 : decide ((d : Int) - 3 ≤ 0) = true := decide_eq_true (by omega)
        go_wp2_with fail
        go_ret
        exact ⟨rfl, bf.alloc (by have := bf.size; omega) _⟩
      · rw [if_neg h3]
        have h4 : decide ((d : Int) - 3 ≤ 0) = false := decide_eq_false (by omega)
        go_wp2_with fail
        go_ret
        exact ⟨rfl, bf.alloc (by have := bf.size; omega) _⟩
end Go.Proofs.YtkbpmpcbajnmlaaDoor

/- The walk of the statement CodecDeep, the third of four ways. No condition but that the tables hold what the program's text lays. -/
namespace Go.Proofs.YtkbpmpcbajnmlaaDoor
open Go.RowKit

set_option maxRecDepth 100000 in
set_option maxHeartbeats 4000000 in
theorem deep2_any (n wh d : Nat) (hm : wh % 4 = 2) (hd : n % 6 = d) (w : World) (ht : Tabs w) :
    Calls Tryd.prog 5 #[.int .u8 (n : Int), .int .u8 (wh : Int)] w fun e w' => e = .returned (.bool true) ∧ Below w.heap.size w w' := by
  have hb := begun_any w ht
  have hd6 : d < 6 := by omega
  have e1 : (n : Int) % 6 = (d : Int) := by omega
  have e2 : (wh : Int) % 4 = 2 := by omega
  have hE := deep_M d hd6
  obtain ⟨q, hq⟩ : ∃ q, (61 + d) / 2 = q := ⟨_, rfl⟩
  have hq2 : q ≤ 33 := by omega
  have e3 : (64 + ((d : Int) - 3)) / 2 = (q : Int) := by omega
  rw [hq] at hE
  clear hd hm hq
  obtain ⟨i5, hi5, hz0, hz1, hz2⟩ := info_parts Tryd.info5t
  go_enter Tryd.func5, Tryd.ntmps5
  go_wp2_with fail
  refine hb.mono ?_
  rintro e w0 ⟨rfl, b0⟩
  have t0 := ht.up b0
  clear hb ht
  go_wp2_with fail
  have HE1 : Hid _ := e1
  have HE2 : Hid _ := e2
  have HE3 : Hid _ := e3
  clear e1 e2 e3
  go_loopw [5, 11] (fun b i wr => ∃ (j : Nat) (ao : Option Addr) (cap : Nat), b = .slice ao (2 * j) cap ∧ i = .int .i64 (j : Int) ∧ j ≤ q ∧ DpS w0 wr ao (2 * j) cap (List.replicate j ([2, 0] : Bs)).flatten) (fun _ i _ => 40 - (intOf i).toNat)
  case atStart => exact ⟨0, none, 0, rfl, rfl, by omega, DpS.nil w0⟩
  case round =>
    obtain ⟨j, ao, cap, rfl, rfl, hj, R⟩ := hrel
    have zr := R.bel.size
    by_cases hlt : j < q
    · have e3 := HE3.out
      have hd1 : decide ((j : Int) < (q : Int)) = true := decide_eq_true (by omega)
      obtain ⟨wa, hwa, ba, Ga, za⟩ := one_newE wr [.int .u8 2, .int .u8 0] 5
      have HA : App 5 w0.heap.size wa ao (2 * j) cap (List.replicate j ([2, 0] : Bs)).flatten := by rw [← hwa]; exact R.app.alloc _
      have hsrc : Src Tryd.prog 1 22 (.slice (some ⟨wr.heap.size, 0, none⟩) 2 2) 2 (([2, 0] : Bs).map bval) wa := src_blk wa wr.heap.size [2, 0] Ga
      have HR : Hid _ := R
      clear R
      go_wp2_with (at_builtin; refine wpList_append_bytes (P := Tryd.prog) _ (by rfl) _ _ 22 22 (by rfl) 5 i5 Tryd.underlying22 hi5 hz0 hz1 hz2 w0.heap.size (by omega) (by rfl) HA [2, 0] (by rfl) hsrc (.inl (by decide)) (by omega) ?_; intro g1 cap1 w1 ho1 hb1 hg1 hw1)
      go_roundw
      case rel => exact ⟨j + 1, _, cap1, rfl, by simp, by omega, by rw [List.replicate_succ', List.flatten_append, List.flatten_singleton]; exact ho1.app, (HR.out.bel.trans (ba.mono (by omega))).trans hb1⟩
      case measure => simp [intOf]; omega
    · have e3 := HE3.out
      have hd1 : decide ((j : Int) < (q : Int)) = false := decide_eq_false (by omega)
      have hjc : j = q := by omega
      have HJ : Hid _ := hjc
      have e2 := HE2.out
      have e1 := HE1.out
      obtain ⟨wa, hwa, ba, Ga, za⟩ := one_newE wr [.int .u8 0] 5
      have HA : App 5 w0.heap.size wa ao (2 * j) cap (List.replicate j ([2, 0] : Bs)).flatten := by rw [← hwa]; exact R.app.alloc _
      have hsrc := src_one (P := Tryd.prog) (w := wa) Tryd.underlying22 wr.heap.size 1 0 (Ga.cell (j := 0) rfl)
      have HR : Hid _ := R
      clear R hjc
      go_wp2_with (at_builtin; refine wpList_append_bytes (P := Tryd.prog) _ (by rfl) _ _ 22 22 (by rfl) 5 i5 Tryd.underlying22 hi5 hz0 hz1 hz2 w0.heap.size (by omega) (by rfl) HA [0] (by rfl) hsrc (.inl (by decide)) (by omega) ?_; intro g1 cap1 w1 ho1 hb1 hg1 hw1)
      have b01 : Below w0.heap.size w0 w1 := (HR.out.bel.trans (ba.mono (by omega))).trans hb1
      have kt := takeLevel_any (some ⟨g1, 0, none⟩) (2 * j + 1) cap1 ((List.replicate j ([2, 0] : Bs)).flatten ++ [0]) w1 (t0.up b01) ⟨ho1.rd, fun a ha => by simp at ha; subst ha; exact ho1.lt, by omega⟩
      clear hwa hsrc HA Ga
      go_wp2_with fail
      refine kt.mono ?_
      intro e w2 hP
      obtain ⟨rk, rm, ra, rl, rc, rn, rfl, b2⟩ := tkL_er hP
      rw [show erC (rLevel ((List.replicate j ([2, 0] : Bs)).flatten ++ [0])) = erC (rLevel (bM q)) by rw [HJ.out]; rfl, hE]
      have bf : Below w.heap.size w w2 := (b0.trans (b01.mono b0.size)).trans (b2.mono (Nat.le_trans b0.size b01.size))
      clear kt hP
      have e3 := HE3.out
      by_cases h3 : q + 1 > 32
      · rw [if_pos h3]
        have h4 : decide (32 < (q : Int) + 1) = true := decide_eq_true (by omega)
        go_wp2_with fail
        go_ret
        exact ⟨rfl, bf.alloc (by have := bf.size; omega) _⟩
      · rw [if_neg h3]
        have h4 : decide (32 < (q : Int) + 1) = false := decide_eq_false (by omega)
        go_wp2_with fail
        go_ret
        exact ⟨rfl, bf.alloc (by have := bf.size; omega) _⟩
end Go.Proofs.YtkbpmpcbajnmlaaDoor

/- The walk of the statement CodecDeep, the last of four ways, and all four. No condition but that the tables hold what the program's text lays. -/
namespace Go.Proofs.YtkbpmpcbajnmlaaDoor
open Go.RowKit

set_option maxRecDepth 100000 in
set_option maxHeartbeats 4000000 in
theorem deep3_any (n wh d : Nat) (hm : wh % 4 = 3) (hd : n % 3 = d) (w : World) (ht : Tabs w) :
    Calls Tryd.prog 5 #[.int .u8 (n : Int), .int .u8 (wh : Int)] w fun e w' => e = .returned (.bool true) ∧ Below w.heap.size w w' := by
  have hb := begun_any w ht
  have hd3 : d < 3 := by omega
  have e1 : (n : Int) % 3 = (d : Int) := by omega
  have e2 : (wh : Int) % 4 = 3 := by omega
  have hE := deep_W d hd3
  clear hd hm
  go_enter Tryd.func5, Tryd.ntmps5
  go_wp2_with fail
  refine hb.mono ?_
  rintro e w0 ⟨rfl, b0⟩
  have t0 := ht.up b0
  have hk := wideT_any (10 + d) (by omega) (by omega) w0
  rw [show (((10 + d : Nat)) : Int) = 10 + (d : Int) by omega] at hk
  clear hb ht
  go_wp2_with fail
  refine hk.mono ?_
  rintro e w1 ⟨T, rfl, hpl, T1, b1⟩
  rw [show 10 + d - 1 = 9 + d by omega] at hpl
  unfold Tr.val
  obtain ⟨w2, hw2, b2, G2, z2⟩ := one_newE w1 [.int .i64 T.k, .int .i64 T.n, .string T.s, .slice T.la T.ls.length T.lc, .slice T.a T.args.length T.c] 33
  have t2 := (t0.up b1).up b2
  have T2 : TIn w2 (· < w2.heap.size) T := TIn.carry (w := w1) (S := (· < w1.heap.size)) (fun b hb => b2.block b hb) (fun b hb => by omega) T T1
  have hlen := wB_len (9 + d)
  have hpow : 2 ^ (9 + d) ≤ 2 ^ 11 := Nat.pow_le_pow_right (by decide) (by omega)
  have hpo1 : 2 ^ 9 ≤ 2 ^ (9 + d) := Nat.pow_le_pow_right (by decide) (by omega)
  have hn := term_nil T (by rw [hpl]; exact wP_wf _) (by rw [hpl, eT_wP]; omega) w2 t2 T2
  rw [hpl, eT_wP] at hn
  have g0 := G2.cell (j := 0) rfl
  have g1 := G2.cell (j := 1) rfl
  have g2 := G2.cell (j := 2) rfl
  have g3 := G2.cell (j := 3) rfl
  have g4 := G2.cell (j := 4) rfl
  have HPL : Hid _ := hpl
  clear hk hpl T1
  go_wp2_with fail
  refine hn.mono ?_
  rintro e w3 ⟨ao, m, c, rfl, R3, b3⟩
  have hml : m = (wB (9 + d)).length := R3.len.symm
  have t3 := t2.up b3
  have kt := takeTerm_any ao m c (wB (9 + d)) w3 t3 ⟨R3, fun a ha => by
    have h0 : ∃ u, (wB (9 + d))[0]? = some u := ⟨_, List.getElem?_eq_getElem (by omega)⟩
    obtain ⟨u, hu⟩ := h0
    have h1 := R3.cells a ha 0 u hu
    have h2 := World.block_lt_of_cell? w3 _ h1
    simpa [Addr.add] using h2, by omega⟩
  have HML : Hid _ := hml
  clear hn g0 g1 g2 g3 g4 hw2 hml
  go_wp2_with fail
  refine kt.mono ?_
  intro e w4 hP
  obtain ⟨rk, rm, rs, rla, rll, rlc, ra, rl, rc, rn, rfl, b4⟩ := tkT_er hP
  rw [hE]
  clear kt hP R3
  obtain ⟨w5, hw5, b5, G5, z5⟩ := one_newE w4 [.int .i64 rk, .int .i64 rm, .string rs, .slice rla rll rlc, .slice ra rl rc] 33
  have G25 := ((G2.below b3 G2.lt).below b4 (by have := G2.lt; have := b3.size; omega)).below b5 (by have := G2.lt; have := b3.size; have := b4.size; omega)
  have T5 : TIn w5 (· < w5.heap.size) T := TIn.carry (w := w2) (S := (· < w2.heap.size)) (fun b hb => ((b5.block b (by have := b3.size; have := b4.size; omega)).trans (b4.block b (by have := b3.size; omega))).trans (b3.block b hb)) (fun b hb => by have := b3.size; have := b4.size; omega) T T2
  have hsz := wP_size (9 + d) T HPL.out
  have hpd : 2 ^ (9 + d + 1) = 2 * 2 ^ (9 + d) := by rw [Nat.pow_succ]; omega
  have hsi := rsize_any T 1048576 w5 w5.heap.size (by decide) (.inl (by decide)) (Nat.le_refl _) T5
  rw [show min (T.size : Int) (max 1048576 0 + 1) = (T.size : Int) by omega] at hsi
  obtain ⟨sz, hszl⟩ : ∃ sz, T.size = sz := ⟨_, rfl⟩
  have h20 : (d = 0 → sz ≤ 2000) ∧ (d ≠ 0 → 2000 < sz) := by
    refine ⟨fun h => ?_, fun h => ?_⟩
    · subst h; have : 2 ^ (9 + 0 + 1) = 1024 := by decide
      omega
    · have h8 : 2 ^ 11 ≤ 2 ^ (9 + d + 1) := Nat.pow_le_pow_right (by decide) (by omega)
      have : (2 : Nat) ^ 11 = 2048 := by decide
      omega
  rw [hszl] at hsi
  have x0 := G25.cell (j := 0) rfl
  have x1 := G25.cell (j := 1) rfl
  have x2 := G25.cell (j := 2) rfl
  have x3 := G25.cell (j := 3) rfl
  have x4 := G25.cell (j := 4) rfl
  have bf : Below w.heap.size w w5 := ((((b0.trans (b1.mono b0.size)).trans (b2.mono (Nat.le_trans b0.size b1.size))).trans (b3.mono (by have := b0.size; have := b1.size; omega))).trans (b4.mono (by have := b0.size; have := b1.size; have := b3.size; omega))).trans (b5.mono (by have := b0.size; have := b1.size; have := b3.size; have := b4.size; omega))
  unfold Tr.val at hsi
  clear hsz hszl hpd hpow hpo1 hlen hE T5 T2 G25 G2 G5
  by_cases hd0 : d = 0
  · rw [if_pos hd0]
    have h1 := h20.1 hd0
    have HD : Hid _ := hd0
    have h4 : decide ((sz : Int) ≤ 2000) = true := decide_eq_true (by omega)
    clear hd0 h20
    go_wp2_with fail
    refine hsi.mono ?_
    rintro e w6 ⟨rfl, b6⟩
    clear x0 x1 x2 x3 x4
    go_wp2_with fail
    go_ret
    exact ⟨rfl, bf.trans (b6.mono bf.size)⟩
  · rw [if_neg hd0]
    have h1 := h20.2 hd0
    have h4 : decide ((sz : Int) ≤ 2000) = false := decide_eq_false (by omega)
    clear hd0 h20
    go_wp2_with fail
    refine hsi.mono ?_
    rintro e w6 ⟨rfl, b6⟩
    clear x0 x1 x2 x3 x4
    go_wp2_with fail
    go_ret
    exact ⟨rfl, bf.trans (b6.mono bf.size)⟩

theorem deep_any (n wh : Nat) (w : World) (ht : Tabs w) : Calls Tryd.prog 5 #[.int .u8 (n : Int), .int .u8 (wh : Int)] w fun e w' => e = .returned (.bool true) ∧ Below w.heap.size w w' := by
  have h : wh % 4 = 0 ∨ wh % 4 = 1 ∨ wh % 4 = 2 ∨ wh % 4 = 3 := by omega
  rcases h with h | h | h | h
  · exact deep0_any n wh _ h rfl w ht
  · exact deep1_any n wh _ h rfl w ht
  · exact deep2_any n wh _ h rfl w ht
  · exact deep3_any n wh _ h rfl w ht
end Go.Proofs.YtkbpmpcbajnmlaaDoor

/- The walk of the statement CodecDeep at numbers that came in. No condition but that the tables hold what the program's text lays. -/
namespace Go.Proofs.YtkbpmpcbajnmlaaDoor
open Go.RowKit Go.Deep Go.WideShapes Go.ChangeShapes

theorem deep_lit (a b : Int) (ha : (Lit.int .u8 a).wf = true) (hb : (Lit.int .u8 b).wf = true) (w : World) (ht : Tabs w) : Calls Tryd.prog 5 #[.int .u8 a, .int .u8 b] w fun e w' => e = .returned (.bool true) ∧ Below w.heap.size w w' := by
  obtain ⟨n, rfl⟩ := Int.eq_ofNat_of_zero_le (bounds_u8 ha).1
  obtain ⟨k, rfl⟩ := Int.eq_ofNat_of_zero_le (bounds_u8 hb).1
  exact deep_any n k w ht
end Go.Proofs.YtkbpmpcbajnmlaaDoor
