/- The walks of the document's Eval, of Light. No condition but that what was given are levels that may be (of Light: any levels), and numbers, in memory. -/
import Derived.Test.YtogfmpjgmabomaaDoorMayLaw
namespace Go.Proofs.YtogfmpjgmabomaaDoor
open Go.RowKit

def REvalAt (zs : List Int) (l : Lev) : Prop := ∀ (w : World) (B : Nat) (val : Value) (ao : Option Addr) (n cap : Nat), l.low 4 → l.size ≤ 65536 → B ≤ w.heap.size → In w (· < B) l.lv val → Ints w B ao n cap zs →
    Calls Tryd.prog 14 #[val, .slice ao n cap] w fun e w' => e = .returned (.int .i64 ((l.val (vv zs) : Nat) : Int)) ∧ Below w.heap.size w w'

set_option maxRecDepth 100000 in
set_option maxHeartbeats 1000000 in
theorem reval_any (zs : List Int) (l : Lev) : REvalAt zs l := by
  induction l with
  | zero =>
    intro w B val ao n cap hlow hs hB hin hI
    obtain ⟨a, c, rfl, hN⟩ := hin.node
    go_enter Tryd.func14, Tryd.ntmps14
    go_wp2_with fail
    go_ret
    exact ⟨rfl, (Below.refl _ _).alloc (Nat.le_refl _) _⟩
  | par m =>
    intro w B val ao n cap hlow hs hB hin hI
    obtain ⟨a, c, rfl, hN⟩ := hin.node
    have hlow' : m < 4 := hlow
    have hle := hI.le
    have hmx := hI.max
    have hlen := hI.len
    subst hlen
    obtain ⟨w1, hw1, hb1, X, hs1⟩ := one_new w [.int .i64 4, .int .i64 m, .slice a 0 c] 24
    have x0 := X.cell (j := 0) rfl
    have x1 := X.cell (j := 1) rfl
    by_cases hm : m < zs.length
    · obtain ⟨z, hz⟩ : ∃ z, zs[m]? = some z := ⟨_, List.getElem?_eq_getElem hm⟩
      obtain ⟨b, off, rfl, hbB, hcell⟩ := (hI.below hb1 hB).get m z hz
      have HV : Hid (((vv zs m : Nat) : Int) = min (max z 0) 1099511627776) := by
        show _ = _
        unfold vv
        rw [List.getD_eq_getElem?_getD, hz]
        simp only [Option.getD_some]
        omega
      clear hz
      have hcs : (z < 0 ∧ ((vv zs m : Nat) : Int) = 0) ∨ (0 ≤ z ∧ z ≤ 1099511627776 ∧ ((vv zs m : Nat) : Int) = z) ∨ (1099511627776 < z ∧ 0 ≤ z ∧ ((vv zs m : Nat) : Int) = 1099511627776) := by have := HV.out; omega
      clear HV
      rcases hcs with ⟨z1, hv⟩ | ⟨z1, z2, hv⟩ | ⟨z1, z2, hv⟩
      all_goals
        have HV : Hid (_ = _) := hv
        clear hv
        go_enter Tryd.func14, Tryd.ntmps14
        go_wp2_with fail
        go_ret
        exact ⟨ret_int HV.out.symm, hb1⟩
    · have HV : Hid (vv zs m = 0) := vv_past zs (by omega)
      go_enter Tryd.func14, Tryd.ntmps14
      go_wp2_with fail
      go_ret
      exact ⟨ret_int (by simp only [Lev.val]; rw [HV.out]; rfl), hb1⟩
  | succ x ih =>
    intro w B val ao n cap hlow hs hB hin hI
    obtain ⟨a, c, rfl, hN⟩ := hin.node
    have hle := hN.le
    have hmx := hN.max
    simp only [Lev.size] at hs
    obtain ⟨w1, hw1, hb1, X, hs1⟩ := one_new w [.int .i64 1, .int .i64 0, .slice a 1 c] 24
    have x0 := X.cell (j := 0) rfl
    have x2 := X.cell (j := 2) rfl
    have I1 := hI.below hb1 hB
    obtain ⟨b, off, k0, n0, args0, a0, cap0, rfl, hS, hl0, e0, e1, e2, M0⟩ := (hN.below hb1 hB).get (i := 0) rfl
    simp only [Nat.zero_mul, Nat.add_zero] at e0 e1 e2
    have HL0 : Hid (x.lv = .mk k0 n0 args0) := hl0
    clear hl0
    have hv := Lev.val_le x (vv zs) 1099511627776 (vv_le zs)
    simp at hle
    have hc := ih w1 B _ ao n cap hlow (by omega) (by omega) (by rw [HL0.out]; exact M0.is) I1
    go_enter Tryd.func14, Tryd.ntmps14
    go_wp2_with (go_at_call 14; go_must (refine hc.mono ?_); rintro e w2 ⟨rfl, hb2⟩)
    go_ret
    exact ⟨ret_int (by simp only [Lev.val]; omega), hb1.trans (hb2.mono (by omega))⟩
  | max x y ihx ihy =>
    intro w B val ao n cap hlow hs hB hin hI
    obtain ⟨a, c, rfl, hN⟩ := hin.node
    have hle := hN.le
    have hmx := hN.max
    simp only [Lev.size] at hs
    obtain ⟨w1, hw1, hb1, X, hs1⟩ := one_new w [.int .i64 2, .int .i64 0, .slice a 2 c] 24
    have x0 := X.cell (j := 0) rfl
    have x2 := X.cell (j := 2) rfl
    have I1 := hI.below hb1 hB
    obtain ⟨b, off, k0, n0, args0, a0, cap0, rfl, hS, hl0, e0, e1, e2, M0⟩ := (hN.below hb1 hB).get (i := 0) rfl
    simp only [Nat.zero_mul, Nat.add_zero] at e0 e1 e2
    have HL0 : Hid (x.lv = .mk k0 n0 args0) := hl0
    clear hl0
    obtain ⟨b', off', k1, n1, args1, a1, cap1, hab, hS', hl1, d0, d1, d2, M1⟩ := (hN.below hb1 hB).get (i := 1) rfl
    simp only [Option.some.injEq, Addr.mk.injEq, and_true] at hab
    obtain ⟨rfl, rfl⟩ := hab
    simp only [Nat.one_mul] at d0 d1 d2
    have HL1 : Hid (y.lv = .mk k1 n1 args1) := hl1
    clear hl1
    simp at hle
    have y2 := over_cell (X.cell (j := 2) rfl)
    have E0 := over_cell e0
    have E1 := over_cell e1
    have E2 := over_cell e2
    have D0 := over_cell d0
    have D1 := over_cell d1
    have D2 := over_cell d2
    have hbu : ∀ u, Below w.heap.size w (over w1 u) := fun u => hb1.trans ((over_below w1 u).mono hb1.size)
    go_enter Tryd.func14, Tryd.ntmps14
    go_wp2_with fail
    refine wp_region_over w1 (Below.refl _ _) (by kernel_rfl) (by kernel_rfl) ?_
    repeat (go_big_quiet_step (first
      | (go_at_call 14; exact Calls.over (ihx _ B _ ao n cap hlow.1 (by omega) (Nat.le_trans hB (hbu _).size) (by rw [HL0.out]; exact (M0.below (over_below w1 _) (by omega)).is) (hI.below (hbu _) hB)))
      | (go_at_call 14; exact Calls.over (ihy _ B _ ao n cap hlow.2 (by omega) (Nat.le_trans hB (hbu _).size) (by rw [HL1.out]; exact (M1.below (over_below w1 _) (by omega)).is) (hI.below (hbu _) hB)))))
    refine wpQuiet_nil ?_
    rintro _ ⟨u, rfl⟩
    go_wp2_with fail
    all_goals
      go_ret
      exact ⟨ret_int (by simp only [Lev.val, Nat.max_def]; split <;> omega), hbu u⟩
  | imax x y ihx ihy =>
    intro w B val ao n cap hlow hs hB hin hI
    obtain ⟨a, c, rfl, hN⟩ := hin.node
    have hle := hN.le
    have hmx := hN.max
    simp only [Lev.size] at hs
    obtain ⟨w1, hw1, hb1, X, hs1⟩ := one_new w [.int .i64 3, .int .i64 0, .slice a 2 c] 24
    have x0 := X.cell (j := 0) rfl
    have x2 := X.cell (j := 2) rfl
    have I1 := hI.below hb1 hB
    obtain ⟨b, off, k0, n0, args0, a0, cap0, rfl, hS, hl0, e0, e1, e2, M0⟩ := (hN.below hb1 hB).get (i := 0) rfl
    simp only [Nat.zero_mul, Nat.add_zero] at e0 e1 e2
    have HL0 : Hid (x.lv = .mk k0 n0 args0) := hl0
    clear hl0
    obtain ⟨b', off', k1, n1, args1, a1, cap1, hab, hS', hl1, d0, d1, d2, M1⟩ := (hN.below hb1 hB).get (i := 1) rfl
    simp only [Option.some.injEq, Addr.mk.injEq, and_true] at hab
    obtain ⟨rfl, rfl⟩ := hab
    simp only [Nat.one_mul] at d0 d1 d2
    have HL1 : Hid (y.lv = .mk k1 n1 args1) := hl1
    clear hl1
    simp at hle
    have hcy := ihy w1 B _ ao n cap hlow.2 (by omega) (by omega) (by rw [HL1.out]; exact M1.is) I1
    by_cases h0 : y.val (vv zs) = 0
    · rw [h0] at hcy
      go_enter Tryd.func14, Tryd.ntmps14
      go_wp2_with (go_at_call 14; go_must (refine hcy.mono ?_); rintro e w2 ⟨rfl, hb2⟩)
      go_ret
      exact ⟨ret_int (by simp only [Lev.val]; rw [if_pos h0]; rfl), hb1.trans (hb2.mono (by omega))⟩
    · obtain ⟨vy, hvy⟩ : ∃ vy, y.val (vv zs) = vy := ⟨_, rfl⟩
      rw [hvy] at hcy h0
      have HVY : Hid (y.val (vv zs) = vy) := hvy
      clear hvy
      have hcx : ∀ w2, Below w1.heap.size w1 w2 → _ := fun w2 h2 => ihx w2 B _ ao n cap hlow.1 (by omega) (by have := h2.size; omega) (by rw [HL0.out]; exact (M0.below h2 (by omega)).is) (I1.below h2 (by omega))
      go_enter Tryd.func14, Tryd.ntmps14
      go_wp2_with (first
        | (go_at_call_of 14 args1.length; refine hcy.mono ?_; rintro e w2 ⟨rfl, hb2⟩; have X2 := X.below hb2 (by omega); have z2 := X2.cell (j := 2) rfl; have g0 := (bcell' hb2 _ _ (show b < w1.heap.size by omega)).trans e0; have g1 := (bcell' hb2 _ _ (show b < w1.heap.size by omega)).trans e1; have g2 := (bcell' hb2 _ _ (show b < w1.heap.size by omega)).trans e2)
        | (go_at_call_of 14 args0.length; refine (hcx w2 hb2).mono ?_; rintro e w3 ⟨rfl, hb3⟩))
      all_goals
        go_ret
        have hz2 := hb2.size
        exact ⟨ret_int (by simp only [Lev.val]; rw [HVY.out, if_neg h0]; simp only [Nat.max_def]; split <;> omega), (hb1.trans (hb2.mono (by omega))).trans (hb3.mono (by omega))⟩

set_option maxRecDepth 100000 in
set_option maxHeartbeats 400000 in
theorem light_any (Ls : List Lv) (a : Option Addr) (cap : Nat) (w : World) (B : Nat) (hB : B ≤ w.heap.size) (hN : Node w (· < B) 0 0 Ls a cap) :
    Calls Tryd.prog 12 #[.slice a Ls.length cap] w fun e w' => e = .returned (.bool (Ls.all fun L => mayB L 4)) ∧ Below w.heap.size w w' := by
  have hle := hN.le
  have hmx := hN.max
  go_enter Tryd.func12, Tryd.ntmps12
  go_wp2_with fail
  go_loopw [3] (fun i wr => ∃ (j : Nat), i = .int .i64 (j : Int) ∧ j ≤ Ls.length ∧ (∀ i L, i < j → Ls[i]? = some L → mayB L 4 = true) ∧ Below w.heap.size w wr) (fun i _ => Ls.length - (intOf i).toNat)
  case atStart => exact ⟨0, rfl, by omega, fun i _ hi => absurd hi (Nat.not_lt_zero i), Below.refl _ _⟩
  case round =>
    obtain ⟨j, rfl, hj, hall, hbel⟩ := hrel
    have HA : Hid (∀ i L, i < j → Ls[i]? = some L → mayB L 4 = true) := hall
    clear hall
    have hsz := hbel.size
    by_cases hlt : j < Ls.length
    · obtain ⟨L, hL⟩ : ∃ L, Ls[j]? = some L := ⟨_, List.getElem?_eq_getElem hlt⟩
      obtain ⟨b, off, k', n', args', a', cap', rfl, hS, rfl, e0, e1, e2, hN'⟩ := (hN.below hbel hB).get hL
      have HL : Hid (Ls[j]? = some (.mk k' n' args')) := hL
      clear hL
      have hc := rmay_any (.mk k' n' args') 4 wr B _ (by omega) hN'.is
      cases hr : mayB (.mk k' n' args') 4 with
      | true =>
        rw [hr] at hc
        go_wp2_with (go_at_call 11; go_must (refine hc.mono ?_); rintro e w2 ⟨rfl, hb2⟩)
        go_roundw
        case rel => exact ⟨j + 1, by go_num, by omega, fun i L hi hL => by
          by_cases e : i = j
          · subst e; rw [HL.out] at hL; simp at hL; subst hL; exact hr
          · exact HA.out i L (by omega) hL, hbel.trans (hb2.mono hsz)⟩
        case measure => simp [intOf]; omega
      | false =>
        rw [hr] at hc
        have HF : Hid ((Ls.all fun L => mayB L 4) = false) := by show _ = _; rw [List.all_eq_false]; exact ⟨_, List.mem_of_getElem? HL.out, by rw [hr]; decide⟩
        go_wp2_with (go_at_call 11; go_must (refine hc.mono ?_); rintro e w2 ⟨rfl, hb2⟩)
        go_ret
        exact ⟨ret_bool HF.out.symm, hbel.trans (hb2.mono hsz)⟩
    · have HF : Hid ((Ls.all fun L => mayB L 4) = true) := by
        show _ = _
        rw [List.all_eq_true]
        intro L hL
        obtain ⟨i, hi⟩ := List.getElem?_of_mem hL
        exact HA.out i L (by have := (List.getElem?_eq_some_iff.1 hi).1; omega) hi
      go_wp2_with fail
      go_ret
      exact ⟨ret_bool HF.out.symm, hbel⟩
end Go.Proofs.YtogfmpjgmabomaaDoor
