/- The walk of the laws' begun. No condition but that the tables hold what the program's text lays. -/
import Derived.Test.YtogfmpjgmabomaaDoorMk
namespace Go.Proofs.YtogfmpjgmabomaaDoor
open Go.RowKit

theorem fine_p : Fine (.par 0) := ⟨by rfl, (by decide : 0 < 4), by decide⟩
theorem fine_z : Fine .zero := ⟨by rfl, trivial, by decide⟩
theorem fine_s : Fine (.succ (.par 0)) := ⟨by rfl, (by decide : 0 < 4), by decide⟩
theorem fine_i : Fine (.imax (.par 0) .zero) := ⟨by rfl, ⟨(by decide : 0 < 4), trivial⟩, by decide⟩
theorem may_p : mayB (Lev.par 0).lv 1 = true := by rfl
theorem val_s : (Lev.succ (.par 0)).val (vv [4]) = 5 := by rfl
theorem same_i : evB eqR (.imax (.par 0) .zero) .zero = true := by rfl
theorem leq_s : evB leR (.succ (.par 0)) (.par 0) = false := by rfl
theorem never_s : decide (0 < (Lev.succ (.par 0)).least) = true := by rfl
theorem put_p : (Lev.par 0).put [.zero] = .zero := by rfl
theorem eq_z : Lv.eqB Lev.zero.lv Lev.zero.lv = true := by rfl
theorem map_z : [Lev.zero].map Lev.lv = [Lev.zero.lv] := by rfl

theorem Ints.up {w : World} {B C : Nat} {ao : Option Addr} {n cap : Nat} {zs : List Int} (h : Ints w B ao n cap zs) (hB : B ≤ C) : Ints w C ao n cap zs :=
  ⟨h.len, h.le, h.max, fun j z hz => by obtain ⟨b, off, h1, h2, h3⟩ := h.get j z hz; exact ⟨b, off, h1, Nat.lt_of_lt_of_le h2 hB, h3⟩⟩
theorem fresh_low {w w' : World} {L : Lv} {v : Value} (h : In w' (fun b => w.heap.size ≤ b ∧ b < w'.heap.size) L v) : In w' (· < w'.heap.size) L v := h.mono (fun _ hb => hb.2)

set_option maxRecDepth 100000 in
set_option maxHeartbeats 2000000 in
theorem begun_any (w : World) (hT : Tabs w) : Calls Tryd.prog 9 #[] w fun e w' => e = .returned (.bool true) ∧ Below w.heap.size w w' := by
  go_enter Tryd.func9, Tryd.ntmps9
  go_wp2_with (first
    | (go_at_call 31; go_must (refine (Param_any 0 (by omega) w).mono ?_); rintro e w1 ⟨pv, rfl, ip, b1⟩; obtain ⟨ap, cp, rfl, np⟩ := ip.node)
    | (go_at_call 32; go_must (refine (Zero_any w1).mono ?_); rintro e w2 ⟨zv, rfl, iz, b2⟩; obtain ⟨az, cz, rfl, nz⟩ := iz.node; obtain ⟨w3, hw3, b3, P3, Z3, hs3⟩ := two_new w2 [.int .i64 4, .int .i64 0, .slice ap 0 cp] [.int .i64 0, .int .i64 0, .slice az 0 cz] 24 24))
  have b03 : Below w.heap.size w w3 := (b1.trans (b2.mono b1.size)).trans (b3.mono (Nat.le_trans b1.size b2.size))
  have hlt2 := hT.lt
  have hz03 := b03.size
  have hz12 := b2.size
  have hip : In w3 (· < w3.heap.size) (Lev.par 0).lv (.agg #[.int .i64 4, .int .i64 0, .slice ap 0 cp]) := (((fresh_low ip).below b2 (Nat.le_refl _)).below b3 hz12).up (by omega)
  have hiz : In w3 (· < w3.heap.size) Lev.zero.lv (.agg #[.int .i64 0, .int .i64 0, .slice az 0 cz]) := ((fresh_low iz).below b3 (Nat.le_refl _)).up (by omega)
  have hup : ∀ w', Below w3.heap.size w3 w' → In w' (· < w3.heap.size) (Lev.par 0).lv (.agg #[.int .i64 4, .int .i64 0, .slice ap 0 cp]) ∧ In w' (· < w3.heap.size) Lev.zero.lv (.agg #[.int .i64 0, .int .i64 0, .slice az 0 cz]) ∧ Tabs w' ∧ w3.heap.size ≤ w'.heap.size := fun w' h =>
    ⟨hip.below h (Nat.le_refl _), hiz.below h (Nat.le_refl _), (hT.on b03).on h, h.size⟩
  have cMay : ∀ w', Below w3.heap.size w3 w' → Calls Tryd.prog 10 #[.agg #[.int .i64 4, .int .i64 0, .slice ap 0 cp], .int .i64 1] w' fun e w'' => e = .returned (.bool true) ∧ Below w'.heap.size w' w'' := fun w' h => by
    obtain ⟨h1, h2, h3, h4⟩ := hup w' h
    have := may_any (Lev.par 0).lv 1 w' w3.heap.size _ (by omega) h4 h3 h1
    rw [may_p] at this; exact this
  have cSucc : ∀ w', Below w3.heap.size w3 w' → Calls Tryd.prog 27 #[.agg #[.int .i64 4, .int .i64 0, .slice ap 0 cp]] w' (Makes w' (.succ (.par 0))) := fun w' h => by
    obtain ⟨h1, h2, h3, h4⟩ := hup w' h
    exact Succ_any (.par 0) w' w3.heap.size _ h4 h1
  have cImax : ∀ w', Below w3.heap.size w3 w' → Calls Tryd.prog 26 #[.agg #[.int .i64 4, .int .i64 0, .slice ap 0 cp], .agg #[.int .i64 0, .int .i64 0, .slice az 0 cz]] w' (Makes w' (.imax (.par 0) .zero)) := fun w' h => by
    obtain ⟨h1, h2, h3, h4⟩ := hup w' h
    exact Imax_any (.par 0) .zero w' w3.heap.size _ _ h4 h1 h2
  have cEval : ∀ w' v ao, Below w3.heap.size w3 w' → In w' (· < w'.heap.size) (Lev.succ (.par 0)).lv v → Ints w' w'.heap.size ao 1 1 [4] → Calls Tryd.prog 13 #[v, .slice ao 1 1] w' fun e w'' => e = .returned (.int .i64 5) ∧ Below w'.heap.size w' w'' := fun w' v ao h hv hI => by
    obtain ⟨h1, h2, h3, h4⟩ := hup w' h
    have := eval_any (.succ (.par 0)) fine_s ao 1 1 [4] w' w'.heap.size v (by omega) (Nat.le_refl _) h3 hv hI
    rw [val_s] at this; exact this
  have cSame : ∀ w' v, Below w3.heap.size w3 w' → In w' (· < w'.heap.size) (Lev.imax (.par 0) .zero).lv v → Calls Tryd.prog 19 #[v, .agg #[.int .i64 0, .int .i64 0, .slice az 0 cz]] w' fun e w'' => e = .returned (.bool true) ∧ Below w'.heap.size w' w'' := fun w' v h hv => by
    obtain ⟨h1, h2, h3, h4⟩ := hup w' h
    have := same_any _ _ fine_i fine_z w' w'.heap.size v _ (by omega) (Nat.le_refl _) h3 hv (h2.up h4)
    rw [same_i] at this; exact this
  have cLeq : ∀ w' v, Below w3.heap.size w3 w' → In w' (· < w'.heap.size) (Lev.succ (.par 0)).lv v → Calls Tryd.prog 17 #[v, .agg #[.int .i64 4, .int .i64 0, .slice ap 0 cp]] w' fun e w'' => e = .returned (.bool false) ∧ Below w'.heap.size w' w'' := fun w' v h hv => by
    obtain ⟨h1, h2, h3, h4⟩ := hup w' h
    have := leq_any _ _ fine_s fine_p w' w'.heap.size v _ (by omega) (Nat.le_refl _) h3 hv (h1.up h4)
    rw [leq_s] at this; exact this
  have cNever : ∀ w' v, Below w3.heap.size w3 w' → In w' (· < w'.heap.size) (Lev.succ (.par 0)).lv v → Calls Tryd.prog 21 #[v] w' fun e w'' => e = .returned (.bool true) ∧ Below w'.heap.size w' w'' := fun w' v h hv => by
    obtain ⟨h1, h2, h3, h4⟩ := hup w' h
    have := never_any _ fine_s w' w'.heap.size v (by omega) (Nat.le_refl _) h3 hv
    rw [never_s] at this; exact this
  have cPut : ∀ w' ao, Below w3.heap.size w3 w' → Node w' (· < w'.heap.size) 0 0 [Lev.zero.lv] ao 1 → Calls Tryd.prog 28 #[.agg #[.int .i64 4, .int .i64 0, .slice ap 0 cp], .slice ao 1 1] w' fun e w'' => ∃ v, e = .returned v ∧ In w'' (· < w''.heap.size) Lev.zero.lv v ∧ Below w'.heap.size w' w'' := fun w' ao h hN => by
    obtain ⟨h1, h2, h3, h4⟩ := hup w' h
    refine (Put_any (.par 0) [.zero] w' w'.heap.size _ ao 1 (Nat.le_refl _) (by decide) (h1.up h4) hN).mono ?_
    rintro e w'' ⟨v, rfl, ho, hb⟩
    rw [put_p] at ho
    exact ⟨v, rfl, ho.low, hb⟩
  have cEq : ∀ w' v, Below w3.heap.size w3 w' → In w' (· < w'.heap.size) Lev.zero.lv v → Calls Tryd.prog 23 #[v, .agg #[.int .i64 0, .int .i64 0, .slice az 0 cz]] w' fun e w'' => e = .returned (.bool true) ∧ Below w'.heap.size w' w'' := fun w' v h hv => by
    obtain ⟨h1, h2, h3, h4⟩ := hup w' h
    have := Equal_any Lev.zero.lv Lev.zero.lv w' w'.heap.size v _ (Nat.le_refl _) (by decide) hv (h2.up h4)
    rw [eq_z] at this; exact this
  have hkeep : ∀ w', Below w3.heap.size w3 w' → w'.cell? ⟨w2.heap.size, 0, none⟩ = some (.int .i64 4) ∧ w'.cell? ⟨w2.heap.size, 1, none⟩ = some (.int .i64 0) ∧ w'.cell? ⟨w2.heap.size, 2, none⟩ = some (.slice ap 0 cp) ∧ w'.cell? ⟨w2.heap.size + 1, 0, none⟩ = some (.int .i64 0) ∧ w'.cell? ⟨w2.heap.size + 1, 1, none⟩ = some (.int .i64 0) ∧ w'.cell? ⟨w2.heap.size + 1, 2, none⟩ = some (.slice az 0 cz) := fun w' h =>
    ⟨(P3.below h (by omega)).cell (j := 0) rfl, (P3.below h (by omega)).cell (j := 1) rfl, (P3.below h (by omega)).cell (j := 2) rfl, (Z3.below h (by omega)).cell (j := 0) rfl, (Z3.below h (by omega)).cell (j := 1) rfl, (Z3.below h (by omega)).cell (j := 2) rfl⟩
  have hon : ∀ {a b : World}, Below w3.heap.size w3 a → Below a.heap.size a b → Below w3.heap.size w3 b := fun {a b} h k => h.trans (k.mono h.size)
  have r0 : Below w3.heap.size w3 w3.drew := (Below.refl _ _).drew
  have hczm : cz ≤ maxLen := nz.max
  clear hup hip hiz ip iz np nz hT b1 b2 P3 Z3
  go_region_held3 (fun w' => w'.cell? ⟨w2.heap.size, 0, none⟩ = some (.int .i64 4) ∧ w'.cell? ⟨w2.heap.size, 1, none⟩ = some (.int .i64 0) ∧ w'.cell? ⟨w2.heap.size, 2, none⟩ = some (.slice ap 0 cp) ∧ w'.cell? ⟨w2.heap.size + 1, 0, none⟩ = some (.int .i64 0) ∧ w'.cell? ⟨w2.heap.size + 1, 1, none⟩ = some (.int .i64 0) ∧ w'.cell? ⟨w2.heap.size + 1, 2, none⟩ = some (.slice az 0 cz)) (first | exact hkeep _ r0 | exact hkeep _ h4 | exact hkeep _ h4a | exact hkeep _ h5 | exact hkeep _ h5a | exact hkeep _ h6 | exact hkeep _ h7 | exact hkeep _ h8 | exact hkeep _ h9 | exact hkeep _ h10 | exact hkeep _ h11 | exact hkeep _ h12 | exact hkeep _ h12a | exact hkeep _ h13 | exact hkeep _ h14)
    (first
    | (go_at_call 10; refine (cMay w3.drew r0).mono ?_; rintro e w4 ⟨rfl, d4⟩; have h4 := hon r0 d4; obtain ⟨w4a, hw4a, d4a, V4, hs4⟩ := one_new w4 [.int .i64 4] 3; have h4a := hon h4 d4a; have I4 : Ints w4a w4a.heap.size (some ⟨w4.heap.size, 0, none⟩) 1 1 [4] := ⟨rfl, Nat.le_refl _, by decide, fun j z hz => ⟨w4.heap.size, 0, rfl, by omega, by match j, hz with | 0, hz => simp at hz; subst hz; exact V4.cell (j := 0) rfl | j + 1, hz => simp at hz⟩⟩; clear cMay)
    | (go_at_call 27; refine (cSucc w4a h4a).mono ?_; rintro e w5 ⟨v5, rfl, i5, d5⟩; obtain ⟨k5, n5, a5, l5, c5, rfl⟩ := i5.shape; have h5 := hon h4a d5; have E5 := cEval w5 _ (some ⟨w4.heap.size, 0, none⟩) h5 (fresh_low i5) ((I4.below d5 (Nat.le_refl _)).up d5.size); clear h4 h4a I4)
    | (go_at_call 27; refine (cSucc w4 h4).mono ?_; rintro e w5 ⟨v5, rfl, i5, d5⟩; obtain ⟨k5, n5, a5, l5, c5, rfl⟩ := i5.shape; have h5 := hon h4 d5; obtain ⟨w5a, hw5a, d5a, V5, hs5⟩ := one_new w5 [.int .i64 4] 3; have h5a := hon h5 d5a; have E5 := cEval w5a _ (some ⟨w5.heap.size, 0, none⟩) h5a (((fresh_low i5).below d5a (Nat.le_refl _)).up d5a.size) ⟨rfl, Nat.le_refl _, by decide, fun j z hz => ⟨w5.heap.size, 0, rfl, by omega, by match j, hz with | 0, hz => simp at hz; subst hz; exact V5.cell (j := 0) rfl | j + 1, hz => simp at hz⟩⟩; clear h4 h4a I4)
    | (go_at_call 13; refine E5.mono ?_; rintro e w6 ⟨rfl, d6⟩; first | have h6 := hon h5a d6 | have h6 := hon h5 d6; clear cEval E5)
    | (go_at_call 26; refine (cImax w6 h6).mono ?_; rintro e w7 ⟨v7, rfl, i7, d7⟩; obtain ⟨k7, n7, a7, l7, c7, rfl⟩ := i7.shape; have h7 := hon h6 d7)
    | (go_at_call 19; refine (cSame w7 _ h7 (fresh_low i7)).mono ?_; rintro e w8 ⟨rfl, d8⟩; have h8 := hon h7 d8; clear h6 i7 cImax cSame)
    | (go_at_call 27; refine (cSucc w8 h8).mono ?_; rintro e w9 ⟨v9, rfl, i9, d9⟩; obtain ⟨k9, n9, a9, l9, c9, rfl⟩ := i9.shape; have h9 := hon h8 d9; clear h8)
    | (go_at_call 17; refine (cLeq w9 _ h9 (fresh_low i9)).mono ?_; rintro e w10 ⟨rfl, d10⟩; have h10 := hon h9 d10; clear i9 cLeq)
    | (go_at_call 27; refine (cSucc w10 h10).mono ?_; rintro e w11 ⟨v11, rfl, i11, d11⟩; obtain ⟨k11, n11, a11, l11, c11, rfl⟩ := i11.shape; have h11 := hon h10 d11; clear h10)
    | (go_at_call 21; refine (cNever w11 _ h11 (fresh_low i11)).mono ?_; rintro e w12 ⟨rfl, d12⟩; have h12 := hon h11 d12; obtain ⟨w12a, hw12a, d12a, X12, hs12⟩ := one_new w12 [.int .i64 0, .int .i64 0, .slice az 0 cz] 24; have h12a := hon h12 d12a; clear i11 cNever)
    | (go_at_call 28; refine (cPut w12a (some ⟨w12.heap.size, 0, none⟩) h12a ⟨by omega, by omega, by omega, by omega, by simp, by omega, .inr ⟨w12.heap.size, 0, rfl, by omega, InAll.of_get fun i L hi => by match i, hi with | 0, hi => (simp at hi; subst hi; exact ⟨_, _, _, X12.cell (j := 0) rfl, X12.cell (j := 1) rfl, X12.cell (j := 2) rfl, by rw [Lev.lv, in_mk]; exact ⟨az, cz, rfl, by omega, by omega, by simp, hczm, .inl rfl⟩⟩) | i + 1, hi => simp at hi⟩⟩).mono ?_; rintro e w13 ⟨v13, rfl, i13, d13⟩; obtain ⟨k13, n13, a13, l13, c13, rfl⟩ := i13.shape; have h13 := hon h12a d13)
    | (go_at_call 23; refine (cEq w13 _ h13 i13).mono ?_; rintro e w14 ⟨rfl, d14⟩; have h14 := hon h13 d14))
  all_goals
    go_wp2_with fail
    go_ret
    exact ⟨rfl, b03.trans (h14.mono hz03)⟩
end Go.Proofs.YtogfmpjgmabomaaDoor
