/- The walks of the document's Leq, Same, Never. No condition but that what was given are levels that may be, in memory. -/
import Derived.Test.YtogfmpjgmabomaaDoorPlc
import Derived.Test.YtogfmpjgmabomaaDoorEvalLaw
namespace Go.Proofs.YtogfmpjgmabomaaDoor
open Go.RowKit

/-! ### The places tell of all -/
theorem mem_pls (n : Nat) : ∀ p : List Int, p.length = n → (∀ z ∈ p, z = 0 ∨ z = 1 ∨ z = 1000) → p ∈ pls n := by
  induction n with
  | zero => intro p hp _; rw [List.length_eq_zero_iff] at hp; subst hp; simp [pls]
  | succ n ih =>
    intro p hp hz
    rcases List.eq_nil_or_concat p with rfl | ⟨q, z, rfl⟩
    · simp at hp
    · rw [pls, List.mem_flatMap]
      refine ⟨q, ih q (by simpa using hp) (fun y hy => hz y (by simp [hy])), ?_⟩
      rcases hz z (by simp) with rfl | rfl | rfl <;> simp [tri]
def rleqB (a b : Lev) : Bool := (pls 4).all fun p => decide (a.val (vv p) ≤ b.val (vv p))
theorem rleq_is {a b : Lev} (ha : a.low 4) (hb : b.low 4) (hs : b.size ≤ 64) (fb : Fine b) : rleqB a b = evB leR a b := by
  rw [Bool.eq_iff_iff, leq_iff fb]
  unfold rleqB
  rw [List.all_eq_true]
  constructor
  · intro h v
    by_cases hlt : b.val v < a.val v
    · exfalso
      obtain ⟨u, hu, hlt⟩ := Lev.tell a b 1000 (by omega) v hlt
      have hm : [(u 0 : Int), u 1, u 2, u 3] ∈ pls 4 := mem_pls 4 _ rfl (by
        intro z hz
        simp only [List.mem_cons, List.not_mem_nil, or_false] at hz
        rcases hz with rfl | rfl | rfl | rfl
        · rcases hu 0 with e | e | e <;> rw [e] <;> simp
        · rcases hu 1 with e | e | e <;> rw [e] <;> simp
        · rcases hu 2 with e | e | e <;> rw [e] <;> simp
        · rcases hu 3 with e | e | e <;> rw [e] <;> simp)
      have h1 := h _ hm
      have e : ∀ k, k < 4 → vv [(u 0 : Int), u 1, u 2, u 3] k = u k := by
        intro k hk
        have hk' : u k ≤ 1000 := by rcases hu k with e | e | e <;> omega
        unfold vv
        match k, hk with
        | 0, _ => simp; omega
        | 1, _ => simp; omega
        | 2, _ => simp; omega
        | 3, _ => simp; omega
      rw [a.val_congr ha e, b.val_congr hb e] at h1
      simp at h1
      omega
    · omega
  · intro h p _
    simpa using h _
theorem rsame_is {a b : Lev} (ha : a.low 4) (hb : b.low 4) (sa : a.size ≤ 64) (sb : b.size ≤ 64) (fa : Fine a) (fb : Fine b) : (rleqB a b && rleqB b a) = evB eqR a b := by
  rw [rleq_is ha hb sb fb, rleq_is hb ha sa fa, Bool.eq_iff_iff, Bool.and_eq_true, leq_iff fb, leq_iff fa, same_iff fa fb]
  exact ⟨fun h v => Nat.le_antisymm (h.1 v) (h.2 v), fun h => ⟨fun v => Nat.le_of_eq (h v), fun v => Nat.le_of_eq (h v).symm⟩⟩
def rnevB (l : Lev) : Bool := (pls 4).all fun p => decide (l.val (vv p) ≠ 0)
theorem rnev_is (l : Lev) : rnevB l = decide (0 < l.least) := by
  rw [Bool.eq_iff_iff, never_iff]
  unfold rnevB
  rw [List.all_eq_true]
  constructor
  · intro h v
    have hm : [(0 : Int), 0, 0, 0] ∈ pls 4 := mem_pls 4 _ rfl (by intro z hz; simp at hz; exact .inl hz)
    have h1 := h _ hm
    have e : vv [(0 : Int), 0, 0, 0] = fun _ => 0 := by
      funext i
      unfold vv
      match i with
      | 0 => rfl
      | 1 => rfl
      | 2 => rfl
      | 3 => rfl
      | i + 4 => simp; omega
    rw [e] at h1
    have := l.val_mono (u := fun _ => 0) (v := v) (fun _ => Nat.zero_le _)
    simp at h1
    omega
  · intro h p _
    have := h (vv p)
    simp; omega

set_option maxRecDepth 100000 in
set_option maxHeartbeats 1000000 in
theorem rleq_any (a b : Lev) (la : a.low 4) (lb : b.low 4) (sa : a.size ≤ 65536) (sb : b.size ≤ 65536) (w : World) (B : Nat) (va vb : Value) (hB : B ≤ w.heap.size) (ha : In w (· < B) a.lv va) (hb : In w (· < B) b.lv vb) :
    Calls Tryd.prog 18 #[va, vb] w fun e w' => e = .returned (.bool (rleqB a b)) ∧ Below w.heap.size w w' := by
  obtain ⟨ka, na, aa, ja, ca, rfl⟩ := ha.shape
  obtain ⟨kb, nb, ab, jb, cb, rfl⟩ := hb.shape
  obtain ⟨w1, hw1, hb1, P1, Q1, hs1⟩ := two_new w [.int .i64 ka, .int .i64 na, .slice aa ja ca] [.int .i64 kb, .int .i64 nb, .slice ab jb cb] 24 24
  have hpl := rplaces_any w1
  obtain ⟨M, hM⟩ : ∃ M, (pls 4).length = M := ⟨_, rfl⟩
  have hM81 : M = 81 := by rw [← hM, pls_len]
  have hMle : M ≤ 81 := by omega
  have HM : Hid ((pls 4).length = M) := hM
  clear hM81
  rw [hM] at hpl
  clear hM
  go_enter Tryd.func18, Tryd.ntmps18
  go_wp2_with (go_at_call 42; go_must (refine hpl.mono ?_); rintro e w2 ⟨lo, lc, rfl, hIL, hb2⟩)
  clear hpl
  have hz1 : w1.heap.size = w.heap.size + 2 := hs1
  have hlc := hIL.cap
  have hlm := hIL.max
  rw [HM.out] at hlc
  have hb02 : Below w.heap.size w w2 := hb1.trans (hb2.mono (by omega))
  have P2 := P1.below hb2 (by omega)
  have Q2 := Q1.below hb2 (by omega)
  clear hs1 hw1
  go_loopw [6] (fun i wr => ∃ (j : Nat), i = .int .i64 (j : Int) ∧ j ≤ M ∧ (∀ i p, i < j → (pls 4)[i]? = some p → a.val (vv p) ≤ b.val (vv p)) ∧ Below w2.heap.size w2 wr) (fun i _ => M - (intOf i).toNat)
  case atStart => exact ⟨0, rfl, by omega, (fun i p hi => absurd hi (Nat.not_lt_zero i)), Below.refl _ _⟩
  case round =>
    obtain ⟨j, rfl, hj, hall, hbr⟩ := hrel
    have HA : Hid (∀ i p, i < j → (pls 4)[i]? = some p → a.val (vv p) ≤ b.val (vv p)) := hall
    clear hall
    have hzr := hbr.size
    have hz02 := hb02.size
    have hb0r : Below w.heap.size w wr := hb02.trans (hbr.mono hz02)
    by_cases hlt : j < M
    · obtain ⟨ps, hps⟩ : ∃ p, (pls 4)[j]? = some p := ⟨_, List.getElem?_eq_getElem (by rw [HM.out]; exact hlt)⟩
      obtain ⟨go, pa, pm, pc, rfl, hgB, hgo, hcell, hI⟩ := (hIL.below hbr).get hps
      have HP : Hid ((pls 4)[j]? = some ps) := hps
      clear hps
      have hin := hI.ints
      have c0 := over_cell (w := wr) ((P2.below hbr P2.lt).cell (j := 0) rfl)
      have c1 := over_cell (w := wr) ((P2.below hbr P2.lt).cell (j := 1) rfl)
      have c2 := over_cell (w := wr) ((P2.below hbr P2.lt).cell (j := 2) rfl)
      have d0 := over_cell (w := wr) ((Q2.below hbr Q2.lt).cell (j := 0) rfl)
      have d1 := over_cell (w := wr) ((Q2.below hbr Q2.lt).cell (j := 1) rfl)
      have d2 := over_cell (w := wr) ((Q2.below hbr Q2.lt).cell (j := 2) rfl)
      have e0 := over_cell hcell
      have ob : ∀ u, Below wr.heap.size wr (over wr u) := fun u => over_below wr u
      have ca' : ∀ u, Calls Tryd.prog 14 #[.agg #[.int .i64 ka, .int .i64 na, .slice aa ja ca], .slice pa pm pc] (over wr u) fun e w' => e = .returned (.int .i64 ((a.val (vv ps) : Nat) : Int)) ∧ Below (over wr u).heap.size (over wr u) w' := fun u =>
        reval_any ps a (over wr u) wr.heap.size _ pa pm pc la sa (ob u).size ((ha.below (hb0r.trans ((ob u).mono hb0r.size)) hB).up (by omega)) (hin.below (ob u) (Nat.le_refl _))
      have cb' : ∀ u, Calls Tryd.prog 14 #[.agg #[.int .i64 kb, .int .i64 nb, .slice ab jb cb], .slice pa pm pc] (over wr u) fun e w' => e = .returned (.int .i64 ((b.val (vv ps) : Nat) : Int)) ∧ Below (over wr u).heap.size (over wr u) w' := fun u =>
        reval_any ps b (over wr u) wr.heap.size _ pa pm pc lb sb (ob u).size ((hb.below (hb0r.trans ((ob u).mono hb0r.size)) hB).up (by omega)) (hin.below (ob u) (Nat.le_refl _))
      obtain ⟨X, hX⟩ : ∃ X, a.val (vv ps) = X := ⟨_, rfl⟩
      obtain ⟨Y, hY⟩ : ∃ Y, b.val (vv ps) = Y := ⟨_, rfl⟩
      simp only [hX] at ca'
      simp only [hY] at cb'
      have HXY : Hid (a.val (vv ps) = X ∧ b.val (vv ps) = Y) := ⟨hX, hY⟩
      clear hX hY hin hI
      by_cases hXY : X ≤ Y
      · have hd : decide ((Y : Int) < (X : Int)) = false := by simp; omega
        go_wp2_with fail
        refine wp_region_over wr (Below.refl _ _) (by kernel_rfl) (by kernel_rfl) ?_
        repeat (go_big_quiet_step (first
          | (go_at_call_of 14 ka; exact Calls.over (ca' _))
          | (go_at_call_of 14 kb; exact Calls.over (cb' _))))
        refine wpQuiet_nil ?_
        rintro _ ⟨u, rfl⟩
        go_wp2_with fail
        go_roundw
        case rel => exact ⟨j + 1, by go_num, by omega, (fun i p hi hp => by
          by_cases e : i = j
          · subst e
            rw [HP.out] at hp
            simp at hp
            subst hp
            rw [HXY.out.1, HXY.out.2]; exact hXY
          · exact HA.out i p (by omega) hp), hbr.trans ((ob u).mono hzr)⟩
        case measure => simp [intOf]; omega
      · have HF : Hid (rleqB a b = false) := by
          show _ = _
          unfold rleqB
          rw [List.all_eq_false]
          exact ⟨ps, List.mem_of_getElem? HP.out, by rw [HXY.out.1, HXY.out.2]; simpa using hXY⟩
        have hd : decide ((Y : Int) < (X : Int)) = true := by simp; omega
        go_wp2_with fail
        refine wp_region_over wr (Below.refl _ _) (by kernel_rfl) (by kernel_rfl) ?_
        repeat (go_big_quiet_step (first
          | (go_at_call_of 14 ka; exact Calls.over (ca' _))
          | (go_at_call_of 14 kb; exact Calls.over (cb' _))))
        refine wpQuiet_nil ?_
        rintro _ ⟨u, rfl⟩
        go_wp2_with fail
        go_ret
        exact ⟨ret_bool HF.out.symm, hb0r.trans ((ob u).mono hb0r.size)⟩
    · have HT : Hid (rleqB a b = true) := by
        show _ = _
        unfold rleqB
        rw [List.all_eq_true]
        intro p hp
        obtain ⟨i, hi⟩ := List.getElem?_of_mem hp
        have := (List.getElem?_eq_some_iff.1 hi).1
        rw [HM.out] at this
        simpa using HA.out i p (by omega) hi
      go_wp2_with fail
      go_ret
      exact ⟨ret_bool HT.out.symm, hb0r⟩

set_option maxRecDepth 100000 in
set_option maxHeartbeats 1000000 in
theorem rnever_any (a : Lev) (la : a.low 4) (sa : a.size ≤ 65536) (w : World) (B : Nat) (va : Value) (hB : B ≤ w.heap.size) (ha : In w (· < B) a.lv va) :
    Calls Tryd.prog 22 #[va] w fun e w' => e = .returned (.bool (rnevB a)) ∧ Below w.heap.size w w' := by
  obtain ⟨ka, na, aa, ja, ca, rfl⟩ := ha.shape
  obtain ⟨w1, hw1, hb1, P1, hs1⟩ := one_new w [.int .i64 ka, .int .i64 na, .slice aa ja ca] 24
  have hpl := rplaces_any w1
  obtain ⟨M, hM⟩ : ∃ M, (pls 4).length = M := ⟨_, rfl⟩
  have hM81 : M = 81 := by rw [← hM, pls_len]
  have hMle : M ≤ 81 := by omega
  have HM : Hid ((pls 4).length = M) := hM
  clear hM81
  rw [hM] at hpl
  clear hM
  go_enter Tryd.func22, Tryd.ntmps22
  go_wp2_with (go_at_call 42; go_must (refine hpl.mono ?_); rintro e w2 ⟨lo, lc, rfl, hIL, hb2⟩)
  clear hpl
  have hz1 : w1.heap.size = w.heap.size + 1 := hs1
  have hlc := hIL.cap
  have hlm := hIL.max
  rw [HM.out] at hlc
  have hb02 : Below w.heap.size w w2 := hb1.trans (hb2.mono (by omega))
  have P2 := P1.below hb2 (by omega)
  clear hs1 hw1
  go_loopw [4] (fun i wr => ∃ (j : Nat), i = .int .i64 (j : Int) ∧ j ≤ M ∧ (∀ i p, i < j → (pls 4)[i]? = some p → a.val (vv p) ≠ 0) ∧ Below w2.heap.size w2 wr) (fun i _ => M - (intOf i).toNat)
  case atStart => exact ⟨0, rfl, by omega, (fun i p hi => absurd hi (Nat.not_lt_zero i)), Below.refl _ _⟩
  case round =>
    obtain ⟨j, rfl, hj, hall, hbr⟩ := hrel
    have HA : Hid (∀ i p, i < j → (pls 4)[i]? = some p → a.val (vv p) ≠ 0) := hall
    clear hall
    have hzr := hbr.size
    have hz02 := hb02.size
    have hb0r : Below w.heap.size w wr := hb02.trans (hbr.mono hz02)
    by_cases hlt : j < M
    · obtain ⟨ps, hps⟩ : ∃ p, (pls 4)[j]? = some p := ⟨_, List.getElem?_eq_getElem (by rw [HM.out]; exact hlt)⟩
      obtain ⟨go, pa, pm, pc, rfl, hgB, hgo, hcell, hI⟩ := (hIL.below hbr).get hps
      have HP : Hid ((pls 4)[j]? = some ps) := hps
      clear hps
      have hin := hI.ints
      have c0 := over_cell (w := wr) ((P2.below hbr P2.lt).cell (j := 0) rfl)
      have c1 := over_cell (w := wr) ((P2.below hbr P2.lt).cell (j := 1) rfl)
      have c2 := over_cell (w := wr) ((P2.below hbr P2.lt).cell (j := 2) rfl)
      have e0 := over_cell hcell
      have ob : ∀ u, Below wr.heap.size wr (over wr u) := fun u => over_below wr u
      have ca' : ∀ u, Calls Tryd.prog 14 #[.agg #[.int .i64 ka, .int .i64 na, .slice aa ja ca], .slice pa pm pc] (over wr u) fun e w' => e = .returned (.int .i64 ((a.val (vv ps) : Nat) : Int)) ∧ Below (over wr u).heap.size (over wr u) w' := fun u =>
        reval_any ps a (over wr u) wr.heap.size _ pa pm pc la sa (ob u).size ((ha.below (hb0r.trans ((ob u).mono hb0r.size)) hB).up (by omega)) (hin.below (ob u) (Nat.le_refl _))
      obtain ⟨X, hX⟩ : ∃ X, a.val (vv ps) = X := ⟨_, rfl⟩
      simp only [hX] at ca'
      have HX : Hid (a.val (vv ps) = X) := hX
      clear hX hin hI
      by_cases hX0 : X = 0
      · subst hX0
        have HF : Hid (rnevB a = false) := by
          show _ = _
          unfold rnevB
          rw [List.all_eq_false]
          exact ⟨ps, List.mem_of_getElem? HP.out, by rw [HX.out]; simp⟩
        go_wp2_with fail
        refine wp_region_over wr (Below.refl _ _) (by kernel_rfl) (by kernel_rfl) ?_
        repeat (go_big_quiet_step (first
          | (go_at_call_of 14 ka; exact Calls.over (ca' _))))
        refine wpQuiet_nil ?_
        rintro _ ⟨u, rfl⟩
        go_wp2_with fail
        go_ret
        exact ⟨ret_bool HF.out.symm, hb0r.trans ((ob u).mono hb0r.size)⟩
      · have hd : ((X : Int) == 0) = false := by simp; omega
        go_wp2_with fail
        refine wp_region_over wr (Below.refl _ _) (by kernel_rfl) (by kernel_rfl) ?_
        repeat (go_big_quiet_step (first
          | (go_at_call_of 14 ka; exact Calls.over (ca' _))))
        refine wpQuiet_nil ?_
        rintro _ ⟨u, rfl⟩
        go_wp2_with fail
        go_roundw
        case rel => exact ⟨j + 1, by go_num, by omega, (fun i p hi hp => by
          by_cases e : i = j
          · subst e
            rw [HP.out] at hp
            simp at hp
            subst hp
            rw [HX.out]; exact hX0
          · exact HA.out i p (by omega) hp), hbr.trans ((ob u).mono hzr)⟩
        case measure => simp [intOf]; omega
    · have HT : Hid (rnevB a = true) := by
        show _ = _
        unfold rnevB
        rw [List.all_eq_true]
        intro p hp
        obtain ⟨i, hi⟩ := List.getElem?_of_mem hp
        have := (List.getElem?_eq_some_iff.1 hi).1
        rw [HM.out] at this
        simpa using HA.out i p (by omega) hi
      go_wp2_with fail
      go_ret
      exact ⟨ret_bool HT.out.symm, hb0r⟩

set_option maxRecDepth 100000 in
set_option maxHeartbeats 400000 in
theorem rsame_any (a b : Lev) (la : a.low 4) (lb : b.low 4) (sa : a.size ≤ 65536) (sb : b.size ≤ 65536) (w : World) (B : Nat) (va vb : Value) (hB : B ≤ w.heap.size) (ha : In w (· < B) a.lv va) (hb : In w (· < B) b.lv vb) :
    Calls Tryd.prog 20 #[va, vb] w fun e w' => e = .returned (.bool (rleqB a b && rleqB b a)) ∧ Below w.heap.size w w' := by
  obtain ⟨ka, na, aa, ja, ca, rfl⟩ := ha.shape
  obtain ⟨kb, nb, ab, jb, cb, rfl⟩ := hb.shape
  obtain ⟨w1, hw1, hb1, P1, Q1, hs1⟩ := two_new w [.int .i64 ka, .int .i64 na, .slice aa ja ca] [.int .i64 kb, .int .i64 nb, .slice ab jb cb] 24 24
  have p0 := P1.cell (j := 0) rfl
  have p1 := P1.cell (j := 1) rfl
  have p2 := P1.cell (j := 2) rfl
  have q0 := Q1.cell (j := 0) rfl
  have q1 := Q1.cell (j := 1) rfl
  have q2 := Q1.cell (j := 2) rfl
  have h1 := rleq_any a b la lb sa sb w1 B _ _ (by omega) (ha.below hb1 hB) (hb.below hb1 hB)
  cases hr : rleqB a b with
  | false =>
    rw [hr] at h1
    go_enter Tryd.func20, Tryd.ntmps20
    go_wp2_with (go_at_call 18; go_must (refine h1.mono ?_); rintro e w2 ⟨rfl, hb2⟩)
    go_ret
    exact ⟨rfl, hb1.trans (hb2.mono (by omega))⟩
  | true =>
    rw [hr] at h1
    have h2 : ∀ w2, Below w1.heap.size w1 w2 → Calls Tryd.prog 18 #[.agg #[.int .i64 kb, .int .i64 nb, .slice ab jb cb], .agg #[.int .i64 ka, .int .i64 na, .slice aa ja ca]] w2 fun e w' => e = .returned (.bool (rleqB b a)) ∧ Below w2.heap.size w2 w' := fun w2 hb2 => by
      have hb02 : Below w.heap.size w w2 := hb1.trans (hb2.mono (by omega))
      exact rleq_any b a lb la sb sa w2 B _ _ (by have := hb2.size; omega) (hb.below hb02 hB) (ha.below hb02 hB)
    obtain ⟨r, hr2⟩ : ∃ r, rleqB b a = r := ⟨_, rfl⟩
    simp only [hr2] at h2 ⊢
    clear hr2
    go_enter Tryd.func20, Tryd.ntmps20
    go_wp2_with (first
      | (go_at_call 18; refine h1.mono ?_; rintro e w2 ⟨rfl, hb2⟩; have P2 := P1.below hb2 (by omega); have Q2 := Q1.below hb2 (by omega); have s0 := P2.cell (j := 0) rfl; have s1 := P2.cell (j := 1) rfl; have s2 := P2.cell (j := 2) rfl; have t0 := Q2.cell (j := 0) rfl; have t1 := Q2.cell (j := 1) rfl; have t2 := Q2.cell (j := 2) rfl; clear h1)
      | (go_at_call 18; refine (h2 w2 hb2).mono ?_; rintro e w3 ⟨rfl, hb3⟩))
    go_ret
    have hz2 := hb2.size
    exact ⟨by simp, (hb1.trans (hb2.mono (by omega))).trans (hb3.mono (by omega))⟩
end Go.Proofs.YtogfmpjgmabomaaDoor
