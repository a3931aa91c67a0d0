/- The walk of the document's May of terms; that it is what term's May tells. No condition but that the term lies in memory, and for the second that it has fewer than 2^20 parts. -/
import Derived.Test.YthoomofmjdhfbaaDoorRTMay
namespace Go.Proofs.YthoomofmjdhfbaaDoor
open Go.RowKit

theorem rmayt_any (q : Int) (T : Tr) : ∀ (b : Int) (w : World) (B : Nat), 0 ≤ b → b ≤ 9223372036854775807 → B ≤ w.heap.size → TIn w (· < B) T →
      Calls Tryd.prog 37 #[T.val, .int .i64 b, .int .i64 q] w fun e w' => e = .returned (.int .i64 (T.rE q b)) ∧ Below w.heap.size w w' := by
  refine Tr.ind' (P := fun T => ∀ (b : Int) (w : World) (B : Nat), 0 ≤ b → b ≤ 9223372036854775807 → B ≤ w.heap.size → TIn w (· < B) T →
      Calls Tryd.prog 37 #[T.val, .int .i64 b, .int .i64 q] w fun e w' => e = .returned (.int .i64 (T.rE q b)) ∧ Below w.heap.size w w') ?_ T
  intro T ih b w B h1 h2 h3 h4
  exact rmayt_node q T ih b w B h1 h2 h3 h4

/-- What the document's May tells. -/
def rmayE (T : Tr) (bd q : Int) : Int := if T.wleB 1048576 = false then 5 else if 2000 < T.size then 3 else if 100 < T.depth then 6 else T.rE q (max bd 0)

set_option maxRecDepth 100000 in
set_option maxHeartbeats 1000000 in
theorem rtmay_any (T : Tr) (bd q : Int) (w : World) (B : Nat) (hbd : bd ≤ 9223372036854775807) (hB : B ≤ w.heap.size) (hin : TIn w (· < B) T) :
    Calls Tryd.prog 10 #[T.val, .int .i64 bd, .int .i64 q] w fun e w' => e = .returned (.int .i64 (rmayE T bd q)) ∧ Below w.heap.size w w' := by
  obtain ⟨w1, hw1, hb1, X1, hs1⟩ := one_new w (tl T) 25
  obtain ⟨r, HR⟩ : ∃ r, Hid (rmayE T bd q = r) := ⟨_, rfl⟩
  rw [HR.out]
  have F1 : T.wleB 1048576 = false → r = 5 := fun h => by rw [← HR.out]; unfold rmayE; rw [if_pos h]
  have F2 : T.wleB 1048576 = true → 2000 < T.size → r = 3 := fun h h2 => by rw [← HR.out]; unfold rmayE; rw [if_neg (by rw [h]; simp), if_pos h2]
  have F3 : T.wleB 1048576 = true → ¬ 2000 < T.size → 100 < T.depth → r = 6 := fun h h2 h3 => by rw [← HR.out]; unfold rmayE; rw [if_neg (by rw [h]; simp), if_neg h2, if_pos h3]
  have F4 : T.wleB 1048576 = true → ¬ 2000 < T.size → ¬ 100 < T.depth → r = T.rE q (max bd 0) := fun h h2 h3 => by rw [← HR.out]; unfold rmayE; rw [if_neg (by rw [h]; simp), if_neg h2, if_neg h3]
  clear HR
  have c36 := rwhole_any T 1048576 w1 B (by omega) (by omega) (by omega) (hin.below hb1 hB)
  have up : ∀ w2, Below w1.heap.size w1 w2 → Below w.heap.size w w2 := fun w2 hb2 => hb1.trans (hb2.mono (by omega))
  unfold Tr.val at *
  unfold tl at hw1 X1
  have x0 := X1.cell (j := 0) rfl
  have x1 := X1.cell (j := 1) rfl
  have x2 := X1.cell (j := 2) rfl
  have x3 := X1.cell (j := 3) rfl
  have x4 := X1.cell (j := 4) rfl
  cases hw : T.wleB 1048576 with
  | false =>
    rw [hw] at c36
    obtain rfl := F1 hw
    clear F1 F2 F3 F4
    go_enter Tryd.func10, Tryd.ntmps10
    go_wp2_with (go_at_call 36; refine c36.mono ?_; rintro e w2 ⟨rfl, hb2⟩)
    go_ret
    exact ⟨rfl, up _ hb2⟩
  | true =>
    rw [hw] at c36
    replace F2 := F2 hw
    replace F3 := F3 hw
    replace F4 := F4 hw
    have c8 : ∀ w2, Below w1.heap.size w1 w2 → Calls Tryd.prog 8 #[.agg #[.int .i64 T.k, .int .i64 T.n, .string T.s, .slice T.la T.ls.length T.lc, .slice T.a T.args.length T.c], .int .i64 2000] w2 fun e w' => e = .returned (.int .i64 (min (T.size : Int) (max 2000 0 + 1))) ∧ Below w2.heap.size w2 w' :=
      fun w2 hb2 => rsize_any T 2000 w2 B (by omega) (.inl (by omega)) (by have := (up w2 hb2).size; omega) (hin.below (up w2 hb2) hB)
    have c13 : ∀ w2, Below w1.heap.size w1 w2 → Calls Tryd.prog 13 #[.agg #[.int .i64 T.k, .int .i64 T.n, .string T.s, .slice T.la T.ls.length T.lc, .slice T.a T.args.length T.c], .int .i64 100] w2 fun e w' => e = .returned (.int .i64 (min (T.depth : Int) (max 100 0 + 1))) ∧ Below w2.heap.size w2 w' :=
      fun w2 hb2 => rdepth_any T 100 w2 B (by omega) (.inl (by omega)) (by have := (up w2 hb2).size; omega) (hin.below (up w2 hb2) hB)
    have c37 : ∀ w2 (b : Int), 0 ≤ b → b ≤ 9223372036854775807 → Below w1.heap.size w1 w2 → Calls Tryd.prog 37 #[.agg #[.int .i64 T.k, .int .i64 T.n, .string T.s, .slice T.la T.ls.length T.lc, .slice T.a T.args.length T.c], .int .i64 b, .int .i64 q] w2 fun e w' => e = .returned (.int .i64 (T.rE q b)) ∧ Below w2.heap.size w2 w' :=
      fun w2 b h0 h1 hb2 => rmayt_any q T b w2 B h0 h1 (by have := (up w2 hb2).size; omega) (hin.below (up w2 hb2) hB)
    clear F1 hw
    by_cases h2k : 2000 < T.size
    · obtain rfl := F2 h2k
      rw [show min (T.size : Int) (max 2000 0 + 1) = 2001 by omega] at c8
      clear F2 F3 F4 c13 c37
      go_enter Tryd.func10, Tryd.ntmps10
      go_wp2_with (first | (go_at_call 36; refine c36.mono ?_; rintro e w2 ⟨rfl, hb2⟩; have X2 := X1.below hb2 X1.lt; have y0 := X2.cell (j := 0) rfl; have y1 := X2.cell (j := 1) rfl; have y2 := X2.cell (j := 2) rfl; have y3 := X2.cell (j := 3) rfl; have y4 := X2.cell (j := 4) rfl) | (go_at_call 8; refine (c8 w2 hb2).mono ?_; rintro e w3 ⟨rfl, hb3⟩))
      go_ret
      exact ⟨rfl, up _ (hb2.trans (hb3.mono hb2.size))⟩
    · rw [show min (T.size : Int) (max 2000 0 + 1) = (T.size : Int) by omega] at c8
      have hd2 : decide ((2000 : Int) < (T.size : Int)) = false := by simp; omega
      replace F3 := F3 h2k
      replace F4 := F4 h2k
      clear F2
      by_cases h100 : 100 < T.depth
      · obtain rfl := F3 h100
        rw [show min (T.depth : Int) (max 100 0 + 1) = 101 by omega] at c13
        clear F3 F4 c37
        go_enter Tryd.func10, Tryd.ntmps10
        go_wp2_with (first | (go_at_call 36; refine c36.mono ?_; rintro e w2 ⟨rfl, hb2⟩; have X2 := X1.below hb2 X1.lt; have y0 := X2.cell (j := 0) rfl; have y1 := X2.cell (j := 1) rfl; have y2 := X2.cell (j := 2) rfl; have y3 := X2.cell (j := 3) rfl; have y4 := X2.cell (j := 4) rfl) | (go_at_call 8; refine (c8 w2 hb2).mono ?_; rintro e w3 ⟨rfl, hb3'⟩; have hb3 := hb2.trans (hb3'.mono hb2.size); have X3 := X1.below hb3 X1.lt; have z0 := X3.cell (j := 0) rfl; have z1 := X3.cell (j := 1) rfl; have z2 := X3.cell (j := 2) rfl; have z3 := X3.cell (j := 3) rfl; have z4 := X3.cell (j := 4) rfl) | (go_at_call 13; refine (c13 w3 hb3).mono ?_; rintro e w4 ⟨rfl, hb4⟩))
        go_ret
        exact ⟨rfl, up _ (hb3.trans (hb4.mono hb3.size))⟩
      · rw [show min (T.depth : Int) (max 100 0 + 1) = (T.depth : Int) by omega] at c13
        have hd3 : decide ((100 : Int) < (T.depth : Int)) = false := by simp; omega
        obtain ⟨bq, HB, hcase⟩ : ∃ bq, Hid (max bd 0 = bq) ∧ ((0 ≤ bd ∧ bq = bd) ∨ (bd < 0 ∧ bq = 0)) := by
          by_cases h : 0 ≤ bd
          · exact ⟨bd, by show _ = _; omega, .inl ⟨h, rfl⟩⟩
          · exact ⟨0, by show _ = _; omega, .inr ⟨by omega, rfl⟩⟩
        have hF := F4 h100
        rw [HB.out] at hF
        subst hF
        have c37' := fun w2 => c37 w2 bq (by omega) (by omega)
        clear F3 F4 c37 HB
        rcases hcase with ⟨hm, rfl⟩ | ⟨hm, rfl⟩
        all_goals
          go_enter Tryd.func10, Tryd.ntmps10
          go_wp2_with (first | (go_at_call 36; refine c36.mono ?_; rintro e w2 ⟨rfl, hb2⟩; have X2 := X1.below hb2 X1.lt; have y0 := X2.cell (j := 0) rfl; have y1 := X2.cell (j := 1) rfl; have y2 := X2.cell (j := 2) rfl; have y3 := X2.cell (j := 3) rfl; have y4 := X2.cell (j := 4) rfl) | (go_at_call 8; refine (c8 w2 hb2).mono ?_; rintro e w3 ⟨rfl, hb3'⟩; have hb3 := hb2.trans (hb3'.mono hb2.size); have X3 := X1.below hb3 X1.lt; have z0 := X3.cell (j := 0) rfl; have z1 := X3.cell (j := 1) rfl; have z2 := X3.cell (j := 2) rfl; have z3 := X3.cell (j := 3) rfl; have z4 := X3.cell (j := 4) rfl) | (go_at_call 13; refine (c13 w3 hb3).mono ?_; rintro e w4 ⟨rfl, hb4'⟩; have hb4 := hb3.trans (hb4'.mono hb3.size); have X4 := X1.below hb4 X1.lt; have v0 := X4.cell (j := 0) rfl; have v1 := X4.cell (j := 1) rfl; have v2 := X4.cell (j := 2) rfl; have v3 := X4.cell (j := 3) rfl; have v4 := X4.cell (j := 4) rfl) | (go_at_call 37; refine (c37' w4 hb4).mono ?_; rintro e w5 ⟨rfl, hb5⟩))
          go_ret
          exact ⟨rfl, up _ (hb4.trans (hb5.mono hb4.size))⟩

/-! ### They tell the same -/
theorem allW_append (a b : List Pt) : allW (a ++ b) = (allW a && allW b) := by unfold allW; rw [List.all_append]
theorem allW_seqs (k : Int) (b off d m : Nat) (l : List Tr) : (∀ T ∈ l, ∀ b off d m, allW (T.seq b off d m) = T.allB) → ∀ i, allW (Tr.seqs k b off d m i l) = Tr.allsB l := by
  induction l with
  | nil => intro _ i; simp [Tr.seqs, allW, Tr.allsB]
  | cons x r ih => intro h i; rw [Tr.seqs, allW_append, h x (by simp), ih (fun T hT => h T (by simp [hT])), Tr.allsB]
theorem allW_seq (T : Tr) : ∀ b off d m, allW (T.seq b off d m) = T.allB := by
  refine Tr.ind (P := fun T => ∀ b off d m, allW (T.seq b off d m) = T.allB) ?_ T
  intro k n s ls la lc a c b off args ih b' off' d m
  rw [Tr.seq, Tr.allB]
  have := allW_seqs k b off (d + 1) m args ih 0
  unfold allW at this ⊢
  rw [List.all_cons, this]

/-- Binders as they are counted on both sides. -/
def Rel (b x : Int) : Prop := b = x ∨ (1073741824 < b ∧ 1073741824 < x)
theorem Rel.up {b x : Int} (h : Rel b x) (k : Int) (i : Nat) : Rel (bup b k i) (x + (bnd k i : Nat)) := by
  have := bnd_le k i
  unfold Rel bup at *
  split
  · omega
  · omega
theorem ownE_chk (T : Tr) (hw : T.wholeB = true) (b bd q : Int) (hbd : 0 ≤ bd) (p : Pt) (hp : p.t = T) (h : Rel b (bd + p.m)) : T.ownE q b = p.chkE bd q := by
  unfold Tr.wholeB at hw
  simp only [Bool.and_eq_true] at hw
  obtain ⟨hf, hw⟩ := hw
  unfold Tr.ownE Pt.chkE Pt.varE Pt.freeN Pt.freeB Tr.conE
  rw [hp]
  have h07 := lvE_two T q
  by_cases h0 : T.k = 0
  · rw [if_pos h0] at hw
    unfold varB at hw
    simp only [Bool.and_eq_true, decide_eq_true_eq] at hw
    have hl : T.lvE q = 0 := by unfold Tr.lvE; rw [List.eq_nil_of_length_eq_zero hw.2.2.2]; simp [lvsB]
    rw [hl, if_pos h0]
    simp only [h0, decide_true, Bool.true_and, ne_eq, not_true, if_false]
    have hk2 : ¬ ((0 : Int) = 2 ∧ (emB T.s = true ∨ 24 < T.s.size)) := fun h => by cases h.1
    rw [if_neg hk2]
    unfold Rel at h
    by_cases hb : b ≤ T.n
    · rw [if_pos ⟨trivial, hb⟩, if_pos]
      have hm : (p.m : Int) ≤ T.n := by omega
      refine ⟨by simpa using hm, ?_⟩
      rw [if_pos (by simpa using hm)]; omega
    · rw [if_neg (fun h => hb h.2), if_neg]
      rintro ⟨h1, h2⟩
      rw [if_pos h1] at h2
      simp at h1
      omega
  · rw [if_neg (fun h => h0 h.1), if_neg h0]
    by_cases h1 : T.k = 1
    · rw [if_pos h1]
      have : ¬ (T.k = 2 ∧ (emB T.s = true ∨ 24 < T.s.size)) := fun h => by omega
      rw [if_neg this]
      rcases h07 with h | h <;> rw [h] <;> simp
    · rw [if_neg h1]
      by_cases h2 : T.k = 2
      · rw [if_pos h2]
        simp only [h2, true_and]
        rcases h07 with h | h <;> rw [h] <;> simp
      · rw [if_neg h0, if_neg h1, if_neg h2] at hw
        unfold bareB at hw
        simp only [Bool.and_eq_true, decide_eq_true_eq] at hw
        have hl : T.lvE q = 0 := by unfold Tr.lvE; rw [List.eq_nil_of_length_eq_zero hw.2.2]; simp [lvsB]
        rw [hl, if_neg h2]
        simp [h2]

theorem rE_seqs (q bd k : Int) (b off d m : Nat) (x : Int) (l : List Tr) : (∀ T ∈ l, ∀ b off d m x, T.allB = true → Rel x (bd + (m : Nat)) → T.rE q x = firstE bd q (T.seq b off d m)) → Tr.allsB l = true → Rel x (bd + (m : Nat)) → ∀ i, Tr.rEs q k x i l = firstE bd q (Tr.seqs k b off d m i l) := by
  induction l with
  | nil => intro _ _ _ i; simp [Tr.rEs, Tr.seqs, firstE]
  | cons y r ih =>
    intro h ha hR i
    simp only [Tr.allsB, Bool.and_eq_true] at ha
    have hy := h y (by simp) b (off + i * 5) d (m + bnd k i) (bup x k i) ha.1 (by have := hR.up k i; rw [show bd + ((m + bnd k i : Nat) : Int) = bd + (m : Nat) + (bnd k i : Nat) by omega]; exact this)
    have hr := ih (fun T hT => h T (by simp [hT])) ha.2 hR (i + 1)
    rw [Tr.rEs, Tr.seqs, hy, hr]
    by_cases he : firstE bd q (y.seq b (off + i * 5) d (m + bnd k i)) = 0
    · rw [if_neg (by simpa using he), firstE_append _ _ he]
    · rw [if_pos he, firstE_stop _ _ he]
theorem rE_seq (q bd : Int) (hbd : 0 ≤ bd) (T : Tr) : ∀ b off d m x, T.allB = true → Rel x (bd + (m : Nat)) → T.rE q x = firstE bd q (T.seq b off d m) := by
  refine Tr.ind (P := fun T => ∀ b off d m x, T.allB = true → Rel x (bd + (m : Nat)) → T.rE q x = firstE bd q (T.seq b off d m)) ?_ T
  intro k n s ls la lc a c tb off args ih b' off' d m x ha hR
  rw [Tr.allB] at ha
  simp only [Bool.and_eq_true] at ha
  rw [Tr.rE, Tr.seq, firstE, ownE_chk _ ha.1 x bd q hbd ⟨b', off', .mk k n s ls la lc a c tb off args, d, m⟩ rfl hR, rE_seqs q bd k tb off (d + 1) m x args ih ha.2 hR 0]

theorem may_same (g : Nat) (T : Tr) (bd q : Int) (hsz : T.size < 1048576) : mayE g T bd q = rmayE T bd q := by
  unfold mayE rmayE
  have h1 : allW (Pt.mk g 0 T 1 0).seq = T.allB := allW_seq T g 0 1 0
  have h2 : T.wleB 1048576 = T.allB := by unfold Tr.wleB; rw [decide_eq_true (by omega), Bool.and_true]
  rw [h1, h2]
  cases ha : T.allB with
  | false => rfl
  | true =>
    have h3 : T.rE q (max bd 0) = firstE (max bd 0) q (Pt.mk g 0 T 1 0).seq := rE_seq q (max bd 0) (by omega) T g 0 1 0 (max bd 0) ha (.inl (by simp))
    rw [h3]
end Go.Proofs.YthoomofmjdhfbaaDoor
