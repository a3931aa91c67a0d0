/- The walk of term's Depth. No condition but that the term lies in memory, that it has fewer than 2^20 parts, and that the tables hold what the program's text lays. -/
import Derived.Test.YtekdalbhgdkckaaGreatDoorSize
namespace Go.Proofs.YtekdalbhgdkckaaGreatDoor
open Go.RowKit Go.Shelf

attribute [local go_sem] Oper.semAt_some

mutual

/-- How deep a term is. -/
def Tr.depth : Tr → Nat
  | .mk _ _ _ _ _ _ _ _ _ _ args => Tr.depths args + 1

def Tr.depths : List Tr → Nat
  | [] => 0
  | T :: r => max T.depth (Tr.depths r)

end

theorem Tr.depth_eq (T : Tr) : T.depth = Tr.depths T.args + 1 := by cases T; simp only [Tr.depth, Tr.args]

/-- The greatest depth so far. -/
def dm : Nat → List Pt → Nat
  | M, [] => M
  | M, p :: r => dm (max M p.d) r

/-- No part is deeper than the deepest ahead of it by more than one. -/
def okD : Nat → List Pt → Prop
  | _, [] => True
  | M, p :: r => p.d ≤ M + 1 ∧ okD (max M p.d) r

theorem dm_append (a b : List Pt) : ∀ M, dm M (a ++ b) = dm (dm M a) b := by
  induction a with
  | nil => intro M; rfl
  | cons x r ih => intro M; simp only [List.cons_append, dm, ih]

theorem okD_append (a b : List Pt) : ∀ M, okD M (a ++ b) ↔ okD M a ∧ okD (dm M a) b := by
  induction a with
  | nil => intro M; simp [okD, dm]
  | cons x r ih => intro M; simp only [List.cons_append, okD, dm, ih, and_assoc]

theorem dm_ge (a : List Pt) : ∀ M, M ≤ dm M a := by
  induction a with
  | nil => intro M; exact Nat.le_refl _
  | cons x r ih => intro M; simp only [dm]; have := ih (max M x.d); omega

theorem dm_seqs (k : Int) (b off d m : Nat) (l : List Tr) : (∀ T ∈ l, ∀ b off d m M, 1 ≤ d → d ≤ M + 1 → dm M (T.seq b off d m) = max M (d - 1 + T.depth) ∧ okD M (T.seq b off d m)) → ∀ i M, 1 ≤ d → d ≤ M + 1 →
    dm M (Tr.seqs k b off d m i l) = max M (if l = [] then 0 else d - 1 + Tr.depths l) ∧ okD M (Tr.seqs k b off d m i l) := by
  induction l with
  | nil => intro _ i M _ _; simp [Tr.seqs, dm, okD]
  | cons x r ih =>
    intro h i M h1 h2
    have hx := h x (by simp) b (off + i * 5) d (m + bnd k i) M h1 h2
    have hr := ih (fun T hT => h T (by simp [hT])) (i + 1) (dm M (x.seq b (off + i * 5) d (m + bnd k i))) h1 (by have := dm_ge (x.seq b (off + i * 5) d (m + bnd k i)) M; omega)
    rw [Tr.seqs, dm_append, okD_append]
    refine ⟨?_, hx.2, hr.2⟩
    rw [hr.1, hx.1]
    by_cases h0 : r = []
    · subst h0; simp [Tr.depths]
    · simp only [h0, if_false, Tr.depths, reduceCtorEq]; omega

theorem dm_seq (T : Tr) : ∀ b off d m M, 1 ≤ d → d ≤ M + 1 → dm M (T.seq b off d m) = max M (d - 1 + T.depth) ∧ okD M (T.seq b off d m) := by
  refine Tr.ind (P := fun T => ∀ b off d m M, 1 ≤ d → d ≤ M + 1 → dm M (T.seq b off d m) = max M (d - 1 + T.depth) ∧ okD M (T.seq b off d m)) ?_ T
  intro k n s ls la lc a c b off args ih b' off' d m M h1 h2
  have := dm_seqs k b off (d + 1) m args ih 0 (max M d) (by omega) (by omega)
  rw [Tr.seq]
  simp only [dm, okD, Tr.depth]
  refine ⟨?_, h2, this.2⟩
  rw [this.1]
  by_cases h0 : args = []
  · subst h0; simp [Tr.depths]; omega
  · simp only [h0, if_false]; omega

theorem dm_root (g : Nat) (T : Tr) : dm 0 (Pt.mk g 0 T 1 0).seq = T.depth ∧ okD 0 (Pt.mk g 0 T 1 0).seq := by
  have := dm_seq T g 0 1 0 0 (by omega) (by omega)
  simp only [Pt.seq]
  refine ⟨?_, this.2⟩
  rw [this.1]; omega

set_option maxRecDepth 100000 in
set_option maxHeartbeats 2000000 in
theorem depth_any (T : Tr) (most : Int) (w : World) (B : Nat) (hT : Tabs w) (h3 : 5 ≤ B) (hB : B ≤ w.heap.size) (hin : TIn w (· < B) T) (hsz : T.size < 1048576) :
    Calls Tryz.prog 90 #[T.val, .int .i64 most] w fun e w' => e = .returned (.int .i64 (min (T.depth : Int) (max most 0 + 1))) ∧ Below w.heap.size w w' := by
  refine (callsIn_wide (n := 9)).1 ?_
  refine callsIn_of_wp_marks Tryz.func90 rfl trivial ?_ rfl
  unfold Tr.val
  simp only [Tryz.ntmps90, List.size_toArray, List.length_cons, List.length_nil, Nat.reduceAdd, Nat.reduceSub, Array.replicate_succ, Array.replicate_zero, List.push_toArray, List.append_toArray, List.nil_append, List.cons_append]
  obtain ⟨q, HQ, hcase⟩ : ∃ q, Hid (max most 0 = q ∧ 0 ≤ q) ∧ ((0 ≤ most ∧ q = most) ∨ (most < 0 ∧ q = 0)) := by
    by_cases h : 0 ≤ most
    · exact ⟨most, ⟨by omega, h⟩, .inl ⟨h, rfl⟩⟩
    · exact ⟨0, ⟨by omega, by omega⟩, .inr ⟨by omega, rfl⟩⟩
  rw [HQ.out.1]
  have hdr := dm_root w.heap.size T
  rcases hcase with ⟨hm, rfl⟩ | ⟨hm, hq0⟩
  · gi_wp2_with fail
    with_reducible refine And.intro (wide_fn 87) ?_
    refine (callsIn_wide.2 (parts_fn w.heap.size 0 _)).mono ?_
    rintro e w' ⟨rfl, rfl⟩
    dsimp only
    obtain ⟨w4, hw4, hb4, P0, P1, P2, P3, hs4⟩ := four_new w [.int .i64 T.k, .int .i64 T.n, .string T.s, .slice T.la T.ls.length T.lc, .slice T.a T.args.length T.c] [.int .i64 q] [.int .i64 0] [.pointer (some ⟨w.heap.size, 0, none⟩)] 29 3 3 131
    rw [hw4]
    simp only [World.size_alloc]
    clear hw4
    gi_wp2_with fail
    have hseq := parts1_seq B (w.heap.size + 1 + 1 + 1) ⟨w.heap.size, 0, T, 1, 0⟩ w4 rfl rfl (hT.on hb4) h3 (by omega) (by omega) (tcells_box P0) (hin.below hb4 hB) (P3.cell (j := 0) rfl) hsz
    have HH : Hid (dm 0 (Pt.mk w.heap.size 0 T 1 0).seq = T.depth ∧ okD 0 (Pt.mk w.heap.size 0 T 1 0).seq) := hdr
    clear hsz hdr
    refine wpIn_rngb (by rfl) enters60 hseq (fun k h => by simp only at h; omega) (fun _ => rfl)
      (fun pre X W => Below w.heap.size w W ∧ Blk W (w.heap.size + 1) 3 [.int .i64 q] ∧ Blk W (w.heap.size + 1 + 1) 3 [.int .i64 ((dm 0 pre : Nat) : Int)] ∧ w.heap.size + 4 ≤ W.heap.size ∧ ((dm 0 pre : Nat) : Int) ≤ q)
      (fun c pre W => c = .exit 0 ∧ Below w.heap.size w W ∧ Blk W (w.heap.size + 1 + 1) 3 [.int .i64 ((dm 0 pre : Nat) : Int)] ∧ ((dm 0 pre : Nat) : Int) = q + 1 ∧ w.heap.size + 4 ≤ W.heap.size) ?hI ?hIx ?h0 ?hround ?hdone ?hstop
    case hI =>
      rintro pre X X' A B' ⟨h1, h2, h4, h5, h6⟩ hX hk _ _
      have nx : ∀ k, k < w.heap.size + 4 → ¬ (X k ∨ k = w4.heap.size ∨ k = w4.heap.size + 1) := fun k hk h => by
        rcases h with h | h
        · have := hX k h; omega
        · omega
      exact ⟨bel_keep h1 hk (by omega) (fun k h => by by_cases hc : k < w.heap.size + 4; exact absurd h (nx k hc); omega), h2.keep hk (nx _ (by omega)), h4.keep hk (nx _ (by omega)), Nat.le_trans h5 hk.size, h6⟩
    case hIx =>
      rintro c pre A B' ⟨h0, h1, h4, h6, h7⟩ hk
      exact ⟨h0, bel_keep h1 hk (by omega) (fun k h => by omega), h4.keep hk (by omega), h6, Nat.le_trans h7 hk.size⟩
    case h0 => exact ⟨hb4, P1, P2, by omega, by have := HQ.out; show ((0 : Nat) : Int) ≤ q; omega⟩
    case hround =>
      intro l pre x rest X W K hxs hX hsz2 hI0 hK
      obtain ⟨xb, xoff, xt, xd, xm⟩ := x
      have HXS : Hid (okD 0 (Pt.mk w.heap.size 0 T 1 0).seq → xd ≤ dm 0 pre + 1) := fun h => by rw [hxs, okD_append] at h; exact h.2.1
      clear hxs hI0
      dsimp only [Pt.val]
      have hwk : ∀ a W', K a W' ↔ K a W' := fun _ _ => Iff.rfl
      gi_wp2_with fail
      obtain ⟨Wa, hwa, hba, Pa, hsa⟩ := one_new W [.pointer (some ⟨xb, xoff, none⟩), .int .i64 (xd : Int), .int .i64 (xm : Int)] 178
      rw [hwa]
      refine hK _ _ (Keep.of_below hba (Nat.le_refl _)) ?_
      clear hK hwk hwa
      rintro W2 hk2 ⟨h1, h2, h4, h5, h6⟩
      have Pb := Pa.keep hk2 (by omega)
      have hd := HXS.out HH.out.2
      have c2 := h2.cell (j := 0) rfl
      have c4 := h4.cell (j := 0) rfl
      have f4 := h4.frozen 0
      have cp0 := Pb.cell (j := 0) rfl
      have cp := Pb.cell (j := 1) rfl
      have cp2 := Pb.cell (j := 2) rfl
      have hn : w.heap.size + 1 ≠ w.heap.size + 1 + 1 := by omega
      have hn' : w.heap.size + 1 + 1 ≠ w.heap.size + 1 := by omega
      have hdm : dm 0 (pre ++ [⟨xb, xoff, xt, xd, xm⟩]) = max (dm 0 pre) xd := by rw [dm_append]; rfl
      obtain ⟨E, hE⟩ : ∃ E, max (dm 0 pre) xd = E := ⟨_, rfl⟩
      rw [hE] at hdm
      have HDM : Hid (dm 0 (pre ++ [⟨xb, xoff, xt, xd, xm⟩]) = E) := hdm
      clear hdm
      generalize dm 0 pre = D at *
      have hk : Keep W2 (W2.setCell ⟨w.heap.size + 1 + 1, 0, none⟩ (.int .i64 (E : Int))) (fun k => k = w.heap.size + 1 + 1) := (Keep.refl W2 (fun k => k = w.heap.size + 1 + 1)).setCell (fun _ => rfl) _ _
      have b4 : Blk (W2.setCell ⟨w.heap.size + 1 + 1, 0, none⟩ (.int .i64 (E : Int))) (w.heap.size + 1 + 1) 3 [.int .i64 (E : Int)] := h4.set 0 (.int .i64 (E : Int))
      have out : (q < (E : Int) ∧ decide (q < (E : Int)) = true) ∨ (¬ q < (E : Int) ∧ decide (q < (E : Int)) = false) := by
        by_cases h : q < (E : Int)
        · exact .inl ⟨h, by simpa using h⟩
        · exact .inr ⟨h, by simpa using h⟩
      have hcmp : (D < xd ∧ E = xd) ∨ (¬ D < xd ∧ E = D) := by omega
      clear hE
      rcases hcmp with ⟨hc, rfl⟩ | ⟨hc, rfl⟩
      · rcases out with ⟨hlt, hdec⟩ | ⟨hlt, hdec⟩
        · gi_wp2_with fail
          refine ⟨hk.mono (fun k e => by omega), rfl, bel_keep h1 hk (by omega) (fun k e => by omega), by rw [HDM.out]; exact b4, by rw [HDM.out]; omega, Nat.le_trans h5 hk.size⟩
        · gi_wp2_with fail
          refine ⟨hk.mono (fun k e => ⟨fun h => by have := hX k h; omega, by omega, by omega, by omega⟩), bel_keep h1 hk (by omega) (fun k e => by omega), h2.keep hk hn, by rw [HDM.out]; exact b4, Nat.le_trans h5 hk.size, by rw [HDM.out]; omega⟩
      · rcases out with ⟨hlt, hdec⟩ | ⟨hlt, hdec⟩
        · exfalso; omega
        · gi_wp2_with fail
          refine ⟨hk.mono (fun k e => ⟨fun h => by have := hX k h; omega, by omega, by omega, by omega⟩), bel_keep h1 hk (by omega) (fun k e => by omega), h2.keep hk hn, by rw [HDM.out]; exact b4, Nat.le_trans h5 hk.size, by rw [HDM.out]; omega⟩
    case hdone =>
      rintro X W hX hs ⟨h1, h2, h4, h5, h6⟩ hD
      have c4 := h4.cell (j := 0) rfl
      rw [hs4] at hD
      have HP : Hid (((dm 0 (Pt.mk w.heap.size 0 T 1 0).seq : Nat) : Int) ≤ q) := h6
      clear h6
      gi_wp2_with fail
      refine ⟨by simp, .inl ⟨_, _, rfl, run_takeDeferred hD, ?_⟩⟩
      refine ⟨_, results_tmp rfl _ _ _, ?_, h1.trans ((Keep.put1 W (w.heap.size + 4) _).below (B := w.heap.size) (by omega) (by omega))⟩
      have h8 := HH.out
      have h9 := HP.out
      exact ret_int (by omega)
    case hstop =>
      rintro c pre W hs hpre ⟨rfl, h1, h4, h6, h7⟩ hD
      have c4 := h4.cell (j := 0) rfl
      rw [hs4] at hD
      rw [h6] at c4
      have hpl : dm 0 pre ≤ dm 0 (Pt.mk w.heap.size 0 T 1 0).seq := by
        obtain ⟨r, hr⟩ := hpre
        rw [← hr, dm_append]; exact dm_ge _ _
      have HP : Hid (((dm 0 pre : Nat) : Int) = q + 1 ∧ dm 0 pre ≤ dm 0 (Pt.mk w.heap.size 0 T 1 0).seq) := ⟨h6, hpl⟩
      clear hpl h6 hpre h4
      gi_wp2_with fail
      refine ⟨by simp, .inl ⟨_, _, rfl, run_takeDeferred hD, ?_⟩⟩
      refine ⟨_, results_tmp rfl _ _ _, ?_, h1.trans ((Keep.put1 W (w.heap.size + 4) _).below (B := w.heap.size) (by omega) (by omega))⟩
      have h8 := HH.out
      have h9 := HP.out
      exact ret_int (by omega)
  · have HZ : Hid (q = 0) := hq0
    clear hq0
    gi_wp2_with fail
    with_reducible refine And.intro (wide_fn 87) ?_
    refine (callsIn_wide.2 (parts_fn w.heap.size 0 _)).mono ?_
    rintro e w' ⟨rfl, rfl⟩
    dsimp only
    obtain ⟨w4, hw4, hb4, P0, P1, P2, P3, hs4⟩ := four_new w [.int .i64 T.k, .int .i64 T.n, .string T.s, .slice T.la T.ls.length T.lc, .slice T.a T.args.length T.c] [.int .i64 0] [.int .i64 0] [.pointer (some ⟨w.heap.size, 0, none⟩)] 29 3 3 131
    have hq1 := HZ.out
    rw [show [Value.int .i64 0] = [Value.int .i64 q] by rw [hq1]] at P1
    clear hq1
    rw [hw4]
    simp only [World.size_alloc]
    clear hw4
    gi_wp2_with fail
    have hseq := parts1_seq B (w.heap.size + 1 + 1 + 1) ⟨w.heap.size, 0, T, 1, 0⟩ w4 rfl rfl (hT.on hb4) h3 (by omega) (by omega) (tcells_box P0) (hin.below hb4 hB) (P3.cell (j := 0) rfl) hsz
    have HH : Hid (dm 0 (Pt.mk w.heap.size 0 T 1 0).seq = T.depth ∧ okD 0 (Pt.mk w.heap.size 0 T 1 0).seq) := hdr
    clear hsz hdr
    refine wpIn_rngb (by rfl) enters60 hseq (fun k h => by simp only at h; omega) (fun _ => rfl)
      (fun pre X W => Below w.heap.size w W ∧ Blk W (w.heap.size + 1) 3 [.int .i64 q] ∧ Blk W (w.heap.size + 1 + 1) 3 [.int .i64 ((dm 0 pre : Nat) : Int)] ∧ w.heap.size + 4 ≤ W.heap.size ∧ ((dm 0 pre : Nat) : Int) ≤ q)
      (fun c pre W => c = .exit 0 ∧ Below w.heap.size w W ∧ Blk W (w.heap.size + 1 + 1) 3 [.int .i64 ((dm 0 pre : Nat) : Int)] ∧ ((dm 0 pre : Nat) : Int) = q + 1 ∧ w.heap.size + 4 ≤ W.heap.size) ?hI ?hIx ?h0 ?hround ?hdone ?hstop
    case hI =>
      rintro pre X X' A B' ⟨h1, h2, h4, h5, h6⟩ hX hk _ _
      have nx : ∀ k, k < w.heap.size + 4 → ¬ (X k ∨ k = w4.heap.size ∨ k = w4.heap.size + 1) := fun k hk h => by
        rcases h with h | h
        · have := hX k h; omega
        · omega
      exact ⟨bel_keep h1 hk (by omega) (fun k h => by by_cases hc : k < w.heap.size + 4; exact absurd h (nx k hc); omega), h2.keep hk (nx _ (by omega)), h4.keep hk (nx _ (by omega)), Nat.le_trans h5 hk.size, h6⟩
    case hIx =>
      rintro c pre A B' ⟨h0, h1, h4, h6, h7⟩ hk
      exact ⟨h0, bel_keep h1 hk (by omega) (fun k h => by omega), h4.keep hk (by omega), h6, Nat.le_trans h7 hk.size⟩
    case h0 => exact ⟨hb4, P1, P2, by omega, by have := HQ.out; show ((0 : Nat) : Int) ≤ q; omega⟩
    case hround =>
      intro l pre x rest X W K hxs hX hsz2 hI0 hK
      obtain ⟨xb, xoff, xt, xd, xm⟩ := x
      have HXS : Hid (okD 0 (Pt.mk w.heap.size 0 T 1 0).seq → xd ≤ dm 0 pre + 1) := fun h => by rw [hxs, okD_append] at h; exact h.2.1
      clear hxs hI0
      dsimp only [Pt.val]
      have hwk : ∀ a W', K a W' ↔ K a W' := fun _ _ => Iff.rfl
      gi_wp2_with fail
      obtain ⟨Wa, hwa, hba, Pa, hsa⟩ := one_new W [.pointer (some ⟨xb, xoff, none⟩), .int .i64 (xd : Int), .int .i64 (xm : Int)] 178
      rw [hwa]
      refine hK _ _ (Keep.of_below hba (Nat.le_refl _)) ?_
      clear hK hwk hwa
      rintro W2 hk2 ⟨h1, h2, h4, h5, h6⟩
      have Pb := Pa.keep hk2 (by omega)
      have hd := HXS.out HH.out.2
      have c2 := h2.cell (j := 0) rfl
      have c4 := h4.cell (j := 0) rfl
      have f4 := h4.frozen 0
      have cp0 := Pb.cell (j := 0) rfl
      have cp := Pb.cell (j := 1) rfl
      have cp2 := Pb.cell (j := 2) rfl
      have hn : w.heap.size + 1 ≠ w.heap.size + 1 + 1 := by omega
      have hn' : w.heap.size + 1 + 1 ≠ w.heap.size + 1 := by omega
      have hdm : dm 0 (pre ++ [⟨xb, xoff, xt, xd, xm⟩]) = max (dm 0 pre) xd := by rw [dm_append]; rfl
      obtain ⟨E, hE⟩ : ∃ E, max (dm 0 pre) xd = E := ⟨_, rfl⟩
      rw [hE] at hdm
      have HDM : Hid (dm 0 (pre ++ [⟨xb, xoff, xt, xd, xm⟩]) = E) := hdm
      clear hdm
      generalize dm 0 pre = D at *
      have hk : Keep W2 (W2.setCell ⟨w.heap.size + 1 + 1, 0, none⟩ (.int .i64 (E : Int))) (fun k => k = w.heap.size + 1 + 1) := (Keep.refl W2 (fun k => k = w.heap.size + 1 + 1)).setCell (fun _ => rfl) _ _
      have b4 : Blk (W2.setCell ⟨w.heap.size + 1 + 1, 0, none⟩ (.int .i64 (E : Int))) (w.heap.size + 1 + 1) 3 [.int .i64 (E : Int)] := h4.set 0 (.int .i64 (E : Int))
      have out : (q < (E : Int) ∧ decide (q < (E : Int)) = true) ∨ (¬ q < (E : Int) ∧ decide (q < (E : Int)) = false) := by
        by_cases h : q < (E : Int)
        · exact .inl ⟨h, by simpa using h⟩
        · exact .inr ⟨h, by simpa using h⟩
      have hcmp : (D < xd ∧ E = xd) ∨ (¬ D < xd ∧ E = D) := by omega
      clear hE
      rcases hcmp with ⟨hc, rfl⟩ | ⟨hc, rfl⟩
      · rcases out with ⟨hlt, hdec⟩ | ⟨hlt, hdec⟩
        · gi_wp2_with fail
          refine ⟨hk.mono (fun k e => by omega), rfl, bel_keep h1 hk (by omega) (fun k e => by omega), by rw [HDM.out]; exact b4, by rw [HDM.out]; omega, Nat.le_trans h5 hk.size⟩
        · gi_wp2_with fail
          refine ⟨hk.mono (fun k e => ⟨fun h => by have := hX k h; omega, by omega, by omega, by omega⟩), bel_keep h1 hk (by omega) (fun k e => by omega), h2.keep hk hn, by rw [HDM.out]; exact b4, Nat.le_trans h5 hk.size, by rw [HDM.out]; omega⟩
      · rcases out with ⟨hlt, hdec⟩ | ⟨hlt, hdec⟩
        · exfalso; omega
        · gi_wp2_with fail
          refine ⟨hk.mono (fun k e => ⟨fun h => by have := hX k h; omega, by omega, by omega, by omega⟩), bel_keep h1 hk (by omega) (fun k e => by omega), h2.keep hk hn, by rw [HDM.out]; exact b4, Nat.le_trans h5 hk.size, by rw [HDM.out]; omega⟩
    case hdone =>
      rintro X W hX hs ⟨h1, h2, h4, h5, h6⟩ hD
      have c4 := h4.cell (j := 0) rfl
      rw [hs4] at hD
      have HP : Hid (((dm 0 (Pt.mk w.heap.size 0 T 1 0).seq : Nat) : Int) ≤ q) := h6
      clear h6
      gi_wp2_with fail
      refine ⟨by simp, .inl ⟨_, _, rfl, run_takeDeferred hD, ?_⟩⟩
      refine ⟨_, results_tmp rfl _ _ _, ?_, h1.trans ((Keep.put1 W (w.heap.size + 4) _).below (B := w.heap.size) (by omega) (by omega))⟩
      have h8 := HH.out
      have h9 := HP.out
      exact ret_int (by omega)
    case hstop =>
      rintro c pre W hs hpre ⟨rfl, h1, h4, h6, h7⟩ hD
      have c4 := h4.cell (j := 0) rfl
      rw [hs4] at hD
      rw [h6] at c4
      have hpl : dm 0 pre ≤ dm 0 (Pt.mk w.heap.size 0 T 1 0).seq := by
        obtain ⟨r, hr⟩ := hpre
        rw [← hr, dm_append]; exact dm_ge _ _
      have HP : Hid (((dm 0 pre : Nat) : Int) = q + 1 ∧ dm 0 pre ≤ dm 0 (Pt.mk w.heap.size 0 T 1 0).seq) := ⟨h6, hpl⟩
      clear hpl h6 hpre h4
      gi_wp2_with fail
      refine ⟨by simp, .inl ⟨_, _, rfl, run_takeDeferred hD, ?_⟩⟩
      refine ⟨_, results_tmp rfl _ _ _, ?_, h1.trans ((Keep.put1 W (w.heap.size + 4) _).below (B := w.heap.size) (by omega) (by omega))⟩
      have h8 := HH.out
      have h9 := HP.out
      exact ret_int (by omega)

end Go.Proofs.YtekdalbhgdkckaaGreatDoor
