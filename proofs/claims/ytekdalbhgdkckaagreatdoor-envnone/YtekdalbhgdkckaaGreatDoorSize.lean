/- The walks of term's Size and Depth. No condition but that the term lies in memory, that it has fewer than 2^20 parts, and that the tables hold what the program's text lays. -/
import Derived.Test.YtekdalbhgdkckaaGreatDoorParts
import Derived.Test.YtekdalbhgdkckaaGreatDoorRng
namespace Go.Proofs.YtekdalbhgdkckaaGreatDoor
open Go.RowKit Go.Shelf

attribute [local go_sem] Oper.semAt_some

theorem enters60 (args : Array Value) (w : World) : (callFunc 102 args).run Tryz.prog w = .ok (.enter 102 args) w := enter_of Tryz.func102 (by kernel_rfl) rfl args w

/-- A term's value, boxed: its cells. -/
theorem tcells_box {w : World} {g : Nat} {T : Tr} (h : Blk w g 29 [.int .i64 T.k, .int .i64 T.n, .string T.s, .slice T.la T.ls.length T.lc, .slice T.a T.args.length T.c]) : TCells w g 0 T :=
  ⟨h.cell (j := 0) rfl, h.cell (j := 1) rfl, h.cell (j := 2) rfl, h.cell (j := 3) rfl, h.cell (j := 4) rfl⟩

theorem bel_keep {C : Nat} {w A B : World} {S : Nat → Prop} (h : Below C w A) (hk : Keep A B S) (hC : C ≤ A.heap.size) (hS : ∀ k, S k → C ≤ k) : Below C w B := h.trans (hk.below hC hS)

/-- Four blocks made. -/
theorem four_new (w : World) (l0 l1 l2 l3 : List Value) (t0 t1 t2 t3 : TypeId) : ∃ w1, (((w.alloc (.cells l0.toArray t0)).alloc (.cells l1.toArray t1)).alloc (.cells l2.toArray t2)).alloc (.cells l3.toArray t3) = w1 ∧ Below w.heap.size w w1 ∧
    Blk w1 w.heap.size t0 l0 ∧ Blk w1 (w.heap.size + 1) t1 l1 ∧ Blk w1 (w.heap.size + 1 + 1) t2 l2 ∧ Blk w1 (w.heap.size + 1 + 1 + 1) t3 l3 ∧ w1.heap.size = w.heap.size + 4 := by
  obtain ⟨a, ha, hb, p0, p1, hs⟩ := two_new w l0 l1 t0 t1
  obtain ⟨a', ha', hb', p2, p3, hs'⟩ := two_new a l2 l3 t2 t3
  subst ha
  refine ⟨a', ha', hb.trans (hb'.mono (by omega)), p0.below hb' p0.lt, p1.below hb' p1.lt, ?_, ?_, by omega⟩
  · rw [hs] at p2; exact p2
  · rw [hs] at p3; exact p3

set_option maxRecDepth 100000 in
set_option maxHeartbeats 2000000 in
theorem size_any (T : Tr) (most : Int) (w : World) (B : Nat) (hT : Tabs w) (h3 : 5 ≤ B) (hB : B ≤ w.heap.size) (hin : TIn w (· < B) T) (hsz : T.size < 1048576) :
    Calls Tryz.prog 89 #[T.val, .int .i64 most] w fun e w' => e = .returned (.int .i64 (min (T.size : Int) (max most 0 + 1))) ∧ Below w.heap.size w w' := by
  refine (callsIn_wide (n := 9)).1 ?_
  refine callsIn_of_wp_marks Tryz.func89 rfl trivial ?_ rfl
  unfold Tr.val
  simp only [Tryz.ntmps89, List.size_toArray, List.length_cons, List.length_nil, Nat.reduceAdd, Nat.reduceSub, Array.replicate_succ, Array.replicate_zero, List.push_toArray, List.append_toArray, List.nil_append, List.cons_append]
  obtain ⟨q, HQ, hcase⟩ : ∃ q, Hid (max most 0 = q ∧ 0 ≤ q) ∧ ((0 ≤ most ∧ q = most) ∨ (most < 0 ∧ q = 0)) := by
    by_cases h : 0 ≤ most
    · exact ⟨most, ⟨by omega, h⟩, .inl ⟨h, rfl⟩⟩
    · exact ⟨0, ⟨by omega, by omega⟩, .inr ⟨by omega, rfl⟩⟩
  rw [HQ.out.1]
  have hlen : (Pt.mk w.heap.size 0 T 1 0).seq.length = T.size := Tr.seq_len _ _ _ _ _
  rcases hcase with ⟨hm, rfl⟩ | ⟨hm, hq0⟩
  · gi_wp2_with fail
    with_reducible refine And.intro (wide_fn 87) ?_
    refine (callsIn_wide.2 (parts_fn w.heap.size 0 _)).mono ?_
    rintro e w' ⟨rfl, rfl⟩
    dsimp only
    obtain ⟨w4, hw4, hb4, P0, P1, P2, P3, hs4⟩ := four_new w [.int .i64 T.k, .int .i64 T.n, .string T.s, .slice T.la T.ls.length T.lc, .slice T.a T.args.length T.c] [.int .i64 q] [.int .i64 0] [.pointer (some ⟨w.heap.size, 0, none⟩)] 29 3 3 131
    rw [hw4]
    simp only [World.size_alloc]
    clear hw4
    gi_wp2_with fail
    have hseq := parts1_seq B (w.heap.size + 1 + 1 + 1) ⟨w.heap.size, 0, T, 1, 0⟩ w4 rfl rfl (hT.on hb4) h3 (by omega) (by omega) (tcells_box P0) (hin.below hb4 hB) (P3.cell (j := 0) rfl) hsz
    have HH : Hid (T.size < 1048576 ∧ (Pt.mk w.heap.size 0 T 1 0).seq.length = T.size) := ⟨hsz, hlen⟩
    clear hsz hlen
    refine wpIn_rng (by rfl) enters60 hseq (fun k h => by simp only at h; omega) (fun _ => rfl)
      (fun pre X W => Below w.heap.size w W ∧ Blk W (w.heap.size + 1) 3 [.int .i64 q] ∧ Blk W (w.heap.size + 1 + 1) 3 [.int .i64 ((pre.length : Nat) : Int)] ∧ w.heap.size + 4 ≤ W.heap.size ∧ ((pre.length : Nat) : Int) ≤ q)
      (fun c pre W => c = .exit 0 ∧ Below w.heap.size w W ∧ Blk W (w.heap.size + 1 + 1) 3 [.int .i64 ((pre.length : Nat) : Int)] ∧ ((pre.length : Nat) : Int) = q + 1 ∧ w.heap.size + 4 ≤ W.heap.size) ?hI ?hIx ?h0 ?hround ?hdone ?hstop
    case hI =>
      rintro pre X X' A B' ⟨h1, h2, h4, h5, h6⟩ hX hk _ _
      have nx : ∀ k, k < w.heap.size + 4 → ¬ (X k ∨ k = w4.heap.size ∨ k = w4.heap.size + 1) := fun k hk h => by
        rcases h with h | h
        · have := hX k h; omega
        · omega
      exact ⟨bel_keep h1 hk (by omega) (fun k h => by by_cases hc : k < w.heap.size + 4; exact absurd h (nx k hc); omega), h2.keep hk (nx _ (by omega)), h4.keep hk (nx _ (by omega)), Nat.le_trans h5 hk.size, h6⟩
    case hIx =>
      rintro c pre A B' ⟨h0, h1, h4, h6, h7⟩ hk
      exact ⟨h0, bel_keep h1 hk (by omega) (fun k h => by omega), h4.keep hk (by omega), h6, Nat.le_trans h7 hk.size⟩
    case h0 => exact ⟨hb4, P1, P2, by omega, by have := HQ.out; show ((0 : Nat) : Int) ≤ q; omega⟩
    case hround =>
      intro l x W K hK
      gi_wp2_with fail
      intro pre rest X W2 hxs hX hsz2 h1 h2 h4 h5 h6
      have c2 := h2.cell (j := 0) rfl
      have c4 := h4.cell (j := 0) rfl
      have f4 := h4.frozen 0
      have hn : w.heap.size + 1 ≠ w.heap.size + 1 + 1 := by omega
      have hn' : w.heap.size + 1 + 1 ≠ w.heap.size + 1 := by omega
      have hpl : pre.length < 1048576 := by have h := HH.out; rw [hxs] at h; simp at h; omega
      have hwr : wrap64 ((pre.length : Int) + 1) = (pre.length : Int) + 1 := wrap64_small _ (by omega) (by omega)
      have HX : Hid (pre.length < 1048576) := hpl
      clear hpl hxs
      have hk : Keep W2 (W2.setCell ⟨w.heap.size + 1 + 1, 0, none⟩ (.int .i64 ((pre.length : Int) + 1))) (fun k => k = w.heap.size + 1 + 1) := (Keep.refl W2 (fun k => k = w.heap.size + 1 + 1)).setCell (fun _ => rfl) _ _
      have b4 : Blk (W2.setCell ⟨w.heap.size + 1 + 1, 0, none⟩ (.int .i64 ((pre.length : Int) + 1))) (w.heap.size + 1 + 1) 3 [.int .i64 (((pre ++ [x]).length : Nat) : Int)] := by simpa using h4.set 0 (.int .i64 ((pre.length : Int) + 1))
      by_cases hlt : q < (pre.length : Int) + 1
      · have hd : decide (q < (pre.length : Int) + 1) = true := by simpa using hlt
        gi_wp2_with fail
        refine ⟨hk.mono (fun k e => by omega), rfl, bel_keep h1 hk (by omega) (fun k e => by omega), b4, ?_, Nat.le_trans h5 hk.size⟩
        simp; omega
      · have hd : decide (q < (pre.length : Int) + 1) = false := by simpa using hlt
        gi_wp2_with fail
        refine ⟨hk.mono (fun k e => ⟨fun h => by have := hX k h; omega, by omega, by omega, by omega⟩), bel_keep h1 hk (by omega) (fun k e => by omega), h2.keep hk hn, b4, Nat.le_trans h5 hk.size, ?_⟩
        simp; omega
    case hdone =>
      rintro X W hX hs ⟨h1, h2, h4, h5, h6⟩ hD
      have c4 := h4.cell (j := 0) rfl
      rw [hs4] at hD
      have HP : Hid ((((Pt.mk w.heap.size 0 T 1 0).seq.length : Nat) : Int) ≤ q) := h6
      clear h6
      gi_wp2_with fail
      refine ⟨by simp, .inl ⟨_, _, rfl, run_takeDeferred hD, ?_⟩⟩
      refine ⟨_, results_tmp rfl _ _ _, ?_, h1.trans ((Keep.put1 W (w.heap.size + 4) _).below (B := w.heap.size) (by omega) (by omega))⟩
      have h8 := HH.out
      have h9 := HP.out
      exact ret_int (by omega)
    case hstop =>
      rintro c pre W hs hpre ⟨rfl, h1, h4, h6, h7⟩ hD
      have c4 := h4.cell (j := 0) rfl
      rw [hs4] at hD
      rw [h6] at c4
      have hpl := hpre.length_le
      have HP : Hid (((pre.length : Nat) : Int) = q + 1 ∧ pre.length ≤ (Pt.mk w.heap.size 0 T 1 0).seq.length) := ⟨h6, hpl⟩
      clear hpl h6 hpre h4
      gi_wp2_with fail
      refine ⟨by simp, .inl ⟨_, _, rfl, run_takeDeferred hD, ?_⟩⟩
      refine ⟨_, results_tmp rfl _ _ _, ?_, h1.trans ((Keep.put1 W (w.heap.size + 4) _).below (B := w.heap.size) (by omega) (by omega))⟩
      have h8 := HH.out
      have h9 := HP.out
      exact ret_int (by omega)
  · have HZ : Hid (q = 0) := hq0
    clear hq0
    gi_wp2_with fail
    with_reducible refine And.intro (wide_fn 87) ?_
    refine (callsIn_wide.2 (parts_fn w.heap.size 0 _)).mono ?_
    rintro e w' ⟨rfl, rfl⟩
    dsimp only
    obtain ⟨w4, hw4, hb4, P0, P1, P2, P3, hs4⟩ := four_new w [.int .i64 T.k, .int .i64 T.n, .string T.s, .slice T.la T.ls.length T.lc, .slice T.a T.args.length T.c] [.int .i64 0] [.int .i64 0] [.pointer (some ⟨w.heap.size, 0, none⟩)] 29 3 3 131
    have hq1 := HZ.out
    rw [show [Value.int .i64 0] = [Value.int .i64 q] by rw [hq1]] at P1
    clear hq1
    rw [hw4]
    simp only [World.size_alloc]
    clear hw4
    gi_wp2_with fail
    have hseq := parts1_seq B (w.heap.size + 1 + 1 + 1) ⟨w.heap.size, 0, T, 1, 0⟩ w4 rfl rfl (hT.on hb4) h3 (by omega) (by omega) (tcells_box P0) (hin.below hb4 hB) (P3.cell (j := 0) rfl) hsz
    have HH : Hid (T.size < 1048576 ∧ (Pt.mk w.heap.size 0 T 1 0).seq.length = T.size) := ⟨hsz, hlen⟩
    clear hsz hlen
    refine wpIn_rng (by rfl) enters60 hseq (fun k h => by simp only at h; omega) (fun _ => rfl)
      (fun pre X W => Below w.heap.size w W ∧ Blk W (w.heap.size + 1) 3 [.int .i64 q] ∧ Blk W (w.heap.size + 1 + 1) 3 [.int .i64 ((pre.length : Nat) : Int)] ∧ w.heap.size + 4 ≤ W.heap.size ∧ ((pre.length : Nat) : Int) ≤ q)
      (fun c pre W => c = .exit 0 ∧ Below w.heap.size w W ∧ Blk W (w.heap.size + 1 + 1) 3 [.int .i64 ((pre.length : Nat) : Int)] ∧ ((pre.length : Nat) : Int) = q + 1 ∧ w.heap.size + 4 ≤ W.heap.size) ?hI ?hIx ?h0 ?hround ?hdone ?hstop
    case hI =>
      rintro pre X X' A B' ⟨h1, h2, h4, h5, h6⟩ hX hk _ _
      have nx : ∀ k, k < w.heap.size + 4 → ¬ (X k ∨ k = w4.heap.size ∨ k = w4.heap.size + 1) := fun k hk h => by
        rcases h with h | h
        · have := hX k h; omega
        · omega
      exact ⟨bel_keep h1 hk (by omega) (fun k h => by by_cases hc : k < w.heap.size + 4; exact absurd h (nx k hc); omega), h2.keep hk (nx _ (by omega)), h4.keep hk (nx _ (by omega)), Nat.le_trans h5 hk.size, h6⟩
    case hIx =>
      rintro c pre A B' ⟨h0, h1, h4, h6, h7⟩ hk
      exact ⟨h0, bel_keep h1 hk (by omega) (fun k h => by omega), h4.keep hk (by omega), h6, Nat.le_trans h7 hk.size⟩
    case h0 => exact ⟨hb4, P1, P2, by omega, by have := HQ.out; show ((0 : Nat) : Int) ≤ q; omega⟩
    case hround =>
      intro l x W K hK
      gi_wp2_with fail
      intro pre rest X W2 hxs hX hsz2 h1 h2 h4 h5 h6
      have c2 := h2.cell (j := 0) rfl
      have c4 := h4.cell (j := 0) rfl
      have f4 := h4.frozen 0
      have hn : w.heap.size + 1 ≠ w.heap.size + 1 + 1 := by omega
      have hn' : w.heap.size + 1 + 1 ≠ w.heap.size + 1 := by omega
      have hpl : pre.length < 1048576 := by have h := HH.out; rw [hxs] at h; simp at h; omega
      have hwr : wrap64 ((pre.length : Int) + 1) = (pre.length : Int) + 1 := wrap64_small _ (by omega) (by omega)
      have HX : Hid (pre.length < 1048576) := hpl
      clear hpl hxs
      have hk : Keep W2 (W2.setCell ⟨w.heap.size + 1 + 1, 0, none⟩ (.int .i64 ((pre.length : Int) + 1))) (fun k => k = w.heap.size + 1 + 1) := (Keep.refl W2 (fun k => k = w.heap.size + 1 + 1)).setCell (fun _ => rfl) _ _
      have b4 : Blk (W2.setCell ⟨w.heap.size + 1 + 1, 0, none⟩ (.int .i64 ((pre.length : Int) + 1))) (w.heap.size + 1 + 1) 3 [.int .i64 (((pre ++ [x]).length : Nat) : Int)] := by simpa using h4.set 0 (.int .i64 ((pre.length : Int) + 1))
      by_cases hlt : q < (pre.length : Int) + 1
      · have hd : decide (q < (pre.length : Int) + 1) = true := by simpa using hlt
        gi_wp2_with fail
        refine ⟨hk.mono (fun k e => by omega), rfl, bel_keep h1 hk (by omega) (fun k e => by omega), b4, ?_, Nat.le_trans h5 hk.size⟩
        simp; omega
      · have hd : decide (q < (pre.length : Int) + 1) = false := by simpa using hlt
        gi_wp2_with fail
        refine ⟨hk.mono (fun k e => ⟨fun h => by have := hX k h; omega, by omega, by omega, by omega⟩), bel_keep h1 hk (by omega) (fun k e => by omega), h2.keep hk hn, b4, Nat.le_trans h5 hk.size, ?_⟩
        simp; omega
    case hdone =>
      rintro X W hX hs ⟨h1, h2, h4, h5, h6⟩ hD
      have c4 := h4.cell (j := 0) rfl
      rw [hs4] at hD
      have HP : Hid ((((Pt.mk w.heap.size 0 T 1 0).seq.length : Nat) : Int) ≤ q) := h6
      clear h6
      gi_wp2_with fail
      refine ⟨by simp, .inl ⟨_, _, rfl, run_takeDeferred hD, ?_⟩⟩
      refine ⟨_, results_tmp rfl _ _ _, ?_, h1.trans ((Keep.put1 W (w.heap.size + 4) _).below (B := w.heap.size) (by omega) (by omega))⟩
      have h8 := HH.out
      have h9 := HP.out
      exact ret_int (by omega)
    case hstop =>
      rintro c pre W hs hpre ⟨rfl, h1, h4, h6, h7⟩ hD
      have c4 := h4.cell (j := 0) rfl
      rw [hs4] at hD
      rw [h6] at c4
      have hpl := hpre.length_le
      have HP : Hid (((pre.length : Nat) : Int) = q + 1 ∧ pre.length ≤ (Pt.mk w.heap.size 0 T 1 0).seq.length) := ⟨h6, hpl⟩
      clear hpl h6 hpre h4
      gi_wp2_with fail
      refine ⟨by simp, .inl ⟨_, _, rfl, run_takeDeferred hD, ?_⟩⟩
      refine ⟨_, results_tmp rfl _ _ _, ?_, h1.trans ((Keep.put1 W (w.heap.size + 4) _).below (B := w.heap.size) (by omega) (by omega))⟩
      have h8 := HH.out
      have h9 := HP.out
      exact ret_int (by omega)

end Go.Proofs.YtekdalbhgdkckaaGreatDoor
