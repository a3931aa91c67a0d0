/- The walks of term's count and Uses. No condition but that the term lies in memory, that it has fewer than 2^20 parts, and that the tables hold what the program's text lays. -/
import Derived.Test.YtbmijpjmdpdfkaaDoorTMay
namespace Go.Proofs.YtbmijpjmdpdfkaaDoor
open Go.RowKit Go.Shelf

attribute [local go_sem] Oper.semAt_some

/-- Is a part the free Var i? -/
def Pt.isB (p : Pt) (i : Int) : Bool := p.freeB && decide (p.freeN = i)
/-- How often the free Var i stands there. -/
def cntF (i : Int) : List Pt → Nat
  | [] => 0
  | p :: r => (if p.isB i = true then 1 else 0) + cntF i r
theorem cntF_append (i : Int) (a b : List Pt) : cntF i (a ++ b) = cntF i a + cntF i b := by
  induction a with
  | nil => simp [cntF]
  | cons x r ih => simp only [List.cons_append, cntF, ih]; omega
theorem cntF_le (i : Int) (l : List Pt) : cntF i l ≤ l.length := by
  induction l with
  | nil => simp [cntF]
  | cons x r ih => simp only [cntF, List.length_cons]; split <;> omega

set_option maxRecDepth 100000 in
set_option maxHeartbeats 4000000 in
theorem count_any (b off : Nat) (T : Tr) (i : Int) (w : World) (B : Nat) (hT : Tabs w) (h3 : 3 ≤ B) (hB : B ≤ w.heap.size) (hc : TCells w b off T) (hin : TIn w (· < B) T) (hsz : T.size < 1048576) :
    Calls Tryd.prog 55 #[.pointer (some ⟨b, off, none⟩), .int .i64 i] w fun e w' => e = .returned (.int .i64 ((cntF i (Pt.mk b off T 1 0).seq : Nat) : Int)) ∧ Below w.heap.size w w' := by
  refine (callsIn_wide (n := 9)).1 ?_
  refine callsIn_of_wp_marks Tryd.func55 rfl trivial ?_ rfl
  simp only [Tryd.ntmps55, List.size_toArray, List.length_cons, List.length_nil, Nat.reduceAdd, Nat.reduceSub, Array.replicate_succ, Array.replicate_zero, List.push_toArray, List.append_toArray, List.nil_append, List.cons_append]
  have hlb := hc.lt
  obtain ⟨r, HR⟩ : ∃ r, Hid (((cntF i (Pt.mk b off T 1 0).seq : Nat) : Int) = r) := ⟨_, rfl⟩
  rw [HR.out]
  have hlen : (Pt.mk b off T 1 0).seq.length = T.size := Tr.seq_len _ _ _ _ _
  gi_wp2_with fail
  with_reducible refine And.intro (wide_fn 33) ?_
  refine (callsIn_wide.2 (parts_fn b off _)).mono ?_
  rintro e w' ⟨rfl, rfl⟩
  dsimp only
  obtain ⟨w4, hw4, hb4, P0, P1, P2, hs4⟩ := three_new w [.int .i64 i] [.int .i64 0] [.pointer (some ⟨b, off, none⟩)] 3 3 48
  rw [hw4]
  simp only [World.size_alloc]
  clear hw4
  gi_wp2_with fail
  have hseq := parts1_seq B (w.heap.size + 1 + 1) ⟨b, off, T, 1, 0⟩ w4 rfl rfl (hT.on hb4) h3 (by omega) (by omega) (hc.on hb4) (hin.below hb4 hB) (P2.cell (j := 0) rfl) hsz
  have HSZ : Hid (T.size < 1048576 ∧ (Pt.mk b off T 1 0).seq.length = T.size) := ⟨hsz, hlen⟩
  clear hsz hlen
  refine wpIn_rngb (by rfl) enters60 hseq (fun k h => by simp only at h; omega) (fun _ => rfl)
    (fun pre X W => Below w.heap.size w W ∧ Blk W w.heap.size 3 [.int .i64 i] ∧ Blk W (w.heap.size + 1) 3 [.int .i64 ((cntF i pre : Nat) : Int)] ∧ w.heap.size + 3 ≤ W.heap.size)
    (fun c pre W => False) ?hI ?hIx ?h0 ?hround ?hdone ?hstop
  case hI =>
    rintro pre X X' A B' ⟨h1, h2, h4, h5⟩ hX hk _ _
    have nx : ∀ k, X k ∨ k = w4.heap.size ∨ k = w4.heap.size + 1 → w.heap.size + 3 ≤ k := fun k h => by rcases h with h | h; (have := hX k h; omega); omega
    exact ⟨bel_keep h1 hk (by omega) (fun k h => by have := nx k h; omega), h2.keep hk (fun h => by have := nx _ h; omega), h4.keep hk (fun h => by have := nx _ h; omega), Nat.le_trans h5 hk.size⟩
  case hIx => exact fun _ _ _ _ h _ => h
  case h0 => exact ⟨hb4, P0, P1, by omega⟩
  case hround =>
    intro l pre x rest X W K hxs hX hsz2 hI0 hK
    obtain ⟨hI1, hI2, hI3, hI4⟩ := hI0
    have hmem : x ∈ (Pt.mk b off T 1 0).seq := by rw [hxs]; simp
    have hat := seq_at W B b T.size T b off 1 0 (hc.on hI1) (hin.below hI1 hB) (.inr rfl) (by omega) x hmem
    have hpl : cntF i pre ≤ 1048576 := by
      have h1 := cntF_le i pre
      have h2 := HSZ.out
      rw [hxs] at h2
      simp at h2
      omega
    have HCN : Hid (((cntF i (pre ++ [x]) : Nat) : Int) = (cntF i pre : Nat) + (if x.isB i = true then 1 else 0)) := by
      show _ = _
      rw [cntF_append]
      simp only [cntF]
      split <;> omega
    clear hxs hmem
    obtain ⟨xb, xoff, xt, xd, xm⟩ := x
    dsimp only [Pt.val]
    gi_wp2_with fail
    obtain ⟨Wa, hwa, hba, Pa, hsa⟩ := one_new W [.pointer (some ⟨xb, xoff, none⟩), .int .i64 (xd : Int), .int .i64 (xm : Int)] 50
    rw [hwa]
    refine hK _ _ (Keep.of_below hba (Nat.le_refl _)) ?_
    clear hK hwa
    rintro W2 hk2 ⟨h1, h2, h4, h5⟩
    have hkk : Keep W W2 (fun k => k = w4.heap.size + 1) := (Keep.of_below hba (Nat.le_refl _)).trans hk2 (fun _ _ h => h)
    have Pb := Pa.keep hk2 (by omega)
    have cp0 := Pb.cell (j := 0) rfl
    have cp := Pb.cell (j := 1) rfl
    have cp2 := Pb.cell (j := 2) rfl
    have hat2 : AtP W2 B b T.size ⟨xb, xoff, xt, xd, xm⟩ := hat.carry (fun k hk => hkk.block k (by omega) (by omega))
    have hcall := free_any ⟨xb, xoff, xt, xd, xm⟩ W2 hat2.cells (by have := hat2.m; have := HSZ.out; simp only at *; omega) (tin_iff.1 hat2.tin).n1
    simp only [Pt.val] at hcall
    unfold Pt.isB at HCN
    generalize (Pt.mk xb xoff xt xd xm).freeN = fN at *
    generalize cntF i pre = cn at *
    have hcw : wrap64 ((cn : Int) + 1) = (cn : Int) + 1 := wrap64_small _ (by omega) (by omega)
    clear hat hat2
    cases hf : (Pt.mk xb xoff xt xd xm).freeB with
    | false =>
      rw [hf] at hcall HCN
      gi_wp2_with fail
      with_reducible refine And.intro (wide_fn 76) ?_
      refine (CallsIn.inRound l (callsIn_wide.2 hcall)).mono ?_
      rintro e W3 ⟨rfl, hb3⟩
      have hk3 : Keep W2 W3 (fun _ => False) := Keep.of_below hb3 (Nat.le_refl _)
      have g2 := (h2.keep hk3 (fun h => h)).cell (j := 0) rfl
      dsimp only
      gi_wp2_with fail
      have hq := HCN.out
      simp at hq
      exact ⟨hk3.mono (fun _ h => h.elim), bel_keep h1 hk3 (by omega) (fun _ h => h.elim), h2.keep hk3 (fun h => h), by simpa [hq] using h4.keep hk3 (fun h => h), Nat.le_trans h5 hk3.size⟩
    | true =>
      rw [hf] at hcall HCN
      by_cases he : fN = i
      · subst he
        gi_wp2_with fail
        with_reducible refine And.intro (wide_fn 76) ?_
        refine (CallsIn.inRound l (callsIn_wide.2 hcall)).mono ?_
        rintro e W3 ⟨rfl, hb3⟩
        have hk3 : Keep W2 W3 (fun _ => False) := Keep.of_below hb3 (Nat.le_refl _)
        have g2 := (h2.keep hk3 (fun h => h)).cell (j := 0) rfl
        have H4 := h4.keep hk3 (fun h => h)
        have g4 := H4.cell (j := 0) rfl
        have gf := H4.frozen 0
        dsimp only
        gi_wp2_with fail
        have hq := HCN.out
        simp at hq
        have hk4 : Keep W3 (W3.setCell ⟨w.heap.size + 1, 0, none⟩ (.int .i64 ((cn : Int) + 1))) (fun k => k = w.heap.size + 1) := (Keep.refl W3 (fun k => k = w.heap.size + 1)).setCell (fun _ => rfl) _ _
        have hsz3 := hk3.size
        exact ⟨(hk3.mono (fun _ h => h.elim)).trans (hk4.mono (fun k e => ⟨fun h => by have := hX k h; omega, by omega, by omega, by omega⟩)) (fun _ _ h => h), bel_keep (bel_keep h1 hk3 (by omega) (fun _ h => h.elim)) hk4 (by omega) (fun k e => by omega), (h2.keep hk3 (fun h => h)).keep hk4 (by omega), by simpa [hq] using H4.set 0 (.int .i64 ((cn : Int) + 1)), Nat.le_trans h5 (Nat.le_trans hk3.size hk4.size)⟩
      · have hne : (fN == i) = false := by simpa using he
        gi_wp2_with fail
        with_reducible refine And.intro (wide_fn 76) ?_
        refine (CallsIn.inRound l (callsIn_wide.2 hcall)).mono ?_
        rintro e W3 ⟨rfl, hb3⟩
        have hk3 : Keep W2 W3 (fun _ => False) := Keep.of_below hb3 (Nat.le_refl _)
        have g2 := (h2.keep hk3 (fun h => h)).cell (j := 0) rfl
        dsimp only
        gi_wp2_with fail
        have hq := HCN.out
        simp [he] at hq
        exact ⟨hk3.mono (fun _ h => h.elim), bel_keep h1 hk3 (by omega) (fun _ h => h.elim), h2.keep hk3 (fun h => h), by simpa [hq] using h4.keep hk3 (fun h => h), Nat.le_trans h5 hk3.size⟩
  case hdone =>
    rintro X W hX hs ⟨h1, h2, h4, h5⟩ hD
    rw [hs4] at hD
    have hr := HR.out
    rw [hr] at h4
    have c4 := h4.cell (j := 0) rfl
    have f4 := h4.frozen 0
    gi_wp2_with fail
    refine ⟨by simp, .inl ⟨_, _, rfl, run_takeDeferred (heap_other _ _ _ hD (by omega)), ?_⟩⟩
    have hk4 : Keep W (W.setCell ⟨w.heap.size + 1, 0, none⟩ (.int .i64 r)) (fun k => k = w.heap.size + 1) := (Keep.refl W (fun k => k = w.heap.size + 1)).setCell (fun _ => rfl) _ _
    have hk5 := Keep.put1 (W.setCell ⟨w.heap.size + 1, 0, none⟩ (.int .i64 r)) (w.heap.size + 3) (.deferred none)
    have h6 := (h4.set 0 (.int .i64 r)).keep hk5 (by omega)
    have cf := h6.cell (j := 0) rfl
    exact ⟨.int .i64 r, by simp [results, Tryd.results55, go_sem, cf], rfl, bel_keep (bel_keep h1 hk4 (by omega) (fun k e => by omega)) hk5 (by have := hk4.size; omega) (fun k e => by omega)⟩
  case hstop => exact fun _ _ _ _ _ h _ => h.elim

set_option maxRecDepth 100000 in
theorem uses_any (T : Tr) (i : Int) (w : World) (B : Nat) (hT : Tabs w) (h3 : 3 ≤ B) (hB : B ≤ w.heap.size) (hin : TIn w (· < B) T) (hsz : T.size < 1048576) :
    Calls Tryd.prog 27 #[T.val, .int .i64 i] w fun e w' => e = .returned (.bool (decide (0 < cntF i (Pt.mk w.heap.size 0 T 1 0).seq))) ∧ Below w.heap.size w w' := by
  obtain ⟨w1, hw1, hb1, X1, hs1⟩ := one_new w [.int .i64 T.k, .int .i64 T.n, .string T.s, .slice T.la T.ls.length T.lc, .slice T.a T.args.length T.c] 25
  have hcall := count_any w.heap.size 0 T i w1 B (hT.on hb1) h3 (by omega) (tcells_box X1) (hin.below hb1 hB) hsz
  unfold Tr.val
  go_enter Tryd.func27, Tryd.ntmps27
  go_wp2_with (go_at_call 55; refine hcall.mono ?_; rintro e w2 ⟨rfl, hb2⟩)
  go_ret
  exact ⟨ret_bool (by first | rfl | simp), hb1.trans (hb2.mono (by omega))⟩
end Go.Proofs.YtbmijpjmdpdfkaaDoor
