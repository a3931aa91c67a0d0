/- The walks of term's weighBy and weigh, of terms without Levels. No condition but that the term lies in memory, is formed all through, has fewer than 2^20 parts, and that the tables hold what the program's text lays. -/
import Derived.Test.YtbmijpjmdpdfkaaDoorCount
namespace Go.Proofs.YtbmijpjmdpdfkaaDoor
open Go.RowKit Go.Shelf

attribute [local go_sem] Oper.semAt_some

/-- Every part is formed, and has no Levels. -/
def Plainly (l : List Pt) : Prop := ∀ p ∈ l, p.t.formB = true ∧ p.t.ls = []

set_option maxRecDepth 100000 in
set_option maxHeartbeats 4000000 in
theorem weighBy_plain (b off tg : Nat) (T : Tr) (w : World) (B : Nat) (hT : Tabs w) (h3 : 3 ≤ B) (hB : B ≤ w.heap.size) (hc : TCells w b off T) (hin : TIn w (· < B) T) (hsz : T.size < 1048576) (hpl : Plainly (Pt.mk b off T 1 0).seq) :
    Calls Tryd.prog 47 #[.pointer (some ⟨b, off, none⟩), .func (.func 74) #[.pointer (some ⟨tg, 0, none⟩)] #[]] w fun e w' => e = .returned (.tuple #[.agg #[.int .i64 (T.size : Int), .int .i64 0], .bool true]) ∧ Below w.heap.size w w' := by
  refine (callsIn_wide (n := 9)).1 ?_
  refine callsIn_of_wp_marks Tryd.func47 rfl trivial ?_ rfl
  simp only [Tryd.ntmps47, List.size_toArray, List.length_cons, List.length_nil, Nat.reduceAdd, Nat.reduceSub, Array.replicate_succ, Array.replicate_zero, List.push_toArray, List.append_toArray, List.nil_append, List.cons_append]
  have hlb := hc.lt
  have hlen : (Pt.mk b off T 1 0).seq.length = T.size := Tr.seq_len _ _ _ _ _
  gi_wp2_with fail
  with_reducible refine And.intro (wide_fn 33) ?_
  refine (callsIn_wide.2 (parts_fn b off _)).mono ?_
  rintro e w' ⟨rfl, rfl⟩
  dsimp only
  obtain ⟨w4, hw4, hb4, P0, P1, P2, P3, hs4⟩ := four_new w [.func (.func 74) #[.pointer (some ⟨tg, 0, none⟩)] #[]] [.int .i64 0, .int .i64 0] [.bool false] [.pointer (some ⟨b, off, none⟩)] 76 60 4 48
  rw [hw4]
  simp only [World.size_alloc]
  clear hw4
  gi_wp2_with fail
  have hseq := parts1_seq B (w.heap.size + 1 + 1 + 1) ⟨b, off, T, 1, 0⟩ w4 rfl rfl (hT.on hb4) h3 (by omega) (by omega) (hc.on hb4) (hin.below hb4 hB) (P3.cell (j := 0) rfl) hsz
  have HSZ : Hid (T.size < 1048576 ∧ (Pt.mk b off T 1 0).seq.length = T.size) := ⟨hsz, hlen⟩
  clear hsz hlen
  refine wpIn_rngb (by rfl) enters60 hseq (fun k h => by simp only at h; omega) (fun _ => rfl)
    (fun pre X W => Below w.heap.size w W ∧ Blk W (w.heap.size + 1) 60 [.int .i64 ((pre.length : Nat) : Int), .int .i64 0] ∧ Blk W (w.heap.size + 1 + 1) 4 [.bool false] ∧ w.heap.size + 4 ≤ W.heap.size)
    (fun c pre W => False) ?hI ?hIx ?h0 ?hround ?hdone ?hstop
  case hI =>
    rintro pre X X' A B' ⟨h1, h2, h4, h5⟩ hX hk _ _
    have nx : ∀ k, X k ∨ k = w4.heap.size ∨ k = w4.heap.size + 1 → w.heap.size + 4 ≤ k := fun k h => by rcases h with h | h; (have := hX k h; omega); omega
    exact ⟨bel_keep h1 hk (by omega) (fun k h => by have := nx k h; omega), h2.keep hk (fun h => by have := nx _ h; omega), h4.keep hk (fun h => by have := nx _ h; omega), Nat.le_trans h5 hk.size⟩
  case hIx => exact fun _ _ _ _ h _ => h
  case h0 => exact ⟨hb4, P1, P2, by omega⟩
  case hround =>
    intro l pre x rest X W K hxs hX hsz2 hI0 hK
    obtain ⟨hI1, hI2, hI3, hI4⟩ := hI0
    have hmem : x ∈ (Pt.mk b off T 1 0).seq := by rw [hxs]; simp
    have hat := seq_at W B b T.size T b off 1 0 (hc.on hI1) (hin.below hI1 hB) (.inr rfl) (by omega) x hmem
    obtain ⟨hform, hls⟩ := hpl x hmem
    have hlt : pre.length + 1 < 1048576 := by
      have h2 := HSZ.out
      rw [hxs] at h2
      simp at h2
      omega
    have hne : ((pre.length : Int) + 1 == 1048576) = false := by simp; omega
    have hcw : wrap64 ((pre.length : Int) + 1) = (pre.length : Int) + 1 := wrap64_small _ (by omega) (by omega)
    have hln : (((pre ++ [x]).length : Nat) : Int) = (pre.length : Int) + 1 := by simp
    clear hxs hmem hlt
    obtain ⟨xb, xoff, xt, xd, xm⟩ := x
    simp only at hform hls
    dsimp only [Pt.val]
    gi_wp2_with fail
    obtain ⟨Wa, hwa, hba, Pa, hsa⟩ := one_new W [.pointer (some ⟨xb, xoff, none⟩), .int .i64 (xd : Int), .int .i64 (xm : Int)] 50
    rw [hwa]
    refine hK _ _ (Keep.of_below hba (Nat.le_refl _)) ?_
    clear hK hwa
    rintro W2 hk2 ⟨h1, h2, h4, h5⟩
    have hkk : Keep W W2 (fun k => k = w4.heap.size + 1) := (Keep.of_below hba (Nat.le_refl _)).trans hk2 (fun _ _ h => h)
    have Pb := Pa.keep hk2 (by omega)
    have hat2 : AtP W2 B b T.size ⟨xb, xoff, xt, xd, xm⟩ := hat.carry (fun k hk => hkk.block k (by omega) (by omega))
    have hxlt := hat2.cells.lt
    simp only at hxlt
    have hxne : xb ≠ w.heap.size + 1 := by have := hat2.at'; simp only at this; omega
    obtain ⟨W3, hW3, hk3⟩ : ∃ W3, W2.setCell ⟨w.heap.size + 1, 0, none⟩ (.int .i64 ((pre.length : Int) + 1)) = W3 ∧ Keep W2 W3 (fun k => k = w.heap.size + 1) := ⟨_, rfl, (Keep.refl W2 (fun k => k = w.heap.size + 1)).setCell (fun _ => rfl) _ _⟩
    have H2 : Blk W3 (w.heap.size + 1) 60 [.int .i64 ((pre.length : Int) + 1), .int .i64 0] := by rw [← hW3]; exact h2.set 0 _
    have hsz3 := hk3.size
    have Pc := Pb.keep hk3 (by omega)
    have hat3 : AtP W3 B b T.size ⟨xb, xoff, xt, xd, xm⟩ := hat2.carry (fun k hk => hk3.block k (by omega) (by omega))
    have e1 := bel_keep h1 hk3 (by omega) (fun k e => by omega)
    have hcall := isFormed_any ⟨xb, xoff, xt, xd, xm⟩ W3 (hT.on e1) hat3.cells (Nat.le_trans (tin_iff.1 hat3.tin).le (tin_iff.1 hat3.tin).max)
    simp only [Pt.val] at hcall
    rw [hform] at hcall
    have d0 := h2.cell (j := 0) rfl
    have d1 := h2.cell (j := 1) rfl
    have df := h2.frozen 0
    have m0 := H2.cell (j := 0) rfl
    have m1 := H2.cell (j := 1) rfl
    have cp0 := Pc.cell (j := 0) rfl
    have cp := Pc.cell (j := 1) rfl
    have cp2 := Pc.cell (j := 2) rfl
    gi_wp2_with fail
    with_reducible refine And.intro (wide_fn 65) ?_
    refine (CallsIn.inRound l (callsIn_wide.2 hcall)).mono ?_
    rintro e W5 ⟨rfl, hb5⟩
    have hk5 : Keep W3 W5 (fun _ => False) := Keep.of_below hb5 (Nat.le_refl _)
    have Pd := Pc.keep hk5 (fun h => h)
    have q0 := Pd.cell (j := 0) rfl
    have q1 := Pd.cell (j := 1) rfl
    have q2 := Pd.cell (j := 2) rfl
    have c3 := (hat3.carry (w' := W5) (fun k hk => hk5.block k (by omega) (fun h => h))).cells.c3
    simp only at c3
    rw [hls] at c3
    have fin : Keep W2 W5 (fun k => k = w.heap.size + 1) := hk3.trans (hk5.mono (fun _ h => h.elim)) (fun _ _ h => h)
    have G : Keep W2 W5 (fun k => ¬ X k ∧ ¬ (k < B ∨ k = b ∨ k = w.heap.size + 1 + 1 + 1) ∧ k ≠ w4.heap.size ∧ k ≠ w4.heap.size + 1) ∧ (Below w.heap.size w W5 ∧ Blk W5 (w.heap.size + 1) 60 [.int .i64 ((((pre ++ [Pt.mk xb xoff xt xd xm]).length : Nat) : Int)), .int .i64 0] ∧ Blk W5 (w.heap.size + 1 + 1) 4 [.bool false] ∧ w.heap.size + 4 ≤ W5.heap.size) :=
      ⟨fin.mono (fun k e => ⟨fun h => by have := hX k h; omega, by omega, by omega, by omega⟩), bel_keep h1 fin (by omega) (fun k e => by omega), by rw [hln]; exact H2.keep hk5 (fun h => h), h4.keep fin (by omega), Nat.le_trans h5 fin.size⟩
    have HG : Hid (Keep W2 W5 (fun k => ¬ X k ∧ ¬ (k < B ∨ k = b ∨ k = w.heap.size + 1 + 1 + 1) ∧ k ≠ w4.heap.size ∧ k ≠ w4.heap.size + 1) ∧ (Below w.heap.size w W5 ∧ Blk W5 (w.heap.size + 1) 60 [.int .i64 ((((pre ++ [Pt.mk xb xoff xt xd xm]).length : Nat) : Int)), .int .i64 0] ∧ Blk W5 (w.heap.size + 1 + 1) 4 [.bool false] ∧ w.heap.size + 4 ≤ W5.heap.size)) := G
    clear G hln
    dsimp only
    gi_wp2_with fail
    gi_loopw [30] (fun i wr => i = .int .i64 0 ∧ wr = W5) (fun _ _ => 0)
    case atStart => exact ⟨rfl, rfl⟩
    case round =>
      obtain ⟨rfl, rfl⟩ := hrel
      gi_wp2_with fail
      exact HG.out
  case hdone =>
    rintro X W hX hs ⟨h1, h2, h4, h5⟩ hD
    rw [hs4] at hD
    rw [HSZ.out.2] at h2
    have c0 := h2.cell (j := 0) rfl
    have c1 := h2.cell (j := 1) rfl
    have f0 := h2.frozen 0
    have f1 := h2.frozen 1
    have c4 := h4.cell (j := 0) rfl
    have f4 := h4.frozen 0
    obtain ⟨W3, hW3, hk3⟩ : ∃ W3, ((W.setCell ⟨w.heap.size + 1, 0, none⟩ (.int .i64 (T.size : Int))).setCell ⟨w.heap.size + 1, 1, none⟩ (.int .i64 0)).setCell ⟨w.heap.size + 1 + 1, 0, none⟩ (.bool true) = W3 ∧ Keep W W3 (fun k => k = w.heap.size + 1 ∨ k = w.heap.size + 1 + 1) :=
      ⟨_, rfl, (((Keep.refl W _).setCell (fun _ => .inl rfl) _ _).setCell (fun _ => .inl rfl) _ _).setCell (fun _ => .inr rfl) _ _⟩
    have H2 : Blk W3 (w.heap.size + 1) 60 [.int .i64 (T.size : Int), .int .i64 0] := by rw [← hW3]; exact ((h2.set 0 _).set 1 _).other _ (by omega)
    have H4 : Blk W3 (w.heap.size + 1 + 1) 4 [.bool true] := by rw [← hW3]; exact ((h4.other _ (by omega)).other _ (by omega)).set 0 _
    have hsz3 := hk3.size
    have hD3 : W3.heap[w.heap.size + 4]? = some (.deferred (some [])) := (hk3.block _ (by omega) (fun h => by omega)).trans hD
    have hn1 : w.heap.size + 1 ≠ w.heap.size + 1 + 1 := by omega
    have hn2 : w.heap.size + 1 + 1 ≠ w.heap.size + 1 := by omega
    gi_wp2_with fail
    refine ⟨by simp, .inl ⟨_, _, rfl, run_takeDeferred hD3, ?_⟩⟩
    have hk5 := Keep.put1 W3 (w.heap.size + 4) (.deferred none)
    have z0 := (H2.keep hk5 (by omega)).cell (j := 0) rfl
    have z1 := (H2.keep hk5 (by omega)).cell (j := 1) rfl
    have z2 := (H4.keep hk5 (by omega)).cell (j := 0) rfl
    exact ⟨.tuple #[.agg #[.int .i64 (T.size : Int), .int .i64 0], .bool true], by simp [results, Tryd.results47, go_sem, z0, z1, z2], rfl, bel_keep (bel_keep h1 hk3 (by omega) (fun k e => by omega)) hk5 (by omega) (fun k e => by omega)⟩
  case hstop => exact fun _ _ _ _ _ h _ => h.elim

set_option maxRecDepth 100000 in
theorem weigh_plain (b off : Nat) (T : Tr) (w : World) (B : Nat) (hT : Tabs w) (h3 : 3 ≤ B) (hB : B ≤ w.heap.size) (hc : TCells w b off T) (hin : TIn w (· < B) T) (hsz : T.size < 1048576) (hpl : Plainly (Pt.mk b off T 1 0).seq) :
    Calls Tryd.prog 40 #[.pointer (some ⟨b, off, none⟩)] w fun e w' => e = .returned (.tuple #[.agg #[.int .i64 (T.size : Int), .int .i64 0], .bool true]) ∧ Below w.heap.size w w' := by
  have hmf : ∀ (fn : Fn) (first cap : Array Value) (w : World), (Instr.makeFunc fn first cap).run Tryd.prog w = .ok (.func fn first cap) w := fun _ _ _ _ => rfl
  obtain ⟨w1, hw1, hb1, P1, Q1, hs1⟩ := two_new w [.int .i64 0, .int .i64 0] [.slice none 0 0, .int .i64 0, .slice none 0 0, .map none] 60 105
  have hcall := weighBy_plain b off (w.heap.size + 1) T w1 B (hT.on hb1) h3 (by omega) (hc.on hb1) (hin.below hb1 hB) hsz hpl
  generalize (T.size : Int) = sz at *
  go_enter Tryd.func40, Tryd.ntmps40
  go_wp2_with (go_at_call 47; refine hcall.mono ?_; rintro e w2 ⟨rfl, hb2⟩; have P2 := P1.below hb2 P1.lt; have a0 := P2.cell (j := 0) rfl; have a1 := P2.cell (j := 1) rfl; have f0 := P2.frozen 0; have f1 := P2.frozen 1)
  have P3 := (P2.set 0 (.int .i64 sz)).set 1 (.int .i64 0)
  have z0 := P3.cell (j := 0) rfl
  have z1 := P3.cell (j := 1) rfl
  exact bodyPost_ret (v := .tuple #[.agg #[.int .i64 sz, .int .i64 0], .bool true]) (by simp [results, Tryd.results40, go_sem, z0, z1]) rfl ⟨rfl, ((hb1.trans (hb2.mono (by omega))).setCell (p := ⟨w.heap.size, 0, none⟩) (Nat.le_refl _) _).setCell (p := ⟨w.heap.size, 1, none⟩) (Nat.le_refl _) _⟩
end Go.Proofs.YtbmijpjmdpdfkaaDoor
