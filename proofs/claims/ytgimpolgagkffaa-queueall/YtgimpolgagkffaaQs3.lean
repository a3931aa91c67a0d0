/- The walks of a Queue's Copy, Pop and Drop of no function. No condition but sizes. -/
import Derived.Test.YtgimpolgagkffaaQs2
namespace Go.Proofs.Ytgimpolgagkffaa
open Go.RowKit

/-- What Clone leaves. -/
structure Cloned (w w' : World) (v : Value) (L : List En) : Prop where
  row : w'.ownsRow 0 57 3 v L.length (flat L)
  own : ∀ k, v.ownBlock = some k → w.heap.size ≤ k
  bel : Below w.heap.size w w'

theorem clone_any (v : Value) (L : List En) (w : World) (h : w.ownsRow 0 57 3 v L.length (flat L)) (hm : L.length ≤ 1000000) : Calls Try.prog 23 #[v] w fun e w' => ∃ ao n cap, e = .returned (.slice ao n cap) ∧ Cloned w w' (.slice ao n cap) L := by
  have sl : ∀ {w' : World} {v' : Value} {n : Nat} {xs : List Value}, w'.ownsRow 0 57 3 v' n xs → ∃ ao n cap, v' = .slice ao n cap := fun h => by
    rcases h.2 with ⟨h0, _⟩ | ⟨b, cap, cur, e, _⟩
    · exact ⟨_, _, _, h0⟩
    · exact ⟨_, _, _, e⟩
  by_cases h0 : 0 < L.length
  · obtain ⟨b, cap, rfl, hR⟩ := row_of h h0
    refine (clone_some b cap L w hR h0 hm).mono ?_
    rintro e w' ⟨v', rfl, o, p, q⟩
    obtain ⟨ao, n, c, rfl⟩ := sl o
    exact ⟨ao, n, c, rfl, o, p, q⟩
  · obtain rfl : L = [] := List.eq_nil_of_length_eq_zero (by omega)
    rcases h.2 with ⟨rfl, _⟩ | ⟨b, cap, cur, rfl, _⟩
    · refine (clone_nil w).mono ?_
      rintro e w' ⟨rfl, rfl⟩
      exact ⟨none, 0, 0, rfl, ⟨rfl, .inl ⟨rfl, rfl⟩⟩, (fun k e => by cases e), Below.refl _ _⟩
    · refine (clone_none b cap w).mono ?_
      rintro e w' ⟨v', rfl, o, p, q⟩
      obtain ⟨ao, n, c, rfl⟩ := sl o
      exact ⟨ao, n, c, rfl, o, p, q⟩

/-- What Copy leaves. -/
structure QCopied (w w' : World) (g' : Nat) (q' : Option Nat) (S : List En) (n : Nat) : Prop where
  new : w.heap.size ≤ g'
  own : ∀ b, q' = some b → w.heap.size ≤ b
  qs : QS w' g' q' S n
  bel : Below w.heap.size w w'

set_option maxRecDepth 100000 in
set_option maxHeartbeats 1000000 in
theorem qcopy_any (g : Nat) (q : Option Nat) (S : List En) (n : Nat) (w : World) (h : QS w g q S n) : Calls Try.prog 14 #[.pointer (some ⟨g, 0, none⟩)] w fun e w' => ∃ g', e = .returned (.pointer (some ⟨g', 0, none⟩)) ∧ ∃ q', QCopied w w' g' q' S n := by
  obtain ⟨ao, cap, L, hH, hq, hp⟩ := h.slice
  have lg := h.glt
  have c0 := hH.blk.cell (j := 0) rfl
  have c1 := hH.blk.cell (j := 1) rfl
  have hc := clone_any (.slice ao S.length cap) L w.drew (owns_below hH.row (Below.refl _ _).drew) (by have := h.len; have := hp.length_eq; omega)
  go_enter Try.func14, Try.ntmps14
  go_wp2_with fail
  go_region_held3 (fun w' => w'.cell? ⟨g, 0, none⟩ = some (.slice ao S.length cap) ∧ w'.cell? ⟨g, 1, none⟩ = some (.int .i64 (n : Int))) (go_keep)
    ((go_at_call 23; refine hc.mono ?_; rintro e w2 ⟨ao2, n2, cap2, rfl, hC⟩; have B2 := hH.blk.drew.below hC.bel hH.blk.lt; have d0 := B2.cell (j := 0) rfl; have d1 := B2.cell (j := 1) rfl))
  go_wp2_with fail
  go_ret
  have hz : w.heap.size ≤ w2.heap.size := hC.bel.size
  have hb : Below w.heap.size w w2 := (Below.refl w.heap.size w).drew.trans hC.bel
  refine ⟨w2.heap.size, rfl, (Value.slice ao2 n2 cap2).ownBlock, hz, fun b e => hC.own b e, ⟨⟨.slice ao2 n2 cap2, L, ⟨Blk.new w2 51 _, owns_below hC.row ((Below.refl _ _).alloc (Nat.le_refl _) _), hH.heap⟩, rfl, hp⟩, h.srt, h.turns, h.len⟩, hb.alloc (by exact hz) _⟩

set_option maxRecDepth 100000 in
set_option maxHeartbeats 1000000 in
theorem qcopy_nil (w : World) : Calls Try.prog 14 #[.pointer none] w fun e w' => e = .returned (.pointer none) ∧ w = w' := by
  go_enter Try.func14, Try.ntmps14
  go_wp2_with fail
  go_ret
  exact ⟨rfl, rfl⟩

set_option maxRecDepth 100000 in
set_option maxHeartbeats 1000000 in
theorem qdrop_nil (g : Nat) (w : World) : Calls Try.prog 12 #[.pointer (some ⟨g, 0, none⟩), .nilFunc] w fun e w' => e = .returned (.int .i64 0) ∧ w = w' := by
  have en : ∀ w, Sem.run Try.prog (binOp BinOp.eql 44 .nilFunc .nilFunc) w = .ok (.bool true) w := fun _ => by kernel_rfl
  go_enter Try.func12, Try.ntmps12
  go_wp2_with fail
  go_ret
  exact ⟨rfl, rfl⟩

set_option maxRecDepth 100000 in
set_option maxHeartbeats 1000000 in
theorem qpop_none (g : Nat) (q : Option Nat) (n : Nat) (w : World) (h : QS w g q [] n) : Calls Try.prog 9 #[.pointer (some ⟨g, 0, none⟩)] w fun e w' => e = .returned (.tuple #[.agg #[.int .i64 0, .int .i64 0], .int .i64 26]) ∧ Below w.heap.size w w' := by
  obtain ⟨ao, cap, L, hH, hq, hp⟩ := h.slice
  have lg := h.glt
  have c0 := hH.blk.cell (j := 0) rfl
  go_enter Try.func9, Try.ntmps9
  go_wp2_with fail
  exact bodyPost_ret (v := .tuple #[.agg #[.int .i64 0, .int .i64 0], .int .i64 26]) (by simp [results, Try.results9, go_sem]) rfl ⟨rfl, (Below.refl _ _).alloc (Nat.le_refl _) _⟩

set_option maxRecDepth 100000 in
set_option maxHeartbeats 1000000 in
theorem qpop_any (g : Nat) (q : Option Nat) (s : En) (S : List En) (n : Nat) (w : World) (h : QS w g q (s :: S) n) : Calls Try.prog 9 #[.pointer (some ⟨g, 0, none⟩)] w fun e w' => e = .returned (.tuple #[.agg #[.int .i64 s.wt, .int .i64 s.num], .int .i64 0]) ∧ QS w' g q S n ∧ Keep w w' (fun k => k = g ∨ q = some k) := by
  obtain ⟨v, L, hH, hq, hp⟩ := h.is
  have lg := h.glt
  have hl : L.length = S.length + 1 := hp.length_eq
  obtain ⟨b, cap, rfl, hR⟩ := row_of hH.row (by omega)
  have hs := first_least hH.heap hp h.srt
  obtain ⟨w1, hw1, hb1, P1, hs1⟩ := one_new w [.int .i64 0, .int .i64 0] 35
  have hH1 := hH.below hb1
  have c0 := hH1.blk.cell (j := 0) rfl
  have lb := (owns_own hH.row (g := b) rfl).2
  have hne : ((L.length : Int) == 0) = false := beq_eq_false_iff_ne.2 (by omega)
  have hL256 : S.length + 1 ≤ 256 := h.len
  have hc := take_any g n b cap L w1 hH1 (by omega) (by omega)
  rw [hs] at hc
  unfold En.val at hc
  have HL : Hid _ := hl
  have HS : Hid _ := hs
  clear hl hs
  obtain ⟨sw, sn, st⟩ := s
  have fl : ∀ w, Sem.run Try.prog (Instr.field 57 (.agg #[.int .i64 sw, .int .i64 sn, .int .i64 (st : Int)]) 0) w = .ok (.agg #[.int .i64 sw, .int .i64 sn]) w := fun _ => by kernel_rfl
  go_enter Try.func9, Try.ntmps9
  go_wp2_with (go_at_call 17; refine hc.mono ?_; rintro e w2 ⟨rfl, L', hP⟩; have P2 := P1.keep hP.keep (by omega); have z0 := P2.cell (j := 0) rfl; have z1 := P2.cell (j := 1) rfl; have f0 := P2.frozen 0; have f1 := P2.frozen 1)
  have K3 : Keep w2 ((w2.setCell ⟨w.heap.size, 0, none⟩ (.int .i64 sw)).setCell ⟨w.heap.size, 1, none⟩ (.int .i64 sn)) (· = w.heap.size) := ((Keep.refl w2 (· = w.heap.size)).setCell (g := w.heap.size) (fun _ => rfl) _ _).setCell (g := w.heap.size) (fun _ => rfl) _ _
  have hq' : q = some b := hq.symm
  have lg2 : g < w1.heap.size := by omega
  refine bodyPost_ret (v := .tuple #[.agg #[.int .i64 sw, .int .i64 sn], .int .i64 0]) (by simp [results, Try.results9, go_sem, z0, z1]) rfl ⟨rfl, ⟨⟨_, L', ⟨hP.q.blk.keep K3 (by omega), owns_block hP.q.row (fun k e => K3.block k (owns_own hP.q.row e).2 (by simp [Value.ownBlock] at e; omega)), hP.q.heap⟩, hq'.symm, ?_⟩, (List.pairwise_cons.1 h.srt).2, fun x hx => h.turns x (List.mem_cons_of_mem _ hx), by omega⟩, ?_⟩
  · have := hp.symm.trans hP.perm
    rw [HS.out] at this
    exact this.cons_inv.symm
  · exact ((Keep.of_below hb1 (Nat.le_refl _)).trans hP.keep (fun i hi e => by rcases e with e | e; exact .inl e; exact .inr (by rw [hq', e]))).trans K3 (fun i hi e => by omega)
end Go.Proofs.Ytgimpolgagkffaa
