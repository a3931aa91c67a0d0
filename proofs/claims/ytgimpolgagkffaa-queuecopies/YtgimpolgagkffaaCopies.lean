/- The walk of QueueCopies: it tells true. No condition but that the bytes can be read. -/
import Derived.Test.YtgimpolgagkffaaSorts
namespace Go.Proofs.Ytgimpolgagkffaa
open Go.RowKit

def low (x : En) : Bool := decide (x.num < 100)

/-- Two queues share nothing. -/
structure AP (g : Nat) (q : Option Nat) (g' : Nat) (q' : Option Nat) : Prop where
  gg : g ≠ g'
  qg : q ≠ some g'
  gq : q' ≠ some g
  qq : ∀ b, q = some b → q' ≠ some b

theorem AP.turn {g g' : Nat} {q q' : Option Nat} (h : AP g q g' q') : AP g' q' g q := ⟨h.gg.symm, h.gq, h.qg, fun b e e' => h.qq b e' e⟩
theorem AP.keep {g g' : Nat} {q q' : Option Nat} (h : AP g q g' q') {w w' : World} {S : List En} {n : Nat} (hq : QS w g' q' S n) (hk : Keep w w' (fun k => k = g ∨ q = some k)) : QS w' g' q' S n :=
  hq.keep hk (fun e => e.elim (fun e => h.gg e.symm) h.qg) (fun b e e' => e'.elim (fun e' => h.gq (by rw [e, e'])) (fun e' => h.qq b e' e))

/-- In the first loop. -/
structure C1 (w wr : World) (g i : Nat) (q : Option Nat) (S : List En) : Prop where
  qs : QS wr g q S i
  len : S.length = i
  low : ∀ x ∈ S, low x = true
  gnew : w.heap.size ≤ g
  qnew : ∀ b, q = some b → w.heap.size ≤ b
  bel : Below w.heap.size w wr

/-- In the second loop: i more were pushed to the first one; the copy is as it was. -/
structure C2 (w wr : World) (g g' n i : Nat) (q q' : Option Nat) (S S2 : List En) : Prop where
  qs : QS wr g q S2 (n + i)
  len : S2.length = n + i
  fil : S2.filter Go.Proofs.Ytgimpolgagkffaa.low = S
  cs : QS wr g' q' S n
  ap : AP g q g' q'
  gnew : w.heap.size ≤ g
  qnew : ∀ b, q = some b → w.heap.size ≤ b
  bel : Below w.heap.size w wr

/-- In the third loop. -/
structure C3 (w wr : World) (g g' n m : Nat) (q q' : Option Nat) (Sc Sq : List En) : Prop where
  qs : QS wr g q Sq m
  fil : Sq.filter Go.Proofs.Ytgimpolgagkffaa.low = Sc
  cs : QS wr g' q' Sc n
  bel : Below w.heap.size w wr

/-- In the inner loop: x was popped of the copy. -/
structure C4 (w wr : World) (g g' xb n m : Nat) (q q' : Option Nat) (x : En) (Sc Sq : List En) : Prop where
  qs : QS wr g q Sq m
  fil : Sq.filter Go.Proofs.Ytgimpolgagkffaa.low = x :: Sc
  cs : QS wr g' q' Sc n
  xb : Blk wr xb 35 [.int .i64 x.wt, .int .i64 x.num]
  bel : Below w.heap.size w wr

/-- How long the row of the queue at g is. -/
def rowLen (w : World) (g : Nat) : Nat := match w.cell? ⟨g, 0, none⟩ with | some (.slice _ n _) => n | _ => 0
theorem QS.rowLen {w : World} {g : Nat} {q : Option Nat} {S : List En} {n : Nat} (h : QS w g q S n) : rowLen w g = S.length := by
  obtain ⟨ao, cap, L, hH, _, _⟩ := h.slice
  unfold Go.Proofs.Ytgimpolgagkffaa.rowLen
  rw [hH.blk.cell (j := 0) rfl]

set_option maxRecDepth 100000 in
set_option maxHeartbeats 2000000 in
theorem copies_any (ao : Option Addr) (n cap : Nat) (bs : List UInt8) (bo : Option Addr) (m cap2 : Nat) (cs : List UInt8) (w : World) (hR : Rd w ao n cap bs) (hR2 : Rd w bo m cap2 cs) : Calls Try.prog 5 #[.slice ao n cap, .slice bo m cap2] w fun e w' => e = .returned (.bool true) ∧ Below w.heap.size w w' := by
  have hle := hR.le
  have hmx := hR.max
  have hle2 := hR2.le
  have hmx2 := hR2.max
  unfold maxLen at hmx hmx2
  by_cases hn : 60 < n
  · go_enter Try.func5, Try.ntmps5
    go_wp2_with (go_at_call 6; refine (begun_any w).mono ?_; rintro e w0 ⟨rfl, hb0⟩)
    go_ret
    exact ⟨rfl, hb0⟩
  by_cases hm : 60 < m
  · have hn' : n ≤ 60 := by omega
    clear hn
    go_enter Try.func5, Try.ntmps5
    go_wp2_with (go_at_call 6; refine (begun_any w).mono ?_; rintro e w0 ⟨rfl, hb0⟩)
    go_ret
    exact ⟨rfl, hb0⟩
  have hn' : n ≤ 60 := by omega
  have hm' : m ≤ 60 := by omega
  clear hn hm
  go_enter Try.func5, Try.ntmps5
  go_wp2_with (first
    | (go_at_call 6; refine (begun_any w).mono ?_; rintro e w0 ⟨rfl, hb0⟩)
    | (go_at_call 7; refine (new_any w0).mono ?_; rintro e w1 ⟨g, rfl, hg, Q1, hb1⟩))
  have hb01 := hb0.trans (hb1.mono hb0.size)
  go_loopw [6] (fun s6 wr => ∃ (i : Nat) (q : Option Nat) (S : List En), s6 = .int .i64 (i : Int) ∧ i ≤ n ∧ C1 w wr g i q S) (fun s6 _ => n - (intOf s6).toNat)
  case atStart => exact ⟨0, none, [], rfl, Nat.zero_le _, Q1, rfl, (fun x h => by simp at h), Nat.le_trans hb0.size hg, (fun b e => by cases e), hb01⟩
  case round =>
    clear Q1 hb1 hb0 hb01
    obtain ⟨i, q, S, rfl, hi, h1⟩ := hrel
    by_cases hin : i < n
    · obtain ⟨b, off, rfl, hbl, hc⟩ := (hR.below h1.bel (Nat.le_refl _)).byte hin
      obtain ⟨u, hu⟩ : ∃ u, (bs.getD i 0).toNat = u := ⟨_, rfl⟩
      have hu9 : u ≤ 255 := by rw [← hu]; have := UInt8.toNat_lt (bs.getD i 0); omega
      rw [hu] at hc
      clear hu
      have hmod : (u : Int).tmod 5 = ((u % 5 : Nat) : Int) := by exact (Int.ofNat_tmod u 5).symm
      go_wp2_with fail
      refine (qpush_any g q S i ((u : Int) % 5) (i : Int) wr h1.qs (by have := h1.len; omega) (by omega)).mono ?_
      rintro e w2 ⟨rfl, q2, hP⟩
      have REL : Hid (C1 w w2 g (i + 1) q2 (ins ⟨(u : Int) % 5, (i : Int), i⟩ S)) := ⟨hP.qs, by rw [(ins_perm _ _).length_eq, List.length_cons, h1.len], fun x hx => by
          rcases ins_mem.1 hx with rfl | hx
          · simp [low]; omega
          · exact h1.low x hx, h1.gnew, fun b e => by
          rcases hP.own with h | ⟨k, h, hk⟩
          · rw [h] at e; exact h1.qnew b e
          · rw [h] at e; simp at e; have := h1.bel.size; omega, h1.bel.trans (hP.keep.below h1.bel.size (fun k h => h.elim (fun e => by rw [e]; exact h1.gnew) (h1.qnew k)))⟩
      clear hP h1 hc
      go_wp2_with fail
      go_roundw
      case rel => exact ⟨i + 1, q2, _, by go_num, hin, REL.out⟩
      case measure => simp [intOf]; omega
    · obtain rfl : i = n := by omega
      clear hi
      obtain ⟨w2, hw2⟩ : ∃ w2, w2 = wr := ⟨_, rfl⟩
      subst hw2
      go_wp2_with (go_at_call 14; refine (qcopy_any g q S i w2 h1.qs).mono ?_; rintro e w3 ⟨g', rfl, q', hC⟩)
      have ST : C2 w w3 g g' i 0 q q' S S := ⟨h1.qs.below hC.bel, h1.len, List.filter_eq_self.2 h1.low, hC.qs, ⟨by have := h1.qs.glt; have := hC.new; omega, fun e => by have := h1.qs.qlt e; have := hC.new; omega, fun e => by have := hC.own _ e; have := h1.qs.glt; omega, fun b e e' => by have := h1.qs.qlt e; have := hC.own _ e'; omega⟩, h1.gnew, h1.qnew, h1.bel.trans (hC.bel.mono h1.bel.size)⟩
      have hlc := h1.len
      have g'new : w.heap.size ≤ g' := Nat.le_trans h1.bel.size hC.new
      have q'new : ∀ b, q' = some b → w.heap.size ≤ b := fun b e => Nat.le_trans h1.bel.size (hC.own b e)
      clear h1 hC
      go_loopw [8] (fun s8 wr => ∃ (j : Nat) (q2 : Option Nat) (S2 : List En), s8 = .int .i64 (j : Int) ∧ j ≤ m ∧ C2 w wr g g' i j q2 q' S S2) (fun s8 _ => m - (intOf s8).toNat)
      case atStart => exact ⟨0, q, S, rfl, Nat.zero_le _, ST⟩
      case round =>
        clear ST
        obtain ⟨j, q2, S2, rfl, hj, h2⟩ := hrel
        by_cases hjm : j < m
        · obtain ⟨b, off, rfl, hbl, hc⟩ := (hR2.below h2.bel (Nat.le_refl _)).byte hjm
          obtain ⟨u, hu⟩ : ∃ u, (cs.getD j 0).toNat = u := ⟨_, rfl⟩
          have hu9 : u ≤ 255 := by rw [← hu]; have := UInt8.toNat_lt (cs.getD j 0); omega
          rw [hu] at hc
          clear hu
          have hmod : (u : Int).tmod 5 = ((u % 5 : Nat) : Int) := by exact (Int.ofNat_tmod u 5).symm
          go_wp2_with fail
          refine (qpush_any g q2 S2 (i + j) ((u : Int) % 5) (100 + (j : Int)) wr h2.qs (by have := h2.len; omega) (by omega)).mono ?_
          rintro e w4 ⟨rfl, q4, hP⟩
          have REL : Hid (C2 w w4 g g' i (j + 1) q4 q' S (ins ⟨(u : Int) % 5, 100 + (j : Int), i + j⟩ S2)) := ⟨hP.qs, by rw [(ins_perm _ _).length_eq, List.length_cons, h2.len]; omega, by rw [ins_filter (by simp [low]; omega)]; exact h2.fil, h2.ap.keep h2.cs hP.keep, ⟨h2.ap.gg, fun e => by
              rcases hP.own with h | ⟨k, h, hk⟩
              · rw [h] at e; exact h2.ap.qg e
              · rw [h] at e; simp at e; have := h2.cs.glt; omega, h2.ap.gq, fun b e e' => by
              rcases hP.own with h | ⟨k, h, hk⟩
              · rw [h] at e; exact h2.ap.qq b e e'
              · rw [h] at e; simp at e; have := h2.cs.qlt e'; omega⟩, h2.gnew, fun b e => by
              rcases hP.own with h | ⟨k, h, hk⟩
              · rw [h] at e; exact h2.qnew b e
              · rw [h] at e; simp at e; have := h2.bel.size; omega, h2.bel.trans (hP.keep.below h2.bel.size (fun k h => h.elim (fun e => by rw [e]; exact h2.gnew) (h2.qnew k)))⟩
          clear hP h2 hc
          go_wp2_with fail
          go_roundw
          case rel => exact ⟨j + 1, q4, _, by go_num, hjm, REL.out⟩
          case measure => simp [intOf]; omega
        · obtain rfl : j = m := by omega
          clear hj
          obtain ⟨w4, hw4⟩ : ∃ w4, w4 = wr := ⟨_, rfl⟩
          subst hw4
          have HL1 : Hid _ := h2.len
          have HL2 : Hid _ := hlc
          clear hlc
          have k15a := qlen_any g' q' S i w4 h2.cs
          have k15b := qlen_any g q2 S2 (i + j) w4 h2.qs
          rw [HL2.out] at k15a
          rw [HL1.out] at k15b
          rw [Int.natCast_add] at k15b
          have ST : C3 w w4 g g' i (i + j) q2 q' S S2 := ⟨h2.qs, h2.fil, h2.cs, h2.bel⟩
          have ap := h2.ap
          have gnew := h2.gnew
          have qnew := h2.qnew
          clear h2
          go_wp2_with fail
          refine k15a.mono ?_
          rintro e _ ⟨rfl, rfl⟩
          clear k15a
          go_wp2_with fail
          refine k15b.mono ?_
          rintro e _ ⟨rfl, rfl⟩
          clear k15b
          go_wp2_with fail
          go_loopw [9] (fun s9 wr => ∃ (k : Nat) (Sc Sq : List En), s9 = .int .i64 (k : Int) ∧ Hid (Sc.length + k = i) ∧ C3 w wr g g' i (i + j) q2 q' Sc Sq) (fun s9 _ => i - (intOf s9).toNat)
          case atStart => exact ⟨0, S, S2, rfl, HL2.out, ST⟩
          case round =>
            clear ST
            obtain ⟨k, Sc, Sq, rfl, hk, h3⟩ := hrel
            by_cases hki : k < i
            · obtain ⟨x, Sc', rfl⟩ : ∃ x Sc', Sc = x :: Sc' := by
                cases Sc with
                | nil => have := hk.out; simp at this; omega
                | cons x r => exact ⟨x, r, rfl⟩
              have cs := h3.cs
              have qs := h3.qs
              have HF : Hid _ := h3.fil
              have bel := h3.bel
              clear h3
              go_wp2_with (go_at_call 9; refine (qpop_any g' q' x Sc' i wr cs).mono ?_; rintro e w5 ⟨rfl, C5, K5⟩)
              obtain ⟨w6, hw6, hb6, P6, hs6⟩ := one_new w5 [.int .i64 x.wt, .int .i64 x.num] 35
              rw [hw6]
              have q5 := ap.turn.keep qs K5
              have bel6 : Below w.heap.size w w6 := (bel.trans (K5.below bel.size (fun k h => h.elim (fun e => by rw [e]; exact g'new) (q'new k)))).trans (hb6.mono (Nat.le_trans bel.size K5.size))
              obtain ⟨xb, hxb⟩ : ∃ xb, w5.heap.size = xb := ⟨_, rfl⟩
              have gxb : g < xb ∧ g' < xb := by have := q5.glt; have := C5.glt; omega
              have qxb : (∀ b, q2 = some b → b < xb) ∧ ∀ b, q' = some b → b < xb := ⟨fun b e => by have := q5.qlt e; omega, fun b e => by have := C5.qlt e; omega⟩
              have wxb : w.heap.size ≤ xb := by have := bel.size; have := K5.size; omega
              have ST : C4 w w6 g g' xb i (i + j) q2 q' x Sc' Sq := ⟨q5.below hb6, HF.out, C5.below hb6, by rw [← hxb]; exact P6, bel6⟩
              rw [hxb]
              clear hw6 hb6 P6 hs6 q5 bel6 hxb C5 K5 bel qs cs HF
              go_loopw [13] (fun _ wk => ∃ (Sq : List En), C4 w wk g g' xb i (i + j) q2 q' x Sc' Sq) (fun _ wk => rowLen wk g)
              case atStart => exact ⟨Sq, ST⟩
              case round =>
                clear ST
                obtain ⟨Sq, h4⟩ := hrel
                obtain ⟨y, Sq', rfl⟩ : ∃ y Sq', Sq = y :: Sq' := by
                  cases Sq with
                  | nil => have := h4.fil; simp at this
                  | cons y r => exact ⟨y, r, rfl⟩
                have qs := h4.qs
                have HF : Hid _ := h4.fil
                have bel := h4.bel
                have hcs := h4.cs
                have xB := h4.xb
                have RLN : Hid _ := h4.qs.rowLen
                clear h4
                have hy8 : ∀ b, b = xb → ¬ (b = g ∨ q2 = some b) := fun b e h => h.elim (fun e' => by omega) (fun e' => by have := qxb.1 b e'; omega)
                by_cases hy : y.num < 100
                · obtain ⟨rfl, HF2⟩ : y = x ∧ Hid (Sq'.filter low = Sc') := by
                    have := HF.out
                    rw [List.filter_cons, if_pos (by simpa [low] using hy)] at this
                    exact ⟨(List.cons.inj this).1, (List.cons.inj this).2⟩
                  go_wp2_with (go_at_call 9; refine (qpop_any g q2 y Sq' (i + j) wr qs).mono ?_; rintro e w7 ⟨rfl, Q7, K7⟩; have xB7 := xB.keep K7 (hy8 xb rfl); have x0 := xB7.cell (j := 0) rfl; have x1 := xB7.cell (j := 1) rfl; have lx7 := xB7.lt)
                  have b7 := bel.size
                  have z7 := K7.size
                  have hbA : Below w7.heap.size w7 (w7.alloc (.cells #[.int .i64 y.wt, .int .i64 y.num] 35)) := (Below.refl _ _).alloc (Nat.le_refl _) _
                  refine ⟨⟨k + 1, Sc', Sq', by go_num, (show Sc'.length + (k + 1) = i by have := hk.out; simp at this; omega), Q7.below hbA, HF2.out, (ap.keep hcs K7).below hbA, (bel.trans (K7.below bel.size (fun k h => h.elim (fun e => by rw [e]; exact gnew) (qnew k)))).trans (hbA.mono (by omega))⟩, by simp [intOf]; omega⟩
                · have HF2 : Hid (Sq'.filter low = x :: Sc') := by
                    have := HF.out
                    rw [List.filter_cons, if_neg (by simpa [low] using hy)] at this
                    exact this
                  go_wp2_with (go_at_call 9; refine (qpop_any g q2 y Sq' (i + j) wr qs).mono ?_; rintro e w7 ⟨rfl, Q7, K7⟩; have xB7 := xB.keep K7 (hy8 xb rfl); have x0 := xB7.cell (j := 0) rfl; have x1 := xB7.cell (j := 1) rfl; have lx7 := xB7.lt)
                  have b7 := bel.size
                  have z7 := K7.size
                  have hbA : Below w7.heap.size w7 (w7.alloc (.cells #[.int .i64 y.wt, .int .i64 y.num] 35)) := (Below.refl _ _).alloc (Nat.le_refl _) _
                  have REL : Hid (C4 w (w7.alloc (.cells #[.int .i64 y.wt, .int .i64 y.num] 35)) g g' xb i (i + j) q2 q' x Sc' Sq') := ⟨Q7.below hbA, HF2.out, (ap.keep hcs K7).below hbA, xB7.below hbA lx7, (bel.trans (K7.below bel.size (fun k h => h.elim (fun e => by rw [e]; exact gnew) (qnew k)))).trans (hbA.mono (by omega))⟩
                  clear Q7 K7 xB7 x0 x1 hcs bel xB
                  go_roundw
                  case rel => exact ⟨Sq', REL.out⟩
                  case measure => rw [REL.out.qs.rowLen, RLN.out]; simp
            · have hS : Sc = [] := List.eq_nil_of_length_eq_zero (by have := hk.out; omega)
              subst hS
              have k15c := qlen_any g' q' [] i wr h3.cs
              have bel := h3.bel
              clear h3
              go_wp2_with (go_at_call 15; refine k15c.mono ?_; rintro e _ ⟨rfl, rfl⟩)
              go_ret
              exact ⟨rfl, bel⟩
end Go.Proofs.Ytgimpolgagkffaa
