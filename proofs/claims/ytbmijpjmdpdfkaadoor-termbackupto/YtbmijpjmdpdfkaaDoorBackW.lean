/- The walk of TermBack. No condition but that the terms lie in memory, that t's Levels are few, and that the tables hold what the program's text lays. -/
import Derived.Test.YtbmijpjmdpdfkaaDoorEqT
import Derived.Test.YtbmijpjmdpdfkaaDoorLi
import Derived.Test.YtbmijpjmdpdfkaaDoorBg2
import Derived.Test.YtbmijpjmdpdfkaaDoorRWhole
import Derived.Test.YtbmijpjmdpdfkaaDoorCount
namespace Go.Proofs.YtbmijpjmdpdfkaaDoor
open Go.RowKit

set_option maxRecDepth 100000 in
theorem light_any (T : Tr) (left : Int) (w : World) (B : Nat) (h1 : 0 ≤ left) (h2 : left ≤ 4611686018427387904) (hB : B ≤ w.heap.size) (h : TIn w (· < B) T) :
    Calls Tryd.prog 14 #[T.val, .int .i64 left] w fun e w' => e = .returned (.bool (T.wleB left)) ∧ Below w.heap.size w w' := by
  obtain ⟨w1, hw1, hb1, P1, hs1⟩ := one_new w [.int .i64 T.k, .int .i64 T.n, .string T.s, .slice T.la T.ls.length T.lc, .slice T.a T.args.length T.c] 25
  have hcall := rwhole_any T left w1 B h1 h2 (by omega) (h.below hb1 hB)
  have p0 := P1.cell (j := 0) rfl
  have p1 := P1.cell (j := 1) rfl
  have p2 := P1.cell (j := 2) rfl
  have p3 := P1.cell (j := 3) rfl
  have p4 := P1.cell (j := 4) rfl
  unfold Tr.val at *
  go_enter Tryd.func14, Tryd.ntmps14
  go_wp2_with (go_at_call 36; refine hcall.mono ?_; rintro e w5 ⟨rfl, hb5⟩)
  go_ret
  exact ⟨rfl, hb1.trans (hb5.mono (by omega))⟩

theorem toList_loop (s : ByteArray) : ∀ (n i : Nat) (r : List UInt8), s.size - i = n → r.length ≤ (ByteArray.toList.loop s i r).length := by
  intro n
  induction n with
  | zero => intro i r h; rw [ByteArray.toList.loop, if_neg (by omega)]; simp
  | succ n ih => intro i r h; rw [ByteArray.toList.loop, if_pos (by omega)]; have := ih (i + 1) (s.get! i :: r) (by omega); simp at this; omega
theorem em_empty {s : ByteArray} (h : emB s = true) : s = { data := #[] } := by
  unfold emB at h
  simp only [decide_eq_true_eq] at h
  have h0 : s.size = 0 := by
    rcases Nat.eq_zero_or_pos s.size with h0 | h0
    · exact h0
    · unfold ByteArray.toList at h
      rw [ByteArray.toList.loop, if_pos h0] at h
      have := toList_loop s _ 1 [s.get! 0] rfl
      rw [h] at this
      simp at this
  cases s with
  | mk d =>
    have : d = #[] := Array.eq_empty_of_size_eq_zero h0
    rw [this]

theorem okT_of (T : Tr) : T.allB = true → T.farB = false → OkT 1000000 T := by
  refine Tr.ind' (P := fun T => T.allB = true → T.farB = false → OkT 1000000 T) ?_ T
  intro T ih hA hF
  rw [Tr.allB_eq, Bool.and_eq_true] at hA
  rw [Tr.farB_eq, Bool.or_eq_false_iff] at hF
  obtain ⟨hw, hall⟩ := hA
  obtain ⟨hn, hfar⟩ := hF
  have hn' : T.n ≤ 1000000 := by simp at hn; omega
  unfold Tr.wholeB at hw
  rw [Bool.and_eq_true] at hw
  obtain ⟨hf, hk⟩ := hw
  have hnn : 0 ≤ T.n := by
    split at hk
    · unfold varB at hk; simp at hk; omega
    · split at hk
      · unfold sortB at hk; simp at hk; omega
      · split at hk
        · unfold constB at hk; simp at hk; omega
        · unfold bareB at hk; simp at hk; omega
  refine .mk (by unfold Tr.formB at hf; simpa using hf) hnn hn' (fun h0 => ?_) (fun L hL => ih L hL (Tr.allsB_iff.1 hall L hL) ?_)
  · rw [if_pos h0] at hk
    unfold varB at hk
    simp only [Bool.and_eq_true] at hk
    exact ⟨em_empty hk.2.2.1, by have := hk.2.2.2; simp at this; exact this⟩
  · cases hLf : L.farB with
    | false => rfl
    | true =>
      obtain ⟨i, hi, e⟩ := List.getElem_of_mem hL
      rw [Tr.farsB_mem (i := i) (by rw [List.getElem?_eq_getElem hi, e]) hLf] at hfar
      cases hfar
end Go.Proofs.YtbmijpjmdpdfkaaDoor

/- The walk of TermBack. No condition but that the terms lie in memory, that t's Levels are few, and that the tables hold what the program's text lays. -/
namespace Go.Proofs.YtbmijpjmdpdfkaaDoor
open Go.RowKit

set_option maxRecDepth 100000 in
set_option maxHeartbeats 4000000 in
theorem back_any (T V : Tr) (x y z : Nat) (w : World) (hT : Tabs w) (h3 : 3 ≤ w.heap.size) (hin : TIn w (· < w.heap.size) T) (hinV : TIn w (· < w.heap.size) V) (hlv : T.lv ≤ 262144) :
    Calls Tryd.prog 5 #[T.val, V.val, .int .u8 (x : Int), .int .u8 (y : Int), .int .u8 (z : Int)] w fun e w' => e = .returned (.bool true) ∧ Below w.heap.size w w' := by
  have hTv : T.val = .agg #[.int .i64 T.k, .int .i64 T.n, .string T.s, .slice T.la T.ls.length T.lc, .slice T.a T.args.length T.c] := rfl
  have hVv : V.val = .agg #[.int .i64 V.k, .int .i64 V.n, .string V.s, .slice V.la V.ls.length V.lc, .slice V.a V.args.length V.c] := rfl
  obtain ⟨w1, hw1, hb1, A1, B1, hs1⟩ := two_new w [.int .i64 T.k, .int .i64 T.n, .string T.s, .slice T.la T.ls.length T.lc, .slice T.a T.args.length T.c] [.int .i64 V.k, .int .i64 V.n, .string V.s, .slice V.la V.ls.length V.lc, .slice V.a V.args.length V.c] 25 25
  have hbeg := begun_any w1 (hT.on hb1) (by omega)
  rw [hTv, hVv]
  go_enter Tryd.func5, Tryd.ntmps5
  go_wp2_with (go_at_call 7; refine hbeg.mono ?_; rintro e w2 ⟨rfl, hb2⟩; have A2 := A1.below hb2 A1.lt; have a0 := A2.cell (j := 0) rfl; have a1 := A2.cell (j := 1) rfl; have a2 := A2.cell (j := 2) rfl; have a3 := A2.cell (j := 3) rfl; have a4 := A2.cell (j := 4) rfl)
  have B2 := B1.below hb2 B1.lt
  have hb02 := hb1.trans (hb2.mono hb1.size)
  have hz1 := hb1.size
  have hz2 := hb2.size
  have c14 := light_any T 500 w2 w.heap.size (by omega) (by omega) (by omega) (hin.below hb02 (Nat.le_refl _))
  rw [hTv] at c14
  clear hbeg hw1 a0 a1 a2 a3 a4
  refine c14.mono ?_
  clear c14
  rintro e w3 ⟨rfl, hb3⟩
  have B3 := B2.below hb3 B2.lt
  have d0 := B3.cell (j := 0) rfl
  have d1 := B3.cell (j := 1) rfl
  have d2 := B3.cell (j := 2) rfl
  have d3 := B3.cell (j := 3) rfl
  have d4 := B3.cell (j := 4) rfl
  have hb03 := hb02.trans (hb3.mono hb02.size)
  have hz3 := hb3.size
  cases hw5 : T.wleB 500 with
  | false =>
    clear hw5
    go_wp2_with fail
    go_ret
    exact ⟨rfl, hb03⟩
  | true =>
    have hTw : T.allB = true ∧ T.size ≤ 500 := by
      unfold Tr.wleB at hw5
      rw [Bool.and_eq_true] at hw5
      exact ⟨hw5.1, by have := hw5.2; simp at this; omega⟩
    clear hw5
    have c14 := light_any V 100 w3 w.heap.size (by omega) (by omega) (by omega) (hinV.below hb03 (Nat.le_refl _))
    rw [hVv] at c14
    go_wp2_with fail
    refine c14.mono ?_
    clear c14
    rintro e w4 ⟨rfl, hb4⟩
    have hb04 := hb03.trans (hb4.mono hb03.size)
    have hz4 := hb4.size
    have A4 := (A2.below hb3 A2.lt).below hb4 (A2.below hb3 A2.lt).lt
    have g0 := A4.cell (j := 0) rfl
    have g1 := A4.cell (j := 1) rfl
    have g2 := A4.cell (j := 2) rfl
    have g3 := A4.cell (j := 3) rfl
    have g4 := A4.cell (j := 4) rfl
    cases hv1 : V.wleB 100 with
    | false =>
      clear hv1
      go_wp2_with fail
      go_ret
      exact ⟨rfl, hb04⟩
    | true =>
      clear hv1
      have c26 := far_any T w4 w.heap.size (by omega) (hin.below hb04 (Nat.le_refl _))
      rw [hTv] at c26
      go_wp2_with fail
      refine c26.mono ?_
      clear c26
      rintro e w5 ⟨rfl, hb5⟩
      have hb05 := hb04.trans (hb5.mono hb04.size)
      have hz5 := hb5.size
      have A5 := A4.below hb5 A4.lt
      have k0 := A5.cell (j := 0) rfl
      have k1 := A5.cell (j := 1) rfl
      have k2 := A5.cell (j := 2) rfl
      have k3 := A5.cell (j := 3) rfl
      have k4 := A5.cell (j := 4) rfl
      cases hf : T.farB with
      | true =>
        clear hf
        go_wp2_with fail
        go_ret
        exact ⟨rfl, hb05⟩
      | false =>
        have ho := okT_of T hTw.1 hf
        clear hf
        go_wp2_with fail
        obtain ⟨n, hn, hn0, hn1⟩ : ∃ n : Int, (x : Int) % 9 = n ∧ 0 ≤ n ∧ n < 9 := ⟨_, rfl, by omega, by omega⟩
        obtain ⟨m, hm, hm0, hm1⟩ : ∃ m : Int, (y : Int) % 9 = m ∧ 0 ≤ m ∧ m < 9 := ⟨_, rfl, by omega, by omega⟩
        obtain ⟨k, hk, hk0', hk1⟩ : ∃ k : Int, (z : Int) % 9 = k ∧ 0 ≤ k ∧ k < 9 := ⟨_, rfl, by omega, by omega⟩
        rw [hn, hm, hk]
        clear hn hm hk
        have up : ∀ {w' : World} {U : Tr}, Below w.heap.size w w' → TIn w (· < w.heap.size) U → TIn w' (· < w'.heap.size) U := fun hb hU => (hU.below hb (Nat.le_refl _)).mono (fun k (hk : k < w.heap.size) => Nat.lt_of_lt_of_le hk hb.size)
        have on : ∀ {wa wb : World} {U : Tr}, Below wa.heap.size wa wb → TIn wa (· < wa.heap.size) U → TIn wb (· < wb.heap.size) U := fun hb hU => (hU.below hb (Nat.le_refl _)).mono (fun k hk => Nat.lt_of_lt_of_le hk hb.size)
        have c18 := lift_ok T 1 0 w5 (hT.on hb05) (by omega) (up hb05 hin) ho (by omega) hlv (by omega) (by omega) (by omega) (by omega) (by omega)
        rw [hTv] at c18
        refine c18.mono ?_
        clear c18
        rintro e w6 ⟨b6, T1, l1, rfl, t1, hb6⟩
        have hb06 := hb05.trans (hb6.mono hb05.size)
        obtain ⟨s1, v1, o1⟩ := lift_keeps (by omega) T _ _ _ _ T1 ho l1
        obtain ⟨w7, hw7, hb7, O7, hs7⟩ := one_new w6 [.int .i64 T1.k, .int .i64 T1.n, .string T1.s, .slice T1.la T1.ls.length T1.lc, .slice T1.a T1.args.length T1.c] 25
        have hb07 := hb06.trans (hb7.mono hb06.size)
        have A7 := (A5.below hb6 A5.lt).below hb7 (A5.below hb6 A5.lt).lt
        have ma0 := A7.cell (j := 0) rfl
        have ma1 := A7.cell (j := 1) rfl
        have ma2 := A7.cell (j := 2) rfl
        have ma3 := A7.cell (j := 3) rfl
        have ma4 := A7.cell (j := 4) rfl
        have h1v : T1.val = .agg #[.int .i64 T1.k, .int .i64 T1.n, .string T1.s, .slice T1.la T1.ls.length T1.lc, .slice T1.a T1.args.length T1.c] := rfl
        rw [h1v]
        have c18 := lift_ok T n k w7 (hT.on hb07) (by have := hb07.size; omega) (up hb07 hin) ho (by omega) hlv (by omega) (by omega) (by omega) (by omega) (by omega)
        rw [hTv] at c18
        have t17 := on hb7 t1
        have HW7 : Hid (w6.alloc (.cells #[.int .i64 T1.k, .int .i64 T1.n, .string T1.s, .slice T1.la T1.ls.length T1.lc, .slice T1.a T1.args.length T1.c] 25) = w7) := hw7
        have z70 : (w6.alloc (.cells #[.int .i64 T1.k, .int .i64 T1.n, .string T1.s, .slice T1.la T1.ls.length T1.lc, .slice T1.a T1.args.length T1.c] 25)).cell? ⟨w.heap.size, 0, none⟩ = some (.int .i64 T.k) := by rw [hw7]; exact ma0
        have z71 : (w6.alloc (.cells #[.int .i64 T1.k, .int .i64 T1.n, .string T1.s, .slice T1.la T1.ls.length T1.lc, .slice T1.a T1.args.length T1.c] 25)).cell? ⟨w.heap.size, 1, none⟩ = some (.int .i64 T.n) := by rw [hw7]; exact ma1
        have z72 : (w6.alloc (.cells #[.int .i64 T1.k, .int .i64 T1.n, .string T1.s, .slice T1.la T1.ls.length T1.lc, .slice T1.a T1.args.length T1.c] 25)).cell? ⟨w.heap.size, 2, none⟩ = some (.string T.s) := by rw [hw7]; exact ma2
        have z73 : (w6.alloc (.cells #[.int .i64 T1.k, .int .i64 T1.n, .string T1.s, .slice T1.la T1.ls.length T1.lc, .slice T1.a T1.args.length T1.c] 25)).cell? ⟨w.heap.size, 3, none⟩ = some (.slice T.la T.ls.length T.lc) := by rw [hw7]; exact ma3
        have z74 : (w6.alloc (.cells #[.int .i64 T1.k, .int .i64 T1.n, .string T1.s, .slice T1.la T1.ls.length T1.lc, .slice T1.a T1.args.length T1.c] 25)).cell? ⟨w.heap.size, 4, none⟩ = some (.slice T.a T.args.length T.c) := by rw [hw7]; exact ma4
        clear hw7
        go_wp2_with fail
        rw [HW7.out]
        refine c18.mono ?_
        clear c18 z70 z71 z72 z73 z74 HW7
        rintro e w8 ⟨b8, T2, l2, rfl, t2, hb8⟩
        have hb08 := hb07.trans (hb8.mono hb07.size)
        obtain ⟨s2, v2, o2⟩ := lift_keeps hn0 T _ _ _ _ T2 ho l2
        have h2v : T2.val = .agg #[.int .i64 T2.k, .int .i64 T2.n, .string T2.s, .slice T2.la T2.ls.length T2.lc, .slice T2.a T2.args.length T2.c] := rfl
        rw [h2v]
        have c18 := lift_ok T2 m k w8 (hT.on hb08) (by have := hb08.size; omega) t2 o2 (by omega) (by omega) (by omega) (by omega) (by omega) (by omega) (by omega)
        rw [h2v] at c18
        go_wp2_with fail
        refine c18.mono ?_
        clear c18
        rintro e w9 ⟨b9, T3, l3, rfl, t3, hb9⟩
        have hb09 := hb08.trans (hb9.mono hb08.size)
        obtain ⟨w10, hw10, hb10, O10, hs10⟩ := one_new w9 [.int .i64 T3.k, .int .i64 T3.n, .string T3.s, .slice T3.la T3.ls.length T3.lc, .slice T3.a T3.args.length T3.c] 25
        have hb010 := hb09.trans (hb10.mono hb09.size)
        have h3v : T3.val = .agg #[.int .i64 T3.k, .int .i64 T3.n, .string T3.s, .slice T3.la T3.ls.length T3.lc, .slice T3.a T3.args.length T3.c] := rfl
        rw [h3v]
        have HW10 : Hid (w9.alloc (.cells #[.int .i64 T3.k, .int .i64 T3.n, .string T3.s, .slice T3.la T3.ls.length T3.lc, .slice T3.a T3.args.length T3.c] 25) = w10) := hw10
        clear hw10
        go_wp2_with fail
        rw [HW10.out]
        have A10 := ((A7.below hb8 A7.lt).below hb9 (A7.below hb8 A7.lt).lt).below hb10 ((A7.below hb8 A7.lt).below hb9 (A7.below hb8 A7.lt).lt).lt
        have hb310 : Below w3.heap.size w3 w10 := (((((hb4.trans (hb5.mono hb4.size)).trans (hb6.mono (by have := hb5.size; omega))).trans (hb7.mono (by have := hb5.size; have := hb6.size; omega))).trans (hb8.mono (by have := hb5.size; have := hb6.size; have := hb7.size; omega))).trans (hb9.mono (by have := hb5.size; have := hb6.size; have := hb7.size; have := hb8.size; omega))).trans (hb10.mono (by have := hb5.size; have := hb6.size; have := hb7.size; have := hb8.size; have := hb9.size; omega))
        have B10 := B3.below hb310 B3.lt
        have P10 := ((O7.below hb8 O7.lt).below hb9 (O7.below hb8 O7.lt).lt).below hb10 ((O7.below hb8 O7.lt).below hb9 (O7.below hb8 O7.lt).lt).lt
        have ca0 := A10.cell (j := 0) rfl
        have ca1 := A10.cell (j := 1) rfl
        have ca2 := A10.cell (j := 2) rfl
        have ca3 := A10.cell (j := 3) rfl
        have ca4 := A10.cell (j := 4) rfl
        have cb0 := B10.cell (j := 0) rfl
        have cb1 := B10.cell (j := 1) rfl
        have cb2 := B10.cell (j := 2) rfl
        have cb3 := B10.cell (j := 3) rfl
        have cb4 := B10.cell (j := 4) rfl
        have cc0 := P10.cell (j := 0) rfl
        have cc1 := P10.cell (j := 1) rfl
        have cc2 := P10.cell (j := 2) rfl
        have cc3 := P10.cell (j := 3) rfl
        have cc4 := P10.cell (j := 4) rfl
        have cd0 := O10.cell (j := 0) rfl
        have cd1 := O10.cell (j := 1) rfl
        have cd2 := O10.cell (j := 2) rfl
        have cd3 := O10.cell (j := 3) rfl
        have cd4 := O10.cell (j := 4) rfl
        have L1 := A10.lt
        have L2 := B10.lt
        have L3 := P10.lt
        have L4 := O10.lt
        have t110 : TIn w10 (· < w10.heap.size) T1 := on hb10 (on hb9 (on hb8 t17))
        have t310 : TIn w10 (· < w10.heap.size) T3 := on hb10 t3
        have tT10 : TIn w10 (· < w10.heap.size) T := up hb010 hin
        have T10 := hT.on hb010
        have h310 : 3 ≤ w10.heap.size := by have := hb010.size; omega
        have drB : Below w10.heap.size w10 w10.drew := (Below.refl _ _).drew
        have c19 := put_none T1 V w10.drew (T10.on drB) h310 (on drB t110) o1 (by omega) (by omega) (by omega) (fun g => lift_unused T _ _ _ _ T1 g 0 1 ho l1)
        rw [h1v, hVv] at c19
        have hEp : ∀ ba Ta, PutG ⟨ba, 0, T1, 1, 0⟩ Ta → Eqv Ta T := fun ba Ta hp => lift_put T _ _ _ _ _ _ _ T1 Ta ho l1 hp
        have hEl : ∀ bb Tb, LiftG (n + m) k ⟨bb, 0, T, 1, 0⟩ Tb → Eqv T3 Tb := fun bb Tb hp => lift_adds hn0 T _ _ _ _ _ _ _ _ _ _ T2 T3 Tb ho l2 l3 hp
        have hEz : ∀ bb Tb, LiftG 0 k ⟨bb, 0, T, 1, 0⟩ Tb → Eqv Tb T := fun bb Tb hp => lift_zero T _ _ _ _ Tb ho hp
        obtain ⟨us, hus⟩ : ∃ us, decide (0 < cntF (k + 1) (T1.seq 0 0 1 0)) = us := ⟨_, rfl⟩
        have hu1 : ∀ g, decide (0 < cntF (k + 1) (Pt.mk g 0 T1 1 0).seq) = us := fun g => by
          rw [← hus, show (Pt.mk g 0 T1 1 0).seq = T1.seq g 0 1 0 from rfl, lift_uses hk0' T _ _ _ _ T1 g 0 1 0 0 1 ho l1, lift_uses hk0' T _ _ _ _ T1 0 0 1 0 0 1 ho l1]
        have hu2 : ∀ g, decide (0 < cntF k (Pt.mk g 0 T 1 0).seq) = us := fun g => by
          rw [← hus, show (Pt.mk g 0 T 1 0).seq = T.seq g 0 1 0 from rfl, ← lift_uses hk0' T _ _ _ _ T1 0 0 1 g 0 1 ho l1]
        have hu0 : ∀ g, decide (0 < cntF 0 (Pt.mk g 0 T1 1 0).seq) = false := fun g => by
          rw [show (Pt.mk g 0 T1 1 0).seq = T1.seq g 0 1 0 from rfl, lift_unused T _ _ _ _ T1 g 0 1 ho l1]; rfl
        have hus' : (us == us) = true := by simp
        have wnm : IntKind.i64.wrap (n + m) = n + m := by rw [IntKind.wrap_i64]; omega
        have wk1 : IntKind.i64.wrap (k + 1) = k + 1 := by rw [IntKind.wrap_i64]; omega
        have c18b := fun (wx : World) (hbx : Below w10.heap.size w10 wx) => lift_ok T (n + m) k wx (T10.on hbx) (by have := hbx.size; omega) (on hbx tT10) ho (by omega) hlv (by omega) (by omega) (by omega) (by omega) (by omega)
        have c18c := fun (wx : World) (hbx : Below w10.heap.size w10 wx) => lift_ok T 0 k wx (T10.on hbx) (by have := hbx.size; omega) (on hbx tT10) ho (by omega) hlv (by omega) (by omega) (by omega) (by omega) (by omega)
        have c27a := fun (wx : World) (hbx : Below w10.heap.size w10 wx) => uses_any T1 0 wx wx.heap.size (T10.on hbx) (by have := hbx.size; omega) (Nat.le_refl _) (on hbx t110) (by omega)
        have c27b := fun (wx : World) (hbx : Below w10.heap.size w10 wx) => uses_any T1 (k + 1) wx wx.heap.size (T10.on hbx) (by have := hbx.size; omega) (Nat.le_refl _) (on hbx t110) (by omega)
        have c27c := fun (wx : World) (hbx : Below w10.heap.size w10 wx) => uses_any T k wx wx.heap.size (T10.on hbx) (by have := hbx.size; omega) (Nat.le_refl _) (on hbx tT10) (by omega)
        simp only [hu0] at c27a
        simp only [hu1] at c27b
        simp only [hu2] at c27c
        rw [hTv] at c18b c18c c27c
        rw [h1v] at c27a c27b
        clear s1 v1 s2 v2 hus hu0 hu1 hu2 l1 l2 l3 o1 o2 ho hlv hTw
        go_region_held3 (fun w' => w'.cell? ⟨w.heap.size, 0, none⟩ = some (.int .i64 T.k) ∧ w'.cell? ⟨w.heap.size, 1, none⟩ = some (.int .i64 T.n) ∧ w'.cell? ⟨w.heap.size, 2, none⟩ = some (.string T.s) ∧ w'.cell? ⟨w.heap.size, 3, none⟩ = some (.slice T.la T.ls.length T.lc) ∧ w'.cell? ⟨w.heap.size, 4, none⟩ = some (.slice T.a T.args.length T.c) ∧ w'.cell? ⟨w.heap.size + 1, 0, none⟩ = some (.int .i64 V.k) ∧ w'.cell? ⟨w.heap.size + 1, 1, none⟩ = some (.int .i64 V.n) ∧ w'.cell? ⟨w.heap.size + 1, 2, none⟩ = some (.string V.s) ∧ w'.cell? ⟨w.heap.size + 1, 3, none⟩ = some (.slice V.la V.ls.length V.lc) ∧ w'.cell? ⟨w.heap.size + 1, 4, none⟩ = some (.slice V.a V.args.length V.c) ∧ w'.cell? ⟨w6.heap.size, 0, none⟩ = some (.int .i64 T1.k) ∧ w'.cell? ⟨w6.heap.size, 1, none⟩ = some (.int .i64 T1.n) ∧ w'.cell? ⟨w6.heap.size, 2, none⟩ = some (.string T1.s) ∧ w'.cell? ⟨w6.heap.size, 3, none⟩ = some (.slice T1.la T1.ls.length T1.lc) ∧ w'.cell? ⟨w6.heap.size, 4, none⟩ = some (.slice T1.a T1.args.length T1.c) ∧ w'.cell? ⟨w9.heap.size, 0, none⟩ = some (.int .i64 T3.k) ∧ w'.cell? ⟨w9.heap.size, 1, none⟩ = some (.int .i64 T3.n) ∧ w'.cell? ⟨w9.heap.size, 2, none⟩ = some (.string T3.s) ∧ w'.cell? ⟨w9.heap.size, 3, none⟩ = some (.slice T3.la T3.ls.length T3.lc) ∧ w'.cell? ⟨w9.heap.size, 4, none⟩ = some (.slice T3.a T3.args.length T3.c)) (go_keep)
          (first
            | (go_at_call 19; refine c19.mono ?_; clear c19; rintro e wa ⟨ba, Ta, pa, rfl, ta, hba'⟩; have hba : Below w10.heap.size w10 wa := Below.trans drB hba'; have za := (bcell hba).1; have c21a := tequal_same Ta T wa wa.heap.size (hEp _ _ pa) (Nat.le_refl _) ta (on hba tT10); rw [hTv] at c21a)
            | (go_at_call 21; refine c21a.mono ?_; clear c21a; rintro e wb ⟨rfl, hbb'⟩; have hbb : Below w10.heap.size w10 wb := hba.trans (hbb'.mono hba.size); have zb := (bcell hbb).1; have d18 := c18b wb hbb; clear c18b)
            | (go_at_call 18; refine d18.mono ?_; clear d18; rintro e wc ⟨bc, Tc, pc, rfl, tc, hbc'⟩; have hbc : Below w10.heap.size w10 wc := hbb.trans (hbc'.mono hbb.size); have zc := (bcell hbc).1; have c21b := tequal_same T3 Tc wc wc.heap.size (hEl _ _ pc) (Nat.le_refl _) (on hbc t310) tc; rw [h3v] at c21b)
            | (go_at_call 21; refine c21b.mono ?_; clear c21b; rintro e wd ⟨rfl, hbd'⟩; have hbd : Below w10.heap.size w10 wd := hbc.trans (hbd'.mono hbc.size); have zd := (bcell hbd).1; have d27a := c27a wd hbd; clear c27a)
            | (go_at_call 27; refine d27a.mono ?_; clear d27a; rintro e we ⟨rfl, hbe'⟩; have hbe : Below w10.heap.size w10 we := hbd.trans (hbe'.mono hbd.size); have ze := (bcell hbe).1; have d27b := c27b we hbe; clear c27b)
            | (go_at_call 27; refine d27b.mono ?_; clear d27b; rintro e wf ⟨rfl, hbf'⟩; have hbf : Below w10.heap.size w10 wf := hbe.trans (hbf'.mono hbe.size); have zf := (bcell hbf).1; have d27c := c27c wf hbf; clear c27c)
            | (go_at_call 27; refine d27c.mono ?_; clear d27c; rintro e wg ⟨rfl, hbg'⟩; have hbg : Below w10.heap.size w10 wg := hbf.trans (hbg'.mono hbf.size); have zg := (bcell hbg).1; have d18c := c18c wg hbg; clear c18c)
            | (go_at_call 18; refine d18c.mono ?_; clear d18c; rintro e wh ⟨bh, Th, ph, rfl, th, hbh'⟩; have hbh : Below w10.heap.size w10 wh := hbg.trans (hbh'.mono hbg.size); have zh := (bcell hbh).1; have c21c := tequal_same Th T wh wh.heap.size (hEz _ _ ph) (Nat.le_refl _) th (on hbh tT10); rw [hTv] at c21c)
            | (go_at_call 21; refine c21c.mono ?_; clear c21c; rintro e wi ⟨rfl, hbi'⟩; have hbi : Below w10.heap.size w10 wi := hbh.trans (hbi'.mono hbh.size); have zi := (bcell hbi).1))
        go_wp2_with fail
        go_ret
        exact ⟨rfl, hb010.trans (hbi.mono hb010.size)⟩
end Go.Proofs.YtbmijpjmdpdfkaaDoor
