/- The walk of the program's reader of a declaration: one of its ways. -/
import Derived.Test.YtkbpmpcbajnmlaaDoorDc2
namespace Go.Proofs.YtkbpmpcbajnmlaaDoor
open Go.RowKit

set_option maxRecDepth 100000 in
set_option maxHeartbeats 4000000 in
theorem decl_val (B g : Nat) (st : Er Bs) (w : World) (ht : Tabs w) (h2 : 2 ≤ B) (h : RSx w B g st)
    (X1 : Er (Nat × Bs)) (h1 : st.bind (rKind 1 5) = X1) (X2 : Er (Nat × Bs)) (hx2 : X1.rest.bind rNum = X2) (X3 : Er (Nat × Bs)) (h3 : X2.rest.bind rNum = X3) (X4 : Er (Bs × Bs)) (h4 : X3.rest.bind rName = X4) (X5 : Er (Bs × Bs)) (h5 : X4.rest.bind rName = X5) (X6 : Er (Pm × Bs)) (h6 : X5.rest.bind rTerm = X6)
    (X7 : Er (Nat × Bs)) (h7 : X6.rest.bind (rKind (vals (X1.told 0)) (vals (X1.told 0))) = X7) (hyp : X7.told 0 = 1) (X8 : Er (Pm × Bs)) (h8 : X7.rest.bind rTerm = X8) (X9 : Er (Nat × Bs)) (h9 : X8.rest.bind (rUpTo 5 3) = X9) (X10 : Er (List (Bs × Pm) × Bs)) (h10 : X9.rest.bind (rMany rCtor (X9.told 0)) = X10)
    (hres : st.bind rDecl = X10.bind fun cs => .ok (⟨X1.told 0, X2.told 0, X3.told 0, X4.told [], X5.told [], X6.told noTm, X8.told noTm, cs.1⟩, cs.2)) :
    Calls Tryd.prog 35 #[.pointer (some ⟨g, 0, none⟩)] w (DcP w B g (st.bind rDecl)) := by
  obtain ⟨hBg, hg⟩ := h.low
  have HRES : Hid _ := hres
  clear hres
  obtain ⟨w0, hw0, hb0, P0, hs0⟩ := one_newG w [.int .i64 0, .int .i64 0, .int .i64 0, .string { data := #[] }, .string { data := #[] }, .int .i64 0, .int .i64 0, .string { data := #[] }, .slice none 0 0, .slice none 0 0, .int .i64 0, .int .i64 0, .string { data := #[] }, .slice none 0 0, .slice none 0 0, .slice none 0 0] 38
  have K0 : Keep w w0 (fun _ => False) := Keep.of_below hb0 (Nat.le_refl _)
  have R0 := h.keep K0 id (fun _ s => s.elim)
  have T0 := ht.keep K0 (fun _ s => s.elim)
  have hDg : w.heap.size ≠ g := by omega
  have hDB : B ≤ w.heap.size := by omega
  have hD2 : 2 ≤ w.heap.size := by omega
  have hk5 : X1.told 0 ≤ 5 := by rw [← h1]; exact kind_told _ _ _
  have hp5 : X2.told 0 ≤ 1073741824 := by rw [← hx2]; exact num_told _
  have hc5 : X3.told 0 ≤ 1073741824 := by rw [← h3]; exact num_told _
  have hm5 : X9.told 0 ≤ 5 := by rw [← h9]; exact upTo_told _ _ _
  obtain ⟨kk, hkk⟩ : ∃ kk, X1.told 0 = kk := ⟨_, rfl⟩
  obtain ⟨pp, hpp⟩ : ∃ pp, X2.told 0 = pp := ⟨_, rfl⟩
  obtain ⟨cc, hcc⟩ : ∃ cc, X3.told 0 = cc := ⟨_, rfl⟩
  obtain ⟨nn, hnn⟩ : ∃ nn : ByteArray, (⟨(X4.told []).toArray⟩ : ByteArray) = nn := ⟨_, rfl⟩
  obtain ⟨ff, hff⟩ : ∃ ff : ByteArray, (⟨(X5.told []).toArray⟩ : ByteArray) = ff := ⟨_, rfl⟩
  obtain ⟨mm, hmm⟩ : ∃ mm, X9.told 0 = mm := ⟨_, rfl⟩
  have hv1 : vals kk ≤ 1 := by unfold vals; split <;> omega
  rw [hkk] at hk5 h7
  rw [hpp] at hp5
  rw [hcc] at hc5
  rw [hmm] at hm5 h10
  have c1 := fun w' R => kind_any B g st 1 5 (by omega) (by omega) w' R
  have c2 := fun w' R => number_any B g X1.rest w' R
  have c3 := fun w' R => number_any B g X2.rest w' R
  have c4 := fun w' R => name_any B g X3.rest w' R
  have c5 := fun w' R => name_any B g X4.rest w' R
  have c6 := fun w' Tb R => term_any B g X5.rest w' Tb h2 R
  have c7 := fun w' R => kind_any B g X6.rest (vals kk) (vals kk) (by omega) (by omega) w' R
  have c8 := fun w' Tb R => term_any B g X7.rest w' Tb h2 R
  have c9 := fun w' R => upTo_any B g X8.rest 5 3 (by omega) (by omega) w' R
  have c10 := fun w' Tb R => sev_ctors mm (by omega) B g X9.rest w' Tb h2 R
  rw [h1, hkk] at c1
  rw [hx2, hpp] at c2
  rw [h3, hcc] at c3
  rw [h4, hnn] at c4
  rw [h5, hff] at c5
  rw [h6] at c6
  rw [h7] at c7
  rw [h8] at c8
  rw [h9, hmm] at c9
  rw [h10] at c10
  have C1 : Hid _ := c1
  have C2 : Hid _ := c2
  have C3 : Hid _ := c3
  have C4 : Hid _ := c4
  have C5 : Hid _ := c5
  have C6 : Hid _ := c6
  have C7 : Hid _ := c7
  have C8 : Hid _ := c8
  have C9 : Hid _ := c9
  have C10 : Hid _ := c10
  have HK : Hid (X1.told 0 = kk ∧ X2.told 0 = pp ∧ X3.told 0 = cc ∧ (⟨(X4.told []).toArray⟩ : ByteArray) = nn ∧ (⟨(X5.told []).toArray⟩ : ByteArray) = ff ∧ X9.told 0 = mm) := ⟨hkk, hpp, hcc, hnn, hff, hmm⟩
  have H7 : Hid _ := h7
  have H8 : Hid _ := h8
  have H9 : Hid _ := h9
  have H10 : Hid _ := h10
  have HYP : Hid _ := hyp
  have HV : Hid (vals kk ≤ 1) := hv1
  clear c1 c2 c3 c4 c5 c6 c7 c8 c9 c10 hkk hpp hcc hnn hff hmm h1 hx2 h3 h4 h5 h6 h7 h8 h9 h10 h hyp hv1
  go_enter Tryd.func35, Tryd.ntmps35
  go_wp2_with fail
  refine (C1.out w0 R0).mono ?_
  rintro x u1 ⟨rfl, R1, K1⟩
  have y1 := K1.size
  have P1 := P0.keep K1 (by omega)
  have TT1 := T0.keep K1 (fun k hk => by omega)
  have e1 := P1.cell (j := 0) rfl
  have f1 := P1.frozen 0
  obtain ⟨v1, hv1, Q1, J1, S1, T1, z1⟩ := setw P1 0 (.int .i64 (kk : Int)) R1 TT1 hDg hDB hD2
  clear hw0
  go_wp2_with fail
  clear hv1 e1 f1 P1 R1 TT1
  refine (C2.out v1 S1).mono ?_
  rintro x u2 ⟨rfl, R2, K2⟩
  have y2 := K2.size
  have P2 := Q1.keep K2 (by omega)
  have TT2 := T1.keep K2 (fun k hk => by omega)
  have e2 := P2.cell (j := 1) rfl
  have f2 := P2.frozen 1
  obtain ⟨v2, hv2, Q2, J2, S2, T2, z2⟩ := setw P2 1 (.int .i64 (pp : Int)) R2 TT2 hDg hDB hD2
  go_wp2_with fail
  clear hv2 e2 f2 P2 R2 TT2
  refine (C3.out v2 S2).mono ?_
  rintro x u3 ⟨rfl, R3, K3⟩
  have y3 := K3.size
  have P3 := Q2.keep K3 (by omega)
  have TT3 := T2.keep K3 (fun k hk => by omega)
  have e3 := P3.cell (j := 2) rfl
  have f3 := P3.frozen 2
  obtain ⟨v3, hv3, Q3, J3, S3, T3, z3⟩ := setw P3 2 (.int .i64 (cc : Int)) R3 TT3 hDg hDB hD2
  go_wp2_with fail
  clear hv3 e3 f3 P3 R3 TT3
  refine (C4.out v3 S3).mono ?_
  rintro x u4 ⟨rfl, R4, K4⟩
  have y4 := K4.size
  have P4 := Q3.keep K4 (by omega)
  have TT4 := T3.keep K4 (fun k hk => by omega)
  have e4 := P4.cell (j := 3) rfl
  have f4 := P4.frozen 3
  obtain ⟨v4, hv4, Q4, J4, S4, T4, z4⟩ := setw P4 3 (.string nn) R4 TT4 hDg hDB hD2
  go_wp2_with fail
  clear hv4 e4 f4 P4 R4 TT4
  refine (C5.out v4 S4).mono ?_
  rintro x u5 ⟨rfl, R5, K5⟩
  have y5 := K5.size
  have P5 := Q4.keep K5 (by omega)
  have TT5 := T4.keep K5 (fun k hk => by omega)
  have e5 := P5.cell (j := 4) rfl
  have f5 := P5.frozen 4
  obtain ⟨v5, hv5, Q5, J5, S5, T5, z5⟩ := setw P5 4 (.string ff) R5 TT5 hDg hDB hD2
  go_wp2_with fail
  clear hv5 e5 f5 P5 R5 TT5
  refine (C6.out v5 T5 S5).mono ?_
  rintro x u6 ⟨L6, U, rfl, R6, O6, I6, K6⟩
  have y6 := K6.size
  have P6 := Q5.keep K6 (by omega)
  have TT6 := T5.keep K6 (fun k hk => by omega)
  have e60 := P6.cell (j := 5) rfl
  have f60 := P6.frozen 5
  have e61 := P6.cell (j := 6) rfl
  have f61 := P6.frozen 6
  have e62 := P6.cell (j := 7) rfl
  have f62 := P6.frozen 7
  have e63 := P6.cell (j := 8) rfl
  have f63 := P6.frozen 8
  have e64 := P6.cell (j := 9) rfl
  have f64 := P6.frozen 9
  obtain ⟨v6, hv6', Q6, J6, S6, T6, z6⟩ := setw5 P6 5 (.int .i64 U.k) (.int .i64 U.n) (.string U.s) (.slice U.la U.ls.length U.lc) (.slice U.a U.args.length U.c) R6 TT6 hDg hDB hD2
  have hv6 : ((((u6.setCell ⟨w.heap.size, 5, none⟩ (.int .i64 U.k)).setCell ⟨w.heap.size, 6, none⟩ (.int .i64 U.n)).setCell ⟨w.heap.size, 7, none⟩ (.string U.s)).setCell ⟨w.heap.size, 8, none⟩ (.slice U.la U.ls.length U.lc)).setCell ⟨w.heap.size, 9, none⟩ (.slice U.a U.args.length U.c) = v6 := hv6'
  clear hv6'
  have ek := Q6.cell (j := 0) rfl
  go_wp2_with fail
  refine (vals_any kk _).mono ?_
  rintro x v6' ⟨rfl, rfl⟩
  go_wp2_with fail
  clear hv6 e60 f60 e61 f61 e62 f62 e63 f63 e64 f64 P6 R6 TT6
  refine (C7.out v6 S6).mono ?_
  rintro x v7 ⟨rfl, S7, K7⟩
  have y7 := K7.size
  have Q7 := Q6.keep K7 (by omega)
  have T7 := T6.keep K7 (fun k hk => by omega)
  rw [HYP.out]
  go_wp2_with fail
  clear ek
  refine (C8.out v7 T7 S7).mono ?_
  rintro x u8 ⟨L8, V, rfl, R8, O8, I8, K8⟩
  have y8 := K8.size
  have P8 := Q7.keep K8 (by omega)
  have TT8 := T7.keep K8 (fun k hk => by omega)
  have e80 := P8.cell (j := 10) rfl
  have f80 := P8.frozen 10
  have e81 := P8.cell (j := 11) rfl
  have f81 := P8.frozen 11
  have e82 := P8.cell (j := 12) rfl
  have f82 := P8.frozen 12
  have e83 := P8.cell (j := 13) rfl
  have f83 := P8.frozen 13
  have e84 := P8.cell (j := 14) rfl
  have f84 := P8.frozen 14
  obtain ⟨v8, hv8', Q8, J8, S8, T8, z8⟩ := setw5 P8 10 (.int .i64 V.k) (.int .i64 V.n) (.string V.s) (.slice V.la V.ls.length V.lc) (.slice V.a V.args.length V.c) R8 TT8 hDg hDB hD2
  have hv8 : ((((u8.setCell ⟨w.heap.size, 10, none⟩ (.int .i64 V.k)).setCell ⟨w.heap.size, 11, none⟩ (.int .i64 V.n)).setCell ⟨w.heap.size, 12, none⟩ (.string V.s)).setCell ⟨w.heap.size, 13, none⟩ (.slice V.la V.ls.length V.lc)).setCell ⟨w.heap.size, 14, none⟩ (.slice V.a V.args.length V.c) = v8 := hv8'
  clear hv8'
  go_wp2_with fail
  clear hv8 e80 f80 e81 f81 e82 f82 e83 f83 e84 f84 P8 R8 TT8
  refine (C9.out v8 S8).mono ?_
  rintro x v9 ⟨rfl, S9, K9⟩
  have y9 := K9.size
  have Q9 := Q8.keep K9 (by omega)
  have T9 := T8.keep K9 (fun k hk => by omega)
  go_wp2_with fail
  refine (C10.out v9 T9 S9).mono ?_
  rintro x u10 ⟨v, xs, vcs, rfl, hxl, hGc, R10, O10, K10⟩
  obtain ⟨ca, cap, rfl, hCL⟩ := hGc.clist
  clear hGc
  have y10 := K10.size
  have P10 := Q9.keep K10 (by omega)
  have TT10 := T9.keep K10 (fun k hk => by omega)
  have HXL : Hid (xs.length = mm) := hxl
  rw [hxl]
  clear hxl
  have e10 := P10.cell (j := 15) rfl
  have f10 := P10.frozen 15
  obtain ⟨v10, hv10, Q10, J10, S10, T10, z10⟩ := setw P10 15 (.slice ca mm cap) R10 TT10 hDg hDB hD2
  have QQ : Blk v10 w.heap.size 38 [.int .i64 (kk : Int), .int .i64 (pp : Int), .int .i64 (cc : Int), .string nn, .string ff, .int .i64 U.k, .int .i64 U.n, .string U.s, .slice U.la U.ls.length U.lc, .slice U.a U.args.length U.c, .int .i64 V.k, .int .i64 V.n, .string V.s, .slice V.la V.ls.length V.lc, .slice V.a V.args.length V.c, .slice ca mm cap] := Q10
  have a0 := QQ.cell (j := 0) rfl
  have b0 := QQ.frozen 0
  have a1 := QQ.cell (j := 1) rfl
  have b1 := QQ.frozen 1
  have a2 := QQ.cell (j := 2) rfl
  have b2 := QQ.frozen 2
  have a3 := QQ.cell (j := 3) rfl
  have b3 := QQ.frozen 3
  have a4 := QQ.cell (j := 4) rfl
  have b4 := QQ.frozen 4
  have a5 := QQ.cell (j := 5) rfl
  have b5 := QQ.frozen 5
  have a6 := QQ.cell (j := 6) rfl
  have b6 := QQ.frozen 6
  have a7 := QQ.cell (j := 7) rfl
  have b7 := QQ.frozen 7
  have a8 := QQ.cell (j := 8) rfl
  have b8 := QQ.frozen 8
  have a9 := QQ.cell (j := 9) rfl
  have b9 := QQ.frozen 9
  have a10 := QQ.cell (j := 10) rfl
  have b10 := QQ.frozen 10
  have a11 := QQ.cell (j := 11) rfl
  have b11 := QQ.frozen 11
  have a12 := QQ.cell (j := 12) rfl
  have b12 := QQ.frozen 12
  have a13 := QQ.cell (j := 13) rfl
  have b13 := QQ.frozen 13
  have a14 := QQ.cell (j := 14) rfl
  have b14 := QQ.frozen 14
  have a15 := QQ.cell (j := 15) rfl
  have b15 := QQ.frozen 15
  go_wp2_with fail
  clear e10 f10 hv10 R10 P10 TT10 a0 a1 a2 a3 a4 a5 a6 a7 a8 a9 a10 a11 a12 a13 a14 a15 b0 b1 b2 b3 b4 b5 b6 b7 b8 b9 b10 b11 b12 b13 b14 b15
  change bodyPost Tryd.prog Tryd.f35 _ _ _ (puts v10 w.heap.size 0 [.int .i64 (kk : Int), .int .i64 (pp : Int), .int .i64 (cc : Int), .string nn, .string ff, .int .i64 U.k, .int .i64 U.n, .string U.s, .slice U.la U.ls.length U.lc, .slice U.a U.args.length U.c, .int .i64 V.k, .int .i64 V.n, .string V.s, .slice V.la V.ls.length V.lc, .slice V.a V.args.length V.c, .slice ca mm cap])
  have K11 : Keep v10 (puts v10 w.heap.size 0 [.int .i64 (kk : Int), .int .i64 (pp : Int), .int .i64 (cc : Int), .string nn, .string ff, .int .i64 U.k, .int .i64 U.n, .string U.s, .slice U.la U.ls.length U.lc, .slice U.a U.args.length U.c, .int .i64 V.k, .int .i64 V.n, .string V.s, .slice V.la V.ls.length V.lc, .slice V.a V.args.length V.c, .slice ca mm cap]) (· = w.heap.size) := puts_keep _ _ (Keep.refl _ _)
  have P11 : Blk (puts v10 w.heap.size 0 [.int .i64 (kk : Int), .int .i64 (pp : Int), .int .i64 (cc : Int), .string nn, .string ff, .int .i64 U.k, .int .i64 U.n, .string U.s, .slice U.la U.ls.length U.lc, .slice U.a U.args.length U.c, .int .i64 V.k, .int .i64 V.n, .string V.s, .slice V.la V.ls.length V.lc, .slice V.a V.args.length V.c, .slice ca mm cap]) w.heap.size 38 [.int .i64 (kk : Int), .int .i64 (pp : Int), .int .i64 (cc : Int), .string nn, .string ff, .int .i64 U.k, .int .i64 U.n, .string U.s, .slice U.la U.ls.length U.lc, .slice U.a U.args.length U.c, .int .i64 V.k, .int .i64 V.n, .string V.s, .slice V.la V.ls.length V.lc, .slice V.a V.args.length V.c, .slice ca mm cap] := puts_blk QQ _ _
  generalize puts v10 w.heap.size 0 [.int .i64 (kk : Int), .int .i64 (pp : Int), .int .i64 (cc : Int), .string nn, .string ff, .int .i64 U.k, .int .i64 U.n, .string U.s, .slice U.la U.ls.length U.lc, .slice U.a U.args.length U.c, .int .i64 V.k, .int .i64 V.n, .string V.s, .slice V.la V.ls.length V.lc, .slice V.a V.args.length V.c, .slice ca mm cap] = W at K11 P11
  have d0 := P11.cell (j := 0) rfl
  have d1 := P11.cell (j := 1) rfl
  have d2 := P11.cell (j := 2) rfl
  have d3 := P11.cell (j := 3) rfl
  have d4 := P11.cell (j := 4) rfl
  have d5 := P11.cell (j := 5) rfl
  have d6 := P11.cell (j := 6) rfl
  have d7 := P11.cell (j := 7) rfl
  have d8 := P11.cell (j := 8) rfl
  have d9 := P11.cell (j := 9) rfl
  have d10 := P11.cell (j := 10) rfl
  have d11 := P11.cell (j := 11) rfl
  have d12 := P11.cell (j := 12) rfl
  have d13 := P11.cell (j := 13) rfl
  have d14 := P11.cell (j := 14) rfl
  have d15 := P11.cell (j := 15) rfl
  have y11 := K11.size
  obtain ⟨U', eU1, eU2, eU3⟩ := I6
  obtain ⟨cU1, cU2, cU3, cU4, cU5, cU6, cU7, cU8, cU9⟩ := Tr.cells_inj (T := U) (U := U') eU2
  obtain ⟨V', eV1, eV2, eV3⟩ := I8
  obtain ⟨cV1, cV2, cV3, cV4, cV5, cV6, cV7, cV8, cV9⟩ := Tr.cells_inj (T := V) (U := V') eV2
  refine bodyPost_ret (v := .agg #[.int .i64 (kk : Int), .int .i64 (pp : Int), .int .i64 (cc : Int), .string nn, .string ff, .int .i64 U.k, .int .i64 U.n, .string U.s, .slice U.la U.ls.length U.lc, .slice U.a U.args.length U.c, .int .i64 V.k, .int .i64 V.n, .string V.s, .slice V.la V.ls.length V.lc, .slice V.a V.args.length V.c, .slice ca mm cap]) (by simp [results, Tryd.results35, go_sem, d0, d1, d2, d3, d4, d5, d6, d7, d8, d9, d10, d11, d12, d13, d14, d15]) rfl ⟨⟨kk, pp, cc, X4.told [], X5.told [], L6, L8, xs⟩, kk, pp, cc, nn, ff, U', V', ca, mm, cap, ?_, ?_, fun y hy => ?_, ?_, ?_⟩
  · rw [cU1, cU2, cU3, cU4, cU5, cU6, cU7, cU8, cU9, cV1, cV2, cV3, cV4, cV5, cV6, cV7, cV8, cV9]
  · rw [HRES.out]
    have R11 := S10.keep K11 (by omega) (fun k hk => by omega)
    cases hx : X10 with
    | bad c => rw [hx] at R11; exact R11
    | ok u => rw [hx] at R11; exact R11
  · rw [HRES.out] at hy
    obtain ⟨q1, q2, q3, q4, q5, q6⟩ := HK.out
    cases hx : X10 with
    | bad c => rw [hx] at hy; cases hy
    | ok u =>
      rw [hx] at hy
      simp only [Er.bind, Er.ok.injEq] at hy
      subst hy
      obtain ⟨r9, hr9⟩ := bind_ok (H10.out.trans hx)
      obtain ⟨r8, hr8⟩ := bind_ok (H9.out.trans hr9)
      obtain ⟨r7, hr7⟩ := bind_ok (H8.out.trans hr8)
      obtain ⟨r6, hr6⟩ := bind_ok (H7.out.trans hr7)
      have t6 : X6.told noTm = r6.1 := by rw [hr6]; rfl
      have t8 : X8.told noTm = r8.1 := by rw [hr8]; rfl
      rw [q1, q2, q3, t6, t8, O6 r6 hr6, O8 r8 hr8, O10 u hx]
  · obtain ⟨q1, q2, q3, q4, q5, q6⟩ := HK.out
    refine ⟨rfl, rfl, rfl, q4.symm, q5.symm, eU1, eV1, HXL.out.symm, ?_, ?_, ?_, hk5, hp5, hc5⟩
    · exact TIn.carry (fun b hb => ((K11.block b (by omega) (by omega)).trans ((J10.block b (by omega) (by omega)).trans ((K10.block b (by omega) (by omega)).trans ((K9.block b (by omega) (by omega)).trans ((J8.block b (by omega) (by omega)).trans ((K8.block b (by omega) (by omega)).trans ((K7.block b (by omega) (by omega)).trans (J6.block b (by omega) (by omega)))))))))) (fun b hb => ⟨by omega, by omega⟩) U' eU3
    · exact TIn.carry (fun b hb => ((K11.block b (by omega) (by omega)).trans ((J10.block b (by omega) (by omega)).trans ((K10.block b (by omega) (by omega)).trans ((K9.block b (by omega) (by omega)).trans (J8.block b (by omega) (by omega))))))) (fun b hb => ⟨by omega, by omega⟩) V' eV3
    · exact hCL.carry (fun b hb => ((K11.block b (by omega) (by omega)).trans (J10.block b (by omega) (by omega)))) (fun b hb => ⟨by omega, by omega⟩)
  · exact ((((((((((((((((((((K0.mono (fun _ s => s.elim)).trans K1 (fun i hi s => by omega)).trans J1 (fun i hi s => by omega)).trans K2 (fun i hi s => by omega)).trans J2 (fun i hi s => by omega)).trans K3 (fun i hi s => by omega)).trans J3 (fun i hi s => by omega)).trans K4 (fun i hi s => by omega)).trans J4 (fun i hi s => by omega)).trans K5 (fun i hi s => by omega)).trans J5 (fun i hi s => by omega)).trans K6 (fun i hi s => by omega)).trans J6 (fun i hi s => by omega)).trans K7 (fun i hi s => by omega)).trans K8 (fun i hi s => by omega)).trans J8 (fun i hi s => by omega)).trans K9 (fun i hi s => by omega)).trans K10 (fun i hi s => by omega)).trans J10 (fun i hi s => by omega)).trans K11 (fun i hi s => by omega))
end Go.Proofs.YtkbpmpcbajnmlaaDoor

/- The walk of the program's reader of a declaration: one of its ways. -/
namespace Go.Proofs.YtkbpmpcbajnmlaaDoor
open Go.RowKit

set_option maxRecDepth 100000 in
set_option maxHeartbeats 4000000 in
theorem decl_none (B g : Nat) (st : Er Bs) (w : World) (ht : Tabs w) (h2 : 2 ≤ B) (h : RSx w B g st)
    (X1 : Er (Nat × Bs)) (h1 : st.bind (rKind 1 5) = X1) (X2 : Er (Nat × Bs)) (hx2 : X1.rest.bind rNum = X2) (X3 : Er (Nat × Bs)) (h3 : X2.rest.bind rNum = X3) (X4 : Er (Bs × Bs)) (h4 : X3.rest.bind rName = X4) (X5 : Er (Bs × Bs)) (h5 : X4.rest.bind rName = X5) (X6 : Er (Pm × Bs)) (h6 : X5.rest.bind rTerm = X6)
    (X7 : Er (Nat × Bs)) (h7 : X6.rest.bind (rKind (vals (X1.told 0)) (vals (X1.told 0))) = X7) (hyp : X7.told 0 ≠ 1) (X8 : Er (Pm × Bs)) (h8 : X7.bind (fun x => .ok (noTm, x.2)) = X8) (X9 : Er (Nat × Bs)) (h9 : X8.rest.bind (rUpTo 5 3) = X9) (X10 : Er (List (Bs × Pm) × Bs)) (h10 : X9.rest.bind (rMany rCtor (X9.told 0)) = X10)
    (hres : st.bind rDecl = X10.bind fun cs => .ok (⟨X1.told 0, X2.told 0, X3.told 0, X4.told [], X5.told [], X6.told noTm, X8.told noTm, cs.1⟩, cs.2)) :
    Calls Tryd.prog 35 #[.pointer (some ⟨g, 0, none⟩)] w (DcP w B g (st.bind rDecl)) := by
  obtain ⟨hBg, hg⟩ := h.low
  have HRES : Hid _ := hres
  clear hres
  obtain ⟨w0, hw0, hb0, P0, hs0⟩ := one_newG w [.int .i64 0, .int .i64 0, .int .i64 0, .string { data := #[] }, .string { data := #[] }, .int .i64 0, .int .i64 0, .string { data := #[] }, .slice none 0 0, .slice none 0 0, .int .i64 0, .int .i64 0, .string { data := #[] }, .slice none 0 0, .slice none 0 0, .slice none 0 0] 38
  have K0 : Keep w w0 (fun _ => False) := Keep.of_below hb0 (Nat.le_refl _)
  have R0 := h.keep K0 id (fun _ s => s.elim)
  have T0 := ht.keep K0 (fun _ s => s.elim)
  have hDg : w.heap.size ≠ g := by omega
  have hDB : B ≤ w.heap.size := by omega
  have hD2 : 2 ≤ w.heap.size := by omega
  have hk5 : X1.told 0 ≤ 5 := by rw [← h1]; exact kind_told _ _ _
  have hp5 : X2.told 0 ≤ 1073741824 := by rw [← hx2]; exact num_told _
  have hc5 : X3.told 0 ≤ 1073741824 := by rw [← h3]; exact num_told _
  have hm5 : X9.told 0 ≤ 5 := by rw [← h9]; exact upTo_told _ _ _
  obtain ⟨kk, hkk⟩ : ∃ kk, X1.told 0 = kk := ⟨_, rfl⟩
  obtain ⟨pp, hpp⟩ : ∃ pp, X2.told 0 = pp := ⟨_, rfl⟩
  obtain ⟨cc, hcc⟩ : ∃ cc, X3.told 0 = cc := ⟨_, rfl⟩
  obtain ⟨nn, hnn⟩ : ∃ nn : ByteArray, (⟨(X4.told []).toArray⟩ : ByteArray) = nn := ⟨_, rfl⟩
  obtain ⟨ff, hff⟩ : ∃ ff : ByteArray, (⟨(X5.told []).toArray⟩ : ByteArray) = ff := ⟨_, rfl⟩
  obtain ⟨mm, hmm⟩ : ∃ mm, X9.told 0 = mm := ⟨_, rfl⟩
  have hv1 : vals kk ≤ 1 := by unfold vals; split <;> omega
  rw [hkk] at hk5 h7
  rw [hpp] at hp5
  rw [hcc] at hc5
  rw [hmm] at hm5 h10
  have c1 := fun w' R => kind_any B g st 1 5 (by omega) (by omega) w' R
  have c2 := fun w' R => number_any B g X1.rest w' R
  have c3 := fun w' R => number_any B g X2.rest w' R
  have c4 := fun w' R => name_any B g X3.rest w' R
  have c5 := fun w' R => name_any B g X4.rest w' R
  have c6 := fun w' Tb R => term_any B g X5.rest w' Tb h2 R
  have c7 := fun w' R => kind_any B g X6.rest (vals kk) (vals kk) (by omega) (by omega) w' R
  
  have c9 := fun w' R => upTo_any B g X8.rest 5 3 (by omega) (by omega) w' R
  have c10 := fun w' Tb R => sev_ctors mm (by omega) B g X9.rest w' Tb h2 R
  rw [h1, hkk] at c1
  rw [hx2, hpp] at c2
  rw [h3, hcc] at c3
  rw [h4, hnn] at c4
  rw [h5, hff] at c5
  rw [h6] at c6
  rw [h7] at c7
  
  rw [h9, hmm] at c9
  rw [h10] at c10
  have C1 : Hid _ := c1
  have C2 : Hid _ := c2
  have C3 : Hid _ := c3
  have C4 : Hid _ := c4
  have C5 : Hid _ := c5
  have C6 : Hid _ := c6
  have C7 : Hid _ := c7
  
  have C9 : Hid _ := c9
  have C10 : Hid _ := c10
  have HK : Hid (X1.told 0 = kk ∧ X2.told 0 = pp ∧ X3.told 0 = cc ∧ (⟨(X4.told []).toArray⟩ : ByteArray) = nn ∧ (⟨(X5.told []).toArray⟩ : ByteArray) = ff ∧ X9.told 0 = mm) := ⟨hkk, hpp, hcc, hnn, hff, hmm⟩
  have H7 : Hid _ := h7
  have H8 : Hid _ := h8
  have H9 : Hid _ := h9
  have H10 : Hid _ := h10
  have HYP : Hid _ := hyp
  have HV : Hid (vals kk ≤ 1) := hv1
  clear c1 c2 c3 c4 c5 c6 c7  c9 c10 hkk hpp hcc hnn hff hmm h1 hx2 h3 h4 h5 h6 h7 h8 h9 h10 h hyp hv1
  go_enter Tryd.func35, Tryd.ntmps35
  go_wp2_with fail
  refine (C1.out w0 R0).mono ?_
  rintro x u1 ⟨rfl, R1, K1⟩
  have y1 := K1.size
  have P1 := P0.keep K1 (by omega)
  have TT1 := T0.keep K1 (fun k hk => by omega)
  have e1 := P1.cell (j := 0) rfl
  have f1 := P1.frozen 0
  obtain ⟨v1, hv1, Q1, J1, S1, T1, z1⟩ := setw P1 0 (.int .i64 (kk : Int)) R1 TT1 hDg hDB hD2
  clear hw0
  go_wp2_with fail
  clear hv1 e1 f1 P1 R1 TT1
  refine (C2.out v1 S1).mono ?_
  rintro x u2 ⟨rfl, R2, K2⟩
  have y2 := K2.size
  have P2 := Q1.keep K2 (by omega)
  have TT2 := T1.keep K2 (fun k hk => by omega)
  have e2 := P2.cell (j := 1) rfl
  have f2 := P2.frozen 1
  obtain ⟨v2, hv2, Q2, J2, S2, T2, z2⟩ := setw P2 1 (.int .i64 (pp : Int)) R2 TT2 hDg hDB hD2
  go_wp2_with fail
  clear hv2 e2 f2 P2 R2 TT2
  refine (C3.out v2 S2).mono ?_
  rintro x u3 ⟨rfl, R3, K3⟩
  have y3 := K3.size
  have P3 := Q2.keep K3 (by omega)
  have TT3 := T2.keep K3 (fun k hk => by omega)
  have e3 := P3.cell (j := 2) rfl
  have f3 := P3.frozen 2
  obtain ⟨v3, hv3, Q3, J3, S3, T3, z3⟩ := setw P3 2 (.int .i64 (cc : Int)) R3 TT3 hDg hDB hD2
  go_wp2_with fail
  clear hv3 e3 f3 P3 R3 TT3
  refine (C4.out v3 S3).mono ?_
  rintro x u4 ⟨rfl, R4, K4⟩
  have y4 := K4.size
  have P4 := Q3.keep K4 (by omega)
  have TT4 := T3.keep K4 (fun k hk => by omega)
  have e4 := P4.cell (j := 3) rfl
  have f4 := P4.frozen 3
  obtain ⟨v4, hv4, Q4, J4, S4, T4, z4⟩ := setw P4 3 (.string nn) R4 TT4 hDg hDB hD2
  go_wp2_with fail
  clear hv4 e4 f4 P4 R4 TT4
  refine (C5.out v4 S4).mono ?_
  rintro x u5 ⟨rfl, R5, K5⟩
  have y5 := K5.size
  have P5 := Q4.keep K5 (by omega)
  have TT5 := T4.keep K5 (fun k hk => by omega)
  have e5 := P5.cell (j := 4) rfl
  have f5 := P5.frozen 4
  obtain ⟨v5, hv5, Q5, J5, S5, T5, z5⟩ := setw P5 4 (.string ff) R5 TT5 hDg hDB hD2
  go_wp2_with fail
  clear hv5 e5 f5 P5 R5 TT5
  refine (C6.out v5 T5 S5).mono ?_
  rintro x u6 ⟨L6, U, rfl, R6, O6, I6, K6⟩
  have y6 := K6.size
  have P6 := Q5.keep K6 (by omega)
  have TT6 := T5.keep K6 (fun k hk => by omega)
  have e60 := P6.cell (j := 5) rfl
  have f60 := P6.frozen 5
  have e61 := P6.cell (j := 6) rfl
  have f61 := P6.frozen 6
  have e62 := P6.cell (j := 7) rfl
  have f62 := P6.frozen 7
  have e63 := P6.cell (j := 8) rfl
  have f63 := P6.frozen 8
  have e64 := P6.cell (j := 9) rfl
  have f64 := P6.frozen 9
  obtain ⟨v6, hv6', Q6, J6, S6, T6, z6⟩ := setw5 P6 5 (.int .i64 U.k) (.int .i64 U.n) (.string U.s) (.slice U.la U.ls.length U.lc) (.slice U.a U.args.length U.c) R6 TT6 hDg hDB hD2
  have hv6 : ((((u6.setCell ⟨w.heap.size, 5, none⟩ (.int .i64 U.k)).setCell ⟨w.heap.size, 6, none⟩ (.int .i64 U.n)).setCell ⟨w.heap.size, 7, none⟩ (.string U.s)).setCell ⟨w.heap.size, 8, none⟩ (.slice U.la U.ls.length U.lc)).setCell ⟨w.heap.size, 9, none⟩ (.slice U.a U.args.length U.c) = v6 := hv6'
  clear hv6'
  have ek := Q6.cell (j := 0) rfl
  go_wp2_with fail
  refine (vals_any kk _).mono ?_
  rintro x v6' ⟨rfl, rfl⟩
  go_wp2_with fail
  clear hv6 e60 f60 e61 f61 e62 f62 e63 f63 e64 f64 P6 R6 TT6
  refine (C7.out v6 S6).mono ?_
  rintro x v8 ⟨rfl, R7, K7⟩
  have y7 := K7.size
  have Q8 := Q6.keep K7 (by omega)
  have T8 := T6.keep K7 (fun k hk => by omega)
  obtain ⟨z7, hz7⟩ : ∃ z7, X7.told 0 = z7 := ⟨_, rfl⟩
  have hne : z7 ≠ 1 := by rw [← hz7]; exact HYP.out
  rw [hz7]
  have hd7 : ((z7 : Int) == 1) = false := beq_eq_false_iff_ne.2 (by omega)
  clear hz7
  have S8 : RSx v8 B g X8.rest := by rw [← H8.out]; cases X7 <;> exact R7
  clear ek R7
  go_wp2_with fail
  clear hd7 hne
  refine (C9.out v8 S8).mono ?_
  rintro x v9 ⟨rfl, S9, K9⟩
  have y9 := K9.size
  have Q9 := Q8.keep K9 (by omega)
  have T9 := T8.keep K9 (fun k hk => by omega)
  go_wp2_with fail
  refine (C10.out v9 T9 S9).mono ?_
  rintro x u10 ⟨v, xs, vcs, rfl, hxl, hGc, R10, O10, K10⟩
  obtain ⟨ca, cap, rfl, hCL⟩ := hGc.clist
  clear hGc
  have y10 := K10.size
  have P10 := Q9.keep K10 (by omega)
  have TT10 := T9.keep K10 (fun k hk => by omega)
  have HXL : Hid (xs.length = mm) := hxl
  rw [hxl]
  clear hxl
  have e10 := P10.cell (j := 15) rfl
  have f10 := P10.frozen 15
  obtain ⟨v10, hv10, Q10, J10, S10, T10, z10⟩ := setw P10 15 (.slice ca mm cap) R10 TT10 hDg hDB hD2
  have QQ : Blk v10 w.heap.size 38 [.int .i64 (kk : Int), .int .i64 (pp : Int), .int .i64 (cc : Int), .string nn, .string ff, .int .i64 U.k, .int .i64 U.n, .string U.s, .slice U.la U.ls.length U.lc, .slice U.a U.args.length U.c, .int .i64 0, .int .i64 0, .string { data := #[] }, .slice none 0 0, .slice none 0 0, .slice ca mm cap] := Q10
  have a0 := QQ.cell (j := 0) rfl
  have b0 := QQ.frozen 0
  have a1 := QQ.cell (j := 1) rfl
  have b1 := QQ.frozen 1
  have a2 := QQ.cell (j := 2) rfl
  have b2 := QQ.frozen 2
  have a3 := QQ.cell (j := 3) rfl
  have b3 := QQ.frozen 3
  have a4 := QQ.cell (j := 4) rfl
  have b4 := QQ.frozen 4
  have a5 := QQ.cell (j := 5) rfl
  have b5 := QQ.frozen 5
  have a6 := QQ.cell (j := 6) rfl
  have b6 := QQ.frozen 6
  have a7 := QQ.cell (j := 7) rfl
  have b7 := QQ.frozen 7
  have a8 := QQ.cell (j := 8) rfl
  have b8 := QQ.frozen 8
  have a9 := QQ.cell (j := 9) rfl
  have b9 := QQ.frozen 9
  have a10 := QQ.cell (j := 10) rfl
  have b10 := QQ.frozen 10
  have a11 := QQ.cell (j := 11) rfl
  have b11 := QQ.frozen 11
  have a12 := QQ.cell (j := 12) rfl
  have b12 := QQ.frozen 12
  have a13 := QQ.cell (j := 13) rfl
  have b13 := QQ.frozen 13
  have a14 := QQ.cell (j := 14) rfl
  have b14 := QQ.frozen 14
  have a15 := QQ.cell (j := 15) rfl
  have b15 := QQ.frozen 15
  go_wp2_with fail
  clear e10 f10 hv10 R10 P10 TT10 a0 a1 a2 a3 a4 a5 a6 a7 a8 a9 a10 a11 a12 a13 a14 a15 b0 b1 b2 b3 b4 b5 b6 b7 b8 b9 b10 b11 b12 b13 b14 b15
  change bodyPost Tryd.prog Tryd.f35 _ _ _ (puts v10 w.heap.size 0 [.int .i64 (kk : Int), .int .i64 (pp : Int), .int .i64 (cc : Int), .string nn, .string ff, .int .i64 U.k, .int .i64 U.n, .string U.s, .slice U.la U.ls.length U.lc, .slice U.a U.args.length U.c, .int .i64 0, .int .i64 0, .string { data := #[] }, .slice none 0 0, .slice none 0 0, .slice ca mm cap])
  have K11 : Keep v10 (puts v10 w.heap.size 0 [.int .i64 (kk : Int), .int .i64 (pp : Int), .int .i64 (cc : Int), .string nn, .string ff, .int .i64 U.k, .int .i64 U.n, .string U.s, .slice U.la U.ls.length U.lc, .slice U.a U.args.length U.c, .int .i64 0, .int .i64 0, .string { data := #[] }, .slice none 0 0, .slice none 0 0, .slice ca mm cap]) (· = w.heap.size) := puts_keep _ _ (Keep.refl _ _)
  have P11 : Blk (puts v10 w.heap.size 0 [.int .i64 (kk : Int), .int .i64 (pp : Int), .int .i64 (cc : Int), .string nn, .string ff, .int .i64 U.k, .int .i64 U.n, .string U.s, .slice U.la U.ls.length U.lc, .slice U.a U.args.length U.c, .int .i64 0, .int .i64 0, .string { data := #[] }, .slice none 0 0, .slice none 0 0, .slice ca mm cap]) w.heap.size 38 [.int .i64 (kk : Int), .int .i64 (pp : Int), .int .i64 (cc : Int), .string nn, .string ff, .int .i64 U.k, .int .i64 U.n, .string U.s, .slice U.la U.ls.length U.lc, .slice U.a U.args.length U.c, .int .i64 0, .int .i64 0, .string { data := #[] }, .slice none 0 0, .slice none 0 0, .slice ca mm cap] := puts_blk QQ _ _
  generalize puts v10 w.heap.size 0 [.int .i64 (kk : Int), .int .i64 (pp : Int), .int .i64 (cc : Int), .string nn, .string ff, .int .i64 U.k, .int .i64 U.n, .string U.s, .slice U.la U.ls.length U.lc, .slice U.a U.args.length U.c, .int .i64 0, .int .i64 0, .string { data := #[] }, .slice none 0 0, .slice none 0 0, .slice ca mm cap] = W at K11 P11
  have d0 := P11.cell (j := 0) rfl
  have d1 := P11.cell (j := 1) rfl
  have d2 := P11.cell (j := 2) rfl
  have d3 := P11.cell (j := 3) rfl
  have d4 := P11.cell (j := 4) rfl
  have d5 := P11.cell (j := 5) rfl
  have d6 := P11.cell (j := 6) rfl
  have d7 := P11.cell (j := 7) rfl
  have d8 := P11.cell (j := 8) rfl
  have d9 := P11.cell (j := 9) rfl
  have d10 := P11.cell (j := 10) rfl
  have d11 := P11.cell (j := 11) rfl
  have d12 := P11.cell (j := 12) rfl
  have d13 := P11.cell (j := 13) rfl
  have d14 := P11.cell (j := 14) rfl
  have d15 := P11.cell (j := 15) rfl
  have y11 := K11.size
  obtain ⟨U', eU1, eU2, eU3⟩ := I6
  obtain ⟨cU1, cU2, cU3, cU4, cU5, cU6, cU7, cU8, cU9⟩ := Tr.cells_inj (T := U) (U := U') eU2
  refine bodyPost_ret (v := .agg #[.int .i64 (kk : Int), .int .i64 (pp : Int), .int .i64 (cc : Int), .string nn, .string ff, .int .i64 U.k, .int .i64 U.n, .string U.s, .slice U.la U.ls.length U.lc, .slice U.a U.args.length U.c, .int .i64 0, .int .i64 0, .string { data := #[] }, .slice none 0 0, .slice none 0 0, .slice ca mm cap]) (by simp [results, Tryd.results35, go_sem, d0, d1, d2, d3, d4, d5, d6, d7, d8, d9, d10, d11, d12, d13, d14, d15]) rfl ⟨⟨kk, pp, cc, X4.told [], X5.told [], L6, noTm, xs⟩, kk, pp, cc, nn, ff, U', (.mk 0 0 ⟨#[]⟩ [] none 0 none 0 0 0 []), ca, mm, cap, ?_, ?_, fun y hy => ?_, ?_, ?_⟩
  · rw [cU1, cU2, cU3, cU4, cU5, cU6, cU7, cU8, cU9] <;> rfl
  · rw [HRES.out]
    have R11 := S10.keep K11 (by omega) (fun k hk => by omega)
    cases hx : X10 with
    | bad c => rw [hx] at R11; exact R11
    | ok u => rw [hx] at R11; exact R11
  · rw [HRES.out] at hy
    obtain ⟨q1, q2, q3, q4, q5, q6⟩ := HK.out
    cases hx : X10 with
    | bad c => rw [hx] at hy; cases hy
    | ok u =>
      rw [hx] at hy
      simp only [Er.bind, Er.ok.injEq] at hy
      subst hy
      obtain ⟨r9, hr9⟩ := bind_ok (H10.out.trans hx)
      obtain ⟨r8, hr8⟩ := bind_ok (H9.out.trans hr9)
      obtain ⟨r7, hr7⟩ : ∃ r7, X7 = .ok r7 := by
        have := H8.out
        cases hx7 : X7 with
        | bad c => rw [hx7, hr8] at this; cases this
        | ok r => exact ⟨r, rfl⟩
      obtain ⟨r6, hr6⟩ := bind_ok (H7.out.trans hr7)
      have e8 : X8.told noTm = noTm := by rw [← H8.out, hr7]; rfl
      have t6 : X6.told noTm = r6.1 := by rw [hr6]; rfl
      rw [q1, q2, q3, t6, e8, O6 r6 hr6, O10 u hx]
  · obtain ⟨q1, q2, q3, q4, q5, q6⟩ := HK.out
    refine ⟨rfl, rfl, rfl, q4.symm, q5.symm, eU1, rfl, HXL.out.symm, ?_, ?_, ?_, hk5, hp5, hc5⟩
    · exact TIn.carry (fun b hb => ((K11.block b (by omega) (by omega)).trans ((J10.block b (by omega) (by omega)).trans ((K10.block b (by omega) (by omega)).trans ((K9.block b (by omega) (by omega)).trans ((K7.block b (by omega) (by omega)).trans (J6.block b (by omega) (by omega)))))))) (fun b hb => ⟨by omega, by omega⟩) U' eU3
    · exact tr_made ⟨by omega, by omega⟩ ⟨by omega, by omega⟩ (node_none _ _) (by simp) (by decide) (.inl rfl)
    · exact hCL.carry (fun b hb => ((K11.block b (by omega) (by omega)).trans (J10.block b (by omega) (by omega)))) (fun b hb => ⟨by omega, by omega⟩)
  · exact ((((((((((((((((((K0.mono (fun _ s => s.elim)).trans K1 (fun i hi s => by omega)).trans J1 (fun i hi s => by omega)).trans K2 (fun i hi s => by omega)).trans J2 (fun i hi s => by omega)).trans K3 (fun i hi s => by omega)).trans J3 (fun i hi s => by omega)).trans K4 (fun i hi s => by omega)).trans J4 (fun i hi s => by omega)).trans K5 (fun i hi s => by omega)).trans J5 (fun i hi s => by omega)).trans K6 (fun i hi s => by omega)).trans J6 (fun i hi s => by omega)).trans K7 (fun i hi s => by omega)).trans K9 (fun i hi s => by omega)).trans K10 (fun i hi s => by omega)).trans J10 (fun i hi s => by omega)).trans K11 (fun i hi s => by omega))
end Go.Proofs.YtkbpmpcbajnmlaaDoor

/- The walk of the program's reader of a declaration: both ways. -/
namespace Go.Proofs.YtkbpmpcbajnmlaaDoor
open Go.RowKit

theorem val_one {X : Er Bs} {k : Nat} (h : (X.bind (rKind (vals k) (vals k))).told 0 = 1) : X.bind (rVal k) = (X.bind (rKind (vals k) (vals k))).rest.bind rTerm := by
  cases X with
  | bad c => rfl
  | ok bs =>
    simp only [Er.bind] at h ⊢
    unfold rVal
    cases hk : rKind (vals k) (vals k) bs with
    | bad c => rfl
    | ok x => rw [hk] at h; simp only [Er.told] at h; simp only [Er.bind, if_pos h, Er.rest]
theorem val_none {X : Er Bs} {k : Nat} (h : (X.bind (rKind (vals k) (vals k))).told 0 ≠ 1) : X.bind (rVal k) = (X.bind (rKind (vals k) (vals k))).bind fun x => .ok (noTm, x.2) := by
  cases X with
  | bad c => rfl
  | ok bs =>
    simp only [Er.bind] at h ⊢
    unfold rVal
    cases hk : rKind (vals k) (vals k) bs with
    | bad c => rfl
    | ok x => rw [hk] at h; simp only [Er.told] at h; simp only [Er.bind, if_neg h]

theorem decl_any (B g : Nat) (st : Er Bs) (w : World) (ht : Tabs w) (h2 : 2 ≤ B) (h : RSx w B g st) : Calls Tryd.prog 35 #[.pointer (some ⟨g, 0, none⟩)] w (DcP w B g (st.bind rDecl)) := by
  obtain ⟨X1, h1⟩ : ∃ X, st.bind (rKind 1 5) = X := ⟨_, rfl⟩
  obtain ⟨X2, hx2⟩ : ∃ X, X1.rest.bind rNum = X := ⟨_, rfl⟩
  obtain ⟨X3, h3⟩ : ∃ X, X2.rest.bind rNum = X := ⟨_, rfl⟩
  obtain ⟨X4, h4⟩ : ∃ X, X3.rest.bind rName = X := ⟨_, rfl⟩
  obtain ⟨X5, h5⟩ : ∃ X, X4.rest.bind rName = X := ⟨_, rfl⟩
  obtain ⟨X6, h6⟩ : ∃ X, X5.rest.bind rTerm = X := ⟨_, rfl⟩
  obtain ⟨X7, h7⟩ : ∃ X, X6.rest.bind (rKind (vals (X1.told 0)) (vals (X1.told 0))) = X := ⟨_, rfl⟩
  obtain ⟨X8, h8⟩ : ∃ X, X6.rest.bind (rVal (X1.told 0)) = X := ⟨_, rfl⟩
  obtain ⟨X9, h9⟩ : ∃ X, X8.rest.bind (rUpTo 5 3) = X := ⟨_, rfl⟩
  obtain ⟨X10, h10⟩ : ∃ X, X9.rest.bind (rMany rCtor (X9.told 0)) = X := ⟨_, rfl⟩
  have hres := decl_bind st X1 h1 X2 hx2 X3 h3 X4 h4 X5 h5 X6 h6 X8 h8 X9 h9 X10 h10
  by_cases hy : X7.told 0 = 1
  · have h8' : X7.rest.bind rTerm = X8 := by rw [← h8, ← h7]; rw [← h7] at hy; exact (val_one hy).symm
    exact decl_val B g st w ht h2 h X1 h1 X2 hx2 X3 h3 X4 h4 X5 h5 X6 h6 X7 h7 hy X8 h8' X9 h9 X10 h10 hres
  · have h8' : X7.bind (fun x => .ok (noTm, x.2)) = X8 := by rw [← h8, ← h7]; rw [← h7] at hy; exact (val_none hy).symm
    exact decl_none B g st w ht h2 h X1 h1 X2 hx2 X3 h3 X4 h4 X5 h5 X6 h6 X7 h7 hy X8 h8' X9 h9 X10 h10 hres
end Go.Proofs.YtkbpmpcbajnmlaaDoor
