/- The walks of the document's lift, joined, and of its Copy. No condition but that the term lies in memory, that no list in it is longer than 2^40, and that its numbers have room. -/
import Derived.Test.YtkbpmpcbajnmlaaDoorRLfW1
import Derived.Test.YtkbpmpcbajnmlaaDoorRLfW2
import Derived.Test.YtkbpmpcbajnmlaaDoorRLfW3
import Derived.Test.YtkbpmpcbajnmlaaDoorEn2
import Derived.Test.YtkbpmpcbajnmlaaDoorTm3
import Derived.Test.YtkbpmpcbajnmlaaDoorOn
namespace Go.Proofs.YtkbpmpcbajnmlaaDoor
open Go.RowKit

theorem rlift_any (by_ : Int) (hb0 : 0 ≤ by_) (hb1 : by_ ≤ 9223372036854775807) (T : Tr) (h : LfOk by_ T) : LiftAt by_ T := by
  induction h with
  | @mk T a b c d e ih =>
    intro from_ w B hf0 hf1 hB hin
    by_cases hk : T.k = 0
    · by_cases hn : from_ ≤ T.n
      · exact lift_way3 by_ hb0 hb1 T (.mk a b c d e) ih from_ w B hf0 hf1 hB hin (by simp [hk]) (decide_eq_true hn)
      · exact lift_way2 by_ T (.mk a b c d e) ih from_ w B hf0 hf1 hB hin (by simp [hk]) (decide_eq_false hn)
    · exact lift_way1 by_ T (.mk a b c d e) ih from_ w B hf0 hf1 hB hin (by simp [hk])

set_option maxRecDepth 100000 in
set_option maxHeartbeats 400000 in
theorem rcopy_any (T : Tr) (h : LfOk 0 T) (hsz : T.size ≤ 9223372036854775807) (w : World) (B : Nat) (hB : B ≤ w.heap.size) (hin : TIn w (· < B) T) : Calls Tryd.prog 42 #[T.val] w (LiftP 0 0 w T) := by
  obtain ⟨w1, hw1, hb1, P1, Q1, hs1⟩ := two_newG w [.int .i64 T.k, .int .i64 T.n, .string T.s, .slice T.la T.ls.length T.lc, .slice T.a T.args.length T.c] [.int .i64 0, .int .i64 0, .string { data := #[] }, .slice none 0 0, .slice none 0 0] 33 33
  have p0 := P1.cell (j := 0) rfl
  have p1 := P1.cell (j := 1) rfl
  have p2 := P1.cell (j := 2) rfl
  have p3 := P1.cell (j := 3) rfl
  have p4 := P1.cell (j := 4) rfl
  have hc := rlift_any 0 (by omega) (by omega) T h 0 w1 B (by omega) (by omega) (by omega) (hin.below hb1 hB)
  unfold Tr.val at hc ⊢
  clear hin h
  go_enter Tryd.func42, Tryd.ntmps42
  go_wp2_with (go_at_call 74; go_must (refine hc.mono ?_); rintro e w2 ⟨U, rfl, hU, hR, hb2⟩; unfold Tr.val; have Q2 := Q1.below hb2 Q1.lt; have q0 := Q2.cell (j := 0) rfl; have q1 := Q2.cell (j := 1) rfl; have q2 := Q2.cell (j := 2) rfl; have q3 := Q2.cell (j := 3) rfl; have q4 := Q2.cell (j := 4) rfl; have f0 := Q2.frozen 0; have f1 := Q2.frozen 1; have f2 := Q2.frozen 2; have f3 := Q2.frozen 3; have f4 := Q2.frozen 4)
  obtain ⟨Q3, K3⟩ := st5G Q2 (.int .i64 U.k) (.int .i64 U.n) (.string U.s) (.slice U.la U.ls.length U.lc) (.slice U.a U.args.length U.c)
  have c0 := Q3.cell (j := 0) rfl
  have c1 := Q3.cell (j := 1) rfl
  have c2 := Q3.cell (j := 2) rfl
  have c3 := Q3.cell (j := 3) rfl
  have c4 := Q3.cell (j := 4) rfl
  have hz2 := hb2.size
  have hz3 := K3.size
  refine bodyPost_ret (v := .agg #[.int .i64 U.k, .int .i64 U.n, .string U.s, .slice U.la U.ls.length U.lc, .slice U.a U.args.length U.c]) (by simp [results, Tryd.results42, go_sem, c0, c1, c2, c3, c4]) rfl ⟨U, rfl, ?_, hR, ?_⟩
  · exact TIn.carry (fun b hb => K3.block b hb.2 (by omega)) (fun b hb => ⟨by omega, by omega⟩) U hU
  · exact (hb1.trans (hb2.mono (by omega))).trans (K3.below (by omega) (by omega))

end Go.Proofs.YtkbpmpcbajnmlaaDoor

/- The walks of the document's makers Zero, Var, Sort at what the statements' begun hands them. No condition. -/
namespace Go.Proofs.YtkbpmpcbajnmlaaDoor
open Go.RowKit

def zL : Lv := .mk 0 0 []
theorem zL_nar : Nar zL := .mk (by decide) (by simp)

set_option maxRecDepth 100000 in
theorem zero_lv (w : World) : Calls Tryd.prog 26 #[] w fun e w' => e = .returned (.agg #[.int .i64 0, .int .i64 0, .slice none 0 0]) ∧ Below w.heap.size w w' := by
  obtain ⟨w1, hw1, hb1, B1, -⟩ := one_newE w [.int .i64 0, .int .i64 0, .slice none 0 0] 27
  have H : Hid _ := hw1
  have q0 := B1.cell (j := 0) rfl
  have q1 := B1.cell (j := 1) rfl
  have q2 := B1.cell (j := 2) rfl
  clear hw1 B1
  go_enter Tryd.func26, Tryd.ntmps26
  go_wp2_with fail
  rw [H.out]
  exact bodyPost_ret (v := .agg #[.int .i64 0, .int .i64 0, .slice none 0 0]) (by simp [results, Tryd.results26, go_sem, q0, q1, q2]) rfl ⟨rfl, hb1⟩

set_option maxRecDepth 100000 in
theorem var_tm (n : Int) (w : World) : Calls Tryd.prog 27 #[.int .i64 n] w fun e w' => e = .returned (.agg #[.int .i64 0, .int .i64 n, .string { data := #[] }, .slice none 0 0, .slice none 0 0]) ∧ Below w.heap.size w w' := by
  obtain ⟨w1, hw1, hb1, B1, -⟩ := one_newE w [.int .i64 0, .int .i64 n, .string { data := #[] }, .slice none 0 0, .slice none 0 0] 33
  have H : Hid _ := hw1
  have q0 := B1.cell (j := 0) rfl
  have q1 := B1.cell (j := 1) rfl
  have q2 := B1.cell (j := 2) rfl
  have q3 := B1.cell (j := 3) rfl
  have q4 := B1.cell (j := 4) rfl
  clear hw1 B1
  go_enter Tryd.func27, Tryd.ntmps27
  go_wp2_with fail
  rw [H.out]
  exact bodyPost_ret (v := .agg #[.int .i64 0, .int .i64 n, .string { data := #[] }, .slice none 0 0, .slice none 0 0]) (by simp [results, Tryd.results27, go_sem, q0, q1, q2, q3, q4]) rfl ⟨rfl, hb1⟩

/-- Sort of zero, as it lies. -/
def tS (g : Nat) : Tr := .mk 1 0 { data := #[] } [zL] (some ⟨g, 0, none⟩) 1 none 0 0 0 []

set_option maxRecDepth 100000 in
theorem sort_z (w : World) : Calls Tryd.prog 25 #[.agg #[.int .i64 0, .int .i64 0, .slice none 0 0]] w fun e w' => ∃ g, e = .returned (tS g).val ∧ TIn w' (fun b => w.heap.size ≤ b ∧ b < w'.heap.size) (tS g) ∧ Below w.heap.size w w' := by
  obtain ⟨w1, hw1, hb1, P1, Q1, hs1⟩ := two_newG w [.int .i64 0, .int .i64 0, .slice none 0 0] [.int .i64 0, .int .i64 0, .string { data := #[] }, .slice none 0 0, .slice none 0 0] 27 33
  have H : Hid _ := hw1
  have hc := lcopy_any zL zL_nar w1 0 (.agg #[.int .i64 0, .int .i64 0, .slice none 0 0]) (by omega) (by unfold zL; rw [in_mk]; exact ⟨none, 0, rfl, by decide, by decide, by decide, by decide, .inl rfl⟩)
  have p0 := P1.cell (j := 0) rfl
  have p1 := P1.cell (j := 1) rfl
  have p2 := P1.cell (j := 2) rfl
  clear hw1 P1
  go_enter Tryd.func25, Tryd.ntmps25
  go_wp2_with fail
  rw [H.out]
  refine hc.mono ?_
  rintro e w2 ⟨v, rfl, hi, hb2⟩
  have hi2 := hi
  unfold zL at hi
  rw [in_mk] at hi
  obtain ⟨a, cap, rfl, -⟩ := hi
  obtain ⟨w3, hw3, hb3, R3, hs3⟩ := one_newE w2 [.int .i64 0, .int .i64 0, .slice a 0 cap] 27
  have Q3 := (Q1.below hb2 Q1.lt).below hb3 (by have := Q1.lt; have := hb2.size; omega)
  have q0 := Q3.cell (j := 0) rfl
  have q1 := Q3.cell (j := 1) rfl
  have q2 := Q3.cell (j := 2) rfl
  have q3 := Q3.cell (j := 3) rfl
  have q4 := Q3.cell (j := 4) rfl
  have f3 := Q3.frozen
  have z1 := hb1.size
  have z2 := hb2.size
  have z3 := hb3.size
  clear hc p0 p1 p2 Q1
  go_wp2_with fail
  obtain ⟨Q4, K4⟩ := st5G Q3 (.int .i64 1) (.int .i64 0) (.string { data := #[] }) (.slice (some ⟨w2.heap.size, 0, none⟩) 1 1) (.slice none 0 0)
  have c0 := Q4.cell (j := 0) rfl
  have c1 := Q4.cell (j := 1) rfl
  have c2 := Q4.cell (j := 2) rfl
  have c3 := Q4.cell (j := 3) rfl
  have c4 := Q4.cell (j := 4) rfl
  have z4 := K4.size
  have R4 := R3.keep K4 (by omega)
  refine bodyPost_ret (v := .agg #[.int .i64 1, .int .i64 0, .string { data := #[] }, .slice (some ⟨w2.heap.size, 0, none⟩) 1 1, .slice none 0 0]) (by simp [results, Tryd.results25, go_sem, c0, c1, c2, c3, c4]) rfl ⟨w2.heap.size, rfl, ?_, ?_⟩
  · rw [tin_iff]
    refine ⟨of_decide_eq_true rfl, of_decide_eq_true rfl, of_decide_eq_true rfl, of_decide_eq_true rfl, ⟨of_decide_eq_true rfl, of_decide_eq_true rfl, of_decide_eq_true rfl, of_decide_eq_true rfl, of_decide_eq_true rfl, of_decide_eq_true rfl, .inr ⟨w2.heap.size, 0, rfl, ⟨by omega, by omega⟩, ?_⟩⟩, of_decide_eq_true rfl, of_decide_eq_true rfl, .inl rfl⟩
    show InAll _ _ _ _ [zL]
    rw [inAll_cons]
    exact ⟨⟨_, _, _, R4.cell (j := 0) rfl, R4.cell (j := 1) rfl, R4.cell (j := 2) rfl, In.carry (fun b hb => (K4.block b (by omega) (by omega)).trans (hb3.block b hb.2)) (fun b hb => ⟨by omega, by omega⟩) _ _ hi2⟩, by rw [InAll]; trivial⟩
  · exact (hb1.trans (hb2.mono (by omega))).trans ((hb3.mono (by omega)).trans (K4.below (by omega) (by omega)))
end Go.Proofs.YtkbpmpcbajnmlaaDoor

/- The walk of the document's Pi. No condition but that its terms lie in memory, that no list in them is longer than 2^40, and that their numbers have room. -/
namespace Go.Proofs.YtkbpmpcbajnmlaaDoor
open Go.RowKit

theorem rlift_pl {by_ from_ : Int} {T U : Tr} (h : RLift by_ from_ T U) (h0 : by_ = 0) : U.pl = T.pl := by
  induction h with
  | @mk from_ T U h1 h2 h3 h4 h5 _ ih =>
    rw [Tr.pl_eq, Tr.pl_eq, h1, h3, h4]
    have e2 : U.n = T.n := by rw [h2, h0]; split <;> omega
    have e5 : U.args.map Tr.pl = T.args.map Tr.pl := by
      refine List.ext_getElem? (fun i => ?_)
      rw [List.getElem?_map, List.getElem?_map]
      cases hi : T.args[i]? with
      | none =>
        have : U.args[i]? = none := by rw [List.getElem?_eq_none_iff] at hi ⊢; omega
        rw [this]
      | some A =>
        have hlt := (List.getElem?_eq_some_iff.1 hi).1
        have hj : U.args[i]? = some (U.args[i]'(by omega)) := List.getElem?_eq_getElem (by omega)
        rw [hj]
        simp only [Option.map_some]
        rw [ih i A _ hi hj]
    rw [e2, e5]

theorem enter42 (args : Array Value) (w : World) : (callFunc 42 args).run Tryd.prog w = .ok (.enter 42 args) w := enter_of Tryd.func42 (by kernel_rfl) rfl args w

set_option maxRecDepth 100000 in
set_option maxHeartbeats 4000000 in
theorem pi_any (T0 T1 : Tr) (hok : LfOk 0 T0) (hsz : T0.size ≤ 9223372036854775807) (w : World) (hin : TIn w (· < w.heap.size) T0) (hin1 : TIn w (· < w.heap.size) T1) :
    Calls Tryd.prog 24 #[T0.val, T1.val] w fun e w' => ∃ P : Tr, e = .returned P.val ∧ P.pl = .mk 5 0 ⟨#[]⟩ [] [T0.pl, T1.pl] ∧ TIn w' (· < w'.heap.size) P ∧ Below w.heap.size w w' := by
  obtain ⟨w1, hw1, hb1, P0, P1, P2, hs1⟩ := three_newG w [.int .i64 T0.k, .int .i64 T0.n, .string T0.s, .slice T0.la T0.ls.length T0.lc, .slice T0.a T0.args.length T0.c] [.int .i64 T1.k, .int .i64 T1.n, .string T1.s, .slice T1.la T1.ls.length T1.lc, .slice T1.a T1.args.length T1.c] [.int .i64 0, .int .i64 0, .string { data := #[] }, .slice none 0 0, .slice none 0 0] 33 33 33
  have x0 := P0.cell (j := 0) rfl
  have x1 := P0.cell (j := 1) rfl
  have x2 := P0.cell (j := 2) rfl
  have x3 := P0.cell (j := 3) rfl
  have x4 := P0.cell (j := 4) rfl
  have v0 := P1.cell (j := 0) rfl
  have v1 := P1.cell (j := 1) rfl
  have v2 := P1.cell (j := 2) rfl
  have v3 := P1.cell (j := 3) rfl
  have v4 := P1.cell (j := 4) rfl
  have hi1 : TIn w1.drew (· < w.heap.size) T0 := (TIn.carry (w := w) (w' := w1) (S := (· < w.heap.size)) (fun b hb => hb1.block b hb) (fun b hb => hb) T0 hin).drew
  have hcall := rcopy_any T0 hok hsz w1.drew w.heap.size (by show w.heap.size ≤ w1.heap.size; omega) hi1
  have HI : Hid _ := hin1
  unfold Tr.val at hcall ⊢
  clear hin hin1 hi1 hok
  go_enter Tryd.func24, Tryd.ntmps24
  go_wp2_with fail
  go_region_law (refine step_call1G (by rfl) 42 enter42 (.tmp 5) #[33] (by rfl) _ (by rfl) (hcall.mono ?_); rintro e w2 ⟨U, rfl, hU, hRL, hb2'⟩; refine ⟨_, rfl, ?_⟩; have hb2 : Below w1.heap.size w1 w2 := Below.trans (Below.refl _ _).drew hb2'; have Q0 := P1.below hb2 P1.lt; have a0 := Q0.cell (j := 0) rfl; have a1 := Q0.cell (j := 1) rfl; have a2 := Q0.cell (j := 2) rfl; have a3 := Q0.cell (j := 3) rfl; have a4 := Q0.cell (j := 4) rfl; obtain ⟨w3, hw3, hb3, P3, hs3⟩ := one_newG w2 [.int .i64 U.k, .int .i64 U.n, .string U.s, .slice U.la U.ls.length U.lc, .slice U.a U.args.length U.c, .int .i64 T1.k, .int .i64 T1.n, .string T1.s, .slice T1.la T1.ls.length T1.lc, .slice T1.a T1.args.length T1.c] 33; have Q2 := (P2.below hb2 P2.lt).below hb3 (by have := hb2.size; omega); have y0 := Q2.cell (j := 0) rfl; have y1 := Q2.cell (j := 1) rfl; have y2 := Q2.cell (j := 2) rfl; have y3 := Q2.cell (j := 3) rfl; have y4 := Q2.cell (j := 4) rfl; have f0 := Q2.frozen 0; have f1 := Q2.frozen 1; have f2 := Q2.frozen 2; have f3 := Q2.frozen 3; have f4 := Q2.frozen 4; unfold Tr.val)
  all_goals
    go_wp2_with fail
    obtain ⟨Q, K⟩ := st5G Q2 (.int .i64 5) (.int .i64 0) (.string { data := #[] }) (.slice none 0 0) (.slice (some ⟨w2.heap.size, 0, none⟩) 2 2)
    have q0 := Q.cell (j := 0) rfl
    have q1 := Q.cell (j := 1) rfl
    have q2 := Q.cell (j := 2) rfl
    have q3 := Q.cell (j := 3) rfl
    have q4 := Q.cell (j := 4) rfl
    have hs2 := hb2.size
    have hsK := K.size
    have P4 := P3.keep K (by omega)
    have hbf := ((hb1.trans (hb2.mono (by omega))).trans (hb3.mono (by omega))).trans (K.below (B := w.heap.size) (by omega) (by omega))
    refine bodyPost_ret (v := .agg #[.int .i64 5, .int .i64 0, .string { data := #[] }, .slice none 0 0, .slice (some ⟨w2.heap.size, 0, none⟩) 2 2]) (by simp [results, Tryd.results24, go_sem, q0, q1, q2, q3, q4]) rfl ⟨.mk 5 0 ⟨#[]⟩ [] none 0 (some ⟨w2.heap.size, 0, none⟩) 2 w2.heap.size 0 [U, T1], rfl, ?_, ?_, hbf⟩
    · rw [Tr.pl_eq]
      show Pm.mk 5 0 _ [] [U.pl, T1.pl] = _
      rw [rlift_pl hRL rfl]
      rfl
    · rw [tin_iff]
      refine ⟨of_decide_eq_true rfl, of_decide_eq_true rfl, of_decide_eq_true rfl, of_decide_eq_true rfl, node_none _ _, of_decide_eq_true rfl, of_decide_eq_true rfl, .inr ⟨rfl, by show w2.heap.size < _; omega, ?_⟩⟩
      show TAll _ _ w2.heap.size 0 [U, T1]
      refine tall_cons.2 ⟨⟨⟨P4.cell (j := 0) rfl, P4.cell (j := 1) rfl, P4.cell (j := 2) rfl, P4.cell (j := 3) rfl, P4.cell (j := 4) rfl⟩, ?_⟩, tall_cons.2 ⟨⟨⟨P4.cell (j := 5) rfl, P4.cell (j := 6) rfl, P4.cell (j := 7) rfl, P4.cell (j := 8) rfl, P4.cell (j := 9) rfl⟩, ?_⟩, by rw [TAll]; trivial⟩⟩
      · exact TIn.carry (w := w2) (fun b hb => (K.block b (by have := hb.2; omega) (by have h1 : w1.drew.heap.size ≤ b := hb.1; have h2 : w1.drew.heap.size = w1.heap.size := rfl; omega)).trans (hb3.block b hb.2)) (fun b hb => by have := hb.2; omega) U hU
      · exact TIn.carry (w := w) (S := (· < w.heap.size)) (fun b hb => hbf.block b hb) (fun b hb => by omega) T1 HI.out
end Go.Proofs.YtkbpmpcbajnmlaaDoor

/- What begun's bytes say, by the kernel. No condition. -/
namespace Go.Proofs.YtkbpmpcbajnmlaaDoor
open Go.RowKit

def pS : Pm := .mk 5 0 ⟨#[]⟩ [] [.mk 1 0 ⟨#[]⟩ [zL] [], .mk 0 0 ⟨#[]⟩ [] []]
theorem rTerm_pS : rTerm [5, 1, 0, 0, 0, 9] = .ok (pS, [9]) := by kernel_rfl
theorem rLevel_z : rLevel [0] = .ok (zL, []) := by kernel_rfl
theorem eT_pS : eT pS = [5, 1, 0, 0, 0] ∧ WfT pS := by
  obtain ⟨h1, h2⟩ := rTerm_only rTerm_pS
  refine ⟨?_, h2⟩
  have h3 : ([5, 1, 0, 0, 0] : Bs) ++ [9] = eT pS ++ [9] := h1
  exact (List.append_cancel_right h3).symm
theorem eL_z : eL zL = [0] ∧ WfL zL := by
  obtain ⟨h1, h2, -⟩ := rLevel_only rLevel_z
  exact ⟨by simpa using h1.symm, h2⟩
end Go.Proofs.YtkbpmpcbajnmlaaDoor
