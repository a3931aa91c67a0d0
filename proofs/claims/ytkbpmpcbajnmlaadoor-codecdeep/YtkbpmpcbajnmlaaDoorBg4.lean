/- The walk of the statements' begun. No condition but that the tables hold what the program's text lays. -/
import Derived.Test.YtkbpmpcbajnmlaaDoorBg3
import Derived.Test.YtkbpmpcbajnmlaaDoorEn5
import Derived.Test.YtkbpmpcbajnmlaaDoorEqT
import Derived.Test.YtkbpmpcbajnmlaaDoorOh
namespace Go.Proofs.YtkbpmpcbajnmlaaDoor
open Go.RowKit

def tV : Tr := .mk 0 0 { data := #[] } [] none 0 none 0 0 0 []
theorem tV_in (w : World) (S : Nat → Prop) : TIn w S tV := by
  rw [tin_iff]
  exact ⟨of_decide_eq_true rfl, of_decide_eq_true rfl, of_decide_eq_true rfl, of_decide_eq_true rfl, node_none _ _, of_decide_eq_true rfl, of_decide_eq_true rfl, .inl rfl⟩
theorem tS_ok (g : Nat) : LfOk 0 (tS g) := .mk (by show 1 ≤ _; omega) (fun x hx => by
  have : x = zL := by simpa [tS, Tr.ls] using hx
  rw [this]; exact zL_nar) (by show 0 ≤ _; omega) (fun h => by simp [tS, Tr.k] at h) (fun L hL => by simp [tS, Tr.args] at hL)
theorem tS_size (g : Nat) : (tS g).size ≤ 9223372036854775807 := by
  have : (tS g).size = 1 := by simp [tS, Tr.size, Tr.sizes]
  omega

theorem eqv_of_pl (T : Tr) : ∀ U : Tr, T.pl = U.pl → Eqv T U := by
  refine Tr.ind' (P := fun T => ∀ U : Tr, T.pl = U.pl → Eqv T U) ?_ T
  intro T ih U h
  rw [Tr.pl_eq, Tr.pl_eq] at h
  simp only [Pm.mk.injEq] at h
  obtain ⟨h1, h2, h3, h4, h5⟩ := h
  have hl := congrArg List.length h5
  simp only [List.length_map] at hl
  refine .mk h1 h2 h3 h4 hl (fun i A B hA hB => ih A (List.mem_of_getElem? hA) B ?_)
  have h6 := congrArg (fun l => l[i]?) h5
  simp only [List.getElem?_map, hA, hB, Option.map_some, Option.some.injEq] at h6
  exact h6

set_option maxRecDepth 100000 in
set_option maxHeartbeats 4000000 in
theorem begun_any (w : World) (ht : Tabs w) : Calls Tryd.prog 6 #[] w fun e w' => e = .returned (.bool true) ∧ Below w.heap.size w w' := by
  go_enter Tryd.func6, Tryd.ntmps6
  go_wp2_with fail
  refine (zero_lv w).mono ?_
  rintro e w1 ⟨rfl, b1⟩
  go_wp2_with fail
  refine (sort_z w1).mono ?_
  rintro e w2 ⟨g, rfl, hS, b2⟩
  go_wp2_with fail
  refine (var_tm 0 w2).mono ?_
  rintro e w3 ⟨rfl, b3⟩
  have hS3 : TIn w3 (· < w3.heap.size) (tS g) := TIn.carry (fun b hb => b3.block b hb.2) (fun b hb => by have := b3.size; omega) _ hS
  have kp := pi_any (tS g) tV (tS_ok g) (tS_size g) w3 hS3 (tV_in _ _)
  go_wp2_with fail
  refine kp.mono ?_
  rintro e w4 ⟨P, rfl, hPl, hP, b4⟩
  have hPS : P.pl = pS := by rw [hPl]; simp [tS, tV, Tr.pl_eq, Tr.k, Tr.n, Tr.s, Tr.ls, Tr.args, pS]
  have HPS : Hid _ := hPS
  obtain ⟨w5, hw5, b5, G5, hz5⟩ := one_newE w4 [.int .i64 P.k, .int .i64 P.n, .string P.s, .slice P.la P.ls.length P.lc, .slice P.a P.args.length P.c] 33
  have t5 : Tabs w5 := ((((ht.up b1).up b2).up b3).up b4).up b5
  have P5 : TIn w5 (· < w5.heap.size) P := TIn.carry (w := w4) (S := (· < w4.heap.size)) (fun b hb => b5.block b hb) (fun b hb => by omega) P hP
  have ko := term_own P (by rw [hPS]; exact eT_pS.2) (by rw [hPS, eT_pS.1]; decide) w5 t5 P5
  rw [hPS, eT_pS.1] at ko
  have g0 := G5.cell (j := 0) rfl
  have g1 := G5.cell (j := 1) rfl
  have g2 := G5.cell (j := 2) rfl
  have g3 := G5.cell (j := 3) rfl
  have g4 := G5.cell (j := 4) rfl
  clear kp hS3 hS hPl hP hPS
  unfold Tr.val
  go_wp2_with fail
  refine ko.mono ?_
  rintro e w6 ⟨ao, m, c, rfl, hA, b6⟩
  obtain rfl : m = 5 := hA.1.len.symm
  clear ko g0 g1 g2 g3 g4
  have z6 := b6.size
  obtain ⟨w7, hw7, b7, G7, hz7⟩ := one_newE w6 [.int .u8 9] 5
  have HA7 : App 5 w5.heap.size w7 ao 5 c [5, 1, 0, 0, 0] := by rw [← hw7]; exact hA.alloc _
  obtain ⟨i5, hi5, hz0, hz1, hz2⟩ := info_parts Tryd.info5t
  have hsrc := src_one (P := Tryd.prog) (w := w7) Tryd.underlying22 w6.heap.size 1 9 (G7.cell (j := 0) rfl)
  have hz6 : w5.heap.size ≤ w7.heap.size := by omega
  have t7 := (t5.up b6).up b7
  go_wp2_with (at_builtin; refine wpList_append_one (by rfl) _ _ (by rfl) i5 hi5 hz0 hz1 hz2 w5.heap.size hz6 (by rfl) HA7 9 (by rfl) hsrc (by decide) ?_; intro g8 c8 w8 R8 RB8 b8)
  have t8 : Tabs w8 := t7.carry (fun i hi => b8.block i (by have := t5.lt; omega))
  have hg8 : g8 < w8.heap.size := by
    have h1 := R8.cells _ rfl 0 5 rfl
    exact World.block_lt_of_cell? w8 _ h1
  have kt := takeTerm_any (some ⟨g8, 0, none⟩) 6 c8 ([5, 1, 0, 0, 0] ++ [9]) w8 t8 ⟨R8, fun a ha => by simp at ha; subst ha; exact hg8, by decide⟩
  rw [show rTerm ([5, 1, 0, 0, 0] ++ [9]) = .ok (pS, [9]) from rTerm_pS] at kt
  go_wp2_with fail
  refine kt.mono ?_
  intro e w9 hP
  obtain ⟨T, hT, rfl, T9, b9⟩ := term_ok hP
  have HT : Hid _ := hT
  clear hP hT kt hsrc
  rw [show ((6 : Nat) : Int) - (([9] : Bs).length : Int) = 5 from rfl]
  obtain ⟨w10, hw10, b10, G10, hz10⟩ := one_newE w9 [.int .i64 T.k, .int .i64 T.n, .string T.s, .slice T.la T.ls.length T.lc, .slice T.a T.args.length T.c] 33
  have z9 := b9.size
  have b510 : Below w5.heap.size w5 w10 := (((b6.trans (b7.mono (by omega))).trans b8).trans (b9.mono (by have := b8.size; omega))).trans (b10.mono (by have := b8.size; omega))
  have S10 := (RB8.below b9 (Nat.le_refl _)).below b10 (Nat.le_refl _)
  have hst := str_of S10
  have G510 := G5.below b510 G5.lt
  have x0 := G510.cell (j := 0) rfl
  have x1 := G510.cell (j := 1) rfl
  have x2 := G510.cell (j := 2) rfl
  have x3 := G510.cell (j := 3) rfl
  have x4 := G510.cell (j := 4) rfl
  have y0 := G10.cell (j := 0) rfl
  have y1 := G10.cell (j := 1) rfl
  have y2 := G10.cell (j := 2) rfl
  have y3 := G10.cell (j := 3) rfl
  have y4 := G10.cell (j := 4) rfl
  have P10 : TIn w10 (· < w10.heap.size) P := TIn.carry (w := w5) (S := (· < w5.heap.size)) (fun b hb => b510.block b hb) (fun b hb => by have := b510.size; omega) P P5
  have T10 : TIn w10 (· < w10.heap.size) T := TIn.carry (w := w9) (S := (· < w9.heap.size)) (fun b hb => b10.block b hb) (fun b hb => by omega) T T9
  have ke := tequal_same P T w10 w10.heap.size (eqv_of_pl P T (by rw [HPS.out, HT.out])) (Nat.le_refl _) P10 T10
  have t10 := (t8.up b9).up b10
  unfold Tr.val at ke
  clear P10 T10 T9 P5 G510 G5 S10 R8 RB8 HA7 hA G7 G10
  go_wp2_with fail
  refine ke.mono ?_
  rintro e w11 ⟨rfl, b11⟩
  have t11 := t10.up b11
  have kl := level_nil 0 0 [] none 0 (by exact eL_z.2) (by show (Lv.mk 0 0 []).size ≤ _; simp [Lv.size, Lv.sizes]) (by show (eL zL).length ≤ _; rw [eL_z.1]; decide) w11 t11 (node_none _ _)
  rw [show eL (.mk 0 0 []) = [0] from eL_z.1] at kl
  clear ke hst x0 x1 x2 x3 x4 y0 y1 y2 y3 y4
  go_wp2_with fail
  refine kl.mono ?_
  rintro e w12 ⟨a12, m12, c12, rfl, R12, b12⟩
  obtain rfl : m12 = 1 := R12.len.symm
  go_wp2_with fail
  go_ret
  exact ⟨rfl, ((((b1.trans (b2.mono b1.size)).trans (b3.mono (by have := b1.size; have := b2.size; omega))).trans (b4.mono (by have := b1.size; have := b2.size; have := b3.size; omega))).trans (b5.mono (by have := b1.size; have := b2.size; have := b3.size; have := b4.size; omega))).trans ((b510.mono (by have := b1.size; have := b2.size; have := b3.size; have := b4.size; omega)).trans ((b11.mono (by have := b1.size; have := b2.size; have := b3.size; have := b4.size; have := b510.size; omega)).trans (b12.mono (by have := b1.size; have := b2.size; have := b3.size; have := b4.size; have := b510.size; have := b11.size; omega))))⟩
end Go.Proofs.YtkbpmpcbajnmlaaDoor
