/- The walk of the document's lift, way 3 of three. No condition but that the term lies in memory, that no list in it is longer than 2^40, and that its numbers have room. -/
import Derived.Test.YtkbpmpcbajnmlaaDoorRLf2
namespace Go.Proofs.YtkbpmpcbajnmlaaDoor
open Go.RowKit

set_option maxRecDepth 100000 in
set_option maxHeartbeats 4000000 in
theorem lift_way3 (by_ : Int) (hb0 : 0 ≤ by_) (hb1 : by_ ≤ 9223372036854775807) (T : Tr) (hok : LfOk by_ T) (ih : ∀ L ∈ T.args, LiftAt by_ L) (from_ : Int) (w : World) (B : Nat) (hf0 : 0 ≤ from_) (hf1 : from_ + T.size ≤ 9223372036854775807) (hB : B ≤ w.heap.size) (hin : TIn w (· < B) T) (e0 : (T.k == 0) = true) (e1 : decide (from_ ≤ T.n) = true) : Calls Tryd.prog 74 #[T.val, .int .i64 by_, .int .i64 from_] w (LiftP by_ from_ w T) := by
  have hT := tin_iff.1 hin
  obtain ⟨h1, h2, h3, h4⟩ : T.ls.length ≤ 1099511627776 ∧ (∀ x ∈ T.ls, Nar x) ∧ T.args.length ≤ 1099511627776 ∧ (T.k = 0 → T.n + by_ ≤ 9223372036854775807) := by cases hok with | mk a b c d _ => exact ⟨a, b, c, d⟩
  clear hok
  obtain ⟨w1, hw1, hb1', P1, Q1, hs1⟩ := two_newG w [.int .i64 T.k, .int .i64 T.n, .string T.s, .slice T.la T.ls.length T.lc, .slice T.a T.args.length T.c] [.int .i64 0, .int .i64 0, .string { data := #[] }, .slice none 0 0, .slice none 0 0] 33 33
  have p0 := P1.cell (j := 0) rfl
  have p1 := P1.cell (j := 1) rfl
  have p2 := P1.cell (j := 2) rfl
  have p3 := P1.cell (j := 3) rfl
  have p4 := P1.cell (j := 4) rfl
  have hleaf := leaf_any T h1 h2 w1 B (by omega) (hin.below hb1' hB)
  have k0 := hT.k0
  have k1 := hT.k1
  have n0 := hT.n0
  have n1 := hT.n1
  have hle := hT.le
  have hmx := hT.max
  obtain ⟨i25, hi25, hz25, hs25, hb25⟩ := info25G
  have HS : Hid (∀ (j : Nat) (L : Tr), T.args[j]? = some L → from_ + L.size + 1 ≤ 9223372036854775807) := fun j L hj => by
    have := Tr.size_mem (List.mem_of_getElem? hj)
    have := T.size_eq
    omega
  have e3 := h4 (by simpa using e0)
  clear h4 h1 h2
  unfold Tr.val at hleaf ⊢
  go_enter Tryd.func74, Tryd.ntmps74
  go_wp2_with (go_at_call 89; go_must (refine hleaf.mono ?_); rintro e w2 ⟨la, lc, rfl, hNl, hb2⟩; have hz2 := hb2.size; have P2 := (P1.below hb2 P1.lt).alloc (.cells #[.int .i64 T.k, .int .i64 T.n, .string T.s, .slice la T.ls.length lc, .slice none 0 0] 33); have r0 := P2.cell (j := 0) rfl; have r1 := P2.cell (j := 1) rfl)
  obtain ⟨nn, hnn⟩ : ∃ nn, T.n + by_ = nn := ⟨_, rfl⟩
  rw [hnn]
  have hnn' : nn = if T.k = 0 ∧ from_ ≤ T.n then T.n + by_ else T.n := by rw [← hnn]; exact (if_pos ⟨by simpa using e0, of_decide_eq_true e1⟩).symm
  have HNN : Hid _ := hnn'
  clear hnn'
  have hnb : -9223372036854775808 ≤ nn ∧ nn ≤ 9223372036854775807 := by omega
  clear hnn e3
  have R0 := FL.start by_ from_ nn hb1' P1 Q1 hs1 hb2 hNl
  have hg0 : w.heap.size + 2 ≤ w2.heap.size := by omega
  obtain ⟨g, hg⟩ : ∃ g, w2.heap.size = g := ⟨_, rfl⟩
  rw [hg] at R0 hg0 ⊢
  clear P2 r0 r1 hleaf hNl hb2 hz2 P1 Q1 hs1 p0 p1 p2 p3 p4 hw1
  go_loopw [8] (fun i wr => ∃ (us : List Tr) (v : Value), i = .int .i64 (us.length : Int) ∧ us.length ≤ T.args.length ∧ FL by_ from_ w wr T g nn la lc v us) (fun i _ => T.args.length - (intOf i).toNat)
  case atStart => exact ⟨[], _, rfl, by simp, R0⟩
  case round =>
    clear R0
    obtain ⟨us, v, rfl, hj, hP⟩ := hrel
    obtain ⟨j, hjl⟩ : ∃ j, us.length = j := ⟨_, rfl⟩
    have hsz := hP.sz
    have b0 := hP.box.cell (j := 0) rfl
    have b4 := hP.box.cell (j := 4) rfl
    obtain ⟨ao, capo, hv⟩ := hP.row.slice
    rw [hjl] at hv hj
    subst hv
    have HJ : Hid (us.length = j) := hjl
    rw [hjl]
    clear hjl
    by_cases hlt : j < T.args.length
    · obtain ⟨L, hx⟩ : ∃ L, T.args[j]? = some L := ⟨_, List.getElem?_eq_getElem hlt⟩
      obtain ⟨ha, hSb, hC, hL⟩ := (hin.below hP.bel hB).get hx
      rw [ha] at b4
      have HX : Hid (T.args[j]? = some L) := hx
      have hLs := HS.out j L hx
      obtain ⟨bd, hbd⟩ : ∃ bd, bnd T.k j = bd := ⟨_, rfl⟩
      have hbd1 : bd ≤ 1 := by rw [← hbd]; exact bnd_le _ _
      have hbinds := rbinds_anyG T.k j wr.drew
      rw [hbd] at hbinds
      have hcall := ih L (List.mem_of_getElem? hx) (from_ + (bd : Int)) wr.drew B (by omega) (by omega) (show B ≤ wr.heap.size by omega) hL.drew
      unfold Tr.val at hcall
      have HBD : Hid (bnd T.k j = bd) := hbd
      have hLp := L.size_pos
      have hwr : IntKind.i64.wrap (from_ + (bd : Int)) = from_ + (bd : Int) := by rw [IntKind.wrap_i64]; omega
      have x0 := hC.c0
      have x1 := hC.c1
      have x2 := hC.c2
      have x3 := hC.c3
      have x4 := hC.c4
      have o4 := hP.out.cell (j := 4) rfl
      have hown := hP.row.row
      rw [HJ.out] at hown
      have hob : ∀ b, (Value.slice ao j capo).ownBlock = some b → g + 1 ≤ b := fun g hg => (owns_own hown hg).1
      have HO : Hid (wr.ownsRow (g + 1) 33 5 (.slice ao j capo) j (trCells us)) := hown
      clear hown hx ha hbd hC hL
      go_wp2_with fail
      go_region_law (first
        | (refine step_call (by rfl) 90 enter90 (.tmp 42) (.tmp 43) #[3, 3] (by rfl) _ _ (by rfl) (by rfl) (hbinds.mono ?_); rintro e w5 ⟨rfl, rfl⟩; refine ⟨_, rfl, ?_⟩)
        | (refine step_callt (by rfl) 74 enter74 (.tmp 38) (.tmp 39) (.tmp 45) #[33, 3, 3] (by rfl) _ _ _ (by rfl) (by rfl) (by rfl) (hcall.mono ?_); rintro e w6 ⟨U, rfl, hU6, hR6, hb6⟩; refine ⟨_, rfl, ?_⟩; unfold Tr.val; obtain ⟨w7, hw7, hb7, X7, hs7⟩ := one_newG w6 [.int .i64 U.k, .int .i64 U.n, .string U.s, .slice U.la U.ls.length U.lc, .slice U.a U.args.length U.c] 33; have hz6 : wr.heap.size ≤ w6.heap.size := hb6.size; have g5 := (bcell' hb6 _ _ (show g < wr.heap.size by omega)).trans o4; have j5 := (bcell' hb7 _ _ (show g < w6.heap.size by omega)).trans g5)
        | (refine step_append_own (by rfl) (.tmp 33) (.tmp 47) 31 (by rfl) (g + 1) 33 i25 _ 5 80 Tryd.underlying31 hi25 hz25 hs25 hb25 (by rfl) (by decide) (.slice ao j capo) j (trCells us) (by rfl) (owns_below (owns_below (w := wr.drew) HO.out hb6) hb7) ⟨w6.heap.size, 0, none⟩ 1 1 [.int .i64 U.k, .int .i64 U.n, .string U.s, .slice U.la U.ls.length U.lc, .slice U.a U.args.length U.c] (by rfl) (by rfl) (fun i u hu => by rw [Addr.add_lit, Nat.zero_add]; exact X7.cell hu) (by simp [Value.oneCell']) (by unfold maxLen; omega) (by omega) (by omega) (by decide) ?_; intro v' w8 ho8 hg8 hn8; obtain ⟨g', c', rfl, hg'1, hg'2, hg'3, hg'4⟩ := owns_shape ho8 (by omega); have G := grew (base := g + 1) hsz hob (Below.trans (Below.refl _ _).drew hb6) hb7 hg8; have hz8 := G.size; have l5 := (cell_grown G g 4 (by omega)).trans o4; have l6 := (hP.out.below G (by omega)).frozen 4))
      all_goals
        go_wp2_with fail
        go_roundw
        case rel => exact ⟨us ++ [U], _, by rw [List.length_append, HJ.out]; go_num, by rw [List.length_append, HJ.out]; exact hlt, hP.step (by rw [HJ.out]; exact HX.out) (Below.trans (Below.refl _ _).drew hb6) hU6 hb7 (by rw [HJ.out]; exact ho8) hg8 hn8 (by rw [HJ.out, HBD.out]; exact hR6)⟩
        case measure => simp [intOf]; omega
    · obtain rfl : j = T.args.length := by omega
      have o0 := hP.out.cell (j := 0) rfl
      have o1 := hP.out.cell (j := 1) rfl
      have o2 := hP.out.cell (j := 2) rfl
      have o3 := hP.out.cell (j := 3) rfl
      have o4 := hP.out.cell (j := 4) rfl
      have q0 := hP.res.cell (j := 0) rfl
      have q1 := hP.res.cell (j := 1) rfl
      have q2 := hP.res.cell (j := 2) rfl
      have q3 := hP.res.cell (j := 3) rfl
      have q4 := hP.res.cell (j := 4) rfl
      have f0 := hP.res.frozen 0
      have f1 := hP.res.frozen 1
      have f2 := hP.res.frozen 2
      have f3 := hP.res.frozen 3
      have f4 := hP.res.frozen 4
      obtain ⟨Q3, K3⟩ := st5G hP.res (.int .i64 T.k) (.int .i64 nn) (.string T.s) (.slice la T.ls.length lc) (.slice ao T.args.length capo)
      have c0 := Q3.cell (j := 0) rfl
      have c1 := Q3.cell (j := 1) rfl
      have c2 := Q3.cell (j := 2) rfl
      have c3 := Q3.cell (j := 3) rfl
      have c4 := Q3.cell (j := 4) rfl
      obtain ⟨U, hUv, hU1, hU2, hU3⟩ := hP.done HJ.out ⟨k0, k1⟩ hnb HNN.out K3
      clear hin hT
      go_wp2_with fail
      refine bodyPost_ret (v := .agg #[.int .i64 T.k, .int .i64 nn, .string T.s, .slice la T.ls.length lc, .slice ao T.args.length capo]) (by simp [results, Tryd.results74, go_sem, c0, c1, c2, c3, c4]) rfl ⟨U, by rw [hUv], hU1, hU2, hU3⟩

end Go.Proofs.YtkbpmpcbajnmlaaDoor
