/- The walk of LevelOrder. No condition but that the bytes lie in memory, and that the tables hold what the program's text lays. -/
import Derived.Test.YtogfmpjgmabomaaDoorTwo
import Derived.Deep.CutRange
namespace Go.Proofs.YtogfmpjgmabomaaDoor
open Go.RowKit

theorem keep_below {w cur : World} {zs : List Nat} {ls : List (Lev × Value)} (h : St w cur zs ls) {p : Nat} (hp : p ∈ zs) (a b c : Value) : Below w.heap.size w (((cur.setCell ⟨p, 0, none⟩ a).setCell ⟨p, 1, none⟩ b).setCell ⟨p, 2, none⟩ c) :=
  ((h.bel.setCell (h.blk p hp).1 _).setCell (h.blk p hp).1 _).setCell (h.blk p hp).1 _
theorem keep_below2 {w cur : World} {zs : List Nat} {ls : List (Lev × Value)} (h : St w cur zs ls) {p q : Nat} (hp : p ∈ zs) (hq : q ∈ zs) (a b c d e f : Value) : Below w.heap.size w ((((((cur.setCell ⟨p, 0, none⟩ a).setCell ⟨p, 1, none⟩ b).setCell ⟨p, 2, none⟩ c).setCell ⟨q, 0, none⟩ d).setCell ⟨q, 1, none⟩ e).setCell ⟨q, 2, none⟩ f) :=
  (((keep_below h hp a b c).setCell (h.blk q hq).1 _).setCell (h.blk q hq).1 _).setCell (h.blk q hq).1 _

theorem St.done {w cur : World} {zs : List Nat} {ls : List (Lev × Value)} (h : St w cur zs ls) {p q : Nat} (hp : p ∈ zs) (hq : q ∈ zs) (hpq : p ≠ q) {l m : Lev} {k1 n1 k2 n2 : Int} {a1 a2 : Option Addr} {j1 c1 j2 c2 : Nat}
    (hl : (l, Value.agg #[.int .i64 k1, .int .i64 n1, .slice a1 j1 c1]) ∈ ls) (hm : (m, Value.agg #[.int .i64 k2, .int .i64 n2, .slice a2 j2 c2]) ∈ ls) :
    Below w.heap.size w ((((((cur.setCell ⟨p, 0, none⟩ (.int .i64 k1)).setCell ⟨p, 1, none⟩ (.int .i64 n1)).setCell ⟨p, 2, none⟩ (.slice a1 j1 c1)).setCell ⟨q, 0, none⟩ (.int .i64 k2)).setCell ⟨q, 1, none⟩ (.int .i64 n2)).setCell ⟨q, 2, none⟩ (.slice a2 j2 c2)) ∧
      Has ((((((cur.setCell ⟨p, 0, none⟩ (.int .i64 k1)).setCell ⟨p, 1, none⟩ (.int .i64 n1)).setCell ⟨p, 2, none⟩ (.slice a1 j1 c1)).setCell ⟨q, 0, none⟩ (.int .i64 k2)).setCell ⟨q, 1, none⟩ (.int .i64 n2)).setCell ⟨q, 2, none⟩ (.slice a2 j2 c2)) p l k1 n1 a1 j1 c1 ∧
      Has ((((((cur.setCell ⟨p, 0, none⟩ (.int .i64 k1)).setCell ⟨p, 1, none⟩ (.int .i64 n1)).setCell ⟨p, 2, none⟩ (.slice a1 j1 c1)).setCell ⟨q, 0, none⟩ (.int .i64 k2)).setCell ⟨q, 1, none⟩ (.int .i64 n2)).setCell ⟨q, 2, none⟩ (.slice a2 j2 c2)) q m k2 n2 a2 j2 c2 := by
  obtain ⟨w', e, h1, h2, h3⟩ := h.stored hp hq hpq hl hm
  rw [e]
  exact ⟨h1, h2, h3⟩
def Room (w : World) (q : Nat) : Prop := w.cell? ⟨q, 0, none⟩ = some (.int .i64 0) ∧ w.cell? ⟨q, 1, none⟩ = some (.int .i64 0) ∧ w.cell? ⟨q, 2, none⟩ = some (.slice none 0 0) ∧ w.frozen? ⟨q, 0, none⟩ = false ∧ w.frozen? ⟨q, 1, none⟩ = false ∧ w.frozen? ⟨q, 2, none⟩ = false
theorem St.after {w cur : World} {p q : Nat} {ls : List (Lev × Value)} (h : St w cur [p, q] ls) (a b c : Value) : Room (((cur.setCell ⟨p, 0, none⟩ a).setCell ⟨p, 1, none⟩ b).setCell ⟨p, 2, none⟩ c) q ∧ Room (((cur.setCell ⟨q, 0, none⟩ a).setCell ⟨q, 1, none⟩ b).setCell ⟨q, 2, none⟩ c) p := by
  have hp := (h.blk p (by simp)).2
  have hq := (h.blk q (by simp)).2
  have hn := h.nd
  simp at hn
  have hq' := hq.keep (st3 hp a b c).2 (fun e => hn e.symm)
  have hp' := hp.keep (st3 hq a b c).2 hn
  exact ⟨⟨hq'.cell rfl, hq'.cell rfl, hq'.cell rfl, hq'.frozen _, hq'.frozen _, hq'.frozen _⟩, ⟨hp'.cell rfl, hp'.cell rfl, hp'.cell rfl, hp'.frozen _, hp'.frozen _, hp'.frozen _⟩⟩

theorem o_refl (a : Lev) (h : Fine a) : evB leR a a = true := (leq_iff h).2 fun _ => Nat.le_refl _
theorem o_left (a b : Lev) (h : Fine (.max a b)) : evB leR a (.max a b) = true := (leq_iff h).2 fun _ => Nat.le_max_left _ _
theorem o_right (a b : Lev) (h : Fine (.imax a b)) : evB leR b (.imax a b) = true := (leq_iff h).2 fun v => by
  simp only [Lev.val]
  split
  · omega
  · exact Nat.le_max_right _ _
theorem o_imax (a b : Lev) (h : Fine (.max a b)) : evB leR (.imax a b) (.max a b) = true := (leq_iff h).2 fun v => by
  simp only [Lev.val]
  split
  · omega
  · exact Nat.le_refl _
theorem o_same (a b : Lev) (h1 : Fine (.imax a b)) (h2 : Fine (.max a b)) (hn : decide (0 < b.least) = true) : evB eqR (.imax a b) (.max a b) = true := (same_iff h1 h2).2 fun v => by
  have := (never_iff b).1 hn v
  simp only [Lev.val]
  rw [if_neg (by omega)]
theorem o_through (a b c : Lev) (hb : Fine b) (hc : Fine c) (h1 : evB leR a b = true) (h2 : evB leR b c = true) : evB leR a c = true := (leq_iff hc).2 fun v => Nat.le_trans ((leq_iff hb).1 h1 v) ((leq_iff hc).1 h2 v)
theorem o_least (a b c : Lev) (hc : Fine c) : evB leR (.max a b) c = (evB leR a c && evB leR b c) := by
  rw [Bool.eq_iff_iff, Bool.and_eq_true, leq_iff hc, leq_iff hc, leq_iff hc]
  refine ⟨fun h => ⟨fun v => Nat.le_trans (Nat.le_max_left _ _) (h v), fun v => Nat.le_trans (Nat.le_max_right _ _) (h v)⟩, fun h v => ?_⟩
  exact Nat.max_le.2 ⟨h.1 v, h.2 v⟩
theorem o_strict (a : Lev) (h : Fine a) : evB leR (.succ a) a = false := by
  cases he : evB leR (.succ a) a with
  | false => rfl
  | true =>
    have := (leq_iff h).1 he (fun _ => 0)
    simp only [Lev.val] at this
    omega

set_option maxRecDepth 100000 in
set_option maxHeartbeats 4000000 in
theorem orderLaw_walk (a : Option Addr) (n cap : Nat) (bs : List Nat) (w : World) (hT : Tabs w) (hb : Bts w w.heap.size a n cap bs) :
    Calls Tryd.prog 7 #[.slice a n cap] w fun e w' => e = .returned (.bool true) ∧ Below w.heap.size w w' := by
  have hle := hb.le
  have hmx := hb.max
  have hlt := hT.lt
  have hbg := begun_any w hT
  by_cases h60 : 60 < n
  · go_enter Tryd.func7, Tryd.ntmps7
    go_wp2_with (go_at_call 9; go_must (refine hbg.mono ?_); rintro e w2 ⟨rfl, hb2⟩)
    go_ret
    exact ⟨rfl, hb2⟩
  · go_enter Tryd.func7, Tryd.ntmps7
    go_wp2_with (first
      | (go_at_call 9; go_must (refine hbg.mono ?_); rintro e w2 ⟨rfl, hb02⟩; have hz2 := hb02.size; clear hbg)
      | (go_at_call 15; go_must (refine (made_any a n cap w2).mono ?_); rintro e w3 ⟨rfl, hb3, G3, hs3⟩; have hb03 := hb02.trans (hb3.mono hb02.size); have L3 := level_any w2.heap.size a n cap bs 4 (by omega) (by omega) n 0 (by omega) (by omega) w3 w.heap.size G3 (hb.below hb03 (Nat.le_refl _)) (by omega)))
    refine L3.mono ?_
    rintro e w4 ⟨la, va, at4, rfl, m4⟩
    obtain ⟨k4, n4, a4, j4, c4, rfl⟩ := m4.is.shape
    have hz4 := m4.keep.size
    obtain ⟨w5, hw5, hb5, X5, hs5⟩ := one_new w4 [.int .i64 k4, .int .i64 n4, .slice a4 j4 c4] 24
    have hs5' := X5.lt
    clear hs5
    have hb04 := hb03.trans (m4.keep.below (B := w.heap.size) (by omega) (by omega))
    have hb05 := hb04.trans (hb5.mono hb04.size)
    have L5 := level_any w2.heap.size a n cap bs 4 (by omega) (by omega) n at4 m4.upto (by omega) w5 w.heap.size (m4.picks.below hb5 (by omega)) (hb.below hb05 (Nat.le_refl _)) (by omega)
    clear L3
    go_wp2_with fail
    refine L5.mono ?_
    rintro e w6 ⟨lb, vb, at6, rfl, m6⟩
    obtain ⟨k6, n6, a6, j6, c6, rfl⟩ := m6.is.shape
    have hz6 := m6.keep.size
    obtain ⟨w7, hw7, hb7, X7, hs7⟩ := one_new w6 [.int .i64 k6, .int .i64 n6, .slice a6 j6 c6] 24
    have hs7' := X7.lt
    clear hs7
    have hb06 := hb05.trans (m6.keep.below (B := w.heap.size) (by omega) (by omega))
    have hb07 := hb06.trans (hb7.mono hb06.size)
    have L7 := level_any w2.heap.size a n cap bs 4 (by omega) (by omega) n at6 m6.upto (by omega) w7 w.heap.size (m6.picks.below hb7 (by omega)) (hb.below hb07 (Nat.le_refl _)) (by omega)
    clear L5
    go_wp2_with fail
    refine L7.mono ?_
    rintro e w8 ⟨lc, vc, at8, rfl, m8⟩
    obtain ⟨k8, n8, a8, j8, c8, rfl⟩ := m8.is.shape
    have hz8 := m8.keep.size
    obtain ⟨w9, hw9, hb9, X9, hs9⟩ := one_new w8 [.int .i64 k8, .int .i64 n8, .slice a8 j8 c8] 24
    have hs9' := X9.lt
    clear hs9
    have hb08 := hb07.trans (m8.keep.below (B := w.heap.size) (by omega) (by omega))
    have hb09 := hb08.trans (hb9.mono hb08.size)
    clear L7
    have Ha : Has w9 w4.heap.size la k4 n4 a4 j4 c4 := (Has.on ⟨In.carry (fun b hb => ((m8.keep.block b (show b < w7.heap.size by omega) (by omega)).trans (hb7.block b (by omega))).trans ((m6.keep.block b (show b < w5.heap.size by omega) (by omega)).trans (hb5.block b hb.2))) (fun b hb => by omega) _ _ m4.is, ((X5.keep m6.keep (by omega)).below hb7 (by omega)).keep m8.keep (by omega)⟩ hb9)
    have Hb : Has w9 w6.heap.size lb k6 n6 a6 j6 c6 := (Has.on ⟨In.carry (fun b hb => (m8.keep.block b (show b < w7.heap.size by omega) (by omega)).trans (hb7.block b hb.2)) (fun b hb => by omega) _ _ m6.is, X7.keep m8.keep (by omega)⟩ hb9)
    have Hc : Has w9 w8.heap.size lc k8 n8 a8 j8 c8 := ⟨((fresh_low m8.is).below hb9 (Nat.le_refl _)).up hb9.size, X9⟩
    have T9 := hT.on hb09
    have hlt9 : 2 ≤ w9.heap.size := by have := hb09.size; omega
    clear m4 m6 m8 X5 X7 X9 hb3 hb5 hb7 hb9 G3 hw5 hw7 hb02 hb03 hb04 hb05 hb06 hb07 hb08
    have hbA4 := Ha.at_.lt
    have hbA6 := Hb.at_.lt
    have hbA8 := Hc.at_.lt
    have cMax : ∀ cur zs ls, St w9 cur zs ls → Calls Tryd.prog 25 #[.agg #[.int .i64 k4, .int .i64 n4, .slice a4 j4 c4], .agg #[.int .i64 k6, .int .i64 n6, .slice a6 j6 c6]] cur fun e w' => ∃ k n a j c, e = .returned (.agg #[.int .i64 k, .int .i64 n, .slice a j c]) ∧ St w9 w' zs ((.max la lb, .agg #[.int .i64 k, .int .i64 n, .slice a j c]) :: ls) := fun cur zs ls h =>
      (Max_any la lb cur w9.heap.size _ _ h.bel.size (Ha.is.below h.bel (Nat.le_refl _)) (Hb.is.below h.bel (Nat.le_refl _))).mono fun e w' ⟨v, he, hi, hb⟩ => by
        obtain ⟨k, n, a, j, c, rfl⟩ := hi.shape
        exact ⟨k, n, a, j, c, he, h.made hb hi⟩
    have cImax : ∀ cur zs ls, St w9 cur zs ls → Calls Tryd.prog 26 #[.agg #[.int .i64 k4, .int .i64 n4, .slice a4 j4 c4], .agg #[.int .i64 k6, .int .i64 n6, .slice a6 j6 c6]] cur fun e w' => ∃ k n a j c, e = .returned (.agg #[.int .i64 k, .int .i64 n, .slice a j c]) ∧ St w9 w' zs ((.imax la lb, .agg #[.int .i64 k, .int .i64 n, .slice a j c]) :: ls) := fun cur zs ls h =>
      (Imax_any la lb cur w9.heap.size _ _ h.bel.size (Ha.is.below h.bel (Nat.le_refl _)) (Hb.is.below h.bel (Nat.le_refl _))).mono fun e w' ⟨v, he, hi, hb⟩ => by
        obtain ⟨k, n, a, j, c, rfl⟩ := hi.shape
        exact ⟨k, n, a, j, c, he, h.made hb hi⟩
    have hkeep : ∀ w', Below w9.heap.size w9 w' → w'.cell? ⟨w4.heap.size, 0, none⟩ = some (.int .i64 k4) ∧ w'.cell? ⟨w4.heap.size, 1, none⟩ = some (.int .i64 n4) ∧ w'.cell? ⟨w4.heap.size, 2, none⟩ = some (.slice a4 j4 c4) ∧ w'.cell? ⟨w6.heap.size, 0, none⟩ = some (.int .i64 k6) ∧ w'.cell? ⟨w6.heap.size, 1, none⟩ = some (.int .i64 n6) ∧ w'.cell? ⟨w6.heap.size, 2, none⟩ = some (.slice a6 j6 c6) := fun w' h =>
      ⟨(Ha.on h).at_.cell (j := 0) rfl, (Ha.on h).at_.cell (j := 1) rfl, (Ha.on h).at_.cell (j := 2) rfl, (Hb.on h).at_.cell (j := 0) rfl, (Hb.on h).at_.cell (j := 1) rfl, (Hb.on h).at_.cell (j := 2) rfl⟩
    have st0 := (St.start w9).drew
    go_upto_region 9 with fail
    go_cut [7, 8] from 13 (fun s7 s8 wc => ∃ p q km nm am jm cm ki ni ai ji ci, s7 = .pointer (some ⟨p, 0, none⟩) ∧ s8 = .pointer (some ⟨q, 0, none⟩) ∧ Below w9.heap.size w9 wc ∧ Has wc p (.max la lb) km nm am jm cm ∧ Has wc q (.imax la lb) ki ni ai ji ci)
    case first =>
      obtain ⟨z1, hz1', dz1, Xz1, -⟩ := one_new w9.drew Z3 24
      have stz1 : St w9 z1 [w9.heap.size] [] := st0.room dz1 Xz1
      obtain ⟨z2, hz2', dz2, Xz2, -⟩ := one_new z1 Z3 24
      have stz2 : St w9 z2 [z1.heap.size, w9.heap.size] [] := stz1.room dz2 Xz2
      go_region_held3 (fun w' => w'.cell? ⟨w4.heap.size, 0, none⟩ = some (.int .i64 k4) ∧ w'.cell? ⟨w4.heap.size, 1, none⟩ = some (.int .i64 n4) ∧ w'.cell? ⟨w4.heap.size, 2, none⟩ = some (.slice a4 j4 c4) ∧ w'.cell? ⟨w6.heap.size, 0, none⟩ = some (.int .i64 k6) ∧ w'.cell? ⟨w6.heap.size, 1, none⟩ = some (.int .i64 n6) ∧ w'.cell? ⟨w6.heap.size, 2, none⟩ = some (.slice a6 j6 c6)) (first | with_reducible exact hkeep _ st0.bel | with_reducible exact hkeep _ stz1.bel | with_reducible exact hkeep _ stz2.bel | with_reducible exact hkeep _ stM.bel | with_reducible exact hkeep _ sty1.bel | with_reducible exact hkeep _ sty2.bel | with_reducible exact hkeep _ stI.bel | with_reducible exact hkeep _ stx1.bel | with_reducible exact hkeep _ stx2.bel | with_reducible exact hkeep _ (keep_below stI (by simp) _ _ _) | with_reducible exact hkeep _ (keep_below stx1 (by simp) _ _ _) | with_reducible exact hkeep _ (keep_below stx2 (by simp) _ _ _) | with_reducible exact hkeep _ (keep_below2 stI (by simp) (by simp) _ _ _ _ _ _) | with_reducible exact hkeep _ (keep_below2 stx1 (by simp) (by simp) _ _ _ _ _ _) | with_reducible exact hkeep _ (keep_below2 stx2 (by simp) (by simp) _ _ _ _ _ _))
        (first
        | (go_at_call 25; refine (cMax _ _ _ (by with_reducible first | exact st0 | exact stz1 | exact stz2)).mono ?_; rintro e wM ⟨kM, nM, aM, jM, cM, rfl, stM⟩; obtain ⟨y1, hy1, dy1, Xy1, -⟩ := one_new wM Z3 24; have sty1 := stM.room dy1 Xy1; obtain ⟨y2, hy2, dy2, Xy2, -⟩ := one_new y1 Z3 24; have sty2 := sty1.room dy2 Xy2)
        | (go_at_call 26; refine (cImax _ _ _ (by with_reducible first | exact stM | exact sty1 | exact sty2)).mono ?_; rintro e wI ⟨kI, nI, aI, jI, cI, rfl, stI⟩; obtain ⟨x1, hx1, dx1, Xx1, -⟩ := one_new wI Z3 24; have stx1 := stI.room dx1 Xx1; obtain ⟨x2, hx2, dx2, Xx2, -⟩ := one_new x1 Z3 24; have stx2 := stx1.room dx2 Xx2; (try obtain ⟨⟨f0, f1, f2, f3, f4, f5⟩, ⟨f6, f7, f8, f9, f10, f11⟩⟩ := stI.after (.int .i64 kM) (.int .i64 nM) (.slice aM jM cM)); (try obtain ⟨⟨i0, i1, i2, i3, i4, i5⟩, ⟨i6, i7, i8, i9, i10, i11⟩, i12, i13⟩ := stI.two); (try obtain ⟨⟨g0, g1, g2, g3, g4, g5⟩, ⟨g6, g7, g8, g9, g10, g11⟩⟩ := stx1.after (.int .i64 kM) (.int .i64 nM) (.slice aM jM cM)); (try obtain ⟨⟨r0, r1, r2, r3, r4, r5⟩, ⟨r6, r7, r8, r9, r10, r11⟩, r12, r13⟩ := stx1.two); (try obtain ⟨⟨h0, h1, h2, h3, h4, h5⟩, ⟨h6, h7, h8, h9, h10, h11⟩⟩ := stx2.after (.int .i64 kM) (.int .i64 nM) (.slice aM jM cM)); (try obtain ⟨⟨t0, t1, t2, t3, t4, t5⟩, ⟨t6, t7, t8, t9, t10, t11⟩, t12, t13⟩ := stx2.two)))
      all_goals
        go_wp2_with fail
        go_meet
        case rel =>
          clear hkeep cMax cImax
          with_reducible first
          | exact ⟨_, _, _, _, _, _, _, _, _, _, _, _, rfl, rfl, stI.done (by simp) (by simp) (by assumption) (by simp) (by simp)⟩
          | exact ⟨_, _, _, _, _, _, _, _, _, _, _, _, rfl, rfl, stx1.done (by simp) (by simp) (by assumption) (by simp) (by simp)⟩
          | exact ⟨_, _, _, _, _, _, _, _, _, _, _, _, rfl, rfl, stx2.done (by simp) (by simp) (by assumption) (by simp) (by simp)⟩
    case rest =>
      revert wc
      intro v1 hcut
      obtain ⟨p, q, km, nm, am, jm, cm, ki, ni, ai, ji, ci, rfl, rfl, b1, Hm, Hi⟩ := hcut
      replace Ha := Ha.on b1
      replace Hb := Hb.on b1
      replace Hc := Hc.on b1
      have b01 := hb09.trans (b1.mono hb09.size)
      replace T9 := T9.on b1
      replace hlt9 : 2 ≤ v1.heap.size := by have := b1.size; omega
      clear hkeep cMax cImax st0
      have ea0 := Ha.at_.cell (j := 0) rfl
      have ea1 := Ha.at_.cell (j := 1) rfl
      have ea2 := Ha.at_.cell (j := 2) rfl
      have eb0 := Hb.at_.cell (j := 0) rfl
      have eb1 := Hb.at_.cell (j := 1) rfl
      have eb2 := Hb.at_.cell (j := 2) rfl
      have ec0 := Hc.at_.cell (j := 0) rfl
      have ec1 := Hc.at_.cell (j := 1) rfl
      have ec2 := Hc.at_.cell (j := 2) rfl
      have em0 := Hm.at_.cell (j := 0) rfl
      have em1 := Hm.at_.cell (j := 1) rfl
      have em2 := Hm.at_.cell (j := 2) rfl
      have ei0 := Hi.at_.cell (j := 0) rfl
      have ei1 := Hi.at_.cell (j := 1) rfl
      have ei2 := Hi.at_.cell (j := 2) rfl
      obtain ⟨v2, hv2, d2, X2, -⟩ := one_new v1 [.int .i64 k4, .int .i64 n4, .slice a4 j4 c4, .int .i64 k6, .int .i64 n6, .slice a6 j6 c6, .int .i64 k8, .int .i64 n8, .slice a8 j8 c8, .int .i64 km, .int .i64 nm, .slice am jm cm, .int .i64 ki, .int .i64 ni, .slice ai ji ci] 24
      have L2 := light_any [la.lv, lb.lv, lc.lv, (Lev.max la lb).lv, (Lev.imax la lb).lv] _ 5 v2 v2.heap.size (Nat.le_refl _) (node_row [(la.lv, .int .i64 k4, .int .i64 n4, .slice a4 j4 c4), (lb.lv, .int .i64 k6, .int .i64 n6, .slice a6 j6 c6), (lc.lv, .int .i64 k8, .int .i64 n8, .slice a8 j8 c8), ((Lev.max la lb).lv, .int .i64 km, .int .i64 nm, .slice am jm cm), ((Lev.imax la lb).lv, .int .i64 ki, .int .i64 ni, .slice ai ji ci)] (by intro x hx; simp only [List.mem_cons, List.not_mem_nil, or_false] at hx; rcases hx with rfl | rfl | rfl | rfl | rfl; exact Ha.is; exact Hb.is; exact Hc.is; exact Hm.is; exact Hi.is) d2 X2 (by simp))
      have hb02 := b01.trans (d2.mono b01.size)
      cases hmay : ([la.lv, lb.lv, lc.lv, (Lev.max la lb).lv, (Lev.imax la lb).lv].all fun L => mayB L 4) with
      | false =>
        rw [hmay] at L2
        go_wp2_with (go_at_call 12; go_must (refine L2.mono ?_); rintro e v3 ⟨rfl, d3⟩)
        go_ret
        exact ⟨rfl, hb02.trans (d3.mono hb02.size)⟩
      | true =>
        rw [hmay] at L2
        simp only [List.all_cons, List.all_nil, Bool.and_true, Bool.and_eq_true] at hmay
        obtain ⟨ma, mb, mc, mm, mi⟩ := hmay
        have fa := (fine_lev _ ma).1
        have fb := (fine_lev _ mb).1
        have fc := (fine_lev _ mc).1
        have fm := (fine_lev _ mm).1
        have fi := (fine_lev _ mi).1
        clear ma mb mc mm mi
        go_upto_region 12 with (go_at_call 12; go_must (refine L2.mono ?_); rintro e v3 ⟨rfl, d3⟩)
        have d13 : Below v1.heap.size v1 v3 := d2.trans (d3.mono d2.size)
        have b03 := b01.trans (d13.mono b01.size)
        replace Ha := Ha.on d13
        replace Hb := Hb.on d13
        replace Hc := Hc.on d13
        replace Hm := Hm.on d13
        replace Hi := Hi.on d13
        replace T9 := T9.on d13
        replace hlt9 : 2 ≤ v3.heap.size := by have := d13.size; omega
        clear L2 hv2 X2 d2 d3 hb02 ea0 ea1 ea2 eb0 eb1 eb2 ec0 ec1 ec2 em0 em1 em2 ei0 ei1 ei2
        have cells : ∀ w', Below v3.heap.size v3 w' → w'.cell? ⟨w4.heap.size, 0, none⟩ = some (.int .i64 k4) ∧ w'.cell? ⟨w4.heap.size, 1, none⟩ = some (.int .i64 n4) ∧ w'.cell? ⟨w4.heap.size, 2, none⟩ = some (.slice a4 j4 c4) ∧ w'.cell? ⟨w6.heap.size, 0, none⟩ = some (.int .i64 k6) ∧ w'.cell? ⟨w6.heap.size, 1, none⟩ = some (.int .i64 n6) ∧ w'.cell? ⟨w6.heap.size, 2, none⟩ = some (.slice a6 j6 c6) ∧ w'.cell? ⟨w8.heap.size, 0, none⟩ = some (.int .i64 k8) ∧ w'.cell? ⟨w8.heap.size, 1, none⟩ = some (.int .i64 n8) ∧ w'.cell? ⟨w8.heap.size, 2, none⟩ = some (.slice a8 j8 c8) ∧ w'.cell? ⟨p, 0, none⟩ = some (.int .i64 km) ∧ w'.cell? ⟨p, 1, none⟩ = some (.int .i64 nm) ∧ w'.cell? ⟨p, 2, none⟩ = some (.slice am jm cm) ∧ w'.cell? ⟨q, 0, none⟩ = some (.int .i64 ki) ∧ w'.cell? ⟨q, 1, none⟩ = some (.int .i64 ni) ∧ w'.cell? ⟨q, 2, none⟩ = some (.slice ai ji ci) := fun w' h =>
          ⟨(Ha.on h).at_.cell (j := 0) rfl, (Ha.on h).at_.cell (j := 1) rfl, (Ha.on h).at_.cell (j := 2) rfl, (Hb.on h).at_.cell (j := 0) rfl, (Hb.on h).at_.cell (j := 1) rfl, (Hb.on h).at_.cell (j := 2) rfl, (Hc.on h).at_.cell (j := 0) rfl, (Hc.on h).at_.cell (j := 1) rfl, (Hc.on h).at_.cell (j := 2) rfl, (Hm.on h).at_.cell (j := 0) rfl, (Hm.on h).at_.cell (j := 1) rfl, (Hm.on h).at_.cell (j := 2) rfl, (Hi.on h).at_.cell (j := 0) rfl, (Hi.on h).at_.cell (j := 1) rfl, (Hi.on h).at_.cell (j := 2) rfl⟩
        have cab : ∀ w', Below v3.heap.size v3 w' → Calls Tryd.prog 17 #[.agg #[.int .i64 k4, .int .i64 n4, .slice a4 j4 c4], .agg #[.int .i64 k6, .int .i64 n6, .slice a6 j6 c6]] w' fun e w'' => e = .returned (.bool (evB leR la lb)) ∧ Below w'.heap.size w' w'' := fun w' h => by
          have := leq_any la lb fa fb w' v3.heap.size _ _ hlt9 h.size (T9.on h) (Ha.is.below h (Nat.le_refl _)) (Hb.is.below h (Nat.le_refl _))
          exact this
        have cbc : ∀ w', Below v3.heap.size v3 w' → Calls Tryd.prog 17 #[.agg #[.int .i64 k6, .int .i64 n6, .slice a6 j6 c6], .agg #[.int .i64 k8, .int .i64 n8, .slice a8 j8 c8]] w' fun e w'' => e = .returned (.bool (evB leR lb lc)) ∧ Below w'.heap.size w' w'' := fun w' h => by
          have := leq_any lb lc fb fc w' v3.heap.size _ _ hlt9 h.size (T9.on h) (Hb.is.below h (Nat.le_refl _)) (Hc.is.below h (Nat.le_refl _))
          exact this
        have cac : ∀ w', Below v3.heap.size v3 w' → Calls Tryd.prog 17 #[.agg #[.int .i64 k4, .int .i64 n4, .slice a4 j4 c4], .agg #[.int .i64 k8, .int .i64 n8, .slice a8 j8 c8]] w' fun e w'' => e = .returned (.bool (evB leR la lc)) ∧ Below w'.heap.size w' w'' := fun w' h => by
          have := leq_any la lc fa fc w' v3.heap.size _ _ hlt9 h.size (T9.on h) (Ha.is.below h (Nat.le_refl _)) (Hc.is.below h (Nat.le_refl _))
          exact this
        have cmc : ∀ w', Below v3.heap.size v3 w' → Calls Tryd.prog 17 #[.agg #[.int .i64 km, .int .i64 nm, .slice am jm cm], .agg #[.int .i64 k8, .int .i64 n8, .slice a8 j8 c8]] w' fun e w'' => e = .returned (.bool (evB leR la lc && evB leR lb lc)) ∧ Below w'.heap.size w' w'' := fun w' h => by
          have := leq_any (Lev.max la lb) lc fm fc w' v3.heap.size _ _ hlt9 h.size (T9.on h) (Hm.is.below h (Nat.le_refl _)) (Hc.is.below h (Nat.le_refl _))
          rw [o_least la lb lc fc] at this; exact this
        have caa : ∀ w', Below v3.heap.size v3 w' → Calls Tryd.prog 17 #[.agg #[.int .i64 k4, .int .i64 n4, .slice a4 j4 c4], .agg #[.int .i64 k4, .int .i64 n4, .slice a4 j4 c4]] w' fun e w'' => e = .returned (.bool true) ∧ Below w'.heap.size w' w'' := fun w' h => by
          have := leq_any la la fa fa w' v3.heap.size _ _ hlt9 h.size (T9.on h) (Ha.is.below h (Nat.le_refl _)) (Ha.is.below h (Nat.le_refl _))
          rw [o_refl la fa] at this; exact this
        have cam : ∀ w', Below v3.heap.size v3 w' → Calls Tryd.prog 17 #[.agg #[.int .i64 k4, .int .i64 n4, .slice a4 j4 c4], .agg #[.int .i64 km, .int .i64 nm, .slice am jm cm]] w' fun e w'' => e = .returned (.bool true) ∧ Below w'.heap.size w' w'' := fun w' h => by
          have := leq_any la (Lev.max la lb) fa fm w' v3.heap.size _ _ hlt9 h.size (T9.on h) (Ha.is.below h (Nat.le_refl _)) (Hm.is.below h (Nat.le_refl _))
          rw [o_left la lb fm] at this; exact this
        have cbi : ∀ w', Below v3.heap.size v3 w' → Calls Tryd.prog 17 #[.agg #[.int .i64 k6, .int .i64 n6, .slice a6 j6 c6], .agg #[.int .i64 ki, .int .i64 ni, .slice ai ji ci]] w' fun e w'' => e = .returned (.bool true) ∧ Below w'.heap.size w' w'' := fun w' h => by
          have := leq_any lb (Lev.imax la lb) fb fi w' v3.heap.size _ _ hlt9 h.size (T9.on h) (Hb.is.below h (Nat.le_refl _)) (Hi.is.below h (Nat.le_refl _))
          rw [o_right la lb fi] at this; exact this
        have cim : ∀ w', Below v3.heap.size v3 w' → Calls Tryd.prog 17 #[.agg #[.int .i64 ki, .int .i64 ni, .slice ai ji ci], .agg #[.int .i64 km, .int .i64 nm, .slice am jm cm]] w' fun e w'' => e = .returned (.bool true) ∧ Below w'.heap.size w' w'' := fun w' h => by
          have := leq_any (Lev.imax la lb) (Lev.max la lb) fi fm w' v3.heap.size _ _ hlt9 h.size (T9.on h) (Hi.is.below h (Nat.le_refl _)) (Hm.is.below h (Nat.le_refl _))
          rw [o_imax la lb fm] at this; exact this
        have cN : ∀ w', Below v3.heap.size v3 w' → Calls Tryd.prog 21 #[.agg #[.int .i64 k6, .int .i64 n6, .slice a6 j6 c6]] w' fun e w'' => e = .returned (.bool (decide (0 < lb.least))) ∧ Below w'.heap.size w' w'' := fun w' h =>
          never_any lb fb w' v3.heap.size _ hlt9 h.size (T9.on h) (Hb.is.below h (Nat.le_refl _))
        have cS : decide (0 < lb.least) = true → ∀ w', Below v3.heap.size v3 w' → Calls Tryd.prog 19 #[.agg #[.int .i64 ki, .int .i64 ni, .slice ai ji ci], .agg #[.int .i64 km, .int .i64 nm, .slice am jm cm]] w' fun e w'' => e = .returned (.bool true) ∧ Below w'.heap.size w' w'' := fun hn w' h => by
          have := same_any (.imax la lb) (.max la lb) fi fm w' v3.heap.size _ _ hlt9 h.size (T9.on h) (Hi.is.below h (Nat.le_refl _)) (Hm.is.below h (Nat.le_refl _))
          rw [o_same la lb fi fm hn] at this
          exact this
        have hthrough : evB leR la lb = true → evB leR lb lc = true → evB leR la lc = true := o_through la lb lc fb fc
        obtain ⟨n, hn⟩ : ∃ n, decide (0 < lb.least) = n := ⟨_, rfl⟩
        obtain ⟨ab, hab⟩ : ∃ x, evB leR la lb = x := ⟨_, rfl⟩
        obtain ⟨bc, hbc⟩ : ∃ x, evB leR lb lc = x := ⟨_, rfl⟩
        obtain ⟨ac, hac⟩ : ∃ x, evB leR la lc = x := ⟨_, rfl⟩
        simp only [hn] at cN cS
        simp only [hab, hbc, hac] at cab cbc cac cmc hthrough
        clear hn hab hbc hac
        have r3 := Below.refl v3.heap.size v3
        go_cut [9] from 13 (fun s9 wc => s9 = .bool true ∧ Below v3.heap.size v3 wc)
        case first =>
          obtain ⟨ea0, ea1, ea2, eb0, eb1, eb2, ec0, ec1, ec2, em0, em1, em2, ei0, ei1, ei2⟩ := cells v3 r3
          rcases (show ab = false ∨ (ab = true ∧ bc = false) ∨ (ab = true ∧ bc = true ∧ ac = true) by cases ab; exact .inl rfl; cases bc; exact .inr (.inl ⟨rfl, rfl⟩); exact .inr (.inr ⟨rfl, rfl, hthrough rfl rfl⟩)) with rfl | ⟨rfl, rfl⟩ | ⟨rfl, rfl, rfl⟩
          · go_wp2_with fail
            refine (cab _ r3).mono ?_
            rintro e v4 ⟨rfl, r4⟩
            go_wp2_with fail
            go_meet
            case rel => exact ⟨rfl, r4⟩
          · go_wp2_with fail
            refine (cab _ r3).mono ?_
            rintro e v4 ⟨rfl, r4⟩
            obtain ⟨ga0, ga1, ga2, gb0, gb1, gb2, gc0, gc1, gc2, gm0, gm1, gm2, gi0, gi1, gi2⟩ := cells v4 r4
            go_wp2_with fail
            refine (cbc _ r4).mono ?_
            rintro e v5 ⟨rfl, r45⟩
            have r5 := r4.trans (r45.mono r4.size)
            go_wp2_with fail
            go_meet
            case rel => exact ⟨rfl, r5⟩
          · go_wp2_with fail
            refine (cab _ r3).mono ?_
            rintro e v4 ⟨rfl, r4⟩
            obtain ⟨ga0, ga1, ga2, gb0, gb1, gb2, gc0, gc1, gc2, gm0, gm1, gm2, gi0, gi1, gi2⟩ := cells v4 r4
            go_wp2_with fail
            refine (cbc _ r4).mono ?_
            rintro e v5 ⟨rfl, r45⟩
            have r5 := r4.trans (r45.mono r4.size)
            obtain ⟨ha0, ha1, ha2, hb0, hb1, hb2, hc0, hc1, hc2, hm0, hm1, hm2, hi0, hi1, hi2⟩ := cells v5 r5
            go_wp2_with fail
            refine (cac _ r5).mono ?_
            rintro e v6 ⟨rfl, r56⟩
            have r6 := r5.trans (r56.mono r5.size)
            go_wp2_with fail
            go_meet
            case rel => exact ⟨rfl, r6⟩
        case rest =>
          revert wc
          intro v4 hcut
          obtain ⟨rfl, r4⟩ := hcut
          go_upto_region 13 with fail
          go_cut [10] from 13 (fun s10 wc => s10 = .bool true ∧ Below v3.heap.size v3 wc)
          case first =>
            obtain ⟨ea0, ea1, ea2, eb0, eb1, eb2, ec0, ec1, ec2, em0, em1, em2, ei0, ei1, ei2⟩ := cells v4 r4
            replace ea0 := over_cell ea0
            replace ea1 := over_cell ea1
            replace ea2 := over_cell ea2
            replace eb0 := over_cell eb0
            replace eb1 := over_cell eb1
            replace eb2 := over_cell eb2
            replace ec0 := over_cell ec0
            replace ec1 := over_cell ec1
            replace ec2 := over_cell ec2
            replace em0 := over_cell em0
            replace em1 := over_cell em1
            replace em2 := over_cell em2
            clear ei0 ei1 ei2
            cases ac <;> cases bc
            all_goals
              simp only [Bool.and_true, Bool.and_false] at cmc
              refine wp_region_over v4 (Below.refl _ _) (by kernel_rfl) (by kernel_rfl) ?_
              repeat (go_big_quiet_step (first
                | (go_at_call_of 17 km; exact Calls.over (cmc _ (r4.trans ((over_below v4 _).mono r4.size))))
                | (go_at_call_of 17 k4; exact Calls.over (cac _ (r4.trans ((over_below v4 _).mono r4.size))))
                | (go_at_call_of 17 k6; exact Calls.over (cbc _ (r4.trans ((over_below v4 _).mono r4.size))))))
              refine wpQuiet_nil ?_
              rintro _ ⟨u, rfl⟩
              go_wp2_with fail
              go_meet
              case rel => exact ⟨rfl, r4.trans ((over_below v4 u).mono r4.size)⟩
          case rest =>
            revert wc
            intro v5 hcut
            obtain ⟨rfl, r5⟩ := hcut
            obtain ⟨ea0, ea1, ea2, eb0, eb1, eb2, ec0, ec1, ec2, em0, em1, em2, ei0, ei1, ei2⟩ := cells v5 r5
            go_wp2_with fail
            refine (Succ_any la v5 v5.heap.size _ (Nat.le_refl _) (Ha.on r5).is).mono ?_
            rintro e v6 ⟨v, rfl, i6, d6⟩
            obtain ⟨ks, ns, as_, js, cs, rfl⟩ := i6.shape
            have r6 := r5.trans (d6.mono r5.size)
            obtain ⟨v7, hv7, d7, X7, -⟩ := one_new v6 [.int .i64 ks, .int .i64 ns, .slice as_ js cs] 24
            have r7 := r6.trans (d7.mono r6.size)
            have Hs : Has v7 v6.heap.size (.succ la) ks ns as_ js cs := ⟨((fresh_low i6).below d7 (Nat.le_refl _)).up d7.size, X7⟩
            clear ea0 ea1 ea2 eb0 eb1 eb2 ec0 ec1 ec2 em0 em1 em2 ei0 ei1 ei2
            go_upto_region 15 with fail
            have hlt7 : 2 ≤ v7.heap.size := by have := r7.size; omega
            clear i6 d6 d7 X7 r6 r5 hv7
            have cellS : ∀ w', Below v7.heap.size v7 w' → w'.cell? ⟨v6.heap.size, 0, none⟩ = some (.int .i64 ks) ∧ w'.cell? ⟨v6.heap.size, 1, none⟩ = some (.int .i64 ns) ∧ w'.cell? ⟨v6.heap.size, 2, none⟩ = some (.slice as_ js cs) := fun w' h => ⟨(Hs.on h).at_.cell (j := 0) rfl, (Hs.on h).at_.cell (j := 1) rfl, (Hs.on h).at_.cell (j := 2) rfl⟩
            go_cut [12] from 13 (fun s12 wc => s12 = .bool true ∧ Below v7.heap.size v7 wc)
            case first =>
              obtain ⟨s0, s1, s2⟩ := cellS v7 (Below.refl _ _)
              obtain ⟨v8, hv8, d8, X8, -⟩ := one_new v7 [.int .i64 ks, .int .i64 ns, .slice as_ js cs] 24
              have L8 := light_any [(Lev.succ la).lv] _ 1 v8 v8.heap.size (Nat.le_refl _) (node_one Hs.is d8 X8)
              cases hmay : ([(Lev.succ la).lv].all fun L => mayB L 4) with
              | false =>
                rw [hmay] at L8
                go_wp2_with fail
                refine L8.mono ?_
                rintro e v9 ⟨rfl, d9⟩
                go_wp2_with fail
                go_meet
                case rel => exact ⟨rfl, d8.trans (d9.mono d8.size)⟩
              | true =>
                rw [hmay] at L8
                have fs := (fine_lev (.succ la) (by simpa using hmay)).1
                go_wp2_with fail
                refine L8.mono ?_
                rintro e v9 ⟨rfl, d9⟩
                have d79 := d8.trans (d9.mono d8.size)
                have r9 := r7.trans (d79.mono r7.size)
                obtain ⟨ga0, ga1, ga2, gb0, gb1, gb2, gc0, gc1, gc2, gm0, gm1, gm2, gi0, gi1, gi2⟩ := cells v9 r9
                obtain ⟨z0, z1, z2⟩ := cellS v9 d79
                have cc := leq_any (.succ la) la fs fa v9 v7.heap.size _ _ hlt7 d79.size (T9.on r9) (Hs.is.below d79 (Nat.le_refl _)) ((Ha.on r7).is.below d79 (Nat.le_refl _))
                rw [o_strict la fa] at cc
                go_wp2_with fail
                refine cc.mono ?_
                rintro e v10 ⟨rfl, d10⟩
                go_wp2_with fail
                go_meet
                case rel => exact ⟨rfl, d79.trans (d10.mono d79.size)⟩
            case rest =>
              revert wc
              intro v8 hcut
              obtain ⟨rfl, d8⟩ := hcut
              have r8 := r7.trans (d8.mono r7.size)
              clear cellS Hs d8 r7
              cases n
              · obtain ⟨ea0, ea1, ea2, eb0, eb1, eb2, ec0, ec1, ec2, em0, em1, em2, ei0, ei1, ei2⟩ := cells v8 r8
                go_wp2_with fail
                refine (caa _ r8).mono ?_
                rintro e v9 ⟨rfl, d9⟩
                have r9 := r8.trans (d9.mono r8.size)
                clear ea0 ea1 ea2 eb0 eb1 eb2 ec0 ec1 ec2 em0 em1 em2 ei0 ei1 ei2
                obtain ⟨ea0, ea1, ea2, eb0, eb1, eb2, ec0, ec1, ec2, em0, em1, em2, ei0, ei1, ei2⟩ := cells v9 r9
                go_wp2_with fail
                refine (cam _ r9).mono ?_
                rintro e v10 ⟨rfl, d10⟩
                have r10 := r9.trans (d10.mono r9.size)
                clear ea0 ea1 ea2 eb0 eb1 eb2 ec0 ec1 ec2 em0 em1 em2 ei0 ei1 ei2
                obtain ⟨ea0, ea1, ea2, eb0, eb1, eb2, ec0, ec1, ec2, em0, em1, em2, ei0, ei1, ei2⟩ := cells v10 r10
                go_wp2_with fail
                refine (cbi _ r10).mono ?_
                rintro e v11 ⟨rfl, d11⟩
                have r11 := r10.trans (d11.mono r10.size)
                clear ea0 ea1 ea2 eb0 eb1 eb2 ec0 ec1 ec2 em0 em1 em2 ei0 ei1 ei2
                obtain ⟨ea0, ea1, ea2, eb0, eb1, eb2, ec0, ec1, ec2, em0, em1, em2, ei0, ei1, ei2⟩ := cells v11 r11
                go_wp2_with fail
                refine (cim _ r11).mono ?_
                rintro e v12 ⟨rfl, d12⟩
                have r12 := r11.trans (d12.mono r11.size)
                clear ea0 ea1 ea2 eb0 eb1 eb2 ec0 ec1 ec2 em0 em1 em2 ei0 ei1 ei2
                obtain ⟨ea0, ea1, ea2, eb0, eb1, eb2, ec0, ec1, ec2, em0, em1, em2, ei0, ei1, ei2⟩ := cells v12 r12
                go_wp2_with fail
                refine (cN _ r12).mono ?_
                rintro e v13 ⟨rfl, d13⟩
                have r13 := r12.trans (d13.mono r12.size)
                clear ea0 ea1 ea2 eb0 eb1 eb2 ec0 ec1 ec2 em0 em1 em2 ei0 ei1 ei2
                go_wp2_with fail
                go_ret
                exact ⟨rfl, b03.trans (r13.mono b03.size)⟩
              · obtain ⟨ea0, ea1, ea2, eb0, eb1, eb2, ec0, ec1, ec2, em0, em1, em2, ei0, ei1, ei2⟩ := cells v8 r8
                go_wp2_with fail
                refine (caa _ r8).mono ?_
                rintro e v9 ⟨rfl, d9⟩
                have r9 := r8.trans (d9.mono r8.size)
                clear ea0 ea1 ea2 eb0 eb1 eb2 ec0 ec1 ec2 em0 em1 em2 ei0 ei1 ei2
                obtain ⟨ea0, ea1, ea2, eb0, eb1, eb2, ec0, ec1, ec2, em0, em1, em2, ei0, ei1, ei2⟩ := cells v9 r9
                go_wp2_with fail
                refine (cam _ r9).mono ?_
                rintro e v10 ⟨rfl, d10⟩
                have r10 := r9.trans (d10.mono r9.size)
                clear ea0 ea1 ea2 eb0 eb1 eb2 ec0 ec1 ec2 em0 em1 em2 ei0 ei1 ei2
                obtain ⟨ea0, ea1, ea2, eb0, eb1, eb2, ec0, ec1, ec2, em0, em1, em2, ei0, ei1, ei2⟩ := cells v10 r10
                go_wp2_with fail
                refine (cbi _ r10).mono ?_
                rintro e v11 ⟨rfl, d11⟩
                have r11 := r10.trans (d11.mono r10.size)
                clear ea0 ea1 ea2 eb0 eb1 eb2 ec0 ec1 ec2 em0 em1 em2 ei0 ei1 ei2
                obtain ⟨ea0, ea1, ea2, eb0, eb1, eb2, ec0, ec1, ec2, em0, em1, em2, ei0, ei1, ei2⟩ := cells v11 r11
                go_wp2_with fail
                refine (cim _ r11).mono ?_
                rintro e v12 ⟨rfl, d12⟩
                have r12 := r11.trans (d12.mono r11.size)
                clear ea0 ea1 ea2 eb0 eb1 eb2 ec0 ec1 ec2 em0 em1 em2 ei0 ei1 ei2
                obtain ⟨ea0, ea1, ea2, eb0, eb1, eb2, ec0, ec1, ec2, em0, em1, em2, ei0, ei1, ei2⟩ := cells v12 r12
                go_wp2_with fail
                refine (cN _ r12).mono ?_
                rintro e v13 ⟨rfl, d13⟩
                have r13 := r12.trans (d13.mono r12.size)
                clear ea0 ea1 ea2 eb0 eb1 eb2 ec0 ec1 ec2 em0 em1 em2 ei0 ei1 ei2
                obtain ⟨ea0, ea1, ea2, eb0, eb1, eb2, ec0, ec1, ec2, em0, em1, em2, ei0, ei1, ei2⟩ := cells v13 r13
                go_wp2_with fail
                refine (cS (by trivial) _ r13).mono ?_
                rintro e v14 ⟨rfl, d14⟩
                have r14 := r13.trans (d14.mono r13.size)
                clear ea0 ea1 ea2 eb0 eb1 eb2 ec0 ec1 ec2 em0 em1 em2 ei0 ei1 ei2
                go_wp2_with fail
                go_ret
                exact ⟨rfl, b03.trans (r14.mono b03.size)⟩
end Go.Proofs.YtogfmpjgmabomaaDoor
