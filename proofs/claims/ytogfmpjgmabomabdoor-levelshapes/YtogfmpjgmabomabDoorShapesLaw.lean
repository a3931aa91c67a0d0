/- The walk of LevelShapes. No condition but that the bytes lie in memory, and that the tables hold what the program's text lays. -/
import Derived.Test.YtogfmpjgmabomabDoorOrderLaw
import Derived.Deep.RegionHeld3
namespace Go.Proofs.YtogfmpjgmabomabDoor
open Go.RowKit

theorem ok_of_low (l : Lev) (p m : Nat) : ∀ d : Nat, l.low p → d + l.size ≤ m + 1 → l.lv.ok p m d = true := by
  induction l with
  | zero => intro d _ h; simp only [Lev.size] at h; simp only [Lev.lv]; rw [Lv.ok_mk]; simp [cnt, numB, Lv.oks]; omega
  | succ a ih => intro d hl h; simp only [Lev.size] at h; simp only [Lev.lv]; rw [Lv.ok_mk]; simp [cnt, numB, Lv.oks, ih (d + 1) hl (by omega)]; omega
  | max a b iha ihb => intro d hl h; simp only [Lev.size] at h; simp only [Lev.lv]; rw [Lv.ok_mk]; simp [cnt, numB, Lv.oks, iha (d + 1) hl.1 (by omega), ihb (d + 1) hl.2 (by omega)]; omega
  | imax a b iha ihb => intro d hl h; simp only [Lev.size] at h; simp only [Lev.lv]; rw [Lv.ok_mk]; simp [cnt, numB, Lv.oks, iha (d + 1) hl.1 (by omega), ihb (d + 1) hl.2 (by omega)]; omega
  | par n => intro d hl h; simp only [Lev.size] at h; have hl' : n < p := hl; simp only [Lev.lv]; rw [Lv.ok_mk]; simp [cnt, numB, Lv.oks]; omega
theorem fine_of (l : Lev) (hl : l.low 4) (hs : l.size ≤ 65536) : Fine l := by
  refine ⟨?_, hl, hs⟩
  have := ok_of_low l 4 65536 1 hl (by omega)
  unfold holdB
  rw [show ((4 : Nat) : Int) = 4 by rfl, show ((65536 : Nat) : Int) = 65536 by rfl] at this
  rw [this, Lev.size_lv]
  simp; omega
theorem h_mn (a b : Lev) (h1 : Fine (.succ (.max a b))) (h2 : Fine (.max (.succ a) (.succ b))) : evB eqR (.succ (.max a b)) (.max (.succ a) (.succ b)) = true := (same_iff h1 h2).2 fun v => by simp only [Lev.val, Nat.max_def]; split <;> split <;> omega
theorem h_comm (a b : Lev) (h1 : Fine (.max a b)) (h2 : Fine (.max b a)) : evB eqR (.max a b) (.max b a) = true := (same_iff h1 h2).2 fun v => by simp only [Lev.val]; exact Nat.max_comm _ _
theorem h_iz (a : Lev) (h1 : Fine (.imax a .zero)) : evB eqR (.imax a .zero) .zero = true := (same_iff h1 fine_z).2 fun v => by simp [Lev.val]
theorem h_it (a b : Lev) (h1 : Fine (.imax a (.succ b))) (h2 : Fine (.max a (.succ b))) : evB eqR (.imax a (.succ b)) (.max a (.succ b)) = true := (same_iff h1 h2).2 fun v => by simp [Lev.val]
theorem h_za (a : Lev) (h : Fine a) : evB leR .zero a = true := (leq_iff h).2 fun v => by simp [Lev.val]
theorem h_ns (a : Lev) : decide (0 < (Lev.succ a).least) = true := (never_iff _).2 fun v => by simp [Lev.val]
theorem h_st (a b : Lev) (h1 : Fine b) (h2 : Fine (.succ b)) : evB leR (.succ a) (.succ b) = evB leR a b := by
  rw [Bool.eq_iff_iff, leq_iff h1, leq_iff h2]
  exact ⟨fun h v => by have := h v; simp only [Lev.val] at this; omega, fun h v => by have := h v; simp only [Lev.val]; omega⟩
theorem h_aa (a : Lev) (h1 : Fine (.max a a)) (h2 : Fine a) : evB eqR (.max a a) a = true := (same_iff h1 h2).2 fun v => by simp [Lev.val]

set_option maxRecDepth 100000 in
set_option maxHeartbeats 8000000 in
theorem shapesLaw_walk (a : Option Addr) (n cap : Nat) (bs : List Nat) (w : World) (hT : Tabs w) (hb : Bts w w.heap.size a n cap bs) :
    Calls Tryd.prog 5 #[.slice a n cap] w fun e w' => e = .returned (.bool true) ∧ Below w.heap.size w w' := by
  have hle := hb.le
  have hmx := hb.max
  have hlt := hT.lt
  have hbg := begun_any w hT
  by_cases h60 : 60 < n
  · go_enter Tryd.func5, Tryd.ntmps5
    go_wp2_with (go_at_call 6; go_must (refine hbg.mono ?_); rintro e w2 ⟨rfl, hb2⟩)
    go_ret
    exact ⟨rfl, hb2⟩
  · go_enter Tryd.func5, Tryd.ntmps5
    go_wp2_with (first
      | (go_at_call 6; go_must (refine hbg.mono ?_); rintro e w2 ⟨rfl, hb02⟩; have hz2 := hb02.size; clear hbg)
      | (go_at_call 7; go_must (refine (made_any a n cap w2).mono ?_); rintro e w3 ⟨rfl, hb3, G3, hs3⟩; have hb03 := hb02.trans (hb3.mono hb02.size); have L3 := level_any w2.heap.size a n cap bs 4 (by omega) (by omega) n 0 (by omega) (by omega) w3 w.heap.size G3 (hb.below hb03 (Nat.le_refl _)) (by omega)))
    refine L3.mono ?_
    rintro e w4 ⟨la, va, at4, rfl, m4⟩
    obtain ⟨k4, n4, a4, j4, c4, rfl⟩ := m4.is.shape
    have hz4 := m4.keep.size
    obtain ⟨w5, hw5, hb5, X5, hs5⟩ := one_new w4 [.int .i64 k4, .int .i64 n4, .slice a4 j4 c4] 29
    have hs5' := X5.lt
    clear hs5
    have hb04 := hb03.trans (m4.keep.below (B := w.heap.size) (by omega) (by omega))
    have hb05 := hb04.trans (hb5.mono hb04.size)
    have L5 := level_any w2.heap.size a n cap bs 4 (by omega) (by omega) n at4 m4.upto (by omega) w5 w.heap.size (m4.picks.below hb5 (by omega)) (hb.below hb05 (Nat.le_refl _)) (by omega)
    clear L3
    go_wp2_with fail
    refine L5.mono ?_
    rintro e w6 ⟨lb, vb, at6, rfl, m6⟩
    obtain ⟨k6, n6, a6, j6, c6, rfl⟩ := m6.is.shape
    have hz6 := m6.keep.size
    obtain ⟨w7, hw7, hb7, X7, hs7⟩ := one_new w6 [.int .i64 k6, .int .i64 n6, .slice a6 j6 c6] 29
    have hs7' := X7.lt
    clear hs7
    have hb06 := hb05.trans (m6.keep.below (B := w.heap.size) (by omega) (by omega))
    have hb07 := hb06.trans (hb7.mono hb06.size)
    clear L5
    have Z7 := Zero_any w7
    go_wp2_with fail
    refine Z7.mono ?_
    rintro e w8 ⟨vz, rfl, m8, hb8⟩
    obtain ⟨k8, n8, a8, j8, c8, rfl⟩ := m8.shape
    have hz8 := hb8.size
    obtain ⟨w9, hw9, hb9, X9, hs9⟩ := one_new w8 [.int .i64 k8, .int .i64 n8, .slice a8 j8 c8] 29
    have hs9' := X9.lt
    clear hs9 Z7
    have hb08 := hb07.trans (hb8.mono hb07.size)
    have hb09 := hb08.trans (hb9.mono hb08.size)
    have hb79 : Below w7.heap.size w7 w9 := hb8.trans (hb9.mono hz8)
    have Ha : Has w9 w4.heap.size la k4 n4 a4 j4 c4 := (Has.on ⟨In.carry (fun b hb => ((hb7.block b (by omega))).trans ((m6.keep.block b (show b < w5.heap.size by omega) (by omega)).trans (hb5.block b hb.2))) (fun b hb => by omega) _ _ m4.is, ((X5.keep m6.keep (by omega)).below hb7 (by omega))⟩ hb79)
    have Hb : Has w9 w6.heap.size lb k6 n6 a6 j6 c6 := (Has.on ⟨In.carry (fun b hb => hb7.block b hb.2) (fun b hb => by omega) _ _ m6.is, X7⟩ hb79)
    have Hz : Has w9 w8.heap.size .zero k8 n8 a8 j8 c8 := ⟨((fresh_low m8).below hb9 (Nat.le_refl _)).up hb9.size, X9⟩
    have T9 := hT.on hb09
    have hlt9 : 2 ≤ w9.heap.size := by have := hb09.size; omega
    have lowa := m4.low
    have lowb := m6.low
    clear m4 m6 m8 X5 X7 X9 hb3 hb5 hb7 hb8 hb9 G3 hw5 hw7 hb02 hb03 hb04 hb05 hb06 hb07 hb08 hb79
    have hbA4 := Ha.at_.lt
    have hbA6 := Hb.at_.lt
    have hbA8 := Hz.at_.lt
    have cSa : ∀ cur zs ls, St w9 cur zs ls → Calls Tryd.prog 14 #[.agg #[.int .i64 k4, .int .i64 n4, .slice a4 j4 c4]] cur fun e w' => ∃ k n a j c, e = .returned (.agg #[.int .i64 k, .int .i64 n, .slice a j c]) ∧ St w9 w' zs ((.succ la, .agg #[.int .i64 k, .int .i64 n, .slice a j c]) :: ls) := fun cur zs ls h =>
      (Succ_any la cur w9.heap.size _ h.bel.size (Ha.is.below h.bel (Nat.le_refl _))).mono fun e w' ⟨v, he, hi, hb⟩ => by
        obtain ⟨k, n, a, j, c, rfl⟩ := hi.shape
        exact ⟨k, n, a, j, c, he, h.made hb hi⟩
    have cSb : ∀ cur zs ls, St w9 cur zs ls → Calls Tryd.prog 14 #[.agg #[.int .i64 k6, .int .i64 n6, .slice a6 j6 c6]] cur fun e w' => ∃ k n a j c, e = .returned (.agg #[.int .i64 k, .int .i64 n, .slice a j c]) ∧ St w9 w' zs ((.succ lb, .agg #[.int .i64 k, .int .i64 n, .slice a j c]) :: ls) := fun cur zs ls h =>
      (Succ_any lb cur w9.heap.size _ h.bel.size (Hb.is.below h.bel (Nat.le_refl _))).mono fun e w' ⟨v, he, hi, hb⟩ => by
        obtain ⟨k, n, a, j, c, rfl⟩ := hi.shape
        exact ⟨k, n, a, j, c, he, h.made hb hi⟩
    have hkeep : ∀ w', Below w9.heap.size w9 w' → w'.cell? ⟨w4.heap.size, 0, none⟩ = some (.int .i64 k4) ∧ w'.cell? ⟨w4.heap.size, 1, none⟩ = some (.int .i64 n4) ∧ w'.cell? ⟨w4.heap.size, 2, none⟩ = some (.slice a4 j4 c4) ∧ w'.cell? ⟨w6.heap.size, 0, none⟩ = some (.int .i64 k6) ∧ w'.cell? ⟨w6.heap.size, 1, none⟩ = some (.int .i64 n6) ∧ w'.cell? ⟨w6.heap.size, 2, none⟩ = some (.slice a6 j6 c6) := fun w' h =>
      ⟨(Ha.on h).at_.cell (j := 0) rfl, (Ha.on h).at_.cell (j := 1) rfl, (Ha.on h).at_.cell (j := 2) rfl, (Hb.on h).at_.cell (j := 0) rfl, (Hb.on h).at_.cell (j := 1) rfl, (Hb.on h).at_.cell (j := 2) rfl⟩
    have st0 := (St.start w9).drew
    go_upto_region 9 with fail
    go_cut [7, 8] from 13 (fun s7 s8 wc => ∃ p q ks ns sa js cs kt nt at_ jt ct, s7 = .pointer (some ⟨p, 0, none⟩) ∧ s8 = .pointer (some ⟨q, 0, none⟩) ∧ Below w9.heap.size w9 wc ∧ Has wc p (.succ la) ks ns sa js cs ∧ Has wc q (.succ lb) kt nt at_ jt ct)
    case first =>
      obtain ⟨z1, hz1', dz1, Xz1, -⟩ := one_new w9.drew Z3 29
      have stz1 : St w9 z1 [w9.heap.size] [] := st0.room dz1 Xz1
      obtain ⟨z2, hz2', dz2, Xz2, -⟩ := one_new z1 Z3 29
      have stz2 : St w9 z2 [z1.heap.size, w9.heap.size] [] := stz1.room dz2 Xz2
      go_region_held3 (fun w' => w'.cell? ⟨w4.heap.size, 0, none⟩ = some (.int .i64 k4) ∧ w'.cell? ⟨w4.heap.size, 1, none⟩ = some (.int .i64 n4) ∧ w'.cell? ⟨w4.heap.size, 2, none⟩ = some (.slice a4 j4 c4) ∧ w'.cell? ⟨w6.heap.size, 0, none⟩ = some (.int .i64 k6) ∧ w'.cell? ⟨w6.heap.size, 1, none⟩ = some (.int .i64 n6) ∧ w'.cell? ⟨w6.heap.size, 2, none⟩ = some (.slice a6 j6 c6)) (first | with_reducible exact hkeep _ st0.bel | with_reducible exact hkeep _ stz1.bel | with_reducible exact hkeep _ stz2.bel | with_reducible exact hkeep _ stM.bel | with_reducible exact hkeep _ sty1.bel | with_reducible exact hkeep _ sty2.bel | with_reducible exact hkeep _ stI.bel | with_reducible exact hkeep _ stx1.bel | with_reducible exact hkeep _ stx2.bel | with_reducible exact hkeep _ (keep_below stI (by simp) _ _ _) | with_reducible exact hkeep _ (keep_below stx1 (by simp) _ _ _) | with_reducible exact hkeep _ (keep_below stx2 (by simp) _ _ _) | with_reducible exact hkeep _ (keep_below2 stI (by simp) (by simp) _ _ _ _ _ _) | with_reducible exact hkeep _ (keep_below2 stx1 (by simp) (by simp) _ _ _ _ _ _) | with_reducible exact hkeep _ (keep_below2 stx2 (by simp) (by simp) _ _ _ _ _ _))
        (first
        | (go_at_call 14; refine (cSa _ _ _ (by with_reducible first | exact st0 | exact stz1 | exact stz2)).mono ?_; rintro e wM ⟨kM, nM, aM, jM, cM, rfl, stM⟩; obtain ⟨y1, hy1, dy1, Xy1, -⟩ := one_new wM Z3 29; have sty1 := stM.room dy1 Xy1; obtain ⟨y2, hy2, dy2, Xy2, -⟩ := one_new y1 Z3 29; have sty2 := sty1.room dy2 Xy2; clear cSa)
        | (go_at_call 14; refine (cSb _ _ _ (by with_reducible first | exact stM | exact sty1 | exact sty2)).mono ?_; rintro e wI ⟨kI, nI, aI, jI, cI, rfl, stI⟩; obtain ⟨x1, hx1, dx1, Xx1, -⟩ := one_new wI Z3 29; have stx1 := stI.room dx1 Xx1; obtain ⟨x2, hx2, dx2, Xx2, -⟩ := one_new x1 Z3 29; have stx2 := stx1.room dx2 Xx2; (try obtain ⟨⟨f0, f1, f2, f3, f4, f5⟩, ⟨f6, f7, f8, f9, f10, f11⟩⟩ := stI.after (.int .i64 kM) (.int .i64 nM) (.slice aM jM cM)); (try obtain ⟨⟨i0, i1, i2, i3, i4, i5⟩, ⟨i6, i7, i8, i9, i10, i11⟩, i12, i13⟩ := stI.two); (try obtain ⟨⟨g0, g1, g2, g3, g4, g5⟩, ⟨g6, g7, g8, g9, g10, g11⟩⟩ := stx1.after (.int .i64 kM) (.int .i64 nM) (.slice aM jM cM)); (try obtain ⟨⟨r0, r1, r2, r3, r4, r5⟩, ⟨r6, r7, r8, r9, r10, r11⟩, r12, r13⟩ := stx1.two); (try obtain ⟨⟨h0, h1, h2, h3, h4, h5⟩, ⟨h6, h7, h8, h9, h10, h11⟩⟩ := stx2.after (.int .i64 kM) (.int .i64 nM) (.slice aM jM cM)); (try obtain ⟨⟨t0, t1, t2, t3, t4, t5⟩, ⟨t6, t7, t8, t9, t10, t11⟩, t12, t13⟩ := stx2.two)))
      all_goals
        go_wp2_with fail
        go_meet
        case rel =>
          clear hkeep
          with_reducible first
          | exact ⟨_, _, _, _, _, _, _, _, _, _, _, _, rfl, rfl, stI.done (by simp) (by simp) (by assumption) (by simp) (by simp)⟩
          | exact ⟨_, _, _, _, _, _, _, _, _, _, _, _, rfl, rfl, stx1.done (by simp) (by simp) (by assumption) (by simp) (by simp)⟩
          | exact ⟨_, _, _, _, _, _, _, _, _, _, _, _, rfl, rfl, stx2.done (by simp) (by simp) (by assumption) (by simp) (by simp)⟩
    case rest =>
      revert wc
      intro v1 hcut
      obtain ⟨p, q, ks, ns, sa, js, cs, kt, nt, at_, jt, ct, rfl, rfl, b1, Hs, Ht⟩ := hcut
      replace Ha := Ha.on b1
      replace Hb := Hb.on b1
      replace Hz := Hz.on b1
      have b01 := hb09.trans (b1.mono hb09.size)
      replace T9 := T9.on b1
      replace hlt9 : 2 ≤ v1.heap.size := by have := b1.size; omega
      clear hkeep cSa cSb st0
      have ea0 := Ha.at_.cell (j := 0) rfl
      have ea1 := Ha.at_.cell (j := 1) rfl
      have ea2 := Ha.at_.cell (j := 2) rfl
      have eb0 := Hb.at_.cell (j := 0) rfl
      have eb1 := Hb.at_.cell (j := 1) rfl
      have eb2 := Hb.at_.cell (j := 2) rfl
      have M1 := Max_any la lb v1 v1.heap.size _ _ (Nat.le_refl _) Ha.is Hb.is
      go_wp2_with fail
      refine M1.mono ?_
      rintro e v2 ⟨vx, rfl, ix, d2⟩
      obtain ⟨kx, nx, ax, jx, cx, rfl⟩ := ix.shape
      have S2 := Succ_any (.max la lb) v2 v2.heap.size _ (Nat.le_refl _) (fresh_low ix)
      clear M1
      go_wp2_with fail
      refine S2.mono ?_
      rintro e v3 ⟨vy, rfl, iy, d3⟩
      obtain ⟨km, nm, am, jm, cm, rfl⟩ := iy.shape
      obtain ⟨v4, hv4, d4, X4, -⟩ := one_new v3 [.int .i64 km, .int .i64 nm, .slice am jm cm] 29
      have d14 : Below v1.heap.size v1 v4 := (d2.trans (d3.mono d2.size)).trans (d4.mono (Nat.le_trans d2.size d3.size))
      have Hm : Has v4 v3.heap.size (.succ (.max la lb)) km nm am jm cm := ⟨((fresh_low iy).below d4 (Nat.le_refl _)).up d4.size, X4⟩
      replace Ha := Ha.on d14
      replace Hb := Hb.on d14
      replace Hz := Hz.on d14
      replace Hs := Hs.on d14
      replace Ht := Ht.on d14
      clear S2 ix iy X4
      have es0 := Hs.at_.cell (j := 0) rfl
      have es1 := Hs.at_.cell (j := 1) rfl
      have es2 := Hs.at_.cell (j := 2) rfl
      have et0 := Ht.at_.cell (j := 0) rfl
      have et1 := Ht.at_.cell (j := 1) rfl
      have et2 := Ht.at_.cell (j := 2) rfl
      have N4 := Max_any (.succ la) (.succ lb) v4 v4.heap.size _ _ (Nat.le_refl _) Hs.is Ht.is
      go_wp2_with fail
      refine N4.mono ?_
      rintro e v5 ⟨vy, rfl, iy, d5⟩
      obtain ⟨kn, nn, an, jn, cn, rfl⟩ := iy.shape
      obtain ⟨v6, hv6, d6, X6, -⟩ := one_new v5 [.int .i64 kn, .int .i64 nn, .slice an jn cn] 29
      have d46 : Below v4.heap.size v4 v6 := d5.trans (d6.mono d5.size)
      have Hn : Has v6 v5.heap.size (.max (.succ la) (.succ lb)) kn nn an jn cn := ⟨((fresh_low iy).below d6 (Nat.le_refl _)).up d6.size, X6⟩
      replace Ha := Ha.on d46
      replace Hb := Hb.on d46
      replace Hz := Hz.on d46
      replace Hs := Hs.on d46
      replace Ht := Ht.on d46
      replace Hm := Hm.on d46
      have d16 : Below v1.heap.size v1 v6 := d14.trans (d46.mono d14.size)
      have b06 := b01.trans (d16.mono b01.size)
      replace T9 := T9.on d16
      replace hlt9 : 2 ≤ v6.heap.size := by have := d16.size; omega
      clear N4 iy X6 d2 d3 d4 d5 d6 d14 d46 d16 b1 b01 ea0 ea1 ea2 eb0 eb1 eb2 es0 es1 es2 et0 et1 et2 hbA4 hbA6 hbA8
      go_upto_region 12 with fail
      have keep6 : ∀ w', Below v6.heap.size v6 w' → w'.cell? ⟨v3.heap.size, 0, none⟩ = some (.int .i64 km) ∧ w'.cell? ⟨v3.heap.size, 1, none⟩ = some (.int .i64 nm) ∧ w'.cell? ⟨v3.heap.size, 2, none⟩ = some (.slice am jm cm) ∧ w'.cell? ⟨v5.heap.size, 0, none⟩ = some (.int .i64 kn) ∧ w'.cell? ⟨v5.heap.size, 1, none⟩ = some (.int .i64 nn) ∧ w'.cell? ⟨v5.heap.size, 2, none⟩ = some (.slice an jn cn) ∧ w'.cell? ⟨w4.heap.size, 0, none⟩ = some (.int .i64 k4) ∧ w'.cell? ⟨w4.heap.size, 1, none⟩ = some (.int .i64 n4) ∧ w'.cell? ⟨w4.heap.size, 2, none⟩ = some (.slice a4 j4 c4) ∧ w'.cell? ⟨q, 0, none⟩ = some (.int .i64 kt) ∧ w'.cell? ⟨q, 1, none⟩ = some (.int .i64 nt) ∧ w'.cell? ⟨q, 2, none⟩ = some (.slice at_ jt ct) ∧ w'.cell? ⟨w8.heap.size, 0, none⟩ = some (.int .i64 k8) ∧ w'.cell? ⟨w8.heap.size, 1, none⟩ = some (.int .i64 n8) ∧ w'.cell? ⟨w8.heap.size, 2, none⟩ = some (.slice a8 j8 c8) := fun w' h =>
        ⟨(Hm.on h).at_.cell (j := 0) rfl, (Hm.on h).at_.cell (j := 1) rfl, (Hm.on h).at_.cell (j := 2) rfl, (Hn.on h).at_.cell (j := 0) rfl, (Hn.on h).at_.cell (j := 1) rfl, (Hn.on h).at_.cell (j := 2) rfl, (Ha.on h).at_.cell (j := 0) rfl, (Ha.on h).at_.cell (j := 1) rfl, (Ha.on h).at_.cell (j := 2) rfl, (Ht.on h).at_.cell (j := 0) rfl, (Ht.on h).at_.cell (j := 1) rfl, (Ht.on h).at_.cell (j := 2) rfl, (Hz.on h).at_.cell (j := 0) rfl, (Hz.on h).at_.cell (j := 1) rfl, (Hz.on h).at_.cell (j := 2) rfl⟩
      have cIt : ∀ w', Below v6.heap.size v6 w' → Calls Tryd.prog 16 #[.agg #[.int .i64 k4, .int .i64 n4, .slice a4 j4 c4], .agg #[.int .i64 kt, .int .i64 nt, .slice at_ jt ct]] w' (Makes w' (.imax la (.succ lb))) := fun w' h => Imax_any la (.succ lb) w' v6.heap.size _ _ h.size (Ha.is.below h (Nat.le_refl _)) (Ht.is.below h (Nat.le_refl _))
      have cIz : ∀ w', Below v6.heap.size v6 w' → Calls Tryd.prog 16 #[.agg #[.int .i64 k4, .int .i64 n4, .slice a4 j4 c4], .agg #[.int .i64 k8, .int .i64 n8, .slice a8 j8 c8]] w' (Makes w' (.imax la .zero)) := fun w' h => Imax_any la .zero w' v6.heap.size _ _ h.size (Ha.is.below h (Nat.le_refl _)) (Hz.is.below h (Nat.le_refl _))
      obtain ⟨may, hmay⟩ : ∃ x, ([(Lev.succ (.max la lb)).lv, (Lev.max (.succ la) (.succ lb)).lv, (Lev.imax la (.succ lb)).lv, (Lev.imax la .zero).lv].all fun L => mayB L 4) = x := ⟨_, rfl⟩
      have cLi : ∀ w1 w2 w3 k1 n1 a1 j1 c1 k2 n2 a2 j2 c2, Below v6.heap.size v6 w1 → In w1 (· < w1.heap.size) (Lev.imax la (.succ lb)).lv (.agg #[.int .i64 k1, .int .i64 n1, .slice a1 j1 c1]) → Below w1.heap.size w1 w2 → In w2 (· < w2.heap.size) (Lev.imax la .zero).lv (.agg #[.int .i64 k2, .int .i64 n2, .slice a2 j2 c2]) → Below w2.heap.size w2 w3 →
          Blk w3 w2.heap.size 29 [.int .i64 km, .int .i64 nm, .slice am jm cm, .int .i64 kn, .int .i64 nn, .slice an jn cn, .int .i64 k1, .int .i64 n1, .slice a1 j1 c1, .int .i64 k2, .int .i64 n2, .slice a2 j2 c2] → Calls Tryd.prog 9 #[.slice (some ⟨w2.heap.size, 0, none⟩) 4 4] w3 fun e w' => e = .returned (.bool may) ∧ Below w3.heap.size w3 w' := fun w1 w2 w3 k1 n1 a1 j1 c1 k2 n2 a2 j2 c2 h1 i1 h2 i2 h3 X => by
        have h12 := h1.trans (h2.mono h1.size)
        have := light_any [(Lev.succ (.max la lb)).lv, (Lev.max (.succ la) (.succ lb)).lv, (Lev.imax la (.succ lb)).lv, (Lev.imax la .zero).lv] _ 4 w3 w3.heap.size (Nat.le_refl _) (node_row [((Lev.succ (.max la lb)).lv, .int .i64 km, .int .i64 nm, .slice am jm cm), ((Lev.max (.succ la) (.succ lb)).lv, .int .i64 kn, .int .i64 nn, .slice an jn cn), ((Lev.imax la (.succ lb)).lv, .int .i64 k1, .int .i64 n1, .slice a1 j1 c1), ((Lev.imax la .zero).lv, .int .i64 k2, .int .i64 n2, .slice a2 j2 c2)] (by intro x hx; simp only [List.mem_cons, List.not_mem_nil, or_false] at hx; rcases hx with rfl | rfl | rfl | rfl; exact (Hm.on h12).is; exact (Hn.on h12).is; exact (i1.below h2 (Nat.le_refl _)).up h2.size; exact i2) h3 X (by simp))
        rw [hmay] at this
        exact this
      have r0 : Below v6.heap.size v6 v6.drew := (Below.refl _ _).drew
      go_cut [44] from 13 (fun s44 wc => s44 = .bool (!may) ∧ Below v6.heap.size v6 wc)
      case first =>
        go_region_held3 (fun w' => w'.cell? ⟨v3.heap.size, 0, none⟩ = some (.int .i64 km) ∧ w'.cell? ⟨v3.heap.size, 1, none⟩ = some (.int .i64 nm) ∧ w'.cell? ⟨v3.heap.size, 2, none⟩ = some (.slice am jm cm) ∧ w'.cell? ⟨v5.heap.size, 0, none⟩ = some (.int .i64 kn) ∧ w'.cell? ⟨v5.heap.size, 1, none⟩ = some (.int .i64 nn) ∧ w'.cell? ⟨v5.heap.size, 2, none⟩ = some (.slice an jn cn) ∧ w'.cell? ⟨w4.heap.size, 0, none⟩ = some (.int .i64 k4) ∧ w'.cell? ⟨w4.heap.size, 1, none⟩ = some (.int .i64 n4) ∧ w'.cell? ⟨w4.heap.size, 2, none⟩ = some (.slice a4 j4 c4) ∧ w'.cell? ⟨q, 0, none⟩ = some (.int .i64 kt) ∧ w'.cell? ⟨q, 1, none⟩ = some (.int .i64 nt) ∧ w'.cell? ⟨q, 2, none⟩ = some (.slice at_ jt ct) ∧ w'.cell? ⟨w8.heap.size, 0, none⟩ = some (.int .i64 k8) ∧ w'.cell? ⟨w8.heap.size, 1, none⟩ = some (.int .i64 n8) ∧ w'.cell? ⟨w8.heap.size, 2, none⟩ = some (.slice a8 j8 c8)) (first | with_reducible exact keep6 _ r0 | with_reducible exact keep6 _ r1 | with_reducible exact keep6 _ r2 | with_reducible exact keep6 _ r3 | with_reducible exact keep6 _ r4)
          (first
          | (go_at_call 16; refine (cIt _ r0).mono ?_; rintro e x1 ⟨vi, rfl, i1, d1⟩; obtain ⟨k1, n1, a1, j1, c1, rfl⟩ := i1.shape; have r1 := r0.trans (d1.mono r0.size); clear cIt)
          | (go_at_call 16; refine (cIz _ r1).mono ?_; rintro e x2 ⟨vi, rfl, i2, d2⟩; obtain ⟨k2, n2, a2, j2, c2, rfl⟩ := i2.shape; have r2 := r1.trans (d2.mono r1.size); obtain ⟨x3, hx3, d3, X3, -⟩ := one_new x2 [.int .i64 km, .int .i64 nm, .slice am jm cm, .int .i64 kn, .int .i64 nn, .slice an jn cn, .int .i64 k1, .int .i64 n1, .slice a1 j1 c1, .int .i64 k2, .int .i64 n2, .slice a2 j2 c2] 29; have r3 := r2.trans (d3.mono r2.size); have cL := cLi x1 x2 x3 _ _ _ _ _ _ _ _ _ _ r1 (fresh_low i1) d2 (fresh_low i2) d3 X3; clear cIz)
          | (go_at_call 9; refine cL.mono ?_; rintro e x4 ⟨rfl, d4⟩; have r4 := r3.trans (d4.mono r3.size)))
        all_goals
          go_wp2_with fail
          go_meet
          case rel => exact ⟨rfl, r4⟩
      case rest =>
        revert wc
        intro u hcut
        obtain ⟨rfl, ru⟩ := hcut
        have b0u := b06.trans (ru.mono b06.size)
        cases may with
        | false =>
          go_wp2_with fail
          go_ret
          exact ⟨rfl, b0u⟩
        | true =>
          simp only [List.all_cons, List.all_nil, Bool.and_true, Bool.and_eq_true] at hmay
          obtain ⟨mm, mn, mt, mz⟩ := hmay
          obtain ⟨fm, zm⟩ := fine_lev _ mm
          have fn := (fine_lev _ mn).1
          have fit := (fine_lev _ mt).1
          have fiz := (fine_lev _ mz).1
          simp only [Lev.size] at zm
          have fa : Fine la := fine_of la lowa (by omega)
          have fb : Fine lb := fine_of lb lowb (by omega)
          have fs : Fine (.succ la) := fine_of (.succ la) lowa (by simp only [Lev.size]; omega)
          have ft : Fine (.succ lb) := fine_of (.succ lb) lowb (by simp only [Lev.size]; omega)
          have fab : Fine (.max la lb) := fine_of (.max la lb) ⟨lowa, lowb⟩ (by simp only [Lev.size]; omega)
          have fba : Fine (.max lb la) := fine_of (.max lb la) ⟨lowb, lowa⟩ (by simp only [Lev.size]; omega)
          have fat : Fine (.max la (.succ lb)) := fine_of (.max la (.succ lb)) ⟨lowa, lowb⟩ (by simp only [Lev.size]; omega)
          have faa : Fine (.max la la) := fine_of (.max la la) ⟨lowa, lowa⟩ (by simp only [Lev.size]; omega)
          clear mm mn mt mz zm keep6 cIt cIz cLi r0
          replace Ha := Ha.on ru
          replace Hb := Hb.on ru
          replace Hz := Hz.on ru
          replace Hs := Hs.on ru
          replace Ht := Ht.on ru
          replace Hm := Hm.on ru
          replace Hn := Hn.on ru
          replace T9 := T9.on ru
          replace hlt9 : 2 ≤ u.heap.size := by have := ru.size; omega
          have keepU : ∀ w', Below u.heap.size u w' → w'.cell? ⟨w4.heap.size, 0, none⟩ = some (.int .i64 k4) ∧ w'.cell? ⟨w4.heap.size, 1, none⟩ = some (.int .i64 n4) ∧ w'.cell? ⟨w4.heap.size, 2, none⟩ = some (.slice a4 j4 c4) ∧ w'.cell? ⟨w6.heap.size, 0, none⟩ = some (.int .i64 k6) ∧ w'.cell? ⟨w6.heap.size, 1, none⟩ = some (.int .i64 n6) ∧ w'.cell? ⟨w6.heap.size, 2, none⟩ = some (.slice a6 j6 c6) ∧ w'.cell? ⟨w8.heap.size, 0, none⟩ = some (.int .i64 k8) ∧ w'.cell? ⟨w8.heap.size, 1, none⟩ = some (.int .i64 n8) ∧ w'.cell? ⟨w8.heap.size, 2, none⟩ = some (.slice a8 j8 c8) ∧ w'.cell? ⟨p, 0, none⟩ = some (.int .i64 ks) ∧ w'.cell? ⟨p, 1, none⟩ = some (.int .i64 ns) ∧ w'.cell? ⟨p, 2, none⟩ = some (.slice sa js cs) ∧ w'.cell? ⟨q, 0, none⟩ = some (.int .i64 kt) ∧ w'.cell? ⟨q, 1, none⟩ = some (.int .i64 nt) ∧ w'.cell? ⟨q, 2, none⟩ = some (.slice at_ jt ct) ∧ w'.cell? ⟨v3.heap.size, 0, none⟩ = some (.int .i64 km) ∧ w'.cell? ⟨v3.heap.size, 1, none⟩ = some (.int .i64 nm) ∧ w'.cell? ⟨v3.heap.size, 2, none⟩ = some (.slice am jm cm) ∧ w'.cell? ⟨v5.heap.size, 0, none⟩ = some (.int .i64 kn) ∧ w'.cell? ⟨v5.heap.size, 1, none⟩ = some (.int .i64 nn) ∧ w'.cell? ⟨v5.heap.size, 2, none⟩ = some (.slice an jn cn) := fun w' h =>
            ⟨(Ha.on h).at_.cell (j := 0) rfl, (Ha.on h).at_.cell (j := 1) rfl, (Ha.on h).at_.cell (j := 2) rfl, (Hb.on h).at_.cell (j := 0) rfl, (Hb.on h).at_.cell (j := 1) rfl, (Hb.on h).at_.cell (j := 2) rfl, (Hz.on h).at_.cell (j := 0) rfl, (Hz.on h).at_.cell (j := 1) rfl, (Hz.on h).at_.cell (j := 2) rfl, (Hs.on h).at_.cell (j := 0) rfl, (Hs.on h).at_.cell (j := 1) rfl, (Hs.on h).at_.cell (j := 2) rfl, (Ht.on h).at_.cell (j := 0) rfl, (Ht.on h).at_.cell (j := 1) rfl, (Ht.on h).at_.cell (j := 2) rfl, (Hm.on h).at_.cell (j := 0) rfl, (Hm.on h).at_.cell (j := 1) rfl, (Hm.on h).at_.cell (j := 2) rfl, (Hn.on h).at_.cell (j := 0) rfl, (Hn.on h).at_.cell (j := 1) rfl, (Hn.on h).at_.cell (j := 2) rfl⟩
          have q1 : ∀ w', Below u.heap.size u w' → Calls Tryd.prog 17 #[.agg #[.int .i64 km, .int .i64 nm, .slice am jm cm], .agg #[.int .i64 kn, .int .i64 nn, .slice an jn cn]] w' fun e w'' => e = .returned (.bool true) ∧ Below w'.heap.size w' w'' := fun w' h => by
            have := same_any (.succ (.max la lb)) (.max (.succ la) (.succ lb)) fm fn w' u.heap.size _ _ hlt9 h.size (T9.on h) (Hm.is.below h (Nat.le_refl _)) (Hn.is.below h (Nat.le_refl _))
            rw [h_mn la lb fm fn] at this; exact this
          have q2 : ∀ w', Below u.heap.size u w' → Calls Tryd.prog 15 #[.agg #[.int .i64 k4, .int .i64 n4, .slice a4 j4 c4], .agg #[.int .i64 k6, .int .i64 n6, .slice a6 j6 c6]] w' (Makes w' (.max la lb)) := fun w' h => Max_any la lb w' u.heap.size _ _ h.size (Ha.is.below h (Nat.le_refl _)) (Hb.is.below h (Nat.le_refl _))
          have q3 : ∀ w', Below u.heap.size u w' → Calls Tryd.prog 15 #[.agg #[.int .i64 k6, .int .i64 n6, .slice a6 j6 c6], .agg #[.int .i64 k4, .int .i64 n4, .slice a4 j4 c4]] w' (Makes w' (.max lb la)) := fun w' h => Max_any lb la w' u.heap.size _ _ h.size (Hb.is.below h (Nat.le_refl _)) (Ha.is.below h (Nat.le_refl _))
          have q4 : ∀ w' va vb, Below u.heap.size u w' → In w' (· < w'.heap.size) (Lev.lv (.max la lb)) va → In w' (· < w'.heap.size) (Lev.lv (.max lb la)) vb → Calls Tryd.prog 17 #[va, vb] w' fun e w'' => e = .returned (.bool true) ∧ Below w'.heap.size w' w'' := fun w' va vb h ia ib => by
            have := same_any (.max la lb) (.max lb la) fab fba w' w'.heap.size va vb (by have := h.size; omega) (Nat.le_refl _) (T9.on h) ia ib
            rw [h_comm la lb fab fba] at this; exact this
          have q5 : ∀ w', Below u.heap.size u w' → Calls Tryd.prog 16 #[.agg #[.int .i64 k4, .int .i64 n4, .slice a4 j4 c4], .agg #[.int .i64 k8, .int .i64 n8, .slice a8 j8 c8]] w' (Makes w' (.imax la .zero)) := fun w' h => Imax_any la .zero w' u.heap.size _ _ h.size (Ha.is.below h (Nat.le_refl _)) (Hz.is.below h (Nat.le_refl _))
          have q6 : ∀ w' va, Below u.heap.size u w' → In w' (· < w'.heap.size) (Lev.lv (.imax la .zero)) va → Calls Tryd.prog 17 #[va, .agg #[.int .i64 k8, .int .i64 n8, .slice a8 j8 c8]] w' fun e w'' => e = .returned (.bool true) ∧ Below w'.heap.size w' w'' := fun w' va h ia => by
            have := same_any (.imax la .zero) .zero fiz fine_z w' w'.heap.size va _ (by have := h.size; omega) (Nat.le_refl _) (T9.on h) ia ((Hz.is.below h (Nat.le_refl _)).up h.size)
            rw [h_iz la fiz] at this; exact this
          have q7 : ∀ w', Below u.heap.size u w' → Calls Tryd.prog 16 #[.agg #[.int .i64 k4, .int .i64 n4, .slice a4 j4 c4], .agg #[.int .i64 kt, .int .i64 nt, .slice at_ jt ct]] w' (Makes w' (.imax la (.succ lb))) := fun w' h => Imax_any la (.succ lb) w' u.heap.size _ _ h.size (Ha.is.below h (Nat.le_refl _)) (Ht.is.below h (Nat.le_refl _))
          have q8 : ∀ w', Below u.heap.size u w' → Calls Tryd.prog 15 #[.agg #[.int .i64 k4, .int .i64 n4, .slice a4 j4 c4], .agg #[.int .i64 kt, .int .i64 nt, .slice at_ jt ct]] w' (Makes w' (.max la (.succ lb))) := fun w' h => Max_any la (.succ lb) w' u.heap.size _ _ h.size (Ha.is.below h (Nat.le_refl _)) (Ht.is.below h (Nat.le_refl _))
          have q9 : ∀ w' va vb, Below u.heap.size u w' → In w' (· < w'.heap.size) (Lev.lv (.imax la (.succ lb))) va → In w' (· < w'.heap.size) (Lev.lv (.max la (.succ lb))) vb → Calls Tryd.prog 17 #[va, vb] w' fun e w'' => e = .returned (.bool true) ∧ Below w'.heap.size w' w'' := fun w' va vb h ia ib => by
            have := same_any (.imax la (.succ lb)) (.max la (.succ lb)) fit fat w' w'.heap.size va vb (by have := h.size; omega) (Nat.le_refl _) (T9.on h) ia ib
            rw [h_it la lb fit fat] at this; exact this
          have q10 : ∀ w', Below u.heap.size u w' → Calls Tryd.prog 12 #[.agg #[.int .i64 k8, .int .i64 n8, .slice a8 j8 c8], .agg #[.int .i64 k4, .int .i64 n4, .slice a4 j4 c4]] w' fun e w'' => e = .returned (.bool true) ∧ Below w'.heap.size w' w'' := fun w' h => by
            have := leq_any .zero la fine_z fa w' u.heap.size _ _ hlt9 h.size (T9.on h) (Hz.is.below h (Nat.le_refl _)) (Ha.is.below h (Nat.le_refl _))
            rw [h_za la fa] at this; exact this
          have q11 : ∀ w', Below u.heap.size u w' → Calls Tryd.prog 18 #[.agg #[.int .i64 ks, .int .i64 ns, .slice sa js cs]] w' fun e w'' => e = .returned (.bool true) ∧ Below w'.heap.size w' w'' := fun w' h => by
            have := never_any (.succ la) fs w' u.heap.size _ hlt9 h.size (T9.on h) (Hs.is.below h (Nat.le_refl _))
            rw [h_ns la] at this; exact this
          have q12 : ∀ w', Below u.heap.size u w' → Calls Tryd.prog 12 #[.agg #[.int .i64 ks, .int .i64 ns, .slice sa js cs], .agg #[.int .i64 kt, .int .i64 nt, .slice at_ jt ct]] w' fun e w'' => e = .returned (.bool (evB leR la lb)) ∧ Below w'.heap.size w' w'' := fun w' h => by
            have := leq_any (.succ la) (.succ lb) fs ft w' u.heap.size _ _ hlt9 h.size (T9.on h) (Hs.is.below h (Nat.le_refl _)) (Ht.is.below h (Nat.le_refl _))
            rw [h_st la lb fb ft] at this; exact this
          have q13 : ∀ w', Below u.heap.size u w' → Calls Tryd.prog 12 #[.agg #[.int .i64 k4, .int .i64 n4, .slice a4 j4 c4], .agg #[.int .i64 k6, .int .i64 n6, .slice a6 j6 c6]] w' fun e w'' => e = .returned (.bool (evB leR la lb)) ∧ Below w'.heap.size w' w'' := fun w' h => by
            have := leq_any la lb fa fb w' u.heap.size _ _ hlt9 h.size (T9.on h) (Ha.is.below h (Nat.le_refl _)) (Hb.is.below h (Nat.le_refl _))
            exact this
          have q14 : ∀ w', Below u.heap.size u w' → Calls Tryd.prog 15 #[.agg #[.int .i64 k4, .int .i64 n4, .slice a4 j4 c4], .agg #[.int .i64 k4, .int .i64 n4, .slice a4 j4 c4]] w' (Makes w' (.max la la)) := fun w' h => Max_any la la w' u.heap.size _ _ h.size (Ha.is.below h (Nat.le_refl _)) (Ha.is.below h (Nat.le_refl _))
          have q15 : ∀ w' va, Below u.heap.size u w' → In w' (· < w'.heap.size) (Lev.lv (.max la la)) va → Calls Tryd.prog 17 #[va, .agg #[.int .i64 k4, .int .i64 n4, .slice a4 j4 c4]] w' fun e w'' => e = .returned (.bool true) ∧ Below w'.heap.size w' w'' := fun w' va h ia => by
            have := same_any (.max la la) la faa fa w' w'.heap.size va _ (by have := h.size; omega) (Nat.le_refl _) (T9.on h) ia ((Ha.is.below h (Nat.le_refl _)).up h.size)
            rw [h_aa la faa fa] at this; exact this
          obtain ⟨x, hx⟩ : ∃ x, evB leR la lb = x := ⟨_, rfl⟩
          simp only [hx] at q12 q13
          clear hx fm fn fit fiz fa fb fs ft fab fba fat faa Ha Hb Hz Hs Ht Hm Hn T9 hlt9
          have r0 : Below u.heap.size u u.drew := (Below.refl _ _).drew
          go_upto_region 14 with fail
          go_region_held3 (fun w' => w'.cell? ⟨w4.heap.size, 0, none⟩ = some (.int .i64 k4) ∧ w'.cell? ⟨w4.heap.size, 1, none⟩ = some (.int .i64 n4) ∧ w'.cell? ⟨w4.heap.size, 2, none⟩ = some (.slice a4 j4 c4) ∧ w'.cell? ⟨w6.heap.size, 0, none⟩ = some (.int .i64 k6) ∧ w'.cell? ⟨w6.heap.size, 1, none⟩ = some (.int .i64 n6) ∧ w'.cell? ⟨w6.heap.size, 2, none⟩ = some (.slice a6 j6 c6) ∧ w'.cell? ⟨w8.heap.size, 0, none⟩ = some (.int .i64 k8) ∧ w'.cell? ⟨w8.heap.size, 1, none⟩ = some (.int .i64 n8) ∧ w'.cell? ⟨w8.heap.size, 2, none⟩ = some (.slice a8 j8 c8) ∧ w'.cell? ⟨p, 0, none⟩ = some (.int .i64 ks) ∧ w'.cell? ⟨p, 1, none⟩ = some (.int .i64 ns) ∧ w'.cell? ⟨p, 2, none⟩ = some (.slice sa js cs) ∧ w'.cell? ⟨q, 0, none⟩ = some (.int .i64 kt) ∧ w'.cell? ⟨q, 1, none⟩ = some (.int .i64 nt) ∧ w'.cell? ⟨q, 2, none⟩ = some (.slice at_ jt ct) ∧ w'.cell? ⟨v3.heap.size, 0, none⟩ = some (.int .i64 km) ∧ w'.cell? ⟨v3.heap.size, 1, none⟩ = some (.int .i64 nm) ∧ w'.cell? ⟨v3.heap.size, 2, none⟩ = some (.slice am jm cm) ∧ w'.cell? ⟨v5.heap.size, 0, none⟩ = some (.int .i64 kn) ∧ w'.cell? ⟨v5.heap.size, 1, none⟩ = some (.int .i64 nn) ∧ w'.cell? ⟨v5.heap.size, 2, none⟩ = some (.slice an jn cn)) (first | with_reducible exact keepU _ r0 | with_reducible exact keepU _ r1 | with_reducible exact keepU _ r2 | with_reducible exact keepU _ r3 | with_reducible exact keepU _ r4 | with_reducible exact keepU _ r5 | with_reducible exact keepU _ r6 | with_reducible exact keepU _ r7 | with_reducible exact keepU _ r8 | with_reducible exact keepU _ r9 | with_reducible exact keepU _ r10 | with_reducible exact keepU _ r11 | with_reducible exact keepU _ r12 | with_reducible exact keepU _ r13 | with_reducible exact keepU _ r14 | with_reducible exact keepU _ r15)
            (first
            | (go_at_call 17; refine (q1 _ r0).mono ?_; rintro e x1 ⟨rfl, d1⟩; have r1 := r0.trans (d1.mono r0.size); clear q1)
            | (go_at_call 15; refine (q2 _ r1).mono ?_; rintro e x2 ⟨vi, rfl, i2, d2⟩; obtain ⟨k102, n102, a102, j102, c102, rfl⟩ := i2.shape; have r2 := r1.trans (d2.mono r1.size); clear q2)
            | (go_at_call 15; refine (q3 _ r2).mono ?_; rintro e x3 ⟨vi, rfl, i3, d3⟩; obtain ⟨k103, n103, a103, j103, c103, rfl⟩ := i3.shape; have r3 := r2.trans (d3.mono r2.size); clear q3)
            | (go_at_call 17; refine (q4 _ _ _ r3 (((fresh_low i2).below d3 (Nat.le_refl _)).up d3.size) (fresh_low i3)).mono ?_; rintro e x4 ⟨rfl, d4⟩; have r4 := r3.trans (d4.mono r3.size); clear q4)
            | (go_at_call 16; refine (q5 _ r4).mono ?_; rintro e x5 ⟨vi, rfl, i5, d5⟩; obtain ⟨k105, n105, a105, j105, c105, rfl⟩ := i5.shape; have r5 := r4.trans (d5.mono r4.size); clear q5)
            | (go_at_call 17; refine (q6 _ _ r5 (fresh_low i5)).mono ?_; rintro e x6 ⟨rfl, d6⟩; have r6 := r5.trans (d6.mono r5.size); clear q6)
            | (go_at_call 16; refine (q7 _ r6).mono ?_; rintro e x7 ⟨vi, rfl, i7, d7⟩; obtain ⟨k107, n107, a107, j107, c107, rfl⟩ := i7.shape; have r7 := r6.trans (d7.mono r6.size); clear q7)
            | (go_at_call 15; refine (q8 _ r7).mono ?_; rintro e x8 ⟨vi, rfl, i8, d8⟩; obtain ⟨k108, n108, a108, j108, c108, rfl⟩ := i8.shape; have r8 := r7.trans (d8.mono r7.size); clear q8)
            | (go_at_call 17; refine (q9 _ _ _ r8 (((fresh_low i7).below d8 (Nat.le_refl _)).up d8.size) (fresh_low i8)).mono ?_; rintro e x9 ⟨rfl, d9⟩; have r9 := r8.trans (d9.mono r8.size); clear q9)
            | (go_at_call 12; refine (q10 _ r9).mono ?_; rintro e x10 ⟨rfl, d10⟩; have r10 := r9.trans (d10.mono r9.size); clear q10)
            | (go_at_call 18; refine (q11 _ r10).mono ?_; rintro e x11 ⟨rfl, d11⟩; have r11 := r10.trans (d11.mono r10.size); clear q11)
            | (go_at_call 12; refine (q12 _ r11).mono ?_; rintro e x12 ⟨rfl, d12⟩; have r12 := r11.trans (d12.mono r11.size); clear q12)
            | (go_at_call 12; refine (q13 _ r12).mono ?_; rintro e x13 ⟨rfl, d13⟩; have r13 := r12.trans (d13.mono r12.size); clear q13)
            | (go_at_call 15; refine (q14 _ r13).mono ?_; rintro e x14 ⟨vi, rfl, i14, d14⟩; obtain ⟨k114, n114, a114, j114, c114, rfl⟩ := i14.shape; have r14 := r13.trans (d14.mono r13.size); clear q14)
            | (go_at_call 17; refine (q15 _ _ r14 (fresh_low i14)).mono ?_; rintro e x15 ⟨rfl, d15⟩; have r15 := r14.trans (d15.mono r14.size); clear q15))
          all_goals
            go_wp2_with fail
            go_ret
            exact ⟨ret_bool (by simp), b0u.trans (r15.mono b0u.size)⟩
end Go.Proofs.YtogfmpjgmabomabDoor
