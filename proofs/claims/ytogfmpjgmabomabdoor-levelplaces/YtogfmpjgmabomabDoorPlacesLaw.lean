/- The walk of LevelPlaces. No condition but that the bytes lie in memory, and that the tables hold what the program's text lays. -/
import Derived.Test.YtogfmpjgmabomabDoorPlacesF
namespace Go.Proofs.YtogfmpjgmabomabDoor
open Go.RowKit

set_option maxRecDepth 100000 in
set_option maxHeartbeats 4000000 in
theorem placesLaw_walk (a : Option Addr) (n cap : Nat) (bs : List Nat) (w : World) (hT : Tabs w) (hb : Bts w w.heap.size a n cap bs) :
    Calls Tryd.prog 4 #[.slice a n cap] w fun e w' => e = .returned (.bool true) ∧ Below w.heap.size w w' := by
  have hle := hb.le
  have hmx := hb.max
  have hlt := hT.lt
  have hbg := begun_any w hT
  by_cases h60 : 60 < n
  · go_enter Tryd.func4, Tryd.ntmps4
    go_wp2_with (go_at_call 6; go_must (refine hbg.mono ?_); rintro e w2 ⟨rfl, hb2⟩)
    go_ret
    exact ⟨rfl, hb2⟩
  · go_enter Tryd.func4, Tryd.ntmps4
    go_wp2_with (first
      | (go_at_call 6; go_must (refine hbg.mono ?_); rintro e w2 ⟨rfl, hb02⟩; have hz2 := hb02.size; clear hbg)
      | (go_at_call 7; go_must (refine (made_any a n cap w2).mono ?_); rintro e w3 ⟨rfl, hb3, G3, hs3⟩; have hb03 := hb02.trans (hb3.mono hb02.size); have L3 := level_any w2.heap.size a n cap bs 3 (by omega) (by omega) n 0 (by omega) (by omega) w3 w.heap.size G3 (hb.below hb03 (Nat.le_refl _)) (by omega)))
    refine L3.mono ?_
    rintro e w4 ⟨la, va, at4, rfl, m4⟩
    obtain ⟨k4, n4, a4, j4, c4, rfl⟩ := m4.is.shape
    have hz4 := m4.keep.size
    obtain ⟨w5, hw5, hb5, X5, hs5⟩ := one_new w4 [.int .i64 k4, .int .i64 n4, .slice a4 j4 c4] 29
    have hs5' := X5.lt
    clear hs5
    have hb04 := hb03.trans (m4.keep.below (B := w.heap.size) (by omega) (by omega))
    have hb05 := hb04.trans (hb5.mono hb04.size)
    have L5 := level_any w2.heap.size a n cap bs 3 (by omega) (by omega) n at4 m4.upto (by omega) w5 w.heap.size (m4.picks.below hb5 (by omega)) (hb.below hb05 (Nat.le_refl _)) (by omega)
    clear L3
    go_wp2_with fail
    refine L5.mono ?_
    rintro e w6 ⟨lb, vb, at6, rfl, m6⟩
    obtain ⟨k6, n6, a6, j6, c6, rfl⟩ := m6.is.shape
    have hz6 := m6.keep.size
    obtain ⟨w7, hw7, hb7, X7, hs7⟩ := one_new w6 [.int .i64 k6, .int .i64 n6, .slice a6 j6 c6] 29
    have hs7' := X7.lt
    clear hs7
    have hb06 := hb05.trans (m6.keep.below (B := w.heap.size) (by omega) (by omega))
    have hb07 := hb06.trans (hb7.mono hb06.size)
    clear L5
    have Ha : Has w7 w4.heap.size la k4 n4 a4 j4 c4 := ⟨In.carry (fun b hb => ((hb7.block b (by omega))).trans ((m6.keep.block b (show b < w5.heap.size by omega) (by omega)).trans (hb5.block b hb.2))) (fun b hb => by omega) _ _ m4.is, ((X5.keep m6.keep (by omega)).below hb7 (by omega))⟩
    have Hb : Has w7 w6.heap.size lb k6 n6 a6 j6 c6 := ⟨In.carry (fun b hb => hb7.block b hb.2) (fun b hb => by omega) _ _ m6.is, X7⟩
    have lowa := m4.low
    have lowb := m6.low
    clear m4 m6 X5 X7 hb3 hb5 hb7 G3 hw5 hb02 hb03 hb04 hb05 hb06
    have x0 := Ha.at_.cell (j := 0) rfl
    have x1 := Ha.at_.cell (j := 1) rfl
    have x2 := Ha.at_.cell (j := 2) rfl
    have y0 := Hb.at_.cell (j := 0) rfl
    have y1 := Hb.at_.cell (j := 1) rfl
    have y2 := Hb.at_.cell (j := 2) rfl
    obtain ⟨w8, hw8, hb8, X8, hs8⟩ := one_new w7 [.int .i64 k4, .int .i64 n4, .slice a4 j4 c4, .int .i64 k6, .int .i64 n6, .slice a6 j6 c6] 29
    have L8 := light_any [la.lv, lb.lv] _ 2 w8 w8.heap.size (Nat.le_refl _) (node_two Ha.is Hb.is hb8 X8)
    have hl : ([la.lv, lb.lv].all fun L => mayB L 4) = (mayB la.lv 4 && mayB lb.lv 4) := by simp
    rw [hl] at L8
    clear hl
    cases hmay : (mayB la.lv 4 && mayB lb.lv 4) with
    | false =>
      rw [hmay] at L8
      go_wp2_with (go_at_call 9; go_must (refine L8.mono ?_); rintro e w9 ⟨rfl, hb9⟩)
      go_ret
      exact ⟨rfl, hb07.trans ((hb8.trans (hb9.mono hb8.size)).mono hb07.size)⟩
    | true =>
      rw [hmay] at L8
      simp only [Bool.and_eq_true] at hmay
      obtain ⟨fa, _⟩ := fine_lev la hmay.1
      obtain ⟨fb, zb⟩ := fine_lev lb hmay.2
      have hmath := mo_all lowa lowb zb fb
      clear hmay
      go_wp2_with (go_at_call 9; go_must (refine L8.mono ?_); rintro e w9 ⟨rfl, hb9⟩)
      have hb79 : Below w7.heap.size w7 w9 := hb8.trans (hb9.mono hb8.size)
      have hb09 : Below w.heap.size w w9 := hb07.trans (hb79.mono hb07.size)
      replace Ha := Ha.on hb79
      replace Hb := Hb.on hb79
      have T9 := hT.on hb09
      have hlt9 : 2 ≤ w9.heap.size := by have := hb09.size; omega
      clear x0 x1 x2 y0 y1 y2 L8 hb8 hb9 X8 hw8 hb79 hb07 hs8
      have keep9 : ∀ w', Below w9.heap.size w9 w' → w'.cell? ⟨w4.heap.size, 0, none⟩ = some (.int .i64 k4) ∧ w'.cell? ⟨w4.heap.size, 1, none⟩ = some (.int .i64 n4) ∧ w'.cell? ⟨w4.heap.size, 2, none⟩ = some (.slice a4 j4 c4) ∧ w'.cell? ⟨w6.heap.size, 0, none⟩ = some (.int .i64 k6) ∧ w'.cell? ⟨w6.heap.size, 1, none⟩ = some (.int .i64 n6) ∧ w'.cell? ⟨w6.heap.size, 2, none⟩ = some (.slice a6 j6 c6) := fun w' h =>
        ⟨(Ha.on h).at_.cell (j := 0) rfl, (Ha.on h).at_.cell (j := 1) rfl, (Ha.on h).at_.cell (j := 2) rfl, (Hb.on h).at_.cell (j := 0) rfl, (Hb.on h).at_.cell (j := 1) rfl, (Hb.on h).at_.cell (j := 2) rfl⟩
      go_loopw [6, 7] (fun m i wr => ∃ (j : Nat), i = .int .i64 (j : Int) ∧ j ≤ 27 ∧ m = .bool (mo la lb j) ∧ Below w9.heap.size w9 wr) (fun _ i _ => 27 - (intOf i).toNat)
      case atStart => exact ⟨0, rfl, by omega, rfl, Below.refl _ _⟩
      case round =>
        obtain ⟨j, rfl, hj, rfl, hbr⟩ := hrel
        by_cases hj27 : j < 27
        · obtain ⟨r0, hr0⟩ : ∃ r, j % 3 = r := ⟨_, rfl⟩
          obtain ⟨d1, hd1⟩ : ∃ r, j / 3 = r := ⟨_, rfl⟩
          obtain ⟨r1, hr1⟩ : ∃ r, d1 % 3 = r := ⟨_, rfl⟩
          obtain ⟨r2, hr2⟩ : ∃ r, j / 9 = r := ⟨_, rfl⟩
          have hat : at5 j = [t5 r0, t5 r1, t5 r2] := by unfold at5; rw [hr0, hd1, hr1, hr2]
          have l0 : r0 < 3 := by omega
          have l1 : r1 < 3 := by omega
          have l2 : r2 < 3 := by omega
          have hd9 : d1 ≤ 9 := by omega
          have E0 : ((j : Int) % 3) = (r0 : Int) := by omega
          have E1 : ((j : Int) / 3) = (d1 : Int) := by omega
          have E2 : ((d1 : Int) % 3) = (r1 : Int) := by omega
          have E3 : ((j : Int) / 9) = (r2 : Int) := by omega
          have F0 : (j : Int).tmod 3 = (r0 : Int) := by rw [Int.tmod_eq_emod_of_nonneg (by omega)]; exact E0
          have F1 : (j : Int).tdiv 3 = (d1 : Int) := by rw [Int.tdiv_eq_ediv_of_nonneg (by omega)]; exact E1
          have F2 : (d1 : Int).tmod 3 = (r1 : Int) := by rw [Int.tmod_eq_emod_of_nonneg (by omega)]; exact E2
          have F3 : (j : Int).tdiv 9 = (r2 : Int) := by rw [Int.tdiv_eq_ediv_of_nonneg (by omega)]; exact E3
          have W1 : IntKind.i64.wrap (d1 : Int) = (d1 : Int) := by rw [IntKind.wrap_i64]; omega
          have W2 : IntKind.i64.wrap (r2 : Int) = (r2 : Int) := by rw [IntKind.wrap_i64]; omega
          have HA : Hid (at5 j = [t5 r0, t5 r1, t5 r2]) := hat
          clear hat hr0 hd1 hr1 hr2
          obtain ⟨m, hm⟩ : ∃ m, mo la lb j = m := ⟨_, rfl⟩
          have HM : Hid (mo la lb (j + 1) = (m || decide (lb.val (vv [t5 r0, t5 r1, t5 r2]) < la.val (vv [t5 r0, t5 r1, t5 r2])))) := by unfold Hid; rw [mo_succ, hm, HA.out]
          rw [hm]
          clear hm
          go_upto_region 14 with fail
          simp only [show decide ((j : Int) < 27) = true from by simp; omega]
          go_cut [8] from 25 to 55 (fun s8 wc => ∃ g, s8 = .slice (some ⟨g, 0, none⟩) 3 3 ∧ Below wr.heap.size wr wc ∧ Blk wc g 3 [.int .i64 (t5 r0), .int .i64 (t5 r1), .int .i64 (t5 r2)])
          case first =>
            refine wp_region_each (S := fun w' => Below wr.heap.size wr w') (Φ := PlF j r0 d1 r1 r2) (D := PlD) (by kernel_rfl) (by kernel_rfl) (fun _ _ _ _ hd h => ⟨hd.symm.trans h.1, h.2⟩) (Below.refl _ _).drew (fun i v w w' hb h => PlF.on _ _ _ _ _ i v w w' hb h) ?_ ?_
            · intro f w' hS hF
              obtain ⟨g, e17, h17⟩ := hF 17 (by decide)
              simp only [putAll, Act.put, List.setIfInBounds_toArray, List.set_cons_succ, List.set_cons_zero, Nat.zero_add, Nat.reduceAdd, e17]
              go_wp2_with fail
              go_meet
              case rel => exact ⟨g, rfl, hS, h17⟩
            · refine EachSteps.cons (fun f w hS hF K hK => ?_) ?_
              · refine ⟨?_⟩
                simp only [putAll, Act.put, List.setIfInBounds_toArray, List.set_cons_succ, List.set_cons_zero, Nat.zero_add, Nat.reduceAdd] at hK ⊢
                go_simp
                (try go_wp2_with fail)
                exact hK _ _ (hS.alloc hS.size _) ((Below.refl _ _).alloc (Nat.le_refl _) _) ⟨_, rfl, Blk.new _ _ _⟩
              refine EachSteps.cons (fun f w hS hF K hK => ?_) ?_
              · refine ⟨?_⟩
                simp only [putAll, Act.put, List.setIfInBounds_toArray, List.set_cons_succ, List.set_cons_zero, Nat.zero_add, Nat.reduceAdd] at hK ⊢
                go_simp
                (try go_wp2_with fail)
                exact hK _ _ hS (Below.refl _ _) rfl
              refine EachSteps.cons (fun f w hS hF K hK => ?_) ?_
              · have e1 : f 1 = .int .i64 (j : Int) := hF 1 (by decide)
                refine ⟨?_⟩
                simp only [putAll, Act.put, List.setIfInBounds_toArray, List.set_cons_succ, List.set_cons_zero, Nat.zero_add, Nat.reduceAdd, e1] at hK ⊢
                go_simp
                (try go_wp2_with fail)
                exact hK _ _ hS (Below.refl _ _) (by show Value.int _ _ = Value.int _ _; first | rfl | rw [W1] | rw [W2])
              refine EachSteps.cons (fun f w hS hF K hK => ?_) ?_
              · have h : ∃ g, f 0 = .slice (some ⟨g, 0, none⟩) 3 3 ∧ T3 w g := hF 0 (by decide)
                refine h.elim (fun g hg => ?_)
                have e0 := hg.1
                have h0 := hg.2
                have e2 : f 2 = .int .i64 (r0 : Int) := hF 2 (by decide)
                refine ⟨?_⟩
                simp only [putAll, Act.put, List.setIfInBounds_toArray, List.set_cons_succ, List.set_cons_zero, Nat.zero_add, Nat.reduceAdd, e0, e2] at hK ⊢
                go_simp
                (try go_wp2_with fail)
                exact hK _ _ hS (Below.refl _ _) ⟨g, rfl, h0⟩
              refine EachSteps.cons (fun f w hS hF K hK => ?_) ?_
              · have h : ∃ g, f 3 = .pointer (some ⟨g, r0, none⟩) ∧ T3 w g := hF 3 (by decide)
                refine h.elim (fun g hg => ?_)
                have e3 := hg.1
                have h3 := hg.2
                have c := h3.cell l0
                refine ⟨?_⟩
                simp only [putAll, Act.put, List.setIfInBounds_toArray, List.set_cons_succ, List.set_cons_zero, Nat.zero_add, Nat.reduceAdd, e3] at hK ⊢
                go_simp
                (try go_wp2_with fail)
                exact hK _ _ hS (Below.refl _ _) rfl
              refine EachSteps.cons (fun f w hS hF K hK => ?_) ?_
              · refine ⟨?_⟩
                simp only [putAll, Act.put, List.setIfInBounds_toArray, List.set_cons_succ, List.set_cons_zero, Nat.zero_add, Nat.reduceAdd] at hK ⊢
                go_simp
                (try go_wp2_with fail)
                exact hK _ _ (hS.alloc hS.size _) ((Below.refl _ _).alloc (Nat.le_refl _) _) ⟨_, rfl, Blk.new _ _ _⟩
              refine EachSteps.cons (fun f w hS hF K hK => ?_) ?_
              · refine ⟨?_⟩
                simp only [putAll, Act.put, List.setIfInBounds_toArray, List.set_cons_succ, List.set_cons_zero, Nat.zero_add, Nat.reduceAdd] at hK ⊢
                go_simp
                (try go_wp2_with fail)
                exact hK _ _ hS (Below.refl _ _) rfl
              refine EachSteps.cons (fun f w hS hF K hK => ?_) ?_
              · have e6 : f 6 = .int .i64 (j : Int) := hF 6 (by decide)
                refine ⟨?_⟩
                simp only [putAll, Act.put, List.setIfInBounds_toArray, List.set_cons_succ, List.set_cons_zero, Nat.zero_add, Nat.reduceAdd, e6] at hK ⊢
                go_simp
                (try go_wp2_with fail)
                exact hK _ _ hS (Below.refl _ _) (by show Value.int _ _ = Value.int _ _; first | rfl | rw [W1] | rw [W2])
              refine EachSteps.cons (fun f w hS hF K hK => ?_) ?_
              · have e7 : f 7 = .int .i64 (d1 : Int) := hF 7 (by decide)
                refine ⟨?_⟩
                simp only [putAll, Act.put, List.setIfInBounds_toArray, List.set_cons_succ, List.set_cons_zero, Nat.zero_add, Nat.reduceAdd, e7] at hK ⊢
                go_simp
                (try go_wp2_with fail)
                exact hK _ _ hS (Below.refl _ _) (by show Value.int _ _ = Value.int _ _; first | rfl | rw [W1] | rw [W2])
              refine EachSteps.cons (fun f w hS hF K hK => ?_) ?_
              · have h : ∃ g, f 5 = .slice (some ⟨g, 0, none⟩) 3 3 ∧ T3 w g := hF 5 (by decide)
                refine h.elim (fun g hg => ?_)
                have e5 := hg.1
                have h5 := hg.2
                have e8 : f 8 = .int .i64 (r1 : Int) := hF 8 (by decide)
                refine ⟨?_⟩
                simp only [putAll, Act.put, List.setIfInBounds_toArray, List.set_cons_succ, List.set_cons_zero, Nat.zero_add, Nat.reduceAdd, e5, e8] at hK ⊢
                go_simp
                (try go_wp2_with fail)
                exact hK _ _ hS (Below.refl _ _) ⟨g, rfl, h5⟩
              refine EachSteps.cons (fun f w hS hF K hK => ?_) ?_
              · have h : ∃ g, f 9 = .pointer (some ⟨g, r1, none⟩) ∧ T3 w g := hF 9 (by decide)
                refine h.elim (fun g hg => ?_)
                have e9 := hg.1
                have h9 := hg.2
                have c := h9.cell l1
                refine ⟨?_⟩
                simp only [putAll, Act.put, List.setIfInBounds_toArray, List.set_cons_succ, List.set_cons_zero, Nat.zero_add, Nat.reduceAdd, e9] at hK ⊢
                go_simp
                (try go_wp2_with fail)
                exact hK _ _ hS (Below.refl _ _) rfl
              refine EachSteps.cons (fun f w hS hF K hK => ?_) ?_
              · refine ⟨?_⟩
                simp only [putAll, Act.put, List.setIfInBounds_toArray, List.set_cons_succ, List.set_cons_zero, Nat.zero_add, Nat.reduceAdd] at hK ⊢
                go_simp
                (try go_wp2_with fail)
                exact hK _ _ (hS.alloc hS.size _) ((Below.refl _ _).alloc (Nat.le_refl _) _) ⟨_, rfl, Blk.new _ _ _⟩
              refine EachSteps.cons (fun f w hS hF K hK => ?_) ?_
              · refine ⟨?_⟩
                simp only [putAll, Act.put, List.setIfInBounds_toArray, List.set_cons_succ, List.set_cons_zero, Nat.zero_add, Nat.reduceAdd] at hK ⊢
                go_simp
                (try go_wp2_with fail)
                exact hK _ _ hS (Below.refl _ _) rfl
              refine EachSteps.cons (fun f w hS hF K hK => ?_) ?_
              · have e12 : f 12 = .int .i64 (j : Int) := hF 12 (by decide)
                refine ⟨?_⟩
                simp only [putAll, Act.put, List.setIfInBounds_toArray, List.set_cons_succ, List.set_cons_zero, Nat.zero_add, Nat.reduceAdd, e12] at hK ⊢
                go_simp
                (try go_wp2_with fail)
                exact hK _ _ hS (Below.refl _ _) (by show Value.int _ _ = Value.int _ _; first | rfl | rw [W1] | rw [W2])
              refine EachSteps.cons (fun f w hS hF K hK => ?_) ?_
              · have h : ∃ g, f 11 = .slice (some ⟨g, 0, none⟩) 3 3 ∧ T3 w g := hF 11 (by decide)
                refine h.elim (fun g hg => ?_)
                have e11 := hg.1
                have h11 := hg.2
                have e13 : f 13 = .int .i64 (r2 : Int) := hF 13 (by decide)
                refine ⟨?_⟩
                simp only [putAll, Act.put, List.setIfInBounds_toArray, List.set_cons_succ, List.set_cons_zero, Nat.zero_add, Nat.reduceAdd, e11, e13] at hK ⊢
                go_simp
                (try go_wp2_with fail)
                exact hK _ _ hS (Below.refl _ _) ⟨g, rfl, h11⟩
              refine EachSteps.cons (fun f w hS hF K hK => ?_) ?_
              · have h : ∃ g, f 14 = .pointer (some ⟨g, r2, none⟩) ∧ T3 w g := hF 14 (by decide)
                refine h.elim (fun g hg => ?_)
                have e14 := hg.1
                have h14 := hg.2
                have c := h14.cell l2
                refine ⟨?_⟩
                simp only [putAll, Act.put, List.setIfInBounds_toArray, List.set_cons_succ, List.set_cons_zero, Nat.zero_add, Nat.reduceAdd, e14] at hK ⊢
                go_simp
                (try go_wp2_with fail)
                exact hK _ _ hS (Below.refl _ _) rfl
              refine EachSteps.cons (fun f w hS hF K hK => ?_) ?_
              · have e4 : f 4 = .int .i64 (t5 r0) := hF 4 (by decide)
                have e10 : f 10 = .int .i64 (t5 r1) := hF 10 (by decide)
                have e15 : f 15 = .int .i64 (t5 r2) := hF 15 (by decide)
                refine ⟨?_⟩
                simp only [putAll, Act.put, List.setIfInBounds_toArray, List.set_cons_succ, List.set_cons_zero, Nat.zero_add, Nat.reduceAdd, e4, e10, e15] at hK ⊢
                go_simp
                (try go_wp2_with fail)
                exact hK _ _ (hS.alloc hS.size _) ((Below.refl _ _).alloc (Nat.le_refl _) _) ⟨_, rfl, Blk.new _ _ _⟩
              refine EachSteps.cons (fun f w hS hF K hK => ?_) ?_
              · have h : ∃ g, f 16 = .slice (some ⟨g, 0, none⟩) 3 3 ∧ Blk w g 3 [.int .i64 (t5 r0), .int .i64 (t5 r1), .int .i64 (t5 r2)] := hF 16 (by decide)
                refine h.elim (fun g hg => ?_)
                have e16 := hg.1
                have h16 := hg.2
                refine ⟨?_⟩
                simp only [putAll, Act.put, List.setIfInBounds_toArray, List.set_cons_succ, List.set_cons_zero, Nat.zero_add, Nat.reduceAdd, e16] at hK ⊢
                go_simp
                (try go_wp2_with fail)
                exact hK _ _ hS (Below.refl _ _) ⟨g, rfl, h16⟩
              exact EachSteps.nil
          case rest =>
            revert wc
            intro wc hcut
            obtain ⟨g, rfl, hbc, B8⟩ := hcut
            have hb9c := hbr.trans (hbc.mono hbr.size)
            have hz9c := hb9c.size
            have I8 : Ints wc wc.heap.size (some ⟨g, 0, none⟩) 3 3 [t5 r0, t5 r1, t5 r2] := ⟨rfl, Nat.le_refl _, by decide, fun k z hz => ⟨g, 0, rfl, B8.lt, by
              rw [Nat.zero_add]
              match k, hz with
              | 0, hz => simp at hz; subst hz; exact B8.cell rfl
              | 1, hz => simp at hz; subst hz; exact B8.cell rfl
              | 2, hz => simp at hz; subst hz; exact B8.cell rfl
              | k + 3, hz => simp at hz⟩⟩
            have HaC := Ha.on hb9c
            have HbC := Hb.on hb9c
            have TC := T9.on hb9c
            have p0 := over_cell (HaC.at_.cell (j := 0) rfl)
            have p1 := over_cell (HaC.at_.cell (j := 1) rfl)
            have p2 := over_cell (HaC.at_.cell (j := 2) rfl)
            have q0 := over_cell (HbC.at_.cell (j := 0) rfl)
            have q1 := over_cell (HbC.at_.cell (j := 1) rfl)
            have q2 := over_cell (HbC.at_.cell (j := 2) rfl)
            cases m with
            | true =>
              go_upto_region 15 with fail
              refine wp_region_over wc (Below.refl _ _) (by kernel_rfl) (by kernel_rfl) ?_
              repeat (go_big_quiet_step (fail))
              refine wpQuiet_nil ?_
              rintro _ ⟨u, rfl⟩
              go_wp2_with fail
              go_roundw
              case rel => exact ⟨j + 1, by go_num, by omega, by rw [HM.out]; simp, hb9c.trans ((over_below wc u).mono hz9c)⟩
              case measure => simp [intOf]; omega
            | false =>
              go_upto_region 15 with fail
              refine wp_region_over wc (Below.refl _ _) (by kernel_rfl) (by kernel_rfl) ?_
              repeat (go_big_quiet_step (first
                | (go_at_call_of 10 k4; exact Calls.over (eval_any la fa (some ⟨g, 0, none⟩) 3 3 [t5 r0, t5 r1, t5 r2] _ wc.heap.size _ (by omega) (over_below wc _).size (TC.on (over_below wc _)) (HaC.is.below (over_below wc _) (Nat.le_refl _)) (I8.below (over_below wc _) (Nat.le_refl _))))
                | (go_at_call_of 10 k6; exact Calls.over (eval_any lb fb (some ⟨g, 0, none⟩) 3 3 [t5 r0, t5 r1, t5 r2] _ wc.heap.size _ (by omega) (over_below wc _).size (TC.on (over_below wc _)) (HbC.is.below (over_below wc _) (Nat.le_refl _)) (I8.below (over_below wc _) (Nat.le_refl _))))))
              refine wpQuiet_nil ?_
              rintro _ ⟨u, rfl⟩
              go_wp2_with fail
              go_roundw
              case rel => exact ⟨j + 1, by go_num, by omega, by rw [HM.out]; simp, hb9c.trans ((over_below wc u).mono hz9c)⟩
              case measure => simp [intOf]; omega
        · obtain rfl : j = 27 := by omega
          obtain ⟨x0, x1, x2, y0, y1, y2⟩ := keep9 wr hbr
          have LQ := leq_any la lb fa fb wr w9.heap.size _ _ hlt9 hbr.size (T9.on hbr) (Ha.is.below hbr (Nat.le_refl _)) (Hb.is.below hbr (Nat.le_refl _))
          rw [hmath] at LQ
          obtain ⟨m, hm⟩ : ∃ m, mo la lb 27 = m := ⟨_, rfl⟩
          rw [hm] at LQ ⊢
          clear hm hmath
          cases m
          all_goals
            go_wp2_with (go_at_call 12; go_must (refine LQ.mono ?_); rintro e wl ⟨rfl, hbl⟩)
            go_ret
            exact ⟨rfl, hb09.trans ((hbr.trans (hbl.mono hbr.size)).mono hb09.size)⟩
end Go.Proofs.YtogfmpjgmabomabDoor
