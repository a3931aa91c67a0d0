/- The walk of LevelKeeps. No condition but that the bytes and numbers lie in memory, and that the tables hold what the program's text lays. -/
import Derived.Test.YtogfmpjgmabomabDoorKeepsF
import Derived.Deep.RegionLaw
import Derived.Deep.RegionHeld3
namespace Go.Proofs.YtogfmpjgmabomabDoor
open Go.RowKit

theorem max4 (x0 x1 x2 x3 : Int) : ∃ m : Int, (∀ (P : Program) (w : World), (Builtin.max_ #[3, 3, 3, 3] 3 #[.int .i64 x0, .int .i64 x1, .int .i64 x2, .int .i64 x3]).run P w = .ok (.int .i64 m) w) ∧ x0 ≤ m ∧ x1 ≤ m ∧ x2 ≤ m ∧ x3 ≤ m := by
  obtain ⟨a, ha⟩ : ∃ a, (if x1 > x0 then x1 else x0) = a := ⟨_, rfl⟩
  obtain ⟨b, hb⟩ : ∃ b, (if x2 > a then x2 else a) = b := ⟨_, rfl⟩
  obtain ⟨c, hc⟩ : ∃ c, (if x3 > b then x3 else b) = c := ⟨_, rfl⟩
  refine ⟨c, fun P w => ?_, ?_, ?_, ?_, ?_⟩
  · subst ha hb hc; simp [Builtin.max_, Builtin.max2]
  all_goals (split at ha <;> split at hb <;> split at hc <;> omega)
theorem vv4 {x0 x1 x2 x3 m : Int} (h0 : x0 ≤ m) (h1 : x1 ≤ m) (h2 : x2 ≤ m) (h3 : x3 ≤ m) (hm : m ≤ 1073741824) (i : Nat) : vv [x0, x1, x2, x3] i ≤ 1073741824 := by
  unfold vv
  match i with
  | 0 => simp; omega
  | 1 => simp; omega
  | 2 => simp; omega
  | 3 => simp; omega
  | i + 4 => simp; omega

set_option maxRecDepth 100000 in
set_option maxHeartbeats 8000000 in
theorem keepsLaw_walk (a : Option Addr) (n cap : Nat) (bs : List Nat) (x0 x1 x2 x3 : Int) (w : World) (hT : Tabs w) (hb : Bts w w.heap.size a n cap bs) :
    Calls Tryd.prog 3 #[.slice a n cap, .agg #[.int .i64 x0, .int .i64 x1, .int .i64 x2, .int .i64 x3]] w fun e w' => e = .returned (.bool true) ∧ Below w.heap.size w w' := by
  have hle := hb.le
  have hmx := hb.max
  have hlt := hT.lt
  obtain ⟨w1, hw1, hb1, A1, hs1⟩ := one_new w [.int .i64 x0, .int .i64 x1, .int .i64 x2, .int .i64 x3] 23
  have hbg := begun_any w1 (hT.on hb1)
  have ARM : ∀ w2, Below w1.heap.size w1 w2 → Below w.heap.size w w2 ∧ Blk w2 w.heap.size 23 [.int .i64 x0, .int .i64 x1, .int .i64 x2, .int .i64 x3] := fun w2 h2 => ⟨hb1.trans (h2.mono (by omega)), A1.below h2 (by omega)⟩
  by_cases h60 : 60 < n
  · go_enter Tryd.func3, Tryd.ntmps3
    go_wp2_with (go_at_call 6; go_must (refine hbg.mono ?_); rintro e w2 ⟨rfl, hb2⟩)
    go_ret
    exact ⟨rfl, (ARM w2 hb2).1⟩
  · obtain ⟨m, hmax, m0, m1, m2, m3⟩ := max4 x0 x1 x2 x3
    by_cases hm : 1073741824 < m
    · go_enter Tryd.func3, Tryd.ntmps3
      go_wp2_with (go_at_call 6; go_must (refine hbg.mono ?_); rintro e w2 ⟨rfl, hb2⟩; obtain ⟨hb02, A2⟩ := ARM w2 hb2; have q0 := A2.cell (j := 0) rfl; have q1 := A2.cell (j := 1) rfl; have q2 := A2.cell (j := 2) rfl; have q3 := A2.cell (j := 3) rfl)
      go_ret
      exact ⟨rfl, hb02⟩
    · have hvv := vv4 m0 m1 m2 m3 (by omega)
      have HV : Hid (∀ i, vv [x0, x1, x2, x3] i ≤ 1073741824) := hvv
      clear hvv m0 m1 m2 m3
      go_enter Tryd.func3, Tryd.ntmps3
      go_wp2_with (first
        | (go_at_call 6; go_must (refine hbg.mono ?_); rintro e w2 ⟨rfl, hb2⟩; obtain ⟨hb02, A2⟩ := ARM w2 hb2; have hz2 := hb02.size; have q0 := A2.cell (j := 0) rfl; have q1 := A2.cell (j := 1) rfl; have q2 := A2.cell (j := 2) rfl; have q3 := A2.cell (j := 3) rfl; clear hbg)
        | (go_at_call 7; go_must (refine (made_any a n cap w2).mono ?_); rintro e w3 ⟨rfl, hb3, G3, hs3⟩; have hb03 := hb02.trans (hb3.mono hb02.size); have L3 := level_any w2.heap.size a n cap bs 4 (by omega) (by omega) n 0 (by omega) (by omega) w3 w.heap.size G3 (hb.below hb03 (Nat.le_refl _)) (by omega)))
      have A3 := A2.below hb3 A2.lt
      have hA2 := A2.lt
      clear q0 q1 q2 q3 A2 A1 hmax hm
      refine L3.mono ?_
      rintro e w4 ⟨la, va, at4, rfl, m4⟩
      obtain ⟨k4, n4, a4, j4, c4, rfl⟩ := m4.is.shape
      have hz4 := m4.keep.size
      obtain ⟨w5, hw5, hb5, X5, hs5⟩ := one_new w4 [.int .i64 k4, .int .i64 n4, .slice a4 j4 c4] 29
      have hs5' := X5.lt
      clear hs5
      have hb04 := hb03.trans (m4.keep.below (B := w.heap.size) (by omega) (by omega))
      have hb05 := hb04.trans (hb5.mono hb04.size)
      have A5 := (A3.keep m4.keep (by omega)).below hb5 (by omega)
      have L5 := level_any w2.heap.size a n cap bs 4 (by omega) (by omega) n at4 m4.upto (by omega) w5 w.heap.size (m4.picks.below hb5 (by omega)) (hb.below hb05 (Nat.le_refl _)) (by omega)
      clear L3
      go_wp2_with fail
      refine L5.mono ?_
      rintro e w6 ⟨lb, vb, at6, rfl, m6⟩
      obtain ⟨k6, n6, a6, j6, c6, rfl⟩ := m6.is.shape
      have hz6 := m6.keep.size
      obtain ⟨w7, hw7, hb7, X7, hs7⟩ := one_new w6 [.int .i64 k6, .int .i64 n6, .slice a6 j6 c6] 29
      have hs7' := X7.lt
      clear hs7
      have hb06 := hb05.trans (m6.keep.below (B := w.heap.size) (by omega) (by omega))
      have hb07 := hb06.trans (hb7.mono hb06.size)
      clear L5
      have Ha : Has w7 w4.heap.size la k4 n4 a4 j4 c4 := ⟨In.carry (fun b hb => ((hb7.block b (by omega))).trans ((m6.keep.block b (show b < w5.heap.size by omega) (by omega)).trans (hb5.block b hb.2))) (fun b hb => by omega) _ _ m4.is, ((X5.keep m6.keep (by omega)).below hb7 (by omega))⟩
      have Hb : Has w7 w6.heap.size lb k6 n6 a6 j6 c6 := ⟨In.carry (fun b hb => hb7.block b hb.2) (fun b hb => by omega) _ _ m6.is, X7⟩
      have A7 := (A5.keep m6.keep (by omega)).below hb7 (by omega)
      have G7 := m6.picks.below hb7 (by omega)
      have u6 := m6.upto
      have lowa := m4.low
      have lowb := m6.low
      have hg7 : w2.heap.size < w7.heap.size := by omega
      have hpa : w2.heap.size ≠ w4.heap.size := by omega
      have hpb : w2.heap.size ≠ w6.heap.size := by omega
      have hpA : w.heap.size ≠ w2.heap.size := by omega
      have HaB : In w7 (fun b => b < w7.heap.size ∧ b ≠ w2.heap.size) la.lv (.agg #[.int .i64 k4, .int .i64 n4, .slice a4 j4 c4]) := In.carry (fun b hb => ((hb7.block b (by omega))).trans ((m6.keep.block b (show b < w5.heap.size by omega) (by omega)).trans (hb5.block b hb.2))) (fun b hb => by omega) _ _ m4.is
      have HbB : In w7 (fun b => b < w7.heap.size ∧ b ≠ w2.heap.size) lb.lv (.agg #[.int .i64 k6, .int .i64 n6, .slice a6 j6 c6]) := In.carry (fun b hb => hb7.block b hb.2) (fun b hb => by omega) _ _ m6.is
      have K0 : KI w7 w2.heap.size a n cap [x0, x1, x2, x3] w7 [] [] at6 none 0 none 0 := ⟨Keep.refl _ _, G7, u6, BY.start _ _, VS.start _ _, rfl, (fun i l h => by simp at h), (fun l h => by cases h), (fun l h => by cases h)⟩
      have XA := Ha.at_
      have XB := Hb.at_
      clear m4 m6 X5 X7 hb3 hb5 hb7 G3 hw5 hb02 hb03 hb04 hb05 hb06 A3 A5 G7 u6 hb2 Ha Hb hz4 hz6
      have T7 := hT.on hb07
      have hlt7 : 2 ≤ w7.heap.size := by have := hb07.size; omega
      have hz07 := hb07.size
      -- what stays through the loop
      have stay : ∀ wr, Keep w7 wr (· = w2.heap.size) → Below w.heap.size w wr ∧ Tabs wr ∧ Blk wr w.heap.size 23 [.int .i64 x0, .int .i64 x1, .int .i64 x2, .int .i64 x3] ∧ Has wr w4.heap.size la k4 n4 a4 j4 c4 ∧ Has wr w6.heap.size lb k6 n6 a6 j6 c6 ∧ w7.heap.size ≤ wr.heap.size := fun wr hk => by
        have hz := hk.size
        have hB : Below w.heap.size w wr := hb07.trans (hk.below (B := w.heap.size) (by omega) (by omega))
        exact ⟨hB, hT.on hB, A7.keep hk hpA, ⟨In.carry (fun b hb => hk.block b hb.1 hb.2) (fun b hb => by omega) _ _ HaB, XA.keep hk (fun e => hpa e.symm)⟩, ⟨In.carry (fun b hb => hk.block b hb.1 hb.2) (fun b hb => by omega) _ _ HbB, XB.keep hk (fun e => hpb e.symm)⟩, hz⟩
      clear HaB HbB XA XB A7 T7
      obtain ⟨i29, hi29, hz29, hs29, hy29⟩ := info24'
      obtain ⟨i3, hi3, hz3, hs3', hy3⟩ := info3'
      go_wp2_with fail
      go_loopw [8, 9, 10] (fun s8 s9 s10 wr => ∃ (ls : List Lev) (vs : List Int) (at_ : Nat) (ao : Option Addr) (capo : Nat) (vo : Option Addr) (vcap : Nat), s10 = .int .i64 (ls.length : Int) ∧ s8 = .slice ao ls.length capo ∧ s9 = .slice vo vs.length vcap ∧ ls.length ≤ 4 ∧ KI w7 w2.heap.size a n cap [x0, x1, x2, x3] wr ls vs at_ ao capo vo vcap) (fun _ _ i _ => 4 - (intOf i).toNat)
      case atStart => exact ⟨[], [], at6, none, 0, none, 0, rfl, rfl, rfl, by simp, K0⟩
      case round =>
        clear K0
        obtain ⟨ls, vs, at_, ao, capo, vo, vcap, rfl, rfl, rfl, hj4, hK⟩ := hrel
        obtain ⟨hb0r, Tr, Ar, Har, Hbr, hz7r⟩ := stay wr hK.keep
        by_cases hlt4 : ls.length < 4
        · have L := level_any w2.heap.size a n cap bs 4 (by omega) (by omega) n at_ hK.upto (by omega) wr w.heap.size hK.picks (hb.below hb0r (Nat.le_refl _)) (by omega)
          go_wp2_with fail
          refine L.mono ?_
          rintro e u1 ⟨l, vl, at', rfl, ml⟩
          obtain ⟨kl, nl, al, jl, cl, rfl⟩ := ml.is.shape
          obtain ⟨u2, hu2, d2, Y2, -⟩ := one_new u1 [.int .i64 kl, .int .i64 nl, .slice al jl cl] 29
          obtain ⟨xs, hxs, hxi⟩ := hK.by_.row
          have zu1 := ml.keep.size
          have zu2 := d2.size
          have hxs2 : u2.ownsRow w7.heap.size 29 3 (.slice ao ls.length capo) ls.length xs := owns_carry hxs (fun b e => (d2.block b (by have := (owns_block hxs e).2.1; omega)).trans (ml.keep.block b (owns_block hxs e).2.1 (by have := (owns_block hxs e).1; omega)))
          have hcapo := hK.by_.cap
          have hmaxo := hK.by_.max
          clear L
          go_wp2_with (refine wpList_append_two (by rfl) (.tmp 40) (.tmp 43) 27 (by rfl) w7.heap.size 29 i29 _ 3 40 Tryd.underlying27 hi29 hz29 hs29 hy29 (by rfl) (by decide) (.slice ao ls.length capo) ls.length xs (by rfl) hxs2 ⟨u1.heap.size, 0, none⟩ 1 1 [.int .i64 kl, .int .i64 nl, .slice al jl cl] (by rfl) (by rfl) (fun i u hu => by rw [Addr.add_lit, Nat.zero_add]; exact Y2.cell hu) (by simp [Value.oneCell']) (by unfold maxLen; omega) (by omega) (by omega) (by decide) ?_; intro v3 u3 o3 g3 nb3; obtain ⟨gb, capb, rfl, hgb1, hgb2, hgb3, hgb4⟩ := owns_shape o3 (by omega))
          have BY3 : BY w7.heap.size u3 (ls ++ [l]) (some ⟨gb, 0, none⟩) capb (Value.slice vo vs.length vcap).ownBlock := BY.step hz7r hg7 ml.keep ml.is d2 (fun b e => (owns_block hK.nums.row e).2.1) hxs hxi o3 g3 nb3 ⟨hgb3, hgb4⟩
          have hk3 : Keep wr u3 (fun b => b = w2.heap.size ∨ (Value.slice ao ls.length capo).ownBlock = some b) := ⟨g3.os.trans (d2.os.trans ml.keep.os), g3.tape.trans (d2.tape.trans ml.keep.tape), g3.output.trans (d2.output.trans ml.keep.output), by have := g3.size; omega, fun b hb hn => ((g3.block b (by omega) (fun e => hn (.inr e.symm))).trans (d2.block b (by omega))).trans (ml.keep.block b hb (fun e => hn (.inl e)))⟩
          have G3' : Blk u3 w2.heap.size 44 [.slice a n cap, .int .i64 (at' : Int)] := ml.picks.carry ((g3.block _ (by have := ml.picks.lt; omega) (fun e => by have := (owns_block hxs e.symm).1; omega)).trans (d2.block _ ml.picks.lt))
          have hb03 : Below w.heap.size w u3 := hb0r.trans (hk3.below (B := w.heap.size) hb0r.size (fun b hb => by
            rcases hb with rfl | hb
            · omega
            · have := (owns_block hxs hb).1; omega))
          have A3 : Blk u3 w.heap.size 23 [.int .i64 x0, .int .i64 x1, .int .i64 x2, .int .i64 x3] := Ar.keep hk3 (fun hb => by
            rcases hb with hb | hb
            · exact hpA hb
            · have := (owns_block hxs hb).1; omega)
          have ulow := ml.low
          have uup := ml.upto
          have L3 := light_any ((ls ++ [l]).map Lev.lv) (some ⟨gb, 0, none⟩) capb u3 u3.heap.size (Nat.le_refl _) BY3.node
          rw [show ((ls ++ [l]).map Lev.lv).length = ls.length + 1 by simp] at L3
          clear ml d2 Y2 hu2 hxs2 hxi zu1 zu2
          cases hmay : (((ls ++ [l]).map Lev.lv).all fun L => mayB L 4) with
          | false =>
            rw [hmay] at L3
            refine L3.mono ?_
            rintro e u4 ⟨rfl, d4⟩
            go_wp2_with fail
            go_ret
            exact ⟨rfl, hb03.trans (d4.mono hb03.size)⟩
          | true =>
            rw [hmay] at L3
            have hml : mayB l.lv 4 = true := by rw [List.all_eq_true] at hmay; exact hmay _ (List.mem_map.2 ⟨l, by simp, rfl⟩)
            obtain ⟨fl, _⟩ := fine_lev l hml
            clear hmay
            refine L3.mono ?_
            rintro e u4 ⟨rfl, d4⟩
            clear L3
            have hb04 := hb03.trans (d4.mono hb03.size)
            have A4 := A3.below d4 A3.lt
            have BY4 := BY3.below d4
            have T4 := hT.on hb04
            have hz34 := d4.size
            have hz3r := hk3.size
            -- the level that was just appended
            have hx3 : xs.length = ls.length * 3 := hxs.1
            have e0 : (xs ++ [.int .i64 kl, .int .i64 nl, .slice al jl cl])[ls.length * 3]? = some (.int .i64 kl) := by rw [List.getElem?_append_right (by omega), show ls.length * 3 - xs.length = 0 by omega]; rfl
            have e1 : (xs ++ [.int .i64 kl, .int .i64 nl, .slice al jl cl])[ls.length * 3 + 1]? = some (.int .i64 nl) := by rw [List.getElem?_append_right (by omega), show ls.length * 3 + 1 - xs.length = 1 by omega]; rfl
            have e2 : (xs ++ [.int .i64 kl, .int .i64 nl, .slice al jl cl])[ls.length * 3 + 2]? = some (.slice al jl cl) := by rw [List.getElem?_append_right (by omega), show ls.length * 3 + 2 - xs.length = 2 by omega]; rfl
            have cc : ∀ {i c}, (xs ++ [.int .i64 kl, .int .i64 nl, .slice al jl cl])[i]? = some c → u4.cell? ⟨gb, i, none⟩ = some c := fun {i c} hi => by
              obtain ⟨g', e, _, h3, _, _, h5⟩ := owns_cell o3 hi
              obtain rfl : gb = g' := by simpa using e
              exact (bcell' d4 _ _ h3).trans h5
            have c0 := cc e0
            have c1 := cc e1
            have c2 := cc e2
            clear e0 e1 e2 cc
            obtain ⟨yb, yo, ky, ny, argsy, ay, capy, hya, hyS, hyl, f0, f1, f2, hNy⟩ := BY4.node.get (i := ls.length) (L := l.lv) (by rw [List.getElem?_map, List.getElem?_append_right (Nat.le_refl _), Nat.sub_self]; rfl)
            have hin4 : In u4 (· < u4.heap.size) l.lv (.agg #[.int .i64 kl, .int .i64 nl, .slice al jl cl]) := by
              simp only [Option.some.injEq, Addr.mk.injEq, and_true] at hya
              obtain ⟨rfl, rfl⟩ := hya
              rw [Nat.zero_add] at f0 f1 f2
              rw [c0] at f0
              rw [c1] at f1
              rw [c2] at f2
              simp only [Option.some.injEq] at f0 f1 f2
              rw [f0, f1, f2, hyl]
              exact hNy.is
            clear hya hyS hyl f0 f1 f2 hNy
            have I4 := arr_ints A4 (B := u4.heap.size) A4.lt
            have hcall := eval_any l fl (some ⟨w.heap.size, 0, none⟩) 4 4 [x0, x1, x2, x3] u4.drew u4.heap.size _ (by omega) (show u4.heap.size ≤ u4.heap.size from Nat.le_refl _) (T4.on (Below.refl _ _).drew) (In.carry (w := u4) (w' := u4.drew) (fun _ _ => rfl) (fun _ h => h) _ _ hin4) (I4.below (Below.refl u4.heap.size u4).drew (Nat.le_refl _))
            obtain ⟨z, hz⟩ : ∃ z : Int, ((l.val (vv [x0, x1, x2, x3]) : Nat) : Int) = z := ⟨_, rfl⟩
            rw [hz] at hcall
            have HZ : Hid (((l.val (vv [x0, x1, x2, x3]) : Nat) : Int) = z) := hz
            clear hz I4 hin4 T4
            have hvs4 : VS w7.heap.size u4 vs vo vcap := (hK.nums.carry (fun b e => hk3.block b (owns_block hK.nums.row e).2.1 (fun hb => by
              rcases hb with hb | hb
              · have := (owns_block hK.nums.row e).1; omega
              · exact apart_rows (by decide) hxs hK.nums.row b hb e))).below d4
            have hvl := hK.len
            have HVL : Hid (vs.length = ls.length) := hvl
            have hv4 : vs.length ≤ 4 := by omega
            clear hvl
            have hvc := hvs4.cap
            have i1 : (ls.length : Int) < (ls.length : Int) + 1 := by omega
            go_upto_region 16 with fail
            go_region_law (first
              | (refine step_call (by rfl) 10 enter10 (.tmp 52) (.tmp 53) #[29, 31] (by rfl) _ _ (by rfl) (by rfl) (hcall.mono ?_); rintro e u5 ⟨rfl, d5⟩; refine ⟨_, rfl, ?_⟩; obtain ⟨u6, hu6, d6, Y6, -⟩ := one_new u5 [.int .i64 z] 3; have hz5 : u4.heap.size ≤ u5.heap.size := d5.size; have hz6 := d6.size; have hvs6 := (VS.below (w := u4.drew) ⟨owns_carry hvs4.row (fun _ _ => rfl), hvs4.cap, hvs4.max⟩ d5).below d6)
              | (refine step_append_own (by rfl) (.tmp 48) (.tmp 55) 31 (by rfl) w7.heap.size 3 i3 _ 1 8 Tryd.underlying31 hi3 hz3 hs3' hy3 (by rfl) (by decide) (.slice vo vs.length vcap) vs.length (vs.map (fun z => .int .i64 z)) (by rfl) hvs6.row ⟨u5.heap.size, 0, none⟩ 1 1 [.int .i64 z] (by rfl) (by rfl) (fun i u hu => by rw [Addr.add_lit, Nat.zero_add]; exact Y6.cell hu) (by simp [Value.oneCell']) (by unfold maxLen; omega) (by omega) (by omega) (by decide) ?_; intro v7 u7 o7 g7 nb7; obtain ⟨gv, capv, rfl, hgv1, hgv2, hgv3, hgv4⟩ := owns_shape o7 (by omega)))
            all_goals
              go_wp2_with fail
              go_roundw
              case rel =>
                rw [← HZ.out] at o7
                have KS := hK.step hg7 hk3 G3' uup ulow BY3 d4 hml (Below.trans (Below.refl _ _).drew d5) d6 o7 g7 nb7 ⟨hgv3, hgv4⟩
                exact ⟨ls ++ [l], vs ++ [((l.val (vv [x0, x1, x2, x3]) : Nat) : Int)], at', _, _, _, _, by rw [show (ls ++ [l]).length = ls.length + 1 by simp]; go_num, by rw [show (ls ++ [l]).length = ls.length + 1 by simp], by rw [show (vs ++ [((l.val (vv [x0, x1, x2, x3]) : Nat) : Int)]).length = vs.length + 1 by simp], by rw [show (ls ++ [l]).length = ls.length + 1 by simp]; omega, KS⟩
              case measure => simp [intOf]; omega
        · have h4 : ls.length = 4 := by omega
          have H4 : Hid (ls.length = 4 ∧ vs.length = ls.length) := ⟨h4, hK.len⟩
          have hlow : ∀ l ∈ ls, l.low 4 := hK.low
          have hsz : ∀ l ∈ ls, l.size ≤ 64 := fun l hl => (fine_lev l (hK.may l hl)).2
          have hval := hK.val
          have BYr := hK.by_
          have VSr := hK.nums
          have hvcap := VSr.cap
          have hvmax := VSr.max
          have hcapo := BYr.cap
          have hmaxo := BYr.max
          clear hK h4 stay
          have x0' := Har.at_.cell (j := 0) rfl
          have x1' := Har.at_.cell (j := 1) rfl
          have x2' := Har.at_.cell (j := 2) rfl
          have y0 := Hbr.at_.cell (j := 0) rfl
          have y1 := Hbr.at_.cell (j := 1) rfl
          have y2 := Hbr.at_.cell (j := 2) rfl
          obtain ⟨v8, hv8, d8, X8, -⟩ := one_new wr [.int .i64 k4, .int .i64 n4, .slice a4 j4 c4, .int .i64 k6, .int .i64 n6, .slice a6 j6 c6] 29
          have L8 := light_any [la.lv, lb.lv] _ 2 v8 v8.heap.size (Nat.le_refl _) (node_two Har.is Hbr.is d8 X8)
          rw [show ([la.lv, lb.lv].all fun L => mayB L 4) = (mayB la.lv 4 && mayB lb.lv 4) by simp] at L8
          cases hmay : (mayB la.lv 4 && mayB lb.lv 4) with
          | false =>
            rw [hmay] at L8
            go_wp2_with (go_at_call 9; go_must (refine L8.mono ?_); rintro e v9 ⟨rfl, d9⟩)
            go_ret
            exact ⟨rfl, hb0r.trans ((d8.trans (d9.mono d8.size)).mono hb0r.size)⟩
          | true =>
            rw [hmay] at L8
            simp only [Bool.and_eq_true] at hmay
            obtain ⟨fa, za⟩ := fine_lev la hmay.1
            obtain ⟨fb, zb⟩ := fine_lev lb hmay.2
            clear hmay
            go_upto_region 19 with (go_at_call 9; go_must (refine L8.mono ?_); rintro e v9 ⟨rfl, d9⟩)
            have d89 : Below wr.heap.size wr v9 := d8.trans (d9.mono d8.size)
            have b09 : Below w.heap.size w v9 := hb0r.trans (d89.mono hb0r.size)
            have Ha := Har.on d89
            have Hb := Hbr.on d89
            have BYv := (BYr.below d89).node
            have VSv := (VSr.below d89).ints
            have Av := Ar.below d89 Ar.lt
            have Tv := hT.on b09
            have hltv : 2 ≤ v9.heap.size := by have := b09.size; omega
            clear x0' x1' x2' y0 y1 y2 L8 X8 hv8 d8 d9 Har Hbr BYr VSr Ar Tr
            have psa : (la.put ls).size ≤ 65536 := by have := Lev.put_size ls hsz la; omega
            have psb : (lb.put ls).size ≤ 65536 := by have := Lev.put_size ls hsz lb; omega
            have cPa : ∀ cur zs ls', St v9 cur zs ls' → Calls Tryd.prog 11 #[.agg #[.int .i64 k4, .int .i64 n4, .slice a4 j4 c4], .slice ao ls.length capo] cur fun e w' => ∃ k n a j c, e = .returned (.agg #[.int .i64 k, .int .i64 n, .slice a j c]) ∧ St v9 w' zs ((la.put ls, .agg #[.int .i64 k, .int .i64 n, .slice a j c]) :: ls') := fun cur zs ls' h =>
              (Put_any la ls cur v9.heap.size _ ao capo h.bel.size psa (Ha.is.below h.bel (Nat.le_refl _)) (BYv.below h.bel (Nat.le_refl _))).mono fun e w' ⟨v, he, hi, hb⟩ => by
                obtain ⟨k, n, a, j, c, rfl⟩ := hi.shape
                exact ⟨k, n, a, j, c, he, h.made hb hi.fresh⟩
            have cPb : ∀ cur zs ls', St v9 cur zs ls' → Calls Tryd.prog 11 #[.agg #[.int .i64 k6, .int .i64 n6, .slice a6 j6 c6], .slice ao ls.length capo] cur fun e w' => ∃ k n a j c, e = .returned (.agg #[.int .i64 k, .int .i64 n, .slice a j c]) ∧ St v9 w' zs ((lb.put ls, .agg #[.int .i64 k, .int .i64 n, .slice a j c]) :: ls') := fun cur zs ls' h =>
              (Put_any lb ls cur v9.heap.size _ ao capo h.bel.size psb (Hb.is.below h.bel (Nat.le_refl _)) (BYv.below h.bel (Nat.le_refl _))).mono fun e w' ⟨v, he, hi, hb⟩ => by
                obtain ⟨k, n, a, j, c, rfl⟩ := hi.shape
                exact ⟨k, n, a, j, c, he, h.made hb hi.fresh⟩
            have hkeep : ∀ w', Below v9.heap.size v9 w' → w'.cell? ⟨w4.heap.size, 0, none⟩ = some (.int .i64 k4) ∧ w'.cell? ⟨w4.heap.size, 1, none⟩ = some (.int .i64 n4) ∧ w'.cell? ⟨w4.heap.size, 2, none⟩ = some (.slice a4 j4 c4) ∧ w'.cell? ⟨w6.heap.size, 0, none⟩ = some (.int .i64 k6) ∧ w'.cell? ⟨w6.heap.size, 1, none⟩ = some (.int .i64 n6) ∧ w'.cell? ⟨w6.heap.size, 2, none⟩ = some (.slice a6 j6 c6) := fun w' h =>
              ⟨(Ha.on h).at_.cell (j := 0) rfl, (Ha.on h).at_.cell (j := 1) rfl, (Ha.on h).at_.cell (j := 2) rfl, (Hb.on h).at_.cell (j := 0) rfl, (Hb.on h).at_.cell (j := 1) rfl, (Hb.on h).at_.cell (j := 2) rfl⟩
            have st0 := (St.start v9).drew
            go_cut [11, 12] from 13 (fun s11 s12 wc => ∃ p q kx nx ax jx cx ky ny ay jy cy, s11 = .pointer (some ⟨p, 0, none⟩) ∧ s12 = .pointer (some ⟨q, 0, none⟩) ∧ Below v9.heap.size v9 wc ∧ Has wc p (la.put ls) kx nx ax jx cx ∧ Has wc q (lb.put ls) ky ny ay jy cy)
            case first =>
              obtain ⟨z1, hz1', dz1, Xz1, -⟩ := one_new v9.drew Z3 29
              have stz1 : St v9 z1 [v9.heap.size] [] := st0.room dz1 Xz1
              obtain ⟨z2, hz2', dz2, Xz2, -⟩ := one_new z1 Z3 29
              have stz2 : St v9 z2 [z1.heap.size, v9.heap.size] [] := stz1.room dz2 Xz2
              clear hi29 hz29 hs29 hy29 hi3 hz3 hs3' hy3 hval Av Tv
              go_region_held3 (fun w' => w'.cell? ⟨w4.heap.size, 0, none⟩ = some (.int .i64 k4) ∧ w'.cell? ⟨w4.heap.size, 1, none⟩ = some (.int .i64 n4) ∧ w'.cell? ⟨w4.heap.size, 2, none⟩ = some (.slice a4 j4 c4) ∧ w'.cell? ⟨w6.heap.size, 0, none⟩ = some (.int .i64 k6) ∧ w'.cell? ⟨w6.heap.size, 1, none⟩ = some (.int .i64 n6) ∧ w'.cell? ⟨w6.heap.size, 2, none⟩ = some (.slice a6 j6 c6)) (first | with_reducible exact hkeep _ st0.bel | with_reducible exact hkeep _ stz1.bel | with_reducible exact hkeep _ stz2.bel | with_reducible exact hkeep _ stM.bel | with_reducible exact hkeep _ sty1.bel | with_reducible exact hkeep _ sty2.bel | with_reducible exact hkeep _ stI.bel | with_reducible exact hkeep _ stx1.bel | with_reducible exact hkeep _ stx2.bel | with_reducible exact hkeep _ (keep_below stI (by simp) _ _ _) | with_reducible exact hkeep _ (keep_below stx1 (by simp) _ _ _) | with_reducible exact hkeep _ (keep_below stx2 (by simp) _ _ _) | with_reducible exact hkeep _ (keep_below2 stI (by simp) (by simp) _ _ _ _ _ _) | with_reducible exact hkeep _ (keep_below2 stx1 (by simp) (by simp) _ _ _ _ _ _) | with_reducible exact hkeep _ (keep_below2 stx2 (by simp) (by simp) _ _ _ _ _ _))
                (first
                | (go_at_call 11; refine (cPa _ _ _ (by with_reducible first | exact st0 | exact stz1 | exact stz2)).mono ?_; rintro e wM ⟨kM, nM, aM, jM, cM, rfl, stM⟩; obtain ⟨y1, hy1, dy1, Xy1, -⟩ := one_new wM Z3 29; have sty1 := stM.room dy1 Xy1; obtain ⟨y2, hy2, dy2, Xy2, -⟩ := one_new y1 Z3 29; have sty2 := sty1.room dy2 Xy2; clear cPa)
                | (go_at_call 11; refine (cPb _ _ _ (by with_reducible first | exact stM | exact sty1 | exact sty2)).mono ?_; rintro e wI ⟨kI, nI, aI, jI, cI, rfl, stI⟩; obtain ⟨x1, hx1, dx1, Xx1, -⟩ := one_new wI Z3 29; have stx1 := stI.room dx1 Xx1; obtain ⟨x2, hx2, dx2, Xx2, -⟩ := one_new x1 Z3 29; have stx2 := stx1.room dx2 Xx2; (try obtain ⟨⟨f0, f1, f2, f3, f4, f5⟩, ⟨f6, f7, f8, f9, f10, f11⟩⟩ := stI.after (.int .i64 kM) (.int .i64 nM) (.slice aM jM cM)); (try obtain ⟨⟨i0, i1, i2, i3, i4, i5⟩, ⟨i6, i7, i8, i9, i10, i11⟩, i12, i13⟩ := stI.two); (try obtain ⟨⟨g0, g1, g2, g3, g4, g5⟩, ⟨g6, g7, g8, g9, g10, g11⟩⟩ := stx1.after (.int .i64 kM) (.int .i64 nM) (.slice aM jM cM)); (try obtain ⟨⟨r0, r1, r2, r3, r4, r5⟩, ⟨r6, r7, r8, r9, r10, r11⟩, r12, r13⟩ := stx1.two); (try obtain ⟨⟨h0, h1, h2, h3, h4, h5⟩, ⟨h6, h7, h8, h9, h10, h11⟩⟩ := stx2.after (.int .i64 kM) (.int .i64 nM) (.slice aM jM cM)); (try obtain ⟨⟨t0, t1, t2, t3, t4, t5⟩, ⟨t6, t7, t8, t9, t10, t11⟩, t12, t13⟩ := stx2.two)))
              all_goals
                go_wp2_with fail
                go_meet
                case rel =>
                  clear hkeep
                  with_reducible first
                  | exact ⟨_, _, _, _, _, _, _, _, _, _, _, _, rfl, rfl, stI.done (by simp) (by simp) (by assumption) (by simp) (by simp)⟩
                  | exact ⟨_, _, _, _, _, _, _, _, _, _, _, _, rfl, rfl, stx1.done (by simp) (by simp) (by assumption) (by simp) (by simp)⟩
                  | exact ⟨_, _, _, _, _, _, _, _, _, _, _, _, rfl, rfl, stx2.done (by simp) (by simp) (by assumption) (by simp) (by simp)⟩
            case rest =>
              revert wc
              intro t1 hcut
              obtain ⟨p, q, kx, nx, ax, jx, cx, ky, ny, ay, jy, cy, rfl, rfl, bt, Hx, Hy⟩ := hcut
              replace Ha := Ha.on bt
              replace Hb := Hb.on bt
              have b0t := b09.trans (bt.mono b09.size)
              clear hkeep cPa cPb st0
              have p0 := Hx.at_.cell (j := 0) rfl
              have p1 := Hx.at_.cell (j := 1) rfl
              have p2 := Hx.at_.cell (j := 2) rfl
              have q0 := Hy.at_.cell (j := 0) rfl
              have q1 := Hy.at_.cell (j := 1) rfl
              have q2 := Hy.at_.cell (j := 2) rfl
              obtain ⟨t2, ht2, dt2, Xt2, -⟩ := one_new t1 [.int .i64 kx, .int .i64 nx, .slice ax jx cx, .int .i64 ky, .int .i64 ny, .slice ay jy cy] 29
              have L2 := light_any [(la.put ls).lv, (lb.put ls).lv] _ 2 t2 t2.heap.size (Nat.le_refl _) (node_two Hx.is Hy.is dt2 Xt2)
              rw [show ([(la.put ls).lv, (lb.put ls).lv].all fun L => mayB L 4) = (mayB (la.put ls).lv 4 && mayB (lb.put ls).lv 4) by simp] at L2
              cases hmay : (mayB (la.put ls).lv 4 && mayB (lb.put ls).lv 4) with
              | false =>
                rw [hmay] at L2
                go_wp2_with (go_at_call 9; go_must (refine L2.mono ?_); rintro e t3 ⟨rfl, d3⟩)
                go_ret
                exact ⟨rfl, b0t.trans ((dt2.trans (d3.mono dt2.size)).mono b0t.size)⟩
              | true =>
                rw [hmay] at L2
                simp only [Bool.and_eq_true] at hmay
                have fx := (fine_lev _ hmay.1).1
                have fy := (fine_lev _ hmay.2).1
                clear hmay
                go_upto_region 22 with (go_at_call 9; go_must (refine L2.mono ?_); rintro e t3 ⟨rfl, d3⟩)
                have dt13 : Below t1.heap.size t1 t3 := dt2.trans (d3.mono dt2.size)
                have b03t := b0t.trans (dt13.mono b0t.size)
                replace Ha := Ha.on dt13
                replace Hb := Hb.on dt13
                replace Hx := Hx.on dt13
                replace Hy := Hy.on dt13
                have bt3 : Below v9.heap.size v9 t3 := bt.trans (dt13.mono bt.size)
                have hz93 := bt3.size
                have T3 := Tv.on bt3
                have I3 := arr_ints (Av.below bt3 Av.lt) (B := t3.heap.size) (by have := Av.lt; omega)
                have J3 := (VSv.below bt3 (Nat.le_refl _)).up hz93
                clear p0 p1 p2 q0 q1 q2 L2 Xt2 ht2 dt2 d3 dt13 bt b0t
                have hl4 : ∀ l : Lev, l.low 4 → l.low ls.length := fun l h => by rw [H4.out.1]; exact h
                have hord : evB leR la lb = true → evB leR (la.put ls) (lb.put ls) = true := k_order (hl4 _ lowa) (hl4 _ lowb) rfl rfl fb fy
                have hev : (la.put ls).val (vv [x0, x1, x2, x3]) = la.val (vv vs) := k_eval (hl4 _ lowa) rfl hval (fun l hl => by have := Lev.val_le l (vv [x0, x1, x2, x3]) 1073741824 HV.out; have := hsz l hl; omega)
                have cl1 : ∀ w', Below t3.heap.size t3 w' → Calls Tryd.prog 12 #[.agg #[.int .i64 k4, .int .i64 n4, .slice a4 j4 c4], .agg #[.int .i64 k6, .int .i64 n6, .slice a6 j6 c6]] w' fun e w'' => e = .returned (.bool (evB leR la lb)) ∧ Below w'.heap.size w' w'' := fun w' h => leq_any la lb fa fb w' t3.heap.size _ _ (by omega) h.size (T3.on h) (Ha.is.below h (Nat.le_refl _)) (Hb.is.below h (Nat.le_refl _))
                have cl2 : ∀ w', Below t3.heap.size t3 w' → Calls Tryd.prog 12 #[.agg #[.int .i64 kx, .int .i64 nx, .slice ax jx cx], .agg #[.int .i64 ky, .int .i64 ny, .slice ay jy cy]] w' fun e w'' => e = .returned (.bool (evB leR (la.put ls) (lb.put ls))) ∧ Below w'.heap.size w' w'' := fun w' h => leq_any _ _ fx fy w' t3.heap.size _ _ (by omega) h.size (T3.on h) (Hx.is.below h (Nat.le_refl _)) (Hy.is.below h (Nat.le_refl _))
                have cl3 : ∀ w', Below t3.heap.size t3 w' → Calls Tryd.prog 10 #[.agg #[.int .i64 kx, .int .i64 nx, .slice ax jx cx], .slice (some ⟨w.heap.size, 0, none⟩) 4 4] w' fun e w'' => e = .returned (.int .i64 ((la.val (vv vs) : Nat) : Int)) ∧ Below w'.heap.size w' w'' := fun w' h => by
                  have := eval_any _ fx (some ⟨w.heap.size, 0, none⟩) 4 4 [x0, x1, x2, x3] w' t3.heap.size _ (by omega) h.size (T3.on h) (Hx.is.below h (Nat.le_refl _)) (I3.below h (Nat.le_refl _))
                  rw [hev] at this
                  exact this
                have cl4 : ∀ w', Below t3.heap.size t3 w' → Calls Tryd.prog 10 #[.agg #[.int .i64 k4, .int .i64 n4, .slice a4 j4 c4], .slice vo vs.length vcap] w' fun e w'' => e = .returned (.int .i64 ((la.val (vv vs) : Nat) : Int)) ∧ Below w'.heap.size w' w'' := fun w' h =>
                  eval_any _ fa vo vs.length vcap vs w' t3.heap.size _ (by omega) h.size (T3.on h) (Ha.is.below h (Nat.le_refl _)) (J3.below h (Nat.le_refl _))
                obtain ⟨E, hE⟩ : ∃ E : Int, ((la.val (vv vs) : Nat) : Int) = E := ⟨_, rfl⟩
                obtain ⟨ab, hab⟩ : ∃ x, evB leR la lb = x := ⟨_, rfl⟩
                obtain ⟨xy, hxy⟩ : ∃ x, evB leR (la.put ls) (lb.put ls) = x := ⟨_, rfl⟩
                simp only [hE] at cl3 cl4
                simp only [hab] at cl1 hord
                simp only [hxy] at cl2 hord
                clear hE hab hxy hev fx fy fa fb T3 I3 J3 Tv Av VSv BYv hval hlow hsz
                have oa0 := over_cell (Ha.at_.cell (j := 0) rfl)
                have oa1 := over_cell (Ha.at_.cell (j := 1) rfl)
                have oa2 := over_cell (Ha.at_.cell (j := 2) rfl)
                have ob0 := over_cell (Hb.at_.cell (j := 0) rfl)
                have ob1 := over_cell (Hb.at_.cell (j := 1) rfl)
                have ob2 := over_cell (Hb.at_.cell (j := 2) rfl)
                have ox0 := over_cell (Hx.at_.cell (j := 0) rfl)
                have ox1 := over_cell (Hx.at_.cell (j := 1) rfl)
                have ox2 := over_cell (Hx.at_.cell (j := 2) rfl)
                have oy0 := over_cell (Hy.at_.cell (j := 0) rfl)
                have oy1 := over_cell (Hy.at_.cell (j := 1) rfl)
                have oy2 := over_cell (Hy.at_.cell (j := 2) rfl)
                have ob : ∀ u, Below t3.heap.size t3 (over t3 u) := fun u => over_below t3 u
                rcases (show ab = false ∨ (ab = true ∧ xy = true) by cases ab; exact .inl rfl; exact .inr ⟨rfl, hord rfl⟩) with rfl | ⟨rfl, rfl⟩
                all_goals
                  refine wp_region_over t3 (Below.refl _ _) (by kernel_rfl) (by kernel_rfl) ?_
                  repeat (go_big_quiet_step (first
                    | (go_at_call_of 12 k4; exact Calls.over (cl1 _ (ob _)))
                    | (go_at_call_of 12 kx; exact Calls.over (cl2 _ (ob _)))
                    | (go_at_call_of 10 kx; exact Calls.over (cl3 _ (ob _)))
                    | (go_at_call_of 10 k4; exact Calls.over (cl4 _ (ob _)))))
                  refine wpQuiet_nil ?_
                  rintro _ ⟨u, rfl⟩
                  go_wp2_with fail
                  go_ret
                  exact ⟨ret_bool (by simp), b03t.trans ((ob u).mono b03t.size)⟩
end Go.Proofs.YtogfmpjgmabomabDoor
