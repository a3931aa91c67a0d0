/- FrameSpoilt, the walk: behind bytes that cannot begin a frame nothing comes any more, and what came ahead did. -/
import Derived.Test.YtbbfjfmcmckdmaaGot
namespace Go.Proofs.Ytbbfjfmcmckdmaa
open Go.RowKit

/-- The j-th of the bytes that begin no frame, and its error. -/
structure BadIs (w : World) (gl ge : Nat) (j hb m : Nat) (bj : List UInt8) (er : Nat) : Prop where
  cell : w.cell? ⟨gl, j, none⟩ = some (.slice (some ⟨hb, 0, none⟩) m m)
  rd : Rd w (some ⟨hb, 0, none⟩) m m bj
  err : w.cell? ⟨ge, j, none⟩ = some (.int .i64 (er : Int))
  said : Go.Proofs.Ytbbfjfmcmckdmaa.rd bj = ([], bj, er)
  ok : er ≠ 0 ∧ er ≠ 2 ∧ er ≤ 5 ∧ m ≤ 10 ∧ 0 < m

theorem BadIs.below {w w' : World} {gl ge j hb m : Nat} {bj : List UInt8} {er B : Nat} (h : BadIs w gl ge j hb m bj er) (k : Below B w w') (hB : w.heap.size ≤ B) : BadIs w' gl ge j hb m bj er :=
  ⟨(World.cell?_of_block (a := ⟨gl, j, none⟩) (k.block gl (Nat.lt_of_lt_of_le (World.block_lt_of_cell? w _ h.cell) hB))).trans h.cell, h.rd.below k hB, (World.cell?_of_block (a := ⟨ge, j, none⟩) (k.block ge (Nat.lt_of_lt_of_le (World.block_lt_of_cell? w _ h.err) hB))).trans h.err, h.said, h.ok⟩

def badW (w0 : World) : World := ((((w0.alloc (.cells #[.int .u8 128, .int .u8 0] 5)).alloc (.cells #[.int .u8 255, .int .u8 255, .int .u8 255, .int .u8 255, .int .u8 255, .int .u8 255, .int .u8 255, .int .u8 255, .int .u8 255, .int .u8 2] 5)).alloc (.cells #[.int .u8 129, .int .u8 128, .int .u8 4] 5)).alloc
  (.cells #[.slice (some ⟨w0.heap.size, 0, none⟩) 2 2, .slice (some ⟨w0.heap.size + 1, 0, none⟩) 10 10, .slice (some ⟨w0.heap.size + 1 + 1, 0, none⟩) 3 3] 28)).alloc (.cells #[.int .i64 5, .int .i64 4, .int .i64 3] 29)

theorem badW_size (w0 : World) : (badW w0).heap.size = w0.heap.size + 1 + 1 + 1 + 1 + 1 := by simp [badW]
theorem badW_below (w0 : World) : Below w0.heap.size w0 (badW w0) :=
  (((((Below.refl _ _).alloc (Nat.le_refl _) _).alloc (by simp) _).alloc (by simp; omega) _).alloc (by simp; omega) _).alloc (by simp; omega) _

theorem bad_facts (w0 : World) (j : Nat) (hj : j < 3) : ∃ hb m bj er, BadIs (badW w0) (w0.heap.size + 1 + 1 + 1) (w0.heap.size + 1 + 1 + 1 + 1) j hb m bj er := by
  have r0 : Rd (badW w0) (some ⟨w0.heap.size, 0, none⟩) 2 2 [128, 0] := ((((rd_built 5 w0 [128, 0] (by decide)).alloc _).alloc _).alloc _).alloc _
  have r1 : Rd (badW w0) (some ⟨w0.heap.size + 1, 0, none⟩) 10 10 [255, 255, 255, 255, 255, 255, 255, 255, 255, 2] := by
    have := (((rd_built 5 (w0.alloc (.cells #[.int .u8 128, .int .u8 0] 5)) [255, 255, 255, 255, 255, 255, 255, 255, 255, 2] (by decide)).alloc (.cells #[.int .u8 129, .int .u8 128, .int .u8 4] 5)).alloc
      (.cells #[.slice (some ⟨w0.heap.size, 0, none⟩) 2 2, .slice (some ⟨w0.heap.size + 1, 0, none⟩) 10 10, .slice (some ⟨w0.heap.size + 1 + 1, 0, none⟩) 3 3] 28)).alloc (.cells #[.int .i64 5, .int .i64 4, .int .i64 3] 29)
    rw [show (w0.alloc (.cells #[.int .u8 128, .int .u8 0] 5)).heap.size = w0.heap.size + 1 by simp] at this
    exact this
  have r2 : Rd (badW w0) (some ⟨w0.heap.size + 1 + 1, 0, none⟩) 3 3 [129, 128, 4] := by
    have := ((rd_built 5 ((w0.alloc (.cells #[.int .u8 128, .int .u8 0] 5)).alloc (.cells #[.int .u8 255, .int .u8 255, .int .u8 255, .int .u8 255, .int .u8 255, .int .u8 255, .int .u8 255, .int .u8 255, .int .u8 255, .int .u8 2] 5)) [129, 128, 4] (by decide)).alloc
      (.cells #[.slice (some ⟨w0.heap.size, 0, none⟩) 2 2, .slice (some ⟨w0.heap.size + 1, 0, none⟩) 10 10, .slice (some ⟨w0.heap.size + 1 + 1, 0, none⟩) 3 3] 28)).alloc (.cells #[.int .i64 5, .int .i64 4, .int .i64 3] 29)
    rw [show ((w0.alloc (.cells #[.int .u8 128, .int .u8 0] 5)).alloc (.cells #[.int .u8 255, .int .u8 255, .int .u8 255, .int .u8 255, .int .u8 255, .int .u8 255, .int .u8 255, .int .u8 255, .int .u8 255, .int .u8 2] 5)).heap.size = w0.heap.size + 1 + 1 by simp] at this
    exact this
  have b3 : Blk (badW w0) (w0.heap.size + 1 + 1 + 1) 28 [.slice (some ⟨w0.heap.size, 0, none⟩) 2 2, .slice (some ⟨w0.heap.size + 1, 0, none⟩) 10 10, .slice (some ⟨w0.heap.size + 1 + 1, 0, none⟩) 3 3] := by
    have := (Blk.new (((w0.alloc (.cells #[.int .u8 128, .int .u8 0] 5)).alloc (.cells #[.int .u8 255, .int .u8 255, .int .u8 255, .int .u8 255, .int .u8 255, .int .u8 255, .int .u8 255, .int .u8 255, .int .u8 255, .int .u8 2] 5)).alloc (.cells #[.int .u8 129, .int .u8 128, .int .u8 4] 5)) 28 [.slice (some ⟨w0.heap.size, 0, none⟩) 2 2, .slice (some ⟨w0.heap.size + 1, 0, none⟩) 10 10, .slice (some ⟨w0.heap.size + 1 + 1, 0, none⟩) 3 3]).alloc (.cells #[.int .i64 5, .int .i64 4, .int .i64 3] 29)
    rw [show (((w0.alloc (.cells #[.int .u8 128, .int .u8 0] 5)).alloc (.cells #[.int .u8 255, .int .u8 255, .int .u8 255, .int .u8 255, .int .u8 255, .int .u8 255, .int .u8 255, .int .u8 255, .int .u8 255, .int .u8 2] 5)).alloc (.cells #[.int .u8 129, .int .u8 128, .int .u8 4] 5)).heap.size = w0.heap.size + 1 + 1 + 1 by simp] at this
    exact this
  have b4 : Blk (badW w0) (w0.heap.size + 1 + 1 + 1 + 1) 29 [.int .i64 5, .int .i64 4, .int .i64 3] := by
    have := Blk.new ((((w0.alloc (.cells #[.int .u8 128, .int .u8 0] 5)).alloc (.cells #[.int .u8 255, .int .u8 255, .int .u8 255, .int .u8 255, .int .u8 255, .int .u8 255, .int .u8 255, .int .u8 255, .int .u8 255, .int .u8 2] 5)).alloc (.cells #[.int .u8 129, .int .u8 128, .int .u8 4] 5)).alloc
      (.cells #[.slice (some ⟨w0.heap.size, 0, none⟩) 2 2, .slice (some ⟨w0.heap.size + 1, 0, none⟩) 10 10, .slice (some ⟨w0.heap.size + 1 + 1, 0, none⟩) 3 3] 28)) 29 [.int .i64 5, .int .i64 4, .int .i64 3]
    rw [show ((((w0.alloc (.cells #[.int .u8 128, .int .u8 0] 5)).alloc (.cells #[.int .u8 255, .int .u8 255, .int .u8 255, .int .u8 255, .int .u8 255, .int .u8 255, .int .u8 255, .int .u8 255, .int .u8 255, .int .u8 2] 5)).alloc (.cells #[.int .u8 129, .int .u8 128, .int .u8 4] 5)).alloc (.cells #[.slice (some ⟨w0.heap.size, 0, none⟩) 2 2, .slice (some ⟨w0.heap.size + 1, 0, none⟩) 10 10, .slice (some ⟨w0.heap.size + 1 + 1, 0, none⟩) 3 3] 28)).heap.size = w0.heap.size + 1 + 1 + 1 + 1 by simp] at this
    exact this
  have hs : j = 0 ∨ j = 1 ∨ j = 2 := by omega
  rcases hs with rfl | rfl | rfl
  · exact ⟨_, _, _, 5, b3.cell rfl, r0, b4.cell rfl, rd_stop (t := []) (n := 0) (by decide) (by decide), by decide⟩
  · exact ⟨_, _, _, 4, b3.cell rfl, r1, b4.cell rfl, rd_stop (t := []) (n := 0) (by decide) (by decide), by decide⟩
  · exact ⟨_, _, _, 3, b3.cell rfl, r2, b4.cell rfl, rd_stop (t := []) (n := 0) (by decide) (by decide), by decide⟩

set_option maxRecDepth 100000 in
set_option maxHeartbeats 2000000 in
theorem spoilt_walk (ta : Option Addr) (tn tc : Nat) (ts : List (List UInt8)) (z : Int) (ma : Option Addr) (mn mc : Nat) (ms : List (List UInt8)) (w : World) (hT : Parts w w.heap.size ta tn tc ts) (hM : Parts w w.heap.size ma mn mc ms) (hz0 : 0 ≤ z) (hz1 : z ≤ 255) :
    Calls Try.prog 5 #[.slice ta tn tc, .int .u8 z, .slice ma mn mc] w fun e w' => e = .returned (.bool true) ∧ Below w.heap.size w w' := by
  obtain ⟨i5, hi, hz0', hz1', hz2⟩ := info_parts Try.info5
  have htl := hT.le
  have htm := hT.max
  have hml := hM.le
  have hmm := hM.max
  unfold maxLen at htm hmm
  by_cases h10 : 10 < tn
  · go_enter Try.func5, Try.ntmps5
    go_wp2_with (go_at_call 8; refine (begun_any _).mono ?_; rintro e w0 ⟨rfl, hb0⟩)
    go_ret
    exact ⟨rfl, hb0⟩
  · go_enter Try.func5, Try.ntmps5
    go_wp2_with (go_at_call 8; refine (begun_any _).mono ?_; rintro e w0 ⟨rfl, hb0⟩)
    have hT0 := (hT.low hb0.block).mono hb0.size
    have hM0 := (hM.low hb0.block).mono hb0.size
    refine (lsum_any ta tn tc ts w0 hT0 (by omega) 2000 (by omega)).mono ?_
    rintro e w9 ⟨⟨y, rfl, hy, hys⟩, rfl⟩
    by_cases h2 : 2000 < y
    · go_wp2_with fail
      go_ret
      exact ⟨rfl, hb0⟩
    · by_cases hm10 : 10 < mn
      · go_wp2_with fail
        go_ret
        exact ⟨rfl, hb0⟩
      · go_wp2_with fail
        refine (lsum_any ma mn mc ms w0 hM0 (by omega) 2000 (by omega)).mono ?_
        rintro e w9 ⟨⟨x, rfl, hx, hxs⟩, rfl⟩
        by_cases h3 : 2000 < x
        · go_wp2_with fail
          go_ret
          exact ⟨rfl, hb0⟩
        · have hfl := hys (by omega)
          have hfm := hxs (by omega)
          have HSM : Hid (∀ l ∈ ts, l.length ≤ 65536) := fun l hl => by have := mem_flat ts l hl; omega
          obtain ⟨j, hj⟩ : ∃ j : Nat, z % 3 = (j : Int) := ⟨(z % 3).toNat, by omega⟩
          have hj3 : j < 3 := by omega
          obtain ⟨hb, m, bj, er, hbad⟩ := bad_facts w0 j hj3
          have hB5 : Below w.heap.size w (badW w0) := hb0.trans ((badW_below w0).mono hb0.size)
          have hw5 : badW w0 = badW w0 := rfl
          conv at hw5 => lhs; unfold badW
          have HW5 : Hid _ := hw5
          clear hw5 hT0 hM0
          go_wp2_with fail
          rw [HW5.out]
          clear HW5
          generalize w0.heap.size + 1 + 1 + 1 + 1 = ge at hbad ⊢
          generalize w0.heap.size + 1 + 1 + 1 = gl at hbad ⊢
          generalize badW w0 = w5 at hbad hB5 ⊢
          have hs5 := hB5.size
          go_loopw [9, 10] (fun s9 s10 wr => ∃ (k : Nat) (a : Option Addr) (L c : Nat), k ≤ tn ∧ s10 = .int .i64 (k : Int) ∧ s9 = .slice a L c ∧ Res 5 w5.heap.size wr a L c (enc (ts.take k)) ∧ Below w5.heap.size w5 wr) (fun _ s10 _ => tn - (intOf s10).toNat)
          case atStart => exact ⟨0, none, 0, 0, by omega, rfl, rfl, res_nil _ _, Below.refl _ _⟩
          case round =>
            obtain ⟨k, a, L, c, hk, rfl, rfl, hR, hB⟩ := hrel
            have hsz := hB.size
            have hBw : Below w.heap.size w wr := hB5.trans (hB.mono hs5)
            by_cases hlt : k < tn
            · obtain ⟨l, hl⟩ : ∃ l, ts[k]? = some l := ⟨_, List.getElem?_eq_getElem (by rw [hT.len]; exact hlt)⟩
              have hTr := hT.low hBw.block
              obtain ⟨b, off, v, rfl, hbg, hc, pa, pm, pc, rfl, hr, hlow⟩ := hTr.cell k l hl
              have HTK : Hid _ := enc_take ts k l hl
              have hpl := mem_flat ts l (List.mem_of_getElem? hl)
              rw [hr.len] at hpl
              have HPL : Hid _ := hr.len
              have hLl := enc_length (ts.take k) (fun x hx => HSM.out x (List.mem_of_mem_take hx))
              have hf1 := flat_le ts k
              rw [hR.1.len, List.length_take, hT.len] at hLl
              clear hl hTr hj
              go_wp2_with fail
              refine (frame_ok a L c _ pa pm pc l wr hR.1 hr (by omega) (by omega)).mono ?_
              rintro e w1 ⟨g, c1, rfl, ho, hb⟩
              go_wp2_with fail
              refine ⟨⟨k + 1, _, _, c1, by omega, by go_num, rfl, ?_, hB.trans (hb.mono hsz)⟩, by simp [intOf]; omega⟩
              rw [HTK.out, HPL.out]
              exact (ho.mono hsz).res
            · have hkn : k = tn := by omega
              subst hkn
              rw [List.take_of_length_le (by rw [hT.len]; omega)] at hR
              have hLl := enc_length ts HSM.out
              rw [hR.1.len, hT.len] at hLl
              go_wp2_with fail
              refine (new_any wr).mono ?_
              rintro e w2 ⟨g, rfl, hg, hF, hb2⟩
              have hBw2 : Below w.heap.size w w2 := hBw.trans (hb2.mono hBw.size)
              have hbad2 := (hbad.below hB (Nat.le_refl _)).below hb2 (Nat.le_refl _)
              have hR2 : Res 5 w5.heap.size w2 a L c (enc ts) := hR.carry (fun k _ hk => hb2.block k hk)
              have hs2 := hb2.size
              have hc2 := hbad2.cell
              obtain ⟨o1, o2, o3, o4, o5⟩ := hbad2.ok
              have HSD : Hid (rd ([] ++ (enc ts ++ bj)) = (ts, bj, er)) := by
                unfold Hid
                rw [List.nil_append, rd_enc ts HSM.out bj, hbad2.said]
                simp
              have hA2 : App 5 w5.heap.size w2 a L c (enc ts) := ⟨hR2.1, hR2.2.imp (fun ⟨_, h1, h2⟩ => by omega) id⟩
              have hjn : (j : Int) < 3 := by omega
              go_wp2_with (at_builtin; refine wpList_append_bytes (P := Try.prog) _ (by rfl) (.tmp 60) (.tmp 65) 28 28 (by rfl) 5 i5 Try.underlying28 hi hz0' hz1' hz2 w5.heap.size (by omega) (by rfl) hA2 bj (by rfl) (hbad2.rd.src _ Try.underlying28) (.inl o5) (by omega) ?_; intro g3 cap3 w3 ho3 hb3 hg3 hw3)
              have hgl3 := hF.lt
              have hF3 : FR w3 g none ([], 0) := hF.carry (hg3.block g hgl3 (fun e => by
                rcases hR.2 with ⟨rfl, _, _⟩ | ⟨b, rfl, ho⟩
                · simp [Value.ownBlock] at e
                · have := ho.lt
                  simp [Value.ownBlock] at e
                  omega)) (fun b hb => by cases hb)
              have hBw3 : Below w.heap.size w w3 := hBw2.trans (hb3.mono hs5)
              have hge : ge < w5.heap.size := World.block_lt_of_cell? w5 _ hbad.err
              have herr3 : w3.cell? ⟨ge, j, none⟩ = some (.int .i64 (er : Int)) := (World.cell?_of_block (a := ⟨ge, j, none⟩) (hb3.block ge hge)).trans hbad2.err
              refine (put_at (fs := ts) (er := er) (s' := ([], er)) hF3 ho3.rd (by simp only [List.length_nil]; omega) (put_bad HSD.out o2).1 (put_bad HSD.out o2).2.1 (put_bad HSD.out o2).2.2).mono ?_
              rintro e w4 ⟨la, lk, lc, rfl, us, q', hP⟩
              obtain rfl : lk = k := by rw [hP.num, hT.len]
              have herr4 : w4.cell? ⟨ge, j, none⟩ = some (.int .i64 (er : Int)) := (World.cell?_of_block (a := ⟨ge, j, none⟩) (hP.keep.block ge (by have := hb3.size; omega) (fun e => by rcases e with e | e; omega; cases e))).trans herr3
              have hBw4 : Below w.heap.size w w4 := below_keep hBw3 hP.keep hBw3.size (fun i e => by rcases e with e | e; omega; cases e)
              have hp1 := hP.parts
              have hp2 : Parts w4 w4.heap.size ta lk tc ts := (hT.low hBw4.block).mono hBw4.size
              have hF4 := hP.fr
              have hqn : ∀ b, q' = some b → w.heap.size ≤ b := fun b hb => by
                have h1 := hBw3.size
                rcases hP.new b hb with e | e
                · cases e
                · omega
              have hwg : w.heap.size ≤ g := by omega
              have hE0 : ((er : Int) == (er : Int)) = true := by simp
              clear hP hF3 ho3 hb3 hg3 hw3 herr3 hBw3 hA2 hR2 hR hbad2 hc2 HSD hF hb2 hBw2 hB hbad
              go_wp2_with fail
              refine (alike_any _ _ _ _ _ _ _ hp1 hp2 (by omega)).mono ?_
              rintro e w6 ⟨rfl, h6, hb6⟩
              have hr6 : FR w6 g q' ([], er) := hF4.carry (by rw [h6]) (fun _ _ _ => by rw [h6])
              have hb6' := hBw4.trans (hb6.mono hBw4.size)
              clear hp1 hp2 h6 hb6 hF4 hBw4
              go_wp2_with fail
              refine (waits_at hr6 (L := 0) rfl).mono ?_
              rintro e w9 ⟨rfl, rfl⟩
              clear herr4 hj
              go_wp2_with fail
              go_loopw [14] (fun s14 wr => ∃ (i : Nat) (q : Option Nat), i ≤ mn ∧ s14 = .int .i64 (i : Int) ∧ FR wr g q ([], er) ∧ (∀ b, q = some b → w.heap.size ≤ b) ∧ Below w.heap.size w wr) (fun s14 _ => mn - (intOf s14).toNat)
              case atStart => exact ⟨0, q', by omega, rfl, hr6, hqn, hb6'⟩
              case round =>
                clear hr6 hqn hb6'
                obtain ⟨i, q, hi2, rfl, hF, hqn, hB⟩ := hrel
                have hsz2 := hB.size
                by_cases hlt2 : i < mn
                · obtain ⟨l, hl⟩ : ∃ l, ms[i]? = some l := ⟨_, List.getElem?_eq_getElem (by rw [hM.len]; exact hlt2)⟩
                  obtain ⟨b, off, v, rfl, hbg, hc, pa, pm, pc, rfl, hr, hlow⟩ := (hM.low hB.block).cell i l hl
                  have hpl := mem_flat ms l (List.mem_of_getElem? hl)
                  rw [hr.len] at hpl
                  clear hl
                  go_wp2_with fail
                  refine (put_at (fs := []) (er := er) (s' := ([], er)) hF hr (by simp only [List.length_nil]; omega) (by unfold putF; rw [if_neg o1]) (by unfold putE; rw [if_neg o1]) (by unfold putS; rw [if_neg o1])).mono ?_
                  rintro e w7 ⟨la2, lk2, lc2, rfl, us2, q2, hP⟩
                  obtain rfl : lk2 = 0 := hP.num
                  have hB7 : Below w.heap.size w w7 := below_keep hB hP.keep hsz2 (fun i e => by rcases e with e | e; omega; exact hqn i e)
                  have hq7 : ∀ b, q2 = some b → w.heap.size ≤ b := fun b hb => by
                    rcases hP.new b hb with e | e
                    · exact hqn b e
                    · omega
                  have hF7 := hP.fr
                  clear hP
                  go_wp2_with fail
                  refine (waits_at hF7 (L := 0) rfl).mono ?_
                  rintro e w9 ⟨rfl, rfl⟩
                  go_wp2_with fail
                  exact ⟨⟨i + 1, q2, by omega, by go_num, hF7, hq7, hB7⟩, by simp [intOf]; omega⟩
                · go_wp2_with fail
                  go_ret
                  exact ⟨rfl, hB⟩
end Go.Proofs.Ytbbfjfmcmckdmaa
